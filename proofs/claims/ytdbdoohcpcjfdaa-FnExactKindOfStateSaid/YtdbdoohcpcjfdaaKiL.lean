/- The passages of a machine: 'passagesOf', 'nextOf', 'turns': the program. · 'passagesOf': the program. -/
import Derived.Test.YtdbdoohcpcjfdaaKdS
import Derived.Test.YtdbdoohcpcjfdaaBuildK
import Derived.Test.YtdbdoohcpcjfdaaStoreK
import Derived.BigQuiet
namespace Go.Proofs.Ytdbdoohcpcjfdaa
open Go.RowKit

/-- The cells: the machine, the table. -/
def psC (m : Mach) (T : Rl) : Array Value := mc m ++ bl (mtx T)
theorem psC_size {m : Mach} (hok : m.Ok) (T : Rl) : (psC m T).size = 354 := by
  unfold psC
  rw [Array.size_append, mc_size hok, bl_size, mtx_len]
theorem psC_mach {m : Mach} (hok : m.Ok) (T : Rl) (o : Nat) (ho : o < 98) : (psC m T)[o]? = (mc m)[o]? := by
  unfold psC
  rw [Array.getElem?_append_left (by rw [mc_size hok]; exact ho)]
theorem psC_at {m : Mach} (hok : m.Ok) (T : Rl) (p r : Nat) (hp : p < 16) (hr : r < 16) : (psC m T)[98 + p * 16 + r]? = some (.bool (T p r)) := by
  unfold psC
  rw [Array.getElem?_append_right (by rw [mc_size hok]; omega), mc_size hok, show 98 + p * 16 + r - 98 = p * 16 + r by omega]
  exact mtx_at T p r hp hr
theorem psC_cut {m : Mach} (hok : m.Ok) (T : Rl) : cut (psC m T) 0 98 = mc m := by
  apply Array.ext_getElem?
  intro i
  have hm := mc_size hok
  unfold cut
  simp only [List.drop_zero, List.getElem?_toArray, List.getElem?_take, Array.getElem?_toList]
  by_cases h : i < 98
  · rw [if_pos h, psC_mach hok T i h]
  · rw [if_neg h, Array.getElem?_eq_none (by omega)]
theorem psC_set {m : Mach} (hok : m.Ok) (T : Rl) (p r : Nat) (hp : p < 16) (hr : r < 16) (v : Bool) : (psC m T).setIfInBounds (98 + p * 16 + r) (.bool v) = psC m fun p' r' => if p' = p ∧ r' = r then v else T p' r' := by
  unfold psC
  rw [← mtx_set T p r hp hr v, bl_set]
  apply Array.ext_getElem?
  intro i
  have hm := mc_size hok
  rw [Array.getElem?_setIfInBounds]
  by_cases h : 98 + p * 16 + r = i
  · subst h
    rw [if_pos rfl, if_pos (by rw [Array.size_append, hm, bl_size, mtx_len]; omega), Array.getElem?_append_right (by omega), hm, Array.getElem?_setIfInBounds, if_pos (by omega), if_pos (by rw [bl_size, mtx_len]; omega)]
  · rw [if_neg h]
    by_cases h2 : i < 98
    · rw [Array.getElem?_append_left (by omega), Array.getElem?_append_left (by omega)]
    · rw [Array.getElem?_append_right (by omega), Array.getElem?_append_right (by omega), Array.getElem?_setIfInBounds, if_neg (by omega)]
theorem psC_congr (m : Mach) {T T' : Rl} (h : ∀ p r, T p r = T' p r) : psC m T = psC m T' := by
  have : T = T' := funext fun p => funext fun r => h p r
  rw [this]
theorem ps_fields : ∃ fields, Try.prog.underlying 107 = some (.struct fields) ∧ fields.toList.mapM (fun f => (Try.prog.info? f.type).map fun i => (f.offset, i.size)) = some [(0, 98), (98, 256)] := ⟨_, Try.underlying107, by kernel_rfl⟩
theorem ps_zero : (Try.prog.info? 107).map (fun i => i.zero.map fun z => z.cells) = some (some (mc zeroM ++ bl (mtx noT))) := by kernel_rfl
theorem info_ps : (Try.prog.info? 107).map (·.size) = some 354 := by kernel_rfl
set_option maxRecDepth 100000 in
theorem built_ps (m : Mach) (hok : m.Ok) : Try.prog.built 107 [(0, .agg (mc m))] = some (psC m noT) := by
  obtain ⟨fields, hu, hf⟩ := ps_fields
  have hz := ps_zero
  unfold Program.built
  cases hi : Try.prog.info? 107 with
  | none => rw [hi] at hz; cases hz
  | some it =>
    rw [hi] at hz
    simp only [Option.map_some, Option.some.injEq] at hz
    cases hit : it.zero with
    | none => rw [hit] at hz; cases hz
    | some z =>
      rw [hit] at hz
      simp only [Option.map_some, Option.some.injEq] at hz
      have hm := mc_size hok
      have hm0 := mc_size zeroM_ok
      have hn : (bl (mtx noT)).size = 256 := by rw [bl_size, mtx_len]
      simp only [hu, hf, hit]
      have hzs : z.cells.size = 354 := by rw [hz, Array.size_append, hm0, hn]
      rw [fill_part _ _ 0 0 98 (.agg (mc m)) _ (by rfl) hm (by omega), show (Value.agg (mc m)).cells = mc m from rfl, Instr.fill]
      refine congrArg some ?_
      apply Array.ext_getElem?
      intro i
      rw [over_get _ _ _ (by omega)]
      by_cases h1 : i < 98
      · rw [if_neg (by omega), if_pos (by omega), Nat.sub_zero, psC_mach hok noT i h1]
      · rw [if_neg (by omega), if_neg (by omega), hz]
        unfold psC
        rw [Array.getElem?_append_right (by omega), Array.getElem?_append_right (by omega), hm, hm0]

set_option maxRecDepth 100000 in
set_option maxHeartbeats 1000000 in
theorem nextOf_calls (m : Mach) (L K : Nat) (hg : Good m L K) (T : Rl) (g q : Nat) (hq : q < K) (w : World) (hB : Blk w g (psC m T) 107) :
    Calls Try.prog 84 #[.pointer (some ⟨g, 0, none⟩), .int .i64 (q : Int)] w fun e w' => e = .returned (.slice (some ⟨g, 2 + q * 3, none⟩) L 3) ∧ Below w.heap.size w w' := by
  have hok := hg.ok
  have hS16 := hg.S16
  have hL3 := hg.L3
  have hcL := (psC_mach hok T 0 (by omega)).trans (mc_L m)
  rw [hg.hL] at hcL
  have c0 := hB.cell 0
  rw [hcL] at c0
  have hq16 : (q : Int) < 16 := by omega
  have hL3i : (L : Int) ≤ 3 := by omega
  clear hcL hB
  go_enter Try.func84, Try.ntmps84
  go_wp2
  go_quiet (fail)
  go_wp2
  go_ret
  exact ⟨rfl, below_drewN' (Below.refl _ _) nq⟩

set_option maxRecDepth 100000 in
set_option maxHeartbeats 1000000 in
theorem turns_calls (m : Mach) (L K : Nat) (hg : Good m L K) (T : Rl) (g q : Nat) (hq : q < K) (w : World) (hB : Blk w g (psC m T) 107) :
    Calls Try.prog 85 #[.pointer (some ⟨g, 0, none⟩), .int .i64 (q : Int)] w fun e w' => e = .returned (.int .i64 ((tuM m L T q : Nat) : Int)) ∧ Below w.heap.size w w' := by
  have hok := hg.ok
  have hS16 := hg.S16
  have hL3 := hg.L3
  have hq16 : (q : Int) < 16 := by omega
  have HN := Lib.hid (nextOf_calls m L K hg T g q hq w hB)
  have Hg := Lib.hid hg
  have Hdb : Hid (tuM m L T q = cntB (fun x => T (nn m q x) q) L) := Lib.hid rfl
  have HC0 : Hid (cntB (fun x => T (nn m q x) q) 0 = 0) := Lib.hid rfl
  have Hle := Lib.hid (fun k => cntB_le (fun x => T (nn m q x) q) k)
  have Hy := Lib.hid (fun k h => cntB_yes (p := fun x => T (nn m q x) q) (k := k) h)
  have Hn := Lib.hid (fun k h => cntB_no (p := fun x => T (nn m q x) q) (k := k) h)
  rw [Hdb.out]
  generalize hcn : cntB (fun x => T (nn m q x) q) = cn at *
  clear hcn hg
  go_enter Try.func85, Try.ntmps85
  go_wp2_with (go_at_call 84; refine HN.out.mono ?_; rintro e w1 ⟨rfl, hb1⟩)
  have hB1 := hB.keptAll hb1
  go_loopw [5, 12] (fun c i wr => ∃ x : Nat, x ≤ L ∧ i = .int .i64 x ∧ c = .int .i64 ((cn x : Nat) : Int) ∧ wr = w1) (fun _ i _ => L - (intOf i).toNat)
  case atStart => exact ⟨0, by omega, rfl, by rw [HC0.out]; rfl, rfl⟩
  case round =>
    obtain ⟨x, hx, rfl, rfl, rfl⟩ := hrel
    have hcl := Hle.out x
    have cA := hB1.cell
    by_cases hxL : x < L
    · have hxi : (x : Int) < (L : Int) := by omega
      have hx3 : x < 3 := by omega
      have hn := (psC_mach hok T (2 + q * 3 + x) (by omega)).trans (mc_n hok q x (by omega) hx3)
      rw [Hg.out.nn_eq q x hq hxL] at hn
      have hnl := Hg.out.nn_lt q x hq hxL
      have e1 := psC_at hok T (nn m q x) q (by omega) (by omega)
      have Hyx := Lib.hid (Hy.out x)
      have Hnx := Lib.hid (Hn.out x)
      cases ht : T (nn m q x) q
      · rw [ht] at e1
        have Hs := Lib.hid (Hnx.out ht)
        clear ht
        generalize nn m q x = ni at *
        have hni16 : (ni : Int) < 16 := by omega
        generalize cn x = c at *
        go_wp2
        go_roundw
        case rel => exact ⟨x + 1, by omega, by go_num, by rw [Hs.out], trivial⟩
        case measure => simp [intOf] <;> omega
      · rw [ht] at e1
        have Hs := Lib.hid (Hyx.out ht)
        clear ht
        generalize nn m q x = ni at *
        have hni16 : (ni : Int) < 16 := by omega
        generalize cn x = c at *
        go_wp2
        go_roundw
        case rel => exact ⟨x + 1, by omega, by go_num, by rw [Hs.out]; go_num, trivial⟩
        case measure => simp [intOf] <;> omega
    · obtain rfl : x = L := by omega
      go_wp2
      go_ret
      exact ⟨rfl, hb1⟩
end Go.Proofs.Ytdbdoohcpcjfdaa

namespace Go.Proofs.Ytdbdoohcpcjfdaa
open Go.RowKit

set_option maxRecDepth 100000 in
set_option maxHeartbeats 8000000 in
theorem passagesOf_calls (m : Mach) (L K : Nat) (hg : Good m L K) (w : World) :
    Calls Try.prog 74 #[.agg (mc m)] w fun e w' => e = .returned (.pointer (some ⟨w.heap.size + 1, 0, none⟩)) ∧ Blk w' (w.heap.size + 1) (psC m (rA m L K)) 107 ∧ Below w.heap.size w w' := by
  have hok := hg.ok
  have hS16 := hg.S16
  have hL3 := hg.L3
  have hcS := mc_S m
  rw [hg.hS] at hcS
  have HcS := Lib.hid hcS
  have F1 : Hid (cut (mc m) 0 98 = mc m) := Lib.hid (cut_all _ _ (mc_size hok))
  have F2 : Hid (0 + 98 ≤ (mc m).size) := Lib.hid (by rw [mc_size hok]; omega)
  have HB := Lib.hid (built_ps m hok)
  have H0 : Hid (psC m noT = psC m (eP m L okA 0 0)) := Lib.hid (by rw [eP_start]; rfl)
  have Hg := Lib.hid hg
  have Hfin : Hid (rA m L K = wsh (eP m L okA K 0) K) := Lib.hid rfl
  have Hinn := Lib.hid (fun b => (eP_inn hg okA K 0 (.inr ⟨rfl, rfl⟩) (Nat.zero_le _)).wsh b)
  have Hnx := Lib.hid (fun T q hq W hB => nextOf_calls m L K hg T (w.heap.size + 1) q hq W hB)
  have hM0 : Blk (w.alloc (.cells (mc m) 28)) w.heap.size (mc m) 28 := Blk.new w _ _
  have hM1 := hM0.alloc (.cells (psC m noT) 107)
  have hP1 : Blk ((w.alloc (.cells (mc m) 28)).alloc (.cells (psC m noT) 107)) (w.heap.size + 1) (psC m noT) 107 := Blk.new_at _ _ _ _ (by simp)
  have hbw1 : Below w.heap.size w ((w.alloc (.cells (mc m) 28)).alloc (.cells (psC m noT) 107)) := by (repeat (first | exact Below.refl _ _ | refine below_drew' ?_ | refine below_drewN' ?_ _ | refine below_alloc' ?_ _ | refine below_set' ?_ (by (try simp); (try omega)) _ | refine below_step ?_ (by assumption)))
  have cS1 := hM1.cell 1
  rw [HcS.out] at cS1
  rw [H0.out] at hP1
  clear hg hcS
  go_enter Try.func74, Try.ntmps74
  go_wp2_with (first | (with_reducible show wpList _ _ _ _ _ _; refine wpList_load_blk rfl 28 (.tmp 1) rfl w.heap.size 0 rfl (mc m) _ hM0 98 F2.out _ Try.underlying28 rfl size_mach ?_; rw [F1.out]) | (with_reducible show wpList _ _ _ _ _ _; refine wpList_build1 rfl 107 0 _ rfl (.agg (mc m)) rfl (psC m noT) HB.out ?_))
  clear cS1
  go_loopw [15] (fun i wr => ∃ q : Nat, q ≤ K ∧ i = .int .i64 q ∧ (Blk wr w.heap.size (mc m) 28 ∧ Blk wr (w.heap.size + 1) (psC m (eP m L okA q 0)) 107) ∧ Below w.heap.size w wr) (fun i _ => K - (intOf i).toNat)
  case atStart => exact ⟨0, by omega, rfl, ⟨hM1, hP1⟩, hbw1⟩
  case round =>
    clear hM1 hP1 hbw1
    obtain ⟨q, hq, rfl, ⟨hM, hP⟩, hbw⟩ := hrel
    by_cases hqK : q < K
    · have hqi : (q : Int) < (K : Int) := by omega
      have hq16 : (q : Int) < 16 := by omega
      have HN := Lib.hid (Hnx.out _ q hqK wr hP)
      go_wp2_with (go_at_call 84; refine HN.out.mono ?_; rintro e w1 ⟨rfl, hb1⟩)
      have hM2 := hM.keptAll hb1
      have hP2 := hP.keptAll hb1
      have hbw2 := below_step hbw hb1
      clear hM hP hbw hb1 HN
      go_loopw [22] (fun i wr => ∃ x : Nat, x ≤ L ∧ i = .int .i64 x ∧ (Blk wr w.heap.size (mc m) 28 ∧ Blk wr (w.heap.size + 1) (psC m (eP m L okA q x)) 107) ∧ Below w.heap.size w wr) (fun i _ => L - (intOf i).toNat)
      case atStart => exact ⟨0, by omega, rfl, ⟨hM2, hP2⟩, hbw2⟩
      case round =>
        clear hM2 hP2 hbw2
        obtain ⟨x, hx, rfl, ⟨hM, hP⟩, hbw⟩ := hrel
        by_cases hxL : x < L
        · have hxi : (x : Int) < (L : Int) := by omega
          have hx3 : x < 3 := by omega
          have cn := hP.cell (2 + q * 3 + x)
          rw [(psC_mach hok _ (2 + q * 3 + x) (by omega)).trans (mc_n hok q x (by omega) hx3), Hg.out.nn_eq q x hqK hxL] at cn
          have hnl := Hg.out.nn_lt q x hqK hxL
          have ct := hP.cell (98 + q * 16 + nn m q x)
          rw [psC_at hok _ q (nn m q x) (by omega) (by omega)] at ct
          have Hst := Lib.hid (psC_set hok (eP m L okA q x) q (nn m q x) (by omega) (by omega) true)
          have Hsn : Hid ((psC m (eP m L okA q x)).setIfInBounds (98 + q * 16 + nn m q x) (.bool true) = psC m (eP m L okA q (x + 1))) := Lib.hid (by
            rw [Hst.out, eP_next]
            exact psC_congr m fun p r => by split <;> simp [okA])
          clear Hst
          generalize eP m L okA q x q (nn m q x) = old at *
          have fT := hP.free
          have hP1 := hP.set (98 + q * 16 + nn m q x) (.bool true)
          rw [Hsn.out] at hP1
          have hM1 := hM.setOther (w.heap.size + 1) (98 + q * 16 + nn m q x) (.bool true) (by omega)
          have hbw1 := below_set' (o := 98 + q * 16 + nn m q x) hbw (b := w.heap.size + 1) (by omega) (.bool true)
          clear hM hP hbw Hsn
          generalize nn m q x = ni at *
          have hni16 : (ni : Int) < 16 := by omega
          go_wp2
          go_roundw
          case rel => exact ⟨x + 1, by omega, by go_num, ⟨hM1, hP1⟩, hbw1⟩
          case measure => simp [intOf] <;> omega
        · have hxe : x = L := by omega
          have hxn : ¬ ((x : Int) < (L : Int)) := by omega
          rw [hxe, eP_row] at hP
          clear hxe
          go_wp2
          go_roundw
          case rel => exact ⟨q + 1, by omega, by go_num, ⟨hM, hP⟩, hbw⟩
          case measure => simp [intOf] <;> omega
    · have hqn : ¬ ((q : Int) < (K : Int)) := by omega
      have hqe : q = K := by omega
      have cS := hM.cell 1
      rw [HcS.out] at cS
      rw [hqe, show eP m L okA K 0 = wsh (eP m L okA K 0) 0 from rfl] at hP
      clear hqe
      go_wp2
      clear cS
      go_loopw [37] (fun i wr => ∃ b : Nat, b ≤ K ∧ i = .int .i64 b ∧ (Blk wr w.heap.size (mc m) 28 ∧ Blk wr (w.heap.size + 1) (psC m (wsh (eP m L okA K 0) b)) 107) ∧ Below w.heap.size w wr) (fun i _ => K - (intOf i).toNat)
      case atStart => exact ⟨0, by omega, rfl, ⟨hM, hP⟩, hbw⟩
      case round =>
        clear hM hP hbw
        obtain ⟨b, hb, rfl, ⟨hM, hP⟩, hbw⟩ := hrel
        by_cases hbK : b < K
        · have hbi : (b : Int) < (K : Int) := by omega
          have hb16 : (b : Int) < 16 := by omega
          have cS := hM.cell 1
          rw [HcS.out] at cS
          have Hend := Lib.hid (wsM_end (Hinn.out b) b)
          have Hrow := Lib.hid (fun i => wsM_rowEnd (Hinn.out b) b i)
          have Hs : Hid (wsR (wsh (eP m L okA K 0) b) b = wsh (eP m L okA K 0) (b + 1)) := Lib.hid rfl
          rw [← wsM_start (wsh (eP m L okA K 0) b) b] at hP
          generalize wsh (eP m L okA K 0) b = T0 at *
          go_wp2
          clear cS
          go_loopw [42] (fun i wr => ∃ p : Nat, p ≤ K ∧ i = .int .i64 p ∧ (Blk wr w.heap.size (mc m) 28 ∧ Blk wr (w.heap.size + 1) (psC m (wsM T0 b p 0)) 107) ∧ Below w.heap.size w wr) (fun i _ => K - (intOf i).toNat)
          case atStart => exact ⟨0, by omega, rfl, ⟨hM, hP⟩, hbw⟩
          case round =>
            clear hM hP hbw
            obtain ⟨p, hp, rfl, ⟨hM, hP⟩, hbw⟩ := hrel
            by_cases hpK : p < K
            · have hpi : (p : Int) < (K : Int) := by omega
              have hp16 : (p : Int) < 16 := by omega
              have cS := hM.cell 1
              rw [HcS.out] at cS
              go_wp2
              clear cS
              go_loopw [47] (fun i wr => ∃ j : Nat, j ≤ K ∧ i = .int .i64 j ∧ (Blk wr w.heap.size (mc m) 28 ∧ Blk wr (w.heap.size + 1) (psC m (wsM T0 b p j)) 107) ∧ Below w.heap.size w wr) (fun i _ => K - (intOf i).toNat)
              case atStart => exact ⟨0, by omega, rfl, ⟨hM, hP⟩, hbw⟩
              case round =>
                clear hM hP hbw
                obtain ⟨j, hj, rfl, ⟨hM, hP⟩, hbw⟩ := hrel
                by_cases hjK : j < K
                · have hji : (j : Int) < (K : Int) := by omega
                  have hj16 : (j : Int) < 16 := by omega
                  have c1 := hP.cell (98 + p * 16 + j)
                  rw [psC_at hok _ p j (by omega) (by omega)] at c1
                  have c2 := hP.cell (98 + p * 16 + b)
                  rw [psC_at hok _ p b (by omega) (by omega)] at c2
                  have c3 := hP.cell (98 + b * 16 + j)
                  rw [psC_at hok _ b j (by omega) (by omega)] at c3
                  have hval := wsM_val T0 b p j
                  have Hset := Lib.hid (fun v (hv : v = wsR T0 b p j) => show (psC m (wsM T0 b p j)).setIfInBounds (98 + p * 16 + j) (.bool v) = psC m (wsM T0 b p (j + 1)) from by rw [psC_set hok _ _ _ (by omega) (by omega), wsM_next, hv])
                  have Hsame := Lib.hid (fun (hv : wsM T0 b p j p j = wsR T0 b p j) => show psC m (wsM T0 b p j) = psC m (wsM T0 b p (j + 1)) from by
                    rw [wsM_next]
                    exact psC_congr m fun p' r' => by
                      by_cases h : p' = p ∧ r' = j
                      · obtain ⟨rfl, rfl⟩ := h
                        rw [if_pos ⟨rfl, rfl⟩]; exact hv
                      · rw [if_neg h])
                  generalize wsM T0 b p j p j = va at *
                  generalize wsM T0 b p j p b = vb at *
                  generalize wsM T0 b p j b j = vc at *
                  cases vb
                  · have Hs2 := Lib.hid (Hsame.out (by simpa using hval))
                    clear hval Hset Hsame c1 c3
                    go_wp2
                    go_roundw
                    case rel => exact ⟨j + 1, by omega, by go_num, ⟨hM, by rw [← Hs2.out]; exact hP⟩, hbw⟩
                    case measure => simp [intOf] <;> omega
                  · cases vc
                    · have Hs2 := Lib.hid (Hsame.out (by simpa using hval))
                      clear hval Hset Hsame c1
                      go_wp2
                      go_roundw
                      case rel => exact ⟨j + 1, by omega, by go_num, ⟨hM, by rw [← Hs2.out]; exact hP⟩, hbw⟩
                      case measure => simp [intOf] <;> omega
                    · have Hs2 := Lib.hid (Hset.out true (by simpa using hval))
                      clear hval Hset Hsame
                      have fP := hP.free
                      have hP1 := hP.set (98 + p * 16 + j) (.bool true)
                      rw [Hs2.out] at hP1
                      have hM1 := hM.setOther (w.heap.size + 1) (98 + p * 16 + j) (.bool true) (by omega)
                      have hbw1 := below_set' (o := 98 + p * 16 + j) hbw (b := w.heap.size + 1) (by omega) (.bool true)
                      clear hM hP hbw
                      go_wp2
                      go_roundw
                      case rel => exact ⟨j + 1, by omega, by go_num, ⟨hM1, hP1⟩, hbw1⟩
                      case measure => simp [intOf] <;> omega
                · have hjn : ¬ ((j : Int) < (K : Int)) := by omega
                  have hje : j = K := by omega
                  rw [hje, Hrow.out p] at hP
                  clear hje
                  go_wp2
                  go_roundw
                  case rel => exact ⟨p + 1, by omega, by go_num, ⟨hM, hP⟩, hbw⟩
                  case measure => simp [intOf] <;> omega
            · have hpn : ¬ ((p : Int) < (K : Int)) := by omega
              have hpe : p = K := by omega
              rw [hpe, Hend.out, Hs.out] at hP
              clear hpe
              go_wp2
              go_roundw
              case rel => exact ⟨b + 1, by omega, by go_num, ⟨hM, hP⟩, hbw⟩
              case measure => simp [intOf] <;> omega
        · have hbn : ¬ ((b : Int) < (K : Int)) := by omega
          have hbe : b = K := by omega
          rw [hbe, ← Hfin.out] at hP
          clear hbe
          go_wp2
          go_ret
          exact ⟨rfl, hP, hbw⟩
end Go.Proofs.Ytdbdoohcpcjfdaa
