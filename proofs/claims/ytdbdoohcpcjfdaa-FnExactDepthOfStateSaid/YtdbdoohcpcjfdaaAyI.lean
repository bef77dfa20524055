/- 'lengthened', 'ActivityCounts': the program. -/
import Derived.Test.YtdbdoohcpcjfdaaAyD
import Derived.Test.YtdbdoohcpcjfdaaNorW
import Derived.Test.YtdbdoohcpcjfdaaLawB
import Derived.Test.YtdbdoohcpcjfdaaTriP
import Derived.Test.YtdbdoohcpcjfdaaBls
import Derived.Test.YtdbdoohcpcjfdaaLedW
import Derived.BigQuiet
namespace Go.Proofs.Ytdbdoohcpcjfdaa
open Go.RowKit

set_option maxRecDepth 100000 in
set_option maxHeartbeats 2000000 in
theorem lengthened_calls (M : Mach) (L S : Nat) (hg : Good M L S) (t : Nat) (ht : t ≤ 20) (w : World) :
    Calls Try.prog 40 #[.agg (mc M), .agg (ints (acL M L S t))] w fun e w' => e = .returned (.agg (ints (acL M L S (t + 1)))) ∧ Below w.heap.size w w' := by
  have hok := hg.ok
  have hS16 := hg.S16
  have hL3 := hg.L3
  have hcL := mc_L M
  have hcS := mc_S M
  rw [hg.hL] at hcL
  rw [hg.hS] at hcS
  have hz16 := zero_i16
  have Hz16 : Hid ((ints zer).size = 16) := Lib.hid (by rw [ints_size]; rfl)
  let W0 := (((w.alloc (.cells (mc M) 28)).alloc (.cells (ints (acL M L S t)) 54)).alloc (.cells (ints zer) 54)).alloc (.cells (ints zer) 54)
  have hB1 : Blk W0 w.heap.size (mc M) 28 := (((Blk.new w _ _).alloc _).alloc _).alloc _
  have hA1 : Blk W0 (w.heap.size + 1) (ints (acL M L S t)) 54 := ((Blk.new_at _ _ _ _ (by simp)).alloc _).alloc _
  have hR1 : Blk W0 (w.heap.size + 1 + 1) (ints zer) 54 := (Blk.new_at _ _ _ _ (by simp)).alloc _
  have hC1 : Blk W0 (w.heap.size + 1 + 1 + 1) (ints (ayL M L S t 0 0)) 54 := by rw [ayL_zero]; exact Blk.new_at _ _ _ _ (by simp)
  have hbel0 : Below w.heap.size w W0 := by show Below _ _ (World.alloc _ _); (repeat (first | exact Below.refl _ _ | refine below_drew' ?_ | refine below_drewN' ?_ _ | refine below_alloc' ?_ _ | refine below_set' ?_ (by (try simp); (try omega)) _ | refine below_step ?_ (by assumption)))
  have Hg := Lib.hid hg
  have HaL := Lib.hid (fun p => act_le (M := M) (L := L) (S := S) hL3 t p)
  have HyL := Lib.hid (fun q x (hx : x ≤ L) p => ayAt_le (M := M) (L := L) (S := S) (t := t) (q := q) hL3 hx p)
  have hp1 := pow3_le t (by omega)
  have hp2 := pow3_le (t + 1) (by omega)
  have Hp1 := Lib.hid hp1
  have Hp2 := Lib.hid hp2
  have cS1 := hB1.cell 1
  rw [hcS] at cS1
  clear hg hp1 hp2
  go_enter Try.func40, Try.ntmps40
  go_wp2
  clear cS1
  go_loopw [11] (fun i wr => ∃ q : Nat, q ≤ S ∧ i = .int .i64 q ∧ (Blk wr w.heap.size (mc M) 28 ∧ Blk wr (w.heap.size + 1) (ints (acL M L S t)) 54 ∧ Blk wr (w.heap.size + 1 + 1) (ints zer) 54 ∧ Blk wr (w.heap.size + 1 + 1 + 1) (ints (ayL M L S t q 0)) 54) ∧ Below w.heap.size w wr) (fun i _ => S - (intOf i).toNat)
  case atStart => exact ⟨0, by omega, rfl, ⟨hB1, hA1, hR1, hC1⟩, hbel0⟩
  case round =>
    clear hB1 hA1 hR1 hC1 hbel0
    obtain ⟨q, hq, rfl, ⟨hB, hA, hR, hC⟩, hbw⟩ := hrel
    by_cases hlt : q < S
    · have hqi : (q : Int) < 16 := by omega
      have hqS : (q : Int) < (S : Int) := by omega
      have hq16 : q < 16 := by omega
      have cA := hB.cell
      have hL3i : (L : Int) ≤ 3 := by omega
      go_wp2
      go_quiet (fail)
      clear cA
      have hbd : Below wr.heap.size wr (wr.drewN nq) := below_drewN' (Below.refl _ _) nq
      have hB1 := hB.keptAll hbd
      have hA1 := hA.keptAll hbd
      have hR1 := hR.keptAll hbd
      have hC1 := hC.keptAll hbd
      have hbw1 := below_step hbw hbd
      clear hB hA hR hC hbw hbd
      go_wp2
      go_loopw [21] (fun i wr => ∃ x : Nat, x ≤ L ∧ i = .int .i64 x ∧ (Blk wr w.heap.size (mc M) 28 ∧ Blk wr (w.heap.size + 1) (ints (acL M L S t)) 54 ∧ Blk wr (w.heap.size + 1 + 1) (ints zer) 54 ∧ Blk wr (w.heap.size + 1 + 1 + 1) (ints (ayL M L S t q x)) 54) ∧ Below w.heap.size w wr) (fun i _ => L - (intOf i).toNat)
      case atStart => exact ⟨0, by omega, rfl, ⟨hB1, hA1, hR1, hC1⟩, hbw1⟩
      case round =>
        clear hB1 hA1 hR1 hC1 hbw1
        obtain ⟨x, hx, rfl, ⟨hB, hA, hR, hC⟩, hbw⟩ := hrel
        have cA := hB.cell
        by_cases hxL : x < L
        · have hxi : (x : Int) < (L : Int) := by omega
          have hx3 : x < 3 := by omega
          have hn := mc_n hok q x hq16 hx3
          rw [Hg.out.nn_eq q x hlt hxL] at hn
          have hnl := Hg.out.nn_lt q x hlt hxL
          have Hset := Lib.hid (fun v hv => ayL_set M L S t q x v hv)
          have e0 := ints_at (ayL M L S t q x) q (by rw [ayL_len]; omega)
          rw [ayL_at M L S t q x q hq16] at e0
          have e1 := ints_at (acL M L S t) (nn M q x) (by rw [acL_len]; omega)
          rw [acL_at M L S t _ (by omega)] at e1
          have b0 := HyL.out q x hx q
          have b1 := HaL.out (nn M q x)
          have b2 := Hp1.out
          have b3 := Hp2.out
          have hya : (ayAt M L S t q x q : Int) ≤ 10460353203 := by omega
          have hac : (act M L S t (nn M q x) : Int) ≤ 10460353203 := by omega
          clear b0 b1 b2 b3
          generalize ayAt M L S t q x q = ya at *
          generalize act M L S t (nn M q x) = ac at *
          generalize nn M q x = ni at *
          have hni16 : (ni : Int) < 16 := by omega
          have cC := hC.cell q
          rw [e0] at cC
          have fC := hC.free
          have cD := hA.cell ni
          rw [e1] at cD
          have hC2 := (hC.set q (.int .i64 ((ya : Int) + (ac : Int)))).drew
          rw [← ints_set, Hset.out _ rfl] at hC2
          have hB2 := (hB.setOther (w.heap.size + 1 + 1 + 1) q (.int .i64 ((ya : Int) + (ac : Int))) (by omega)).drew
          have hA2 := (hA.setOther (w.heap.size + 1 + 1 + 1) q (.int .i64 ((ya : Int) + (ac : Int))) (by omega)).drew
          have hR2 := (hR.setOther (w.heap.size + 1 + 1 + 1) q (.int .i64 ((ya : Int) + (ac : Int))) (by omega)).drew
          have hbw2 := (below_set' (o := q) hbw (b := w.heap.size + 1 + 1 + 1) (by omega) (.int .i64 ((ya : Int) + (ac : Int)))).drew
          go_wp2
          go_region
          all_goals
            go_wp2
            go_roundw
            case rel => exact ⟨x + 1, by omega, by go_num, ⟨hB2, hA2, hR2, hC2⟩, hbw2⟩
            case measure => simp [intOf] <;> omega
        · obtain rfl : x = L := by omega
          rw [ayL_row M x S t q hlt] at hC
          go_wp2
          go_roundw
          case rel => exact ⟨q + 1, by omega, by go_num, ⟨hB, hA, hR, hC⟩, hbw⟩
          case measure => simp [intOf] <;> omega
    · obtain rfl : q = S := by omega
      rw [ayL_done] at hC
      have Hcs : Hid ((ints (acL M L q (t + 1))).size = 16) := Lib.hid (by rw [ints_size, acL_len])
      have Hcc : Hid (cut (ints (acL M L q (t + 1))) 0 16 = ints (acL M L q (t + 1))) := Lib.hid (cut_all _ _ Hcs.out)
      have Hov : Hid (over (ints zer) 0 (ints (acL M L q (t + 1))) = ints (acL M L q (t + 1))) := Lib.hid (over_all _ _ (by rw [Hcs.out, Hz16.out]))
      go_wp2_with (first | (with_reducible show wpList _ _ _ _ _ _; refine wpList_load_blk rfl 54 (.tmp 5) rfl (w.heap.size + 1 + 1 + 1) 0 rfl (ints (acL M L q (t + 1))) _ hC 16 (by rw [Hcs.out]; omega) _ Try.underlying54 rfl size_i16 ?_; rw [Hcc.out]) | (with_reducible show wpList _ _ _ _ _ _; refine wpList_store_row rfl 54 (.tmp 4) (.tmp 35) rfl (w.heap.size + 1 + 1) 0 (ints (acL M L q (t + 1))) rfl rfl _ _ hR (by rw [Hz16.out, Hcs.out]; omega) (by rw [Hcs.out]; exact size_i16) (ints_one _) _ Hov.out ?_; intro w8 hs8))
      exact bodyPost_cell rfl rfl hs8.blk Try.underlying54 rfl (by rw [Hcs.out]; exact size_i16) rfl ⟨rfl, hs8.below _ _ (by omega) hbw⟩

theorem index_i16 (c : List Int) (k : Nat) (hk : k < 16) (hl : c.length = 16) (W : World) : (Instr.index 54 (.agg (ints c)) (.int .i64 (k : Int))).run Try.prog W = .ok (.int .i64 (c.getD k 0)) W := by
  have h : Try.prog.underlying 54 = some (.array 16 2) := Try.underlying54
  have e1 := ints_at c k (by omega)
  simp [Instr.index, run_underlying h, asIntOf, hk, go_sem]
  rw [e1]
  simp
theorem nrm_ne' (M : Mach) (L S q : Nat) : (nrm M L S q != 0) = !trivB M L S q := by
  unfold nrm
  cases trivB M L S q
  · simp; omega
  · simp
theorem nrmP_act (M : Mach) (L S k : Nat) (hS : S ≤ 16) : ((nrmP M L S S).getD k 0 != 0) = decide (act M L S 0 k = 1) ∧ (act M L S 0 k = 0 ∨ act M L S 0 k = 1) := by
  by_cases hk : k < S
  · rw [nrmP_at M L S S k hk hS, nrm_ne']
    unfold act
    cases trivB M L S k
    · rw [if_pos ⟨hk, rfl⟩]; simp
    · rw [if_neg (by simp)]; simp
  · rw [act_out 0 k hk]
    have : (nrmP M L S S).getD k 0 = 0 := by
      unfold nrmP
      rw [List.getD]
      cases h : ((List.range 16).map fun q => if q < S then nrm M L S q else 0)[k]? with
      | none => rfl
      | some z =>
        obtain ⟨h1, h2⟩ := List.getElem?_eq_some_iff.1 h
        simp only [List.getElem_map, List.getElem_range] at h2
        rw [if_neg hk] at h2
        rw [← h2]; rfl
    rw [this]; simp
theorem ayC_good {M : Mach} {q n : Int} (hok : M.Ok) (h : ayC M q n = 0) : ∃ (L S qn nn : Nat), Good M L S ∧ q = (qn : Int) ∧ qn < S ∧ n = (nn : Int) ∧ nn ≤ 20 := by
  unfold ayC at h
  split at h
  · cases h
  · rename_i h1
    split at h
    · rename_i h2
      have hm : isMach M = true := by cases hh : isMach M <;> simp_all
      obtain ⟨L, S, hg⟩ := Good.of hok hm
      obtain ⟨qn, rfl⟩ := Int.eq_ofNat_of_zero_le h2.1.1
      obtain ⟨nn, rfl⟩ := Int.eq_ofNat_of_zero_le h2.2.1
      have := hg.hS
      exact ⟨L, S, qn, nn, hg, rfl, by omega, rfl, by omega⟩
    · cases h
theorem ayR_good {M : Mach} {L S qn nn : Nat} (hg : Good M L S) (h : ayC M qn nn = 0) : ayR M qn nn = ayK M L S qn (nn + 1) := by
  unfold ayR
  rw [if_pos h, hg.hL, hg.hS]
  rfl
theorem ayR_len (M : Mach) (q n : Int) : (ayR M q n).length ≤ 1048576 := by
  unfold ayR
  split
  · rename_i h
    unfold ayC at h
    split at h
    · cases h
    · split at h
      · rename_i h2; rw [ayK_len]; omega
      · cases h
  · simp

set_option maxRecDepth 100000 in
set_option maxHeartbeats 4000000 in
theorem iActivityCounts_calls (M : Mach) (hok : M.Ok) (q n : Int) (w : World) :
    Calls Try.prog 14 #[.agg (mc M), .int .i64 q, .int .i64 n] w fun e w' => ∃ v, e = .returned (.tuple #[v, .int .i64 (ayC M q n)]) ∧ OwnI w' w.heap.size v (ayR M q n) ∧ Below w.heap.size w w' := by
  have F1 : Hid (cut (mc M) 0 98 = mc M) := Lib.hid (cut_all _ _ (mc_size hok)); have F2 : Hid (0 + 98 ≤ (mc M).size) := Lib.hid (by rw [mc_size hok]; omega)
  have hB : Blk (w.alloc (.cells (mc M) 28)) w.heap.size (mc M) 28 := Blk.new w _ _
  have hbw0 : Below w.heap.size w (w.alloc (.cells (mc M) 28)) := by (repeat (first | exact Below.refl _ _ | refine below_drew' ?_ | refine below_drewN' ?_ _ | refine below_alloc' ?_ _ | refine below_set' ?_ (by (try simp); (try omega)) _ | refine below_step ?_ (by assumption)))
  have HI := Lib.hid (fun W => IsMachine_calls M hok W)
  have HQ := Lib.hid (fun W => isState_calls M q W)
  cases hm : isMach M
  · have Hc : Hid (ayC M q n = 1) := Lib.hid (by unfold ayC; rw [if_pos hm])
    have Hr : Hid (ayR M q n = []) := Lib.hid (by unfold ayR; rw [Hc.out]; rfl)
    rw [hm] at HI
    rw [Hr.out]
    go_enter Try.func14, Try.ntmps14
    go_wp2_with (first | (with_reducible show wpList _ _ _ _ _ _; refine wpList_load_blk rfl 28 (.tmp 3) rfl w.heap.size 0 rfl (mc M) _ (hB) 98 F2.out _ Try.underlying28 rfl size_mach ?_; rw [F1.out]) | (go_at_call 37; refine (HI.out _).mono ?_; rintro e w1 ⟨rfl, hb1⟩))
    go_ret2
    exact ⟨_, ret_li' Hc.out.symm, OwnI.nil _ _, below_step hbw0 hb1⟩
  · rw [hm] at HI
    by_cases hc : ayC M q n = 0
    · obtain ⟨L, S, qn, nn, hg, rfl, hq, rfl, hn⟩ := ayC_good hok hc
      have Hc := Lib.hid hc
      have Hr := Lib.hid (ayR_good hg hc)
      have hS16 := hg.S16
      rw [show decide (0 ≤ (qn : Int) ∧ (qn : Int) < M.S) = true by rw [hg.hS]; simpa using hq] at HQ
      have HN := Lib.hid (normalNumbers_calls M L S hg)
      have HL := Lib.hid (fun t ht W => lengthened_calls M L S hg t ht W)
      have Hn0 := Lib.hid (fun k => nrmP_act M L S k hS16)
      have HaL := Lib.hid (fun t p => act_le (M := M) (L := L) (S := S) hg.L3 t p)
      have Hnl := Lib.hid (nrmP_len M L S S)
      have hz16 := zero_i16
      have Hz16 : Hid ((ints zer).size = 16) := Lib.hid (by rw [ints_size]; rfl)
      have hnd1 : decide ((nn : Int) < 0) = false := by simp
      have hnd2 : decide (20 < (nn : Int)) = false := by simp; omega
      have hq16 : (qn : Int) < 16 := by omega
      rw [Hr.out]
      clear hc hm hg
      generalize nrmP M L S S = nr at *
      go_enter Try.func14, Try.ntmps14
      go_wp2_with (first | (with_reducible show wpList _ _ _ _ _ _; refine wpList_load_blk rfl 28 (.tmp 3) rfl w.heap.size 0 rfl (mc M) _ (by first | exact hB2x | exact hB1 | exact hB) 98 F2.out _ Try.underlying28 rfl size_mach ?_; rw [F1.out]) | (go_at_call 37; refine (HI.out _).mono ?_; rintro e w1 ⟨rfl, hb1⟩; have hB1 := hB.keptAll hb1) | (go_at_call 38; refine (HQ.out _).mono ?_; rintro e w2 ⟨rfl, hb2⟩; have hB2 := hB1.keptAll hb2; have hB2x := hB2.alloc (.cells (ints zer) 54); have hX2 : Blk (w2.alloc (.cells (ints zer) 54)) w2.heap.size (ints (a0L M L S 0)) 54 := by (rw [a0L_zero]; exact Blk.new _ _ _)) | (go_at_call 39; refine (HN.out _).mono ?_; rintro e w3 ⟨rfl, hb3⟩; have hB3 := hB2x.keptAll hb3; have hX3 := hX2.keptAll hb3))
      have hbw3 := below_step (below_alloc' (below_step (below_step hbw0 hb1) hb2) (.cells (ints zer) 54)) hb3
      have hge := (below_step (below_step hbw0 hb1) hb2).size
      have hlt0 := hB2.lt
      clear hB hB1 hB2 hB2x hX2 hb1 hb2 hb3 hbw0
      generalize w2.heap.size = b0 at *
      go_loopw [29] (fun i wr => ∃ k : Nat, k ≤ 16 ∧ i = .int .i64 k ∧ (Blk wr w.heap.size (mc M) 28 ∧ Blk wr b0 (ints (a0L M L S k)) 54) ∧ Below w.heap.size w wr) (fun i _ => 16 - (intOf i).toNat)
      case atStart => exact ⟨0, by omega, rfl, ⟨hB3, hX3⟩, hbw3⟩
      case round =>
        clear hB3 hX3 hbw3
        obtain ⟨k, hk, rfl, ⟨hB, hX⟩, hbw⟩ := hrel
        by_cases hlt : k < 16
        · have hki : (k : Int) < 16 := by omega
          have hix := index_i16 nr k hlt Hnl.out
          obtain ⟨hne, h01⟩ := Hn0.out k
          generalize nr.getD k 0 = z at *
          by_cases h1 : act M L S 0 k = 1
          · have Hset := Lib.hid (a0L_set M L S k h1)
            have hzb : (z != 0) = true := by rw [hne, h1]; rfl
            have cX := hX.cell k
            have e2 := ints_at (a0L M L S k) k (by rw [a0L_len]; exact hlt)
            rw [e2] at cX
            generalize (a0L M L S k).getD k 0 = old at *
            have fX := hX.free
            have hX1 := hX.set k (.int .i64 1)
            rw [← ints_set, Hset.out] at hX1
            have hB1 := hB.setOther b0 k (.int .i64 1) (by omega)
            have hbw1 := below_set' (o := k) hbw (b := b0) (by omega) (.int .i64 1)
            clear hne h1 h01 Hset e2
            go_wp2
            go_roundw
            case rel => exact ⟨k + 1, by omega, by go_num, ⟨hB1, hX1⟩, hbw1⟩
            case measure => simp [intOf] <;> omega
          · have h0 : act M L S 0 k = 0 := by omega
            have Hset := Lib.hid (a0L_same M L S k h0)
            have hzb : (z != 0) = false := by rw [hne, h0]; rfl
            clear hne h1 h01 h0
            go_wp2
            go_roundw
            case rel => exact ⟨k + 1, by omega, by go_num, ⟨hB, by rw [Hset.out]; exact hX⟩, hbw⟩
            case measure => simp [intOf] <;> omega
        · have hk16 : k = 16 := by omega
          have hkn : ¬ ((k : Int) < 16) := by omega
          rw [hk16, a0L_all] at hX
          clear hk16
          have cX := hX.cell qn
          have e1 := ints_at (acL M L S 0) qn (by rw [acL_len]; omega)
          rw [acL_at M L S 0 qn (by omega)] at e1
          rw [e1] at cX
          have hE : Blk (wr.alloc (.cells #[.int .i64 (act M L S 0 qn : Int)] 2)) wr.heap.size (ints (ayK M L S qn 1)) 2 := Blk.new _ _ _
          have hO : OwnI (wr.alloc (.cells #[.int .i64 (act M L S 0 qn : Int)] 2)) (b0 + 1) (.slice (some ⟨wr.heap.size, 0, none⟩) 1 1) (ayK M L S qn 1) := OwnI.made (ayK_len _ _ _ _ _) (by unfold maxLen; omega) (by have := hX.lt; omega) hE
          have hB1 := hB.alloc (.cells #[.int .i64 (act M L S 0 qn : Int)] 2)
          have hX1 := hX.alloc (.cells #[.int .i64 (act M L S 0 qn : Int)] 2)
          have hbw1 := below_alloc' hbw (.cells #[.int .i64 (act M L S 0 qn : Int)] 2)
          clear hE
          generalize act M L S 0 qn = a0 at *
          go_wp2
          clear cX e1 hB hX hbw
          go_loopw [11, 43] (fun ov i wr => ∃ (k : Nat) (v0 : Value), k ≤ nn ∧ i = .int .i64 k ∧ v0 = ov ∧ (Blk wr w.heap.size (mc M) 28 ∧ Blk wr b0 (ints (acL M L S k)) 54) ∧ OwnI wr (b0 + 1) v0 (ayK M L S qn (k + 1)) ∧ Below w.heap.size w wr) (fun _ i _ => nn - (intOf i).toNat)
          case atStart => exact ⟨0, _, by omega, rfl, rfl, ⟨hB1, hX1⟩, hO, hbw1⟩
          case round =>
            clear hB1 hX1 hO hbw1
            obtain ⟨k, v0, hk, rfl, rfl, ⟨hB, hX⟩, hO, hbw⟩ := hrel
            obtain ⟨w6, rfl⟩ : ∃ x, x = wr := ⟨_, rfl⟩
            by_cases hlt : k < nn
            · have hki : (k : Int) < (nn : Int) := by omega
              have HL1 := Lib.hid (HL.out k (by omega))
              have Hs1 : Hid ((ints (acL M L S k)).size = 16) := Lib.hid (by rw [ints_size, acL_len])
              have Hs2 : Hid ((ints (acL M L S (k + 1))).size = 16) := Lib.hid (by rw [ints_size, acL_len])
              have Hc1 : Hid (cut (ints (acL M L S k)) 0 16 = ints (acL M L S k)) := Lib.hid (cut_all _ _ Hs1.out)
              have Ho1 : Hid (over (ints (acL M L S k)) 0 (ints (acL M L S (k + 1))) = ints (acL M L S (k + 1))) := Lib.hid (over_all _ _ (by rw [Hs1.out, Hs2.out]))
              have e1 := ints_at (acL M L S (k + 1)) qn (by rw [acL_len]; omega)
              rw [acL_at M L S (k + 1) qn (by omega)] at e1
              have Hsn := Lib.hid (ayK_succ M L S qn (k + 1))
              have Hln := Lib.hid (ayK_len M L S qn (k + 1))
              generalize act M L S (k + 1) qn = ak at *
              generalize hal1 : acL M L S (k + 1) = al1 at *
              have Hal := Lib.hid hal1
              clear hal1
              generalize acL M L S k = al0 at *
              generalize ayK M L S qn (k + 1) = kl at *
              obtain ⟨ov, cv, hv0, _⟩ := hO.view
              subst hv0
              have hXlt := hX.lt
              go_wp2_with (first | (with_reducible show wpList _ _ _ _ _ _; refine wpList_load_blk rfl 28 (.tmp 3) rfl w.heap.size 0 rfl (mc M) _ (hB) 98 F2.out _ Try.underlying28 rfl size_mach ?_; rw [F1.out]) | (with_reducible show wpList _ _ _ _ _ _; refine wpList_load_blk rfl 54 (.tmp 8) rfl b0 0 rfl (ints al0) _ hX 16 (by rw [Hs1.out]; omega) _ Try.underlying54 rfl size_i16 ?_; rw [Hc1.out]) | (go_at_call 40; refine (HL1.out _).mono ?_; rintro e w7 ⟨rfl, hb7⟩; have hB7 := hB.keptAll hb7; have hX7 := hX.keptAll hb7; have hO7 := hO.below hb7; have hbw7 := below_step hbw hb7; have hs7 := hb7.size) | (with_reducible show wpList _ _ _ _ _ _; refine wpList_store_row rfl 54 (.tmp 8) (.tmp 47) rfl b0 0 (ints al1) rfl rfl _ _ hX7 (by rw [Hs1.out, Hs2.out]; omega) (by rw [Hs2.out]; exact size_i16) (ints_one _) _ Ho1.out ?_; intro w8 hs8; have hX8 := hs8.blk; have hB8 := hs8.keep (by omega) hB7; have hbw8 := hs8.below _ _ (by omega) hbw7; have hO8 := hO7.kept_at (fun k hk => hs8.other k (by have := hO7.ge k hk; omega)); have c8 := hX8.cell qn; rw [e1] at c8) | (at_builtin; refine wpList_push_int_x rfl (.tmp 48) (.tmp 52) rfl (b0 + 1) _ kl rfl (hO8.below (Below.alloc (Below.refl _ _) (Nat.le_refl _) (.cells #[.int .i64 (ak : Int)] 2))) w8.heap.size 1 (ak : Int) rfl (Blk.new w8 _ _) (by have := Hln.out; omega) (by have := hX8.lt; simp; omega) ?_; intro v9 w9 hO9 hb9 hsp9))
              have hba := Below.alloc (Below.refl w8.heap.size w8) (Nat.le_refl _) (.cells #[.int .i64 (ak : Int)] 2)
              have hlt8 := hX8.lt
              have hB9 := (hB8.alloc (.cells #[.int .i64 (ak : Int)] 2)).kept hb9 (by omega)
              have hX9 := (hX8.alloc (.cells #[.int .i64 (ak : Int)] 2)).kept hb9 (by omega)
              have hbw9 := (below_alloc' hbw8 (.cells #[.int .i64 (ak : Int)] 2)).trans (below_le hb9 (by omega))
              go_roundw
              case rel => exact ⟨k + 1, _, by omega, by go_num, rfl, ⟨hB9, by rw [Hal.out]; exact hX9⟩, by rw [Hsn.out]; exact hO9, hbw9⟩
              case measure => simp [intOf] <;> omega
            · obtain rfl : k = nn := by omega
              go_wp2
              go_ret2
              exact ⟨_, ret_li' Hc.out.symm, hO.base_le' (by omega), hbw⟩
    · have Hc : Hid (ayC M q n = 2) := Lib.hid (by unfold ayC at hc ⊢; rw [if_neg (by rw [hm]; simp)] at hc ⊢; split at hc <;> simp_all)
      have Hr : Hid (ayR M q n = []) := Lib.hid (by unfold ayR; rw [if_neg hc])
      rw [Hr.out]
      by_cases hq : 0 ≤ q ∧ q < M.S
      · rw [show decide (0 ≤ q ∧ q < M.S) = true by simpa using hq] at HQ
        have hn : n < 0 ∨ 20 < n := by
          rcases Int.lt_or_le n 0 with h | h
          · exact .inl h
          · refine .inr (Int.not_le.1 fun h2 => hc ?_)
            unfold ayC
            rw [if_neg (by rw [hm]; simp), if_pos ⟨hq, h, h2⟩]
        clear hc hq hm
        rcases hn with hn | hn
        · go_enter Try.func14, Try.ntmps14
          go_wp2_with (first | (with_reducible show wpList _ _ _ _ _ _; refine wpList_load_blk rfl 28 (.tmp 3) rfl w.heap.size 0 rfl (mc M) _ (by first | exact hB1 | exact hB) 98 F2.out _ Try.underlying28 rfl size_mach ?_; rw [F1.out]) | (go_at_call 37; refine (HI.out _).mono ?_; rintro e w1 ⟨rfl, hb1⟩; have hB1 := hB.keptAll hb1) | (go_at_call 38; refine (HQ.out _).mono ?_; rintro e w2 ⟨rfl, hb2⟩))
          go_ret2
          exact ⟨_, ret_li' Hc.out.symm, OwnI.nil _ _, below_step (below_step hbw0 hb1) hb2⟩
        · have hn0 : ¬ n < 0 := by omega
          go_enter Try.func14, Try.ntmps14
          go_wp2_with (first | (with_reducible show wpList _ _ _ _ _ _; refine wpList_load_blk rfl 28 (.tmp 3) rfl w.heap.size 0 rfl (mc M) _ (by first | exact hB1 | exact hB) 98 F2.out _ Try.underlying28 rfl size_mach ?_; rw [F1.out]) | (go_at_call 37; refine (HI.out _).mono ?_; rintro e w1 ⟨rfl, hb1⟩; have hB1 := hB.keptAll hb1) | (go_at_call 38; refine (HQ.out _).mono ?_; rintro e w2 ⟨rfl, hb2⟩))
          go_ret2
          exact ⟨_, ret_li' Hc.out.symm, OwnI.nil _ _, below_step (below_step hbw0 hb1) hb2⟩
      · rw [show decide (0 ≤ q ∧ q < M.S) = false by simpa using hq] at HQ
        clear hc hq hm
        go_enter Try.func14, Try.ntmps14
        go_wp2_with (first | (with_reducible show wpList _ _ _ _ _ _; refine wpList_load_blk rfl 28 (.tmp 3) rfl w.heap.size 0 rfl (mc M) _ (by first | exact hB1 | exact hB) 98 F2.out _ Try.underlying28 rfl size_mach ?_; rw [F1.out]) | (go_at_call 37; refine (HI.out _).mono ?_; rintro e w1 ⟨rfl, hb1⟩; have hB1 := hB.keptAll hb1) | (go_at_call 38; refine (HQ.out _).mono ?_; rintro e w2 ⟨rfl, hb2⟩))
        go_ret2
        exact ⟨_, ret_li' Hc.out.symm, OwnI.nil _ _, below_step (below_step hbw0 hb1) hb2⟩
end Go.Proofs.Ytdbdoohcpcjfdaa
