/- Letters led by group words: the program's steps, the model's 'l02Led'. -/
import Derived.Test.YticnplcjjkilpaaStepG
import Derived.Test.YticnplcjjkilpaaArgs
import Derived.Laws.EntriesVeiled
namespace Go.Proofs.Yticnplcjjkilpaa
open Go.RowKit

set_option maxRecDepth 100000 in
set_option maxHeartbeats 1000000 in
theorem backward_calls (M : Mach) (L S : Nat) (hg : Good M L S) (b : Nat) (k : Int) (hk : numOk S k = true) (hp : ¬ 0 < k) (x : Nat) (hx : x < L) (w : World) (hB : Blk w b (mc M) 29) :
    Calls Try.prog 77 #[gd b (-k - 1), .int .u8 x] w fun e w' => e = .returned (.tuple #[.int .u8 (outG M k x), .int .i64 (nextG M k x)]) ∧ Below w.heap.size w w' := by
  have hok := hg.ok
  have hL3 := hg.L3
  have hS16 := hg.S16
  have hq := stOf_lt hk
  have hs := stOf_neg ((numOk_iff _ _).1 hk).1 hp
  obtain ⟨b1, b2, b3⟩ := hg.bk_at (stOf k) x hq hx
  have hn := mc_n hok (stOf k) (bk M (stOf k) x) (by omega) (by omega)
  have n0 := hg.n_lt (stOf k) (bk M (stOf k) x) hq b1
  have ho : ∀ y : Nat, y < L → (mc M)[50 + stOf k * 3 + y]? = some (.int .u8 (M.o (stOf k) y)) := fun y hy => mc_o hok (stOf k) y (by omega) (by omega)
  have Ho : Hid ((outG M k x : Int) = (bk M (stOf k) x : Int)) := Lib.hid (by unfold outG; rw [if_neg hp])
  have Hn : Hid (nextG M k x = -(M.n (stOf k) (bk M (stOf k) x)) - 1) := Lib.hid (by unfold nextG; rw [if_neg hp])
  have Hb2 := Lib.hid b2; have Hb3 := Lib.hid b3; have Hoc := Lib.hid ho
  rw [← hs]
  clear b2 b3 ho hs
  generalize hov : M.o (stOf k) = ov at *
  clear hov
  generalize M.n (stOf k) (bk M (stOf k) x) = nv at *
  generalize bk M (stOf k) x = y0 at *
  generalize stOf k = q at *
  have hq16 : q < 16 := by omega
  have hqi : (q : Int) < 16 := by omega
  have hlt := hB.lt
  have hB1 : Blk (w.alloc (.cells #[.pointer (some ⟨b, 0, none⟩), .int .i64 q] 114)) b (mc M) 29 := hB.alloc _
  have hB2 : Blk (w.alloc (.cells #[.pointer (some ⟨b, 0, none⟩), .int .i64 q] 114)) w.heap.size #[.pointer (some ⟨b, 0, none⟩), .int .i64 q] 114 := Blk.new _ _ _
  have cA := hB1.cell
  have cB := hB2.cell
  have hbw : Below w.heap.size w (w.alloc (.cells #[.pointer (some ⟨b, 0, none⟩), .int .i64 q] 114)) := by (repeat (first | exact Below.refl _ _ | refine below_drew' ?_ | refine below_drewN' ?_ _ | refine below_alloc' ?_ _ | refine below_set' ?_ (by (try simp); (try omega)) _ | refine below_step ?_ (by assumption)))
  unfold gd
  clear hk hq hp hB hB1 hB2
  go_enter Try.func77, Try.ntmps77
  go_wp2
  generalize w.alloc (.cells #[.pointer (some ⟨b, 0, none⟩), .int .i64 q] 114) = W0 at *
  go_loopw [6] (fun y wr => ∃ j : Nat, j ≤ y0 ∧ y = .int .u8 j ∧ (∃ nd, wr = W0.drewN nd)) (fun y _ => y0 - (intOf y).toNat)
  case atStart => exact ⟨0, by omega, rfl, ⟨0, rfl⟩⟩
  case round =>
    obtain ⟨j, hj, rfl, ⟨nd, rfl⟩⟩ := hrel
    have hji : (j : Int) < 3 := by omega
    have hoj := Hoc.out j (by omega)
    by_cases hlt : j < y0
    · have hne : (ov j != (x : Int)) = true := by have := Hb3.out j hlt; simpa using this
      go_wp2
      go_quiet (fail)
      go_wp2
      go_roundw
      case rel => exact ⟨j + 1, by omega, by go_num, ⟨_, rfl⟩⟩
      case measure => simp [intOf] <;> omega
    · obtain rfl : j = y0 := by omega
      have hne : (ov j != (x : Int)) = false := by have := Hb2.out; simpa using this
      go_wp2
      go_quiet (fail)
      go_wp2
      go_quiet (fail)
      go_wp2
      go_ret2
      exact ⟨ret_bi Ho.out.symm (by rw [Hn.out]), by (repeat (first | exact Below.refl _ _ | refine below_drew' ?_ | refine below_drewN' ?_ _ | refine below_alloc' ?_ _ | refine below_set' ?_ (by (try simp); (try omega)) _ | refine below_step ?_ (by assumption)))⟩

/-- What a number of a group word is as a step. -/
def gv (b : Nat) (k : Int) : Value := if 0 < k then .func (.func 76) #[gd b (k - 1)] #[] else .func (.func 77) #[gd b (-k - 1)] #[]
/-- The cells of the first k steps; nil behind. -/
def stC (b : Nat) (zs : List Int) (k : Nat) : Array Value := ((zs.take k).map (gv b) ++ List.replicate (zs.length - k) Value.nilFunc).toArray
theorem stC_zero (b : Nat) (zs : List Int) : stC b zs 0 = (List.replicate zs.length Value.nilFunc).toArray := by simp [stC]
theorem stC_all (b : Nat) (zs : List Int) : stC b zs zs.length = (zs.map (gv b)).toArray := by simp [stC]
theorem stC_size (b : Nat) (zs : List Int) (k : Nat) (h : k ≤ zs.length) : (stC b zs k).size = zs.length := by simp [stC]; omega
theorem stC_set (b : Nat) (zs : List Int) (k : Nat) (h : k < zs.length) : (stC b zs k).setIfInBounds k (gv b zs[k]) = stC b zs (k + 1) := by
  simp only [stC, List.setIfInBounds_toArray]
  congr 1
  rw [List.set_append_right _ _ (by simp; omega), show k - ((zs.take k).map (gv b)).length = 0 from by simp; omega, show zs.length - k = (zs.length - (k + 1)) + 1 from by omega, List.replicate_succ, List.set_cons_zero, List.take_succ_eq_append_getElem h, List.map_append, List.append_assoc]
  rfl
theorem infoF : (Try.prog.info? 115).map (fun i => (i.zero, i.size, i.bytes)) = some (some .nilFunc, 1, 8) := by kernel_rfl
theorem made_steps (n : Nat) : madeCells (Value.nilFunc).cells n = (List.replicate n Value.nilFunc).toArray := by
  apply Array.ext
  · simp [madeCells, Value.cells]
  · intro i h1 h2
    simp [madeCells, Value.cells, Nat.mod_one]
theorem mk_steps (n : Nat) (hn : n ≤ 1048576) (W : World) : (Instr.makeSlice 83 (.int .i64 n) (.int .i64 n)).run Try.prog W = .ok (.slice (some ⟨W.heap.size, 0, none⟩) n n) (W.alloc (.cells ((List.replicate n Value.nilFunc).toArray) 115)) := by
  obtain ⟨i0, hi, hz0, hz1, hz2⟩ := info_parts infoF
  have := run_make (P := Try.prog) W 83 115 i0 .nilFunc Try.underlying83 hi hz0 .i64 .i64 n n (by omega) (by omega) (by rw [hz2]; omega) (by omega)
  rwa [hz1, Int.toNat_natCast, Nat.mul_one, made_steps] at this
/-- Small numbers. -/
def smallG (zs : List Int) : Prop := ∀ z ∈ zs, -16 ≤ z ∧ z ≤ 16
theorem smallG_of {S : Nat} (hS : S ≤ 16) {zs : List Int} (h : numsOk S zs = true) : smallG zs := fun z hz => by
  have := (numOk_iff _ _).1 ((List.all_eq_true.1 h) z hz); omega

set_option maxRecDepth 100000 in
set_option maxHeartbeats 1000000 in
theorem stepsOf_calls (b : Nat) (v : Value) (zs : List Int) (hz : smallG zs) (hn : zs.length ≤ 1048576) (w : World) (hv : SeesI w v zs) :
    Calls Try.prog 60 #[.pointer (some ⟨b, 0, none⟩), v] w fun e w' => ∃ g, e = .returned (.slice (some ⟨g, 0, none⟩) zs.length zs.length) ∧ w.heap.size ≤ g ∧ Blk w' g (zs.map (gv b)).toArray 115 ∧ Below w.heap.size w w' := by
  obtain ⟨oa, cap, rfl, hc⟩ := hv.view
  have Hc := Lib.hid hc; clear hc hv
  have hmk := mk_steps zs.length hn
  have hB0 : Blk (w.alloc (.cells (stC b zs 0) 115)) w.heap.size (stC b zs 0) 115 := Blk.new w _ _
  rw [stC_zero] at hB0
  have hbw0 : Below w.heap.size w (w.alloc (.cells ((List.replicate zs.length Value.nilFunc).toArray) 115)) := by (repeat (first | exact Below.refl _ _ | refine below_drew' ?_ | refine below_drewN' ?_ _ | refine below_alloc' ?_ _ | refine below_set' ?_ (by (try simp); (try omega)) _ | refine below_step ?_ (by assumption)))
  have hmf : ∀ (fn : Fn) (first cap : Array Value) (w : World), (Instr.makeFunc fn first cap).run Try.prog w = .ok (.func fn first cap) w := fun _ _ _ _ => rfl
  have Hz := Lib.hid hz; clear hz
  go_enter Try.func60, Try.ntmps60
  go_wp2
  go_loopw [13] (fun i wr => ∃ k : Nat, k ≤ zs.length ∧ i = .int .i64 k ∧ Blk wr w.heap.size (stC b zs k) 115 ∧ Below w.heap.size w wr) (fun i _ => zs.length - (intOf i).toNat)
  case atStart => exact ⟨0, by omega, rfl, by rw [stC_zero]; exact hB0, hbw0⟩
  case round =>
    clear hB0 hbw0 hmk
    obtain ⟨k, hk, rfl, hB, hbw⟩ := hrel
    by_cases hlt : k < zs.length
    · obtain ⟨g, rfl, _, hcell⟩ := Hc.out (by omega)
      have c1 := cell_kept hbw (hcell k hlt)
      have hki : (k : Int) < zs.length := by omega
      have hsz := stC_size b zs k hk
      have hs : (stC b zs k)[k]? = some ((stC b zs k)[k]'(by omega)) := Array.getElem?_eq_getElem _
      generalize (stC b zs k)[k]'(by omega) = old at hs
      obtain ⟨z1, z2⟩ := Hz.out _ (List.getElem_mem hlt)
      have Hset := Lib.hid (stC_set b zs k hlt)
      have cC := hB.cell
      have fC := hB.free
      have hB2 := hB.set k (gv b zs[k])
      have hbw2 := below_set' (o := k) hbw (b := w.heap.size) (Nat.le_refl _) (gv b zs[k])
      rw [Hset.out] at hB2
      clear hsz hcell hB hbw
      by_cases hp : 0 < zs[k]
      · have Hg : Hid (gv b zs[k] = .func (.func 76) #[.agg #[.pointer (some ⟨b, 0, none⟩), .int .i64 (zs[k] - 1)]] #[]) := Lib.hid (by unfold gv gd; rw [if_pos hp])
        rw [Hg.out] at hB2 hbw2
        clear Hg
        generalize zs[k] = z at *
        go_wp2
        go_roundw
        case rel => exact ⟨k + 1, by omega, by go_num, hB2, hbw2⟩
        case measure => simp [intOf] <;> omega
      · have Hg : Hid (gv b zs[k] = .func (.func 77) #[.agg #[.pointer (some ⟨b, 0, none⟩), .int .i64 (-zs[k] - 1)]] #[]) := Lib.hid (by unfold gv gd; rw [if_neg hp])
        rw [Hg.out] at hB2 hbw2
        clear Hg
        generalize zs[k] = z at *
        go_wp2
        go_roundw
        case rel => exact ⟨k + 1, by omega, by go_num, hB2, hbw2⟩
        case measure => simp [intOf] <;> omega
    · obtain rfl : k = zs.length := by omega
      rw [stC_all] at hB
      go_wp2
      go_ret
      exact ⟨_, rfl, Nat.le_refl _, hB, hbw⟩
end Go.Proofs.Yticnplcjjkilpaa
