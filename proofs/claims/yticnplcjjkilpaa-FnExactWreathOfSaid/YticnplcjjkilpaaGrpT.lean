/- Both 'InverseWord's. -/
import Derived.Test.YticnplcjjkilpaaGrpS
import Derived.Test.YticnplcjjkilpaaInvM
namespace Go.Proofs.Yticnplcjjkilpaa
open Go.RowKit

theorem ret_vi {v : Value} {m m' : Int} (h : m = m') : Ending.returned (.tuple #[v, .int .i64 m]) = Ending.returned (.tuple #[v, .int .i64 m']) := by rw [h]
/-- Small numbers. -/
def smallI (zs : List Int) : Prop := ∀ z ∈ zs, -1000 ≤ z ∧ z ≤ 1000
theorem smallI_at {zs : List Int} (h : smallI zs) (i : Nat) (hi : i < zs.length) : IntKind.i64.wrap (-zs[i]) = -zs[i] := IntWalk.i64_in _ (by have := h _ (List.getElem_mem hi); omega)
theorem isGrp_parts {M : Mach} {zs : List Int} (h : isGrp M zs = true) : isMach M = true ∧ grpOk M.S zs = true := by simpa [isGrp] using h
theorem isGrp_small {M : Mach} {zs : List Int} (h : isGrp M zs = true) : smallI zs := by
  obtain ⟨h1, h2⟩ := isGrp_parts h
  have hS := (isMach_parts h1).2
  intro z hz
  obtain ⟨i, hi, rfl⟩ := List.getElem_of_mem hz
  have := (numOk_iff _ _).1 (grpOk_at h2 i hi)
  omega
theorem isGrp_len {M : Mach} {zs : List Int} (h : isGrp M zs = true) : zs.length ≤ 40 := grpOk_len (isGrp_parts h).2
theorem smallI_turn {zs : List Int} (h : smallI zs) : smallI (turnI zs) := by
  intro z hz
  simp only [turnI, List.mem_reverse, List.mem_map] at hz
  obtain ⟨y, hy, rfl⟩ := hz
  have := h y hy
  omega

/-- The last k of the inverse, zeros before. -/
def revPad (zs : List Int) (k : Nat) : List Int := List.replicate (zs.length - k) 0 ++ (turnI zs).drop (zs.length - k)
theorem revPad_zero (zs : List Int) : revPad zs 0 = List.replicate zs.length 0 := by
  unfold revPad
  rw [List.drop_of_length_le (by rw [turnI_len]; omega)]; simp
theorem revPad_all (zs : List Int) : revPad zs zs.length = turnI zs := by simp [revPad]
theorem revPad_len (zs : List Int) (k : Nat) (h : k ≤ zs.length) : (revPad zs k).length = zs.length := by rw [revPad, List.length_append, List.length_replicate, List.length_drop, turnI_len]; omega
theorem revPad_set (zs : List Int) (k j : Nat) (h : k < zs.length) (hj : zs.length - 1 - k = j) : (revPad zs k).set j (-zs[k]) = revPad zs (k + 1) := by
  subst hj
  have hg := turnI_get zs k h
  unfold revPad
  rw [show zs.length - k = (zs.length - 1 - k) + 1 from by omega, show zs.length - (k + 1) = zs.length - 1 - k from by omega]
  have hd : (turnI zs).drop (zs.length - 1 - k) = -zs[k] :: (turnI zs).drop (zs.length - 1 - k + 1) := by
    rw [List.drop_eq_getElem_cons (by rw [turnI_len]; omega), hg]
  rw [hd, List.replicate_succ', List.append_assoc, List.set_append_right _ _ (by simp)]
  simp

set_option maxRecDepth 100000 in
set_option maxHeartbeats 1000000 in
theorem turnWord_calls (v : Value) (zs : List Int) (w : World) (hv : SeesI w v zs) (hn : zs.length ≤ 1048576) (hz : smallI zs) :
    Calls Try.prog 44 #[v] w fun e w' => ∃ v', e = .returned v' ∧ OwnI w' w.heap.size v' (turnI zs) ∧ Below w.heap.size w w' := by
  obtain ⟨oa, cap, rfl, hc⟩ := hv.view
  have hmk := mk_ints zs.length hn
  have Hc := Lib.hid hc; clear hc hv
  have hB0 : Blk (w.alloc (.cells (ints (revPad zs 0)) 2)) w.heap.size (ints (revPad zs 0)) 2 := Blk.new w _ _
  rw [revPad_zero] at hB0
  have hbw0 : Below w.heap.size w (w.alloc (.cells (ints (List.replicate zs.length 0)) 2)) := by (repeat (first | exact Below.refl _ _ | refine below_drew' ?_ | refine below_drewN' ?_ _ | refine below_alloc' ?_ _ | refine below_set' ?_ (by (try simp); (try omega)) _ | refine below_step ?_ (by assumption)))
  go_enter Try.func44, Try.ntmps44
  go_wp2
  go_loopw [11] (fun i wr => ∃ k : Nat, k ≤ zs.length ∧ i = .int .i64 k ∧ Blk wr w.heap.size (ints (revPad zs k)) 2 ∧ Below w.heap.size w wr) (fun i _ => zs.length - (intOf i).toNat)
  case atStart => exact ⟨0, by omega, rfl, by rw [revPad_zero]; exact hB0, hbw0⟩
  case round =>
    clear hB0 hbw0 hmk
    obtain ⟨k, hk, rfl, hB, hbw⟩ := hrel
    by_cases hlt : k < zs.length
    · obtain ⟨g, rfl, _, hcell⟩ := Hc.out (by omega)
      have c1 := cell_kept hbw (hcell k hlt)
      have hwz := smallI_at hz k hlt
      have hki : (k : Int) < zs.length := by omega
      obtain ⟨j, hj⟩ : ∃ j : Nat, zs.length - 1 - k = j := ⟨_, rfl⟩
      have hji : (zs.length : Int) - 1 - (k : Int) = (j : Int) := by omega
      have hjn : j < zs.length := by omega
      have hjni : (j : Int) < zs.length := by omega
      have hl := revPad_len zs k hk
      have hs : (ints (revPad zs k))[j]? = some ((ints (revPad zs k))[j]'(by rw [ints_size, hl]; exact hjn)) := Array.getElem?_eq_getElem _
      generalize (ints (revPad zs k))[j]'(by rw [ints_size, hl]; exact hjn) = old at hs
      have Hset : Hid (ints (revPad zs (k + 1)) = (ints (revPad zs k)).setIfInBounds j (.int .i64 (-zs[k]))) := Lib.hid (by rw [← revPad_set zs k j hlt hj, ints_set])
      have cC := hB.cell
      have fC := hB.free
      have hB2 := hB.set j (.int .i64 (-zs[k]))
      have hbw2 := below_set' (o := j) hbw (b := w.heap.size) (Nat.le_refl _) (.int .i64 (-zs[k]))
      rw [← Hset.out] at hB2
      generalize zs[k] = z at *
      clear hl hcell hB hbw hj
      go_wp2
      go_roundw
      case rel => exact ⟨k + 1, by omega, by go_num, hB2, hbw2⟩
      case measure => simp [intOf] <;> omega
    · obtain rfl : k = zs.length := by omega
      go_wp2
      go_ret
      exact ⟨_, rfl, OwnI.made (by rw [turnI_len]) (by unfold maxLen; omega) (Nat.le_refl _) (by rw [revPad_all] at hB; exact hB), hbw⟩

/-- What is appended before number j. -/
def outsJ (zs : List Int) (j : Nat) : List Int := (turnI zs).take (zs.length - j)
theorem outsJ_all (zs : List Int) : outsJ zs 0 = turnI zs := by unfold outsJ; rw [List.take_of_length_le (by rw [turnI_len]; omega)]
theorem outsJ_none (zs : List Int) : outsJ zs zs.length = [] := by simp [outsJ]
theorem outsJ_len (zs : List Int) (j : Nat) : (outsJ zs j).length = zs.length - j := by simp [outsJ, turnI_len]
theorem outsJ_snoc (zs : List Int) (j : Nat) (h : j < zs.length) : outsJ zs j = outsJ zs (j + 1) ++ [-zs[j]] := by
  have hg := turnI_get zs j h
  unfold outsJ
  rw [show zs.length - j = (zs.length - 1 - j) + 1 from by omega, show zs.length - (j + 1) = zs.length - 1 - j from by omega]
  rw [List.take_succ_eq_append_getElem (by rw [turnI_len]; omega), hg]

set_option maxRecDepth 100000 in
set_option maxHeartbeats 1000000 in
theorem l02Inverse_calls (v : Value) (zs : List Int) (w : World) (hv : SeesI w v zs) (hn : zs.length ≤ 1048575) (hz : smallI zs) :
    Calls Try.prog 41 #[v] w fun e w' => ∃ v', e = .returned v' ∧ OwnI w' w.heap.size v' (turnI zs) ∧ Below w.heap.size w w' := by
  obtain ⟨oa, cap, rfl, hc⟩ := hv.view
  have Hc := Lib.hid hc; clear hc hv
  have hO0 : OwnI (w.alloc (.cells #[] 2)) w.heap.size (.slice (some ⟨w.heap.size, 0, none⟩) 0 0) [] := OwnI.empty w _ 0 #[] (Nat.le_refl _) (by unfold maxLen; omega) rfl
  have hbw0 : Below w.heap.size w (w.alloc (.cells #[] 2)) := by (repeat (first | exact Below.refl _ _ | refine below_drew' ?_ | refine below_drewN' ?_ _ | refine below_alloc' ?_ _ | refine below_set' ?_ (by (try simp); (try omega)) _ | refine below_step ?_ (by assumption)))
  go_enter Try.func41, Try.ntmps41
  go_wp2
  go_loopw [3, 4] (fun out i wr => ∃ (j : Nat) (z : Int), j ≤ zs.length ∧ z = (j : Int) - 1 ∧ i = .int .i64 z ∧ OwnI wr w.heap.size out (outsJ zs j) ∧ Below w.heap.size w wr) (fun _ i _ => (intOf i + 1).toNat)
  case atStart => exact ⟨zs.length, (zs.length : Int) - 1, by omega, rfl, rfl, by rw [outsJ_none]; exact hO0, hbw0⟩
  case round =>
    clear hO0 hbw0
    obtain ⟨j, z, hj, hzj, rfl, hO, hbw⟩ := hrel
    have hsz := hbw.size
    rcases j with _ | j
    · have hz0 : ¬ (0 ≤ z) := by omega
      have hz1 : z < 0 := by omega
      clear hzj
      go_wp2
      go_ret
      exact ⟨_, rfl, by rw [outsJ_all] at hO; exact hO, hbw⟩
    · obtain rfl : z = (j : Int) := by omega
      clear hzj
      have hlt : j < zs.length := by omega
      obtain ⟨g, rfl, _, hcell⟩ := Hc.out (by omega)
      have c1 := cell_kept hbw (hcell j hlt)
      have hwz := smallI_at hz j hlt
      have hki : (j : Int) < zs.length := by omega
      have Hsn := Lib.hid (outsJ_snoc zs j hlt)
      have Hlen := Lib.hid (outsJ_len zs (j + 1))
      generalize zs[j] = y at *
      clear hcell
      go_wp2_with (at_builtin; refine wpList_push_int rfl (.tmp 13) (.tmp 19) rfl w.heap.size _ (outsJ zs (j + 1)) rfl (hO.below (Below.alloc (Below.refl _ _) (Nat.le_refl _) (.cells #[.int .i64 (-y)] 2))) _ 1 (-y) rfl (Blk.new _ _ _) (by rw [Hlen.out]; omega) (by simp; omega) ?_; intro v1 w4 hO1 hb1)
      go_roundw
      case rel => exact ⟨j, (j : Int) - 1, by omega, rfl, by go_num, by rw [Hsn.out]; exact hO1, (hbw.alloc hbw.size _).trans hb1⟩
      case measure => simp only [intOf]; omega

def code1 (M : Mach) (zs : List Int) : Int := if isGrp M zs then 0 else 1
def invW (M : Mach) (zs : List Int) : List Int := if isGrp M zs then turnI zs else []
theorem invW_len (M : Mach) (zs : List Int) : (invW M zs).length ≤ 1048576 := by
  unfold invW
  split
  · rename_i h
    have := isGrp_len h
    rw [turnI_len]; omega
  · simp
theorem OwnI.base_le {w : World} {base base' : Nat} {v : Value} {zs : List Int} (h : OwnI w base v zs) (hb : base' ≤ base) : OwnI w base' v zs := by
  refine ⟨h.1, ?_⟩
  rcases h.2 with h2 | ⟨g, cap, cur, hv', hg', r⟩
  · exact Or.inl h2
  · exact Or.inr ⟨g, cap, cur, hv', by omega, r⟩

end Go.Proofs.Yticnplcjjkilpaa
