/- 'ParseGroup' of the model. -/
import Derived.Test.YtoiadhenoankfaaGrpR
namespace Go.Proofs.Ytoiadhenoankfaa
open Go.RowKit

theorem ret_vb {v : Value} {b b' : Bool} (h : b = b') : Ending.returned (.tuple #[v, .bool b]) = Ending.returned (.tuple #[v, .bool b']) := by rw [h]

set_option maxRecDepth 100000 in
set_option maxHeartbeats 4000000 in
theorem l02Read_calls (M : Mach) (L S : Nat) (hg : Good M L S) (s : ByteArray) (hs : s.size ≤ 1048576) (w : World) :
    Calls Try.prog 44 #[.agg (mc M), .string s] w fun e w' => ∃ v, e = .returned (.tuple #[v, .bool (grpOk S (rdI s))]) ∧ (grpOk S (rdI s) = true → OwnI w' w.heap.size v (rdI s)) ∧ Below w.heap.size w w' := by
  have hok := hg.ok
  have F1 : Hid (cut (mc M) 0 98 = mc M) := Lib.hid (cut_all _ _ (mc_size hok)); have F2 : Hid (0 + 98 ≤ (mc M).size) := Lib.hid (by rw [mc_size hok]; omega)
  have hB : Blk ((w.alloc (.cells (mc M) 28)).alloc (.cells #[] 2)) w.heap.size (mc M) 28 := (Blk.new w _ _).alloc _
  have hO0 : OwnI ((w.alloc (.cells (mc M) 28)).alloc (.cells #[] 2)) w.heap.size (.slice (some ⟨w.heap.size + 1, 0, none⟩) 0 0) [] := by
    have := OwnI.empty (w.alloc (.cells (mc M) 28)) w.heap.size 0 #[] (by simp) (by unfold maxLen; omega) rfl
    rwa [show (w.alloc (.cells (mc M) 28)).heap.size = w.heap.size + 1 from by simp] at this
  have hbw0 : Below w.heap.size w ((w.alloc (.cells (mc M) 28)).alloc (.cells #[] 2)) := by (repeat (first | exact Below.refl _ _ | refine below_drew' ?_ | refine below_drewN' ?_ _ | refine below_alloc' ?_ _ | refine below_set' ?_ (by (try simp); (try omega)) _ | refine below_step ?_ (by assumption)))
  have Hzl := Lib.hid (rdI_len s)
  have Hgt := Lib.hid (rdI_get s)
  have Hsn := Lib.hid (rdI_snoc s)
  have Hbad : Hid (∀ k, (h : k < s.size) → ltI s[k] = 0 → grpOk S (rdI s) = false) := Lib.hid (fun k h e => grpOk_bad k (by rw [rdI_len]; exact h) (by rw [rdI_get s k h]; exact e))
  go_enter Try.func44, Try.ntmps44
  go_wp2
  go_loopw [6, 7] (fun out i wr => ∃ k : Nat, k ≤ s.size ∧ i = .int .i64 k ∧ Blk wr w.heap.size (mc M) 28 ∧ OwnI wr (w.heap.size + 1) out ((rdI s).take k) ∧ Below w.heap.size w wr) (fun _ i _ => s.size - (intOf i).toNat)
  case atStart => exact ⟨0, by omega, rfl, hB, by
    refine ⟨by simp, .inr ⟨w.heap.size + 1, 0, #[], rfl, Nat.le_refl _, ?_, Nat.zero_le _, by unfold maxLen; omega, rfl, by simp⟩⟩
    exact Blk.new_at _ _ _ _ (by simp), hbw0⟩
  case round =>
    clear hB hO0 hbw0
    obtain ⟨k, hk, rfl, hB, hO, hbw⟩ := hrel
    have hsz := hB.lt
    by_cases hlt : k < s.size
    · have hki : (k : Int) < s.size := by omega
      have h256 : s[k].toNat < 256 := s[k].toNat_lt
      have hlt2 : Hid (ltI s[k] = if 97 ≤ s[k].toNat ∧ s[k].toNat ≤ 112 then (s[k].toNat : Int) - 97 + 1 else if 65 ≤ s[k].toNat ∧ s[k].toNat ≤ 80 then -((s[k].toNat : Int) - 65) - 1 else 0) := Lib.hid rfl
      have Hs1 := Lib.hid (Hsn.out k hlt)
      have Hb1 : Hid (ltI s[k] = 0 → grpOk S (rdI s) = false) := Lib.hid (Hbad.out k hlt)
      have Hln : Hid (((rdI s).take k).length = k) := Lib.hid (by rw [List.length_take, Hzl.out]; omega)
      generalize hr : ltI s[k] = r at *
      clear hr
      by_cases h1 : 97 ≤ s[k].toNat ∧ s[k].toNat ≤ 112
      · have Hr : Hid (r = (s[k].toNat : Int) - 97 + 1) := Lib.hid (by rw [hlt2.out, if_pos h1])
        have h1a := h1.1; have h1b := h1.2
        clear h1
        go_wp2_with (at_builtin; refine wpList_push_int rfl (.tmp 26) (.tmp 31) rfl (w.heap.size + 1) _ ((rdI s).take k) rfl (hO.below (Below.alloc (Below.refl _ _) (Nat.le_refl _) (.cells #[.int .i64 ((s[k].toNat : Int) - 97 + 1)] 2))) _ 1 ((s[k].toNat : Int) - 97 + 1) rfl (Blk.new _ _ _) (by rw [Hln.out]; omega) (by simp; omega) ?_; intro v1 w4 hO1 hb1)
        go_roundw
        case rel => exact ⟨k + 1, by omega, by go_num, (hB.alloc _).kept hb1 (by omega), by rw [Hs1.out, Hr.out]; exact hO1, (hbw.alloc hbw.size _).trans (below_le hb1 (by omega))⟩
        case measure => simp [intOf] <;> omega
      · by_cases h2 : 65 ≤ s[k].toNat ∧ s[k].toNat ≤ 80
        · have Hr : Hid (r = -((s[k].toNat : Int) - 65) - 1) := Lib.hid (by rw [hlt2.out, if_neg h1, if_pos h2])
          have h2a := h2.1; have h2b := h2.2
          have h1c : ¬ (97 ≤ (s[k].toNat : Int)) := by omega
          clear h1 h2
          go_wp2_with (at_builtin; refine wpList_push_int rfl (.tmp 40) (.tmp 46) rfl (w.heap.size + 1) _ ((rdI s).take k) rfl (hO.below (Below.alloc (Below.refl _ _) (Nat.le_refl _) (.cells #[.int .i64 (-((s[k].toNat : Int) - 65) - 1)] 2))) _ 1 (-((s[k].toNat : Int) - 65) - 1) rfl (Blk.new _ _ _) (by rw [Hln.out]; omega) (by simp; omega) ?_; intro v1 w4 hO1 hb1)
          go_roundw
          case rel => exact ⟨k + 1, by omega, by go_num, (hB.alloc _).kept hb1 (by omega), by rw [Hs1.out, Hr.out]; exact hO1, (hbw.alloc hbw.size _).trans (below_le hb1 (by omega))⟩
          case measure => simp [intOf] <;> omega
        · have Hf : Hid (grpOk S (rdI s) = false) := Lib.hid (Hb1.out (by rw [hlt2.out, if_neg h1, if_neg h2]))
          by_cases h3 : 97 ≤ s[k].toNat
          · have h3b : ¬ ((s[k].toNat : Int) ≤ 112) := by omega
            have h3c : ¬ ((s[k].toNat : Int) ≤ 80) := by omega
            clear h1 h2
            go_wp2
            go_ret2
            exact ⟨_, ret_vb Hf.out.symm, (fun h => by rw [Hf.out] at h; cases h), hbw⟩
          · have h3a : ¬ (97 ≤ (s[k].toNat : Int)) := by omega
            by_cases h4 : 65 ≤ s[k].toNat
            · have h4b : ¬ ((s[k].toNat : Int) ≤ 80) := by omega
              clear h1 h2
              go_wp2
              go_ret2
              exact ⟨_, ret_vb Hf.out.symm, (fun h => by rw [Hf.out] at h; cases h), hbw⟩
            · have h4a : ¬ (65 ≤ (s[k].toNat : Int)) := by omega
              clear h1 h2
              go_wp2
              go_ret2
              exact ⟨_, ret_vb Hf.out.symm, (fun h => by rw [Hf.out] at h; cases h), hbw⟩
    · obtain rfl : k = s.size := by omega
      have hO2 : OwnI wr (w.heap.size + 1) u6 (rdI s) := by
        have := hO
        rwa [← Hzl.out, List.take_length] at this
      have hS := hO2.sees
      go_wp2_with (first | (with_reducible show wpList _ _ _ _ _ _; refine wpList_load_blk rfl 28 (.tmp 2) rfl w.heap.size 0 rfl (mc M) _ (hB) 98 F2.out _ Try.underlying28 rfl size_mach ?_; rw [F1.out]) | (go_at_call 30; refine (l02Is_calls M L S hg _ (rdI s) _ hS).mono ?_; rintro e w2 ⟨rfl, hb2⟩))
      go_ret2
      exact ⟨_, rfl, fun _ => (hO2.below hb2).base_le (by omega), below_step hbw hb2⟩

set_option maxRecDepth 100000 in
set_option maxHeartbeats 2000000 in
theorem sParseGroup_calls (M : Mach) (hok : M.Ok) (s : ByteArray) (w : World) (hs : s.size ≤ 1048576) :
    Calls Try.prog 27 #[.agg (mc M), .string s] w fun e w' => ∃ vr, e = .returned (.tuple #[vr, .int .i64 (pgC M s)]) ∧ OwnI w' w.heap.size vr (pgR M s) ∧ Below w.heap.size w w' := by
  have F1 : Hid (cut (mc M) 0 98 = mc M) := Lib.hid (cut_all _ _ (mc_size hok)); have F2 : Hid (0 + 98 ≤ (mc M).size) := Lib.hid (by rw [mc_size hok]; omega)
  have hB : Blk (w.alloc (.cells (mc M) 28)) w.heap.size (mc M) 28 := Blk.new w _ _
  have hbw0 : Below w.heap.size w (w.alloc (.cells (mc M) 28)) := by (repeat (first | exact Below.refl _ _ | refine below_drew' ?_ | refine below_drewN' ?_ _ | refine below_alloc' ?_ _ | refine below_set' ?_ (by (try simp); (try omega)) _ | refine below_step ?_ (by assumption)))
  cases hm : isMach M
  · have Hc : Hid (pgC M s = 1) := Lib.hid (by simp [pgC, hm])
    have Hr : Hid (pgR M s = []) := Lib.hid (by simp [pgR, isGrp, hm])
    go_enter Try.func27, Try.ntmps27
    go_wp2_with (first | (with_reducible show wpList _ _ _ _ _ _; refine wpList_load_blk rfl 28 (.tmp 2) rfl w.heap.size 0 rfl (mc M) _ (hB) 98 F2.out _ Try.underlying28 rfl size_mach ?_; rw [F1.out]) | (go_at_call 29; refine (l01Is_calls M hok _).mono ?_; rintro e w1 ⟨rfl, hb1⟩; rw [hm]))
    go_ret2
    exact ⟨_, ret_vi Hc.out.symm, by rw [Hr.out]; exact OwnI.nil _ _, below_step hbw0 hb1⟩
  · obtain ⟨L, S, hg⟩ := Good.of hok hm
    obtain ⟨b, hb⟩ : ∃ b, grpOk S (rdI s) = b := ⟨_, rfl⟩
    have Hc : Hid (pgC M s = if b then 0 else 6) := Lib.hid (by simp [pgC, hm, isGrp, hg.hS, hb])
    have Hr : Hid (pgR M s = if b then rdI s else []) := Lib.hid (by simp [pgR, isGrp, hm, hg.hS, hb])
    have Hb := Lib.hid hb; clear hb
    cases b
    · go_enter Try.func27, Try.ntmps27
      go_wp2_with (first | (with_reducible show wpList _ _ _ _ _ _; refine wpList_load_blk rfl 28 (.tmp 2) rfl w.heap.size 0 rfl (mc M) _ (by first | exact hB1 | exact hB) 98 F2.out _ Try.underlying28 rfl size_mach ?_; rw [F1.out]) | (go_at_call 29; refine (l01Is_calls M hok _).mono ?_; rintro e w1 ⟨rfl, hb1⟩; rw [hm]; have hB1 := hB.keptAll hb1; have hbw1 := below_step hbw0 hb1) | (go_at_call 44; refine (l02Read_calls M L S hg s hs _).mono ?_; rintro e w2 ⟨v2, rfl, hO, hb2⟩; rw [Hb.out]))
      go_ret2
      exact ⟨_, ret_vi (by rw [Hc.out]; rfl), by rw [Hr.out]; exact OwnI.nil _ _, below_step hbw1 hb2⟩
    · go_enter Try.func27, Try.ntmps27
      go_wp2_with (first | (with_reducible show wpList _ _ _ _ _ _; refine wpList_load_blk rfl 28 (.tmp 2) rfl w.heap.size 0 rfl (mc M) _ (by first | exact hB1 | exact hB) 98 F2.out _ Try.underlying28 rfl size_mach ?_; rw [F1.out]) | (go_at_call 29; refine (l01Is_calls M hok _).mono ?_; rintro e w1 ⟨rfl, hb1⟩; rw [hm]; have hB1 := hB.keptAll hb1; have hbw1 := below_step hbw0 hb1) | (go_at_call 44; refine (l02Read_calls M L S hg s hs _).mono ?_; rintro e w2 ⟨v2, rfl, hO, hb2⟩; have hO2 := hO Hb.out; rw [Hb.out]; clear hO))
      go_ret2
      exact ⟨_, ret_vi (by rw [Hc.out]; rfl), by rw [Hr.out]; exact hO2.base_le hbw1.size, below_step hbw1 hb2⟩
end Go.Proofs.Ytoiadhenoankfaa
