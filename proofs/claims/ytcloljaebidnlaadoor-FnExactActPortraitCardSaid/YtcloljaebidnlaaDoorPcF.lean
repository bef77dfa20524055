/- 'ActPortrait': the model, whole. -/
import Derived.Test.YtcloljaebidnlaaDoorPcE
namespace Go.Proofs.YtcloljaebidnlaaDoor
open Go.RowKit

set_option maxRecDepth 100000 in
set_option maxHeartbeats 1000000 in
theorem l03Wordy_calls (d n : Int) (v : Value) (zs : List Int) (s : ByteArray) (most : Int) (w : World) (hv : SeesI w v zs) :
    Calls Tryd.prog 23 #[.int .i64 d, .int .i64 n, v, .string s, .int .i64 most] w fun e w' => e = .returned (.int .i64 (codeW d n zs s most)) ∧ Below w.heap.size w w' := by
  have hL := sees_one hv
  have hbw : Below w.heap.size w (w.alloc (.cells #[v] 22)) := by (repeat (first | exact Below.refl _ _ | refine below_drew' ?_ | refine below_drewN' ?_ _ | refine below_alloc' ?_ _ | refine below_set' ?_ (by (try simp); (try omega)) _ | refine below_step ?_ (by assumption)))
  have HC := Lib.hid (l03Code_calls d n _ _ (by simp) _ hL)
  rw [codeQ_one] at HC
  obtain ⟨oa, ca, hve, _⟩ := hv.view
  subst hve
  clear hv hL
  by_cases hc : codeP d n zs = 0
  · have hd := (codeP_zero d n zs hc).1
    obtain ⟨c, rfl⟩ := Int.eq_ofNat_of_zero_le (a := d) (by omega)
    have HR : Hid (codeW c n zs s most = (if wordB c s then (if most < (s.size : Int) then 2 else 0) else 1)) := Lib.hid (by unfold codeW; rw [if_pos hc, Int.toNat_natCast])
    rw [hc] at HC
    have hd3 : c ≤ 3 := by omega
    clear hc hd
    by_cases h40 : s.size ≤ 40
    · have h40i : ¬ (40 < (s.size : Int)) := by omega
      have HL := Lib.hid (fun W => l01Letters_calls c s hd3 h40 W)
      cases hl : lettersL c s.data.toList
      · have Hw : Hid (wordB c s = false) := Lib.hid (by unfold wordB; rw [hl]; simp)
        rw [hl] at HL
        clear hl
        go_enter Tryd.func23, Tryd.ntmps23
        go_wp2_with (first | (go_at_call 27; refine HC.out.mono ?_; rintro e w1 ⟨rfl, hb1⟩; have hbw1 := below_step hbw hb1) | (go_at_call 36; refine (HL.out _).mono ?_; rintro e w' ⟨rfl, rfl⟩))
        go_ret
        exact ⟨ret_one (by rw [HR.out, Hw.out]; rfl), hbw1⟩
      · have Hw : Hid (wordB c s = true) := Lib.hid (by unfold wordB; rw [hl]; simp [h40])
        rw [hl] at HL
        clear hl
        by_cases hm : most < (s.size : Int)
        · go_enter Tryd.func23, Tryd.ntmps23
          go_wp2_with (first | (go_at_call 27; refine HC.out.mono ?_; rintro e w1 ⟨rfl, hb1⟩; have hbw1 := below_step hbw hb1) | (go_at_call 36; refine (HL.out _).mono ?_; rintro e w' ⟨rfl, rfl⟩))
          go_ret
          exact ⟨ret_one (by rw [HR.out, Hw.out, if_pos rfl, if_pos hm]), hbw1⟩
        · go_enter Tryd.func23, Tryd.ntmps23
          go_wp2_with (first | (go_at_call 27; refine HC.out.mono ?_; rintro e w1 ⟨rfl, hb1⟩; have hbw1 := below_step hbw hb1) | (go_at_call 36; refine (HL.out _).mono ?_; rintro e w' ⟨rfl, rfl⟩))
          go_ret
          exact ⟨ret_one (by rw [HR.out, Hw.out, if_pos rfl, if_neg (by omega)]), hbw1⟩
    · have h40i : 40 < (s.size : Int) := by omega
      have Hw : Hid (wordB c s = false) := Lib.hid (by unfold wordB; simp [h40])
      go_enter Tryd.func23, Tryd.ntmps23
      go_wp2_with (go_at_call 27; refine HC.out.mono ?_; rintro e w1 ⟨rfl, hb1⟩; have hbw1 := below_step hbw hb1)
      go_ret
      exact ⟨ret_one (by rw [HR.out, Hw.out]; rfl), hbw1⟩
  · have HR : Hid (codeW d n zs s most = codeP d n zs) := Lib.hid (by unfold codeW; rw [if_neg hc])
    generalize codeP d n zs = cc at *
    have hcb : (cc == 0) = false := by simpa using hc
    go_enter Tryd.func23, Tryd.ntmps23
    go_wp2_with (go_at_call 27; refine HC.out.mono ?_; rintro e w1 ⟨rfl, hb1⟩; have hbw1 := below_step hbw hb1)
    go_ret
    exact ⟨ret_one HR.out.symm, hbw1⟩

set_option maxRecDepth 100000 in
set_option maxHeartbeats 1000000 in
theorem sActPortrait_calls (d n : Int) (v : Value) (zs : List Int) (s : ByteArray) (w : World) (hv : SeesI w v zs) :
    Calls Tryd.prog 10 #[.int .i64 d, .int .i64 n, v, .string s] w fun e w' => e = .returned (.tuple #[.string (actR d n zs s), .int .i64 (codeW d n zs s n)]) ∧ Below w.heap.size w w' := by
  obtain ⟨oa, ca, hve, _⟩ := hv.view
  subst hve
  have Hv := Lib.hid hv
  have HC := Lib.hid (l03Wordy_calls d n _ zs s n w hv)
  clear hv
  by_cases hc : codeW d n zs s n = 0
  · obtain ⟨h1, h2, h3⟩ := codeW_zero d n zs s n hc
    obtain ⟨k1, k2, k3⟩ := codeP_zero d n zs h1
    have HR : Hid (actR d n zs s = actS d.toNat zs s) := Lib.hid (by unfold actR; rw [if_pos hc])
    have Hc := Lib.hid hc
    obtain ⟨m, rfl⟩ := Int.eq_ofNat_of_zero_le (a := n) (by omega)
    obtain ⟨c, rfl⟩ := Int.eq_ofNat_of_zero_le (a := d) (by omega)
    rw [Int.toNat_natCast] at *
    rw [Int.toNat_natCast] at *
    have HL := Lib.hid (fun W h1' => l03Act_calls c m (by omega) (by omega) zs k3 (.slice oa zs.length ca) s (by omega) h2 W h1')
    rw [hc] at HC
    clear h1 h2 h3 k1 k2 k3 hc
    go_enter Tryd.func10, Tryd.ntmps10
    go_wp2_with (first | (go_at_call 23; refine HC.out.mono ?_; rintro e w1 ⟨rfl, hb1⟩) | (go_at_call 24; refine (HL.out _ (Hv.out.below hb1)).mono ?_; rintro e w2 ⟨rfl, hb2⟩; have hbw2 := below_step hb1 hb2))
    go_ret2
    exact ⟨ret_st HR.out.symm Hc.out.symm, hbw2⟩
  · have HR : Hid (actR d n zs s = ByteArray.empty) := Lib.hid (by unfold actR; rw [if_neg hc])
    have hcb : (codeW d n zs s n != 0) = true := by simpa using hc
    generalize codeW d n zs s n = cc at *
    go_enter Tryd.func10, Tryd.ntmps10
    go_wp2_with (go_at_call 23; refine HC.out.mono ?_; rintro e w1 ⟨rfl, hb1⟩)
    go_ret2
    exact ⟨ret_st HR.out.symm rfl, hb1⟩
end Go.Proofs.YtcloljaebidnlaaDoor
