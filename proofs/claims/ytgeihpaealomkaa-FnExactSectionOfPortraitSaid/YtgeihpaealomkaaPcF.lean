/- 'ActPortrait': the model, whole. -/
import Derived.Test.YtgeihpaealomkaaPcE
namespace Go.Proofs.Ytgeihpaealomkaa
open Go.RowKit

set_option maxRecDepth 100000 in
set_option maxHeartbeats 1000000 in
theorem l03Wordy_calls (d n : Int) (v : Value) (zs : List Int) (s : ByteArray) (most : Int) (w : World) (hv : SeesI w v zs) :
    Calls Try.prog 10 #[.int .i64 d, .int .i64 n, v, .string s, .int .i64 most] w fun e w' => e = .returned (.int .i64 (codeW d n zs s most)) ∧ Below w.heap.size w w' := by
  have hL := sees_one2 hv
  have hbw : Below w.heap.size w (w.alloc (.cells #[v] 22)) := by (repeat (first | exact Below.refl _ _ | refine below_drew' ?_ | refine below_drewN' ?_ _ | refine below_alloc' ?_ _ | refine below_set' ?_ (by (try simp); (try omega)) _ | refine below_step ?_ (by assumption)))
  have HC := Lib.hid (l03Code_calls d n _ _ (by simp) _ hL)
  rw [codeQ_one] at HC
  obtain ⟨oa, ca, hve, _⟩ := hv.view
  subst hve
  clear hv hL
  by_cases hc : codeP d n zs = 0
  · have hd := (codeP_zero d n zs hc).1
    obtain ⟨c, rfl⟩ := Int.eq_ofNat_of_zero_le (a := d) (by omega)
    have HR : Hid (codeW c n zs s most = (if wordB c s then (if most < (s.size : Int) then 2 else 0) else 1)) := Lib.hid (by unfold codeW; rw [if_pos hc, Int.toNat_natCast])
    rw [hc] at HC
    have hd3 : c ≤ 3 := by omega
    clear hc hd
    by_cases h40 : s.size ≤ 40
    · have h40i : ¬ (40 < (s.size : Int)) := by omega
      have HL := Lib.hid (fun W => l01Letters_calls c s hd3 h40 W)
      cases hl : lettersL c s.data.toList
      · have Hw : Hid (wordB c s = false) := Lib.hid (by unfold wordB; rw [hl]; simp)
        rw [hl] at HL
        clear hl
        go_enter Try.func10, Try.ntmps10
        go_wp2_with (first | (go_at_call 17; refine HC.out.mono ?_; rintro e w1 ⟨rfl, hb1⟩; have hbw1 := below_step hbw hb1) | (go_at_call 18; refine (HL.out _).mono ?_; rintro e w' ⟨rfl, rfl⟩))
        go_ret
        exact ⟨ret_one (by rw [HR.out, Hw.out]; rfl), hbw1⟩
      · have Hw : Hid (wordB c s = true) := Lib.hid (by unfold wordB; rw [hl]; simp [h40])
        rw [hl] at HL
        clear hl
        by_cases hm : most < (s.size : Int)
        · go_enter Try.func10, Try.ntmps10
          go_wp2_with (first | (go_at_call 17; refine HC.out.mono ?_; rintro e w1 ⟨rfl, hb1⟩; have hbw1 := below_step hbw hb1) | (go_at_call 18; refine (HL.out _).mono ?_; rintro e w' ⟨rfl, rfl⟩))
          go_ret
          exact ⟨ret_one (by rw [HR.out, Hw.out, if_pos rfl, if_pos hm]), hbw1⟩
        · go_enter Try.func10, Try.ntmps10
          go_wp2_with (first | (go_at_call 17; refine HC.out.mono ?_; rintro e w1 ⟨rfl, hb1⟩; have hbw1 := below_step hbw hb1) | (go_at_call 18; refine (HL.out _).mono ?_; rintro e w' ⟨rfl, rfl⟩))
          go_ret
          exact ⟨ret_one (by rw [HR.out, Hw.out, if_pos rfl, if_neg (by omega)]), hbw1⟩
    · have h40i : 40 < (s.size : Int) := by omega
      have Hw : Hid (wordB c s = false) := Lib.hid (by unfold wordB; simp [h40])
      go_enter Try.func10, Try.ntmps10
      go_wp2_with (go_at_call 17; refine HC.out.mono ?_; rintro e w1 ⟨rfl, hb1⟩; have hbw1 := below_step hbw hb1)
      go_ret
      exact ⟨ret_one (by rw [HR.out, Hw.out]; rfl), hbw1⟩
  · have HR : Hid (codeW d n zs s most = codeP d n zs) := Lib.hid (by unfold codeW; rw [if_neg hc])
    generalize codeP d n zs = cc at *
    have hcb : (cc == 0) = false := by simpa using hc
    go_enter Try.func10, Try.ntmps10
    go_wp2_with (go_at_call 17; refine HC.out.mono ?_; rintro e w1 ⟨rfl, hb1⟩; have hbw1 := below_step hbw hb1)
    go_ret
    exact ⟨ret_one HR.out.symm, hbw1⟩

end Go.Proofs.Ytgeihpaealomkaa
