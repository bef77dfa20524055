/- A portrait and a word: their code, in the program. -/
import Derived.Test.YtcloljaebidnlaaDoorPcA
namespace Go.Proofs.YtcloljaebidnlaaDoor
open Go.RowKit

def codeW (d n : Int) (zs : List Int) (s : ByteArray) (most : Int) : Int := if codeP d n zs = 0 then (if wordB d.toNat s then (if most < (s.size : Int) then 2 else 0) else 1) else codeP d n zs
theorem codeP_zero (d n : Int) (zs : List Int) (h : codeP d n zs = 0) : (2 ≤ d ∧ d ≤ 3) ∧ (1 ≤ n ∧ n ≤ 4) ∧ isP d.toNat n.toNat zs = true := by
  unfold codeP at h
  split at h
  · rename_i h1
    simp only [Bool.and_eq_true, decide_eq_true_eq] at h1
    split at h
    · rename_i h2
      have := (isAlpha_iff d).1 h1.1
      exact ⟨by omega, h1.2, h2⟩
    · omega
  · omega

set_option maxRecDepth 100000 in
set_option maxHeartbeats 1000000 in
theorem checkWord_calls (d n : Int) (v : Value) (zs : List Int) (s : ByteArray) (most : Int) (w : World) (hv : SeesI w v zs) :
    Calls Tryd.prog 25 #[.int .i64 d, .int .i64 n, v, .string s, .int .i64 most] w fun e w' => e = .returned (.int .i64 (codeW d n zs s most)) ∧ Below w.heap.size w w' := by
  have hE : Blk (w.alloc (.cells #[v] 22)) w.heap.size #[v] 22 := Blk.new _ _ _
  have hbw : Below w.heap.size w (w.alloc (.cells #[v] 22)) := by (repeat (first | exact Below.refl _ _ | refine below_drew' ?_ | refine below_drewN' ?_ _ | refine below_alloc' ?_ _ | refine below_set' ?_ (by (try simp); (try omega)) _ | refine below_step ?_ (by assumption)))
  have hv2 : SeesI (w.alloc (.cells #[v] 22)) v zs := hv.below hbw
  obtain ⟨oa, ca, hve, _⟩ := hv.view
  subst hve
  have Hv := Lib.hid hv2; clear hv hv2
  have HC := Lib.hid (checkPortraits_calls d n _ zs _ Hv.out w.heap.size hE)
  by_cases hc : codeP d n zs = 0
  · have hd := (codeP_zero d n zs hc).1
    obtain ⟨c, rfl⟩ := Int.eq_ofNat_of_zero_le (a := d) (by omega)
    have HW := Lib.hid (fun W => isWord_calls c s (by omega) W)
    have HR : Hid (codeW c n zs s most = (if wordB c s then (if most < (s.size : Int) then 2 else 0) else 1)) := Lib.hid (by unfold codeW; rw [if_pos hc, Int.toNat_natCast])
    rw [hc] at HC
    clear hc hd
    cases hw : wordB c s
    · rw [hw] at HW HR
      clear hw
      go_enter Tryd.func25, Tryd.ntmps25
      go_wp2_with (first | (go_at_call 30; refine HC.out.mono ?_; rintro e w1 ⟨rfl, hb1⟩; have hbw1 := below_step hbw hb1) | (go_at_call 38; refine (HW.out _).mono ?_; rintro e w' ⟨rfl, rfl⟩))
      go_ret
      exact ⟨ret_one HR.out.symm, hbw1⟩
    · rw [hw] at HW HR
      clear hw
      by_cases hm : most < (s.size : Int)
      · rw [if_pos rfl, if_pos hm] at HR
        go_enter Tryd.func25, Tryd.ntmps25
        go_wp2_with (first | (go_at_call 30; refine HC.out.mono ?_; rintro e w1 ⟨rfl, hb1⟩; have hbw1 := below_step hbw hb1) | (go_at_call 38; refine (HW.out _).mono ?_; rintro e w' ⟨rfl, rfl⟩))
        go_ret
        exact ⟨ret_one HR.out.symm, hbw1⟩
      · rw [if_pos rfl, if_neg hm] at HR
        go_enter Tryd.func25, Tryd.ntmps25
        go_wp2_with (first | (go_at_call 30; refine HC.out.mono ?_; rintro e w1 ⟨rfl, hb1⟩; have hbw1 := below_step hbw hb1) | (go_at_call 38; refine (HW.out _).mono ?_; rintro e w' ⟨rfl, rfl⟩))
        go_ret
        exact ⟨ret_one HR.out.symm, hbw1⟩
  · have HR : Hid (codeW d n zs s most = codeP d n zs) := Lib.hid (by unfold codeW; rw [if_neg hc])
    generalize codeP d n zs = cc at *
    have hcb : (cc != 0) = true := by simpa using hc
    go_enter Tryd.func25, Tryd.ntmps25
    go_wp2_with (go_at_call 30; refine HC.out.mono ?_; rintro e w1 ⟨rfl, hb1⟩; have hbw1 := below_step hbw hb1)
    go_ret
    exact ⟨ret_one HR.out.symm, hbw1⟩
end Go.Proofs.YtcloljaebidnlaaDoor
