/- 'MultiplyPortraits': the model. -/
import Derived.Test.YtgeihpaealomkaaDoorMuI
namespace Go.Proofs.YtgeihpaealomkaaDoor
open Go.RowKit

theorem muR_len (d n : Int) (xs ys : List Int) : (muR d n xs ys).length ≤ 100000 := by
  unfold muR
  split
  · rename_i h
    obtain ⟨h1, h2, _⟩ := codeM_zero d n xs ys h
    exact Nat.le_trans (allB_len _ d.toNat n.toNat (by omega) (by omega)) (by omega)
  · simp

set_option maxRecDepth 100000 in
set_option maxHeartbeats 1000000 in
theorem sMultiply_calls (d n : Int) (va vb : Value) (xs ys : List Int) (w : World) (hva : SeesI w va xs) (hvb : SeesI w vb ys) :
    Calls Tryd.prog 16 #[.int .i64 d, .int .i64 n, va, vb] w fun e w' => ∃ v1, e = .returned (.tuple #[v1, .int .i64 (codeM d n xs ys)]) ∧ OwnI w' w.heap.size v1 (muR d n xs ys) ∧ Below w.heap.size w w' := by
  have hL := sees_two2 hva hvb
  have hbw : Below w.heap.size w (w.alloc (.cells #[va, vb] 26)) := by (repeat (first | exact Below.refl _ _ | refine below_drew' ?_ | refine below_drewN' ?_ _ | refine below_alloc' ?_ _ | refine below_set' ?_ (by (try simp); (try omega)) _ | refine below_step ?_ (by assumption)))
  have HC := Lib.hid (l03Code_calls d n _ _ (by simp) _ hL)
  rw [codeQ_two] at HC
  obtain ⟨oa, ca, hve, _⟩ := hva.view
  subst hve
  obtain ⟨ob, cb, hve, _⟩ := hvb.view
  subst hve
  have Hva := Lib.hid hva
  have Hvb := Lib.hid hvb
  clear hva hvb hL
  by_cases hc : codeM d n xs ys = 0
  · obtain ⟨k1, k2, k3, k4⟩ := codeM_zero d n xs ys hc
    have HR : Hid (muR d n xs ys = allB (muV d.toNat xs ys) d.toNat n.toNat) := Lib.hid (by unfold muR; rw [if_pos hc])
    have Hc := Lib.hid hc
    obtain ⟨m, rfl⟩ := Int.eq_ofNat_of_zero_le (a := n) (by omega)
    obtain ⟨c, rfl⟩ := Int.eq_ofNat_of_zero_le (a := d) (by omega)
    rw [Int.toNat_natCast] at *
    rw [Int.toNat_natCast] at *
    rw [hc] at HC
    have HL := Lib.hid (fun W h1 h2 => l03Product_calls c m (by omega) (by omega) xs ys k3 k4 (.slice oa xs.length ca) (.slice ob ys.length cb) W h1 h2)
    clear k1 k2 k3 k4 hc
    go_enter Tryd.func16, Tryd.ntmps16
    go_wp2_with (first | (go_at_call 40; refine HC.out.mono ?_; rintro e w1 ⟨rfl, hb1⟩; have hbw1 := below_step hbw hb1) | (go_at_call 41; refine (HL.out _ (Hva.out.below hbw1) (Hvb.out.below hbw1)).mono ?_; rintro e w2 ⟨v1, rfl, hO2, hb2⟩; have hbw2 := below_step hbw1 hb2))
    go_ret2
    exact ⟨_, ret_lw Hc.out.symm, by rw [HR.out]; exact hO2.base_le' hbw1.size, hbw2⟩
  · have HR : Hid (muR d n xs ys = []) := Lib.hid (by unfold muR; rw [if_neg hc])
    have hcb : (codeM d n xs ys != 0) = true := by simpa using hc
    generalize codeM d n xs ys = cc at *
    go_enter Tryd.func16, Tryd.ntmps16
    go_wp2_with (go_at_call 40; refine HC.out.mono ?_; rintro e w1 ⟨rfl, hb1⟩)
    go_ret2
    exact ⟨_, rfl, by rw [HR.out]; exact OwnI.nil _ _, below_step hbw hb1⟩
theorem sMul_calls (d n : Int) (va : Value) (xs : List Int) (vb : Value) (ys : List Int) (w : World) (hva : SeesI w va xs) (hvb : SeesI w vb ys) :
    Calls Tryd.prog 16 #[.int .i64 d, .int .i64 n, va, vb] w fun e w' => ∃ v1, e = .returned (.tuple #[v1, .int .i64 (codeM d n xs ys)]) ∧ OwnI w' w.heap.size v1 (muR d n xs ys) ∧ Below w.heap.size w w' := sMultiply_calls d n va vb xs ys w hva hvb
theorem iMul_calls (d n : Int) (va : Value) (xs : List Int) (vb : Value) (ys : List Int) (w : World) (hva : SeesI w va xs) (hvb : SeesI w vb ys) (hT : TabsAt w) :
    Calls Tryd.prog 18 #[.int .i64 d, .int .i64 n, va, vb] w fun e w' => ∃ v1, e = .returned (.tuple #[v1, .int .i64 (codeM d n xs ys)]) ∧ OwnI w' w.heap.size v1 (muR d n xs ys) ∧ Below w.heap.size w w' := iMultiply_calls d n va vb xs ys w hva hvb hT
end Go.Proofs.YtgeihpaealomkaaDoor
