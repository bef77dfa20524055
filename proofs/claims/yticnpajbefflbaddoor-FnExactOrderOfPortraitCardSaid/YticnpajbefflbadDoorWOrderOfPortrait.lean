/- The statement on 'OrderOfPortrait', walked. -/
import Derived.Test.YticnpajbefflbadDoorMarks
import Derived.Test.YticnpajbefflbadDoorOrdP
namespace Go.Proofs.YticnpajbefflbadDoor
open Go.RowKit

set_option maxRecDepth 100000 in
set_option maxHeartbeats 2000000 in
theorem lawOrderOfPortrait (d : Int) (_wd : (Lit.int .i64 d).wf = true) (n : Int) (_wn : (Lit.int .i64 n).wf = true) (v : Value) (zs : List Int) (w : World) (ha : ArgI w v zs) (hT : TabsAt w) :
    Calls Tryd.prog 3 #[.int .i64 d, .int .i64 n, v] w fun e w' => e = .returned (.bool true) ∧ Below w.heap.size w w' := by
  obtain ⟨oa, ca, rfl, hb0⟩ := ha.2; clear hb0
  by_cases hn : zs.length ≤ 1048576
  rotate_left
  · have hf : 1048576 < (zs.length : Int) := by omega
    go_enter Tryd.func3, Tryd.ntmps3
    go_wp2
    go_ret
    exact ⟨rfl, by (repeat (first | exact Below.refl _ _ | refine below_drew' ?_ | refine below_drewN' ?_ _ | refine below_alloc' ?_ _ | refine below_set' ?_ (by (try simp); (try omega)) _ | refine below_step ?_ (by assumption)))⟩
  have hf : ¬ (1048576 < (zs.length : Int)) := by omega
  have T1 := Lib.hid trivial; have T2 := Lib.hid trivial; have T3 := Lib.hid trivial
  go_enter Tryd.func3, Tryd.ntmps3
  go_wp2_with (first | (go_at_call 5; first | (clear T1; refine (toInt64S_calls _ zs _ ha hn).mono ?_; rintro e w1 ⟨v1, rfl, hO1, hb1⟩; have hbw1 := hb1; have ha1 := ha.below hb1; have hT1 := hT.below hb1) | (clear T2; refine (toInt64S_calls _ zs _ ha2 hn).mono ?_; rintro e w3 ⟨v3, rfl, hO3, hb3⟩; have hbw3 := below_step hbw2 hb3; have ha3 := ha2.below hb3; have hT3 := hT2.below hb3) | (clear T3; refine (toInt64S_calls _ zs _ ha4 hn).mono ?_; rintro e w5 ⟨v5, rfl, hO5, hb5⟩; have hbw5 := below_step hbw4 hb5; have hX5 := hX4.below hb5)) | (go_at_call 4; refine (sOrderOfPortrait_calls d n _ zs _ hO1.sees).mono ?_; rintro e w2 ⟨rfl, hb2⟩; have hbw2 := below_step hbw1 hb2; have ha2 := ha1.below hb2; have hT2 := hT1.below hb2) | (go_at_call 6; refine (iOrderOfPortrait_calls d n _ zs _ hO3.sees hT3).mono ?_; rintro e w4 ⟨rfl, hb4⟩; have hbw4 := below_step hbw3 hb4; have ha4 := ha3.below hb4; have hX4 := hO3.below hb4) | (go_at_call 7; refine (eqInt64S_same _ _ _ _ _ _ hX5 hO5).mono ?_; rintro e w6 ⟨rfl, hb6⟩; have hbw6 := below_step hbw5 hb6))
  go_ret
  exact ⟨rfl, hbw6⟩
end Go.Proofs.YticnpajbefflbadDoor
