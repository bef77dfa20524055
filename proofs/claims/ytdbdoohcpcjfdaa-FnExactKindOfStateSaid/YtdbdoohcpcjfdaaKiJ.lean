/- 'greaterKind', 'isBounded'; the passages of a machine, as they lie in memory: the program. -/
import Derived.Test.YtdbdoohcpcjfdaaKiI
import Derived.Shelf.Abstract
import Derived.BigQuiet
namespace Go.Proofs.Ytdbdoohcpcjfdaa
open Go.RowKit Go.Shelf

theorem num_of (n : Nat) : ∃ (t : TypeId) (rc : Value) (f : FuncId), kV n = .iface t rc ∧ (∀ w : World, (method 235 t rc "loop.example/g01244/impl.numbers").run Try.prog w = .ok (f, rc) w) ∧ (∀ args w, (callFunc f args).run Try.prog w = .ok (.enter f args) w) ∧
    ∀ w : World, Calls Try.prog f #[rc] w fun e w' => ∃ v, e = .returned v ∧ OwnI w' w.heap.size v [kN0 n, kN1 n] ∧ Below w.heap.size w w' := by
  by_cases h0 : n = 0
  · subst h0
    exact ⟨_, _, _, kV_fin, mthF, enters_of Try.func104 (by kernel_rfl) rfl, finNum⟩
  · by_cases hE : n = kE
    · subst hE
      exact ⟨_, _, _, kV_exp, mthE, enters_of Try.func107 (by kernel_rfl) rfl, expNum⟩
    · obtain ⟨e0, e1⟩ := kN_P h0 hE
      rw [e0, e1]
      exact ⟨_, _, _, kV_pol h0 hE, mthP _, enters_of Try.func77 (by kernel_rfl) rfl, polNum _⟩
theorem cyc_of (n : Nat) (hn : n = kE ∨ n < kE - 1) : ∃ (t : TypeId) (rc : Value) (f : FuncId), kV n = .iface t rc ∧ (∀ w : World, (method 235 t rc "loop.example/g01244/impl.withCycle").run Try.prog w = .ok (f, rc) w) ∧ (∀ args w, (callFunc f args).run Try.prog w = .ok (.enter f args) w) ∧
    ∀ w : World, Calls Try.prog f #[rc] w fun e w' => e = .returned (kV (kCyc n)) ∧ Below w.heap.size w w' := by
  by_cases h0 : n = 0
  · subst h0
    exact ⟨_, _, _, kV_fin, mthFc, enters_of Try.func105 (by kernel_rfl) rfl, finCyc⟩
  · by_cases hE : n = kE
    · subst hE
      exact ⟨_, _, _, kV_exp, mthEc, enters_of Try.func108 (by kernel_rfl) rfl, expCyc⟩
    · exact ⟨_, _, _, kV_pol h0 hE, mthPc _, enters_of Try.func106 (by kernel_rfl) rfl, polCyc n h0 (hn.resolve_left hE)⟩
theorem ret_kV {n m : Nat} (h : n = m) : Ending.returned (kV n) = Ending.returned (kV m) := by rw [h]

set_option maxRecDepth 100000 in
set_option maxHeartbeats 1000000 in
theorem greaterKind_calls (a b : Nat) (ha : a ≤ kE) (hb : b ≤ kE) (w : World) :
    Calls Try.prog 86 #[kV a, kV b] w fun e w' => e = .returned (kV (max a b)) ∧ Below w.heap.size w w' := by
  obtain ⟨t1, r1, f1, e1, m1, cf1, n1⟩ := num_of a
  obtain ⟨t2, r2, f2, e2, m2, cf2, n2⟩ := num_of b
  have Hc := Lib.hid (c2_kN ha hb)
  have N1 := Lib.hid n1
  have N2 := Lib.hid n2
  have HC := Lib.hid (fun v1 v2 W h1 h2 => Compare_calls v1 v2 (kN0 a) (kN1 a) (kN0 b) (kN1 b) W h1 h2)
  rw [Hc.out] at HC
  have E1 := Lib.hid e1
  have E2 := Lib.hid e2
  clear n1 n2 e1 e2
  rw [E1.out, E2.out]
  by_cases hlt : a < b
  · have Hr : Hid (kV (max a b) = .iface t2 r2) := Lib.hid (by rw [show max a b = b by omega]; exact E2.out)
    rw [show c1 (a : Int) (b : Int) = -1 by unfold c1; rw [if_pos (by omega)]] at HC
    clear hlt ha hb
    go_enter Try.func86, Try.ntmps86
    go_wp2_with (first | (with_reducible refine (N1.out _).mono ?_; rintro e w1 ⟨v1, rfl, hO1, hb1⟩; clear N1) | (with_reducible refine (N2.out _).mono ?_; rintro e w2 ⟨v2, rfl, hO2, hb2⟩) | (go_at_call 76; refine (HC.out _ _ _ (hO1.below hb2).sees hO2.sees).mono ?_; rintro e w3 ⟨rfl, rfl⟩))
    go_ret
    exact ⟨by rw [Hr.out]; rfl, below_step hb1 hb2⟩
  · have Hr : Hid (kV (max a b) = .iface t1 r1) := Lib.hid (by rw [show max a b = a by omega]; exact E1.out)
    have hc : ¬ (c1 (a : Int) (b : Int) < 0) := by
      unfold c1
      rw [if_neg (by omega)]
      split <;> omega
    generalize c1 (a : Int) (b : Int) = cc at *
    clear hlt ha hb
    go_enter Try.func86, Try.ntmps86
    go_wp2_with (first | (with_reducible refine (N1.out _).mono ?_; rintro e w1 ⟨v1, rfl, hO1, hb1⟩; clear N1) | (with_reducible refine (N2.out _).mono ?_; rintro e w2 ⟨v2, rfl, hO2, hb2⟩) | (go_at_call 76; refine (HC.out _ _ _ (hO1.below hb2).sees hO2.sees).mono ?_; rintro e w3 ⟨rfl, rfl⟩))
    go_ret
    exact ⟨by rw [Hr.out]; rfl, below_step hb1 hb2⟩

set_option maxRecDepth 100000 in
set_option maxHeartbeats 1000000 in
theorem isBounded_calls (a : Nat) (ha : a ≤ kE) (w : World) :
    Calls Try.prog 55 #[kV a] w fun e w' => e = .returned (.bool (decide (a ≤ 1))) ∧ Below w.heap.size w w' := by
  have hE : kE = 1000 := rfl
  obtain ⟨t1, r1, f1, e1, m1, cf1, n1⟩ := num_of a
  have Hc := Lib.hid (c2_kN (b := 1) ha (by omega))
  have N1 := Lib.hid n1
  have N2 := Lib.hid (fun W => polNum 0 W)
  have HC := Lib.hid (fun v1 v2 W h1 h2 => Compare_calls v1 v2 (kN0 a) (kN1 a) 1 0 W h1 h2)
  have Hc2 : Hid (c2 (kN0 a) (kN1 a) 1 0 = c1 (a : Int) 1) := Lib.hid Hc.out
  rw [Hc2.out] at HC
  have E1 := Lib.hid e1
  have hle : decide (c1 (a : Int) 1 ≤ 0) = decide (a ≤ 1) := by
    refine decide_eq_decide.2 ?_
    unfold c1
    split
    · omega
    · split <;> omega
  have Hle := Lib.hid hle
  clear n1 e1 hle hE
  rw [E1.out]
  generalize c1 (a : Int) 1 = cc at *
  go_enter Try.func55, Try.ntmps55
  go_wp2_with (first | (with_reducible refine (N1.out _).mono ?_; rintro e w1 ⟨v1, rfl, hO1, hb1⟩; clear N1) | (go_at_call 77; refine (N2.out _).mono ?_; rintro e w2 ⟨v2, rfl, hO2, hb2⟩) | (go_at_call 76; refine (HC.out _ _ _ (hO1.below hb2).sees hO2.sees).mono ?_; rintro e w3 ⟨rfl, rfl⟩))
  go_ret
  exact ⟨by rw [← Hle.out]; rfl, below_step hb1 hb2⟩
end Go.Proofs.Ytdbdoohcpcjfdaa
