/- 'AreEqualAcross': plain data. -/
import Derived.Test.YtkkooafjpancoaaAuP
import Derived.Test.YtkkooafjpancoaaChS
import Derived.Laws.StructEq
namespace Go.Proofs.Ytkkooafjpancoaa
open Go.RowKit

theorem twoC_zero {M J : Mach} {q r : Int} (h : twoC M q J r = 0) : isMach M = true ∧ isMach J = true ∧ inS M q = true ∧ inS J r = true ∧ M.L = J.L := by
  unfold twoC at h
  by_cases h1 : isMach M = true
  · by_cases h2 : isMach J = true
    · by_cases h3 : inS M q = true
      · by_cases h4 : inS J r = true
        · by_cases h5 : M.L = J.L
          · exact ⟨h1, h2, h3, h4, h5⟩
          · simp [h1, h2, h3, h4, h5] at h
        · simp [h1, h2, h3, h4] at h
      · simp [h1, h2, h3] at h
    · simp [h1, h2] at h
  · simp [h1] at h
theorem two_good {M J : Mach} (hok : M.Ok) (hoj : J.Ok) {q r : Int} (h : twoC M q J r = 0) : ∃ L S T qn rn, Good M L S ∧ Good J L T ∧ q = ((qn : Nat) : Int) ∧ r = ((rn : Nat) : Int) ∧ qn < S ∧ rn < T := by
  obtain ⟨h1, h2, h3, h4, h5⟩ := twoC_zero h
  obtain ⟨L, S, hM⟩ := Good.of hok h1
  obtain ⟨L2, T, hJ⟩ := Good.of hoj h2
  have e : L = L2 := by have a := hM.hL; have b := hJ.hL; omega
  subst e
  unfold inS at h3 h4
  rw [decide_eq_true_eq, hM.hS] at h3
  rw [decide_eq_true_eq, hJ.hS] at h4
  exact ⟨L, S, T, q.toNat, r.toNat, hM, hJ, (Int.toNat_of_nonneg h3.1).symm, (Int.toNat_of_nonneg h4.1).symm, by omega, by omega⟩
/-- The machine of a state, by the machine's own numbers. -/
def stN (M : Mach) (q : Int) : Mach := stM M M.L.toNat q.toNat
theorem stN_eq {M : Mach} {L S : Nat} (hg : Good M L S) (q : Nat) : stN M (q : Int) = stM M L q := by
  unfold stN; rw [hg.hL, Int.toNat_natCast, Int.toNat_natCast]
def acB (M : Mach) (q : Int) (J : Mach) (r : Int) : Bool := if twoC M q J r = 0 then decide (stN M q = stN J r) else false
theorem acB_no {M J : Mach} {q r : Int} (h : ¬ twoC M q J r = 0) : acB M q J r = false := by unfold acB; rw [if_neg h]
theorem acB_yes {M J : Mach} {q r : Int} (h : twoC M q J r = 0) : acB M q J r = decide (stN M q = stN J r) := by unfold acB; rw [if_pos h]
theorem exec_bld2 {P : Program} {a : Act} {o : Oper} (t : TypeId) (i0 i1 : Nat) (x0 x1 : Operand) (ho : o.op = .build t #[(i0, x0), (i1, x1)]) (v0 v1 : Value) (h0 : a.eval x0 = v0) (h1 : a.eval x1 = v1) (cells : Array Value) (hc : P.built t [(i0, v0), (i1, v1)] = some cells) (W : World) :
    (execOp a.eval o).run P W = .ok (.value (.agg cells)) W := by
  subst h0 h1
  have := run_build (P := P) W t #[(i0, a.eval x0), (i1, a.eval x1)] cells hc
  unfold execOp
  simp [ho, this]
theorem exec_eql {P : Program} {a : Act} {o : Oper} (t t2 : TypeId) (x0 x1 : Operand) (ho : o.op = .binOp .eql t x0 x1 t2) (xs ys : Array Value) (v : Value) (h0 : a.eval x0 = .agg xs) (h1 : a.eval x1 = .agg ys) (W : World) (hm : P.eqGuardType P.depth t = false) (h : (binOp .eql t (.agg xs) (.agg ys)).run P W = .ok v W) :
    (execOp a.eval o).run P W = .ok (.value v) W := by
  unfold execOp
  simp [ho, h0, h1, run_eqGuard_agg (w := W) _ _ _ _ _ _ hm, h]
end Go.Proofs.Ytkkooafjpancoaa
