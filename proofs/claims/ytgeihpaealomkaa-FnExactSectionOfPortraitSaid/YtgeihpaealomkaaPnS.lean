/- 'PermutationNumber': the model. -/
import Derived.Test.YtgeihpaealomkaaPnA
import Derived.Test.YtgeihpaealomkaaEqM
namespace Go.Proofs.Ytgeihpaealomkaa
open Go.RowKit

def byte3 (l : List Int) : Prop := l.length = 3 ∧ ∀ j, j < 3 → 0 ≤ l.getD j 0 ∧ l.getD j 0 ≤ 255
section
variable {P : Program} {ops : Array Oper} {rest : List Oper} {o : Oper} {a : Act} {w : World} {Q : Exit → Act → World → Prop}
/-- A value built of parts, told by the kernel. -/
theorem wpList_build (hgd : o.guard = none) (t : TypeId) {ps : Array (Nat × Operand)} (_ho : o.op = .build t ps) (v : Value) (hrun : (execOp a.eval o).run P w = .ok (.value v) w) (h : wpList P ops Q rest (a.put o.dst v) w) : wpList P ops Q (o :: rest) a w := by
  refine wpList_plain hgd fun K hK => ?_
  unfold Oper.wp
  rw [hrun]
  exact hK _ _ h
end
def z18 : List Int := List.replicate 18 0
def sTwo : List (List Int) := [[0, 1, 0], [1, 0, 0]]
def sRow (d k : Nat) : List Int := if d = 2 then sTwo.getD k [] else tabThree.getD k []
theorem sRow_ok (d k : Nat) (hd : d = 2 ∨ d = 3) (hk : k < cN d) : byte3 (sRow d k) := by
  have h2 : ∀ k, k < 2 → (sRow 2 k).length = 3 ∧ ∀ j, j < 3 → 0 ≤ (sRow 2 k).getD j 0 ∧ (sRow 2 k).getD j 0 ≤ 255 := by decide
  have h3 : ∀ k, k < 6 → (sRow 3 k).length = 3 ∧ ∀ j, j < 3 → 0 ≤ (sRow 3 k).getD j 0 ∧ (sRow 3 k).getD j 0 ≤ 255 := by decide
  rcases hd with rfl | rfl
  · exact h2 k hk
  · exact h3 k hk
end Go.Proofs.Ytgeihpaealomkaa
