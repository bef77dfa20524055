/- Letters led by group words: the program's steps, the model's 'l02Led'. -/
import Derived.Test.YtcloljaebidnlaaDoorStepG
import Derived.Test.YtcloljaebidnlaaDoorArgs
import Derived.Laws.EntriesVeiled
namespace Go.Proofs.YtcloljaebidnlaaDoor
open Go.RowKit

theorem made_steps (n : Nat) : madeCells (Value.nilFunc).cells n = (List.replicate n Value.nilFunc).toArray := by
  apply Array.ext
  · simp [madeCells, Value.cells]
  · intro i h1 h2
    simp [madeCells, Value.cells, Nat.mod_one]
/-- Small numbers. -/
def smallG (zs : List Int) : Prop := ∀ z ∈ zs, -16 ≤ z ∧ z ≤ 16
theorem smallG_of {S : Nat} (hS : S ≤ 16) {zs : List Int} (h : numsOk S zs = true) : smallG zs := fun z hz => by
  have := (numOk_iff _ _).1 ((List.all_eq_true.1 h) z hz); omega

end Go.Proofs.YtcloljaebidnlaaDoor
