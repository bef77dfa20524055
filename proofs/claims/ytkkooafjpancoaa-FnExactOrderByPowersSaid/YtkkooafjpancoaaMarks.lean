/- 'markInt64S' writes into its own block alone. -/
import Derived.Test.YtkkooafjpancoaaArgs
namespace Go.Proofs.Ytkkooafjpancoaa
open Go.RowKit

theorem OwnI.other {w w' : World} {base : Nat} {v a : Value} {zs : List Int} (h : OwnI w base v zs) (hs : ∀ b, a.ownBlock ≠ some b → w'.heap[b]? = w.heap[b]?) (hne : ∀ k, v.ownBlock = some k → a.ownBlock = some k → False) : OwnI w' base v zs := by
  refine ⟨h.1, ?_⟩
  rcases h.2 with h2 | ⟨g, cap, cur, hv', hg, hh, r⟩
  · exact Or.inl h2
  · refine Or.inr ⟨g, cap, cur, hv', hg, ?_, r⟩
    rw [hs g (fun e => hne g (by rw [hv']; rfl) e)]; exact hh

end Go.Proofs.Ytkkooafjpancoaa
