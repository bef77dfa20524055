/- 'markInt64S' writes into its own block alone. -/
import Derived.Test.YtkhpfjamkkicoaaArgs
namespace Go.Proofs.Ytkhpfjamkkicoaa
open Go.RowKit

theorem eqInt64S_same (a b : Value) (ba bb : Nat) (zs : List Int) (w : World) (ha : OwnI w ba a zs) (hb : OwnI w bb b zs) :
    Calls Try.prog 11 #[a, b] w fun e w' => e = .returned (.bool true) ∧ Below w.heap.size w w' :=
  (eqInt64S_calls a b ba bb zs zs w ha hb).mono fun e w' h => ⟨by rw [h.1]; simp, h.2⟩
theorem OwnI.other {w w' : World} {base : Nat} {v a : Value} {zs : List Int} (h : OwnI w base v zs) (hs : ∀ b, a.ownBlock ≠ some b → w'.heap[b]? = w.heap[b]?) (hne : ∀ k, v.ownBlock = some k → a.ownBlock = some k → False) : OwnI w' base v zs := by
  refine ⟨h.1, ?_⟩
  rcases h.2 with h2 | ⟨g, cap, cur, hv', hg, hh, r⟩
  · exact Or.inl h2
  · refine Or.inr ⟨g, cap, cur, hv', hg, ?_, r⟩
    rw [hs g (fun e => hne g (by rw [hv']; rfl) e)]; exact hh

end Go.Proofs.Ytkhpfjamkkicoaa
