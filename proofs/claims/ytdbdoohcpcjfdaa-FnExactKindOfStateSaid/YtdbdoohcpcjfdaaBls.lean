/- Slices of numbers of one's own, blocks of truth values: small words. -/
import Derived.Test.YtdbdoohcpcjfdaaInts
namespace Go.Proofs.Ytdbdoohcpcjfdaa
open Go.RowKit

theorem OwnI.base_le' {w : World} {base base' : Nat} {v : Value} {zs : List Int} (h : OwnI w base v zs) (hb : base' ≤ base) : OwnI w base' v zs := by
  refine ⟨h.1, ?_⟩
  rcases h.2 with h2 | ⟨g, cap, cur, hv', hg, r⟩
  · exact Or.inl h2
  · exact Or.inr ⟨g, cap, cur, hv', Nat.le_trans hb hg, r⟩
theorem ownI_ge {w : World} {base : Nat} {v : Value} {zs : List Int} (h : OwnI w base v zs) : ∀ k, v.ownBlock = some k → base ≤ k := fun k hk => (World.ownsRow.lt h k hk).1
theorem ownI_at {w w' : World} {base : Nat} {v : Value} {zs : List Int} (h : OwnI w base v zs) (hs : ∀ k, v.ownBlock = some k → w'.heap[k]? = w.heap[k]?) : OwnI w' base v zs := by
  refine ⟨h.1, ?_⟩
  rcases h.2 with h2 | ⟨g, cap, cur, hv', hg, hh, r⟩
  · exact Or.inl h2
  · exact Or.inr ⟨g, cap, cur, hv', hg, by rw [hs g (by rw [hv']; rfl)]; exact hh, r⟩
def bls (l : List Bool) : Array Value := (l.map Value.bool).toArray
theorem bls_set (l : List Bool) (i : Nat) (v : Bool) : bls (l.set i v) = (bls l).setIfInBounds i (.bool v) := by
  apply Array.ext'; simp [bls]
end Go.Proofs.Ytdbdoohcpcjfdaa
