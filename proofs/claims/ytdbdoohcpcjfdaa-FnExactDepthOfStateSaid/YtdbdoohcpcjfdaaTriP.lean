/- 'TrivialStates': the model. -/
import Derived.Test.YtdbdoohcpcjfdaaTriS
import Derived.Test.YtdbdoohcpcjfdaaMachD
namespace Go.Proofs.Ytdbdoohcpcjfdaa
open Go.RowKit

theorem ret_li' {v : Value} {m m' : Int} (h' : m = m') : Ending.returned (.tuple #[v, .int .i64 m]) = Ending.returned (.tuple #[v, .int .i64 m']) := by rw [h']

theorem tri_le' {w : World} {base base' : Nat} {v : Value} {zs : List Int} (h : OwnI w base v zs) (hb : base' ≤ base) : OwnI w base' v zs := by
  refine ⟨h.1, ?_⟩
  rcases h.2 with h2 | ⟨g, cap, cur, hv', hg', r⟩
  · exact Or.inl h2
  · exact Or.inr ⟨g, cap, cur, hv', by omega, r⟩
theorem spares_b {w w' : World} {v : Value} {b base : Nat} {c : Array Value} {zs : List Int} (h : Spares w w' v) (hB : Blk w b c 46) (ho : OwnI w base v zs) : Blk w' b c 46 := by
  unfold Blk
  rw [h b hB.lt (fun e => ?_)]
  · exact hB
  · rcases ho.2 with ⟨rfl, _⟩ | ⟨g, c1, cur, rfl, _, hh, _⟩
    · cases e
    · have : b = g := by simpa [Value.ownBlock] using e
      subst this
      unfold Blk at hB
      rw [hh] at hB
      simp at hB

end Go.Proofs.Ytdbdoohcpcjfdaa
