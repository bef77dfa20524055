/- 'TrivialStates': the program. -/
import Derived.Test.YtdbdoohcpcjfdaaTriG
namespace Go.Proofs.Ytdbdoohcpcjfdaa
open Go.RowKit

theorem ret_li {v : Value} {m m' : Int} (h' : m = m') : Ending.returned (.tuple #[v, .int .i64 m]) = Ending.returned (.tuple #[v, .int .i64 m']) := by rw [h']

theorem tri_le {w : World} {base base' : Nat} {v : Value} {zs : List Int} (h : OwnI w base v zs) (hb : base' ≤ base) : OwnI w base' v zs := by
  refine ⟨h.1, ?_⟩
  rcases h.2 with h2 | ⟨g, cap, cur, hv', hg', r⟩
  · exact Or.inl h2
  · exact Or.inr ⟨g, cap, cur, hv', by omega, r⟩

end Go.Proofs.Ytdbdoohcpcjfdaa
