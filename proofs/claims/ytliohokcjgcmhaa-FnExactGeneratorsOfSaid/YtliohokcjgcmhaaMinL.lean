/- The model's 'l01Minimal'. -/
import Derived.Test.YtliohokcjgcmhaaMinG
import Derived.Test.YtliohokcjgcmhaaMinT
namespace Go.Proofs.Ytliohokcjgcmhaa
open Go.RowKit

theorem bodyPost_cells {P : Program} {fn : Func} {R : Ending → World → Prop} {a : Act} {w : World} {p u : Tmp} {ty ty' T T' : TypeId} (hf : fn.results = #[.cell p ty, .cell u ty']) {g g' : Nat} {cs cs' : Array Value} {d d' : TypeDesc} (hp : a.tmps.getD p undef = .pointer (some ⟨g, 0, none⟩)) (hp2 : a.tmps.getD u undef = .pointer (some ⟨g', 0, none⟩)) (hB : Blk w g cs T) (hB' : Blk w g' cs' T')
    (hu : P.underlying ty = some d) (hd : d.isRow = true) (hu' : P.underlying ty' = some d') (hd' : d'.isRow = true) (hi : (P.info? ty).map (·.size) = some cs.size) (hi' : (P.info? ty').map (·.size) = some cs'.size) (hdef : a.defers = []) (hR : R (.returned (.tuple #[.agg cs, .agg cs'])) w) : bodyPost P fn R .ret a w := by
  refine bodyPost_ret (v := .tuple #[.agg cs, .agg cs']) ?_ hdef hR
  have hl := loadVar_blk (P := P) hB hu hd hi
  have hl' := loadVar_blk (P := P) hB' hu' hd' hi'
  have hp' : a.tmps[p]?.getD undef = .pointer (some ⟨g, 0, none⟩) := by simpa using hp
  have hp2' : a.tmps[u]?.getD undef = .pointer (some ⟨g', 0, none⟩) := by simpa using hp2
  simp [results, hf, hp', hp2', asAddr, hl, hl']

end Go.Proofs.Ytliohokcjgcmhaa
