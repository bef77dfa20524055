/- What one number of a group word does: the model's 'l02State', 'l02Step'; the guide's two ways. -/
import Derived.Test.YtdbdoohcpcjfdaaLedM
import Derived.Test.YtdbdoohcpcjfdaaMachC
import Derived.Test.YtdbdoohcpcjfdaaHeldK
import Derived.Lib.MinMax
import Derived.Test.YtdbdoohcpcjfdaaArgs
import Derived.Laws.EntriesVeiled
import Derived.Test.YtdbdoohcpcjfdaaGrpT
namespace Go.Proofs.Ytdbdoohcpcjfdaa
open Go.RowKit

theorem ret_bi {a a' b b' : Int} (h : a = a') (h' : b = b') : Ending.returned (.tuple #[.int .u8 a, .int .i64 b]) = Ending.returned (.tuple #[.int .u8 a', .int .i64 b']) := by rw [h, h']
theorem stOf_pos {k : Int} (h : 0 < k) : (stOf k : Int) = k - 1 := by unfold stOf; rw [if_pos h]; omega
theorem stOf_neg {k : Int} (h0 : k ≠ 0) (h : ¬ 0 < k) : (stOf k : Int) = -k - 1 := by unfold stOf; rw [if_neg h]; omega

/-- A machine lies at the head of block b. -/
def MAt (w : World) (b : Nat) (M : Mach) : Prop := ∃ (c : Array Value) (T : TypeId), Blk w b c T ∧ ∀ o, o < 98 → c[o]? = (mc M)[o]?
theorem Blk.mat {w : World} {b : Nat} {M : Mach} {T : TypeId} (h : Blk w b (mc M) T) : MAt w b M := ⟨_, _, h, fun _ _ => rfl⟩
theorem MAt.lt {w : World} {b : Nat} {M : Mach} (h : MAt w b M) : b < w.heap.size := by obtain ⟨c, T, hB, _⟩ := h; exact hB.lt
theorem MAt.kept {w w1 : World} {b B : Nat} {M : Mach} (h : MAt w b M) (hb : Below B w w1) (hlt : b < B) : MAt w1 b M := by obtain ⟨c, T, hB, hc⟩ := h; exact ⟨c, T, hB.kept hb hlt, hc⟩
theorem MAt.keptAll {w w1 : World} {b : Nat} {M : Mach} (h : MAt w b M) (hb : Below w.heap.size w w1) : MAt w1 b M := h.kept hb h.lt
theorem MAt.same {w w1 : World} {b : Nat} {M : Mach} (h : MAt w b M) (e : w1.heap[b]? = w.heap[b]?) : MAt w1 b M := by obtain ⟨c, T, hB, hc⟩ := h; exact ⟨c, T, e.trans hB, hc⟩
theorem MAt.at {w : World} {b : Nat} {M : Mach} (h : MAt w b M) (o : Nat) (ho : o < 98) : w.cell? ⟨b, o, none⟩ = (mc M)[o]? := by obtain ⟨c, T, hB, hc⟩ := h; rw [hB.cell, hc o ho]

/-- The guide of a state, whose machine lies in block b. -/
def gd (b : Nat) (q : Int) : Value := .agg #[.pointer (some ⟨b, 0, none⟩), .int .i64 q]

end Go.Proofs.Ytdbdoohcpcjfdaa

namespace Go.Proofs.Ytdbdoohcpcjfdaa
open Go.RowKit

theorem made_steps (n : Nat) : madeCells (Value.nilFunc).cells n = (List.replicate n Value.nilFunc).toArray := by
  apply Array.ext
  · simp [madeCells, Value.cells]
  · intro i h1 h2
    simp [madeCells, Value.cells, Nat.mod_one]
/-- Small numbers. -/
def smallG (zs : List Int) : Prop := ∀ z ∈ zs, -16 ≤ z ∧ z ≤ 16
theorem smallG_of {S : Nat} (hS : S ≤ 16) {zs : List Int} (h : numsOk S zs = true) : smallG zs := fun z hz => by
  have := (numOk_iff _ _).1 ((List.all_eq_true.1 h) z hz); omega

end Go.Proofs.Ytdbdoohcpcjfdaa

namespace Go.Proofs.Ytdbdoohcpcjfdaa
open Go.RowKit

end Go.Proofs.Ytdbdoohcpcjfdaa
