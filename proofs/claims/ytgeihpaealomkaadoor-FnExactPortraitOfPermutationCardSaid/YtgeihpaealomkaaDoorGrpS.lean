/- The model's checks of machines and group words. -/
import Derived.Test.YtgeihpaealomkaaDoorGrpN
import Derived.Test.YtgeihpaealomkaaDoorQuietK
namespace Go.Proofs.YtgeihpaealomkaaDoor
open Go.RowKit

/-- A slice of slices, as a call with '...' lays it. -/
def SeesL (w : World) (v : Value) (ps : List (Value × List Int)) : Prop :=
  ∃ g cap, v = .slice (some ⟨g, 0, none⟩) ps.length cap ∧ Blk w g (ps.map (·.1)).toArray 26 ∧ ∀ i (hi : i < ps.length), SeesI w ps[i].1 ps[i].2
theorem SeesL.below {w w1 : World} {v : Value} {ps : List (Value × List Int)} (h : SeesL w v ps) (hb : Below w.heap.size w w1) : SeesL w1 v ps := by
  obtain ⟨g, cap, hv, hB, hs⟩ := h
  exact ⟨g, cap, hv, hB.keptAll hb, fun i hi => (hs i hi).below hb⟩
def grpsUp (S : Int) (ps : List (Value × List Int)) (k : Nat) : Bool := (ps.take k).all fun p => grpOk S p.2
def grpsOk (S : Int) (ps : List (Value × List Int)) : Bool := ps.all fun p => grpOk S p.2
theorem grpsUp_zero (S : Int) (ps : List (Value × List Int)) : grpsUp S ps 0 = true := by simp [grpsUp]
theorem grpsUp_succ (S : Int) (ps : List (Value × List Int)) (j : Nat) (hj : j < ps.length) (h : grpsUp S ps j = true) (h2 : grpOk S ps[j].2 = true) : grpsUp S ps (j + 1) = true := by
  unfold grpsUp at *
  rw [List.take_succ_eq_append_getElem hj, List.all_append, h]
  simp [h2]
theorem grpsUp_all (S : Int) (ps : List (Value × List Int)) : grpsUp S ps ps.length = grpsOk S ps := by simp [grpsUp, grpsOk]
theorem grpsOk_bad (S : Int) (ps : List (Value × List Int)) (j : Nat) (hj : j < ps.length) (h : grpOk S ps[j].2 = false) : grpsOk S ps = false := by
  unfold grpsOk; rw [List.all_eq_false]; exact ⟨ps[j], List.getElem_mem hj, by simp [h]⟩
def codeG (M : Mach) (ps : List (Value × List Int)) : Int := if isMach M && grpsOk M.S ps then 0 else 1

end Go.Proofs.YtgeihpaealomkaaDoor
