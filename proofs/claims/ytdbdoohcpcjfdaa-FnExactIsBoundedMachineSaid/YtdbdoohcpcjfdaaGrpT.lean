/- Both 'IsGroupWord's, and the model's check of machines and group words. -/
import Derived.Test.YtdbdoohcpcjfdaaGrpM
import Derived.Test.YtdbdoohcpcjfdaaArgs
import Derived.Test.YtdbdoohcpcjfdaaMachD
import Derived.Test.YtdbdoohcpcjfdaaMach
import Derived.Test.YtdbdoohcpcjfdaaHeldK
import Derived.Test.YtdbdoohcpcjfdaaInvM
namespace Go.Proofs.Ytdbdoohcpcjfdaa
open Go.RowKit

def isGrp (M : Mach) (zs : List Int) : Bool := isMach M && grpOk M.S zs
theorem wrap_neg (S : Nat) (h : S ≤ 16) : IntKind.i64.wrap (-(S : Int)) = -(S : Int) := IntWalk.i64_in _ (by omega)

end Go.Proofs.Ytdbdoohcpcjfdaa

namespace Go.Proofs.Ytdbdoohcpcjfdaa
open Go.RowKit

theorem l01In_v (n low high : Int) (r : Bool) (h : decide (low ≤ n ∧ n ≤ high) = r) (w : World) :
    Calls Try.prog 36 #[.int .i64 n, .int .i64 low, .int .i64 high] w fun e w' => e = .returned (.bool r) ∧ w' = w :=
  (l01In_calls n low high w).mono fun e w' h' => ⟨by rw [h'.1, h], h'.2.symm⟩

end Go.Proofs.Ytdbdoohcpcjfdaa

namespace Go.Proofs.Ytdbdoohcpcjfdaa
open Go.RowKit

/-- A slice of slices, as a call with '...' lays it. -/
def SeesL (w : World) (v : Value) (ps : List (Value × List Int)) : Prop :=
  ∃ g cap, v = .slice (some ⟨g, 0, none⟩) ps.length cap ∧ Blk w g (ps.map (·.1)).toArray 31 ∧ ∀ i (hi : i < ps.length), SeesI w ps[i].1 ps[i].2
theorem SeesL.below {w w1 : World} {v : Value} {ps : List (Value × List Int)} (h : SeesL w v ps) (hb : Below w.heap.size w w1) : SeesL w1 v ps := by
  obtain ⟨g, cap, hv, hB, hs⟩ := h
  exact ⟨g, cap, hv, hB.keptAll hb, fun i hi => (hs i hi).below hb⟩
def grpsUp (S : Int) (ps : List (Value × List Int)) (k : Nat) : Bool := (ps.take k).all fun p => grpOk S p.2
def grpsOk (S : Int) (ps : List (Value × List Int)) : Bool := ps.all fun p => grpOk S p.2
theorem grpsUp_zero (S : Int) (ps : List (Value × List Int)) : grpsUp S ps 0 = true := by simp [grpsUp]
theorem grpsUp_succ (S : Int) (ps : List (Value × List Int)) (j : Nat) (hj : j < ps.length) (h : grpsUp S ps j = true) (h2 : grpOk S ps[j].2 = true) : grpsUp S ps (j + 1) = true := by
  unfold grpsUp at *
  rw [List.take_succ_eq_append_getElem hj, List.all_append, h]
  simp [h2]
theorem grpsUp_all (S : Int) (ps : List (Value × List Int)) : grpsUp S ps ps.length = grpsOk S ps := by simp [grpsUp, grpsOk]
theorem grpsOk_bad (S : Int) (ps : List (Value × List Int)) (j : Nat) (hj : j < ps.length) (h : grpOk S ps[j].2 = false) : grpsOk S ps = false := by
  unfold grpsOk; rw [List.all_eq_false]; exact ⟨ps[j], List.getElem_mem hj, by simp [h]⟩
def codeG (M : Mach) (ps : List (Value × List Int)) : Int := if isMach M && grpsOk M.S ps then 0 else 1

end Go.Proofs.Ytdbdoohcpcjfdaa

namespace Go.Proofs.Ytdbdoohcpcjfdaa
open Go.RowKit

theorem ret_vi {v : Value} {m m' : Int} (h : m = m') : Ending.returned (.tuple #[v, .int .i64 m]) = Ending.returned (.tuple #[v, .int .i64 m']) := by rw [h]
/-- Small numbers. -/
def smallI (zs : List Int) : Prop := ∀ z ∈ zs, -1000 ≤ z ∧ z ≤ 1000
theorem smallI_at {zs : List Int} (h : smallI zs) (i : Nat) (hi : i < zs.length) : IntKind.i64.wrap (-zs[i]) = -zs[i] := IntWalk.i64_in _ (by have := h _ (List.getElem_mem hi); omega)
theorem isGrp_parts {M : Mach} {zs : List Int} (h : isGrp M zs = true) : isMach M = true ∧ grpOk M.S zs = true := by simpa [isGrp] using h
theorem isGrp_small {M : Mach} {zs : List Int} (h : isGrp M zs = true) : smallI zs := by
  obtain ⟨h1, h2⟩ := isGrp_parts h
  have hS := (isMach_parts h1).2
  intro z hz
  obtain ⟨i, hi, rfl⟩ := List.getElem_of_mem hz
  have := (numOk_iff _ _).1 (grpOk_at h2 i hi)
  omega
theorem isGrp_len {M : Mach} {zs : List Int} (h : isGrp M zs = true) : zs.length ≤ 40 := grpOk_len (isGrp_parts h).2
theorem smallI_turn {zs : List Int} (h : smallI zs) : smallI (turnI zs) := by
  intro z hz
  simp only [turnI, List.mem_reverse, List.mem_map] at hz
  obtain ⟨y, hy, rfl⟩ := hz
  have := h y hy
  omega

/-- The last k of the inverse, zeros before. -/
def revPad (zs : List Int) (k : Nat) : List Int := List.replicate (zs.length - k) 0 ++ (turnI zs).drop (zs.length - k)
theorem revPad_zero (zs : List Int) : revPad zs 0 = List.replicate zs.length 0 := by
  unfold revPad
  rw [List.drop_of_length_le (by rw [turnI_len]; omega)]; simp
theorem revPad_all (zs : List Int) : revPad zs zs.length = turnI zs := by simp [revPad]
theorem revPad_len (zs : List Int) (k : Nat) (h : k ≤ zs.length) : (revPad zs k).length = zs.length := by rw [revPad, List.length_append, List.length_replicate, List.length_drop, turnI_len]; omega
theorem revPad_set (zs : List Int) (k j : Nat) (h : k < zs.length) (hj : zs.length - 1 - k = j) : (revPad zs k).set j (-zs[k]) = revPad zs (k + 1) := by
  subst hj
  have hg := turnI_get zs k h
  unfold revPad
  rw [show zs.length - k = (zs.length - 1 - k) + 1 from by omega, show zs.length - (k + 1) = zs.length - 1 - k from by omega]
  have hd : (turnI zs).drop (zs.length - 1 - k) = -zs[k] :: (turnI zs).drop (zs.length - 1 - k + 1) := by
    rw [List.drop_eq_getElem_cons (by rw [turnI_len]; omega), hg]
  rw [hd, List.replicate_succ', List.append_assoc, List.set_append_right _ _ (by simp)]
  simp

/-- What is appended before number j. -/
def outsJ (zs : List Int) (j : Nat) : List Int := (turnI zs).take (zs.length - j)
theorem outsJ_all (zs : List Int) : outsJ zs 0 = turnI zs := by unfold outsJ; rw [List.take_of_length_le (by rw [turnI_len]; omega)]
theorem outsJ_none (zs : List Int) : outsJ zs zs.length = [] := by simp [outsJ]
theorem outsJ_len (zs : List Int) (j : Nat) : (outsJ zs j).length = zs.length - j := by simp [outsJ, turnI_len]
theorem outsJ_snoc (zs : List Int) (j : Nat) (h : j < zs.length) : outsJ zs j = outsJ zs (j + 1) ++ [-zs[j]] := by
  have hg := turnI_get zs j h
  unfold outsJ
  rw [show zs.length - j = (zs.length - 1 - j) + 1 from by omega, show zs.length - (j + 1) = zs.length - 1 - j from by omega]
  rw [List.take_succ_eq_append_getElem (by rw [turnI_len]; omega), hg]

def code1 (M : Mach) (zs : List Int) : Int := if isGrp M zs then 0 else 1
def invW (M : Mach) (zs : List Int) : List Int := if isGrp M zs then turnI zs else []
theorem invW_len (M : Mach) (zs : List Int) : (invW M zs).length ≤ 1048576 := by
  unfold invW
  split
  · rename_i h
    have := isGrp_len h
    rw [turnI_len]; omega
  · simp
theorem OwnI.base_le {w : World} {base base' : Nat} {v : Value} {zs : List Int} (h : OwnI w base v zs) (hb : base' ≤ base) : OwnI w base' v zs := by
  refine ⟨h.1, ?_⟩
  rcases h.2 with h2 | ⟨g, cap, cur, hv', hg', r⟩
  · exact Or.inl h2
  · exact Or.inr ⟨g, cap, cur, hv', by omega, r⟩

end Go.Proofs.Ytdbdoohcpcjfdaa
