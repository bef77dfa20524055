/- Group words as plain data. -/
import Derived.Test.YtliohokcjgcmhaaBase
namespace Go.Proofs.Ytliohokcjgcmhaa
open Go.RowKit

/-- May k stand for a state, of S? -/
def numOk (S k : Int) : Bool := decide (k ≠ 0) && (decide (-S ≤ k) && decide (k ≤ S))
theorem numOk_iff (S k : Int) : numOk S k = true ↔ k ≠ 0 ∧ -S ≤ k ∧ k ≤ S := by simp [numOk]
theorem numOk_no (S k : Int) : numOk S k = false ↔ ¬ (k ≠ 0 ∧ -S ≤ k ∧ k ≤ S) := by rw [← numOk_iff, Bool.not_eq_true]
/-- Do the first j numbers stand for states? -/
def numsUp (S : Int) (zs : List Int) (j : Nat) : Bool := (zs.take j).all (numOk S)
def numsOk (S : Int) (zs : List Int) : Bool := zs.all (numOk S)
def grpOk (S : Int) (zs : List Int) : Bool := decide (zs.length ≤ 40) && numsOk S zs
theorem numsUp_zero (S : Int) (zs : List Int) : numsUp S zs 0 = true := by simp [numsUp]
theorem numsUp_succ (S : Int) (zs : List Int) (j : Nat) (hj : j < zs.length) (h : numsUp S zs j = true) (h2 : numOk S zs[j] = true) : numsUp S zs (j + 1) = true := by
  unfold numsUp at *
  rw [List.take_succ_eq_append_getElem hj, List.all_append, h]
  simp [h2]
theorem numsUp_all (S : Int) (zs : List Int) : numsUp S zs zs.length = numsOk S zs := by simp [numsUp, numsOk]
theorem numsOk_bad (S : Int) (zs : List Int) (j : Nat) (hj : j < zs.length) (h : numOk S zs[j] = false) : numsOk S zs = false := by
  unfold numsOk; rw [List.all_eq_false]; exact ⟨zs[j], List.getElem_mem hj, by simp [h]⟩
theorem grpOk_len {S : Int} {zs : List Int} (h : grpOk S zs = true) : zs.length ≤ 40 := by simp [grpOk] at h; exact h.1
theorem grpOk_at {S : Int} {zs : List Int} (h : grpOk S zs = true) (j : Nat) (hj : j < zs.length) : numOk S zs[j] = true := by
  simp [grpOk, numsOk] at h; exact h.2 _ (List.getElem_mem hj)
theorem grpOk_long {S : Int} {zs : List Int} (h : ¬ zs.length ≤ 40) : grpOk S zs = false := by simp [grpOk]; omega
theorem grpOk_short {S : Int} {zs : List Int} (h : zs.length ≤ 40) : grpOk S zs = numsOk S zs := by simp [grpOk, h]

/-- The inverse. -/
def turnI (zs : List Int) : List Int := (zs.map fun k => -k).reverse
theorem turnI_len (zs : List Int) : (turnI zs).length = zs.length := by simp [turnI]
theorem turnI_get (zs : List Int) (i : Nat) (h : i < zs.length) : (turnI zs)[zs.length - 1 - i]'(by rw [turnI_len]; omega) = -zs[i] := by
  simp only [turnI, List.getElem_reverse, List.getElem_map, List.length_map]
  congr 2
  omega
end Go.Proofs.Ytliohokcjgcmhaa
