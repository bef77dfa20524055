/- The permutation of a level, as plain data. -/
import Derived.Test.YtdbdoohcpcjfdaaLedM
namespace Go.Proofs.Ytdbdoohcpcjfdaa
open Go.RowKit

theorem lettersL_wordOf (L : Nat) (hL : L = 2 ∨ L = 3) : ∀ n k, lettersL L (wordOf L n k) = true
  | 0, _ => rfl
  | n + 1, k => by
    rw [wordOf, lettersL_snoc, lettersL_wordOf L hL n]
    have h3 : k % L < L := Nat.mod_lt _ (by omega)
    have : letterB L (UInt8.ofNat (48 + k % L)) = true := by
      rw [letterB_iff, UInt8.toNat_ofNat_of_lt' (by show _ < 256; omega)]; omega
    rw [this]; rfl
theorem Good.letters {M : Mach} {L S : Nat} (h : Good M L S) (q : Nat) (hq : q < S) (l : List UInt8) (hl : lettersL L l = true) : ∀ k, k ≤ l.length → lettersL L (runL M q (l.take k)).2 = true
  | 0, _ => by simp [runL, lettersL]
  | k + 1, hk => by
    have hlt : k < l.length := hk
    have ih := h.letters q hq l hl k (by omega)
    have hst := h.st_lt q hq l hl k (by omega)
    obtain ⟨h1, h2⟩ := lettersL_at hl k hlt
    obtain ⟨o0, o1⟩ := h.o_lt _ (l[k].toNat - 48) hst (by omega)
    rw [take_snoc l k hlt, runL_snoc]
    simp only [stepL]
    rw [lettersL_snoc, ih, Bool.true_and, letterB_iff]
    have := dig_toNat _ o0 (by have := h.L3; omega)
    omega
theorem Good.letters_all {M : Mach} {L S : Nat} (h : Good M L S) (q : Nat) (hq : q < S) (l : List UInt8) (hl : lettersL L l = true) : lettersL L (runL M q l).2 = true := by
  have := h.letters q hq l hl l.length (Nat.le_refl _)
  rwa [List.take_length] at this
theorem Good.L23 {M : Mach} {L S : Nat} (h : Good M L S) : L = 2 ∨ L = 3 := by have := h.L2; have := h.L3; omega

/-- The number of the word to which q leads the word number k of the level n. -/
def permAt (M : Mach) (L q n k : Nat) : Int := numI L (runL M q (wordOf L n k)).2
def permL (M : Mach) (L q n : Nat) : List Int := (List.range (L ^ n)).map (permAt M L q n)
theorem permL_len (M : Mach) (L q n : Nat) : (permL M L q n).length = L ^ n := by simp [permL]
/-- The cells behind k rounds. -/
def permC (M : Mach) (L q n N k : Nat) : Array Value := (((List.range k).map fun i => Value.int .i64 (permAt M L q n i)) ++ List.replicate (N - k) (Value.int .i64 0)).toArray
theorem permC_size (M : Mach) (L q n N k : Nat) (h : k ≤ N) : (permC M L q n N k).size = N := by simp [permC]; omega
theorem permC_zero (M : Mach) (L q n N : Nat) : permC M L q n N 0 = (List.replicate N (Value.int .i64 0)).toArray := by simp [permC]
theorem permC_set (M : Mach) (L q n N k : Nat) (h : k < N) : (permC M L q n N k).setIfInBounds k (.int .i64 (permAt M L q n k)) = permC M L q n N (k + 1) := by
  simp only [permC, List.setIfInBounds_toArray]
  congr 1
  rw [List.set_append_right _ _ (by simp)]
  simp only [List.length_map, List.length_range, Nat.sub_self, List.range_succ, List.map_append, List.map_cons, List.map_nil, List.append_assoc]
  congr 1
  rw [show N - k = (N - (k + 1)) + 1 from by omega, List.replicate_succ]
  rfl
theorem permC_done (M : Mach) (L q n : Nat) : permC M L q n (L ^ n) (L ^ n) = ((permL M L q n).map (Value.int .i64)).toArray := by simp [permC, permL]
theorem made_zero64 (n : Nat) : madeCells (Value.int .i64 0).cells n = (List.replicate n (Value.int .i64 0)).toArray := by
  apply Array.ext
  · simp [madeCells]
  · intro i h1 h2
    simp [madeCells, Value.cells, Nat.mod_one]
end Go.Proofs.Ytdbdoohcpcjfdaa
