/- What a state makes of a word. -/
import Derived.Test.YtgeihpaealomkaaDoorWordD
import Derived.Test.YtgeihpaealomkaaDoorMach
namespace Go.Proofs.YtgeihpaealomkaaDoor
open Go.RowKit

/-- One letter: the next state, and the byte that is put out. -/
def stepL (M : Mach) (s : Nat × List UInt8) (c : UInt8) : Nat × List UInt8 := ((M.n s.1 (c.toNat - 48)).toNat, s.2 ++ [dig (M.o s.1 (c.toNat - 48))])
def runL (M : Mach) (q : Nat) (l : List UInt8) : Nat × List UInt8 := l.foldl (stepL M) (q, [])
theorem runL_snoc (M : Mach) (q : Nat) (l : List UInt8) (c : UInt8) : runL M q (l ++ [c]) = stepL M (runL M q l) c := by simp [runL, List.foldl_append]
theorem runL_nil (M : Mach) (q : Nat) : runL M q [] = (q, []) := rfl
theorem runL_len (M : Mach) (q : Nat) (l : List UInt8) : (runL M q l).2.length = l.length := by
  have : ∀ (l : List UInt8) (s : Nat × List UInt8), (l.foldl (stepL M) s).2.length = s.2.length + l.length := by
    intro l
    induction l with
    | nil => intro s; simp
    | cons c l ih => intro s; rw [List.foldl_cons, ih]; simp [stepL]; omega
  have h := this l (q, [])
  simp at h
  exact h

theorem Good.st_lt {M : Mach} {L S : Nat} (h : Good M L S) (q : Nat) (hq : q < S) (l : List UInt8) (hl : lettersL L l = true) : ∀ k, k ≤ l.length → (runL M q (l.take k)).1 < S
  | 0, _ => by simpa [runL] using hq
  | k + 1, hk => by
    have hlt : k < l.length := hk
    have ih := h.st_lt q hq l hl k (by omega)
    obtain ⟨h1, h2⟩ := lettersL_at hl k hlt
    rw [take_snoc l k hlt, runL_snoc]
    have := h.n_lt _ (l[k].toNat - 48) ih (by omega)
    simp only [stepL]; omega

/-- The bytes of the image behind k rounds. -/
def imC (n : Nat) (bs : List UInt8) : Array Value := ((bs.map fun b => Value.int .u8 (b.toNat : Int)) ++ List.replicate (n - bs.length) (Value.int .u8 0)).toArray
theorem imC_size (n : Nat) (bs : List UInt8) (h : bs.length ≤ n) : (imC n bs).size = n := by simp [imC]; omega
theorem imC_zero (n : Nat) : imC n [] = (List.replicate n (Value.int .u8 0)).toArray := by simp [imC]
theorem imC_set (n : Nat) (bs : List UInt8) (b : UInt8) (h : bs.length < n) : (imC n bs).setIfInBounds bs.length (.int .u8 (b.toNat : Int)) = imC n (bs ++ [b]) := by
  simp only [imC, List.setIfInBounds_toArray]
  congr 1
  rw [List.set_append_right _ _ (by simp)]
  simp only [List.length_map, Nat.sub_self, List.map_append, List.map_cons, List.map_nil, List.append_assoc, List.length_append, List.length_cons, List.length_nil]
  congr 1
  rw [show n - bs.length = (n - (bs.length + (0 + 1))) + 1 from by omega, List.replicate_succ]
  rfl
theorem imC_done (n : Nat) (bs : List UInt8) (h : bs.length = n) : imC n bs = (bs.map fun b => Value.int .u8 (b.toNat : Int)).toArray := by simp [imC, h]
end Go.Proofs.YtgeihpaealomkaaDoor
