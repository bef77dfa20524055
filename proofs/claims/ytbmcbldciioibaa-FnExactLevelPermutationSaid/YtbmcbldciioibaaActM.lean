/- What a state makes of a word. -/
import Derived.Test.YtbmcbldciioibaaWordD
import Derived.Test.YtbmcbldciioibaaMach
namespace Go.Proofs.Ytbmcbldciioibaa
open Go.RowKit

/-- One letter: the next state, and the byte that is put out. -/
def stepL (M : Mach) (s : Nat × List UInt8) (c : UInt8) : Nat × List UInt8 := ((M.n s.1 (c.toNat - 48)).toNat, s.2 ++ [dig (M.o s.1 (c.toNat - 48))])
def runL (M : Mach) (q : Nat) (l : List UInt8) : Nat × List UInt8 := l.foldl (stepL M) (q, [])
theorem runL_snoc (M : Mach) (q : Nat) (l : List UInt8) (c : UInt8) : runL M q (l ++ [c]) = stepL M (runL M q l) c := by simp [runL, List.foldl_append]
theorem runL_nil (M : Mach) (q : Nat) : runL M q [] = (q, []) := rfl
theorem runL_len (M : Mach) (q : Nat) (l : List UInt8) : (runL M q l).2.length = l.length := by
  have : ∀ (l : List UInt8) (s : Nat × List UInt8), (l.foldl (stepL M) s).2.length = s.2.length + l.length := by
    intro l
    induction l with
    | nil => intro s; simp
    | cons c l ih => intro s; rw [List.foldl_cons, ih]; simp [stepL]; omega
  have h := this l (q, [])
  simp at h
  exact h

/-- What a machine's entries are good for. -/
structure Good (M : Mach) (L S : Nat) : Prop where
  ok : M.Ok
  hL : M.L = L
  hS : M.S = S
  L2 : 2 ≤ L
  L3 : L ≤ 3
  S1 : 1 ≤ S
  S16 : S ≤ 16
  all : machUpTo M L S 16 = true
theorem Good.of {M : Mach} (hok : M.Ok) (h : isMach M = true) : ∃ L S, Good M L S := by
  unfold isMach at h
  simp only [Bool.and_eq_true, decide_eq_true_eq] at h
  obtain ⟨⟨hL, hS⟩, ha⟩ := h
  exact ⟨M.L.toNat, M.S.toNat, hok, by omega, by omega, by omega, by omega, by omega, by omega, ha⟩
theorem Good.isMach {M : Mach} {L S : Nat} (h : Good M L S) : isMach M = true := by
  have h1 := h.hL; have h2 := h.hS; have h3 := h.L2; have h4 := h.L3; have h5 := h.S1; have h6 := h.S16
  unfold Go.Proofs.Ytbmcbldciioibaa.isMach
  simp only [Bool.and_eq_true, decide_eq_true_eq]
  refine ⟨⟨by omega, by omega⟩, ?_⟩
  rw [h1, h2]; exact h.all
theorem Good.cell {M : Mach} {L S : Nat} (h : Good M L S) (q x : Nat) (hq : q < S) (hx : x < L) : cellOk M L S q x = true := by
  have h1 := (List.all_eq_true.1 h.all) q (by have := h.S16; simp; omega)
  have h2 := (List.all_eq_true.1 h1) x (by have := h.L3; simp; omega)
  unfold cellAll at h2
  rwa [if_pos ⟨hq, hx⟩] at h2
theorem Good.n_lt {M : Mach} {L S : Nat} (h : Good M L S) (q x : Nat) (hq : q < S) (hx : x < L) : 0 ≤ M.n q x ∧ M.n q x < S := by
  have := h.cell q x hq hx
  simp only [cellOk, Bool.and_eq_true, decide_eq_true_eq] at this
  exact ⟨(Mach.n_bd h.ok q x).1, this.1⟩
theorem Good.o_lt {M : Mach} {L S : Nat} (h : Good M L S) (q x : Nat) (hq : q < S) (hx : x < L) : 0 ≤ M.o q x ∧ M.o q x < L := by
  have := h.cell q x hq hx
  simp only [cellOk, Bool.and_eq_true, decide_eq_true_eq] at this
  exact ⟨(Mach.o_bd h.ok q x).1, this.2.1⟩
theorem Good.st_lt {M : Mach} {L S : Nat} (h : Good M L S) (q : Nat) (hq : q < S) (l : List UInt8) (hl : lettersL L l = true) : ∀ k, k ≤ l.length → (runL M q (l.take k)).1 < S
  | 0, _ => by simpa [runL] using hq
  | k + 1, hk => by
    have hlt : k < l.length := hk
    have ih := h.st_lt q hq l hl k (by omega)
    obtain ⟨h1, h2⟩ := lettersL_at hl k hlt
    rw [take_snoc l k hlt, runL_snoc]
    have := h.n_lt _ (l[k].toNat - 48) ih (by omega)
    simp only [stepL]; omega

/-- The bytes of the image behind k rounds. -/
def imC (n : Nat) (bs : List UInt8) : Array Value := ((bs.map fun b => Value.int .u8 (b.toNat : Int)) ++ List.replicate (n - bs.length) (Value.int .u8 0)).toArray
theorem imC_size (n : Nat) (bs : List UInt8) (h : bs.length ≤ n) : (imC n bs).size = n := by simp [imC]; omega
theorem imC_zero (n : Nat) : imC n [] = (List.replicate n (Value.int .u8 0)).toArray := by simp [imC]
theorem imC_set (n : Nat) (bs : List UInt8) (b : UInt8) (h : bs.length < n) : (imC n bs).setIfInBounds bs.length (.int .u8 (b.toNat : Int)) = imC n (bs ++ [b]) := by
  simp only [imC, List.setIfInBounds_toArray]
  congr 1
  rw [List.set_append_right _ _ (by simp)]
  simp only [List.length_map, Nat.sub_self, List.map_append, List.map_cons, List.map_nil, List.append_assoc, List.length_append, List.length_cons, List.length_nil]
  congr 1
  rw [show n - bs.length = (n - (bs.length + (0 + 1))) + 1 from by omega, List.replicate_succ]
  rfl
theorem imC_done (n : Nat) (bs : List UInt8) (h : bs.length = n) : imC n bs = (bs.map fun b => Value.int .u8 (b.toNat : Int)).toArray := by simp [imC, h]
end Go.Proofs.Ytbmcbldciioibaa
