/- What a machine's entries are good for. -/
import Derived.Test.YtgcieocknlhjlaaMach
namespace Go.Proofs.Ytgcieocknlhjlaa
open Go.RowKit

/-- What a machine's entries are good for. -/
structure Good (M : Mach) (L S : Nat) : Prop where
  ok : M.Ok
  hL : M.L = L
  hS : M.S = S
  L2 : 2 ≤ L
  L3 : L ≤ 3
  S1 : 1 ≤ S
  S16 : S ≤ 16
  all : machUpTo M L S 16 = true
theorem Good.of {M : Mach} (hok : M.Ok) (h : isMach M = true) : ∃ L S, Good M L S := by
  unfold isMach at h
  simp only [Bool.and_eq_true, decide_eq_true_eq] at h
  obtain ⟨⟨hL, hS⟩, ha⟩ := h
  exact ⟨M.L.toNat, M.S.toNat, hok, by omega, by omega, by omega, by omega, by omega, by omega, ha⟩
theorem Good.isMach {M : Mach} {L S : Nat} (h : Good M L S) : isMach M = true := by
  have h1 := h.hL; have h2 := h.hS; have h3 := h.L2; have h4 := h.L3; have h5 := h.S1; have h6 := h.S16
  unfold Go.Proofs.Ytgcieocknlhjlaa.isMach
  simp only [Bool.and_eq_true, decide_eq_true_eq]
  refine ⟨⟨by omega, by omega⟩, ?_⟩
  rw [h1, h2]; exact h.all
theorem Good.cell {M : Mach} {L S : Nat} (h : Good M L S) (q x : Nat) (hq : q < S) (hx : x < L) : cellOk M L S q x = true := by
  have h1 := (List.all_eq_true.1 h.all) q (by have := h.S16; simp; omega)
  have h2 := (List.all_eq_true.1 h1) x (by have := h.L3; simp; omega)
  unfold cellAll at h2
  rwa [if_pos ⟨hq, hx⟩] at h2
theorem Good.n_lt {M : Mach} {L S : Nat} (h : Good M L S) (q x : Nat) (hq : q < S) (hx : x < L) : 0 ≤ M.n q x ∧ M.n q x < S := by
  have := h.cell q x hq hx
  simp only [cellOk, Bool.and_eq_true, decide_eq_true_eq] at this
  exact ⟨(Mach.n_bd h.ok q x).1, this.1⟩
theorem Good.o_lt {M : Mach} {L S : Nat} (h : Good M L S) (q x : Nat) (hq : q < S) (hx : x < L) : 0 ≤ M.o q x ∧ M.o q x < L := by
  have := h.cell q x hq hx
  simp only [cellOk, Bool.and_eq_true, decide_eq_true_eq] at this
  exact ⟨(Mach.o_bd h.ok q x).1, this.2.1⟩
end Go.Proofs.Ytgcieocknlhjlaa
