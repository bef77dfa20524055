/- The inverse of a machine is a machine. -/
import Derived.Test.YtkkooafjpancoaaInvP
import Derived.Test.YtkkooafjpancoaaLedM
namespace Go.Proofs.Ytkkooafjpancoaa
open Go.RowKit

/-! ### The inverse is a machine -/
theorem invAll_out {M : Mach} {L S : Nat} (hg : Good M L S) (c : Mach) (hc : c.Ok) (hz : ∀ q x, q < 16 → x < 3 → c.o q x = 0 ∧ c.n q x = 0) : ∀ k, k ≤ S → ∀ q x, q < 16 → x < 3 → ¬ (q < k ∧ x < L) → (invAll M L c k).o q x = 0 ∧ (invAll M L c k).n q x = 0
  | 0, _, q, x, h1, h2, _ => hz q x h1 h2
  | k + 1, hk, q, x, h1, h2, hn => by
    have hok := invAll_ok hg.ok hc L hg.L3 k
    obtain ⟨r1, r2⟩ := invRow_at hg _ hok k (by omega) L (Nat.le_refl _) q x h1 h2
    rw [show invAll M L c (k + 1) = invRow M k (invAll M L c k) L from rfl, r1, r2]
    rw [if_neg (fun h => hn ⟨by omega, h.2.1⟩), if_neg (fun h => hn ⟨by omega, h.2.1⟩)]
    exact invAll_out hg c hc hz k (by omega) q x h1 h2 (fun h => hn ⟨by omega, h.2⟩)
theorem blank_zero (a b : Int) (q x : Nat) : (blankM a b).o q x = 0 ∧ (blankM a b).n q x = 0 := by
  have h : ∀ i, (List.replicate 48 (0 : Int)).getD i 0 = 0 := fun i => by
    simp only [List.getD, List.getElem?_replicate]
    split <;> rfl
  exact ⟨h _, h _⟩
theorem Good.inv {M : Mach} {L S : Nat} (hg : Good M L S) : Good (invM M L S) L S := by
  have hL := invAll_L M L (blankM M.L M.S) S
  refine ⟨invM_ok hg.ok L S hg.L3, hL.1.trans hg.hL, hL.2.trans hg.hS, hg.L2, hg.L3, hg.S1, hg.S16, ?_⟩
  unfold machUpTo rowAll
  rw [List.all_eq_true]
  intro q hq
  rw [List.all_eq_true]
  intro x hx
  have hq16 : q < 16 := by simpa using hq
  have hx3 : x < 3 := by simpa using hx
  unfold cellAll
  by_cases h : q < S ∧ x < L
  · rw [if_pos h]
    obtain ⟨e1, e2⟩ := hg.inv_at q x h.1 h.2
    obtain ⟨b1, b2, b3⟩ := hg.bk_at q x h.1 h.2
    have n0 := hg.n_lt q (bk M q x) h.1 b1
    unfold cellOk
    rw [e1, e2, Bool.and_eq_true, Bool.and_eq_true, decide_eq_true_eq, decide_eq_true_eq, Bool.not_eq_true']
    refine ⟨n0.2, by omega, ?_⟩
    unfold seenB
    rw [List.any_eq_false]
    intro y hy
    have hyx : y < x := by simpa using hy
    have e3 := (hg.inv_at q y h.1 (by omega)).1
    have c2 := (hg.bk_at q y h.1 (by omega)).2.1
    simp only [e3, decide_eq_true_eq]
    intro e
    have e4 : bk M q y = bk M q x := Int.ofNat.inj e
    rw [e4, b2] at c2
    omega
  · rw [if_neg h]
    obtain ⟨e1, e2⟩ := invAll_out hg _ (blankM_ok hg.ok) (fun q x _ _ => blank_zero _ _ q x) S (Nat.le_refl _) q x hq16 hx3 h
    exact decide_eq_true ⟨e2, e1⟩

end Go.Proofs.Ytkkooafjpancoaa
