/- Activities: plain data. -/
import Derived.Test.YtdbdoohcpcjfdaaTriS
namespace Go.Proofs.Ytdbdoohcpcjfdaa
open Go.RowKit

/-- The sum of f over the first n numbers. -/
def sumN (f : Nat → Nat) : Nat → Nat
  | 0 => 0
  | n + 1 => sumN f n + f n
theorem sumN_congr {f g : Nat → Nat} : ∀ n, (∀ i, i < n → f i = g i) → sumN f n = sumN g n
  | 0, _ => rfl
  | n + 1, h => by rw [sumN, sumN, sumN_congr n (fun i hi => h i (by omega)), h n (by omega)]
theorem sumN_le {f : Nat → Nat} {b : Nat} : ∀ n, (∀ i, i < n → f i ≤ b) → sumN f n ≤ n * b
  | 0, _ => by simp [sumN]
  | n + 1, h => by
    have h1 := sumN_le n (fun i hi => h i (by omega))
    have h2 := h n (by omega)
    rw [sumN, Nat.succ_mul]; omega
theorem sumN_zero (n : Nat) : sumN (fun _ => 0) n = 0 := by
  induction n with
  | zero => rfl
  | succ n ih => rw [sumN, ih]
theorem sumN_one {f : Nat → Nat} {i : Nat} : ∀ n, i < n → (∀ j, j < n → j ≠ i → f j = 0) → sumN f n = f i
  | 0, h, _ => by omega
  | n + 1, h, h0 => by
    rw [sumN]
    by_cases hi : i = n
    · subst hi
      rw [sumN_congr (g := fun _ => 0) i (fun j hj => h0 j (by omega) (by omega)), sumN_zero, Nat.zero_add]
    · rw [sumN_one n (by omega) (fun j hj => h0 j (by omega)), h0 n (by omega) (fun e => hi e.symm), Nat.add_zero]
theorem sumN_add (f g : Nat → Nat) : ∀ n, sumN (fun i => f i + g i) n = sumN f n + sumN g n
  | 0 => rfl
  | n + 1 => by rw [sumN, sumN, sumN, sumN_add f g n]; omega
theorem sumN_term {f : Nat → Nat} {i : Nat} : ∀ n, i < n → f i ≤ sumN f n
  | 0, h => by omega
  | n + 1, h => by
    rw [sumN]
    by_cases hi : i = n
    · subst hi; omega
    · have := sumN_term (f := f) n (by omega : i < n); omega
theorem sumN_mul (f : Nat → Nat) (c : Nat) : ∀ n, sumN (fun i => c * f i) n = c * sumN f n
  | 0 => rfl
  | n + 1 => by rw [sumN, sumN, sumN_mul f c n, Nat.mul_add]

/-- The activity of q at the length t. -/
def act (M : Mach) (L S : Nat) : Nat → Nat → Nat
  | 0, q => if q < S ∧ trivB M L S q = false then 1 else 0
  | t + 1, q => if q < S then sumN (fun x => act M L S t (nn M q x)) L else 0
theorem act_le {M : Mach} {L S : Nat} (hL : L ≤ 3) : ∀ t q, act M L S t q ≤ 3 ^ t
  | 0, q => by unfold act; split <;> simp
  | t + 1, q => by
    unfold act
    split
    · have h1 := sumN_le (f := fun x => act M L S t (nn M q x)) L (fun x _ => act_le hL t (nn M q x))
      have h2 : L * 3 ^ t ≤ 3 * 3 ^ t := Nat.mul_le_mul_right _ hL
      rw [Nat.pow_succ, Nat.mul_comm (3 ^ t) 3]
      omega
    · exact Nat.zero_le _
theorem act_out {M : Mach} {L S : Nat} (t q : Nat) (h : ¬ q < S) : act M L S t q = 0 := by
  cases t with
  | zero => unfold act; rw [if_neg (fun e => h e.1)]
  | succ t => unfold act; rw [if_neg h]
theorem act_triv {M : Mach} {L S : Nat} (hg : Good M L S) : ∀ t q, q < S → trivB M L S q = true → act M L S t q = 0
  | 0, q, _, h => by unfold act; rw [if_neg (by rw [h]; simp)]
  | t + 1, q, hq, h => by
    unfold act
    rw [if_pos hq, sumN_congr (g := fun _ => 0) L (fun x hx => act_triv hg t _ (hg.nn_lt q x hq hx) (trivB_at hg hq h x hx).2), sumN_zero]
theorem act_succ {M : Mach} {L S : Nat} (t q : Nat) (hq : q < S) : act M L S (t + 1) q = sumN (fun x => act M L S t (nn M q x)) L := by
  rw [act, if_pos hq]

/-! ### The program: the activities of all states -/
def acL (M : Mach) (L S t : Nat) : List Int := (List.range 16).map fun q => (act M L S t q : Int)
theorem acL_len (M : Mach) (L S t : Nat) : (acL M L S t).length = 16 := by simp [acL]
theorem acL_at (M : Mach) (L S t q : Nat) (hq : q < 16) : (acL M L S t).getD q 0 = (act M L S t q : Int) := by
  simp [acL, List.getD, hq]
/-- In the middle: the first q rows are done, and of the next one x letters. -/
def ayAt (M : Mach) (L S t q x p : Nat) : Nat := if p < q then act M L S (t + 1) p else if p = q then sumN (fun y => act M L S t (nn M q y)) x else 0
def ayL (M : Mach) (L S t q x : Nat) : List Int := (List.range 16).map fun p => (ayAt M L S t q x p : Int)
theorem ayL_len (M : Mach) (L S t q x : Nat) : (ayL M L S t q x).length = 16 := by simp [ayL]
theorem ayL_at (M : Mach) (L S t q x p : Nat) (hp : p < 16) : (ayL M L S t q x).getD p 0 = (ayAt M L S t q x p : Int) := by
  simp [ayL, List.getD, hp]
theorem ayL_zero (M : Mach) (L S t : Nat) : ayL M L S t 0 0 = List.replicate 16 0 := by
  have : ∀ p, ayAt M L S t 0 0 p = 0 := fun p => by unfold ayAt; rw [if_neg (by omega)]; split <;> rfl
  unfold ayL
  simp only [this]
  rfl
theorem ayAt_cur (M : Mach) (L S t q x : Nat) : ayAt M L S t q x q = sumN (fun y => act M L S t (nn M q y)) x := by
  unfold ayAt; rw [if_neg (by omega), if_pos rfl]
theorem ayL_set (M : Mach) (L S t q x : Nat) (v : Int) (hv : v = (ayAt M L S t q x q : Int) + (act M L S t (nn M q x) : Int)) : (ayL M L S t q x).set q v = ayL M L S t q (x + 1) := by
  apply List.ext_getElem
  · simp [ayL]
  · intro i h1 h2
    simp only [ayL, List.getElem_set, List.getElem_map, List.getElem_range]
    by_cases h : q = i
    · subst h
      rw [if_pos rfl, hv, ayAt_cur, ayAt_cur, sumN]; simp
    · rw [if_neg h]
      unfold ayAt
      by_cases h3 : i < q
      · rw [if_pos h3, if_pos h3]
      · rw [if_neg h3, if_neg h3, if_neg (fun e => h e.symm), if_neg (fun e => h e.symm)]
theorem ayL_row (M : Mach) (L S t q : Nat) (hq : q < S) : ayL M L S t q L = ayL M L S t (q + 1) 0 := by
  unfold ayL
  apply List.map_congr_left
  intro p _
  congr 1
  unfold ayAt
  by_cases h : p < q
  · rw [if_pos h, if_pos (by omega)]
  · rw [if_neg h]
    by_cases h2 : p = q
    · subst h2
      rw [if_pos rfl, if_pos (by omega), act_succ t p hq]
    · rw [if_neg h2, if_neg (by omega)]
      split <;> rfl
theorem ayL_done (M : Mach) (L S t : Nat) : ayL M L S t S 0 = acL M L S (t + 1) := by
  unfold ayL acL
  apply List.map_congr_left
  intro p _
  congr 1
  unfold ayAt
  by_cases h : p < S
  · rw [if_pos h]
  · rw [if_neg h, act_out (t + 1) p h]
    split <;> rfl
theorem ayAt_le {M : Mach} {L S t q x : Nat} (hL : L ≤ 3) (hx : x ≤ L) (p : Nat) : ayAt M L S t q x p ≤ 3 ^ (t + 1) := by
  unfold ayAt
  split
  · exact act_le hL _ _
  · split
    · have h1 := sumN_le (f := fun y => act M L S t (nn M q y)) x (fun y _ => act_le hL t (nn M q y))
      have h2 : x * 3 ^ t ≤ 3 * 3 ^ t := Nat.mul_le_mul_right _ (by omega)
      rw [Nat.pow_succ, Nat.mul_comm (3 ^ t) 3]
      omega
    · exact Nat.zero_le _
/-- The start: ones at the states that are not trivial, the first k of them. -/
def a0L (M : Mach) (L S k : Nat) : List Int := (List.range 16).map fun q => if q < k then (act M L S 0 q : Int) else 0
theorem a0L_len (M : Mach) (L S k : Nat) : (a0L M L S k).length = 16 := by simp [a0L]
theorem a0L_zero (M : Mach) (L S : Nat) : a0L M L S 0 = List.replicate 16 0 := by unfold a0L; simp only [Nat.not_lt_zero, if_false]; rfl
theorem a0L_all (M : Mach) (L S : Nat) : a0L M L S 16 = acL M L S 0 := by
  unfold a0L acL
  exact List.map_congr_left fun q hq => by rw [if_pos (List.mem_range.1 hq)]
theorem a0L_set (M : Mach) (L S k : Nat) (h : act M L S 0 k = 1) : (a0L M L S k).set k 1 = a0L M L S (k + 1) := by
  apply List.ext_getElem
  · simp [a0L]
  · intro i h1 h2
    simp only [a0L, List.getElem_set, List.getElem_map, List.getElem_range]
    by_cases h3 : k = i
    · subst h3; rw [if_pos rfl, if_pos (by omega), h]; rfl
    · rw [if_neg h3]
      by_cases h4 : i < k
      · rw [if_pos h4, if_pos (by omega)]
      · rw [if_neg h4, if_neg (by omega)]
theorem a0L_same (M : Mach) (L S k : Nat) (h : act M L S 0 k = 0) : a0L M L S (k + 1) = a0L M L S k := by
  unfold a0L
  apply List.map_congr_left
  intro i _
  by_cases h3 : i = k
  · subst h3; rw [if_pos (by omega), if_neg (by omega), h]; rfl
  · by_cases h4 : i < k
    · rw [if_pos h4, if_pos (by omega)]
    · rw [if_neg h4, if_neg (by omega)]

/-! ### The model: how often words lead to a state -/
/-- A row's value under weights. -/
def wgt (l : List Nat) (f : Nat → Nat) : Nat := sumN (fun p => l.getD p 0 * f p) 16
theorem wgt_set {l : List Nat} (hl : l.length = 16) (i v : Nat) (hi : i < 16) (f : Nat → Nat) : wgt (l.set i (l.getD i 0 + v)) f = wgt l f + v * f i := by
  have key : ∀ n, sumN (fun p => (l.set i (l.getD i 0 + v)).getD p 0 * f p) n = sumN (fun p => l.getD p 0 * f p) n + if i < n then v * f i else 0 := by
    intro n
    induction n with
    | zero => rfl
    | succ n ih =>
      rw [sumN, sumN, ih]
      have e : (l.set i (l.getD i 0 + v)).getD n 0 = if n = i then l.getD i 0 + v else l.getD n 0 := by
        rw [List.getD, List.getElem?_set]
        by_cases h : n = i
        · subst h
          rw [if_pos rfl, if_pos (by omega), if_pos rfl]; rfl
        · rw [if_neg (fun e => h e.symm), if_neg h]; rfl
      rw [e]
      by_cases h : n = i
      · subst h
        rw [if_pos rfl, if_neg (by omega), if_pos (by omega), Nat.add_mul]; omega
      · rw [if_neg h]
        by_cases h2 : i < n
        · rw [if_pos h2, if_pos (by omega)]; omega
        · rw [if_neg h2, if_neg (by omega)]; omega
  have := key 16
  rw [if_pos hi] at this
  exact this
theorem z16 (p : Nat) : (List.replicate 16 0 : List Nat).getD p 0 = 0 := by
  rw [List.getD, List.getElem?_replicate]; split <;> rfl
theorem wgt_zero (f : Nat → Nat) : wgt (List.replicate 16 0) f = 0 := by
  unfold wgt
  rw [sumN_congr (g := fun _ => 0) 16 (fun p _ => by
    have := z16 p
    rw [this, Nat.zero_mul]), sumN_zero]
/-- The first letters' part of a state. -/
def stpF (M : Mach) (f : Nat → Nat) (r x : Nat) : Nat := sumN (fun y => f (nn M r y)) x
def outF (M : Mach) (L S : Nat) (now : List Nat) (f : Nat → Nat) (r : Nat) : Nat := sumN (fun p => if trivB M L S p then 0 else now.getD p 0 * stpF M f p L) r
/-- The counts in the middle of a length. -/
structure AyMid (M : Mach) (L S : Nat) (now : List Nat) (r x : Nat) (next : List Nat) : Prop where
  len : next.length = 16
  val : ∀ f, wgt next f = outF M L S now f r + now.getD r 0 * stpF M f r x
theorem AyMid.start (M : Mach) (L S : Nat) (now : List Nat) : AyMid M L S now 0 0 (List.replicate 16 0) :=
  ⟨by simp, fun f => by rw [wgt_zero]; simp [outF, stpF, sumN]⟩
theorem AyMid.letter {M : Mach} {L S r x : Nat} {now next : List Nat} (h : AyMid M L S now r x next) (b : Nat) (ht : b = nn M r x) (h16 : b < 16) : AyMid M L S now r (x + 1) (next.set b (next.getD b 0 + now.getD r 0)) :=
  ⟨by rw [List.length_set]; exact h.len, fun f => by
    rw [wgt_set h.len _ _ h16, h.val f, stpF, stpF, sumN, ht, Nat.mul_add]; omega⟩
theorem AyMid.row {M : Mach} {L S r : Nat} {now next : List Nat} (h : AyMid M L S now r L next) (ht : trivB M L S r = false) : AyMid M L S now (r + 1) 0 next :=
  ⟨h.len, fun f => by rw [h.val f, outF, outF, sumN, ht]; simp [stpF, sumN]⟩
theorem AyMid.skip {M : Mach} {L S r : Nat} {now next : List Nat} (h : AyMid M L S now r 0 next) (ht : trivB M L S r = true) : AyMid M L S now (r + 1) 0 next :=
  ⟨h.len, fun f => by rw [h.val f, outF, outF, sumN, ht]; simp [stpF, sumN]⟩
/-- The counts at the length k: what they say of the activities of q. -/
structure AyInv (M : Mach) (L S q k : Nat) (now : List Nat) : Prop where
  len : now.length = 16
  val : ∀ j, wgt now (act M L S j) = act M L S (k + j) q
  all : sumN (fun p => now.getD p 0 * 1) 16 ≤ 3 ^ k
theorem AyInv.start (M : Mach) (L S q : Nat) (hq : q < 16) : AyInv M L S q 0 ((List.replicate 16 0).set q 1) := by
  have e : (List.replicate 16 0 : List Nat).set q 1 = (List.replicate 16 0).set q ((List.replicate 16 0 : List Nat).getD q 0 + 1) := by
    rw [z16 q]
  have hl : (List.replicate 16 0 : List Nat).length = 16 := by simp
  refine ⟨by simp, fun j => ?_, ?_⟩
  · rw [e, wgt_set hl _ _ hq, wgt_zero]; simp
  · have h1 : wgt ((List.replicate 16 0 : List Nat).set q 1) (fun _ => 1) ≤ 3 ^ 0 := by rw [e, wgt_set hl _ _ hq, wgt_zero]; simp
    exact h1
theorem AyInv.next {M : Mach} {L S q k : Nat} {now next : List Nat} (hg : Good M L S) (h : AyInv M L S q k now) (hm : AyMid M L S now S 0 next) : AyInv M L S q (k + 1) next := by
  have hS := hg.S16
  have h0 : ∀ f, wgt next f = outF M L S now f S := fun f => by rw [hm.val f]; simp [stpF, sumN]
  have cut : ∀ (f : Nat → Nat), (∀ p, S ≤ p → f p = 0) → sumN f 16 = sumN f S := by
    intro f hf
    have : ∀ d, sumN f (S + d) = sumN f S := by
      intro d
      induction d with
      | zero => rfl
      | succ d ih => rw [← Nat.add_assoc, sumN, ih, hf _ (by omega), Nat.add_zero]
    have := this (16 - S)
    rwa [show S + (16 - S) = 16 by omega] at this
  refine ⟨hm.len, fun j => ?_, ?_⟩
  · rw [h0, show k + 1 + j = k + (j + 1) by omega, ← h.val (j + 1)]
    unfold wgt outF
    rw [cut _ (fun p hp => by rw [act_out (j + 1) p (by omega), Nat.mul_zero])]
    refine sumN_congr S fun p hp => ?_
    cases ht : trivB M L S p
    · rw [act_succ j p hp]; rfl
    · rw [act_triv hg (j + 1) p hp ht]; simp
  · show wgt next (fun _ => 1) ≤ 3 ^ (k + 1)
    rw [h0]
    have h1 : outF M L S now (fun _ => 1) S ≤ sumN (fun p => 3 * (now.getD p 0 * 1)) 16 := by
      have a1 : ∀ n, n ≤ S → outF M L S now (fun _ => 1) n ≤ sumN (fun p => 3 * (now.getD p 0 * 1)) n := by
        intro n
        induction n with
        | zero => intro _; exact Nat.le_refl _
        | succ n ih =>
          intro hn
          have ih := ih (by omega)
          unfold outF at ih ⊢
          rw [sumN, sumN]
          have hs : stpF M (fun _ => 1) n L ≤ 3 := by
            have := sumN_le (f := fun y => (fun _ => 1) (nn M n y)) (b := 1) L (fun _ _ => Nat.le_refl _)
            unfold stpF
            have := hg.L3
            omega
          have h2 : (if trivB M L S n then 0 else now.getD n 0 * stpF M (fun _ => 1) n L) ≤ 3 * (now.getD n 0 * 1) := by
            split
            · exact Nat.zero_le _
            · rw [Nat.mul_one, Nat.mul_comm]; exact Nat.mul_le_mul_right _ hs
          omega
      have a2 : ∀ (f : Nat → Nat) d, sumN f S ≤ sumN f (S + d) := by
        intro f d
        induction d with
        | zero => exact Nat.le_refl _
        | succ d ih => rw [← Nat.add_assoc, sumN]; omega
      have a3 := a2 (fun p => 3 * (now.getD p 0 * 1)) (16 - S)
      rw [show S + (16 - S) = 16 by omega] at a3
      exact Nat.le_trans (a1 S (Nat.le_refl _)) a3
    rw [sumN_mul] at h1
    have := h.all
    rw [Nat.pow_succ, Nat.mul_comm (3 ^ k) 3]
    have h4 := Nat.mul_le_mul_left 3 this
    omega
theorem AyInv.le {M : Mach} {L S q k : Nat} {now : List Nat} (h : AyInv M L S q k now) (p : Nat) (hp : p < 16) : now.getD p 0 ≤ 3 ^ k := by
  have h1 := sumN_term (f := fun p => now.getD p 0 * 1) 16 hp
  have h2 := h.all
  simp only [Nat.mul_one] at h1 h2
  omega
theorem AyMid.le {M : Mach} {L S q k r x : Nat} {now next : List Nat} (hg : Good M L S) (h : AyInv M L S q k now) (hm : AyMid M L S now r x next) (hr : r ≤ S) (hx : x ≤ L) (hrs : x = 0 ∨ r < S) (p : Nat) (hp : p < 16) : next.getD p 0 ≤ 6 * 3 ^ k := by
  have hS := hg.S16
  have hL := hg.L3
  have h1 : next.getD p 0 * 1 ≤ sumN (fun p => next.getD p 0 * 1) 16 := sumN_term (f := fun p => next.getD p 0 * 1) 16 hp
  have h2 : sumN (fun p => next.getD p 0 * 1) 16 = outF M L S now (fun _ => 1) r + now.getD r 0 * stpF M (fun _ => 1) r x := hm.val (fun _ => 1)
  have hs : ∀ p x, x ≤ L → stpF M (fun _ => 1) p x ≤ 3 := fun p x hx => by
    have := sumN_le (f := fun y => (fun _ => 1) (nn M p y)) (b := 1) x (fun _ _ => Nat.le_refl _)
    unfold stpF
    omega
  have ha := h.all
  have a1 : ∀ n, outF M L S now (fun _ => 1) n ≤ sumN (fun p => 3 * (now.getD p 0 * 1)) n := by
    intro n
    induction n with
    | zero => exact Nat.le_refl _
    | succ n ih =>
      unfold outF at ih ⊢
      rw [sumN, sumN]
      have h2 : (if trivB M L S n then 0 else now.getD n 0 * stpF M (fun _ => 1) n L) ≤ 3 * (now.getD n 0 * 1) := by
        split
        · exact Nat.zero_le _
        · rw [Nat.mul_one, Nat.mul_comm]; exact Nat.mul_le_mul_right _ (hs n L (Nat.le_refl _))
      omega
  have a2 : ∀ (f : Nat → Nat) n d, sumN f n ≤ sumN f (n + d) := by
    intro f n d
    induction d with
    | zero => exact Nat.le_refl _
    | succ d ih => rw [← Nat.add_assoc, sumN]; omega
  have a3 := a2 (fun p => 3 * (now.getD p 0 * 1)) r (16 - r)
  rw [show r + (16 - r) = 16 by omega, sumN_mul (fun p => now.getD p 0 * 1) 3 r, sumN_mul (fun p => now.getD p 0 * 1) 3 16] at a3
  have a4 := a1 r
  rw [sumN_mul (fun p => now.getD p 0 * 1) 3 r] at a4
  have a5 : now.getD r 0 * stpF M (fun _ => 1) r x ≤ 3 * 3 ^ k := by
    rcases hrs with h0 | h0
    · subst h0; simp [stpF, sumN]
    · have h5 := h.le r (by omega)
      calc now.getD r 0 * stpF M (fun _ => 1) r x ≤ 3 ^ k * 3 := Nat.mul_le_mul h5 (hs r x hx)
        _ = 3 * 3 ^ k := Nat.mul_comm _ _
  have a6 := Nat.mul_le_mul_left 3 ha
  generalize sumN (fun p => now.getD p 0 * 1) 16 = u1 at *
  generalize sumN (fun p => now.getD p 0 * 1) r = u2 at *
  generalize sumN (fun p => next.getD p 0 * 1) 16 = u3 at *
  omega
/-- What the sum of a length says, in the middle. -/
def smN (M : Mach) (L S : Nat) (now : List Nat) (r : Nat) : Nat := sumN (fun p => if trivB M L S p then 0 else now.getD p 0) r
theorem smN_yes {M : Mach} {L S r : Nat} {now : List Nat} (h : trivB M L S r = true) : smN M L S now (r + 1) = smN M L S now r := by
  unfold smN; rw [sumN, h]; simp
theorem smN_no {M : Mach} {L S r : Nat} {now : List Nat} (h : trivB M L S r = false) : smN M L S now (r + 1) = smN M L S now r + now.getD r 0 := by
  unfold smN; rw [sumN, h]; simp
theorem smN_all {M : Mach} {L S q k : Nat} {now : List Nat} (hg : Good M L S) (h : AyInv M L S q k now) : smN M L S now S = act M L S k q := by
  have hS := hg.S16
  have h1 := h.val 0
  rw [Nat.add_zero] at h1
  rw [← h1]
  unfold wgt smN
  have cut : ∀ (f : Nat → Nat), (∀ p, S ≤ p → f p = 0) → sumN f 16 = sumN f S := by
    intro f hf
    have : ∀ d, sumN f (S + d) = sumN f S := by
      intro d
      induction d with
      | zero => rfl
      | succ d ih => rw [← Nat.add_assoc, sumN, ih, hf _ (by omega), Nat.add_zero]
    have := this (16 - S)
    rwa [show S + (16 - S) = 16 by omega] at this
  rw [cut _ (fun p hp => by rw [act_out 0 p (by omega), Nat.mul_zero])]
  refine sumN_congr S fun p hp => ?_
  have e : act M L S 0 p = if trivB M L S p then 0 else 1 := by
    unfold act
    cases trivB M L S p
    · rw [if_pos ⟨hp, rfl⟩]; rfl
    · rw [if_neg (by simp)]; rfl
  rw [e]
  cases trivB M L S p
  · simp
  · simp
theorem smN_le {M : Mach} {L S q k : Nat} {now : List Nat} (h : AyInv M L S q k now) (r : Nat) (hr : r ≤ 16) : smN M L S now r ≤ 3 ^ k := by
  have a1 : ∀ n, smN M L S now n ≤ sumN (fun p => now.getD p 0 * 1) n := by
    intro n
    induction n with
    | zero => exact Nat.le_refl _
    | succ n ih =>
      unfold smN at ih ⊢
      rw [sumN, sumN]
      have : (if trivB M L S n then 0 else now.getD n 0) ≤ now.getD n 0 * 1 := by split <;> omega
      omega
  have a2 : ∀ (f : Nat → Nat) n d, sumN f n ≤ sumN f (n + d) := by
    intro f n d
    induction d with
    | zero => exact Nat.le_refl _
    | succ d ih => rw [← Nat.add_assoc, sumN]; omega
  have a3 := a2 (fun p => now.getD p 0 * 1) r (16 - r)
  rw [show r + (16 - r) = 16 by omega] at a3
  have := a1 r
  have := h.all
  omega
theorem pow3_le (k : Nat) (h : k ≤ 21) : 3 ^ k ≤ 10460353203 := Nat.le_trans (Nat.pow_le_pow_right (by omega) h) (by decide)

/-- The answer: the first k activities of q. -/
def ayK (M : Mach) (L S q k : Nat) : List Int := (List.range k).map fun t => (act M L S t q : Int)
theorem ayK_succ (M : Mach) (L S q k : Nat) : ayK M L S q (k + 1) = ayK M L S q k ++ [(act M L S k q : Int)] := by simp [ayK, List.range_succ]
theorem ayK_len (M : Mach) (L S q k : Nat) : (ayK M L S q k).length = k := by simp [ayK]
def ayC (M : Mach) (q n : Int) : Int := if isMach M = false then 1 else if (0 ≤ q ∧ q < M.S) ∧ (0 ≤ n ∧ n ≤ 20) then 0 else 2
def ayR (M : Mach) (q n : Int) : List Int := if ayC M q n = 0 then ayK M M.L.toNat M.S.toNat q.toNat (n.toNat + 1) else []
/-- Numbers of rows. -/
def nt (l : List Nat) : List Int := l.map Int.ofNat
theorem nt_len (l : List Nat) : (nt l).length = l.length := by simp [nt]
theorem nt_at (l : List Nat) (i : Nat) : (nt l).getD i 0 = ((l.getD i 0 : Nat) : Int) := by
  unfold nt
  simp only [List.getD, List.getElem?_map]
  cases l[i]? <;> rfl
theorem nt_set (l : List Nat) (i v : Nat) : (nt l).set i (v : Int) = nt (l.set i v) := by
  unfold nt; rw [List.map_set]; rfl
end Go.Proofs.Ytdbdoohcpcjfdaa
