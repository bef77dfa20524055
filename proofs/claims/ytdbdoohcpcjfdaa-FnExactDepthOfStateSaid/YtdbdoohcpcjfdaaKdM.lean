/- The minimal machine is a machine; cycles of its states and their activities: plain data. -/
import Derived.Test.YtdbdoohcpcjfdaaKdD
import Derived.Test.YtdbdoohcpcjfdaaAyD
import Derived.Test.YtdbdoohcpcjfdaaOrbM
namespace Go.Proofs.Ytdbdoohcpcjfdaa

/-! ### The minimal machine -/
theorem sm_good {M : Mach} {L S : Nat} (hg : Good M L S) : Good (mnAll M L S S) L (cntT M L S S) := by
  obtain ⟨hup, hS⟩ := mnAll_up hg S (Nat.le_refl S)
  have hS16 := hg.S16
  have hL3 := hg.L3
  have hc := cntT_le M L S S
  have h1 : 1 ≤ cntT M L S S := by have := numT_lt M L S 0 S hg.S1; omega
  refine ⟨hup.ok, hup.hL, hS, hg.L2, hg.L3, h1, by omega, ?_⟩
  unfold machUpTo
  rw [List.all_eq_true]
  intro k hk
  have hk16 : k < 16 := List.mem_range.1 hk
  unfold rowAll
  rw [List.all_eq_true]
  intro x hx
  have hx3 : x < 3 := List.mem_range.1 hx
  unfold cellAll
  by_cases hkK : k < cntT M L S S
  · obtain ⟨p, hp, rfl⟩ := numT_onto M L S S k hkK
    obtain ⟨ho, hn⟩ := hup.rows p hp x hx3
    by_cases hxL : x < L
    · rw [if_pos ⟨hkK, hxL⟩]
      have hnn : (mnAll M L S S).n (numT M L S p) x = (numT M L S (nn M p x) : Int) := by rw [hn]; unfold nextT; rw [if_pos hxL]
      have hlt := numT_lt M L S (nn M p x) S (hg.nn_lt p x hp hxL)
      have hol := hg.o_lt p x hp hxL
      unfold cellOk
      simp only [Bool.and_eq_true, decide_eq_true_eq, Bool.not_eq_true']
      refine ⟨by rw [hnn]; omega, by rw [ho]; exact hol.2, ?_⟩
      unfold seenB
      rw [List.any_eq_false]
      intro y hy
      have hyx : y < x := List.mem_range.1 hy
      have h2 := (hup.rows p hp y (by omega)).1
      simp only [decide_eq_true_eq]
      rw [h2, ho]
      exact hg.apart p y x hp hyx hxL
    · rw [if_neg (fun e => hxL e.2)]
      have hz := hg.zero p x (by omega) hx3 (fun h => hxL h.2)
      rw [decide_eq_true_eq]
      refine ⟨?_, by rw [ho]; exact hz.2⟩
      rw [hn]; unfold nextT; rw [if_neg hxL]
  · rw [if_neg (fun e => hkK e.1)]
    have := hup.rest k hk16 (by omega) x hx3
    rw [decide_eq_true_eq]
    exact ⟨this.2, this.1⟩
theorem sm_nn {M : Mach} {L S : Nat} (hg : Good M L S) (q x : Nat) (hq : q < S) (hx : x < L) : nn (mnAll M L S S) (numT M L S q) x = numT M L S (nn M q x) := by
  have hL3 := hg.L3
  have h := ((mnAll_up hg S (Nat.le_refl S)).1.rows q hq x (by omega)).2
  unfold nextT at h
  rw [if_pos hx] at h
  show ((mnAll M L S S).n (numT M L S q) x).toNat = _
  rw [h, Int.toNat_natCast]
theorem sm_id {M : Mach} {L S : Nat} (hg : Good M L S) : ∀ t q, q < S → idB (mnAll M L S S) L t (numT M L S q) = idB M L t q
  | 0, _, _ => rfl
  | t + 1, q, hq => by
    have hL3 := hg.L3
    rw [Bool.eq_iff_iff, idB_succ, idB_succ]
    have h : ∀ x, x < L → (mnAll M L S S).o (numT M L S q) x = M.o q x ∧ idB (mnAll M L S S) L t (nn (mnAll M L S S) (numT M L S q) x) = idB M L t (nn M q x) := fun x hx =>
      ⟨((mnAll_up hg S (Nat.le_refl S)).1.rows q hq x (by omega)).1, by rw [sm_nn hg q x hq hx, sm_id hg t _ (hg.nn_lt q x hq hx)]⟩
    constructor
    · intro e x hx
      have := e x hx
      rw [(h x hx).1, (h x hx).2] at this
      exact this
    · intro e x hx
      rw [(h x hx).1, (h x hx).2]
      exact e x hx
theorem sm_triv {M : Mach} {L S : Nat} (hg : Good M L S) (q : Nat) (hq : q < S) : trivB (mnAll M L S S) L (cntT M L S S) (numT M L S q) = trivB M L S q := by
  have hlt := numT_lt M L S q S hq
  rw [Bool.eq_iff_iff]
  constructor
  · intro h
    have := idB_all (sm_good hg) _ hlt h (S + 1)
    rw [sm_id hg _ q hq] at this
    exact this
  · intro h
    have := idB_all hg q hq h (cntT M L S S + 1)
    rw [← sm_id hg _ q hq] at this
    exact this
theorem sm_act {M : Mach} {L S : Nat} (hg : Good M L S) : ∀ t q, q < S → act (mnAll M L S S) L (cntT M L S S) t (numT M L S q) = act M L S t q
  | 0, q, hq => by
    have hlt := numT_lt M L S q S hq
    unfold act
    rw [sm_triv hg q hq]
    by_cases h : trivB M L S q = false
    · rw [if_pos ⟨hlt, h⟩, if_pos ⟨hq, h⟩]
    · rw [if_neg (fun e => h e.2), if_neg (fun e => h e.2)]
  | t + 1, q, hq => by
    rw [act_succ t _ (numT_lt M L S q S hq), act_succ t q hq]
    exact sumN_congr L fun x hx => by rw [sm_nn hg q x hq hx, sm_act hg t _ (hg.nn_lt q x hq hx)]

/-! ### Steps between the states of a machine, in the middle of their collection -/
def goB (m : Mach) (p r k : Nat) : Bool := (List.range k).any fun x => decide (nn m p x = r)
theorem goB_iff (m : Mach) (p r k : Nat) : goB m p r k = true ↔ ∃ x, x < k ∧ nn m p x = r := by simp [goB]
theorem goB_succ (m : Mach) (p r k : Nat) : goB m p r (k + 1) = (goB m p r k || decide (nn m p k = r)) := by simp [goB, List.range_succ]
def eP (m : Mach) (L : Nat) (ok : Rl) (q x : Nat) : Rl := fun p r => (decide (p < q) && (goB m p r L && ok p r)) || (decide (p = q) && (goB m p r x && ok p r))
theorem eP_iff (m : Mach) (L : Nat) (ok : Rl) (q x p r : Nat) : eP m L ok q x p r = true ↔ (p < q ∧ goB m p r L = true ∧ ok p r = true) ∨ (p = q ∧ goB m p r x = true ∧ ok p r = true) := by simp [eP]
theorem eP_start (m : Mach) (L : Nat) (ok : Rl) : eP m L ok 0 0 = fun _ _ => false := by
  funext p r
  cases h : eP m L ok 0 0 p r
  · rfl
  · rcases (eP_iff m L ok 0 0 p r).1 h with ⟨h1, _⟩ | ⟨_, h1, _⟩
    · omega
    · simp [goB] at h1
theorem eP_next (m : Mach) (L : Nat) (ok : Rl) (q x : Nat) : eP m L ok q (x + 1) = fun p r => if p = q ∧ r = nn m q x then (eP m L ok q x p r || ok q (nn m q x)) else eP m L ok q x p r := by
  funext p r
  by_cases h : p = q ∧ r = nn m q x
  · obtain ⟨rfl, rfl⟩ := h
    rw [if_pos ⟨rfl, rfl⟩]
    unfold eP
    rw [goB_succ]
    cases ok p (nn m p x) <;> simp
  · rw [if_neg h]
    unfold eP
    by_cases hp : p = q
    · subst hp
      rw [goB_succ, show decide (nn m p x = r) = false by simp; exact fun e => h ⟨rfl, e.symm⟩, Bool.or_false]
    · rw [decide_eq_false hp]; simp
theorem eP_skip (m : Mach) (L : Nat) (ok : Rl) (q x : Nat) (h : ok q (nn m q x) = false) : eP m L ok q (x + 1) = eP m L ok q x := by
  rw [eP_next, h]
  funext p r
  split <;> simp
theorem eP_none (m : Mach) (L : Nat) (ok : Rl) (q : Nat) (h : ∀ r, ok q r = false) : eP m L ok (q + 1) 0 = eP m L ok q 0 := by
  funext p r
  unfold eP
  by_cases hp : p = q
  · subst hp
    rw [h r]; simp
  · by_cases hlt : p < q
    · rw [decide_eq_true hlt, decide_eq_true (show p < q + 1 by omega), decide_eq_false hp, decide_eq_false (show ¬ p = q + 1 by omega)]
    · rw [decide_eq_false hlt, decide_eq_false (show ¬ p < q + 1 by omega)]
      simp [goB]
theorem eP_row (m : Mach) (L : Nat) (ok : Rl) (q : Nat) : eP m L ok q L = eP m L ok (q + 1) 0 := by
  funext p r
  unfold eP
  by_cases hp : p = q
  · subst hp
    rw [decide_eq_true (show p < p + 1 by omega)]; simp [goB]
  · by_cases hlt : p < q
    · rw [decide_eq_true hlt, decide_eq_true (show p < q + 1 by omega), decide_eq_false hp, decide_eq_false (show ¬ p = q + 1 by omega)]; simp
    · rw [decide_eq_false hlt, decide_eq_false (show ¬ p < q + 1 by omega), decide_eq_false hp]; simp [goB]
theorem eP_inn {m : Mach} {L K : Nat} (hg : Good m L K) (ok : Rl) (q x : Nat) (hq : q < K ∨ q = K ∧ x = 0) (hx : x ≤ L) : Inn K (eP m L ok q x) := fun p r e => by
  rcases (eP_iff m L ok q x p r).1 e with ⟨h1, h2, _⟩ | ⟨h1, h2, _⟩
  · obtain ⟨y, hy, rfl⟩ := (goB_iff _ _ _ _).1 h2
    have hp : p < K := by omega
    exact ⟨hp, hg.nn_lt p y hp hy⟩
  · obtain ⟨y, hy, rfl⟩ := (goB_iff _ _ _ _).1 h2
    have hp : p < K := by omega
    exact ⟨hp, hg.nn_lt p y hp (by omega)⟩

/-! ### All steps, and those between states that are not trivial -/
def okA : Rl := fun _ _ => true
def okV (m : Mach) (L K : Nat) : Rl := fun p r => !trivB m L K p && !trivB m L K r
def rA (m : Mach) (L K : Nat) : Rl := wsh (eP m L okA K 0) K
def rB (m : Mach) (L K : Nat) : Rl := wsh (eP m L (okV m L K) K 0) K
theorem okV_iff (m : Mach) (L K p r : Nat) : okV m L K p r = true ↔ trivB m L K p = false ∧ trivB m L K r = false := by simp [okV]
theorem eA_iff (m : Mach) (L K p r : Nat) : eP m L okA K 0 p r = true ↔ p < K ∧ ∃ x, x < L ∧ nn m p x = r := by
  rw [eP_iff, goB_iff]; simp [okA, goB]
theorem eB_iff (m : Mach) (L K p r : Nat) : eP m L (okV m L K) K 0 p r = true ↔ p < K ∧ (∃ x, x < L ∧ nn m p x = r) ∧ trivB m L K p = false ∧ trivB m L K r = false := by
  rw [eP_iff, goB_iff, okV_iff]; simp [goB]
theorem triv_step {m : Mach} {L K : Nat} (hg : Good m L K) {p x : Nat} (hp : p < K) (hx : x < L) (h : trivB m L K p = true) : trivB m L K (nn m p x) = true := (trivB_at hg hp h x hx).2
theorem rA_trans {m : Mach} {L K : Nat} (hg : Good m L K) : ∀ p c r, rA m L K p c = true → rA m L K c r = true → rA m L K p r = true := wsh_trans (eP_inn hg okA K 0 (.inr ⟨rfl, rfl⟩) (Nat.zero_le _))
theorem rB_trans {m : Mach} {L K : Nat} (hg : Good m L K) : ∀ p c r, rB m L K p c = true → rB m L K c r = true → rB m L K p r = true := wsh_trans (eP_inn hg (okV m L K) K 0 (.inr ⟨rfl, rfl⟩) (Nat.zero_le _))
theorem rB_edge {m : Mach} {L K : Nat} (hg : Good m L K) {p x : Nat} (hp : p < K) (hx : x < L) (h : trivB m L K (nn m p x) = false) : rB m L K p (nn m p x) = true := by
  refine wsh_up _ _ _ _ ((eB_iff m L K p _).2 ⟨hp, ⟨x, hx, rfl⟩, ?_, h⟩)
  cases e : trivB m L K p
  · rfl
  · rw [triv_step hg hp hx e] at h; cases h
theorem rB_v {m : Mach} {L K : Nat} : ∀ p r, rB m L K p r = true → trivB m L K p = false ∧ trivB m L K r = false := fun p r h => by
  have := wsh_min (eP m L (okV m L K) K 0) (okV m L K) (fun p r e => (okV_iff _ _ _ _ _).2 ((eB_iff m L K p r).1 e).2.2) (fun p c r e1 e2 => by
    rw [okV_iff] at *; exact ⟨e1.1, e2.2⟩) K p r h
  exact (okV_iff _ _ _ _ _).1 this
theorem rA_v {m : Mach} {L K : Nat} (hg : Good m L K) : ∀ p r, trivB m L K p = true → rA m L K p r = true → trivB m L K r = true := fun p r hp h => by
  have := wsh_min (eP m L okA K 0) (fun p r => !trivB m L K p || trivB m L K r) (fun p r e => by
    obtain ⟨h1, x, hx, rfl⟩ := (eA_iff m L K p r).1 e
    cases hv : trivB m L K p
    · rfl
    · rw [triv_step hg h1 hx hv]; rfl) (fun p c r e1 e2 => by
    simp only [Bool.or_eq_true, Bool.not_eq_true'] at *
    rcases e1 with e1 | e1
    · exact .inl e1
    · rcases e2 with e2 | e2
      · rw [e1] at e2; cases e2
      · exact .inr e2) K p r h
  rw [hp] at this
  simpa using this
theorem rAB {m : Mach} {L K : Nat} (hg : Good m L K) : ∀ p r, trivB m L K r = false → rA m L K p r = rB m L K p r := fun p r hr => by
  rw [Bool.eq_iff_iff]
  constructor
  · intro h
    have := wsh_min (eP m L okA K 0) (fun p r => trivB m L K r || rB m L K p r) (fun p r e => by
      obtain ⟨h1, x, hx, rfl⟩ := (eA_iff m L K p r).1 e
      cases hv : trivB m L K (nn m p x)
      · rw [rB_edge hg h1 hx hv]; rfl
      · rfl) (fun p c r e1 e2 => by
      simp only [Bool.or_eq_true] at *
      rcases e2 with e2 | e2
      · exact .inl e2
      · rcases e1 with e1 | e1
        · rw [(rB_v _ _ e2).1] at e1; cases e1
        · exact .inr (rB_trans hg _ _ _ e1 e2)) K p r h
    rw [hr] at this
    simpa using this
  · intro h
    refine wsh_min (eP m L (okV m L K) K 0) (rA m L K) (fun p r e => ?_) (rA_trans hg) K p r h
    obtain ⟨h1, h2, _⟩ := (eB_iff m L K p r).1 e
    exact wsh_up _ _ _ _ ((eA_iff m L K p r).2 ⟨h1, h2⟩)
/-- A way begins with a step. -/
theorem rA_first {m : Mach} {L K : Nat} (hg : Good m L K) : ∀ p r, rA m L K p r = true → p < K ∧ ∃ x, x < L ∧ (nn m p x = r ∨ rA m L K (nn m p x) r = true) := fun p r h => by
  have hX : ∀ p r, (decide (p < K) && (List.range L).any fun x => decide (nn m p x = r) || rA m L K (nn m p x) r) = true ↔ p < K ∧ ∃ x, x < L ∧ (nn m p x = r ∨ rA m L K (nn m p x) r = true) := fun p r => by simp
  have := wsh_min (eP m L okA K 0) (fun p r => decide (p < K) && (List.range L).any fun x => decide (nn m p x = r) || rA m L K (nn m p x) r) (fun p r e => by
    obtain ⟨h1, x, hx, e⟩ := (eA_iff m L K p r).1 e
    exact (hX p r).2 ⟨h1, x, hx, .inl e⟩) (fun p c r e1 e2 => by
    obtain ⟨h1, x, hx, e1⟩ := (hX p c).1 e1
    obtain ⟨h2, y, hy, e2⟩ := (hX c r).1 e2
    have hcr : rA m L K c r = true := by
      have he : rA m L K c (nn m c y) = true := wsh_up _ _ _ _ ((eA_iff m L K c _).2 ⟨h2, y, hy, rfl⟩)
      rcases e2 with e2 | e2
      · rw [← e2]; exact he
      · exact rA_trans hg _ _ _ he e2
    refine (hX p r).2 ⟨h1, x, hx, .inr ?_⟩
    rcases e1 with e1 | e1
    · rw [e1]; exact hcr
    · exact rA_trans hg _ _ _ e1 hcr) K p r h
  exact (hX p r).1 this
def tuM (m : Mach) (L : Nat) (A : Rl) (r : Nat) : Nat := cntB (fun x => A (nn m r x) r) L
def dbV (m : Mach) (L K : Nat) (B : Rl) (r : Nat) : Nat := cntB (fun x => !trivB m L K (nn m r x) && (decide (nn m r x = r) || B (nn m r x) r)) L
theorem kin_of {m : Mach} {L K : Nat} (hg : Good m L K) : Kin K (rA m L K) (rB m L K) (trivB m L K) (tuM m L (rA m L K)) (dbV m L K (rB m L K)) where
  inn := (eP_inn hg okA K 0 (.inr ⟨rfl, rfl⟩) (Nat.zero_le _)).wsh K
  at_ := rA_trans hg
  bt := rB_trans hg
  ab := rAB hg
  bv := fun p r h => rB_v p r h
  va := rA_v hg
  tub := fun r hr ha => by
    have hrK : r < K := ((eP_inn hg okA K 0 (.inr ⟨rfl, rfl⟩) (Nat.zero_le _)).wsh K r r ha).1
    refine cntB_congr _ _ L fun x hx => ?_
    rw [Bool.eq_iff_iff]
    simp only [Bool.and_eq_true, Bool.not_eq_true', Bool.or_eq_true, decide_eq_true_eq]
    constructor
    · intro h
      have hb : rB m L K (nn m r x) r = true := by rw [← rAB hg _ r hr]; exact h
      exact ⟨(rB_v _ _ hb).1, .inr hb⟩
    · rintro ⟨_, h | h⟩
      · rw [h]; exact ha
      · rw [rAB hg _ r hr]; exact h
  one := fun r hr ha => by
    obtain ⟨_, x, hx, h⟩ := rA_first hg r r ha
    have := cntB_lt (fun x => rA m L K (nn m r x) r) hx (by
      rcases h with h | h
      · show rA m L K (nn m r x) r = true; rw [h]; exact ha
      · exact h)
    unfold tuM; omega
/-- No state on a cycle is reached. -/
def noC (K : Nat) (B : Rl) (q : Nat) : Bool := (List.range K).all fun r => !((decide (r = q) || B q r) && B r r)
theorem noC_iff (K : Nat) (B : Rl) (q : Nat) : noC K B q = true ↔ ∀ r, r < K → (r = q ∨ B q r = true) → B r r = false := by
  unfold noC
  rw [List.all_eq_true]
  constructor
  · intro h r hr hb
    have := h r (List.mem_range.2 hr)
    simp only [Bool.not_eq_true', Bool.and_eq_false_iff, Bool.or_eq_false_iff, decide_eq_false_iff_not] at this
    rcases this with ⟨h1, h2⟩ | h1
    · rcases hb with hb | hb
      · exact absurd hb h1
      · rw [hb] at h2; cases h2
    · exact h1
  · intro h r hr
    cases hb : (decide (r = q) || B q r)
    · rfl
    · rw [h r (List.mem_range.1 hr) (by simpa using hb)]; rfl
theorem noC_not (K : Nat) (B : Rl) (q : Nat) (h : noC K B q = false) : ∃ r, r < K ∧ (r = q ∨ B q r = true) ∧ B r r = true := by
  unfold noC at h
  rw [List.all_eq_false] at h
  obtain ⟨r, hr, h⟩ := h
  simp only [Bool.not_eq_true', Bool.not_eq_false] at h
  simp only [Bool.and_eq_true, Bool.or_eq_true, decide_eq_true_eq] at h
  exact ⟨r, List.mem_range.1 hr, h.1, h.2⟩
theorem tkK_noC {K : Nat} {B : Rl} (ht : ∀ p c r, B p c = true → B c r = true → B p r = true) (db : Nat → Nat) (q : Nat) (hq : q < K) : tkK K B db q = 0 ↔ noC K B q = true := by
  obtain ⟨k, hk⟩ : ∃ k, K = k + 1 := ⟨K - 1, by omega⟩
  rw [noC_iff]
  constructor
  · intro h r hr hb
    cases hrr : B r r
    · rfl
    · exfalso
      have hx : xB K B db q = false := by
        cases hx : xB K B db q
        · rfl
        · unfold tkK kE at h; rw [hx] at h; simp at h
      have hm : mostF K B K q = 0 := by unfold tkK at h; rw [hx] at h; simpa using h
      rw [mostF_K hk q] at hm
      have key : ∀ s, s < K → cyc B q s = true → False := fun s hs hc => by
        have h1 := le_mxF (f := ownF K B (mostF K B k)) K s hs hc
        have h2 : 1 ≤ ownF K B (mostF K B k) s := Nat.le_max_left _ _
        omega
      cases hrq : B r q
      · exact key r hr ((cyc_iff B q r).2 ⟨hrr, hb, fun e => by rw [e] at hrq; cases hrq⟩)
      · have hqq : B q q = true := by
          rcases hb with rfl | hb
          · exact hrr
          · exact ht _ _ _ hb hrq
        exact key q hq ((cyc_iff B q q).2 ⟨hqq, .inl rfl, fun _ => rfl⟩)
  · intro h
    have hx : xB K B db q = false := by
      cases hx : xB K B db q
      · rfl
      · obtain ⟨r, hr, h1, h2, _⟩ := (xB_iff K B db q).1 hx
        rw [h r hr h1] at h2; cases h2
    unfold tkK
    rw [hx, if_neg (by simp), mostF_K hk q]
    have : mxF (cyc B q) (ownF K B (mostF K B k)) K ≤ 0 := mxF_le K fun r hr hc => by
      obtain ⟨c1, c2, _⟩ := (cyc_iff B q r).1 hc
      rw [h r hr c2] at c1; cases c1
    omega
theorem act_none {m : Mach} {L K : Nat} (hg : Good m L K) : ∀ n q, q < K → rkR K (rB m L K) q ≤ n → noC K (rB m L K) q = true → ∀ t, rkR K (rB m L K) q ≤ t → act m L K t q = 0
  | 0, q, hq, hn, _, _, _ => by have := rkR_pos (K := K) (B := rB m L K) hq; omega
  | n + 1, q, hq, hn, hc, t, ht => by
    cases hv : trivB m L K q
    rotate_left
    · exact act_triv hg t q hq hv
    have h1 := rkR_pos (K := K) (B := rB m L K) hq
    obtain ⟨t', rfl⟩ : ∃ t', t = t' + 1 := ⟨t - 1, by omega⟩
    rw [act_succ t' q hq, sumN_congr (g := fun _ => 0) L (fun x hx => ?_), sumN_zero]
    have hs := hg.nn_lt q x hq hx
    cases hvs : trivB m L K (nn m q x)
    rotate_left
    · exact act_triv hg t' _ hs hvs
    have hb := rB_edge hg hq hx hvs
    have hc' := (noC_iff K (rB m L K) q).1 hc
    have hn' : rB m L K (nn m q x) q = false := by
      cases e : rB m L K (nn m q x) q
      · rfl
      · have := rB_trans hg _ _ _ hb e
        rw [hc' q hq (.inl rfl)] at this; cases this
    have hlt := rkR_less (rB_trans hg) hq hb hn'
    refine act_none hg n _ hs (by omega) ((noC_iff _ _ _).2 fun r hr hrb => hc' r hr (.inr ?_)) t' (by omega)
    rcases hrb with rfl | hrb
    · exact hb
    · exact rB_trans hg _ _ _ hb hrb
theorem act_some {m : Mach} {L K : Nat} (hg : Good m L K) : ∀ t q, q < K → (∃ r, (r = q ∨ rB m L K q r = true) ∧ rB m L K r r = true) → 1 ≤ act m L K t q
  | 0, q, hq, ⟨r, h1, h2⟩ => by
    have hv : trivB m L K q = false := by
      rcases h1 with rfl | h1
      · exact (rB_v _ _ h2).1
      · exact (rB_v _ _ h1).1
    unfold act; rw [if_pos ⟨hq, hv⟩]; exact Nat.le_refl _
  | t + 1, q, hq, ⟨r, h1, h2⟩ => by
    have hvr := (rB_v _ _ h2).1
    have hqr : rA m L K q r = true := by
      rw [rAB hg q r hvr]
      rcases h1 with rfl | h1
      · exact h2
      · exact h1
    obtain ⟨_, x, hx, h⟩ := rA_first hg q r hqr
    have hs := hg.nn_lt q x hq hx
    have := act_some hg t (nn m q x) hs ⟨r, by
      rcases h with h | h
      · exact .inl h.symm
      · exact .inr (by rw [← rAB hg _ r hvr]; exact h), h2⟩
    rw [act_succ t q hq]
    have := sumN_term (f := fun x => act m L K t (nn m q x)) L hx
    omega
end Go.Proofs.Ytdbdoohcpcjfdaa
