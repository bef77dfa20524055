/- Cycles of states: closures of relations, how many cycles can be passed, kinds: plain data. -/
import Derived.Test.YtdbdoohcpcjfdaaMinK
namespace Go.Proofs.Ytdbdoohcpcjfdaa

/-! ### Closures -/
abbrev Rl := Nat → Nat → Bool
def wsR (T : Rl) (b : Nat) : Rl := fun p r => T p r || (T p b && T b r)
def wsh (T : Rl) : Nat → Rl
  | 0 => T
  | b + 1 => wsR (wsh T b) b
/-- In the middle of a round: the first i rows are done, and of the next one j places. -/
def wsM (T : Rl) (b i j : Nat) : Rl := fun p r => if p < i ∨ (p = i ∧ r < j) then wsR T b p r else T p r
theorem wsR_iff (T : Rl) (b p r : Nat) : wsR T b p r = true ↔ T p r = true ∨ (T p b = true ∧ T b r = true) := by simp [wsR]
theorem wsR_col (T : Rl) (b p : Nat) : wsR T b p b = T p b := by unfold wsR; cases T p b <;> simp
theorem wsR_row (T : Rl) (b r : Nat) : wsR T b b r = T b r := by unfold wsR; cases T b r <;> simp
theorem wsM_start (T : Rl) (b : Nat) : wsM T b 0 0 = T := by
  funext p r; unfold wsM; rw [if_neg (by omega)]
theorem wsM_val (T : Rl) (b i j : Nat) : (wsM T b i j i j || (wsM T b i j i b && wsM T b i j b j)) = wsR T b i j := by
  have h1 : wsM T b i j i j = T i j := by unfold wsM; rw [if_neg (by omega)]
  have h2 : wsM T b i j i b = T i b := by
    unfold wsM; split
    · exact wsR_col T b i
    · rfl
  have h3 : wsM T b i j b j = T b j := by
    unfold wsM; split
    · exact wsR_row T b j
    · rfl
  rw [h1, h2, h3]; rfl
/-- A relation between the first K numbers. -/
def Inn (K : Nat) (T : Rl) : Prop := ∀ p r, T p r = true → p < K ∧ r < K
theorem Inn.wsR {K : Nat} {T : Rl} (h : Inn K T) (b : Nat) : Inn K (wsR T b) := fun p r e => by
  rcases (wsR_iff T b p r).1 e with e | ⟨e1, e2⟩
  · exact h p r e
  · exact ⟨(h p b e1).1, (h b r e2).2⟩
theorem Inn.wsh {K : Nat} {T : Rl} (h : Inn K T) : ∀ b, Inn K (wsh T b)
  | 0 => h
  | b + 1 => (Inn.wsh h b).wsR b
theorem wsM_next (T : Rl) (b i j : Nat) : wsM T b i (j + 1) = fun p r => if p = i ∧ r = j then wsR T b i j else wsM T b i j p r := by
  funext p r
  by_cases h : p = i ∧ r = j
  · obtain ⟨rfl, rfl⟩ := h
    rw [if_pos ⟨rfl, rfl⟩]; unfold wsM; rw [if_pos (.inr ⟨rfl, by omega⟩)]
  · rw [if_neg h]; unfold wsM
    by_cases h2 : p < i ∨ (p = i ∧ r < j)
    · rw [if_pos h2, if_pos (by omega)]
    · rw [if_neg h2, if_neg (by omega)]
theorem wsM_rowEnd {K : Nat} {T : Rl} (h : Inn K T) (b i : Nat) : wsM T b i K = wsM T b (i + 1) 0 := by
  funext p r
  unfold wsM
  by_cases h1 : p < i
  · rw [if_pos (.inl h1), if_pos (.inl (by omega))]
  · by_cases h2 : p = i
    · subst h2
      by_cases h3 : r < K
      · rw [if_pos (.inr ⟨rfl, h3⟩), if_pos (.inl (Nat.lt_succ_self p))]
      · rw [if_neg (by omega), if_pos (.inl (Nat.lt_succ_self p))]
        have e1 : T p r = false := by cases hh : T p r; rfl; exact absurd (h p r hh).2 h3
        have e2 : T b r = false := by cases hh : T b r; rfl; exact absurd (h b r hh).2 h3
        unfold wsR; rw [e1, e2]; simp
    · rw [if_neg (by omega), if_neg (by omega)]
theorem wsM_end {K : Nat} {T : Rl} (h : Inn K T) (b : Nat) : wsM T b K 0 = wsR T b := by
  funext p r
  unfold wsM
  by_cases h1 : p < K
  · rw [if_pos (.inl h1)]
  · rw [if_neg (by omega)]
    have e1 : T p r = false := by cases hh : T p r; rfl; exact absurd (h p r hh).1 h1
    have e2 : T p b = false := by cases hh : T p b; rfl; exact absurd (h p b hh).1 h1
    unfold wsR; rw [e1, e2]; simp
theorem wsh_up (T : Rl) : ∀ b p r, T p r = true → wsh T b p r = true
  | 0, _, _, h => h
  | b + 1, p, r, h => (wsR_iff _ _ _ _).2 (.inl (wsh_up T b p r h))
theorem wsh_closed (T : Rl) : ∀ b c, c < b → ∀ p r, wsh T b p c = true → wsh T b c r = true → wsh T b p r = true
  | 0, _, h, _, _, _, _ => absurd h (by omega)
  | b + 1, c, hc, p, r, h1, h2 => by
    have e1 := (wsR_iff _ _ _ _).1 h1
    have e2 := (wsR_iff _ _ _ _).1 h2
    refine (wsR_iff _ _ _ _).2 ?_
    by_cases hcb : c = b
    · subst hcb
      exact .inr ⟨by rw [← wsR_col (wsh T c) c p]; exact h1, by rw [← wsR_row (wsh T c) c r]; exact h2⟩
    · have ih := wsh_closed T b c (by omega)
      rcases e1 with a | ⟨a1, a2⟩
      · rcases e2 with d | ⟨d1, d2⟩
        · exact .inl (ih p r a d)
        · exact .inr ⟨ih p b a d1, d2⟩
      · rcases e2 with d | ⟨d1, d2⟩
        · exact .inr ⟨a1, ih b r a2 d⟩
        · exact .inr ⟨a1, d2⟩
theorem wsh_min (T X : Rl) (h0 : ∀ p r, T p r = true → X p r = true) (ht : ∀ p c r, X p c = true → X c r = true → X p r = true) : ∀ b p r, wsh T b p r = true → X p r = true
  | 0, p, r, h => h0 p r h
  | b + 1, p, r, h => by
    rcases (wsR_iff _ _ _ _).1 h with a | ⟨a1, a2⟩
    · exact wsh_min T X h0 ht b p r a
    · exact ht p b r (wsh_min T X h0 ht b p b a1) (wsh_min T X h0 ht b b r a2)
theorem wsh_trans {K : Nat} {T : Rl} (h : Inn K T) (p c r : Nat) (h1 : wsh T K p c = true) (h2 : wsh T K c r = true) : wsh T K p r = true :=
  wsh_closed T K c (h.wsh K p c h1).2 p r h1 h2

/-! ### Greatest values -/
def mxF (c : Nat → Bool) (f : Nat → Nat) : Nat → Nat
  | 0 => 0
  | n + 1 => if c n then max (mxF c f n) (f n) else mxF c f n
theorem mxF_le {c : Nat → Bool} {f : Nat → Nat} {b : Nat} : ∀ n, (∀ i, i < n → c i = true → f i ≤ b) → mxF c f n ≤ b
  | 0, _ => Nat.zero_le _
  | n + 1, h => by
    have ih := mxF_le n (fun i hi => h i (by omega))
    unfold mxF
    cases hc : c n
    · simpa using ih
    · have := h n (by omega) hc
      simp; omega
theorem le_mxF {c : Nat → Bool} {f : Nat → Nat} : ∀ n i, i < n → c i = true → f i ≤ mxF c f n
  | 0, _, h, _ => absurd h (by omega)
  | n + 1, i, hi, hc => by
    unfold mxF
    by_cases h : i = n
    · subst h
      rw [if_pos hc]; omega
    · have ih := le_mxF (f := f) n i (by omega) hc
      split <;> omega
theorem mxF_congr {c c' : Nat → Bool} {f f' : Nat → Nat} : ∀ n, (∀ i, i < n → c i = c' i) → (∀ i, i < n → c i = true → f i = f' i) → mxF c f n = mxF c' f' n
  | 0, _, _ => rfl
  | n + 1, h1, h2 => by
    have ih := mxF_congr n (fun i hi => h1 i (by omega)) (fun i hi => h2 i (by omega))
    unfold mxF
    rw [ih, ← h1 n (by omega)]
    cases hc : c n
    · rfl
    · rw [h2 n (by omega) hc]

/-! ### Cycles that can be passed one after the other -/
def bhd (B : Rl) (r t : Nat) : Bool := decide (t ≠ r) && B r t && !B t r
def ownF (K : Nat) (B : Rl) (g : Nat → Nat) (r : Nat) : Nat := max 1 (mxF (bhd B r) (fun t => 1 + g t) K)
def cyc (B : Rl) (q r : Nat) : Bool := B r r && (decide (r = q) || B q r) && !(B r q && decide (r ≠ q))
def mostF (K : Nat) (B : Rl) : Nat → Nat → Nat
  | 0, _ => 0
  | f + 1, q => mxF (cyc B q) (ownF K B (mostF K B f)) K
theorem bhd_iff (B : Rl) (r t : Nat) : bhd B r t = true ↔ t ≠ r ∧ B r t = true ∧ B t r = false := by
  unfold bhd; simp [and_assoc]
theorem cyc_iff (B : Rl) (q r : Nat) : cyc B q r = true ↔ B r r = true ∧ (r = q ∨ B q r = true) ∧ (B r q = true → r = q) := by
  unfold cyc
  simp only [Bool.and_eq_true, Bool.or_eq_true, decide_eq_true_eq, Bool.not_eq_true', Bool.and_eq_false_iff, decide_eq_false_iff_not]
  constructor
  · rintro ⟨⟨h1, h2⟩, h3⟩
    refine ⟨h1, h2, fun h => ?_⟩
    rcases h3 with h3 | h3
    · rw [h3] at h; cases h
    · exact Decidable.not_not.1 h3
  · rintro ⟨h1, h2, h3⟩
    refine ⟨⟨h1, h2⟩, ?_⟩
    cases h : B r q
    · exact .inl rfl
    · exact .inr (fun hne => hne (h3 h))
/-- How many numbers are reached, q among them. -/
def rkR (K : Nat) (B : Rl) (q : Nat) : Nat := cntB (fun p => decide (p = q) || B q p) K
theorem rkR_le (K : Nat) (B : Rl) (q : Nat) : rkR K B q ≤ K := cntB_le _ _
theorem rkR_pos {K : Nat} {B : Rl} {q : Nat} (hq : q < K) : 1 ≤ rkR K B q := by
  have := cntB_lt (fun p => decide (p = q) || B q p) hq (by simp)
  unfold rkR; omega
theorem rkR_mono {K : Nat} {B : Rl} (ht : ∀ p c r, B p c = true → B c r = true → B p r = true) {q r : Nat} (h : r = q ∨ B q r = true) : rkR K B r ≤ rkR K B q := by
  refine cntB_mono _ _ K fun p _ hp => ?_
  simp only [Bool.or_eq_true, decide_eq_true_eq] at hp ⊢
  rcases h with rfl | h
  · exact hp
  · rcases hp with rfl | hp
    · exact .inr h
    · exact .inr (ht _ _ _ h hp)
theorem rkR_less {K : Nat} {B : Rl} (ht : ∀ p c r, B p c = true → B c r = true → B p r = true) {q r : Nat} (hq : q < K) (h : B q r = true) (hn : B r q = false) : rkR K B r < rkR K B q := by
  have hle := rkR_mono (K := K) ht (.inr h)
  rcases Nat.lt_or_ge (rkR K B r) (rkR K B q) with h1 | h1
  · exact h1
  · have hs := cntB_same (fun p => decide (p = r) || B r p) (fun p => decide (p = q) || B q p) K (fun p _ hp => by
      simp only [Bool.or_eq_true, decide_eq_true_eq] at hp ⊢
      rcases hp with rfl | hp
      · exact .inr h
      · exact .inr (ht _ _ _ h hp)) (by unfold rkR at *; omega) q hq
    simp only [decide_true, Bool.true_or] at hs
    have : (decide (q = r) || B r q) = true := hs
    rw [hn, Bool.or_false, decide_eq_true_eq] at this
    subst this
    rw [hn] at h; cases h
theorem mostF_stable {K : Nat} {B : Rl} (ht : ∀ p c r, B p c = true → B c r = true → B p r = true) : ∀ f q, q < K → rkR K B q ≤ f → mostF K B f q = mostF K B (f + 1) q
  | 0, q, hq, h => by have := rkR_pos (K := K) (B := B) hq; omega
  | f + 1, q, hq, h => by
    show mxF _ _ K = mxF _ _ K
    refine mxF_congr K (fun _ _ => rfl) fun r hr hc => ?_
    obtain ⟨_, h2, _⟩ := (cyc_iff B q r).1 hc
    have hrk := rkR_mono (K := K) ht h2
    unfold ownF
    refine congrArg _ (mxF_congr K (fun _ _ => rfl) fun t hT hb => ?_)
    obtain ⟨_, b1, b2⟩ := (bhd_iff B r t).1 hb
    have hlt := rkR_less ht hr b1 b2
    rw [mostF_stable ht f t hT (by omega)]
theorem mostF_any {K : Nat} {B : Rl} (ht : ∀ p c r, B p c = true → B c r = true → B p r = true) {f g q : Nat} (hq : q < K) (hf : rkR K B q ≤ f) (hfg : f ≤ g) : mostF K B f q = mostF K B g q := by
  induction hfg with
  | refl => rfl
  | @step m hm ih => rw [ih]; exact mostF_stable ht m q hq (Nat.le_trans hf hm)
theorem mostF_K {K k : Nat} {B : Rl} (hk : K = k + 1) (q : Nat) : mostF K B K q = mxF (cyc B q) (ownF K B (mostF K B k)) K := by
  have : ∀ f, f = k + 1 → mostF K B f q = mxF (cyc B q) (ownF K B (mostF K B k)) K := by rintro f rfl; rfl
  exact this K hk
theorem mostF_le (K : Nat) (B : Rl) : ∀ f q, mostF K B f q ≤ f
  | 0, _ => Nat.le_refl _
  | f + 1, q => by
    unfold mostF
    refine mxF_le K fun r _ _ => ?_
    unfold ownF
    have : mxF (bhd B r) (fun t => 1 + mostF K B f t) K ≤ f + 1 := mxF_le K fun t _ _ => by have := mostF_le K B f t; omega
    omega

/-! ### Kinds, told by numbers: 0, degree + 1, and a great one -/
def kE : Nat := 1000
def kCyc (n : Nat) : Nat := if n = kE then kE else n + 1
def kfR (K : Nat) (A : Rl) (V : Nat → Bool) (tu : Nat → Nat) (ks : Nat → Nat) (q : Nat) : Nat :=
  if V q then 0
  else if mxF (fun r => A q r && A r q) tu K = 0 then mxF (fun r => A q r && !A r q) ks K
  else if mxF (fun r => A q r && A r q) tu K = 1 then kCyc (mxF (fun r => A q r && !A r q) ks K)
  else kE
def xB (K : Nat) (B : Rl) (db : Nat → Nat) (q : Nat) : Bool := (List.range K).any fun r => (decide (r = q) || B q r) && (B r r && decide (1 < db r))
theorem xB_iff (K : Nat) (B : Rl) (db : Nat → Nat) (q : Nat) : xB K B db q = true ↔ ∃ r, r < K ∧ (r = q ∨ B q r = true) ∧ B r r = true ∧ 1 < db r := by
  unfold xB; simp [List.any_eq_true]
def tkK (K : Nat) (B : Rl) (db : Nat → Nat) (q : Nat) : Nat := if xB K B db q then kE else mostF K B K q
theorem tkK_le (K : Nat) (hK : K ≤ 16) (B : Rl) (db : Nat → Nat) (q : Nat) : tkK K B db q ≤ kE := by
  unfold tkK kE
  split
  · exact Nat.le_refl _
  · have := mostF_le K B K q; omega
/-- What the closures of all steps and of those between states that are not trivial have to do with one another. -/
structure Kin (K : Nat) (A B : Rl) (V : Nat → Bool) (tu db : Nat → Nat) : Prop where
  inn : Inn K A
  at_ : ∀ p c r, A p c = true → A c r = true → A p r = true
  bt : ∀ p c r, B p c = true → B c r = true → B p r = true
  ab : ∀ p r, V r = false → A p r = B p r
  bv : ∀ p r, B p r = true → V p = false ∧ V r = false
  va : ∀ p r, V p = true → A p r = true → V r = true
  tub : ∀ r, V r = false → A r r = true → tu r = db r
  one : ∀ r, r < K → A r r = true → 1 ≤ tu r
theorem Kin.ba {K : Nat} {A B : Rl} {V : Nat → Bool} {tu db : Nat → Nat} (h : Kin K A B V tu db) {p r : Nat} (e : B p r = true) : A p r = true := by
  rw [h.ab p r (h.bv p r e).2]; exact e
theorem Kin.vback {K : Nat} {A B : Rl} {V : Nat → Bool} {tu db : Nat → Nat} (h : Kin K A B V tu db) {p r : Nat} (e : A p r = true) (hr : V r = false) : V p = false := by
  cases hp : V p
  · rfl
  · rw [h.va p r hp e] at hr; cases hr
theorem Kin.fix {K : Nat} {A B : Rl} {V : Nat → Bool} {tu db : Nat → Nat} (h : Kin K A B V tu db) (hK : K ≤ 16) (ks : Nat → Nat) (q : Nat) (hq : q < K)
    (hks : ∀ r, r < K → A q r = true → A r q = false → ks r = tkK K B db r) : kfR K A V tu ks q = tkK K B db q := by
  unfold kfR
  cases hV : V q
  rotate_left
  · rw [if_pos rfl]
    have hx : xB K B db q = false := by
      cases hx : xB K B db q
      · rfl
      · obtain ⟨r, _, h1, h2, _⟩ := (xB_iff K B db q).1 hx
        rcases h1 with rfl | h1
        · rw [(h.bv _ _ h2).1] at hV; cases hV
        · rw [(h.bv _ _ h1).1] at hV; cases hV
    unfold tkK
    rw [hx, if_neg (by simp)]
    obtain ⟨k, rfl⟩ : ∃ k, K = k + 1 := ⟨K - 1, by omega⟩
    have : mostF (k + 1) B (k + 1) q ≤ 0 := mxF_le _ fun r _ hc => by
      obtain ⟨c1, c2, _⟩ := (cyc_iff B q r).1 hc
      rcases c2 with rfl | c2
      · rw [(h.bv _ _ c1).1] at hV; cases hV
      · rw [(h.bv _ _ c2).1] at hV; cases hV
    omega
  rw [if_neg (by simp)]
  -- states on the cycles of q are not trivial
  have hscc : ∀ r, A q r = true → A r q = true → V r = false ∧ A r r = true := fun r h1 h2 =>
    ⟨h.vback h2 hV, h.at_ r q r h2 h1⟩
  have hb1 : mxF (fun r => A q r && !A r q) ks K = mxF (fun r => A q r && !A r q) (tkK K B db) K :=
    mxF_congr K (fun _ _ => rfl) fun r hr hc => by
      simp only [Bool.and_eq_true, Bool.not_eq_true'] at hc
      exact hks r hr hc.1 hc.2
  rw [hb1]
  have hbe : mxF (fun r => A q r && !A r q) (tkK K B db) K ≤ kE := mxF_le K fun r _ _ => tkK_le K hK B db r
  cases hx : xB K B db q
  · have htk : tkK K B db q = mostF K B K q := by unfold tkK; rw [hx]; rfl
    have hx' : ∀ r, r < K → (r = q ∨ B q r = true) → B r r = true → db r ≤ 1 := fun r hr h1 h2 => by
      rcases Nat.lt_or_ge 1 (db r) with h3 | h3
      · rw [(xB_iff K B db q).2 ⟨r, hr, h1, h2, h3⟩] at hx; cases hx
      · exact h3
    have hxr : ∀ r, r < K → A q r = true → xB K B db r = false := fun r hr ha => by
      cases hxr : xB K B db r
      · rfl
      · obtain ⟨s, hs, h1, h2, h3⟩ := (xB_iff K B db r).1 hxr
        have hvs := (h.bv _ _ h2).1
        have : B q s = true := by
          rw [← h.ab q s hvs]
          rcases h1 with rfl | h1
          · exact ha
          · exact h.at_ _ _ _ ha (h.ba h1)
        have := hx' s hs (.inr this) h2
        omega
    have hb2 : mxF (fun r => A q r && !A r q) (tkK K B db) K = mxF (fun r => A q r && !A r q) (mostF K B K) K :=
      mxF_congr K (fun _ _ => rfl) fun r hr hc => by
        simp only [Bool.and_eq_true, Bool.not_eq_true'] at hc
        unfold tkK; rw [hxr r hr hc.1]; rfl
    rw [hb2]
    have htu : mxF (fun r => A q r && A r q) tu K ≤ 1 := mxF_le K fun r hr hc => by
      simp only [Bool.and_eq_true] at hc
      obtain ⟨v, a⟩ := hscc r hc.1 hc.2
      rw [h.tub r v a]
      exact hx' r hr (.inr (by rw [← h.ab q r v]; exact hc.1)) (by rw [← h.ab r r v]; exact a)
    have hne : mxF (fun r => A q r && !A r q) (mostF K B K) K ≠ kE := by
      have : mxF (fun r => A q r && !A r q) (mostF K B K) K ≤ K := mxF_le K fun r _ _ => mostF_le K B K r
      unfold kE; omega
    obtain ⟨k, hk⟩ : ∃ k, K = k + 1 := ⟨K - 1, by omega⟩
    have hun : mostF K B K q = mxF (cyc B q) (ownF K B (mostF K B k)) K := mostF_K hk q
    have hown : ∀ r, r < K → B r r = true → rkR K B r ≤ K → ownF K B (mostF K B k) r ≤ mostF K B K r := fun r hr hc _ => by
      have e : mostF K B K r = mxF (cyc B r) (ownF K B (mostF K B k)) K := mostF_K hk r
      rw [e]
      exact le_mxF K r hr ((cyc_iff B r r).2 ⟨hc, .inl rfl, fun _ => rfl⟩)
    rw [htk, hun]
    cases hqq : A q q
    · -- q is on no cycle
      have h0 : mxF (fun r => A q r && A r q) tu K = 0 := by
        have : mxF (fun r => A q r && A r q) tu K ≤ 0 := mxF_le K fun r _ hc => by
          simp only [Bool.and_eq_true] at hc
          rw [h.at_ q r q hc.1 hc.2] at hqq; cases hqq
        omega
      rw [if_pos h0]
      have hbq : B q q = false := by rw [← h.ab q q hV]; exact hqq
      apply Nat.le_antisymm
      · refine mxF_le K fun r hr hc => ?_
        simp only [Bool.and_eq_true, Bool.not_eq_true'] at hc
        have e : mostF K B K r = mxF (cyc B r) (ownF K B (mostF K B k)) K := mostF_K hk r
        rw [e]
        refine mxF_le K fun s hs hc2 => le_mxF K s hs ?_
        obtain ⟨c1, c2, c3⟩ := (cyc_iff B r s).1 hc2
        have hvs := (h.bv _ _ c1).1
        have hqs : A q s = true := by
          rcases c2 with rfl | c2
          · exact hc.1
          · exact h.at_ _ _ _ hc.1 (h.ba c2)
        refine (cyc_iff B q s).2 ⟨c1, .inr (by rw [← h.ab q s hvs]; exact hqs), fun e => ?_⟩
        have := h.at_ q s q hqs (h.ba e)
        rw [this] at hqq; cases hqq
      · refine mxF_le K fun r hr hc => ?_
        obtain ⟨c1, c2, c3⟩ := (cyc_iff B q r).1 hc
        have hqr : B q r = true := by
          rcases c2 with rfl | c2
          · rw [c1] at hbq; cases hbq
          · exact c2
        have hrq : A r q = false := by
          cases e : A r q
          · rfl
          · rw [h.at_ q r q (h.ba hqr) e] at hqq; cases hqq
        exact Nat.le_trans (hown r hr c1 (rkR_le _ _ _)) (le_mxF (f := mostF K B K) K r hr (by simp only [Bool.and_eq_true, Bool.not_eq_true']; exact ⟨h.ba hqr, hrq⟩))
    · -- q is on a cycle
      have h1 : mxF (fun r => A q r && A r q) tu K = 1 := by
        have a := h.one q hq hqq
        have b := le_mxF (c := fun r => A q r && A r q) (f := tu) K q hq (by simp [hqq])
        omega
      have hbq : B q q = true := by rw [← h.ab q q hV]; exact hqq
      rw [if_neg (by omega), if_pos h1]
      unfold kCyc
      rw [if_neg hne]
      have hbm : mxF (bhd B q) (fun t => 1 + mostF K B k t) K ≤ mxF (fun r => A q r && !A r q) (mostF K B K) K + 1 := mxF_le K fun t hT hb => by
        obtain ⟨_, b1, b2⟩ := (bhd_iff B q t).1 hb
        have hvt := (h.bv _ _ b1).2
        have htq : A t q = false := by rw [h.ab t q hV]; exact b2
        have hst : mostF K B k t = mostF K B K t := by
          have := rkR_less h.bt hq b1 b2
          have := rkR_le K B q
          exact mostF_any h.bt hT (by omega) (by omega)
        have := le_mxF (c := fun r => A q r && !A r q) (f := mostF K B K) K t hT (by simp only [Bool.and_eq_true, Bool.not_eq_true']; exact ⟨h.ba b1, htq⟩)
        rw [hst]; omega
      have hgo : mxF (fun r => A q r && !A r q) (mostF K B K) K + 1 ≤ ownF K B (mostF K B k) q := by
        have key : ∀ n, n ≤ K → mxF (fun r => A q r && !A r q) (mostF K B K) n + 1 ≤ max 1 (mxF (bhd B q) (fun t => 1 + mostF K B k t) n) := by
          intro n
          induction n with
          | zero => intro _; exact Nat.le_max_left _ _
          | succ n ih =>
            intro hn
            have ih := ih (by omega)
            unfold mxF
            cases hc : (A q n && !A n q)
            · rw [if_neg (by simp)]
              split <;> omega
            · simp only [Bool.and_eq_true, Bool.not_eq_true'] at hc
              rw [if_pos rfl]
              cases hvn : V n
              · have b1 : B q n = true := by rw [← h.ab q n hvn]; exact hc.1
                have b2 : B n q = false := by rw [← h.ab n q hV]; exact hc.2
                have hb : bhd B q n = true := (bhd_iff B q n).2 ⟨fun e => (by subst e; rw [b1] at b2; cases b2), b1, b2⟩
                rw [if_pos hb]
                have hst : mostF K B k n = mostF K B K n := by
                  have := rkR_less h.bt hq b1 b2
                  have := rkR_le K B q
                  exact mostF_any h.bt (by omega) (by omega) (by omega)
                rw [hst]
                omega
              · have h0 : mostF K B K n = 0 := by
                  have e : mostF K B K n = mxF (cyc B n) (ownF K B (mostF K B k)) K := mostF_K hk n
                  have : mostF K B K n ≤ 0 := by
                    rw [e]
                    refine mxF_le _ fun r _ hc => ?_
                    obtain ⟨c1, c2, _⟩ := (cyc_iff B n r).1 hc
                    rcases c2 with rfl | c2
                    · rw [(h.bv _ _ c1).1] at hvn; cases hvn
                    · rw [(h.bv _ _ c2).1] at hvn; cases hvn
                  omega
                rw [h0]
                split <;> omega
        exact key K (Nat.le_refl _)
      apply Nat.le_antisymm
      · exact Nat.le_trans hgo (le_mxF (f := ownF K B (mostF K B k)) K q hq ((cyc_iff B q q).2 ⟨hbq, .inl rfl, fun _ => rfl⟩))
      · refine mxF_le K fun r hr hc => ?_
        obtain ⟨c1, c2, c3⟩ := (cyc_iff B q r).1 hc
        by_cases hrq : r = q
        · subst hrq
          unfold ownF
          omega
        · have hqr : B q r = true := c2.resolve_left hrq
          have hnr : A r q = false := by
            cases e : A r q
            · rfl
            · exact absurd (c3 (by rw [← h.ab r q hV]; exact e)) hrq
          have := le_mxF (c := fun r => A q r && !A r q) (f := mostF K B K) K r hr (by simp only [Bool.and_eq_true, Bool.not_eq_true']; exact ⟨h.ba hqr, hnr⟩)
          have := hown r hr c1 (rkR_le _ _ _)
          omega
  · -- a state on two cycles is reached
    have htk : tkK K B db q = kE := by unfold tkK; rw [hx]; rfl
    rw [htk]
    obtain ⟨r, hr, h1, h2, h3⟩ := (xB_iff K B db q).1 hx
    have hvr := (h.bv _ _ h2).1
    have hqr : A q r = true := by
      rcases h1 with rfl | h1
      · exact h.ba h2
      · exact h.ba h1
    cases hrq : A r q
    · have hxr : xB K B db r = true := (xB_iff K B db r).2 ⟨r, hr, .inl rfl, h2, h3⟩
      have hge := le_mxF (c := fun r => A q r && !A r q) (f := tkK K B db) K r hr (by simp only [Bool.and_eq_true, Bool.not_eq_true']; exact ⟨hqr, hrq⟩)
      have e : tkK K B db r = kE := by unfold tkK; rw [hxr]; rfl
      rw [e] at hge
      have he : mxF (fun r => A q r && !A r q) (tkK K B db) K = kE := Nat.le_antisymm hbe hge
      rw [he]
      split
      · rfl
      · split
        · unfold kCyc; rw [if_pos rfl]
        · rfl
    · have hge := le_mxF (c := fun r => A q r && A r q) (f := tu) K r hr (by simp only [Bool.and_eq_true]; exact ⟨hqr, hrq⟩)
      rw [h.tub r hvr (h.ba h2)] at hge
      rw [if_neg (by omega), if_neg (by omega)]
end Go.Proofs.Ytdbdoohcpcjfdaa
