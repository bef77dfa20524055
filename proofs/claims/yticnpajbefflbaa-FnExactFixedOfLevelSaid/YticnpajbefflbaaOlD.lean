/- The cycles of a level under a group word: their lengths divide 7776; plain data. -/
import Derived.Test.YticnpajbefflbaaPwD
import Derived.Test.YticnpajbefflbaaPerG
import Derived.Test.YticnpajbefflbaaOrdT
namespace Go.Proofs.Yticnpajbefflbaa
open Go.RowKit

theorem numL_wordO (d : Nat) (hd : d = 2 ∨ d = 3) : ∀ n k, k < d ^ n → numL d (wordOf d n k) = k
  | 0, k, h => by simp at h; subst h; rfl
  | n + 1, k, h => by
    have hk : k / d < d ^ n := Nat.div_lt_of_lt_mul (by rw [Nat.mul_comm]; rwa [Nat.pow_succ] at h)
    have hm : k % d < d := Nat.mod_lt _ (by omega)
    rw [wordOf, numL_snoc, numL_wordO d hd n _ hk]
    have hc : (UInt8.ofNat (48 + k % d)).toNat = 48 + k % d := by
      rw [UInt8.toNat_ofNat']
      omega
    rw [hc, Nat.mul_comm]
    have := Nat.div_add_mod k d
    omega

/-! ### Iterations of words -/
theorem itG_add (M : Mach) (zs : List Int) (w : List UInt8) (a : Nat) : ∀ b, itG M zs w (a + b) = itG M zs (itG M zs w a) b
  | 0 => rfl
  | b + 1 => by
    show (actG M zs (itG M zs w (a + b))).1 = (actG M zs (itG M zs (itG M zs w a) b)).1
    rw [itG_add M zs w a b]
theorem itG_mul (M : Mach) (zs : List Int) (w : List UInt8) (a : Nat) (h : itG M zs w a = w) : ∀ m, itG M zs w (a * m) = w
  | 0 => rfl
  | m + 1 => by rw [Nat.mul_add, Nat.mul_one, itG_add, itG_mul M zs w a h m, h]
theorem itG_snoc (M : Mach) (zs : List Int) (v : List UInt8) (c : UInt8) : ∀ i, ∃ d, itG M zs (v ++ [c]) i = itG M zs v i ++ [d]
  | 0 => ⟨c, rfl⟩
  | i + 1 => by
    obtain ⟨d, hd⟩ := itG_snoc M zs v c i
    refine ⟨dig ((ledG M (actG M zs (itG M zs v i)).2 (d.toNat - 48)).1 : Nat), ?_⟩
    show (actG M zs (itG M zs (v ++ [c]) i)).1 = _
    rw [hd, actG_snoc]
    rfl
/-- Behind 6 ^ n steps a word of n letters is what it was. -/
theorem itG_back6 {M : Mach} {L S : Nat} (hg : Good M L S) (zs : List Int) (hz : numsOk S zs = true) : ∀ n (w : List UInt8), w.length = n → lettersL L w = true → itG M zs w (6 ^ n) = w := by
  intro n
  induction n with
  | zero => intro w hw _; rw [List.eq_nil_of_length_eq_zero hw]; rfl
  | succ n ih =>
    intro w hw hl
    obtain ⟨v, c, rfl, hv⟩ := snoc_of_len hw
    have hl' := hl
    rw [lettersL_snoc, Bool.and_eq_true] at hl'
    have hL3 := hg.L3
    have hv6 := ih v hv hl'.1
    have hok := itG_ok hg zs hz (v ++ [c]) hl
    have hlast : ∀ i, ∃ d : UInt8, itG M zs (v ++ [c]) (6 ^ n * i) = v ++ [d] ∧ 48 ≤ d.toNat ∧ d.toNat - 48 < 3 := fun i => by
      obtain ⟨d, hd⟩ := itG_snoc M zs v c (6 ^ n * i)
      rw [itG_mul M zs v _ hv6] at hd
      have h2 := (hok (6 ^ n * i)).2
      rw [hd, lettersL_snoc, Bool.and_eq_true] at h2
      have := (letterB_iff L d).1 h2.2
      exact ⟨d, hd, by omega, by omega⟩
    obtain ⟨i, j, hij, hj, e⟩ := pigeon 3 (fun i => (Classical.choose (hlast i)).toNat - 48) (fun i _ => (Classical.choose_spec (hlast i)).2.2)
    have si := Classical.choose_spec (hlast i)
    have sj := Classical.choose_spec (hlast j)
    have ed : Classical.choose (hlast i) = Classical.choose (hlast j) := UInt8.toNat_inj.1 (by have h1 := si.2.1; have h2 := sj.2.1; have h3 : (Classical.choose (hlast i)).toNat - 48 = (Classical.choose (hlast j)).toNat - 48 := e; omega)
    have ew : itG M zs (v ++ [c]) (6 ^ n * i) = itG M zs (v ++ [c]) (6 ^ n * i + 6 ^ n * (j - i)) := by
      rw [← Nat.mul_add, show i + (j - i) = j from by omega, si.1, sj.1, ed]
    have hb := itG_back hg zs hz (v ++ [c]) hl (6 ^ n * (j - i)) (6 ^ n * i) ew
    have h6 : 6 ^ (n + 1) = 6 ^ n * (j - i) * (6 / (j - i)) := by
      rw [Nat.pow_succ, Nat.mul_assoc]
      congr 1
      have : j - i = 1 ∨ j - i = 2 ∨ j - i = 3 := by omega
      rcases this with h | h | h <;> rw [h]
    rw [h6]
    exact itG_mul M zs _ _ hb _
theorem itG_7776 {M : Mach} {L S : Nat} (hg : Good M L S) (zs : List Int) (hz : numsOk S zs = true) (w : List UInt8) (hw : lettersL L w = true) (hn : w.length ≤ 5) : itG M zs w 7776 = w := by
  have h := itG_back6 hg zs hz w.length w rfl hw
  have e : 7776 = 6 ^ w.length * 6 ^ (5 - w.length) := by rw [← Nat.pow_add, show w.length + (5 - w.length) = 5 from by omega]
  rw [e]
  exact itG_mul M zs w _ h _

/-! ### Iterations of numbers -/
def fj (zs : List Int) (i : Nat) : Nat → Nat
  | 0 => i
  | j + 1 => (zs.getD (fj zs i j) 0).toNat
theorem fj_add (zs : List Int) (i a : Nat) : ∀ b, fj zs i (a + b) = fj zs (fj zs i a) b
  | 0 => rfl
  | b + 1 => by show (zs.getD (fj zs i (a + b)) 0).toNat = _; rw [fj_add zs i a b]; rfl
theorem wk_fj (zs : List Int) (met : List Bool) (i : Nat) : ∀ j, (wk zs met i j).2 = fj zs i j
  | 0 => rfl
  | j + 1 => by show (zs.getD (wk zs met i j).2 0).toNat = _; rw [wk_fj zs met i j]; rfl
theorem permG_at (M : Mach) (zs : List Int) (L n p : Nat) (hp : p < L ^ n) : (permG M zs L n).getD p 0 = permGat M zs L n p := by
  simp [permG, permGK, List.getD, List.getElem?_map, List.getElem?_range hp]
theorem wordOf_num (L : Nat) (hL : L = 2 ∨ L = 3) (l : List UInt8) (hl : lettersL L l = true) : wordOf L l.length (numL L l) = l := by
  have h1 := numL_take_lt L l hl l.length (Nat.le_refl _)
  rw [List.take_length] at h1
  exact num_inj L (by omega) l.length _ _ (length_wordOf _ _ _) rfl (lettersL_wordOf L hL _ _) hl (numL_wordO L hL _ _ h1)
theorem fj_word {M : Mach} {L S : Nat} (hg : Good M L S) (zs : List Int) (hz : numsOk S zs = true) (n p : Nat) (hp : p < L ^ n) : ∀ j, fj (permG M zs L n) p j = numL L (itG M zs (wordOf L n p) j) ∧ fj (permG M zs L n) p j < L ^ n
  | 0 => by
    have h : numL L (wordOf L n p) = p := numL_wordO L hg.L23 n p hp
    exact ⟨h.symm, hp⟩
  | j + 1 => by
    obtain ⟨h1, h2⟩ := fj_word hg zs hz n p hp j
    have hw := lettersL_wordOf L hg.L23 n p
    obtain ⟨a1, a2⟩ := itG_ok hg zs hz _ hw j
    rw [length_wordOf] at a1
    have hwn := wordOf_num L hg.L23 _ a2
    rw [a1, ← h1] at hwn
    have e : fj (permG M zs L n) p (j + 1) = numL L (itG M zs (wordOf L n p) (j + 1)) := by
      show ((permG M zs L n).getD (fj (permG M zs L n) p j) 0).toNat = numL L (actG M zs (itG M zs (wordOf L n p) j)).1
      rw [permG_at _ _ _ _ _ h2]
      unfold permGat numI
      rw [hwn]
      rfl
    obtain ⟨b1, b2⟩ := itG_ok hg zs hz _ hw (j + 1)
    have h3 := numL_take_lt L _ b2 _ (Nat.le_refl _)
    rw [List.take_length, b1, length_wordOf] at h3
    exact ⟨e, by rw [e]; exact h3⟩
theorem permG_in {M : Mach} {L S : Nat} (hg : Good M L S) (zs : List Int) (hz : numsOk S zs = true) (n : Nat) : inB (permG M zs L n) := by
  intro p hp
  have hN : (permG M zs L n).length = L ^ n := by rw [permG, permGK_len]
  rw [hN] at hp ⊢
  have h := (fj_word hg zs hz n p hp 1).2
  refine ⟨?_, h⟩
  rw [permG_at _ _ _ _ _ hp]
  unfold permGat numI
  omega
theorem permG_7776 {M : Mach} {L S : Nat} (hg : Good M L S) (zs : List Int) (hz : numsOk S zs = true) (n : Nat) (hn : n ≤ 5) (p : Nat) (hp : p < (permG M zs L n).length) : fj (permG M zs L n) p 7776 = p := by
  rw [permG, permGK_len] at hp
  rw [(fj_word hg zs hz n p hp 7776).1, itG_7776 hg zs hz _ (lettersL_wordOf L hg.L23 n p) (by rw [length_wordOf]; exact hn)]
  exact numL_wordO L hg.L23 n p hp

/-! ### Lengths of cycles of what comes back behind D steps -/
section
variable (zs : List Int) (D : Nat) (hz : inB zs) (hD : 0 < D) (hb : ∀ p, p < zs.length → fj zs p D = p)
include hz
theorem fj_lt (i : Nat) (hi : i < zs.length) : ∀ j, fj zs i j < zs.length
  | 0 => hi
  | j + 1 => (hz _ (fj_lt i hi j)).2
include hD hb
omit hz in
theorem fj_inj1 (p q : Nat) (hp : p < zs.length) (hq : q < zs.length) (e : fj zs p 1 = fj zs q 1) : p = q := by
  have h1 : fj zs p (1 + (D - 1)) = fj zs q (1 + (D - 1)) := by rw [fj_add, fj_add, e]
  rw [show 1 + (D - 1) = D from by omega, hb p hp, hb q hq] at h1
  exact h1
theorem fj_back (i : Nat) (hi : i < zs.length) (k : Nat) : ∀ a, fj zs i a = fj zs i (a + k) → fj zs i k = i
  | 0, e => by rw [Nat.zero_add] at e; exact e.symm
  | a + 1, e => fj_back i hi k a (fj_inj1 zs D hD hb _ _ (fj_lt zs hz i hi a) (fj_lt zs hz i hi (a + k)) (by
      rw [show a + 1 + k = (a + k) + 1 from by omega] at e
      exact e))
/-- Who leads to a met number is met. -/
def backM (zs : List Int) (met : List Bool) : Prop := ∀ p, p < zs.length → met.getD (fj zs p 1) true = true → met.getD p true = true
omit hz hD hb in
theorem wk_met (met : List Bool) (i : Nat) (hl : ∀ j, fj zs i j < met.length) : ∀ j x, (wk zs met i j).1.length = met.length ∧ ((wk zs met i j).1.getD x true = true ↔ (met.getD x true = true ∨ ∃ a, a < j ∧ fj zs i a = x))
  | 0, x => by simp [wk]
  | j + 1, x => by
    obtain ⟨h1, h2⟩ := wk_met met i hl j x
    refine ⟨by simp [wk, h1], ?_⟩
    have e : (wk zs met i (j + 1)).1 = (wk zs met i j).1.set (fj zs i j) true := by
      show (wk zs met i j).1.set (wk zs met i j).2 true = _
      rw [wk_fj]
    rw [e]
    by_cases hx : fj zs i j = x
    · subst hx
      have : ((wk zs met i j).1.set (fj zs i j) true).getD (fj zs i j) true = true := by
        rw [List.getD, List.getElem?_set, if_pos rfl]
        split <;> rfl
      exact ⟨fun _ => .inr ⟨j, by omega, rfl⟩, fun _ => this⟩
    · have : ((wk zs met i j).1.set (fj zs i j) true).getD x true = (wk zs met i j).1.getD x true := by
        rw [List.getD, List.getElem?_set, if_neg hx]
        rfl
      rw [this, h2]
      constructor
      · rintro (h | ⟨a, ha, rfl⟩)
        · exact .inl h
        · exact .inr ⟨a, by omega, rfl⟩
      · rintro (h | ⟨a, ha, rfl⟩)
        · exact .inl h
        · refine .inr ⟨a, ?_, rfl⟩
          have : a ≠ j := fun e => hx (by rw [e])
          omega
theorem cyc_step (met : List Bool) (hm : met.length = zs.length) (hM : backM zs met) (i : Nat) (hi : i < zs.length) : backM zs (wk zs met i (cycJ zs met i)).1 ∧ (cycJ zs met i ≠ 0 → cycJ zs met i ∣ D) := by
  obtain ⟨j1, j2, j3⟩ := cycJ_ok zs met i hm
  have hlt := fj_lt zs hz i hi
  have hw := wk_met zs met i (fun j => by rw [hm]; exact hlt j)
  generalize cycJ zs met i = J at *
  by_cases h0 : J = 0
  · subst h0
    exact ⟨hM, fun h => absurd rfl h⟩
  have hnm : met.getD i true = false := j3 0 (by omega)
  have hnone : ∀ j, j < J → ¬ (met.getD (fj zs i j) true = true ∨ ∃ a, a < j ∧ fj zs i a = fj zs i j) := fun j hj h => by
    have h1 := (hw j (fj zs i j)).2.2 h
    have h2 := j3 j hj
    unfold stopB at h2
    rw [wk_fj, h1] at h2
    cases h2
  have hmet : ∀ j, met.getD (fj zs i j) true = true → met.getD i true = true := by
    intro j
    induction j with
    | zero => exact fun h => h
    | succ j ih => exact fun h => ih (hM _ (hlt j) h)
  have hJ : fj zs i J = i := by
    unfold stopB at j2
    rw [wk_fj] at j2
    rcases (hw J (fj zs i J)).2.1 j2 with h | ⟨a, ha, e⟩
    · rw [hmet J h] at hnm; cases hnm
    · have hk := fj_back zs D hz hD hb i hi (J - a) a (by rw [show a + (J - a) = J from by omega]; exact e)
      by_cases h : a = 0
      · subst h; exact hk
      · exact absurd (.inr ⟨0, by omega, hk.symm⟩) (hnone (J - a) (by omega))
  refine ⟨fun p hp h => ?_, fun _ => ?_⟩
  · rcases (hw J _).2.1 h with h | ⟨a, ha, e⟩
    · exact (hw J p).2.2 (.inl (hM p hp h))
    · refine (hw J p).2.2 (.inr ?_)
      cases a with
      | zero =>
        refine ⟨J - 1, by omega, fj_inj1 zs D hD hb _ _ (hlt _) hp ?_⟩
        rw [← e, ← fj_add, show J - 1 + 1 = J from by omega, hJ]
        rfl
      | succ a => exact ⟨a, by omega, fj_inj1 zs D hD hb _ _ (hlt _) hp (by rw [← e, ← fj_add])⟩
  · have hmul : ∀ m, fj zs i (J * m) = i := by
      intro m
      induction m with
      | zero => rfl
      | succ m ih => rw [Nat.mul_add, Nat.mul_one, fj_add, ih, hJ]
    have hr : fj zs i (D % J) = i := by
      have h1 := hb i hi
      rw [← Nat.div_add_mod D J, fj_add, hmul] at h1
      exact h1
    have hlt2 : D % J < J := Nat.mod_lt _ (by omega)
    refine Nat.dvd_of_mod_eq_zero ?_
    rcases Nat.eq_zero_or_pos (D % J) with h | h
    · exact h
    · exact absurd (.inr ⟨0, h, hr.symm⟩) (hnone (D % J) hlt2)
theorem cs_dvd : ∀ k, k ≤ zs.length → backM zs (cs zs k).1 ∧ ∀ c ∈ (cs zs k).2, c.toNat ∣ D
  | 0, _ => by
    refine ⟨fun p hp h => ?_, fun c hc => by simp [cs] at hc⟩
    exfalso
    have h1 := (hz p hp).2
    simp only [cs] at h
    rw [show fj zs p 1 = (zs.getD p 0).toNat from rfl] at h
    simp only [List.getD, List.getElem?_replicate] at h h1
    rw [if_pos h1] at h
    cases h
  | k + 1, hk => by
    obtain ⟨h1, h2⟩ := cs_dvd k (by omega)
    have hl := (cs_ok zs hz k (by omega)).1
    obtain ⟨s1, s2⟩ := cyc_step zs D hz hD hb (cs zs k).1 hl h1 k (by omega)
    simp only [cs]
    refine ⟨s1, fun c hc => ?_⟩
    split at hc
    · exact h2 c hc
    · rename_i h0
      rcases List.mem_append.1 hc with hc | hc
      · exact h2 c hc
      · rw [List.mem_singleton.1 hc, Int.toNat_natCast]
        exact s2 h0
end
theorem lcN_dvd (a b D : Nat) (ha : a ∣ D) (hb : b ∣ D) : lcN a b ∣ D := by
  have e : lcN a b = Nat.lcm a b := by
    unfold lcN Nat.lcm
    rw [Nat.mul_comm (a / _) b, ← Nat.mul_div_assoc _ (Nat.gcd_dvd_left a b), Nat.mul_comm b a]
  rw [e]
  exact Nat.lcm_dvd ha hb
theorem ordL_dvd (D : Nat) (l : List Int) : (∀ c ∈ l, c.toNat ∣ D) → ordL l ∣ D := by
  induction l using list_snoc with
  | h0 => intro _; exact Nat.one_dvd D
  | hs l c ih =>
    intro h
    rw [ordL_snoc]
    exact lcN_dvd _ _ _ (ih (fun x hx => h x (by simp [hx]))) (h c (by simp))
/-- All that a step of the order asks. -/
theorem ord_step6 (l : List Int) (hc : ∀ c ∈ l, (1 : Int) ≤ c) (hs : ∀ c ∈ l, c.toNat ∣ 7776) (k : Nat) (hk : k < l.length) :
    1 ≤ ordL (l.take k) ∧ ordL (l.take k) ≤ 7625597484987 ∧ ∃ c : Nat, l[k] = (c : Int) ∧ 1 ≤ c ∧ c ≤ 7776 ∧ ordL (l.take k) * c ≤ 7625597484987 ∧ ordL (l.take (k + 1)) = lcN (ordL (l.take k)) c := by
  have hck : (1 : Int) ≤ l[k] := hc _ (List.getElem_mem hk)
  obtain ⟨c, hcc⟩ := Int.eq_ofNat_of_zero_le (a := l[k]) (by omega)
  have e : l.take (k + 1) = l.take k ++ [l[k]] := by rw [List.take_add_one, List.getElem?_eq_getElem hk]; rfl
  have h1 : ordL (l.take k) ≤ 7776 := Nat.le_of_dvd (by omega) (ordL_dvd 7776 _ (fun x hx => hs x (List.mem_of_mem_take hx)))
  have h2 := ord_prod (l.take k) (fun x hx => hc x (List.mem_of_mem_take hx))
  have h3 := Nat.le_of_dvd (by omega) (hs _ (List.getElem_mem hk))
  rw [hcc, Int.toNat_natCast] at h3
  have h4 : ordL (l.take k) * c ≤ 7776 * 7776 := Nat.mul_le_mul h1 h3
  refine ⟨h2.1, by omega, c, hcc, by omega, by omega, by omega, ?_⟩
  rw [e, ordL_snoc, hcc, Int.toNat_natCast]
theorem permG_cyc {M : Mach} {L S : Nat} (hg : Good M L S) (zs : List Int) (hz : numsOk S zs = true) (n : Nat) (hn : n ≤ 5) : (∀ c ∈ cycL (permG M zs L n), (1 : Int) ≤ c) ∧ (∀ c ∈ cycL (permG M zs L n), c.toNat ∣ 7776) := by
  have hin := permG_in hg zs hz n
  have h1 := (cs_sum _ hin _ (Nat.le_refl _)).2
  have h2 := (cs_dvd _ 7776 hin (by omega) (permG_7776 hg zs hz n hn) _ (Nat.le_refl _)).2
  exact ⟨h1, h2⟩
end Go.Proofs.Yticnpajbefflbaa
