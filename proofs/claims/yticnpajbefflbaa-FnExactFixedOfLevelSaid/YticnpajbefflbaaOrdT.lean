/- Least common multiples of the lengths of cycles: plain data and bounds. -/
import Derived.Test.YticnpajbefflbaaCyc
namespace Go.Proofs.Yticnpajbefflbaa
open Go.RowKit

def lcN (a b : Nat) : Nat := a / Nat.gcd a b * b
def ordL (l : List Int) : Nat := l.foldl (fun o c => lcN o c.toNat) 1
def sumT (l : List Int) : Nat := (l.map Int.toNat).sum
def prodT (l : List Int) : Nat := l.foldl (fun o c => o * c.toNat) 1
theorem ordL_snoc (l : List Int) (c : Int) : ordL (l ++ [c]) = lcN (ordL l) c.toNat := by simp [ordL]
theorem prodT_snoc (l : List Int) (c : Int) : prodT (l ++ [c]) = prodT l * c.toNat := by simp [prodT]
theorem sumT_snoc (l : List Int) (c : Int) : sumT (l ++ [c]) = sumT l + c.toNat := by simp [sumT]
theorem lcN_le (a b : Nat) : lcN a b ≤ a * b := Nat.mul_le_mul_right _ (Nat.div_le_self _ _)
theorem lcN_pos (a b : Nat) (ha : 1 ≤ a) (hb : 1 ≤ b) : 1 ≤ lcN a b := by
  unfold lcN
  have h1 : 0 < Nat.gcd a b := Nat.gcd_pos_of_pos_left _ (by omega)
  have h2 : 1 ≤ a / Nat.gcd a b := (Nat.one_le_div_iff h1).2 (Nat.le_of_dvd (by omega) (Nat.gcd_dvd_left a b))
  exact Nat.le_trans h2 (Nat.le_mul_of_pos_right _ (by omega))
theorem list_snoc {motive : List Int → Prop} (h0 : motive []) (hs : ∀ l c, motive l → motive (l ++ [c])) (l : List Int) : motive l := by
  rw [← List.reverse_reverse l]
  induction l.reverse with
  | nil => exact h0
  | cons c t ih => rw [List.reverse_cons]; exact hs _ c ih
theorem ord_prod (l : List Int) : (∀ c ∈ l, (1 : Int) ≤ c) → 1 ≤ ordL l ∧ ordL l ≤ prodT l := by
  induction l using list_snoc with
  | h0 => intro _; simp [ordL, prodT]
  | hs l c ih =>
    intro h
    obtain ⟨h1, h2⟩ := ih (fun x hx => h x (by simp [hx]))
    have hc := h c (by simp)
    rw [ordL_snoc, prodT_snoc]
    exact ⟨lcN_pos _ _ h1 (by omega), Nat.le_trans (lcN_le _ _) (Nat.mul_le_mul_right _ h2)⟩
theorem cube_le : ∀ c, c < 244 → c ^ 3 ≤ 3 ^ c := by decide +kernel
theorem prod_cube (l : List Int) : (∀ c ∈ l, c.toNat < 244) → prodT l ^ 3 ≤ 3 ^ sumT l := by
  induction l using list_snoc with
  | h0 => intro _; simp [sumT, prodT]
  | hs l c ih =>
    intro h
    have h1 := ih (fun x hx => h x (by simp [hx]))
    rw [prodT_snoc, sumT_snoc, Nat.mul_pow, Nat.pow_add]
    exact Nat.mul_le_mul h1 (cube_le _ (h c (by simp)))
theorem le_sumT (l : List Int) (c : Int) (h : c ∈ l) : c.toNat ≤ sumT l := by
  unfold sumT
  induction l with
  | nil => cases h
  | cons a l ih =>
    rw [List.map_cons, List.sum_cons]
    rcases List.mem_cons.1 h with rfl | h
    · omega
    · have := ih h; omega
theorem prod_bd (l : List Int) (h : sumT l ≤ 81) : prodT l ≤ 3 ^ 27 := by
  have hb : ∀ c ∈ l, c.toNat < 244 := by
    intro c hc
    have : c.toNat ≤ sumT l := le_sumT l c hc
    omega
  have h1 := prod_cube l hb
  have h2 : 3 ^ sumT l ≤ 3 ^ 81 := Nat.pow_le_pow_right (by omega) h
  by_cases h3 : prodT l ≤ 3 ^ 27
  · exact h3
  · exfalso
    have h4 : (3 ^ 27 + 1) ^ 3 ≤ prodT l ^ 3 := Nat.pow_le_pow_left (by omega) 3
    have h5 : (3 : Nat) ^ 81 < (3 ^ 27 + 1) ^ 3 := by decide +kernel
    omega
theorem wk_count (zs : List Int) (met : List Bool) (i : Nat) (hm : met.length = zs.length) : ∀ j, j ≤ cycJ zs met i → (wk zs met i j).1.count false + j = met.count false
  | 0, _ => rfl
  | j + 1, hj => by
    have h1 := count_set (wk zs met i j).1 (wk zs met i j).2 ((cycJ_ok zs met i hm).2.2 j (by omega))
    have h2 := wk_count zs met i hm j (by omega)
    simp only [wk]
    omega
theorem cs_sum (zs : List Int) (hz : inB zs) : ∀ k, k ≤ zs.length → (cs zs k).1.count false + sumT (cs zs k).2 = zs.length ∧ ∀ c ∈ (cs zs k).2, (1 : Int) ≤ c
  | 0, _ => by simp [cs, sumT]
  | k + 1, hk => by
    obtain ⟨h1, h2⟩ := cs_sum zs hz k (by omega)
    have hl := (cs_ok zs hz k (by omega)).1
    have h3 := wk_count zs (cs zs k).1 k hl _ (Nat.le_refl _)
    simp only [cs]
    split
    · rename_i h0
      rw [h0] at h3
      exact ⟨by rw [h0]; omega, h2⟩
    · refine ⟨by rw [sumT_snoc]; simp only [Int.toNat_natCast]; omega, fun c hc => ?_⟩
      rcases List.mem_append.1 hc with hc | hc
      · exact h2 c hc
      · simp at hc; omega
theorem cyc_bd (zs : List Int) (hz : inB zs) (hl : zs.length ≤ 81) : (∀ c ∈ cycL zs, (1 : Int) ≤ c) ∧ sumT (cycL zs) ≤ 81 ∧ (cycL zs).length ≤ 81 := by
  obtain ⟨h1, h2⟩ := cs_sum zs hz zs.length (Nat.le_refl _)
  have := (cs_ok zs hz zs.length (Nat.le_refl _)).2
  unfold cycL
  exact ⟨h2, by omega, by omega⟩
/-- All that a step of the order asks. -/
theorem ord_step (l : List Int) (hc : ∀ c ∈ l, (1 : Int) ≤ c) (hs : sumT l ≤ 81) (k : Nat) (hk : k < l.length) :
    1 ≤ ordL (l.take k) ∧ ordL (l.take k) ≤ 7625597484987 ∧ ∃ c : Nat, l[k] = (c : Int) ∧ 1 ≤ c ∧ c ≤ 81 ∧ ordL (l.take k) * c ≤ 7625597484987 ∧ ordL (l.take (k + 1)) = lcN (ordL (l.take k)) c := by
  have hck : (1 : Int) ≤ l[k] := hc _ (List.getElem_mem hk)
  obtain ⟨c, hcc⟩ := Int.eq_ofNat_of_zero_le (a := l[k]) (by omega)
  have hsum : ∀ a b : List Int, sumT (a ++ b) = sumT a + sumT b := fun a b => by simp [sumT]
  have e : l.take (k + 1) = l.take k ++ [l[k]] := by rw [List.take_add_one, List.getElem?_eq_getElem hk]; rfl
  have hs1 : sumT (l.take (k + 1)) ≤ 81 := by
    have := hsum (l.take (k + 1)) (l.drop (k + 1))
    rw [List.take_append_drop] at this
    omega
  have h1 := prod_bd _ hs1
  have h2 := ord_prod (l.take k) (fun x hx => hc x (List.mem_of_mem_take hx))
  rw [e, sumT_snoc, hcc, Int.toNat_natCast] at hs1
  rw [e, prodT_snoc, hcc, Int.toNat_natCast] at h1
  have h3 : ordL (l.take k) * c ≤ prodT (l.take k) * c := Nat.mul_le_mul_right _ h2.2
  have h4 : ordL (l.take k) ≤ ordL (l.take k) * c := Nat.le_mul_of_pos_right _ (by omega)
  have h5 : (3 : Nat) ^ 27 = 7625597484987 := by decide
  refine ⟨h2.1, by omega, c, hcc, by omega, by omega, by omega, ?_⟩
  rw [e, ordL_snoc, hcc, Int.toNat_natCast]
end Go.Proofs.Yticnpajbefflbaa
