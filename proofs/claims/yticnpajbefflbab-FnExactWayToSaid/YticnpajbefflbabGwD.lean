/- Distances, ways and diameters in trees of words: plain data. -/
import Derived.Test.YticnpajbefflbabFxS
import Derived.Test.YticnpajbefflbabTrL
namespace Go.Proofs.Yticnpajbefflbab
open Go.RowKit

/-! ### Distances do not fall along a queue -/
def srtd (T : List Ent) : Prop := ∀ a b, a ≤ b → b < T.length → (entAt T a).dist ≤ (entAt T b).dist
def nearT (T : List Ent) (i : Nat) : Prop := ∀ b, b < T.length → (entAt T b).dist ≤ (entAt T i).dist + 1
theorem addT_srt {T : List Ent} {i : Nat} (p : Int × List Int) (hi : i < T.length) (h : srtd T) (hb : nearT T i) : srtd (addT i T p) ∧ nearT (addT i T p) i ∧ T.length ≤ (addT i T p).length := by
  unfold addT
  split
  · exact ⟨h, hb, Nat.le_refl _⟩
  · refine ⟨fun a b hab hbl => ?_, fun b hbl => ?_, by simp⟩
    · by_cases hb1 : b < T.length
      · rw [entAt_left hb1, entAt_left (by omega)]; exact h a b hab hb1
      · have : b = T.length := by simp at hbl; omega
        subst this
        rw [entAt_last]
        by_cases ha : a < T.length
        · rw [entAt_left ha]; exact hb a ha
        · have : a = T.length := by omega
          subst this
          rw [entAt_last]
          exact Nat.le_refl _
    · rw [entAt_left hi]
      by_cases hb1 : b < T.length
      · rw [entAt_left hb1]; exact hb b hb1
      · have : b = T.length := by simp at hbl; omega
        subst this
        rw [entAt_last]
        exact Nat.le_refl _
theorem visT_srt (ps : List (Int × List Int)) {T : List Ent} {i : Nat} (hi : i < T.length) (h : srtd T) (hb : nearT T i) : ∀ j, j ≤ ps.length → srtd (visT ps i T j) ∧ nearT (visT ps i T j) i ∧ T.length ≤ (visT ps i T j).length
  | 0, _ => by
    have e : visT ps i T 0 = T := by simp [visT]
    rw [e]
    exact ⟨h, hb, Nat.le_refl _⟩
  | j + 1, hj => by
    obtain ⟨h1, h2, h3⟩ := visT_srt ps hi h hb j (by omega)
    rw [visT_succ ps i T j (by omega)]
    obtain ⟨a1, a2, a3⟩ := addT_srt (ps[j]'(by omega)) (show i < (visT ps i T j).length by omega) h1 h2
    exact ⟨a1, a2, by omega⟩
theorem growT_srt (ps : List (Int × List Int)) : ∀ f i T, srtd T → (i < T.length → nearT T i) → srtd (growT ps f i T)
  | 0, _, _, h, _ => h
  | f + 1, i, T, h, hb => by
    unfold growT
    split
    · rename_i hi
      obtain ⟨h1, h2, h3⟩ := visT_srt ps hi h (hb hi) ps.length (Nat.le_refl _)
      refine growT_srt ps f (i + 1) _ h1 fun hi1 b hbl => ?_
      have := h2 b hbl
      have := h1 i (i + 1) (by omega) hi1
      omega
    · exact h
theorem treeT_srt (ps : List (Int × List Int)) (N k : Nat) : srtd (treeT ps N k) :=
  growT_srt ps (N + 1) 0 _ (fun a b hab hb => by
    have h1 : b = 0 := by simp at hb; omega
    have h2 : a = 0 := by omega
    rw [h1, h2]
    exact Nat.le_refl _) (fun _ b hb => by
    have h1 : b = 0 := by simp at hb; omega
    rw [h1]
    omega)
theorem treeT_pos (ps : List (Int × List Int)) (N k : Nat) : 0 < (treeT ps N k).length :=
  Nat.lt_of_lt_of_le (by simp) (grow_more ps (N + 1) 0 [⟨k, 0, 0, 0⟩])
def lastD (T : List Ent) : Nat := (entAt T (T.length - 1)).dist
/-- The greatest of a number and the distances of the first i words. -/
def mxF (N : Nat) (T : List Ent) (d : Int) : Nat → Int
  | 0 => d
  | i + 1 => max (mxF N T d i) ((distL N T).getD i 0)
theorem full_all {N : Nat} {T : List Ent} (h : TOk N T) (hf : N ≤ T.length) (x : Nat) (hx : x < N) : x ∈ wds T := by
  by_cases hm : x ∈ wds T
  · exact hm
  · exfalso
    have hd : (x :: wds T).Nodup := List.nodup_cons.2 ⟨hm, h.nodup⟩
    have h1 := few_below N (x :: wds T) hd fun y hy => by
      rcases List.mem_cons.1 hy with rfl | hy
      · exact hx
      · obtain ⟨e, he, rfl⟩ := List.mem_map.1 hy
        exact h.lt e he
    rw [List.length_cons] at h1
    unfold wds at h1
    rw [List.length_map] at h1
    omega
theorem nodup_len : ∀ (l m : List Nat), l.Nodup → (∀ x ∈ l, x ∈ m) → l.length ≤ m.length
  | [], _, _, _ => Nat.zero_le _
  | a :: l, m, hd, h => by
    have h1 := nodup_len l (m.erase a) (List.nodup_cons.1 hd).2 (fun x hx => (List.mem_erase_of_ne (fun (e : x = a) => (List.nodup_cons.1 hd).1 (by rw [← e]; exact hx))).2 (h x (List.mem_cons_of_mem _ hx)))
    have h2 : a ∈ m := h a (List.mem_cons_self ..)
    rw [List.length_erase_of_mem h2] at h1
    have := List.length_pos_of_mem h2
    rw [List.length_cons]
    omega
theorem not_full {N : Nat} {T : List Ent} (hf : T.length < N) : ∃ x, x < N ∧ x ∉ wds T := by
  by_cases hx : ∃ x, x < N ∧ x ∉ wds T
  · exact hx
  · exfalso
    have hall : ∀ x, x < N → x ∈ wds T := fun x h1 => by
      by_cases hm : x ∈ wds T
      · exact hm
      · exact absurd ⟨x, h1, hm⟩ hx
    have := nodup_len (List.range N) (wds T) List.nodup_range (fun x h1 => hall x (List.mem_range.1 h1))
    unfold wds at this
    rw [List.length_map, List.length_range] at this
    omega
theorem distL_get {N : Nat} {T : List Ent} (x : Nat) (hx : x < N) : (distL N T).getD x 0 = if x ∈ wds T then ((entAt T ((wds T).idxOf x)).dist : Int) else -1 := by
  simp only [distL, mapL, List.getD, List.getElem?_map, List.getElem?_range hx, Option.map_some, Option.getD_some]
  rfl
theorem idx_lt {T : List Ent} {x : Nat} (h : x ∈ wds T) : (wds T).idxOf x < T.length := by
  have := List.idxOf_lt_length_of_mem h
  unfold wds at this ⊢
  rw [List.length_map] at this
  exact this
theorem mxF_ge (N : Nat) (T : List Ent) (d : Int) : ∀ i, d ≤ mxF N T d i ∧ ∀ x, x < i → (distL N T).getD x 0 ≤ mxF N T d i
  | 0 => ⟨Int.le_refl _, fun x h => absurd h (by omega)⟩
  | i + 1 => by
    obtain ⟨h1, h2⟩ := mxF_ge N T d i
    simp only [mxF]
    refine ⟨by omega, fun x hx => ?_⟩
    by_cases h : x = i
    · subst h; omega
    · have := h2 x (by omega)
      omega
theorem mxF_le (N : Nat) (T : List Ent) (d B : Int) (hd : d ≤ B) (hB : ∀ x, x < N → (distL N T).getD x 0 ≤ B) : ∀ i, i ≤ N → mxF N T d i ≤ B
  | 0, _ => hd
  | i + 1, hi => by
    have h1 := mxF_le N T d B hd hB i (by omega)
    have h2 := hB i (by omega)
    simp only [mxF]
    omega
theorem mxF_full {N : Nat} {T : List Ent} (h : TOk N T) (hs : srtd T) (h0 : 0 < T.length) (d : Int) : mxF N T d N = max d (lastD T) := by
  have hb := mxF_le N T d (max d (lastD T)) (by omega) (fun x hx => by
    rw [distL_get x hx]
    split
    · rename_i hm
      have hi := idx_lt hm
      have := hs ((wds T).idxOf x) (T.length - 1) (by omega) (by omega)
      unfold lastD
      omega
    · omega) N (Nat.le_refl _)
  obtain ⟨g1, g2⟩ := mxF_ge N T d N
  have hl : (entAt T (T.length - 1)).word < N := h.lt _ (entAt_mem (by omega))
  have g3 := g2 _ hl
  have hm : (entAt T (T.length - 1)).word ∈ wds T := List.mem_map.2 ⟨_, entAt_mem (by omega), rfl⟩
  rw [distL_get _ hl, if_pos hm, idx_at h _ (by omega)] at g3
  unfold lastD at *
  omega
/-- The greatest distance among the trees of the first k words; none if one of them lacks words. -/
def diaK (Ps : List (Int × List Int)) (N : Nat) : Nat → Option Nat
  | 0 => some 0
  | k + 1 => match diaK Ps N k with | none => none | some d => if (treeT Ps N k).length < N then none else some (max d (lastD (treeT Ps N k)))
theorem diaK_none (Ps : List (Int × List Int)) (N k : Nat) (h : diaK Ps N k = none) : ∀ j, diaK Ps N (k + j) = none
  | 0 => h
  | j + 1 => by
    show diaK Ps N ((k + j) + 1) = none
    simp only [diaK, diaK_none Ps N k h j]
theorem diaK_stop (Ps : List (Int × List Int)) (N k : Nat) (hk : k < N) (h : (treeT Ps N k).length < N) : diaK Ps N N = none := by
  have h1 : diaK Ps N (k + 1) = none := by
    simp only [diaK]
    split
    · rfl
    · rw [if_pos h]
  have := diaK_none Ps N (k + 1) h1 (N - (k + 1))
  rwa [show k + 1 + (N - (k + 1)) = N from by omega] at this
theorem diaK_next (Ps : List (Int × List Int)) (N k d : Nat) (hd : diaK Ps N k = some d) (h : ¬ (treeT Ps N k).length < N) : diaK Ps N (k + 1) = some (max d (lastD (treeT Ps N k))) := by
  simp only [diaK, hd]
  rw [if_neg h]

/-! ### Ways -/
def wayF (T : List Ent) : Nat → Nat → List Int
  | 0, _ => []
  | f + 1, i => if i = 0 then [] else wayF T f (entAt T i).par ++ [(entAt T i).step]
def wayL (T : List Ent) (i : Nat) : List Int := wayF T i i
theorem wayF_more {N : Nat} {T : List Ent} (h : TOk N T) : ∀ f i, i ≤ f → i < T.length → wayF T f i = wayF T i i
  | 0, i, hf, _ => by rw [show i = 0 from by omega]
  | f + 1, i, hf, hi => by
    by_cases h0 : i = 0
    · subst h0
      simp [wayF]
    · obtain ⟨j, rfl⟩ : ∃ j, i = j + 1 := ⟨i - 1, by omega⟩
      have hp := h.par (j + 1) (by omega) hi
      show (if j + 1 = 0 then [] else wayF T f (entAt T (j + 1)).par ++ [(entAt T (j + 1)).step]) = (if j + 1 = 0 then [] else wayF T j (entAt T (j + 1)).par ++ [(entAt T (j + 1)).step])
      rw [if_neg h0, if_neg h0, wayF_more h f _ (by omega) (by omega), wayF_more h j _ (by omega) (by omega)]
theorem wayL_zero (T : List Ent) : wayL T 0 = [] := rfl
theorem wayL_next {N : Nat} {T : List Ent} (h : TOk N T) (i : Nat) (h0 : i ≠ 0) (hi : i < T.length) : wayL T i = wayL T (entAt T i).par ++ [(entAt T i).step] := by
  obtain ⟨j, rfl⟩ : ∃ j, i = j + 1 := ⟨i - 1, by omega⟩
  have hp := h.par (j + 1) (by omega) hi
  show (if j + 1 = 0 then [] else wayF T j (entAt T (j + 1)).par ++ [(entAt T (j + 1)).step]) = _
  rw [if_neg h0, wayF_more h j _ (by omega) (by omega)]
  rfl
theorem wayL_len {N : Nat} {T : List Ent} (h : TOk N T) : ∀ f i, i ≤ f → i < T.length → (wayL T i).length ≤ i
  | 0, i, hf, _ => by rw [show i = 0 from by omega]; exact Nat.le_refl _
  | f + 1, i, hf, hi => by
    by_cases h0 : i = 0
    · subst h0; exact Nat.le_refl _
    · have hp := h.par i (by omega) hi
      have ih := wayL_len h f (entAt T i).par (by omega) (by omega)
      rw [wayL_next h i h0 hi, List.length_append, List.length_singleton]
      omega

/-! ### The answers -/
theorem gC_words {M : Mach} {n : Int} {ks : List Int} (hok : M.Ok) (h : gC M n ks = 0) : ∃ (L S nn : Nat), Good M L S ∧ n = (nn : Int) ∧ nn + L ≤ 7 ∧ ∀ k ∈ ks, ∃ kk : Nat, k = (kk : Int) ∧ kk < L ^ nn := by
  obtain ⟨L, S, nn, hg, rfl, hn⟩ := gC_good hok h
  refine ⟨L, S, nn, hg, rfl, hn, fun k hk => ?_⟩
  unfold gC at h
  cases hm : isMach M
  · rw [hm] at h; simp at h
  · rw [if_pos hm] at h
    cases hl : gLev M nn
    · rw [hl] at h; simp at h
    · cases hi : inK (M.L.toNat ^ (nn : Int).toNat) ks
      · rw [hl, hi] at h; simp at h
      · unfold inK at hi
        rw [List.all_eq_true] at hi
        have := hi k hk
        simp only [Bool.and_eq_true, decide_eq_true_eq] at this
        rw [hg.hL, Int.toNat_natCast, Int.toNat_natCast] at this
        obtain ⟨kk, rfl⟩ := Int.eq_ofNat_of_zero_le this.1
        exact ⟨kk, rfl, by omega⟩
def grQs (M : Mach) (n : Nat) : List (Int × List Int) := fwd M M.L.toNat n M.S.toNat ++ bwd M M.L.toNat M.S.toNat n M.S.toNat
def trOf (M : Mach) (n k : Int) : List Ent := treeT (grQs M n.toNat) (M.L.toNat ^ n.toNat) k.toNat
def dfL (M : Mach) (n k : Int) : List Int := if gC M n [k] = 0 then distL (M.L.toNat ^ n.toNat) (trOf M n k) else []
def wyC (M : Mach) (n k l : Int) : Int := if gC M n [k, l] = 0 then (if l.toNat ∈ wds (trOf M n k) then 0 else 5) else gC M n [k, l]
def wyR (M : Mach) (n k l : Int) : List Int := if gC M n [k, l] = 0 ∧ l.toNat ∈ wds (trOf M n k) then wayL (trOf M n k) ((wds (trOf M n k)).idxOf l.toNat) else []
def diO (M : Mach) (n : Int) : Option Nat := diaK (grQs M n.toNat) (M.L.toNat ^ n.toNat) (M.L.toNat ^ n.toNat)
def diR (M : Mach) (n : Int) : Int := if gC M n [] = 0 then (match diO M n with | some d => (d : Int) | none => 0) else 0
def diC (M : Mach) (n : Int) : Int := if gC M n [] = 0 then (match diO M n with | some _ => 0 | none => 5) else gC M n []
theorem trOf_good {M : Mach} {L S nn kk : Nat} (hg : Good M L S) : trOf M nn kk = treeT (fwd M L nn S ++ bwd M L S nn S) (L ^ nn) kk := by
  unfold trOf grQs
  rw [hg.hL, hg.hS]
  rfl
theorem dfL_good {M : Mach} {L S nn kk : Nat} (hg : Good M L S) (h : gC M nn [(kk : Int)] = 0) : dfL M nn kk = distL (L ^ nn) (treeT (fwd M L nn S ++ bwd M L S nn S) (L ^ nn) kk) := by
  unfold dfL
  rw [if_pos h, trOf_good hg, hg.hL]
  rfl
theorem dfL_len (M : Mach) (hok : M.Ok) (n k : Int) : (dfL M n k).length ≤ 1048576 := by
  by_cases h : gC M n [k] = 0
  · obtain ⟨L, S, nn, hg, rfl, hn, hk⟩ := gC_words hok h
    obtain ⟨kk, rfl, hkk⟩ := hk k (by simp)
    rw [dfL_good hg h, distL_len]
    have h2 := hg.L2
    have := pow_le L nn hg.L3 (by omega)
    omega
  · unfold dfL
    rw [if_neg h]
    simp
theorem diO_good {M : Mach} {L S nn : Nat} (hg : Good M L S) : diO M nn = diaK (fwd M L nn S ++ bwd M L S nn S) (L ^ nn) (L ^ nn) := by
  unfold diO grQs
  rw [hg.hL, hg.hS]
  rfl
end Go.Proofs.Yticnpajbefflbab
