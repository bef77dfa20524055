/- Orbits as the model finds them, marked words; the answers of 'LevelOrbits' and 'IsTransitiveLevel': plain data. -/
import Derived.Test.YticnpajbefflbabTrR
import Derived.Test.YticnpajbefflbabFxS
import Derived.Test.YticnpajbefflbabCyc
namespace Go.Proofs.Yticnpajbefflbab
open Go.RowKit

def anyO (zss : List (List Int)) (x : Nat) : Bool := zss.any fun o => decide ((x : Int) ∈ o)
/-- The words that some of the orbits hold. -/
def metL (zss : List (List Int)) (N : Nat) : List Bool := (List.range N).map fun x => anyO zss x
/-- These, and the first i words of a tree. -/
def metP (zss : List (List Int)) (T : List Ent) (N i : Nat) : List Bool := (List.range N).map fun x => anyO zss x || (decide (x < i) && decide (x ∈ wds T))
theorem metL_len (zss : List (List Int)) (N : Nat) : (metL zss N).length = N := by simp [metL]
theorem metP_len (zss : List (List Int)) (T : List Ent) (N i : Nat) : (metP zss T N i).length = N := by simp [metP]
theorem metL_at (zss : List (List Int)) (N x : Nat) (hx : x < N) : (metL zss N).getD x true = anyO zss x := by
  simp [metL, List.getD, List.getElem?_map, List.getElem?_range hx]
theorem metL_nil (N : Nat) : metL [] N = List.replicate N false := by simp [metL, anyO, List.map_const']
theorem metP_zero (zss : List (List Int)) (T : List Ent) (N : Nat) : metP zss T N 0 = metL zss N := by simp [metP, metL]
theorem metP_in (zss : List (List Int)) (T : List Ent) (N i : Nat) (hm : i ∈ wds T) : (metP zss T N i).set i true = metP zss T N (i + 1) := by
  apply List.ext_getElem
  · simp [metP]
  · intro j h1 h2
    simp only [metP, List.getElem_set, List.getElem_map, List.getElem_range]
    by_cases h : i = j
    · subst h
      rw [if_pos rfl]
      simp [hm]
    · rw [if_neg h]
      congr 2
      exact decide_eq_decide.2 ⟨fun _ => by omega, fun _ => by omega⟩
theorem metP_out (zss : List (List Int)) (T : List Ent) (N i : Nat) (hm : i ∉ wds T) : metP zss T N (i + 1) = metP zss T N i := by
  apply List.ext_getElem
  · simp [metP]
  · intro j h1 h2
    simp only [metP, List.getElem_map, List.getElem_range]
    by_cases h : i = j
    · subst h
      simp [hm]
    · congr 2
      exact decide_eq_decide.2 ⟨fun _ => by omega, fun _ => by omega⟩
theorem orbL_mem (T : List Ent) (N x : Nat) (hx : x < N) : (x : Int) ∈ orbL T N ↔ x ∈ wds T := by
  unfold orbL
  simp only [List.mem_map, List.mem_filter, List.mem_range, decide_eq_true_eq]
  constructor
  · rintro ⟨y, ⟨_, hy⟩, e⟩
    have : y = x := by omega
    subst this
    exact hy
  · intro h
    exact ⟨x, ⟨hx, h⟩, rfl⟩
theorem metP_all (zss : List (List Int)) (T : List Ent) (N : Nat) : metP zss T N N = metL (zss ++ [orbL T N]) N := by
  unfold metP metL
  refine List.map_congr_left fun x hx => ?_
  have hx' := List.mem_range.1 hx
  unfold anyO
  rw [List.any_append]
  simp only [List.any_cons, List.any_nil, Bool.or_false]
  have e : decide ((x : Int) ∈ orbL T N) = decide (x ∈ wds T) := decide_eq_decide.2 (orbL_mem T N x hx')
  rw [e]
  simp [hx']
theorem orbL_zero (T : List Ent) : orbL T 0 = [] := by simp [orbL]
theorem orbsL_succ (Ps : List (Int × List Int)) (N k : Nat) : orbsL Ps N (k + 1) = if anyO (orbsL Ps N k) k then orbsL Ps N k else orbsL Ps N k ++ [orbL (treeT Ps N k) N] := rfl

/-! ### The answers -/
def grPs (M : Mach) (n : Nat) : List (Int × List Int) := fwd M M.L.toNat n M.S.toNat ++ bwd M M.L.toNat M.S.toNat n M.S.toNat
def loR (M : Mach) (n : Int) : List (List Int) := if gC M n [] = 0 then orbsL (grPs M n.toNat) (M.L.toNat ^ n.toNat) (M.L.toNat ^ n.toNat) else []
def tlR (M : Mach) (n : Int) : Bool := if gC M n [] = 0 then decide ((orbsL (grPs M n.toNat) (M.L.toNat ^ n.toNat) (M.L.toNat ^ n.toNat)).length = 1) else false
theorem loR_good {M : Mach} {L S nn : Nat} (hg : Good M L S) (h : gC M nn [] = 0) : loR M nn = orbsL (fwd M L nn S ++ bwd M L S nn S) (L ^ nn) (L ^ nn) := by
  unfold loR grPs
  rw [if_pos h, hg.hL, hg.hS]
  rfl
theorem tlR_good {M : Mach} {L S nn : Nat} (hg : Good M L S) (h : gC M nn [] = 0) : tlR M nn = decide ((orbsL (fwd M L nn S ++ bwd M L S nn S) (L ^ nn) (L ^ nn)).length = 1) := by
  unfold tlR grPs
  rw [if_pos h, hg.hL, hg.hS]
  rfl
theorem offs_le (zss : List (List Int)) (B : Nat) (h : ∀ z ∈ zss, z.length ≤ B) : ∀ j, offs zss j ≤ j * B
  | 0 => by rw [offs_zero]; omega
  | j + 1 => by
    have ih := offs_le zss B h j
    have e : (j + 1) * B = j * B + B := by rw [Nat.add_mul, Nat.one_mul]
    by_cases hj : j < zss.length
    · have := h _ (List.getElem_mem hj)
      rw [offs_succ _ _ hj, e]
      omega
    · have : offs zss (j + 1) = offs zss j := by
        unfold offs
        rw [List.take_of_length_le (by omega), List.take_of_length_le (by omega)]
      rw [this, e]
      omega
theorem loR_len (M : Mach) (hok : M.Ok) (n : Int) : (loR M n).length ≤ 100000 ∧ offs (loR M n) (loR M n).length ≤ 100000 := by
  by_cases h : gC M n [] = 0
  · obtain ⟨L, S, nn, hg, rfl, hn⟩ := gC_good hok h
    rw [loR_good hg h]
    have h2 := hg.L2
    have hN : L ^ nn ≤ 243 := pow_le L nn hg.L3 (by omega)
    have h1 := orbsL_len (fwd M L nn S ++ bwd M L S nn S) (L ^ nn) (L ^ nn)
    have h3 := offs_le _ 243 (fun z hz => Nat.le_trans (orbsL_each (fwd M L nn S ++ bwd M L S nn S) (L ^ nn) (L ^ nn) z hz) hN) (orbsL (fwd M L nn S ++ bwd M L S nn S) (L ^ nn) (L ^ nn)).length
    refine ⟨by omega, Nat.le_trans h3 ?_⟩
    have : (orbsL (fwd M L nn S ++ bwd M L S nn S) (L ^ nn) (L ^ nn)).length * 243 ≤ 243 * 243 := Nat.mul_le_mul_right _ (by omega)
    omega
  · unfold loR
    rw [if_neg h]
    simp [offs]
end Go.Proofs.Yticnpajbefflbab
