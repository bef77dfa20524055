/- The normal word, as plain data; a list of one's own is cut. -/
import Derived.Test.YticnplcjjkilpaaTriG
import Derived.Test.YticnplcjjkilpaaArgs
import Derived.Test.YticnplcjjkilpaaLedM
import Derived.Test.YticnplcjjkilpaaMinH
import Derived.Test.YticnplcjjkilpaaGrpT
namespace Go.Proofs.Yticnplcjjkilpaa
open Go.RowKit

/-- The last number is struck: the block stays. -/
theorem ownI_cut {w : World} {base g cap : Nat} {zs : List Int} {z : Int} (h : OwnI w base (.slice (some ⟨g, 0, none⟩) (zs ++ [z]).length cap) (zs ++ [z])) : OwnI w base (.slice (some ⟨g, 0, none⟩) zs.length cap) zs := by
  rcases h.2 with ⟨e, _⟩ | ⟨g', cap', cur, e, hb, hh, hn, hm, hs, ht⟩
  · cases e
  · simp only [Value.slice.injEq, Option.some.injEq, Addr.mk.injEq] at e
    obtain ⟨⟨rfl, _⟩, _, rfl⟩ := e
    refine ⟨by simp, .inr ⟨g, cap, cur, rfl, hb, hh, ?_, hm, hs, ?_⟩⟩
    · simp at hn; omega
    · have h2 := congrArg (List.take zs.length) ht
      rw [List.take_take] at h2
      simp only [Nat.mul_one, List.map_append, List.length_append, List.length_singleton] at h2
      rw [show min zs.length (zs.length + 1) = zs.length from by omega] at h2
      rw [Nat.mul_one, h2]
      rw [List.take_append_of_le_length (by simp), List.take_of_length_le (by simp)]
theorem ownI_cap {w : World} {base g n cap : Nat} {zs : List Int} (h : OwnI w base (.slice (some ⟨g, 0, none⟩) n cap) zs) : zs.length ≤ cap := by
  rcases h.2 with ⟨e, _⟩ | ⟨g', cap', cur, e, hb, hh, hn, _⟩
  · cases e
  · simp only [Value.slice.injEq] at e
    rw [e.2.2]; exact hn
/-- The number to which a number of a group word is brought: 0 where its state is trivial. -/
def bring (M : Mach) (L S : Nat) (z : Int) : Int :=
  if trivB M L S (stOf z) then 0 else if z < 0 then -((lst M L (S + 1) (stOf z) : Int) + 1) else (lst M L (S + 1) (stOf z) : Int) + 1
/-- One number more. -/
def joinN (acc : List Int) (k : Int) : List Int := if k = 0 then acc else if acc.getLast? = some (-k) then acc.dropLast else acc ++ [k]
def normK (M : Mach) (L S : Nat) (zs : List Int) (k : Nat) : List Int := (zs.take k).foldl (fun acc z => joinN acc (bring M L S z)) []
theorem normK_succ (M : Mach) (L S : Nat) (zs : List Int) (k : Nat) (hk : k < zs.length) : normK M L S zs (k + 1) = joinN (normK M L S zs k) (bring M L S zs[k]) := by
  unfold normK
  rw [List.take_succ_eq_append_getElem hk, List.foldl_append]
  rfl
theorem joinN_len (acc : List Int) (k : Int) : (joinN acc k).length ≤ acc.length + 1 := by
  unfold joinN
  split
  · omega
  · split
    · simp; omega
    · simp
theorem normK_len (M : Mach) (L S : Nat) (zs : List Int) : ∀ k, k ≤ zs.length → (normK M L S zs k).length ≤ k
  | 0, _ => by simp [normK]
  | k + 1, hk => by
    rw [normK_succ M L S zs k (by omega)]
    have h1 := joinN_len (normK M L S zs k) (bring M L S zs[k])
    have h2 := normK_len M L S zs k (by omega)
    omega
end Go.Proofs.Yticnplcjjkilpaa

namespace Go.Proofs.Yticnplcjjkilpaa
open Go.RowKit

/-- What stands for the state q: 0 where it is trivial, or one more than the least equal state. -/
def nrm (M : Mach) (L S q : Nat) : Int := if trivB M L S q then 0 else (lst M L (S + 1) q : Int) + 1
theorem bring_nrm (M : Mach) (L S : Nat) (z : Int) : bring M L S z = if z < 0 then -(nrm M L S (stOf z)) else nrm M L S (stOf z) := by
  unfold bring nrm
  split <;> split <;> simp
def nrmP (M : Mach) (L S k : Nat) : List Int := (List.range 16).map fun q => if q < k then nrm M L S q else 0
theorem nrmP_len (M : Mach) (L S k : Nat) : (nrmP M L S k).length = 16 := by simp [nrmP]
theorem nrmP_zero (M : Mach) (L S : Nat) : nrmP M L S 0 = List.replicate 16 0 := rfl
theorem nrmP_at (M : Mach) (L S k q : Nat) (hq : q < k) (hk : k ≤ 16) : (nrmP M L S k).getD q 0 = nrm M L S q := by
  unfold nrmP
  rw [List.getD, List.getElem?_map, List.getElem?_range (by omega)]
  simp [hq]
theorem nrmP_set (M : Mach) (L S k : Nat) (v : Int) (hv : v = nrm M L S k) : (nrmP M L S k).set k v = nrmP M L S (k + 1) := by
  subst hv
  apply List.ext_getElem
  · simp [nrmP]
  · intro i h1 h2
    simp only [nrmP, List.getElem_set, List.getElem_map, List.getElem_range]
    by_cases h : k = i
    · subst h; simp
    · rw [if_neg h]
      by_cases h3 : i < k
      · rw [if_pos h3, if_pos (by omega)]
      · rw [if_neg h3, if_neg (by omega)]
theorem nrmP_same (M : Mach) (L S k : Nat) (h : nrm M L S k = 0) : nrmP M L S (k + 1) = nrmP M L S k := by
  unfold nrmP
  refine List.map_congr_left fun q hq => ?_
  by_cases h1 : q = k
  · subst h1; simp [h]
  · by_cases h2 : q < k
    · rw [if_pos h2, if_pos (by omega)]
    · rw [if_neg h2, if_neg (by omega)]
theorem nrm_bd {M : Mach} {L S : Nat} (q : Nat) (hq : q < 16) : 0 ≤ nrm M L S q ∧ nrm M L S q ≤ 16 := by
  have := (lst_at M L (S + 1) q).1
  unfold nrm
  split <;> omega

/-- The least state of each number, one more, behind the first k states; 0 where there is none. -/
def leaAt (M : Mach) (L S k n : Nat) : Int := match (List.range k).find? (fun q => decide (numT M L S q = n)) with
  | some q => (q : Int) + 1
  | none => 0
def leaK (M : Mach) (L S k : Nat) : List Int := (List.range 16).map fun n => leaAt M L S k n
theorem leaK_len (M : Mach) (L S k : Nat) : (leaK M L S k).length = 16 := by simp [leaK]
theorem leaK_zero (M : Mach) (L S : Nat) : leaK M L S 0 = List.replicate 16 0 := rfl
theorem leaK_at (M : Mach) (L S k n : Nat) (hn : n < 16) : (leaK M L S k).getD n 0 = leaAt M L S k n := by
  unfold leaK
  rw [List.getD, List.getElem?_map, List.getElem?_range hn]
  rfl
theorem leaAt_succ (M : Mach) (L S k n : Nat) : leaAt M L S (k + 1) n = if leaAt M L S k n = 0 then (if numT M L S k = n then (k : Int) + 1 else 0) else leaAt M L S k n := by
  unfold leaAt
  rw [List.range_succ, List.find?_append]
  cases h : (List.range k).find? (fun q => decide (numT M L S q = n)) with
  | none =>
    by_cases h2 : numT M L S k = n
    · simp [h2]
    · simp [h2]
  | some q =>
    have h1 : ((q : Int) + 1 = 0) = False := by simp; omega
    simp only [Option.some_or, h1, if_false]
theorem leaAt_now (M : Mach) (L S k : Nat) : leaAt M L S (k + 1) (numT M L S k) = (lst M L (S + 1) k : Int) + 1 := by
  have hp : (fun q => decide (numT M L S q = numT M L S k)) = (fun r => eqB M L (S + 1) k r) := by
    funext r
    rw [Bool.eq_iff_iff, decide_eq_true_eq, numT_eqB]
    exact ⟨eqB_symm _ _ _ _ _, eqB_symm _ _ _ _ _⟩
  unfold leaAt lst
  rw [List.range_succ, List.find?_append, hp]
  cases h : (List.range k).find? (fun r => eqB M L (S + 1) k r) with
  | none => simp [eqB_refl]
  | some q => simp
/-- The number has been met: nothing changes. -/
theorem leaK_met {M : Mach} {L S k : Nat} (h : leaAt M L S k (numT M L S k) ≠ 0) : leaK M L S (k + 1) = leaK M L S k := by
  unfold leaK
  refine List.map_congr_left fun n _ => ?_
  rw [leaAt_succ]
  by_cases h1 : leaAt M L S k n = 0
  · rw [if_pos h1, if_neg (fun e => h (by rw [e]; exact h1)), h1]
  · rw [if_neg h1]
theorem leaK_new {M : Mach} {L S k : Nat} (h : leaAt M L S k (numT M L S k) = 0) : (leaK M L S k).set (numT M L S k) ((k : Int) + 1) = leaK M L S (k + 1) := by
  apply List.ext_getElem
  · simp [leaK]
  · intro i h1 h2
    simp only [leaK, List.getElem_set, List.getElem_map, List.getElem_range, leaAt_succ]
    by_cases e : numT M L S k = i
    · subst e; simp [h]
    · rw [if_neg e, if_neg e]
      split
      · rename_i h3; exact h3
      · rfl
/-- The normal word. -/
def normR (M : Mach) (zs : List Int) : List Int := if isGrp M zs then normK M M.L.toNat M.S.toNat zs zs.length else []
theorem normR_len (M : Mach) (zs : List Int) : (normR M zs).length ≤ 1048576 := by
  unfold normR
  split
  · rename_i h
    have h1 := normK_len M M.L.toNat M.S.toNat zs zs.length (Nat.le_refl _)
    have h2 := isGrp_len h
    omega
  · simp
end Go.Proofs.Yticnplcjjkilpaa
