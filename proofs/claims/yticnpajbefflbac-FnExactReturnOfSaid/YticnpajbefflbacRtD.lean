/- Cycles of a letter: plain data. -/
import Derived.Test.YticnpajbefflbacPwD
import Derived.Test.YticnpajbefflbacWrS
import Derived.Test.YticnpajbefflbacNorW
namespace Go.Proofs.Yticnpajbefflbac
open Go.RowKit

/-- A letter led again and again. -/
def itN (f : Nat → Nat) (x : Nat) : Nat → Nat
  | 0 => x
  | k + 1 => f (itN f x k)
/-- How many letters its cycle has (where letters are 0, 1, 2 and f is injective on what there is). -/
def cyN (f : Nat → Nat) (x : Nat) : Nat := if f x = x then 1 else if f (f x) = x then 2 else 3
def cyL (f : Nat → Nat) (x k : Nat) : List Nat := (List.range k).map (itN f x)
theorem cyL_len (f : Nat → Nat) (x k : Nat) : (cyL f x k).length = k := by simp [cyL]
theorem cyL_succ (f : Nat → Nat) (x k : Nat) : cyL f x (k + 1) = cyL f x k ++ [itN f x k] := by simp [cyL, List.range_succ]
theorem cyL_at (f : Nat → Nat) (x k j : Nat) (h : j < k) : (cyL f x k)[j]'(by rw [cyL_len]; exact h) = itN f x j := by simp [cyL]
theorem cyN_bd (f : Nat → Nat) (x : Nat) : 1 ≤ cyN f x ∧ cyN f x ≤ 3 := by
  unfold cyN; split
  · omega
  · split <;> omega
section
variable {f : Nat → Nat} {L x : Nat} (hL : L ≤ 3) (hlt : ∀ y, y < L → f y < L) (hin : ∀ y z, y < L → z < L → f y = f z → y = z) (hx : x < L)
include hlt hx
theorem itN_lt (k : Nat) : itN f x k < L := by
  induction k with
  | zero => exact hx
  | succ k ih => exact hlt _ ih
include hL hin
/-- The cycle is closed behind its last letter, and not before. -/
theorem cyN_step (k : Nat) (h1 : 1 ≤ k) (h : k ≤ cyN f x) : itN f x k = x ↔ k = cyN f x := by
  have ha := hlt x hx
  have hb := hlt _ ha
  have hc := hlt _ hb
  unfold cyN at *
  have e1 : itN f x 1 = f x := rfl
  have e2 : itN f x 2 = f (f x) := rfl
  have e3 : itN f x 3 = f (f (f x)) := rfl
  by_cases h2 : f x = x
  · rw [if_pos h2] at *
    obtain rfl : k = 1 := by omega
    rw [e1]; simp [h2]
  · rw [if_neg h2] at *
    by_cases h3 : f (f x) = x
    · rw [if_pos h3] at *
      rcases (by omega : k = 1 ∨ k = 2) with rfl | rfl
      · rw [e1]; simp [h2]
      · rw [e2]; simp [h3]
    · rw [if_neg h3] at *
      have n1 : f (f x) ≠ f x := fun e => h2 (hin _ _ ha hx e)
      have n2 : f (f (f x)) ≠ f (f x) := fun e => n1 (hin _ _ hb ha e)
      have n3 : f (f (f x)) ≠ f x := fun e => h3 (hin _ _ hb hx e)
      rcases (by omega : k = 1 ∨ k = 2 ∨ k = 3) with rfl | rfl | rfl
      · rw [e1]; simp [h2]
      · rw [e2]; simp [h3]
      · rw [e3]; simp; omega
end
/-- The image of a letter, its cycle, the sections along it. -/
def imN (M : Mach) (zs : List Int) (x : Nat) : Nat := (ledG M zs x).1
def rdK (M : Mach) (zs : List Int) (x : Nat) : Nat → List Int
  | 0 => []
  | k + 1 => rdK M zs x k ++ (ledG M zs (itN (imN M zs) x k)).2
theorem imN_lt {M : Mach} {L S : Nat} (hg : Good M L S) {zs : List Int} (hz : numsOk S zs = true) (y : Nat) (hy : y < L) : imN M zs y < L := (ledG_all hg zs hz y hy).1
theorem imN_inj {M : Mach} {L S : Nat} (hg : Good M L S) {zs : List Int} (hz : numsOk S zs = true) (y z : Nat) (hy : y < L) (hz' : z < L) (e : imN M zs y = imN M zs z) : y = z := ledG_inj hg zs hz y z hy hz' e
theorem rdK_len {M : Mach} {L S : Nat} (hg : Good M L S) {zs : List Int} (hz : numsOk S zs = true) {x : Nat} (hx : x < L) (k : Nat) : (rdK M zs x k).length = k * zs.length ∧ numsOk S (rdK M zs x k) = true := by
  induction k with
  | zero => simp [rdK, numsOk]
  | succ k ih =>
    have h := ledG_all hg zs hz (itN (imN M zs) x k) (itN_lt (imN_lt hg hz) hx k)
    refine ⟨?_, ?_⟩
    · rw [rdK, List.length_append, ih.1, h.2.1, Nat.succ_mul]
    · have h2 := h.2.2
      have h3 := ih.2
      unfold numsOk at *
      rw [rdK, List.all_append, h3, h2]; rfl
/-- What 'ReturnOf' answers. -/
def rtC (M : Mach) (zs : List Int) (x : Int) : Int := if isGrp M zs = true then (if 0 ≤ x ∧ x < M.L then (if 40 < cyN (imN M zs) x.toNat * zs.length then 3 else 0) else 2) else 1
def rtW (M : Mach) (zs : List Int) (x : Int) : List Int := if rtC M zs x = 0 then normK M M.L.toNat M.S.toNat (rdK M zs x.toNat (cyN (imN M zs) x.toNat)) (rdK M zs x.toNat (cyN (imN M zs) x.toNat)).length else []
def rtN (M : Mach) (zs : List Int) (x : Int) : Int := if rtC M zs x = 0 then (cyN (imN M zs) x.toNat : Int) else 0
end Go.Proofs.Yticnpajbefflbac
