/- Products and inverses of permutations of letters: plain data; the program's small methods. -/
import Derived.Test.YtgeihpaealomkaaPcE
import Derived.Test.YtgeihpaealomkaaRgA
import Derived.Test.YtgeihpaealomkaaLevM
import Derived.Test.YtgeihpaealomkaaPnR
namespace Go.Proofs.Ytgeihpaealomkaa
open Go.RowKit

def thenR (p q : List Int) : List Int := p.map fun y => q.getD y.toNat 0
def numR (d : Nat) (row : List Int) : Int := pnN (fillP (rowF row) d d)
def mulN (d a b : Nat) : Nat := (numR d (thenR (pRow d a) (pRow d b))).toNat
/-- The inverse, letter for letter. -/
def backR (p : List Int) : List Int := (List.range 3).map (fun x : Nat => ((p.idxOf (x : Int) : Nat) : Int))
def invN (d a : Nat) : Nat := (numR d (backR (pRow d a))).toNat
/-- What the model's loops make. -/
def mulM (d a b : Nat) : List Int := (List.range 3).map fun x => if x < d then (sRow d b).getD ((sRow d a).getD x 0).toNat 0 else 0
def invM3 (d a : Nat) : List Int := (List.range 3).map fun x => if x < d then ((((List.range d).find? fun y => decide ((sRow d a).getD y 0 = (x : Int))).getD 0 : Nat) : Int) else 0
theorem mul_facts (d a b : Nat) (hd : d = 2 ∨ d = 3) (ha : a < cN d) (hb : b < cN d) :
    numR d (thenR (pRow d a) (pRow d b)) = (mulN d a b : Int) ∧ mulN d a b < cN d ∧ sRow d (mulN d a b) = mulM d a b ∧ (∀ j, j < mulN d a b → sRow d j ≠ mulM d a b) ∧ (thenR (pRow d a) (pRow d b)).length = 3 ∧ ∀ j, j < 3 → 0 ≤ (thenR (pRow d a) (pRow d b)).getD j 0 ∧ (thenR (pRow d a) (pRow d b)).getD j 0 ≤ 2 := by
  have h2 : ∀ a, a < 2 → ∀ b, b < 2 → numR 2 (thenR (pRow 2 a) (pRow 2 b)) = (mulN 2 a b : Int) ∧ mulN 2 a b < 2 ∧ sRow 2 (mulN 2 a b) = mulM 2 a b ∧ (∀ j, j < mulN 2 a b → sRow 2 j ≠ mulM 2 a b) ∧ (thenR (pRow 2 a) (pRow 2 b)).length = 3 ∧ ∀ j, j < 3 → 0 ≤ (thenR (pRow 2 a) (pRow 2 b)).getD j 0 ∧ (thenR (pRow 2 a) (pRow 2 b)).getD j 0 ≤ 2 := by decide +kernel
  have h3 : ∀ a, a < 6 → ∀ b, b < 6 → numR 3 (thenR (pRow 3 a) (pRow 3 b)) = (mulN 3 a b : Int) ∧ mulN 3 a b < 6 ∧ sRow 3 (mulN 3 a b) = mulM 3 a b ∧ (∀ j, j < mulN 3 a b → sRow 3 j ≠ mulM 3 a b) ∧ (thenR (pRow 3 a) (pRow 3 b)).length = 3 ∧ ∀ j, j < 3 → 0 ≤ (thenR (pRow 3 a) (pRow 3 b)).getD j 0 ∧ (thenR (pRow 3 a) (pRow 3 b)).getD j 0 ≤ 2 := by decide +kernel
  rcases hd with rfl | rfl
  · exact h2 a ha b hb
  · exact h3 a ha b hb
theorem inv_facts (d a : Nat) (hd : d = 2 ∨ d = 3) (ha : a < cN d) :
    numR d (backR (pRow d a)) = (invN d a : Int) ∧ invN d a < cN d ∧ sRow d (invN d a) = invM3 d a ∧ (∀ j, j < invN d a → sRow d j ≠ invM3 d a) ∧ (backR (pRow d a)).length = 3 ∧ ∀ j, j < 3 → 0 ≤ (backR (pRow d a)).getD j 0 ∧ (backR (pRow d a)).getD j 0 ≤ 2 := by
  have h2 : ∀ a, a < 2 → numR 2 (backR (pRow 2 a)) = (invN 2 a : Int) ∧ invN 2 a < 2 ∧ sRow 2 (invN 2 a) = invM3 2 a ∧ (∀ j, j < invN 2 a → sRow 2 j ≠ invM3 2 a) ∧ (backR (pRow 2 a)).length = 3 ∧ ∀ j, j < 3 → 0 ≤ (backR (pRow 2 a)).getD j 0 ∧ (backR (pRow 2 a)).getD j 0 ≤ 2 := by decide +kernel
  have h3 : ∀ a, a < 6 → numR 3 (backR (pRow 3 a)) = (invN 3 a : Int) ∧ invN 3 a < 6 ∧ sRow 3 (invN 3 a) = invM3 3 a ∧ (∀ j, j < invN 3 a → sRow 3 j ≠ invM3 3 a) ∧ (backR (pRow 3 a)).length = 3 ∧ ∀ j, j < 3 → 0 ≤ (backR (pRow 3 a)).getD j 0 ∧ (backR (pRow 3 a)).getD j 0 ≤ 2 := by decide +kernel
  rcases hd with rfl | rfl
  · exact h2 a ha
  · exact h3 a ha
end Go.Proofs.Ytgeihpaealomkaa

namespace Go.Proofs.Ytgeihpaealomkaa
open Go.RowKit

def rows3 (p : List Int) : Prop := p.length = 3 ∧ ∀ j, j < 3 → 0 ≤ p.getD j 0 ∧ p.getD j 0 ≤ 2
theorem pRow_3 (d k : Nat) (hd : d = 2 ∨ d = 3) (hk : k < cN d) : rows3 (pRow d k) := pRow_ok d k hd hk
theorem sRow_3 (d k : Nat) (hd : d = 2 ∨ d = 3) (hk : k < cN d) : rows3 (sRow d k) := by
  have h2 : ∀ k, k < 2 → (sRow 2 k).length = 3 ∧ ∀ j, j < 3 → 0 ≤ (sRow 2 k).getD j 0 ∧ (sRow 2 k).getD j 0 ≤ 2 := by decide
  have h3 : ∀ k, k < 6 → (sRow 3 k).length = 3 ∧ ∀ j, j < 3 → 0 ≤ (sRow 3 k).getD j 0 ∧ (sRow 3 k).getD j 0 ≤ 2 := by decide
  rcases hd with rfl | rfl
  · exact h2 k hk
  · exact h3 k hk
/-- The turned row, entry for entry. -/
def bkF (p : List Int) (k : Nat) : List Int := (List.range k).foldl (fun l (x : Nat) => l.set (p.getD x 0).toNat (x : Int)) [0, 0, 0]
theorem bkF_succ (p : List Int) (k : Nat) : bkF p (k + 1) = (bkF p k).set (p.getD k 0).toNat (k : Int) := by simp [bkF, List.range_succ]
theorem bkF_len (p : List Int) : ∀ k, (bkF p k).length = 3
  | 0 => rfl
  | k + 1 => by rw [bkF_succ, List.length_set, bkF_len p k]
theorem bk_p (d a : Nat) (hd : d = 2 ∨ d = 3) (ha : a < cN d) : bkF (pRow d a) 3 = backR (pRow d a) := by
  have h2 : ∀ a, a < 2 → bkF (pRow 2 a) 3 = backR (pRow 2 a) := by decide
  have h3 : ∀ a, a < 6 → bkF (pRow 3 a) 3 = backR (pRow 3 a) := by decide
  rcases hd with rfl | rfl
  · exact h2 a ha
  · exact h3 a ha
theorem bk_s (d a : Nat) (hd : d = 2 ∨ d = 3) (ha : a < cN d) : bkF (sRow d a) d = invM3 d a ∧ byte3 (invM3 d a) := by
  have h2 : ∀ a, a < 2 → bkF (sRow 2 a) 2 = invM3 2 a ∧ (invM3 2 a).length = 3 ∧ ∀ j, j < 3 → 0 ≤ (invM3 2 a).getD j 0 ∧ (invM3 2 a).getD j 0 ≤ 255 := by decide
  have h3 : ∀ a, a < 6 → bkF (sRow 3 a) 3 = invM3 3 a ∧ (invM3 3 a).length = 3 ∧ ∀ j, j < 3 → 0 ≤ (invM3 3 a).getD j 0 ∧ (invM3 3 a).getD j 0 ≤ 255 := by decide
  rcases hd with rfl | rfl
  · exact h2 a ha
  · exact h3 a ha
theorem mulM_b3 (d a b : Nat) (hd : d = 2 ∨ d = 3) (ha : a < cN d) (hb : b < cN d) : byte3 (mulM d a b) := by
  have h2 : ∀ a, a < 2 → ∀ b, b < 2 → (mulM 2 a b).length = 3 ∧ ∀ j, j < 3 → 0 ≤ (mulM 2 a b).getD j 0 ∧ (mulM 2 a b).getD j 0 ≤ 255 := by decide
  have h3 : ∀ a, a < 6 → ∀ b, b < 6 → (mulM 3 a b).length = 3 ∧ ∀ j, j < 3 → 0 ≤ (mulM 3 a b).getD j 0 ∧ (mulM 3 a b).getD j 0 ≤ 255 := by decide
  rcases hd with rfl | rfl
  · exact h2 a ha b hb
  · exact h3 a ha b hb
theorem thenR_at (p q : List Int) (hp : p.length = 3) (k : Nat) (hk : k < 3) : rowF (thenR p q) k = q.getD (p.getD k 0).toNat 0 := by
  unfold rowF thenR
  simp [List.getD, List.getElem?_map, List.getElem?_eq_getElem (show k < p.length by omega)]
theorem fill_all (l : List Int) (h : l.length = 3) : fillP (rowF l) 3 3 = l := by
  match l, h with
  | [a, b, c], _ => rfl
theorem thenR_len (p q : List Int) : (thenR p q).length = p.length := by simp [thenR]

end Go.Proofs.Ytgeihpaealomkaa

namespace Go.Proofs.Ytgeihpaealomkaa
open Go.RowKit

def mlF (d a b : Nat) (x : Nat) : Int := (sRow d b).getD ((sRow d a).getD x 0).toNat 0
theorem mlF_all (d a b : Nat) : fillP (mlF d a b) 3 d = mulM d a b := rfl
theorem u8s_szs (l : List Int) (h : l.length = 3) : (u8s l).size = 3 := by rw [u8s_size, h]

end Go.Proofs.Ytgeihpaealomkaa
