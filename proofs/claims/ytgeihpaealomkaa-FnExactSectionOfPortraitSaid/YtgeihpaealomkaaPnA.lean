/- 'PermutationNumber': plain data; the program. -/
import Derived.Test.YtgeihpaealomkaaDoorT
import Derived.Test.YtgeihpaealomkaaArgs
import Derived.Test.YtgeihpaealomkaaPtA
import Derived.Test.YtgeihpaealomkaaWordA0
import Derived.Test.YtgeihpaealomkaaStoreK
import Derived.Test.YtgeihpaealomkaaLaws
import Derived.Deep.WholeRow
namespace Go.Proofs.Ytgeihpaealomkaa
open Go.RowKit

/-- The first k of n places are filled. -/
def fillP (f : Nat → Int) (n k : Nat) : List Int := (List.range n).map fun x => if x < k then f x else 0
theorem fillP_len (f : Nat → Int) (n k : Nat) : (fillP f n k).length = n := by simp [fillP]
theorem fillP_zero (f : Nat → Int) (n : Nat) : fillP f n 0 = List.replicate n 0 := by simp [fillP, List.map_const']
theorem fillP_set (f : Nat → Int) (n k : Nat) (v : Int) (hv : v = f k) : (fillP f n k).set k v = fillP f n (k + 1) := by
  subst hv
  apply List.ext_getElem
  · simp [fillP]
  · intro i h1 h2
    simp only [fillP, List.getElem_set, List.getElem_map, List.getElem_range]
    by_cases h : k = i
    · subst h; simp
    · rw [if_neg h]
      by_cases h3 : i < k
      · rw [if_pos h3, if_pos (by omega)]
      · rw [if_neg h3, if_neg (by omega)]
theorem fillP_at (f : Nat → Int) (n k x : Nat) (hx : x < n) : (ints (fillP f n k))[x]? = some (.int .i64 (if x < k then f x else 0)) := by
  rw [ints_get _ x (by rw [fillP_len]; exact hx)]
  simp [fillP]
def rowF (row : List Int) (x : Nat) : Int := row.getD x 0
def u8s (l : List Int) : Array Value := (l.map (Value.int .u8)).toArray
theorem u8s_size (l : List Int) : (u8s l).size = l.length := by simp [u8s]
theorem u8s_at (l : List Int) (i : Nat) (hi : i < l.length) : (u8s l)[i]? = some (.int .u8 (l.getD i 0)) := by
  simp [u8s, List.getD, List.getElem?_eq_getElem hi]
theorem u8s_one (l : List Int) : (u8s l).all (·.oneCell') = true := by
  rw [Array.all_eq_true_iff_forall_mem]
  intro v hv
  simp only [u8s, List.mem_toArray, List.mem_map] at hv
  obtain ⟨z, _, rfl⟩ := hv
  rfl
/-- The permutations of d letters: three letters each. -/
def pRow (d k : Nat) : List Int := if d = 2 then tabTwo.getD k [] else tabThree.getD k []
def cN (d : Nat) : Nat := if d = 2 then 2 else 6
theorem cntP_cN (d : Nat) : cntP d = (cN d : Int) := by unfold cntP cN; split <;> rfl
theorem pRow_ok (d k : Nat) (hd : d = 2 ∨ d = 3) (hk : k < cN d) : (pRow d k).length = 3 ∧ ∀ j, j < 3 → 0 ≤ (pRow d k).getD j 0 ∧ (pRow d k).getD j 0 ≤ 2 := by
  have h2 : ∀ k, k < 2 → (pRow 2 k).length = 3 ∧ ∀ j, j < 3 → 0 ≤ (pRow 2 k).getD j 0 ∧ (pRow 2 k).getD j 0 ≤ 2 := by decide
  have h3 : ∀ k, k < 6 → (pRow 3 k).length = 3 ∧ ∀ j, j < 3 → 0 ≤ (pRow 3 k).getD j 0 ∧ (pRow 3 k).getD j 0 ≤ 2 := by decide
  rcases hd with rfl | rfl
  · exact h2 k hk
  · exact h3 k hk
def pTabR (d k : Nat) : List Int := fillP (rowF (pRow d k)) d d
def pnF (zs : List Int) : Option Nat := if zs.length = 2 ∨ zs.length = 3 then (List.range (cN zs.length)).find? fun k => decide (pTabR zs.length k = zs) else none
def pnN (zs : List Int) : Int := match pnF zs with | some k => (k : Int) | none => 0
def pnC (zs : List Int) : Int := match pnF zs with | some _ => 0 | none => 2

theorem pnF_find (zs : List Int) (d : Nat) (hd : d = 2 ∨ d = 3) (hl : zs.length = d) : pnF zs = (List.range (cN d)).find? fun k => decide (pTabR d k = zs) := by
  unfold pnF; rw [hl, if_pos hd]
theorem pnF_some (zs : List Int) (d k : Nat) (hd : d = 2 ∨ d = 3) (hl : zs.length = d) (hk : k < cN d) (h : pTabR d k = zs) (hno : ∀ j, j < k → pTabR d j ≠ zs) : pnF zs = some k := by
  rw [pnF_find zs d hd hl, List.find?_range_eq_some]
  exact ⟨by simpa using h, by simpa using hk, fun j hj => by simpa using hno j hj⟩
theorem pnF_none (zs : List Int) (d : Nat) (hd : d = 2 ∨ d = 3) (hl : zs.length = d) (hno : ∀ j, j < cN d → pTabR d j ≠ zs) : pnF zs = none := by
  rw [pnF_find zs d hd hl, List.find?_eq_none]
  intro j hj
  simpa using hno j (by simpa using hj)
theorem ret_ii {a b c d : Int} (h1 : a = c) (h2 : b = d) : Ending.returned (.tuple #[.int .i64 a, .int .i64 b]) = Ending.returned (.tuple #[.int .i64 c, .int .i64 d]) := by rw [h1, h2]

end Go.Proofs.Ytgeihpaealomkaa
