/- 'PermutationNumber': the model, walked. -/
import Derived.Test.YticnpajbefflbadDoorBls
import Derived.Test.YticnpajbefflbadDoorPnS
namespace Go.Proofs.YticnpajbefflbadDoor
open Go.RowKit

def okUp (d : Nat) (zs : List Int) (i : Nat) : Bool := (List.range i).all fun j => (decide (0 ≤ zs.getD j 0) && decide (zs.getD j 0 ≤ (d : Int) - 1)) && !decide (zs.getD j 0 ∈ zs.take j)
theorem okUp_succ (d : Nat) (zs : List Int) (i : Nat) : okUp d zs (i + 1) = (okUp d zs i && ((decide (0 ≤ zs.getD i 0) && decide (zs.getD i 0 ≤ (d : Int) - 1)) && !decide (zs.getD i 0 ∈ zs.take i))) := by
  simp [okUp, List.range_succ]
def getZ (zs : List Int) (x : Nat) : Int := zs.getD x 0
def lstP (zs : List Int) (i : Nat) : List Int := fillP (getZ zs) 3 i
def metP (zs : List Int) (i : Nat) : List Bool := (List.range 3).map fun (x : Nat) => decide ((x : Int) ∈ zs.take i)
theorem metP_len (zs : List Int) (i : Nat) : (metP zs i).length = 3 := by simp [metP]
theorem metP_at (zs : List Int) (i x : Nat) (hx : x < 3) : (bls (metP zs i))[x]? = some (.bool (decide ((x : Int) ∈ zs.take i))) := by
  simp [bls, metP, List.getElem?_range hx]
theorem u8s_set (l : List Int) (i : Nat) (v : Int) : u8s (l.set i v) = (u8s l).setIfInBounds i (.int .u8 v) := by
  apply Array.ext'; simp [u8s]
theorem bls_one (l : List Bool) : (bls l).all (·.oneCell') = true := by
  rw [Array.all_eq_true_iff_forall_mem]
  intro v hv
  simp only [bls, List.mem_toArray, List.mem_map] at hv
  obtain ⟨z, _, rfl⟩ := hv
  rfl
theorem metP_set (zs : List Int) (i x : Nat) (hi : i < zs.length) (h : zs[i] = (x : Int)) : (metP zs i).set x true = metP zs (i + 1) := by
  apply List.ext_getElem
  · simp [metP]
  · intro j h1 h2
    simp only [metP, List.getElem_set, List.getElem_map, List.getElem_range]
    rw [List.take_succ_eq_append_getElem hi, h]
    by_cases e : x = j
    · subst e; simp
    · rw [if_neg e]
      congr 1
      simp
      intro e2; omega
theorem pn_bad (zs : List Int) (d i : Nat) (hd : d = 2 ∨ d = 3) (hl : zs.length = d) (hi : i < d) (h : okUp d zs (i + 1) = false) : pnF zs = none := by
  rw [pnF_find zs d hd hl, List.find?_eq_none]
  intro k hk e
  have e2 : pTabR d k = zs := by simpa using e
  have hk2 : k < cN d := by simpa using hk
  subst e2
  have g2 : ∀ k, k < 2 → ∀ i, i < 2 → okUp 2 (pTabR 2 k) (i + 1) = true := by decide
  have g3 : ∀ k, k < 6 → ∀ i, i < 3 → okUp 3 (pTabR 3 k) (i + 1) = true := by decide
  rcases hd with rfl | rfl
  · rw [g2 k hk2 i hi] at h; cases h
  · rw [g3 k hk2 i hi] at h; cases h
def foundB (d : Nat) (zs : List Int) : Bool := (List.range (cN d)).any fun n => decide (pnF zs = some n) && decide (sRow d n = lstP zs d) && (List.range n).all fun j => decide (sRow d j ≠ lstP zs d)
theorem pn_good (zs : List Int) (d : Nat) (hd : d = 2 ∨ d = 3) (hl : zs.length = d) (h : okUp d zs d = true) : ∃ n, n < cN d ∧ pnF zs = some n ∧ sRow d n = lstP zs d ∧ ∀ j, j < n → sRow d j ≠ lstP zs d := by
  have key : foundB d zs = true := by
    rcases hd with rfl | rfl
    · match zs, hl with
      | [a, b], _ =>
        simp [okUp, List.range_succ] at h
        obtain ⟨⟨a0, a1⟩, ⟨b0, b1⟩, ne⟩ := h
        have ca : a = 0 ∨ a = 1 := by omega
        have cb : b = 0 ∨ b = 1 := by omega
        rcases ca with rfl | rfl <;> rcases cb with rfl | rfl <;> first | (exfalso; omega) | decide
    · match zs, hl with
      | [a, b, c], _ =>
        simp [okUp, List.range_succ] at h
        have ca : a = 0 ∨ a = 1 ∨ a = 2 := by omega
        have cb : b = 0 ∨ b = 1 ∨ b = 2 := by omega
        have cc : c = 0 ∨ c = 1 ∨ c = 2 := by omega
        rcases ca with rfl | rfl | rfl <;> rcases cb with rfl | rfl | rfl <;> rcases cc with rfl | rfl | rfl <;> first | (exfalso; omega) | decide
  unfold foundB at key
  rw [List.any_eq_true] at key
  obtain ⟨n, hn, h2⟩ := key
  simp only [Bool.and_eq_true, decide_eq_true_eq, List.all_eq_true, List.mem_range] at h2 hn
  exact ⟨n, hn, h2.1.1, h2.1.2, h2.2⟩

end Go.Proofs.YticnpajbefflbadDoor
