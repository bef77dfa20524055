/- 'PermutationNumber': plain data; the program. -/
import Derived.Test.YticnpajbefflbadDoorDoorT
import Derived.Test.YticnpajbefflbadDoorArgs
import Derived.Test.YticnpajbefflbadDoorPtA
import Derived.Test.YticnpajbefflbadDoorWordA0
import Derived.Test.YticnpajbefflbadDoorStoreK
import Derived.Test.YticnpajbefflbadDoorLaws
import Derived.Deep.WholeRow
namespace Go.Proofs.YticnpajbefflbadDoor
open Go.RowKit

/-- The first k of n places are filled. -/
def fillP (f : Nat → Int) (n k : Nat) : List Int := (List.range n).map fun x => if x < k then f x else 0
theorem fillP_len (f : Nat → Int) (n k : Nat) : (fillP f n k).length = n := by simp [fillP]
theorem fillP_zero (f : Nat → Int) (n : Nat) : fillP f n 0 = List.replicate n 0 := by simp [fillP, List.map_const']
theorem fillP_set (f : Nat → Int) (n k : Nat) (v : Int) (hv : v = f k) : (fillP f n k).set k v = fillP f n (k + 1) := by
  subst hv
  apply List.ext_getElem
  · simp [fillP]
  · intro i h1 h2
    simp only [fillP, List.getElem_set, List.getElem_map, List.getElem_range]
    by_cases h : k = i
    · subst h; simp
    · rw [if_neg h]
      by_cases h3 : i < k
      · rw [if_pos h3, if_pos (by omega)]
      · rw [if_neg h3, if_neg (by omega)]
theorem fillP_at (f : Nat → Int) (n k x : Nat) (hx : x < n) : (ints (fillP f n k))[x]? = some (.int .i64 (if x < k then f x else 0)) := by
  rw [ints_get _ x (by rw [fillP_len]; exact hx)]
  simp [fillP]
def rowF (row : List Int) (x : Nat) : Int := row.getD x 0
def u8s (l : List Int) : Array Value := (l.map (Value.int .u8)).toArray
theorem u8s_size (l : List Int) : (u8s l).size = l.length := by simp [u8s]
theorem u8s_at (l : List Int) (i : Nat) (hi : i < l.length) : (u8s l)[i]? = some (.int .u8 (l.getD i 0)) := by
  simp [u8s, List.getD, List.getElem?_eq_getElem hi]
theorem u8s_one (l : List Int) : (u8s l).all (·.oneCell') = true := by
  rw [Array.all_eq_true_iff_forall_mem]
  intro v hv
  simp only [u8s, List.mem_toArray, List.mem_map] at hv
  obtain ⟨z, _, rfl⟩ := hv
  rfl
/-- The permutations of d letters: three letters each. -/
def pRow (d k : Nat) : List Int := if d = 2 then tabTwo.getD k [] else tabThree.getD k []
def cN (d : Nat) : Nat := if d = 2 then 2 else 6
theorem cntP_cN (d : Nat) : cntP d = (cN d : Int) := by unfold cntP cN; split <;> rfl
theorem pRow_ok (d k : Nat) (hd : d = 2 ∨ d = 3) (hk : k < cN d) : (pRow d k).length = 3 ∧ ∀ j, j < 3 → 0 ≤ (pRow d k).getD j 0 ∧ (pRow d k).getD j 0 ≤ 2 := by
  have h2 : ∀ k, k < 2 → (pRow 2 k).length = 3 ∧ ∀ j, j < 3 → 0 ≤ (pRow 2 k).getD j 0 ∧ (pRow 2 k).getD j 0 ≤ 2 := by decide
  have h3 : ∀ k, k < 6 → (pRow 3 k).length = 3 ∧ ∀ j, j < 3 → 0 ≤ (pRow 3 k).getD j 0 ∧ (pRow 3 k).getD j 0 ≤ 2 := by decide
  rcases hd with rfl | rfl
  · exact h2 k hk
  · exact h3 k hk
def pTabR (d k : Nat) : List Int := fillP (rowF (pRow d k)) d d
def pnF (zs : List Int) : Option Nat := if zs.length = 2 ∨ zs.length = 3 then (List.range (cN zs.length)).find? fun k => decide (pTabR zs.length k = zs) else none
def pnN (zs : List Int) : Int := match pnF zs with | some k => (k : Int) | none => 0
def pnC (zs : List Int) : Int := match pnF zs with | some _ => 0 | none => 2

set_option maxRecDepth 100000 in
set_option maxHeartbeats 1000000 in
theorem permutationAt_calls (d k : Nat) (hd : d = 2 ∨ d = 3) (hk : k < cN d) (w : World) (hT : TabsAt w) :
    Calls Tryd.prog 40 #[.int .i64 d, .int .i64 k] w fun e w' => e = .returned (.agg (u8s (pRow d k))) ∧ Below w.heap.size w w' := by
  have hz : (Tryd.prog.info? 53).map (fun i => (i.zero, i.size)) = some (some (.agg (u8s [0, 0, 0])), 3) := by kernel_rfl
  have hz0 := (zero_of_info hz).1
  have hsz := Lib.hid (zero_of_info hz).2
  have hR : Blk (w.alloc (.cells (u8s [0, 0, 0]) 53)) w.heap.size (u8s [0, 0, 0]) 53 := Blk.new _ _ _
  have hbw : Below w.heap.size w (w.alloc (.cells (u8s [0, 0, 0]) 53)) := by (repeat (first | exact Below.refl _ _ | refine below_drew' ?_ | refine below_drewN' ?_ _ | refine below_alloc' ?_ _ | refine below_set' ?_ (by (try simp); (try omega)) _ | refine below_step ?_ (by assumption)))
  have hT1 := hT.below hbw
  clear hz hT
  rcases hd with rfl | rfl
  · obtain rfl | rfl : k = 0 ∨ k = 1 := by simp [cN] at hk; omega
    · have c0 : (w.alloc (.cells (u8s [0, 0, 0]) 53)).cell? ⟨0, 0, none⟩ = some (.int .u8 0) := hT1.1 0 0 (by omega) (by omega)
      have c1 : (w.alloc (.cells (u8s [0, 0, 0]) 53)).cell? ⟨0, 1, none⟩ = some (.int .u8 1) := hT1.1 0 1 (by omega) (by omega)
      have c2 : (w.alloc (.cells (u8s [0, 0, 0]) 53)).cell? ⟨0, 2, none⟩ = some (.int .u8 2) := hT1.1 0 2 (by omega) (by omega)
      have Hs3 : Hid ((Tryd.prog.info? 53).map (·.size) = some (#[.int .u8 0, .int .u8 1, .int .u8 2] : Array Value).size) := Lib.hid hsz.out
      have H13 : Hid ((#[.int .u8 0, .int .u8 1, .int .u8 2] : Array Value).all (·.oneCell') = true) := Lib.hid (u8s_one [0, 1, 2])
      have Hf3 : Hid (0 + (#[.int .u8 0, .int .u8 1, .int .u8 2] : Array Value).size ≤ (u8s [0, 0, 0]).size) := Lib.hid (Nat.le_refl 3)
      have Ho : Hid (over (u8s [0, 0, 0]) 0 #[.int .u8 0, .int .u8 1, .int .u8 2] = u8s (pRow 2 0)) := Lib.hid rfl
      clear hT1
      go_enter Tryd.func40, Tryd.ntmps40
      go_wp2_with (with_reducible show wpList _ _ _ _ _ _; refine wpList_store_row rfl 53 _ _ rfl w.heap.size 0 #[.int .u8 0, .int .u8 1, .int .u8 2] rfl rfl _ _ hR Hf3.out Hs3.out H13.out _ Ho.out ?_; intro w3 hs3)
      exact bodyPost_cell rfl rfl hs3.blk Tryd.underlying53 rfl Hs3.out rfl ⟨rfl, hs3.below _ _ (Nat.le_refl _) hbw⟩
    · have c0 : (w.alloc (.cells (u8s [0, 0, 0]) 53)).cell? ⟨0, 3, none⟩ = some (.int .u8 1) := hT1.1 1 0 (by omega) (by omega)
      have c1 : (w.alloc (.cells (u8s [0, 0, 0]) 53)).cell? ⟨0, 4, none⟩ = some (.int .u8 0) := hT1.1 1 1 (by omega) (by omega)
      have c2 : (w.alloc (.cells (u8s [0, 0, 0]) 53)).cell? ⟨0, 5, none⟩ = some (.int .u8 2) := hT1.1 1 2 (by omega) (by omega)
      have Hs3 : Hid ((Tryd.prog.info? 53).map (·.size) = some (#[.int .u8 1, .int .u8 0, .int .u8 2] : Array Value).size) := Lib.hid hsz.out
      have H13 : Hid ((#[.int .u8 1, .int .u8 0, .int .u8 2] : Array Value).all (·.oneCell') = true) := Lib.hid (u8s_one [1, 0, 2])
      have Hf3 : Hid (0 + (#[.int .u8 1, .int .u8 0, .int .u8 2] : Array Value).size ≤ (u8s [0, 0, 0]).size) := Lib.hid (Nat.le_refl 3)
      have Ho : Hid (over (u8s [0, 0, 0]) 0 #[.int .u8 1, .int .u8 0, .int .u8 2] = u8s (pRow 2 1)) := Lib.hid rfl
      clear hT1
      go_enter Tryd.func40, Tryd.ntmps40
      go_wp2_with (with_reducible show wpList _ _ _ _ _ _; refine wpList_store_row rfl 53 _ _ rfl w.heap.size 0 #[.int .u8 1, .int .u8 0, .int .u8 2] rfl rfl _ _ hR Hf3.out Hs3.out H13.out _ Ho.out ?_; intro w3 hs3)
      exact bodyPost_cell rfl rfl hs3.blk Tryd.underlying53 rfl Hs3.out rfl ⟨rfl, hs3.below _ _ (Nat.le_refl _) hbw⟩
  · obtain rfl | rfl | rfl | rfl | rfl | rfl : k = 0 ∨ k = 1 ∨ k = 2 ∨ k = 3 ∨ k = 4 ∨ k = 5 := by simp [cN] at hk; omega
    · have c0 : (w.alloc (.cells (u8s [0, 0, 0]) 53)).cell? ⟨1, 0, none⟩ = some (.int .u8 0) := hT1.2 0 0 (by omega) (by omega)
      have c1 : (w.alloc (.cells (u8s [0, 0, 0]) 53)).cell? ⟨1, 1, none⟩ = some (.int .u8 1) := hT1.2 0 1 (by omega) (by omega)
      have c2 : (w.alloc (.cells (u8s [0, 0, 0]) 53)).cell? ⟨1, 2, none⟩ = some (.int .u8 2) := hT1.2 0 2 (by omega) (by omega)
      have Hs3 : Hid ((Tryd.prog.info? 53).map (·.size) = some (#[.int .u8 0, .int .u8 1, .int .u8 2] : Array Value).size) := Lib.hid hsz.out
      have H13 : Hid ((#[.int .u8 0, .int .u8 1, .int .u8 2] : Array Value).all (·.oneCell') = true) := Lib.hid (u8s_one [0, 1, 2])
      have Hf3 : Hid (0 + (#[.int .u8 0, .int .u8 1, .int .u8 2] : Array Value).size ≤ (u8s [0, 0, 0]).size) := Lib.hid (Nat.le_refl 3)
      have Ho : Hid (over (u8s [0, 0, 0]) 0 #[.int .u8 0, .int .u8 1, .int .u8 2] = u8s (pRow 3 0)) := Lib.hid rfl
      clear hT1
      go_enter Tryd.func40, Tryd.ntmps40
      go_wp2_with (with_reducible show wpList _ _ _ _ _ _; refine wpList_store_row rfl 53 _ _ rfl w.heap.size 0 #[.int .u8 0, .int .u8 1, .int .u8 2] rfl rfl _ _ hR Hf3.out Hs3.out H13.out _ Ho.out ?_; intro w3 hs3)
      exact bodyPost_cell rfl rfl hs3.blk Tryd.underlying53 rfl Hs3.out rfl ⟨rfl, hs3.below _ _ (Nat.le_refl _) hbw⟩
    · have c0 : (w.alloc (.cells (u8s [0, 0, 0]) 53)).cell? ⟨1, 3, none⟩ = some (.int .u8 0) := hT1.2 1 0 (by omega) (by omega)
      have c1 : (w.alloc (.cells (u8s [0, 0, 0]) 53)).cell? ⟨1, 4, none⟩ = some (.int .u8 2) := hT1.2 1 1 (by omega) (by omega)
      have c2 : (w.alloc (.cells (u8s [0, 0, 0]) 53)).cell? ⟨1, 5, none⟩ = some (.int .u8 1) := hT1.2 1 2 (by omega) (by omega)
      have Hs3 : Hid ((Tryd.prog.info? 53).map (·.size) = some (#[.int .u8 0, .int .u8 2, .int .u8 1] : Array Value).size) := Lib.hid hsz.out
      have H13 : Hid ((#[.int .u8 0, .int .u8 2, .int .u8 1] : Array Value).all (·.oneCell') = true) := Lib.hid (u8s_one [0, 2, 1])
      have Hf3 : Hid (0 + (#[.int .u8 0, .int .u8 2, .int .u8 1] : Array Value).size ≤ (u8s [0, 0, 0]).size) := Lib.hid (Nat.le_refl 3)
      have Ho : Hid (over (u8s [0, 0, 0]) 0 #[.int .u8 0, .int .u8 2, .int .u8 1] = u8s (pRow 3 1)) := Lib.hid rfl
      clear hT1
      go_enter Tryd.func40, Tryd.ntmps40
      go_wp2_with (with_reducible show wpList _ _ _ _ _ _; refine wpList_store_row rfl 53 _ _ rfl w.heap.size 0 #[.int .u8 0, .int .u8 2, .int .u8 1] rfl rfl _ _ hR Hf3.out Hs3.out H13.out _ Ho.out ?_; intro w3 hs3)
      exact bodyPost_cell rfl rfl hs3.blk Tryd.underlying53 rfl Hs3.out rfl ⟨rfl, hs3.below _ _ (Nat.le_refl _) hbw⟩
    · have c0 : (w.alloc (.cells (u8s [0, 0, 0]) 53)).cell? ⟨1, 6, none⟩ = some (.int .u8 1) := hT1.2 2 0 (by omega) (by omega)
      have c1 : (w.alloc (.cells (u8s [0, 0, 0]) 53)).cell? ⟨1, 7, none⟩ = some (.int .u8 0) := hT1.2 2 1 (by omega) (by omega)
      have c2 : (w.alloc (.cells (u8s [0, 0, 0]) 53)).cell? ⟨1, 8, none⟩ = some (.int .u8 2) := hT1.2 2 2 (by omega) (by omega)
      have Hs3 : Hid ((Tryd.prog.info? 53).map (·.size) = some (#[.int .u8 1, .int .u8 0, .int .u8 2] : Array Value).size) := Lib.hid hsz.out
      have H13 : Hid ((#[.int .u8 1, .int .u8 0, .int .u8 2] : Array Value).all (·.oneCell') = true) := Lib.hid (u8s_one [1, 0, 2])
      have Hf3 : Hid (0 + (#[.int .u8 1, .int .u8 0, .int .u8 2] : Array Value).size ≤ (u8s [0, 0, 0]).size) := Lib.hid (Nat.le_refl 3)
      have Ho : Hid (over (u8s [0, 0, 0]) 0 #[.int .u8 1, .int .u8 0, .int .u8 2] = u8s (pRow 3 2)) := Lib.hid rfl
      clear hT1
      go_enter Tryd.func40, Tryd.ntmps40
      go_wp2_with (with_reducible show wpList _ _ _ _ _ _; refine wpList_store_row rfl 53 _ _ rfl w.heap.size 0 #[.int .u8 1, .int .u8 0, .int .u8 2] rfl rfl _ _ hR Hf3.out Hs3.out H13.out _ Ho.out ?_; intro w3 hs3)
      exact bodyPost_cell rfl rfl hs3.blk Tryd.underlying53 rfl Hs3.out rfl ⟨rfl, hs3.below _ _ (Nat.le_refl _) hbw⟩
    · have c0 : (w.alloc (.cells (u8s [0, 0, 0]) 53)).cell? ⟨1, 9, none⟩ = some (.int .u8 1) := hT1.2 3 0 (by omega) (by omega)
      have c1 : (w.alloc (.cells (u8s [0, 0, 0]) 53)).cell? ⟨1, 10, none⟩ = some (.int .u8 2) := hT1.2 3 1 (by omega) (by omega)
      have c2 : (w.alloc (.cells (u8s [0, 0, 0]) 53)).cell? ⟨1, 11, none⟩ = some (.int .u8 0) := hT1.2 3 2 (by omega) (by omega)
      have Hs3 : Hid ((Tryd.prog.info? 53).map (·.size) = some (#[.int .u8 1, .int .u8 2, .int .u8 0] : Array Value).size) := Lib.hid hsz.out
      have H13 : Hid ((#[.int .u8 1, .int .u8 2, .int .u8 0] : Array Value).all (·.oneCell') = true) := Lib.hid (u8s_one [1, 2, 0])
      have Hf3 : Hid (0 + (#[.int .u8 1, .int .u8 2, .int .u8 0] : Array Value).size ≤ (u8s [0, 0, 0]).size) := Lib.hid (Nat.le_refl 3)
      have Ho : Hid (over (u8s [0, 0, 0]) 0 #[.int .u8 1, .int .u8 2, .int .u8 0] = u8s (pRow 3 3)) := Lib.hid rfl
      clear hT1
      go_enter Tryd.func40, Tryd.ntmps40
      go_wp2_with (with_reducible show wpList _ _ _ _ _ _; refine wpList_store_row rfl 53 _ _ rfl w.heap.size 0 #[.int .u8 1, .int .u8 2, .int .u8 0] rfl rfl _ _ hR Hf3.out Hs3.out H13.out _ Ho.out ?_; intro w3 hs3)
      exact bodyPost_cell rfl rfl hs3.blk Tryd.underlying53 rfl Hs3.out rfl ⟨rfl, hs3.below _ _ (Nat.le_refl _) hbw⟩
    · have c0 : (w.alloc (.cells (u8s [0, 0, 0]) 53)).cell? ⟨1, 12, none⟩ = some (.int .u8 2) := hT1.2 4 0 (by omega) (by omega)
      have c1 : (w.alloc (.cells (u8s [0, 0, 0]) 53)).cell? ⟨1, 13, none⟩ = some (.int .u8 0) := hT1.2 4 1 (by omega) (by omega)
      have c2 : (w.alloc (.cells (u8s [0, 0, 0]) 53)).cell? ⟨1, 14, none⟩ = some (.int .u8 1) := hT1.2 4 2 (by omega) (by omega)
      have Hs3 : Hid ((Tryd.prog.info? 53).map (·.size) = some (#[.int .u8 2, .int .u8 0, .int .u8 1] : Array Value).size) := Lib.hid hsz.out
      have H13 : Hid ((#[.int .u8 2, .int .u8 0, .int .u8 1] : Array Value).all (·.oneCell') = true) := Lib.hid (u8s_one [2, 0, 1])
      have Hf3 : Hid (0 + (#[.int .u8 2, .int .u8 0, .int .u8 1] : Array Value).size ≤ (u8s [0, 0, 0]).size) := Lib.hid (Nat.le_refl 3)
      have Ho : Hid (over (u8s [0, 0, 0]) 0 #[.int .u8 2, .int .u8 0, .int .u8 1] = u8s (pRow 3 4)) := Lib.hid rfl
      clear hT1
      go_enter Tryd.func40, Tryd.ntmps40
      go_wp2_with (with_reducible show wpList _ _ _ _ _ _; refine wpList_store_row rfl 53 _ _ rfl w.heap.size 0 #[.int .u8 2, .int .u8 0, .int .u8 1] rfl rfl _ _ hR Hf3.out Hs3.out H13.out _ Ho.out ?_; intro w3 hs3)
      exact bodyPost_cell rfl rfl hs3.blk Tryd.underlying53 rfl Hs3.out rfl ⟨rfl, hs3.below _ _ (Nat.le_refl _) hbw⟩
    · have c0 : (w.alloc (.cells (u8s [0, 0, 0]) 53)).cell? ⟨1, 15, none⟩ = some (.int .u8 2) := hT1.2 5 0 (by omega) (by omega)
      have c1 : (w.alloc (.cells (u8s [0, 0, 0]) 53)).cell? ⟨1, 16, none⟩ = some (.int .u8 1) := hT1.2 5 1 (by omega) (by omega)
      have c2 : (w.alloc (.cells (u8s [0, 0, 0]) 53)).cell? ⟨1, 17, none⟩ = some (.int .u8 0) := hT1.2 5 2 (by omega) (by omega)
      have Hs3 : Hid ((Tryd.prog.info? 53).map (·.size) = some (#[.int .u8 2, .int .u8 1, .int .u8 0] : Array Value).size) := Lib.hid hsz.out
      have H13 : Hid ((#[.int .u8 2, .int .u8 1, .int .u8 0] : Array Value).all (·.oneCell') = true) := Lib.hid (u8s_one [2, 1, 0])
      have Hf3 : Hid (0 + (#[.int .u8 2, .int .u8 1, .int .u8 0] : Array Value).size ≤ (u8s [0, 0, 0]).size) := Lib.hid (Nat.le_refl 3)
      have Ho : Hid (over (u8s [0, 0, 0]) 0 #[.int .u8 2, .int .u8 1, .int .u8 0] = u8s (pRow 3 5)) := Lib.hid rfl
      clear hT1
      go_enter Tryd.func40, Tryd.ntmps40
      go_wp2_with (with_reducible show wpList _ _ _ _ _ _; refine wpList_store_row rfl 53 _ _ rfl w.heap.size 0 #[.int .u8 2, .int .u8 1, .int .u8 0] rfl rfl _ _ hR Hf3.out Hs3.out H13.out _ Ho.out ?_; intro w3 hs3)
      exact bodyPost_cell rfl rfl hs3.blk Tryd.underlying53 rfl Hs3.out rfl ⟨rfl, hs3.below _ _ (Nat.le_refl _) hbw⟩

theorem pnF_find (zs : List Int) (d : Nat) (hd : d = 2 ∨ d = 3) (hl : zs.length = d) : pnF zs = (List.range (cN d)).find? fun k => decide (pTabR d k = zs) := by
  unfold pnF; rw [hl, if_pos hd]
theorem pnF_some (zs : List Int) (d k : Nat) (hd : d = 2 ∨ d = 3) (hl : zs.length = d) (hk : k < cN d) (h : pTabR d k = zs) (hno : ∀ j, j < k → pTabR d j ≠ zs) : pnF zs = some k := by
  rw [pnF_find zs d hd hl, List.find?_range_eq_some]
  exact ⟨by simpa using h, by simpa using hk, fun j hj => by simpa using hno j hj⟩
theorem pnF_none (zs : List Int) (d : Nat) (hd : d = 2 ∨ d = 3) (hl : zs.length = d) (hno : ∀ j, j < cN d → pTabR d j ≠ zs) : pnF zs = none := by
  rw [pnF_find zs d hd hl, List.find?_eq_none]
  intro j hj
  simpa using hno j (by simpa using hj)
theorem ret_ii {a b c d : Int} (h1 : a = c) (h2 : b = d) : Ending.returned (.tuple #[.int .i64 a, .int .i64 b]) = Ending.returned (.tuple #[.int .i64 c, .int .i64 d]) := by rw [h1, h2]

end Go.Proofs.YticnpajbefflbadDoor
