/- 'PermutationNumber': plain data; the program. -/
import Derived.Test.YtgeihpaealomkaaDoorDoorT
import Derived.Test.YtgeihpaealomkaaDoorArgs
import Derived.Test.YtgeihpaealomkaaDoorPtA
import Derived.Test.YtgeihpaealomkaaDoorWordA0
import Derived.Test.YtgeihpaealomkaaDoorStoreK
import Derived.Test.YtgeihpaealomkaaDoorLaws
import Derived.Deep.WholeRow
namespace Go.Proofs.YtgeihpaealomkaaDoor
open Go.RowKit

/-- The first k of n places are filled. -/
def fillP (f : Nat → Int) (n k : Nat) : List Int := (List.range n).map fun x => if x < k then f x else 0
theorem fillP_len (f : Nat → Int) (n k : Nat) : (fillP f n k).length = n := by simp [fillP]
theorem fillP_zero (f : Nat → Int) (n : Nat) : fillP f n 0 = List.replicate n 0 := by simp [fillP, List.map_const']
theorem fillP_set (f : Nat → Int) (n k : Nat) (v : Int) (hv : v = f k) : (fillP f n k).set k v = fillP f n (k + 1) := by
  subst hv
  apply List.ext_getElem
  · simp [fillP]
  · intro i h1 h2
    simp only [fillP, List.getElem_set, List.getElem_map, List.getElem_range]
    by_cases h : k = i
    · subst h; simp
    · rw [if_neg h]
      by_cases h3 : i < k
      · rw [if_pos h3, if_pos (by omega)]
      · rw [if_neg h3, if_neg (by omega)]
theorem fillP_at (f : Nat → Int) (n k x : Nat) (hx : x < n) : (ints (fillP f n k))[x]? = some (.int .i64 (if x < k then f x else 0)) := by
  rw [ints_get _ x (by rw [fillP_len]; exact hx)]
  simp [fillP]
def rowF (row : List Int) (x : Nat) : Int := row.getD x 0
def u8s (l : List Int) : Array Value := (l.map (Value.int .u8)).toArray
theorem u8s_size (l : List Int) : (u8s l).size = l.length := by simp [u8s]
theorem u8s_at (l : List Int) (i : Nat) (hi : i < l.length) : (u8s l)[i]? = some (.int .u8 (l.getD i 0)) := by
  simp [u8s, List.getD, List.getElem?_eq_getElem hi]
theorem u8s_one (l : List Int) : (u8s l).all (·.oneCell') = true := by
  rw [Array.all_eq_true_iff_forall_mem]
  intro v hv
  simp only [u8s, List.mem_toArray, List.mem_map] at hv
  obtain ⟨z, _, rfl⟩ := hv
  rfl
/-- The permutations of d letters: three letters each. -/
def pRow (d k : Nat) : List Int := if d = 2 then tabTwo.getD k [] else tabThree.getD k []
def cN (d : Nat) : Nat := if d = 2 then 2 else 6
theorem cntP_cN (d : Nat) : cntP d = (cN d : Int) := by unfold cntP cN; split <;> rfl
theorem pRow_ok (d k : Nat) (hd : d = 2 ∨ d = 3) (hk : k < cN d) : (pRow d k).length = 3 ∧ ∀ j, j < 3 → 0 ≤ (pRow d k).getD j 0 ∧ (pRow d k).getD j 0 ≤ 2 := by
  have h2 : ∀ k, k < 2 → (pRow 2 k).length = 3 ∧ ∀ j, j < 3 → 0 ≤ (pRow 2 k).getD j 0 ∧ (pRow 2 k).getD j 0 ≤ 2 := by decide
  have h3 : ∀ k, k < 6 → (pRow 3 k).length = 3 ∧ ∀ j, j < 3 → 0 ≤ (pRow 3 k).getD j 0 ∧ (pRow 3 k).getD j 0 ≤ 2 := by decide
  rcases hd with rfl | rfl
  · exact h2 k hk
  · exact h3 k hk
def pTabR (d k : Nat) : List Int := fillP (rowF (pRow d k)) d d
def pnF (zs : List Int) : Option Nat := if zs.length = 2 ∨ zs.length = 3 then (List.range (cN zs.length)).find? fun k => decide (pTabR zs.length k = zs) else none
def pnN (zs : List Int) : Int := match pnF zs with | some k => (k : Int) | none => 0
def pnC (zs : List Int) : Int := match pnF zs with | some _ => 0 | none => 2

set_option maxRecDepth 100000 in
set_option maxHeartbeats 400000 in
theorem slicesEqual_calls (a b : Value) (zs ys : List Int) (w : World) (ha : SeesI w a zs) (hb : SeesI w b ys) :
    Calls Tryd.prog 56 #[a, b] w fun e w' => e = .returned (.bool (decide (zs = ys))) ∧ Below w.heap.size w w' := by
  have hla := ha.1
  have hlb := hb.1
  obtain ⟨oa, ca, rfl, hca⟩ := ha.view
  obtain ⟨ob, cb, rfl, hcb⟩ := hb.view
  clear ha hb
  unfold maxLen at hla hlb
  by_cases hne : zs.length = ys.length
  · have hne' : ((zs.length : Int) == (ys.length : Int)) = true := by simp; omega
    have hnb : ((zs.length : Int) != (ys.length : Int)) = false := by simp; omega
    have Hne := Lib.hid hne; clear hne hne'
    by_cases h0 : zs.length = 0
    · have h0b : ys.length = 0 := by rw [← Hne.out]; exact h0
      have Hz : Hid (zs = ys) := Lib.hid (by rw [List.eq_nil_of_length_eq_zero h0, List.eq_nil_of_length_eq_zero h0b])
      clear hca hcb
      generalize zs.length = n at *
      generalize ys.length = m at *
      subst h0 h0b
      go_enter Tryd.func56, Tryd.ntmps56
      go_wp2
      go_loop [13] (fun i => i = .int .i64 (0 : Nat)) (fun _ => 0)
      case atStart => rfl
      case round =>
        obtain rfl := hrel
        go_wp2
        go_ret
        exact ⟨ret_bool (by simp [Hz.out]), by (repeat (first | exact Below.refl _ _ | refine below_drew' ?_ | refine below_drewN' ?_ _ | refine below_alloc' ?_ _ | refine below_set' ?_ (by (try simp); (try omega)) _ | refine below_step ?_ (by assumption)))⟩
    · obtain ⟨g, rfl, _, hca⟩ := hca (by omega)
      obtain ⟨g2, rfl, _, hcb⟩ := hcb (by rw [← Hne.out]; omega)
      have h0' : ¬ ys.length = 0 := by rw [← Hne.out]; exact h0
      have Hca := Lib.hid hca; have Hcb := Lib.hid hcb; clear hca hcb
      go_enter Tryd.func56, Tryd.ntmps56
      go_wp2
      go_loopw [13] (fun i wr => ∃ k : Nat, k ≤ zs.length ∧ i = .int .i64 k ∧ (∃ nd, wr = w.drewN nd) ∧ Hid (zs.take k = ys.take k)) (fun i _ => zs.length - (intOf i).toNat)
      case atStart => exact ⟨0, by omega, rfl, ⟨0, rfl⟩, Lib.hid rfl⟩
      case round =>
        obtain ⟨k, hk, rfl, ⟨nd, rfl⟩, HT⟩ := hrel
        by_cases hlt : k < zs.length
        · have hlt2 : k < ys.length := by rw [← Hne.out]; exact hlt
          have c1 := Hca.out k hlt
          have c2 := Hcb.out k hlt2
          have hki : (k : Int) < zs.length := by omega
          have hki2 : (k : Int) < ys.length := by omega
          by_cases he : zs[k] = ys[k]
          · have Hn := Lib.hid (take_eq_next hlt hlt2 HT.out he)
            rw [← he] at c2
            generalize zs[k] = z at *
            clear he
            go_wp2
            go_quiet (fail)
            go_wp2
            go_roundw
            case rel => exact ⟨k + 1, by omega, by go_num, ⟨_, rfl⟩, Hn⟩
            case measure => simp [intOf] <;> omega
          · have hd : (zs[k] == ys[k]) = false := by simpa using he
            have hd2 : (zs[k] != ys[k]) = true := by simpa using he
            have Hd : Hid (decide (zs = ys) = false) := Lib.hid (by rw [decide_eq_false_iff_not]; intro e; subst e; exact he rfl)
            clear he
            generalize zs[k] = z at *
            generalize ys[k] = y at *
            go_wp2
            go_quiet (fail)
            go_wp2
            go_ret
            exact ⟨ret_bool Hd.out.symm, by (repeat (first | exact Below.refl _ _ | refine below_drew' ?_ | refine below_drewN' ?_ _ | refine below_alloc' ?_ _ | refine below_set' ?_ (by (try simp); (try omega)) _ | refine below_step ?_ (by assumption)))⟩
        · obtain rfl : k = zs.length := by omega
          have Hz : Hid (zs = ys) := Lib.hid (by have := HT.out; rw [List.take_length, Hne.out, List.take_length] at this; exact this)
          go_wp2
          go_ret
          exact ⟨ret_bool (by simp [Hz.out]), by (repeat (first | exact Below.refl _ _ | refine below_drew' ?_ | refine below_drewN' ?_ _ | refine below_alloc' ?_ _ | refine below_set' ?_ (by (try simp); (try omega)) _ | refine below_step ?_ (by assumption)))⟩
  · have hne' : ((zs.length : Int) == (ys.length : Int)) = false := by simp; omega
    have hnb : ((zs.length : Int) != (ys.length : Int)) = true := by simp; omega
    have Hd : Hid (decide (zs = ys) = false) := Lib.hid (by rw [decide_eq_false_iff_not]; intro e; subst e; exact hne rfl)
    clear hne
    go_enter Tryd.func56, Tryd.ntmps56
    go_wp2
    go_ret
    exact ⟨ret_bool Hd.out.symm, by (repeat (first | exact Below.refl _ _ | refine below_drew' ?_ | refine below_drewN' ?_ _ | refine below_alloc' ?_ _ | refine below_set' ?_ (by (try simp); (try omega)) _ | refine below_step ?_ (by assumption)))⟩


set_option maxRecDepth 100000 in
set_option maxHeartbeats 1000000 in
theorem permutationAt_calls (d k : Nat) (hd : d = 2 ∨ d = 3) (hk : k < cN d) (w : World) (hT : TabsAt w) :
    Calls Tryd.prog 77 #[.int .i64 d, .int .i64 k] w fun e w' => e = .returned (.agg (u8s (pRow d k))) ∧ Below w.heap.size w w' := by
  have hz : (Tryd.prog.info? 54).map (fun i => (i.zero, i.size)) = some (some (.agg (u8s [0, 0, 0])), 3) := by kernel_rfl
  have hz0 := (zero_of_info hz).1
  have hsz := Lib.hid (zero_of_info hz).2
  have hR : Blk (w.alloc (.cells (u8s [0, 0, 0]) 54)) w.heap.size (u8s [0, 0, 0]) 54 := Blk.new _ _ _
  have hbw : Below w.heap.size w (w.alloc (.cells (u8s [0, 0, 0]) 54)) := by (repeat (first | exact Below.refl _ _ | refine below_drew' ?_ | refine below_drewN' ?_ _ | refine below_alloc' ?_ _ | refine below_set' ?_ (by (try simp); (try omega)) _ | refine below_step ?_ (by assumption)))
  have hT1 := hT.below hbw
  clear hz hT
  rcases hd with rfl | rfl
  · obtain rfl | rfl : k = 0 ∨ k = 1 := by simp [cN] at hk; omega
    · have c0 : (w.alloc (.cells (u8s [0, 0, 0]) 54)).cell? ⟨0, 0, none⟩ = some (.int .u8 0) := hT1.1 0 0 (by omega) (by omega)
      have c1 : (w.alloc (.cells (u8s [0, 0, 0]) 54)).cell? ⟨0, 1, none⟩ = some (.int .u8 1) := hT1.1 0 1 (by omega) (by omega)
      have c2 : (w.alloc (.cells (u8s [0, 0, 0]) 54)).cell? ⟨0, 2, none⟩ = some (.int .u8 2) := hT1.1 0 2 (by omega) (by omega)
      have Hs3 : Hid ((Tryd.prog.info? 54).map (·.size) = some (#[.int .u8 0, .int .u8 1, .int .u8 2] : Array Value).size) := Lib.hid hsz.out
      have H13 : Hid ((#[.int .u8 0, .int .u8 1, .int .u8 2] : Array Value).all (·.oneCell') = true) := Lib.hid (u8s_one [0, 1, 2])
      have Hf3 : Hid (0 + (#[.int .u8 0, .int .u8 1, .int .u8 2] : Array Value).size ≤ (u8s [0, 0, 0]).size) := Lib.hid (Nat.le_refl 3)
      have Ho : Hid (over (u8s [0, 0, 0]) 0 #[.int .u8 0, .int .u8 1, .int .u8 2] = u8s (pRow 2 0)) := Lib.hid rfl
      clear hT1
      go_enter Tryd.func77, Tryd.ntmps77
      go_wp2_with (with_reducible show wpList _ _ _ _ _ _; refine wpList_store_row rfl 54 _ _ rfl w.heap.size 0 #[.int .u8 0, .int .u8 1, .int .u8 2] rfl rfl _ _ hR Hf3.out Hs3.out H13.out _ Ho.out ?_; intro w3 hs3)
      exact bodyPost_cell rfl rfl hs3.blk Tryd.underlying54 rfl Hs3.out rfl ⟨rfl, hs3.below _ _ (Nat.le_refl _) hbw⟩
    · have c0 : (w.alloc (.cells (u8s [0, 0, 0]) 54)).cell? ⟨0, 3, none⟩ = some (.int .u8 1) := hT1.1 1 0 (by omega) (by omega)
      have c1 : (w.alloc (.cells (u8s [0, 0, 0]) 54)).cell? ⟨0, 4, none⟩ = some (.int .u8 0) := hT1.1 1 1 (by omega) (by omega)
      have c2 : (w.alloc (.cells (u8s [0, 0, 0]) 54)).cell? ⟨0, 5, none⟩ = some (.int .u8 2) := hT1.1 1 2 (by omega) (by omega)
      have Hs3 : Hid ((Tryd.prog.info? 54).map (·.size) = some (#[.int .u8 1, .int .u8 0, .int .u8 2] : Array Value).size) := Lib.hid hsz.out
      have H13 : Hid ((#[.int .u8 1, .int .u8 0, .int .u8 2] : Array Value).all (·.oneCell') = true) := Lib.hid (u8s_one [1, 0, 2])
      have Hf3 : Hid (0 + (#[.int .u8 1, .int .u8 0, .int .u8 2] : Array Value).size ≤ (u8s [0, 0, 0]).size) := Lib.hid (Nat.le_refl 3)
      have Ho : Hid (over (u8s [0, 0, 0]) 0 #[.int .u8 1, .int .u8 0, .int .u8 2] = u8s (pRow 2 1)) := Lib.hid rfl
      clear hT1
      go_enter Tryd.func77, Tryd.ntmps77
      go_wp2_with (with_reducible show wpList _ _ _ _ _ _; refine wpList_store_row rfl 54 _ _ rfl w.heap.size 0 #[.int .u8 1, .int .u8 0, .int .u8 2] rfl rfl _ _ hR Hf3.out Hs3.out H13.out _ Ho.out ?_; intro w3 hs3)
      exact bodyPost_cell rfl rfl hs3.blk Tryd.underlying54 rfl Hs3.out rfl ⟨rfl, hs3.below _ _ (Nat.le_refl _) hbw⟩
  · obtain rfl | rfl | rfl | rfl | rfl | rfl : k = 0 ∨ k = 1 ∨ k = 2 ∨ k = 3 ∨ k = 4 ∨ k = 5 := by simp [cN] at hk; omega
    · have c0 : (w.alloc (.cells (u8s [0, 0, 0]) 54)).cell? ⟨1, 0, none⟩ = some (.int .u8 0) := hT1.2 0 0 (by omega) (by omega)
      have c1 : (w.alloc (.cells (u8s [0, 0, 0]) 54)).cell? ⟨1, 1, none⟩ = some (.int .u8 1) := hT1.2 0 1 (by omega) (by omega)
      have c2 : (w.alloc (.cells (u8s [0, 0, 0]) 54)).cell? ⟨1, 2, none⟩ = some (.int .u8 2) := hT1.2 0 2 (by omega) (by omega)
      have Hs3 : Hid ((Tryd.prog.info? 54).map (·.size) = some (#[.int .u8 0, .int .u8 1, .int .u8 2] : Array Value).size) := Lib.hid hsz.out
      have H13 : Hid ((#[.int .u8 0, .int .u8 1, .int .u8 2] : Array Value).all (·.oneCell') = true) := Lib.hid (u8s_one [0, 1, 2])
      have Hf3 : Hid (0 + (#[.int .u8 0, .int .u8 1, .int .u8 2] : Array Value).size ≤ (u8s [0, 0, 0]).size) := Lib.hid (Nat.le_refl 3)
      have Ho : Hid (over (u8s [0, 0, 0]) 0 #[.int .u8 0, .int .u8 1, .int .u8 2] = u8s (pRow 3 0)) := Lib.hid rfl
      clear hT1
      go_enter Tryd.func77, Tryd.ntmps77
      go_wp2_with (with_reducible show wpList _ _ _ _ _ _; refine wpList_store_row rfl 54 _ _ rfl w.heap.size 0 #[.int .u8 0, .int .u8 1, .int .u8 2] rfl rfl _ _ hR Hf3.out Hs3.out H13.out _ Ho.out ?_; intro w3 hs3)
      exact bodyPost_cell rfl rfl hs3.blk Tryd.underlying54 rfl Hs3.out rfl ⟨rfl, hs3.below _ _ (Nat.le_refl _) hbw⟩
    · have c0 : (w.alloc (.cells (u8s [0, 0, 0]) 54)).cell? ⟨1, 3, none⟩ = some (.int .u8 0) := hT1.2 1 0 (by omega) (by omega)
      have c1 : (w.alloc (.cells (u8s [0, 0, 0]) 54)).cell? ⟨1, 4, none⟩ = some (.int .u8 2) := hT1.2 1 1 (by omega) (by omega)
      have c2 : (w.alloc (.cells (u8s [0, 0, 0]) 54)).cell? ⟨1, 5, none⟩ = some (.int .u8 1) := hT1.2 1 2 (by omega) (by omega)
      have Hs3 : Hid ((Tryd.prog.info? 54).map (·.size) = some (#[.int .u8 0, .int .u8 2, .int .u8 1] : Array Value).size) := Lib.hid hsz.out
      have H13 : Hid ((#[.int .u8 0, .int .u8 2, .int .u8 1] : Array Value).all (·.oneCell') = true) := Lib.hid (u8s_one [0, 2, 1])
      have Hf3 : Hid (0 + (#[.int .u8 0, .int .u8 2, .int .u8 1] : Array Value).size ≤ (u8s [0, 0, 0]).size) := Lib.hid (Nat.le_refl 3)
      have Ho : Hid (over (u8s [0, 0, 0]) 0 #[.int .u8 0, .int .u8 2, .int .u8 1] = u8s (pRow 3 1)) := Lib.hid rfl
      clear hT1
      go_enter Tryd.func77, Tryd.ntmps77
      go_wp2_with (with_reducible show wpList _ _ _ _ _ _; refine wpList_store_row rfl 54 _ _ rfl w.heap.size 0 #[.int .u8 0, .int .u8 2, .int .u8 1] rfl rfl _ _ hR Hf3.out Hs3.out H13.out _ Ho.out ?_; intro w3 hs3)
      exact bodyPost_cell rfl rfl hs3.blk Tryd.underlying54 rfl Hs3.out rfl ⟨rfl, hs3.below _ _ (Nat.le_refl _) hbw⟩
    · have c0 : (w.alloc (.cells (u8s [0, 0, 0]) 54)).cell? ⟨1, 6, none⟩ = some (.int .u8 1) := hT1.2 2 0 (by omega) (by omega)
      have c1 : (w.alloc (.cells (u8s [0, 0, 0]) 54)).cell? ⟨1, 7, none⟩ = some (.int .u8 0) := hT1.2 2 1 (by omega) (by omega)
      have c2 : (w.alloc (.cells (u8s [0, 0, 0]) 54)).cell? ⟨1, 8, none⟩ = some (.int .u8 2) := hT1.2 2 2 (by omega) (by omega)
      have Hs3 : Hid ((Tryd.prog.info? 54).map (·.size) = some (#[.int .u8 1, .int .u8 0, .int .u8 2] : Array Value).size) := Lib.hid hsz.out
      have H13 : Hid ((#[.int .u8 1, .int .u8 0, .int .u8 2] : Array Value).all (·.oneCell') = true) := Lib.hid (u8s_one [1, 0, 2])
      have Hf3 : Hid (0 + (#[.int .u8 1, .int .u8 0, .int .u8 2] : Array Value).size ≤ (u8s [0, 0, 0]).size) := Lib.hid (Nat.le_refl 3)
      have Ho : Hid (over (u8s [0, 0, 0]) 0 #[.int .u8 1, .int .u8 0, .int .u8 2] = u8s (pRow 3 2)) := Lib.hid rfl
      clear hT1
      go_enter Tryd.func77, Tryd.ntmps77
      go_wp2_with (with_reducible show wpList _ _ _ _ _ _; refine wpList_store_row rfl 54 _ _ rfl w.heap.size 0 #[.int .u8 1, .int .u8 0, .int .u8 2] rfl rfl _ _ hR Hf3.out Hs3.out H13.out _ Ho.out ?_; intro w3 hs3)
      exact bodyPost_cell rfl rfl hs3.blk Tryd.underlying54 rfl Hs3.out rfl ⟨rfl, hs3.below _ _ (Nat.le_refl _) hbw⟩
    · have c0 : (w.alloc (.cells (u8s [0, 0, 0]) 54)).cell? ⟨1, 9, none⟩ = some (.int .u8 1) := hT1.2 3 0 (by omega) (by omega)
      have c1 : (w.alloc (.cells (u8s [0, 0, 0]) 54)).cell? ⟨1, 10, none⟩ = some (.int .u8 2) := hT1.2 3 1 (by omega) (by omega)
      have c2 : (w.alloc (.cells (u8s [0, 0, 0]) 54)).cell? ⟨1, 11, none⟩ = some (.int .u8 0) := hT1.2 3 2 (by omega) (by omega)
      have Hs3 : Hid ((Tryd.prog.info? 54).map (·.size) = some (#[.int .u8 1, .int .u8 2, .int .u8 0] : Array Value).size) := Lib.hid hsz.out
      have H13 : Hid ((#[.int .u8 1, .int .u8 2, .int .u8 0] : Array Value).all (·.oneCell') = true) := Lib.hid (u8s_one [1, 2, 0])
      have Hf3 : Hid (0 + (#[.int .u8 1, .int .u8 2, .int .u8 0] : Array Value).size ≤ (u8s [0, 0, 0]).size) := Lib.hid (Nat.le_refl 3)
      have Ho : Hid (over (u8s [0, 0, 0]) 0 #[.int .u8 1, .int .u8 2, .int .u8 0] = u8s (pRow 3 3)) := Lib.hid rfl
      clear hT1
      go_enter Tryd.func77, Tryd.ntmps77
      go_wp2_with (with_reducible show wpList _ _ _ _ _ _; refine wpList_store_row rfl 54 _ _ rfl w.heap.size 0 #[.int .u8 1, .int .u8 2, .int .u8 0] rfl rfl _ _ hR Hf3.out Hs3.out H13.out _ Ho.out ?_; intro w3 hs3)
      exact bodyPost_cell rfl rfl hs3.blk Tryd.underlying54 rfl Hs3.out rfl ⟨rfl, hs3.below _ _ (Nat.le_refl _) hbw⟩
    · have c0 : (w.alloc (.cells (u8s [0, 0, 0]) 54)).cell? ⟨1, 12, none⟩ = some (.int .u8 2) := hT1.2 4 0 (by omega) (by omega)
      have c1 : (w.alloc (.cells (u8s [0, 0, 0]) 54)).cell? ⟨1, 13, none⟩ = some (.int .u8 0) := hT1.2 4 1 (by omega) (by omega)
      have c2 : (w.alloc (.cells (u8s [0, 0, 0]) 54)).cell? ⟨1, 14, none⟩ = some (.int .u8 1) := hT1.2 4 2 (by omega) (by omega)
      have Hs3 : Hid ((Tryd.prog.info? 54).map (·.size) = some (#[.int .u8 2, .int .u8 0, .int .u8 1] : Array Value).size) := Lib.hid hsz.out
      have H13 : Hid ((#[.int .u8 2, .int .u8 0, .int .u8 1] : Array Value).all (·.oneCell') = true) := Lib.hid (u8s_one [2, 0, 1])
      have Hf3 : Hid (0 + (#[.int .u8 2, .int .u8 0, .int .u8 1] : Array Value).size ≤ (u8s [0, 0, 0]).size) := Lib.hid (Nat.le_refl 3)
      have Ho : Hid (over (u8s [0, 0, 0]) 0 #[.int .u8 2, .int .u8 0, .int .u8 1] = u8s (pRow 3 4)) := Lib.hid rfl
      clear hT1
      go_enter Tryd.func77, Tryd.ntmps77
      go_wp2_with (with_reducible show wpList _ _ _ _ _ _; refine wpList_store_row rfl 54 _ _ rfl w.heap.size 0 #[.int .u8 2, .int .u8 0, .int .u8 1] rfl rfl _ _ hR Hf3.out Hs3.out H13.out _ Ho.out ?_; intro w3 hs3)
      exact bodyPost_cell rfl rfl hs3.blk Tryd.underlying54 rfl Hs3.out rfl ⟨rfl, hs3.below _ _ (Nat.le_refl _) hbw⟩
    · have c0 : (w.alloc (.cells (u8s [0, 0, 0]) 54)).cell? ⟨1, 15, none⟩ = some (.int .u8 2) := hT1.2 5 0 (by omega) (by omega)
      have c1 : (w.alloc (.cells (u8s [0, 0, 0]) 54)).cell? ⟨1, 16, none⟩ = some (.int .u8 1) := hT1.2 5 1 (by omega) (by omega)
      have c2 : (w.alloc (.cells (u8s [0, 0, 0]) 54)).cell? ⟨1, 17, none⟩ = some (.int .u8 0) := hT1.2 5 2 (by omega) (by omega)
      have Hs3 : Hid ((Tryd.prog.info? 54).map (·.size) = some (#[.int .u8 2, .int .u8 1, .int .u8 0] : Array Value).size) := Lib.hid hsz.out
      have H13 : Hid ((#[.int .u8 2, .int .u8 1, .int .u8 0] : Array Value).all (·.oneCell') = true) := Lib.hid (u8s_one [2, 1, 0])
      have Hf3 : Hid (0 + (#[.int .u8 2, .int .u8 1, .int .u8 0] : Array Value).size ≤ (u8s [0, 0, 0]).size) := Lib.hid (Nat.le_refl 3)
      have Ho : Hid (over (u8s [0, 0, 0]) 0 #[.int .u8 2, .int .u8 1, .int .u8 0] = u8s (pRow 3 5)) := Lib.hid rfl
      clear hT1
      go_enter Tryd.func77, Tryd.ntmps77
      go_wp2_with (with_reducible show wpList _ _ _ _ _ _; refine wpList_store_row rfl 54 _ _ rfl w.heap.size 0 #[.int .u8 2, .int .u8 1, .int .u8 0] rfl rfl _ _ hR Hf3.out Hs3.out H13.out _ Ho.out ?_; intro w3 hs3)
      exact bodyPost_cell rfl rfl hs3.blk Tryd.underlying54 rfl Hs3.out rfl ⟨rfl, hs3.below _ _ (Nat.le_refl _) hbw⟩

set_option maxRecDepth 100000 in
set_option maxHeartbeats 1000000 in
theorem images_calls (row : List Int) (hr : row.length = 3) (hb : ∀ j, j < 3 → 0 ≤ row.getD j 0 ∧ row.getD j 0 ≤ 2) (d : Nat) (hd : d ≤ 3) (w : World) :
    Calls Tryd.prog 71 #[.agg (u8s row), .int .i64 d] w fun e w' => ∃ v, e = .returned v ∧ OwnI w' w.heap.size v (fillP (rowF row) d d) ∧ Below w.heap.size w w' := by
  have hmk := mk_ints d (by omega)
  have hB0 : Blk ((w.alloc (.cells (u8s row) 54)).alloc (.cells (ints (List.replicate d 0)) 2)) w.heap.size (u8s row) 54 := (Blk.new w _ _).alloc _
  have hN0 : Blk ((w.alloc (.cells (u8s row) 54)).alloc (.cells (ints (List.replicate d 0)) 2)) (w.heap.size + 1) (ints (List.replicate d 0)) 2 := Blk.new_at _ _ _ _ (by simp)
  have hbw0 : Below w.heap.size w ((w.alloc (.cells (u8s row) 54)).alloc (.cells (ints (List.replicate d 0)) 2)) := by (repeat (first | exact Below.refl _ _ | refine below_drew' ?_ | refine below_drewN' ?_ _ | refine below_alloc' ?_ _ | refine below_set' ?_ (by (try simp); (try omega)) _ | refine below_step ?_ (by assumption)))
  have Hb := Lib.hid hb
  have Hr := Lib.hid hr
  clear hb hr
  go_enter Tryd.func71, Tryd.ntmps71
  go_wp2
  go_loopw [11] (fun i wr => ∃ k : Nat, k ≤ d ∧ i = .int .i64 k ∧ Blk wr w.heap.size (u8s row) 54 ∧ Blk wr (w.heap.size + 1) (ints (fillP (rowF row) d k)) 2 ∧ Below w.heap.size w wr) (fun i _ => d - (intOf i).toNat)
  case atStart => exact ⟨0, by omega, rfl, hB0, by rw [fillP_zero]; exact hN0, hbw0⟩
  case round =>
    clear hB0 hN0 hbw0 hmk
    obtain ⟨k, hk, rfl, hB, hN, hbw⟩ := hrel
    by_cases hlt : k < d
    · have hki : (k : Int) < d := by omega
      have hk3 : (k : Int) < 3 := by omega
      have e1 := u8s_at row k (by rw [Hr.out]; omega)
      have hbd := Hb.out k (by omega)
      have e2 := fillP_at (rowF row) d k k hlt
      rw [if_neg (by omega)] at e2
      have Hset := Lib.hid (fillP_set (rowF row) d k (row.getD k 0) rfl)
      generalize row.getD k 0 = z at *
      have cB := hB.cell
      have cN := hN.cell
      have fN := hN.free
      have hN1 := hN.set k (.int .i64 z)
      rw [← ints_set, Hset.out] at hN1
      have hB1 := hB.setOther (w.heap.size + 1) k (.int .i64 z) (by omega)
      have hbw1 := below_set' (o := k) hbw (b := w.heap.size + 1) (by omega) (.int .i64 z)
      clear Hset
      go_wp2
      go_roundw
      case rel => exact ⟨k + 1, by omega, by go_num, hB1, hN1, hbw1⟩
      case measure => simp [intOf] <;> omega
    · obtain rfl : k = d := by omega
      go_wp2
      go_ret
      exact ⟨_, rfl, OwnI.made (fillP_len _ _ _) (by unfold maxLen; omega) (by omega) hN, hbw⟩

theorem pnF_find (zs : List Int) (d : Nat) (hd : d = 2 ∨ d = 3) (hl : zs.length = d) : pnF zs = (List.range (cN d)).find? fun k => decide (pTabR d k = zs) := by
  unfold pnF; rw [hl, if_pos hd]
theorem pnF_some (zs : List Int) (d k : Nat) (hd : d = 2 ∨ d = 3) (hl : zs.length = d) (hk : k < cN d) (h : pTabR d k = zs) (hno : ∀ j, j < k → pTabR d j ≠ zs) : pnF zs = some k := by
  rw [pnF_find zs d hd hl, List.find?_range_eq_some]
  exact ⟨by simpa using h, by simpa using hk, fun j hj => by simpa using hno j hj⟩
theorem pnF_none (zs : List Int) (d : Nat) (hd : d = 2 ∨ d = 3) (hl : zs.length = d) (hno : ∀ j, j < cN d → pTabR d j ≠ zs) : pnF zs = none := by
  rw [pnF_find zs d hd hl, List.find?_eq_none]
  intro j hj
  simpa using hno j (by simpa using hj)
theorem ret_ii {a b c d : Int} (h1 : a = c) (h2 : b = d) : Ending.returned (.tuple #[.int .i64 a, .int .i64 b]) = Ending.returned (.tuple #[.int .i64 c, .int .i64 d]) := by rw [h1, h2]

set_option maxRecDepth 100000 in
set_option maxHeartbeats 1000000 in
theorem iPermutationNumber_calls (v : Value) (zs : List Int) (w : World) (hv : SeesI w v zs) (hT : TabsAt w) :
    Calls Tryd.prog 54 #[v] w fun e w' => e = .returned (.tuple #[.int .i64 (pnN zs), .int .i64 (pnC zs)]) ∧ Below w.heap.size w w' := by
  have hln := hv.1
  unfold maxLen at hln
  obtain ⟨oa, ca, hve, _⟩ := hv.view
  subst hve
  by_cases hd : zs.length = 2 ∨ zs.length = 3
  · have ha : isAlpha (zs.length : Int) = true := by rw [isAlpha_iff]; omega
    obtain ⟨d, hdl⟩ : ∃ d, zs.length = d := ⟨_, rfl⟩
    rw [hdl] at hd ha
    have hd3 : d ≤ 3 := by omega
    have hcn : cN d ≤ 6 := by unfold cN; split <;> omega
    have Hsome := Lib.hid (fun k => pnF_some zs d k hd hdl)
    have Hnone := Lib.hid (pnF_none zs d hd hdl)
    have Hv := Lib.hid hv
    have HT := Lib.hid hT
    have HC := Lib.hid (fun W => permutationCount_calls d hd W)
    have HA := Lib.hid (fun W => isAlphabet_calls (d : Int) W)
    rw [ha] at HA
    rw [cntP_cN] at HC
    clear hv hT ha
    rw [hdl] at Hv ⊢
    go_enter Tryd.func54, Tryd.ntmps54
    go_wp2_with (first | (go_at_call 66; refine (HA.out _).mono ?_; rintro e w' ⟨rfl, rfl⟩) | (go_at_call 83; refine (HC.out _).mono ?_; rintro e w' ⟨rfl, rfl⟩))
    have hbw0 : Below w.heap.size w w := Below.refl _ _
    go_loopw [13] (fun i wr => ∃ k : Nat, k ≤ cN d ∧ i = .int .i64 k ∧ Below w.heap.size w wr ∧ Hid (∀ j, j < k → pTabR d j ≠ zs)) (fun i _ => cN d - (intOf i).toNat)
    case atStart => exact ⟨0, by omega, rfl, hbw0, Lib.hid (fun j hj => absurd hj (by omega))⟩
    case round =>
      clear hbw0
      obtain ⟨k, hk, rfl, hbw, HN⟩ := hrel
      by_cases hlt : k < cN d
      · have hki : (k : Int) < cN d := by omega
        have hT1 := HT.out.below hbw
        have hv1 := Hv.out.below hbw
        obtain ⟨r1, r2⟩ := pRow_ok d k hd hlt
        have HP := Lib.hid (permutationAt_calls d k hd hlt wr hT1)
        have HI := Lib.hid (fun W => images_calls (pRow d k) r1 r2 d hd3 W)
        have HE : Hid (fillP (rowF (pRow d k)) d d = pTabR d k) := Lib.hid rfl
        rw [HE.out] at HI
        clear HE r1 r2 hT1
        by_cases hq : pTabR d k = zs
        · have Hs := Lib.hid (Hsome.out k hlt hq HN.out)
          have Hq := Lib.hid hq; clear hq
          generalize pTabR d k = row at *
          generalize u8s (pRow d k) = ur at *
          go_wp2_with (first | (go_at_call 77; refine HP.out.mono ?_; rintro e w1 ⟨rfl, hb1⟩; have hv2 := hv1.below hb1; have hbw1 := below_step hbw hb1) | (go_at_call 71; refine (HI.out _).mono ?_; rintro e w2 ⟨v2, rfl, hO2, hb2⟩; have hv3 := hv2.below hb2; have hbw2 := below_step hbw1 hb2) | (go_at_call 56; refine (slicesEqual_calls _ _ row zs _ hO2.sees hv3).mono ?_; rintro e w3 ⟨rfl, hb3⟩; rw [show decide (row = zs) = true by simpa using Hq.out]; have hbw3 := below_step hbw2 hb3))
          go_ret2
          exact ⟨ret_ii (by unfold pnN; rw [Hs.out]) (by unfold pnC; rw [Hs.out]), hbw3⟩
        · have Hq := Lib.hid hq
          have HN' : Hid (∀ j, j < k + 1 → pTabR d j ≠ zs) := Lib.hid (fun j hj => by
            rcases Nat.lt_or_ge j k with h1 | h1
            · exact HN.out j h1
            · obtain rfl : j = k := by omega
              exact Hq.out)
          clear hq
          generalize pTabR d k = row at *
          generalize u8s (pRow d k) = ur at *
          go_wp2_with (first | (go_at_call 77; refine HP.out.mono ?_; rintro e w1 ⟨rfl, hb1⟩; have hv2 := hv1.below hb1; have hbw1 := below_step hbw hb1) | (go_at_call 71; refine (HI.out _).mono ?_; rintro e w2 ⟨v2, rfl, hO2, hb2⟩; have hv3 := hv2.below hb2; have hbw2 := below_step hbw1 hb2) | (go_at_call 56; refine (slicesEqual_calls _ _ row zs _ hO2.sees hv3).mono ?_; rintro e w3 ⟨rfl, hb3⟩; rw [show decide (row = zs) = false by simpa using Hq.out]; have hbw3 := below_step hbw2 hb3))
          go_roundw
          case rel => exact ⟨k + 1, by omega, by go_num, hbw3, HN'⟩
          case measure => simp [intOf] <;> omega
      · have hkc : k = cN d := by omega
        have Hs := Lib.hid (Hnone.out (fun j hj => HN.out j (by omega)))
        go_wp2
        go_ret2
        exact ⟨ret_ii (by unfold pnN; rw [Hs.out]) (by unfold pnC; rw [Hs.out]), hbw⟩
  · have ha : isAlpha (zs.length : Int) = false := by
      rw [← Bool.not_eq_true, isAlpha_iff]; omega
    have Hs : Hid (pnF zs = none) := Lib.hid (by unfold pnF; rw [if_neg hd])
    have HA := Lib.hid (fun W => isAlphabet_calls (zs.length : Int) W)
    rw [ha] at HA
    clear ha hd hv hT
    go_enter Tryd.func54, Tryd.ntmps54
    go_wp2_with (go_at_call 66; refine (HA.out _).mono ?_; rintro e w' ⟨rfl, rfl⟩)
    go_ret2
    exact ⟨ret_ii (by unfold pnN; rw [Hs.out]) (by unfold pnC; rw [Hs.out]), by (repeat (first | exact Below.refl _ _ | refine below_drew' ?_ | refine below_drewN' ?_ _ | refine below_alloc' ?_ _ | refine below_set' ?_ (by (try simp); (try omega)) _ | refine below_step ?_ (by assumption)))⟩
end Go.Proofs.YtgeihpaealomkaaDoor
