/- 'IsPortrait': sizes. -/
import Derived.Test.YticnpajbefflbadDoorWordD
import Derived.Test.YticnpajbefflbadDoorArgs
namespace Go.Proofs.YticnpajbefflbadDoor
open Go.RowKit

/-- How many words of less than n letters there are. -/
def sumP (d : Nat) : Nat → Int
  | 0 => 0
  | n + 1 => sumP d n + pw d n
theorem sumP_bd (d : Nat) (hd : d ≤ 3) : ∀ n, n ≤ 5 → 0 ≤ sumP d n ∧ sumP d n ≤ 243 * n
  | 0, _ => by simp [sumP]
  | n + 1, hn => by
    have h1 := sumP_bd d hd n (by omega)
    have h2 := pw_bd d n hd (by omega)
    simp only [sumP]; omega
def cntP (d : Nat) : Int := if d = 2 then 2 else 6
def entP (d : Nat) (zs : List Int) (k : Nat) : Bool := (zs.take k).all fun z => decide (0 ≤ z) && decide (z < cntP d)

set_option maxRecDepth 100000 in
set_option maxHeartbeats 1000000 in
theorem portraitSize_calls (d n : Nat) (hd : d ≤ 3) (hn : n ≤ 4) (w : World) :
    Calls Tryd.prog 34 #[.int .i64 d, .int .i64 n] w fun e w' => e = .returned (.int .i64 (sumP d n)) ∧ w = w' := by
  go_enter Tryd.func34, Tryd.ntmps34
  go_wp2
  go_loop [5, 8] (fun s i => ∃ k : Nat, k ≤ n ∧ i = .int .i64 k ∧ s = .int .i64 (sumP d k)) (fun _ i => n - (intOf i).toNat)
  case atStart => exact ⟨0, Nat.zero_le _, rfl, rfl⟩
  case round =>
    obtain ⟨k, hk, rfl, rfl⟩ := hrel
    obtain ⟨hm0, hm1⟩ := sumP_bd d hd k (by omega)
    obtain ⟨hp0, hp1⟩ := pw_bd d k hd (by omega)
    by_cases hlt : k < n
    · have hkn : (k : Int) < n := by omega
      go_wp2_with (go_at_call 37; refine (levelSize_calls d k hd (by omega) _).mono ?_; rintro e w' ⟨rfl, rfl⟩)
      go_round
      case rel => exact ⟨k + 1, by omega, by go_num, by rw [sumP]⟩
      case measure => simp [intOf] <;> omega
    · go_wp2
      go_ret
      obtain rfl : k = n := by omega
      exact ⟨rfl, rfl⟩
set_option maxRecDepth 100000 in
set_option maxHeartbeats 1000000 in
theorem l03Start_calls (d n : Nat) (hd : d ≤ 3) (hn : n ≤ 4) (w : World) :
    Calls Tryd.prog 30 #[.int .i64 d, .int .i64 n] w fun e w' => e = .returned (.int .i64 (sumP d n)) ∧ w = w' := by
  go_enter Tryd.func30, Tryd.ntmps30
  go_wp2
  go_loop [5, 6] (fun s i => ∃ k : Nat, k ≤ n ∧ i = .int .i64 k ∧ s = .int .i64 (sumP d k)) (fun _ i => n - (intOf i).toNat)
  case atStart => exact ⟨0, Nat.zero_le _, rfl, rfl⟩
  case round =>
    obtain ⟨k, hk, rfl, rfl⟩ := hrel
    obtain ⟨hm0, hm1⟩ := sumP_bd d hd k (by omega)
    obtain ⟨hp0, hp1⟩ := pw_bd d k hd (by omega)
    by_cases hlt : k < n
    · have hkn : (k : Int) < n := by omega
      go_wp2_with (go_at_call 17; refine (l01Power_calls d k hd (by omega) _).mono ?_; rintro e w' ⟨rfl, rfl⟩)
      go_round
      case rel => exact ⟨k + 1, by omega, by go_num, by rw [sumP]⟩
      case measure => simp [intOf] <;> omega
    · go_wp2
      go_ret
      obtain rfl : k = n := by omega
      exact ⟨rfl, rfl⟩
theorem entP_succ (d : Nat) (zs : List Int) (k : Nat) (hk : k < zs.length) : entP d zs (k + 1) = (entP d zs k && (decide (0 ≤ zs[k]) && decide (zs[k] < cntP d))) := by
  unfold entP
  rw [List.take_succ_eq_append_getElem hk, List.all_append]
  simp
theorem entP_no (d : Nat) (zs : List Int) (k : Nat) (hk : k < zs.length) (h : (decide (0 ≤ zs[k]) && decide (zs[k] < cntP d)) = false) : entP d zs zs.length = false := by
  unfold entP
  rw [List.take_length, List.all_eq_false]
  exact ⟨zs[k], List.getElem_mem hk, by rw [h]; simp⟩
set_option maxRecDepth 100000 in
theorem permutationCount_calls (d : Nat) (hd : d = 2 ∨ d = 3) (w : World) :
    Calls Tryd.prog 35 #[.int .i64 d] w fun e w' => e = .returned (.int .i64 (cntP d)) ∧ w = w' := by
  rcases hd with rfl | rfl
  · show Calls _ _ #[.int .i64 2] _ _
    go_enter Tryd.func35, Tryd.ntmps35
    go_wp2
    go_ret
    exact ⟨rfl, rfl⟩
  · show Calls _ _ #[.int .i64 3] _ _
    go_enter Tryd.func35, Tryd.ntmps35
    go_wp2
    go_ret
    exact ⟨rfl, rfl⟩
set_option maxRecDepth 100000 in
theorem l03Count_calls (d : Nat) (hd : d = 2 ∨ d = 3) (w : World) :
    Calls Tryd.prog 31 #[.int .i64 d] w fun e w' => e = .returned (.int .i64 (cntP d)) ∧ w = w' := by
  rcases hd with rfl | rfl
  · show Calls _ _ #[.int .i64 2] _ _
    go_enter Tryd.func31, Tryd.ntmps31
    go_wp2
    go_ret
    exact ⟨rfl, rfl⟩
  · show Calls _ _ #[.int .i64 3] _ _
    go_enter Tryd.func31, Tryd.ntmps31
    go_wp2
    go_ret
    exact ⟨rfl, rfl⟩
theorem sumP_pos (d n : Nat) (hd : d ≤ 3) (hn : n ≤ 4) (h1 : 1 ≤ n) : 1 ≤ sumP d n := by
  obtain ⟨m, rfl⟩ : ∃ m, n = m + 1 := ⟨n - 1, by omega⟩
  have h2 : ∀ m, m + 1 ≤ 5 → 1 ≤ sumP d (m + 1) := fun m => by
    induction m with
    | zero => intro _; simp [sumP, pw_zero]
    | succ m ih =>
      intro hm
      have := ih (by omega)
      have := pw_bd d (m + 1) hd (by omega)
      rw [sumP]; omega
  exact h2 m (by omega)
def isP (d n : Nat) (zs : List Int) : Bool := decide ((zs.length : Int) = sumP d n) && entP d zs zs.length

set_option maxRecDepth 100000 in
set_option maxHeartbeats 1000000 in
theorem isPortraitOf_calls (d n : Nat) (hd : d = 2 ∨ d = 3) (hn : n ≤ 4) (hn1 : 1 ≤ n) (v : Value) (zs : List Int) (w : World) (hv : SeesI w v zs) :
    Calls Tryd.prog 23 #[.int .i64 d, .int .i64 n, v] w fun e w' => e = .returned (.bool (isP d n zs)) ∧ Below w.heap.size w w' := by
  have hd3 : d ≤ 3 := by omega
  obtain ⟨oa, ca, rfl, hca⟩ := hv.view
  have hlen := hv.1
  unfold maxLen at hlen
  by_cases hl : (zs.length : Int) = sumP d n
  · have hlb : ((zs.length : Int) != sumP d n) = false := by simpa using hl
    have hpos := sumP_pos d n hd3 hn hn1
    obtain ⟨g, rfl, _, hca⟩ := hca (by omega)
    have Hca := Lib.hid hca; clear hca hv hpos
    have Hl := Lib.hid hl; clear hl
    go_enter Tryd.func23, Tryd.ntmps23
    go_wp2_with (go_at_call 34; refine (portraitSize_calls d n hd3 hn _).mono ?_; rintro e w' ⟨rfl, rfl⟩)
    go_loop [17] (fun i => ∃ k : Nat, k ≤ zs.length ∧ i = .int .i64 k ∧ Hid (entP d zs k = true)) (fun i => zs.length - (intOf i).toNat)
    case atStart => exact ⟨0, by omega, rfl, Lib.hid rfl⟩
    case round =>
      obtain ⟨k, hk, rfl, HE⟩ := hrel
      by_cases hlt : k < zs.length
      · have c1 := Hca.out k hlt
        have hki : (k : Int) < zs.length := by omega
        have Hs := Lib.hid (entP_succ d zs k hlt)
        have Hno := Lib.hid (entP_no d zs k hlt)
        generalize zs[k] = z at *
        by_cases h0 : z < 0
        · have Hr : Hid (isP d n zs = false) := Lib.hid (by unfold isP; rw [Hno.out (by simp; omega)]; simp)
          go_wp2
          go_ret
          exact ⟨ret_bool Hr.out.symm, Below.refl _ _⟩
        · by_cases h1 : z < cntP d
          · have h2 : ¬ (cntP d ≤ z) := by omega
            have Hn : Hid (entP d zs (k + 1) = true) := Lib.hid (by rw [Hs.out, HE.out]; simp; omega)
            go_wp2_with (go_at_call 35; refine (permutationCount_calls d hd _).mono ?_; rintro e w' ⟨rfl, rfl⟩)
            go_round
            case rel => exact ⟨k + 1, by omega, by go_num, Hn⟩
            case measure => simp [intOf] <;> omega
          · have h2 : cntP d ≤ z := by omega
            have Hr : Hid (isP d n zs = false) := Lib.hid (by unfold isP; rw [Hno.out (by simp; omega)]; simp)
            go_wp2_with (go_at_call 35; refine (permutationCount_calls d hd _).mono ?_; rintro e w' ⟨rfl, rfl⟩)
            go_ret
            exact ⟨ret_bool Hr.out.symm, Below.refl _ _⟩
      · have hkl : k = zs.length := by omega
        have Hr : Hid (isP d n zs = true) := Lib.hid (by have := HE.out; rw [hkl] at this; simp [isP, Hl.out, this])
        go_wp2
        go_ret
        exact ⟨ret_bool Hr.out.symm, Below.refl _ _⟩
  · have hlb : ((zs.length : Int) != sumP d n) = true := by simpa using hl
    have Hr : Hid (isP d n zs = false) := Lib.hid (by simp [isP, hl])
    clear hl
    go_enter Tryd.func23, Tryd.ntmps23
    go_wp2_with (go_at_call 34; refine (portraitSize_calls d n hd3 hn _).mono ?_; rintro e w' ⟨rfl, rfl⟩)
    go_ret
    exact ⟨ret_bool Hr.out.symm, Below.refl _ _⟩
end Go.Proofs.YticnpajbefflbadDoor
