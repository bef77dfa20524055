/- 'PermutationOfPortrait': the program and the model. -/
import Derived.Test.YticnpajbefflbadDoorLvI
namespace Go.Proofs.YticnpajbefflbadDoor
open Go.RowKit

def imgUp (d n : Nat) (zs : List Int) (k : Nat) : List Int := (List.range k).map fun j => imgS d zs (wordS d n j)
theorem imgUp_succ (d n : Nat) (zs : List Int) (k : Nat) : imgUp d n zs (k + 1) = imgUp d n zs k ++ [imgS d zs (wordS d n k)] := by simp [imgUp, List.range_succ]
theorem imgUp_all (d n : Nat) (zs : List Int) : imgUp d n zs (d ^ n) = imgsP d n zs := by simp [imgUp, imgsP, imgsF, wordsL, List.map_map, Function.comp_def]
theorem imgUp_len (d n : Nat) (zs : List Int) (k : Nat) : (imgUp d n zs k).length = k := by simp [imgUp]

set_option maxRecDepth 100000 in
set_option maxHeartbeats 1000000 in
theorem l03Permutation_calls (d n : Nat) (hd : d = 2 ∨ d = 3) (hn : n ≤ 4) (zs : List Int) (hP : isP d n zs = true) (v : Value) (w : World) (hv : SeesI w v zs) :
    Calls Tryd.prog 10 #[.int .i64 d, .int .i64 n, v] w fun e w' => ∃ v1, e = .returned v1 ∧ OwnI w' w.heap.size v1 (imgsP d n zs) ∧ Below w.heap.size w w' := by
  obtain ⟨oa, ca, hve, _⟩ := hv.view
  subst hve
  have Hv := Lib.hid hv
  have hpb := pow_le d n (by omega) (by omega)
  have HPw := Lib.hid (fun W => l01Power_calls d n (by omega) (by omega) W)
  rw [show pw d n = ((d ^ n : Nat) : Int) from rfl] at HPw
  have HW := Lib.hid (fun k (hk : k < d ^ n) W => l01WordOf_calls d hd n (n : Int) (k : Nat) W (by omega) (by omega) (by omega) (by omega) (by omega))
  have HA := Lib.hid (fun k W h => l03Act_calls d n hd hn zs hP (.slice oa zs.length ca) (wordS d n k) (by rw [(wordS_ok' d n k hd).1]; omega) (wordS_ok' d n k hd).2 W h)
  have HA2 := fun k => actS_ok d n hd hn zs hP (wordS d n k) (by rw [(wordS_ok' d n k hd).1]; exact Nat.le_refl _) (wordS_ok' d n k hd).2
  have HN := Lib.hid (fun k W => l01NumberOf_calls d (actS d zs (wordS d n k)) (by omega) (by rw [(HA2 k).1, (wordS_ok' d n k hd).1]; omega) (HA2 k).2 W)
  clear HA2
  have HU := Lib.hid (imgUp_succ d n zs)
  have Hln := Lib.hid (imgUp_len d n zs)
  have Hall := Lib.hid (imgUp_all d n zs)
  have hO0 : OwnI (w.alloc (.cells #[] 2)) w.heap.size (.slice (some ⟨w.heap.size, 0, none⟩) 0 0) [] := OwnI.empty w _ 0 #[] (Nat.le_refl _) (by unfold maxLen; omega) rfl
  have hbw0 : Below w.heap.size w (w.alloc (.cells #[] 2)) := by (repeat (first | exact Below.refl _ _ | refine below_drew' ?_ | refine below_drewN' ?_ _ | refine below_alloc' ?_ _ | refine below_set' ?_ (by (try simp); (try omega)) _ | refine below_step ?_ (by assumption)))
  clear hv hP
  generalize d ^ n = N at *
  go_enter Tryd.func10, Tryd.ntmps10
  go_wp2_with fail
  go_loopw [7, 8] (fun o i wr => ∃ k : Nat, k ≤ N ∧ i = .int .i64 k ∧ OwnI wr w.heap.size o (imgUp d n zs k) ∧ Below w.heap.size w wr) (fun _ i _ => N - (intOf i).toNat)
  case atStart => exact ⟨0, by omega, rfl, hO0, hbw0⟩
  case round =>
    clear hO0 hbw0
    obtain ⟨k, hk, rfl, hO, hbw⟩ := hrel
    by_cases hlt : k < N
    · have hki : (k : Int) < (N : Int) := by omega
      have HWk := Lib.hid (HW.out k hlt)
      rw [Int.toNat_natCast] at HWk
      have Hs1 := Lib.hid (HU.out k)
      have Hl := Lib.hid (Hln.out k)
      have HAk := Lib.hid (HA.out k)
      have HNk := Lib.hid (HN.out k)
      have hw : (⟨(wordOf d n k).toArray⟩ : ByteArray) = wordS d n k := rfl
      rw [hw] at HWk
      unfold imgS at Hs1
      clear HW HA HN HU Hln Hall
      generalize wordS d n k = x at *
      generalize numI d (actS d zs x).data.toList = z at *
      generalize actS d zs x = y at *
      go_wp2_with (first | (go_at_call 17; refine (HPw.out _).mono ?_; rintro e w' ⟨rfl, rfl⟩) | (go_at_call 20; refine (HWk.out _).mono ?_; rintro e w2 ⟨rfl, hb2⟩; have hO2 := hO.below hb2; have hbw2 := below_step hbw hb2) | (go_at_call 19; refine (HAk.out _ (Hv.out.below hbw2)).mono ?_; rintro e w3 ⟨rfl, hb3⟩; have hO3 := hO2.below hb3; have hbw3 := below_step hbw2 hb3) | (go_at_call 18; refine (HNk.out _).mono ?_; rintro e w' ⟨rfl, rfl⟩) | (at_builtin; refine wpList_push_int rfl (.tmp 17) (.tmp 27) rfl w.heap.size _ (imgUp d n zs k) rfl (hO3.below (Below.alloc (Below.refl _ _) (Nat.le_refl _) (.cells #[.int .i64 z] 2))) w3.heap.size 1 z rfl (Blk.new w3 _ _) (by rw [Hl.out]; omega) (by have := hbw3.size; simp; omega) ?_; intro v1 w4 hO4 hb4; have hbw4 := (hbw3.alloc hbw3.size (.cells #[.int .i64 z] 2)).trans hb4))
      rw [← Hs1.out] at hO4
      go_roundw
      case rel => exact ⟨k + 1, by omega, by go_num, hO4, hbw4⟩
      case measure => simp [intOf] <;> omega
    · obtain rfl : k = N := by omega
      go_wp2_with (go_at_call 17; refine (HPw.out _).mono ?_; rintro e w' ⟨rfl, rfl⟩)
      go_ret
      exact ⟨_, rfl, by rw [← Hall.out]; exact hO, hbw⟩

def pvR (d n : Int) (zs : List Int) : List Int := if codeP d n zs = 0 then imgsP d.toNat n.toNat zs else []
theorem pvR_len (d n : Int) (zs : List Int) : (pvR d n zs).length ≤ 100000 := by
  unfold pvR
  split
  · rename_i h
    obtain ⟨h1, h2, _⟩ := codeP_zero d n zs h
    rw [imgsP_len]
    exact Nat.le_trans (pow_le d.toNat n.toNat (by omega) (by omega)) (by omega)
  · simp
theorem ret_lw {v : Value} {i j : Int} (h : i = j) : Ending.returned (.tuple #[v, .int .i64 i]) = Ending.returned (.tuple #[v, .int .i64 j]) := by rw [h]

end Go.Proofs.YticnpajbefflbadDoor
