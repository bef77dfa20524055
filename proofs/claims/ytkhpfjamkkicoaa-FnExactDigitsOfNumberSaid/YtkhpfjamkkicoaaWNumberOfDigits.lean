/- 'NumberOfDigits': the model and the statement on it. -/
import Derived.Test.YtkhpfjamkkicoaaDig
namespace Go.Proofs.Ytkhpfjamkkicoaa
open Go.RowKit

theorem numI_mul30' (d : Nat) (l : List UInt8) (hd : d ≤ 3) (hl : l.length ≤ 30) (h : lettersL d l = true) (k : Nat) (hk : k ≤ l.length) : 0 ≤ (d : Int) * numI d (l.take k) ∧ (d : Int) * numI d (l.take k) ≤ 617673396283947 := by
  rw [Int.mul_comm]; exact numI_mul30 d l hd hl h k hk
theorem numI_step' (d : Nat) (l : List UInt8) (k : Nat) (h : k < l.length) (h48 : 48 ≤ l[k].toNat) : numI d (l.take (k + 1)) = (d : Int) * numI d (l.take k) + ((l[k].toNat : Int) - 48) := by
  rw [Int.mul_comm]; exact numI_step d l k h h48
theorem rev_at (s : ByteArray) (k j : Nat) (h : s.size = k + j + 1) (hk : k < s.data.toList.reverse.length) (hj : j < s.size) : s.data.toList.reverse[k] = s[j] := by
  have hs : s.data.toList.length = s.size := (size_list s).symm
  rw [List.getElem_reverse]
  have : s.data.toList.length - 1 - k = j := by omega
  simp only [this]; rfl

set_option maxRecDepth 100000 in
set_option maxHeartbeats 1000000 in
theorem sNDtwo (dn : Nat) (hd : dn ≤ 3) (had : isAlpha dn = true) (h2 : ((dn : Int) != 2) = false) (s : ByteArray) (hs : s.size ≤ 1048576) (w : World) :
    Calls Try.prog 17 #[.int .i64 dn, .string s] w fun e w' => e = .returned (.tuple #[.int .i64 (ndV dn s), .int .i64 (ndC dn s)]) ∧ Below w.heap.size w w' := by
  by_cases h40 : s.size ≤ 40
  · have hgt : ¬ ((40 : Int) < (s.size : Int)) := by omega
    cases hl : lettersL dn s.data.toList
    · have hw : wordB dn s = false := by simp [wordB, hl]
      have hc : ndC dn s = 1 := by simp [ndC, had, hw]
      have hv : ndV dn s = 0 := by simp [ndV, hc]
      have Hv := Lib.hid hv; have Hc := Lib.hid hc; clear hv hc had hw
      go_enter Try.func17, Try.ntmps17
      go_wp2_with (first | (go_at_call 31; refine (l01Letters_calls dn s (by omega) h40 _).mono ?_; rintro e w' ⟨rfl, rfl⟩))
      go_ret2
      exact ⟨ret_ii Hv.out.symm Hc.out.symm, by (repeat (first | exact Below.refl _ _ | refine below_drew' ?_ | refine below_drewN' ?_ _ | refine below_alloc' ?_ _ | refine below_set' ?_ (by (try simp); (try omega)) _ | refine below_step ?_ (by assumption)))⟩
    · have hw : wordB dn s = true := by simp [wordB, hl, h40]
      by_cases h5 : s.size ≤ 30
      · have hc : ndC dn s = 0 := by simp [ndC, had, hw]; omega
        have hv : ndV dn s = numI dn s.data.toList.reverse := by simp [ndV, hc]
        have hlr := letters_rev dn _ hl
        have hrl : s.data.toList.reverse.length = s.size := by rw [List.length_reverse]; exact (size_list s).symm
        have Hrl := Lib.hid hrl; have Hlr := Lib.hid hlr
        have Hv := Lib.hid hv; have Hc := Lib.hid hc; clear hv hc had hw hrl hlr
        have hgt30 : ¬ ((30 : Int) < (s.size : Int)) := by omega
        go_enter Try.func17, Try.ntmps17
        go_wp2_with (first | (go_at_call 31; refine (l01Letters_calls dn s (by omega) h40 _).mono ?_; rintro e w' ⟨rfl, rfl⟩))
        go_loop [6, 7] (fun v i => ∃ (k : Nat) (i0 : Int), k ≤ s.size ∧ i = .int .i64 i0 ∧ i0 = (s.size : Int) - k - 1 ∧ v = .int .i64 (numI dn (s.data.toList.reverse.take k))) (fun _ i => (intOf i + 1).toNat)
        case atStart => exact ⟨0, (s.size : Int) - 1, Nat.zero_le _, by go_num, by omega, by rw [numI_zero]⟩
        case round =>
          obtain ⟨k, i0, hk, rfl, hi0, rfl⟩ := hrel
          obtain ⟨hm0, hm1⟩ := numI_mul30' dn s.data.toList.reverse hd (by rw [Hrl.out]; exact h5) Hlr.out k (by rw [Hrl.out]; exact hk)
          by_cases hlt : k < s.size
          · obtain ⟨j, rfl⟩ : ∃ j : Nat, i0 = j := Int.eq_ofNat_of_zero_le (by omega)
            have hj : j < s.size := by omega
            have hlt' : k < s.data.toList.reverse.length := by rw [Hrl.out]; exact hlt
            have hat := lettersL_at Hlr.out k hlt'
            have hst := numI_step' dn s.data.toList.reverse k hlt' hat.1
            rw [rev_at s k j (by omega) hlt' hj] at hst hat
            obtain ⟨h48, h51⟩ := hat
            have Hst := Lib.hid hst; clear hst
            have Hjj := Lib.hid (show s.size - k - 1 = j by omega)
            have Hmod := Lib.hid (show ((s[j].toNat : Int) - 48) % 256 = (s[j].toNat : Int) - 48 from Int.emod_eq_of_lt (by omega) (by omega))
            go_wp2
            go_round
            case rel => exact ⟨k + 1, (j : Int) - 1, by omega, by go_num, by omega, by simp only [Hjj.out]; rw [Hst.out, Hmod.out]⟩
            case measure => simp [intOf] <;> omega
          · obtain rfl : i0 = -1 := by omega
            go_wp2
            go_ret2
            obtain rfl : k = s.size := by omega
            have hfin : numI dn (s.data.toList.reverse.take s.size) = ndV dn s := by
              rw [Hv.out]; have := numI_all dn s.data.toList.reverse; rw [Hrl.out] at this; exact this
            exact ⟨ret_ii hfin Hc.out.symm, by (repeat (first | exact Below.refl _ _ | refine below_drew' ?_ | refine below_drewN' ?_ _ | refine below_alloc' ?_ _ | refine below_set' ?_ (by (try simp); (try omega)) _ | refine below_step ?_ (by assumption)))⟩
      · have hgt30 : (30 : Int) < (s.size : Int) := by omega
        have hc : ndC dn s = 2 := by simp [ndC, had, hw]; omega
        have hv : ndV dn s = 0 := by simp [ndV, hc]
        have Hv := Lib.hid hv; have Hc := Lib.hid hc; clear hv hc had hw
        go_enter Try.func17, Try.ntmps17
        go_wp2_with (first | (go_at_call 31; refine (l01Letters_calls dn s (by omega) h40 _).mono ?_; rintro e w' ⟨rfl, rfl⟩))
        go_ret2
        exact ⟨ret_ii Hv.out.symm Hc.out.symm, by (repeat (first | exact Below.refl _ _ | refine below_drew' ?_ | refine below_drewN' ?_ _ | refine below_alloc' ?_ _ | refine below_set' ?_ (by (try simp); (try omega)) _ | refine below_step ?_ (by assumption)))⟩
  · have hgt : (40 : Int) < (s.size : Int) := by omega
    have hw : wordB dn s = false := by simp [wordB, h40]
    have hc : ndC dn s = 1 := by simp [ndC, had, hw]
    have hv : ndV dn s = 0 := by simp [ndV, hc]
    have Hv := Lib.hid hv; have Hc := Lib.hid hc; clear hv hc had hw
    go_enter Try.func17, Try.ntmps17
    go_wp2
    go_ret2
    exact ⟨ret_ii Hv.out.symm Hc.out.symm, by (repeat (first | exact Below.refl _ _ | refine below_drew' ?_ | refine below_drewN' ?_ _ | refine below_alloc' ?_ _ | refine below_set' ?_ (by (try simp); (try omega)) _ | refine below_step ?_ (by assumption)))⟩

set_option maxRecDepth 100000 in
set_option maxHeartbeats 1000000 in
theorem sNDthree (dn : Nat) (hd : dn ≤ 3) (had : isAlpha dn = true) (h2 : ((dn : Int) != 2) = true) (h3 : ((dn : Int) != 3) = false) (s : ByteArray) (hs : s.size ≤ 1048576) (w : World) :
    Calls Try.prog 17 #[.int .i64 dn, .string s] w fun e w' => e = .returned (.tuple #[.int .i64 (ndV dn s), .int .i64 (ndC dn s)]) ∧ Below w.heap.size w w' := by
  by_cases h40 : s.size ≤ 40
  · have hgt : ¬ ((40 : Int) < (s.size : Int)) := by omega
    cases hl : lettersL dn s.data.toList
    · have hw : wordB dn s = false := by simp [wordB, hl]
      have hc : ndC dn s = 1 := by simp [ndC, had, hw]
      have hv : ndV dn s = 0 := by simp [ndV, hc]
      have Hv := Lib.hid hv; have Hc := Lib.hid hc; clear hv hc had hw
      go_enter Try.func17, Try.ntmps17
      go_wp2_with (first | (go_at_call 31; refine (l01Letters_calls dn s (by omega) h40 _).mono ?_; rintro e w' ⟨rfl, rfl⟩))
      go_ret2
      exact ⟨ret_ii Hv.out.symm Hc.out.symm, by (repeat (first | exact Below.refl _ _ | refine below_drew' ?_ | refine below_drewN' ?_ _ | refine below_alloc' ?_ _ | refine below_set' ?_ (by (try simp); (try omega)) _ | refine below_step ?_ (by assumption)))⟩
    · have hw : wordB dn s = true := by simp [wordB, hl, h40]
      by_cases h5 : s.size ≤ 30
      · have hc : ndC dn s = 0 := by simp [ndC, had, hw]; omega
        have hv : ndV dn s = numI dn s.data.toList.reverse := by simp [ndV, hc]
        have hlr := letters_rev dn _ hl
        have hrl : s.data.toList.reverse.length = s.size := by rw [List.length_reverse]; exact (size_list s).symm
        have Hrl := Lib.hid hrl; have Hlr := Lib.hid hlr
        have Hv := Lib.hid hv; have Hc := Lib.hid hc; clear hv hc had hw hrl hlr
        have hgt30 : ¬ ((30 : Int) < (s.size : Int)) := by omega
        go_enter Try.func17, Try.ntmps17
        go_wp2_with (first | (go_at_call 31; refine (l01Letters_calls dn s (by omega) h40 _).mono ?_; rintro e w' ⟨rfl, rfl⟩))
        go_loop [6, 7] (fun v i => ∃ (k : Nat) (i0 : Int), k ≤ s.size ∧ i = .int .i64 i0 ∧ i0 = (s.size : Int) - k - 1 ∧ v = .int .i64 (numI dn (s.data.toList.reverse.take k))) (fun _ i => (intOf i + 1).toNat)
        case atStart => exact ⟨0, (s.size : Int) - 1, Nat.zero_le _, by go_num, by omega, by rw [numI_zero]⟩
        case round =>
          obtain ⟨k, i0, hk, rfl, hi0, rfl⟩ := hrel
          obtain ⟨hm0, hm1⟩ := numI_mul30' dn s.data.toList.reverse hd (by rw [Hrl.out]; exact h5) Hlr.out k (by rw [Hrl.out]; exact hk)
          by_cases hlt : k < s.size
          · obtain ⟨j, rfl⟩ : ∃ j : Nat, i0 = j := Int.eq_ofNat_of_zero_le (by omega)
            have hj : j < s.size := by omega
            have hlt' : k < s.data.toList.reverse.length := by rw [Hrl.out]; exact hlt
            have hat := lettersL_at Hlr.out k hlt'
            have hst := numI_step' dn s.data.toList.reverse k hlt' hat.1
            rw [rev_at s k j (by omega) hlt' hj] at hst hat
            obtain ⟨h48, h51⟩ := hat
            have Hst := Lib.hid hst; clear hst
            have Hjj := Lib.hid (show s.size - k - 1 = j by omega)
            have Hmod := Lib.hid (show ((s[j].toNat : Int) - 48) % 256 = (s[j].toNat : Int) - 48 from Int.emod_eq_of_lt (by omega) (by omega))
            go_wp2
            go_round
            case rel => exact ⟨k + 1, (j : Int) - 1, by omega, by go_num, by omega, by simp only [Hjj.out]; rw [Hst.out, Hmod.out]⟩
            case measure => simp [intOf] <;> omega
          · obtain rfl : i0 = -1 := by omega
            go_wp2
            go_ret2
            obtain rfl : k = s.size := by omega
            have hfin : numI dn (s.data.toList.reverse.take s.size) = ndV dn s := by
              rw [Hv.out]; have := numI_all dn s.data.toList.reverse; rw [Hrl.out] at this; exact this
            exact ⟨ret_ii hfin Hc.out.symm, by (repeat (first | exact Below.refl _ _ | refine below_drew' ?_ | refine below_drewN' ?_ _ | refine below_alloc' ?_ _ | refine below_set' ?_ (by (try simp); (try omega)) _ | refine below_step ?_ (by assumption)))⟩
      · have hgt30 : (30 : Int) < (s.size : Int) := by omega
        have hc : ndC dn s = 2 := by simp [ndC, had, hw]; omega
        have hv : ndV dn s = 0 := by simp [ndV, hc]
        have Hv := Lib.hid hv; have Hc := Lib.hid hc; clear hv hc had hw
        go_enter Try.func17, Try.ntmps17
        go_wp2_with (first | (go_at_call 31; refine (l01Letters_calls dn s (by omega) h40 _).mono ?_; rintro e w' ⟨rfl, rfl⟩))
        go_ret2
        exact ⟨ret_ii Hv.out.symm Hc.out.symm, by (repeat (first | exact Below.refl _ _ | refine below_drew' ?_ | refine below_drewN' ?_ _ | refine below_alloc' ?_ _ | refine below_set' ?_ (by (try simp); (try omega)) _ | refine below_step ?_ (by assumption)))⟩
  · have hgt : (40 : Int) < (s.size : Int) := by omega
    have hw : wordB dn s = false := by simp [wordB, h40]
    have hc : ndC dn s = 1 := by simp [ndC, had, hw]
    have hv : ndV dn s = 0 := by simp [ndV, hc]
    have Hv := Lib.hid hv; have Hc := Lib.hid hc; clear hv hc had hw
    go_enter Try.func17, Try.ntmps17
    go_wp2
    go_ret2
    exact ⟨ret_ii Hv.out.symm Hc.out.symm, by (repeat (first | exact Below.refl _ _ | refine below_drew' ?_ | refine below_drewN' ?_ _ | refine below_alloc' ?_ _ | refine below_set' ?_ (by (try simp); (try omega)) _ | refine below_step ?_ (by assumption)))⟩

set_option maxRecDepth 100000 in
theorem sNumberOfDigits_calls (d : Int) (s : ByteArray) (hs : s.size ≤ 1048576) (w : World) :
    Calls Try.prog 17 #[.int .i64 d, .string s] w fun e w' => e = .returned (.tuple #[.int .i64 (ndV d s), .int .i64 (ndC d s)]) ∧ Below w.heap.size w w' := by
  by_cases hd : d = 2 ∨ d = 3
  · have had := (isAlpha_iff d).2 hd
    obtain ⟨dn, rfl⟩ := Int.eq_ofNat_of_zero_le (a := d) (by omega)
    by_cases h2 : dn = 2
    · exact sNDtwo dn (by omega) had (by simp; omega) s hs w
    · exact sNDthree dn (by omega) had (by simp; omega) (by simp; omega) s hs w
  · have had := (isAlpha_no d).2 hd
    have h2 : (d != 2) = true := by simp; omega
    have h3 : (d != 3) = true := by simp; omega
    have hc : ndC d s = 2 := by simp [ndC, had]
    have hv : ndV d s = 0 := by simp [ndV, hc]
    have Hv := Lib.hid hv; have Hc := Lib.hid hc; clear hv hc had hd
    go_enter Try.func17, Try.ntmps17
    go_wp2
    go_ret2
    exact ⟨ret_ii Hv.out.symm Hc.out.symm, by (repeat (first | exact Below.refl _ _ | refine below_drew' ?_ | refine below_drewN' ?_ _ | refine below_alloc' ?_ _ | refine below_set' ?_ (by (try simp); (try omega)) _ | refine below_step ?_ (by assumption)))⟩

set_option maxRecDepth 100000 in
theorem lawNumberOfDigits (d : Int) (_ : (Lit.int .i64 d).wf = true) (s : ByteArray) (hm : s.size ≤ maxLen) (w : World) :
    Calls Try.prog 5 #[.int .i64 d, .string s] w fun e w' => e = .returned (.bool true) ∧ Below w.heap.size w w' := by
  unfold maxLen at hm
  by_cases hs : s.size ≤ 1048576
  · go_enter Try.func5, Try.ntmps5
    go_wp2_with (first | (go_at_call 17; refine (sNumberOfDigits_calls d s hs _).mono ?_; rintro e w1 ⟨rfl, hb⟩) | (go_at_call 18; refine (iNumberOfDigits_calls d s hs _).mono ?_; rintro e w2 ⟨rfl, hb2⟩))
    go_ret
    exact ⟨rfl, by (repeat (first | exact Below.refl _ _ | refine below_drew' ?_ | refine below_drewN' ?_ _ | refine below_alloc' ?_ _ | refine below_set' ?_ (by (try simp); (try omega)) _ | refine below_step ?_ (by assumption)))⟩
  · go_enter Try.func5, Try.ntmps5
    go_wp2
    go_ret
    exact ⟨rfl, by (repeat (first | exact Below.refl _ _ | refine below_drew' ?_ | refine below_drewN' ?_ _ | refine below_alloc' ?_ _ | refine below_set' ?_ (by (try simp); (try omega)) _ | refine below_step ?_ (by assumption)))⟩
end Go.Proofs.Ytkhpfjamkkicoaa
