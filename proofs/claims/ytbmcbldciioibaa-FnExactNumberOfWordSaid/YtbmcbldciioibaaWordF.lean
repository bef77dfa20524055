/- 'NumberOfWord', program and model, and the statement on them. -/
import Derived.Test.YtbmcbldciioibaaWordE
namespace Go.Proofs.Ytbmcbldciioibaa
open Go.RowKit

def nwCode (d : Int) (s : ByteArray) : Int := if isAlpha d = false then 2 else if wordB d.toNat s = false then 1 else if 5 < s.size then 3 else 0
def nwVal (d : Int) (s : ByteArray) : Int := if nwCode d s = 0 then numI d.toNat s.data.toList else 0
theorem ret_ii {a b : Int} {i j : Int} (h : a = b) (h' : i = j) : Ending.returned (.tuple #[.int .i64 a, .int .i64 i]) = .returned (.tuple #[.int .i64 b, .int .i64 j]) := by rw [h, h']

set_option maxRecDepth 100000 in
theorem iNumberOfWord_calls (d : Int) (s : ByteArray) (hs : s.size ≤ 1048576) (w : World) :
    Calls Try.prog 29 #[.int .i64 d, .string s] w fun e w' => e = .returned (.tuple #[.int .i64 (nwVal d s), .int .i64 (nwCode d s)]) ∧ Below w.heap.size w w' := by
  by_cases hd : d = 2 ∨ d = 3
  · have had := (isAlpha_iff d).2 hd
    obtain ⟨dn, rfl⟩ := Int.eq_ofNat_of_zero_le (a := d) (by omega)
    cases hw : wordB dn s
    · have hc : nwCode dn s = 1 := by simp [nwCode, had, hw]
      have hv : nwVal dn s = 0 := by simp [nwVal, hc]
      have Hv := Lib.hid hv; have Hc := Lib.hid hc; clear hv hc
      go_enter Try.func29, Try.ntmps29
      go_wp2_with (first | (go_at_call 80; refine (isAlphabet_calls _ _).mono ?_; rintro e w' ⟨rfl, rfl⟩) | (go_at_call 81; refine (isWord_calls dn s (by omega) _).mono ?_; rintro e w' ⟨rfl, rfl⟩))
      go_ret2
      exact ⟨ret_ii Hv.out.symm Hc.out.symm, by (repeat (first | exact Below.refl _ _ | refine below_drew' ?_ | refine below_drewN' ?_ _ | refine below_alloc' ?_ _ | refine below_set' ?_ (by (try simp); (try omega)) _ | refine below_step ?_ (by assumption)))⟩
    · by_cases h5 : s.size ≤ 5
      · have hc : nwCode dn s = 0 := by simp [nwCode, had, hw]; omega
        have hv : nwVal dn s = numI dn s.data.toList := by simp [nwVal, hc]
        have hl := ((wordB_iff dn s).1 hw).2
        have Hv := Lib.hid hv; have Hc := Lib.hid hc; have Hl := Lib.hid hl; clear hv hc hl
        go_enter Try.func29, Try.ntmps29
        go_wp2_with (first | (go_at_call 80; refine (isAlphabet_calls _ _).mono ?_; rintro e w' ⟨rfl, rfl⟩) | (go_at_call 81; refine (isWord_calls dn s (by omega) _).mono ?_; rintro e w' ⟨rfl, rfl⟩) | (go_at_call 76; refine (levelNumber_calls dn s (by omega) (by rw [← size_list]; exact h5) Hl.out _).mono ?_; rintro e w' ⟨rfl, rfl⟩))
        go_ret2
        exact ⟨ret_ii Hv.out.symm Hc.out.symm, by (repeat (first | exact Below.refl _ _ | refine below_drew' ?_ | refine below_drewN' ?_ _ | refine below_alloc' ?_ _ | refine below_set' ?_ (by (try simp); (try omega)) _ | refine below_step ?_ (by assumption)))⟩
      · have hc : nwCode dn s = 3 := by simp [nwCode, had, hw]; omega
        have hv : nwVal dn s = 0 := by simp [nwVal, hc]
        have Hv := Lib.hid hv; have Hc := Lib.hid hc; clear hv hc
        go_enter Try.func29, Try.ntmps29
        go_wp2_with (first | (go_at_call 80; refine (isAlphabet_calls _ _).mono ?_; rintro e w' ⟨rfl, rfl⟩) | (go_at_call 81; refine (isWord_calls dn s (by omega) _).mono ?_; rintro e w' ⟨rfl, rfl⟩))
        go_ret2
        exact ⟨ret_ii Hv.out.symm Hc.out.symm, by (repeat (first | exact Below.refl _ _ | refine below_drew' ?_ | refine below_drewN' ?_ _ | refine below_alloc' ?_ _ | refine below_set' ?_ (by (try simp); (try omega)) _ | refine below_step ?_ (by assumption)))⟩
  · have had := (isAlpha_no d).2 hd
    have hc : nwCode d s = 2 := by simp [nwCode, had]
    have hv : nwVal d s = 0 := by simp [nwVal, hc]
    have Hv := Lib.hid hv; have Hc := Lib.hid hc; clear hv hc
    go_enter Try.func29, Try.ntmps29
    go_wp2_with (first | (go_at_call 80; refine (isAlphabet_calls _ _).mono ?_; rintro e w' ⟨rfl, rfl⟩))
    go_ret2
    exact ⟨ret_ii Hv.out.symm Hc.out.symm, by (repeat (first | exact Below.refl _ _ | refine below_drew' ?_ | refine below_drewN' ?_ _ | refine below_alloc' ?_ _ | refine below_set' ?_ (by (try simp); (try omega)) _ | refine below_step ?_ (by assumption)))⟩

set_option maxRecDepth 100000 in
theorem sNumberOfWord_calls (d : Int) (s : ByteArray) (hs : s.size ≤ 1048576) (w : World) :
    Calls Try.prog 37 #[.int .i64 d, .string s] w fun e w' => e = .returned (.tuple #[.int .i64 (nwVal d s), .int .i64 (nwCode d s)]) ∧ Below w.heap.size w w' := by
  by_cases hd : d = 2 ∨ d = 3
  · have had := (isAlpha_iff d).2 hd
    have hd1 : decide (2 ≤ d ∧ d ≤ 3) = true := by simp; omega
    obtain ⟨dn, rfl⟩ := Int.eq_ofNat_of_zero_le (a := d) (by omega)
    by_cases h40 : s.size ≤ 40
    · cases hl : lettersL dn s.data.toList
      · have hw : wordB dn s = false := by simp [wordB, hl]
        have hc : nwCode dn s = 1 := by simp [nwCode, had, hw]
        have hv : nwVal dn s = 0 := by simp [nwVal, hc]
        have Hv := Lib.hid hv; have Hc := Lib.hid hc; clear hv hc had hw
        go_enter Try.func37, Try.ntmps37
        go_wp2_with (first | (go_at_call 78; refine (l01In_calls _ _ _ _).mono ?_; rintro e w' ⟨rfl, rfl⟩) | (go_at_call 86; refine (l01Letters_calls dn s (by omega) h40 _).mono ?_; rintro e w' ⟨rfl, rfl⟩))
        go_ret2
        exact ⟨ret_ii Hv.out.symm Hc.out.symm, by (repeat (first | exact Below.refl _ _ | refine below_drew' ?_ | refine below_drewN' ?_ _ | refine below_alloc' ?_ _ | refine below_set' ?_ (by (try simp); (try omega)) _ | refine below_step ?_ (by assumption)))⟩
      · have hw : wordB dn s = true := by simp [wordB, hl, h40]
        by_cases h5 : s.size ≤ 5
        · have hc : nwCode dn s = 0 := by simp [nwCode, had, hw]; omega
          have hv : nwVal dn s = numI dn s.data.toList := by simp [nwVal, hc]
          have Hv := Lib.hid hv; have Hc := Lib.hid hc; clear hv hc had hw
          go_enter Try.func37, Try.ntmps37
          go_wp2_with (first | (go_at_call 78; refine (l01In_calls _ _ _ _).mono ?_; rintro e w' ⟨rfl, rfl⟩) | (go_at_call 86; refine (l01Letters_calls dn s (by omega) h40 _).mono ?_; rintro e w' ⟨rfl, rfl⟩) | (go_at_call 87; refine (l01NumberOf_calls dn s (by omega) (by rw [← size_list]; exact h5) hl _).mono ?_; rintro e w' ⟨rfl, rfl⟩))
          go_ret2
          exact ⟨ret_ii Hv.out.symm Hc.out.symm, by (repeat (first | exact Below.refl _ _ | refine below_drew' ?_ | refine below_drewN' ?_ _ | refine below_alloc' ?_ _ | refine below_set' ?_ (by (try simp); (try omega)) _ | refine below_step ?_ (by assumption)))⟩
        · have hc : nwCode dn s = 3 := by simp [nwCode, had, hw]; omega
          have hv : nwVal dn s = 0 := by simp [nwVal, hc]
          have Hv := Lib.hid hv; have Hc := Lib.hid hc; clear hv hc had hw
          go_enter Try.func37, Try.ntmps37
          go_wp2_with (first | (go_at_call 78; refine (l01In_calls _ _ _ _).mono ?_; rintro e w' ⟨rfl, rfl⟩) | (go_at_call 86; refine (l01Letters_calls dn s (by omega) h40 _).mono ?_; rintro e w' ⟨rfl, rfl⟩))
          go_ret2
          exact ⟨ret_ii Hv.out.symm Hc.out.symm, by (repeat (first | exact Below.refl _ _ | refine below_drew' ?_ | refine below_drewN' ?_ _ | refine below_alloc' ?_ _ | refine below_set' ?_ (by (try simp); (try omega)) _ | refine below_step ?_ (by assumption)))⟩
    · have hw : wordB dn s = false := by simp [wordB, h40]
      have hc : nwCode dn s = 1 := by simp [nwCode, had, hw]
      have hv : nwVal dn s = 0 := by simp [nwVal, hc]
      have Hv := Lib.hid hv; have Hc := Lib.hid hc; clear hv hc had hw
      go_enter Try.func37, Try.ntmps37
      go_wp2_with (first | (go_at_call 78; refine (l01In_calls _ _ _ _).mono ?_; rintro e w' ⟨rfl, rfl⟩))
      go_ret2
      exact ⟨ret_ii Hv.out.symm Hc.out.symm, by (repeat (first | exact Below.refl _ _ | refine below_drew' ?_ | refine below_drewN' ?_ _ | refine below_alloc' ?_ _ | refine below_set' ?_ (by (try simp); (try omega)) _ | refine below_step ?_ (by assumption)))⟩
  · have had := (isAlpha_no d).2 hd
    have hd1 : decide (2 ≤ d ∧ d ≤ 3) = false := by simp; omega
    have hc : nwCode d s = 2 := by simp [nwCode, had]
    have hv : nwVal d s = 0 := by simp [nwVal, hc]
    have Hv := Lib.hid hv; have Hc := Lib.hid hc; clear hv hc had
    go_enter Try.func37, Try.ntmps37
    go_wp2_with (first | (go_at_call 78; refine (l01In_calls _ _ _ _).mono ?_; rintro e w' ⟨rfl, rfl⟩))
    go_ret2
    exact ⟨ret_ii Hv.out.symm Hc.out.symm, by (repeat (first | exact Below.refl _ _ | refine below_drew' ?_ | refine below_drewN' ?_ _ | refine below_alloc' ?_ _ | refine below_set' ?_ (by (try simp); (try omega)) _ | refine below_step ?_ (by assumption)))⟩

set_option maxRecDepth 100000 in
theorem lawNumberOfWord (d : Int) (_ : (Lit.int .i64 d).wf = true) (s : ByteArray) (hm : s.size ≤ maxLen) (w : World) :
    Calls Try.prog 15 #[.int .i64 d, .string s] w fun e w' => e = .returned (.bool true) ∧ Below w.heap.size w w' := by
  unfold maxLen at hm
  by_cases hs : s.size ≤ 1048576
  · go_enter Try.func15, Try.ntmps15
    go_wp2_with (first | (go_at_call 37; refine (sNumberOfWord_calls d s hs _).mono ?_; rintro e w1 ⟨rfl, hb⟩) | (go_at_call 29; refine (iNumberOfWord_calls d s hs _).mono ?_; rintro e w2 ⟨rfl, hb2⟩))
    go_ret
    exact ⟨rfl, by (repeat (first | exact Below.refl _ _ | refine below_drew' ?_ | refine below_drewN' ?_ _ | refine below_alloc' ?_ _ | refine below_set' ?_ (by (try simp); (try omega)) _ | refine below_step ?_ (by assumption)))⟩
  · go_enter Try.func15, Try.ntmps15
    go_wp2
    go_ret
    exact ⟨rfl, by (repeat (first | exact Below.refl _ _ | refine below_drew' ?_ | refine below_drewN' ?_ _ | refine below_alloc' ?_ _ | refine below_set' ?_ (by (try simp); (try omega)) _ | refine below_step ?_ (by assumption)))⟩
end Go.Proofs.Ytbmcbldciioibaa
