/- 'WordOfNumber', program and model, and the statement on them. -/
import Derived.Test.YtbmcbldciioibaaWordD
namespace Go.Proofs.Ytbmcbldciioibaa
open Go.RowKit

def wnOk (d n k : Int) : Bool := isAlpha d && isLev n && decide (0 ≤ k) && decide (k < pw d.toNat n.toNat)
def wnStr (d n k : Int) : ByteArray := if wnOk d n k then ⟨(wordOf d.toNat n.toNat k.toNat).toArray⟩ else ⟨#[]⟩
def wnCode (d n k : Int) : Int := if wnOk d n k then 0 else 2
theorem ret_si {a b : ByteArray} {i j : Int} (h : a = b) (h' : i = j) : Ending.returned (.tuple #[.string a, .int .i64 i]) = .returned (.tuple #[.string b, .int .i64 j]) := by rw [h, h']

set_option maxRecDepth 100000 in
theorem iWordOfNumber_calls (d n k : Int) (w : World) :
    Calls Try.prog 28 #[.int .i64 d, .int .i64 n, .int .i64 k] w fun e w' => e = .returned (.tuple #[.string (wnStr d n k), .int .i64 (wnCode d n k)]) ∧ Below w.heap.size w w' := by
  by_cases hd : d = 2 ∨ d = 3
  · have had := (isAlpha_iff d).2 hd
    by_cases hn : 0 ≤ n ∧ n ≤ 5
    · have hln := (isLev_iff n).2 hn
      obtain ⟨dn, rfl⟩ := Int.eq_ofNat_of_zero_le (a := d) (by omega)
      obtain ⟨nn, rfl⟩ := Int.eq_ofNat_of_zero_le hn.1
      obtain ⟨hp0, hp1⟩ := pw_bd dn nn (by omega) (by omega)
      by_cases h0 : 0 ≤ k
      · by_cases h1 : k < pw dn nn
        · have hok : wnOk dn nn k = true := by simp [wnOk, had, hln, h0, h1]
          have hs : wnStr dn nn k = ⟨(wordOf dn nn k.toNat).toArray⟩ := by simp [wnStr, hok]
          have hc : wnCode dn nn k = 0 := by simp [wnCode, hok]
          have Hs := Lib.hid hs; have Hc := Lib.hid hc; clear hs hc hok
          go_enter Try.func28, Try.ntmps28
          go_wp2_with (first | (go_at_call 80; refine (isAlphabet_calls _ _).mono ?_; rintro e w' ⟨rfl, rfl⟩) | (go_at_call 73; refine (isLevel_calls _ _).mono ?_; rintro e w' ⟨rfl, rfl⟩) | (go_at_call 74; refine (levelSize_calls dn nn (by omega) (by omega) _).mono ?_; rintro e w' ⟨rfl, rfl⟩) | (go_at_call 75; refine (levelWord_calls dn nn k (by omega) (by omega) h0 (by omega) _).mono ?_; rintro e w1 ⟨rfl, hb⟩))
          go_ret2
          exact ⟨ret_si Hs.out.symm Hc.out.symm, by (repeat (first | exact Below.refl _ _ | refine below_drew' ?_ | refine below_drewN' ?_ _ | refine below_alloc' ?_ _ | refine below_set' ?_ (by (try simp); (try omega)) _ | refine below_step ?_ (by assumption)))⟩
        · have hok : wnOk dn nn k = false := by simp [wnOk, h1]
          have hs : wnStr dn nn k = ⟨#[]⟩ := by simp [wnStr, hok]
          have hc : wnCode dn nn k = 2 := by simp [wnCode, hok]
          have Hs := Lib.hid hs; have Hc := Lib.hid hc; clear hs hc hok
          go_enter Try.func28, Try.ntmps28
          go_wp2_with (first | (go_at_call 80; refine (isAlphabet_calls _ _).mono ?_; rintro e w' ⟨rfl, rfl⟩) | (go_at_call 73; refine (isLevel_calls _ _).mono ?_; rintro e w' ⟨rfl, rfl⟩) | (go_at_call 74; refine (levelSize_calls dn nn (by omega) (by omega) _).mono ?_; rintro e w' ⟨rfl, rfl⟩))
          go_ret2
          exact ⟨ret_si Hs.out.symm Hc.out.symm, by (repeat (first | exact Below.refl _ _ | refine below_drew' ?_ | refine below_drewN' ?_ _ | refine below_alloc' ?_ _ | refine below_set' ?_ (by (try simp); (try omega)) _ | refine below_step ?_ (by assumption)))⟩
      · have hok : wnOk dn nn k = false := by simp [wnOk, h0]
        have hs : wnStr dn nn k = ⟨#[]⟩ := by simp [wnStr, hok]
        have hc : wnCode dn nn k = 2 := by simp [wnCode, hok]
        have Hs := Lib.hid hs; have Hc := Lib.hid hc; clear hs hc hok
        go_enter Try.func28, Try.ntmps28
        go_wp2_with (first | (go_at_call 80; refine (isAlphabet_calls _ _).mono ?_; rintro e w' ⟨rfl, rfl⟩) | (go_at_call 73; refine (isLevel_calls _ _).mono ?_; rintro e w' ⟨rfl, rfl⟩))
        go_ret2
        exact ⟨ret_si Hs.out.symm Hc.out.symm, by (repeat (first | exact Below.refl _ _ | refine below_drew' ?_ | refine below_drewN' ?_ _ | refine below_alloc' ?_ _ | refine below_set' ?_ (by (try simp); (try omega)) _ | refine below_step ?_ (by assumption)))⟩
    · have hln := (isLev_no n).2 hn
      have hok : wnOk d n k = false := by simp [wnOk, hln]
      have hs : wnStr d n k = ⟨#[]⟩ := by simp [wnStr, hok]
      have hc : wnCode d n k = 2 := by simp [wnCode, hok]
      have Hs := Lib.hid hs; have Hc := Lib.hid hc; clear hs hc hok
      go_enter Try.func28, Try.ntmps28
      go_wp2_with (first | (go_at_call 80; refine (isAlphabet_calls _ _).mono ?_; rintro e w' ⟨rfl, rfl⟩) | (go_at_call 73; refine (isLevel_calls _ _).mono ?_; rintro e w' ⟨rfl, rfl⟩))
      go_ret2
      exact ⟨ret_si Hs.out.symm Hc.out.symm, by (repeat (first | exact Below.refl _ _ | refine below_drew' ?_ | refine below_drewN' ?_ _ | refine below_alloc' ?_ _ | refine below_set' ?_ (by (try simp); (try omega)) _ | refine below_step ?_ (by assumption)))⟩
  · have had := (isAlpha_no d).2 hd
    have hok : wnOk d n k = false := by simp [wnOk, had]
    have hs : wnStr d n k = ⟨#[]⟩ := by simp [wnStr, hok]
    have hc : wnCode d n k = 2 := by simp [wnCode, hok]
    have Hs := Lib.hid hs; have Hc := Lib.hid hc; clear hs hc hok
    go_enter Try.func28, Try.ntmps28
    go_wp2_with (first | (go_at_call 80; refine (isAlphabet_calls _ _).mono ?_; rintro e w' ⟨rfl, rfl⟩))
    go_ret2
    exact ⟨ret_si Hs.out.symm Hc.out.symm, by (repeat (first | exact Below.refl _ _ | refine below_drew' ?_ | refine below_drewN' ?_ _ | refine below_alloc' ?_ _ | refine below_set' ?_ (by (try simp); (try omega)) _ | refine below_step ?_ (by assumption)))⟩

set_option maxRecDepth 100000 in
theorem sWordOfNumber_calls (d n k : Int) (w : World) :
    Calls Try.prog 35 #[.int .i64 d, .int .i64 n, .int .i64 k] w fun e w' => e = .returned (.tuple #[.string (wnStr d n k), .int .i64 (wnCode d n k)]) ∧ Below w.heap.size w w' := by
  by_cases hd : d = 2 ∨ d = 3
  · have had := (isAlpha_iff d).2 hd
    have hd1 : decide (2 ≤ d ∧ d ≤ 3) = true := by simp; omega
    by_cases hn : 0 ≤ n ∧ n ≤ 5
    · have hln := (isLev_iff n).2 hn
      obtain ⟨dn, rfl⟩ := Int.eq_ofNat_of_zero_le (a := d) (by omega)
      obtain ⟨nn, rfl⟩ := Int.eq_ofNat_of_zero_le hn.1
      have hn1 : decide (0 ≤ (nn : Int) ∧ (nn : Int) ≤ 5) = true := by simp; omega
      obtain ⟨hp0, hp1⟩ := pw_bd dn nn (by omega) (by omega)
      by_cases hk : 0 ≤ k ∧ k ≤ pw dn nn - 1
      · have hk1 : decide (0 ≤ k ∧ k ≤ pw dn nn - 1) = true := by simpa using hk
        obtain ⟨h0, h1⟩ := hk
        have hok : wnOk dn nn k = true := by simp [wnOk, had, hln, h0]; omega
        have hs : wnStr dn nn k = ⟨(wordOf dn nn k.toNat).toArray⟩ := by simp [wnStr, hok]
        have hc : wnCode dn nn k = 0 := by simp [wnCode, hok]
        have Hs := Lib.hid hs; have Hc := Lib.hid hc; clear hs hc hok had hln
        go_enter Try.func35, Try.ntmps35
        go_wp2_with (first | (go_at_call 78; refine (l01In_calls _ _ _ _).mono ?_; rintro e w' ⟨rfl, rfl⟩) | (go_at_call 84; refine (l01Power_calls dn nn (by omega) (by omega) _).mono ?_; rintro e w' ⟨rfl, rfl⟩) | (go_at_call 85; refine (l01WordOf_calls dn (by omega) nn _ k _ (by omega) (by omega) (by omega) h0 (by omega)).mono ?_; rintro e w1 ⟨rfl, hb⟩))
        go_ret2
        exact ⟨ret_si Hs.out.symm Hc.out.symm, by (repeat (first | exact Below.refl _ _ | refine below_drew' ?_ | refine below_drewN' ?_ _ | refine below_alloc' ?_ _ | refine below_set' ?_ (by (try simp); (try omega)) _ | refine below_step ?_ (by assumption)))⟩
      · have hk1 : decide (0 ≤ k ∧ k ≤ pw dn nn - 1) = false := by simpa using hk
        have hok : wnOk dn nn k = false := by rw [Bool.eq_false_iff]; simp [wnOk]; omega
        have hs : wnStr dn nn k = ⟨#[]⟩ := by simp [wnStr, hok]
        have hc : wnCode dn nn k = 2 := by simp [wnCode, hok]
        have Hs := Lib.hid hs; have Hc := Lib.hid hc; clear hs hc hok had hln
        go_enter Try.func35, Try.ntmps35
        go_wp2_with (first | (go_at_call 78; refine (l01In_calls _ _ _ _).mono ?_; rintro e w' ⟨rfl, rfl⟩) | (go_at_call 84; refine (l01Power_calls dn nn (by omega) (by omega) _).mono ?_; rintro e w' ⟨rfl, rfl⟩))
        go_ret2
        exact ⟨ret_si Hs.out.symm Hc.out.symm, by (repeat (first | exact Below.refl _ _ | refine below_drew' ?_ | refine below_drewN' ?_ _ | refine below_alloc' ?_ _ | refine below_set' ?_ (by (try simp); (try omega)) _ | refine below_step ?_ (by assumption)))⟩
    · have hln := (isLev_no n).2 hn
      have hn1 : decide (0 ≤ n ∧ n ≤ 5) = false := by simpa using hn
      have hok : wnOk d n k = false := by simp [wnOk, hln]
      have hs : wnStr d n k = ⟨#[]⟩ := by simp [wnStr, hok]
      have hc : wnCode d n k = 2 := by simp [wnCode, hok]
      have Hs := Lib.hid hs; have Hc := Lib.hid hc; clear hs hc hok had hln
      go_enter Try.func35, Try.ntmps35
      go_wp2_with (first | (go_at_call 78; refine (l01In_calls _ _ _ _).mono ?_; rintro e w' ⟨rfl, rfl⟩))
      go_ret2
      exact ⟨ret_si Hs.out.symm Hc.out.symm, by (repeat (first | exact Below.refl _ _ | refine below_drew' ?_ | refine below_drewN' ?_ _ | refine below_alloc' ?_ _ | refine below_set' ?_ (by (try simp); (try omega)) _ | refine below_step ?_ (by assumption)))⟩
  · have had := (isAlpha_no d).2 hd
    have hd1 : decide (2 ≤ d ∧ d ≤ 3) = false := by simp; omega
    have hok : wnOk d n k = false := by simp [wnOk, had]
    have hs : wnStr d n k = ⟨#[]⟩ := by simp [wnStr, hok]
    have hc : wnCode d n k = 2 := by simp [wnCode, hok]
    have Hs := Lib.hid hs; have Hc := Lib.hid hc; clear hs hc hok had
    go_enter Try.func35, Try.ntmps35
    go_wp2_with (first | (go_at_call 78; refine (l01In_calls _ _ _ _).mono ?_; rintro e w' ⟨rfl, rfl⟩))
    go_ret2
    exact ⟨ret_si Hs.out.symm Hc.out.symm, by (repeat (first | exact Below.refl _ _ | refine below_drew' ?_ | refine below_drewN' ?_ _ | refine below_alloc' ?_ _ | refine below_set' ?_ (by (try simp); (try omega)) _ | refine below_step ?_ (by assumption)))⟩

set_option maxRecDepth 100000 in
theorem lawWordOfNumber (d : Int) (_ : (Lit.int .i64 d).wf = true) (n : Int) (_ : (Lit.int .i64 n).wf = true) (k : Int) (_ : (Lit.int .i64 k).wf = true) (w : World) :
    Calls Try.prog 14 #[.int .i64 d, .int .i64 n, .int .i64 k] w fun e w' => e = .returned (.bool true) ∧ Below w.heap.size w w' := by
  go_enter Try.func14, Try.ntmps14
  go_wp2_with (first | (go_at_call 35; refine (sWordOfNumber_calls d n k _).mono ?_; rintro e w1 ⟨rfl, hb⟩) | (go_at_call 28; refine (iWordOfNumber_calls d n k _).mono ?_; rintro e w2 ⟨rfl, hb2⟩))
  go_ret
  exact ⟨rfl, by (repeat (first | exact Below.refl _ _ | refine below_drew' ?_ | refine below_drewN' ?_ _ | refine below_alloc' ?_ _ | refine below_set' ?_ (by (try simp); (try omega)) _ | refine below_step ?_ (by assumption)))⟩
end Go.Proofs.Ytbmcbldciioibaa
