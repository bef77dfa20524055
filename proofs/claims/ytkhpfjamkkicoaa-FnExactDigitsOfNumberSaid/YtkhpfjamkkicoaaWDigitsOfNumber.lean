/- 'DigitsOfNumber': the program, the model and the statement on them. -/
import Derived.Test.YtkhpfjamkkicoaaWNumberOfDigits
import Derived.Test.YtkhpfjamkkicoaaWordE
import Derived.Test.YtkhpfjamkkicoaaInts
namespace Go.Proofs.Ytkhpfjamkkicoaa
open Go.RowKit

theorem pow30 (d n : Nat) (hd : d ≤ 3) (hn : n ≤ 30) : d ^ n ≤ 205891132094649 :=
  Nat.le_trans (Nat.pow_le_pow_left hd n) (Nat.le_trans (Nat.pow_le_pow_right (by omega) hn) (by decide))
theorem pw30 (d n : Nat) (hd : d ≤ 3) (hn : n ≤ 30) : 0 ≤ pw d n ∧ pw d n ≤ 205891132094649 := by have := pow30 d n hd hn; unfold pw; omega
theorem pw30_mul (d n : Nat) (hd : d ≤ 3) (hn : n ≤ 30) : 0 ≤ pw d n * d ∧ pw d n * d ≤ 617673396283947 := by
  have h := pw30 d n hd hn
  generalize pw d n = p at *
  obtain ⟨q, rfl⟩ := Int.eq_ofNat_of_zero_le h.1
  have h1 : q * d ≤ 205891132094649 * 3 := Nat.mul_le_mul (by omega) hd
  have h2 : ((q * d : Nat) : Int) = (q : Int) * d := Int.natCast_mul q d
  omega

theorem levelSize30_calls (d n : Nat) (hd : d ≤ 3) (hn : n ≤ 30) (w : World) :
    Calls Try.prog 38 #[.int .i64 d, .int .i64 n] w fun e w' => e = .returned (.int .i64 (pw d n)) ∧ w = w' := by
  go_enter Try.func38, Try.ntmps38
  go_wp2
  go_loop [5, 7] (fun s i => ∃ k : Nat, k ≤ n ∧ i = .int .i64 k ∧ s = .int .i64 (pw d k)) (fun _ i => n - (intOf i).toNat)
  case atStart => exact ⟨0, Nat.zero_le _, rfl, by rw [pw_zero]⟩
  case round =>
    obtain ⟨k, hk, rfl, rfl⟩ := hrel
    obtain ⟨hm0, hm1⟩ := pw30_mul d k hd (by omega)
    by_cases hlt : k < n
    · go_wp2
      go_round
      case rel => exact ⟨k + 1, by omega, by go_num, by rw [pw_succ]⟩
      case measure => simp [intOf] <;> omega
    · go_wp2
      go_ret
      obtain rfl : k = n := by omega
      exact ⟨rfl, rfl⟩

theorem l01Power30_calls (d n : Nat) (hd : d ≤ 3) (hn : n ≤ 30) (w : World) :
    Calls Try.prog 37 #[.int .i64 d, .int .i64 n] w fun e w' => e = .returned (.int .i64 (pw d n)) ∧ w = w' := by
  go_enter Try.func37, Try.ntmps37
  go_wp2
  go_loop [1, 5] (fun i s => ∃ k j : Nat, k + j = n ∧ i = .int .i64 j ∧ s = .int .i64 (pw d k)) (fun i _ => (intOf i).toNat)
  case atStart => exact ⟨0, n, by omega, rfl, by rw [pw_zero]⟩
  case round =>
    obtain ⟨k, j, hk, rfl, rfl⟩ := hrel
    obtain ⟨hm0, hm1⟩ := pw30_mul d k hd (by omega)
    have hj : j ≤ 30 := by omega
    have Hk := Lib.hid hk; clear hk
    by_cases hlt : 0 < j
    · go_wp2
      go_round
      case rel => exact ⟨k + 1, j - 1, by have := Hk.out; omega, by rw [show ((j - 1 : Nat) : Int) = (j : Int) - 1 from by omega], by rw [pw_succ]⟩
      case measure => simp [intOf] <;> omega
    · go_wp2
      go_ret
      obtain rfl : k = n := by have := Hk.out; omega
      exact ⟨rfl, rfl⟩

set_option maxRecDepth 100000 in
theorem levelWord30_calls (d n : Nat) (k0 : Int) (hd : d = 2 ∨ d = 3) (hn : n ≤ 30) (hk0 : 0 ≤ k0) (hk : k0 ≤ 205891132094649) (w : World) :
    Calls Try.prog 39 #[.int .i64 d, .int .i64 n, .int .i64 k0] w fun e w' => e = .returned (.string ⟨(wordOf d n k0.toNat).toArray⟩) ∧ Below w.heap.size w w' := by
  obtain ⟨k, rfl⟩ := Int.eq_ofNat_of_zero_le hk0
  rw [Int.toNat_natCast]
  have hd0 : (1 : Int) ≤ d := by omega
  have hd3 : (d : Int) ≤ 3 := by omega
  have hdz : ((d : Int) == 0) = false := by simp; omega
  obtain ⟨i0, hi, hz0, hz1, hz2⟩ := info_parts Try.info5
  have hmk := run_make (P := Try.prog) w 56 5 i0 (.int .u8 0) Try.underlying56 hi hz0 .i64 .i64 n n (by omega) (by omega) (by rw [hz2]; omega) (by omega)
  rw [hz1, Int.toNat_natCast, Nat.mul_one, made_zero, ← lw_start d n k] at hmk
  have Hi := Lib.hid hi; clear hi hz0 hz1 hz2
  go_enter Try.func39, Try.ntmps39
  go_wp2
  go_loopw [2, 8] (fun kv i wr => ∃ (j : Nat) (iv : Int), j ≤ n ∧ i = .int .i64 iv ∧ iv + 1 ≤ n - j ∧ n - j ≤ iv + 1 ∧ kv = .int .i64 (dv k d j) ∧ wr = w.alloc (.cells (lw d n j k).toArray 5)) (fun _ i _ => (intOf i + 1).toNat)
  case atStart => exact ⟨0, _, Nat.zero_le _, rfl, by omega, by omega, by rw [dv_zero], rfl⟩
  case round =>
    obtain ⟨j, iv, hj, rfl, h1, h2, rfl, rfl⟩ := hrel
    obtain ⟨hb0, hb1⟩ := dv_bd k d j
    have hm0 := Int.emod_nonneg (dv k d j) (b := (d : Int)) (by omega)
    have hm1 := Int.emod_lt_of_pos (dv k d j) (b := (d : Int)) (by omega)
    have hq0 : 0 ≤ dv k d j / (d : Int) := Int.ediv_nonneg hb0 (by omega)
    by_cases hlt : 0 ≤ iv
    · obtain ⟨i, rfl⟩ := Int.eq_ofNat_of_zero_le hlt
      have hsz : ((lw d n j k).toArray)[i]? = some ((lw d n j k).getD i undef) := by
        rw [List.getElem?_toArray, List.getElem?_eq_getElem (by rw [lw_length _ _ _ _ hj]; omega)]; simp [List.getD]; rw [List.getElem?_eq_getElem (by rw [lw_length _ _ _ _ hj]; omega)]; rfl
      go_wp2
      go_roundw
      case rel => exact ⟨j + 1, _, by omega, rfl, by omega, by omega, by rw [dv_step], by rw [lw_set d n j k i (by omega) hd]⟩
      case measure => simp [intOf] <;> omega
    · obtain rfl : j = n := by omega
      have hstr := run_str_block (P := Try.prog) (w.alloc (.cells (lw d j j k).toArray 5)) 56 9 5 w.heap.size j j _ _ (wordOf d j k) Try.underlying56 Try.underlying5 Try.underlying9 (length_wordOf _ _ _) (heap_alloc_new w _) (by rw [lw_done])
      go_wp2
      go_ret
      exact ⟨rfl, by (repeat (first | exact Below.refl _ _ | refine below_drew' ?_ | refine below_drewN' ?_ _ | refine below_alloc' ?_ _ | refine below_set' ?_ (by (try simp); (try omega)) _ | refine below_step ?_ (by assumption)))⟩

/-- The word of a number, the last letter first: what the model writes. -/
theorem back_succ (d j k : Nat) : (wordOf d (j + 1) k).reverse = (wordOf d j k).reverse ++ [UInt8.ofNat (48 + k / d ^ j % d)] := by
  rw [wordOf_succ, List.reverse_cons]
theorem back_dig (d j k : Nat) (hd : d = 2 ∨ d = 3) : ((UInt8.ofNat (48 + k / d ^ j % d)).toNat : Int) = 48 + dv k d j % (d : Int) := by
  have h3 : k / d ^ j % d < 3 := by rcases hd with rfl | rfl <;> omega
  rw [UInt8.toNat_ofNat_of_lt' (by show _ < 256; omega)]
  unfold dv; rw [← Int.natCast_emod]; omega

def dgOk (d n k : Int) : Bool := isAlpha d && decide (0 ≤ n) && decide (n ≤ 30) && decide (0 ≤ k) && decide (k < pw d.toNat n.toNat)
def dgStr (d n k : Int) : ByteArray := if dgOk d n k then ⟨(wordOf d.toNat n.toNat k.toNat).reverse.toArray⟩ else ⟨#[]⟩
def dgCode (d n k : Int) : Int := if dgOk d n k then 0 else 2
theorem dg_no {d n k : Int} (h : dgOk d n k = false) : dgStr d n k = ⟨#[]⟩ ∧ dgCode d n k = 2 := by simp [dgStr, dgCode, h]

set_option maxRecDepth 100000 in
set_option maxHeartbeats 1000000 in
theorem iDigitsOfNumber_calls (d n k : Int) (w : World) :
    Calls Try.prog 20 #[.int .i64 d, .int .i64 n, .int .i64 k] w fun e w' => e = .returned (.tuple #[.string (dgStr d n k), .int .i64 (dgCode d n k)]) ∧ Below w.heap.size w w' := by
  by_cases hd : d = 2 ∨ d = 3
  · have had := (isAlpha_iff d).2 hd
    obtain ⟨dn, rfl⟩ := Int.eq_ofNat_of_zero_le (a := d) (by omega)
    by_cases hn0 : 0 ≤ n
    · obtain ⟨nn, rfl⟩ := Int.eq_ofNat_of_zero_le hn0
      by_cases hn3 : nn ≤ 30
      · obtain ⟨hp0, hp1⟩ := pw30 dn nn (by omega) (by omega)
        have hn3' : ¬ ((30 : Int) < (nn : Int)) := by omega
        by_cases h0 : 0 ≤ k
        · have h0' : ¬ (k < 0) := by omega
          by_cases h1 : k < pw dn nn
          · have hok : dgOk dn nn k = true := by simp [dgOk, had, h0, h1]; omega
            have hs : dgStr dn nn k = ⟨(wordOf dn nn k.toNat).reverse.toArray⟩ := by simp [dgStr, hok]
            have hc : dgCode dn nn k = 0 := by simp [dgCode, hok]
            have h1' : ¬ (pw dn nn ≤ k) := by omega
            have HT := Lib.hid (fun W => turnText_calls ⟨(wordOf dn nn k.toNat).toArray⟩ (by show (wordOf dn nn k.toNat).toArray.size ≤ 40; simp [length_wordOf]; omega) W)
            have HLW := Lib.hid (fun W => levelWord30_calls dn nn k (by omega) hn3 h0 (by omega) W)
            have Hs := Lib.hid hs; have Hc := Lib.hid hc; clear hs hc hok
            go_enter Try.func20, Try.ntmps20
            go_wp2_with (first | (go_at_call 32; refine (isAlphabet_calls _ _).mono ?_; rintro e w' ⟨rfl, rfl⟩) | (go_at_call 38; refine (levelSize30_calls dn nn (by omega) (by omega) _).mono ?_; rintro e w' ⟨rfl, rfl⟩) | (go_at_call 39; refine (HLW.out _).mono ?_; rintro e w1 ⟨rfl, hb1⟩) | (go_at_call 35; refine (HT.out _).mono ?_; rintro e w2 ⟨rfl, hb2⟩))
            go_ret2
            exact ⟨ret_si (by rw [Hs.out]) Hc.out.symm, by (repeat (first | exact Below.refl _ _ | refine below_drew' ?_ | refine below_drewN' ?_ _ | refine below_alloc' ?_ _ | refine below_set' ?_ (by (try simp); (try omega)) _ | refine below_step ?_ (by assumption)))⟩
          · have hok : dgOk dn nn k = false := by simp [dgOk, h1]
            obtain ⟨hs, hc⟩ := dg_no hok
            have h1' : pw dn nn ≤ k := by omega
            have Hs := Lib.hid hs; have Hc := Lib.hid hc; clear hs hc hok
            go_enter Try.func20, Try.ntmps20
            go_wp2_with (first | (go_at_call 32; refine (isAlphabet_calls _ _).mono ?_; rintro e w' ⟨rfl, rfl⟩) | (go_at_call 38; refine (levelSize30_calls dn nn (by omega) (by omega) _).mono ?_; rintro e w' ⟨rfl, rfl⟩))
            go_ret2
            exact ⟨ret_si Hs.out.symm Hc.out.symm, by (repeat (first | exact Below.refl _ _ | refine below_drew' ?_ | refine below_drewN' ?_ _ | refine below_alloc' ?_ _ | refine below_set' ?_ (by (try simp); (try omega)) _ | refine below_step ?_ (by assumption)))⟩
        · have h0' : k < 0 := by omega
          have hok : dgOk dn nn k = false := by simp [dgOk, h0]
          obtain ⟨hs, hc⟩ := dg_no hok
          have Hs := Lib.hid hs; have Hc := Lib.hid hc; clear hs hc hok
          go_enter Try.func20, Try.ntmps20
          go_wp2_with (first | (go_at_call 32; refine (isAlphabet_calls _ _).mono ?_; rintro e w' ⟨rfl, rfl⟩))
          go_ret2
          exact ⟨ret_si Hs.out.symm Hc.out.symm, by (repeat (first | exact Below.refl _ _ | refine below_drew' ?_ | refine below_drewN' ?_ _ | refine below_alloc' ?_ _ | refine below_set' ?_ (by (try simp); (try omega)) _ | refine below_step ?_ (by assumption)))⟩
      · have hn3' : (30 : Int) < (nn : Int) := by omega
        have hok : dgOk dn nn k = false := by rw [Bool.eq_false_iff]; simp [dgOk]; omega
        obtain ⟨hs, hc⟩ := dg_no hok
        have Hs := Lib.hid hs; have Hc := Lib.hid hc; clear hs hc hok
        go_enter Try.func20, Try.ntmps20
        go_wp2_with (first | (go_at_call 32; refine (isAlphabet_calls _ _).mono ?_; rintro e w' ⟨rfl, rfl⟩))
        go_ret2
        exact ⟨ret_si Hs.out.symm Hc.out.symm, by (repeat (first | exact Below.refl _ _ | refine below_drew' ?_ | refine below_drewN' ?_ _ | refine below_alloc' ?_ _ | refine below_set' ?_ (by (try simp); (try omega)) _ | refine below_step ?_ (by assumption)))⟩
    · have hn0' : n < 0 := by omega
      have hok : dgOk dn n k = false := by rw [Bool.eq_false_iff]; simp [dgOk]; omega
      obtain ⟨hs, hc⟩ := dg_no hok
      have Hs := Lib.hid hs; have Hc := Lib.hid hc; clear hs hc hok
      go_enter Try.func20, Try.ntmps20
      go_wp2_with (first | (go_at_call 32; refine (isAlphabet_calls _ _).mono ?_; rintro e w' ⟨rfl, rfl⟩))
      go_ret2
      exact ⟨ret_si Hs.out.symm Hc.out.symm, by (repeat (first | exact Below.refl _ _ | refine below_drew' ?_ | refine below_drewN' ?_ _ | refine below_alloc' ?_ _ | refine below_set' ?_ (by (try simp); (try omega)) _ | refine below_step ?_ (by assumption)))⟩
  · have had := (isAlpha_no d).2 hd
    have hok : dgOk d n k = false := by simp [dgOk, had]
    obtain ⟨hs, hc⟩ := dg_no hok
    have Hs := Lib.hid hs; have Hc := Lib.hid hc; clear hs hc hok
    go_enter Try.func20, Try.ntmps20
    go_wp2_with (first | (go_at_call 32; refine (isAlphabet_calls _ _).mono ?_; rintro e w' ⟨rfl, rfl⟩))
    go_ret2
    exact ⟨ret_si Hs.out.symm Hc.out.symm, by (repeat (first | exact Below.refl _ _ | refine below_drew' ?_ | refine below_drewN' ?_ _ | refine below_alloc' ?_ _ | refine below_set' ?_ (by (try simp); (try omega)) _ | refine below_step ?_ (by assumption)))⟩

set_option maxRecDepth 100000 in
set_option maxHeartbeats 1000000 in
theorem sDNtwo (dn : Nat) (hd : dn = 2 ∨ dn = 3) (had : isAlpha dn = true) (h2 : ((dn : Int) != 2) = false) (n k : Int) (w : World) :
    Calls Try.prog 19 #[.int .i64 dn, .int .i64 n, .int .i64 k] w fun e w' => e = .returned (.tuple #[.string (dgStr dn n k), .int .i64 (dgCode dn n k)]) ∧ Below w.heap.size w w' := by
  by_cases hn : 0 ≤ n ∧ n ≤ 30
  · obtain ⟨nn, rfl⟩ := Int.eq_ofNat_of_zero_le hn.1
    have hn1 : decide (0 ≤ (nn : Int) ∧ (nn : Int) ≤ 30) = true := by simpa using hn
    have hn3 : nn ≤ 30 := by omega
    obtain ⟨hp0, hp1⟩ := pw30 dn nn (by omega) (by omega)
    by_cases hk : 0 ≤ k ∧ k ≤ pw dn nn - 1
    · have hk1 : decide (0 ≤ k ∧ k ≤ pw dn nn - 1) = true := by simpa using hk
      obtain ⟨h0, h1⟩ := hk
      obtain ⟨kn, rfl⟩ := Int.eq_ofNat_of_zero_le h0
      have hok : dgOk dn nn kn = true := by simp [dgOk, had]; omega
      have hs : dgStr dn nn kn = ⟨(wordOf dn nn kn).reverse.toArray⟩ := by simp [dgStr, hok]
      have hc : dgCode dn nn kn = 0 := by simp [dgCode, hok]
      have hd0 : (1 : Int) ≤ dn := by omega
      have hd3 : (dn : Int) ≤ 3 := by omega
      have hdz : ((dn : Int) == 0) = false := by simp; omega
      have hO0 : OwnB (w.alloc (.cells #[] 5)) w.heap.size (.slice (some ⟨w.heap.size, 0, none⟩) 0 0) [] := OwnB.empty w w.heap.size 0 #[] (Nat.le_refl _) (by unfold maxLen; omega) rfl
      have hb0 : Below w.heap.size w (w.alloc (.cells #[] 5)) := (Below.refl _ _).alloc (Nat.le_refl _) _
      have Hs := Lib.hid hs; have Hc := Lib.hid hc; clear hs hc hok had
      go_enter Try.func19, Try.ntmps19
      go_wp2_with (first | (go_at_call 36; refine (l01In_calls _ _ _ _).mono ?_; rintro e w' ⟨rfl, rfl⟩) | (go_at_call 37; refine (l01Power30_calls dn nn (by omega) (by omega) _).mono ?_; rintro e w' ⟨rfl, rfl⟩))
      go_loopw [1, 2, 8] (fun m kv out wr => ∃ j i : Nat, i + j = nn ∧ m = .int .i64 i ∧ kv = .int .i64 (dv kn dn j) ∧ OwnB wr w.heap.size out (wordOf dn j kn).reverse ∧ Below w.heap.size w wr) (fun m _ _ _ => (intOf m).toNat)
      case atStart => exact ⟨0, nn, by omega, rfl, by rw [dv_zero], by simpa [wordOf] using hO0, hb0⟩
      case round =>
        clear hO0 hb0
        obtain ⟨j, i, hj, rfl, rfl, hO, hbw⟩ := hrel
        have hsz := hbw.size
        obtain ⟨hb0, hb1⟩ := dv_bd kn dn j
        have hm0 := Int.emod_nonneg (dv kn dn j) (b := (dn : Int)) (by omega)
        have hm1 := Int.emod_lt_of_pos (dv kn dn j) (b := (dn : Int)) (by omega)
        have hq0 : 0 ≤ dv kn dn j / (dn : Int) := Int.ediv_nonneg hb0 (by omega)
        have hj30 : j ≤ 30 := by omega
        have hi30 : i ≤ 30 := by omega
        have Hj := Lib.hid hj; clear hj
        by_cases hlt : 0 < i
        · have Hdg := Lib.hid (back_dig dn j kn hd)
          have Hbk := Lib.hid (back_succ dn j kn)
          have Hln : Hid ((wordOf dn j kn).reverse.length = j) := Lib.hid (by rw [List.length_reverse, length_wordOf])
          generalize UInt8.ofNat (48 + kn / dn ^ j % dn) = b at *
          have Hl : Hid (Value.int .u8 (48 + dv kn dn j % (dn : Int)) = Value.int .u8 (b.toNat : Int)) := Lib.hid (by rw [Hdg.out])
          go_wp2_with (at_builtin; try rw [Hl.out]; refine wpList_push_byte rfl (.tmp 34) (.tmp 40) rfl w.heap.size _ (wordOf dn j kn).reverse rfl (hO.below (Below.alloc (Below.refl _ _) (Nat.le_refl _) (.cells #[.int .u8 (b.toNat : Int)] 5))) _ 1 b rfl (Blk.new _ _ _) (by rw [Hln.out]; omega) (by simp; omega) ?_; intro v1 w4 hO1 hb4)
          go_roundw
          case rel => exact ⟨j + 1, i - 1, by have := Hj.out; omega, by rw [show ((i - 1 : Nat) : Int) = (i : Int) - 1 from by omega], by rw [dv_step], by rw [Hbk.out]; exact hO1, (hbw.alloc hbw.size _).trans hb4⟩
          case measure => simp [intOf] <;> omega
        · obtain rfl : j = nn := by have := Hj.out; omega
          have hstr := run_str_own hO
          go_wp2
          go_ret2
          exact ⟨ret_si (by rw [Hs.out]) Hc.out.symm, hbw⟩
    · have hk1 : decide (0 ≤ k ∧ k ≤ pw dn nn - 1) = false := by simpa using hk
      have hok : dgOk dn nn k = false := by rw [Bool.eq_false_iff]; simp [dgOk]; omega
      obtain ⟨hs, hc⟩ := dg_no hok
      have Hs := Lib.hid hs; have Hc := Lib.hid hc; clear hs hc hok had
      go_enter Try.func19, Try.ntmps19
      go_wp2_with (first | (go_at_call 36; refine (l01In_calls _ _ _ _).mono ?_; rintro e w' ⟨rfl, rfl⟩) | (go_at_call 37; refine (l01Power30_calls dn nn (by omega) (by omega) _).mono ?_; rintro e w' ⟨rfl, rfl⟩))
      go_ret2
      exact ⟨ret_si Hs.out.symm Hc.out.symm, by (repeat (first | exact Below.refl _ _ | refine below_drew' ?_ | refine below_drewN' ?_ _ | refine below_alloc' ?_ _ | refine below_set' ?_ (by (try simp); (try omega)) _ | refine below_step ?_ (by assumption)))⟩
  · have hn1 : decide (0 ≤ n ∧ n ≤ 30) = false := by simpa using hn
    have hok : dgOk dn n k = false := by rw [Bool.eq_false_iff]; simp [dgOk]; omega
    obtain ⟨hs, hc⟩ := dg_no hok
    have Hs := Lib.hid hs; have Hc := Lib.hid hc; clear hs hc hok had
    go_enter Try.func19, Try.ntmps19
    go_wp2_with (first | (go_at_call 36; refine (l01In_calls _ _ _ _).mono ?_; rintro e w' ⟨rfl, rfl⟩))
    go_ret2
    exact ⟨ret_si Hs.out.symm Hc.out.symm, by (repeat (first | exact Below.refl _ _ | refine below_drew' ?_ | refine below_drewN' ?_ _ | refine below_alloc' ?_ _ | refine below_set' ?_ (by (try simp); (try omega)) _ | refine below_step ?_ (by assumption)))⟩

set_option maxRecDepth 100000 in
set_option maxHeartbeats 1000000 in
theorem sDNthree (dn : Nat) (hd : dn = 2 ∨ dn = 3) (had : isAlpha dn = true) (h2 : ((dn : Int) != 2) = true) (h3 : ((dn : Int) != 3) = false) (n k : Int) (w : World) :
    Calls Try.prog 19 #[.int .i64 dn, .int .i64 n, .int .i64 k] w fun e w' => e = .returned (.tuple #[.string (dgStr dn n k), .int .i64 (dgCode dn n k)]) ∧ Below w.heap.size w w' := by
  by_cases hn : 0 ≤ n ∧ n ≤ 30
  · obtain ⟨nn, rfl⟩ := Int.eq_ofNat_of_zero_le hn.1
    have hn1 : decide (0 ≤ (nn : Int) ∧ (nn : Int) ≤ 30) = true := by simpa using hn
    have hn3 : nn ≤ 30 := by omega
    obtain ⟨hp0, hp1⟩ := pw30 dn nn (by omega) (by omega)
    by_cases hk : 0 ≤ k ∧ k ≤ pw dn nn - 1
    · have hk1 : decide (0 ≤ k ∧ k ≤ pw dn nn - 1) = true := by simpa using hk
      obtain ⟨h0, h1⟩ := hk
      obtain ⟨kn, rfl⟩ := Int.eq_ofNat_of_zero_le h0
      have hok : dgOk dn nn kn = true := by simp [dgOk, had]; omega
      have hs : dgStr dn nn kn = ⟨(wordOf dn nn kn).reverse.toArray⟩ := by simp [dgStr, hok]
      have hc : dgCode dn nn kn = 0 := by simp [dgCode, hok]
      have hd0 : (1 : Int) ≤ dn := by omega
      have hd3 : (dn : Int) ≤ 3 := by omega
      have hdz : ((dn : Int) == 0) = false := by simp; omega
      have hO0 : OwnB (w.alloc (.cells #[] 5)) w.heap.size (.slice (some ⟨w.heap.size, 0, none⟩) 0 0) [] := OwnB.empty w w.heap.size 0 #[] (Nat.le_refl _) (by unfold maxLen; omega) rfl
      have hb0 : Below w.heap.size w (w.alloc (.cells #[] 5)) := (Below.refl _ _).alloc (Nat.le_refl _) _
      have Hs := Lib.hid hs; have Hc := Lib.hid hc; clear hs hc hok had
      go_enter Try.func19, Try.ntmps19
      go_wp2_with (first | (go_at_call 36; refine (l01In_calls _ _ _ _).mono ?_; rintro e w' ⟨rfl, rfl⟩) | (go_at_call 37; refine (l01Power30_calls dn nn (by omega) (by omega) _).mono ?_; rintro e w' ⟨rfl, rfl⟩))
      go_loopw [1, 2, 8] (fun m kv out wr => ∃ j i : Nat, i + j = nn ∧ m = .int .i64 i ∧ kv = .int .i64 (dv kn dn j) ∧ OwnB wr w.heap.size out (wordOf dn j kn).reverse ∧ Below w.heap.size w wr) (fun m _ _ _ => (intOf m).toNat)
      case atStart => exact ⟨0, nn, by omega, rfl, by rw [dv_zero], by simpa [wordOf] using hO0, hb0⟩
      case round =>
        clear hO0 hb0
        obtain ⟨j, i, hj, rfl, rfl, hO, hbw⟩ := hrel
        have hsz := hbw.size
        obtain ⟨hb0, hb1⟩ := dv_bd kn dn j
        have hm0 := Int.emod_nonneg (dv kn dn j) (b := (dn : Int)) (by omega)
        have hm1 := Int.emod_lt_of_pos (dv kn dn j) (b := (dn : Int)) (by omega)
        have hq0 : 0 ≤ dv kn dn j / (dn : Int) := Int.ediv_nonneg hb0 (by omega)
        have hj30 : j ≤ 30 := by omega
        have hi30 : i ≤ 30 := by omega
        have Hj := Lib.hid hj; clear hj
        by_cases hlt : 0 < i
        · have Hdg := Lib.hid (back_dig dn j kn hd)
          have Hbk := Lib.hid (back_succ dn j kn)
          have Hln : Hid ((wordOf dn j kn).reverse.length = j) := Lib.hid (by rw [List.length_reverse, length_wordOf])
          generalize UInt8.ofNat (48 + kn / dn ^ j % dn) = b at *
          have Hl : Hid (Value.int .u8 (48 + dv kn dn j % (dn : Int)) = Value.int .u8 (b.toNat : Int)) := Lib.hid (by rw [Hdg.out])
          go_wp2_with (at_builtin; try rw [Hl.out]; refine wpList_push_byte rfl (.tmp 34) (.tmp 40) rfl w.heap.size _ (wordOf dn j kn).reverse rfl (hO.below (Below.alloc (Below.refl _ _) (Nat.le_refl _) (.cells #[.int .u8 (b.toNat : Int)] 5))) _ 1 b rfl (Blk.new _ _ _) (by rw [Hln.out]; omega) (by simp; omega) ?_; intro v1 w4 hO1 hb4)
          go_roundw
          case rel => exact ⟨j + 1, i - 1, by have := Hj.out; omega, by rw [show ((i - 1 : Nat) : Int) = (i : Int) - 1 from by omega], by rw [dv_step], by rw [Hbk.out]; exact hO1, (hbw.alloc hbw.size _).trans hb4⟩
          case measure => simp [intOf] <;> omega
        · obtain rfl : j = nn := by have := Hj.out; omega
          have hstr := run_str_own hO
          go_wp2
          go_ret2
          exact ⟨ret_si (by rw [Hs.out]) Hc.out.symm, hbw⟩
    · have hk1 : decide (0 ≤ k ∧ k ≤ pw dn nn - 1) = false := by simpa using hk
      have hok : dgOk dn nn k = false := by rw [Bool.eq_false_iff]; simp [dgOk]; omega
      obtain ⟨hs, hc⟩ := dg_no hok
      have Hs := Lib.hid hs; have Hc := Lib.hid hc; clear hs hc hok had
      go_enter Try.func19, Try.ntmps19
      go_wp2_with (first | (go_at_call 36; refine (l01In_calls _ _ _ _).mono ?_; rintro e w' ⟨rfl, rfl⟩) | (go_at_call 37; refine (l01Power30_calls dn nn (by omega) (by omega) _).mono ?_; rintro e w' ⟨rfl, rfl⟩))
      go_ret2
      exact ⟨ret_si Hs.out.symm Hc.out.symm, by (repeat (first | exact Below.refl _ _ | refine below_drew' ?_ | refine below_drewN' ?_ _ | refine below_alloc' ?_ _ | refine below_set' ?_ (by (try simp); (try omega)) _ | refine below_step ?_ (by assumption)))⟩
  · have hn1 : decide (0 ≤ n ∧ n ≤ 30) = false := by simpa using hn
    have hok : dgOk dn n k = false := by rw [Bool.eq_false_iff]; simp [dgOk]; omega
    obtain ⟨hs, hc⟩ := dg_no hok
    have Hs := Lib.hid hs; have Hc := Lib.hid hc; clear hs hc hok had
    go_enter Try.func19, Try.ntmps19
    go_wp2_with (first | (go_at_call 36; refine (l01In_calls _ _ _ _).mono ?_; rintro e w' ⟨rfl, rfl⟩))
    go_ret2
    exact ⟨ret_si Hs.out.symm Hc.out.symm, by (repeat (first | exact Below.refl _ _ | refine below_drew' ?_ | refine below_drewN' ?_ _ | refine below_alloc' ?_ _ | refine below_set' ?_ (by (try simp); (try omega)) _ | refine below_step ?_ (by assumption)))⟩

set_option maxRecDepth 100000 in
theorem sDigitsOfNumber_calls (d n k : Int) (w : World) :
    Calls Try.prog 19 #[.int .i64 d, .int .i64 n, .int .i64 k] w fun e w' => e = .returned (.tuple #[.string (dgStr d n k), .int .i64 (dgCode d n k)]) ∧ Below w.heap.size w w' := by
  by_cases hd : d = 2 ∨ d = 3
  · have had := (isAlpha_iff d).2 hd
    obtain ⟨dn, rfl⟩ := Int.eq_ofNat_of_zero_le (a := d) (by omega)
    by_cases h2 : dn = 2
    · exact sDNtwo dn (by omega) had (by simp; omega) n k w
    · exact sDNthree dn (by omega) had (by simp; omega) (by simp; omega) n k w
  · have had := (isAlpha_no d).2 hd
    have h2 : (d != 2) = true := by simp; omega
    have h3 : (d != 3) = true := by simp; omega
    have hok : dgOk d n k = false := by simp [dgOk, had]
    obtain ⟨hs, hc⟩ := dg_no hok
    have Hs := Lib.hid hs; have Hc := Lib.hid hc; clear hs hc hok had hd
    go_enter Try.func19, Try.ntmps19
    go_wp2
    go_ret2
    exact ⟨ret_si Hs.out.symm Hc.out.symm, by (repeat (first | exact Below.refl _ _ | refine below_drew' ?_ | refine below_drewN' ?_ _ | refine below_alloc' ?_ _ | refine below_set' ?_ (by (try simp); (try omega)) _ | refine below_step ?_ (by assumption)))⟩

set_option maxRecDepth 100000 in
theorem lawDigitsOfNumber (d : Int) (_ : (Lit.int .i64 d).wf = true) (n : Int) (_ : (Lit.int .i64 n).wf = true) (k : Int) (_ : (Lit.int .i64 k).wf = true) (w : World) :
    Calls Try.prog 6 #[.int .i64 d, .int .i64 n, .int .i64 k] w fun e w' => e = .returned (.bool true) ∧ Below w.heap.size w w' := by
  go_enter Try.func6, Try.ntmps6
  go_wp2_with (first | (go_at_call 19; refine (sDigitsOfNumber_calls d n k _).mono ?_; rintro e w1 ⟨rfl, hb⟩) | (go_at_call 20; refine (iDigitsOfNumber_calls d n k _).mono ?_; rintro e w2 ⟨rfl, hb2⟩))
  go_ret
  exact ⟨rfl, by (repeat (first | exact Below.refl _ _ | refine below_drew' ?_ | refine below_drewN' ?_ _ | refine below_alloc' ?_ _ | refine below_set' ?_ (by (try simp); (try omega)) _ | refine below_step ?_ (by assumption)))⟩
end Go.Proofs.Ytkhpfjamkkicoaa
