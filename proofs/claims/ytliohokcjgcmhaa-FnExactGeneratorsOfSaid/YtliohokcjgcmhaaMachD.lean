/- 'IsMachine': the program's check comes to the model's. -/
import Derived.Test.YtliohokcjgcmhaaMachC
import Derived.Test.YtliohokcjgcmhaaMachU
import Derived.Test.YtliohokcjgcmhaaHeldK
namespace Go.Proofs.Ytliohokcjgcmhaa
open Go.RowKit

/-- The entries that are used are good in the first q rows. -/
def rowsUpTo (M : Mach) (L S q : Nat) : Bool := (List.range q).all fun i => rowUpTo M L S i L
theorem rowsUpTo_succ (M : Mach) (L S q : Nat) : rowsUpTo M L S (q + 1) = (rowsUpTo M L S q && rowUpTo M L S q L) := by simp [rowsUpTo, List.range_succ]
theorem rowsUpTo_bad {M : Mach} {L S q m : Nat} (hq : q < m) (h : rowUpTo M L S q L = false) : rowsUpTo M L S m = false := by
  unfold rowsUpTo; rw [List.all_eq_false]; exact ⟨q, by simpa using hq, by simp [h]⟩

theorem used_iff {M : Mach} (h : M.Ok) (L S : Nat) (_ : S ≤ 16) (_ : L ≤ 3) : M = usedM M L S S ↔ ∀ q x, q < 16 → x < 3 → ¬ (q < S ∧ x < L) → M.n q x = 0 ∧ M.o q x = 0 := by
  have h1 := h.nx48; have h2 := h.ot48
  have lem : ∀ l : List Int, l.length = 48 → (l = usedL l L S ↔ ∀ q x, q < 16 → x < 3 → ¬ (q < S ∧ x < L) → l.getD (q * 3 + x) 0 = 0) := fun l hl => by
    constructor
    · intro e q x hq hx hn
      have := congrArg (fun l => l.getD (q * 3 + x) 0) e
      rw [this, usedL_get _ _ _ _ (by omega), if_neg (by omega)]
    · intro hz
      apply List.ext_getElem
      · rw [hl, usedL_len]
      · intro i hi1 hi2
        have e := usedL_get l L S i (by omega)
        rw [List.getD, List.getElem?_eq_getElem hi2] at e
        simp only [Option.getD_some] at e
        rw [e]
        split
        · simp [List.getD, List.getElem?_eq_getElem hi1]
        · rename_i hn
          have := hz (i / 3) (i % 3) (by omega) (by omega) hn
          rw [show i / 3 * 3 + i % 3 = i from by omega] at this
          simpa [List.getD, List.getElem?_eq_getElem hi1] using this
  constructor
  · intro e q x hq hx hn
    have e1 : M.nx = usedL M.nx L S := congrArg Mach.nx e
    have e2 : M.ot = usedL M.ot L S := congrArg Mach.ot e
    exact ⟨(lem M.nx h1).1 e1 q x hq hx hn, (lem M.ot h2).1 e2 q x hq hx hn⟩
  · intro hz
    have e1 := (lem M.nx h1).2 fun q x hq hx hn => (hz q x hq hx hn).1
    have e2 := (lem M.ot h2).2 fun q x hq hx hn => (hz q x hq hx hn).2
    unfold usedM; rw [← e1, ← e2]

theorem mach_iff {M : Mach} (h : M.Ok) (L S : Nat) (h16 : S ≤ 16) (h3 : L ≤ 3) : machUpTo M L S 16 = (rowsUpTo M L S S && decide (M = usedM M L S S)) := by
  rw [Bool.eq_iff_iff, Bool.and_eq_true, decide_eq_true_iff, used_iff h L S h16 h3]
  simp only [machUpTo, rowsUpTo, rowAll, rowUpTo, List.all_eq_true, List.mem_range]
  constructor
  · intro hm
    refine ⟨fun q hq x hx => ?_, fun q x hq hx hn => ?_⟩
    · have := hm q (by omega) x (by omega)
      unfold cellAll at this; rwa [if_pos ⟨hq, hx⟩] at this
    · have := hm q hq x hx
      unfold cellAll at this; rw [if_neg hn] at this; simpa using this
  · rintro ⟨hr, hz⟩ q hq x hx
    unfold cellAll
    by_cases c : q < S ∧ x < L
    · rw [if_pos c]; exact hr q c.1 x c.2
    · rw [if_neg c]; simpa using hz q x hq hx c

set_option maxRecDepth 100000 in
set_option maxHeartbeats 1000000 in
theorem IsMachine_calls (M : Mach) (hok : M.Ok) (w : World) :
    Calls Try.prog 73 #[.agg (mc M)] w fun e w' => e = .returned (.bool (isMach M)) ∧ Below w.heap.size w w' := by
  by_cases hL : M.L = 2 ∨ M.L = 3
  · have hal := (isAlpha_iff M.L).2 hL
    obtain ⟨L, hLn⟩ := Int.eq_ofNat_of_zero_le (a := M.L) (by omega)
    have hcL := mc_L M
    have hcS := mc_S M
    rw [hLn] at hcL hal
    have hl2 : 2 ≤ L := by omega
    have hl3 : L ≤ 3 := by omega
    by_cases hS1 : 1 ≤ M.S
    · by_cases hS16 : M.S ≤ 16
      · obtain ⟨S, hSn⟩ := Int.eq_ofNat_of_zero_le (a := M.S) (by omega)
        rw [hSn] at hcS
        have h1 : 1 ≤ S := by omega
        have h16 : S ≤ 16 := by omega
        have hm : isMach M = machUpTo M L S 16 := by
          unfold isMach
          rw [hLn, hSn, Int.toNat_natCast, Int.toNat_natCast, show decide (2 ≤ (L : Int) ∧ (L : Int) ≤ 3) = true from by simp; omega, show decide (1 ≤ (S : Int) ∧ (S : Int) ≤ 16) = true from by simp; omega]
          rfl
        rw [mach_iff hok L S h16 hl3] at hm
        have Hm := Lib.hid hm; clear hm hL hS1 hS16
        have HL := Lib.hid hLn; have HS := Lib.hid hSn; clear hLn hSn
        have hB : Blk (w.alloc (.cells (mc M) 27)) w.heap.size (mc M) 27 := Blk.new w _ _
        go_enter Try.func73, Try.ntmps73
        go_wp2_with (first | (go_at_call 136; refine (isAlphabet_calls _ _).mono ?_; rintro e w' ⟨rfl, rfl⟩))
        go_loopw [20] (fun i wr => ∃ q : Nat, q ≤ S ∧ i = .int .i64 q ∧ Blk wr w.heap.size (mc M) 27 ∧ Below w.heap.size w wr ∧ Hid (rowsUpTo M L S q = true)) (fun i _ => S - (intOf i).toNat)
        case atStart => exact ⟨0, by omega, rfl, hB, by (repeat (first | exact Below.refl _ _ | refine below_drew' ?_ | refine below_drewN' ?_ _ | refine below_alloc' ?_ _ | refine below_set' ?_ (by (try simp); (try omega)) _ | refine below_step ?_ (by assumption))), Lib.hid rfl⟩
        case round =>
          clear hB
          obtain ⟨q, hq, rfl, hB, hbw, HR⟩ := hrel
          have F1 : Hid (cut (mc M) 0 98 = mc M) := Lib.hid (cut_all _ _ (mc_size hok))
          have F2 : Hid (0 + 98 ≤ (mc M).size) := Lib.hid (by rw [mc_size hok]; omega)
          by_cases hlt : q < S
          · cases hr : rowUpTo M L S q L
            · have Hbad := Lib.hid (rowsUpTo_bad hlt hr : rowsUpTo M L S S = false)
              go_wp2_with (first | (with_reducible show wpList _ _ _ _ _ _; refine wpList_load_blk rfl 27 (.tmp 1) rfl w.heap.size 0 rfl (mc M) _ hB 98 F2.out _ Try.underlying27 rfl size_mach ?_; rw [F1.out]) | (go_at_call 137; refine (isStateRow_calls M hok L S q HL.out HS.out hl3 h16 hlt _).mono ?_; rintro e w1 ⟨rfl, hb1⟩))
              go_ret
              exact ⟨ret_bool (by rw [Hm.out, Hbad.out]; rfl), by (repeat (first | exact Below.refl _ _ | refine below_drew' ?_ | refine below_drewN' ?_ _ | refine below_alloc' ?_ _ | refine below_set' ?_ (by (try simp); (try omega)) _ | refine below_step ?_ (by assumption)))⟩
            · have Hok := Lib.hid (by rw [rowsUpTo_succ, HR.out, hr]; rfl : rowsUpTo M L S (q + 1) = true)
              go_wp2_with (first | (with_reducible show wpList _ _ _ _ _ _; refine wpList_load_blk rfl 27 (.tmp 1) rfl w.heap.size 0 rfl (mc M) _ hB 98 F2.out _ Try.underlying27 rfl size_mach ?_; rw [F1.out]) | (go_at_call 137; refine (isStateRow_calls M hok L S q HL.out HS.out hl3 h16 hlt _).mono ?_; rintro e w1 ⟨rfl, hb1⟩))
              go_roundw
              case rel => exact ⟨q + 1, by omega, by go_num, hB.keptAll hb1, by (repeat (first | exact Below.refl _ _ | refine below_drew' ?_ | refine below_drewN' ?_ _ | refine below_alloc' ?_ _ | refine below_set' ?_ (by (try simp); (try omega)) _ | refine below_step ?_ (by assumption))), Hok⟩
              case measure => simp [intOf] <;> omega
          · obtain rfl : q = S := by omega
            have heq := run_eq_mach hok (usedM_ok hok L q q)
            go_wp2_with fail
            refine wp_region_quiet (C := fun W => Blk W w.heap.size (mc M) 27 ∧ Below w.heap.size w W) (by kernel_rfl) (by kernel_rfl) ⟨hB.drew, hbw.drew⟩ ?_
            refine wpQuiet_load_blk rfl 27 _ rfl w.heap.size 0 rfl (mc M) _ (fun W hW => hW.1) 98 F2.out _ Try.underlying27 rfl size_mach ?_
            refine wpQuiet_load_blk rfl 27 _ rfl w.heap.size 0 rfl (mc M) _ (fun W hW => hW.1) 98 F2.out _ Try.underlying27 rfl size_mach ?_
            rw [F1.out]
            refine wpQuiet_call rfl 138 _ _ rfl #[.agg (mc M)] (.agg (mc (usedM M L q q))) (fun W => by go_simp) (fun W hW => (usedPart_calls M hok L q HL.out HS.out hl2 hl3 h1 h16 W).mono fun e w'' h => ⟨h.1, hW.1.keptAll h.2, below_step hW.2 h.2⟩) ?_
            refine wpQuiet_val rfl (.bool (decide (M = usedM M L q q))) (fun W _ => by go_simp) ?_
            refine wpQuiet_val rfl (.bool (decide (M = usedM M L q q))) (fun W _ => by go_simp) ?_
            refine wpQuiet_nil ?_
            rintro w2 ⟨_, hbw2⟩
            go_wp2
            go_ret
            exact ⟨ret_bool (by rw [Hm.out, HR.out]; rfl), hbw2⟩
      · have hm : isMach M = false := by unfold isMach; rw [show decide (1 ≤ M.S ∧ M.S ≤ 16) = false from by simp; omega]; simp
        have Hm := Lib.hid hm; clear hm hL hLn
        go_enter Try.func73, Try.ntmps73
        go_wp2_with (first | (go_at_call 136; refine (isAlphabet_calls _ _).mono ?_; rintro e w' ⟨rfl, rfl⟩))
        go_ret
        exact ⟨ret_bool Hm.out.symm, by (repeat (first | exact Below.refl _ _ | refine below_drew' ?_ | refine below_drewN' ?_ _ | refine below_alloc' ?_ _ | refine below_set' ?_ (by (try simp); (try omega)) _ | refine below_step ?_ (by assumption)))⟩
    · have hm : isMach M = false := by unfold isMach; rw [show decide (1 ≤ M.S ∧ M.S ≤ 16) = false from by simp; omega]; simp
      have Hm := Lib.hid hm; clear hm hL hLn
      go_enter Try.func73, Try.ntmps73
      go_wp2_with (first | (go_at_call 136; refine (isAlphabet_calls _ _).mono ?_; rintro e w' ⟨rfl, rfl⟩))
      go_ret
      exact ⟨ret_bool Hm.out.symm, by (repeat (first | exact Below.refl _ _ | refine below_drew' ?_ | refine below_drewN' ?_ _ | refine below_alloc' ?_ _ | refine below_set' ?_ (by (try simp); (try omega)) _ | refine below_step ?_ (by assumption)))⟩
  · have hal := (isAlpha_no M.L).2 hL
    have hm : isMach M = false := by unfold isMach; rw [show decide (2 ≤ M.L ∧ M.L ≤ 3) = false from by simp; omega]; simp
    have hcL := mc_L M
    have Hm := Lib.hid hm; clear hm hL
    go_enter Try.func73, Try.ntmps73
    go_wp2_with (first | (go_at_call 136; refine (isAlphabet_calls _ _).mono ?_; rintro e w' ⟨rfl, rfl⟩))
    go_ret
    exact ⟨ret_bool Hm.out.symm, by (repeat (first | exact Below.refl _ _ | refine below_drew' ?_ | refine below_drewN' ?_ _ | refine below_alloc' ?_ _ | refine below_set' ?_ (by (try simp); (try omega)) _ | refine below_step ?_ (by assumption)))⟩

set_option maxRecDepth 100000 in
set_option maxHeartbeats 1000000 in
/-- The model's check, at every machine. -/
theorem l01Is_calls (M : Mach) (hok : M.Ok) (w : World) :
    Calls Try.prog 71 #[.agg (mc M)] w fun e w' => e = .returned (.bool (isMach M)) ∧ Below w.heap.size w w' := by
  by_cases hL : 2 ≤ M.L ∧ M.L ≤ 3
  · by_cases hS : 1 ≤ M.S ∧ M.S ≤ 16
    · obtain ⟨L, hLn⟩ := Int.eq_ofNat_of_zero_le (a := M.L) (by omega)
      obtain ⟨S, hSn⟩ := Int.eq_ofNat_of_zero_le (a := M.S) (by omega)
      exact l01Is_good M hok L S hLn hSn (by omega) (by omega) (by omega) (by omega) w
    · have hm : isMach M = false := by unfold isMach; rw [show decide (1 ≤ M.S ∧ M.S ≤ 16) = false from by simp; omega]; simp
      have hcL := mc_L M
      have hcS := mc_S M
      have hd1 : decide (2 ≤ M.L ∧ M.L ≤ 3) = true := by simpa using hL
      have hd2 : decide (1 ≤ M.S ∧ M.S ≤ 16) = false := by simpa using hS
      have Hm := Lib.hid hm; clear hm hL hS
      go_enter Try.func71, Try.ntmps71
      go_wp2_with (first | (go_at_call 102; refine (l01In_calls _ _ _ _).mono ?_; rintro e w' ⟨rfl, rfl⟩))
      go_ret
      exact ⟨ret_bool Hm.out.symm, by (repeat (first | exact Below.refl _ _ | refine below_drew' ?_ | refine below_drewN' ?_ _ | refine below_alloc' ?_ _ | refine below_set' ?_ (by (try simp); (try omega)) _ | refine below_step ?_ (by assumption)))⟩
  · have hm : isMach M = false := by unfold isMach; rw [show decide (2 ≤ M.L ∧ M.L ≤ 3) = false from by simp; omega]; simp
    have hcL := mc_L M
    have hcS := mc_S M
    have hd1 : decide (2 ≤ M.L ∧ M.L ≤ 3) = false := by simpa using hL
    have Hm := Lib.hid hm; clear hm hL
    go_enter Try.func71, Try.ntmps71
    go_wp2_with (first | (go_at_call 102; refine (l01In_calls _ _ _ _).mono ?_; rintro e w' ⟨rfl, rfl⟩))
    go_ret
    exact ⟨ret_bool Hm.out.symm, by (repeat (first | exact Below.refl _ _ | refine below_drew' ?_ | refine below_drewN' ?_ _ | refine below_alloc' ?_ _ | refine below_set' ?_ (by (try simp); (try omega)) _ | refine below_step ?_ (by assumption)))⟩
end Go.Proofs.Ytliohokcjgcmhaa
