/- 'ReturnWords', 'BoundaryWords': the model. -/
import Derived.Test.YtdbdoohcpcjfdaaBwI
import Derived.Test.YtdbdoohcpcjfdaaStL
import Derived.Test.YtdbdoohcpcjfdaaTriS
namespace Go.Proofs.Ytdbdoohcpcjfdaa
open Go.RowKit

theorem rwC_gCv (M : Mach) (q n : Int) : rwC M q n = if gCv M n = 0 then (if stIn M q = true then 0 else 2) else gCv M n := by
  unfold rwC gCv stIn
  cases isMach M
  · simp
  · cases gLv M n
    · simp
    · by_cases h : 0 ≤ q ∧ q < M.S
      · simp [h]
      · simp [h]

set_option maxRecDepth 100000 in
set_option maxHeartbeats 4000000 in
theorem sReturnWords_calls (M : Mach) (hok : M.Ok) (q n : Int) (w : World) :
    Calls Try.prog 18 #[.agg (mc M), .int .i64 q, .int .i64 n] w fun e w' => ∃ v, e = .returned (.tuple #[v, .int .i64 (rwC M q n)]) ∧ OwnI w' w.heap.size v (rwR M q n) ∧ Below w.heap.size w w' := by
  have F1 : Hid (cut (mc M) 0 98 = mc M) := Lib.hid (cut_all _ _ (mc_size hok)); have F2 : Hid (0 + 98 ≤ (mc M).size) := Lib.hid (by rw [mc_size hok]; omega)
  have hB : Blk (w.alloc (.cells (mc M) 28)) w.heap.size (mc M) 28 := Blk.new w _ _
  have hbw0 : Below w.heap.size w (w.alloc (.cells (mc M) 28)) := by (repeat (first | exact Below.refl _ _ | refine below_drew' ?_ | refine below_drewN' ?_ _ | refine below_alloc' ?_ _ | refine below_set' ?_ (by (try simp); (try omega)) _ | refine below_step ?_ (by assumption)))
  have HC := Lib.hid (fun W => l05Code_lv M hok n W)
  have HE := Lib.hid (rwC_gCv M q n)
  by_cases h0 : gCv M n = 0
  · rw [h0] at HC
    obtain ⟨L, S, nk, hg, rfl, h7, hl⟩ := gCv_nat hok h0
    have hm := hg.isMach
    obtain ⟨mL2, mL3, mS1, mS16⟩ := stMach_small hm
    have wM := stWrap ⟨mS1, mS16⟩
    have HN := Lib.hid (fun W => l01In_calls q 0 (M.S - 1) W)
    rw [stIn_model] at HN
    cases hs : stIn M q
    · rw [hs] at HN
      have Hc : Hid (rwC M q nk = 2) := Lib.hid (by rw [HE.out, if_pos h0, hs]; rfl)
      have Hr : Hid (rwR M q nk = []) := Lib.hid (by unfold rwR; rw [Hc.out]; rfl)
      rw [Hr.out]
      clear hs h0 hm HE
      go_enter Try.func18, Try.ntmps18
      go_wp2_with (first | (with_reducible show wpList _ _ _ _ _ _; refine wpList_load_blk rfl 28 (.tmp 3) rfl w.heap.size 0 rfl (mc M) _ (hB) 98 F2.out _ Try.underlying28 rfl size_mach ?_; rw [F1.out]) | (go_at_call 41; refine (HC.out _).mono ?_; rintro e w1 ⟨rfl, hb1⟩; have sM := ((hB.keptAll hb1).cell 1).trans (mc_S M)) | (go_at_call 36; refine (HN.out _).mono ?_; rintro e w' ⟨rfl, rfl⟩))
      go_ret2
      exact ⟨_, ret_li' Hc.out.symm, OwnI.nil _ _, below_step hbw0 hb1⟩
    · rw [hs] at HN
      have hc : rwC M q nk = 0 := by rw [HE.out, if_pos h0, hs]; rfl
      have h2 : 0 ≤ q ∧ q < M.S := by unfold stIn at hs; exact of_decide_eq_true hs
      obtain ⟨qn, rfl⟩ := Int.eq_ofNat_of_zero_le h2.1
      have hq : qn < S := by have := hg.hS; omega
      clear h2
      have Hc := Lib.hid hc
      have Hr := Lib.hid (rwR_good hg hc)
      have hS16 := hg.S16
      have hL3 := hg.L3
      have hL2 := hg.L2
      have hL23 := hg.L23
      have hcL := mc_L M
      rw [hg.hL] at hcL
      have HcL := Lib.hid hcL
      have HT := Lib.hid (fun W => l01Classes_calls M L S hg W)
      have hn5 : nk ≤ 5 := by omega
      have hpw : pw L nk = ((L ^ nk : Nat) : Int) := rfl
      have hN1 := pow_le L nk hL3 hn5
      have hzi := zero_i16
      have Hzi : Hid ((ints zer).size = 16) := Lib.hid (by rw [ints_size]; rfl)
      have Hcs : Hid ((ints (clsS M L S (S + 1))).size = 16) := Lib.hid (by rw [ints_size, clsS_len])
      have Hco : Hid (over (ints zer) 0 (ints (clsS M L S (S + 1))) = ints (clsS M L S (S + 1))) := Lib.hid (over_all _ _ (by rw [Hcs.out, Hzi.out]))
      have Hcat := Lib.hid (fun p (hp : p < S) => by have e := ints_at (clsS M L S (S + 1)) p (by rw [clsS_len]; omega); rw [clsS_at M L S (S + 1) p hp hS16] at e; exact e)
      have HPw := Lib.hid (fun W => l01Power_calls L nk hL3 hn5 W)
      rw [Hr.out]
      clear hs h0 hm HE hc hcL hl
      generalize L ^ nk = N at *
      generalize clsS M L S (S + 1) = cl at *
      go_enter Try.func18, Try.ntmps18
      go_wp2_with (first | (with_reducible show wpList _ _ _ _ _ _; refine wpList_load_blk rfl 28 (.tmp 3) rfl w.heap.size 0 rfl (mc M) _ (by first | exact hB1 | exact hB) 98 F2.out _ Try.underlying28 rfl size_mach ?_; rw [F1.out]) | (go_at_call 41; refine (HC.out _).mono ?_; rintro e w1 ⟨rfl, hb1⟩; have hB1 := hB.keptAll hb1; have sM := (hB1.cell 1).trans (mc_S M)) | (go_at_call 36; refine (HN.out _).mono ?_; rintro e w' ⟨rfl, rfl⟩) | (go_at_call 42; refine (HT.out _).mono ?_; rintro e w2 ⟨rfl, hb2⟩; have hM2 := ((hB1.keptAll hb2).alloc (.cells #[] 2)).alloc (.cells (ints zer) 54); have hE2 : Blk ((w2.alloc (.cells #[] 2)).alloc (.cells (ints zer) 54)) w2.heap.size #[] 2 := (Blk.new _ _ _).alloc _; have hX2 : Blk ((w2.alloc (.cells #[] 2)).alloc (.cells (ints zer) 54)) (w2.heap.size + 1) (ints zer) 54 := Blk.new_at _ _ _ _ (by simp); have hbw2 := below_alloc' (below_alloc' (below_step (below_step hbw0 hb1) hb2) (.cells #[] 2)) (.cells (ints zer) 54); have hlt2 := (hB1.keptAll hb2).lt) | (with_reducible show wpList _ _ _ _ _ _; refine wpList_store_row rfl 54 _ _ rfl (w2.heap.size + 1) 0 (ints cl) rfl rfl _ _ hX2 (by rw [Hcs.out, Hzi.out]; omega) (by rw [Hcs.out]; exact size_i16) (ints_one _) _ Hco.out ?_; intro w3 hs3; have hM3 := hs3.keep (by omega) hM2; have hE3 := hs3.keep (by omega) hE2; have hX3 := hs3.blk; have hbw3 := hs3.below _ _ (by omega) hbw2))
      have hO3 : OwnI w3 w2.heap.size (.slice (some ⟨w2.heap.size, 0, none⟩) 0 0) (whK (retP M L S qn) L nk 0) := OwnI.made rfl (by unfold maxLen; omega) (Nat.le_refl _) hE3
      have hT2 : 54 ≠ 2 := by decide
      have hT3 : 28 ≠ 2 := by decide
      have HT2 := Lib.hid hT2
      have HT3 := Lib.hid hT3
      have hwg := hbw3.size
      clear hE3 hM2 hE2 hX2 hbw2 hs3 hB1 hb1 hb2 sM hT2 hT3 hzi
      generalize w2.heap.size = b0 at *
      go_loopw [10, 11] (fun ov i wr => ∃ (k : Nat) (v0 : Value), k ≤ N ∧ i = .int .i64 k ∧ v0 = ov ∧ (Blk wr w.heap.size (mc M) 28 ∧ Blk wr (b0 + 1) (ints cl) 54) ∧ OwnI wr b0 v0 (whK (retP M L S qn) L nk k) ∧ Below w.heap.size w wr) (fun _ i _ => N - (intOf i).toNat)
      case atStart => exact ⟨0, _, by omega, rfl, rfl, ⟨hM3, hX3⟩, hO3, hbw3⟩
      case round =>
        clear hM3 hX3 hO3 hbw3 hwg
        obtain ⟨k, v0, hk, rfl, rfl, ⟨hM, hX⟩, hO, hbw⟩ := hrel
        have cL := hM.cell 0
        rw [HcL.out] at cL
        by_cases hlt : k < N
        · have hWl := lettersL_wordOf L hL23 nk k
          have hWs : (⟨(wordOf L nk k).toArray⟩ : ByteArray).size ≤ 40 := by show (wordOf L nk k).toArray.size ≤ 40; simp [length_wordOf]; omega
          have hkp : (k : Int) < pw L nk := by rw [hpw]; omega
          have hrS := hg.run_st qn hq _ hWl
          have hwo : (wordS L nk k).data.toList = wordOf L nk k := by simp [wordS]
          have hP : retP M L S qn (wordS L nk k) = decide (lst M L (S + 1) (runL M qn (wordOf L nk k)).1 = lst M L (S + 1) qn) := by unfold retP; rw [hwo]
          go_wp2_with (go_at_call 43; refine (HPw.out _).mono ?_; rintro e w' ⟨rfl, rfl⟩)
          clear cL
          refine wp_region_quiet (C := fun W => Blk W w.heap.size (mc M) 28 ∧ Blk W (b0 + 1) (ints cl) 54 ∧ OwnI W b0 v0 (whK (retP M L S qn) L nk k) ∧ Below w.heap.size w W) (by kernel_rfl) (by kernel_rfl) ⟨hM.drew, hX.drew, hO.below (by (repeat (first | exact Below.refl _ _ | refine below_drew' ?_ | refine below_drewN' ?_ _ | refine below_alloc' ?_ _ | refine below_set' ?_ (by (try simp); (try omega)) _ | refine below_step ?_ (by assumption)))), hbw.drew⟩ ?_
          refine wpQuiet_load_blk rfl 28 _ rfl w.heap.size 0 rfl (mc M) _ (fun W hW => hW.1) 98 F2.out _ Try.underlying28 rfl size_mach ?_
          rw [F1.out]
          refine wpQuiet_val rfl (.int .i64 (qn : Int)) (fun W _ => by go_simp) ?_
          refine wpQuiet_val rfl (.pointer (some ⟨w.heap.size, 0, none⟩)) (fun W _ => by go_simp) ?_
          refine wpQuiet_val rfl (.int .i64 (L : Int)) (fun W hW => by have c0 := hW.1.cell 0; rw [HcL.out] at c0; clear hW; go_simp) ?_
          refine wpQuiet_val rfl (.int .i64 (nk : Int)) (fun W _ => by go_simp) ?_
          refine wpQuiet_val rfl (.int .i64 (k : Int)) (fun W _ => by go_simp) ?_
          refine wpQuiet_call rfl 44 _ _ rfl #[.int .i64 L, .int .i64 nk, .int .i64 k] (.string ⟨(wordOf L nk k).toArray⟩) (fun W => by go_simp) (fun W hW => (l01WordOf_calls L hL23 nk nk k W hn5 (by omega) (by omega) (by omega) (by omega)).mono fun e w'' h => ⟨by rw [h.1]; rfl, hW.1.keptAll h.2, hW.2.1.keptAll h.2, hW.2.2.1.below h.2, below_step hW.2.2.2 h.2⟩) ?_
          refine wpQuiet_call rfl 29 _ _ rfl #[.agg (mc M), .int .i64 (qn : Int), .string ⟨(wordOf L nk k).toArray⟩] (.tuple #[.string ⟨(runL M qn (wordOf L nk k)).2.toArray⟩, .int .i64 ((runL M qn (wordOf L nk k)).1 : Nat)]) (fun W => by go_simp) (fun W hW => (l01Act_calls M L S hg qn hq ⟨(wordOf L nk k).toArray⟩ hWs hWl W).mono fun e w'' h => ⟨h.1, hW.1.keptAll h.2, hW.2.1.keptAll h.2, hW.2.2.1.below h.2, below_step hW.2.2.2 h.2⟩) ?_
          refine wpQuiet_val rfl (.tuple #[.string ⟨(runL M qn (wordOf L nk k)).2.toArray⟩, .int .i64 ((runL M qn (wordOf L nk k)).1 : Nat)]) (fun W _ => by go_simp) ?_
          refine wpQuiet_val rfl (.string ⟨(runL M qn (wordOf L nk k)).2.toArray⟩) (fun W _ => by go_simp) ?_
          refine wpQuiet_val rfl (.int .i64 ((runL M qn (wordOf L nk k)).1 : Nat)) (fun W _ => by go_simp) ?_
          refine wpQuiet_val rfl (.string ⟨(runL M qn (wordOf L nk k)).2.toArray⟩) (fun W _ => by go_simp) ?_
          refine wpQuiet_val rfl (.int .i64 ((runL M qn (wordOf L nk k)).1 : Nat)) (fun W _ => by go_simp) ?_
          refine wpQuiet_nil ?_
          rintro w3 ⟨hM', hX', hO', hbw'⟩
          clear hM hX hO hbw hWl hWs hwo hkp
          generalize (runL M qn (wordOf L nk k)).2 = im at *
          generalize (runL M qn (wordOf L nk k)).1 = p at *
          have e1 := Hcat.out p hrS
          have e2 := Hcat.out qn hq
          have cp := hX'.cell p
          rw [e1] at cp
          have cq := hX'.cell qn
          rw [e2] at cq
          have hp16 : (p : Int) < 16 := by omega
          have hq16 : (qn : Int) < 16 := by omega
          have Hln := Lib.hid (whK_len (retP M L S qn) L nk k)
          by_cases he : lst M L (S + 1) p = lst M L (S + 1) qn
          · have Hsn := Lib.hid (whK_yes (retP M L S qn) L nk k (by rw [hP]; exact decide_eq_true he))
            have hbe : ((lst M L (S + 1) p : Int) == (lst M L (S + 1) qn : Int)) = true := by rw [he]; simp
            clear he e1 e2 hP
            generalize lst M L (S + 1) p = zp at *
            generalize lst M L (S + 1) qn = zq at *
            go_wp2
            go_quiet (fail)
            clear cp cq
            have hbd : Below w3.heap.size w3 (w3.drewN nq) := below_drewN' (Below.refl _ _) nq
            have hM4 := hM'.keptAll hbd
            have hX4 := hX'.keptAll hbd
            have hO4 := hO'.below hbd
            have hbw4 := below_step hbw' hbd
            clear hM' hX' hO' hbw' hbd
            generalize w3.drewN nq = w4 at *
            generalize whK (retP M L S qn) L nk k = kl at *
            obtain ⟨ov, cv, hv0, _⟩ := hO4.view
            subst hv0
            have hXl := hX4.lt
            have hOa := hO4.below (Below.alloc (Below.refl _ _) (Nat.le_refl _) (.cells #[.int .i64 (k : Int)] 2))
            have hMa := hM4.alloc (.cells #[.int .i64 (k : Int)] 2)
            have hXa := hX4.alloc (.cells #[.int .i64 (k : Int)] 2)
            have hbwa := below_alloc' hbw4 (.cells #[.int .i64 (k : Int)] 2)
            go_wp2_with (at_builtin; refine wpList_push_int_x rfl (.tmp 59) (.tmp 61) rfl b0 _ kl rfl hOa w4.heap.size 1 (k : Int) rfl (Blk.new w4 _ _) (by have := Hln.out; omega) (by simp; omega) ?_; intro v9 w9 hO9 hb9 hsp9; have hM9 := spares_t hsp9 hMa hOa HT3.out; have hX9 := spares_t hsp9 hXa hOa HT2.out; have hbw9 := hbwa.trans (below_le hb9 (by omega)))
            go_roundw
            case rel => exact ⟨k + 1, _, by omega, by go_num, rfl, ⟨hM9, hX9⟩, by rw [Hsn.out]; exact hO9, hbw9⟩
            case measure => simp [intOf] <;> omega
          · have Hsn := Lib.hid (whK_no (retP M L S qn) L nk k (by rw [hP]; exact decide_eq_false he))
            have hbe : ((lst M L (S + 1) p : Int) == (lst M L (S + 1) qn : Int)) = false := by
              rw [beq_eq_false_iff_ne]
              intro h
              exact he (by omega)
            clear he e1 e2 hP
            generalize lst M L (S + 1) p = zp at *
            generalize lst M L (S + 1) qn = zq at *
            go_wp2
            go_quiet (fail)
            clear cp cq
            have hbd : Below w3.heap.size w3 (w3.drewN nq) := below_drewN' (Below.refl _ _) nq
            go_wp2
            go_roundw
            case rel => exact ⟨k + 1, _, by omega, by go_num, rfl, ⟨hM'.keptAll hbd, hX'.keptAll hbd⟩, by rw [Hsn.out]; exact hO'.below hbd, below_step hbw' hbd⟩
            case measure => simp [intOf] <;> omega
        · obtain rfl : k = N := by omega
          have hkp : ¬ (k : Int) < pw L nk := by rw [hpw]; omega
          go_wp2_with (go_at_call 43; refine (HPw.out _).mono ?_; rintro e w' ⟨rfl, rfl⟩)
          go_ret2
          exact ⟨_, ret_li' Hc.out.symm, hO.base_le' (by omega), hbw⟩
  · obtain ⟨c, hcc⟩ : ∃ c, gCv M n = c := ⟨_, rfl⟩
    have Hc : Hid (rwC M q n = c) := Lib.hid (by rw [HE.out, if_neg h0, hcc])
    have Hr : Hid (rwR M q n = []) := Lib.hid (by unfold rwR; rw [if_neg (by rw [Hc.out, ← hcc]; exact h0)])
    rw [hcc] at h0 HC
    have hcb : (c == 0) = false := by simpa using h0
    have hcb2 : (c != 0) = true := by simpa using h0
    rw [Hr.out]
    clear h0 HE hcc
    go_enter Try.func18, Try.ntmps18
    go_wp2_with (first | (with_reducible show wpList _ _ _ _ _ _; refine wpList_load_blk rfl 28 (.tmp 3) rfl w.heap.size 0 rfl (mc M) _ (hB) 98 F2.out _ Try.underlying28 rfl size_mach ?_; rw [F1.out]) | (go_at_call 41; refine (HC.out _).mono ?_; rintro e w1 ⟨rfl, hb1⟩))
    go_ret2
    exact ⟨_, ret_li' Hc.out.symm, OwnI.nil _ _, below_step hbw0 hb1⟩

set_option maxRecDepth 100000 in
set_option maxHeartbeats 4000000 in
theorem sBoundaryWords_calls (M : Mach) (hok : M.Ok) (n : Int) (w : World) :
    Calls Try.prog 20 #[.agg (mc M), .int .i64 n] w fun e w' => ∃ v, e = .returned (.tuple #[v, .int .i64 (gCv M n)]) ∧ OwnI w' w.heap.size v (bwR M n) ∧ Below w.heap.size w w' := by
  have F1 : Hid (cut (mc M) 0 98 = mc M) := Lib.hid (cut_all _ _ (mc_size hok)); have F2 : Hid (0 + 98 ≤ (mc M).size) := Lib.hid (by rw [mc_size hok]; omega)
  have hB : Blk (w.alloc (.cells (mc M) 28)) w.heap.size (mc M) 28 := Blk.new w _ _
  have hbw0 : Below w.heap.size w (w.alloc (.cells (mc M) 28)) := by (repeat (first | exact Below.refl _ _ | refine below_drew' ?_ | refine below_drewN' ?_ _ | refine below_alloc' ?_ _ | refine below_set' ?_ (by (try simp); (try omega)) _ | refine below_step ?_ (by assumption)))
  have HC := Lib.hid (fun W => l05Code_lv M hok n W)
  by_cases h0 : gCv M n = 0
  · rw [h0] at HC
    obtain ⟨L, S, nk, hg, rfl, h7, hl⟩ := gCv_nat hok h0
    have Hc := Lib.hid h0
    have Hr := Lib.hid (bwR_good hg h0)
    have hS16 := hg.S16
    have hL3 := hg.L3
    have hL2 := hg.L2
    have hL23 := hg.L23
    have hcL := mc_L M
    rw [hg.hL] at hcL
    have HcL := Lib.hid hcL
    have hcS := mc_S M
    rw [hg.hS] at hcS
    have HcS := Lib.hid hcS
    have HT := Lib.hid (fun W => l01Trivial_calls M L S hg W)
    have hn5 : nk ≤ 5 := by omega
    have hpw : pw L nk = ((L ^ nk : Nat) : Int) := rfl
    have hN1 := pow_le L nk hL3 hn5
    have hzb := zero_b16
    have Hzb : Hid ((bl nob).size = 16) := Lib.hid (by rw [bl_size]; rfl)
    have HPw := Lib.hid (fun W => l01Power_calls L nk hL3 hn5 W)
    rw [Hr.out]
    clear h0 hcL hcS hl
    generalize L ^ nk = N at *
    go_enter Try.func20, Try.ntmps20
    go_wp2_with (first | (with_reducible show wpList _ _ _ _ _ _; refine wpList_load_blk rfl 28 (.tmp 2) rfl w.heap.size 0 rfl (mc M) _ (by first | exact hB1 | exact hB) 98 F2.out _ Try.underlying28 rfl size_mach ?_; rw [F1.out]) | (go_at_call 41; refine (HC.out _).mono ?_; rintro e w1 ⟨rfl, hb1⟩; have hB1 := hB.keptAll hb1) | (go_at_call 30; refine (HT.out _).mono ?_; rintro e w2 ⟨⟨l, rfl, hl, htl⟩, hb2⟩; have hM2 := ((hB1.keptAll hb2).alloc (.cells #[] 2)).alloc (.cells (bl nob) 46); have hE2 : Blk ((w2.alloc (.cells #[] 2)).alloc (.cells (bl nob) 46)) w2.heap.size #[] 2 := (Blk.new _ _ _).alloc _; have hX2 : Blk ((w2.alloc (.cells #[] 2)).alloc (.cells (bl nob) 46)) (w2.heap.size + 1) (bl nob) 46 := Blk.new_at _ _ _ _ (by simp); have hbw2 := below_alloc' (below_alloc' (below_step (below_step hbw0 hb1) hb2) (.cells #[] 2)) (.cells (bl nob) 46); have hlt2 := (hB1.keptAll hb2).lt; have Hls : Hid ((bl l).size = 16) := Lib.hid (by rw [bl_size, hl]); have Hlo : Hid (over (bl nob) 0 (bl l) = bl l) := Lib.hid (over_all _ _ (by rw [Hls.out, Hzb.out])); have Htl := Lib.hid htl; have Hll := Lib.hid hl; clear htl hl) | (with_reducible show wpList _ _ _ _ _ _; refine wpList_store_row rfl 46 _ _ rfl (w2.heap.size + 1) 0 (bl l) rfl rfl _ _ hX2 (by rw [Hls.out, Hzb.out]; omega) (by rw [Hls.out]; exact size_b16) (bl_one _) _ Hlo.out ?_; intro w3 hs3; have hM3 := hs3.keep (by omega) hM2; have hE3 := hs3.keep (by omega) hE2; have hX3 := hs3.blk; have hbw3 := hs3.below _ _ (by omega) hbw2))
    have hO3 : OwnI w3 w2.heap.size (.slice (some ⟨w2.heap.size, 0, none⟩) 0 0) (whK (bdU M L S S) L nk 0) := OwnI.made rfl (by unfold maxLen; omega) (Nat.le_refl _) hE3
    have hT2 : 46 ≠ 2 := by decide
    have hT3 : 28 ≠ 2 := by decide
    have HT2 := Lib.hid hT2
    have HT3 := Lib.hid hT3
    have hwg := hbw3.size
    clear hE3 hM2 hE2 hX2 hbw2 hs3 hB1 hb1 hb2 hT2 hT3 hzb
    generalize w2.heap.size = b0 at *
    go_loopw [8, 9] (fun ov i wr => ∃ (k : Nat) (v0 : Value), k ≤ N ∧ i = .int .i64 k ∧ v0 = ov ∧ (Blk wr w.heap.size (mc M) 28 ∧ Blk wr (b0 + 1) (bl l) 46) ∧ OwnI wr b0 v0 (whK (bdU M L S S) L nk k) ∧ Below w.heap.size w wr) (fun _ i _ => N - (intOf i).toNat)
    case atStart => exact ⟨0, _, by omega, rfl, rfl, ⟨hM3, hX3⟩, hO3, hbw3⟩
    case round =>
      clear hM3 hX3 hO3 hbw3 hwg
      obtain ⟨k, v0, hk, rfl, rfl, ⟨hM, hX⟩, hO, hbw⟩ := hrel
      have cL := hM.cell 0
      rw [HcL.out] at cL
      by_cases hlt : k < N
      · have hWl := lettersL_wordOf L hL23 nk k
        have hWs : (⟨(wordOf L nk k).toArray⟩ : ByteArray).size ≤ 40 := by show (wordOf L nk k).toArray.size ≤ 40; simp [length_wordOf]; omega
        have hkp : (k : Int) < pw L nk := by rw [hpw]; omega
        have hwo : (wordS L nk k).data.toList = wordOf L nk k := by simp [wordS]
        have HU := Lib.hid (fun q => bdU_succ M L S q (wordS L nk k))
        rw [hwo] at HU
        have HU0 : Hid (bdU M L S 0 (wordS L nk k) = false) := Lib.hid rfl
        have Hyes := Lib.hid (whK_yes (bdU M L S S) L nk k)
        have Hno := Lib.hid (whK_no (bdU M L S S) L nk k)
        have HWl := Lib.hid hWl
        have Hln := Lib.hid (whK_len (bdU M L S S) L nk k)
        generalize hkl : whK (bdU M L S S) L nk k = kl at *
        have Hkl := Lib.hid hkl
        clear hwo hkl
        go_wp2_with (go_at_call 43; refine (HPw.out _).mono ?_; rintro e w' ⟨rfl, rfl⟩)
        clear cL hWl
        go_loopw [10, 11] (fun bv i wr => ∃ q : Nat, q ≤ S ∧ i = .int .i64 q ∧ bv = .bool (bdU M L S q (wordS L nk k)) ∧ (Blk wr w.heap.size (mc M) 28 ∧ Blk wr (b0 + 1) (bl l) 46) ∧ OwnI wr b0 v0 kl ∧ Below w.heap.size w wr) (fun _ i _ => S - (intOf i).toNat)
        case atStart => exact ⟨0, by omega, rfl, by rw [HU0.out], ⟨hM, hX⟩, hO, hbw⟩
        case round =>
          clear hM hX hO hbw
          obtain ⟨q, hq, rfl, rfl, ⟨hM, hX⟩, hO, hbw⟩ := hrel
          have cS := hM.cell 1
          rw [HcS.out] at cS
          by_cases hqS : q < S
          · have hqi : (q : Int) < (S : Int) := by omega
            have hrS := hg.run_st q hqS _ HWl.out
            have Hu := Lib.hid (HU.out q)
            have HA := Lib.hid (fun W => l01Act_calls M L S hg q hqS ⟨(wordOf L nk k).toArray⟩ hWs HWl.out W)
            go_wp2
            clear cS
            refine wp_region_quiet (C := fun W => Blk W w.heap.size (mc M) 28 ∧ Blk W (b0 + 1) (bl l) 46 ∧ OwnI W b0 v0 kl ∧ Below w.heap.size w W) (by kernel_rfl) (by kernel_rfl) ⟨hM.drew, hX.drew, hO.below (by (repeat (first | exact Below.refl _ _ | refine below_drew' ?_ | refine below_drewN' ?_ _ | refine below_alloc' ?_ _ | refine below_set' ?_ (by (try simp); (try omega)) _ | refine below_step ?_ (by assumption)))), hbw.drew⟩ ?_
            refine wpQuiet_load_blk rfl 28 _ rfl w.heap.size 0 rfl (mc M) _ (fun W hW => hW.1) 98 F2.out _ Try.underlying28 rfl size_mach ?_
            rw [F1.out]
            refine wpQuiet_val rfl (.int .i64 (q : Int)) (fun W _ => by go_simp) ?_
            refine wpQuiet_val rfl (.pointer (some ⟨w.heap.size, 0, none⟩)) (fun W _ => by go_simp) ?_
            refine wpQuiet_val rfl (.int .i64 (L : Int)) (fun W hW => by have c0 := hW.1.cell 0; rw [HcL.out] at c0; clear hW; go_simp) ?_
            refine wpQuiet_val rfl (.int .i64 (nk : Int)) (fun W _ => by go_simp) ?_
            refine wpQuiet_val rfl (.int .i64 (k : Int)) (fun W _ => by go_simp) ?_
            refine wpQuiet_call rfl 44 _ _ rfl #[.int .i64 L, .int .i64 nk, .int .i64 k] (.string ⟨(wordOf L nk k).toArray⟩) (fun W => by go_simp) (fun W hW => (l01WordOf_calls L hL23 nk nk k W hn5 (by omega) (by omega) (by omega) (by omega)).mono fun e w'' h => ⟨by rw [h.1]; rfl, hW.1.keptAll h.2, hW.2.1.keptAll h.2, hW.2.2.1.below h.2, below_step hW.2.2.2 h.2⟩) ?_
            refine wpQuiet_call rfl 29 _ _ rfl #[.agg (mc M), .int .i64 (q : Int), .string ⟨(wordOf L nk k).toArray⟩] (.tuple #[.string ⟨(runL M q (wordOf L nk k)).2.toArray⟩, .int .i64 ((runL M q (wordOf L nk k)).1 : Nat)]) (fun W => by go_simp) (fun W hW => (HA.out W).mono fun e w'' h => ⟨h.1, hW.1.keptAll h.2, hW.2.1.keptAll h.2, hW.2.2.1.below h.2, below_step hW.2.2.2 h.2⟩) ?_
            refine wpQuiet_val rfl (.tuple #[.string ⟨(runL M q (wordOf L nk k)).2.toArray⟩, .int .i64 ((runL M q (wordOf L nk k)).1 : Nat)]) (fun W _ => by go_simp) ?_
            refine wpQuiet_val rfl (.string ⟨(runL M q (wordOf L nk k)).2.toArray⟩) (fun W _ => by go_simp) ?_
            refine wpQuiet_val rfl (.int .i64 ((runL M q (wordOf L nk k)).1 : Nat)) (fun W _ => by go_simp) ?_
            refine wpQuiet_val rfl (.string ⟨(runL M q (wordOf L nk k)).2.toArray⟩) (fun W _ => by go_simp) ?_
            refine wpQuiet_val rfl (.int .i64 ((runL M q (wordOf L nk k)).1 : Nat)) (fun W _ => by go_simp) ?_
            refine wpQuiet_nil ?_
            rintro w3 ⟨hM', hX', hO', hbw'⟩
            clear hM hX hO hbw HA
            generalize (runL M q (wordOf L nk k)).2 = im at *
            generalize (runL M q (wordOf L nk k)).1 = p at *
            have hp16 : (p : Int) < 16 := by omega
            have e1 := bl_at l p (by rw [Hll.out]; omega)
            rw [Htl.out p hrS] at e1
            have cp := hX'.cell p
            rw [e1] at cp
            have hMl := hM'.lt
            cases hb : bdU M L S q (wordS L nk k)
            · rw [hb, Bool.false_or] at Hu
              clear hb e1
              generalize trivB M L S p = tv at *
              go_wp2
              go_roundw
              case rel => exact ⟨q + 1, by omega, by go_num, by rw [Hu.out], ⟨hM', hX'⟩, hO', hbw'⟩
              case measure => simp [intOf] <;> omega
            · rw [hb, Bool.true_or] at Hu
              clear hb e1 cp
              go_wp2
              go_roundw
              case rel => exact ⟨q + 1, by omega, by go_num, by rw [Hu.out], ⟨hM', hX'⟩, hO', hbw'⟩
              case measure => simp [intOf] <;> omega
          · have hqe : q = S := by omega
            have hqn : ¬ ((q : Int) < (S : Int)) := by omega
            rw [hqe]
            cases hb : bdU M L S S (wordS L nk k)
            · have Hsn := Lib.hid (Hno.out hb)
              clear hb hqe
              go_wp2
              go_roundw
              case rel => exact ⟨k + 1, _, by omega, by go_num, rfl, ⟨hM, hX⟩, by rw [Hsn.out]; exact hO, hbw⟩
              case measure => simp [intOf] <;> omega
            · have Hsn := Lib.hid (Hyes.out hb)
              clear hb hqe
              obtain ⟨ov, cv, hv0, _⟩ := hO.view
              subst hv0
              have hXl := hX.lt
              have hOa := hO.below (Below.alloc (Below.refl _ _) (Nat.le_refl _) (.cells #[.int .i64 (k : Int)] 2))
              have hMa := hM.alloc (.cells #[.int .i64 (k : Int)] 2)
              have hXa := hX.alloc (.cells #[.int .i64 (k : Int)] 2)
              have hbwa := below_alloc' hbw (.cells #[.int .i64 (k : Int)] 2)
              go_wp2_with (at_builtin; refine wpList_push_int_x rfl (.tmp 56) (.tmp 58) rfl b0 _ kl rfl hOa wr.heap.size 1 (k : Int) rfl (Blk.new wr _ _) (by have := Hln.out; omega) (by simp; omega) ?_; intro v9 w9 hO9 hb9 hsp9; have hM9 := spares_t hsp9 hMa hOa HT3.out; have hX9 := spares_t hsp9 hXa hOa HT2.out; have hbw9 := hbwa.trans (below_le hb9 (by omega)))
              go_roundw
              case rel => exact ⟨k + 1, _, by omega, by go_num, rfl, ⟨hM9, hX9⟩, by rw [Hsn.out]; exact hO9, hbw9⟩
              case measure => simp [intOf] <;> omega
      · obtain rfl : k = N := by omega
        have hkp : ¬ (k : Int) < pw L nk := by rw [hpw]; omega
        go_wp2_with (go_at_call 43; refine (HPw.out _).mono ?_; rintro e w' ⟨rfl, rfl⟩)
        go_ret2
        exact ⟨_, ret_li' Hc.out.symm, hO.base_le' (by omega), hbw⟩
  · obtain ⟨c, hcc⟩ : ∃ c, gCv M n = c := ⟨_, rfl⟩
    have Hr : Hid (bwR M n = []) := Lib.hid (by unfold bwR; rw [if_neg h0])
    rw [hcc] at h0 HC ⊢
    have hcb2 : (c != 0) = true := by simpa using h0
    rw [Hr.out]
    clear h0 hcc
    go_enter Try.func20, Try.ntmps20
    go_wp2_with (first | (with_reducible show wpList _ _ _ _ _ _; refine wpList_load_blk rfl 28 (.tmp 2) rfl w.heap.size 0 rfl (mc M) _ (hB) 98 F2.out _ Try.underlying28 rfl size_mach ?_; rw [F1.out]) | (go_at_call 41; refine (HC.out _).mono ?_; rintro e w1 ⟨rfl, hb1⟩))
    go_ret2
    exact ⟨_, rfl, OwnI.nil _ _, below_step hbw0 hb1⟩
end Go.Proofs.Ytdbdoohcpcjfdaa
