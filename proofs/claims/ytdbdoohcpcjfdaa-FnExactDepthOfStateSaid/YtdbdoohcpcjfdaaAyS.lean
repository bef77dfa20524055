/- 'ActivityCounts': the model. -/
import Derived.Test.YtdbdoohcpcjfdaaAyI
import Derived.Test.YtdbdoohcpcjfdaaStL
namespace Go.Proofs.Ytdbdoohcpcjfdaa
open Go.RowKit

theorem nt_zer : nt (List.replicate 16 0) = zer := by decide
theorem ayC_st (M : Mach) (q n : Int) : ayC M q n = if stCd M q = 0 then (if 0 ≤ n ∧ n ≤ 20 then 0 else 2) else stCd M q := by
  unfold ayC stCd stIn
  cases isMach M
  · simp
  · by_cases h : 0 ≤ q ∧ q < M.S
    · simp [h]
    · simp [h]

set_option maxRecDepth 100000 in
set_option maxHeartbeats 4000000 in
theorem sActivityCounts_calls (M : Mach) (hok : M.Ok) (q n : Int) (w : World) :
    Calls Try.prog 13 #[.agg (mc M), .int .i64 q, .int .i64 n] w fun e w' => ∃ v, e = .returned (.tuple #[v, .int .i64 (ayC M q n)]) ∧ OwnI w' w.heap.size v (ayR M q n) ∧ Below w.heap.size w w' := by
  have F1 : Hid (cut (mc M) 0 98 = mc M) := Lib.hid (cut_all _ _ (mc_size hok)); have F2 : Hid (0 + 98 ≤ (mc M).size) := Lib.hid (by rw [mc_size hok]; omega)
  have hB : Blk (w.alloc (.cells (mc M) 28)) w.heap.size (mc M) 28 := Blk.new w _ _
  have hbw0 : Below w.heap.size w (w.alloc (.cells (mc M) 28)) := by (repeat (first | exact Below.refl _ _ | refine below_drew' ?_ | refine below_drewN' ?_ _ | refine below_alloc' ?_ _ | refine below_set' ?_ (by (try simp); (try omega)) _ | refine below_step ?_ (by assumption)))
  have HS := Lib.hid (fun W => l07State_st M hok q W)
  have HN := Lib.hid (fun W => l01In_calls n 0 20 W)
  have HC := Lib.hid (ayC_st M q n)
  by_cases hs : stCd M q = 0
  · rw [hs] at HS
    by_cases hc : 0 ≤ n ∧ n ≤ 20
    · rw [decide_eq_true hc] at HN
      have hc0 : ayC M q n = 0 := by rw [HC.out, if_pos hs, if_pos hc]
      obtain ⟨L, S, qn, nk, hg, rfl, hq, rfl, hn⟩ := ayC_good hok hc0
      have Hc := Lib.hid hc0
      have Hr := Lib.hid (ayR_good hg hc0)
      have hS16 := hg.S16
      have hL3 := hg.L3
      have hcL := mc_L M
      have hcS := mc_S M
      rw [hg.hL] at hcL
      rw [hg.hS] at hcS
      have HcL := Lib.hid hcL
      have HcS := Lib.hid hcS
      have HT := Lib.hid (fun W => l01Trivial_calls M L S hg W)
      have hzb := zero_b16
      have hzi := zero_i16
      have Hzb : Hid ((bl nob).size = 16) := Lib.hid (by rw [bl_size]; rfl)
      have Hzi : Hid ((ints zer).size = 16) := Lib.hid (by rw [ints_size]; rfl)
      have Hzo : Hid (over (ints zer) 0 (ints zer) = ints zer) := Lib.hid (over_all _ _ rfl)
      have hq16 : (qn : Int) < 16 := by omega
      have e0 := ints_at zer qn (by show qn < 16; omega)
      rw [Hr.out]
      have Hg := Lib.hid hg
      have HI0 := Lib.hid (AyInv.start M L S qn (by omega))
      have Hset0 : Hid ((ints zer).setIfInBounds qn (.int .i64 1) = ints (nt ((List.replicate 16 0).set qn 1))) := Lib.hid (by rw [← ints_set, ← nt_zer]; exact congrArg ints (nt_set _ qn 1))
      generalize zer.getD qn 0 = oldq at e0
      clear hs hc hc0 hg hcL hcS
      go_enter Try.func13, Try.ntmps13
      go_wp2_with (first | (with_reducible show wpList _ _ _ _ _ _; refine wpList_load_blk rfl 28 (.tmp 3) rfl w.heap.size 0 rfl (mc M) _ (by first | exact hB1 | exact hB) 98 F2.out _ Try.underlying28 rfl size_mach ?_; rw [F1.out]) | (go_at_call 35; refine (HS.out _).mono ?_; rintro e w1 ⟨rfl, hb1⟩; have hB1 := hB.keptAll hb1) | (go_at_call 36; refine (HN.out _).mono ?_; rintro e w' ⟨rfl, rfl⟩) | (go_at_call 30; refine (HT.out _).mono ?_; rintro e w2 ⟨⟨l, rfl, hl, htl⟩, hb2⟩; have hM2 := (((hB1.keptAll hb2).alloc (.cells #[] 2)).alloc (.cells (bl nob) 46)).alloc (.cells (ints zer) 54); have hE2 : Blk (((w2.alloc (.cells #[] 2)).alloc (.cells (bl nob) 46)).alloc (.cells (ints zer) 54)) w2.heap.size #[] 2 := ((Blk.new _ _ _).alloc _).alloc _; have hX2 : Blk (((w2.alloc (.cells #[] 2)).alloc (.cells (bl nob) 46)).alloc (.cells (ints zer) 54)) (w2.heap.size + 1) (bl nob) 46 := (Blk.new_at _ _ _ _ (by simp)).alloc _; have hN2 : Blk (((w2.alloc (.cells #[] 2)).alloc (.cells (bl nob) 46)).alloc (.cells (ints zer) 54)) (w2.heap.size + 1 + 1) (ints zer) 54 := Blk.new_at _ _ _ _ (by simp); have hbw2 := below_alloc' (below_alloc' (below_alloc' (below_step (below_step hbw0 hb1) hb2) (.cells #[] 2)) (.cells (bl nob) 46)) (.cells (ints zer) 54); have hlt2 := (hB1.keptAll hb2).lt; have Hls : Hid ((bl l).size = 16) := Lib.hid (by rw [bl_size, hl]); have Hlo : Hid (over (bl nob) 0 (bl l) = bl l) := Lib.hid (over_all _ _ (by rw [Hls.out, Hzb.out])); have Htl := Lib.hid htl; have Hll := Lib.hid hl; clear htl hl) | (with_reducible show wpList _ _ _ _ _ _; refine wpList_store_row rfl 46 _ _ rfl (w2.heap.size + 1) 0 (bl l) rfl rfl _ _ hX2 (by rw [Hls.out, Hzb.out]; omega) (by rw [Hls.out]; exact size_b16) (bl_one _) _ Hlo.out ?_; intro w3 hs3; have hM3 := hs3.keep (by omega) hM2; have hE3 := hs3.keep (by omega) hE2; have hX3 := hs3.blk; have hN3 := hs3.keep (by omega) hN2; have hbw3 := hs3.below _ _ (by omega) hbw2) | (with_reducible show wpList _ _ _ _ _ _; refine wpList_store_row rfl 54 _ _ rfl (w2.heap.size + 1 + 1) 0 (ints zer) rfl rfl _ _ hN3 (by rw [Hzi.out]; omega) (by rw [Hzi.out]; exact size_i16) (ints_one _) _ Hzo.out ?_; intro w4 hs4; have hM4 := hs4.keep (by omega) hM3; have hE4 := hs4.keep (by omega) hE3; have hX4 := hs4.keep (by omega) hX3; have hN4 := hs4.blk; have hbw4 := hs4.below _ _ (by omega) hbw3; have cN4 := hN4.cell qn; rw [e0] at cN4; have fN4 := hN4.free))
      have hN5 := hN4.set qn (.int .i64 1)
      rw [Hset0.out] at hN5
      have hM5 := hM4.setOther (w2.heap.size + 1 + 1) qn (.int .i64 1) (by omega)
      have hE5 := hE4.setOther (w2.heap.size + 1 + 1) qn (.int .i64 1) (by omega)
      have hX5 := hX4.setOther (w2.heap.size + 1 + 1) qn (.int .i64 1) (by omega)
      have hbw5 := below_set' (o := qn) hbw4 (b := w2.heap.size + 1 + 1) (by omega) (.int .i64 1)
      have hO5 : OwnI _ w2.heap.size (.slice (some ⟨w2.heap.size, 0, none⟩) 0 0) (ayK M L S qn 0) := OwnI.made rfl (by unfold maxLen; omega) (Nat.le_refl _) hE5
      have hT1 : 46 ≠ 2 := by decide
      have hT2 : 54 ≠ 2 := by decide
      have hT3 : 28 ≠ 2 := by decide
      have HT1 := Lib.hid hT1
      have HT2 := Lib.hid hT2
      have HT3 := Lib.hid hT3
      clear hM4 hE4 hX4 hN4 hbw4 hM3 hE3 hX3 hN3 hbw3 hs3 hs4 hM2 hE2 hX2 hN2 hbw2 hB1 hb1 hb2 cN4 fN4 e0 hE5 hT1 hT2 hT3 hzb
      generalize w2.heap.size = b0 at *
      go_loopw [11, 12] (fun ov i wr => ∃ (k : Nat) (v0 : Value) (now : List Nat), k ≤ nk + 1 ∧ i = .int .i64 k ∧ v0 = ov ∧ (Blk wr w.heap.size (mc M) 28 ∧ Blk wr (b0 + 1) (bl l) 46 ∧ Blk wr (b0 + 1 + 1) (ints (nt now)) 54) ∧ Hid (AyInv M L S qn k now) ∧ OwnI wr b0 v0 (ayK M L S qn k) ∧ Below w.heap.size w wr) (fun _ i _ => nk + 1 - (intOf i).toNat)
      case atStart => exact ⟨0, _, _, by omega, rfl, rfl, ⟨hM5, hX5, hN5⟩, HI0, hO5, hbw5⟩
      case round =>
        clear hM5 hX5 hN5 hO5 hbw5
        obtain ⟨k, v0, now, hk, rfl, rfl, ⟨hM, hX, hN⟩, HI, hO, hbw⟩ := hrel
        obtain ⟨w6, rfl⟩ : ∃ x, x = wr := ⟨_, rfl⟩
        by_cases hlt : k ≤ nk
        · have hki : (k : Int) ≤ (nk : Int) := by omega
          have hM7 := hM.alloc (.cells (ints zer) 54)
          have hX7 := hX.alloc (.cells (ints zer) 54)
          have hN7 := hN.alloc (.cells (ints zer) 54)
          have hO7 := hO.below (Below.alloc (Below.refl _ _) (Nat.le_refl _) (.cells (ints zer) 54))
          have hbw7 := below_alloc' hbw (.cells (ints zer) 54)
          have hY7 : Blk (w6.alloc (.cells (ints zer) 54)) w6.heap.size (ints zer) 54 := Blk.new _ _ _
          have hMl := hM.lt
          have hXl := hX.lt
          have hNl := hN.lt
          have HY0 : Hid (ints zer = ints (nt (List.replicate 16 0))) := Lib.hid (by rw [nt_zer])
          have HM0 : Hid (AyMid M L S now 0 0 (List.replicate 16 0)) := Lib.hid (AyMid.start M L S now)
          have hp3 := pow3_le k (by omega)
          have Hp3 := Lib.hid hp3
          clear hp3
          go_wp2_with (first | (with_reducible show wpList _ _ _ _ _ _; refine wpList_store_row rfl 54 _ _ rfl w6.heap.size 0 (ints zer) rfl rfl _ _ hY7 (by rw [Hzi.out]; omega) (by rw [Hzi.out]; exact size_i16) (ints_one _) _ Hzo.out ?_; intro w8 hs8; have hM8 := hs8.keep (by omega) hM7; have hX8 := hs8.keep (by omega) hX7; have hN8 := hs8.keep (by omega) hN7; have hY8 := hs8.blk; have hbw8 := hs8.below _ _ (by omega) hbw7; have hO8 := hO7.kept_at (fun k hk => hs8.other k (ownI_ne hO7 hY7 HT2.out k hk))))
          rw [HY0.out] at hY8
          have hY0 : b0 + 1 + 1 < w6.heap.size := hNl
          clear hM7 hX7 hN7 hO7 hbw7 hY7 hs8 hM hX hN hO hbw hXl hNl hzi
          generalize w6.heap.size = bY at *
          have hMX : w.heap.size < bY := hMl
          clear hMl
          go_loopw [13, 15] (fun sm i wr => ∃ (r : Nat) (next : List Nat), r ≤ S ∧ i = .int .i64 r ∧ sm = .int .i64 ((smN M L S now r : Nat) : Int) ∧ (Blk wr w.heap.size (mc M) 28 ∧ Blk wr (b0 + 1) (bl l) 46 ∧ Blk wr (b0 + 1 + 1) (ints (nt now)) 54 ∧ Blk wr bY (ints (nt next)) 54) ∧ Hid (AyMid M L S now r 0 next) ∧ OwnI wr b0 v0 (ayK M L S qn k) ∧ Below w.heap.size w wr) (fun _ i _ => S - (intOf i).toNat)
          case atStart => exact ⟨0, _, by omega, rfl, rfl, ⟨hM8, hX8, hN8, hY8⟩, HM0, hO8, hbw8⟩
          case round =>
            clear hM8 hX8 hN8 hY8 HM0 hO8 hbw8
            obtain ⟨r, next, hr, rfl, rfl, ⟨hM, hX, hN, hY⟩, HM, hO, hbw⟩ := hrel
            have cS := hM.cell 1
            rw [HcS.out] at cS
            by_cases hrS : r < S
            · have hri : (r : Int) < (S : Int) := by omega
              have hr16 : (r : Int) < 16 := by omega
              have e1 := bl_at l r (by rw [Hll.out]; omega)
              rw [Htl.out r hrS] at e1
              have cX := hX.cell r
              cases ht : trivB M L S r
              · rw [ht] at e1
                have Hsm := Lib.hid (smN_no (M := M) (L := L) (S := S) (now := now) ht)
                have Hrow := Lib.hid (fun nx (h : AyMid M L S now r L nx) => h.row ht)
                have e2 := ints_at (nt now) r (by rw [nt_len, HI.out.len]; omega)
                rw [nt_at] at e2
                have cN := hN.cell r
                rw [e2] at cN
                have b1 := smN_le HI.out r (by omega)
                have b2 := HI.out.le r (by omega)
                have b3 := Hp3.out
                have hb1 : ((smN M L S now r : Nat) : Int) ≤ 10460353203 := by omega
                have hb2 : ((now.getD r 0 : Nat) : Int) ≤ 10460353203 := by omega
                clear b1 b2 b3 e2 ht
                generalize smN M L S now r = sm0 at *
                generalize hnr : now.getD r 0 = nr at *
                have Hnr := Lib.hid hnr
                clear hnr
                have hMm := hM
                go_wp2
                clear cX cN e1 cS
                go_loopw [16] (fun i wr => ∃ (x : Nat) (next : List Nat), x ≤ L ∧ i = .int .i64 x ∧ (Blk wr w.heap.size (mc M) 28 ∧ Blk wr (b0 + 1) (bl l) 46 ∧ Blk wr (b0 + 1 + 1) (ints (nt now)) 54 ∧ Blk wr bY (ints (nt next)) 54) ∧ Hid (AyMid M L S now r x next) ∧ OwnI wr b0 v0 (ayK M L S qn k) ∧ Below w.heap.size w wr) (fun i _ => L - (intOf i).toNat)
                case atStart => exact ⟨0, _, by omega, rfl, ⟨hM, hX, hN, hY⟩, HM, hO, hbw⟩
                case round =>
                  clear hM hX hN hY HM hO hbw hMm
                  obtain ⟨x, nx, hx, rfl, ⟨hM, hX, hN, hY⟩, HM, hO, hbw⟩ := hrel
                  by_cases hxL : x < L
                  · have hxi : (x : Int) < (L : Int) := by omega
                    have hx3 : x < 3 := by omega
                    have hx3i : (x : Int) < 3 := by omega
                    have cA := hM.cell
                    have hn := mc_n hok r x (by omega) hx3
                    rw [Hg.out.nn_eq r x hrS hxL] at hn
                    have hnl := Hg.out.nn_lt r x hrS hxL
                    have Hstep := Lib.hid (HM.out.letter (nn M r x) rfl (by omega))
                    have e2 := ints_at (nt now) r (by rw [nt_len, HI.out.len]; omega)
                    rw [nt_at, Hnr.out] at e2
                    have cN := hN.cell r
                    rw [e2] at cN
                    have e3 := ints_at (nt nx) (nn M r x) (by rw [nt_len, HM.out.len]; omega)
                    rw [nt_at] at e3
                    have b1 := AyMid.le Hg.out HI.out HM.out (by omega) hx (.inr hrS) (nn M r x) (by omega)
                    have b3 := Hp3.out
                    have hb3 : ((nx.getD (nn M r x) 0 : Nat) : Int) ≤ 62762119218 := by omega
                    have Hset := Lib.hid (nt_set nx (nn M r x) (nx.getD (nn M r x) 0 + nr))
                    rw [Hnr.out] at Hstep
                    clear b1 b3 e2
                    generalize nx.getD (nn M r x) 0 = old at *
                    generalize nn M r x = ni at *
                    have hni16 : (ni : Int) < 16 := by omega
                    have cY := hY.cell ni
                    rw [e3] at cY
                    have fY := hY.free
                    have hY2 := (hY.set ni (.int .i64 ((old : Int) + (nr : Int)))).drew
                    rw [← ints_set, ← Int.natCast_add, Hset.out] at hY2
                    have hM2 := (hM.setOther bY ni (.int .i64 ((old : Int) + (nr : Int))) (by omega)).drew
                    have hX2 := (hX.setOther bY ni (.int .i64 ((old : Int) + (nr : Int))) (by omega)).drew
                    have hN2 := (hN.setOther bY ni (.int .i64 ((old : Int) + (nr : Int))) (by omega)).drew
                    have hO2 : OwnI ((wr.setCell ⟨bY, ni, none⟩ (.int .i64 ((old : Int) + (nr : Int)))).drew) b0 v0 (ayK M L S qn k) := (hO.kept_at (fun k hk => Below.heap_setCell _ _ _ k (ownI_ne hO hY HT2.out k hk))).below (Below.refl _ _).drew
                    have hbw2 := (below_set' (o := ni) hbw (b := bY) (by omega) (.int .i64 ((old : Int) + (nr : Int)))).drew
                    have hcL := HcL.out
                    clear e3 hY hX hN hM hO hbw
                    go_wp2
                    go_region
                    all_goals
                      go_wp2
                      go_roundw
                      case rel => exact ⟨x + 1, _, by omega, by go_num, ⟨hM2, hX2, hN2, hY2⟩, Hstep, hO2, hbw2⟩
                      case measure => simp [intOf] <;> omega
                  · obtain rfl : x = L := by omega
                    have cL := hM.cell 0
                    rw [HcL.out] at cL
                    go_wp2
                    go_roundw
                    case rel => exact ⟨r + 1, _, by omega, by go_num, by rw [Hsm.out]; go_num, ⟨hM, hX, hN, hY⟩, Lib.hid (Hrow.out _ HM.out), hO, hbw⟩
                    case measure => simp [intOf] <;> omega
              · rw [ht] at e1
                have Hsm := Lib.hid (smN_yes (M := M) (L := L) (S := S) (now := now) ht)
                have Hrow := Lib.hid (HM.out.skip ht)
                clear ht
                go_wp2
                go_roundw
                case rel => exact ⟨r + 1, _, by omega, by go_num, by rw [Hsm.out], ⟨hM, hX, hN, hY⟩, Hrow, hO, hbw⟩
                case measure => simp [intOf] <;> omega
            · have hSr : S = r := by omega
              have hri : ¬ ((r : Int) < (S : Int)) := by omega
              have Hact : Hid (smN M L S now r = act M L S k qn) := Lib.hid (by rw [← hSr]; exact smN_all Hg.out HI.out)
              have HM' : Hid (AyMid M L S now S 0 next) := Lib.hid (by rw [hSr]; have := HM.out; rwa [← hSr] at this ⊢)
              have Hnx := Lib.hid (AyInv.next Hg.out HI.out HM'.out)
              have Hs1 : Hid ((ints (nt next)).size = 16) := Lib.hid (by rw [ints_size, nt_len, HM.out.len])
              have Hs2 : Hid ((ints (nt now)).size = 16) := Lib.hid (by rw [ints_size, nt_len, HI.out.len])
              have Hc1 : Hid (cut (ints (nt next)) 0 16 = ints (nt next)) := Lib.hid (cut_all _ _ Hs1.out)
              have Ho1 : Hid (over (ints (nt now)) 0 (ints (nt next)) = ints (nt next)) := Lib.hid (over_all _ _ (by rw [Hs1.out, Hs2.out]))
              have Hsn := Lib.hid (ayK_succ M L S qn k)
              have Hln := Lib.hid (ayK_len M L S qn k)
              obtain ⟨ov, cv, hv0, _⟩ := hO.view
              rw [Hact.out]
              clear hSr Hact HM'
              generalize act M L S k qn = ak at *
              generalize ayK M L S qn k = kl at *
              subst hv0
              have hYl := hY.lt
              have hNl := hN.lt
              have hOa := hO.below (Below.alloc (Below.refl _ _) (Nat.le_refl _) (.cells #[.int .i64 (ak : Int)] 2))
              have hMa := hM.alloc (.cells #[.int .i64 (ak : Int)] 2)
              have hXa := hX.alloc (.cells #[.int .i64 (ak : Int)] 2)
              have hNa := hN.alloc (.cells #[.int .i64 (ak : Int)] 2)
              have hYa := hY.alloc (.cells #[.int .i64 (ak : Int)] 2)
              have hbwa := below_alloc' hbw (.cells #[.int .i64 (ak : Int)] 2)
              go_wp2_with (first | (at_builtin; refine wpList_push_int_x rfl (.tmp 78) (.tmp 80) rfl b0 _ kl rfl hOa wr.heap.size 1 (ak : Int) rfl (Blk.new wr _ _) (by have := Hln.out; omega) (by simp; omega) ?_; intro v9 w9 hO9 hb9 hsp9; have hM9 := spares_t hsp9 hMa hOa HT3.out; have hX9 := spares_t hsp9 hXa hOa HT1.out; have hN9 := spares_t hsp9 hNa hOa HT2.out; have hY9 := spares_t hsp9 hYa hOa HT2.out; have hbw9 := hbwa.trans (below_le hb9 (by omega))) | (with_reducible show wpList _ _ _ _ _ _; refine wpList_load_blk rfl 54 (.tmp 14) rfl bY 0 rfl (ints (nt next)) _ hY9 16 (by rw [Hs1.out]; omega) _ Try.underlying54 rfl size_i16 ?_; rw [Hc1.out]) | (with_reducible show wpList _ _ _ _ _ _; refine wpList_store_row rfl 54 (.tmp 10) (.tmp 82) rfl (b0 + 1 + 1) 0 (ints (nt next)) rfl rfl _ _ hN9 (by rw [Hs1.out, Hs2.out]; omega) (by rw [Hs1.out]; exact size_i16) (ints_one _) _ Ho1.out ?_; intro w8 hs8; have hN8 := hs8.blk; have hM8 := hs8.keep (by omega) hM9; have hX8 := hs8.keep (by omega) hX9; have hbw8 := hs8.below _ _ (by omega) hbw9; have hO8 := hO9.kept_at (fun k hk => hs8.other k (ownI_ne hO9 hN9 HT2.out k hk))))
              go_roundw
              case rel => exact ⟨k + 1, _, _, by omega, by go_num, rfl, ⟨hM8, hX8, hN8⟩, Hnx, by rw [Hsn.out]; exact hO8, hbw8⟩
              case measure => simp [intOf] <;> omega
        · obtain rfl : k = nk + 1 := by omega
          have hki : ¬ (((nk + 1 : Nat) : Int) ≤ (nk : Int)) := by omega
          go_wp2
          go_ret2
          exact ⟨_, ret_li' Hc.out.symm, hO.base_le' (by omega), hbw⟩
    · rw [decide_eq_false hc] at HN
      have Hc : Hid (ayC M q n = 2) := Lib.hid (by rw [HC.out, if_pos hs, if_neg hc])
      have Hr : Hid (ayR M q n = []) := Lib.hid (by unfold ayR; rw [Hc.out]; rfl)
      rw [Hr.out]
      clear hs hc HC
      go_enter Try.func13, Try.ntmps13
      go_wp2_with (first | (with_reducible show wpList _ _ _ _ _ _; refine wpList_load_blk rfl 28 (.tmp 3) rfl w.heap.size 0 rfl (mc M) _ (hB) 98 F2.out _ Try.underlying28 rfl size_mach ?_; rw [F1.out]) | (go_at_call 35; refine (HS.out _).mono ?_; rintro e w1 ⟨rfl, hb1⟩) | (go_at_call 36; refine (HN.out _).mono ?_; rintro e w' ⟨rfl, rfl⟩))
      go_ret2
      exact ⟨_, ret_li' Hc.out.symm, OwnI.nil _ _, below_step hbw0 hb1⟩
  · obtain ⟨c, hcc⟩ : ∃ c, stCd M q = c := ⟨_, rfl⟩
    have Hc : Hid (ayC M q n = c) := Lib.hid (by rw [HC.out, if_neg hs, hcc])
    have Hr : Hid (ayR M q n = []) := Lib.hid (by unfold ayR; rw [if_neg (by rw [Hc.out, ← hcc]; exact hs)])
    rw [hcc] at hs HS
    have hcb : (c == 0) = false := by simpa using hs
    have hcb2 : (c != 0) = true := by simpa using hs
    rw [Hr.out]
    clear hs HC hcc
    go_enter Try.func13, Try.ntmps13
    go_wp2_with (first | (with_reducible show wpList _ _ _ _ _ _; refine wpList_load_blk rfl 28 (.tmp 3) rfl w.heap.size 0 rfl (mc M) _ (hB) 98 F2.out _ Try.underlying28 rfl size_mach ?_; rw [F1.out]) | (go_at_call 35; refine (HS.out _).mono ?_; rintro e w1 ⟨rfl, hb1⟩))
    go_ret2
    exact ⟨_, ret_li' Hc.out.symm, OwnI.nil _ _, below_step hbw0 hb1⟩
end Go.Proofs.Ytdbdoohcpcjfdaa
