/- The search: 'leavesWords'. -/
import Derived.Test.YtliohokcjgcmhaaSeaC
import Derived.Test.YtliohokcjgcmhaaSeaU
namespace Go.Proofs.Ytliohokcjgcmhaa
open Go.RowKit
open Go.Maps

set_option maxRecDepth 100000 in
set_option maxHeartbeats 8000000 in
theorem leavesWords_calls (M : Mach) (L S : Nat) (hg : Good M L S) (v : Value) (z : List Int) (hz : wordOk S 80 z) (w : World) (hv : SeesI w v z) :
    Calls Try.prog 152 #[.agg (mc M), v] w fun e w' => e = .returned (.tuple #[.bool (resT M L S 201 0 [nf M L S z]).1, .int .i64 (resT M L S 201 0 [nf M L S z]).2]) ∧ Below w.heap.size w w' := by
  obtain ⟨RES, hRES⟩ : ∃ r, resT M L S 201 0 [nf M L S z] = r := ⟨_, rfl⟩
  rw [hRES]
  have HRES := Lib.hid hRES
  clear hRES
  have hok := hg.ok
  have hL3 := hg.L3
  have hz3 := zero_b3
  have Hz3 : Hid ((c8 zer3).size = 3) := Lib.hid (by rw [c8_size]; rfl)
  have F1 : Hid (cut (mc M) 0 98 = mc M) := Lib.hid (cut_all _ _ (mc_size hok)); have F2 : Hid (0 + 98 ≤ (mc M).size) := Lib.hid (by rw [mc_size hok]; omega)
  have hB : Blk (w.alloc (.cells (mc M) 27)) w.heap.size (mc M) 27 := Blk.new w _ _
  have hbw0 : Below w.heap.size w (w.alloc (.cells (mc M) 27)) := by (repeat (first | exact Below.refl _ _ | refine below_drew' ?_ | refine below_drewN' ?_ _ | refine below_alloc' ?_ _ | refine below_set' ?_ (by (try simp); (try omega)) _ | refine below_step ?_ (by assumption)))
  have hvB := hv.below hbw0
  have hcL := mc_L M
  rw [hg.hL] at hcL
  have HcL := Lib.hid hcL
  have HS := Lib.hid (newSearch_calls M L S hg v z hz _ hvB)
  clear hv hvB hz hcL
  go_enter Try.func152, Try.ntmps152
  go_wp2_with (first | (with_reducible show wpList _ _ _ _ _ _; refine wpList_load_blk rfl 27 (.tmp 2) rfl w.heap.size 0 rfl (mc M) _ (hB) 98 F2.out _ Try.underlying27 rfl size_mach ?_; rw [F1.out]) | (go_at_call 54; refine HS.out.mono ?_; rintro e w1 ⟨g, rfl, ⟨q0, v0, pm, D0, hA0⟩, hb1⟩))
  rw [show (w.alloc (.cells (mc M) 27)).heap.size = w.heap.size + 1 by simp] at hA0
  have hB1 := hB.keptAll hb1
  have hbw1 := below_step hbw0 hb1
  clear hB hb1 hbw0 HS
  go_loopw [7] (fun i wr => ∃ (k : Nat) (Q : List (List Int)) (qv : Value) (vs : List Value) (D : DataW Unit), k ≤ Q.length ∧ i = .int .i64 k ∧ SrAt wr (w.heap.size + 1) g M L S Q qv vs pm D ∧ Blk wr w.heap.size (mc M) 27 ∧ Hid (resT M L S (201 - k) k Q = RES) ∧ Below w.heap.size w wr) (fun i _ => 201 - (intOf i).toNat)
  case atStart => exact ⟨0, _, q0, v0, D0, by simp, rfl, hA0, hB1, HRES, hbw1⟩
  case round =>
    clear hA0 hB1 hbw1 HRES
    obtain ⟨k, Q, qv, vs, D, hk, rfl, hA, hB, HR, hbw⟩ := hrel
    obtain ⟨oq, cq, rfl, hqc⟩ := hA.row.view
    have Hsq := Lib.hid (sc_queue hok L S (.slice oq Q.length cq) (.map (some pm)))
    have cQ := hA.blk.cell 114
    rw [Hsq.out] at cQ
    have hfew := hA.few
    have HA := Lib.hid hA
    by_cases hlt : k < Q.length
    · have hki : (k : Int) < (Q.length : Int) := by omega
      have hkv : k < vs.length := by rw [hA.row.len]; exact hlt
      obtain ⟨gq, rfl, hgq, hcell⟩ := hqc (by omega)
      have hltB := hB.lt
      have hy : wordOk S 80 Q[k] := hA.ok _ (List.getElem_mem hlt)
      have Hno := Lib.hid (fun h => resT_bad M L S (200 - k) k Q hlt h)
      have Hfu := Lib.hid (fun h h2 => resT_full M L S (200 - k) k Q hlt h h2)
      have Hne := Lib.hid (fun Q' h h2 => resT_next M L S (200 - k) k Q Q' hlt h h2)
      rw [show 201 - k = 200 - k + 1 by omega] at HR
      have HWr := Lib.hid (fun W (hW : SrAt W (w.heap.size + 1) g M L S Q (.slice (some ⟨gq, 0, none⟩) Q.length cq) vs pm D) => wreath_calls M L S hg g vs[k] Q[k] hy.1 (Nat.le_trans hy.2 (by omega)) W (hW.mat hok) (hW.row.own k hkv hlt).sees)
      have HLL := Lib.hid (fun W => leavesLetters_calls M L S hg Q[k] hy.1 W)
      have HSo := Lib.hid (sec_ok (n := 80) hg Q[k] hy L (Nat.le_refl _))
      have Hsl := Lib.hid (secK_len M Q[k] L)
      have Hcell := Lib.hid (fun W (hW : SrAt W (w.heap.size + 1) g M L S Q (.slice (some ⟨gq, 0, none⟩) Q.length cq) vs pm D) => hW.row.cell k hkv)
      have Hims : Hid ((c8 (imP M Q[k] 3 L)).size = 3) := Lib.hid (by rw [c8_size, imP_len])
      have Himc : Hid (cut (c8 (imP M Q[k] 3 L)) 0 3 = c8 (imP M Q[k] 3 L)) := Lib.hid (cut_all _ _ Hims.out)
      have Himo : Hid (over (c8 zer3) 0 (c8 (imP M Q[k] 3 L)) = c8 (imP M Q[k] 3 L)) := Lib.hid (over_all _ _ (by rw [Hims.out, Hz3.out]))
      have Him1 := Lib.hid (c8_one (imP M Q[k] 3 L))
      have HltA := Lib.hid hA.lt
      generalize c8 (imP M Q[k] 3 L) = im at *
      generalize secK M Q[k] L = secs at *
      generalize stays M L Q[k] = st at *
      generalize Q[k] = y at *
      generalize vs[k] = uk at *
      clear hcell hqc hy hkv
      obtain ⟨w2, rfl⟩ : ∃ x, x = wr := ⟨_, rfl⟩
      have hdr : Below w2.heap.size w2 w2.drew := (Below.refl _ _).drew
      have hS0' : SrAt w2.drew (w.heap.size + 1) g M L S Q (.slice (some ⟨gq, 0, none⟩) Q.length cq) vs pm D ∧ Blk w2.drew w.heap.size (mc M) 27 := ⟨hA.below hdr, hB.drew⟩
      clear hA hB
      go_wp2
      refine wp_region_held_drew (S := fun W => SrAt W (w.heap.size + 1) g M L S Q (.slice (some ⟨gq, 0, none⟩) Q.length cq) vs pm D ∧ Blk W w.heap.size (mc M) 27) (by kernel_rfl) hS0' (fun hS0 => ?_)
      clear hS0' cQ
      (refine hK_take 0 (.pointer (some ⟨g, 0, none⟩)) rfl (by kernel_rfl) (by kernel_rfl) (by kernel_rfl) (fun _ _ _ h => h) rfl (fun W _ => by go_simp) hS0 ?_; (intro K hK; go_simp; refine hK _ ?_; clear hK K))
      (refine hK_take 1 (.pointer (some ⟨g, 0, none⟩)) rfl (by kernel_rfl) (by kernel_rfl) (by kernel_rfl) (fun _ _ _ h => h) rfl (fun W _ => by go_simp) hS0 ?_; (intro K hK; go_simp; refine hK _ ?_; clear hK K))
      (refine hK_take 2 (.pointer (some ⟨g, 0, none⟩)) rfl (by kernel_rfl) (by kernel_rfl) (by kernel_rfl) (fun _ _ _ h => h) rfl (fun W _ => by go_simp) hS0 ?_; (intro K hK; go_simp; refine hK _ ?_; clear hK K))
      (refine hK_take 3 (.pointer (some ⟨g, 0, none⟩)) rfl (by kernel_rfl) (by kernel_rfl) (by kernel_rfl) (fun _ _ _ h => h) rfl (fun W _ => by go_simp) hS0 ?_; (intro K hK; go_simp; refine hK _ ?_; clear hK K))
      (refine hK_take 4 (.pointer (some ⟨g, 0, none⟩)) rfl (by kernel_rfl) (by kernel_rfl) (by kernel_rfl) (fun _ _ _ h => h) rfl (fun W _ => by go_simp) hS0 ?_; (intro K hK; go_simp; refine hK _ ?_; clear hK K))
      (refine hK_take 5 (.pointer (some ⟨g, 114, none⟩)) rfl (by kernel_rfl) (by kernel_rfl) (by kernel_rfl) (fun _ _ _ h => h) rfl (fun W _ => by go_simp) hS0 ?_; (intro K hK; go_simp; refine hK _ ?_; clear hK K))
      (refine hK_take 6 (.slice (some ⟨gq, 0, none⟩) Q.length cq) rfl (by kernel_rfl) (by kernel_rfl) (by kernel_rfl) (fun _ _ _ h => h) rfl (fun W hW => by have c1 := hW.1.blk.cell 114; rw [Hsq.out] at c1; clear hW; go_simp) hS0 ?_; (intro K hK; go_simp; refine hK _ ?_; clear hK K))
      (refine hK_take 7 (.int .i64 (k : Int)) rfl (by kernel_rfl) (by kernel_rfl) (by kernel_rfl) (fun _ _ _ h => h) rfl (fun W _ => by go_simp) hS0 ?_; (intro K hK; go_simp; refine hK _ ?_; clear hK K))
      (refine hK_take 8 (.pointer (some ⟨gq, k, none⟩)) rfl (by kernel_rfl) (by kernel_rfl) (by kernel_rfl) (fun _ _ _ h => h) rfl (fun W _ => by go_simp) hS0 ?_; (intro K hK; go_simp; refine hK _ ?_; clear hK K))
      (refine hK_take 9 uk rfl (by kernel_rfl) (by kernel_rfl) (by kernel_rfl) (fun _ _ _ h => h) rfl (fun W hW => by have c1 := Hcell.out W hW.1; clear hW; go_simp) hS0 ?_; (intro K hK; go_simp; refine hK _ ?_; clear hK K))
      refine wpAnyH_ready (rs := [10, 14]) (by kernel_rfl) (by simp) ?_
      refine AllReadyH.cons rfl (fun K hK => ?_) (AllReadyH.cons rfl (fun K hK => ?_) AllReadyH.nil)
      · go_simp
        refine (HWr.out _ hS0.1).mono ?_
        rintro e w5 ⟨v5, us, rfl, hO5, hb5⟩
        have hlo : ∀ q, inLV v5 us q → w2.heap.size ≤ q := fun q hq => (hO5.lt q hq).1
        have hbd5 : Below w2.heap.size w2 w5 := hdr.trans hb5
        have hS5 : SrAt w5 (w.heap.size + 1) g M L S Q (.slice (some ⟨gq, 0, none⟩) Q.length cq) vs pm D ∧ Blk w5 w.heap.size (mc M) 27 := ⟨hS0.1.below hb5, hS0.2.keptAll hb5⟩
        (go_simp; refine hK.out _ _ (hS5) (fun hS1 => ?_); clear hK K)
        (refine hK_take 11 (.tuple #[.agg im, v5]) rfl (by kernel_rfl) (by kernel_rfl) (by kernel_rfl) (fun _ _ _ h => h) rfl (fun W _ => by go_simp) hS1 ?_; (intro K hK; go_simp; refine hK _ ?_; clear hK K))
        (refine hK_take 12 (.agg im) rfl (by kernel_rfl) (by kernel_rfl) (by kernel_rfl) (fun _ _ _ h => h) rfl (fun W _ => by go_simp) hS1 ?_; (intro K hK; go_simp; refine hK _ ?_; clear hK K))
        (refine hK_take 13 (v5) rfl (by kernel_rfl) (by kernel_rfl) (by kernel_rfl) (fun _ _ _ h => h) rfl (fun W _ => by go_simp) hS1 ?_; (intro K hK; go_simp; refine hK _ ?_; clear hK K))
        have hal : Below w5.heap.size w5 (w5.alloc (.cells (c8 zer3) 22)) := by (repeat (first | exact Below.refl _ _ | refine below_drew' ?_ | refine below_drewN' ?_ _ | refine below_alloc' ?_ _ | refine below_set' ?_ (by (try simp); (try omega)) _ | refine below_step ?_ (by assumption)))
        have hS6 : SrAt (w5.alloc (.cells (c8 zer3) 22)) (w.heap.size + 1) g M L S Q (.slice (some ⟨gq, 0, none⟩) Q.length cq) vs pm D ∧ Blk (w5.alloc (.cells (c8 zer3) 22)) w.heap.size (mc M) 27 := ⟨hS5.1.below hal, hS5.2.keptAll hal⟩
        have hO6 := (hO5.base_le (b := w2.heap.size) (Nat.le_refl _)).below hal
        have hX6 : Blk (w5.alloc (.cells (c8 zer3) 22)) w5.heap.size (c8 zer3) 22 := Blk.new _ _ _
        have hbd6 := below_allocB hbd5 hbd5.size (.cells (c8 zer3) 22)
        have hgO : ∀ q, inLV v5 us q → q ≠ w5.heap.size := fun q hq e => by have := (hO5.lt q hq).2; omega
        have hg2 : w2.heap.size ≤ w5.heap.size := hbd5.size
        (refine wpAnyH_ready (rs := [14]) (by kernel_rfl) (by simp) ?_; refine AllReadyH.cons rfl (fun K hK => ?_) AllReadyH.nil); go_simp; skip
        (go_simp; refine hK.out _ _ (hS6) (fun hS2 => ?_); clear hK K)
        clear hS0 hS1 hO5 hb5 hbd5 hal hS5 hS6
        generalize w5.alloc (.cells (c8 zer3) 22) = w6 at *
        generalize w5.heap.size = g8 at *
        refine hK_store 15 rfl (by kernel_rfl) rfl 22 _ _ rfl g8 0 im rfl rfl _ _ hX6 (by rw [Hims.out, Hz3.out]; omega) (by rw [Hims.out]; exact size_b3) Him1.out im Himo.out (fun w7 hs => ⟨⟨hS2.1.same (fun q hq => hs.other q (by have := (HltA.out q hq).2; omega)), hs.keep (by omega) hS2.2⟩, fun hS3 => ?_⟩)
        (intro K hK; go_simp; refine hK _ ?_; clear hK K)
        (refine hK_take 16 (v5) rfl (by kernel_rfl) (by kernel_rfl) (by kernel_rfl) (fun _ _ _ h => h) rfl (fun W _ => by go_simp) hS3 ?_; (intro K hK; go_simp; refine hK _ ?_; clear hK K))
        refine wpAnyH_done (by kernel_rfl) ?_ _
        have hA7 := hS3.1
        have hB7 := hS3.2
        have hX7 := hs.blk
        have hO7 := hO6.same (fun q hq => hs.other q (hgO q hq))
        have hbw7 := below_step hbw (hs.below _ _ hg2 hbd6)
        have hsz7 : w2.heap.size ≤ w7.heap.size := by rw [hs.size]; exact hbd6.size
        have Hdis : Hid (∀ q, inLV v5 us q → ¬ srFoot g pm (.slice (some ⟨gq, 0, none⟩) Q.length cq) vs q) := Lib.hid (fun q h1 h2 => by have q1 := hlo q h1; have q2 := (HltA.out q h2).2; omega)
        clear hS2 hS3 hs hO6 hX6 hgO hlo hbd6
        have cA7 := hB7.cell 0
        rw [HcL.out] at cA7
        cases st with
        | false =>
          have Hend := Lib.hid (HR.out.symm.trans (Hno.out rfl))
          go_wp2_with (first | (with_reducible show wpList _ _ _ _ _ _; refine wpList_load_blk rfl 22 (.tmp 8) rfl g8 0 rfl im _ hX7 3 (by rw [Hims.out]; omega) _ Try.underlying22 rfl size_b3 ?_; rw [Himc.out]) | (go_at_call 170; refine (HLL.out _).mono ?_; rintro e w8 ⟨rfl, hb8⟩))
          go_ret2
          exact ⟨ret_bi2 (a := (false, 0)) Hend.out.symm, below_step hbw7 hb8⟩
        | true =>
          go_wp2_with (first | (with_reducible show wpList _ _ _ _ _ _; refine wpList_load_blk rfl 22 (.tmp 8) rfl g8 0 rfl im _ hX7 3 (by rw [Hims.out]; omega) _ Try.underlying22 rfl size_b3 ?_; rw [Himc.out]) | (go_at_call 170; refine (HLL.out _).mono ?_; rintro e w8 ⟨rfl, hb8⟩))
          have hA8 := hA7.below hb8
          have hO8 := hO7.below hb8
          have hB8 := hB7.keptAll hb8
          have hbw8 := below_step hbw7 hb8
          have hsz8 : w.heap.size + 1 ≤ w8.heap.size := by have := hb8.size; omega
          have HPA := Lib.hid (placeAll_calls M L S hg (w.heap.size + 1) g Q _ vs pm D w2.heap.size v5 us secs (by rw [Hsl.out]; omega) HSo.out w8 hsz8 hA8 hO8 Hdis.out)
          clear hA7 hO7 hB7 hbw7 hX7 cA7
          cases hp : pushS M L S Q secs with
          | none =>
            have Hend := Lib.hid (HR.out.symm.trans (Hfu.out trivial hp))
            have HPN := Lib.hid (HPA.out none hp)
            clear HPA hp
            go_wp2_with (first | (go_at_call 115; refine HPN.out.mono ?_; rintro e w9 ⟨c9, hc9, rfl, hb9⟩; have Hc9 : Hid ((c8 c9).size = 3) := Lib.hid (by rw [c8_size, hc9]); have Ho9 : Hid (over (c8 zer3) 0 (c8 c9) = c8 c9) := Lib.hid (over_all _ _ (by rw [Hc9.out, Hz3.out])); have H19 := Lib.hid (c8_one c9); clear hc9; have hX9 : Blk (w9.alloc (.cells (c8 zer3) 22)) w9.heap.size (c8 zer3) 22 := Blk.new _ _ _; have hs9 := hb9.size) | (with_reducible show wpList _ _ _ _ _ _; refine wpList_store_row rfl 22 (.tmp 10) _ rfl w9.heap.size 0 (c8 c9) rfl rfl _ _ hX9 (by rw [Hz3.out, Hc9.out]; omega) (by rw [Hc9.out]; exact size_b3) H19.out _ Ho9.out ?_; intro w10 hs10))
            go_ret2
            exact ⟨ret_bi2 (a := (false, 3)) Hend.out.symm, hs10.below _ _ (by omega) (below_allocB (hbw8.trans (below_le hb9 (by omega))) (by omega) _)⟩
          | some Q' =>
            have HR2 := Lib.hid ((Hne.out Q' trivial hp).symm.trans HR.out)
            have HPS := Lib.hid (HPA.out (some Q') hp)
            have hle := pushS_le M L S _ _ _ hp
            clear HPA hp
            have Hc9 : Hid ((c8 (plP M L S Q' secs secs.length)).size = 3) := Lib.hid (by rw [c8_size, plP_len])
            have Ho9 : Hid (over (c8 zer3) 0 (c8 (plP M L S Q' secs secs.length)) = c8 (plP M L S Q' secs secs.length)) := Lib.hid (over_all _ _ (by rw [Hc9.out, Hz3.out]))
            have H19 := Lib.hid (c8_one (plP M L S Q' secs secs.length))
            go_wp2_with (first | (go_at_call 115; refine HPS.out.mono ?_; rintro e w9 ⟨rfl, hb9, q9, v9, D9, hA9, hk9⟩; have hX9 : Blk (w9.alloc (.cells (c8 zer3) 22)) w9.heap.size (c8 zer3) 22 := Blk.new _ _ _; have hs9 := hb9.size) | (with_reducible show wpList _ _ _ _ _ _; refine wpList_store_row rfl 22 (.tmp 10) _ rfl w9.heap.size 0 (c8 (plP M L S Q' secs secs.length)) rfl rfl _ _ hX9 (by rw [Hz3.out, Hc9.out]; omega) (by rw [Hc9.out]; exact size_b3) H19.out _ Ho9.out ?_; intro w10 hs10))
            have hal9 : Below w9.heap.size w9 (w9.alloc (.cells (c8 zer3) 22)) := by (repeat (first | exact Below.refl _ _ | refine below_drew' ?_ | refine below_drewN' ?_ _ | refine below_alloc' ?_ _ | refine below_set' ?_ (by (try simp); (try omega)) _ | refine below_step ?_ (by assumption)))
            have hA10 : SrAt w10 (w.heap.size + 1) g M L S Q' q9 v9 pm D9 := (hA9.below hal9).same (fun q hq => hs10.other q (by have := (hA9.lt q hq).2; omega))
            have hB9 : Blk w9 w.heap.size (mc M) 27 := hB8.kept hb9 (by omega)
            have hB10 := hs10.keep (by have := hB9.lt; omega) (hB9.alloc (.cells (c8 zer3) 22))
            have hbw10 := hs10.below _ _ (by omega) (below_allocB (hbw8.trans (below_le hb9 (by omega))) (by omega) (.cells (c8 zer3) 22))
            go_roundw
            case rel => exact ⟨k + 1, Q', q9, v9, D9, by omega, by go_num, hA10, hB10, by rw [show 201 - (k + 1) = 200 - k by omega]; exact HR2, hbw10⟩
            case measure => simp [intOf] <;> omega
      · go_simp
        have hal : Below w2.drew.heap.size w2.drew (w2.alloc (.cells (c8 zer3) 22)).drew := (show Below w2.drew.heap.size w2.drew (w2.drew.alloc (.cells (c8 zer3) 22)) by (repeat (first | exact Below.refl _ _ | refine below_drew' ?_ | refine below_drewN' ?_ _ | refine below_alloc' ?_ _ | refine below_set' ?_ (by (try simp); (try omega)) _ | refine below_step ?_ (by assumption))))
        have hX5 : Blk (w2.alloc (.cells (c8 zer3) 22)).drew w2.heap.size (c8 zer3) 22 := Blk.new _ _ _
        have hS5 : SrAt (w2.alloc (.cells (c8 zer3) 22)).drew (w.heap.size + 1) g M L S Q (.slice (some ⟨gq, 0, none⟩) Q.length cq) vs pm D ∧ Blk (w2.alloc (.cells (c8 zer3) 22)).drew w.heap.size (mc M) 27 := ⟨hS0.1.below hal, hS0.2.keptAll hal⟩
        have hbd4 : Below w2.heap.size w2 (w2.alloc (.cells (c8 zer3) 22)).drew := hdr.trans hal
        have hs4 : (w2.alloc (.cells (c8 zer3) 22)).drew.heap.size = w2.heap.size + 1 := by simp
        (go_simp; refine hK.out _ _ (hS5) (fun hS1 => ?_); clear hK K)
        clear hal hS5
        generalize (w2.alloc (.cells (c8 zer3) 22)).drew = w4 at *
        (refine wpAnyH_ready (rs := [10]) (by kernel_rfl) (by simp) ?_; refine AllReadyH.cons rfl (fun K hK => ?_) AllReadyH.nil); go_simp; refine (HWr.out _ hS1.1).mono ?_; rintro e w6 ⟨v5, us, rfl, hO6', hb6⟩
        have hlo : ∀ q, inLV v5 us q → w2.heap.size ≤ q := fun q hq => by have := (hO6'.lt q hq).1; omega
        have hgO : ∀ q, inLV v5 us q → q ≠ w2.heap.size := fun q hq e => by have := (hO6'.lt q hq).1; omega
        have hO6 := hO6'.base_le (b := w2.heap.size) (by omega)
        have hX6 := hX5.keptAll hb6
        have hbd6 := below_stepB hbd4 (by omega) hb6
        have hg2 : w2.heap.size ≤ w2.heap.size := Nat.le_refl _
        have hS6 : SrAt w6 (w.heap.size + 1) g M L S Q (.slice (some ⟨gq, 0, none⟩) Q.length cq) vs pm D ∧ Blk w6 w.heap.size (mc M) 27 := ⟨hS1.1.below hb6, hS1.2.keptAll hb6⟩
        (go_simp; refine hK.out _ _ (hS6) (fun hS2 => ?_); clear hK K)
        (refine hK_take 11 (.tuple #[.agg im, v5]) rfl (by kernel_rfl) (by kernel_rfl) (by kernel_rfl) (fun _ _ _ h => h) rfl (fun W _ => by go_simp) hS2 ?_; (intro K hK; go_simp; refine hK _ ?_; clear hK K))
        (refine hK_take 12 (.agg im) rfl (by kernel_rfl) (by kernel_rfl) (by kernel_rfl) (fun _ _ _ h => h) rfl (fun W _ => by go_simp) hS2 ?_; (intro K hK; go_simp; refine hK _ ?_; clear hK K))
        (refine hK_take 13 (v5) rfl (by kernel_rfl) (by kernel_rfl) (by kernel_rfl) (fun _ _ _ h => h) rfl (fun W _ => by go_simp) hS2 ?_; (intro K hK; go_simp; refine hK _ ?_; clear hK K))
        clear hS0 hS1 hX5 hb6 hbd4 hS6 hO6' hs4
        obtain ⟨g8, hg8⟩ : ∃ x, x = w2.heap.size := ⟨_, rfl⟩
        rw [← hg8] at hX6 hgO
        have hg2 : w2.heap.size ≤ g8 := by omega
        rw [← hg8]
        clear hg8
        refine hK_store 15 rfl (by kernel_rfl) rfl 22 _ _ rfl g8 0 im rfl rfl _ _ hX6 (by rw [Hims.out, Hz3.out]; omega) (by rw [Hims.out]; exact size_b3) Him1.out im Himo.out (fun w7 hs => ⟨⟨hS2.1.same (fun q hq => hs.other q (by have := (HltA.out q hq).2; omega)), hs.keep (by omega) hS2.2⟩, fun hS3 => ?_⟩)
        (intro K hK; go_simp; refine hK _ ?_; clear hK K)
        (refine hK_take 16 (v5) rfl (by kernel_rfl) (by kernel_rfl) (by kernel_rfl) (fun _ _ _ h => h) rfl (fun W _ => by go_simp) hS3 ?_; (intro K hK; go_simp; refine hK _ ?_; clear hK K))
        refine wpAnyH_done (by kernel_rfl) ?_ _
        have hA7 := hS3.1
        have hB7 := hS3.2
        have hX7 := hs.blk
        have hO7 := hO6.same (fun q hq => hs.other q (hgO q hq))
        have hbw7 := below_step hbw (hs.below _ _ hg2 hbd6)
        have hsz7 : w2.heap.size ≤ w7.heap.size := by rw [hs.size]; exact hbd6.size
        have Hdis : Hid (∀ q, inLV v5 us q → ¬ srFoot g pm (.slice (some ⟨gq, 0, none⟩) Q.length cq) vs q) := Lib.hid (fun q h1 h2 => by have q1 := hlo q h1; have q2 := (HltA.out q h2).2; omega)
        clear hS2 hS3 hs hO6 hX6 hgO hlo hbd6
        have cA7 := hB7.cell 0
        rw [HcL.out] at cA7
        cases st with
        | false =>
          have Hend := Lib.hid (HR.out.symm.trans (Hno.out rfl))
          go_wp2_with (first | (with_reducible show wpList _ _ _ _ _ _; refine wpList_load_blk rfl 22 (.tmp 8) rfl g8 0 rfl im _ hX7 3 (by rw [Hims.out]; omega) _ Try.underlying22 rfl size_b3 ?_; rw [Himc.out]) | (go_at_call 170; refine (HLL.out _).mono ?_; rintro e w8 ⟨rfl, hb8⟩))
          go_ret2
          exact ⟨ret_bi2 (a := (false, 0)) Hend.out.symm, below_step hbw7 hb8⟩
        | true =>
          go_wp2_with (first | (with_reducible show wpList _ _ _ _ _ _; refine wpList_load_blk rfl 22 (.tmp 8) rfl g8 0 rfl im _ hX7 3 (by rw [Hims.out]; omega) _ Try.underlying22 rfl size_b3 ?_; rw [Himc.out]) | (go_at_call 170; refine (HLL.out _).mono ?_; rintro e w8 ⟨rfl, hb8⟩))
          have hA8 := hA7.below hb8
          have hO8 := hO7.below hb8
          have hB8 := hB7.keptAll hb8
          have hbw8 := below_step hbw7 hb8
          have hsz8 : w.heap.size + 1 ≤ w8.heap.size := by have := hb8.size; omega
          have HPA := Lib.hid (placeAll_calls M L S hg (w.heap.size + 1) g Q _ vs pm D w2.heap.size v5 us secs (by rw [Hsl.out]; omega) HSo.out w8 hsz8 hA8 hO8 Hdis.out)
          clear hA7 hO7 hB7 hbw7 hX7 cA7
          cases hp : pushS M L S Q secs with
          | none =>
            have Hend := Lib.hid (HR.out.symm.trans (Hfu.out trivial hp))
            have HPN := Lib.hid (HPA.out none hp)
            clear HPA hp
            go_wp2_with (first | (go_at_call 115; refine HPN.out.mono ?_; rintro e w9 ⟨c9, hc9, rfl, hb9⟩; have Hc9 : Hid ((c8 c9).size = 3) := Lib.hid (by rw [c8_size, hc9]); have Ho9 : Hid (over (c8 zer3) 0 (c8 c9) = c8 c9) := Lib.hid (over_all _ _ (by rw [Hc9.out, Hz3.out])); have H19 := Lib.hid (c8_one c9); clear hc9; have hX9 : Blk (w9.alloc (.cells (c8 zer3) 22)) w9.heap.size (c8 zer3) 22 := Blk.new _ _ _; have hs9 := hb9.size) | (with_reducible show wpList _ _ _ _ _ _; refine wpList_store_row rfl 22 (.tmp 10) _ rfl w9.heap.size 0 (c8 c9) rfl rfl _ _ hX9 (by rw [Hz3.out, Hc9.out]; omega) (by rw [Hc9.out]; exact size_b3) H19.out _ Ho9.out ?_; intro w10 hs10))
            go_ret2
            exact ⟨ret_bi2 (a := (false, 3)) Hend.out.symm, hs10.below _ _ (by omega) (below_allocB (hbw8.trans (below_le hb9 (by omega))) (by omega) _)⟩
          | some Q' =>
            have HR2 := Lib.hid ((Hne.out Q' trivial hp).symm.trans HR.out)
            have HPS := Lib.hid (HPA.out (some Q') hp)
            have hle := pushS_le M L S _ _ _ hp
            clear HPA hp
            have Hc9 : Hid ((c8 (plP M L S Q' secs secs.length)).size = 3) := Lib.hid (by rw [c8_size, plP_len])
            have Ho9 : Hid (over (c8 zer3) 0 (c8 (plP M L S Q' secs secs.length)) = c8 (plP M L S Q' secs secs.length)) := Lib.hid (over_all _ _ (by rw [Hc9.out, Hz3.out]))
            have H19 := Lib.hid (c8_one (plP M L S Q' secs secs.length))
            go_wp2_with (first | (go_at_call 115; refine HPS.out.mono ?_; rintro e w9 ⟨rfl, hb9, q9, v9, D9, hA9, hk9⟩; have hX9 : Blk (w9.alloc (.cells (c8 zer3) 22)) w9.heap.size (c8 zer3) 22 := Blk.new _ _ _; have hs9 := hb9.size) | (with_reducible show wpList _ _ _ _ _ _; refine wpList_store_row rfl 22 (.tmp 10) _ rfl w9.heap.size 0 (c8 (plP M L S Q' secs secs.length)) rfl rfl _ _ hX9 (by rw [Hz3.out, Hc9.out]; omega) (by rw [Hc9.out]; exact size_b3) H19.out _ Ho9.out ?_; intro w10 hs10))
            have hal9 : Below w9.heap.size w9 (w9.alloc (.cells (c8 zer3) 22)) := by (repeat (first | exact Below.refl _ _ | refine below_drew' ?_ | refine below_drewN' ?_ _ | refine below_alloc' ?_ _ | refine below_set' ?_ (by (try simp); (try omega)) _ | refine below_step ?_ (by assumption)))
            have hA10 : SrAt w10 (w.heap.size + 1) g M L S Q' q9 v9 pm D9 := (hA9.below hal9).same (fun q hq => hs10.other q (by have := (hA9.lt q hq).2; omega))
            have hB9 : Blk w9 w.heap.size (mc M) 27 := hB8.kept hb9 (by omega)
            have hB10 := hs10.keep (by have := hB9.lt; omega) (hB9.alloc (.cells (c8 zer3) 22))
            have hbw10 := hs10.below _ _ (by omega) (below_allocB (hbw8.trans (below_le hb9 (by omega))) (by omega) (.cells (c8 zer3) 22))
            go_roundw
            case rel => exact ⟨k + 1, Q', q9, v9, D9, by omega, by go_num, hA10, hB10, by rw [show 201 - (k + 1) = 200 - k by omega]; exact HR2, hbw10⟩
            case measure => simp [intOf] <;> omega
    · obtain rfl : k = Q.length := by omega
      have Hend : Hid (RES = (true, 0)) := Lib.hid (by rw [← HR.out, show 201 - Q.length = (200 - Q.length) + 1 by omega]; exact resT_end M L S _ _ Q (Nat.le_refl _))
      clear hqc hA
      go_wp2
      go_ret2
      exact ⟨ret_bi2 (a := (true, 0)) Hend.out.symm, hbw⟩
end Go.Proofs.Ytliohokcjgcmhaa

namespace Go.Proofs.Ytliohokcjgcmhaa
open Go.RowKit

set_option maxRecDepth 100000 in
set_option maxHeartbeats 1000000 in
theorem iIsTrivialWord_calls (M : Mach) (hok : M.Ok) (v : Value) (zs : List Int) (w : World) (hv : SeesI w v zs) :
    Calls Try.prog 108 #[.agg (mc M), v] w fun e w' => e = .returned (.tuple #[.bool (trivW M zs).1, .int .i64 (trivW M zs).2]) ∧ Below w.heap.size w w' := by
  have F1 : Hid (cut (mc M) 0 98 = mc M) := Lib.hid (cut_all _ _ (mc_size hok)); have F2 : Hid (0 + 98 ≤ (mc M).size) := Lib.hid (by rw [mc_size hok]; omega)
  have hB : Blk (w.alloc (.cells (mc M) 27)) w.heap.size (mc M) 27 := Blk.new w _ _
  have hvB := hv.below (w1 := w.alloc (.cells (mc M) 27)) (by (repeat (first | exact Below.refl _ _ | refine below_drew' ?_ | refine below_drewN' ?_ _ | refine below_alloc' ?_ _ | refine below_set' ?_ (by (try simp); (try omega)) _ | refine below_step ?_ (by assumption))))
  have hbw0 : Below w.heap.size w (w.alloc (.cells (mc M) 27)) := by (repeat (first | exact Below.refl _ _ | refine below_drew' ?_ | refine below_drewN' ?_ _ | refine below_alloc' ?_ _ | refine below_set' ?_ (by (try simp); (try omega)) _ | refine below_step ?_ (by assumption)))
  clear hv
  obtain ⟨RES, hRES⟩ : ∃ r, trivW M zs = r := ⟨_, rfl⟩
  rw [hRES]
  have HRES := Lib.hid hRES
  clear hRES
  cases hm : isGrp M zs
  · have Hr : Hid (RES = (false, 1)) := Lib.hid (by rw [← HRES.out]; simp [trivW, hm])
    clear HRES
    go_enter Try.func108, Try.ntmps108
    go_wp2_with (first | (with_reducible show wpList _ _ _ _ _ _; refine wpList_load_blk rfl 27 (.tmp 2) rfl w.heap.size 0 rfl (mc M) _ (hB) 98 F2.out _ Try.underlying27 rfl size_mach ?_; rw [F1.out]) | (go_at_call 53; refine (IsGroupWord_calls M hok _ zs _ hvB).mono ?_; rintro e w1 ⟨rfl, hb1⟩))
    go_ret2
    exact ⟨ret_bi2 (a := (false, 1)) Hr.out.symm, below_step hbw0 hb1⟩
  · obtain ⟨L, S, hg⟩ := Good.of hok (isGrp_parts hm).1
    have hzs : numsOk S zs = true := nums_of hg hm
    have hln := isGrp_len hm
    have HT := Lib.hid (fun W hW => leavesWords_calls M L S hg v zs ⟨hzs, by omega⟩ W hW)
    rw [← trivW_good hg hm, HRES.out] at HT
    clear hg HRES hzs
    go_enter Try.func108, Try.ntmps108
    go_wp2_with (first | (with_reducible show wpList _ _ _ _ _ _; refine wpList_load_blk rfl 27 (.tmp 2) rfl w.heap.size 0 rfl (mc M) _ (by first | exact hB1 | exact hB) 98 F2.out _ Try.underlying27 rfl size_mach ?_; rw [F1.out]) | (go_at_call 53; refine (IsGroupWord_calls M hok _ zs _ hvB).mono ?_; rintro e w1 ⟨rfl, hb1⟩; have hv1 := hvB.below hb1; have hB1 := hB.keptAll hb1; have hbw := below_step hbw0 hb1) | (go_at_call 152; refine (HT.out _ hv1).mono ?_; rintro e w2 ⟨rfl, hb2⟩))
    go_ret2
    exact ⟨rfl, below_step hbw hb2⟩

set_option maxRecDepth 100000 in
set_option maxHeartbeats 4000000 in
theorem iAreEqualWords_calls (M : Mach) (hok : M.Ok) (v1 : Value) (zs1 : List Int) (v2 : Value) (zs2 : List Int) (w : World) (hv1 : SeesI w v1 zs1) (hv2 : SeesI w v2 zs2) :
    Calls Try.prog 101 #[.agg (mc M), v1, v2] w fun e w' => e = .returned (.tuple #[.bool (sameW M zs1 zs2).1, .int .i64 (sameW M zs1 zs2).2]) ∧ Below w.heap.size w w' := by
  obtain ⟨oa1, ca1, rfl, q1⟩ := hv1.view
  obtain ⟨oa2, ca2, rfl, q2⟩ := hv2.view
  clear q1 q2
  have F1 : Hid (cut (mc M) 0 98 = mc M) := Lib.hid (cut_all _ _ (mc_size hok)); have F2 : Hid (0 + 98 ≤ (mc M).size) := Lib.hid (by rw [mc_size hok]; omega)
  have hB : Blk (w.alloc (.cells (mc M) 27)) w.heap.size (mc M) 27 := Blk.new w _ _
  have hbw0 : Below w.heap.size w (w.alloc (.cells (mc M) 27)) := by (repeat (first | exact Below.refl _ _ | refine below_drew' ?_ | refine below_drewN' ?_ _ | refine below_alloc' ?_ _ | refine below_set' ?_ (by (try simp); (try omega)) _ | refine below_step ?_ (by assumption)))
  have hv1B := hv1.below hbw0
  have hv2B := hv2.below hbw0
  clear hv1 hv2
  obtain ⟨RES, hRES⟩ : ∃ r, sameW M zs1 zs2 = r := ⟨_, rfl⟩
  rw [hRES]
  have HRES := Lib.hid hRES
  clear hRES
  have HC := Lib.hid (areGroupWords_calls M hok _ zs1 _ zs2 _ hv1B hv2B (g := w.heap.size + 1))
  rw [show (isGrp M zs1 && isGrp M zs2) = two M zs1 zs2 from rfl] at HC
  cases hm : two M zs1 zs2
  · have Hr : Hid (RES = (false, 1)) := Lib.hid (by rw [← HRES.out]; simp [sameW, hm])
    rw [hm] at HC
    clear HRES
    go_enter Try.func101, Try.ntmps101
    go_wp2_with (first | (with_reducible show wpList _ _ _ _ _ _; refine wpList_load_blk rfl 27 (.tmp 3) rfl w.heap.size 0 rfl (mc M) _ (hB) 98 F2.out _ Try.underlying27 rfl size_mach ?_; rw [F1.out]) | (go_at_call 142; refine HC.out.mono ?_; rintro e w1 ⟨rfl, hb1⟩))
    go_ret2
    exact ⟨ret_bi2 (a := (false, 1)) Hr.out.symm, below_step hbw0 hb1⟩
  · obtain ⟨L, S, hg⟩ := Good.of hok (isGrp_parts (two_parts hm).1).1
    have hl1 := isGrp_len (two_parts hm).1
    have hl2 := isGrp_len (two_parts hm).2
    have hk1 : zs1.length ≤ 1000 := by omega
    have hk2 : (turnI zs2).length ≤ 1000 := by rw [turnI_len]; omega
    have hsm := isGrp_small (two_parts hm).2
    have HT := Lib.hid (fun V W hW => leavesWords_calls M L S hg V _ (same_ok hg hm) W hW)
    rw [← sameW_good hg hm, HRES.out] at HT
    rw [hm] at HC
    clear hg HRES
    go_enter Try.func101, Try.ntmps101
    go_wp2_with (first | (with_reducible show wpList _ _ _ _ _ _; refine wpList_load_blk rfl 27 (.tmp 3) rfl w.heap.size 0 rfl (mc M) _ (hB) 98 F2.out _ Try.underlying27 rfl size_mach ?_; rw [F1.out]) | (go_at_call 142; refine HC.out.mono ?_; rintro e w1 ⟨rfl, hb1⟩))
    have hdr : Below w1.heap.size w1 w1.drew := (Below.refl _ _).drew
    have hB2 := (hB.keptAll hb1).drew
    have hx1 := (hv1B.below hb1).below hdr
    have hx2 := (hv2B.below hb1).below hdr
    have hbd := below_step (below_step hbw0 hb1) hdr
    refine wp_region_held_drew (S := fun W => Blk W w.heap.size (mc M) 27) (by kernel_rfl) hB2 (fun hS0 => ?_)
    (refine hK_load 0 rfl (by kernel_rfl) (by kernel_rfl) (by kernel_rfl) 27 _ rfl (w.heap.size) 0 rfl (mc M) _ (fun W hW => hW) 98 (F2.out) _ Try.underlying27 rfl size_mach _ (F1.out) (fun _ _ _ h => h) rfl hS0 ?_; (intro K hK; go_simp; refine hK _ ?_; clear hK K))
    (refine hK_take 1 (.slice oa1 zs1.length ca1) rfl (by kernel_rfl) (by kernel_rfl) (by kernel_rfl) (fun _ _ _ h => h) rfl (fun W _ => by go_simp) hS0 ?_; (intro K hK; go_simp; refine hK _ ?_; clear hK K))
    (refine hK_take 2 (.slice oa2 zs2.length ca2) rfl (by kernel_rfl) (by kernel_rfl) (by kernel_rfl) (fun _ _ _ h => h) rfl (fun W _ => by go_simp) hS0 ?_; (intro K hK; go_simp; refine hK _ ?_; clear hK K))
    (refine wpAnyH_ready (rs := [3]) (by kernel_rfl) (by simp) ?_; refine AllReadyH.cons rfl (fun K hK => ?_) AllReadyH.nil); go_simp; refine (turnWord_calls _ zs2 _ hx2 (by omega) hsm).mono ?_; rintro e w3 ⟨v3, rfl, hO3, hb3⟩; have hB3 : Blk w3 _ _ _ := Blk.keptAll hS0 hb3; have hx3 := hx1.below hb3; have hbw3 := below_step hbd hb3; obtain ⟨o3, c3, rfl, hq3⟩ := hO3.view; clear hq3
    (go_simp; refine hK.out _ _ (hB3) (fun hS1 => ?_); clear hK K)
    have hL4 := seesL2 hx3 hO3.sees
    have hB4 := hB3.alloc (.cells #[Value.slice oa1 zs1.length ca1, Value.slice o3 (turnI zs2).length c3] 26)
    have hbw4 := below_alloc' hbw3 (.cells #[Value.slice oa1 zs1.length ca1, Value.slice o3 (turnI zs2).length c3] 26)
    (refine wpAnyH_ready (rs := [4]) (by kernel_rfl) (by simp) ?_; refine AllReadyH.cons rfl (fun K hK => ?_) AllReadyH.nil); go_simp; skip
    (go_simp; refine hK.out _ _ (hB4) (fun hS2 => ?_); clear hK K)
    (refine wpAnyH_ready (rs := [5]) (by kernel_rfl) (by simp) ?_; refine AllReadyH.cons rfl (fun K hK => ?_) AllReadyH.nil); go_simp; refine (joinWords_two _ _ _ zs1 (turnI zs2) hk1 hk2 _ hL4).mono ?_; rintro e w5 ⟨v5, rfl, hO5, hb5⟩; have hB5 := hB4.keptAll hb5; have hbw5 := below_step hbw4 hb5
    (go_simp; refine hK.out _ _ (hB5) (fun hS3 => ?_); clear hK K)
    (refine wpAnyH_ready (rs := [6]) (by kernel_rfl) (by simp) ?_; refine AllReadyH.cons rfl (fun K hK => ?_) AllReadyH.nil); go_simp; refine (HT.out _ _ hO5.sees).mono ?_; rintro e w6 ⟨rfl, hb6⟩; have hB6 := hB5.keptAll hb6; have hbw6 := below_step hbw5 hb6
    (go_simp; refine hK.out _ _ (hB6) (fun hS4 => ?_); clear hK K)
    (refine hK_take 7 (.bool RES.1) rfl (by kernel_rfl) (by kernel_rfl) (by kernel_rfl) (fun _ _ _ h => h) rfl (fun W _ => by go_simp) hS4 ?_; (intro K hK; go_simp; refine hK _ ?_; clear hK K))
    (refine hK_take 8 (.int .i64 RES.2) rfl (by kernel_rfl) (by kernel_rfl) (by kernel_rfl) (fun _ _ _ h => h) rfl (fun W _ => by go_simp) hS4 ?_; (intro K hK; go_simp; refine hK _ ?_; clear hK K))
    (refine hK_take 9 (.bool RES.1) rfl (by kernel_rfl) (by kernel_rfl) (by kernel_rfl) (fun _ _ _ h => h) rfl (fun W _ => by go_simp) hS4 ?_; (intro K hK; go_simp; refine hK _ ?_; clear hK K))
    (refine hK_take 10 (.int .i64 RES.2) rfl (by kernel_rfl) (by kernel_rfl) (by kernel_rfl) (fun _ _ _ h => h) rfl (fun W _ => by go_simp) hS4 ?_; (intro K hK; go_simp; refine hK _ ?_; clear hK K))
    refine wpAnyH_done (by kernel_rfl) ?_ _
    go_wp2
    go_ret2
    exact ⟨rfl, hbw6⟩
end Go.Proofs.Ytliohokcjgcmhaa
