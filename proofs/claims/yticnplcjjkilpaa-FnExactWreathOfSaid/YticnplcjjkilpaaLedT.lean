/- Letters led through the steps of a group word: program and model. -/
import Derived.Test.YticnplcjjkilpaaLedG
import Derived.Test.YticnplcjjkilpaaGrpT
namespace Go.Proofs.Yticnplcjjkilpaa
open Go.RowKit

set_option maxRecDepth 100000 in
set_option maxHeartbeats 1000000 in
theorem throughSteps_calls (M : Mach) (L S : Nat) (hg : Good M L S) (b g : Nat) (zs : List Int) (hz : numsOk S zs = true) (hn : zs.length ≤ 1048576) (x : Nat) (hx : x < L) (w : World) (hB : Blk w b (mc M) 29) (hG : Blk w g (zs.map (gv b)).toArray 115) :
    Calls Try.prog 61 #[.slice (some ⟨g, 0, none⟩) zs.length zs.length, .int .u8 x] w fun e w' => ∃ v, e = .returned (.tuple #[.int .u8 (ledG M zs x).1, v]) ∧ OwnI w' w.heap.size v (ledG M zs x).2 ∧ Below w.heap.size w w' := by
  have hmk := mk_ints zs.length hn
  obtain ⟨q1, q2, q3⟩ := ledG_all hg zs hz x hx
  have HL2 := Lib.hid q2; clear q1 q2 q3
  have Hgood := Lib.hid (ledG_good hg zs hz x hx)
  have HZ := Lib.hid hz; clear hz
  have hltB := hB.lt
  have hltG := hG.lt
  have hB0 : Blk (w.alloc (.cells (ints (List.replicate zs.length 0)) 2)) w.heap.size (ints (List.replicate zs.length 0)) 2 := Blk.new w _ _
  have hbw0 : Below w.heap.size w (w.alloc (.cells (ints (List.replicate zs.length 0)) 2)) := by (repeat (first | exact Below.refl _ _ | refine below_drew' ?_ | refine below_drewN' ?_ _ | refine below_alloc' ?_ _ | refine below_set' ?_ (by (try simp); (try omega)) _ | refine below_step ?_ (by assumption)))
  have HBw := Lib.hid hB; have HGw := Lib.hid hG
  clear hB hG
  go_enter Try.func61, Try.ntmps61
  go_wp2
  go_loopw [1, 14] (fun xv i wr => ∃ k : Nat, k ≤ zs.length ∧ i = .int .i64 k ∧ xv = .int .u8 ((ledG M (zs.take k) x).1 : Nat) ∧ Blk wr w.heap.size (ints ((ledG M (zs.take k) x).2 ++ List.replicate (zs.length - k) 0)) 2 ∧ Below w.heap.size w wr) (fun _ i _ => zs.length - (intOf i).toNat)
  case atStart => exact ⟨0, by omega, rfl, rfl, by simpa [ledG] using hB0, hbw0⟩
  case round =>
    clear hB0 hbw0 hmk
    obtain ⟨k, hk, rfl, rfl, hC, hbw⟩ := hrel
    obtain ⟨g1, g2, g3⟩ := Hgood.out k hk
    by_cases hlt : k < zs.length
    · have hki : (k : Int) < zs.length := by omega
      have hok := numsOk_at HZ.out k hlt
      have hBr := HBw.out.kept hbw hltB
      have hGr := HGw.out.kept hbw hltG
      have cG := hGr.cell k
      rw [show ((zs.map (gv b)).toArray)[k]? = some (gv b zs[k]) from by simp [hlt]] at cG
      have hst := ledG_take M zs k hlt x
      have Hnext : Hid (((ledG M (zs.take k) x).2 ++ List.replicate (zs.length - k) 0).set k (nextG M zs[k] (ledG M (zs.take k) x).1) = (ledG M (zs.take (k + 1)) x).2 ++ List.replicate (zs.length - (k + 1)) 0) := Lib.hid (by
        rw [hst, List.set_append_right _ _ (by omega), show k - (ledG M (zs.take k) x).2.length = 0 from by omega, show zs.length - k = (zs.length - (k + 1)) + 1 from by omega, List.replicate_succ, List.set_cons_zero, List.append_assoc]; rfl)
      have Hout : Hid ((ledG M (zs.take (k + 1)) x).1 = outG M zs[k] (ledG M (zs.take k) x).1) := Lib.hid (by rw [hst])
      have hcs : (ints ((ledG M (zs.take k) x).2 ++ List.replicate (zs.length - k) 0)).size = zs.length := by rw [ints_size]; simp; omega
      have hs : (ints ((ledG M (zs.take k) x).2 ++ List.replicate (zs.length - k) 0))[k]? = some ((ints ((ledG M (zs.take k) x).2 ++ List.replicate (zs.length - k) 0))[k]'(by omega)) := Array.getElem?_eq_getElem _
      generalize (ints ((ledG M (zs.take k) x).2 ++ List.replicate (zs.length - k) 0))[k]'(by omega) = old at hs
      clear hst hcs g2 g3
      generalize (ledG M (zs.take k) x).1 = y at *
      generalize (ledG M (zs.take k) x).2 ++ List.replicate (zs.length - k) 0 = cur at *
      generalize zs[k] = z at *
      by_cases hp : 0 < z
      · have Hg : Hid (gv b z = .func (.func 76) #[gd b (z - 1)] #[]) := Lib.hid (by unfold gv; rw [if_pos hp])
        rw [Hg.out] at cG
        clear Hg
        unfold gd at cG
        go_wp2_with (go_at_call 76; refine (forward_calls M L S hg b z hok hp y g1 _ hBr).mono ?_; rintro e w1 ⟨rfl, hb1⟩; have hC1 := hC.keptAll hb1; have hbw1 := below_step hbw hb1; have cC := hC1.cell; have fC := hC1.free; have hC2 := hC1.set k (.int .i64 (nextG M z y)); have hbw2 := below_set' (o := k) hbw1 (b := w.heap.size) (Nat.le_refl _) (.int .i64 (nextG M z y)); rw [← ints_set, Hnext.out] at hC2)
        go_roundw
        case rel => exact ⟨k + 1, by omega, by go_num, by rw [Hout.out], hC2, hbw2⟩
        case measure => simp [intOf] <;> omega
      · have Hg : Hid (gv b z = .func (.func 77) #[gd b (-z - 1)] #[]) := Lib.hid (by unfold gv; rw [if_neg hp])
        rw [Hg.out] at cG
        clear Hg
        unfold gd at cG
        go_wp2_with (go_at_call 77; refine (backward_calls M L S hg b z hok hp y g1 _ hBr).mono ?_; rintro e w1 ⟨rfl, hb1⟩; have hC1 := hC.keptAll hb1; have hbw1 := below_step hbw hb1; have cC := hC1.cell; have fC := hC1.free; have hC2 := hC1.set k (.int .i64 (nextG M z y)); have hbw2 := below_set' (o := k) hbw1 (b := w.heap.size) (Nat.le_refl _) (.int .i64 (nextG M z y)); rw [← ints_set, Hnext.out] at hC2)
        go_roundw
        case rel => exact ⟨k + 1, by omega, by go_num, by rw [Hout.out], hC2, hbw2⟩
        case measure => simp [intOf] <;> omega
    · obtain rfl : k = zs.length := by omega
      rw [List.take_length, Nat.sub_self, List.replicate_zero, List.append_nil] at hC
      rw [List.take_length] at g1 g2 g3
      have hOw : OwnI wr w.heap.size (.slice (some ⟨w.heap.size, 0, none⟩) zs.length zs.length) (ledG M zs x).2 := OwnI.made HL2.out (by unfold maxLen; omega) (Nat.le_refl _) hC
      rw [List.take_length]
      clear g1 g2 g3 Hgood
      go_wp2
      go_ret2
      exact ⟨_, rfl, hOw, hbw⟩

set_option maxRecDepth 100000 in
set_option maxHeartbeats 1000000 in
theorem l02Led_calls (M : Mach) (L S : Nat) (hg : Good M L S) (v : Value) (zs : List Int) (hz : numsOk S zs = true) (hn : zs.length ≤ 1048575) (x : Nat) (hx : x < L) (w : World) (hv : SeesI w v zs) :
    Calls Try.prog 36 #[.agg (mc M), .agg (mc (invM M L S)), v, .int .u8 x] w fun e w' => ∃ v', e = .returned (.tuple #[.int .u8 (ledG M zs x).1, v']) ∧ OwnI w' w.heap.size v' (ledG M zs x).2 ∧ Below w.heap.size w w' := by
  have hok := hg.ok
  have hIok := invM_ok hok L S hg.L3
  have F1 : Hid (cut (mc M) 0 98 = mc M) := Lib.hid (cut_all _ _ (mc_size hok))
  have F2 : Hid (0 + 98 ≤ (mc M).size) := Lib.hid (by rw [mc_size hok]; omega)
  have F3 : Hid (cut (mc (invM M L S)) 0 98 = mc (invM M L S)) := Lib.hid (cut_all _ _ (mc_size hIok))
  have F4 : Hid (0 + 98 ≤ (mc (invM M L S)).size) := Lib.hid (by rw [mc_size hIok]; omega)
  have Hgood := Lib.hid (ledG_good hg zs hz x hx)
  have HZ := Lib.hid hz; clear hz
  have hB1 : Blk (((w.alloc (.cells (mc M) 29)).alloc (.cells (mc (invM M L S)) 29)).alloc (.cells #[] 2)) w.heap.size (mc M) 29 := ((Blk.new w _ _).alloc _).alloc _
  have hB2 : Blk (((w.alloc (.cells (mc M) 29)).alloc (.cells (mc (invM M L S)) 29)).alloc (.cells #[] 2)) (w.heap.size + 1) (mc (invM M L S)) 29 := (Blk.new_at _ _ _ _ (by simp)).alloc _
  have hO0 : OwnI (((w.alloc (.cells (mc M) 29)).alloc (.cells (mc (invM M L S)) 29)).alloc (.cells #[] 2)) (w.heap.size + 2) (.slice (some ⟨w.heap.size + 2, 0, none⟩) 0 0) [] := by
    have := OwnI.empty ((w.alloc (.cells (mc M) 29)).alloc (.cells (mc (invM M L S)) 29)) (w.heap.size + 2) 0 #[] (by simp) (by simp) rfl
    simpa using this
  have hbw0 : Below w.heap.size w (((w.alloc (.cells (mc M) 29)).alloc (.cells (mc (invM M L S)) 29)).alloc (.cells #[] 2)) := by (repeat (first | exact Below.refl _ _ | refine below_drew' ?_ | refine below_drewN' ?_ _ | refine below_alloc' ?_ _ | refine below_set' ?_ (by (try simp); (try omega)) _ | refine below_step ?_ (by assumption)))
  have hvlt := hv.lt
  obtain ⟨oa, cap, hve, hc⟩ := hv.view
  subst hve
  have Hc := Lib.hid hc
  clear hc hv
  go_enter Try.func36, Try.ntmps36
  go_wp2
  go_loopw [3, 10, 11] (fun xv ov i wr => ∃ (k : Nat) (v0 : Value), k ≤ zs.length ∧ i = .int .i64 k ∧ xv = .int .u8 ((ledG M (zs.take k) x).1 : Nat) ∧ v0 = ov ∧ Blk wr w.heap.size (mc M) 29 ∧ Blk wr (w.heap.size + 1) (mc (invM M L S)) 29 ∧ OwnI wr (w.heap.size + 2) v0 (ledG M (zs.take k) x).2 ∧ Below w.heap.size w wr) (fun _ _ i _ => zs.length - (intOf i).toNat)
  case atStart => exact ⟨0, _, by omega, rfl, rfl, rfl, hB1, hB2, by simpa [ledG] using hO0, hbw0⟩
  case round =>
    clear hB1 hB2 hO0 hbw0
    obtain ⟨k, v0, hk, rfl, rfl, rfl, hB1, hB2, hO, hbw⟩ := hrel
    obtain ⟨g1, g2, g3⟩ := Hgood.out k hk
    by_cases hlt : k < zs.length
    · obtain ⟨g, rfl, hgl, hcell⟩ := Hc.out (by omega)
      have hki : (k : Int) < zs.length := by omega
      have hok1 := numsOk_at HZ.out k hlt
      have c1 : Hid (∀ W, Below w.heap.size w W → W.cell? ⟨g, k, none⟩ = some (.int .i64 zs[k])) := Lib.hid (fun W hW => cell_kept hW (hcell k hlt))
      have hst := ledG_take M zs k hlt x
      have Hout : Hid ((ledG M (zs.take (k + 1)) x).1 = outG M zs[k] (ledG M (zs.take k) x).1) := Lib.hid (by rw [hst])
      have Hnext : Hid ((ledG M (zs.take (k + 1)) x).2 = (ledG M (zs.take k) x).2 ++ [nextG M zs[k] (ledG M (zs.take k) x).1]) := Lib.hid (by rw [hst])
      have Hlen := Lib.hid g2
      clear hst hcell g2 g3
      generalize (ledG M (zs.take k) x).1 = y at *
      generalize (ledG M (zs.take k) x).2 = cur at *
      generalize zs[k] = z at *
      go_wp2_with fail
      refine wp_region_quiet (C := fun W => (Blk W w.heap.size (mc M) 29 ∧ Blk W (w.heap.size + 1) (mc (invM M L S)) 29) ∧ OwnI W (w.heap.size + 2) v0 cur ∧ Below w.heap.size w W) (by kernel_rfl) (by kernel_rfl) ⟨⟨hB1.drew, hB2.drew⟩, hO.below (by (repeat (first | exact Below.refl _ _ | refine below_drew' ?_ | refine below_drewN' ?_ _ | refine below_alloc' ?_ _ | refine below_set' ?_ (by (try simp); (try omega)) _ | refine below_step ?_ (by assumption)))), hbw.drew⟩ ?_
      refine wpK_load rfl 29 _ rfl w.heap.size 0 rfl (mc M) _ (fun W hW => hW.1.1) 98 F2.out _ Try.underlying29 rfl size_mach _ F1.out ?_; (intro K hK; go_simp; refine hK _ ?_; clear hK K)
      refine wpK_load rfl 29 _ rfl (w.heap.size + 1) 0 rfl (mc (invM M L S)) _ (fun W hW => hW.1.2) 98 F4.out _ Try.underlying29 rfl size_mach _ F3.out ?_; (intro K hK; go_simp; refine hK _ ?_; clear hK K)
      refine wpK_val rfl (.slice (some ⟨g, 0, none⟩) zs.length cap) (fun W _ => by go_simp) ?_; (intro K hK; go_simp; refine hK _ ?_; clear hK K)
      refine wpK_val rfl (.int .i64 (k : Int)) (fun W _ => by go_simp) ?_; (intro K hK; go_simp; refine hK _ ?_; clear hK K)
      refine wpK_val rfl (.pointer (some ⟨g, k, none⟩)) (fun W _ => by go_simp) ?_; (intro K hK; go_simp; refine hK _ ?_; clear hK K)
      refine wpK_val rfl (.int .i64 z) (fun W hW => by have c2 := c1.out W hW.2.2; clear hW; go_simp) ?_; (intro K hK; go_simp; refine hK _ ?_; clear hK K)
      refine wpK_val rfl (.int .u8 (y : Int)) (fun W _ => by go_simp) ?_; (intro K hK; go_simp; refine hK _ ?_; clear hK K)
      refine wpK_call rfl 59 #[.agg (mc M), .agg (mc (invM M L S)), .int .i64 z, .int .u8 (y : Int)] (.tuple #[.int .u8 (outG M z y), .int .i64 (nextG M z y)]) (fun W => by go_simp) (fun W hW => (l02Step_calls M L S hg z hok1 y g1 W).mono fun e w'' h => ⟨h.1, ⟨hW.1.1.keptAll h.2, hW.1.2.keptAll h.2⟩, hW.2.1.below h.2, below_step hW.2.2 h.2⟩) ?_; (intro K hK; go_simp; refine hK _ ?_; clear hK K)
      refine wpK_val rfl (.tuple #[.int .u8 (outG M z y), .int .i64 (nextG M z y)]) (fun W _ => by go_simp) ?_; (intro K hK; go_simp; refine hK _ ?_; clear hK K)
      refine wpK_val rfl (.int .u8 (outG M z y)) (fun W _ => by go_simp) ?_; (intro K hK; go_simp; refine hK _ ?_; clear hK K)
      refine wpK_val rfl (.int .i64 (nextG M z y)) (fun W _ => by go_simp) ?_; (intro K hK; go_simp; refine hK _ ?_; clear hK K)
      refine wpK_val rfl (.int .u8 (outG M z y)) (fun W _ => by go_simp) ?_; (intro K hK; go_simp; refine hK _ ?_; clear hK K)
      refine wpK_val rfl (.int .i64 (nextG M z y)) (fun W _ => by go_simp) ?_; (intro K hK; go_simp; refine hK _ ?_; clear hK K)
      refine wpQuiet_nil ?_
      rintro w3 ⟨⟨hB1', hB2'⟩, hO', hbw'⟩
      have hsz0 := hbw'.size
      have hlt1 := hB1'.lt
      have hlt2 := hB2'.lt
      clear hB1 hB2 hO hbw
      go_wp2_with (at_builtin; refine wpList_push_int rfl (.tmp 33) (.tmp 35) rfl (w.heap.size + 2) _ cur rfl (hO'.below (Below.alloc (Below.refl _ _) (Nat.le_refl _) (.cells #[.int .i64 (nextG M z y)] 2))) w3.heap.size 1 (nextG M z y) rfl (Blk.new w3 _ _) (by rw [Hlen.out]; omega) (by simp; omega) ?_; intro v1 w4 hO1 hb1; have hB11 := (hB1'.alloc (.cells #[.int .i64 (nextG M z y)] 2)).kept hb1 (by omega); have hB12 := (hB2'.alloc (.cells #[.int .i64 (nextG M z y)] 2)).kept hb1 (by omega))
      go_roundw
      case rel => exact ⟨k + 1, _, by omega, by go_num, by rw [Hout.out], rfl, hB11, hB12, by rw [Hnext.out]; exact hO1, (hbw'.alloc hbw'.size _).trans (below_le hb1 (by omega))⟩
      case measure => simp [intOf] <;> omega
    · obtain rfl : k = zs.length := by omega
      rw [List.take_length] at hO g1
      rw [List.take_length]
      clear g2 g3 g1 Hgood
      go_wp2
      go_ret2
      exact ⟨_, rfl, hO.base_le (by omega), hbw⟩
end Go.Proofs.Yticnplcjjkilpaa
