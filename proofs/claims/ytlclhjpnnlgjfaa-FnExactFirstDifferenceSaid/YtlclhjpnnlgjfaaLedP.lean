/- Words led by group words: the program's 'leadWord'. -/
import Derived.Test.YtlclhjpnnlgjfaaLedW
import Derived.Test.YtlclhjpnnlgjfaaGrpJ
namespace Go.Proofs.Ytlclhjpnnlgjfaa
open Go.RowKit

theorem sees_one {w : World} {v1 : Value} {z1 : List Int} (h1 : SeesI w v1 z1) : SeesL (w.alloc (.cells #[v1] 26)) (.slice (some ⟨w.heap.size, 0, none⟩) 1 1) [(v1, z1)] :=
  ⟨w.heap.size, 1, rfl, Blk.new _ _ _, fun i hi => by
    have hb : Below w.heap.size w (w.alloc (.cells #[v1] 26)) := by (repeat (first | exact Below.refl _ _ | refine below_drew' ?_ | refine below_drewN' ?_ _ | refine below_alloc' ?_ _ | refine below_set' ?_ (by (try simp); (try omega)) _ | refine below_step ?_ (by assumption)))
    match i, hi with
    | 0, _ => exact h1.below hb⟩
theorem joinWords_one (v v1 : Value) (z1 : List Int) (h1 : z1.length ≤ 1000) (w : World) (hv : SeesL w v [(v1, z1)]) :
    Calls Try.prog 27 #[v] w fun e w' => ∃ v', e = .returned v' ∧ OwnI w' w.heap.size v' z1 ∧ Below w.heap.size w w' :=
  (joinWords_calls v [(v1, z1)] (by simp) (fun p hp => by simp at hp; subst hp; exact h1) w hv).mono fun e w' ⟨v', h, hO, hb⟩ => ⟨v', h, by simpa [flatI] using hO, hb⟩
theorem mk_im (n : Nat) (hn : n ≤ 1048576) (W : World) : (Instr.makeSlice 74 (.int .i64 n) (.int .i64 n)).run Try.prog W = .ok (.slice (some ⟨W.heap.size, 0, none⟩) n n) (W.alloc (.cells (imC n []) 5)) := by
  obtain ⟨i0, hi, hz0, hz1, hz2⟩ := info_parts info5
  have := run_make (P := Try.prog) W 74 5 i0 (.int .u8 0) Try.underlying74 hi hz0 .i64 .i64 n n (by omega) (by omega) (by rw [hz2]; omega) (by omega)
  rwa [hz1, Int.toNat_natCast, Nat.mul_one, made_zero, ← imC_zero] at this

set_option maxRecDepth 100000 in
set_option maxHeartbeats 1000000 in
theorem leadWord_calls (M : Mach) (L S : Nat) (hg : Good M L S) (b : Nat) (v : Value) (zs : List Int) (hz : numsOk S zs = true) (hn : zs.length ≤ 40) (s : ByteArray) (hs : s.size ≤ 40) (hl : lettersL L s.data.toList = true) (w : World) (hB : Blk w b (mc M) 29) (hv : SeesI w v zs) :
    Calls Try.prog 36 #[.pointer (some ⟨b, 0, none⟩), v, .string s] w fun e w' => ∃ v', e = .returned (.tuple #[.string ⟨(actG M zs s.data.toList).1.toArray⟩, v']) ∧ OwnI w' w.heap.size v' (actG M zs s.data.toList).2 ∧ Below w.heap.size w w' := by
  have hL3 := hg.L3
  have hS16 := hg.S16
  have hsz : s.size = s.data.toList.length := size_list s
  have Hsz := Lib.hid hsz; clear hsz
  have hmk := mk_im s.size (by omega)
  have Hgood := Lib.hid (actG_good hg zs hz s.data.toList hl)
  have HZ := Lib.hid hz; clear hz
  have HL := Lib.hid hl; clear hl
  have hltB := hB.lt
  have hbI : Below w.heap.size w (w.alloc (.cells (imC s.size []) 5)) := by (repeat (first | exact Below.refl _ _ | refine below_drew' ?_ | refine below_drewN' ?_ _ | refine below_alloc' ?_ _ | refine below_set' ?_ (by (try simp); (try omega)) _ | refine below_step ?_ (by assumption)))
  have hvI := hv.below hbI
  have hL1 := sees_one hvI
  rw [show (w.alloc (.cells (imC s.size []) 5)).heap.size = w.heap.size + 1 from by simp] at hL1
  have hC0 : Blk ((w.alloc (.cells (imC s.size []) 5)).alloc (.cells #[v] 26)) w.heap.size (imC s.size []) 5 := (Blk.new w _ _).alloc _
  have hbw0 : Below w.heap.size w ((w.alloc (.cells (imC s.size []) 5)).alloc (.cells #[v] 26)) := by (repeat (first | exact Below.refl _ _ | refine below_drew' ?_ | refine below_drewN' ?_ _ | refine below_alloc' ?_ _ | refine below_set' ?_ (by (try simp); (try omega)) _ | refine below_step ?_ (by assumption)))
  have HBw := Lib.hid hB
  obtain ⟨oa, cap, rfl, hc⟩ := hv.view
  clear hc hv hB
  go_enter Try.func36, Try.ntmps36
  go_wp2_with (go_at_call 27; refine (joinWords_one _ _ zs (by omega) _ hL1).mono ?_; rintro e w1 ⟨v1, rfl, hO1, hb1⟩; have hC1 := hC0.keptAll hb1; have hbw1 := below_step hbw0 hb1)
  replace hO1 : OwnI w1 (w.heap.size + 1) v1 zs := hO1.base_le (by simp)
  clear hbI hvI hL1 hC0 hbw0 hmk hb1
  go_loopw [9, 19] (fun sv i wr => ∃ (k : Nat) (s0 : Value), k ≤ s.size ∧ i = .int .i64 k ∧ s0 = sv ∧ Blk wr w.heap.size (imC s.size (actG M zs (s.data.toList.take k)).1) 5 ∧ OwnI wr (w.heap.size + 1) s0 (actG M zs (s.data.toList.take k)).2 ∧ Below w.heap.size w wr) (fun _ i _ => s.size - (intOf i).toNat)
  case atStart => exact ⟨0, _, by omega, rfl, rfl, by simpa [actG] using hC1, by simpa [actG] using hO1, hbw1⟩
  case round =>
    clear hC1 hO1 hbw1
    obtain ⟨k, s0, hk, rfl, rfl, hC, hG, hbw⟩ := hrel
    have hkl : k ≤ s.data.toList.length := by rw [← Hsz.out]; exact hk
    obtain ⟨a1, a2, a3, a4⟩ := Hgood.out k hkl
    by_cases hlt : k < s.size
    · have hlt' : k < s.data.toList.length := by rw [← Hsz.out]; exact hlt
      obtain ⟨h48, h51⟩ := lettersL_at HL.out k hlt'
      have hst := actG_take M zs s.data.toList k hlt'
      have he : s.data.toList[k] = s[k] := rfl
      rw [he] at hst h48 h51
      obtain ⟨x, hx⟩ : ∃ x : Nat, s[k].toNat = 48 + x := ⟨s[k].toNat - 48, by omega⟩
      rw [show s[k].toNat - 48 = x from by omega] at hst
      have hxL : x < L := by omega
      have hx' : (s[k].toNat : Int) = 48 + (x : Int) := by omega
      have hw48 : IntKind.u8.wrap (48 + (x : Int) - 48) = (x : Int) := by simp [IntKind.wrap, IntKind.bits, IntKind.signed]; omega
      obtain ⟨y1, y2, y3⟩ := ledG_all hg _ a4 x hxL
      have hdig := dig_toNat ((ledG M (actG M zs (s.data.toList.take k)).2 x).1 : Int) (by omega) (by omega)
      have Hset : Hid ((imC s.size (actG M zs (s.data.toList.take k)).1).setIfInBounds k (.int .u8 (((ledG M (actG M zs (s.data.toList.take k)).2 x).1 : Int) + 48)) = imC s.size (actG M zs (s.data.toList.take (k + 1))).1) := Lib.hid (by
        have := imC_set s.size (actG M zs (s.data.toList.take k)).1 (dig ((ledG M (actG M zs (s.data.toList.take k)).2 x).1 : Nat)) (by omega)
        rw [a1, hdig.trans (Int.add_comm _ _)] at this
        rw [this, hst])
      have Hnext : Hid ((actG M zs (s.data.toList.take (k + 1))).2 = (ledG M (actG M zs (s.data.toList.take k)).2 x).2) := Lib.hid (by rw [hst])
      have hcs : (imC s.size (actG M zs (s.data.toList.take k)).1).size = s.size := imC_size _ _ (by omega)
      have H4 := Lib.hid a4
      have H3 := Lib.hid a3
      clear hst a1 a2 a3 a4 he hdig
      generalize imC s.size (actG M zs (s.data.toList.take k)).1 = ic at *
      generalize (actG M zs (s.data.toList.take k)).2 = cur at *
      have hold : ic[k]? = some (ic[k]'(by omega)) := Array.getElem?_eq_getElem _
      generalize ic[k]'(by omega) = old at hold
      have Hic : Hid ((ic.setIfInBounds k (.int .u8 ((ledG M cur x).1 : Int))).setIfInBounds k (.int .u8 (((ledG M cur x).1 : Int) + 48)) = ic.setIfInBounds k (.int .u8 (((ledG M cur x).1 : Int) + 48))) := Lib.hid (by apply Array.ext'; simp)
      have hnew : (ic.setIfInBounds k (.int .u8 ((ledG M cur x).1 : Int)))[k]? = some (.int .u8 ((ledG M cur x).1 : Int)) := by simp [Array.getElem?_setIfInBounds]; omega
      obtain ⟨og, cg, rfl, hgc⟩ := hG.view
      clear hgc hcs y2 y3
      have hdr : Below wr.heap.size wr wr.drew := (Below.refl _ _).drew
      have hBd := (HBw.out.kept hbw hltB).keptAll hdr
      have hGd := hG.sees.below hdr
      have hCd := hC.keptAll hdr
      have hbd := below_step hbw hdr
      clear hC hG hbw hdr
      go_wp2_with fail
      refine wp_region_held_drew (S := fun _ => True) (by kernel_rfl) trivial (fun hS0 => ?_)
      (refine hK_take 0 (.slice (some ⟨w.heap.size, 0, none⟩) s.size s.size) rfl (by kernel_rfl) (by kernel_rfl) (by kernel_rfl) (fun _ _ _ h => h) rfl (fun W _ => by go_simp) hS0 ?_; (intro K hK; go_simp; refine hK _ ?_; clear hK K))
      (refine hK_take 1 (.int .i64 (k : Int)) rfl (by kernel_rfl) (by kernel_rfl) (by kernel_rfl) (fun _ _ _ h => h) rfl (fun W _ => by go_simp) hS0 ?_; (intro K hK; go_simp; refine hK _ ?_; clear hK K))
      (refine hK_take 2 (.pointer (some ⟨b, 0, none⟩)) rfl (by kernel_rfl) (by kernel_rfl) (by kernel_rfl) (fun _ _ _ h => h) rfl (fun W _ => by go_simp) hS0 ?_; (intro K hK; go_simp; refine hK _ ?_; clear hK K))
      (refine hK_take 3 (.slice og cur.length cg) rfl (by kernel_rfl) (by kernel_rfl) (by kernel_rfl) (fun _ _ _ h => h) rfl (fun W _ => by go_simp) hS0 ?_; (intro K hK; go_simp; refine hK _ ?_; clear hK K))
      (refine hK_take 5 (.string s) rfl (by kernel_rfl) (by kernel_rfl) (by kernel_rfl) (fun _ _ _ h => h) rfl (fun W _ => by go_simp) hS0 ?_; (intro K hK; go_simp; refine hK _ ?_; clear hK K))
      (refine hK_take 6 (.int .i64 (k : Int)) rfl (by kernel_rfl) (by kernel_rfl) (by kernel_rfl) (fun _ _ _ h => h) rfl (fun W _ => by go_simp) hS0 ?_; (intro K hK; go_simp; refine hK _ ?_; clear hK K))
      (refine hK_take 7 (.int .u8 (s[k].toNat : Int)) rfl (by kernel_rfl) (by kernel_rfl) (by kernel_rfl) (fun _ _ _ h => h) rfl (fun W _ => by go_simp) hS0 ?_; (intro K hK; go_simp; refine hK _ ?_; clear hK K))
      (refine hK_take 8 (.int .u8 (x : Int)) rfl (by kernel_rfl) (by kernel_rfl) (by kernel_rfl) (fun _ _ _ h => h) rfl (fun W _ => by go_simp) hS0 ?_; (intro K hK; go_simp; refine hK _ ?_; clear hK K))
      refine wpAnyH_ready (rs := [4]) (by kernel_rfl) (by simp) ?_
      refine AllReadyH.cons rfl (fun K hK => ?_) AllReadyH.nil
      go_simp
      refine (stepsOf_calls b _ cur (smallG_of hS16 H4.out) (by have := H3.out; omega) _ hGd).mono ?_
      rintro e w3 ⟨g3, rfl, hg3, hS3, hb3⟩
      have hB3 := hBd.keptAll hb3
      have hC3 := hCd.keptAll hb3
      have hbw3 := below_step hbd hb3
      clear hBd hGd hCd hbd
      go_simp
      refine hK.out _ _ trivial (fun hS1 => ?_)
      clear hK K
      refine wpAnyH_ready (rs := [9]) (by kernel_rfl) (by simp) ?_
      refine AllReadyH.cons rfl (fun K hK => ?_) AllReadyH.nil
      go_simp
      refine (throughSteps_calls M L S hg b g3 cur H4.out (by have := H3.out; omega) x hxL _ hB3.mat hS3).mono ?_
      rintro e w4 ⟨v4, rfl, hO4, hb4⟩
      have hC4 := hC3.keptAll hb4
      have hbw4 := below_step hbw3 hb4
      have hsz3 := hC3.lt
      replace hO4 : OwnI w4 (w.heap.size + 1) v4 (ledG M cur x).2 := hO4.base_le (by omega)
      clear hB3 hC3 hbw3 hb3 hb4 hS3
      go_simp
      refine hK.out _ _ trivial (fun hS2 => ?_)
      clear hK K
      generalize (ledG M cur x).1 = y at *
      generalize (ledG M cur x).2 = nx at *
      (refine hK_take 10 (.tuple #[.int .u8 (y : Int), v4]) rfl (by kernel_rfl) (by kernel_rfl) (by kernel_rfl) (fun _ _ _ h => h) rfl (fun W _ => by go_simp) hS2 ?_; (intro K hK; go_simp; refine hK _ ?_; clear hK K))
      (refine hK_take 11 (.int .u8 (y : Int)) rfl (by kernel_rfl) (by kernel_rfl) (by kernel_rfl) (fun _ _ _ h => h) rfl (fun W _ => by go_simp) hS2 ?_; (intro K hK; go_simp; refine hK _ ?_; clear hK K))
      (refine hK_take 12 (v4) rfl (by kernel_rfl) (by kernel_rfl) (by kernel_rfl) (fun _ _ _ h => h) rfl (fun W _ => by go_simp) hS2 ?_; (intro K hK; go_simp; refine hK _ ?_; clear hK K))
      (refine hK_take 13 (.pointer (some ⟨w.heap.size, k, none⟩)) rfl (by kernel_rfl) (by kernel_rfl) (by kernel_rfl) (fun _ _ _ h => h) rfl (fun W _ => by go_simp) hS2 ?_; (intro K hK; go_simp; refine hK _ ?_; clear hK K))
      refine wpAnyH_ready (rs := [14]) (by kernel_rfl) (by simp) ?_
      refine AllReadyH.cons rfl (fun K hK => ?_) AllReadyH.nil
      have cC := hC4.cell
      have fC := hC4.free
      have hC5 := hC4.set k (.int .u8 (y : Int))
      have hbw5 := below_set' (o := k) hbw4 (b := w.heap.size) (Nat.le_refl _) (.int .u8 (y : Int))
      have hO5 : OwnI (w4.setCell ⟨w.heap.size, k, none⟩ (.int .u8 (y : Int))) (w.heap.size + 1) v4 nx := hO4.kept_at (fun j hj => Below.heap_setCell _ _ _ j (by show j ≠ w.heap.size; have := hO4.ge j hj; omega))
      go_simp
      refine hK.out _ _ trivial (fun hS3 => ?_)
      clear hK K
      (refine hK_take 15 (v4) rfl (by kernel_rfl) (by kernel_rfl) (by kernel_rfl) (fun _ _ _ h => h) rfl (fun W _ => by go_simp) hS3 ?_; (intro K hK; go_simp; refine hK _ ?_; clear hK K))
      refine wpAnyH_done (by kernel_rfl) ?_ _
      clear cC fC hC4 hbw4 hO4
      have cC := hC5.cell
      have fC := hC5.free
      generalize w4.setCell ⟨w.heap.size, k, none⟩ (.int .u8 (y : Int)) = w5 at *
      have hC6 := hC5.set k (.int .u8 ((y : Int) + 48))
      rw [Hic.out, Hset.out] at hC6
      have hbw6 := below_set' (o := k) hbw5 (b := w.heap.size) (Nat.le_refl _) (.int .u8 ((y : Int) + 48))
      have hO6 : OwnI (w5.setCell ⟨w.heap.size, k, none⟩ (.int .u8 ((y : Int) + 48))) (w.heap.size + 1) v4 nx := hO5.kept_at (fun j hj => Below.heap_setCell _ _ _ j (by show j ≠ w.heap.size; have := hO5.ge j hj; omega))
      go_wp2
      go_roundw
      case rel => exact ⟨k + 1, _, by omega, by go_num, rfl, hC6, by rw [Hnext.out]; exact hO6, hbw6⟩
      case measure => simp [intOf] <;> omega
    · obtain rfl : k = s.size := by omega
      rw [Hsz.out, List.take_length] at hC hG a1
      rw [← Hsz.out] at hC a1
      rw [imC_done _ _ a1] at hC
      have hstr := run_str_block (P := Try.prog) wr 74 9 5 w.heap.size s.size s.size _ _ _ Try.underlying74 Try.underlying5 Try.underlying9 a1 hC rfl
      clear a1 a2 a3 a4 Hgood
      go_wp2
      go_ret2
      exact ⟨_, rfl, hG.base_le (by omega), hbw⟩
end Go.Proofs.Ytlclhjpnnlgjfaa
