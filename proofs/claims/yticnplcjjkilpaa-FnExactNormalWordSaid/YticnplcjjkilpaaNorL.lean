/- 'normalNumbers': the program. -/
import Derived.Test.YticnplcjjkilpaaNorG
import Derived.Test.YticnplcjjkilpaaMinT
import Derived.Test.YticnplcjjkilpaaTriJ
import Derived.Test.YticnplcjjkilpaaStepG
namespace Go.Proofs.Yticnplcjjkilpaa
open Go.RowKit

set_option maxRecDepth 100000 in
set_option maxHeartbeats 2000000 in
theorem normalNumbers_calls (M : Mach) (L S : Nat) (hg : Good M L S) (w : World) :
    Calls Try.prog 33 #[.agg (mc M)] w fun e w' => e = .returned (.agg (ints (nrmP M L S S))) ∧ Below w.heap.size w w' := by
  have hok := hg.ok
  have hS16 := hg.S16
  have hS1 := hg.S1
  have hL3 := hg.L3
  have hm := hg.isMach
  have hz := zero_mach
  have hz16 := zero_i16
  have HzS : Hid ((mc zeroM).size = 98) := Lib.hid (mc_size zeroM_ok)
  have Hz16 : Hid ((ints zer).size = 16) := Lib.hid (by rw [ints_size]; rfl)
  have hB0 : Blk ((w.alloc (.cells (mc M) 29)).alloc (.cells (ints zer) 49)) w.heap.size (mc M) 29 := (Blk.new w _ _).alloc _
  have hR0 : Blk ((w.alloc (.cells (mc M) 29)).alloc (.cells (ints zer) 49)) (w.heap.size + 1) (ints zer) 49 := Blk.new_at _ _ _ _ (by simp)
  have hbw0 : Below w.heap.size w ((w.alloc (.cells (mc M) 29)).alloc (.cells (ints zer) 49)) := by (repeat (first | exact Below.refl _ _ | refine below_drew' ?_ | refine below_drewN' ?_ _ | refine below_alloc' ?_ _ | refine below_set' ?_ (by (try simp); (try omega)) _ | refine below_step ?_ (by assumption)))
  have F1 : Hid (cut (mc M) 0 98 = mc M) := Lib.hid (cut_all _ _ (mc_size hok)); have F2 : Hid (0 + 98 ≤ (mc M).size) := Lib.hid (by rw [mc_size hok]; omega)
  have Hmok := Lib.hid (mnAll_up hg S (Nat.le_refl S)).1.ok
  have HL := Lib.hid (mnAll_up hg S (Nat.le_refl S)).1.hL
  have Hms := Lib.hid (mc_size Hmok.out)
  have Hmo : Hid (over (mc zeroM) 0 (mc (mnAll M L S S)) = mc (mnAll M L S S)) := Lib.hid (over_all _ _ (by rw [Hms.out, HzS.out]))
  have Hmc : Hid (cut (mc (mnAll M L S S)) 0 98 = mc (mnAll M L S S)) := Lib.hid (cut_all _ _ Hms.out)
  have hf1 := fun W => iMinimalMachine_calls M hok W
  rw [show minC M = 0 from by simp [minC, hm], show minR M = mnAll M L S S from by simp [minR, hm, hg.hL, hg.hS], show minN M = numsT M L S S from by simp [minN, hm, hg.hL, hg.hS]] at hf1
  have HF := Lib.hid hf1
  have Hst := Lib.hid (fun q hq => stay_triv hg q hq)
  clear hf1 hm hg
  go_enter Try.func33, Try.ntmps33
  go_wp2_with (first | (with_reducible show wpList _ _ _ _ _ _; refine wpList_load_blk rfl 29 (.tmp 1) rfl w.heap.size 0 rfl (mc M) _ (hB0) 98 F2.out _ Try.underlying29 rfl size_mach ?_; rw [F1.out]) | (go_at_call 57; refine (HF.out _).mono ?_; rintro e w1 ⟨v1, rfl, hv1, hb1⟩; have hR1 := (hR0.keptAll hb1).alloc (.cells (mc zeroM) 29); have hbw1 := below_alloc' (below_step hbw0 hb1) (.cells (mc zeroM) 29); have hX1 : Blk (w1.alloc (.cells (mc zeroM) 29)) w1.heap.size (mc zeroM) 29 := Blk.new _ _ _; have hlt1 := (hR0.keptAll hb1).lt; have hv2 := hv1.2; rw [numsT_len] at hv2; rcases hv2 with ⟨_, h0⟩ | ⟨g, cap, cur, rfl, hbg, hV1, hnn, hcap, hsz, htake⟩; omega; have hltV : g < w1.heap.size := Blk.lt hV1; have hVa := Blk.alloc hV1 (.cells (mc zeroM) 29); have hbg2 : w.heap.size + 1 < g := (by simp at hbg; omega)) | (with_reducible show wpList _ _ _ _ _ _; refine wpList_store_row rfl 29 _ _ rfl w1.heap.size 0 (mc (mnAll M L S S)) rfl rfl _ _ hX1 (by rw [Hms.out, HzS.out]; omega) (by rw [Hms.out]; exact size_mach) (mc_one _) _ Hmo.out ?_; intro w3 hs3; have hR3 := ((hs3.keep (by omega) hR1).alloc (.cells (ints zer) 49)).alloc (.cells (ints zer) 49); have hX3 := (hs3.blk.alloc (.cells (ints zer) 49)).alloc (.cells (ints zer) 49); have hlt3 := hs3.blk.lt; have hV3 := ((hs3.keep (by omega) hVa).alloc (.cells (ints zer) 49)).alloc (.cells (ints zer) 49); have hbw3 := below_alloc' (below_alloc' (hs3.below _ _ (by omega) hbw1) (.cells (ints zer) 49)) (.cells (ints zer) 49); have hE3 : Blk ((w3.alloc (.cells (ints zer) 49)).alloc (.cells (ints zer) 49)) w3.heap.size (ints zer) 49 := (Blk.new w3 _ _).alloc _; have hN3 : Blk ((w3.alloc (.cells (ints zer) 49)).alloc (.cells (ints zer) 49)) (w3.heap.size + 1) (ints zer) 49 := Blk.new_at _ _ _ _ (by simp); clear hX1 hbw1 hs3 hVa hR1 hB0))
  have hcur : ∀ k, k < S → cur[k]? = some (.int .i64 (numT M L S k : Int)) := fun k hk => by
    have := congrArg (fun l => l[k]?) htake
    simp only [List.getElem?_take, Nat.mul_one] at this
    rw [if_pos hk] at this
    rw [← Array.getElem?_toList, this]
    simp [numsT, hk]
  have Hcur := Lib.hid hcur
  have o1 : w.heap.size + 1 < w1.heap.size := hlt1
  clear hcur htake hsz hcap hnn hV1 hv1 hb1 hbw0 hR0 hbg hz hz16 hlt1
  generalize w1.heap.size = g1 at *
  generalize hb0 : w3.heap.size = b0 at *
  clear hb0
  generalize ((w3.alloc (.cells (ints zer) 49)).alloc (.cells (ints zer) 49)) = w4 at *
  go_loopw [18] (fun i wr => ∃ k : Nat, k ≤ S ∧ i = .int .i64 k ∧ Blk wr g1 (mc (mnAll M L S S)) 29 ∧ Blk wr g cur 2 ∧ Blk wr (w.heap.size + 1) (ints zer) 49 ∧ Blk wr b0 (ints (leaK M L S k)) 49 ∧ Blk wr (b0 + 1) (ints (nrmP M L S k)) 49 ∧ Below w.heap.size w wr) (fun i _ => S - (intOf i).toNat)
  case atStart => exact ⟨0, by omega, rfl, hX3, hV3, hR3, by rw [leaK_zero]; exact hE3, by rw [nrmP_zero]; exact hN3, hbw3⟩
  case round =>
    clear hX3 hV3 hR3 hE3 hN3 hbw3
    obtain ⟨k, hk, rfl, hX, hV, hR, hE, hN, hbw⟩ := hrel
    by_cases hlt : k < S
    · have hkS : (k : Int) < S := by omega
      have hk16 : (k : Int) < 16 := by omega
      have e1 := Hcur.out k hlt
      have hnk : numT M L S k ≤ k := num_le M L (S + 1) k
      have hll := (lst_at M L (S + 1) k).1
      have cV := hV.cell
      have HF1 := Lib.hid (fun W => staysTrivial_calls (mnAll M L S S) Hmok.out L HL.out hL3 (numT M L S k) (by omega) W)
      have e2 := ints_at (leaK M L S k) (numT M L S k) (by rw [leaK_len]; omega)
      rw [leaK_at M L S k _ (by omega)] at e2
      have e3 := ints_at (leaK M L S (k + 1)) (numT M L S k) (by rw [leaK_len]; omega)
      rw [leaK_at M L S (k + 1) _ (by omega), leaAt_now] at e3
      have e4 := ints_at (nrmP M L S k) k (by rw [nrmP_len]; omega)
      generalize (nrmP M L S k).getD k 0 = oldn at e4
      have cE := hE.cell
      have fE := hE.free
      have hnki : (numT M L S k : Int) < 16 := by omega
      cases ht : trivB M L S k
      · have Hs2 := Lib.hid ((Hst.out k hlt).trans ht)
        have Hsn := Lib.hid (nrmP_set M L S k ((lst M L (S + 1) k : Int) + 1) (by unfold nrm; rw [ht]; rfl))
        clear ht
        by_cases h0 : leaAt M L S k (numT M L S k) = 0
        · have Hnew := Lib.hid (leaK_new h0)
          rw [h0] at e2
          have hE1 := hE.set (numT M L S k) (.int .i64 ((k : Int) + 1))
          rw [← ints_set, Hnew.out] at hE1
          have hX1 := hX.setOther b0 (numT M L S k) (.int .i64 ((k : Int) + 1)) (by omega)
          have hV1 := hV.setOther b0 (numT M L S k) (.int .i64 ((k : Int) + 1)) (by omega)
          have hR1 := hR.setOther b0 (numT M L S k) (.int .i64 ((k : Int) + 1)) (by omega)
          have hN1 := hN.setOther b0 (numT M L S k) (.int .i64 ((k : Int) + 1)) (by omega)
          have hbw1 := below_set' (o := numT M L S k) hbw (b := b0) (by omega) (.int .i64 ((k : Int) + 1))
          clear h0 hX hR hN hbw Hnew
          generalize numT M L S k = nk at *
          generalize (lst M L (S + 1) k : Int) + 1 = lv at *
          go_wp2_with (first | (with_reducible show wpList _ _ _ _ _ _; refine wpList_load_blk rfl 29 (.tmp 3) rfl g1 0 rfl (mc (mnAll M L S S)) _ hX1 98 (by rw [Hms.out]; omega) _ Try.underlying29 rfl size_mach ?_; rw [Hmc.out]) | (go_at_call 58; refine (HF1.out _).mono ?_; rintro e w6 ⟨rfl, hb6⟩; rw [Hs2.out]; have hE6 := hE1.keptAll hb6; have hN6 := hN1.keptAll hb6; have cE6 := hE6.cell; have cN6 := hN6.cell; have fN6 := hN6.free))
          have hX6 := (hX1.keptAll hb6).setOther (b0 + 1) k (.int .i64 lv) (by omega)
          have hV6 := (hV1.keptAll hb6).setOther (b0 + 1) k (.int .i64 lv) (by omega)
          have hR6 := (hR1.keptAll hb6).setOther (b0 + 1) k (.int .i64 lv) (by omega)
          have hE7 := hE6.setOther (b0 + 1) k (.int .i64 lv) (by omega)
          have hN7 := hN6.set k (.int .i64 lv)
          rw [← ints_set, Hsn.out] at hN7
          have hbw7 := below_set' (o := k) (below_step hbw1 hb6) (b := b0 + 1) (by omega) (.int .i64 lv)
          go_roundw
          case rel => exact ⟨k + 1, by omega, by go_num, hX6, hV6, hR6, hE7, hN7, hbw7⟩
          case measure => simp [intOf] <;> omega
        · have Hmet := Lib.hid (leaK_met h0)
          have hb : (((lst M L (S + 1) k : Int) + 1) == 0) = false := by simp; omega
          rw [← Hmet.out] at hE
          clear h0 cE fE e2 Hmet
          have cE := hE.cell
          generalize numT M L S k = nk at *
          generalize (lst M L (S + 1) k : Int) + 1 = lv at *
          go_wp2_with (first | (with_reducible show wpList _ _ _ _ _ _; refine wpList_load_blk rfl 29 (.tmp 3) rfl g1 0 rfl (mc (mnAll M L S S)) _ hX 98 (by rw [Hms.out]; omega) _ Try.underlying29 rfl size_mach ?_; rw [Hmc.out]) | (go_at_call 58; refine (HF1.out _).mono ?_; rintro e w6 ⟨rfl, hb6⟩; rw [Hs2.out]; have hE6 := hE.keptAll hb6; have hN6 := hN.keptAll hb6; have cE6 := hE6.cell; have cN6 := hN6.cell; have fN6 := hN6.free))
          have hX6 := (hX.keptAll hb6).setOther (b0 + 1) k (.int .i64 lv) (by omega)
          have hV6 := (hV.keptAll hb6).setOther (b0 + 1) k (.int .i64 lv) (by omega)
          have hR6 := (hR.keptAll hb6).setOther (b0 + 1) k (.int .i64 lv) (by omega)
          have hE7 := hE6.setOther (b0 + 1) k (.int .i64 lv) (by omega)
          have hN7 := hN6.set k (.int .i64 lv)
          rw [← ints_set, Hsn.out] at hN7
          have hbw7 := below_set' (o := k) (below_step hbw hb6) (b := b0 + 1) (by omega) (.int .i64 lv)
          go_roundw
          case rel => exact ⟨k + 1, by omega, by go_num, hX6, hV6, hR6, hE7, hN7, hbw7⟩
          case measure => simp [intOf] <;> omega
      · have Hs2 := Lib.hid ((Hst.out k hlt).trans ht)
        have Hsn := Lib.hid (nrmP_same M L S k (by unfold nrm; rw [ht]; rfl))
        clear ht
        by_cases h0 : leaAt M L S k (numT M L S k) = 0
        · have Hnew := Lib.hid (leaK_new h0)
          rw [h0] at e2
          have hE1 := hE.set (numT M L S k) (.int .i64 ((k : Int) + 1))
          rw [← ints_set, Hnew.out] at hE1
          have hX1 := hX.setOther b0 (numT M L S k) (.int .i64 ((k : Int) + 1)) (by omega)
          have hV1 := hV.setOther b0 (numT M L S k) (.int .i64 ((k : Int) + 1)) (by omega)
          have hR1 := hR.setOther b0 (numT M L S k) (.int .i64 ((k : Int) + 1)) (by omega)
          have hN1 := hN.setOther b0 (numT M L S k) (.int .i64 ((k : Int) + 1)) (by omega)
          have hbw1 := below_set' (o := numT M L S k) hbw (b := b0) (by omega) (.int .i64 ((k : Int) + 1))
          clear h0 hX hR hN hbw Hnew
          generalize numT M L S k = nk at *
          go_wp2_with (first | (with_reducible show wpList _ _ _ _ _ _; refine wpList_load_blk rfl 29 (.tmp 3) rfl g1 0 rfl (mc (mnAll M L S S)) _ hX1 98 (by rw [Hms.out]; omega) _ Try.underlying29 rfl size_mach ?_; rw [Hmc.out]) | (go_at_call 58; refine (HF1.out _).mono ?_; rintro e w6 ⟨rfl, hb6⟩; rw [Hs2.out]))
          go_roundw
          case rel => exact ⟨k + 1, by omega, by go_num, hX1.keptAll hb6, hV1.keptAll hb6, hR1.keptAll hb6, hE1.keptAll hb6, by rw [Hsn.out]; exact hN1.keptAll hb6, below_step hbw1 hb6⟩
          case measure => simp [intOf] <;> omega
        · have Hmet := Lib.hid (leaK_met h0)
          have hb : (((lst M L (S + 1) k : Int) + 1) == 0) = false := by simp; omega
          rw [← Hmet.out] at hE
          clear h0 cE fE e2 Hmet
          have cE := hE.cell
          generalize numT M L S k = nk at *
          generalize (lst M L (S + 1) k : Int) + 1 = lv at *
          go_wp2_with (first | (with_reducible show wpList _ _ _ _ _ _; refine wpList_load_blk rfl 29 (.tmp 3) rfl g1 0 rfl (mc (mnAll M L S S)) _ hX 98 (by rw [Hms.out]; omega) _ Try.underlying29 rfl size_mach ?_; rw [Hmc.out]) | (go_at_call 58; refine (HF1.out _).mono ?_; rintro e w6 ⟨rfl, hb6⟩; rw [Hs2.out]))
          go_roundw
          case rel => exact ⟨k + 1, by omega, by go_num, hX.keptAll hb6, hV.keptAll hb6, hR.keptAll hb6, hE.keptAll hb6, by rw [Hsn.out]; exact hN.keptAll hb6, below_step hbw hb6⟩
          case measure => simp [intOf] <;> omega
    · obtain rfl : k = S := by omega
      have Hcs : Hid ((ints (nrmP M L k k)).size = 16) := Lib.hid (by rw [ints_size, nrmP_len])
      have Hcc : Hid (cut (ints (nrmP M L k k)) 0 16 = ints (nrmP M L k k)) := Lib.hid (cut_all _ _ Hcs.out)
      have Hov : Hid (over (ints zer) 0 (ints (nrmP M L k k)) = ints (nrmP M L k k)) := Lib.hid (over_all _ _ (by rw [Hcs.out, Hz16.out]))
      go_wp2_with (first | (with_reducible show wpList _ _ _ _ _ _; refine wpList_load_blk rfl 49 (.tmp 7) rfl (b0 + 1) 0 rfl (ints (nrmP M L k k)) _ hN 16 (by rw [Hcs.out]; omega) _ Try.underlying49 rfl size_i16 ?_; rw [Hcc.out]) | (with_reducible show wpList _ _ _ _ _ _; refine wpList_store_row rfl 49 (.tmp 2) (.tmp 41) rfl (w.heap.size + 1) 0 (ints (nrmP M L k k)) rfl rfl _ _ hR (by rw [Hz16.out, Hcs.out]; omega) (by rw [Hcs.out]; exact size_i16) (ints_one _) _ Hov.out ?_; intro w8 hs8))
      exact bodyPost_cell rfl rfl hs8.blk Try.underlying49 rfl (by rw [Hcs.out]; exact size_i16) rfl ⟨rfl, hs8.below _ _ (by omega) hbw⟩
end Go.Proofs.Yticnplcjjkilpaa

namespace Go.Proofs.Yticnplcjjkilpaa
open Go.RowKit

set_option maxRecDepth 100000 in
set_option maxHeartbeats 2000000 in
theorem normalWord_calls (M : Mach) (L S : Nat) (hg : Good M L S) (b : Nat) (v : Value) (zs : List Int) (hz : ∀ z ∈ zs, numOk S z = true) (hn : zs.length ≤ 1048576) (w : World) (hN : Blk w b (ints (nrmP M L S S)) 49) (hv : SeesI w v zs) :
    Calls Try.prog 34 #[.pointer (some ⟨b, 0, none⟩), v] w fun e w' => ∃ u, e = .returned u ∧ OwnI w' w.heap.size u (normK M L S zs zs.length) ∧ Below w.heap.size w w' := by
  have hS16 := hg.S16
  obtain ⟨oa, ca, hve, _⟩ := hv.view
  subst hve
  have hltb := hN.lt
  have hO0 : OwnI w w.heap.size (.slice none 0 0) (normK M L S zs 0) := OwnI.nil _ _
  have hbw0 : Below w.heap.size w w := Below.refl _ _
  have Hv := Lib.hid hv; clear hv
  have HN := Lib.hid hN; clear hN
  have Hz := Lib.hid hz; clear hz
  clear hg
  go_enter Try.func34, Try.ntmps34
  go_wp2
  go_loopw [5, 11] (fun ov i wr => ∃ (k : Nat) (v0 : Value), k ≤ zs.length ∧ i = .int .i64 k ∧ v0 = ov ∧ OwnI wr w.heap.size v0 (normK M L S zs k) ∧ w.heap.size ≤ wr.heap.size ∧ Below w.heap.size w wr) (fun _ i _ => zs.length - (intOf i).toNat)
  case atStart => exact ⟨0, _, by omega, rfl, rfl, hO0, Nat.le_refl _, hbw0⟩
  case round =>
    clear hO0 hbw0
    obtain ⟨k, v0, hk, rfl, rfl, hO, hge, hbw⟩ := hrel
    by_cases hlt : k < zs.length
    · have hki : (k : Int) < zs.length := by omega
      have hok := Hz.out _ (List.getElem_mem hlt)
      obtain ⟨g, hg', _, c1⟩ := (Hv.out.below hbw).at k hlt
      subst hg'
      have cN := (HN.out.kept hbw hltb).cell
      have Hsn := Lib.hid (normK_succ M L S zs k hlt)
      have hlen := normK_len M L S zs k (by omega)
      have hst := stOf_lt hok
      have hrange : zs[k] ≠ 0 ∧ -16 ≤ zs[k] ∧ zs[k] ≤ 16 := by have h := (numOk_iff _ _).1 hok; omega
      have e1 := ints_at (nrmP M L S S) (stOf zs[k]) (by rw [nrmP_len]; omega)
      rw [nrmP_at M L S S _ hst hS16] at e1
      have hbd := nrm_bd (M := M) (L := L) (S := S) (stOf zs[k]) (by omega)
      have HB := Lib.hid (bring_nrm M L S zs[k])
      have hsto : (stOf zs[k] : Int) = if 0 < zs[k] then zs[k] - 1 else -zs[k] - 1 := by
        have h1 := hrange.1
        unfold stOf
        split <;> omega
      generalize bring M L S zs[k] = kv at *
      generalize nrm M L S (stOf zs[k]) = nz at *
      generalize stOf zs[k] = st at *
      generalize zs[k] = z at *
      generalize normK M L S zs k = acc at *
      have hsti : (st : Int) < 16 := by omega
      clear hok
      by_cases hneg : 0 < z
      · have hidx : z - 1 = (st : Int) := by rw [if_pos hneg] at hsto; omega
        have Hk : Hid (kv = nz) := Lib.hid (by rw [HB.out, if_neg (by omega)])
        clear HB hsto
        by_cases hz0 : nz = 0
        · subst hz0
          have Hj : Hid (joinN acc kv = acc) := Lib.hid (by rw [Hk.out]; simp [joinN])
          obtain ⟨ob, cb, hve, hvc⟩ := hO.view
          subst hve
          clear hvc
          go_wp2
          go_roundw
          case rel => exact ⟨k + 1, _, by omega, by go_num, rfl, by rw [Hsn.out, Hj.out]; exact hO, hge, hbw⟩
          case measure => simp [intOf] <;> omega
        · have hb0 : (nz == 0) = false := by simpa using hz0
          have hb1 : (-nz == 0) = false := by simp; omega
          have hn1 : 1 ≤ nz ∧ nz ≤ 16 := by omega
          have hk0 : ¬ kv = 0 := by rw [Hk.out]; omega
          have Hk0 := Lib.hid hk0
          clear hbd hz0 hk0
          obtain ⟨ob, cb, hve, hvc⟩ := hO.view
          subst hve
          by_cases hnil : acc.length = 0
          · have h0 := List.eq_nil_of_length_eq_zero hnil
            subst h0
            have Hj : Hid (joinN [] kv = [] ++ [nz]) := Lib.hid (by unfold joinN; rw [if_neg Hk0.out, if_neg (by simp), Hk.out])
            clear hvc hnil
            have hOa := hO.below (Below.alloc (Below.refl _ _) (Nat.le_refl _) (.cells #[.int .i64 (nz)] 2))
            have hba := below_alloc' hbw (.cells #[.int .i64 (nz)] 2)
            go_wp2_with (at_builtin; refine wpList_push_int rfl (.tmp 34) (.tmp 36) rfl w.heap.size _ ([] : List Int) rfl hOa wr.heap.size 1 (nz) rfl (Blk.new wr _ _) (by first | omega | simp) (by simp; omega) ?_; intro v1 w7 hO1 hb7)
            have hs7 := hb7.size
            go_roundw
            case rel => exact ⟨k + 1, _, by omega, by go_num, rfl, by rw [Hsn.out, Hj.out]; exact hO1, by simp at hs7; omega, hba.trans (below_le hb7 (by omega))⟩
            case measure => simp [intOf] <;> omega
          · obtain ⟨ys, y, hys⟩ : ∃ ys y, acc = ys ++ [y] := ⟨acc.dropLast, acc.getLast (fun e => hnil (by rw [e]; rfl)), (List.dropLast_concat_getLast (fun e => hnil (by rw [e]; rfl))).symm⟩
            subst hys
            obtain ⟨gb, hgb, _, hvd⟩ := hvc (by omega)
            subst hgb
            have hcb := ownI_cap hO
            have hsl : (ys ++ [y]).length = ys.length + 1 := by simp
            have cL := hvd ys.length (by omega)
            rw [show (ys ++ [y])[ys.length]'(by omega) = y by simp] at cL
            have hOk := hO
            rw [hsl] at hO hcb hlen
            have hpos : (0 : Int) ≤ (ys.length : Int) := by omega
            have hc1 : ys.length ≤ cb := by omega
            have hc2 : (ys.length : Int) ≤ cb := by omega
            have hyl : (ys.length : Int) < 1048576 := by omega
            have Hlen := Lib.hid hlen
            clear hvc hvd hnil hsl hlen
            by_cases hy : y = -nz
            · have hyb : (y == -nz) = true := by simpa using hy
              have Hj : Hid (joinN (ys ++ [y]) kv = ys) := Lib.hid (by unfold joinN; rw [if_neg Hk0.out, if_pos (by rw [Hk.out]; simp [hy]), List.dropLast_concat])
              have hO' : OwnI wr w.heap.size (.slice (some ⟨gb, 0, none⟩) ys.length cb) ys := ownI_cut (z := y) (by rw [show (ys ++ [y]).length = ys.length + 1 by simp]; exact hO)
              clear hy
              go_wp2
              go_roundw
              case rel => exact ⟨k + 1, _, by omega, by go_num, rfl, by rw [Hsn.out, Hj.out]; exact hO', hge, hbw⟩
              case measure => simp [intOf] <;> omega
            · have hyb : (y == -nz) = false := by simpa using hy
              have Hj : Hid (joinN (ys ++ [y]) kv = (ys ++ [y]) ++ [nz]) := Lib.hid (by unfold joinN; rw [if_neg Hk0.out, if_neg (by rw [Hk.out]; simp; omega), Hk.out])
              clear hy
              have hOa := hOk.below (Below.alloc (Below.refl _ _) (Nat.le_refl _) (.cells #[.int .i64 (nz)] 2))
              have hba := below_alloc' hbw (.cells #[.int .i64 (nz)] 2)
              go_wp2_with (at_builtin; refine wpList_push_int rfl (.tmp 34) (.tmp 36) rfl w.heap.size _ (ys ++ [y]) rfl hOa wr.heap.size 1 (nz) rfl (Blk.new wr _ _) (by rw [List.length_append, List.length_singleton]; exact Nat.le_trans (Nat.add_le_add_right Hlen.out 1) (Nat.le_trans hlt hn)) (by simp; omega) ?_; intro v1 w7 hO1 hb7)
              have hs7 := hb7.size
              go_roundw
              case rel => exact ⟨k + 1, _, by omega, by go_num, rfl, by rw [Hsn.out, Hj.out]; exact hO1, by simp at hs7; omega, hba.trans (below_le hb7 (by omega))⟩
              case measure => simp [intOf] <;> omega
      · have hidx : -z - 1 = (st : Int) := by rw [if_neg hneg] at hsto; omega
        have hzl : z < 0 := by omega
        have Hk : Hid (kv = -nz) := Lib.hid (by rw [HB.out, if_pos hzl])
        clear HB hsto
        by_cases hz0 : nz = 0
        · subst hz0
          have Hj : Hid (joinN acc kv = acc) := Lib.hid (by rw [Hk.out]; simp [joinN])
          obtain ⟨ob, cb, hve, hvc⟩ := hO.view
          subst hve
          clear hvc
          go_wp2
          go_roundw
          case rel => exact ⟨k + 1, _, by omega, by go_num, rfl, by rw [Hsn.out, Hj.out]; exact hO, hge, hbw⟩
          case measure => simp [intOf] <;> omega
        · have hb0 : (nz == 0) = false := by simpa using hz0
          have hb1 : (-nz == 0) = false := by simp; omega
          have hn1 : 1 ≤ nz ∧ nz ≤ 16 := by omega
          have hk0 : ¬ kv = 0 := by rw [Hk.out]; omega
          have Hk0 := Lib.hid hk0
          clear hbd hz0 hk0
          obtain ⟨ob, cb, hve, hvc⟩ := hO.view
          subst hve
          by_cases hnil : acc.length = 0
          · have h0 := List.eq_nil_of_length_eq_zero hnil
            subst h0
            have Hj : Hid (joinN [] kv = [] ++ [-nz]) := Lib.hid (by unfold joinN; rw [if_neg Hk0.out, if_neg (by simp), Hk.out])
            clear hvc hnil
            have hOa := hO.below (Below.alloc (Below.refl _ _) (Nat.le_refl _) (.cells #[.int .i64 (-nz)] 2))
            have hba := below_alloc' hbw (.cells #[.int .i64 (-nz)] 2)
            go_wp2_with (at_builtin; refine wpList_push_int rfl (.tmp 34) (.tmp 36) rfl w.heap.size _ ([] : List Int) rfl hOa wr.heap.size 1 (-nz) rfl (Blk.new wr _ _) (by first | omega | simp) (by simp; omega) ?_; intro v1 w7 hO1 hb7)
            have hs7 := hb7.size
            go_roundw
            case rel => exact ⟨k + 1, _, by omega, by go_num, rfl, by rw [Hsn.out, Hj.out]; exact hO1, by simp at hs7; omega, hba.trans (below_le hb7 (by omega))⟩
            case measure => simp [intOf] <;> omega
          · obtain ⟨ys, y, hys⟩ : ∃ ys y, acc = ys ++ [y] := ⟨acc.dropLast, acc.getLast (fun e => hnil (by rw [e]; rfl)), (List.dropLast_concat_getLast (fun e => hnil (by rw [e]; rfl))).symm⟩
            subst hys
            obtain ⟨gb, hgb, _, hvd⟩ := hvc (by omega)
            subst hgb
            have hcb := ownI_cap hO
            have hsl : (ys ++ [y]).length = ys.length + 1 := by simp
            have cL := hvd ys.length (by omega)
            rw [show (ys ++ [y])[ys.length]'(by omega) = y by simp] at cL
            have hOk := hO
            rw [hsl] at hO hcb hlen
            have hpos : (0 : Int) ≤ (ys.length : Int) := by omega
            have hc1 : ys.length ≤ cb := by omega
            have hc2 : (ys.length : Int) ≤ cb := by omega
            have hyl : (ys.length : Int) < 1048576 := by omega
            have Hlen := Lib.hid hlen
            clear hvc hvd hnil hsl hlen
            by_cases hy : y = nz
            · have hyb : (y == nz) = true := by simpa using hy
              have Hj : Hid (joinN (ys ++ [y]) kv = ys) := Lib.hid (by unfold joinN; rw [if_neg Hk0.out, if_pos (by rw [Hk.out]; simp [hy]), List.dropLast_concat])
              have hO' : OwnI wr w.heap.size (.slice (some ⟨gb, 0, none⟩) ys.length cb) ys := ownI_cut (z := y) (by rw [show (ys ++ [y]).length = ys.length + 1 by simp]; exact hO)
              clear hy
              go_wp2
              go_roundw
              case rel => exact ⟨k + 1, _, by omega, by go_num, rfl, by rw [Hsn.out, Hj.out]; exact hO', hge, hbw⟩
              case measure => simp [intOf] <;> omega
            · have hyb : (y == nz) = false := by simpa using hy
              have Hj : Hid (joinN (ys ++ [y]) kv = (ys ++ [y]) ++ [-nz]) := Lib.hid (by unfold joinN; rw [if_neg Hk0.out, if_neg (by rw [Hk.out]; simp; omega), Hk.out])
              clear hy
              have hOa := hOk.below (Below.alloc (Below.refl _ _) (Nat.le_refl _) (.cells #[.int .i64 (-nz)] 2))
              have hba := below_alloc' hbw (.cells #[.int .i64 (-nz)] 2)
              go_wp2_with (at_builtin; refine wpList_push_int rfl (.tmp 34) (.tmp 36) rfl w.heap.size _ (ys ++ [y]) rfl hOa wr.heap.size 1 (-nz) rfl (Blk.new wr _ _) (by rw [List.length_append, List.length_singleton]; exact Nat.le_trans (Nat.add_le_add_right Hlen.out 1) (Nat.le_trans hlt hn)) (by simp; omega) ?_; intro v1 w7 hO1 hb7)
              have hs7 := hb7.size
              go_roundw
              case rel => exact ⟨k + 1, _, by omega, by go_num, rfl, by rw [Hsn.out, Hj.out]; exact hO1, by simp at hs7; omega, hba.trans (below_le hb7 (by omega))⟩
              case measure => simp [intOf] <;> omega
    · have hkl : k = zs.length := by omega
      have Hk := Lib.hid hkl; clear hkl
      go_wp2
      go_ret
      exact ⟨_, rfl, by rw [← Hk.out]; exact hO, hbw⟩
end Go.Proofs.Yticnplcjjkilpaa
