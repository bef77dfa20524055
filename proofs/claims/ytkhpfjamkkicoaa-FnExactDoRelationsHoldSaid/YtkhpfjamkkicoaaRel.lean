/- 'DoRelationsHold' on a list with at least one word, or a made one: the program and the model. -/
import Derived.Test.YtkhpfjamkkicoaaSeaU
import Derived.Test.YtkhpfjamkkicoaaSeaF
namespace Go.Proofs.Ytkhpfjamkkicoaa
open Go.RowKit

theorem leavesT_calls {M : Mach} {L S : Nat} (hg : Good M L S) {zs : List Int} (hm : isGrp M zs = true) (v : Value) (w : World) (hv : SeesI w v zs) :
    Calls Try.prog 27 #[.agg (mc M), v] w fun e w' => e = .returned (.tuple #[.bool (trivW M zs).1, .int .i64 (trivW M zs).2]) ∧ Below w.heap.size w w' := by
  have h := leavesWords_calls M L S hg v zs ⟨nums_of hg hm, by have := isGrp_len hm; omega⟩ w hv
  rw [← trivW_good hg hm] at h
  exact h
theorem l02TrivT_calls {M : Mach} {L S : Nat} (hg : Good M L S) {zs : List Int} (hm : isGrp M zs = true) (v : Value) (w : World) (hv : SeesI w v zs) :
    Calls Try.prog 22 #[.agg (mc M), v] w fun e w' => e = .returned (.tuple #[.bool (trivW M zs).1, .int .i64 (trivW M zs).2]) ∧ Below w.heap.size w w' := by
  have h := l02Trivial_calls M L S hg v zs ⟨nums_of hg hm, by have := isGrp_len hm; omega⟩ w hv
  rw [← trivW_good hg hm] at h
  exact h

/-- The first word that is not the trivial element (or is not found to be) settles it. -/
def hldU (M : Mach) : List (Value × List Int) → Bool × Int
  | [] => (true, 0)
  | p :: r => if (trivW M p.2).1 = true then hldU M r else (false, (trivW M p.2).2)
def relR (M : Mach) (ps : List (Value × List Int)) : Bool × Int := if (isMach M && grpsOk M.S ps) = true then hldU M ps else (false, 1)
theorem hldU_go {M : Mach} {ps : List (Value × List Int)} {k : Nat} (hk : k < ps.length) (h : (trivW M ps[k].2).1 = true) : hldU M (ps.drop k) = hldU M (ps.drop (k + 1)) := by
  rw [List.drop_eq_getElem_cons hk, hldU, if_pos h]
theorem hldU_end {M : Mach} {ps : List (Value × List Int)} {k : Nat} (hk : k < ps.length) (h : (trivW M ps[k].2).1 = false) : hldU M (ps.drop k) = (false, (trivW M ps[k].2).2) := by
  rw [List.drop_eq_getElem_cons hk, hldU, if_neg (by rw [h]; decide)]
theorem grps_at {M : Mach} {ps : List (Value × List Int)} (h : (isMach M && grpsOk M.S ps) = true) (k : Nat) (hk : k < ps.length) : isGrp M ps[k].2 = true := by
  rw [Bool.and_eq_true] at h
  rw [isGrp_grp h.1]
  exact List.all_eq_true.1 h.2 _ (List.getElem_mem hk)

set_option maxRecDepth 100000 in
set_option maxHeartbeats 2000000 in
theorem iDoRelationsHold_calls (M : Mach) (hok : M.Ok) (v : Value) (ps : List (Value × List Int)) (hl : ps.length ≤ 1048576) (w : World) (hv : SeesL w v ps) :
    Calls Try.prog 15 #[.agg (mc M), v] w fun e w' => e = .returned (.tuple #[.bool (relR M ps).1, .int .i64 (relR M ps).2]) ∧ Below w.heap.size w w' := by
  obtain ⟨g, ca, rfl, _, _⟩ := id hv
  have F1 : Hid (cut (mc M) 0 98 = mc M) := Lib.hid (cut_all _ _ (mc_size hok)); have F2 : Hid (0 + 98 ≤ (mc M).size) := Lib.hid (by rw [mc_size hok]; omega)
  have hB : Blk (w.alloc (.cells (mc M) 29)) w.heap.size (mc M) 29 := Blk.new w _ _
  have hbw0 : Below w.heap.size w (w.alloc (.cells (mc M) 29)) := by (repeat (first | exact Below.refl _ _ | refine below_drew' ?_ | refine below_drewN' ?_ _ | refine below_alloc' ?_ _ | refine below_set' ?_ (by (try simp); (try omega)) _ | refine below_step ?_ (by assumption)))
  have hvB := hv.below hbw0
  clear hv
  cases hc : (isMach M && grpsOk M.S ps)
  · have Hr := Lib.hid (show relR M ps = (false, 1) by simp only [relR, hc]; rfl)
    go_enter Try.func15, Try.ntmps15
    go_wp2_with (first | (with_reducible show wpList _ _ _ _ _ _; refine wpList_load_blk rfl 29 (.tmp 2) rfl w.heap.size 0 rfl (mc M) _ (hB) 98 F2.out _ Try.underlying29 rfl size_mach ?_; rw [F1.out]) | (go_at_call 26; refine (areGroupList_calls M hok _ ps hl _ hvB).mono ?_; rintro e w1 ⟨rfl, hb1⟩; rw [hc]; have hbw1 := below_step hbw0 hb1))
    go_ret2
    exact ⟨ret_bi2 (a := (false, 1)) Hr.out.symm, hbw1⟩
  · have Hr := Lib.hid (show relR M ps = hldU M ps by simp only [relR, hc]; rfl)
    have hm : isMach M = true := (Bool.and_eq_true _ _ ▸ hc).1
    obtain ⟨L, S, hg⟩ := Good.of hok hm
    have HT := Lib.hid (fun (k : Nat) (hk : k < ps.length) (V : Value) (W : World) (hW : SeesI W V ps[k].2) => leavesT_calls hg (grps_at hc k hk) V W hW)
    go_enter Try.func15, Try.ntmps15
    go_wp2_with (first | (with_reducible show wpList _ _ _ _ _ _; refine wpList_load_blk rfl 29 (.tmp 2) rfl w.heap.size 0 rfl (mc M) _ (hB) 98 F2.out _ Try.underlying29 rfl size_mach ?_; rw [F1.out]) | (go_at_call 26; refine (areGroupList_calls M hok _ ps hl _ hvB).mono ?_; rintro e w1 ⟨rfl, hb1⟩; rw [hc]; have hB1 := hB.keptAll hb1; have hv1 := hvB.below hb1; have hbw1 := below_step hbw0 hb1))
    clear hB hvB hbw0 hb1 hm hc
    go_loopw [16] (fun i wr => ∃ k : Nat, k ≤ ps.length ∧ i = .int .i64 k ∧ Blk wr w.heap.size (mc M) 29 ∧ SeesL wr (.slice (some ⟨g, 0, none⟩) ps.length ca) ps ∧ Below w.heap.size w wr ∧ Hid (hldU M ps = hldU M (ps.drop k))) (fun i _ => ps.length - (intOf i).toNat)
    case atStart => exact ⟨0, by omega, rfl, hB1, hv1, hbw1, Lib.hid (by rw [List.drop_zero])⟩
    case round =>
      clear hB1 hv1 hbw1
      obtain ⟨k, hk, rfl, hB, hv, hbw, HU⟩ := hrel
      by_cases hlt : k < ps.length
      · have hki : (k : Int) < (ps.length : Int) := by omega
        obtain ⟨g', c', hv', hG, hs⟩ := id hv
        simp only [Value.slice.injEq, Option.some.injEq, Addr.mk.injEq] at hv'
        have hgg := hv'.1.1
        have hcc := hv'.2.2
        clear hv'
        subst hgg
        subst hcc
        have cG := hG.cell k
        rw [show (ps.map (·.1)).toArray[k]? = some ps[k].1 from by simp [hlt]] at cG
        have hsk := hs k hlt
        have HTk := Lib.hid (fun (W : World) (hW : SeesI W ps[k].1 ps[k].2) => HT.out k hlt ps[k].1 W hW)
        have Hgo := Lib.hid (hldU_go (M := M) hlt)
        have Hend := Lib.hid (hldU_end (M := M) hlt)
        clear hG hs
        generalize ps[k].1 = pv at *
        generalize trivW M ps[k].2 = tr at *
        obtain ⟨tb, tc⟩ := tr
        cases tb
        · have He := Lib.hid (Hend.out rfl)
          go_wp2_with (first | (with_reducible show wpList _ _ _ _ _ _; refine wpList_load_blk rfl 29 (.tmp 2) rfl w.heap.size 0 rfl (mc M) _ (hB) 98 F2.out _ Try.underlying29 rfl size_mach ?_; rw [F1.out]) | (go_at_call 27; refine (HTk.out _ hsk).mono ?_; rintro e w2 ⟨rfl, hb2⟩; have hbw2 := below_step hbw hb2))
          go_ret2
          exact ⟨ret_bi2 (a := (false, tc)) (by rw [Hr.out, HU.out, He.out]), hbw2⟩
        · have Hn := Lib.hid (Hgo.out rfl)
          go_wp2_with (first | (with_reducible show wpList _ _ _ _ _ _; refine wpList_load_blk rfl 29 (.tmp 2) rfl w.heap.size 0 rfl (mc M) _ (hB) 98 F2.out _ Try.underlying29 rfl size_mach ?_; rw [F1.out]) | (go_at_call 27; refine (HTk.out _ hsk).mono ?_; rintro e w2 ⟨rfl, hb2⟩; have hbw2 := below_step hbw hb2; have hB2 := hB.keptAll hb2; have hv2 := hv.below hb2))
          go_roundw
          case rel => exact ⟨k + 1, by omega, by go_num, hB2, hv2, hbw2, Lib.hid (by rw [HU.out, Hn.out])⟩
          case measure => simp [intOf] <;> omega
      · obtain rfl : k = ps.length := by omega
        have Hall : Hid (hldU M (ps.drop ps.length) = (true, 0)) := Lib.hid (by rw [List.drop_length]; rfl)
        go_wp2
        go_ret2
        exact ⟨ret_bi2 (a := (true, 0)) (by rw [Hr.out, HU.out, Hall.out]), hbw⟩

set_option maxRecDepth 100000 in
set_option maxHeartbeats 2000000 in
theorem sDoRelationsHold_calls (M : Mach) (hok : M.Ok) (v : Value) (ps : List (Value × List Int)) (hl : ps.length ≤ 1048576) (w : World) (hv : SeesL w v ps) :
    Calls Try.prog 13 #[.agg (mc M), v] w fun e w' => e = .returned (.tuple #[.bool (relR M ps).1, .int .i64 (relR M ps).2]) ∧ Below w.heap.size w w' := by
  obtain ⟨g, ca, rfl, _, _⟩ := id hv
  have F1 : Hid (cut (mc M) 0 98 = mc M) := Lib.hid (cut_all _ _ (mc_size hok)); have F2 : Hid (0 + 98 ≤ (mc M).size) := Lib.hid (by rw [mc_size hok]; omega)
  have hB : Blk (w.alloc (.cells (mc M) 29)) w.heap.size (mc M) 29 := Blk.new w _ _
  have hbw0 : Below w.heap.size w (w.alloc (.cells (mc M) 29)) := by (repeat (first | exact Below.refl _ _ | refine below_drew' ?_ | refine below_drewN' ?_ _ | refine below_alloc' ?_ _ | refine below_set' ?_ (by (try simp); (try omega)) _ | refine below_step ?_ (by assumption)))
  have hvB := hv.below hbw0
  clear hv
  cases hc : (isMach M && grpsOk M.S ps)
  · have Hr := Lib.hid (show relR M ps = (false, 1) by simp only [relR, hc]; rfl)
    have hcg : codeG M ps = 1 := by simp only [codeG, hc]; rfl
    go_enter Try.func13, Try.ntmps13
    go_wp2_with (first | (with_reducible show wpList _ _ _ _ _ _; refine wpList_load_blk rfl 29 (.tmp 2) rfl w.heap.size 0 rfl (mc M) _ (hB) 98 F2.out _ Try.underlying29 rfl size_mach ?_; rw [F1.out]) | (go_at_call 21; refine (l02Code_calls M hok _ ps hl _ hvB).mono ?_; rintro e w1 ⟨rfl, hb1⟩; rw [hcg]; have hbw1 := below_step hbw0 hb1))
    go_ret2
    exact ⟨ret_bi2 (a := (false, 1)) Hr.out.symm, hbw1⟩
  · have Hr := Lib.hid (show relR M ps = hldU M ps by simp only [relR, hc]; rfl)
    have hcg : codeG M ps = 0 := by simp only [codeG, hc]; rfl
    have hm : isMach M = true := (Bool.and_eq_true _ _ ▸ hc).1
    obtain ⟨L, S, hg⟩ := Good.of hok hm
    have HT := Lib.hid (fun (k : Nat) (hk : k < ps.length) (V : Value) (W : World) (hW : SeesI W V ps[k].2) => l02TrivT_calls hg (grps_at hc k hk) V W hW)
    go_enter Try.func13, Try.ntmps13
    go_wp2_with (first | (with_reducible show wpList _ _ _ _ _ _; refine wpList_load_blk rfl 29 (.tmp 2) rfl w.heap.size 0 rfl (mc M) _ (hB) 98 F2.out _ Try.underlying29 rfl size_mach ?_; rw [F1.out]) | (go_at_call 21; refine (l02Code_calls M hok _ ps hl _ hvB).mono ?_; rintro e w1 ⟨rfl, hb1⟩; rw [hcg]; have hB1 := hB.keptAll hb1; have hv1 := hvB.below hb1; have hbw1 := below_step hbw0 hb1))
    clear hB hvB hbw0 hb1 hm hc hcg
    go_loopw [7] (fun i wr => ∃ k : Nat, k ≤ ps.length ∧ i = .int .i64 k ∧ Blk wr w.heap.size (mc M) 29 ∧ SeesL wr (.slice (some ⟨g, 0, none⟩) ps.length ca) ps ∧ Below w.heap.size w wr ∧ Hid (hldU M ps = hldU M (ps.drop k))) (fun i _ => ps.length - (intOf i).toNat)
    case atStart => exact ⟨0, by omega, rfl, hB1, hv1, hbw1, Lib.hid (by rw [List.drop_zero])⟩
    case round =>
      clear hB1 hv1 hbw1
      obtain ⟨k, hk, rfl, hB, hv, hbw, HU⟩ := hrel
      by_cases hlt : k < ps.length
      · have hki : (k : Int) < (ps.length : Int) := by omega
        have hpk : (ps.map (·.1)).toArray[k]? = some ps[k].1 := by simp [hlt]
        have HTk := Lib.hid (fun (W : World) (hW : SeesI W ps[k].1 ps[k].2) => HT.out k hlt ps[k].1 W hW)
        have Hgo := Lib.hid (hldU_go (M := M) hlt)
        have Hend := Lib.hid (hldU_end (M := M) hlt)
        generalize trivW M ps[k].2 = tr at *
        obtain ⟨tb, tc⟩ := tr
        cases tb
        · have He := Lib.hid (Hend.out rfl)
          go_wp2
          refine wp_region_quiet (C := fun W => Blk W w.heap.size (mc M) 29 ∧ SeesL W (.slice (some ⟨g, 0, none⟩) ps.length ca) ps ∧ Below w.heap.size w W) (by kernel_rfl) (by kernel_rfl) ⟨hB.drew, hv.below (Below.refl _ _).drew, hbw.drew⟩ ?_
          refine wpK_load rfl 29 _ rfl w.heap.size 0 rfl (mc M) _ (fun W hW => hW.1) 98 F2.out _ Try.underlying29 rfl size_mach _ F1.out ?_; (intro K hK; go_simp; refine hK _ ?_; clear hK K)
          refine wpK_val rfl (.slice (some ⟨g, 0, none⟩) ps.length ca) (fun W _ => by go_simp) ?_; (intro K hK; go_simp; refine hK _ ?_; clear hK K)
          refine wpK_val rfl (.int .i64 (k : Int)) (fun W _ => by go_simp) ?_; (intro K hK; go_simp; refine hK _ ?_; clear hK K)
          refine wpK_val rfl (.pointer (some ⟨g, k, none⟩)) (fun W _ => by go_simp) ?_; (intro K hK; go_simp; refine hK _ ?_; clear hK K)
          refine wpK_val rfl ps[k].1 (fun W hW => by
            obtain ⟨g', c', hv', hG, _⟩ := hW.2.1
            simp only [Value.slice.injEq, Option.some.injEq, Addr.mk.injEq] at hv'
            have c0 := hG.cell k
            rw [← hv'.1.1, hpk] at c0
            clear hW hv' hG
            go_simp) ?_; (intro K hK; go_simp; refine hK _ ?_; clear hK K)
          refine wpK_call rfl 22 #[.agg (mc M), ps[k].1] (.tuple #[.bool false, .int .i64 tc]) (fun W => by go_simp) (fun W hW => by
            obtain ⟨g', c', hv', hG, hs⟩ := hW.2.1
            exact (HTk.out W (hs k hlt)).mono fun e w'' h => ⟨h.1, hW.1.keptAll h.2, hW.2.1.below h.2, below_step hW.2.2 h.2⟩) ?_; (intro K hK; go_simp; refine hK _ ?_; clear hK K)
          refine wpK_val rfl (.tuple #[.bool false, .int .i64 tc]) (fun W _ => by go_simp) ?_; (intro K hK; go_simp; refine hK _ ?_; clear hK K)
          refine wpK_val rfl (.bool false) (fun W _ => by go_simp) ?_; (intro K hK; go_simp; refine hK _ ?_; clear hK K)
          refine wpK_val rfl (.int .i64 tc) (fun W _ => by go_simp) ?_; (intro K hK; go_simp; refine hK _ ?_; clear hK K)
          refine wpK_val rfl (.bool false) (fun W _ => by go_simp) ?_; (intro K hK; go_simp; refine hK _ ?_; clear hK K)
          refine wpK_val rfl (.int .i64 tc) (fun W _ => by go_simp) ?_; (intro K hK; go_simp; refine hK _ ?_; clear hK K)
          refine wpQuiet_nil ?_
          rintro w3 ⟨hB', hv', hbw'⟩
          clear hB hv hbw
          go_wp2
          go_ret2
          exact ⟨ret_bi2 (a := (false, tc)) (by rw [Hr.out, HU.out, He.out]), hbw'⟩
        · have Hn := Lib.hid (Hgo.out rfl)
          go_wp2
          refine wp_region_quiet (C := fun W => Blk W w.heap.size (mc M) 29 ∧ SeesL W (.slice (some ⟨g, 0, none⟩) ps.length ca) ps ∧ Below w.heap.size w W) (by kernel_rfl) (by kernel_rfl) ⟨hB.drew, hv.below (Below.refl _ _).drew, hbw.drew⟩ ?_
          refine wpK_load rfl 29 _ rfl w.heap.size 0 rfl (mc M) _ (fun W hW => hW.1) 98 F2.out _ Try.underlying29 rfl size_mach _ F1.out ?_; (intro K hK; go_simp; refine hK _ ?_; clear hK K)
          refine wpK_val rfl (.slice (some ⟨g, 0, none⟩) ps.length ca) (fun W _ => by go_simp) ?_; (intro K hK; go_simp; refine hK _ ?_; clear hK K)
          refine wpK_val rfl (.int .i64 (k : Int)) (fun W _ => by go_simp) ?_; (intro K hK; go_simp; refine hK _ ?_; clear hK K)
          refine wpK_val rfl (.pointer (some ⟨g, k, none⟩)) (fun W _ => by go_simp) ?_; (intro K hK; go_simp; refine hK _ ?_; clear hK K)
          refine wpK_val rfl ps[k].1 (fun W hW => by
            obtain ⟨g', c', hv', hG, _⟩ := hW.2.1
            simp only [Value.slice.injEq, Option.some.injEq, Addr.mk.injEq] at hv'
            have c0 := hG.cell k
            rw [← hv'.1.1, hpk] at c0
            clear hW hv' hG
            go_simp) ?_; (intro K hK; go_simp; refine hK _ ?_; clear hK K)
          refine wpK_call rfl 22 #[.agg (mc M), ps[k].1] (.tuple #[.bool true, .int .i64 tc]) (fun W => by go_simp) (fun W hW => by
            obtain ⟨g', c', hv', hG, hs⟩ := hW.2.1
            exact (HTk.out W (hs k hlt)).mono fun e w'' h => ⟨h.1, hW.1.keptAll h.2, hW.2.1.below h.2, below_step hW.2.2 h.2⟩) ?_; (intro K hK; go_simp; refine hK _ ?_; clear hK K)
          refine wpK_val rfl (.tuple #[.bool true, .int .i64 tc]) (fun W _ => by go_simp) ?_; (intro K hK; go_simp; refine hK _ ?_; clear hK K)
          refine wpK_val rfl (.bool true) (fun W _ => by go_simp) ?_; (intro K hK; go_simp; refine hK _ ?_; clear hK K)
          refine wpK_val rfl (.int .i64 tc) (fun W _ => by go_simp) ?_; (intro K hK; go_simp; refine hK _ ?_; clear hK K)
          refine wpK_val rfl (.bool true) (fun W _ => by go_simp) ?_; (intro K hK; go_simp; refine hK _ ?_; clear hK K)
          refine wpK_val rfl (.int .i64 tc) (fun W _ => by go_simp) ?_; (intro K hK; go_simp; refine hK _ ?_; clear hK K)
          refine wpQuiet_nil ?_
          rintro w3 ⟨hB', hv', hbw'⟩
          clear hB hv hbw
          go_wp2
          go_roundw
          case rel => exact ⟨k + 1, by omega, by go_num, hB', hv', hbw', Lib.hid (by rw [HU.out, Hn.out])⟩
          case measure => simp [intOf] <;> omega
      · obtain rfl : k = ps.length := by omega
        have Hall : Hid (hldU M (ps.drop ps.length) = (true, 0)) := Lib.hid (by rw [List.drop_length]; rfl)
        go_wp2
        go_ret2
        exact ⟨ret_bi2 (a := (true, 0)) (by rw [Hr.out, HU.out, Hall.out]), hbw⟩
end Go.Proofs.Ytkhpfjamkkicoaa
