/- The model's checks of machines and group words. -/
import Derived.Test.YticnplcjjkilpaaGrpN
import Derived.Test.YticnplcjjkilpaaQuietK
namespace Go.Proofs.Yticnplcjjkilpaa
open Go.RowKit

set_option maxRecDepth 100000 in
set_option maxHeartbeats 1000000 in
theorem l02Is_calls (M : Mach) (L S : Nat) (hg : Good M L S) (v : Value) (zs : List Int) (w : World) (hv : SeesI w v zs) :
    Calls Try.prog 52 #[.agg (mc M), v] w fun e w' => e = .returned (.bool (grpOk S zs)) ∧ Below w.heap.size w w' := by
  have hok := hg.ok
  have F1 : Hid (cut (mc M) 0 98 = mc M) := Lib.hid (cut_all _ _ (mc_size hok)); have F2 : Hid (0 + 98 ≤ (mc M).size) := Lib.hid (by rw [mc_size hok]; omega)
  have hB : Blk (w.alloc (.cells (mc M) 29)) w.heap.size (mc M) 29 := Blk.new w _ _
  have hvB := hv.below (w1 := w.alloc (.cells (mc M) 29)) (by (repeat (first | exact Below.refl _ _ | refine below_drew' ?_ | refine below_drewN' ?_ _ | refine below_alloc' ?_ _ | refine below_set' ?_ (by (try simp); (try omega)) _ | refine below_step ?_ (by assumption))))
  obtain ⟨oa, ca, rfl, hca⟩ := hv.view
  clear hca
  by_cases h40 : zs.length ≤ 40
  · have hgt : ¬ (40 < (zs.length : Int)) := by omega
    have Hr := Lib.hid (grpOk_short (S := S) h40)
    go_enter Try.func52, Try.ntmps52
    go_wp2_with (first | (with_reducible show wpList _ _ _ _ _ _; refine wpList_load_blk rfl 29 (.tmp 2) rfl w.heap.size 0 rfl (mc M) _ (hB) 98 F2.out _ Try.underlying29 rfl size_mach ?_; rw [F1.out]) | (go_at_call 70; refine (l02Numbers_calls M L S hg _ zs _ hvB).mono ?_; rintro e w1 ⟨rfl, hb1⟩))
    go_ret
    exact ⟨ret_bool Hr.out.symm, by (repeat (first | exact Below.refl _ _ | refine below_drew' ?_ | refine below_drewN' ?_ _ | refine below_alloc' ?_ _ | refine below_set' ?_ (by (try simp); (try omega)) _ | refine below_step ?_ (by assumption)))⟩
  · have hgt : 40 < (zs.length : Int) := by omega
    have Hr := Lib.hid (grpOk_long (S := S) h40)
    go_enter Try.func52, Try.ntmps52
    go_wp2
    go_ret
    exact ⟨ret_bool Hr.out.symm, by (repeat (first | exact Below.refl _ _ | refine below_drew' ?_ | refine below_drewN' ?_ _ | refine below_alloc' ?_ _ | refine below_set' ?_ (by (try simp); (try omega)) _ | refine below_step ?_ (by assumption)))⟩

/-- A slice of slices, as a call with '...' lays it. -/
def SeesL (w : World) (v : Value) (ps : List (Value × List Int)) : Prop :=
  ∃ g cap, v = .slice (some ⟨g, 0, none⟩) ps.length cap ∧ Blk w g (ps.map (·.1)).toArray 26 ∧ ∀ i (hi : i < ps.length), SeesI w ps[i].1 ps[i].2
theorem SeesL.below {w w1 : World} {v : Value} {ps : List (Value × List Int)} (h : SeesL w v ps) (hb : Below w.heap.size w w1) : SeesL w1 v ps := by
  obtain ⟨g, cap, hv, hB, hs⟩ := h
  exact ⟨g, cap, hv, hB.keptAll hb, fun i hi => (hs i hi).below hb⟩
def grpsUp (S : Int) (ps : List (Value × List Int)) (k : Nat) : Bool := (ps.take k).all fun p => grpOk S p.2
def grpsOk (S : Int) (ps : List (Value × List Int)) : Bool := ps.all fun p => grpOk S p.2
theorem grpsUp_zero (S : Int) (ps : List (Value × List Int)) : grpsUp S ps 0 = true := by simp [grpsUp]
theorem grpsUp_succ (S : Int) (ps : List (Value × List Int)) (j : Nat) (hj : j < ps.length) (h : grpsUp S ps j = true) (h2 : grpOk S ps[j].2 = true) : grpsUp S ps (j + 1) = true := by
  unfold grpsUp at *
  rw [List.take_succ_eq_append_getElem hj, List.all_append, h]
  simp [h2]
theorem grpsUp_all (S : Int) (ps : List (Value × List Int)) : grpsUp S ps ps.length = grpsOk S ps := by simp [grpsUp, grpsOk]
theorem grpsOk_bad (S : Int) (ps : List (Value × List Int)) (j : Nat) (hj : j < ps.length) (h : grpOk S ps[j].2 = false) : grpsOk S ps = false := by
  unfold grpsOk; rw [List.all_eq_false]; exact ⟨ps[j], List.getElem_mem hj, by simp [h]⟩
def codeG (M : Mach) (ps : List (Value × List Int)) : Int := if isMach M && grpsOk M.S ps then 0 else 1

set_option maxRecDepth 100000 in
set_option maxHeartbeats 1000000 in
theorem l02Code_calls (M : Mach) (hok : M.Ok) (v : Value) (ps : List (Value × List Int)) (hp : ps.length ≤ 1000) (w : World) (hv : SeesL w v ps) :
    Calls Try.prog 27 #[.agg (mc M), v] w fun e w' => e = .returned (.int .i64 (codeG M ps)) ∧ Below w.heap.size w w' := by
  have F1 : Hid (cut (mc M) 0 98 = mc M) := Lib.hid (cut_all _ _ (mc_size hok)); have F2 : Hid (0 + 98 ≤ (mc M).size) := Lib.hid (by rw [mc_size hok]; omega)
  have hB : Blk (w.alloc (.cells (mc M) 29)) w.heap.size (mc M) 29 := Blk.new w _ _
  have hvB := hv.below (w1 := w.alloc (.cells (mc M) 29)) (by (repeat (first | exact Below.refl _ _ | refine below_drew' ?_ | refine below_drewN' ?_ _ | refine below_alloc' ?_ _ | refine below_set' ?_ (by (try simp); (try omega)) _ | refine below_step ?_ (by assumption))))
  obtain ⟨g, ca, rfl, hG, hS⟩ := hv
  clear hG hS
  cases hm : isMach M
  · have Hr : Hid (codeG M ps = 1) := Lib.hid (by simp [codeG, hm])
    go_enter Try.func27, Try.ntmps27
    go_wp2_with (first | (with_reducible show wpList _ _ _ _ _ _; refine wpList_load_blk rfl 29 (.tmp 2) rfl w.heap.size 0 rfl (mc M) _ (hB) 98 F2.out _ Try.underlying29 rfl size_mach ?_; rw [F1.out]) | (go_at_call 51; refine (l01Is_calls M hok _).mono ?_; rintro e w1 ⟨rfl, hb1⟩; have hB1 := hB.keptAll hb1))
    go_ret
    exact ⟨ret_int Hr.out.symm, by (repeat (first | exact Below.refl _ _ | refine below_drew' ?_ | refine below_drewN' ?_ _ | refine below_alloc' ?_ _ | refine below_set' ?_ (by (try simp); (try omega)) _ | refine below_step ?_ (by assumption)))⟩
  · obtain ⟨L, S, hg⟩ := Good.of hok hm
    have Hr : Hid (codeG M ps = if grpsOk S ps then 0 else 1) := Lib.hid (by simp [codeG, hm, hg.hS])
    have hbw0 : Below w.heap.size w (w.alloc (.cells (mc M) 29)) := by (repeat (first | exact Below.refl _ _ | refine below_drew' ?_ | refine below_drewN' ?_ _ | refine below_alloc' ?_ _ | refine below_set' ?_ (by (try simp); (try omega)) _ | refine below_step ?_ (by assumption)))
    go_enter Try.func27, Try.ntmps27
    go_wp2_with (first | (with_reducible show wpList _ _ _ _ _ _; refine wpList_load_blk rfl 29 (.tmp 2) rfl w.heap.size 0 rfl (mc M) _ (hB) 98 F2.out _ Try.underlying29 rfl size_mach ?_; rw [F1.out]) | (go_at_call 51; refine (l01Is_calls M hok _).mono ?_; rintro e w1 ⟨rfl, hb1⟩; have hB1 := hB.keptAll hb1; have hv1 := hvB.below hb1; have hbw := below_step hbw0 hb1))
    clear hB hvB hbw0 hb1
    go_loopw [5] (fun i wr => ∃ k : Nat, k ≤ ps.length ∧ i = .int .i64 k ∧ Blk wr w.heap.size (mc M) 29 ∧ SeesL wr (.slice (some ⟨g, 0, none⟩) ps.length ca) ps ∧ Below w.heap.size w wr ∧ Hid (grpsUp S ps k = true)) (fun i _ => ps.length - (intOf i).toNat)
    case atStart => exact ⟨0, by omega, rfl, hB1, hv1, hbw, Lib.hid (grpsUp_zero _ _)⟩
    case round =>
      clear hB1 hv1 hbw
      obtain ⟨k, hk, rfl, hB, hv, hbw, HU⟩ := hrel
      by_cases hlt : k < ps.length
      · have hki : (k : Int) < ps.length := by omega
        have hpk : (ps.map (·.1)).toArray[k]? = some ps[k].1 := by simp [hlt]
        have Hn : Hid (grpOk S ps[k].2 = true → grpsUp S ps (k + 1) = true) := Lib.hid (grpsUp_succ S ps k hlt HU.out)
        have Hb : Hid (grpOk S ps[k].2 = false → grpsOk S ps = false) := Lib.hid (grpsOk_bad S ps k hlt)
        cases hgo : grpOk S ps[k].2
        · go_wp2
          refine wp_region_quiet (C := fun W => Blk W w.heap.size (mc M) 29 ∧ SeesL W (.slice (some ⟨g, 0, none⟩) ps.length ca) ps ∧ Below w.heap.size w W) (by kernel_rfl) (by kernel_rfl) ⟨hB.drew, hv.below (Below.refl _ _).drew, hbw.drew⟩ ?_
          refine wpK_load rfl 29 _ rfl w.heap.size 0 rfl (mc M) _ (fun W hW => hW.1) 98 F2.out _ Try.underlying29 rfl size_mach _ F1.out ?_; (intro K hK; go_simp; refine hK _ ?_; clear hK K)
          refine wpK_val rfl (.slice (some ⟨g, 0, none⟩) ps.length ca) (fun W _ => by go_simp) ?_; (intro K hK; go_simp; refine hK _ ?_; clear hK K)
          refine wpK_val rfl (.int .i64 (k : Int)) (fun W _ => by go_simp) ?_; (intro K hK; go_simp; refine hK _ ?_; clear hK K)
          refine wpK_val rfl (.pointer (some ⟨g, k, none⟩)) (fun W _ => by go_simp) ?_; (intro K hK; go_simp; refine hK _ ?_; clear hK K)
          refine wpK_val rfl ps[k].1 (fun W hW => by
            obtain ⟨g', c', hv', hG, _⟩ := hW.2.1
            simp only [Value.slice.injEq, Option.some.injEq, Addr.mk.injEq] at hv'
            have c0 := hG.cell k
            rw [← hv'.1.1, hpk] at c0
            clear hW hv' hG
            go_simp) ?_; (intro K hK; go_simp; refine hK _ ?_; clear hK K)
          refine wpK_call rfl 52 #[.agg (mc M), ps[k].1] (.bool false) (fun W => by go_simp) (fun W hW => by
            obtain ⟨g', c', hv', hG, hs⟩ := hW.2.1
            exact (l02Is_calls M L S hg ps[k].1 ps[k].2 W (hs k hlt)).mono fun e w'' h => ⟨by rw [h.1, hgo], hW.1.keptAll h.2, hW.2.1.below h.2, below_step hW.2.2 h.2⟩) ?_; (intro K hK; go_simp; refine hK _ ?_; clear hK K)
          refine wpK_val rfl (.bool true) (fun W _ => by go_simp) ?_; (intro K hK; go_simp; refine hK _ ?_; clear hK K)
          refine wpQuiet_nil ?_
          rintro w3 ⟨hB', hv', hbw'⟩
          clear hB hv hbw
          have Hbad := Lib.hid (Hb.out hgo)
          go_wp2
          go_ret
          exact ⟨ret_int (by rw [Hr.out, Hbad.out]; rfl), hbw'⟩
        · go_wp2
          refine wp_region_quiet (C := fun W => Blk W w.heap.size (mc M) 29 ∧ SeesL W (.slice (some ⟨g, 0, none⟩) ps.length ca) ps ∧ Below w.heap.size w W) (by kernel_rfl) (by kernel_rfl) ⟨hB.drew, hv.below (Below.refl _ _).drew, hbw.drew⟩ ?_
          refine wpK_load rfl 29 _ rfl w.heap.size 0 rfl (mc M) _ (fun W hW => hW.1) 98 F2.out _ Try.underlying29 rfl size_mach _ F1.out ?_; (intro K hK; go_simp; refine hK _ ?_; clear hK K)
          refine wpK_val rfl (.slice (some ⟨g, 0, none⟩) ps.length ca) (fun W _ => by go_simp) ?_; (intro K hK; go_simp; refine hK _ ?_; clear hK K)
          refine wpK_val rfl (.int .i64 (k : Int)) (fun W _ => by go_simp) ?_; (intro K hK; go_simp; refine hK _ ?_; clear hK K)
          refine wpK_val rfl (.pointer (some ⟨g, k, none⟩)) (fun W _ => by go_simp) ?_; (intro K hK; go_simp; refine hK _ ?_; clear hK K)
          refine wpK_val rfl ps[k].1 (fun W hW => by
            obtain ⟨g', c', hv', hG, _⟩ := hW.2.1
            simp only [Value.slice.injEq, Option.some.injEq, Addr.mk.injEq] at hv'
            have c0 := hG.cell k
            rw [← hv'.1.1, hpk] at c0
            clear hW hv' hG
            go_simp) ?_; (intro K hK; go_simp; refine hK _ ?_; clear hK K)
          refine wpK_call rfl 52 #[.agg (mc M), ps[k].1] (.bool true) (fun W => by go_simp) (fun W hW => by
            obtain ⟨g', c', hv', hG, hs⟩ := hW.2.1
            exact (l02Is_calls M L S hg ps[k].1 ps[k].2 W (hs k hlt)).mono fun e w'' h => ⟨by rw [h.1, hgo], hW.1.keptAll h.2, hW.2.1.below h.2, below_step hW.2.2 h.2⟩) ?_; (intro K hK; go_simp; refine hK _ ?_; clear hK K)
          refine wpK_val rfl (.bool false) (fun W _ => by go_simp) ?_; (intro K hK; go_simp; refine hK _ ?_; clear hK K)
          refine wpQuiet_nil ?_
          rintro w3 ⟨hB', hv', hbw'⟩
          clear hB hv hbw
          have Hnx := Lib.hid (Hn.out hgo)
          go_wp2
          go_roundw
          case rel => exact ⟨k + 1, by omega, by go_num, hB', hv', hbw', Hnx⟩
          case measure => simp [intOf] <;> omega
      · obtain rfl : k = ps.length := by omega
        have Hall : Hid (grpsOk S ps = true) := Lib.hid (by rw [← grpsUp_all]; exact HU.out)
        go_wp2
        go_ret
        exact ⟨ret_int (by rw [Hr.out, Hall.out]; rfl), hbw⟩
end Go.Proofs.Yticnplcjjkilpaa
