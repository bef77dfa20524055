/- Both 'IsGroupWord's, and the model's check of machines and group words. -/
import Derived.Test.YtliohokcjgcmhaaGrpM
import Derived.Test.YtliohokcjgcmhaaArgs
import Derived.Test.YtliohokcjgcmhaaMachD
import Derived.Test.YtliohokcjgcmhaaMach
import Derived.Test.YtliohokcjgcmhaaHeldK
import Derived.Test.YtliohokcjgcmhaaInvM
namespace Go.Proofs.Ytliohokcjgcmhaa
open Go.RowKit

def isGrp (M : Mach) (zs : List Int) : Bool := isMach M && grpOk M.S zs
theorem wrap_neg (S : Nat) (h : S ≤ 16) : IntKind.i64.wrap (-(S : Int)) = -(S : Int) := IntWalk.i64_in _ (by omega)

set_option maxRecDepth 100000 in
set_option maxHeartbeats 1000000 in
theorem IsGroupWord_calls (M : Mach) (hok : M.Ok) (v : Value) (zs : List Int) (w : World) (hv : SeesI w v zs) :
    Calls Try.prog 53 #[.agg (mc M), v] w fun e w' => e = .returned (.bool (isGrp M zs)) ∧ Below w.heap.size w w' := by
  have F1 : Hid (cut (mc M) 0 98 = mc M) := Lib.hid (cut_all _ _ (mc_size hok)); have F2 : Hid (0 + 98 ≤ (mc M).size) := Lib.hid (by rw [mc_size hok]; omega)
  have hB : Blk (w.alloc (.cells (mc M) 27)) w.heap.size (mc M) 27 := Blk.new w _ _
  obtain ⟨oa, ca, rfl, hca⟩ := hv.view
  have hln := hv.1
  unfold maxLen at hln
  clear hv
  cases hm : isMach M
  · have Hr : Hid (isGrp M zs = false) := Lib.hid (by simp [isGrp, hm])
    clear hca
    go_enter Try.func53, Try.ntmps53
    go_wp2_with (first | (with_reducible show wpList _ _ _ _ _ _; refine wpList_load_blk rfl 27 (.tmp 2) rfl w.heap.size 0 rfl (mc M) _ (by first | exact hB1 | exact hB) 98 F2.out _ Try.underlying27 rfl size_mach ?_; rw [F1.out]) | (go_at_call 73; refine (IsMachine_calls M hok _).mono ?_; rintro e w1 ⟨rfl, hb1⟩; have hB1 := hB.keptAll hb1))
    go_ret
    exact ⟨ret_bool Hr.out.symm, by (repeat (first | exact Below.refl _ _ | refine below_drew' ?_ | refine below_drewN' ?_ _ | refine below_alloc' ?_ _ | refine below_set' ?_ (by (try simp); (try omega)) _ | refine below_step ?_ (by assumption)))⟩
  · by_cases h40 : zs.length ≤ 40
    · obtain ⟨L, S, hg⟩ := Good.of hok hm
      have hS16 := hg.S16
      have hcS := mc_S M
      rw [hg.hS] at hcS
      have hrd : isGrp M zs = numsOk S zs := by simp [isGrp, hm, hg.hS, grpOk_short h40]
      have Hrd := Lib.hid hrd; clear hrd
      have hgt : ¬ (40 < (zs.length : Int)) := by omega
      have hwn := wrap_neg S hS16
      have Hca := Lib.hid hca; clear hca
      clear hg
      go_enter Try.func53, Try.ntmps53
      go_wp2_with (first | (with_reducible show wpList _ _ _ _ _ _; refine wpList_load_blk rfl 27 (.tmp 2) rfl w.heap.size 0 rfl (mc M) _ (by first | exact hB1 | exact hB) 98 F2.out _ Try.underlying27 rfl size_mach ?_; rw [F1.out]) | (go_at_call 73; refine (IsMachine_calls M hok _).mono ?_; rintro e w1 ⟨rfl, hb1⟩; have hB1 := hB.keptAll hb1; have cA := hB1.cell))
      have hbw : Below w.heap.size w w1 := by (repeat (first | exact Below.refl _ _ | refine below_drew' ?_ | refine below_drewN' ?_ _ | refine below_alloc' ?_ _ | refine below_set' ?_ (by (try simp); (try omega)) _ | refine below_step ?_ (by assumption)))
      go_loop [17] (fun i => ∃ k : Nat, k ≤ zs.length ∧ i = .int .i64 k ∧ Hid (numsUp S zs k = true)) (fun i => zs.length - (intOf i).toNat)
      case atStart => exact ⟨0, by omega, rfl, Lib.hid (numsUp_zero _ _)⟩
      case round =>
        obtain ⟨k, hk, rfl, HU⟩ := hrel
        by_cases hlt : k < zs.length
        · obtain ⟨g, rfl, _, hcell⟩ := Hca.out (by omega)
          have c1 := cell_kept hbw (hcell k hlt)
          have hki : (k : Int) < zs.length := by omega
          clear hcell
          cases hno : numOk S zs[k]
          · have Hbad := Lib.hid (numsOk_bad S zs k hlt hno)
            rw [numOk_no] at hno
            generalize zs[k] = z at *
            by_cases z0 : z = 0
            · subst z0
              clear hno
              go_wp2
              go_ret
              exact ⟨ret_bool (by rw [Hrd.out, Hbad.out]), hbw⟩
            · have z0' : (z == 0) = false := by simpa using z0
              by_cases z1 : z < -(S : Int)
              · clear hno z0
                go_wp2
                go_ret
                exact ⟨ret_bool (by rw [Hrd.out, Hbad.out]), hbw⟩
              · have z2 : (S : Int) < z := by omega
                clear hno z0
                go_wp2
                go_ret
                exact ⟨ret_bool (by rw [Hrd.out, Hbad.out]), hbw⟩
          · have Hn := Lib.hid (numsUp_succ S zs k hlt HU.out hno)
            rw [numOk_iff] at hno
            generalize zs[k] = z at *
            have z0' : (z == 0) = false := by simpa using hno.1
            have z1 : ¬ z < -(S : Int) := by omega
            have z2 : ¬ (S : Int) < z := by omega
            clear hno
            go_wp2
            go_round
            case rel => exact ⟨k + 1, by omega, by go_num, Hn⟩
            case measure => simp [intOf] <;> omega
        · obtain rfl : k = zs.length := by omega
          have Hall : Hid (numsOk S zs = true) := Lib.hid (by rw [← numsUp_all]; exact HU.out)
          go_wp2
          go_ret
          exact ⟨ret_bool (by rw [Hrd.out, Hall.out]), hbw⟩
    · have Hr : Hid (isGrp M zs = false) := Lib.hid (by simp [isGrp, grpOk_long h40])
      have hgt : 40 < (zs.length : Int) := by omega
      clear hca
      go_enter Try.func53, Try.ntmps53
      go_wp2_with (first | (with_reducible show wpList _ _ _ _ _ _; refine wpList_load_blk rfl 27 (.tmp 2) rfl w.heap.size 0 rfl (mc M) _ (by first | exact hB1 | exact hB) 98 F2.out _ Try.underlying27 rfl size_mach ?_; rw [F1.out]) | (go_at_call 73; refine (IsMachine_calls M hok _).mono ?_; rintro e w1 ⟨rfl, hb1⟩; have hB1 := hB.keptAll hb1))
      go_ret
      exact ⟨ret_bool Hr.out.symm, by (repeat (first | exact Below.refl _ _ | refine below_drew' ?_ | refine below_drewN' ?_ _ | refine below_alloc' ?_ _ | refine below_set' ?_ (by (try simp); (try omega)) _ | refine below_step ?_ (by assumption)))⟩
end Go.Proofs.Ytliohokcjgcmhaa

namespace Go.Proofs.Ytliohokcjgcmhaa
open Go.RowKit

theorem l01In_v (n low high : Int) (r : Bool) (h : decide (low ≤ n ∧ n ≤ high) = r) (w : World) :
    Calls Try.prog 102 #[.int .i64 n, .int .i64 low, .int .i64 high] w fun e w' => e = .returned (.bool r) ∧ w' = w :=
  (l01In_calls n low high w).mono fun e w' h' => ⟨by rw [h'.1, h], h'.2.symm⟩

set_option maxRecDepth 100000 in
set_option maxHeartbeats 1000000 in
theorem l02Numbers_calls (M : Mach) (L S : Nat) (hg : Good M L S) (v : Value) (zs : List Int) (w : World) (hv : SeesI w v zs) :
    Calls Try.prog 158 #[.agg (mc M), v] w fun e w' => e = .returned (.bool (numsOk S zs)) ∧ Below w.heap.size w w' := by
  have hok := hg.ok
  have hS16 := hg.S16
  have hcS := mc_S M
  rw [hg.hS] at hcS
  have hB : Blk (w.alloc (.cells (mc M) 27)) w.heap.size (mc M) 27 := Blk.new w _ _
  have hbw0 : Below w.heap.size w (w.alloc (.cells (mc M) 27)) := by (repeat (first | exact Below.refl _ _ | refine below_drew' ?_ | refine below_drewN' ?_ _ | refine below_alloc' ?_ _ | refine below_set' ?_ (by (try simp); (try omega)) _ | refine below_step ?_ (by assumption)))
  obtain ⟨oa, ca, rfl, hca⟩ := hv.view
  have hln := hv.1
  unfold maxLen at hln
  have hwn := wrap_neg S hS16
  have Hca := Lib.hid hca; clear hca hv hg
  go_enter Try.func158, Try.ntmps158
  go_wp2
  go_loopw [5] (fun i wr => ∃ k : Nat, k ≤ zs.length ∧ i = .int .i64 k ∧ Blk wr w.heap.size (mc M) 27 ∧ Below w.heap.size w wr ∧ Hid (numsUp S zs k = true)) (fun i _ => zs.length - (intOf i).toNat)
  case atStart => exact ⟨0, by omega, rfl, hB, hbw0, Lib.hid (numsUp_zero _ _)⟩
  case round =>
    clear hB hbw0
    obtain ⟨k, hk, rfl, hB, hbw, HU⟩ := hrel
    have cA := hB.cell
    by_cases hlt : k < zs.length
    · obtain ⟨g, rfl, _, hcell⟩ := Hca.out (by omega)
      have c1 := cell_kept hbw (hcell k hlt)
      have hki : (k : Int) < zs.length := by omega
      clear hcell
      have Hn : Hid (numOk S zs[k] = true → numsUp S zs (k + 1) = true) := Lib.hid (numsUp_succ S zs k hlt HU.out)
      have Hb : Hid (numOk S zs[k] = false → numsOk S zs = false) := Lib.hid (numsOk_bad S zs k hlt)
      generalize zs[k] = z at *
      by_cases z0 : z = 0
      · subst z0
        have Hbad := Lib.hid (Hb.out (by simp [numOk]))
        go_wp2
        go_quiet (fail)
        go_wp2
        go_ret
        exact ⟨ret_bool (by rw [Hbad.out]), by (repeat (first | exact Below.refl _ _ | refine below_drew' ?_ | refine below_drewN' ?_ _ | refine below_alloc' ?_ _ | refine below_set' ?_ (by (try simp); (try omega)) _ | refine below_step ?_ (by assumption)))⟩
      · have z0' : (z == 0) = false := by simpa using z0
        by_cases hr : -(S : Int) ≤ z ∧ z ≤ (S : Int)
        · have Hnx := Lib.hid (Hn.out (by rw [numOk_iff]; exact ⟨z0, hr⟩))
          have z1 : decide (-(S : Int) ≤ z ∧ z ≤ (S : Int)) = true := by simpa using hr
          clear hr z0
          go_wp2
          go_quiet ((go_at_call 102; exact Calls.quiet_of_same (l01In_v _ _ _ _ z1 _)))
          go_wp2
          go_roundw
          case rel => exact ⟨k + 1, by omega, by go_num, hB.drewN _, by (repeat (first | exact Below.refl _ _ | refine below_drew' ?_ | refine below_drewN' ?_ _ | refine below_alloc' ?_ _ | refine below_set' ?_ (by (try simp); (try omega)) _ | refine below_step ?_ (by assumption))), Hnx⟩
          case measure => simp [intOf] <;> omega
        · have Hbad := Lib.hid (Hb.out (by rw [numOk_no]; intro h; exact hr h.2))
          have z1 : decide (-(S : Int) ≤ z ∧ z ≤ (S : Int)) = false := by simpa using hr
          clear hr z0
          go_wp2
          go_quiet ((go_at_call 102; exact Calls.quiet_of_same (l01In_v _ _ _ _ z1 _)))
          go_wp2
          go_ret
          exact ⟨ret_bool (by rw [Hbad.out]), by (repeat (first | exact Below.refl _ _ | refine below_drew' ?_ | refine below_drewN' ?_ _ | refine below_alloc' ?_ _ | refine below_set' ?_ (by (try simp); (try omega)) _ | refine below_step ?_ (by assumption)))⟩
    · obtain rfl : k = zs.length := by omega
      have Hall : Hid (numsOk S zs = true) := Lib.hid (by rw [← numsUp_all]; exact HU.out)
      go_wp2
      go_ret
      exact ⟨ret_bool (by rw [Hall.out]), hbw⟩
end Go.Proofs.Ytliohokcjgcmhaa

namespace Go.Proofs.Ytliohokcjgcmhaa
open Go.RowKit

set_option maxRecDepth 100000 in
set_option maxHeartbeats 1000000 in
theorem l02Is_calls (M : Mach) (L S : Nat) (hg : Good M L S) (v : Value) (zs : List Int) (w : World) (hv : SeesI w v zs) :
    Calls Try.prog 109 #[.agg (mc M), v] w fun e w' => e = .returned (.bool (grpOk S zs)) ∧ Below w.heap.size w w' := by
  have hok := hg.ok
  have F1 : Hid (cut (mc M) 0 98 = mc M) := Lib.hid (cut_all _ _ (mc_size hok)); have F2 : Hid (0 + 98 ≤ (mc M).size) := Lib.hid (by rw [mc_size hok]; omega)
  have hB : Blk (w.alloc (.cells (mc M) 27)) w.heap.size (mc M) 27 := Blk.new w _ _
  have hvB := hv.below (w1 := w.alloc (.cells (mc M) 27)) (by (repeat (first | exact Below.refl _ _ | refine below_drew' ?_ | refine below_drewN' ?_ _ | refine below_alloc' ?_ _ | refine below_set' ?_ (by (try simp); (try omega)) _ | refine below_step ?_ (by assumption))))
  obtain ⟨oa, ca, rfl, hca⟩ := hv.view
  clear hca
  by_cases h40 : zs.length ≤ 40
  · have hgt : ¬ (40 < (zs.length : Int)) := by omega
    have Hr := Lib.hid (grpOk_short (S := S) h40)
    go_enter Try.func109, Try.ntmps109
    go_wp2_with (first | (with_reducible show wpList _ _ _ _ _ _; refine wpList_load_blk rfl 27 (.tmp 2) rfl w.heap.size 0 rfl (mc M) _ (hB) 98 F2.out _ Try.underlying27 rfl size_mach ?_; rw [F1.out]) | (go_at_call 158; refine (l02Numbers_calls M L S hg _ zs _ hvB).mono ?_; rintro e w1 ⟨rfl, hb1⟩))
    go_ret
    exact ⟨ret_bool Hr.out.symm, by (repeat (first | exact Below.refl _ _ | refine below_drew' ?_ | refine below_drewN' ?_ _ | refine below_alloc' ?_ _ | refine below_set' ?_ (by (try simp); (try omega)) _ | refine below_step ?_ (by assumption)))⟩
  · have hgt : 40 < (zs.length : Int) := by omega
    have Hr := Lib.hid (grpOk_long (S := S) h40)
    go_enter Try.func109, Try.ntmps109
    go_wp2
    go_ret
    exact ⟨ret_bool Hr.out.symm, by (repeat (first | exact Below.refl _ _ | refine below_drew' ?_ | refine below_drewN' ?_ _ | refine below_alloc' ?_ _ | refine below_set' ?_ (by (try simp); (try omega)) _ | refine below_step ?_ (by assumption)))⟩

/-- A slice of slices, as a call with '...' lays it. -/
def SeesL (w : World) (v : Value) (ps : List (Value × List Int)) : Prop :=
  ∃ g cap, v = .slice (some ⟨g, 0, none⟩) ps.length cap ∧ Blk w g (ps.map (·.1)).toArray 26 ∧ ∀ i (hi : i < ps.length), SeesI w ps[i].1 ps[i].2
theorem SeesL.below {w w1 : World} {v : Value} {ps : List (Value × List Int)} (h : SeesL w v ps) (hb : Below w.heap.size w w1) : SeesL w1 v ps := by
  obtain ⟨g, cap, hv, hB, hs⟩ := h
  exact ⟨g, cap, hv, hB.keptAll hb, fun i hi => (hs i hi).below hb⟩
def grpsUp (S : Int) (ps : List (Value × List Int)) (k : Nat) : Bool := (ps.take k).all fun p => grpOk S p.2
def grpsOk (S : Int) (ps : List (Value × List Int)) : Bool := ps.all fun p => grpOk S p.2
theorem grpsUp_zero (S : Int) (ps : List (Value × List Int)) : grpsUp S ps 0 = true := by simp [grpsUp]
theorem grpsUp_succ (S : Int) (ps : List (Value × List Int)) (j : Nat) (hj : j < ps.length) (h : grpsUp S ps j = true) (h2 : grpOk S ps[j].2 = true) : grpsUp S ps (j + 1) = true := by
  unfold grpsUp at *
  rw [List.take_succ_eq_append_getElem hj, List.all_append, h]
  simp [h2]
theorem grpsUp_all (S : Int) (ps : List (Value × List Int)) : grpsUp S ps ps.length = grpsOk S ps := by simp [grpsUp, grpsOk]
theorem grpsOk_bad (S : Int) (ps : List (Value × List Int)) (j : Nat) (hj : j < ps.length) (h : grpOk S ps[j].2 = false) : grpsOk S ps = false := by
  unfold grpsOk; rw [List.all_eq_false]; exact ⟨ps[j], List.getElem_mem hj, by simp [h]⟩
def codeG (M : Mach) (ps : List (Value × List Int)) : Int := if isMach M && grpsOk M.S ps then 0 else 1

set_option maxRecDepth 100000 in
set_option maxHeartbeats 1000000 in
theorem l02Code_calls (M : Mach) (hok : M.Ok) (v : Value) (ps : List (Value × List Int)) (hp : ps.length ≤ 1048576) (w : World) (hv : SeesL w v ps) :
    Calls Try.prog 50 #[.agg (mc M), v] w fun e w' => e = .returned (.int .i64 (codeG M ps)) ∧ Below w.heap.size w w' := by
  have F1 : Hid (cut (mc M) 0 98 = mc M) := Lib.hid (cut_all _ _ (mc_size hok)); have F2 : Hid (0 + 98 ≤ (mc M).size) := Lib.hid (by rw [mc_size hok]; omega)
  have hB : Blk (w.alloc (.cells (mc M) 27)) w.heap.size (mc M) 27 := Blk.new w _ _
  have hvB := hv.below (w1 := w.alloc (.cells (mc M) 27)) (by (repeat (first | exact Below.refl _ _ | refine below_drew' ?_ | refine below_drewN' ?_ _ | refine below_alloc' ?_ _ | refine below_set' ?_ (by (try simp); (try omega)) _ | refine below_step ?_ (by assumption))))
  obtain ⟨g, ca, rfl, hG, hS⟩ := hv
  clear hG hS
  cases hm : isMach M
  · have Hr : Hid (codeG M ps = 1) := Lib.hid (by simp [codeG, hm])
    go_enter Try.func50, Try.ntmps50
    go_wp2_with (first | (with_reducible show wpList _ _ _ _ _ _; refine wpList_load_blk rfl 27 (.tmp 2) rfl w.heap.size 0 rfl (mc M) _ (hB) 98 F2.out _ Try.underlying27 rfl size_mach ?_; rw [F1.out]) | (go_at_call 71; refine (l01Is_calls M hok _).mono ?_; rintro e w1 ⟨rfl, hb1⟩; have hB1 := hB.keptAll hb1))
    go_ret
    exact ⟨ret_int Hr.out.symm, by (repeat (first | exact Below.refl _ _ | refine below_drew' ?_ | refine below_drewN' ?_ _ | refine below_alloc' ?_ _ | refine below_set' ?_ (by (try simp); (try omega)) _ | refine below_step ?_ (by assumption)))⟩
  · obtain ⟨L, S, hg⟩ := Good.of hok hm
    have Hr : Hid (codeG M ps = if grpsOk S ps then 0 else 1) := Lib.hid (by simp [codeG, hm, hg.hS])
    have hbw0 : Below w.heap.size w (w.alloc (.cells (mc M) 27)) := by (repeat (first | exact Below.refl _ _ | refine below_drew' ?_ | refine below_drewN' ?_ _ | refine below_alloc' ?_ _ | refine below_set' ?_ (by (try simp); (try omega)) _ | refine below_step ?_ (by assumption)))
    go_enter Try.func50, Try.ntmps50
    go_wp2_with (first | (with_reducible show wpList _ _ _ _ _ _; refine wpList_load_blk rfl 27 (.tmp 2) rfl w.heap.size 0 rfl (mc M) _ (hB) 98 F2.out _ Try.underlying27 rfl size_mach ?_; rw [F1.out]) | (go_at_call 71; refine (l01Is_calls M hok _).mono ?_; rintro e w1 ⟨rfl, hb1⟩; have hB1 := hB.keptAll hb1; have hv1 := hvB.below hb1; have hbw := below_step hbw0 hb1))
    clear hB hvB hbw0 hb1
    go_loopw [5] (fun i wr => ∃ k : Nat, k ≤ ps.length ∧ i = .int .i64 k ∧ Blk wr w.heap.size (mc M) 27 ∧ SeesL wr (.slice (some ⟨g, 0, none⟩) ps.length ca) ps ∧ Below w.heap.size w wr ∧ Hid (grpsUp S ps k = true)) (fun i _ => ps.length - (intOf i).toNat)
    case atStart => exact ⟨0, by omega, rfl, hB1, hv1, hbw, Lib.hid (grpsUp_zero _ _)⟩
    case round =>
      clear hB1 hv1 hbw
      obtain ⟨k, hk, rfl, hB, hv, hbw, HU⟩ := hrel
      by_cases hlt : k < ps.length
      · have hki : (k : Int) < ps.length := by omega
        have hpk : (ps.map (·.1)).toArray[k]? = some ps[k].1 := by simp [hlt]
        have Hn : Hid (grpOk S ps[k].2 = true → grpsUp S ps (k + 1) = true) := Lib.hid (grpsUp_succ S ps k hlt HU.out)
        have Hb : Hid (grpOk S ps[k].2 = false → grpsOk S ps = false) := Lib.hid (grpsOk_bad S ps k hlt)
        cases hgo : grpOk S ps[k].2
        · go_wp2
          refine wp_region_quiet (C := fun W => Blk W w.heap.size (mc M) 27 ∧ SeesL W (.slice (some ⟨g, 0, none⟩) ps.length ca) ps ∧ Below w.heap.size w W) (by kernel_rfl) (by kernel_rfl) ⟨hB.drew, hv.below (Below.refl _ _).drew, hbw.drew⟩ ?_
          refine wpK_load rfl 27 _ rfl w.heap.size 0 rfl (mc M) _ (fun W hW => hW.1) 98 F2.out _ Try.underlying27 rfl size_mach _ F1.out ?_; (intro K hK; go_simp; refine hK _ ?_; clear hK K)
          refine wpK_val rfl (.slice (some ⟨g, 0, none⟩) ps.length ca) (fun W _ => by go_simp) ?_; (intro K hK; go_simp; refine hK _ ?_; clear hK K)
          refine wpK_val rfl (.int .i64 (k : Int)) (fun W _ => by go_simp) ?_; (intro K hK; go_simp; refine hK _ ?_; clear hK K)
          refine wpK_val rfl (.pointer (some ⟨g, k, none⟩)) (fun W _ => by go_simp) ?_; (intro K hK; go_simp; refine hK _ ?_; clear hK K)
          refine wpK_val rfl ps[k].1 (fun W hW => by
            obtain ⟨g', c', hv', hG, _⟩ := hW.2.1
            simp only [Value.slice.injEq, Option.some.injEq, Addr.mk.injEq] at hv'
            have c0 := hG.cell k
            rw [← hv'.1.1, hpk] at c0
            clear hW hv' hG
            go_simp) ?_; (intro K hK; go_simp; refine hK _ ?_; clear hK K)
          refine wpK_call rfl 109 #[.agg (mc M), ps[k].1] (.bool false) (fun W => by go_simp) (fun W hW => by
            obtain ⟨g', c', hv', hG, hs⟩ := hW.2.1
            exact (l02Is_calls M L S hg ps[k].1 ps[k].2 W (hs k hlt)).mono fun e w'' h => ⟨by rw [h.1, hgo], hW.1.keptAll h.2, hW.2.1.below h.2, below_step hW.2.2 h.2⟩) ?_; (intro K hK; go_simp; refine hK _ ?_; clear hK K)
          refine wpK_val rfl (.bool true) (fun W _ => by go_simp) ?_; (intro K hK; go_simp; refine hK _ ?_; clear hK K)
          refine wpQuiet_nil ?_
          rintro w3 ⟨hB', hv', hbw'⟩
          clear hB hv hbw
          have Hbad := Lib.hid (Hb.out hgo)
          go_wp2
          go_ret
          exact ⟨ret_int (by rw [Hr.out, Hbad.out]; rfl), hbw'⟩
        · go_wp2
          refine wp_region_quiet (C := fun W => Blk W w.heap.size (mc M) 27 ∧ SeesL W (.slice (some ⟨g, 0, none⟩) ps.length ca) ps ∧ Below w.heap.size w W) (by kernel_rfl) (by kernel_rfl) ⟨hB.drew, hv.below (Below.refl _ _).drew, hbw.drew⟩ ?_
          refine wpK_load rfl 27 _ rfl w.heap.size 0 rfl (mc M) _ (fun W hW => hW.1) 98 F2.out _ Try.underlying27 rfl size_mach _ F1.out ?_; (intro K hK; go_simp; refine hK _ ?_; clear hK K)
          refine wpK_val rfl (.slice (some ⟨g, 0, none⟩) ps.length ca) (fun W _ => by go_simp) ?_; (intro K hK; go_simp; refine hK _ ?_; clear hK K)
          refine wpK_val rfl (.int .i64 (k : Int)) (fun W _ => by go_simp) ?_; (intro K hK; go_simp; refine hK _ ?_; clear hK K)
          refine wpK_val rfl (.pointer (some ⟨g, k, none⟩)) (fun W _ => by go_simp) ?_; (intro K hK; go_simp; refine hK _ ?_; clear hK K)
          refine wpK_val rfl ps[k].1 (fun W hW => by
            obtain ⟨g', c', hv', hG, _⟩ := hW.2.1
            simp only [Value.slice.injEq, Option.some.injEq, Addr.mk.injEq] at hv'
            have c0 := hG.cell k
            rw [← hv'.1.1, hpk] at c0
            clear hW hv' hG
            go_simp) ?_; (intro K hK; go_simp; refine hK _ ?_; clear hK K)
          refine wpK_call rfl 109 #[.agg (mc M), ps[k].1] (.bool true) (fun W => by go_simp) (fun W hW => by
            obtain ⟨g', c', hv', hG, hs⟩ := hW.2.1
            exact (l02Is_calls M L S hg ps[k].1 ps[k].2 W (hs k hlt)).mono fun e w'' h => ⟨by rw [h.1, hgo], hW.1.keptAll h.2, hW.2.1.below h.2, below_step hW.2.2 h.2⟩) ?_; (intro K hK; go_simp; refine hK _ ?_; clear hK K)
          refine wpK_val rfl (.bool false) (fun W _ => by go_simp) ?_; (intro K hK; go_simp; refine hK _ ?_; clear hK K)
          refine wpQuiet_nil ?_
          rintro w3 ⟨hB', hv', hbw'⟩
          clear hB hv hbw
          have Hnx := Lib.hid (Hn.out hgo)
          go_wp2
          go_roundw
          case rel => exact ⟨k + 1, by omega, by go_num, hB', hv', hbw', Hnx⟩
          case measure => simp [intOf] <;> omega
      · obtain rfl : k = ps.length := by omega
        have Hall : Hid (grpsOk S ps = true) := Lib.hid (by rw [← grpsUp_all]; exact HU.out)
        go_wp2
        go_ret
        exact ⟨ret_int (by rw [Hr.out, Hall.out]; rfl), hbw⟩
end Go.Proofs.Ytliohokcjgcmhaa

namespace Go.Proofs.Ytliohokcjgcmhaa
open Go.RowKit

theorem ret_vi {v : Value} {m m' : Int} (h : m = m') : Ending.returned (.tuple #[v, .int .i64 m]) = Ending.returned (.tuple #[v, .int .i64 m']) := by rw [h]
/-- Small numbers. -/
def smallI (zs : List Int) : Prop := ∀ z ∈ zs, -1000 ≤ z ∧ z ≤ 1000
theorem smallI_at {zs : List Int} (h : smallI zs) (i : Nat) (hi : i < zs.length) : IntKind.i64.wrap (-zs[i]) = -zs[i] := IntWalk.i64_in _ (by have := h _ (List.getElem_mem hi); omega)
theorem isGrp_parts {M : Mach} {zs : List Int} (h : isGrp M zs = true) : isMach M = true ∧ grpOk M.S zs = true := by simpa [isGrp] using h
theorem isGrp_small {M : Mach} {zs : List Int} (h : isGrp M zs = true) : smallI zs := by
  obtain ⟨h1, h2⟩ := isGrp_parts h
  have hS := (isMach_parts h1).2
  intro z hz
  obtain ⟨i, hi, rfl⟩ := List.getElem_of_mem hz
  have := (numOk_iff _ _).1 (grpOk_at h2 i hi)
  omega
theorem isGrp_len {M : Mach} {zs : List Int} (h : isGrp M zs = true) : zs.length ≤ 40 := grpOk_len (isGrp_parts h).2
theorem smallI_turn {zs : List Int} (h : smallI zs) : smallI (turnI zs) := by
  intro z hz
  simp only [turnI, List.mem_reverse, List.mem_map] at hz
  obtain ⟨y, hy, rfl⟩ := hz
  have := h y hy
  omega

/-- The last k of the inverse, zeros before. -/
def revPad (zs : List Int) (k : Nat) : List Int := List.replicate (zs.length - k) 0 ++ (turnI zs).drop (zs.length - k)
theorem revPad_zero (zs : List Int) : revPad zs 0 = List.replicate zs.length 0 := by
  unfold revPad
  rw [List.drop_of_length_le (by rw [turnI_len]; omega)]; simp
theorem revPad_all (zs : List Int) : revPad zs zs.length = turnI zs := by simp [revPad]
theorem revPad_len (zs : List Int) (k : Nat) (h : k ≤ zs.length) : (revPad zs k).length = zs.length := by rw [revPad, List.length_append, List.length_replicate, List.length_drop, turnI_len]; omega
theorem revPad_set (zs : List Int) (k j : Nat) (h : k < zs.length) (hj : zs.length - 1 - k = j) : (revPad zs k).set j (-zs[k]) = revPad zs (k + 1) := by
  subst hj
  have hg := turnI_get zs k h
  unfold revPad
  rw [show zs.length - k = (zs.length - 1 - k) + 1 from by omega, show zs.length - (k + 1) = zs.length - 1 - k from by omega]
  have hd : (turnI zs).drop (zs.length - 1 - k) = -zs[k] :: (turnI zs).drop (zs.length - 1 - k + 1) := by
    rw [List.drop_eq_getElem_cons (by rw [turnI_len]; omega), hg]
  rw [hd, List.replicate_succ', List.append_assoc, List.set_append_right _ _ (by simp)]
  simp

set_option maxRecDepth 100000 in
set_option maxHeartbeats 1000000 in
theorem turnWord_calls (v : Value) (zs : List Int) (w : World) (hv : SeesI w v zs) (hn : zs.length ≤ 1048576) (hz : smallI zs) :
    Calls Try.prog 154 #[v] w fun e w' => ∃ v', e = .returned v' ∧ OwnI w' w.heap.size v' (turnI zs) ∧ Below w.heap.size w w' := by
  obtain ⟨oa, cap, rfl, hc⟩ := hv.view
  have hmk := mk_ints zs.length hn
  have Hc := Lib.hid hc; clear hc hv
  have hB0 : Blk (w.alloc (.cells (ints (revPad zs 0)) 2)) w.heap.size (ints (revPad zs 0)) 2 := Blk.new w _ _
  rw [revPad_zero] at hB0
  have hbw0 : Below w.heap.size w (w.alloc (.cells (ints (List.replicate zs.length 0)) 2)) := by (repeat (first | exact Below.refl _ _ | refine below_drew' ?_ | refine below_drewN' ?_ _ | refine below_alloc' ?_ _ | refine below_set' ?_ (by (try simp); (try omega)) _ | refine below_step ?_ (by assumption)))
  go_enter Try.func154, Try.ntmps154
  go_wp2
  go_loopw [11] (fun i wr => ∃ k : Nat, k ≤ zs.length ∧ i = .int .i64 k ∧ Blk wr w.heap.size (ints (revPad zs k)) 2 ∧ Below w.heap.size w wr) (fun i _ => zs.length - (intOf i).toNat)
  case atStart => exact ⟨0, by omega, rfl, by rw [revPad_zero]; exact hB0, hbw0⟩
  case round =>
    clear hB0 hbw0 hmk
    obtain ⟨k, hk, rfl, hB, hbw⟩ := hrel
    by_cases hlt : k < zs.length
    · obtain ⟨g, rfl, _, hcell⟩ := Hc.out (by omega)
      have c1 := cell_kept hbw (hcell k hlt)
      have hwz := smallI_at hz k hlt
      have hki : (k : Int) < zs.length := by omega
      obtain ⟨j, hj⟩ : ∃ j : Nat, zs.length - 1 - k = j := ⟨_, rfl⟩
      have hji : (zs.length : Int) - 1 - (k : Int) = (j : Int) := by omega
      have hjn : j < zs.length := by omega
      have hjni : (j : Int) < zs.length := by omega
      have hl := revPad_len zs k hk
      have hs : (ints (revPad zs k))[j]? = some ((ints (revPad zs k))[j]'(by rw [ints_size, hl]; exact hjn)) := Array.getElem?_eq_getElem _
      generalize (ints (revPad zs k))[j]'(by rw [ints_size, hl]; exact hjn) = old at hs
      have Hset : Hid (ints (revPad zs (k + 1)) = (ints (revPad zs k)).setIfInBounds j (.int .i64 (-zs[k]))) := Lib.hid (by rw [← revPad_set zs k j hlt hj, ints_set])
      have cC := hB.cell
      have fC := hB.free
      have hB2 := hB.set j (.int .i64 (-zs[k]))
      have hbw2 := below_set' (o := j) hbw (b := w.heap.size) (Nat.le_refl _) (.int .i64 (-zs[k]))
      rw [← Hset.out] at hB2
      generalize zs[k] = z at *
      clear hl hcell hB hbw hj
      go_wp2
      go_roundw
      case rel => exact ⟨k + 1, by omega, by go_num, hB2, hbw2⟩
      case measure => simp [intOf] <;> omega
    · obtain rfl : k = zs.length := by omega
      go_wp2
      go_ret
      exact ⟨_, rfl, OwnI.made (by rw [turnI_len]) (by unfold maxLen; omega) (Nat.le_refl _) (by rw [revPad_all] at hB; exact hB), hbw⟩

/-- What is appended before number j. -/
def outsJ (zs : List Int) (j : Nat) : List Int := (turnI zs).take (zs.length - j)
theorem outsJ_all (zs : List Int) : outsJ zs 0 = turnI zs := by unfold outsJ; rw [List.take_of_length_le (by rw [turnI_len]; omega)]
theorem outsJ_none (zs : List Int) : outsJ zs zs.length = [] := by simp [outsJ]
theorem outsJ_len (zs : List Int) (j : Nat) : (outsJ zs j).length = zs.length - j := by simp [outsJ, turnI_len]
theorem outsJ_snoc (zs : List Int) (j : Nat) (h : j < zs.length) : outsJ zs j = outsJ zs (j + 1) ++ [-zs[j]] := by
  have hg := turnI_get zs j h
  unfold outsJ
  rw [show zs.length - j = (zs.length - 1 - j) + 1 from by omega, show zs.length - (j + 1) = zs.length - 1 - j from by omega]
  rw [List.take_succ_eq_append_getElem (by rw [turnI_len]; omega), hg]

def code1 (M : Mach) (zs : List Int) : Int := if isGrp M zs then 0 else 1
def invW (M : Mach) (zs : List Int) : List Int := if isGrp M zs then turnI zs else []
theorem invW_len (M : Mach) (zs : List Int) : (invW M zs).length ≤ 1048576 := by
  unfold invW
  split
  · rename_i h
    have := isGrp_len h
    rw [turnI_len]; omega
  · simp
theorem OwnI.base_le {w : World} {base base' : Nat} {v : Value} {zs : List Int} (h : OwnI w base v zs) (hb : base' ≤ base) : OwnI w base' v zs := by
  refine ⟨h.1, ?_⟩
  rcases h.2 with h2 | ⟨g, cap, cur, hv', hg', r⟩
  · exact Or.inl h2
  · exact Or.inr ⟨g, cap, cur, hv', by omega, r⟩

end Go.Proofs.Ytliohokcjgcmhaa
