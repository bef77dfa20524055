/- The model's sets of equal states: 'l01Same', 'l01Classes'. -/
import Derived.Test.YtliohokcjgcmhaaMinC
import Derived.Test.YtliohokcjgcmhaaArgs
namespace Go.Proofs.Ytliohokcjgcmhaa
open Go.RowKit

theorem ints_at (c : List Int) (i : Nat) (hi : i < c.length) : (ints c)[i]? = some (.int .i64 (c.getD i 0)) := by
  simp [ints, List.getD, List.getElem?_eq_getElem hi]
theorem ints_one (c : List Int) : (ints c).all (·.oneCell') = true := by
  rw [Array.all_eq_true_iff_forall_mem]
  intro v hv
  simp only [ints, List.mem_toArray, List.mem_map] at hv
  obtain ⟨n, _, rfl⟩ := hv
  rfl
def sameUp (M : Mach) (cl : List Int) (q r k : Nat) : Bool := (List.range k).all fun x => decide (M.o q x = M.o r x) && decide (cl.getD (nn M q x) 0 = cl.getD (nn M r x) 0)
theorem sameUp_succ (M : Mach) (cl : List Int) (q r k : Nat) : sameUp M cl q r (k + 1) = (sameUp M cl q r k && (decide (M.o q k = M.o r k) && decide (cl.getD (nn M q k) 0 = cl.getD (nn M r k) 0))) := by
  simp [sameUp, List.range_succ]
theorem sameUp_no (M : Mach) (cl : List Int) (q r k L : Nat) (hk : k < L) (h : (decide (M.o q k = M.o r k) && decide (cl.getD (nn M q k) 0 = cl.getD (nn M r k) 0)) = false) : sameUp M cl q r L = false := by
  unfold sameUp; rw [List.all_eq_false]; exact ⟨k, by simpa using hk, by rw [h]; simp⟩

set_option maxRecDepth 100000 in
set_option maxHeartbeats 1000000 in
theorem l01Same_calls (M : Mach) (L S : Nat) (hg : Good M L S) (cl : List Int) (hcl : cl.length = 16) (q r : Nat) (hq : q < S) (hr : r < S) (w : World) :
    Calls Try.prog 162 #[.agg (mc M), .agg (ints cl), .int .i64 q, .int .i64 r] w fun e w' => e = .returned (.bool (sameUp M cl q r L)) ∧ Below w.heap.size w w' := by
  have hok := hg.ok
  have hL3 := hg.L3
  have hS16 := hg.S16
  have hcL := mc_L M
  rw [hg.hL] at hcL
  have Hg := Lib.hid hg; clear hg
  have hB1 : Blk ((w.alloc (.cells (mc M) 27)).alloc (.cells (ints cl) 92)) w.heap.size (mc M) 27 := (Blk.new w _ _).alloc _
  have hC1 : Blk ((w.alloc (.cells (mc M) 27)).alloc (.cells (ints cl) 92)) (w.heap.size + 1) (ints cl) 92 := Blk.new_at _ _ _ _ (by simp)
  have hbw0 : Below w.heap.size w ((w.alloc (.cells (mc M) 27)).alloc (.cells (ints cl) 92)) := by (repeat (first | exact Below.refl _ _ | refine below_drew' ?_ | refine below_drewN' ?_ _ | refine below_alloc' ?_ _ | refine below_set' ?_ (by (try simp); (try omega)) _ | refine below_step ?_ (by assumption)))
  have hqi : (q : Int) < 16 := by omega
  have hri : (r : Int) < 16 := by omega
  go_enter Try.func162, Try.ntmps162
  go_wp2
  go_loopw [9] (fun i wr => ∃ k : Nat, k ≤ L ∧ i = .int .i64 k ∧ Blk wr w.heap.size (mc M) 27 ∧ Blk wr (w.heap.size + 1) (ints cl) 92 ∧ Below w.heap.size w wr ∧ Hid (sameUp M cl q r k = true)) (fun i _ => L - (intOf i).toNat)
  case atStart => exact ⟨0, by omega, rfl, hB1, hC1, hbw0, Lib.hid rfl⟩
  case round =>
    clear hB1 hC1 hbw0
    obtain ⟨k, hk, rfl, hB, hC, hbw, HU⟩ := hrel
    have cA := hB.cell
    by_cases hlt : k < L
    · have hki : (k : Int) < 3 := by omega
      have hk3 : k < 3 := by omega
      have o1 := mc_o hok q k (by omega) hk3
      have o2 := mc_o hok r k (by omega) hk3
      have n1 := mc_n hok q k (by omega) hk3
      have n2 := mc_n hok r k (by omega) hk3
      rw [Hg.out.nn_eq q k hq hlt] at n1
      rw [Hg.out.nn_eq r k hr hlt] at n2
      have l1 := Hg.out.nn_lt q k hq hlt
      have l2 := Hg.out.nn_lt r k hr hlt
      have e1 := ints_at cl (nn M q k) (by omega)
      have e2 := ints_at cl (nn M r k) (by omega)
      have Hs := Lib.hid (sameUp_succ M cl q r k)
      have Hno : Hid ((decide (M.o q k = M.o r k) && decide (cl.getD (nn M q k) 0 = cl.getD (nn M r k) 0)) = false → sameUp M cl q r L = false) := Lib.hid (sameUp_no M cl q r k L hlt)
      have b1 : (nn M q k : Int) < 16 := by omega
      have b2 : (nn M r k : Int) < 16 := by omega
      generalize cl.getD (nn M q k) 0 = c1 at *
      generalize cl.getD (nn M r k) 0 = c2 at *
      generalize nn M q k = p1 at *
      generalize nn M r k = p2 at *
      generalize M.o q k = v1 at *
      generalize M.o r k = v2 at *
      have hB0 := hB.drew; have hC0 := hC.drew; have hbw0 := below_drew' hbw
      have cC := hC.cell
      by_cases hv : v1 = v2
      · have hv' : (v1 != v2) = false := by simpa using hv
        by_cases hc : c1 = c2
        · have hc' : (c1 != c2) = false := by simpa using hc
          have Hn : Hid (sameUp M cl q r (k + 1) = true) := Lib.hid (by rw [Hs.out, HU.out]; simp [hv, hc])
          clear hv hc Hno Hs
          go_wp2
          go_quiet (fail)
          go_wp2
          go_roundw
          case rel => exact ⟨k + 1, by omega, by go_num, hB.drewN _, hC.drewN _, by (repeat (first | exact Below.refl _ _ | refine below_drew' ?_ | refine below_drewN' ?_ _ | refine below_alloc' ?_ _ | refine below_set' ?_ (by (try simp); (try omega)) _ | refine below_step ?_ (by assumption))), Hn⟩
          case measure => simp [intOf] <;> omega
        · have hc' : (c1 != c2) = true := by simpa using hc
          have Hn := Lib.hid (Hno.out (by simp [hc]))
          clear hv hc Hno Hs
          go_wp2
          go_quiet (fail)
          go_wp2
          go_ret
          exact ⟨ret_bool Hn.out.symm, by (repeat (first | exact Below.refl _ _ | refine below_drew' ?_ | refine below_drewN' ?_ _ | refine below_alloc' ?_ _ | refine below_set' ?_ (by (try simp); (try omega)) _ | refine below_step ?_ (by assumption)))⟩
      · have hv' : (v1 != v2) = true := by simpa using hv
        have Hn := Lib.hid (Hno.out (by simp [hv]))
        clear hv Hno Hs
        go_wp2
        go_quiet (fail)
        go_wp2
        go_ret
        exact ⟨ret_bool Hn.out.symm, by (repeat (first | exact Below.refl _ _ | refine below_drew' ?_ | refine below_drewN' ?_ _ | refine below_alloc' ?_ _ | refine below_set' ?_ (by (try simp); (try omega)) _ | refine below_step ?_ (by assumption)))⟩
    · obtain rfl : k = L := by omega
      go_wp2
      go_ret
      exact ⟨ret_bool HU.out.symm, hbw⟩

/-- The least equal states at the time t, as the model has them. -/
def clsS (M : Mach) (L S t : Nat) : List Int := (List.range 16).map fun q => if q < S then (lst M L t q : Int) else 0
theorem clsS_len (M : Mach) (L S t : Nat) : (clsS M L S t).length = 16 := by simp [clsS]
theorem clsS_at (M : Mach) (L S t q : Nat) (hq : q < S) (hS : S ≤ 16) : (clsS M L S t).getD q 0 = (lst M L t q : Int) := by
  unfold clsS
  rw [List.getD, List.getElem?_map, List.getElem?_range (by omega)]
  simp [hq]
theorem clsS_zero (M : Mach) (L S : Nat) : clsS M L S 0 = List.replicate 16 0 := by
  have h : (fun q => if q < S then (lst M L 0 q : Int) else 0) = fun _ => 0 := by
    funext q
    rw [lst_zero]
    split <;> rfl
  unfold clsS
  rw [h]
  rfl
theorem sameUp_iff {M : Mach} {L S t : Nat} (hg : Good M L S) (q r : Nat) (hq : q < S) (hr : r < S) : sameUp M (clsS M L S t) q r L = eqB M L (t + 1) q r := by
  rw [Bool.eq_iff_iff, eqB_succ]
  unfold sameUp
  simp only [List.all_eq_true, List.mem_range, Bool.and_eq_true, decide_eq_true_eq]
  constructor
  · intro h x hx
    have := h x hx
    rw [clsS_at M L S t _ (hg.nn_lt q x hq hx) hg.S16, clsS_at M L S t _ (hg.nn_lt r x hr hx) hg.S16] at this
    exact ⟨this.1, (lst_iff M L t _ _).1 (by omega)⟩
  · intro h x hx
    rw [clsS_at M L S t _ (hg.nn_lt q x hq hx) hg.S16, clsS_at M L S t _ (hg.nn_lt r x hr hx) hg.S16]
    exact ⟨(h x hx).1, by rw [(lst_iff M L t _ _).2 (h x hx).2]⟩
/-- The least equal states of the first q states, at the next time. -/
def nxtS (M : Mach) (L t q : Nat) : List Int := (List.range 16).map fun p => if p < q then (lst M L (t + 1) p : Int) else 0
theorem nxtS_len (M : Mach) (L t q : Nat) : (nxtS M L t q).length = 16 := by simp [nxtS]
theorem nxtS_zero (M : Mach) (L t : Nat) : nxtS M L t 0 = List.replicate 16 0 := rfl
theorem nxtS_all (M : Mach) (L S t : Nat) : nxtS M L t S = clsS M L S (t + 1) := rfl
theorem nxtS_set (M : Mach) (L t k : Nat) (v : Int) (hv : v = (lst M L (t + 1) k : Int)) : (nxtS M L t k).set k v = nxtS M L t (k + 1) := by
  subst hv
  apply List.ext_getElem
  · simp [nxtS]
  · intro i h1 h2
    simp only [nxtS, List.getElem_set, List.getElem_map, List.getElem_range]
    by_cases h : k = i
    · subst h; simp
    · rw [if_neg h]
      by_cases h3 : i < k
      · rw [if_pos h3, if_pos (by omega)]
      · rw [if_neg h3, if_neg (by omega)]
theorem nxtS_at (M : Mach) (L t q r : Nat) (hr : r < q) (hq : q < 16) (v : Int) : ((nxtS M L t q).set q v).getD r 0 = (lst M L (t + 1) r : Int) := by
  rw [List.getD, List.getElem?_set, if_neg (by omega)]
  unfold nxtS
  rw [List.getElem?_map, List.getElem?_range (by omega)]
  simp [hr]
theorem lst_found {M : Mach} {L t q r : Nat} (_hr : r < q) (h : eqB M L t q r = true) (hno : ∀ p, p < r → eqB M L t q p = false) : lst M L t r = lst M L t q ∧ lst M L t q = r := by
  have e := (lst_iff M L t q r).2 h
  refine ⟨e.symm, ?_⟩
  obtain ⟨h1, h2, h3⟩ := lst_at M L t q
  rcases Nat.lt_trichotomy (lst M L t q) r with h4 | h4 | h4
  · rw [hno _ h4] at h2; cases h2
  · exact h4
  · rw [h3 r h4] at h; cases h
theorem lst_alone {M : Mach} {L t q : Nat} (hno : ∀ p, p < q → eqB M L t q p = false) : lst M L t q = q := by
  have := (rep_iff M L t q).2 hno
  simpa [repB] using this
end Go.Proofs.Ytliohokcjgcmhaa

namespace Go.Proofs.Ytliohokcjgcmhaa
open Go.RowKit

theorem info_i16 : (Try.prog.info? 92).map (fun i => (i.zero, i.size)) = some (some (.agg (ints zer)), 16) := by kernel_rfl
theorem zero_i16 : ∀ w, (zeroValue 92).run Try.prog w = .ok (.agg (ints zer)) w := (zero_of_info info_i16).1
theorem size_i16 : (Try.prog.info? 92).map (·.size) = some 16 := (zero_of_info info_i16).2

set_option maxRecDepth 100000 in
set_option maxHeartbeats 2000000 in
theorem l01Classes_calls (M : Mach) (L S : Nat) (hg : Good M L S) (w : World) :
    Calls Try.prog 118 #[.agg (mc M)] w fun e w' => e = .returned (.agg (ints (clsS M L S (S + 1)))) ∧ Below w.heap.size w w' := by
  have hok := hg.ok
  have hS16 := hg.S16
  have hS1 := hg.S1
  have hcS := mc_S M
  rw [hg.hS] at hcS
  have hz := zero_i16
  let W0 := ((w.alloc (.cells (mc M) 27)).alloc (.cells (ints zer) 92)).alloc (.cells (ints zer) 92)
  have hB1 : Blk W0 w.heap.size (mc M) 27 := ((Blk.new w _ _).alloc _).alloc _
  have hR1 : Blk W0 (w.heap.size + 1) (ints zer) 92 := (Blk.new_at _ _ _ _ (by simp)).alloc _
  have hC1 : Blk W0 (w.heap.size + 1 + 1) (ints zer) 92 := Blk.new_at _ _ _ _ (by simp)
  have hbel0 : Below w.heap.size w W0 := by show Below _ _ (World.alloc _ _); (repeat (first | exact Below.refl _ _ | refine below_drew' ?_ | refine below_drewN' ?_ _ | refine below_alloc' ?_ _ | refine below_set' ?_ (by (try simp); (try omega)) _ | refine below_step ?_ (by assumption)))
  have Hz16 : Hid ((ints zer).size = 16) := Lib.hid (by rw [ints_size]; rfl)
  have Hzo : Hid (over (ints zer) 0 (ints zer) = ints zer) := Lib.hid (over_all _ _ rfl)
  have F1 : Hid (cut (mc M) 0 98 = mc M) := Lib.hid (cut_all _ _ (mc_size hok)); have F2 : Hid (0 + 98 ≤ (mc M).size) := Lib.hid (by rw [mc_size hok]; omega)
  go_enter Try.func118, Try.ntmps118
  go_wp2_with (with_reducible show wpList _ _ _ _ _ _; refine wpList_store_row rfl 92 (.tmp 3) (.tmp 8) rfl (w.heap.size + 1 + 1) 0 (ints zer) rfl rfl _ _ hC1 (by rw [Hz16.out]; omega) (by rw [Hz16.out]; exact size_i16) (ints_one _) _ Hzo.out ?_; intro w1 hs1)
  have hB2 := hs1.keep (by omega) hB1
  have hR2 := hs1.keep (by omega) hR1
  have hC2 := hs1.blk
  have hbw2 := hs1.below _ _ (by omega) hbel0
  clear hB1 hR1 hC1 hbel0 hs1
  go_loopw [4] (fun i wr => ∃ t : Nat, t ≤ S + 1 ∧ i = .int .i64 t ∧ Blk wr w.heap.size (mc M) 27 ∧ Blk wr (w.heap.size + 1) (ints zer) 92 ∧ Blk wr (w.heap.size + 1 + 1) (ints (clsS M L S t)) 92 ∧ Below w.heap.size w wr) (fun i _ => S + 1 - (intOf i).toNat)
  case atStart => exact ⟨0, by omega, rfl, hB2, hR2, by rw [clsS_zero]; exact hC2, hbw2⟩
  case round =>
    clear hB2 hR2 hC2 hbw2
    obtain ⟨t, ht, rfl, hB, hR, hC, hbw⟩ := hrel
    have cA := hB.cell
    have Hcs : Hid ((ints (clsS M L S t)).size = 16) := Lib.hid (by rw [ints_size, clsS_len])
    by_cases htl : t ≤ S
    · have hlt0 := hB.lt
      have hltC := hC.lt
      have hA1 : Blk (wr.alloc (.cells (ints zer) 92)) wr.heap.size (ints zer) 92 := Blk.new _ _ _
      have hBa := hB.alloc (.cells (ints zer) 92)
      have hRa := hR.alloc (.cells (ints zer) 92)
      have hCa := hC.alloc (.cells (ints zer) 92)
      have hbwa := below_alloc' hbw (.cells (ints zer) 92)
      have hge := hbw.size
      go_wp2_with (with_reducible show wpList _ _ _ _ _ _; refine wpList_store_row rfl 92 (.tmp 5) (.tmp 15) rfl wr.heap.size 0 (ints zer) rfl rfl _ _ hA1 (by rw [Hz16.out]; omega) (by rw [Hz16.out]; exact size_i16) (ints_one _) _ Hzo.out ?_; intro w1 hs1)
      have hB1 := hs1.keep (by omega) hBa
      have hR1 := hs1.keep (by omega) hRa
      have hC1 := hs1.keep (by omega) hCa
      have hN1 := hs1.blk
      have hbw1 := hs1.below _ _ (by omega) hbwa
      clear hA1 hBa hRa hCa hbwa hs1 hB hR hC hbw cA
      generalize wr.heap.size = g5 at *
      go_loopw [6] (fun i wr => ∃ q : Nat, q ≤ S ∧ i = .int .i64 q ∧ Blk wr w.heap.size (mc M) 27 ∧ Blk wr (w.heap.size + 1) (ints zer) 92 ∧ Blk wr (w.heap.size + 1 + 1) (ints (clsS M L S t)) 92 ∧ Blk wr g5 (ints (nxtS M L t q)) 92 ∧ Below w.heap.size w wr) (fun i _ => S - (intOf i).toNat)
      case atStart => exact ⟨0, by omega, rfl, hB1, hR1, hC1, by rw [nxtS_zero]; exact hN1, hbw1⟩
      case round =>
        clear hB1 hR1 hC1 hN1 hbw1
        obtain ⟨q, hq, rfl, hB, hR, hC, hN, hbw⟩ := hrel
        have cA := hB.cell
        by_cases hql : q < S
        · have hq16 : q < 16 := by omega
          have hqi : (q : Int) < 16 := by omega
          have Hnl : Hid ((nxtS M L t q).length = 16) := Lib.hid (nxtS_len M L t q)
          have hold : (ints (nxtS M L t q))[q]? = some (.int .i64 ((nxtS M L t q).getD q 0)) := ints_at _ _ (by rw [Hnl.out]; omega)
          generalize (nxtS M L t q).getD q 0 = oldn at hold
          have cC := hN.cell
          have fC := hN.free
          have hN2 := hN.set q (.int .i64 q)
          rw [← ints_set] at hN2
          have hB2 := hB.setOther g5 q (.int .i64 q) (by omega)
          have hR2 := hR.setOther g5 q (.int .i64 q) (by omega)
          have hC2 := hC.setOther g5 q (.int .i64 q) (by omega)
          have hbw2 := below_set' (o := q) hbw (b := g5) hge (.int .i64 q)
          go_wp2
          clear cC fC hold hN hB hR hC hbw cA
          go_loopw [7] (fun i wr => ∃ r : Nat, r ≤ q ∧ i = .int .i64 r ∧ Blk wr w.heap.size (mc M) 27 ∧ Blk wr (w.heap.size + 1) (ints zer) 92 ∧ Blk wr (w.heap.size + 1 + 1) (ints (clsS M L S t)) 92 ∧ Blk wr g5 (ints ((nxtS M L t q).set q q)) 92 ∧ Below w.heap.size w wr ∧ Hid (∀ p, p < r → eqB M L (t + 1) q p = false)) (fun i _ => q - (intOf i).toNat)
          case atStart => exact ⟨0, by omega, rfl, hB2, hR2, hC2, hN2, hbw2, Lib.hid (fun p hp => absurd hp (by omega))⟩
          case round =>
            clear hB2 hR2 hC2 hN2 hbw2
            obtain ⟨r, hr, rfl, hB, hR, hC, hN, hbw, HE⟩ := hrel
            by_cases hrl : r < q
            · have hri : (r : Int) < 16 := by omega
              have hrq : (r : Int) < q := by omega
              have e1 := ints_at (clsS M L S t) q (by rw [clsS_len]; omega)
              have e2 := ints_at (clsS M L S t) r (by rw [clsS_len]; omega)
              rw [clsS_at M L S t q hql hS16] at e1
              rw [clsS_at M L S t r (by omega) hS16] at e2
              have HI := Lib.hid (lst_iff M L t q r)
              have HF := Lib.hid (l01Same_calls M L S hg (clsS M L S t) (clsS_len M L S t) q r hql (by omega))
              have HS := Lib.hid (sameUp_iff (t := t) hg q r hql (by omega))
              have Hls := Lib.hid (eqB_less M L t q r)
              have Hcut : Hid (cut (ints (clsS M L S t)) 0 16 = ints (clsS M L S t)) := Lib.hid (cut_all _ _ Hcs.out)
              generalize lst M L t q = c1 at *
              generalize lst M L t r = c2 at *
              go_wp2_with fail
              cases he : eqB M L (t + 1) q r
              · by_cases hc : c1 = c2
                · have hc' : ((c1 : Int) == (c2 : Int)) = true := by simp; omega
                  clear hc
                  refine wp_region_quiet (C := fun W => (Blk W w.heap.size (mc M) 27 ∧ Blk W (w.heap.size + 1 + 1) (ints (clsS M L S t)) 92) ∧ (Blk W (w.heap.size + 1) (ints zer) 92 ∧ Blk W g5 (ints ((nxtS M L t q).set q q)) 92) ∧ Below w.heap.size w W) (by kernel_rfl) (by kernel_rfl) ⟨⟨hB.drew, hC.drew⟩, ⟨hR.drew, hN.drew⟩, hbw.drew⟩ ?_
                  refine wpK_val rfl (.int .i64 (q : Int)) (fun W _ => by go_simp) ?_; (intro K hK; go_simp; refine hK _ ?_; clear hK K)
                  refine wpK_val rfl (.pointer (some ⟨w.heap.size + 1 + 1, q, none⟩)) (fun W _ => by go_simp) ?_; (intro K hK; go_simp; refine hK _ ?_; clear hK K)
                  refine wpK_val rfl (.int .i64 (c1 : Int)) (fun W hW => by have cC := hW.1.2.cell; clear hW; go_simp) ?_; (intro K hK; go_simp; refine hK _ ?_; clear hK K)
                  refine wpK_val rfl (.int .i64 (r : Int)) (fun W _ => by go_simp) ?_; (intro K hK; go_simp; refine hK _ ?_; clear hK K)
                  refine wpK_val rfl (.pointer (some ⟨w.heap.size + 1 + 1, r, none⟩)) (fun W _ => by go_simp) ?_; (intro K hK; go_simp; refine hK _ ?_; clear hK K)
                  refine wpK_val rfl (.int .i64 (c2 : Int)) (fun W hW => by have cC := hW.1.2.cell; clear hW; go_simp) ?_; (intro K hK; go_simp; refine hK _ ?_; clear hK K)
                  refine wpK_val rfl (.bool true) (fun W _ => by go_simp) ?_; (intro K hK; go_simp; refine hK _ ?_; clear hK K)
                  refine wpK_val rfl (.bool true) (fun W _ => by go_simp) ?_; (intro K hK; go_simp; refine hK _ ?_; clear hK K)
                  refine wpK_load_on (by rfl) 27 _ rfl w.heap.size 0 rfl (mc M) _ (fun W hW => hW.1.1) 98 F2.out _ Try.underlying27 rfl size_mach _ F1.out ?_; (intro K hK; go_simp; refine hK _ ?_; clear hK K)
                  refine wpK_load_on (by rfl) 92 _ rfl (w.heap.size + 1 + 1) 0 rfl (ints (clsS M L S t)) _ (fun W hW => hW.1.2) 16 (by rw [Hcs.out]; omega) _ Try.underlying92 rfl size_i16 _ Hcut.out ?_; (intro K hK; go_simp; refine hK _ ?_; clear hK K)
                  refine wpK_on (by rfl) (.int .i64 (q : Int)) (fun W _ => by go_simp) ?_; (intro K hK; go_simp; refine hK _ ?_; clear hK K)
                  refine wpK_on (by rfl) (.int .i64 (r : Int)) (fun W _ => by go_simp) ?_; (intro K hK; go_simp; refine hK _ ?_; clear hK K)
                  refine wpK_call_on (by rfl) 162 #[.agg (mc M), .agg (ints (clsS M L S t)), .int .i64 (q : Int), .int .i64 (r : Int)] (.bool false) (fun W => by go_simp) (fun W hW => (HF.out W).mono fun e w'' h => ⟨by rw [h.1, HS.out, he], ⟨hW.1.1.keptAll h.2, hW.1.2.keptAll h.2⟩, ⟨hW.2.1.1.keptAll h.2, hW.2.1.2.keptAll h.2⟩, below_step hW.2.2 h.2⟩) ?_; (intro K hK; go_simp; refine hK _ ?_; clear hK K)
                  refine wpK_val rfl (.bool false) (fun W _ => by go_simp) ?_; (intro K hK; go_simp; refine hK _ ?_; clear hK K)
                  refine wpQuiet_nil ?_
                  rintro w6 ⟨⟨hB6, hC6⟩, ⟨hR6, hN6⟩, hbw6⟩
                  clear hB hC hR hN hbw
                  go_wp2
                  go_roundw
                  case rel => exact ⟨r + 1, by omega, by go_num, hB6, hR6, hC6, hN6, hbw6, Lib.hid (fun p hp => by
                    rcases Nat.lt_or_ge p r with h | h
                    · exact HE.out p h
                    · obtain rfl : p = r := by omega
                      exact he)⟩
                  case measure => simp [intOf] <;> omega
                · have hc' : ((c1 : Int) == (c2 : Int)) = false := by simp; omega
                  clear hc
                  refine wp_region_quiet (C := fun W => (Blk W w.heap.size (mc M) 27 ∧ Blk W (w.heap.size + 1 + 1) (ints (clsS M L S t)) 92) ∧ (Blk W (w.heap.size + 1) (ints zer) 92 ∧ Blk W g5 (ints ((nxtS M L t q).set q q)) 92) ∧ Below w.heap.size w W) (by kernel_rfl) (by kernel_rfl) ⟨⟨hB.drew, hC.drew⟩, ⟨hR.drew, hN.drew⟩, hbw.drew⟩ ?_
                  refine wpK_val rfl (.int .i64 (q : Int)) (fun W _ => by go_simp) ?_; (intro K hK; go_simp; refine hK _ ?_; clear hK K)
                  refine wpK_val rfl (.pointer (some ⟨w.heap.size + 1 + 1, q, none⟩)) (fun W _ => by go_simp) ?_; (intro K hK; go_simp; refine hK _ ?_; clear hK K)
                  refine wpK_val rfl (.int .i64 (c1 : Int)) (fun W hW => by have cC := hW.1.2.cell; clear hW; go_simp) ?_; (intro K hK; go_simp; refine hK _ ?_; clear hK K)
                  refine wpK_val rfl (.int .i64 (r : Int)) (fun W _ => by go_simp) ?_; (intro K hK; go_simp; refine hK _ ?_; clear hK K)
                  refine wpK_val rfl (.pointer (some ⟨w.heap.size + 1 + 1, r, none⟩)) (fun W _ => by go_simp) ?_; (intro K hK; go_simp; refine hK _ ?_; clear hK K)
                  refine wpK_val rfl (.int .i64 (c2 : Int)) (fun W hW => by have cC := hW.1.2.cell; clear hW; go_simp) ?_; (intro K hK; go_simp; refine hK _ ?_; clear hK K)
                  refine wpK_val rfl (.bool false) (fun W _ => by go_simp) ?_; (intro K hK; go_simp; refine hK _ ?_; clear hK K)
                  refine wpK_val rfl (.bool false) (fun W _ => by go_simp) ?_; (intro K hK; go_simp; refine hK _ ?_; clear hK K)
                  refine wpK_off (by rfl) ?_; (intro K hK; go_simp; refine hK _ ?_; clear hK K)
                  refine wpK_off (by rfl) ?_; (intro K hK; go_simp; refine hK _ ?_; clear hK K)
                  refine wpK_off (by rfl) ?_; (intro K hK; go_simp; refine hK _ ?_; clear hK K)
                  refine wpK_off (by rfl) ?_; (intro K hK; go_simp; refine hK _ ?_; clear hK K)
                  refine wpK_off (by rfl) ?_; (intro K hK; go_simp; refine hK _ ?_; clear hK K)
                  refine wpK_val rfl (.bool false) (fun W _ => by go_simp) ?_; (intro K hK; go_simp; refine hK _ ?_; clear hK K)
                  refine wpQuiet_nil ?_
                  rintro w6 ⟨⟨hB6, hC6⟩, ⟨hR6, hN6⟩, hbw6⟩
                  clear hB hC hR hN hbw
                  go_wp2
                  go_roundw
                  case rel => exact ⟨r + 1, by omega, by go_num, hB6, hR6, hC6, hN6, hbw6, Lib.hid (fun p hp => by
                    rcases Nat.lt_or_ge p r with h | h
                    · exact HE.out p h
                    · obtain rfl : p = r := by omega
                      exact he)⟩
                  case measure => simp [intOf] <;> omega
              · have hc : c1 = c2 := HI.out.2 (Hls.out he)
                have hc' : ((c1 : Int) == (c2 : Int)) = true := by simp; omega
                clear hc
                refine wp_region_quiet (C := fun W => (Blk W w.heap.size (mc M) 27 ∧ Blk W (w.heap.size + 1 + 1) (ints (clsS M L S t)) 92) ∧ (Blk W (w.heap.size + 1) (ints zer) 92 ∧ Blk W g5 (ints ((nxtS M L t q).set q q)) 92) ∧ Below w.heap.size w W) (by kernel_rfl) (by kernel_rfl) ⟨⟨hB.drew, hC.drew⟩, ⟨hR.drew, hN.drew⟩, hbw.drew⟩ ?_
                refine wpK_val rfl (.int .i64 (q : Int)) (fun W _ => by go_simp) ?_; (intro K hK; go_simp; refine hK _ ?_; clear hK K)
                refine wpK_val rfl (.pointer (some ⟨w.heap.size + 1 + 1, q, none⟩)) (fun W _ => by go_simp) ?_; (intro K hK; go_simp; refine hK _ ?_; clear hK K)
                refine wpK_val rfl (.int .i64 (c1 : Int)) (fun W hW => by have cC := hW.1.2.cell; clear hW; go_simp) ?_; (intro K hK; go_simp; refine hK _ ?_; clear hK K)
                refine wpK_val rfl (.int .i64 (r : Int)) (fun W _ => by go_simp) ?_; (intro K hK; go_simp; refine hK _ ?_; clear hK K)
                refine wpK_val rfl (.pointer (some ⟨w.heap.size + 1 + 1, r, none⟩)) (fun W _ => by go_simp) ?_; (intro K hK; go_simp; refine hK _ ?_; clear hK K)
                refine wpK_val rfl (.int .i64 (c2 : Int)) (fun W hW => by have cC := hW.1.2.cell; clear hW; go_simp) ?_; (intro K hK; go_simp; refine hK _ ?_; clear hK K)
                refine wpK_val rfl (.bool true) (fun W _ => by go_simp) ?_; (intro K hK; go_simp; refine hK _ ?_; clear hK K)
                refine wpK_val rfl (.bool true) (fun W _ => by go_simp) ?_; (intro K hK; go_simp; refine hK _ ?_; clear hK K)
                refine wpK_load_on (by rfl) 27 _ rfl w.heap.size 0 rfl (mc M) _ (fun W hW => hW.1.1) 98 F2.out _ Try.underlying27 rfl size_mach _ F1.out ?_; (intro K hK; go_simp; refine hK _ ?_; clear hK K)
                refine wpK_load_on (by rfl) 92 _ rfl (w.heap.size + 1 + 1) 0 rfl (ints (clsS M L S t)) _ (fun W hW => hW.1.2) 16 (by rw [Hcs.out]; omega) _ Try.underlying92 rfl size_i16 _ Hcut.out ?_; (intro K hK; go_simp; refine hK _ ?_; clear hK K)
                refine wpK_on (by rfl) (.int .i64 (q : Int)) (fun W _ => by go_simp) ?_; (intro K hK; go_simp; refine hK _ ?_; clear hK K)
                refine wpK_on (by rfl) (.int .i64 (r : Int)) (fun W _ => by go_simp) ?_; (intro K hK; go_simp; refine hK _ ?_; clear hK K)
                refine wpK_call_on (by rfl) 162 #[.agg (mc M), .agg (ints (clsS M L S t)), .int .i64 (q : Int), .int .i64 (r : Int)] (.bool true) (fun W => by go_simp) (fun W hW => (HF.out W).mono fun e w'' h => ⟨by rw [h.1, HS.out, he], ⟨hW.1.1.keptAll h.2, hW.1.2.keptAll h.2⟩, ⟨hW.2.1.1.keptAll h.2, hW.2.1.2.keptAll h.2⟩, below_step hW.2.2 h.2⟩) ?_; (intro K hK; go_simp; refine hK _ ?_; clear hK K)
                refine wpK_val rfl (.bool true) (fun W _ => by go_simp) ?_; (intro K hK; go_simp; refine hK _ ?_; clear hK K)
                refine wpQuiet_nil ?_
                rintro w6 ⟨⟨hB6, hC6⟩, ⟨hR6, hN6⟩, hbw6⟩
                clear hB hC hR hN hbw
                have hfound := lst_found hrl he HE.out
                have Hset := Lib.hid (nxtS_set M L t q (lst M L (t + 1) r) (by rw [hfound.1]))
                have eN := ints_at ((nxtS M L t q).set q q) r (by rw [List.length_set, nxtS_len]; omega)
                rw [nxtS_at M L t q r hrl hq16] at eN
                have eQ := ints_at ((nxtS M L t q).set q q) q (by rw [List.length_set, nxtS_len]; omega)
                generalize ((nxtS M L t q).set q q).getD q 0 = oldq at eQ
                have cN := hN6.cell
                have fN := hN6.free
                have hN7 := hN6.set r (.int .i64 0)
                clear hN7
                have hN7 := hN6.set q (.int .i64 (lst M L (t + 1) r))
                rw [← ints_set, List.set_set, Hset.out] at hN7
                have hB7 := hB6.setOther g5 q (.int .i64 (lst M L (t + 1) r)) (by omega)
                have hR7 := hR6.setOther g5 q (.int .i64 (lst M L (t + 1) r)) (by omega)
                have hC7 := hC6.setOther g5 q (.int .i64 (lst M L (t + 1) r)) (by omega)
                have hbw7 := below_set' (o := q) hbw6 (b := g5) hge (.int .i64 (lst M L (t + 1) r))
                clear hfound Hset
                generalize (lst M L (t + 1) r : Int) = lv at *
                go_wp2
                go_roundw
                case rel => exact ⟨q + 1, by omega, by go_num, hB7, hR7, hC7, hN7, hbw7⟩
                case measure => simp [intOf] <;> omega
            · obtain rfl : r = q := by omega
              have Hal := Lib.hid (nxtS_set M L t r r (by rw [lst_alone HE.out]))
              rw [Hal.out] at hN
              go_wp2
              go_roundw
              case rel => exact ⟨r + 1, by omega, by go_num, hB, hR, hC, hN, hbw⟩
              case measure => simp [intOf] <;> omega
        · obtain rfl : q = S := by omega
          rw [nxtS_all] at hN
          have Hns : Hid ((ints (clsS M L q (t + 1))).size = 16) := Lib.hid (by rw [ints_size, clsS_len])
          have Hnc : Hid (cut (ints (clsS M L q (t + 1))) 0 16 = ints (clsS M L q (t + 1))) := Lib.hid (cut_all _ _ Hns.out)
          have Hno : Hid (over (ints (clsS M L q t)) 0 (ints (clsS M L q (t + 1))) = ints (clsS M L q (t + 1))) := Lib.hid (over_all _ _ (by rw [Hns.out, Hcs.out]))
          go_wp2_with (first | (with_reducible show wpList _ _ _ _ _ _; refine wpList_load_blk rfl 92 (.tmp 5) rfl g5 0 rfl (ints (clsS M L q (t + 1))) _ hN 16 (by rw [Hns.out]; omega) _ Try.underlying92 rfl size_i16 ?_; rw [Hnc.out]) | (with_reducible show wpList _ _ _ _ _ _; refine wpList_store_row rfl 92 (.tmp 3) (.tmp 49) rfl (w.heap.size + 1 + 1) 0 (ints (clsS M L q (t + 1))) rfl rfl _ _ hC (by rw [Hns.out, Hcs.out]; omega) (by rw [Hns.out]; exact size_i16) (ints_one _) _ Hno.out ?_; intro w8 hs8))
          go_roundw
          case rel => exact ⟨t + 1, by omega, by go_num, hs8.keep (by omega) hB, hs8.keep (by omega) hR, hs8.blk, hs8.below _ _ (by omega) hbw⟩
          case measure => simp [intOf] <;> omega
    · obtain rfl : t = S + 1 := by omega
      have Hcc : Hid (cut (ints (clsS M L S (S + 1))) 0 16 = ints (clsS M L S (S + 1))) := Lib.hid (cut_all _ _ Hcs.out)
      have Hov : Hid (over (ints zer) 0 (ints (clsS M L S (S + 1))) = ints (clsS M L S (S + 1))) := Lib.hid (over_all _ _ (by rw [Hcs.out, Hz16.out]))
      go_wp2_with (first | (with_reducible show wpList _ _ _ _ _ _; refine wpList_load_blk rfl 92 (.tmp 3) rfl (w.heap.size + 1 + 1) 0 rfl (ints (clsS M L S (S + 1))) _ hC 16 (by rw [Hcs.out]; omega) _ Try.underlying92 rfl size_i16 ?_; rw [Hcc.out]) | (with_reducible show wpList _ _ _ _ _ _; refine wpList_store_row rfl 92 (.tmp 2) (.tmp 50) rfl (w.heap.size + 1) 0 (ints (clsS M L S (S + 1))) rfl rfl _ _ hR (by rw [Hz16.out, Hcs.out]; omega) (by rw [Hcs.out]; exact size_i16) (ints_one _) _ Hov.out ?_; intro w8 hs8))
      exact bodyPost_cell rfl rfl hs8.blk Try.underlying92 rfl (by rw [Hcs.out]; exact size_i16) rfl ⟨rfl, hs8.below _ _ (by omega) hbw⟩
end Go.Proofs.Ytliohokcjgcmhaa
