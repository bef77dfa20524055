/- 'PermutationOf': the program. -/
import Derived.Test.YticnpajbefflbaaImgG
import Derived.Test.YticnpajbefflbaaLevM
import Derived.Test.YticnpajbefflbaaWordF
namespace Go.Proofs.Yticnpajbefflbaa
open Go.RowKit

/-- The number of the image of the word number k. -/
def permGat (M : Mach) (zs : List Int) (L n k : Nat) : Int := numI L (actG M zs (wordOf L n k)).1
def permGK (M : Mach) (zs : List Int) (L n k : Nat) : List Int := (List.range k).map (permGat M zs L n)
def permG (M : Mach) (zs : List Int) (L n : Nat) : List Int := permGK M zs L n (L ^ n)
theorem permGK_len (M : Mach) (zs : List Int) (L n k : Nat) : (permGK M zs L n k).length = k := by simp [permGK]
theorem permGK_snoc (M : Mach) (zs : List Int) (L n k : Nat) : permGK M zs L n (k + 1) = permGK M zs L n k ++ [permGat M zs L n k] := by simp [permGK, List.range_succ]
def permGP (M : Mach) (zs : List Int) (L n N k : Nat) : List Int := permGK M zs L n k ++ List.replicate (N - k) 0
theorem permGP_len (M : Mach) (zs : List Int) (L n N k : Nat) (h : k ≤ N) : (permGP M zs L n N k).length = N := by simp [permGP, permGK_len]; omega
theorem permGP_zero (M : Mach) (zs : List Int) (L n N : Nat) : permGP M zs L n N 0 = List.replicate N 0 := by simp [permGP, permGK]
theorem permGP_all (M : Mach) (zs : List Int) (L n N : Nat) : permGP M zs L n N N = permGK M zs L n N := by simp [permGP]
theorem permGP_set (M : Mach) (zs : List Int) (L n N k : Nat) (h : k < N) : (permGP M zs L n N k).set k (permGat M zs L n k) = permGP M zs L n N (k + 1) := by
  unfold permGP
  rw [List.set_append_right _ _ (by rw [permGK_len]; exact Nat.le_refl _), permGK_len, Nat.sub_self, show N - k = (N - (k + 1)) + 1 from by omega, List.replicate_succ, List.set_cons_zero, permGK_snoc, List.append_assoc]
  rfl
def permGC (M : Mach) (zs : List Int) (n : Int) : Int := if isGrp M zs then (if 0 ≤ n ∧ n ≤ 5 then 0 else 2) else 1
def permGR (M : Mach) (zs : List Int) (n : Int) : List Int := if isGrp M zs = true ∧ (0 ≤ n ∧ n ≤ 5) then permG M zs M.L.toNat n.toNat else []
theorem permGR_len {M : Mach} (hok : M.Ok) (zs : List Int) (n : Int) : (permGR M zs n).length ≤ 1048576 := by
  unfold permGR
  split
  · rename_i h
    obtain ⟨L, S, hg⟩ := Good.of hok (isGrp_mach h.1).1
    rw [permG, permGK_len, hg.hL, Int.toNat_natCast]
    have := pow_le L n.toNat hg.L3 (by omega)
    omega
  · simp
theorem levelWord_nat (L n k : Nat) (hd : L = 2 ∨ L = 3) (hn : n ≤ 5) (hk : k ≤ 242) (w : World) :
    Calls Try.prog 64 #[.int .i64 L, .int .i64 n, .int .i64 k] w fun e w' => e = .returned (.string ⟨(wordOf L n k).toArray⟩) ∧ Below w.heap.size w w' :=
  (levelWord_calls L n k hd hn (by omega) (by omega) w).mono fun e w' h => ⟨by rw [h.1]; rfl, h.2⟩
/-- A word of a level. -/
theorem wordOf_at (L n k : Nat) (hL : L = 2 ∨ L = 3) (hn : n ≤ 5) : (⟨(wordOf L n k).toArray⟩ : ByteArray).size ≤ 40 ∧ lettersL L (⟨(wordOf L n k).toArray⟩ : ByteArray).data.toList = true := by
  refine ⟨?_, lettersL_wordOf L hL n k⟩
  show (wordOf L n k).toArray.size ≤ 40
  simp [length_wordOf]; omega

set_option maxRecDepth 100000 in
set_option maxHeartbeats 1000000 in
theorem iPermutationOf_good (M : Mach) (L S : Nat) (hg : Good M L S) (v : Value) (zs : List Int) (hm : isGrp M zs = true) (hz : numsOk S zs = true) (h40 : zs.length ≤ 40) (n : Nat) (hn : n ≤ 5) (w : World) (hv : SeesI w v zs) :
    Calls Try.prog 36 #[.agg (mc M), v, .int .i64 n] w fun e w' => ∃ vr, e = .returned (.tuple #[vr, .int .i64 0]) ∧ OwnI w' w.heap.size vr (permG M zs L n) ∧ Below w.heap.size w w' := by
  have hok := hg.ok
  have hL23 := hg.L23
  have hL3 := hg.L3
  have hcL := mc_L M
  rw [hg.hL] at hcL
  have hp := pw_bd L n hL3 hn
  have hpw : pw L n = ((L ^ n : Nat) : Int) := rfl
  obtain ⟨N, hN⟩ : ∃ N : Nat, L ^ n = N := ⟨_, rfl⟩
  rw [hN] at hpw
  have hN1 : N ≤ 243 := by omega
  have hln : isLev (n : Int) = true := (isLev_iff _).2 (by omega)
  have HN := Lib.hid hN
  clear hN
  have hmk := mk_ints N (by omega)
  have F1 : Hid (cut (mc M) 0 98 = mc M) := Lib.hid (cut_all _ _ (mc_size hok)); have F2 : Hid (0 + 98 ≤ (mc M).size) := Lib.hid (by rw [mc_size hok]; omega)
  have hB : Blk (w.alloc (.cells (mc M) 29)) w.heap.size (mc M) 29 := Blk.new w _ _
  have hbw0 : Below w.heap.size w (w.alloc (.cells (mc M) 29)) := by (repeat (first | exact Below.refl _ _ | refine below_drew' ?_ | refine below_drewN' ?_ _ | refine below_alloc' ?_ _ | refine below_set' ?_ (by (try simp); (try omega)) _ | refine below_step ?_ (by assumption)))
  have hvB := hv.below hbw0
  have Hv := Lib.hid hv
  clear hv
  go_enter Try.func36, Try.ntmps36
  go_wp2_with (first | (with_reducible show wpList _ _ _ _ _ _; refine wpList_load_blk_g rfl 29 (.tmp 3) rfl w.heap.size 0 rfl (mc M) _ (by first | exact hB1 | exact hB) 98 F2.out _ Try.underlying29 rfl size_mach ?_; rw [F1.out]) | (go_at_call 61; refine (IsGroupWord_calls M hok _ zs _ hvB).mono ?_; rintro e w1 ⟨rfl, hb1⟩; rw [hm]; have hB1 := hB.keptAll hb1; have cA := hB1.cell; have hbw1 := below_step hbw0 hb1) | (go_at_call 62; refine (isLevel_calls _ _).mono ?_; rintro e w' ⟨rfl, rfl⟩) | (go_at_call 63; refine (levelSize_calls L n hL3 hn _).mono ?_; rintro e w' ⟨rfl, rfl⟩; rw [hpw]))
  have hC0 : Blk (w1.alloc (.cells (ints (List.replicate N 0)) 2)) w1.heap.size (ints (permGP M zs L n N 0)) 2 := by rw [permGP_zero]; exact Blk.new _ _ _
  have hB2 : Blk (w1.alloc (.cells (ints (List.replicate N 0)) 2)) w.heap.size (mc M) 29 := hB1.alloc _
  have hbw2 := below_alloc' hbw1 (.cells (ints (List.replicate N 0)) 2)
  have hge := hbw1.size
  have hlt1 := hB1.lt
  clear hB hB1 hbw0 hbw1 cA hb1 hmk hvB
  generalize w1.heap.size = g0 at *
  go_loopw [26] (fun i wr => ∃ k : Nat, k ≤ N ∧ i = .int .i64 k ∧ Blk wr w.heap.size (mc M) 29 ∧ Blk wr g0 (ints (permGP M zs L n N k)) 2 ∧ Below w.heap.size w wr) (fun i _ => N - (intOf i).toNat)
  case atStart => exact ⟨0, by omega, rfl, hB2, hC0, hbw2⟩
  case round =>
    clear hB2 hC0 hbw2
    obtain ⟨k, hk, rfl, hB, hC, hbw⟩ := hrel
    by_cases hlt : k < N
    · have hki : (k : Int) < N := by omega
      obtain ⟨hWs, hWl⟩ := wordOf_at L n k hL23 hn
      obtain ⟨a1, a2, a3, a4⟩ := actG_all hg zs hz (wordOf L n k) hWl
      have hrs : (actG M zs (wordOf L n k)).1.length ≤ 5 := by rw [a1, length_wordOf]; exact hn
      have hk2 : k ≤ 242 := by omega
      have cA := hB.cell
      have hv1 := Hv.out.below hbw
      have hl := permGP_len M zs L n N k hk
      have hs : (ints (permGP M zs L n N k))[k]? = some ((ints (permGP M zs L n N k))[k]'(by rw [ints_size, hl]; exact hlt)) := Array.getElem?_eq_getElem _
      generalize (ints (permGP M zs L n N k))[k]'(by rw [ints_size, hl]; exact hlt) = old at hs
      have Hset : Hid (ints (permGP M zs L n N (k + 1)) = (ints (permGP M zs L n N k)).setIfInBounds k (.int .i64 (numI L (actG M zs (wordOf L n k)).1))) := Lib.hid (by rw [← permGP_set M zs L n N k hlt, ints_set]; rfl)
      clear a1 a3 a4 hl
      go_wp2_with (first | (go_at_call 64; refine (levelWord_nat L n k hL23 hn hk2 _).mono ?_; rintro e w2 ⟨rfl, hb2⟩; have hB2 := hB.keptAll hb2; have hv2 := hv1.below hb2; have hC2 := hC.keptAll hb2; have hbw2 := below_step hbw hb2) | (go_at_call 41; refine (leadWord_calls M L S hg _ _ zs hz h40 ⟨(wordOf L n k).toArray⟩ hWs hWl _ hB2 hv2).mono ?_; rintro e w3 ⟨v3, rfl, hO3, hb3⟩; have hB3 := hB2.keptAll hb3; have hC3 := hC2.keptAll hb3; have hbw3 := below_step hbw2 hb3; have cA3 := hB3.cell; have cC := hC3.cell; have fC := hC3.free; have hC4 := hC3.set k (.int .i64 (numI L (actG M zs (wordOf L n k)).1)); have hB4 := hB3.setOther g0 k (.int .i64 (numI L (actG M zs (wordOf L n k)).1)) (by omega); have hbw4 := below_set' (o := k) hbw3 (b := g0) hge (.int .i64 (numI L (actG M zs (wordOf L n k)).1)); rw [← Hset.out] at hC4) | (go_at_call 65; refine (levelNumber_calls L ⟨(actG M zs (wordOf L n k)).1.toArray⟩ hL3 hrs a2 _).mono ?_; rintro e w' ⟨rfl, rfl⟩))
      go_roundw
      case rel => exact ⟨k + 1, by omega, by go_num, hB4, hC4, hbw4⟩
      case measure => simp [intOf] <;> omega
    · obtain rfl : k = N := by omega
      rw [permGP_all] at hC
      have hOw : OwnI wr w.heap.size (.slice (some ⟨g0, 0, none⟩) k k) (permG M zs L n) := OwnI.made (by rw [permG, permGK_len]; exact HN.out) (by unfold maxLen; omega) hge (by unfold permG; rw [HN.out]; exact hC)
      go_wp2
      go_ret2
      exact ⟨_, rfl, hOw, hbw⟩

set_option maxRecDepth 100000 in
set_option maxHeartbeats 1000000 in
theorem iPermutationOf_calls (M : Mach) (hok : M.Ok) (v : Value) (zs : List Int) (n : Int) (w : World) (hv : SeesI w v zs) :
    Calls Try.prog 36 #[.agg (mc M), v, .int .i64 n] w fun e w' => ∃ vr, e = .returned (.tuple #[vr, .int .i64 (permGC M zs n)]) ∧ OwnI w' w.heap.size vr (permGR M zs n) ∧ Below w.heap.size w w' := by
  cases hm : isGrp M zs
  · have F1 : Hid (cut (mc M) 0 98 = mc M) := Lib.hid (cut_all _ _ (mc_size hok)); have F2 : Hid (0 + 98 ≤ (mc M).size) := Lib.hid (by rw [mc_size hok]; omega)
    have hB : Blk (w.alloc (.cells (mc M) 29)) w.heap.size (mc M) 29 := Blk.new w _ _
    have hbw0 : Below w.heap.size w (w.alloc (.cells (mc M) 29)) := by (repeat (first | exact Below.refl _ _ | refine below_drew' ?_ | refine below_drewN' ?_ _ | refine below_alloc' ?_ _ | refine below_set' ?_ (by (try simp); (try omega)) _ | refine below_step ?_ (by assumption)))
    have hvB := hv.below hbw0
    clear hv
    have Hc : Hid (permGC M zs n = 1) := Lib.hid (by simp [permGC, hm])
    have Hr : Hid (permGR M zs n = []) := Lib.hid (by simp [permGR, hm])
    go_enter Try.func36, Try.ntmps36
    go_wp2_with (first | (with_reducible show wpList _ _ _ _ _ _; refine wpList_load_blk rfl 29 (.tmp 3) rfl w.heap.size 0 rfl (mc M) _ (hB) 98 F2.out _ Try.underlying29 rfl size_mach ?_; rw [F1.out]) | (go_at_call 61; refine (IsGroupWord_calls M hok _ zs _ hvB).mono ?_; rintro e w1 ⟨rfl, hb1⟩; rw [hm]))
    go_ret2
    exact ⟨_, ret_vi Hc.out.symm, by rw [Hr.out]; exact OwnI.nil _ _, by (repeat (first | exact Below.refl _ _ | refine below_drew' ?_ | refine below_drewN' ?_ _ | refine below_alloc' ?_ _ | refine below_set' ?_ (by (try simp); (try omega)) _ | refine below_step ?_ (by assumption)))⟩
  · by_cases hn : 0 ≤ n ∧ n ≤ 5
    · obtain ⟨L, S, hg⟩ := Good.of hok (isGrp_mach hm).1
      have h2 := (isGrp_mach hm).2
      rw [hg.hS] at h2
      obtain ⟨nn, rfl⟩ := Int.eq_ofNat_of_zero_le hn.1
      have hr : permGR M zs nn = permG M zs L nn := by unfold permGR; rw [if_pos ⟨hm, hn⟩, hg.hL]; simp only [Int.toNat_natCast]
      have hc : permGC M zs nn = 0 := by unfold permGC; rw [if_pos hm, if_pos hn]
      rw [hr, hc]
      exact iPermutationOf_good M L S hg v zs hm (grpOk_nums h2).2 (grpOk_nums h2).1 nn (by omega) w hv
    · have F1 : Hid (cut (mc M) 0 98 = mc M) := Lib.hid (cut_all _ _ (mc_size hok)); have F2 : Hid (0 + 98 ≤ (mc M).size) := Lib.hid (by rw [mc_size hok]; omega)
      have hB : Blk (w.alloc (.cells (mc M) 29)) w.heap.size (mc M) 29 := Blk.new w _ _
      have hbw0 : Below w.heap.size w (w.alloc (.cells (mc M) 29)) := by (repeat (first | exact Below.refl _ _ | refine below_drew' ?_ | refine below_drewN' ?_ _ | refine below_alloc' ?_ _ | refine below_set' ?_ (by (try simp); (try omega)) _ | refine below_step ?_ (by assumption)))
      have hvB := hv.below hbw0
      clear hv
      have Hc : Hid (permGC M zs n = 2) := Lib.hid (by unfold permGC; rw [if_pos hm, if_neg hn])
      have Hr : Hid (permGR M zs n = []) := Lib.hid (by unfold permGR; rw [if_neg (fun h => hn h.2)])
      have hln : isLev n = false := (isLev_no n).2 hn
      clear hn
      go_enter Try.func36, Try.ntmps36
      go_wp2_with (first | (with_reducible show wpList _ _ _ _ _ _; refine wpList_load_blk rfl 29 (.tmp 3) rfl w.heap.size 0 rfl (mc M) _ (hB) 98 F2.out _ Try.underlying29 rfl size_mach ?_; rw [F1.out]) | (go_at_call 61; refine (IsGroupWord_calls M hok _ zs _ hvB).mono ?_; rintro e w1 ⟨rfl, hb1⟩; rw [hm]) | (go_at_call 62; refine (isLevel_calls _ _).mono ?_; rintro e w' ⟨rfl, rfl⟩))
      go_ret2
      exact ⟨_, ret_vi Hc.out.symm, by rw [Hr.out]; exact OwnI.nil _ _, by (repeat (first | exact Below.refl _ _ | refine below_drew' ?_ | refine below_drewN' ?_ _ | refine below_alloc' ?_ _ | refine below_set' ?_ (by (try simp); (try omega)) _ | refine below_step ?_ (by assumption)))⟩
end Go.Proofs.Yticnpajbefflbaa
