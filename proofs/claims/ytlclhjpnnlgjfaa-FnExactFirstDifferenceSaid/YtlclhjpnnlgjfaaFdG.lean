/- 'FirstDifference': plain data, and the program. -/
import Derived.Test.YtlclhjpnnlgjfaaPerG
namespace Go.Proofs.Ytlclhjpnnlgjfaa
open Go.RowKit

/-- Are the images of the word number k different? -/
def dfB (M : Mach) (z1 z2 : List Int) (L n k : Nat) : Bool := !((actG M z1 (wordOf L n k)).1 == (actG M z2 (wordOf L n k)).1)
/-- The first such word among j from the number k on. -/
def fdK (M : Mach) (z1 z2 : List Int) (L n : Nat) : Nat → Nat → Option (List UInt8)
  | _, 0 => none
  | k, j + 1 => if dfB M z1 z2 L n k then some (wordOf L n k) else fdK M z1 z2 L n (k + 1) j
/-- .. of j levels from n on. -/
def fdN (M : Mach) (z1 z2 : List Int) (L : Nat) : Nat → Nat → Option (List UInt8)
  | _, 0 => none
  | n, j + 1 => match fdK M z1 z2 L n 0 (L ^ n) with | some l => some l | none => fdN M z1 z2 L (n + 1) j
theorem fdK_yes (M : Mach) (z1 z2 : List Int) (L n k N : Nat) (hk : k < N) (h : dfB M z1 z2 L n k = true) : fdK M z1 z2 L n k (N - k) = some (wordOf L n k) := by
  rw [show N - k = (N - (k + 1)) + 1 from by omega, fdK, if_pos h]
theorem fdK_no (M : Mach) (z1 z2 : List Int) (L n k N : Nat) (hk : k < N) (h : dfB M z1 z2 L n k = false) : fdK M z1 z2 L n k (N - k) = fdK M z1 z2 L n (k + 1) (N - (k + 1)) := by
  rw [show N - k = (N - (k + 1)) + 1 from by omega, fdK, if_neg (by simp [h])]
theorem fdK_end (M : Mach) (z1 z2 : List Int) (L n N : Nat) : fdK M z1 z2 L n N (N - N) = none := by rw [Nat.sub_self]; rfl
theorem fdN_yes (M : Mach) (z1 z2 : List Int) (L n T : Nat) (hn : n < T) (l : List UInt8) (h : fdK M z1 z2 L n 0 (L ^ n) = some l) : fdN M z1 z2 L n (T - n) = some l := by
  rw [show T - n = (T - (n + 1)) + 1 from by omega, fdN, h]
theorem fdN_no (M : Mach) (z1 z2 : List Int) (L n T : Nat) (hn : n < T) (h : fdK M z1 z2 L n 0 (L ^ n) = none) : fdN M z1 z2 L n (T - n) = fdN M z1 z2 L (n + 1) (T - (n + 1)) := by
  rw [show T - n = (T - (n + 1)) + 1 from by omega, fdN, h]
theorem fdN_end (M : Mach) (z1 z2 : List Int) (L T : Nat) : fdN M z1 z2 L T (T - T) = none := by rw [Nat.sub_self]; rfl
theorem fdN_first (M : Mach) (z1 z2 : List Int) (L : Nat) : fdN M z1 z2 L 0 6 = fdN M z1 z2 L 1 (6 - 1) := by
  have h : fdK M z1 z2 L 0 0 (L ^ 0) = none := by simp [fdK, dfB, wordOf, actG]
  exact fdN_no M z1 z2 L 0 6 (by omega) h
def wordR (o : Option (List UInt8)) : ByteArray := match o with | some l => ⟨l.toArray⟩ | none => ⟨#[]⟩
def wordC (o : Option (List UInt8)) : Int := match o with | some _ => 0 | none => 4
def fdR (M : Mach) (z1 z2 : List Int) : ByteArray := if two M z1 z2 then wordR (fdN M z1 z2 M.L.toNat 0 6) else ⟨#[]⟩
def fdC (M : Mach) (z1 z2 : List Int) : Int := if two M z1 z2 then wordC (fdN M z1 z2 M.L.toNat 0 6) else 1
/-- Both are group words. -/
structure Twos (M : Mach) (z1 z2 : List Int) (L S : Nat) : Prop where
  g : Good M L S
  n1 : numsOk S z1 = true
  n2 : numsOk S z2 = true
  l1 : z1.length ≤ 40
  l2 : z2.length ≤ 40
theorem twos_of {M : Mach} (hok : M.Ok) {z1 z2 : List Int} (h : two M z1 z2 = true) : ∃ L S, Twos M z1 z2 L S := by
  obtain ⟨h1, h2⟩ := two_parts h
  obtain ⟨L, S, hg⟩ := Good.of hok (isGrp_mach h1).1
  have a1 := (isGrp_mach h1).2
  have a2 := (isGrp_mach h2).2
  rw [hg.hS] at a1 a2
  exact ⟨L, S, hg, (grpOk_nums a1).2, (grpOk_nums a2).2, (grpOk_nums a1).1, (grpOk_nums a2).1⟩

set_option maxRecDepth 100000 in
set_option maxHeartbeats 2000000 in
theorem iFirst_good (M : Mach) (L S : Nat) (z1 z2 : List Int) (ht : Twos M z1 z2 L S) (h2 : two M z1 z2 = true) (v1 v2 : Value) (w : World) (hv1 : SeesI w v1 z1) (hv2 : SeesI w v2 z2) :
    Calls Try.prog 19 #[.agg (mc M), v1, v2] w fun e w' => e = .returned (.tuple #[.string (wordR (fdN M z1 z2 L 0 6)), .int .i64 (wordC (fdN M z1 z2 L 0 6))]) ∧ Below w.heap.size w w' := by
  obtain ⟨oa1, ca1, rfl, q1⟩ := id hv1.view
  obtain ⟨oa2, ca2, rfl, q2⟩ := id hv2.view
  clear q1 q2
  have hg := ht.g
  have hok := hg.ok
  have hL23 := hg.L23
  have hL3 := hg.L3
  have hcL := mc_L M
  rw [hg.hL] at hcL
  have F1 : Hid (cut (mc M) 0 98 = mc M) := Lib.hid (cut_all _ _ (mc_size hok)); have F2 : Hid (0 + 98 ≤ (mc M).size) := Lib.hid (by rw [mc_size hok]; omega)
  have hB : Blk (w.alloc (.cells (mc M) 29)) w.heap.size (mc M) 29 := Blk.new w _ _
  have hbw0 : Below w.heap.size w (w.alloc (.cells (mc M) 29)) := by (repeat (first | exact Below.refl _ _ | refine below_drew' ?_ | refine below_drewN' ?_ _ | refine below_alloc' ?_ _ | refine below_set' ?_ (by (try simp); (try omega)) _ | refine below_step ?_ (by assumption)))
  have hvB1 := hv1.below hbw0
  have hvB2 := hv2.below hbw0
  have Hv1 := Lib.hid hv1
  have Hv2 := Lib.hid hv2
  clear hv1 hv2
  unfold two at h2
  go_enter Try.func19, Try.ntmps19
  go_wp2_with (first | (with_reducible show wpList _ _ _ _ _ _; refine wpList_load_blk rfl 29 (.tmp 3) rfl w.heap.size 0 rfl (mc M) _ (hB) 98 F2.out _ Try.underlying29 rfl size_mach ?_; rw [F1.out]) | (go_at_call 25; refine (areGroupWords_calls M hok _ z1 _ z2 _ hvB1 hvB2).mono ?_; rintro e w1 ⟨rfl, hb1⟩; rw [h2]; have hB1 := hB.keptAll hb1; have hbw1 := below_step hbw0 hb1))
  clear hB hbw0 hvB1 hvB2 hb1 h2
  go_loopw [8] (fun nv wr => ∃ n : Nat, n ≤ 6 ∧ nv = .int .i64 n ∧ Blk wr w.heap.size (mc M) 29 ∧ Below w.heap.size w wr ∧ Hid (fdN M z1 z2 L 0 6 = fdN M z1 z2 L n (6 - n))) (fun nv _ => 6 - (intOf nv).toNat)
  case atStart => exact ⟨0, by omega, rfl, hB1, hbw1, Lib.hid rfl⟩
  case round =>
    clear hB1 hbw1
    obtain ⟨n, hn, rfl, hB, hbw, HF⟩ := hrel
    by_cases hlt : n ≤ 5
    · have hni : (n : Int) ≤ 5 := by omega
      have cA := hB.cell
      have hp := pw_bd L n hL3 hlt
      have hpw : pw L n = ((L ^ n : Nat) : Int) := rfl
      obtain ⟨N, hN⟩ : ∃ N : Nat, L ^ n = N := ⟨_, rfl⟩
      rw [hN] at hpw
      have hN1 : N ≤ 243 := by omega
      have HN := Lib.hid hN
      clear hN
      go_wp2_with (go_at_call 34; refine (levelSize_calls L n hL3 hlt _).mono ?_; rintro e w' ⟨rfl, rfl⟩; rw [hpw])
      go_loopw [29] (fun i wr => ∃ k : Nat, k ≤ N ∧ i = .int .i64 k ∧ Blk wr w.heap.size (mc M) 29 ∧ Below w.heap.size w wr ∧ Hid (fdK M z1 z2 L n 0 (L ^ n) = fdK M z1 z2 L n k (N - k))) (fun i _ => N - (intOf i).toNat)
      case atStart => exact ⟨0, by omega, rfl, hB, hbw, Lib.hid (by rw [HN.out]; rfl)⟩
      case round =>
        clear hB hbw cA
        obtain ⟨k, hk, rfl, hB, hbw, HK⟩ := hrel
        have cA := hB.cell
        by_cases hlk : k < N
        · have hki : (k : Int) < N := by omega
          have hk2 : k ≤ 242 := by omega
          obtain ⟨hWs, hWl⟩ := wordOf_at L n k hL23 hlt
          have hx1 := Hv1.out.below hbw
          have hx2 := Hv2.out.below hbw
          cases hd : dfB M z1 z2 L n k
          · have Hn := Lib.hid (fdK_no M z1 z2 L n k N hlk hd)
            have hde : ((actG M z1 (wordOf L n k)).1 == (actG M z2 (wordOf L n k)).1) = true := by simpa [dfB] using hd
            go_wp2_with (first | (go_at_call 35; refine (levelWord_nat L n k hL23 hlt hk2 _).mono ?_; rintro e w2 ⟨rfl, hb2⟩; have hB2 := hB.keptAll hb2; have hx12 := hx1.below hb2; have hx22 := hx2.below hb2; have hbw2 := below_step hbw hb2) | (go_at_call 36; first | (refine (leadWord_calls M L S hg _ _ z2 ht.n2 ht.l2 ⟨(wordOf L n k).toArray⟩ hWs hWl _ hB3 hx23).mono ?_; rintro e w4 ⟨v4, rfl, hO4, hb4⟩; have hB4 := hB3.keptAll hb4; have hbw4 := below_step hbw3 hb4) | (refine (leadWord_calls M L S hg _ _ z1 ht.n1 ht.l1 ⟨(wordOf L n k).toArray⟩ hWs hWl _ hB2 hx12).mono ?_; rintro e w3 ⟨v3, rfl, hO3, hb3⟩; have hB3 := hB2.keptAll hb3; have hx23 := hx22.below hb3; have hbw3 := below_step hbw2 hb3)))
            go_roundw
            case rel => exact ⟨k + 1, by omega, by go_num, hB4, hbw4, Lib.hid (by rw [HK.out, Hn.out])⟩
            case measure => simp [intOf] <;> omega
          · have Hn := Lib.hid (fdK_yes M z1 z2 L n k N hlk hd)
            have hde : ((actG M z1 (wordOf L n k)).1 == (actG M z2 (wordOf L n k)).1) = false := by simpa [dfB] using hd
            go_wp2_with (first | (go_at_call 35; refine (levelWord_nat L n k hL23 hlt hk2 _).mono ?_; rintro e w2 ⟨rfl, hb2⟩; have hB2 := hB.keptAll hb2; have hx12 := hx1.below hb2; have hx22 := hx2.below hb2; have hbw2 := below_step hbw hb2) | (go_at_call 36; first | (refine (leadWord_calls M L S hg _ _ z2 ht.n2 ht.l2 ⟨(wordOf L n k).toArray⟩ hWs hWl _ hB3 hx23).mono ?_; rintro e w4 ⟨v4, rfl, hO4, hb4⟩; have hB4 := hB3.keptAll hb4; have hbw4 := below_step hbw3 hb4) | (refine (leadWord_calls M L S hg _ _ z1 ht.n1 ht.l1 ⟨(wordOf L n k).toArray⟩ hWs hWl _ hB2 hx12).mono ?_; rintro e w3 ⟨v3, rfl, hO3, hb3⟩; have hB3 := hB2.keptAll hb3; have hx23 := hx22.below hb3; have hbw3 := below_step hbw2 hb3)))
            go_ret2
            have hfd : fdN M z1 z2 L 0 6 = some (wordOf L n k) := by rw [HF.out]; exact fdN_yes M z1 z2 L n 6 (by omega) _ (by rw [HK.out, Hn.out])
            exact ⟨ret_si (by rw [hfd]; rfl) (by rw [hfd]; rfl), hbw4⟩
        · obtain rfl : k = N := by omega
          have Hend := Lib.hid (HK.out.trans (fdK_end M z1 z2 L n k))
          have Hnx := Lib.hid (fdN_no M z1 z2 L n 6 (by omega) Hend.out)
          go_wp2
          go_roundw
          case rel => exact ⟨n + 1, by omega, by go_num, hB, hbw, Lib.hid (by rw [HF.out, Hnx.out])⟩
          case measure => simp [intOf] <;> omega
    · obtain rfl : n = 6 := by omega
      have hfd := HF.out.trans (fdN_end M z1 z2 L 6)
      have Hr := Lib.hid hfd
      clear hfd
      go_wp2
      go_ret2
      exact ⟨ret_si (by rw [Hr.out]; rfl) (by rw [Hr.out]; rfl), hbw⟩

set_option maxRecDepth 100000 in
set_option maxHeartbeats 1000000 in
theorem iFirstDifference_calls (M : Mach) (hok : M.Ok) (v1 : Value) (z1 : List Int) (v2 : Value) (z2 : List Int) (w : World) (hv1 : SeesI w v1 z1) (hv2 : SeesI w v2 z2) :
    Calls Try.prog 19 #[.agg (mc M), v1, v2] w fun e w' => e = .returned (.tuple #[.string (fdR M z1 z2), .int .i64 (fdC M z1 z2)]) ∧ Below w.heap.size w w' := by
  obtain ⟨oa1, ca1, rfl, q1⟩ := id hv1.view
  obtain ⟨oa2, ca2, rfl, q2⟩ := id hv2.view
  clear q1 q2
  cases hm : two M z1 z2
  · have F1 : Hid (cut (mc M) 0 98 = mc M) := Lib.hid (cut_all _ _ (mc_size hok)); have F2 : Hid (0 + 98 ≤ (mc M).size) := Lib.hid (by rw [mc_size hok]; omega)
    have hB : Blk (w.alloc (.cells (mc M) 29)) w.heap.size (mc M) 29 := Blk.new w _ _
    have hbw0 : Below w.heap.size w (w.alloc (.cells (mc M) 29)) := by (repeat (first | exact Below.refl _ _ | refine below_drew' ?_ | refine below_drewN' ?_ _ | refine below_alloc' ?_ _ | refine below_set' ?_ (by (try simp); (try omega)) _ | refine below_step ?_ (by assumption)))
    have hvB1 := hv1.below hbw0
    have hvB2 := hv2.below hbw0
    clear hv1 hv2
    have Hc : Hid (fdC M z1 z2 = 1) := Lib.hid (by simp [fdC, hm])
    have Hr : Hid (fdR M z1 z2 = ⟨#[]⟩) := Lib.hid (by simp [fdR, hm])
    unfold two at hm
    go_enter Try.func19, Try.ntmps19
    go_wp2_with (first | (with_reducible show wpList _ _ _ _ _ _; refine wpList_load_blk rfl 29 (.tmp 3) rfl w.heap.size 0 rfl (mc M) _ (hB) 98 F2.out _ Try.underlying29 rfl size_mach ?_; rw [F1.out]) | (go_at_call 25; refine (areGroupWords_calls M hok _ z1 _ z2 _ hvB1 hvB2).mono ?_; rintro e w1 ⟨rfl, hb1⟩; rw [hm]))
    go_ret2
    exact ⟨ret_si Hr.out.symm Hc.out.symm, by (repeat (first | exact Below.refl _ _ | refine below_drew' ?_ | refine below_drewN' ?_ _ | refine below_alloc' ?_ _ | refine below_set' ?_ (by (try simp); (try omega)) _ | refine below_step ?_ (by assumption)))⟩
  · obtain ⟨L, S, ht⟩ := twos_of hok hm
    have hr : fdR M z1 z2 = wordR (fdN M z1 z2 L 0 6) := by unfold fdR; rw [if_pos hm, ht.g.hL, Int.toNat_natCast]
    have hc : fdC M z1 z2 = wordC (fdN M z1 z2 L 0 6) := by unfold fdC; rw [if_pos hm, ht.g.hL, Int.toNat_natCast]
    rw [hr, hc]
    exact iFirst_good M L S z1 z2 ht hm _ _ w hv1 hv2
end Go.Proofs.Ytlclhjpnnlgjfaa
