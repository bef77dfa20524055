/- 'OrderOnLevel': the model. -/
import Derived.Test.YticnpajbefflbaaOlS
namespace Go.Proofs.Yticnpajbefflbaa
open Go.RowKit

set_option maxRecDepth 100000 in
set_option maxHeartbeats 1000000 in
theorem l06Divisor_calls (a b : Nat) (ha : a ≤ 7625597484987) (hb : b ≤ 7625597484987) (w : World) :
    Calls Try.prog 34 #[.int .i64 a, .int .i64 b] w fun e w' => e = .returned (.int .i64 (Nat.gcd a b : Nat)) ∧ w = w' := by
  go_enter Try.func34, Try.ntmps34
  go_wp2
  go_loopw [0, 1, 5] (fun x y z wr => ∃ p q : Nat, x = .int .i64 p ∧ y = .int .i64 q ∧ Hid (Nat.gcd p q = Nat.gcd a b) ∧ p ≤ 7625597484987 ∧ q ≤ 7625597484987 ∧ w = wr) (fun _ y _ _ => (intOf y).toNat)
  case atStart => exact ⟨a, b, rfl, rfl, Lib.hid rfl, ha, hb, rfl⟩
  case round =>
    obtain ⟨p, q, rfl, rfl, Hg, hp, hq, rfl⟩ := hrel
    by_cases hlt : 0 < q
    · have hqi : (0 : Int) < (q : Int) := by omega
      have hrm := tmod_nat p q
      have hlt2 : p % q < q := Nat.mod_lt _ hlt
      have Hg2 : Hid (Nat.gcd q (p % q) = Nat.gcd a b) := Lib.hid ((gcd_next p q).trans Hg.out)
      generalize p % q = m at *
      go_wp2
      go_roundw
      case rel => exact ⟨q, m, rfl, rfl, Hg2, hq, by omega, by simp⟩
      case measure => simp [intOf] <;> omega
    · obtain rfl : q = 0 := by omega
      have hpg : p = Nat.gcd a b := by rw [← Hg.out, Nat.gcd_zero_right]
      subst hpg
      go_wp2
      go_ret
      exact ⟨rfl, rfl⟩


/-- All that the model's step asks. -/
theorem ol_step (im : List Int) (hin : inB im) (hD : ∀ k, k ≤ im.length → ∀ c ∈ (cs im k).2, c.toNat ∣ 7776) (k : Nat) (hk : k < im.length) (h0 : cycJ im (cs im k).1 k ≠ 0) :
    1 ≤ ordL (cs im k).2 ∧ 1 ≤ cycJ im (cs im k).1 k ∧ ordL (cs im k).2 * cycJ im (cs im k).1 k ≤ 7625597484987 ∧ ordL (cs im (k + 1)).2 = lcN (ordL (cs im k).2) (cycJ im (cs im k).1 k) := by
  have e : (cs im (k + 1)).2 = (cs im k).2 ++ [(cycJ im (cs im k).1 k : Int)] := by
    show (if cycJ im (cs im k).1 k = 0 then (cs im k).2 else (cs im k).2 ++ [(cycJ im (cs im k).1 k : Int)]) = _
    rw [if_neg h0]
  have h1 := ord_prod (cs im k).2 (cs_sum im hin k (by omega)).2
  have h2 : ordL (cs im k).2 ≤ 7776 := Nat.le_of_dvd (by omega) (ordL_dvd 7776 _ (hD k (by omega)))
  have h3 := hD (k + 1) (by omega) (cycJ im (cs im k).1 k : Int) (by rw [e]; simp)
  rw [Int.toNat_natCast] at h3
  have h4 := Nat.le_of_dvd (by omega) h3
  have h5 : ordL (cs im k).2 * cycJ im (cs im k).1 k ≤ 7776 * 7776 := Nat.mul_le_mul h2 h4
  refine ⟨h1.1, by omega, by omega, ?_⟩
  rw [e, ordL_snoc, Int.toNat_natCast]

set_option maxRecDepth 100000 in
set_option maxHeartbeats 4000000 in
theorem sOrderOnLevel_calls (M : Mach) (hok : M.Ok) (v : Value) (zs : List Int) (n : Int) (w : World) (hv : SeesI w v zs) :
    Calls Try.prog 9 #[.agg (mc M), v, .int .i64 n] w fun e w' => e = .returned (.tuple #[.int .i64 (olR M zs n), .int .i64 (permGC M zs n)]) ∧ Below w.heap.size w w' := by
  have F1 : Hid (cut (mc M) 0 98 = mc M) := Lib.hid (cut_all _ _ (mc_size hok)); have F2 : Hid (0 + 98 ≤ (mc M).size) := Lib.hid (by rw [mc_size hok]; omega)
  have hB : Blk (w.alloc (.cells (mc M) 29)) w.heap.size (mc M) 29 := Blk.new w _ _
  have hbw0 : Below w.heap.size w (w.alloc (.cells (mc M) 29)) := by (repeat (first | exact Below.refl _ _ | refine below_drew' ?_ | refine below_drewN' ?_ _ | refine below_alloc' ?_ _ | refine below_set' ?_ (by (try simp); (try omega)) _ | refine below_step ?_ (by assumption)))
  have HP := Lib.hid (l04Code_calls M hok v zs n (w.alloc (.cells (mc M) 29)) (hv.below hbw0))
  by_cases hc : permGC M zs n = 0
  · obtain ⟨L, S, nn, hg, rfl, hn5, hz, h40, e1, e2⟩ := permGC_zero hok hc
    rw [hc] at HP
    rw [hc, e2]
    have HL := Lib.hid (fun W h => l02Level_calls M L S hg v zs hz h40 nn hn5 W h)
    have hin := permG_in hg zs hz nn
    have hD := fun k hk => (cs_dvd (permG M zs L nn) 7776 hin (by omega) (permG_7776 hg zs hz nn hn5) k hk).2
    have hlen : (permG M zs L nn).length ≤ 243 := by rw [permG, permGK_len]; exact Nat.le_trans (pow_le L nn hg.L3 hn5) (by omega)
    have Hv := Lib.hid hv
    clear hc e1 e2 hv
    have HR : Hid ((cycL (permG M zs L nn)) = (cs (permG M zs L nn) (permG M zs L nn).length).2) := Lib.hid rfl
    rw [HR.out]
    generalize permG M zs L nn = im at *
    have HST := Lib.hid (ol_step im hin hD)
    have HC := Lib.hid (cs_ok im hin)
    have HK := Lib.hid (fun k hk => wk_ok im hin (cs im k).1 k (HC.out k (Nat.le_of_lt hk)).1 hk)
    have HJ := Lib.hid (fun k hk => cycJ_ok im (cs im k).1 k (HC.out k (Nat.le_of_lt hk)).1)
    have Hz := Lib.hid hin
    have hmk := mk_bls im.length (by omega)
    clear hin hD
    go_enter Try.func9, Try.ntmps9
    go_wp2_with (first | (with_reducible show wpList _ _ _ _ _ _; refine wpList_load_blk rfl 29 (.tmp 3) rfl w.heap.size 0 rfl (mc M) _ (by first | exact hB1 | exact hB) 98 F2.out _ Try.underlying29 rfl size_mach ?_; rw [F1.out]) | (go_at_call 32; refine HP.out.mono ?_; rintro e w1 ⟨rfl, hb1⟩; have hB1 := hB.keptAll hb1; have hbw1 := below_step hbw0 hb1) | (go_at_call 33; refine (HL.out _ (Hv.out.below hbw1)).mono ?_; rintro e w2 ⟨v2, rfl, hO2, hb2⟩; have Hs2 := Lib.hid hO2.sees; obtain ⟨o2, c2, rfl, hq⟩ := hO2.view; clear hq hO2))
    have hbw2 := below_step hbw1 hb2
    have hB0 : Blk (w2.alloc (.cells (bls (List.replicate im.length false)) 4)) w2.heap.size (bls (cs im 0).1) 4 := Blk.new _ _ _
    have hl0 : Below w2.heap.size w2 (w2.alloc (.cells (bls (List.replicate im.length false)) 4)) := by (repeat (first | exact Below.refl _ _ | refine below_drew' ?_ | refine below_drewN' ?_ _ | refine below_alloc' ?_ _ | refine below_set' ?_ (by (try simp); (try omega)) _ | refine below_step ?_ (by assumption)))
    have HBW := Lib.hid hbw2
    clear hmk hB hB1 hbw0 hbw1 hb1 hb2 hbw2
    go_loopw [10, 12] (fun o i wr => ∃ k : Nat, k ≤ im.length ∧ i = .int .i64 k ∧ o = .int .i64 ((ordL (cs im k).2 : Nat) : Int) ∧ Blk wr w2.heap.size (bls (cs im k).1) 4 ∧ Below w2.heap.size w2 wr) (fun _ i _ => im.length - (intOf i).toNat)
    case atStart => exact ⟨0, by omega, rfl, rfl, hB0, hl0⟩
    case round =>
      clear hB0 hl0
      obtain ⟨k, hk, rfl, rfl, hB, hbw⟩ := hrel
      by_cases hlt : k < im.length
      · have hki : (k : Int) < (im.length : Int) := by omega
        obtain ⟨j1, j2, j3⟩ := HJ.out k hlt
        have HKk := Lib.hid (HK.out k hlt)
        have Hst := Lib.hid j3
        have Hsj := Lib.hid j2
        have HN1 : Hid ((cs im (k + 1)).1 = (wk im (cs im k).1 k (cycJ im (cs im k).1 k)).1) := Lib.hid rfl
        have HN2 : Hid ((cs im (k + 1)).2 = if cycJ im (cs im k).1 k = 0 then (cs im k).2 else (cs im k).2 ++ [(cycJ im (cs im k).1 k : Int)]) := Lib.hid rfl
        have HSk := Lib.hid (HST.out k hlt)
        clear j2 j3
        generalize hmet : (cs im k).1 = met at *
        generalize hout : (cs im k).2 = out at *
        generalize hJ : cycJ im met k = J at *
        clear hmet hout hJ
        have hw0 : wk im met k 0 = (met, k) := rfl
        go_wp2_with fail
        go_loopw [13, 14] (fun ln i wx => ∃ j : Nat, j ≤ J ∧ ln = .int .i64 j ∧ i = .int .i64 ((wk im met k j).2 : Nat) ∧ Blk wx w2.heap.size (bls (wk im met k j).1) 4 ∧ Below w2.heap.size w2 wx) (fun ln _ _ => J - (intOf ln).toNat)
        case atStart => exact ⟨0, by omega, rfl, by rw [hw0], by rw [hw0]; exact hB, hbw⟩
        case round =>
          clear hB hbw
          obtain ⟨j, hj, rfl, rfl, hB, hbw⟩ := hrel
          obtain ⟨m1, m2⟩ := HKk.out j
          have hsz := hbw.size
          have hstep : wk im met k (j + 1) = ((wk im met k j).1.set (wk im met k j).2 true, (im.getD (wk im met k j).2 0).toNat) := rfl
          have e1 := bls_at (wk im met k j).1 (wk im met k j).2 (by omega)
          by_cases hjl : j < J
          · have hs := Hst.out j hjl
            unfold stopB at hs
            rw [hs] at e1
            have HS1 : Hid ((wk im met k (j + 1)).1 = (wk im met k j).1.set (wk im met k j).2 true) := Lib.hid (by rw [hstep])
            have HS2 : Hid (((wk im met k (j + 1)).2 : Int) = im.getD (wk im met k j).2 0) := Lib.hid (by
              have := (Hz.out _ m2).1
              rw [hstep]; show (((im.getD (wk im met k j).2 0).toNat : Nat) : Int) = _; omega)
            clear hstep hs
            generalize (wk im met k j).1 = mt at *
            generalize (wk im met k j).2 = p at *
            have hpi : (p : Int) < (im.length : Int) := by omega
            obtain ⟨g, hg, _, hcz⟩ := (Hs2.out.below hbw).at p m2
            subst hg
            have eg : im.getD p 0 = im[p] := by simp [List.getD, List.getElem?_eq_getElem m2]
            rw [eg] at HS2
            have hgl : g < w2.heap.size := by
              obtain ⟨g', hg', hl', _⟩ := Hs2.out.at p m2
              simp at hg'
              omega
            have c1 := hB.cell p
            rw [e1] at c1
            have f1 := hB.free
            have hB2 := hB.set p (.bool true)
            have hcz2 : (wr.setCell ⟨w2.heap.size, p, none⟩ (.bool true)).cell? ⟨g, p, none⟩ = some (.int .i64 im[p]) := by
              rw [World.cell?_setCell_far _ _ _ _ (by show w2.heap.size ≠ g; omega)]; exact hcz
            have hbw2 := below_set' (o := p) hbw (b := w2.heap.size) (Nat.le_refl _) (.bool true)
            rw [← bls_set, ← HS1.out] at hB2
            clear hB hbw hcz eg
            generalize im[p] = zp at *
            go_wp2_with fail
            go_roundw
            case rel => exact ⟨j + 1, by omega, by go_num, by rw [HS2.out], hB2, hbw2⟩
            case measure => simp [intOf] <;> omega
          · obtain rfl : j = J := by omega
            have hs := Hsj.out
            unfold stopB at hs
            rw [hs] at e1
            rw [← HN1.out] at hB
            clear hstep hs
            have c1 := hB.cell (wk im met k j).2
            rw [HN1.out, e1] at c1
            have hpi : (((wk im met k j).2 : Nat) : Int) < (im.length : Int) := by omega
            generalize (wk im met k j).2 = p at *
            by_cases hj0 : j = 0
            · have hj0i : ¬ ((0 : Int) < (j : Int)) := by omega
              have Hn2 : Hid ((cs im (k + 1)).2 = out) := Lib.hid (by rw [HN2.out, if_pos hj0])
              clear HN2
              go_wp2_with fail
              go_roundw
              case rel => exact ⟨k + 1, by omega, by go_num, by rw [Hn2.out], hB, hbw⟩
              case measure => simp [intOf] <;> omega
            · have hj0i : (0 : Int) < (j : Int) := by omega
              obtain ⟨s1, s2, s3, s4⟩ := HSk.out hj0
              obtain ⟨f1, f2, f3, f4, f5⟩ := lc_facts (ordL out) j s1 s2 s3
              have Hn := Lib.hid s4
              clear HN2 s4
              generalize ordL out = q1 at *
              have HG := Lib.hid (fun W => (l06Divisor_calls q1 j f1 f2 W).mono fun e w' (h : _ ∧ W = w') => And.intro h.1 h.2.symm)
              generalize Nat.gcd q1 j = gg at *
              have Hf5 := Lib.hid f5
              go_wp2_with (go_at_call 34; refine (HG.out _).mono ?_; rintro e w' ⟨rfl, rfl⟩)
              go_roundw
              case rel => exact ⟨k + 1, by omega, by go_num, by rw [Hn.out]; exact congrArg (Value.int IntKind.i64) Hf5.out, hB, hbw⟩
              case measure => simp [intOf] <;> omega
      · obtain rfl : k = im.length := by omega
        go_wp2
        go_ret2
        exact ⟨rfl, HBW.out.trans (below_le hbw HBW.out.size)⟩
  · have Hr := Lib.hid (olR_bad hc)
    obtain ⟨c, hcc⟩ : ∃ c, permGC M zs n = c := ⟨_, rfl⟩
    rw [hcc] at hc HP ⊢
    rw [Hr.out]
    have hcb : (c != 0) = true := by simpa using hc
    obtain ⟨oa, ca, rfl, hq⟩ := hv.view
    clear hc hcc hv hq
    go_enter Try.func9, Try.ntmps9
    go_wp2_with (first | (with_reducible show wpList _ _ _ _ _ _; refine wpList_load_blk rfl 29 (.tmp 3) rfl w.heap.size 0 rfl (mc M) _ (hB) 98 F2.out _ Try.underlying29 rfl size_mach ?_; rw [F1.out]) | (go_at_call 32; refine HP.out.mono ?_; rintro e w1 ⟨rfl, hb1⟩))
    go_ret2
    exact ⟨rfl, below_step hbw0 hb1⟩
end Go.Proofs.Yticnpajbefflbaa
