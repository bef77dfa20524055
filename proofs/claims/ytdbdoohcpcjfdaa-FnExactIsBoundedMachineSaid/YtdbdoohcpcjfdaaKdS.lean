/- The model's 'l09Double', 'l09Most'. -/
import Derived.Test.YtdbdoohcpcjfdaaKdR
import Derived.Lib.MinMax
namespace Go.Proofs.Ytdbdoohcpcjfdaa
open Go.RowKit

def dbC (m : Mach) (L K : Nat) (B : Rl) (r x : Nat) : Bool := !trivB m L K (nn m r x) && (decide (nn m r x = r) || B (nn m r x) r)
theorem dbV_eq (m : Mach) (L K : Nat) (B : Rl) (r : Nat) : dbV m L K B r = cntB (dbC m L K B r) L := rfl
theorem cntB_yes {p : Nat → Bool} {k : Nat} (h : p k = true) : cntB p (k + 1) = cntB p k + 1 := by rw [cntB, if_pos h]
theorem cntB_no {p : Nat → Bool} {k : Nat} (h : p k = false) : cntB p (k + 1) = cntB p k := by rw [cntB, h]; rfl

set_option maxRecDepth 100000 in
set_option maxHeartbeats 4000000 in
theorem l09Double_calls (m : Mach) (L K : Nat) (hg : Good m L K) (l : List Bool) (hll : l.length = 16) (hl : ∀ q, q < K → l.getD q false = trivB m L K q) (T : Rl) (q : Nat) (hq : q < K) (w : World) :
    Calls Try.prog 70 #[.agg (mc m), .agg (bl l), .agg (bl (mtx T)), .int .i64 (q : Int)] w fun e w' => e = .returned (.bool (decide (1 < dbV m L K T q))) ∧ Below w.heap.size w w' := by
  have hok := hg.ok
  have hS16 := hg.S16
  have hL3 := hg.L3
  have hcL := mc_L m
  rw [hg.hL] at hcL
  have HcL := Lib.hid hcL
  have Hg := Lib.hid hg
  have Hll := Lib.hid hll
  have Hl := Lib.hid hl
  have Hdb := Lib.hid (dbV_eq m L K T q)
  have HC0 : Hid (cntB (dbC m L K T q) 0 = 0) := Lib.hid rfl
  have hq16 : (q : Int) < 16 := by omega
  have Hle := Lib.hid (fun k => cntB_le (dbC m L K T q) k)
  have hM1 : Blk (((w.alloc (.cells (mc m) 28)).alloc (.cells (bl l) 46)).alloc (.cells (bl (mtx T)) 87)) w.heap.size (mc m) 28 := ((Blk.new w _ _).alloc _).alloc _
  have hV1 : Blk (((w.alloc (.cells (mc m) 28)).alloc (.cells (bl l) 46)).alloc (.cells (bl (mtx T)) 87)) (w.heap.size + 1) (bl l) 46 := (Blk.new_at _ _ _ _ (by simp)).alloc _
  have hT1 : Blk (((w.alloc (.cells (mc m) 28)).alloc (.cells (bl l) 46)).alloc (.cells (bl (mtx T)) 87)) (w.heap.size + 1 + 1) (bl (mtx T)) 87 := Blk.new_at _ _ _ _ (by simp)
  have hbw1 : Below w.heap.size w (((w.alloc (.cells (mc m) 28)).alloc (.cells (bl l) 46)).alloc (.cells (bl (mtx T)) 87)) := by (repeat (first | exact Below.refl _ _ | refine below_drew' ?_ | refine below_drewN' ?_ _ | refine below_alloc' ?_ _ | refine below_set' ?_ (by (try simp); (try omega)) _ | refine below_step ?_ (by assumption)))
  clear hg hll hl hcL
  rw [Hdb.out]
  go_enter Try.func70, Try.ntmps70
  go_wp2
  go_loopw [9, 10] (fun c i wr => ∃ x : Nat, x ≤ L ∧ i = .int .i64 x ∧ c = .int .i64 ((cntB (dbC m L K T q) x : Nat) : Int) ∧ (Blk wr w.heap.size (mc m) 28 ∧ Blk wr (w.heap.size + 1) (bl l) 46 ∧ Blk wr (w.heap.size + 1 + 1) (bl (mtx T)) 87) ∧ Below w.heap.size w wr) (fun _ i _ => L - (intOf i).toNat)
  case atStart => exact ⟨0, by omega, rfl, rfl, ⟨hM1, hV1, hT1⟩, hbw1⟩
  case round =>
    clear hM1 hV1 hT1 hbw1
    obtain ⟨x, hx, rfl, rfl, ⟨hM, hV, hT⟩, hbw⟩ := hrel
    have hcl := Hle.out x
    by_cases hxL : x < L
    · have hxi : (x : Int) < (L : Int) := by omega
      have hx3 : x < 3 := by omega
      have hx3i : (x : Int) < 3 := by omega
      have cA := hM.cell
      have hcL := HcL.out
      have hn := mc_n hok q x (by omega) hx3
      rw [Hg.out.nn_eq q x hq hxL] at hn
      have hnl := Hg.out.nn_lt q x hq hxL
      have e2 := bl_at l (nn m q x) (by rw [Hll.out]; omega)
      rw [Hl.out _ hnl] at e2
      have cn := hV.cell (nn m q x)
      rw [e2] at cn
      have e3 := mtx_at T (nn m q x) q (by omega) (by omega)
      have cT := hT.cell (nn m q x * 16 + q)
      rw [e3] at cT
      clear e2 e3
      have Hy := Lib.hid (cntB_yes (p := dbC m L K T q) (k := x))
      have Hn := Lib.hid (cntB_no (p := dbC m L K T q) (k := x))
      have hd : dbC m L K T q x = (!trivB m L K (nn m q x) && (decide (nn m q x = q) || T (nn m q x) q)) := rfl
      generalize cntB (dbC m L K T q) x = c at *
      cases hv : trivB m L K (nn m q x)
      · rw [hv] at cn hd
        by_cases he : nn m q x = q
        · have Hs := Lib.hid (Hy.out (by rw [hd, he]; simp))
          have heb : ((nn m q x : Int) == (q : Int)) = true := by rw [he]; simp
          clear hd he hv cT
          generalize nn m q x = ni at *
          have hni16 : (ni : Int) < 16 := by omega
          go_wp2
          go_roundw
          case rel => exact ⟨x + 1, by omega, by go_num, by rw [Hs.out]; go_num, ⟨hM, hV, hT⟩, hbw⟩
          case measure => simp [intOf] <;> omega
        · have heb : ((nn m q x : Int) == (q : Int)) = false := by rw [beq_eq_false_iff_ne]; omega
          cases ht : T (nn m q x) q
          · rw [ht] at cT hd
            have Hs := Lib.hid (Hn.out (by rw [hd]; simp; exact he))
            clear hd he hv ht
            generalize nn m q x = ni at *
            have hni16 : (ni : Int) < 16 := by omega
            go_wp2
            go_roundw
            case rel => exact ⟨x + 1, by omega, by go_num, by rw [Hs.out], ⟨hM, hV, hT⟩, hbw⟩
            case measure => simp [intOf] <;> omega
          · rw [ht] at cT hd
            have Hs := Lib.hid (Hy.out (by rw [hd]; simp))
            clear hd he hv ht
            generalize nn m q x = ni at *
            have hni16 : (ni : Int) < 16 := by omega
            go_wp2
            go_roundw
            case rel => exact ⟨x + 1, by omega, by go_num, by rw [Hs.out]; go_num, ⟨hM, hV, hT⟩, hbw⟩
            case measure => simp [intOf] <;> omega
      · rw [hv] at cn hd
        have Hs := Lib.hid (Hn.out (by rw [hd]; simp))
        clear hd hv cT
        generalize nn m q x = ni at *
        have hni16 : (ni : Int) < 16 := by omega
        go_wp2
        go_roundw
        case rel => exact ⟨x + 1, by omega, by go_num, by rw [Hs.out], ⟨hM, hV, hT⟩, hbw⟩
        case measure => simp [intOf] <;> omega
    · have hxn : ¬ ((x : Int) < (L : Int)) := by omega
      have hxe : x = L := by omega
      have cL := hM.cell 0
      rw [HcL.out] at cL
      rw [hxe]
      clear hxe
      go_wp2
      go_ret
      refine ⟨ret_bool (decide_eq_decide.2 ?_), hbw⟩
      omega

theorem mx1_no (T : Rl) (r : Nat) (g : Nat → Nat) (t : Nat) (h : bhd T r t = false) : max 1 (mxF (bhd T r) g (t + 1)) = max 1 (mxF (bhd T r) g t) := by rw [mxF, h]; rfl
theorem mx1_yes (T : Rl) (r : Nat) (g : Nat → Nat) (t : Nat) (h : bhd T r t = true) : max 1 (mxF (bhd T r) g (t + 1)) = max (max 1 (mxF (bhd T r) g t)) (g t) := by rw [mxF, if_pos h]; omega
theorem mx1_le (T : Rl) (r K f t : Nat) : max 1 (mxF (bhd T r) (fun t => 1 + mostF K T f t) t) ≤ f + 1 := by
  have : mxF (bhd T r) (fun t => 1 + mostF K T f t) t ≤ f + 1 := mxF_le t fun i _ _ => by have := mostF_le K T f i; omega
  omega
theorem mxC_no (T : Rl) (q : Nat) (g : Nat → Nat) (t : Nat) (h : cyc T q t = false) : mxF (cyc T q) g (t + 1) = mxF (cyc T q) g t := by rw [mxF, h]; rfl
theorem mxC_yes (T : Rl) (q : Nat) (g : Nat → Nat) (t : Nat) (h : cyc T q t = true) : mxF (cyc T q) g (t + 1) = max (mxF (cyc T q) g t) (g t) := by rw [mxF, if_pos h]
theorem mxC_le (T : Rl) (q K f t : Nat) : mxF (cyc T q) (ownF K T (mostF K T f)) t ≤ f + 1 := mxF_le t fun i _ _ => by
  have := mx1_le T i K f K
  unfold ownF; exact this

set_option maxRecDepth 100000 in
set_option maxHeartbeats 4000000 in
theorem l09Most_step (K : Nat) (hK : K ≤ 16) (T : Rl) (ht' : ∀ p c r, T p c = true → T c r = true → T p r = true) (f : Nat) (hf : f + 1 ≤ 16)
    (ih : ∀ t, t < K → rkR K T t ≤ f → ∀ w : World, Calls Try.prog 71 #[.int .i64 (K : Int), .agg (bl (mtx T)), .int .i64 (t : Int)] w fun e w' => e = .returned (.int .i64 ((mostF K T f t : Nat) : Int)) ∧ Below w.heap.size w w')
    (q : Nat) (hq : q < K) (hr : rkR K T q ≤ f + 1) (w : World) :
    Calls Try.prog 71 #[.int .i64 (K : Int), .agg (bl (mtx T)), .int .i64 (q : Int)] w fun e w' => e = .returned (.int .i64 ((mostF K T (f + 1) q : Nat) : Int)) ∧ Below w.heap.size w w' := by
  have IH := Lib.hid ih
  have HT := Lib.hid ht'
  clear ih ht'
  have Hcs : Hid ((bl (mtx T)).size = 256) := Lib.hid (by rw [bl_size, mtx_len])
  have Hcc : Hid (cut (bl (mtx T)) 0 256 = bl (mtx T)) := Lib.hid (cut_all _ _ Hcs.out)
  have hT0 : Blk (w.alloc (.cells (bl (mtx T)) 87)) w.heap.size (bl (mtx T)) 87 := Blk.new _ _ _
  have hbw0 : Below w.heap.size w (w.alloc (.cells (bl (mtx T)) 87)) := by (repeat (first | exact Below.refl _ _ | refine below_drew' ?_ | refine below_drewN' ?_ _ | refine below_alloc' ?_ _ | refine below_set' ?_ (by (try simp); (try omega)) _ | refine below_step ?_ (by assumption)))
  have hq16 : (q : Int) < 16 := by omega
  have Hm : Hid (mostF K T (f + 1) q = mxF (cyc T q) (ownF K T (mostF K T f)) K) := Lib.hid rfl
  have Hm0 : Hid (mxF (cyc T q) (ownF K T (mostF K T f)) 0 = 0) := Lib.hid rfl
  rw [Hm.out]
  go_enter Try.func71, Try.ntmps71
  go_wp2
  go_loopw [7, 8] (fun bv i wr => ∃ r : Nat, r ≤ K ∧ i = .int .i64 r ∧ bv = .int .i64 ((mxF (cyc T q) (ownF K T (mostF K T f)) r : Nat) : Int) ∧ Blk wr w.heap.size (bl (mtx T)) 87 ∧ Below w.heap.size w wr) (fun _ i _ => K - (intOf i).toNat)
  case atStart => exact ⟨0, by omega, rfl, rfl, hT0, hbw0⟩
  case round =>
    clear hT0 hbw0
    obtain ⟨r, hrK, rfl, rfl, hT, hbw⟩ := hrel
    by_cases hlt : r < K
    · have hri : (r : Int) < (K : Int) := by omega
      have hr16 : (r : Int) < 16 := by omega
      have cS1 := hT.cell (r * 16 + r)
      rw [mtx_at T r r (by omega) (by omega)] at cS1
      have cS2 := hT.cell (q * 16 + r)
      rw [mtx_at T q r (by omega) (by omega)] at cS2
      have cS3 := hT.cell (r * 16 + q)
      rw [mtx_at T r q (by omega) (by omega)] at cS3
      have hci := cyc_iff T q r
      have hbd := mxC_le T q K f r
      have Hno := Lib.hid (mxC_no T q (ownF K T (mostF K T f)) r)
      have Hyes := Lib.hid (mxC_yes T q (ownF K T (mostF K T f)) r)
      cases a : T r r
      · rw [a] at cS1
        have Hsr := Lib.hid (Hno.out (by cases h : cyc T q r; rfl; have := (hci.1 h).1; rw [a] at this; cases this))
        clear hci a cS2 cS3
        go_wp2
        go_roundw
        case rel => exact ⟨r + 1, by omega, by go_num, by rw [Hsr.out], hT, hbw⟩
        case measure => simp [intOf] <;> omega
      · rw [a] at cS1
        by_cases e : r = q
        · have heb : ((r : Int) != (q : Int)) = false := by rw [e]; simp
          have hrr : rkR K T r ≤ f + 1 := by rw [e]; exact hr
          have Hsr := Lib.hid (Hyes.out (hci.2 ⟨a, .inl e, fun _ => e⟩))
          clear hci a e hr
          generalize T q r = va at *
          generalize T r q = vb at *
          cases vb
          ·
            go_wp2
            clear cS1 cS2 cS3
            go_loopw [9, 10] (fun o i wr => ∃ t : Nat, t ≤ K ∧ i = .int .i64 t ∧ o = .int .i64 ((max 1 (mxF (bhd T r) (fun t => 1 + mostF K T f t) t) : Nat) : Int) ∧ Blk wr w.heap.size (bl (mtx T)) 87 ∧ Below w.heap.size w wr) (fun _ i _ => K - (intOf i).toNat)
            case atStart => exact ⟨0, by omega, rfl, rfl, hT, hbw⟩
            case round =>
              clear hT hbw
              obtain ⟨t, ht, rfl, rfl, hT, hbw⟩ := hrel
              by_cases htK : t < K
              · have hti : (t : Int) < (K : Int) := by omega
                have ht16 : (t : Int) < 16 := by omega
                have c1 := hT.cell (r * 16 + t)
                rw [mtx_at T r t (by omega) (by omega)] at c1
                have c2 := hT.cell (t * 16 + r)
                rw [mtx_at T t r (by omega) (by omega)] at c2
                have hbi := bhd_iff T r t
                have Hmn := Lib.hid (mx1_no T r (fun t => 1 + mostF K T f t) t)
                have Hmy := Lib.hid (mx1_yes T r (fun t => 1 + mostF K T f t) t)
                have Hbd := Lib.hid (mx1_le T r K f t)
                by_cases he : t = r
                · have heb : ((t : Int) != (r : Int)) = false := by rw [he]; simp
                  have Hs := Lib.hid (Hmn.out (by cases hb : bhd T r t; rfl; exact absurd he (hbi.1 hb).1))
                  clear he hbi c1 c2
                  go_wp2
                  go_roundw
                  case rel => exact ⟨t + 1, by omega, by go_num, by rw [Hs.out], hT, hbw⟩
                  case measure => simp [intOf] <;> omega
                · have heb : ((t : Int) != (r : Int)) = true := by rw [bne_iff_ne]; omega
                  cases h1 : T r t
                  · rw [h1] at c1
                    have Hs := Lib.hid (Hmn.out (by cases hb : bhd T r t; rfl; have := (hbi.1 hb).2.1; rw [h1] at this; cases this))
                    clear he hbi c2 h1
                    go_wp2
                    go_roundw
                    case rel => exact ⟨t + 1, by omega, by go_num, by rw [Hs.out], hT, hbw⟩
                    case measure => simp [intOf] <;> omega
                  · rw [h1] at c1
                    cases h2 : T t r
                    · rw [h2] at c2
                      have Hs := Lib.hid (Hmy.out (hbi.2 ⟨he, h1, h2⟩))
                      have hlt := rkR_less (K := K) HT.out (by omega : r < K) h1 h2
                      have HC := Lib.hid (fun W => IH.out t htK (by omega) W)
                      have hml := mostF_le K T f t
                      have hb0 := Hbd.out
                      clear he hbi h1 h2 hlt
                      generalize max 1 (mxF (bhd T r) (fun t => 1 + mostF K T f t) t) = o at *
                      generalize mostF K T f t = mt at *
                      go_wp2_with (first | (with_reducible show wpList _ _ _ _ _ _; refine wpList_load_blk rfl 87 (.tmp 4) rfl w.heap.size 0 rfl (bl (mtx T)) _ hT 256 (by rw [Hcs.out]; omega) _ Try.underlying87 rfl size_b256 ?_; rw [Hcc.out]) | (go_at_call 71; refine (HC.out _).mono ?_; rintro e w4 ⟨rfl, hb4⟩))
                      go_roundw
                      case rel => exact ⟨t + 1, by omega, by go_num, by rw [Hs.out]; congr 1; omega, hT.keptAll hb4, below_step hbw hb4⟩
                      case measure => simp [intOf] <;> omega
                    · rw [h2] at c2
                      have Hs := Lib.hid (Hmn.out (by cases hb : bhd T r t; rfl; have := (hbi.1 hb).2.2; rw [h2] at this; cases this))
                      clear he hbi h1 h2
                      go_wp2
                      go_roundw
                      case rel => exact ⟨t + 1, by omega, by go_num, by rw [Hs.out], hT, hbw⟩
                      case measure => simp [intOf] <;> omega
              · have htn : ¬ ((t : Int) < (K : Int)) := by omega
                have hte : t = K := by omega
                have Hbd := Lib.hid (mx1_le T r K f t)
                have hb0 := Hbd.out
                have Hown : Hid (ownF K T (mostF K T f) r = max 1 (mxF (bhd T r) (fun t => 1 + mostF K T f t) t)) := Lib.hid (by rw [hte]; rfl)
                clear hte
                rw [Hown.out] at Hsr
                generalize max 1 (mxF (bhd T r) (fun t => 1 + mostF K T f t) t) = o at *
                generalize mxF (cyc T q) (ownF K T (mostF K T f)) r = b at *
                go_wp2
                go_roundw
                case rel => exact ⟨r + 1, by omega, by go_num, by rw [Hsr.out]; congr 1; omega, hT, hbw⟩
                case measure => simp [intOf] <;> omega
          ·
            go_wp2
            clear cS1 cS2 cS3
            go_loopw [9, 10] (fun o i wr => ∃ t : Nat, t ≤ K ∧ i = .int .i64 t ∧ o = .int .i64 ((max 1 (mxF (bhd T r) (fun t => 1 + mostF K T f t) t) : Nat) : Int) ∧ Blk wr w.heap.size (bl (mtx T)) 87 ∧ Below w.heap.size w wr) (fun _ i _ => K - (intOf i).toNat)
            case atStart => exact ⟨0, by omega, rfl, rfl, hT, hbw⟩
            case round =>
              clear hT hbw
              obtain ⟨t, ht, rfl, rfl, hT, hbw⟩ := hrel
              by_cases htK : t < K
              · have hti : (t : Int) < (K : Int) := by omega
                have ht16 : (t : Int) < 16 := by omega
                have c1 := hT.cell (r * 16 + t)
                rw [mtx_at T r t (by omega) (by omega)] at c1
                have c2 := hT.cell (t * 16 + r)
                rw [mtx_at T t r (by omega) (by omega)] at c2
                have hbi := bhd_iff T r t
                have Hmn := Lib.hid (mx1_no T r (fun t => 1 + mostF K T f t) t)
                have Hmy := Lib.hid (mx1_yes T r (fun t => 1 + mostF K T f t) t)
                have Hbd := Lib.hid (mx1_le T r K f t)
                by_cases he : t = r
                · have heb : ((t : Int) != (r : Int)) = false := by rw [he]; simp
                  have Hs := Lib.hid (Hmn.out (by cases hb : bhd T r t; rfl; exact absurd he (hbi.1 hb).1))
                  clear he hbi c1 c2
                  go_wp2
                  go_roundw
                  case rel => exact ⟨t + 1, by omega, by go_num, by rw [Hs.out], hT, hbw⟩
                  case measure => simp [intOf] <;> omega
                · have heb : ((t : Int) != (r : Int)) = true := by rw [bne_iff_ne]; omega
                  cases h1 : T r t
                  · rw [h1] at c1
                    have Hs := Lib.hid (Hmn.out (by cases hb : bhd T r t; rfl; have := (hbi.1 hb).2.1; rw [h1] at this; cases this))
                    clear he hbi c2 h1
                    go_wp2
                    go_roundw
                    case rel => exact ⟨t + 1, by omega, by go_num, by rw [Hs.out], hT, hbw⟩
                    case measure => simp [intOf] <;> omega
                  · rw [h1] at c1
                    cases h2 : T t r
                    · rw [h2] at c2
                      have Hs := Lib.hid (Hmy.out (hbi.2 ⟨he, h1, h2⟩))
                      have hlt := rkR_less (K := K) HT.out (by omega : r < K) h1 h2
                      have HC := Lib.hid (fun W => IH.out t htK (by omega) W)
                      have hml := mostF_le K T f t
                      have hb0 := Hbd.out
                      clear he hbi h1 h2 hlt
                      generalize max 1 (mxF (bhd T r) (fun t => 1 + mostF K T f t) t) = o at *
                      generalize mostF K T f t = mt at *
                      go_wp2_with (first | (with_reducible show wpList _ _ _ _ _ _; refine wpList_load_blk rfl 87 (.tmp 4) rfl w.heap.size 0 rfl (bl (mtx T)) _ hT 256 (by rw [Hcs.out]; omega) _ Try.underlying87 rfl size_b256 ?_; rw [Hcc.out]) | (go_at_call 71; refine (HC.out _).mono ?_; rintro e w4 ⟨rfl, hb4⟩))
                      go_roundw
                      case rel => exact ⟨t + 1, by omega, by go_num, by rw [Hs.out]; congr 1; omega, hT.keptAll hb4, below_step hbw hb4⟩
                      case measure => simp [intOf] <;> omega
                    · rw [h2] at c2
                      have Hs := Lib.hid (Hmn.out (by cases hb : bhd T r t; rfl; have := (hbi.1 hb).2.2; rw [h2] at this; cases this))
                      clear he hbi h1 h2
                      go_wp2
                      go_roundw
                      case rel => exact ⟨t + 1, by omega, by go_num, by rw [Hs.out], hT, hbw⟩
                      case measure => simp [intOf] <;> omega
              · have htn : ¬ ((t : Int) < (K : Int)) := by omega
                have hte : t = K := by omega
                have Hbd := Lib.hid (mx1_le T r K f t)
                have hb0 := Hbd.out
                have Hown : Hid (ownF K T (mostF K T f) r = max 1 (mxF (bhd T r) (fun t => 1 + mostF K T f t) t)) := Lib.hid (by rw [hte]; rfl)
                clear hte
                rw [Hown.out] at Hsr
                generalize max 1 (mxF (bhd T r) (fun t => 1 + mostF K T f t) t) = o at *
                generalize mxF (cyc T q) (ownF K T (mostF K T f)) r = b at *
                go_wp2
                go_roundw
                case rel => exact ⟨r + 1, by omega, by go_num, by rw [Hsr.out]; congr 1; omega, hT, hbw⟩
                case measure => simp [intOf] <;> omega
        · have heb : ((r : Int) != (q : Int)) = true := by rw [bne_iff_ne]; omega
          cases c : T q r
          · rw [c] at cS2
            have Hsr := Lib.hid (Hno.out (by cases h : cyc T q r; rfl; rcases (hci.1 h).2.1 with h1 | h1; exact absurd h1 e; rw [c] at h1; cases h1))
            clear hci a e c cS3
            go_wp2
            go_roundw
            case rel => exact ⟨r + 1, by omega, by go_num, by rw [Hsr.out], hT, hbw⟩
            case measure => simp [intOf] <;> omega
          · rw [c] at cS2
            cases d : T r q
            · rw [d] at cS3
              have hrr : rkR K T r ≤ f + 1 := Nat.le_trans (rkR_mono HT.out (.inr c)) hr
              have Hsr := Lib.hid (Hyes.out (hci.2 ⟨a, .inr c, fun h => by rw [d] at h; cases h⟩))
              clear hci a e c d hr
              go_wp2
              clear cS1 cS2 cS3
              go_loopw [9, 10] (fun o i wr => ∃ t : Nat, t ≤ K ∧ i = .int .i64 t ∧ o = .int .i64 ((max 1 (mxF (bhd T r) (fun t => 1 + mostF K T f t) t) : Nat) : Int) ∧ Blk wr w.heap.size (bl (mtx T)) 87 ∧ Below w.heap.size w wr) (fun _ i _ => K - (intOf i).toNat)
              case atStart => exact ⟨0, by omega, rfl, rfl, hT, hbw⟩
              case round =>
                clear hT hbw
                obtain ⟨t, ht, rfl, rfl, hT, hbw⟩ := hrel
                by_cases htK : t < K
                · have hti : (t : Int) < (K : Int) := by omega
                  have ht16 : (t : Int) < 16 := by omega
                  have c1 := hT.cell (r * 16 + t)
                  rw [mtx_at T r t (by omega) (by omega)] at c1
                  have c2 := hT.cell (t * 16 + r)
                  rw [mtx_at T t r (by omega) (by omega)] at c2
                  have hbi := bhd_iff T r t
                  have Hmn := Lib.hid (mx1_no T r (fun t => 1 + mostF K T f t) t)
                  have Hmy := Lib.hid (mx1_yes T r (fun t => 1 + mostF K T f t) t)
                  have Hbd := Lib.hid (mx1_le T r K f t)
                  by_cases he : t = r
                  · have heb : ((t : Int) != (r : Int)) = false := by rw [he]; simp
                    have Hs := Lib.hid (Hmn.out (by cases hb : bhd T r t; rfl; exact absurd he (hbi.1 hb).1))
                    clear he hbi c1 c2
                    go_wp2
                    go_roundw
                    case rel => exact ⟨t + 1, by omega, by go_num, by rw [Hs.out], hT, hbw⟩
                    case measure => simp [intOf] <;> omega
                  · have heb : ((t : Int) != (r : Int)) = true := by rw [bne_iff_ne]; omega
                    cases h1 : T r t
                    · rw [h1] at c1
                      have Hs := Lib.hid (Hmn.out (by cases hb : bhd T r t; rfl; have := (hbi.1 hb).2.1; rw [h1] at this; cases this))
                      clear he hbi c2 h1
                      go_wp2
                      go_roundw
                      case rel => exact ⟨t + 1, by omega, by go_num, by rw [Hs.out], hT, hbw⟩
                      case measure => simp [intOf] <;> omega
                    · rw [h1] at c1
                      cases h2 : T t r
                      · rw [h2] at c2
                        have Hs := Lib.hid (Hmy.out (hbi.2 ⟨he, h1, h2⟩))
                        have hlt := rkR_less (K := K) HT.out (by omega : r < K) h1 h2
                        have HC := Lib.hid (fun W => IH.out t htK (by omega) W)
                        have hml := mostF_le K T f t
                        have hb0 := Hbd.out
                        clear he hbi h1 h2 hlt
                        generalize max 1 (mxF (bhd T r) (fun t => 1 + mostF K T f t) t) = o at *
                        generalize mostF K T f t = mt at *
                        go_wp2_with (first | (with_reducible show wpList _ _ _ _ _ _; refine wpList_load_blk rfl 87 (.tmp 4) rfl w.heap.size 0 rfl (bl (mtx T)) _ hT 256 (by rw [Hcs.out]; omega) _ Try.underlying87 rfl size_b256 ?_; rw [Hcc.out]) | (go_at_call 71; refine (HC.out _).mono ?_; rintro e w4 ⟨rfl, hb4⟩))
                        go_roundw
                        case rel => exact ⟨t + 1, by omega, by go_num, by rw [Hs.out]; congr 1; omega, hT.keptAll hb4, below_step hbw hb4⟩
                        case measure => simp [intOf] <;> omega
                      · rw [h2] at c2
                        have Hs := Lib.hid (Hmn.out (by cases hb : bhd T r t; rfl; have := (hbi.1 hb).2.2; rw [h2] at this; cases this))
                        clear he hbi h1 h2
                        go_wp2
                        go_roundw
                        case rel => exact ⟨t + 1, by omega, by go_num, by rw [Hs.out], hT, hbw⟩
                        case measure => simp [intOf] <;> omega
                · have htn : ¬ ((t : Int) < (K : Int)) := by omega
                  have hte : t = K := by omega
                  have Hbd := Lib.hid (mx1_le T r K f t)
                  have hb0 := Hbd.out
                  have Hown : Hid (ownF K T (mostF K T f) r = max 1 (mxF (bhd T r) (fun t => 1 + mostF K T f t) t)) := Lib.hid (by rw [hte]; rfl)
                  clear hte
                  rw [Hown.out] at Hsr
                  generalize max 1 (mxF (bhd T r) (fun t => 1 + mostF K T f t) t) = o at *
                  generalize mxF (cyc T q) (ownF K T (mostF K T f)) r = b at *
                  go_wp2
                  go_roundw
                  case rel => exact ⟨r + 1, by omega, by go_num, by rw [Hsr.out]; congr 1; omega, hT, hbw⟩
                  case measure => simp [intOf] <;> omega
            · rw [d] at cS3
              have Hsr := Lib.hid (Hno.out (by cases h : cyc T q r; rfl; exact absurd ((hci.1 h).2.2 d) e))
              clear hci a e c d
              go_wp2
              go_roundw
              case rel => exact ⟨r + 1, by omega, by go_num, by rw [Hsr.out], hT, hbw⟩
              case measure => simp [intOf] <;> omega
    · have hrn : ¬ ((r : Int) < (K : Int)) := by omega
      have hre : r = K := by omega
      rw [hre]
      clear hre
      go_wp2
      go_ret
      exact ⟨rfl, hbw⟩
theorem l09Most_calls (K : Nat) (hK : K ≤ 16) (T : Rl) (ht' : ∀ p c r, T p c = true → T c r = true → T p r = true) (f : Nat) : f ≤ 16 → ∀ q, q < K → rkR K T q ≤ f → ∀ w : World,
    Calls Try.prog 71 #[.int .i64 (K : Int), .agg (bl (mtx T)), .int .i64 (q : Int)] w fun e w' => e = .returned (.int .i64 ((mostF K T f q : Nat) : Int)) ∧ Below w.heap.size w w' := by
  induction f with
  | zero => intro _ q hq hr; have := rkR_pos (K := K) (B := T) hq; omega
  | succ f ih => intro hf q hq hr w; exact l09Most_step K hK T ht' f hf (fun t h1 h2 w => ih (by omega) t h1 h2 w) q hq hr w
end Go.Proofs.Ytdbdoohcpcjfdaa
