/- The model's 'l09Kind'. -/
import Derived.Test.YtdbdoohcpcjfdaaKdT
namespace Go.Proofs.Ytdbdoohcpcjfdaa
open Go.RowKit

/-- The two numbers that a kind is told by. -/
def kN0 (n : Nat) : Int := if n = 0 then 0 else if n = kE then 2 else 1
def kN1 (n : Nat) : Int := if n = 0 ∨ n = kE then 0 else (n : Int) - 1
def kdN (M : Mach) (L S q : Nat) : Nat := tkK (cntT M L S S) (rB (mnAll M L S S) L (cntT M L S S)) (dbV (mnAll M L S S) L (cntT M L S S) (rB (mnAll M L S S) L (cntT M L S S))) (numT M L S q)
def xP (B : Rl) (db : Nat → Nat) (q k : Nat) : Bool := (List.range k).any fun r => (decide (r = q) || B q r) && (B r r && decide (1 < db r))
theorem xP_succ (B : Rl) (db : Nat → Nat) (q k : Nat) : xP B db q (k + 1) = (xP B db q k || ((decide (k = q) || B q k) && (B k k && decide (1 < db k)))) := by simp [xP, List.range_succ]
theorem xP_up (K : Nat) (B : Rl) (db : Nat → Nat) (q k : Nat) (hk : k ≤ K) (h : xP B db q k = true) : xB K B db q = true := by
  unfold xP at h; unfold xB
  rw [List.any_eq_true] at *
  obtain ⟨r, hr, e⟩ := h
  exact ⟨r, List.mem_range.2 (by have := List.mem_range.1 hr; omega), e⟩
theorem ret_ii2 {a b c d : Int} (h : a = b) (h' : c = d) : Ending.returned (.tuple #[.int .i64 a, .int .i64 c]) = Ending.returned (.tuple #[.int .i64 b, .int .i64 d]) := by rw [h, h']

set_option maxRecDepth 100000 in
set_option maxHeartbeats 4000000 in
theorem l09Kind_calls (M : Mach) (L S : Nat) (hg : Good M L S) (q : Nat) (hq : q < S) (w : World) :
    Calls Try.prog 50 #[.agg (mc M), .int .i64 (q : Int)] w fun e w' => e = .returned (.tuple #[.int .i64 (kN0 (kdN M L S q)), .int .i64 (kN1 (kdN M L S q))]) ∧ Below w.heap.size w w' := by
  have hok := hg.ok
  have hS16 := hg.S16
  have hzm := zero_mach
  have hzb := zero_b16
  have hzt := zero_b256
  have hsg := sm_good hg
  have hK16 := hsg.S16
  have hcS := mc_S (mnAll M L S S)
  rw [hsg.hS] at hcS
  have HcS := Lib.hid hcS
  have Hms := Lib.hid (mc_size hsg.ok)
  have Hzs : Hid ((mc zeroM).size = 98) := Lib.hid (mc_size zeroM_ok)
  have Hzb : Hid ((bl nob).size = 16) := Lib.hid (by rw [bl_size]; rfl)
  have Hzt : Hid ((bl (mtx noT)).size = 256) := Lib.hid (by rw [bl_size, mtx_len])
  have Hmc : Hid (cut (mc (mnAll M L S S)) 0 98 = mc (mnAll M L S S)) := Lib.hid (cut_all _ _ Hms.out)
  have Hmo : Hid (over (mc zeroM) 0 (mc (mnAll M L S S)) = mc (mnAll M L S S)) := Lib.hid (over_all _ _ (by rw [Hms.out, Hzs.out]))
  have hnq := numT_lt M L S q S hq
  have HRd := Lib.hid (fun W => l09Reduced_calls M L S hg q hq W)
  have HRc := Lib.hid (fun l hll hl W => l09Reach_calls (mnAll M L S S) L (cntT M L S S) hsg l hll hl W)
  have HDb := Lib.hid (fun l hll hl r hr W => l09Double_calls (mnAll M L S S) L (cntT M L S S) hsg l hll hl (rB (mnAll M L S S) L (cntT M L S S)) r hr W)
  have HMo := Lib.hid (fun W => l09Most_calls (cntT M L S S) hK16 (rB (mnAll M L S S) L (cntT M L S S)) (rB_trans hsg) (cntT M L S S) hK16 (numT M L S q) hnq (rkR_le _ _ _) W)
  have hkd : kdN M L S q = tkK (cntT M L S S) (rB (mnAll M L S S) L (cntT M L S S)) (dbV (mnAll M L S S) L (cntT M L S S) (rB (mnAll M L S S) L (cntT M L S S))) (numT M L S q) := rfl
  generalize kdN M L S q = kd at *
  have Hkd := Lib.hid hkd
  clear hsg hcS hg hkd
  generalize rB (mnAll M L S S) L (cntT M L S S) = T at *
  generalize hdb : dbV (mnAll M L S S) L (cntT M L S S) T = db at *
  clear hdb
  generalize hsm : mnAll M L S S = sm at *
  clear hsm
  generalize numT M L S q = qn at *
  generalize cntT M L S S = K at *
  have hqn16 : (qn : Int) < 16 := by omega
  have Hts : Hid ((bl (mtx T)).size = 256) := Lib.hid (by rw [bl_size, mtx_len])
  have Htc : Hid (cut (bl (mtx T)) 0 256 = bl (mtx T)) := Lib.hid (cut_all _ _ Hts.out)
  have Hto : Hid (over (bl (mtx noT)) 0 (bl (mtx T)) = bl (mtx T)) := Lib.hid (over_all _ _ (by rw [Hts.out, Hzt.out]))
  have F1 : Hid (cut (mc M) 0 98 = mc M) := Lib.hid (cut_all _ _ (mc_size hok)); have F2 : Hid (0 + 98 ≤ (mc M).size) := Lib.hid (by rw [mc_size hok]; omega)
  have hB : Blk (w.alloc (.cells (mc M) 28)) w.heap.size (mc M) 28 := Blk.new w _ _
  have hbw0 : Below w.heap.size w (w.alloc (.cells (mc M) 28)) := by (repeat (first | exact Below.refl _ _ | refine below_drew' ?_ | refine below_drewN' ?_ _ | refine below_alloc' ?_ _ | refine below_set' ?_ (by (try simp); (try omega)) _ | refine below_step ?_ (by assumption)))
  go_enter Try.func50, Try.ntmps50
  go_wp2_with (first | (with_reducible show wpList _ _ _ _ _ _; refine wpList_load_blk rfl 28 (.tmp 2) rfl w.heap.size 0 rfl (mc M) _ (hB) 98 F2.out _ Try.underlying28 rfl size_mach ?_; rw [F1.out]) | (go_at_call 68; refine (HRd.out _).mono ?_; rintro e w2 ⟨⟨l, rfl, hll, hl⟩, hb2⟩; have Hls : Hid ((bl l).size = 16) := Lib.hid (by rw [bl_size, hll]); have Hlc : Hid (cut (bl l) 0 16 = bl l) := Lib.hid (cut_all _ _ Hls.out); have Hlo : Hid (over (bl nob) 0 (bl l) = bl l) := Lib.hid (over_all _ _ (by rw [Hls.out, Hzb.out])); have HLl := Lib.hid hll; have HL := Lib.hid hl; have hX2 : Blk ((w2.alloc (.cells (mc zeroM) 28)).alloc (.cells (bl nob) 46)) w2.heap.size (mc zeroM) 28 := (Blk.new _ _ _).alloc _; have hV2 : Blk ((w2.alloc (.cells (mc zeroM) 28)).alloc (.cells (bl nob) 46)) (w2.heap.size + 1) (bl nob) 46 := Blk.new_at _ _ _ _ (by simp); have hs2 := (below_step hbw0 hb2).size; have hbw2 := below_alloc' (below_alloc' (below_step hbw0 hb2) (.cells (mc zeroM) 28)) (.cells (bl nob) 46); clear hll hl) | (with_reducible show wpList _ _ _ _ _ _; refine wpList_store_row rfl 28 _ _ rfl w2.heap.size 0 (mc sm) rfl rfl _ _ hX2 (by rw [Hms.out, Hzs.out]; omega) (by rw [Hms.out]; exact size_mach) (mc_one _) _ Hmo.out ?_; intro w3 hs3; have hX3 := hs3.blk; have hV3 := hs3.keep (by omega) hV2; have hbw3 := hs3.below _ _ (by omega) hbw2) | (with_reducible show wpList _ _ _ _ _ _; refine wpList_store_row rfl 46 _ _ rfl (w2.heap.size + 1) 0 (bl l) rfl rfl _ _ hV3 (by rw [Hls.out, Hzb.out]; omega) (by rw [Hls.out]; exact size_b16) (bl_one _) _ Hlo.out ?_; intro w4 hs4; have hX4 := hs4.keep (by omega) hX3; have hV4 := hs4.blk; have hbw4 := hs4.below _ _ (by omega) hbw3) | (with_reducible show wpList _ _ _ _ _ _; refine wpList_load_blk rfl 28 (.tmp 6) rfl w2.heap.size 0 rfl (mc sm) _ hX4 98 (by rw [Hms.out]; omega) _ Try.underlying28 rfl size_mach ?_; rw [Hmc.out]) | (with_reducible show wpList _ _ _ _ _ _; refine wpList_load_blk rfl 46 (.tmp 8) rfl (w2.heap.size + 1) 0 rfl (bl l) _ hV4 16 (by rw [Hls.out]; omega) _ Try.underlying46 rfl size_b16 ?_; rw [Hlc.out]) | (go_at_call 69; refine (HRc.out l HLl.out HL.out _).mono ?_; rintro e w5 ⟨rfl, hb5⟩; have hX5 := (hX4.keptAll hb5).alloc (.cells (bl (mtx noT)) 87); have hV5 := (hV4.keptAll hb5).alloc (.cells (bl (mtx noT)) 87); have hT5 : Blk (w5.alloc (.cells (bl (mtx noT)) 87)) w5.heap.size (bl (mtx noT)) 87 := Blk.new _ _ _; have hVl := (hV4.keptAll hb5).lt; have hbw5 := below_alloc' (below_step hbw4 hb5) (.cells (bl (mtx noT)) 87)) | (with_reducible show wpList _ _ _ _ _ _; refine wpList_store_row rfl 87 _ _ rfl w5.heap.size 0 (bl (mtx T)) rfl rfl _ _ hT5 (by rw [Hts.out, Hzt.out]; omega) (by rw [Hts.out]; exact size_b256) (bl_one _) _ Hto.out ?_; intro w6 hs6; have hX6 := hs6.keep (by omega) hX5; have hV6 := hs6.keep (by omega) hV5; have hT6 := hs6.blk; have hbw6 := hs6.below _ _ (by omega) hbw5))
  clear hB hbw0 hb2 hX2 hV2 hbw2 hs3 hX3 hV3 hbw3 hs4 hX4 hV4 hbw4 hb5 hX5 hV5 hT5 hbw5 hs6 hzm hzb hzt
  generalize w2.heap.size = gX at *
  generalize w5.heap.size = gT at *
  go_loopw [10] (fun i wr => ∃ r : Nat, r ≤ K ∧ i = .int .i64 r ∧ Hid (xP T db qn r = false) ∧ (Blk wr gX (mc sm) 28 ∧ Blk wr (gX + 1) (bl l) 46 ∧ Blk wr gT (bl (mtx T)) 87) ∧ Below w.heap.size w wr) (fun i _ => K - (intOf i).toNat)
  case atStart => exact ⟨0, by omega, rfl, Lib.hid rfl, ⟨hX6, hV6, hT6⟩, hbw6⟩
  case round =>
    clear hX6 hV6 hT6 hbw6
    obtain ⟨r, hr, rfl, HX, ⟨hX, hV, hT⟩, hbw⟩ := hrel
    have cS := hX.cell 1
    rw [HcS.out] at cS
    by_cases hrK : r < K
    · have hri : (r : Int) < (K : Int) := by omega
      have hr16 : (r : Int) < 16 := by omega
      have c1 := hT.cell (qn * 16 + r)
      rw [mtx_at T qn r (by omega) (by omega)] at c1
      have c2 := hT.cell (r * 16 + r)
      rw [mtx_at T r r (by omega) (by omega)] at c2
      have hxs := xP_succ T db qn r
      rw [HX.out, Bool.false_or] at hxs
      have Hup := Lib.hid (xP_up K T db qn (r + 1) (by omega))
      have HD := Lib.hid (fun W => HDb.out l HLl.out HL.out r hrK W)
      cases c : T r r
      · rw [c] at c2
        have Hn : Hid (xP T db qn (r + 1) = false) := Lib.hid (by rw [hxs, c]; simp)
        clear hxs c
        by_cases ea : r = qn
        · have heb : ((r : Int) == (qn : Int)) = true := by rw [ea]; simp
          clear ea c1
          go_wp2
          go_roundw
          case rel => exact ⟨r + 1, by omega, by go_num, Hn, ⟨hX, hV, hT⟩, hbw⟩
          case measure => simp [intOf] <;> omega
        · have heb : ((r : Int) == (qn : Int)) = false := by rw [beq_eq_false_iff_ne]; omega
          clear ea
          cases b : T qn r
          · rw [b] at c1
            clear b c2
            go_wp2
            go_roundw
            case rel => exact ⟨r + 1, by omega, by go_num, Hn, ⟨hX, hV, hT⟩, hbw⟩
            case measure => simp [intOf] <;> omega
          · rw [b] at c1
            clear b
            go_wp2
            go_roundw
            case rel => exact ⟨r + 1, by omega, by go_num, Hn, ⟨hX, hV, hT⟩, hbw⟩
            case measure => simp [intOf] <;> omega
      · rw [c] at c2
        by_cases ea : r = qn
        · have heb : ((r : Int) == (qn : Int)) = true := by rw [ea]; simp
          rw [c, decide_eq_true ea] at hxs
          clear ea c1 c
          cases d : decide (1 < db r)
          · have Hn : Hid (xP T db qn (r + 1) = false) := Lib.hid (by rw [hxs, d]; simp)
            rw [d] at HD
            clear hxs d
            go_wp2_with (first | (with_reducible show wpList _ _ _ _ _ _; refine wpList_load_blk_g rfl 28 (.tmp 6) rfl gX 0 rfl (mc sm) _ hX 98 (by rw [Hms.out]; omega) _ Try.underlying28 rfl size_mach ?_; rw [Hmc.out]) | (with_reducible show wpList _ _ _ _ _ _; refine wpList_load_blk_g rfl 46 (.tmp 8) rfl (gX + 1) 0 rfl (bl l) _ hV 16 (by rw [Hls.out]; omega) _ Try.underlying46 rfl size_b16 ?_; rw [Hlc.out]) | (with_reducible show wpList _ _ _ _ _ _; refine wpList_load_blk_g rfl 87 (.tmp 9) rfl gT 0 rfl (bl (mtx T)) _ hT 256 (by rw [Hts.out]; omega) _ Try.underlying87 rfl size_b256 ?_; rw [Htc.out]) | (go_at_call 70; refine (HD.out _).mono ?_; rintro e w7 ⟨rfl, hb7⟩))
            go_roundw
            case rel => exact ⟨r + 1, by omega, by go_num, Hn, ⟨hX.keptAll hb7, hV.keptAll hb7, hT.keptAll hb7⟩, below_step hbw hb7⟩
            case measure => simp [intOf] <;> omega
          · have Hk : Hid (kd = kE) := Lib.hid (by rw [Hkd.out]; unfold tkK; rw [Hup.out (by rw [hxs, d]; simp)]; rfl)
            have Hc0 : Hid (kN0 kd = 2) := Lib.hid (by rw [Hk.out]; rfl)
            have Hc1 : Hid (kN1 kd = 0) := Lib.hid (by rw [Hk.out]; rfl)
            rw [d] at HD
            clear hxs d
            go_wp2_with (first | (with_reducible show wpList _ _ _ _ _ _; refine wpList_load_blk_g rfl 28 (.tmp 6) rfl gX 0 rfl (mc sm) _ hX 98 (by rw [Hms.out]; omega) _ Try.underlying28 rfl size_mach ?_; rw [Hmc.out]) | (with_reducible show wpList _ _ _ _ _ _; refine wpList_load_blk_g rfl 46 (.tmp 8) rfl (gX + 1) 0 rfl (bl l) _ hV 16 (by rw [Hls.out]; omega) _ Try.underlying46 rfl size_b16 ?_; rw [Hlc.out]) | (with_reducible show wpList _ _ _ _ _ _; refine wpList_load_blk_g rfl 87 (.tmp 9) rfl gT 0 rfl (bl (mtx T)) _ hT 256 (by rw [Hts.out]; omega) _ Try.underlying87 rfl size_b256 ?_; rw [Htc.out]) | (go_at_call 70; refine (HD.out _).mono ?_; rintro e w7 ⟨rfl, hb7⟩))
            go_ret2
            exact ⟨ret_ii2 Hc0.out.symm Hc1.out.symm, below_step hbw hb7⟩
        · have heb : ((r : Int) == (qn : Int)) = false := by rw [beq_eq_false_iff_ne]; omega
          cases b : T qn r
          · rw [b] at c1
            have Hn : Hid (xP T db qn (r + 1) = false) := Lib.hid (by rw [hxs, b, decide_eq_false ea]; simp)
            clear b c2 ea hxs c
            go_wp2
            go_roundw
            case rel => exact ⟨r + 1, by omega, by go_num, Hn, ⟨hX, hV, hT⟩, hbw⟩
            case measure => simp [intOf] <;> omega
          · rw [b] at c1
            rw [c, b] at hxs
            clear b ea c
            cases d : decide (1 < db r)
            · have Hn : Hid (xP T db qn (r + 1) = false) := Lib.hid (by rw [hxs, d]; simp)
              rw [d] at HD
              clear hxs d
              go_wp2_with (first | (with_reducible show wpList _ _ _ _ _ _; refine wpList_load_blk_g rfl 28 (.tmp 6) rfl gX 0 rfl (mc sm) _ hX 98 (by rw [Hms.out]; omega) _ Try.underlying28 rfl size_mach ?_; rw [Hmc.out]) | (with_reducible show wpList _ _ _ _ _ _; refine wpList_load_blk_g rfl 46 (.tmp 8) rfl (gX + 1) 0 rfl (bl l) _ hV 16 (by rw [Hls.out]; omega) _ Try.underlying46 rfl size_b16 ?_; rw [Hlc.out]) | (with_reducible show wpList _ _ _ _ _ _; refine wpList_load_blk_g rfl 87 (.tmp 9) rfl gT 0 rfl (bl (mtx T)) _ hT 256 (by rw [Hts.out]; omega) _ Try.underlying87 rfl size_b256 ?_; rw [Htc.out]) | (go_at_call 70; refine (HD.out _).mono ?_; rintro e w7 ⟨rfl, hb7⟩))
              go_roundw
              case rel => exact ⟨r + 1, by omega, by go_num, Hn, ⟨hX.keptAll hb7, hV.keptAll hb7, hT.keptAll hb7⟩, below_step hbw hb7⟩
              case measure => simp [intOf] <;> omega
            · have Hk : Hid (kd = kE) := Lib.hid (by rw [Hkd.out]; unfold tkK; rw [Hup.out (by rw [hxs, d]; simp)]; rfl)
              have Hc0 : Hid (kN0 kd = 2) := Lib.hid (by rw [Hk.out]; rfl)
              have Hc1 : Hid (kN1 kd = 0) := Lib.hid (by rw [Hk.out]; rfl)
              rw [d] at HD
              clear hxs d
              go_wp2_with (first | (with_reducible show wpList _ _ _ _ _ _; refine wpList_load_blk_g rfl 28 (.tmp 6) rfl gX 0 rfl (mc sm) _ hX 98 (by rw [Hms.out]; omega) _ Try.underlying28 rfl size_mach ?_; rw [Hmc.out]) | (with_reducible show wpList _ _ _ _ _ _; refine wpList_load_blk_g rfl 46 (.tmp 8) rfl (gX + 1) 0 rfl (bl l) _ hV 16 (by rw [Hls.out]; omega) _ Try.underlying46 rfl size_b16 ?_; rw [Hlc.out]) | (with_reducible show wpList _ _ _ _ _ _; refine wpList_load_blk_g rfl 87 (.tmp 9) rfl gT 0 rfl (bl (mtx T)) _ hT 256 (by rw [Hts.out]; omega) _ Try.underlying87 rfl size_b256 ?_; rw [Htc.out]) | (go_at_call 70; refine (HD.out _).mono ?_; rintro e w7 ⟨rfl, hb7⟩))
              go_ret2
              exact ⟨ret_ii2 Hc0.out.symm Hc1.out.symm, below_step hbw hb7⟩
    · have hrn : ¬ ((r : Int) < (K : Int)) := by omega
      have hre : r = K := by omega
      have hxf : xB K T db qn = false := by have := HX.out; rw [hre] at this; exact this
      have Hk : Hid (kd = mostF K T K qn) := Lib.hid (by rw [Hkd.out]; unfold tkK; rw [hxf]; rfl)
      have hml := mostF_le K T K qn
      clear hre hxf
      generalize mostF K T K qn = mo at *
      by_cases h0 : mo = 0
      · have Hc0 : Hid (kN0 kd = 0) := Lib.hid (by rw [Hk.out]; unfold kN0; rw [if_pos h0])
        have Hc1 : Hid (kN1 kd = 0) := Lib.hid (by rw [Hk.out]; unfold kN1; rw [if_pos (.inl h0)])
        have hb0 : ((mo : Int) == 0) = true := by rw [h0]; rfl
        clear h0
        go_wp2_with (first | (with_reducible show wpList _ _ _ _ _ _; refine wpList_load_blk rfl 87 (.tmp 9) rfl gT 0 rfl (bl (mtx T)) _ hT 256 (by rw [Hts.out]; omega) _ Try.underlying87 rfl size_b256 ?_; rw [Htc.out]) | (go_at_call 71; refine (HMo.out _).mono ?_; rintro e w7 ⟨rfl, hb7⟩))
        go_ret2
        exact ⟨ret_ii2 Hc0.out.symm Hc1.out.symm, below_step hbw hb7⟩
      · have hne : mo ≠ kE := by unfold kE; omega
        have Hc0 : Hid (kN0 kd = 1) := Lib.hid (by rw [Hk.out]; unfold kN0; rw [if_neg h0, if_neg hne])
        have Hc1 : Hid (kN1 kd = (mo : Int) - 1) := Lib.hid (by rw [Hk.out]; unfold kN1; rw [if_neg (by omega)])
        have hb0 : ((mo : Int) == 0) = false := by rw [beq_eq_false_iff_ne]; omega
        have hmp : (1 : Int) ≤ (mo : Int) ∧ (mo : Int) ≤ 16 := by omega
        clear h0 hne
        go_wp2_with (first | (with_reducible show wpList _ _ _ _ _ _; refine wpList_load_blk rfl 87 (.tmp 9) rfl gT 0 rfl (bl (mtx T)) _ hT 256 (by rw [Hts.out]; omega) _ Try.underlying87 rfl size_b256 ?_; rw [Htc.out]) | (go_at_call 71; refine (HMo.out _).mono ?_; rintro e w7 ⟨rfl, hb7⟩))
        go_ret2
        exact ⟨ret_ii2 Hc0.out.symm Hc1.out.symm, below_step hbw hb7⟩
end Go.Proofs.Ytdbdoohcpcjfdaa
