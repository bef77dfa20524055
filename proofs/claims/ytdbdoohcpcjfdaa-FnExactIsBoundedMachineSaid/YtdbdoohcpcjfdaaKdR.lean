/- Square tables of truth values in memory; the model's 'l09Reach'. -/
import Derived.Test.YtdbdoohcpcjfdaaKdM
import Derived.Test.YtdbdoohcpcjfdaaTriS
import Derived.BigRegion
namespace Go.Proofs.Ytdbdoohcpcjfdaa
open Go.RowKit

/-- A table of 16 rows. -/
def mtx (T : Rl) : List Bool := (List.range 256).map fun k => T (k / 16) (k % 16)
theorem mtx_len (T : Rl) : (mtx T).length = 256 := by simp [mtx]
theorem mtx_get (T : Rl) (p r : Nat) (_hp : p < 16) (hr : r < 16) : (mtx T).getD (p * 16 + r) false = T p r := by
  unfold mtx
  rw [List.getD, List.getElem?_map, List.getElem?_range (by omega)]
  show T ((p * 16 + r) / 16) ((p * 16 + r) % 16) = T p r
  rw [show (p * 16 + r) / 16 = p by omega, show (p * 16 + r) % 16 = r by omega]
theorem mtx_at (T : Rl) (p r : Nat) (hp : p < 16) (hr : r < 16) : (bl (mtx T))[p * 16 + r]? = some (.bool (T p r)) := by
  rw [bl_at _ _ (by rw [mtx_len]; omega), mtx_get T p r hp hr]
theorem mtx_congr {T T' : Rl} (h : ∀ p r, p < 16 → r < 16 → T p r = T' p r) : mtx T = mtx T' := by
  unfold mtx
  exact List.map_congr_left fun k hk => h _ _ (by have := List.mem_range.1 hk; omega) (by omega)
theorem mtx_set (T : Rl) (p r : Nat) (_hp : p < 16) (hr : r < 16) (v : Bool) : (mtx T).set (p * 16 + r) v = mtx fun p' r' => if p' = p ∧ r' = r then v else T p' r' := by
  apply List.ext_getElem
  · simp [mtx]
  · intro i h1 h2
    have hi : i < 256 := by rw [mtx_len] at h2; exact h2
    simp only [mtx, List.getElem_set, List.getElem_map, List.getElem_range]
    by_cases h : p * 16 + r = i
    · rw [if_pos h, if_pos (by omega)]
    · rw [if_neg h, if_neg (by omega)]
def noT : Rl := fun _ _ => false
theorem info_b256 : (Try.prog.info? 87).map (fun i => (i.zero, i.size)) = some (some (.agg (bl (mtx noT))), 256) := by kernel_rfl
theorem zero_b256 : ∀ w, (zeroValue 87).run Try.prog w = .ok (.agg (bl (mtx noT))) w := (zero_of_info info_b256).1
theorem size_b256 : (Try.prog.info? 87).map (·.size) = some 256 := (zero_of_info info_b256).2

set_option maxRecDepth 100000 in
set_option maxHeartbeats 8000000 in
theorem l09Reach_calls (m : Mach) (L K : Nat) (hg : Good m L K) (l : List Bool) (hll : l.length = 16) (hl : ∀ q, q < K → l.getD q false = trivB m L K q) (w : World) :
    Calls Try.prog 69 #[.agg (mc m), .agg (bl l)] w fun e w' => e = .returned (.agg (bl (mtx (rB m L K)))) ∧ Below w.heap.size w w' := by
  have hok := hg.ok
  have hS16 := hg.S16
  have hL3 := hg.L3
  have hcL := mc_L m
  have hcS := mc_S m
  rw [hg.hL] at hcL
  rw [hg.hS] at hcS
  have HcL := Lib.hid hcL
  have HcS := Lib.hid hcS
  have hz := zero_b256
  have Hzs : Hid ((bl (mtx noT)).size = 256) := Lib.hid (by rw [bl_size, mtx_len])
  have Hzo : Hid (over (bl (mtx noT)) 0 (bl (mtx noT)) = bl (mtx noT)) := Lib.hid (over_all _ _ rfl)
  have HT0 : Hid (mtx noT = mtx (eP m L (okV m L K) 0 0)) := Lib.hid (by rw [eP_start]; rfl)
  have Hinn := Lib.hid (fun b => (eP_inn hg (okV m L K) K 0 (.inr ⟨rfl, rfl⟩) (Nat.zero_le _)).wsh b)
  have Hg := Lib.hid hg
  have Hll := Lib.hid hll
  have Hl := Lib.hid hl
  generalize hokv : okV m L K = ok at *
  have Hok := Lib.hid hokv
  let W0 := (((w.alloc (.cells (mc m) 28)).alloc (.cells (bl l) 46)).alloc (.cells (bl (mtx noT)) 87)).alloc (.cells (bl (mtx noT)) 87)
  have hM1 : Blk W0 w.heap.size (mc m) 28 := (((Blk.new w _ _).alloc _).alloc _).alloc _
  have hV1 : Blk W0 (w.heap.size + 1) (bl l) 46 := ((Blk.new_at _ _ _ _ (by simp)).alloc _).alloc _
  have hR1 : Blk W0 (w.heap.size + 1 + 1) (bl (mtx noT)) 87 := (Blk.new_at _ _ _ _ (by simp)).alloc _
  have hT1 : Blk W0 (w.heap.size + 1 + 1 + 1) (bl (mtx noT)) 87 := Blk.new_at _ _ _ _ (by simp)
  have hbw1 : Below w.heap.size w W0 := by show Below _ _ (World.alloc _ _); (repeat (first | exact Below.refl _ _ | refine below_drew' ?_ | refine below_drewN' ?_ _ | refine below_alloc' ?_ _ | refine below_set' ?_ (by (try simp); (try omega)) _ | refine below_step ?_ (by assumption)))
  clear hg hll hl hokv hcL hcS
  go_enter Try.func69, Try.ntmps69
  go_wp2_with (with_reducible show wpList _ _ _ _ _ _; refine wpList_store_row rfl 87 _ _ rfl (w.heap.size + 1 + 1 + 1) 0 (bl (mtx noT)) rfl rfl _ _ hT1 (by rw [Hzs.out]; omega) (by rw [Hzs.out]; exact size_b256) (bl_one _) _ Hzo.out ?_; intro w2 hs2)
  have hM2 := hs2.keep (by omega) hM1
  have hV2 := hs2.keep (by omega) hV1
  have hR2 := hs2.keep (by omega) hR1
  have hT2 := hs2.blk
  have hbw2 := hs2.below _ _ (by omega) hbw1
  rw [HT0.out] at hT2
  clear hM1 hV1 hR1 hT1 hbw1 hs2
  go_loopw [6] (fun i wr => ∃ q : Nat, q ≤ K ∧ i = .int .i64 q ∧ (Blk wr w.heap.size (mc m) 28 ∧ Blk wr (w.heap.size + 1) (bl l) 46 ∧ Blk wr (w.heap.size + 1 + 1) (bl (mtx noT)) 87 ∧ Blk wr (w.heap.size + 1 + 1 + 1) (bl (mtx (eP m L ok q 0))) 87) ∧ Below w.heap.size w wr) (fun i _ => K - (intOf i).toNat)
  case atStart => exact ⟨0, by omega, rfl, ⟨hM2, hV2, hR2, hT2⟩, hbw2⟩
  case round =>
    clear hM2 hV2 hR2 hT2 hbw2
    obtain ⟨q, hq, rfl, ⟨hM, hV, hR, hT⟩, hbw⟩ := hrel
    have cS := hM.cell 1
    rw [HcS.out] at cS
    by_cases hqK : q < K
    · have hqi : (q : Int) < (K : Int) := by omega
      have hq16 : (q : Int) < 16 := by omega
      go_wp2
      clear cS
      go_loopw [7] (fun i wr => ∃ x : Nat, x ≤ L ∧ i = .int .i64 x ∧ (Blk wr w.heap.size (mc m) 28 ∧ Blk wr (w.heap.size + 1) (bl l) 46 ∧ Blk wr (w.heap.size + 1 + 1) (bl (mtx noT)) 87 ∧ Blk wr (w.heap.size + 1 + 1 + 1) (bl (mtx (eP m L ok q x))) 87) ∧ Below w.heap.size w wr) (fun i _ => L - (intOf i).toNat)
      case atStart => exact ⟨0, by omega, rfl, ⟨hM, hV, hR, hT⟩, hbw⟩
      case round =>
        clear hM hV hR hT hbw
        obtain ⟨x, hx, rfl, ⟨hM, hV, hR, hT⟩, hbw⟩ := hrel
        have e1 := bl_at l q (by rw [Hll.out]; omega)
        rw [Hl.out q hqK] at e1
        have cq := hV.cell q
        rw [e1] at cq
        clear e1
        by_cases hxL : x < L
        · have hxi : (x : Int) < (L : Int) := by omega
          have hx3 : x < 3 := by omega
          have hx3i : (x : Int) < 3 := by omega
          cases hvq : trivB m L K q
          · rw [hvq] at cq
            have cA := hM.cell
            have hcL := HcL.out
            have hn := mc_n hok q x (by omega) hx3
            rw [Hg.out.nn_eq q x hqK hxL] at hn
            have hnl := Hg.out.nn_lt q x hqK hxL
            have e2 := bl_at l (nn m q x) (by rw [Hll.out]; omega)
            rw [Hl.out _ hnl] at e2
            have cn := hV.cell (nn m q x)
            rw [e2] at cn
            clear e2
            cases hvn : trivB m L K (nn m q x)
            · rw [hvn] at cn
              have hkt : ok q (nn m q x) = true := by rw [← Hok.out]; exact (okV_iff m L K _ _).2 ⟨hvq, hvn⟩
              have Hnx := Lib.hid (eP_next m L ok q x)
              rw [hkt] at Hnx
              have Hset := Lib.hid (mtx_set (eP m L ok q x) q (nn m q x) (by omega) (by omega) true)
              have Hsn : Hid ((mtx (eP m L ok q x)).set (q * 16 + nn m q x) true = mtx (eP m L ok q (x + 1))) := Lib.hid (by
                rw [Hset.out, Hnx.out]
                exact mtx_congr fun p r _ _ => by split <;> simp)
              have e3 := mtx_at (eP m L ok q x) q (nn m q x) (by omega) (by omega)
              have cT := hT.cell (q * 16 + nn m q x)
              rw [e3] at cT
              clear e3 Hset Hnx hkt hvq hvn
              generalize eP m L ok q x q (nn m q x) = old at *
              have fT := hT.free
              have hT1 := hT.set (q * 16 + nn m q x) (.bool true)
              rw [← bl_set, Hsn.out] at hT1
              have hM1 := hM.setOther (w.heap.size + 1 + 1 + 1) (q * 16 + nn m q x) (.bool true) (by omega)
              have hV1 := hV.setOther (w.heap.size + 1 + 1 + 1) (q * 16 + nn m q x) (.bool true) (by omega)
              have hR1 := hR.setOther (w.heap.size + 1 + 1 + 1) (q * 16 + nn m q x) (.bool true) (by omega)
              have hbw1 := below_set' (o := q * 16 + nn m q x) hbw (b := w.heap.size + 1 + 1 + 1) (by omega) (.bool true)
              clear hM hV hR hbw
              generalize nn m q x = ni at *
              have hni16 : (ni : Int) < 16 := by omega
              go_wp2
              go_roundw
              case rel => exact ⟨x + 1, by omega, by go_num, ⟨hM1, hV1, hR1, hT1⟩, hbw1⟩
              case measure => simp [intOf] <;> omega
            · rw [hvn] at cn
              have hkt : ok q (nn m q x) = false := by
                rw [← Hok.out]
                cases h : okV m L K q (nn m q x)
                · rfl
                · rw [((okV_iff m L K _ _).1 h).2] at hvn; cases hvn
              have Hsn := Lib.hid (eP_skip m L ok q x hkt)
              clear hkt hvq hvn
              generalize nn m q x = ni at *
              have hni16 : (ni : Int) < 16 := by omega
              go_wp2
              go_roundw
              case rel => exact ⟨x + 1, by omega, by go_num, ⟨hM, hV, hR, by rw [Hsn.out]; exact hT⟩, hbw⟩
              case measure => simp [intOf] <;> omega
          · rw [hvq] at cq
            have cL := hM.cell 0
            rw [HcL.out] at cL
            have hnone : ∀ r, ok q r = false := fun r => by
              rw [← Hok.out]
              cases h : okV m L K q r
              · rfl
              · rw [((okV_iff m L K _ _).1 h).1] at hvq; cases hvq
            have Hsn : Hid (eP m L ok q x = eP m L ok (q + 1) 0) := Lib.hid (by
              rw [eP_none m L ok q hnone]
              have : ∀ k, eP m L ok q k = eP m L ok q 0 := fun k => by
                induction k with
                | zero => rfl
                | succ k ih => rw [eP_skip m L ok q k (hnone _), ih]
              exact this x)
            clear hnone hvq
            go_wp2
            go_roundw
            case rel => exact ⟨q + 1, by omega, by go_num, ⟨hM, hV, hR, by rw [← Hsn.out]; exact hT⟩, hbw⟩
            case measure => simp [intOf] <;> omega
        · have hxn : ¬ ((x : Int) < (L : Int)) := by omega
          have hxe : x = L := by omega
          have cL := hM.cell 0
          rw [HcL.out] at cL
          have Hsn : Hid (eP m L ok q x = eP m L ok (q + 1) 0) := Lib.hid (by rw [hxe]; exact eP_row m L ok q)
          clear hxe
          go_wp2
          go_roundw
          case rel => exact ⟨q + 1, by omega, by go_num, ⟨hM, hV, hR, by rw [← Hsn.out]; exact hT⟩, hbw⟩
          case measure => simp [intOf] <;> omega
    · obtain rfl : q = K := by omega
      have Hfin : Hid (rB m L q = wsh (eP m L ok q 0) q) := Lib.hid (by rw [← Hok.out]; rfl)
      have Hini : Hid (mtx (eP m L ok q 0) = mtx (wsh (eP m L ok q 0) 0)) := Lib.hid rfl
      rw [Hini.out] at hT
      go_wp2
      clear cS
      go_loopw [9] (fun i wr => ∃ b : Nat, b ≤ q ∧ i = .int .i64 b ∧ (Blk wr w.heap.size (mc m) 28 ∧ Blk wr (w.heap.size + 1 + 1) (bl (mtx noT)) 87 ∧ Blk wr (w.heap.size + 1 + 1 + 1) (bl (mtx (wsh (eP m L ok q 0) b))) 87) ∧ Below w.heap.size w wr) (fun i _ => q - (intOf i).toNat)
      case atStart => exact ⟨0, by omega, rfl, ⟨hM, hR, hT⟩, hbw⟩
      case round =>
        clear hM hV hR hT hbw
        obtain ⟨b, hb, rfl, ⟨hM, hR, hT⟩, hbw⟩ := hrel
        have cS := hM.cell 1
        rw [HcS.out] at cS
        by_cases hbK : b < q
        · have hbi : (b : Int) < (q : Int) := by omega
          have hb16 : (b : Int) < 16 := by omega
          have Hst : Hid (mtx (wsh (eP m L ok q 0) b) = mtx (wsM (wsh (eP m L ok q 0) b) b 0 0)) := Lib.hid (by rw [wsM_start])
          have Hend : Hid (mtx (wsM (wsh (eP m L ok q 0) b) b q 0) = mtx (wsh (eP m L ok q 0) (b + 1))) := Lib.hid (by rw [wsM_end (Hinn.out b)]; rfl)
          have Hrow := Lib.hid (fun i => wsM_rowEnd (Hinn.out b) b i)
          rw [Hst.out] at hT
          clear Hst
          generalize wsh (eP m L ok q 0) b = T0 at *
          go_wp2
          clear cS
          go_loopw [10] (fun i wr => ∃ p : Nat, p ≤ q ∧ i = .int .i64 p ∧ (Blk wr w.heap.size (mc m) 28 ∧ Blk wr (w.heap.size + 1 + 1) (bl (mtx noT)) 87 ∧ Blk wr (w.heap.size + 1 + 1 + 1) (bl (mtx (wsM T0 b p 0))) 87) ∧ Below w.heap.size w wr) (fun i _ => q - (intOf i).toNat)
          case atStart => exact ⟨0, by omega, rfl, ⟨hM, hR, hT⟩, hbw⟩
          case round =>
            clear hM hR hT hbw
            obtain ⟨p, hp, rfl, ⟨hM, hR, hT⟩, hbw⟩ := hrel
            have cS := hM.cell 1
            rw [HcS.out] at cS
            by_cases hpK : p < q
            · have hpi : (p : Int) < (q : Int) := by omega
              have hp16 : (p : Int) < 16 := by omega
              go_wp2
              clear cS
              go_loopw [11] (fun i wr => ∃ j : Nat, j ≤ q ∧ i = .int .i64 j ∧ (Blk wr w.heap.size (mc m) 28 ∧ Blk wr (w.heap.size + 1 + 1) (bl (mtx noT)) 87 ∧ Blk wr (w.heap.size + 1 + 1 + 1) (bl (mtx (wsM T0 b p j))) 87) ∧ Below w.heap.size w wr) (fun i _ => q - (intOf i).toNat)
              case atStart => exact ⟨0, by omega, rfl, ⟨hM, hR, hT⟩, hbw⟩
              case round =>
                clear hM hR hT hbw
                obtain ⟨j, hj, rfl, ⟨hM, hR, hT⟩, hbw⟩ := hrel
                have cS := hM.cell 1
                rw [HcS.out] at cS
                by_cases hjK : j < q
                · have hji : (j : Int) < (q : Int) := by omega
                  have hj16 : (j : Int) < 16 := by omega
                  have c1 := hT.cell (p * 16 + j)
                  rw [mtx_at (wsM T0 b p j) p j (by omega) (by omega)] at c1
                  have c2 := hT.cell (p * 16 + b)
                  rw [mtx_at (wsM T0 b p j) p b (by omega) (by omega)] at c2
                  have c3 := hT.cell (b * 16 + j)
                  rw [mtx_at (wsM T0 b p j) b j (by omega) (by omega)] at c3
                  have Hval := Lib.hid (wsM_val T0 b p j)
                  have Hset := Lib.hid (fun v (hv : v = wsR T0 b p j) => show (mtx (wsM T0 b p j)).set (p * 16 + j) v = mtx (wsM T0 b p (j + 1)) from by rw [mtx_set _ _ _ (by omega) (by omega), wsM_next, hv])
                  generalize wsM T0 b p j = D at *
                  have fT := hT.free
                  have hT2 := fun v => hT.set (p * 16 + j) (.bool v)
                  have HT2 := Lib.hid hT2
                  have HM2 := Lib.hid (fun v => hM.setOther (w.heap.size + 1 + 1 + 1) (p * 16 + j) (.bool v) (by omega))
                  have HR2 := Lib.hid (fun v => hR.setOther (w.heap.size + 1 + 1 + 1) (p * 16 + j) (.bool v) (by omega))
                  have HB2 := Lib.hid (fun v => below_set' (o := p * 16 + j) hbw (b := w.heap.size + 1 + 1 + 1) (by omega) (.bool v))
                  clear hT2 hM hR hT hbw
                  obtain ⟨w4, rfl⟩ : ∃ x, x = wr := ⟨_, rfl⟩
                  generalize D p j = va at *
                  generalize D p b = vb at *
                  generalize D b j = vc at *
                  cases va
                  · cases vb
                    · have Hs := Lib.hid (Hset.out false (by simpa using Hval.out))
                      clear Hset Hval c3
                      go_wp2
                      go_region
                      all_goals
                        go_wp2
                        go_roundw
                        case rel => exact ⟨j + 1, by omega, by go_num, ⟨(HM2.out false).drew, (HR2.out false).drew, (by have := (HT2.out false).drew; rw [← bl_set, Hs.out] at this; exact this)⟩, (HB2.out false).drew⟩
                        case measure => simp [intOf] <;> omega
                    · have Hs := Lib.hid (Hset.out vc (by simpa using Hval.out))
                      clear Hset Hval
                      go_wp2
                      go_region
                      all_goals
                        go_wp2
                        go_roundw
                        case rel => exact ⟨j + 1, by omega, by go_num, ⟨(HM2.out vc).drew, (HR2.out vc).drew, (by have := (HT2.out vc).drew; rw [← bl_set, Hs.out] at this; exact this)⟩, (HB2.out vc).drew⟩
                        case measure => simp [intOf] <;> omega
                  · have Hs := Lib.hid (Hset.out true (by simpa using Hval.out))
                    clear Hset Hval c2 c3
                    go_wp2
                    go_region
                    all_goals
                      go_wp2
                      go_roundw
                      case rel => exact ⟨j + 1, by omega, by go_num, ⟨(HM2.out true).drew, (HR2.out true).drew, (by have := (HT2.out true).drew; rw [← bl_set, Hs.out] at this; exact this)⟩, (HB2.out true).drew⟩
                      case measure => simp [intOf] <;> omega
                · have hjn : ¬ ((j : Int) < (q : Int)) := by omega
                  have hje : j = q := by omega
                  have Hs : Hid (wsM T0 b p j = wsM T0 b (p + 1) 0) := Lib.hid (by rw [hje]; exact Hrow.out p)
                  clear hje
                  go_wp2
                  go_roundw
                  case rel => exact ⟨p + 1, by omega, by go_num, ⟨hM, hR, by rw [← Hs.out]; exact hT⟩, hbw⟩
                  case measure => simp [intOf] <;> omega
            · have hpn : ¬ ((p : Int) < (q : Int)) := by omega
              have hpe : p = q := by omega
              rw [hpe, Hend.out] at hT
              clear hpe
              go_wp2
              go_roundw
              case rel => exact ⟨b + 1, by omega, by go_num, ⟨hM, hR, hT⟩, hbw⟩
              case measure => simp [intOf] <;> omega
        · have hbn : ¬ ((b : Int) < (q : Int)) := by omega
          have hbe : b = q := by omega
          rw [hbe, ← Hfin.out] at hT
          clear hbe
          have Hcs : Hid ((bl (mtx (rB m L q))).size = 256) := Lib.hid (by rw [bl_size, mtx_len])
          have Hcc : Hid (cut (bl (mtx (rB m L q))) 0 256 = bl (mtx (rB m L q))) := Lib.hid (cut_all _ _ Hcs.out)
          have Hov : Hid (over (bl (mtx noT)) 0 (bl (mtx (rB m L q))) = bl (mtx (rB m L q))) := Lib.hid (over_all _ _ (by rw [Hcs.out, Hzs.out]))
          go_wp2_with (first | (with_reducible show wpList _ _ _ _ _ _; refine wpList_load_blk rfl 87 (.tmp 5) rfl (w.heap.size + 1 + 1 + 1) 0 rfl (bl (mtx (rB m L q))) _ hT 256 (by rw [Hcs.out]; omega) _ Try.underlying87 rfl size_b256 ?_; rw [Hcc.out]) | (with_reducible show wpList _ _ _ _ _ _; refine wpList_store_row rfl 87 (.tmp 4) (.tmp 86) rfl (w.heap.size + 1 + 1) 0 (bl (mtx (rB m L q))) rfl rfl _ _ hR (by rw [Hzs.out, Hcs.out]; omega) (by rw [Hcs.out]; exact size_b256) (bl_one _) _ Hov.out ?_; intro w8 hs8))
          exact bodyPost_cell rfl rfl hs8.blk Try.underlying87 rfl (by rw [Hcs.out]; exact size_b256) rfl ⟨rfl, hs8.below _ _ (by omega) hbw⟩
end Go.Proofs.Ytdbdoohcpcjfdaa
