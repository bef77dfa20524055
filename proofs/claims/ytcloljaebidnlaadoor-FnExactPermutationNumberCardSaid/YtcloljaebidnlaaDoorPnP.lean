/- 'PermutationNumber': the model, whole. -/
import Derived.Test.YtcloljaebidnlaaDoorPnR
namespace Go.Proofs.YtcloljaebidnlaaDoor
open Go.RowKit

theorem info_m3 : (Tryd.prog.info? 36).map (fun i => (i.zero, i.size)) = some (some (.agg (bls [false, false, false])), 3) := by kernel_rfl
def z3 : List Int := List.replicate 3 0
theorem lstP_ok (zs : List Int) (d i : Nat) (h : okUp d zs i = true) (hd : d ≤ 3) : byte3 (lstP zs i) := by
  refine ⟨fillP_len _ _ _, fun j hj => ?_⟩
  have e : (lstP zs i).getD j 0 = if j < i then getZ zs j else 0 := by
    unfold lstP fillP
    rw [List.getD, List.getElem?_map, List.getElem?_range hj]; rfl
  rw [e]
  split
  · rename_i hji
    have h2 := (List.all_eq_true.1 h) j (by simpa using hji)
    simp only [Bool.and_eq_true, decide_eq_true_eq] at h2
    unfold getZ
    omega
  · omega

set_option maxRecDepth 100000 in
set_option maxHeartbeats 2000000 in
theorem sPermutationNumber_calls (v : Value) (zs : List Int) (w : World) (hv : SeesI w v zs) :
    Calls Tryd.prog 6 #[v] w fun e w' => e = .returned (.tuple #[.int .i64 (pnN zs), .int .i64 (pnC zs)]) ∧ Below w.heap.size w w' := by
  have hln := hv.1
  unfold maxLen at hln
  obtain ⟨oa, ca, hve, hvc⟩ := hv.view
  subst hve
  by_cases hd : zs.length = 2 ∨ zs.length = 3
  · obtain ⟨d, hdl⟩ : ∃ d, zs.length = d := ⟨_, rfl⟩
    rw [hdl] at hd
    have hd3 : d ≤ 3 := by omega
    obtain ⟨g, hg, _, _⟩ := hvc (by omega)
    subst hg
    have hzb := (zero_of_info info_b3).1
    have hsb := Lib.hid (zero_of_info info_b3).2
    have hzm := (zero_of_info info_m3).1
    have hsm := Lib.hid (zero_of_info info_m3).2
    have htest : ((d : Int) != 2 && (d : Int) != 3) = false := by rcases hd with rfl | rfl <;> rfl
    have hB0 : Blk ((w.alloc (.cells (u8s [0, 0, 0]) 35)).alloc (.cells (bls [false, false, false]) 36)) w.heap.size (u8s [0, 0, 0]) 35 := (Blk.new w _ _).alloc _
    have hM0 : Blk ((w.alloc (.cells (u8s [0, 0, 0]) 35)).alloc (.cells (bls [false, false, false]) 36)) (w.heap.size + 1) (bls [false, false, false]) 36 := Blk.new_at _ _ _ _ (by simp)
    have hbw0 : Below w.heap.size w ((w.alloc (.cells (u8s [0, 0, 0]) 35)).alloc (.cells (bls [false, false, false]) 36)) := by (repeat (first | exact Below.refl _ _ | refine below_drew' ?_ | refine below_drewN' ?_ _ | refine below_alloc' ?_ _ | refine below_set' ?_ (by (try simp); (try omega)) _ | refine below_step ?_ (by assumption)))
    have Hob : Hid (over (u8s [0, 0, 0]) 0 (u8s [0, 0, 0]) = u8s (lstP zs 0)) := Lib.hid rfl
    have Hom : Hid (over (bls [false, false, false]) 0 (bls [false, false, false]) = bls (metP zs 0)) := Lib.hid rfl
    have Hfb : Hid (0 + (u8s [0, 0, 0]).size ≤ (u8s [0, 0, 0]).size) := Lib.hid (Nat.le_refl 3)
    have Hfm : Hid (0 + (bls [false, false, false]).size ≤ (bls [false, false, false]).size) := Lib.hid (Nat.le_refl 3)
    have Hsb : Hid ((Tryd.prog.info? 35).map (·.size) = some (u8s [0, 0, 0]).size) := Lib.hid hsb.out
    have Hsm : Hid ((Tryd.prog.info? 36).map (·.size) = some (bls [false, false, false]).size) := Lib.hid hsm.out
    have Hv := Lib.hid hv
    have Hgood := Lib.hid (pn_good zs d hd hdl)
    have Hbad := Lib.hid (fun i => pn_bad zs d i hd hdl)
    have Hdl := Lib.hid hdl
    have HIn := Lib.hid (fun z W => l01In_calls z 0 ((d : Int) - 1) W)
    have HN := Lib.hid (fun row hrow n hn heq hno W => l03Number_calls d hd row hrow n hn heq hno W)
    clear hv hvc
    rw [hdl] at Hv ⊢
    clear hdl
    have hdi : (2 : Int) ≤ (d : Int) ∧ (d : Int) ≤ 3 := by omega
    have hwr : IntKind.i64.wrap ((d : Int) - 1) = (d : Int) - 1 := IntWalk.i64_in _ (by omega)
    go_enter Tryd.func6, Tryd.ntmps6
    rcases hd with rfl | rfl
    · go_wp2_with (first | (with_reducible show wpList _ _ _ _ _ _; refine wpList_store_row rfl 35 _ _ rfl w.heap.size 0 (u8s [0, 0, 0]) rfl rfl _ _ hB0 Hfb.out Hsb.out (u8s_one _) _ Hob.out ?_; intro w1 hs1; have hB1 := hs1.blk; have hM1 := hs1.keep (by omega) hM0; have hbw1 := hs1.below _ _ (Nat.le_refl _) hbw0) | (with_reducible show wpList _ _ _ _ _ _; refine wpList_store_row rfl 36 _ _ rfl (w.heap.size + 1) 0 (bls [false, false, false]) rfl rfl _ _ hM1 Hfm.out Hsm.out (bls_one _) _ Hom.out ?_; intro w2 hs2; have hB2 := hs2.keep (by omega) hB1; have hM2 := hs2.blk; have hbw2 := hs2.below _ _ (by omega) hbw1))
      clear hB0 hM0 hbw0 hB1 hM1 hbw1 hs1 hs2 hzb hzm
      go_loopw [6] (fun i wr => ∃ k : Nat, k ≤ 2 ∧ i = .int .i64 k ∧ Blk wr w.heap.size (u8s (lstP zs k)) 35 ∧ Blk wr (w.heap.size + 1) (bls (metP zs k)) 36 ∧ Below w.heap.size w wr ∧ Hid (okUp 2 zs k = true)) (fun i _ => 2 - (intOf i).toNat)
      case atStart => exact ⟨0, by omega, rfl, hB2, hM2, hbw2, Lib.hid rfl⟩
      case round =>
        clear hB2 hM2 hbw2
        obtain ⟨k, hk, rfl, hB, hM, hbw, HU⟩ := hrel
        by_cases hlt : k < 2
        · have hki : (k : Int) < 2 := by omega
          have hk3 : (k : Int) < 3 := by omega
          have hkz : k < zs.length := by rw [Hdl.out]; exact hlt
          obtain ⟨g', hg', _, c1⟩ := (Hv.out.below hbw).at k hkz
          have hgg : g' = g := by simpa using hg'.symm
          subst hgg
          have Hsu := Lib.hid (okUp_succ 2 zs k)
          have Hge : Hid (zs.getD k 0 = zs[k]) := Lib.hid (by simp [List.getD, List.getElem?_eq_getElem hkz])
          have HL := Lib.hid (fillP_set (getZ zs) 3 k zs[k] (by unfold getZ; rw [Hge.out]))
          have HM := Lib.hid (fun x hx => metP_set zs k x hkz hx)
          have HI := Lib.hid (fun W => HIn.out zs[k] W)
          rw [HU.out, Bool.true_and, Hge.out] at Hsu
          have Hb0 := Lib.hid (Hbad.out k hlt)
          have e3 := u8s_at (lstP zs k) k (by unfold lstP; rw [fillP_len]; omega)
          generalize (lstP zs k).getD k 0 = oldb at e3
          have Hmet := Lib.hid (metP_at zs k)
          clear Hge
          generalize zs[k] = z at *
          by_cases hin : 0 ≤ z ∧ z ≤ (2 : Int) - 1
          · obtain ⟨x, rfl⟩ : ∃ x : Nat, z = (x : Int) := ⟨z.toNat, by omega⟩
            have hx3 : x < 3 := by omega
            have hxi : (x : Int) < 3 := by omega
            have hind : decide ((0 : Int) ≤ (x : Int) ∧ (x : Int) ≤ ((2 : Nat) : Int) - 1) = true := by simpa using hin
            have e2 := Hmet.out x hx3
            have cM := hM.cell
            have fM := hM.free
            cases hmem : decide ((x : Int) ∈ zs.take k)
            · rw [hmem] at e2
              have Hok : Hid (okUp 2 zs (k + 1) = true) := Lib.hid (by rw [Hsu.out, hmem]; simp; omega)
              have hM1 := hM.set x (.bool true)
              rw [← bls_set, HM.out x rfl] at hM1
              have hB1 := hB.setOther (w.heap.size + 1) x (.bool true) (by omega)
              have cB := hB1.cell
              have fB := hB1.free
              have hB2 := hB1.set k (.int .u8 (x : Int))
              rw [← u8s_set, show (lstP zs k).set k (x : Int) = lstP zs (k + 1) from HL.out] at hB2
              have hM2 := hM1.setOther w.heap.size k (.int .u8 (x : Int)) (by omega)
              have hbw2 := below_set' (o := k) (below_set' (o := x) hbw (b := w.heap.size + 1) (by omega) (.bool true)) (b := w.heap.size) (Nat.le_refl _) (.int .u8 (x : Int))
              have hw8 : IntKind.u8.wrap (x : Int) = (x : Int) := by simp [IntKind.wrap, IntKind.bits, IntKind.signed]; omega
              clear hmem hB hM1 HL
              go_wp2_with (go_at_call 16; refine (HI.out _).mono ?_; rintro e w' ⟨rfl, rfl⟩; rw [hind])
              go_roundw
              case rel => exact ⟨k + 1, by omega, by go_num, hB2, hM2, hbw2, Hok⟩
              case measure => simp [intOf] <;> omega
            · rw [hmem] at e2
              have Hno := Lib.hid (Hb0.out (by rw [Hsu.out, hmem]; simp))
              clear hmem
              go_wp2_with (go_at_call 16; refine (HI.out _).mono ?_; rintro e w' ⟨rfl, rfl⟩; rw [hind])
              go_ret2
              exact ⟨ret_ii (by unfold pnN; rw [Hno.out]) (by unfold pnC; rw [Hno.out]), hbw⟩
          · have hind : decide ((0 : Int) ≤ z ∧ z ≤ ((2 : Nat) : Int) - 1) = false := by simpa using hin
            have Hno := Lib.hid (Hb0.out (by rw [Hsu.out]; simp; omega))
            clear hin
            go_wp2_with (go_at_call 16; refine (HI.out _).mono ?_; rintro e w' ⟨rfl, rfl⟩; rw [hind])
            go_ret2
            exact ⟨ret_ii (by unfold pnN; rw [Hno.out]) (by unfold pnC; rw [Hno.out]), hbw⟩
        · obtain rfl : k = 2 := by omega
          obtain ⟨n, hn, hF, hq, hno⟩ := Hgood.out HU.out
          have hbt := lstP_ok zs 2 2 HU.out (by omega)
          have HNc := Lib.hid (fun W => HN.out (lstP zs 2) hbt n hn hq hno W)
          have Hfit : Hid (0 + 3 ≤ (u8s (lstP zs 2)).size) := Lib.hid (by rw [u8s_size, hbt.1]; exact Nat.le_refl _)
          have Hcut : Hid (cut (u8s (lstP zs 2)) 0 3 = u8s (lstP zs 2)) := Lib.hid (cut_all _ _ (by rw [u8s_size, hbt.1]))
          have HF := Lib.hid hF
          clear hF hq hno hbt hn
          go_wp2_with (first | (with_reducible show wpList _ _ _ _ _ _; refine wpList_load_blk rfl 35 (.tmp 4) rfl w.heap.size 0 rfl (u8s (lstP zs 2)) _ hB 3 Hfit.out _ Tryd.underlying35 rfl hsb.out ?_; rw [Hcut.out]) | (go_at_call 17; refine (HNc.out _).mono ?_; rintro e w3 ⟨rfl, hb3⟩; have hbw3 := below_step hbw hb3))
          go_ret2
          exact ⟨ret_ii (by unfold pnN; rw [HF.out]) (by unfold pnC; rw [HF.out]), hbw3⟩
    · go_wp2_with (first | (with_reducible show wpList _ _ _ _ _ _; refine wpList_store_row rfl 35 _ _ rfl w.heap.size 0 (u8s [0, 0, 0]) rfl rfl _ _ hB0 Hfb.out Hsb.out (u8s_one _) _ Hob.out ?_; intro w1 hs1; have hB1 := hs1.blk; have hM1 := hs1.keep (by omega) hM0; have hbw1 := hs1.below _ _ (Nat.le_refl _) hbw0) | (with_reducible show wpList _ _ _ _ _ _; refine wpList_store_row rfl 36 _ _ rfl (w.heap.size + 1) 0 (bls [false, false, false]) rfl rfl _ _ hM1 Hfm.out Hsm.out (bls_one _) _ Hom.out ?_; intro w2 hs2; have hB2 := hs2.keep (by omega) hB1; have hM2 := hs2.blk; have hbw2 := hs2.below _ _ (by omega) hbw1))
      clear hB0 hM0 hbw0 hB1 hM1 hbw1 hs1 hs2 hzb hzm
      go_loopw [6] (fun i wr => ∃ k : Nat, k ≤ 3 ∧ i = .int .i64 k ∧ Blk wr w.heap.size (u8s (lstP zs k)) 35 ∧ Blk wr (w.heap.size + 1) (bls (metP zs k)) 36 ∧ Below w.heap.size w wr ∧ Hid (okUp 3 zs k = true)) (fun i _ => 3 - (intOf i).toNat)
      case atStart => exact ⟨0, by omega, rfl, hB2, hM2, hbw2, Lib.hid rfl⟩
      case round =>
        clear hB2 hM2 hbw2
        obtain ⟨k, hk, rfl, hB, hM, hbw, HU⟩ := hrel
        by_cases hlt : k < 3
        · have hki : (k : Int) < 3 := by omega
          have hk3 : (k : Int) < 3 := by omega
          have hkz : k < zs.length := by rw [Hdl.out]; exact hlt
          obtain ⟨g', hg', _, c1⟩ := (Hv.out.below hbw).at k hkz
          have hgg : g' = g := by simpa using hg'.symm
          subst hgg
          have Hsu := Lib.hid (okUp_succ 3 zs k)
          have Hge : Hid (zs.getD k 0 = zs[k]) := Lib.hid (by simp [List.getD, List.getElem?_eq_getElem hkz])
          have HL := Lib.hid (fillP_set (getZ zs) 3 k zs[k] (by unfold getZ; rw [Hge.out]))
          have HM := Lib.hid (fun x hx => metP_set zs k x hkz hx)
          have HI := Lib.hid (fun W => HIn.out zs[k] W)
          rw [HU.out, Bool.true_and, Hge.out] at Hsu
          have Hb0 := Lib.hid (Hbad.out k hlt)
          have e3 := u8s_at (lstP zs k) k (by unfold lstP; rw [fillP_len]; omega)
          generalize (lstP zs k).getD k 0 = oldb at e3
          have Hmet := Lib.hid (metP_at zs k)
          clear Hge
          generalize zs[k] = z at *
          by_cases hin : 0 ≤ z ∧ z ≤ (3 : Int) - 1
          · obtain ⟨x, rfl⟩ : ∃ x : Nat, z = (x : Int) := ⟨z.toNat, by omega⟩
            have hx3 : x < 3 := by omega
            have hxi : (x : Int) < 3 := by omega
            have hind : decide ((0 : Int) ≤ (x : Int) ∧ (x : Int) ≤ ((3 : Nat) : Int) - 1) = true := by simpa using hin
            have e2 := Hmet.out x hx3
            have cM := hM.cell
            have fM := hM.free
            cases hmem : decide ((x : Int) ∈ zs.take k)
            · rw [hmem] at e2
              have Hok : Hid (okUp 3 zs (k + 1) = true) := Lib.hid (by rw [Hsu.out, hmem]; simp; omega)
              have hM1 := hM.set x (.bool true)
              rw [← bls_set, HM.out x rfl] at hM1
              have hB1 := hB.setOther (w.heap.size + 1) x (.bool true) (by omega)
              have cB := hB1.cell
              have fB := hB1.free
              have hB2 := hB1.set k (.int .u8 (x : Int))
              rw [← u8s_set, show (lstP zs k).set k (x : Int) = lstP zs (k + 1) from HL.out] at hB2
              have hM2 := hM1.setOther w.heap.size k (.int .u8 (x : Int)) (by omega)
              have hbw2 := below_set' (o := k) (below_set' (o := x) hbw (b := w.heap.size + 1) (by omega) (.bool true)) (b := w.heap.size) (Nat.le_refl _) (.int .u8 (x : Int))
              have hw8 : IntKind.u8.wrap (x : Int) = (x : Int) := by simp [IntKind.wrap, IntKind.bits, IntKind.signed]; omega
              clear hmem hB hM1 HL
              go_wp2_with (go_at_call 16; refine (HI.out _).mono ?_; rintro e w' ⟨rfl, rfl⟩; rw [hind])
              go_roundw
              case rel => exact ⟨k + 1, by omega, by go_num, hB2, hM2, hbw2, Hok⟩
              case measure => simp [intOf] <;> omega
            · rw [hmem] at e2
              have Hno := Lib.hid (Hb0.out (by rw [Hsu.out, hmem]; simp))
              clear hmem
              go_wp2_with (go_at_call 16; refine (HI.out _).mono ?_; rintro e w' ⟨rfl, rfl⟩; rw [hind])
              go_ret2
              exact ⟨ret_ii (by unfold pnN; rw [Hno.out]) (by unfold pnC; rw [Hno.out]), hbw⟩
          · have hind : decide ((0 : Int) ≤ z ∧ z ≤ ((3 : Nat) : Int) - 1) = false := by simpa using hin
            have Hno := Lib.hid (Hb0.out (by rw [Hsu.out]; simp; omega))
            clear hin
            go_wp2_with (go_at_call 16; refine (HI.out _).mono ?_; rintro e w' ⟨rfl, rfl⟩; rw [hind])
            go_ret2
            exact ⟨ret_ii (by unfold pnN; rw [Hno.out]) (by unfold pnC; rw [Hno.out]), hbw⟩
        · obtain rfl : k = 3 := by omega
          obtain ⟨n, hn, hF, hq, hno⟩ := Hgood.out HU.out
          have hbt := lstP_ok zs 3 3 HU.out (by omega)
          have HNc := Lib.hid (fun W => HN.out (lstP zs 3) hbt n hn hq hno W)
          have Hfit : Hid (0 + 3 ≤ (u8s (lstP zs 3)).size) := Lib.hid (by rw [u8s_size, hbt.1]; exact Nat.le_refl _)
          have Hcut : Hid (cut (u8s (lstP zs 3)) 0 3 = u8s (lstP zs 3)) := Lib.hid (cut_all _ _ (by rw [u8s_size, hbt.1]))
          have HF := Lib.hid hF
          clear hF hq hno hbt hn
          go_wp2_with (first | (with_reducible show wpList _ _ _ _ _ _; refine wpList_load_blk rfl 35 (.tmp 4) rfl w.heap.size 0 rfl (u8s (lstP zs 3)) _ hB 3 Hfit.out _ Tryd.underlying35 rfl hsb.out ?_; rw [Hcut.out]) | (go_at_call 17; refine (HNc.out _).mono ?_; rintro e w3 ⟨rfl, hb3⟩; have hbw3 := below_step hbw hb3))
          go_ret2
          exact ⟨ret_ii (by unfold pnN; rw [HF.out]) (by unfold pnC; rw [HF.out]), hbw3⟩
  · have Hs : Hid (pnF zs = none) := Lib.hid (by unfold pnF; rw [if_neg hd])
    have h2 : ((zs.length : Int) != 2) = true := by simp; omega
    have h3 : ((zs.length : Int) != 3) = true := by simp; omega
    clear hd hvc hv
    go_enter Tryd.func6, Tryd.ntmps6
    go_wp2
    go_ret2
    exact ⟨ret_ii (by unfold pnN; rw [Hs.out]) (by unfold pnC; rw [Hs.out]), by (repeat (first | exact Below.refl _ _ | refine below_drew' ?_ | refine below_drewN' ?_ _ | refine below_alloc' ?_ _ | refine below_set' ?_ (by (try simp); (try omega)) _ | refine below_step ?_ (by assumption)))⟩
end Go.Proofs.YtcloljaebidnlaaDoor
