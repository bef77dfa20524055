/- 'PeriodOfWord': the model. -/
import Derived.Test.YticnpajbefflbaaPwI
import Derived.Test.YticnpajbefflbaaStoreK
namespace Go.Proofs.Yticnpajbefflbaa
open Go.RowKit

set_option maxRecDepth 100000 in
set_option maxHeartbeats 4000000 in
theorem sPeriodOfWord_calls (M : Mach) (hok : M.Ok) (v : Value) (zs : List Int) (s : ByteArray) (w : World) (hv : SeesI w v zs) (hs : s.size ≤ 1048576) :
    Calls Try.prog 20 #[.agg (mc M), v, .string s] w fun e w' => e = .returned (.tuple #[.int .i64 (perR M zs s), .int .i64 (perC M zs s)]) ∧ Below w.heap.size w w' := by
  have F1 : Hid (cut (mc M) 0 98 = mc M) := Lib.hid (cut_all _ _ (mc_size hok)); have F2 : Hid (0 + 98 ≤ (mc M).size) := Lib.hid (by rw [mc_size hok]; omega)
  have hB : Blk (w.alloc (.cells (mc M) 29)) w.heap.size (mc M) 29 := Blk.new w _ _
  have hbw0 : Below w.heap.size w (w.alloc (.cells (mc M) 29)) := by (repeat (first | exact Below.refl _ _ | refine below_drew' ?_ | refine below_drewN' ?_ _ | refine below_alloc' ?_ _ | refine below_set' ?_ (by (try simp); (try omega)) _ | refine below_step ?_ (by assumption)))
  have hvB := hv.below hbw0
  have Hv := Lib.hid hv
  obtain ⟨oa, cap, hve, hvc⟩ := hv.view
  subst hve
  clear hv hvc
  cases hm : walkB M zs s
  · have Hr : Hid (perR M zs s = 0) := Lib.hid (by simp [perR, hm])
    have Hc : Hid (perC M zs s = 1) := Lib.hid (by simp [perC, hm])
    have Hb : Hid (bothC M zs s = 1) := Lib.hid (by simp [bothC, hm])
    go_enter Try.func20, Try.ntmps20
    go_wp2_with (first | (with_reducible show wpList _ _ _ _ _ _; refine wpList_load_blk rfl 29 (.tmp 3) rfl w.heap.size 0 rfl (mc M) _ (hB) 98 F2.out _ Try.underlying29 rfl size_mach ?_; rw [F1.out]) | (go_at_call 43; refine (l02Both_calls M hok _ zs s hs _ hvB).mono ?_; rintro e w1 ⟨rfl, hb1⟩; rw [Hb.out]))
    go_ret2
    exact ⟨ret_ij Hr.out.symm Hc.out.symm, by (repeat (first | exact Below.refl _ _ | refine below_drew' ?_ | refine below_drewN' ?_ _ | refine below_alloc' ?_ _ | refine below_set' ?_ (by (try simp); (try omega)) _ | refine below_step ?_ (by assumption)))⟩
  · have Hb : Hid (bothC M zs s = 0) := Lib.hid (by simp [bothC, hm])
    by_cases h5 : s.size ≤ 5
    · obtain ⟨L, S, hw⟩ := walks_of hok hm
      have hg := hw.g
      have hL3 := hg.L3
      have hIok := invM_ok hok L S hL3
      have F3 : Hid (cut (mc (invM M L S)) 0 98 = mc (invM M L S)) := Lib.hid (cut_all _ _ (mc_size hIok))
      have F4 : Hid (0 + 98 ≤ (mc (invM M L S)).size) := Lib.hid (by rw [mc_size hIok]; omega)
      have hzs : (mc zeroM).size = 98 := mc_size zeroM_ok
      have F5 : Hid (0 + (mc (invM M L S)).size ≤ (mc zeroM).size) := Lib.hid (by rw [hzs, mc_size hIok]; omega)
      have F6 : Hid ((Try.prog.info? 29).map (·.size) = some (mc (invM M L S)).size) := Lib.hid (by rw [mc_size hIok]; exact size_mach)
      have F7 : Hid ((mc (invM M L S)).all (·.oneCell') = true) := Lib.hid (mc_one _)
      have F8 : Hid (over (mc zeroM) 0 (mc (invM M L S)) = mc (invM M L S)) := Lib.hid (over_all _ _ (by rw [hzs, mc_size hIok]))
      have hz0 := zero_mach
      have HI := Lib.hid (fun W => l01Inverse_calls M L S hg W)
      have Hc : Hid (perC M zs s = 0) := Lib.hid (by simp [perC, hm, h5])
      have Hr : Hid (perR M zs s = (perN M zs s.data.toList : Int)) := Lib.hid (by simp [perR, hm, h5])
      obtain ⟨n1, n2, n3, n4⟩ := per_ok hg zs hw.n s.data.toList hw.l (by rw [← size_list s]; exact h5)
      have HOK := Lib.hid (itG_ok hg zs hw.n s.data.toList hw.l)
      have h5b : ¬ ((5 : Int) < (s.size : Int)) := by omega
      have h5d : decide ((5 : Int) < (s.size : Int)) = false := by simpa using h5b
      generalize perN M zs s.data.toList = N at *
      have N3 := Lib.hid n3
      have N4 := Lib.hid n4
      have HW := Lib.hid hw
      clear n3 n4 hw hg hzs
      go_enter Try.func20, Try.ntmps20
      go_wp2_with (first | (with_reducible show wpList _ _ _ _ _ _; refine wpList_load_blk rfl 29 (.tmp 3) rfl w.heap.size 0 rfl (mc M) _ (by first | exact hB3 | exact hB1 | exact hB) 98 F2.out _ Try.underlying29 rfl size_mach ?_; rw [F1.out]) | (go_at_call 43; refine (l02Both_calls M hok _ zs s hs _ hvB).mono ?_; rintro e w1 ⟨rfl, hb1⟩; rw [Hb.out]; have hB1 := hB.keptAll hb1; have hbw1 := below_step hbw0 hb1) | (go_at_call 44; refine (HI.out _).mono ?_; rintro e w2 ⟨rfl, hb2⟩; have hB2 := (hB1.keptAll hb2).alloc (.cells (mc zeroM) 29); have hlt2 := (hB1.keptAll hb2).lt; have hZ2 : Blk (w2.alloc (.cells (mc zeroM) 29)) w2.heap.size (mc zeroM) 29 := Blk.new _ _ _; have hbw2 := below_alloc' (below_step hbw1 hb2) (.cells (mc zeroM) 29); have hs2 := (below_step hbw1 hb2).size) | (with_reducible show wpList _ _ _ _ _ _; refine wpList_store_row rfl 29 (.tmp 8) (.tmp 25) rfl w2.heap.size 0 (mc (invM M L S)) rfl rfl (mc zeroM) 29 hZ2 F5.out F6.out F7.out _ F8.out ?_; intro w3 hs3; have hI3 := hs3.blk; have hB3 := hs3.keep (by omega) hB2; have hbw3 := hs3.below _ _ (by omega) hbw2; have hv3 := Hv.out.below hbw3) | (with_reducible show wpList _ _ _ _ _ _; refine wpList_load_blk rfl 29 (.tmp 8) rfl w2.heap.size 0 rfl (mc (invM M L S)) _ hI3 98 F4.out _ Try.underlying29 rfl size_mach ?_; rw [F3.out]) | (go_at_call 45; refine (l02Act_calls M L S HW.out.g _ zs HW.out.n HW.out.l40 s HW.out.s40 HW.out.l _ hv3).mono ?_; rintro e w4 ⟨v4, rfl, hO4, hb4⟩; have hB4 := hB3.keptAll hb4; have hI4 := hI3.keptAll hb4; have hbw4 := below_step hbw3 hb4))
      clear hB hB1 hB2 hB3 hI3 hZ2 hbw0 hbw1 hbw2 hbw3 hO4 hv3 hvB hb1 hb2 hb4 F5 F6 F7 F8 hz0 hs3 HI
      have hi1 : (actG M zs s.data.toList).1 = itG M zs s.data.toList 1 := rfl
      rw [hi1]
      clear hi1
      generalize w2.heap.size = h2 at *
      go_loopw [9, 10] (fun pv vv wr => ∃ k : Nat, 1 ≤ k ∧ k ≤ N ∧ pv = .int .i64 k ∧ vv = .string ⟨(itG M zs s.data.toList k).toArray⟩ ∧ Blk wr w.heap.size (mc M) 29 ∧ Blk wr h2 (mc (invM M L S)) 29 ∧ Below w.heap.size w wr) (fun pv _ _ => N - (intOf pv).toNat)
      case atStart => exact ⟨1, Nat.le_refl _, n1, rfl, rfl, hB4, hI4, hbw4⟩
      case round =>
        clear hB4 hI4 hbw4
        obtain ⟨k, hk1, hk, rfl, rfl, hB, hI, hbw⟩ := hrel
        obtain ⟨a1, a2⟩ := HOK.out k
        have hWs : (⟨(itG M zs s.data.toList k).toArray⟩ : ByteArray).size ≤ 40 := by show (itG M zs s.data.toList k).toArray.size ≤ 40; rw [List.size_toArray, a1, ← size_list s]; omega
        have HA2 := Lib.hid a2
        have hvk := Hv.out.below hbw
        clear a1 a2
        by_cases hl : k = N
        · have htest := seq (s := s) (by rw [hl]; exact N3.out : itG M zs s.data.toList k = s.data.toList)
          subst hl
          generalize itG M zs s.data.toList k = x at *
          go_wp2
          go_ret2
          exact ⟨ret_ij Hr.out.symm Hc.out.symm, hbw⟩
        · have htest := sne (s := s) (N4.out k hk1 (by omega))
          have Hn : Hid ((actG M zs (itG M zs s.data.toList k)).1 = itG M zs s.data.toList (k + 1)) := Lib.hid rfl
          have hk2 : k + 1 ≤ N := by omega
          clear hl
          obtain ⟨y, hy⟩ : ∃ y, itG M zs s.data.toList (k + 1) = y := ⟨_, rfl⟩
          rw [hy] at Hn
          have Hy := Lib.hid hy
          clear hy
          generalize itG M zs s.data.toList k = x at *
          go_wp2_with (first | (with_reducible show wpList _ _ _ _ _ _; refine wpList_load_blk rfl 29 (.tmp 3) rfl w.heap.size 0 rfl (mc M) _ (hB) 98 F2.out _ Try.underlying29 rfl size_mach ?_; rw [F1.out]) | (with_reducible show wpList _ _ _ _ _ _; refine wpList_load_blk rfl 29 (.tmp 8) rfl h2 0 rfl (mc (invM M L S)) _ hI 98 F4.out _ Try.underlying29 rfl size_mach ?_; rw [F3.out]) | (go_at_call 45; refine (l02Act_calls M L S HW.out.g _ zs HW.out.n HW.out.l40 ⟨x.toArray⟩ hWs HA2.out _ hvk).mono ?_; rintro e w3 ⟨v3, rfl, hO3, hb3⟩; rw [show (⟨x.toArray⟩ : ByteArray).data.toList = x from rfl, Hn.out]))
          go_roundw
          case rel => exact ⟨k + 1, by omega, hk2, by go_num, by rw [Hy.out], hB.keptAll hb3, hI.keptAll hb3, below_step hbw hb3⟩
          case measure => simp [intOf] <;> omega
    · have Hr : Hid (perR M zs s = 0) := Lib.hid (by simp [perR, hm, h5])
      have Hc : Hid (perC M zs s = 2) := Lib.hid (by simp [perC, hm, h5])
      have h5b : (5 : Int) < (s.size : Int) := by omega
      have h5d : decide ((5 : Int) < (s.size : Int)) = true := by simpa using h5b
      clear h5
      go_enter Try.func20, Try.ntmps20
      go_wp2_with (first | (with_reducible show wpList _ _ _ _ _ _; refine wpList_load_blk rfl 29 (.tmp 3) rfl w.heap.size 0 rfl (mc M) _ (hB) 98 F2.out _ Try.underlying29 rfl size_mach ?_; rw [F1.out]) | (go_at_call 43; refine (l02Both_calls M hok _ zs s hs _ hvB).mono ?_; rintro e w1 ⟨rfl, hb1⟩; rw [Hb.out]))
      go_ret2
      exact ⟨ret_ij Hr.out.symm Hc.out.symm, by (repeat (first | exact Below.refl _ _ | refine below_drew' ?_ | refine below_drewN' ?_ _ | refine below_alloc' ?_ _ | refine below_set' ?_ (by (try simp); (try omega)) _ | refine below_step ?_ (by assumption)))⟩
end Go.Proofs.Yticnpajbefflbaa
