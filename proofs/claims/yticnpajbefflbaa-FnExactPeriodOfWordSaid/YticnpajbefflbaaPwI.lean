/- 'PeriodOfWord': the program and the model. -/
import Derived.Test.YticnpajbefflbaaPwD
import Derived.Test.YticnpajbefflbaaImgG
namespace Go.Proofs.Yticnpajbefflbaa
open Go.RowKit

def perC (M : Mach) (zs : List Int) (s : ByteArray) : Int := if walkB M zs s = true then (if s.size ≤ 5 then 0 else 2) else 1
def perR (M : Mach) (zs : List Int) (s : ByteArray) : Int := if walkB M zs s = true ∧ s.size ≤ 5 then (perN M zs s.data.toList : Int) else 0
theorem ret_ij {a b i j : Int} (h : a = b) (h' : i = j) : Ending.returned (.tuple #[.int .i64 a, .int .i64 i]) = Ending.returned (.tuple #[.int .i64 b, .int .i64 j]) := by rw [h, h']
theorem sne {s : ByteArray} {l : List UInt8} (h : l ≠ s.data.toList) : (l == s.toList) = false := by rw [ByteArray.toList_eq]; simpa using h
theorem seq {s : ByteArray} {l : List UInt8} (h : l = s.data.toList) : (l == s.toList) = true := by rw [ByteArray.toList_eq]; simpa using h

set_option maxRecDepth 100000 in
set_option maxHeartbeats 2000000 in
theorem iPeriodOfWord_calls (M : Mach) (hok : M.Ok) (v : Value) (zs : List Int) (s : ByteArray) (w : World) (hv : SeesI w v zs) (hs : s.size ≤ 1048576) :
    Calls Try.prog 21 #[.agg (mc M), v, .string s] w fun e w' => e = .returned (.tuple #[.int .i64 (perR M zs s), .int .i64 (perC M zs s)]) ∧ Below w.heap.size w w' := by
  have F1 : Hid (cut (mc M) 0 98 = mc M) := Lib.hid (cut_all _ _ (mc_size hok)); have F2 : Hid (0 + 98 ≤ (mc M).size) := Lib.hid (by rw [mc_size hok]; omega)
  have hB : Blk (w.alloc (.cells (mc M) 29)) w.heap.size (mc M) 29 := Blk.new w _ _
  have hbw0 : Below w.heap.size w (w.alloc (.cells (mc M) 29)) := by (repeat (first | exact Below.refl _ _ | refine below_drew' ?_ | refine below_drewN' ?_ _ | refine below_alloc' ?_ _ | refine below_set' ?_ (by (try simp); (try omega)) _ | refine below_step ?_ (by assumption)))
  have hvB := hv.below hbw0
  have Hv := Lib.hid hv
  clear hv
  cases hm : walkB M zs s
  · have Hr : Hid (perR M zs s = 0) := Lib.hid (by simp [perR, hm])
    have Hc : Hid (perC M zs s = 1) := Lib.hid (by simp [perC, hm])
    go_enter Try.func21, Try.ntmps21
    go_wp2_with (first | (with_reducible show wpList _ _ _ _ _ _; refine wpList_load_blk rfl 29 (.tmp 3) rfl w.heap.size 0 rfl (mc M) _ (hB) 98 F2.out _ Try.underlying29 rfl size_mach ?_; rw [F1.out]) | (go_at_call 46; refine (isWalkable_calls M hok _ zs s _ hvB).mono ?_; rintro e w1 ⟨rfl, hb1⟩; rw [hm]))
    go_ret2
    exact ⟨ret_ij Hr.out.symm Hc.out.symm, by (repeat (first | exact Below.refl _ _ | refine below_drew' ?_ | refine below_drewN' ?_ _ | refine below_alloc' ?_ _ | refine below_set' ?_ (by (try simp); (try omega)) _ | refine below_step ?_ (by assumption)))⟩
  · by_cases h5 : s.size ≤ 5
    · obtain ⟨L, S, hw⟩ := walks_of hok hm
      have hg := hw.g
      have Hc : Hid (perC M zs s = 0) := Lib.hid (by simp [perC, hm, h5])
      have Hr : Hid (perR M zs s = (perN M zs s.data.toList : Int)) := Lib.hid (by simp [perR, hm, h5])
      obtain ⟨n1, n2, n3, n4⟩ := per_ok hg zs hw.n s.data.toList hw.l (by rw [← size_list s]; exact h5)
      have HOK := Lib.hid (itG_ok hg zs hw.n s.data.toList hw.l)
      have h5b : ¬ ((5 : Int) < (s.size : Int)) := by omega
      generalize perN M zs s.data.toList = N at *
      have N3 := Lib.hid n3
      have N4 := Lib.hid n4
      have HW := Lib.hid hw
      clear n3 n4 hw hg
      go_enter Try.func21, Try.ntmps21
      go_wp2_with (first | (with_reducible show wpList _ _ _ _ _ _; refine wpList_load_blk rfl 29 (.tmp 3) rfl w.heap.size 0 rfl (mc M) _ (hB) 98 F2.out _ Try.underlying29 rfl size_mach ?_; rw [F1.out]) | (go_at_call 46; refine (isWalkable_calls M hok _ zs s _ hvB).mono ?_; rintro e w1 ⟨rfl, hb1⟩; rw [hm]; have hB1 := hB.keptAll hb1; have hv1 := hvB.below hb1; have hbw1 := below_step hbw0 hb1) | (go_at_call 41; refine (leadWord_calls M L S HW.out.g _ _ zs HW.out.n HW.out.l40 s HW.out.s40 HW.out.l _ hB1 hv1).mono ?_; rintro e w2 ⟨v2, rfl, hO2, hb2⟩; have hB2 := hB1.keptAll hb2; have hbw2 := below_step hbw1 hb2))
      clear hB hB1 hbw0 hbw1 hO2 hv1 hvB hb1 hb2
      have hi1 : (actG M zs s.data.toList).1 = itG M zs s.data.toList 1 := rfl
      rw [hi1]
      clear hi1
      go_loopw [8, 9] (fun pv vv wr => ∃ k : Nat, 1 ≤ k ∧ k ≤ N ∧ pv = .int .i64 k ∧ vv = .string ⟨(itG M zs s.data.toList k).toArray⟩ ∧ Blk wr w.heap.size (mc M) 29 ∧ Below w.heap.size w wr) (fun pv _ _ => N - (intOf pv).toNat)
      case atStart => exact ⟨1, Nat.le_refl _, n1, rfl, rfl, hB2, hbw2⟩
      case round =>
        clear hB2 hbw2
        obtain ⟨k, hk1, hk, rfl, rfl, hB, hbw⟩ := hrel
        obtain ⟨a1, a2⟩ := HOK.out k
        have hWs : (⟨(itG M zs s.data.toList k).toArray⟩ : ByteArray).size ≤ 40 := by show (itG M zs s.data.toList k).toArray.size ≤ 40; rw [List.size_toArray, a1, ← size_list s]; omega
        have HA2 := Lib.hid a2
        have hvk := Hv.out.below hbw
        clear a1 a2
        by_cases hl : k = N
        · have htest := seq (s := s) (by rw [hl]; exact N3.out : itG M zs s.data.toList k = s.data.toList)
          subst hl
          generalize itG M zs s.data.toList k = x at *
          go_wp2
          go_ret2
          exact ⟨ret_ij Hr.out.symm Hc.out.symm, hbw⟩
        · have htest := sne (s := s) (N4.out k hk1 (by omega))
          have Hn : Hid ((actG M zs (itG M zs s.data.toList k)).1 = itG M zs s.data.toList (k + 1)) := Lib.hid rfl
          have hk2 : k + 1 ≤ N := by omega
          clear hl
          obtain ⟨y, hy⟩ : ∃ y, itG M zs s.data.toList (k + 1) = y := ⟨_, rfl⟩
          rw [hy] at Hn
          have Hy := Lib.hid hy
          clear hy
          generalize itG M zs s.data.toList k = x at *
          go_wp2_with (go_at_call 41; refine (leadWord_calls M L S HW.out.g _ _ zs HW.out.n HW.out.l40 ⟨x.toArray⟩ hWs HA2.out _ hB hvk).mono ?_; rintro e w3 ⟨v3, rfl, hO3, hb3⟩; rw [show (⟨x.toArray⟩ : ByteArray).data.toList = x from rfl, Hn.out])
          go_roundw
          case rel => exact ⟨k + 1, by omega, hk2, by go_num, by rw [Hy.out], hB.keptAll hb3, below_step hbw hb3⟩
          case measure => simp [intOf] <;> omega
    · have Hr : Hid (perR M zs s = 0) := Lib.hid (by simp [perR, hm, h5])
      have Hc : Hid (perC M zs s = 2) := Lib.hid (by simp [perC, hm, h5])
      have h5b : (5 : Int) < (s.size : Int) := by omega
      clear h5
      go_enter Try.func21, Try.ntmps21
      go_wp2_with (first | (with_reducible show wpList _ _ _ _ _ _; refine wpList_load_blk rfl 29 (.tmp 3) rfl w.heap.size 0 rfl (mc M) _ (hB) 98 F2.out _ Try.underlying29 rfl size_mach ?_; rw [F1.out]) | (go_at_call 46; refine (isWalkable_calls M hok _ zs s _ hvB).mono ?_; rintro e w1 ⟨rfl, hb1⟩; rw [hm]))
      go_ret2
      exact ⟨ret_ij Hr.out.symm Hc.out.symm, by (repeat (first | exact Below.refl _ _ | refine below_drew' ?_ | refine below_drewN' ?_ _ | refine below_alloc' ?_ _ | refine below_set' ?_ (by (try simp); (try omega)) _ | refine below_step ?_ (by assumption)))⟩
end Go.Proofs.Yticnpajbefflbaa
