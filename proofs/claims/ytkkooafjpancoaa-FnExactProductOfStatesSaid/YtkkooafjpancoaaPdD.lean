/- 'ProductOfStates': plain data; the program's closure. -/
import Derived.Test.YtkkooafjpancoaaAcD
import Derived.Test.YtkkooafjpancoaaPrL
import Derived.Test.YtkkooafjpancoaaProO
import Derived.Test.YtkkooafjpancoaaBhM
namespace Go.Proofs.Ytkkooafjpancoaa
open Go.RowKit

theorem ltR_size {M J : Mach} {L S T q r : Nat} (hM : Good M L S) (hJ : Good J L T) (hq : q < S) (hr : r < T) : (mc (ltR (prA M J T) L (q * T + r))).size = 98 := by
  have hidx : q * T + r < S * T := by
    calc q * T + r < q * T + T := by omega
      _ = (q + 1) * T := by rw [Nat.succ_mul]
      _ ≤ S * T := Nat.mul_le_mul_right _ (by omega)
  unfold ltR
  split
  · rename_i h
    exact mc_size (prodM_good hM hJ hidx h).ok
  · exact mc_size zeroM_ok
theorem ltB_yes {A : Aut} {L p : Nat} (h : ltB A L p = true) : (setQ A L p).length ≤ 16 ∧ ltR A L p = setM A L p := by
  have h1 := of_decide_eq_true h
  exact ⟨h1, by unfold ltR; rw [if_pos h1]⟩
theorem ltB_no {A : Aut} {L p : Nat} (h : ltB A L p = false) : ¬ (setQ A L p).length ≤ 16 ∧ ltR A L p = zeroM := by
  have h1 := of_decide_eq_false h
  exact ⟨h1, by unfold ltR; rw [if_neg h1]⟩
theorem times_yes {M J : Mach} {L S T : Nat} (hM : Good M L S) (hJ : Good J L T) (bm bk p r : Nat) (hp : p < S) (hr : r < T) (h : ltB (prA M J T) L (p * T + r) = true) (w : World) (hBm : Blk w bm (mc M) 28) (hBk : Blk w bk (mc J) 28) :
    Calls Try.prog 50 #[.agg #[.pointer (some ⟨bm, 0, none⟩), .int .i64 (p : Int)], .agg #[.pointer (some ⟨bk, 0, none⟩), .int .i64 (r : Int)]] w fun e w' => e = .returned (.agg (mc (ltR (prA M J T) L (p * T + r)))) ∧ Below w.heap.size w w' := by
  obtain ⟨h1, h2⟩ := ltB_yes h
  rw [h2]
  exact times_ok M J L S T hM hJ bm bk p r hp hr h1 w hBm hBk
theorem times_no {M J : Mach} {L S T : Nat} (hM : Good M L S) (hJ : Good J L T) (bm bk p r : Nat) (hp : p < S) (hr : r < T) (h : ltB (prA M J T) L (p * T + r) = false) (w : World) (hBm : Blk w bm (mc M) 28) (hBk : Blk w bk (mc J) 28) :
    Calls Try.prog 50 #[.agg #[.pointer (some ⟨bm, 0, none⟩), .int .i64 (p : Int)], .agg #[.pointer (some ⟨bk, 0, none⟩), .int .i64 (r : Int)]] w fun e w' => e = gaveUp 3 ∧ Below w.heap.size w w' :=
  times_up M J L S T hM hJ bm bk p r hp hr (ltB_no h).1 w hBm hBk
/-- What 'ProductOfStates' answers. -/
def pdR (M : Mach) (q : Int) (J : Mach) (r : Int) : Mach := ltR (prA M J J.S.toNat) M.L.toNat (q.toNat * J.S.toNat + r.toNat)
def pdB (M : Mach) (q : Int) (J : Mach) (r : Int) : Bool := ltB (prA M J J.S.toNat) M.L.toNat (q.toNat * J.S.toNat + r.toNat)
theorem pd_eq {M J : Mach} {L S T : Nat} (hM : Good M L S) (hJ : Good J L T) (q r : Nat) : pdR M (q : Int) J (r : Int) = ltR (prA M J T) L (q * T + r) ∧ pdB M (q : Int) J (r : Int) = ltB (prA M J T) L (q * T + r) := by
  unfold pdR pdB
  rw [hM.hL, hJ.hS]
  simp [Int.toNat_natCast]
def prR (M : Mach) (q : Int) (J : Mach) (r : Int) : Mach := if twoC M q J r = 0 then pdR M q J r else zeroM
def prC (M : Mach) (q : Int) (J : Mach) (r : Int) : Int := if twoC M q J r = 0 then (if pdB M q J r = true then 0 else 3) else twoC M q J r
theorem ltR_ok {M J : Mach} {L S T q r : Nat} (hM : Good M L S) (hJ : Good J L T) (hq : q < S) (hr : r < T) : (ltR (prA M J T) L (q * T + r)).Ok := by
  have hidx : q * T + r < S * T := by
    calc q * T + r < q * T + T := by omega
      _ = (q + 1) * T := by rw [Nat.succ_mul]
      _ ≤ S * T := Nat.mul_le_mul_right _ (by omega)
  unfold ltR
  split
  · rename_i h
    exact (prodM_good hM hJ hidx h).ok
  · exact zeroM_ok
theorem prR_ok {M J : Mach} (hok : M.Ok) (hoj : J.Ok) (q r : Int) : (prR M q J r).Ok := by
  unfold prR
  split
  · rename_i h
    obtain ⟨L, S, T, qn, rn, hgM, hgJ, rfl, rfl, hq, hr⟩ := two_good hok hoj h
    rw [(pd_eq hgM hgJ qn rn).1]
    exact ltR_ok hgM hgJ hq hr
  · exact zeroM_ok
theorem built_gd2 (b : Nat) (x : Int) : Try.prog.built 57 [(0, .pointer (some ⟨b, 0, none⟩)), (1, .int .i64 x)] = some #[.pointer (some ⟨b, 0, none⟩), .int .i64 x] := by kernel_rfl

set_option maxRecDepth 100000 in
set_option maxHeartbeats 1000000 in
theorem prClosure_ok (M J : Mach) (L S T : Nat) (hgM : Good M L S) (hgJ : Good J L T) (q r : Nat) (hq : q < S) (hr : r < T) (h : ltB (prA M J T) L (q * T + r) = true) (bm bq bj br : Nat) (w : World)
    (hM : Blk w bm (mc M) 28) (hQ : Blk w bq #[.int .i64 (q : Int)] 2) (hJ : Blk w bj (mc J) 28) (hR : Blk w br #[.int .i64 (r : Int)] 2) :
    Calls Try.prog 49 #[.pointer (some ⟨bm, 0, none⟩), .pointer (some ⟨bq, 0, none⟩), .pointer (some ⟨bj, 0, none⟩), .pointer (some ⟨br, 0, none⟩)] w fun e w' => e = .returned (.agg (mc (ltR (prA M J T) L (q * T + r)))) ∧ Below w.heap.size w w' := by
  have hz := zero_mach
  have hzg := zero_guide
  have HzS : Hid ((mc zeroM).size = 98) := Lib.hid (mc_size zeroM_ok)
  have HT := Lib.hid (fun W (h1 : Blk W bm (mc M) 28) (h2 : Blk W bj (mc J) 28) => times_yes hgM hgJ bm bj q r hq hr h W h1 h2)
  have HRs := Lib.hid (ltR_size hgM hgJ hq hr)
  generalize ltR (prA M J T) L (q * T + r) = R at *
  have Hov : Hid (over (mc zeroM) 0 (mc R) = mc R) := Lib.hid (over_all _ _ (by rw [HRs.out, HzS.out]))
  have hM0 := hM.alloc (.cells (mc zeroM) 28)
  have hJ0 := hJ.alloc (.cells (mc zeroM) 28)
  have cQ := (hQ.alloc (.cells (mc zeroM) 28)).cell 0
  have cR := (hR.alloc (.cells (mc zeroM) 28)).cell 0
  simp only [List.getElem?_toArray, List.getElem?_cons_zero] at cQ cR
  have hX0 : Blk (w.alloc (.cells (mc zeroM) 28)) w.heap.size (mc zeroM) 28 := Blk.new _ _ _
  have hb0 : Below w.heap.size w (w.alloc (.cells (mc zeroM) 28)) := by (repeat (first | exact Below.refl _ _ | refine below_drew' ?_ | refine below_drewN' ?_ _ | refine below_alloc' ?_ _ | refine below_set' ?_ (by (try simp); (try omega)) _ | refine below_step ?_ (by assumption)))
  clear h hM hJ hQ hR hgM hgJ
  go_enter Try.func49, Try.ntmps49
  go_wp2_with (first | ((with_reducible show wpList _ _ _ _ _ _); refine wpList_build2 rfl 57 0 1 (.tmp 0) (.tmp 5) rfl (.pointer (some ⟨bm, 0, none⟩)) (.int .i64 (q : Int)) rfl rfl _ (built_gd2 bm q) ?_) | ((with_reducible show wpList _ _ _ _ _ _); refine wpList_build2 rfl 57 0 1 (.tmp 2) (.tmp 7) rfl (.pointer (some ⟨bj, 0, none⟩)) (.int .i64 (r : Int)) rfl rfl _ (built_gd2 bj r) ?_) | (go_at_call 50; refine (HT.out _ hM0 hJ0).mono ?_; rintro e w1 ⟨rfl, hc1⟩; have hX1 := hX0.keptAll hc1; have hb1 := below_step hb0 hc1) | ((with_reducible show wpList _ _ _ _ _ _); refine wpList_store_blk rfl 28 (.tmp 4) (.tmp 9) rfl w.heap.size 0 (mc R) rfl rfl (mc zeroM) 28 hX1 (by rw [HRs.out, HzS.out]; omega) (by rw [HRs.out]; exact size_mach) (mc_one _) ?_; intro w5 hb5 hkeep _ hbl; rw [Hov.out] at hb5; have hbw5 := hbl w.heap.size w (Nat.le_refl _) hb1; clear hkeep hbl))
  exact bodyPost_cell rfl rfl hb5 Try.underlying28 rfl (by rw [HRs.out]; exact size_mach) rfl ⟨rfl, hbw5⟩

set_option maxRecDepth 100000 in
set_option maxHeartbeats 1000000 in
theorem prClosure_up (M J : Mach) (L S T : Nat) (hgM : Good M L S) (hgJ : Good J L T) (q r : Nat) (hq : q < S) (hr : r < T) (h : ltB (prA M J T) L (q * T + r) = false) (bm bq bj br : Nat) (w : World)
    (hM : Blk w bm (mc M) 28) (hQ : Blk w bq #[.int .i64 (q : Int)] 2) (hJ : Blk w bj (mc J) 28) (hR : Blk w br #[.int .i64 (r : Int)] 2) :
    Calls Try.prog 49 #[.pointer (some ⟨bm, 0, none⟩), .pointer (some ⟨bq, 0, none⟩), .pointer (some ⟨bj, 0, none⟩), .pointer (some ⟨br, 0, none⟩)] w fun e w' => e = gaveUp 3 ∧ Below w.heap.size w w' := by
  have hz := zero_mach
  have hzg := zero_guide
  have HT := Lib.hid (fun W (h1 : Blk W bm (mc M) 28) (h2 : Blk W bj (mc J) 28) => times_no hgM hgJ bm bj q r hq hr h W h1 h2)
  have hM0 := hM.alloc (.cells (mc zeroM) 28)
  have hJ0 := hJ.alloc (.cells (mc zeroM) 28)
  have cQ := (hQ.alloc (.cells (mc zeroM) 28)).cell 0
  have cR := (hR.alloc (.cells (mc zeroM) 28)).cell 0
  simp only [List.getElem?_toArray, List.getElem?_cons_zero] at cQ cR
  have hb0 : Below w.heap.size w (w.alloc (.cells (mc zeroM) 28)) := by (repeat (first | exact Below.refl _ _ | refine below_drew' ?_ | refine below_drewN' ?_ _ | refine below_alloc' ?_ _ | refine below_set' ?_ (by (try simp); (try omega)) _ | refine below_step ?_ (by assumption)))
  clear h hM hJ hQ hR hgM hgJ
  go_enter Try.func49, Try.ntmps49
  go_wp2_with (first | ((with_reducible show wpList _ _ _ _ _ _); refine wpList_build2 rfl 57 0 1 (.tmp 0) (.tmp 5) rfl (.pointer (some ⟨bm, 0, none⟩)) (.int .i64 (q : Int)) rfl rfl _ (built_gd2 bm q) ?_) | ((with_reducible show wpList _ _ _ _ _ _); refine wpList_build2 rfl 57 0 1 (.tmp 2) (.tmp 7) rfl (.pointer (some ⟨bj, 0, none⟩)) (.int .i64 (r : Int)) rfl rfl _ (built_gd2 bj r) ?_) | (go_at_call 50; refine (HT.out _ hM0 hJ0).mono ?_; rintro e w1 ⟨he, hc1⟩; have hb1 := below_step hb0 hc1; unfold gaveUp at he; subst he))
  exact ⟨rfl, rfl, hb1⟩
end Go.Proofs.Ytkkooafjpancoaa
