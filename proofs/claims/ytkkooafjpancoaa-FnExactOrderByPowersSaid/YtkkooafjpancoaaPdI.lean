/- The door that meets a panic, for machines. Written by gen/genbhm.py. · 'ProductOfStates': plain data; the program's closure. · 'ProductOfStates': the program and the model. Written by gen/genpd.py. -/
import Derived.Test.YtkkooafjpancoaaBhd
import Derived.Test.YtkkooafjpancoaaInvI
import Derived.Test.YtkkooafjpancoaaHeldK
import Derived.Test.YtkkooafjpancoaaAcD
import Derived.Test.YtkkooafjpancoaaPrL
import Derived.Test.YtkkooafjpancoaaProO
namespace Go.Proofs.Ytkkooafjpancoaa
open Go.RowKit

theorem catchM_panicking (p : Addr) (x c : Int) (older : List PanicEntry) (w : World) (hc : w.cell? p = some (.int .i64 x)) (hz : w.frozen? p = false) :
    CallsD Try.prog 74 #[.pointer (some p)] (.panicking ({ v := .iface 85 (.int .i64 c), recovered := false } :: older)) w fun e u' w' =>
      e = .returned (.tuple #[]) ∧ u' = .panicking ({ v := .iface 85 (.int .i64 c), recovered := true } :: older) ∧ w' = w.setCell p (.int .i64 c) := by
  refine callsD_of_wpS Try.func74 rfl fun c₀ cs hu => ?_
  apply wpS_seq
  apply wpS_region
  simp [wpOpsS, go_sem, recoverD, hu, Try.ntmps74, Exit.thenS]
  apply wpS_seq
  apply wpS_region
  simp [wpOpsS, go_sem, Exit.thenS]
  refine wpS_cond (t := true) (by simp [Act.eval, Array.replicate]) ?_
  simp only [if_true]
  apply wpS_region
  simp [wpOpsS, go_sem, asUp, hc, hz, bodyPostS, results, Try.results74]

theorem catchM_idle (p : Addr) (w : World) :
    CallsD Try.prog 74 #[.pointer (some p)] .returning w fun e u' w' => e = .returned (.tuple #[]) ∧ u' = .returning ∧ w' = w := by
  refine callsD_of_wpS Try.func74 rfl fun c₀ cs hu => ?_
  apply wpS_seq
  apply wpS_region
  simp [wpOpsS, go_sem, recoverD, hu, Try.ntmps74, Exit.thenS]
  apply wpS_seq
  apply wpS_region
  simp [wpOpsS, go_sem, Exit.thenS]
  refine wpS_cond (t := false) (by simp [Act.eval, Array.replicate]) ?_
  simp only [Bool.false_eq_true, if_false]
  refine wpS_of_wp (wp_skip ?_)
  cases c₀
  simp_all [bodyPostS, results, Try.results74]


set_option maxRecDepth 100000 in
set_option maxHeartbeats 1000000 in
theorem doorM_ok (f : FuncId) (cap : Array Value) (w : World) (R : Mach) (hRs : (mc R).size = 98)
    (hcf : ∀ w : World, (callFunc f cap).run Try.prog w = .ok (.enter f cap) w)
    (hS : Calls Try.prog f cap ((w.alloc (.cells (mc zeroM) 28)).alloc (.cells #[.int .i64 0] 2)) fun e w' => e = .returned (.agg (mc R)) ∧ Below (w.heap.size + 1 + 1) ((w.alloc (.cells (mc zeroM) 28)).alloc (.cells #[.int .i64 0] 2)) w') :
    Calls Try.prog 48 #[.func (.func f) #[] cap] w fun e w' => e = .returned (.tuple #[.agg (mc R), .int .i64 0]) ∧ Below w.heap.size w w' := by
  have hz := zero_mach
  have hmf : ∀ (fn : Fn) (first cap : Array Value) (w : World), (Instr.makeFunc fn first cap).run Try.prog w = .ok (.func fn first cap) w := fun _ _ _ _ => rfl
  have HzS : Hid ((mc zeroM).size = 98) := Lib.hid (mc_size zeroM_ok)
  have hR0 : Blk ((w.alloc (.cells (mc zeroM) 28)).alloc (.cells #[.int .i64 0] 2)) w.heap.size (mc zeroM) 28 := (Blk.new _ _ _).alloc _
  have hC0 : Blk ((w.alloc (.cells (mc zeroM) 28)).alloc (.cells #[.int .i64 0] 2)) (w.heap.size + 1) #[.int .i64 0] 2 := Blk.new_at _ _ _ _ (by simp)
  have hb0 : Below w.heap.size w ((w.alloc (.cells (mc zeroM) 28)).alloc (.cells #[.int .i64 0] 2)) := by show Below _ _ (World.alloc _ _); (repeat (first | exact Below.refl _ _ | refine below_drew' ?_ | refine below_drewN' ?_ _ | refine below_alloc' ?_ _ | refine below_set' ?_ (by (try simp); (try omega)) _ | refine below_step ?_ (by assumption)))
  have Hov : Hid (over (mc zeroM) 0 (mc R) = mc R) := Lib.hid (over_all _ _ (by rw [hRs, HzS.out]))
  have HRs := Lib.hid hRs
  clear hRs
  go_enter_defers Try.func48, Try.ntmps48
  go_wp2_with (first | ((with_reducible refine hS.mono ?_); rintro e w2 ⟨rfl, hb⟩; have hR2 : Blk w2 w.heap.size (mc zeroM) 28 := (hb.block _ (by omega)).trans hR0; have hC2 : Blk w2 (w.heap.size + 1) #[.int .i64 0] 2 := (hb.block _ (by omega)).trans hC0; have hb2 := hb0.trans (below_le hb (by omega))) | ((with_reducible show wpList _ _ _ _ _ _); refine wpList_store_blk rfl 28 (.tmp 2) (.tmp 6) rfl w.heap.size 0 (mc R) rfl rfl (mc zeroM) 28 hR2 (by rw [HRs.out, HzS.out]; omega) (by rw [HRs.out]; exact size_mach) (mc_one _) ?_; intro w3 hR3 hkeep _ hbl; rw [Hov.out] at hR3; have hC3 := hkeep (w.heap.size + 1) _ _ (by omega) hC2; have hb3 := hbl w.heap.size w (Nat.le_refl _) hb2; have hc0 := hC3.cell 0; have hf0 := hC3.free; clear hkeep hbl))
  have hR4 := hR3.setOther (w.heap.size + 1) 0 (.int .i64 0) (by omega)
  have hC4 := (hC3.set 0 (.int .i64 0)).cell 0
  have hb4 := below_set' (o := 0) hb3 (b := w.heap.size + 1) (by omega) (.int .i64 0)
  refine leaves_cons (f := 74) (args := #[.pointer (some ⟨w.heap.size + 1, 0, none⟩)]) (by simp) (by simp [go_sem]) ?_
  refine (catchM_idle ⟨w.heap.size + 1, 0, none⟩ _).mono ?_
  rintro e u' w'' ⟨rfl, rfl, rfl⟩
  have hl := loadVar_blk (P := Try.prog) hR4 Try.underlying28 rfl (by rw [HRs.out]; exact size_mach)
  simp at hC4
  have hl2 : (loadVar 2 ⟨w.heap.size + 1, 0, none⟩).run Try.prog (w3.setCell ⟨w.heap.size + 1, 0, none⟩ (.int .i64 0)) = .ok (.int .i64 0) (w3.setCell ⟨w.heap.size + 1, 0, none⟩ (.int .i64 0)) := by simp [go_sem, hC4]
  simp [Leaves, settle, results, Try.results48, asAddr, hl, hl2]
  exact hb4

set_option maxRecDepth 100000 in
set_option maxHeartbeats 1000000 in
theorem doorM_up (f : FuncId) (cap : Array Value) (w : World) (c : Int)
    (hcf : ∀ w : World, (callFunc f cap).run Try.prog w = .ok (.enter f cap) w)
    (hS : Calls Try.prog f cap ((w.alloc (.cells (mc zeroM) 28)).alloc (.cells #[.int .i64 0] 2)) fun e w' => e = gaveUp c ∧ Below (w.heap.size + 1 + 1) ((w.alloc (.cells (mc zeroM) 28)).alloc (.cells #[.int .i64 0] 2)) w') :
    Calls Try.prog 48 #[.func (.func f) #[] cap] w fun e w' => e = .returned (.tuple #[.agg (mc zeroM), .int .i64 c]) ∧ Below w.heap.size w w' := by
  have hz := zero_mach
  have hmf : ∀ (fn : Fn) (first cap : Array Value) (w : World), (Instr.makeFunc fn first cap).run Try.prog w = .ok (.func fn first cap) w := fun _ _ _ _ => rfl
  have HzS : Hid ((mc zeroM).size = 98) := Lib.hid (mc_size zeroM_ok)
  have hR0 : Blk ((w.alloc (.cells (mc zeroM) 28)).alloc (.cells #[.int .i64 0] 2)) w.heap.size (mc zeroM) 28 := (Blk.new _ _ _).alloc _
  have hC0 : Blk ((w.alloc (.cells (mc zeroM) 28)).alloc (.cells #[.int .i64 0] 2)) (w.heap.size + 1) #[.int .i64 0] 2 := Blk.new_at _ _ _ _ (by simp)
  have hb0 : Below w.heap.size w ((w.alloc (.cells (mc zeroM) 28)).alloc (.cells #[.int .i64 0] 2)) := by show Below _ _ (World.alloc _ _); (repeat (first | exact Below.refl _ _ | refine below_drew' ?_ | refine below_drewN' ?_ _ | refine below_alloc' ?_ _ | refine below_set' ?_ (by (try simp); (try omega)) _ | refine below_step ?_ (by assumption)))

  go_enter_defers Try.func48, Try.ntmps48
  go_wp2_with ((with_reducible refine hS.mono ?_); rintro e w2 ⟨he, hb⟩; unfold gaveUp at he; subst he; have hR2 : Blk w2 w.heap.size (mc zeroM) 28 := (hb.block _ (by omega)).trans hR0; have hC2 : Blk w2 (w.heap.size + 1) #[.int .i64 0] 2 := (hb.block _ (by omega)).trans hC0; have hb2 := hb0.trans (below_le hb (by omega)); have hc0 := hC2.cell 0; have hf0 := hC2.free)
  have hR4 := hR2.setOther (w.heap.size + 1) 0 (.int .i64 c) (by omega)
  have hC4 := (hC2.set 0 (.int .i64 c)).cell 0
  have hb4 := below_set' (o := 0) hb2 (b := w.heap.size + 1) (by omega) (.int .i64 c)
  refine leaves_cons (f := 74) (args := #[.pointer (some ⟨w.heap.size + 1, 0, none⟩)]) (by simp) (by simp [go_sem]) ?_
  refine (catchM_panicking ⟨w.heap.size + 1, 0, none⟩ 0 c [] _ (by simpa using hc0) (hf0 _)).mono ?_
  rintro e u' w'' ⟨rfl, rfl, rfl⟩
  have hl := loadVar_blk (P := Try.prog) hR4 Try.underlying28 rfl (by rw [HzS.out]; exact size_mach)
  simp at hC4
  have hl2 : (loadVar 2 ⟨w.heap.size + 1, 0, none⟩).run Try.prog (w2.setCell ⟨w.heap.size + 1, 0, none⟩ (.int .i64 c)) = .ok (.int .i64 c) (w2.setCell ⟨w.heap.size + 1, 0, none⟩ (.int .i64 c)) := by simp [go_sem, hC4]
  simp [Leaves, settle, results, Try.results48, asAddr, hl, hl2]
  exact hb4
end Go.Proofs.Ytkkooafjpancoaa

namespace Go.Proofs.Ytkkooafjpancoaa
open Go.RowKit

theorem ltR_size {M J : Mach} {L S T q r : Nat} (hM : Good M L S) (hJ : Good J L T) (hq : q < S) (hr : r < T) : (mc (ltR (prA M J T) L (q * T + r))).size = 98 := by
  have hidx : q * T + r < S * T := by
    calc q * T + r < q * T + T := by omega
      _ = (q + 1) * T := by rw [Nat.succ_mul]
      _ ≤ S * T := Nat.mul_le_mul_right _ (by omega)
  unfold ltR
  split
  · rename_i h
    exact mc_size (prodM_good hM hJ hidx h).ok
  · exact mc_size zeroM_ok
theorem ltB_yes {A : Aut} {L p : Nat} (h : ltB A L p = true) : (setQ A L p).length ≤ 16 ∧ ltR A L p = setM A L p := by
  have h1 := of_decide_eq_true h
  exact ⟨h1, by unfold ltR; rw [if_pos h1]⟩
theorem ltB_no {A : Aut} {L p : Nat} (h : ltB A L p = false) : ¬ (setQ A L p).length ≤ 16 ∧ ltR A L p = zeroM := by
  have h1 := of_decide_eq_false h
  exact ⟨h1, by unfold ltR; rw [if_neg h1]⟩
theorem times_yes {M J : Mach} {L S T : Nat} (hM : Good M L S) (hJ : Good J L T) (bm bk p r : Nat) (hp : p < S) (hr : r < T) (h : ltB (prA M J T) L (p * T + r) = true) (w : World) (hBm : Blk w bm (mc M) 28) (hBk : Blk w bk (mc J) 28) :
    Calls Try.prog 50 #[.agg #[.pointer (some ⟨bm, 0, none⟩), .int .i64 (p : Int)], .agg #[.pointer (some ⟨bk, 0, none⟩), .int .i64 (r : Int)]] w fun e w' => e = .returned (.agg (mc (ltR (prA M J T) L (p * T + r)))) ∧ Below w.heap.size w w' := by
  obtain ⟨h1, h2⟩ := ltB_yes h
  rw [h2]
  exact times_ok M J L S T hM hJ bm bk p r hp hr h1 w hBm hBk
theorem times_no {M J : Mach} {L S T : Nat} (hM : Good M L S) (hJ : Good J L T) (bm bk p r : Nat) (hp : p < S) (hr : r < T) (h : ltB (prA M J T) L (p * T + r) = false) (w : World) (hBm : Blk w bm (mc M) 28) (hBk : Blk w bk (mc J) 28) :
    Calls Try.prog 50 #[.agg #[.pointer (some ⟨bm, 0, none⟩), .int .i64 (p : Int)], .agg #[.pointer (some ⟨bk, 0, none⟩), .int .i64 (r : Int)]] w fun e w' => e = gaveUp 3 ∧ Below w.heap.size w w' :=
  times_up M J L S T hM hJ bm bk p r hp hr (ltB_no h).1 w hBm hBk
/-- What 'ProductOfStates' answers. -/
def pdR (M : Mach) (q : Int) (J : Mach) (r : Int) : Mach := ltR (prA M J J.S.toNat) M.L.toNat (q.toNat * J.S.toNat + r.toNat)
def pdB (M : Mach) (q : Int) (J : Mach) (r : Int) : Bool := ltB (prA M J J.S.toNat) M.L.toNat (q.toNat * J.S.toNat + r.toNat)
theorem pd_eq {M J : Mach} {L S T : Nat} (hM : Good M L S) (hJ : Good J L T) (q r : Nat) : pdR M (q : Int) J (r : Int) = ltR (prA M J T) L (q * T + r) ∧ pdB M (q : Int) J (r : Int) = ltB (prA M J T) L (q * T + r) := by
  unfold pdR pdB
  rw [hM.hL, hJ.hS]
  simp [Int.toNat_natCast]
def prR (M : Mach) (q : Int) (J : Mach) (r : Int) : Mach := if twoC M q J r = 0 then pdR M q J r else zeroM
def prC (M : Mach) (q : Int) (J : Mach) (r : Int) : Int := if twoC M q J r = 0 then (if pdB M q J r = true then 0 else 3) else twoC M q J r
theorem ltR_ok {M J : Mach} {L S T q r : Nat} (hM : Good M L S) (hJ : Good J L T) (hq : q < S) (hr : r < T) : (ltR (prA M J T) L (q * T + r)).Ok := by
  have hidx : q * T + r < S * T := by
    calc q * T + r < q * T + T := by omega
      _ = (q + 1) * T := by rw [Nat.succ_mul]
      _ ≤ S * T := Nat.mul_le_mul_right _ (by omega)
  unfold ltR
  split
  · rename_i h
    exact (prodM_good hM hJ hidx h).ok
  · exact zeroM_ok
theorem prR_ok {M J : Mach} (hok : M.Ok) (hoj : J.Ok) (q r : Int) : (prR M q J r).Ok := by
  unfold prR
  split
  · rename_i h
    obtain ⟨L, S, T, qn, rn, hgM, hgJ, rfl, rfl, hq, hr⟩ := two_good hok hoj h
    rw [(pd_eq hgM hgJ qn rn).1]
    exact ltR_ok hgM hgJ hq hr
  · exact zeroM_ok
theorem built_gd2 (b : Nat) (x : Int) : Try.prog.built 57 [(0, .pointer (some ⟨b, 0, none⟩)), (1, .int .i64 x)] = some #[.pointer (some ⟨b, 0, none⟩), .int .i64 x] := by kernel_rfl

set_option maxRecDepth 100000 in
set_option maxHeartbeats 1000000 in
theorem prClosure_ok (M J : Mach) (L S T : Nat) (hgM : Good M L S) (hgJ : Good J L T) (q r : Nat) (hq : q < S) (hr : r < T) (h : ltB (prA M J T) L (q * T + r) = true) (bm bq bj br : Nat) (w : World)
    (hM : Blk w bm (mc M) 28) (hQ : Blk w bq #[.int .i64 (q : Int)] 2) (hJ : Blk w bj (mc J) 28) (hR : Blk w br #[.int .i64 (r : Int)] 2) :
    Calls Try.prog 49 #[.pointer (some ⟨bm, 0, none⟩), .pointer (some ⟨bq, 0, none⟩), .pointer (some ⟨bj, 0, none⟩), .pointer (some ⟨br, 0, none⟩)] w fun e w' => e = .returned (.agg (mc (ltR (prA M J T) L (q * T + r)))) ∧ Below w.heap.size w w' := by
  have hz := zero_mach
  have hzg := zero_guide
  have HzS : Hid ((mc zeroM).size = 98) := Lib.hid (mc_size zeroM_ok)
  have HT := Lib.hid (fun W (h1 : Blk W bm (mc M) 28) (h2 : Blk W bj (mc J) 28) => times_yes hgM hgJ bm bj q r hq hr h W h1 h2)
  have HRs := Lib.hid (ltR_size hgM hgJ hq hr)
  generalize ltR (prA M J T) L (q * T + r) = R at *
  have Hov : Hid (over (mc zeroM) 0 (mc R) = mc R) := Lib.hid (over_all _ _ (by rw [HRs.out, HzS.out]))
  have hM0 := hM.alloc (.cells (mc zeroM) 28)
  have hJ0 := hJ.alloc (.cells (mc zeroM) 28)
  have cQ := (hQ.alloc (.cells (mc zeroM) 28)).cell 0
  have cR := (hR.alloc (.cells (mc zeroM) 28)).cell 0
  simp only [List.getElem?_toArray, List.getElem?_cons_zero] at cQ cR
  have hX0 : Blk (w.alloc (.cells (mc zeroM) 28)) w.heap.size (mc zeroM) 28 := Blk.new _ _ _
  have hb0 : Below w.heap.size w (w.alloc (.cells (mc zeroM) 28)) := by (repeat (first | exact Below.refl _ _ | refine below_drew' ?_ | refine below_drewN' ?_ _ | refine below_alloc' ?_ _ | refine below_set' ?_ (by (try simp); (try omega)) _ | refine below_step ?_ (by assumption)))
  clear h hM hJ hQ hR hgM hgJ
  go_enter Try.func49, Try.ntmps49
  go_wp2_with (first | ((with_reducible show wpList _ _ _ _ _ _); refine wpList_build2 rfl 57 0 1 (.tmp 0) (.tmp 5) rfl (.pointer (some ⟨bm, 0, none⟩)) (.int .i64 (q : Int)) rfl rfl _ (built_gd2 bm q) ?_) | ((with_reducible show wpList _ _ _ _ _ _); refine wpList_build2 rfl 57 0 1 (.tmp 2) (.tmp 7) rfl (.pointer (some ⟨bj, 0, none⟩)) (.int .i64 (r : Int)) rfl rfl _ (built_gd2 bj r) ?_) | (go_at_call 50; refine (HT.out _ hM0 hJ0).mono ?_; rintro e w1 ⟨rfl, hc1⟩; have hX1 := hX0.keptAll hc1; have hb1 := below_step hb0 hc1) | ((with_reducible show wpList _ _ _ _ _ _); refine wpList_store_blk rfl 28 (.tmp 4) (.tmp 9) rfl w.heap.size 0 (mc R) rfl rfl (mc zeroM) 28 hX1 (by rw [HRs.out, HzS.out]; omega) (by rw [HRs.out]; exact size_mach) (mc_one _) ?_; intro w5 hb5 hkeep _ hbl; rw [Hov.out] at hb5; have hbw5 := hbl w.heap.size w (Nat.le_refl _) hb1; clear hkeep hbl))
  exact bodyPost_cell rfl rfl hb5 Try.underlying28 rfl (by rw [HRs.out]; exact size_mach) rfl ⟨rfl, hbw5⟩

set_option maxRecDepth 100000 in
set_option maxHeartbeats 1000000 in
theorem prClosure_up (M J : Mach) (L S T : Nat) (hgM : Good M L S) (hgJ : Good J L T) (q r : Nat) (hq : q < S) (hr : r < T) (h : ltB (prA M J T) L (q * T + r) = false) (bm bq bj br : Nat) (w : World)
    (hM : Blk w bm (mc M) 28) (hQ : Blk w bq #[.int .i64 (q : Int)] 2) (hJ : Blk w bj (mc J) 28) (hR : Blk w br #[.int .i64 (r : Int)] 2) :
    Calls Try.prog 49 #[.pointer (some ⟨bm, 0, none⟩), .pointer (some ⟨bq, 0, none⟩), .pointer (some ⟨bj, 0, none⟩), .pointer (some ⟨br, 0, none⟩)] w fun e w' => e = gaveUp 3 ∧ Below w.heap.size w w' := by
  have hz := zero_mach
  have hzg := zero_guide
  have HT := Lib.hid (fun W (h1 : Blk W bm (mc M) 28) (h2 : Blk W bj (mc J) 28) => times_no hgM hgJ bm bj q r hq hr h W h1 h2)
  have hM0 := hM.alloc (.cells (mc zeroM) 28)
  have hJ0 := hJ.alloc (.cells (mc zeroM) 28)
  have cQ := (hQ.alloc (.cells (mc zeroM) 28)).cell 0
  have cR := (hR.alloc (.cells (mc zeroM) 28)).cell 0
  simp only [List.getElem?_toArray, List.getElem?_cons_zero] at cQ cR
  have hb0 : Below w.heap.size w (w.alloc (.cells (mc zeroM) 28)) := by (repeat (first | exact Below.refl _ _ | refine below_drew' ?_ | refine below_drewN' ?_ _ | refine below_alloc' ?_ _ | refine below_set' ?_ (by (try simp); (try omega)) _ | refine below_step ?_ (by assumption)))
  clear h hM hJ hQ hR hgM hgJ
  go_enter Try.func49, Try.ntmps49
  go_wp2_with (first | ((with_reducible show wpList _ _ _ _ _ _); refine wpList_build2 rfl 57 0 1 (.tmp 0) (.tmp 5) rfl (.pointer (some ⟨bm, 0, none⟩)) (.int .i64 (q : Int)) rfl rfl _ (built_gd2 bm q) ?_) | ((with_reducible show wpList _ _ _ _ _ _); refine wpList_build2 rfl 57 0 1 (.tmp 2) (.tmp 7) rfl (.pointer (some ⟨bj, 0, none⟩)) (.int .i64 (r : Int)) rfl rfl _ (built_gd2 bj r) ?_) | (go_at_call 50; refine (HT.out _ hM0 hJ0).mono ?_; rintro e w1 ⟨he, hc1⟩; have hb1 := below_step hb0 hc1; unfold gaveUp at he; subst he))
  exact ⟨rfl, rfl, hb1⟩
end Go.Proofs.Ytkkooafjpancoaa

namespace Go.Proofs.Ytkkooafjpancoaa
open Go.RowKit

theorem run_fn (f : FuncId) (fn : Func) (hf : Try.prog.funcs[f]? = some fn) (hn : (fn.name == "runtime.NumGoroutine") = false) (hb : fn.body.isNone = false) (args : Array Value) (w : World) : (callFunc f args).run Try.prog w = .ok (.enter f args) w := by
  have h1 : ¬ fn.name = "runtime.NumGoroutine" := by simpa using hn
  have h2 : ¬ fn.body = none := fun e => by simp [e] at hb
  simp [callFunc, hf, h1, h2]

set_option maxRecDepth 100000 in
set_option maxHeartbeats 4000000 in
theorem iProductOfStates_calls (M : Mach) (hok : M.Ok) (q : Int) (J : Mach) (hoj : J.Ok) (r : Int) (w : World) :
    Calls Try.prog 22 #[.agg (mc M), .int .i64 q, .agg (mc J), .int .i64 r] w fun e w' => e = .returned (.tuple #[.agg (mc (prR M q J r)), .int .i64 (prC M q J r)]) ∧ Below w.heap.size w w' := by
  have hz := zero_mach
  have F1 : Hid (cut (mc M) 0 98 = mc M) := Lib.hid (cut_all _ _ (mc_size hok))
  have F2 : Hid (0 + 98 ≤ (mc M).size) := Lib.hid (by rw [mc_size hok]; omega)
  have G1 : Hid (cut (mc J) 0 98 = mc J) := Lib.hid (cut_all _ _ (mc_size hoj))
  have G2 : Hid (0 + 98 ≤ (mc J).size) := Lib.hid (by rw [mc_size hoj]; omega)
  have HzS : Hid ((mc zeroM).size = 98) := Lib.hid (mc_size zeroM_ok)
  have hmf : ∀ (fn : Fn) (first cap : Array Value) (w : World), (Instr.makeFunc fn first cap).run Try.prog w = .ok (.func fn first cap) w := fun _ _ _ _ => rfl
  have hM0 : Blk (((((w.alloc (.cells (mc M) 28)).alloc (.cells #[.int .i64 q] 2)).alloc (.cells (mc J) 28)).alloc (.cells #[.int .i64 r] 2)).alloc (.cells (mc zeroM) 28)) w.heap.size (mc M) 28 := ((((Blk.new w _ _).alloc _).alloc _).alloc _).alloc _
  have hQ0 : Blk (((((w.alloc (.cells (mc M) 28)).alloc (.cells #[.int .i64 q] 2)).alloc (.cells (mc J) 28)).alloc (.cells #[.int .i64 r] 2)).alloc (.cells (mc zeroM) 28)) (w.heap.size + 1) #[.int .i64 q] 2 := (((Blk.new_at _ _ _ _ (by simp)).alloc _).alloc _).alloc _
  have hJ0 : Blk (((((w.alloc (.cells (mc M) 28)).alloc (.cells #[.int .i64 q] 2)).alloc (.cells (mc J) 28)).alloc (.cells #[.int .i64 r] 2)).alloc (.cells (mc zeroM) 28)) (w.heap.size + 1 + 1) (mc J) 28 := ((Blk.new_at _ _ _ _ (by simp)).alloc _).alloc _
  have hR0 : Blk (((((w.alloc (.cells (mc M) 28)).alloc (.cells #[.int .i64 q] 2)).alloc (.cells (mc J) 28)).alloc (.cells #[.int .i64 r] 2)).alloc (.cells (mc zeroM) 28)) (w.heap.size + 1 + 1 + 1) #[.int .i64 r] 2 := (Blk.new_at _ _ _ _ (by simp)).alloc _
  have hX0 : Blk (((((w.alloc (.cells (mc M) 28)).alloc (.cells #[.int .i64 q] 2)).alloc (.cells (mc J) 28)).alloc (.cells #[.int .i64 r] 2)).alloc (.cells (mc zeroM) 28)) (w.heap.size + 1 + 1 + 1 + 1) (mc zeroM) 28 := Blk.new_at _ _ _ _ (by simp)
  have hb0 : Below w.heap.size w (((((w.alloc (.cells (mc M) 28)).alloc (.cells #[.int .i64 q] 2)).alloc (.cells (mc J) 28)).alloc (.cells #[.int .i64 r] 2)).alloc (.cells (mc zeroM) 28)) := by show Below _ _ (World.alloc _ _); (repeat (first | exact Below.refl _ _ | refine below_drew' ?_ | refine below_drewN' ?_ _ | refine below_alloc' ?_ _ | refine below_set' ?_ (by (try simp); (try omega)) _ | refine below_step ?_ (by assumption)))
  have cQ : ((((((w.alloc (.cells (mc M) 28)).alloc (.cells #[.int .i64 q] 2)).alloc (.cells (mc J) 28)).alloc (.cells #[.int .i64 r] 2)).alloc (.cells (mc zeroM) 28))).cell? ⟨w.heap.size + 1, 0, none⟩ = some (.int .i64 q) := hQ0.cell 0
  have cR : ((((((w.alloc (.cells (mc M) 28)).alloc (.cells #[.int .i64 q] 2)).alloc (.cells (mc J) 28)).alloc (.cells #[.int .i64 r] 2)).alloc (.cells (mc zeroM) 28))).cell? ⟨w.heap.size + 1 + 1 + 1, 0, none⟩ = some (.int .i64 r) := hR0.cell 0
  by_cases h0 : twoC M q J r = 0
  · obtain ⟨L, S, T, qn, rn, hgM, hgJ, rfl, rfl, hq, hr⟩ := two_good hok hoj h0
    obtain ⟨e1, e2⟩ := pd_eq hgM hgJ qn rn
    have hcf : ∀ (bm bq bj br : Nat) (w : World), (callFunc 49 #[.pointer (some ⟨bm, 0, none⟩), .pointer (some ⟨bq, 0, none⟩), .pointer (some ⟨bj, 0, none⟩), .pointer (some ⟨br, 0, none⟩)]).run Try.prog w = .ok (.enter 49 #[.pointer (some ⟨bm, 0, none⟩), .pointer (some ⟨bq, 0, none⟩), .pointer (some ⟨bj, 0, none⟩), .pointer (some ⟨br, 0, none⟩)]) w := fun _ _ _ _ _ => run_fn _ _ Try.func49 (by kernel_rfl) (by kernel_rfl) _ _
    have HCh := Lib.hid (fun W => checkStates_calls M J hok hoj qn rn W)
    rw [h0] at HCh
    cases hB : ltB (prA M J T) L (qn * T + rn)
    · have HRR : Hid (prR M qn J rn = zeroM) := Lib.hid (by unfold prR; rw [if_pos h0, e1]; exact (ltB_no hB).2)
      have HCC : Hid (prC M qn J rn = 3) := Lib.hid (by unfold prC; rw [if_pos h0, e2, hB]; rfl)
      have HD : Hid (∀ W, Blk W w.heap.size (mc M) 28 → Blk W (w.heap.size + 1) #[.int .i64 (qn : Int)] 2 → Blk W (w.heap.size + 1 + 1) (mc J) 28 → Blk W (w.heap.size + 1 + 1 + 1) #[.int .i64 (rn : Int)] 2 → Calls Try.prog 48 #[.func (.func 49) #[] #[.pointer (some ⟨w.heap.size, 0, none⟩), .pointer (some ⟨w.heap.size + 1, 0, none⟩), .pointer (some ⟨w.heap.size + 1 + 1, 0, none⟩), .pointer (some ⟨w.heap.size + 1 + 1 + 1, 0, none⟩)]] W fun e w' => e = .returned (.tuple #[.agg (mc zeroM), .int .i64 3]) ∧ Below W.heap.size W w') := Lib.hid (fun W h1 h2 h3 h4 => by
        have hal : Below W.heap.size W ((W.alloc (.cells (mc zeroM) 28)).alloc (.cells #[.int .i64 0] 2)) := by show Below _ _ (World.alloc _ _); (repeat (first | exact Below.refl _ _ | refine below_drew' ?_ | refine below_drewN' ?_ _ | refine below_alloc' ?_ _ | refine below_set' ?_ (by (try simp); (try omega)) _ | refine below_step ?_ (by assumption)))
        refine doorM_up _ _ W 3 (hcf _ _ _ _) ((prClosure_up M J L S T hgM hgJ qn rn hq hr hB _ _ _ _ _ (h1.keptAll hal) (h2.keptAll hal) (h3.keptAll hal) (h4.keptAll hal)).mono fun e w' h => ⟨h.1, ?_⟩)
        have h5 := h.2
        rwa [show ((W.alloc (.cells (mc zeroM) 28)).alloc (.cells #[.int .i64 0] 2)).heap.size = W.heap.size + 1 + 1 by simp] at h5)
      clear h0 hgM hgJ e1 e2 hB hcf
      go_enter Try.func22, Try.ntmps22
      go_wp2_with (first | (with_reducible show wpList _ _ _ _ _ _; refine wpList_load_blk rfl 28 (.tmp 4) rfl w.heap.size 0 rfl (mc M) _ (by first | exact hM0) 98 F2.out _ Try.underlying28 rfl size_mach ?_; rw [F1.out]) | (with_reducible show wpList _ _ _ _ _ _; refine wpList_load_blk rfl 28 (.tmp 6) rfl (w.heap.size + 1 + 1) 0 rfl (mc J) _ (by first | exact hJ0) 98 G2.out _ Try.underlying28 rfl size_mach ?_; rw [G1.out]) | (go_at_call 47; refine (HCh.out _).mono ?_; rintro e w1 ⟨rfl, hc1⟩; have hM1 := hM0.keptAll hc1; have hQ1 := hQ0.keptAll hc1; have hJ1 := hJ0.keptAll hc1; have hR1 := hR0.keptAll hc1; have hX1 := hX0.keptAll hc1; have hb1 := below_step hb0 hc1) | (go_at_call 48; refine (HD.out _ hM1 hQ1 hJ1 hR1).mono ?_; rintro e w2 ⟨rfl, hc2⟩; have hX2 := hX1.keptAll hc2; have hb2 := below_step hb1 hc2) | ((with_reducible show wpList _ _ _ _ _ _); refine wpList_store_blk rfl 28 (.tmp 8) (.tmp 22) rfl (w.heap.size + 1 + 1 + 1 + 1) 0 (mc zeroM) rfl rfl (mc zeroM) 28 hX2 (by first | (rw [HzS.out, HzS.out]; omega) | (rw [HzS.out]; omega)) (by rw [HzS.out]; exact size_mach) (mc_one _) ?_; intro w3 hXw3 hkeep _ hbl; rw [zero_over] at hXw3; have hbw3 := hbl w.heap.size w (by omega) hb2; clear hkeep hbl))
      exact bodyPost_cell1 rfl rfl hXw3 Try.underlying28 rfl (by rw [HzS.out]; exact size_mach) rfl ⟨by rw [HRR.out, HCC.out]; rfl, hbw3⟩
    · have HRR : Hid (prR M qn J rn = ltR (prA M J T) L (qn * T + rn)) := Lib.hid (by unfold prR; rw [if_pos h0, e1])
      have HCC : Hid (prC M qn J rn = 0) := Lib.hid (by unfold prC; rw [if_pos h0, e2, hB]; rfl)
      have hRs := ltR_size hgM hgJ hq hr
      have HD : Hid (∀ W, Blk W w.heap.size (mc M) 28 → Blk W (w.heap.size + 1) #[.int .i64 (qn : Int)] 2 → Blk W (w.heap.size + 1 + 1) (mc J) 28 → Blk W (w.heap.size + 1 + 1 + 1) #[.int .i64 (rn : Int)] 2 → Calls Try.prog 48 #[.func (.func 49) #[] #[.pointer (some ⟨w.heap.size, 0, none⟩), .pointer (some ⟨w.heap.size + 1, 0, none⟩), .pointer (some ⟨w.heap.size + 1 + 1, 0, none⟩), .pointer (some ⟨w.heap.size + 1 + 1 + 1, 0, none⟩)]] W fun e w' => e = .returned (.tuple #[.agg (mc (ltR (prA M J T) L (qn * T + rn))), .int .i64 0]) ∧ Below W.heap.size W w') := Lib.hid (fun W h1 h2 h3 h4 => by
        have hal : Below W.heap.size W ((W.alloc (.cells (mc zeroM) 28)).alloc (.cells #[.int .i64 0] 2)) := by show Below _ _ (World.alloc _ _); (repeat (first | exact Below.refl _ _ | refine below_drew' ?_ | refine below_drewN' ?_ _ | refine below_alloc' ?_ _ | refine below_set' ?_ (by (try simp); (try omega)) _ | refine below_step ?_ (by assumption)))
        refine doorM_ok _ _ W _ hRs (hcf _ _ _ _) ((prClosure_ok M J L S T hgM hgJ qn rn hq hr hB _ _ _ _ _ (h1.keptAll hal) (h2.keptAll hal) (h3.keptAll hal) (h4.keptAll hal)).mono fun e w' h => ⟨h.1, ?_⟩)
        have h5 := h.2
        rwa [show ((W.alloc (.cells (mc zeroM) 28)).alloc (.cells #[.int .i64 0] 2)).heap.size = W.heap.size + 1 + 1 by simp] at h5)
      have HRs := Lib.hid hRs
      clear h0 hgM hgJ e1 e2 hB hRs hcf
      generalize ltR (prA M J T) L (qn * T + rn) = R at *
      have Hov : Hid (over (mc zeroM) 0 (mc R) = mc R) := Lib.hid (over_all _ _ (by rw [HRs.out, HzS.out]))
      go_enter Try.func22, Try.ntmps22
      go_wp2_with (first | (with_reducible show wpList _ _ _ _ _ _; refine wpList_load_blk rfl 28 (.tmp 4) rfl w.heap.size 0 rfl (mc M) _ (by first | exact hM0) 98 F2.out _ Try.underlying28 rfl size_mach ?_; rw [F1.out]) | (with_reducible show wpList _ _ _ _ _ _; refine wpList_load_blk rfl 28 (.tmp 6) rfl (w.heap.size + 1 + 1) 0 rfl (mc J) _ (by first | exact hJ0) 98 G2.out _ Try.underlying28 rfl size_mach ?_; rw [G1.out]) | (go_at_call 47; refine (HCh.out _).mono ?_; rintro e w1 ⟨rfl, hc1⟩; have hM1 := hM0.keptAll hc1; have hQ1 := hQ0.keptAll hc1; have hJ1 := hJ0.keptAll hc1; have hR1 := hR0.keptAll hc1; have hX1 := hX0.keptAll hc1; have hb1 := below_step hb0 hc1) | (go_at_call 48; refine (HD.out _ hM1 hQ1 hJ1 hR1).mono ?_; rintro e w2 ⟨rfl, hc2⟩; have hX2 := hX1.keptAll hc2; have hb2 := below_step hb1 hc2) | ((with_reducible show wpList _ _ _ _ _ _); refine wpList_store_blk rfl 28 (.tmp 8) (.tmp 22) rfl (w.heap.size + 1 + 1 + 1 + 1) 0 (mc R) rfl rfl (mc zeroM) 28 hX2 (by first | (rw [HRs.out, HzS.out]; omega) | (rw [HRs.out]; omega)) (by rw [HRs.out]; exact size_mach) (mc_one _) ?_; intro w3 hXw3 hkeep _ hbl; rw [Hov.out] at hXw3; have hbw3 := hbl w.heap.size w (by omega) hb2; clear hkeep hbl))
      exact bodyPost_cell1 rfl rfl hXw3 Try.underlying28 rfl (by rw [HRs.out]; exact size_mach) rfl ⟨by rw [HRR.out, HCC.out]; rfl, hbw3⟩
  · have HRR : Hid (prR M q J r = zeroM) := Lib.hid (by unfold prR; rw [if_neg h0])
    have HCC : Hid (prC M q J r = twoC M q J r) := Lib.hid (by unfold prC; rw [if_neg h0])
    have hne : (twoC M q J r == 0) = false := by simpa using h0
    have hne2 : (twoC M q J r != 0) = true := by simpa using h0
    clear h0
    go_enter Try.func22, Try.ntmps22
    go_wp2_with (first | (with_reducible show wpList _ _ _ _ _ _; refine wpList_load_blk rfl 28 (.tmp 4) rfl w.heap.size 0 rfl (mc M) _ (by first | exact hM0) 98 F2.out _ Try.underlying28 rfl size_mach ?_; rw [F1.out]) | (with_reducible show wpList _ _ _ _ _ _; refine wpList_load_blk rfl 28 (.tmp 6) rfl (w.heap.size + 1 + 1) 0 rfl (mc J) _ (by first | exact hJ0) 98 G2.out _ Try.underlying28 rfl size_mach ?_; rw [G1.out]) | (go_at_call 47; refine (checkStates_calls M J hok hoj q r _).mono ?_; rintro e w1 ⟨rfl, hc1⟩; have hX1 := hX0.keptAll hc1; have hb1 := below_step hb0 hc1) | ((with_reducible show wpList _ _ _ _ _ _); refine wpList_store_blk rfl 28 (.tmp 8) (.tmp 18) rfl (w.heap.size + 1 + 1 + 1 + 1) 0 (mc zeroM) rfl rfl (mc zeroM) 28 hX1 (by first | (rw [HzS.out, HzS.out]; omega) | (rw [HzS.out]; omega)) (by rw [HzS.out]; exact size_mach) (mc_one _) ?_; intro w3 hXw3 hkeep _ hbl; rw [zero_over] at hXw3; have hbw3 := hbl w.heap.size w (by omega) hb1; clear hkeep hbl))
    exact bodyPost_cell1 rfl rfl hXw3 Try.underlying28 rfl (by rw [HzS.out]; exact size_mach) rfl ⟨by rw [HRR.out, HCC.out]; rfl, hbw3⟩

set_option maxRecDepth 100000 in
set_option maxHeartbeats 4000000 in
theorem sProductOfStates_calls (M : Mach) (hok : M.Ok) (q : Int) (J : Mach) (hoj : J.Ok) (r : Int) (w : World) :
    Calls Try.prog 21 #[.agg (mc M), .int .i64 q, .agg (mc J), .int .i64 r] w fun e w' => e = .returned (.tuple #[.agg (mc (prR M q J r)), .int .i64 (prC M q J r)]) ∧ Below w.heap.size w w' := by
  have hz := zero_mach
  have F1 : Hid (cut (mc M) 0 98 = mc M) := Lib.hid (cut_all _ _ (mc_size hok))
  have F2 : Hid (0 + 98 ≤ (mc M).size) := Lib.hid (by rw [mc_size hok]; omega)
  have G1 : Hid (cut (mc J) 0 98 = mc J) := Lib.hid (cut_all _ _ (mc_size hoj))
  have G2 : Hid (0 + 98 ≤ (mc J).size) := Lib.hid (by rw [mc_size hoj]; omega)
  have HzS : Hid ((mc zeroM).size = 98) := Lib.hid (mc_size zeroM_ok)
  have hM0 : Blk (((w.alloc (.cells (mc M) 28)).alloc (.cells (mc J) 28)).alloc (.cells (mc zeroM) 28)) w.heap.size (mc M) 28 := ((Blk.new w _ _).alloc _).alloc _
  have hJ0 : Blk (((w.alloc (.cells (mc M) 28)).alloc (.cells (mc J) 28)).alloc (.cells (mc zeroM) 28)) (w.heap.size + 1) (mc J) 28 := (Blk.new_at _ _ _ _ (by simp)).alloc _
  have hX0 : Blk (((w.alloc (.cells (mc M) 28)).alloc (.cells (mc J) 28)).alloc (.cells (mc zeroM) 28)) (w.heap.size + 1 + 1) (mc zeroM) 28 := Blk.new_at _ _ _ _ (by simp)
  have hb0 : Below w.heap.size w (((w.alloc (.cells (mc M) 28)).alloc (.cells (mc J) 28)).alloc (.cells (mc zeroM) 28)) := by show Below _ _ (World.alloc _ _); (repeat (first | exact Below.refl _ _ | refine below_drew' ?_ | refine below_drewN' ?_ _ | refine below_alloc' ?_ _ | refine below_set' ?_ (by (try simp); (try omega)) _ | refine below_step ?_ (by assumption)))
  by_cases h0 : twoC M q J r = 0
  · obtain ⟨L, S, T, qn, rn, hgM, hgJ, rfl, rfl, hq, hr⟩ := two_good hok hoj h0
    obtain ⟨e1, e2⟩ := pd_eq hgM hgJ qn rn
    have HCh := Lib.hid (fun W => l07Both_calls M J hok hoj qn rn W)
    rw [h0] at HCh
    have HPr := Lib.hid (fun W => l07Product_calls M J L S T hgM hgJ qn rn hq hr W)
    have HRs := Lib.hid (ltR_size hgM hgJ hq hr)
    cases hB : ltB (prA M J T) L (qn * T + rn)
    · have HRR : Hid (prR M qn J rn = zeroM) := Lib.hid (by unfold prR; rw [if_pos h0, e1]; exact (ltB_no hB).2)
      have HCC : Hid (prC M qn J rn = 3) := Lib.hid (by unfold prC; rw [if_pos h0, e2, hB]; rfl)
      rw [hB] at HPr
      clear h0 hgM hgJ e1 e2 hB
      generalize ltR (prA M J T) L (qn * T + rn) = R at *
      have Hov : Hid (over (mc zeroM) 0 (mc R) = mc R) := Lib.hid (over_all _ _ (by rw [HRs.out, HzS.out]))
      go_enter Try.func21, Try.ntmps21
      go_wp2_with (first | (with_reducible show wpList _ _ _ _ _ _; refine wpList_load_blk rfl 28 (.tmp 4) rfl w.heap.size 0 rfl (mc M) _ (by first | exact hM1 | exact hM0) 98 F2.out _ Try.underlying28 rfl size_mach ?_; rw [F1.out]) | (with_reducible show wpList _ _ _ _ _ _; refine wpList_load_blk rfl 28 (.tmp 6) rfl (w.heap.size + 1) 0 rfl (mc J) _ (by first | exact hJ1 | exact hJ0) 98 G2.out _ Try.underlying28 rfl size_mach ?_; rw [G1.out]) | (go_at_call 45; refine (HCh.out _).mono ?_; rintro e w1 ⟨rfl, hc1⟩; have hM1 := hM0.keptAll hc1; have hJ1 := hJ0.keptAll hc1; have hX1 := hX0.keptAll hc1; have hb1 := below_step hb0 hc1) | (go_at_call 46; refine (HPr.out _).mono ?_; rintro e w2 ⟨rfl, hc2⟩; have hX2 := hX1.keptAll hc2; have hb2 := below_step hb1 hc2; have hlt2 := hX2.lt; have hge2 := hb2.size; have hX3 := hX2.alloc (.cells (mc zeroM) 28); have hY2 : Blk (w2.alloc (.cells (mc zeroM) 28)) w2.heap.size (mc zeroM) 28 := Blk.new _ _ _; have hb3 := below_alloc' hb2 (.cells (mc zeroM) 28)) | ((with_reducible show wpList _ _ _ _ _ _); refine wpList_store_blk rfl 28 (.tmp 11) (.tmp 28) rfl w2.heap.size 0 (mc R) rfl rfl (mc zeroM) 28 hY2 (by first | (rw [HRs.out, HzS.out]; omega) | (rw [HRs.out]; omega)) (by rw [HRs.out]; exact size_mach) (mc_one _) ?_; intro w4 hXw4 hkeep _ hbl; rw [Hov.out] at hXw4; have hbw4 := hbl w.heap.size w (hge2) hb3; have hX4 := hkeep (w.heap.size + 1 + 1) _ _ (by omega) hX3; clear hkeep hbl) | ((with_reducible show wpList _ _ _ _ _ _); refine wpList_store_blk rfl 28 (.tmp 8) (.tmp 32) rfl (w.heap.size + 1 + 1) 0 (mc zeroM) rfl rfl (mc zeroM) 28 hX4 (by first | (rw [HzS.out, HzS.out]; omega) | (rw [HzS.out]; omega)) (by rw [HzS.out]; exact size_mach) (mc_one _) ?_; intro w5 hXw5 hkeep _ hbl; rw [zero_over] at hXw5; have hbw5 := hbl w.heap.size w (by omega) hbw4; clear hkeep hbl))
      exact bodyPost_cell1 rfl rfl hXw5 Try.underlying28 rfl (by rw [HzS.out]; exact size_mach) rfl ⟨by rw [HRR.out, HCC.out]; rfl, hbw5⟩
    · have HRR : Hid (prR M qn J rn = ltR (prA M J T) L (qn * T + rn)) := Lib.hid (by unfold prR; rw [if_pos h0, e1])
      have HCC : Hid (prC M qn J rn = 0) := Lib.hid (by unfold prC; rw [if_pos h0, e2, hB]; rfl)
      rw [hB] at HPr
      clear h0 hgM hgJ e1 e2 hB
      generalize ltR (prA M J T) L (qn * T + rn) = R at *
      have Hov : Hid (over (mc zeroM) 0 (mc R) = mc R) := Lib.hid (over_all _ _ (by rw [HRs.out, HzS.out]))
      have Hcu : Hid (cut (mc R) 0 98 = mc R) := Lib.hid (cut_all _ _ HRs.out)
      go_enter Try.func21, Try.ntmps21
      go_wp2_with (first | (with_reducible show wpList _ _ _ _ _ _; refine wpList_load_blk rfl 28 (.tmp 4) rfl w.heap.size 0 rfl (mc M) _ (by first | exact hM1 | exact hM0) 98 F2.out _ Try.underlying28 rfl size_mach ?_; rw [F1.out]) | (with_reducible show wpList _ _ _ _ _ _; refine wpList_load_blk rfl 28 (.tmp 6) rfl (w.heap.size + 1) 0 rfl (mc J) _ (by first | exact hJ1 | exact hJ0) 98 G2.out _ Try.underlying28 rfl size_mach ?_; rw [G1.out]) | (go_at_call 45; refine (HCh.out _).mono ?_; rintro e w1 ⟨rfl, hc1⟩; have hM1 := hM0.keptAll hc1; have hJ1 := hJ0.keptAll hc1; have hX1 := hX0.keptAll hc1; have hb1 := below_step hb0 hc1) | (go_at_call 46; refine (HPr.out _).mono ?_; rintro e w2 ⟨rfl, hc2⟩; have hX2 := hX1.keptAll hc2; have hb2 := below_step hb1 hc2; have hlt2 := hX2.lt; have hge2 := hb2.size; have hX3 := hX2.alloc (.cells (mc zeroM) 28); have hY2 : Blk (w2.alloc (.cells (mc zeroM) 28)) w2.heap.size (mc zeroM) 28 := Blk.new _ _ _; have hb3 := below_alloc' hb2 (.cells (mc zeroM) 28)) | ((with_reducible show wpList _ _ _ _ _ _); refine wpList_store_blk rfl 28 (.tmp 11) (.tmp 28) rfl w2.heap.size 0 (mc R) rfl rfl (mc zeroM) 28 hY2 (by first | (rw [HRs.out, HzS.out]; omega) | (rw [HRs.out]; omega)) (by rw [HRs.out]; exact size_mach) (mc_one _) ?_; intro w4 hXw4 hkeep _ hbl; rw [Hov.out] at hXw4; have hbw4 := hbl w.heap.size w (hge2) hb3; have hX4 := hkeep (w.heap.size + 1 + 1) _ _ (by omega) hX3; clear hkeep hbl) | ((with_reducible show wpList _ _ _ _ _ _); refine wpList_load_blk rfl 28 (.tmp 11) rfl w2.heap.size 0 rfl _ _ hXw4 98 (by rw [HRs.out]; omega) _ Try.underlying28 rfl size_mach ?_; rw [Hcu.out]) | ((with_reducible show wpList _ _ _ _ _ _); refine wpList_store_blk rfl 28 (.tmp 8) (.tmp 33) rfl (w.heap.size + 1 + 1) 0 (mc R) rfl rfl (mc zeroM) 28 hX4 (by first | (rw [HRs.out, HzS.out]; omega) | (rw [HRs.out]; omega)) (by rw [HRs.out]; exact size_mach) (mc_one _) ?_; intro w5 hXw5 hkeep _ hbl; rw [Hov.out] at hXw5; have hbw5 := hbl w.heap.size w (by omega) hbw4; clear hkeep hbl))
      exact bodyPost_cell1 rfl rfl hXw5 Try.underlying28 rfl (by rw [HRs.out]; exact size_mach) rfl ⟨by rw [HRR.out, HCC.out]; rfl, hbw5⟩
  · have HRR : Hid (prR M q J r = zeroM) := Lib.hid (by unfold prR; rw [if_neg h0])
    have HCC : Hid (prC M q J r = twoC M q J r) := Lib.hid (by unfold prC; rw [if_neg h0])
    have hne : (twoC M q J r == 0) = false := by simpa using h0
    have hne2 : (twoC M q J r != 0) = true := by simpa using h0
    clear h0
    go_enter Try.func21, Try.ntmps21
    go_wp2_with (first | (with_reducible show wpList _ _ _ _ _ _; refine wpList_load_blk rfl 28 (.tmp 4) rfl w.heap.size 0 rfl (mc M) _ (by first | exact hM0) 98 F2.out _ Try.underlying28 rfl size_mach ?_; rw [F1.out]) | (with_reducible show wpList _ _ _ _ _ _; refine wpList_load_blk rfl 28 (.tmp 6) rfl (w.heap.size + 1) 0 rfl (mc J) _ (by first | exact hJ0) 98 G2.out _ Try.underlying28 rfl size_mach ?_; rw [G1.out]) | (go_at_call 45; refine (l07Both_calls M J hok hoj q r _).mono ?_; rintro e w1 ⟨rfl, hc1⟩; have hX1 := hX0.keptAll hc1; have hb1 := below_step hb0 hc1) | ((with_reducible show wpList _ _ _ _ _ _); refine wpList_store_blk rfl 28 (.tmp 8) (.tmp 20) rfl (w.heap.size + 1 + 1) 0 (mc zeroM) rfl rfl (mc zeroM) 28 hX1 (by first | (rw [HzS.out, HzS.out]; omega) | (rw [HzS.out]; omega)) (by rw [HzS.out]; exact size_mach) (mc_one _) ?_; intro w3 hXw3 hkeep _ hbl; rw [zero_over] at hXw3; have hbw3 := hbl w.heap.size w (by omega) hb1; clear hkeep hbl))
    exact bodyPost_cell1 rfl rfl hXw3 Try.underlying28 rfl (by rw [HzS.out]; exact size_mach) rfl ⟨by rw [HRR.out, HCC.out]; rfl, hbw3⟩
end Go.Proofs.Ytkkooafjpancoaa
