/- The door that meets a panic, for machines. Written by gen/genbhm.py. -/
import Derived.Test.YtkkooafjpancoaaBhd
import Derived.Test.YtkkooafjpancoaaInvI
import Derived.Test.YtkkooafjpancoaaHeldK
namespace Go.Proofs.Ytkkooafjpancoaa
open Go.RowKit

theorem catchM_panicking (p : Addr) (x c : Int) (older : List PanicEntry) (w : World) (hc : w.cell? p = some (.int .i64 x)) (hz : w.frozen? p = false) :
    CallsD Try.prog 74 #[.pointer (some p)] (.panicking ({ v := .iface 85 (.int .i64 c), recovered := false } :: older)) w fun e u' w' =>
      e = .returned (.tuple #[]) ∧ u' = .panicking ({ v := .iface 85 (.int .i64 c), recovered := true } :: older) ∧ w' = w.setCell p (.int .i64 c) := by
  refine callsD_of_wpS Try.func74 rfl fun c₀ cs hu => ?_
  apply wpS_seq
  apply wpS_region
  simp [wpOpsS, go_sem, recoverD, hu, Try.ntmps74, Exit.thenS]
  apply wpS_seq
  apply wpS_region
  simp [wpOpsS, go_sem, Exit.thenS]
  refine wpS_cond (t := true) (by simp [Act.eval, Array.replicate]) ?_
  simp only [if_true]
  apply wpS_region
  simp [wpOpsS, go_sem, asUp, hc, hz, bodyPostS, results, Try.results74]

theorem catchM_idle (p : Addr) (w : World) :
    CallsD Try.prog 74 #[.pointer (some p)] .returning w fun e u' w' => e = .returned (.tuple #[]) ∧ u' = .returning ∧ w' = w := by
  refine callsD_of_wpS Try.func74 rfl fun c₀ cs hu => ?_
  apply wpS_seq
  apply wpS_region
  simp [wpOpsS, go_sem, recoverD, hu, Try.ntmps74, Exit.thenS]
  apply wpS_seq
  apply wpS_region
  simp [wpOpsS, go_sem, Exit.thenS]
  refine wpS_cond (t := false) (by simp [Act.eval, Array.replicate]) ?_
  simp only [Bool.false_eq_true, if_false]
  refine wpS_of_wp (wp_skip ?_)
  cases c₀
  simp_all [bodyPostS, results, Try.results74]


set_option maxRecDepth 100000 in
set_option maxHeartbeats 1000000 in
theorem doorM_ok (f : FuncId) (cap : Array Value) (w : World) (R : Mach) (hRs : (mc R).size = 98)
    (hcf : ∀ w : World, (callFunc f cap).run Try.prog w = .ok (.enter f cap) w)
    (hS : Calls Try.prog f cap ((w.alloc (.cells (mc zeroM) 28)).alloc (.cells #[.int .i64 0] 2)) fun e w' => e = .returned (.agg (mc R)) ∧ Below (w.heap.size + 1 + 1) ((w.alloc (.cells (mc zeroM) 28)).alloc (.cells #[.int .i64 0] 2)) w') :
    Calls Try.prog 48 #[.func (.func f) #[] cap] w fun e w' => e = .returned (.tuple #[.agg (mc R), .int .i64 0]) ∧ Below w.heap.size w w' := by
  have hz := zero_mach
  have hmf : ∀ (fn : Fn) (first cap : Array Value) (w : World), (Instr.makeFunc fn first cap).run Try.prog w = .ok (.func fn first cap) w := fun _ _ _ _ => rfl
  have HzS : Hid ((mc zeroM).size = 98) := Lib.hid (mc_size zeroM_ok)
  have hR0 : Blk ((w.alloc (.cells (mc zeroM) 28)).alloc (.cells #[.int .i64 0] 2)) w.heap.size (mc zeroM) 28 := (Blk.new _ _ _).alloc _
  have hC0 : Blk ((w.alloc (.cells (mc zeroM) 28)).alloc (.cells #[.int .i64 0] 2)) (w.heap.size + 1) #[.int .i64 0] 2 := Blk.new_at _ _ _ _ (by simp)
  have hb0 : Below w.heap.size w ((w.alloc (.cells (mc zeroM) 28)).alloc (.cells #[.int .i64 0] 2)) := by show Below _ _ (World.alloc _ _); (repeat (first | exact Below.refl _ _ | refine below_drew' ?_ | refine below_drewN' ?_ _ | refine below_alloc' ?_ _ | refine below_set' ?_ (by (try simp); (try omega)) _ | refine below_step ?_ (by assumption)))
  have Hov : Hid (over (mc zeroM) 0 (mc R) = mc R) := Lib.hid (over_all _ _ (by rw [hRs, HzS.out]))
  have HRs := Lib.hid hRs
  clear hRs
  go_enter_defers Try.func48, Try.ntmps48
  go_wp2_with (first | ((with_reducible refine hS.mono ?_); rintro e w2 ⟨rfl, hb⟩; have hR2 : Blk w2 w.heap.size (mc zeroM) 28 := (hb.block _ (by omega)).trans hR0; have hC2 : Blk w2 (w.heap.size + 1) #[.int .i64 0] 2 := (hb.block _ (by omega)).trans hC0; have hb2 := hb0.trans (below_le hb (by omega))) | ((with_reducible show wpList _ _ _ _ _ _); refine wpList_store_blk rfl 28 (.tmp 2) (.tmp 6) rfl w.heap.size 0 (mc R) rfl rfl (mc zeroM) 28 hR2 (by rw [HRs.out, HzS.out]; omega) (by rw [HRs.out]; exact size_mach) (mc_one _) ?_; intro w3 hR3 hkeep _ hbl; rw [Hov.out] at hR3; have hC3 := hkeep (w.heap.size + 1) _ _ (by omega) hC2; have hb3 := hbl w.heap.size w (Nat.le_refl _) hb2; have hc0 := hC3.cell 0; have hf0 := hC3.free; clear hkeep hbl))
  have hR4 := hR3.setOther (w.heap.size + 1) 0 (.int .i64 0) (by omega)
  have hC4 := (hC3.set 0 (.int .i64 0)).cell 0
  have hb4 := below_set' (o := 0) hb3 (b := w.heap.size + 1) (by omega) (.int .i64 0)
  refine leaves_cons (f := 74) (args := #[.pointer (some ⟨w.heap.size + 1, 0, none⟩)]) (by simp) (by simp [go_sem]) ?_
  refine (catchM_idle ⟨w.heap.size + 1, 0, none⟩ _).mono ?_
  rintro e u' w'' ⟨rfl, rfl, rfl⟩
  have hl := loadVar_blk (P := Try.prog) hR4 Try.underlying28 rfl (by rw [HRs.out]; exact size_mach)
  simp at hC4
  have hl2 : (loadVar 2 ⟨w.heap.size + 1, 0, none⟩).run Try.prog (w3.setCell ⟨w.heap.size + 1, 0, none⟩ (.int .i64 0)) = .ok (.int .i64 0) (w3.setCell ⟨w.heap.size + 1, 0, none⟩ (.int .i64 0)) := by simp [go_sem, hC4]
  simp [Leaves, settle, results, Try.results48, asAddr, hl, hl2]
  exact hb4

set_option maxRecDepth 100000 in
set_option maxHeartbeats 1000000 in
theorem doorM_up (f : FuncId) (cap : Array Value) (w : World) (c : Int)
    (hcf : ∀ w : World, (callFunc f cap).run Try.prog w = .ok (.enter f cap) w)
    (hS : Calls Try.prog f cap ((w.alloc (.cells (mc zeroM) 28)).alloc (.cells #[.int .i64 0] 2)) fun e w' => e = gaveUp c ∧ Below (w.heap.size + 1 + 1) ((w.alloc (.cells (mc zeroM) 28)).alloc (.cells #[.int .i64 0] 2)) w') :
    Calls Try.prog 48 #[.func (.func f) #[] cap] w fun e w' => e = .returned (.tuple #[.agg (mc zeroM), .int .i64 c]) ∧ Below w.heap.size w w' := by
  have hz := zero_mach
  have hmf : ∀ (fn : Fn) (first cap : Array Value) (w : World), (Instr.makeFunc fn first cap).run Try.prog w = .ok (.func fn first cap) w := fun _ _ _ _ => rfl
  have HzS : Hid ((mc zeroM).size = 98) := Lib.hid (mc_size zeroM_ok)
  have hR0 : Blk ((w.alloc (.cells (mc zeroM) 28)).alloc (.cells #[.int .i64 0] 2)) w.heap.size (mc zeroM) 28 := (Blk.new _ _ _).alloc _
  have hC0 : Blk ((w.alloc (.cells (mc zeroM) 28)).alloc (.cells #[.int .i64 0] 2)) (w.heap.size + 1) #[.int .i64 0] 2 := Blk.new_at _ _ _ _ (by simp)
  have hb0 : Below w.heap.size w ((w.alloc (.cells (mc zeroM) 28)).alloc (.cells #[.int .i64 0] 2)) := by show Below _ _ (World.alloc _ _); (repeat (first | exact Below.refl _ _ | refine below_drew' ?_ | refine below_drewN' ?_ _ | refine below_alloc' ?_ _ | refine below_set' ?_ (by (try simp); (try omega)) _ | refine below_step ?_ (by assumption)))

  go_enter_defers Try.func48, Try.ntmps48
  go_wp2_with ((with_reducible refine hS.mono ?_); rintro e w2 ⟨he, hb⟩; unfold gaveUp at he; subst he; have hR2 : Blk w2 w.heap.size (mc zeroM) 28 := (hb.block _ (by omega)).trans hR0; have hC2 : Blk w2 (w.heap.size + 1) #[.int .i64 0] 2 := (hb.block _ (by omega)).trans hC0; have hb2 := hb0.trans (below_le hb (by omega)); have hc0 := hC2.cell 0; have hf0 := hC2.free)
  have hR4 := hR2.setOther (w.heap.size + 1) 0 (.int .i64 c) (by omega)
  have hC4 := (hC2.set 0 (.int .i64 c)).cell 0
  have hb4 := below_set' (o := 0) hb2 (b := w.heap.size + 1) (by omega) (.int .i64 c)
  refine leaves_cons (f := 74) (args := #[.pointer (some ⟨w.heap.size + 1, 0, none⟩)]) (by simp) (by simp [go_sem]) ?_
  refine (catchM_panicking ⟨w.heap.size + 1, 0, none⟩ 0 c [] _ (by simpa using hc0) (hf0 _)).mono ?_
  rintro e u' w'' ⟨rfl, rfl, rfl⟩
  have hl := loadVar_blk (P := Try.prog) hR4 Try.underlying28 rfl (by rw [HzS.out]; exact size_mach)
  simp at hC4
  have hl2 : (loadVar 2 ⟨w.heap.size + 1, 0, none⟩).run Try.prog (w2.setCell ⟨w.heap.size + 1, 0, none⟩ (.int .i64 c)) = .ok (.int .i64 c) (w2.setCell ⟨w.heap.size + 1, 0, none⟩ (.int .i64 c)) := by simp [go_sem, hC4]
  simp [Leaves, settle, results, Try.results48, asAddr, hl, hl2]
  exact hb4
end Go.Proofs.Ytkkooafjpancoaa
