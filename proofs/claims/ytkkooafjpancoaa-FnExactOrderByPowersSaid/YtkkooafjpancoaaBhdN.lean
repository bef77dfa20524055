/- The door that meets a search's panic, for int64. Written by gen/bhd.py. -/
import Derived.Test.YtkkooafjpancoaaBhd
namespace Go.Proofs.Ytkkooafjpancoaa
open Go.RowKit

theorem catchN_panicking (p : Addr) (x c : Int) (older : List PanicEntry) (w : World) (hc : w.cell? p = some (.int .i64 x)) (hz : w.frozen? p = false) :
    CallsD Try.prog 79 #[.pointer (some p)] (.panicking ({ v := .iface 85 (.int .i64 c), recovered := false } :: older)) w fun e u' w' =>
      e = .returned (.tuple #[]) ∧ u' = .panicking ({ v := .iface 85 (.int .i64 c), recovered := true } :: older) ∧ w' = w.setCell p (.int .i64 c) := by
  refine callsD_of_wpS Try.func79 rfl fun c₀ cs hu => ?_
  apply wpS_seq
  apply wpS_region
  simp [wpOpsS, go_sem, recoverD, hu, Try.ntmps79, Exit.thenS]
  apply wpS_seq
  apply wpS_region
  simp [wpOpsS, go_sem, Exit.thenS]
  refine wpS_cond (t := true) (by simp [Act.eval, Array.replicate]) ?_
  simp only [if_true]
  apply wpS_region
  simp [wpOpsS, go_sem, asUp, hc, hz, bodyPostS, results, Try.results79]

theorem catchN_idle (p : Addr) (w : World) :
    CallsD Try.prog 79 #[.pointer (some p)] .returning w fun e u' w' => e = .returned (.tuple #[]) ∧ u' = .returning ∧ w' = w := by
  refine callsD_of_wpS Try.func79 rfl fun c₀ cs hu => ?_
  apply wpS_seq
  apply wpS_region
  simp [wpOpsS, go_sem, recoverD, hu, Try.ntmps79, Exit.thenS]
  apply wpS_seq
  apply wpS_region
  simp [wpOpsS, go_sem, Exit.thenS]
  refine wpS_cond (t := false) (by simp [Act.eval, Array.replicate]) ?_
  simp only [Bool.false_eq_true, if_false]
  refine wpS_of_wp (wp_skip ?_)
  cases c₀
  simp_all [bodyPostS, results, Try.results79]

set_option maxRecDepth 100000 in
theorem behindDoorN_ok (f : FuncId) (cap : Array Value) (w : World) (OK : Value → World → Prop)
    (hcf : ∀ w : World, (callFunc f cap).run Try.prog w = .ok (.enter f cap) w)
    (hS : Calls Try.prog f cap (w.alloc (.cells #[.int .i64 0] 2)) fun e w' => ∃ v, e = .returned v ∧ OK v w' ∧ Below (w.heap.size + 1) (w.alloc (.cells #[.int .i64 0] 2)) w') :
    Calls Try.prog 59 #[.func (.func f) #[] cap] w fun e w' => ∃ v w2, e = .returned (.tuple #[v, .int .i64 0]) ∧ OK v w2 ∧ Below (w.heap.size + 1) (w.alloc (.cells #[.int .i64 0] 2)) w2 ∧ w' = w2.setCell ⟨w.heap.size, 0, none⟩ (.int .i64 0) := by
  have hmf : ∀ (fn : Fn) (first cap : Array Value) (w : World), (Instr.makeFunc fn first cap).run Try.prog w = .ok (.func fn first cap) w := fun _ _ _ _ => rfl
  have hB : Blk (w.alloc (.cells #[.int .i64 0] 2)) w.heap.size #[.int .i64 0] 2 := Blk.new w _ _
  go_enter_defers Try.func59, Try.ntmps59
  go_wp2_with (with_reducible refine hS.mono ?_; rintro e w2 ⟨v, rfl, hv, hb⟩; have hB2 := Blk.kept hB hb (by omega); have hc0 := hB2.cell 0; have hf0 := hB2.free)
  refine leaves_cons (f := 79) (args := #[.pointer (some ⟨w.heap.size, 0, none⟩)]) (by simp) (by simp [go_sem]) ?_
  refine (catchN_idle ⟨w.heap.size, 0, none⟩ _).mono ?_
  rintro e u' w'' ⟨rfl, rfl, rfl⟩
  have hc1 := (hB2.set 0 (.int .i64 0)).cell 0
  simp at hc1
  simp [Leaves, settle, results, Try.results59, go_sem, hc1]
  exact ⟨w2, hv, hb, rfl⟩

set_option maxRecDepth 100000 in
theorem behindDoorN_up (f : FuncId) (cap : Array Value) (w : World) (c : Int) (Bad : World → Prop)
    (hcf : ∀ w : World, (callFunc f cap).run Try.prog w = .ok (.enter f cap) w)
    (hS : Calls Try.prog f cap (w.alloc (.cells #[.int .i64 0] 2)) fun e w' => e = gaveUp c ∧ Bad w' ∧ Below (w.heap.size + 1) (w.alloc (.cells #[.int .i64 0] 2)) w') :
    Calls Try.prog 59 #[.func (.func f) #[] cap] w fun e w' => ∃ w2, e = .returned (.tuple #[(.int .i64 0), .int .i64 c]) ∧ Bad w2 ∧ Below (w.heap.size + 1) (w.alloc (.cells #[.int .i64 0] 2)) w2 ∧ w' = w2.setCell ⟨w.heap.size, 0, none⟩ (.int .i64 c) := by
  have hmf : ∀ (fn : Fn) (first cap : Array Value) (w : World), (Instr.makeFunc fn first cap).run Try.prog w = .ok (.func fn first cap) w := fun _ _ _ _ => rfl
  have hB : Blk (w.alloc (.cells #[.int .i64 0] 2)) w.heap.size #[.int .i64 0] 2 := Blk.new w _ _
  go_enter_defers Try.func59, Try.ntmps59
  go_wp2_with (with_reducible refine hS.mono ?_; rintro e w2 ⟨he, hv, hb⟩; unfold gaveUp at he; subst he; have hB2 := Blk.kept hB hb (by omega); have hc0 := hB2.cell 0; have hf0 := hB2.free)
  refine leaves_cons (f := 79) (args := #[.pointer (some ⟨w.heap.size, 0, none⟩)]) (by simp) (by simp [go_sem]) ?_
  refine (catchN_panicking ⟨w.heap.size, 0, none⟩ 0 c [] _ (by simpa using hc0) (hf0 _)).mono ?_
  rintro e u' w'' ⟨rfl, rfl, rfl⟩
  have hc1 := (hB2.set 0 (.int .i64 c)).cell 0
  simp at hc1
  simp [Leaves, settle, results, Try.results59, go_sem, hc1]
  exact ⟨_, hv, hb, rfl⟩
end Go.Proofs.Ytkkooafjpancoaa
