/- A region that draws its order, walked once over a class of worlds of our own: loads of known blocks, calls whose value does not hang on the world, plain values. A region that draws its order, walked once over a class of worlds of our own; each state is written out anew behind its operation ('(intro K hK; go_simp; refine hK _ ?_; clear hK K)'), guards are allowed. -/
import Derived.Test.YtgeihpaealomkaaDoorLaws
namespace Go.Proofs.YtgeihpaealomkaaDoor
open Go.RowKit
section
variable {P : Program} {ops : Array Oper} {C : World → Prop} {Q : Act → Prop} {a : Act} {o : Oper} {rest : List Oper}
theorem wpQuiet_val (hgd : o.guard = none) (v : Value) (hrun : ∀ W, C W → (execOp a.eval o).run P W = .ok (.value v) W) (h : wpQuiet P ops C Q rest (a.put o.dst v)) : wpQuiet P ops C Q (o :: rest) a := by
  unfold wpQuiet
  rw [if_pos (by simp [Region.wanted, hgd])]
  refine ⟨v, fun W hW => ?_, h⟩
  unfold Oper.quietAt
  rw [hrun W hW]
  exact ⟨rfl, rfl⟩
theorem wpQuiet_load_blk (hgd : o.guard = none) (ty : TypeId) (x : Operand) (ho : o.op = .load ty x) (b p : Nat) (hx : a.eval x = .pointer (some ⟨b, p, none⟩)) (c : Array Value) (T : TypeId) (hB : ∀ W, C W → Blk W b c T)
    (n : Nat) (hn : p + n ≤ c.size) (d : TypeDesc) (hu : P.underlying ty = some d) (hd : d.isRow = true) (hi : (P.info? ty).map (·.size) = some n)
    (h : wpQuiet P ops C Q rest (a.put o.dst (.agg (cut c p n)))) : wpQuiet P ops C Q (o :: rest) a := by
  refine wpQuiet_val hgd _ (fun W hW => ?_) h
  have hl : ((c.toList.drop p).take n).length = n := by simp; omega
  unfold execOp
  simp only [ho, hx, Instr.loadAt, Instr.sureAddr, Sem.run_bind, Sem.run_pure, Result.andThen_ok, run_loadVar_mid W b p ty ((c.toList.drop p).take n) d (rangeAt_sub (hB W hW) p n) hu hd (by rw [hi, hl])]
  rfl
theorem wpQuiet_call (hgd : o.guard = none) (f : FuncId) (xs : Array Operand) (tys : Array TypeId) (_ho : o.op = .call { callee := .value (.func f), args := xs, argTypes := tys }) (args : Array Value) (v : Value)
    (hrun : ∀ W, (execOp a.eval o).run P W = .ok (.enter f args) W) (hcall : ∀ W, C W → Calls P f args W fun e w'' => e = .returned v ∧ C w'')
    (h : wpQuiet P ops C Q rest (a.put o.dst v)) : wpQuiet P ops C Q (o :: rest) a := by
  unfold wpQuiet
  rw [if_pos (by simp [Region.wanted, hgd])]
  refine ⟨v, fun W hW => ?_, h⟩
  unfold Oper.quietAt
  rw [hrun W]
  exact ⟨rfl, hcall W hW⟩
end
end Go.Proofs.YtgeihpaealomkaaDoor

namespace Go.Proofs.YtgeihpaealomkaaDoor
open Go.RowKit
section
variable {P : Program} {ops : Array Oper} {C : World → Prop} {Q : Act → Prop} {a : Act} {o : Oper} {rest : List Oper}
/-- What follows, behind a variable. -/
def Then (P : Program) (ops : Array Oper) (C : World → Prop) (Q : Act → Prop) (rest : List Oper) (a : Act) : Prop := ∀ K : Act → Prop, (∀ a, wpQuiet P ops C Q rest a → K a) → K a
theorem Then.out (h : Then P ops C Q rest a) : wpQuiet P ops C Q rest a := h _ fun _ h => h
theorem wpK_on (hgd : Region.wanted o (yielded ops a.tmps) = true) (v : Value) (hrun : ∀ W, C W → (execOp a.eval o).run P W = .ok (.value v) W) (h : ∀ K : Act → Prop, (∀ a, wpQuiet P ops C Q rest a → K a) → K (a.put o.dst v)) : wpQuiet P ops C Q (o :: rest) a := by
  unfold wpQuiet
  rw [if_pos hgd]
  refine ⟨v, fun W hW => ?_, h _ fun _ h => h⟩
  unfold Oper.quietAt
  rw [hrun W hW]
  exact ⟨rfl, rfl⟩
theorem wpK_val (hgd : o.guard = none) (v : Value) (hrun : ∀ W, C W → (execOp a.eval o).run P W = .ok (.value v) W) (h : ∀ K : Act → Prop, (∀ a, wpQuiet P ops C Q rest a → K a) → K (a.put o.dst v)) : wpQuiet P ops C Q (o :: rest) a :=
  wpK_on (by simp [Region.wanted, hgd]) v hrun h
theorem wpK_off (hgd : Region.wanted o (yielded ops a.tmps) = false) (h : ∀ K : Act → Prop, (∀ a, wpQuiet P ops C Q rest a → K a) → K (a.put o.dst undef)) : wpQuiet P ops C Q (o :: rest) a := by
  unfold wpQuiet
  rw [if_neg (by rw [hgd]; decide)]
  exact h _ fun _ h => h
theorem wpK_call_on (hgd : Region.wanted o (yielded ops a.tmps) = true) (f : FuncId) (args : Array Value) (v : Value)
    (hrun : ∀ W, (execOp a.eval o).run P W = .ok (.enter f args) W) (hcall : ∀ W, C W → Calls P f args W fun e w'' => e = .returned v ∧ C w'')
    (h : ∀ K : Act → Prop, (∀ a, wpQuiet P ops C Q rest a → K a) → K (a.put o.dst v)) : wpQuiet P ops C Q (o :: rest) a := by
  unfold wpQuiet
  rw [if_pos hgd]
  refine ⟨v, fun W hW => ?_, h _ fun _ h => h⟩
  unfold Oper.quietAt
  rw [hrun W]
  exact ⟨rfl, hcall W hW⟩
theorem wpK_call (hgd : o.guard = none) (f : FuncId) (args : Array Value) (v : Value)
    (hrun : ∀ W, (execOp a.eval o).run P W = .ok (.enter f args) W) (hcall : ∀ W, C W → Calls P f args W fun e w'' => e = .returned v ∧ C w'')
    (h : ∀ K : Act → Prop, (∀ a, wpQuiet P ops C Q rest a → K a) → K (a.put o.dst v)) : wpQuiet P ops C Q (o :: rest) a :=
  wpK_call_on (by simp [Region.wanted, hgd]) f args v hrun hcall h
theorem wpK_load_on (hgd : Region.wanted o (yielded ops a.tmps) = true) (ty : TypeId) (x : Operand) (ho : o.op = .load ty x) (b p : Nat) (hx : a.eval x = .pointer (some ⟨b, p, none⟩)) (c : Array Value) (T : TypeId) (hB : ∀ W, C W → Blk W b c T)
    (n : Nat) (hn : p + n ≤ c.size) (d : TypeDesc) (hu : P.underlying ty = some d) (hd : d.isRow = true) (hi : (P.info? ty).map (·.size) = some n) (c' : Array Value) (hc' : cut c p n = c')
    (h : ∀ K : Act → Prop, (∀ a, wpQuiet P ops C Q rest a → K a) → K (a.put o.dst (.agg c'))) : wpQuiet P ops C Q (o :: rest) a := by
  subst hc'
  refine wpK_on hgd _ (fun W hW => ?_) h
  have hl : ((c.toList.drop p).take n).length = n := by simp; omega
  unfold execOp
  simp only [ho, hx, Instr.loadAt, Instr.sureAddr, Sem.run_bind, Sem.run_pure, Result.andThen_ok, run_loadVar_mid W b p ty ((c.toList.drop p).take n) d (rangeAt_sub (hB W hW) p n) hu hd (by rw [hi, hl])]
  rfl
theorem wpK_load (hgd : o.guard = none) (ty : TypeId) (x : Operand) (ho : o.op = .load ty x) (b p : Nat) (hx : a.eval x = .pointer (some ⟨b, p, none⟩)) (c : Array Value) (T : TypeId) (hB : ∀ W, C W → Blk W b c T)
    (n : Nat) (hn : p + n ≤ c.size) (d : TypeDesc) (hu : P.underlying ty = some d) (hd : d.isRow = true) (hi : (P.info? ty).map (·.size) = some n) (c' : Array Value) (hc' : cut c p n = c')
    (h : ∀ K : Act → Prop, (∀ a, wpQuiet P ops C Q rest a → K a) → K (a.put o.dst (.agg c'))) : wpQuiet P ops C Q (o :: rest) a :=
  wpK_load_on (by simp [Region.wanted, hgd]) ty x ho b p hx c T hB n hn d hu hd hi c' hc' h
end
end Go.Proofs.YtgeihpaealomkaaDoor
