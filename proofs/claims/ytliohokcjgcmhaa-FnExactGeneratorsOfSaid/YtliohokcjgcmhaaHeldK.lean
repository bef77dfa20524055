/- A region that draws its order, walked once over a class of worlds of our own: loads of known blocks, calls whose value does not hang on the world, plain values. A region that draws its order, walked once over a class of worlds of our own; each state is written out anew behind its operation ('(intro K hK; go_simp; refine hK _ ?_; clear hK K)'), guards are allowed. -/
import Derived.Test.YtliohokcjgcmhaaLaws
import Derived.Deep.RegionHeld3
import Derived.Test.YtliohokcjgcmhaaInts
namespace Go.Proofs.Ytliohokcjgcmhaa
open Go.RowKit
section
variable {P : Program} {ops : Array Oper} {C : World → Prop} {Q : Act → Prop} {a : Act} {o : Oper} {rest : List Oper}
theorem wpQuiet_val (hgd : o.guard = none) (v : Value) (hrun : ∀ W, C W → (execOp a.eval o).run P W = .ok (.value v) W) (h : wpQuiet P ops C Q rest (a.put o.dst v)) : wpQuiet P ops C Q (o :: rest) a := by
  unfold wpQuiet
  rw [if_pos (by simp [Region.wanted, hgd])]
  refine ⟨v, fun W hW => ?_, h⟩
  unfold Oper.quietAt
  rw [hrun W hW]
  exact ⟨rfl, rfl⟩
theorem wpQuiet_load_blk (hgd : o.guard = none) (ty : TypeId) (x : Operand) (ho : o.op = .load ty x) (b p : Nat) (hx : a.eval x = .pointer (some ⟨b, p, none⟩)) (c : Array Value) (T : TypeId) (hB : ∀ W, C W → Blk W b c T)
    (n : Nat) (hn : p + n ≤ c.size) (d : TypeDesc) (hu : P.underlying ty = some d) (hd : d.isRow = true) (hi : (P.info? ty).map (·.size) = some n)
    (h : wpQuiet P ops C Q rest (a.put o.dst (.agg (cut c p n)))) : wpQuiet P ops C Q (o :: rest) a := by
  refine wpQuiet_val hgd _ (fun W hW => ?_) h
  have hl : ((c.toList.drop p).take n).length = n := by simp; omega
  unfold execOp
  simp only [ho, hx, Instr.loadAt, Instr.sureAddr, Sem.run_bind, Sem.run_pure, Result.andThen_ok, run_loadVar_mid W b p ty ((c.toList.drop p).take n) d (rangeAt_sub (hB W hW) p n) hu hd (by rw [hi, hl])]
  rfl
theorem wpQuiet_call (hgd : o.guard = none) (f : FuncId) (xs : Array Operand) (tys : Array TypeId) (_ho : o.op = .call { callee := .value (.func f), args := xs, argTypes := tys }) (args : Array Value) (v : Value)
    (hrun : ∀ W, (execOp a.eval o).run P W = .ok (.enter f args) W) (hcall : ∀ W, C W → Calls P f args W fun e w'' => e = .returned v ∧ C w'')
    (h : wpQuiet P ops C Q rest (a.put o.dst v)) : wpQuiet P ops C Q (o :: rest) a := by
  unfold wpQuiet
  rw [if_pos (by simp [Region.wanted, hgd])]
  refine ⟨v, fun W hW => ?_, h⟩
  unfold Oper.quietAt
  rw [hrun W]
  exact ⟨rfl, hcall W hW⟩
end
end Go.Proofs.Ytliohokcjgcmhaa

namespace Go.Proofs.Ytliohokcjgcmhaa
open Go.RowKit
section
variable {P : Program} {ops : Array Oper} {C : World → Prop} {Q : Act → Prop} {a : Act} {o : Oper} {rest : List Oper}
/-- What follows, behind a variable. -/
def Then (P : Program) (ops : Array Oper) (C : World → Prop) (Q : Act → Prop) (rest : List Oper) (a : Act) : Prop := ∀ K : Act → Prop, (∀ a, wpQuiet P ops C Q rest a → K a) → K a
theorem Then.out (h : Then P ops C Q rest a) : wpQuiet P ops C Q rest a := h _ fun _ h => h
theorem wpK_on (hgd : Region.wanted o (yielded ops a.tmps) = true) (v : Value) (hrun : ∀ W, C W → (execOp a.eval o).run P W = .ok (.value v) W) (h : ∀ K : Act → Prop, (∀ a, wpQuiet P ops C Q rest a → K a) → K (a.put o.dst v)) : wpQuiet P ops C Q (o :: rest) a := by
  unfold wpQuiet
  rw [if_pos hgd]
  refine ⟨v, fun W hW => ?_, h _ fun _ h => h⟩
  unfold Oper.quietAt
  rw [hrun W hW]
  exact ⟨rfl, rfl⟩
theorem wpK_val (hgd : o.guard = none) (v : Value) (hrun : ∀ W, C W → (execOp a.eval o).run P W = .ok (.value v) W) (h : ∀ K : Act → Prop, (∀ a, wpQuiet P ops C Q rest a → K a) → K (a.put o.dst v)) : wpQuiet P ops C Q (o :: rest) a :=
  wpK_on (by simp [Region.wanted, hgd]) v hrun h
theorem wpK_off (hgd : Region.wanted o (yielded ops a.tmps) = false) (h : ∀ K : Act → Prop, (∀ a, wpQuiet P ops C Q rest a → K a) → K (a.put o.dst undef)) : wpQuiet P ops C Q (o :: rest) a := by
  unfold wpQuiet
  rw [if_neg (by rw [hgd]; decide)]
  exact h _ fun _ h => h
theorem wpK_call_on (hgd : Region.wanted o (yielded ops a.tmps) = true) (f : FuncId) (args : Array Value) (v : Value)
    (hrun : ∀ W, (execOp a.eval o).run P W = .ok (.enter f args) W) (hcall : ∀ W, C W → Calls P f args W fun e w'' => e = .returned v ∧ C w'')
    (h : ∀ K : Act → Prop, (∀ a, wpQuiet P ops C Q rest a → K a) → K (a.put o.dst v)) : wpQuiet P ops C Q (o :: rest) a := by
  unfold wpQuiet
  rw [if_pos hgd]
  refine ⟨v, fun W hW => ?_, h _ fun _ h => h⟩
  unfold Oper.quietAt
  rw [hrun W]
  exact ⟨rfl, hcall W hW⟩
theorem wpK_call (hgd : o.guard = none) (f : FuncId) (args : Array Value) (v : Value)
    (hrun : ∀ W, (execOp a.eval o).run P W = .ok (.enter f args) W) (hcall : ∀ W, C W → Calls P f args W fun e w'' => e = .returned v ∧ C w'')
    (h : ∀ K : Act → Prop, (∀ a, wpQuiet P ops C Q rest a → K a) → K (a.put o.dst v)) : wpQuiet P ops C Q (o :: rest) a :=
  wpK_call_on (by simp [Region.wanted, hgd]) f args v hrun hcall h
theorem wpK_load_on (hgd : Region.wanted o (yielded ops a.tmps) = true) (ty : TypeId) (x : Operand) (ho : o.op = .load ty x) (b p : Nat) (hx : a.eval x = .pointer (some ⟨b, p, none⟩)) (c : Array Value) (T : TypeId) (hB : ∀ W, C W → Blk W b c T)
    (n : Nat) (hn : p + n ≤ c.size) (d : TypeDesc) (hu : P.underlying ty = some d) (hd : d.isRow = true) (hi : (P.info? ty).map (·.size) = some n) (c' : Array Value) (hc' : cut c p n = c')
    (h : ∀ K : Act → Prop, (∀ a, wpQuiet P ops C Q rest a → K a) → K (a.put o.dst (.agg c'))) : wpQuiet P ops C Q (o :: rest) a := by
  subst hc'
  refine wpK_on hgd _ (fun W hW => ?_) h
  have hl : ((c.toList.drop p).take n).length = n := by simp; omega
  unfold execOp
  simp only [ho, hx, Instr.loadAt, Instr.sureAddr, Sem.run_bind, Sem.run_pure, Result.andThen_ok, run_loadVar_mid W b p ty ((c.toList.drop p).take n) d (rangeAt_sub (hB W hW) p n) hu hd (by rw [hi, hl])]
  rfl
theorem wpK_load (hgd : o.guard = none) (ty : TypeId) (x : Operand) (ho : o.op = .load ty x) (b p : Nat) (hx : a.eval x = .pointer (some ⟨b, p, none⟩)) (c : Array Value) (T : TypeId) (hB : ∀ W, C W → Blk W b c T)
    (n : Nat) (hn : p + n ≤ c.size) (d : TypeDesc) (hu : P.underlying ty = some d) (hd : d.isRow = true) (hi : (P.info? ty).map (·.size) = some n) (c' : Array Value) (hc' : cut c p n = c')
    (h : ∀ K : Act → Prop, (∀ a, wpQuiet P ops C Q rest a → K a) → K (a.put o.dst (.agg c'))) : wpQuiet P ops C Q (o :: rest) a :=
  wpK_load_on (by simp [Region.wanted, hgd]) ty x ho b p hx c T hB n hn d hu hd hi c' hc' h
end
end Go.Proofs.Ytliohokcjgcmhaa

namespace Go.Proofs.Ytliohokcjgcmhaa
open Go.RowKit
section
variable {P : Program} {ops : Array Oper} {md : Region.Mode} {S : World → Prop} {Q : Exit → Act → World → Prop} {fuel : Nat} {listed : Array Bool} {a : Act} {w : World}
theorem hK_take (i : Nat) {oi : Oper} (v : Value) (hi : ops[i]? = some oi) (hs : Region.noSelect ops = true) (hf : Region.free md ops listed i = true) (hr : (Region.ready md ops listed).contains i = true)
    (hQ : ∀ c a w, Q (.panic c) (a.put oi.dst v) w → Q (.panic c) a w) (hgd : oi.guard = none) (hrun : ∀ W, S W → (execOp a.eval oi).run P W = .ok (.value v) W) (hS : S w)
    (h : ∀ K : Act → Prop, (∀ a, wpAnyH P md ops Q S fuel (listed.setIfInBounds i true) a w → K a) → K (a.put oi.dst v)) : wpAnyH P md ops Q S (fuel + 1) listed a w :=
  wpAnyH_take hi hs hf hr hQ (.inl ⟨by simp [Region.wanted, hgd], hrun⟩) hS (h _ fun _ h => h)
theorem hK_load (i : Nat) {oi : Oper} (hi : ops[i]? = some oi) (hs : Region.noSelect ops = true) (hf : Region.free md ops listed i = true) (hr : (Region.ready md ops listed).contains i = true)
    (ty : TypeId) (x : Operand) (ho : oi.op = .load ty x) (b p : Nat) (hx : a.eval x = .pointer (some ⟨b, p, none⟩)) (c : Array Value) (T : TypeId) (hB : ∀ W, S W → Blk W b c T)
    (n : Nat) (hn : p + n ≤ c.size) (d : TypeDesc) (hu : P.underlying ty = some d) (hd : d.isRow = true) (hty : (P.info? ty).map (·.size) = some n) (c' : Array Value) (hc' : cut c p n = c')
    (hQ : ∀ e a w, Q (.panic e) (a.put oi.dst (.agg c')) w → Q (.panic e) a w) (hgd : oi.guard = none) (hS : S w)
    (h : ∀ K : Act → Prop, (∀ a, wpAnyH P md ops Q S fuel (listed.setIfInBounds i true) a w → K a) → K (a.put oi.dst (.agg c'))) : wpAnyH P md ops Q S (fuel + 1) listed a w := by
  subst hc'
  have hl : ((c.toList.drop p).take n).length = n := by simp; omega
  exact wpAnyH_take hi hs hf hr hQ (yieldsIf_load_mid (by simp [Region.wanted, hgd]) ty x ho b p hx ((c.toList.drop p).take n) d (fun W hW => rangeAt_sub (hB W hW) p n) hu hd (by rw [hty, hl])) hS (h _ fun _ h => h)
end
/-- What an append leaves alone. -/
def Spares (w w' : World) (v : Value) : Prop := ∀ k, k < w.heap.size → some k ≠ v.ownBlock → w'.heap[k]? = w.heap[k]?
theorem Spares.blk {w w' : World} {v : Value} {b base : Nat} {c : Array Value} {zs : List Int} (h : Spares w w' v) (hB : Blk w b c 27) (ho : OwnI w base v zs) : Blk w' b c 27 := by
  unfold Blk
  rw [h b hB.lt (fun e => ?_)]
  · exact hB
  · rcases ho.2 with ⟨rfl, _⟩ | ⟨g, c1, cur, rfl, _, hh, _⟩
    · cases e
    · have : b = g := by simpa [Value.ownBlock] using e
      subst this
      unfold Blk at hB
      rw [hh] at hB
      simp at hB
section
variable {ops : Array Oper} {rest : List Oper} {o : Oper} {a : Act} {w : World} {Q : Exit → Act → World → Prop}
/-- 'out = append(out, z)', and what it leaves alone. -/
theorem wpList_push_int_x (hgd : o.guard = none) (s x : Operand) (ho : o.op = .call { callee := .builtin .append, args := #[s, x], argTypes := #[26, 26] })
    (base : Nat) (v : Value) (zs : List Int) (hs : a.eval s = v) (hown : OwnI w base v zs) (g c : Nat) (z : Int) (hx : a.eval x = .slice (some ⟨g, 0, none⟩) 1 c) (hB : Blk w g #[.int .i64 z] 2)
    (hn : zs.length + 1 ≤ 1048576) (hbase : base ≤ w.heap.size)
    (h : ∀ v' w', OwnI w' base v' (zs ++ [z]) → Below base w w' → Spares w w' v → wpList Try.prog ops Q rest (a.put o.dst v') w') : wpList Try.prog ops Q (o :: rest) a w := by
  obtain ⟨i0, hi, hz0, hz1, hz2⟩ := info_parts info2
  refine wpList_append_own _ hgd s x 26 ho base 2 i0 (.int .i64 0) 1 8 Try.underlying26 hi hz0 hz1 hz2 rfl (by decide) v zs.length _ hs hown ⟨g, 0, none⟩ 1 c [.int .i64 z] hx rfl
    (fun j u hu => ?_) (fun u hu => ?_) (by unfold maxLen; omega) (by omega) hbase (fun v' w' hown' hg _ => h v' w' ?_ (below_grown hown hg hbase) hg.block)
  · match j, hu with
    | 0, hu => simp at hu; subst hu; simpa [Addr.add] using hB.cell 0
  · simp at hu; subst hu; rfl
  · unfold OwnI; simpa using hown'
end
end Go.Proofs.Ytliohokcjgcmhaa
