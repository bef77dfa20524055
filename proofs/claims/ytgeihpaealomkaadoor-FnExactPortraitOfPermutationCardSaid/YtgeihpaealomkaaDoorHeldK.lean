/- A region that draws its order, walked by hand under one condition on the world: what only reads is taken first; calls that make memory are carried out, and the condition is shown anew. -/
import Derived.Test.YtgeihpaealomkaaDoorQuietK
import Derived.Deep.RegionHeld3
import Derived.Test.YtgeihpaealomkaaDoorInts
namespace Go.Proofs.YtgeihpaealomkaaDoor
open Go.RowKit
section
variable {P : Program} {ops : Array Oper} {md : Region.Mode} {S : World → Prop} {Q : Exit → Act → World → Prop} {fuel : Nat} {listed : Array Bool} {a : Act} {w : World}
theorem hK_take (i : Nat) {oi : Oper} (v : Value) (hi : ops[i]? = some oi) (hs : Region.noSelect ops = true) (hf : Region.free md ops listed i = true) (hr : (Region.ready md ops listed).contains i = true)
    (hQ : ∀ c a w, Q (.panic c) (a.put oi.dst v) w → Q (.panic c) a w) (hgd : oi.guard = none) (hrun : ∀ W, S W → (execOp a.eval oi).run P W = .ok (.value v) W) (hS : S w)
    (h : ∀ K : Act → Prop, (∀ a, wpAnyH P md ops Q S fuel (listed.setIfInBounds i true) a w → K a) → K (a.put oi.dst v)) : wpAnyH P md ops Q S (fuel + 1) listed a w :=
  wpAnyH_take hi hs hf hr hQ (.inl ⟨by simp [Region.wanted, hgd], hrun⟩) hS (h _ fun _ h => h)
theorem hK_load (i : Nat) {oi : Oper} (hi : ops[i]? = some oi) (hs : Region.noSelect ops = true) (hf : Region.free md ops listed i = true) (hr : (Region.ready md ops listed).contains i = true)
    (ty : TypeId) (x : Operand) (ho : oi.op = .load ty x) (b p : Nat) (hx : a.eval x = .pointer (some ⟨b, p, none⟩)) (c : Array Value) (T : TypeId) (hB : ∀ W, S W → Blk W b c T)
    (n : Nat) (hn : p + n ≤ c.size) (d : TypeDesc) (hu : P.underlying ty = some d) (hd : d.isRow = true) (hty : (P.info? ty).map (·.size) = some n) (c' : Array Value) (hc' : cut c p n = c')
    (hQ : ∀ e a w, Q (.panic e) (a.put oi.dst (.agg c')) w → Q (.panic e) a w) (hgd : oi.guard = none) (hS : S w)
    (h : ∀ K : Act → Prop, (∀ a, wpAnyH P md ops Q S fuel (listed.setIfInBounds i true) a w → K a) → K (a.put oi.dst (.agg c'))) : wpAnyH P md ops Q S (fuel + 1) listed a w := by
  subst hc'
  have hl : ((c.toList.drop p).take n).length = n := by simp; omega
  exact wpAnyH_take hi hs hf hr hQ (yieldsIf_load_mid (by simp [Region.wanted, hgd]) ty x ho b p hx ((c.toList.drop p).take n) d (fun W hW => rangeAt_sub (hB W hW) p n) hu hd (by rw [hty, hl])) hS (h _ fun _ h => h)
end
/-- What an append leaves alone. -/
def Spares (w w' : World) (v : Value) : Prop := ∀ k, k < w.heap.size → some k ≠ v.ownBlock → w'.heap[k]? = w.heap[k]?
theorem Spares.blk {w w' : World} {v : Value} {b base : Nat} {c : Array Value} {zs : List Int} (h : Spares w w' v) (hB : Blk w b c 29) (ho : OwnI w base v zs) : Blk w' b c 29 := by
  unfold Blk
  rw [h b hB.lt (fun e => ?_)]
  · exact hB
  · rcases ho.2 with ⟨rfl, _⟩ | ⟨g, c1, cur, rfl, _, hh, _⟩
    · cases e
    · have : b = g := by simpa [Value.ownBlock] using e
      subst this
      unfold Blk at hB
      rw [hh] at hB
      simp at hB
section
variable {ops : Array Oper} {rest : List Oper} {o : Oper} {a : Act} {w : World} {Q : Exit → Act → World → Prop}
/-- 'out = append(out, z)', and what it leaves alone. -/
theorem wpList_push_int_x (hgd : o.guard = none) (s x : Operand) (ho : o.op = .call { callee := .builtin .append, args := #[s, x], argTypes := #[26, 26] })
    (base : Nat) (v : Value) (zs : List Int) (hs : a.eval s = v) (hown : OwnI w base v zs) (g c : Nat) (z : Int) (hx : a.eval x = .slice (some ⟨g, 0, none⟩) 1 c) (hB : Blk w g #[.int .i64 z] 2)
    (hn : zs.length + 1 ≤ 1048576) (hbase : base ≤ w.heap.size)
    (h : ∀ v' w', OwnI w' base v' (zs ++ [z]) → Below base w w' → Spares w w' v → wpList Tryd.prog ops Q rest (a.put o.dst v') w') : wpList Tryd.prog ops Q (o :: rest) a w := by
  obtain ⟨i0, hi, hz0, hz1, hz2⟩ := info_parts info2
  refine wpList_append_own _ hgd s x 26 ho base 2 i0 (.int .i64 0) 1 8 Tryd.underlying26 hi hz0 hz1 hz2 rfl (by decide) v zs.length _ hs hown ⟨g, 0, none⟩ 1 c [.int .i64 z] hx rfl
    (fun j u hu => ?_) (fun u hu => ?_) (by unfold maxLen; omega) (by omega) hbase (fun v' w' hown' hg _ => h v' w' ?_ (below_grown hown hg hbase) hg.block)
  · match j, hu with
    | 0, hu => simp at hu; subst hu; simpa [Addr.add] using hB.cell 0
  · simp at hu; subst hu; rfl
  · unfold OwnI; simpa using hown'
end
end Go.Proofs.YtgeihpaealomkaaDoor
