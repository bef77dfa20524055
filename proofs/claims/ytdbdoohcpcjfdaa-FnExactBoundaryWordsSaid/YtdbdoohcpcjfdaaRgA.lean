/- Lists of numbers that grow in the rounds of a range over a function. -/
import Derived.Test.YtdbdoohcpcjfdaaBls
import Derived.Test.YtdbdoohcpcjfdaaRg
import Derived.Test.YtdbdoohcpcjfdaaArgs
import Derived.Test.YtdbdoohcpcjfdaaInts
import Derived.Maps.AppendAt
namespace Go.Proofs.Ytdbdoohcpcjfdaa
open Go.RowKit

theorem ite_go {c p q : Prop} [Decidable c] (hc : c) (h : p) : if c then p else q := by rw [if_pos hc]; exact h
section
variable {w : World} {o : Oper} {a : Act} {K : Act → World → Prop} {Q : Exit → Act → World → Prop}
/-- 'append(out, z)' as one operation, and which block it makes its own. -/
theorem wp_push_int (s x : Operand) (ho : o.op = .call { callee := .builtin .append, args := #[s, x], argTypes := #[31, 31] })
    (base : Nat) (v : Value) (zs : List Int) (hs : a.eval s = v) (hown : OwnI w base v zs) (g c : Nat) (z : Int) (hx : a.eval x = .slice (some ⟨g, 0, none⟩) 1 c) (hB : Blk w g #[.int .i64 z] 2)
    (hn : zs.length + 1 ≤ 1048576) (hbase : base ≤ w.heap.size)
    (h : ∀ v' w', OwnI w' base v' (zs ++ [z]) → w.grownBy w' v.ownBlock → (v'.ownBlock = v.ownBlock ∨ v'.ownBlock = some w.heap.size) → K (a.put o.dst v') w') : o.wp Try.prog a w K Q := by
  obtain ⟨i0, hi, hz0, hz1, hz2⟩ := info_parts info2
  obtain ⟨v', w', hr, h2, h3, _, h5⟩ := run_append_own_at (P := Try.prog) w base 31 o.type 2 i0 (.int .i64 0) 1 8 Try.underlying31 hi hz0 hz1 hz2 rfl (by decide) v zs.length _ hown ⟨g, 0, none⟩ 1 c [.int .i64 z] rfl
    (fun j u hu => by
      match j, hu with
      | 0, hu => simp at hu; subst hu; simpa [Addr.add] using hB.cell 0)
    (fun u hu => by simp at hu; subst hu; rfl) (by unfold maxLen; omega) (by omega) hbase
  unfold Oper.wp execOp
  simp only [ho, resolve, invoke, builtin, Sem.run_bind, Sem.run_pure, Result.andThen_ok, List.map_toArray, List.map_cons, List.map_nil, hs, hx, hr]
  exact h v' w' (by unfold OwnI; simpa using h2) h3 h5
end

theorem Blk.turn {w w' : World} {g : Nat} {cs : Array Value} {T : TypeId} {row : Option Nat} (h : Blk w g cs T) (hg : w.grownBy w' row) (hr : ∀ r, row = some r → ∃ o : Obj, w.heap[r]? = some o ∧ o.isCells = false) : Blk w' g cs T :=
  h.same (hg.block g h.lt (fun e => by
    obtain ⟨o, ho, hc⟩ := hr g e.symm
    unfold Blk at h
    rw [h] at ho
    cases ho
    cases hc))
theorem OwnI.turn {w w' : World} {base : Nat} {v : Value} {zs : List Int} {row : Option Nat} (h : OwnI w base v zs) (hg : w.grownBy w' row) (hr : ∀ r, row = some r → ∃ o : Obj, w.heap[r]? = some o ∧ o.isCells = false) : OwnI w' base v zs := by
  refine World.ownsRow.kept h hg ?_
  cases hv : v.ownBlock with
  | none => exact .inl rfl
  | some k =>
    refine .inr (fun e => ?_)
    obtain ⟨o, ho, hc⟩ := hr k e.symm
    rcases h.2 with ⟨rfl, _⟩ | ⟨g, cap, cur, rfl, _, hh, _⟩
    · cases hv
    · have : g = k := by simpa [Value.ownBlock] using hv
      subst this
      rw [hh] at ho
      cases ho
      cases hc
/-- A variable's box with a list of the call's own, and the blocks that they are. -/
def AccAt (W : World) (gX base : Nat) (v : Value) (zs : List Int) : Prop := Blk W gX #[v] 31 ∧ OwnI W base v zs ∧ gX < base
def accF (gX : Nat) (v : Value) : Foot := fun k => k = gX ∨ v.ownBlock = some k
theorem AccAt.turn {w w' : World} {gX base : Nat} {v : Value} {zs : List Int} {row : Option Nat} (h : AccAt w gX base v zs) (hg : w.grownBy w' row) (hr : ∀ r, row = some r → ∃ o : Obj, w.heap[r]? = some o ∧ o.isCells = false) : AccAt w' gX base v zs :=
  ⟨h.1.turn hg hr, h.2.1.turn hg hr, h.2.2⟩
theorem AccAt.below {w w' : World} {gX base : Nat} {v : Value} {zs : List Int} (h : AccAt w gX base v zs) (hb : Below w.heap.size w w') : AccAt w' gX base v zs := ⟨h.1.keptAll hb, h.2.1.below hb, h.2.2⟩
theorem AccAt.foot {w : World} {gX base : Nat} {v : Value} {zs : List Int} (h : AccAt w gX base v zs) (k : Nat) (hk : accF gX v k) : k < w.heap.size := by
  rcases hk with rfl | hk
  · exact h.1.lt
  · exact h.2.1.lt k hk
/-- Behind 'out = append(out, z)'. -/
theorem AccAt.pushed {W w' : World} {gX base : Nat} {v v' : Value} {zs : List Int} {z : Int} (h : AccAt W gX base v zs) (hO : OwnI w' base v' (zs ++ [z])) (hg : W.grownBy w' v.ownBlock) (hat : v'.ownBlock = v.ownBlock ∨ v'.ownBlock = some W.heap.size) :
    Blk w' gX #[v] 31 ∧ AccAt (w'.setCell ⟨gX, 0, none⟩ v') gX base v' (zs ++ [z]) ∧ FootKeeps (accF gX v) (accF gX v') W (w'.setCell ⟨gX, 0, none⟩ v') := by
  obtain ⟨hB, hO0, hlt⟩ := h
  have hX : Blk w' gX #[v] 31 := hB.same (hg.block gX hB.lt (fun e => by have := ownI_ge hO0 gX e.symm; omega))
  refine ⟨hX, ⟨?_, ?_, hlt⟩, ?_, fun k hk hn => ?_⟩
  · have := hX.set 0 v'
    simpa using this
  · exact ownI_at hO (fun k hk => Below.heap_setCell _ _ _ k (by show k ≠ gX; have := ownI_ge hO k hk; omega))
  · have := hg.size; simpa using this
  · refine ⟨(Below.heap_setCell _ _ _ k (fun e => hn (.inl e))).trans (hg.block k hk (fun e => hn (.inr e.symm))), ?_⟩
    rintro (e | e)
    · exact hn (.inl e)
    · rcases hat with h1 | h1
      · exact hn (.inr (by rw [← h1]; exact e))
      · rw [h1] at e; simp at e; omega
theorem AccAt.low {n0 : Nat} {w0 W w' : World} {gX base : Nat} {v : Value} {zs : List Int} (h : AccAt W gX base v zs) (hb : Below n0 w0 W) (hg : W.grownBy w' v.ownBlock) (h0 : n0 ≤ W.heap.size) (h1 : n0 ≤ gX) (u : Value) : Below n0 w0 (w'.setCell ⟨gX, 0, none⟩ u) :=
  (hb.grown hg h0 (fun k e => by have := ownI_ge h.2.1 k e; have := h.2.2; omega)).setCell (p := ⟨gX, 0, none⟩) h1 u
end Go.Proofs.Ytdbdoohcpcjfdaa
