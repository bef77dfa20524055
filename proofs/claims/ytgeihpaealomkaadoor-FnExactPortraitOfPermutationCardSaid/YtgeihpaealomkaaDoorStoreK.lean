/- Whole rows stored: as an operation of a list, and in a region walked by hand; every other block is as it was. -/
import Derived.Test.YtgeihpaealomkaaDoorHeldK
namespace Go.Proofs.YtgeihpaealomkaaDoor
open Go.RowKit
/-- What a store of a whole row leaves. -/
structure Stored (w w' : World) (b : Nat) (c : Array Value) (T : TypeId) : Prop where
  blk : Blk w' b c T
  other : ∀ g, g ≠ b → w'.heap[g]? = w.heap[g]?
  size : w'.heap.size = w.heap.size
  below : ∀ B w0, B ≤ b → Below B w0 w → Below B w0 w'
theorem Stored.keep {w w' : World} {b g : Nat} {c c2 : Array Value} {T T2 : TypeId} (h : Stored w w' b c T) (hg : g ≠ b) (hB : Blk w g c2 T2) : Blk w' g c2 T2 := by
  unfold Blk; rw [h.other g hg]; exact hB
theorem run_store_blk {P : Program} (w : World) (ty : TypeId) (b p : Nat) (cells c : Array Value) (T : TypeId) (hB : Blk w b c T) (hn : p + cells.size ≤ c.size) (hi : (P.info? ty).map (·.size) = some cells.size) (h1 : cells.all (·.oneCell') = true) :
    ∃ w', (Instr.storeAt ty (.pointer (some ⟨b, p, none⟩)) (.agg cells)).run P w = .ok () w' ∧ Stored w w' b (over c p cells) T := by
  have hrun := run_storeCells_at (P := P) b p T cells.toList 0 c w hB (by simpa using hn) (fun v hv => (Array.all_eq_true_iff_forall_mem.1 h1) v (by simpa using hv))
  have hw : ∀ g, g ≠ b → (w.setRow b (c.toList.take p ++ cells.toList ++ c.toList.drop (p + cells.size)).toArray).heap[g]? = w.heap[g]? := fun g hg => by
    simp only [World.setRow, Array.getElem?_modify]; rw [if_neg (fun e => hg e.symm)]
  have hsz : (w.setRow b (c.toList.take p ++ cells.toList ++ c.toList.drop (p + cells.size)).toArray).heap.size = w.heap.size := size_setRow _ _ _
  refine ⟨_, ?_, ?_, hw, hsz, fun B w0 hBb hbel => hbel.trans ⟨rfl, rfl, rfl, by rw [hsz]; exact Nat.le_refl _, fun k hk => hw k (by omega)⟩⟩
  · cases hq : P.info? ty with
    | none => simp [hq] at hi
    | some i =>
      have hs : cells.size = i.size := by simp [hq] at hi; omega
      simp only [Nat.add_zero, Array.length_toList] at hrun
      simp [Instr.storeAt, Instr.sureAddr, storeVar, sizeOf, typeInfo, hq, Value.cells, hs, hrun]
  · have := setRow_heap w b c (c.toList.take p ++ cells.toList ++ c.toList.drop (p + cells.size)).toArray T (0, 0) hB
    unfold Blk over; rw [this, List.append_assoc]
section
variable {P : Program} {ops : Array Oper} {rest : List Oper} {o : Oper} {a : Act} {w : World} {Q : Exit → Act → World → Prop}
theorem wpList_store_row (hgd : o.guard = none) (ty : TypeId) (x y : Operand) (ho : o.op = .store ty x y) (b p : Nat) (cells : Array Value) (hx : a.eval x = .pointer (some ⟨b, p, none⟩)) (hy : a.eval y = .agg cells)
    (c : Array Value) (T : TypeId) (hB : Blk w b c T) (hn : p + cells.size ≤ c.size) (hi : (P.info? ty).map (·.size) = some cells.size) (h1 : cells.all (·.oneCell') = true) (c' : Array Value) (hc : over c p cells = c')
    (h : ∀ w', Stored w w' b c' T → wpList P ops Q rest (a.put o.dst undef) w') : wpList P ops Q (o :: rest) a w := by
  subst hc
  obtain ⟨w', key, hs⟩ := run_store_blk w ty b p cells c T hB hn hi h1
  refine wpList_plain hgd fun K hK => ?_
  unfold Oper.wp execOp
  simp only [ho, hx, hy, Sem.run_bind, key, Result.andThen_ok, Sem.run_pure]
  exact hK _ _ (h w' hs)
variable {md : Region.Mode} {S : World → Prop} {fuel : Nat} {listed : Array Bool}
theorem hK_store (i : Nat) {oi : Oper} (hi : ops[i]? = some oi) (hr : Region.ready md ops listed = [i]) (hgd : oi.guard = none) (ty : TypeId) (x y : Operand) (ho : oi.op = .store ty x y) (b p : Nat) (cells : Array Value) (hx : a.eval x = .pointer (some ⟨b, p, none⟩)) (hy : a.eval y = .agg cells)
    (c : Array Value) (T : TypeId) (hB : Blk w b c T) (hn : p + cells.size ≤ c.size) (hti : (P.info? ty).map (·.size) = some cells.size) (h1 : cells.all (·.oneCell') = true) (c' : Array Value) (hc : over c p cells = c')
    (h : ∀ w', Stored w w' b c' T → S w' ∧ (S w' → ∀ K : Act → Prop, (∀ a, wpAnyH P md ops Q S fuel (listed.setIfInBounds i true) a w' → K a) → K (a.put oi.dst undef))) : wpAnyH P md ops Q S (fuel + 1) listed a w := by
  subst hc
  obtain ⟨w', key, hs⟩ := run_store_blk w ty b p cells c T hB hn hti h1
  obtain ⟨hS, hrest⟩ := h w' hs
  refine wpAnyH_ready hr (by simp) (AllReadyH.cons hi (fun K hK => ?_) AllReadyH.nil)
  rw [if_pos (by simp [Region.wanted, hgd])]
  unfold Oper.wp execOp
  simp only [ho, hx, hy, Sem.run_bind, key, Result.andThen_ok, Sem.run_pure]
  exact hK.out _ _ hS (fun h1 => hrest h1 _ fun _ h => h)
end
end Go.Proofs.YtgeihpaealomkaaDoor
