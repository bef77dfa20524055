/- Laws of our own for the walk: a row of cells loaded from, or stored into, a block that is known whole; results that lie in memory. -/
import Derived.Test.YtliohokcjgcmhaaBase
import Derived.Laws.CopyRow
namespace Go.Proofs.Ytliohokcjgcmhaa
open Go.RowKit

/-- n cells from place o on. -/
def cut (c : Array Value) (o n : Nat) : Array Value := ((c.toList.drop o).take n).toArray
/-- The cells vs laid over c from place o on. -/
def over (c : Array Value) (o : Nat) (vs : Array Value) : Array Value := (c.toList.take o ++ (vs.toList ++ c.toList.drop (o + vs.size))).toArray
theorem size_cut (c : Array Value) (o n : Nat) (h : o + n ≤ c.size) : (cut c o n).size = n := by simp [cut]; omega
theorem size_over (c : Array Value) (o : Nat) (vs : Array Value) (h : o + vs.size ≤ c.size) : (over c o vs).size = c.size := by simp [over]; omega
theorem cut_all (c : Array Value) (n : Nat) (h : c.size = n) : cut c 0 n = c := by
  subst h; apply Array.ext'; simp only [cut, List.drop_zero]; rw [List.take_of_length_le (by simp)]
theorem over_all (c vs : Array Value) (h : c.size = vs.size) : over c 0 vs = vs := by
  apply Array.ext'; simp [over, ← h]

theorem get_cut (c : Array Value) (o n i : Nat) : (cut c o n)[i]? = if i < n then c[o + i]? else none := by
  simp only [cut, List.getElem?_toArray, List.getElem?_take, List.getElem?_drop]
  split <;> simp
theorem get_over (c : Array Value) (o : Nat) (vs : Array Value) (h : o + vs.size ≤ c.size) (i : Nat) : (over c o vs)[i]? = if i < o then c[i]? else if i < o + vs.size then vs[i - o]? else c[i]? := by
  simp only [over, List.getElem?_toArray]
  by_cases h1 : i < o
  · rw [if_pos h1, List.getElem?_append_left (by simp; omega), List.getElem?_take, if_pos h1]; simp
  · rw [if_neg h1, List.getElem?_append_right (by simp; omega)]
    have e1 : (c.toList.take o).length = o := by simp; omega
    rw [e1]
    by_cases h2 : i < o + vs.size
    · rw [if_pos h2, List.getElem?_append_left (by simp; omega)]; simp
    · rw [if_neg h2, List.getElem?_append_right (by simp; omega), List.getElem?_drop]
      rw [Array.length_toList, show o + vs.size + (i - o - vs.size) = i from by omega]; simp

section
variable {P : Program} {ops : Array Oper} {rest : List Oper} {o : Oper} {a : Act} {w : World} {Q : Exit → Act → World → Prop}
/-- A row of cells is read. -/
theorem wpList_load_blk (hgd : o.guard = none) (ty : TypeId) (x : Operand) (ho : o.op = .load ty x) (b p : Nat) (hx : a.eval x = .pointer (some ⟨b, p, none⟩)) (c : Array Value) (T : TypeId) (hB : Blk w b c T)
    (n : Nat) (hn : p + n ≤ c.size) (d : TypeDesc) (hu : P.underlying ty = some d) (hd : d.isRow = true) (hi : (P.info? ty).map (·.size) = some n)
    (h : wpList P ops Q rest (a.put o.dst (.agg (cut c p n))) w) : wpList P ops Q (o :: rest) a w := by
  refine wpList_load_mid hgd ty x ho b p hx ((c.toList.drop p).take n) d (rangeAt_sub hB p n) hu hd ?_ h
  rw [hi]; simp; omega
/-- The same under a guard that holds. -/
theorem wpList_load_blk_g (hgd : Region.wanted o (yielded ops a.tmps) = true) (ty : TypeId) (x : Operand) (ho : o.op = .load ty x) (b p : Nat) (hx : a.eval x = .pointer (some ⟨b, p, none⟩)) (c : Array Value) (T : TypeId) (hB : Blk w b c T)
    (n : Nat) (hn : p + n ≤ c.size) (d : TypeDesc) (hu : P.underlying ty = some d) (hd : d.isRow = true) (hi : (P.info? ty).map (·.size) = some n)
    (h : wpList P ops Q rest (a.put o.dst (.agg (cut c p n))) w) : wpList P ops Q (o :: rest) a w := by
  refine wpList_step fun K hK => ?_
  rw [if_pos hgd]
  exact wp_load_mid ty x ho b p hx ((c.toList.drop p).take n) d (rangeAt_sub hB p n) hu hd (by rw [hi]; simp; omega) (hK _ _ h)
/-- A row of cells is stored. -/
theorem wpList_store_blk (hgd : o.guard = none) (ty : TypeId) (x y : Operand) (ho : o.op = .store ty x y) (b p : Nat) (cells : Array Value) (hx : a.eval x = .pointer (some ⟨b, p, none⟩)) (hy : a.eval y = .agg cells)
    (c : Array Value) (T : TypeId) (hB : Blk w b c T) (hn : p + cells.size ≤ c.size) (hi : (P.info? ty).map (·.size) = some cells.size) (h1 : cells.all (·.oneCell') = true)
    (h : ∀ w', Blk w' b (over c p cells) T → (∀ g c2 T2, g ≠ b → Blk w g c2 T2 → Blk w' g c2 T2) → w'.heap.size = w.heap.size → (∀ B w0, B ≤ b → Below B w0 w → Below B w0 w') → wpList P ops Q rest (a.put o.dst undef) w') :
    wpList P ops Q (o :: rest) a w := by
  have hrun := run_storeCells_at (P := P) b p T cells.toList 0 c w hB (by simpa using hn) (fun v hv => (Array.all_eq_true_iff_forall_mem.1 h1) v (by simpa using hv))
  have hw : ∀ g, g ≠ b → (w.setRow b (c.toList.take p ++ cells.toList ++ c.toList.drop (p + cells.size)).toArray).heap[g]? = w.heap[g]? := fun g hg => by
    simp only [World.setRow, Array.getElem?_modify]; rw [if_neg (fun e => hg e.symm)]
  have hsz : (w.setRow b (c.toList.take p ++ cells.toList ++ c.toList.drop (p + cells.size)).toArray).heap.size = w.heap.size := size_setRow _ _ _
  have key : (Instr.storeAt ty (.pointer (some ⟨b, p, none⟩)) (.agg cells)).run P w = .ok () (w.setRow b (c.toList.take p ++ cells.toList ++ c.toList.drop (p + cells.size)).toArray) := by
    cases hq : P.info? ty with
    | none => simp [hq] at hi
    | some i =>
      have hs : cells.size = i.size := by simp [hq] at hi; omega
      simp only [Nat.add_zero, Array.length_toList] at hrun
      simp [Instr.storeAt, Instr.sureAddr, storeVar, sizeOf, typeInfo, hq, Value.cells, hs, hrun]
  refine wpList_plain hgd fun K hK => ?_
  unfold Oper.wp execOp
  simp only [ho, hx, hy, Sem.run_bind, key, Result.andThen_ok, Sem.run_pure]
  refine hK _ _ (h _ ?_ (fun g c2 T2 hg hB2 => by unfold Blk at *; rw [hw g hg]; exact hB2) hsz (fun B w0 hBb hbel => hbel.trans ⟨rfl, rfl, rfl, by rw [hsz]; exact Nat.le_refl _, fun k hk => hw k (by omega)⟩))
  have := setRow_heap w b c (c.toList.take p ++ cells.toList ++ c.toList.drop (p + cells.size)).toArray T (0, 0) hB
  unfold Blk over; rw [this, List.append_assoc]
end

/-- 'copy' from one known block into another. -/
theorem wpList_copy_blk {P : Program} {ops : Array Oper} {rest : List Oper} {o : Oper} {a : Act} {w : World} {Q : Exit → Act → World → Prop} (hgd : o.guard = none) (d s : Operand) (dT sT : TypeId)
    (ho : o.op = .call { callee := .builtin .copy, args := #[d, s], argTypes := #[dT, sT] }) (elem : TypeId) (hu : P.underlying dT = some (.slice elem)) (hsz : (P.info? elem).map (·.size) = some 1)
    (g off dLen dCap sb so sLen sCap : Nat) (hd : a.eval d = .slice (some ⟨g, off, none⟩) dLen dCap) (hs : a.eval s = .slice (some ⟨sb, so, none⟩) sLen sCap)
    (c c2 : Array Value) (T T2 : TypeId) (hB : Blk w g c T) (hS : Blk w sb c2 T2) (n : Nat) (hn : n = Nat.min sLen dLen) (hf : off + n ≤ c.size) (hf2 : so + n ≤ c2.size) (h1 : ∀ v ∈ c2.toList, v.oneCell' = true)
    (h : ∀ w', Blk w' g (over c off (cut c2 so n)) T → (∀ g' c3 T3, g' ≠ g → Blk w g' c3 T3 → Blk w' g' c3 T3) → w'.heap.size = w.heap.size → (∀ B w0, B ≤ g → Below B w0 w → Below B w0 w') → wpList P ops Q rest (a.put o.dst (goInt n)) w') :
    wpList P ops Q (o :: rest) a w := by
  have hl : ((c2.toList.drop so).take n).length = n := by simp; omega
  refine wpList_copy_own hgd d s dT sT ho elem hu hsz g off dLen dCap ⟨sb, so, none⟩ sLen sCap hd hs c T hB ((c2.toList.drop so).take n) (by rw [hl]; exact hn)
    (fun j v hv => by rw [Addr.add_mid]; exact rangeAt_sub hS so n j v hv) (by rw [hl]; exact hf) (fun v hv => h1 v (List.mem_of_mem_drop (List.mem_of_mem_take hv))) ?_
  have hw : ∀ g', g' ≠ g → (w.setRow g (c.toList.take off ++ (((c2.toList.drop so).take n) ++ c.toList.drop (off + ((c2.toList.drop so).take n).length))).toArray).heap[g']? = w.heap[g']? := fun g' hg => by
    simp only [World.setRow, Array.getElem?_modify]; rw [if_neg (fun e => hg e.symm)]
  have hz : (w.setRow g (c.toList.take off ++ (((c2.toList.drop so).take n) ++ c.toList.drop (off + ((c2.toList.drop so).take n).length))).toArray).heap.size = w.heap.size := size_setRow _ _ _
  rw [show goInt ((c2.toList.drop so).take n).length = goInt n from by rw [hl]]
  refine h _ ?_ (fun g' c3 T3 hg hB3 => by unfold Blk at *; rw [hw g' hg]; exact hB3) hz (fun B w0 hBb hbel => hbel.trans ⟨rfl, rfl, rfl, by rw [hz]; exact Nat.le_refl _, fun k hk => hw k (by omega)⟩)
  have := setRow_heap w g c (c.toList.take off ++ (((c2.toList.drop so).take n) ++ c.toList.drop (off + ((c2.toList.drop so).take n).length))).toArray T (0, 0) hB
  unfold Blk over cut
  rw [this]
  simp
/-- A whole block is read, as the walk's simp leaves it. -/
theorem ldf {P : Program} {W : World} {b n : Nat} {c : Array Value} {T : TypeId} (h : Blk W b c T) (hn : c.size = n) : (loadCellsFrom ⟨b, 0, none⟩ 0 n #[]).run P W = .ok c W := by
  have := run_loadCells_list (P := P) W ⟨b, 0, none⟩ c.toList (fun j v hv => by rw [Addr.add_mid]; exact h.range j v hv)
  simpa [loadCells, hn] using this
/-- A part of a block is read. -/
theorem ldf_sub {P : Program} {W : World} {b o n : Nat} {c : Array Value} {T : TypeId} (h : Blk W b c T) (hn : o + n ≤ c.size) : (loadCellsFrom ⟨b, o, none⟩ 0 n #[]).run P W = .ok (cut c o n) W := by
  have hl : ((c.toList.drop o).take n).length = n := by simp; omega
  have := run_loadCells_list (P := P) W ⟨b, o, none⟩ ((c.toList.drop o).take n) (fun j v hv => by rw [Addr.add_mid]; exact rangeAt_sub h o n j v hv)
  rw [hl] at this
  simpa [loadCells, cut] using this
/-! ### Results that lie in memory -/
section
variable {P : Program} {fn : Func} {R : Ending → World → Prop} {a : Act} {w : World}
theorem loadVar_blk {g : Nat} {ty T : TypeId} {cs : Array Value} {d : TypeDesc} (hB : Blk w g cs T) (hu : P.underlying ty = some d) (hd : d.isRow = true) (hi : (P.info? ty).map (·.size) = some cs.size) :
    (loadVar ty ⟨g, 0, none⟩).run P w = .ok (.agg cs) w := by
  have := run_loadVar_mid w g 0 ty cs.toList d hB.range hu hd (by simpa using hi)
  simpa using this
theorem bodyPost_cell {p : Tmp} {ty T : TypeId} (hf : fn.results = #[.cell p ty]) {g : Nat} {cs : Array Value} {d : TypeDesc} (hp : a.tmps.getD p undef = .pointer (some ⟨g, 0, none⟩)) (hB : Blk w g cs T)
    (hu : P.underlying ty = some d) (hd : d.isRow = true) (hi : (P.info? ty).map (·.size) = some cs.size) (hdef : a.defers = []) (hR : R (.returned (.agg cs)) w) : bodyPost P fn R .ret a w := by
  refine bodyPost_ret (v := .agg cs) ?_ hdef hR
  have hl := loadVar_blk (P := P) hB hu hd hi
  have hp' : a.tmps[p]?.getD undef = .pointer (some ⟨g, 0, none⟩) := by simpa using hp
  simp [results, hf, hp', asAddr, hl]
theorem bodyPost_cell1 {p u : Tmp} {ty T : TypeId} (hf : fn.results = #[.cell p ty, .tmp u]) {g : Nat} {cs : Array Value} {d : TypeDesc} (hp : a.tmps.getD p undef = .pointer (some ⟨g, 0, none⟩)) (hB : Blk w g cs T)
    (hu : P.underlying ty = some d) (hd : d.isRow = true) (hi : (P.info? ty).map (·.size) = some cs.size) (hdef : a.defers = []) (hR : R (.returned (.tuple #[.agg cs, a.tmps.getD u undef])) w) : bodyPost P fn R .ret a w := by
  refine bodyPost_ret (v := .tuple #[.agg cs, a.tmps.getD u undef]) ?_ hdef hR
  have hl := loadVar_blk (P := P) hB hu hd hi
  have hp' : a.tmps[p]?.getD undef = .pointer (some ⟨g, 0, none⟩) := by simpa using hp
  simp [results, hf, hp', asAddr, hl]
theorem bodyPost_cell2 {p u v : Tmp} {ty T : TypeId} (hf : fn.results = #[.cell p ty, .tmp u, .tmp v]) {g : Nat} {cs : Array Value} {d : TypeDesc} (hp : a.tmps.getD p undef = .pointer (some ⟨g, 0, none⟩)) (hB : Blk w g cs T)
    (hu : P.underlying ty = some d) (hd : d.isRow = true) (hi : (P.info? ty).map (·.size) = some cs.size) (hdef : a.defers = []) (hR : R (.returned (.tuple #[.agg cs, a.tmps.getD u undef, a.tmps.getD v undef])) w) : bodyPost P fn R .ret a w := by
  refine bodyPost_ret (v := .tuple #[.agg cs, a.tmps.getD u undef, a.tmps.getD v undef]) ?_ hdef hR
  have hl := loadVar_blk (P := P) hB hu hd hi
  have hp' : a.tmps[p]?.getD undef = .pointer (some ⟨g, 0, none⟩) := by simpa using hp
  simp [results, hf, hp', asAddr, hl]
end
end Go.Proofs.Ytliohokcjgcmhaa
