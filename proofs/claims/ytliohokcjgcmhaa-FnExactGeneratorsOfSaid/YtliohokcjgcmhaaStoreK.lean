/- Whole rows stored: as an operation of a list, and in a region walked by hand; every other block is as it was. -/
import Derived.Test.YtliohokcjgcmhaaHeldK
import Derived.Maps.OwnSet
namespace Go.Proofs.Ytliohokcjgcmhaa
open Go.RowKit
/-- What a store of a whole row leaves. -/
structure Stored (w w' : World) (b : Nat) (c : Array Value) (T : TypeId) : Prop where
  blk : Blk w' b c T
  other : ∀ g, g ≠ b → w'.heap[g]? = w.heap[g]?
  size : w'.heap.size = w.heap.size
  below : ∀ B w0, B ≤ b → Below B w0 w → Below B w0 w'
theorem Stored.keep {w w' : World} {b g : Nat} {c c2 : Array Value} {T T2 : TypeId} (h : Stored w w' b c T) (hg : g ≠ b) (hB : Blk w g c2 T2) : Blk w' g c2 T2 := by
  unfold Blk; rw [h.other g hg]; exact hB
theorem run_store_blk {P : Program} (w : World) (ty : TypeId) (b p : Nat) (cells c : Array Value) (T : TypeId) (hB : Blk w b c T) (hn : p + cells.size ≤ c.size) (hi : (P.info? ty).map (·.size) = some cells.size) (h1 : cells.all (·.oneCell') = true) :
    ∃ w', (Instr.storeAt ty (.pointer (some ⟨b, p, none⟩)) (.agg cells)).run P w = .ok () w' ∧ Stored w w' b (over c p cells) T := by
  have hrun := run_storeCells_at (P := P) b p T cells.toList 0 c w hB (by simpa using hn) (fun v hv => (Array.all_eq_true_iff_forall_mem.1 h1) v (by simpa using hv))
  have hw : ∀ g, g ≠ b → (w.setRow b (c.toList.take p ++ cells.toList ++ c.toList.drop (p + cells.size)).toArray).heap[g]? = w.heap[g]? := fun g hg => by
    simp only [World.setRow, Array.getElem?_modify]; rw [if_neg (fun e => hg e.symm)]
  have hsz : (w.setRow b (c.toList.take p ++ cells.toList ++ c.toList.drop (p + cells.size)).toArray).heap.size = w.heap.size := size_setRow _ _ _
  refine ⟨_, ?_, ?_, hw, hsz, fun B w0 hBb hbel => hbel.trans ⟨rfl, rfl, rfl, by rw [hsz]; exact Nat.le_refl _, fun k hk => hw k (by omega)⟩⟩
  · cases hq : P.info? ty with
    | none => simp [hq] at hi
    | some i =>
      have hs : cells.size = i.size := by simp [hq] at hi; omega
      simp only [Nat.add_zero, Array.length_toList] at hrun
      simp [Instr.storeAt, Instr.sureAddr, storeVar, sizeOf, typeInfo, hq, Value.cells, hs, hrun]
  · have := setRow_heap w b c (c.toList.take p ++ cells.toList ++ c.toList.drop (p + cells.size)).toArray T (0, 0) hB
    unfold Blk over; rw [this, List.append_assoc]
section
variable {P : Program} {ops : Array Oper} {rest : List Oper} {o : Oper} {a : Act} {w : World} {Q : Exit → Act → World → Prop}
theorem wpList_store_row (hgd : o.guard = none) (ty : TypeId) (x y : Operand) (ho : o.op = .store ty x y) (b p : Nat) (cells : Array Value) (hx : a.eval x = .pointer (some ⟨b, p, none⟩)) (hy : a.eval y = .agg cells)
    (c : Array Value) (T : TypeId) (hB : Blk w b c T) (hn : p + cells.size ≤ c.size) (hi : (P.info? ty).map (·.size) = some cells.size) (h1 : cells.all (·.oneCell') = true) (c' : Array Value) (hc : over c p cells = c')
    (h : ∀ w', Stored w w' b c' T → wpList P ops Q rest (a.put o.dst undef) w') : wpList P ops Q (o :: rest) a w := by
  subst hc
  obtain ⟨w', key, hs⟩ := run_store_blk w ty b p cells c T hB hn hi h1
  refine wpList_plain hgd fun K hK => ?_
  unfold Oper.wp execOp
  simp only [ho, hx, hy, Sem.run_bind, key, Result.andThen_ok, Sem.run_pure]
  exact hK _ _ (h w' hs)
variable {md : Region.Mode} {S : World → Prop} {fuel : Nat} {listed : Array Bool}
theorem hK_store (i : Nat) {oi : Oper} (hi : ops[i]? = some oi) (hr : Region.ready md ops listed = [i]) (hgd : oi.guard = none) (ty : TypeId) (x y : Operand) (ho : oi.op = .store ty x y) (b p : Nat) (cells : Array Value) (hx : a.eval x = .pointer (some ⟨b, p, none⟩)) (hy : a.eval y = .agg cells)
    (c : Array Value) (T : TypeId) (hB : Blk w b c T) (hn : p + cells.size ≤ c.size) (hti : (P.info? ty).map (·.size) = some cells.size) (h1 : cells.all (·.oneCell') = true) (c' : Array Value) (hc : over c p cells = c')
    (h : ∀ w', Stored w w' b c' T → S w' ∧ (S w' → ∀ K : Act → Prop, (∀ a, wpAnyH P md ops Q S fuel (listed.setIfInBounds i true) a w' → K a) → K (a.put oi.dst undef))) : wpAnyH P md ops Q S (fuel + 1) listed a w := by
  subst hc
  obtain ⟨w', key, hs⟩ := run_store_blk w ty b p cells c T hB hn hti h1
  obtain ⟨hS, hrest⟩ := h w' hs
  refine wpAnyH_ready hr (by simp) (AllReadyH.cons hi (fun K hK => ?_) AllReadyH.nil)
  rw [if_pos (by simp [Region.wanted, hgd])]
  unfold Oper.wp execOp
  simp only [ho, hx, hy, Sem.run_bind, key, Result.andThen_ok, Sem.run_pure]
  exact hK.out _ _ hS (fun h1 => hrest h1 _ fun _ h => h)
end
end Go.Proofs.Ytliohokcjgcmhaa

namespace Go.Proofs.Ytliohokcjgcmhaa
open Go.RowKit
open Go.Maps (Keyed)
section
variable {P : Program} {ops : Array Oper} {md : Region.Mode} {S : World → Prop} {Q : Exit → Act → World → Prop} {fuel : Nat} {listed : Array Bool} {a : Act} {w : World}
theorem run_look {t k e : TypeId} {q : IntKind} {w : World} {b n : Nat} {D : DataW Unit} (h : w.ownsMap P k (plainElem P e) b n D) (K : Keyed P k) (ht : P.underlying t = some (.map k e)) (he : P.underlying e = some (.int q)) (hz : (zeroValue e).run P w = .ok (.int q 0) w)
    {key : Value} {kl : Lit} (hkey : keyOf P k key = some kl) {c : Int} (hat : D.atKey kl (.lit (.int q 0)) = .lit (.int q c)) : (Instr.lookup t (.map (some b)) key true).run P w = .ok (.tuple #[.int q c, .bool (Maps.has D kl)]) w := by
  obtain ⟨v, ps, hrun, hv⟩ := h.look_ok K ht hz (plainElem_int he (by cases q <;> decide)) hkey
  obtain ⟨a, rfl, ha, _⟩ := plainElem_int_inv he hv
  have h1 := congrArg Prod.fst ha
  simp only [hat] at h1
  rw [hrun]
  injection h1 with h2
  injection h2 with _ h3
  rw [h3]
theorem look_some {t k e : TypeId} {q : IntKind} {w : World} {b n : Nat} {D : DataW Unit} (h : w.ownsMap P k (plainElem P e) b n D) (K : Keyed P k) (ht : P.underlying t = some (.map k e)) (he : P.underlying e = some (.int q)) (hz : (zeroValue e).run P w = .ok (.int q 0) w)
    {key : Value} {kl : Lit} (hkey : keyOf P k key = some kl) : ∃ c, D.atKey kl (.lit (.int q 0)) = .lit (.int q c) := by
  obtain ⟨v, ps, _, hv⟩ := h.look_ok K ht hz (plainElem_int he (by cases q <;> decide)) hkey
  obtain ⟨a, _, ha, _⟩ := plainElem_int_inv he hv
  exact ⟨a, congrArg Prod.fst ha⟩
theorem hK_lookup (i : Nat) {oi : Oper} (hi : ops[i]? = some oi) (hs : Region.noSelect ops = true) (hf : Region.free md ops listed i = true) (hr : (Region.ready md ops listed).contains i = true)
    (t : TypeId) (m x : Operand) (ho : oi.op = .lookup t m x true) (k e : TypeId) (q : IntKind) (K : Keyed P k) (ht : P.underlying t = some (.map k e)) (he : P.underlying e = some (.int q)) (hz : ∀ W, (zeroValue e).run P W = .ok (.int q 0) W) (b n : Nat) (D : DataW Unit)
    (hm : a.eval m = .map (some b)) (hown : ∀ W, S W → W.ownsMap P k (plainElem P e) b n D) (key : Value) (kl : Lit) (hx : a.eval x = key) (hkey : keyOf P k key = some kl) (c : Int) (hat : D.atKey kl (.lit (.int q 0)) = .lit (.int q c)) (yes : Bool) (hyes : Maps.has D kl = yes)
    (hQ : ∀ e a w, Q (.panic e) (a.put oi.dst (.tuple #[.int q c, .bool yes])) w → Q (.panic e) a w) (hgd : oi.guard = none) (hS : S w)
    (h : ∀ K : Act → Prop, (∀ a, wpAnyH P md ops Q S fuel (listed.setIfInBounds i true) a w → K a) → K (a.put oi.dst (.tuple #[.int q c, .bool yes]))) : wpAnyH P md ops Q S (fuel + 1) listed a w := by
  subst hyes
  refine hK_take i _ hi hs hf hr hQ hgd (fun W hW => ?_) hS h
  have hrun := run_look (hown W hW) K ht he (hz W) hkey hat
  simp [execOp, ho, hm, hx, hrun, Result.andThen]
theorem hK_mapUpdate (i : Nat) {oi : Oper} (hi : ops[i]? = some oi) (hr : Region.ready md ops listed = [i]) (hgd : oi.guard = none) (t : TypeId) (m x v : Operand) (ho : oi.op = .mapUpdate t m x v)
    (k e : TypeId) (K : Keyed P k) (ht : P.underlying t = some (.map k e)) (R : Value → Option (DataW Unit × List MemPlace)) (b n : Nat) (D : DataW Unit)
    (hm : a.eval m = .map (some b)) (hown : w.ownsMap P k R b n D) (hn : n < maxLen) (key val : Value) (kl : Lit) (hx : a.eval x = key) (hv : a.eval v = val) (hkey : keyOf P k key = some kl)
    (d : DataW Unit) (ps : List MemPlace) (hval : R val = some (d, ps))
    (h : ∀ w', w'.ownsMap P k R b (n + 1) (D.put kl d) → w.grownBy w' (some b) → S w' ∧ (S w' → ∀ K : Act → Prop, (∀ a, wpAnyH P md ops Q S fuel (listed.setIfInBounds i true) a w' → K a) → K (a.put oi.dst undef))) : wpAnyH P md ops Q S (fuel + 1) listed a w := by
  obtain ⟨w', hrun, r1, r2⟩ := hown.store K ht hn hkey hval
  obtain ⟨hS, hrest⟩ := h w' r1 r2.grown
  refine wpAnyH_ready hr (by simp) (AllReadyH.cons hi (fun K hK => ?_) AllReadyH.nil)
  rw [if_pos (by simp [Region.wanted, hgd])]
  unfold Oper.wp
  simp [execOp, ho, hm, hx, hv, hrun, Result.andThen]
  exact hK.out _ _ hS (fun h1 => hrest h1 _ fun _ h => h)
end
/-- Beside the block that was written all is as it was. -/
theorem grown_same {w w' : World} {b : Nat} (h : w.grownBy w' (some b)) (k : Nat) (hk : k < w.heap.size) (hne : k ≠ b) : w'.heap[k]? = w.heap[k]? := h.block k hk (fun e => hne (Option.some.inj e))
end Go.Proofs.Ytliohokcjgcmhaa

namespace Go.Proofs.Ytliohokcjgcmhaa
open Go.RowKit

theorem cnt_set (l : List Bool) : ∀ (i : Nat), l.getD i true = false → (l.set i true).count false + 1 = l.count false := by
  induction l with
  | nil => intro i h; simp at h
  | cons b l ih =>
    intro i h
    cases i with
    | zero =>
      simp at h
      subst h
      simp
    | succ i =>
      have := ih i (by simpa using h)
      rw [List.set_cons_succ, List.count_cons, List.count_cons]
      omega
/-- What has come, as a function; what lies beyond the operations counts as come. -/
def come (listed : Array Bool) (i : Nat) : Bool := listed.getD i true
def now (L : Nat → Bool) (i j : Nat) : Bool := if j = i then true else L j
theorem come_set (listed : Array Bool) (i : Nat) : come (listed.setIfInBounds i true) = now (come listed) i := by
  funext j
  unfold come now
  simp only [Array.getD_eq_getD_getElem?, Array.getElem?_setIfInBounds]
  by_cases h : i = j
  · subst h
    simp only [if_true]
    split <;> simp
  · rw [if_neg h, if_neg (fun e => h e.symm)]
theorem come_none (n i : Nat) (hi : i < n) : come (Array.replicate n false) i = false := by
  unfold come
  simp [Array.getD_eq_getD_getElem?, hi]
/-- A slot that is written when something has come. -/
def sel (b : Bool) (v : Value) : Value := if b then v else undef
@[simp] theorem sel_true (v : Value) : sel true v = v := rfl
@[simp] theorem sel_false (v : Value) : sel false v = undef := rfl
section
variable {P : Program} {ops : Array Oper} {Q : Exit → Act → World → Prop} {md : Region.Mode} {n : Nat}
/-- What the kernel tells of the operations: nothing waits for what comes later. -/
def onward (md : Region.Mode) (ops : Array Oper) : Bool := (List.range ops.size).all fun i => match ops[i]? with | none => true | some o => o.after.toList.all fun e => !Region.binds md e || decide (e.on < i)
theorem all_come (hok : onward md ops = true) {listed : Array Bool} (hl : listed.size = ops.size) (hr : Region.ready md ops listed = []) : ∀ i, i < ops.size → come listed i = true := by
  intro i
  induction i using Nat.strongRecOn with
  | _ i ih =>
    intro hi
    by_cases hli : listed.getD i true = true
    · exact hli
    exfalso
    have hoi : ops[i]? = some ops[i] := Array.getElem?_eq_getElem hi
    have hm : i ∈ Region.ready md ops listed := by
      rw [mem_ready]
      refine ⟨by simpa using hli, ops[i], hoi, fun e he hb => ?_⟩
      have h1 := (List.all_eq_true.1 hok) i (by simpa using hi)
      rw [hoi] at h1
      have h2 := (List.all_eq_true.1 h1) e (by simpa using he)
      rw [hb] at h2
      simp only [Bool.not_true, Bool.false_or, decide_eq_true_eq] at h2
      have h3 := ih e.on h2 (by omega)
      unfold come at h3
      rw [Array.getD_eq_getD_getElem?, Array.getElem?_eq_getElem (by omega)] at h3 ⊢
      exact h3
    rw [hr] at hm
    cases hm
theorem wpAny_inv (Inv : (Nat → Bool) → Act → World → Prop) (hok : onward md ops = true)
    (hstep : ∀ (i : Nat) (oi : Oper) (L : Nat → Bool) (a : Act) (w : World), ops[i]? = some oi → L i = false → (∀ e ∈ oi.after, Region.binds md e = true → L e.on = true) → Inv L a w → ∀ K : Act → World → Prop, (∀ a' w', Inv (now L i) a' w' → K a' w') → oi.guard = none ∧ oi.wp P a w K Q)
    (hdone : ∀ (L : Nat → Bool) (a : Act) (w : World), (∀ i, i < ops.size → L i = true) → Inv L a w → Q .normal a w) :
    ∀ (fuel : Nat) (listed : Array Bool) (a : Act) (w : World), listed.size = ops.size → listed.toList.count false ≤ fuel → Inv (come listed) a w → wpAny P md ops Q fuel listed a w
  | 0, listed, a, w, hl, hf, hI => by
    have hr : Region.ready md ops listed = [] := by
      rw [List.eq_nil_iff_forall_not_mem]
      intro i hi
      have h1 := (mem_ready.1 hi).1
      have h2 := cnt_set listed.toList i (by simpa [Array.getD_eq_getD_getElem?] using h1)
      omega
    exact ⟨hr, hdone _ a w (all_come hok hl hr) hI⟩
  | fuel + 1, listed, a, w, hl, hf, hI => by
    refine ⟨fun hr => hdone _ a w (all_come hok hl hr) hI, fun i hi => ?_⟩
    obtain ⟨h1, oi, hoi, h2⟩ := mem_ready.1 hi
    have hil : i < listed.size := by
      by_cases h : i < listed.size
      · exact h
      · simp [Array.getD_eq_getD_getElem?, Array.getElem?_eq_none (by omega : listed.size ≤ i)] at h1
    obtain ⟨hg, hw⟩ := hstep i oi (come listed) a w hoi h1 (fun e he hb => by
      have h3 := h2 e he hb
      unfold come
      rw [Array.getD_eq_getD_getElem?] at h3 ⊢
      cases hx : listed[e.on]? with
      | none => rfl
      | some x => rw [hx] at h3; exact h3) hI _ (fun a' w' hI' => wpAny_inv Inv hok hstep hdone fuel (listed.setIfInBounds i true) a' w' (by simpa using hl) (by
        have h3 := cnt_set listed.toList i (by simpa [Array.getD_eq_getD_getElem?] using h1)
        rw [Array.toList_setIfInBounds]
        omega) (by rw [come_set]; exact hI'))
    unfold wpOp
    simp only [hoi, Region.wanted, hg, if_true]
    exact .inl hw
theorem dep_of {L : Nat → Bool} {after : Array Edge} (h : ∀ e ∈ after, Region.binds md e = true → L e.on = true) (k : Nat) (hk : (after.toList.any fun e => e.on == k && Region.binds md e) = true) : L k = true := by
  obtain ⟨e, he, h2⟩ := List.any_eq_true.1 hk
  simp only [Bool.and_eq_true, beq_iff_eq] at h2
  rw [← h2.1]
  exact h e (by simpa using he) h2.2
theorem wp_load_rowI {o : Oper} {a : Act} {w : World} {K : Act → World → Prop} (ty : TypeId) (x : Operand) (ho : o.op = .load ty x) (b p : Nat) (hx : a.eval x = .pointer (some ⟨b, p, none⟩)) (c : Array Value) (T : TypeId) (hB : Blk w b c T)
    (m : Nat) (hn : p + m ≤ c.size) (d : TypeDesc) (hu : P.underlying ty = some d) (hd : d.isRow = true) (hi : (P.info? ty).map (·.size) = some m) (c' : Array Value) (hc : cut c p m = c') (h : K (a.put o.dst (.agg c')) w) : o.wp P a w K Q := by
  subst hc
  exact wp_load_mid ty x ho b p hx ((c.toList.drop p).take m) d (rangeAt_sub hB p m) hu hd (by rw [hi]; simp; omega) h
theorem wp_store_rowI {o : Oper} {a : Act} {w : World} {K : Act → World → Prop} (ty : TypeId) (x y : Operand) (ho : o.op = .store ty x y) (b p : Nat) (cells : Array Value) (hx : a.eval x = .pointer (some ⟨b, p, none⟩)) (hy : a.eval y = .agg cells)
    (c : Array Value) (T : TypeId) (hB : Blk w b c T) (hn : p + cells.size ≤ c.size) (hi : (P.info? ty).map (·.size) = some cells.size) (h1 : cells.all (·.oneCell') = true) (c' : Array Value) (hc : over c p cells = c')
    (h : ∀ w', Stored w w' b c' T → K (a.put o.dst undef) w') : o.wp P a w K Q := by
  subst hc
  obtain ⟨w', key, hs⟩ := run_store_blk w ty b p cells c T hB hn hi h1
  unfold Oper.wp execOp
  simp only [ho, hx, hy, Sem.run_bind, key, Result.andThen_ok, Sem.run_pure]
  exact h w' hs
theorem wp_region_inv {id : Nat} {a : Act} {w : World} (hm : P.follows .mixedOrders = true) (Inv : (Nat → Bool) → Act → World → Prop) (hok : onward .any ops = true) (h0 : Inv (come (Array.replicate ops.size false)) a w.drew)
    (hstep : ∀ (i : Nat) (oi : Oper) (L : Nat → Bool) (a : Act) (w : World), ops[i]? = some oi → L i = false → (∀ e ∈ oi.after, Region.binds .any e = true → L e.on = true) → Inv L a w → ∀ K : Act → World → Prop, (∀ a' w', Inv (now L i) a' w' → K a' w') → oi.guard = none ∧ oi.wp P a w K Q)
    (hdone : ∀ (L : Nat → Bool) (a : Act) (w : World), (∀ i, i < ops.size → L i = true) → Inv L a w → Q .normal a w) : (Code.region id ops true).wp P Q a w :=
  wp_region_any hm (wpAny_inv Inv hok hstep hdone _ _ _ _ (by simp) (by simp) h0)
end
end Go.Proofs.Ytliohokcjgcmhaa
