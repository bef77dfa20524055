/- Lists of lists that a call fills or appends to. -/
import Derived.Test.YtkhpfjamkkicoaaLL
import Derived.Maps.AppendAt
namespace Go.Proofs.Ytkhpfjamkkicoaa
open Go.RowKit

/-! ### Lists of lists -/
theorem info_sl : (Try.prog.info? 26).map (fun i => (i.zero, i.size, i.bytes)) = some (some (.slice none 0 0), 1, 24) := by kernel_rfl
def nils (n : Nat) : Array Value := (List.replicate n (Value.slice none 0 0)).toArray
theorem made_nil (n : Nat) : madeCells (Value.slice none 0 0).cells n = nils n := by
  unfold nils
  apply Array.ext
  · simp [madeCells]
  · intro i h1 h2
    simp [madeCells, Value.cells, Nat.mod_one]
theorem mk_lists (n : Nat) (hn : n ≤ 1048576) (W : World) : (Instr.makeSlice 34 (.int .i64 n) (.int .i64 n)).run Try.prog W = .ok (.slice (some ⟨W.heap.size, 0, none⟩) n n) (W.alloc (.cells (nils n) 26)) := by
  obtain ⟨i0, hi, hz0, hz1, hz2⟩ := info_parts info_sl
  have := run_make (P := Try.prog) W 34 26 i0 (.slice none 0 0) Try.underlying34 hi hz0 .i64 .i64 n n (by omega) (by omega) (by rw [hz2]; omega) (by omega)
  rwa [hz1, Int.toNat_natCast, Nat.mul_one, made_nil] at this
theorem OwnLV.made {w : World} {base g n : Nat} (hn : n ≤ maxLen) (hb : base ≤ g) (hB : Blk w g (nils n) 26) : OwnLV w base (.slice (some ⟨g, 0, none⟩) n n) (List.replicate n (.slice none 0 0)) (List.replicate n []) := by
  unfold nils at hB
  refine ⟨by simp, ⟨by simp, .inr ⟨g, n, _, by simp, hb, hB, by simp, hn, by simp, ?_⟩⟩, fun i h h' => ?_, fun i j _ _ _ k hk => ?_, fun i h k hk => ?_⟩
  · simp
  · rw [List.getElem_replicate, List.getElem_replicate]; exact OwnI.nil _ _
  · rw [List.getElem_replicate] at hk; cases hk
  · rw [List.getElem_replicate] at hk; cases hk
theorem OwnLV.empty {w : World} {base g cap : Nat} {cur : Array Value} (hb : base ≤ g) (hm : cap ≤ maxLen) (hs : cur.size = cap) (hB : Blk w g cur 26) : OwnLV w base (.slice (some ⟨g, 0, none⟩) 0 cap) [] [] :=
  ⟨rfl, ⟨by simp, .inr ⟨g, cap, cur, rfl, hb, hB, by simp, hm, by simpa using hs, by simp⟩⟩, fun _ h => absurd h (by simp), fun _ _ h => absurd h (by simp), fun _ h => absurd h (by simp)⟩
/-- A list is put in its place. -/
theorem OwnLV.put {w : World} {base g n cap i : Nat} {vs : List Value} {zss : List (List Int)} (h : OwnLV w base (.slice (some ⟨g, 0, none⟩) n cap) vs zss) (u : Value) (zs : List Int) (hu : OwnI w base u zs) (hne : ∀ k, u.ownBlock = some k → ¬ inLV (.slice (some ⟨g, 0, none⟩) n cap) vs k) : OwnLV (w.setCell ⟨g, i, none⟩ u) base (.slice (some ⟨g, 0, none⟩) n cap) (vs.set i u) (zss.set i zs) := by
  have hl := h.len
  have hrow := h.row
  have hn : n = vs.length := by
    rcases hrow.2 with ⟨e, _⟩ | ⟨g', cap', cur, e, _⟩
    · cases e
    · simp only [Value.slice.injEq] at e; exact e.2.1
  subst hn
  have hfr : ∀ k, k ≠ g → (w.setCell ⟨g, i, none⟩ u).heap[k]? = w.heap[k]? := fun k hk => Below.heap_setCell _ _ _ k hk
  refine ⟨by simp [hl], ?_, fun j hj hj' => ?_, fun a b ha hb hab k h1 h2 => ?_, fun j hj k h1 h2 => ?_⟩
  · have := (World.ownsRow.stored hrow i u).1
    simpa using this
  · rw [List.getElem_set, List.getElem_set]
    split
    · exact owns_same hu fun k hk => hfr k fun e => hne k hk (.inl (by rw [e]; rfl))
    · have hj2 : j < vs.length := by simpa using hj
      exact owns_same (h.own j hj2 (by omega)) fun k hk => hfr k fun e => h.off j hj2 k hk (by rw [e]; rfl)
  · have ha2 : a < vs.length := by simpa using ha
    have hb2 : b < vs.length := by simpa using hb
    rw [List.getElem_set] at h1 h2
    split at h1
    · rw [if_neg (by omega)] at h2
      exact hne k h1 (.inr ⟨_, List.getElem_mem hb2, h2⟩)
    · split at h2
      · exact hne k h2 (.inr ⟨_, List.getElem_mem ha2, h1⟩)
      · exact h.apart a b ha2 hb2 hab k h1 h2
  · have hj2 : j < vs.length := by simpa using hj
    rw [List.getElem_set] at h1
    split at h1
    · exact hne k h1 (.inl h2)
    · exact h.off j hj2 k h1 h2
theorem inLV_set {v u : Value} {vs : List Value} {i k : Nat} (h : inLV v (vs.set i u) k) : inLV v vs k ∨ u.ownBlock = some k := by
  rcases h with h | ⟨x, hx, h⟩
  · exact .inl (.inl h)
  · rcases List.mem_or_eq_of_mem_set hx with h2 | h2
    · exact .inl (.inr ⟨x, h2, h⟩)
    · subst h2; exact .inr h
theorem OwnI.spared {w w' : World} {base : Nat} {v a : Value} {zs : List Int} (h : OwnI w base v zs) (hs : Spares w w' a) (hne : ∀ k, v.ownBlock = some k → a.ownBlock = some k → False) : OwnI w' base v zs :=
  owns_same h fun k hk => hs k (h.lt k hk) fun e => hne k hk e.symm
theorem OwnLV.spared {w w' : World} {base : Nat} {v a : Value} {vs : List Value} {zss : List (List Int)} (h : OwnLV w base v vs zss) (hs : Spares w w' a) (hne : ∀ k, inLV v vs k → a.ownBlock = some k → False) : OwnLV w' base v vs zss :=
  h.same fun k hk => hs k (h.lt k hk).2 fun e => hne k hk e.symm
theorem Spares.blkL {w w' : World} {v : Value} {b base : Nat} {c : Array Value} {vs : List Value} {zss : List (List Int)} (h : Spares w w' v) (hB : Blk w b c 29) (ho : OwnLV w base v vs zss) : Blk w' b c 29 := by
  unfold Blk
  rw [h b hB.lt (fun e => ?_)]
  · exact hB
  · rcases ho.row.2 with ⟨rfl, _⟩ | ⟨g, c1, cur, rfl, _, hh, _⟩
    · cases e
    · have : b = g := by simpa [Value.ownBlock] using e
      subst this
      unfold Blk at hB
      rw [hh] at hB
      simp at hB
section
variable {ops : Array Oper} {rest : List Oper} {o : Oper} {a : Act} {w : World} {Q : Exit → Act → World → Prop}
/-- A number more, and where the list then lies. -/
theorem wpList_push_int_at (hgd : o.guard = none) (s x : Operand) (ho : o.op = .call { callee := .builtin .append, args := #[s, x], argTypes := #[26, 26] })
    (base : Nat) (v : Value) (zs : List Int) (hs : a.eval s = v) (hown : OwnI w base v zs) (g c : Nat) (z : Int) (hx : a.eval x = .slice (some ⟨g, 0, none⟩) 1 c) (hB : Blk w g #[.int .i64 z] 2)
    (hn : zs.length + 1 ≤ 1048576) (hbase : base ≤ w.heap.size)
    (h : ∀ v' w', OwnI w' base v' (zs ++ [z]) → Below base w w' → Spares w w' v → (v'.ownBlock = v.ownBlock ∨ v'.ownBlock = some w.heap.size) → wpList Try.prog ops Q rest (a.put o.dst v') w') : wpList Try.prog ops Q (o :: rest) a w := by
  obtain ⟨i0, hi, hz0, hz1, hz2⟩ := info_parts info2
  refine wpList_append_own_at _ hgd s x 26 ho base 2 i0 (.int .i64 0) 1 8 Try.underlying26 hi hz0 hz1 hz2 rfl (by decide) v zs.length _ hs hown ⟨g, 0, none⟩ 1 c [.int .i64 z] hx rfl
    (fun j u hu => ?_) (fun u hu => ?_) (by unfold maxLen; omega) (by omega) hbase (fun v' w' hown' hg _ hbl => h v' w' ?_ (below_grown hown hg hbase) hg.block hbl)
  · match j, hu with
    | 0, hu => simp at hu; subst hu; simpa [Addr.add] using hB.cell 0
  · simp at hu; subst hu; rfl
  · unfold OwnI; simpa using hown'
/-- A list more in a list of lists. -/
theorem wpList_push_list (hgd : o.guard = none) (s x : Operand) (ho : o.op = .call { callee := .builtin .append, args := #[s, x], argTypes := #[34, 34] })
    (base : Nat) (v : Value) (vs : List Value) (zss : List (List Int)) (hs : a.eval s = v) (hown : OwnLV w base v vs zss) (g c : Nat) (u : Value) (zs : List Int) (hx : a.eval x = .slice (some ⟨g, 0, none⟩) 1 c) (hB : Blk w g #[u] 26)
    (hu : OwnI w base u zs) (hne : ∀ k, u.ownBlock = some k → ¬ inLV v vs k) (hn : zss.length + 1 ≤ 1048576) (hbase : base ≤ w.heap.size)
    (h : ∀ v' w', OwnLV w' base v' (vs ++ [u]) (zss ++ [zs]) → Below base w w' → Spares w w' v → (v'.ownBlock = v.ownBlock ∨ v'.ownBlock = some w.heap.size) → wpList Try.prog ops Q rest (a.put o.dst v') w') : wpList Try.prog ops Q (o :: rest) a w := by
  obtain ⟨i0, hi, hz0, hz1, hz2⟩ := info_parts info_sl
  have hl := hown.len
  obtain ⟨ou, cu, hue, _⟩ := hu.view
  refine wpList_append_own_at _ hgd s x 34 ho base 26 i0 (.slice none 0 0) 1 24 Try.underlying34 hi hz0 hz1 hz2 rfl (by decide) v vs.length _ hs hown.row ⟨g, 0, none⟩ 1 c [u] hx rfl
    (fun j u' hu' => ?_) (fun u' hu' => ?_) (by unfold maxLen; omega) (by omega) hbase (fun v' w' hown' hg _ hbl => h v' w' ?_ (below_grown hown.row hg hbase) hg.block hbl)
  · match j, hu' with
    | 0, hu' => simp at hu'; subst hu'; simpa [Addr.add] using hB.cell 0
  · simp at hu'; subst hu'; rw [hue]; rfl
  · have hsp : Spares w w' v := hg.block
    refine ⟨by simp [hl], by simpa using hown', fun i hi hi' => ?_, fun i j hi hj hij k h1 h2 => ?_, fun i hi k h1 h2 => ?_⟩
    · by_cases hlt : i < vs.length
      · rw [List.getElem_append_left hlt, List.getElem_append_left (by omega)]
        exact (hown.own i hlt (by omega)).spared hsp fun k hk e => hown.off i hlt k hk e
      · have hi2 : i = vs.length := by simp at hi; omega
        subst hi2
        rw [List.getElem_append_right (Nat.le_refl _), List.getElem_append_right (by omega)]
        simp only [hl, Nat.sub_self, List.getElem_cons_zero]
        exact hu.spared hsp fun k hk e => hne k hk (.inl e)
    · by_cases hj2 : j < vs.length
      · rw [List.getElem_append_left (by omega)] at h1
        rw [List.getElem_append_left hj2] at h2
        exact hown.apart i j (by omega) hj2 hij k h1 h2
      · have hj3 : j = vs.length := by simp at hj; omega
        subst hj3
        rw [List.getElem_append_left hij] at h1
        rw [List.getElem_append_right (Nat.le_refl _)] at h2
        simp only [Nat.sub_self, List.getElem_cons_zero] at h2
        exact hne k h2 (.inr ⟨_, List.getElem_mem hij, h1⟩)
    · have hkin : k < w.heap.size ∧ (v.ownBlock = some k → False) := by
        by_cases hlt : i < vs.length
        · rw [List.getElem_append_left hlt] at h1
          exact ⟨(hown.own i hlt (by omega)).lt k h1, fun e => hown.off i hlt k h1 e⟩
        · have hi2 : i = vs.length := by simp at hi; omega
          subst hi2
          rw [List.getElem_append_right (Nat.le_refl _)] at h1
          simp only [Nat.sub_self, List.getElem_cons_zero] at h1
          exact ⟨hu.lt k h1, fun e => hne k h1 (.inl e)⟩
      rcases hbl with e | e
      · exact hkin.2 (e ▸ h2)
      · rw [e] at h2; cases h2; omega
theorem inLV_push {v v' u : Value} {vs : List Value} {k : Nat} (h : inLV v' (vs ++ [u]) k) : v'.ownBlock = some k ∨ inLV v vs k ∨ u.ownBlock = some k := by
  rcases h with h | ⟨x, hx, h⟩
  · exact .inl h
  · rcases List.mem_append.1 hx with h2 | h2
    · exact .inr (.inl (.inr ⟨x, h2, h⟩))
    · simp at h2; subst h2; exact .inr (.inr h)
end
theorem below_stepB {B : Nat} {w X w1 : World} (h : Below B w X) (hB : B ≤ X.heap.size) (hb : Below X.heap.size X w1) : Below B w w1 := h.trans (below_le hb hB)
theorem below_allocB {B : Nat} {w X : World} (h : Below B w X) (hB : B ≤ X.heap.size) (o : Obj) : Below B w (X.alloc o) := h.alloc hB o
end Go.Proofs.Ytkhpfjamkkicoaa
