/- 'slices.Grow', 'slices.Concat', 'steps': the program. -/
import Derived.Test.YticnpajbefflbaaGrJ
namespace Go.Proofs.Yticnpajbefflbaa
open Go.RowKit

theorem run_append_made {P : Program} (w : World) (t u ty e : TypeId) (i : TypeInfo) (z : Value) (ht : P.underlying t = some (.slice e)) (hu : P.underlying u = some (.int .i64)) (hi : P.info? e = some i) (hz : i.zero = some z)
    (n : Nat) (h0 : 0 < n) (h63 : n ≤ 1000000) (hb2 : i.bytes ≤ 1000) (hsz : 0 < i.size) :
    (Builtin.append_ #[t, u] ty #[.slice none 0 0, .int .i64 n]).run P w =
      .ok (.slice (some ⟨w.heap.size, 0, none⟩) n (grownCap w n 0 e)) (w.drew.alloc (.cells (Builtin.zeroCells z.cells n ++ Builtin.zeroCells z.cells (grownCap w n 0 e - n)) e)) := by
  have hn : n ≠ 0 := by omega
  have hw : IntKind.i64.wrap (n : Int) = (n : Int) := IntWalk.i64_in _ (by omega)
  have hm : n * i.bytes ≤ 1000000 * 1000 := Nat.mul_le_mul h63 hb2
  have h48' : ¬ (281474976710656 < Builtin.nextslicecap n 0 * i.bytes) := by rw [nextslicecap_zero h0]; omega
  have h48 : ¬ (281474976710656 < (n : Int) * (i.bytes : Int)) := by
    have : ((n * i.bytes : Nat) : Int) = (n : Int) * (i.bytes : Int) := Int.natCast_mul _ _
    omega
  have h63' : ¬ (9223372036854775807 < (n : Int)) := by omega
  have hneg : ¬ ((n : Int) < 0) := by omega
  have hns : ¬ (n * i.size = 0) := by rw [Nat.mul_eq_zero]; omega
  simp [Builtin.append_, run_underlying ht, run_underlying hu, sizeOf, typeInfo, zeroValue, hi, hz, hn, h63', h48', h48, Question.forced, newRow, grownCap, asInt, asIntOf, hw, hneg, hns, Builtin.firstCells]
section
variable {ops : Array Oper} {rest : List Oper} {o : Oper} {a : Act} {w : World} {Q : Exit → Act → World → Prop}
theorem wpList_append_made (hgd : o.guard = none) (s x : Operand) (ho : o.op = .call { callee := .builtin .append, args := #[s, x], argTypes := #[80, 3] })
    (n : Nat) (hs : a.eval s = .slice none 0 0) (hx : a.eval x = .int .i64 n) (h0 : 0 < n) (h63 : n ≤ 1000000)
    (h : ∀ (cap : Nat) (cur : Array Value), cap ≤ maxLen → n ≤ cap → cur.size = cap * 2 → wpList Try.prog ops Q rest (a.put o.dst (.slice (some ⟨w.heap.size, 0, none⟩) n cap)) (w.drew.alloc (.cells cur 86))) : wpList Try.prog ops Q (o :: rest) a w := by
  obtain ⟨i0, hi, hz0, hz1, hz2⟩ := info_parts info_st
  have hr := run_append_made (P := Try.prog) w 80 3 o.type 86 i0 (.agg #[.int .i64 0, .slice none 0 0]) Try.underlying80 Try.underlying3 hi hz0 n h0 h63 (by omega) (by omega)
  refine wpList_plain hgd fun K hK => ?_
  unfold Oper.wp execOp
  simp only [ho, resolve, invoke, builtin, Sem.run_bind, Sem.run_pure, Result.andThen_ok, List.map_toArray, List.map_cons, List.map_nil, hs, hx, hr]
  refine hK _ _ (h _ _ (grownCap_le_maxLen _ _ _ _ (by unfold maxLen; omega)) (grownCap_ge _ _ _ _) ?_)
  have h1 := grownCap_ge w n 0 86
  rw [Array.size_append, size_zeroCells, size_zeroCells]
  show n * 2 + (_ - n) * 2 = _ * 2
  omega
end
/-- The row of a slice of steps, of the call's own. -/
def RowSt (w : World) (base : Nat) (v : Value) (n : Nat) (xs : List Value) : Prop := w.ownsRow base 86 2 v n xs

/-- What has come behind k slices. -/
def cnK (a b : Nat) (k : Nat) : Nat := if k = 0 then 0 else if k = 1 then a else a + b
def ccK (A B : List Value) (k : Nat) : List Value := if k = 0 then [] else if k = 1 then A else A ++ B

theorem stF_one : ∀ (ps : List (Int × List Int)) (us : List Value), (∀ u ∈ us, u.oneCell' = true) → ∀ x ∈ stF ps us, x.oneCell' = true
  | p :: ps, u :: us, h, x, hx => by
    simp only [stF, List.mem_cons] at hx
    rcases hx with rfl | rfl | hx
    · rfl
    · exact h _ (by simp)
    · exact stF_one ps us (fun y hy => h y (by simp [hy])) x hx
  | [], _, _, x, hx => by cases hx
  | _ :: _, [], _, x, hx => by cases hx
theorem SeesI.one {w : World} {v : Value} {zs : List Int} (h : SeesI w v zs) : v.oneCell' = true := by
  obtain ⟨o, c, rfl, _⟩ := h.view
  rfl
theorem SeesSt.of_row {w : World} {base n : Nat} {v : Value} {us : List Value} {ps : List (Int × List Int)} (h : RowSt w base v n (stF ps us)) (hl : us.length = ps.length) (hn : n = ps.length) (h0 : 0 < ps.length) (hs : ∀ j (hj : j < ps.length) (hu : j < us.length), SeesI w us[j] ps[j].2) : SeesSt w v ps := by
  subst hn
  rcases h.2 with ⟨_, h1⟩ | ⟨g, cap, cur, rfl, hg, hh, hn, hm, hsz, ht⟩
  · omega
  · refine ⟨g, cap, us, hl, rfl, (Array.getElem?_eq_some_iff.1 hh).1, fun j u hu => ?_, hs⟩
    rw [Nat.zero_add, Go.Joins.cell_of_block hh]
    have hjl : j < ps.length * 2 := by
      have := (List.getElem?_eq_some_iff.1 hu).1
      rw [stF_len ps us hl] at this
      exact this
    have := congrArg (fun l => l[j]?) ht
    simp only [List.getElem?_take] at this
    rw [if_pos hjl, hu] at this
    simpa using this

/-- Steps whose slice lies in block g, their tables below B. -/
def StAt (w : World) (B g : Nat) (v : Value) (ps : List (Int × List Int)) : Prop := ∃ (cap : Nat) (us : List Value), us.length = ps.length ∧ v = .slice (some ⟨g, 0, none⟩) ps.length cap ∧ g < w.heap.size ∧ w.rangeAt g 0 (stF ps us) ∧ (∀ j (hj : j < ps.length) (hu : j < us.length), SeesI w us[j] ps[j].2) ∧ ∀ j (hu : j < us.length) q, us[j].ownBlock = some q → q < B
theorem StAt.sees {w : World} {B g : Nat} {v : Value} {ps : List (Int × List Int)} (h : StAt w B g v ps) : SeesSt w v ps := by
  obtain ⟨cap, us, h1, h2, h3, h4, h5, _⟩ := h
  exact ⟨g, cap, us, h1, h2, h3, h4, h5⟩
theorem StAt.keeps {w w1 : World} {B g : Nat} {v : Value} {ps : List (Int × List Int)} (h : StAt w B g v ps) (hs : w.heap.size ≤ w1.heap.size) (hk : ∀ k, k < w.heap.size → (k < B ∨ k = g) → w1.heap[k]? = w.heap[k]?) : StAt w1 B g v ps := by
  obtain ⟨cap, us, h1, h2, h3, h4, h5, h6⟩ := h
  refine ⟨cap, us, h1, h2, by omega, fun j u hu => ?_, fun j hj hu => (h5 j hj hu).other fun k e => hk k ((h5 j hj hu).lt k e) (.inl (h6 j hu k e)), h6⟩
  have h7 := h4 j u hu
  unfold World.cell? at h7 ⊢
  dsimp only at h7 ⊢
  rw [hk g h3 (.inr rfl)]
  exact h7
theorem StAt.of_row {w : World} {base n B : Nat} {v : Value} {us : List Value} {ps : List (Int × List Int)} (h : RowSt w base v n (stF ps us)) (hl : us.length = ps.length) (hn : n = ps.length) (h0 : 0 < ps.length) (hs : ∀ j (hj : j < ps.length) (hu : j < us.length), SeesI w us[j] ps[j].2 ∧ ∀ q, us[j].ownBlock = some q → q < B) : ∃ g, base ≤ g ∧ StAt w B g v ps := by
  subst hn
  rcases h.2 with ⟨_, h1⟩ | ⟨g, cap, cur, rfl, hg, hh, hn, hm, hsz, ht⟩
  · omega
  · refine ⟨g, hg, cap, us, hl, rfl, (Array.getElem?_eq_some_iff.1 hh).1, fun j u hu => ?_, fun j hj hu => (hs j hj hu).1, fun j hu => (hs j (by omega) hu).2⟩
    rw [Nat.zero_add, Go.Joins.cell_of_block hh]
    have hjl : j < ps.length * 2 := by
      have := (List.getElem?_eq_some_iff.1 hu).1
      rw [stF_len ps us hl] at this
      exact this
    have := congrArg (fun l => l[j]?) ht
    simp only [List.getElem?_take] at this
    rw [if_pos hjl, hu] at this
    simpa using this

end Go.Proofs.Yticnpajbefflbaa
