/- Slices of edges that a call has made: as flat lists of numbers; equal, marked, held. -/
import Derived.Test.YticnpajbefflbaaMarks
import Derived.Test.YticnpajbefflbaaArgs
import Derived.Test.YticnpajbefflbaaHeldK
import Derived.Test.YticnpajbefflbaaGrD
namespace Go.Proofs.Yticnpajbefflbaa
open Go.RowKit

/-- Edges of the call's own: three numbers each. -/
def OwnE (w : World) (base : Nat) (v : Value) (fl : List Int) : Prop := ∃ n, fl.length = 3 * n ∧ w.ownsRow base 79 3 v n (fl.map (Value.int .i64))
theorem OwnE.nil (w : World) (base : Nat) : OwnE w base (.slice none 0 0) [] := ⟨0, rfl, World.ownsRow_nil w base _ _⟩
theorem OwnE.ltt {w : World} {base : Nat} {v : Value} {fl : List Int} (h : OwnE w base v fl) : ∀ k, v.ownBlock = some k → base ≤ k ∧ k < w.heap.size := by
  obtain ⟨n, _, h⟩ := h
  exact World.ownsRow.lt h
theorem OwnE.same {w w1 : World} {base : Nat} {v : Value} {fl : List Int} (h : OwnE w base v fl) (hs : ∀ k, v.ownBlock = some k → w1.heap[k]? = w.heap[k]?) : OwnE w1 base v fl := by
  obtain ⟨n, hn, h⟩ := h
  exact ⟨n, hn, row_same h hs⟩
theorem OwnE.below {w w1 : World} {base : Nat} {v : Value} {fl : List Int} (h : OwnE w base v fl) (hb : Below w.heap.size w w1) : OwnE w1 base v fl := h.same fun k hk => hb.block k (h.ltt k hk).2
theorem OwnE.other {w w' : World} {base : Nat} {v a : Value} {fl : List Int} (h : OwnE w base v fl) (hs : ∀ b, a.ownBlock ≠ some b → w'.heap[b]? = w.heap[b]?) (hne : ∀ k, v.ownBlock = some k → a.ownBlock = some k → False) : OwnE w' base v fl :=
  h.same fun k hk => hs k fun e => hne k hk e
theorem OwnE.base_le {w : World} {base b : Nat} {v : Value} {fl : List Int} (h : OwnE w base v fl) (hb : b ≤ base) : OwnE w b v fl := by
  obtain ⟨n, hn, h1, h2⟩ := h
  refine ⟨n, hn, h1, ?_⟩
  rcases h2 with h2 | ⟨g, cap, cur, hv, hg, r⟩
  · exact Or.inl h2
  · exact Or.inr ⟨g, cap, cur, hv, Nat.le_trans hb hg, r⟩
theorem OwnE.view {w : World} {base : Nat} {v : Value} {fl : List Int} (h : OwnE w base v fl) : ∃ n oa cap, fl.length = 3 * n ∧ v = .slice oa n cap ∧ (0 < n → ∃ g cur, oa = some ⟨g, 0, none⟩ ∧ base ≤ g ∧ Blk w g cur 79 ∧ ∀ i (hi : i < fl.length), cur[i]? = some (.int .i64 fl[i])) := by
  obtain ⟨n, hn, h1, h2⟩ := h
  rcases h2 with ⟨rfl, h0⟩ | ⟨g, cap, cur, rfl, hg, hB, hc, hm, hs, ht⟩
  · exact ⟨0, none, 0, by rw [hn, h0], rfl, fun h => absurd h (by omega)⟩
  · refine ⟨n, _, cap, hn, rfl, fun _ => ⟨g, cur, rfl, hg, hB, fun i hi => ?_⟩⟩
    have := congrArg (fun l => l[i]?) ht
    simp only [List.getElem?_take] at this
    rw [if_pos (by omega)] at this
    simpa [List.getElem?_eq_getElem hi] using this
theorem OwnE.put {w : World} {base g n cap i : Nat} {fl : List Int} (h : OwnE w base (.slice (some ⟨g, 0, none⟩) n cap) fl) (z : Int) : OwnE (w.setCell ⟨g, i, none⟩ (.int .i64 z)) base (.slice (some ⟨g, 0, none⟩) n cap) (fl.set i z) := by
  obtain ⟨m, hm, h⟩ := h
  have e : m = n := by
    rcases h.2 with ⟨e, _⟩ | ⟨g', cap', cur, e, _⟩
    · cases e
    · simp only [Value.slice.injEq] at e; omega
  subst e
  refine ⟨m, by rw [List.length_set]; exact hm, ?_⟩
  have := (World.ownsRow.stored h i (.int .i64 z)).1
  simpa [List.map_set] using this
theorem info_ed : (Try.prog.info? 79).map (fun i => (i.zero, i.size, i.bytes)) = some (some (.agg #[.int .i64 0, .int .i64 0, .int .i64 0]), 3, 24) := by kernel_rfl
section
variable {ops : Array Oper} {rest : List Oper} {o : Oper} {a : Act} {w : World} {Q : Exit → Act → World → Prop}
/-- An edge more. -/
theorem wpList_push_edge (hgd : o.guard = none) (s x : Operand) (ho : o.op = .call { callee := .builtin .append, args := #[s, x], argTypes := #[47, 47] })
    (base : Nat) (v : Value) (fl : List Int) (hs : a.eval s = v) (hown : OwnE w base v fl) (g c : Nat) (x0 x1 x2 : Int) (hx : a.eval x = .slice (some ⟨g, 0, none⟩) 1 c) (hB : Blk w g #[.int .i64 x0, .int .i64 x1, .int .i64 x2] 79)
    (hn : fl.length ≤ 1048576) (hbase : base ≤ w.heap.size)
    (h : ∀ v' w', OwnE w' base v' (fl ++ [x0, x1, x2]) → Below base w w' → wpList Try.prog ops Q rest (a.put o.dst v') w') : wpList Try.prog ops Q (o :: rest) a w := by
  obtain ⟨i0, hi, hz0, hz1, hz2⟩ := info_parts info_ed
  obtain ⟨n, hl, hrow⟩ := hown
  refine wpList_append_own_at _ hgd s x 47 ho base 79 i0 (.agg #[.int .i64 0, .int .i64 0, .int .i64 0]) 3 24 Try.underlying47 hi hz0 hz1 hz2 rfl (by decide) v n _ hs hrow ⟨g, 0, none⟩ 1 c [.int .i64 x0, .int .i64 x1, .int .i64 x2] hx rfl
    (fun j u' hu' => ?_) (fun u' hu' => ?_) (by unfold maxLen; omega) (by omega) hbase (fun v' w' hown' hg _ hbl => h v' w' ?_ (below_grown hrow hg hbase))
  · match j, hu' with
    | 0, hu' => simp at hu'; subst hu'; simpa [Addr.add] using hB.cell 0
    | 1, hu' => simp at hu'; subst hu'; simpa [Addr.add] using hB.cell 1
    | 2, hu' => simp at hu'; subst hu'; simpa [Addr.add] using hB.cell 2
  · simp at hu'
    rcases hu' with rfl | rfl | rfl <;> rfl
  · exact ⟨n + 1, by simp [hl]; omega, by simpa using hown'⟩
end

set_option maxRecDepth 100000 in
set_option maxHeartbeats 1000000 in
theorem eqEdge_calls (x y z : Int) (w : World) :
    Calls Try.prog 57 #[.agg #[.int .i64 x, .int .i64 y, .int .i64 z], .agg #[.int .i64 x, .int .i64 y, .int .i64 z]] w fun e w' => e = .returned (.bool true) ∧ Below w.heap.size w w' := by
  have hx : (x != x) = false := by simp
  have hy : (y != y) = false := by simp
  have hz : (z != z) = false := by simp
  go_enter Try.func57, Try.ntmps57
  go_wp2
  go_ret
  exact ⟨rfl, by (repeat (first | exact Below.refl _ _ | refine below_drew' ?_ | refine below_drewN' ?_ _ | refine below_alloc' ?_ _ | refine below_set' ?_ (by (try simp); (try omega)) _ | refine below_step ?_ (by assumption)))⟩

set_option maxRecDepth 100000 in
set_option maxHeartbeats 2000000 in
theorem eqEdgeS_same (a b : Value) (ba bb : Nat) (fl : List Int) (w : World) (ha : OwnE w ba a fl) (hb : OwnE w bb b fl) :
    Calls Try.prog 29 #[a, b] w fun e w' => e = .returned (.bool true) ∧ Below w.heap.size w w' := by
  obtain ⟨n, oa, ca, hn, rfl, hva⟩ := ha.view
  obtain ⟨n', ob, cb, hn', rfl, hvb⟩ := hb.view
  obtain rfl : n = n' := by omega
  have hnn : ((n : Int) != (n : Int)) = false := by simp
  by_cases h0 : n = 0
  · subst h0
    go_enter Try.func29, Try.ntmps29
    go_wp2
    go_loopw [5] (fun i wr => i = .int .i64 0 ∧ wr = w) (fun _ _ => 0)
    case atStart => exact ⟨rfl, rfl⟩
    case round =>
      obtain ⟨rfl, rfl⟩ := hrel
      go_wp2
      go_ret
      exact ⟨rfl, Below.refl _ _⟩
  · obtain ⟨g, cur, rfl, _, hB, hc⟩ := hva (by omega)
    obtain ⟨g', cur', rfl, _, hB', hc'⟩ := hvb (by omega)
    have Ha : Hid (∀ W i (hi : i < fl.length), Below w.heap.size w W → W.cell? ⟨g, i, none⟩ = some (.int .i64 fl[i])) := Lib.hid (fun W i hi hW => ((hB.keptAll hW).cell i).trans (hc i hi))
    have Hb : Hid (∀ W i (hi : i < fl.length), Below w.heap.size w W → W.cell? ⟨g', i, none⟩ = some (.int .i64 fl[i])) := Lib.hid (fun W i hi hW => ((hB'.keptAll hW).cell i).trans (hc' i hi))
    have hnm : n ≤ 9223372036854775807 := by
      obtain ⟨m, hm, _, h2⟩ := ha
      rcases h2 with ⟨e, _⟩ | ⟨g2, cap2, cur2, e, _, _, hm2, hm3, _⟩
      · cases e
      · unfold maxLen at hm3; simp only [Value.slice.injEq] at e; omega
    clear ha hb hva hvb hB hB' hc hc'
    go_enter Try.func29, Try.ntmps29
    go_wp2
    go_loopw [5] (fun i wr => ∃ j : Nat, j ≤ n ∧ i = .int .i64 j ∧ Below w.heap.size w wr) (fun i _ => n - (intOf i).toNat)
    case atStart => exact ⟨0, by omega, rfl, Below.refl _ _⟩
    case round =>
      obtain ⟨j, hj, rfl, hbw⟩ := hrel
      by_cases hlt : j < n
      · have hji : (j : Int) < (n : Int) := by omega
        have a0 := Lib.hid (fun W hW => Ha.out W (j * 3) (by omega) hW)
        have a1 := Lib.hid (fun W hW => Ha.out W (j * 3 + 1) (by omega) hW)
        have a2 := Lib.hid (fun W hW => Ha.out W (j * 3 + 2) (by omega) hW)
        have b0 := Lib.hid (fun W hW => Hb.out W (j * 3) (by omega) hW)
        have b1 := Lib.hid (fun W hW => Hb.out W (j * 3 + 1) (by omega) hW)
        have b2 := Lib.hid (fun W hW => Hb.out W (j * 3 + 2) (by omega) hW)
        generalize fl[j * 3] = x at *
        generalize fl[j * 3 + 1] = y at *
        generalize fl[j * 3 + 2] = z at *
        go_wp2
        have hdr : Below wr.heap.size wr wr.drew := (Below.refl _ _).drew
        have hbd := below_step hbw hdr
        refine wp_region_held_drew (S := fun W => Below w.heap.size w W) (by kernel_rfl) hbd (fun hS0 => ?_)
        (refine hK_take 0 (.slice (some ⟨g, 0, none⟩) n ca) rfl (by kernel_rfl) (by kernel_rfl) (by kernel_rfl) (fun _ _ _ h => h) rfl (fun W _ => by go_simp) hS0 ?_; (intro K hK; go_simp; refine hK _ ?_; clear hK K))
        (refine hK_take 1 (.int .i64 (j : Int)) rfl (by kernel_rfl) (by kernel_rfl) (by kernel_rfl) (fun _ _ _ h => h) rfl (fun W _ => by go_simp) hS0 ?_; (intro K hK; go_simp; refine hK _ ?_; clear hK K))
        (refine hK_take 2 (.pointer (some ⟨g, j * 3, none⟩)) rfl (by kernel_rfl) (by kernel_rfl) (by kernel_rfl) (fun _ _ _ h => h) rfl (fun W _ => by go_simp) hS0 ?_; (intro K hK; go_simp; refine hK _ ?_; clear hK K))
        (refine hK_take 3 (.agg #[.int .i64 x, .int .i64 y, .int .i64 z]) rfl (by kernel_rfl) (by kernel_rfl) (by kernel_rfl) (fun _ _ _ h => h) rfl (fun W hW => by have c0 := a0.out W hW; have c1 := a1.out W hW; have c2 := a2.out W hW; clear hW; go_simp) hS0 ?_; (intro K hK; go_simp; refine hK _ ?_; clear hK K))
        (refine hK_take 4 (.slice (some ⟨g', 0, none⟩) n cb) rfl (by kernel_rfl) (by kernel_rfl) (by kernel_rfl) (fun _ _ _ h => h) rfl (fun W _ => by go_simp) hS0 ?_; (intro K hK; go_simp; refine hK _ ?_; clear hK K))
        (refine hK_take 5 (.int .i64 (j : Int)) rfl (by kernel_rfl) (by kernel_rfl) (by kernel_rfl) (fun _ _ _ h => h) rfl (fun W _ => by go_simp) hS0 ?_; (intro K hK; go_simp; refine hK _ ?_; clear hK K))
        (refine hK_take 6 (.pointer (some ⟨g', j * 3, none⟩)) rfl (by kernel_rfl) (by kernel_rfl) (by kernel_rfl) (fun _ _ _ h => h) rfl (fun W _ => by go_simp) hS0 ?_; (intro K hK; go_simp; refine hK _ ?_; clear hK K))
        (refine hK_take 7 (.agg #[.int .i64 x, .int .i64 y, .int .i64 z]) rfl (by kernel_rfl) (by kernel_rfl) (by kernel_rfl) (fun _ _ _ h => h) rfl (fun W hW => by have c0 := b0.out W hW; have c1 := b1.out W hW; have c2 := b2.out W hW; clear hW; go_simp) hS0 ?_; (intro K hK; go_simp; refine hK _ ?_; clear hK K))
        (refine wpAnyH_ready (rs := [8]) (by kernel_rfl) (by simp) ?_; refine AllReadyH.cons rfl (fun K hK => ?_) AllReadyH.nil); go_simp; refine (eqEdge_calls x y z _).mono ?_; rintro e w3 ⟨rfl, hb3⟩; have hbw3 := below_step hbd hb3
        (go_simp; refine hK.out _ _ (hbw3) (fun hS1 => ?_); clear hK K)
        (refine hK_take 9 (.bool false) rfl (by kernel_rfl) (by kernel_rfl) (by kernel_rfl) (fun _ _ _ h => h) rfl (fun W _ => by go_simp) hS1 ?_; (intro K hK; go_simp; refine hK _ ?_; clear hK K))
        refine wpAnyH_done (by kernel_rfl) ?_ _
        go_wp2
        go_roundw
        case rel => exact ⟨j + 1, by omega, by go_num, hbw3⟩
        case measure => simp [intOf] <;> omega
      · obtain rfl : j = n := by omega
        go_wp2
        go_ret
        exact ⟨rfl, hbw⟩
end Go.Proofs.Yticnpajbefflbaa
