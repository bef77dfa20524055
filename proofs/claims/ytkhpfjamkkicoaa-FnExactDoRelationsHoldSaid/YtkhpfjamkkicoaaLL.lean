/- Slices of slices of numbers that a call has made: what is owned, and the marks, as plain data. -/
import Derived.Test.YtkhpfjamkkicoaaMarks
import Derived.Test.YtkhpfjamkkicoaaHeldK
namespace Go.Proofs.Ytkhpfjamkkicoaa
open Go.RowKit

theorem owns_same {w w1 : World} {base e size n : Nat} {v : Value} {xs : List Value} (h : w.ownsRow base e size v n xs) (hs : ∀ k, v.ownBlock = some k → w1.heap[k]? = w.heap[k]?) : w1.ownsRow base e size v n xs := by
  refine ⟨h.1, ?_⟩
  rcases h.2 with h2 | ⟨g, cap, cur, hv, hg, hh, r⟩
  · exact Or.inl h2
  · exact Or.inr ⟨g, cap, cur, hv, hg, by rw [hs g (by rw [hv]; rfl)]; exact hh, r⟩
/-- A slice of slices of numbers of the call's own: each has a block of its own. -/
structure OwnLV (w : World) (base : Nat) (v : Value) (vs : List Value) (zss : List (List Int)) : Prop where
  len : vs.length = zss.length
  row : w.ownsRow base 26 1 v vs.length vs
  own : ∀ i (h : i < vs.length) (h' : i < zss.length), OwnI w base vs[i] zss[i]
  apart : ∀ i j (hi : i < vs.length) (hj : j < vs.length), i < j → ∀ k, vs[i].ownBlock = some k → vs[j].ownBlock = some k → False
  off : ∀ i (h : i < vs.length) k, vs[i].ownBlock = some k → v.ownBlock = some k → False
theorem OwnLV.nil (w : World) (base : Nat) : OwnLV w base (.slice none 0 0) [] [] :=
  ⟨rfl, World.ownsRow_nil w base _ _, fun _ h => absurd h (by simp), fun _ _ h => absurd h (by simp), fun _ h => absurd h (by simp)⟩
/-- Is k a block of it? -/
def inLV (v : Value) (vs : List Value) (k : Nat) : Prop := v.ownBlock = some k ∨ ∃ u ∈ vs, u.ownBlock = some k
theorem OwnLV.same {w w1 : World} {base : Nat} {v : Value} {vs : List Value} {zss : List (List Int)} (h : OwnLV w base v vs zss) (hs : ∀ k, inLV v vs k → w1.heap[k]? = w.heap[k]?) : OwnLV w1 base v vs zss :=
  ⟨h.len, owns_same h.row (fun k hk => hs k (.inl hk)), fun i hi hi' => owns_same (h.own i hi hi') (fun k hk => hs k (.inr ⟨_, List.getElem_mem hi, hk⟩)), h.apart, h.off⟩
theorem OwnLV.lt {w : World} {base : Nat} {v : Value} {vs : List Value} {zss : List (List Int)} (h : OwnLV w base v vs zss) : ∀ k, inLV v vs k → base ≤ k ∧ k < w.heap.size := by
  intro k hk
  rcases hk with hk | ⟨u, hu, hk⟩
  · exact World.ownsRow.lt h.row k hk
  · obtain ⟨i, hi, rfl⟩ := List.getElem_of_mem hu
    exact World.ownsRow.lt (h.own i hi (by rw [← h.len]; exact hi)) k hk
theorem OwnLV.below {w w1 : World} {base : Nat} {v : Value} {vs : List Value} {zss : List (List Int)} (h : OwnLV w base v vs zss) (hb : Below w.heap.size w w1) : OwnLV w1 base v vs zss :=
  h.same fun k hk => hb.block k (h.lt k hk).2
theorem OwnLV.base_le {w : World} {base b : Nat} {v : Value} {vs : List Value} {zss : List (List Int)} (h : OwnLV w base v vs zss) (hb : b ≤ base) : OwnLV w b v vs zss := by
  have go : ∀ {e n : Nat} {v : Value} {xs : List Value}, w.ownsRow base e 1 v n xs → w.ownsRow b e 1 v n xs := by
    intro e n v xs h
    refine ⟨h.1, ?_⟩
    rcases h.2 with h2 | ⟨g, cap, cur, hv, hg, r⟩
    · exact Or.inl h2
    · exact Or.inr ⟨g, cap, cur, hv, by omega, r⟩
  exact ⟨h.len, go h.row, fun i hi hi' => go (h.own i hi hi'), h.apart, h.off⟩
theorem OwnLV.view {w : World} {base : Nat} {v : Value} {vs : List Value} {zss : List (List Int)} (h : OwnLV w base v vs zss) :
    ∃ oa cap, v = .slice oa zss.length cap ∧ (0 < zss.length → ∃ g, oa = some ⟨g, 0, none⟩ ∧ base ≤ g ∧ (∀ i (hi : i < vs.length), w.cell? ⟨g, i, none⟩ = some vs[i])) := by
  have hl := h.len
  rcases h.row.2 with ⟨rfl, h0⟩ | ⟨g, cap, cur, rfl, hbg, hg, hn, _, hs, htake⟩
  · exact ⟨none, 0, by rw [← hl, h0], fun hp => absurd hp (by omega)⟩
  · refine ⟨_, cap, by rw [hl], fun _ => ⟨g, rfl, hbg, fun i hi => ?_⟩⟩
    rw [Go.Joins.cell_of_block hg]
    have := congrArg (fun l => l[i]?) htake
    simp only [List.getElem?_take, Nat.mul_one] at this
    rw [if_pos hi, List.getElem?_eq_getElem hi] at this
    simpa using this
theorem OwnLV.llen {w : World} {base : Nat} {v : Value} {vs : List Value} {zss : List (List Int)} (h : OwnLV w base v vs zss) : zss.length ≤ maxLen := by
  have hl := h.len
  rcases h.row.2 with ⟨_, h0⟩ | ⟨g, cap, cur, _, _, _, hn, hm, _⟩ <;> omega

/-- How many numbers there are in the first j lists. -/
def offs (zss : List (List Int)) (j : Nat) : Nat := ((zss.take j).map List.length).sum
theorem offs_zero (zss : List (List Int)) : offs zss 0 = 0 := by simp [offs]
theorem offs_succ (zss : List (List Int)) (j : Nat) (h : j < zss.length) : offs zss (j + 1) = offs zss j + zss[j].length := by
  unfold offs
  rw [List.take_succ_eq_append_getElem h, List.map_append, List.sum_append]; simp
theorem offs_mono (zss : List (List Int)) : ∀ i j, i ≤ j → offs zss i ≤ offs zss j := by
  intro i j h
  induction h with
  | refl => exact Nat.le_refl _
  | @step m _ ih =>
    refine Nat.le_trans ih ?_
    by_cases hm : m < zss.length
    · rw [offs_succ _ _ hm]; omega
    · unfold offs; rw [List.take_of_length_le (by omega), List.take_of_length_le (by omega)]; exact Nat.le_refl _
theorem offs_at (zss : List (List Int)) (j : Nat) (h : j < zss.length) : offs zss j + zss[j].length ≤ offs zss zss.length := by
  rw [← offs_succ _ _ h]; exact offs_mono _ _ _ (by omega)
/-- The first i lists are marked. -/
def halfL (zss : List (List Int)) (k0 i : Nat) : List (List Int) := (List.range zss.length).map fun j => if j < i then marksF (k0 + offs zss j) (zss.getD j []).length else zss.getD j []
theorem halfL_len (zss : List (List Int)) (k0 i : Nat) : (halfL zss k0 i).length = zss.length := by simp [halfL]
theorem halfL_get (zss : List (List Int)) (k0 i j : Nat) (h : j < zss.length) : (halfL zss k0 i)[j]'(by rw [halfL_len]; exact h) = if j < i then marksF (k0 + offs zss j) zss[j].length else zss[j] := by
  simp [halfL, List.getD, List.getElem?_eq_getElem h]
theorem halfL_zero (zss : List (List Int)) (k0 : Nat) : halfL zss k0 0 = zss := by
  apply List.ext_getElem
  · rw [halfL_len]
  · intro j h1 h2
    rw [halfL_get _ _ _ _ h2, if_neg (by omega)]
/-- All are marked. -/
def marksL (zss : List (List Int)) (k0 : Nat) : List (List Int) := halfL zss k0 zss.length
end Go.Proofs.Ytkhpfjamkkicoaa

namespace Go.Proofs.Ytkhpfjamkkicoaa
open Go.RowKit

theorem OwnLV.other {w w' : World} {base : Nat} {v a : Value} {vs : List Value} {zss : List (List Int)} (h : OwnLV w base v vs zss) (hs : ∀ b, a.ownBlock ≠ some b → w'.heap[b]? = w.heap[b]?) (hne : ∀ k, inLV v vs k → a.ownBlock = some k → False) : OwnLV w' base v vs zss :=
  h.same fun k hk => hs k fun e => hne k hk e
theorem OwnI.otherL {w w' : World} {base : Nat} {v a : Value} {us : List Value} {zs : List Int} (h : OwnI w base v zs) (hs : ∀ b, ¬ inLV a us b → w'.heap[b]? = w.heap[b]?) (hne : ∀ k, v.ownBlock = some k → inLV a us k → False) : OwnI w' base v zs :=
  owns_same h fun k hk => hs k fun e => hne k hk e
theorem OwnLV.otherL {w w' : World} {base : Nat} {v a : Value} {vs us : List Value} {zss : List (List Int)} (h : OwnLV w base v vs zss) (hs : ∀ b, ¬ inLV a us b → w'.heap[b]? = w.heap[b]?) (hne : ∀ k, inLV v vs k → inLV a us k → False) : OwnLV w' base v vs zss :=
  h.same fun k hk => hs k fun e => hne k hk e
theorem OwnLV.cell {w : World} {base g n cap : Nat} {vs : List Value} {zss : List (List Int)} (h : OwnLV w base (.slice (some ⟨g, 0, none⟩) n cap) vs zss) (i : Nat) (hi : i < vs.length) : w.cell? ⟨g, i, none⟩ = some vs[i] := by
  have hl := h.len
  obtain ⟨oa, c, e, h2⟩ := h.view
  obtain ⟨g', e', _, h3⟩ := h2 (by omega)
  subst e'
  simp only [Value.slice.injEq, Option.some.injEq, Addr.mk.injEq] at e
  obtain ⟨⟨rfl, _⟩, _⟩ := e
  exact h3 i hi

theorem OwnLV.marked {w w1 : World} {base k0 i : Nat} {a : Value} {vs : List Value} {zss : List (List Int)} (h : OwnLV w base a vs (halfL zss k0 i)) (hi : i < zss.length) (hv : i < vs.length) (h1 : OwnI w1 base (vs[i]'hv) (marksF (k0 + offs zss i) zss[i].length)) (hs : ∀ b, (vs[i]'hv).ownBlock ≠ some b → w1.heap[b]? = w.heap[b]?) : OwnLV w1 base a vs (halfL zss k0 (i + 1)) := by
  have hl := h.len
  rw [halfL_len] at hl
  refine ⟨by rw [halfL_len]; exact hl, owns_same h.row (fun k hk => hs k fun e => h.off i hv k e hk), fun j hj hj' => ?_, h.apart, h.off⟩
  rw [halfL_len] at hj'
  rw [halfL_get _ _ _ _ hj']
  by_cases hji : j = i
  · subst hji
    rw [if_pos (by omega)]; exact h1
  · have ho := h.own j hj (by rw [halfL_len]; exact hj')
    rw [halfL_get _ _ _ _ hj'] at ho
    have e : (if j < i + 1 then marksF (k0 + offs zss j) zss[j].length else zss[j]) = (if j < i then marksF (k0 + offs zss j) zss[j].length else zss[j]) := by
      by_cases h2 : j < i
      · rw [if_pos h2, if_pos (by omega)]
      · rw [if_neg h2, if_neg (by omega)]
    rw [e]
    refine owns_same ho fun k hk => hs k fun e2 => ?_
    rcases Nat.lt_or_gt_of_ne hji with h2 | h2
    · exact h.apart j i hj hv h2 k hk e2
    · exact h.apart i j hv hj h2 k e2 hk

end Go.Proofs.Ytkhpfjamkkicoaa

namespace Go.Proofs.Ytkhpfjamkkicoaa
open Go.RowKit

set_option maxRecDepth 100000 in
set_option maxHeartbeats 1000000 in
theorem eqInt64SS_same (a b : Value) (ba bb : Nat) (va vb : List Value) (zss : List (List Int)) (w : World) (ha : OwnLV w ba a va zss) (hb : OwnLV w bb b vb zss) :
    Calls Try.prog 16 #[a, b] w fun e w' => e = .returned (.bool true) ∧ Below w.heap.size w w' := by
  have hla := ha.llen
  unfold maxLen at hla
  have hna := ha.len
  have hnb := hb.len
  obtain ⟨oa, ca, rfl, hca⟩ := ha.view
  obtain ⟨ob, cb, rfl, hcb⟩ := hb.view
  by_cases h0 : zss.length = 0
  · clear hca hcb ha hb hna hnb
    generalize zss.length = n at *
    subst h0
    go_enter Try.func16, Try.ntmps16
    go_wp2
    go_loop [5] (fun i => i = .int .i64 (0 : Nat)) (fun _ => 0)
    case atStart => rfl
    case round =>
      obtain rfl := hrel
      go_wp2
      go_ret
      exact ⟨rfl, by (repeat (first | exact Below.refl _ _ | refine below_drew' ?_ | refine below_drewN' ?_ _ | refine below_alloc' ?_ _ | refine below_set' ?_ (by (try simp); (try omega)) _ | refine below_step ?_ (by assumption)))⟩
  · obtain ⟨g, rfl, q1, q2⟩ := hca (by omega)
    obtain ⟨g2, rfl, q3, q4⟩ := hcb (by omega)
    clear hca hcb q1 q2 q3 q4
    have Ha := Lib.hid ha; have Hb := Lib.hid hb; clear ha hb
    go_enter Try.func16, Try.ntmps16
    go_wp2
    go_loopw [5] (fun i wr => ∃ k : Nat, k ≤ zss.length ∧ i = .int .i64 k ∧ Below w.heap.size w wr) (fun i _ => zss.length - (intOf i).toNat)
    case atStart => exact ⟨0, by omega, rfl, Below.refl _ _⟩
    case round =>
      obtain ⟨k, hk, rfl, hbw⟩ := hrel
      by_cases hlt : k < zss.length
      · have hki : (k : Int) < zss.length := by omega
        have H1 : Hid (∀ W, Below w.heap.size w W → OwnI W ba (va[k]'(by omega)) zss[k] ∧ W.cell? ⟨g, k, none⟩ = some (va[k]'(by omega))) := Lib.hid (fun W hW => ⟨(Ha.out.below hW).own k (by omega) hlt, (Ha.out.below hW).cell k (by omega)⟩)
        have H2 : Hid (∀ W, Below w.heap.size w W → OwnI W bb (vb[k]'(by omega)) zss[k] ∧ W.cell? ⟨g2, k, none⟩ = some (vb[k]'(by omega))) := Lib.hid (fun W hW => ⟨(Hb.out.below hW).own k (by omega) hlt, (Hb.out.below hW).cell k (by omega)⟩)
        obtain ⟨oua, cua, hua, hc1⟩ := (H1.out _ hbw).1.view
        obtain ⟨oub, cub, hub, hc2⟩ := (H2.out _ hbw).1.view
        clear hc1 hc2
        rw [hua] at H1
        rw [hub] at H2
        clear hua hub
        generalize zss[k] = zs at *
        go_wp2_with fail
        refine wp_region_quiet (C := fun W => Below w.heap.size w W) (by kernel_rfl) (by kernel_rfl) hbw.drew ?_
        refine wpK_val rfl (.slice (some ⟨g, 0, none⟩) zss.length ca) (fun W _ => by go_simp) ?_; (intro K hK; go_simp; refine hK _ ?_; clear hK K)
        refine wpK_val rfl (.int .i64 k) (fun W _ => by go_simp) ?_; (intro K hK; go_simp; refine hK _ ?_; clear hK K)
        refine wpK_val rfl (.pointer (some ⟨g, k, none⟩)) (fun W _ => by go_simp) ?_; (intro K hK; go_simp; refine hK _ ?_; clear hK K)
        refine wpK_val rfl (.slice oua zs.length cua) (fun W hW => by have c1 := (H1.out W hW).2; clear hW; go_simp) ?_; (intro K hK; go_simp; refine hK _ ?_; clear hK K)
        refine wpK_val rfl (.slice (some ⟨g2, 0, none⟩) zss.length cb) (fun W _ => by go_simp) ?_; (intro K hK; go_simp; refine hK _ ?_; clear hK K)
        refine wpK_val rfl (.int .i64 k) (fun W _ => by go_simp) ?_; (intro K hK; go_simp; refine hK _ ?_; clear hK K)
        refine wpK_val rfl (.pointer (some ⟨g2, k, none⟩)) (fun W _ => by go_simp) ?_; (intro K hK; go_simp; refine hK _ ?_; clear hK K)
        refine wpK_val rfl (.slice oub zs.length cub) (fun W hW => by have c1 := (H2.out W hW).2; clear hW; go_simp) ?_; (intro K hK; go_simp; refine hK _ ?_; clear hK K)
        refine wpK_call rfl 11 #[.slice oua zs.length cua, .slice oub zs.length cub] (.bool true) (fun W => by go_simp) (fun W hW => (eqInt64S_same _ _ _ _ zs W (H1.out W hW).1 (H2.out W hW).1).mono fun e w'' h => ⟨h.1, below_step hW h.2⟩) ?_; (intro K hK; go_simp; refine hK _ ?_; clear hK K)
        refine wpK_val rfl (.bool false) (fun W _ => by go_simp) ?_; (intro K hK; go_simp; refine hK _ ?_; clear hK K)
        refine wpQuiet_nil ?_
        intro w3 hbw'
        clear hbw H1 H2 hna hnb
        go_wp2
        go_roundw
        case rel => exact ⟨k + 1, by omega, by go_num, hbw'⟩
        case measure => simp [intOf] <;> omega
      · obtain rfl : k = zss.length := by omega
        go_wp2
        go_ret
        exact ⟨rfl, hbw⟩

end Go.Proofs.Ytkhpfjamkkicoaa

namespace Go.Proofs.Ytkhpfjamkkicoaa
open Go.RowKit

theorem marksL_get (zss : List (List Int)) (k0 j : Nat) (h : j < zss.length) : (marksL zss k0)[j]'(by unfold marksL; rw [halfL_len]; exact h) = marksF (k0 + offs zss j) zss[j].length := by
  unfold marksL
  rw [halfL_get _ _ _ _ h, if_pos h]

end Go.Proofs.Ytkhpfjamkkicoaa
