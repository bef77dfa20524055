/- Slices of slices of numbers that a call has made: what is owned, and the marks, as plain data. · Lists of lists that a call fills or appends to. -/
import Derived.Test.YtliohokcjgcmhaaMarks
import Derived.Test.YtliohokcjgcmhaaHeldK
import Derived.Maps.AppendAt
namespace Go.Proofs.Ytliohokcjgcmhaa
open Go.RowKit

theorem owns_same {w w1 : World} {base e size n : Nat} {v : Value} {xs : List Value} (h : w.ownsRow base e size v n xs) (hs : ∀ k, v.ownBlock = some k → w1.heap[k]? = w.heap[k]?) : w1.ownsRow base e size v n xs := by
  refine ⟨h.1, ?_⟩
  rcases h.2 with h2 | ⟨g, cap, cur, hv, hg, hh, r⟩
  · exact Or.inl h2
  · exact Or.inr ⟨g, cap, cur, hv, hg, by rw [hs g (by rw [hv]; rfl)]; exact hh, r⟩
/-- A slice of slices of numbers of the call's own: each has a block of its own. -/
structure OwnLV (w : World) (base : Nat) (v : Value) (vs : List Value) (zss : List (List Int)) : Prop where
  len : vs.length = zss.length
  row : w.ownsRow base 26 1 v vs.length vs
  own : ∀ i (h : i < vs.length) (h' : i < zss.length), OwnI w base vs[i] zss[i]
  apart : ∀ i j (hi : i < vs.length) (hj : j < vs.length), i < j → ∀ k, vs[i].ownBlock = some k → vs[j].ownBlock = some k → False
  off : ∀ i (h : i < vs.length) k, vs[i].ownBlock = some k → v.ownBlock = some k → False
theorem OwnLV.nil (w : World) (base : Nat) : OwnLV w base (.slice none 0 0) [] [] :=
  ⟨rfl, World.ownsRow_nil w base _ _, fun _ h => absurd h (by simp), fun _ _ h => absurd h (by simp), fun _ h => absurd h (by simp)⟩
/-- Is k a block of it? -/
def inLV (v : Value) (vs : List Value) (k : Nat) : Prop := v.ownBlock = some k ∨ ∃ u ∈ vs, u.ownBlock = some k
theorem OwnLV.same {w w1 : World} {base : Nat} {v : Value} {vs : List Value} {zss : List (List Int)} (h : OwnLV w base v vs zss) (hs : ∀ k, inLV v vs k → w1.heap[k]? = w.heap[k]?) : OwnLV w1 base v vs zss :=
  ⟨h.len, owns_same h.row (fun k hk => hs k (.inl hk)), fun i hi hi' => owns_same (h.own i hi hi') (fun k hk => hs k (.inr ⟨_, List.getElem_mem hi, hk⟩)), h.apart, h.off⟩
theorem OwnLV.lt {w : World} {base : Nat} {v : Value} {vs : List Value} {zss : List (List Int)} (h : OwnLV w base v vs zss) : ∀ k, inLV v vs k → base ≤ k ∧ k < w.heap.size := by
  intro k hk
  rcases hk with hk | ⟨u, hu, hk⟩
  · exact World.ownsRow.lt h.row k hk
  · obtain ⟨i, hi, rfl⟩ := List.getElem_of_mem hu
    exact World.ownsRow.lt (h.own i hi (by rw [← h.len]; exact hi)) k hk
theorem OwnLV.below {w w1 : World} {base : Nat} {v : Value} {vs : List Value} {zss : List (List Int)} (h : OwnLV w base v vs zss) (hb : Below w.heap.size w w1) : OwnLV w1 base v vs zss :=
  h.same fun k hk => hb.block k (h.lt k hk).2
theorem OwnLV.base_le {w : World} {base b : Nat} {v : Value} {vs : List Value} {zss : List (List Int)} (h : OwnLV w base v vs zss) (hb : b ≤ base) : OwnLV w b v vs zss := by
  have go : ∀ {e n : Nat} {v : Value} {xs : List Value}, w.ownsRow base e 1 v n xs → w.ownsRow b e 1 v n xs := by
    intro e n v xs h
    refine ⟨h.1, ?_⟩
    rcases h.2 with h2 | ⟨g, cap, cur, hv, hg, r⟩
    · exact Or.inl h2
    · exact Or.inr ⟨g, cap, cur, hv, by omega, r⟩
  exact ⟨h.len, go h.row, fun i hi hi' => go (h.own i hi hi'), h.apart, h.off⟩
theorem OwnLV.view {w : World} {base : Nat} {v : Value} {vs : List Value} {zss : List (List Int)} (h : OwnLV w base v vs zss) :
    ∃ oa cap, v = .slice oa zss.length cap ∧ (0 < zss.length → ∃ g, oa = some ⟨g, 0, none⟩ ∧ base ≤ g ∧ (∀ i (hi : i < vs.length), w.cell? ⟨g, i, none⟩ = some vs[i])) := by
  have hl := h.len
  rcases h.row.2 with ⟨rfl, h0⟩ | ⟨g, cap, cur, rfl, hbg, hg, hn, _, hs, htake⟩
  · exact ⟨none, 0, by rw [← hl, h0], fun hp => absurd hp (by omega)⟩
  · refine ⟨_, cap, by rw [hl], fun _ => ⟨g, rfl, hbg, fun i hi => ?_⟩⟩
    rw [Go.Joins.cell_of_block hg]
    have := congrArg (fun l => l[i]?) htake
    simp only [List.getElem?_take, Nat.mul_one] at this
    rw [if_pos hi, List.getElem?_eq_getElem hi] at this
    simpa using this
theorem OwnLV.llen {w : World} {base : Nat} {v : Value} {vs : List Value} {zss : List (List Int)} (h : OwnLV w base v vs zss) : zss.length ≤ maxLen := by
  have hl := h.len
  rcases h.row.2 with ⟨_, h0⟩ | ⟨g, cap, cur, _, _, _, hn, hm, _⟩ <;> omega

/-- How many numbers there are in the first j lists. -/
def offs (zss : List (List Int)) (j : Nat) : Nat := ((zss.take j).map List.length).sum
theorem offs_zero (zss : List (List Int)) : offs zss 0 = 0 := by simp [offs]
theorem offs_succ (zss : List (List Int)) (j : Nat) (h : j < zss.length) : offs zss (j + 1) = offs zss j + zss[j].length := by
  unfold offs
  rw [List.take_succ_eq_append_getElem h, List.map_append, List.sum_append]; simp
theorem offs_mono (zss : List (List Int)) : ∀ i j, i ≤ j → offs zss i ≤ offs zss j := by
  intro i j h
  induction h with
  | refl => exact Nat.le_refl _
  | @step m _ ih =>
    refine Nat.le_trans ih ?_
    by_cases hm : m < zss.length
    · rw [offs_succ _ _ hm]; omega
    · unfold offs; rw [List.take_of_length_le (by omega), List.take_of_length_le (by omega)]; exact Nat.le_refl _
theorem offs_at (zss : List (List Int)) (j : Nat) (h : j < zss.length) : offs zss j + zss[j].length ≤ offs zss zss.length := by
  rw [← offs_succ _ _ h]; exact offs_mono _ _ _ (by omega)
/-- The first i lists are marked. -/
def halfL (zss : List (List Int)) (k0 i : Nat) : List (List Int) := (List.range zss.length).map fun j => if j < i then marksF (k0 + offs zss j) (zss.getD j []).length else zss.getD j []
theorem halfL_len (zss : List (List Int)) (k0 i : Nat) : (halfL zss k0 i).length = zss.length := by simp [halfL]
theorem halfL_get (zss : List (List Int)) (k0 i j : Nat) (h : j < zss.length) : (halfL zss k0 i)[j]'(by rw [halfL_len]; exact h) = if j < i then marksF (k0 + offs zss j) zss[j].length else zss[j] := by
  simp [halfL, List.getD, List.getElem?_eq_getElem h]
theorem halfL_zero (zss : List (List Int)) (k0 : Nat) : halfL zss k0 0 = zss := by
  apply List.ext_getElem
  · rw [halfL_len]
  · intro j h1 h2
    rw [halfL_get _ _ _ _ h2, if_neg (by omega)]
/-- All are marked. -/
def marksL (zss : List (List Int)) (k0 : Nat) : List (List Int) := halfL zss k0 zss.length
end Go.Proofs.Ytliohokcjgcmhaa

namespace Go.Proofs.Ytliohokcjgcmhaa
open Go.RowKit

theorem OwnLV.other {w w' : World} {base : Nat} {v a : Value} {vs : List Value} {zss : List (List Int)} (h : OwnLV w base v vs zss) (hs : ∀ b, a.ownBlock ≠ some b → w'.heap[b]? = w.heap[b]?) (hne : ∀ k, inLV v vs k → a.ownBlock = some k → False) : OwnLV w' base v vs zss :=
  h.same fun k hk => hs k fun e => hne k hk e
theorem OwnI.otherL {w w' : World} {base : Nat} {v a : Value} {us : List Value} {zs : List Int} (h : OwnI w base v zs) (hs : ∀ b, ¬ inLV a us b → w'.heap[b]? = w.heap[b]?) (hne : ∀ k, v.ownBlock = some k → inLV a us k → False) : OwnI w' base v zs :=
  owns_same h fun k hk => hs k fun e => hne k hk e
theorem OwnLV.otherL {w w' : World} {base : Nat} {v a : Value} {vs us : List Value} {zss : List (List Int)} (h : OwnLV w base v vs zss) (hs : ∀ b, ¬ inLV a us b → w'.heap[b]? = w.heap[b]?) (hne : ∀ k, inLV v vs k → inLV a us k → False) : OwnLV w' base v vs zss :=
  h.same fun k hk => hs k fun e => hne k hk e
theorem OwnLV.cell {w : World} {base g n cap : Nat} {vs : List Value} {zss : List (List Int)} (h : OwnLV w base (.slice (some ⟨g, 0, none⟩) n cap) vs zss) (i : Nat) (hi : i < vs.length) : w.cell? ⟨g, i, none⟩ = some vs[i] := by
  have hl := h.len
  obtain ⟨oa, c, e, h2⟩ := h.view
  obtain ⟨g', e', _, h3⟩ := h2 (by omega)
  subst e'
  simp only [Value.slice.injEq, Option.some.injEq, Addr.mk.injEq] at e
  obtain ⟨⟨rfl, _⟩, _⟩ := e
  exact h3 i hi

theorem OwnLV.marked {w w1 : World} {base k0 i : Nat} {a : Value} {vs : List Value} {zss : List (List Int)} (h : OwnLV w base a vs (halfL zss k0 i)) (hi : i < zss.length) (hv : i < vs.length) (h1 : OwnI w1 base (vs[i]'hv) (marksF (k0 + offs zss i) zss[i].length)) (hs : ∀ b, (vs[i]'hv).ownBlock ≠ some b → w1.heap[b]? = w.heap[b]?) : OwnLV w1 base a vs (halfL zss k0 (i + 1)) := by
  have hl := h.len
  rw [halfL_len] at hl
  refine ⟨by rw [halfL_len]; exact hl, owns_same h.row (fun k hk => hs k fun e => h.off i hv k e hk), fun j hj hj' => ?_, h.apart, h.off⟩
  rw [halfL_len] at hj'
  rw [halfL_get _ _ _ _ hj']
  by_cases hji : j = i
  · subst hji
    rw [if_pos (by omega)]; exact h1
  · have ho := h.own j hj (by rw [halfL_len]; exact hj')
    rw [halfL_get _ _ _ _ hj'] at ho
    have e : (if j < i + 1 then marksF (k0 + offs zss j) zss[j].length else zss[j]) = (if j < i then marksF (k0 + offs zss j) zss[j].length else zss[j]) := by
      by_cases h2 : j < i
      · rw [if_pos h2, if_pos (by omega)]
      · rw [if_neg h2, if_neg (by omega)]
    rw [e]
    refine owns_same ho fun k hk => hs k fun e2 => ?_
    rcases Nat.lt_or_gt_of_ne hji with h2 | h2
    · exact h.apart j i hj hv h2 k hk e2
    · exact h.apart i j hv hj h2 k e2 hk

set_option maxRecDepth 100000 in
set_option maxHeartbeats 1000000 in
theorem markInt64SS_x (a : Value) (base : Nat) (vs : List Value) (k0 m : Nat) (zss : List (List Int)) (w : World) (ha : OwnLV w base a vs zss) (hl : zss.length ≤ 100000 ∧ offs zss zss.length ≤ 100000) (hk0 : k0 ≤ 1000000) (hm : k0 + offs zss zss.length = m) :
    Calls Try.prog 25 #[a, .int .i64 k0] w fun e w' => e = .returned (.int .i64 (m : Int)) ∧ OwnLV w' base a vs (marksL zss k0) ∧ Below base w w' ∧ w.heap.size ≤ w'.heap.size ∧ ∀ b, ¬ inLV a vs b → w'.heap[b]? = w.heap[b]? := by
  have hna := ha.len
  obtain ⟨hl1, hl2⟩ := hl
  obtain ⟨oa, ca, rfl, hca⟩ := ha.view
  have ha0 : OwnLV w base (.slice oa zss.length ca) vs (halfL zss k0 0) := by rw [halfL_zero]; exact ha
  clear ha
  by_cases h0 : zss.length = 0
  · have hz : zss = [] := List.eq_nil_of_length_eq_zero h0
    subst hz
    have Ha := Lib.hid ha0; clear ha0 hca
    rw [show offs [] ([] : List (List Int)).length = 0 from rfl] at hm
    subst hm
    go_enter Try.func25, Try.ntmps25
    go_wp2
    go_loop [1, 5] (fun kv i => i = .int .i64 (0 : Nat) ∧ kv = .int .i64 (k0 : Int)) (fun _ _ => 0)
    case atStart => exact ⟨rfl, rfl⟩
    case round =>
      obtain ⟨rfl, rfl⟩ := hrel
      go_wp2
      go_ret
      exact ⟨rfl, Ha.out, Below.refl _ _, Nat.le_refl _, fun _ _ => rfl⟩
  · obtain ⟨g, rfl, hbg, _⟩ := hca (by omega)
    clear hca
    have Ha := Lib.hid ha0; clear ha0
    go_enter Try.func25, Try.ntmps25
    go_wp2
    go_loopw [1, 5] (fun kv i wr => ∃ j : Nat, j ≤ zss.length ∧ i = .int .i64 j ∧ kv = .int .i64 ((k0 + offs zss j : Nat) : Int) ∧ Hid (OwnLV wr base (.slice (some ⟨g, 0, none⟩) zss.length ca) vs (halfL zss k0 j)) ∧ Below base w wr ∧ w.heap.size ≤ wr.heap.size ∧ Hid (∀ b, ¬ inLV (.slice (some ⟨g, 0, none⟩) zss.length ca) vs b → wr.heap[b]? = w.heap[b]?)) (fun _ i _ => zss.length - (intOf i).toNat)
    case atStart => exact ⟨0, by omega, rfl, by simp [offs_zero], Ha, Below.refl _ _, Nat.le_refl _, Lib.hid (fun _ _ => rfl)⟩
    case round =>
      clear Ha
      obtain ⟨j, hj, rfl, rfl, HO, hbel, hsz, HS0⟩ := hrel
      by_cases hlt : j < zss.length
      · have hji : (j : Int) < zss.length := by omega
        have hjv : j < vs.length := by omega
        have hown := HO.out.own j hjv (by rw [halfL_len]; exact hlt)
        rw [halfL_get _ _ _ _ hlt, if_neg (by omega)] at hown
        have hcell := HO.out.cell j hjv
        have hoff := offs_at zss j hlt
        have hnext := offs_succ zss j hlt
        obtain ⟨mj, hmj⟩ : ∃ mj, k0 + offs zss (j + 1) = mj := ⟨_, rfl⟩
        obtain ⟨ou, cu, hu, hc0⟩ := hown.view
        have Hmk := Lib.hid (fun w1 (h1 : OwnI w1 base vs[j] (marksF (k0 + offs zss j) zss[j].length)) (hs : ∀ b, vs[j].ownBlock ≠ some b → w1.heap[b]? = wr.heap[b]?) => OwnLV.marked HO.out hlt hjv h1 hs)
        have Hfr : Hid (∀ w1 : World, (∀ b, vs[j].ownBlock ≠ some b → w1.heap[b]? = wr.heap[b]?) → ∀ b, ¬ inLV (.slice (some ⟨g, 0, none⟩) zss.length ca) vs b → w1.heap[b]? = w.heap[b]?) := Lib.hid (fun w1 hs b hb => by
          rw [hs b (fun e => hb (.inr ⟨_, List.getElem_mem hjv, e⟩))]; exact HS0.out b hb)
        rw [hu] at hcell hown Hmk Hfr
        have Hc := Lib.hid (markInt64S_x (.slice ou zss[j].length cu) base (k0 + offs zss j) mj zss[j] wr hown (by omega) (by omega) (by omega))
        have Hmj := Lib.hid hmj
        clear hmj hnext hoff hown hu HO HS0
        clear hc0
        generalize k0 + offs zss j = kk at *
        generalize zss[j].length = nn at *
        go_wp2_with (go_at_call 24; refine Hc.out.mono ?_; rintro e w1 ⟨rfl, hO1, hb1, hs1, hoth1⟩)
        go_roundw
        case rel => exact ⟨j + 1, by omega, by go_num, by rw [Hmj.out], Lib.hid (Hmk.out _ hO1 hoth1), hbel.trans hb1, by omega, Lib.hid (Hfr.out _ hoth1)⟩
        case measure => simp [intOf] <;> omega
      · obtain rfl : j = zss.length := by omega
        rw [hm]
        go_wp2
        go_ret
        exact ⟨rfl, HO.out, hbel, hsz, HS0.out⟩

end Go.Proofs.Ytliohokcjgcmhaa

namespace Go.Proofs.Ytliohokcjgcmhaa
open Go.RowKit

set_option maxRecDepth 100000 in
set_option maxHeartbeats 1000000 in
theorem eqInt64SS_same (a b : Value) (ba bb : Nat) (va vb : List Value) (zss : List (List Int)) (w : World) (ha : OwnLV w ba a va zss) (hb : OwnLV w bb b vb zss) :
    Calls Try.prog 23 #[a, b] w fun e w' => e = .returned (.bool true) ∧ Below w.heap.size w w' := by
  have hla := ha.llen
  unfold maxLen at hla
  have hna := ha.len
  have hnb := hb.len
  obtain ⟨oa, ca, rfl, hca⟩ := ha.view
  obtain ⟨ob, cb, rfl, hcb⟩ := hb.view
  by_cases h0 : zss.length = 0
  · clear hca hcb ha hb hna hnb
    generalize zss.length = n at *
    subst h0
    go_enter Try.func23, Try.ntmps23
    go_wp2
    go_loop [5] (fun i => i = .int .i64 (0 : Nat)) (fun _ => 0)
    case atStart => rfl
    case round =>
      obtain rfl := hrel
      go_wp2
      go_ret
      exact ⟨rfl, by (repeat (first | exact Below.refl _ _ | refine below_drew' ?_ | refine below_drewN' ?_ _ | refine below_alloc' ?_ _ | refine below_set' ?_ (by (try simp); (try omega)) _ | refine below_step ?_ (by assumption)))⟩
  · obtain ⟨g, rfl, q1, q2⟩ := hca (by omega)
    obtain ⟨g2, rfl, q3, q4⟩ := hcb (by omega)
    clear hca hcb q1 q2 q3 q4
    have Ha := Lib.hid ha; have Hb := Lib.hid hb; clear ha hb
    go_enter Try.func23, Try.ntmps23
    go_wp2
    go_loopw [5] (fun i wr => ∃ k : Nat, k ≤ zss.length ∧ i = .int .i64 k ∧ Below w.heap.size w wr) (fun i _ => zss.length - (intOf i).toNat)
    case atStart => exact ⟨0, by omega, rfl, Below.refl _ _⟩
    case round =>
      obtain ⟨k, hk, rfl, hbw⟩ := hrel
      by_cases hlt : k < zss.length
      · have hki : (k : Int) < zss.length := by omega
        have H1 : Hid (∀ W, Below w.heap.size w W → OwnI W ba (va[k]'(by omega)) zss[k] ∧ W.cell? ⟨g, k, none⟩ = some (va[k]'(by omega))) := Lib.hid (fun W hW => ⟨(Ha.out.below hW).own k (by omega) hlt, (Ha.out.below hW).cell k (by omega)⟩)
        have H2 : Hid (∀ W, Below w.heap.size w W → OwnI W bb (vb[k]'(by omega)) zss[k] ∧ W.cell? ⟨g2, k, none⟩ = some (vb[k]'(by omega))) := Lib.hid (fun W hW => ⟨(Hb.out.below hW).own k (by omega) hlt, (Hb.out.below hW).cell k (by omega)⟩)
        obtain ⟨oua, cua, hua, hc1⟩ := (H1.out _ hbw).1.view
        obtain ⟨oub, cub, hub, hc2⟩ := (H2.out _ hbw).1.view
        clear hc1 hc2
        rw [hua] at H1
        rw [hub] at H2
        clear hua hub
        generalize zss[k] = zs at *
        go_wp2_with fail
        refine wp_region_quiet (C := fun W => Below w.heap.size w W) (by kernel_rfl) (by kernel_rfl) hbw.drew ?_
        refine wpK_val rfl (.slice (some ⟨g, 0, none⟩) zss.length ca) (fun W _ => by go_simp) ?_; (intro K hK; go_simp; refine hK _ ?_; clear hK K)
        refine wpK_val rfl (.int .i64 k) (fun W _ => by go_simp) ?_; (intro K hK; go_simp; refine hK _ ?_; clear hK K)
        refine wpK_val rfl (.pointer (some ⟨g, k, none⟩)) (fun W _ => by go_simp) ?_; (intro K hK; go_simp; refine hK _ ?_; clear hK K)
        refine wpK_val rfl (.slice oua zs.length cua) (fun W hW => by have c1 := (H1.out W hW).2; clear hW; go_simp) ?_; (intro K hK; go_simp; refine hK _ ?_; clear hK K)
        refine wpK_val rfl (.slice (some ⟨g2, 0, none⟩) zss.length cb) (fun W _ => by go_simp) ?_; (intro K hK; go_simp; refine hK _ ?_; clear hK K)
        refine wpK_val rfl (.int .i64 k) (fun W _ => by go_simp) ?_; (intro K hK; go_simp; refine hK _ ?_; clear hK K)
        refine wpK_val rfl (.pointer (some ⟨g2, k, none⟩)) (fun W _ => by go_simp) ?_; (intro K hK; go_simp; refine hK _ ?_; clear hK K)
        refine wpK_val rfl (.slice oub zs.length cub) (fun W hW => by have c1 := (H2.out W hW).2; clear hW; go_simp) ?_; (intro K hK; go_simp; refine hK _ ?_; clear hK K)
        refine wpK_call rfl 20 #[.slice oua zs.length cua, .slice oub zs.length cub] (.bool true) (fun W => by go_simp) (fun W hW => (eqInt64S_same _ _ _ _ zs W (H1.out W hW).1 (H2.out W hW).1).mono fun e w'' h => ⟨h.1, below_step hW h.2⟩) ?_; (intro K hK; go_simp; refine hK _ ?_; clear hK K)
        refine wpK_val rfl (.bool false) (fun W _ => by go_simp) ?_; (intro K hK; go_simp; refine hK _ ?_; clear hK K)
        refine wpQuiet_nil ?_
        intro w3 hbw'
        clear hbw H1 H2 hna hnb
        go_wp2
        go_roundw
        case rel => exact ⟨k + 1, by omega, by go_num, hbw'⟩
        case measure => simp [intOf] <;> omega
      · obtain rfl : k = zss.length := by omega
        go_wp2
        go_ret
        exact ⟨rfl, hbw⟩

end Go.Proofs.Ytliohokcjgcmhaa

namespace Go.Proofs.Ytliohokcjgcmhaa
open Go.RowKit

theorem marksL_get (zss : List (List Int)) (k0 j : Nat) (h : j < zss.length) : (marksL zss k0)[j]'(by unfold marksL; rw [halfL_len]; exact h) = marksF (k0 + offs zss j) zss[j].length := by
  unfold marksL
  rw [halfL_get _ _ _ _ h, if_pos h]

set_option maxRecDepth 100000 in
set_option maxHeartbeats 1000000 in
theorem heldInt64SS_m (a : Value) (base : Nat) (vs : List Value) (k0 m : Nat) (zss : List (List Int)) (w : World) (ha : OwnLV w base a vs (marksL zss k0)) (hl : zss.length ≤ 100000 ∧ offs zss zss.length ≤ 100000) (hk0 : k0 ≤ 900000) (hm : k0 + offs zss zss.length = m) :
    Calls Try.prog 26 #[a, .int .i64 k0] w fun e w' => e = .returned (.int .i64 (m : Int)) ∧ w = w' := by
  have hml : (marksL zss k0).length = zss.length := halfL_len _ _ _
  have hna := ha.len
  rw [hml] at hna
  obtain ⟨hl1, hl2⟩ := hl
  obtain ⟨oa, ca, rfl, hca⟩ := ha.view
  rw [hml] at hca ha ⊢
  by_cases h0 : zss.length = 0
  · have hz : zss = [] := List.eq_nil_of_length_eq_zero h0
    subst hz
    rw [show offs [] ([] : List (List Int)).length = 0 from rfl] at hm
    subst hm
    clear ha hca
    go_enter Try.func26, Try.ntmps26
    go_wp2
    go_loop [1, 5] (fun kv i => i = .int .i64 (0 : Nat) ∧ kv = .int .i64 (k0 : Int)) (fun _ _ => 0)
    case atStart => exact ⟨rfl, rfl⟩
    case round =>
      obtain ⟨rfl, rfl⟩ := hrel
      go_wp2
      go_ret
      exact ⟨rfl, rfl⟩
  · obtain ⟨g, rfl, hbg, q1⟩ := hca (by omega)
    clear hca q1
    have Ha := Lib.hid ha; clear ha
    go_enter Try.func26, Try.ntmps26
    go_wp2
    go_loop [1, 5] (fun kv i => ∃ j : Nat, j ≤ zss.length ∧ i = .int .i64 j ∧ kv = .int .i64 ((k0 + offs zss j : Nat) : Int)) (fun _ i => zss.length - (intOf i).toNat)
    case atStart => exact ⟨0, by omega, rfl, by simp [offs_zero]⟩
    case round =>
      obtain ⟨j, hj, rfl, rfl⟩ := hrel
      by_cases hlt : j < zss.length
      · have hji : (j : Int) < zss.length := by omega
        have hjv : j < vs.length := by omega
        have hown := Ha.out.own j hjv (by rw [hml]; exact hlt)
        rw [marksL_get _ _ _ hlt] at hown
        have hcell := Ha.out.cell j hjv
        have hoff := offs_at zss j hlt
        have hnext := offs_succ zss j hlt
        obtain ⟨mj, hmj⟩ : ∃ mj, k0 + offs zss (j + 1) = mj := ⟨_, rfl⟩
        have hmj0 : ¬ ((mj : Int) < 0) := by omega
        obtain ⟨ou, cu, hu, hc0⟩ := hown.view
        clear hc0
        rw [marksF_len] at hu
        rw [hu] at hcell hown
        have Hc := Lib.hid (heldInt64S_m (.slice ou zss[j].length cu) base (k0 + offs zss j) zss[j].length mj w hown (by omega) (by omega) (by omega))
        have Hmj := Lib.hid hmj
        clear hmj hnext hoff hown hu
        generalize k0 + offs zss j = kk at *
        generalize zss[j].length = nn at *
        go_wp2_with (go_at_call 29; refine Hc.out.mono ?_; rintro e w1 ⟨rfl, rfl⟩)
        go_round
        case rel => exact ⟨j + 1, by omega, by go_num, by rw [Hmj.out]⟩
        case measure => simp [intOf] <;> omega
      · obtain rfl : j = zss.length := by omega
        rw [hm]
        go_wp2
        go_ret
        exact ⟨rfl, rfl⟩
end Go.Proofs.Ytliohokcjgcmhaa

namespace Go.Proofs.Ytliohokcjgcmhaa
open Go.RowKit

/-! ### Lists of lists -/
theorem info_sl : (Try.prog.info? 26).map (fun i => (i.zero, i.size, i.bytes)) = some (some (.slice none 0 0), 1, 24) := by kernel_rfl
def nils (n : Nat) : Array Value := (List.replicate n (Value.slice none 0 0)).toArray
theorem made_nil (n : Nat) : madeCells (Value.slice none 0 0).cells n = nils n := by
  unfold nils
  apply Array.ext
  · simp [madeCells]
  · intro i h1 h2
    simp [madeCells, Value.cells, Nat.mod_one]
theorem mk_lists (n : Nat) (hn : n ≤ 1048576) (W : World) : (Instr.makeSlice 35 (.int .i64 n) (.int .i64 n)).run Try.prog W = .ok (.slice (some ⟨W.heap.size, 0, none⟩) n n) (W.alloc (.cells (nils n) 26)) := by
  obtain ⟨i0, hi, hz0, hz1, hz2⟩ := info_parts info_sl
  have := run_make (P := Try.prog) W 35 26 i0 (.slice none 0 0) Try.underlying35 hi hz0 .i64 .i64 n n (by omega) (by omega) (by rw [hz2]; omega) (by omega)
  rwa [hz1, Int.toNat_natCast, Nat.mul_one, made_nil] at this
theorem OwnLV.made {w : World} {base g n : Nat} (hn : n ≤ maxLen) (hb : base ≤ g) (hB : Blk w g (nils n) 26) : OwnLV w base (.slice (some ⟨g, 0, none⟩) n n) (List.replicate n (.slice none 0 0)) (List.replicate n []) := by
  unfold nils at hB
  refine ⟨by simp, ⟨by simp, .inr ⟨g, n, _, by simp, hb, hB, by simp, hn, by simp, ?_⟩⟩, fun i h h' => ?_, fun i j _ _ _ k hk => ?_, fun i h k hk => ?_⟩
  · simp
  · rw [List.getElem_replicate, List.getElem_replicate]; exact OwnI.nil _ _
  · rw [List.getElem_replicate] at hk; cases hk
  · rw [List.getElem_replicate] at hk; cases hk
theorem OwnLV.empty {w : World} {base g cap : Nat} {cur : Array Value} (hb : base ≤ g) (hm : cap ≤ maxLen) (hs : cur.size = cap) (hB : Blk w g cur 26) : OwnLV w base (.slice (some ⟨g, 0, none⟩) 0 cap) [] [] :=
  ⟨rfl, ⟨by simp, .inr ⟨g, cap, cur, rfl, hb, hB, by simp, hm, by simpa using hs, by simp⟩⟩, fun _ h => absurd h (by simp), fun _ _ h => absurd h (by simp), fun _ h => absurd h (by simp)⟩
/-- A list is put in its place. -/
theorem OwnLV.put {w : World} {base g n cap i : Nat} {vs : List Value} {zss : List (List Int)} (h : OwnLV w base (.slice (some ⟨g, 0, none⟩) n cap) vs zss) (u : Value) (zs : List Int) (hu : OwnI w base u zs) (hne : ∀ k, u.ownBlock = some k → ¬ inLV (.slice (some ⟨g, 0, none⟩) n cap) vs k) : OwnLV (w.setCell ⟨g, i, none⟩ u) base (.slice (some ⟨g, 0, none⟩) n cap) (vs.set i u) (zss.set i zs) := by
  have hl := h.len
  have hrow := h.row
  have hn : n = vs.length := by
    rcases hrow.2 with ⟨e, _⟩ | ⟨g', cap', cur, e, _⟩
    · cases e
    · simp only [Value.slice.injEq] at e; exact e.2.1
  subst hn
  have hfr : ∀ k, k ≠ g → (w.setCell ⟨g, i, none⟩ u).heap[k]? = w.heap[k]? := fun k hk => Below.heap_setCell _ _ _ k hk
  refine ⟨by simp [hl], ?_, fun j hj hj' => ?_, fun a b ha hb hab k h1 h2 => ?_, fun j hj k h1 h2 => ?_⟩
  · have := (World.ownsRow.stored hrow i u).1
    simpa using this
  · rw [List.getElem_set, List.getElem_set]
    split
    · exact owns_same hu fun k hk => hfr k fun e => hne k hk (.inl (by rw [e]; rfl))
    · have hj2 : j < vs.length := by simpa using hj
      exact owns_same (h.own j hj2 (by omega)) fun k hk => hfr k fun e => h.off j hj2 k hk (by rw [e]; rfl)
  · have ha2 : a < vs.length := by simpa using ha
    have hb2 : b < vs.length := by simpa using hb
    rw [List.getElem_set] at h1 h2
    split at h1
    · rw [if_neg (by omega)] at h2
      exact hne k h1 (.inr ⟨_, List.getElem_mem hb2, h2⟩)
    · split at h2
      · exact hne k h2 (.inr ⟨_, List.getElem_mem ha2, h1⟩)
      · exact h.apart a b ha2 hb2 hab k h1 h2
  · have hj2 : j < vs.length := by simpa using hj
    rw [List.getElem_set] at h1
    split at h1
    · exact hne k h1 (.inl h2)
    · exact h.off j hj2 k h1 h2
theorem inLV_set {v u : Value} {vs : List Value} {i k : Nat} (h : inLV v (vs.set i u) k) : inLV v vs k ∨ u.ownBlock = some k := by
  rcases h with h | ⟨x, hx, h⟩
  · exact .inl (.inl h)
  · rcases List.mem_or_eq_of_mem_set hx with h2 | h2
    · exact .inl (.inr ⟨x, h2, h⟩)
    · subst h2; exact .inr h
theorem OwnI.spared {w w' : World} {base : Nat} {v a : Value} {zs : List Int} (h : OwnI w base v zs) (hs : Spares w w' a) (hne : ∀ k, v.ownBlock = some k → a.ownBlock = some k → False) : OwnI w' base v zs :=
  owns_same h fun k hk => hs k (h.lt k hk) fun e => hne k hk e.symm
theorem OwnLV.spared {w w' : World} {base : Nat} {v a : Value} {vs : List Value} {zss : List (List Int)} (h : OwnLV w base v vs zss) (hs : Spares w w' a) (hne : ∀ k, inLV v vs k → a.ownBlock = some k → False) : OwnLV w' base v vs zss :=
  h.same fun k hk => hs k (h.lt k hk).2 fun e => hne k hk e.symm
theorem Spares.blkL {w w' : World} {v : Value} {b base : Nat} {c : Array Value} {vs : List Value} {zss : List (List Int)} (h : Spares w w' v) (hB : Blk w b c 27) (ho : OwnLV w base v vs zss) : Blk w' b c 27 := by
  unfold Blk
  rw [h b hB.lt (fun e => ?_)]
  · exact hB
  · rcases ho.row.2 with ⟨rfl, _⟩ | ⟨g, c1, cur, rfl, _, hh, _⟩
    · cases e
    · have : b = g := by simpa [Value.ownBlock] using e
      subst this
      unfold Blk at hB
      rw [hh] at hB
      simp at hB
section
variable {ops : Array Oper} {rest : List Oper} {o : Oper} {a : Act} {w : World} {Q : Exit → Act → World → Prop}
/-- A number more, and where the list then lies. -/
theorem wpList_push_int_at (hgd : o.guard = none) (s x : Operand) (ho : o.op = .call { callee := .builtin .append, args := #[s, x], argTypes := #[26, 26] })
    (base : Nat) (v : Value) (zs : List Int) (hs : a.eval s = v) (hown : OwnI w base v zs) (g c : Nat) (z : Int) (hx : a.eval x = .slice (some ⟨g, 0, none⟩) 1 c) (hB : Blk w g #[.int .i64 z] 2)
    (hn : zs.length + 1 ≤ 1048576) (hbase : base ≤ w.heap.size)
    (h : ∀ v' w', OwnI w' base v' (zs ++ [z]) → Below base w w' → Spares w w' v → (v'.ownBlock = v.ownBlock ∨ v'.ownBlock = some w.heap.size) → wpList Try.prog ops Q rest (a.put o.dst v') w') : wpList Try.prog ops Q (o :: rest) a w := by
  obtain ⟨i0, hi, hz0, hz1, hz2⟩ := info_parts info2
  refine wpList_append_own_at _ hgd s x 26 ho base 2 i0 (.int .i64 0) 1 8 Try.underlying26 hi hz0 hz1 hz2 rfl (by decide) v zs.length _ hs hown ⟨g, 0, none⟩ 1 c [.int .i64 z] hx rfl
    (fun j u hu => ?_) (fun u hu => ?_) (by unfold maxLen; omega) (by omega) hbase (fun v' w' hown' hg _ hbl => h v' w' ?_ (below_grown hown hg hbase) hg.block hbl)
  · match j, hu with
    | 0, hu => simp at hu; subst hu; simpa [Addr.add] using hB.cell 0
  · simp at hu; subst hu; rfl
  · unfold OwnI; simpa using hown'
/-- A list more in a list of lists. -/
theorem wpList_push_list (hgd : o.guard = none) (s x : Operand) (ho : o.op = .call { callee := .builtin .append, args := #[s, x], argTypes := #[35, 35] })
    (base : Nat) (v : Value) (vs : List Value) (zss : List (List Int)) (hs : a.eval s = v) (hown : OwnLV w base v vs zss) (g c : Nat) (u : Value) (zs : List Int) (hx : a.eval x = .slice (some ⟨g, 0, none⟩) 1 c) (hB : Blk w g #[u] 26)
    (hu : OwnI w base u zs) (hne : ∀ k, u.ownBlock = some k → ¬ inLV v vs k) (hn : zss.length + 1 ≤ 1048576) (hbase : base ≤ w.heap.size)
    (h : ∀ v' w', OwnLV w' base v' (vs ++ [u]) (zss ++ [zs]) → Below base w w' → Spares w w' v → (v'.ownBlock = v.ownBlock ∨ v'.ownBlock = some w.heap.size) → wpList Try.prog ops Q rest (a.put o.dst v') w') : wpList Try.prog ops Q (o :: rest) a w := by
  obtain ⟨i0, hi, hz0, hz1, hz2⟩ := info_parts info_sl
  have hl := hown.len
  obtain ⟨ou, cu, hue, _⟩ := hu.view
  refine wpList_append_own_at _ hgd s x 35 ho base 26 i0 (.slice none 0 0) 1 24 Try.underlying35 hi hz0 hz1 hz2 rfl (by decide) v vs.length _ hs hown.row ⟨g, 0, none⟩ 1 c [u] hx rfl
    (fun j u' hu' => ?_) (fun u' hu' => ?_) (by unfold maxLen; omega) (by omega) hbase (fun v' w' hown' hg _ hbl => h v' w' ?_ (below_grown hown.row hg hbase) hg.block hbl)
  · match j, hu' with
    | 0, hu' => simp at hu'; subst hu'; simpa [Addr.add] using hB.cell 0
  · simp at hu'; subst hu'; rw [hue]; rfl
  · have hsp : Spares w w' v := hg.block
    refine ⟨by simp [hl], by simpa using hown', fun i hi hi' => ?_, fun i j hi hj hij k h1 h2 => ?_, fun i hi k h1 h2 => ?_⟩
    · by_cases hlt : i < vs.length
      · rw [List.getElem_append_left hlt, List.getElem_append_left (by omega)]
        exact (hown.own i hlt (by omega)).spared hsp fun k hk e => hown.off i hlt k hk e
      · have hi2 : i = vs.length := by simp at hi; omega
        subst hi2
        rw [List.getElem_append_right (Nat.le_refl _), List.getElem_append_right (by omega)]
        simp only [hl, Nat.sub_self, List.getElem_cons_zero]
        exact hu.spared hsp fun k hk e => hne k hk (.inl e)
    · by_cases hj2 : j < vs.length
      · rw [List.getElem_append_left (by omega)] at h1
        rw [List.getElem_append_left hj2] at h2
        exact hown.apart i j (by omega) hj2 hij k h1 h2
      · have hj3 : j = vs.length := by simp at hj; omega
        subst hj3
        rw [List.getElem_append_left hij] at h1
        rw [List.getElem_append_right (Nat.le_refl _)] at h2
        simp only [Nat.sub_self, List.getElem_cons_zero] at h2
        exact hne k h2 (.inr ⟨_, List.getElem_mem hij, h1⟩)
    · have hkin : k < w.heap.size ∧ (v.ownBlock = some k → False) := by
        by_cases hlt : i < vs.length
        · rw [List.getElem_append_left hlt] at h1
          exact ⟨(hown.own i hlt (by omega)).lt k h1, fun e => hown.off i hlt k h1 e⟩
        · have hi2 : i = vs.length := by simp at hi; omega
          subst hi2
          rw [List.getElem_append_right (Nat.le_refl _)] at h1
          simp only [Nat.sub_self, List.getElem_cons_zero] at h1
          exact ⟨hu.lt k h1, fun e => hne k h1 (.inl e)⟩
      rcases hbl with e | e
      · exact hkin.2 (e ▸ h2)
      · rw [e] at h2; cases h2; omega
theorem inLV_push {v v' u : Value} {vs : List Value} {k : Nat} (h : inLV v' (vs ++ [u]) k) : v'.ownBlock = some k ∨ inLV v vs k ∨ u.ownBlock = some k := by
  rcases h with h | ⟨x, hx, h⟩
  · exact .inl h
  · rcases List.mem_append.1 hx with h2 | h2
    · exact .inr (.inl (.inr ⟨x, h2, h⟩))
    · simp at h2; subst h2; exact .inr (.inr h)
end
theorem below_stepB {B : Nat} {w X w1 : World} (h : Below B w X) (hB : B ≤ X.heap.size) (hb : Below X.heap.size X w1) : Below B w w1 := h.trans (below_le hb hB)
theorem below_allocB {B : Nat} {w X : World} (h : Below B w X) (hB : B ≤ X.heap.size) (o : Obj) : Below B w (X.alloc o) := h.alloc hB o
end Go.Proofs.Ytliohokcjgcmhaa
