/- Graphs of levels: plain data; steps as they lie in memory. -/
import Derived.Test.YticnpajbefflbaaLevL
import Derived.Test.YticnpajbefflbaaInvP
import Derived.Test.YticnpajbefflbaaBls
import Derived.Test.YticnpajbefflbaaStoreK
import Derived.Test.YticnpajbefflbaaBuildK
import Derived.Test.YticnpajbefflbaaArgs
import Derived.Maps.AppendAt
namespace Go.Proofs.Yticnpajbefflbaa
open Go.RowKit

/-! ### The inverse is a machine -/
theorem invAll_out {M : Mach} {L S : Nat} (hg : Good M L S) (c : Mach) (hc : c.Ok) (hz : ∀ q x, q < 16 → x < 3 → c.o q x = 0 ∧ c.n q x = 0) : ∀ k, k ≤ S → ∀ q x, q < 16 → x < 3 → ¬ (q < k ∧ x < L) → (invAll M L c k).o q x = 0 ∧ (invAll M L c k).n q x = 0
  | 0, _, q, x, h1, h2, _ => hz q x h1 h2
  | k + 1, hk, q, x, h1, h2, hn => by
    have hok := invAll_ok hg.ok hc L hg.L3 k
    obtain ⟨r1, r2⟩ := invRow_at hg _ hok k (by omega) L (Nat.le_refl _) q x h1 h2
    rw [show invAll M L c (k + 1) = invRow M k (invAll M L c k) L from rfl, r1, r2]
    rw [if_neg (fun h => hn ⟨by omega, h.2.1⟩), if_neg (fun h => hn ⟨by omega, h.2.1⟩)]
    exact invAll_out hg c hc hz k (by omega) q x h1 h2 (fun h => hn ⟨by omega, h.2⟩)
theorem blank_zero (a b : Int) (q x : Nat) : (blankM a b).o q x = 0 ∧ (blankM a b).n q x = 0 := by
  have h : ∀ i, (List.replicate 48 (0 : Int)).getD i 0 = 0 := fun i => by
    simp only [List.getD, List.getElem?_replicate]
    split <;> rfl
  exact ⟨h _, h _⟩
theorem Good.inv {M : Mach} {L S : Nat} (hg : Good M L S) : Good (invM M L S) L S := by
  have hL := invAll_L M L (blankM M.L M.S) S
  refine ⟨invM_ok hg.ok L S hg.L3, hL.1.trans hg.hL, hL.2.trans hg.hS, hg.L2, hg.L3, hg.S1, hg.S16, ?_⟩
  unfold machUpTo rowAll
  rw [List.all_eq_true]
  intro q hq
  rw [List.all_eq_true]
  intro x hx
  have hq16 : q < 16 := by simpa using hq
  have hx3 : x < 3 := by simpa using hx
  unfold cellAll
  by_cases h : q < S ∧ x < L
  · rw [if_pos h]
    obtain ⟨e1, e2⟩ := hg.inv_at q x h.1 h.2
    obtain ⟨b1, b2, b3⟩ := hg.bk_at q x h.1 h.2
    have n0 := hg.n_lt q (bk M q x) h.1 b1
    unfold cellOk
    rw [e1, e2, Bool.and_eq_true, Bool.and_eq_true, decide_eq_true_eq, decide_eq_true_eq, Bool.not_eq_true']
    refine ⟨n0.2, by omega, ?_⟩
    unfold seenB
    rw [List.any_eq_false]
    intro y hy
    have hyx : y < x := by simpa using hy
    have e3 := (hg.inv_at q y h.1 (by omega)).1
    have c2 := (hg.bk_at q y h.1 (by omega)).2.1
    simp only [e3, decide_eq_true_eq]
    intro e
    have e4 : bk M q y = bk M q x := Int.ofNat.inj e
    rw [e4, b2] at c2
    omega
  · rw [if_neg h]
    obtain ⟨e1, e2⟩ := invAll_out hg _ (blankM_ok hg.ok) (fun q x _ _ => blank_zero _ _ q x) S (Nat.le_refl _) q x hq16 hx3 h
    exact decide_eq_true ⟨e2, e1⟩

/-! ### Permutations of levels -/
theorem permAt_bd {M : Mach} {L S : Nat} (hg : Good M L S) (q n k : Nat) (hq : q < S) : 0 ≤ permAt M L q n k ∧ permAt M L q n k < ((L ^ n : Nat) : Int) := by
  have hl := hg.letters_all q hq _ (lettersL_wordOf L hg.L23 n k)
  have hlen : (runL M q (wordOf L n k)).2.length = n := by rw [runL_len, length_wordOf]
  have h := numL_take_lt L _ hl n (by omega)
  rw [List.take_of_length_le (by omega)] at h
  unfold permAt numI
  omega

/-! ### Codes -/
/-- Numbers of words. -/
def inK (N : Nat) (ks : List Int) : Bool := ks.all fun k => decide (0 ≤ k) && decide (k < (N : Int))
def gLev (M : Mach) (n : Int) : Bool := decide (0 ≤ n) && decide (n ≤ 7 - M.L)
def gC (M : Mach) (n : Int) (ks : List Int) : Int := if isMach M = true then (if gLev M n && inK (M.L.toNat ^ n.toNat) ks then 0 else 2) else 1
/-- The steps of the first k states forward, and backward. -/
def fwd (M : Mach) (L n k : Nat) : List (Int × List Int) := (List.range k).map fun (j : Nat) => ((j : Int) + 1, permL M L j n)
def bwd (M : Mach) (L S n k : Nat) : List (Int × List Int) := (List.range k).map fun (j : Nat) => (-(j : Int) - 1, permL (invM M L S) L j n)
theorem fwd_succ (M : Mach) (L n k : Nat) : fwd M L n (k + 1) = fwd M L n k ++ [((k : Int) + 1, permL M L k n)] := by simp [fwd, List.range_succ]
theorem bwd_succ (M : Mach) (L S n k : Nat) : bwd M L S n (k + 1) = bwd M L S n k ++ [(-(k : Int) - 1, permL (invM M L S) L k n)] := by simp [bwd, List.range_succ]
theorem fwd_len (M : Mach) (L n k : Nat) : (fwd M L n k).length = k := by simp [fwd]
theorem bwd_len (M : Mach) (L S n k : Nat) : (bwd M L S n k).length = k := by simp [bwd]

/-! ### Steps in memory -/
def stF : List (Int × List Int) → List Value → List Value
  | p :: ps, u :: us => .int .i64 p.1 :: u :: stF ps us
  | _, _ => []
theorem stF_len : ∀ (ps : List (Int × List Int)) (us : List Value), us.length = ps.length → (stF ps us).length = ps.length * 2
  | [], [], _ => rfl
  | p :: ps, u :: us, h => by
    simp only [stF, List.length_cons] at h ⊢
    rw [stF_len ps us (by omega)]; omega
  | [], _ :: _, h => by simp at h
  | _ :: _, [], h => by simp at h
theorem stF_snoc : ∀ (ps : List (Int × List Int)) (us : List Value) (p : Int × List Int) (u : Value), us.length = ps.length → stF (ps ++ [p]) (us ++ [u]) = stF ps us ++ [.int .i64 p.1, u]
  | [], [], _, _, _ => rfl
  | q :: ps, v :: us, p, u, h => by
    simp only [List.cons_append, stF]
    rw [stF_snoc ps us p u (by simpa using h)]
  | [], _ :: _, _, _, h => by simp at h
  | _ :: _, [], _, _, h => by simp at h
theorem stF_at : ∀ (ps : List (Int × List Int)) (us : List Value) (j : Nat) (hj : j < ps.length) (hu : j < us.length), (stF ps us)[j * 2]? = some (.int .i64 ps[j].1) ∧ (stF ps us)[j * 2 + 1]? = some us[j]
  | p :: ps, u :: us, 0, _, _ => ⟨rfl, rfl⟩
  | p :: ps, u :: us, j + 1, hj, hu => by
    have := stF_at ps us j (by simpa using hj) (by simpa using hu)
    rw [show (j + 1) * 2 = j * 2 + 1 + 1 by omega]
    simpa [stF] using this
  | [], _, _, hj, _ => absurd hj (by simp)
  | _ :: _, [], _, _, hu => absurd hu (by simp)
/-- Steps of the call's own. -/
structure OwnSt (w : World) (base : Nat) (v : Value) (us : List Value) (ps : List (Int × List Int)) : Prop where
  len : us.length = ps.length
  row : w.ownsRow base 86 2 v ps.length (stF ps us)
  own : ∀ i (h : i < us.length) (h' : i < ps.length), OwnI w base us[i] ps[i].2
  off : ∀ i (h : i < us.length) k, us[i].ownBlock = some k → v.ownBlock = some k → False
def inSt (v : Value) (us : List Value) (k : Nat) : Prop := v.ownBlock = some k ∨ ∃ u ∈ us, u.ownBlock = some k
theorem OwnSt.nil (w : World) (base : Nat) : OwnSt w base (.slice none 0 0) [] [] :=
  ⟨rfl, World.ownsRow_nil w base _ _, fun _ h => absurd h (by simp), fun _ h => absurd h (by simp)⟩
theorem row_same {w w1 : World} {base e size n : Nat} {v : Value} {xs : List Value} (h : w.ownsRow base e size v n xs) (hs : ∀ k, v.ownBlock = some k → w1.heap[k]? = w.heap[k]?) : w1.ownsRow base e size v n xs := by
  refine ⟨h.1, ?_⟩
  rcases h.2 with h2 | ⟨g, cap, cur, hv, hg, hh, r⟩
  · exact Or.inl h2
  · exact Or.inr ⟨g, cap, cur, hv, hg, by rw [hs g (by rw [hv]; rfl)]; exact hh, r⟩
theorem OwnSt.same {w w1 : World} {base : Nat} {v : Value} {us : List Value} {ps : List (Int × List Int)} (h : OwnSt w base v us ps) (hs : ∀ k, inSt v us k → w1.heap[k]? = w.heap[k]?) : OwnSt w1 base v us ps :=
  ⟨h.len, row_same h.row (fun k hk => hs k (.inl hk)), fun i hi hi' => row_same (h.own i hi hi') (fun k hk => hs k (.inr ⟨_, List.getElem_mem hi, hk⟩)), h.off⟩
theorem OwnSt.lt {w : World} {base : Nat} {v : Value} {us : List Value} {ps : List (Int × List Int)} (h : OwnSt w base v us ps) : ∀ k, inSt v us k → base ≤ k ∧ k < w.heap.size := by
  intro k hk
  rcases hk with hk | ⟨u, hu, hk⟩
  · exact World.ownsRow.lt h.row k hk
  · obtain ⟨i, hi, rfl⟩ := List.getElem_of_mem hu
    exact World.ownsRow.lt (h.own i hi (by rw [← h.len]; exact hi)) k hk
theorem OwnSt.below {w w1 : World} {base : Nat} {v : Value} {us : List Value} {ps : List (Int × List Int)} (h : OwnSt w base v us ps) (hb : Below w.heap.size w w1) : OwnSt w1 base v us ps :=
  h.same fun k hk => hb.block k (h.lt k hk).2
theorem OwnSt.view {w : World} {base : Nat} {v : Value} {us : List Value} {ps : List (Int × List Int)} (h : OwnSt w base v us ps) : ∃ oa cap, v = .slice oa ps.length cap := by
  rcases h.row.2 with ⟨rfl, h0⟩ | ⟨g, cap, cur, rfl, _⟩
  · exact ⟨none, 0, by rw [h0]⟩
  · exact ⟨_, cap, rfl⟩
/-- Steps that are read. -/
def SeesSt (w : World) (v : Value) (ps : List (Int × List Int)) : Prop := ∃ (g cap : Nat) (us : List Value), us.length = ps.length ∧ v = .slice (some ⟨g, 0, none⟩) ps.length cap ∧ g < w.heap.size ∧ w.rangeAt g 0 (stF ps us) ∧ ∀ j (hj : j < ps.length) (hu : j < us.length), SeesI w us[j] ps[j].2
theorem OwnSt.sees {w : World} {base : Nat} {v : Value} {us : List Value} {ps : List (Int × List Int)} (h : OwnSt w base v us ps) (h0 : 0 < ps.length) : SeesSt w v ps := by
  rcases h.row.2 with ⟨_, h1⟩ | ⟨g, cap, cur, rfl, hg, hh, hn, hm, hs, ht⟩
  · omega
  · refine ⟨g, cap, us, h.len, rfl, (Array.getElem?_eq_some_iff.1 hh).1, fun j u hu => ?_, fun j hj hu => (h.own j hu hj).sees⟩
    rw [Nat.zero_add, Go.Joins.cell_of_block hh]
    have hjl : j < ps.length * 2 := by
      have := (List.getElem?_eq_some_iff.1 hu).1
      rw [stF_len ps us h.len] at this
      exact this
    have := congrArg (fun l => l[j]?) ht
    simp only [List.getElem?_take] at this
    rw [if_pos hjl, hu] at this
    simpa using this
theorem SeesSt.at {w : World} {v : Value} {ps : List (Int × List Int)} (h : SeesSt w v ps) : ∃ (g cap : Nat) (us : List Value), us.length = ps.length ∧ v = .slice (some ⟨g, 0, none⟩) ps.length cap ∧ g < w.heap.size ∧ ∀ j (hj : j < ps.length) (hu : j < us.length), w.cell? ⟨g, j * 2, none⟩ = some (.int .i64 ps[j].1) ∧ w.cell? ⟨g, j * 2 + 1, none⟩ = some us[j] ∧ SeesI w us[j] ps[j].2 := by
  obtain ⟨g, cap, us, hl, hv, hg, hr, hc⟩ := h
  refine ⟨g, cap, us, hl, hv, hg, fun j hj hu => ?_⟩
  obtain ⟨e1, e2⟩ := stF_at ps us j hj hu
  have c1 := hr _ _ e1
  have c2 := hr _ _ e2
  rw [Nat.zero_add] at c1 c2
  exact ⟨c1, c2, hc j hj hu⟩
theorem SeesSt.below {w w1 : World} {v : Value} {ps : List (Int × List Int)} (h : SeesSt w v ps) (hb : Below w.heap.size w w1) : SeesSt w1 v ps := by
  obtain ⟨g, cap, us, hl, hv, hg, hr, hc⟩ := h
  refine ⟨g, cap, us, hl, hv, Nat.lt_of_lt_of_le hg hb.size, fun j u hu => ?_, fun j hj hu => (hc j hj hu).below hb⟩
  have := hr j u hu
  exact (hb.cell (p := ⟨g, 0 + j, none⟩) hg).trans this
theorem stF_append : ∀ (ps : List (Int × List Int)) (us : List Value) (qs : List (Int × List Int)) (vs : List Value), us.length = ps.length → stF (ps ++ qs) (us ++ vs) = stF ps us ++ stF qs vs
  | [], [], _, _, _ => rfl
  | q :: ps, v :: us, qs, vs, h => by
    simp only [List.cons_append, stF]
    rw [stF_append ps us qs vs (by simpa using h)]
  | [], _ :: _, _, _, h => by simp at h
  | _ :: _, [], _, _, h => by simp at h
theorem info_st : (Try.prog.info? 86).map (fun i => (i.zero, i.size, i.bytes)) = some (some (.agg #[.int .i64 0, .slice none 0 0]), 2, 32) := by kernel_rfl
section
variable {ops : Array Oper} {rest : List Oper} {o : Oper} {a : Act} {w : World} {Q : Exit → Act → World → Prop}
def SparesS (w w' : World) (v : Value) : Prop := ∀ k, k < w.heap.size → some k ≠ v.ownBlock → w'.heap[k]? = w.heap[k]?
/-- A step more. -/
theorem wpList_push_step (hgd : o.guard = none) (s x : Operand) (ho : o.op = .call { callee := .builtin .append, args := #[s, x], argTypes := #[80, 80] })
    (base : Nat) (v : Value) (us : List Value) (ps : List (Int × List Int)) (hs : a.eval s = v) (hown : OwnSt w base v us ps) (g c : Nat) (num : Int) (u : Value) (zs : List Int) (hx : a.eval x = .slice (some ⟨g, 0, none⟩) 1 c) (hB : Blk w g #[.int .i64 num, u] 86)
    (hu : OwnI w base u zs) (hne : ∀ k, u.ownBlock = some k → v.ownBlock = some k → False) (hn : ps.length + 1 ≤ 1048576) (hbase : base ≤ w.heap.size)
    (h : ∀ v' w', OwnSt w' base v' (us ++ [u]) (ps ++ [(num, zs)]) → Below base w w' → SparesS w w' v → (v'.ownBlock = v.ownBlock ∨ v'.ownBlock = some w.heap.size) → wpList Try.prog ops Q rest (a.put o.dst v') w') : wpList Try.prog ops Q (o :: rest) a w := by
  obtain ⟨i0, hi, hz0, hz1, hz2⟩ := info_parts info_st
  have hl := hown.len
  obtain ⟨ou, cu, hue, _⟩ := hu.view
  refine wpList_append_own_at _ hgd s x 80 ho base 86 i0 (.agg #[.int .i64 0, .slice none 0 0]) 2 32 Try.underlying80 hi hz0 hz1 hz2 rfl (by decide) v ps.length _ hs hown.row ⟨g, 0, none⟩ 1 c [.int .i64 num, u] hx rfl
    (fun j u' hu' => ?_) (fun u' hu' => ?_) (by unfold maxLen; omega) (by omega) hbase (fun v' w' hown' hg _ hbl => h v' w' ?_ (below_grown hown.row hg hbase) hg.block hbl)
  · match j, hu' with
    | 0, hu' => simp at hu'; subst hu'; simpa [Addr.add] using hB.cell 0
    | 1, hu' => simp at hu'; subst hu'; simpa [Addr.add] using hB.cell 1
  · simp at hu'
    rcases hu' with rfl | rfl
    · rfl
    · rw [hue]; rfl
  · have hsp : SparesS w w' v := hg.block
    refine ⟨by simp [hl], by rw [List.length_append, List.length_singleton, stF_snoc ps us (num, zs) u hl]; exact hown', fun i hi hi' => ?_, fun i hi k h1 h2 => ?_⟩
    · by_cases hlt : i < us.length
      · rw [List.getElem_append_left hlt, List.getElem_append_left (by omega)]
        exact row_same (hown.own i hlt (by omega)) fun k hk => hsp k (OwnI.lt (hown.own i hlt (by omega)) k hk) fun e => hown.off i hlt k hk e.symm
      · have hi2 : i = us.length := by simp at hi; omega
        subst hi2
        rw [List.getElem_append_right (Nat.le_refl _), List.getElem_append_right (by omega)]
        simp only [hl, Nat.sub_self, List.getElem_cons_zero]
        exact row_same hu fun k hk => hsp k (hu.lt k hk) fun e => hne k hk e.symm
    · have hkin : k < w.heap.size ∧ (v.ownBlock = some k → False) := by
        by_cases hlt : i < us.length
        · rw [List.getElem_append_left hlt] at h1
          exact ⟨(hown.own i hlt (by omega)).lt k h1, fun e => hown.off i hlt k h1 e⟩
        · have hi2 : i = us.length := by simp at hi; omega
          subst hi2
          rw [List.getElem_append_right (Nat.le_refl _)] at h1
          simp only [Nat.sub_self, List.getElem_cons_zero] at h1
          exact ⟨hu.lt k h1, fun e => hne k h1 e⟩
      rcases hbl with e | e
      · exact hkin.2 (e ▸ h2)
      · rw [e] at h2; cases h2; omega
theorem inSt_push {v v' u : Value} {us : List Value} {k : Nat} (h : inSt v' (us ++ [u]) k) : v'.ownBlock = some k ∨ inSt v us k ∨ u.ownBlock = some k := by
  rcases h with h | ⟨x, hx, h⟩
  · exact .inl h
  · rcases List.mem_append.1 hx with h2 | h2
    · exact .inr (.inl (.inr ⟨x, h2, h⟩))
    · simp at h2; subst h2; exact .inr (.inr h)
end
end Go.Proofs.Yticnpajbefflbaa
