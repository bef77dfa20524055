/- Wreath recursions: plain data; lists of lists that a call fills or appends to. -/
import Derived.Test.YtppmfpgpbdjkdaaLL
import Derived.Test.YtppmfpgpbdjkdaaLedT
import Derived.Test.YtppmfpgpbdjkdaaMinW
import Derived.Maps.AppendAt
import Derived.Test.YtppmfpgpbdjkdaaGrpT
import Derived.Test.YtppmfpgpbdjkdaaInv
import Derived.Test.YtppmfpgpbdjkdaaStoreK
namespace Go.Proofs.Ytppmfpgpbdjkdaa
open Go.RowKit

def imK (M : Mach) (zs : List Int) (k : Nat) : List Int := (List.range k).map fun x => ((ledG M zs x).1 : Int)
def secK (M : Mach) (zs : List Int) (k : Nat) : List (List Int) := (List.range k).map fun x => (ledG M zs x).2
theorem imK_len (M : Mach) (zs : List Int) (k : Nat) : (imK M zs k).length = k := by simp [imK]
theorem secK_len (M : Mach) (zs : List Int) (k : Nat) : (secK M zs k).length = k := by simp [secK]
theorem imK_succ (M : Mach) (zs : List Int) (k : Nat) : imK M zs (k + 1) = imK M zs k ++ [((ledG M zs k).1 : Int)] := by simp [imK, List.range_succ]
theorem secK_succ (M : Mach) (zs : List Int) (k : Nat) : secK M zs (k + 1) = secK M zs k ++ [(ledG M zs k).2] := by simp [secK, List.range_succ]
/-- The first k of n places are filled. -/
def imP (M : Mach) (zs : List Int) (n k : Nat) : List Int := (List.range n).map fun x => if x < k then ((ledG M zs x).1 : Int) else 0
def secP (M : Mach) (zs : List Int) (n k : Nat) : List (List Int) := (List.range n).map fun x => if x < k then (ledG M zs x).2 else []
theorem imP_len (M : Mach) (zs : List Int) (n k : Nat) : (imP M zs n k).length = n := by simp [imP]
theorem secP_len (M : Mach) (zs : List Int) (n k : Nat) : (secP M zs n k).length = n := by simp [secP]
theorem imP_zero (M : Mach) (zs : List Int) (n : Nat) : imP M zs n 0 = List.replicate n 0 := by simp [imP, List.map_const']
theorem secP_zero (M : Mach) (zs : List Int) (n : Nat) : secP M zs n 0 = List.replicate n [] := by simp [secP, List.map_const']
theorem imP_all (M : Mach) (zs : List Int) (n : Nat) : imP M zs n n = imK M zs n := by
  unfold imP imK
  exact List.map_congr_left fun x hx => by rw [if_pos (by simpa using hx)]
theorem secP_all (M : Mach) (zs : List Int) (n : Nat) : secP M zs n n = secK M zs n := by
  unfold secP secK
  exact List.map_congr_left fun x hx => by rw [if_pos (by simpa using hx)]
theorem imP_set (M : Mach) (zs : List Int) (n k : Nat) (v : Int) (hv : v = ((ledG M zs k).1 : Int)) : (imP M zs n k).set k v = imP M zs n (k + 1) := by
  subst hv
  apply List.ext_getElem
  · simp [imP]
  · intro i h1 h2
    simp only [imP, List.getElem_set, List.getElem_map, List.getElem_range]
    by_cases h : k = i
    · subst h; simp
    · rw [if_neg h]
      by_cases h3 : i < k
      · rw [if_pos h3, if_pos (by omega)]
      · rw [if_neg h3, if_neg (by omega)]
theorem secP_set (M : Mach) (zs : List Int) (n k : Nat) : (secP M zs n k).set k (ledG M zs k).2 = secP M zs n (k + 1) := by
  apply List.ext_getElem
  · simp [secP]
  · intro i h1 h2
    simp only [secP, List.getElem_set, List.getElem_map, List.getElem_range]
    by_cases h : k = i
    · subst h; simp
    · rw [if_neg h]
      by_cases h3 : i < k
      · rw [if_pos h3, if_pos (by omega)]
      · rw [if_neg h3, if_neg (by omega)]
theorem imP_at (M : Mach) (zs : List Int) (n k x : Nat) (hx : x < k) (hn : x < n) : (imP M zs n k).getD x 0 = ((ledG M zs x).1 : Int) := by
  unfold imP
  rw [List.getD, List.getElem?_map, List.getElem?_range hn]
  simp [hx]
def wrI (M : Mach) (zs : List Int) : List Int := if isGrp M zs then imK M zs M.L.toNat else []
def wrS (M : Mach) (zs : List Int) : List (List Int) := if isGrp M zs then secK M zs M.L.toNat else []
theorem wr_good {M : Mach} {L S : Nat} (hg : Good M L S) {zs : List Int} (h : isGrp M zs = true) : wrI M zs = imK M zs L ∧ wrS M zs = secK M zs L := by
  simp [wrI, wrS, h, hg.hL]
theorem nums_of {M : Mach} {L S : Nat} (hg : Good M L S) {zs : List Int} (h : isGrp M zs = true) : numsOk S zs = true := by
  have h2 := (isGrp_parts h).2
  rw [hg.hS] at h2
  simp [grpOk] at h2
  exact h2.2

/-! ### Lists of lists -/
theorem info_sl : (Try.prog.info? 26).map (fun i => (i.zero, i.size, i.bytes)) = some (some (.slice none 0 0), 1, 24) := by kernel_rfl
def nils (n : Nat) : Array Value := (List.replicate n (Value.slice none 0 0)).toArray
theorem made_nil (n : Nat) : madeCells (Value.slice none 0 0).cells n = nils n := by
  unfold nils
  apply Array.ext
  · simp [madeCells]
  · intro i h1 h2
    simp [madeCells, Value.cells, Nat.mod_one]
theorem mk_lists (n : Nat) (hn : n ≤ 1048576) (W : World) : (Instr.makeSlice 42 (.int .i64 n) (.int .i64 n)).run Try.prog W = .ok (.slice (some ⟨W.heap.size, 0, none⟩) n n) (W.alloc (.cells (nils n) 26)) := by
  obtain ⟨i0, hi, hz0, hz1, hz2⟩ := info_parts info_sl
  have := run_make (P := Try.prog) W 42 26 i0 (.slice none 0 0) Try.underlying42 hi hz0 .i64 .i64 n n (by omega) (by omega) (by rw [hz2]; omega) (by omega)
  rwa [hz1, Int.toNat_natCast, Nat.mul_one, made_nil] at this
theorem OwnLV.made {w : World} {base g n : Nat} (hn : n ≤ maxLen) (hb : base ≤ g) (hB : Blk w g (nils n) 26) : OwnLV w base (.slice (some ⟨g, 0, none⟩) n n) (List.replicate n (.slice none 0 0)) (List.replicate n []) := by
  unfold nils at hB
  refine ⟨by simp, ⟨by simp, .inr ⟨g, n, _, by simp, hb, hB, by simp, hn, by simp, ?_⟩⟩, fun i h h' => ?_, fun i j _ _ _ k hk => ?_, fun i h k hk => ?_⟩
  · simp
  · rw [List.getElem_replicate, List.getElem_replicate]; exact OwnI.nil _ _
  · rw [List.getElem_replicate] at hk; cases hk
  · rw [List.getElem_replicate] at hk; cases hk
theorem OwnLV.empty {w : World} {base g cap : Nat} {cur : Array Value} (hb : base ≤ g) (hm : cap ≤ maxLen) (hs : cur.size = cap) (hB : Blk w g cur 26) : OwnLV w base (.slice (some ⟨g, 0, none⟩) 0 cap) [] [] :=
  ⟨rfl, ⟨by simp, .inr ⟨g, cap, cur, rfl, hb, hB, by simp, hm, by simpa using hs, by simp⟩⟩, fun _ h => absurd h (by simp), fun _ _ h => absurd h (by simp), fun _ h => absurd h (by simp)⟩
/-- A list is put in its place. -/
theorem OwnLV.put {w : World} {base g n cap i : Nat} {vs : List Value} {zss : List (List Int)} (h : OwnLV w base (.slice (some ⟨g, 0, none⟩) n cap) vs zss) (u : Value) (zs : List Int) (hu : OwnI w base u zs) (hne : ∀ k, u.ownBlock = some k → ¬ inLV (.slice (some ⟨g, 0, none⟩) n cap) vs k) : OwnLV (w.setCell ⟨g, i, none⟩ u) base (.slice (some ⟨g, 0, none⟩) n cap) (vs.set i u) (zss.set i zs) := by
  have hl := h.len
  have hrow := h.row
  have hn : n = vs.length := by
    rcases hrow.2 with ⟨e, _⟩ | ⟨g', cap', cur, e, _⟩
    · cases e
    · simp only [Value.slice.injEq] at e; exact e.2.1
  subst hn
  have hfr : ∀ k, k ≠ g → (w.setCell ⟨g, i, none⟩ u).heap[k]? = w.heap[k]? := fun k hk => Below.heap_setCell _ _ _ k hk
  refine ⟨by simp [hl], ?_, fun j hj hj' => ?_, fun a b ha hb hab k h1 h2 => ?_, fun j hj k h1 h2 => ?_⟩
  · have := (World.ownsRow.stored hrow i u).1
    simpa using this
  · rw [List.getElem_set, List.getElem_set]
    split
    · exact owns_same hu fun k hk => hfr k fun e => hne k hk (.inl (by rw [e]; rfl))
    · have hj2 : j < vs.length := by simpa using hj
      exact owns_same (h.own j hj2 (by omega)) fun k hk => hfr k fun e => h.off j hj2 k hk (by rw [e]; rfl)
  · have ha2 : a < vs.length := by simpa using ha
    have hb2 : b < vs.length := by simpa using hb
    rw [List.getElem_set] at h1 h2
    split at h1
    · rw [if_neg (by omega)] at h2
      exact hne k h1 (.inr ⟨_, List.getElem_mem hb2, h2⟩)
    · split at h2
      · exact hne k h2 (.inr ⟨_, List.getElem_mem ha2, h1⟩)
      · exact h.apart a b ha2 hb2 hab k h1 h2
  · have hj2 : j < vs.length := by simpa using hj
    rw [List.getElem_set] at h1
    split at h1
    · exact hne k h1 (.inl h2)
    · exact h.off j hj2 k h1 h2
theorem inLV_set {v u : Value} {vs : List Value} {i k : Nat} (h : inLV v (vs.set i u) k) : inLV v vs k ∨ u.ownBlock = some k := by
  rcases h with h | ⟨x, hx, h⟩
  · exact .inl (.inl h)
  · rcases List.mem_or_eq_of_mem_set hx with h2 | h2
    · exact .inl (.inr ⟨x, h2, h⟩)
    · subst h2; exact .inr h
theorem OwnI.spared {w w' : World} {base : Nat} {v a : Value} {zs : List Int} (h : OwnI w base v zs) (hs : Spares w w' a) (hne : ∀ k, v.ownBlock = some k → a.ownBlock = some k → False) : OwnI w' base v zs :=
  owns_same h fun k hk => hs k (h.lt k hk) fun e => hne k hk e.symm
theorem OwnLV.spared {w w' : World} {base : Nat} {v a : Value} {vs : List Value} {zss : List (List Int)} (h : OwnLV w base v vs zss) (hs : Spares w w' a) (hne : ∀ k, inLV v vs k → a.ownBlock = some k → False) : OwnLV w' base v vs zss :=
  h.same fun k hk => hs k (h.lt k hk).2 fun e => hne k hk e.symm
theorem Spares.blkL {w w' : World} {v : Value} {b base : Nat} {c : Array Value} {vs : List Value} {zss : List (List Int)} (h : Spares w w' v) (hB : Blk w b c 29) (ho : OwnLV w base v vs zss) : Blk w' b c 29 := by
  unfold Blk
  rw [h b hB.lt (fun e => ?_)]
  · exact hB
  · rcases ho.row.2 with ⟨rfl, _⟩ | ⟨g, c1, cur, rfl, _, hh, _⟩
    · cases e
    · have : b = g := by simpa [Value.ownBlock] using e
      subst this
      unfold Blk at hB
      rw [hh] at hB
      simp at hB
section
variable {ops : Array Oper} {rest : List Oper} {o : Oper} {a : Act} {w : World} {Q : Exit → Act → World → Prop}
/-- A number more, and where the list then lies. -/
theorem wpList_push_int_at (hgd : o.guard = none) (s x : Operand) (ho : o.op = .call { callee := .builtin .append, args := #[s, x], argTypes := #[26, 26] })
    (base : Nat) (v : Value) (zs : List Int) (hs : a.eval s = v) (hown : OwnI w base v zs) (g c : Nat) (z : Int) (hx : a.eval x = .slice (some ⟨g, 0, none⟩) 1 c) (hB : Blk w g #[.int .i64 z] 2)
    (hn : zs.length + 1 ≤ 1048576) (hbase : base ≤ w.heap.size)
    (h : ∀ v' w', OwnI w' base v' (zs ++ [z]) → Below base w w' → Spares w w' v → (v'.ownBlock = v.ownBlock ∨ v'.ownBlock = some w.heap.size) → wpList Try.prog ops Q rest (a.put o.dst v') w') : wpList Try.prog ops Q (o :: rest) a w := by
  obtain ⟨i0, hi, hz0, hz1, hz2⟩ := info_parts info2
  refine wpList_append_own_at _ hgd s x 26 ho base 2 i0 (.int .i64 0) 1 8 Try.underlying26 hi hz0 hz1 hz2 rfl (by decide) v zs.length _ hs hown ⟨g, 0, none⟩ 1 c [.int .i64 z] hx rfl
    (fun j u hu => ?_) (fun u hu => ?_) (by unfold maxLen; omega) (by omega) hbase (fun v' w' hown' hg _ hbl => h v' w' ?_ (below_grown hown hg hbase) hg.block hbl)
  · match j, hu with
    | 0, hu => simp at hu; subst hu; simpa [Addr.add] using hB.cell 0
  · simp at hu; subst hu; rfl
  · unfold OwnI; simpa using hown'
/-- A list more in a list of lists. -/
theorem wpList_push_list (hgd : o.guard = none) (s x : Operand) (ho : o.op = .call { callee := .builtin .append, args := #[s, x], argTypes := #[42, 42] })
    (base : Nat) (v : Value) (vs : List Value) (zss : List (List Int)) (hs : a.eval s = v) (hown : OwnLV w base v vs zss) (g c : Nat) (u : Value) (zs : List Int) (hx : a.eval x = .slice (some ⟨g, 0, none⟩) 1 c) (hB : Blk w g #[u] 26)
    (hu : OwnI w base u zs) (hne : ∀ k, u.ownBlock = some k → ¬ inLV v vs k) (hn : zss.length + 1 ≤ 1048576) (hbase : base ≤ w.heap.size)
    (h : ∀ v' w', OwnLV w' base v' (vs ++ [u]) (zss ++ [zs]) → Below base w w' → Spares w w' v → (v'.ownBlock = v.ownBlock ∨ v'.ownBlock = some w.heap.size) → wpList Try.prog ops Q rest (a.put o.dst v') w') : wpList Try.prog ops Q (o :: rest) a w := by
  obtain ⟨i0, hi, hz0, hz1, hz2⟩ := info_parts info_sl
  have hl := hown.len
  obtain ⟨ou, cu, hue, _⟩ := hu.view
  refine wpList_append_own_at _ hgd s x 42 ho base 26 i0 (.slice none 0 0) 1 24 Try.underlying42 hi hz0 hz1 hz2 rfl (by decide) v vs.length _ hs hown.row ⟨g, 0, none⟩ 1 c [u] hx rfl
    (fun j u' hu' => ?_) (fun u' hu' => ?_) (by unfold maxLen; omega) (by omega) hbase (fun v' w' hown' hg _ hbl => h v' w' ?_ (below_grown hown.row hg hbase) hg.block hbl)
  · match j, hu' with
    | 0, hu' => simp at hu'; subst hu'; simpa [Addr.add] using hB.cell 0
  · simp at hu'; subst hu'; rw [hue]; rfl
  · have hsp : Spares w w' v := hg.block
    refine ⟨by simp [hl], by simpa using hown', fun i hi hi' => ?_, fun i j hi hj hij k h1 h2 => ?_, fun i hi k h1 h2 => ?_⟩
    · by_cases hlt : i < vs.length
      · rw [List.getElem_append_left hlt, List.getElem_append_left (by omega)]
        exact (hown.own i hlt (by omega)).spared hsp fun k hk e => hown.off i hlt k hk e
      · have hi2 : i = vs.length := by simp at hi; omega
        subst hi2
        rw [List.getElem_append_right (Nat.le_refl _), List.getElem_append_right (by omega)]
        simp only [hl, Nat.sub_self, List.getElem_cons_zero]
        exact hu.spared hsp fun k hk e => hne k hk (.inl e)
    · by_cases hj2 : j < vs.length
      · rw [List.getElem_append_left (by omega)] at h1
        rw [List.getElem_append_left hj2] at h2
        exact hown.apart i j (by omega) hj2 hij k h1 h2
      · have hj3 : j = vs.length := by simp at hj; omega
        subst hj3
        rw [List.getElem_append_left hij] at h1
        rw [List.getElem_append_right (Nat.le_refl _)] at h2
        simp only [Nat.sub_self, List.getElem_cons_zero] at h2
        exact hne k h2 (.inr ⟨_, List.getElem_mem hij, h1⟩)
    · have hkin : k < w.heap.size ∧ (v.ownBlock = some k → False) := by
        by_cases hlt : i < vs.length
        · rw [List.getElem_append_left hlt] at h1
          exact ⟨(hown.own i hlt (by omega)).lt k h1, fun e => hown.off i hlt k h1 e⟩
        · have hi2 : i = vs.length := by simp at hi; omega
          subst hi2
          rw [List.getElem_append_right (Nat.le_refl _)] at h1
          simp only [Nat.sub_self, List.getElem_cons_zero] at h1
          exact ⟨hu.lt k h1, fun e => hne k h1 (.inl e)⟩
      rcases hbl with e | e
      · exact hkin.2 (e ▸ h2)
      · rw [e] at h2; cases h2; omega
theorem inLV_push {v v' u : Value} {vs : List Value} {k : Nat} (h : inLV v' (vs ++ [u]) k) : v'.ownBlock = some k ∨ inLV v vs k ∨ u.ownBlock = some k := by
  rcases h with h | ⟨x, hx, h⟩
  · exact .inl h
  · rcases List.mem_append.1 hx with h2 | h2
    · exact .inr (.inl (.inr ⟨x, h2, h⟩))
    · simp at h2; subst h2; exact .inr (.inr h)
end
end Go.Proofs.Ytppmfpgpbdjkdaa

namespace Go.Proofs.Ytppmfpgpbdjkdaa
open Go.RowKit

theorem apart_step {iv sv v1 v2 v5 : Value} {vs : List Value} {nr n6 n8 : Nat} (hap : ∀ q, iv.ownBlock = some q → ¬ inLV sv vs q) (hi : ∀ q, iv.ownBlock = some q → q < nr) (hs : ∀ q, inLV sv vs q → q < nr) (h5 : ∀ q, v5.ownBlock = some q → nr ≤ q ∧ q < n6)
    (h1 : v1.ownBlock = iv.ownBlock ∨ v1.ownBlock = some n6) (h2 : v2.ownBlock = sv.ownBlock ∨ v2.ownBlock = some n8) (hn : nr ≤ n6) (hn8 : n6 < n8) : ∀ q, v1.ownBlock = some q → ¬ inLV v2 (vs ++ [v5]) q := by
  intro q hq hin
  have hq1 : (iv.ownBlock = some q) ∨ q = n6 := by
    rcases h1 with e | e
    · exact .inl (e ▸ hq)
    · rw [e] at hq; cases hq; exact .inr rfl
  rcases inLV_push (v := sv) hin with h | h | h
  · rcases h2 with e | e
    · have h3 : sv.ownBlock = some q := e ▸ h
      rcases hq1 with h4 | h4
      · exact hap q h4 (.inl h3)
      · have := hs q (.inl h3); omega
    · rw [e] at h; cases h
      rcases hq1 with h4 | h4
      · have := hi _ h4; omega
      · omega
  · rcases hq1 with h4 | h4
    · exact hap q h4 h
    · have := hs q h; omega
  · have h6 := h5 q h
    rcases hq1 with h4 | h4
    · have := hi _ h4; omega
    · omega
theorem below_stepB {B : Nat} {w X w1 : World} (h : Below B w X) (hB : B ≤ X.heap.size) (hb : Below X.heap.size X w1) : Below B w w1 := h.trans (below_le hb hB)
theorem below_allocB {B : Nat} {w X : World} (h : Below B w X) (hB : B ≤ X.heap.size) (o : Obj) : Below B w (X.alloc o) := h.alloc hB o
theorem ret_vvi {v u : Value} {m m' : Int} (h' : m = m') : Ending.returned (.tuple #[v, u, .int .i64 m]) = Ending.returned (.tuple #[v, u, .int .i64 m']) := by rw [h']

end Go.Proofs.Ytppmfpgpbdjkdaa
