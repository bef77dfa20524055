/- Trees of words: plain data; how they lie in memory. -/
import Derived.Test.YticnpajbefflbaaGrK
namespace Go.Proofs.Yticnpajbefflbaa
open Go.RowKit

/-- A word of a tree: its number, the place of the word from which it is met, the step, the distance. -/
structure Ent where
  word : Nat
  par : Nat
  step : Int
  dist : Nat
def ent0 : Ent := ⟨0, 0, 0, 0⟩
def wds (T : List Ent) : List Nat := T.map Ent.word
def toN (p : Int × List Int) (x : Nat) : Nat := (p.2.getD x 0).toNat
def entAt (T : List Ent) (i : Nat) : Ent := T.getD i ent0
/-- The word that one step makes. -/
def newE (i : Nat) (T : List Ent) (p : Int × List Int) : Ent := ⟨toN p (entAt T i).word, i, p.1, (entAt T i).dist + 1⟩
def addT (i : Nat) (T : List Ent) (p : Int × List Int) : List Ent := if toN p (entAt T i).word ∈ wds T then T else T ++ [newE i T p]
def visT (ps : List (Int × List Int)) (i : Nat) (T : List Ent) (j : Nat) : List Ent := (ps.take j).foldl (addT i) T
theorem visT_succ (ps : List (Int × List Int)) (i : Nat) (T : List Ent) (j : Nat) (hj : j < ps.length) : visT ps i T (j + 1) = addT i (visT ps i T j) ps[j] := by
  unfold visT
  rw [List.take_succ_eq_append_getElem hj, List.foldl_append]
  rfl
def growT (ps : List (Int × List Int)) : Nat → Nat → List Ent → List Ent
  | 0, _, T => T
  | f + 1, i, T => if i < T.length then growT ps f (i + 1) (visT ps i T ps.length) else T
def treeT (ps : List (Int × List Int)) (N k : Nat) : List Ent := growT ps (N + 1) 0 [⟨k, 0, 0, 0⟩]
/-- Tables of a level with N words. -/
def TabsOk (N : Nat) (ps : List (Int × List Int)) : Prop := ∀ p ∈ ps, p.2.length = N ∧ (∀ x, x < N → 0 ≤ p.2.getD x 0 ∧ (p.2.getD x 0).toNat < N) ∧ -16 ≤ p.1 ∧ p.1 ≤ 16
/-- What trees are good for. -/
structure TOk (N : Nat) (T : List Ent) : Prop where
  nodup : (wds T).Nodup
  lt : ∀ e ∈ T, e.word < N
  par : ∀ i, 0 < i → i < T.length → (entAt T i).par < i
  dist : ∀ i, i < T.length → (entAt T i).dist ≤ i
  step : ∀ e ∈ T, -16 ≤ e.step ∧ e.step ≤ 16
theorem few_below (n : Nat) : ∀ l : List Nat, l.Nodup → (∀ x ∈ l, x < n) → l.length ≤ n := by
  induction n with
  | zero =>
    intro l _ h
    rcases l with _ | ⟨a, l⟩
    · exact Nat.le_refl _
    · exact absurd (h a (List.mem_cons_self ..)) (Nat.not_lt_zero a)
  | succ n ih =>
    intro l hd h
    have key : (l.erase n).length ≤ n := ih _ (hd.erase n) fun x hx => by
      have h1 := (hd.mem_erase_iff).1 hx
      have := h x h1.2
      have := h1.1
      omega
    rw [List.length_erase] at key
    split at key <;> omega
theorem TOk.len {N : Nat} {T : List Ent} (h : TOk N T) : T.length ≤ N := by
  have h1 : (wds T).length ≤ N := few_below N _ h.nodup fun x hx => by
    obtain ⟨e, he, rfl⟩ := List.mem_map.1 hx
    exact h.lt e he
  unfold wds at h1
  rwa [List.length_map] at h1
theorem entAt_get {T : List Ent} {i : Nat} (hi : i < T.length) : entAt T i = T[i] := by simp [entAt, List.getD, List.getElem?_eq_getElem hi]
theorem entAt_mem {T : List Ent} {i : Nat} (hi : i < T.length) : entAt T i ∈ T := by rw [entAt_get hi]; exact List.getElem_mem hi
theorem entAt_left {T : List Ent} {e : Ent} {i : Nat} (hi : i < T.length) : entAt (T ++ [e]) i = entAt T i := by
  rw [entAt_get hi, entAt_get (by simp; omega), List.getElem_append_left hi]
theorem entAt_last (T : List Ent) (e : Ent) : entAt (T ++ [e]) T.length = e := by
  rw [entAt_get (by simp), List.getElem_append_right (Nat.le_refl _)]
  simp
theorem TOk.first {N k : Nat} (hk : k < N) : TOk N [⟨k, 0, 0, 0⟩] :=
  ⟨by simp [wds], fun e he => by rw [List.mem_singleton.1 he]; exact hk, fun i h1 h2 => by simp at h2; omega, fun i h => by
    have : i = 0 := by simp at h; omega
    subst this
    exact Nat.le_refl _, fun e he => by rw [List.mem_singleton.1 he]; exact ⟨by show (-16:Int) ≤ 0; omega, by show (0:Int) ≤ 16; omega⟩⟩
theorem TOk.add {N : Nat} {T : List Ent} {ps : List (Int × List Int)} (h : TOk N T) (hp : TabsOk N ps) {p : Int × List Int} (hm : p ∈ ps) {i : Nat} (hi : i < T.length) (hn : toN p (entAt T i).word ∉ wds T) : TOk N (T ++ [newE i T p]) := by
  obtain ⟨p1, p2, p3⟩ := hp p hm
  have hw : toN p (entAt T i).word < N := (p2 _ (h.lt _ (entAt_mem hi))).2
  refine ⟨?_, fun e he => ?_, fun j h1 h2 => ?_, fun j h2 => ?_, fun e he => ?_⟩
  · unfold wds
    rw [List.map_append, List.nodup_append]
    refine ⟨h.nodup, by simp, fun a ha b hb => ?_⟩
    simp only [List.map_cons, List.map_nil, List.mem_singleton] at hb
    subst hb
    intro e
    rw [e] at ha
    exact hn ha
  · rcases List.mem_append.1 he with he | he
    · exact h.lt e he
    · rw [List.mem_singleton.1 he]; exact hw
  · by_cases hj : j < T.length
    · rw [entAt_left hj]; exact h.par j h1 hj
    · have : j = T.length := by simp at h2; omega
      subst this
      rw [entAt_last]
      exact hi
  · by_cases hj : j < T.length
    · rw [entAt_left hj]; exact h.dist j hj
    · have : j = T.length := by simp at h2; omega
      subst this
      rw [entAt_last]
      have := h.dist i hi
      show (entAt T i).dist + 1 ≤ T.length
      omega
  · rcases List.mem_append.1 he with he | he
    · exact h.step e he
    · rw [List.mem_singleton.1 he]; exact p3
theorem TOk.addT {N : Nat} {T : List Ent} {ps : List (Int × List Int)} (h : TOk N T) (hp : TabsOk N ps) {p : Int × List Int} (hm : p ∈ ps) {i : Nat} (hi : i < T.length) : TOk N (addT i T p) ∧ T.length ≤ (Go.Proofs.Yticnpajbefflbaa.addT i T p).length := by
  unfold Go.Proofs.Yticnpajbefflbaa.addT
  split
  · exact ⟨h, Nat.le_refl _⟩
  · rename_i hn
    exact ⟨h.add hp hm hi hn, by simp⟩
theorem TOk.vis {N : Nat} {T : List Ent} {ps : List (Int × List Int)} (h : TOk N T) (hp : TabsOk N ps) {i : Nat} (hi : i < T.length) : ∀ j, j ≤ ps.length → TOk N (visT ps i T j) ∧ T.length ≤ (visT ps i T j).length
  | 0, _ => ⟨by simpa [visT] using h, by simp [visT]⟩
  | j + 1, hj => by
    obtain ⟨h1, h2⟩ := TOk.vis h hp hi j (by omega)
    rw [visT_succ ps i T j (by omega)]
    obtain ⟨h3, h4⟩ := h1.addT hp (List.getElem_mem (show j < ps.length by omega)) (i := i) (by omega)
    exact ⟨h3, by omega⟩
theorem growT_end (ps : List (Int × List Int)) (f i : Nat) (T : List Ent) (h : ¬ i < T.length) : growT ps (f + 1) i T = T := by simp [growT, h]
theorem growT_next (ps : List (Int × List Int)) (f i : Nat) (T : List Ent) (h : i < T.length) : growT ps (f + 1) i T = growT ps f (i + 1) (visT ps i T ps.length) := by simp [growT, h]
theorem vis_len (ps : List (Int × List Int)) (i : Nat) (T : List Ent) : ∀ j, j ≤ ps.length → T.length ≤ (visT ps i T j).length ∧ ∀ a, a < T.length → entAt (visT ps i T j) a = entAt T a
  | 0, _ => ⟨by simp [visT], fun a _ => by simp [visT]⟩
  | j + 1, hj => by
    obtain ⟨h1, h2⟩ := vis_len ps i T j (by omega)
    rw [visT_succ ps i T j (by omega)]
    unfold addT
    split
    · exact ⟨h1, h2⟩
    · exact ⟨by simp; omega, fun a ha => by rw [entAt_left (by omega)]; exact h2 a ha⟩
theorem grow_more (ps : List (Int × List Int)) : ∀ f i T, T.length ≤ (growT ps f i T).length
  | 0, _, _ => Nat.le_refl _
  | f + 1, i, T => by
    unfold growT
    split
    · exact Nat.le_trans (vis_len ps i T ps.length (Nat.le_refl _)).1 (grow_more ps f (i + 1) _)
    · exact Nat.le_refl _
theorem TabsOk.to {N : Nat} {ps : List (Int × List Int)} (h : TabsOk N ps) (j : Nat) (hj : j < ps.length) (x : Nat) (hx : x < N) : ∃ hx' : x < ps[j].2.length, ps[j].2[x] = ((toN ps[j] x : Nat) : Int) ∧ toN ps[j] x < N := by
  obtain ⟨h1, h2, _⟩ := h ps[j] (List.getElem_mem hj)
  refine ⟨by omega, ?_, (h2 x hx).2⟩
  unfold toN
  rw [Int.toNat_of_nonneg (h2 x hx).1]
  simp [List.getD, List.getElem?_eq_getElem (show x < ps[j].2.length by omega)]

/-! ### In memory -/
def ptr (b : Nat) : Value := .pointer (some ⟨b, 0, none⟩)
def ptrs (bs : List Nat) : List Value := bs.map ptr
/-- The cells of a node. -/
def nodeC (bs : List Nat) (T : List Ent) (i : Nat) : Array Value :=
  #[.int .i64 (entAt T i).word, if i = 0 then .pointer none else ptr (bs.getD (entAt T i).par 0), .int .i64 (entAt T i).step, .int .i64 (entAt T i).dist]
/-- Where the node of a word lies. -/
def nodeP (T : List Ent) (bs : List Nat) (x : Nat) : Value := .pointer ((bs[(wds T).idxOf x]?).map fun b => ⟨b, 0, none⟩)
def nodesC (N : Nat) (T : List Ent) (bs : List Nat) : Array Value := ((List.range N).map (nodeP T bs)).toArray
theorem nodesC_size (N : Nat) (T : List Ent) (bs : List Nat) : (nodesC N T bs).size = N := by simp [nodesC]
theorem nodesC_at (N : Nat) (T : List Ent) (bs : List Nat) (x : Nat) (hx : x < N) : (nodesC N T bs)[x]? = some (nodeP T bs x) := by simp [nodesC, List.getElem?_range hx]
theorem nodesC_nil (N : Nat) : nodesC N [] [] = (List.replicate N (Value.pointer none)).toArray := by
  unfold nodesC
  congr 1
  apply List.ext_getElem
  · simp
  · intro i h1 h2
    simp [nodeP]
theorem nodeP_in {T : List Ent} {bs : List Nat} {x : Nat} (hb : (wds T).idxOf x < bs.length) : nodeP T bs x = ptr bs[(wds T).idxOf x] := by
  unfold nodeP ptr
  rw [List.getElem?_eq_getElem hb]
  rfl
theorem nodeP_out {T : List Ent} {bs : List Nat} {x : Nat} (hl : bs.length = T.length) (hx : x ∉ wds T) : nodeP T bs x = .pointer none := by
  unfold nodeP
  rw [List.idxOf_eq_length hx, List.getElem?_eq_none (by rw [hl]; simp [wds])]
  rfl
theorem nodesC_add (N : Nat) (T : List Ent) (bs : List Nat) (e : Ent) (b : Nat) (hl : bs.length = T.length) (hn : e.word ∉ wds T) : (nodesC N T bs).setIfInBounds e.word (ptr b) = nodesC N (T ++ [e]) (bs ++ [b]) := by
  have hw : (wds T).length = T.length := by simp [wds]
  have hwa : wds (T ++ [e]) = wds T ++ [e.word] := by simp [wds]
  apply Array.ext_getElem?
  intro i
  rw [Array.getElem?_setIfInBounds, nodesC_size]
  by_cases hi : i < N
  · rw [nodesC_at _ _ _ _ hi, nodesC_at _ _ _ _ hi]
    by_cases h : e.word = i
    · rw [if_pos h, if_pos (by omega)]
      subst h
      congr 1
      unfold nodeP ptr
      rw [hwa, List.idxOf_append, if_neg hn, List.idxOf_cons_self, Nat.zero_add, hw, ← hl, List.getElem?_append_right (Nat.le_refl _), Nat.sub_self]
      rfl
    · rw [if_neg h]
      congr 1
      unfold nodeP
      rw [hwa, List.idxOf_append]
      by_cases hm : i ∈ wds T
      · rw [if_pos hm, List.getElem?_append_left (by rw [hl, ← hw]; exact List.idxOf_lt_length_of_mem hm)]
      · rw [if_neg hm, List.idxOf_eq_length hm, List.getElem?_eq_none (by omega), List.getElem?_eq_none]
        rw [List.idxOf_cons, show (e.word == i) = false by simpa using h]
        simp
        omega
  · rw [Array.getElem?_eq_none (by rw [nodesC_size]; omega), Array.getElem?_eq_none (by rw [nodesC_size]; omega)]
    split
    · rw [if_neg (by omega)]
    · rfl
def trFoot (t gn : Nat) (qv : Value) (bs : List Nat) (k : Nat) : Prop := k = t ∨ k = gn ∨ qv.ownBlock = some k ∨ k ∈ bs
section
variable {w w1 : World} {base t N : Nat} {T : List Ent} {bs : List Nat} {gn : Nat} {qv : Value}
end
/-- What a tree's growth leaves alone. -/
def KeepsT (t gn : Nat) (qv : Value) (w w' : World) : Prop := ∀ k, k < w.heap.size → k ≠ t → k ≠ gn → qv.ownBlock ≠ some k → w'.heap[k]? = w.heap[k]?
end Go.Proofs.Yticnpajbefflbaa
