/- Slices of bytes of the call's own, as lists of numbers; slices of arrays of bytes, as flat lists. -/
import Derived.Test.YtliohokcjgcmhaaMarks
import Derived.Test.YtliohokcjgcmhaaHeldK
import Derived.Test.YtliohokcjgcmhaaArgs
import Derived.Maps.AppendAt
namespace Go.Proofs.Ytliohokcjgcmhaa
open Go.RowKit

/-- Letters of the call's own, as numbers. -/
def OwnN (w : World) (base : Nat) (v : Value) (ks : List Nat) : Prop := w.ownsRow base 5 1 v ks.length (ks.map fun (k : Nat) => Value.int .u8 (k : Int))
theorem OwnN.below {w w1 : World} {base : Nat} {v : Value} {ks : List Nat} (h : OwnN w base v ks) (hb : Below w.heap.size w w1) : OwnN w1 base v ks := owns_below h hb
theorem OwnN.lt {w : World} {base : Nat} {v : Value} {ks : List Nat} (h : OwnN w base v ks) : ∀ k, v.ownBlock = some k → base ≤ k ∧ k < w.heap.size := World.ownsRow.lt h
theorem OwnN.base_le {w : World} {base b : Nat} {v : Value} {ks : List Nat} (h : OwnN w base v ks) (hb : b ≤ base) : OwnN w b v ks := by
  refine ⟨h.1, ?_⟩
  rcases h.2 with h2 | ⟨g, cap, cur, hv, hg, r⟩
  · exact Or.inl h2
  · exact Or.inr ⟨g, cap, cur, hv, Nat.le_trans hb hg, r⟩
theorem OwnN.first {w : World} {base g x : Nat} (hg : base ≤ g) (hB : Blk w g #[.int .u8 (x : Int)] 5) : OwnN w base (.slice (some ⟨g, 0, none⟩) 1 1) [x] :=
  ⟨by simp, .inr ⟨g, 1, _, rfl, hg, hB, by simp, by unfold maxLen; omega, by simp, by simp⟩⟩
theorem OwnN.view {w : World} {base : Nat} {v : Value} {ks : List Nat} (h : OwnN w base v ks) (h0 : 0 < ks.length) : ∃ g cap cur, v = .slice (some ⟨g, 0, none⟩) ks.length cap ∧ base ≤ g ∧ Blk w g cur 5 ∧ ∀ i (hi : i < ks.length), cur[i]? = some (.int .u8 (ks[i] : Int)) := by
  rcases h.2 with ⟨rfl, e⟩ | ⟨g, cap, cur, rfl, hg, hB, hc, hm, hs, ht⟩
  · omega
  · refine ⟨g, cap, cur, rfl, hg, hB, fun i hi => ?_⟩
    have := congrArg (fun l => l[i]?) ht
    simp only [List.getElem?_take] at this
    rw [if_pos (by omega)] at this
    simpa [List.getElem?_eq_getElem hi] using this
def lenOfV : Value → Nat
  | .slice _ n _ => n
  | _ => 0
section
variable {ops : Array Oper} {rest : List Oper} {o : Oper} {a : Act} {w : World} {Q : Exit → Act → World → Prop}
theorem wpList_push_letter (ty : TypeId) (hty : Try.prog.underlying ty = some (.slice 5)) (hgd : o.guard = none) (s x : Operand) (ho : o.op = .call { callee := .builtin .append, args := #[s, x], argTypes := #[ty, ty] })
    (base : Nat) (v : Value) (ks : List Nat) (hs : a.eval s = v) (hown : OwnN w base v ks) (g c y : Nat) (hx : a.eval x = .slice (some ⟨g, 0, none⟩) 1 c) (hB : Blk w g #[.int .u8 (y : Int)] 5)
    (hn : ks.length + 1 ≤ 1048576) (hbase : base ≤ w.heap.size)
    (h : ∀ v' w', OwnN w' base v' (ks ++ [y]) → Below base w w' → (∀ k, k < w.heap.size → some k ≠ v.ownBlock → w'.heap[k]? = w.heap[k]?) → wpList Try.prog ops Q rest (a.put o.dst v') w') : wpList Try.prog ops Q (o :: rest) a w := by
  obtain ⟨i0, hi, hz0, hz1, hz2⟩ := info_parts info5
  refine wpList_append_own _ hgd s x ty ho base 5 i0 (.int .u8 0) 1 1 hty hi hz0 hz1 hz2 rfl (by decide) v ks.length _ hs hown ⟨g, 0, none⟩ 1 c [.int .u8 (y : Int)] hx rfl
    (fun j u hu => ?_) (fun u hu => ?_) (by unfold maxLen; omega) (by omega) hbase (fun v' w' hown' hg _ => h v' w' ?_ (below_grown hown hg hbase) hg.block)
  · match j, hu with
    | 0, hu => simp at hu; subst hu; simpa [Addr.add] using hB.cell 0
  · simp at hu; subst hu; rfl
  · unfold OwnN; simpa using hown'
end

theorem rowKept {w w1 : World} {base e size n : Nat} {v : Value} {xs : List Value} (h : w.ownsRow base e size v n xs) (hs : ∀ k, v.ownBlock = some k → w1.heap[k]? = w.heap[k]?) : w1.ownsRow base e size v n xs := by
  refine ⟨h.1, ?_⟩
  rcases h.2 with h2 | ⟨g, cap, cur, hv, hg, hh, r⟩
  · exact Or.inl h2
  · exact Or.inr ⟨g, cap, cur, hv, hg, by rw [hs g (by rw [hv]; rfl)]; exact hh, r⟩
theorem OwnN.same {w w1 : World} {base : Nat} {v : Value} {ks : List Nat} (h : OwnN w base v ks) (hs : ∀ k, v.ownBlock = some k → w1.heap[k]? = w.heap[k]?) : OwnN w1 base v ks := rowKept h hs
theorem OwnN.made {w : World} {base g : Nat} {c : Array Value} {ks : List Nat} (hg : base ≤ g) (hB : Blk w g c 5) (hc : c = (ks.map fun (k : Nat) => Value.int .u8 (k : Int)).toArray) (hn : ks.length ≤ 1048576) : OwnN w base (.slice (some ⟨g, 0, none⟩) ks.length ks.length) ks :=
  ⟨by simp, .inr ⟨g, ks.length, _, rfl, hg, hB, by simp, by unfold maxLen; omega, by subst hc; simp, by subst hc; rw [List.take_of_length_le (by simp)]⟩⟩

/-- A slice of the call's own whose elements are k bytes. -/
def OwnF (T : TypeId) (k : Nat) (w : World) (base : Nat) (v : Value) (n : Nat) (fl : List Int) : Prop := fl.length = k * n ∧ w.ownsRow base T k v n (fl.map (Value.int .u8))
section
variable {T : TypeId} {k : Nat} {w w1 : World} {base : Nat} {v : Value} {n : Nat} {fl : List Int}
theorem OwnF.nil (T : TypeId) (k : Nat) (w : World) (base : Nat) : OwnF T k w base (.slice none 0 0) 0 [] := ⟨by simp, World.ownsRow_nil w base _ _⟩
theorem OwnF.ltt (h : OwnF T k w base v n fl) : ∀ b, v.ownBlock = some b → base ≤ b ∧ b < w.heap.size := World.ownsRow.lt h.2
theorem OwnF.same (h : OwnF T k w base v n fl) (hs : ∀ b, v.ownBlock = some b → w1.heap[b]? = w.heap[b]?) : OwnF T k w1 base v n fl := ⟨h.1, rowKept h.2 hs⟩
theorem OwnF.below (h : OwnF T k w base v n fl) (hb : Below w.heap.size w w1) : OwnF T k w1 base v n fl := h.same fun b hk => hb.block b (h.ltt b hk).2
theorem OwnF.base_le {b : Nat} (h : OwnF T k w base v n fl) (hb : b ≤ base) : OwnF T k w b v n fl := by
  obtain ⟨hn, h1, h2⟩ := h
  refine ⟨hn, h1, ?_⟩
  rcases h2 with h2 | ⟨g, cap, cur, hv, hg, r⟩
  · exact Or.inl h2
  · exact Or.inr ⟨g, cap, cur, hv, Nat.le_trans hb hg, r⟩
theorem OwnF.view (h : OwnF T k w base v n fl) : ∃ oa cap, v = .slice oa n cap ∧ (0 < n → ∃ g cur, oa = some ⟨g, 0, none⟩ ∧ base ≤ g ∧ Blk w g cur T ∧ ∀ i (hi : i < fl.length), cur[i]? = some (.int .u8 fl[i])) := by
  obtain ⟨hn, h1, h2⟩ := h
  rcases h2 with ⟨rfl, h0⟩ | ⟨g, cap, cur, rfl, hg, hB, hc, hm, hs, ht⟩
  · exact ⟨none, 0, by rw [h0], fun h => absurd h (by omega)⟩
  · refine ⟨_, cap, rfl, fun _ => ⟨g, cur, rfl, hg, hB, fun i hi => ?_⟩⟩
    have := congrArg (fun l => l[i]?) ht
    simp only [List.getElem?_take] at this
    rw [if_pos (by rw [hn] at hi; rw [Nat.mul_comm] at hi; omega)] at this
    simpa [List.getElem?_eq_getElem hi] using this
end

/-- What lies beside one footprint stays, and lies beside the next one. -/
def Keeps (f f' : Nat → Prop) (w w' : World) : Prop := w.heap.size ≤ w'.heap.size ∧ ∀ k, k < w.heap.size → ¬ f k → w'.heap[k]? = w.heap[k]? ∧ ¬ f' k
theorem Keeps.trans {f1 f2 f3 : Nat → Prop} {a b c : World} (h : Keeps f1 f2 a b) (k : Keeps f2 f3 b c) : Keeps f1 f3 a c :=
  ⟨Nat.le_trans h.1 k.1, fun i hi hn => by
    obtain ⟨e1, n1⟩ := h.2 i hi hn
    obtain ⟨e2, n2⟩ := k.2 i (Nat.lt_of_lt_of_le hi h.1) n1
    exact ⟨e2.trans e1, n2⟩⟩
theorem Keeps.of_below {f : Nat → Prop} {a b : World} (h : Below a.heap.size a b) : Keeps f f a b := ⟨h.size, fun k hk hn => ⟨h.block k hk, hn⟩⟩
theorem Keeps.refl (f : Nat → Prop) (a : World) : Keeps f f a a := ⟨Nat.le_refl _, fun _ _ h => ⟨rfl, h⟩⟩
end Go.Proofs.Ytliohokcjgcmhaa
