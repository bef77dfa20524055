/- 'CycleType', 'TurnsLevel': the model. -/
import Derived.Test.YticnpajbefflbaaCtI
import Derived.Test.YticnpajbefflbaaFxS
import Derived.Test.YticnpajbefflbaaLedW
import Derived.Test.YticnpajbefflbaaRgA
namespace Go.Proofs.Yticnpajbefflbaa
open Go.RowKit

/-! ### Sorting by insertion -/
def atI (out : List Int) (c : Int) : Nat := out.findIdx fun x => !decide (x ≤ c)
def insI (out : List Int) (c : Int) : List Int := out.take (atI out c) ++ (c :: out.drop (atI out c))
def isrtK (zs : List Int) : Nat → List Int
  | 0 => []
  | k + 1 => insI (isrtK zs k) (zs.getD k 0)
theorem atI_le (out : List Int) (c : Int) : atI out c ≤ out.length := List.findIdx_le_length
theorem atI_low (out : List Int) (c : Int) (j : Nat) (h : j < atI out c) (hj : j < out.length) : out[j] ≤ c := by
  have := List.not_of_lt_findIdx h
  simpa using this
theorem atI_here (out : List Int) (c : Int) (h : atI out c < out.length) : ¬ out[atI out c] ≤ c := by
  have h2 : out.findIdx (fun x => !decide (x ≤ c)) < out.length := h
  have := List.findIdx_getElem (w := h2)
  simpa [atI] using this
theorem insI_len (out : List Int) (c : Int) : (insI out c).length = out.length + 1 := by
  have := atI_le out c
  unfold insI
  rw [List.length_append, List.length_take, List.length_cons, List.length_drop]
  omega
theorem isrtK_len (zs : List Int) : ∀ k, (isrtK zs k).length = k
  | 0 => rfl
  | k + 1 => by rw [isrtK, insI_len, isrtK_len zs k]
def isrt (zs : List Int) : List Int := isrtK zs zs.length
theorem isrt_len (zs : List Int) : (isrt zs).length = zs.length := isrtK_len _ _
theorem SeesI.take {w : World} {g n cap : Nat} {zs : List Int} (h : SeesI w (.slice (some ⟨g, 0, none⟩) n cap) zs) (k : Nat) (hk : k ≤ zs.length) : SeesI w (.slice (some ⟨g, 0, none⟩) k cap) (zs.take k) := by
  refine ⟨by rw [List.length_take]; have := h.1; omega, ?_⟩
  rcases h.2 with ⟨e, _⟩ | ⟨g', cap', c, e, hB, ht⟩
  · cases e
  · simp only [Value.slice.injEq, Option.some.injEq, Addr.mk.injEq] at e
    obtain ⟨⟨rfl, _, _⟩, _, rfl⟩ := e
    refine .inr ⟨g, cap, c, by rw [List.length_take, Nat.min_eq_left hk], hB, ?_⟩
    rw [List.length_take, Nat.min_eq_left hk, List.map_take, ← ht, List.take_take, Nat.min_eq_left hk]
section
variable {w : World} {o : Oper} {a : Act} {K : Act → World → Prop} {Q : Exit → Act → World → Prop}
/-- 'append(out, g[k:]...)' as one operation. -/
theorem wp_join_at (s x : Operand) (ho : o.op = .call { callee := .builtin .append, args := #[s, x], argTypes := #[26, 26] })
    (base : Nat) (v : Value) (zs ys : List Int) (hs : a.eval s = v) (hown : OwnI w base v zs) (g off cap : Nat) (hx : a.eval x = .slice (some ⟨g, off, none⟩) ys.length cap) (hc : ∀ j (hj : j < ys.length), w.cell? ⟨g, off + j, none⟩ = some (.int .i64 ys[j]))
    (hn : zs.length + ys.length ≤ 1048576) (hbase : base ≤ w.heap.size)
    (h : ∀ v' w', OwnI w' base v' (zs ++ ys) → w.grownBy w' v.ownBlock → (v'.ownBlock = v.ownBlock ∨ v'.ownBlock = some w.heap.size) → K (a.put o.dst v') w') : o.wp Try.prog a w K Q := by
  obtain ⟨i0, hi, hz0, hz1, hz2⟩ := info_parts info2
  obtain ⟨v', w', hr, h2, h3, _, h5⟩ := run_append_own_at (P := Try.prog) w base 26 o.type 2 i0 (.int .i64 0) 1 8 Try.underlying26 hi hz0 hz1 hz2 rfl (by decide) v zs.length _ hown ⟨g, off, none⟩ ys.length cap (ys.map (Value.int .i64)) (by simp)
    (fun j u hu => by
      have hj : j < ys.length := by
        have := (List.getElem?_eq_some_iff.1 hu).1
        simpa using this
      rw [List.getElem?_map, List.getElem?_eq_getElem hj] at hu
      simp only [Option.map_some, Option.some.injEq] at hu
      subst hu
      rw [Addr.add_mid]
      exact hc j hj)
    (fun u hu => by obtain ⟨z, _, rfl⟩ := List.mem_map.1 hu; rfl) (by unfold maxLen; omega) (by omega) hbase
  unfold Oper.wp execOp
  simp only [ho, resolve, invoke, builtin, Sem.run_bind, Sem.run_pure, Result.andThen_ok, List.map_toArray, List.map_cons, List.map_nil, hs, hx, hr]
  exact h v' w' (by unfold OwnI; simpa using h2) h3 h5
end
theorem gC_ct {M : Mach} {q n : Int} (h : gC M n [] ≠ 0) : ctC M q n = gC M n [] := by
  unfold gC ctC at *
  cases hm : isMach M
  · simp
  · rw [hm] at h
    simp only [if_true] at h ⊢
    cases hl : gLev M n
    · simp [inK]
    · rw [hl] at h; simp [inK] at h
theorem gC_of_ct {M : Mach} {q n : Int} (h : ctC M q n = 0) : gC M n [] = 0 := by
  by_cases h0 : gC M n [] = 0
  · exact h0
  · rw [gC_ct h0] at h; exact absurd h h0
def ctR (M : Mach) (q n : Int) : List Int := isrt (ctL M q n)
end Go.Proofs.Yticnpajbefflbaa
