/- The lengths of the cycles of a list of numbers: plain data; the program and the model. -/
import Derived.Test.YticnpajbefflbabBls
import Derived.Test.YticnpajbefflbabArgs
import Derived.Test.YticnpajbefflbabBase
import Derived.Test.YticnpajbefflbabLaws
namespace Go.Proofs.Yticnpajbefflbab
open Go.RowKit

/-- The cycle from a number, step for step: what is met, and where one is. -/
def wk (zs : List Int) (met : List Bool) (i : Nat) : Nat → List Bool × Nat
  | 0 => (met, i)
  | j + 1 => ((wk zs met i j).1.set (wk zs met i j).2 true, (zs.getD (wk zs met i j).2 0).toNat)
def stopB (zs : List Int) (met : List Bool) (i j : Nat) : Bool := (wk zs met i j).1.getD (wk zs met i j).2 true
def cycJ (zs : List Int) (met : List Bool) (i : Nat) : Nat := (List.range (met.length + 1)).findIdx (stopB zs met i)
def cs (zs : List Int) : Nat → List Bool × List Int
  | 0 => (List.replicate zs.length false, [])
  | k + 1 => ((wk zs (cs zs k).1 k (cycJ zs (cs zs k).1 k)).1, if cycJ zs (cs zs k).1 k = 0 then (cs zs k).2 else (cs zs k).2 ++ [(cycJ zs (cs zs k).1 k : Int)])
def cycL (zs : List Int) : List Int := (cs zs zs.length).2
/-- Numbers below the list's length. -/
def inB (zs : List Int) : Prop := ∀ p, p < zs.length → 0 ≤ zs.getD p 0 ∧ (zs.getD p 0).toNat < zs.length
theorem wk_ok (zs : List Int) (hz : inB zs) (met : List Bool) (i : Nat) (hm : met.length = zs.length) (hi : i < zs.length) : ∀ j, (wk zs met i j).1.length = zs.length ∧ (wk zs met i j).2 < zs.length
  | 0 => ⟨hm, hi⟩
  | j + 1 => by
    obtain ⟨h1, h2⟩ := wk_ok zs hz met i hm hi j
    exact ⟨by simp [wk, h1], (hz _ h2).2⟩
theorem count_set (l : List Bool) : ∀ (i : Nat), l.getD i true = false → (l.set i true).count false + 1 = l.count false := by
  induction l with
  | nil => intro i h; simp at h
  | cons b l ih =>
    intro i h
    cases i with
    | zero =>
      simp at h
      subst h
      simp
    | succ i =>
      have := ih i (by simpa using h)
      rw [List.set_cons_succ, List.count_cons, List.count_cons]
      omega
theorem stop_some (zs : List Int) (met : List Bool) (i : Nat) (hm : met.length = zs.length) : ∃ j, j ≤ zs.length ∧ stopB zs met i j = true := by
  by_cases h : ∃ j, j ≤ zs.length ∧ stopB zs met i j = true
  · exact h
  exfalso
  have hno : ∀ j, j ≤ zs.length → stopB zs met i j = false := fun j hj => by
    cases hb : stopB zs met i j
    · rfl
    · exact absurd ⟨j, hj, hb⟩ h
  have hc : ∀ j, j ≤ zs.length + 1 → (wk zs met i j).1.count false + j = met.count false := by
    intro j
    induction j with
    | zero => intro _; rfl
    | succ j ih =>
      intro hj
      have h1 := count_set (wk zs met i j).1 (wk zs met i j).2 (hno j (by omega))
      have h2 := ih (by omega)
      simp only [wk]
      omega
  have := hc (zs.length + 1) (Nat.le_refl _)
  have := List.count_le_length (a := false) (l := met)
  omega
theorem cycJ_ok (zs : List Int) (met : List Bool) (i : Nat) (hm : met.length = zs.length) : cycJ zs met i ≤ zs.length ∧ stopB zs met i (cycJ zs met i) = true ∧ ∀ j, j < cycJ zs met i → stopB zs met i j = false := by
  obtain ⟨j0, hj0, hs⟩ := stop_some zs met i hm
  have hlt : cycJ zs met i < (List.range (met.length + 1)).length := by
    unfold cycJ
    exact List.findIdx_lt_length_of_exists ⟨j0, by simp; omega, hs⟩
  refine ⟨by simp at hlt; omega, ?_, fun j hj => ?_⟩
  · have hlt2 : (List.range (met.length + 1)).findIdx (stopB zs met i) < (List.range (met.length + 1)).length := hlt
    have := List.findIdx_getElem (w := hlt2)
    rw [List.getElem_range] at this
    exact this
  · have := List.not_of_lt_findIdx hj
    simpa using this
theorem cs_ok (zs : List Int) (hz : inB zs) : ∀ k, k ≤ zs.length → (cs zs k).1.length = zs.length ∧ (cs zs k).2.length ≤ k
  | 0, _ => by simp [cs]
  | k + 1, hk => by
    obtain ⟨h1, h2⟩ := cs_ok zs hz k (by omega)
    refine ⟨(wk_ok zs hz _ k h1 (by omega) _).1, ?_⟩
    simp only [cs]
    split
    · omega
    · simp; omega
theorem info_bool : (Try.prog.info? 4).map (fun i => (i.zero, i.size, i.bytes)) = some (some (.bool false), 1, 1) := by kernel_rfl
theorem made_bls (n : Nat) : madeCells (Value.bool false).cells n = bls (List.replicate n false) := by
  apply Array.ext
  · simp [madeCells, bls]
  · intro i h1 h2
    simp [madeCells, Value.cells, Nat.mod_one, bls]
theorem mk_bls (n : Nat) (hn : n ≤ 1048576) (W : World) : (Instr.makeSlice 78 (.int .i64 n) (.int .i64 n)).run Try.prog W = .ok (.slice (some ⟨W.heap.size, 0, none⟩) n n) (W.alloc (.cells (bls (List.replicate n false)) 4)) := by
  obtain ⟨i0, hi, hz0, hz1, hz2⟩ := info_parts info_bool
  have := run_make (P := Try.prog) W 78 4 i0 (.bool false) Try.underlying78 hi hz0 .i64 .i64 n n (by omega) (by omega) (by rw [hz2]; omega) (by omega)
  rwa [hz1, Int.toNat_natCast, Nat.mul_one, made_bls] at this
theorem bls_at (l : List Bool) (i : Nat) (hi : i < l.length) : (bls l)[i]? = some (.bool (l.getD i true)) := by
  simp [bls, List.getD, List.getElem?_eq_getElem hi]

end Go.Proofs.Yticnpajbefflbab
