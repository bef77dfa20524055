/- A row's argument that is a slice of slices of numbers. -/
import Derived.Test.YtkhpfjamkkicoaaRowArg
import Derived.Test.YtkhpfjamkkicoaaArL
import Derived.Deep.Slices
namespace Go.Proofs.Ytkhpfjamkkicoaa
open Go.Deep Go.ChangeShapes Go.WideShapes Go.ChangeAt Go.RowKit

theorem cells_sl' : Try.prog.cellsOf 26 = 1 := by kernel_rfl
theorem spot_none {W : World} {a : Addr} {v : Value} (h : W.cell? (a.add 0) = some v) : ∃ g o, a = ⟨g, o, none⟩ := by
  obtain ⟨g, o, spot⟩ := a
  have hsp : spot = none := by
    cases spot with
    | none => rfl
    | some s =>
      exfalso
      unfold World.cell? at h
      simp [Addr.add] at h
      split at h <;> simp_all
  subst hsp
  exact ⟨g, o, rfl⟩
theorem argI_trod {H : Type} {enc : TypeId × Value → H} {W : World} {base : Nat} {sp : Nat → Bool} {held : Bool} {u : Value} {fuel : Nat} {x : DataW H × List MemPlace}
    (hf : DataW.trod enc Try.prog W base sp held fuel 26 [u] = some x) : ∃ zs : List Int, ArgI W u zs := by
  rcases open_ints Try.underlying26 Try.underlying2 cells_i64' hf with ⟨hcs, _⟩ | ⟨a, len, cap, zs, hcs, _, hl, hm, hz, _, hcell, _⟩
  · simp at hcs
    subst hcs
    exact ⟨[], by simp [maxLen], none, 0, rfl, fun hp => absurd hp (by simp)⟩
  · simp at hcs
    subst hcs
    have hlz : len ≤ zs.length := by split at hz <;> omega
    have hlt : (zs.take len).length = len := by simp; omega
    refine ⟨zs.take len, by rw [hlt]; omega, some a, cap, by rw [hlt], fun hp => ?_⟩
    rw [hlt] at hp
    obtain ⟨g, o, rfl⟩ := spot_none (hcell 0 (by omega))
    refine ⟨g, o, rfl, fun i hi => ?_⟩
    rw [hlt] at hi
    have := hcell i (by omega)
    rw [Addr.add_mid] at this
    rw [this]
    simp [List.getD, List.getElem?_eq_getElem (show i < zs.length by omega)]
set_option maxRecDepth 100000 in
theorem open_argL {H : Type} {enc : TypeId × Value → H} {W : World} {r : Reach} {b0 base : Nat} {sp : Nat → Bool} {held : Bool} {v : Value} {d : DataW H} {p : List MemPlace}
    (hv : Value.okWide Try.prog W r b0 34 v) (h : DataW.Trod enc Try.prog W base sp held 34 v d p) : ∃ ps : List (Value × List Int), ArgL W v ps := by
  obtain ⟨oa, len, cap, rfl⟩ := okWide_slice Try.underlying34 hv
  obtain ⟨fuel, hf⟩ := h
  rcases open_slice1 Try.underlying34 cells_sl' hf with ⟨hcs, _⟩ | ⟨a, len', cap', m, n, V, D, Pl, hcs, _, hl, hm, hmm, _, hx⟩
  · simp [Value.cells] at hcs
    obtain ⟨rfl, rfl, rfl⟩ := hcs
    exact ⟨[], by simp [maxLen], ⟨none, 0, rfl, fun hp => absurd hp (by simp)⟩, fun i hi => absurd hi (by simp)⟩
  · simp [Value.cells] at hcs
    obtain ⟨rfl, rfl, rfl⟩ := hcs
    have hlm : len ≤ m := by rw [hmm]; split <;> omega
    have hZ : ∀ i, ∃ zs : List Int, i < len → ArgI W (V i) zs := fun i => by
      by_cases hi : i < len
      · obtain ⟨zs, hz⟩ := argI_trod (hx i (by omega)).2
        exact ⟨zs, fun _ => hz⟩
      · exact ⟨[], fun h => absurd h hi⟩
    have hlt : ((List.range len).map fun i => (V i, Classical.choose (hZ i))).length = len := by simp
    refine ⟨(List.range len).map fun i => (V i, Classical.choose (hZ i)), by rw [hlt]; omega, ⟨some a, cap, by rw [hlt], fun hp => ?_⟩, fun i hi => ?_⟩
    · rw [hlt] at hp
      obtain ⟨g, o, rfl⟩ := spot_none (hx 0 (by omega)).1
      refine ⟨g, o, rfl, fun i hi => ?_⟩
      rw [hlt] at hi
      have := (hx i (by omega)).1
      rw [Addr.add_mid] at this
      rw [this]; simp
    · rw [hlt] at hi
      simpa using Classical.choose_spec (hZ i) hi
end Go.Proofs.Ytkhpfjamkkicoaa
