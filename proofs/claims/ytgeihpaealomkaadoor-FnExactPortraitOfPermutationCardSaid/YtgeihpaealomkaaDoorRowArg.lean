/- How arguments that are slices of numbers are opened. -/
import Derived.Test.YtgeihpaealomkaaDoorRowKit
import Derived.Test.YtgeihpaealomkaaDoorArgs
import Derived.ChangeSlices
namespace Go.Proofs.YtgeihpaealomkaaDoor
open Go.ChangeShapes Go.WideShapes Go.ChangeAt Go.RowKit

theorem cells_i64' : Tryd.prog.cellsOf 2 = 1 := by kernel_rfl
set_option maxRecDepth 100000 in
theorem open_argI {H : Type} {enc : TypeId × Value → H} {W : World} {r : Reach} {b0 base : Nat} {sp : Nat → Bool} {held : Bool} {v : Value} {d : DataW H} {p : List MemPlace}
    (hv : Value.okWide Tryd.prog W r b0 26 v) (h : DataW.Trod enc Tryd.prog W base sp held 26 v d p) : ∃ zs : List Int, ArgI W v zs := by
  obtain ⟨oa, len, cap, rfl⟩ := okWide_slice Tryd.underlying26 hv
  obtain ⟨fuel, hf⟩ := h
  rcases open_ints Tryd.underlying26 Tryd.underlying2 cells_i64' hf with ⟨hcs, _⟩ | ⟨a, len', cap', zs, hcs, _, hl, hm, hz, _, hcell, _⟩
  · simp [Value.cells] at hcs
    obtain ⟨rfl, rfl, rfl⟩ := hcs
    exact ⟨[], by simp [maxLen], none, 0, rfl, fun hp => absurd hp (by simp)⟩
  · simp [Value.cells] at hcs
    obtain ⟨rfl, rfl, rfl⟩ := hcs
    have hlz : len ≤ zs.length := by split at hz <;> omega
    have hlt : (zs.take len).length = len := by simp; omega
    refine ⟨zs.take len, by rw [hlt]; omega, some a, cap, by rw [hlt], fun hp => ?_⟩
    rw [hlt] at hp
    obtain ⟨g, o, spot⟩ := a
    have h0 := hcell 0 (by omega)
    have hsp : spot = none := by
      cases spot with
      | none => rfl
      | some s =>
        exfalso
        unfold World.cell? at h0
        simp [Addr.add] at h0
        split at h0 <;> simp_all
    subst hsp
    refine ⟨g, o, rfl, fun i hi => ?_⟩
    rw [hlt] at hi
    have := hcell i (by omega)
    rw [Addr.add_mid] at this
    rw [this]
    simp [List.getD, List.getElem?_eq_getElem (show i < zs.length by omega)]
end Go.Proofs.YtgeihpaealomkaaDoor
