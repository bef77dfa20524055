/- What the rows' proofs share: the program's own facts, and how arguments are opened. -/
import Derived.Test.YticnpajbefflbadDoorRows
import Derived.Test.YticnpajbefflbadDoorMachU
import Derived.WalkKit
import Derived.ProofKit
import Derived.OpenShut
import Derived.ShutString
import Derived.ChangeOld
import Derived.Below
import Derived.Lib.SmallJoins
import Derived.Test.YticnpajbefflbadDoorArgs
import Derived.ChangeSlices
namespace Go.Proofs.YticnpajbefflbadDoor
open Go.ChangeShapes Go.WideShapes Go.ChangeAt Go.RowKit
theorem own : ownKnob Tryd.prog.godebug = none := by kernel_rfl
theorem laidOut : laidOutB Tryd.prog = true := by kernel_rfl

theorem at_of_cut {l : List Value} {i : Nat} {v : Value} (h : (l.drop i).take 1 = [v]) : l[i]? = some v := by
  have := congrArg (fun l => l[0]?) h
  simpa [List.getElem?_take, List.getElem?_drop] using this

/-- The machine of zeros, written out, for the witness. -/
def machZero : Value := .agg (mc zeroM)
end Go.Proofs.YticnpajbefflbadDoor

namespace Go.Proofs.YticnpajbefflbadDoor
open Go.ChangeShapes Go.WideShapes Go.ChangeAt Go.RowKit

theorem cells_i64' : Tryd.prog.cellsOf 2 = 1 := by kernel_rfl
set_option maxRecDepth 100000 in
theorem open_argI {H : Type} {enc : TypeId × Value → H} {W : World} {r : Reach} {b0 base : Nat} {sp : Nat → Bool} {held : Bool} {v : Value} {d : DataW H} {p : List MemPlace}
    (hv : Value.okWide Tryd.prog W r b0 22 v) (h : DataW.Trod enc Tryd.prog W base sp held 22 v d p) : ∃ zs : List Int, ArgI W v zs := by
  obtain ⟨oa, len, cap, rfl⟩ := okWide_slice Tryd.underlying22 hv
  obtain ⟨fuel, hf⟩ := h
  rcases open_ints Tryd.underlying22 Tryd.underlying2 cells_i64' hf with ⟨hcs, _⟩ | ⟨a, len', cap', zs, hcs, _, hl, hm, hz, _, hcell, _⟩
  · simp [Value.cells] at hcs
    obtain ⟨rfl, rfl, rfl⟩ := hcs
    exact ⟨[], by simp [maxLen], none, 0, rfl, fun hp => absurd hp (by simp)⟩
  · simp [Value.cells] at hcs
    obtain ⟨rfl, rfl, rfl⟩ := hcs
    have hlz : len ≤ zs.length := by split at hz <;> omega
    have hlt : (zs.take len).length = len := by simp; omega
    refine ⟨zs.take len, by rw [hlt]; omega, some a, cap, by rw [hlt], fun hp => ?_⟩
    rw [hlt] at hp
    obtain ⟨g, o, spot⟩ := a
    have h0 := hcell 0 (by omega)
    have hsp : spot = none := by
      cases spot with
      | none => rfl
      | some s =>
        exfalso
        unfold World.cell? at h0
        simp [Addr.add] at h0
        split at h0 <;> simp_all
    subst hsp
    refine ⟨g, o, rfl, fun i hi => ?_⟩
    rw [hlt] at hi
    have := hcell i (by omega)
    rw [Addr.add_mid] at this
    rw [this]
    simp [List.getD, List.getElem?_eq_getElem (show i < zs.length by omega)]
end Go.Proofs.YticnpajbefflbadDoor
