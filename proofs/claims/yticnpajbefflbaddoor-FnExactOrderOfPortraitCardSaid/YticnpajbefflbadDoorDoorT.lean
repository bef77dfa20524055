/- The tables of permutations: what the row's condition on the package's variables gives the walks. -/
import Derived.Test.YticnpajbefflbadDoorRows
import Derived.Test.YticnpajbefflbadDoorRowArg
import Derived.Test.YticnpajbefflbadDoorBase
import Derived.LaidMore
import Derived.OpenShut
import Derived.OpenVars
import Derived.Lib.LaidTab
namespace Go.Proofs.YticnpajbefflbadDoor
open Go.ChangeShapes Go.WideShapes Go.ChangeAt Go.RowKit

/-- An array of rows of three bytes that reads as a table holds the table's numbers, cell for cell. -/
theorem cells_of_rows {H : Type} {enc : TypeId × Value → H} {P : Program} {w : World} {base : Nat} {sp : Nat → Bool} {held : Bool} {fuel : Nat} {t e u : TypeId} {n : Nat} {cs : List Value} {rows : List (List Int)} {p : List MemPlace}
    (ht : P.underlying t = some (.array n e)) (he : P.underlying e = some (.array 3 u)) (hu : P.underlying u = some (.int .u8)) (hcu : P.cellsOf u = 1) (hce : P.cellsOf e = 3) (h3 : ∀ r ∈ rows, r.length = 3)
    (h : DataW.trod enc P w base sp held fuel t cs = some (.agg (rows.map (Lib.tabData .u8)), p)) : rows.length = n ∧ ∀ i j, i < n → j < 3 → cs[i * 3 + j]? = some (.int .u8 ((rows.getD i []).getD j 0)) := by
  obtain ⟨xs, m, _, hx, _, hn, hel⟩ := DataW.trod_array ht h
  simp only [Prod.mk.injEq, DataW.agg.injEq] at hx
  have hl : rows.length = n := by
    have := congrArg List.length hx.1
    simpa [hn] using this
  refine ⟨hl, fun i j hi hj => ?_⟩
  have h1 := hel i hi
  rw [hce] at h1
  obtain ⟨x, hxi⟩ : ∃ x, xs[i]? = some x := ⟨xs[i], List.getElem?_eq_getElem (by omega)⟩
  rw [hxi] at h1
  have hri : rows[i]? = some rows[i] := List.getElem?_eq_getElem (by omega)
  have h2 : x.1 = Lib.tabData .u8 rows[i] := by
    have := congrArg (fun l => l[i]?) hx.1
    simp only [List.getElem?_map, hri, hxi, Option.map_some] at this
    exact (Option.some.inj this).symm
  obtain ⟨x1, x2⟩ := x
  simp only at h2
  subst h2
  have h3' := Lib.cells_of_tab he hu hcu hce h1
  have h4 := congrArg (fun l => l[j]?) h3'
  simp only [List.getElem?_take, List.getElem?_drop, hj, if_true, List.getElem?_map] at h4
  rw [h4]
  have hr3 := h3 _ (List.getElem_mem (show i < rows.length by omega))
  rw [List.getElem?_eq_getElem (by omega)]
  simp [List.getD, hri, List.getElem?_eq_getElem (show j < rows[i].length by omega)]

def tabTwo : List (List Int) := [[0, 1, 2], [1, 0, 2]]
def tabThree : List (List Int) := [[0, 1, 2], [0, 2, 1], [1, 0, 2], [1, 2, 0], [2, 0, 1], [2, 1, 0]]
/-- The tables lie where the program's text lays them. -/
def TabsAt (w : World) : Prop := (∀ i j, i < 2 → j < 3 → w.cell? ⟨0, i * 3 + j, none⟩ = some (.int .u8 ((tabTwo.getD i []).getD j 0))) ∧ (∀ i j, i < 6 → j < 3 → w.cell? ⟨1, i * 3 + j, none⟩ = some (.int .u8 ((tabThree.getD i []).getD j 0)))
theorem TabsAt.many {w : World} (h : TabsAt w) : 1 < w.heap.size := World.block_lt_of_cell? w ⟨1, 0, none⟩ (h.2 0 0 (by omega) (by omega))
theorem TabsAt.below {w w' : World} (h : TabsAt w) (hb : Below w.heap.size w w') : TabsAt w' := by
  have hm := h.many
  have go : ∀ b i, b ≤ 1 → w'.cell? ⟨b, i, none⟩ = w.cell? ⟨b, i, none⟩ := fun b i hb' => by
    unfold World.cell?
    rw [hb.block b (by omega)]
  exact ⟨fun i j hi hj => by rw [go 0 _ (by omega)]; exact h.1 i j hi hj, fun i j hi hj => by rw [go 1 _ (by omega)]; exact h.2 i j hi hj⟩
def laidTabs : List (String × DataW Unit) := [("loop.example/g01244/impl.permutationsOfTwo", Rows.laid_loop_example_g01244_impl_permutationsOfTwo), ("loop.example/g01244/impl.permutationsOfThree", Rows.laid_loop_example_g01244_impl_permutationsOfThree)]
theorem gTwo : Tryd.prog.globalNamed "loop.example/g01244/impl.permutationsOfTwo" = some 0 := by kernel_rfl
theorem gThree : Tryd.prog.globalNamed "loop.example/g01244/impl.permutationsOfThree" = some 1 := by kernel_rfl
theorem tTwo : (Tryd.prog.globals[0]?).map (·.type) = some 58 := by kernel_rfl
theorem tThree : (Tryd.prog.globals[1]?).map (·.type) = some 59 := by kernel_rfl
theorem tabs_of {W : World} (h : laidMetH Tryd.prog laidTabs W) : TabsAt W := by
  rw [MakeChecks.laidMetH_plain _ _ _ (by kernel_rfl)] at h
  obtain ⟨ps, ⟨g0, t0, cs0, f0, p0, q0, hg0, ht0, hv0, hd0, ⟨g1, t1, cs1, f1, p1, q1, hg1, ht1, hv1, hd1, _, _⟩, _⟩, _, _⟩ := h
  obtain rfl := Option.some.inj (gTwo.symm.trans hg0)
  obtain rfl := Option.some.inj (gThree.symm.trans hg1)
  obtain rfl := Option.some.inj (tTwo.symm.trans ht0)
  obtain rfl := Option.some.inj (tThree.symm.trans ht1)
  have hcu : Tryd.prog.cellsOf 5 = 1 := by kernel_rfl
  have hce : Tryd.prog.cellsOf 53 = 3 := by kernel_rfl
  have a := cells_of_rows (rows := tabTwo) Tryd.underlying58 Tryd.underlying53 Tryd.underlying5 hcu hce (by decide) hd0
  have b := cells_of_rows (rows := tabThree) Tryd.underlying59 Tryd.underlying53 Tryd.underlying5 hcu hce (by decide) hd1
  exact ⟨fun i j hi hj => by rw [World.var?_cell hg0 hv0, ← Array.getElem?_toList]; exact a.2 i j hi hj, fun i j hi hj => by rw [World.var?_cell hg1 hv1, ← Array.getElem?_toList]; exact b.2 i j hi hj⟩
/-- The door's own heap meets the condition. -/
theorem door_met (os : Os) (args : Array Value) : laidMetH Tryd.prog laidTabs ((World.doorLaid Tryd.prog 400 os).forCall (fun _ _ => 0) ⟨#[], args, []⟩).memory :=
  laidMetH_of_parts3 (fuel := 8) (laidMet_of_run' 8 (by kernel_rfl) (by kernel_rfl)) (by kernel_rfl) (by kernel_rfl)
end Go.Proofs.YticnpajbefflbadDoor
