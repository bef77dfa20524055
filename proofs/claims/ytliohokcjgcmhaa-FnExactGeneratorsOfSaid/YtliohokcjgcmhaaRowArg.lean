/- What the rows' proofs share: the program's own facts, and how arguments are opened. -/
import Derived.Test.YtliohokcjgcmhaaRows
import Derived.Test.YtliohokcjgcmhaaMachU
import Derived.WalkKit
import Derived.ProofKit
import Derived.OpenShut
import Derived.ShutString
import Derived.ChangeOld
import Derived.Below
import Derived.Lib.SmallJoins
import Derived.Test.YtliohokcjgcmhaaArgs
import Derived.ChangeSlices
namespace Go.Proofs.Ytliohokcjgcmhaa
open Go.ChangeShapes Go.WideShapes Go.ChangeAt Go.RowKit
theorem own : ownKnob Try.prog.godebug = none := by kernel_rfl
theorem laidOut : laidOutB Try.prog = true := by kernel_rfl

theorem at_of_cut {l : List Value} {i : Nat} {v : Value} (h : (l.drop i).take 1 = [v]) : l[i]? = some v := by
  have := congrArg (fun l => l[0]?) h
  simpa [List.getElem?_take, List.getElem?_drop] using this

/-- A value of the type [16][3]byte, cell by cell. -/
theorem open_a16 {H : Type} {enc : TypeId × Value → H} {W : World} {base : Nat} {sp : Nat → Bool} {held : Bool} {fuel : Nat} {l : List Value} {y : DataW H × List MemPlace}
    (h : DataW.trod enc Try.prog W base sp held fuel 23 l = some y) : ∃ zs : List Int, l = zs.map (Value.int .u8) ∧ zs.length = 48 ∧ isBytes zs := by
  obtain ⟨xs, m, _, _, hl, hxs, hat⟩ := DataW.trod_array Try.underlying23 h
  rw [cells_a16] at hl
  rw [cells_a3] at hat
  have one : ∀ i, i < 48 → ∃ n, l[i]? = some (.int .u8 n) ∧ 0 ≤ n ∧ n ≤ 255 := fun i hi => by
    have h1 := hat (i / 3) (by omega)
    rw [List.getElem?_eq_getElem (by omega)] at h1
    obtain ⟨ys, m', _, _, hl', hys, hat'⟩ := DataW.trod_array Try.underlying22 h1
    rw [cells_u8] at hat'
    have h2 := hat' (i % 3) (by omega)
    rw [List.getElem?_eq_getElem (by omega)] at h2
    obtain ⟨n, hn, _, hw⟩ := DataW.trod_int Try.underlying5 h2
    refine ⟨n, ?_, by simpa using bounds_u8 hw⟩
    have h3 := at_of_cut (i := i % 3 * 1) hn
    rw [List.getElem?_take, if_pos (by omega), List.getElem?_drop] at h3
    rwa [show i / 3 * 3 + i % 3 * 1 = i from by omega] at h3
  refine ⟨l.map fun v => match v with | .int _ n => n | _ => 0, ?_, by simpa using hl, ?_⟩
  · apply List.ext_getElem?
    intro i
    rw [List.getElem?_map, List.getElem?_map]
    by_cases hi : i < 48
    · obtain ⟨n, hn, _⟩ := one i hi
      rw [hn]; rfl
    · rw [List.getElem?_eq_none (by omega)]; rfl
  · intro n hn
    obtain ⟨v, hv, rfl⟩ := List.mem_map.1 hn
    obtain ⟨i, hi, rfl⟩ := List.getElem_of_mem hv
    obtain ⟨n, hn, hb⟩ := one i (by omega)
    rw [List.getElem?_eq_getElem hi] at hn
    rw [Option.some.inj hn]; exact hb

set_option maxRecDepth 100000 in
theorem open_mach {H : Type} {enc : TypeId × Value → H} {W : World} {r : Reach} {b0 base : Nat} {sp : Nat → Bool} {held : Bool} {v : Value} {d : DataW H} {p : List MemPlace}
    (hv : Value.okWide Try.prog W r b0 25 v) (h : DataW.Trod enc Try.prog W base sp held 25 v d p) : ∃ M : Mach, M.Ok ∧ v = .agg (mc M) := by
  obtain ⟨cs, rfl, hsz⟩ := okWide_struct Try.underlying25 hv
  obtain ⟨fuel, hf⟩ := h
  simp only [Value.cells] at hf
  obtain ⟨y0, y1, y2, y3, n, _, hl, t0, t1, t2, t3⟩ := Go.Joins.trod_struct4 Try.underlying25 hf
  have hc : Try.prog.cellsOf 25 = 98 := by kernel_rfl
  rw [hc] at hl
  rw [cells_i64] at t0 t1
  rw [cells_a16] at t2 t3
  obtain ⟨L, eL, _, wL⟩ := DataW.trod_int Try.underlying2 t0
  obtain ⟨S, eS, _, wS⟩ := DataW.trod_int Try.underlying2 t1
  obtain ⟨nx, en, ln, bn⟩ := open_a16 t2
  obtain ⟨ot, eo, lo, bo⟩ := open_a16 t3
  have hM : (⟨L, S, nx, ot⟩ : Mach).Ok := ⟨ln, lo, bn, bo, bounds_i64 wL, bounds_i64 wS⟩
  refine ⟨⟨L, S, nx, ot⟩, hM, ?_⟩
  congr 1
  apply Array.ext_getElem?
  intro i
  rw [mc_get hM, ← Array.getElem?_toList]
  by_cases h0 : i = 0
  · rw [if_pos h0, h0]; exact at_of_cut eL
  by_cases h1 : i = 1
  · rw [if_neg h0, if_pos h1, h1]; exact at_of_cut eS
  rw [if_neg h0, if_neg h1]
  by_cases h2 : i < 50
  · rw [if_pos h2]
    have := congrArg (fun l => l[i - 2]?) en
    simp only [List.getElem?_take, List.getElem?_drop, List.getElem?_map] at this
    rw [if_pos (by omega), show 2 + (i - 2) = i from by omega, List.getElem?_eq_getElem (show i - 2 < nx.length by omega)] at this
    rw [this]; simp [List.getD, List.getElem?_eq_getElem (show i - 2 < nx.length by omega)]
  rw [if_neg h2]
  by_cases h3 : i < 98
  · rw [if_pos h3]
    have := congrArg (fun l => l[i - 50]?) eo
    simp only [List.getElem?_take, List.getElem?_drop, List.getElem?_map] at this
    rw [if_pos (by omega), show 50 + (i - 50) = i from by omega, List.getElem?_eq_getElem (show i - 50 < ot.length by omega)] at this
    rw [this]; simp [List.getD, List.getElem?_eq_getElem (show i - 50 < ot.length by omega)]
  · rw [if_neg h3, List.getElem?_eq_none (by omega)]
/-- The machine of zeros, written out, for the witness. -/
def machZero : Value := .agg (mc zeroM)
end Go.Proofs.Ytliohokcjgcmhaa

namespace Go.Proofs.Ytliohokcjgcmhaa
open Go.ChangeShapes Go.WideShapes Go.ChangeAt Go.RowKit

theorem cells_i64' : Try.prog.cellsOf 2 = 1 := by kernel_rfl
set_option maxRecDepth 100000 in
theorem open_argI {H : Type} {enc : TypeId × Value → H} {W : World} {r : Reach} {b0 base : Nat} {sp : Nat → Bool} {held : Bool} {v : Value} {d : DataW H} {p : List MemPlace}
    (hv : Value.okWide Try.prog W r b0 26 v) (h : DataW.Trod enc Try.prog W base sp held 26 v d p) : ∃ zs : List Int, ArgI W v zs := by
  obtain ⟨oa, len, cap, rfl⟩ := okWide_slice Try.underlying26 hv
  obtain ⟨fuel, hf⟩ := h
  rcases open_ints Try.underlying26 Try.underlying2 cells_i64' hf with ⟨hcs, _⟩ | ⟨a, len', cap', zs, hcs, _, hl, hm, hz, _, hcell, _⟩
  · simp [Value.cells] at hcs
    obtain ⟨rfl, rfl, rfl⟩ := hcs
    exact ⟨[], by simp [maxLen], none, 0, rfl, fun hp => absurd hp (by simp)⟩
  · simp [Value.cells] at hcs
    obtain ⟨rfl, rfl, rfl⟩ := hcs
    have hlz : len ≤ zs.length := by split at hz <;> omega
    have hlt : (zs.take len).length = len := by simp; omega
    refine ⟨zs.take len, by rw [hlt]; omega, some a, cap, by rw [hlt], fun hp => ?_⟩
    rw [hlt] at hp
    obtain ⟨g, o, spot⟩ := a
    have h0 := hcell 0 (by omega)
    have hsp : spot = none := by
      cases spot with
      | none => rfl
      | some s =>
        exfalso
        unfold World.cell? at h0
        simp [Addr.add] at h0
        split at h0 <;> simp_all
    subst hsp
    refine ⟨g, o, rfl, fun i hi => ?_⟩
    rw [hlt] at hi
    have := hcell i (by omega)
    rw [Addr.add_mid] at this
    rw [this]
    simp [List.getD, List.getElem?_eq_getElem (show i < zs.length by omega)]
end Go.Proofs.Ytliohokcjgcmhaa
