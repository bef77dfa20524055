/- 'numberRows': states with one row get one number. -/
import Derived.Test.YtkkooafjpancoaaMinK
import Derived.Test.YtkkooafjpancoaaMinW
import Derived.Test.YtkkooafjpancoaaStoreK
namespace Go.Proofs.Ytkkooafjpancoaa
open Go.RowKit
open Go.Maps

/-- Sixteen zeros. -/
def zer : List Int := List.replicate 16 0
theorem info_u8 : (Try.prog.info? 5).map (fun i => (i.zero, i.size)) = some (some (.int .u8 0), 1) := by kernel_rfl
theorem zero_u8 : ∀ w, (zeroValue 5).run Try.prog w = .ok (.int .u8 0) w := (zero_of_info info_u8).1
theorem c8_one (c : List Int) : (c8 c).all (·.oneCell') = true := by
  rw [Array.all_eq_true_iff_forall_mem]
  intro v hv
  simp only [c8, List.mem_toArray, List.mem_map] at hv
  obtain ⟨n, _, rfl⟩ := hv
  rfl
/-- The map of rows, as it lies in memory. -/
def OwnRows (w : World) (b n : Nat) (D : DataW Unit) : Prop := w.ownsMap Try.prog 104 (plainElem Try.prog 5) b n D
theorem OwnRows.keep {w w' : World} {b n : Nat} {D : DataW Unit} (h : OwnRows w b n D) (e : w'.heap[b]? = w.heap[b]?) : OwnRows w' b n D := by
  obtain ⟨es, clock, hb, r⟩ := h
  exact ⟨es, clock, e.trans hb, r⟩

theorem size_a3 : (Try.prog.info? 22).map (·.size) = some 3 := by kernel_rfl
theorem info_row : (Try.prog.info? 104).map (fun i => (i.zero, i.size)) = some (some (.agg #[.int .u8 0, .int .u8 0, .int .u8 0, .int .u8 0, .int .u8 0, .int .u8 0]), 6) := by kernel_rfl
theorem zero_row : ∀ w, (zeroValue 104).run Try.prog w = .ok (.agg #[.int .u8 0, .int .u8 0, .int .u8 0, .int .u8 0, .int .u8 0, .int .u8 0]) w := (zero_of_info info_row).1
theorem size_row : (Try.prog.info? 104).map (·.size) = some 6 := (zero_of_info info_row).2
theorem cut_of (c : Array Value) (p : Nat) (a b d : Value) (h0 : c[p]? = some a) (h1 : c[p + 1]? = some b) (h2 : c[p + 2]? = some d) : cut c p 3 = #[a, b, d] := by
  apply Array.ext_getElem?
  intro i
  simp only [cut, List.getElem?_toArray, List.getElem?_take, List.getElem?_drop, Array.getElem?_toList]
  rcases (show i = 0 ∨ i = 1 ∨ i = 2 ∨ 3 ≤ i by omega) with rfl | rfl | rfl | h
  · simpa using h0
  · simpa using h1
  · simpa using h2
  · rw [if_neg (by omega)]; symm; simp; omega
theorem rowC_one (V : Mach) (q : Nat) : (rowC V q).all (·.oneCell') = true  := by
  rw [rowC_eq, Array.all_eq_true_iff_forall_mem]
  intro v hv
  simp only [List.mem_toArray, List.mem_map] at hv
  obtain ⟨n, _, rfl⟩ := hv
  rfl

end Go.Proofs.Ytkkooafjpancoaa
