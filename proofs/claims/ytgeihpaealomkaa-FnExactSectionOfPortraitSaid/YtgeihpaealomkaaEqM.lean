/- '==' on machines, and what a machine is as the key of a map. -/
import Derived.Test.YtgeihpaealomkaaProg
import Derived.Test.YtgeihpaealomkaaMachU
import Derived.DeepKeys
namespace Go.Proofs.Ytgeihpaealomkaa
open Go.RowKit

theorem mapM_some {α β : Type} {g : α → Option β} {f : α → β} : ∀ (l : List α), (∀ x ∈ l, g x = some (f x)) → l.mapM g = some (l.map f)
  | [], _ => rfl
  | x :: l, h => by
    rw [List.mapM_cons, h x (by simp), mapM_some l (fun y hy => h y (by simp [hy]))]; rfl
theorem flat3 {β : Type} (h : Nat → β) : ∀ n, ((List.range n).map fun i => [h (i * 3), h (i * 3 + 1), h (i * 3 + 2)]).flatten = (List.range (n * 3)).map h
  | 0 => rfl
  | n + 1 => by
    rw [List.range_succ, List.map_append, List.flatten_append, flat3 h n, show (n + 1) * 3 = n * 3 + 1 + 1 + 1 from by omega, List.range_succ, List.range_succ, List.range_succ]
    simp
theorem cells_u8 : Try.prog.cellsOf 5 = 1 := by kernel_rfl
theorem cells_i64 : Try.prog.cellsOf 2 = 1 := by kernel_rfl
theorem wf_byte (n : Int) (h : 0 ≤ n ∧ n ≤ 255) : (Lit.int .u8 n).wf = true := by
  exact WalkArith.wf_u8 h
theorem wf_i64' (n : Int) (h : -9223372036854775808 ≤ n ∧ n ≤ 9223372036854775807) : (Lit.int .i64 n).wf = true := by
  exact WalkArith.wf_i64 h
theorem lits_u8 (d : Nat) (n : Int) (h : 0 ≤ n ∧ n ≤ 255) : Try.prog.keyLits (d + 1) 5 [.int .u8 n] = some [.int .u8 n] := by
  simp [Program.keyLits, Try.underlying5, wf_byte n h]
theorem lits_i64 (d : Nat) (n : Int) (h : -9223372036854775808 ≤ n ∧ n ≤ 9223372036854775807) : Try.prog.keyLits (d + 1) 2 [.int .i64 n] = some [.int .i64 n] := by
  simp [Program.keyLits, Try.underlying2, wf_i64' n h]
def machLits (M : Mach) : List Lit := Lit.int .i64 M.L :: Lit.int .i64 M.S :: ((List.range 48).map (fun i => Lit.int .u8 (M.nx.getD i 0)) ++ (List.range 48).map (fun i => Lit.int .u8 (M.ot.getD i 0)))
theorem machLits_inj {M N : Mach} (h : M.Ok) (h' : N.Ok) (e : machLits M = machLits N) : M = N := by
  obtain ⟨L, S, nx, ot⟩ := M
  obtain ⟨L', S', nx', ot'⟩ := N
  have a1 := h.nx48; have a2 := h.ot48; have b1 := h'.nx48; have b2 := h'.ot48
  simp only at a1 a2 b1 b2
  simp only [machLits, List.cons.injEq, Lit.int.injEq, true_and] at e
  obtain ⟨rfl, rfl, e⟩ := e
  obtain ⟨e1, e2⟩ := List.append_inj e (by simp)
  have key : ∀ l l' : List Int, l.length = 48 → l'.length = 48 → (List.range 48).map (fun i => Lit.int .u8 (l.getD i 0)) = (List.range 48).map (fun i => Lit.int .u8 (l'.getD i 0)) → l = l' := fun l l' hl hl' he => by
    apply List.ext_getElem (by omega)
    intro i h1 h2
    have := List.map_inj_left.1 he i (by simp; omega)
    simpa [List.getD, List.getElem?_eq_getElem h1, List.getElem?_eq_getElem h2] using this
  rw [key nx nx' a1 b1 e1, key ot ot' a2 b2 e2]
end Go.Proofs.Ytgeihpaealomkaa
