/- '==' on machines, and what a machine is as the key of a map. -/
import Derived.Test.YtgeihpaealomkaaDoorProg
import Derived.Test.YtgeihpaealomkaaDoorMachU
import Derived.DeepKeys
namespace Go.Proofs.YtgeihpaealomkaaDoor
open Go.RowKit

theorem mapM_some {α β : Type} {g : α → Option β} {f : α → β} : ∀ (l : List α), (∀ x ∈ l, g x = some (f x)) → l.mapM g = some (l.map f)
  | [], _ => rfl
  | x :: l, h => by
    rw [List.mapM_cons, h x (by simp), mapM_some l (fun y hy => h y (by simp [hy]))]; rfl
theorem flat3 {β : Type} (h : Nat → β) : ∀ n, ((List.range n).map fun i => [h (i * 3), h (i * 3 + 1), h (i * 3 + 2)]).flatten = (List.range (n * 3)).map h
  | 0 => rfl
  | n + 1 => by
    rw [List.range_succ, List.map_append, List.flatten_append, flat3 h n, show (n + 1) * 3 = n * 3 + 1 + 1 + 1 from by omega, List.range_succ, List.range_succ, List.range_succ]
    simp
theorem cells_u8 : Tryd.prog.cellsOf 5 = 1 := by kernel_rfl
theorem cells_i64 : Tryd.prog.cellsOf 2 = 1 := by kernel_rfl
theorem cells_a3 : Tryd.prog.cellsOf 22 = 3 := by kernel_rfl
theorem cells_a16 : Tryd.prog.cellsOf 23 = 48 := by kernel_rfl
theorem cells_mach : Tryd.prog.cellsOf 29 = 98 := by kernel_rfl
theorem wf_byte (n : Int) (h : 0 ≤ n ∧ n ≤ 255) : (Lit.int .u8 n).wf = true := by
  exact WalkArith.wf_u8 h
theorem wf_i64' (n : Int) (h : -9223372036854775808 ≤ n ∧ n ≤ 9223372036854775807) : (Lit.int .i64 n).wf = true := by
  exact WalkArith.wf_i64 h
theorem lits_u8 (d : Nat) (n : Int) (h : 0 ≤ n ∧ n ≤ 255) : Tryd.prog.keyLits (d + 1) 5 [.int .u8 n] = some [.int .u8 n] := by
  simp [Program.keyLits, Tryd.underlying5, wf_byte n h]
theorem lits_i64 (d : Nat) (n : Int) (h : -9223372036854775808 ≤ n ∧ n ≤ 9223372036854775807) : Tryd.prog.keyLits (d + 1) 2 [.int .i64 n] = some [.int .i64 n] := by
  simp [Program.keyLits, Tryd.underlying2, wf_i64' n h]
/-- The cells of a list of bytes, three by three. -/
theorem lits_a16 (d : Nat) (l : List Int) (hl : l.length = 48) (hb : isBytes l) : Tryd.prog.keyLits (d + 3) 23 (l.map (Value.int .u8)) = some ((List.range 48).map fun i => Lit.int .u8 (l.getD i 0)) := by
  have one : ∀ i, i < 48 → ((l.map (Value.int .u8)).drop i).take 1 = [Value.int .u8 (l.getD i 0)] := fun i hi => by
    rw [List.drop_eq_getElem_cons (by simp; omega)]
    simp [List.getD, List.getElem?_eq_getElem (show i < l.length by omega)]
  have three : ∀ i, i < 16 → Tryd.prog.keyLits (d + 2) 22 (((l.map (Value.int .u8)).drop (i * 3)).take 3) = some [Lit.int .u8 (l.getD (i * 3) 0), Lit.int .u8 (l.getD (i * 3 + 1) 0), Lit.int .u8 (l.getD (i * 3 + 2) 0)] := fun i hi => by
    have hlen : (((l.map (Value.int .u8)).drop (i * 3)).take 3).length = 3 := by simp; omega
    have sub : ∀ j, j < 3 → Tryd.prog.keyLits (d + 1) 5 (((((l.map (Value.int .u8)).drop (i * 3)).take 3).drop (j * 1)).take 1) = some [Lit.int .u8 (l.getD (i * 3 + j) 0)] := fun j hj => by
      rw [List.drop_take, List.take_take, List.drop_drop, Nat.mul_one, show min 1 (3 - j) = 1 from by omega, one (i * 3 + j) (by omega)]
      exact lits_u8 d _ (getD_bytes hb _)
    unfold Program.keyLits
    simp only [Tryd.underlying22, cells_a3, cells_u8, hlen, if_true]
    rw [mapM_some (f := fun j => [Lit.int .u8 (l.getD (i * 3 + j) 0)]) (List.range 3) (fun j hj => sub j (by simpa using hj))]
    rfl
  unfold Program.keyLits
  simp only [Tryd.underlying23, cells_a16, cells_a3, List.length_map, hl, if_true]
  rw [mapM_some (f := fun i => [Lit.int .u8 (l.getD (i * 3) 0), Lit.int .u8 (l.getD (i * 3 + 1) 0), Lit.int .u8 (l.getD (i * 3 + 2) 0)]) (List.range 16) (fun i hi => three i (by simpa using hi))]
  rw [Option.map_some, flat3 (fun i => Lit.int .u8 (l.getD i 0)) 16]
def machLits (M : Mach) : List Lit := Lit.int .i64 M.L :: Lit.int .i64 M.S :: ((List.range 48).map (fun i => Lit.int .u8 (M.nx.getD i 0)) ++ (List.range 48).map (fun i => Lit.int .u8 (M.ot.getD i 0)))
theorem lits_mach (d : Nat) {M : Mach} (h : M.Ok) : Tryd.prog.keyLits (d + 4) 29 (mc M).toList = some (machLits M) := by
  have h1 := h.nx48
  have h2 := h.ot48
  unfold Program.keyLits
  simp only [Tryd.underlying29, cells_mach]
  rw [if_pos ⟨by simpa using mc_size h, by simp⟩]
  simp only [List.mapM_cons, List.mapM_nil, cells_i64, cells_a16]
  have e0 : ((mc M).toList.drop 0).take 1 = [Value.int .i64 M.L] := by simp [mc]
  have e1 : ((mc M).toList.drop 1).take 1 = [Value.int .i64 M.S] := by simp [mc]
  have e2 : ((mc M).toList.drop 2).take 48 = M.nx.map (Value.int .u8) := by
    simp only [mc, List.drop_succ_cons, List.drop_zero]
    rw [List.take_append_of_le_length (by simp; omega), List.take_of_length_le (by simp; omega)]
  have e3 : ((mc M).toList.drop 50).take 48 = M.ot.map (Value.int .u8) := by
    simp only [mc, List.drop_succ_cons]
    rw [List.drop_append_of_le_length (by simp; omega), List.drop_of_length_le (by simp; omega), List.nil_append, List.take_of_length_le (by simp; omega)]
  rw [e0, e1, e2, e3, lits_i64 (d + 2) _ h.Lwf, lits_i64 (d + 2) _ h.Swf, lits_a16 d _ h1 h.nxB, lits_a16 d _ h2 h.otB]
  simp [machLits]
theorem machLits_inj {M N : Mach} (h : M.Ok) (h' : N.Ok) (e : machLits M = machLits N) : M = N := by
  obtain ⟨L, S, nx, ot⟩ := M
  obtain ⟨L', S', nx', ot'⟩ := N
  have a1 := h.nx48; have a2 := h.ot48; have b1 := h'.nx48; have b2 := h'.ot48
  simp only at a1 a2 b1 b2
  simp only [machLits, List.cons.injEq, Lit.int.injEq, true_and] at e
  obtain ⟨rfl, rfl, e⟩ := e
  obtain ⟨e1, e2⟩ := List.append_inj e (by simp)
  have key : ∀ l l' : List Int, l.length = 48 → l'.length = 48 → (List.range 48).map (fun i => Lit.int .u8 (l.getD i 0)) = (List.range 48).map (fun i => Lit.int .u8 (l'.getD i 0)) → l = l' := fun l l' hl hl' he => by
    apply List.ext_getElem (by omega)
    intro i h1 h2
    have := List.map_inj_left.1 he i (by simp; omega)
    simpa [List.getD, List.getElem?_eq_getElem h1, List.getElem?_eq_getElem h2] using this
  rw [key nx nx' a1 b1 e1, key ot ot' a2 b2 e2]
theorem keyType_mach : Tryd.prog.keyTypeAt 4 29 = true := by kernel_rfl
theorem formed_mach {M : Mach} (h : M.Ok) : (Value.agg (mc M)).formed Tryd.prog 29 = true := by
  simp [Value.formed, Tryd.underlying29, cells_mach, mc_size h]
/-- Machines are equal if their entries are. -/
theorem run_eq_mach {M N : Mach} (h : M.Ok) (h' : N.Ok) (w : World) : (binOp .eql 29 (.agg (mc M)) (.agg (mc N))).run Tryd.prog w = .ok (.bool (decide (M = N))) w := by
  obtain ⟨r, hr, hiff⟩ := run_equalIn_deep (P := Tryd.prog) 9996 4 29 keyType_mach w _ _ _ _ _ _ (formed_mach h) (formed_mach h') (lits_mach 0 h) (lits_mach 0 h')
  rw [run_eql_struct, hr]
  have : r = decide (M = N) := by
    rw [Bool.eq_iff_iff, hiff, decide_eq_true_iff]
    exact ⟨machLits_inj h h', fun e => by rw [e]⟩
  rw [this]; rfl
end Go.Proofs.YtgeihpaealomkaaDoor
