/- Machines and rows of states as keys of maps; views of a machine by sets of states. -/
import Derived.Test.YticnplcjjkilpaaMinM
import Derived.Test.YticnplcjjkilpaaEqM
import Derived.Maps.OwnSet
import Derived.Maps.OwnOps
import Derived.DeepKeys4
namespace Go.Proofs.Yticnplcjjkilpaa
open Go.RowKit
open Go.Maps (Keyed)

theorem laid : laidOutB Try.prog = true := by kernel_rfl
theorem keyed_mach : Keyed Try.prog 29 := Keyed.of_law (deep_law_laid laid (m := 4) (by omega) (of_decide_eq_true (by kernel_rfl)) keyType_mach (by kernel_rfl))
theorem keyed_row : Keyed Try.prog 101 := Keyed.of_law (deep_law_laid laid (m := 4) (by omega) (of_decide_eq_true (by kernel_rfl)) (by kernel_rfl) (by kernel_rfl))
theorem types_many : 4 ≤ Try.prog.types.size := of_decide_eq_true (by kernel_rfl)
def klM (M : Mach) : Lit := .string (keyBytes (machLits M))
theorem key_mach {M : Mach} (h : M.Ok) : keyOf Try.prog 29 (.agg (mc M)) = some (klM M) := by
  obtain ⟨d, hd⟩ : ∃ d, Try.prog.types.size + 1 = d + 4 := ⟨Try.prog.types.size - 3, by have := types_many; omega⟩
  have hk : Try.prog.keyType 29 = true := by kernel_rfl
  unfold keyOf
  simp only [Try.underlying29]
  rw [hk, formed_mach h, hd]
  simp only [Bool.and_self, if_true]
  show (Try.prog.keyLits (d + 4) 29 (mc M).toList).map _ = _
  rw [lits_mach d h]
  rfl
theorem klM_inj {M N : Mach} (h : M.Ok) (h' : N.Ok) (e : klM M = klM N) : M = N := by
  have h1 := key_mach h
  have h2 := key_mach h'
  rw [e] at h1
  have h3 := keyed_mach.inj h1 h2
  have h4 : mc M = mc N := by simpa using h3
  have a := lits_mach 0 h
  rw [h4, lits_mach 0 h'] at a
  exact (machLits_inj h' h (Option.some.inj a)).symm

/-- The row of a state. -/
def rowOf (V : Mach) (q : Nat) : List Int := [V.o q 0, V.o q 1, V.o q 2, V.n q 0, V.n q 1, V.n q 2]
def rowC (V : Mach) (q : Nat) : Array Value := #[.int .u8 (V.o q 0), .int .u8 (V.o q 1), .int .u8 (V.o q 2), .int .u8 (V.n q 0), .int .u8 (V.n q 1), .int .u8 (V.n q 2)]
theorem rowC_eq (V : Mach) (q : Nat) : rowC V q = ((rowOf V q).map (Value.int .u8)).toArray := rfl
theorem lits_a3 (d : Nat) (a b c : Int) (ha : 0 ≤ a ∧ a ≤ 255) (hb : 0 ≤ b ∧ b ≤ 255) (hc : 0 ≤ c ∧ c ≤ 255) : Try.prog.keyLits (d + 2) 22 [.int .u8 a, .int .u8 b, .int .u8 c] = some [.int .u8 a, .int .u8 b, .int .u8 c] := by
  unfold Program.keyLits
  simp only [Try.underlying22, cells_a3, cells_u8, List.length_cons, List.length_nil, if_true]
  rw [mapM_some (f := fun j => [Lit.int .u8 ([a, b, c].getD j 0)]) (List.range 3) (fun j hj => by
    have hj3 : j < 3 := by simpa using hj
    rcases (show j = 0 ∨ j = 1 ∨ j = 2 by omega) with rfl | rfl | rfl
    · exact lits_u8 d a ha
    · exact lits_u8 d b hb
    · exact lits_u8 d c hc)]
  rfl
theorem cells_row : Try.prog.cellsOf 101 = 6 := by kernel_rfl
theorem lits_row (d : Nat) {V : Mach} (h : V.Ok) (q : Nat) : Try.prog.keyLits (d + 3) 101 (rowC V q).toList = some ((rowOf V q).map (Lit.int .u8)) := by
  have e1 := lits_a3 d _ _ _ (Mach.o_bd h q 0) (Mach.o_bd h q 1) (Mach.o_bd h q 2)
  have e2 := lits_a3 d _ _ _ (Mach.n_bd h q 0) (Mach.n_bd h q 1) (Mach.n_bd h q 2)
  unfold Program.keyLits
  simp only [Try.underlying101, cells_row]
  rw [if_pos ⟨rfl, by simp⟩]
  simp only [List.mapM_cons, List.mapM_nil, cells_a3]
  show (do let x ← Try.prog.keyLits (d + 2) 22 [.int .u8 (V.o q 0), .int .u8 (V.o q 1), .int .u8 (V.o q 2)]; let y ← (do let z ← Try.prog.keyLits (d + 2) 22 [.int .u8 (V.n q 0), .int .u8 (V.n q 1), .int .u8 (V.n q 2)]; pure [z]); pure (x :: y)).map List.flatten = _
  rw [e1, e2]
  rfl
def klR (V : Mach) (q : Nat) : Lit := .string (keyBytes ((rowOf V q).map (Lit.int .u8)))
theorem formed_row (V : Mach) (q : Nat) : (Value.agg (rowC V q)).formed Try.prog 101 = true := by
  simp [Value.formed, Try.underlying101, cells_row, rowC]
theorem key_row {V : Mach} (h : V.Ok) (q : Nat) : keyOf Try.prog 101 (.agg (rowC V q)) = some (klR V q) := by
  obtain ⟨d, hd⟩ : ∃ d, Try.prog.types.size + 1 = d + 3 := ⟨Try.prog.types.size - 2, by have := types_many; omega⟩
  have hk : Try.prog.keyType 101 = true := by kernel_rfl
  unfold keyOf
  simp only [Try.underlying101]
  rw [hk, formed_row V q, hd]
  simp only [Bool.and_self, if_true]
  show (Try.prog.keyLits (d + 3) 101 (rowC V q).toList).map _ = _
  rw [lits_row d h q]
  rfl
theorem klR_iff {V : Mach} (h : V.Ok) (q r : Nat) : klR V q = klR V r ↔ rowOf V q = rowOf V r := by
  constructor
  · intro e
    have h1 := key_row h q
    have h2 := key_row h r
    rw [e] at h1
    have h3 := keyed_row.inj h1 h2
    have h4 : rowC V q = rowC V r := by simpa using h3
    have a := lits_row 0 h q
    rw [h4, lits_row 0 h r] at a
    have b := Option.some.inj a
    exact ((List.map_inj_right (f := Lit.int .u8) (by intro x y hxy; cases hxy; rfl)).1 b).symm
  · intro e; unfold klR; rw [e]

/-! ### Views -/
def vStep (M : Mach) (c : List Int) (q x : Nat) (V : Mach) : Mach := { V with nx := V.nx.set (q * 3 + x) (c.getD (nn M q x) 0) }
def vRow (M : Mach) (c : List Int) (q : Nat) (V : Mach) : Nat → Mach
  | 0 => V
  | k + 1 => vStep M c q k (vRow M c q V k)
def vAll (M : Mach) (c : List Int) (L : Nat) (V : Mach) : Nat → Mach
  | 0 => V
  | k + 1 => vRow M c k (vAll M c L V k) L
def viewM (M : Mach) (c : List Int) (L S : Nat) : Mach := vAll M c L M S
theorem isBytes_put {l : List Int} (h : isBytes l) (i : Nat) (v : Int) (hv : 0 ≤ v ∧ v ≤ 255) : isBytes (l.set i v) := fun n hn => by
  rcases List.mem_or_eq_of_mem_set hn with h1 | h1
  · exact h n h1
  · rw [h1]; exact hv
theorem vRow_ok {M V : Mach} {c : List Int} (hc : isBytes c) (hV : V.Ok) (q : Nat) : ∀ k, (vRow M c q V k).Ok
  | 0 => hV
  | k + 1 => by
    have h := vRow_ok hc hV (M := M) q k
    exact ⟨by simp [vRow, vStep, h.nx48], h.ot48, isBytes_put h.nxB _ _ (getD_bytes hc _), h.otB, h.Lwf, h.Swf⟩
theorem vAll_ok {M V : Mach} {c : List Int} (hc : isBytes c) (L : Nat) (hV : V.Ok) : ∀ k, (vAll M c L V k).Ok
  | 0 => hV
  | k + 1 => vRow_ok hc (vAll_ok hc L hV k) k L
theorem vRow_keeps (M : Mach) (c : List Int) (q : Nat) (V : Mach) : ∀ k, (vRow M c q V k).L = V.L ∧ (vRow M c q V k).S = V.S ∧ (vRow M c q V k).ot = V.ot
  | 0 => ⟨rfl, rfl, rfl⟩
  | k + 1 => vRow_keeps M c q V k
theorem vAll_keeps (M : Mach) (c : List Int) (L : Nat) (V : Mach) : ∀ k, (vAll M c L V k).L = V.L ∧ (vAll M c L V k).S = V.S ∧ (vAll M c L V k).ot = V.ot
  | 0 => ⟨rfl, rfl, rfl⟩
  | k + 1 => by
    have a := vRow_keeps M c k (vAll M c L V k) L
    have b := vAll_keeps M c L V k
    exact ⟨a.1.trans b.1, a.2.1.trans b.2.1, a.2.2.trans b.2.2⟩
theorem vStep_n (M : Mach) (c : List Int) (q x : Nat) (V : Mach) (hV : V.nx.length = 48) (hq : q < 16) (hx : x < 3) (q' x' : Nat) (_hq' : q' < 16) (hx' : x' < 3) :
    (vStep M c q x V).n q' x' = if q' = q ∧ x' = x then c.getD (nn M q x) 0 else V.n q' x' := by
  show (V.nx.set (q * 3 + x) (c.getD (nn M q x) 0)).getD (q' * 3 + x') 0 = _
  unfold Mach.n
  simp only [List.getD, List.getElem?_set]
  by_cases h : q' = q ∧ x' = x
  · obtain ⟨rfl, rfl⟩ := h
    rw [if_pos rfl, if_pos (by omega), if_pos ⟨rfl, rfl⟩]
    rfl
  · rw [if_neg (by omega), if_neg h]
theorem vRow_n (M : Mach) (c : List Int) (hc : isBytes c) (q : Nat) (V : Mach) (hV : V.Ok) (hq : q < 16) : ∀ k, k ≤ 3 → ∀ q' x', q' < 16 → x' < 3 →
    (vRow M c q V k).n q' x' = if q' = q ∧ x' < k then c.getD (nn M q x') 0 else V.n q' x'
  | 0, _, q', x', _, _ => by simp [vRow]
  | k + 1, hk, q', x', h1, h2 => by
    rw [show vRow M c q V (k + 1) = vStep M c q k (vRow M c q V k) from rfl, vStep_n M c q k _ (vRow_ok hc hV q k).nx48 hq (by omega) q' x' h1 h2, vRow_n M c hc q V hV hq k (by omega) q' x' h1 h2]
    by_cases e : q' = q ∧ x' = k
    · obtain ⟨rfl, rfl⟩ := e
      rw [if_pos ⟨rfl, rfl⟩, if_pos ⟨rfl, by omega⟩]
    · rw [if_neg e]
      by_cases e2 : q' = q ∧ x' < k
      · rw [if_pos e2, if_pos ⟨e2.1, by omega⟩]
      · rw [if_neg e2, if_neg (fun h => e2 ⟨h.1, by have := h.2; have : x' ≠ k := fun h3 => e ⟨h.1, h3⟩; omega⟩)]
theorem vAll_n (M : Mach) (c : List Int) (hc : isBytes c) (L : Nat) (hL : L ≤ 3) (V : Mach) (hV : V.Ok) : ∀ k, k ≤ 16 → ∀ q x, q < 16 → x < 3 →
    (vAll M c L V k).n q x = if q < k ∧ x < L then c.getD (nn M q x) 0 else V.n q x
  | 0, _, q, x, _, _ => by simp [vAll]
  | k + 1, hk, q, x, h1, h2 => by
    rw [show vAll M c L V (k + 1) = vRow M c k (vAll M c L V k) L from rfl, vRow_n M c hc k _ (vAll_ok hc L hV k) (by omega) L hL q x h1 h2, vAll_n M c hc L hL V hV k (by omega) q x h1 h2]
    by_cases e : q = k ∧ x < L
    · obtain ⟨rfl, e2⟩ := e
      rw [if_pos ⟨rfl, e2⟩, if_pos ⟨by omega, e2⟩]
    · rw [if_neg e]
      by_cases e2 : q < k ∧ x < L
      · rw [if_pos e2, if_pos ⟨by omega, e2.2⟩]
      · rw [if_neg e2, if_neg (fun h => by
          have : q ≠ k := fun h3 => e ⟨h3, h.2⟩
          exact e2 ⟨by omega, h.2⟩)]
theorem Good.zero {M : Mach} {L S : Nat} (h : Good M L S) (q x : Nat) (hq : q < 16) (hx : x < 3) (hno : ¬ (q < S ∧ x < L)) : M.n q x = 0 ∧ M.o q x = 0 := by
  have h1 := (List.all_eq_true.1 h.all) q (by simpa using hq)
  have h2 := (List.all_eq_true.1 h1) x (by simpa using hx)
  unfold cellAll at h2
  rw [if_neg hno] at h2
  simpa using h2

/-- The sets at the time t, as the program has them. -/
def clsU (M : Mach) (L S t : Nat) : List Int := (List.range 16).map fun q => if q < S then (num M L t q : Int) else 0
theorem clsU_len (M : Mach) (L S t : Nat) : (clsU M L S t).length = 16 := by simp [clsU]
theorem clsU_at (M : Mach) (L S t q : Nat) (hq : q < S) (hS : S ≤ 16) : (clsU M L S t).getD q 0 = (num M L t q : Int) := by
  unfold clsU
  rw [List.getD, List.getElem?_map, List.getElem?_range (by omega)]
  simp [hq]
theorem clsU_bytes (M : Mach) (L S t : Nat) : isBytes (clsU M L S t) := fun n hn => by
  unfold clsU at hn
  obtain ⟨q, hq, rfl⟩ := List.mem_map.1 hn
  have := num_le M L t q
  have hq16 : q < 16 := by simpa using hq
  split <;> omega
theorem clsU_zero (M : Mach) (L S : Nat) : clsU M L S 0 = List.replicate 16 0 := by
  have h : (fun q => if q < S then (num M L 0 q : Int) else 0) = fun _ => 0 := by
    funext q
    rw [num_zero]
    split <;> rfl
  unfold clsU
  rw [h]
  rfl
/-- The view at the time t. -/
def vw (M : Mach) (L S t : Nat) : Mach := viewM M (clsU M L S t) L S
theorem vw_ok {M : Mach} {L S : Nat} (hg : Good M L S) (t : Nat) : (vw M L S t).Ok := vAll_ok (clsU_bytes M L S t) L hg.ok S
theorem vw_keeps (M : Mach) (L S t : Nat) : (vw M L S t).L = M.L ∧ (vw M L S t).S = M.S ∧ (vw M L S t).ot = M.ot := vAll_keeps M _ L M S
theorem vw_o (M : Mach) (L S t q x : Nat) : (vw M L S t).o q x = M.o q x := by unfold Mach.o; rw [(vw_keeps M L S t).2.2]
theorem vw_n {M : Mach} {L S : Nat} (hg : Good M L S) (t q x : Nat) (hq : q < 16) (hx : x < 3) : (vw M L S t).n q x = if q < S ∧ x < L then (num M L t (nn M q x) : Int) else 0 := by
  unfold vw viewM
  rw [vAll_n M _ (clsU_bytes M L S t) L hg.L3 M hg.ok S hg.S16 q x hq hx]
  by_cases h : q < S ∧ x < L
  · rw [if_pos h, if_pos h, clsU_at M L S t _ (hg.nn_lt q x h.1 h.2) hg.S16]
  · rw [if_neg h, if_neg h]
    exact (hg.zero q x hq hx h).1
theorem vw_rows {M : Mach} {L S : Nat} (hg : Good M L S) (t q r : Nat) (hq : q < S) (hr : r < S) : rowOf (vw M L S t) q = rowOf (vw M L S t) r ↔ eqB M L (t + 1) q r = true := by
  have hS := hg.S16; have hL := hg.L3; have hL2 := hg.L2
  have key : ∀ x, x < 3 → ((vw M L S t).o q x = (vw M L S t).o r x ∧ (vw M L S t).n q x = (vw M L S t).n r x ↔ (x < L → M.o q x = M.o r x ∧ eqB M L t (nn M q x) (nn M r x) = true)) := fun x hx => by
    rw [vw_o, vw_o, vw_n hg t q x (by omega) hx, vw_n hg t r x (by omega) hx]
    by_cases h : x < L
    · rw [if_pos ⟨hq, h⟩, if_pos ⟨hr, h⟩, ← num_iff]
      constructor
      · intro a _; exact ⟨a.1, by omega⟩
      · intro a; exact ⟨(a h).1, by have := (a h).2; omega⟩
    · rw [if_neg (fun a => h a.2), if_neg (fun a => h a.2), (hg.zero q x (by omega) hx (fun a => h a.2)).2, (hg.zero r x (by omega) hx (fun a => h a.2)).2]
      simp [h]
  have k0 := key 0 (by omega)
  have k1 := key 1 (by omega)
  have k2 := key 2 (by omega)
  rw [eqB_succ]
  simp only [rowOf, List.cons.injEq, and_true]
  constructor
  · rintro ⟨a, b, c, d, e, f⟩ x hx
    rcases (show x = 0 ∨ x = 1 ∨ x = 2 by omega) with rfl | rfl | rfl
    · exact k0.1 ⟨a, d⟩ hx
    · exact k1.1 ⟨b, e⟩ hx
    · exact k2.1 ⟨c, f⟩ hx
  · intro h
    have a0 := k0.2 (h 0)
    have a1 := k1.2 (h 1)
    have a2 := k2.2 (h 2)
    exact ⟨a0.1, a1.1, a2.1, a0.2, a1.2, a2.2⟩
/-- A view that comes back. -/
theorem vw_still {M : Mach} {L S : Nat} (hg : Good M L S) {s t : Nat} (hst : s < t) (e : vw M L S s = vw M L S t) : Still M L S t := by
  have hS := hg.S16; have hL := hg.L3
  refine still_of_nums hst fun q x hq hx => ?_
  have h1 := vw_n hg s q x (by omega) (by omega)
  have h2 := vw_n hg t q x (by omega) (by omega)
  rw [if_pos ⟨hq, hx⟩] at h1 h2
  rw [e, h2] at h1
  omega
/-- Two times from which on nothing is divided have one view. -/
theorem clsU_still {M : Mach} {L S : Nat} (hg : Good M L S) {s t : Nat} (hs : Still M L S s) (ht : Still M L S t) : clsU M L S s = clsU M L S t := by
  unfold clsU
  refine List.map_congr_left fun q _ => ?_
  by_cases h : q < S
  · rw [if_pos h, if_pos h, still_num hg hs ht h]
  · rw [if_neg h, if_neg h]
theorem vw_last {M : Mach} {L S : Nat} (hg : Good M L S) : vw M L S (S + 1) = vw M L S (S + 2) := by
  unfold vw
  rw [clsU_still hg (still_from hg (S + 1) (by omega)) (still_from hg (S + 2) (by omega))]
end Go.Proofs.Yticnplcjjkilpaa
