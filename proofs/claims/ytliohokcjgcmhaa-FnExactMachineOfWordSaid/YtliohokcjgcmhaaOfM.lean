/- The model's large machines: data, and letters of two rows compared. · 'l07Classes'. · 'l07Of'. -/
import Derived.Test.YtliohokcjgcmhaaDvO
import Derived.Test.YtliohokcjgcmhaaBuildK
import Derived.Test.YtliohokcjgcmhaaInvI
import Derived.Test.YtliohokcjgcmhaaOwnN
import Derived.Test.YtliohokcjgcmhaaMaI
import Derived.Test.YtliohokcjgcmhaaMinT
import Derived.Stop.BytesEq
import Derived.Test.YtliohokcjgcmhaaRgM
import Derived.Test.YtliohokcjgcmhaaAuP
import Derived.Maps.AppendAt
namespace Go.Proofs.Ytliohokcjgcmhaa
open Go.RowKit

/-- The letters that a row puts out. -/
def oL (A : Aut) (L i : Nat) : List Int := [rowO A L i 0, rowO A L i 1, rowO A L i 2]
theorem oL_len (A : Aut) (L i : Nat) : (oL A L i).length = 3 := rfl
theorem cell_of {n : Int} (h : 0 ≤ n ∧ n ≤ 255) : Value.int .u8 n = Go.Extern.Stop.cell (UInt8.ofNat n.toNat) := by
  unfold Go.Extern.Stop.cell
  congr 1
  rw [UInt8.toNat_ofNat_of_lt' (by simp [UInt8.size]; omega)]
  exact (Int.toNat_of_nonneg h.1).symm
theorem c8_cells : ∀ (l : List Int), isBytes l → l.map (Value.int .u8) = (l.map fun n => UInt8.ofNat n.toNat).map Go.Extern.Stop.cell
  | [], _ => rfl
  | n :: l, h => by
    simp only [List.map_cons]
    rw [cell_of (h n (by simp)), c8_cells l (fun m hm => h m (by simp [hm]))]
theorem bytes_inj : ∀ (l l' : List Int), isBytes l → isBytes l' → (l.map fun n => UInt8.ofNat n.toNat) = (l'.map fun n => UInt8.ofNat n.toNat) → l = l'
  | [], [], _, _, _ => rfl
  | [], _ :: _, _, _, h => by cases h
  | _ :: _, [], _, _, h => by cases h
  | n :: l, m :: l', h, h', e => by
    simp only [List.map_cons, List.cons.injEq] at e
    have hn := h n (by simp)
    have hm := h' m (by simp)
    have e1 := congrArg UInt8.toNat e.1
    rw [UInt8.toNat_ofNat_of_lt' (by simp [UInt8.size]; omega), UInt8.toNat_ofNat_of_lt' (by simp [UInt8.size]; omega)] at e1
    rw [bytes_inj l l' (fun k hk => h k (by simp [hk])) (fun k hk => h' k (by simp [hk])) e.2, show n = m by omega]
theorem eql_three (l l' : List Int) (h : l.length = 3) (h' : l'.length = 3) (hb : isBytes l) (hb' : isBytes l') (w : World) :
    (Op.equalIn 10000 22 (.agg (c8 l)) (.agg (c8 l'))).run Try.prog w = .ok (decide (l = l')) w := by
  have e1 : c8 l = ((l.map fun n => UInt8.ofNat n.toNat).map Go.Extern.Stop.cell).toArray := by rw [← c8_cells l hb]; rfl
  have e2 : c8 l' = ((l'.map fun n => UInt8.ofNat n.toNat).map Go.Extern.Stop.cell).toArray := by rw [← c8_cells l' hb']; rfl
  rw [e1, e2, run_equalIn_bytes w 9998 22 5 3 Try.underlying22 Try.underlying5 (fun w => by kernel_rfl) _ _ (by simpa using h) (by simpa using h')]
  congr 1
  rw [Bool.eq_iff_iff, beq_iff_eq, decide_eq_true_eq]
  exact ⟨fun e => bytes_inj l l' hb hb' e, fun e => by rw [e]⟩

/-! ### Least equal points, in lists -/
def clsA (A : Aut) (L t N : Nat) : List Int := (List.range N).map fun i => (aLst A L t i : Int)
def nxtA (A : Aut) (L t N q : Nat) : List Int := (List.range N).map fun i => if i < q then (aLst A L (t + 1) i : Int) else 0
theorem clsA_len (A : Aut) (L t N : Nat) : (clsA A L t N).length = N := by simp [clsA]
theorem nxtA_len (A : Aut) (L t N q : Nat) : (nxtA A L t N q).length = N := by simp [nxtA]
theorem clsA_zero (A : Aut) (L N : Nat) : clsA A L 0 N = List.replicate N 0 := by
  unfold clsA
  simp only [aLst_zero]
  rw [List.map_const', List.length_range]; rfl
theorem nxtA_zero (A : Aut) (L t N : Nat) : nxtA A L t N 0 = List.replicate N 0 := by
  unfold nxtA
  simp only [Nat.not_lt_zero, if_false]
  rw [List.map_const', List.length_range]
theorem nxtA_all (A : Aut) (L t N : Nat) : nxtA A L t N N = clsA A L (t + 1) N := by
  unfold nxtA clsA
  refine List.map_congr_left fun i hi => ?_
  rw [if_pos (by simpa using hi)]
theorem nxtA_set (A : Aut) (L t N q : Nat) (v : Int) (hv : v = aLst A L (t + 1) q) : (nxtA A L t N q).set q v = nxtA A L t N (q + 1) := by
  subst hv
  apply List.ext_getElem
  · simp [nxtA]
  · intro i h1 h2
    simp only [nxtA, List.getElem_set, List.getElem_map, List.getElem_range]
    by_cases h : q = i
    · subst h; simp
    · rw [if_neg h]
      by_cases h3 : i < q
      · rw [if_pos h3, if_pos (by omega)]
      · rw [if_neg h3, if_neg (by omega)]
theorem clsA_at (A : Aut) (L t N i : Nat) (hi : i < N) : (ints (clsA A L t N))[i]? = some (.int .i64 (aLst A L t i : Int)) := by
  simp [ints, clsA, hi]
theorem nxtA_at (A : Aut) (L t N q r : Nat) (hr : r < q) (hq : q < N) (v : Int) : (ints ((nxtA A L t N q).set q v))[r]? = some (.int .i64 (aLst A L (t + 1) r : Int)) := by
  have hrN : r < N := by omega
  simp [ints, nxtA, hrN, show ¬ q = r by omega, hr]
theorem nxtA_own (A : Aut) (L t N q : Nat) (hq : q < N) (v : Int) : (ints ((nxtA A L t N q).set q v))[q]? = some (.int .i64 v) := by
  simp [ints, nxtA, hq]
theorem aLst_alone {A : Aut} {L t q : Nat} (h : ∀ p, p < q → aEq A L t q p = false) : aLst A L t q = q := by
  obtain ⟨h1, h2, _⟩ := aLst_at A L t q
  rcases Nat.lt_or_ge (aLst A L t q) q with hlt | hge
  · rw [h _ hlt] at h2; cases h2
  · omega
/-- What the walk has found of q and r with k letters looked at. -/
def smK (A : Aut) (L t q r k : Nat) : Bool := (decide ((aLst A L t q : Int) = (aLst A L t r : Int)) && decide (oL A L q = oL A L r)) && (List.range k).all fun y => decide ((aLst A L t (A.n q y) : Int) = (aLst A L t (A.n r y) : Int))
theorem smK_succ (A : Aut) (L t q r k : Nat) : smK A L t q r (k + 1) = (smK A L t q r k && decide ((aLst A L t (A.n q k) : Int) = (aLst A L t (A.n r k) : Int))) := by
  simp [smK, List.range_succ, Bool.and_assoc]
theorem smK_no {A : Aut} {L t q r k m : Nat} (hk : k ≤ m) (h : smK A L t q r k = false) : smK A L t q r m = false := by
  induction hk with
  | refl => exact h
  | step _ ih => rw [smK_succ, ih]; rfl
theorem smK_all (A : Aut) (L t q r : Nat) (hL : L ≤ 3) : smK A L t q r L = aEq A L (t + 1) q r := by
  rw [Bool.eq_iff_iff, aEq_succ]
  unfold smK
  simp only [Bool.and_eq_true, decide_eq_true_eq, List.all_eq_true, List.mem_range]
  have key : ∀ x, x < 3 → (rowO A L q x = rowO A L r x ↔ (x < L → A.o q x = A.o r x)) := fun x _ => by
    unfold rowO
    by_cases h : x < L
    · rw [if_pos h, if_pos h]; simp [h]
    · rw [if_neg h, if_neg h]; simp [h]
  have kL : oL A L q = oL A L r ↔ ∀ x, x < L → A.o q x = A.o r x := by
    simp only [oL, List.cons.injEq, and_true]
    rw [key 0 (by omega), key 1 (by omega), key 2 (by omega)]
    constructor
    · rintro ⟨a, b, c⟩ x hx
      rcases (show x = 0 ∨ x = 1 ∨ x = 2 by omega) with rfl | rfl | rfl
      · exact a hx
      · exact b hx
      · exact c hx
    · exact fun h => ⟨h 0, h 1, h 2⟩
  rw [kL]
  constructor
  · rintro ⟨⟨_, h2⟩, h3⟩ x hx
    exact ⟨h2 x hx, (aLst_iff A L t _ _).1 (by have := h3 x hx; omega)⟩
  · intro h
    refine ⟨⟨?_, fun x hx => (h x hx).1⟩, fun x hx => ?_⟩
    · have h1 : aEq A L (t + 1) q r = true := (aEq_succ A L t q r).2 h
      rw [(aLst_iff A L t q r).2 (aEq_less A L t q r h1)]
    · rw [(aLst_iff A L t _ _).2 (h x hx).2]
/-- How many sets the round before had. -/
def kcA (A : Aut) (L N t : Nat) : Nat := if t = 0 then 0 else cntB (aRep A L t) N
theorem kcA_succ (A : Aut) (L N t : Nat) : kcA A L N (t + 1) = cntB (aRep A L (t + 1)) N := if_neg (by omega)
theorem kcA_pos {A : Aut} {L N t : Nat} (h0 : 0 < N) : 1 ≤ cntB (aRep A L t) N := by
  have h1 := cnt_le A L N (Nat.zero_le t)
  have h2 := cnt_zero A L N h0
  omega
theorem kcA_still {A : Aut} {L N t : Nat} (hA : A.In L N) (h0 : 0 < N) (h : cntB (aRep A L (t + 1)) N = kcA A L N t) : AStill A L N (t + 1) := by
  unfold kcA at h
  split at h
  · have := kcA_pos (A := A) (L := L) (t := t + 1) h0
    omega
  · exact (still_of_cnt (by omega)).next hA
theorem kcA_lt {A : Aut} {L N t : Nat} (h0 : 0 < N) (h : ¬ cntB (aRep A L (t + 1)) N = kcA A L N t) : kcA A L N t < kcA A L N (t + 1) ∧ kcA A L N (t + 1) ≤ N := by
  have h1 := cntB_le (aRep A L (t + 1)) N
  have h2 := cnt_le A L N (show t ≤ t + 1 by omega)
  have h3 := kcA_pos (A := A) (L := L) (t := t + 1) h0
  rw [kcA_succ]
  unfold kcA at *
  split at h
  · rename_i e
    rw [if_pos e]; omega
  · rename_i e
    rw [if_neg e]; omega
/-- A large machine can be read. -/
def SeesLg (w : World) (v : Value) (A : Aut) (L N : Nat) : Prop := ∃ ga ca cura go co curo, v = .agg #[.int .i64 (L : Int), .slice (some ⟨ga, 0, none⟩) N ca, .slice (some ⟨go, 0, none⟩) N co] ∧ Blk w ga cura 125 ∧ Blk w go curo 22 ∧
  ∀ i, i < N → ∀ x, x < 3 → cura[i * 3 + x]? = some (.int .i64 (rowN A L i x : Int)) ∧ curo[i * 3 + x]? = some (.int .u8 (rowO A L i x))
theorem SeesLg.below {w w1 : World} {v : Value} {A : Aut} {L N : Nat} (h : SeesLg w v A L N) (hb : Below w.heap.size w w1) : SeesLg w1 v A L N := by
  obtain ⟨ga, ca, cura, go, co, curo, rfl, hBa, hBo, hc⟩ := h
  exact ⟨ga, ca, cura, go, co, curo, rfl, hBa.keptAll hb, hBo.keptAll hb, hc⟩
theorem cut_oL {curo : Array Value} {A : Aut} {L i : Nat} (h : ∀ x, x < 3 → curo[i * 3 + x]? = some (.int .u8 (rowO A L i x))) : cut curo (i * 3) 3 = c8 (oL A L i) ∧ i * 3 + 3 ≤ curo.size := by
  refine ⟨?_, ?_⟩
  · apply Array.ext_getElem?
    intro j
    rw [get_cut]
    by_cases hj : j < 3
    · rw [if_pos hj]
      rcases (show j = 0 ∨ j = 1 ∨ j = 2 by omega) with rfl | rfl | rfl
      · exact h 0 (by omega)
      · exact h 1 (by omega)
      · exact h 2 (by omega)
    · rw [if_neg hj, Array.getElem?_eq_none (by rw [c8_size]; show 3 ≤ j; omega)]
  · have := h 2 (by omega)
    rcases Nat.lt_or_ge (i * 3 + 2) curo.size with h1 | h1
    · omega
    · rw [Array.getElem?_eq_none (by omega)] at this; cases this
theorem oL_bytes {A : Aut} {L N : Nat} (hb : A.Bytes L N) {i : Nat} (hi : i < N) : isBytes (oL A L i) := fun n hn => by
  simp only [oL, List.mem_cons, List.not_mem_nil, or_false] at hn
  rcases hn with rfl | rfl | rfl
  · exact rowO_bd hb hi 0
  · exact rowO_bd hb hi 1
  · exact rowO_bd hb hi 2
end Go.Proofs.Ytliohokcjgcmhaa

namespace Go.Proofs.Ytliohokcjgcmhaa
open Go.RowKit

end Go.Proofs.Ytliohokcjgcmhaa

namespace Go.Proofs.Ytliohokcjgcmhaa
open Go.RowKit
open Go.Maps

theorem infob_b3 : (Try.prog.info? 22).map (fun i => (i.zero, i.size, i.bytes)) = some (some (.agg (c8 [0, 0, 0])), 3, 3) := by kernel_rfl
theorem infob_i3 : (Try.prog.info? 125).map (fun i => (i.zero, i.size, i.bytes)) = some (some (.agg (ints [0, 0, 0])), 3, 24) := by kernel_rfl
theorem info_i3 : (Try.prog.info? 125).map (fun i => (i.zero, i.size)) = some (some (.agg (ints [0, 0, 0])), 3) := by kernel_rfl
theorem zero_i3 : ∀ w, (zeroValue 125).run Try.prog w = .ok (.agg (ints [0, 0, 0])) w := (zero_of_info info_i3).1
theorem size_i3 : (Try.prog.info? 125).map (·.size) = some 3 := (zero_of_info info_i3).2
def lgZ : Array Value := #[.int .i64 0, .slice none 0 0, .slice none 0 0]
/-- Rows of three numbers, one behind the other. -/
def rwN (A : Aut) (L i : Nat) : List Int := [(rowN A L i 0 : Int), (rowN A L i 1 : Int), (rowN A L i 2 : Int)]
def flN (A : Aut) (L k : Nat) : List Int := ((List.range k).map (rwN A L)).flatten
def flO (A : Aut) (L k : Nat) : List Int := ((List.range k).map (oL A L)).flatten
theorem flN_succ (A : Aut) (L k : Nat) : flN A L (k + 1) = flN A L k ++ rwN A L k := by simp [flN, List.range_succ]
theorem flO_succ (A : Aut) (L k : Nat) : flO A L (k + 1) = flO A L k ++ oL A L k := by simp [flO, List.range_succ]
theorem flN_len (A : Aut) (L : Nat) : ∀ k, (flN A L k).length = 3 * k
  | 0 => rfl
  | k + 1 => by rw [flN_succ, List.length_append, flN_len A L k]; show 3 * k + 3 = _; omega
theorem flO_len (A : Aut) (L : Nat) : ∀ k, (flO A L k).length = 3 * k
  | 0 => rfl
  | k + 1 => by rw [flO_succ, List.length_append, flO_len A L k]; show 3 * k + 3 = _; omega
theorem flN_at (A : Aut) (L : Nat) : ∀ k i j, i < k → j < 3 → (flN A L k)[i * 3 + j]? = (rwN A L i)[j]?
  | 0, _, _, h, _ => absurd h (by omega)
  | k + 1, i, j, h, hj => by
    rw [flN_succ]
    rcases Nat.lt_or_ge i k with h1 | h1
    · rw [List.getElem?_append_left (by rw [flN_len]; omega), flN_at A L k i j h1 hj]
    · obtain rfl : i = k := by omega
      rw [List.getElem?_append_right (by rw [flN_len]; omega), flN_len, show i * 3 + j - 3 * i = j by omega]
theorem flO_at (A : Aut) (L : Nat) : ∀ k i j, i < k → j < 3 → (flO A L k)[i * 3 + j]? = (oL A L i)[j]?
  | 0, _, _, h, _ => absurd h (by omega)
  | k + 1, i, j, h, hj => by
    rw [flO_succ]
    rcases Nat.lt_or_ge i k with h1 | h1
    · rw [List.getElem?_append_left (by rw [flO_len]; omega), flO_at A L k i j h1 hj]
    · obtain rfl : i = k := by omega
      rw [List.getElem?_append_right (by rw [flO_len]; omega), flO_len, show i * 3 + j - 3 * i = j by omega]
/-- A slice of rows of three int64 that the call owns. -/
def OwnJ (w : World) (base : Nat) (v : Value) (n : Nat) (fl : List Int) : Prop := fl.length = 3 * n ∧ w.ownsRow base 125 3 v n (fl.map (Value.int .i64))
section
variable {w w1 : World} {base n : Nat} {v : Value} {fl : List Int}
theorem OwnJ.nil (w : World) (base : Nat) : OwnJ w base (.slice none 0 0) 0 [] := ⟨by simp, World.ownsRow_nil w base _ _⟩
theorem OwnJ.ltt (h : OwnJ w base v n fl) : ∀ b, v.ownBlock = some b → base ≤ b ∧ b < w.heap.size := World.ownsRow.lt h.2
theorem OwnJ.same (h : OwnJ w base v n fl) (hs : ∀ b, v.ownBlock = some b → w1.heap[b]? = w.heap[b]?) : OwnJ w1 base v n fl := ⟨h.1, rowKept h.2 hs⟩
theorem OwnJ.below (h : OwnJ w base v n fl) (hb : Below w.heap.size w w1) : OwnJ w1 base v n fl := h.same fun b hk => hb.block b (h.ltt b hk).2
end
section
variable {ops : Array Oper} {rest : List Oper} {o : Oper} {a : Act} {w : World} {Q : Exit → Act → World → Prop}
theorem wpList_push_i3 (hgd : o.guard = none) (s x : Operand) (ho : o.op = .call { callee := .builtin .append, args := #[s, x], argTypes := #[121, 121] })
    (base : Nat) (v : Value) (n : Nat) (fl : List Int) (hs : a.eval s = v) (hown : OwnJ w base v n fl) (g c : Nat) (x0 x1 x2 : Int) (hx : a.eval x = .slice (some ⟨g, 0, none⟩) 1 c) (hB : Blk w g #[.int .i64 x0, .int .i64 x1, .int .i64 x2] 125)
    (hn : n ≤ 1048576) (hbase : base ≤ w.heap.size)
    (h : ∀ v' w', OwnJ w' base v' (n + 1) (fl ++ [x0, x1, x2]) → Below base w w' → (∀ k, k < w.heap.size → some k ≠ v.ownBlock → w'.heap[k]? = w.heap[k]?) → (v'.ownBlock = v.ownBlock ∨ v'.ownBlock = some w.heap.size) → wpList Try.prog ops Q rest (a.put o.dst v') w') : wpList Try.prog ops Q (o :: rest) a w := by
  obtain ⟨i0, hi, hz0, hz1, hz2⟩ := info_parts infob_i3
  obtain ⟨hl, hrow⟩ := hown
  refine wpList_append_own_at _ hgd s x 121 ho base 125 i0 (.agg (ints [0, 0, 0])) 3 24 Try.underlying121 hi hz0 hz1 hz2 rfl (by decide) v n _ hs hrow ⟨g, 0, none⟩ 1 c [.int .i64 x0, .int .i64 x1, .int .i64 x2] hx rfl
    (fun j u' hu' => ?_) (fun u' hu' => ?_) (by unfold maxLen; omega) (by omega) hbase (fun v' w' hown' hg _ hat => h v' w' ⟨by simp [hl]; omega, by simpa using hown'⟩ (below_grown hrow hg hbase) hg.block hat)
  · match j, hu' with
    | 0, hu' => simp at hu'; subst hu'; simpa [Addr.add] using hB.cell 0
    | 1, hu' => simp at hu'; subst hu'; simpa [Addr.add] using hB.cell 1
    | 2, hu' => simp at hu'; subst hu'; simpa [Addr.add] using hB.cell 2
  · simp at hu'
    rcases hu' with rfl | rfl | rfl <;> rfl
theorem wp_push_b3 {K : Act → World → Prop} (s x : Operand) (ho : o.op = .call { callee := .builtin .append, args := #[s, x], argTypes := #[120, 120] })
    (base : Nat) (v : Value) (n : Nat) (fl : List Int) (hs : a.eval s = v) (hown : OwnF 22 3 w base v n fl) (g c : Nat) (x0 x1 x2 : Int) (hx : a.eval x = .slice (some ⟨g, 0, none⟩) 1 c) (hB : Blk w g #[.int .u8 x0, .int .u8 x1, .int .u8 x2] 22)
    (hn : n ≤ 1048576) (hbase : base ≤ w.heap.size)
    (h : ∀ v' w', OwnF 22 3 w' base v' (n + 1) (fl ++ [x0, x1, x2]) → Below base w w' → (∀ k, k < w.heap.size → some k ≠ v.ownBlock → w'.heap[k]? = w.heap[k]?) → (v'.ownBlock = v.ownBlock ∨ v'.ownBlock = some w.heap.size) → K (a.put o.dst v') w') : Oper.wp Try.prog o a w K Q := by
  obtain ⟨i0, hi, hz0, hz1, hz2⟩ := info_parts infob_b3
  obtain ⟨hl, hrow⟩ := hown
  obtain ⟨v', w', hr, hown', hg, _, hat⟩ := run_append_own_at (P := Try.prog) w base 120 o.type 22 i0 (.agg (c8 [0, 0, 0])) 3 3 Try.underlying120 hi hz0 hz1 hz2 rfl (by decide) v n _ hrow ⟨g, 0, none⟩ 1 c [.int .u8 x0, .int .u8 x1, .int .u8 x2] rfl
    (fun j u' hu' => by
      match j, hu' with
      | 0, hu' => simp at hu'; subst hu'; simpa [Addr.add] using hB.cell 0
      | 1, hu' => simp at hu'; subst hu'; simpa [Addr.add] using hB.cell 1
      | 2, hu' => simp at hu'; subst hu'; simpa [Addr.add] using hB.cell 2) (fun u' hu' => by
      simp at hu'
      rcases hu' with rfl | rfl | rfl <;> rfl) (by unfold maxLen; omega) (by omega) hbase
  unfold Oper.wp execOp
  simp only [ho, resolve, invoke, builtin, Sem.run_bind, Sem.run_pure, Result.andThen_ok, List.map_toArray, List.map_cons, List.map_nil, hs, hx, hr]
  exact h v' w' ⟨by simp [hl]; omega, by simpa using hown'⟩ (below_grown hrow hg hbase) hg.block hat
end
theorem OwnJ.view {w : World} {base n : Nat} {v : Value} {fl : List Int} (h : OwnJ w base v n fl) : ∃ oa cap, v = .slice oa n cap ∧ (0 < n → ∃ g cur, oa = some ⟨g, 0, none⟩ ∧ base ≤ g ∧ Blk w g cur 125 ∧ ∀ i (hi : i < fl.length), cur[i]? = some (.int .i64 fl[i])) := by
  obtain ⟨hn, h1, h2⟩ := h
  rcases h2 with ⟨rfl, h0⟩ | ⟨g, cap, cur, rfl, hg, hB, hc, hm, hs, ht⟩
  · exact ⟨none, 0, by rw [h0], fun h => absurd h (by omega)⟩
  · refine ⟨_, cap, rfl, fun _ => ⟨g, cur, rfl, hg, hB, fun i hi => ?_⟩⟩
    have := congrArg (fun l => l[i]?) ht
    simp only [List.getElem?_take] at this
    rw [if_pos (by rw [hn] at hi; rw [Nat.mul_comm] at hi; omega)] at this
    simpa [List.getElem?_eq_getElem hi] using this
theorem large_seen {w : World} {base : Nat} {nv ov : Value} {A : Aut} {L N : Nat} (hn : OwnJ w base nv N (flN A L N)) (ho : OwnF 22 3 w base ov N (flO A L N)) (h0 : 0 < N) : SeesLg w (.agg #[.int .i64 (L : Int), nv, ov]) A L N := by
  obtain ⟨oa, ca, rfl, hq⟩ := hn.view
  obtain ⟨ga, cura, rfl, _, hBa, hca⟩ := hq h0
  obtain ⟨oo, co, rfl, hq2⟩ := ho.view
  obtain ⟨go, curo, rfl, _, hBo, hco⟩ := hq2 h0
  refine ⟨ga, ca, cura, go, co, curo, rfl, hBa, hBo, fun i hi x hx => ?_⟩
  have l1 : i * 3 + x < (flN A L N).length := by rw [flN_len]; omega
  have l2 : i * 3 + x < (flO A L N).length := by rw [flO_len]; omega
  have a1 := hca _ l1
  have a2 := hco _ l2
  have b1 := flN_at A L N i x hi hx
  have b2 := flO_at A L N i x hi hx
  rw [List.getElem?_eq_getElem l1] at b1
  rw [List.getElem?_eq_getElem l2] at b2
  rcases (show x = 0 ∨ x = 1 ∨ x = 2 by omega) with rfl | rfl | rfl
  · exact ⟨by rw [a1, show (flN A L N)[i * 3 + 0] = (rowN A L i 0 : Int) from by simpa [rwN] using b1], by rw [a2, show (flO A L N)[i * 3 + 0] = rowO A L i 0 from by simpa [oL] using b2]⟩
  · exact ⟨by rw [a1, show (flN A L N)[i * 3 + 1] = (rowN A L i 1 : Int) from by simpa [rwN] using b1], by rw [a2, show (flO A L N)[i * 3 + 1] = rowO A L i 1 from by simpa [oL] using b2]⟩
  · exact ⟨by rw [a1, show (flN A L N)[i * 3 + 2] = (rowN A L i 2 : Int) from by simpa [rwN] using b1], by rw [a2, show (flO A L N)[i * 3 + 2] = rowO A L i 2 from by simpa [oL] using b2]⟩
/-- A row of next states while it is made. -/
def rwP (A : Aut) (i k : Nat) : List Int := [if 0 < k then (A.n i 0 : Int) else 0, if 1 < k then (A.n i 1 : Int) else 0, if 2 < k then (A.n i 2 : Int) else 0]
theorem rwP_zero (A : Aut) (i : Nat) : rwP A i 0 = [0, 0, 0] := rfl
theorem rwP_all (A : Aut) (L i : Nat) : rwP A i L = rwN A L i := by
  unfold rwP rwN rowN
  have key : ∀ x, (if x < L then (A.n i x : Int) else 0) = ((if x < L then A.n i x else 0 : Nat) : Int) := fun x => by split <;> rfl
  rw [key, key, key]
theorem rwP_set (A : Aut) (i k : Nat) (hk : k < 3) : (rwP A i k).set k (A.n i k : Int) = rwP A i (k + 1) := by
  rcases (show k = 0 ∨ k = 1 ∨ k = 2 by omega) with rfl | rfl | rfl <;> rfl
theorem cut_three {cur : Array Value} {k : Nat} {a b c : Value} (h1 : cur[k]? = some a) (h2 : cur[k + 1]? = some b) (h3 : cur[k + 2]? = some c) : cut cur k 3 = #[a, b, c] ∧ k + 3 ≤ cur.size := by
  refine ⟨?_, ?_⟩
  · apply Array.ext_getElem?
    intro j
    rw [get_cut]
    by_cases hj : j < 3
    · rw [if_pos hj]
      rcases (show j = 0 ∨ j = 1 ∨ j = 2 by omega) with rfl | rfl | rfl
      · exact h1
      · exact h2
      · exact h3
    · rw [if_neg hj, Array.getElem?_eq_none (by show 3 ≤ j; omega)]
  · rcases Nat.lt_or_ge (k + 2) cur.size with h | h
    · omega
    · rw [Array.getElem?_eq_none (by omega)] at h3; cases h3
/-- Behind the last letter a machine puts out 0. -/
theorem mach_zero {M : Mach} {L S : Nat} (hg : Good M L S) (q x : Nat) (hq : q < 16) (hx : x < 3) (h : L ≤ x) : M.o q x = 0 := by
  have h1 := (List.all_eq_true.1 hg.all) q (by simpa using hq)
  have h2 := (List.all_eq_true.1 h1) x (by simpa using hx)
  unfold cellAll at h2
  rw [if_neg (by omega)] at h2
  exact (of_decide_eq_true h2).2
theorem mach_oL {M : Mach} {L S : Nat} (hg : Good M L S) (q : Nat) (hq : q < 16) : [M.o q 0, M.o q 1, M.o q 2] = oL (stA M) L q := by
  have key : ∀ x, x < 3 → M.o q x = rowO (stA M) L q x := fun x hx => by
    unfold rowO
    by_cases h : x < L
    · rw [if_pos h]; rfl
    · rw [if_neg h]; exact mach_zero hg q x hq hx (by omega)
  unfold oL
  rw [key 0 (by omega), key 1 (by omega), key 2 (by omega)]

def lgC (L : Int) (nv ov : Value) : Array Value := #[.int .i64 L, nv, ov]
theorem lgC_one (L : Int) (a b : Option Addr) (n m c d : Nat) : (lgC L (.slice a n c) (.slice b m d)).all (·.oneCell') = true := by simp [lgC, Value.oneCell']
theorem lgC_set1 (L : Int) (nv ov v : Value) : (lgC L nv ov).setIfInBounds 1 v = lgC L v ov := rfl
theorem lgC_set2 (L : Int) (nv ov v : Value) : (lgC L nv ov).setIfInBounds 2 v = lgC L nv v := rfl

end Go.Proofs.Ytliohokcjgcmhaa

namespace Go.Proofs.Ytliohokcjgcmhaa
open Go.RowKit

/-- The numbers of points: their place in the queue, or -1. -/
def nbL (N : Nat) (q : List Nat) : List Int := (List.range N).map fun p => if bPos eqN q p < q.length then (bPos eqN q p : Int) else -1
theorem nbL_len (N : Nat) (q : List Nat) : (nbL N q).length = N := by simp [nbL]
theorem nbL_at {N : Nat} (q : List Nat) {p : Nat} (hp : p < N) : (ints (nbL N q))[p]? = some (.int .i64 (if bPos eqN q p < q.length then (bPos eqN q p : Int) else -1)) := by
  simp [ints, nbL, hp]
theorem nbL_old {N : Nat} {q : List Nat} {p : Nat} (hp : p < N) (h : bPos eqN q p < q.length) : (ints (nbL N q))[p]? = some (.int .i64 (bPos eqN q p : Int)) := by
  rw [nbL_at q hp, if_pos h]
theorem nbL_new {N : Nat} {q : List Nat} {p : Nat} (hp : p < N) (h : ¬ bPos eqN q p < q.length) : (ints (nbL N q))[p]? = some (.int .i64 (-1)) := by
  rw [nbL_at q hp, if_neg h]
theorem nbL_put (N : Nat) (q : List Nat) (p : Nat) (h : ¬ bPos eqN q p < q.length) : (nbL N q).set p (q.length : Int) = nbL N (q ++ [p]) := by
  apply List.ext_getElem
  · simp [nbL]
  · intro i h1 h2
    simp only [nbL, List.getElem_set, List.getElem_map, List.getElem_range]
    by_cases e : p = i
    · subst e
      have e1 : bPos eqN (q ++ [p]) p = q.length := bPos_new q p (beq_self_eq_true p) h
      rw [if_pos rfl, e1, if_pos (by simp)]
    · rw [if_neg e]
      have hiff : bPos eqN (q ++ [p]) i < (q ++ [p]).length ↔ bPos eqN q i < q.length := fE_old (fun x => x) q p i e
      by_cases h3 : bPos eqN q i < q.length
      · rw [if_pos h3, if_pos (hiff.2 h3), bPos_app q [p] i h3]
      · rw [if_neg h3, if_neg (fun h4 => h3 (hiff.1 h4))]
/-- The first k numbers set to -1. -/
def nbZ (N k : Nat) : List Int := (List.range N).map fun p => if p < k then (-1 : Int) else 0
theorem nbZ_len (N k : Nat) : (nbZ N k).length = N := by simp [nbZ]
theorem nbZ_zero (N : Nat) : nbZ N 0 = List.replicate N 0 := by
  unfold nbZ
  simp only [Nat.not_lt_zero, if_false]
  rw [List.map_const', List.length_range]
theorem nbZ_all (N : Nat) : nbZ N N = nbL N [] := by
  unfold nbZ nbL
  refine List.map_congr_left fun i hi => ?_
  rw [if_pos (by simpa using hi)]; rfl
theorem nbZ_set (N k : Nat) : (nbZ N k).set k (-1) = nbZ N (k + 1) := by
  apply List.ext_getElem
  · simp [nbZ]
  · intro i h1 h2
    simp only [nbZ, List.getElem_set, List.getElem_map, List.getElem_range]
    by_cases h : k = i
    · subst h; simp
    · rw [if_neg h]
      by_cases h3 : i < k
      · rw [if_pos h3, if_pos (by omega)]
      · rw [if_neg h3, if_neg (by omega)]
/-- The queue as numbers. -/
def quI (q : List Nat) : List Int := q.map fun (p : Nat) => (p : Int)
theorem quI_len (q : List Nat) : (quI q).length = q.length := by simp [quI]
theorem quI_app (q : List Nat) (p : Nat) : quI (q ++ [p]) = quI q ++ [(p : Int)] := by simp [quI]
theorem quI_at (q : List Nat) {i : Nat} (h : i < q.length) : (ints (quI q))[i]? = some (.int .i64 (q.getD i 0 : Int)) := by
  simp [ints, quI, h, List.getD]

theorem quI_getD (q : List Nat) (i : Nat) : (quI q).getD i 0 = (q.getD i 0 : Int) := by
  unfold quI
  simp only [List.getD, List.getElem?_map]
  cases q[i]? <;> rfl
theorem OwnI.still {w w1 : World} {base : Nat} {v : Value} {zs : List Int} (h : OwnI w base v zs) (hs : ∀ k, v.ownBlock = some k → w1.heap[k]? = w.heap[k]?) : OwnI w1 base v zs := rowKept h hs
theorem OwnI.far {w : World} {base : Nat} {v : Value} {zs : List Int} (h : OwnI w base v zs) (k : Nat) (hk : v.ownBlock = some k) : base ≤ k ∧ k < w.heap.size := World.ownsRow.lt h k hk
theorem OwnI.opened {w : World} {base : Nat} {v : Value} {zs : List Int} (h : OwnI w base v zs) (h0 : 0 < zs.length) : ∃ g cap cur, v = .slice (some ⟨g, 0, none⟩) zs.length cap ∧ base ≤ g ∧ Blk w g cur 2 ∧ ∀ i, i < zs.length → cur[i]? = some (.int .i64 (zs.getD i 0)) := by
  rcases h.2 with ⟨_, e⟩ | ⟨g, cap, cur, rfl, hbg, hB, hn, _, hs, ht⟩
  · omega
  · refine ⟨g, cap, cur, rfl, hbg, hB, fun i hi => ?_⟩
    have := congrArg (fun l => l[i]?) ht
    simp only [List.getElem?_take, List.getElem?_map, Nat.mul_one] at this
    rw [if_pos hi, List.getElem?_eq_getElem hi] at this
    simpa [List.getD, List.getElem?_eq_getElem hi] using this

/-! ### The machine of the queue while it is made -/
def stP (A : Aut) (L t S j k x : Nat) (q : List Nat) : Mach := mkM L S (qNx eqN (lstN A L t) L 0 k x q) (qOt A.o L 0 j q)
theorem stP_size (A : Aut) (L t S j k x : Nat) (q : List Nat) : (mc (stP A L t S j k x q)).size = 98 := by simp [mc, stP, mkM]
theorem stP_zero (A : Aut) (L t S : Nat) (q : List Nat) : mkM L S (fun _ _ => 0) (fun _ _ => 0) = stP A L t S 0 0 0 q := by
  unfold stP
  refine mkM_congr _ _ _ _ _ _ fun i y _ _ => ?_
  unfold qNx qOt
  rw [if_neg (by omega), if_neg (by omega)]
  exact ⟨rfl, rfl⟩
theorem stP_out (A : Aut) (L t S k : Nat) (hk : k < 16) (q : List Nat) : over (mc (stP A L t S k k 0 q)) (50 + k * 3) (c8 (oL A L (q.getD k 0))) = mc (stP A L t S (k + 1) k 0 q) := by
  unfold stP
  refine mkM_rowO _ _ _ _ _ k hk _ _ _ fun i y _ hy => ?_
  rw [qOt_step k q i y hy]
  rfl
theorem stP_next (A : Aut) (L t S j k x : Nat) (hk : k < 16) (hx3 : x < 3) (hx : x < L) (q : List Nat) : (mc (stP A L t S j k x q)).setIfInBounds (2 + k * 3 + x) (.int .u8 (bPos eqN q (lstN A L t (q.getD k 0) x) : Nat)) = mc (stP A L t S j k (x + 1) q) := by
  unfold stP
  exact mkM_setN _ _ _ _ _ k x hk hx3 _ fun i y _ _ => qNx_step k x hx q i y
theorem stP_row (A : Aut) (L t S j k : Nat) (q : List Nat) : stP A L t S j k L q = stP A L t S j (k + 1) 0 q := by
  unfold stP
  exact mkM_congr _ _ _ _ _ _ fun i y _ _ => ⟨qNx_row k q i y, rfl⟩
theorem stP_all (A : Aut) (L t : Nat) (q : List Nat) : stP A L t q.length q.length q.length 0 q = qM eqN (lstN A L t) A.o L 0 q := rfl
theorem stP_cell (A : Aut) (L t S j k x : Nat) (q : List Nat) {i : Nat} (hi : i < 98) : ∃ v, (mc (stP A L t S j k x q))[i]? = some v :=
  ⟨_, Array.getElem?_eq_getElem (by rw [stP_size]; exact hi)⟩
theorem built_m2 (L S : Int) : Try.prog.built 27 [(0, .int .i64 L), (1, .int .i64 S)] = some (mc (mkM L S (fun _ _ => 0) (fun _ _ => 0))) := by kernel_rfl
end Go.Proofs.Ytliohokcjgcmhaa
