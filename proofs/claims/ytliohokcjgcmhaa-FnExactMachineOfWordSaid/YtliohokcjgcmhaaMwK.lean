/- The whole queue of a group word's normal words, as an automaton: plain data. · The rows of the whole queue: the program's 'rows', 'divideRows'. · 'divideRows', 'MachineOfWord': the program. · 'MachineOfWord': what it answers, as plain data; the program. -/
import Derived.Test.YtliohokcjgcmhaaSeaC
import Derived.Test.YtliohokcjgcmhaaAuP
import Derived.Test.YtliohokcjgcmhaaMaI
import Derived.Maps.AppendAt
import Derived.Test.YtliohokcjgcmhaaOfM
import Derived.Test.YtliohokcjgcmhaaSeaU
import Derived.Test.YtliohokcjgcmhaaGrpT
namespace Go.Proofs.Ytliohokcjgcmhaa
open Go.RowKit

/-- The whole queue, from the word k on; none where it would become too long. -/
def rowsT (M : Mach) (L S : Nat) : Nat → Nat → List (List Int) → Option (List (List Int))
  | 0, _, Q => some Q
  | f + 1, k, Q => match Q[k]? with
    | none => some Q
    | some z => match pushS M L S Q (secK M z L) with | none => none | some Q' => rowsT M L S f (k + 1) Q'
theorem rowsT_end (M : Mach) (L S f k : Nat) (Q : List (List Int)) (h : Q.length ≤ k) : rowsT M L S (f + 1) k Q = some Q := by
  simp [rowsT, List.getElem?_eq_none h]
theorem rowsT_full (M : Mach) (L S f k : Nat) (Q : List (List Int)) (h : k < Q.length) (hp : pushS M L S Q (secK M Q[k] L) = none) : rowsT M L S (f + 1) k Q = none := by
  simp [rowsT, List.getElem?_eq_getElem h, hp]
theorem rowsT_next (M : Mach) (L S f k : Nat) (Q Q' : List (List Int)) (h : k < Q.length) (hp : pushS M L S Q (secK M Q[k] L) = some Q') : rowsT M L S (f + 1) k Q = rowsT M L S f (k + 1) Q' := by
  simp [rowsT, List.getElem?_eq_getElem h, hp]
/-- The words of a queue as the points of an automaton. -/
def wqA (M : Mach) (L S : Nat) (Q : List (List Int)) : Aut := ⟨fun i x => ((ledG M (Q.getD i []) x).1 : Int), fun i x => Q.idxOf (nf M L S (ledG M (Q.getD i []) x).2)⟩
/-- The sections of the first k words stand in the queue. -/
def Shut (M : Mach) (L S : Nat) (Q : List (List Int)) (k : Nat) : Prop := k ≤ Q.length ∧ ∀ i, i < k → ∀ x, x < L → nf M L S (ledG M (Q.getD i []) x).2 ∈ Q
theorem Shut.zero (M : Mach) (L S : Nat) (Q : List (List Int)) : Shut M L S Q 0 := ⟨Nat.zero_le _, fun i h => absurd h (by omega)⟩
theorem pushS_has (M : Mach) (L S : Nat) : ∀ (zs Q Q' : List (List Int)), pushS M L S Q zs = some Q' → ∀ z ∈ zs, nf M L S z ∈ Q'
  | [], _, _, _, z, hz => by cases hz
  | y :: zs, Q, Q', h, z, hz => by
    simp only [pushS] at h
    cases hq : pushQ M L S Q y with
    | none => rw [hq] at h; cases h
    | some Q1 =>
      rw [hq] at h
      rcases List.mem_cons.1 hz with rfl | hz
      · obtain ⟨t, rfl⟩ := pushS_pre M L S _ _ _ h
        exact List.mem_append_left _ (pushQ_pre M L S Q Q1 _ hq).2
      · exact pushS_has M L S zs Q1 Q' h z hz
theorem getD_pre {Q : List (List Int)} {i : Nat} (h : i < Q.length) (t : List (List Int)) : (Q ++ t).getD i [] = Q.getD i [] := by
  simp [List.getD, List.getElem?_append_left h]
theorem getD_at {Q : List (List Int)} {i : Nat} (h : i < Q.length) : Q.getD i [] = Q[i] := by
  simp [List.getD, List.getElem?_eq_getElem h]
theorem Shut.next {M : Mach} {L S : Nat} {Q Q' : List (List Int)} {k : Nat} (h : Shut M L S Q k) (hk : k < Q.length) (hp : pushS M L S Q (secK M Q[k] L) = some Q') : Shut M L S Q' (k + 1) := by
  have hh := pushS_has M L S _ _ _ hp
  obtain ⟨t, rfl⟩ := pushS_pre M L S _ _ _ hp
  refine ⟨by simp; omega, fun i hi x hx => ?_⟩
  rw [getD_pre (by omega)]
  rcases Nat.lt_or_ge i k with h1 | h1
  · exact List.mem_append_left _ (h.2 i h1 x hx)
  · obtain rfl : i = k := by omega
    rw [getD_at hk]
    exact hh _ (List.mem_map.2 ⟨x, List.mem_range.2 hx, rfl⟩)
theorem wqA_grow {M : Mach} {L S : Nat} {Q : List (List Int)} {k : Nat} (h : Shut M L S Q k) (t : List (List Int)) (i : Nat) (hi : i < k) : rowL (wqA M L S (Q ++ t)) L i = rowL (wqA M L S Q) L i := by
  have hl := h.1
  have ho : ∀ x, rowO (wqA M L S (Q ++ t)) L i x = rowO (wqA M L S Q) L i x := fun x => by
    unfold rowO wqA
    simp only [getD_pre (show i < Q.length by omega)]
  have hn : ∀ x, rowN (wqA M L S (Q ++ t)) L i x = rowN (wqA M L S Q) L i x := fun x => by
    unfold rowN wqA
    simp only [getD_pre (show i < Q.length by omega)]
    by_cases hx : x < L
    · rw [if_pos hx, if_pos hx, List.idxOf_append, if_pos (h.2 i hi x hx)]
    · rw [if_neg hx, if_neg hx]
  unfold rowL
  rw [ho, ho, ho, hn, hn, hn]
theorem rows_grow {M : Mach} {L S : Nat} {Q : List (List Int)} {k : Nat} (h : Shut M L S Q k) (t : List (List Int)) : ((List.range k).map (rowL (wqA M L S (Q ++ t)) L)).flatten = ((List.range k).map (rowL (wqA M L S Q) L)).flatten :=
  congrArg List.flatten (List.map_congr_left fun i hi => wqA_grow h t i (List.mem_range.1 hi))
theorem wqA_row {M : Mach} {L S : Nat} {Q Q' : List (List Int)} {k : Nat} (hk : k < Q.length) (hp : pushS M L S Q (secK M Q[k] L) = some Q') : rowL (wqA M L S Q') L k = imP M Q[k] 3 L ++ plP M L S Q' (secK M Q[k] L) (secK M Q[k] L).length := by
  obtain ⟨t, rfl⟩ := pushS_pre M L S _ _ _ hp
  have e : (Q ++ t).getD k [] = Q[k] := by rw [getD_pre hk, getD_at hk]
  have es : ∀ x, x < L → (secK M Q[k] L).getD x [] = (ledG M Q[k] x).2 := fun x hx => by
    simp [secK, List.getD, List.getElem?_range hx]
  have ho : ∀ x, rowO (wqA M L S (Q ++ t)) L k x = if x < L then ((ledG M Q[k] x).1 : Int) else 0 := fun x => by
    unfold rowO wqA
    simp only [e]
  have hn : ∀ x, (rowN (wqA M L S (Q ++ t)) L k x : Int) = if x < L then (((Q ++ t).idxOf (nf M L S ((secK M Q[k] L).getD x [])) : Nat) : Int) else 0 := fun x => by
    unfold rowN wqA
    simp only [e]
    by_cases hx : x < L
    · rw [if_pos hx, if_pos hx, es x hx]
    · rw [if_neg hx, if_neg hx]; rfl
  unfold rowL imP plP
  rw [ho, ho, ho, hn, hn, hn, secK_len]
  rfl
theorem pushS_ok (M : Mach) (L S n : Nat) : ∀ (zs Q Q' : List (List Int)), (∀ u ∈ Q, wordOk S n u) → (∀ z ∈ zs, wordOk S n z) → Q.length ≤ 200 → pushS M L S Q zs = some Q' → (∀ u ∈ Q', wordOk S n u) ∧ Q'.length ≤ 200
  | [], Q, Q', hQ, _, h200, h => by cases h; exact ⟨hQ, h200⟩
  | z :: zs, Q, Q', hQ, hz, h200, h => by
    simp only [pushS] at h
    cases hq : pushQ M L S Q z with
    | none => rw [hq] at h; cases h
    | some Q1 =>
      rw [hq] at h
      obtain ⟨a, b, _⟩ := pushQ_ok M L S n Q Q1 z hQ (hz z (List.mem_cons_self ..)) h200 hq
      exact pushS_ok M L S n zs Q1 Q' a (fun y hy => hz y (List.mem_cons_of_mem _ hy)) b h
theorem wqA_in {M : Mach} {L S : Nat} {Q : List (List Int)} (h : Shut M L S Q Q.length) : (wqA M L S Q).In L Q.length := fun i x hi hx => List.idxOf_lt_length_of_mem (h.2 i hi x hx)
theorem wqA_bytes {M : Mach} {L S : Nat} (hg : Good M L S) {Q : List (List Int)} (hQ : ∀ u ∈ Q, wordOk S 80 u) : (wqA M L S Q).Bytes L Q.length := fun i x hi hx => by
  have h3 := hg.L3
  have := (ledG_all hg (Q.getD i []) (by rw [getD_at hi]; exact (hQ _ (List.getElem_mem hi)).1) x hx).1
  show 0 ≤ (((ledG M (Q.getD i []) x).1 : Nat) : Int) ∧ (((ledG M (Q.getD i []) x).1 : Nat) : Int) ≤ 255
  omega
/-- Behind the end of the queue it is shut. -/
theorem rowsT_shut {M : Mach} {L S : Nat} : ∀ (f k : Nat) (Q R : List (List Int)), Shut M L S Q k → Q.length ≤ 200 → (∀ u ∈ Q, wordOk S 80 u) → Good M L S → 200 < k + f → rowsT M L S f k Q = some R → Shut M L S R R.length ∧ (∀ u ∈ R, wordOk S 80 u) ∧ R.length ≤ 200 ∧ Q <+: R
  | 0, k, Q, R, h, h200, _, _, hf, _ => absurd h.1 (by omega)
  | f + 1, k, Q, R, h, h200, hQ, hg, hf, hr => by
    rcases Nat.lt_or_ge k Q.length with h1 | h1
    · cases hp : pushS M L S Q (secK M Q[k] L) with
      | none => rw [rowsT_full M L S f k Q h1 hp] at hr; cases hr
      | some Q' =>
        rw [rowsT_next M L S f k Q Q' h1 hp] at hr
        obtain ⟨o1, o2⟩ := pushS_ok M L S 80 _ Q Q' hQ (sec_ok hg Q[k] (hQ _ (List.getElem_mem h1)) L (Nat.le_refl _)) h200 hp
        obtain ⟨a, b, c, d⟩ := rowsT_shut f (k + 1) Q' R (h.next h1 hp) o2 o1 hg (by omega) hr
        obtain ⟨t, rfl⟩ := pushS_pre M L S _ _ _ hp
        exact ⟨a, b, c, (List.prefix_append Q t).trans d⟩
    · rw [rowsT_end M L S f k Q h1] at hr
      cases hr
      obtain rfl : k = Q.length := by have := h.1; omega
      exact ⟨h, hQ, h200, List.prefix_refl _⟩
end Go.Proofs.Ytliohokcjgcmhaa

namespace Go.Proofs.Ytliohokcjgcmhaa
open Go.RowKit
open Go.Maps

theorem infob_rowW : (Try.prog.info? 137).map (fun i => (i.zero, i.size, i.bytes)) = some (some (.agg (c8 [0, 0, 0, 0, 0, 0])), 6, 6) := by kernel_rfl
theorem built_rowW (a b c d e f : Int) : Try.prog.built 137 [(0, .agg (c8 [a, b, c])), (1, .agg (c8 [d, e, f]))] = some #[.int .u8 a, .int .u8 b, .int .u8 c, .int .u8 d, .int .u8 e, .int .u8 f] := by kernel_rfl
/-- The rows of the first k points of a queue, one behind the other. -/
def rowsW (A : Aut) (L k : Nat) : List Int := ((List.range k).map (rowL A L)).flatten
theorem rowsW_succ (A : Aut) (L k : Nat) : rowsW A L (k + 1) = rowsW A L k ++ rowL A L k := by simp [rowsW, List.range_succ]
theorem rowsW_len (A : Aut) (L : Nat) : ∀ k, (rowsW A L k).length = 6 * k
  | 0 => rfl
  | k + 1 => by rw [rowsW_succ, List.length_append, rowsW_len A L k]; show 6 * k + 6 = _; omega
theorem rowsW_at (A : Aut) (L : Nat) : ∀ k i j, i < k → j < 6 → (rowsW A L k)[i * 6 + j]? = (rowL A L i)[j]?
  | 0, _, _, h, _ => absurd h (by omega)
  | k + 1, i, j, h, hj => by
    rw [rowsW_succ]
    rcases Nat.lt_or_ge i k with h1 | h1
    · rw [List.getElem?_append_left (by rw [rowsW_len]; omega), rowsW_at A L k i j h1 hj]
    · obtain rfl : i = k := by omega
      rw [List.getElem?_append_right (by rw [rowsW_len]; omega), rowsW_len, show i * 6 + j - 6 * i = j by omega]
theorem rowsW_seen {w : World} {base : Nat} {v : Value} {A : Aut} {L N : Nat} (h : OwnF 137 6 w base v N (rowsW A L N)) (h0 : 0 < N) : SeesR w v A L N := by
  obtain ⟨oa, cap, rfl, hq⟩ := h.view
  obtain ⟨g, cur, rfl, _, hB, hc⟩ := hq h0
  refine ⟨g, cap, cur, rfl, hB, fun i hi x hx => ?_⟩
  have key : ∀ j, j < 6 → cur[i * 6 + j]? = ((rowL A L i)[j]?).map (Value.int .u8) := fun j hj => by
    have hlt : i * 6 + j < (rowsW A L N).length := by rw [rowsW_len]; omega
    have h1 := hc (i * 6 + j) hlt
    have h2 := rowsW_at A L N i j hi hj
    rw [List.getElem?_eq_getElem hlt] at h2
    rw [h1, ← h2]; rfl
  rcases (show x = 0 ∨ x = 1 ∨ x = 2 by omega) with rfl | rfl | rfl
  · exact ⟨key 0 (by omega), key 3 (by omega)⟩
  · exact ⟨key 1 (by omega), key 4 (by omega)⟩
  · exact ⟨key 2 (by omega), key 5 (by omega)⟩
section
variable {ops : Array Oper} {rest : List Oper} {o : Oper} {a : Act} {w : World} {Q : Exit → Act → World → Prop}
/-- A row more. -/
theorem wpList_push_rowW (hgd : o.guard = none) (s x : Operand) (ho : o.op = .call { callee := .builtin .append, args := #[s, x], argTypes := #[63, 63] })
    (base : Nat) (v : Value) (n : Nat) (fl : List Int) (hs : a.eval s = v) (hown : OwnF 137 6 w base v n fl) (g c : Nat) (x0 x1 x2 x3 x4 x5 : Int) (hx : a.eval x = .slice (some ⟨g, 0, none⟩) 1 c) (hB : Blk w g #[.int .u8 x0, .int .u8 x1, .int .u8 x2, .int .u8 x3, .int .u8 x4, .int .u8 x5] 137)
    (hn : n ≤ 1048576) (hbase : base ≤ w.heap.size)
    (h : ∀ v' w', OwnF 137 6 w' base v' (n + 1) (fl ++ [x0, x1, x2, x3, x4, x5]) → Below base w w' → (∀ k, k < w.heap.size → some k ≠ v.ownBlock → w'.heap[k]? = w.heap[k]?) → (v'.ownBlock = v.ownBlock ∨ v'.ownBlock = some w.heap.size) → wpList Try.prog ops Q rest (a.put o.dst v') w') : wpList Try.prog ops Q (o :: rest) a w := by
  obtain ⟨i0, hi, hz0, hz1, hz2⟩ := info_parts infob_rowW
  obtain ⟨hl, hrow⟩ := hown
  refine wpList_append_own_at _ hgd s x 63 ho base 137 i0 (.agg (c8 [0, 0, 0, 0, 0, 0])) 6 6 Try.underlying63 hi hz0 hz1 hz2 rfl (by decide) v n _ hs hrow ⟨g, 0, none⟩ 1 c [.int .u8 x0, .int .u8 x1, .int .u8 x2, .int .u8 x3, .int .u8 x4, .int .u8 x5] hx rfl
    (fun j u' hu' => ?_) (fun u' hu' => ?_) (by unfold maxLen; omega) (by omega) hbase (fun v' w' hown' hg _ hat => h v' w' ⟨by simp [hl]; omega, by simpa using hown'⟩ (below_grown hrow hg hbase) hg.block hat)
  · match j, hu' with
    | 0, hu' => simp at hu'; subst hu'; simpa [Addr.add] using hB.cell 0
    | 1, hu' => simp at hu'; subst hu'; simpa [Addr.add] using hB.cell 1
    | 2, hu' => simp at hu'; subst hu'; simpa [Addr.add] using hB.cell 2
    | 3, hu' => simp at hu'; subst hu'; simpa [Addr.add] using hB.cell 3
    | 4, hu' => simp at hu'; subst hu'; simpa [Addr.add] using hB.cell 4
    | 5, hu' => simp at hu'; subst hu'; simpa [Addr.add] using hB.cell 5
  · simp at hu'
    rcases hu' with rfl | rfl | rfl | rfl | rfl | rfl <;> rfl
end
/-- What 'rows' answers. -/
def rowsOk (base g pm : Nat) (M : Mach) (L S : Nat) (w : World) (qv0 : Value) (vs0 : List Value) (RES : Option (List (List Int))) (e : Ending) (w' : World) : Prop :=
  match RES with
  | none => e = .returned (.tuple #[.slice none 0 0, .int .i64 3]) ∧ Below base w w'
  | some R => ∃ v qv vs D, e = .returned (.tuple #[v, .int .i64 0]) ∧ SeesR w' v (wqA M L S R) L R.length ∧ SrAt w' base g M L S R qv vs pm D ∧ Below base w w' ∧ Keeps (srFoot g pm qv0 vs0) (srFoot g pm qv vs) w w'
theorem three_of {l : List Int} (h : l.length = 3) : ∃ a b c, l = [a, b, c] := by
  match l, h with
  | [a, b, c], _ => exact ⟨a, b, c, rfl⟩

set_option maxRecDepth 100000 in
set_option maxHeartbeats 8000000 in
theorem rows_calls (M : Mach) (L S : Nat) (hg : Good M L S) (base g : Nat) (Q0 : List (List Int)) (qv0 : Value) (vs0 : List Value) (pm : Nat) (D0 : DataW Unit) (w : World) (hbase : base ≤ w.heap.size) (h0 : 0 < Q0.length) (hA0 : SrAt w base g M L S Q0 qv0 vs0 pm D0) :
    Calls Try.prog 55 #[.pointer (some ⟨g, 0, none⟩)] w (rowsOk base g pm M L S w qv0 vs0 (rowsT M L S 201 0 Q0)) := by
  obtain ⟨RES, hRES⟩ : ∃ r, rowsT M L S 201 0 Q0 = r := ⟨_, rfl⟩
  rw [hRES]
  have HRES := Lib.hid hRES
  clear hRES
  have hok := hg.ok
  have hL3 := hg.L3
  have hz3 := zero_b3
  have Hz3 : Hid ((c8 zer3).size = 3) := Lib.hid (by rw [c8_size]; rfl)
  have HG := Lib.hid hg
  have hO0 : OwnF 137 6 w w.heap.size (.slice none 0 0) 0 (rowsW (wqA M L S Q0) L 0) := OwnF.nil _ _ _ _
  have hk0 : Keeps (srFoot g pm qv0 vs0) (srFoot g pm qv0 vs0) w w := Keeps.refl _ _
  go_enter Try.func55, Try.ntmps55
  go_wp2
  go_loopw [4, 5] (fun pv i wr => ∃ (k : Nat) (Q : List (List Int)) (qv : Value) (vs : List Value) (D : DataW Unit) (rv : Value), rv = pv ∧ k ≤ Q.length ∧ i = .int .i64 k ∧ SrAt wr base g M L S Q qv vs pm D ∧ Keeps (srFoot g pm qv0 vs0) (srFoot g pm qv vs) w wr ∧ OwnF 137 6 wr w.heap.size rv k (rowsW (wqA M L S Q) L k) ∧ Hid (∀ b, rv.ownBlock = some b → ¬ srFoot g pm qv vs b) ∧ Hid (Shut M L S Q k ∧ 0 < Q.length) ∧ Hid (rowsT M L S (201 - k) k Q = RES) ∧ Below base w wr) (fun _ i _ => 201 - (intOf i).toNat)
  case atStart => exact ⟨0, Q0, qv0, vs0, D0, _, rfl, by omega, rfl, hA0, hk0, hO0, Lib.hid (fun b hb => by simp [Value.ownBlock] at hb), Lib.hid ⟨Shut.zero M L S Q0, h0⟩, HRES, Below.refl _ _⟩
  case round =>
    clear hA0 HRES hk0 hO0 h0
    obtain ⟨k, Q, qv, vs, D, rv, rfl, hk, rfl, hA, hkp, hR, Hrv, HSh, HR, hbw⟩ := hrel
    obtain ⟨oq, cq, rfl, hqc⟩ := hA.row.view
    have Hsq := Lib.hid (sc_queue hok L S (.slice oq Q.length cq) (.map (some pm)))
    have cQ := hA.blk.cell 114
    rw [Hsq.out] at cQ
    have hfew := hA.few
    have hszw := hkp.1
    have HA := Lib.hid hA
    by_cases hlt : k < Q.length
    · have hki : (k : Int) < (Q.length : Int) := by omega
      have hkv : k < vs.length := by rw [hA.row.len]; exact hlt
      obtain ⟨gq, rfl, hgq, hcell⟩ := hqc (by omega)
      have hy : wordOk S 80 Q[k] := hA.ok _ (List.getElem_mem hlt)
      have Hfu := Lib.hid (fun h2 => rowsT_full M L S (200 - k) k Q hlt h2)
      have Hne := Lib.hid (fun Q' h2 => rowsT_next M L S (200 - k) k Q Q' hlt h2)
      have Hsn := Lib.hid (fun Q' (h2 : pushS M L S Q (secK M Q[k] L) = some Q') => HSh.out.1.next hlt h2)
      have Hrow := Lib.hid (fun Q' (h2 : pushS M L S Q (secK M Q[k] L) = some Q') => wqA_row hlt h2)
      have Hgrow := Lib.hid (fun t => rows_grow HSh.out.1 t)
      have Hpre := Lib.hid (fun Q' (h2 : pushS M L S Q (secK M Q[k] L) = some Q') => pushS_pre M L S _ _ _ h2)
      rw [show 201 - k = 200 - k + 1 by omega] at HR
      have HWr := Lib.hid (fun W (hW : SrAt W base g M L S Q (.slice (some ⟨gq, 0, none⟩) Q.length cq) vs pm D) => wreath_calls M L S hg g vs[k] Q[k] hy.1 (Nat.le_trans hy.2 (by omega)) W (hW.mat hok) (hW.row.own k hkv hlt).sees)
      have HSo := Lib.hid (sec_ok (n := 80) hg Q[k] hy L (Nat.le_refl _))
      have Hsl := Lib.hid (secK_len M Q[k] L)
      have Hcell := Lib.hid (fun W (hW : SrAt W base g M L S Q (.slice (some ⟨gq, 0, none⟩) Q.length cq) vs pm D) => hW.row.cell k hkv)
      obtain ⟨a0, a1, a2, him⟩ := three_of (imP_len M Q[k] 3 L)
      rw [him] at HWr Hrow
      have Hims : Hid ((c8 [a0, a1, a2]).size = 3) := Lib.hid (by rw [c8_size]; rfl)
      have Himc : Hid (cut (c8 [a0, a1, a2]) 0 3 = c8 [a0, a1, a2]) := Lib.hid (cut_all _ _ Hims.out)
      have Himo : Hid (over (c8 zer3) 0 (c8 [a0, a1, a2]) = c8 [a0, a1, a2]) := Lib.hid (over_all _ _ (by rw [Hims.out, Hz3.out]))
      have Him1 := Lib.hid (c8_one [a0, a1, a2])
      have HltA := Lib.hid hA.lt
      have Hbu := Lib.hid (fun d e f => built_rowW a0 a1 a2 d e f)
      clear him
      generalize c8 [a0, a1, a2] = im at *
      generalize secK M Q[k] L = secs at *
      generalize Q[k] = y at *
      generalize vs[k] = uk at *
      clear hcell hqc hy hkv
      obtain ⟨w2, rfl⟩ : ∃ x, x = wr := ⟨_, rfl⟩
      have hdr : Below w2.heap.size w2 w2.drew := (Below.refl _ _).drew
      have hS0' : SrAt w2.drew base g M L S Q (.slice (some ⟨gq, 0, none⟩) Q.length cq) vs pm D := hA.below hdr
      clear hA
      go_wp2
      refine wp_region_held_drew (S := fun W => SrAt W base g M L S Q (.slice (some ⟨gq, 0, none⟩) Q.length cq) vs pm D) (by kernel_rfl) hS0' (fun hS0 => ?_)
      clear hS0' cQ
      (refine hK_take 0 (.pointer (some ⟨g, 0, none⟩)) rfl (by kernel_rfl) (by kernel_rfl) (by kernel_rfl) (fun _ _ _ h => h) rfl (fun W _ => by go_simp) hS0 ?_; (intro K hK; go_simp; refine hK _ ?_; clear hK K))
      (refine hK_take 1 (.pointer (some ⟨g, 0, none⟩)) rfl (by kernel_rfl) (by kernel_rfl) (by kernel_rfl) (fun _ _ _ h => h) rfl (fun W _ => by go_simp) hS0 ?_; (intro K hK; go_simp; refine hK _ ?_; clear hK K))
      (refine hK_take 2 (.pointer (some ⟨g, 0, none⟩)) rfl (by kernel_rfl) (by kernel_rfl) (by kernel_rfl) (fun _ _ _ h => h) rfl (fun W _ => by go_simp) hS0 ?_; (intro K hK; go_simp; refine hK _ ?_; clear hK K))
      (refine hK_take 3 (.pointer (some ⟨g, 0, none⟩)) rfl (by kernel_rfl) (by kernel_rfl) (by kernel_rfl) (fun _ _ _ h => h) rfl (fun W _ => by go_simp) hS0 ?_; (intro K hK; go_simp; refine hK _ ?_; clear hK K))
      (refine hK_take 4 (.pointer (some ⟨g, 0, none⟩)) rfl (by kernel_rfl) (by kernel_rfl) (by kernel_rfl) (fun _ _ _ h => h) rfl (fun W _ => by go_simp) hS0 ?_; (intro K hK; go_simp; refine hK _ ?_; clear hK K))
      (refine hK_take 5 (.pointer (some ⟨g, 114, none⟩)) rfl (by kernel_rfl) (by kernel_rfl) (by kernel_rfl) (fun _ _ _ h => h) rfl (fun W _ => by go_simp) hS0 ?_; (intro K hK; go_simp; refine hK _ ?_; clear hK K))
      (refine hK_take 6 (.slice (some ⟨gq, 0, none⟩) Q.length cq) rfl (by kernel_rfl) (by kernel_rfl) (by kernel_rfl) (fun _ _ _ h => h) rfl (fun W hW => by have c1 := hW.blk.cell 114; rw [Hsq.out] at c1; clear hW; go_simp) hS0 ?_; (intro K hK; go_simp; refine hK _ ?_; clear hK K))
      (refine hK_take 7 (.int .i64 (k : Int)) rfl (by kernel_rfl) (by kernel_rfl) (by kernel_rfl) (fun _ _ _ h => h) rfl (fun W _ => by go_simp) hS0 ?_; (intro K hK; go_simp; refine hK _ ?_; clear hK K))
      (refine hK_take 8 (.pointer (some ⟨gq, k, none⟩)) rfl (by kernel_rfl) (by kernel_rfl) (by kernel_rfl) (fun _ _ _ h => h) rfl (fun W _ => by go_simp) hS0 ?_; (intro K hK; go_simp; refine hK _ ?_; clear hK K))
      (refine hK_take 9 uk rfl (by kernel_rfl) (by kernel_rfl) (by kernel_rfl) (fun _ _ _ h => h) rfl (fun W hW => by have c1 := Hcell.out W hW; clear hW; go_simp) hS0 ?_; (intro K hK; go_simp; refine hK _ ?_; clear hK K))
      refine wpAnyH_ready (rs := [10, 14]) (by kernel_rfl) (by simp) ?_
      refine AllReadyH.cons rfl (fun K hK => ?_) (AllReadyH.cons rfl (fun K hK => ?_) AllReadyH.nil)
      · go_simp
        refine (HWr.out _ hS0).mono ?_
        rintro e w5 ⟨v5, us, rfl, hO5, hb5⟩
        have hlo : ∀ q, inLV v5 us q → w2.heap.size ≤ q := fun q hq => (hO5.lt q hq).1
        have hbd5 : Below w2.heap.size w2 w5 := hdr.trans hb5
        have hS5 : SrAt w5 base g M L S Q (.slice (some ⟨gq, 0, none⟩) Q.length cq) vs pm D := hS0.below hb5
        (go_simp; refine hK.out _ _ (hS5) (fun hS1 => ?_); clear hK K)
        (refine hK_take 11 (.tuple #[.agg im, v5]) rfl (by kernel_rfl) (by kernel_rfl) (by kernel_rfl) (fun _ _ _ h => h) rfl (fun W _ => by go_simp) hS1 ?_; (intro K hK; go_simp; refine hK _ ?_; clear hK K))
        (refine hK_take 12 (.agg im) rfl (by kernel_rfl) (by kernel_rfl) (by kernel_rfl) (fun _ _ _ h => h) rfl (fun W _ => by go_simp) hS1 ?_; (intro K hK; go_simp; refine hK _ ?_; clear hK K))
        (refine hK_take 13 (v5) rfl (by kernel_rfl) (by kernel_rfl) (by kernel_rfl) (fun _ _ _ h => h) rfl (fun W _ => by go_simp) hS1 ?_; (intro K hK; go_simp; refine hK _ ?_; clear hK K))
        have hal : Below w5.heap.size w5 (w5.alloc (.cells (c8 zer3) 22)) := by (repeat (first | exact Below.refl _ _ | refine below_drew' ?_ | refine below_drewN' ?_ _ | refine below_alloc' ?_ _ | refine below_set' ?_ (by (try simp); (try omega)) _ | refine below_step ?_ (by assumption)))
        have hS6 : SrAt (w5.alloc (.cells (c8 zer3) 22)) base g M L S Q (.slice (some ⟨gq, 0, none⟩) Q.length cq) vs pm D := hS5.below hal
        have hO6 := (hO5.base_le (b := w2.heap.size) (Nat.le_refl _)).below hal
        have hX6 : Blk (w5.alloc (.cells (c8 zer3) 22)) w5.heap.size (c8 zer3) 22 := Blk.new _ _ _
        have hbd6 := below_allocB hbd5 hbd5.size (.cells (c8 zer3) 22)
        have hgO : ∀ q, inLV v5 us q → q ≠ w5.heap.size := fun q hq e => by have := (hO5.lt q hq).2; omega
        have hg2 : w2.heap.size ≤ w5.heap.size := hbd5.size
        (refine wpAnyH_ready (rs := [14]) (by kernel_rfl) (by simp) ?_; refine AllReadyH.cons rfl (fun K hK => ?_) AllReadyH.nil); go_simp; skip
        (go_simp; refine hK.out _ _ (hS6) (fun hS2 => ?_); clear hK K)
        clear hS0 hS1 hO5 hb5 hbd5 hal hS5 hS6
        generalize w5.alloc (.cells (c8 zer3) 22) = w6 at *
        generalize w5.heap.size = g8 at *
        refine hK_store 15 rfl (by kernel_rfl) rfl 22 _ _ rfl g8 0 im rfl rfl _ _ hX6 (by rw [Hims.out, Hz3.out]; omega) (by rw [Hims.out]; exact size_b3) Him1.out im Himo.out (fun w7 hs => ⟨hS2.same (fun q hq => hs.other q (by have := (HltA.out q hq).2; omega)), fun hS3 => ?_⟩)
        (intro K hK; go_simp; refine hK _ ?_; clear hK K)
        (refine hK_take 16 (v5) rfl (by kernel_rfl) (by kernel_rfl) (by kernel_rfl) (fun _ _ _ h => h) rfl (fun W _ => by go_simp) hS3 ?_; (intro K hK; go_simp; refine hK _ ?_; clear hK K))
        refine wpAnyH_done (by kernel_rfl) ?_ _
        have hA7 := hS3
        have hX7 := hs.blk
        have hO7 := hO6.same (fun q hq => hs.other q (hgO q hq))
        have hbd7 : Below w2.heap.size w2 w7 := hs.below _ _ hg2 hbd6
        have hsz7 : w2.heap.size ≤ w7.heap.size := by rw [hs.size]; exact hbd6.size
        have Hdis : Hid (∀ q, inLV v5 us q → ¬ srFoot g pm (.slice (some ⟨gq, 0, none⟩) Q.length cq) vs q) := Lib.hid (fun q h1 h2 => by have q1 := hlo q h1; have q2 := (HltA.out q h2).2; omega)
        have hg7 : ¬ srFoot g pm (.slice (some ⟨gq, 0, none⟩) Q.length cq) vs g8 := fun h2 => by have q2 := (HltA.out _ h2).2; omega
        clear hS2 hS3 hs hO6 hX6 hgO hlo hbd6
        have hsb : base ≤ w2.heap.size := by omega
        have hsz8 : base ≤ w7.heap.size := by omega
        have HPA := Lib.hid (placeAll_calls M L S HG.out base g Q _ vs pm D w2.heap.size v5 us secs (by rw [Hsl.out]; omega) HSo.out w7 hsz8 hA7 hO7 Hdis.out)
        have hbw7 := hbw.trans (below_le hbd7 hsb)
        have hkp7 := hkp.trans (Keeps.of_below hbd7)
        have hR7 := hR.same (w1 := w7) (fun b hb => hbd7.block b (hR.ltt b hb).2)
        have hl7 := hX7.lt
        clear hA7 hO7
        cases hp : pushS M L S Q secs with
        | none =>
          have Hend := Lib.hid (HR.out.symm.trans (Hfu.out hp))
          have HPN := Lib.hid (HPA.out none hp)
          clear HPA hp
          go_wp2_with (first | (go_at_call 115; refine HPN.out.mono ?_; rintro e w9 ⟨c9, hc9, rfl, hb9⟩; have Hc9 : Hid ((c8 c9).size = 3) := Lib.hid (by rw [c8_size, hc9]); have Ho9 : Hid (over (c8 zer3) 0 (c8 c9) = c8 c9) := Lib.hid (over_all _ _ (by rw [Hc9.out, Hz3.out])); have H19 := Lib.hid (c8_one c9); clear hc9; have hX9 : Blk (w9.alloc (.cells (c8 zer3) 22)) w9.heap.size (c8 zer3) 22 := Blk.new _ _ _; have hs9 := hb9.size) | ((with_reducible show wpList _ _ _ _ _ _); refine wpList_store_row rfl 22 (.tmp 8) _ rfl w9.heap.size 0 (c8 c9) rfl rfl _ _ hX9 (by rw [Hz3.out, Hc9.out]; omega) (by rw [Hc9.out]; exact size_b3) H19.out _ Ho9.out ?_; intro w10 hs10))
          go_ret2
          rw [Hend.out]
          exact ⟨rfl, hs10.below _ _ (by omega) (below_allocB (hbw7.trans hb9) (by omega) _)⟩
        | some Q' =>
          have HR2 := Lib.hid ((Hne.out Q' hp).symm.trans HR.out)
          have HPS := Lib.hid (HPA.out (some Q') hp)
          have HS2 := Lib.hid (Hsn.out Q' hp)
          obtain ⟨t, ht⟩ := Hpre.out Q' hp
          have Hgr := Lib.hid (Hgrow.out t)
          rw [← ht] at Hgr
          have HRw := Lib.hid (Hrow.out Q' hp)
          have hle : Q.length ≤ Q'.length := by rw [ht]; simp
          clear HPA hp ht
          obtain ⟨b0, b1, b2, hpl⟩ := three_of (plP_len M L S Q' secs secs.length)
          rw [hpl] at HRw
          have HRw2 : Hid (rowL (wqA M L S Q') L k = [a0, a1, a2, b0, b1, b2]) := Lib.hid HRw.out
          have HPS2 : Hid (Calls Try.prog 115 #[.pointer (some ⟨g, 0, none⟩), v5] w7 fun e w' => e = .returned (.tuple #[.agg (c8 [b0, b1, b2]), .bool true]) ∧ Below base w7 w' ∧ ∃ qv' vs' D', SrAt w' base g M L S Q' qv' vs' pm D' ∧ Keeps (srFoot g pm (.slice (some ⟨gq, 0, none⟩) Q.length cq) vs) (srFoot g pm qv' vs') w7 w') := Lib.hid (HPS.out.mono (fun e w' h => by unfold PlR at h; rw [← hpl]; exact h))
          clear HPS HRw hpl
          have Hc9 : Hid ((c8 [b0, b1, b2]).size = 3) := Lib.hid (by rw [c8_size]; rfl)
          have Hcc9 : Hid (cut (c8 [b0, b1, b2]) 0 3 = c8 [b0, b1, b2]) := Lib.hid (cut_all _ _ Hc9.out)
          have Ho9 : Hid (over (c8 zer3) 0 (c8 [b0, b1, b2]) = c8 [b0, b1, b2]) := Lib.hid (over_all _ _ (by rw [Hc9.out, Hz3.out]))
          have H19 := Lib.hid (c8_one [b0, b1, b2])
          have HB2 := Lib.hid (Hbu.out b0 b1 b2)
          have hk20 : k ≤ 1048576 := by omega
          generalize c8 [b0, b1, b2] = pl at *
          go_wp2_with (first | (go_at_call 115; refine HPS2.out.mono ?_; rintro e w9 ⟨rfl, hb9, q9, v9, D9, hA9, hk9⟩; have hX9 : Blk (w9.alloc (.cells (c8 zer3) 22)) w9.heap.size (c8 zer3) 22 := Blk.new _ _ _; have hs9 := hb9.size; have hY9 := Blk.alloc (show Blk w9 g8 im 22 from (hk9.2 _ hl7 hg7).1.trans hX7) (.cells (c8 zer3) 22); have hl9 : g8 < w9.heap.size := Nat.lt_of_lt_of_le hl7 hk9.1; have hal9 : Below w9.heap.size w9 (w9.alloc (.cells (c8 zer3) 22)) := (by (repeat (first | exact Below.refl _ _ | refine below_drew' ?_ | refine below_drewN' ?_ _ | refine below_alloc' ?_ _ | refine below_set' ?_ (by (try simp); (try omega)) _ | refine below_step ?_ (by assumption)))); have hA9a := hA9.below hal9; have hkp9 := (hkp7.trans hk9).trans (Keeps.of_below hal9); have hbw9 := (hbw7.trans hb9).trans (below_le hal9 (by omega)); have hR9 := hR7.same (w1 := w9.alloc (.cells (c8 zer3) 22)) (fun b hb => (hal9.block b (Nat.lt_of_lt_of_le (hR7.ltt b hb).2 hk9.1)).trans (hk9.2 b (hR7.ltt b hb).2 (Hrv.out b hb)).1); have Hrv9 := Lib.hid (fun b hb => (hk9.2 b (hR7.ltt b hb).2 (Hrv.out b hb)).2); have HltA9 := Lib.hid hA9.lt; have hsa9 := hal9.size; clear hb9 hk9 hal9) | ((with_reducible show wpList _ _ _ _ _ _); refine wpList_store_row rfl 22 (.tmp 8) _ rfl w9.heap.size 0 pl rfl rfl _ _ hX9 (by rw [Hz3.out, Hc9.out]; omega) (by rw [Hc9.out]; exact size_b3) H19.out _ Ho9.out ?_; go_loud (intro w10 hs10; have hX10 := hs10.blk; have hY10 := hs10.keep (by omega) hY9; have hA10 := hA9a.same (fun q hq => hs10.other q (by have := (HltA9.out q hq).2; omega)); have hkp10 : Keeps (srFoot g pm qv0 vs0) (srFoot g pm q9 v9) w w10 := ⟨Nat.le_trans hkp9.1 (Nat.le_of_eq hs10.size.symm), fun b hb hn => ⟨(hs10.other b (by omega)).trans (hkp9.2 b hb hn).1, (hkp9.2 b hb hn).2⟩⟩; have hR10 := hR9.same (fun b hb => hs10.other b (by have := (hR7.ltt b hb).2; omega)); have hbw10 := hs10.below _ _ (by omega) hbw9; have hsz10 := Nat.le_of_eq hs10.size.symm; clear hs10 hX9 hY9 hA9a hkp9 hR9 hbw9)) | ((with_reducible show wpList _ _ _ _ _ _); refine wpList_load_blk rfl 22 (.tmp 6) rfl g8 0 rfl im _ hY10 3 (by rw [Hims.out]; omega) _ Try.underlying22 rfl size_b3 ?_; rw [Himc.out]) | ((with_reducible show wpList _ _ _ _ _ _); refine wpList_load_blk rfl 22 (.tmp 8) rfl w9.heap.size 0 rfl pl _ hX10 3 (by rw [Hc9.out]; omega) _ Try.underlying22 rfl size_b3 ?_; rw [Hcc9.out]) | ((with_reducible show wpList _ _ _ _ _ _); refine wpList_build2 rfl 137 0 1 _ _ rfl (.agg im) (.agg pl) rfl rfl _ HB2.out ?_; go_loud (have hal11 : Below w10.heap.size w10 (w10.alloc (.cells #[.int .u8 a0, .int .u8 a1, .int .u8 a2, .int .u8 b0, .int .u8 b1, .int .u8 b2] 137)) := (by (repeat (first | exact Below.refl _ _ | refine below_drew' ?_ | refine below_drewN' ?_ _ | refine below_alloc' ?_ _ | refine below_set' ?_ (by (try simp); (try omega)) _ | refine below_step ?_ (by assumption)))); have hR11 := hR10.same (w1 := w10.alloc (.cells #[.int .u8 a0, .int .u8 a1, .int .u8 a2, .int .u8 b0, .int .u8 b1, .int .u8 b2] 137)) (fun b hb => hal11.block b (hR10.ltt b hb).2); have hB11 : Blk (w10.alloc (.cells #[.int .u8 a0, .int .u8 a1, .int .u8 a2, .int .u8 b0, .int .u8 b1, .int .u8 b2] 137)) w10.heap.size #[.int .u8 a0, .int .u8 a1, .int .u8 a2, .int .u8 b0, .int .u8 b1, .int .u8 b2] 137 := Blk.new _ _ _; have hbw11 := below_allocB hbw10 (by omega) (.cells #[.int .u8 a0, .int .u8 a1, .int .u8 a2, .int .u8 b0, .int .u8 b1, .int .u8 b2] 137))) | (at_builtin; go_loud (refine wpList_push_rowW rfl (.tmp 41) (.tmp 45) rfl w.heap.size rv k (rowsW (wqA M L S Q) L k) rfl hR11 w10.heap.size 1 a0 a1 a2 b0 b1 b2 rfl hB11 hk20 (Nat.le_trans hkp10.1 hal11.size) ?_; intro v12 w12 hR12 hb12 hs12 hat12)))
          have hA12 := (hA10.below hal11).same (w1 := w12) (fun q hq => hs12 q (by have := ((hA10.below hal11).lt q hq).2; exact this) (fun e => Hrv9.out q e.symm hq))
          have hs11 := hal11.size
          have hs12s := hb12.size
          have hsk10 := hkp10.1
          have hkp12 : Keeps (srFoot g pm qv0 vs0) (srFoot g pm q9 v9) w w12 := ⟨by omega, fun b hb hn => ⟨(hs12 b (by omega) (fun e => by have := (hR.ltt b e.symm).1; omega)).trans ((hal11.block b (by omega)).trans (hkp10.2 b hb hn).1), (hkp10.2 b hb hn).2⟩⟩
          have hne12 : ∀ b, v12.ownBlock = some b → ¬ srFoot g pm q9 v9 b := fun b hb hf => by
            rcases hat12 with e | e
            · exact Hrv9.out b (e ▸ hb) hf
            · rw [e] at hb
              cases hb
              have := (HltA9.out _ hf).2
              omega
          go_roundw
          case rel => exact ⟨k + 1, Q', q9, v9, D9, _, rfl, by omega, by go_num, hA12, hkp12, by rw [rowsW_succ, HRw2.out, show rowsW (wqA M L S Q') L k = rowsW (wqA M L S Q) L k from Hgr.out]; exact hR12, Lib.hid hne12, Lib.hid ⟨HS2.out, by omega⟩, by rw [show 201 - (k + 1) = 200 - k by omega]; exact HR2, hbw11.trans (below_le hb12 hbase)⟩
          case measure => simp [intOf] <;> omega
      · go_simp
        have hal : Below w2.drew.heap.size w2.drew (w2.alloc (.cells (c8 zer3) 22)).drew := (show Below w2.drew.heap.size w2.drew (w2.drew.alloc (.cells (c8 zer3) 22)) by (repeat (first | exact Below.refl _ _ | refine below_drew' ?_ | refine below_drewN' ?_ _ | refine below_alloc' ?_ _ | refine below_set' ?_ (by (try simp); (try omega)) _ | refine below_step ?_ (by assumption))))
        have hX5 : Blk (w2.alloc (.cells (c8 zer3) 22)).drew w2.heap.size (c8 zer3) 22 := Blk.new _ _ _
        have hS5 : SrAt (w2.alloc (.cells (c8 zer3) 22)).drew base g M L S Q (.slice (some ⟨gq, 0, none⟩) Q.length cq) vs pm D := hS0.below hal
        have hbd4 : Below w2.heap.size w2 (w2.alloc (.cells (c8 zer3) 22)).drew := hdr.trans hal
        have hs4 : (w2.alloc (.cells (c8 zer3) 22)).drew.heap.size = w2.heap.size + 1 := by simp
        (go_simp; refine hK.out _ _ (hS5) (fun hS1 => ?_); clear hK K)
        clear hal hS5
        generalize (w2.alloc (.cells (c8 zer3) 22)).drew = w4 at *
        (refine wpAnyH_ready (rs := [10]) (by kernel_rfl) (by simp) ?_; refine AllReadyH.cons rfl (fun K hK => ?_) AllReadyH.nil); go_simp; refine (HWr.out _ hS1).mono ?_; rintro e w6 ⟨v5, us, rfl, hO6', hb6⟩
        have hlo : ∀ q, inLV v5 us q → w2.heap.size ≤ q := fun q hq => by have := (hO6'.lt q hq).1; omega
        have hgO : ∀ q, inLV v5 us q → q ≠ w2.heap.size := fun q hq e => by have := (hO6'.lt q hq).1; omega
        have hO6 := hO6'.base_le (b := w2.heap.size) (by omega)
        have hX6 := hX5.keptAll hb6
        have hbd6 := below_stepB hbd4 (by omega) hb6
        have hS6 : SrAt w6 base g M L S Q (.slice (some ⟨gq, 0, none⟩) Q.length cq) vs pm D := hS1.below hb6
        (go_simp; refine hK.out _ _ (hS6) (fun hS2 => ?_); clear hK K)
        (refine hK_take 11 (.tuple #[.agg im, v5]) rfl (by kernel_rfl) (by kernel_rfl) (by kernel_rfl) (fun _ _ _ h => h) rfl (fun W _ => by go_simp) hS2 ?_; (intro K hK; go_simp; refine hK _ ?_; clear hK K))
        (refine hK_take 12 (.agg im) rfl (by kernel_rfl) (by kernel_rfl) (by kernel_rfl) (fun _ _ _ h => h) rfl (fun W _ => by go_simp) hS2 ?_; (intro K hK; go_simp; refine hK _ ?_; clear hK K))
        (refine hK_take 13 (v5) rfl (by kernel_rfl) (by kernel_rfl) (by kernel_rfl) (fun _ _ _ h => h) rfl (fun W _ => by go_simp) hS2 ?_; (intro K hK; go_simp; refine hK _ ?_; clear hK K))
        clear hS0 hS1 hX5 hb6 hbd4 hS6 hO6' hs4
        obtain ⟨g8, hg8⟩ : ∃ x, x = w2.heap.size := ⟨_, rfl⟩
        rw [← hg8] at hX6 hgO
        have hg2 : w2.heap.size ≤ g8 := by omega
        rw [← hg8]
        clear hg8
        refine hK_store 15 rfl (by kernel_rfl) rfl 22 _ _ rfl g8 0 im rfl rfl _ _ hX6 (by rw [Hims.out, Hz3.out]; omega) (by rw [Hims.out]; exact size_b3) Him1.out im Himo.out (fun w7 hs => ⟨hS2.same (fun q hq => hs.other q (by have := (HltA.out q hq).2; omega)), fun hS3 => ?_⟩)
        (intro K hK; go_simp; refine hK _ ?_; clear hK K)
        (refine hK_take 16 (v5) rfl (by kernel_rfl) (by kernel_rfl) (by kernel_rfl) (fun _ _ _ h => h) rfl (fun W _ => by go_simp) hS3 ?_; (intro K hK; go_simp; refine hK _ ?_; clear hK K))
        refine wpAnyH_done (by kernel_rfl) ?_ _
        have hA7 := hS3
        have hX7 := hs.blk
        have hO7 := hO6.same (fun q hq => hs.other q (hgO q hq))
        have hbd7 : Below w2.heap.size w2 w7 := hs.below _ _ hg2 hbd6
        have hsz7 : w2.heap.size ≤ w7.heap.size := by rw [hs.size]; exact hbd6.size
        have Hdis : Hid (∀ q, inLV v5 us q → ¬ srFoot g pm (.slice (some ⟨gq, 0, none⟩) Q.length cq) vs q) := Lib.hid (fun q h1 h2 => by have q1 := hlo q h1; have q2 := (HltA.out q h2).2; omega)
        have hg7 : ¬ srFoot g pm (.slice (some ⟨gq, 0, none⟩) Q.length cq) vs g8 := fun h2 => by have q2 := (HltA.out _ h2).2; omega
        clear hS2 hS3 hs hO6 hX6 hgO hlo hbd6
        have hsb : base ≤ w2.heap.size := by omega
        have hsz8 : base ≤ w7.heap.size := by omega
        have HPA := Lib.hid (placeAll_calls M L S HG.out base g Q _ vs pm D w2.heap.size v5 us secs (by rw [Hsl.out]; omega) HSo.out w7 hsz8 hA7 hO7 Hdis.out)
        have hbw7 := hbw.trans (below_le hbd7 hsb)
        have hkp7 := hkp.trans (Keeps.of_below hbd7)
        have hR7 := hR.same (w1 := w7) (fun b hb => hbd7.block b (hR.ltt b hb).2)
        have hl7 := hX7.lt
        clear hA7 hO7
        cases hp : pushS M L S Q secs with
        | none =>
          have Hend := Lib.hid (HR.out.symm.trans (Hfu.out hp))
          have HPN := Lib.hid (HPA.out none hp)
          clear HPA hp
          go_wp2_with (first | (go_at_call 115; refine HPN.out.mono ?_; rintro e w9 ⟨c9, hc9, rfl, hb9⟩; have Hc9 : Hid ((c8 c9).size = 3) := Lib.hid (by rw [c8_size, hc9]); have Ho9 : Hid (over (c8 zer3) 0 (c8 c9) = c8 c9) := Lib.hid (over_all _ _ (by rw [Hc9.out, Hz3.out])); have H19 := Lib.hid (c8_one c9); clear hc9; have hX9 : Blk (w9.alloc (.cells (c8 zer3) 22)) w9.heap.size (c8 zer3) 22 := Blk.new _ _ _; have hs9 := hb9.size) | ((with_reducible show wpList _ _ _ _ _ _); refine wpList_store_row rfl 22 (.tmp 8) _ rfl w9.heap.size 0 (c8 c9) rfl rfl _ _ hX9 (by rw [Hz3.out, Hc9.out]; omega) (by rw [Hc9.out]; exact size_b3) H19.out _ Ho9.out ?_; intro w10 hs10))
          go_ret2
          rw [Hend.out]
          exact ⟨rfl, hs10.below _ _ (by omega) (below_allocB (hbw7.trans hb9) (by omega) _)⟩
        | some Q' =>
          have HR2 := Lib.hid ((Hne.out Q' hp).symm.trans HR.out)
          have HPS := Lib.hid (HPA.out (some Q') hp)
          have HS2 := Lib.hid (Hsn.out Q' hp)
          obtain ⟨t, ht⟩ := Hpre.out Q' hp
          have Hgr := Lib.hid (Hgrow.out t)
          rw [← ht] at Hgr
          have HRw := Lib.hid (Hrow.out Q' hp)
          have hle : Q.length ≤ Q'.length := by rw [ht]; simp
          clear HPA hp ht
          obtain ⟨b0, b1, b2, hpl⟩ := three_of (plP_len M L S Q' secs secs.length)
          rw [hpl] at HRw
          have HRw2 : Hid (rowL (wqA M L S Q') L k = [a0, a1, a2, b0, b1, b2]) := Lib.hid HRw.out
          have HPS2 : Hid (Calls Try.prog 115 #[.pointer (some ⟨g, 0, none⟩), v5] w7 fun e w' => e = .returned (.tuple #[.agg (c8 [b0, b1, b2]), .bool true]) ∧ Below base w7 w' ∧ ∃ qv' vs' D', SrAt w' base g M L S Q' qv' vs' pm D' ∧ Keeps (srFoot g pm (.slice (some ⟨gq, 0, none⟩) Q.length cq) vs) (srFoot g pm qv' vs') w7 w') := Lib.hid (HPS.out.mono (fun e w' h => by unfold PlR at h; rw [← hpl]; exact h))
          clear HPS HRw hpl
          have Hc9 : Hid ((c8 [b0, b1, b2]).size = 3) := Lib.hid (by rw [c8_size]; rfl)
          have Hcc9 : Hid (cut (c8 [b0, b1, b2]) 0 3 = c8 [b0, b1, b2]) := Lib.hid (cut_all _ _ Hc9.out)
          have Ho9 : Hid (over (c8 zer3) 0 (c8 [b0, b1, b2]) = c8 [b0, b1, b2]) := Lib.hid (over_all _ _ (by rw [Hc9.out, Hz3.out]))
          have H19 := Lib.hid (c8_one [b0, b1, b2])
          have HB2 := Lib.hid (Hbu.out b0 b1 b2)
          have hk20 : k ≤ 1048576 := by omega
          generalize c8 [b0, b1, b2] = pl at *
          go_wp2_with (first | (go_at_call 115; refine HPS2.out.mono ?_; rintro e w9 ⟨rfl, hb9, q9, v9, D9, hA9, hk9⟩; have hX9 : Blk (w9.alloc (.cells (c8 zer3) 22)) w9.heap.size (c8 zer3) 22 := Blk.new _ _ _; have hs9 := hb9.size; have hY9 := Blk.alloc (show Blk w9 g8 im 22 from (hk9.2 _ hl7 hg7).1.trans hX7) (.cells (c8 zer3) 22); have hl9 : g8 < w9.heap.size := Nat.lt_of_lt_of_le hl7 hk9.1; have hal9 : Below w9.heap.size w9 (w9.alloc (.cells (c8 zer3) 22)) := (by (repeat (first | exact Below.refl _ _ | refine below_drew' ?_ | refine below_drewN' ?_ _ | refine below_alloc' ?_ _ | refine below_set' ?_ (by (try simp); (try omega)) _ | refine below_step ?_ (by assumption)))); have hA9a := hA9.below hal9; have hkp9 := (hkp7.trans hk9).trans (Keeps.of_below hal9); have hbw9 := (hbw7.trans hb9).trans (below_le hal9 (by omega)); have hR9 := hR7.same (w1 := w9.alloc (.cells (c8 zer3) 22)) (fun b hb => (hal9.block b (Nat.lt_of_lt_of_le (hR7.ltt b hb).2 hk9.1)).trans (hk9.2 b (hR7.ltt b hb).2 (Hrv.out b hb)).1); have Hrv9 := Lib.hid (fun b hb => (hk9.2 b (hR7.ltt b hb).2 (Hrv.out b hb)).2); have HltA9 := Lib.hid hA9.lt; have hsa9 := hal9.size; clear hb9 hk9 hal9) | ((with_reducible show wpList _ _ _ _ _ _); refine wpList_store_row rfl 22 (.tmp 8) _ rfl w9.heap.size 0 pl rfl rfl _ _ hX9 (by rw [Hz3.out, Hc9.out]; omega) (by rw [Hc9.out]; exact size_b3) H19.out _ Ho9.out ?_; go_loud (intro w10 hs10; have hX10 := hs10.blk; have hY10 := hs10.keep (by omega) hY9; have hA10 := hA9a.same (fun q hq => hs10.other q (by have := (HltA9.out q hq).2; omega)); have hkp10 : Keeps (srFoot g pm qv0 vs0) (srFoot g pm q9 v9) w w10 := ⟨Nat.le_trans hkp9.1 (Nat.le_of_eq hs10.size.symm), fun b hb hn => ⟨(hs10.other b (by omega)).trans (hkp9.2 b hb hn).1, (hkp9.2 b hb hn).2⟩⟩; have hR10 := hR9.same (fun b hb => hs10.other b (by have := (hR7.ltt b hb).2; omega)); have hbw10 := hs10.below _ _ (by omega) hbw9; have hsz10 := Nat.le_of_eq hs10.size.symm; clear hs10 hX9 hY9 hA9a hkp9 hR9 hbw9)) | ((with_reducible show wpList _ _ _ _ _ _); refine wpList_load_blk rfl 22 (.tmp 6) rfl g8 0 rfl im _ hY10 3 (by rw [Hims.out]; omega) _ Try.underlying22 rfl size_b3 ?_; rw [Himc.out]) | ((with_reducible show wpList _ _ _ _ _ _); refine wpList_load_blk rfl 22 (.tmp 8) rfl w9.heap.size 0 rfl pl _ hX10 3 (by rw [Hc9.out]; omega) _ Try.underlying22 rfl size_b3 ?_; rw [Hcc9.out]) | ((with_reducible show wpList _ _ _ _ _ _); refine wpList_build2 rfl 137 0 1 _ _ rfl (.agg im) (.agg pl) rfl rfl _ HB2.out ?_; go_loud (have hal11 : Below w10.heap.size w10 (w10.alloc (.cells #[.int .u8 a0, .int .u8 a1, .int .u8 a2, .int .u8 b0, .int .u8 b1, .int .u8 b2] 137)) := (by (repeat (first | exact Below.refl _ _ | refine below_drew' ?_ | refine below_drewN' ?_ _ | refine below_alloc' ?_ _ | refine below_set' ?_ (by (try simp); (try omega)) _ | refine below_step ?_ (by assumption)))); have hR11 := hR10.same (w1 := w10.alloc (.cells #[.int .u8 a0, .int .u8 a1, .int .u8 a2, .int .u8 b0, .int .u8 b1, .int .u8 b2] 137)) (fun b hb => hal11.block b (hR10.ltt b hb).2); have hB11 : Blk (w10.alloc (.cells #[.int .u8 a0, .int .u8 a1, .int .u8 a2, .int .u8 b0, .int .u8 b1, .int .u8 b2] 137)) w10.heap.size #[.int .u8 a0, .int .u8 a1, .int .u8 a2, .int .u8 b0, .int .u8 b1, .int .u8 b2] 137 := Blk.new _ _ _; have hbw11 := below_allocB hbw10 (by omega) (.cells #[.int .u8 a0, .int .u8 a1, .int .u8 a2, .int .u8 b0, .int .u8 b1, .int .u8 b2] 137))) | (at_builtin; go_loud (refine wpList_push_rowW rfl (.tmp 41) (.tmp 45) rfl w.heap.size rv k (rowsW (wqA M L S Q) L k) rfl hR11 w10.heap.size 1 a0 a1 a2 b0 b1 b2 rfl hB11 hk20 (Nat.le_trans hkp10.1 hal11.size) ?_; intro v12 w12 hR12 hb12 hs12 hat12)))
          have hA12 := (hA10.below hal11).same (w1 := w12) (fun q hq => hs12 q (by have := ((hA10.below hal11).lt q hq).2; exact this) (fun e => Hrv9.out q e.symm hq))
          have hs11 := hal11.size
          have hs12s := hb12.size
          have hsk10 := hkp10.1
          have hkp12 : Keeps (srFoot g pm qv0 vs0) (srFoot g pm q9 v9) w w12 := ⟨by omega, fun b hb hn => ⟨(hs12 b (by omega) (fun e => by have := (hR.ltt b e.symm).1; omega)).trans ((hal11.block b (by omega)).trans (hkp10.2 b hb hn).1), (hkp10.2 b hb hn).2⟩⟩
          have hne12 : ∀ b, v12.ownBlock = some b → ¬ srFoot g pm q9 v9 b := fun b hb hf => by
            rcases hat12 with e | e
            · exact Hrv9.out b (e ▸ hb) hf
            · rw [e] at hb
              cases hb
              have := (HltA9.out _ hf).2
              omega
          go_roundw
          case rel => exact ⟨k + 1, Q', q9, v9, D9, _, rfl, by omega, by go_num, hA12, hkp12, by rw [rowsW_succ, HRw2.out, show rowsW (wqA M L S Q') L k = rowsW (wqA M L S Q) L k from Hgr.out]; exact hR12, Lib.hid hne12, Lib.hid ⟨HS2.out, by omega⟩, by rw [show 201 - (k + 1) = 200 - k by omega]; exact HR2, hbw11.trans (below_le hb12 hbase)⟩
          case measure => simp [intOf] <;> omega
    · obtain rfl : k = Q.length := by omega
      have Hend : Hid (RES = some Q) := Lib.hid (by rw [← HR.out, show 201 - Q.length = (200 - Q.length) + 1 by omega]; exact rowsT_end M L S _ _ Q (Nat.le_refl _))
      have hfin := rowsW_seen hR HSh.out.2
      obtain ⟨orv, crv, hrv, _⟩ := hR.view
      subst hrv
      clear hqc
      go_wp2
      go_ret2
      rw [Hend.out]
      exact ⟨_, _, _, _, rfl, hfin, hA, hbw, hkp⟩
end Go.Proofs.Ytliohokcjgcmhaa

namespace Go.Proofs.Ytliohokcjgcmhaa
open Go.RowKit
open Go.Maps

theorem kcA_now {A : Aut} {L N t : Nat} (h0 : 0 < N) (h : cntB (aRep A L (t + 1)) N = kcA A L N t) : AStill A L N t := by
  have h1 : 1 ≤ cntB (aRep A L (t + 1)) N := kcA_pos h0
  unfold kcA at h
  split at h
  · omega
  · exact still_of_cnt (by omega)

set_option maxRecDepth 100000 in
set_option maxHeartbeats 2000000 in
theorem divideRows_calls (A : Aut) (L N : Nat) (hL : L ≤ 3) (h0 : 0 < N) (hN : N ≤ 256) (hA : A.In L N) (hb : A.Bytes L N) (rv : Value) (w : World) (hr : SeesR w rv A L N) :
    Calls Try.prog 57 #[rv] w fun e w' => (∃ t v, e = .returned v ∧ AStill A L N t ∧ OwnN w' w.heap.size v ((List.range N).map (aNum A L t))) ∧ Below w.heap.size w w' := by
  obtain ⟨gr, capr, curr, rfl, hBr, hcr⟩ := id hr
  have Hr := Lib.hid hr
  have hmk := mk_bytes N (by omega)
  have hF1 : Blk (w.alloc (.cells (nats (List.replicate N 0)) 5)) w.heap.size (nats (List.replicate N 0)) 5 := Blk.new w _ _
  have hbel0 : Below w.heap.size w (w.alloc (.cells (nats (List.replicate N 0)) 5)) := by (repeat (first | exact Below.refl _ _ | refine below_drew' ?_ | refine below_drewN' ?_ _ | refine below_alloc' ?_ _ | refine below_set' ?_ (by (try simp); (try omega)) _ | refine below_step ?_ (by assumption)))
  have hO1 : OwnN (w.alloc (.cells (nats (List.replicate N 0)) 5)) w.heap.size (.slice (some ⟨w.heap.size, 0, none⟩) N N) ((List.range N).map (aNum A L 0)) := by
    have h1 := OwnN.made (base := w.heap.size) (ks := List.replicate N 0) (Nat.le_refl _) hF1 rfl (by simp; omega)
    have h2 : (List.range N).map (aNum A L 0) = List.replicate N 0 := by
      rw [show (aNum A L 0) = fun _ => 0 from funext fun q => aNum_zero A L q, List.map_const', List.length_range]
    rw [h2]
    simpa using h1
  clear hr hBr hcr hF1
  have Hin := Lib.hid hA
  have Hby := Lib.hid hb
  have HDv := Lib.hid (fun t v W hW hv => divideOnce_calls A L N t hL h0 hN Hin.out Hby.out (.slice (some ⟨gr, 0, none⟩) N capr) v W hW hv)
  clear hA hb
  go_enter Try.func57, Try.ntmps57
  go_wp2
  obtain ⟨w1, hw1⟩ : ∃ w', w.alloc (.cells (nats (List.replicate N 0)) 5) = w' := ⟨_, rfl⟩
  obtain ⟨v1, hv1⟩ : ∃ v, Value.slice (some ⟨w.heap.size, 0, none⟩) N N = v := ⟨_, rfl⟩
  rw [hw1, hv1] at hO1
  rw [hw1] at hbel0
  rw [hw1, hv1]
  clear hw1 hv1 hmk
  go_loopw [3, 4] (fun cv cn wr => ∃ (t : Nat) (v : Value), v = cv ∧ cn = .int .i64 (kcA A L N t : Nat) ∧ kcA A L N t ≤ N ∧ OwnN wr w.heap.size v ((List.range N).map (aNum A L t)) ∧ Below w.heap.size w wr) (fun _ cn _ => N + 1 - (intOf cn).toNat)
  case atStart => exact ⟨0, _, rfl, rfl, Nat.zero_le _, hO1, hbel0⟩
  case round =>
    clear hO1 hbel0
    obtain ⟨t, v, rfl, rfl, hkn, hO, hbw⟩ := hrel
    have HD := Lib.hid (HDv.out t v wr (Hr.out.below hbw) (hO.sees h0))
    have Hst := Lib.hid (fun h => kcA_now (A := A) (L := L) (t := t) h0 h)
    have Hlt := Lib.hid (fun h => kcA_lt (A := A) (L := L) (t := t) h0 h)
    have Hks := Lib.hid (kcA_succ A L N t)
    generalize cntB (aRep A L (t + 1)) N = c1 at *
    generalize hkc : kcA A L N t = kc at *
    clear hkc
    by_cases he : c1 = kc
    · have heq : ((c1 : Int) == (kc : Int)) = true := by simpa using congrArg Int.ofNat he
      have hs := Hst.out he
      have HS := Lib.hid hs
      clear he hs
      go_wp2_with (go_at_call 116; refine HD.out.mono ?_; rintro e w1 ⟨v1, rfl, hO1, hb1⟩)
      go_ret
      exact ⟨⟨t, _, rfl, HS.out, hO.below hb1⟩, below_step hbw hb1⟩
    · have heq : ((c1 : Int) == (kc : Int)) = false := by simp; omega
      have hl := Hlt.out he
      rw [Hks.out] at hl
      obtain ⟨hl1, hl2⟩ := hl
      clear he
      go_wp2_with (go_at_call 116; refine HD.out.mono ?_; rintro e w1 ⟨v1, rfl, hO1, hb1⟩)
      go_roundw
      case rel => exact ⟨t + 1, _, rfl, by rw [Hks.out], by rw [Hks.out]; exact hl2, hO1.base_le hbw.size, below_step hbw hb1⟩
      case measure => simp [intOf] <;> omega
end Go.Proofs.Ytliohokcjgcmhaa

namespace Go.Proofs.Ytliohokcjgcmhaa
open Go.RowKit
open Go.Maps

/-- The machine of a point, and the code. -/
def mkR (A : Aut) (L p : Nat) : Mach := if (setQ A L p).length ≤ 16 then setM A L p else zeroM
def mkC (A : Aut) (L p : Nat) : Int := if (setQ A L p).length ≤ 16 then 0 else 3
theorem maR_mk {A : Aut} {L N t p : Nat} (hA : A.In L N) (hN : N ≤ 256) (ht : AStill A L N t) (hp : p < N) : maR A (aNum A L t) L p = mkR A L p ∧ maC A (aNum A L t) L p = mkC A L p := by
  have hm := numQ_mach hA hN ht hp
  have hl : (bAll (fE (aNum A L t)) A.n L p 256).length = (setQ A L p).length := (numQ_pair hA hN ht hp 256).len
  unfold maR maC mkR mkC
  rw [hl]
  by_cases h : (setQ A L p).length ≤ 16
  · simp only [if_pos h]; exact ⟨hm, trivial⟩
  · simp only [if_neg h]; exact ⟨trivial, trivial⟩
theorem mkR_ok {A : Aut} {L N p : Nat} (hA : A.In L N) (hb : A.Bytes L N) (hN : N ≤ 256) (hp : p < N) (hL : L ≤ 3) : (mkR A L p).Ok := by
  have ht := aStill_from hA 256 hN
  have hm := numQ_mach hA hN ht hp
  have hl : (bAll (fE (aNum A L 256)) A.n L p 256).length = (setQ A L p).length := (numQ_pair hA hN ht hp 256).len
  unfold mkR
  split
  · rename_i h
    rw [← hm]
    refine maM_ok (A := A) (f := aNum A L 256) (L := L) (N := N) (S := (bAll (fE (aNum A L 256)) A.n L p 256).length) (k := (bAll (fE (aNum A L 256)) A.n L p 256).length) (x := 0) (q := bAll (fE (aNum A L 256)) A.n L p 256) hb ?_ (by omega) (Nat.le_refl _) hL
    exact bAll_all (fun p => p < N) L (fun r hr x hx => hA r x hr hx) p hp 256
  · exact zeroM_ok
/-- The whole queue of a word. -/
def wqQ (M : Mach) (L S : Nat) (zs : List Int) : Option (List (List Int)) := rowsT M L S 201 0 [nf M L S zs]
theorem wqQ_some {M : Mach} {L S : Nat} (hg : Good M L S) {zs : List Int} (hz : wordOk S 80 zs) {R : List (List Int)} (h : wqQ M L S zs = some R) : Shut M L S R R.length ∧ (∀ u ∈ R, wordOk S 80 u) ∧ R.length ≤ 200 ∧ [nf M L S zs] <+: R :=
  rowsT_shut 201 0 [nf M L S zs] R (Shut.zero _ _ _ _) (by simp) (fun u hu => by rw [List.mem_singleton.1 hu]; exact nf_ok M L S 80 zs hz) hg (by omega) h
/-- The machine of a list of numbers, and the code. -/
def lmR (M : Mach) (L S : Nat) (zs : List Int) : Mach := match wqQ M L S zs with
  | none => zeroM
  | some R => mkR (wqA M L S R) L 0
def lmC (M : Mach) (L S : Nat) (zs : List Int) : Int := match wqQ M L S zs with
  | none => 3
  | some R => mkC (wqA M L S R) L 0
theorem lm_none {M : Mach} {L S : Nat} {zs : List Int} (h : wqQ M L S zs = none) : lmR M L S zs = zeroM ∧ lmC M L S zs = 3 := by
  unfold lmR lmC; rw [h]; exact ⟨rfl, rfl⟩
theorem lm_some {M : Mach} {L S : Nat} {zs : List Int} {R : List (List Int)} (h : wqQ M L S zs = some R) : lmR M L S zs = mkR (wqA M L S R) L 0 ∧ lmC M L S zs = mkC (wqA M L S R) L 0 := by
  unfold lmR lmC; rw [h]; exact ⟨rfl, rfl⟩
theorem pre_pos {R : List (List Int)} {z : List Int} (h : [z] <+: R) : 0 < R.length := by
  have := h.length_le; simp at this; omega
theorem lmR_ok {M : Mach} {L S : Nat} (hg : Good M L S) {zs : List Int} (hz : wordOk S 80 zs) : (lmR M L S zs).Ok := by
  cases h : wqQ M L S zs with
  | none => rw [(lm_none h).1]; exact zeroM_ok
  | some R =>
    obtain ⟨h1, h2, h3, h4⟩ := wqQ_some hg hz h
    rw [(lm_some h).1]
    exact mkR_ok (wqA_in h1) (wqA_bytes hg h2) (by omega) (pre_pos h4) hg.L3
def mwR (M : Mach) (zs : List Int) : Mach := if isGrp M zs then lmR M M.L.toNat M.S.toNat zs else zeroM
def mwC (M : Mach) (zs : List Int) : Int := if isGrp M zs then lmC M M.L.toNat M.S.toNat zs else 1
theorem mw_good {M : Mach} {L S : Nat} (hg : Good M L S) {zs : List Int} (h : isGrp M zs = true) : mwR M zs = lmR M L S zs ∧ mwC M zs = lmC M L S zs := by
  have h1 : M.L.toNat = L := by rw [hg.hL]; rfl
  have h2 : M.S.toNat = S := by rw [hg.hS]; rfl
  unfold mwR mwC
  rw [if_pos h, if_pos h, h1, h2]
  exact ⟨rfl, rfl⟩
theorem mw_bad {M : Mach} {zs : List Int} (h : isGrp M zs = false) : mwR M zs = zeroM ∧ mwC M zs = 1 := by
  unfold mwR mwC
  rw [h]
  exact ⟨rfl, rfl⟩
theorem mwR_ok {M : Mach} (hok : M.Ok) (zs : List Int) : (mwR M zs).Ok := by
  cases h : isGrp M zs
  · rw [(mw_bad h).1]; exact zeroM_ok
  · obtain ⟨L, S, hg⟩ := Good.of hok (isGrp_parts h).1
    rw [(mw_good hg h).1]
    exact lmR_ok hg ⟨nums_of hg h, by have := isGrp_len h; omega⟩
theorem ret_mc {R R' : Mach} {c c' : Int} (h : R = R') (h' : c = c') : Ending.returned (.tuple #[.agg (mc R), .int .i64 c]) = Ending.returned (.tuple #[.agg (mc R'), .int .i64 c']) := by rw [h, h']

set_option maxRecDepth 100000 in
set_option maxHeartbeats 4000000 in
theorem iMachineOfWord_calls (M : Mach) (hok : M.Ok) (v : Value) (zs : List Int) (w : World) (hv : SeesI w v zs) :
    Calls Try.prog 18 #[.agg (mc M), v] w fun e w' => e = .returned (.tuple #[.agg (mc (mwR M zs)), .int .i64 (mwC M zs)]) ∧ Below w.heap.size w w' := by
  have hz := zero_mach
  have F1 : Hid (cut (mc M) 0 98 = mc M) := Lib.hid (cut_all _ _ (mc_size hok)); have F2 : Hid (0 + 98 ≤ (mc M).size) := Lib.hid (by rw [mc_size hok]; omega)
  have HzS : Hid ((mc zeroM).size = 98) := Lib.hid (mc_size zeroM_ok)
  have hB : Blk ((w.alloc (.cells (mc M) 27)).alloc (.cells (mc zeroM) 27)) w.heap.size (mc M) 27 := (Blk.new w _ _).alloc _
  have hX : Blk ((w.alloc (.cells (mc M) 27)).alloc (.cells (mc zeroM) 27)) (w.heap.size + 1) (mc zeroM) 27 := Blk.new_at _ _ _ _ (by simp)
  have hbw0 : Below w.heap.size w ((w.alloc (.cells (mc M) 27)).alloc (.cells (mc zeroM) 27)) := by (repeat (first | exact Below.refl _ _ | refine below_drew' ?_ | refine below_drewN' ?_ _ | refine below_alloc' ?_ _ | refine below_set' ?_ (by (try simp); (try omega)) _ | refine below_step ?_ (by assumption)))
  have hvB := hv.below hbw0
  have hs0 : w.heap.size + 1 < ((w.alloc (.cells (mc M) 27)).alloc (.cells (mc zeroM) 27)).heap.size := by simp
  clear hv
  cases hm : isGrp M zs
  · have Hr := Lib.hid (mw_bad hm)
    have HG := Lib.hid (IsGroupWord_calls M hok v zs _ hvB)
    rw [hm] at HG
    clear hm hvB hs0
    go_enter Try.func18, Try.ntmps18
    go_wp2_with (first | (with_reducible show wpList _ _ _ _ _ _; refine wpList_load_blk rfl 27 (.tmp 2) rfl w.heap.size 0 rfl (mc M) _ (hB) 98 F2.out _ Try.underlying27 rfl size_mach ?_; rw [F1.out]) | (go_at_call 53; refine HG.out.mono ?_; rintro e w1 ⟨rfl, hb1⟩; have hX1 := hX.keptAll hb1; have hbw1 := below_step hbw0 hb1; have hge1 := hbw1.size) | ((with_reducible show wpList _ _ _ _ _ _); refine wpList_store_blk rfl 27 (.tmp 4) (.tmp 12) rfl (w.heap.size + 1) 0 (mc zeroM) rfl rfl (mc zeroM) _ hX1 (by rw [HzS.out]; omega) (by rw [HzS.out]; exact size_mach) (mc_one _) ?_; intro w4 hb4 hkeep _ hbl; rw [zero_over] at hb4; have hbw4 := hbl _ _ (by omega) hbw1; clear hkeep hbl))
    exact bodyPost_cell1 rfl rfl hb4 Try.underlying27 rfl (by rw [HzS.out]; exact size_mach) rfl ⟨ret_mc Hr.out.1.symm Hr.out.2.symm, hbw4⟩
  · obtain ⟨L, S, hg⟩ := Good.of hok (isGrp_parts hm).1
    have hzs : wordOk S 80 zs := ⟨nums_of hg hm, by have := isGrp_len hm; omega⟩
    have HG := Lib.hid (IsGroupWord_calls M hok v zs _ hvB)
    rw [hm] at HG
    have Hr := Lib.hid (mw_good hg hm)
    have HS := Lib.hid (fun W (hW : SeesI W v zs) => newSearch_calls M L S hg v zs hzs W hW)
    have HRo := Lib.hid (fun base g qv vs pm D W hbase hA => rows_calls M L S hg base g [nf M L S zs] qv vs pm D W hbase (by simp) hA)
    rw [show rowsT M L S 201 0 [nf M L S zs] = wqQ M L S zs from rfl] at HRo
    cases hq : wqQ M L S zs with
    | none =>
      have Hl := Lib.hid (lm_none hq)
      rw [hq] at HRo
      clear hq hg hzs hm
      go_enter Try.func18, Try.ntmps18
      go_wp2_with (first | (with_reducible show wpList _ _ _ _ _ _; refine wpList_load_blk rfl 27 (.tmp 2) rfl w.heap.size 0 rfl (mc M) _ (by first | exact hB1 | exact hB) 98 F2.out _ Try.underlying27 rfl size_mach ?_; rw [F1.out]) | (go_at_call 53; refine HG.out.mono ?_; rintro e w1 ⟨rfl, hb1⟩; have hv1 := hvB.below hb1; have hB1 := hB.keptAll hb1; have hX1 := hX.keptAll hb1; have hbw1 := below_step hbw0 hb1; have hge1 := hbw1.size; clear hB hX) | (go_at_call 54; refine (HS.out _ hv1).mono ?_; rintro e w2 ⟨g, rfl, ⟨q2, v2, p2, D2, hA2⟩, hb2⟩; have hX2 := hX1.keptAll hb2; have hbw2 := below_step hbw1 hb2; have hs2 := hb2.size) | (go_at_call 55; refine (HRo.out w1.heap.size g q2 v2 p2 D2 _ hs2 hA2).mono ?_; rintro e w3 ⟨rfl, hb3⟩; have hX3 := hX2.kept hb3 hX1.lt; have hbw3 := hbw2.trans (below_le hb3 hge1); have hge3 := hbw3.size) | ((with_reducible show wpList _ _ _ _ _ _); refine wpList_store_blk rfl 27 (.tmp 4) (.tmp 22) rfl (w.heap.size + 1) 0 (mc zeroM) rfl rfl (mc zeroM) _ hX3 (by rw [HzS.out]; omega) (by rw [HzS.out]; exact size_mach) (mc_one _) ?_; intro w4 hb4 hkeep _ hbl; rw [zero_over] at hb4; have hbw4 := hbl _ _ (by omega) hbw3; clear hkeep hbl))
      exact bodyPost_cell1 rfl rfl hb4 Try.underlying27 rfl (by rw [HzS.out]; exact size_mach) rfl ⟨ret_mc (by rw [Hr.out.1, Hl.out.1]) (by rw [Hr.out.2, Hl.out.2]), hbw4⟩
    | some R =>
      have Hl := Lib.hid (lm_some hq)
      obtain ⟨h1, h2, h3, h4⟩ := wqQ_some hg hzs hq
      have hin := wqA_in h1
      have hby := wqA_bytes hg h2
      have hp := pre_pos h4
      have hN : R.length ≤ 256 := by omega
      have hrok := mkR_ok hin hby hN hp hg.L3
      have HDv := Lib.hid (fun rv W hW => divideRows_calls (wqA M L S R) L R.length hg.L3 hp hN hin hby rv W hW)
      have HMa := Lib.hid (fun t (ht : AStill (wqA M L S R) L R.length t) rv cv W hr (hc : SeesK W cv R.length (aNum (wqA M L S R) L t)) => machineAt_calls (wqA M L S R) L R.length (aNum (wqA M L S R) L t) hg.L2 hg.L3 hN hin hby (fun i hi => by have := aNum_le (wqA M L S R) L t i; omega) rv cv 0 hp W hr hc)
      have Hmk := Lib.hid (fun t ht => maR_mk (t := t) hin hN ht hp)
      have HRs := Lib.hid (mc_size hrok)
      have hcL := mc_L M
      rw [hg.hL] at hcL
      have HcL := Lib.hid hcL
      have Hp := Lib.hid hp
      rw [hq] at HRo
      have HRo2 : Hid (∀ (base g : Nat) (qv : Value) (vs : List Value) (pm : Nat) (D : DataW Unit) (W : World), base ≤ W.heap.size → SrAt W base g M L S [nf M L S zs] qv vs pm D → Calls Try.prog 55 #[.pointer (some ⟨g, 0, none⟩)] W fun e w' => ∃ v, e = .returned (.tuple #[v, .int .i64 0]) ∧ SeesR w' v (wqA M L S R) L R.length ∧ Below base W w') := Lib.hid (fun base g qv vs pm D W hb hA => (HRo.out base g qv vs pm D W hb hA).mono (fun e w' h => by
        obtain ⟨v, _, _, _, h1, h2, _, h3, _⟩ := h
        exact ⟨v, h1, h2, h3⟩))
      clear HRo hq hg hzs hm h1 h2 h3 h4 hin hby hN hrok hcL hp
      generalize wqA M L S R = A at *
      generalize R.length = N at *
      go_enter Try.func18, Try.ntmps18
      go_wp2_with (first | (with_reducible show wpList _ _ _ _ _ _; refine wpList_load_blk rfl 27 (.tmp 2) rfl w.heap.size 0 rfl (mc M) _ (by first | exact hB1 | exact hB) 98 F2.out _ Try.underlying27 rfl size_mach ?_; rw [F1.out]) | (go_at_call 53; refine HG.out.mono ?_; rintro e w1 ⟨rfl, hb1⟩; have hv1 := hvB.below hb1; have hB1 := hB.keptAll hb1; have hX1 := hX.keptAll hb1; have hbw1 := below_step hbw0 hb1; have hge1 := hbw1.size; clear hB hX) | (go_at_call 54; refine (HS.out _ hv1).mono ?_; rintro e w2 ⟨g, rfl, ⟨q2, v2, p2, D2, hA2⟩, hb2⟩; have hX2 := hX1.keptAll hb2; have hB2 := hB1.keptAll hb2; have hbw2 := below_step hbw1 hb2; have hs2 := hb2.size) | (go_at_call 55; refine (HRo2.out w1.heap.size g q2 v2 p2 D2 _ hs2 hA2).mono ?_; rintro e w3 ⟨rv, rfl, hR3, hb3⟩; have hX3 := hX2.kept hb3 hX1.lt; have hB3 := hB2.kept hb3 hB1.lt; have hbw3 := hbw2.trans (below_le hb3 hge1); have hge3 := hbw3.size))
      obtain ⟨gr, capr, curr, hrv, _⟩ := id hR3
      subst hrv
      have hdr : Below w3.heap.size w3 w3.drew := (Below.refl _ _).drew
      have hS0' : Blk w3.drew w.heap.size (mc M) 27 := hB3.drew
      have hR4 := hR3.below hdr
      have hX4 := hX3.drew
      have hbw4 := below_step hbw3 hdr
      refine wp_region_held_drew (S := fun W => Blk W w.heap.size (mc M) 27) (by kernel_rfl) hS0' (fun hS0 => ?_)
      clear hS0' hB1 hB2 hB3 hX1 hX2 hX3 hR3
      generalize w3.drew = wd at *
      (refine hK_take 0 (.pointer (some ⟨w.heap.size, 0, none⟩)) rfl (by kernel_rfl) (by kernel_rfl) (by kernel_rfl) (fun _ _ _ h => h) rfl (fun W _ => by go_simp) hS0 ?_; (intro K hK; go_simp; refine hK _ ?_; clear hK K))
      (refine hK_take 1 (.int .i64 (L : Int)) rfl (by kernel_rfl) (by kernel_rfl) (by kernel_rfl) (fun _ _ _ h => h) rfl (fun W hW => by have c1 := hW.cell 0; rw [HcL.out] at c1; clear hW; go_simp) hS0 ?_; (intro K hK; go_simp; refine hK _ ?_; clear hK K))
      (refine hK_take 2 (.slice (some ⟨gr, 0, none⟩) N capr) rfl (by kernel_rfl) (by kernel_rfl) (by kernel_rfl) (fun _ _ _ h => h) rfl (fun W _ => by go_simp) hS0 ?_; (intro K hK; go_simp; refine hK _ ?_; clear hK K))
      (refine hK_take 3 (.slice (some ⟨gr, 0, none⟩) N capr) rfl (by kernel_rfl) (by kernel_rfl) (by kernel_rfl) (fun _ _ _ h => h) rfl (fun W _ => by go_simp) hS0 ?_; (intro K hK; go_simp; refine hK _ ?_; clear hK K))
      (refine wpAnyH_ready (rs := [4]) (by kernel_rfl) (by simp) ?_; refine AllReadyH.cons rfl (fun K hK => ?_) AllReadyH.nil); go_simp; refine (HDv.out _ _ hR4).mono ?_; rintro e w5 ⟨⟨t, cv, rfl, ht, hO5⟩, hb5⟩; have hB5 := Blk.keptAll hS0 hb5; have hX5 := hX4.keptAll hb5; have hbw5 := below_step hbw4 hb5; have hR5 := hR4.below hb5; have hC5 := hO5.sees Hp.out
      (go_simp; refine hK.out _ _ (hB5) (fun hS1 => ?_); clear hK K)
      (refine wpAnyH_ready (rs := [5]) (by kernel_rfl) (by simp) ?_; refine AllReadyH.cons rfl (fun K hK => ?_) AllReadyH.nil); go_simp; refine (HMa.out t ht _ _ _ hR5 hC5).mono ?_; rintro e w6 ⟨rfl, hb6⟩; have hB6 := hB5.keptAll hb6; have hX6 := hX5.keptAll hb6; have hbw6 := below_step hbw5 hb6
      rw [(Hmk.out t ht).1, (Hmk.out t ht).2]
      (go_simp; refine hK.out _ _ (hB6) (fun hS2 => ?_); clear hK K)
      clear hS0 hS1 hX4 hX5 hbw4 hbw5 hR4 hR5 hC5 hO5 hb5 hb6 hB5
      (refine hK_take 6 (.agg (mc (mkR A L 0))) rfl (by kernel_rfl) (by kernel_rfl) (by kernel_rfl) (fun _ _ _ h => h) rfl (fun W _ => by go_simp) hS2 ?_; (intro K hK; go_simp; refine hK _ ?_; clear hK K))
      (refine hK_take 7 (.int .i64 (mkC A L 0)) rfl (by kernel_rfl) (by kernel_rfl) (by kernel_rfl) (fun _ _ _ h => h) rfl (fun W _ => by go_simp) hS2 ?_; (intro K hK; go_simp; refine hK _ ?_; clear hK K))
      refine hK_store 8 rfl (by kernel_rfl) rfl 27 _ _ rfl (w.heap.size + 1) 0 (mc (mkR A L 0)) rfl rfl _ _ hX6 (by rw [HRs.out, HzS.out]; omega) (by rw [HRs.out]; exact size_mach) (mc_one _) (mc (mkR A L 0)) (over_all _ _ (by rw [HRs.out, HzS.out])) (fun w7 hs => ⟨hs.keep (by omega) hS2, fun hS3 => ?_⟩)
      (intro K hK; go_simp; refine hK _ ?_; clear hK K)
      (refine hK_take 9 (.int .i64 (mkC A L 0)) rfl (by kernel_rfl) (by kernel_rfl) (by kernel_rfl) (fun _ _ _ h => h) rfl (fun W _ => by go_simp) hS3 ?_; (intro K hK; go_simp; refine hK _ ?_; clear hK K))
      refine wpAnyH_done (by kernel_rfl) ?_ _
      have hbw7 := hs.below _ _ (by omega) hbw6
      go_wp2
      exact bodyPost_cell1 rfl rfl hs.blk Try.underlying27 rfl (by rw [HRs.out]; exact size_mach) rfl ⟨ret_mc (by rw [Hr.out.1, Hl.out.1]) (by rw [Hr.out.2, Hl.out.2]), hbw7⟩
end Go.Proofs.Ytliohokcjgcmhaa
