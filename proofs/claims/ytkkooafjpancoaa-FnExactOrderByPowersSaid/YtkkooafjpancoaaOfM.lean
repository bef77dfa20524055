/- The model's large machines: data, and letters of two rows compared. · 'l07Classes'. · 'l07Of'. -/
import Derived.Test.YtkkooafjpancoaaDvO
import Derived.Test.YtkkooafjpancoaaMinT
import Derived.Stop.BytesEq
import Derived.Test.YtkkooafjpancoaaRgM
import Derived.Test.YtkkooafjpancoaaAuP
import Derived.Maps.AppendAt
namespace Go.Proofs.Ytkkooafjpancoaa
open Go.RowKit

/-- The letters that a row puts out. -/
def oL (A : Aut) (L i : Nat) : List Int := [rowO A L i 0, rowO A L i 1, rowO A L i 2]
theorem oL_len (A : Aut) (L i : Nat) : (oL A L i).length = 3 := rfl
theorem cell_of {n : Int} (h : 0 ≤ n ∧ n ≤ 255) : Value.int .u8 n = Go.Extern.Stop.cell (UInt8.ofNat n.toNat) := by
  unfold Go.Extern.Stop.cell
  congr 1
  rw [UInt8.toNat_ofNat_of_lt' (by simp [UInt8.size]; omega)]
  exact (Int.toNat_of_nonneg h.1).symm
theorem c8_cells : ∀ (l : List Int), isBytes l → l.map (Value.int .u8) = (l.map fun n => UInt8.ofNat n.toNat).map Go.Extern.Stop.cell
  | [], _ => rfl
  | n :: l, h => by
    simp only [List.map_cons]
    rw [cell_of (h n (by simp)), c8_cells l (fun m hm => h m (by simp [hm]))]
theorem bytes_inj : ∀ (l l' : List Int), isBytes l → isBytes l' → (l.map fun n => UInt8.ofNat n.toNat) = (l'.map fun n => UInt8.ofNat n.toNat) → l = l'
  | [], [], _, _, _ => rfl
  | [], _ :: _, _, _, h => by cases h
  | _ :: _, [], _, _, h => by cases h
  | n :: l, m :: l', h, h', e => by
    simp only [List.map_cons, List.cons.injEq] at e
    have hn := h n (by simp)
    have hm := h' m (by simp)
    have e1 := congrArg UInt8.toNat e.1
    rw [UInt8.toNat_ofNat_of_lt' (by simp [UInt8.size]; omega), UInt8.toNat_ofNat_of_lt' (by simp [UInt8.size]; omega)] at e1
    rw [bytes_inj l l' (fun k hk => h k (by simp [hk])) (fun k hk => h' k (by simp [hk])) e.2, show n = m by omega]
theorem eql_three (l l' : List Int) (h : l.length = 3) (h' : l'.length = 3) (hb : isBytes l) (hb' : isBytes l') (w : World) :
    (Op.equalIn 10000 22 (.agg (c8 l)) (.agg (c8 l'))).run Try.prog w = .ok (decide (l = l')) w := by
  have e1 : c8 l = ((l.map fun n => UInt8.ofNat n.toNat).map Go.Extern.Stop.cell).toArray := by rw [← c8_cells l hb]; rfl
  have e2 : c8 l' = ((l'.map fun n => UInt8.ofNat n.toNat).map Go.Extern.Stop.cell).toArray := by rw [← c8_cells l' hb']; rfl
  rw [e1, e2, run_equalIn_bytes w 9998 22 5 3 Try.underlying22 Try.underlying5 (fun w => by kernel_rfl) _ _ (by simpa using h) (by simpa using h')]
  congr 1
  rw [Bool.eq_iff_iff, beq_iff_eq, decide_eq_true_eq]
  exact ⟨fun e => bytes_inj l l' hb hb' e, fun e => by rw [e]⟩

/-! ### Least equal points, in lists -/
def clsA (A : Aut) (L t N : Nat) : List Int := (List.range N).map fun i => (aLst A L t i : Int)
def nxtA (A : Aut) (L t N q : Nat) : List Int := (List.range N).map fun i => if i < q then (aLst A L (t + 1) i : Int) else 0
theorem clsA_len (A : Aut) (L t N : Nat) : (clsA A L t N).length = N := by simp [clsA]
theorem nxtA_len (A : Aut) (L t N q : Nat) : (nxtA A L t N q).length = N := by simp [nxtA]
theorem clsA_zero (A : Aut) (L N : Nat) : clsA A L 0 N = List.replicate N 0 := by
  unfold clsA
  simp only [aLst_zero]
  rw [List.map_const', List.length_range]; rfl
theorem nxtA_zero (A : Aut) (L t N : Nat) : nxtA A L t N 0 = List.replicate N 0 := by
  unfold nxtA
  simp only [Nat.not_lt_zero, if_false]
  rw [List.map_const', List.length_range]
theorem nxtA_all (A : Aut) (L t N : Nat) : nxtA A L t N N = clsA A L (t + 1) N := by
  unfold nxtA clsA
  refine List.map_congr_left fun i hi => ?_
  rw [if_pos (by simpa using hi)]
theorem nxtA_set (A : Aut) (L t N q : Nat) (v : Int) (hv : v = aLst A L (t + 1) q) : (nxtA A L t N q).set q v = nxtA A L t N (q + 1) := by
  subst hv
  apply List.ext_getElem
  · simp [nxtA]
  · intro i h1 h2
    simp only [nxtA, List.getElem_set, List.getElem_map, List.getElem_range]
    by_cases h : q = i
    · subst h; simp
    · rw [if_neg h]
      by_cases h3 : i < q
      · rw [if_pos h3, if_pos (by omega)]
      · rw [if_neg h3, if_neg (by omega)]
theorem clsA_at (A : Aut) (L t N i : Nat) (hi : i < N) : (ints (clsA A L t N))[i]? = some (.int .i64 (aLst A L t i : Int)) := by
  simp [ints, clsA, hi]
theorem nxtA_at (A : Aut) (L t N q r : Nat) (hr : r < q) (hq : q < N) (v : Int) : (ints ((nxtA A L t N q).set q v))[r]? = some (.int .i64 (aLst A L (t + 1) r : Int)) := by
  have hrN : r < N := by omega
  simp [ints, nxtA, hrN, show ¬ q = r by omega, hr]
theorem nxtA_own (A : Aut) (L t N q : Nat) (hq : q < N) (v : Int) : (ints ((nxtA A L t N q).set q v))[q]? = some (.int .i64 v) := by
  simp [ints, nxtA, hq]
theorem aLst_alone {A : Aut} {L t q : Nat} (h : ∀ p, p < q → aEq A L t q p = false) : aLst A L t q = q := by
  obtain ⟨h1, h2, _⟩ := aLst_at A L t q
  rcases Nat.lt_or_ge (aLst A L t q) q with hlt | hge
  · rw [h _ hlt] at h2; cases h2
  · omega
/-- What the walk has found of q and r with k letters looked at. -/
def smK (A : Aut) (L t q r k : Nat) : Bool := (decide ((aLst A L t q : Int) = (aLst A L t r : Int)) && decide (oL A L q = oL A L r)) && (List.range k).all fun y => decide ((aLst A L t (A.n q y) : Int) = (aLst A L t (A.n r y) : Int))
theorem smK_succ (A : Aut) (L t q r k : Nat) : smK A L t q r (k + 1) = (smK A L t q r k && decide ((aLst A L t (A.n q k) : Int) = (aLst A L t (A.n r k) : Int))) := by
  simp [smK, List.range_succ, Bool.and_assoc]
theorem smK_no {A : Aut} {L t q r k m : Nat} (hk : k ≤ m) (h : smK A L t q r k = false) : smK A L t q r m = false := by
  induction hk with
  | refl => exact h
  | step _ ih => rw [smK_succ, ih]; rfl
theorem smK_all (A : Aut) (L t q r : Nat) (hL : L ≤ 3) : smK A L t q r L = aEq A L (t + 1) q r := by
  rw [Bool.eq_iff_iff, aEq_succ]
  unfold smK
  simp only [Bool.and_eq_true, decide_eq_true_eq, List.all_eq_true, List.mem_range]
  have key : ∀ x, x < 3 → (rowO A L q x = rowO A L r x ↔ (x < L → A.o q x = A.o r x)) := fun x _ => by
    unfold rowO
    by_cases h : x < L
    · rw [if_pos h, if_pos h]; simp [h]
    · rw [if_neg h, if_neg h]; simp [h]
  have kL : oL A L q = oL A L r ↔ ∀ x, x < L → A.o q x = A.o r x := by
    simp only [oL, List.cons.injEq, and_true]
    rw [key 0 (by omega), key 1 (by omega), key 2 (by omega)]
    constructor
    · rintro ⟨a, b, c⟩ x hx
      rcases (show x = 0 ∨ x = 1 ∨ x = 2 by omega) with rfl | rfl | rfl
      · exact a hx
      · exact b hx
      · exact c hx
    · exact fun h => ⟨h 0, h 1, h 2⟩
  rw [kL]
  constructor
  · rintro ⟨⟨_, h2⟩, h3⟩ x hx
    exact ⟨h2 x hx, (aLst_iff A L t _ _).1 (by have := h3 x hx; omega)⟩
  · intro h
    refine ⟨⟨?_, fun x hx => (h x hx).1⟩, fun x hx => ?_⟩
    · have h1 : aEq A L (t + 1) q r = true := (aEq_succ A L t q r).2 h
      rw [(aLst_iff A L t q r).2 (aEq_less A L t q r h1)]
    · rw [(aLst_iff A L t _ _).2 (h x hx).2]
/-- How many sets the round before had. -/
def kcA (A : Aut) (L N t : Nat) : Nat := if t = 0 then 0 else cntB (aRep A L t) N
theorem kcA_succ (A : Aut) (L N t : Nat) : kcA A L N (t + 1) = cntB (aRep A L (t + 1)) N := if_neg (by omega)
theorem kcA_pos {A : Aut} {L N t : Nat} (h0 : 0 < N) : 1 ≤ cntB (aRep A L t) N := by
  have h1 := cnt_le A L N (Nat.zero_le t)
  have h2 := cnt_zero A L N h0
  omega
theorem kcA_still {A : Aut} {L N t : Nat} (hA : A.In L N) (h0 : 0 < N) (h : cntB (aRep A L (t + 1)) N = kcA A L N t) : AStill A L N (t + 1) := by
  unfold kcA at h
  split at h
  · have := kcA_pos (A := A) (L := L) (t := t + 1) h0
    omega
  · exact (still_of_cnt (by omega)).next hA
theorem kcA_lt {A : Aut} {L N t : Nat} (h0 : 0 < N) (h : ¬ cntB (aRep A L (t + 1)) N = kcA A L N t) : kcA A L N t < kcA A L N (t + 1) ∧ kcA A L N (t + 1) ≤ N := by
  have h1 := cntB_le (aRep A L (t + 1)) N
  have h2 := cnt_le A L N (show t ≤ t + 1 by omega)
  have h3 := kcA_pos (A := A) (L := L) (t := t + 1) h0
  rw [kcA_succ]
  unfold kcA at *
  split at h
  · rename_i e
    rw [if_pos e]; omega
  · rename_i e
    rw [if_neg e]; omega
/-- A large machine can be read. -/
def SeesL (w : World) (v : Value) (A : Aut) (L N : Nat) : Prop := ∃ ga ca cura go co curo, v = .agg #[.int .i64 (L : Int), .slice (some ⟨ga, 0, none⟩) N ca, .slice (some ⟨go, 0, none⟩) N co] ∧ Blk w ga cura 83 ∧ Blk w go curo 22 ∧
  ∀ i, i < N → ∀ x, x < 3 → cura[i * 3 + x]? = some (.int .i64 (rowN A L i x : Int)) ∧ curo[i * 3 + x]? = some (.int .u8 (rowO A L i x))
theorem SeesL.below {w w1 : World} {v : Value} {A : Aut} {L N : Nat} (h : SeesL w v A L N) (hb : Below w.heap.size w w1) : SeesL w1 v A L N := by
  obtain ⟨ga, ca, cura, go, co, curo, rfl, hBa, hBo, hc⟩ := h
  exact ⟨ga, ca, cura, go, co, curo, rfl, hBa.keptAll hb, hBo.keptAll hb, hc⟩
theorem cut_oL {curo : Array Value} {A : Aut} {L i : Nat} (h : ∀ x, x < 3 → curo[i * 3 + x]? = some (.int .u8 (rowO A L i x))) : cut curo (i * 3) 3 = c8 (oL A L i) ∧ i * 3 + 3 ≤ curo.size := by
  refine ⟨?_, ?_⟩
  · apply Array.ext_getElem?
    intro j
    rw [get_cut]
    by_cases hj : j < 3
    · rw [if_pos hj]
      rcases (show j = 0 ∨ j = 1 ∨ j = 2 by omega) with rfl | rfl | rfl
      · exact h 0 (by omega)
      · exact h 1 (by omega)
      · exact h 2 (by omega)
    · rw [if_neg hj, Array.getElem?_eq_none (by rw [c8_size]; show 3 ≤ j; omega)]
  · have := h 2 (by omega)
    rcases Nat.lt_or_ge (i * 3 + 2) curo.size with h1 | h1
    · omega
    · rw [Array.getElem?_eq_none (by omega)] at this; cases this
theorem oL_bytes {A : Aut} {L N : Nat} (hb : A.Bytes L N) {i : Nat} (hi : i < N) : isBytes (oL A L i) := fun n hn => by
  simp only [oL, List.mem_cons, List.not_mem_nil, or_false] at hn
  rcases hn with rfl | rfl | rfl
  · exact rowO_bd hb hi 0
  · exact rowO_bd hb hi 1
  · exact rowO_bd hb hi 2
end Go.Proofs.Ytkkooafjpancoaa

namespace Go.Proofs.Ytkkooafjpancoaa
open Go.RowKit

set_option maxRecDepth 100000 in
set_option maxHeartbeats 4000000 in
theorem l07Classes_calls (A : Aut) (L N : Nat) (hL : L ≤ 3) (h0 : 0 < N) (hN : N ≤ 256) (hA : A.In L N) (hb : A.Bytes L N) (lv : Value) (w : World) (hl : SeesL w lv A L N) :
    Calls Try.prog 80 #[lv] w fun e w' => (∃ v t, e = .returned v ∧ AStill A L N t ∧ OwnI w' w.heap.size v (clsA A L t N)) ∧ Below w.heap.size w w' := by
  obtain ⟨ga, ca, cura, go, co, curo, rfl, hBa, hBo, hc⟩ := hl
  have HN := Lib.hid hN
  have Hin := Lib.hid hA
  have Hby := Lib.hid hb
  have Hc := Lib.hid hc
  obtain ⟨w0, hw0⟩ : ∃ w0, w.alloc (.cells #[.int .i64 (L : Int), .slice (some ⟨ga, 0, none⟩) N ca, .slice (some ⟨go, 0, none⟩) N co] 82) = w0 := ⟨_, rfl⟩
  have hb0 : Below w.heap.size w w0 := by rw [← hw0]; (repeat (first | exact Below.refl _ _ | refine below_drew' ?_ | refine below_drewN' ?_ _ | refine below_alloc' ?_ _ | refine below_set' ?_ (by (try simp); (try omega)) _ | refine below_step ?_ (by assumption)))
  have hs0 : w0.heap.size = w.heap.size + 1 := by rw [← hw0]; simp
  have hZ0 : Blk w0 w.heap.size #[.int .i64 (L : Int), .slice (some ⟨ga, 0, none⟩) N ca, .slice (some ⟨go, 0, none⟩) N co] 82 := by rw [← hw0]; exact Blk.new _ _ _
  have Hz : Hid (∀ W, Below w0.heap.size w0 W → Blk W w.heap.size #[.int .i64 (L : Int), .slice (some ⟨ga, 0, none⟩) N ca, .slice (some ⟨go, 0, none⟩) N co] 82 ∧ Blk W ga cura 83 ∧ Blk W go curo 22) := Lib.hid (fun W hW => ⟨hZ0.keptAll hW, (hBa.keptAll hb0).keptAll hW, (hBo.keptAll hb0).keptAll hW⟩)
  have Hb0 := Lib.hid hb0
  have Hs0 := Lib.hid hs0
  have hmk := mk_ints N (by omega)
  have hz1 : (w.alloc (.cells #[.int .i64 (L : Int), .slice (some ⟨ga, 0, none⟩) N ca, .slice (some ⟨go, 0, none⟩) N co] 82)).cell? ⟨w.heap.size, 1, none⟩ = some (.slice (some ⟨ga, 0, none⟩) N ca) := by rw [hw0]; exact hZ0.cell 1
  have Hw0 := Lib.hid hw0
  clear hBa hBo hc hA hb hb0 hs0 hZ0 hw0
  go_enter Try.func80, Try.ntmps80
  go_wp2
  rw [Hw0.out]
  have hC1 : Blk (w0.alloc (.cells (ints (List.replicate N 0)) 2)) (w.heap.size + 1) (ints (clsA A L 0 N)) 2 := by rw [clsA_zero, ← Hs0.out]; exact Blk.new _ _ _
  have hbw1 : Below w0.heap.size w0 (w0.alloc (.cells (ints (List.replicate N 0)) 2)) := by (repeat (first | exact Below.refl _ _ | refine below_drew' ?_ | refine below_drewN' ?_ _ | refine below_alloc' ?_ _ | refine below_set' ?_ (by (try simp); (try omega)) _ | refine below_step ?_ (by assumption)))
  clear Hw0 hz1
  go_loopw [4, 5] (fun cv kn wr => ∃ (t g : Nat), cv = .slice (some ⟨g, 0, none⟩) N N ∧ kn = .int .i64 (kcA A L N t : Nat) ∧ kcA A L N t ≤ N ∧ w0.heap.size ≤ g ∧ Blk wr g (ints (clsA A L t N)) 2 ∧ Below w0.heap.size w0 wr) (fun _ kn _ => N + 1 - (intOf kn).toNat)
  case atStart => exact ⟨0, w.heap.size + 1, rfl, rfl, Nat.zero_le _, Nat.le_of_eq Hs0.out, hC1, hbw1⟩
  case round =>
    clear hC1 hbw1
    obtain ⟨t, g, rfl, rfl, hkn, hg, hC, hbw⟩ := hrel
    have hge := hbw.size
    have hgl := hC.lt
    have hN1 : Blk (wr.alloc (.cells (ints (List.replicate N 0)) 2)) wr.heap.size (ints (nxtA A L t N 0)) 2 := by rw [nxtA_zero]; exact Blk.new _ _ _
    have hC1 := hC.alloc (.cells (ints (List.replicate N 0)) 2)
    have hbw1 := below_alloc' hbw (.cells (ints (List.replicate N 0)) 2)
    go_wp2
    clear hC hbw
    obtain ⟨gn, hgn⟩ : ∃ gn, wr.heap.size = gn := ⟨_, rfl⟩
    obtain ⟨wn, hwn⟩ : ∃ wn, wr.alloc (.cells (ints (List.replicate N 0)) 2) = wn := ⟨_, rfl⟩
    rw [hgn] at hN1 hge hgl
    rw [hwn] at hN1 hC1 hbw1
    rw [hgn, hwn]
    clear hgn hwn
    go_loopw [7, 8] (fun cn i wr => ∃ q : Nat, q ≤ N ∧ i = .int .i64 q ∧ cn = .int .i64 (cntB (aRep A L (t + 1)) q : Nat) ∧ Blk wr g (ints (clsA A L t N)) 2 ∧ Blk wr gn (ints (nxtA A L t N q)) 2 ∧ Below w0.heap.size w0 wr) (fun _ i _ => N - (intOf i).toNat)
    case atStart => exact ⟨0, by omega, rfl, rfl, hC1, hN1, hbw1⟩
    case round =>
      clear hC1 hN1 hbw1
      obtain ⟨q, hq, rfl, rfl, hC, hNx, hbw⟩ := hrel
      by_cases hql : q < N
      · skip
        have hqi : (q : Int) < (N : Int) := by omega
        have hold := ints_at (nxtA A L t N q) q (by rw [nxtA_len]; omega)
        generalize (nxtA A L t N q).getD q 0 = oldn at hold
        have cN := (hNx.cell q).trans hold
        have fN := hNx.free q
        have hN2 := hNx.set q (.int .i64 q)
        rw [← ints_set] at hN2
        have hC2 := hC.setOther gn q (.int .i64 q) (by omega)
        have hbw2 := below_set' (o := q) hbw (b := gn) hge (.int .i64 q)
        clear hold
        go_wp2
        clear cN fN hNx hC hbw
        go_loopw [9] (fun i wr => ∃ r : Nat, r ≤ q ∧ i = .int .i64 r ∧ Blk wr g (ints (clsA A L t N)) 2 ∧ Blk wr gn (ints ((nxtA A L t N q).set q q)) 2 ∧ Below w0.heap.size w0 wr ∧ Hid (∀ p, p < r → aEq A L (t + 1) q p = false)) (fun i _ => q - (intOf i).toNat)
        case atStart => exact ⟨0, by omega, rfl, hC2, hN2, hbw2, Lib.hid (fun p hp => absurd hp (by omega))⟩
        case round =>
          clear hC2 hN2 hbw2
          obtain ⟨r, hr, rfl, hC, hNx, hbw, HE⟩ := hrel
          by_cases hrl : r < q
          · have hrN : r < N := by omega
            have hri : (r : Int) < (N : Int) := by omega
            have hrq : (r : Int) < (q : Int) := by omega
            have He1 := Lib.hid (clsA_at A L t N q hql)
            have He2 := Lib.hid (clsA_at A L t N r hrN)
            have hkq := cut_oL (fun x hx => (Hc.out q hql x hx).2)
            have hkr := cut_oL (fun x hx => (Hc.out r hrN x hx).2)
            have Hkq := Lib.hid hkq.1
            have Hrq := Lib.hid hkq.2
            have Hkr := Lib.hid hkr.1
            have Hrr := Lib.hid hkr.2
            have Heql := Lib.hid (eql_three (oL A L q) (oL A L r) rfl rfl (oL_bytes Hby.out hql) (oL_bytes Hby.out hrN))
            have Hall := Lib.hid (smK_all A L t q r hL)
            have Hs0k : Hid (smK A L t q r 0 = (decide ((aLst A L t q : Int) = (aLst A L t r : Int)) && decide (oL A L q = oL A L r))) := Lib.hid (by simp [smK])
            clear hkq hkr
            generalize c8 (oL A L q) = oq at *
            generalize c8 (oL A L r) = oR at *
            generalize decide (oL A L q = oL A L r) = bo at *
            generalize hc1 : aLst A L t q = c1 at *
            generalize hc2 : aLst A L t r = c2 at *
            clear hc1 hc2
            go_wp2_with fail
            by_cases hcc : (c1 : Int) = (c2 : Int)
            · have hc' : ((c1 : Int) == (c2 : Int)) = true := by simpa using hcc
              rw [decide_eq_true hcc, Bool.true_and] at Hs0k
              clear hcc
              refine wp_region_quiet (C := fun W => (Blk W g (ints (clsA A L t N)) 2 ∧ Blk W gn (ints ((nxtA A L t N q).set q q)) 2) ∧ Below w0.heap.size w0 W) (by kernel_rfl) (by kernel_rfl) ⟨⟨hC.drew, hNx.drew⟩, hbw.drew⟩ ?_
              refine wpK_val rfl (.slice (some ⟨g, 0, none⟩) N N) (fun W _ => by go_simp) ?_; (intro K hK; go_simp; refine hK _ ?_; clear hK K)
              refine wpK_val rfl (.int .i64 (q : Int)) (fun W _ => by go_simp) ?_; (intro K hK; go_simp; refine hK _ ?_; clear hK K)
              refine wpK_val rfl (.pointer (some ⟨g, q, none⟩)) (fun W _ => by go_simp) ?_; (intro K hK; go_simp; refine hK _ ?_; clear hK K)
              refine wpK_val rfl (.int .i64 (c1 : Int)) (fun W hW => by have cC := (hW.1.1.cell q).trans He1.out; clear hW; go_simp) ?_; (intro K hK; go_simp; refine hK _ ?_; clear hK K)
              refine wpK_val rfl (.slice (some ⟨g, 0, none⟩) N N) (fun W _ => by go_simp) ?_; (intro K hK; go_simp; refine hK _ ?_; clear hK K)
              refine wpK_val rfl (.int .i64 (r : Int)) (fun W _ => by go_simp) ?_; (intro K hK; go_simp; refine hK _ ?_; clear hK K)
              refine wpK_val rfl (.pointer (some ⟨g, r, none⟩)) (fun W _ => by go_simp) ?_; (intro K hK; go_simp; refine hK _ ?_; clear hK K)
              refine wpK_val rfl (.int .i64 (c2 : Int)) (fun W hW => by have cC := (hW.1.1.cell r).trans He2.out; clear hW; go_simp) ?_; (intro K hK; go_simp; refine hK _ ?_; clear hK K)
              refine wpK_val rfl (.bool true) (fun W _ => by go_simp) ?_; (intro K hK; go_simp; refine hK _ ?_; clear hK K)
              refine wpK_val rfl (.bool true) (fun W _ => by go_simp) ?_; (intro K hK; go_simp; refine hK _ ?_; clear hK K)
              refine wpK_on (by rfl) (.pointer (some ⟨w.heap.size, 2, none⟩)) (fun W _ => by go_simp) ?_; (intro K hK; go_simp; refine hK _ ?_; clear hK K)
              refine wpK_on (by rfl) (.slice (some ⟨go, 0, none⟩) N co) (fun W hW => by have cC := (Hz.out W hW.2).1.cell 2; clear hW; go_simp) ?_; (intro K hK; go_simp; refine hK _ ?_; clear hK K)
              refine wpK_on (by rfl) (.int .i64 (q : Int)) (fun W _ => by go_simp) ?_; (intro K hK; go_simp; refine hK _ ?_; clear hK K)
              refine wpK_on (by rfl) (.pointer (some ⟨go, q * 3, none⟩)) (fun W _ => by go_simp) ?_; (intro K hK; go_simp; refine hK _ ?_; clear hK K)
              refine wpK_load_on (by rfl) 22 _ rfl go (q * 3) rfl curo _ (fun W hW => (Hz.out W hW.2).2.2) 3 Hrq.out _ Try.underlying22 rfl size_a3 _ Hkq.out ?_; (intro K hK; go_simp; refine hK _ ?_; clear hK K)
              refine wpK_on (by rfl) (.pointer (some ⟨w.heap.size, 2, none⟩)) (fun W _ => by go_simp) ?_; (intro K hK; go_simp; refine hK _ ?_; clear hK K)
              refine wpK_on (by rfl) (.slice (some ⟨go, 0, none⟩) N co) (fun W hW => by have cC := (Hz.out W hW.2).1.cell 2; clear hW; go_simp) ?_; (intro K hK; go_simp; refine hK _ ?_; clear hK K)
              refine wpK_on (by rfl) (.int .i64 (r : Int)) (fun W _ => by go_simp) ?_; (intro K hK; go_simp; refine hK _ ?_; clear hK K)
              refine wpK_on (by rfl) (.pointer (some ⟨go, r * 3, none⟩)) (fun W _ => by go_simp) ?_; (intro K hK; go_simp; refine hK _ ?_; clear hK K)
              refine wpK_load_on (by rfl) 22 _ rfl go (r * 3) rfl curo _ (fun W hW => (Hz.out W hW.2).2.2) 3 Hrr.out _ Try.underlying22 rfl size_a3 _ Hkr.out ?_; (intro K hK; go_simp; refine hK _ ?_; clear hK K)
              refine wpK_on (by rfl) (.bool bo) (fun W _ => by have hq := Heql.out W; go_simp) ?_; (intro K hK; go_simp; refine hK _ ?_; clear hK K)
              refine wpK_val rfl (.bool bo) (fun W _ => by go_simp) ?_; (intro K hK; go_simp; refine hK _ ?_; clear hK K)
              refine wpK_val rfl (.bool bo) (fun W _ => by go_simp) ?_; (intro K hK; go_simp; refine hK _ ?_; clear hK K)
              refine wpQuiet_nil ?_
              rintro w6 ⟨⟨hC6, hN6⟩, hbw6⟩
              clear hC hNx hbw
              go_wp2
              go_loopw [10, 11] (fun sv xv wr => ∃ k : Nat, k ≤ L ∧ xv = .int .i64 k ∧ sv = .bool (smK A L t q r k) ∧ Blk wr g (ints (clsA A L t N)) 2 ∧ Blk wr gn (ints ((nxtA A L t N q).set q q)) 2 ∧ Below w0.heap.size w0 wr) (fun _ xv _ => L - (intOf xv).toNat)
              case atStart => exact ⟨0, by omega, rfl, by rw [Hs0k.out], hC6, hN6, hbw6⟩
              case round =>
                clear hC6 hN6 hbw6
                obtain ⟨k, hk, rfl, rfl, hC, hNx, hbw⟩ := hrel
                have cZ0 := ((Hz.out _ hbw).1.cell 0).trans (show _ = some (Value.int .i64 (L : Int)) from rfl)
                by_cases hkl : k < L
                · have hkli : (k : Int) < (L : Int) := by omega
                  cases hsm : smK A L t q r k
                  · have Hno : Hid (aEq A L (t + 1) q r = false) := Lib.hid (by rw [← Hall.out]; exact smK_no (by omega) hsm)
                    clear hsm
                    go_wp2
                    go_roundw
                    case rel => exact ⟨r + 1, by omega, by go_num, hC, hNx, hbw, Lib.hid (fun p hp => by
                      rcases Nat.lt_or_ge p r with h | h
                      · exact HE.out p h
                      · obtain rfl : p = r := by omega
                        exact Hno.out)⟩
                    case measure => simp [intOf] <;> omega
                  · have Hnx := Lib.hid (smK_succ A L t q r k)
                    rw [hsm] at Hnx
                    clear hsm
                    have hk3 : (k : Int) < 3 := by omega
                    have n1 := (Hc.out q hql k (by omega)).1
                    have n2 := (Hc.out r hrN k (by omega)).1
                    have i1 := Hin.out q k hql hkl
                    have i2 := Hin.out r k hrN hkl
                    rw [show rowN A L q k = A.n q k from if_pos hkl] at n1
                    rw [show rowN A L r k = A.n r k from if_pos hkl] at n2
                    have i1i : (A.n q k : Int) < (N : Int) := by omega
                    have i2i : (A.n r k : Int) < (N : Int) := by omega
                    have cZ1 := ((Hz.out _ hbw).1.cell 1).trans (show _ = some (Value.slice (some ⟨ga, 0, none⟩) N ca) from rfl)
                    have cn1 := ((Hz.out _ hbw).2.1.cell (q * 3 + k)).trans n1
                    have cn2 := ((Hz.out _ hbw).2.1.cell (r * 3 + k)).trans n2
                    have cc1 := (hC.cell (A.n q k)).trans (clsA_at A L t N _ i1)
                    have cc2 := (hC.cell (A.n r k)).trans (clsA_at A L t N _ i2)
                    clear n1 n2
                    have Hbe : Hid (((aLst A L t (A.n q k) : Int) == (aLst A L t (A.n r k) : Int)) = smK A L t q r (k + 1)) := Lib.hid (by rw [Hnx.out, Bool.true_and]; rfl)
                    generalize (aLst A L t (A.n q k) : Int) = d1 at *
                    generalize (aLst A L t (A.n r k) : Int) = d2 at *
                    generalize A.n q k = m1 at *
                    generalize A.n r k = m2 at *
                    go_wp2
                    go_quiet (fail)
                    clear cZ0 cZ1 cn1 cn2 cc1 cc2
                    go_wp2
                    go_roundw
                    case rel => exact ⟨k + 1, by omega, by go_num, by rw [← Hbe.out], hC.drewN _, hNx.drewN _, below_drewN' hbw _⟩
                    case measure => simp [intOf] <;> omega
                · obtain rfl : k = L := by omega
                  cases he : aEq A k (t + 1) q r
                  · have Hno := Lib.hid he
                    have hsm : smK A k t q r k = false := by rw [Hall.out]; exact he
                    rw [hsm]
                    clear he hsm
                    go_wp2
                    go_roundw
                    case rel => exact ⟨r + 1, by omega, by go_num, hC, hNx, hbw, Lib.hid (fun p hp => by
                      rcases Nat.lt_or_ge p r with h | h
                      · exact HE.out p h
                      · obtain rfl : p = r := by omega
                        exact Hno.out)⟩
                    case measure => simp [intOf] <;> omega
                  · have Hyes := Lib.hid he
                    have hsm : smK A k t q r k = true := by rw [Hall.out]; exact he
                    rw [hsm]
                    clear he hsm
                    have hfound := (aLst_iff A k (t + 1) q r).2 Hyes.out
                    have hle := (aLst_at A k (t + 1) r).1
                    have Hset := Lib.hid (nxtA_set A k t N q (aLst A k (t + 1) r : Int) (by rw [hfound]))
                    have Hcn : Hid (cntB (aRep A k (t + 1)) (q + 1) = cntB (aRep A k (t + 1)) q) := Lib.hid (by
                      show cntB _ q + (if aRep A k (t + 1) q = true then 1 else 0) = _
                      rw [if_neg (by simp only [aRep, decide_eq_true_eq]; omega)]; rfl)
                    have cR := (hNx.cell r).trans (nxtA_at A k t N q r hrl hql (q : Int))
                    have cQ := (hNx.cell q).trans (nxtA_own A k t N q hql (q : Int))
                    have fQ := hNx.free q
                    have hN7 := hNx.set q (.int .i64 (aLst A k (t + 1) r))
                    rw [← ints_set, List.set_set] at hN7
                    have cN7 := (hN7.cell q).trans (nxtA_own A k t N q hql (aLst A k (t + 1) r : Int))
                    rw [Hset.out] at hN7
                    have hC7 := hC.setOther gn q (.int .i64 (aLst A k (t + 1) r)) (by omega)
                    have hbw7 := below_set' (o := q) hbw (b := gn) hge (.int .i64 (aLst A k (t + 1) r))
                    have hne : ((aLst A k (t + 1) r : Int) == (q : Int)) = false := by simp; omega
                    clear hfound hle
                    generalize (aLst A k (t + 1) r : Int) = lv at *
                    go_wp2
                    go_roundw
                    case rel => exact ⟨q + 1, by omega, by go_num, by rw [Hcn.out], hC7, hN7, hbw7⟩
                    case measure => simp [intOf] <;> omega
            · have hcf : ((c1 : Int) == (c2 : Int)) = false := by simpa using hcc
              rw [decide_eq_false hcc, Bool.false_and] at Hs0k
              clear hcc
              have cc1 := (hC.cell q).trans He1.out
              have cc2 := (hC.cell r).trans He2.out
              go_quiet (fail)
              clear cc1 cc2
              have hC6 := hC.drewN nq
              have hN6 := hNx.drewN nq
              have hbw6 := below_drewN' hbw nq
              clear hC hNx hbw
              go_wp2
              go_loopw [10, 11] (fun sv xv wr => ∃ k : Nat, k ≤ L ∧ xv = .int .i64 k ∧ sv = .bool (smK A L t q r k) ∧ Blk wr g (ints (clsA A L t N)) 2 ∧ Blk wr gn (ints ((nxtA A L t N q).set q q)) 2 ∧ Below w0.heap.size w0 wr) (fun _ xv _ => L - (intOf xv).toNat)
              case atStart => exact ⟨0, by omega, rfl, by rw [Hs0k.out], hC6, hN6, hbw6⟩
              case round =>
                clear hC6 hN6 hbw6
                obtain ⟨k, hk, rfl, rfl, hC, hNx, hbw⟩ := hrel
                have cZ0 := ((Hz.out _ hbw).1.cell 0).trans (show _ = some (Value.int .i64 (L : Int)) from rfl)
                by_cases hkl : k < L
                · have hkli : (k : Int) < (L : Int) := by omega
                  cases hsm : smK A L t q r k
                  · have Hno : Hid (aEq A L (t + 1) q r = false) := Lib.hid (by rw [← Hall.out]; exact smK_no (by omega) hsm)
                    clear hsm
                    go_wp2
                    go_roundw
                    case rel => exact ⟨r + 1, by omega, by go_num, hC, hNx, hbw, Lib.hid (fun p hp => by
                      rcases Nat.lt_or_ge p r with h | h
                      · exact HE.out p h
                      · obtain rfl : p = r := by omega
                        exact Hno.out)⟩
                    case measure => simp [intOf] <;> omega
                  · have Hnx := Lib.hid (smK_succ A L t q r k)
                    rw [hsm] at Hnx
                    clear hsm
                    have hk3 : (k : Int) < 3 := by omega
                    have n1 := (Hc.out q hql k (by omega)).1
                    have n2 := (Hc.out r hrN k (by omega)).1
                    have i1 := Hin.out q k hql hkl
                    have i2 := Hin.out r k hrN hkl
                    rw [show rowN A L q k = A.n q k from if_pos hkl] at n1
                    rw [show rowN A L r k = A.n r k from if_pos hkl] at n2
                    have i1i : (A.n q k : Int) < (N : Int) := by omega
                    have i2i : (A.n r k : Int) < (N : Int) := by omega
                    have cZ1 := ((Hz.out _ hbw).1.cell 1).trans (show _ = some (Value.slice (some ⟨ga, 0, none⟩) N ca) from rfl)
                    have cn1 := ((Hz.out _ hbw).2.1.cell (q * 3 + k)).trans n1
                    have cn2 := ((Hz.out _ hbw).2.1.cell (r * 3 + k)).trans n2
                    have cc1 := (hC.cell (A.n q k)).trans (clsA_at A L t N _ i1)
                    have cc2 := (hC.cell (A.n r k)).trans (clsA_at A L t N _ i2)
                    clear n1 n2
                    have Hbe : Hid (((aLst A L t (A.n q k) : Int) == (aLst A L t (A.n r k) : Int)) = smK A L t q r (k + 1)) := Lib.hid (by rw [Hnx.out, Bool.true_and]; rfl)
                    generalize (aLst A L t (A.n q k) : Int) = d1 at *
                    generalize (aLst A L t (A.n r k) : Int) = d2 at *
                    generalize A.n q k = m1 at *
                    generalize A.n r k = m2 at *
                    go_wp2
                    go_quiet (fail)
                    clear cZ0 cZ1 cn1 cn2 cc1 cc2
                    go_wp2
                    go_roundw
                    case rel => exact ⟨k + 1, by omega, by go_num, by rw [← Hbe.out], hC.drewN _, hNx.drewN _, below_drewN' hbw _⟩
                    case measure => simp [intOf] <;> omega
                · obtain rfl : k = L := by omega
                  cases he : aEq A k (t + 1) q r
                  · have Hno := Lib.hid he
                    have hsm : smK A k t q r k = false := by rw [Hall.out]; exact he
                    rw [hsm]
                    clear he hsm
                    go_wp2
                    go_roundw
                    case rel => exact ⟨r + 1, by omega, by go_num, hC, hNx, hbw, Lib.hid (fun p hp => by
                      rcases Nat.lt_or_ge p r with h | h
                      · exact HE.out p h
                      · obtain rfl : p = r := by omega
                        exact Hno.out)⟩
                    case measure => simp [intOf] <;> omega
                  · have Hyes := Lib.hid he
                    have hsm : smK A k t q r k = true := by rw [Hall.out]; exact he
                    rw [hsm]
                    clear he hsm
                    have hfound := (aLst_iff A k (t + 1) q r).2 Hyes.out
                    have hle := (aLst_at A k (t + 1) r).1
                    have Hset := Lib.hid (nxtA_set A k t N q (aLst A k (t + 1) r : Int) (by rw [hfound]))
                    have Hcn : Hid (cntB (aRep A k (t + 1)) (q + 1) = cntB (aRep A k (t + 1)) q) := Lib.hid (by
                      show cntB _ q + (if aRep A k (t + 1) q = true then 1 else 0) = _
                      rw [if_neg (by simp only [aRep, decide_eq_true_eq]; omega)]; rfl)
                    have cR := (hNx.cell r).trans (nxtA_at A k t N q r hrl hql (q : Int))
                    have cQ := (hNx.cell q).trans (nxtA_own A k t N q hql (q : Int))
                    have fQ := hNx.free q
                    have hN7 := hNx.set q (.int .i64 (aLst A k (t + 1) r))
                    rw [← ints_set, List.set_set] at hN7
                    have cN7 := (hN7.cell q).trans (nxtA_own A k t N q hql (aLst A k (t + 1) r : Int))
                    rw [Hset.out] at hN7
                    have hC7 := hC.setOther gn q (.int .i64 (aLst A k (t + 1) r)) (by omega)
                    have hbw7 := below_set' (o := q) hbw (b := gn) hge (.int .i64 (aLst A k (t + 1) r))
                    have hne : ((aLst A k (t + 1) r : Int) == (q : Int)) = false := by simp; omega
                    clear hfound hle
                    generalize (aLst A k (t + 1) r : Int) = lv at *
                    go_wp2
                    go_roundw
                    case rel => exact ⟨q + 1, by omega, by go_num, by rw [Hcn.out], hC7, hN7, hbw7⟩
                    case measure => simp [intOf] <;> omega
          · obtain rfl : r = q := by omega
            have hal := aLst_alone HE.out
            have Hset := Lib.hid (nxtA_set A L t N r (r : Int) (by rw [hal]))
            have Hcn : Hid (cntB (aRep A L (t + 1)) (r + 1) = cntB (aRep A L (t + 1)) r + 1) := Lib.hid (by
              show cntB _ r + (if aRep A L (t + 1) r = true then 1 else 0) = _
              rw [if_pos (by simpa [aRep] using hal)])
            have hcl := cntB_le (aRep A L (t + 1)) r
            have cQ := (hNx.cell r).trans (nxtA_own A L t N r hql (r : Int))
            rw [Hset.out] at hNx
            clear hal
            go_wp2
            go_roundw
            case rel => exact ⟨r + 1, by omega, by go_num, by rw [Hcn.out]; go_num, hC, hNx, hbw⟩
            case measure => simp [intOf] <;> omega
      · obtain rfl : q = N := by omega
        rw [nxtA_all] at hNx
        have hcl := cntB_le (aRep A L (t + 1)) q
        by_cases hst : cntB (aRep A L (t + 1)) q = kcA A L q t
        · have Hst := Lib.hid (kcA_still Hin.out h0 hst)
          have hsi : ((cntB (aRep A L (t + 1)) q : Int) == (kcA A L q t : Int)) = true := by simp; omega
          clear hst
          go_wp2
          go_ret
          exact ⟨⟨_, t + 1, rfl, Hst.out, OwnI.made (by simp [clsA]) (by unfold maxLen; omega) (by have := Hs0.out; omega) hNx⟩, Hb0.out.trans (below_le hbw (by have := Hs0.out; omega))⟩
        · have hlt := kcA_lt (A := A) (L := L) (t := t) h0 hst
          have hsi : ((cntB (aRep A L (t + 1)) q : Int) == (kcA A L q t : Int)) = false := by simp; omega
          have Hks := Lib.hid (kcA_succ A L q t)
          clear hst
          go_wp2
          go_roundw
          case rel => exact ⟨t + 1, gn, rfl, by rw [Hks.out], hlt.2, by omega, hNx, hbw⟩
          case measure =>
            have := Hks.out
            simp [intOf] <;> omega
end Go.Proofs.Ytkkooafjpancoaa

namespace Go.Proofs.Ytkkooafjpancoaa
open Go.RowKit
open Go.Maps

theorem infob_b3 : (Try.prog.info? 22).map (fun i => (i.zero, i.size, i.bytes)) = some (some (.agg (c8 [0, 0, 0])), 3, 3) := by kernel_rfl
theorem infob_i3 : (Try.prog.info? 83).map (fun i => (i.zero, i.size, i.bytes)) = some (some (.agg (ints [0, 0, 0])), 3, 24) := by kernel_rfl
theorem info_i3 : (Try.prog.info? 83).map (fun i => (i.zero, i.size)) = some (some (.agg (ints [0, 0, 0])), 3) := by kernel_rfl
theorem zero_i3 : ∀ w, (zeroValue 83).run Try.prog w = .ok (.agg (ints [0, 0, 0])) w := (zero_of_info info_i3).1
theorem size_i3 : (Try.prog.info? 83).map (·.size) = some 3 := (zero_of_info info_i3).2
def lgZ : Array Value := #[.int .i64 0, .slice none 0 0, .slice none 0 0]
theorem info_lg : (Try.prog.info? 82).map (fun i => (i.zero, i.size)) = some (some (.agg lgZ), 3) := by kernel_rfl
theorem zero_lg : ∀ w, (zeroValue 82).run Try.prog w = .ok (.agg lgZ) w := (zero_of_info info_lg).1
theorem size_lg : (Try.prog.info? 82).map (·.size) = some 3 := (zero_of_info info_lg).2
theorem built_lg (L : Int) : Try.prog.built 82 [(0, .int .i64 L)] = some #[.int .i64 L, .slice none 0 0, .slice none 0 0] := by kernel_rfl
/-- Rows of three numbers, one behind the other. -/
def rwN (A : Aut) (L i : Nat) : List Int := [(rowN A L i 0 : Int), (rowN A L i 1 : Int), (rowN A L i 2 : Int)]
def flN (A : Aut) (L k : Nat) : List Int := ((List.range k).map (rwN A L)).flatten
def flO (A : Aut) (L k : Nat) : List Int := ((List.range k).map (oL A L)).flatten
theorem flN_succ (A : Aut) (L k : Nat) : flN A L (k + 1) = flN A L k ++ rwN A L k := by simp [flN, List.range_succ]
theorem flO_succ (A : Aut) (L k : Nat) : flO A L (k + 1) = flO A L k ++ oL A L k := by simp [flO, List.range_succ]
theorem flN_len (A : Aut) (L : Nat) : ∀ k, (flN A L k).length = 3 * k
  | 0 => rfl
  | k + 1 => by rw [flN_succ, List.length_append, flN_len A L k]; show 3 * k + 3 = _; omega
theorem flO_len (A : Aut) (L : Nat) : ∀ k, (flO A L k).length = 3 * k
  | 0 => rfl
  | k + 1 => by rw [flO_succ, List.length_append, flO_len A L k]; show 3 * k + 3 = _; omega
theorem flN_at (A : Aut) (L : Nat) : ∀ k i j, i < k → j < 3 → (flN A L k)[i * 3 + j]? = (rwN A L i)[j]?
  | 0, _, _, h, _ => absurd h (by omega)
  | k + 1, i, j, h, hj => by
    rw [flN_succ]
    rcases Nat.lt_or_ge i k with h1 | h1
    · rw [List.getElem?_append_left (by rw [flN_len]; omega), flN_at A L k i j h1 hj]
    · obtain rfl : i = k := by omega
      rw [List.getElem?_append_right (by rw [flN_len]; omega), flN_len, show i * 3 + j - 3 * i = j by omega]
theorem flO_at (A : Aut) (L : Nat) : ∀ k i j, i < k → j < 3 → (flO A L k)[i * 3 + j]? = (oL A L i)[j]?
  | 0, _, _, h, _ => absurd h (by omega)
  | k + 1, i, j, h, hj => by
    rw [flO_succ]
    rcases Nat.lt_or_ge i k with h1 | h1
    · rw [List.getElem?_append_left (by rw [flO_len]; omega), flO_at A L k i j h1 hj]
    · obtain rfl : i = k := by omega
      rw [List.getElem?_append_right (by rw [flO_len]; omega), flO_len, show i * 3 + j - 3 * i = j by omega]
/-- A slice of rows of three int64 that the call owns. -/
def OwnJ (w : World) (base : Nat) (v : Value) (n : Nat) (fl : List Int) : Prop := fl.length = 3 * n ∧ w.ownsRow base 83 3 v n (fl.map (Value.int .i64))
section
variable {w w1 : World} {base n : Nat} {v : Value} {fl : List Int}
theorem OwnJ.nil (w : World) (base : Nat) : OwnJ w base (.slice none 0 0) 0 [] := ⟨by simp, World.ownsRow_nil w base _ _⟩
theorem OwnJ.ltt (h : OwnJ w base v n fl) : ∀ b, v.ownBlock = some b → base ≤ b ∧ b < w.heap.size := World.ownsRow.lt h.2
theorem OwnJ.same (h : OwnJ w base v n fl) (hs : ∀ b, v.ownBlock = some b → w1.heap[b]? = w.heap[b]?) : OwnJ w1 base v n fl := ⟨h.1, rowKept h.2 hs⟩
theorem OwnJ.below (h : OwnJ w base v n fl) (hb : Below w.heap.size w w1) : OwnJ w1 base v n fl := h.same fun b hk => hb.block b (h.ltt b hk).2
end
section
variable {ops : Array Oper} {rest : List Oper} {o : Oper} {a : Act} {w : World} {Q : Exit → Act → World → Prop}
theorem wpList_push_i3 (hgd : o.guard = none) (s x : Operand) (ho : o.op = .call { callee := .builtin .append, args := #[s, x], argTypes := #[79, 79] })
    (base : Nat) (v : Value) (n : Nat) (fl : List Int) (hs : a.eval s = v) (hown : OwnJ w base v n fl) (g c : Nat) (x0 x1 x2 : Int) (hx : a.eval x = .slice (some ⟨g, 0, none⟩) 1 c) (hB : Blk w g #[.int .i64 x0, .int .i64 x1, .int .i64 x2] 83)
    (hn : n ≤ 1048576) (hbase : base ≤ w.heap.size)
    (h : ∀ v' w', OwnJ w' base v' (n + 1) (fl ++ [x0, x1, x2]) → Below base w w' → (∀ k, k < w.heap.size → some k ≠ v.ownBlock → w'.heap[k]? = w.heap[k]?) → (v'.ownBlock = v.ownBlock ∨ v'.ownBlock = some w.heap.size) → wpList Try.prog ops Q rest (a.put o.dst v') w') : wpList Try.prog ops Q (o :: rest) a w := by
  obtain ⟨i0, hi, hz0, hz1, hz2⟩ := info_parts infob_i3
  obtain ⟨hl, hrow⟩ := hown
  refine wpList_append_own_at _ hgd s x 79 ho base 83 i0 (.agg (ints [0, 0, 0])) 3 24 Try.underlying79 hi hz0 hz1 hz2 rfl (by decide) v n _ hs hrow ⟨g, 0, none⟩ 1 c [.int .i64 x0, .int .i64 x1, .int .i64 x2] hx rfl
    (fun j u' hu' => ?_) (fun u' hu' => ?_) (by unfold maxLen; omega) (by omega) hbase (fun v' w' hown' hg _ hat => h v' w' ⟨by simp [hl]; omega, by simpa using hown'⟩ (below_grown hrow hg hbase) hg.block hat)
  · match j, hu' with
    | 0, hu' => simp at hu'; subst hu'; simpa [Addr.add] using hB.cell 0
    | 1, hu' => simp at hu'; subst hu'; simpa [Addr.add] using hB.cell 1
    | 2, hu' => simp at hu'; subst hu'; simpa [Addr.add] using hB.cell 2
  · simp at hu'
    rcases hu' with rfl | rfl | rfl <;> rfl
theorem wp_push_b3 {K : Act → World → Prop} (s x : Operand) (ho : o.op = .call { callee := .builtin .append, args := #[s, x], argTypes := #[80, 80] })
    (base : Nat) (v : Value) (n : Nat) (fl : List Int) (hs : a.eval s = v) (hown : OwnF 22 3 w base v n fl) (g c : Nat) (x0 x1 x2 : Int) (hx : a.eval x = .slice (some ⟨g, 0, none⟩) 1 c) (hB : Blk w g #[.int .u8 x0, .int .u8 x1, .int .u8 x2] 22)
    (hn : n ≤ 1048576) (hbase : base ≤ w.heap.size)
    (h : ∀ v' w', OwnF 22 3 w' base v' (n + 1) (fl ++ [x0, x1, x2]) → Below base w w' → (∀ k, k < w.heap.size → some k ≠ v.ownBlock → w'.heap[k]? = w.heap[k]?) → (v'.ownBlock = v.ownBlock ∨ v'.ownBlock = some w.heap.size) → K (a.put o.dst v') w') : Oper.wp Try.prog o a w K Q := by
  obtain ⟨i0, hi, hz0, hz1, hz2⟩ := info_parts infob_b3
  obtain ⟨hl, hrow⟩ := hown
  obtain ⟨v', w', hr, hown', hg, _, hat⟩ := run_append_own_at (P := Try.prog) w base 80 o.type 22 i0 (.agg (c8 [0, 0, 0])) 3 3 Try.underlying80 hi hz0 hz1 hz2 rfl (by decide) v n _ hrow ⟨g, 0, none⟩ 1 c [.int .u8 x0, .int .u8 x1, .int .u8 x2] rfl
    (fun j u' hu' => by
      match j, hu' with
      | 0, hu' => simp at hu'; subst hu'; simpa [Addr.add] using hB.cell 0
      | 1, hu' => simp at hu'; subst hu'; simpa [Addr.add] using hB.cell 1
      | 2, hu' => simp at hu'; subst hu'; simpa [Addr.add] using hB.cell 2) (fun u' hu' => by
      simp at hu'
      rcases hu' with rfl | rfl | rfl <;> rfl) (by unfold maxLen; omega) (by omega) hbase
  unfold Oper.wp execOp
  simp only [ho, resolve, invoke, builtin, Sem.run_bind, Sem.run_pure, Result.andThen_ok, List.map_toArray, List.map_cons, List.map_nil, hs, hx, hr]
  exact h v' w' ⟨by simp [hl]; omega, by simpa using hown'⟩ (below_grown hrow hg hbase) hg.block hat
end
theorem OwnJ.view {w : World} {base n : Nat} {v : Value} {fl : List Int} (h : OwnJ w base v n fl) : ∃ oa cap, v = .slice oa n cap ∧ (0 < n → ∃ g cur, oa = some ⟨g, 0, none⟩ ∧ base ≤ g ∧ Blk w g cur 83 ∧ ∀ i (hi : i < fl.length), cur[i]? = some (.int .i64 fl[i])) := by
  obtain ⟨hn, h1, h2⟩ := h
  rcases h2 with ⟨rfl, h0⟩ | ⟨g, cap, cur, rfl, hg, hB, hc, hm, hs, ht⟩
  · exact ⟨none, 0, by rw [h0], fun h => absurd h (by omega)⟩
  · refine ⟨_, cap, rfl, fun _ => ⟨g, cur, rfl, hg, hB, fun i hi => ?_⟩⟩
    have := congrArg (fun l => l[i]?) ht
    simp only [List.getElem?_take] at this
    rw [if_pos (by rw [hn] at hi; rw [Nat.mul_comm] at hi; omega)] at this
    simpa [List.getElem?_eq_getElem hi] using this
theorem large_seen {w : World} {base : Nat} {nv ov : Value} {A : Aut} {L N : Nat} (hn : OwnJ w base nv N (flN A L N)) (ho : OwnF 22 3 w base ov N (flO A L N)) (h0 : 0 < N) : SeesL w (.agg #[.int .i64 (L : Int), nv, ov]) A L N := by
  obtain ⟨oa, ca, rfl, hq⟩ := hn.view
  obtain ⟨ga, cura, rfl, _, hBa, hca⟩ := hq h0
  obtain ⟨oo, co, rfl, hq2⟩ := ho.view
  obtain ⟨go, curo, rfl, _, hBo, hco⟩ := hq2 h0
  refine ⟨ga, ca, cura, go, co, curo, rfl, hBa, hBo, fun i hi x hx => ?_⟩
  have l1 : i * 3 + x < (flN A L N).length := by rw [flN_len]; omega
  have l2 : i * 3 + x < (flO A L N).length := by rw [flO_len]; omega
  have a1 := hca _ l1
  have a2 := hco _ l2
  have b1 := flN_at A L N i x hi hx
  have b2 := flO_at A L N i x hi hx
  rw [List.getElem?_eq_getElem l1] at b1
  rw [List.getElem?_eq_getElem l2] at b2
  rcases (show x = 0 ∨ x = 1 ∨ x = 2 by omega) with rfl | rfl | rfl
  · exact ⟨by rw [a1, show (flN A L N)[i * 3 + 0] = (rowN A L i 0 : Int) from by simpa [rwN] using b1], by rw [a2, show (flO A L N)[i * 3 + 0] = rowO A L i 0 from by simpa [oL] using b2]⟩
  · exact ⟨by rw [a1, show (flN A L N)[i * 3 + 1] = (rowN A L i 1 : Int) from by simpa [rwN] using b1], by rw [a2, show (flO A L N)[i * 3 + 1] = rowO A L i 1 from by simpa [oL] using b2]⟩
  · exact ⟨by rw [a1, show (flN A L N)[i * 3 + 2] = (rowN A L i 2 : Int) from by simpa [rwN] using b1], by rw [a2, show (flO A L N)[i * 3 + 2] = rowO A L i 2 from by simpa [oL] using b2]⟩
/-- A row of next states while it is made. -/
def rwP (A : Aut) (i k : Nat) : List Int := [if 0 < k then (A.n i 0 : Int) else 0, if 1 < k then (A.n i 1 : Int) else 0, if 2 < k then (A.n i 2 : Int) else 0]
theorem rwP_zero (A : Aut) (i : Nat) : rwP A i 0 = [0, 0, 0] := rfl
theorem rwP_all (A : Aut) (L i : Nat) : rwP A i L = rwN A L i := by
  unfold rwP rwN rowN
  have key : ∀ x, (if x < L then (A.n i x : Int) else 0) = ((if x < L then A.n i x else 0 : Nat) : Int) := fun x => by split <;> rfl
  rw [key, key, key]
theorem rwP_set (A : Aut) (i k : Nat) (hk : k < 3) : (rwP A i k).set k (A.n i k : Int) = rwP A i (k + 1) := by
  rcases (show k = 0 ∨ k = 1 ∨ k = 2 by omega) with rfl | rfl | rfl <;> rfl
theorem cut_three {cur : Array Value} {k : Nat} {a b c : Value} (h1 : cur[k]? = some a) (h2 : cur[k + 1]? = some b) (h3 : cur[k + 2]? = some c) : cut cur k 3 = #[a, b, c] ∧ k + 3 ≤ cur.size := by
  refine ⟨?_, ?_⟩
  · apply Array.ext_getElem?
    intro j
    rw [get_cut]
    by_cases hj : j < 3
    · rw [if_pos hj]
      rcases (show j = 0 ∨ j = 1 ∨ j = 2 by omega) with rfl | rfl | rfl
      · exact h1
      · exact h2
      · exact h3
    · rw [if_neg hj, Array.getElem?_eq_none (by show 3 ≤ j; omega)]
  · rcases Nat.lt_or_ge (k + 2) cur.size with h | h
    · omega
    · rw [Array.getElem?_eq_none (by omega)] at h3; cases h3
/-- Behind the last letter a machine puts out 0. -/
theorem mach_zero {M : Mach} {L S : Nat} (hg : Good M L S) (q x : Nat) (hq : q < 16) (hx : x < 3) (h : L ≤ x) : M.o q x = 0 := by
  have h1 := (List.all_eq_true.1 hg.all) q (by simpa using hq)
  have h2 := (List.all_eq_true.1 h1) x (by simpa using hx)
  unfold cellAll at h2
  rw [if_neg (by omega)] at h2
  exact (of_decide_eq_true h2).2
theorem mach_oL {M : Mach} {L S : Nat} (hg : Good M L S) (q : Nat) (hq : q < 16) : [M.o q 0, M.o q 1, M.o q 2] = oL (stA M) L q := by
  have key : ∀ x, x < 3 → M.o q x = rowO (stA M) L q x := fun x hx => by
    unfold rowO
    by_cases h : x < L
    · rw [if_pos h]; rfl
    · rw [if_neg h]; exact mach_zero hg q x hq hx (by omega)
  unfold oL
  rw [key 0 (by omega), key 1 (by omega), key 2 (by omega)]

def lgC (L : Int) (nv ov : Value) : Array Value := #[.int .i64 L, nv, ov]
theorem lgC_one (L : Int) (a b : Option Addr) (n m c d : Nat) : (lgC L (.slice a n c) (.slice b m d)).all (·.oneCell') = true := by simp [lgC, Value.oneCell']
theorem lgC_set1 (L : Int) (nv ov v : Value) : (lgC L nv ov).setIfInBounds 1 v = lgC L v ov := rfl
theorem lgC_set2 (L : Int) (nv ov v : Value) : (lgC L nv ov).setIfInBounds 2 v = lgC L nv v := rfl

set_option maxRecDepth 100000 in
set_option maxHeartbeats 1500000 in
theorem l07Of_calls (M : Mach) (L S : Nat) (hg : Good M L S) (w : World) :
    Calls Try.prog 78 #[.agg (mc M)] w fun e w' => ∃ v, e = .returned v ∧ SeesL w' v (stA M) L S ∧ Below w.heap.size w w' := by
  have hL3 := hg.L3
  have hS16 := hg.S16
  have hS1 := hg.S1
  have hcL := mc_L M
  have hcS := mc_S M
  rw [hg.hL] at hcL
  rw [hg.hS] at hcS
  have Hg := Lib.hid hg
  have hzl := zero_lg
  have hz3 := zero_i3
  have hset : lgZ.setIfInBounds 0 (.int .i64 (L : Int)) = lgC L (.slice none 0 0) (.slice none 0 0) := rfl
  have hB1 : Blk (((w.alloc (.cells (mc M) 28)).alloc (.cells lgZ 82)).alloc (.cells lgZ 82)) w.heap.size (mc M) 28 := ((Blk.new w _ _).alloc _).alloc _
  have hR1 : Blk (((w.alloc (.cells (mc M) 28)).alloc (.cells lgZ 82)).alloc (.cells lgZ 82)) (w.heap.size + 1) lgZ 82 := (Blk.new_at _ _ _ _ (by simp)).alloc _
  have hN1 : Blk (((w.alloc (.cells (mc M) 28)).alloc (.cells lgZ 82)).alloc (.cells lgZ 82)) (w.heap.size + 1 + 1) lgZ 82 := Blk.new_at _ _ _ _ (by simp)
  have hbw1 : Below w.heap.size w (((w.alloc (.cells (mc M) 28)).alloc (.cells lgZ 82)).alloc (.cells lgZ 82)) := by (repeat (first | exact Below.refl _ _ | refine below_drew' ?_ | refine below_drewN' ?_ _ | refine below_alloc' ?_ _ | refine below_set' ?_ (by (try simp); (try omega)) _ | refine below_step ?_ (by assumption)))
  have Hon := Lib.hid (lgC_one L none none 0 0 0 0)
  have Hov : Hid (over lgZ 0 (lgC L (.slice none 0 0) (.slice none 0 0)) = lgC L (.slice none 0 0) (.slice none 0 0)) := Lib.hid (over_all _ _ rfl)
  have Hbel0 : Hid (∀ w1, Stored (((w.alloc (.cells (mc M) 28)).alloc (.cells lgZ 82)).alloc (.cells lgZ 82)) w1 (w.heap.size + 1 + 1) (lgC L (.slice none 0 0) (.slice none 0 0)) 82 → w.heap.size + 1 + 1 + 1 ≤ w1.heap.size) := Lib.hid (fun w1 hs => by rw [hs.size]; simp)
  have cL1 := (hB1.cell 0).trans hcL
  clear hg
  go_enter Try.func78, Try.ntmps78
  go_wp2_with ((with_reducible show wpList _ _ _ _ _ _); refine wpList_store_row rfl 82 (.tmp 3) (.tmp 9) rfl (w.heap.size + 1 + 1) 0 (lgC L (.slice none 0 0) (.slice none 0 0)) rfl rfl lgZ 82 hN1 (Nat.le_refl 3) size_lg Hon.out _ Hov.out ?_; intro w1 hs1)
  have hB2 := hs1.keep (by omega) hB1
  have hR2 := hs1.keep (by omega) hR1
  have hN2 := hs1.blk
  have hbw2 := hs1.below _ _ (by omega) hbw1
  have hsz2 := Hbel0.out w1 hs1
  clear hB1 hR1 hN1 hbw1 hs1 Hbel0 cL1 hset
  have hJ0 : OwnJ w1 (w.heap.size + 1 + 1 + 1) (.slice none 0 0) 0 (flN (stA M) L 0) := OwnJ.nil _ _
  have hO0 : OwnF 22 3 w1 (w.heap.size + 1 + 1 + 1) (.slice none 0 0) 0 (flO (stA M) L 0) := OwnF.nil _ _ _ _
  go_loopw [4] (fun i wr => ∃ (q : Nat) (nv ov : Value), q ≤ S ∧ i = .int .i64 q ∧ Blk wr w.heap.size (mc M) 28 ∧ Blk wr (w.heap.size + 1) lgZ 82 ∧ Blk wr (w.heap.size + 1 + 1) (lgC L nv ov) 82 ∧ OwnJ wr (w.heap.size + 1 + 1 + 1) nv q (flN (stA M) L q) ∧ OwnF 22 3 wr (w.heap.size + 1 + 1 + 1) ov q (flO (stA M) L q) ∧ Hid (∀ b, nv.ownBlock = some b → ov.ownBlock ≠ some b) ∧ Below w.heap.size w wr ∧ w.heap.size + 1 + 1 + 1 ≤ wr.heap.size) (fun i _ => S - (intOf i).toNat)
  case atStart => exact ⟨0, _, _, by omega, rfl, hB2, hR2, hN2, hJ0, hO0, Lib.hid (fun b hb => by simp [Value.ownBlock] at hb), hbw2, hsz2⟩
  case round =>
    clear hB2 hR2 hN2 hJ0 hO0 hbw2 hsz2
    obtain ⟨q, nv, ov, hq, rfl, hB, hR, hN, hJ, hO, Hno, hbw, hsz⟩ := hrel
    have cS := (hB.cell 1).trans hcS
    by_cases hqS : q < S
    · have hqi : (q : Int) < (S : Int) := by omega
      have hq16 : (q : Int) < 16 := by omega
      obtain ⟨oa, ca, rfl, hv1⟩ := hJ.view
      obtain ⟨oo, co, rfl, hv2⟩ := hO.view
      clear hv1 hv2
      have hT1 : Blk (wr.alloc (.cells (ints [0, 0, 0]) 83)) wr.heap.size (ints [0, 0, 0]) 83 := Blk.new _ _ _
      have Ht3 : Hid (over (ints [0, 0, 0]) 0 (ints [0, 0, 0]) = ints [0, 0, 0]) := Lib.hid (over_all _ _ rfl)
      have Hkeep : Hid (∀ w5, Stored (wr.alloc (.cells (ints [0, 0, 0]) 83)) w5 wr.heap.size (ints [0, 0, 0]) 83 → Blk w5 w.heap.size (mc M) 28 ∧ Blk w5 (w.heap.size + 1) lgZ 82 ∧ Blk w5 (w.heap.size + 1 + 1) (lgC L (.slice oa q ca) (.slice oo q co)) 82 ∧ OwnJ w5 (w.heap.size + 1 + 1 + 1) (.slice oa q ca) q (flN (stA M) L q) ∧ OwnF 22 3 w5 (w.heap.size + 1 + 1 + 1) (.slice oo q co) q (flO (stA M) L q) ∧ Below w.heap.size w w5 ∧ wr.heap.size < w5.heap.size) := Lib.hid (fun w5 hs => by
        have hal : Below wr.heap.size wr (wr.alloc (.cells (ints [0, 0, 0]) 83)) := by (repeat (first | exact Below.refl _ _ | refine below_drew' ?_ | refine below_drewN' ?_ _ | refine below_alloc' ?_ _ | refine below_set' ?_ (by (try simp); (try omega)) _ | refine below_step ?_ (by assumption)))
        exact ⟨hs.keep (by have := hB.lt; omega) (hB.alloc _), hs.keep (by have := hR.lt; omega) (hR.alloc _), hs.keep (by have := hN.lt; omega) (hN.alloc _), (hJ.below hal).same (fun b hb => hs.other b (by have := (hJ.ltt b hb).2; omega)), (hO.below hal).same (fun b hb => hs.other b (by have := (hO.ltt b hb).2; omega)), hs.below _ _ (by omega) (below_alloc' hbw _), by rw [hs.size]; simp⟩)
      have HF0 : Hid ((∀ b, (Value.slice oa q ca).ownBlock = some b → b ≠ wr.heap.size) ∧ (∀ b, (Value.slice oo q co).ownBlock = some b → b ≠ wr.heap.size)) := Lib.hid ⟨fun b hb => by have := (hJ.ltt b hb).2; omega, fun b hb => by have := (hO.ltt b hb).2; omega⟩
      go_wp2_with ((with_reducible show wpList _ _ _ _ _ _); refine wpList_store_row rfl 83 (.tmp 5) (.tmp 16) rfl wr.heap.size 0 (ints [0, 0, 0]) rfl rfl (ints [0, 0, 0]) 83 hT1 (Nat.le_refl 3) size_i3 (ints_one _) _ Ht3.out ?_; intro w5 hs5)
      obtain ⟨hB5, hR5, hN5, hJ5, hO5, hbw5, hsz5⟩ := Hkeep.out w5 hs5
      have hT5 := hs5.blk
      clear hs5 Hkeep Ht3 hT1 hB hR hN hJ hO hbw cS
      obtain ⟨g5, hg5⟩ : ∃ g5, wr.heap.size = g5 := ⟨_, rfl⟩
      rw [hg5] at hT5 hsz5 hsz HF0
      rw [hg5]
      clear hg5
      rw [← rwP_zero (stA M) q] at hT5
      go_loopw [6] (fun i wr => ∃ x : Nat, x ≤ L ∧ i = .int .i64 x ∧ Blk wr w.heap.size (mc M) 28 ∧ Blk wr (w.heap.size + 1) lgZ 82 ∧ Blk wr (w.heap.size + 1 + 1) (lgC L (.slice oa q ca) (.slice oo q co)) 82 ∧ OwnJ wr (w.heap.size + 1 + 1 + 1) (.slice oa q ca) q (flN (stA M) L q) ∧ OwnF 22 3 wr (w.heap.size + 1 + 1 + 1) (.slice oo q co) q (flO (stA M) L q) ∧ Below w.heap.size w wr ∧ Blk wr g5 (ints (rwP (stA M) q x)) 83 ∧ Hid ((∀ b, (Value.slice oa q ca).ownBlock = some b → b ≠ g5) ∧ (∀ b, (Value.slice oo q co).ownBlock = some b → b ≠ g5))) (fun i _ => L - (intOf i).toNat)
      case atStart => exact ⟨0, by omega, rfl, hB5, hR5, hN5, hJ5, hO5, hbw5, hT5, HF0⟩
      case round =>
        clear hB5 hR5 hN5 hJ5 hO5 hbw5 hT5
        obtain ⟨x, hx, rfl, hB, hR, hN, hJ, hO, hbw, hT, HF⟩ := hrel
        have cL := (hB.cell 0).trans hcL
        by_cases hxL : x < L
        · have hx3 : x < 3 := by omega
          have hxi : (x : Int) < (L : Int) := by omega
          have hxi3 : (x : Int) < 3 := by omega
          have hcn := mc_n Hg.out.ok q x (by omega) hx3
          rw [Hg.out.nn_eq q x hqS hxL] at hcn
          have hlt := Hg.out.nn_lt q x hqS hxL
          have cn := (hB.cell (2 + q * 3 + x)).trans hcn
          have hcv : IntKind.i64.wrap (nn M q x : Int) = (nn M q x : Int) := by simp [IntKind.wrap, IntKind.bits, IntKind.signed]; omega
          have hold := ints_at (rwP (stA M) q x) x (by show x < 3; exact hx3)
          generalize (rwP (stA M) q x).getD x 0 = oldv at hold
          have cT := (hT.cell x).trans hold
          have fT := hT.free x
          have hT2 := hT.set x (.int .i64 (nn M q x : Int))
          rw [← ints_set, show ((nn M q x : Nat) : Int) = ((stA M).n q x : Int) from rfl, rwP_set _ _ _ hx3, show ((stA M).n q x : Int) = ((nn M q x : Nat) : Int) from rfl] at hT2
          have hB2 := hB.setOther g5 x (.int .i64 (nn M q x : Int)) (by omega)
          have hR2 := hR.setOther g5 x (.int .i64 (nn M q x : Int)) (by omega)
          have hN2 := hN.setOther g5 x (.int .i64 (nn M q x : Int)) (by omega)
          have hJ2 := hJ.same (w1 := wr.setCell ⟨g5, x, none⟩ (.int .i64 (nn M q x : Int))) (fun b hb => Below.heap_setCell _ _ _ b (HF.out.1 b hb))
          have hO2 := hO.same (w1 := wr.setCell ⟨g5, x, none⟩ (.int .i64 (nn M q x : Int))) (fun b hb => Below.heap_setCell _ _ _ b (HF.out.2 b hb))
          have hbw2 := hbw.setCell (p := ⟨g5, x, none⟩) (show w.heap.size ≤ g5 by omega) (.int .i64 (nn M q x : Int))
          clear hold hcn
          generalize (nn M q x : Int) = nv at *
          go_wp2
          go_roundw
          case rel => exact ⟨x + 1, by omega, by go_num, hB2, hR2, hN2, hJ2, hO2, hbw2, hT2, HF⟩
          case measure => simp [intOf] <;> omega
        · obtain rfl : L = x := by omega
          rw [rwP_all] at hT
          obtain ⟨x0, x1, x2, hx⟩ : ∃ x0 x1 x2, rwN (stA M) L q = [x0, x1, x2] := ⟨_, _, _, rfl⟩
          have HflN : Hid (flN (stA M) L (q + 1) = flN (stA M) L q ++ [x0, x1, x2]) := Lib.hid (by rw [flN_succ, hx])
          rw [hx, show ints [x0, x1, x2] = #[.int .i64 x0, .int .i64 x1, .int .i64 x2] from rfl] at hT
          clear hx
          have Hq20 : Hid (q ≤ 1048576) := Lib.hid (by omega)
          have hge := hbw.size
          have hgT := hT.lt
          have hal : Below wr.heap.size wr (wr.alloc (.cells #[.int .i64 x0, .int .i64 x1, .int .i64 x2] 83)) := by (repeat (first | exact Below.refl _ _ | refine below_drew' ?_ | refine below_drewN' ?_ _ | refine below_alloc' ?_ _ | refine below_set' ?_ (by (try simp); (try omega)) _ | refine below_step ?_ (by assumption)))
          have hJa := hJ.below hal
          have hOa := hO.below hal
          have hBa := hB.keptAll hal
          have hRa := hR.keptAll hal
          have hNa := hN.keptAll hal
          have hbwa := hbw.trans (below_le hal hge)
          have hXa : Blk (wr.alloc (.cells #[.int .i64 x0, .int .i64 x1, .int .i64 x2] 83)) wr.heap.size #[.int .i64 x0, .int .i64 x1, .int .i64 x2] 83 := Blk.new _ _ _
          have Hsza : Hid (w.heap.size + 1 + 1 + 1 ≤ (wr.alloc (.cells #[.int .i64 x0, .int .i64 x1, .int .i64 x2] 83)).heap.size) := Lib.hid (by simp; omega)
          have Hcu : Hid (cut #[.int .i64 x0, .int .i64 x1, .int .i64 x2] 0 3 = #[.int .i64 x0, .int .i64 x1, .int .i64 x2]) := Lib.hid (cut_all _ _ rfl)
          have cN1 : wr.cell? ⟨w.heap.size + 1 + 1, 1, none⟩ = some (.slice oa q ca) := hN.cell 1
          have Hpost : Hid (∀ v7 w7, OwnJ w7 (w.heap.size + 1 + 1 + 1) v7 (q + 1) (flN (stA M) L q ++ [x0, x1, x2]) → Below (w.heap.size + 1 + 1 + 1) (wr.alloc (.cells #[.int .i64 x0, .int .i64 x1, .int .i64 x2] 83)) w7 → (∀ k, k < (wr.alloc (.cells #[.int .i64 x0, .int .i64 x1, .int .i64 x2] 83)).heap.size → some k ≠ (Value.slice oa q ca).ownBlock → w7.heap[k]? = (wr.alloc (.cells #[.int .i64 x0, .int .i64 x1, .int .i64 x2] 83)).heap[k]?) → (v7.ownBlock = (Value.slice oa q ca).ownBlock ∨ v7.ownBlock = some (wr.alloc (.cells #[.int .i64 x0, .int .i64 x1, .int .i64 x2] 83)).heap.size) →
              ∃ o7 c7, v7 = .slice o7 (q + 1) c7 ∧ Blk w7 w.heap.size (mc M) 28 ∧ Blk w7 (w.heap.size + 1) lgZ 82 ∧ Blk w7 (w.heap.size + 1 + 1) (lgC L (.slice oa q ca) (.slice oo q co)) 82 ∧ OwnF 22 3 w7 (w.heap.size + 1 + 1 + 1) (.slice oo q co) q (flO (stA M) L q) ∧ Below w.heap.size w w7 ∧ w.heap.size + 1 + 1 + 1 ≤ w7.heap.size ∧ Hid (∀ b, v7.ownBlock = some b → (Value.slice oo q co).ownBlock ≠ some b)) := Lib.hid (fun v7 w7 hJ7 hb7 hs7 hat7 => by
            obtain ⟨o7, c7, e7, _⟩ := hJ7.view
            have hlow : ∀ k, k < w.heap.size + 1 + 1 + 1 → w7.heap[k]? = (wr.alloc (.cells #[.int .i64 x0, .int .i64 x1, .int .i64 x2] 83)).heap[k]? := fun k hk => hb7.block k hk
            exact ⟨o7, c7, e7, (hlow _ (by omega)).trans hBa, (hlow _ (by omega)).trans hRa, (hlow _ (by omega)).trans hNa, hOa.same (fun b hb => hs7 b (hOa.ltt b hb).2 (fun e => Hno.out b e.symm hb)), hbwa.trans (below_le hb7 (by omega)), Nat.le_trans Hsza.out hb7.size, Lib.hid (fun b hb hb2 => by
              rcases hat7 with e | e
              · exact Hno.out b (e ▸ hb) hb2
              · rw [e] at hb
                cases hb
                exact absurd (hOa.ltt _ hb2).2 (Nat.lt_irrefl _))⟩)
          clear hal hRa hNa hBa hOa
          go_wp2_with (first | ((with_reducible show wpList _ _ _ _ _ _); refine wpList_load_blk rfl 83 (.tmp 5) rfl g5 0 rfl _ _ hT 3 (Nat.le_refl 3) _ Try.underlying83 rfl size_i3 ?_; rw [Hcu.out]) | (at_builtin; refine wpList_push_i3 rfl (.tmp 33) (.tmp 35) rfl (w.heap.size + 1 + 1 + 1) (.slice oa q ca) q (flN (stA M) L q) rfl hJa wr.heap.size 1 x0 x1 x2 rfl hXa Hq20.out Hsza.out ?_; intro v7 w7 hJ7 hb7 hs7 hat7; obtain ⟨o7, c7, rfl, hB7, hR7, hN7, hO7, hbw7, hsz7, Hno7⟩ := Hpost.out v7 w7 hJ7 hb7 hs7 hat7; have cN7 := hN7.cell; have fN7 := hN7.free))
          have hlt7 := hN7.lt
          have Hsz7 := Lib.hid hsz7
          rw [← HflN.out] at hJ7
          have hb8 := hbw7.setCell (p := ⟨w.heap.size + 1 + 1, 1, none⟩) (show w.heap.size ≤ w.heap.size + 1 + 1 by omega) (.slice o7 (q + 1) c7)
          have hB8 := hB7.setOther (w.heap.size + 1 + 1) 1 (.slice o7 (q + 1) c7) (by omega)
          have hR8 := hR7.setOther (w.heap.size + 1 + 1) 1 (.slice o7 (q + 1) c7) (by omega)
          have hN8 := hN7.set 1 (.slice o7 (q + 1) c7)
          rw [lgC_set1] at hN8
          have hJ8 := hJ7.same (w1 := w7.setCell ⟨w.heap.size + 1 + 1, 1, none⟩ (.slice o7 (q + 1) c7)) (fun b hb => Below.heap_setCell _ _ _ b (by have := (hJ7.ltt b hb).1; show b ≠ w.heap.size + 1 + 1; omega))
          have hO8 := hO7.same (w1 := w7.setCell ⟨w.heap.size + 1 + 1, 1, none⟩ (.slice o7 (q + 1) c7)) (fun b hb => Below.heap_setCell _ _ _ b (by have := (hO7.ltt b hb).1; show b ≠ w.heap.size + 1 + 1; omega))
          have hsz8 : w.heap.size + 1 + 1 + 1 ≤ (w7.setCell ⟨w.heap.size + 1 + 1, 1, none⟩ (.slice o7 (q + 1) c7)).heap.size := Nat.le_trans hsz7 (Nat.le_of_eq (by simp))
          clear hb7 hs7 hat7 cN7 fN7 hB7 hR7 hN7 hO7 hbw7 hsz7 hJ7 Hpost hJa hXa hbwa hT hB hR hN hJ hO hbw cL cN1 hlt7
          generalize w7.setCell ⟨w.heap.size + 1 + 1, 1, none⟩ (.slice o7 (q + 1) c7) = w8 at *
          obtain ⟨y0, y1, y2, hy⟩ : ∃ y0 y1 y2, oL (stA M) L q = [y0, y1, y2] := ⟨_, _, _, rfl⟩
          have hyo := mach_oL Hg.out q (by omega)
          rw [hy] at hyo
          simp only [List.cons.injEq, and_true] at hyo
          have o0 := mc_o Hg.out.ok q 0 (by omega) (by omega)
          have o1 := mc_o Hg.out.ok q 1 (by omega) (by omega)
          have o2 := mc_o Hg.out.ok q 2 (by omega) (by omega)
          rw [hyo.1] at o0
          rw [hyo.2.1] at o1
          rw [hyo.2.2] at o2
          have hcut := cut_three (cur := mc M) (k := 50 + q * 3) o0 o1 o2
          have Hcut := Lib.hid hcut.1
          have Hroom := Lib.hid hcut.2
          have HflO : Hid (flO (stA M) L (q + 1) = flO (stA M) L q ++ [y0, y1, y2]) := Lib.hid (by rw [flO_succ, hy])
          clear hcut hyo hy o0 o1 o2
          have hdr : Below w8.heap.size w8 w8.drew := (Below.refl _ _).drew
          have hb9 := hb8.trans (below_le hdr hb8.size)
          have hB9 := hB8.keptAll hdr
          have hR9 := hR8.keptAll hdr
          have hN9 := hN8.keptAll hdr
          have hJ9 := hJ8.below hdr
          have hO9 := hO8.below hdr
          have hsz9 : w.heap.size + 1 + 1 + 1 ≤ w8.drew.heap.size := hsz8
          have hS9 : Blk w8.drew w.heap.size (mc M) 28 ∧ Blk w8.drew (w.heap.size + 1 + 1) (lgC L (.slice o7 (q + 1) c7) (.slice oo q co)) 82 := ⟨hB9, hN9⟩
          refine wp_region_lastT (n := 9) (S := fun W => Blk W w.heap.size (mc M) 28 ∧ Blk W (w.heap.size + 1 + 1) (lgC L (.slice o7 (q + 1) c7) (.slice oo q co)) 82) (by kernel_rfl) rfl (by kernel_rfl) hS9 (fun hS0 => ?_)
          clear hS9 hdr hb8 hB8 hR8 hN8 hJ8 hO8 hsz8
          generalize w8.drew = w9 at *
          (refine hK_take 0 (.pointer (some ⟨w.heap.size + 1 + 1, 2, none⟩)) rfl (by kernel_rfl) (by kernel_rfl) (by kernel_rfl) (fun _ _ _ h => h) rfl (fun W _ => by go_simp) hS0 ?_; (intro K hK; go_simp; refine hK _ ?_; clear hK K))
          (refine hK_take 1 (.slice oo q co) rfl (by kernel_rfl) (by kernel_rfl) (by kernel_rfl) (fun _ _ _ h => h) rfl (fun W hW => by have c1 : W.cell? ⟨w.heap.size + 1 + 1, 2, none⟩ = some (.slice oo q co) := hW.2.cell 2; clear hW; go_simp) hS0 ?_; (intro K hK; go_simp; refine hK _ ?_; clear hK K))
          (refine hK_take 2 (.int .i64 (q : Int)) rfl (by kernel_rfl) (by kernel_rfl) (by kernel_rfl) (fun _ _ _ h => h) rfl (fun W _ => by go_simp) hS0 ?_; (intro K hK; go_simp; refine hK _ ?_; clear hK K))
          (refine hK_take 3 (.pointer (some ⟨w.heap.size, 50, none⟩)) rfl (by kernel_rfl) (by kernel_rfl) (by kernel_rfl) (fun _ _ _ h => h) rfl (fun W _ => by go_simp) hS0 ?_; (intro K hK; go_simp; refine hK _ ?_; clear hK K))
          (refine hK_take 4 (.pointer (some ⟨w.heap.size, 50 + q * 3, none⟩)) rfl (by kernel_rfl) (by kernel_rfl) (by kernel_rfl) (fun _ _ _ h => h) rfl (fun W _ => by go_simp) hS0 ?_; (intro K hK; go_simp; refine hK _ ?_; clear hK K))
          (refine hK_load 5 rfl (by kernel_rfl) (by kernel_rfl) (by kernel_rfl) 22 _ rfl w.heap.size (50 + q * 3) rfl _ _ (fun W hW => hW.1) 3 Hroom.out _ Try.underlying22 rfl size_a3 _ Hcut.out (fun _ _ _ h => h) rfl hS0 ?_; (intro K hK; go_simp; refine hK _ ?_; clear hK K))
          have hal : Below w9.heap.size w9 (w9.alloc (.cells #[.int .u8 y0, .int .u8 y1, .int .u8 y2] 22)) := by (repeat (first | exact Below.refl _ _ | refine below_drew' ?_ | refine below_drewN' ?_ _ | refine below_alloc' ?_ _ | refine below_set' ?_ (by (try simp); (try omega)) _ | refine below_step ?_ (by assumption)))
          have hBa := hB9.keptAll hal
          have hRa := hR9.keptAll hal
          have hNa := hN9.keptAll hal
          have hJa := hJ9.below hal
          have hOa := hO9.below hal
          have hba := hb9.trans (below_le hal hb9.size)
          have hXa : Blk (w9.alloc (.cells #[.int .u8 y0, .int .u8 y1, .int .u8 y2] 22)) w9.heap.size #[.int .u8 y0, .int .u8 y1, .int .u8 y2] 22 := Blk.new _ _ _
          have hsza : w.heap.size + 1 + 1 + 1 ≤ (w9.alloc (.cells #[.int .u8 y0, .int .u8 y1, .int .u8 y2] 22)).heap.size := by simp; omega
          refine wpAnyH_ready (rs := [6]) (by kernel_rfl) (by simp) ?_
          refine AllReadyH.cons rfl (fun K hK => ?_) AllReadyH.nil
          go_simp
          refine hK.out _ _ ⟨hBa, hNa⟩ (fun hS7 => ?_)
          clear hK K hB9 hR9 hN9 hJ9 hO9 hb9 hal hS0
          generalize w9.alloc (.cells #[.int .u8 y0, .int .u8 y1, .int .u8 y2] 22) = wa at *
          refine wpAnyH_ready (rs := [7]) (by kernel_rfl) (by simp) ?_
          refine AllReadyH.cons rfl (fun K hK => ?_) AllReadyH.nil
          refine (show ∀ {c p q : Prop} [Decidable c], c → p → if c then p else q from fun hc h => by rw [if_pos hc]; exact h) (by kernel_rfl) ?_
          refine wp_push_b3 (.tmp 39) (.tmp 44) rfl (w.heap.size + 1 + 1 + 1) _ q (flO (stA M) L q) rfl hOa w9.heap.size 1 y0 y1 y2 rfl hXa (by omega) hsza ?_
          intro v8 w10 hO10 hb10 hs10 hat10
          obtain ⟨o8, c8', e8, hq8⟩ := hO10.view
          clear hq8
          have hlow : ∀ k, k < w.heap.size + 1 + 1 + 1 → w10.heap[k]? = wa.heap[k]? := fun k hk => hb10.block k hk
          have hB10 : Blk w10 w.heap.size (mc M) 28 := (hlow _ (by omega)).trans hBa
          have hR10 : Blk w10 (w.heap.size + 1) lgZ 82 := (hlow _ (by omega)).trans hRa
          have hN10 : Blk w10 (w.heap.size + 1 + 1) (lgC L (.slice o7 (q + 1) c7) (.slice oo q co)) 82 := (hlow _ (by omega)).trans hNa
          have hJ10 := hJa.same (fun b hb => hs10 b (hJa.ltt b hb).2 (fun e => Hno7.out b hb e.symm))
          have hbb10 := hba.trans (below_le hb10 (by omega))
          have hsz10 := Nat.le_trans hsza hb10.size
          have Hno10 : Hid (∀ b, (Value.slice o7 (q + 1) c7).ownBlock = some b → v8.ownBlock ≠ some b) := Lib.hid (fun b hb hb2 => by
            rcases hat10 with e | e
            · exact Hno7.out b hb (e ▸ hb2)
            · rw [e] at hb2
              cases hb2
              exact absurd (hJa.ltt _ hb).2 (Nat.lt_irrefl _))
          clear hat10 hs10 hb10 hlow hba hsza hXa hOa hJa hNa hRa hBa
          subst e8
          refine hK.out _ _ ⟨hB10, hN10⟩ (fun hS8 => ?_)
          clear hK K hS7
          (refine hK_take 8 (.pointer (some ⟨w.heap.size + 1 + 1, 2, none⟩)) rfl (by kernel_rfl) (by kernel_rfl) (by kernel_rfl) (fun _ _ _ h => h) rfl (fun W _ => by go_simp) hS8 ?_; (intro K hK; go_simp; refine hK _ ?_; clear hK K))
          refine wpAnyH_done (by kernel_rfl) ?_ _
          refine lastQ_go rfl (fun K hK => ?_)
          have cN := hN10.cell 2
          have cN2 : w10.cell? ⟨w.heap.size + 1 + 1, 2, none⟩ = some (.slice oo q co) := cN
          have fN := hN10.free
          clear cN hS8
          go_simp
          refine hK.out _ _ ?_
          clear hK K cN2 fN
          have hN11 := hN10.set 2 (.slice o8 (q + 1) c8')
          rw [lgC_set2] at hN11
          have hB11 := hB10.setOther (w.heap.size + 1 + 1) 2 (.slice o8 (q + 1) c8') (by omega)
          have hR11 := hR10.setOther (w.heap.size + 1 + 1) 2 (.slice o8 (q + 1) c8') (by omega)
          have hJ11 := hJ10.same (w1 := w10.setCell ⟨w.heap.size + 1 + 1, 2, none⟩ (.slice o8 (q + 1) c8')) (fun b hb => Below.heap_setCell _ _ _ b (by have := (hJ10.ltt b hb).1; show b ≠ w.heap.size + 1 + 1; omega))
          have hO11 := hO10.same (w1 := w10.setCell ⟨w.heap.size + 1 + 1, 2, none⟩ (.slice o8 (q + 1) c8')) (fun b hb => Below.heap_setCell _ _ _ b (by have := (hO10.ltt b hb).1; show b ≠ w.heap.size + 1 + 1; omega))
          have hb11 := hbb10.setCell (p := ⟨w.heap.size + 1 + 1, 2, none⟩) (show w.heap.size ≤ w.heap.size + 1 + 1 by omega) (.slice o8 (q + 1) c8')
          have hsz11 : w.heap.size + 1 + 1 + 1 ≤ (w10.setCell ⟨w.heap.size + 1 + 1, 2, none⟩ (.slice o8 (q + 1) c8')).heap.size := Nat.le_trans hsz10 (Nat.le_of_eq (by simp))
          go_wp2
          go_roundw
          case rel => exact ⟨q + 1, _, _, by omega, by go_num, hB11, hR11, hN11, hJ11, by rw [HflO.out]; exact hO11, Hno10, hb11, hsz11⟩
          case measure => simp [intOf] <;> omega
    · obtain rfl : S = q := by omega
      obtain ⟨oa, ca, rfl, hv1⟩ := hJ.view
      obtain ⟨oo, co, rfl, hv2⟩ := hO.view
      clear hv1 hv2
      have Hcu : Hid (cut (lgC L (.slice oa S ca) (.slice oo S co)) 0 3 = lgC L (.slice oa S ca) (.slice oo S co)) := Lib.hid (cut_all _ _ rfl)
      have Hov : Hid (over lgZ 0 (lgC L (.slice oa S ca) (.slice oo S co)) = lgC L (.slice oa S ca) (.slice oo S co)) := Lib.hid (over_all _ _ rfl)
      have Hon := Lib.hid (lgC_one L oa oo S S ca co)
      go_wp2_with (first | ((with_reducible show wpList _ _ _ _ _ _); refine wpList_load_blk rfl 82 (.tmp 3) rfl (w.heap.size + 1 + 1) 0 rfl _ _ hN 3 (Nat.le_refl 3) _ Try.underlying82 rfl size_lg ?_; rw [Hcu.out]) | ((with_reducible show wpList _ _ _ _ _ _); refine wpList_store_row rfl 82 (.tmp 2) (.tmp 47) rfl (w.heap.size + 1) 0 (lgC L (.slice oa S ca) (.slice oo S co)) rfl rfl lgZ 82 hR (Nat.le_refl 3) size_lg Hon.out _ Hov.out ?_; intro w8 hs8))
      have hJ8 := hJ.same (fun b hb => hs8.other b (by have := (hJ.ltt b hb).1; omega))
      have hO8 := hO.same (fun b hb => hs8.other b (by have := (hO.ltt b hb).1; omega))
      have hbw8 := hs8.below _ _ (show w.heap.size ≤ w.heap.size + 1 by omega) hbw
      exact bodyPost_cell rfl rfl hs8.blk Try.underlying82 rfl size_lg rfl ⟨_, rfl, large_seen hJ8 hO8 (by omega), hbw8⟩
end Go.Proofs.Ytkkooafjpancoaa
