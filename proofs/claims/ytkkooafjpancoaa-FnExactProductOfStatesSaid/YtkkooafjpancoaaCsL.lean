/- The model's large machines: data, and letters of two rows compared. · 'l07Classes'. -/
import Derived.Test.YtkkooafjpancoaaDvO
import Derived.Test.YtkkooafjpancoaaMinT
import Derived.Stop.BytesEq
namespace Go.Proofs.Ytkkooafjpancoaa
open Go.RowKit

/-- The letters that a row puts out. -/
def oL (A : Aut) (L i : Nat) : List Int := [rowO A L i 0, rowO A L i 1, rowO A L i 2]
theorem oL_len (A : Aut) (L i : Nat) : (oL A L i).length = 3 := rfl
theorem cell_of {n : Int} (h : 0 ≤ n ∧ n ≤ 255) : Value.int .u8 n = Go.Extern.Stop.cell (UInt8.ofNat n.toNat) := by
  unfold Go.Extern.Stop.cell
  congr 1
  rw [UInt8.toNat_ofNat_of_lt' (by simp [UInt8.size]; omega)]
  exact (Int.toNat_of_nonneg h.1).symm
theorem c8_cells : ∀ (l : List Int), isBytes l → l.map (Value.int .u8) = (l.map fun n => UInt8.ofNat n.toNat).map Go.Extern.Stop.cell
  | [], _ => rfl
  | n :: l, h => by
    simp only [List.map_cons]
    rw [cell_of (h n (by simp)), c8_cells l (fun m hm => h m (by simp [hm]))]
theorem bytes_inj : ∀ (l l' : List Int), isBytes l → isBytes l' → (l.map fun n => UInt8.ofNat n.toNat) = (l'.map fun n => UInt8.ofNat n.toNat) → l = l'
  | [], [], _, _, _ => rfl
  | [], _ :: _, _, _, h => by cases h
  | _ :: _, [], _, _, h => by cases h
  | n :: l, m :: l', h, h', e => by
    simp only [List.map_cons, List.cons.injEq] at e
    have hn := h n (by simp)
    have hm := h' m (by simp)
    have e1 := congrArg UInt8.toNat e.1
    rw [UInt8.toNat_ofNat_of_lt' (by simp [UInt8.size]; omega), UInt8.toNat_ofNat_of_lt' (by simp [UInt8.size]; omega)] at e1
    rw [bytes_inj l l' (fun k hk => h k (by simp [hk])) (fun k hk => h' k (by simp [hk])) e.2, show n = m by omega]
theorem eql_three (l l' : List Int) (h : l.length = 3) (h' : l'.length = 3) (hb : isBytes l) (hb' : isBytes l') (w : World) :
    (Op.equalIn 10000 22 (.agg (c8 l)) (.agg (c8 l'))).run Try.prog w = .ok (decide (l = l')) w := by
  have e1 : c8 l = ((l.map fun n => UInt8.ofNat n.toNat).map Go.Extern.Stop.cell).toArray := by rw [← c8_cells l hb]; rfl
  have e2 : c8 l' = ((l'.map fun n => UInt8.ofNat n.toNat).map Go.Extern.Stop.cell).toArray := by rw [← c8_cells l' hb']; rfl
  rw [e1, e2, run_equalIn_bytes w 9998 22 5 3 Try.underlying22 Try.underlying5 (fun w => by kernel_rfl) _ _ (by simpa using h) (by simpa using h')]
  congr 1
  rw [Bool.eq_iff_iff, beq_iff_eq, decide_eq_true_eq]
  exact ⟨fun e => bytes_inj l l' hb hb' e, fun e => by rw [e]⟩

/-! ### Least equal points, in lists -/
def clsA (A : Aut) (L t N : Nat) : List Int := (List.range N).map fun i => (aLst A L t i : Int)
def nxtA (A : Aut) (L t N q : Nat) : List Int := (List.range N).map fun i => if i < q then (aLst A L (t + 1) i : Int) else 0
theorem clsA_len (A : Aut) (L t N : Nat) : (clsA A L t N).length = N := by simp [clsA]
theorem nxtA_len (A : Aut) (L t N q : Nat) : (nxtA A L t N q).length = N := by simp [nxtA]
theorem clsA_zero (A : Aut) (L N : Nat) : clsA A L 0 N = List.replicate N 0 := by
  unfold clsA
  simp only [aLst_zero]
  rw [List.map_const', List.length_range]; rfl
theorem nxtA_zero (A : Aut) (L t N : Nat) : nxtA A L t N 0 = List.replicate N 0 := by
  unfold nxtA
  simp only [Nat.not_lt_zero, if_false]
  rw [List.map_const', List.length_range]
theorem nxtA_all (A : Aut) (L t N : Nat) : nxtA A L t N N = clsA A L (t + 1) N := by
  unfold nxtA clsA
  refine List.map_congr_left fun i hi => ?_
  rw [if_pos (by simpa using hi)]
theorem nxtA_set (A : Aut) (L t N q : Nat) (v : Int) (hv : v = aLst A L (t + 1) q) : (nxtA A L t N q).set q v = nxtA A L t N (q + 1) := by
  subst hv
  apply List.ext_getElem
  · simp [nxtA]
  · intro i h1 h2
    simp only [nxtA, List.getElem_set, List.getElem_map, List.getElem_range]
    by_cases h : q = i
    · subst h; simp
    · rw [if_neg h]
      by_cases h3 : i < q
      · rw [if_pos h3, if_pos (by omega)]
      · rw [if_neg h3, if_neg (by omega)]
theorem clsA_at (A : Aut) (L t N i : Nat) (hi : i < N) : (ints (clsA A L t N))[i]? = some (.int .i64 (aLst A L t i : Int)) := by
  simp [ints, clsA, hi]
theorem nxtA_at (A : Aut) (L t N q r : Nat) (hr : r < q) (hq : q < N) (v : Int) : (ints ((nxtA A L t N q).set q v))[r]? = some (.int .i64 (aLst A L (t + 1) r : Int)) := by
  have hrN : r < N := by omega
  simp [ints, nxtA, hrN, show ¬ q = r by omega, hr]
theorem nxtA_own (A : Aut) (L t N q : Nat) (hq : q < N) (v : Int) : (ints ((nxtA A L t N q).set q v))[q]? = some (.int .i64 v) := by
  simp [ints, nxtA, hq]
theorem aLst_alone {A : Aut} {L t q : Nat} (h : ∀ p, p < q → aEq A L t q p = false) : aLst A L t q = q := by
  obtain ⟨h1, h2, _⟩ := aLst_at A L t q
  rcases Nat.lt_or_ge (aLst A L t q) q with hlt | hge
  · rw [h _ hlt] at h2; cases h2
  · omega
/-- What the walk has found of q and r with k letters looked at. -/
def smK (A : Aut) (L t q r k : Nat) : Bool := (decide ((aLst A L t q : Int) = (aLst A L t r : Int)) && decide (oL A L q = oL A L r)) && (List.range k).all fun y => decide ((aLst A L t (A.n q y) : Int) = (aLst A L t (A.n r y) : Int))
theorem smK_succ (A : Aut) (L t q r k : Nat) : smK A L t q r (k + 1) = (smK A L t q r k && decide ((aLst A L t (A.n q k) : Int) = (aLst A L t (A.n r k) : Int))) := by
  simp [smK, List.range_succ, Bool.and_assoc]
theorem smK_no {A : Aut} {L t q r k m : Nat} (hk : k ≤ m) (h : smK A L t q r k = false) : smK A L t q r m = false := by
  induction hk with
  | refl => exact h
  | step _ ih => rw [smK_succ, ih]; rfl
theorem smK_all (A : Aut) (L t q r : Nat) (hL : L ≤ 3) : smK A L t q r L = aEq A L (t + 1) q r := by
  rw [Bool.eq_iff_iff, aEq_succ]
  unfold smK
  simp only [Bool.and_eq_true, decide_eq_true_eq, List.all_eq_true, List.mem_range]
  have key : ∀ x, x < 3 → (rowO A L q x = rowO A L r x ↔ (x < L → A.o q x = A.o r x)) := fun x _ => by
    unfold rowO
    by_cases h : x < L
    · rw [if_pos h, if_pos h]; simp [h]
    · rw [if_neg h, if_neg h]; simp [h]
  have kL : oL A L q = oL A L r ↔ ∀ x, x < L → A.o q x = A.o r x := by
    simp only [oL, List.cons.injEq, and_true]
    rw [key 0 (by omega), key 1 (by omega), key 2 (by omega)]
    constructor
    · rintro ⟨a, b, c⟩ x hx
      rcases (show x = 0 ∨ x = 1 ∨ x = 2 by omega) with rfl | rfl | rfl
      · exact a hx
      · exact b hx
      · exact c hx
    · exact fun h => ⟨h 0, h 1, h 2⟩
  rw [kL]
  constructor
  · rintro ⟨⟨_, h2⟩, h3⟩ x hx
    exact ⟨h2 x hx, (aLst_iff A L t _ _).1 (by have := h3 x hx; omega)⟩
  · intro h
    refine ⟨⟨?_, fun x hx => (h x hx).1⟩, fun x hx => ?_⟩
    · have h1 : aEq A L (t + 1) q r = true := (aEq_succ A L t q r).2 h
      rw [(aLst_iff A L t q r).2 (aEq_less A L t q r h1)]
    · rw [(aLst_iff A L t _ _).2 (h x hx).2]
/-- How many sets the round before had. -/
def kcA (A : Aut) (L N t : Nat) : Nat := if t = 0 then 0 else cntB (aRep A L t) N
theorem kcA_succ (A : Aut) (L N t : Nat) : kcA A L N (t + 1) = cntB (aRep A L (t + 1)) N := if_neg (by omega)
theorem kcA_pos {A : Aut} {L N t : Nat} (h0 : 0 < N) : 1 ≤ cntB (aRep A L t) N := by
  have h1 := cnt_le A L N (Nat.zero_le t)
  have h2 := cnt_zero A L N h0
  omega
theorem kcA_still {A : Aut} {L N t : Nat} (hA : A.In L N) (h0 : 0 < N) (h : cntB (aRep A L (t + 1)) N = kcA A L N t) : AStill A L N (t + 1) := by
  unfold kcA at h
  split at h
  · have := kcA_pos (A := A) (L := L) (t := t + 1) h0
    omega
  · exact (still_of_cnt (by omega)).next hA
theorem kcA_lt {A : Aut} {L N t : Nat} (h0 : 0 < N) (h : ¬ cntB (aRep A L (t + 1)) N = kcA A L N t) : kcA A L N t < kcA A L N (t + 1) ∧ kcA A L N (t + 1) ≤ N := by
  have h1 := cntB_le (aRep A L (t + 1)) N
  have h2 := cnt_le A L N (show t ≤ t + 1 by omega)
  have h3 := kcA_pos (A := A) (L := L) (t := t + 1) h0
  rw [kcA_succ]
  unfold kcA at *
  split at h
  · rename_i e
    rw [if_pos e]; omega
  · rename_i e
    rw [if_neg e]; omega
/-- A large machine can be read. -/
def SeesL (w : World) (v : Value) (A : Aut) (L N : Nat) : Prop := ∃ ga ca cura go co curo, v = .agg #[.int .i64 (L : Int), .slice (some ⟨ga, 0, none⟩) N ca, .slice (some ⟨go, 0, none⟩) N co] ∧ Blk w ga cura 83 ∧ Blk w go curo 22 ∧
  ∀ i, i < N → ∀ x, x < 3 → cura[i * 3 + x]? = some (.int .i64 (rowN A L i x : Int)) ∧ curo[i * 3 + x]? = some (.int .u8 (rowO A L i x))
theorem SeesL.below {w w1 : World} {v : Value} {A : Aut} {L N : Nat} (h : SeesL w v A L N) (hb : Below w.heap.size w w1) : SeesL w1 v A L N := by
  obtain ⟨ga, ca, cura, go, co, curo, rfl, hBa, hBo, hc⟩ := h
  exact ⟨ga, ca, cura, go, co, curo, rfl, hBa.keptAll hb, hBo.keptAll hb, hc⟩
theorem cut_oL {curo : Array Value} {A : Aut} {L i : Nat} (h : ∀ x, x < 3 → curo[i * 3 + x]? = some (.int .u8 (rowO A L i x))) : cut curo (i * 3) 3 = c8 (oL A L i) ∧ i * 3 + 3 ≤ curo.size := by
  refine ⟨?_, ?_⟩
  · apply Array.ext_getElem?
    intro j
    rw [get_cut]
    by_cases hj : j < 3
    · rw [if_pos hj]
      rcases (show j = 0 ∨ j = 1 ∨ j = 2 by omega) with rfl | rfl | rfl
      · exact h 0 (by omega)
      · exact h 1 (by omega)
      · exact h 2 (by omega)
    · rw [if_neg hj, Array.getElem?_eq_none (by rw [c8_size]; show 3 ≤ j; omega)]
  · have := h 2 (by omega)
    rcases Nat.lt_or_ge (i * 3 + 2) curo.size with h1 | h1
    · omega
    · rw [Array.getElem?_eq_none (by omega)] at this; cases this
theorem oL_bytes {A : Aut} {L N : Nat} (hb : A.Bytes L N) {i : Nat} (hi : i < N) : isBytes (oL A L i) := fun n hn => by
  simp only [oL, List.mem_cons, List.not_mem_nil, or_false] at hn
  rcases hn with rfl | rfl | rfl
  · exact rowO_bd hb hi 0
  · exact rowO_bd hb hi 1
  · exact rowO_bd hb hi 2
end Go.Proofs.Ytkkooafjpancoaa

namespace Go.Proofs.Ytkkooafjpancoaa
open Go.RowKit

set_option maxRecDepth 100000 in
set_option maxHeartbeats 4000000 in
theorem l07Classes_calls (A : Aut) (L N : Nat) (hL : L ≤ 3) (h0 : 0 < N) (hN : N ≤ 256) (hA : A.In L N) (hb : A.Bytes L N) (lv : Value) (w : World) (hl : SeesL w lv A L N) :
    Calls Try.prog 80 #[lv] w fun e w' => (∃ v t, e = .returned v ∧ AStill A L N t ∧ OwnI w' w.heap.size v (clsA A L t N)) ∧ Below w.heap.size w w' := by
  obtain ⟨ga, ca, cura, go, co, curo, rfl, hBa, hBo, hc⟩ := hl
  have HN := Lib.hid hN
  have Hin := Lib.hid hA
  have Hby := Lib.hid hb
  have Hc := Lib.hid hc
  obtain ⟨w0, hw0⟩ : ∃ w0, w.alloc (.cells #[.int .i64 (L : Int), .slice (some ⟨ga, 0, none⟩) N ca, .slice (some ⟨go, 0, none⟩) N co] 82) = w0 := ⟨_, rfl⟩
  have hb0 : Below w.heap.size w w0 := by rw [← hw0]; (repeat (first | exact Below.refl _ _ | refine below_drew' ?_ | refine below_drewN' ?_ _ | refine below_alloc' ?_ _ | refine below_set' ?_ (by (try simp); (try omega)) _ | refine below_step ?_ (by assumption)))
  have hs0 : w0.heap.size = w.heap.size + 1 := by rw [← hw0]; simp
  have hZ0 : Blk w0 w.heap.size #[.int .i64 (L : Int), .slice (some ⟨ga, 0, none⟩) N ca, .slice (some ⟨go, 0, none⟩) N co] 82 := by rw [← hw0]; exact Blk.new _ _ _
  have Hz : Hid (∀ W, Below w0.heap.size w0 W → Blk W w.heap.size #[.int .i64 (L : Int), .slice (some ⟨ga, 0, none⟩) N ca, .slice (some ⟨go, 0, none⟩) N co] 82 ∧ Blk W ga cura 83 ∧ Blk W go curo 22) := Lib.hid (fun W hW => ⟨hZ0.keptAll hW, (hBa.keptAll hb0).keptAll hW, (hBo.keptAll hb0).keptAll hW⟩)
  have Hb0 := Lib.hid hb0
  have Hs0 := Lib.hid hs0
  have hmk := mk_ints N (by omega)
  have hz1 : (w.alloc (.cells #[.int .i64 (L : Int), .slice (some ⟨ga, 0, none⟩) N ca, .slice (some ⟨go, 0, none⟩) N co] 82)).cell? ⟨w.heap.size, 1, none⟩ = some (.slice (some ⟨ga, 0, none⟩) N ca) := by rw [hw0]; exact hZ0.cell 1
  have Hw0 := Lib.hid hw0
  clear hBa hBo hc hA hb hb0 hs0 hZ0 hw0
  go_enter Try.func80, Try.ntmps80
  go_wp2
  rw [Hw0.out]
  have hC1 : Blk (w0.alloc (.cells (ints (List.replicate N 0)) 2)) (w.heap.size + 1) (ints (clsA A L 0 N)) 2 := by rw [clsA_zero, ← Hs0.out]; exact Blk.new _ _ _
  have hbw1 : Below w0.heap.size w0 (w0.alloc (.cells (ints (List.replicate N 0)) 2)) := by (repeat (first | exact Below.refl _ _ | refine below_drew' ?_ | refine below_drewN' ?_ _ | refine below_alloc' ?_ _ | refine below_set' ?_ (by (try simp); (try omega)) _ | refine below_step ?_ (by assumption)))
  clear Hw0 hz1
  go_loopw [4, 5] (fun cv kn wr => ∃ (t g : Nat), cv = .slice (some ⟨g, 0, none⟩) N N ∧ kn = .int .i64 (kcA A L N t : Nat) ∧ kcA A L N t ≤ N ∧ w0.heap.size ≤ g ∧ Blk wr g (ints (clsA A L t N)) 2 ∧ Below w0.heap.size w0 wr) (fun _ kn _ => N + 1 - (intOf kn).toNat)
  case atStart => exact ⟨0, w.heap.size + 1, rfl, rfl, Nat.zero_le _, Nat.le_of_eq Hs0.out, hC1, hbw1⟩
  case round =>
    clear hC1 hbw1
    obtain ⟨t, g, rfl, rfl, hkn, hg, hC, hbw⟩ := hrel
    have hge := hbw.size
    have hgl := hC.lt
    have hN1 : Blk (wr.alloc (.cells (ints (List.replicate N 0)) 2)) wr.heap.size (ints (nxtA A L t N 0)) 2 := by rw [nxtA_zero]; exact Blk.new _ _ _
    have hC1 := hC.alloc (.cells (ints (List.replicate N 0)) 2)
    have hbw1 := below_alloc' hbw (.cells (ints (List.replicate N 0)) 2)
    go_wp2
    clear hC hbw
    obtain ⟨gn, hgn⟩ : ∃ gn, wr.heap.size = gn := ⟨_, rfl⟩
    obtain ⟨wn, hwn⟩ : ∃ wn, wr.alloc (.cells (ints (List.replicate N 0)) 2) = wn := ⟨_, rfl⟩
    rw [hgn] at hN1 hge hgl
    rw [hwn] at hN1 hC1 hbw1
    rw [hgn, hwn]
    clear hgn hwn
    go_loopw [7, 8] (fun cn i wr => ∃ q : Nat, q ≤ N ∧ i = .int .i64 q ∧ cn = .int .i64 (cntB (aRep A L (t + 1)) q : Nat) ∧ Blk wr g (ints (clsA A L t N)) 2 ∧ Blk wr gn (ints (nxtA A L t N q)) 2 ∧ Below w0.heap.size w0 wr) (fun _ i _ => N - (intOf i).toNat)
    case atStart => exact ⟨0, by omega, rfl, rfl, hC1, hN1, hbw1⟩
    case round =>
      clear hC1 hN1 hbw1
      obtain ⟨q, hq, rfl, rfl, hC, hNx, hbw⟩ := hrel
      by_cases hql : q < N
      · skip
        have hqi : (q : Int) < (N : Int) := by omega
        have hold := ints_at (nxtA A L t N q) q (by rw [nxtA_len]; omega)
        generalize (nxtA A L t N q).getD q 0 = oldn at hold
        have cN := (hNx.cell q).trans hold
        have fN := hNx.free q
        have hN2 := hNx.set q (.int .i64 q)
        rw [← ints_set] at hN2
        have hC2 := hC.setOther gn q (.int .i64 q) (by omega)
        have hbw2 := below_set' (o := q) hbw (b := gn) hge (.int .i64 q)
        clear hold
        go_wp2
        clear cN fN hNx hC hbw
        go_loopw [9] (fun i wr => ∃ r : Nat, r ≤ q ∧ i = .int .i64 r ∧ Blk wr g (ints (clsA A L t N)) 2 ∧ Blk wr gn (ints ((nxtA A L t N q).set q q)) 2 ∧ Below w0.heap.size w0 wr ∧ Hid (∀ p, p < r → aEq A L (t + 1) q p = false)) (fun i _ => q - (intOf i).toNat)
        case atStart => exact ⟨0, by omega, rfl, hC2, hN2, hbw2, Lib.hid (fun p hp => absurd hp (by omega))⟩
        case round =>
          clear hC2 hN2 hbw2
          obtain ⟨r, hr, rfl, hC, hNx, hbw, HE⟩ := hrel
          by_cases hrl : r < q
          · have hrN : r < N := by omega
            have hri : (r : Int) < (N : Int) := by omega
            have hrq : (r : Int) < (q : Int) := by omega
            have He1 := Lib.hid (clsA_at A L t N q hql)
            have He2 := Lib.hid (clsA_at A L t N r hrN)
            have hkq := cut_oL (fun x hx => (Hc.out q hql x hx).2)
            have hkr := cut_oL (fun x hx => (Hc.out r hrN x hx).2)
            have Hkq := Lib.hid hkq.1
            have Hrq := Lib.hid hkq.2
            have Hkr := Lib.hid hkr.1
            have Hrr := Lib.hid hkr.2
            have Heql := Lib.hid (eql_three (oL A L q) (oL A L r) rfl rfl (oL_bytes Hby.out hql) (oL_bytes Hby.out hrN))
            have Hall := Lib.hid (smK_all A L t q r hL)
            have Hs0k : Hid (smK A L t q r 0 = (decide ((aLst A L t q : Int) = (aLst A L t r : Int)) && decide (oL A L q = oL A L r))) := Lib.hid (by simp [smK])
            clear hkq hkr
            generalize c8 (oL A L q) = oq at *
            generalize c8 (oL A L r) = oR at *
            generalize decide (oL A L q = oL A L r) = bo at *
            generalize hc1 : aLst A L t q = c1 at *
            generalize hc2 : aLst A L t r = c2 at *
            clear hc1 hc2
            go_wp2_with fail
            by_cases hcc : (c1 : Int) = (c2 : Int)
            · have hc' : ((c1 : Int) == (c2 : Int)) = true := by simpa using hcc
              rw [decide_eq_true hcc, Bool.true_and] at Hs0k
              clear hcc
              refine wp_region_quiet (C := fun W => (Blk W g (ints (clsA A L t N)) 2 ∧ Blk W gn (ints ((nxtA A L t N q).set q q)) 2) ∧ Below w0.heap.size w0 W) (by kernel_rfl) (by kernel_rfl) ⟨⟨hC.drew, hNx.drew⟩, hbw.drew⟩ ?_
              refine wpK_val rfl (.slice (some ⟨g, 0, none⟩) N N) (fun W _ => by go_simp) ?_; (intro K hK; go_simp; refine hK _ ?_; clear hK K)
              refine wpK_val rfl (.int .i64 (q : Int)) (fun W _ => by go_simp) ?_; (intro K hK; go_simp; refine hK _ ?_; clear hK K)
              refine wpK_val rfl (.pointer (some ⟨g, q, none⟩)) (fun W _ => by go_simp) ?_; (intro K hK; go_simp; refine hK _ ?_; clear hK K)
              refine wpK_val rfl (.int .i64 (c1 : Int)) (fun W hW => by have cC := (hW.1.1.cell q).trans He1.out; clear hW; go_simp) ?_; (intro K hK; go_simp; refine hK _ ?_; clear hK K)
              refine wpK_val rfl (.slice (some ⟨g, 0, none⟩) N N) (fun W _ => by go_simp) ?_; (intro K hK; go_simp; refine hK _ ?_; clear hK K)
              refine wpK_val rfl (.int .i64 (r : Int)) (fun W _ => by go_simp) ?_; (intro K hK; go_simp; refine hK _ ?_; clear hK K)
              refine wpK_val rfl (.pointer (some ⟨g, r, none⟩)) (fun W _ => by go_simp) ?_; (intro K hK; go_simp; refine hK _ ?_; clear hK K)
              refine wpK_val rfl (.int .i64 (c2 : Int)) (fun W hW => by have cC := (hW.1.1.cell r).trans He2.out; clear hW; go_simp) ?_; (intro K hK; go_simp; refine hK _ ?_; clear hK K)
              refine wpK_val rfl (.bool true) (fun W _ => by go_simp) ?_; (intro K hK; go_simp; refine hK _ ?_; clear hK K)
              refine wpK_val rfl (.bool true) (fun W _ => by go_simp) ?_; (intro K hK; go_simp; refine hK _ ?_; clear hK K)
              refine wpK_on (by rfl) (.pointer (some ⟨w.heap.size, 2, none⟩)) (fun W _ => by go_simp) ?_; (intro K hK; go_simp; refine hK _ ?_; clear hK K)
              refine wpK_on (by rfl) (.slice (some ⟨go, 0, none⟩) N co) (fun W hW => by have cC := (Hz.out W hW.2).1.cell 2; clear hW; go_simp) ?_; (intro K hK; go_simp; refine hK _ ?_; clear hK K)
              refine wpK_on (by rfl) (.int .i64 (q : Int)) (fun W _ => by go_simp) ?_; (intro K hK; go_simp; refine hK _ ?_; clear hK K)
              refine wpK_on (by rfl) (.pointer (some ⟨go, q * 3, none⟩)) (fun W _ => by go_simp) ?_; (intro K hK; go_simp; refine hK _ ?_; clear hK K)
              refine wpK_load_on (by rfl) 22 _ rfl go (q * 3) rfl curo _ (fun W hW => (Hz.out W hW.2).2.2) 3 Hrq.out _ Try.underlying22 rfl size_a3 _ Hkq.out ?_; (intro K hK; go_simp; refine hK _ ?_; clear hK K)
              refine wpK_on (by rfl) (.pointer (some ⟨w.heap.size, 2, none⟩)) (fun W _ => by go_simp) ?_; (intro K hK; go_simp; refine hK _ ?_; clear hK K)
              refine wpK_on (by rfl) (.slice (some ⟨go, 0, none⟩) N co) (fun W hW => by have cC := (Hz.out W hW.2).1.cell 2; clear hW; go_simp) ?_; (intro K hK; go_simp; refine hK _ ?_; clear hK K)
              refine wpK_on (by rfl) (.int .i64 (r : Int)) (fun W _ => by go_simp) ?_; (intro K hK; go_simp; refine hK _ ?_; clear hK K)
              refine wpK_on (by rfl) (.pointer (some ⟨go, r * 3, none⟩)) (fun W _ => by go_simp) ?_; (intro K hK; go_simp; refine hK _ ?_; clear hK K)
              refine wpK_load_on (by rfl) 22 _ rfl go (r * 3) rfl curo _ (fun W hW => (Hz.out W hW.2).2.2) 3 Hrr.out _ Try.underlying22 rfl size_a3 _ Hkr.out ?_; (intro K hK; go_simp; refine hK _ ?_; clear hK K)
              refine wpK_on (by rfl) (.bool bo) (fun W _ => by have hq := Heql.out W; go_simp) ?_; (intro K hK; go_simp; refine hK _ ?_; clear hK K)
              refine wpK_val rfl (.bool bo) (fun W _ => by go_simp) ?_; (intro K hK; go_simp; refine hK _ ?_; clear hK K)
              refine wpK_val rfl (.bool bo) (fun W _ => by go_simp) ?_; (intro K hK; go_simp; refine hK _ ?_; clear hK K)
              refine wpQuiet_nil ?_
              rintro w6 ⟨⟨hC6, hN6⟩, hbw6⟩
              clear hC hNx hbw
              go_wp2
              go_loopw [10, 11] (fun sv xv wr => ∃ k : Nat, k ≤ L ∧ xv = .int .i64 k ∧ sv = .bool (smK A L t q r k) ∧ Blk wr g (ints (clsA A L t N)) 2 ∧ Blk wr gn (ints ((nxtA A L t N q).set q q)) 2 ∧ Below w0.heap.size w0 wr) (fun _ xv _ => L - (intOf xv).toNat)
              case atStart => exact ⟨0, by omega, rfl, by rw [Hs0k.out], hC6, hN6, hbw6⟩
              case round =>
                clear hC6 hN6 hbw6
                obtain ⟨k, hk, rfl, rfl, hC, hNx, hbw⟩ := hrel
                have cZ0 := ((Hz.out _ hbw).1.cell 0).trans (show _ = some (Value.int .i64 (L : Int)) from rfl)
                by_cases hkl : k < L
                · have hkli : (k : Int) < (L : Int) := by omega
                  cases hsm : smK A L t q r k
                  · have Hno : Hid (aEq A L (t + 1) q r = false) := Lib.hid (by rw [← Hall.out]; exact smK_no (by omega) hsm)
                    clear hsm
                    go_wp2
                    go_roundw
                    case rel => exact ⟨r + 1, by omega, by go_num, hC, hNx, hbw, Lib.hid (fun p hp => by
                      rcases Nat.lt_or_ge p r with h | h
                      · exact HE.out p h
                      · obtain rfl : p = r := by omega
                        exact Hno.out)⟩
                    case measure => simp [intOf] <;> omega
                  · have Hnx := Lib.hid (smK_succ A L t q r k)
                    rw [hsm] at Hnx
                    clear hsm
                    have hk3 : (k : Int) < 3 := by omega
                    have n1 := (Hc.out q hql k (by omega)).1
                    have n2 := (Hc.out r hrN k (by omega)).1
                    have i1 := Hin.out q k hql hkl
                    have i2 := Hin.out r k hrN hkl
                    rw [show rowN A L q k = A.n q k from if_pos hkl] at n1
                    rw [show rowN A L r k = A.n r k from if_pos hkl] at n2
                    have i1i : (A.n q k : Int) < (N : Int) := by omega
                    have i2i : (A.n r k : Int) < (N : Int) := by omega
                    have cZ1 := ((Hz.out _ hbw).1.cell 1).trans (show _ = some (Value.slice (some ⟨ga, 0, none⟩) N ca) from rfl)
                    have cn1 := ((Hz.out _ hbw).2.1.cell (q * 3 + k)).trans n1
                    have cn2 := ((Hz.out _ hbw).2.1.cell (r * 3 + k)).trans n2
                    have cc1 := (hC.cell (A.n q k)).trans (clsA_at A L t N _ i1)
                    have cc2 := (hC.cell (A.n r k)).trans (clsA_at A L t N _ i2)
                    clear n1 n2
                    have Hbe : Hid (((aLst A L t (A.n q k) : Int) == (aLst A L t (A.n r k) : Int)) = smK A L t q r (k + 1)) := Lib.hid (by rw [Hnx.out, Bool.true_and]; rfl)
                    generalize (aLst A L t (A.n q k) : Int) = d1 at *
                    generalize (aLst A L t (A.n r k) : Int) = d2 at *
                    generalize A.n q k = m1 at *
                    generalize A.n r k = m2 at *
                    go_wp2
                    go_quiet (fail)
                    clear cZ0 cZ1 cn1 cn2 cc1 cc2
                    go_wp2
                    go_roundw
                    case rel => exact ⟨k + 1, by omega, by go_num, by rw [← Hbe.out], hC.drewN _, hNx.drewN _, below_drewN' hbw _⟩
                    case measure => simp [intOf] <;> omega
                · obtain rfl : k = L := by omega
                  cases he : aEq A k (t + 1) q r
                  · have Hno := Lib.hid he
                    have hsm : smK A k t q r k = false := by rw [Hall.out]; exact he
                    rw [hsm]
                    clear he hsm
                    go_wp2
                    go_roundw
                    case rel => exact ⟨r + 1, by omega, by go_num, hC, hNx, hbw, Lib.hid (fun p hp => by
                      rcases Nat.lt_or_ge p r with h | h
                      · exact HE.out p h
                      · obtain rfl : p = r := by omega
                        exact Hno.out)⟩
                    case measure => simp [intOf] <;> omega
                  · have Hyes := Lib.hid he
                    have hsm : smK A k t q r k = true := by rw [Hall.out]; exact he
                    rw [hsm]
                    clear he hsm
                    have hfound := (aLst_iff A k (t + 1) q r).2 Hyes.out
                    have hle := (aLst_at A k (t + 1) r).1
                    have Hset := Lib.hid (nxtA_set A k t N q (aLst A k (t + 1) r : Int) (by rw [hfound]))
                    have Hcn : Hid (cntB (aRep A k (t + 1)) (q + 1) = cntB (aRep A k (t + 1)) q) := Lib.hid (by
                      show cntB _ q + (if aRep A k (t + 1) q = true then 1 else 0) = _
                      rw [if_neg (by simp only [aRep, decide_eq_true_eq]; omega)]; rfl)
                    have cR := (hNx.cell r).trans (nxtA_at A k t N q r hrl hql (q : Int))
                    have cQ := (hNx.cell q).trans (nxtA_own A k t N q hql (q : Int))
                    have fQ := hNx.free q
                    have hN7 := hNx.set q (.int .i64 (aLst A k (t + 1) r))
                    rw [← ints_set, List.set_set] at hN7
                    have cN7 := (hN7.cell q).trans (nxtA_own A k t N q hql (aLst A k (t + 1) r : Int))
                    rw [Hset.out] at hN7
                    have hC7 := hC.setOther gn q (.int .i64 (aLst A k (t + 1) r)) (by omega)
                    have hbw7 := below_set' (o := q) hbw (b := gn) hge (.int .i64 (aLst A k (t + 1) r))
                    have hne : ((aLst A k (t + 1) r : Int) == (q : Int)) = false := by simp; omega
                    clear hfound hle
                    generalize (aLst A k (t + 1) r : Int) = lv at *
                    go_wp2
                    go_roundw
                    case rel => exact ⟨q + 1, by omega, by go_num, by rw [Hcn.out], hC7, hN7, hbw7⟩
                    case measure => simp [intOf] <;> omega
            · have hcf : ((c1 : Int) == (c2 : Int)) = false := by simpa using hcc
              rw [decide_eq_false hcc, Bool.false_and] at Hs0k
              clear hcc
              have cc1 := (hC.cell q).trans He1.out
              have cc2 := (hC.cell r).trans He2.out
              go_quiet (fail)
              clear cc1 cc2
              have hC6 := hC.drewN nq
              have hN6 := hNx.drewN nq
              have hbw6 := below_drewN' hbw nq
              clear hC hNx hbw
              go_wp2
              go_loopw [10, 11] (fun sv xv wr => ∃ k : Nat, k ≤ L ∧ xv = .int .i64 k ∧ sv = .bool (smK A L t q r k) ∧ Blk wr g (ints (clsA A L t N)) 2 ∧ Blk wr gn (ints ((nxtA A L t N q).set q q)) 2 ∧ Below w0.heap.size w0 wr) (fun _ xv _ => L - (intOf xv).toNat)
              case atStart => exact ⟨0, by omega, rfl, by rw [Hs0k.out], hC6, hN6, hbw6⟩
              case round =>
                clear hC6 hN6 hbw6
                obtain ⟨k, hk, rfl, rfl, hC, hNx, hbw⟩ := hrel
                have cZ0 := ((Hz.out _ hbw).1.cell 0).trans (show _ = some (Value.int .i64 (L : Int)) from rfl)
                by_cases hkl : k < L
                · have hkli : (k : Int) < (L : Int) := by omega
                  cases hsm : smK A L t q r k
                  · have Hno : Hid (aEq A L (t + 1) q r = false) := Lib.hid (by rw [← Hall.out]; exact smK_no (by omega) hsm)
                    clear hsm
                    go_wp2
                    go_roundw
                    case rel => exact ⟨r + 1, by omega, by go_num, hC, hNx, hbw, Lib.hid (fun p hp => by
                      rcases Nat.lt_or_ge p r with h | h
                      · exact HE.out p h
                      · obtain rfl : p = r := by omega
                        exact Hno.out)⟩
                    case measure => simp [intOf] <;> omega
                  · have Hnx := Lib.hid (smK_succ A L t q r k)
                    rw [hsm] at Hnx
                    clear hsm
                    have hk3 : (k : Int) < 3 := by omega
                    have n1 := (Hc.out q hql k (by omega)).1
                    have n2 := (Hc.out r hrN k (by omega)).1
                    have i1 := Hin.out q k hql hkl
                    have i2 := Hin.out r k hrN hkl
                    rw [show rowN A L q k = A.n q k from if_pos hkl] at n1
                    rw [show rowN A L r k = A.n r k from if_pos hkl] at n2
                    have i1i : (A.n q k : Int) < (N : Int) := by omega
                    have i2i : (A.n r k : Int) < (N : Int) := by omega
                    have cZ1 := ((Hz.out _ hbw).1.cell 1).trans (show _ = some (Value.slice (some ⟨ga, 0, none⟩) N ca) from rfl)
                    have cn1 := ((Hz.out _ hbw).2.1.cell (q * 3 + k)).trans n1
                    have cn2 := ((Hz.out _ hbw).2.1.cell (r * 3 + k)).trans n2
                    have cc1 := (hC.cell (A.n q k)).trans (clsA_at A L t N _ i1)
                    have cc2 := (hC.cell (A.n r k)).trans (clsA_at A L t N _ i2)
                    clear n1 n2
                    have Hbe : Hid (((aLst A L t (A.n q k) : Int) == (aLst A L t (A.n r k) : Int)) = smK A L t q r (k + 1)) := Lib.hid (by rw [Hnx.out, Bool.true_and]; rfl)
                    generalize (aLst A L t (A.n q k) : Int) = d1 at *
                    generalize (aLst A L t (A.n r k) : Int) = d2 at *
                    generalize A.n q k = m1 at *
                    generalize A.n r k = m2 at *
                    go_wp2
                    go_quiet (fail)
                    clear cZ0 cZ1 cn1 cn2 cc1 cc2
                    go_wp2
                    go_roundw
                    case rel => exact ⟨k + 1, by omega, by go_num, by rw [← Hbe.out], hC.drewN _, hNx.drewN _, below_drewN' hbw _⟩
                    case measure => simp [intOf] <;> omega
                · obtain rfl : k = L := by omega
                  cases he : aEq A k (t + 1) q r
                  · have Hno := Lib.hid he
                    have hsm : smK A k t q r k = false := by rw [Hall.out]; exact he
                    rw [hsm]
                    clear he hsm
                    go_wp2
                    go_roundw
                    case rel => exact ⟨r + 1, by omega, by go_num, hC, hNx, hbw, Lib.hid (fun p hp => by
                      rcases Nat.lt_or_ge p r with h | h
                      · exact HE.out p h
                      · obtain rfl : p = r := by omega
                        exact Hno.out)⟩
                    case measure => simp [intOf] <;> omega
                  · have Hyes := Lib.hid he
                    have hsm : smK A k t q r k = true := by rw [Hall.out]; exact he
                    rw [hsm]
                    clear he hsm
                    have hfound := (aLst_iff A k (t + 1) q r).2 Hyes.out
                    have hle := (aLst_at A k (t + 1) r).1
                    have Hset := Lib.hid (nxtA_set A k t N q (aLst A k (t + 1) r : Int) (by rw [hfound]))
                    have Hcn : Hid (cntB (aRep A k (t + 1)) (q + 1) = cntB (aRep A k (t + 1)) q) := Lib.hid (by
                      show cntB _ q + (if aRep A k (t + 1) q = true then 1 else 0) = _
                      rw [if_neg (by simp only [aRep, decide_eq_true_eq]; omega)]; rfl)
                    have cR := (hNx.cell r).trans (nxtA_at A k t N q r hrl hql (q : Int))
                    have cQ := (hNx.cell q).trans (nxtA_own A k t N q hql (q : Int))
                    have fQ := hNx.free q
                    have hN7 := hNx.set q (.int .i64 (aLst A k (t + 1) r))
                    rw [← ints_set, List.set_set] at hN7
                    have cN7 := (hN7.cell q).trans (nxtA_own A k t N q hql (aLst A k (t + 1) r : Int))
                    rw [Hset.out] at hN7
                    have hC7 := hC.setOther gn q (.int .i64 (aLst A k (t + 1) r)) (by omega)
                    have hbw7 := below_set' (o := q) hbw (b := gn) hge (.int .i64 (aLst A k (t + 1) r))
                    have hne : ((aLst A k (t + 1) r : Int) == (q : Int)) = false := by simp; omega
                    clear hfound hle
                    generalize (aLst A k (t + 1) r : Int) = lv at *
                    go_wp2
                    go_roundw
                    case rel => exact ⟨q + 1, by omega, by go_num, by rw [Hcn.out], hC7, hN7, hbw7⟩
                    case measure => simp [intOf] <;> omega
          · obtain rfl : r = q := by omega
            have hal := aLst_alone HE.out
            have Hset := Lib.hid (nxtA_set A L t N r (r : Int) (by rw [hal]))
            have Hcn : Hid (cntB (aRep A L (t + 1)) (r + 1) = cntB (aRep A L (t + 1)) r + 1) := Lib.hid (by
              show cntB _ r + (if aRep A L (t + 1) r = true then 1 else 0) = _
              rw [if_pos (by simpa [aRep] using hal)])
            have hcl := cntB_le (aRep A L (t + 1)) r
            have cQ := (hNx.cell r).trans (nxtA_own A L t N r hql (r : Int))
            rw [Hset.out] at hNx
            clear hal
            go_wp2
            go_roundw
            case rel => exact ⟨r + 1, by omega, by go_num, by rw [Hcn.out]; go_num, hC, hNx, hbw⟩
            case measure => simp [intOf] <;> omega
      · obtain rfl : q = N := by omega
        rw [nxtA_all] at hNx
        have hcl := cntB_le (aRep A L (t + 1)) q
        by_cases hst : cntB (aRep A L (t + 1)) q = kcA A L q t
        · have Hst := Lib.hid (kcA_still Hin.out h0 hst)
          have hsi : ((cntB (aRep A L (t + 1)) q : Int) == (kcA A L q t : Int)) = true := by simp; omega
          clear hst
          go_wp2
          go_ret
          exact ⟨⟨_, t + 1, rfl, Hst.out, OwnI.made (by simp [clsA]) (by unfold maxLen; omega) (by have := Hs0.out; omega) hNx⟩, Hb0.out.trans (below_le hbw (by have := Hs0.out; omega))⟩
        · have hlt := kcA_lt (A := A) (L := L) (t := t) h0 hst
          have hsi : ((cntB (aRep A L (t + 1)) q : Int) == (kcA A L q t : Int)) = false := by simp; omega
          have Hks := Lib.hid (kcA_succ A L q t)
          clear hst
          go_wp2
          go_roundw
          case rel => exact ⟨t + 1, gn, rfl, by rw [Hks.out], hlt.2, by omega, hNx, hbw⟩
          case measure =>
            have := Hks.out
            simp [intOf] <;> omega
end Go.Proofs.Ytkkooafjpancoaa
