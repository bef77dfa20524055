/- 'l02Split': the model. · The rows of the whole queue: the model's 'l02Rows'. Written by gen/mwr.py. · 'l02Machine', 'MachineOfWord': the model. Written by gen/mwm.py. · 'MachineOfWord': the model. -/
import Derived.Test.YtliohokcjgcmhaaOfM
import Derived.Deep.LoopGhost
import Derived.Test.YtliohokcjgcmhaaMwK
import Derived.Test.YtliohokcjgcmhaaSeaS
namespace Go.Proofs.Ytliohokcjgcmhaa
open Go.RowKit
open Go.Maps

/-- A slice of letters in threes, a slice of places in threes can be read. -/
def SeesO (w : World) (v : Value) (A : Aut) (L N : Nat) : Prop := ∃ g cap cur, v = .slice (some ⟨g, 0, none⟩) N cap ∧ Blk w g cur 22 ∧ ∀ i, i < N → ∀ x, x < 3 → cur[i * 3 + x]? = some (.int .u8 (rowO A L i x))
def SeesX (w : World) (v : Value) (A : Aut) (L N : Nat) : Prop := ∃ g cap cur, v = .slice (some ⟨g, 0, none⟩) N cap ∧ Blk w g cur 125 ∧ ∀ i, i < N → ∀ x, x < 3 → cur[i * 3 + x]? = some (.int .i64 (rowN A L i x : Int))
theorem SeesO.below {w w1 : World} {v : Value} {A : Aut} {L N : Nat} (h : SeesO w v A L N) (hb : Below w.heap.size w w1) : SeesO w1 v A L N := by
  obtain ⟨g, cap, cur, rfl, hB, hc⟩ := h
  exact ⟨g, cap, cur, rfl, hB.keptAll hb, hc⟩
theorem SeesX.below {w w1 : World} {v : Value} {A : Aut} {L N : Nat} (h : SeesX w v A L N) (hb : Below w.heap.size w w1) : SeesX w1 v A L N := by
  obtain ⟨g, cap, cur, rfl, hB, hc⟩ := h
  exact ⟨g, cap, cur, rfl, hB.keptAll hb, hc⟩
theorem flO_seen {w : World} {base : Nat} {v : Value} {A : Aut} {L N : Nat} (h : OwnF 22 3 w base v N (flO A L N)) (h0 : 0 < N) : SeesO w v A L N := by
  obtain ⟨oa, cap, rfl, hq⟩ := h.view
  obtain ⟨g, cur, rfl, _, hB, hc⟩ := hq h0
  refine ⟨g, cap, cur, rfl, hB, fun i hi x hx => ?_⟩
  have hlt : i * 3 + x < (flO A L N).length := by rw [flO_len]; omega
  have h1 := hc (i * 3 + x) hlt
  have h2 := flO_at A L N i x hi hx
  rw [List.getElem?_eq_getElem hlt] at h2
  rw [h1]
  rcases (show x = 0 ∨ x = 1 ∨ x = 2 by omega) with rfl | rfl | rfl <;> (simp [oL] at h2; simp [h2])
theorem flN_seen {w : World} {base : Nat} {v : Value} {A : Aut} {L N : Nat} (h : OwnJ w base v N (flN A L N)) (h0 : 0 < N) : SeesX w v A L N := by
  obtain ⟨oa, cap, rfl, hq⟩ := h.view
  obtain ⟨g, cur, rfl, _, hB, hc⟩ := hq h0
  refine ⟨g, cap, cur, rfl, hB, fun i hi x hx => ?_⟩
  have hlt : i * 3 + x < (flN A L N).length := by rw [flN_len]; omega
  have h1 := hc (i * 3 + x) hlt
  have h2 := flN_at A L N i x hi hx
  rw [List.getElem?_eq_getElem hlt] at h2
  rw [h1]
  rcases (show x = 0 ∨ x = 1 ∨ x = 2 by omega) with rfl | rfl | rfl <;> (simp [rwN] at h2; simp [h2])
/-- What the walk has found of q and r with k letters looked at. -/
def smW (A : Aut) (L t q r k : Nat) : Bool := decide (oL A L q = oL A L r) && (List.range k).all fun y => decide ((aLst A L t (A.n q y) : Int) = (aLst A L t (A.n r y) : Int))
theorem smW_succ (A : Aut) (L t q r k : Nat) : smW A L t q r (k + 1) = (smW A L t q r k && decide ((aLst A L t (A.n q k) : Int) = (aLst A L t (A.n r k) : Int))) := by
  simp [smW, List.range_succ, Bool.and_assoc]
theorem smW_all (A : Aut) (L t q r : Nat) (hL : L ≤ 3) : smW A L t q r L = aEq A L (t + 1) q r := by
  rw [← smK_all A L t q r hL]
  unfold smW smK
  cases h : decide ((aLst A L t q : Int) = (aLst A L t r : Int))
  · rw [Bool.false_and, Bool.false_and]
    cases h2 : aEq A L (t + 1) q r
    · have := smK_all A L t q r hL
      rw [h2] at this
      by_cases hh : smW A L t q r L = true
      · exfalso
        have hne := of_decide_eq_false h
        refine hne ?_
        have he : aEq A L (t + 1) q r = true := by
          rw [aEq_succ]
          unfold smW at hh
          simp only [Bool.and_eq_true, decide_eq_true_eq, List.all_eq_true, List.mem_range] at hh
          obtain ⟨h1, h3⟩ := hh
          intro x hx
          refine ⟨?_, (aLst_iff A L t _ _).1 (by have := h3 x hx; omega)⟩
          simp only [oL, List.cons.injEq, and_true] at h1
          have e : rowO A L q x = rowO A L r x := by
            rcases (show x = 0 ∨ x = 1 ∨ x = 2 by omega) with rfl | rfl | rfl
            · exact h1.1
            · exact h1.2.1
            · exact h1.2.2
          unfold rowO at e
          rwa [if_pos hx, if_pos hx] at e
        rw [he] at h2; cases h2
      · unfold smW at hh
        exact Bool.eq_false_iff.2 hh
    · have hl := (aLst_iff A L t q r).2 (aEq_less A L t q r h2)
      exact absurd (by rw [hl]) (of_decide_eq_false h)
  · rw [Bool.true_and]
/-- One of the first k points has another least one than before. -/
def chgA (A : Aut) (L t k : Nat) : Bool := (List.range k).any fun i => decide ((aLst A L (t + 1) i : Int) ≠ (aLst A L t i : Int))
theorem chgA_succ (A : Aut) (L t k : Nat) : chgA A L t (k + 1) = (chgA A L t k || decide ((aLst A L (t + 1) k : Int) ≠ (aLst A L t k : Int))) := by
  simp [chgA, List.range_succ]
theorem chgA_no {A : Aut} {L N t : Nat} (hA : A.In L N) (h : chgA A L t N = false) : AStill A L N (t + 1) := by
  have hs : AStill A L N t := fun q r hq hr e => by
    have key : ∀ i, i < N → aLst A L (t + 1) i = aLst A L t i := fun i hi => by
      unfold chgA at h
      have := List.any_eq_false.1 h i (List.mem_range.2 hi)
      have := by simpa using this
      omega
    have := (aLst_iff A L t q r).2 e
    exact (aLst_iff A L (t + 1) q r).1 (by rw [key q hq, key r hr, this])
  exact hs.next hA
theorem chgA_yes {A : Aut} {L N t : Nat} (hA : A.In L N) (h : chgA A L t N = true) : cntB (aRep A L t) N < cntB (aRep A L (t + 1)) N := by
  rcases Nat.lt_or_ge (cntB (aRep A L t) N) (cntB (aRep A L (t + 1)) N) with h1 | h1
  · exact h1
  · have hs := still_of_cnt h1
    unfold chgA at h
    obtain ⟨i, hi, e⟩ := List.any_eq_true.1 h
    have e := of_decide_eq_true e
    exact absurd (by rw [aStill_lst hA (hs.next hA) hs (List.mem_range.1 hi)]) e

theorem bne_dec (a b : Int) : (a != b) = decide (a ≠ b) := by by_cases h : a = b <;> simp [h]
def splOk (A : Aut) (L N B : Nat) (w' : World) (e : Ending) : Prop := ∃ v t, e = .returned v ∧ AStill A L N t ∧ OwnI w' B v (clsA A L t N)

set_option maxRecDepth 100000 in
set_option maxHeartbeats 4000000 in
theorem l02Split_calls (A : Aut) (L N : Nat) (hL : L ≤ 3) (h0 : 0 < N) (hN : N ≤ 256) (hA : A.In L N) (hb : A.Bytes L N) (ov nv : Value) (w : World) (ho : SeesO w ov A L N) (hn : SeesX w nv A L N) :
    Calls Try.prog 111 #[.int .i64 (L : Int), ov, nv] w fun e w' => splOk A L N w.heap.size w' e ∧ Below w.heap.size w w' := by
  obtain ⟨go, co, curo, rfl, hBo, hco⟩ := ho
  obtain ⟨ga, ca, cura, rfl, hBa, hca⟩ := hn
  have HN := Lib.hid hN
  have Hin := Lib.hid hA
  have Hby := Lib.hid hb
  have Hco := Lib.hid hco
  have Hca := Lib.hid hca
  have Hz : Hid (∀ W, Below w.heap.size w W → Blk W ga cura 125 ∧ Blk W go curo 22) := Lib.hid (fun W hW => ⟨hBa.keptAll hW, hBo.keptAll hW⟩)
  have hmk := mk_ints N (by omega)
  clear hBa hBo hco hca hA hb
  have hC1 : Blk (w.alloc (.cells (ints (List.replicate N 0)) 2)) w.heap.size (ints (clsA A L 0 N)) 2 := by rw [clsA_zero]; exact Blk.new _ _ _
  have hbw1 : Below w.heap.size w (w.alloc (.cells (ints (List.replicate N 0)) 2)) := by (repeat (first | exact Below.refl _ _ | refine below_drew' ?_ | refine below_drewN' ?_ _ | refine below_alloc' ?_ _ | refine below_set' ?_ (by (try simp); (try omega)) _ | refine below_step ?_ (by assumption)))
  have hc1 : Hid (1 ≤ cntB (aRep A L 0) N) := Lib.hid (kcA_pos h0)
  go_enter Try.func111, Try.ntmps111
  go_wp2
  go_loopg [7, 8] (N + 2) (fun gk cv ch wr => ∃ (t g : Nat) (b : Bool), cv = .slice (some ⟨g, 0, none⟩) N N ∧ ch = .bool b ∧ Hid ((b = false → AStill A L N t) ∧ (b = true → N + 1 ≤ gk + cntB (aRep A L t) N)) ∧ w.heap.size ≤ g ∧ Blk wr g (ints (clsA A L t N)) 2 ∧ Below w.heap.size w wr)
  case atStart => exact ⟨0, w.heap.size, true, rfl, rfl, Lib.hid ⟨fun h => by (cases h), fun _ => by omega⟩, Nat.le_refl _, hC1, hbw1⟩
  case round =>
    clear hC1 hbw1
    obtain ⟨t, g, b, rfl, rfl, HG, hg, hC, hbw⟩ := hrel
    cases b with
    | false =>
      have Hst := Lib.hid (HG.out.1 rfl)
      go_wp2
      go_ret
      exact ⟨by unfold splOk; exact ⟨_, t, rfl, Hst.out, OwnI.made (by simp [clsA]) (by unfold maxLen; omega) hg hC⟩, hbw⟩
    | true =>
      have HGk := Lib.hid (HG.out.2 rfl)
      have hge := hbw.size
      have hgl := hC.lt
      have hN1 : Blk (wr.alloc (.cells (ints (List.replicate N 0)) 2)) wr.heap.size (ints (nxtA A L t N 0)) 2 := by rw [nxtA_zero]; exact Blk.new _ _ _
      have hC1 := hC.alloc (.cells (ints (List.replicate N 0)) 2)
      have hbw1 := below_alloc' hbw (.cells (ints (List.replicate N 0)) 2)
      go_wp2
      clear hC hbw
      obtain ⟨gn, hgn⟩ : ∃ gn, wr.heap.size = gn := ⟨_, rfl⟩
      obtain ⟨wn, hwn⟩ : ∃ wn, wr.alloc (.cells (ints (List.replicate N 0)) 2) = wn := ⟨_, rfl⟩
      rw [hgn] at hN1 hge hgl
      rw [hwn] at hN1 hC1 hbw1
      rw [hgn, hwn]
      clear hgn hwn
      go_loopw [8, 10] (fun ch i wr => ∃ q : Nat, q ≤ N ∧ i = .int .i64 q ∧ ch = .bool (chgA A L t q) ∧ Blk wr g (ints (clsA A L t N)) 2 ∧ Blk wr gn (ints (nxtA A L t N q)) 2 ∧ Below w.heap.size w wr) (fun _ i _ => N - (intOf i).toNat)
      case atStart => exact ⟨0, by omega, rfl, rfl, hC1, hN1, hbw1⟩
      case round =>
        clear hC1 hN1 hbw1
        obtain ⟨q, hq, rfl, rfl, hC, hNx, hbw⟩ := hrel
        by_cases hql : q < N
        · have hqi : (q : Int) < (N : Int) := by omega
          have hold := ints_at (nxtA A L t N q) q (by rw [nxtA_len]; omega)
          generalize (nxtA A L t N q).getD q 0 = oldn at hold
          have cN := (hNx.cell q).trans hold
          have fN := hNx.free q
          have hN2 := hNx.set q (.int .i64 q)
          rw [← ints_set] at hN2
          have hC2 := hC.setOther gn q (.int .i64 q) (by omega)
          have hbw2 := below_set' (o := q) hbw (b := gn) hge (.int .i64 q)
          have Hchs := Lib.hid (chgA_succ A L t q)
          obtain ⟨cb, hcb⟩ : ∃ cb, chgA A L t q = cb := ⟨_, rfl⟩
          rw [hcb] at Hchs
          rw [hcb]
          clear hold hcb
          go_wp2
          clear cN fN hNx hC hbw
          go_loopw [11] (fun i wr => ∃ r : Nat, r ≤ q ∧ i = .int .i64 r ∧ Blk wr g (ints (clsA A L t N)) 2 ∧ Blk wr gn (ints ((nxtA A L t N q).set q q)) 2 ∧ Below w.heap.size w wr ∧ Hid (∀ p, p < r → aEq A L (t + 1) q p = false)) (fun i _ => q - (intOf i).toNat)
          case atStart => exact ⟨0, by omega, rfl, hC2, hN2, hbw2, Lib.hid (fun p hp => absurd hp (by omega))⟩
          case round =>
            clear hC2 hN2 hbw2
            obtain ⟨r, hr, rfl, hC, hNx, hbw, HE⟩ := hrel
            by_cases hrl : r < q
            · have hrN : r < N := by omega
              have hri : (r : Int) < (N : Int) := by omega
              have hrq : (r : Int) < (q : Int) := by omega
              have hkq := cut_oL (fun x hx => Hco.out q hql x hx)
              have hkr := cut_oL (fun x hx => Hco.out r hrN x hx)
              have Hkq := Lib.hid hkq.1
              have Hrq := Lib.hid hkq.2
              have Hkr := Lib.hid hkr.1
              have Hrr := Lib.hid hkr.2
              have Heql := Lib.hid (eql_three (oL A L q) (oL A L r) rfl rfl (oL_bytes Hby.out hql) (oL_bytes Hby.out hrN))
              have Hall := Lib.hid (smW_all A L t q r hL)
              have Hs0k : Hid (smW A L t q r 0 = decide (oL A L q = oL A L r)) := Lib.hid (by simp [smW])
              clear hkq hkr
              generalize c8 (oL A L q) = oq at *
              generalize c8 (oL A L r) = oR at *
              generalize decide (oL A L q = oL A L r) = bo at *
              go_wp2
              refine wp_region_quiet (C := fun W => (Blk W g (ints (clsA A L t N)) 2 ∧ Blk W gn (ints ((nxtA A L t N q).set q q)) 2) ∧ Below w.heap.size w W) (by kernel_rfl) (by kernel_rfl) ⟨⟨hC.drew, hNx.drew⟩, hbw.drew⟩ ?_
              refine wpK_val rfl (.slice (some ⟨go, 0, none⟩) N co) (fun W _ => by go_simp) ?_; (intro K hK; go_simp; refine hK _ ?_; clear hK K)
              refine wpK_val rfl (.int .i64 (q : Int)) (fun W _ => by go_simp) ?_; (intro K hK; go_simp; refine hK _ ?_; clear hK K)
              refine wpK_val rfl (.pointer (some ⟨go, q * 3, none⟩)) (fun W _ => by go_simp) ?_; (intro K hK; go_simp; refine hK _ ?_; clear hK K)
              refine wpK_load rfl 22 _ rfl go (q * 3) rfl curo _ (fun W hW => (Hz.out W hW.2).2) 3 Hrq.out _ Try.underlying22 rfl size_a3 _ Hkq.out ?_; (intro K hK; go_simp; refine hK _ ?_; clear hK K)
              refine wpK_val rfl (.slice (some ⟨go, 0, none⟩) N co) (fun W _ => by go_simp) ?_; (intro K hK; go_simp; refine hK _ ?_; clear hK K)
              refine wpK_val rfl (.int .i64 (r : Int)) (fun W _ => by go_simp) ?_; (intro K hK; go_simp; refine hK _ ?_; clear hK K)
              refine wpK_val rfl (.pointer (some ⟨go, r * 3, none⟩)) (fun W _ => by go_simp) ?_; (intro K hK; go_simp; refine hK _ ?_; clear hK K)
              refine wpK_load rfl 22 _ rfl go (r * 3) rfl curo _ (fun W hW => (Hz.out W hW.2).2) 3 Hrr.out _ Try.underlying22 rfl size_a3 _ Hkr.out ?_; (intro K hK; go_simp; refine hK _ ?_; clear hK K)
              refine wpK_val rfl (.bool bo) (fun W _ => by have hq := Heql.out W; go_simp) ?_; (intro K hK; go_simp; refine hK _ ?_; clear hK K)
              refine wpK_val rfl (.bool bo) (fun W _ => by go_simp) ?_; (intro K hK; go_simp; refine hK _ ?_; clear hK K)
              refine wpQuiet_nil ?_
              rintro w6 ⟨⟨hC6, hN6⟩, hbw6⟩
              clear hC hNx hbw
              go_wp2
              go_loopw [12, 13] (fun sv xv wr => ∃ k : Nat, k ≤ L ∧ xv = .int .i64 k ∧ sv = .bool (smW A L t q r k) ∧ Blk wr g (ints (clsA A L t N)) 2 ∧ Blk wr gn (ints ((nxtA A L t N q).set q q)) 2 ∧ Below w.heap.size w wr) (fun _ xv _ => L - (intOf xv).toNat)
              case atStart => exact ⟨0, by omega, rfl, by rw [Hs0k.out], hC6, hN6, hbw6⟩
              case round =>
                clear hC6 hN6 hbw6
                obtain ⟨k, hk, rfl, rfl, hC, hNx, hbw⟩ := hrel
                by_cases hkl : k < L
                · have hkli : (k : Int) < (L : Int) := by omega
                  have Hnx := Lib.hid (smW_succ A L t q r k)
                  have hk3 : (k : Int) < 3 := by omega
                  have n1 := Hca.out q hql k (by omega)
                  have n2 := Hca.out r hrN k (by omega)
                  have i1 := Hin.out q k hql hkl
                  have i2 := Hin.out r k hrN hkl
                  rw [show rowN A L q k = A.n q k from if_pos hkl] at n1
                  rw [show rowN A L r k = A.n r k from if_pos hkl] at n2
                  have i1i : (A.n q k : Int) < (N : Int) := by omega
                  have i2i : (A.n r k : Int) < (N : Int) := by omega
                  have cn1 := ((Hz.out _ hbw).1.cell (q * 3 + k)).trans n1
                  have cn2 := ((Hz.out _ hbw).1.cell (r * 3 + k)).trans n2
                  have cc1 := (hC.cell (A.n q k)).trans (clsA_at A L t N _ i1)
                  have cc2 := (hC.cell (A.n r k)).trans (clsA_at A L t N _ i2)
                  clear n1 n2
                  cases hsm : smW A L t q r k
                  · rw [hsm, Bool.false_and] at Hnx
                    clear hsm cn1 cn2 cc1 cc2
                    go_wp2
                    go_quiet (fail)
                    go_wp2
                    go_roundw
                    case rel => exact ⟨k + 1, by omega, by go_num, by rw [Hnx.out], hC.drewN _, hNx.drewN _, below_drewN' hbw _⟩
                    case measure => simp [intOf] <;> omega
                  · rw [hsm] at Hnx
                    clear hsm
                    have Hbe : Hid (((aLst A L t (A.n q k) : Int) == (aLst A L t (A.n r k) : Int)) = smW A L t q r (k + 1)) := Lib.hid (by rw [Hnx.out, Bool.true_and]; rfl)
                    generalize (aLst A L t (A.n q k) : Int) = d1 at *
                    generalize (aLst A L t (A.n r k) : Int) = d2 at *
                    generalize A.n q k = m1 at *
                    generalize A.n r k = m2 at *
                    go_wp2
                    go_quiet (fail)
                    clear cn1 cn2 cc1 cc2
                    go_wp2
                    go_roundw
                    case rel => exact ⟨k + 1, by omega, by go_num, by rw [← Hbe.out], hC.drewN _, hNx.drewN _, below_drewN' hbw _⟩
                    case measure => simp [intOf] <;> omega
                · obtain rfl : k = L := by omega
                  cases he : aEq A k (t + 1) q r
                  · have Hno := Lib.hid he
                    have hsm : smW A k t q r k = false := by rw [Hall.out]; exact he
                    rw [hsm]
                    clear he hsm
                    go_wp2
                    go_roundw
                    case rel => exact ⟨r + 1, by omega, by go_num, hC, hNx, hbw, Lib.hid (fun p hp => by
                      rcases Nat.lt_or_ge p r with h | h
                      · exact HE.out p h
                      · obtain rfl : p = r := by omega
                        exact Hno.out)⟩
                    case measure => simp [intOf] <;> omega
                  · have Hyes := Lib.hid he
                    have hsm : smW A k t q r k = true := by rw [Hall.out]; exact he
                    rw [hsm]
                    clear he hsm
                    have hfound : aLst A k (t + 1) q = r := by
                      obtain ⟨_, a2, a3⟩ := aLst_at A k (t + 1) q
                      rcases Nat.lt_trichotomy (aLst A k (t + 1) q) r with h | h | h
                      · have := HE.out _ h; rw [a2] at this; cases this
                      · exact h
                      · have := a3 r h; rw [Hyes.out] at this; cases this
                    have Hset := Lib.hid (nxtA_set A k t N q (r : Int) (by rw [hfound]))
                    rw [hfound] at Hchs
                    have cQ := (hNx.cell q).trans (nxtA_own A k t N q hql (q : Int))
                    have fQ := hNx.free q
                    have hN7 := hNx.set q (.int .i64 r)
                    rw [← ints_set, List.set_set] at hN7
                    have cN7 := (hN7.cell q).trans (nxtA_own A k t N q hql (r : Int))
                    rw [Hset.out] at hN7
                    have hC7 := hC.setOther gn q (.int .i64 r) (by omega)
                    have cC7 := (hC7.cell q).trans (clsA_at A k t N q hql)
                    have hbw7 := below_set' (o := q) hbw (b := gn) hge (.int .i64 r)
                    clear hfound
                    generalize (aLst A k t q : Int) = lq at *
                    cases cb with
                    | true =>
                      rw [Bool.true_or] at Hchs
                      clear cN7 cC7
                      go_wp2
                      go_quiet (fail)
                      clear cQ fQ
                      go_wp2
                      go_roundw
                      case rel => exact ⟨q + 1, by omega, by go_num, by rw [Hchs.out], hC7.drewN _, hN7.drewN _, below_drewN' hbw7 _⟩
                      case measure => simp [intOf] <;> omega
                    | false =>
                      rw [Bool.false_or] at Hchs
                      have Hbe : Hid (((r : Int) != lq) = chgA A k t (q + 1)) := Lib.hid (by rw [Hchs.out]; exact bne_dec _ _)
                      go_wp2
                      go_quiet (fail)
                      clear cQ fQ cN7 cC7
                      go_wp2
                      go_roundw
                      case rel => exact ⟨q + 1, by omega, by go_num, by rw [← Hbe.out], hC7.drewN _, hN7.drewN _, below_drewN' hbw7 _⟩
                      case measure => simp [intOf] <;> omega
            · obtain rfl : r = q := by omega
              have hal := aLst_alone HE.out
              have Hset := Lib.hid (nxtA_set A L t N r (r : Int) (by rw [hal]))
              rw [hal] at Hchs
              have cQ := (hNx.cell r).trans (nxtA_own A L t N r hql (r : Int))
              have cC := (hC.cell r).trans (clsA_at A L t N r hql)
              rw [Hset.out] at hNx
              clear hal
              generalize (aLst A L t r : Int) = lq at *
              cases cb with
              | true =>
                rw [Bool.true_or] at Hchs
                clear cQ cC
                go_wp2
                go_quiet (fail)
                go_wp2
                go_roundw
                case rel => exact ⟨r + 1, by omega, by go_num, by rw [Hchs.out], hC.drewN _, hNx.drewN _, below_drewN' hbw _⟩
                case measure => simp [intOf] <;> omega
              | false =>
                rw [Bool.false_or] at Hchs
                have Hbe : Hid (((r : Int) != lq) = chgA A L t (r + 1)) := Lib.hid (by rw [Hchs.out]; exact bne_dec _ _)
                go_wp2
                go_quiet (fail)
                clear cQ cC
                go_wp2
                go_roundw
                case rel => exact ⟨r + 1, by omega, by go_num, by rw [← Hbe.out], hC.drewN _, hNx.drewN _, below_drewN' hbw _⟩
                case measure => simp [intOf] <;> omega
        · obtain rfl : q = N := by omega
          rw [nxtA_all] at hNx
          have hcl := cntB_le (aRep A L (t + 1)) q
          have Hgk : Hid ((chgA A L t q = false → AStill A L q (t + 1)) ∧ (chgA A L t q = true → q + 1 ≤ (gk - 1) + cntB (aRep A L (t + 1)) q)) := Lib.hid ⟨fun h => chgA_no Hin.out h, fun h => by have := chgA_yes Hin.out h; have := HGk.out; omega⟩
          have hg1 : 1 ≤ gk := by have := HGk.out; have := cntB_le (aRep A L t) q; omega
          go_wp2
          go_roundg (gk - 1)
          case rel => exact ⟨t + 1, gn, _, rfl, rfl, Hgk, by omega, hNx, hbw⟩
          case measure => omega
end Go.Proofs.Ytliohokcjgcmhaa

namespace Go.Proofs.Ytliohokcjgcmhaa
open Go.RowKit
attribute [local go_sem] sel_true sel_false

theorem secK_pre (M : Mach) (y : List Int) (j L : Nat) (h : j ≤ L) : ∃ t, secK M y L = secK M y j ++ t := by
  obtain ⟨d, rfl⟩ := Nat.exists_eq_add_of_le h
  refine ⟨((List.range d).map (j + ·)).map fun x => (ledG M y x).2, ?_⟩
  unfold secK
  rw [List.range_add, List.map_append]
theorem threeR {l : List Int} (h : l.length = 3) : ∃ a b c, l = [a, b, c] := by
  match l, h with
  | [a, b, c], _ => exact ⟨a, b, c, rfl⟩
/-- The places of the first j sections, in threes. -/
def plJ (M : Mach) (L S : Nat) (Q : List (List Int)) (y : List Int) (j : Nat) : List Int := (List.range 3).map fun x => if x < j then ((Q.idxOf (nf M L S (ledG M y x).2) : Nat) : Int) else 0
theorem plJ_len (M : Mach) (L S : Nat) (Q : List (List Int)) (y : List Int) (j : Nat) : (plJ M L S Q y j).length = 3 := by simp [plJ]
theorem plJ_zero (M : Mach) (L S : Nat) (Q : List (List Int)) (y : List Int) : plJ M L S Q y 0 = [0, 0, 0] := rfl
theorem plJ_grow {M : Mach} {L S : Nat} {Q : List (List Int)} {y : List Int} {j : Nat} (h : ∀ x, x < j → nf M L S (ledG M y x).2 ∈ Q) (t : List (List Int)) : plJ M L S (Q ++ t) y j = plJ M L S Q y j := by
  unfold plJ
  refine List.map_congr_left fun x _ => ?_
  by_cases hx : x < j
  · rw [if_pos hx, if_pos hx, List.idxOf_append, if_pos (h x hx)]
  · rw [if_neg hx, if_neg hx]
theorem plJ_set (M : Mach) (L S : Nat) (Q : List (List Int)) (y : List Int) (j : Nat) (v : Int) (hv : v = ((Q.idxOf (nf M L S (ledG M y j).2) : Nat) : Int)) : (plJ M L S Q y j).set j v = plJ M L S Q y (j + 1) := by
  subst hv
  apply List.ext_getElem
  · simp [plJ]
  · intro i h1 h2
    simp only [plJ, List.getElem_set, List.getElem_map, List.getElem_range]
    by_cases h : j = i
    · subst h; simp
    · rw [if_neg h]
      by_cases h3 : i < j
      · rw [if_pos h3, if_pos (by omega)]
      · rw [if_neg h3, if_neg (by omega)]
theorem wqA_oL {M : Mach} {L S : Nat} {Q : List (List Int)} {k : Nat} (hk : k < Q.length) (t : List (List Int)) : oL (wqA M L S (Q ++ t)) L k = imP M Q[k] 3 L := by
  have e : (Q ++ t).getD k [] = Q[k] := by rw [getD_pre hk, getD_at hk]
  unfold oL imP rowO wqA
  simp only [e]
  rfl
theorem wqA_rwN {M : Mach} {L S : Nat} {Q : List (List Int)} {k : Nat} (hk : k < Q.length) (t : List (List Int)) : rwN (wqA M L S (Q ++ t)) L k = plJ M L S (Q ++ t) Q[k] L := by
  have e : (Q ++ t).getD k [] = Q[k] := by rw [getD_pre hk, getD_at hk]
  have h : ∀ x, (rowN (wqA M L S (Q ++ t)) L k x : Int) = if x < L then (((Q ++ t).idxOf (nf M L S (ledG M Q[k] x).2) : Nat) : Int) else 0 := fun x => by
    unfold rowN wqA
    simp only [e]
    split <;> rfl
  unfold rwN plJ
  rw [h, h, h]
  rfl
theorem fl_grow {M : Mach} {L S : Nat} {Q : List (List Int)} {k : Nat} (h : Shut M L S Q k) (t : List (List Int)) : flO (wqA M L S (Q ++ t)) L k = flO (wqA M L S Q) L k ∧ flN (wqA M L S (Q ++ t)) L k = flN (wqA M L S Q) L k := by
  have key : ∀ i, i < k → oL (wqA M L S (Q ++ t)) L i = oL (wqA M L S Q) L i ∧ rwN (wqA M L S (Q ++ t)) L i = rwN (wqA M L S Q) L i := fun i hi => by
    have := wqA_grow h t i hi
    simp only [rowL, List.cons.injEq, and_true] at this
    obtain ⟨a, b, c, d, e, f⟩ := this
    unfold oL rwN
    rw [a, b, c, d, e, f]
    exact ⟨rfl, rfl⟩
  exact ⟨congrArg List.flatten (List.map_congr_left fun i hi => (key i (List.mem_range.1 hi)).1), congrArg List.flatten (List.map_congr_left fun i hi => (key i (List.mem_range.1 hi)).2)⟩
theorem OwnF.empty {T : TypeId} {k : Nat} {w : World} {base g : Nat} (hb : base ≤ g) (hB : Blk w g #[] T) : OwnF T k w base (.slice (some ⟨g, 0, none⟩) 0 0) 0 [] :=
  ⟨by simp, by simp, .inr ⟨g, 0, #[], rfl, hb, hB, by omega, by unfold maxLen; omega, by simp, by simp⟩⟩
theorem OwnJ.empty {w : World} {base g : Nat} (hb : base ≤ g) (hB : Blk w g #[] 125) : OwnJ w base (.slice (some ⟨g, 0, none⟩) 0 0) 0 [] :=
  ⟨by simp, by simp, .inr ⟨g, 0, #[], rfl, hb, hB, by omega, by unfold maxLen; omega, by simp, by simp⟩⟩
section
variable {ops : Array Oper} {rest : List Oper} {o : Oper} {a : Act} {w : World} {Q : Exit → Act → World → Prop}
theorem wpList_push_b3R (hgd : o.guard = none) (s x : Operand) (ho : o.op = .call { callee := .builtin .append, args := #[s, x], argTypes := #[120, 120] })
    (base : Nat) (v : Value) (n : Nat) (fl : List Int) (hs : a.eval s = v) (hown : OwnF 22 3 w base v n fl) (g c : Nat) (x0 x1 x2 : Int) (hx : a.eval x = .slice (some ⟨g, 0, none⟩) 1 c) (hB : Blk w g #[.int .u8 x0, .int .u8 x1, .int .u8 x2] 22)
    (hn : n ≤ 1048576) (hbase : base ≤ w.heap.size)
    (h : ∀ v' w', OwnF 22 3 w' base v' (n + 1) (fl ++ [x0, x1, x2]) → Below base w w' → (∀ k, k < w.heap.size → some k ≠ v.ownBlock → w'.heap[k]? = w.heap[k]?) → (v'.ownBlock = v.ownBlock ∨ v'.ownBlock = some w.heap.size) → wpList Try.prog ops Q rest (a.put o.dst v') w') : wpList Try.prog ops Q (o :: rest) a w := by
  obtain ⟨i0, hi, hz0, hz1, hz2⟩ := info_parts infob_b3
  obtain ⟨hl, hrow⟩ := hown
  refine wpList_append_own_at _ hgd s x 120 ho base 22 i0 (.agg (c8 [0, 0, 0])) 3 3 Try.underlying120 hi hz0 hz1 hz2 rfl (by decide) v n _ hs hrow ⟨g, 0, none⟩ 1 c [.int .u8 x0, .int .u8 x1, .int .u8 x2] hx rfl
    (fun j u' hu' => ?_) (fun u' hu' => ?_) (by unfold maxLen; omega) (by omega) hbase (fun v' w' hown' hg _ hat => h v' w' ⟨by simp [hl]; omega, by simpa using hown'⟩ (below_grown hrow hg hbase) hg.block hat)
  · match j, hu' with
    | 0, hu' => simp at hu'; subst hu'; simpa [Addr.add] using hB.cell 0
    | 1, hu' => simp at hu'; subst hu'; simpa [Addr.add] using hB.cell 1
    | 2, hu' => simp at hu'; subst hu'; simpa [Addr.add] using hB.cell 2
  · simp at hu'
    rcases hu' with rfl | rfl | rfl <;> rfl
end
/-- The queue, the letters and the places that the walk has collected. -/
def rwFoot (qv : Value) (vs : List Value) (ov nv : Value) (b : Nat) : Prop := inLV qv vs b ∨ ov.ownBlock = some b ∨ nv.ownBlock = some b
structure RwAt (w : World) (B : Nat) (Q : List (List Int)) (qv : Value) (vs : List Value) (no : Nat) (fo : List Int) (ov : Value) (nn : Nat) (fn : List Int) (nv : Value) : Prop where
  row : OwnLV w B qv vs Q
  o : OwnF 22 3 w B ov no fo
  n : OwnJ w B nv nn fn
  qo : ∀ b, inLV qv vs b → ov.ownBlock ≠ some b
  qn : ∀ b, inLV qv vs b → nv.ownBlock ≠ some b
  on : ∀ b, ov.ownBlock = some b → nv.ownBlock ≠ some b
section
variable {w w1 : World} {B : Nat} {Q : List (List Int)} {qv : Value} {vs : List Value} {no nn : Nat} {fo fn : List Int} {ov nv : Value}
theorem RwAt.ltt (h : RwAt w B Q qv vs no fo ov nn fn nv) (b : Nat) (hb : rwFoot qv vs ov nv b) : B ≤ b ∧ b < w.heap.size := by
  rcases hb with hb | hb | hb
  · exact h.row.lt b hb
  · exact h.o.ltt b hb
  · exact h.n.ltt b hb
theorem RwAt.same (h : RwAt w B Q qv vs no fo ov nn fn nv) (hs : ∀ b, rwFoot qv vs ov nv b → w1.heap[b]? = w.heap[b]?) : RwAt w1 B Q qv vs no fo ov nn fn nv :=
  ⟨h.row.same fun b hb => hs b (.inl hb), h.o.same fun b hb => hs b (.inr (.inl hb)), h.n.same fun b hb => hs b (.inr (.inr hb)), h.qo, h.qn, h.on⟩
theorem RwAt.below (h : RwAt w B Q qv vs no fo ov nn fn nv) (hb : Below w.heap.size w w1) : RwAt w1 B Q qv vs no fo ov nn fn nv := h.same fun b hf => hb.block b (h.ltt b hf).2
theorem RwAt.pushQ (h : RwAt w B Q qv vs no fo ov nn fn nv) {v1 u : Value} {z : List Int} (hS : OwnLV w1 B v1 (vs ++ [u]) (Q ++ [z])) (hsp : Spares w w1 qv) (hat : v1.ownBlock = qv.ownBlock ∨ v1.ownBlock = some w.heap.size) (hu : ∀ b, u.ownBlock = some b → ov.ownBlock ≠ some b ∧ nv.ownBlock ≠ some b) : RwAt w1 B (Q ++ [z]) v1 (vs ++ [u]) no fo ov nn fn nv := by
  have hf : ∀ b, inLV v1 (vs ++ [u]) b → ov.ownBlock ≠ some b ∧ nv.ownBlock ≠ some b := fun b hb => by
    rcases inLV_push (v := qv) hb with h1 | h1 | h1
    · rcases hat with e | e
      · exact ⟨h.qo b (.inl (e ▸ h1)), h.qn b (.inl (e ▸ h1))⟩
      · rw [e] at h1
        cases h1
        exact ⟨fun e => by have := (h.o.ltt _ e).2; omega, fun e => by have := (h.n.ltt _ e).2; omega⟩
    · exact ⟨h.qo b h1, h.qn b h1⟩
    · exact hu b h1
  exact ⟨hS, h.o.same fun b hb => hsp b (h.o.ltt b hb).2 (fun e => h.qo b (.inl e.symm) hb), h.n.same fun b hb => hsp b (h.n.ltt b hb).2 (fun e => h.qn b (.inl e.symm) hb), fun b hb => (hf b hb).1, fun b hb => (hf b hb).2, h.on⟩
theorem RwAt.pushO (h : RwAt w B Q qv vs no fo ov nn fn nv) {v1 : Value} {m : Nat} {f1 : List Int} (hO : OwnF 22 3 w1 B v1 m f1) (hsp : ∀ k, k < w.heap.size → some k ≠ ov.ownBlock → w1.heap[k]? = w.heap[k]?) (hat : v1.ownBlock = ov.ownBlock ∨ v1.ownBlock = some w.heap.size) : RwAt w1 B Q qv vs m f1 v1 nn fn nv :=
  ⟨h.row.same fun b hb => hsp b (h.row.lt b hb).2 (fun e => h.qo b hb e.symm), hO, h.n.same fun b hb => hsp b (h.n.ltt b hb).2 (fun e => h.on b e.symm hb), fun b hb e => by
    rcases hat with e1 | e1
    · exact h.qo b hb (e1 ▸ e)
    · rw [e1] at e; cases e; have := (h.row.lt _ hb).2; omega, h.qn, fun b e hb => by
    rcases hat with e1 | e1
    · exact h.on b (e1 ▸ e) hb
    · rw [e1] at e; cases e; have := (h.n.ltt _ hb).2; omega⟩
theorem RwAt.pushN (h : RwAt w B Q qv vs no fo ov nn fn nv) {v1 : Value} {m : Nat} {f1 : List Int} (hO : OwnJ w1 B v1 m f1) (hsp : ∀ k, k < w.heap.size → some k ≠ nv.ownBlock → w1.heap[k]? = w.heap[k]?) (hat : v1.ownBlock = nv.ownBlock ∨ v1.ownBlock = some w.heap.size) : RwAt w1 B Q qv vs no fo ov m f1 v1 :=
  ⟨h.row.same fun b hb => hsp b (h.row.lt b hb).2 (fun e => h.qn b hb e.symm), h.o.same fun b hb => hsp b (h.o.ltt b hb).2 (fun e => h.on b hb e.symm), hO, h.qo, fun b hb e => by
    rcases hat with e1 | e1
    · exact h.qn b hb (e1 ▸ e)
    · rw [e1] at e; cases e; have := (h.row.lt _ hb).2; omega, fun b hb e => by
    rcases hat with e1 | e1
    · exact h.on b hb (e1 ▸ e)
    · rw [e1] at e; cases e; have := (h.o.ltt _ hb).2; omega⟩
end
theorem two_stores {w : World} {gO gN j : Nat} (hne : gO ≠ gN) {lo ln : List Int} {T1 T2 : TypeId} (hX : Blk w gO (c8 lo) T1) (hY : Blk w gN (ints ln) T2) (a b : Int) :
    Blk ((w.setCell ⟨gO, j, none⟩ (.int .u8 a)).setCell ⟨gN, j, none⟩ (.int .i64 b)) gO (c8 (lo.set j a)) T1 ∧ Blk ((w.setCell ⟨gO, j, none⟩ (.int .u8 a)).setCell ⟨gN, j, none⟩ (.int .i64 b)) gN (ints (ln.set j b)) T2 ∧
    (∀ k, k ≠ gO → k ≠ gN → ((w.setCell ⟨gO, j, none⟩ (.int .u8 a)).setCell ⟨gN, j, none⟩ (.int .i64 b)).heap[k]? = w.heap[k]?) ∧ (∀ B w0, B ≤ gO → B ≤ gN → Below B w0 w → Below B w0 ((w.setCell ⟨gO, j, none⟩ (.int .u8 a)).setCell ⟨gN, j, none⟩ (.int .i64 b))) := by
  refine ⟨?_, ?_, fun k h1 h2 => ?_, fun B w0 h1 h2 hb => (hb.setCell (p := ⟨gO, j, none⟩) h1 _).setCell (p := ⟨gN, j, none⟩) h2 _⟩
  · rw [c8_set]
    exact (hX.set j _).setOther _ _ _ hne
  · rw [ints_set]
    exact (hY.setOther _ _ _ (Ne.symm hne)).set j _
  · rw [Below.heap_setCell _ _ _ k h2, Below.heap_setCell _ _ _ k h1]
/-- What 'l02Rows' answers. -/
def rwsOk (M : Mach) (L S : Nat) (w : World) (RES : Option (List (List Int))) (e : Ending) (w' : World) : Prop :=
  match RES with
  | none => e = .returned (.tuple #[.slice none 0 0, .slice none 0 0, .bool false]) ∧ Below w.heap.size w w'
  | some R => ∃ ov nv, e = .returned (.tuple #[ov, nv, .bool true]) ∧ SeesO w' ov (wqA M L S R) L R.length ∧ SeesX w' nv (wqA M L S R) L R.length ∧ Below w.heap.size w w'

def SeaR (M : Mach) (Lt S : Nat) (w : World) (v : Value) (L : Nat → Bool) (a : Act) (W : World) : Prop :=
  ∃ (l : List Bool) (g6 g7 g8 : Nat), a = { tmps := #[.agg (mc M), v, .pointer (some ⟨w.heap.size, 0, none⟩), undef, .slice none 0 0, .slice none 0 0, .bool false, sel (L 6) (.pointer (some ⟨g6, 0, none⟩)), sel (L 7) (.pointer (some ⟨g7, 0, none⟩)), sel (L 8) (.pointer (some ⟨g8, 0, none⟩)), undef, undef, undef, undef, undef, undef, undef, undef, undef, undef, undef, sel (L 0) (.agg (mc M)), sel (L 1) (.agg (mc (invM M Lt S))), sel (L 2) (.agg (mc M)), sel (L 3) (.agg (ints (clsS M Lt S (S + 1)))), sel (L 4) (.agg (mc M)), sel (L 5) (.agg (bl l)), undef, undef, undef, undef, undef, undef, undef, undef, undef, undef, undef, undef, undef, undef, undef, undef, undef, undef, undef, undef, undef, undef, undef, undef, undef, undef, undef, undef, undef, undef, undef, undef, undef, undef, undef, undef, undef, undef, undef, undef, undef, undef, undef, undef, undef, undef, undef, undef, undef, undef, undef, undef, undef, undef, undef, undef, undef, undef, undef, undef, undef, undef, undef, undef, undef, undef, undef], defers := [] } ∧ Blk W w.heap.size (mc M) 27 ∧ Below w.heap.size w W ∧
    (L 5 = true → l.length = 16 ∧ ∀ q, q < S → l.getD q false = trivB M Lt S q) ∧
    (L 6 = true → w.heap.size < g6 ∧ Blk W g6 (if L 9 = true then mc (invM M Lt S) else mc zeroM) 27) ∧
    (L 7 = true → w.heap.size < g7 ∧ Blk W g7 (if L 10 = true then ints (clsS M Lt S (S + 1)) else ints zer) 92) ∧
    (L 8 = true → w.heap.size < g8 ∧ Blk W g8 (if L 11 = true then bl l else bl nob) 143) ∧
    (L 6 = true → L 7 = true → g6 ≠ g7) ∧ (L 6 = true → L 8 = true → g6 ≠ g8) ∧ (L 7 = true → L 8 = true → g7 ≠ g8) ∧ (L 11 = true → L 5 = true) ∧ (L 9 = true → L 6 = true) ∧ (L 10 = true → L 7 = true) ∧ (L 11 = true → L 8 = true)

set_option maxRecDepth 100000 in
set_option maxHeartbeats 8000000 in
theorem l02Rows_calls (M : Mach) (Lt S : Nat) (hg : Good M Lt S) (v : Value) (z : List Int) (hz : wordOk S 80 z) (w : World) (hv : SeesI w v z) :
    Calls Try.prog 110 #[.agg (mc M), v] w (rwsOk M Lt S w (rowsT M Lt S 201 0 [nf M Lt S z])) := by
  obtain ⟨RES, hRES⟩ : ∃ r, rowsT M Lt S 201 0 [nf M Lt S z] = r := ⟨_, rfl⟩
  rw [hRES]
  have HRES := Lib.hid hRES
  clear hRES
  have hok := hg.ok
  have F1 : Hid (cut (mc M) 0 98 = mc M) := Lib.hid (cut_all _ _ (mc_size hok)); have F2 : Hid (0 + 98 ≤ (mc M).size) := Lib.hid (by rw [mc_size hok]; omega)
  have hB : Blk (w.alloc (.cells (mc M) 27)) w.heap.size (mc M) 27 := Blk.new w _ _
  have hbw0 : Below w.heap.size w (w.alloc (.cells (mc M) 27)) := by (repeat (first | exact Below.refl _ _ | refine below_drew' ?_ | refine below_drewN' ?_ _ | refine below_alloc' ?_ _ | refine below_set' ?_ (by (try simp); (try omega)) _ | refine below_step ?_ (by assumption)))
  have HI := Lib.hid (fun W => l01Inverse_calls M Lt S hg W)
  have HC := Lib.hid (fun W => l01Classes_calls M Lt S hg W)
  have HT := Lib.hid (fun W => l01Trivial_calls M Lt S hg W)
  have hzm := zero_mach
  have hzi := zero_i16
  have hzb := zero_b16
  have HsI : Hid ((mc (invM M Lt S)).size = 98) := Lib.hid (mc_size (invM_ok hok Lt S hg.L3))
  have HsZ : Hid ((mc zeroM).size = 98) := Lib.hid (mc_size zeroM_ok)
  have HsC : Hid ((ints (clsS M Lt S (S + 1))).size = 16) := Lib.hid (by simp [ints, clsS])
  have Hsz : Hid ((ints zer).size = 16) := Lib.hid (by simp [ints, zer])
  have Hsn : Hid ((bl nob).size = 16) := Lib.hid (by simp [bl, nob])
  have Hv := Lib.hid hv
  clear hv
  go_enter Try.func110, Try.ntmps110
  go_wp2_with fail
  refine wp_mono (Q := fun e a' W => match e with
    | .normal => SeaR M Lt S w v (fun _ => true) a' W
    | _ => False) ?reg ?rest
  case reg =>
    have hdr : Below (w.alloc (.cells (mc M) 27)).heap.size (w.alloc (.cells (mc M) 27)) (w.alloc (.cells (mc M) 27)).drew := (Below.refl _ _).drew
    refine wp_region_inv (by kernel_rfl) (SeaR M Lt S w v) (by kernel_rfl) ?_ ?_ ?_
    · show SeaR M Lt S w v (come (Array.replicate 12 false)) _ _
      have hc : ∀ i, i < 12 → ¬ come (Array.replicate 12 false) i = true := fun i hi h => by rw [come_none 12 i hi] at h; cases h
      have e : come (Array.replicate 12 false) = fun i => decide (12 ≤ i) := by
        funext i
        by_cases h : i < 12
        · rw [come_none 12 i h]; simp; omega
        · unfold come; simp [Array.getD_eq_getD_getElem?, Array.getElem?_eq_none (show (Array.replicate 12 false).size ≤ i by simp; omega)]; omega
      rw [e]
      exact ⟨[], 0, 0, 0, rfl, hB.keptAll hdr, below_step hbw0 hdr, fun h => absurd h (by decide), fun h => absurd h (by decide), fun h => absurd h (by decide), fun h => absurd h (by decide), fun h => absurd h (by decide), fun h => absurd h (by decide), fun h => absurd h (by decide), fun h => absurd h (by decide), fun h => absurd h (by decide), fun h => absurd h (by decide), fun h => absurd h (by decide)⟩
    · intro i oi L a W hoi hLi hdep hInv K hK
      obtain ⟨l, g6, g7, g8, rfl, i1, i2, i3, i4, i5, i6, i7, i8, i9, d1, d2, d3, d4⟩ := hInv
      have hi : i < 12 := (Array.getElem?_eq_some_iff.1 hoi).1
      rcases (show i = 0 ∨ i = 1 ∨ i = 2 ∨ i = 3 ∨ i = 4 ∨ i = 5 ∨ i = 6 ∨ i = 7 ∨ i = 8 ∨ i = 9 ∨ i = 10 ∨ i = 11 by omega) with rfl | rfl | rfl | rfl | rfl | rfl | rfl | rfl | rfl | rfl | rfl | rfl
      all_goals (have hoi2 := Option.some.inj hoi; subst hoi2; refine ⟨rfl, ?_⟩)
      · refine wp_load_rowI 27 _ rfl w.heap.size 0 rfl (mc M) _ i1 98 F2.out _ Try.underlying27 rfl size_mach _ F1.out ?_
        exact hK _ _ ⟨l, g6, g7, g8, rfl, i1, i2, i3, i4, i5, i6, i7, i8, i9, d1, d2, d3, d4⟩
      · have h0 := dep_of hdep 0 (by kernel_rfl)
        go_simp
        refine (HI.out _).mono ?_
        rintro e W2 ⟨rfl, hb⟩
        obtain ⟨j1, j2, j3, j4, j5, j6⟩ := SeaI.step hb ⟨i1, i2, i3, i4, i5, i6⟩
        exact hK _ _ ⟨l, g6, g7, g8, by simp [now, sel, h0], j1, j2, j3, j4, j5, j6, i7, i8, i9, d1, d2, d3, d4⟩
      · refine wp_load_rowI 27 _ rfl w.heap.size 0 rfl (mc M) _ i1 98 F2.out _ Try.underlying27 rfl size_mach _ F1.out ?_
        exact hK _ _ ⟨l, g6, g7, g8, rfl, i1, i2, i3, i4, i5, i6, i7, i8, i9, d1, d2, d3, d4⟩
      · have h0 := dep_of hdep 2 (by kernel_rfl)
        go_simp
        refine (HC.out _).mono ?_
        rintro e W2 ⟨rfl, hb⟩
        obtain ⟨j1, j2, j3, j4, j5, j6⟩ := SeaI.step hb ⟨i1, i2, i3, i4, i5, i6⟩
        exact hK _ _ ⟨l, g6, g7, g8, by simp [now, sel, h0], j1, j2, j3, j4, j5, j6, i7, i8, i9, d1, d2, d3, d4⟩
      · refine wp_load_rowI 27 _ rfl w.heap.size 0 rfl (mc M) _ i1 98 F2.out _ Try.underlying27 rfl size_mach _ F1.out ?_
        exact hK _ _ ⟨l, g6, g7, g8, rfl, i1, i2, i3, i4, i5, i6, i7, i8, i9, d1, d2, d3, d4⟩
      · have h0 := dep_of hdep 4 (by kernel_rfl)
        have h11 : ¬ L 11 = true := fun h => by rw [d1 h] at hLi; cases hLi
        go_simp
        refine (HT.out _).mono ?_
        rintro e W2 ⟨⟨l', rfl, p1, p2⟩, hb⟩
        obtain ⟨j1, j2, _, j4, j5, j6⟩ := SeaI.step hb ⟨i1, i2, i3, i4, i5, i6⟩
        rw [if_neg h11] at j6
        exact hK _ _ ⟨l', g6, g7, g8, by simp [now, sel, h0], j1, j2, fun _ => ⟨p1, p2⟩, j4, j5, fun h => by rw [if_neg (show ¬ now L 5 11 = true from h11)]; exact j6 h, i7, i8, i9, fun _ => rfl, d2, d3, d4⟩
      · have hst : ¬ L 9 = true := fun h => by rw [d2 h] at hLi; cases hLi
        go_simp
        obtain ⟨j1, j2, j3, j4, j5, j6⟩ := SeaI.step (W' := W.alloc (.cells (mc zeroM) 27)) (by (repeat (first | exact Below.refl _ _ | refine below_drew' ?_ | refine below_drewN' ?_ _ | refine below_alloc' ?_ _ | refine below_set' ?_ (by (try simp); (try omega)) _ | refine below_step ?_ (by assumption)))) ⟨i1, i2, i3, i4, i5, i6⟩
        exact hK _ _ ⟨l, W.heap.size, g7, g8, rfl, j1, j2, j3, fun _ => ⟨i1.lt, by rw [if_neg (show ¬ now L 6 9 = true from hst)]; exact Blk.new _ _ _⟩, j5, j6, fun _ h => Nat.ne_of_gt (i5 h).2.lt, fun _ h => Nat.ne_of_gt (i6 h).2.lt, i9, d1, fun _ => rfl, d3, d4⟩
      · have hst : ¬ L 10 = true := fun h => by rw [d3 h] at hLi; cases hLi
        go_simp
        obtain ⟨j1, j2, j3, j4, j5, j6⟩ := SeaI.step (W' := W.alloc (.cells (ints zer) 92)) (by (repeat (first | exact Below.refl _ _ | refine below_drew' ?_ | refine below_drewN' ?_ _ | refine below_alloc' ?_ _ | refine below_set' ?_ (by (try simp); (try omega)) _ | refine below_step ?_ (by assumption)))) ⟨i1, i2, i3, i4, i5, i6⟩
        exact hK _ _ ⟨l, g6, W.heap.size, g8, rfl, j1, j2, j3, j4, fun _ => ⟨i1.lt, by rw [if_neg (show ¬ now L 7 10 = true from hst)]; exact Blk.new _ _ _⟩, j6, fun h _ => Nat.ne_of_lt (i4 h).2.lt, i8, fun _ h => Nat.ne_of_gt (i6 h).2.lt, d1, d2, fun _ => rfl, d4⟩
      · have hst : ¬ L 11 = true := fun h => by rw [d4 h] at hLi; cases hLi
        go_simp
        obtain ⟨j1, j2, j3, j4, j5, j6⟩ := SeaI.step (W' := W.alloc (.cells (bl nob) 143)) (by (repeat (first | exact Below.refl _ _ | refine below_drew' ?_ | refine below_drewN' ?_ _ | refine below_alloc' ?_ _ | refine below_set' ?_ (by (try simp); (try omega)) _ | refine below_step ?_ (by assumption)))) ⟨i1, i2, i3, i4, i5, i6⟩
        exact hK _ _ ⟨l, g6, g7, W.heap.size, rfl, j1, j2, j3, j4, j5, fun _ => ⟨i1.lt, by rw [if_neg (show ¬ now L 8 11 = true from hst)]; exact Blk.new _ _ _⟩, i7, fun h _ => Nat.ne_of_lt (i4 h).2.lt, fun h _ => Nat.ne_of_lt (i5 h).2.lt, d1, d2, d3, fun _ => rfl⟩
      · have h6 := dep_of hdep 6 (by kernel_rfl)
        have h1 := dep_of hdep 1 (by kernel_rfl)
        have hBz := (i4 h6).2
        rw [if_neg (show ¬ L 9 = true by rw [hLi]; simp)] at hBz
        have hgb := (i4 h6).1
        refine wp_store_rowI 27 _ _ rfl g6 0 (mc (invM M Lt S)) (by show sel (L 6) _ = _; rw [h6]; rfl) (by show sel (L 1) _ = _; rw [h1]; rfl) (mc zeroM) _ hBz (by rw [HsI.out, HsZ.out]; omega) (by rw [HsI.out]; exact size_mach) (mc_one _) (mc (invM M Lt S)) (over_all _ _ (by rw [HsI.out, HsZ.out])) (fun W2 hs => ?_)
        exact hK _ _ ⟨l, g6, g7, g8, rfl, hs.keep (Nat.ne_of_lt hgb) i1, hs.below _ _ (Nat.le_of_lt hgb) i2, i3, fun _ => ⟨(i4 h6).1, by rw [if_pos (show now L 9 9 = true from rfl)]; exact hs.blk⟩, fun h => ⟨(i5 h).1, hs.keep (Ne.symm (i7 h6 h)) (i5 h).2⟩, fun h => ⟨(i6 h).1, hs.keep (Ne.symm (i8 h6 h)) (i6 h).2⟩, i7, i8, i9, d1, fun _ => h6, d3, d4⟩
      · have h6 := dep_of hdep 7 (by kernel_rfl)
        have h1 := dep_of hdep 3 (by kernel_rfl)
        have hBz := (i5 h6).2
        rw [if_neg (show ¬ L 10 = true by rw [hLi]; simp)] at hBz
        have hgb := (i5 h6).1
        refine wp_store_rowI 92 _ _ rfl g7 0 (ints (clsS M Lt S (S + 1))) (by show sel (L 7) _ = _; rw [h6]; rfl) (by show sel (L 3) _ = _; rw [h1]; rfl) (ints zer) _ hBz (by rw [HsC.out, Hsz.out]; omega) (by rw [HsC.out]; exact size_i16) (ints_one _) (ints (clsS M Lt S (S + 1))) (over_all _ _ (by rw [HsC.out, Hsz.out])) (fun W2 hs => ?_)
        exact hK _ _ ⟨l, g6, g7, g8, rfl, hs.keep (Nat.ne_of_lt hgb) i1, hs.below _ _ (Nat.le_of_lt hgb) i2, i3, fun h => ⟨(i4 h).1, hs.keep (i7 h h6) (i4 h).2⟩, fun _ => ⟨(i5 h6).1, by rw [if_pos (show now L 10 10 = true from rfl)]; exact hs.blk⟩, fun h => ⟨(i6 h).1, hs.keep (Ne.symm (i9 h6 h)) (i6 h).2⟩, i7, i8, i9, d1, d2, fun _ => h6, d4⟩
      · have h6 := dep_of hdep 8 (by kernel_rfl)
        have h1 := dep_of hdep 5 (by kernel_rfl)
        have hBz := (i6 h6).2
        rw [if_neg (show ¬ L 11 = true by rw [hLi]; simp)] at hBz
        have hgb := (i6 h6).1
        have hl16 : (bl l).size = 16 := by rw [bl_size, (i3 (dep_of hdep 5 (by kernel_rfl))).1]
        refine wp_store_rowI 143 _ _ rfl g8 0 (bl l) (by show sel (L 8) _ = _; rw [h6]; rfl) (by show sel (L 5) _ = _; rw [h1]; rfl) (bl nob) _ hBz (by rw [hl16, Hsn.out]; omega) (by rw [hl16]; exact (zero_of_info info_b16).2) (bl_one _) (bl l) (over_all _ _ (by rw [hl16, Hsn.out])) (fun W2 hs => ?_)
        exact hK _ _ ⟨l, g6, g7, g8, rfl, hs.keep (Nat.ne_of_lt hgb) i1, hs.below _ _ (Nat.le_of_lt hgb) i2, i3, fun h => ⟨(i4 h).1, hs.keep (i8 h h6) (i4 h).2⟩, fun h => ⟨(i5 h).1, hs.keep (i9 h h6) (i5 h).2⟩, fun _ => ⟨(i6 h6).1, by rw [if_pos (show now L 11 11 = true from rfl)]; exact hs.blk⟩, i7, i8, i9, fun _ => h1, d2, d3, fun _ => h6⟩
    · intro L a W hall hI
      obtain ⟨l, g6, g7, g8, rfl, i1, i2, i3, i4, i5, i6, i7, i8, i9, d1, d2, d3, d4⟩ := hI
      have q := fun i (h : i < 12) => hall i h
      have b4 := i4 (q 6 (by omega))
      have b5 := i5 (q 7 (by omega))
      have b6 := i6 (q 8 (by omega))
      rw [if_pos (q 9 (by omega))] at b4
      rw [if_pos (q 10 (by omega))] at b5
      rw [if_pos (q 11 (by omega))] at b6
      refine ⟨l, g6, g7, g8, ?_, i1, i2, fun _ => i3 (q 5 (by omega)), fun _ => b4, fun _ => b5, fun _ => b6, fun _ _ => i7 (q 6 (by omega)) (q 7 (by omega)), fun _ _ => i8 (q 6 (by omega)) (q 8 (by omega)), fun _ _ => i9 (q 7 (by omega)) (q 8 (by omega)), fun _ => rfl, fun _ => rfl, fun _ => rfl, fun _ => rfl⟩
      rw [q 0 (by omega), q 1 (by omega), q 2 (by omega), q 3 (by omega), q 4 (by omega), q 5 (by omega), q 6 (by omega), q 7 (by omega), q 8 (by omega)]
  case rest =>
    clear HI HC HT hzm hzi hzb HsZ Hsz Hsn hB hbw0
    intro e a W hT
    cases e with
    | normal =>
      obtain ⟨l, g6, g7, g8, rfl, hBm, hbw, i3, i4, i5, i6, _, _, _, _, _, _, _⟩ := hT
      obtain ⟨hll, hl⟩ := i3 rfl
      have hB6 := (i4 rfl).2
      have hB7 := (i5 rfl).2
      have hB8 := (i6 rfl).2
      simp only [if_true] at hB6 hB7 hB8
      simp only [sel_true]
      clear i3 i4 i5 i6
      have HN := Lib.hid (fun V y (hy : wordOk S 80 y) X hX => l02Normal_calls M Lt S hg l hll hl V y hy.nums (Nat.le_trans hy.2 (by omega)) X hX)
      have HLD := Lib.hid (fun V y (hy : wordOk S 80 y) x hx X hX => l02Led_calls M Lt S hg V y hy.1 (Nat.le_trans hy.2 (by omega)) x hx X hX)
      have F7s : Hid (0 + 16 ≤ (ints (clsS M Lt S (S + 1))).size) := Lib.hid (by rw [HsC.out]; omega)
      have F7 : Hid (cut (ints (clsS M Lt S (S + 1))) 0 16 = ints (clsS M Lt S (S + 1))) := Lib.hid (cut_all _ _ HsC.out)
      have Hsl : (bl l).size = 16 := by rw [bl_size, hll]
      have F8s : Hid (0 + 16 ≤ (bl l).size) := Lib.hid (by rw [Hsl]; omega)
      have F8 : Hid (cut (bl l) 0 16 = bl l) := Lib.hid (cut_all _ _ Hsl)
      have F6s : Hid (0 + 98 ≤ (mc (invM M Lt S)).size) := Lib.hid (by rw [HsI.out]; omega)
      have F6 : Hid (cut (mc (invM M Lt S)) 0 98 = mc (invM M Lt S)) := Lib.hid (cut_all _ _ HsI.out)
      have hz0 := Lib.hid (nf_ok M Lt S 80 z hz)
      have hcL := mc_L M
      rw [hg.hL] at hcL
      have hL3 := hg.L3
      have Hg := Lib.hid hg
      have Hz := Lib.hid hz
      have hz3 := zero_b3
      have hzi3 := zero_i3
      have Hz3 : Hid ((c8 zer3).size = 3) := Lib.hid (by rw [c8_size]; rfl)
      have Hz3o : Hid (over (c8 zer3) 0 (c8 zer3) = c8 zer3) := Lib.hid (over_all _ _ rfl)
      have Hz31 := Lib.hid (c8_one zer3)
      have Hzi3 : Hid ((ints [0, 0, 0]).size = 3) := Lib.hid rfl
      have Hzi3o : Hid (over (ints [0, 0, 0]) 0 (ints [0, 0, 0]) = ints [0, 0, 0]) := Lib.hid (over_all _ _ rfl)
      have Hzi31 := Lib.hid (ints_one [0, 0, 0])
      clear hg hz hl hll Hsl HsC HsI
      generalize (ints (clsS M Lt S (S + 1))) = cc at *
      generalize bl l = cb at *
      generalize mc (invM M Lt S) = ci at *
      have hsz := hbw.size
      generalize hz1 : nf M Lt S z = z1 at *
      have HN0 : Hid (∀ X, SeesI X v z → Calls Try.prog 123 #[v, .agg cc, .agg cb] X fun e w' => ∃ u, e = .returned u ∧ OwnI w' X.heap.size u z1 ∧ Below X.heap.size X w') := Lib.hid (by rw [← hz1]; exact fun X hX => HN.out v z Hz.out X hX)
      clear hz1 Hz
      go_wp2_with (first | ((with_reducible show wpList _ _ _ _ _ _); refine wpList_load_blk rfl 92 (.tmp 8) rfl g7 0 rfl cc _ hB7 16 F7s.out _ Try.underlying92 rfl size_i16 ?_; rw [F7.out]) | ((with_reducible show wpList _ _ _ _ _ _); refine wpList_load_blk rfl 143 (.tmp 9) rfl g8 0 rfl cb _ hB8 16 F8s.out _ Try.underlying143 rfl (zero_of_info info_b16).2 ?_; rw [F8.out]) | (go_at_call 123; refine (HN0.out _ (Hv.out.below hbw)).mono ?_; rintro e w1 ⟨u0, rfl, hO1, hb1⟩; obtain ⟨o1, c1, rfl, hq1⟩ := hO1.view; clear hq1))
      have hs1 := hb1.size
      have hal : Below w1.heap.size w1 (w1.alloc (.cells #[.slice o1 z1.length c1] 26)) := by (repeat (first | exact Below.refl _ _ | refine below_drew' ?_ | refine below_drewN' ?_ _ | refine below_alloc' ?_ _ | refine below_set' ?_ (by (try simp); (try omega)) _ | refine below_step ?_ (by assumption)))
      have hOQ : OwnLV (w1.alloc (.cells #[.slice o1 z1.length c1] 26)) W.heap.size (.slice (some ⟨w1.heap.size, 0, none⟩) 1 1) [.slice o1 z1.length c1] [z1] := OwnLV.one hs1 (Blk.new w1 _ _) (hO1.below hal) (fun e => by have := (World.ownsRow.lt hO1 _ e).2; omega)
      have hbr1 : Below W.heap.size W (w1.alloc (.cells #[.slice o1 z1.length c1] 26)) := below_allocB hb1 hs1 _
      have hlt1 : ∀ b, inLV (.slice (some ⟨w1.heap.size, 0, none⟩) 1 1) [.slice o1 z1.length c1] b → b ≤ w1.heap.size := fun b hb => by
        rcases hb with e | ⟨u, hu, e⟩
        · simp [Value.ownBlock] at e; omega
        · rw [List.mem_singleton.1 hu] at e
          have := (World.ownsRow.lt hO1 _ e).2
          omega
      have hA1 : RwAt (((w1.alloc (.cells #[.slice o1 z1.length c1] 26)).alloc (.cells #[] 22)).alloc (.cells #[] 125)) W.heap.size [z1] (.slice (some ⟨w1.heap.size, 0, none⟩) 1 1) [.slice o1 z1.length c1] 0 (flO (wqA M Lt S [z1]) Lt 0) (.slice (some ⟨w1.heap.size + 1, 0, none⟩) 0 0) 0 (flN (wqA M Lt S [z1]) Lt 0) (.slice (some ⟨w1.heap.size + 1 + 1, 0, none⟩) 0 0) :=
        ⟨(hOQ.below (w1 := (w1.alloc (.cells #[.slice o1 z1.length c1] 26)).alloc (.cells #[] 22)) (by (repeat (first | exact Below.refl _ _ | refine below_drew' ?_ | refine below_drewN' ?_ _ | refine below_alloc' ?_ _ | refine below_set' ?_ (by (try simp); (try omega)) _ | refine below_step ?_ (by assumption))))).below (by (repeat (first | exact Below.refl _ _ | refine below_drew' ?_ | refine below_drewN' ?_ _ | refine below_alloc' ?_ _ | refine below_set' ?_ (by (try simp); (try omega)) _ | refine below_step ?_ (by assumption)))), OwnF.empty (by omega) (Blk.alloc (Blk.new_at _ _ _ _ (by simp)) _), OwnJ.empty (by omega) (Blk.new_at _ _ _ _ (by simp)), fun b hb e => by have := hlt1 b hb; simp [Value.ownBlock] at e; omega, fun b hb e => by have := hlt1 b hb; simp [Value.ownBlock] at e; omega, fun b hb e => by simp [Value.ownBlock] at hb e; omega⟩
      have hbr2 := below_allocB (below_allocB hbr1 (by simp; omega) (.cells #[] 22)) (by simp; omega) (.cells #[] 125)
      have hszA : W.heap.size ≤ (((w1.alloc (.cells #[.slice o1 z1.length c1] 26)).alloc (.cells #[] 22)).alloc (.cells #[] 125)).heap.size := by simp; omega
      clear HN0 hO1 hb1 hal Hv hOQ hbr1 hlt1
      go_loopw [10, 11, 12, 13] (fun qv' ov' nv' i wr => ∃ (k : Nat) (Q : List (List Int)) (vs : List Value) (qv ov nv : Value), k ≤ Q.length ∧ i = .int .i64 k ∧ qv = qv' ∧ ov = ov' ∧ nv = nv' ∧ RwAt wr W.heap.size Q qv vs k (flO (wqA M Lt S Q) Lt k) ov k (flN (wqA M Lt S Q) Lt k) nv ∧ Hid ((∀ u ∈ Q, wordOk S 80 u) ∧ Q.length ≤ 200 ∧ 0 < Q.length) ∧ Hid (Shut M Lt S Q k) ∧ Hid (rowsT M Lt S (201 - k) k Q = RES) ∧ W.heap.size ≤ wr.heap.size ∧ Below W.heap.size W wr) (fun _ _ _ i _ => 201 - (intOf i).toNat)
      case atStart => exact ⟨0, [z1], [.slice o1 z1.length c1], _, _, _, by simp, rfl, rfl, rfl, rfl, hA1, Lib.hid ⟨fun u hu => by rw [List.mem_singleton.1 hu]; exact hz0.out, by simp, by simp⟩, Lib.hid (Shut.zero _ _ _ _), HRES, hszA, hbr2⟩
      case round =>
        clear hA1 hbr2 hs1 HRES hz0 hszA
        obtain ⟨k, Q, vs, qv, ov, nv, hk, rfl, rfl, rfl, rfl, hA, HQ, HSh, HR, hge, hbr⟩ := hrel
        obtain ⟨HQ1, HQ2, HQ3⟩ := HQ.out
        by_cases hlt : k < Q.length
        · have hkv : k < vs.length := by rw [hA.row.len]; exact hlt
          obtain ⟨oq, cq, rfl, hvc⟩ := hA.row.view
          obtain ⟨g, rfl, hgg, hcell⟩ := hvc (by omega)
          have hgl : g < wr.heap.size := (World.ownsRow.lt hA.row.row g rfl).2
          have cK := hcell k hkv
          have hU := hA.row.own k hkv hlt
          have hki : (k : Int) < (Q.length : Int) := by omega
          have hk20 : Hid (k ≤ 1048576) := Lib.hid (by omega)
          have hy : wordOk S 80 Q[k] := HQ1 _ (List.getElem_mem hlt)
          have Hfu := Lib.hid (fun h2 => rowsT_full M Lt S (200 - k) k Q hlt h2)
          have Hne := Lib.hid (fun Q' h2 => rowsT_next M Lt S (200 - k) k Q Q' hlt h2)
          have Hsn := Lib.hid (fun Q' (h2 : pushS M Lt S Q (secK M Q[k] Lt) = some Q') => HSh.out.next hlt h2)
          have Hoo := Lib.hid (fun t => wqA_oL (M := M) (L := Lt) (S := S) hlt t)
          have Hnn := Lib.hid (fun t => wqA_rwN (M := M) (L := Lt) (S := S) hlt t)
          have Hgr := Lib.hid (fun t => fl_grow HSh.out t)
          rw [show 201 - k = 200 - k + 1 by omega] at HR
          have HvQ : Hid (vs[k]? = some vs[k] ∧ Q[k]? = some Q[k]) := Lib.hid ⟨List.getElem?_eq_getElem hkv, List.getElem?_eq_getElem hlt⟩
          generalize Q[k] = y at *
          generalize vs[k] = uk at *
          have HY := Lib.hid hy
          have Hvk : Hid (vs[k]? = some uk ∧ Q[k]? = some y) := Lib.hid HvQ.out
          clear hy hvc hcell hkv HvQ
          obtain ⟨w2, rfl⟩ : ∃ x, x = wr := ⟨_, rfl⟩
          have hal2 : Below w2.heap.size w2 ((w2.alloc (.cells (c8 zer3) 22)).alloc (.cells (ints [0, 0, 0]) 125)) := by (repeat (first | exact Below.refl _ _ | refine below_drew' ?_ | refine below_drewN' ?_ _ | refine below_alloc' ?_ _ | refine below_set' ?_ (by (try simp); (try omega)) _ | refine below_step ?_ (by assumption)))
          have hX2 : Blk ((w2.alloc (.cells (c8 zer3) 22)).alloc (.cells (ints [0, 0, 0]) 125)) w2.heap.size (c8 zer3) 22 := (Blk.new w2 _ _).alloc _
          have hY2 : Blk ((w2.alloc (.cells (c8 zer3) 22)).alloc (.cells (ints [0, 0, 0]) 125)) (w2.heap.size + 1) (ints [0, 0, 0]) 125 := Blk.new_at _ _ _ _ (by simp)
          have hA2 := hA.below hal2
          have hltA := Lib.hid hA.ltt
          have Hub : Hid (∀ b, uk.ownBlock = some b → b < w2.heap.size) := Lib.hid (fun b hb => (World.ownsRow.lt hU b hb).2)
          have hU2 : OwnI ((w2.alloc (.cells (c8 zer3) 22)).alloc (.cells (ints [0, 0, 0]) 125)) W.heap.size uk y := owns_same hU (fun b hb => hal2.block b (Hub.out b hb))
          have hMr := (hBm.keptAll hbr).keptAll hal2
          clear hA hU
          go_wp2_with (first | ((with_reducible show wpList _ _ _ _ _ _); refine wpList_store_row rfl 22 (.tmp 14) (.tmp 40) rfl w2.heap.size 0 (c8 zer3) rfl rfl _ _ hX2 (by rw [Hz3.out]; omega) (by rw [Hz3.out]; exact size_b3) Hz31.out _ Hz3o.out ?_; intro w3 hs3; have hX3 := hs3.blk; have hY3 := hs3.keep (by omega) hY2; have hA3 := hA2.same (fun b hb => hs3.other b (by have := (hltA.out b hb).2; omega)); have hbe3 := hs3.below _ _ (Nat.le_refl _) hal2; have hU3 : OwnI w3 W.heap.size uk y := owns_same hU2 (fun b hb => hs3.other b (by have := Hub.out b hb; omega)); clear hX2 hY2 hA2 hU2 hs3) | ((with_reducible show wpList _ _ _ _ _ _); refine wpList_store_row rfl 125 (.tmp 15) (.tmp 41) rfl (w2.heap.size + 1) 0 (ints [0, 0, 0]) rfl rfl _ _ hY3 (by rw [Hzi3.out]; omega) (by rw [Hzi3.out]; exact size_i3) Hzi31.out _ Hzi3o.out ?_; intro w4 hs4; have hY4 := hs4.blk; have hX4 := hs4.keep (by omega) hX3; have hA4 := hA3.same (fun b hb => hs4.other b (by have := (hltA.out b hb).2; omega)); have hbe4 := hs4.below _ _ (by omega) hbe3; clear hX3 hY3 hA3 hs4 hbe3))
          have hbr4 := below_stepB hbr hge hbe4
          have Hfoot : Hid (∀ b, rwFoot (.slice (some ⟨g, 0, none⟩) Q.length cq) vs ov nv b → b ≠ w2.heap.size ∧ b ≠ w2.heap.size + 1) := Lib.hid (fun b hb => by have := (hltA.out b hb).2; omega)
          have Hov : Hid (∀ b, ov.ownBlock = some b → b < w2.heap.size) := Lib.hid (fun b hb => (hltA.out b (.inr (.inl hb))).2)
          have Hnv : Hid (∀ b, nv.ownBlock = some b → b < w2.heap.size) := Lib.hid (fun b hb => (hltA.out b (.inr (.inr hb))).2)
          have HP0 : Hid (pushS M Lt S Q (secK M y 0) = some Q ∧ ∀ x, x < 0 → nf M Lt S (ledG M y x).2 ∈ Q) := Lib.hid ⟨rfl, fun x hx => absurd hx (by omega)⟩
          have HQ0 : Hid ((∀ u ∈ Q, wordOk S 80 u) ∧ Q.length ≤ 200) := Lib.hid ⟨HQ1, HQ2⟩
          rw [show c8 zer3 = c8 (imP M y 3 0) by rw [imP_zero]; rfl] at hX4
          rw [show ints [0, 0, 0] = ints (plJ M Lt S Q y 0) from rfl] at hY4
          generalize flO (wqA M Lt S Q) Lt k = fo at *
          generalize flN (wqA M Lt S Q) Lt k = fn at *
          clear hU3 hMr hal2 cK Hub hbe4
          go_loopw [10, 16] (fun qv' i wr => ∃ (j : Nat) (Q2 : List (List Int)) (vs2 : List Value) (q2 : Value), j ≤ Lt ∧ i = .int .i64 j ∧ q2 = qv' ∧ RwAt wr W.heap.size Q2 q2 vs2 k fo ov k fn nv ∧ Blk wr w2.heap.size (c8 (imP M y 3 j)) 22 ∧ Blk wr (w2.heap.size + 1) (ints (plJ M Lt S Q2 y j)) 125 ∧ Hid (∀ b, rwFoot q2 vs2 ov nv b → b ≠ w2.heap.size ∧ b ≠ w2.heap.size + 1) ∧ Hid (vs2[k]? = some uk ∧ Q2[k]? = some y) ∧ Hid (pushS M Lt S Q (secK M y j) = some Q2 ∧ ∀ x, x < j → nf M Lt S (ledG M y x).2 ∈ Q2) ∧ Hid ((∀ u ∈ Q2, wordOk S 80 u) ∧ Q2.length ≤ 200) ∧ Below W.heap.size W wr) (fun _ i _ => Lt - (intOf i).toNat)
          case atStart => exact ⟨0, Q, vs, _, by omega, rfl, rfl, hA4, hX4, hY4, Hfoot, Hvk, HP0, HQ0, hbr4⟩
          case round =>
            clear hA4 hX4 hY4 Hfoot Hvk HP0 HQ0 hbr4
            obtain ⟨j, Q2, vs2, q2, hj, rfl, rfl, hA, hX, hY, Hfoot, Hvk, HP, HW, hbr4⟩ := hrel
            obtain ⟨w3, rfl⟩ : ∃ x, x = wr := ⟨_, rfl⟩
            have hMr := hBm.keptAll hbr4
            have cM := hMr.cell
            have hgX := hX.lt
            have hgY := hY.lt
            by_cases hlj : j < Lt
            · have hji : (j : Int) < (Lt : Int) := by omega
              have hj3 : (j : Int) < 3 := by omega
              have hw8 : IntKind.u8.wrap (j : Int) = (j : Int) := by simp [IntKind.wrap, IntKind.bits, IntKind.signed]; omega
              obtain ⟨hkv2, hvk2⟩ := List.getElem?_eq_some_iff.1 Hvk.out.1
              obtain ⟨hkQ2, hyk2⟩ := List.getElem?_eq_some_iff.1 Hvk.out.2
              obtain ⟨oq2, cq2, rfl, hvc⟩ := hA.row.view
              obtain ⟨g2, rfl, hgg2, hcell⟩ := hvc (by omega)
              have hgl3 : g2 < w3.heap.size := (World.ownsRow.lt hA.row.row g2 rfl).2
              have cK3 := hcell k hkv2
              rw [hvk2] at cK3
              have hU := hA.row.own k hkv2 hkQ2
              rw [hvk2, hyk2] at hU
              have hki2 : (k : Int) < (Q2.length : Int) := by omega
              obtain ⟨y1, y2, y3⟩ := ledG_all Hg.out y HY.out.1 j hlj
              have hwn : wordOk S 80 (ledG M y j).2 := ⟨y3, by rw [y2]; exact HY.out.2⟩
              have Hled := Lib.hid (fun W hW => HLD.out uk y HY.out j hlj W hW)
              have HPn : Hid (pushS M Lt S Q (secK M y (j + 1)) = pushQ M Lt S Q2 (ledG M y j).2) := Lib.hid (by rw [secK_succ, pushS_snoc, HP.out.1])
              have HFull : Hid (pushQ M Lt S Q2 (ledG M y j).2 = none → RES = none) := Lib.hid (fun h => by
                obtain ⟨t, ht⟩ := secK_pre M y (j + 1) Lt (by omega)
                rw [← HR.out]
                exact Hfu.out (by rw [ht]; exact pushS_none _ _ _ _ _ _ (HPn.out.trans h)))
              have HQn := Lib.hid (fun Q' h => pushQ_ok M Lt S 80 Q2 Q' _ HW.out.1 hwn HW.out.2 h)
              have Hims := Lib.hid (imP_set M y 3 j _ (rfl : ((ledG M y j).1 : Int) = _))
              have Hpls := Lib.hid (fun Q3 (v : Int) hv => plJ_set M Lt S Q3 y j v hv)
              have Hplg := Lib.hid (fun t => plJ_grow HP.out.2 t)
              have Hin := Lib.hid HP.out.2
              have HNr : Hid (∀ V X, SeesI X V (ledG M y j).2 → Calls Try.prog 123 #[V, .agg cc, .agg cb] X fun e w' => ∃ u, e = .returned u ∧ OwnI w' X.heap.size u (nf M Lt S (ledG M y j).2) ∧ Below X.heap.size X w') := Lib.hid (fun V X hX => HN.out V _ hwn X hX)
              have Hold1 : Hid ((c8 (imP M y 3 j))[j]? = some (.int .u8 ((imP M y 3 j).getD j 0))) := Lib.hid (c8_at _ _ (by rw [imP_len]; omega))
              have Hold2 : Hid ((ints (plJ M Lt S Q2 y j))[j]? = some (.int .i64 ((plJ M Lt S Q2 y j).getD j 0))) := Lib.hid (ints_at _ _ (by rw [plJ_len]; omega))
              have h6r := hB6.keptAll hbr4
              have h7r := hB7.keptAll hbr4
              have h8r := hB8.keptAll hbr4
              have HltF := Lib.hid hA.ltt
              have hw3 : W.heap.size ≤ w3.heap.size := by omega
              have hq200 := HW.out.2
              have HIn : Hid (nf M Lt S (ledG M y j).2 ∈ Q2 → pushQ M Lt S Q2 (ledG M y j).2 = some Q2) := Lib.hid (fun h => by unfold pushQ; rw [if_pos h])
              have HFl : Hid (nf M Lt S (ledG M y j).2 ∉ Q2 → Q2.length = 200 → pushQ M Lt S Q2 (ledG M y j).2 = none) := Lib.hid (fun h h2 => by unfold pushQ; rw [if_neg h, if_pos h2])
              have HPu : Hid (nf M Lt S (ledG M y j).2 ∉ Q2 → ¬ Q2.length = 200 → pushQ M Lt S Q2 (ledG M y j).2 = some (Q2 ++ [nf M Lt S (ledG M y j).2])) := Lib.hid (fun h h2 => by unfold pushQ; rw [if_neg h, if_neg h2])
              have HIj : Hid (∀ Q3 : List (List Int), (∀ x, x < j → nf M Lt S (ledG M y x).2 ∈ Q3) → nf M Lt S (ledG M y j).2 ∈ Q3 → ∀ x, x < j + 1 → nf M Lt S (ledG M y x).2 ∈ Q3) := Lib.hid (fun Q3 h1 h2 x hx => by
                by_cases e : x = j
                · subst e; exact h2
                · exact h1 x (by omega))
              clear y2 y3 hwn hvc hcell hkv2 hvk2 hyk2 HP
              generalize (imP M y 3 j).getD j 0 = old1 at *
              generalize (plJ M Lt S Q2 y j).getD j 0 = old2 at *
              generalize pushQ M Lt S Q2 (ledG M y j).2 = pq at *
              generalize nf M Lt S (ledG M y j).2 = n5 at *
              generalize (ledG M y j).1 = yx at *
              generalize (ledG M y j).2 = nx at *
              go_wp2
              have hdr : Below w3.heap.size w3 w3.drew := (Below.refl _ _).drew
              have hUd := hU.below (w1 := w3.drew) hdr
              refine wp_region_held_drew (S := fun W' => Blk W' w.heap.size (mc M) 27 ∧ Blk W' g6 ci 27 ∧ W'.cell? ⟨g2, k, none⟩ = some uk) (by kernel_rfl) ⟨hMr.drew, h6r.drew, cK3⟩ (fun hS0 => ?_)
              (refine hK_load 0 rfl (by kernel_rfl) (by kernel_rfl) (by kernel_rfl) 27 _ rfl (w.heap.size) 0 rfl (mc M) _ (fun W hW => hW.1) 98 (F2.out) _ Try.underlying27 rfl size_mach _ (F1.out) (fun _ _ _ h => h) rfl hS0 ?_; (intro K hK; go_simp; refine hK _ ?_; clear hK K))
              (refine hK_load 1 rfl (by kernel_rfl) (by kernel_rfl) (by kernel_rfl) 27 _ rfl (g6) 0 rfl ci _ (fun W hW => hW.2.1) 98 (F6s.out) _ Try.underlying27 rfl size_mach _ (F6.out) (fun _ _ _ h => h) rfl hS0 ?_; (intro K hK; go_simp; refine hK _ ?_; clear hK K))
              (refine hK_take 2 (.slice (some ⟨g2, 0, none⟩) Q2.length cq2) rfl (by kernel_rfl) (by kernel_rfl) (by kernel_rfl) (fun _ _ _ h => h) rfl (fun W _ => by go_simp) hS0 ?_; (intro K hK; go_simp; refine hK _ ?_; clear hK K))
              (refine hK_take 3 (.int .i64 (k : Int)) rfl (by kernel_rfl) (by kernel_rfl) (by kernel_rfl) (fun _ _ _ h => h) rfl (fun W _ => by go_simp) hS0 ?_; (intro K hK; go_simp; refine hK _ ?_; clear hK K))
              (refine hK_take 4 (.pointer (some ⟨g2, k, none⟩)) rfl (by kernel_rfl) (by kernel_rfl) (by kernel_rfl) (fun _ _ _ h => h) rfl (fun W _ => by go_simp) hS0 ?_; (intro K hK; go_simp; refine hK _ ?_; clear hK K))
              (refine hK_take 5 uk rfl (by kernel_rfl) (by kernel_rfl) (by kernel_rfl) (fun _ _ _ h => h) rfl (fun W hW => by have c1 := hW.2.2; clear hW; go_simp) hS0 ?_; (intro K hK; go_simp; refine hK _ ?_; clear hK K))
              (refine hK_take 6 (.int .i64 (j : Int)) rfl (by kernel_rfl) (by kernel_rfl) (by kernel_rfl) (fun _ _ _ h => h) rfl (fun W _ => by go_simp) hS0 ?_; (intro K hK; go_simp; refine hK _ ?_; clear hK K))
              (refine hK_take 7 (.int .u8 (j : Int)) rfl (by kernel_rfl) (by kernel_rfl) (by kernel_rfl) (fun _ _ _ h => h) rfl (fun W _ => by go_simp) hS0 ?_; (intro K hK; go_simp; refine hK _ ?_; clear hK K))
              (refine wpAnyH_ready (rs := [8]) (by kernel_rfl) (by simp) ?_; refine AllReadyH.cons rfl (fun K hK => ?_) AllReadyH.nil); go_simp; refine (Hled.out _ hUd.sees).mono ?_; rintro e w5 ⟨v5, rfl, hO5, hb5⟩
              have hbd5 : Below w3.heap.size w3 w5 := hdr.trans hb5
              (go_simp; refine hK.out _ _ (⟨Blk.keptAll hS0.1 hb5, Blk.keptAll hS0.2.1 hb5, by rw [hb5.cell hgl3]; exact hS0.2.2⟩) (fun hS1 => ?_); clear hK K)
              (refine hK_take 9 (.tuple #[.int .u8 (yx : Int), v5]) rfl (by kernel_rfl) (by kernel_rfl) (by kernel_rfl) (fun _ _ _ h => h) rfl (fun W _ => by go_simp) hS1 ?_; (intro K hK; go_simp; refine hK _ ?_; clear hK K))
              (refine hK_take 10 (.int .u8 (yx : Int)) rfl (by kernel_rfl) (by kernel_rfl) (by kernel_rfl) (fun _ _ _ h => h) rfl (fun W _ => by go_simp) hS1 ?_; (intro K hK; go_simp; refine hK _ ?_; clear hK K))
              (refine hK_take 11 (v5) rfl (by kernel_rfl) (by kernel_rfl) (by kernel_rfl) (fun _ _ _ h => h) rfl (fun W _ => by go_simp) hS1 ?_; (intro K hK; go_simp; refine hK _ ?_; clear hK K))
              (refine hK_take 12 (.int .u8 (yx : Int)) rfl (by kernel_rfl) (by kernel_rfl) (by kernel_rfl) (fun _ _ _ h => h) rfl (fun W _ => by go_simp) hS1 ?_; (intro K hK; go_simp; refine hK _ ?_; clear hK K))
              (refine hK_take 13 (v5) rfl (by kernel_rfl) (by kernel_rfl) (by kernel_rfl) (fun _ _ _ h => h) rfl (fun W _ => by go_simp) hS1 ?_; (intro K hK; go_simp; refine hK _ ?_; clear hK K))
              refine wpAnyH_done (by kernel_rfl) ?_ _
              clear hS0 hS1 hMr h6r cM hUd Hled cK3 hU
              have hO5' : OwnI w5 w3.heap.size v5 nx := hO5
              have hs5 : w3.heap.size ≤ w5.heap.size := hbd5.size
              have hA5 := hA.below hbd5
              have hX5 := hX.keptAll hbd5
              have hY5 := hY.keptAll hbd5
              have h7 := h7r.keptAll hbd5
              have h8 := h8r.keptAll hbd5
              have hbr5 := below_stepB hbr4 hw3 hbd5
              clear hO5 hb5 hA hX hY h7r h8r hbd5 hdr
              by_cases hin : n5 ∈ Q2
              · have HFd : Hid (∀ V X, OwnLV X W.heap.size (.slice (some ⟨g2, 0, none⟩) Q2.length cq2) vs2 Q2 → SeesI X V n5 → Calls Try.prog 124 #[.slice (some ⟨g2, 0, none⟩) Q2.length cq2, V] X fun e w' => e = .returned (.int .i64 ((Q2.idxOf n5 : Nat) : Int)) ∧ Below X.heap.size X w') := Lib.hid (fun V X h1 h2 => by
                  have := l02Find_calls W.heap.size _ vs2 Q2 V n5 X h1 h2
                  rwa [show fndQ Q2 n5 = ((Q2.idxOf n5 : Nat) : Int) by unfold fndQ; rw [if_pos hin]] at this)
                have hi0 : (0 : Int) ≤ ((Q2.idxOf n5 : Nat) : Int) := by omega
                have HP2 := Lib.hid (HPn.out.trans (HIn.out hin))
                have HI2 := Lib.hid (HIj.out Q2 Hin.out hin)
                have Hpl2 := Lib.hid (Hpls.out Q2 _ rfl)
                clear HIn HFl HPu HPn HFull HQn hin Hin HIj Hpls Hplg
                generalize ((Q2.idxOf n5 : Nat) : Int) = ix at *
                go_wp2_with (first | ((with_reducible show wpList _ _ _ _ _ _); refine wpList_load_blk rfl 92 (.tmp 8) rfl g7 0 rfl cc _ h7 16 F7s.out _ Try.underlying92 rfl size_i16 ?_; rw [F7.out]) | ((with_reducible show wpList _ _ _ _ _ _); refine wpList_load_blk rfl 143 (.tmp 9) rfl g8 0 rfl cb _ h8 16 F8s.out _ Try.underlying143 rfl (zero_of_info info_b16).2 ?_; rw [F8.out]) | (go_at_call 123; refine (HNr.out _ _ hO5'.sees).mono ?_; rintro e w6 ⟨v6, rfl, hO6, hb6⟩) | (go_at_call 124; refine (HFd.out _ _ (hA5.below hb6).row hO6.sees).mono ?_; rintro e w7 ⟨rfl, hb7⟩; have hX7 := (hX5.keptAll hb6).keptAll hb7; have hY7 := (hY5.keptAll hb6).keptAll hb7; have cX7 := (hX7.cell j).trans Hold1.out; have fX7 := hX7.free j; have cY7 := (hY7.cell j).trans Hold2.out; have fY7 := hY7.free j))
                have hA7 := (hA5.below hb6).below hb7
                have hbr7 := below_stepB (below_stepB hbr5 (by omega) hb6) (by have := hb6.size; omega) hb7
                obtain ⟨t1, t2, t3, t4⟩ := two_stores (j := j) (by omega : w2.heap.size ≠ w2.heap.size + 1) hX7 hY7 (yx : Int) ix
                rw [Hims.out] at t1
                rw [Hpl2.out] at t2
                go_roundw
                case rel => exact ⟨j + 1, Q2, vs2, _, by omega, by go_num, rfl, hA7.same (fun b hb => t3 b (Hfoot.out b hb).1 (Hfoot.out b hb).2), t1, t2, Hfoot, Hvk, Lib.hid ⟨HP2.out, HI2.out⟩, HW, t4 _ _ hge (by omega) hbr7⟩
                case measure => simp [intOf] <;> omega
              · have HFd : Hid (∀ V X, OwnLV X W.heap.size (.slice (some ⟨g2, 0, none⟩) Q2.length cq2) vs2 Q2 → SeesI X V n5 → Calls Try.prog 124 #[.slice (some ⟨g2, 0, none⟩) Q2.length cq2, V] X fun e w' => e = .returned (.int .i64 (-1)) ∧ Below X.heap.size X w') := Lib.hid (fun V X h1 h2 => by
                  have := l02Find_calls W.heap.size _ vs2 Q2 V n5 X h1 h2
                  rwa [show fndQ Q2 n5 = -1 by unfold fndQ; rw [if_neg hin]] at this)
                by_cases h200 : Q2.length = 200
                · have hqb : ((Q2.length : Int) == 200) = true := by rw [h200]; rfl
                  have Hno := Lib.hid (HFull.out (HFl.out hin h200))
                  clear HIn HFl HPu HPn HFull HQn hin h200 Hin HIj Hpls Hplg
                  go_wp2_with (first | ((with_reducible show wpList _ _ _ _ _ _); refine wpList_load_blk rfl 92 (.tmp 8) rfl g7 0 rfl cc _ h7 16 F7s.out _ Try.underlying92 rfl size_i16 ?_; rw [F7.out]) | ((with_reducible show wpList _ _ _ _ _ _); refine wpList_load_blk rfl 143 (.tmp 9) rfl g8 0 rfl cb _ h8 16 F8s.out _ Try.underlying143 rfl (zero_of_info info_b16).2 ?_; rw [F8.out]) | (go_at_call 123; refine (HNr.out _ _ hO5'.sees).mono ?_; rintro e w6 ⟨v6, rfl, hO6, hb6⟩) | (go_at_call 124; refine (HFd.out _ _ (hA5.below hb6).row hO6.sees).mono ?_; rintro e w7 ⟨rfl, hb7⟩))
                  go_ret3
                  rw [Hno.out]
                  exact ⟨rfl, below_step (below_step (below_step hbw hbr5) hb6) hb7⟩
                · have hqb : ((Q2.length : Int) == 200) = false := by simp; omega
                  have HP2 := Lib.hid (HPn.out.trans (HPu.out hin h200))
                  have HW2 := Lib.hid (HQn.out _ (HPu.out hin h200))
                  have HI2 := Lib.hid (HIj.out (Q2 ++ [n5]) (fun x hx => List.mem_append_left _ (Hin.out x hx)) (by simp))
                  have Hix : Hid (((Q2 ++ [n5]).idxOf n5 : Nat) = Q2.length) := Lib.hid (by rw [List.idxOf_append, if_neg hin]; simp)
                  have Hpl2 := Lib.hid (Hpls.out (Q2 ++ [n5]) (Q2.length : Int) (by rw [Hix.out]))
                  rw [Hplg.out] at Hpl2
                  have Hvk2 : Hid (∀ u : Value, (vs2 ++ [u])[k]? = some uk ∧ (Q2 ++ [n5])[k]? = some y) := Lib.hid (fun u => ⟨by
                    have := (List.getElem?_eq_some_iff.1 Hvk.out.1).1
                    rw [List.getElem?_append_left this]; exact Hvk.out.1, by
                    have := (List.getElem?_eq_some_iff.1 Hvk.out.2).1
                    rw [List.getElem?_append_left this]; exact Hvk.out.2⟩)
                  have hl5X := hX5.lt
                  have hl5Y := hY5.lt
                  clear HIn HFl HPu HPn HFull HQn hin h200 Hin HIj Hpls Hplg Hix
                  go_wp2_with (first | ((with_reducible show wpList _ _ _ _ _ _); refine wpList_load_blk rfl 92 (.tmp 8) rfl g7 0 rfl cc _ h7 16 F7s.out _ Try.underlying92 rfl size_i16 ?_; rw [F7.out]) | ((with_reducible show wpList _ _ _ _ _ _); refine wpList_load_blk rfl 143 (.tmp 9) rfl g8 0 rfl cb _ h8 16 F8s.out _ Try.underlying143 rfl (zero_of_info info_b16).2 ?_; rw [F8.out]) | (go_at_call 123; refine (HNr.out _ _ hO5'.sees).mono ?_; rintro e w6 ⟨v6, rfl, hO6, hb6⟩; have HltU := Lib.hid (fun q hq => (World.ownsRow.lt hO6 q hq).1); have hs6 := hb6.size; obtain ⟨o6, c6, rfl, hq6⟩ := hO6.view; clear hq6) | (go_at_call 124; go_loud (refine (HFd.out _ _ (hA5.below hb6).row hO6.sees).mono ?_; rintro e w7 ⟨rfl, hb7⟩; have hs7 := hb7.size; have hal7 : Below w7.heap.size w7 (w7.alloc (.cells #[.slice o6 n5.length c6] 26)) := (by (repeat (first | exact Below.refl _ _ | refine below_drew' ?_ | refine below_drewN' ?_ _ | refine below_alloc' ?_ _ | refine below_set' ?_ (by (try simp); (try omega)) _ | refine below_step ?_ (by assumption)))); have hsa7 := hal7.size; have hA8 := ((hA5.below hb6).below hb7).below hal7; have hX8 := ((hX5.keptAll hb6).keptAll hb7).keptAll hal7; have hY8 := ((hY5.keptAll hb6).keptAll hb7).keptAll hal7; have hU8 := ((hO6.below hb7).base_le (show W.heap.size ≤ w5.heap.size by omega)).below hal7; have hbr8 := below_stepB (below_stepB (below_stepB hbr5 (by omega) hb6) (by omega) hb7) (by omega) hal7; clear hA5 hX5 hY5)) | (at_builtin; go_loud (refine wpList_push_list rfl (.tmp 74) (.tmp 76) rfl W.heap.size _ vs2 Q2 rfl hA8.row w7.heap.size 1 (.slice o6 n5.length c6) n5 rfl (Blk.new w7 _ _) hU8 (fun q h1 h2 => by have q1 := HltU.out q h1; have q2 := (HltF.out q (.inl h2)).2; omega) (by omega) (by omega) ?_; intro v9 w9 hS9 hb9 hsp9 hat9; have hA9 := hA8.pushQ hS9 hsp9 hat9 (fun b hb => ⟨fun e => by have q1 := HltU.out b hb; have q2 := Hov.out b e; omega, fun e => by have q1 := HltU.out b hb; have q2 := Hnv.out b e; omega⟩); have hX9 : Blk w9 w2.heap.size (c8 (imP M y 3 j)) 22 := (hsp9 _ (by omega) (fun e => (Hfoot.out _ (.inl (.inl e.symm))).1 rfl)).trans hX8; have hY9 : Blk w9 (w2.heap.size + 1) (ints (plJ M Lt S Q2 y j)) 125 := (hsp9 _ (by omega) (fun e => (Hfoot.out _ (.inl (.inl e.symm))).2 rfl)).trans hY8; have cX9 := (hX9.cell j).trans Hold1.out; have fX9 := hX9.free j; have cY9 := (hY9.cell j).trans Hold2.out; have fY9 := hY9.free j)))
                  have hbr9 := hbr8.trans hb9
                  have Hfoot9 : Hid (∀ b, rwFoot v9 (vs2 ++ [.slice o6 n5.length c6]) ov nv b → b ≠ w2.heap.size ∧ b ≠ w2.heap.size + 1) := Lib.hid (fun b hb => by
                    rcases hb with hb | hb | hb
                    · rcases inLV_push (v := .slice (some ⟨g2, 0, none⟩) Q2.length cq2) hb with h1 | h1 | h1
                      · rcases hat9 with e | e
                        · exact Hfoot.out b (.inl (.inl (e ▸ h1)))
                        · rw [e] at h1
                          cases h1
                          omega
                      · exact Hfoot.out b (.inl h1)
                      · have := HltU.out b h1
                        omega
                    · have := Hov.out b hb
                      omega
                    · have := Hnv.out b hb
                      omega)
                  obtain ⟨t1, t2, t3, t4⟩ := two_stores (j := j) (by omega : w2.heap.size ≠ w2.heap.size + 1) hX9 hY9 (yx : Int) (Q2.length : Int)
                  rw [Hims.out] at t1
                  rw [Hpl2.out] at t2
                  go_roundw
                  case rel => exact ⟨j + 1, _, _, _, by omega, by go_num, rfl, hA9.same (fun b hb => t3 b (Hfoot9.out b hb).1 (Hfoot9.out b hb).2), t1, t2, Hfoot9, Lib.hid (Hvk2.out _), Lib.hid ⟨HP2.out, HI2.out⟩, Lib.hid ⟨HW2.out.1, HW2.out.2.1⟩, t4 _ _ hge (by omega) hbr9⟩
                  case measure => simp [intOf] <;> omega
            · obtain rfl : j = Lt := by omega
              have HP1 := Lib.hid HP.out.1
              have HR2 := Lib.hid ((Hne.out Q2 HP.out.1).symm.trans HR.out)
              have HS2 := Lib.hid (Hsn.out Q2 HP.out.1)
              obtain ⟨t, ht⟩ := pushS_pre M j S _ _ _ HP.out.1
              have HG2 := Lib.hid (Hgr.out t)
              have HO2 := Lib.hid (Hoo.out t)
              have HN2 := Lib.hid (Hnn.out t)
              rw [← ht] at HG2 HO2 HN2
              have hle : Q.length ≤ Q2.length := by rw [ht]; simp
              have Hle := Lib.hid hle
              obtain ⟨a0, a1, a2, him⟩ := threeR (imP_len M y 3 j)
              obtain ⟨b0, b1, b2, hpl⟩ := threeR (plJ_len M j S Q2 y j)
              rw [him] at hX HO2
              rw [hpl] at hY HN2
              have HO3 : Hid (flO (wqA M j S Q2) j (k + 1) = fo ++ [a0, a1, a2]) := Lib.hid (by rw [flO_succ, HG2.out.1, HO2.out])
              have HN3 : Hid (flN (wqA M j S Q2) j (k + 1) = fn ++ [b0, b1, b2]) := Lib.hid (by rw [flN_succ, HG2.out.2, HN2.out])
              have Hc1 : Hid (cut (c8 [a0, a1, a2]) 0 3 = #[.int .u8 a0, .int .u8 a1, .int .u8 a2]) := Lib.hid rfl
              have Hc2 : Hid (cut (ints [b0, b1, b2]) 0 3 = #[.int .i64 b0, .int .i64 b1, .int .i64 b2]) := Lib.hid rfl
              have Hs1 : Hid (0 + 3 ≤ (c8 [a0, a1, a2]).size) := Lib.hid (by rw [c8_size]; exact Nat.le_refl 3)
              have Hs2 : Hid (0 + 3 ≤ (ints [b0, b1, b2]).size) := Lib.hid (Nat.le_refl 3)
              have hal : Below w3.heap.size w3 (w3.alloc (.cells #[.int .u8 a0, .int .u8 a1, .int .u8 a2] 22)) := by (repeat (first | exact Below.refl _ _ | refine below_drew' ?_ | refine below_drewN' ?_ _ | refine below_alloc' ?_ _ | refine below_set' ?_ (by (try simp); (try omega)) _ | refine below_step ?_ (by assumption)))
              have hA4 := hA.below hal
              have hY4 := hY.keptAll hal
              have hsa := hal.size
              have hbr5 := below_stepB hbr4 (by omega) hal
              have HW2 := Lib.hid HW.out
              obtain ⟨oq2, cq2, rfl, hvc⟩ := hA.row.view
              clear hvc HP HP1 ht hle him hpl HG2 HO2 HN2 hA hMr hbr4 HQ HW
              generalize c8 [a0, a1, a2] = ca at *
              generalize ints [b0, b1, b2] = cbb at *
              go_wp2_with (first | ((with_reducible show wpList _ _ _ _ _ _); refine wpList_load_blk rfl 22 (.tmp 14) rfl w2.heap.size 0 rfl ca _ hX 3 Hs1.out _ Try.underlying22 rfl size_b3 ?_; rw [Hc1.out]) | (at_builtin; refine wpList_push_b3R rfl (.tmp 84) (.tmp 86) rfl W.heap.size _ k fo rfl hA4.o w3.heap.size 1 a0 a1 a2 rfl (Blk.new w3 _ _) hk20.out (by omega) ?_; intro v5 w5 hO5 hb5 hs5 hat5; have hA5 := hA4.pushO hO5 hs5 hat5; have hY5 : Blk w5 (w2.heap.size + 1) cbb 125 := (hs5 _ (by omega) (fun e => by have := Hov.out _ e.symm; omega)).trans hY4; have hz5 := hb5.size; have hal5 : Below w5.heap.size w5 (w5.alloc (.cells #[.int .i64 b0, .int .i64 b1, .int .i64 b2] 125)) := (by (repeat (first | exact Below.refl _ _ | refine below_drew' ?_ | refine below_drewN' ?_ _ | refine below_alloc' ?_ _ | refine below_set' ?_ (by (try simp); (try omega)) _ | refine below_step ?_ (by assumption)))); have hA6 := hA5.below hal5; have hsa5 := hal5.size; have hbr6 := below_stepB (hbr5.trans hb5) (by omega) hal5) | ((with_reducible show wpList _ _ _ _ _ _); refine wpList_load_blk rfl 125 (.tmp 15) rfl (w2.heap.size + 1) 0 rfl cbb _ hY5 3 Hs2.out _ Try.underlying125 rfl size_i3 ?_; rw [Hc2.out]) | (at_builtin; refine wpList_push_i3 rfl (.tmp 88) (.tmp 90) rfl W.heap.size _ k fn rfl hA6.n w5.heap.size 1 b0 b1 b2 rfl (Blk.new w5 _ _) hk20.out (by omega) ?_; intro v7 w7 hN7 hb7 hs7 hat7; have hA7 := hA6.pushN hN7 hs7 hat7))
              have hz7 := hb7.size
              go_roundw
              case rel => exact ⟨k + 1, Q2, vs2, _, _, _, by have := HS2.out.1; omega, by go_num, rfl, rfl, rfl, by rw [HO3.out, HN3.out]; exact hA7, Lib.hid ⟨HW2.out.1, HW2.out.2, by have := Hle.out; omega⟩, HS2, by rw [show 201 - (k + 1) = 200 - k by omega]; exact HR2, by omega, hbr6.trans hb7⟩
              case measure => simp [intOf] <;> omega
        · obtain rfl : k = Q.length := by omega
          have Hend : Hid (RES = some Q) := Lib.hid (by rw [← HR.out, show 201 - Q.length = (200 - Q.length) + 1 by omega]; exact rowsT_end M Lt S _ _ Q (Nat.le_refl _))
          obtain ⟨oq, cq, rfl, hvc⟩ := hA.row.view
          have hSO := flO_seen hA.o HQ3
          have hSX := flN_seen hA.n HQ3
          clear hvc
          go_wp2
          go_ret3
          rw [Hend.out]
          exact ⟨_, _, rfl, hSO, hSX, below_step hbw hbr⟩
    | exit _ => exact hT.elim
    | goto _ => exact hT.elim
    | ret => exact hT.elim
    | panic _ => exact hT.elim
    | outgrown => exact hT.elim
end Go.Proofs.Ytliohokcjgcmhaa

namespace Go.Proofs.Ytliohokcjgcmhaa
open Go.RowKit

/-- The letters that are put out, k rows and x letters more. -/
def qOx (o : Nat → Nat → Int) (L k x : Nat) (q : List Nat) (i y : Nat) : Int := if (i < k ∨ i = k ∧ y < x) ∧ y < L then o (q.getD i 0) y else 0
theorem qOx_step (o : Nat → Nat → Int) (L k x : Nat) (hx : x < L) (q : List Nat) (i y : Nat) : qOx o L k (x + 1) q i y = if i = k ∧ y = x then o (q.getD k 0) x else qOx o L k x q i y := by
  unfold qOx
  by_cases h : i = k ∧ y = x
  · obtain ⟨rfl, rfl⟩ := h
    rw [if_pos ⟨.inr ⟨rfl, by omega⟩, hx⟩, if_pos ⟨rfl, rfl⟩]
  · rw [if_neg h]
    by_cases h2 : (i < k ∨ i = k ∧ y < x) ∧ y < L
    · rw [if_pos h2, if_pos ⟨by omega, h2.2⟩]
    · rw [if_neg h2, if_neg (by omega)]
theorem qOx_row (o : Nat → Nat → Int) (L k : Nat) (q : List Nat) (i y : Nat) : qOx o L k L q i y = qOx o L (k + 1) 0 q i y := by
  unfold qOx
  by_cases h : (i < k ∨ i = k ∧ y < L) ∧ y < L
  · rw [if_pos h, if_pos ⟨.inl (by omega), h.2⟩]
  · rw [if_neg h, if_neg (by omega)]
theorem qOx_all (o : Nat → Nat → Int) (L k : Nat) (q : List Nat) (i y : Nat) : qOx o L k 0 q i y = qOt o L 0 k q i y := by
  unfold qOx qOt
  by_cases h : i < k ∧ y < L
  · rw [if_pos h, if_pos ⟨.inl h.1, h.2⟩]
  · rw [if_neg h, if_neg (by omega)]
theorem qOx_grow (o : Nat → Nat → Int) (L k x : Nat) {q q' : List Nat} (h : q <+: q') (hk : k < q.length) (i y : Nat) : qOx o L k x q i y = qOx o L k x q' i y := by
  unfold qOx
  by_cases hc : (i < k ∨ i = k ∧ y < x) ∧ y < L
  · rw [if_pos hc, if_pos hc]
    obtain ⟨z, rfl⟩ := h
    have : i < q.length := by omega
    simp [List.getD, List.getElem?_append_left this]
  · rw [if_neg hc, if_neg hc]
theorem mkM_setO (L S : Int) (nx ot ot' : Nat → Nat → Int) (q x : Nat) (hq : q < 16) (hx : x < 3) (v : Int) (h : ∀ i y, i < 16 → y < 3 → ot' i y = if i = q ∧ y = x then v else ot i y) :
    (mc (mkM L S nx ot)).setIfInBounds (50 + q * 3 + x) (.int .u8 v) = mc (mkM L S nx ot') := by
  rw [show 50 + q * 3 + x = 50 + (q * 3 + x) by omega, ← mc_set_ot (M := mkM L S nx ot) (by simp [mkM]) _ (by omega)]
  unfold mkM
  congr 2
  apply List.ext_getElem
  · simp
  · intro k h1 h2
    simp only [List.getElem_set, List.getElem_map, List.getElem_range]
    have hk : k < 48 := by simpa using h2
    rw [h (k / 3) (k % 3) (by omega) (by omega)]
    by_cases e : q * 3 + x = k
    · rw [if_pos e, if_pos ⟨by omega, by omega⟩]
    · rw [if_neg e, if_neg (by omega)]
/-- The machine while it is made: k rows and x letters more; a letter more that is put out. -/
def mwP (A : Aut) (L t k x : Nat) (q : List Nat) : Mach := mkM L 0 (qNx eqN (lstN A L t) L 0 k x q) (qOx A.o L k x q)
def mwQ (A : Aut) (L t k x : Nat) (q : List Nat) : Mach := mkM L 0 (qNx eqN (lstN A L t) L 0 k x q) (qOx A.o L k (x + 1) q)
theorem mwP_size (A : Aut) (L t k x : Nat) (q : List Nat) : (mc (mwP A L t k x q)).size = 98 := by simp [mc, mwP, mkM]
theorem mwQ_size (A : Aut) (L t k x : Nat) (q : List Nat) : (mc (mwQ A L t k x q)).size = 98 := by simp [mc, mwQ, mkM]
theorem mwP_cell (A : Aut) (L t k x : Nat) (q : List Nat) {i : Nat} (hi : i < 98) : ∃ v, (mc (mwP A L t k x q))[i]? = some v := ⟨_, Array.getElem?_eq_getElem (by rw [mwP_size]; exact hi)⟩
theorem mwQ_cell (A : Aut) (L t k x : Nat) (q : List Nat) {i : Nat} (hi : i < 98) : ∃ v, (mc (mwQ A L t k x q))[i]? = some v := ⟨_, Array.getElem?_eq_getElem (by rw [mwQ_size]; exact hi)⟩
theorem mwP_zero (A : Aut) (L t : Nat) (q : List Nat) : mkM L 0 (fun _ _ => 0) (fun _ _ => 0) = mwP A L t 0 0 q := by
  unfold mwP
  refine mkM_congr _ _ _ _ _ _ fun i y _ _ => ?_
  unfold qNx qOx
  rw [if_neg (by omega), if_neg (by omega)]
  exact ⟨rfl, rfl⟩
theorem mwP_out (A : Aut) (L t k x : Nat) (hk : k < 16) (hx3 : x < 3) (hx : x < L) (q : List Nat) {r : Nat} (hr : q.getD k 0 = r) : (mc (mwP A L t k x q)).setIfInBounds (50 + k * 3 + x) (.int .u8 (A.o r x)) = mc (mwQ A L t k x q) := by
  subst hr
  exact mkM_setO _ _ _ _ _ k x hk hx3 _ fun i y _ _ => qOx_step A.o L k x hx q i y
theorem mwQ_next (A : Aut) (L t k x : Nat) (hk : k < 16) (hx3 : x < 3) (hx : x < L) (q : List Nat) {r : Nat} (hr : q.getD k 0 = r) : (mc (mwQ A L t k x q)).setIfInBounds (2 + k * 3 + x) (.int .u8 (bPos eqN q (lstN A L t r x) : Nat)) = mc (mwP A L t k (x + 1) q) := by
  subst hr
  exact mkM_setN _ _ _ _ _ k x hk hx3 _ fun i y _ _ => qNx_step k x hx q i y
theorem mwP_row (A : Aut) (L t k : Nat) (q : List Nat) : mwP A L t k L q = mwP A L t (k + 1) 0 q := by
  unfold mwP
  exact mkM_congr _ _ _ _ _ _ fun i y _ _ => ⟨qNx_row k q i y, qOx_row A.o L k q i y⟩
theorem mwP_all (A : Aut) (L t : Nat) (q : List Nat) : (mc (mwP A L t q.length 0 q)).setIfInBounds 1 (.int .i64 (q.length : Int)) = mc (qM eqN (lstN A L t) A.o L 0 q) := by
  unfold mwP qM
  rw [mkM_S]
  exact congrArg mc (mkM_congr _ _ _ _ _ _ fun i y _ _ => ⟨rfl, qOx_all A.o L _ q i y⟩)
theorem mwP_put {A : Aut} {L t k x : Nat} {q : List Nat} {p : Nat} (hk : k < q.length) (hcl : ∀ i y, (i < k ∨ i = k ∧ y < x) → y < L → bPos eqN q (lstN A L t (q.getD i 0) y) < q.length) : mwP A L t k x q = mwP A L t k x (bPut eqN q p) := by
  unfold mwP
  refine mkM_congr _ _ _ _ _ _ fun i y _ _ => ?_
  exact ⟨qNx_grow (bPut_pre q p) hk hcl i y, qOx_grow A.o L k x (bPut_pre q p) hk i y⟩
theorem built_m1 (L : Int) : Try.prog.built 27 [(0, .int .i64 L)] = some (mc (mkM L 0 (fun _ _ => 0) (fun _ _ => 0))) := by kernel_rfl
theorem aLst_first (A : Aut) (L t : Nat) : aLst A L t 0 = 0 := by have := (aLst_at A L t 0).1; omega

set_option maxRecDepth 100000 in
set_option maxHeartbeats 2000000 in
theorem l02Machine_calls (M : Mach) (L S : Nat) (hg : Good M L S) (v : Value) (z : List Int) (hz : wordOk S 80 z) (w : World) (hv : SeesI w v z) :
    Calls Try.prog 51 #[.agg (mc M), v] w fun e w' => e = .returned (.tuple #[.agg (mc (lmR M L S z)), .int .i64 (lmC M L S z)]) ∧ Below w.heap.size w w' := by
  have hzm := zero_mach
  have hok := hg.ok
  have F1 : Hid (cut (mc M) 0 98 = mc M) := Lib.hid (cut_all _ _ (mc_size hok)); have F2 : Hid (0 + 98 ≤ (mc M).size) := Lib.hid (by rw [mc_size hok]; omega)
  have HzS : Hid ((mc zeroM).size = 98) := Lib.hid (mc_size zeroM_ok)
  have hB : Blk ((w.alloc (.cells (mc M) 27)).alloc (.cells (mc zeroM) 27)) w.heap.size (mc M) 27 := (Blk.new w _ _).alloc _
  have hX : Blk ((w.alloc (.cells (mc M) 27)).alloc (.cells (mc zeroM) 27)) (w.heap.size + 1) (mc zeroM) 27 := Blk.new_at _ _ _ _ (by simp)
  have hbw0 : Below w.heap.size w ((w.alloc (.cells (mc M) 27)).alloc (.cells (mc zeroM) 27)) := by (repeat (first | exact Below.refl _ _ | refine below_drew' ?_ | refine below_drewN' ?_ _ | refine below_alloc' ?_ _ | refine below_set' ?_ (by (try simp); (try omega)) _ | refine below_step ?_ (by assumption)))
  have hvB := hv.below hbw0
  have HRo := Lib.hid (l02Rows_calls M L S hg v z hz _ hvB)
  rw [show rowsT M L S 201 0 [nf M L S z] = wqQ M L S z from rfl] at HRo
  clear hv hvB
  cases hq : wqQ M L S z with
  | none =>
    have Hl := Lib.hid (lm_none hq)
    rw [hq] at HRo
    clear hq hg hz
    go_enter Try.func51, Try.ntmps51
    go_wp2_with (first | (with_reducible show wpList _ _ _ _ _ _; refine wpList_load_blk rfl 27 (.tmp 2) rfl w.heap.size 0 rfl (mc M) _ (hB) 98 F2.out _ Try.underlying27 rfl size_mach ?_; rw [F1.out]) | (go_at_call 110; refine HRo.out.mono ?_; rintro e w3 ⟨rfl, hb3⟩; have hX3 := hX.keptAll hb3; have hbw3 := below_step hbw0 hb3; have hge3 := hbw3.size) | ((with_reducible show wpList _ _ _ _ _ _); refine wpList_store_blk rfl 27 (.tmp 4) (.tmp 26) rfl (w.heap.size + 1) 0 (mc zeroM) rfl rfl (mc zeroM) _ hX3 (by rw [HzS.out]; omega) (by rw [HzS.out]; exact size_mach) (mc_one _) ?_; intro w4 hb4 hkeep _ hbl; rw [zero_over] at hb4; have hbw4 := hbl _ _ (by omega) hbw3; clear hkeep hbl))
    exact bodyPost_cell1 rfl rfl hb4 Try.underlying27 rfl (by rw [HzS.out]; exact size_mach) rfl ⟨ret_mc Hl.out.1.symm Hl.out.2.symm, hbw4⟩
  | some R =>
    have Hl := Lib.hid (lm_some hq)
    obtain ⟨h1, h2, h3, h4⟩ := wqQ_some hg hz hq
    have hin := wqA_in h1
    have hby := wqA_bytes hg h2
    have h0 := pre_pos h4
    have hN : R.length ≤ 256 := by omega
    have hL := hg.L3
    have hcL := mc_L M
    rw [hg.hL] at hcL
    have HcL := Lib.hid hcL
    have H0 := Lib.hid h0
    rw [hq] at HRo
    have HRo2 : Hid (Calls Try.prog 110 #[.agg (mc M), v] ((w.alloc (.cells (mc M) 27)).alloc (.cells (mc zeroM) 27)) fun e w' => ∃ go co curo ga ca cura, e = .returned (.tuple #[.slice (some ⟨go, 0, none⟩) R.length co, .slice (some ⟨ga, 0, none⟩) R.length ca, .bool true]) ∧ (Blk w' go curo 22 ∧ ∀ i, i < R.length → ∀ x, x < 3 → curo[i * 3 + x]? = some (.int .u8 (rowO (wqA M L S R) L i x))) ∧ (Blk w' ga cura 125 ∧ ∀ i, i < R.length → ∀ x, x < 3 → cura[i * 3 + x]? = some (.int .i64 (rowN (wqA M L S R) L i x : Int))) ∧ Below ((w.alloc (.cells (mc M) 27)).alloc (.cells (mc zeroM) 27)).heap.size ((w.alloc (.cells (mc M) 27)).alloc (.cells (mc zeroM) 27)) w') := Lib.hid (HRo.out.mono (fun e w' h => by
      obtain ⟨ov, nv, he, ⟨go, co, curo, rfl, o1, o2⟩, ⟨ga, ca, cura, rfl, n1, n2⟩, hb⟩ := h
      exact ⟨go, co, curo, ga, ca, cura, he, ⟨o1, o2⟩, ⟨n1, n2⟩, hb⟩))
    have HSp : Hid (∀ W ov nv, SeesO W ov (wqA M L S R) L R.length → SeesX W nv (wqA M L S R) L R.length → Calls Try.prog 111 #[.int .i64 (L : Int), ov, nv] W fun e w' => ∃ t gc cc curc, e = .returned (.slice (some ⟨gc, 0, none⟩) R.length cc) ∧ AStill (wqA M L S R) L R.length t ∧ W.heap.size ≤ gc ∧ (Blk w' gc curc 2 ∧ ∀ i, i < R.length → curc[i]? = some (.int .i64 (aLst (wqA M L S R) L t i : Int))) ∧ Below W.heap.size W w') := Lib.hid (fun W ov nv ho hn => (l02Split_calls (wqA M L S R) L R.length hL H0.out hN hin hby ov nv W ho hn).mono (fun e w' h => by
      obtain ⟨hs, hbl⟩ := h
      unfold splOk at hs
      obtain ⟨v, t, rfl, hst, hO⟩ := hs
      obtain ⟨gc, cc, curc, rfl, hgc, hC, hcc⟩ := hO.opened (by rw [clsA_len]; exact H0.out)
      rw [clsA_len] at hcc ⊢
      exact ⟨t, gc, cc, curc, rfl, hst, hgc, ⟨hC, fun i hi => by rw [hcc i hi]; simp [clsA, List.getD, hi]⟩, hbl⟩))
    have Hin := Lib.hid hin
    have Hby := Lib.hid hby
    have HN := Lib.hid hN
    clear HRo hq hg hz h1 h2 h3 h4 hin hby hcL
    generalize wqA M L S R = A at *
    generalize R.length = N at *
    have hmk := mk_ints N (by omega)
    go_enter Try.func51, Try.ntmps51
    go_wp2_with (first | (with_reducible show wpList _ _ _ _ _ _; refine wpList_load_blk rfl 27 (.tmp 2) rfl w.heap.size 0 rfl (mc M) _ (hB) 98 F2.out _ Try.underlying27 rfl size_mach ?_; rw [F1.out]) | (go_at_call 110; refine HRo2.out.mono ?_; rintro e w1 ⟨go, co, curo, ga, ca, cura, rfl, hO1, hA1, hb1⟩; have hX1 := hX.keptAll hb1; have hB1 := hB.keptAll hb1; have hbw1 := below_step hbw0 hb1; have cL1 := (hB1.cell 0).trans HcL.out) | (go_at_call 111; refine (HSp.out w1 _ _ ⟨_, _, _, rfl, hO1.1, hO1.2⟩ ⟨_, _, _, rfl, hA1.1, hA1.2⟩).mono ?_; rintro e w3 ⟨t, gc, cc, curc, rfl, hst, hgc, hC3, hb3⟩))
    have Hz : Hid (∀ W, Below w3.heap.size w3 W → Blk W w.heap.size (mc M) 27 ∧ Blk W (w.heap.size + 1) (mc zeroM) 27 ∧ Blk W go curo 22 ∧ Blk W ga cura 125 ∧ Blk W gc curc 2) := Lib.hid (fun W hW => ⟨(hB1.keptAll hb3).keptAll hW, (hX1.keptAll hb3).keptAll hW, (hO1.1.keptAll hb3).keptAll hW, (hA1.1.keptAll hb3).keptAll hW, hC3.1.keptAll hW⟩)
    have Hco := Lib.hid hO1.2
    have Hca := Lib.hid hA1.2
    have Hcc := Lib.hid hC3.2
    have Hst := Lib.hid hst
    have hbw3 := below_step hbw1 hb3
    have Hbw3 := Lib.hid hbw3
    have Hlt3 : Hid (go < w3.heap.size ∧ ga < w3.heap.size ∧ gc < w3.heap.size) := Lib.hid ⟨Nat.lt_of_lt_of_le hO1.1.lt hb3.size, Nat.lt_of_lt_of_le hA1.1.lt hb3.size, hC3.1.lt⟩
    have hge3 := hbw3.size
    clear HRo2 HSp hB hX hbw0 hB1 hX1 hO1 hA1 hC3 hst hb1 hb3 hbw1 cL1 hgc hbw3
    refine wp_region_held_drew (S := fun _ => True) (by kernel_rfl) trivial (fun hS0 => ?_)
    have hbd : Below w3.heap.size w3 w3.drew := (Below.refl _ _).drew
    generalize w3.drew = wd at *
    (refine hK_take 1 (.slice (some ⟨go, 0, none⟩) N co) rfl (by kernel_rfl) (by kernel_rfl) (by kernel_rfl) (fun _ _ _ h => h) rfl (fun W _ => by go_simp) hS0 ?_; (intro K hK; go_simp; refine hK _ ?_; clear hK K))
    (refine hK_take 2 (.int .i64 (N : Int)) rfl (by kernel_rfl) (by kernel_rfl) (by kernel_rfl) (fun _ _ _ h => h) rfl (fun W _ => by go_simp) hS0 ?_; (intro K hK; go_simp; refine hK _ ?_; clear hK K))
    refine wpAnyH_ready (rs := [0, 3]) (by kernel_rfl) (by simp) ?_
    refine AllReadyH.cons rfl (fun K hK => ?_) (AllReadyH.cons rfl (fun K hK => ?_) AllReadyH.nil)
    · go_simp
      refine hK.out _ _ trivial (fun hS1 => ?_)
      clear hK K
      (refine hK_take 4 (.slice (some ⟨wd.heap.size, 0, none⟩) 1 1) rfl (by kernel_rfl) (by kernel_rfl) (by kernel_rfl) (fun _ _ _ h => h) rfl (fun W _ => by go_simp) hS1 ?_; (intro K hK; go_simp; refine hK _ ?_; clear hK K))
      refine wpAnyH_ready (rs := [3]) (by kernel_rfl) (by simp) ?_
      refine AllReadyH.cons rfl (fun K hK => ?_) AllReadyH.nil
      go_simp
      refine hK.out _ _ trivial (fun hS2 => ?_)
      clear hK K
      (refine hK_take 5 (.slice (some ⟨wd.heap.size + 1, 0, none⟩) N N) rfl (by kernel_rfl) (by kernel_rfl) (by kernel_rfl) (fun _ _ _ h => h) rfl (fun W _ => by go_simp) hS2 ?_; (intro K hK; go_simp; refine hK _ ?_; clear hK K))
      refine wpAnyH_done (by kernel_rfl) ?_ _
      have hQ0 : Blk ((wd.alloc (.cells #[.int .i64 0] 2)).alloc (.cells (ints (List.replicate N 0)) 2)) wd.heap.size #[.int .i64 0] 2 := (Blk.new wd _ _).alloc _
      have hN0 : Blk ((wd.alloc (.cells #[.int .i64 0] 2)).alloc (.cells (ints (List.replicate N 0)) 2)) (wd.heap.size + 1) (ints (nbZ N 0)) 2 := by rw [nbZ_zero]; exact Blk.new_at _ _ _ _ (by simp)
      have hb4 := below_allocB (below_allocB hbd hbd.size (.cells #[.int .i64 0] 2)) (by have := hbd.size; simp; omega) (.cells (ints (List.replicate N 0)) 2)
      have hgq : w3.heap.size ≤ wd.heap.size := hbd.size
      clear hS0 hS1 hS2 hmk
      generalize (wd.alloc (.cells #[.int .i64 0] 2)).alloc (.cells (ints (List.replicate N 0)) 2) = w4 at *
      obtain ⟨gn, hgn⟩ : ∃ g, wd.heap.size + 1 = g := ⟨_, rfl⟩
      obtain ⟨gq, hgq2⟩ : ∃ g, wd.heap.size = g := ⟨_, rfl⟩
      rw [hgn] at hN0 ⊢
      rw [hgq2] at hQ0 hgq ⊢
      have Hne : Hid (gq ≠ gn) := Lib.hid (by omega)
      have hgn3 : w3.heap.size ≤ gn := by omega
      clear hgn hgq2 hbd
      have hltQ0 := hQ0.lt
      have hltN0 := hN0.lt
      go_wp2
      go_loopw [12] (fun i wr => ∃ k : Nat, k ≤ N ∧ i = .int .i64 k ∧ Blk wr gq #[.int .i64 0] 2 ∧ Blk wr gn (ints (nbZ N k)) 2 ∧ Below w3.heap.size w3 wr) (fun i _ => N - (intOf i).toNat)
      case atStart => exact ⟨0, by omega, rfl, hQ0, hN0, hb4⟩
      case round =>
        clear hQ0 hN0 hb4
        obtain ⟨k, hk, rfl, hQ, hNb, hbw⟩ := hrel
        by_cases hkl : k < N
        · have hki : (k : Int) < (N : Int) := by omega
          have hold := ints_at (nbZ N k) k (by rw [nbZ_len]; omega)
          generalize (nbZ N k).getD k 0 = oldn at hold
          have cN := (hNb.cell k).trans hold
          have fN := hNb.free k
          have hN2 := hNb.set k (.int .i64 (-1))
          rw [← ints_set, nbZ_set] at hN2
          have hQ2 := hQ.setOther gn k (.int .i64 (-1)) Hne.out
          have hbw2 := below_set' (o := k) hbw (b := gn) hgn3 (.int .i64 (-1))
          clear hold
          go_wp2
          go_roundw
          case rel => exact ⟨k + 1, by omega, by go_num, hQ2, hN2, hbw2⟩
          case measure => simp [intOf] <;> omega
        · obtain rfl : N = k := by omega
          rw [nbZ_all] at hNb
          have hN0i : (0 : Int) < (N : Int) := by have := H0.out; omega
          have cN := (hNb.cell 0).trans (nbL_new (q := []) H0.out (by simp))
          have fN := hNb.free 0
          have hN5 := hNb.set 0 (.int .i64 0)
          rw [← ints_set, show (nbL N []).set 0 (0 : Int) = nbL N (bAll eqN (lstN A L t) L 0 0) from nbL_put N [] 0 (by simp)] at hN5
          have hQ5 := hQ.setOther gn 0 (.int .i64 0) Hne.out
          have hbw5 := below_set' (o := 0) hbw (b := gn) hgn3 (.int .i64 0)
          have cL5 := ((Hz.out _ hbw5).1.cell 0).trans HcL.out
          have hX5 : Blk ((wr.setCell ⟨gn, 0, none⟩ (.int .i64 0)).alloc (.cells (mc zeroM) 27)) wr.heap.size (mc zeroM) 27 := Blk.new_at _ _ _ _ (by simp)
          have hQ6 := hQ5.alloc (.cells (mc zeroM) 27)
          have hN6 := hN5.alloc (.cells (mc zeroM) 27)
          have hbw6 := below_alloc' hbw5 (.cells (mc zeroM) 27)
          have hgx3 : w3.heap.size ≤ wr.heap.size := hbw.size
          have hgqx := hQ.lt
          have hgnx := hNb.lt
          have Hbt : Hid (Try.prog.built 27 [(0, .int .i64 (L : Int))] = some (mc (mwP A L t 0 0 (bAll eqN (lstN A L t) L 0 0)))) := Lib.hid (by rw [← mwP_zero A L t (bAll eqN (lstN A L t) L 0 0)]; exact built_m1 _)
          have HsP := Lib.hid (fun k x q => mwP_size A L t k x q)
          have G1 : Hid (0 + (mc (mwP A L t 0 0 (bAll eqN (lstN A L t) L 0 0))).size ≤ (mc zeroM).size) := Lib.hid (by rw [HzS.out, mwP_size]; omega)
          have G2 : Hid ((Try.prog.info? 27).map (·.size) = some (mc (mwP A L t 0 0 (bAll eqN (lstN A L t) L 0 0))).size) := Lib.hid (by rw [mwP_size]; exact size_mach)
          have G4 : Hid (over (mc zeroM) 0 (mc (mwP A L t 0 0 (bAll eqN (lstN A L t) L 0 0))) = mc (mwP A L t 0 0 (bAll eqN (lstN A L t) L 0 0))) := Lib.hid (over_all _ _ (by rw [HzS.out, mwP_size]))
          clear hQ hNb hbw hN5 hQ5 hbw5
          go_wp2_with (first | ((with_reducible show wpList _ _ _ _ _ _); refine wpList_build1 rfl 27 0 (.tmp 48) rfl (.int .i64 (L : Int)) rfl (mc (mwP A L t 0 0 (bAll eqN (lstN A L t) L 0 0))) Hbt.out ?_) | ((with_reducible show wpList _ _ _ _ _ _); refine wpList_store_blk rfl 27 (.tmp 13) (.tmp 49) rfl wr.heap.size 0 (mc (mwP A L t 0 0 (bAll eqN (lstN A L t) L 0 0))) rfl rfl (mc zeroM) 27 hX5 G1.out G2.out (mc_one _) ?_; intro w7 hb7 hkeep _ hbl; rw [G4.out] at hb7; have hQ7 := hkeep gq _ _ (by omega) hQ6; have hN7 := hkeep gn _ _ (by omega) hN6; have hbw7 := hbl _ _ hgx3 hbw6; clear hkeep hbl))
          obtain ⟨gx, hgx⟩ : ∃ g, wr.heap.size = g := ⟨_, rfl⟩
          rw [hgx] at hb7 hgx3 hgqx hgnx ⊢
          have Hgx : Hid (w3.heap.size ≤ gx) := Lib.hid hgx3
          have Hnx : Hid (gn ≠ gx) := Lib.hid (by omega)
          have Hox : Hid (go ≠ gx) := Lib.hid (by have := Hlt3.out.1; omega)
          clear hgx hX5 hQ6 hN6 hbw6 cN fN cL5 Hbt G1 G2 G4
          have hO7 : OwnI w7 w3.heap.size (.slice (some ⟨gq, 0, none⟩) 1 1) (quI (bAll eqN (lstN A L t) L 0 0)) := OwnI.made (zs := [0]) rfl (by unfold maxLen; omega) hgq hQ7
          have hv7 : Hid ((Value.slice (some ⟨gq, 0, none⟩) 1 1).ownBlock ≠ some gn ∧ (Value.slice (some ⟨gq, 0, none⟩) 1 1).ownBlock ≠ some gx) := Lib.hid ⟨by simp [Value.ownBlock]; exact Hne.out, by simp [Value.ownBlock]; omega⟩
          have hlstN : ∀ p, p < N → ∀ x, x < L → lstN A L t p x < N := fun p hpN x hx => by
            have h1 := (aLst_at A L t (A.n p x)).1
            have h2 := Hin.out p x hpN hx
            show aLst A L t (A.n p x) < N
            omega
          have HqN := Lib.hid (fun k => bAll_all (E := eqN) (n := lstN A L t) (fun p => p < N) L hlstN 0 H0.out k)
          have Hfew : Hid (∀ k, (bAll eqN (lstN A L t) L 0 k).length ≤ N) := Lib.hid (fun k => few_points eqN_eq.refl (bAll_new eqN_eq L 0 k) (HqN.out k))
          have HlN := Lib.hid hlstN
          have Hlen : Hid ((bAll eqN (lstN A L t) L 0 256).length = (setQ A L 0).length) := Lib.hid (by
            have := lstQ_len Hin.out HN.out Hst.out H0.out 256
            rw [aLst_first] at this
            exact this)
          have Hmach : Hid (qM eqN (lstN A L t) A.o L 0 (bAll eqN (lstN A L t) L 0 256) = setM A L 0) := Lib.hid (by
            have := lstQ_mach Hin.out HN.out Hst.out H0.out
            rw [aLst_first] at this
            exact this)
          clear hlstN hQ7
          go_loopw [10, 14] (fun qv i wr => ∃ (k : Nat) (v : Value), k ≤ 16 ∧ k ≤ (bAll eqN (lstN A L t) L 0 k).length ∧ i = .int .i64 k ∧ v = qv ∧ OwnI wr w3.heap.size v (quI (bAll eqN (lstN A L t) L 0 k)) ∧ Hid (v.ownBlock ≠ some gn ∧ v.ownBlock ≠ some gx) ∧ Blk wr gn (ints (nbL N (bAll eqN (lstN A L t) L 0 k))) 2 ∧ Blk wr gx (mc (mwP A L t k 0 (bAll eqN (lstN A L t) L 0 k))) 27 ∧ Below w3.heap.size w3 wr) (fun _ i _ => 17 - (intOf i).toNat)
          case atStart => exact ⟨0, _, by omega, Nat.zero_le _, rfl, rfl, hO7, hv7, hN7, hb7, hbw7⟩
          case round =>
            clear hO7 hv7 hN7 hb7 hbw7
            obtain ⟨k, v, hk, hkq, rfl, rfl, hO, Hv, hNb, hX, hbw⟩ := hrel
            have hlenN := Hfew.out k
            by_cases hlt : k < (bAll eqN (lstN A L t) L 0 k).length
            · obtain ⟨oq, cq, rfl, _⟩ := hO.view
              rw [quI_len] at *
              have hli : (k : Int) < ((bAll eqN (lstN A L t) L 0 k).length : Int) := by omega
              by_cases h16 : k = 16
              · have hk16b : ((k : Int) == 16) = true := by simp; omega
                have Hlong : Hid (¬ (setQ A L 0).length ≤ 16) := Lib.hid (fun h => by
                  have := (bAll_pre (E := eqN) (n := lstN A L t) L 0 (show k ≤ 256 by omega)).length_le
                  rw [← Hlen.out] at h
                  omega)
                clear h16
                have Hr : Hid (mkR A L 0 = zeroM ∧ mkC A L 0 = 3) := Lib.hid (by unfold mkR mkC; rw [if_neg Hlong.out, if_neg Hlong.out]; exact ⟨rfl, rfl⟩)
                have hR := (Hz.out _ hbw).2.1
                have hbwz := Hbw3.out.trans (below_le hbw hge3)
                go_wp2_with ((with_reducible show wpList _ _ _ _ _ _); refine wpList_store_blk rfl 27 (.tmp 4) (.tmp 58) rfl (w.heap.size + 1) 0 (mc zeroM) rfl rfl (mc zeroM) _ hR (by rw [HzS.out]; omega) (by rw [HzS.out]; exact size_mach) (mc_one _) ?_; intro w4 hb4 hkeep _ hbl; rw [zero_over] at hb4; have hbw4 := hbl w.heap.size w (by omega) hbwz; clear hkeep hbl)
                exact bodyPost_cell1 rfl rfl hb4 Try.underlying27 rfl (by rw [HzS.out]; exact size_mach) rfl ⟨ret_mc (by rw [Hl.out.1, Hr.out.1]) (by rw [Hl.out.2, Hr.out.2]), hbw4⟩
              · have hk16 : k < 16 := by omega
                have hk16i : (k : Int) < 16 := by omega
                have hk16b : ((k : Int) == 16) = false := by simp; omega
                have hkN : k < N := by omega
                have hb46 : (bAll eqN (lstN A L t) L 0 k).length ≤ 46 := by
                  have h1 := bAll_len (E := eqN) (n := lstN A L t) L 0 k
                  have h2 : L * k ≤ 3 * 15 := Nat.mul_le_mul hL (by omega)
                  omega
                have Hstep := Lib.hid (bAll_step (E := eqN) (n := lstN A L t) L 0 k hlt)
                have hrN := HqN.out k _ (List.getElem_mem hlt)
                have Hcl := Lib.hid (fun x => cur_closed (E := eqN) (n := lstN A L t) (d := 0) eqN_eq.refl hlt x)
                obtain ⟨r, hr⟩ : ∃ r, (bAll eqN (lstN A L t) L 0 k)[k] = r := ⟨_, rfl⟩
                rw [hr] at Hstep hrN Hcl
                have Hgt : Hid (∀ x, (bRow eqN (lstN A L t) (bAll eqN (lstN A L t) L 0 k) r x).getD k 0 = r ∧ (bAll eqN (lstN A L t) L 0 k).length ≤ (bRow eqN (lstN A L t) (bAll eqN (lstN A L t) L 0 k) r x).length) := Lib.hid (fun x => by
                  obtain ⟨z, hz⟩ := bRow_pre (E := eqN) (n := lstN A L t) (bAll eqN (lstN A L t) L 0 k) r x
                  rw [← hz]
                  simp [List.getD, List.getElem?_append_left hlt, List.getElem?_eq_getElem hlt, hr])
                have Hle := Lib.hid (fun x => bRow_len (E := eqN) (n := lstN A L t) (bAll eqN (lstN A L t) L 0 k) r x)
                clear hr
                have hO0 : OwnI wr w3.heap.size (.slice oq (bAll eqN (lstN A L t) L 0 k).length cq) (quI (bRow eqN (lstN A L t) (bAll eqN (lstN A L t) L 0 k) r 0)) := hO
                have hN0 : Blk wr gn (ints (nbL N (bRow eqN (lstN A L t) (bAll eqN (lstN A L t) L 0 k) r 0))) 2 := hNb
                have hX0 : Blk wr gx (mc (mwP A L t k 0 (bRow eqN (lstN A L t) (bAll eqN (lstN A L t) L 0 k) r 0))) 27 := hX
                go_wp2
                clear hO hNb hX hli
                go_loopw [10, 15] (fun qv xv wr => ∃ (x : Nat) (v : Value), x ≤ L ∧ xv = .int .i64 x ∧ v = qv ∧ OwnI wr w3.heap.size v (quI (bRow eqN (lstN A L t) (bAll eqN (lstN A L t) L 0 k) r x)) ∧ Hid (v.ownBlock ≠ some gn ∧ v.ownBlock ≠ some gx) ∧ Blk wr gn (ints (nbL N (bRow eqN (lstN A L t) (bAll eqN (lstN A L t) L 0 k) r x))) 2 ∧ Blk wr gx (mc (mwP A L t k x (bRow eqN (lstN A L t) (bAll eqN (lstN A L t) L 0 k) r x))) 27 ∧ Below w3.heap.size w3 wr) (fun _ xv _ => L - (intOf xv).toNat)
                case atStart => exact ⟨0, _, by omega, rfl, rfl, hO0, Hv, hN0, hX0, hbw⟩
                case round =>
                  clear hO0 hN0 hX0 hbw Hv
                  obtain ⟨x, v, hx, rfl, rfl, hO, Hv, hNb, hX, hbw⟩ := hrel
                  have cL := ((Hz.out _ hbw).1.cell 0).trans HcL.out
                  obtain ⟨hg1, hg2⟩ := Hgt.out x
                  by_cases hxl : x < L
                  · have hxi : (x : Int) < (L : Int) := by omega
                    have hx3 : x < 3 := by omega
                    have hx3i : (x : Int) < 3 := by omega
                    have hle := Hle.out x
                    have hto := HlN.out r hrN x hxl
                    have hnr := Hin.out r x hrN hxl
                    have Hrow : Hid (bRow eqN (lstN A L t) (bAll eqN (lstN A L t) L 0 k) r (x + 1) = bPut eqN (bRow eqN (lstN A L t) (bAll eqN (lstN A L t) L 0 k) r x) (lstN A L t r x)) := Lib.hid rfl
                    have Hput := Lib.hid (mwP_put (A := A) (L := L) (t := t) (k := k) (x := x) (q := bRow eqN (lstN A L t) (bAll eqN (lstN A L t) L 0 k) r x) (p := lstN A L t r x) (by omega) (fun i y h hy => Hcl.out x i y h hy))
                    have cc1 := Hcc.out (A.n r x) hnr
                    rw [show aLst A L t (A.n r x) = lstN A L t r x from rfl] at cc1
                    obtain ⟨gq2, cq2, curq2, rfl, hgq2, hQ, hqc⟩ := hO.opened (by rw [quI_len]; omega)
                    have hqk := hqc k (by rw [quI_len]; omega)
                    rw [show (quI (bRow eqN (lstN A L t) (bAll eqN (lstN A L t) L 0 k) r x)).getD k 0 = (r : Int) from by rw [quI_getD, hg1]] at hqk
                    have Hqk := Lib.hid hqk
                    have Hcc1 := Lib.hid cc1
                    have Hg1 := Lib.hid hg1
                    clear hqc hqk cc1 hg1
                    rw [quI_len] at hO Hv ⊢
                    have hkx : (k : Int) < ((bRow eqN (lstN A L t) (bAll eqN (lstN A L t) L 0 k) r x).length : Int) := by omega
                    have hrNi : (r : Int) < (N : Int) := by omega
                    have hnri : (A.n r x : Int) < (N : Int) := by omega
                    have htoi : (lstN A L t r x : Int) < (N : Int) := by omega
                    have cQ := (hQ.cell k).trans Hqk.out
                    have n1 := Hca.out r hrN x hx3
                    rw [show rowN A L r x = A.n r x from if_pos hxl] at n1
                    have o1 := Hco.out r hrN x hx3
                    rw [show rowO A L r x = A.o r x from if_pos hxl] at o1
                    have Ho1 := Lib.hid o1
                    have cn1 := ((Hz.out _ hbw).2.2.2.1.cell (r * 3 + x)).trans n1
                    have cc1 := ((Hz.out _ hbw).2.2.2.2.cell (A.n r x)).trans Hcc1.out
                    have Hout := Lib.hid (fun q hq => mwP_out A L t k x hk16 hx3 hxl q (r := r) hq)
                    have Hnxq := Lib.hid (fun q hq => mwQ_next A L t k x hk16 hx3 hxl q (r := r) hq)
                    clear n1 o1
                    have hltN := hNb.lt
                    have hltQ := hQ.lt
                    have hltX := hX.lt
                    have hlq : (bRow eqN (lstN A L t) (bAll eqN (lstN A L t) L 0 k) r x).length ≤ 50 := by omega
                    generalize lstN A L t r x = tq at *
                    generalize A.n r x = nr at *
                    generalize (bRow eqN (lstN A L t) (bAll eqN (lstN A L t) L 0 k) r x) = qx at *
                    by_cases hin : bPos eqN qx tq < qx.length
                    · have cN := (hNb.cell tq).trans (nbL_old hto hin)
                      have hnn : ¬ ((bPos eqN qx tq : Int) < 0) := by omega
                      have Hq' := Lib.hid (Hrow.out.trans (bPut_old hin))
                      have Hnb := Lib.hid (nbL_old hto hin)
                      have Hnxt := Lib.hid (Hnxq.out qx Hg1.out)
                      have HgtQ := Hg1
                      have HqkQ := Hqk
                      have HvQ := Hv
                      have Hqx : Hid (gq2 ≠ gx) := Lib.hid (fun e => Hv.out.2 (by simp [Value.ownBlock]; exact e))
                      have hps : bPos eqN qx tq ≤ 50 := by omega
                      have hw8 : IntKind.u8.wrap (bPos eqN qx tq : Int) = (bPos eqN qx tq : Int) := by simp [IntKind.wrap, IntKind.bits, IntKind.signed]; omega
                      clear hin Hput Hnxq Hg1 Hqk
                      generalize bPos eqN qx tq = ps at *
                      go_wp2
                      have hX8 := hX
                      have hbw8 := hbw
                      have hQ8 := hQ
                      have hN8 := hNb
                      have hO8 := hO
                      clear hX hbw hQ hNb hO cL cQ cn1 cc1 cN
                      obtain ⟨w8, rfl⟩ : ∃ x, x = wr := ⟨_, rfl⟩
                      have hXd := hX8.drew
                      have hbd := below_drew' hbw8
                      have hQd := hQ8.drew
                      have hNd := hN8.drew
                      have hOd := hO8.below (w1 := w8.drew) (Below.refl _ _).drew
                      obtain ⟨old1, hcs1⟩ := mwP_cell A L t k x qx (i := 50 + k * 3 + x) (by omega)
                      have Hcs2 := Lib.hid (mwQ_cell A L t k x qx (i := 2 + k * 3 + x) (by omega))
                      clear hX8 hbw8 hQ8 hN8 hO8
                      go_wp2
                      refine wp_region_held_drew (S := fun W => (Blk W gq2 curq2 2 ∧ Blk W go curo 22) ∧ Below w3.heap.size w3 W) (by kernel_rfl) ⟨⟨hQd, (Hz.out _ hbd).2.2.1⟩, hbd⟩ (fun hS0 => ?_)
                      generalize w8.drew = wd at *
                      have cS := (hXd.cell (50 + k * 3 + x)).trans hcs1
                      have fS := hXd.free (50 + k * 3 + x)
                      have hX5 := hXd.set (50 + k * 3 + x) (.int .u8 (A.o r x))
                      rw [Hout.out qx HgtQ.out] at hX5
                      have hb5 := below_set' (o := 50 + k * 3 + x) hbd (b := gx) Hgx.out (.int .u8 (A.o r x))
                      (refine hK_take 0 (.int .i64 (k : Int)) rfl (by kernel_rfl) (by kernel_rfl) (by kernel_rfl) (fun _ _ _ h => h) rfl (fun W _ => by go_simp) hS0 ?_; (intro K hK; go_simp; refine hK _ ?_; clear hK K))
                      (refine hK_take 1 (.int .i64 (x : Int)) rfl (by kernel_rfl) (by kernel_rfl) (by kernel_rfl) (fun _ _ _ h => h) rfl (fun W _ => by go_simp) hS0 ?_; (intro K hK; go_simp; refine hK _ ?_; clear hK K))
                      (refine hK_take 2 (.slice (some ⟨go, 0, none⟩) N co) rfl (by kernel_rfl) (by kernel_rfl) (by kernel_rfl) (fun _ _ _ h => h) rfl (fun W _ => by go_simp) hS0 ?_; (intro K hK; go_simp; refine hK _ ?_; clear hK K))
                      (refine hK_take 3 (.slice (some ⟨gq2, 0, none⟩) qx.length cq2) rfl (by kernel_rfl) (by kernel_rfl) (by kernel_rfl) (fun _ _ _ h => h) rfl (fun W _ => by go_simp) hS0 ?_; (intro K hK; go_simp; refine hK _ ?_; clear hK K))
                      (refine hK_take 4 (.int .i64 (k : Int)) rfl (by kernel_rfl) (by kernel_rfl) (by kernel_rfl) (fun _ _ _ h => h) rfl (fun W _ => by go_simp) hS0 ?_; (intro K hK; go_simp; refine hK _ ?_; clear hK K))
                      (refine hK_take 5 (.pointer (some ⟨gq2, k, none⟩)) rfl (by kernel_rfl) (by kernel_rfl) (by kernel_rfl) (fun _ _ _ h => h) rfl (fun W _ => by go_simp) hS0 ?_; (intro K hK; go_simp; refine hK _ ?_; clear hK K))
                      (refine hK_take 6 (.int .i64 (r : Int)) rfl (by kernel_rfl) (by kernel_rfl) (by kernel_rfl) (fun _ _ _ h => h) rfl (fun W hW => by have cC := (hW.1.1.cell k).trans HqkQ.out; clear hW; go_simp) hS0 ?_; (intro K hK; go_simp; refine hK _ ?_; clear hK K))
                      (refine hK_take 7 (.int .i64 (x : Int)) rfl (by kernel_rfl) (by kernel_rfl) (by kernel_rfl) (fun _ _ _ h => h) rfl (fun W _ => by go_simp) hS0 ?_; (intro K hK; go_simp; refine hK _ ?_; clear hK K))
                      (refine hK_take 8 (.pointer (some ⟨go, r * 3, none⟩)) rfl (by kernel_rfl) (by kernel_rfl) (by kernel_rfl) (fun _ _ _ h => h) rfl (fun W _ => by go_simp) hS0 ?_; (intro K hK; go_simp; refine hK _ ?_; clear hK K))
                      (refine hK_take 9 (.pointer (some ⟨go, r * 3 + x, none⟩)) rfl (by kernel_rfl) (by kernel_rfl) (by kernel_rfl) (fun _ _ _ h => h) rfl (fun W _ => by go_simp) hS0 ?_; (intro K hK; go_simp; refine hK _ ?_; clear hK K))
                      (refine hK_take 10 (.int .u8 (A.o r x)) rfl (by kernel_rfl) (by kernel_rfl) (by kernel_rfl) (fun _ _ _ h => h) rfl (fun W hW => by have cC := (hW.1.2.cell (r * 3 + x)).trans Ho1.out; clear hW; go_simp) hS0 ?_; (intro K hK; go_simp; refine hK _ ?_; clear hK K))
                      (refine hK_take 11 (.pointer (some ⟨gx, 50, none⟩)) rfl (by kernel_rfl) (by kernel_rfl) (by kernel_rfl) (fun _ _ _ h => h) rfl (fun W _ => by go_simp) hS0 ?_; (intro K hK; go_simp; refine hK _ ?_; clear hK K))
                      (refine hK_take 12 (.pointer (some ⟨gx, 50 + k * 3, none⟩)) rfl (by kernel_rfl) (by kernel_rfl) (by kernel_rfl) (fun _ _ _ h => h) rfl (fun W _ => by go_simp) hS0 ?_; (intro K hK; go_simp; refine hK _ ?_; clear hK K))
                      (refine hK_take 13 (.pointer (some ⟨gx, 50 + k * 3 + x, none⟩)) rfl (by kernel_rfl) (by kernel_rfl) (by kernel_rfl) (fun _ _ _ h => h) rfl (fun W _ => by go_simp) hS0 ?_; (intro K hK; go_simp; refine hK _ ?_; clear hK K))
                      refine wpAnyH_ready (rs := [14]) (by kernel_rfl) (by simp) ?_
                      refine AllReadyH.cons rfl (fun K hK => ?_) AllReadyH.nil
                      go_simp
                      refine hK.out _ _ ⟨⟨hQd.setOther _ _ _ Hqx.out, hS0.1.2.setOther _ _ _ Hox.out⟩, hb5⟩ (fun hS1 => ?_)
                      clear hK K
                      refine wpAnyH_done (by kernel_rfl) ?_ _
                      have hN5 := hNd.setOther gx (50 + k * 3 + x) (.int .u8 (A.o r x)) Hnx.out
                      have hO5 := hOd.still (w1 := wd.setCell ⟨gx, 50 + k * 3 + x, none⟩ (.int .u8 (A.o r x))) (fun q hq => Below.heap_setCell _ _ _ q (fun e => HvQ.out.2 ((show q = gx from e) ▸ hq)))
                      clear hS0 hS1 cS fS hXd hbd hQd hNd hOd
                      generalize wd.setCell ⟨gx, 50 + k * 3 + x, none⟩ (.int .u8 (A.o r x)) = w9 at *
                      go_wp2
                      have hXd := hX5.drew
                      have hbd := below_drew' hb5
                      have hNd := hN5.drew
                      have hOd := hO5.below (w1 := w9.drew) (Below.refl _ _).drew
                      clear hX5 hb5 hN5 hO5
                      refine wp_region_held_drew (S := fun W => Blk W gn (ints (nbL N qx)) 2) (by kernel_rfl) hNd (fun hS0 => ?_)
                      generalize w9.drew = we at *
                      obtain ⟨old2, hcs2⟩ := Hcs2.out
                      have cS := (hXd.cell (2 + k * 3 + x)).trans hcs2
                      have fS := hXd.free (2 + k * 3 + x)
                      have hX6 := hXd.set (2 + k * 3 + x) (.int .u8 (ps : Int))
                      rw [Hnxt.out] at hX6
                      have hb6 := below_set' (o := 2 + k * 3 + x) hbd (b := gx) Hgx.out (.int .u8 (ps : Int))
                      (refine hK_take 0 (.int .i64 (k : Int)) rfl (by kernel_rfl) (by kernel_rfl) (by kernel_rfl) (fun _ _ _ h => h) rfl (fun W _ => by go_simp) hS0 ?_; (intro K hK; go_simp; refine hK _ ?_; clear hK K))
                      (refine hK_take 1 (.int .i64 (x : Int)) rfl (by kernel_rfl) (by kernel_rfl) (by kernel_rfl) (fun _ _ _ h => h) rfl (fun W _ => by go_simp) hS0 ?_; (intro K hK; go_simp; refine hK _ ?_; clear hK K))
                      (refine hK_take 2 (.slice (some ⟨gn, 0, none⟩) N N) rfl (by kernel_rfl) (by kernel_rfl) (by kernel_rfl) (fun _ _ _ h => h) rfl (fun W _ => by go_simp) hS0 ?_; (intro K hK; go_simp; refine hK _ ?_; clear hK K))
                      (refine hK_take 3 (.int .i64 (tq : Int)) rfl (by kernel_rfl) (by kernel_rfl) (by kernel_rfl) (fun _ _ _ h => h) rfl (fun W _ => by go_simp) hS0 ?_; (intro K hK; go_simp; refine hK _ ?_; clear hK K))
                      (refine hK_take 4 (.pointer (some ⟨gn, tq, none⟩)) rfl (by kernel_rfl) (by kernel_rfl) (by kernel_rfl) (fun _ _ _ h => h) rfl (fun W _ => by go_simp) hS0 ?_; (intro K hK; go_simp; refine hK _ ?_; clear hK K))
                      (refine hK_take 5 (.int .i64 (ps : Int)) rfl (by kernel_rfl) (by kernel_rfl) (by kernel_rfl) (fun _ _ _ h => h) rfl (fun W hW => by have cC := (hW.cell tq).trans Hnb.out; clear hW; go_simp) hS0 ?_; (intro K hK; go_simp; refine hK _ ?_; clear hK K))
                      (refine hK_take 6 (.int .u8 (ps : Int)) rfl (by kernel_rfl) (by kernel_rfl) (by kernel_rfl) (fun _ _ _ h => h) rfl (fun W _ => by go_simp) hS0 ?_; (intro K hK; go_simp; refine hK _ ?_; clear hK K))
                      (refine hK_take 7 (.pointer (some ⟨gx, 2, none⟩)) rfl (by kernel_rfl) (by kernel_rfl) (by kernel_rfl) (fun _ _ _ h => h) rfl (fun W _ => by go_simp) hS0 ?_; (intro K hK; go_simp; refine hK _ ?_; clear hK K))
                      (refine hK_take 8 (.pointer (some ⟨gx, 2 + k * 3, none⟩)) rfl (by kernel_rfl) (by kernel_rfl) (by kernel_rfl) (fun _ _ _ h => h) rfl (fun W _ => by go_simp) hS0 ?_; (intro K hK; go_simp; refine hK _ ?_; clear hK K))
                      (refine hK_take 9 (.pointer (some ⟨gx, 2 + k * 3 + x, none⟩)) rfl (by kernel_rfl) (by kernel_rfl) (by kernel_rfl) (fun _ _ _ h => h) rfl (fun W _ => by go_simp) hS0 ?_; (intro K hK; go_simp; refine hK _ ?_; clear hK K))
                      refine wpAnyH_ready (rs := [10]) (by kernel_rfl) (by simp) ?_
                      refine AllReadyH.cons rfl (fun K hK => ?_) AllReadyH.nil
                      go_simp
                      have hN6 := hNd.setOther gx (2 + k * 3 + x) (.int .u8 (ps : Int)) Hnx.out
                      refine hK.out _ _ hN6 (fun hS1 => ?_)
                      clear hK K
                      refine wpAnyH_done (by kernel_rfl) ?_ _
                      have hO6 := hOd.still (w1 := we.setCell ⟨gx, 2 + k * 3 + x, none⟩ (.int .u8 (ps : Int))) (fun q hq => Below.heap_setCell _ _ _ q (fun e => HvQ.out.2 ((show q = gx from e) ▸ hq)))
                      clear hS0 hS1 cS fS hXd hbd hNd hOd
                      go_wp2
                      go_roundw
                      case rel => exact ⟨x + 1, _, by omega, by go_num, rfl, by rw [Hq'.out]; exact hO6, HvQ, by rw [Hq'.out]; exact hN6, by rw [Hq'.out]; exact hX6, hb6⟩
                      case measure => simp [intOf] <;> omega
                    · have cN := (hNb.cell tq).trans (nbL_new hto hin)
                      have fN := hNb.free tq
                      have Hq' := Lib.hid (Hrow.out.trans (bPut_new hin))
                      rw [bPut_new hin] at Hput
                      have hput := nbL_put N qx tq hin
                      have hpos : bPos eqN (qx ++ [tq]) tq = qx.length := bPos_new qx tq (beq_self_eq_true tq) hin
                      have Hnb : Hid ((ints (nbL N (qx ++ [tq])))[tq]? = some (.int .i64 (qx.length : Int))) := Lib.hid (by
                        have := nbL_old (q := qx ++ [tq]) hto (by rw [hpos]; simp)
                        rw [hpos] at this
                        exact this)
                      have HgtQ : Hid ((qx ++ [tq]).getD k 0 = r) := Lib.hid (by
                        have := Hg1.out
                        simp only [List.getD] at this ⊢
                        rw [List.getElem?_append_left (by omega)]
                        exact this)
                      have Hnxt := Lib.hid (Hnxq.out (qx ++ [tq]) HgtQ.out)
                      rw [hpos] at Hnxt
                      have hw8 : IntKind.u8.wrap (qx.length : Int) = (qx.length : Int) := by simp [IntKind.wrap, IntKind.bits, IntKind.signed]; omega
                      have hN7 := hNb.set tq (.int .i64 (qx.length : Int))
                      rw [← ints_set, hput] at hN7
                      have hX7 := hX.setOther gn tq (.int .i64 (qx.length : Int)) (Ne.symm Hnx.out)
                      have hO7 := hO.still (w1 := wr.setCell ⟨gn, tq, none⟩ (.int .i64 (qx.length : Int))) (fun q hq => Below.heap_setCell _ _ _ q (fun e => Hv.out.1 ((show q = gn from e) ▸ hq)))
                      have hbw7 := below_set' (o := tq) hbw (b := gn) hgn3 (.int .i64 (qx.length : Int))
                      have hal := (Below.refl (wr.setCell ⟨gn, tq, none⟩ (.int .i64 (qx.length : Int))).heap.size (wr.setCell ⟨gn, tq, none⟩ (.int .i64 (qx.length : Int)))).alloc (Nat.le_refl _) (.cells #[.int .i64 (tq : Int)] 2)
                      have hNa := hN7.keptAll hal
                      have hXa := hX7.keptAll hal
                      have hOa := hO7.below hal
                      have hbwa := below_step hbw7 hal
                      have hZa : Blk ((wr.setCell ⟨gn, tq, none⟩ (.int .i64 (qx.length : Int))).alloc (.cells #[.int .i64 (tq : Int)] 2)) wr.heap.size #[.int .i64 (tq : Int)] 2 := Blk.new_at _ _ _ _ (by simp)
                      have Hql : Hid ((quI qx).length + 1 ≤ 1048576) := Lib.hid (by rw [quI_len]; omega)
                      have Hb38 : Hid (w3.heap.size ≤ ((wr.setCell ⟨gn, tq, none⟩ (.int .i64 (qx.length : Int))).alloc (.cells #[.int .i64 (tq : Int)] 2)).heap.size) := Lib.hid (by have := hNa.lt; omega)
                      have HltA := Lib.hid hNa.lt
                      have HltX := Lib.hid hXa.lt
                      have Hasz : Hid (((wr.setCell ⟨gn, tq, none⟩ (.int .i64 (qx.length : Int))).alloc (.cells #[.int .i64 (tq : Int)] 2)).heap.size = wr.heap.size + 1) := Lib.hid (by simp)
                      clear hin hput hpos Hnxq Hg1 hN7 hX7 hO7 hbw7 hal
                      go_wp2_with (at_builtin; refine wpList_push_int_at rfl (.tmp 87) (.tmp 89) rfl w3.heap.size _ (quI qx) rfl hOa wr.heap.size 1 (tq : Int) rfl hZa Hql.out Hb38.out ?_; intro v8 w8 hO8 hb8 hsp8 hat8; have hN8 : Blk w8 gn (ints (nbL N (qx ++ [tq]))) 2 := (hsp8 gn HltA.out (fun e => Hv.out.1 e.symm)).trans hNa; have hX8 : Blk w8 gx (mc (mwP A L t k x qx)) 27 := (hsp8 gx HltX.out (fun e => Hv.out.2 e.symm)).trans hXa; have hbw8 := hbwa.trans hb8)
                      rw [← quI_app] at hO8
                      rw [Hput.out] at hX8
                      have HvQ : Hid (v8.ownBlock ≠ some gn ∧ v8.ownBlock ≠ some gx) := Lib.hid (by
                        rcases hat8 with e | e
                        · rw [e]; exact Hv.out
                        · rw [e, Hasz.out]
                          exact ⟨fun h => by have := Option.some.inj h; omega, fun h => by have := Option.some.inj h; omega⟩)
                      obtain ⟨gq3, cq3, curq3, rfl, hgq3, hQ8, hqc8⟩ := hO8.opened (by rw [quI_len]; simp)
                      have HqkQ : Hid (curq3[k]? = some (.int .i64 (r : Int))) := Lib.hid (by
                        have := hqc8 k (by rw [quI_len]; simp; omega)
                        rw [quI_getD, HgtQ.out] at this
                        exact this)
                      have hlen : (quI (qx ++ [tq])).length = qx.length + 1 := by rw [quI_len]; simp
                      rw [hlen] at hO8 HvQ ⊢
                      have Hqx : Hid (gq3 ≠ gx) := Lib.hid (fun e => HvQ.out.2 (by simp [Value.ownBlock]; exact e))
                      have hkx2 : (k : Int) < (qx.length : Int) + 1 := by omega
                      clear hX hbw hQ hNb hO cL cQ cn1 cc1 cN fN hNa hXa hOa hbwa hZa hqc8 hlen hat8 hsp8 hb8
                      have hXd := hX8.drew
                      have hbd := below_drew' hbw8
                      have hQd := hQ8.drew
                      have hNd := hN8.drew
                      have hOd := hO8.below (w1 := w8.drew) (Below.refl _ _).drew
                      obtain ⟨old1, hcs1⟩ := mwP_cell A L t k x (qx ++ [tq]) (i := 50 + k * 3 + x) (by omega)
                      have Hcs2 := Lib.hid (mwQ_cell A L t k x (qx ++ [tq]) (i := 2 + k * 3 + x) (by omega))
                      clear hX8 hbw8 hQ8 hN8 hO8
                      go_wp2
                      refine wp_region_held_drew (S := fun W => (Blk W gq3 curq3 2 ∧ Blk W go curo 22) ∧ Below w3.heap.size w3 W) (by kernel_rfl) ⟨⟨hQd, (Hz.out _ hbd).2.2.1⟩, hbd⟩ (fun hS0 => ?_)
                      generalize w8.drew = wd at *
                      have cS := (hXd.cell (50 + k * 3 + x)).trans hcs1
                      have fS := hXd.free (50 + k * 3 + x)
                      have hX5 := hXd.set (50 + k * 3 + x) (.int .u8 (A.o r x))
                      rw [Hout.out (qx ++ [tq]) HgtQ.out] at hX5
                      have hb5 := below_set' (o := 50 + k * 3 + x) hbd (b := gx) Hgx.out (.int .u8 (A.o r x))
                      (refine hK_take 0 (.int .i64 (k : Int)) rfl (by kernel_rfl) (by kernel_rfl) (by kernel_rfl) (fun _ _ _ h => h) rfl (fun W _ => by go_simp) hS0 ?_; (intro K hK; go_simp; refine hK _ ?_; clear hK K))
                      (refine hK_take 1 (.int .i64 (x : Int)) rfl (by kernel_rfl) (by kernel_rfl) (by kernel_rfl) (fun _ _ _ h => h) rfl (fun W _ => by go_simp) hS0 ?_; (intro K hK; go_simp; refine hK _ ?_; clear hK K))
                      (refine hK_take 2 (.slice (some ⟨go, 0, none⟩) N co) rfl (by kernel_rfl) (by kernel_rfl) (by kernel_rfl) (fun _ _ _ h => h) rfl (fun W _ => by go_simp) hS0 ?_; (intro K hK; go_simp; refine hK _ ?_; clear hK K))
                      (refine hK_take 3 (.slice (some ⟨gq3, 0, none⟩) (qx.length + 1) cq3) rfl (by kernel_rfl) (by kernel_rfl) (by kernel_rfl) (fun _ _ _ h => h) rfl (fun W _ => by go_simp) hS0 ?_; (intro K hK; go_simp; refine hK _ ?_; clear hK K))
                      (refine hK_take 4 (.int .i64 (k : Int)) rfl (by kernel_rfl) (by kernel_rfl) (by kernel_rfl) (fun _ _ _ h => h) rfl (fun W _ => by go_simp) hS0 ?_; (intro K hK; go_simp; refine hK _ ?_; clear hK K))
                      (refine hK_take 5 (.pointer (some ⟨gq3, k, none⟩)) rfl (by kernel_rfl) (by kernel_rfl) (by kernel_rfl) (fun _ _ _ h => h) rfl (fun W _ => by go_simp) hS0 ?_; (intro K hK; go_simp; refine hK _ ?_; clear hK K))
                      (refine hK_take 6 (.int .i64 (r : Int)) rfl (by kernel_rfl) (by kernel_rfl) (by kernel_rfl) (fun _ _ _ h => h) rfl (fun W hW => by have cC := (hW.1.1.cell k).trans HqkQ.out; clear hW; go_simp) hS0 ?_; (intro K hK; go_simp; refine hK _ ?_; clear hK K))
                      (refine hK_take 7 (.int .i64 (x : Int)) rfl (by kernel_rfl) (by kernel_rfl) (by kernel_rfl) (fun _ _ _ h => h) rfl (fun W _ => by go_simp) hS0 ?_; (intro K hK; go_simp; refine hK _ ?_; clear hK K))
                      (refine hK_take 8 (.pointer (some ⟨go, r * 3, none⟩)) rfl (by kernel_rfl) (by kernel_rfl) (by kernel_rfl) (fun _ _ _ h => h) rfl (fun W _ => by go_simp) hS0 ?_; (intro K hK; go_simp; refine hK _ ?_; clear hK K))
                      (refine hK_take 9 (.pointer (some ⟨go, r * 3 + x, none⟩)) rfl (by kernel_rfl) (by kernel_rfl) (by kernel_rfl) (fun _ _ _ h => h) rfl (fun W _ => by go_simp) hS0 ?_; (intro K hK; go_simp; refine hK _ ?_; clear hK K))
                      (refine hK_take 10 (.int .u8 (A.o r x)) rfl (by kernel_rfl) (by kernel_rfl) (by kernel_rfl) (fun _ _ _ h => h) rfl (fun W hW => by have cC := (hW.1.2.cell (r * 3 + x)).trans Ho1.out; clear hW; go_simp) hS0 ?_; (intro K hK; go_simp; refine hK _ ?_; clear hK K))
                      (refine hK_take 11 (.pointer (some ⟨gx, 50, none⟩)) rfl (by kernel_rfl) (by kernel_rfl) (by kernel_rfl) (fun _ _ _ h => h) rfl (fun W _ => by go_simp) hS0 ?_; (intro K hK; go_simp; refine hK _ ?_; clear hK K))
                      (refine hK_take 12 (.pointer (some ⟨gx, 50 + k * 3, none⟩)) rfl (by kernel_rfl) (by kernel_rfl) (by kernel_rfl) (fun _ _ _ h => h) rfl (fun W _ => by go_simp) hS0 ?_; (intro K hK; go_simp; refine hK _ ?_; clear hK K))
                      (refine hK_take 13 (.pointer (some ⟨gx, 50 + k * 3 + x, none⟩)) rfl (by kernel_rfl) (by kernel_rfl) (by kernel_rfl) (fun _ _ _ h => h) rfl (fun W _ => by go_simp) hS0 ?_; (intro K hK; go_simp; refine hK _ ?_; clear hK K))
                      refine wpAnyH_ready (rs := [14]) (by kernel_rfl) (by simp) ?_
                      refine AllReadyH.cons rfl (fun K hK => ?_) AllReadyH.nil
                      go_simp
                      refine hK.out _ _ ⟨⟨hQd.setOther _ _ _ Hqx.out, hS0.1.2.setOther _ _ _ Hox.out⟩, hb5⟩ (fun hS1 => ?_)
                      clear hK K
                      refine wpAnyH_done (by kernel_rfl) ?_ _
                      have hN5 := hNd.setOther gx (50 + k * 3 + x) (.int .u8 (A.o r x)) Hnx.out
                      have hO5 := hOd.still (w1 := wd.setCell ⟨gx, 50 + k * 3 + x, none⟩ (.int .u8 (A.o r x))) (fun q hq => Below.heap_setCell _ _ _ q (fun e => HvQ.out.2 ((show q = gx from e) ▸ hq)))
                      clear hS0 hS1 cS fS hXd hbd hQd hNd hOd
                      generalize wd.setCell ⟨gx, 50 + k * 3 + x, none⟩ (.int .u8 (A.o r x)) = w9 at *
                      go_wp2
                      have hXd := hX5.drew
                      have hbd := below_drew' hb5
                      have hNd := hN5.drew
                      have hOd := hO5.below (w1 := w9.drew) (Below.refl _ _).drew
                      clear hX5 hb5 hN5 hO5
                      refine wp_region_held_drew (S := fun W => Blk W gn (ints (nbL N (qx ++ [tq]))) 2) (by kernel_rfl) hNd (fun hS0 => ?_)
                      generalize w9.drew = we at *
                      obtain ⟨old2, hcs2⟩ := Hcs2.out
                      have cS := (hXd.cell (2 + k * 3 + x)).trans hcs2
                      have fS := hXd.free (2 + k * 3 + x)
                      have hX6 := hXd.set (2 + k * 3 + x) (.int .u8 (qx.length : Int))
                      rw [Hnxt.out] at hX6
                      have hb6 := below_set' (o := 2 + k * 3 + x) hbd (b := gx) Hgx.out (.int .u8 (qx.length : Int))
                      (refine hK_take 0 (.int .i64 (k : Int)) rfl (by kernel_rfl) (by kernel_rfl) (by kernel_rfl) (fun _ _ _ h => h) rfl (fun W _ => by go_simp) hS0 ?_; (intro K hK; go_simp; refine hK _ ?_; clear hK K))
                      (refine hK_take 1 (.int .i64 (x : Int)) rfl (by kernel_rfl) (by kernel_rfl) (by kernel_rfl) (fun _ _ _ h => h) rfl (fun W _ => by go_simp) hS0 ?_; (intro K hK; go_simp; refine hK _ ?_; clear hK K))
                      (refine hK_take 2 (.slice (some ⟨gn, 0, none⟩) N N) rfl (by kernel_rfl) (by kernel_rfl) (by kernel_rfl) (fun _ _ _ h => h) rfl (fun W _ => by go_simp) hS0 ?_; (intro K hK; go_simp; refine hK _ ?_; clear hK K))
                      (refine hK_take 3 (.int .i64 (tq : Int)) rfl (by kernel_rfl) (by kernel_rfl) (by kernel_rfl) (fun _ _ _ h => h) rfl (fun W _ => by go_simp) hS0 ?_; (intro K hK; go_simp; refine hK _ ?_; clear hK K))
                      (refine hK_take 4 (.pointer (some ⟨gn, tq, none⟩)) rfl (by kernel_rfl) (by kernel_rfl) (by kernel_rfl) (fun _ _ _ h => h) rfl (fun W _ => by go_simp) hS0 ?_; (intro K hK; go_simp; refine hK _ ?_; clear hK K))
                      (refine hK_take 5 (.int .i64 (qx.length : Int)) rfl (by kernel_rfl) (by kernel_rfl) (by kernel_rfl) (fun _ _ _ h => h) rfl (fun W hW => by have cC := (hW.cell tq).trans Hnb.out; clear hW; go_simp) hS0 ?_; (intro K hK; go_simp; refine hK _ ?_; clear hK K))
                      (refine hK_take 6 (.int .u8 (qx.length : Int)) rfl (by kernel_rfl) (by kernel_rfl) (by kernel_rfl) (fun _ _ _ h => h) rfl (fun W _ => by go_simp) hS0 ?_; (intro K hK; go_simp; refine hK _ ?_; clear hK K))
                      (refine hK_take 7 (.pointer (some ⟨gx, 2, none⟩)) rfl (by kernel_rfl) (by kernel_rfl) (by kernel_rfl) (fun _ _ _ h => h) rfl (fun W _ => by go_simp) hS0 ?_; (intro K hK; go_simp; refine hK _ ?_; clear hK K))
                      (refine hK_take 8 (.pointer (some ⟨gx, 2 + k * 3, none⟩)) rfl (by kernel_rfl) (by kernel_rfl) (by kernel_rfl) (fun _ _ _ h => h) rfl (fun W _ => by go_simp) hS0 ?_; (intro K hK; go_simp; refine hK _ ?_; clear hK K))
                      (refine hK_take 9 (.pointer (some ⟨gx, 2 + k * 3 + x, none⟩)) rfl (by kernel_rfl) (by kernel_rfl) (by kernel_rfl) (fun _ _ _ h => h) rfl (fun W _ => by go_simp) hS0 ?_; (intro K hK; go_simp; refine hK _ ?_; clear hK K))
                      refine wpAnyH_ready (rs := [10]) (by kernel_rfl) (by simp) ?_
                      refine AllReadyH.cons rfl (fun K hK => ?_) AllReadyH.nil
                      go_simp
                      have hN6 := hNd.setOther gx (2 + k * 3 + x) (.int .u8 (qx.length : Int)) Hnx.out
                      refine hK.out _ _ hN6 (fun hS1 => ?_)
                      clear hK K
                      refine wpAnyH_done (by kernel_rfl) ?_ _
                      have hO6 := hOd.still (w1 := we.setCell ⟨gx, 2 + k * 3 + x, none⟩ (.int .u8 (qx.length : Int))) (fun q hq => Below.heap_setCell _ _ _ q (fun e => HvQ.out.2 ((show q = gx from e) ▸ hq)))
                      clear hS0 hS1 cS fS hXd hbd hNd hOd
                      go_wp2
                      go_roundw
                      case rel => exact ⟨x + 1, _, by omega, by go_num, rfl, by rw [Hq'.out]; exact hO6, HvQ, by rw [Hq'.out]; exact hN6, by rw [Hq'.out]; exact hX6, hb6⟩
                      case measure => simp [intOf] <;> omega
                  · obtain rfl : L = x := by omega
                    rw [← Hstep.out] at hO hNb hX hg2
                    rw [mwP_row] at hX
                    go_wp2
                    go_roundw
                    case rel => exact ⟨k + 1, _, by omega, by omega, by go_num, rfl, hO, Hv, hNb, hX, hbw⟩
                    case measure => simp [intOf] <;> omega
            · have hke : (bAll eqN (lstN A L t) L 0 k).length = k := by omega
              have Hq : Hid (bAll eqN (lstN A L t) L 0 256 = (bAll eqN (lstN A L t) L 0 k)) := Lib.hid (bAll_stay (E := eqN) (n := lstN A L t) L 0 k (by omega) 256 (by omega))
              rw [Hq.out] at Hlen Hmach
              have Hr : Hid (mkR A L 0 = setM A L 0 ∧ mkC A L 0 = 0) := Lib.hid (by
                have h16 : (setQ A L 0).length ≤ 16 := by rw [← Hlen.out]; omega
                unfold mkR mkC; rw [if_pos h16, if_pos h16]; exact ⟨rfl, rfl⟩)
              have Hall := Lib.hid (mwP_all A L t (bAll eqN (lstN A L t) L 0 k))
              rw [Hmach.out] at Hall
              have hXs : (mc (setM A L 0)).size = 98 := by rw [← Hall.out]; simp [mc, mwP, mkM]
              have HXs := Lib.hid hXs
              clear hXs Hfew HqN hlt hkq hlenN Hmach Hlen Hq
              generalize (bAll eqN (lstN A L t) L 0 k) = qf at *
              subst hke
              have hnl : ¬ ((qf.length : Int) < (qf.length : Int)) := by omega
              obtain ⟨oq, cq, rfl, _⟩ := hO.view
              rw [quI_len] at *
              obtain ⟨old1, hcs1⟩ := mwP_cell A L t qf.length 0 qf (i := 1) (by omega)
              have cS := (hX.cell 1).trans hcs1
              have fS := hX.free 1
              have hX2 := hX.set 1 (.int .i64 (qf.length : Int))
              rw [Hall.out] at hX2
              have hb2 := below_set' (o := 1) hbw (b := gx) Hgx.out (.int .i64 (qf.length : Int))
              have hR := (Hz.out _ hb2).2.1
              have hbwz := Hbw3.out.trans (below_le hb2 hge3)
              have F1 : Hid (cut (mc (setM A L 0)) 0 98 = mc (setM A L 0)) := Lib.hid (cut_all _ _ HXs.out)
              have F2 : Hid (over (mc zeroM) 0 (mc (setM A L 0)) = mc (setM A L 0)) := Lib.hid (over_all _ _ (by rw [HXs.out, HzS.out]))
              clear hcs1 hX hbw
              go_wp2_with (first | ((with_reducible show wpList _ _ _ _ _ _); refine wpList_load_blk rfl 27 (.tmp 13) rfl gx 0 rfl _ _ hX2 98 (by rw [HXs.out]; omega) _ Try.underlying27 rfl size_mach ?_; rw [F1.out]) | ((with_reducible show wpList _ _ _ _ _ _); refine wpList_store_blk rfl 27 (.tmp 4) (.tmp 118) rfl (w.heap.size + 1) 0 _ rfl rfl (mc zeroM) _ hR (by rw [HXs.out, HzS.out]; omega) (by rw [HXs.out]; exact size_mach) (mc_one _) ?_; intro w4 hb4 hkeep _ hbl; rw [F2.out] at hb4; have hbw4 := hbl w.heap.size w (by omega) hbwz; clear hkeep hbl))
              exact bodyPost_cell1 rfl rfl hb4 Try.underlying27 rfl (by rw [HXs.out]; exact size_mach) rfl ⟨ret_mc (by rw [Hl.out.1, Hr.out.1]) (by rw [Hl.out.2, Hr.out.2]), hbw4⟩
    · go_simp
      refine hK.out _ _ trivial (fun hS1 => ?_)
      clear hK K
      refine wpAnyH_ready (rs := [0]) (by kernel_rfl) (by simp) ?_
      refine AllReadyH.cons rfl (fun K hK => ?_) AllReadyH.nil
      go_simp
      refine hK.out _ _ trivial (fun hS2 => ?_)
      clear hK K
      (refine hK_take 4 (.slice (some ⟨wd.heap.size + 1, 0, none⟩) 1 1) rfl (by kernel_rfl) (by kernel_rfl) (by kernel_rfl) (fun _ _ _ h => h) rfl (fun W _ => by go_simp) hS2 ?_; (intro K hK; go_simp; refine hK _ ?_; clear hK K))
      (refine hK_take 5 (.slice (some ⟨wd.heap.size, 0, none⟩) N N) rfl (by kernel_rfl) (by kernel_rfl) (by kernel_rfl) (fun _ _ _ h => h) rfl (fun W _ => by go_simp) hS2 ?_; (intro K hK; go_simp; refine hK _ ?_; clear hK K))
      refine wpAnyH_done (by kernel_rfl) ?_ _
      have hN0 : Blk ((wd.alloc (.cells (ints (List.replicate N 0)) 2)).alloc (.cells #[.int .i64 0] 2)) wd.heap.size (ints (nbZ N 0)) 2 := by rw [nbZ_zero]; exact (Blk.new wd _ _).alloc _
      have hQ0 : Blk ((wd.alloc (.cells (ints (List.replicate N 0)) 2)).alloc (.cells #[.int .i64 0] 2)) (wd.heap.size + 1) #[.int .i64 0] 2 := Blk.new_at _ _ _ _ (by simp)
      have hb4 := below_allocB (below_allocB hbd hbd.size (.cells (ints (List.replicate N 0)) 2)) (by have := hbd.size; simp; omega) (.cells #[.int .i64 0] 2)
      have hgn3 : w3.heap.size ≤ wd.heap.size := hbd.size
      clear hS0 hS1 hS2 hmk
      generalize (wd.alloc (.cells (ints (List.replicate N 0)) 2)).alloc (.cells #[.int .i64 0] 2) = w4 at *
      obtain ⟨gq, hgq2⟩ : ∃ g, wd.heap.size + 1 = g := ⟨_, rfl⟩
      obtain ⟨gn, hgn⟩ : ∃ g, wd.heap.size = g := ⟨_, rfl⟩
      rw [hgq2] at hQ0 ⊢
      rw [hgn] at hN0 hgn3 ⊢
      have Hne : Hid (gq ≠ gn) := Lib.hid (by omega)
      have hgq : w3.heap.size ≤ gq := by omega
      clear hgn hgq2 hbd
      have hltQ0 := hQ0.lt
      have hltN0 := hN0.lt
      go_wp2
      go_loopw [12] (fun i wr => ∃ k : Nat, k ≤ N ∧ i = .int .i64 k ∧ Blk wr gq #[.int .i64 0] 2 ∧ Blk wr gn (ints (nbZ N k)) 2 ∧ Below w3.heap.size w3 wr) (fun i _ => N - (intOf i).toNat)
      case atStart => exact ⟨0, by omega, rfl, hQ0, hN0, hb4⟩
      case round =>
        clear hQ0 hN0 hb4
        obtain ⟨k, hk, rfl, hQ, hNb, hbw⟩ := hrel
        by_cases hkl : k < N
        · have hki : (k : Int) < (N : Int) := by omega
          have hold := ints_at (nbZ N k) k (by rw [nbZ_len]; omega)
          generalize (nbZ N k).getD k 0 = oldn at hold
          have cN := (hNb.cell k).trans hold
          have fN := hNb.free k
          have hN2 := hNb.set k (.int .i64 (-1))
          rw [← ints_set, nbZ_set] at hN2
          have hQ2 := hQ.setOther gn k (.int .i64 (-1)) Hne.out
          have hbw2 := below_set' (o := k) hbw (b := gn) hgn3 (.int .i64 (-1))
          clear hold
          go_wp2
          go_roundw
          case rel => exact ⟨k + 1, by omega, by go_num, hQ2, hN2, hbw2⟩
          case measure => simp [intOf] <;> omega
        · obtain rfl : N = k := by omega
          rw [nbZ_all] at hNb
          have hN0i : (0 : Int) < (N : Int) := by have := H0.out; omega
          have cN := (hNb.cell 0).trans (nbL_new (q := []) H0.out (by simp))
          have fN := hNb.free 0
          have hN5 := hNb.set 0 (.int .i64 0)
          rw [← ints_set, show (nbL N []).set 0 (0 : Int) = nbL N (bAll eqN (lstN A L t) L 0 0) from nbL_put N [] 0 (by simp)] at hN5
          have hQ5 := hQ.setOther gn 0 (.int .i64 0) Hne.out
          have hbw5 := below_set' (o := 0) hbw (b := gn) hgn3 (.int .i64 0)
          have cL5 := ((Hz.out _ hbw5).1.cell 0).trans HcL.out
          have hX5 : Blk ((wr.setCell ⟨gn, 0, none⟩ (.int .i64 0)).alloc (.cells (mc zeroM) 27)) wr.heap.size (mc zeroM) 27 := Blk.new_at _ _ _ _ (by simp)
          have hQ6 := hQ5.alloc (.cells (mc zeroM) 27)
          have hN6 := hN5.alloc (.cells (mc zeroM) 27)
          have hbw6 := below_alloc' hbw5 (.cells (mc zeroM) 27)
          have hgx3 : w3.heap.size ≤ wr.heap.size := hbw.size
          have hgqx := hQ.lt
          have hgnx := hNb.lt
          have Hbt : Hid (Try.prog.built 27 [(0, .int .i64 (L : Int))] = some (mc (mwP A L t 0 0 (bAll eqN (lstN A L t) L 0 0)))) := Lib.hid (by rw [← mwP_zero A L t (bAll eqN (lstN A L t) L 0 0)]; exact built_m1 _)
          have HsP := Lib.hid (fun k x q => mwP_size A L t k x q)
          have G1 : Hid (0 + (mc (mwP A L t 0 0 (bAll eqN (lstN A L t) L 0 0))).size ≤ (mc zeroM).size) := Lib.hid (by rw [HzS.out, mwP_size]; omega)
          have G2 : Hid ((Try.prog.info? 27).map (·.size) = some (mc (mwP A L t 0 0 (bAll eqN (lstN A L t) L 0 0))).size) := Lib.hid (by rw [mwP_size]; exact size_mach)
          have G4 : Hid (over (mc zeroM) 0 (mc (mwP A L t 0 0 (bAll eqN (lstN A L t) L 0 0))) = mc (mwP A L t 0 0 (bAll eqN (lstN A L t) L 0 0))) := Lib.hid (over_all _ _ (by rw [HzS.out, mwP_size]))
          clear hQ hNb hbw hN5 hQ5 hbw5
          go_wp2_with (first | ((with_reducible show wpList _ _ _ _ _ _); refine wpList_build1 rfl 27 0 (.tmp 48) rfl (.int .i64 (L : Int)) rfl (mc (mwP A L t 0 0 (bAll eqN (lstN A L t) L 0 0))) Hbt.out ?_) | ((with_reducible show wpList _ _ _ _ _ _); refine wpList_store_blk rfl 27 (.tmp 13) (.tmp 49) rfl wr.heap.size 0 (mc (mwP A L t 0 0 (bAll eqN (lstN A L t) L 0 0))) rfl rfl (mc zeroM) 27 hX5 G1.out G2.out (mc_one _) ?_; intro w7 hb7 hkeep _ hbl; rw [G4.out] at hb7; have hQ7 := hkeep gq _ _ (by omega) hQ6; have hN7 := hkeep gn _ _ (by omega) hN6; have hbw7 := hbl _ _ hgx3 hbw6; clear hkeep hbl))
          obtain ⟨gx, hgx⟩ : ∃ g, wr.heap.size = g := ⟨_, rfl⟩
          rw [hgx] at hb7 hgx3 hgqx hgnx ⊢
          have Hgx : Hid (w3.heap.size ≤ gx) := Lib.hid hgx3
          have Hnx : Hid (gn ≠ gx) := Lib.hid (by omega)
          have Hox : Hid (go ≠ gx) := Lib.hid (by have := Hlt3.out.1; omega)
          clear hgx hX5 hQ6 hN6 hbw6 cN fN cL5 Hbt G1 G2 G4
          have hO7 : OwnI w7 w3.heap.size (.slice (some ⟨gq, 0, none⟩) 1 1) (quI (bAll eqN (lstN A L t) L 0 0)) := OwnI.made (zs := [0]) rfl (by unfold maxLen; omega) hgq hQ7
          have hv7 : Hid ((Value.slice (some ⟨gq, 0, none⟩) 1 1).ownBlock ≠ some gn ∧ (Value.slice (some ⟨gq, 0, none⟩) 1 1).ownBlock ≠ some gx) := Lib.hid ⟨by simp [Value.ownBlock]; exact Hne.out, by simp [Value.ownBlock]; omega⟩
          have hlstN : ∀ p, p < N → ∀ x, x < L → lstN A L t p x < N := fun p hpN x hx => by
            have h1 := (aLst_at A L t (A.n p x)).1
            have h2 := Hin.out p x hpN hx
            show aLst A L t (A.n p x) < N
            omega
          have HqN := Lib.hid (fun k => bAll_all (E := eqN) (n := lstN A L t) (fun p => p < N) L hlstN 0 H0.out k)
          have Hfew : Hid (∀ k, (bAll eqN (lstN A L t) L 0 k).length ≤ N) := Lib.hid (fun k => few_points eqN_eq.refl (bAll_new eqN_eq L 0 k) (HqN.out k))
          have HlN := Lib.hid hlstN
          have Hlen : Hid ((bAll eqN (lstN A L t) L 0 256).length = (setQ A L 0).length) := Lib.hid (by
            have := lstQ_len Hin.out HN.out Hst.out H0.out 256
            rw [aLst_first] at this
            exact this)
          have Hmach : Hid (qM eqN (lstN A L t) A.o L 0 (bAll eqN (lstN A L t) L 0 256) = setM A L 0) := Lib.hid (by
            have := lstQ_mach Hin.out HN.out Hst.out H0.out
            rw [aLst_first] at this
            exact this)
          clear hlstN hQ7
          go_loopw [10, 14] (fun qv i wr => ∃ (k : Nat) (v : Value), k ≤ 16 ∧ k ≤ (bAll eqN (lstN A L t) L 0 k).length ∧ i = .int .i64 k ∧ v = qv ∧ OwnI wr w3.heap.size v (quI (bAll eqN (lstN A L t) L 0 k)) ∧ Hid (v.ownBlock ≠ some gn ∧ v.ownBlock ≠ some gx) ∧ Blk wr gn (ints (nbL N (bAll eqN (lstN A L t) L 0 k))) 2 ∧ Blk wr gx (mc (mwP A L t k 0 (bAll eqN (lstN A L t) L 0 k))) 27 ∧ Below w3.heap.size w3 wr) (fun _ i _ => 17 - (intOf i).toNat)
          case atStart => exact ⟨0, _, by omega, Nat.zero_le _, rfl, rfl, hO7, hv7, hN7, hb7, hbw7⟩
          case round =>
            clear hO7 hv7 hN7 hb7 hbw7
            obtain ⟨k, v, hk, hkq, rfl, rfl, hO, Hv, hNb, hX, hbw⟩ := hrel
            have hlenN := Hfew.out k
            by_cases hlt : k < (bAll eqN (lstN A L t) L 0 k).length
            · obtain ⟨oq, cq, rfl, _⟩ := hO.view
              rw [quI_len] at *
              have hli : (k : Int) < ((bAll eqN (lstN A L t) L 0 k).length : Int) := by omega
              by_cases h16 : k = 16
              · have hk16b : ((k : Int) == 16) = true := by simp; omega
                have Hlong : Hid (¬ (setQ A L 0).length ≤ 16) := Lib.hid (fun h => by
                  have := (bAll_pre (E := eqN) (n := lstN A L t) L 0 (show k ≤ 256 by omega)).length_le
                  rw [← Hlen.out] at h
                  omega)
                clear h16
                have Hr : Hid (mkR A L 0 = zeroM ∧ mkC A L 0 = 3) := Lib.hid (by unfold mkR mkC; rw [if_neg Hlong.out, if_neg Hlong.out]; exact ⟨rfl, rfl⟩)
                have hR := (Hz.out _ hbw).2.1
                have hbwz := Hbw3.out.trans (below_le hbw hge3)
                go_wp2_with ((with_reducible show wpList _ _ _ _ _ _); refine wpList_store_blk rfl 27 (.tmp 4) (.tmp 58) rfl (w.heap.size + 1) 0 (mc zeroM) rfl rfl (mc zeroM) _ hR (by rw [HzS.out]; omega) (by rw [HzS.out]; exact size_mach) (mc_one _) ?_; intro w4 hb4 hkeep _ hbl; rw [zero_over] at hb4; have hbw4 := hbl w.heap.size w (by omega) hbwz; clear hkeep hbl)
                exact bodyPost_cell1 rfl rfl hb4 Try.underlying27 rfl (by rw [HzS.out]; exact size_mach) rfl ⟨ret_mc (by rw [Hl.out.1, Hr.out.1]) (by rw [Hl.out.2, Hr.out.2]), hbw4⟩
              · have hk16 : k < 16 := by omega
                have hk16i : (k : Int) < 16 := by omega
                have hk16b : ((k : Int) == 16) = false := by simp; omega
                have hkN : k < N := by omega
                have hb46 : (bAll eqN (lstN A L t) L 0 k).length ≤ 46 := by
                  have h1 := bAll_len (E := eqN) (n := lstN A L t) L 0 k
                  have h2 : L * k ≤ 3 * 15 := Nat.mul_le_mul hL (by omega)
                  omega
                have Hstep := Lib.hid (bAll_step (E := eqN) (n := lstN A L t) L 0 k hlt)
                have hrN := HqN.out k _ (List.getElem_mem hlt)
                have Hcl := Lib.hid (fun x => cur_closed (E := eqN) (n := lstN A L t) (d := 0) eqN_eq.refl hlt x)
                obtain ⟨r, hr⟩ : ∃ r, (bAll eqN (lstN A L t) L 0 k)[k] = r := ⟨_, rfl⟩
                rw [hr] at Hstep hrN Hcl
                have Hgt : Hid (∀ x, (bRow eqN (lstN A L t) (bAll eqN (lstN A L t) L 0 k) r x).getD k 0 = r ∧ (bAll eqN (lstN A L t) L 0 k).length ≤ (bRow eqN (lstN A L t) (bAll eqN (lstN A L t) L 0 k) r x).length) := Lib.hid (fun x => by
                  obtain ⟨z, hz⟩ := bRow_pre (E := eqN) (n := lstN A L t) (bAll eqN (lstN A L t) L 0 k) r x
                  rw [← hz]
                  simp [List.getD, List.getElem?_append_left hlt, List.getElem?_eq_getElem hlt, hr])
                have Hle := Lib.hid (fun x => bRow_len (E := eqN) (n := lstN A L t) (bAll eqN (lstN A L t) L 0 k) r x)
                clear hr
                have hO0 : OwnI wr w3.heap.size (.slice oq (bAll eqN (lstN A L t) L 0 k).length cq) (quI (bRow eqN (lstN A L t) (bAll eqN (lstN A L t) L 0 k) r 0)) := hO
                have hN0 : Blk wr gn (ints (nbL N (bRow eqN (lstN A L t) (bAll eqN (lstN A L t) L 0 k) r 0))) 2 := hNb
                have hX0 : Blk wr gx (mc (mwP A L t k 0 (bRow eqN (lstN A L t) (bAll eqN (lstN A L t) L 0 k) r 0))) 27 := hX
                go_wp2
                clear hO hNb hX hli
                go_loopw [10, 15] (fun qv xv wr => ∃ (x : Nat) (v : Value), x ≤ L ∧ xv = .int .i64 x ∧ v = qv ∧ OwnI wr w3.heap.size v (quI (bRow eqN (lstN A L t) (bAll eqN (lstN A L t) L 0 k) r x)) ∧ Hid (v.ownBlock ≠ some gn ∧ v.ownBlock ≠ some gx) ∧ Blk wr gn (ints (nbL N (bRow eqN (lstN A L t) (bAll eqN (lstN A L t) L 0 k) r x))) 2 ∧ Blk wr gx (mc (mwP A L t k x (bRow eqN (lstN A L t) (bAll eqN (lstN A L t) L 0 k) r x))) 27 ∧ Below w3.heap.size w3 wr) (fun _ xv _ => L - (intOf xv).toNat)
                case atStart => exact ⟨0, _, by omega, rfl, rfl, hO0, Hv, hN0, hX0, hbw⟩
                case round =>
                  clear hO0 hN0 hX0 hbw Hv
                  obtain ⟨x, v, hx, rfl, rfl, hO, Hv, hNb, hX, hbw⟩ := hrel
                  have cL := ((Hz.out _ hbw).1.cell 0).trans HcL.out
                  obtain ⟨hg1, hg2⟩ := Hgt.out x
                  by_cases hxl : x < L
                  · have hxi : (x : Int) < (L : Int) := by omega
                    have hx3 : x < 3 := by omega
                    have hx3i : (x : Int) < 3 := by omega
                    have hle := Hle.out x
                    have hto := HlN.out r hrN x hxl
                    have hnr := Hin.out r x hrN hxl
                    have Hrow : Hid (bRow eqN (lstN A L t) (bAll eqN (lstN A L t) L 0 k) r (x + 1) = bPut eqN (bRow eqN (lstN A L t) (bAll eqN (lstN A L t) L 0 k) r x) (lstN A L t r x)) := Lib.hid rfl
                    have Hput := Lib.hid (mwP_put (A := A) (L := L) (t := t) (k := k) (x := x) (q := bRow eqN (lstN A L t) (bAll eqN (lstN A L t) L 0 k) r x) (p := lstN A L t r x) (by omega) (fun i y h hy => Hcl.out x i y h hy))
                    have cc1 := Hcc.out (A.n r x) hnr
                    rw [show aLst A L t (A.n r x) = lstN A L t r x from rfl] at cc1
                    obtain ⟨gq2, cq2, curq2, rfl, hgq2, hQ, hqc⟩ := hO.opened (by rw [quI_len]; omega)
                    have hqk := hqc k (by rw [quI_len]; omega)
                    rw [show (quI (bRow eqN (lstN A L t) (bAll eqN (lstN A L t) L 0 k) r x)).getD k 0 = (r : Int) from by rw [quI_getD, hg1]] at hqk
                    have Hqk := Lib.hid hqk
                    have Hcc1 := Lib.hid cc1
                    have Hg1 := Lib.hid hg1
                    clear hqc hqk cc1 hg1
                    rw [quI_len] at hO Hv ⊢
                    have hkx : (k : Int) < ((bRow eqN (lstN A L t) (bAll eqN (lstN A L t) L 0 k) r x).length : Int) := by omega
                    have hrNi : (r : Int) < (N : Int) := by omega
                    have hnri : (A.n r x : Int) < (N : Int) := by omega
                    have htoi : (lstN A L t r x : Int) < (N : Int) := by omega
                    have cQ := (hQ.cell k).trans Hqk.out
                    have n1 := Hca.out r hrN x hx3
                    rw [show rowN A L r x = A.n r x from if_pos hxl] at n1
                    have o1 := Hco.out r hrN x hx3
                    rw [show rowO A L r x = A.o r x from if_pos hxl] at o1
                    have Ho1 := Lib.hid o1
                    have cn1 := ((Hz.out _ hbw).2.2.2.1.cell (r * 3 + x)).trans n1
                    have cc1 := ((Hz.out _ hbw).2.2.2.2.cell (A.n r x)).trans Hcc1.out
                    have Hout := Lib.hid (fun q hq => mwP_out A L t k x hk16 hx3 hxl q (r := r) hq)
                    have Hnxq := Lib.hid (fun q hq => mwQ_next A L t k x hk16 hx3 hxl q (r := r) hq)
                    clear n1 o1
                    have hltN := hNb.lt
                    have hltQ := hQ.lt
                    have hltX := hX.lt
                    have hlq : (bRow eqN (lstN A L t) (bAll eqN (lstN A L t) L 0 k) r x).length ≤ 50 := by omega
                    generalize lstN A L t r x = tq at *
                    generalize A.n r x = nr at *
                    generalize (bRow eqN (lstN A L t) (bAll eqN (lstN A L t) L 0 k) r x) = qx at *
                    by_cases hin : bPos eqN qx tq < qx.length
                    · have cN := (hNb.cell tq).trans (nbL_old hto hin)
                      have hnn : ¬ ((bPos eqN qx tq : Int) < 0) := by omega
                      have Hq' := Lib.hid (Hrow.out.trans (bPut_old hin))
                      have Hnb := Lib.hid (nbL_old hto hin)
                      have Hnxt := Lib.hid (Hnxq.out qx Hg1.out)
                      have HgtQ := Hg1
                      have HqkQ := Hqk
                      have HvQ := Hv
                      have Hqx : Hid (gq2 ≠ gx) := Lib.hid (fun e => Hv.out.2 (by simp [Value.ownBlock]; exact e))
                      have hps : bPos eqN qx tq ≤ 50 := by omega
                      have hw8 : IntKind.u8.wrap (bPos eqN qx tq : Int) = (bPos eqN qx tq : Int) := by simp [IntKind.wrap, IntKind.bits, IntKind.signed]; omega
                      clear hin Hput Hnxq Hg1 Hqk
                      generalize bPos eqN qx tq = ps at *
                      go_wp2
                      have hX8 := hX
                      have hbw8 := hbw
                      have hQ8 := hQ
                      have hN8 := hNb
                      have hO8 := hO
                      clear hX hbw hQ hNb hO cL cQ cn1 cc1 cN
                      obtain ⟨w8, rfl⟩ : ∃ x, x = wr := ⟨_, rfl⟩
                      have hXd := hX8.drew
                      have hbd := below_drew' hbw8
                      have hQd := hQ8.drew
                      have hNd := hN8.drew
                      have hOd := hO8.below (w1 := w8.drew) (Below.refl _ _).drew
                      obtain ⟨old1, hcs1⟩ := mwP_cell A L t k x qx (i := 50 + k * 3 + x) (by omega)
                      have Hcs2 := Lib.hid (mwQ_cell A L t k x qx (i := 2 + k * 3 + x) (by omega))
                      clear hX8 hbw8 hQ8 hN8 hO8
                      go_wp2
                      refine wp_region_held_drew (S := fun W => (Blk W gq2 curq2 2 ∧ Blk W go curo 22) ∧ Below w3.heap.size w3 W) (by kernel_rfl) ⟨⟨hQd, (Hz.out _ hbd).2.2.1⟩, hbd⟩ (fun hS0 => ?_)
                      generalize w8.drew = wd at *
                      have cS := (hXd.cell (50 + k * 3 + x)).trans hcs1
                      have fS := hXd.free (50 + k * 3 + x)
                      have hX5 := hXd.set (50 + k * 3 + x) (.int .u8 (A.o r x))
                      rw [Hout.out qx HgtQ.out] at hX5
                      have hb5 := below_set' (o := 50 + k * 3 + x) hbd (b := gx) Hgx.out (.int .u8 (A.o r x))
                      (refine hK_take 0 (.int .i64 (k : Int)) rfl (by kernel_rfl) (by kernel_rfl) (by kernel_rfl) (fun _ _ _ h => h) rfl (fun W _ => by go_simp) hS0 ?_; (intro K hK; go_simp; refine hK _ ?_; clear hK K))
                      (refine hK_take 1 (.int .i64 (x : Int)) rfl (by kernel_rfl) (by kernel_rfl) (by kernel_rfl) (fun _ _ _ h => h) rfl (fun W _ => by go_simp) hS0 ?_; (intro K hK; go_simp; refine hK _ ?_; clear hK K))
                      (refine hK_take 2 (.slice (some ⟨go, 0, none⟩) N co) rfl (by kernel_rfl) (by kernel_rfl) (by kernel_rfl) (fun _ _ _ h => h) rfl (fun W _ => by go_simp) hS0 ?_; (intro K hK; go_simp; refine hK _ ?_; clear hK K))
                      (refine hK_take 3 (.slice (some ⟨gq2, 0, none⟩) qx.length cq2) rfl (by kernel_rfl) (by kernel_rfl) (by kernel_rfl) (fun _ _ _ h => h) rfl (fun W _ => by go_simp) hS0 ?_; (intro K hK; go_simp; refine hK _ ?_; clear hK K))
                      (refine hK_take 4 (.int .i64 (k : Int)) rfl (by kernel_rfl) (by kernel_rfl) (by kernel_rfl) (fun _ _ _ h => h) rfl (fun W _ => by go_simp) hS0 ?_; (intro K hK; go_simp; refine hK _ ?_; clear hK K))
                      (refine hK_take 5 (.pointer (some ⟨gq2, k, none⟩)) rfl (by kernel_rfl) (by kernel_rfl) (by kernel_rfl) (fun _ _ _ h => h) rfl (fun W _ => by go_simp) hS0 ?_; (intro K hK; go_simp; refine hK _ ?_; clear hK K))
                      (refine hK_take 6 (.int .i64 (r : Int)) rfl (by kernel_rfl) (by kernel_rfl) (by kernel_rfl) (fun _ _ _ h => h) rfl (fun W hW => by have cC := (hW.1.1.cell k).trans HqkQ.out; clear hW; go_simp) hS0 ?_; (intro K hK; go_simp; refine hK _ ?_; clear hK K))
                      (refine hK_take 7 (.int .i64 (x : Int)) rfl (by kernel_rfl) (by kernel_rfl) (by kernel_rfl) (fun _ _ _ h => h) rfl (fun W _ => by go_simp) hS0 ?_; (intro K hK; go_simp; refine hK _ ?_; clear hK K))
                      (refine hK_take 8 (.pointer (some ⟨go, r * 3, none⟩)) rfl (by kernel_rfl) (by kernel_rfl) (by kernel_rfl) (fun _ _ _ h => h) rfl (fun W _ => by go_simp) hS0 ?_; (intro K hK; go_simp; refine hK _ ?_; clear hK K))
                      (refine hK_take 9 (.pointer (some ⟨go, r * 3 + x, none⟩)) rfl (by kernel_rfl) (by kernel_rfl) (by kernel_rfl) (fun _ _ _ h => h) rfl (fun W _ => by go_simp) hS0 ?_; (intro K hK; go_simp; refine hK _ ?_; clear hK K))
                      (refine hK_take 10 (.int .u8 (A.o r x)) rfl (by kernel_rfl) (by kernel_rfl) (by kernel_rfl) (fun _ _ _ h => h) rfl (fun W hW => by have cC := (hW.1.2.cell (r * 3 + x)).trans Ho1.out; clear hW; go_simp) hS0 ?_; (intro K hK; go_simp; refine hK _ ?_; clear hK K))
                      (refine hK_take 11 (.pointer (some ⟨gx, 50, none⟩)) rfl (by kernel_rfl) (by kernel_rfl) (by kernel_rfl) (fun _ _ _ h => h) rfl (fun W _ => by go_simp) hS0 ?_; (intro K hK; go_simp; refine hK _ ?_; clear hK K))
                      (refine hK_take 12 (.pointer (some ⟨gx, 50 + k * 3, none⟩)) rfl (by kernel_rfl) (by kernel_rfl) (by kernel_rfl) (fun _ _ _ h => h) rfl (fun W _ => by go_simp) hS0 ?_; (intro K hK; go_simp; refine hK _ ?_; clear hK K))
                      (refine hK_take 13 (.pointer (some ⟨gx, 50 + k * 3 + x, none⟩)) rfl (by kernel_rfl) (by kernel_rfl) (by kernel_rfl) (fun _ _ _ h => h) rfl (fun W _ => by go_simp) hS0 ?_; (intro K hK; go_simp; refine hK _ ?_; clear hK K))
                      refine wpAnyH_ready (rs := [14]) (by kernel_rfl) (by simp) ?_
                      refine AllReadyH.cons rfl (fun K hK => ?_) AllReadyH.nil
                      go_simp
                      refine hK.out _ _ ⟨⟨hQd.setOther _ _ _ Hqx.out, hS0.1.2.setOther _ _ _ Hox.out⟩, hb5⟩ (fun hS1 => ?_)
                      clear hK K
                      refine wpAnyH_done (by kernel_rfl) ?_ _
                      have hN5 := hNd.setOther gx (50 + k * 3 + x) (.int .u8 (A.o r x)) Hnx.out
                      have hO5 := hOd.still (w1 := wd.setCell ⟨gx, 50 + k * 3 + x, none⟩ (.int .u8 (A.o r x))) (fun q hq => Below.heap_setCell _ _ _ q (fun e => HvQ.out.2 ((show q = gx from e) ▸ hq)))
                      clear hS0 hS1 cS fS hXd hbd hQd hNd hOd
                      generalize wd.setCell ⟨gx, 50 + k * 3 + x, none⟩ (.int .u8 (A.o r x)) = w9 at *
                      go_wp2
                      have hXd := hX5.drew
                      have hbd := below_drew' hb5
                      have hNd := hN5.drew
                      have hOd := hO5.below (w1 := w9.drew) (Below.refl _ _).drew
                      clear hX5 hb5 hN5 hO5
                      refine wp_region_held_drew (S := fun W => Blk W gn (ints (nbL N qx)) 2) (by kernel_rfl) hNd (fun hS0 => ?_)
                      generalize w9.drew = we at *
                      obtain ⟨old2, hcs2⟩ := Hcs2.out
                      have cS := (hXd.cell (2 + k * 3 + x)).trans hcs2
                      have fS := hXd.free (2 + k * 3 + x)
                      have hX6 := hXd.set (2 + k * 3 + x) (.int .u8 (ps : Int))
                      rw [Hnxt.out] at hX6
                      have hb6 := below_set' (o := 2 + k * 3 + x) hbd (b := gx) Hgx.out (.int .u8 (ps : Int))
                      (refine hK_take 0 (.int .i64 (k : Int)) rfl (by kernel_rfl) (by kernel_rfl) (by kernel_rfl) (fun _ _ _ h => h) rfl (fun W _ => by go_simp) hS0 ?_; (intro K hK; go_simp; refine hK _ ?_; clear hK K))
                      (refine hK_take 1 (.int .i64 (x : Int)) rfl (by kernel_rfl) (by kernel_rfl) (by kernel_rfl) (fun _ _ _ h => h) rfl (fun W _ => by go_simp) hS0 ?_; (intro K hK; go_simp; refine hK _ ?_; clear hK K))
                      (refine hK_take 2 (.slice (some ⟨gn, 0, none⟩) N N) rfl (by kernel_rfl) (by kernel_rfl) (by kernel_rfl) (fun _ _ _ h => h) rfl (fun W _ => by go_simp) hS0 ?_; (intro K hK; go_simp; refine hK _ ?_; clear hK K))
                      (refine hK_take 3 (.int .i64 (tq : Int)) rfl (by kernel_rfl) (by kernel_rfl) (by kernel_rfl) (fun _ _ _ h => h) rfl (fun W _ => by go_simp) hS0 ?_; (intro K hK; go_simp; refine hK _ ?_; clear hK K))
                      (refine hK_take 4 (.pointer (some ⟨gn, tq, none⟩)) rfl (by kernel_rfl) (by kernel_rfl) (by kernel_rfl) (fun _ _ _ h => h) rfl (fun W _ => by go_simp) hS0 ?_; (intro K hK; go_simp; refine hK _ ?_; clear hK K))
                      (refine hK_take 5 (.int .i64 (ps : Int)) rfl (by kernel_rfl) (by kernel_rfl) (by kernel_rfl) (fun _ _ _ h => h) rfl (fun W hW => by have cC := (hW.cell tq).trans Hnb.out; clear hW; go_simp) hS0 ?_; (intro K hK; go_simp; refine hK _ ?_; clear hK K))
                      (refine hK_take 6 (.int .u8 (ps : Int)) rfl (by kernel_rfl) (by kernel_rfl) (by kernel_rfl) (fun _ _ _ h => h) rfl (fun W _ => by go_simp) hS0 ?_; (intro K hK; go_simp; refine hK _ ?_; clear hK K))
                      (refine hK_take 7 (.pointer (some ⟨gx, 2, none⟩)) rfl (by kernel_rfl) (by kernel_rfl) (by kernel_rfl) (fun _ _ _ h => h) rfl (fun W _ => by go_simp) hS0 ?_; (intro K hK; go_simp; refine hK _ ?_; clear hK K))
                      (refine hK_take 8 (.pointer (some ⟨gx, 2 + k * 3, none⟩)) rfl (by kernel_rfl) (by kernel_rfl) (by kernel_rfl) (fun _ _ _ h => h) rfl (fun W _ => by go_simp) hS0 ?_; (intro K hK; go_simp; refine hK _ ?_; clear hK K))
                      (refine hK_take 9 (.pointer (some ⟨gx, 2 + k * 3 + x, none⟩)) rfl (by kernel_rfl) (by kernel_rfl) (by kernel_rfl) (fun _ _ _ h => h) rfl (fun W _ => by go_simp) hS0 ?_; (intro K hK; go_simp; refine hK _ ?_; clear hK K))
                      refine wpAnyH_ready (rs := [10]) (by kernel_rfl) (by simp) ?_
                      refine AllReadyH.cons rfl (fun K hK => ?_) AllReadyH.nil
                      go_simp
                      have hN6 := hNd.setOther gx (2 + k * 3 + x) (.int .u8 (ps : Int)) Hnx.out
                      refine hK.out _ _ hN6 (fun hS1 => ?_)
                      clear hK K
                      refine wpAnyH_done (by kernel_rfl) ?_ _
                      have hO6 := hOd.still (w1 := we.setCell ⟨gx, 2 + k * 3 + x, none⟩ (.int .u8 (ps : Int))) (fun q hq => Below.heap_setCell _ _ _ q (fun e => HvQ.out.2 ((show q = gx from e) ▸ hq)))
                      clear hS0 hS1 cS fS hXd hbd hNd hOd
                      go_wp2
                      go_roundw
                      case rel => exact ⟨x + 1, _, by omega, by go_num, rfl, by rw [Hq'.out]; exact hO6, HvQ, by rw [Hq'.out]; exact hN6, by rw [Hq'.out]; exact hX6, hb6⟩
                      case measure => simp [intOf] <;> omega
                    · have cN := (hNb.cell tq).trans (nbL_new hto hin)
                      have fN := hNb.free tq
                      have Hq' := Lib.hid (Hrow.out.trans (bPut_new hin))
                      rw [bPut_new hin] at Hput
                      have hput := nbL_put N qx tq hin
                      have hpos : bPos eqN (qx ++ [tq]) tq = qx.length := bPos_new qx tq (beq_self_eq_true tq) hin
                      have Hnb : Hid ((ints (nbL N (qx ++ [tq])))[tq]? = some (.int .i64 (qx.length : Int))) := Lib.hid (by
                        have := nbL_old (q := qx ++ [tq]) hto (by rw [hpos]; simp)
                        rw [hpos] at this
                        exact this)
                      have HgtQ : Hid ((qx ++ [tq]).getD k 0 = r) := Lib.hid (by
                        have := Hg1.out
                        simp only [List.getD] at this ⊢
                        rw [List.getElem?_append_left (by omega)]
                        exact this)
                      have Hnxt := Lib.hid (Hnxq.out (qx ++ [tq]) HgtQ.out)
                      rw [hpos] at Hnxt
                      have hw8 : IntKind.u8.wrap (qx.length : Int) = (qx.length : Int) := by simp [IntKind.wrap, IntKind.bits, IntKind.signed]; omega
                      have hN7 := hNb.set tq (.int .i64 (qx.length : Int))
                      rw [← ints_set, hput] at hN7
                      have hX7 := hX.setOther gn tq (.int .i64 (qx.length : Int)) (Ne.symm Hnx.out)
                      have hO7 := hO.still (w1 := wr.setCell ⟨gn, tq, none⟩ (.int .i64 (qx.length : Int))) (fun q hq => Below.heap_setCell _ _ _ q (fun e => Hv.out.1 ((show q = gn from e) ▸ hq)))
                      have hbw7 := below_set' (o := tq) hbw (b := gn) hgn3 (.int .i64 (qx.length : Int))
                      have hal := (Below.refl (wr.setCell ⟨gn, tq, none⟩ (.int .i64 (qx.length : Int))).heap.size (wr.setCell ⟨gn, tq, none⟩ (.int .i64 (qx.length : Int)))).alloc (Nat.le_refl _) (.cells #[.int .i64 (tq : Int)] 2)
                      have hNa := hN7.keptAll hal
                      have hXa := hX7.keptAll hal
                      have hOa := hO7.below hal
                      have hbwa := below_step hbw7 hal
                      have hZa : Blk ((wr.setCell ⟨gn, tq, none⟩ (.int .i64 (qx.length : Int))).alloc (.cells #[.int .i64 (tq : Int)] 2)) wr.heap.size #[.int .i64 (tq : Int)] 2 := Blk.new_at _ _ _ _ (by simp)
                      have Hql : Hid ((quI qx).length + 1 ≤ 1048576) := Lib.hid (by rw [quI_len]; omega)
                      have Hb38 : Hid (w3.heap.size ≤ ((wr.setCell ⟨gn, tq, none⟩ (.int .i64 (qx.length : Int))).alloc (.cells #[.int .i64 (tq : Int)] 2)).heap.size) := Lib.hid (by have := hNa.lt; omega)
                      have HltA := Lib.hid hNa.lt
                      have HltX := Lib.hid hXa.lt
                      have Hasz : Hid (((wr.setCell ⟨gn, tq, none⟩ (.int .i64 (qx.length : Int))).alloc (.cells #[.int .i64 (tq : Int)] 2)).heap.size = wr.heap.size + 1) := Lib.hid (by simp)
                      clear hin hput hpos Hnxq Hg1 hN7 hX7 hO7 hbw7 hal
                      go_wp2_with (at_builtin; refine wpList_push_int_at rfl (.tmp 87) (.tmp 89) rfl w3.heap.size _ (quI qx) rfl hOa wr.heap.size 1 (tq : Int) rfl hZa Hql.out Hb38.out ?_; intro v8 w8 hO8 hb8 hsp8 hat8; have hN8 : Blk w8 gn (ints (nbL N (qx ++ [tq]))) 2 := (hsp8 gn HltA.out (fun e => Hv.out.1 e.symm)).trans hNa; have hX8 : Blk w8 gx (mc (mwP A L t k x qx)) 27 := (hsp8 gx HltX.out (fun e => Hv.out.2 e.symm)).trans hXa; have hbw8 := hbwa.trans hb8)
                      rw [← quI_app] at hO8
                      rw [Hput.out] at hX8
                      have HvQ : Hid (v8.ownBlock ≠ some gn ∧ v8.ownBlock ≠ some gx) := Lib.hid (by
                        rcases hat8 with e | e
                        · rw [e]; exact Hv.out
                        · rw [e, Hasz.out]
                          exact ⟨fun h => by have := Option.some.inj h; omega, fun h => by have := Option.some.inj h; omega⟩)
                      obtain ⟨gq3, cq3, curq3, rfl, hgq3, hQ8, hqc8⟩ := hO8.opened (by rw [quI_len]; simp)
                      have HqkQ : Hid (curq3[k]? = some (.int .i64 (r : Int))) := Lib.hid (by
                        have := hqc8 k (by rw [quI_len]; simp; omega)
                        rw [quI_getD, HgtQ.out] at this
                        exact this)
                      have hlen : (quI (qx ++ [tq])).length = qx.length + 1 := by rw [quI_len]; simp
                      rw [hlen] at hO8 HvQ ⊢
                      have Hqx : Hid (gq3 ≠ gx) := Lib.hid (fun e => HvQ.out.2 (by simp [Value.ownBlock]; exact e))
                      have hkx2 : (k : Int) < (qx.length : Int) + 1 := by omega
                      clear hX hbw hQ hNb hO cL cQ cn1 cc1 cN fN hNa hXa hOa hbwa hZa hqc8 hlen hat8 hsp8 hb8
                      have hXd := hX8.drew
                      have hbd := below_drew' hbw8
                      have hQd := hQ8.drew
                      have hNd := hN8.drew
                      have hOd := hO8.below (w1 := w8.drew) (Below.refl _ _).drew
                      obtain ⟨old1, hcs1⟩ := mwP_cell A L t k x (qx ++ [tq]) (i := 50 + k * 3 + x) (by omega)
                      have Hcs2 := Lib.hid (mwQ_cell A L t k x (qx ++ [tq]) (i := 2 + k * 3 + x) (by omega))
                      clear hX8 hbw8 hQ8 hN8 hO8
                      go_wp2
                      refine wp_region_held_drew (S := fun W => (Blk W gq3 curq3 2 ∧ Blk W go curo 22) ∧ Below w3.heap.size w3 W) (by kernel_rfl) ⟨⟨hQd, (Hz.out _ hbd).2.2.1⟩, hbd⟩ (fun hS0 => ?_)
                      generalize w8.drew = wd at *
                      have cS := (hXd.cell (50 + k * 3 + x)).trans hcs1
                      have fS := hXd.free (50 + k * 3 + x)
                      have hX5 := hXd.set (50 + k * 3 + x) (.int .u8 (A.o r x))
                      rw [Hout.out (qx ++ [tq]) HgtQ.out] at hX5
                      have hb5 := below_set' (o := 50 + k * 3 + x) hbd (b := gx) Hgx.out (.int .u8 (A.o r x))
                      (refine hK_take 0 (.int .i64 (k : Int)) rfl (by kernel_rfl) (by kernel_rfl) (by kernel_rfl) (fun _ _ _ h => h) rfl (fun W _ => by go_simp) hS0 ?_; (intro K hK; go_simp; refine hK _ ?_; clear hK K))
                      (refine hK_take 1 (.int .i64 (x : Int)) rfl (by kernel_rfl) (by kernel_rfl) (by kernel_rfl) (fun _ _ _ h => h) rfl (fun W _ => by go_simp) hS0 ?_; (intro K hK; go_simp; refine hK _ ?_; clear hK K))
                      (refine hK_take 2 (.slice (some ⟨go, 0, none⟩) N co) rfl (by kernel_rfl) (by kernel_rfl) (by kernel_rfl) (fun _ _ _ h => h) rfl (fun W _ => by go_simp) hS0 ?_; (intro K hK; go_simp; refine hK _ ?_; clear hK K))
                      (refine hK_take 3 (.slice (some ⟨gq3, 0, none⟩) (qx.length + 1) cq3) rfl (by kernel_rfl) (by kernel_rfl) (by kernel_rfl) (fun _ _ _ h => h) rfl (fun W _ => by go_simp) hS0 ?_; (intro K hK; go_simp; refine hK _ ?_; clear hK K))
                      (refine hK_take 4 (.int .i64 (k : Int)) rfl (by kernel_rfl) (by kernel_rfl) (by kernel_rfl) (fun _ _ _ h => h) rfl (fun W _ => by go_simp) hS0 ?_; (intro K hK; go_simp; refine hK _ ?_; clear hK K))
                      (refine hK_take 5 (.pointer (some ⟨gq3, k, none⟩)) rfl (by kernel_rfl) (by kernel_rfl) (by kernel_rfl) (fun _ _ _ h => h) rfl (fun W _ => by go_simp) hS0 ?_; (intro K hK; go_simp; refine hK _ ?_; clear hK K))
                      (refine hK_take 6 (.int .i64 (r : Int)) rfl (by kernel_rfl) (by kernel_rfl) (by kernel_rfl) (fun _ _ _ h => h) rfl (fun W hW => by have cC := (hW.1.1.cell k).trans HqkQ.out; clear hW; go_simp) hS0 ?_; (intro K hK; go_simp; refine hK _ ?_; clear hK K))
                      (refine hK_take 7 (.int .i64 (x : Int)) rfl (by kernel_rfl) (by kernel_rfl) (by kernel_rfl) (fun _ _ _ h => h) rfl (fun W _ => by go_simp) hS0 ?_; (intro K hK; go_simp; refine hK _ ?_; clear hK K))
                      (refine hK_take 8 (.pointer (some ⟨go, r * 3, none⟩)) rfl (by kernel_rfl) (by kernel_rfl) (by kernel_rfl) (fun _ _ _ h => h) rfl (fun W _ => by go_simp) hS0 ?_; (intro K hK; go_simp; refine hK _ ?_; clear hK K))
                      (refine hK_take 9 (.pointer (some ⟨go, r * 3 + x, none⟩)) rfl (by kernel_rfl) (by kernel_rfl) (by kernel_rfl) (fun _ _ _ h => h) rfl (fun W _ => by go_simp) hS0 ?_; (intro K hK; go_simp; refine hK _ ?_; clear hK K))
                      (refine hK_take 10 (.int .u8 (A.o r x)) rfl (by kernel_rfl) (by kernel_rfl) (by kernel_rfl) (fun _ _ _ h => h) rfl (fun W hW => by have cC := (hW.1.2.cell (r * 3 + x)).trans Ho1.out; clear hW; go_simp) hS0 ?_; (intro K hK; go_simp; refine hK _ ?_; clear hK K))
                      (refine hK_take 11 (.pointer (some ⟨gx, 50, none⟩)) rfl (by kernel_rfl) (by kernel_rfl) (by kernel_rfl) (fun _ _ _ h => h) rfl (fun W _ => by go_simp) hS0 ?_; (intro K hK; go_simp; refine hK _ ?_; clear hK K))
                      (refine hK_take 12 (.pointer (some ⟨gx, 50 + k * 3, none⟩)) rfl (by kernel_rfl) (by kernel_rfl) (by kernel_rfl) (fun _ _ _ h => h) rfl (fun W _ => by go_simp) hS0 ?_; (intro K hK; go_simp; refine hK _ ?_; clear hK K))
                      (refine hK_take 13 (.pointer (some ⟨gx, 50 + k * 3 + x, none⟩)) rfl (by kernel_rfl) (by kernel_rfl) (by kernel_rfl) (fun _ _ _ h => h) rfl (fun W _ => by go_simp) hS0 ?_; (intro K hK; go_simp; refine hK _ ?_; clear hK K))
                      refine wpAnyH_ready (rs := [14]) (by kernel_rfl) (by simp) ?_
                      refine AllReadyH.cons rfl (fun K hK => ?_) AllReadyH.nil
                      go_simp
                      refine hK.out _ _ ⟨⟨hQd.setOther _ _ _ Hqx.out, hS0.1.2.setOther _ _ _ Hox.out⟩, hb5⟩ (fun hS1 => ?_)
                      clear hK K
                      refine wpAnyH_done (by kernel_rfl) ?_ _
                      have hN5 := hNd.setOther gx (50 + k * 3 + x) (.int .u8 (A.o r x)) Hnx.out
                      have hO5 := hOd.still (w1 := wd.setCell ⟨gx, 50 + k * 3 + x, none⟩ (.int .u8 (A.o r x))) (fun q hq => Below.heap_setCell _ _ _ q (fun e => HvQ.out.2 ((show q = gx from e) ▸ hq)))
                      clear hS0 hS1 cS fS hXd hbd hQd hNd hOd
                      generalize wd.setCell ⟨gx, 50 + k * 3 + x, none⟩ (.int .u8 (A.o r x)) = w9 at *
                      go_wp2
                      have hXd := hX5.drew
                      have hbd := below_drew' hb5
                      have hNd := hN5.drew
                      have hOd := hO5.below (w1 := w9.drew) (Below.refl _ _).drew
                      clear hX5 hb5 hN5 hO5
                      refine wp_region_held_drew (S := fun W => Blk W gn (ints (nbL N (qx ++ [tq]))) 2) (by kernel_rfl) hNd (fun hS0 => ?_)
                      generalize w9.drew = we at *
                      obtain ⟨old2, hcs2⟩ := Hcs2.out
                      have cS := (hXd.cell (2 + k * 3 + x)).trans hcs2
                      have fS := hXd.free (2 + k * 3 + x)
                      have hX6 := hXd.set (2 + k * 3 + x) (.int .u8 (qx.length : Int))
                      rw [Hnxt.out] at hX6
                      have hb6 := below_set' (o := 2 + k * 3 + x) hbd (b := gx) Hgx.out (.int .u8 (qx.length : Int))
                      (refine hK_take 0 (.int .i64 (k : Int)) rfl (by kernel_rfl) (by kernel_rfl) (by kernel_rfl) (fun _ _ _ h => h) rfl (fun W _ => by go_simp) hS0 ?_; (intro K hK; go_simp; refine hK _ ?_; clear hK K))
                      (refine hK_take 1 (.int .i64 (x : Int)) rfl (by kernel_rfl) (by kernel_rfl) (by kernel_rfl) (fun _ _ _ h => h) rfl (fun W _ => by go_simp) hS0 ?_; (intro K hK; go_simp; refine hK _ ?_; clear hK K))
                      (refine hK_take 2 (.slice (some ⟨gn, 0, none⟩) N N) rfl (by kernel_rfl) (by kernel_rfl) (by kernel_rfl) (fun _ _ _ h => h) rfl (fun W _ => by go_simp) hS0 ?_; (intro K hK; go_simp; refine hK _ ?_; clear hK K))
                      (refine hK_take 3 (.int .i64 (tq : Int)) rfl (by kernel_rfl) (by kernel_rfl) (by kernel_rfl) (fun _ _ _ h => h) rfl (fun W _ => by go_simp) hS0 ?_; (intro K hK; go_simp; refine hK _ ?_; clear hK K))
                      (refine hK_take 4 (.pointer (some ⟨gn, tq, none⟩)) rfl (by kernel_rfl) (by kernel_rfl) (by kernel_rfl) (fun _ _ _ h => h) rfl (fun W _ => by go_simp) hS0 ?_; (intro K hK; go_simp; refine hK _ ?_; clear hK K))
                      (refine hK_take 5 (.int .i64 (qx.length : Int)) rfl (by kernel_rfl) (by kernel_rfl) (by kernel_rfl) (fun _ _ _ h => h) rfl (fun W hW => by have cC := (hW.cell tq).trans Hnb.out; clear hW; go_simp) hS0 ?_; (intro K hK; go_simp; refine hK _ ?_; clear hK K))
                      (refine hK_take 6 (.int .u8 (qx.length : Int)) rfl (by kernel_rfl) (by kernel_rfl) (by kernel_rfl) (fun _ _ _ h => h) rfl (fun W _ => by go_simp) hS0 ?_; (intro K hK; go_simp; refine hK _ ?_; clear hK K))
                      (refine hK_take 7 (.pointer (some ⟨gx, 2, none⟩)) rfl (by kernel_rfl) (by kernel_rfl) (by kernel_rfl) (fun _ _ _ h => h) rfl (fun W _ => by go_simp) hS0 ?_; (intro K hK; go_simp; refine hK _ ?_; clear hK K))
                      (refine hK_take 8 (.pointer (some ⟨gx, 2 + k * 3, none⟩)) rfl (by kernel_rfl) (by kernel_rfl) (by kernel_rfl) (fun _ _ _ h => h) rfl (fun W _ => by go_simp) hS0 ?_; (intro K hK; go_simp; refine hK _ ?_; clear hK K))
                      (refine hK_take 9 (.pointer (some ⟨gx, 2 + k * 3 + x, none⟩)) rfl (by kernel_rfl) (by kernel_rfl) (by kernel_rfl) (fun _ _ _ h => h) rfl (fun W _ => by go_simp) hS0 ?_; (intro K hK; go_simp; refine hK _ ?_; clear hK K))
                      refine wpAnyH_ready (rs := [10]) (by kernel_rfl) (by simp) ?_
                      refine AllReadyH.cons rfl (fun K hK => ?_) AllReadyH.nil
                      go_simp
                      have hN6 := hNd.setOther gx (2 + k * 3 + x) (.int .u8 (qx.length : Int)) Hnx.out
                      refine hK.out _ _ hN6 (fun hS1 => ?_)
                      clear hK K
                      refine wpAnyH_done (by kernel_rfl) ?_ _
                      have hO6 := hOd.still (w1 := we.setCell ⟨gx, 2 + k * 3 + x, none⟩ (.int .u8 (qx.length : Int))) (fun q hq => Below.heap_setCell _ _ _ q (fun e => HvQ.out.2 ((show q = gx from e) ▸ hq)))
                      clear hS0 hS1 cS fS hXd hbd hNd hOd
                      go_wp2
                      go_roundw
                      case rel => exact ⟨x + 1, _, by omega, by go_num, rfl, by rw [Hq'.out]; exact hO6, HvQ, by rw [Hq'.out]; exact hN6, by rw [Hq'.out]; exact hX6, hb6⟩
                      case measure => simp [intOf] <;> omega
                  · obtain rfl : L = x := by omega
                    rw [← Hstep.out] at hO hNb hX hg2
                    rw [mwP_row] at hX
                    go_wp2
                    go_roundw
                    case rel => exact ⟨k + 1, _, by omega, by omega, by go_num, rfl, hO, Hv, hNb, hX, hbw⟩
                    case measure => simp [intOf] <;> omega
            · have hke : (bAll eqN (lstN A L t) L 0 k).length = k := by omega
              have Hq : Hid (bAll eqN (lstN A L t) L 0 256 = (bAll eqN (lstN A L t) L 0 k)) := Lib.hid (bAll_stay (E := eqN) (n := lstN A L t) L 0 k (by omega) 256 (by omega))
              rw [Hq.out] at Hlen Hmach
              have Hr : Hid (mkR A L 0 = setM A L 0 ∧ mkC A L 0 = 0) := Lib.hid (by
                have h16 : (setQ A L 0).length ≤ 16 := by rw [← Hlen.out]; omega
                unfold mkR mkC; rw [if_pos h16, if_pos h16]; exact ⟨rfl, rfl⟩)
              have Hall := Lib.hid (mwP_all A L t (bAll eqN (lstN A L t) L 0 k))
              rw [Hmach.out] at Hall
              have hXs : (mc (setM A L 0)).size = 98 := by rw [← Hall.out]; simp [mc, mwP, mkM]
              have HXs := Lib.hid hXs
              clear hXs Hfew HqN hlt hkq hlenN Hmach Hlen Hq
              generalize (bAll eqN (lstN A L t) L 0 k) = qf at *
              subst hke
              have hnl : ¬ ((qf.length : Int) < (qf.length : Int)) := by omega
              obtain ⟨oq, cq, rfl, _⟩ := hO.view
              rw [quI_len] at *
              obtain ⟨old1, hcs1⟩ := mwP_cell A L t qf.length 0 qf (i := 1) (by omega)
              have cS := (hX.cell 1).trans hcs1
              have fS := hX.free 1
              have hX2 := hX.set 1 (.int .i64 (qf.length : Int))
              rw [Hall.out] at hX2
              have hb2 := below_set' (o := 1) hbw (b := gx) Hgx.out (.int .i64 (qf.length : Int))
              have hR := (Hz.out _ hb2).2.1
              have hbwz := Hbw3.out.trans (below_le hb2 hge3)
              have F1 : Hid (cut (mc (setM A L 0)) 0 98 = mc (setM A L 0)) := Lib.hid (cut_all _ _ HXs.out)
              have F2 : Hid (over (mc zeroM) 0 (mc (setM A L 0)) = mc (setM A L 0)) := Lib.hid (over_all _ _ (by rw [HXs.out, HzS.out]))
              clear hcs1 hX hbw
              go_wp2_with (first | ((with_reducible show wpList _ _ _ _ _ _); refine wpList_load_blk rfl 27 (.tmp 13) rfl gx 0 rfl _ _ hX2 98 (by rw [HXs.out]; omega) _ Try.underlying27 rfl size_mach ?_; rw [F1.out]) | ((with_reducible show wpList _ _ _ _ _ _); refine wpList_store_blk rfl 27 (.tmp 4) (.tmp 118) rfl (w.heap.size + 1) 0 _ rfl rfl (mc zeroM) _ hR (by rw [HXs.out, HzS.out]; omega) (by rw [HXs.out]; exact size_mach) (mc_one _) ?_; intro w4 hb4 hkeep _ hbl; rw [F2.out] at hb4; have hbw4 := hbl w.heap.size w (by omega) hbwz; clear hkeep hbl))
              exact bodyPost_cell1 rfl rfl hb4 Try.underlying27 rfl (by rw [HXs.out]; exact size_mach) rfl ⟨ret_mc (by rw [Hl.out.1, Hr.out.1]) (by rw [Hl.out.2, Hr.out.2]), hbw4⟩
end Go.Proofs.Ytliohokcjgcmhaa

namespace Go.Proofs.Ytliohokcjgcmhaa
open Go.RowKit

set_option maxRecDepth 100000 in
set_option maxHeartbeats 2000000 in
theorem sMachineOfWord_calls (M : Mach) (hok : M.Ok) (v : Value) (zs : List Int) (w : World) (hv : SeesI w v zs) :
    Calls Try.prog 15 #[.agg (mc M), v] w fun e w' => e = .returned (.tuple #[.agg (mc (mwR M zs)), .int .i64 (mwC M zs)]) ∧ Below w.heap.size w w' := by
  obtain ⟨oa, ca, rfl, hvv⟩ := hv.view
  clear hvv
  have hz := zero_mach
  have F1 : Hid (cut (mc M) 0 98 = mc M) := Lib.hid (cut_all _ _ (mc_size hok)); have F2 : Hid (0 + 98 ≤ (mc M).size) := Lib.hid (by rw [mc_size hok]; omega)
  have HzS : Hid ((mc zeroM).size = 98) := Lib.hid (mc_size zeroM_ok)
  have hB : Blk ((w.alloc (.cells (mc M) 27)).alloc (.cells (mc zeroM) 27)) w.heap.size (mc M) 27 := (Blk.new w _ _).alloc _
  have hX : Blk ((w.alloc (.cells (mc M) 27)).alloc (.cells (mc zeroM) 27)) (w.heap.size + 1) (mc zeroM) 27 := Blk.new_at _ _ _ _ (by simp)
  have hbw0 : Below w.heap.size w ((w.alloc (.cells (mc M) 27)).alloc (.cells (mc zeroM) 27)) := by (repeat (first | exact Below.refl _ _ | refine below_drew' ?_ | refine below_drewN' ?_ _ | refine below_alloc' ?_ _ | refine below_set' ?_ (by (try simp); (try omega)) _ | refine below_step ?_ (by assumption)))
  have hvB := hv.below hbw0
  have hal : Below ((w.alloc (.cells (mc M) 27)).alloc (.cells (mc zeroM) 27)).heap.size ((w.alloc (.cells (mc M) 27)).alloc (.cells (mc zeroM) 27)) (((w.alloc (.cells (mc M) 27)).alloc (.cells (mc zeroM) 27)).alloc (.cells #[.slice oa zs.length ca] 26)) := by (repeat (first | exact Below.refl _ _ | refine below_drew' ?_ | refine below_drewN' ?_ _ | refine below_alloc' ?_ _ | refine below_set' ?_ (by (try simp); (try omega)) _ | refine below_step ?_ (by assumption)))
  have hL : SeesL (((w.alloc (.cells (mc M) 27)).alloc (.cells (mc zeroM) 27)).alloc (.cells #[.slice oa zs.length ca] 26)) (.slice (some ⟨w.heap.size + 1 + 1, 0, none⟩) 1 1) [(.slice oa zs.length ca, zs)] :=
    ⟨w.heap.size + 1 + 1, 1, rfl, Blk.new_at _ _ _ _ (by simp), fun i hi => by
      obtain rfl : i = 0 := by simp at hi; omega
      exact hvB.below hal⟩
  have hB1 := hB.keptAll hal
  have hX1 := hX.keptAll hal
  have hvC := hvB.below hal
  have hbw1 := below_step hbw0 hal
  clear hv hvB hal hX
  cases hm : isGrp M zs
  · have hcg : codeG M [(.slice oa zs.length ca, zs)] = 1 := by
      unfold isGrp at hm; simp only [codeG, grpsOk, List.all_cons, List.all_nil, Bool.and_true, hm]; rfl
    have Hr := Lib.hid (mw_bad hm)
    clear hm
    go_enter Try.func15, Try.ntmps15
    go_wp2_with (first | (with_reducible show wpList _ _ _ _ _ _; refine wpList_load_blk rfl 27 (.tmp 2) rfl w.heap.size 0 rfl (mc M) _ (hB) 98 F2.out _ Try.underlying27 rfl size_mach ?_; rw [F1.out]) | (go_at_call 50; refine (l02Code_calls M hok _ [(.slice oa zs.length ca, zs)] (by simp) _ hL).mono ?_; rintro e w2 ⟨rfl, hb2⟩; rw [hcg]; have hX2 := hX1.keptAll hb2; have hbw2 := below_step hbw1 hb2; have hge2 := hbw2.size) | ((with_reducible show wpList _ _ _ _ _ _); refine wpList_store_blk rfl 27 (.tmp 4) (.tmp 15) rfl (w.heap.size + 1) 0 (mc zeroM) rfl rfl (mc zeroM) _ hX2 (by rw [HzS.out]; omega) (by rw [HzS.out]; exact size_mach) (mc_one _) ?_; intro w4 hb4 hkeep _ hbl; rw [zero_over] at hb4; have hbw4 := hbl _ _ (by omega) hbw2; clear hkeep hbl))
    exact bodyPost_cell1 rfl rfl hb4 Try.underlying27 rfl (by rw [HzS.out]; exact size_mach) rfl ⟨ret_mc Hr.out.1.symm Hr.out.2.symm, hbw4⟩
  · obtain ⟨L, S, hg⟩ := Good.of hok (isGrp_parts hm).1
    have hcg : codeG M [(.slice oa zs.length ca, zs)] = 0 := by
      unfold isGrp at hm; simp only [codeG, grpsOk, List.all_cons, List.all_nil, Bool.and_true, hm]; rfl
    have hzs : wordOk S 80 zs := ⟨nums_of hg hm, by have := isGrp_len hm; omega⟩
    have Hr := Lib.hid (mw_good hg hm)
    have HT := Lib.hid (fun W hW => l02Machine_calls M L S hg (.slice oa zs.length ca) zs hzs W hW)
    have HRs := Lib.hid (mc_size (lmR_ok hg hzs))
    clear hg hzs hm
    obtain ⟨RR, hRR⟩ : ∃ r, lmR M L S zs = r := ⟨_, rfl⟩
    rw [hRR] at HT HRs Hr
    clear hRR
    have R1 : Hid (cut (mc RR) 0 98 = mc RR) := Lib.hid (cut_all _ _ HRs.out)
    have R2 : Hid (over (mc zeroM) 0 (mc RR) = mc RR) := Lib.hid (over_all _ _ (by rw [HRs.out, HzS.out]))
    generalize lmC M L S zs = cc at *
    go_enter Try.func15, Try.ntmps15
    go_wp2_with (first | (with_reducible show wpList _ _ _ _ _ _; refine wpList_load_blk rfl 27 (.tmp 2) rfl w.heap.size 0 rfl (mc M) _ (by first | exact hB2 | exact hB) 98 F2.out _ Try.underlying27 rfl size_mach ?_; rw [F1.out]) | (go_at_call 50; refine (l02Code_calls M hok _ [(.slice oa zs.length ca, zs)] (by simp) _ hL).mono ?_; rintro e w2 ⟨rfl, hb2⟩; rw [hcg]; have hv2 := hvC.below hb2; have hB2 := hB1.keptAll hb2; have hX2 := hX1.keptAll hb2; have hbw2 := below_step hbw1 hb2; clear hB hB1 hX1) | (go_at_call 51; refine (HT.out _ hv2).mono ?_; rintro e w3 ⟨rfl, hb3⟩; have hX3 := (hX2.keptAll hb3).alloc (.cells (mc zeroM) 27); have hbw3' := below_step hbw2 hb3; have hge3 := hbw3'.size; have hlx3 := (hX2.keptAll hb3).lt; have hbw3 := below_alloc' hbw3' (.cells (mc zeroM) 27); have hY3 : Blk (w3.alloc (.cells (mc zeroM) 27)) w3.heap.size (mc zeroM) 27 := Blk.new _ _ _; clear hbw3') | ((with_reducible show wpList _ _ _ _ _ _); refine wpList_store_blk rfl 27 (.tmp 7) (.tmp 21) rfl w3.heap.size 0 (mc RR) rfl rfl (mc zeroM) _ hY3 (by rw [HRs.out, HzS.out]; omega) (by rw [HRs.out]; exact size_mach) (mc_one _) ?_; intro w4 hY4 hkeep _ hbl; rw [R2.out] at hY4; have hX4 := hkeep _ _ _ (by omega) hX3; have hbw4 := hbl _ _ hge3 hbw3; clear hkeep hbl hY3) | ((with_reducible show wpList _ _ _ _ _ _); refine wpList_load_blk rfl 27 (.tmp 7) rfl w3.heap.size 0 rfl _ _ hY4 98 (by rw [HRs.out]; omega) _ Try.underlying27 rfl size_mach ?_; rw [R1.out]) | ((with_reducible show wpList _ _ _ _ _ _); refine wpList_store_blk rfl 27 (.tmp 4) (.tmp 23) rfl (w.heap.size + 1) 0 (mc RR) rfl rfl (mc zeroM) _ hX4 (by rw [HRs.out, HzS.out]; omega) (by rw [HRs.out]; exact size_mach) (mc_one _) ?_; intro w5 hb5 hkeep _ hbl; rw [R2.out] at hb5; have hbw5 := hbl _ _ (by omega) hbw4; clear hkeep hbl))
    exact bodyPost_cell1 rfl rfl hb5 Try.underlying27 rfl (by rw [HRs.out]; exact size_mach) rfl ⟨ret_mc Hr.out.1.symm Hr.out.2.symm, hbw5⟩
end Go.Proofs.Ytliohokcjgcmhaa
