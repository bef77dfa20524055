/- The model's 'l01Trivial'. · 'TrivialStates': the model. -/
import Derived.Test.YtliohokcjgcmhaaTriG
import Derived.Test.YtliohokcjgcmhaaMinL
import Derived.StillTailTactics
import Derived.Test.YtliohokcjgcmhaaMachD
namespace Go.Proofs.Ytliohokcjgcmhaa
open Go.RowKit

/-- A row of truth values in memory. -/
def bl (l : List Bool) : Array Value := (l.map Value.bool).toArray
theorem bl_size (l : List Bool) : (bl l).size = l.length := by simp [bl]
theorem bl_at (l : List Bool) (i : Nat) (hi : i < l.length) : (bl l)[i]? = some (.bool (l.getD i false)) := by
  simp [bl, List.getD, List.getElem?_eq_getElem hi]
theorem bl_set (l : List Bool) (i : Nat) (v : Bool) : bl (l.set i v) = (bl l).setIfInBounds i (.bool v) := by
  apply Array.ext'; simp [bl]
theorem bl_one (l : List Bool) : (bl l).all (·.oneCell') = true := by
  rw [Array.all_eq_true_iff_forall_mem]
  intro v hv
  simp only [bl, List.mem_toArray, List.mem_map] at hv
  obtain ⟨n, _, rfl⟩ := hv
  rfl
def nob : List Bool := List.replicate 16 false
theorem info_b16 : (Try.prog.info? 143).map (fun i => (i.zero, i.size)) = some (some (.agg (bl nob)), 16) := by kernel_rfl
theorem zero_b16 : ∀ w, (zeroValue 143).run Try.prog w = .ok (.agg (bl nob)) w := (zero_of_info info_b16).1
theorem size_b16 : (Try.prog.info? 143).map (·.size) = some 16 := (zero_of_info info_b16).2
theorem getD_set (l : List Bool) (i j : Nat) (v : Bool) (hi : i < l.length) : (l.set i v).getD j false = if j = i then v else l.getD j false := by
  rw [List.getD, List.getElem?_set]
  by_cases h : j = i
  · subst h
    rw [if_pos rfl, if_pos hi, if_pos rfl]; rfl
  · rw [if_neg (fun e => h e.symm), if_neg h]; rfl

/-- The first q are true. -/
def OnesTo (q : Nat) (l : List Bool) : Prop := l.length = 16 ∧ ∀ p, p < q → l.getD p false = true
theorem OnesTo.next {q : Nat} {l : List Bool} (h : OnesTo q l) (hq : q < 16) : OnesTo (q + 1) (l.set q true) :=
  ⟨by rw [List.length_set]; exact h.1, fun p hp => by
    rw [getD_set l q p true (by rw [h.1]; exact hq)]
    split
    · rfl
    · exact h.2 p (by omega)⟩
/-- What the truth values tell, in the middle of a round. -/
structure TriInv (M : Mach) (L S t q k : Nat) (l : List Bool) : Prop where
  len : l.length = 16
  low : ∀ p, p < S → trivB M L S p = true → l.getD p false = true
  all : ∀ p, p < S → l.getD p false = true → idB M L t p = true
  past : ∀ p, p < q → p < S → l.getD p false = true → idB M L (t + 1) p = true
  cur : l.getD q false = true → ∀ x, x < k → M.o q x = (x : Int) ∧ idB M L t (nn M q x) = true
theorem TriInv.start {M : Mach} {L S : Nat} {l : List Bool} (hl : l.length = 16) (h : ∀ p, p < S → l.getD p false = true) : TriInv M L S 0 0 0 l :=
  ⟨hl, fun p hp _ => h p hp, fun _ _ _ => rfl, fun _ hp => absurd hp (by omega), fun _ _ hx => absurd hx (by omega)⟩
theorem TriInv.step {M : Mach} {L S t q k : Nat} {l : List Bool} (hg : Good M L S) (h : TriInv M L S t q k l) (hq : q < S) (hk : k < L) (v : Bool) (hv : v = (l.getD q false && decide (M.o q k = (k : Int)) && l.getD (nn M q k) false)) : TriInv M L S t q (k + 1) (l.set q v) := by
  have hS := hg.S16
  have hn := hg.nn_lt q k hq hk
  have hat := fun p => getD_set l q p v (by rw [h.len]; omega)
  refine ⟨by rw [List.length_set]; exact h.len, fun p hp ht => ?_, fun p hp e => ?_, fun p hp hpS e => ?_, fun e x hx => ?_⟩
  · rw [hat p]
    by_cases hpq : p = q
    · subst hpq
      have h1 := trivB_at hg hq ht k hk
      rw [if_pos rfl, hv, h.low p hp ht, h.low _ hn h1.2]
      simp [h1.1]
    · rw [if_neg hpq]; exact h.low p hp ht
  · rw [hat p] at e
    by_cases hpq : p = q
    · subst hpq
      rw [if_pos rfl, hv] at e
      simp only [Bool.and_eq_true] at e
      exact h.all p hp e.1.1
    · rw [if_neg hpq] at e; exact h.all p hp e
  · rw [hat p, if_neg (by omega)] at e
    exact h.past p hp hpS e
  · rw [hat q, if_pos rfl, hv] at e
    simp only [Bool.and_eq_true, decide_eq_true_eq] at e
    rcases Nat.lt_or_ge x k with h1 | h1
    · exact h.cur e.1.1 x h1
    · obtain rfl : x = k := by omega
      exact ⟨e.1.2, h.all _ hn e.2⟩
theorem TriInv.row {M : Mach} {L S t q : Nat} {l : List Bool} (h : TriInv M L S t q L l) : TriInv M L S t (q + 1) 0 l :=
  ⟨h.len, h.low, h.all, fun p hp hpS e => by
    rcases Nat.lt_or_ge p q with h1 | h1
    · exact h.past p h1 hpS e
    · obtain rfl : p = q := by omega
      exact (idB_succ M L t p).2 (h.cur e), fun _ _ hx => absurd hx (by omega)⟩
theorem TriInv.round {M : Mach} {L S t : Nat} {l : List Bool} (h : TriInv M L S t S 0 l) : TriInv M L S (t + 1) 0 0 l :=
  ⟨h.len, h.low, fun p hp e => h.past p hp hp e, fun _ hp => absurd hp (by omega), fun _ _ hx => absurd hx (by omega)⟩
theorem TriInv.fin {M : Mach} {L S : Nat} {l : List Bool} (h : TriInv M L S (S + 1) 0 0 l) (q : Nat) (hq : q < S) : l.getD q false = trivB M L S q := by
  rw [Bool.eq_iff_iff]
  exact ⟨fun e => h.all q hq e, fun e => h.low q hq e⟩

set_option maxRecDepth 100000 in
set_option maxHeartbeats 2000000 in
theorem l01Trivial_calls (M : Mach) (L S : Nat) (hg : Good M L S) (w : World) :
    Calls Try.prog 119 #[.agg (mc M)] w fun e w' => (∃ l, e = .returned (.agg (bl l)) ∧ l.length = 16 ∧ ∀ q, q < S → l.getD q false = trivB M L S q) ∧ Below w.heap.size w w' := by
  have hok := hg.ok
  have hS16 := hg.S16
  have hS1 := hg.S1
  have hL3 := hg.L3
  have hcL := mc_L M
  have hcS := mc_S M
  rw [hg.hL] at hcL
  rw [hg.hS] at hcS
  have hz := zero_b16
  let W0 := ((w.alloc (.cells (mc M) 27)).alloc (.cells (bl nob) 143)).alloc (.cells (bl nob) 143)
  have hB1 : Blk W0 w.heap.size (mc M) 27 := ((Blk.new w _ _).alloc _).alloc _
  have hR1 : Blk W0 (w.heap.size + 1) (bl nob) 143 := (Blk.new_at _ _ _ _ (by simp)).alloc _
  have hC1 : Blk W0 (w.heap.size + 1 + 1) (bl nob) 143 := Blk.new_at _ _ _ _ (by simp)
  have hbel0 : Below w.heap.size w W0 := by show Below _ _ (World.alloc _ _); (repeat (first | exact Below.refl _ _ | refine below_drew' ?_ | refine below_drewN' ?_ _ | refine below_alloc' ?_ _ | refine below_set' ?_ (by (try simp); (try omega)) _ | refine below_step ?_ (by assumption)))
  have Hz16 : Hid ((bl nob).size = 16) := Lib.hid (by rw [bl_size]; rfl)
  have Hzo : Hid (over (bl nob) 0 (bl nob) = bl nob) := Lib.hid (over_all _ _ rfl)
  have F1 : Hid (cut (mc M) 0 98 = mc M) := Lib.hid (cut_all _ _ (mc_size hok)); have F2 : Hid (0 + 98 ≤ (mc M).size) := Lib.hid (by rw [mc_size hok]; omega)
  have Hg := Lib.hid hg
  clear hg
  go_enter Try.func119, Try.ntmps119
  go_wp2_with (with_reducible show wpList _ _ _ _ _ _; refine wpList_store_row rfl 143 _ _ rfl (w.heap.size + 1 + 1) 0 (bl nob) rfl rfl _ _ hC1 (by rw [Hz16.out]; omega) (by rw [Hz16.out]; exact size_b16) (bl_one _) _ Hzo.out ?_; intro w1 hs1)
  have hB2 := hs1.keep (by omega) hB1
  have hR2 := hs1.keep (by omega) hR1
  have hC2 := hs1.blk
  have hbw2 := hs1.below _ _ (by omega) hbel0
  clear hB1 hR1 hC1 hbel0 hs1
  have hOne : OnesTo 0 nob := ⟨rfl, fun _ h => absurd h (by omega)⟩
  go_loopw [4] (fun i wr => ∃ (q : Nat) (l : List Bool), q ≤ S ∧ i = .int .i64 q ∧ (Blk wr w.heap.size (mc M) 27 ∧ Blk wr (w.heap.size + 1) (bl nob) 143 ∧ Blk wr (w.heap.size + 1 + 1) (bl l) 143) ∧ Hid (OnesTo q l) ∧ Below w.heap.size w wr) (fun i _ => S - (intOf i).toNat)
  case atStart => exact ⟨0, _, by omega, rfl, ⟨hB2, hR2, hC2⟩, Lib.hid hOne, hbw2⟩
  case round =>
    clear hB2 hR2 hC2 hbw2 hOne
    obtain ⟨q, l, hq, rfl, ⟨hB, hR, hC⟩, HO, hbw⟩ := hrel
    have cA := hB.cell
    by_cases hlt : q < S
    · have hqi : (q : Int) < 16 := by omega
      have e1 := bl_at l q (by rw [HO.out.1]; omega)
      generalize l.getD q false = ov at *
      have cC := hC.cell
      have fC := hC.free
      have hC1 := hC.set q (.bool true)
      rw [← bl_set] at hC1
      have hB1 := hB.setOther (w.heap.size + 1 + 1) q (.bool true) (by omega)
      have hR1 := hR.setOther (w.heap.size + 1 + 1) q (.bool true) (by omega)
      have hbw1 := below_set' (o := q) hbw (b := w.heap.size + 1 + 1) (by omega) (.bool true)
      have Hn := Lib.hid (HO.out.next (by omega : q < 16))
      go_wp2
      go_roundw
      case rel => exact ⟨q + 1, _, by omega, by go_num, ⟨hB1, hR1, hC1⟩, Hn, hbw1⟩
      case measure => simp [intOf] <;> omega
    · have hSq : S = q := by omega
      subst hSq
      have hst : TriInv M L S 0 0 0 l := TriInv.start HO.out.1 HO.out.2
      go_wp2
      clear cA
      go_loopw [5] (fun i wr => ∃ (t : Nat) (l : List Bool), t ≤ S + 1 ∧ i = .int .i64 t ∧ (Blk wr w.heap.size (mc M) 27 ∧ Blk wr (w.heap.size + 1) (bl nob) 143 ∧ Blk wr (w.heap.size + 1 + 1) (bl l) 143) ∧ Hid (TriInv M L S t 0 0 l) ∧ Below w.heap.size w wr) (fun i _ => S + 1 - (intOf i).toNat)
      case atStart => exact ⟨0, _, by omega, rfl, ⟨hB, hR, hC⟩, Lib.hid hst, hbw⟩
      case round =>
        clear hB hR hC hbw hst HO
        obtain ⟨t, l1, ht, rfl, ⟨hB, hR, hC⟩, HT, hbw⟩ := hrel
        have cA := hB.cell
        by_cases htl : t ≤ S
        · go_wp2
          clear cA
          go_loopw [6] (fun i wr => ∃ (q : Nat) (l : List Bool), q ≤ S ∧ i = .int .i64 q ∧ (Blk wr w.heap.size (mc M) 27 ∧ Blk wr (w.heap.size + 1) (bl nob) 143 ∧ Blk wr (w.heap.size + 1 + 1) (bl l) 143) ∧ Hid (TriInv M L S t q 0 l) ∧ Below w.heap.size w wr) (fun i _ => S - (intOf i).toNat)
          case atStart => exact ⟨0, _, by omega, rfl, ⟨hB, hR, hC⟩, HT, hbw⟩
          case round =>
            clear hB hR hC hbw HT
            obtain ⟨q, l2, hq2, rfl, ⟨hB, hR, hC⟩, HT, hbw⟩ := hrel
            have cA := hB.cell
            by_cases hql : q < S
            · have hqi : (q : Int) < 16 := by omega
              have hq16 : q < 16 := by omega
              go_wp2
              clear cA
              go_loopw [7] (fun i wr => ∃ (k : Nat) (l : List Bool), k ≤ L ∧ i = .int .i64 k ∧ (Blk wr w.heap.size (mc M) 27 ∧ Blk wr (w.heap.size + 1) (bl nob) 143 ∧ Blk wr (w.heap.size + 1 + 1) (bl l) 143) ∧ Hid (TriInv M L S t q k l) ∧ Below w.heap.size w wr) (fun i _ => L - (intOf i).toNat)
              case atStart => exact ⟨0, _, by omega, rfl, ⟨hB, hR, hC⟩, HT, hbw⟩
              case round =>
                clear hB hR hC hbw HT
                obtain ⟨k, l3, hk, rfl, ⟨hB, hR, hC⟩, HT, hbw⟩ := hrel
                have cA := hB.cell
                by_cases hlk : k < L
                · have hk3 : k < 3 := by omega
                  have hki : (k : Int) < 3 := by omega
                  have hn := mc_n hok q k hq16 hk3
                  have ho := mc_o hok q k hq16 hk3
                  rw [Hg.out.nn_eq q k hql hlk] at hn
                  have hnl := Hg.out.nn_lt q k hql hlk
                  have eq0 := bl_at l3 q (by rw [HT.out.len]; omega)
                  have en := bl_at l3 (nn M q k) (by rw [HT.out.len]; omega)
                  have Hst := Lib.hid (HT.out.step Hg.out hql hlk)
                  generalize l3.getD (nn M q k) false = v3 at *
                  generalize l3.getD q false = v1 at *
                  generalize nn M q k = ni at *
                  have hni16 : (ni : Int) < 16 := by omega
                  have obd := Mach.o_bd hok q k
                  generalize M.o q k = ov at *
                  have cC := hC.cell
                  have fC := hC.free
                  cases v1
                  · have hC1 := hC.set q (.bool false)
                    rw [← bl_set] at hC1
                    have hB1 := hB.setOther (w.heap.size + 1 + 1) q (.bool false) (by omega)
                    have hR1 := hR.setOther (w.heap.size + 1 + 1) q (.bool false) (by omega)
                    have hbw1 := below_set' (o := q) hbw (b := w.heap.size + 1 + 1) (by omega) (.bool false)
                    have Hn := Lib.hid (Hst.out false (by simp))
                    clear Hst HT
                    go_wp2
                    go_roundw
                    case rel => exact ⟨k + 1, _, by omega, by go_num, ⟨hB1, hR1, hC1⟩, Hn, hbw1⟩
                    case measure => simp [intOf] <;> omega
                  · by_cases hv : ov = (k : Int)
                    · have hv' : (ov == (k : Int)) = true := by simpa using hv
                      have hd : decide (ov = (k : Int)) = true := by simpa using hv
                      rw [hd] at Hst
                      clear hv hd
                      cases v3
                      · have hC1 := hC.set q (.bool false)
                        rw [← bl_set] at hC1
                        have hB1 := hB.setOther (w.heap.size + 1 + 1) q (.bool false) (by omega)
                        have hR1 := hR.setOther (w.heap.size + 1 + 1) q (.bool false) (by omega)
                        have hbw1 := below_set' (o := q) hbw (b := w.heap.size + 1 + 1) (by omega) (.bool false)
                        have Hn := Lib.hid (Hst.out false (rfl))
                        clear Hst HT
                        go_wp2
                        go_roundw
                        case rel => exact ⟨k + 1, _, by omega, by go_num, ⟨hB1, hR1, hC1⟩, Hn, hbw1⟩
                        case measure => simp [intOf] <;> omega
                      · have hC1 := hC.set q (.bool true)
                        rw [← bl_set] at hC1
                        have hB1 := hB.setOther (w.heap.size + 1 + 1) q (.bool true) (by omega)
                        have hR1 := hR.setOther (w.heap.size + 1 + 1) q (.bool true) (by omega)
                        have hbw1 := below_set' (o := q) hbw (b := w.heap.size + 1 + 1) (by omega) (.bool true)
                        have Hn := Lib.hid (Hst.out true (rfl))
                        clear Hst HT
                        go_wp2
                        go_roundw
                        case rel => exact ⟨k + 1, _, by omega, by go_num, ⟨hB1, hR1, hC1⟩, Hn, hbw1⟩
                        case measure => simp [intOf] <;> omega
                    · have hv' : (ov == (k : Int)) = false := by simpa using hv
                      have hd : decide (ov = (k : Int)) = false := by simpa using hv
                      rw [hd] at Hst
                      clear hv hd
                      have hC1 := hC.set q (.bool false)
                      rw [← bl_set] at hC1
                      have hB1 := hB.setOther (w.heap.size + 1 + 1) q (.bool false) (by omega)
                      have hR1 := hR.setOther (w.heap.size + 1 + 1) q (.bool false) (by omega)
                      have hbw1 := below_set' (o := q) hbw (b := w.heap.size + 1 + 1) (by omega) (.bool false)
                      have Hn := Lib.hid (Hst.out false (by simp))
                      clear Hst HT
                      go_wp2
                      go_roundw
                      case rel => exact ⟨k + 1, _, by omega, by go_num, ⟨hB1, hR1, hC1⟩, Hn, hbw1⟩
                      case measure => simp [intOf] <;> omega
                · have hLk : L = k := by omega
                  subst hLk
                  have Hn := Lib.hid HT.out.row
                  go_wp2
                  go_roundw
                  case rel => exact ⟨q + 1, _, by omega, by go_num, ⟨hB, hR, hC⟩, Hn, hbw⟩
                  case measure => simp [intOf] <;> omega
            · have hSq : S = q := by omega
              subst hSq
              have Hn := Lib.hid HT.out.round
              go_wp2
              go_roundw
              case rel => exact ⟨t + 1, _, by omega, by go_num, ⟨hB, hR, hC⟩, Hn, hbw⟩
              case measure => simp [intOf] <;> omega
        · have htS : t = S + 1 := by omega
          subst htS
          have Hls : Hid ((bl l1).size = 16) := Lib.hid (by rw [bl_size, HT.out.len])
          have Hlc : Hid (cut (bl l1) 0 16 = bl l1) := Lib.hid (cut_all _ _ Hls.out)
          have Hlo : Hid (over (bl nob) 0 (bl l1) = bl l1) := Lib.hid (over_all _ _ (by rw [Hls.out, Hz16.out]))
          go_wp2_with (first | (with_reducible show wpList _ _ _ _ _ _; refine wpList_load_blk rfl 143 (.tmp 3) rfl (w.heap.size + 1 + 1) 0 rfl (bl l1) _ hC 16 (by rw [Hls.out]; omega) _ Try.underlying143 rfl size_b16 ?_; rw [Hlc.out]) | (with_reducible show wpList _ _ _ _ _ _; refine wpList_store_row rfl 143 _ _ rfl (w.heap.size + 1) 0 (bl l1) rfl rfl _ _ hR (by rw [Hls.out, Hz16.out]; omega) (by rw [Hls.out]; exact size_b16) (bl_one _) _ Hlo.out ?_; intro w8 hs8))
          exact bodyPost_cell rfl rfl hs8.blk Try.underlying143 rfl (by rw [Hls.out]; exact size_b16) rfl ⟨⟨l1, rfl, HT.out.len, HT.out.fin⟩, hs8.below _ _ (by omega) hbw⟩
end Go.Proofs.Ytliohokcjgcmhaa

namespace Go.Proofs.Ytliohokcjgcmhaa
open Go.RowKit

theorem ret_li' {v : Value} {m m' : Int} (h' : m = m') : Ending.returned (.tuple #[v, .int .i64 m]) = Ending.returned (.tuple #[v, .int .i64 m']) := by rw [h']

theorem tri_le' {w : World} {base base' : Nat} {v : Value} {zs : List Int} (h : OwnI w base v zs) (hb : base' ≤ base) : OwnI w base' v zs := by
  refine ⟨h.1, ?_⟩
  rcases h.2 with h2 | ⟨g, cap, cur, hv', hg', r⟩
  · exact Or.inl h2
  · exact Or.inr ⟨g, cap, cur, hv', by omega, r⟩
theorem spares_b {w w' : World} {v : Value} {b base : Nat} {c : Array Value} {zs : List Int} (h : Spares w w' v) (hB : Blk w b c 143) (ho : OwnI w base v zs) : Blk w' b c 143 := by
  unfold Blk
  rw [h b hB.lt (fun e => ?_)]
  · exact hB
  · rcases ho.2 with ⟨rfl, _⟩ | ⟨g, c1, cur, rfl, _, hh, _⟩
    · cases e
    · have : b = g := by simpa [Value.ownBlock] using e
      subst this
      unfold Blk at hB
      rw [hh] at hB
      simp at hB

end Go.Proofs.Ytliohokcjgcmhaa
