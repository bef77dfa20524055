/- The lengths of the cycles of a list of numbers: plain data; the program and the model. -/
import Derived.Test.YticnpajbefflbaaBls
import Derived.Test.YticnpajbefflbaaArgs
import Derived.Test.YticnpajbefflbaaBase
import Derived.Test.YticnpajbefflbaaLaws
namespace Go.Proofs.Yticnpajbefflbaa
open Go.RowKit

/-- The cycle from a number, step for step: what is met, and where one is. -/
def wk (zs : List Int) (met : List Bool) (i : Nat) : Nat → List Bool × Nat
  | 0 => (met, i)
  | j + 1 => ((wk zs met i j).1.set (wk zs met i j).2 true, (zs.getD (wk zs met i j).2 0).toNat)
def stopB (zs : List Int) (met : List Bool) (i j : Nat) : Bool := (wk zs met i j).1.getD (wk zs met i j).2 true
def cycJ (zs : List Int) (met : List Bool) (i : Nat) : Nat := (List.range (met.length + 1)).findIdx (stopB zs met i)
def cs (zs : List Int) : Nat → List Bool × List Int
  | 0 => (List.replicate zs.length false, [])
  | k + 1 => ((wk zs (cs zs k).1 k (cycJ zs (cs zs k).1 k)).1, if cycJ zs (cs zs k).1 k = 0 then (cs zs k).2 else (cs zs k).2 ++ [(cycJ zs (cs zs k).1 k : Int)])
def cycL (zs : List Int) : List Int := (cs zs zs.length).2
/-- Numbers below the list's length. -/
def inB (zs : List Int) : Prop := ∀ p, p < zs.length → 0 ≤ zs.getD p 0 ∧ (zs.getD p 0).toNat < zs.length
theorem wk_ok (zs : List Int) (hz : inB zs) (met : List Bool) (i : Nat) (hm : met.length = zs.length) (hi : i < zs.length) : ∀ j, (wk zs met i j).1.length = zs.length ∧ (wk zs met i j).2 < zs.length
  | 0 => ⟨hm, hi⟩
  | j + 1 => by
    obtain ⟨h1, h2⟩ := wk_ok zs hz met i hm hi j
    exact ⟨by simp [wk, h1], (hz _ h2).2⟩
theorem count_set (l : List Bool) : ∀ (i : Nat), l.getD i true = false → (l.set i true).count false + 1 = l.count false := by
  induction l with
  | nil => intro i h; simp at h
  | cons b l ih =>
    intro i h
    cases i with
    | zero =>
      simp at h
      subst h
      simp
    | succ i =>
      have := ih i (by simpa using h)
      rw [List.set_cons_succ, List.count_cons, List.count_cons]
      omega
theorem stop_some (zs : List Int) (met : List Bool) (i : Nat) (hm : met.length = zs.length) : ∃ j, j ≤ zs.length ∧ stopB zs met i j = true := by
  by_cases h : ∃ j, j ≤ zs.length ∧ stopB zs met i j = true
  · exact h
  exfalso
  have hno : ∀ j, j ≤ zs.length → stopB zs met i j = false := fun j hj => by
    cases hb : stopB zs met i j
    · rfl
    · exact absurd ⟨j, hj, hb⟩ h
  have hc : ∀ j, j ≤ zs.length + 1 → (wk zs met i j).1.count false + j = met.count false := by
    intro j
    induction j with
    | zero => intro _; rfl
    | succ j ih =>
      intro hj
      have h1 := count_set (wk zs met i j).1 (wk zs met i j).2 (hno j (by omega))
      have h2 := ih (by omega)
      simp only [wk]
      omega
  have := hc (zs.length + 1) (Nat.le_refl _)
  have := List.count_le_length (a := false) (l := met)
  omega
theorem cycJ_ok (zs : List Int) (met : List Bool) (i : Nat) (hm : met.length = zs.length) : cycJ zs met i ≤ zs.length ∧ stopB zs met i (cycJ zs met i) = true ∧ ∀ j, j < cycJ zs met i → stopB zs met i j = false := by
  obtain ⟨j0, hj0, hs⟩ := stop_some zs met i hm
  have hlt : cycJ zs met i < (List.range (met.length + 1)).length := by
    unfold cycJ
    exact List.findIdx_lt_length_of_exists ⟨j0, by simp; omega, hs⟩
  refine ⟨by simp at hlt; omega, ?_, fun j hj => ?_⟩
  · have hlt2 : (List.range (met.length + 1)).findIdx (stopB zs met i) < (List.range (met.length + 1)).length := hlt
    have := List.findIdx_getElem (w := hlt2)
    rw [List.getElem_range] at this
    exact this
  · have := List.not_of_lt_findIdx hj
    simpa using this
theorem cs_ok (zs : List Int) (hz : inB zs) : ∀ k, k ≤ zs.length → (cs zs k).1.length = zs.length ∧ (cs zs k).2.length ≤ k
  | 0, _ => by simp [cs]
  | k + 1, hk => by
    obtain ⟨h1, h2⟩ := cs_ok zs hz k (by omega)
    refine ⟨(wk_ok zs hz _ k h1 (by omega) _).1, ?_⟩
    simp only [cs]
    split
    · omega
    · simp; omega
theorem info_bool : (Try.prog.info? 4).map (fun i => (i.zero, i.size, i.bytes)) = some (some (.bool false), 1, 1) := by kernel_rfl
theorem made_bls (n : Nat) : madeCells (Value.bool false).cells n = bls (List.replicate n false) := by
  apply Array.ext
  · simp [madeCells, bls]
  · intro i h1 h2
    simp [madeCells, Value.cells, Nat.mod_one, bls]
theorem mk_bls (n : Nat) (hn : n ≤ 1048576) (W : World) : (Instr.makeSlice 55 (.int .i64 n) (.int .i64 n)).run Try.prog W = .ok (.slice (some ⟨W.heap.size, 0, none⟩) n n) (W.alloc (.cells (bls (List.replicate n false)) 4)) := by
  obtain ⟨i0, hi, hz0, hz1, hz2⟩ := info_parts info_bool
  have := run_make (P := Try.prog) W 55 4 i0 (.bool false) Try.underlying55 hi hz0 .i64 .i64 n n (by omega) (by omega) (by rw [hz2]; omega) (by omega)
  rwa [hz1, Int.toNat_natCast, Nat.mul_one, made_bls] at this
theorem bls_at (l : List Bool) (i : Nat) (hi : i < l.length) : (bls l)[i]? = some (.bool (l.getD i true)) := by
  simp [bls, List.getD, List.getElem?_eq_getElem hi]

set_option maxRecDepth 100000 in
set_option maxHeartbeats 2000000 in
theorem cycleLengths_calls (v : Value) (zs : List Int) (hz : inB zs) (hN : zs.length ≤ 100000) (w : World) (hv : SeesI w v zs) :
    Calls Try.prog 66 #[v] w fun e w' => ∃ v1, e = .returned v1 ∧ OwnI w' w.heap.size v1 (cycL zs) ∧ Below w.heap.size w w' := by
  obtain ⟨oa, ca, hve, hvc⟩ := hv.view
  subst hve
  have Hv := Lib.hid hv
  have hmk := mk_bls zs.length (by omega) w
  have HC := Lib.hid (cs_ok zs hz)
  have HK := Lib.hid (fun k hk => wk_ok zs hz (cs zs k).1 k (HC.out k (Nat.le_of_lt hk)).1 hk)
  have HJ := Lib.hid (fun k hk => cycJ_ok zs (cs zs k).1 k (HC.out k (Nat.le_of_lt hk)).1)
  have Hz := Lib.hid hz
  have hB0 : Blk (w.alloc (.cells (bls (List.replicate zs.length false)) 4)) w.heap.size (bls (cs zs 0).1) 4 := Blk.new w _ _
  have hO0 : OwnI (w.alloc (.cells (bls (List.replicate zs.length false)) 4)) (w.heap.size + 1) (.slice none 0 0) (cs zs 0).2 := OwnI.nil _ _
  have hbw0 : Below w.heap.size w (w.alloc (.cells (bls (List.replicate zs.length false)) 4)) := by (repeat (first | exact Below.refl _ _ | refine below_drew' ?_ | refine below_drewN' ?_ _ | refine below_alloc' ?_ _ | refine below_set' ?_ (by (try simp); (try omega)) _ | refine below_step ?_ (by assumption)))
  clear hv hvc hz
  go_enter Try.func66, Try.ntmps66
  go_wp2_with fail
  clear hmk
  go_loopw [3, 13] (fun o i wr => ∃ k : Nat, k ≤ zs.length ∧ i = .int .i64 k ∧ OwnI wr (w.heap.size + 1) o (cs zs k).2 ∧ Blk wr w.heap.size (bls (cs zs k).1) 4 ∧ Below w.heap.size w wr) (fun _ i _ => zs.length - (intOf i).toNat)
  case atStart => exact ⟨0, by omega, rfl, hO0, hB0, hbw0⟩
  case round =>
    clear hO0 hB0 hbw0
    obtain ⟨k, hk, rfl, hO, hB, hbw⟩ := hrel
    by_cases hlt : k < zs.length
    · have hki : (k : Int) < (zs.length : Int) := by omega
      obtain ⟨j1, j2, j3⟩ := HJ.out k hlt
      have HKk := Lib.hid (HK.out k hlt)
      have Hst := Lib.hid j3
      have Hs2 := Lib.hid j2
      have HN1 : Hid ((cs zs (k + 1)).1 = (wk zs (cs zs k).1 k (cycJ zs (cs zs k).1 k)).1) := Lib.hid rfl
      have HN2 : Hid ((cs zs (k + 1)).2 = if cycJ zs (cs zs k).1 k = 0 then (cs zs k).2 else (cs zs k).2 ++ [(cycJ zs (cs zs k).1 k : Int)]) := Lib.hid rfl
      have Hln := Lib.hid (HC.out k hk).2
      clear j2 j3
      generalize hmet : (cs zs k).1 = met at *
      generalize hout : (cs zs k).2 = out at *
      generalize hJ : cycJ zs met k = J at *
      clear hmet hout hJ
      have hw0 : wk zs met k 0 = (met, k) := rfl
      go_wp2_with fail
      go_loopw [6, 7] (fun ln i wx => ∃ j : Nat, j ≤ J ∧ ln = .int .i64 j ∧ i = .int .i64 ((wk zs met k j).2 : Nat) ∧ OwnI wx (w.heap.size + 1) u3 out ∧ Blk wx w.heap.size (bls (wk zs met k j).1) 4 ∧ Below w.heap.size w wx) (fun ln _ _ => J - (intOf ln).toNat)
      case atStart => exact ⟨0, by omega, rfl, by rw [hw0], hO, by rw [hw0]; exact hB, hbw⟩
      case round =>
        clear hO hB hbw
        obtain ⟨j, hj, rfl, rfl, hO, hB, hbw⟩ := hrel
        obtain ⟨m1, m2⟩ := HKk.out j
        have hsz := hbw.size
        have hstep : wk zs met k (j + 1) = ((wk zs met k j).1.set (wk zs met k j).2 true, (zs.getD (wk zs met k j).2 0).toNat) := rfl
        have e1 := bls_at (wk zs met k j).1 (wk zs met k j).2 (by omega)
        by_cases hjl : j < J
        · have hs := Hst.out j hjl
          unfold stopB at hs
          rw [hs] at e1
          have HS1 : Hid ((wk zs met k (j + 1)).1 = (wk zs met k j).1.set (wk zs met k j).2 true) := Lib.hid (by rw [hstep])
          have HS2 : Hid (((wk zs met k (j + 1)).2 : Int) = zs.getD (wk zs met k j).2 0) := Lib.hid (by
            have := (Hz.out _ m2).1
            rw [hstep]; show (((zs.getD (wk zs met k j).2 0).toNat : Nat) : Int) = _; omega)
          clear hstep hs
          generalize (wk zs met k j).1 = mt at *
          generalize (wk zs met k j).2 = p at *
          have hpi : (p : Int) < (zs.length : Int) := by omega
          obtain ⟨g, hg, _, hcz⟩ := (Hv.out.below hbw).at p m2
          subst hg
          have eg : zs.getD p 0 = zs[p] := by simp [List.getD, List.getElem?_eq_getElem m2]
          rw [eg] at HS2
          have hgl : g < w.heap.size := by
            obtain ⟨g', hg', hl', _⟩ := Hv.out.at p m2
            simp at hg'
            omega
          have c1 := hB.cell p
          rw [e1] at c1
          have f1 := hB.free
          have hB2 := hB.set p (.bool true)
          have hcz2 : (wr.setCell ⟨w.heap.size, p, none⟩ (.bool true)).cell? ⟨g, p, none⟩ = some (.int .i64 zs[p]) := by
            rw [World.cell?_setCell_far _ _ _ _ (by show w.heap.size ≠ g; omega)]; exact hcz
          have hO2 := ownI_at hO (fun q hq => Below.heap_setCell wr ⟨w.heap.size, p, none⟩ (.bool true) q (by have := ownI_ge hO q hq; show q ≠ w.heap.size; omega))
          have hbw2 := below_set' (o := p) hbw (b := w.heap.size) (Nat.le_refl _) (.bool true)
          rw [← bls_set, ← HS1.out] at hB2
          clear hB hO hbw hcz eg
          generalize zs[p] = zp at *
          go_wp2_with fail
          go_roundw
          case rel => exact ⟨j + 1, by omega, by go_num, by rw [HS2.out], hO2, hB2, hbw2⟩
          case measure => simp [intOf] <;> omega
        · obtain rfl : j = J := by omega
          have hs := Hs2.out
          unfold stopB at hs
          rw [hs] at e1
          rw [← HN1.out] at hB
          clear hstep hs
          have c1 := hB.cell (wk zs met k j).2
          rw [HN1.out, e1] at c1
          have hpi : (((wk zs met k j).2 : Nat) : Int) < (zs.length : Int) := by omega
          generalize (wk zs met k j).2 = p at *
          by_cases hj0 : j = 0
          · have hj0i : ¬ ((0 : Int) < (j : Int)) := by omega
            have Hn2 : Hid ((cs zs (k + 1)).2 = out) := Lib.hid (by rw [HN2.out, if_pos hj0])
            clear HN2
            go_wp2_with fail
            go_roundw
            case rel => exact ⟨k + 1, by omega, by go_num, by rw [Hn2.out]; exact hO, hB, hbw⟩
            case measure => simp [intOf] <;> omega
          · have hj0i : (0 : Int) < (j : Int) := by omega
            have Hn2 : Hid ((cs zs (k + 1)).2 = out ++ [(j : Int)]) := Lib.hid (by rw [HN2.out, if_neg hj0])
            clear HN2
            have hA : Below wr.heap.size wr (wr.alloc (.cells #[.int .i64 (j : Int)] 2)) := by (repeat (first | exact Below.refl _ _ | refine below_drew' ?_ | refine below_drewN' ?_ _ | refine below_alloc' ?_ _ | refine below_set' ?_ (by (try simp); (try omega)) _ | refine below_step ?_ (by assumption)))
            have hO1 := hO.below hA
            have hB1 := hB.keptAll hA
            have hbw1 := below_step hbw hA
            have hlt1 := hB.lt
            have hnw : Blk (wr.alloc (.cells #[.int .i64 (j : Int)] 2)) wr.heap.size #[.int .i64 (j : Int)] 2 := Blk.new _ _ _
            go_wp2_with (at_builtin; refine wpList_push_int rfl (.tmp 33) (.tmp 35) rfl (w.heap.size + 1) _ out rfl hO1 wr.heap.size 1 (j : Int) rfl hnw (by have := Hln.out; omega) (by simp; omega) ?_; intro v1 w4 hO4 hb4; have hB4 := hB1.kept hb4 (by omega); have hbw4 := hbw1.trans (below_le hb4 (by omega)))
            rw [← Hn2.out] at hO4
            go_roundw
            case rel => exact ⟨k + 1, by omega, by go_num, hO4, hB4, hbw4⟩
            case measure => simp [intOf] <;> omega
    · obtain rfl : k = zs.length := by omega
      go_wp2
      go_ret
      exact ⟨_, rfl, hO.base_le' (by omega), hbw⟩

set_option maxRecDepth 100000 in
set_option maxHeartbeats 2000000 in
theorem l03Cycles_calls (v : Value) (zs : List Int) (hz : inB zs) (hN : zs.length ≤ 100000) (w : World) (hv : SeesI w v zs) :
    Calls Try.prog 49 #[v] w fun e w' => ∃ v1, e = .returned v1 ∧ OwnI w' w.heap.size v1 (cycL zs) ∧ Below w.heap.size w w' := by
  obtain ⟨oa, ca, hve, hvc⟩ := hv.view
  subst hve
  have Hv := Lib.hid hv
  have hmk := mk_bls zs.length (by omega) w
  have HC := Lib.hid (cs_ok zs hz)
  have HK := Lib.hid (fun k hk => wk_ok zs hz (cs zs k).1 k (HC.out k (Nat.le_of_lt hk)).1 hk)
  have HJ := Lib.hid (fun k hk => cycJ_ok zs (cs zs k).1 k (HC.out k (Nat.le_of_lt hk)).1)
  have Hz := Lib.hid hz
  have hB0 : Blk ((w.alloc (.cells (bls (List.replicate zs.length false)) 4)).alloc (.cells #[] 2)) w.heap.size (bls (cs zs 0).1) 4 := (Blk.new w _ _).alloc _
  have hO0 : OwnI ((w.alloc (.cells (bls (List.replicate zs.length false)) 4)).alloc (.cells #[] 2)) (w.heap.size + 1) (.slice (some ⟨w.heap.size + 1, 0, none⟩) 0 0) (cs zs 0).2 := by
    have := OwnI.empty (w.alloc (.cells (bls (List.replicate zs.length false)) 4)) (w.heap.size + 1) 0 #[] (by simp) (by unfold maxLen; omega) rfl
    have h2 : OwnI ((w.alloc (.cells (bls (List.replicate zs.length false)) 4)).alloc (.cells #[] 2)) (w.heap.size + 1) (.slice (some ⟨w.heap.size + 1, 0, none⟩) 0 0) [] := by simpa using this
    exact h2
  have hbw0 : Below w.heap.size w ((w.alloc (.cells (bls (List.replicate zs.length false)) 4)).alloc (.cells #[] 2)) := by (repeat (first | exact Below.refl _ _ | refine below_drew' ?_ | refine below_drewN' ?_ _ | refine below_alloc' ?_ _ | refine below_set' ?_ (by (try simp); (try omega)) _ | refine below_step ?_ (by assumption)))
  clear hv hvc hz
  go_enter Try.func49, Try.ntmps49
  go_wp2_with fail
  clear hmk
  go_loopw [4, 5] (fun o i wr => ∃ k : Nat, k ≤ zs.length ∧ i = .int .i64 k ∧ OwnI wr (w.heap.size + 1) o (cs zs k).2 ∧ Blk wr w.heap.size (bls (cs zs k).1) 4 ∧ Below w.heap.size w wr) (fun _ i _ => zs.length - (intOf i).toNat)
  case atStart => exact ⟨0, by omega, rfl, hO0, hB0, hbw0⟩
  case round =>
    clear hO0 hB0 hbw0
    obtain ⟨k, hk, rfl, hO, hB, hbw⟩ := hrel
    by_cases hlt : k < zs.length
    · have hki : (k : Int) < (zs.length : Int) := by omega
      obtain ⟨j1, j2, j3⟩ := HJ.out k hlt
      have HKk := Lib.hid (HK.out k hlt)
      have Hst := Lib.hid j3
      have Hs2 := Lib.hid j2
      have HN1 : Hid ((cs zs (k + 1)).1 = (wk zs (cs zs k).1 k (cycJ zs (cs zs k).1 k)).1) := Lib.hid rfl
      have HN2 : Hid ((cs zs (k + 1)).2 = if cycJ zs (cs zs k).1 k = 0 then (cs zs k).2 else (cs zs k).2 ++ [(cycJ zs (cs zs k).1 k : Int)]) := Lib.hid rfl
      have Hln := Lib.hid (HC.out k hk).2
      clear j2 j3
      generalize hmet : (cs zs k).1 = met at *
      generalize hout : (cs zs k).2 = out at *
      generalize hJ : cycJ zs met k = J at *
      clear hmet hout hJ
      have hw0 : wk zs met k 0 = (met, k) := rfl
      go_wp2_with fail
      go_loopw [6, 7] (fun ln i wx => ∃ j : Nat, j ≤ J ∧ ln = .int .i64 j ∧ i = .int .i64 ((wk zs met k j).2 : Nat) ∧ OwnI wx (w.heap.size + 1) u4 out ∧ Blk wx w.heap.size (bls (wk zs met k j).1) 4 ∧ Below w.heap.size w wx) (fun ln _ _ => J - (intOf ln).toNat)
      case atStart => exact ⟨0, by omega, rfl, by rw [hw0], hO, by rw [hw0]; exact hB, hbw⟩
      case round =>
        clear hO hB hbw
        obtain ⟨j, hj, rfl, rfl, hO, hB, hbw⟩ := hrel
        obtain ⟨m1, m2⟩ := HKk.out j
        have hsz := hbw.size
        have hstep : wk zs met k (j + 1) = ((wk zs met k j).1.set (wk zs met k j).2 true, (zs.getD (wk zs met k j).2 0).toNat) := rfl
        have e1 := bls_at (wk zs met k j).1 (wk zs met k j).2 (by omega)
        by_cases hjl : j < J
        · have hs := Hst.out j hjl
          unfold stopB at hs
          rw [hs] at e1
          have HS1 : Hid ((wk zs met k (j + 1)).1 = (wk zs met k j).1.set (wk zs met k j).2 true) := Lib.hid (by rw [hstep])
          have HS2 : Hid (((wk zs met k (j + 1)).2 : Int) = zs.getD (wk zs met k j).2 0) := Lib.hid (by
            have := (Hz.out _ m2).1
            rw [hstep]; show (((zs.getD (wk zs met k j).2 0).toNat : Nat) : Int) = _; omega)
          clear hstep hs
          generalize (wk zs met k j).1 = mt at *
          generalize (wk zs met k j).2 = p at *
          have hpi : (p : Int) < (zs.length : Int) := by omega
          obtain ⟨g, hg, _, hcz⟩ := (Hv.out.below hbw).at p m2
          subst hg
          have eg : zs.getD p 0 = zs[p] := by simp [List.getD, List.getElem?_eq_getElem m2]
          rw [eg] at HS2
          have hgl : g < w.heap.size := by
            obtain ⟨g', hg', hl', _⟩ := Hv.out.at p m2
            simp at hg'
            omega
          have c1 := hB.cell p
          rw [e1] at c1
          have f1 := hB.free
          have hB2 := hB.set p (.bool true)
          have hcz2 : (wr.setCell ⟨w.heap.size, p, none⟩ (.bool true)).cell? ⟨g, p, none⟩ = some (.int .i64 zs[p]) := by
            rw [World.cell?_setCell_far _ _ _ _ (by show w.heap.size ≠ g; omega)]; exact hcz
          have hO2 := ownI_at hO (fun q hq => Below.heap_setCell wr ⟨w.heap.size, p, none⟩ (.bool true) q (by have := ownI_ge hO q hq; show q ≠ w.heap.size; omega))
          have hbw2 := below_set' (o := p) hbw (b := w.heap.size) (Nat.le_refl _) (.bool true)
          rw [← bls_set, ← HS1.out] at hB2
          clear hB hO hbw hcz eg
          generalize zs[p] = zp at *
          go_wp2_with fail
          go_roundw
          case rel => exact ⟨j + 1, by omega, by go_num, by rw [HS2.out], hO2, hB2, hbw2⟩
          case measure => simp [intOf] <;> omega
        · obtain rfl : j = J := by omega
          have hs := Hs2.out
          unfold stopB at hs
          rw [hs] at e1
          rw [← HN1.out] at hB
          clear hstep hs
          have c1 := hB.cell (wk zs met k j).2
          rw [HN1.out, e1] at c1
          have hpi : (((wk zs met k j).2 : Nat) : Int) < (zs.length : Int) := by omega
          generalize (wk zs met k j).2 = p at *
          by_cases hj0 : j = 0
          · have hj0i : ¬ ((0 : Int) < (j : Int)) := by omega
            have Hn2 : Hid ((cs zs (k + 1)).2 = out) := Lib.hid (by rw [HN2.out, if_pos hj0])
            clear HN2
            go_wp2_with fail
            go_roundw
            case rel => exact ⟨k + 1, by omega, by go_num, by rw [Hn2.out]; exact hO, hB, hbw⟩
            case measure => simp [intOf] <;> omega
          · have hj0i : (0 : Int) < (j : Int) := by omega
            have Hn2 : Hid ((cs zs (k + 1)).2 = out ++ [(j : Int)]) := Lib.hid (by rw [HN2.out, if_neg hj0])
            clear HN2
            have hA : Below wr.heap.size wr (wr.alloc (.cells #[.int .i64 (j : Int)] 2)) := by (repeat (first | exact Below.refl _ _ | refine below_drew' ?_ | refine below_drewN' ?_ _ | refine below_alloc' ?_ _ | refine below_set' ?_ (by (try simp); (try omega)) _ | refine below_step ?_ (by assumption)))
            have hO1 := hO.below hA
            have hB1 := hB.keptAll hA
            have hbw1 := below_step hbw hA
            have hlt1 := hB.lt
            have hnw : Blk (wr.alloc (.cells #[.int .i64 (j : Int)] 2)) wr.heap.size #[.int .i64 (j : Int)] 2 := Blk.new _ _ _
            go_wp2_with (at_builtin; refine wpList_push_int rfl (.tmp 35) (.tmp 37) rfl (w.heap.size + 1) _ out rfl hO1 wr.heap.size 1 (j : Int) rfl hnw (by have := Hln.out; omega) (by simp; omega) ?_; intro v1 w4 hO4 hb4; have hB4 := hB1.kept hb4 (by omega); have hbw4 := hbw1.trans (below_le hb4 (by omega)))
            rw [← Hn2.out] at hO4
            go_roundw
            case rel => exact ⟨k + 1, by omega, by go_num, hO4, hB4, hbw4⟩
            case measure => simp [intOf] <;> omega
    · obtain rfl : k = zs.length := by omega
      go_wp2
      go_ret
      exact ⟨_, rfl, hO.base_le' (by omega), hbw⟩
end Go.Proofs.Yticnpajbefflbaa
