/- Group words one behind the other: both joins, both 'MultiplyWords', both 'CommutatorOf'. -/
import Derived.Test.YtliohokcjgcmhaaGrpT
namespace Go.Proofs.Ytliohokcjgcmhaa
open Go.RowKit

/-- The numbers of the first k words. -/
def flatUp (ps : List (Value × List Int)) (k : Nat) : List Int := ((ps.take k).map (·.2)).flatten
def flatI (ps : List (Value × List Int)) : List Int := (ps.map (·.2)).flatten
theorem flatUp_zero (ps : List (Value × List Int)) : flatUp ps 0 = [] := by simp [flatUp]
theorem flatUp_all (ps : List (Value × List Int)) : flatUp ps ps.length = flatI ps := by simp [flatUp, flatI]
theorem flatUp_succ (ps : List (Value × List Int)) (k : Nat) (h : k < ps.length) : flatUp ps (k + 1) = flatUp ps k ++ ps[k].2 := by
  unfold flatUp
  rw [List.take_succ_eq_append_getElem h, List.map_append, List.flatten_append]
  simp only [List.map_cons, List.map_nil, List.flatten_cons, List.flatten_nil, List.append_nil]
theorem flatUp_len (ps : List (Value × List Int)) (hs : ∀ p ∈ ps, p.2.length ≤ 1000) : ∀ k, k ≤ ps.length → (flatUp ps k).length ≤ 1000 * k
  | 0, _ => by simp [flatUp]
  | k + 1, h => by
    have ih := flatUp_len ps hs k (by omega)
    have h1 := hs ps[k] (List.getElem_mem (by omega))
    rw [flatUp_succ ps k (by omega), List.length_append]
    omega

set_option maxRecDepth 100000 in
set_option maxHeartbeats 1000000 in
theorem joinWords_calls (v : Value) (ps : List (Value × List Int)) (hp : ps.length ≤ 100) (hs : ∀ p ∈ ps, p.2.length ≤ 1000) (w : World) (hv : SeesL w v ps) :
    Calls Try.prog 153 #[v] w fun e w' => ∃ v', e = .returned v' ∧ OwnI w' w.heap.size v' (flatI ps) ∧ Below w.heap.size w w' := by
  have Hv := Lib.hid hv
  obtain ⟨g, ca, rfl, hG, _⟩ := hv
  clear hG
  have Hs := Lib.hid hs; clear hs
  go_enter Try.func153, Try.ntmps153
  go_wp2
  go_loopw [3, 8] (fun out i wr => ∃ k : Nat, k ≤ ps.length ∧ i = .int .i64 k ∧ OwnI wr w.heap.size out (flatUp ps k) ∧ Below w.heap.size w wr) (fun _ i _ => ps.length - (intOf i).toNat)
  case atStart => exact ⟨0, by omega, rfl, by rw [flatUp_zero]; exact OwnI.nil _ _, Below.refl _ _⟩
  case round =>
    obtain ⟨k, hk, rfl, hO, hbw⟩ := hrel
    have hsz := hbw.size
    by_cases hlt : k < ps.length
    · have hki : (k : Int) < ps.length := by omega
      obtain ⟨g', c', hv', hG, hss⟩ := Hv.out.below hbw
      simp only [Value.slice.injEq, Option.some.injEq, Addr.mk.injEq] at hv'
      have c0 := hG.cell k
      have hpk : (ps.map (·.1)).toArray[k]? = some ps[k].1 := by simp [hlt]
      rw [← hv'.1.1, hpk] at c0
      have hsk := hss k hlt
      have Hl := Lib.hid (flatUp_len ps Hs.out k hk)
      have Hl2 := Lib.hid (Hs.out ps[k] (List.getElem_mem hlt))
      have Hsn := Lib.hid (flatUp_succ ps k hlt)
      clear hG hss hv' hpk
      obtain ⟨pv, hpv⟩ : ∃ pv, ps[k].1 = pv := ⟨_, rfl⟩
      rw [hpv] at c0 hsk
      clear hpv
      go_wp2_with (at_builtin; refine wpList_join_ints rfl (.tmp 12) (.tmp 13) rfl w.heap.size _ pv (flatUp ps k) ps[k].2 rfl hO rfl hsk (by have := Hl.out; have := Hl2.out; omega) hsz ?_; intro v1 w4 hO1 hb1 _ _)
      go_roundw
      case rel => exact ⟨k + 1, by omega, by go_num, by rw [Hsn.out]; exact hO1, hbw.trans hb1⟩
      case measure => simp [intOf] <;> omega
    · obtain rfl : k = ps.length := by omega
      go_wp2
      go_ret
      exact ⟨_, rfl, by rw [flatUp_all] at hO; exact hO, hbw⟩

set_option maxRecDepth 100000 in
set_option maxHeartbeats 1000000 in
theorem l02Join_calls (v : Value) (ps : List (Value × List Int)) (hp : ps.length ≤ 100) (hs : ∀ p ∈ ps, p.2.length ≤ 1000) (w : World) (hv : SeesL w v ps) :
    Calls Try.prog 80 #[v] w fun e w' => ∃ v', e = .returned v' ∧ OwnI w' w.heap.size v' (flatI ps) ∧ Below w.heap.size w w' := by
  have Hv := Lib.hid hv
  obtain ⟨g, ca, rfl, hG, _⟩ := hv
  clear hG
  have Hs := Lib.hid hs; clear hs
  have hO0 : OwnI (w.alloc (.cells #[] 2)) w.heap.size (.slice (some ⟨w.heap.size, 0, none⟩) 0 0) [] := OwnI.empty w _ 0 #[] (Nat.le_refl _) (by unfold maxLen; omega) rfl
  have hbw0 : Below w.heap.size w (w.alloc (.cells #[] 2)) := by (repeat (first | exact Below.refl _ _ | refine below_drew' ?_ | refine below_drewN' ?_ _ | refine below_alloc' ?_ _ | refine below_set' ?_ (by (try simp); (try omega)) _ | refine below_step ?_ (by assumption)))
  go_enter Try.func80, Try.ntmps80
  go_wp2
  go_loopw [3, 4] (fun out i wr => ∃ k : Nat, k ≤ ps.length ∧ i = .int .i64 k ∧ OwnI wr w.heap.size out (flatUp ps k) ∧ Below w.heap.size w wr) (fun _ i _ => ps.length - (intOf i).toNat)
  case atStart => exact ⟨0, by omega, rfl, by rw [flatUp_zero]; exact hO0, hbw0⟩
  case round =>
    clear hO0 hbw0
    obtain ⟨k, hk, rfl, hO, hbw⟩ := hrel
    have hsz := hbw.size
    by_cases hlt : k < ps.length
    · have hki : (k : Int) < ps.length := by omega
      obtain ⟨g', c', hv', hG, hss⟩ := Hv.out.below hbw
      simp only [Value.slice.injEq, Option.some.injEq, Addr.mk.injEq] at hv'
      have c0 := hG.cell k
      have hpk : (ps.map (·.1)).toArray[k]? = some ps[k].1 := by simp [hlt]
      rw [← hv'.1.1, hpk] at c0
      have hsk := hss k hlt
      have Hl := Lib.hid (flatUp_len ps Hs.out k hk)
      have Hl2 := Lib.hid (Hs.out ps[k] (List.getElem_mem hlt))
      have Hsn := Lib.hid (flatUp_succ ps k hlt)
      clear hG hss hv' hpk
      obtain ⟨pv, hpv⟩ : ∃ pv, ps[k].1 = pv := ⟨_, rfl⟩
      rw [hpv] at c0 hsk
      clear hpv
      go_wp2_with (at_builtin; refine wpList_join_ints rfl (.tmp 12) (.tmp 16) rfl w.heap.size _ pv (flatUp ps k) ps[k].2 rfl hO rfl hsk (by have := Hl.out; have := Hl2.out; omega) hsz ?_; intro v1 w4 hO1 hb1 _ _)
      go_roundw
      case rel => exact ⟨k + 1, by omega, by go_num, by rw [Hsn.out]; exact hO1, hbw.trans hb1⟩
      case measure => simp [intOf] <;> omega
    · obtain rfl : k = ps.length := by omega
      go_wp2
      go_ret
      exact ⟨_, rfl, by rw [flatUp_all] at hO; exact hO, hbw⟩

def toldR (zs : List Int) : List Int := if zs.length ≤ 40 then zs else []
def toldC (zs : List Int) : Int := if zs.length ≤ 40 then 0 else 3
def two (M : Mach) (z1 z2 : List Int) : Bool := isGrp M z1 && isGrp M z2
theorem two_parts {M : Mach} {z1 z2 : List Int} (h : two M z1 z2 = true) : isGrp M z1 = true ∧ isGrp M z2 = true := by simpa [two] using h
theorem codeG_two (M : Mach) (v1 v2 : Value) (z1 z2 : List Int) : codeG M [(v1, z1), (v2, z2)] = if two M z1 z2 then 0 else 1 := by
  have h : (isMach M && grpsOk M.S [(v1, z1), (v2, z2)]) = two M z1 z2 := by
    simp only [grpsOk, List.all_cons, List.all_nil, Bool.and_true, two, isGrp]
    cases isMach M <;> cases grpOk M.S z1 <;> cases grpOk M.S z2 <;> rfl
  unfold codeG
  rw [h]
def mulR (M : Mach) (z1 z2 : List Int) : List Int := if two M z1 z2 then toldR (z1 ++ z2) else []
def mulC (M : Mach) (z1 z2 : List Int) : Int := if two M z1 z2 then toldC (z1 ++ z2) else 1
theorem toldR_len (zs : List Int) : (toldR zs).length ≤ 1048576 := by
  unfold toldR
  split
  · omega
  · simp
theorem mulR_len (M : Mach) (z1 z2 : List Int) : (mulR M z1 z2).length ≤ 1048576 := by
  unfold mulR
  split
  · exact toldR_len _
  · simp
theorem short2 (v1 v2 : Value) {z1 z2 : List Int} (h1 : z1.length ≤ 1000) (h2 : z2.length ≤ 1000) : ∀ p ∈ [(v1, z1), (v2, z2)], p.2.length ≤ 1000 := by
  intro p hp
  simp only [List.mem_cons, List.not_mem_nil, or_false] at hp
  rcases hp with rfl | rfl
  · exact h1
  · exact h2
theorem flat2 (v1 v2 : Value) (z1 z2 : List Int) : flatI [(v1, z1), (v2, z2)] = z1 ++ z2 := by simp [flatI]
/-- Two slices laid for '...'. -/
theorem seesL2 {w : World} {v1 v2 : Value} {z1 z2 : List Int} (h1 : SeesI w v1 z1) (h2 : SeesI w v2 z2) :
    SeesL (w.alloc (.cells #[v1, v2] 26)) (.slice (some ⟨w.heap.size, 0, none⟩) 2 2) [(v1, z1), (v2, z2)] :=
  ⟨w.heap.size, 2, rfl, Blk.new _ _ _, fun i hi => by
    have hb : Below w.heap.size w (w.alloc (.cells #[v1, v2] 26)) := by (repeat (first | exact Below.refl _ _ | refine below_drew' ?_ | refine below_drewN' ?_ _ | refine below_alloc' ?_ _ | refine below_set' ?_ (by (try simp); (try omega)) _ | refine below_step ?_ (by assumption)))
    match i, hi with
    | 0, _ => exact h1.below hb
    | 1, _ => exact h2.below hb⟩

/-- 'areGroupWords' of a list of words. -/
theorem isGrp_grp {M : Mach} (hm : isMach M = true) (zs : List Int) : isGrp M zs = grpOk M.S zs := by unfold isGrp; rw [hm, Bool.true_and]
set_option maxRecDepth 100000 in
set_option maxHeartbeats 2000000 in
theorem areGroupList_calls (M : Mach) (hok : M.Ok) (v : Value) (ps : List (Value × List Int)) (hl : ps.length ≤ 1048576) (w : World) (hv : SeesL w v ps) :
    Calls Try.prog 142 #[.agg (mc M), v] w fun e w' => e = .returned (.bool (isMach M && grpsOk M.S ps)) ∧ Below w.heap.size w w' := by
  obtain ⟨g, ca, rfl, _, _⟩ := id hv
  have F1 : Hid (cut (mc M) 0 98 = mc M) := Lib.hid (cut_all _ _ (mc_size hok)); have F2 : Hid (0 + 98 ≤ (mc M).size) := Lib.hid (by rw [mc_size hok]; omega)
  have hB : Blk (w.alloc (.cells (mc M) 27)) w.heap.size (mc M) 27 := Blk.new w _ _
  have hbw0 : Below w.heap.size w (w.alloc (.cells (mc M) 27)) := by (repeat (first | exact Below.refl _ _ | refine below_drew' ?_ | refine below_drewN' ?_ _ | refine below_alloc' ?_ _ | refine below_set' ?_ (by (try simp); (try omega)) _ | refine below_step ?_ (by assumption)))
  have hvB := hv.below hbw0
  clear hv
  cases hm : isMach M
  · go_enter Try.func142, Try.ntmps142
    go_wp2_with (first | (with_reducible show wpList _ _ _ _ _ _; refine wpList_load_blk rfl 27 (.tmp 2) rfl w.heap.size 0 rfl (mc M) _ (hB) 98 F2.out _ Try.underlying27 rfl size_mach ?_; rw [F1.out]) | (go_at_call 73; refine (IsMachine_calls M hok _).mono ?_; rintro e w1 ⟨rfl, hb1⟩; rw [hm]; have hbw1 := below_step hbw0 hb1))
    go_ret
    exact ⟨ret_bool rfl, hbw1⟩
  · have Hm := Lib.hid hm
    have Hr : Hid ((true && grpsOk M.S ps) = grpsOk M.S ps) := Lib.hid (Bool.true_and _)
    go_enter Try.func142, Try.ntmps142
    go_wp2_with (first | (with_reducible show wpList _ _ _ _ _ _; refine wpList_load_blk rfl 27 (.tmp 2) rfl w.heap.size 0 rfl (mc M) _ (hB) 98 F2.out _ Try.underlying27 rfl size_mach ?_; rw [F1.out]) | (go_at_call 73; refine (IsMachine_calls M hok _).mono ?_; rintro e w1 ⟨rfl, hb1⟩; rw [hm]; have hB1 := hB.keptAll hb1; have hv1 := hvB.below hb1; have hbw1 := below_step hbw0 hb1))
    clear hB hvB hbw0 hb1 hm
    go_loopw [12] (fun i wr => ∃ k : Nat, k ≤ ps.length ∧ i = .int .i64 k ∧ Blk wr w.heap.size (mc M) 27 ∧ SeesL wr (.slice (some ⟨g, 0, none⟩) ps.length ca) ps ∧ Below w.heap.size w wr ∧ Hid (grpsUp M.S ps k = true)) (fun i _ => ps.length - (intOf i).toNat)
    case atStart => exact ⟨0, by omega, rfl, hB1, hv1, hbw1, Lib.hid (grpsUp_zero _ _)⟩
    case round =>
      clear hB1 hv1 hbw1
      obtain ⟨k, hk, rfl, hB, hv, hbw, HU⟩ := hrel
      by_cases hlt : k < ps.length
      · have hki : (k : Int) < (ps.length : Int) := by omega
        have Hn : Hid (grpOk M.S ps[k].2 = true → grpsUp M.S ps (k + 1) = true) := Lib.hid (grpsUp_succ M.S ps k hlt HU.out)
        have Hb : Hid (grpOk M.S ps[k].2 = false → grpsOk M.S ps = false) := Lib.hid (grpsOk_bad M.S ps k hlt)
        obtain ⟨g', c', hv', hG, hs⟩ := id hv
        simp only [Value.slice.injEq, Option.some.injEq, Addr.mk.injEq] at hv'
        have hgg := hv'.1.1
        have hcc := hv'.2.2
        clear hv'
        subst hgg
        subst hcc
        have cG := hG.cell k
        rw [show (ps.map (·.1)).toArray[k]? = some ps[k].1 from by simp [hlt]] at cG
        have hsk := hs k hlt
        have Hgo := Lib.hid (isGrp_grp Hm.out ps[k].2)
        clear hG hs
        generalize hpv : ps[k].1 = pv at *
        clear hpv
        cases hgo : grpOk M.S ps[k].2
        · have Hbad := Lib.hid (Hb.out hgo)
          rw [hgo] at Hgo
          clear hgo
          go_wp2_with (first | (with_reducible show wpList _ _ _ _ _ _; refine wpList_load_blk rfl 27 (.tmp 2) rfl w.heap.size 0 rfl (mc M) _ (hB) 98 F2.out _ Try.underlying27 rfl size_mach ?_; rw [F1.out]) | (go_at_call 53; refine (IsGroupWord_calls M hok _ _ _ hsk).mono ?_; rintro e w2 ⟨rfl, hb2⟩; rw [Hgo.out]; have hbw2 := below_step hbw hb2))
          go_ret
          exact ⟨ret_bool (by simp [Hbad.out]), hbw2⟩
        · have Hnx := Lib.hid (Hn.out hgo)
          rw [hgo] at Hgo
          clear hgo
          go_wp2_with (first | (with_reducible show wpList _ _ _ _ _ _; refine wpList_load_blk rfl 27 (.tmp 2) rfl w.heap.size 0 rfl (mc M) _ (hB) 98 F2.out _ Try.underlying27 rfl size_mach ?_; rw [F1.out]) | (go_at_call 53; refine (IsGroupWord_calls M hok _ _ _ hsk).mono ?_; rintro e w2 ⟨rfl, hb2⟩; rw [Hgo.out]; have hbw2 := below_step hbw hb2; have hB2 := hB.keptAll hb2; have hv2 := hv.below hb2))
          go_roundw
          case rel => exact ⟨k + 1, by omega, by go_num, hB2, hv2, hbw2, Hnx⟩
          case measure => simp [intOf] <;> omega
      · obtain rfl : k = ps.length := by omega
        have Hall : Hid (grpsOk M.S ps = true) := Lib.hid (by rw [← grpsUp_all]; exact HU.out)
        go_wp2
        go_ret
        exact ⟨ret_bool (by simp [Hall.out]), hbw⟩
theorem grps_two (M : Mach) (v1 v2 : Value) (z1 z2 : List Int) : (isMach M && grpsOk M.S [(v1, z1), (v2, z2)]) = (isGrp M z1 && isGrp M z2) := by
  simp only [grpsOk, List.all_cons, List.all_nil, Bool.and_true, isGrp]
  cases isMach M <;> cases grpOk M.S z1 <;> cases grpOk M.S z2 <;> rfl
/-- Two words, laid for '...' by the caller in a world of its own. -/
theorem areGroupWords_calls (M : Mach) (hok : M.Ok) (v1 : Value) (zs1 : List Int) (v2 : Value) (zs2 : List Int) (w : World) (hv1 : SeesI w v1 zs1) (hv2 : SeesI w v2 zs2) {g : Nat} (hg : g = w.heap.size := by simp) :
    Calls Try.prog 142 #[.agg (mc M), .slice (some ⟨g, 0, none⟩) 2 2] (w.alloc (.cells #[v1, v2] 26)) fun e w' => e = .returned (.bool (isGrp M zs1 && isGrp M zs2)) ∧ Below w.heap.size w w' := by
  subst hg
  have hb : Below w.heap.size w (w.alloc (.cells #[v1, v2] 26)) := by (repeat (first | exact Below.refl _ _ | refine below_drew' ?_ | refine below_drewN' ?_ _ | refine below_alloc' ?_ _ | refine below_set' ?_ (by (try simp); (try omega)) _ | refine below_step ?_ (by assumption)))
  refine (areGroupList_calls M hok _ [(v1, zs1), (v2, zs2)] (by simp) _ (seesL2 hv1 hv2)).mono fun e w' h => ⟨by rw [h.1, grps_two], below_step hb h.2⟩

theorem l02Code_two (M : Mach) (hok : M.Ok) (v v1 v2 : Value) (z1 z2 : List Int) (b : Bool) (hb : two M z1 z2 = b) (w : World) (hv : SeesL w v [(v1, z1), (v2, z2)]) :
    Calls Try.prog 50 #[.agg (mc M), v] w fun e w' => e = .returned (.int .i64 (if b then 0 else 1)) ∧ Below w.heap.size w w' :=
  (l02Code_calls M hok v [(v1, z1), (v2, z2)] (by simp) w hv).mono fun e w' h => ⟨by rw [h.1, codeG_two, hb], h.2⟩
theorem joinWords_two (v v1 v2 : Value) (z1 z2 : List Int) (h1 : z1.length ≤ 1000) (h2 : z2.length ≤ 1000) (w : World) (hv : SeesL w v [(v1, z1), (v2, z2)]) :
    Calls Try.prog 153 #[v] w fun e w' => ∃ v', e = .returned v' ∧ OwnI w' w.heap.size v' (z1 ++ z2) ∧ Below w.heap.size w w' :=
  (joinWords_calls v [(v1, z1), (v2, z2)] (by simp) (short2 _ _ h1 h2) w hv).mono fun e w' ⟨v', h, hO, hb⟩ => ⟨v', h, by rw [flat2] at hO; exact hO, hb⟩
theorem l02Join_two (v v1 v2 : Value) (z1 z2 : List Int) (h1 : z1.length ≤ 1000) (h2 : z2.length ≤ 1000) (w : World) (hv : SeesL w v [(v1, z1), (v2, z2)]) :
    Calls Try.prog 80 #[v] w fun e w' => ∃ v', e = .returned v' ∧ OwnI w' w.heap.size v' (z1 ++ z2) ∧ Below w.heap.size w w' :=
  (l02Join_calls v [(v1, z1), (v2, z2)] (by simp) (short2 _ _ h1 h2) w hv).mono fun e w' ⟨v', h, hO, hb⟩ => ⟨v', h, by rw [flat2] at hO; exact hO, hb⟩
end Go.Proofs.Ytliohokcjgcmhaa
