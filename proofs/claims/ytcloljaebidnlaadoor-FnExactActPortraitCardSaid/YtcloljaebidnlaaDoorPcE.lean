/- Codes of portraits, of several lists; 'ActPortrait'. -/
import Derived.Test.YtcloljaebidnlaaDoorPcD
import Derived.Test.YtcloljaebidnlaaDoorGrpS
namespace Go.Proofs.YtcloljaebidnlaaDoor
open Go.RowKit

def allP (d n : Int) (ps : List (Value × List Int)) (k : Nat) : Bool := (ps.take k).all fun p => isP d.toNat n.toNat p.2
theorem allP_succ (d n : Int) (ps : List (Value × List Int)) (k : Nat) (hk : k < ps.length) : allP d n ps (k + 1) = (allP d n ps k && isP d.toNat n.toNat ps[k].2) := by
  unfold allP
  rw [List.take_succ_eq_append_getElem hk, List.all_append]
  simp
theorem allP_no (d n : Int) (ps : List (Value × List Int)) (k : Nat) (hk : k < ps.length) (h : isP d.toNat n.toNat ps[k].2 = false) : allP d n ps ps.length = false := by
  unfold allP
  rw [List.take_length, List.all_eq_false]
  exact ⟨ps[k], List.getElem_mem hk, by rw [h]; simp⟩
def codeQ (d n : Int) (ps : List (Value × List Int)) : Int := if isAlpha d && (decide (1 ≤ n) && decide (n ≤ 4)) then (if allP d n ps ps.length then 0 else 1) else 2
theorem codeQ_one (d n : Int) (v : Value) (zs : List Int) : codeQ d n [(v, zs)] = codeP d n zs := by
  unfold codeQ codeP allP
  simp
theorem sizes_same (d n : Int) : (isAlpha d && (decide (1 ≤ n) && decide (n ≤ 4))) = (decide (2 ≤ d ∧ d ≤ 3) && decide (1 ≤ n ∧ n ≤ 4)) := by
  have h1 : isAlpha d = decide (2 ≤ d ∧ d ≤ 3) := by
    rw [Bool.eq_iff_iff, isAlpha_iff, decide_eq_true_eq]; omega
  have h2 : decide (1 ≤ n ∧ n ≤ 4) = (decide (1 ≤ n) && decide (n ≤ 4)) := Bool.decide_and _ _
  rw [h1, h2]

set_option maxRecDepth 100000 in
set_option maxHeartbeats 1000000 in
theorem l03Code_calls (d n : Int) (v : Value) (ps : List (Value × List Int)) (hp : ps.length ≤ 100) (w : World) (hv : SeesL w v ps) :
    Calls Tryd.prog 27 #[.int .i64 d, .int .i64 n, v] w fun e w' => e = .returned (.int .i64 (codeQ d n ps)) ∧ Below w.heap.size w w' := by
  have Hv := Lib.hid hv
  obtain ⟨g, ca, rfl, hG, _⟩ := hv
  clear hG
  have HS := Lib.hid (fun W => l03Sizes_calls d n W)
  rw [← sizes_same] at HS
  cases hs : (isAlpha d && (decide (1 ≤ n) && decide (n ≤ 4)))
  · have Hr : Hid (codeQ d n ps = 2) := Lib.hid (by unfold codeQ; rw [hs]; rfl)
    rw [hs] at HS
    clear hs
    go_enter Tryd.func27, Tryd.ntmps27
    go_wp2_with (go_at_call 39; refine (HS.out _).mono ?_; rintro e w1 ⟨rfl, hb1⟩)
    go_ret
    exact ⟨ret_one Hr.out.symm, hb1⟩
  · have hh := hs
    simp only [Bool.and_eq_true, decide_eq_true_eq] at hh
    have hda := (isAlpha_iff d).1 hh.1
    have Hr : Hid (codeQ d n ps = if allP d n ps ps.length then 0 else 1) := Lib.hid (by unfold codeQ; rw [hs]; rfl)
    rw [hs] at HS
    obtain ⟨m, rfl⟩ := Int.eq_ofNat_of_zero_le (a := n) (by omega)
    obtain ⟨c, rfl⟩ := Int.eq_ofNat_of_zero_le (a := d) (by omega)
    have hc : c = 2 ∨ c = 3 := by omega
    have hm : m ≤ 4 := by omega
    have hm1 : 1 ≤ m := by omega
    clear hs hh hda
    go_enter Tryd.func27, Tryd.ntmps27
    go_wp2_with (go_at_call 39; refine (HS.out _).mono ?_; rintro e w1 ⟨rfl, hb1⟩)
    go_loopw [7] (fun i wr => ∃ k : Nat, k ≤ ps.length ∧ i = .int .i64 k ∧ Below w.heap.size w wr ∧ Hid (allP c m ps k = true)) (fun i _ => ps.length - (intOf i).toNat)
    case atStart => exact ⟨0, by omega, rfl, hb1, Lib.hid rfl⟩
    case round =>
      clear hb1
      obtain ⟨k, hk, rfl, hbw, HE⟩ := hrel
      by_cases hlt : k < ps.length
      · have hki : (k : Int) < ps.length := by omega
        obtain ⟨g', c', hv', hG, hss⟩ := Hv.out.below hbw
        simp only [Value.slice.injEq, Option.some.injEq, Addr.mk.injEq] at hv'
        have c0 := hG.cell k
        have hpk : (ps.map (·.1)).toArray[k]? = some ps[k].1 := by simp [hlt]
        rw [← hv'.1.1, hpk] at c0
        have HF := Lib.hid (l03Is_calls c m hc hm hm1 ps[k].1 ps[k].2 wr (hss k hlt))
        have Hs := Lib.hid (allP_succ c m ps k hlt)
        have Hno := Lib.hid (allP_no c m ps k hlt)
        rw [HE.out, Bool.true_and] at Hs
        rw [Int.toNat_natCast, Int.toNat_natCast] at Hs Hno
        clear hG hss hv' hpk
        generalize ps[k].1 = pv at *
        cases hi : isP c m ps[k].2
        · have Hn := Lib.hid (Hno.out hi)
          rw [hi] at HF
          clear hi
          go_wp2_with (go_at_call 40; refine HF.out.mono ?_; rintro e w6 ⟨rfl, hb6⟩)
          go_ret
          exact ⟨ret_one (by rw [Hr.out, Hn.out]; rfl), below_step hbw hb6⟩
        · rw [hi] at HF Hs
          clear hi
          go_wp2_with (go_at_call 40; refine HF.out.mono ?_; rintro e w6 ⟨rfl, hb6⟩)
          go_roundw
          case rel => exact ⟨k + 1, by omega, by go_num, below_step hbw hb6, Hs⟩
          case measure => simp [intOf] <;> omega
      · obtain rfl : k = ps.length := by omega
        go_wp2
        go_ret
        exact ⟨ret_one (by rw [Hr.out, HE.out]; rfl), hbw⟩

set_option maxRecDepth 100000 in
set_option maxHeartbeats 1000000 in
theorem checkLists_calls (d n : Int) (v : Value) (ps : List (Value × List Int)) (hp : ps.length ≤ 100) (w : World) (hv : SeesL w v ps) :
    Calls Tryd.prog 30 #[.int .i64 d, .int .i64 n, v] w fun e w' => e = .returned (.int .i64 (codeQ d n ps)) ∧ Below w.heap.size w w' := by
  have Hv := Lib.hid hv
  obtain ⟨g, ca, rfl, hG, _⟩ := hv
  clear hG
  cases ha : isAlpha d
  · have Hr : Hid (codeQ d n ps = 2) := Lib.hid (by unfold codeQ; rw [ha]; rfl)
    have Ha := Lib.hid ha; clear ha
    go_enter Tryd.func30, Tryd.ntmps30
    go_wp2_with (go_at_call 18; refine (isAlphabet_calls d _).mono ?_; rintro e w' ⟨rfl, rfl⟩; rw [Ha.out])
    go_ret
    exact ⟨ret_one Hr.out.symm, by (repeat (first | exact Below.refl _ _ | refine below_drew' ?_ | refine below_drewN' ?_ _ | refine below_alloc' ?_ _ | refine below_set' ?_ (by (try simp); (try omega)) _ | refine below_step ?_ (by assumption)))⟩
  · cases hd : (decide (1 ≤ n) && decide (n ≤ 4))
    · have Hr : Hid (codeQ d n ps = 2) := Lib.hid (by unfold codeQ; rw [ha, hd]; rfl)
      have Ha := Lib.hid ha; clear ha
      have Hd := Lib.hid hd; clear hd
      go_enter Tryd.func30, Tryd.ntmps30
      go_wp2_with (first | (go_at_call 18; refine (isAlphabet_calls d _).mono ?_; rintro e w' ⟨rfl, rfl⟩; rw [Ha.out]) | (go_at_call 42; refine (isDepth_calls n _).mono ?_; rintro e w' ⟨rfl, rfl⟩; rw [Hd.out]))
      go_ret
      exact ⟨ret_one Hr.out.symm, by (repeat (first | exact Below.refl _ _ | refine below_drew' ?_ | refine below_drewN' ?_ _ | refine below_alloc' ?_ _ | refine below_set' ?_ (by (try simp); (try omega)) _ | refine below_step ?_ (by assumption)))⟩
    · have hn4 : 1 ≤ n ∧ n ≤ 4 := by simpa using hd
      have hda := (isAlpha_iff d).1 ha
      have Hr : Hid (codeQ d n ps = if allP d n ps ps.length then 0 else 1) := Lib.hid (by unfold codeQ; rw [ha, hd]; rfl)
      have Ha := Lib.hid ha; clear ha
      have Hd := Lib.hid hd; clear hd
      obtain ⟨m, rfl⟩ := Int.eq_ofNat_of_zero_le (a := n) (by omega)
      obtain ⟨c, rfl⟩ := Int.eq_ofNat_of_zero_le (a := d) (by omega)
      have hc : c = 2 ∨ c = 3 := by omega
      have hm : m ≤ 4 := by omega
      have hm1 : 1 ≤ m := by omega
      clear hn4 hda
      go_enter Tryd.func30, Tryd.ntmps30
      go_wp2_with (first | (go_at_call 18; refine (isAlphabet_calls c _).mono ?_; rintro e w' ⟨rfl, rfl⟩; rw [Ha.out]) | (go_at_call 42; refine (isDepth_calls m _).mono ?_; rintro e w' ⟨rfl, rfl⟩; rw [Hd.out]))
      go_loopw [19] (fun i wr => ∃ k : Nat, k ≤ ps.length ∧ i = .int .i64 k ∧ Below w.heap.size w wr ∧ Hid (allP c m ps k = true)) (fun i _ => ps.length - (intOf i).toNat)
      case atStart => exact ⟨0, by omega, rfl, Below.refl _ _, Lib.hid rfl⟩
      case round =>
        obtain ⟨k, hk, rfl, hbw, HE⟩ := hrel
        by_cases hlt : k < ps.length
        · have hki : (k : Int) < ps.length := by omega
          obtain ⟨g', c', hv', hG, hss⟩ := Hv.out.below hbw
          simp only [Value.slice.injEq, Option.some.injEq, Addr.mk.injEq] at hv'
          have c0 := hG.cell k
          have hpk : (ps.map (·.1)).toArray[k]? = some ps[k].1 := by simp [hlt]
          rw [← hv'.1.1, hpk] at c0
          have HF := Lib.hid (isPortraitOf_calls c m hc hm hm1 ps[k].1 ps[k].2 wr (hss k hlt))
          have Hs := Lib.hid (allP_succ c m ps k hlt)
          have Hno := Lib.hid (allP_no c m ps k hlt)
          rw [HE.out, Bool.true_and] at Hs
          rw [Int.toNat_natCast, Int.toNat_natCast] at Hs Hno
          clear hG hss hv' hpk
          generalize ps[k].1 = pv at *
          cases hi : isP c m ps[k].2
          · have Hn := Lib.hid (Hno.out hi)
            rw [hi] at HF
            clear hi
            go_wp2_with (go_at_call 43; refine HF.out.mono ?_; rintro e w6 ⟨rfl, hb6⟩)
            go_ret
            exact ⟨ret_one (by rw [Hr.out, Hn.out]; rfl), below_step hbw hb6⟩
          · rw [hi] at HF Hs
            clear hi
            go_wp2_with (go_at_call 43; refine HF.out.mono ?_; rintro e w6 ⟨rfl, hb6⟩)
            go_roundw
            case rel => exact ⟨k + 1, by omega, by go_num, below_step hbw hb6, Hs⟩
            case measure => simp [intOf] <;> omega
        · obtain rfl : k = ps.length := by omega
          go_wp2
          go_ret
          exact ⟨ret_one (by rw [Hr.out, HE.out]; rfl), hbw⟩

theorem ret_st {s s' : ByteArray} {m m' : Int} (hs : s = s') (h : m = m') : Ending.returned (.tuple #[.string s, .int .i64 m]) = Ending.returned (.tuple #[.string s', .int .i64 m']) := by rw [hs, h]
/-- What 'ActPortrait' answers. -/
def actR (d n : Int) (zs : List Int) (s : ByteArray) : ByteArray := if codeW d n zs s n = 0 then actS d.toNat zs s else ByteArray.empty
theorem codeW_zero (d n : Int) (zs : List Int) (s : ByteArray) (most : Int) (h : codeW d n zs s most = 0) : codeP d n zs = 0 ∧ lettersL d.toNat s.data.toList = true ∧ (s.data.toList.length : Int) ≤ most := by
  unfold codeW at h
  split at h
  · rename_i h1
    split at h
    · rename_i h2
      split at h
      · omega
      · rename_i h3
        rw [size_list s] at h3
        exact ⟨h1, ((wordB_iff _ _).1 h2).2, by omega⟩
    · omega
  · omega

set_option maxRecDepth 100000 in
set_option maxHeartbeats 1000000 in
theorem iActPortrait_calls (d n : Int) (v : Value) (zs : List Int) (s : ByteArray) (w : World) (hv : SeesI w v zs) (hT : TabsAt w) :
    Calls Tryd.prog 11 #[.int .i64 d, .int .i64 n, v, .string s] w fun e w' => e = .returned (.tuple #[.string (actR d n zs s), .int .i64 (codeW d n zs s n)]) ∧ Below w.heap.size w w' := by
  obtain ⟨oa, ca, hve, _⟩ := hv.view
  subst hve
  have Hv := Lib.hid hv
  have HT := Lib.hid hT
  have HC := Lib.hid (checkWord_calls d n _ zs s n w hv)
  clear hv hT
  by_cases hc : codeW d n zs s n = 0
  · obtain ⟨h1, h2, h3⟩ := codeW_zero d n zs s n hc
    obtain ⟨k1, k2, k3⟩ := codeP_zero d n zs h1
    have HR : Hid (actR d n zs s = actS d.toNat zs s) := Lib.hid (by unfold actR; rw [if_pos hc])
    have Hc := Lib.hid hc
    obtain ⟨m, rfl⟩ := Int.eq_ofNat_of_zero_le (a := n) (by omega)
    obtain ⟨c, rfl⟩ := Int.eq_ofNat_of_zero_le (a := d) (by omega)
    rw [Int.toNat_natCast] at *
    rw [Int.toNat_natCast] at *
    have HL := Lib.hid (fun W h1' h2' => lead_calls c m (by omega) (by omega) zs k3 (.slice oa zs.length ca) s (by omega) h2 W h1' h2')
    rw [hc] at HC
    clear h1 h2 h3 k1 k2 k3 hc
    go_enter Tryd.func11, Tryd.ntmps11
    go_wp2_with (first | (go_at_call 25; refine HC.out.mono ?_; rintro e w1 ⟨rfl, hb1⟩) | (go_at_call 26; refine (HL.out _ (Hv.out.below hb1) (HT.out.below hb1)).mono ?_; rintro e w2 ⟨rfl, hb2⟩; have hbw2 := below_step hb1 hb2))
    go_ret2
    exact ⟨ret_st HR.out.symm Hc.out.symm, hbw2⟩
  · have HR : Hid (actR d n zs s = ByteArray.empty) := Lib.hid (by unfold actR; rw [if_neg hc])
    have hcb : (codeW d n zs s n != 0) = true := by simpa using hc
    generalize codeW d n zs s n = cc at *
    go_enter Tryd.func11, Tryd.ntmps11
    go_wp2_with (go_at_call 25; refine HC.out.mono ?_; rintro e w1 ⟨rfl, hb1⟩)
    go_ret2
    exact ⟨ret_st HR.out.symm rfl, hb1⟩
end Go.Proofs.YtcloljaebidnlaaDoor
