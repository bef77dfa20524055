/- A slice of slices of numbers that came in: its size told. -/
import Derived.Test.YtkhpfjamkkicoaaArgs
import Derived.Test.YtkhpfjamkkicoaaLvB
import Derived.Test.YtkhpfjamkkicoaaGrpT
namespace Go.Proofs.Ytkhpfjamkkicoaa
open Go.RowKit

/-- A slice of slices of numbers that came in. -/
def ArgL (w : World) (v : Value) (ps : List (Value × List Int)) : Prop :=
  ps.length ≤ maxLen ∧ (∃ oa cap, v = .slice oa ps.length cap ∧ (0 < ps.length → ∃ g o, oa = some ⟨g, o, none⟩ ∧ ∀ i (hi : i < ps.length), w.cell? ⟨g, o + i, none⟩ = some ps[i].1)) ∧ ∀ i (hi : i < ps.length), ArgI w ps[i].1 ps[i].2
theorem ArgL.below {w w1 : World} {v : Value} {ps : List (Value × List Int)} (h : ArgL w v ps) (hb : Below w.heap.size w w1) : ArgL w1 v ps := by
  obtain ⟨h1, ⟨oa, cap, hv, hc⟩, h2⟩ := h
  refine ⟨h1, ⟨oa, cap, hv, fun hp => ?_⟩, fun i hi => (h2 i hi).below hb⟩
  obtain ⟨g, o, ho, hcell⟩ := hc hp
  exact ⟨g, o, ho, fun i hi => cell_kept hb (hcell i hi)⟩

/-- What is left of n behind the lists' lengths, or -1. -/
def szL : List (Value × List Int) → Int → Int
  | [], n => n
  | p :: r, n => if n - p.2.length < 0 then -1 else szL r (n - p.2.length)
def szLs (ps : List (Value × List Int)) (n : Int) : Int := if n - ps.length < 0 then -1 else szL ps (n - ps.length)
theorem szL_le : ∀ (ps : List (Value × List Int)) (n : Int), 0 ≤ szL ps n → ∀ p ∈ ps, (p.2.length : Int) ≤ n
  | [], _, _, p, hp => by cases hp
  | q :: r, n, h, p, hp => by
    unfold szL at h
    split at h
    · omega
    · rcases List.mem_cons.1 hp with rfl | hp
      · omega
      · have := szL_le r _ h p hp; omega
theorem szLs_le {ps : List (Value × List Int)} {n : Int} (h : 0 ≤ szLs ps n) : (ps.length : Int) ≤ n ∧ ∀ p ∈ ps, (p.2.length : Int) ≤ n := by
  unfold szLs at h
  split at h
  · omega
  · exact ⟨by omega, fun p hp => by have := szL_le ps _ h p hp; omega⟩
theorem szL_go {ps : List (Value × List Int)} {k : Nat} {m : Int} (hk : k < ps.length) (h : ¬ (m - ps[k].2.length < 0)) : szL (ps.drop k) m = szL (ps.drop (k + 1)) (m - ps[k].2.length) := by
  rw [List.drop_eq_getElem_cons hk, szL, if_neg h]
theorem szL_end {ps : List (Value × List Int)} {k : Nat} {m : Int} (hk : k < ps.length) (h : m - ps[k].2.length < 0) : szL (ps.drop k) m = -1 := by
  rw [List.drop_eq_getElem_cons hk, szL, if_pos h]

set_option maxRecDepth 100000 in
theorem szInt64S_calls (oa : Option Addr) (len cap : Nat) (n : Int) (h0 : 0 ≤ n) (h1 : n ≤ 1048576) (hl : len ≤ maxLen) (w : World) :
    Calls Try.prog 30 #[.slice oa len cap, .int .i64 n] w fun e w' => e = .returned (.int .i64 (if n - len < 0 then -1 else n - len)) ∧ w = w' := by
  unfold maxLen at hl
  by_cases h : n - len < 0
  · go_enter Try.func30, Try.ntmps30
    go_wp2
    go_ret
    exact ⟨rfl, rfl⟩
  · go_enter Try.func30, Try.ntmps30
    go_wp2
    go_ret
    exact ⟨rfl, rfl⟩

set_option maxRecDepth 100000 in
set_option maxHeartbeats 1000000 in
theorem szInt64SS_calls (v : Value) (ps : List (Value × List Int)) (w : World) (ha : ArgL w v ps) (n : Int) (h0 : 0 ≤ n) (h1 : n ≤ 1048576) :
    Calls Try.prog 12 #[v, .int .i64 n] w fun e w' => e = .returned (.int .i64 (szLs ps n)) ∧ w = w' := by
  obtain ⟨hm, ⟨oa, cap, rfl, hc⟩, hA⟩ := ha
  have Hc := Lib.hid hc; have HA := Lib.hid hA; clear hc hA
  unfold maxLen at hm
  by_cases h : n - ps.length < 0
  · have Hr := Lib.hid (show szLs ps n = -1 by simp only [szLs, if_pos h])
    go_enter Try.func12, Try.ntmps12
    go_wp2
    go_ret
    exact ⟨ret_int Hr.out.symm, rfl⟩
  · have Hr := Lib.hid (show szLs ps n = szL ps (n - ps.length) by simp only [szLs, if_neg h])
    go_enter Try.func12, Try.ntmps12
    go_wp2
    go_loop [1, 5] (fun mv i => ∃ (k : Nat) (m : Int), k ≤ ps.length ∧ i = .int .i64 k ∧ mv = .int .i64 m ∧ 0 ≤ m ∧ m ≤ 1048576 ∧ Hid (szL ps (n - ps.length) = szL (ps.drop k) m)) (fun _ i => ps.length - (intOf i).toNat)
    case atStart => exact ⟨0, n - ps.length, by omega, rfl, rfl, by omega, by omega, Lib.hid (by rw [List.drop_zero])⟩
    case round =>
      obtain ⟨k, m, hk, rfl, rfl, hm0, hm1, HU⟩ := hrel
      by_cases hlt : k < ps.length
      · have hki : (k : Int) < (ps.length : Int) := by omega
        obtain ⟨g, o, rfl, hcell⟩ := Hc.out (by omega)
        have cG := hcell k hlt
        obtain ⟨hz, oz, cz, hvz, hjunk⟩ := HA.out k hlt
        clear hjunk
        have Hgo := Lib.hid (szL_go (m := m) hlt)
        have Hend := Lib.hid (szL_end (m := m) hlt)
        rw [hvz] at cG
        clear hvz hcell
        generalize ps[k].2.length = zl at *
        have hz' := hz
        unfold maxLen at hz'
        by_cases hs : m - zl < 0
        · have He := Lib.hid (Hend.out hs)
          have Hif := Lib.hid (show (if m - (zl : Int) < 0 then (-1 : Int) else m - zl) = -1 from if_pos hs)
          go_wp2_with (go_at_call 30; refine (szInt64S_calls oz zl cz m hm0 hm1 hz _).mono ?_; rintro e w' ⟨rfl, rfl⟩; rw [Hif.out])
          go_ret
          exact ⟨ret_int (by rw [Hr.out, HU.out, He.out]), rfl⟩
        · have Hn := Lib.hid (Hgo.out hs)
          have Hif := Lib.hid (show (if m - (zl : Int) < 0 then (-1 : Int) else m - zl) = m - zl from if_neg hs)
          go_wp2_with (go_at_call 30; refine (szInt64S_calls oz zl cz m hm0 hm1 hz _).mono ?_; rintro e w' ⟨rfl, rfl⟩; rw [Hif.out])
          go_round
          case rel => exact ⟨k + 1, m - zl, by omega, by go_num, rfl, by omega, by omega, Lib.hid (by rw [HU.out, Hn.out])⟩
          case measure => simp [intOf] <;> omega
      · obtain rfl : k = ps.length := by omega
        have Hall : Hid (szL (ps.drop ps.length) m = m) := Lib.hid (by rw [List.drop_length]; rfl)
        go_wp2
        go_ret
        exact ⟨ret_int (by rw [Hr.out, HU.out, Hall.out]), rfl⟩

/-- The first k lists, then empty ones. -/
def padLs (zss : List (List Int)) (k : Nat) : List (List Int) := zss.take k ++ List.replicate (zss.length - k) []
theorem padLs_zero (zss : List (List Int)) : padLs zss 0 = List.replicate zss.length [] := by simp [padLs]
theorem padLs_all (zss : List (List Int)) : padLs zss zss.length = zss := by simp [padLs]
theorem padLs_len (zss : List (List Int)) (k : Nat) (h : k ≤ zss.length) : (padLs zss k).length = zss.length := by simp [padLs]; omega
theorem padLs_set (zss : List (List Int)) (k : Nat) (h : k < zss.length) : (padLs zss k).set k zss[k] = padLs zss (k + 1) := by
  unfold padLs
  rw [List.set_append_right _ _ (by simp; omega), show k - (zss.take k).length = 0 from by simp; omega, show zss.length - k = (zss.length - (k + 1)) + 1 from by omega, List.replicate_succ, List.set_cons_zero, List.take_succ_eq_append_getElem h]
  rw [List.append_assoc]; rfl

set_option maxRecDepth 100000 in
set_option maxHeartbeats 1000000 in
theorem toInt64SS_calls (v : Value) (ps : List (Value × List Int)) (w : World) (ha : ArgL w v ps) (hn : ps.length ≤ 1048576) (hz : ∀ p ∈ ps, p.2.length ≤ 1048576) :
    Calls Try.prog 14 #[v] w fun e w' => ∃ vs, e = .returned (.slice (some ⟨w.heap.size, 0, none⟩) ps.length ps.length) ∧ OwnLV w' w.heap.size (.slice (some ⟨w.heap.size, 0, none⟩) ps.length ps.length) vs (ps.map (·.2)) ∧ Below w.heap.size w w' := by
  have ha0 := ha
  obtain ⟨hm, ⟨oa, cap, rfl, hc⟩, hA⟩ := ha
  have Hc := Lib.hid hc; have HA := Lib.hid hA; have Hz := Lib.hid hz; clear hc hA hz ha0
  have hmk := mk_lists ps.length hn
  obtain ⟨zss, hzs⟩ : ∃ z, ps.map (·.2) = z := ⟨_, rfl⟩
  have hzl : zss.length = ps.length := by rw [← hzs, List.length_map]
  have Hzk := Lib.hid (fun (k : Nat) (hk : k < ps.length) (hk' : k < zss.length) => (show zss[k] = ps[k].2 by subst hzs; simp))
  rw [hzs]
  have hO0 : OwnLV (w.alloc (.cells (nils ps.length) 26)) w.heap.size (.slice (some ⟨w.heap.size, 0, none⟩) ps.length ps.length) (List.replicate ps.length (.slice none 0 0)) (List.replicate ps.length []) := OwnLV.made hm (Nat.le_refl _) (Blk.new w _ _)
  have hbw0 : Below w.heap.size w (w.alloc (.cells (nils ps.length) 26)) := by (repeat (first | exact Below.refl _ _ | refine below_drew' ?_ | refine below_drewN' ?_ _ | refine below_alloc' ?_ _ | refine below_set' ?_ (by (try simp); (try omega)) _ | refine below_step ?_ (by assumption)))
  have Hp0 := Lib.hid (padLs_zero zss)
  rw [hzl] at Hp0
  have Hzl := Lib.hid hzl; clear hzl hzs
  go_enter Try.func14, Try.ntmps14
  go_wp2
  go_loopw [4] (fun i wr => ∃ (k : Nat) (vs : List Value), k ≤ ps.length ∧ i = .int .i64 k ∧ OwnLV wr w.heap.size (.slice (some ⟨w.heap.size, 0, none⟩) ps.length ps.length) vs (padLs zss k) ∧ w.heap.size < wr.heap.size ∧ Below w.heap.size w wr) (fun i _ => ps.length - (intOf i).toNat)
  case atStart => exact ⟨0, _, by omega, rfl, by rw [Hp0.out]; exact hO0, by simp, hbw0⟩
  case round =>
    clear hO0 hbw0 hmk
    obtain ⟨k, vs, hk, rfl, hO, hge, hbw⟩ := hrel
    by_cases hlt : k < ps.length
    · obtain ⟨g, o, rfl, hcell⟩ := Hc.out (by omega)
      have c1 := cell_kept hbw (hcell k hlt)
      have hki : (k : Int) < ps.length := by omega
      have hvl2 : vs.length = ps.length := by rw [hO.len, padLs_len _ _ (by rw [Hzl.out]; omega), Hzl.out]
      have hvl : k < vs.length := by omega
      have hAk := (HA.out k hlt).below hbw
      have hzk := Hz.out ps[k] (List.getElem_mem hlt)
      have Hset := Lib.hid (padLs_set zss k (by rw [Hzl.out]; exact hlt))
      rw [Hzk.out k hlt (by rw [Hzl.out]; exact hlt)] at Hset
      have hltO := Lib.hid (fun q hq => (hO.lt q hq))
      generalize ps[k].1 = pv at *
      generalize ps[k].2 = pz at *
      clear hcell
      go_wp2_with (go_at_call 9; refine (toInt64S_calls pv pz _ hAk hzk).mono ?_; rintro e w5 ⟨u0, rfl, hU5, hb5⟩; obtain ⟨o5, c5, rfl, hq5⟩ := hU5.view; clear hq5; have hs5 := hb5.size; have hO5 := hO.below hb5; have cO := hO5.cell k hvl; have hrow5 := hO5.row; rw [hvl2] at hrow5; have fO := World.ownsRow.frozenAt hrow5 k; clear hrow5; generalize vs[k] = oldv at cO)
      have hO7 := hO5.put (i := k) (.slice o5 pz.length c5) pz (hU5.base_le (by omega)) (fun q h1 h2 => by have q1 := (hltO.out q h2).2; have q2 := (World.ownsRow.lt hU5 q h1).1; omega)
      rw [Hset.out] at hO7
      have hbw7 := below_set' (o := k) (below_step hbw hb5) (b := w.heap.size) (Nat.le_refl _) (.slice o5 pz.length c5)
      go_roundw
      case rel => exact ⟨k + 1, _, by omega, by go_num, hO7, by simp; omega, hbw7⟩
      case measure => simp [intOf] <;> omega
    · obtain rfl : k = ps.length := by omega
      have Hall := Lib.hid (padLs_all zss)
      rw [Hzl.out] at Hall
      rw [Hall.out] at hO
      go_wp2
      go_ret
      exact ⟨_, rfl, hO, hbw⟩
/-- What is copied can be read as a list of lists. -/
theorem OwnLV.seesL {w : World} {base g n : Nat} {vs : List Value} {zss : List (List Int)} (h : OwnLV w base (.slice (some ⟨g, 0, none⟩) n n) vs zss) : SeesL w (.slice (some ⟨g, 0, none⟩) n n) (vs.zip zss) := by
  have hl := h.len
  rcases h.row.2 with ⟨e, _⟩ | ⟨ga, ca, cur, e, hbg, hg, hn, hm, hs, ht⟩
  · cases e
  · simp only [Value.slice.injEq, Option.some.injEq, Addr.mk.injEq] at e
    obtain ⟨⟨rfl, _⟩, rfl, rfl⟩ := e
    have hz : (vs.zip zss).length = vs.length := by simp [hl]
    have hcur : cur = vs.toArray := by
      apply Array.ext'
      rw [← ht, List.take_of_length_le (by simp; omega)]
    have hmap : (vs.zip zss).map (·.1) = vs := List.map_fst_zip (by omega)
    refine ⟨g, _, by rw [hz], ?_, fun i hi => ?_⟩
    · rw [hmap, ← hcur]; exact hg
    · rw [hz] at hi
      have he : (vs.zip zss)[i]'(by rw [hz]; exact hi) = (vs[i], zss[i]'(by omega)) := by simp
      rw [he]
      exact (h.own i hi (by omega)).sees
end Go.Proofs.Ytkhpfjamkkicoaa
