/- 'slices.Index', 'slices.Contains' over numbers; 'orbits': the program. -/
import Derived.Test.YticnpajbefflbabTrQ
namespace Go.Proofs.Yticnpajbefflbab
open Go.RowKit

set_option maxRecDepth 100000 in
set_option maxHeartbeats 1000000 in
theorem Index_calls (v : Value) (zs : List Int) (k : Int) (hl : zs.length ≤ 100000) (w : World) (hv : SeesI w v zs) :
    Calls Try.prog 69 #[v, .int .i64 k] w fun e w' => ∃ r : Int, e = .returned (.int .i64 r) ∧ (0 ≤ r ↔ k ∈ zs) ∧ -1 ≤ r ∧ r ≤ 100000 ∧ w' = w := by
  obtain ⟨oa, cap, rfl, hc⟩ := hv.view
  have HC := Lib.hid hc
  clear hc hv
  go_enter Try.func69, Try.ntmps69
  go_wp2
  go_loopw [8] (fun iv wr => ∃ i : Nat, i ≤ zs.length ∧ iv = .int .i64 i ∧ k ∉ zs.take i ∧ wr = w) (fun iv _ => zs.length - (intOf iv).toNat)
  case atStart => exact ⟨0, Nat.zero_le _, rfl, by simp, rfl⟩
  case round =>
    obtain ⟨i, hi, rfl, hn, rfl⟩ := hrel
    by_cases hlt : i < zs.length
    · have hii : (i : Int) < (zs.length : Int) := by omega
      obtain ⟨g, rfl, hg, hcell⟩ := HC.out (by omega)
      have ci := hcell i hlt
      have Ht : Hid (zs.take (i + 1) = zs.take i ++ [zs[i]]) := Lib.hid (List.take_succ_eq_append_getElem hlt)
      have HM : Hid (zs[i] ∈ zs) := Lib.hid (List.getElem_mem hlt)
      have HN := Lib.hid hn
      clear hcell hn
      generalize zs[i] = z at *
      by_cases hz : k = z
      · have hzb : (k == z) = true := by simpa using hz
        have HZ := Lib.hid hz
        clear hz
        go_wp2
        go_ret
        exact ⟨(i : Int), rfl, ⟨fun _ => HZ.out ▸ HM.out, fun _ => by omega⟩, by omega, by omega, rfl⟩
      · have hzb : (k == z) = false := by simpa using hz
        have HZ := Lib.hid hz
        clear hz
        go_wp2
        go_roundw
        case rel => exact ⟨i + 1, by omega, by go_num, by rw [Ht.out]; exact fun h => (List.mem_append.1 h).elim HN.out (fun h => HZ.out (List.mem_singleton.1 h)), trivial⟩
        case measure => simp [intOf] <;> omega
    · obtain rfl : zs.length = i := by omega
      rw [List.take_length] at hn
      have HN := Lib.hid hn
      clear hn
      go_wp2
      go_ret
      exact ⟨-1, rfl, ⟨fun h => absurd h (by omega), fun h => absurd h HN.out⟩, by omega, by omega, rfl⟩

set_option maxRecDepth 100000 in
set_option maxHeartbeats 1000000 in
theorem Contains_calls (v : Value) (zs : List Int) (k : Int) (hl : zs.length ≤ 100000) (w : World) (hv : SeesI w v zs) :
    Calls Try.prog 51 #[v, .int .i64 k] w fun e w' => e = .returned (.bool (decide (k ∈ zs))) ∧ w' = w := by
  have HI := Lib.hid (Index_calls v zs k hl w hv)
  clear hv
  go_enter Try.func51, Try.ntmps51
  go_wp2_with (go_at_call 69; refine HI.out.mono ?_; rintro e w' ⟨r, rfl, hr, hr1, hr2, rfl⟩; have HR := Lib.hid hr; clear hr)
  go_ret
  exact ⟨by rw [decide_eq_decide.2 HR.out]; rfl, rfl⟩

/-- The orbits that are found among the first k words. -/
def orbsL (Ps : List (Int × List Int)) (N : Nat) : Nat → List (List Int)
  | 0 => []
  | k + 1 => if (orbsL Ps N k).any (fun o => decide ((k : Int) ∈ o)) then orbsL Ps N k else orbsL Ps N k ++ [orbL (treeT Ps N k) N]
theorem orbsL_len (Ps : List (Int × List Int)) (N : Nat) : ∀ k, (orbsL Ps N k).length ≤ k
  | 0 => Nat.le_refl _
  | k + 1 => by
    have := orbsL_len Ps N k
    unfold orbsL
    split
    · omega
    · simp; omega
theorem orbsL_each (Ps : List (Int × List Int)) (N : Nat) : ∀ k, ∀ o ∈ orbsL Ps N k, o.length ≤ N
  | 0, o, h => by cases h
  | k + 1, o, h => by
    unfold orbsL at h
    split at h
    · exact orbsL_each Ps N k o h
    · rcases List.mem_append.1 h with h | h
      · exact orbsL_each Ps N k o h
      · rw [List.mem_singleton.1 h]; exact orbL_len _ _

set_option maxRecDepth 100000 in
set_option maxHeartbeats 4000000 in
theorem orbits_calls (N : Nat) (hN : N ≤ 1000) (fv bv : Value) (ps qs : List (Int × List Int)) (hok : TabsOk N (ps ++ qs)) (h0 : 0 < ps.length) (hp : ps.length ≤ 16) (hq : qs.length ≤ 16) (w : World) (hF : SeesSt w fv ps) (hB : SeesSt w bv qs) :
    Calls Try.prog 33 #[.agg (gra N fv bv)] w fun e w' => ∃ v vs, e = .returned v ∧ OwnLV w' w.heap.size v vs (orbsL (ps ++ qs) N N) ∧ Below w.heap.size w w' := by
  have hbw0 : Below w.heap.size w (w.alloc (.cells (gra N fv bv) 53)) := by (repeat (first | exact Below.refl _ _ | refine below_drew' ?_ | refine below_drewN' ?_ _ | refine below_alloc' ?_ _ | refine below_set' ?_ (by (try simp); (try omega)) _ | refine below_step ?_ (by assumption)))
  have hX : Blk (w.alloc (.cells (gra N fv bv) 53)) w.heap.size (gra N fv bv) 53 := Blk.new _ _ _
  have cX := hX.cell 0
  rw [show (gra N fv bv)[0]? = some (.int .i64 (N : Int)) from rfl] at cX
  have HT := Lib.hid (fun (k : Nat) (hk : k < N) (W : World) (h1 : SeesSt W fv ps) (h2 : SeesSt W bv qs) => treeOf_calls N k hN hk fv bv ps qs hok h0 hp hq W h1 h2)
  have Hgs : Hid ((gra N fv bv).size = 3) := Lib.hid rfl
  have Hgl : Hid (cut (gra N fv bv) 0 3 = gra N fv bv) := Lib.hid (cut_all _ _ rfl)
  have Hgsz : Hid ((Try.prog.info? 53).map (·.size) = some 3) := Lib.hid size_gr
  generalize gra N fv bv = gr at *
  generalize ps ++ qs = Ps at *
  have HF := Lib.hid hF
  have HB := Lib.hid hB
  clear hF hB hp hq h0 hok
  go_enter Try.func33, Try.ntmps33
  go_wp2
  go_step3
  go_wp2
  go_step3
  go_wp2
  go_loopw [3, 9] (fun ov i wr => ∃ (k : Nat) (v0 : Value) (vs : List Value), k ≤ N ∧ i = .int .i64 k ∧ v0 = ov ∧ OwnLV wr (w.heap.size + 1) v0 vs (orbsL Ps N k) ∧ Blk wr w.heap.size gr 53 ∧ w.heap.size + 1 ≤ wr.heap.size ∧ Below w.heap.size w wr) (fun _ i _ => N - (intOf i).toNat)
  case atStart => exact ⟨0, _, [], by omega, rfl, rfl, OwnLV.nil _ _, hX, by simp, hbw0⟩
  case round =>
    clear hX cX hbw0
    obtain ⟨k, v0, vs, hk, rfl, rfl, hO, hG, hge, hbw⟩ := hrel
    obtain ⟨w4, rfl⟩ : ∃ x, x = wr := ⟨_, rfl⟩
    by_cases hlt : k < N
    · have hki : (k : Int) < (N : Int) := by omega
      have hln := orbsL_len Ps N k
      have HE := Lib.hid (orbsL_each Ps N k)
      have hvl := hO.len
      obtain ⟨oa, ca, hve, hvq⟩ := hO.view
      have HO := Lib.hid hO
      have HG := Lib.hid hG
      have HBW := Lib.hid hbw
      have HQ := Lib.hid hvq
      have Hs : Hid (orbsL Ps N (k + 1) = if (orbsL Ps N k).any (fun o => decide ((k : Int) ∈ o)) then orbsL Ps N k else orbsL Ps N k ++ [orbL (treeT Ps N k) N]) := Lib.hid rfl
      subst hve
      clear hO hG hbw hvq
      generalize orbsL Ps N k = zss at *
      go_wp2
      go_loopw [14] (fun i wr => ∃ j : Nat, j ≤ zss.length ∧ i = .int .i64 j ∧ (zss.take j).any (fun o => decide ((k : Int) ∈ o)) = false ∧ wr = w4) (fun i _ => zss.length - (intOf i).toNat)
      case atStart => exact ⟨0, by omega, rfl, by simp, rfl⟩
      case round =>
        obtain ⟨j, hj, rfl, hn, rfl⟩ := hrel
        have hvpos := HQ.out
        by_cases hjl : j < zss.length
        · obtain ⟨gv, rfl, hgv, hcv⟩ := HQ.out (by omega)
          have hji : (j : Int) < (zss.length : Int) := by omega
          have hjv : j < vs.length := by omega
          have cv := hcv j hjv
          have hu := (HO.out.own j hjv hjl).sees
          obtain ⟨ou, cu, hue, hqq⟩ := hu.view
          clear hqq
          have HC := Lib.hid (Contains_calls vs[j] zss[j] (k : Int) (by have := HE.out _ (List.getElem_mem hjl); omega) wr hu)
          rw [hue] at HC cv
          have Ht : Hid ((zss.take (j + 1)).any (fun o => decide ((k : Int) ∈ o)) = ((zss.take j).any (fun o => decide ((k : Int) ∈ o)) || decide ((k : Int) ∈ zss[j]))) := Lib.hid (by rw [List.take_succ_eq_append_getElem hjl, List.any_append]; simp)
          have HA : Hid (decide ((k : Int) ∈ zss[j]) = true → zss.any (fun o => decide ((k : Int) ∈ o)) = true) := Lib.hid (fun h => List.any_eq_true.2 ⟨_, List.getElem_mem hjl, h⟩)
          have HN := Lib.hid hn
          clear hu hue hn hcv hvpos
          generalize zss[j] = z at *
          generalize hcb : decide ((k : Int) ∈ z) = cb at *
          clear hcb
          cases cb
          · go_wp2_with (go_at_call 51; refine HC.out.mono ?_; rintro e w5 ⟨rfl, rfl⟩)
            go_roundw
            case rel => exact ⟨j + 1, by omega, by go_num, by rw [Ht.out, HN.out]; rfl, trivial⟩
            case measure => simp [intOf] <;> omega
          · go_wp2_with (go_at_call 51; refine HC.out.mono ?_; rintro e w5 ⟨rfl, rfl⟩)
            refine ⟨⟨k + 1, _, vs, by omega, by go_num, rfl, by rw [Hs.out, if_pos (HA.out trivial)]; exact HO.out, HG.out, hge, HBW.out⟩, ?_⟩
            simp [intOf]
            omega
        · obtain rfl : zss.length = j := by omega
          rw [List.take_length] at hn
          have HN : Hid (orbsL Ps N (k + 1) = zss ++ [orbL (treeT Ps N k) N]) := Lib.hid (by rw [Hs.out, if_neg (by rw [hn]; simp)])
          have hF4 := HF.out.below HBW.out
          have hB4 := HB.out.below HBW.out
          have HTk := Lib.hid (HT.out k hlt wr hF4 hB4)
          have HOr : Hid (∀ base t bs gn qv W, TreeAt W base t N (treeT Ps N k) bs gn qv → Calls Try.prog 52 #[.pointer (some ⟨t, 0, none⟩)] W fun e w' => ∃ v, e = .returned v ∧ OwnI w' W.heap.size v (orbL (treeT Ps N k) N) ∧ Below W.heap.size W w') := Lib.hid (fun base t bs gn qv W h => orbit_calls base t N _ bs gn qv hN W h)
          have hOl := HO.out.lt
          have hOs := HO.out
          have hGs := HG.out
          have hBs := HBW.out
          clear hn Hs hF4 hB4 hvpos HQ
          generalize orbL (treeT Ps N k) N = z at *
          generalize treeT Ps N k = T1 at *
          go_wp2_with (first | (with_reducible show wpList _ _ _ _ _ _; refine wpList_load_blk rfl 53 (.tmp 1) rfl w.heap.size 0 rfl gr _ hGs 3 (by rw [Hgs.out]; omega) _ Try.underlying53 rfl Hgsz.out ?_; rw [Hgl.out]) | (go_at_call 36; refine HTk.out.mono ?_; rintro e w5 ⟨t5, g5, q5, b5, rfl, hT5, hb5⟩; have hs5 := hb5.size) | (go_at_call 52; refine (HOr.out _ _ _ _ _ _ hT5).mono ?_; rintro e w6 ⟨u6, rfl, hU, hb6⟩; obtain ⟨ou, cu, rfl, hqq⟩ := hU.view; clear hqq; have hs6 := hb6.size; have hbw7 := below_alloc' (below_step (below_step hBs hb5) hb6) (.cells #[.slice ou z.length cu] 36); have hG7 := ((hGs.keptAll hb5).keptAll hb6).alloc (.cells #[.slice ou z.length cu] 36); have hO7 := ((hOs.below hb5).below hb6).below (w1 := w6.alloc (.cells #[.slice ou z.length cu] 36)) (by (repeat (first | exact Below.refl _ _ | refine below_drew' ?_ | refine below_drewN' ?_ _ | refine below_alloc' ?_ _ | refine below_set' ?_ (by (try simp); (try omega)) _ | refine below_step ?_ (by assumption)))); have hU7 := hU.below (w1 := w6.alloc (.cells #[.slice ou z.length cu] 36)) (by (repeat (first | exact Below.refl _ _ | refine below_drew' ?_ | refine below_drewN' ?_ _ | refine below_alloc' ?_ _ | refine below_set' ?_ (by (try simp); (try omega)) _ | refine below_step ?_ (by assumption)))); have HU := Lib.hid (fun q (hq : (Value.slice ou z.length cu).ownBlock = some q) => (World.ownsRow.lt hU q hq))) | (at_builtin; refine wpList_push_list rfl (.tmp 22) (.tmp 27) rfl (w.heap.size + 1) _ vs zss rfl hO7 w6.heap.size 1 (.slice ou z.length cu) z rfl (Blk.new w6 _ _) (hU7.base_le' (by omega)) (fun q h1 h2 => by have q1 := (HU.out q h1).1; have q2 := (hOl q h2).2; omega) (by omega) (by simp; omega) ?_; intro v7 w7 hO8 hb8 hsp8 hat8))
          have hs8 := hb8.size
          simp at hs8
          have hG8 : Blk w7 w.heap.size gr 53 := (hsp8 _ hG7.lt (fun e => by have := (hOl _ (.inl e.symm)).1; omega)).trans hG7
          refine ⟨⟨k + 1, v7, vs ++ [.slice ou z.length cu], by omega, by go_num, rfl, by rw [HN.out]; exact hO8, hG8, by omega, hbw7.trans (below_le hb8 (by omega))⟩, ?_⟩
          simp [intOf]
          omega
    · obtain rfl : N = k := by omega
      go_wp2
      rw [Exit.noGoto_ret]
      go_ret
      exact ⟨_, vs, rfl, hO.base_le (by omega), hbw⟩
end Go.Proofs.Yticnpajbefflbab
