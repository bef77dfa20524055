/- 'DistancesFrom': the program. -/
import Derived.Test.YticnpajbefflbabGwD
import Derived.Test.YticnpajbefflbabTrO
namespace Go.Proofs.Yticnpajbefflbab
open Go.RowKit

theorem sees_words1 (W : World) (g : Nat) (k : Int) (h : Blk W g #[.int .i64 k] 2) : SeesI W (.slice (some ⟨g, 0, none⟩) 1 1) [k] :=
  (OwnI.made (n := 1) (zs := [k]) (base := 0) rfl (by unfold maxLen; omega) (Nat.zero_le _) h).sees
theorem sees_words2 (W : World) (g : Nat) (k l : Int) (h : Blk W g #[.int .i64 k, .int .i64 l] 2) : SeesI W (.slice (some ⟨g, 0, none⟩) 2 2) [k, l] :=
  (OwnI.made (n := 2) (zs := [k, l]) (base := 0) rfl (by unfold maxLen; omega) (Nat.zero_le _) h).sees
theorem TreeAt.setOther {w : World} {base t N : Nat} {T : List Ent} {bs : List Nat} {gn : Nat} {qv : Value} (h : TreeAt w base t N T bs gn qv) (b i : Nat) (u : Value) (hb : b < base) : TreeAt (w.setCell ⟨b, i, none⟩ u) base t N T bs gn qv :=
  h.same fun k hk => Below.heap_setCell _ ⟨b, i, none⟩ u k (by have := (h.lt k hk).1; show k ≠ b; omega)
/-- The first i distances, zeros behind. -/
def dfP (N : Nat) (T : List Ent) (i : Nat) : List Int := (List.range N).map fun x => if x < i then (distL N T).getD x 0 else 0
theorem dfP_len (N : Nat) (T : List Ent) (i : Nat) : (dfP N T i).length = N := by simp [dfP]
theorem dfP_zero (N : Nat) (T : List Ent) : dfP N T 0 = List.replicate N 0 := by simp [dfP, List.map_const']
theorem dfP_all (N : Nat) (T : List Ent) : dfP N T N = distL N T := by
  apply List.ext_getElem
  · rw [dfP_len, distL_len]
  · intro i h1 h2
    simp only [dfP, List.getElem_map, List.getElem_range]
    rw [if_pos (by rw [dfP_len] at h1; exact h1), List.getD, List.getElem?_eq_getElem h2]
    rfl
theorem dfP_set (N : Nat) (T : List Ent) (i : Nat) : (dfP N T i).set i ((distL N T).getD i 0) = dfP N T (i + 1) := by
  apply List.ext_getElem
  · simp [dfP]
  · intro j h1 h2
    simp only [dfP, List.getElem_set, List.getElem_map, List.getElem_range]
    by_cases h : i = j
    · subst h; simp
    · rw [if_neg h]
      by_cases h3 : j < i
      · rw [if_pos h3, if_pos (by omega)]
      · rw [if_neg h3, if_neg (by omega)]

set_option maxRecDepth 100000 in
set_option maxHeartbeats 4000000 in
theorem iDistancesFrom_calls (M : Mach) (hok : M.Ok) (n : Int) (k : Int) (w : World) :
    Calls Try.prog 18 #[.agg (mc M), .int .i64 n, .int .i64 k] w fun e w' => ∃ v, e = .returned (.tuple #[v, .int .i64 (gC M n [k])]) ∧ OwnI w' w.heap.size v (dfL M n k) ∧ Below w.heap.size w w' := by
  have F1 : Hid (cut (mc M) 0 98 = mc M) := Lib.hid (cut_all _ _ (mc_size hok)); have F2 : Hid (0 + 98 ≤ (mc M).size) := Lib.hid (by rw [mc_size hok]; omega)
  have hB : Blk (w.alloc (.cells (mc M) 29)) w.heap.size (mc M) 29 := Blk.new w _ _
  have hzg := zero_gr
  have hbw0 : Below w.heap.size w (w.alloc (.cells (mc M) 29)) := by (repeat (first | exact Below.refl _ _ | refine below_drew' ?_ | refine below_drewN' ?_ _ | refine below_alloc' ?_ _ | refine below_set' ?_ (by (try simp); (try omega)) _ | refine below_step ?_ (by assumption)))
  have Hg0 : Hid (gr0.size = 3) := Lib.hid rfl
  have Hgl1 := Lib.hid gr0_one
  have Hgo : Hid (over gr0 0 gr0 = gr0) := Lib.hid (over_all _ _ rfl)
  have Hgz : Hid (∀ N' f b, over gr0 0 (gra N' f b) = gra N' f b) := Lib.hid (fun N' f b => over_all _ _ rfl)
  have Hgs : Hid (∀ N' f b, (gra N' f b).size = 3) := Lib.hid (fun N' f b => rfl)
  have Hgl : Hid (∀ N' f b, cut (gra N' f b) 0 3 = gra N' f b) := Lib.hid (fun N' f b => cut_all _ _ rfl)
  have Hgsz : Hid ((Try.prog.info? 53).map (·.size) = some 3) := Lib.hid size_gr
  have hBW := hB.alloc (.cells #[.int .i64 k] 2)
  have hbwW := below_alloc' hbw0 (.cells #[.int .i64 k] 2)
  by_cases hc : gC M n [k] = 0
  · obtain ⟨L, S, nn, hg, rfl, hnL, hkk⟩ := gC_words hok hc
    obtain ⟨kk, rfl, hklt⟩ := hkk k (by simp)
    have Hr := Lib.hid (dfL_good hg hc)
    clear hkk
    have hlW := hBW.lt
    have HG := Lib.hid (levelGraphOf_good M L S hg nn (.slice (some ⟨w.heap.size + 1, 0, none⟩) 1 1) [(kk : Int)] (by simp) hc ((w.alloc (.cells (mc M) 29)).alloc (.cells #[.int .i64 (kk : Int)] 2)) (sees_words1 _ _ _ (Blk.new_at _ _ _ _ (by simp))))
    have hS16 := hg.S16
    have hN : L ^ nn ≤ 243 := by have := hg.L2; exact pow_le L nn hg.L3 (by omega)
    have HTr := Lib.hid (fun fv bv W h1 h2 => treeOf_calls (L ^ nn) kk (by omega) hklt fv bv (fwd M L nn S) (bwd M L S nn S) (tabs_ok hg nn) (by rw [fwd_len]; exact hg.S1) (by rw [fwd_len]; exact hS16) (by rw [bwd_len]; exact hS16) W h1 h2)
    rw [hc, Hr.out]
    have hmk := mk_ints (L ^ nn) (by omega)
    clear hc
    generalize treeT (fwd M L nn S ++ bwd M L S nn S) (L ^ nn) kk = T at *
    generalize gr0 = g0 at *
    generalize L ^ nn = N at *
    go_enter Try.func18, Try.ntmps18
    go_wp2_with (first | (with_reducible show wpList _ _ _ _ _ _; refine wpList_load_blk rfl 29 (.tmp 3) rfl w.heap.size 0 rfl (mc M) _ (by first | exact hBW | exact hB) 98 F2.out _ Try.underlying29 rfl size_mach ?_; rw [F1.out]) | (go_at_call 32; refine HG.out.mono ?_; rintro e w1 ⟨fv, bv, rfl, hF, hBv, hb1⟩; have HF := Lib.hid hF; have HBv := Lib.hid hBv; obtain ⟨gf, cf, rfl, hgf, hfc⟩ := hF.fw; obtain ⟨gb, cb, rfl, hgb, hbc⟩ := hBv.bw; clear hF hBv hbc hfc; have hX1 : Blk (w1.alloc (.cells g0 53)) w1.heap.size g0 53 := Blk.new _ _ _; have hbw1 := below_alloc' (below_step hbwW hb1) (.cells g0 53)) | (with_reducible show wpList _ _ _ _ _ _; refine wpList_store_row rfl 53 (.tmp 8) _ rfl w1.heap.size 0 (gra (N : Int) (.slice (some ⟨gf, 0, none⟩) S cf) (.slice (some ⟨gb, 0, none⟩) S cb)) rfl rfl _ _ hX1 (by rw [Hg0.out]; simp [gra]) (size_gra _ _ _) (gr_one _ _ _ _ _ _ _) _ (Hgz.out _ _ _) ?_; intro w2 hs2; have hG2 := hs2.blk; have hb12 : Below w1.heap.size w1 w2 := hs2.below _ _ (Nat.le_refl _) (by (repeat (first | exact Below.refl _ _ | refine below_drew' ?_ | refine below_drewN' ?_ _ | refine below_alloc' ?_ _ | refine below_set' ?_ (by (try simp); (try omega)) _ | refine below_step ?_ (by assumption)))); have hbw2 := hs2.below _ _ (by have := hb1.size; simp at this; omega) hbw1; have hF2 := HF.out.below hb12; have hB2 := HBv.out.below hb12; have hs2s := hbw2.size; have hs21 := hb12.size; have cG2 := hG2.cell 0; rw [(gra_at _ _ _).1] at cG2; have hG3 := hG2.alloc (.cells (ints (List.replicate N 0)) 2); have hD3 : Blk (w2.alloc (.cells (ints (List.replicate N 0)) 2)) w2.heap.size (ints (dfP N T 0)) 2 := (by rw [dfP_zero]; exact Blk.new _ _ _); have hbw3 := below_alloc' hbw2 (.cells (ints (List.replicate N 0)) 2); have hF3 := hF2.below (w1 := w2.alloc (.cells (ints (List.replicate N 0)) 2)) (by (repeat (first | exact Below.refl _ _ | refine below_drew' ?_ | refine below_drewN' ?_ _ | refine below_alloc' ?_ _ | refine below_set' ?_ (by (try simp); (try omega)) _ | refine below_step ?_ (by assumption)))); have hB3 := hB2.below (w1 := w2.alloc (.cells (ints (List.replicate N 0)) 2)) (by (repeat (first | exact Below.refl _ _ | refine below_drew' ?_ | refine below_drewN' ?_ _ | refine below_alloc' ?_ _ | refine below_set' ?_ (by (try simp); (try omega)) _ | refine below_step ?_ (by assumption))))) | (with_reducible show wpList _ _ _ _ _ _; refine wpList_load_blk rfl 53 _ rfl w1.heap.size 0 rfl (gra (N : Int) (.slice (some ⟨gf, 0, none⟩) S cf) (.slice (some ⟨gb, 0, none⟩) S cb)) _ hG3 3 (by rw [Hgs.out]; omega) _ Try.underlying53 rfl Hgsz.out ?_; rw [Hgl.out]) | (go_at_call 36; refine (HTr.out _ _ _ hF3 hB3).mono ?_; rintro e w4 ⟨t, gn, qv, bs, rfl, hT4, hb4⟩; have hD4 := hD3.keptAll hb4; have hbw4 := below_step hbw3 hb4; have ct1 := hT4.tb.cell 1; simp at ct1; have hs4 := hb4.size; simp at hs4))
    have hT0 : w2.heap.size < (w2.alloc (.cells (ints (List.replicate N 0)) 2)).heap.size := by simp
    generalize (w2.alloc (.cells (ints (List.replicate N 0)) 2)).heap.size = base at *
    have hge2 : w.heap.size ≤ w2.heap.size := hs2s
    clear hB hBW hbw0 hbwW hX1 hbw1 hs2 hG2 hb12 hbw2 hF2 hB2 hG3 hD3 hbw3 hF3 hB3 hb4 cG2 hmk ct1 hb1
    go_loopw [34] (fun i wr => ∃ j : Nat, j ≤ N ∧ i = .int .i64 j ∧ Blk wr w2.heap.size (ints (dfP N T j)) 2 ∧ TreeAt wr base t N T bs gn qv ∧ Below w.heap.size w wr) (fun i _ => N - (intOf i).toNat)
    case atStart => exact ⟨0, by omega, rfl, hD4, hT4, hbw4⟩
    case round =>
      clear hD4 hT4 hbw4
      obtain ⟨j, hj, rfl, hD, hT, hbw⟩ := hrel
      by_cases hlt : j < N
      · have hji : (j : Int) < (N : Int) := by omega
        have cn := hT.nod.cell j
        rw [nodesC_at _ _ _ _ hlt] at cn
        have hgd := distL_get (T := T) j hlt
        have Hset := Lib.hid (dfP_set N T j)
        have hsz := dfP_len N T j
        have cD := hD.cell j
        have fD := hD.free
        have hx : (ints (dfP N T j))[j]? = some ((ints (dfP N T j))[j]'(by rw [ints_size, hsz]; exact hlt)) := Array.getElem?_eq_getElem _
        generalize (ints (dfP N T j))[j]'(by rw [ints_size, hsz]; exact hlt) = old at hx
        rw [hx] at cD
        have hD1 := hD.set j (.int .i64 (-1))
        rw [← ints_set] at hD1
        have hT1 := hT.setOther w2.heap.size j (.int .i64 (-1)) hT0
        have hbw1 := below_set' (o := j) hbw (b := w2.heap.size) hge2 (.int .i64 (-1))
        by_cases hin : j ∈ wds T
        · have hidx := idx_lt hin
          have hib : (wds T).idxOf j < bs.length := by rw [hT.blen]; exact hidx
          rw [nodeP_in hib] at cn
          unfold ptr at cn
          rw [if_pos hin] at hgd
          have cN := (hT1.nodes _ hidx hib).cell 3
          simp [nodeC] at cN
          have cD1 := hD1.cell j
          have fD1 := hD1.free
          have hx1 : (ints ((dfP N T j).set j (-1)))[j]? = some (.int .i64 (-1)) := by
            rw [ints_set, Array.getElem?_setIfInBounds, if_pos rfl, if_pos (by rw [ints_size, hsz]; exact hlt)]
          rw [hx1] at cD1
          have hD2 := hD1.set j (.int .i64 ((entAt T ((wds T).idxOf j)).dist : Int))
          rw [← ints_set, List.set_set] at hD2
          rw [hgd] at Hset
          have hT2 := hT1.setOther w2.heap.size j (.int .i64 ((entAt T ((wds T).idxOf j)).dist : Int)) hT0
          have hbw2 := below_set' (o := j) hbw1 (b := w2.heap.size) hge2 (.int .i64 ((entAt T ((wds T).idxOf j)).dist : Int))
          rw [Hset.out] at hD2
          have HT2 := Lib.hid hT2
          have HD2 := Lib.hid hD2
          have HB2 := Lib.hid hbw2
          clear Hset hgd hT hT1 hbw hbw1 hD1 hD hx hx1 hin hidx hT2 hD2 hbw2 hsz
          generalize bs[(wds T).idxOf j] = yb at *
          generalize ((entAt T ((wds T).idxOf j)).dist : Int) = dd at *
          go_wp2
          go_roundw
          case rel => exact ⟨j + 1, by omega, by go_num, HD2.out, HT2.out, HB2.out⟩
          case measure => simp [intOf] <;> omega
        · rw [nodeP_out hT.blen hin] at cn
          rw [if_neg hin] at hgd
          rw [hgd] at Hset
          rw [Hset.out] at hD1
          have HT1 := Lib.hid hT1
          have HD1 := Lib.hid hD1
          have HB1 := Lib.hid hbw1
          clear Hset hgd hT hT1 hbw hbw1 hD1 hD hx hin hsz
          go_wp2
          go_roundw
          case rel => exact ⟨j + 1, by omega, by go_num, HD1.out, HT1.out, HB1.out⟩
          case measure => simp [intOf] <;> omega
      · obtain rfl : j = N := by omega
        rw [dfP_all] at hD
        go_wp2
        go_ret2
        exact ⟨_, rfl, OwnI.made (distL_len _ _) (by unfold maxLen; omega) hge2 hD, hbw⟩
  · obtain ⟨c, hcc⟩ : ∃ c, gC M n [k] = c := ⟨_, rfl⟩
    have HG := Lib.hid (levelGraphOf_bad M hok n (.slice (some ⟨w.heap.size + 1, 0, none⟩) 1 1) [k] (by simp) c hcc (by rw [← hcc]; exact hc) ((w.alloc (.cells (mc M) 29)).alloc (.cells #[.int .i64 k] 2)) (sees_words1 _ _ _ (Blk.new_at _ _ _ _ (by simp))))
    have Hr : Hid (dfL M n k = []) := Lib.hid (by unfold dfL; rw [if_neg hc])
    rw [Hr.out, hcc]
    have hcb : (c != 0) = true := by rw [hcc] at hc; simpa using hc
    clear hcc hc
    generalize gr0 = g0 at *
    go_enter Try.func18, Try.ntmps18
    go_wp2_with (first | (with_reducible show wpList _ _ _ _ _ _; refine wpList_load_blk rfl 29 (.tmp 3) rfl w.heap.size 0 rfl (mc M) _ (by first | exact hBW | exact hB) 98 F2.out _ Try.underlying29 rfl size_mach ?_; rw [F1.out]) | (go_at_call 32; refine HG.out.mono ?_; rintro e w1 ⟨rfl, hb1⟩; have hX1 : Blk (w1.alloc (.cells g0 53)) w1.heap.size g0 53 := Blk.new _ _ _; have hs1 := hb1.size; simp at hs1; have hbw1 := below_alloc' (below_step hbwW hb1) (.cells g0 53)) | (with_reducible show wpList _ _ _ _ _ _; refine wpList_store_row rfl 53 (.tmp 8) _ rfl w1.heap.size 0 g0 rfl rfl _ _ hX1 (by rw [Hg0.out]; omega) (by rw [Hg0.out]; exact size_gr) Hgl1.out _ Hgo.out ?_; intro w2 hs2))
    go_ret2
    exact ⟨_, rfl, OwnI.nil _ _, hs2.below _ _ (by omega) hbw1⟩
end Go.Proofs.Yticnpajbefflbab
