/- 'FixedWords': plain data; the program. -/
import Derived.Test.YtppmfpgpbdjkdabGrJ
namespace Go.Proofs.Ytppmfpgpbdjkdab
open Go.RowKit

/-- How many of the first i numbers stand at their own place. -/
def fixUp (zs : List Int) (i : Nat) : Nat := ((List.range i).filter fun k => decide (zs.getD k 0 = (k : Int))).length
theorem fixUp_succ (zs : List Int) (i : Nat) : fixUp zs (i + 1) = fixUp zs i + if zs.getD i 0 = (i : Int) then 1 else 0 := by
  unfold fixUp
  rw [List.range_succ, List.filter_append, List.length_append]
  by_cases h : zs.getD i 0 = (i : Int)
  · rw [if_pos h, List.filter_cons, if_pos (decide_eq_true h)]; rfl
  · rw [if_neg h, List.filter_cons, if_neg (by rw [decide_eq_false h]; simp)]; rfl
theorem fixUp_le (zs : List Int) (i : Nat) : fixUp zs i ≤ i := by
  unfold fixUp
  have := List.length_filter_le (fun (k : Nat) => decide (zs.getD k 0 = (k : Int))) (List.range i)
  simpa using this
def fixQ (M : Mach) (L n q : Nat) : Int := ((fixUp (permL M L q n) (permL M L q n).length : Nat) : Int)
def fxL (M : Mach) (L n k : Nat) : List Int := (List.range k).map fun q => fixQ M L n q
theorem fxL_succ (M : Mach) (L n k : Nat) : fxL M L n (k + 1) = fxL M L n k ++ [fixQ M L n k] := by simp [fxL, List.range_succ]
theorem fxL_len (M : Mach) (L n k : Nat) : (fxL M L n k).length = k := by simp [fxL]
/-- The first k numbers, zeros behind. -/
def fxP (M : Mach) (L n S k : Nat) : List Int := (List.range S).map fun q => if q < k then fixQ M L n q else 0
theorem fxP_len (M : Mach) (L n S k : Nat) : (fxP M L n S k).length = S := by simp [fxP]
theorem fxP_zero (M : Mach) (L n S : Nat) : fxP M L n S 0 = List.replicate S 0 := by simp [fxP, List.map_const']
theorem fxP_all (M : Mach) (L n S : Nat) : fxP M L n S S = fxL M L n S := by
  unfold fxP fxL
  exact List.map_congr_left fun q hq => by rw [if_pos (List.mem_range.1 hq)]
theorem fxP_set0 (M : Mach) (L n S k : Nat) (_hk : k < S) : (fxP M L n S k).set k 0 = fxP M L n S k := by
  apply List.ext_getElem
  · simp
  · intro i h1 h2
    simp only [fxP, List.getElem_set, List.getElem_map, List.getElem_range]
    by_cases h : k = i
    · subst h; simp
    · rw [if_neg h]
theorem fxP_set (M : Mach) (L n S k : Nat) (_hk : k < S) : (fxP M L n S k).set k (fixQ M L n k) = fxP M L n S (k + 1) := by
  apply List.ext_getElem
  · simp [fxP]
  · intro i h1 h2
    simp only [fxP, List.getElem_set, List.getElem_map, List.getElem_range]
    by_cases h : k = i
    · subst h; simp
    · rw [if_neg h]
      by_cases h3 : i < k
      · rw [if_pos h3, if_pos (by omega)]
      · rw [if_neg h3, if_neg (by omega)]
/-- The answer of 'FixedWords'. -/
def fxR (M : Mach) (n : Int) : List Int := if gC M n [] = 0 then fxL M M.L.toNat n.toNat M.S.toNat else []
theorem gC_good {M : Mach} {n : Int} {ks : List Int} (hok : M.Ok) (h : gC M n ks = 0) : ∃ (L S nn : Nat), Good M L S ∧ n = (nn : Int) ∧ nn + L ≤ 7 := by
  unfold gC at h
  cases hm : isMach M
  · rw [hm] at h; simp at h
  · rw [if_pos hm] at h
    obtain ⟨L, S, hg⟩ := Good.of hok hm
    cases hl : gLev M n
    · rw [hl] at h; simp at h
    · unfold gLev at hl
      rw [hg.hL] at hl
      simp at hl
      obtain ⟨nn, rfl⟩ := Int.eq_ofNat_of_zero_le hl.1
      exact ⟨L, S, nn, hg, rfl, by omega⟩
theorem fxR_good {M : Mach} {L S nn : Nat} (hg : Good M L S) (h : gC M nn [] = 0) : fxR M nn = fxL M L nn S := by
  unfold fxR
  rw [if_pos h, hg.hL, hg.hS]
  rfl
theorem SeesSt.steps {w : World} {v : Value} {ps : List (Int × List Int)} (h : SeesSt w v ps) : ∃ g cap, v = .slice (some ⟨g, 0, none⟩) ps.length cap ∧ g < w.heap.size ∧ ∀ j (hj : j < ps.length), ∃ o c, w.cell? ⟨g, j * 2, none⟩ = some (.int .i64 ps[j].1) ∧ w.cell? ⟨g, j * 2 + 1, none⟩ = some (.slice o ps[j].2.length c) ∧ SeesI w (.slice o ps[j].2.length c) ps[j].2 := by
  obtain ⟨g, cap, us, hl, hv, hg, hc⟩ := h
  refine ⟨g, cap, hv, hg, fun j hj => ?_⟩
  obtain ⟨c1, c2, c3⟩ := hc j hj (by omega)
  obtain ⟨o, c, he, _⟩ := c3.view
  rw [he] at c2 c3
  exact ⟨o, c, c1, c2, c3⟩
theorem SeesSt.fw {w : World} {v : Value} {M : Mach} {L n S : Nat} (h : SeesSt w v (fwd M L n S)) : ∃ g cap, v = .slice (some ⟨g, 0, none⟩) S cap ∧ g < w.heap.size ∧ ∀ j, j < S → ∃ o c, w.cell? ⟨g, j * 2, none⟩ = some (.int .i64 ((j : Int) + 1)) ∧ w.cell? ⟨g, j * 2 + 1, none⟩ = some (.slice o (permL M L j n).length c) ∧ SeesI w (.slice o (permL M L j n).length c) (permL M L j n) := by
  obtain ⟨g, cap, hv, hg, hc⟩ := h.steps
  rw [fwd_len] at hv
  refine ⟨g, cap, hv, hg, fun j hj => ?_⟩
  have := hc j (by rw [fwd_len]; exact hj)
  simpa [fwd] using this
theorem SeesSt.bw {w : World} {v : Value} {M : Mach} {L n S : Nat} (h : SeesSt w v (bwd M L S n S)) : ∃ g cap, v = .slice (some ⟨g, 0, none⟩) S cap ∧ g < w.heap.size ∧ ∀ j, j < S → ∃ o c, w.cell? ⟨g, j * 2, none⟩ = some (.int .i64 (-(j : Int) - 1)) ∧ w.cell? ⟨g, j * 2 + 1, none⟩ = some (.slice o (permL (invM M L S) L j n).length c) ∧ SeesI w (.slice o (permL (invM M L S) L j n).length c) (permL (invM M L S) L j n) := by
  obtain ⟨g, cap, hv, hg, hc⟩ := h.steps
  rw [bwd_len] at hv
  refine ⟨g, cap, hv, hg, fun j hj => ?_⟩
  have := hc j (by rw [bwd_len]; exact hj)
  simpa [bwd] using this
theorem below_setB' {B : Nat} {w X : World} {b o : Nat} (h : Below B w X) (hp : B ≤ b) (u : Value) : Below B w (X.setCell ⟨b, o, none⟩ u) := h.setCell hp u
theorem below_allocB' {B : Nat} {w X : World} (h : Below B w X) (hB : B ≤ X.heap.size) (o : Obj) : Below B w (X.alloc o) := h.alloc hB o
theorem ints_getD (c : List Int) (i : Nat) (hi : i < c.length) : (ints c)[i]? = some (.int .i64 (c.getD i 0)) := by
  simp [ints, List.getD, List.getElem?_eq_getElem hi]
theorem size_gra (N : Int) (f b : Value) : (Try.prog.info? 57).map (·.size) = some (gra N f b).size := size_gr
theorem SeesI.nil (w : World) : SeesI w (.slice none 0 0) [] := ⟨by simp, .inl ⟨rfl, rfl⟩⟩

set_option maxRecDepth 100000 in
set_option maxHeartbeats 4000000 in
theorem iFixedWords_calls (M : Mach) (hok : M.Ok) (n : Int) (w : World) :
    Calls Try.prog 18 #[.agg (mc M), .int .i64 n] w fun e w' => ∃ v, e = .returned (.tuple #[v, .int .i64 (gC M n [])]) ∧ OwnI w' w.heap.size v (fxR M n) ∧ Below w.heap.size w w' := by
  have F1 : Hid (cut (mc M) 0 98 = mc M) := Lib.hid (cut_all _ _ (mc_size hok)); have F2 : Hid (0 + 98 ≤ (mc M).size) := Lib.hid (by rw [mc_size hok]; omega)
  have hB : Blk (w.alloc (.cells (mc M) 29)) w.heap.size (mc M) 29 := Blk.new w _ _
  have hzg := zero_gr
  have hbw0 : Below w.heap.size w (w.alloc (.cells (mc M) 29)) := by (repeat (first | exact Below.refl _ _ | refine below_drew' ?_ | refine below_drewN' ?_ _ | refine below_alloc' ?_ _ | refine below_set' ?_ (by (try simp); (try omega)) _ | refine below_step ?_ (by assumption)))
  have Hg0 : Hid (gr0.size = 3) := Lib.hid rfl
  have Hgl1 := Lib.hid gr0_one
  have Hgo : Hid (over gr0 0 gr0 = gr0) := Lib.hid (over_all _ _ rfl)
  have Hgz : Hid (∀ N' f b, over gr0 0 (gra N' f b) = gra N' f b) := Lib.hid (fun N' f b => over_all _ _ rfl)
  by_cases hc : gC M n [] = 0
  · obtain ⟨L, S, nn, hg, rfl, hnL⟩ := gC_good hok hc
    have Hr := Lib.hid (fxR_good hg hc)
    have HG := Lib.hid (levelGraphOf_good M L S hg nn (.slice none 0 0) [] (by simp) hc (w.alloc (.cells (mc M) 29)) (SeesI.nil _))
    have Hc := Lib.hid hc
    have hcS := mc_S M
    rw [hg.hS] at hcS
    have HcS := Lib.hid hcS
    have hS16 := hg.S16
    have hmk := mk_ints S (by omega)
    have HPl : Hid (∀ q, (permL M L q nn).length ≤ 243) := Lib.hid (fun q => by rw [permL_len]; have := hg.L2; exact pow_le L nn hg.L3 (by omega))
    rw [hc, Hr.out]
    clear hc hcS
    generalize gr0 = g0 at *
    go_enter Try.func18, Try.ntmps18
    go_wp2_with (first | (with_reducible show wpList _ _ _ _ _ _; refine wpList_load_blk rfl 29 (.tmp 2) rfl w.heap.size 0 rfl (mc M) _ (hB) 98 F2.out _ Try.underlying29 rfl size_mach ?_; rw [F1.out]) | (go_at_call 39; refine HG.out.mono ?_; rintro e w1 ⟨fv, bv, rfl, hF, hBv, hb1⟩; obtain ⟨gf, cf, rfl, hgf, hfc⟩ := hF.fw; obtain ⟨gb, cb, rfl, hgb, hbc⟩ := hBv.bw; clear hF hBv hbc; have hX1 : Blk (w1.alloc (.cells g0 57)) w1.heap.size g0 57 := Blk.new _ _ _; have hM1 := (hB.keptAll hb1).alloc (.cells g0 57); have hltM := (hB.keptAll hb1).lt; have hbw1 := below_alloc' (below_step hbw0 hb1) (.cells g0 57)) | (with_reducible show wpList _ _ _ _ _ _; refine wpList_store_row rfl 57 (.tmp 6) _ rfl w1.heap.size 0 (gra ((L ^ nn : Nat) : Int) (.slice (some ⟨gf, 0, none⟩) S cf) (.slice (some ⟨gb, 0, none⟩) S cb)) rfl rfl _ _ hX1 (by rw [Hg0.out]; simp [gra]) (size_gra _ _ _) (gr_one _ _ _ _ _ _ _) _ (Hgz.out _ _ _) ?_; intro w2 hs2; have hM2 := hs2.keep (by omega) hM1; have cM2 := hM2.cell 1; rw [HcS.out] at cM2; have cG2 := (hs2.blk.alloc (.cells (ints (List.replicate S 0)) 2)).cell 1; rw [(gra_at _ _ _).2.1] at cG2))
    have HFC := Lib.hid hfc
    have hb12 : Below w1.heap.size w1 w2 := hs2.below _ _ (Nat.le_refl _) (by (repeat (first | exact Below.refl _ _ | refine below_drew' ?_ | refine below_drewN' ?_ _ | refine below_alloc' ?_ _ | refine below_set' ?_ (by (try simp); (try omega)) _ | refine below_step ?_ (by assumption))))
    have hs2' : w1.heap.size ≤ w2.heap.size := by rw [hs2.size]; simp
    have hC3 : Blk (w2.alloc (.cells (ints (List.replicate S 0)) 2)) w2.heap.size (ints (fxP M L nn S 0)) 2 := by rw [fxP_zero]; exact Blk.new _ _ _
    have hb13 := below_alloc' hb12 (.cells (ints (List.replicate S 0)) 2)
    have hbw3 := below_alloc' (hs2.below _ _ (by have := hb1.size; simp at this; omega) hbw1) (.cells (ints (List.replicate S 0)) 2)
    have hs1 := hb1.size
    simp at hs1
    clear hfc hs2 hM1 hM2 cM2 hX1 hbw1 hb12 hmk cG2
    go_loopw [28] (fun i wr => ∃ k : Nat, k ≤ S ∧ i = .int .i64 k ∧ Blk wr w2.heap.size (ints (fxP M L nn S k)) 2 ∧ Below w1.heap.size w1 wr ∧ Below w.heap.size w wr) (fun i _ => S - (intOf i).toNat)
    case atStart => exact ⟨0, by omega, rfl, hC3, hb13, hbw3⟩
    case round =>
      clear hC3 hb13 hbw3
      obtain ⟨k, hk, rfl, hC, hb, hbw⟩ := hrel
      obtain ⟨w3, rfl⟩ : ∃ x, x = wr := ⟨_, rfl⟩
      by_cases hlt : k < S
      · have hki : (k : Int) < (S : Int) := by omega
        obtain ⟨o, c, c1, c2, hs⟩ := HFC.out k hlt
        have c1' := (hb.cell (p := ⟨gf, k * 2, none⟩) hgf).trans c1
        have c2' := (hb.cell (p := ⟨gf, k * 2 + 1, none⟩) hgf).trans c2
        have hP := HPl.out k
        have Hset0 := Lib.hid (fxP_set0 M L nn S k hlt)
        have Hset := Lib.hid (fxP_set M L nn S k hlt)
        have Hfl := Lib.hid (fxP_len M L nn S k)
        have HQ : Hid (fixQ M L nn k = ((fixUp (permL M L k nn) (permL M L k nn).length : Nat) : Int)) := Lib.hid rfl
        generalize fxP M L nn S k = fp at *
        generalize permL M L k nn = P at *
        have HS1 := Lib.hid hs
        clear c1 c2 hs
        have hltC := hC.lt
        have hC4 : Blk (w3.alloc (.cells #[.int .i64 ((k : Int) + 1), .slice o P.length c] 61)) w2.heap.size (ints (fp.set k ((fixUp P 0 : Nat) : Int))) 2 := by rw [show ((fixUp P 0 : Nat) : Int) = 0 from rfl, Hset0.out]; exact hC.alloc _
        have hb4 := below_allocB' hb (by omega) (.cells #[.int .i64 ((k : Int) + 1), .slice o P.length c] 61)
        have hbw4 := below_alloc' hbw (.cells #[.int .i64 ((k : Int) + 1), .slice o P.length c] 61)
        go_wp2
        clear c1' c2' hC hb hbw
        go_loopw [36] (fun iv wr => ∃ i : Nat, i ≤ P.length ∧ iv = .int .i64 i ∧ Blk wr w2.heap.size (ints (fp.set k ((fixUp P i : Nat) : Int))) 2 ∧ Below w1.heap.size w1 wr ∧ Below w.heap.size w wr) (fun iv _ => P.length - (intOf iv).toNat)
        case atStart => exact ⟨0, by omega, rfl, hC4, hb4, hbw4⟩
        case round =>
          clear hC4 hb4 hbw4
          obtain ⟨i, hi, rfl, hC, hb, hbw⟩ := hrel
          by_cases hlti : i < P.length
          · have hii : (i : Int) < (P.length : Int) := by omega
            obtain ⟨g, h1, hg1, c1⟩ := (HS1.out.below hb).at i hlti
            subst h1
            have hgl : g < w1.heap.size := by
              obtain ⟨g', h2, h3, _⟩ := HS1.out.at i hlti
              simp at h2
              omega
            have Hfs := Lib.hid (fixUp_succ P i)
            rw [show P.getD i 0 = P[i] by simp [List.getD, List.getElem?_eq_getElem hlti]] at Hfs
            have hfl := fixUp_le P i
            have hcell := ints_getD (fp.set k ((fixUp P i : Nat) : Int)) k (by rw [List.length_set, Hfl.out]; exact hlt)
            rw [show (fp.set k ((fixUp P i : Nat) : Int)).getD k 0 = ((fixUp P i : Nat) : Int) by simp [List.getD, Hfl.out, hlt]] at hcell
            have hCs := hC.set k (.int .i64 (((fixUp P i : Nat) : Int) + 1))
            rw [← ints_set, List.set_set] at hCs
            have cC := hC.cell k
            rw [hcell] at cC
            have fC := hC.free
            generalize P[i] = z at *
            by_cases hz : z = (i : Int)
            · have hzb : (z == (i : Int)) = true := by simpa using hz
              have Hf1 : Hid (((fixUp P (i + 1) : Nat) : Int) = ((fixUp P i : Nat) : Int) + 1) := Lib.hid (by rw [Hfs.out, if_pos hz]; omega)
              clear hz
              have hb2 := below_setB' (o := k) hb (b := w2.heap.size) (by omega) (.int .i64 (((fixUp P i : Nat) : Int) + 1))
              have hbw2 := below_set' (o := k) hbw (b := w2.heap.size) (by omega) (.int .i64 (((fixUp P i : Nat) : Int) + 1))
              generalize fixUp P i = fu at *
              go_wp2
              go_roundw
              case rel => exact ⟨i + 1, by omega, by go_num, by rw [Hf1.out]; exact hCs, hb2, hbw2⟩
              case measure => simp [intOf] <;> omega
            · have hzb : (z == (i : Int)) = false := by simpa using hz
              have Hf1 : Hid (fixUp P (i + 1) = fixUp P i) := Lib.hid (by rw [Hfs.out, if_neg hz]; omega)
              clear hz
              go_wp2
              go_roundw
              case rel => exact ⟨i + 1, by omega, by go_num, by rw [Hf1.out]; exact hC, hb, hbw⟩
              case measure => simp [intOf] <;> omega
          · obtain rfl : i = P.length := by omega
            rw [← HQ.out, Hset.out] at hC
            go_wp2
            go_roundw
            case rel => exact ⟨k + 1, by omega, by go_num, hC, hb, hbw⟩
            case measure => simp [intOf] <;> omega
      · obtain rfl : k = S := by omega
        rw [fxP_all] at hC
        go_wp2
        go_ret2
        exact ⟨_, rfl, OwnI.made (fxL_len _ _ _ _) (by unfold maxLen; omega) (by omega) hC, hbw⟩
  · obtain ⟨c, hcc⟩ : ∃ c, gC M n [] = c := ⟨_, rfl⟩
    have HG := Lib.hid (levelGraphOf_bad M hok n (.slice none 0 0) [] (by simp) c hcc (by rw [← hcc]; exact hc) (w.alloc (.cells (mc M) 29)) (SeesI.nil _))
    have Hr : Hid (fxR M n = []) := Lib.hid (by unfold fxR; rw [if_neg hc])
    rw [hcc] at hc ⊢
    have hcb : (c != 0) = true := by simpa using hc
    rw [Hr.out]
    clear hcc hc
    generalize gr0 = g0 at *
    go_enter Try.func18, Try.ntmps18
    go_wp2_with (first | (with_reducible show wpList _ _ _ _ _ _; refine wpList_load_blk rfl 29 (.tmp 2) rfl w.heap.size 0 rfl (mc M) _ (hB) 98 F2.out _ Try.underlying29 rfl size_mach ?_; rw [F1.out]) | (go_at_call 39; refine HG.out.mono ?_; rintro e w1 ⟨rfl, hb1⟩; have hX1 : Blk (w1.alloc (.cells g0 57)) w1.heap.size g0 57 := Blk.new _ _ _; have hs1 := hb1.size; simp at hs1; have hbw1 := below_alloc' (below_step hbw0 hb1) (.cells g0 57)) | (with_reducible show wpList _ _ _ _ _ _; refine wpList_store_row rfl 57 (.tmp 6) _ rfl w1.heap.size 0 g0 rfl rfl _ _ hX1 (by rw [Hg0.out]; omega) (by rw [Hg0.out]; exact size_gr) Hgl1.out _ Hgo.out ?_; intro w2 hs2))
    go_ret2
    exact ⟨_, rfl, OwnI.nil _ _, hs2.below _ _ (by omega) hbw1⟩
end Go.Proofs.Ytppmfpgpbdjkdab
