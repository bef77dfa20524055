/- 'LevelEdges': plain data; the program. -/
import Derived.Test.YticnpajbefflbaaEdg
import Derived.Test.YticnpajbefflbaaFxD
namespace Go.Proofs.Yticnpajbefflbaa
open Go.RowKit

/-- The edges of a word, of the first q states; those of the first k words: three numbers each. -/
def edI (M : Mach) (L n x q : Nat) : List Int := (List.range q).flatMap fun (j : Nat) => [(x : Int), (j : Int), (permL M L j n).getD x 0]
def edF (M : Mach) (L n S k : Nat) : List Int := (List.range k).flatMap fun (x : Nat) => edI M L n x S
theorem edI_succ (M : Mach) (L n x q : Nat) : edI M L n x (q + 1) = edI M L n x q ++ [(x : Int), (q : Int), (permL M L q n).getD x 0] := by simp [edI, List.range_succ, List.flatMap_append]
theorem edF_succ (M : Mach) (L n S k : Nat) : edF M L n S (k + 1) = edF M L n S k ++ edI M L n k S := by simp [edF, List.range_succ, List.flatMap_append]
theorem edI_len (M : Mach) (L n x : Nat) : ∀ q, (edI M L n x q).length = 3 * q
  | 0 => by simp [edI]
  | q + 1 => by rw [edI_succ, List.length_append, edI_len M L n x q]; simp; omega
theorem edF_len (M : Mach) (L n S : Nat) : ∀ k, (edF M L n S k).length = 3 * (k * S)
  | 0 => by simp [edF]
  | k + 1 => by rw [edF_succ, List.length_append, edF_len M L n S k, edI_len, Nat.add_mul, Nat.one_mul]; omega
def leR (M : Mach) (n : Int) : List Int := if gC M n [] = 0 then edF M M.L.toNat n.toNat M.S.toNat (M.L.toNat ^ n.toNat) else []
theorem leR_good {M : Mach} {L S nn : Nat} (hg : Good M L S) (h : gC M nn [] = 0) : leR M nn = edF M L nn S (L ^ nn) := by
  unfold leR
  rw [if_pos h, hg.hL, hg.hS]
  rfl
theorem leR_len (M : Mach) (hok : M.Ok) (n : Int) : (leR M n).length ≤ 1048576 := by
  by_cases h : gC M n [] = 0
  · obtain ⟨L, S, nn, hg, rfl, hn⟩ := gC_good hok h
    rw [leR_good hg h, edF_len]
    have h2 := hg.L2
    have hN : L ^ nn ≤ 243 := pow_le L nn hg.L3 (by omega)
    have h3 : L ^ nn * S ≤ 243 * 16 := Nat.mul_le_mul hN hg.S16
    omega
  · unfold leR
    rw [if_neg h]
    simp

set_option maxRecDepth 100000 in
set_option maxHeartbeats 4000000 in
theorem iLevelEdges_calls (M : Mach) (hok : M.Ok) (n : Int) (w : World) :
    Calls Try.prog 28 #[.agg (mc M), .int .i64 n] w fun e w' => ∃ v, e = .returned (.tuple #[v, .int .i64 (gC M n [])]) ∧ OwnE w' w.heap.size v (leR M n) ∧ Below w.heap.size w w' := by
  have F1 : Hid (cut (mc M) 0 98 = mc M) := Lib.hid (cut_all _ _ (mc_size hok)); have F2 : Hid (0 + 98 ≤ (mc M).size) := Lib.hid (by rw [mc_size hok]; omega)
  have hB : Blk (w.alloc (.cells (mc M) 29)) w.heap.size (mc M) 29 := Blk.new w _ _
  have hzg := zero_gr
  have hbw0 : Below w.heap.size w (w.alloc (.cells (mc M) 29)) := by (repeat (first | exact Below.refl _ _ | refine below_drew' ?_ | refine below_drewN' ?_ _ | refine below_alloc' ?_ _ | refine below_set' ?_ (by (try simp); (try omega)) _ | refine below_step ?_ (by assumption)))
  have Hg0 : Hid (gr0.size = 3) := Lib.hid rfl
  have Hgl1 := Lib.hid gr0_one
  have Hgo : Hid (over gr0 0 gr0 = gr0) := Lib.hid (over_all _ _ rfl)
  have Hgz : Hid (∀ N' f b, over gr0 0 (gra N' f b) = gra N' f b) := Lib.hid (fun N' f b => over_all _ _ rfl)
  have Hgs : Hid (∀ N' f b, (gra N' f b).size = 3) := Lib.hid (fun N' f b => rfl)
  have Hgl : Hid (∀ N' f b, cut (gra N' f b) 0 3 = gra N' f b) := Lib.hid (fun N' f b => cut_all _ _ rfl)
  have Hgsz : Hid ((Try.prog.info? 82).map (·.size) = some 3) := Lib.hid size_gr
  by_cases hc : gC M n [] = 0
  · obtain ⟨L, S, nn, hg, rfl, hnL⟩ := gC_good hok hc
    have Hr := Lib.hid (leR_good hg hc)
    have HG := Lib.hid (levelGraphOf_good M L S hg nn (.slice none 0 0) [] (by simp) hc (w.alloc (.cells (mc M) 29)) (SeesI.nil _))
    have hS16 := hg.S16
    have hN : L ^ nn ≤ 243 := by have := hg.L2; exact pow_le L nn hg.L3 (by omega)
    have HPl : Hid (∀ q, (permL M L q nn).length = L ^ nn) := Lib.hid (fun q => by rw [permL_len])
    rw [hc, Hr.out]
    clear hc
    generalize gr0 = g0 at *
    generalize L ^ nn = N at *
    go_enter Try.func28, Try.ntmps28
    go_wp2_with (first | (with_reducible show wpList _ _ _ _ _ _; refine wpList_load_blk rfl 29 (.tmp 2) rfl w.heap.size 0 rfl (mc M) _ (hB) 98 F2.out _ Try.underlying29 rfl size_mach ?_; rw [F1.out]) | (go_at_call 56; refine HG.out.mono ?_; rintro e w1 ⟨fv, bv, rfl, hF, hBv, hb1⟩; have HF := Lib.hid hF; have HBv := Lib.hid hBv; obtain ⟨gf, cf, rfl, hgf, hfc⟩ := hF.fw; obtain ⟨gb, cb, rfl, hgb, hbc⟩ := hBv.bw; have HFC := Lib.hid hfc; clear hF hBv hbc hfc; have hX1 : Blk (w1.alloc (.cells g0 82)) w1.heap.size g0 82 := Blk.new _ _ _; have hbw1 := below_alloc' (below_step hbw0 hb1) (.cells g0 82)) | (with_reducible show wpList _ _ _ _ _ _; refine wpList_store_row rfl 82 (.tmp 6) _ rfl w1.heap.size 0 (gra (N : Int) (.slice (some ⟨gf, 0, none⟩) S cf) (.slice (some ⟨gb, 0, none⟩) S cb)) rfl rfl _ _ hX1 (by rw [Hg0.out]; simp [gra]) (size_gra _ _ _) (gr_one _ _ _ _ _ _ _) _ (Hgz.out _ _ _) ?_; intro w2 hs2; have hG2 := hs2.blk; have hb12 : Below w1.heap.size w1 w2 := hs2.below _ _ (Nat.le_refl _) (by (repeat (first | exact Below.refl _ _ | refine below_drew' ?_ | refine below_drewN' ?_ _ | refine below_alloc' ?_ _ | refine below_set' ?_ (by (try simp); (try omega)) _ | refine below_step ?_ (by assumption)))); have hbw2 := hs2.below _ _ (by have := hb1.size; simp at this; omega) hbw1; have hF2 := HF.out.below hb12; have hB2 := HBv.out.below hb12; have hs2s := hbw2.size; have hs21 := hb12.size; have cG2 := hG2.cell 0; rw [(gra_at _ _ _).1] at cG2))
    have hs1 := hb1.size
    simp at hs1
    clear hB hbw0 hX1 hbw1 hs2 hF2 hB2 HF HBv hb1 cG2
    go_loopw [8, 23] (fun ov i wr => ∃ (k : Nat) (v0 : Value), k ≤ N ∧ i = .int .i64 k ∧ v0 = ov ∧ OwnE wr w2.heap.size v0 (edF M L nn S k) ∧ Below w2.heap.size w2 wr) (fun _ i _ => N - (intOf i).toNat)
    case atStart => exact ⟨0, _, by omega, rfl, rfl, by simpa [edF] using OwnE.nil w2 w2.heap.size, Below.refl _ _⟩
    case round =>
      obtain ⟨k, v0, hk, rfl, rfl, hO, hbw⟩ := hrel
      obtain ⟨w3, rfl⟩ : ∃ x, x = wr := ⟨_, rfl⟩
      have hG3 := hG2.keptAll hbw
      have cG := hG3.cell 0
      have cG1 := hG3.cell 1
      rw [(gra_at _ _ _).1] at cG
      rw [(gra_at _ _ _).2.1] at cG1
      by_cases hlt : k < N
      · have hki : (k : Int) < (N : Int) := by omega
        have hfl := edF_len M L nn S k
        have hks : k * S ≤ 243 * 16 := Nat.mul_le_mul (by omega) hS16
        have Hfs := Lib.hid (edF_succ M L nn S k)
        have hO0 : OwnE w3 w2.heap.size v0 (edF M L nn S k ++ edI M L nn k 0) := by simpa [edI] using hO
        clear hO
        generalize edF M L nn S k = ef at *
        go_wp2
        go_loopw [8, 29] (fun ov i wr => ∃ (q : Nat) (v0 : Value), q ≤ S ∧ i = .int .i64 q ∧ v0 = ov ∧ OwnE wr w2.heap.size v0 (ef ++ edI M L nn k q) ∧ Below w2.heap.size w2 wr) (fun _ i _ => S - (intOf i).toNat)
        case atStart => exact ⟨0, _, by omega, rfl, rfl, hO0, hbw⟩
        case round =>
          clear hO0 hbw cG cG1 hG3
          obtain ⟨q, v0, hq, rfl, rfl, hO, hbw⟩ := hrel
          obtain ⟨w4, rfl⟩ : ∃ x, x = wr := ⟨_, rfl⟩
          by_cases hlq : q < S
          · have hqi : (q : Int) < (S : Int) := by omega
            obtain ⟨o, c, c1, c2, hs⟩ := HFC.out q hlq
            have hb14 := hb12.trans (below_le hbw hs21)
            have c1' := (hb14.cell (p := ⟨gf, q * 2, none⟩) hgf).trans c1
            have c2' := (hb14.cell (p := ⟨gf, q * 2 + 1, none⟩) hgf).trans c2
            have hpl := HPl.out q
            have hkl : k < (permL M L q nn).length := by rw [hpl]; exact hlt
            have hkli : (k : Int) < ((permL M L q nn).length : Int) := by omega
            obtain ⟨gt, h1, _, ct⟩ := (hs.below hb14).at k hkl
            subst h1
            have Hs := Lib.hid (edI_succ M L nn k q)
            have hgd : (permL M L q nn).getD k 0 = (permL M L q nn)[k] := by simp [List.getD, List.getElem?_eq_getElem hkl]
            rw [hgd] at Hs
            have hel := edI_len M L nn k q
            have hgt : gt < w4.heap.size := by
              obtain ⟨g2, h2, h3, _⟩ := (hs.below hb14).at k hkl
              have : gt = g2 := congrArg Addr.block (Option.some.inj h2)
              omega
            clear c1 c2 hs hpl hgd
            generalize (permL M L q nn)[k] = z at *
            generalize (permL M L q nn).length = pl at *
            have hle : (ef ++ edI M L nn k q).length ≤ 1048576 := by rw [List.length_append, hel, hfl]; omega
            generalize edI M L nn k q = ei at *
            have hOl := hO.ltt
            have hwz := hbw.size
            have hbA : Below w4.heap.size w4 (w4.alloc (.cells #[.int .i64 ((q : Int) + 1), .slice (some ⟨gt, 0, none⟩) pl c] 86)) := by (repeat (first | exact Below.refl _ _ | refine below_drew' ?_ | refine below_drewN' ?_ _ | refine below_alloc' ?_ _ | refine below_set' ?_ (by (try simp); (try omega)) _ | refine below_step ?_ (by assumption)))
            have ctA := (hbA.cell (p := ⟨gt, k, none⟩) hgt).trans ct
            have hbB : Below (w4.alloc (.cells #[.int .i64 ((q : Int) + 1), .slice (some ⟨gt, 0, none⟩) pl c] 86)).heap.size (w4.alloc (.cells #[.int .i64 ((q : Int) + 1), .slice (some ⟨gt, 0, none⟩) pl c] 86)) ((w4.alloc (.cells #[.int .i64 ((q : Int) + 1), .slice (some ⟨gt, 0, none⟩) pl c] 86)).alloc (.cells #[.int .i64 (k : Int), .int .i64 (q : Int), .int .i64 z] 79)) := by (repeat (first | exact Below.refl _ _ | refine below_drew' ?_ | refine below_drewN' ?_ _ | refine below_alloc' ?_ _ | refine below_set' ?_ (by (try simp); (try omega)) _ | refine below_step ?_ (by assumption)))
            have hOB := (hO.below hbA).below hbB
            have hbwB := (hbw.trans (below_le hbA hwz)).trans (below_le hbB (by simp; omega))
            obtain ⟨_, o0, c0, _, hve, _⟩ := hO.view
            clear hO hbA hbB ct hOl
            subst hve
            go_wp2_with (at_builtin; refine wpList_push_edge rfl (.tmp 34) (.tmp 43) rfl w2.heap.size _ (ef ++ ei) rfl hOB (w4.heap.size + 1) 1 (k : Int) (q : Int) z rfl (Blk.new_at _ _ _ _ (by simp)) hle (by simp; omega) ?_; intro v7 w7 hO7 hb7)
            have hs7 := hb7.size
            go_roundw
            case rel => exact ⟨q + 1, v7, by omega, by go_num, rfl, by rw [Hs.out, ← List.append_assoc]; exact hO7, hbwB.trans hb7⟩
            case measure => simp [intOf] <;> omega
          · obtain rfl : q = S := by omega
            rw [← Hfs.out] at hO
            go_wp2
            go_roundw
            case rel => exact ⟨k + 1, _, by omega, by go_num, rfl, hO, hbw⟩
            case measure => simp [intOf] <;> omega
      · obtain rfl : k = N := by omega
        go_wp2
        go_ret2
        exact ⟨_, rfl, hO.base_le hs2s, hbw2.trans (below_le hbw hs2s)⟩
  · obtain ⟨c, hcc⟩ : ∃ c, gC M n [] = c := ⟨_, rfl⟩
    have HG := Lib.hid (levelGraphOf_bad M hok n (.slice none 0 0) [] (by simp) c hcc (by rw [← hcc]; exact hc) (w.alloc (.cells (mc M) 29)) (SeesI.nil _))
    have Hr : Hid (leR M n = []) := Lib.hid (by unfold leR; rw [if_neg hc])
    rw [Hr.out, hcc]
    have hcb : (c != 0) = true := by rw [hcc] at hc; simpa using hc
    clear hcc hc
    generalize gr0 = g0 at *
    go_enter Try.func28, Try.ntmps28
    go_wp2_with (first | (with_reducible show wpList _ _ _ _ _ _; refine wpList_load_blk rfl 29 (.tmp 2) rfl w.heap.size 0 rfl (mc M) _ (hB) 98 F2.out _ Try.underlying29 rfl size_mach ?_; rw [F1.out]) | (go_at_call 56; refine HG.out.mono ?_; rintro e w1 ⟨rfl, hb1⟩; have hX1 : Blk (w1.alloc (.cells g0 82)) w1.heap.size g0 82 := Blk.new _ _ _; have hs1 := hb1.size; simp at hs1; have hbw1 := below_alloc' (below_step hbw0 hb1) (.cells g0 82)) | (with_reducible show wpList _ _ _ _ _ _; refine wpList_store_row rfl 82 (.tmp 6) _ rfl w1.heap.size 0 g0 rfl rfl _ _ hX1 (by rw [Hg0.out]; omega) (by rw [Hg0.out]; exact size_gr) Hgl1.out _ Hgo.out ?_; intro w2 hs2))
    go_ret2
    exact ⟨_, rfl, OwnE.nil _ _, hs2.below _ _ (by omega) hbw1⟩
end Go.Proofs.Yticnpajbefflbaa
