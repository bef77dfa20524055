/- 'CycleType', 'TurnsLevel': the model's walks. -/
import Derived.Test.YticnpajbefflbaaCtS
namespace Go.Proofs.Yticnpajbefflbaa
open Go.RowKit

set_option maxRecDepth 100000 in
set_option maxHeartbeats 4000000 in
theorem sCycleType_calls (M : Mach) (hok : M.Ok) (q n : Int) (w : World) :
    Calls Try.prog 22 #[.agg (mc M), .int .i64 q, .int .i64 n] w fun e w' => ∃ v, e = .returned (.tuple #[v, .int .i64 (ctC M q n)]) ∧ OwnI w' w.heap.size v (ctR M q n) ∧ Below w.heap.size w w' := by
  have F1 : Hid (cut (mc M) 0 98 = mc M) := Lib.hid (cut_all _ _ (mc_size hok)); have F2 : Hid (0 + 98 ≤ (mc M).size) := Lib.hid (by rw [mc_size hok]; omega)
  have hB : Blk (w.alloc (.cells (mc M) 29)) w.heap.size (mc M) 29 := Blk.new w _ _
  have hbw0 : Below w.heap.size w (w.alloc (.cells (mc M) 29)) := by (repeat (first | exact Below.refl _ _ | refine below_drew' ?_ | refine below_drewN' ?_ _ | refine below_alloc' ?_ _ | refine below_set' ?_ (by (try simp); (try omega)) _ | refine below_step ?_ (by assumption)))
  have HC := Lib.hid (l05Code_calls M hok n (w.alloc (.cells (mc M) 29)))
  by_cases hc : ctC M q n = 0
  · have hg0 := gC_of_ct hc
    obtain ⟨L, S, qq, nn, hg, rfl, hq, rfl, hn, e1, e2, e3, e4⟩ := ct_good hok hc
    have HR : Hid (ctR M qq nn = isrt (cycL (permL M L qq nn))) := Lib.hid (by unfold ctR; rw [e1])
    rw [hc, HR.out]
    rw [hg0] at HC
    have hcS := mc_S M
    rw [hg.hS] at hcS
    have HcS := Lib.hid hcS
    have HI := Lib.hid (fun W => (l01In_calls (qq : Int) 0 ((S : Int) - 1) W).mono fun e w' (h' : e = .returned (.bool (decide (0 ≤ (qq : Int) ∧ (qq : Int) ≤ (S : Int) - 1))) ∧ W = w') => (⟨by rw [h'.1, decide_eq_true (show 0 ≤ (qq : Int) ∧ (qq : Int) ≤ (S : Int) - 1 by omega)], h'.2⟩ : e = .returned (.bool true) ∧ W = w'))
    have HLv := Lib.hid (fun W => l01Level_calls M L S hg qq nn hq (by have := hg.L2; omega) W)
    have hin := perm_in hg qq nn hq
    have hlen : (permL M L qq nn).length ≤ 243 := by rw [permL_len]; have := hg.L2; exact pow_le L nn hg.L3 (by omega)
    have HCy := Lib.hid (fun v W h => l03Cycles_calls v (permL M L qq nn) hin (by omega) W h)
    have hcl : (cycL (permL M L qq nn)).length ≤ 243 := Nat.le_trans (cs_ok _ hin _ (Nat.le_refl _)).2 hlen
    have hS16 := hg.S16
    clear hc hg0 e1 e2 e3 e4 hcS hin hlen
    generalize cycL (permL M L qq nn) = zs at *
    generalize permL M L qq nn = im at *
    go_enter Try.func22, Try.ntmps22
    go_wp2_with (first | (with_reducible show wpList _ _ _ _ _ _; refine wpList_load_blk rfl 29 (.tmp 3) rfl w.heap.size 0 rfl (mc M) _ (by first | exact hB1 | exact hB) 98 F2.out _ Try.underlying29 rfl size_mach ?_; rw [F1.out]) | (go_at_call 47; refine HC.out.mono ?_; rintro e w1 ⟨rfl, hb1⟩; have hB1 := hB.keptAll hb1; have hbw1 := below_step hbw0 hb1; have cA := hB1.cell 1; rw [HcS.out] at cA) | (go_at_call 48; refine (HI.out _).mono ?_; rintro e w' ⟨rfl, rfl⟩) | (go_at_call 50; refine (HLv.out _).mono ?_; rintro e w2 ⟨v2, rfl, hO2, hb2⟩; have hs2 := hO2.sees; have hbw2 := below_step hbw1 hb2; obtain ⟨o2, c2, rfl, hq2⟩ := hO2.view; clear hq2 hO2) | (go_at_call 49; refine (HCy.out _ _ hs2).mono ?_; rintro e w3 ⟨v3, rfl, hO3, hb3⟩; have Hs3 := Lib.hid hO3.sees; have hbw3 := below_step hbw2 hb3; obtain ⟨o3, c3, rfl, hq3⟩ := hO3.view; clear hq3 hO3))
    have hO4 : OwnI (w3.alloc (.cells #[] 2)) w3.heap.size (.slice (some ⟨w3.heap.size, 0, none⟩) 0 0) (isrtK zs 0) := OwnI.empty w3 w3.heap.size 0 #[] (Nat.le_refl _) (by unfold maxLen; omega) rfl
    have hl4 : Below w3.heap.size w3 (w3.alloc (.cells #[] 2)) := by (repeat (first | exact Below.refl _ _ | refine below_drew' ?_ | refine below_drewN' ?_ _ | refine below_alloc' ?_ _ | refine below_set' ?_ (by (try simp); (try omega)) _ | refine below_step ?_ (by assumption)))
    have HBW := Lib.hid hbw3
    clear hB hB1 hbw0 hbw1 hbw2 hbw3 hb1 hb2 hb3 cA hs2
    go_loopw [10, 11] (fun ov i wr => ∃ (k g cap : Nat), k ≤ zs.length ∧ i = .int .i64 k ∧ ov = .slice (some ⟨g, 0, none⟩) k cap ∧ OwnI wr w3.heap.size (.slice (some ⟨g, 0, none⟩) k cap) (isrtK zs k) ∧ Below w3.heap.size w3 wr) (fun _ i _ => zs.length - (intOf i).toNat)
    case atStart => exact ⟨0, _, 0, by omega, rfl, rfl, hO4, hl4⟩
    case round =>
      clear hO4 hl4
      obtain ⟨k, g, cap, hk, rfl, rfl, hO, hbw⟩ := hrel
      obtain ⟨w4, rfl⟩ : ∃ x, x = wr := ⟨_, rfl⟩
      by_cases hlt : k < zs.length
      · have hki : (k : Int) < (zs.length : Int) := by omega
        obtain ⟨gl, h1, hgl, cl⟩ := (Hs3.out.below hbw).at k hlt
        subst h1
        have HC2 : Hid (k ≤ cap) := Lib.hid (by
          rcases hO.2 with ⟨e, _⟩ | ⟨g', cap', cur, e, _, _, hn', _⟩
          · cases e
          · simp only [Value.slice.injEq] at e
            have := isrtK_len zs k
            omega)
        have hgd : zs.getD k 0 = zs[k] := by simp [List.getD, List.getElem?_eq_getElem hlt]
        have Hn : Hid (isrtK zs (k + 1) = insI (isrtK zs k) zs[k]) := Lib.hid (by rw [← hgd]; rfl)
        have hlen := isrtK_len zs k
        have hcell : ∀ j (hj : j < (isrtK zs k).length), w4.cell? ⟨g, j, none⟩ = some (.int .i64 (isrtK zs k)[j]) := fun j hj => by
          obtain ⟨g', h2, _, c2⟩ := hO.sees.at j hj
          have e : g = g' := by simpa using h2
          rw [e]; exact c2
        have Hcell := Lib.hid hcell
        have hal := atI_le (isrtK zs k) zs[k]
        have Hlow := Lib.hid (atI_low (isrtK zs k) zs[k])
        have Hhere := Lib.hid (atI_here (isrtK zs k) zs[k])
        have HI2 : Hid (insI (isrtK zs k) zs[k] = (isrtK zs k).take (atI (isrtK zs k) zs[k]) ++ (zs[k] :: (isrtK zs k).drop (atI (isrtK zs k) zs[k]))) := Lib.hid rfl
        have HO := Lib.hid hO
        have Hlen := Lib.hid hlen
        clear hcell hgd hO
        generalize isrtK zs k = out at *
        rw [hlen] at hal
        clear hlen
        generalize zs[k] = z at *
        generalize hat : atI out z = at' at *
        clear hat
        go_wp2
        go_loopw [12] (fun iv wr => ∃ j nd : Nat, j ≤ at' ∧ iv = .int .i64 j ∧ wr = w4.drewN nd) (fun iv _ => at' - (intOf iv).toNat)
        case atStart => exact ⟨0, 0, by omega, rfl, rfl⟩
        case round =>
          obtain ⟨j, nd, hj, rfl, rfl⟩ := hrel
          by_cases hja : j < at'
          · have hjk : (j : Int) < (k : Int) := by omega
            have hjl : j < out.length := by rw [Hlen.out]; omega
            have cj := Hcell.out j hjl
            have hle := Hlow.out j hja hjl
            generalize out[j] = y at *
            go_wp2
            go_quiet (fail)
            go_wp2
            go_roundw
            case rel => exact ⟨j + 1, _, by omega, by go_num, rfl⟩
            case measure => simp [intOf] <;> omega
          · obtain rfl : j = at' := by omega
            clear hja
            by_cases hjk : j < k
            · have hjki : (j : Int) < (k : Int) := by omega
              have hjl : j < out.length := by rw [Hlen.out]; exact hjk
              have cj := Hcell.out j hjl
              have hle := Hhere.out hjl
              generalize out[j] = y at *
              have hleb : decide (y ≤ z) = false := by simpa using hle
              go_wp2
              go_quiet (fail)
              go_wp2
              have hb45 : Below w4.heap.size w4 ((w4.drewN nd).drewN nq) := below_drewN' (below_drewN' (Below.refl _ _) nd) nq
              have hO5 := HO.out.below hb45
              have hc5 := (hb45.cell (p := ⟨gl, k, none⟩) hgl).trans cl
              have hbw5 := below_step hbw hb45
              have hw45 : w4.heap.size ≤ ((w4.drewN nd).drewN nq).heap.size := hb45.size
              have hwz : w3.heap.size ≤ ((w4.drewN nd).drewN nq).heap.size := hbw5.size
              clear hb45 cl hbw HO Hcell
              generalize (w4.drewN nd).drewN nq = w5 at *
              have hdr : Below w5.heap.size w5 w5.drew := (Below.refl _ _).drew
              have hO6 := hO5.below hdr
              have hbw6 := below_step hbw5 hdr
              have hc6 : w5.drew.cell? ⟨gl, k, none⟩ = some (.int .i64 z) := hc5
              refine wp_region_held_drew (S := fun W => W.cell? ⟨gl, k, none⟩ = some (.int .i64 z)) (by kernel_rfl) hc6 (fun hS0 => ?_)
              clear hO5 hbw5 hdr hc5 hc6
              have hwz6 : w3.heap.size ≤ w5.drew.heap.size := hwz
              have hw46 : w4.heap.size ≤ w5.drew.heap.size := hw45
              generalize w5.drew = w6 at *
              have hkc : k ≤ cap := HC2.out
              have hjk2 : j ≤ k := by omega
              (refine hK_take 0 (.slice (some ⟨gl, 0, none⟩) zs.length c3) rfl (by kernel_rfl) (by kernel_rfl) (by kernel_rfl) (fun _ _ _ h => h) rfl (fun W _ => by go_simp) hS0 ?_; (intro K hK; go_simp; refine hK _ ?_; clear hK K))
              (refine hK_take 1 (.int .i64 (k : Int)) rfl (by kernel_rfl) (by kernel_rfl) (by kernel_rfl) (fun _ _ _ h => h) rfl (fun W _ => by go_simp) hS0 ?_; (intro K hK; go_simp; refine hK _ ?_; clear hK K))
              (refine hK_take 2 (.pointer (some ⟨gl, k, none⟩)) rfl (by kernel_rfl) (by kernel_rfl) (by kernel_rfl) (fun _ _ _ h => h) rfl (fun W _ => by go_simp) hS0 ?_; (intro K hK; go_simp; refine hK _ ?_; clear hK K))
              (refine hK_take 3 (.int .i64 z) rfl (by kernel_rfl) (by kernel_rfl) (by kernel_rfl) (fun _ _ _ h => h) rfl (fun W hW => by go_simp) hS0 ?_; (intro K hK; go_simp; refine hK _ ?_; clear hK K))
              (refine hK_take 5 (.slice (some ⟨g, 0, none⟩) k cap) rfl (by kernel_rfl) (by kernel_rfl) (by kernel_rfl) (fun _ _ _ h => h) rfl (fun W _ => by go_simp) hS0 ?_; (intro K hK; go_simp; refine hK _ ?_; clear hK K))
              (refine hK_take 6 (.int .i64 (j : Int)) rfl (by kernel_rfl) (by kernel_rfl) (by kernel_rfl) (fun _ _ _ h => h) rfl (fun W _ => by go_simp) hS0 ?_; (intro K hK; go_simp; refine hK _ ?_; clear hK K))
              (refine hK_take 7 (.slice (if cap = j then some ⟨g, 0, none⟩ else some ⟨g, j, none⟩) (k - j) (cap - j)) rfl (by kernel_rfl) (by kernel_rfl) (by kernel_rfl) (fun _ _ _ h => h) rfl (fun W _ => by go_simp) hS0 ?_; (intro K hK; go_simp; refine hK _ ?_; clear hK K))
              have hbA : Below w6.heap.size w6 (w6.alloc (.cells #[.int .i64 z] 2)) := by (repeat (first | exact Below.refl _ _ | refine below_drew' ?_ | refine below_drewN' ?_ _ | refine below_alloc' ?_ _ | refine below_set' ?_ (by (try simp); (try omega)) _ | refine below_step ?_ (by assumption)))
              have hO7 := hO6.below hbA
              have hbw7 := below_step hbw6 hbA
              have hSA : (w6.alloc (.cells #[.int .i64 z] 2)).cell? ⟨gl, k, none⟩ = some (.int .i64 z) := cell_kept hbA hS0
              have hOz : OwnI (w6.alloc (.cells #[.int .i64 z] 2)) w6.heap.size (.slice (some ⟨w6.heap.size, 0, none⟩) 1 1) [z] := OwnI.made (n := 1) rfl (by unfold maxLen; omega) (Nat.le_refl _) (Blk.new _ _ _)
              have hs7 : (w6.alloc (.cells #[.int .i64 z] 2)).heap.size = w6.heap.size + 1 := by simp
              have hOlt := World.ownsRow.lt hO6
              refine wpAnyH_ready (rs := [4]) (by kernel_rfl) (by simp) ?_
              refine AllReadyH.cons rfl (fun K hK => ?_) AllReadyH.nil
              go_simp
              refine hK.out _ _ hSA (fun hS1 => ?_)
              clear hK K hO6 hbw6 hbA hSA hS0
              generalize w6.alloc (.cells #[.int .i64 z] 2) = w7 at *
              have hdl : (out.drop j).length = k - j := by rw [List.length_drop, Hlen.out]
              have hcells : ∀ i (hi : i < (out.drop j).length), w7.cell? ⟨g, (if cap = j then 0 else j) + i, none⟩ = some (.int .i64 (out.drop j)[i]) := fun i hi => by
                have hi2 : j + i < out.length := by rw [List.length_drop] at hi; omega
                rw [if_neg (by have := Hlen.out; omega)]
                obtain ⟨g', h2, _, c2⟩ := hO7.sees.at (j + i) hi2
                have e : g = g' := congrArg Addr.block (Option.some.inj h2)
                rw [e, c2, List.getElem_drop]
              refine wpAnyH_ready (rs := [8]) (by kernel_rfl) (by simp) ?_
              refine AllReadyH.cons rfl (fun K hK => ?_) AllReadyH.nil
              refine ite_go (by kernel_rfl) ?_
              refine wp_join_at (.tmp 63) (.tmp 66) rfl w6.heap.size (.slice (some ⟨w6.heap.size, 0, none⟩) 1 1) [z] (out.drop j) rfl hOz g (if cap = j then 0 else j) (cap - j) (by rw [hdl]; exact (by by_cases hcj : cap = j <;> simp [hcj] : Value.slice (if cap = j then some ⟨g, 0, none⟩ else some ⟨g, j, none⟩) (k - j) (cap - j) = Value.slice (some ⟨g, if cap = j then 0 else j, none⟩) (k - j) (cap - j))) hcells (by rw [hdl]; simp; omega) (by omega) ?_
              intro v8 w8 hO8 hg8 hat8
              have hb8 := below_grown hOz hg8 (by omega)
              have hfrO : OwnI w8 w3.heap.size (.slice (some ⟨g, 0, none⟩) k cap) out := ownI_at hO7 fun q hq => hb8.block q (hOlt q hq).2
              have hbw8 := hbw7.trans (below_le hb8 hwz6)
              have hS8 : w8.cell? ⟨gl, k, none⟩ = some (.int .i64 z) := (hb8.cell (p := ⟨gl, k, none⟩) (by show gl < w6.heap.size; exact Nat.lt_of_lt_of_le hgl hw46)).trans hS1
              have hs8 := hb8.size
              refine hK.out _ _ hS8 (fun hS9 => ?_)
              clear hK K hO7 hbw7 hS1 hOz hg8 hb8 hS8 hcells
              go_simp
              (refine hK_take 9 (v8) rfl (by kernel_rfl) (by kernel_rfl) (by kernel_rfl) (fun _ _ _ h => h) rfl (fun W _ => by go_simp) hS9 ?_; (intro K hK; go_simp; refine hK _ ?_; clear hK K))
              refine wpAnyH_done (by kernel_rfl) ?_ _
              have hsT := hfrO.sees.take j (by rw [Hlen.out]; omega)
              have hlt8 := World.ownsRow.lt hO8
              go_wp2_with (first | (go_at_call 51; refine (l01Own_calls _ (out.take j) (by rw [List.length_take]; omega) _ hsT).mono ?_; rintro e w9 ⟨v9, rfl, hO9, hb9⟩; have hs9 := (hO8.below hb9).sees; have hbw9 := below_step hbw8 hb9; have hz9 := hb9.size) | (at_builtin; refine wpList_join_ints rfl (.tmp 71) (.tmp 72) rfl w8.heap.size _ _ (out.take j) ([z] ++ out.drop j) rfl hO9 rfl hs9 (by rw [List.length_take, List.length_append, hdl]; simp; omega) (by omega) ?_; intro v10 w10 hO10 hb10 hat10 hfr10))
              have hbw10 := hbw9.trans (below_le hb10 (by omega))
              have e10 : out.take j ++ ([z] ++ out.drop j) = isrtK zs (k + 1) := by rw [Hn.out, HI2.out]; rfl
              rw [e10] at hO10
              obtain ⟨o10, c10, rfl, hv10⟩ := hO10.view
              obtain ⟨g10, rfl, _, _⟩ := hv10 (by rw [isrtK_len]; omega)
              rw [isrtK_len] at hO10 ⊢
              clear hv10
              go_roundw
              case rel => exact ⟨k + 1, g10, c10, by omega, by go_num, rfl, hO10.base_le' (by omega), hbw10⟩
              case measure => simp [intOf] <;> omega
            · have hjki : ¬ (j : Int) < (k : Int) := by omega
              go_wp2
              go_quiet (fail)
              go_wp2
              have hb45 : Below w4.heap.size w4 ((w4.drewN nd).drewN nq) := below_drewN' (below_drewN' (Below.refl _ _) nd) nq
              have hO5 := HO.out.below hb45
              have hc5 := (hb45.cell (p := ⟨gl, k, none⟩) hgl).trans cl
              have hbw5 := below_step hbw hb45
              have hw45 : w4.heap.size ≤ ((w4.drewN nd).drewN nq).heap.size := hb45.size
              have hwz : w3.heap.size ≤ ((w4.drewN nd).drewN nq).heap.size := hbw5.size
              clear hb45 cl hbw HO Hcell
              generalize (w4.drewN nd).drewN nq = w5 at *
              have hdr : Below w5.heap.size w5 w5.drew := (Below.refl _ _).drew
              have hO6 := hO5.below hdr
              have hbw6 := below_step hbw5 hdr
              have hc6 : w5.drew.cell? ⟨gl, k, none⟩ = some (.int .i64 z) := hc5
              refine wp_region_held_drew (S := fun W => W.cell? ⟨gl, k, none⟩ = some (.int .i64 z)) (by kernel_rfl) hc6 (fun hS0 => ?_)
              clear hO5 hbw5 hdr hc5 hc6
              have hwz6 : w3.heap.size ≤ w5.drew.heap.size := hwz
              have hw46 : w4.heap.size ≤ w5.drew.heap.size := hw45
              generalize w5.drew = w6 at *
              have hkc : k ≤ cap := HC2.out
              have hjk2 : j ≤ k := by omega
              (refine hK_take 0 (.slice (some ⟨gl, 0, none⟩) zs.length c3) rfl (by kernel_rfl) (by kernel_rfl) (by kernel_rfl) (fun _ _ _ h => h) rfl (fun W _ => by go_simp) hS0 ?_; (intro K hK; go_simp; refine hK _ ?_; clear hK K))
              (refine hK_take 1 (.int .i64 (k : Int)) rfl (by kernel_rfl) (by kernel_rfl) (by kernel_rfl) (fun _ _ _ h => h) rfl (fun W _ => by go_simp) hS0 ?_; (intro K hK; go_simp; refine hK _ ?_; clear hK K))
              (refine hK_take 2 (.pointer (some ⟨gl, k, none⟩)) rfl (by kernel_rfl) (by kernel_rfl) (by kernel_rfl) (fun _ _ _ h => h) rfl (fun W _ => by go_simp) hS0 ?_; (intro K hK; go_simp; refine hK _ ?_; clear hK K))
              (refine hK_take 3 (.int .i64 z) rfl (by kernel_rfl) (by kernel_rfl) (by kernel_rfl) (fun _ _ _ h => h) rfl (fun W hW => by go_simp) hS0 ?_; (intro K hK; go_simp; refine hK _ ?_; clear hK K))
              (refine hK_take 5 (.slice (some ⟨g, 0, none⟩) k cap) rfl (by kernel_rfl) (by kernel_rfl) (by kernel_rfl) (fun _ _ _ h => h) rfl (fun W _ => by go_simp) hS0 ?_; (intro K hK; go_simp; refine hK _ ?_; clear hK K))
              (refine hK_take 6 (.int .i64 (j : Int)) rfl (by kernel_rfl) (by kernel_rfl) (by kernel_rfl) (fun _ _ _ h => h) rfl (fun W _ => by go_simp) hS0 ?_; (intro K hK; go_simp; refine hK _ ?_; clear hK K))
              (refine hK_take 7 (.slice (if cap = j then some ⟨g, 0, none⟩ else some ⟨g, j, none⟩) (k - j) (cap - j)) rfl (by kernel_rfl) (by kernel_rfl) (by kernel_rfl) (fun _ _ _ h => h) rfl (fun W _ => by go_simp) hS0 ?_; (intro K hK; go_simp; refine hK _ ?_; clear hK K))
              have hbA : Below w6.heap.size w6 (w6.alloc (.cells #[.int .i64 z] 2)) := by (repeat (first | exact Below.refl _ _ | refine below_drew' ?_ | refine below_drewN' ?_ _ | refine below_alloc' ?_ _ | refine below_set' ?_ (by (try simp); (try omega)) _ | refine below_step ?_ (by assumption)))
              have hO7 := hO6.below hbA
              have hbw7 := below_step hbw6 hbA
              have hSA : (w6.alloc (.cells #[.int .i64 z] 2)).cell? ⟨gl, k, none⟩ = some (.int .i64 z) := cell_kept hbA hS0
              have hOz : OwnI (w6.alloc (.cells #[.int .i64 z] 2)) w6.heap.size (.slice (some ⟨w6.heap.size, 0, none⟩) 1 1) [z] := OwnI.made (n := 1) rfl (by unfold maxLen; omega) (Nat.le_refl _) (Blk.new _ _ _)
              have hs7 : (w6.alloc (.cells #[.int .i64 z] 2)).heap.size = w6.heap.size + 1 := by simp
              have hOlt := World.ownsRow.lt hO6
              refine wpAnyH_ready (rs := [4]) (by kernel_rfl) (by simp) ?_
              refine AllReadyH.cons rfl (fun K hK => ?_) AllReadyH.nil
              go_simp
              refine hK.out _ _ hSA (fun hS1 => ?_)
              clear hK K hO6 hbw6 hbA hSA hS0
              generalize w6.alloc (.cells #[.int .i64 z] 2) = w7 at *
              have hdl : (out.drop j).length = k - j := by rw [List.length_drop, Hlen.out]
              have hcells : ∀ i (hi : i < (out.drop j).length), w7.cell? ⟨g, (if cap = j then 0 else j) + i, none⟩ = some (.int .i64 (out.drop j)[i]) := fun i hi => by
                have hi2 : j + i < out.length := by rw [List.length_drop] at hi; omega
                rw [if_neg (by have := Hlen.out; omega)]
                obtain ⟨g', h2, _, c2⟩ := hO7.sees.at (j + i) hi2
                have e : g = g' := congrArg Addr.block (Option.some.inj h2)
                rw [e, c2, List.getElem_drop]
              refine wpAnyH_ready (rs := [8]) (by kernel_rfl) (by simp) ?_
              refine AllReadyH.cons rfl (fun K hK => ?_) AllReadyH.nil
              refine ite_go (by kernel_rfl) ?_
              refine wp_join_at (.tmp 63) (.tmp 66) rfl w6.heap.size (.slice (some ⟨w6.heap.size, 0, none⟩) 1 1) [z] (out.drop j) rfl hOz g (if cap = j then 0 else j) (cap - j) (by rw [hdl]; exact (by by_cases hcj : cap = j <;> simp [hcj] : Value.slice (if cap = j then some ⟨g, 0, none⟩ else some ⟨g, j, none⟩) (k - j) (cap - j) = Value.slice (some ⟨g, if cap = j then 0 else j, none⟩) (k - j) (cap - j))) hcells (by rw [hdl]; simp; omega) (by omega) ?_
              intro v8 w8 hO8 hg8 hat8
              have hb8 := below_grown hOz hg8 (by omega)
              have hfrO : OwnI w8 w3.heap.size (.slice (some ⟨g, 0, none⟩) k cap) out := ownI_at hO7 fun q hq => hb8.block q (hOlt q hq).2
              have hbw8 := hbw7.trans (below_le hb8 hwz6)
              have hS8 : w8.cell? ⟨gl, k, none⟩ = some (.int .i64 z) := (hb8.cell (p := ⟨gl, k, none⟩) (by show gl < w6.heap.size; exact Nat.lt_of_lt_of_le hgl hw46)).trans hS1
              have hs8 := hb8.size
              refine hK.out _ _ hS8 (fun hS9 => ?_)
              clear hK K hO7 hbw7 hS1 hOz hg8 hb8 hS8 hcells
              go_simp
              (refine hK_take 9 (v8) rfl (by kernel_rfl) (by kernel_rfl) (by kernel_rfl) (fun _ _ _ h => h) rfl (fun W _ => by go_simp) hS9 ?_; (intro K hK; go_simp; refine hK _ ?_; clear hK K))
              refine wpAnyH_done (by kernel_rfl) ?_ _
              have hsT := hfrO.sees.take j (by rw [Hlen.out]; omega)
              have hlt8 := World.ownsRow.lt hO8
              go_wp2_with (first | (go_at_call 51; refine (l01Own_calls _ (out.take j) (by rw [List.length_take]; omega) _ hsT).mono ?_; rintro e w9 ⟨v9, rfl, hO9, hb9⟩; have hs9 := (hO8.below hb9).sees; have hbw9 := below_step hbw8 hb9; have hz9 := hb9.size) | (at_builtin; refine wpList_join_ints rfl (.tmp 71) (.tmp 72) rfl w8.heap.size _ _ (out.take j) ([z] ++ out.drop j) rfl hO9 rfl hs9 (by rw [List.length_take, List.length_append, hdl]; simp; omega) (by omega) ?_; intro v10 w10 hO10 hb10 hat10 hfr10))
              have hbw10 := hbw9.trans (below_le hb10 (by omega))
              have e10 : out.take j ++ ([z] ++ out.drop j) = isrtK zs (k + 1) := by rw [Hn.out, HI2.out]; rfl
              rw [e10] at hO10
              obtain ⟨o10, c10, rfl, hv10⟩ := hO10.view
              obtain ⟨g10, rfl, _, _⟩ := hv10 (by rw [isrtK_len]; omega)
              rw [isrtK_len] at hO10 ⊢
              clear hv10
              go_roundw
              case rel => exact ⟨k + 1, g10, c10, by omega, by go_num, rfl, hO10.base_le' (by omega), hbw10⟩
              case measure => simp [intOf] <;> omega
      · obtain rfl : k = zs.length := by omega
        go_wp2
        go_ret2
        exact ⟨_, rfl, hO.base_le' HBW.out.size, HBW.out.trans (below_le hbw HBW.out.size)⟩
  · have Hr : Hid (ctR M q n = []) := Lib.hid (by unfold ctR ctL; rw [if_neg hc]; rfl)
    rw [Hr.out]
    by_cases h0 : gC M n [] = 0
    · obtain ⟨L, S, nn, hg, rfl, hn⟩ := gC_good hok h0
      rw [h0] at HC
      have hml : isMach M = true ∧ gLev M nn = true := by
        unfold gC at h0
        cases hm : isMach M
        · rw [hm] at h0; simp at h0
        · rw [if_pos hm] at h0
          cases hl : gLev M nn
          · rw [hl] at h0; simp at h0
          · exact ⟨rfl, rfl⟩
      have hS := hg.hS
      have hqb : ¬ (0 ≤ q ∧ q ≤ (S : Int) - 1) := fun h => hc (by unfold ctC; rw [if_pos hml.1, if_pos ⟨by omega, hml.2⟩])
      have Hk : Hid (ctC M q nn = 2) := Lib.hid (by unfold ctC; rw [if_pos hml.1, if_neg (fun h => hqb (by have := h.1; omega))])
      rw [Hk.out]
      have hcS := mc_S M
      rw [hg.hS] at hcS
      have HcS := Lib.hid hcS
      have hS16 := hg.S16
      have HI := Lib.hid (fun W => (l01In_calls q 0 ((S : Int) - 1) W).mono fun e w' (h' : e = .returned (.bool (decide (0 ≤ q ∧ q ≤ (S : Int) - 1))) ∧ W = w') => (⟨by rw [h'.1, decide_eq_false hqb], h'.2⟩ : e = .returned (.bool false) ∧ W = w'))
      clear hc h0 hml hqb hcS
      go_enter Try.func22, Try.ntmps22
      go_wp2_with (first | (with_reducible show wpList _ _ _ _ _ _; refine wpList_load_blk rfl 29 (.tmp 3) rfl w.heap.size 0 rfl (mc M) _ (by first | exact hB1 | exact hB) 98 F2.out _ Try.underlying29 rfl size_mach ?_; rw [F1.out]) | (go_at_call 47; refine HC.out.mono ?_; rintro e w1 ⟨rfl, hb1⟩; have hB1 := hB.keptAll hb1; have hbw1 := below_step hbw0 hb1; have cA := hB1.cell 1; rw [HcS.out] at cA) | (go_at_call 48; refine (HI.out _).mono ?_; rintro e w' ⟨rfl, rfl⟩))
      go_ret2
      exact ⟨_, rfl, OwnI.nil _ _, hbw1⟩
    · rw [gC_ct h0]
      obtain ⟨c, hcc⟩ : ∃ c, gC M n [] = c := ⟨_, rfl⟩
      rw [hcc] at h0 HC ⊢
      have hcb : (c != 0) = true := by simpa using h0
      have hcb2 : (c == 0) = false := by simpa using h0
      clear hc h0 hcc
      go_enter Try.func22, Try.ntmps22
      go_wp2_with (first | (with_reducible show wpList _ _ _ _ _ _; refine wpList_load_blk rfl 29 (.tmp 3) rfl w.heap.size 0 rfl (mc M) _ (hB) 98 F2.out _ Try.underlying29 rfl size_mach ?_; rw [F1.out]) | (go_at_call 47; refine HC.out.mono ?_; rintro e w1 ⟨rfl, hb1⟩; have hbw1 := below_step hbw0 hb1))
      go_ret2
      exact ⟨_, rfl, OwnI.nil _ _, hbw1⟩

theorem tvR_of (M : Mach) (q n : Int) : tvR M q n = (decide (ctC M q n = 0) && decide ((ctR M q n).length = 1)) := by
  unfold tvR ctR
  rw [isrt_len]
  by_cases h : ctC M q n = 0
  · simp [h]
  · have : ctL M q n = [] := by unfold ctL; rw [if_neg h]
    simp [h, this]

set_option maxRecDepth 100000 in
set_option maxHeartbeats 1000000 in
theorem sTurnsLevel_calls (M : Mach) (hok : M.Ok) (q n : Int) (w : World) :
    Calls Try.prog 25 #[.agg (mc M), .int .i64 q, .int .i64 n] w fun e w' => e = .returned (.tuple #[.bool (tvR M q n), .int .i64 (ctC M q n)]) ∧ Below w.heap.size w w' := by
  have F1 : Hid (cut (mc M) 0 98 = mc M) := Lib.hid (cut_all _ _ (mc_size hok)); have F2 : Hid (0 + 98 ≤ (mc M).size) := Lib.hid (by rw [mc_size hok]; omega)
  have hB : Blk (w.alloc (.cells (mc M) 29)) w.heap.size (mc M) 29 := Blk.new w _ _
  have hbw0 : Below w.heap.size w (w.alloc (.cells (mc M) 29)) := by (repeat (first | exact Below.refl _ _ | refine below_drew' ?_ | refine below_drewN' ?_ _ | refine below_alloc' ?_ _ | refine below_set' ?_ (by (try simp); (try omega)) _ | refine below_step ?_ (by assumption)))
  have HP := Lib.hid (sCycleType_calls M hok q n (w.alloc (.cells (mc M) 29)))
  rw [tvR_of]
  generalize ctR M q n = cl at *
  by_cases hc : ctC M q n = 0
  · rw [hc] at HP ⊢
    clear hc
    go_enter Try.func25, Try.ntmps25
    go_wp2_with (first | (with_reducible show wpList _ _ _ _ _ _; refine wpList_load_blk rfl 29 (.tmp 3) rfl w.heap.size 0 rfl (mc M) _ (hB) 98 F2.out _ Try.underlying29 rfl size_mach ?_; rw [F1.out]) | (go_at_call 22; refine HP.out.mono ?_; rintro e w1 ⟨v1, rfl, hO1, hb1⟩; obtain ⟨o1, c1, rfl, hqq⟩ := hO1.view; clear hqq hO1))
    go_ret2
    exact ⟨ret_bt (by rw [Bool.eq_iff_iff]; simp; omega) rfl, below_step hbw0 hb1⟩
  · obtain ⟨c, hcc⟩ : ∃ c, ctC M q n = c := ⟨_, rfl⟩
    rw [hcc] at hc HP ⊢
    have hcb : (c == 0) = false := by simpa using hc
    have Hd : Hid (decide (c = 0) = false) := Lib.hid (decide_eq_false hc)
    rw [Hd.out]
    clear hc hcc
    go_enter Try.func25, Try.ntmps25
    go_wp2_with (first | (with_reducible show wpList _ _ _ _ _ _; refine wpList_load_blk rfl 29 (.tmp 3) rfl w.heap.size 0 rfl (mc M) _ (hB) 98 F2.out _ Try.underlying29 rfl size_mach ?_; rw [F1.out]) | (go_at_call 22; refine HP.out.mono ?_; rintro e w1 ⟨v1, rfl, hO1, hb1⟩))
    go_ret2
    exact ⟨rfl, below_step hbw0 hb1⟩
end Go.Proofs.Yticnpajbefflbaa
