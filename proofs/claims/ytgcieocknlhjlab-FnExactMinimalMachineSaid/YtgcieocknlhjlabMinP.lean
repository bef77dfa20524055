/- 'MinimalMachine': the model. -/
import Derived.Test.YtgcieocknlhjlabMinL
import Derived.Test.YtgcieocknlhjlabMachD
namespace Go.Proofs.Ytgcieocknlhjlab
open Go.RowKit

theorem ret_min' {c c' : Array Value} {v : Value} {m m' : Int} (h : c = c') (h' : m = m') : Ending.returned (.tuple #[.agg c, v, .int .i64 m]) = Ending.returned (.tuple #[.agg c', v, .int .i64 m']) := by rw [h, h']

theorem ownI_le {w : World} {base base' : Nat} {v : Value} {zs : List Int} (h : OwnI w base v zs) (hb : base' ≤ base) : OwnI w base' v zs := by
  refine ⟨h.1, ?_⟩
  rcases h.2 with h2 | ⟨g, cap, cur, hv', hg', r⟩
  · exact Or.inl h2
  · exact Or.inr ⟨g, cap, cur, hv', by omega, r⟩
theorem ownI_at {w w' : World} {base : Nat} {v : Value} {zs : List Int} (h : OwnI w base v zs) (hs : ∀ k, v.ownBlock = some k → w'.heap[k]? = w.heap[k]?) : OwnI w' base v zs := by
  refine ⟨h.1, ?_⟩
  rcases h.2 with h2 | ⟨g, cap, cur, hv', hg, hh, r⟩
  · exact Or.inl h2
  · exact Or.inr ⟨g, cap, cur, hv', hg, by rw [hs g (by rw [hv']; rfl)]; exact hh, r⟩
theorem ownI_ge {w : World} {base : Nat} {v : Value} {zs : List Int} (h : OwnI w base v zs) : ∀ k, v.ownBlock = some k → base ≤ k := fun k hk => (World.ownsRow.lt h k hk).1

set_option maxRecDepth 100000 in
set_option maxHeartbeats 2000000 in
theorem sMinimalMachine_calls (M : Mach) (hok : M.Ok) (w : World) :
    Calls Try.prog 18 #[.agg (mc M)] w fun e w' => ∃ v, e = .returned (.tuple #[.agg (mc (minR M)), v, .int .i64 (minC M)]) ∧ OwnI w' w.heap.size v (minN M) ∧ Below w.heap.size w w' := by
  have F1 : Hid (cut (mc M) 0 98 = mc M) := Lib.hid (cut_all _ _ (mc_size hok)); have F2 : Hid (0 + 98 ≤ (mc M).size) := Lib.hid (by rw [mc_size hok]; omega)
  have hz := zero_mach
  have hzi := zero_i16
  have HzS : Hid ((mc zeroM).size = 98) := Lib.hid (mc_size zeroM_ok)
  have Hz16 : Hid ((ints zer).size = 16) := Lib.hid (by rw [ints_size]; rfl)
  have Hzz : Hid (over (mc zeroM) 0 (mc zeroM) = mc zeroM) := Lib.hid (over_all _ _ rfl)
  have hB : Blk ((w.alloc (.cells (mc M) 28)).alloc (.cells (mc zeroM) 28)) w.heap.size (mc M) 28 := (Blk.new w _ _).alloc _
  have hR : Blk ((w.alloc (.cells (mc M) 28)).alloc (.cells (mc zeroM) 28)) (w.heap.size + 1) (mc zeroM) 28 := Blk.new_at _ _ _ _ (by simp)
  have hbw0 : Below w.heap.size w ((w.alloc (.cells (mc M) 28)).alloc (.cells (mc zeroM) 28)) := by (repeat (first | exact Below.refl _ _ | refine below_drew' ?_ | refine below_drewN' ?_ _ | refine below_alloc' ?_ _ | refine below_set' ?_ (by (try simp); (try omega)) _ | refine below_step ?_ (by assumption)))
  cases hm : isMach M
  · have Hc : Hid (minC M = 1) := Lib.hid (by simp [minC, hm])
    have Hr : Hid (minR M = zeroM) := Lib.hid (by simp [minR, hm])
    have Hn : Hid (minN M = []) := Lib.hid (by simp [minN, hm])
    go_enter Try.func18, Try.ntmps18
    go_wp2_with (first | (with_reducible show wpList _ _ _ _ _ _; refine wpList_load_blk rfl 28 (.tmp 1) rfl w.heap.size 0 rfl (mc M) _ (hB) 98 F2.out _ Try.underlying28 rfl size_mach ?_; rw [F1.out]) | (go_at_call 24; refine (l01Is_calls M hok _).mono ?_; rintro e w1 ⟨rfl, hb1⟩; rw [hm]; have hR1 := hR.keptAll hb1; have hbw1 := below_step hbw0 hb1) | (with_reducible show wpList _ _ _ _ _ _; refine wpList_store_row rfl 28 (.tmp 2) _ rfl (w.heap.size + 1) 0 (mc zeroM) rfl rfl _ _ hR1 (by rw [HzS.out]; omega) (by rw [HzS.out]; exact size_mach) (mc_one _) _ Hzz.out ?_; intro w4 hs4))
    have hb4 := hs4.blk
    have hbw4 := hs4.below _ _ (by omega) hbw1
    exact bodyPost_cell2 rfl rfl hb4 Try.underlying28 rfl (by rw [HzS.out]; exact size_mach) rfl ⟨_, ret_min' (by rw [Hr.out]) Hc.out.symm, by rw [Hn.out]; exact OwnI.nil _ _, hbw4⟩
  · obtain ⟨L, S, hg⟩ := Good.of hok hm
    have hS16 := hg.S16
    have hcS := mc_S M
    rw [hg.hS] at hcS
    have Hc : Hid (minC M = 0) := Lib.hid (by simp [minC, hm])
    have Hr : Hid (minR M = mnAll M L S S) := Lib.hid (by simp [minR, hm, hg.hL, hg.hS])
    have Hn : Hid (minN M = numsT M L S S) := Lib.hid (by simp [minN, hm, hg.hL, hg.hS])
    have hmok := (mnAll_up hg S (Nat.le_refl S)).1.ok
    have Hms := Lib.hid (mc_size hmok)
    have Hmo : Hid (over (mc zeroM) 0 (mc (mnAll M L S S)) = mc (mnAll M L S S)) := Lib.hid (over_all _ _ (by rw [Hms.out, HzS.out]))
    have Hmc : Hid (cut (mc (mnAll M L S S)) 0 98 = mc (mnAll M L S S)) := Lib.hid (cut_all _ _ Hms.out)
    have Hns : Hid ((ints (numsZ M L S S)).size = 16) := Lib.hid (by rw [ints_size, numsZ_len])
    have Hno : Hid (over (ints zer) 0 (ints (numsZ M L S S)) = ints (numsZ M L S S)) := Lib.hid (over_all _ _ (by rw [Hns.out, Hz16.out]))
    have Hg := Lib.hid hg
    clear hg hmok
    go_enter Try.func18, Try.ntmps18
    go_wp2_with (first | (with_reducible show wpList _ _ _ _ _ _; refine wpList_load_blk rfl 28 (.tmp 1) rfl w.heap.size 0 rfl (mc M) _ (by first | exact hB1 | exact hB) 98 F2.out _ Try.underlying28 rfl size_mach ?_; rw [F1.out]) | (go_at_call 24; refine (l01Is_calls M hok _).mono ?_; rintro e w1 ⟨rfl, hb1⟩; rw [hm]; have hB1 := hB.keptAll hb1; have hR1 := hR.keptAll hb1; have hbw1 := below_step hbw0 hb1) | (go_at_call 34; refine (l01Minimal_calls M L S Hg.out _).mono ?_; rintro e w2 ⟨rfl, hb2⟩; have hB2 := ((hB1.keptAll hb2).alloc (.cells (mc zeroM) 28)).alloc (.cells (ints zer) 50); have hR2 := ((hR1.keptAll hb2).alloc (.cells (mc zeroM) 28)).alloc (.cells (ints zer) 50); have hX2 : Blk ((w2.alloc (.cells (mc zeroM) 28)).alloc (.cells (ints zer) 50)) w2.heap.size (mc zeroM) 28 := (Blk.new _ _ _).alloc _; have hY2 : Blk ((w2.alloc (.cells (mc zeroM) 28)).alloc (.cells (ints zer) 50)) (w2.heap.size + 1) (ints zer) 50 := Blk.new_at _ _ _ _ (by simp); have hbw2 := below_alloc' (below_alloc' (below_step hbw1 hb2) (.cells (mc zeroM) 28)) (.cells (ints zer) 50); have hlt2 := (hR1.keptAll hb2).lt) | (with_reducible show wpList _ _ _ _ _ _; refine wpList_store_row rfl 28 (.tmp 5) (.tmp 16) rfl w2.heap.size 0 (mc (mnAll M L S S)) rfl rfl _ _ hX2 (by rw [Hms.out, HzS.out]; omega) (by rw [Hms.out]; exact size_mach) (mc_one _) _ Hmo.out ?_; intro w3 hs3; have hB3 := hs3.keep (by omega) hB2; have hR3 := hs3.keep (by omega) hR2; have hY3 := hs3.keep (by omega) hY2; have hX3 := hs3.blk; have hbw3 := hs3.below _ _ (by omega) hbw2; clear hB2 hR2 hY2 hX2 hbw2 hs3) | (with_reducible show wpList _ _ _ _ _ _; refine wpList_store_row rfl 50 (.tmp 6) (.tmp 17) rfl (w2.heap.size + 1) 0 (ints (numsZ M L S S)) rfl rfl _ _ hY3 (by rw [Hns.out, Hz16.out]; omega) (by rw [Hns.out]; exact size_i16) (ints_one _) _ Hno.out ?_; intro w4 hs4; have hB4 := hs4.keep (by omega) hB3; have hR4 := hs4.keep (by omega) hR3; have hX4 := hs4.keep (by omega) hX3; have hY4 := hs4.blk; have hbw4 := hs4.below _ _ (by omega) hbw3; have hltY := hY4.lt; clear hB3 hR3 hX3 hY3 hbw3 hs4))
    have hE : Blk (w4.alloc (.cells #[] 2)) w4.heap.size #[] 2 := Blk.new _ _ _
    have hO5 : OwnI (w4.alloc (.cells #[] 2)) w4.heap.size (.slice (some ⟨w4.heap.size, 0, none⟩) 0 0) [] := OwnI.made rfl (by unfold maxLen; omega) (Nat.le_refl _) hE
    have hB5 := hB4.alloc (.cells #[] 2)
    have hR5 := hR4.alloc (.cells #[] 2)
    have hX5 := hX4.alloc (.cells #[] 2)
    have hY5 := hY4.alloc (.cells #[] 2)
    have hbw5 := below_alloc' hbw4 (.cells #[] 2)
    have hge5 : w4.heap.size ≤ (w4.alloc (.cells #[] 2)).heap.size := by simp
    clear hB hR hbw0 hB1 hR1 hbw1 hb1 hb2 hE hB4 hR4 hX4 hY4 hbw4 hz hzi
    generalize w4.alloc (.cells #[] 2) = w5 at *
    generalize w4.heap.size = b0 at *
    generalize w2.heap.size = g3 at *
    go_loopw [7, 8] (fun ov i wr => ∃ (k : Nat) (v0 : Value), k ≤ S ∧ i = .int .i64 k ∧ v0 = ov ∧ (Blk wr w.heap.size (mc M) 28 ∧ Blk wr (w.heap.size + 1) (mc zeroM) 28 ∧ Blk wr g3 (mc (mnAll M L S S)) 28 ∧ Blk wr (g3 + 1) (ints (numsZ M L S S)) 50) ∧ OwnI wr b0 v0 (numsT M L S k) ∧ b0 ≤ wr.heap.size ∧ Below w.heap.size w wr) (fun _ i _ => S - (intOf i).toNat)
    case atStart => exact ⟨0, _, by omega, rfl, rfl, ⟨hB5, hR5, hX5, hY5⟩, hO5, hge5, hbw5⟩
    case round =>
      clear hB5 hR5 hX5 hY5 hO5 hge5 hbw5
      obtain ⟨k, v0, hk, rfl, rfl, ⟨hB, hR, hX, hY⟩, hO, hge, hbw⟩ := hrel
      have cA := hB.cell
      by_cases hlt : k < S
      · have hki : (k : Int) < 16 := by omega
        have e1 := ints_at (numsZ M L S S) k (by rw [numsZ_len]; omega)
        rw [numsZ_at M L S S k hlt hS16] at e1
        have Hsn := Lib.hid (numsT_snoc M L S k)
        have Hln := Lib.hid (numsT_len M L S k)
        have cY := hY.cell
        generalize numT M L S k = nk at *
        have hBa := hB.alloc (.cells #[.int .i64 (nk : Int)] 2)
        have hRa := hR.alloc (.cells #[.int .i64 (nk : Int)] 2)
        have hXa := hX.alloc (.cells #[.int .i64 (nk : Int)] 2)
        have hYa := hY.alloc (.cells #[.int .i64 (nk : Int)] 2)
        have hbwa := below_alloc' hbw (.cells #[.int .i64 (nk : Int)] 2)
        go_wp2_with (at_builtin; refine wpList_push_int rfl (.tmp 25) (.tmp 29) rfl b0 _ (numsT M L S k) rfl (hO.below (Below.alloc (Below.refl _ _) (Nat.le_refl _) (.cells #[.int .i64 (nk : Int)] 2))) wr.heap.size 1 (nk : Int) rfl (Blk.new wr _ _) (by rw [Hln.out]; omega) (by simp; omega) ?_; intro v1 w6 hO1 hb1)
        have hs1 := hb1.size
        go_roundw
        case rel => exact ⟨k + 1, _, by omega, by go_num, rfl, ⟨hBa.kept hb1 (by omega), hRa.kept hb1 (by omega), hXa.kept hb1 (by omega), hYa.kept hb1 (by omega)⟩, by rw [Hsn.out]; exact hO1, by simp at hs1; omega, hbwa.trans (below_le hb1 (by omega))⟩
        case measure => simp [intOf] <;> omega
      · have hSk : S = k := by omega
        subst hSk
        go_wp2_with (first | (with_reducible show wpList _ _ _ _ _ _; refine wpList_load_blk rfl 28 (.tmp 5) rfl g3 0 rfl (mc (mnAll M L S S)) _ hX 98 (by rw [Hms.out]; omega) _ Try.underlying28 rfl size_mach ?_; rw [Hmc.out]) | (with_reducible show wpList _ _ _ _ _ _; refine wpList_store_row rfl 28 (.tmp 2) _ rfl (w.heap.size + 1) 0 (mc (mnAll M L S S)) rfl rfl _ _ hR (by rw [HzS.out, Hms.out]; omega) (by rw [Hms.out]; exact size_mach) (mc_one _) _ Hmo.out ?_; intro w9 hs9))
        have cR9 := hs9.blk
        exact bodyPost_cell2 rfl rfl cR9 Try.underlying28 rfl (by rw [Hms.out]; exact size_mach) rfl ⟨_, ret_min' (by rw [Hr.out]) Hc.out.symm, by rw [Hn.out]; exact ownI_at (ownI_le hO (by omega)) (fun j hj => hs9.other j (by have := ownI_ge hO j hj; omega)), hs9.below _ _ (by omega) hbw⟩
end Go.Proofs.Ytgcieocknlhjlab
