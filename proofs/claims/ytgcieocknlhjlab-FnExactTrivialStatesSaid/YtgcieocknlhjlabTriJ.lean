/- 'TrivialStates': the program. -/
import Derived.Test.YtgcieocknlhjlabTriG
namespace Go.Proofs.Ytgcieocknlhjlab
open Go.RowKit

theorem ret_li {v : Value} {m m' : Int} (h' : m = m') : Ending.returned (.tuple #[v, .int .i64 m]) = Ending.returned (.tuple #[v, .int .i64 m']) := by rw [h']

theorem tri_le {w : World} {base base' : Nat} {v : Value} {zs : List Int} (h : OwnI w base v zs) (hb : base' ≤ base) : OwnI w base' v zs := by
  refine ⟨h.1, ?_⟩
  rcases h.2 with h2 | ⟨g, cap, cur, hv', hg', r⟩
  · exact Or.inl h2
  · exact Or.inr ⟨g, cap, cur, hv', by omega, r⟩

set_option maxRecDepth 100000 in
set_option maxHeartbeats 2000000 in
theorem iTrivialStates_calls (M : Mach) (hok : M.Ok) (w : World) :
    Calls Try.prog 14 #[.agg (mc M)] w fun e w' => ∃ v, e = .returned (.tuple #[v, .int .i64 (minC M)]) ∧ OwnI w' w.heap.size v (triR M) ∧ Below w.heap.size w w' := by
  have hz := zero_mach
  have HzS : Hid ((mc zeroM).size = 98) := Lib.hid (mc_size zeroM_ok)
  have hB0 : Blk (w.alloc (.cells (mc M) 28)) w.heap.size (mc M) 28 := Blk.new _ _ _
  have hbw0 : Below w.heap.size w (w.alloc (.cells (mc M) 28)) := by (repeat (first | exact Below.refl _ _ | refine below_drew' ?_ | refine below_drewN' ?_ _ | refine below_alloc' ?_ _ | refine below_set' ?_ (by (try simp); (try omega)) _ | refine below_step ?_ (by assumption)))
  have hF := Lib.hid (fun W => iMinimalMachine_calls M hok W)
  have hRok := minR_ok hok
  have HR := Lib.hid (mc_size hRok)
  have Hov : Hid (over (mc zeroM) 0 (mc (minR M)) = mc (minR M)) := Lib.hid (over_all _ _ (by rw [HR.out, HzS.out]))
  have F1 : Hid (cut (mc M) 0 98 = mc M) := Lib.hid (cut_all _ _ (mc_size hok)); have F2 : Hid (0 + 98 ≤ (mc M).size) := Lib.hid (by rw [mc_size hok]; omega)
  clear hRok
  cases hm : isMach M
  · have Hc : Hid (minC M = 1) := Lib.hid (by simp [minC, hm])
    have Hn : Hid (triR M = []) := Lib.hid (by simp [triR, hm])
    have hf1 := fun W => iMinimalMachine_calls M hok W
    rw [Hc.out] at hf1
    clear hF
    generalize minR M = R at *
    generalize minN M = ns at *
    have HF := Lib.hid hf1
    clear hf1
    go_enter Try.func14, Try.ntmps14
    go_wp2_with (first | (with_reducible show wpList _ _ _ _ _ _; refine wpList_load_blk rfl 28 (.tmp 1) rfl w.heap.size 0 rfl (mc M) _ (hB0) 98 F2.out _ Try.underlying28 rfl size_mach ?_; rw [F1.out]) | (go_at_call 19; refine (HF.out _).mono ?_; rintro e w1 ⟨v1, rfl, hv1, hb1⟩; have hB1 := (hB0.keptAll hb1).alloc (.cells (mc zeroM) 28); have hbw1 := below_alloc' (below_step hbw0 hb1) (.cells (mc zeroM) 28); have hX1 : Blk (w1.alloc (.cells (mc zeroM) 28)) w1.heap.size (mc zeroM) 28 := Blk.new _ _ _; have hlt1 := (hB0.keptAll hb1).lt) | (with_reducible show wpList _ _ _ _ _ _; refine wpList_store_row rfl 28 _ _ rfl w1.heap.size 0 (mc R) rfl rfl _ _ hX1 (by rw [HR.out, HzS.out]; omega) (by rw [HR.out]; exact size_mach) (mc_one _) _ Hov.out ?_; intro w3 hs3; have hbw3 := hs3.below _ _ (by omega) hbw1; clear hX1 hbw1 hs3))
    go_ret2
    exact ⟨_, ret_li Hc.out.symm, by rw [Hn.out]; exact OwnI.nil _ _, hbw3⟩
  · obtain ⟨L, S, hg⟩ := Good.of hok hm
    have hS16 := hg.S16
    have hS1 := hg.S1
    have hL3 := hg.L3
    have Hc : Hid (minC M = 0) := Lib.hid (by simp [minC, hm])
    have Hr : Hid (minR M = mnAll M L S S) := Lib.hid (by simp [minR, hm, hg.hL, hg.hS])
    have Hn : Hid (minN M = numsT M L S S) := Lib.hid (by simp [minN, hm, hg.hL, hg.hS])
    have Ht : Hid (triR M = triK M L S S) := Lib.hid (by simp [triR, hm, hg.hL, hg.hS])
    have hmok := (mnAll_up hg S (Nat.le_refl S)).1.ok
    have hmL := (mnAll_up hg S (Nat.le_refl S)).1.hL
    have Hms := Lib.hid (mc_size hmok)
    have Hmo : Hid (over (mc zeroM) 0 (mc (mnAll M L S S)) = mc (mnAll M L S S)) := Lib.hid (over_all _ _ (by rw [Hms.out, HzS.out]))
    have Hmc : Hid (cut (mc (mnAll M L S S)) 0 98 = mc (mnAll M L S S)) := Lib.hid (cut_all _ _ Hms.out)
    have hf1 := fun W => iMinimalMachine_calls M hok W
    rw [Hc.out, Hr.out, Hn.out] at hf1
    have HF := Lib.hid hf1
    have Hst := fun q hq => stay_triv hg q hq
    have Hg := Lib.hid hg
    replace Hst := Lib.hid Hst
    have HL := Lib.hid hmL
    have Hmok := Lib.hid hmok
    clear hf1 hF hg hmL hmok Hov HR
    go_enter Try.func14, Try.ntmps14
    go_wp2_with (first | (with_reducible show wpList _ _ _ _ _ _; refine wpList_load_blk rfl 28 (.tmp 1) rfl w.heap.size 0 rfl (mc M) _ (hB0) 98 F2.out _ Try.underlying28 rfl size_mach ?_; rw [F1.out]) | (go_at_call 19; refine (HF.out _).mono ?_; rintro e w1 ⟨v1, rfl, hv1, hb1⟩; have hB1 := (hB0.keptAll hb1).alloc (.cells (mc zeroM) 28); have hbw1 := below_alloc' (below_step hbw0 hb1) (.cells (mc zeroM) 28); have hX1 : Blk (w1.alloc (.cells (mc zeroM) 28)) w1.heap.size (mc zeroM) 28 := Blk.new _ _ _; have hlt1 := (hB0.keptAll hb1).lt; have hge := hb1.size; have hv2 := hv1.2; rw [numsT_len] at hv2; rcases hv2 with ⟨_, h0⟩ | ⟨g, cap, cur, rfl, hbg, hV1, hnn, hcap, hsz, htake⟩; omega; have hltV : g < w1.heap.size := Blk.lt hV1; have hVa := Blk.alloc hV1 (.cells (mc zeroM) 28)) | (with_reducible show wpList _ _ _ _ _ _; refine wpList_store_row rfl 28 _ _ rfl w1.heap.size 0 (mc (mnAll M L S S)) rfl rfl _ _ hX1 (by rw [Hms.out, HzS.out]; omega) (by rw [Hms.out]; exact size_mach) (mc_one _) _ Hmo.out ?_; intro w3 hs3; have hX3 := hs3.blk; have hV3 := hs3.keep (by omega) hVa; have hbw3 := hs3.below _ _ (by omega) hbw1; clear hX1 hbw1 hs3 hVa))
    have hcur : ∀ k, k < S → cur[k]? = some (.int .i64 (numT M L S k : Int)) := fun k hk => by
      have := congrArg (fun l => l[k]?) htake
      simp only [List.getElem?_take, Nat.mul_one] at this
      rw [if_pos hk] at this
      rw [← Array.getElem?_toList, this]
      simp [numsT, hk]
    have Hcur := Lib.hid hcur
    have hge3 := hX3.lt
    have hO3 : OwnI w3 w3.heap.size (.slice none 0 0) (triK M L S 0) := OwnI.nil _ _
    have hgw : w.heap.size ≤ w3.heap.size := by omega
    clear hcur htake hsz hcap hnn hV1 hv1 hB1 hb1 hge hbw0 hB0
    generalize w1.heap.size = g1 at *
    generalize hb0 : w3.heap.size = b0 at *
    go_loopw [7, 21] (fun ov i wr => ∃ (k : Nat) (v0 : Value), k ≤ S ∧ i = .int .i64 k ∧ v0 = ov ∧ (Blk wr g1 (mc (mnAll M L S S)) 28 ∧ Blk wr g cur 2) ∧ OwnI wr b0 v0 (triK M L S k) ∧ b0 ≤ wr.heap.size ∧ Below w.heap.size w wr) (fun _ i _ => S - (intOf i).toNat)
    case atStart => exact ⟨0, _, by omega, rfl, rfl, ⟨hX3, hV3⟩, hO3, by omega, hbw3⟩
    case round =>
      clear hX3 hV3 hO3 hbw3 hb0
      obtain ⟨k, v0, hk, rfl, rfl, ⟨hX, hV⟩, hO, hge, hbw⟩ := hrel
      by_cases hlt : k < S
      · have hkS : (k : Int) < S := by omega
        have e1 := Hcur.out k hlt
        have hnk : numT M L S k ≤ k := num_le M L (S + 1) k
        have Hln := Lib.hid (triK_len M L S k)
        have cV := hV.cell
        have HF1 := Lib.hid (fun W => staysTrivial_calls (mnAll M L S S) Hmok.out L HL.out hL3 (numT M L S k) (by omega) W)
        have Hs1 := Lib.hid (Hst.out k hlt)
        generalize numT M L S k = nk at *
        cases ht : trivB M L S k
        · have Hs2 := Lib.hid (Hs1.out.trans ht)
          have Hsn := Lib.hid (triK_no (M := M) (L := L) (S := S) ht)
          clear Hs1 ht
          go_wp2_with (first | (with_reducible show wpList _ _ _ _ _ _; refine wpList_load_blk rfl 28 (.tmp 4) rfl g1 0 rfl (mc (mnAll M L S S)) _ hX 98 (by rw [Hms.out]; omega) _ Try.underlying28 rfl size_mach ?_; rw [Hmc.out]) | (go_at_call 33; refine (HF1.out _).mono ?_; rintro e w6 ⟨rfl, hb6⟩; rw [Hs2.out]))
          have hs6 := hb6.size
          go_roundw
          case rel => exact ⟨k + 1, _, by omega, by go_num, rfl, ⟨hX.keptAll hb6, hV.keptAll hb6⟩, by rw [Hsn.out]; exact hO.below hb6, by omega, below_step hbw hb6⟩
          case measure => simp [intOf] <;> omega
        · have Hs2 := Lib.hid (Hs1.out.trans ht)
          have Hsn := Lib.hid (triK_yes (M := M) (L := L) (S := S) ht)
          clear Hs1 ht
          go_wp2_with (first | (with_reducible show wpList _ _ _ _ _ _; refine wpList_load_blk rfl 28 (.tmp 4) rfl g1 0 rfl (mc (mnAll M L S S)) _ hX 98 (by rw [Hms.out]; omega) _ Try.underlying28 rfl size_mach ?_; rw [Hmc.out]) | (go_at_call 33; refine (HF1.out _).mono ?_; rintro e w6 ⟨rfl, hb6⟩; rw [Hs2.out]; have hs6 := hb6.size; have hX6 := (hX.keptAll hb6).alloc (.cells #[.int .i64 (k : Int)] 2); have hV6 := (hV.keptAll hb6).alloc (.cells #[.int .i64 (k : Int)] 2); have hbw6 := below_alloc' (below_step hbw hb6) (.cells #[.int .i64 (k : Int)] 2)) | (at_builtin; refine wpList_push_int rfl (.tmp 29) (.tmp 31) rfl b0 _ (triK M L S k) rfl ((hO.below hb6).below (Below.alloc (Below.refl _ _) (Nat.le_refl _) (.cells #[.int .i64 (k : Int)] 2))) w6.heap.size 1 (k : Int) rfl (Blk.new w6 _ _) (by have := Hln.out; omega) (by simp; omega) ?_; intro v1 w7 hO1 hb7))
          have hs7 := hb7.size
          go_roundw
          case rel => exact ⟨k + 1, _, by omega, by go_num, rfl, ⟨hX6.kept hb7 (by omega), hV6.kept hb7 (by omega)⟩, by rw [Hsn.out]; exact hO1, by simp at hs7; omega, hbw6.trans (below_le hb7 (by omega))⟩
          case measure => simp [intOf] <;> omega
      · have hSk : S = k := by omega
        subst hSk
        go_wp2
        go_ret2
        exact ⟨_, ret_li Hc.out.symm, by rw [Ht.out]; exact tri_le hO (by omega), hbw⟩
end Go.Proofs.Ytgcieocknlhjlab
