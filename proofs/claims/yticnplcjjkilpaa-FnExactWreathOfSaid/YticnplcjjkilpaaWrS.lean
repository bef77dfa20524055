/- 'WreathOf': the model. -/
import Derived.Test.YticnplcjjkilpaaWrD
import Derived.Test.YticnplcjjkilpaaGrpT
import Derived.Test.YticnplcjjkilpaaInv
import Derived.Test.YticnplcjjkilpaaStoreK
namespace Go.Proofs.Yticnplcjjkilpaa
open Go.RowKit

theorem apart_step {iv sv v1 v2 v5 : Value} {vs : List Value} {nr n6 n8 : Nat} (hap : ∀ q, iv.ownBlock = some q → ¬ inLV sv vs q) (hi : ∀ q, iv.ownBlock = some q → q < nr) (hs : ∀ q, inLV sv vs q → q < nr) (h5 : ∀ q, v5.ownBlock = some q → nr ≤ q ∧ q < n6)
    (h1 : v1.ownBlock = iv.ownBlock ∨ v1.ownBlock = some n6) (h2 : v2.ownBlock = sv.ownBlock ∨ v2.ownBlock = some n8) (hn : nr ≤ n6) (hn8 : n6 < n8) : ∀ q, v1.ownBlock = some q → ¬ inLV v2 (vs ++ [v5]) q := by
  intro q hq hin
  have hq1 : (iv.ownBlock = some q) ∨ q = n6 := by
    rcases h1 with e | e
    · exact .inl (e ▸ hq)
    · rw [e] at hq; cases hq; exact .inr rfl
  rcases inLV_push (v := sv) hin with h | h | h
  · rcases h2 with e | e
    · have h3 : sv.ownBlock = some q := e ▸ h
      rcases hq1 with h4 | h4
      · exact hap q h4 (.inl h3)
      · have := hs q (.inl h3); omega
    · rw [e] at h; cases h
      rcases hq1 with h4 | h4
      · have := hi _ h4; omega
      · omega
  · rcases hq1 with h4 | h4
    · exact hap q h4 h
    · have := hs q h; omega
  · have h6 := h5 q h
    rcases hq1 with h4 | h4
    · have := hi _ h4; omega
    · omega
theorem below_stepB {B : Nat} {w X w1 : World} (h : Below B w X) (hB : B ≤ X.heap.size) (hb : Below X.heap.size X w1) : Below B w w1 := h.trans (below_le hb hB)
theorem below_allocB {B : Nat} {w X : World} (h : Below B w X) (hB : B ≤ X.heap.size) (o : Obj) : Below B w (X.alloc o) := h.alloc hB o
theorem ret_vvi {v u : Value} {m m' : Int} (h' : m = m') : Ending.returned (.tuple #[v, u, .int .i64 m]) = Ending.returned (.tuple #[v, u, .int .i64 m']) := by rw [h']

set_option maxRecDepth 100000 in
set_option maxHeartbeats 2000000 in
theorem sWreathOf_calls (M : Mach) (hok : M.Ok) (v : Value) (zs : List Int) (w : World) (hv : SeesI w v zs) :
    Calls Try.prog 15 #[.agg (mc M), v] w fun e w' => ∃ v1 v2 vs2, e = .returned (.tuple #[v1, v2, .int .i64 (code1 M zs)]) ∧ OwnI w' w.heap.size v1 (wrI M zs) ∧ OwnLV w' w.heap.size v2 vs2 (wrS M zs) ∧ (∀ q, v1.ownBlock = some q → inLV v2 vs2 q → False) ∧ Below w.heap.size w w' := by
  obtain ⟨oa, ca, rfl, hvv⟩ := hv.view
  clear hvv
  have hz := zero_mach
  have HzS : Hid ((mc zeroM).size = 98) := Lib.hid (mc_size zeroM_ok)
  have F1 : Hid (cut (mc M) 0 98 = mc M) := Lib.hid (cut_all _ _ (mc_size hok)); have F2 : Hid (0 + 98 ≤ (mc M).size) := Lib.hid (by rw [mc_size hok]; omega)
  have hB : Blk (w.alloc (.cells (mc M) 29)) w.heap.size (mc M) 29 := Blk.new w _ _
  have hvB := hv.below (w1 := w.alloc (.cells (mc M) 29)) (by (repeat (first | exact Below.refl _ _ | refine below_drew' ?_ | refine below_drewN' ?_ _ | refine below_alloc' ?_ _ | refine below_set' ?_ (by (try simp); (try omega)) _ | refine below_step ?_ (by assumption))))
  have hbw0 : Below w.heap.size w (w.alloc (.cells (mc M) 29)) := by (repeat (first | exact Below.refl _ _ | refine below_drew' ?_ | refine below_drewN' ?_ _ | refine below_alloc' ?_ _ | refine below_set' ?_ (by (try simp); (try omega)) _ | refine below_step ?_ (by assumption)))
  clear hv
  have hL : SeesL ((w.alloc (.cells (mc M) 29)).alloc (.cells #[.slice oa zs.length ca] 26)) (.slice (some ⟨w.heap.size + 1, 0, none⟩) 1 1) [(.slice oa zs.length ca, zs)] :=
    ⟨w.heap.size + 1, 1, rfl, Blk.new_at _ _ _ _ (by simp), fun i hi => by
      obtain rfl : i = 0 := by simp at hi; omega
      exact hvB.below (by (repeat (first | exact Below.refl _ _ | refine below_drew' ?_ | refine below_drewN' ?_ _ | refine below_alloc' ?_ _ | refine below_set' ?_ (by (try simp); (try omega)) _ | refine below_step ?_ (by assumption))))⟩
  have hB1 : Blk ((w.alloc (.cells (mc M) 29)).alloc (.cells #[.slice oa zs.length ca] 26)) w.heap.size (mc M) 29 := hB.alloc _
  have hvC := hvB.below (w1 := (w.alloc (.cells (mc M) 29)).alloc (.cells #[.slice oa zs.length ca] 26)) (by (repeat (first | exact Below.refl _ _ | refine below_drew' ?_ | refine below_drewN' ?_ _ | refine below_alloc' ?_ _ | refine below_set' ?_ (by (try simp); (try omega)) _ | refine below_step ?_ (by assumption))))
  have hbw1 : Below w.heap.size w ((w.alloc (.cells (mc M) 29)).alloc (.cells #[.slice oa zs.length ca] 26)) := by (repeat (first | exact Below.refl _ _ | refine below_drew' ?_ | refine below_drewN' ?_ _ | refine below_alloc' ?_ _ | refine below_set' ?_ (by (try simp); (try omega)) _ | refine below_step ?_ (by assumption)))
  cases hm : isGrp M zs
  · have Hc : Hid (code1 M zs = 1) := Lib.hid (by simp [code1, hm])
    have hcg : codeG M [(.slice oa zs.length ca, zs)] = 1 := by
      unfold isGrp at hm; simp only [codeG, grpsOk, List.all_cons, List.all_nil, Bool.and_true, hm]; rfl
    have Hr : Hid (wrI M zs = [] ∧ wrS M zs = []) := Lib.hid (by simp [wrI, wrS, hm])
    clear hz
    go_enter Try.func15, Try.ntmps15
    go_wp2_with (first | (with_reducible show wpList _ _ _ _ _ _; refine wpList_load_blk rfl 29 (.tmp 2) rfl w.heap.size 0 rfl (mc M) _ (hB) 98 F2.out _ Try.underlying29 rfl size_mach ?_; rw [F1.out]) | (go_at_call 27; refine (l02Code_calls M hok _ [(.slice oa zs.length ca, zs)] (by simp) _ hL).mono ?_; rintro e w1 ⟨rfl, hb1⟩; rw [hcg]))
    go_ret3
    exact ⟨_, _, [], ret_vvi Hc.out.symm, by rw [Hr.out.1]; exact OwnI.nil _ _, by rw [Hr.out.2]; exact OwnLV.nil _ _, (fun q hq => by cases hq), below_step hbw1 hb1⟩
  · obtain ⟨L, S, hg⟩ := Good.of hok (isGrp_parts hm).1
    have hL3 := hg.L3
    have Hc : Hid (code1 M zs = 0) := Lib.hid (by simp [code1, hm])
    have hcg : codeG M [(.slice oa zs.length ca, zs)] = 0 := by
      unfold isGrp at hm; simp only [codeG, grpsOk, List.all_cons, List.all_nil, Bool.and_true, hm]; rfl
    have Hr := Lib.hid (wr_good hg hm)
    have Hnum := Lib.hid (nums_of hg hm)
    have hln := isGrp_len hm
    have hcL := mc_L M
    rw [hg.hL] at hcL
    have hIok := invM_ok hok L S hg.L3
    have HIs := Lib.hid (mc_size hIok)
    have HIc : Hid (cut (mc (invM M L S)) 0 98 = mc (invM M L S)) := Lib.hid (cut_all _ _ HIs.out)
    have HIo : Hid (over (mc zeroM) 0 (mc (invM M L S)) = mc (invM M L S)) := Lib.hid (over_all _ _ (by rw [HIs.out, HzS.out]))
    have Hg := Lib.hid hg
    clear hg hIok
    go_enter Try.func15, Try.ntmps15
    go_wp2_with (first | (with_reducible show wpList _ _ _ _ _ _; refine wpList_load_blk rfl 29 (.tmp 2) rfl w.heap.size 0 rfl (mc M) _ (by first | exact hB2 | exact hB) 98 F2.out _ Try.underlying29 rfl size_mach ?_; rw [F1.out]) | (go_at_call 27; refine (l02Code_calls M hok _ [(.slice oa zs.length ca, zs)] (by simp) _ hL).mono ?_; rintro e w1 ⟨rfl, hb1⟩; rw [hcg]; have hv1 := hvC.below hb1; have hB2 := hB1.keptAll hb1; have hbw := below_step hbw1 hb1) | (go_at_call 35; refine (l01Inverse_calls M L S Hg.out _).mono ?_; rintro e w2 ⟨rfl, hb2⟩; have hB3 := (((hB2.keptAll hb2).alloc (.cells #[] 2)).alloc (.cells #[] 26)).alloc (.cells (mc zeroM) 29); have hlt3 := (hB2.keptAll hb2).lt; have hv2 := hv1.below hb2; have hbw3 := below_alloc' (below_alloc' (below_alloc' (below_step hbw hb2) (.cells #[] 2)) (.cells #[] 26)) (.cells (mc zeroM) 29); have hI3 : Blk (((w2.alloc (.cells #[] 2)).alloc (.cells #[] 26)).alloc (.cells (mc zeroM) 29)) w2.heap.size #[] 2 := ((Blk.new w2 _ _).alloc _).alloc _; have hS3 : Blk (((w2.alloc (.cells #[] 2)).alloc (.cells #[] 26)).alloc (.cells (mc zeroM) 29)) (w2.heap.size + 1) #[] 26 := (Blk.new_at _ _ _ _ (by simp)).alloc _; have hX3 : Blk (((w2.alloc (.cells #[] 2)).alloc (.cells #[] 26)).alloc (.cells (mc zeroM) 29)) (w2.heap.size + 1 + 1) (mc zeroM) 29 := Blk.new_at _ _ _ _ (by simp)) | (with_reducible show wpList _ _ _ _ _ _; refine wpList_store_row rfl 29 _ _ rfl (w2.heap.size + 1 + 1) 0 (mc (invM M L S)) rfl rfl _ _ hX3 (by rw [HIs.out, HzS.out]; omega) (by rw [HIs.out]; exact size_mach) (mc_one _) _ HIo.out ?_; intro w4 hs4; have hB4 := hs4.keep (by omega) hB3; have hX4 := hs4.blk; have hI4 := hs4.keep (by omega) hI3; have hS4 := hs4.keep (by omega) hS3; have hbw4 := hs4.below _ _ (by omega) hbw3; clear hB3 hX3 hI3 hS3 hbw3))
    have hOI4 : OwnI w4 w2.heap.size (.slice (some ⟨w2.heap.size, 0, none⟩) 0 0) (imK M zs 0) := OwnI.made rfl (by unfold maxLen; omega) (Nat.le_refl _) hI4
    have hOS4 : OwnLV w4 w2.heap.size (.slice (some ⟨w2.heap.size + 1, 0, none⟩) 0 0) [] (secK M zs 0) := OwnLV.empty (by omega) (by unfold maxLen; omega) rfl hS4
    have Hap4 : Hid (∀ q, (Value.slice (some ⟨w2.heap.size, 0, none⟩) 0 0).ownBlock = some q → ¬ inLV (.slice (some ⟨w2.heap.size + 1, 0, none⟩) 0 0) [] q) := Lib.hid (fun q h1 h2 => by
      rcases h2 with h2 | ⟨u, hu, _⟩
      · have e1 : w2.heap.size = q := by simpa [Value.ownBlock] using h1
        have e2 : w2.heap.size + 1 = q := by simpa [Value.ownBlock] using h2
        omega
      · cases hu)
    have hvw := hvC.below hb1
    have Hv2 := Lib.hid hv2
    have hb24 : Below w2.heap.size w2 w4 := by
      have : Below w2.heap.size w2 (((w2.alloc (.cells #[] 2)).alloc (.cells #[] 26)).alloc (.cells (mc zeroM) 29)) := by (repeat (first | exact Below.refl _ _ | refine below_drew' ?_ | refine below_drewN' ?_ _ | refine below_alloc' ?_ _ | refine below_set' ?_ (by (try simp); (try omega)) _ | refine below_step ?_ (by assumption)))
      exact hs4.below _ _ (by omega) this
    have hgb : w2.heap.size + 1 + 1 < w4.heap.size := hX4.lt
    clear hI4 hS4 hs4 hv2 hv1 hvw hvB hvC hb1 hb2 hB2 hB1 hbw hbw0 hbw1 hL hB hz hcg
    generalize hbb : w2.heap.size = b0 at *
    go_loopw [9, 10, 11] (fun iv' sv' i wr => ∃ (k : Nat) (iv sv : Value) (vs : List Value), k ≤ L ∧ i = .int .i64 k ∧ iv = iv' ∧ sv = sv' ∧ (Blk wr w.heap.size (mc M) 29 ∧ Blk wr (b0 + 1 + 1) (mc (invM M L S)) 29) ∧ OwnI wr b0 iv (imK M zs k) ∧ OwnLV wr b0 sv vs (secK M zs k) ∧ Hid (∀ q, iv.ownBlock = some q → ¬ inLV sv vs q) ∧ b0 ≤ wr.heap.size ∧ Below b0 w2 wr ∧ Below w.heap.size w wr) (fun _ _ i _ => L - (intOf i).toNat)
    case atStart => exact ⟨0, _, _, [], by omega, rfl, rfl, rfl, ⟨hB4, hX4⟩, hOI4, hOS4, Hap4, by omega, hb24, hbw4⟩
    case round =>
      clear hB4 hX4 hOI4 hOS4 Hap4 hb24 hbw4 hgb
      obtain ⟨k, iv, sv, vs, hk, rfl, rfl, rfl, ⟨hB, hX⟩, hI, hO, Hap, hge, hb2r, hbw⟩ := hrel
      have cA := hB.cell
      by_cases hlt : k < L
      · have hki : (k : Int) < L := by omega
        have hk3 : (k : Int) < 3 := by omega
        have hw8 : IntKind.u8.wrap (k : Int) = (k : Int) := by simp [IntKind.wrap, IntKind.bits, IntKind.signed]; omega
        have hvr := Hv2.out.below (w1 := wr) (by rw [hbb]; exact hb2r)
        obtain ⟨y1, y2, y3⟩ := ledG_all Hg.out zs Hnum.out k hlt
        have hy3 : ((ledG M zs k).1 : Int) < 3 := by omega
        have Hi1 := Lib.hid (imK_succ M zs k)
        have Hs1 := Lib.hid (secK_succ M zs k)
        have Hil := Lib.hid (imK_len M zs k)
        have Hsl := Lib.hid (secK_len M zs k)
        have hltI := Lib.hid hI.lt
        have hltO := Lib.hid (fun q hq => (hO.lt q hq).2)
        have Hled := Lib.hid (fun W hW => l02Led_calls M L S Hg.out (.slice oa zs.length ca) zs Hnum.out (by omega) k hlt W hW)
        clear y1 y2 y3
        generalize (ledG M zs k).1 = y at *
        generalize (ledG M zs k).2 = nx at *
        generalize imK M zs k = ims at *
        generalize secK M zs k = secs at *
        go_wp2_with (first | (with_reducible show wpList _ _ _ _ _ _; refine wpList_load_blk rfl 29 (.tmp 2) rfl w.heap.size 0 rfl (mc M) _ (hB) 98 F2.out _ Try.underlying29 rfl size_mach ?_; rw [F1.out]) | (with_reducible show wpList _ _ _ _ _ _; refine wpList_load_blk rfl 29 (.tmp 8) rfl (b0 + 1 + 1) 0 rfl (mc (invM M L S)) _ hX 98 (by rw [HIs.out]; omega) _ Try.underlying29 rfl size_mach ?_; rw [HIc.out]) | (go_at_call 36; refine (Hled.out _ hvr).mono ?_; rintro e w5 ⟨v0, rfl, hO5, hb5⟩; obtain ⟨o5, c5, rfl, hq5⟩ := hO5.view; clear hq5; have hs5 := hb5.size; have hB6 := (hB.keptAll hb5).alloc (.cells #[.int .i64 (y : Int)] 2); have hX6 := (hX.keptAll hb5).alloc (.cells #[.int .i64 (y : Int)] 2); have hal6 : Below w5.heap.size w5 (w5.alloc (.cells #[.int .i64 (y : Int)] 2)) := (by (repeat (first | exact Below.refl _ _ | refine below_drew' ?_ | refine below_drewN' ?_ _ | refine below_alloc' ?_ _ | refine below_set' ?_ (by (try simp); (try omega)) _ | refine below_step ?_ (by assumption)))); have hI6 := (hI.below hb5).below hal6; have hS6 := (hO.below hb5).below hal6; have hU6 := (hO5.base_le hge).below hal6; have hbw6 := below_alloc' (below_step hbw hb5) (.cells #[.int .i64 (y : Int)] 2); have hb26 := below_allocB (below_stepB hb2r hge hb5) (by omega : b0 ≤ w5.heap.size) (.cells #[.int .i64 (y : Int)] 2)) | (at_builtin; refine wpList_push_int_at rfl (.tmp 40) (.tmp 43) rfl b0 _ ims rfl hI6 w5.heap.size 1 (y : Int) rfl (Blk.new w5 _ _) (by have := Hil.out; omega) (by simp; omega) ?_; intro v1 w7 hI7 hb7 hsp7 hat7; have hs7 := hb7.size; have hB8 := (hB6.kept hb7 (by omega)).alloc (.cells #[.slice o5 nx.length c5] 26); have hX8 := (hsp7.blk hX6 hI6).alloc (.cells #[.slice o5 nx.length c5] 26); have hal8 : Below w7.heap.size w7 (w7.alloc (.cells #[.slice o5 nx.length c5] 26)) := (by (repeat (first | exact Below.refl _ _ | refine below_drew' ?_ | refine below_drewN' ?_ _ | refine below_alloc' ?_ _ | refine below_set' ?_ (by (try simp); (try omega)) _ | refine below_step ?_ (by assumption)))); have hI8 := hI7.below hal8; have hS8 := (hS6.spared hsp7 (fun q h1 h2 => Hap.out q h2 h1)).below hal8; have hU8 := (hU6.spared hsp7 (fun q h1 h2 => by have q1 := hltI.out q h2; have q2 := (World.ownsRow.lt hO5 q h1).1; omega)).below hal8; have hbw8 := below_alloc' (hbw6.trans (below_le hb7 (by omega))) (.cells #[.slice o5 nx.length c5] 26); have hb28 := below_allocB (hb26.trans hb7) (by simp at hs7; omega : b0 ≤ w7.heap.size) (.cells #[.slice o5 nx.length c5] 26)) | (at_builtin; refine wpList_push_list rfl (.tmp 45) (.tmp 47) rfl b0 _ vs secs rfl hS8 w7.heap.size 1 (.slice o5 nx.length c5) nx rfl (Blk.new w7 _ _) hU8 (fun q h1 h2 => by have q1 := hltO.out q h2; have q2 := (World.ownsRow.lt hO5 q h1).1; omega) (by have := Hsl.out; omega) (by simp at hs7; simp; omega) ?_; intro v2 w9 hS9 hb9 hsp9 hat9; have hs9 := hb9.size))
        have hsz6 : (w5.alloc (.cells #[.int .i64 (y : Int)] 2)).heap.size = w5.heap.size + 1 := by simp
        have hsz8 : (w7.alloc (.cells #[.slice o5 nx.length c5] 26)).heap.size = w7.heap.size + 1 := by simp
        have hap9 := apart_step (v1 := v1) (v2 := v2) Hap.out hltI.out hltO.out (v5 := .slice o5 nx.length c5) (nr := wr.heap.size) (n6 := w5.heap.size + 1) (n8 := w7.heap.size + 1) (fun q hq => by have := World.ownsRow.lt hO5 q hq; omega) (by rw [hsz6] at hat7; exact hat7) (by rw [hsz8] at hat9; exact hat9) (by omega) (by omega)
        go_roundw
        case rel => exact ⟨k + 1, _, _, _, by omega, by go_num, rfl, rfl, ⟨hB8.kept hb9 (by omega), hsp9.blkL hX8 hS8⟩, by rw [Hi1.out]; exact hI8.spared hsp9 (fun q h1 h2 => by
          rcases hat7 with e | e
          · exact Hap.out q (e ▸ h1) (.inl h2)
          · rw [e, hsz6] at h1; cases h1; have := hltO.out _ (.inl h2); omega), by rw [Hs1.out]; exact hS9, Lib.hid hap9, by omega, hb28.trans hb9, hbw8.trans (below_le hb9 (by omega))⟩
        case measure => simp [intOf] <;> omega
      · obtain rfl : k = L := by omega
        go_wp2
        go_ret3
        exact ⟨_, _, vs, ret_vvi Hc.out.symm, by rw [Hr.out.1]; exact hI.base_le (by omega), by rw [Hr.out.2]; exact hO.base_le (by omega), Hap.out, hbw⟩
end Go.Proofs.Yticnplcjjkilpaa
