/- 'ReturnOf': the program. -/
import Derived.Test.YticnpajbefflbacRtB
namespace Go.Proofs.Yticnpajbefflbac
open Go.RowKit

/-- What the search's closure answers. -/
def RtPost (M : Mach) (L S : Nat) (zs : List Int) (x : Nat) (e : Ending) (w w' : World) : Prop :=
  ((cyN (imN M zs) x * zs.length ≤ 40 → ∃ u, e = .returned u ∧ OwnI w' w.heap.size u (normK M L S (rdK M zs x (cyN (imN M zs) x)) (rdK M zs x (cyN (imN M zs) x)).length)) ∧
      (40 < cyN (imN M zs) x * zs.length → e = gaveUp 3)) ∧ Below w.heap.size w w'

set_option maxRecDepth 100000 in
set_option maxHeartbeats 2000000 in
theorem retClosure_calls (M : Mach) (L S : Nat) (hg : Good M L S) (zs : List Int) (hz : numsOk S zs = true) (h40 : zs.length ≤ 40) (x : Nat) (hx : x < L) (bm b1 b2 bc bs : Nat) (c v2 : Value) (vs : List Value) (w : World)
    (hM : Blk w bm (mc M) 29) (h1 : Blk w b1 #[c] 68) (h2 : Blk w b2 #[v2] 63) (hC : OwnN w bc c (cyL (imN M zs) x (cyN (imN M zs) x))) (hS : OwnLV w bs v2 vs (secK M zs L)) :
    Calls Try.prog 37 #[.pointer (some ⟨bm, 0, none⟩), .pointer (some ⟨b1, 0, none⟩), .pointer (some ⟨b2, 0, none⟩)] w fun e w' => RtPost M L S zs x e w w' := by
  have hok := hg.ok
  have F1 : Hid (cut (mc M) 0 98 = mc M) := Lib.hid (cut_all _ _ (mc_size hok)); have F2 : Hid (0 + 98 ≤ (mc M).size) := Lib.hid (by rw [mc_size hok]; omega)
  have hbw0 : Below w.heap.size w w.drew := (Below.refl _ _).drew
  have HC := Lib.hid (hC.below hbw0)
  have HS := Lib.hid (hS.below hbw0)
  clear hC hS
  go_enter Try.func37, Try.ntmps37
  go_wp2
  refine wp_region_held_drew (S := fun W => Blk W bm (mc M) 29 ∧ Blk W b1 #[c] 68 ∧ Blk W b2 #[v2] 63) (by kernel_rfl) ⟨hM.drew, h1.drew, h2.drew⟩ (fun hS0 => ?_)
  (refine hK_load 0 rfl (by kernel_rfl) (by kernel_rfl) (by kernel_rfl) 29 _ rfl (bm) 0 rfl (mc M) _ (fun W hW => hW.1) 98 (F2.out) _ Try.underlying29 rfl size_mach _ (F1.out) (fun _ _ _ h => h) rfl hS0 ?_; (intro K hK; go_simp; refine hK _ ?_; clear hK K))
  refine hK_take 2 c rfl (by kernel_rfl) (by kernel_rfl) (by kernel_rfl) (fun _ _ _ h => h) rfl (fun W hW => by have := hW.2.1.cell 0; simp at this; simp [go_sem, this]) hS0 ?_; (intro K hK; go_simp; refine hK _ ?_; clear hK K)
  refine hK_take 3 v2 rfl (by kernel_rfl) (by kernel_rfl) (by kernel_rfl) (fun _ _ _ h => h) rfl (fun W hW => by have := hW.2.2.cell 0; simp at this; simp [go_sem, this]) hS0 ?_; (intro K hK; go_simp; refine hK _ ?_; clear hK K)
  (refine wpAnyH_ready (rs := [1]) (by kernel_rfl) (by simp) ?_; refine AllReadyH.cons rfl (fun K hK => ?_) AllReadyH.nil); go_simp; refine (newOrderSearch_calls M L S hg _).mono ?_; rintro e w3 ⟨g, rfl, hg3, hG3, hb3⟩; have hC3 := HC.out.below hb3; have hS3 := HS.out.below hb3; have hbw3 := below_step hbw0 hb3
  have hS1 : Blk w3 bm (mc M) 29 ∧ Blk w3 b1 #[c] 68 ∧ Blk w3 b2 #[v2] 63 := ⟨hS0.1.keptAll hb3, hS0.2.1.keptAll hb3, hS0.2.2.keptAll hb3⟩
  (go_simp; refine hK.out _ _ (hS1) (fun hS2 => ?_); clear hK K)
  have hsz := hbw3.size
  by_cases h4 : cyN (imN M zs) x * zs.length ≤ 40
  · (refine wpAnyH_ready (rs := [4]) (by kernel_rfl) (by simp) ?_; refine AllReadyH.cons rfl (fun K hK => ?_) AllReadyH.nil); go_simp; refine (returnBy_calls M L S hg zs hz h40 x hx g _ _ c v2 vs _ hG3 hC3 hS3).mono ?_; rintro e w4 ⟨⟨hp1, hp2⟩, hb4⟩; obtain ⟨u, rfl, hO4⟩ := hp1 h4; have hbw4 := below_step hbw3 hb4
    have hS4 : Blk w4 bm (mc M) 29 ∧ Blk w4 b1 #[c] 68 ∧ Blk w4 b2 #[v2] 63 := ⟨hS2.1.keptAll hb4, hS2.2.1.keptAll hb4, hS2.2.2.keptAll hb4⟩
    (go_simp; refine hK.out _ _ (hS4) (fun hS5 => ?_); clear hK K)
    (refine hK_take 5 (u) rfl (by kernel_rfl) (by kernel_rfl) (by kernel_rfl) (fun _ _ _ h => h) rfl (fun W _ => by go_simp) hS5 ?_; (intro K hK; go_simp; refine hK _ ?_; clear hK K))
    refine wpAnyH_done (by kernel_rfl) ?_ _
    go_wp2
    go_ret
    exact ⟨⟨fun _ => ⟨_, rfl, hO4.base_le hsz⟩, fun h => absurd h (by omega)⟩, hbw4⟩
  · (refine wpAnyH_ready (rs := [4]) (by kernel_rfl) (by simp) ?_; refine AllReadyH.cons rfl (fun K hK => ?_) AllReadyH.nil); go_simp; refine (returnBy_calls M L S hg zs hz h40 x hx g _ _ c v2 vs _ hG3 hC3 hS3).mono ?_; rintro e w4 ⟨⟨hp1, hp2⟩, hb4⟩; have he := hp2 (by omega); unfold gaveUp at he; subst he; have hbw4 := below_step hbw3 hb4
    exact ⟨rfl, ⟨fun h => absurd h h4, fun _ => rfl⟩, hbw4⟩

theorem ret_vij {v : Value} {a b i j : Int} (h : a = b) (h' : i = j) : Ending.returned (.tuple #[v, .int .i64 a, .int .i64 i]) = Ending.returned (.tuple #[v, .int .i64 b, .int .i64 j]) := by rw [h, h']
theorem run_func (f : FuncId) (fn : Func) (hf : Try.prog.funcs[f]? = some fn) (hn : (fn.name == "runtime.NumGoroutine") = false) (hb : fn.body.isNone = false) (args : Array Value) (w : World) : (callFunc f args).run Try.prog w = .ok (.enter f args) w := by
  have h1 : ¬ fn.name = "runtime.NumGoroutine" := by simpa using hn
  have h2 : ¬ fn.body = none := fun e => by simp [e] at hb
  simp [callFunc, hf, h1, h2]

def rtD (M : Mach) (L S : Nat) (zs : List Int) (x : Nat) : List Int := if 40 < cyN (imN M zs) x * zs.length then [] else normK M L S (rdK M zs x (cyN (imN M zs) x)) (rdK M zs x (cyN (imN M zs) x)).length
def rtE (M : Mach) (zs : List Int) (x : Nat) : Int := if 40 < cyN (imN M zs) x * zs.length then 3 else 0

set_option maxRecDepth 100000 in
theorem doorReturn_calls (M : Mach) (L S : Nat) (hg : Good M L S) (zs : List Int) (hz : numsOk S zs = true) (h40 : zs.length ≤ 40) (x : Nat) (hx : x < L) (bm b1 b2 bc bs : Nat) (c v2 : Value) (vs : List Value) (w : World)
    (hM : Blk w bm (mc M) 29) (h1 : Blk w b1 #[c] 68) (h2 : Blk w b2 #[v2] 63) (hC : OwnN w bc c (cyL (imN M zs) x (cyN (imN M zs) x))) (hS : OwnLV w bs v2 vs (secK M zs L)) :
    Calls Try.prog 36 #[.func (.func 37) #[] #[.pointer (some ⟨bm, 0, none⟩), .pointer (some ⟨b1, 0, none⟩), .pointer (some ⟨b2, 0, none⟩)]] w fun e w' =>
      ∃ u, e = .returned (.tuple #[u, .int .i64 (rtE M zs x)]) ∧ OwnI w' w.heap.size u (rtD M L S zs x) ∧ Below w.heap.size w w' := by
  have hcf : ∀ w : World, (callFunc 37 #[.pointer (some ⟨bm, 0, none⟩), .pointer (some ⟨b1, 0, none⟩), .pointer (some ⟨b2, 0, none⟩)]).run Try.prog w = .ok (.enter 37 #[.pointer (some ⟨bm, 0, none⟩), .pointer (some ⟨b1, 0, none⟩), .pointer (some ⟨b2, 0, none⟩)]) w :=
    run_func _ _ Try.func37 (by kernel_rfl) (by kernel_rfl) _
  have hbA : Below w.heap.size w (w.alloc (.cells #[.int .i64 0] 2)) := by (repeat (first | exact Below.refl _ _ | refine below_drew' ?_ | refine below_drewN' ?_ _ | refine below_alloc' ?_ _ | refine below_set' ?_ (by (try simp); (try omega)) _ | refine below_step ?_ (by assumption)))
  have hsA : (w.alloc (.cells #[.int .i64 0] 2)).heap.size = w.heap.size + 1 := by simp
  have H := retClosure_calls M L S hg zs hz h40 x hx bm b1 b2 bc bs c v2 vs _ (hM.keptAll hbA) (h1.keptAll hbA) (h2.keptAll hbA) (hC.below hbA) (hS.below hbA)
  unfold RtPost at H
  rw [hsA] at H
  have fin : ∀ (u : Value) (w2 : World) (zs' : List Int) (r : Int), OwnI w2 (w.heap.size + 1) u zs' → OwnI (w2.setCell ⟨w.heap.size, 0, none⟩ (.int .i64 r)) w.heap.size u zs' := fun u w2 zs' r ho =>
    OwnI.base_le (owns_same ho fun k hk => by
      have hge := (World.ownsRow.lt ho k hk).1
      simp only [World.setCell, Array.getElem?_modify]
      rw [if_neg (by omega)]) (by omega)
  by_cases h4 : cyN (imN M zs) x * zs.length ≤ 40
  · have e1 : rtE M zs x = 0 := by unfold rtE; rw [if_neg (by omega)]
    have e2 : rtD M L S zs x = normK M L S (rdK M zs x (cyN (imN M zs) x)) (rdK M zs x (cyN (imN M zs) x)).length := by unfold rtD; rw [if_neg (by omega)]
    rw [e1, e2]
    refine (behindDoor_ok _ _ w (fun u w2 => OwnI w2 (w.heap.size + 1) u (normK M L S (rdK M zs x (cyN (imN M zs) x)) (rdK M zs x (cyN (imN M zs) x)).length)) hcf (H.mono fun e w' h => ?_)).mono fun e w' h => ?_
    · obtain ⟨⟨p1, _⟩, hb⟩ := h
      obtain ⟨u, he, ho⟩ := p1 h4
      exact ⟨u, he, ho, hb⟩
    · obtain ⟨u, w2, he, ho, hb, rfl⟩ := h
      exact ⟨u, he, fin u w2 _ _ ho, below_set' (hbA.trans (below_le hb (by omega))) (Nat.le_refl _) _⟩
  · have e1 : rtE M zs x = 3 := by unfold rtE; rw [if_pos (by omega)]
    have e2 : rtD M L S zs x = [] := by unfold rtD; rw [if_pos (by omega)]
    rw [e1, e2]
    refine (behindDoor_up _ _ w 3 (fun _ => True) hcf (H.mono fun e w' h => ?_)).mono fun e w' h => ?_
    · obtain ⟨⟨_, p2⟩, hb⟩ := h
      exact ⟨p2 (by omega), trivial, hb⟩
    · obtain ⟨w2, he, _, hb, rfl⟩ := h
      exact ⟨_, he, OwnI.nil _ _, below_set' (hbA.trans (below_le hb (by omega))) (Nat.le_refl _) _⟩

set_option maxRecDepth 100000 in
set_option maxHeartbeats 2000000 in
theorem iReturnOf_calls (M : Mach) (hok : M.Ok) (v : Value) (zs : List Int) (x : Int) (w : World) (hv : SeesI w v zs) :
    Calls Try.prog 12 #[.agg (mc M), v, .int .i64 x] w fun e w' => ∃ v1, e = .returned (.tuple #[v1, .int .i64 (rtN M zs x), .int .i64 (rtC M zs x)]) ∧ OwnI w' w.heap.size v1 (rtW M zs x) ∧ Below w.heap.size w w' := by
  have F1 : Hid (cut (mc M) 0 98 = mc M) := Lib.hid (cut_all _ _ (mc_size hok)); have F2 : Hid (0 + 98 ≤ (mc M).size) := Lib.hid (by rw [mc_size hok]; omega)
  have hB : Blk (w.alloc (.cells (mc M) 29)) w.heap.size (mc M) 29 := Blk.new w _ _
  have hvB := hv.below (w1 := w.alloc (.cells (mc M) 29)) (by (repeat (first | exact Below.refl _ _ | refine below_drew' ?_ | refine below_drewN' ?_ _ | refine below_alloc' ?_ _ | refine below_set' ?_ (by (try simp); (try omega)) _ | refine below_step ?_ (by assumption))))
  have hbw0 : Below w.heap.size w (w.alloc (.cells (mc M) 29)) := by (repeat (first | exact Below.refl _ _ | refine below_drew' ?_ | refine below_drewN' ?_ _ | refine below_alloc' ?_ _ | refine below_set' ?_ (by (try simp); (try omega)) _ | refine below_step ?_ (by assumption)))
  clear hv
  cases hm : isGrp M zs
  · have Hc : Hid (rtC M zs x = 1) := Lib.hid (by simp [rtC, hm])
    have Hn : Hid (rtN M zs x = 0) := Lib.hid (by simp [rtN, rtC, hm])
    have Hw : Hid (rtW M zs x = []) := Lib.hid (by simp [rtW, rtC, hm])
    go_enter Try.func12, Try.ntmps12
    go_wp2_with (first | (with_reducible show wpList _ _ _ _ _ _; refine wpList_load_blk rfl 29 (.tmp 3) rfl w.heap.size 0 rfl (mc M) _ (hB) 98 F2.out _ Try.underlying29 rfl size_mach ?_; rw [F1.out]) | (go_at_call 33; refine (IsGroupWord_calls M hok _ zs _ hvB).mono ?_; rintro e w1 ⟨rfl, hb1⟩; rw [hm]))
    go_ret3
    exact ⟨_, ret_vij Hn.out.symm Hc.out.symm, by rw [Hw.out]; exact OwnI.nil _ _, by (repeat (first | exact Below.refl _ _ | refine below_drew' ?_ | refine below_drewN' ?_ _ | refine below_alloc' ?_ _ | refine below_set' ?_ (by (try simp); (try omega)) _ | refine below_step ?_ (by assumption)))⟩
  · obtain ⟨L, S, hg⟩ := Good.of hok (isGrp_parts hm).1
    have hL := hg.hL
    have hcL := mc_L M
    rw [hL] at hcL
    by_cases hr : 0 ≤ x ∧ x < (L : Int)
    · obtain ⟨n, rfl⟩ := Int.eq_ofNat_of_zero_le hr.1
      have hx : n < L := by omega
      have hL3 := hg.L3
      have hnum := nums_of hg hm
      have hln := isGrp_len hm
      have Hnum := Lib.hid hnum
      have Hg := Lib.hid hg
      obtain ⟨n1, n3⟩ := cyN_bd (imN M zs) n
      have hcl := cyL_len (imN M zs) n (cyN (imN M zs) n)
      have hw8 : IntKind.u8.wrap (n : Int) = (n : Int) := by simp [IntKind.wrap, IntKind.bits, IntKind.signed]; omega
      have HE : Hid (rtC M zs n = rtE M zs n) := Lib.hid (by simp only [rtC, hm, if_true]; rw [if_pos (by rw [hL]; exact hr)]; rfl)
      have HD : Hid (rtW M zs n = rtD M L S zs n) := Lib.hid (by
        unfold rtW
        rw [HE.out, hL, hg.hS]
        unfold rtE rtD
        by_cases h : 40 < cyN (imN M zs) n * zs.length
        · rw [if_pos h, if_pos h, if_neg (by decide)]
        · rw [if_neg h, if_neg h, if_pos rfl]; simp)
      have hz3 := zero_b3
      have Hz3 : Hid ((c8 zer3).size = 3) := Lib.hid (by rw [c8_size]; rfl)
      have Hcs : Hid ((c8 (imP M zs 3 L)).size = 3) := Lib.hid (by rw [c8_size, imP_len])
      have Hov : Hid (over (c8 zer3) 0 (c8 (imP M zs 3 L)) = c8 (imP M zs 3 L)) := Lib.hid (over_all _ _ (by rw [Hcs.out, Hz3.out]))
      have Hcu : Hid (cut (c8 (imP M zs 3 L)) 0 3 = c8 (imP M zs 3 L)) := Lib.hid (cut_all _ _ Hcs.out)
      have h0 : ¬ ((n : Int) < 0) := by omega
      have h1 : ¬ ((L : Int) ≤ n) := by omega
      have hmf : ∀ (fn : Fn) (first cap : Array Value) (w : World), (Instr.makeFunc fn first cap).run Try.prog w = .ok (.func fn first cap) w := fun _ _ _ _ => rfl
      clear hnum hg hr
      by_cases h4 : 40 < cyN (imN M zs) n * zs.length
      · have Hr : Hid (rtE M zs n = 3) := Lib.hid (by unfold rtE; rw [if_pos h4])
        have Hn : Hid (rtN M zs n = 0) := Lib.hid (by unfold rtN; rw [HE.out, Hr.out]; rfl)
        go_enter Try.func12, Try.ntmps12
        go_wp2_with (first | (with_reducible show wpList _ _ _ _ _ _; refine wpList_load_blk rfl 29 (.tmp 3) rfl w.heap.size 0 rfl (mc M) _ (hB) 98 F2.out _ Try.underlying29 rfl size_mach ?_; rw [F1.out]) | (go_at_call 33; refine (IsGroupWord_calls M hok _ zs _ hvB).mono ?_; rintro e w1 ⟨rfl, hb1⟩; rw [hm]; have hB1 := hB.keptAll hb1; have hv1 := hvB.below hb1; have hbw1 := below_step hbw0 hb1; have c1 := hB1.cell 0; rw [hcL] at c1) | (go_at_call 34; refine (wreath_calls M L S Hg.out w.heap.size _ zs Hnum.out (by omega) _ hB1.mat hv1).mono ?_; rintro e w2 ⟨v2, vs, rfl, hO2, hb2⟩; obtain ⟨oa2, ca2, rfl, _⟩ := hO2.view; have hB2 := hB1.keptAll hb2; have hlt2 := hB2.lt; have hB3 := (hB2.alloc (.cells (c8 zer3) 22)).alloc (.cells #[.slice none 0 0] 63); have hb23 : Below w2.heap.size w2 ((w2.alloc (.cells (c8 zer3) 22)).alloc (.cells #[.slice none 0 0] 63)) := (by (repeat (first | exact Below.refl _ _ | refine below_drew' ?_ | refine below_drewN' ?_ _ | refine below_alloc' ?_ _ | refine below_set' ?_ (by (try simp); (try omega)) _ | refine below_step ?_ (by assumption)))); have hO3 := hO2.below hb23; have hbw3 := below_step (below_step hbw1 hb2) hb23; have hX3 : Blk ((w2.alloc (.cells (c8 zer3) 22)).alloc (.cells #[.slice none 0 0] 63)) w2.heap.size (c8 zer3) 22 := (Blk.new _ _ _).alloc _; have hY3 : Blk ((w2.alloc (.cells (c8 zer3) 22)).alloc (.cells #[.slice none 0 0] 63)) (w2.heap.size + 1) #[.slice none 0 0] 63 := Blk.new_at _ _ _ _ (by simp)) | (with_reducible show wpList _ _ _ _ _ _; refine wpList_store_row rfl 22 _ _ rfl w2.heap.size 0 (c8 (imP M zs 3 L)) rfl rfl _ _ hX3 (by rw [Hz3.out, Hcs.out]; omega) (by rw [Hcs.out]; exact size_b3) (c8_one _) _ Hov.out ?_; intro w4 hs4; have hB4 := hs4.keep (by omega) hB3; have hX4 := hs4.blk; have hY4 := hs4.keep (by omega) hY3; have hO4 := hO3.same (fun q hq => hs4.other q (by have := (hO2.lt q hq).2; omega)); have hbw4 := hs4.below _ _ (by omega) hbw3; have hz4 := hs4.size; have cY := hY4.cell 0; have fY := hY4.free; simp at cY; have hsz4 : w2.heap.size + 2 ≤ w4.heap.size := (by rw [hz4]; simp); clear hz4; have hB5 := hB4.setOther (w2.heap.size + 1) 0 (.slice oa2 (secK M zs L).length ca2) (by omega); have hX5 := hX4.setOther (w2.heap.size + 1) 0 (.slice oa2 (secK M zs L).length ca2) (by omega); have hY5 : Blk (w4.setCell ⟨w2.heap.size + 1, 0, none⟩ (.slice oa2 (secK M zs L).length ca2)) (w2.heap.size + 1) #[(.slice oa2 (secK M zs L).length ca2)] 63 := (by have := hY4.set 0 (.slice oa2 (secK M zs L).length ca2); simpa using this); have hO5 : OwnLV (w4.setCell ⟨w2.heap.size + 1, 0, none⟩ (.slice oa2 (secK M zs L).length ca2)) _ _ _ _ := hO4.same (fun q hq => (by have := (hO2.lt q hq).2; simp only [World.setCell, Array.getElem?_modify]; rw [if_neg (by omega)])); have hbw5 : Below w.heap.size w (w4.setCell ⟨w2.heap.size + 1, 0, none⟩ (.slice oa2 (secK M zs L).length ca2)) := below_set' hbw4 (by omega) (.slice oa2 (secK M zs L).length ca2); clear hB4 hX4 hY4 hO4 hbw4 hX3 hY3 hB3 hO3 hbw3) | (with_reducible show wpList _ _ _ _ _ _; refine wpList_load_blk rfl 22 (.tmp 9) rfl w2.heap.size 0 rfl (c8 (imP M zs 3 L)) _ hX5 3 (by rw [Hcs.out]; omega) _ Try.underlying22 rfl size_b3 ?_; rw [Hcu.out]) | (go_at_call 35; refine (cycleOf_calls M L S Hg.out zs Hnum.out n hx _).mono ?_; rintro e w6 ⟨cv, rfl, hC6, hb6⟩; obtain ⟨gc, cc, cur, rfl, _, _, _⟩ := hC6.view (by rw [hcl]; omega); rw [hcl] at hC6; rw [hcl]; have hb67 : Below w6.heap.size w6 (w6.alloc (.cells #[(.slice (some ⟨gc, 0, none⟩) (cyN (imN M zs) n) cc)] 68)) := below_alloc' (Below.refl _ _) _; have hB7 := (hB5.keptAll hb6).keptAll hb67; have hY7 := (hY5.keptAll hb6).keptAll hb67; have hC7 := hC6.below hb67; have hO7 := (hO5.below hb6).below hb67; have hD7 : Blk (w6.alloc (.cells #[(.slice (some ⟨gc, 0, none⟩) (cyN (imN M zs) n) cc)] 68)) w6.heap.size #[(.slice (some ⟨gc, 0, none⟩) (cyN (imN M zs) n) cc)] 68 := Blk.new _ _ _; have hbw7 := below_step (below_step hbw5 hb6) hb67; have HDoor := Lib.hid (doorReturn_calls M L S Hg.out zs Hnum.out hln n hx w.heap.size w6.heap.size (w2.heap.size + 1) _ _ _ _ vs _ hB7 hD7 hY7 hC7 hO7)) | (go_at_call 36; refine HDoor.out.mono ?_; rintro e w8 ⟨u, rfl, hU, hb8⟩; rw [Hr.out]; have hD8 := hD7.keptAll hb8; have hbw8 := below_step hbw7 hb8; have cD := hD8.cell 0; simp at cD))
        go_ret3
        exact ⟨_, ret_vij Hn.out.symm (HE.out.trans Hr.out).symm, by rw [HD.out]; unfold rtD; rw [if_pos h4]; exact OwnI.nil _ _, hbw8⟩
      · have Hr : Hid (rtE M zs n = 0) := Lib.hid (by unfold rtE; rw [if_neg h4])
        have Hn : Hid (rtN M zs n = (cyN (imN M zs) n : Int)) := Lib.hid (by unfold rtN; rw [HE.out, Hr.out]; rfl)
        go_enter Try.func12, Try.ntmps12
        go_wp2_with (first | (with_reducible show wpList _ _ _ _ _ _; refine wpList_load_blk rfl 29 (.tmp 3) rfl w.heap.size 0 rfl (mc M) _ (hB) 98 F2.out _ Try.underlying29 rfl size_mach ?_; rw [F1.out]) | (go_at_call 33; refine (IsGroupWord_calls M hok _ zs _ hvB).mono ?_; rintro e w1 ⟨rfl, hb1⟩; rw [hm]; have hB1 := hB.keptAll hb1; have hv1 := hvB.below hb1; have hbw1 := below_step hbw0 hb1; have c1 := hB1.cell 0; rw [hcL] at c1) | (go_at_call 34; refine (wreath_calls M L S Hg.out w.heap.size _ zs Hnum.out (by omega) _ hB1.mat hv1).mono ?_; rintro e w2 ⟨v2, vs, rfl, hO2, hb2⟩; obtain ⟨oa2, ca2, rfl, _⟩ := hO2.view; have hB2 := hB1.keptAll hb2; have hlt2 := hB2.lt; have hB3 := (hB2.alloc (.cells (c8 zer3) 22)).alloc (.cells #[.slice none 0 0] 63); have hb23 : Below w2.heap.size w2 ((w2.alloc (.cells (c8 zer3) 22)).alloc (.cells #[.slice none 0 0] 63)) := (by (repeat (first | exact Below.refl _ _ | refine below_drew' ?_ | refine below_drewN' ?_ _ | refine below_alloc' ?_ _ | refine below_set' ?_ (by (try simp); (try omega)) _ | refine below_step ?_ (by assumption)))); have hO3 := hO2.below hb23; have hbw3 := below_step (below_step hbw1 hb2) hb23; have hX3 : Blk ((w2.alloc (.cells (c8 zer3) 22)).alloc (.cells #[.slice none 0 0] 63)) w2.heap.size (c8 zer3) 22 := (Blk.new _ _ _).alloc _; have hY3 : Blk ((w2.alloc (.cells (c8 zer3) 22)).alloc (.cells #[.slice none 0 0] 63)) (w2.heap.size + 1) #[.slice none 0 0] 63 := Blk.new_at _ _ _ _ (by simp)) | (with_reducible show wpList _ _ _ _ _ _; refine wpList_store_row rfl 22 _ _ rfl w2.heap.size 0 (c8 (imP M zs 3 L)) rfl rfl _ _ hX3 (by rw [Hz3.out, Hcs.out]; omega) (by rw [Hcs.out]; exact size_b3) (c8_one _) _ Hov.out ?_; intro w4 hs4; have hB4 := hs4.keep (by omega) hB3; have hX4 := hs4.blk; have hY4 := hs4.keep (by omega) hY3; have hO4 := hO3.same (fun q hq => hs4.other q (by have := (hO2.lt q hq).2; omega)); have hbw4 := hs4.below _ _ (by omega) hbw3; have hz4 := hs4.size; have cY := hY4.cell 0; have fY := hY4.free; simp at cY; have hsz4 : w2.heap.size + 2 ≤ w4.heap.size := (by rw [hz4]; simp); clear hz4; have hB5 := hB4.setOther (w2.heap.size + 1) 0 (.slice oa2 (secK M zs L).length ca2) (by omega); have hX5 := hX4.setOther (w2.heap.size + 1) 0 (.slice oa2 (secK M zs L).length ca2) (by omega); have hY5 : Blk (w4.setCell ⟨w2.heap.size + 1, 0, none⟩ (.slice oa2 (secK M zs L).length ca2)) (w2.heap.size + 1) #[(.slice oa2 (secK M zs L).length ca2)] 63 := (by have := hY4.set 0 (.slice oa2 (secK M zs L).length ca2); simpa using this); have hO5 : OwnLV (w4.setCell ⟨w2.heap.size + 1, 0, none⟩ (.slice oa2 (secK M zs L).length ca2)) _ _ _ _ := hO4.same (fun q hq => (by have := (hO2.lt q hq).2; simp only [World.setCell, Array.getElem?_modify]; rw [if_neg (by omega)])); have hbw5 : Below w.heap.size w (w4.setCell ⟨w2.heap.size + 1, 0, none⟩ (.slice oa2 (secK M zs L).length ca2)) := below_set' hbw4 (by omega) (.slice oa2 (secK M zs L).length ca2); clear hB4 hX4 hY4 hO4 hbw4 hX3 hY3 hB3 hO3 hbw3) | (with_reducible show wpList _ _ _ _ _ _; refine wpList_load_blk rfl 22 (.tmp 9) rfl w2.heap.size 0 rfl (c8 (imP M zs 3 L)) _ hX5 3 (by rw [Hcs.out]; omega) _ Try.underlying22 rfl size_b3 ?_; rw [Hcu.out]) | (go_at_call 35; refine (cycleOf_calls M L S Hg.out zs Hnum.out n hx _).mono ?_; rintro e w6 ⟨cv, rfl, hC6, hb6⟩; obtain ⟨gc, cc, cur, rfl, _, _, _⟩ := hC6.view (by rw [hcl]; omega); rw [hcl] at hC6; rw [hcl]; have hb67 : Below w6.heap.size w6 (w6.alloc (.cells #[(.slice (some ⟨gc, 0, none⟩) (cyN (imN M zs) n) cc)] 68)) := below_alloc' (Below.refl _ _) _; have hB7 := (hB5.keptAll hb6).keptAll hb67; have hY7 := (hY5.keptAll hb6).keptAll hb67; have hC7 := hC6.below hb67; have hO7 := (hO5.below hb6).below hb67; have hD7 : Blk (w6.alloc (.cells #[(.slice (some ⟨gc, 0, none⟩) (cyN (imN M zs) n) cc)] 68)) w6.heap.size #[(.slice (some ⟨gc, 0, none⟩) (cyN (imN M zs) n) cc)] 68 := Blk.new _ _ _; have hbw7 := below_step (below_step hbw5 hb6) hb67; have HDoor := Lib.hid (doorReturn_calls M L S Hg.out zs Hnum.out hln n hx w.heap.size w6.heap.size (w2.heap.size + 1) _ _ _ _ vs _ hB7 hD7 hY7 hC7 hO7)) | (go_at_call 36; refine HDoor.out.mono ?_; rintro e w8 ⟨u, rfl, hU, hb8⟩; rw [Hr.out]; have hD8 := hD7.keptAll hb8; have hbw8 := below_step hbw7 hb8; have cD := hD8.cell 0; simp at cD))
        have hsz7 := hbw7.size
        go_quiet (fail)
        go_wp2
        go_ret3
        exact ⟨_, ret_vij Hn.out.symm (HE.out.trans Hr.out).symm, by rw [HD.out]; exact (hU.below (w1 := w8.drewN nq) (Go.Joins.below_draws _ _ nq)).base_le hsz7, below_drewN' hbw8 nq⟩
    · have Hc : Hid (rtC M zs x = 2) := Lib.hid (by simp only [rtC, hm, if_true]; rw [if_neg (by rw [hL]; exact hr)])
      have Hn : Hid (rtN M zs x = 0) := Lib.hid (by unfold rtN; rw [Hc.out]; rfl)
      have Hw : Hid (rtW M zs x = []) := Lib.hid (by unfold rtW; rw [Hc.out]; rfl)
      by_cases h0 : x < 0
      · go_enter Try.func12, Try.ntmps12
        go_wp2_with (first | (with_reducible show wpList _ _ _ _ _ _; refine wpList_load_blk rfl 29 (.tmp 3) rfl w.heap.size 0 rfl (mc M) _ (hB) 98 F2.out _ Try.underlying29 rfl size_mach ?_; rw [F1.out]) | (go_at_call 33; refine (IsGroupWord_calls M hok _ zs _ hvB).mono ?_; rintro e w1 ⟨rfl, hb1⟩; rw [hm]))
        go_ret3
        exact ⟨_, ret_vij Hn.out.symm Hc.out.symm, by rw [Hw.out]; exact OwnI.nil _ _, by (repeat (first | exact Below.refl _ _ | refine below_drew' ?_ | refine below_drewN' ?_ _ | refine below_alloc' ?_ _ | refine below_set' ?_ (by (try simp); (try omega)) _ | refine below_step ?_ (by assumption)))⟩
      · have h1 : (L : Int) ≤ x := by omega
        go_enter Try.func12, Try.ntmps12
        go_wp2_with (first | (with_reducible show wpList _ _ _ _ _ _; refine wpList_load_blk rfl 29 (.tmp 3) rfl w.heap.size 0 rfl (mc M) _ (hB) 98 F2.out _ Try.underlying29 rfl size_mach ?_; rw [F1.out]) | (go_at_call 33; refine (IsGroupWord_calls M hok _ zs _ hvB).mono ?_; rintro e w1 ⟨rfl, hb1⟩; rw [hm]; have hB1 := hB.keptAll hb1; have c1 := hB1.cell 0; rw [hcL] at c1))
        go_ret3
        exact ⟨_, ret_vij Hn.out.symm Hc.out.symm, by rw [Hw.out]; exact OwnI.nil _ _, by (repeat (first | exact Below.refl _ _ | refine below_drew' ?_ | refine below_drewN' ?_ _ | refine below_alloc' ?_ _ | refine below_set' ?_ (by (try simp); (try omega)) _ | refine below_step ?_ (by assumption)))⟩
end Go.Proofs.Yticnpajbefflbac
