/- Trees of words: 'treeOf'. -/
import Derived.Test.YticnpajbefflbabTrP
namespace Go.Proofs.Yticnpajbefflbab
open Go.RowKit

theorem made_ptrs (n : Nat) : madeCells (Value.pointer none).cells n = nodesC n [] [] := by
  rw [nodesC_nil]
  apply Array.ext
  · simp [madeCells, Value.cells]
  · intro i h1 h2
    simp [madeCells, Value.cells, Nat.mod_one]
theorem mk_ptrs (n : Nat) (hn : n ≤ 1048576) (W : World) : (Instr.makeSlice 61 (.int .i64 n) (.int .i64 n)).run Try.prog W = .ok (.slice (some ⟨W.heap.size, 0, none⟩) n n) (W.alloc (.cells (nodesC n [] []) 66)) := by
  obtain ⟨i0, hi, hz0, hz1, hz2⟩ := info_parts info_nodeP
  have := run_make (P := Try.prog) W 61 66 i0 (.pointer none) Try.underlying61 hi hz0 .i64 .i64 n n (by omega) (by omega) (by rw [hz2]; omega) (by omega)
  rwa [hz1, Int.toNat_natCast, Nat.mul_one, made_ptrs] at this
theorem nodeC_new {T : List Ent} {bs : List Nat} {p : Int × List Int} {i nb pb : Nat} (hl : bs.length = T.length) (hi : i < T.length) (hb : bs[i]? = some pb) :
    nodeC (bs ++ [nb]) (T ++ [newE i T p]) T.length = #[.int .i64 (toN p (entAt T i).word : Nat), ptr pb, .int .i64 p.1, .int .i64 (((entAt T i).dist : Int) + 1)] := by
  unfold nodeC
  rw [entAt_last, if_neg (by omega)]
  simp only [newE]
  rw [List.getD_eq_getElem?_getD, List.getElem?_append_left (by omega), hb]
  rfl
theorem nodeC_first (k nb : Nat) : nodeC ([] ++ [nb]) ([] ++ [⟨k, 0, 0, 0⟩]) ([] : List Ent).length = #[.int .i64 k, .pointer none, .int .i64 0, .int .i64 0] := rfl
theorem nodeC_cells {T : List Ent} {bs : List Nat} {i : Nat} : (nodeC bs T i)[0]? = some (.int .i64 (entAt T i).word) ∧ (nodeC bs T i)[3]? = some (.int .i64 (entAt T i).dist) := ⟨rfl, rfl⟩
theorem build_tree (g n : Nat) : Try.prog.built 63 [(1, .slice (some ⟨g, 0, none⟩) n n)] = some #[.slice none 0 0, .slice (some ⟨g, 0, none⟩) n n] := by kernel_rfl
theorem build_node (k : Int) : Try.prog.built 68 [(0, .int .i64 k)] = some #[.int .i64 k, .pointer none, .int .i64 0, .int .i64 0] := by kernel_rfl
/-- A tree before its first word. -/
theorem TreeAt.start {w : World} {base t N gn : Nat} (ht : Blk w t #[.slice none 0 0, .slice (some ⟨gn, 0, none⟩) N N] 63) (hg : Blk w gn (nodesC N [] []) 66) (h1 : base ≤ t) (h2 : base ≤ gn) (h3 : t ≠ gn) : TreeAt w base t N [] [] gn (.slice none 0 0) :=
  ⟨ht, World.ownsRow_nil w base _ _, hg, rfl, fun i hi => absurd hi (by simp), ⟨by simp [wds], by simp, by simp, by simp, by simp⟩, h1, h2, by simp, h3, by simp [Value.ownBlock], by simp [Value.ownBlock], by simp, by simp, by simp⟩

theorem StAt.step {w : World} {B g : Nat} {v : Value} {ps : List (Int × List Int)} (h : StAt w B g v ps) : (∃ cap, v = .slice (some ⟨g, 0, none⟩) ps.length cap) ∧ g < w.heap.size ∧ ∀ j (hj : j < ps.length), ∃ o c, w.cell? ⟨g, j * 2, none⟩ = some (.int .i64 ps[j].1) ∧ w.cell? ⟨g, j * 2 + 1, none⟩ = some (.slice o ps[j].2.length c) ∧ SeesI w (.slice o ps[j].2.length c) ps[j].2 := by
  obtain ⟨g', cap', hv, _, hst⟩ := h.sees.steps
  obtain ⟨cap, us, h1, h2, h3, _⟩ := h
  rw [h2] at hv
  simp only [Value.slice.injEq, Option.some.injEq, Addr.mk.injEq] at hv
  obtain ⟨⟨rfl, _⟩, _⟩ := hv
  exact ⟨⟨cap, h2⟩, h3, hst⟩
set_option maxRecDepth 100000 in
set_option maxHeartbeats 1000000 in
theorem treeOf_calls (N k : Nat) (hN : N ≤ 1000) (hk : k < N) (fv bv : Value) (ps qs : List (Int × List Int)) (hok : TabsOk N (ps ++ qs)) (h0 : 0 < ps.length) (hp : ps.length ≤ 16) (hq : qs.length ≤ 16) (w : World) (hF : SeesSt w fv ps) (hB : SeesSt w bv qs) :
    Calls Try.prog 36 #[.agg (gra N fv bv), .int .i64 k] w fun x w' => ∃ t gn qv bs, x = .returned (.pointer (some ⟨t, 0, none⟩)) ∧ TreeAt w' w.heap.size t N (treeT (ps ++ qs) N k) bs gn qv ∧ Below w.heap.size w w' := by
  have hmk := mk_ptrs N (by omega)
  have hbt := build_tree
  have hbn := build_node
  have hbw1 : Below w.heap.size w (w.alloc (.cells (gra N fv bv) 53)) := by (repeat (first | exact Below.refl _ _ | refine below_drew' ?_ | refine below_drewN' ?_ _ | refine below_alloc' ?_ _ | refine below_set' ?_ (by (try simp); (try omega)) _ | refine below_step ?_ (by assumption)))
  have hX : Blk (w.alloc (.cells (gra N fv bv) 53)) w.heap.size (gra N fv bv) 53 := Blk.new _ _ _
  have cX := hX.cell 0
  rw [show (gra N fv bv)[0]? = some (.int .i64 (N : Int)) from rfl] at cX
  have HSt := Lib.hid (fun W hW => steps_calls N fv bv ps qs h0 (by omega) (by omega) w W hF hB hW)
  have hPl : (ps ++ qs).length ≤ 32 := by rw [List.length_append]; omega
  have hP0 : 0 < (ps ++ qs).length := by rw [List.length_append]; omega
  have Hgs : Hid ((gra N fv bv).size = 3) := Lib.hid rfl
  have Hgl : Hid (cut (gra N fv bv) 0 3 = gra N fv bv) := Lib.hid (cut_all _ _ rfl)
  have Hgsz : Hid ((Try.prog.info? 53).map (·.size) = some 3) := Lib.hid size_gr
  generalize hgr : gra N fv bv = gr at *
  generalize ps ++ qs = Ps at *
  clear hgr hp hq h0
  have hbw4 : Below w.heap.size w ((((w.alloc (.cells gr 53)).alloc (.cells (nodesC N [] []) 66)).alloc (.cells #[.slice none 0 0, .slice (some ⟨w.heap.size + 1, 0, none⟩) N N] 63)).alloc (.cells #[.int .i64 k, .pointer none, .int .i64 0, .int .i64 0] 68)) := by (repeat (first | exact Below.refl _ _ | refine below_drew' ?_ | refine below_drewN' ?_ _ | refine below_alloc' ?_ _ | refine below_set' ?_ (by (try simp); (try omega)) _ | refine below_step ?_ (by assumption)))
  have hX4 : Blk ((((w.alloc (.cells gr 53)).alloc (.cells (nodesC N [] []) 66)).alloc (.cells #[.slice none 0 0, .slice (some ⟨w.heap.size + 1, 0, none⟩) N N] 63)).alloc (.cells #[.int .i64 k, .pointer none, .int .i64 0, .int .i64 0] 68)) w.heap.size gr 53 := ((hX.alloc _).alloc _).alloc _
  have hT4 : TreeAt ((((w.alloc (.cells gr 53)).alloc (.cells (nodesC N [] []) 66)).alloc (.cells #[.slice none 0 0, .slice (some ⟨w.heap.size + 1, 0, none⟩) N N] 63)).alloc (.cells #[.int .i64 k, .pointer none, .int .i64 0, .int .i64 0] 68)) w.heap.size (w.heap.size + 2) N [] [] (w.heap.size + 1) (.slice none 0 0) :=
    .start ((Blk.new_at _ _ _ _ (by simp)).alloc _) (((Blk.new_at _ _ _ _ (by simp)).alloc _).alloc _) (by omega) (by omega) (by omega)
  have HP := Lib.hid (put_calls w.heap.size (w.heap.size + 2) N [] [] (w.heap.size + 1) (.slice none 0 0) ⟨k, 0, 0, 0⟩ (w.heap.size + 3) _ hbw4.size hT4 (TOk.first hk) (Blk.new_at _ _ _ _ (by simp)) (by omega) (by omega) (by omega) (by simp [Value.ownBlock]) hN)
  clear hT4
  have hs4 : ((((w.alloc (.cells gr 53)).alloc (.cells (nodesC N [] []) 66)).alloc (.cells #[.slice none 0 0, .slice (some ⟨w.heap.size + 1, 0, none⟩) N N] 63)).alloc (.cells #[.int .i64 k, .pointer none, .int .i64 0, .int .i64 0] 68)).heap.size = w.heap.size + 4 := by simp
  have HS4 := Lib.hid hs4
  have HX4 := Lib.hid hX4
  have HB4 := Lib.hid hbw4
  have HF := Lib.hid hF
  have HB := Lib.hid hB
  clear hs4 hX4 hbw4 hF hB hX hbw1
  go_enter Try.func36, Try.ntmps36
  go_wp2_with (first | (with_reducible show wpList _ _ _ _ _ _; refine wpList_build1 rfl 63 1 (.tmp 14) rfl (.slice (some ⟨w.heap.size + 1, 0, none⟩) N N) rfl _ (hbt _ _) ?_) | (with_reducible show wpList _ _ _ _ _ _; refine wpList_build1 rfl 68 0 (.tmp 18) rfl (.int .i64 (k : Int)) rfl _ (hbn _) ?_) | (go_at_call 54; refine HP.out.mono ?_; rintro x w5 ⟨rfl, qv, hT5, hk5, hb5, hq5⟩; have hX5 : Blk w5 w.heap.size gr 53 := (hk5 _ (by rw [HS4.out]; omega) (by omega) (by omega) (by simp [Value.ownBlock])).trans HX4.out; have hbw5 := HB4.out.trans hb5; clear hk5 hb5) | (with_reducible show wpList _ _ _ _ _ _; refine wpList_load_blk rfl 53 (.tmp 2) rfl w.heap.size 0 rfl gr _ hX5 3 (by rw [Hgs.out]; omega) _ Try.underlying53 rfl Hgsz.out ?_; rw [Hgl.out]) | (go_at_call 55; refine (HSt.out _ hbw5).mono ?_; rintro x w6 ⟨vS, g, rfl, hgS, hSt, hb6⟩))
  have hT6 := hT5.below hb6
  have hbw6 := hbw5.trans (below_le hb6 hbw5.size)
  have hlt5 := hT5.lt
  have hqg : qv.ownBlock ≠ some g := fun e => by have := (hlt5 g (.inr (.inr (.inl e)))).2; omega
  have htg : w.heap.size + 2 < g := by have := (hlt5 _ (.inl rfl)).2; omega
  have hK0 : growT Ps (N + 1 - 0) 0 [⟨k, 0, 0, 0⟩] = treeT Ps N k := rfl
  clear hT5 hq5 hX5 hbw5 hb6 hlt5 cX hgS HP HS4 HX4 HB4 HF HB HSt Hgs Hgl Hgsz hmk hbt hbn
  obtain ⟨⟨cap, rfl⟩, -, -⟩ := hSt.step
  rw [List.nil_append, List.nil_append] at hT6
  go_loopw [7] (fun i wr => ∃ (p : Nat) (T : List Ent) (bs : List Nat) (qv : Value), i = .int .i64 p ∧ p ≤ T.length ∧ growT Ps (N + 1 - p) p T = treeT Ps N k ∧ TreeAt wr w.heap.size (w.heap.size + 2) N T bs (w.heap.size + 1) qv ∧ StAt wr w.heap.size g (.slice (some ⟨g, 0, none⟩) Ps.length cap) Ps ∧ qv.ownBlock ≠ some g ∧ Below w.heap.size w wr) (fun i _ => N + 1 - (intOf i).toNat)
  case atStart => exact ⟨0, _, _, qv, rfl, Nat.zero_le _, hK0, hT6, hSt, hqg, hbw6⟩
  case round =>
    clear hT6 hSt hqg hbw6 hK0
    obtain ⟨p, T, bs, qv, rfl, hpT, hgr, hT, hSt, hqg, hbw⟩ := hrel
    obtain ⟨w7, rfl⟩ : ∃ x, x = wr := ⟨_, rfl⟩
    have hTN := hT.ok.len
    have ct0 := hT.tb.cell 0
    simp at ct0
    obtain ⟨oq, cq, rfl, hqv⟩ := hT.view
    by_cases hlt : p < T.length
    · obtain ⟨gq, rfl, hqc⟩ := hqv (by omega)
      have hpb : p < bs.length := by rw [hT.blen]; exact hlt
      have cq0 := hqc p hpb
      have hbp : bs[p]? = some bs[p] := List.getElem?_eq_getElem hpb
      have Hpg := Lib.hid (growT_next Ps (N - p) p T hlt)
      rw [show N + 1 - p = N - p + 1 by omega] at hgr
      unfold ptr at cq0
      generalize bs[p] = pb at *
      have HT := Lib.hid hT
      have HSt := Lib.hid hSt
      have hpi : (p : Int) < (T.length : Int) := by omega
      have hpN : (entAt T p).word < N := HT.out.ok.lt _ (entAt_mem hlt)
      have HQG := Lib.hid hqg
      have HBW := Lib.hid hbw
      have HGR := Lib.hid hgr
      have hV0 : visT Ps p T 0 = T := rfl
      clear hT hSt hqv hqc hpb hqg hbw hgr
      go_wp2
      go_loopw [42] (fun i wr => ∃ (j : Nat) (bs : List Nat) (qv : Value), i = .int .i64 j ∧ j ≤ Ps.length ∧ bs[p]? = some pb ∧ TreeAt wr w.heap.size (w.heap.size + 2) N (visT Ps p T j) bs (w.heap.size + 1) qv ∧ StAt wr w.heap.size g (.slice (some ⟨g, 0, none⟩) Ps.length cap) Ps ∧ qv.ownBlock ≠ some g ∧ Below w.heap.size w wr) (fun i _ => Ps.length - (intOf i).toNat)
      case atStart => exact ⟨0, bs, _, rfl, Nat.zero_le _, hbp, HT.out, HSt.out, HQG.out, HBW.out⟩
      case round =>
        clear HT HSt HQG HBW hbp hV0
        obtain ⟨j, bs, qv, rfl, hj, hbp, hT, hSt, hqg, hbw⟩ := hrel
        obtain ⟨w8, rfl⟩ : ∃ x, x = wr := ⟨_, rfl⟩
        by_cases hjl : j < Ps.length
        · have hji : (j : Int) < (Ps.length : Int) := by omega
          obtain ⟨hv1, hv2⟩ := vis_len Ps p T j hj
          have hv3 := hv2 p hlt
          have hvs := visT_succ Ps p T j hjl
          have HVS := Lib.hid hvs
          clear hv2 hvs
          generalize visT Ps p T j = T1 at *
          have hTN1 := hT.ok.len
          have hlt1 : p < T1.length := by omega
          obtain ⟨-, hgl, hstep⟩ := hSt.step
          obtain ⟨o, c, cs0, cs1, hsee⟩ := hstep j hjl
          obtain ⟨hxl, hxe, hyN⟩ := hok.to j hjl _ hpN
          obtain ⟨gu, rfl, hgu, cu⟩ := hsee.at _ hxl
          rw [hxe] at cu
          clear hxe hsee hstep
          have hpb : p < bs.length := by rw [hT.blen]; exact hlt1
          have hpbe : bs[p] = pb := by rw [List.getElem?_eq_getElem hpb] at hbp; exact Option.some.inj hbp
          have hnp := hT.nodes p hlt1 hpb
          rw [hpbe] at hnp
          have hmb : pb ∈ bs := hpbe ▸ List.getElem_mem hpb
          have Hn0 : Hid ((nodeC bs T1 p)[0]? = some (.int .i64 ((entAt T p).word : Int))) := Lib.hid (by rw [nodeC_cells.1, hv3])
          have Hn3 : Hid ((nodeC bs T1 p)[3]? = some (.int .i64 ((entAt T p).dist : Int))) := Lib.hid (by rw [nodeC_cells.2, hv3])
          have hst16 := (hok Ps[j] (List.getElem_mem hjl)).2.2
          have hdN : (entAt T p).dist ≤ p := by rw [← hv3]; exact hT.ok.dist p hlt1
          have HNew : Hid (toN Ps[j] (entAt T p).word ∉ wds T1 → ∀ nb, nodeC (bs ++ [nb]) (T1 ++ [newE p T1 Ps[j]]) T1.length = #[.int .i64 (toN Ps[j] (entAt T p).word : Nat), ptr pb, .int .i64 Ps[j].1, .int .i64 (((entAt T p).dist : Int) + 1)]) := Lib.hid (fun _ nb => by rw [nodeC_new hT.blen hlt1 hbp, hv3])
          have HAdd : Hid (toN Ps[j] (entAt T p).word ∉ wds T1 → TOk N (T1 ++ [newE p T1 Ps[j]])) := Lib.hid (fun hn => hT.ok.add hok (List.getElem_mem hjl) hlt1 (by rw [hv3]; exact hn))
          have HAT : Hid (addT p T1 Ps[j] = if toN Ps[j] (entAt T p).word ∈ wds T1 then T1 else T1 ++ [newE p T1 Ps[j]]) := Lib.hid (by unfold addT; rw [hv3])
          generalize hnum : Ps[j].1 = num at *
          generalize htab : Ps[j].2.length = tl at *
          generalize toN Ps[j] (entAt T p).word = y at *
          generalize (entAt T p).word = x at *
          generalize (entAt T p).dist = dd at *
          generalize hnc : nodeC bs T1 p = nc at *
          have HQlt := Lib.hid (fun q (e : qv.ownBlock = some q) => (hT.lt q (.inr (.inr (.inl e)))).2)
          have HSg := Lib.hid hgl
          have HT := Lib.hid hT
          have HSt := Lib.hid hSt
          have HQG := Lib.hid hqg
          have HBW := Lib.hid hbw
          have hxi : (x : Int) < (tl : Int) := by omega
          have htb := hT.tb
          have hnd := hT.nod
          clear hT hSt hqg hbw hpbe hv3 hnc htab hnum
          go_wp2
          have hal : Below w8.heap.size w8 (w8.alloc (.cells #[.int .i64 num, .slice (some ⟨gu, 0, none⟩) tl c] 74)) := by (repeat (first | exact Below.refl _ _ | refine below_drew' ?_ | refine below_drewN' ?_ _ | refine below_alloc' ?_ _ | refine below_set' ?_ (by (try simp); (try omega)) _ | refine below_step ?_ (by assumption)))
          have hsA : (w8.alloc (.cells #[.int .i64 num, .slice (some ⟨gu, 0, none⟩) tl c] 74)).heap.size = w8.heap.size + 1 := by simp
          have y1 : Blk (w8.alloc (.cells #[.int .i64 num, .slice (some ⟨gu, 0, none⟩) tl c] 74)) w8.heap.size #[.int .i64 num, .slice (some ⟨gu, 0, none⟩) tl c] 74 := Blk.new _ _ _
          have y2 := hnp.keptAll hal
          have y3 := (hal.cell (p := ⟨gu, x, none⟩) hgu).trans cu
          have y4 := HT.out.below hal
          have y5 := HSt.out.keeps hal.size (fun k hk _ => hal.block k hk)
          have y6 := HBW.out.trans (below_le hal HBW.out.size)
          clear cs0 cs1 cu hnp htb hnd
          generalize w8.alloc (.cells #[.int .i64 num, .slice (some ⟨gu, 0, none⟩) tl c] 74) = w9 at *
          refine wp_region_held_drew (S := fun W => Blk W w8.heap.size #[.int .i64 num, .slice (some ⟨gu, 0, none⟩) tl c] 74 ∧ Blk W pb nc 68 ∧ W.cell? ⟨gu, x, none⟩ = some (.int .i64 (y : Int))) (by kernel_rfl) ⟨y1.drew, y2.drew, y3⟩ (fun hS0 => ?_)
          (refine hK_take 0 (.pointer (some ⟨w8.heap.size, 1, none⟩)) rfl (by kernel_rfl) (by kernel_rfl) (by kernel_rfl) (fun _ _ _ h => h) rfl (fun W _ => by go_simp) hS0 ?_; (intro K hK; go_simp; refine hK _ ?_; clear hK K))
          (refine hK_take 1 (.slice (some ⟨gu, 0, none⟩) tl c) rfl (by kernel_rfl) (by kernel_rfl) (by kernel_rfl) (fun _ _ _ h => h) rfl (fun W hW => by have c1 := hW.1.cell 1; simp at c1; clear hW; go_simp) hS0 ?_; (intro K hK; go_simp; refine hK _ ?_; clear hK K))
          (refine hK_take 2 (.pointer (some ⟨pb, 0, none⟩)) rfl (by kernel_rfl) (by kernel_rfl) (by kernel_rfl) (fun _ _ _ h => h) rfl (fun W _ => by go_simp) hS0 ?_; (intro K hK; go_simp; refine hK _ ?_; clear hK K))
          (refine hK_take 3 (.pointer (some ⟨pb, 0, none⟩)) rfl (by kernel_rfl) (by kernel_rfl) (by kernel_rfl) (fun _ _ _ h => h) rfl (fun W _ => by go_simp) hS0 ?_; (intro K hK; go_simp; refine hK _ ?_; clear hK K))
          (refine hK_take 4 (.pointer (some ⟨pb, 0, none⟩)) rfl (by kernel_rfl) (by kernel_rfl) (by kernel_rfl) (fun _ _ _ h => h) rfl (fun W _ => by go_simp) hS0 ?_; (intro K hK; go_simp; refine hK _ ?_; clear hK K))
          (refine hK_take 5 (.int .i64 (x : Int)) rfl (by kernel_rfl) (by kernel_rfl) (by kernel_rfl) (fun _ _ _ h => h) rfl (fun W hW => by have c1 := hW.2.1.cell 0; rw [Hn0.out] at c1; clear hW; go_simp) hS0 ?_; (intro K hK; go_simp; refine hK _ ?_; clear hK K))
          (refine hK_take 6 (.pointer (some ⟨gu, x, none⟩)) rfl (by kernel_rfl) (by kernel_rfl) (by kernel_rfl) (fun _ _ _ h => h) rfl (fun W _ => by go_simp) hS0 ?_; (intro K hK; go_simp; refine hK _ ?_; clear hK K))
          (refine hK_take 7 (.int .i64 (y : Int)) rfl (by kernel_rfl) (by kernel_rfl) (by kernel_rfl) (fun _ _ _ h => h) rfl (fun W hW => by have c1 := hW.2.2; clear hW; go_simp) hS0 ?_; (intro K hK; go_simp; refine hK _ ?_; clear hK K))
          (refine hK_take 8 (.int .i64 (y : Int)) rfl (by kernel_rfl) (by kernel_rfl) (by kernel_rfl) (fun _ _ _ h => h) rfl (fun W _ => by go_simp) hS0 ?_; (intro K hK; go_simp; refine hK _ ?_; clear hK K))
          refine wpAnyH_done (by kernel_rfl) ?_ _
          clear hS0 y3
          have z1 := y1.drew
          have z2 := y2.drew
          have z4 := y4.below (w1 := w9.drew) (Below.refl _ _).drew
          have z5 := y5.keeps (w1 := w9.drew) (Nat.le_refl _) (fun _ _ _ => rfl)
          have z6 := y6.drew
          have hs9 : w9.drew.heap.size = w8.heap.size + 1 := hsA
          clear y1 y2 y4 y5 y6 hsA hal
          generalize w9.drew = w10 at *
          have ht1 := z4.tb.cell 1
          simp at ht1
          have hn1 := z4.nod.cell y
          rw [nodesC_at _ _ _ _ hyN] at hn1
          have hyi : (y : Int) < (N : Int) := by omega
          have HZ4 := Lib.hid z4
          have HZ5 := Lib.hid z5
          have HZ6 := Lib.hid z6
          clear z4 z5 z6
          by_cases hin : y ∈ wds T1
          · have hidx : (wds T1).idxOf y < bs.length := by
              have := List.idxOf_lt_length_of_mem hin
              unfold wds at this
              rw [List.length_map] at this
              rw [HZ4.out.blen]
              exact this
            rw [nodeP_in hidx] at hn1
            unfold ptr at hn1
            generalize bs[(wds T1).idxOf y] = yb at *
            have hA2 : Hid (visT Ps p T (j + 1) = T1) := Lib.hid (by rw [HVS.out, HAT.out, if_pos hin])
            clear hin hidx HVS HAT HAdd HNew
            go_wp2
            go_roundw
            case rel => exact ⟨j + 1, bs, qv, by go_num, by omega, hbp, by rw [hA2.out]; exact HZ4.out, HZ5.out, HQG.out, HZ6.out⟩
            case measure => simp [intOf] <;> omega
          · rw [nodeP_out HZ4.out.blen hin] at hn1
            have hA2 : Hid (visT Ps p T (j + 1) = T1 ++ [newE p T1 Ps[j]]) := Lib.hid (by rw [HVS.out, HAT.out, if_neg hin])
            have hOk2 := HAdd.out hin
            have HNew2 := Lib.hid (HNew.out hin)
            have HIn := Lib.hid hin
            clear hin HVS HAT HAdd HNew
            go_wp2
            have v1 := z1.drew
            have v2 := z2.drew
            have v4 := HZ4.out.below (w1 := w10.drew) (Below.refl _ _).drew
            have v5 := HZ5.out.keeps (w1 := w10.drew) (Nat.le_refl _) (fun _ _ _ => rfl)
            have v6 := HZ6.out.drew
            have hs10 : w10.drew.heap.size = w8.heap.size + 1 := hs9
            have hge8 := HBW.out.size
            refine wp_region_held_drew (S := fun W => Blk W w8.heap.size #[.int .i64 num, .slice (some ⟨gu, 0, none⟩) tl c] 74 ∧ Blk W pb nc 68) (by kernel_rfl) ⟨v1, v2⟩ (fun hS0 => ?_)
            clear z1 z2 hn1 ht1 hs9 HZ4 HZ5 HZ6 HT HSt HBW v1 v2
            generalize w10.drew = w11 at *
            (refine hK_take 0 (.pointer (some ⟨w.heap.size + 1 + 1, 0, none⟩)) rfl (by kernel_rfl) (by kernel_rfl) (by kernel_rfl) (fun _ _ _ h => h) rfl (fun W _ => by go_simp) hS0 ?_; (intro K hK; go_simp; refine hK _ ?_; clear hK K))
            (refine hK_take 1 (.int .i64 (y : Int)) rfl (by kernel_rfl) (by kernel_rfl) (by kernel_rfl) (fun _ _ _ h => h) rfl (fun W _ => by go_simp) hS0 ?_; (intro K hK; go_simp; refine hK _ ?_; clear hK K))
            (refine hK_take 2 (.pointer (some ⟨pb, 0, none⟩)) rfl (by kernel_rfl) (by kernel_rfl) (by kernel_rfl) (fun _ _ _ h => h) rfl (fun W _ => by go_simp) hS0 ?_; (intro K hK; go_simp; refine hK _ ?_; clear hK K))
            (refine hK_take 3 (.pointer (some ⟨w8.heap.size, 0, none⟩)) rfl (by kernel_rfl) (by kernel_rfl) (by kernel_rfl) (fun _ _ _ h => h) rfl (fun W _ => by go_simp) hS0 ?_; (intro K hK; go_simp; refine hK _ ?_; clear hK K))
            (refine hK_take 4 (.int .i64 num) rfl (by kernel_rfl) (by kernel_rfl) (by kernel_rfl) (fun _ _ _ h => h) rfl (fun W hW => by have c1 := hW.1.cell 0; simp at c1; clear hW; go_simp) hS0 ?_; (intro K hK; go_simp; refine hK _ ?_; clear hK K))
            (refine hK_take 5 (.pointer (some ⟨pb, 0, none⟩)) rfl (by kernel_rfl) (by kernel_rfl) (by kernel_rfl) (fun _ _ _ h => h) rfl (fun W _ => by go_simp) hS0 ?_; (intro K hK; go_simp; refine hK _ ?_; clear hK K))
            (refine hK_take 6 (.pointer (some ⟨pb, 0, none⟩)) rfl (by kernel_rfl) (by kernel_rfl) (by kernel_rfl) (fun _ _ _ h => h) rfl (fun W _ => by go_simp) hS0 ?_; (intro K hK; go_simp; refine hK _ ?_; clear hK K))
            (refine hK_take 7 (.pointer (some ⟨pb, 3, none⟩)) rfl (by kernel_rfl) (by kernel_rfl) (by kernel_rfl) (fun _ _ _ h => h) rfl (fun W _ => by go_simp) hS0 ?_; (intro K hK; go_simp; refine hK _ ?_; clear hK K))
            (refine hK_take 8 (.int .i64 (dd : Int)) rfl (by kernel_rfl) (by kernel_rfl) (by kernel_rfl) (fun _ _ _ h => h) rfl (fun W hW => by have c1 := hW.2.cell 3; rw [Hn3.out] at c1; clear hW; go_simp) hS0 ?_; (intro K hK; go_simp; refine hK _ ?_; clear hK K))
            (refine hK_take 9 (.int .i64 ((dd : Int) + 1)) rfl (by kernel_rfl) (by kernel_rfl) (by kernel_rfl) (fun _ _ _ h => h) rfl (fun W _ => by go_simp; exact IntWalk.i64_in _ (by omega)) hS0 ?_; (intro K hK; go_simp; refine hK _ ?_; clear hK K))
            (refine hK_take 10 (.agg #[.int .i64 (y : Int), .pointer (some ⟨pb, 0, none⟩), .int .i64 num, .int .i64 ((dd : Int) + 1)]) rfl (by kernel_rfl) (by kernel_rfl) (by kernel_rfl) (fun _ _ _ h => h) rfl (fun W _ => by go_simp) hS0 ?_; (intro K hK; go_simp; refine hK _ ?_; clear hK K))
            refine wpAnyH_ready (rs := [11]) (by kernel_rfl) (by simp) ?_
            refine AllReadyH.cons rfl (fun K hK => ?_) AllReadyH.nil
            go_simp
            refine hK.out _ _ ⟨hS0.1.alloc _, hS0.2.alloc _⟩ (fun hS1 => ?_)
            clear hK K
            have hal : Below w11.heap.size w11 (w11.alloc (.cells #[.int .i64 (y : Int), .pointer (some ⟨pb, 0, none⟩), .int .i64 num, .int .i64 ((dd : Int) + 1)] 68)) := by (repeat (first | exact Below.refl _ _ | refine below_drew' ?_ | refine below_drewN' ?_ _ | refine below_alloc' ?_ _ | refine below_set' ?_ (by (try simp); (try omega)) _ | refine below_step ?_ (by assumption)))
            have hnew : Blk (w11.alloc (.cells #[.int .i64 (y : Int), .pointer (some ⟨pb, 0, none⟩), .int .i64 num, .int .i64 ((dd : Int) + 1)] 68)) w11.heap.size (nodeC (bs ++ [w11.heap.size]) (T1 ++ [newE p T1 Ps[j]]) T1.length) 68 := by rw [HNew2.out]; exact Blk.new _ _ _
            have u4 := v4.below hal
            have u5 := v5.keeps hal.size (fun k hk _ => hal.block k hk)
            have u6 := v6.trans (below_le hal v6.size)
            have hsB : (w11.alloc (.cells #[.int .i64 (y : Int), .pointer (some ⟨pb, 0, none⟩), .int .i64 num, .int .i64 ((dd : Int) + 1)] 68)).heap.size = w11.heap.size + 1 := by simp
            have hl4 := v4.lt
            have hnq : qv.ownBlock ≠ some w11.heap.size := fun e => by have := (hl4 _ (.inr (.inr (.inl e)))).2; omega
            have HPu := Lib.hid (put_calls w.heap.size (w.heap.size + 2) N T1 bs (w.heap.size + 1) qv (newE p T1 Ps[j]) w11.heap.size _ u6.size u4 hOk2 hnew (by omega) (by omega) (by omega) hnq hN)
            have hsbq : qv.ownBlock ≠ some w8.heap.size := fun e => by
              have q1 := u4.bq
              have := (HQlt.out _ e)
              omega
            clear v4 v5 v6 hal hS0
            generalize w11.alloc (.cells #[.int .i64 (y : Int), .pointer (some ⟨pb, 0, none⟩), .int .i64 num, .int .i64 ((dd : Int) + 1)] 68) = w12 at *
            rw [hs10] at HPu
            (refine wpAnyH_ready (rs := [12]) (by kernel_rfl) (by simp) ?_; refine AllReadyH.cons rfl (fun K hK => ?_) AllReadyH.nil); go_simp; refine (HPu.out).mono ?_; rintro e w13 ⟨rfl, qv2, hT13, hk13, hb13, hq13⟩
            (go_simp; refine hK.out _ _ (⟨(hk13 _ (by omega) (by omega) (by omega) hsbq).trans hS1.1, (hk13 _ hS1.2.lt (fun e => u4.bt (e ▸ hmb)) (fun e => u4.bg (e ▸ hmb)) (u4.bq _ hmb)).trans hS1.2⟩) (fun hS2 => ?_); clear hK K)
            refine wpAnyH_done (by kernel_rfl) ?_ _
            have x5 := u5.keeps hb13.size (fun k hk h => hk13 k hk (by omega) (by omega) (fun e => by
              rcases h with h | rfl
              · have := (u4.lt k (.inr (.inr (.inl e)))).1; omega
              · exact HQG.out e))
            have x6 := u6.trans hb13
            have hqg2 : qv2.ownBlock ≠ some g := fun e => by
              rcases hq13 with h | ⟨q, h, hge⟩
              · exact HQG.out (h ▸ e)
              · rw [e] at h
                cases h
                have := HSg.out
                omega
            clear hk13 hb13 hq13 u4 u5 u6 hS1 hS2 hnew HPu
            go_wp2
            go_roundw
            case rel => exact ⟨j + 1, bs ++ [w8.heap.size + 1], qv2, by go_num, by omega, by rw [List.getElem?_append_left hpb]; exact hbp, by rw [hA2.out]; exact hT13, x5, hqg2, x6⟩
            case measure => simp [intOf] <;> omega
        · obtain rfl : j = Ps.length := by omega
          have hv1 := (vis_len Ps p T Ps.length (Nat.le_refl _)).1
          have hgr2 : growT Ps (N + 1 - (p + 1)) (p + 1) (visT Ps p T Ps.length) = treeT Ps N k := by rw [← HGR.out, Hpg.out, show N + 1 - (p + 1) = N - p by omega]
          have HGR2 := Lib.hid hgr2
          have HT := Lib.hid hT
          have HSt := Lib.hid hSt
          have HQG := Lib.hid hqg
          have HBW := Lib.hid hbw
          clear hT hSt hqg hbw hgr2 Hpg HGR
          generalize visT Ps p T Ps.length = T1 at *
          go_wp2
          go_roundw
          case rel => exact ⟨p + 1, T1, bs, qv, by go_num, by omega, HGR2.out, HT.out, HSt.out, HQG.out, HBW.out⟩
          case measure => simp [intOf] <;> omega
    · obtain rfl : p = T.length := by omega
      rw [show N + 1 - T.length = N - T.length + 1 by omega, growT_end _ _ _ _ hlt] at hgr
      have HT := Lib.hid hT
      have HBW := Lib.hid hbw
      clear hT hSt hqg hbw hqv
      go_wp2
      go_ret
      exact ⟨_, _, _, _, rfl, by rw [← hgr]; exact HT.out, HBW.out⟩
end Go.Proofs.Yticnpajbefflbab
