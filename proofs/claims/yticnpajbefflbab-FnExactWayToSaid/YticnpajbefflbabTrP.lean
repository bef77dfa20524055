/- Trees of words: 'put'. -/
import Derived.Test.YticnpajbefflbabTrD
namespace Go.Proofs.Yticnpajbefflbab
open Go.RowKit

theorem row_view1 {w : World} {base e n : Nat} {v : Value} {xs : List Value} (h : w.ownsRow base e 1 v n xs) : ∃ o c, v = .slice o n c := by
  rcases h.2 with ⟨rfl, h0⟩ | ⟨g, cap, cur, rfl, _⟩
  · exact ⟨none, 0, by rw [h0]⟩
  · exact ⟨_, cap, rfl⟩
theorem info_nodeP : (Try.prog.info? 66).map (fun i => (i.zero, i.size, i.bytes)) = some (some (.pointer none), 1, 8) := by kernel_rfl
theorem nodeC_left {N : Nat} {T : List Ent} {bs : List Nat} {e : Ent} {b i : Nat} (hl : bs.length = T.length) (hok : TOk N T) (hi : i < T.length) : nodeC (bs ++ [b]) (T ++ [e]) i = nodeC bs T i := by
  unfold nodeC
  rw [entAt_left hi]
  by_cases h0 : i = 0
  · rw [if_pos h0, if_pos h0]
  · have hp := hok.par i (by omega) hi
    rw [if_neg h0, if_neg h0, List.getD_eq_getElem?_getD, List.getElem?_append_left (by omega), ← List.getD_eq_getElem?_getD]

set_option maxRecDepth 100000 in
set_option maxHeartbeats 2000000 in
theorem put_calls (base t N : Nat) (T : List Ent) (bs : List Nat) (gn : Nat) (qv : Value) (e : Ent) (nb : Nat) (w : World) (hbase : base ≤ w.heap.size) (hT : TreeAt w base t N T bs gn qv) (hok : TOk N (T ++ [e]))
    (hn : Blk w nb (nodeC (bs ++ [nb]) (T ++ [e]) T.length) 68) (hnb : base ≤ nb) (hnt : nb ≠ t) (hng : nb ≠ gn) (hnq : qv.ownBlock ≠ some nb) (hN : N ≤ 1000) :
    Calls Try.prog 54 #[ptr t, ptr nb] w fun x w' => x = .returned (.tuple #[]) ∧ ∃ qv', TreeAt w' base t N (T ++ [e]) (bs ++ [nb]) gn qv' ∧ KeepsT t gn qv w w' ∧ Below base w w' ∧ (qv'.ownBlock = qv.ownBlock ∨ ∃ q, qv'.ownBlock = some q ∧ w.heap.size ≤ q) := by
  obtain ⟨i0, hi, hz0, hz1, hz2⟩ := info_parts info_nodeP
  have hTl := hT.ok.len
  have hew : e.word < N := hok.lt e (by simp)
  obtain ⟨oq, cq, rfl⟩ := row_view1 hT.row
  have ht := hT.tb
  have ct0 := ht.cell 0
  have ct1 := ht.cell 1
  simp at ct0 ct1
  have hlt := ht.lt
  have hlg := hT.nod.lt
  have hln := hn.lt
  have htg := hT.tg
  have hal : Below w.heap.size w (w.alloc (.cells #[ptr nb] 66)) := by (repeat (first | exact Below.refl _ _ | refine below_drew' ?_ | refine below_drewN' ?_ _ | refine below_alloc' ?_ _ | refine below_set' ?_ (by (try simp); (try omega)) _ | refine below_step ?_ (by assumption)))
  have hrow : (w.alloc (.cells #[ptr nb] 66)).ownsRow base 66 1 (.slice oq T.length cq) T.length (ptrs bs) := row_same hT.row fun k hk => hal.block k (World.ownsRow.lt hT.row k hk).2
  have Hc0 : Hid ((nodeC (bs ++ [nb]) (T ++ [e]) T.length)[0]? = some (.int .i64 (e.word : Int))) := Lib.hid (by unfold nodeC; rw [entAt_last]; rfl)
  have HT := Lib.hid hT
  have HN := Lib.hid hn
  have HOK := Lib.hid hok
  clear hok
  have ht1 := ht.keptAll hal
  have hnew := cell_one_new w (ptr nb) 66
  generalize hnc : nodeC (bs ++ [nb]) (T ++ [e]) T.length = nc at *
  go_enter Try.func54, Try.ntmps54
  unfold ptr
  go_wp2_with (at_builtin; refine wpList_append_own_at _ rfl (.tmp 8) (.tmp 10) 61 rfl base 66 i0 (.pointer none) 1 8 Try.underlying61 hi hz0 hz1 hz2 rfl (by decide) (.slice oq T.length cq) T.length (ptrs bs) rfl hrow ⟨w.heap.size, 0, none⟩ 1 1 [ptr nb] rfl rfl hnew (by intro u hu; simp at hu; subst hu; rfl) (by unfold maxLen; omega) (by omega) (by simp; omega) ?_; intro v7 w7 hO7 hg7 _ hat7; obtain ⟨o7, c7, e7⟩ := row_view1 hO7; subst e7; have ht7 : Blk w7 t #[.slice oq T.length cq, .slice (some ⟨gn, 0, none⟩) N N] 63 := (hg7.block _ ht1.lt (fun e => HT.out.qt e.symm)).trans ht1; have ct7 := ht7.cell 0; simp at ct7; have ft7 := ht7.free)
  have hn7 : Blk w7 nb nc 68 := (hg7.block _ (Nat.lt_of_lt_of_le hln hal.size) (fun e => hnq e.symm)).trans (HN.out.keptAll hal)
  have hG7 : Blk w7 gn (nodesC N T bs) 66 := (hg7.block _ (Nat.lt_of_lt_of_le hlg hal.size) (fun e => HT.out.qg e.symm)).trans (HT.out.nod.keptAll hal)
  have hbl7 : Below base w w7 := (below_le hal hbase).trans (below_grown hrow hg7 (Nat.le_trans hbase hal.size))
  have hkp : ∀ k, k < w.heap.size → (Value.slice oq T.length cq).ownBlock ≠ some k → w7.heap[k]? = w.heap[k]? := fun k hk hne => (hg7.block k (Nat.lt_of_lt_of_le hk hal.size) (fun e => hne e.symm)).trans (hal.block k hk)
  have hat : (Value.slice o7 (T.length + 1) c7).ownBlock = (Value.slice oq T.length cq).ownBlock ∨ ∃ q, (Value.slice o7 (T.length + 1) c7).ownBlock = some q ∧ w.heap.size ≤ q := hat7.imp id fun h => ⟨_, h, by simp⟩
  have hs7 : w.heap.size ≤ w7.heap.size := Nat.le_trans hal.size hg7.size
  have Hrow := Lib.hid hO7
  have Hat := Lib.hid hat
  have Hkp := Lib.hid hkp
  clear hrow hal ht hn hT ct0 ct1 ht1 hnew hg7 hO7 hat7 ct7 ft7 hat hkp
  have ht8 := ht7.set 0 (.slice o7 (T.length + 1) c7)
  have hn8 := hn7.setOther t 0 (.slice o7 (T.length + 1) c7) hnt
  have hG8 := hG7.setOther t 0 (.slice o7 (T.length + 1) c7) (Ne.symm htg)
  have hb8 : Below base w (w7.setCell ⟨t, 0, none⟩ (.slice o7 (T.length + 1) c7)) := hbl7.setCell HT.out.t0 _
  have H8 := Lib.hid (fun k (hk : k ≠ t) => Below.heap_setCell w7 ⟨t, 0, none⟩ (.slice o7 (T.length + 1) c7) k hk)
  simp only [List.setIfInBounds_toArray, List.set_cons_zero] at ht8
  generalize hw8 : w7.setCell ⟨t, 0, none⟩ (.slice o7 (T.length + 1) c7) = w8 at *
  clear hw8 ht7 hn7 hG7
  have hS0' : Blk w8.drew t #[.slice o7 (T.length + 1) c7, .slice (some ⟨gn, 0, none⟩) N N] 63 ∧ Blk w8.drew nb nc 68 := ⟨ht8.drew, hn8.drew⟩
  refine wp_region_held_drew (S := fun W => Blk W t #[.slice o7 (T.length + 1) c7, .slice (some ⟨gn, 0, none⟩) N N] 63 ∧ Blk W nb nc 68) (by kernel_rfl) hS0' (fun hS0 => ?_)
  (refine hK_take 0 (.pointer (some ⟨t, 0, none⟩)) rfl (by kernel_rfl) (by kernel_rfl) (by kernel_rfl) (fun _ _ _ h => h) rfl (fun W _ => by go_simp) hS0 ?_; (intro K hK; go_simp; refine hK _ ?_; clear hK K))
  (refine hK_take 1 (.pointer (some ⟨t, 0, none⟩)) rfl (by kernel_rfl) (by kernel_rfl) (by kernel_rfl) (fun _ _ _ h => h) rfl (fun W _ => by go_simp) hS0 ?_; (intro K hK; go_simp; refine hK _ ?_; clear hK K))
  (refine hK_take 2 (.pointer (some ⟨t, 1, none⟩)) rfl (by kernel_rfl) (by kernel_rfl) (by kernel_rfl) (fun _ _ _ h => h) rfl (fun W _ => by go_simp) hS0 ?_; (intro K hK; go_simp; refine hK _ ?_; clear hK K))
  (refine hK_take 3 (.slice (some ⟨gn, 0, none⟩) N N) rfl (by kernel_rfl) (by kernel_rfl) (by kernel_rfl) (fun _ _ _ h => h) rfl (fun W hW => by have c1 := hW.1.cell 1; simp at c1; clear hW; go_simp) hS0 ?_; (intro K hK; go_simp; refine hK _ ?_; clear hK K))
  (refine hK_take 4 (.pointer (some ⟨nb, 0, none⟩)) rfl (by kernel_rfl) (by kernel_rfl) (by kernel_rfl) (fun _ _ _ h => h) rfl (fun W _ => by go_simp) hS0 ?_; (intro K hK; go_simp; refine hK _ ?_; clear hK K))
  (refine hK_take 5 (.pointer (some ⟨nb, 0, none⟩)) rfl (by kernel_rfl) (by kernel_rfl) (by kernel_rfl) (fun _ _ _ h => h) rfl (fun W _ => by go_simp) hS0 ?_; (intro K hK; go_simp; refine hK _ ?_; clear hK K))
  (refine hK_take 6 (.pointer (some ⟨nb, 0, none⟩)) rfl (by kernel_rfl) (by kernel_rfl) (by kernel_rfl) (fun _ _ _ h => h) rfl (fun W _ => by go_simp) hS0 ?_; (intro K hK; go_simp; refine hK _ ?_; clear hK K))
  (refine hK_take 7 (.int .i64 (e.word : Int)) rfl (by kernel_rfl) (by kernel_rfl) (by kernel_rfl) (fun _ _ _ h => h) rfl (fun W hW => by have c1 := hW.2.cell 0; rw [Hc0.out] at c1; clear hW; go_simp) hS0 ?_; (intro K hK; go_simp; refine hK _ ?_; clear hK K))
  (refine hK_take 8 (.pointer (some ⟨nb, 0, none⟩)) rfl (by kernel_rfl) (by kernel_rfl) (by kernel_rfl) (fun _ _ _ h => h) rfl (fun W _ => by go_simp) hS0 ?_; (intro K hK; go_simp; refine hK _ ?_; clear hK K))
  (refine hK_take 9 (.pointer (some ⟨gn, e.word, none⟩)) rfl (by kernel_rfl) (by kernel_rfl) (by kernel_rfl) (fun _ _ _ h => h) rfl (fun W _ => by go_simp) hS0 ?_; (intro K hK; go_simp; refine hK _ ?_; clear hK K))
  refine wpAnyH_ready (rs := [10]) (by kernel_rfl) (by simp) ?_
  refine AllReadyH.cons rfl (fun K hK => ?_) AllReadyH.nil
  have cG := hG8.cell e.word
  rw [nodesC_at _ _ _ _ hew] at cG
  have fG := hG8.free
  go_simp
  refine hK.out _ _ ⟨hS0.1.setOther gn _ _ htg, hS0.2.setOther gn _ _ hng⟩ (fun hS1 => ?_)
  clear hK K
  refine wpAnyH_done (by kernel_rfl) ?_ _
  go_wp2
  refine bodyPost_end (results_none (by rfl) _ _ _) rfl ?_
  have hT := HT.out
  have hq : ∀ k, (Value.slice o7 (T.length + 1) c7).ownBlock = some k → k ≠ t ∧ k ≠ gn ∧ k ≠ nb ∧ k ∉ bs := fun k hk => by
    rcases Hat.out with h | ⟨q, h, hge⟩
    · rw [hk] at h
      exact ⟨fun e => hT.qt (e ▸ h.symm), fun e => hT.qg (e ▸ h.symm), fun e => hnq (e ▸ h.symm), fun hm => hT.bq k hm h.symm⟩
    · rw [hk] at h
      cases h
      exact ⟨by omega, by omega, by omega, fun hm => by have := (hT.lt k (.inr (.inr (.inr hm)))).2; omega⟩
  have hnot : e.word ∉ wds T := fun hm => by
    have h1 := HOK.out.nodup
    unfold wds at h1 hm
    rw [List.map_append, List.nodup_append] at h1
    exact h1.2.2 _ hm _ (by simp) rfl
  have hset : ∀ k, k ≠ gn → (w8.setCell ⟨gn, e.word, none⟩ (.pointer (some ⟨nb, 0, none⟩))).heap[k]? = w8.heap[k]? := fun k hk => Below.heap_setCell _ ⟨gn, e.word, none⟩ _ k hk
  have hrw : w7.ownsRow base 66 1 (.slice o7 (T.length + 1) c7) (T ++ [e]).length (ptrs (bs ++ [nb])) := by
    rw [List.length_append, List.length_singleton, show ptrs (bs ++ [nb]) = ptrs bs ++ [ptr nb] by simp [ptrs]]
    exact Hrow.out
  refine ⟨rfl, _, ⟨hS1.1, row_same hrw (fun k hk => (hset k (hq k hk).2.1).trans (H8.out k (hq k hk).1)), ?_, by simp [hT.blen], fun i hi hb => ?_, HOK.out, hT.t0, hT.g0, fun b hb => ?_, htg, fun h => (hq _ h).1 rfl, fun h => (hq _ h).2.1 rfl, fun hm => ?_, fun hm => ?_, fun b hb h => ?_⟩, fun k hk h1 h2 h3 => ?_, (hb8.setCell hT.g0 _).drew, Hat.out⟩
  · rw [← nodesC_add N T bs e nb hT.blen hnot]
    exact (hG8.set e.word _).drew
  · by_cases hlt' : i < T.length
    · have hb' : i < bs.length := by rw [hT.blen]; exact hlt'
      rw [List.getElem_append_left hb', nodeC_left hT.blen hT.ok hlt']
      have hm := List.getElem_mem hb'
      have hl2 := (hT.lt _ (.inr (.inr (.inr hm)))).2
      exact (hset _ (fun e => hT.bg (e ▸ hm))).trans ((H8.out _ (fun e => hT.bt (e ▸ hm))).trans ((Hkp.out _ hl2 (hT.bq _ hm)).trans (hT.nodes i hlt' hb')))
    · have hi2 : i = T.length := by simp at hi; omega
      subst hi2
      rw [List.getElem_append_right (by rw [hT.blen]; exact Nat.le_refl _), hnc]
      simp only [hT.blen, Nat.sub_self, List.getElem_cons_zero]
      exact hS1.2
  · rcases List.mem_append.1 hb with hb | hb
    · exact hT.b0 b hb
    · rw [List.mem_singleton.1 hb]; exact hnb
  · rcases List.mem_append.1 hm with hm | hm
    · exact hT.bt hm
    · exact hnt (List.mem_singleton.1 hm).symm
  · rcases List.mem_append.1 hm with hm | hm
    · exact hT.bg hm
    · exact hng (List.mem_singleton.1 hm).symm
  · rcases List.mem_append.1 hb with hb | hb
    · exact (hq b h).2.2.2 hb
    · exact (hq b h).2.2.1 (List.mem_singleton.1 hb)
  · exact (hset k h2).trans ((H8.out k h1).trans (Hkp.out k hk h3))
end Go.Proofs.Yticnpajbefflbab
