/- 'l05Grow': the model. -/
import Derived.Test.YticnpajbefflbabTrL
namespace Go.Proofs.Yticnpajbefflbab
open Go.RowKit

def tre (q f s d : Value) : Array Value := #[q, f, s, d]
def tre0 : Array Value := #[.slice none 0 0, .slice none 0 0, .slice none 0 0, .slice none 0 0]
theorem info_tre : (Try.prog.info? 59).map (fun i => (i.zero, i.size)) = some (some (.agg tre0), 4) := by kernel_rfl
theorem zero_tre : ∀ w, (zeroValue 59).run Try.prog w = .ok (.agg tre0) w := (zero_of_info info_tre).1
theorem size_tre : (Try.prog.info? 59).map (·.size) = some 4 := (zero_of_info info_tre).2
def slN (b n : Nat) : Value := .slice (some ⟨b, 0, none⟩) n n

theorem tre_one (b1 b3 b5 b7 n1 n3 n5 n7 : Nat) : (tre (slN b1 n1) (slN b3 n3) (slN b5 n5) (slN b7 n7)).all (·.oneCell') = true := by simp [tre, slN, Value.oneCell']

/-- The region that makes a tree: what has come (the machine's box is block b0). -/
def GrwI (w0 : World) (N : Nat) (k : Int) (mk : Value → Value → Value → Value → Value → Value → Value → Value → Value → Value → Act) (L : Nat → Bool) (a : Act) (W : World) : Prop :=
  ∃ b1 b3 b5 b7 b9 : Nat, a = mk (sel (L 9) (.pointer (some ⟨b9, 0, none⟩))) (sel (L 0) (.int .i64 k)) (sel (L 1) (slN b1 1)) (sel (L 2) (.int .i64 N)) (sel (L 3) (slN b3 N)) (sel (L 4) (.int .i64 N)) (sel (L 5) (slN b5 N)) (sel (L 6) (.int .i64 N)) (sel (L 7) (slN b7 N)) (sel (L 8) (.agg (tre (slN b1 1) (slN b3 N) (slN b5 N) (slN b7 N))))
    ∧ Below w0.heap.size w0 W
    ∧ (L 1 = true → w0.heap.size ≤ b1 ∧ Blk W b1 #[.int .i64 k] 2)
    ∧ (L 3 = true → w0.heap.size ≤ b3 ∧ Blk W b3 (ints (List.replicate N 0)) 2)
    ∧ (L 5 = true → w0.heap.size ≤ b5 ∧ Blk W b5 (ints (List.replicate N 0)) 2)
    ∧ (L 7 = true → w0.heap.size ≤ b7 ∧ Blk W b7 (ints (List.replicate N 0)) 2)
    ∧ (L 9 = true → w0.heap.size ≤ b9 ∧ Blk W b9 (if L 10 = true then tre (slN b1 1) (slN b3 N) (slN b5 N) (slN b7 N) else tre0) 59)
    ∧ (L 1 = true → L 3 = true → b1 ≠ b3) ∧ (L 1 = true → L 5 = true → b1 ≠ b5) ∧ (L 1 = true → L 7 = true → b1 ≠ b7)
    ∧ (L 3 = true → L 5 = true → b3 ≠ b5) ∧ (L 3 = true → L 7 = true → b3 ≠ b7) ∧ (L 5 = true → L 7 = true → b5 ≠ b7)
    ∧ (L 10 = true → L 1 = true ∧ L 3 = true ∧ L 5 = true ∧ L 7 = true ∧ L 9 = true) ∧ (L 8 = true → L 1 = true ∧ L 3 = true ∧ L 5 = true ∧ L 7 = true)
theorem blk_apart {W : World} {b b' : Nat} {c c' : Array Value} {T T' : TypeId} (h : Blk W b c T) (h' : Blk W b' c' T') (hT : T ≠ T') : b ≠ b' := fun e => by
  subst e
  unfold Blk at h h'
  rw [h] at h'
  simp at h'
  exact hT h'.2

/-- The state of a tree in the making, but for the distances. -/
structure GrwS (wr w : World) (M : Mach) (N b3 b5 b9 : Nat) (qv dv : Value) (T : List Ent) : Prop where
  own : OwnI wr w.heap.size qv (wdsI T)
  tb : Blk wr b9 (tre qv (slN b3 N) (slN b5 N) dv) 59
  fr : Blk wr b3 (ints (fromL N T)) 2
  st : Blk wr b5 (ints (stpL N T)) 2
  mach : Blk wr w.heap.size (mc M) 29
  res : Blk wr (w.heap.size + 1) tre0 59
  low : Below w.heap.size w wr
theorem GrwS.put7 {wr w : World} {M : Mach} {N b3 b5 b7 b9 : Nat} {qv dv : Value} {T : List Ent} (h : GrwS wr w M N b3 b5 b9 qv dv T) (j : Nat) (u : Value) (g7 : w.heap.size + 2 ≤ b7) (n37 : b3 ≠ b7) (n57 : b5 ≠ b7) (n79 : b7 ≠ b9) (hq : qv.ownBlock ≠ some b7) : GrwS (wr.setCell ⟨b7, j, none⟩ u) w M N b3 b5 b9 qv dv T :=
  ⟨owns_same h.own fun k hk => Below.heap_setCell _ ⟨b7, j, none⟩ _ k (fun e => hq (by rw [hk]; exact congrArg some e)), h.tb.setOther _ _ _ (Ne.symm n79), h.fr.setOther _ _ _ n37, h.st.setOther _ _ _ n57, h.mach.setOther _ _ _ (by omega), h.res.setOther _ _ _ (by omega), h.low.setCell (by show w.heap.size ≤ b7; omega) _⟩
/-- The state of a tree in the making, by its lists. -/
structure GrwX (wr w : World) (M : Mach) (N b3 b5 b7 b9 : Nat) (qv : Value) (qs fl sl dl : List Int) : Prop where
  own : OwnI wr w.heap.size qv qs
  tb : Blk wr b9 (tre qv (slN b3 N) (slN b5 N) (slN b7 N)) 59
  fr : Blk wr b3 (ints fl) 2
  st : Blk wr b5 (ints sl) 2
  di : Blk wr b7 (ints dl) 2
  mach : Blk wr w.heap.size (mc M) 29
  res : Blk wr (w.heap.size + 1) tre0 59
  low : Below w.heap.size w wr
  g : w.heap.size + 2 ≤ b3 ∧ w.heap.size + 2 ≤ b5 ∧ w.heap.size + 2 ≤ b7 ∧ w.heap.size + 2 ≤ b9
  n : b3 ≠ b5 ∧ b3 ≠ b7 ∧ b5 ≠ b7 ∧ b3 ≠ b9 ∧ b5 ≠ b9 ∧ b7 ≠ b9
  q : qv.ownBlock ≠ some b3 ∧ qv.ownBlock ≠ some b5 ∧ qv.ownBlock ≠ some b7 ∧ qv.ownBlock ≠ some b9
section
variable {wr w : World} {M : Mach} {N b3 b5 b7 b9 : Nat} {qv : Value} {qs fl sl dl : List Int}
theorem GrwX.put3 (h : GrwX wr w M N b3 b5 b7 b9 qv qs fl sl dl) (i : Nat) (z : Int) : GrwX (wr.setCell ⟨b3, i, none⟩ (.int .i64 z)) w M N b3 b5 b7 b9 qv qs (fl.set i z) sl dl := by
  obtain ⟨g3, g5, g7, g9⟩ := h.g
  obtain ⟨n35, n37, n57, n39, n59, n79⟩ := h.n
  exact ⟨owns_same h.own fun k hk => Below.heap_setCell _ ⟨b3, i, none⟩ _ k (fun e => h.q.1 (by rw [hk]; exact congrArg some e)), h.tb.setOther _ _ _ (Ne.symm n39), by rw [ints_set]; exact h.fr.set _ _, h.st.setOther _ _ _ (Ne.symm n35), h.di.setOther _ _ _ (Ne.symm n37), h.mach.setOther _ _ _ (by omega), h.res.setOther _ _ _ (by omega), h.low.setCell (by show w.heap.size ≤ b3; omega) _, h.g, h.n, h.q⟩
theorem GrwX.put5 (h : GrwX wr w M N b3 b5 b7 b9 qv qs fl sl dl) (i : Nat) (z : Int) : GrwX (wr.setCell ⟨b5, i, none⟩ (.int .i64 z)) w M N b3 b5 b7 b9 qv qs fl (sl.set i z) dl := by
  obtain ⟨g3, g5, g7, g9⟩ := h.g
  obtain ⟨n35, n37, n57, n39, n59, n79⟩ := h.n
  exact ⟨owns_same h.own fun k hk => Below.heap_setCell _ ⟨b5, i, none⟩ _ k (fun e => h.q.2.1 (by rw [hk]; exact congrArg some e)), h.tb.setOther _ _ _ (Ne.symm n59), h.fr.setOther _ _ _ n35, by rw [ints_set]; exact h.st.set _ _, h.di.setOther _ _ _ (Ne.symm n57), h.mach.setOther _ _ _ (by omega), h.res.setOther _ _ _ (by omega), h.low.setCell (by show w.heap.size ≤ b5; omega) _, h.g, h.n, h.q⟩
theorem GrwX.put7 (h : GrwX wr w M N b3 b5 b7 b9 qv qs fl sl dl) (i : Nat) (z : Int) : GrwX (wr.setCell ⟨b7, i, none⟩ (.int .i64 z)) w M N b3 b5 b7 b9 qv qs fl sl (dl.set i z) := by
  obtain ⟨g3, g5, g7, g9⟩ := h.g
  obtain ⟨n35, n37, n57, n39, n59, n79⟩ := h.n
  exact ⟨owns_same h.own fun k hk => Below.heap_setCell _ ⟨b7, i, none⟩ _ k (fun e => h.q.2.2.1 (by rw [hk]; exact congrArg some e)), h.tb.setOther _ _ _ (Ne.symm n79), h.fr.setOther _ _ _ n37, h.st.setOther _ _ _ n57, by rw [ints_set]; exact h.di.set _ _, h.mach.setOther _ _ _ (by omega), h.res.setOther _ _ _ (by omega), h.low.setCell (by show w.heap.size ≤ b7; omega) _, h.g, h.n, h.q⟩
theorem GrwX.keep (h : GrwX wr w M N b3 b5 b7 b9 qv qs fl sl dl) {w1 : World} (hb : Below wr.heap.size wr w1) : GrwX w1 w M N b3 b5 b7 b9 qv qs fl sl dl :=
  ⟨h.own.below hb, h.tb.keptAll hb, h.fr.keptAll hb, h.st.keptAll hb, h.di.keptAll hb, h.mach.keptAll hb, h.res.keptAll hb, h.low.trans (below_le hb h.low.size), h.g, h.n, h.q⟩
theorem GrwX.push (h : GrwX wr w M N b3 b5 b7 b9 qv qs fl sl dl) {v' : Value} {w1 : World} {y : Int} (hO : OwnI w1 w.heap.size v' (qs ++ [y])) (hb : Below w.heap.size wr w1) (hs : Spares wr w1 qv) (hat : v'.ownBlock = qv.ownBlock ∨ v'.ownBlock = some wr.heap.size) : GrwX (w1.setCell ⟨b9, 0, none⟩ v') w M N b3 b5 b7 b9 v' (qs ++ [y]) fl sl dl := by
  obtain ⟨g3, g5, g7, g9⟩ := h.g
  obtain ⟨n35, n37, n57, n39, n59, n79⟩ := h.n
  obtain ⟨q3, q5, q7, q9⟩ := h.q
  have keep : ∀ (bb : Nat) (c : Array Value) (T : TypeId), Blk wr bb c T → qv.ownBlock ≠ some bb → Blk w1 bb c T := fun bb c T hB hne => (hs bb hB.lt (fun e => hne e.symm)).trans hB
  have hq : ∀ bb, bb < wr.heap.size → qv.ownBlock ≠ some bb → v'.ownBlock ≠ some bb := fun bb hlt hne e => by
    rcases hat with h1 | h1
    · exact hne (h1 ▸ e)
    · rw [e] at h1
      have := Option.some.inj h1
      omega
  have hm : qv.ownBlock ≠ some w.heap.size := fun e => by
    unfold Blk at *
    rcases h.own.2 with ⟨rfl, _⟩ | ⟨g, c1, cur, rfl, _, hh, _⟩
    · cases e
    · have e2 : g = w.heap.size := by simpa [Value.ownBlock] using e
      have hmm := h.mach
      unfold Blk at hmm
      rw [e2, hmm] at hh
      simp at hh
  have hr : qv.ownBlock ≠ some (w.heap.size + 1) := fun e => by
    rcases h.own.2 with ⟨rfl, _⟩ | ⟨g, c1, cur, rfl, _, hh, _⟩
    · cases e
    · have e2 : g = w.heap.size + 1 := by simpa [Value.ownBlock] using e
      have hmm := h.res
      unfold Blk at hmm
      rw [e2, hmm] at hh
      simp at hh
  refine ⟨owns_same hO fun k hk => Below.heap_setCell _ ⟨b9, 0, none⟩ _ k (fun e => hq b9 h.tb.lt q9 (by rw [hk]; exact congrArg some e)), (keep _ _ _ h.tb q9).set 0 v', (keep _ _ _ h.fr q3).setOther _ _ _ n39, (keep _ _ _ h.st q5).setOther _ _ _ n59, (keep _ _ _ h.di q7).setOther _ _ _ n79, (keep _ _ _ h.mach hm).setOther _ _ _ (by omega), (keep _ _ _ h.res hr).setOther _ _ _ (by omega), (h.low.trans hb).setCell (by show w.heap.size ≤ b9; omega) _, h.g, h.n, hq _ h.fr.lt q3, hq _ h.st.lt q5, hq _ h.di.lt q7, hq _ h.tb.lt q9⟩
end
def negL (N j : Nat) : List Int := (List.range N).map fun x => if x < j then -1 else 0
theorem negL_get (N j x : Nat) (hx : x < N) : (ints (negL N j))[x]? = some (.int .i64 (if x < j then -1 else 0)) := by simp [ints, negL, hx]
theorem negL_set (N j : Nat) (hj : j < N) : (ints (negL N j)).setIfInBounds j (.int .i64 (-1)) = ints (negL N (j + 1)) := by
  apply Array.ext_getElem?
  intro x
  rw [Array.getElem?_setIfInBounds]
  have hs : (ints (negL N j)).size = N := by simp [ints, negL]
  by_cases hx : x < N
  · rw [negL_get N j x hx, negL_get N (j + 1) x hx, hs]
    by_cases h : j = x
    · subst h
      rw [if_pos rfl, if_pos hj, if_pos (by omega)]
    · rw [if_neg h]
      by_cases h2 : x < j
      · rw [if_pos h2, if_pos (by omega)]
      · rw [if_neg h2, if_neg (by omega)]
  · rw [Array.getElem?_eq_none (by rw [hs]; omega), Array.getElem?_eq_none (by simp [ints, negL]; omega)]
    by_cases h : j = x
    · omega
    · rw [if_neg h]
theorem negL_zero (N : Nat) : negL N 0 = List.replicate N 0 := by simp [negL, List.map_const']
theorem negL_all (N : Nat) : negL N N = List.replicate N (-1) := by
  unfold negL
  apply List.ext_getElem
  · simp
  · intro i h1 h2
    simp at h1
    simp [h1]

set_option maxRecDepth 100000 in
set_option maxHeartbeats 4000000 in
theorem l05Grow_calls (M : Mach) (L S : Nat) (hg : Good M L S) (n : Nat) (N : Nat) (hN : L ^ n = N) (hN2 : N ≤ 1000) (k : Nat) (hk : k < N) (b : Nat) (v : Value) (vs : List Value) (w : World) (hv : OwnLV w b v vs (tbB M L S n S)) :
    Calls Try.prog 35 #[.agg (mc M), v, .int .i64 k] w fun e w' => ∃ qv fv sv dv T, e = .returned (.agg (tre qv fv sv dv)) ∧ T = treeT (fwd M L n S ++ bwd M L S n S) N k ∧ TOk N T ∧ OwnI w' w.heap.size qv (wdsI T) ∧ OwnI w' w.heap.size fv (fromL N T) ∧ OwnI w' w.heap.size sv (stpL N T) ∧ OwnI w' w.heap.size dv (distL N T) ∧ Below w.heap.size w w' := by
  have hok := hg.ok
  have hS16 := hg.S16
  have hS1 := hg.S1
  have F1 : Hid (cut (mc M) 0 98 = mc M) := Lib.hid (cut_all _ _ (mc_size hok)); have F2 : Hid (0 + 98 ≤ (mc M).size) := Lib.hid (by rw [mc_size hok]; omega)
  have hB : Blk (w.alloc (.cells (mc M) 29)) w.heap.size (mc M) 29 := Blk.new w _ _
  have hbw0 : Below w.heap.size w (w.alloc (.cells (mc M) 29)) := by (repeat (first | exact Below.refl _ _ | refine below_drew' ?_ | refine below_drewN' ?_ _ | refine below_alloc' ?_ _ | refine below_set' ?_ (by (try simp); (try omega)) _ | refine below_step ?_ (by assumption)))
  have hzt := zero_tre
  have hltv := hv.lt
  have hvl := hv.len
  have hlen : (tbB M L S n S).length = S + S := tbB_len M L S n S
  have hT0 : ∀ j (hj : j < (tbB M L S n S).length), (tbB M L S n S)[j].length = N := fun j hj => by
    have hj2 : j < (fwd M L n S ++ bwd M L S n S).length := by rw [List.length_append, fwd_len, bwd_len]; omega
    rw [tab_at M L S n j hj2 hj, ← hN]
    exact (tabs_ok hg n _ (List.getElem_mem hj2)).1
  obtain ⟨gv, cv, rfl⟩ : ∃ g c, v = .slice (some ⟨g, 0, none⟩) vs.length c := by
    rcases hv.row.2 with ⟨_, h0⟩ | ⟨g, cap, cur, rfl, _⟩
    · omega
    · exact ⟨g, cap, rfl⟩
  have hv1 := hv.below hbw0
  have hv2 := hv1.below (w1 := (w.alloc (.cells (mc M) 29)).alloc (.cells tre0 59)) (by (repeat (first | exact Below.refl _ _ | refine below_drew' ?_ | refine below_drewN' ?_ _ | refine below_alloc' ?_ _ | refine below_set' ?_ (by (try simp); (try omega)) _ | refine below_step ?_ (by assumption))))
  have cv0 := hv2.cell 0 (by omega)
  have hu0 := (hv2.own 0 (by omega) (by omega)).sees
  have hu0l := hT0 0 (by omega)
  obtain ⟨o0, c0, hue, hqq⟩ := hu0.view
  clear hqq
  rw [hue, hu0l] at cv0
  have hvp : (0 : Int) < (vs.length : Int) := by omega
  have HVL := Lib.hid hvl
  have HLEN := Lib.hid hlen
  have HV := Lib.hid hv
  have HLT := Lib.hid hltv
  have HTO := Lib.hid hT0
  clear hvl hlen hv hv1 hv2 hu0 hue hu0l hltv hT0
  have hmk := mk_ints N (by omega)
  have HcS0 := mc_S M
  rw [hg.hS] at HcS0
  have HcS := Lib.hid HcS0
  clear HcS0
  have hPl : (fwd M L n S ++ bwd M L S n S).length = S + S := by rw [List.length_append, fwd_len, bwd_len]
  have HNum := Lib.hid (step_num M L S n)
  have HTab := Lib.hid (tab_at M L S n)
  have HOkT : Hid (TabsOk N (fwd M L n S ++ bwd M L S n S)) := Lib.hid (by rw [← hN]; exact tabs_ok hg n)
  generalize fwd M L n S ++ bwd M L S n S = Ps at *
  generalize tbB M L S n S = Zs at *
  have hbwA := below_alloc' hbw0 (.cells tre0 59)
  go_enter Try.func35, Try.ntmps35
  go_wp2
  refine wp_mono (Q := fun e a' W => match e with
    | .normal => GrwI ((w.alloc (.cells (mc M) 29)).alloc (.cells tre0 59)) N k (fun x8 x18 x19 x20 x21 x22 x23 x24 x25 x26 => { tmps := #[.agg (mc M), .slice (some ⟨gv, 0, none⟩) vs.length cv, .int .i64 (k : Int), .pointer (some ⟨w.heap.size, 0, none⟩), undef, undef, .pointer (some ⟨w.heap.size + 1, 0, none⟩), .int .i64 (N : Int), x8, undef, undef, undef, undef, undef, .slice (some ⟨gv, 0, none⟩) vs.length cv, .pointer (some ⟨gv, 0, none⟩), .slice o0 N c0, .int .i64 (N : Int), x18, x19, x20, x21, x22, x23, x24, x25, x26, undef, undef, undef, undef, undef, undef, undef, undef, undef, undef, undef, undef, undef, undef, undef, undef, undef, undef, undef, undef, undef, undef, undef, undef, undef, undef, undef, undef, undef, undef, undef, undef, undef, undef, undef, undef, undef, undef, undef, undef, undef, undef, undef, undef, undef, undef, undef, undef, undef, undef, undef, undef, undef, undef, undef, undef, undef, undef, undef, undef, undef, undef, undef, undef, undef, undef, undef, undef, undef, undef, undef, undef, undef, undef, undef, undef, undef, undef, undef, undef, undef, undef, undef, undef, undef, undef], defers := [] }) (fun _ => true) a' W
    | _ => False) ?reg ?rest
  case reg =>
    refine wp_region_inv (by kernel_rfl) (GrwI ((w.alloc (.cells (mc M) 29)).alloc (.cells tre0 59)) N k (fun x8 x18 x19 x20 x21 x22 x23 x24 x25 x26 => { tmps := #[.agg (mc M), .slice (some ⟨gv, 0, none⟩) vs.length cv, .int .i64 (k : Int), .pointer (some ⟨w.heap.size, 0, none⟩), undef, undef, .pointer (some ⟨w.heap.size + 1, 0, none⟩), .int .i64 (N : Int), x8, undef, undef, undef, undef, undef, .slice (some ⟨gv, 0, none⟩) vs.length cv, .pointer (some ⟨gv, 0, none⟩), .slice o0 N c0, .int .i64 (N : Int), x18, x19, x20, x21, x22, x23, x24, x25, x26, undef, undef, undef, undef, undef, undef, undef, undef, undef, undef, undef, undef, undef, undef, undef, undef, undef, undef, undef, undef, undef, undef, undef, undef, undef, undef, undef, undef, undef, undef, undef, undef, undef, undef, undef, undef, undef, undef, undef, undef, undef, undef, undef, undef, undef, undef, undef, undef, undef, undef, undef, undef, undef, undef, undef, undef, undef, undef, undef, undef, undef, undef, undef, undef, undef, undef, undef, undef, undef, undef, undef, undef, undef, undef, undef, undef, undef, undef, undef, undef, undef, undef, undef, undef, undef, undef], defers := [] })) (by kernel_rfl) ?_ ?_ ?_
    · show GrwI ((w.alloc (.cells (mc M) 29)).alloc (.cells tre0 59)) N k _ (come (Array.replicate 11 false)) _ _
      have e : come (Array.replicate 11 false) = fun i => decide (11 ≤ i) := by
        funext i
        by_cases h : i < 11
        · rw [come_none 11 i h]; simp; omega
        · unfold come; simp [Array.getD_eq_getD_getElem?, Array.getElem?_eq_none (show (Array.replicate 11 false).size ≤ i by simp; omega)]; omega
      rw [e]
      exact ⟨0, 0, 0, 0, 0, rfl, (Below.refl _ _).drew, fun h => absurd h (by decide), fun h => absurd h (by decide), fun h => absurd h (by decide), fun h => absurd h (by decide), fun h => absurd h (by decide), fun h => absurd h (by decide), fun h => absurd h (by decide), fun h => absurd h (by decide), fun h => absurd h (by decide), fun h => absurd h (by decide), fun h => absurd h (by decide), fun h => absurd h (by decide), fun h => absurd h (by decide)⟩
    · intro i oi L' a W hoi hLi hdep hInv K hK
      obtain ⟨b1, b3, b5, b7, b9, rfl, e0, p1, p3, p5, p7, p9, q13, q15, q17, q35, q37, q57, d, d8⟩ := hInv
      have hi : i < 11 := (Array.getElem?_eq_some_iff.1 hoi).1
      rcases (show i = 0 ∨ i = 1 ∨ i = 2 ∨ i = 3 ∨ i = 4 ∨ i = 5 ∨ i = 6 ∨ i = 7 ∨ i = 8 ∨ i = 9 ∨ i = 10 by omega) with rfl | rfl | rfl | rfl | rfl | rfl | rfl | rfl | rfl | rfl | rfl
      all_goals (have hoi2 := Option.some.inj hoi; subst hoi2; refine ⟨rfl, ?_⟩)
      · go_simp
        exact hK _ _ ⟨b1, b3, b5, b7, b9, rfl, e0, p1, p3, p5, p7, p9, q13, q15, q17, q35, q37, q57, d, d8⟩
      · have hst : ¬ L' 10 = true := fun h => by rw [(d h).1] at hLi; cases hLi
        have hs8 : L' 8 = false := Bool.eq_false_iff.2 fun h => by rw [(d8 h).1] at hLi; cases hLi
        have h0 := dep_of hdep 0 (by kernel_rfl)
        simp only [h0, sel_true] 
        go_simp
        have hb : Below W.heap.size W (W.alloc (.cells #[.int .i64 (k : Int)] 2)) := by (repeat (first | exact Below.refl _ _ | refine below_drew' ?_ | refine below_drewN' ?_ _ | refine below_alloc' ?_ _ | refine below_set' ?_ (by (try simp); (try omega)) _ | refine below_step ?_ (by assumption)))
        exact hK _ _ ⟨W.heap.size, b3, b5, b7, b9, by simp [now, h0, hs8, slN], e0.trans (below_le hb e0.size), fun _ => ⟨e0.size, Blk.new _ _ _⟩, fun h => ⟨(p3 h).1, (p3 h).2.keptAll hb⟩, fun h => ⟨(p5 h).1, (p5 h).2.keptAll hb⟩, fun h => ⟨(p7 h).1, (p7 h).2.keptAll hb⟩, fun h => ⟨(p9 h).1, by have := (p9 h).2.keptAll hb; rw [if_neg hst] at this; rw [if_neg (show ¬ now L' 1 10 = true from hst)]; exact this⟩, fun _ h => Nat.ne_of_gt (p3 h).2.lt, fun _ h => Nat.ne_of_gt (p5 h).2.lt, fun _ h => Nat.ne_of_gt (p7 h).2.lt, q35, q37, q57, fun h => absurd (show L' 10 = true from h) hst, fun h => absurd (show L' 8 = true from h) (by rw [hs8]; simp)⟩
      · go_simp
        exact hK _ _ ⟨b1, b3, b5, b7, b9, rfl, e0, p1, p3, p5, p7, p9, q13, q15, q17, q35, q37, q57, d, d8⟩
      · have hst : ¬ L' 10 = true := fun h => by rw [(d h).2.1] at hLi; cases hLi
        have hs8 : L' 8 = false := Bool.eq_false_iff.2 fun h => by rw [(d8 h).2.1] at hLi; cases hLi
        have h0 := dep_of hdep 2 (by kernel_rfl)
        simp only [h0, sel_true] 
        go_simp
        have hb : Below W.heap.size W (W.alloc (.cells (ints (List.replicate N 0)) 2)) := by (repeat (first | exact Below.refl _ _ | refine below_drew' ?_ | refine below_drewN' ?_ _ | refine below_alloc' ?_ _ | refine below_set' ?_ (by (try simp); (try omega)) _ | refine below_step ?_ (by assumption)))
        exact hK _ _ ⟨b1, W.heap.size, b5, b7, b9, by simp [now, h0, hs8, slN], e0.trans (below_le hb e0.size), fun h => ⟨(p1 h).1, (p1 h).2.keptAll hb⟩, fun _ => ⟨e0.size, Blk.new _ _ _⟩, fun h => ⟨(p5 h).1, (p5 h).2.keptAll hb⟩, fun h => ⟨(p7 h).1, (p7 h).2.keptAll hb⟩, fun h => ⟨(p9 h).1, by have := (p9 h).2.keptAll hb; rw [if_neg hst] at this; rw [if_neg (show ¬ now L' 3 10 = true from hst)]; exact this⟩, fun h _ => Nat.ne_of_lt (p1 h).2.lt, q15, q17, fun _ h => Nat.ne_of_gt (p5 h).2.lt, fun _ h => Nat.ne_of_gt (p7 h).2.lt, q57, fun h => absurd (show L' 10 = true from h) hst, fun h => absurd (show L' 8 = true from h) (by rw [hs8]; simp)⟩
      · go_simp
        exact hK _ _ ⟨b1, b3, b5, b7, b9, rfl, e0, p1, p3, p5, p7, p9, q13, q15, q17, q35, q37, q57, d, d8⟩
      · have hst : ¬ L' 10 = true := fun h => by rw [(d h).2.2.1] at hLi; cases hLi
        have hs8 : L' 8 = false := Bool.eq_false_iff.2 fun h => by rw [(d8 h).2.2.1] at hLi; cases hLi
        have h0 := dep_of hdep 4 (by kernel_rfl)
        simp only [h0, sel_true] 
        go_simp
        have hb : Below W.heap.size W (W.alloc (.cells (ints (List.replicate N 0)) 2)) := by (repeat (first | exact Below.refl _ _ | refine below_drew' ?_ | refine below_drewN' ?_ _ | refine below_alloc' ?_ _ | refine below_set' ?_ (by (try simp); (try omega)) _ | refine below_step ?_ (by assumption)))
        exact hK _ _ ⟨b1, b3, W.heap.size, b7, b9, by simp [now, h0, hs8, slN], e0.trans (below_le hb e0.size), fun h => ⟨(p1 h).1, (p1 h).2.keptAll hb⟩, fun h => ⟨(p3 h).1, (p3 h).2.keptAll hb⟩, fun _ => ⟨e0.size, Blk.new _ _ _⟩, fun h => ⟨(p7 h).1, (p7 h).2.keptAll hb⟩, fun h => ⟨(p9 h).1, by have := (p9 h).2.keptAll hb; rw [if_neg hst] at this; rw [if_neg (show ¬ now L' 5 10 = true from hst)]; exact this⟩, q13, fun h _ => Nat.ne_of_lt (p1 h).2.lt, q17, fun h _ => Nat.ne_of_lt (p3 h).2.lt, q37, fun _ h => Nat.ne_of_gt (p7 h).2.lt, fun h => absurd (show L' 10 = true from h) hst, fun h => absurd (show L' 8 = true from h) (by rw [hs8]; simp)⟩
      · go_simp
        exact hK _ _ ⟨b1, b3, b5, b7, b9, rfl, e0, p1, p3, p5, p7, p9, q13, q15, q17, q35, q37, q57, d, d8⟩
      · have hst : ¬ L' 10 = true := fun h => by rw [(d h).2.2.2.1] at hLi; cases hLi
        have hs8 : L' 8 = false := Bool.eq_false_iff.2 fun h => by rw [(d8 h).2.2.2] at hLi; cases hLi
        have h0 := dep_of hdep 6 (by kernel_rfl)
        simp only [h0, sel_true] 
        go_simp
        have hb : Below W.heap.size W (W.alloc (.cells (ints (List.replicate N 0)) 2)) := by (repeat (first | exact Below.refl _ _ | refine below_drew' ?_ | refine below_drewN' ?_ _ | refine below_alloc' ?_ _ | refine below_set' ?_ (by (try simp); (try omega)) _ | refine below_step ?_ (by assumption)))
        exact hK _ _ ⟨b1, b3, b5, W.heap.size, b9, by simp [now, h0, hs8, slN], e0.trans (below_le hb e0.size), fun h => ⟨(p1 h).1, (p1 h).2.keptAll hb⟩, fun h => ⟨(p3 h).1, (p3 h).2.keptAll hb⟩, fun h => ⟨(p5 h).1, (p5 h).2.keptAll hb⟩, fun _ => ⟨e0.size, Blk.new _ _ _⟩, fun h => ⟨(p9 h).1, by have := (p9 h).2.keptAll hb; rw [if_neg hst] at this; rw [if_neg (show ¬ now L' 7 10 = true from hst)]; exact this⟩, q13, q15, fun h _ => Nat.ne_of_lt (p1 h).2.lt, q35, fun h _ => Nat.ne_of_lt (p3 h).2.lt, fun h _ => Nat.ne_of_lt (p5 h).2.lt, fun h => absurd (show L' 10 = true from h) hst, fun h => absurd (show L' 8 = true from h) (by rw [hs8]; simp)⟩
      · have h1 := dep_of hdep 1 (by kernel_rfl)
        have h3 := dep_of hdep 3 (by kernel_rfl)
        have h5 := dep_of hdep 5 (by kernel_rfl)
        have h7 := dep_of hdep 7 (by kernel_rfl)
        simp only [h1, h3, h5, h7, sel_true, slN] 
        go_simp
        exact hK _ _ ⟨b1, b3, b5, b7, b9, by simp [now, h1, h3, h5, h7, slN, tre, tre0, Act.put], e0, p1, p3, p5, p7, p9, q13, q15, q17, q35, q37, q57, d, fun _ => ⟨h1, h3, h5, h7⟩⟩
      · have hst : ¬ L' 10 = true := fun h => by rw [(d h).2.2.2.2] at hLi; cases hLi
        go_simp
        have hb : Below W.heap.size W (W.alloc (.cells tre0 59)) := by (repeat (first | exact Below.refl _ _ | refine below_drew' ?_ | refine below_drewN' ?_ _ | refine below_alloc' ?_ _ | refine below_set' ?_ (by (try simp); (try omega)) _ | refine below_step ?_ (by assumption)))
        exact hK _ _ ⟨b1, b3, b5, b7, W.heap.size, rfl, e0.trans (below_le hb e0.size), fun h => ⟨(p1 h).1, (p1 h).2.keptAll hb⟩, fun h => ⟨(p3 h).1, (p3 h).2.keptAll hb⟩, fun h => ⟨(p5 h).1, (p5 h).2.keptAll hb⟩, fun h => ⟨(p7 h).1, (p7 h).2.keptAll hb⟩, fun _ => ⟨e0.size, by rw [if_neg (show ¬ now L' 9 10 = true from hst)]; exact Blk.new _ _ _⟩, q13, q15, q17, q35, q37, q57, fun h => absurd (show L' 10 = true from h) hst, d8⟩
      · have h9 := dep_of hdep 9 (by kernel_rfl)
        have h8 := dep_of hdep 8 (by kernel_rfl)
        have hBz := (p9 h9).2
        rw [if_neg (show ¬ L' 10 = true by rw [hLi]; simp)] at hBz
        have hgb := (p9 h9).1
        refine wp_store_rowI 59 _ _ rfl b9 0 (tre (slN b1 1) (slN b3 N) (slN b5 N) (slN b7 N)) (by show sel (L' 9) _ = _; rw [h9]; rfl) (by show sel (L' 8) _ = _; rw [h8]; rfl) tre0 _ hBz (by show 0 + 4 ≤ 4; omega) size_tre (tre_one _ _ _ _ _ _ _ _) (tre (slN b1 1) (slN b3 N) (slN b5 N) (slN b7 N)) (over_all _ _ rfl) (fun W2 hs => ?_)
        exact hK _ _ ⟨b1, b3, b5, b7, b9, rfl, hs.below _ _ hgb e0, fun h => ⟨(p1 h).1, hs.keep (blk_apart (p1 h).2 hBz (by decide)) (p1 h).2⟩, fun h => ⟨(p3 h).1, hs.keep (blk_apart (p3 h).2 hBz (by decide)) (p3 h).2⟩, fun h => ⟨(p5 h).1, hs.keep (blk_apart (p5 h).2 hBz (by decide)) (p5 h).2⟩, fun h => ⟨(p7 h).1, hs.keep (blk_apart (p7 h).2 hBz (by decide)) (p7 h).2⟩, fun _ => ⟨hgb, by rw [if_pos (show now L' 10 10 = true from rfl)]; exact hs.blk⟩, q13, q15, q17, q35, q37, q57, fun _ => ⟨dep_of hdep 1 (by kernel_rfl), dep_of hdep 3 (by kernel_rfl), dep_of hdep 5 (by kernel_rfl), dep_of hdep 7 (by kernel_rfl), h9⟩, d8⟩
    · intro L' a W hall hI
      obtain ⟨b1, b3, b5, b7, b9, rfl, e0, p1, p3, p5, p7, p9, q13, q15, q17, q35, q37, q57, d, d8⟩ := hI
      have q := fun i (h : i < 11) => hall i h
      have t9 := p9 (q 9 (by omega))
      rw [if_pos (q 10 (by omega))] at t9
      refine ⟨b1, b3, b5, b7, b9, ?_, e0, fun _ => p1 (q 1 (by omega)), fun _ => p3 (q 3 (by omega)), fun _ => p5 (q 5 (by omega)), fun _ => p7 (q 7 (by omega)), fun _ => t9, fun _ _ => q13 (q 1 (by omega)) (q 3 (by omega)), fun _ _ => q15 (q 1 (by omega)) (q 5 (by omega)), fun _ _ => q17 (q 1 (by omega)) (q 7 (by omega)), fun _ _ => q35 (q 3 (by omega)) (q 5 (by omega)), fun _ _ => q37 (q 3 (by omega)) (q 7 (by omega)), fun _ _ => q57 (q 5 (by omega)) (q 7 (by omega)), fun _ => ⟨rfl, rfl, rfl, rfl, rfl⟩, fun _ => ⟨rfl, rfl, rfl, rfl⟩⟩
      rw [q 0 (by omega), q 1 (by omega), q 2 (by omega), q 3 (by omega), q 4 (by omega), q 5 (by omega), q 6 (by omega), q 7 (by omega), q 8 (by omega), q 9 (by omega)]
  case rest =>
    intro e a W hT
    cases e with
    | normal =>
      obtain ⟨b1, b3, b5, b7, b9, rfl, e0, p1, p3, p5, p7, p9, q13, q15, q17, q35, q37, q57, -, -⟩ := hT
      have hM0 := (hB.alloc (.cells tre0 59)).keptAll e0
      have hR0 : Blk W (w.heap.size + 1) tre0 59 := (Blk.new_at (w.alloc (.cells (mc M) 29)) tre0 59 (w.heap.size + 1) (by simp)).keptAll e0
      have hsz : ((w.alloc (.cells (mc M) 29)).alloc (.cells tre0 59)).heap.size = w.heap.size + 2 := by simp
      have hbw := hbwA.trans (below_le e0 (by omega))
      rw [hsz] at p1 p3 p5 p7 p9
      obtain ⟨g1, r1⟩ := p1 rfl
      obtain ⟨g3, r3⟩ := p3 rfl
      obtain ⟨g5, r5⟩ := p5 rfl
      obtain ⟨g7, r7⟩ := p7 rfl
      obtain ⟨g9, r9⟩ := p9 rfl
      rw [if_pos rfl] at r9
      have n35 := q35 rfl rfl
      have n37 := q37 rfl rfl
      have n57 := q57 rfl rfl
      have n39 := blk_apart r3 r9 (by decide)
      have n59 := blk_apart r5 r9 (by decide)
      have n79 := blk_apart r7 r9 (by decide)
      have n19 := blk_apart r1 r9 (by decide)
      obtain ⟨f1, f2, f3, f4⟩ := first_lists N k
      have hO : OwnI W w.heap.size (slN b1 1) (wdsI [⟨k, 0, 0, 0⟩]) := OwnI.made rfl (by unfold maxLen; omega) (by omega) (by rw [f4]; exact r1)
      have hS : GrwS W w M N b3 b5 b9 (slN b1 1) (slN b7 N) [⟨k, 0, 0, 0⟩] := ⟨hO, r9, by rw [f3]; exact r3, by rw [f2]; exact r5, hM0, hR0, hbw⟩
      have hq3 : b1 ≠ b3 := q13 rfl rfl
      have hq5 : b1 ≠ b5 := q15 rfl rfl
      have hq7 : b1 ≠ b7 := q17 rfl rfl
      have HF1 := Lib.hid f1
      clear p1 p3 p5 p7 p9 q13 q15 q17 q35 q37 q57 e0 hsz hM0 hR0 r1 r3 r5 r9 hO hbw f1 f2 f3 f4 hB hbwA cv0 hmk hzt hvp
      simp only [sel_true]
      have hD0 : Blk W b7 (ints (negL N 0)) 2 := by rw [negL_zero]; exact r7
      clear r7
      go_wp2
      go_loopw [9] (fun i wr => ∃ j : Nat, j ≤ N ∧ i = .int .i64 j ∧ Blk wr b7 (ints (negL N j)) 2 ∧ GrwS wr w M N b3 b5 b9 (slN b1 1) (slN b7 N) [⟨k, 0, 0, 0⟩]) (fun i _ => N - (intOf i).toNat)
      case atStart => exact ⟨0, by omega, rfl, hD0, hS⟩
      case round =>
        clear hD0 hS
        obtain ⟨j, hj, rfl, hD, hS⟩ := hrel
        obtain ⟨w4, rfl⟩ : ∃ x, x = wr := ⟨_, rfl⟩
        have ct3 := hS.tb.cell 3
        rw [show (tre (slN b1 1) (slN b3 N) (slN b5 N) (slN b7 N))[3]? = some (.slice (some ⟨b7, 0, none⟩) N N) from rfl] at ct3
        by_cases hlt : j < N
        · have hji : (j : Int) < (N : Int) := by omega
          have cD := hD.cell j
          rw [negL_get N j j hlt] at cD
          have fD := hD.free
          have hD2 := hD.set j (.int .i64 (-1))
          rw [negL_set N j hlt] at hD2
          have hS2 := hS.put7 (b7 := b7) j (.int .i64 (-1)) g7 n37 n57 n79 (fun e => hq7 (Option.some.inj e))
          clear hS hD
          go_wp2
          go_roundw
          case rel => exact ⟨j + 1, by omega, by go_num, hD2, hS2⟩
          case measure => simp [intOf] <;> omega
        · obtain rfl : N = j := by omega
          rw [negL_all] at hD
          have cD := hD.cell k
          rw [show (ints (List.replicate N (-1)))[k]? = some (.int .i64 (-1)) by simp [ints, hk]] at cD
          have fD := hD.free
          have hki : (k : Int) < (N : Int) := by omega
          have hD2 := hD.set k (.int .i64 0)
          rw [← ints_set, ← HF1.out] at hD2
          have hS2 := hS.put7 (b7 := b7) k (.int .i64 0) g7 n37 n57 n79 (fun e => hq7 (Option.some.inj e))
          clear hS hD
          go_wp2
          have hK0 : growT Ps (N + 1 - 0) 0 [⟨k, 0, 0, 0⟩] = treeT Ps N k := rfl
          go_loopw [10] (fun i wr => ∃ (p : Nat) (T : List Ent) (qv : Value), i = .int .i64 p ∧ p ≤ T.length ∧ growT Ps (N + 1 - p) p T = treeT Ps N k ∧ TOk N T ∧ GrwS wr w M N b3 b5 b9 qv (slN b7 N) T ∧ Blk wr b7 (ints (distL N T)) 2 ∧ qv.ownBlock ≠ some b3 ∧ qv.ownBlock ≠ some b5 ∧ qv.ownBlock ≠ some b7 ∧ qv.ownBlock ≠ some b9) (fun i _ => N + 1 - (intOf i).toNat)
          case atStart => exact ⟨0, _, slN b1 1, rfl, Nat.zero_le _, hK0, TOk.first hk, hS2, hD2, fun e => hq3 (Option.some.inj e), fun e => hq5 (Option.some.inj e), fun e => hq7 (Option.some.inj e), fun e => n19 (Option.some.inj e)⟩
          case round =>
            clear hS2 hD2 hK0 cD fD ct3 HF1
            obtain ⟨p, T, qv, rfl, hpT, hgr, hok1, hS, hD, hq3, hq5, hq7, hq9⟩ := hrel
            obtain ⟨w4, rfl⟩ : ∃ x, x = wr := ⟨_, rfl⟩
            have hTN := hok1.len
            obtain ⟨oq, cq, hqe, hqv⟩ := hS.own.sees.view
            rw [wdsI_len] at hqe
            have ct0 := hS.tb.cell 0
            rw [show (tre qv (slN b3 N) (slN b5 N) (slN b7 N))[0]? = some qv from rfl, hqe] at ct0
            by_cases hlt : p < T.length
            · obtain ⟨gq, rfl, hgq, hqc⟩ := hqv (by rw [wdsI_len]; omega)
              have cq0 := hqc p (by rw [wdsI_len]; exact hlt)
              rw [wdsI_at] at cq0
              have hpi : (p : Int) < (T.length : Int) := by omega
              have hpN : (entAt T p).word < N := hok1.lt _ (entAt_mem hlt)
              have Hpg := Lib.hid (growT_next Ps (N - p) p T hlt)
              rw [show N + 1 - p = N - p + 1 by omega] at hgr
              have HGR := Lib.hid hgr
              have HS := Lib.hid hS
              have HD := Lib.hid hD
              have HO1 := Lib.hid hok1
              have H3 := Lib.hid hq3
              have H5 := Lib.hid hq5
              have H7 := Lib.hid hq7
              have H9 := Lib.hid hq9
              clear hS hD hgr hq3 hq5 hq7 hq9 hqv hqc
              go_wp2
              go_loopw [12] (fun i wr => ∃ (j : Nat) (qv : Value), i = .int .i64 j ∧ j ≤ Ps.length ∧ TOk N (visT Ps p T j) ∧ GrwS wr w M N b3 b5 b9 qv (slN b7 N) (visT Ps p T j) ∧ Blk wr b7 (ints (distL N (visT Ps p T j))) 2 ∧ qv.ownBlock ≠ some b3 ∧ qv.ownBlock ≠ some b5 ∧ qv.ownBlock ≠ some b7 ∧ qv.ownBlock ≠ some b9) (fun i _ => Ps.length - (intOf i).toNat)
              case atStart => exact ⟨0, qv, rfl, Nat.zero_le _, HO1.out, HS.out, HD.out, H3.out, H5.out, H7.out, H9.out⟩
              case round =>
                clear HS HD HO1 H3 H5 H7 H9 ct0 cq0 hgq hqe
                obtain ⟨j, qv, rfl, hj, hok1, hS, hD, hq3, hq5, hq7, hq9⟩ := hrel
                obtain ⟨w5, rfl⟩ : ∃ x, x = wr := ⟨_, rfl⟩
                have cS := hS.mach.cell 1
                rw [HcS.out] at cS
                have hm2 : IntKind.i64.wrap (2 * (S : Int)) = 2 * (S : Int) := IntWalk.i64_in _ (by omega)
                by_cases hjl : j < Ps.length
                · have hji : (j : Int) < 2 * (S : Int) := by omega
                  obtain ⟨hv1, hv2⟩ := vis_len Ps p T j hj
                  have hv3 := hv2 p hlt
                  have HVS := Lib.hid (visT_succ Ps p T j hjl)
                  clear hv2
                  generalize visT Ps p T j = T1 at *
                  have hTN1 := hok1.len
                  have hlt1 : p < T1.length := by omega
                  have hZl : j < Zs.length := by rw [HLEN.out]; omega
                  have hvl : j < vs.length := by rw [HVL.out]; exact hZl
                  have hV5 := HV.out.below hS.low
                  have cv0 := hV5.cell j hvl
                  have hsee := (hV5.own j hvl hZl).sees
                  obtain ⟨o1, c1, hue, hqq⟩ := hsee.view
                  clear hqq
                  rw [hue] at hsee cv0
                  obtain ⟨hxl, hxe, hyN⟩ := HOkT.out.to j hjl _ hpN
                  have hxl2 : (entAt T p).word < Zs[j].length := by rw [HTab.out j hjl hZl]; exact hxl
                  obtain ⟨gu, rfl, hgu, cu⟩ := hsee.at _ hxl2
                  have hze : Zs[j][(entAt T p).word] = ((toN Ps[j] (entAt T p).word : Nat) : Int) := by
                    rw [← hxe]
                    congr 1
                    exact HTab.out j hjl hZl
                  rw [hze] at cu
                  rw [HTO.out j hZl] at cv0
                  have hdN : (entAt T p).dist ≤ p := by rw [← hv3]; exact hok1.dist p hlt1
                  obtain ⟨hxd, -, -⟩ := dist_met (N := N) (T := T1) (entAt T p).word hpN
                  have hdx : (distL N T1)[(entAt T p).word] = ((entAt T p).dist : Int) := by
                    have := dist_at hok1 p hlt1 (by rw [hv3]; exact hxd)
                    simp only [hv3] at this
                    exact this
                  have HAdd : Hid (toN Ps[j] (entAt T p).word ∉ wds T1 → TOk N (T1 ++ [newE p T1 Ps[j]])) := Lib.hid (fun hn => hok1.add HOkT.out (List.getElem_mem hjl) hlt1 (by rw [hv3]; exact hn))
                  have HAT : Hid (addT p T1 Ps[j] = if toN Ps[j] (entAt T p).word ∈ wds T1 then T1 else T1 ++ [newE p T1 Ps[j]]) := Lib.hid (by unfold addT; rw [hv3])
                  have HE : Hid (newE p T1 Ps[j] = ⟨toN Ps[j] (entAt T p).word, p, if j < S then (j : Int) + 1 else (S : Int) - j - 1, (entAt T p).dist + 1⟩) := Lib.hid (by unfold newE; rw [hv3, HNum.out j hjl])
                  have HW := Lib.hid hv3
                  obtain ⟨hyd, hyp, hyn⟩ := dist_met (N := N) (T := T1) (toN Ps[j] (entAt T p).word) hyN
                  have cy := hD.cell (toN Ps[j] (entAt T p).word)
                  have cx := hD.cell (entAt T p).word
                  have gd := fun i (h : i < (distL N T1).length) => show (ints (distL N T1))[i]? = some (.int .i64 (distL N T1)[i]) by simp [ints, h]
                  rw [gd _ hyd] at cy
                  rw [gd _ hxd, hdx] at cx
                  clear hsee hue hze hxe hxl hxl2 gd hdx hV5
                  generalize toN Ps[j] (entAt T p).word = y at *
                  generalize hx0 : (entAt T p).word = x at *
                  generalize (entAt T p).dist = dd at *
                  generalize (distL N T1)[y] = dy at *
                  have ct3 := hS.tb.cell 3
                  rw [show (tre qv (slN b3 N) (slN b5 N) (slN b7 N))[3]? = some (.slice (some ⟨b7, 0, none⟩) N N) from rfl] at ct3
                  have hxi : (x : Int) < (N : Int) := by omega
                  have hyi : (y : Int) < (N : Int) := by omega
                  have hjv : (j : Int) < (vs.length : Int) := by omega
                  by_cases hin : y ∈ wds T1
                  · have hd0 := hyp hin
                    have hA2 : Hid (visT Ps p T (j + 1) = T1) := Lib.hid (by rw [HVS.out, HAT.out, if_pos hin])
                    have HS := Lib.hid hS
                    have HD := Lib.hid hD
                    clear hyp hyn hin HVS HAT HAdd HE hS hD
                    go_wp2
                    go_roundw
                    case rel => exact ⟨j + 1, qv, by go_num, by omega, by rw [hA2.out]; exact hok1, by rw [hA2.out]; exact HS.out, by rw [hA2.out]; exact HD.out, hq3, hq5, hq7, hq9⟩
                    case measure => simp [intOf] <;> omega
                  · have hd0 := hyn hin
                    have hA2 : Hid (visT Ps p T (j + 1) = T1 ++ [newE p T1 Ps[j]]) := Lib.hid (by rw [HVS.out, HAT.out, if_neg hin])
                    have hOk2 := HAdd.out hin
                    subst hd0
                    clear hyp hyn HVS HAT HAdd
                    go_wp2
                    have hX : GrwX w5 w M N b3 b5 b7 b9 qv (wdsI T1) (fromL N T1) (stpL N T1) (distL N T1) := ⟨hS.own, hS.tb, hS.fr, hS.st, hD, hS.mach, hS.res, hS.low, ⟨g3, g5, g7, g9⟩, ⟨n35, n37, n57, n39, n59, n79⟩, ⟨hq3, hq5, hq7, hq9⟩⟩
                    have hXd := hX.keep (w1 := w5.drew) (Below.refl _ _).drew
                    clear hS hD hq3 hq5 hq7 hq9 ct3 cv0 cu cS cy
                    have Hc3 : Hid ((tre qv (slN b3 N) (slN b5 N) (slN b7 N))[3]? = some (.slice (some ⟨b7, 0, none⟩) N N)) := Lib.hid rfl
                    have Hcx : Hid ((ints (distL N T1))[x]? = some (.int .i64 (dd : Int))) := Lib.hid (by rw [← hX.di.cell x]; exact cx)
                    have hxy : x ≠ y := fun e => hin (by rw [← e, ← hx0, ← HW.out]; exact List.mem_map.2 ⟨_, entAt_mem hlt1, rfl⟩)
                    have hddw : IntKind.i64.wrap ((dd : Int) + 1) = (dd : Int) + 1 := IntWalk.i64_in _ (by omega)
                    refine wp_region_held_drew (S := fun W => Blk W b9 (tre qv (slN b3 N) (slN b5 N) (slN b7 N)) 59 ∧ W.cell? ⟨b7, x, none⟩ = some (.int .i64 (dd : Int))) (by kernel_rfl) ⟨hXd.tb, cx⟩ (fun hS0 => ?_)
                    clear cx hX
                    generalize w5.drew = w6 at *
                    (refine hK_take 0 (.pointer (some ⟨b9, 3, none⟩)) rfl (by kernel_rfl) (by kernel_rfl) (by kernel_rfl) (fun _ _ _ h => h) rfl (fun W _ => by go_simp) hS0 ?_; (intro K hK; go_simp; refine hK _ ?_; clear hK K))
                    (refine hK_take 1 (.slice (some ⟨b7, 0, none⟩) N N) rfl (by kernel_rfl) (by kernel_rfl) (by kernel_rfl) (fun _ _ _ h => h) rfl (fun W hW => by have c1 := hW.1.cell 3; rw [Hc3.out] at c1; clear hW; go_simp) hS0 ?_; (intro K hK; go_simp; refine hK _ ?_; clear hK K))
                    (refine hK_take 2 (.int .i64 (y : Int)) rfl (by kernel_rfl) (by kernel_rfl) (by kernel_rfl) (fun _ _ _ h => h) rfl (fun W _ => by go_simp) hS0 ?_; (intro K hK; go_simp; refine hK _ ?_; clear hK K))
                    (refine hK_take 3 (.pointer (some ⟨b9, 3, none⟩)) rfl (by kernel_rfl) (by kernel_rfl) (by kernel_rfl) (fun _ _ _ h => h) rfl (fun W _ => by go_simp) hS0 ?_; (intro K hK; go_simp; refine hK _ ?_; clear hK K))
                    (refine hK_take 4 (.slice (some ⟨b7, 0, none⟩) N N) rfl (by kernel_rfl) (by kernel_rfl) (by kernel_rfl) (fun _ _ _ h => h) rfl (fun W hW => by have c1 := hW.1.cell 3; rw [Hc3.out] at c1; clear hW; go_simp) hS0 ?_; (intro K hK; go_simp; refine hK _ ?_; clear hK K))
                    (refine hK_take 5 (.int .i64 (x : Int)) rfl (by kernel_rfl) (by kernel_rfl) (by kernel_rfl) (fun _ _ _ h => h) rfl (fun W _ => by go_simp) hS0 ?_; (intro K hK; go_simp; refine hK _ ?_; clear hK K))
                    (refine hK_take 6 (.pointer (some ⟨b7, x, none⟩)) rfl (by kernel_rfl) (by kernel_rfl) (by kernel_rfl) (fun _ _ _ h => h) rfl (fun W _ => by go_simp) hS0 ?_; (intro K hK; go_simp; refine hK _ ?_; clear hK K))
                    (refine hK_take 7 (.int .i64 (dd : Int)) rfl (by kernel_rfl) (by kernel_rfl) (by kernel_rfl) (fun _ _ _ h => h) rfl (fun W hW => by have c1 := hW.2; clear hW; go_simp) hS0 ?_; (intro K hK; go_simp; refine hK _ ?_; clear hK K))
                    (refine hK_take 8 (.int .i64 ((dd : Int) + 1)) rfl (by kernel_rfl) (by kernel_rfl) (by kernel_rfl) (fun _ _ _ h => h) rfl (fun W _ => by go_simp; try exact hddw) hS0 ?_; (intro K hK; go_simp; refine hK _ ?_; clear hK K))
                    (refine hK_take 9 (.pointer (some ⟨b7, y, none⟩)) rfl (by kernel_rfl) (by kernel_rfl) (by kernel_rfl) (fun _ _ _ h => h) rfl (fun W _ => by go_simp) hS0 ?_; (intro K hK; go_simp; refine hK _ ?_; clear hK K))
                    refine wpAnyH_ready (rs := [10]) (by kernel_rfl) (by simp) ?_
                    refine AllReadyH.cons rfl (fun K hK => ?_) AllReadyH.nil
                    have cG := hXd.di.cell y
                    rw [show (ints (distL N T1))[y]? = some (.int .i64 ((distL N T1).getD y 0)) from ints_getD _ y hyd] at cG
                    have fG := hXd.di.free
                    have hX7 := hXd.put7 y ((dd : Int) + 1)
                    go_simp
                    refine hK.out _ _ ⟨hX7.tb, by rw [hX7.di.cell x, ints_set, Array.getElem?_setIfInBounds_ne (Ne.symm hxy)]; exact Hcx.out⟩ (fun hS1 => ?_)
                    clear hK K cG fG hXd hS0 hS1
                    refine wpAnyH_done (by kernel_rfl) ?_ _
                    generalize w6.setCell ⟨b7, y, none⟩ (.int .i64 ((dd : Int) + 1)) = w7 at *
                    obtain ⟨oq1, cq1, hqe, hqq⟩ := hX7.own.sees.view
                    clear hqq
                    rw [wdsI_len] at hqe
                    subst hqe
                    have Hc0 : Hid ((tre (.slice oq1 T1.length cq1) (slN b3 N) (slN b5 N) (slN b7 N))[0]? = some (.slice oq1 T1.length cq1)) := Lib.hid rfl
                    have ct0 := hX7.tb.cell 0
                    have ct1 := hX7.tb.cell 1
                    have ct2 := hX7.tb.cell 2
                    rw [Hc0.out] at ct0
                    rw [show (tre (.slice oq1 T1.length cq1) (slN b3 N) (slN b5 N) (slN b7 N))[1]? = some (.slice (some ⟨b3, 0, none⟩) N N) from rfl] at ct1
                    rw [show (tre (.slice oq1 T1.length cq1) (slN b3 N) (slN b5 N) (slN b7 N))[2]? = some (.slice (some ⟨b5, 0, none⟩) N N) from rfl] at ct2
                    have c3 := hX7.fr.cell y
                    rw [ints_getD _ y (by rw [fromL_len]; exact hyN)] at c3
                    have c5 := hX7.st.cell y
                    rw [ints_getD _ y (by rw [stpL_len]; exact hyN)] at c5
                    have f3 := hX7.fr.free
                    have f5 := hX7.st.free
                    have m35 := Ne.symm n35
                    have m39 := Ne.symm n39
                    have m59 := Ne.symm n59
                    have hmw := hX7.mach.cell 1
                    rw [HcS.out] at hmw
                    have hmb : w.heap.size ≠ b3 ∧ w.heap.size ≠ b5 := ⟨by omega, by omega⟩
                    obtain ⟨m3, m5⟩ := hmb
                    by_cases hjs : j < S
                    · have hjS : (j : Int) < (S : Int) := by omega
                      have HA3 : Hid (visT Ps p T (j + 1) = T1 ++ [⟨y, p, (j : Int) + 1, dd + 1⟩]) := Lib.hid (by rw [hA2.out, HE.out, if_pos (by omega)])
                      have hX9 := ((hX7.put3 y (x : Int)).put5 y ((j : Int) + 1))
                      have hXA := hX9.keep (w1 := ((w7.setCell ⟨b3, y, none⟩ (.int .i64 (x : Int))).setCell ⟨b5, y, none⟩ (.int .i64 ((j : Int) + 1))).alloc (.cells #[.int .i64 (y : Int)] 2)) (by (repeat (first | exact Below.refl _ _ | refine below_drew' ?_ | refine below_drewN' ?_ _ | refine below_alloc' ?_ _ | refine below_set' ?_ (by (try simp); (try omega)) _ | refine below_step ?_ (by assumption))))
                      have hnew : Blk (((w7.setCell ⟨b3, y, none⟩ (.int .i64 (x : Int))).setCell ⟨b5, y, none⟩ (.int .i64 ((j : Int) + 1))).alloc (.cells #[.int .i64 (y : Int)] 2)) w7.heap.size #[.int .i64 (y : Int)] 2 := Blk.new_at _ _ _ _ (by simp)
                      have hbs := hXA.low.size
                      have hTb := hXA.tb
                      have hTl := hXA.tb.lt
                      have HXA := Lib.hid hXA
                      have HX7 := Lib.hid hX7
                      clear hX9 hXA hX7
                      go_wp2_with (at_builtin; refine wpList_push_int_at rfl (.tmp 107) (.tmp 109) rfl w.heap.size (.slice oq1 T1.length cq1) (wdsI T1) rfl HXA.out.own w7.heap.size 1 (y : Int) rfl hnew (by rw [wdsI_len]; omega) hbs ?_; intro v8 w8 hO8 hb8 hsp8 hat8; obtain ⟨o8, c8, e8, hq8⟩ := hO8.view; clear hq8; rw [List.length_append, List.length_singleton] at e8; subst e8; have hT8 : Blk w8 b9 (tre (.slice oq1 T1.length cq1) (slN b3 N) (slN b5 N) (slN b7 N)) 59 := (hsp8 _ hTl (fun e => HXA.out.q.2.2.2 e.symm)).trans hTb; have c8 := hT8.cell 0; rw [Hc0.out] at c8; have f8 := hT8.free)
                      have hXB := HXA.out.push hO8 hb8 hsp8 hat8
                      have hl2 := fromL_add N T1 ⟨y, p, (j : Int) + 1, dd + 1⟩ hok1 (by omega) hlt1 hin
                      have hl3 := stpL_add N T1 ⟨y, p, (j : Int) + 1, dd + 1⟩ hin
                      have hl4 := distL_add N T1 ⟨y, p, (j : Int) + 1, dd + 1⟩ hin
                      have hl1 := wdsI_add T1 ⟨y, p, (j : Int) + 1, dd + 1⟩
                      simp only [HW.out, hx0] at hl2
                      go_roundw
                      case rel => exact ⟨j + 1, _, by go_num, by omega, by rw [hA2.out]; exact hOk2, by rw [HA3.out]; exact ⟨by rw [hl1]; exact hXB.own, hXB.tb, by rw [hl2]; exact hXB.fr, by rw [hl3]; exact hXB.st, hXB.mach, hXB.res, hXB.low⟩, by rw [HA3.out, hl4]; exact hXB.di, hXB.q.1, hXB.q.2.1, hXB.q.2.2.1, hXB.q.2.2.2⟩
                      case measure => simp [intOf] <;> omega
                    · have hjS : (S : Int) ≤ (j : Int) := by omega
                      have HA3 : Hid (visT Ps p T (j + 1) = T1 ++ [⟨y, p, (S : Int) - (j : Int) - 1, dd + 1⟩]) := Lib.hid (by rw [hA2.out, HE.out, if_neg (by omega)])
                      have hX9 := (((hX7.put3 y (x : Int)).put5 y ((j : Int) + 1)).put5 y ((S : Int) - (j : Int) - 1))
                      have hXA := hX9.keep (w1 := (((w7.setCell ⟨b3, y, none⟩ (.int .i64 (x : Int))).setCell ⟨b5, y, none⟩ (.int .i64 ((j : Int) + 1))).setCell ⟨b5, y, none⟩ (.int .i64 ((S : Int) - (j : Int) - 1))).alloc (.cells #[.int .i64 (y : Int)] 2)) (by (repeat (first | exact Below.refl _ _ | refine below_drew' ?_ | refine below_drewN' ?_ _ | refine below_alloc' ?_ _ | refine below_set' ?_ (by (try simp); (try omega)) _ | refine below_step ?_ (by assumption))))
                      have hnew : Blk ((((w7.setCell ⟨b3, y, none⟩ (.int .i64 (x : Int))).setCell ⟨b5, y, none⟩ (.int .i64 ((j : Int) + 1))).setCell ⟨b5, y, none⟩ (.int .i64 ((S : Int) - (j : Int) - 1))).alloc (.cells #[.int .i64 (y : Int)] 2)) w7.heap.size #[.int .i64 (y : Int)] 2 := Blk.new_at _ _ _ _ (by simp)
                      have hbs := hXA.low.size
                      have hTb := hXA.tb
                      have hTl := hXA.tb.lt
                      have HXA := Lib.hid hXA
                      have HX7 := Lib.hid hX7
                      clear hX9 hXA hX7
                      go_wp2_with (at_builtin; refine wpList_push_int_at rfl (.tmp 107) (.tmp 109) rfl w.heap.size (.slice oq1 T1.length cq1) (wdsI T1) rfl HXA.out.own w7.heap.size 1 (y : Int) rfl hnew (by rw [wdsI_len]; omega) hbs ?_; intro v8 w8 hO8 hb8 hsp8 hat8; obtain ⟨o8, c8, e8, hq8⟩ := hO8.view; clear hq8; rw [List.length_append, List.length_singleton] at e8; subst e8; have hT8 : Blk w8 b9 (tre (.slice oq1 T1.length cq1) (slN b3 N) (slN b5 N) (slN b7 N)) 59 := (hsp8 _ hTl (fun e => HXA.out.q.2.2.2 e.symm)).trans hTb; have c8 := hT8.cell 0; rw [Hc0.out] at c8; have f8 := hT8.free)
                      have hXB := HXA.out.push hO8 hb8 hsp8 hat8
                      have hl2 := fromL_add N T1 ⟨y, p, (S : Int) - (j : Int) - 1, dd + 1⟩ hok1 (by omega) hlt1 hin
                      have hl3 := stpL_add N T1 ⟨y, p, (S : Int) - (j : Int) - 1, dd + 1⟩ hin
                      have hl4 := distL_add N T1 ⟨y, p, (S : Int) - (j : Int) - 1, dd + 1⟩ hin
                      have hl1 := wdsI_add T1 ⟨y, p, (S : Int) - (j : Int) - 1, dd + 1⟩
                      simp only [HW.out, hx0] at hl2
                      rw [List.set_set] at hXB
                      go_roundw
                      case rel => exact ⟨j + 1, _, by go_num, by omega, by rw [hA2.out]; exact hOk2, by rw [HA3.out]; exact ⟨by rw [hl1]; exact hXB.own, hXB.tb, by rw [hl2]; exact hXB.fr, by rw [hl3]; exact hXB.st, hXB.mach, hXB.res, hXB.low⟩, by rw [HA3.out, hl4]; exact hXB.di, hXB.q.1, hXB.q.2.1, hXB.q.2.2.1, hXB.q.2.2.2⟩
                      case measure => simp [intOf] <;> omega
                · obtain rfl : Ps.length = j := by omega
                  have hji : ¬ ((Ps.length : Int) < 2 * (S : Int)) := by omega
                  have hjS : 2 * (S : Int) = (Ps.length : Int) := by omega
                  have hgr2 : growT Ps (N + 1 - (p + 1)) (p + 1) (visT Ps p T Ps.length) = treeT Ps N k := by rw [← HGR.out, Hpg.out, show N + 1 - (p + 1) = N - p by omega]
                  have hv1 := (vis_len Ps p T Ps.length (Nat.le_refl _)).1
                  have HGR2 := Lib.hid hgr2
                  have HS := Lib.hid hS
                  have HD := Lib.hid hD
                  clear hS hD hgr2 Hpg HGR
                  generalize visT Ps p T Ps.length = T1 at *
                  go_wp2
                  go_roundw
                  case rel => exact ⟨p + 1, T1, qv, by go_num, by omega, HGR2.out, hok1, HS.out, HD.out, hq3, hq5, hq7, hq9⟩
                  case measure => simp [intOf] <;> omega
            · obtain rfl : T.length = p := by omega
              rw [show N + 1 - T.length = N - T.length + 1 by omega, growT_end _ _ _ _ hlt] at hgr
              have HGR0 := Lib.hid hgr
              clear hgr
              subst hqe
              have hO := hS.own
              have hT9 := hS.tb
              have hR9 := hS.res
              have hL9 := hS.low
              have hF9 := hS.fr
              have hG9 := hS.st
              have hne9 : w.heap.size + 1 ≠ b9 := by omega
              have hs1 : (tre (.slice oq T.length cq) (slN b3 N) (slN b5 N) (slN b7 N)).all (·.oneCell') = true := by simp [tre, slN, Value.oneCell']
              clear hS hqv
              have ct1 := hT9.cell 1
              have ct2 := hT9.cell 2
              have ct3 := hT9.cell 3
              rw [show (tre (.slice oq T.length cq) (slN b3 N) (slN b5 N) (slN b7 N))[1]? = some (.slice (some ⟨b3, 0, none⟩) N N) from rfl] at ct1
              rw [show (tre (.slice oq T.length cq) (slN b3 N) (slN b5 N) (slN b7 N))[2]? = some (.slice (some ⟨b5, 0, none⟩) N N) from rfl] at ct2
              rw [show (tre (.slice oq T.length cq) (slN b3 N) (slN b5 N) (slN b7 N))[3]? = some (.slice (some ⟨b7, 0, none⟩) N N) from rfl] at ct3
              have cr0 := hR9.cell 0
              have cr1 := hR9.cell 1
              have cr2 := hR9.cell 2
              have cr3 := hR9.cell 3
              rw [show tre0[0]? = some (.slice none 0 0) from rfl] at cr0
              rw [show tre0[1]? = some (.slice none 0 0) from rfl] at cr1
              rw [show tre0[2]? = some (.slice none 0 0) from rfl] at cr2
              rw [show tre0[3]? = some (.slice none 0 0) from rfl] at cr3
              have fr9 := hR9.free
              have hrq : (Value.slice oq T.length cq).ownBlock ≠ some (w.heap.size + 1) := fun e => by
                rcases hO.2 with ⟨h0, _⟩ | ⟨g, c1, cur, h0, _, hh, _⟩
                · rw [h0] at e; cases e
                · rw [h0] at e
                  have e2 : g = w.heap.size + 1 := by simpa [Value.ownBlock] using e
                  unfold Blk at hR9
                  rw [e2, hR9] at hh
                  simp at hh
              obtain ⟨X, hX⟩ : ∃ X, X = (((w4.setCell ⟨w.heap.size + 1, 0, none⟩ (.slice oq T.length cq)).setCell ⟨w.heap.size + 1, 1, none⟩ (.slice (some ⟨b3, 0, none⟩) N N)).setCell ⟨w.heap.size + 1, 2, none⟩ (.slice (some ⟨b5, 0, none⟩) N N)).setCell ⟨w.heap.size + 1, 3, none⟩ (.slice (some ⟨b7, 0, none⟩) N N) := ⟨_, rfl⟩
              have hR10 : Blk X (w.heap.size + 1) (tre (.slice oq T.length cq) (slN b3 N) (slN b5 N) (slN b7 N)) 59 := by
                rw [hX]
                exact (((hR9.set 0 _).set 1 _).set 2 _).set 3 _
              have ho : ∀ q, q ≠ w.heap.size + 1 → X.heap[q]? = w4.heap[q]? := fun q hq => by
                rw [hX]
                exact (Below.heap_setCell _ ⟨w.heap.size + 1, 3, none⟩ _ q hq).trans ((Below.heap_setCell _ ⟨w.heap.size + 1, 2, none⟩ _ q hq).trans ((Below.heap_setCell _ ⟨w.heap.size + 1, 1, none⟩ _ q hq).trans (Below.heap_setCell _ ⟨w.heap.size + 1, 0, none⟩ _ q hq)))
              have hlow : Below w.heap.size w X := by
                rw [hX]
                exact (((hL9.setCell (by show w.heap.size ≤ w.heap.size + 1; omega) _).setCell (by show w.heap.size ≤ w.heap.size + 1; omega) _).setCell (by show w.heap.size ≤ w.heap.size + 1; omega) _).setCell (by show w.heap.size ≤ w.heap.size + 1; omega) _
              have HX := Lib.hid hX
              clear hX
              go_wp2
              rw [← HX.out]
              have kp : ∀ (bb : Nat) (c : Array Value) (T2 : TypeId), Blk w4 bb c T2 → w.heap.size + 2 ≤ bb → Blk X bb c T2 := fun bb c T2 hB hge => (ho bb (by omega)).trans hB
              refine bodyPost_cell rfl rfl hR10 Try.underlying59 rfl size_tre rfl ⟨_, _, _, _, T, rfl, HGR0.out, hok1, owns_same hO (fun q hq => ho q (fun e => hrq (by rw [hq, e]))), OwnI.made (fromL_len N T) (by unfold maxLen; omega) (by omega) (kp _ _ _ hF9 g3), OwnI.made (stpL_len N T) (by unfold maxLen; omega) (by omega) (kp _ _ _ hG9 g5), OwnI.made (distL_len N T) (by unfold maxLen; omega) (by omega) (kp _ _ _ hD g7), hlow⟩
    | _ => exact hT.elim
end Go.Proofs.Yticnpajbefflbab
