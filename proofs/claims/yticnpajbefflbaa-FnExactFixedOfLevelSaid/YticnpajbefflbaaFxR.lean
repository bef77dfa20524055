/- 'FixedOfLevel': plain data; the program. -/
import Derived.Test.YticnpajbefflbaaRgS
import Derived.Test.YticnpajbefflbaaOlS
namespace Go.Proofs.Yticnpajbefflbaa
open Go.RowKit Go.Shelf
attribute [local go_sem] Oper.semAt_some

/-- The words that a group word leaves. -/
def fxB (M : Mach) (zs : List Int) (x : ByteArray) : Bool := decide ((actG M zs x.data.toList).1 = x.data.toList)
def foF (M : Mach) (zs : List Int) (pre : List ByteArray) : List ByteArray := pre.filter (fxB M zs)
theorem foF_yes (M : Mach) (zs : List Int) (pre : List ByteArray) (x : ByteArray) (h : fxB M zs x = true) : foF M zs (pre ++ [x]) = foF M zs pre ++ [x] := by simp [foF, h]
theorem foF_no (M : Mach) (zs : List Int) (pre : List ByteArray) (x : ByteArray) (h : fxB M zs x = false) : foF M zs (pre ++ [x]) = foF M zs pre := by simp [foF, h]
theorem foF_len (M : Mach) (zs : List Int) (pre : List ByteArray) : (foF M zs pre).length ≤ pre.length := List.length_filter_le _ _
theorem wordS_fit (d n k : Nat) (hd : d = 2 ∨ d = 3) : (wordS d n k).data.toList.length = n ∧ lettersL d (wordS d n k).data.toList = true := by
  have e : (wordS d n k).data.toList = wordOf d n k := by simp [wordS]
  rw [e]
  exact ⟨length_wordOf d n k, lettersL_wordOf d hd n k⟩
theorem mem_words (d n : Nat) (hd : d = 2 ∨ d = 3) (x : ByteArray) (h : x ∈ wordsL d n) : x.data.toList.length = n ∧ lettersL d x.data.toList = true := by
  unfold wordsL at h
  obtain ⟨k, _, rfl⟩ := List.mem_map.1 h
  exact wordS_fit d n k hd
def foR (M : Mach) (zs : List Int) (n : Int) : List ByteArray := if isGrp M zs = true ∧ (0 ≤ n ∧ n ≤ 5) then foF M zs (wordsL M.L.toNat n.toNat) else []
theorem permGC_in {M : Mach} {zs : List Int} {n : Int} (h : permGC M zs n = 0) : isGrp M zs = true ∧ (0 ≤ n ∧ n ≤ 5) := by
  unfold permGC at h
  split at h
  · rename_i hm
    split at h
    · rename_i hn; exact ⟨hm, hn⟩
    · exact absurd h (by omega)
  · exact absurd h (by omega)
theorem foR_good {M : Mach} {L S nn : Nat} {zs : List Int} (hg : Good M L S) (h : permGC M zs nn = 0) : foR M zs nn = foF M zs (wordsL L nn) := by
  unfold foR
  rw [if_pos (permGC_in h), hg.hL]
  rfl
theorem foR_bad {M : Mach} {zs : List Int} {n : Int} (h : permGC M zs n ≠ 0) : foR M zs n = [] := by
  unfold foR
  rw [if_neg]
  rintro ⟨hm, hn⟩
  exact h (by unfold permGC; rw [if_pos hm, if_pos hn])
theorem foR_len (M : Mach) (hok : M.Ok) (zs : List Int) (n : Int) : (foR M zs n).length ≤ 243 := by
  by_cases h : permGC M zs n = 0
  · obtain ⟨L, S, nn, hg, rfl, hn5, _, _, _, _⟩ := permGC_zero hok h
    rw [foR_good hg h]
    exact Nat.le_trans (foF_len _ _ _) (by rw [wordsL_len]; exact pow_le L nn hg.L3 hn5)
  · rw [foR_bad h]; simp

set_option maxRecDepth 100000 in
set_option maxHeartbeats 1000000 in
theorem checkLevel_calls (M : Mach) (hok : M.Ok) (v : Value) (zs : List Int) (n : Int) (w : World) (hv : SeesI w v zs) :
    Calls Try.prog 39 #[.agg (mc M), v, .int .i64 n] w fun e w' => e = .returned (.int .i64 (permGC M zs n)) ∧ Below w.heap.size w w' := by
  have F1 : Hid (cut (mc M) 0 98 = mc M) := Lib.hid (cut_all _ _ (mc_size hok)); have F2 : Hid (0 + 98 ≤ (mc M).size) := Lib.hid (by rw [mc_size hok]; omega)
  have hB : Blk (w.alloc (.cells (mc M) 29)) w.heap.size (mc M) 29 := Blk.new w _ _
  have hbw0 : Below w.heap.size w (w.alloc (.cells (mc M) 29)) := by (repeat (first | exact Below.refl _ _ | refine below_drew' ?_ | refine below_drewN' ?_ _ | refine below_alloc' ?_ _ | refine below_set' ?_ (by (try simp); (try omega)) _ | refine below_step ?_ (by assumption)))
  have hvB := hv.below hbw0
  clear hv
  cases hm : isGrp M zs
  · have Hc : Hid (permGC M zs n = 1) := Lib.hid (by simp [permGC, hm])
    go_enter Try.func39, Try.ntmps39
    go_wp2_with (first | (with_reducible show wpList _ _ _ _ _ _; refine wpList_load_blk rfl 29 (.tmp 3) rfl w.heap.size 0 rfl (mc M) _ (hB) 98 F2.out _ Try.underlying29 rfl size_mach ?_; rw [F1.out]) | (go_at_call 61; refine (IsGroupWord_calls M hok _ zs _ hvB).mono ?_; rintro e w1 ⟨rfl, hb1⟩; rw [hm]))
    go_ret
    exact ⟨ret_i1 Hc.out.symm, below_step hbw0 hb1⟩
  · by_cases hn : 0 ≤ n ∧ n ≤ 5
    · have Hc : Hid (permGC M zs n = 0) := Lib.hid (by unfold permGC; rw [if_pos hm, if_pos hn])
      have hln : isLev n = true := (isLev_iff n).2 hn
      clear hn
      go_enter Try.func39, Try.ntmps39
      go_wp2_with (first | (with_reducible show wpList _ _ _ _ _ _; refine wpList_load_blk rfl 29 (.tmp 3) rfl w.heap.size 0 rfl (mc M) _ (hB) 98 F2.out _ Try.underlying29 rfl size_mach ?_; rw [F1.out]) | (go_at_call 61; refine (IsGroupWord_calls M hok _ zs _ hvB).mono ?_; rintro e w1 ⟨rfl, hb1⟩; rw [hm]) | (go_at_call 62; refine (isLevel_calls _ _).mono ?_; rintro e w' ⟨rfl, rfl⟩))
      go_ret
      exact ⟨ret_i1 Hc.out.symm, below_step hbw0 hb1⟩
    · have Hc : Hid (permGC M zs n = 2) := Lib.hid (by unfold permGC; rw [if_pos hm, if_neg hn])
      have hln : isLev n = false := (isLev_no n).2 hn
      clear hn
      go_enter Try.func39, Try.ntmps39
      go_wp2_with (first | (with_reducible show wpList _ _ _ _ _ _; refine wpList_load_blk rfl 29 (.tmp 3) rfl w.heap.size 0 rfl (mc M) _ (hB) 98 F2.out _ Try.underlying29 rfl size_mach ?_; rw [F1.out]) | (go_at_call 61; refine (IsGroupWord_calls M hok _ zs _ hvB).mono ?_; rintro e w1 ⟨rfl, hb1⟩; rw [hm]) | (go_at_call 62; refine (isLevel_calls _ _).mono ?_; rintro e w' ⟨rfl, rfl⟩))
      go_ret
      exact ⟨ret_i1 Hc.out.symm, below_step hbw0 hb1⟩

set_option maxRecDepth 100000 in
set_option maxHeartbeats 4000000 in
theorem iFixedOfLevel_calls (M : Mach) (hok : M.Ok) (v : Value) (zs : List Int) (n : Int) (w : World) (hv : SeesI w v zs) :
    Calls Try.prog 15 #[.agg (mc M), v, .int .i64 n] w fun e w' => ∃ v1, e = .returned (.tuple #[v1, .int .i64 (permGC M zs n)]) ∧ OwnS w' w.heap.size v1 (foR M zs n) ∧ Below w.heap.size w w' := by
  have F1 : Hid (cut (mc M) 0 98 = mc M) := Lib.hid (cut_all _ _ (mc_size hok)); have F2 : Hid (0 + 98 ≤ (mc M).size) := Lib.hid (by rw [mc_size hok]; omega)
  have hB : Blk ((w.alloc (.cells (mc M) 29)).alloc (.cells #[v] 26)) w.heap.size (mc M) 29 := (Blk.new _ _ _).alloc _
  have hE : Blk ((w.alloc (.cells (mc M) 29)).alloc (.cells #[v] 26)) (w.heap.size + 1) #[v] 26 := Blk.new_at _ _ _ _ (by simp)
  have hbw : Below w.heap.size w ((w.alloc (.cells (mc M) 29)).alloc (.cells #[v] 26)) := by (repeat (first | exact Below.refl _ _ | refine below_drew' ?_ | refine below_drewN' ?_ _ | refine below_alloc' ?_ _ | refine below_set' ?_ (by (try simp); (try omega)) _ | refine below_step ?_ (by assumption)))
  have hsz0 : ((w.alloc (.cells (mc M) 29)).alloc (.cells #[v] 26)).heap.size = w.heap.size + 2 := by simp
  have HC := Lib.hid (checkLevel_calls M hok v zs n _ (hv.below hbw))
  obtain ⟨oa, ca, hve, _⟩ := hv.view
  subst hve
  have Hv := Lib.hid hv
  have cE := hE.cell 0
  simp at cE
  clear hv
  by_cases hc : permGC M zs n = 0
  · obtain ⟨L, S, nn, hg, rfl, hn5, hz, h40, _, _⟩ := permGC_zero hok hc
    have HR := Lib.hid (foR_good hg hc)
    rw [hc] at HC
    rw [hc, HR.out]
    have hcL := mc_L M
    rw [hg.hL] at hcL
    have HcL := Lib.hid hcL
    have hL23 := hg.L23
    have HLd := Lib.hid (fun b v s hs hl W hB hv => leadWord_calls M L S hg b v zs hz h40 s hs hl W hB hv)
    have HLen : Hid ((wordsL L nn).length ≤ 243) := Lib.hid (by rw [wordsL_len]; exact pow_le L nn hg.L3 hn5)
    clear hc hz h40 hcL
    refine (callsIn_wide (n := 3)).1 ?_
    refine callsIn_of_wp_marks Try.func15 rfl trivial ?_ rfl
    simp only [Try.ntmps15, List.size_toArray, List.length_cons, List.length_nil, Nat.reduceAdd, Nat.reduceSub, Array.replicate_succ, Array.replicate_zero, List.push_toArray, List.append_toArray, List.nil_append, List.cons_append]
    refine wpIn_wide.2 ?_
    go_wp2_with (first | (with_reducible show wpList _ _ _ _ _ _; refine wpList_load_blk rfl 29 (.tmp 3) rfl w.heap.size 0 rfl (mc M) _ (hB) 98 F2.out _ Try.underlying29 rfl size_mach ?_; rw [F1.out]) | (go_at_call 39; refine HC.out.mono ?_; rintro e w1 ⟨rfl, hb1⟩; have hB1 := hB.keptAll hb1; have hE1 := hE.keptAll hb1; have cL1 := (hB1.alloc (.cells #[.slice none 0 0] 34)).cell 0; rw [HcL.out] at cL1) | (go_at_call 40; refine (wordsOfLevel_calls _ _ _).mono ?_; rintro e w3 ⟨rfl, rfl⟩))
    have hX : Blk (((w1.alloc (.cells #[.slice none 0 0] 34)).alloc (.cells #[.int .i64 (L : Int)] 2)).alloc (.cells #[.int .i64 (nn : Int)] 2)) w1.heap.size #[.slice none 0 0] 34 := ((Blk.new w1 _ _).alloc _).alloc _
    have hD : Blk (((w1.alloc (.cells #[.slice none 0 0] 34)).alloc (.cells #[.int .i64 (L : Int)] 2)).alloc (.cells #[.int .i64 (nn : Int)] 2)) (w1.heap.size + 1) #[.int .i64 (L : Int)] 2 := (Blk.new_at _ _ _ _ (by simp)).alloc _
    have hN : Blk (((w1.alloc (.cells #[.slice none 0 0] 34)).alloc (.cells #[.int .i64 (L : Int)] 2)).alloc (.cells #[.int .i64 (nn : Int)] 2)) (w1.heap.size + 1 + 1) #[.int .i64 (nn : Int)] 2 := Blk.new_at _ _ _ _ (by simp)
    have hb5 : Below w1.heap.size w1 (((w1.alloc (.cells #[.slice none 0 0] 34)).alloc (.cells #[.int .i64 (L : Int)] 2)).alloc (.cells #[.int .i64 (nn : Int)] 2)) := by (repeat (first | exact Below.refl _ _ | refine below_drew' ?_ | refine below_drewN' ?_ _ | refine below_alloc' ?_ _ | refine below_set' ?_ (by (try simp); (try omega)) _ | refine below_step ?_ (by assumption)))
    have hsz5 : (((w1.alloc (.cells #[.slice none 0 0] 34)).alloc (.cells #[.int .i64 (L : Int)] 2)).alloc (.cells #[.int .i64 (nn : Int)] 2)).heap.size = w1.heap.size + 3 := by simp
    have hs2 := hb1.size
    rw [hsz0] at hs2
    have hbw5 := below_step (below_step hbw hb1) hb5
    have hB5 := hB1.keptAll hb5
    have hE5 := hE1.keptAll hb5
    generalize (((w1.alloc (.cells #[.slice none 0 0] 34)).alloc (.cells #[.int .i64 (L : Int)] 2)).alloc (.cells #[.int .i64 (nn : Int)] 2)) = W5 at *
    generalize w1.heap.size = gP at *
    clear hb1 hb5 hE hE1 hB hB1 cE cL1 hbw hsz0 HC
    refine (wpIn_wide (n := 3)).1 ?_
    refine wp_rangeFoot (n := 3) (gf := 68) (lb := #[.pointer (some ⟨gP + 1, 0, none⟩), .pointer (some ⟨gP + 1 + 1, 0, none⟩)]) rfl (enters_of Try.func68 (by kernel_rfl) rfl)
      (wordsOfLevel_gives5 L nn _ _ hL23 hn5 W5 hD hN) (Below.refl _ _)
      (fun t W => ∃ v, t.2 = accF gP v ∧ AccAtS W gP (gP + 1) v (foF M zs t.1) ∧ Blk W w.heap.size (mc M) 29 ∧ Blk W (w.heap.size + 1) #[.slice oa zs.length ca] 26 ∧ Below w.heap.size w W)
      (fun _ _ => False)
      ?own (fun _ _ _ _ h _ _ => h) ?foot (accF gP (.slice none 0 0)) ⟨_, rfl, ⟨hX, OwnS.nil _ _, by omega⟩, hB5, hE5, hbw5⟩ ?caps
      (fun x => { tmps := #[.agg (mc M), .slice oa zs.length ca, .int .i64 (nn : Int), .pointer (some ⟨w.heap.size, 0, none⟩), .pointer (some ⟨w.heap.size + 1, 0, none⟩), undef, .slice none 0 0, .int .i64 0, .int .i64 0, .pointer (some ⟨gP, 0, none⟩), .string x, undef, undef, .agg (mc M), .slice oa zs.length ca, .int .i64 (nn : Int), .int .i64 0, .int .i64 0, .bool false, undef, .pointer (some ⟨w.heap.size, 0, none⟩), .int .i64 (L : Int), .int .i64 (nn : Int), .func (.func 68) #[] #[.pointer (some ⟨gP + 1, 0, none⟩), .pointer (some ⟨gP + 1 + 1, 0, none⟩)], .string x, undef, undef, undef, undef, undef, undef, undef, undef, undef, undef, undef, undef, undef, undef], defers := [] })
      ?assign ?body ?done ?stop
    case own =>
      rintro t X Z row ⟨v, x1, x2, x3, x4, x5⟩ hg hr
      exact ⟨v, x1, x2.turn hg (fun r e => (hr r e).2), x3.turn hg (fun r e => (hr r e).2), x4.turn hg (fun r e => (hr r e).2), ownFrom_below (β := Unit) (Nat.le_refl _) (by omega) () X Z row x5 hg hr⟩
    case foot =>
      rintro t X ⟨v, x1, x2, _, _⟩ k hk
      rw [x1] at hk
      exact x2.foot k hk
    case caps =>
      rintro i (rfl | rfl) (h | h)
      · omega
      · simp [Value.ownBlock] at h
      · omega
      · simp [Value.ownBlock] at h
    case assign =>
      intro l2 x W' K hK
      gi_wp2
      exact hK
    case body =>
      rintro l2 ⟨pre, ft⟩ x W' ⟨v, x1, x2, x3, x4, x5⟩ hpre
      dsimp only at x1 x2 hpre ⊢
      subst x1
      obtain ⟨q1, q2⟩ := mem_words L nn hL23 x (hpre.subset (by simp))
      have hpl : pre.length < 243 := by
        have := hpre.length_le
        have := HLen.out
        simp at this ⊢
        simp at *
        omega
      have hxs : x.size ≤ 40 := by rw [size_list x]; omega
      have Hln := Lib.hid (foF_len M zs pre)
      have HFy := Lib.hid (foF_yes M zs pre x)
      have HFn := Lib.hid (foF_no M zs pre x)
      have HLx := Lib.hid (HLd.out w.heap.size (.slice oa zs.length ca) x hxs q2 W' x3 (Hv.out.below x5))
      have cG := x4.cell 0
      simp at cG
      obtain ⟨o', c', hve, _⟩ := x2.2.1.view
      subst hve
      by_cases hf : (actG M zs x.data.toList).1 = x.data.toList
      · have HF := Lib.hid (HFy.out (by unfold fxB; exact decide_eq_true hf))
        have htest := str_eq (s := x) hf
        clear HFy HFn hpre q1 q2 hf
        generalize (actG M zs x.data.toList).1 = im at *
        generalize hvv : Value.slice o' (foF M zs pre).length c' = v at *
        gi_wp2_with (first | (refine ⟨trivial, rfl, ?_⟩; gi_at_call 41; refine (CallsIn.inRound l2 (callsIn_wide.2 HLx.out)).mono ?_; rintro e w3 ⟨v3, rfl, hO3, hb3⟩; have s1 := x2.below hb3; have cX := s1.1.cell 0; simp at cX; rw [← hvv] at cX; have hbA : Below w3.heap.size w3 (w3.alloc (.cells #[.string x] 9)) := by (repeat (first | exact Below.refl _ _ | refine below_drew' ?_ | refine below_drewN' ?_ _ | refine below_alloc' ?_ _ | refine below_set' ?_ (by (try simp); (try omega)) _ | refine below_step ?_ (by assumption)))) | (gi_at_builtin; refine wpListIn_push_str rfl (.tmp 34) (.tmp 36) rfl (gP + 1) v (foF M zs pre) (by rw [← hvv]; rfl) (s1.2.1.below hbA) w3.heap.size 1 x rfl (Blk.new w3 _ _) (by have := Hln.out; omega) (by have := (s1.below hbA).1.lt; omega) ?_; intro v' w6 hO6 hg6 hat6; obtain ⟨o6, c6, hv6, _⟩ := hO6.view; generalize (foF M zs pre ++ [x]).length = n6 at hv6; subst hv6; obtain ⟨p1, p2, p3⟩ := (s1.below hbA).pushed hO6 hg6 hat6; have cX6 := p1.cell 0; have fX6 := p1.free; simp at cX6))
        have hb35 := below_step hb3 hbA
        have s1' := s1.below hbA
        have s3 := x3.keptAll hb35
        have s4 := x4.keptAll hb35
        have s8 := below_step x5 hb35
        have p4 := s1'.low s8 hg6 (by have := s8.size; omega) (by omega) (.slice o6 n6 c6)
        have hge := ownS_ge s1'.2.1
        have b3 := (s3.same (hg6.block _ s3.lt (fun e => by have := hge _ e.symm; omega))).setOther gP 0 (.slice o6 n6 c6) (by omega)
        have b4 := (s4.same (hg6.block _ s4.lt (fun e => by have := hge _ e.symm; omega))).setOther gP 0 (.slice o6 n6 c6) (by omega)
        exact ⟨_, ⟨_, rfl, by rw [HF.out]; exact p2, b3, b4, p4⟩, (FootKeeps.of_below hb35).trans p3⟩
      · have HF := Lib.hid (HFn.out (by unfold fxB; exact decide_eq_false hf))
        have htest := str_ne (s := x) hf
        clear HFy HFn hpre q1 q2 hf
        generalize (actG M zs x.data.toList).1 = im at *
        gi_wp2_with (refine ⟨trivial, rfl, ?_⟩; gi_at_call 41; refine (CallsIn.inRound l2 (callsIn_wide.2 HLx.out)).mono ?_; rintro e w3 ⟨v3, rfl, hO3, hb3⟩)
        exact ⟨_, ⟨_, rfl, by rw [HF.out]; exact x2.below hb3, x3.keptAll hb3, x4.keptAll hb3, below_step x5 hb3⟩, FootKeeps.of_below hb3⟩
    case done =>
      rintro D ft W' hD ⟨v, x1, x2, x3, x4, x5⟩ hdd hnd
      dsimp only at x1 x2
      obtain ⟨o', c', hve, _⟩ := x2.2.1.view
      subst hve
      have cX := x2.1.cell 0
      simp at cX
      go_wp2
      refine ⟨by simp, .inl ⟨_, _, rfl, run_takeDeferred hdd, ?_⟩⟩
      refine ⟨_, results_tmp2 rfl _ _ _, ?_⟩
      have y5 := x5.trans (belowK_b (w := w) (Nat.le_refl _) W' D _ (.deferred none) (by omega) hdd rfl rfl)
      have yo := x2.2.1.turn (grownBy_putObj' W' D (.deferred none)) (fun r e => by cases e; exact ⟨_, hdd, rfl⟩)
      exact ⟨_, rfl, ⟨yo.1, yo.2.imp id (fun ⟨g, cap, cur, h1, h2, r⟩ => ⟨g, cap, cur, h1, by omega, r⟩)⟩, y5⟩
    case stop =>
      rintro D pre W' _ _ h _
      exact h.elim
  · have Hr := Lib.hid (foR_bad hc)
    obtain ⟨c, hcc⟩ : ∃ c, permGC M zs n = c := ⟨_, rfl⟩
    rw [hcc] at hc HC ⊢
    rw [Hr.out]
    have hcb : (c != 0) = true := by simpa using hc
    clear hc hcc
    go_enter Try.func15, Try.ntmps15
    go_wp2_with (first | (with_reducible show wpList _ _ _ _ _ _; refine wpList_load_blk rfl 29 (.tmp 3) rfl w.heap.size 0 rfl (mc M) _ (hB) 98 F2.out _ Try.underlying29 rfl size_mach ?_; rw [F1.out]) | (go_at_call 39; refine HC.out.mono ?_; rintro e w1 ⟨rfl, hb1⟩))
    go_ret2
    exact ⟨_, rfl, OwnS.nil _ _, below_step hbw hb1⟩
end Go.Proofs.Yticnpajbefflbaa

namespace Go.Proofs.Yticnpajbefflbaa
open Go.RowKit

theorem fx_num {M : Mach} {L S : Nat} (hg : Good M L S) (zs : List Int) (hz : numsOk S zs = true) (n i : Nat) (hi : i < L ^ n) : permGat M zs L n i = (i : Int) ↔ fxB M zs (wordS L n i) = true := by
  have e : (wordS L n i).data.toList = wordOf L n i := by simp [wordS]
  have hw := lettersL_wordOf L hg.L23 n i
  obtain ⟨a1, a2, _, _⟩ := actG_all hg zs hz _ hw
  have hn := numL_wordO L hg.L23 n i hi
  have hL2 := hg.L2
  unfold permGat fxB numI
  rw [e, decide_eq_true_iff]
  constructor
  · intro h
    exact num_inj L (by omega) n _ _ (a1.trans (length_wordOf _ _ _)) (length_wordOf _ _ _) a2 hw (by rw [hn]; omega)
  · intro h
    rw [h, hn]

set_option maxRecDepth 100000 in
set_option maxHeartbeats 4000000 in
theorem sFixedOfLevel_calls (M : Mach) (hok : M.Ok) (v : Value) (zs : List Int) (n : Int) (w : World) (hv : SeesI w v zs) :
    Calls Try.prog 14 #[.agg (mc M), v, .int .i64 n] w fun e w' => ∃ v1, e = .returned (.tuple #[v1, .int .i64 (permGC M zs n)]) ∧ OwnS w' w.heap.size v1 (foR M zs n) ∧ Below w.heap.size w w' := by
  have F1 : Hid (cut (mc M) 0 98 = mc M) := Lib.hid (cut_all _ _ (mc_size hok)); have F2 : Hid (0 + 98 ≤ (mc M).size) := Lib.hid (by rw [mc_size hok]; omega)
  have hB : Blk (w.alloc (.cells (mc M) 29)) w.heap.size (mc M) 29 := Blk.new w _ _
  have hbw0 : Below w.heap.size w (w.alloc (.cells (mc M) 29)) := by (repeat (first | exact Below.refl _ _ | refine below_drew' ?_ | refine below_drewN' ?_ _ | refine below_alloc' ?_ _ | refine below_set' ?_ (by (try simp); (try omega)) _ | refine below_step ?_ (by assumption)))
  have HC := Lib.hid (l04Code_calls M hok v zs n (w.alloc (.cells (mc M) 29)) (hv.below hbw0))
  obtain ⟨oa, ca, hve, _⟩ := hv.view
  subst hve
  have Hv := Lib.hid hv
  clear hv
  by_cases hc : permGC M zs n = 0
  · obtain ⟨L, S, nn, hg, rfl, hn5, hz, h40, _, _⟩ := permGC_zero hok hc
    have HR := Lib.hid (foR_good hg hc)
    rw [hc] at HC
    rw [hc, HR.out]
    have HL := Lib.hid (fun W h => l02Level_calls M L S hg (.slice oa zs.length ca) zs hz h40 nn hn5 W h)
    have hcL := mc_L M
    rw [hg.hL] at hcL
    have HcL := Lib.hid hcL
    have hpl : (permG M zs L nn).length = L ^ nn := by rw [permG, permGK_len]
    have hN : L ^ nn ≤ 243 := pow_le L nn hg.L3 hn5
    have HFn := Lib.hid (fun i hi => fx_num hg zs hz nn i hi)
    have Hat : Hid (∀ i (hi : i < (permG M zs L nn).length), (permG M zs L nn)[i] = permGat M zs L nn i) := Lib.hid (fun i hi => by simp [permG, permGK])
    have HWo := Lib.hid (fun (i : Nat) (hi : i ≤ 242) W => l01WordOf_calls L hg.L23 nn (nn : Int) (i : Int) W hn5 (Int.le_refl _) (Int.le_refl _) (by omega) (by omega))
    have HNx := Lib.hid (wordsL_next L nn)
    have HWl := Lib.hid (wordsL_len L nn)
    have HFy := Lib.hid (foF_yes M zs)
    have HFo := Lib.hid (foF_no M zs)
    have HFl := Lib.hid (foF_len M zs)
    have Hpl := Lib.hid hpl
    clear hc hz h40 hcL hpl
    generalize permG M zs L nn = im at *
    generalize L ^ nn = N at *
    go_enter Try.func14, Try.ntmps14
    go_wp2_with (first | (with_reducible show wpList _ _ _ _ _ _; refine wpList_load_blk rfl 29 (.tmp 3) rfl w.heap.size 0 rfl (mc M) _ (by first | exact hB1 | exact hB) 98 F2.out _ Try.underlying29 rfl size_mach ?_; rw [F1.out]) | (go_at_call 32; refine HC.out.mono ?_; rintro e w1 ⟨rfl, hb1⟩; have hB1 := hB.keptAll hb1; have hbw1 := below_step hbw0 hb1) | (go_at_call 33; refine (HL.out _ (Hv.out.below hbw1)).mono ?_; rintro e w2 ⟨v2, rfl, hO2, hb2⟩; have hM2 := hB1.keptAll hb2; have hbw2 := below_step hbw1 hb2; have Hs2 := Lib.hid hO2.sees; obtain ⟨o2, c2, rfl, hq⟩ := hO2.view; clear hq hO2))
    have hO3 : OwnS (w2.alloc (.cells #[] 9)) w2.heap.size (.slice (some ⟨w2.heap.size, 0, none⟩) 0 0) (foF M zs ((wordsL L nn).take 0)) := OwnS.empty w2 w2.heap.size 0 #[] (Nat.le_refl _) (by unfold maxLen; omega) rfl
    have hl3 : Below w2.heap.size w2 (w2.alloc (.cells #[] 9)) := by (repeat (first | exact Below.refl _ _ | refine below_drew' ?_ | refine below_drewN' ?_ _ | refine below_alloc' ?_ _ | refine below_set' ?_ (by (try simp); (try omega)) _ | refine below_step ?_ (by assumption)))
    have HM2 := Lib.hid hM2
    have hz2 := hbw2.size
    clear hB hB1 hbw0 hbw1 hb1 hb2 hM2
    go_loopw [10, 11] (fun ov iv wr => ∃ (i : Nat) (v0 : Value), i ≤ N ∧ iv = .int .i64 i ∧ v0 = ov ∧ OwnS wr w2.heap.size v0 (foF M zs ((wordsL L nn).take i)) ∧ Below w2.heap.size w2 wr) (fun _ iv _ => N - (intOf iv).toNat)
    case atStart => exact ⟨0, _, by omega, rfl, rfl, hO3, hl3⟩
    case round =>
      clear hO3 hl3
      obtain ⟨i, v0, hi, rfl, rfl, hO, hbw⟩ := hrel
      obtain ⟨w3, rfl⟩ : ∃ x, x = wr := ⟨_, rfl⟩
      by_cases hlt : i < N
      · have hil : i < im.length := by rw [Hpl.out]; exact hlt
        have hii : (i : Int) < (im.length : Int) := by omega
        obtain ⟨gi, h1, _, ci⟩ := (Hs2.out.below hbw).at i hil
        subst h1
        rw [Hat.out i hil] at ci
        have hnx := HNx.out i hlt
        have Hfl := Lib.hid (HFl.out ((wordsL L nn).take i))
        have htl : ((wordsL L nn).take i).length ≤ 243 := by rw [List.length_take]; omega
        have cL := (HM2.out.keptAll hbw).cell 0
        rw [HcL.out] at cL
        cases hf : fxB M zs (wordS L nn i)
        · have hne : permGat M zs L nn i ≠ (i : Int) := fun h => by
            have := (HFn.out i hlt).1 h
            rw [hf] at this; cases this
          have hneb : (permGat M zs L nn i == (i : Int)) = false := by simpa using hne
          have Hn : Hid (foF M zs ((wordsL L nn).take (i + 1)) = foF M zs ((wordsL L nn).take i)) := Lib.hid (by rw [hnx]; exact HFo.out _ _ hf)
          clear hnx hne hf
          generalize permGat M zs L nn i = z at *
          go_wp2
          go_roundw
          case rel => exact ⟨i + 1, _, by omega, by go_num, rfl, by rw [Hn.out]; exact hO, hbw⟩
          case measure => simp [intOf] <;> omega
        · have heb : (permGat M zs L nn i == (i : Int)) = true := by simpa using (HFn.out i hlt).2 hf
          have Hn : Hid (foF M zs ((wordsL L nn).take (i + 1)) = foF M zs ((wordsL L nn).take i) ++ [wordS L nn i]) := Lib.hid (by rw [hnx]; exact HFy.out _ _ hf)
          have HWi := Lib.hid (HWo.out i (by omega))
          rw [Int.toNat_natCast] at HWi
          have hws : (⟨(wordOf L nn i).toArray⟩ : ByteArray) = wordS L nn i := rfl
          rw [hws] at HWi
          have hle : (foF M zs ((wordsL L nn).take i)).length + 1 ≤ 1048576 := by have := Hfl.out; omega
          clear hnx hf hws
          generalize permGat M zs L nn i = z at *
          generalize wordS L nn i = x at *
          generalize foF M zs ((wordsL L nn).take i) = out at *
          have hwz := hbw.size
          obtain ⟨o0, c0, hve, _⟩ := hO.view
          subst hve
          go_wp2_with (first | (go_at_call 38; refine (HWi.out _).mono ?_; rintro e w4 ⟨rfl, hb4⟩; have hs4 := hb4.size) | (at_builtin; refine wpList_push_str rfl (.tmp 36) (.tmp 42) rfl w2.heap.size _ out rfl ((hO.below hb4).below (w1 := w4.alloc (.cells #[.string x] 9)) (by (repeat (first | exact Below.refl _ _ | refine below_drew' ?_ | refine below_drewN' ?_ _ | refine below_alloc' ?_ _ | refine below_set' ?_ (by (try simp); (try omega)) _ | refine below_step ?_ (by assumption))))) w4.heap.size 1 x rfl (Blk.new w4 _ _) hle (by simp; omega) ?_; intro v7 w7 hO7 hb7))
          have hbA : Below w4.heap.size w4 (w4.alloc (.cells #[.string x] 9)) := by (repeat (first | exact Below.refl _ _ | refine below_drew' ?_ | refine below_drewN' ?_ _ | refine below_alloc' ?_ _ | refine below_set' ?_ (by (try simp); (try omega)) _ | refine below_step ?_ (by assumption)))
          go_roundw
          case rel => exact ⟨i + 1, v7, by omega, by go_num, rfl, by rw [Hn.out]; exact hO7, ((hbw.trans (below_le hb4 hwz)).trans (below_le hbA (by omega))).trans hb7⟩
          case measure => simp [intOf] <;> omega
      · obtain rfl : i = N := by omega
        have hnl : ¬ (i : Int) < (im.length : Int) := by rw [Hpl.out]; omega
        rw [List.take_of_length_le (by rw [HWl.out]; exact Nat.le_refl _)] at hO
        go_wp2
        go_ret2
        exact ⟨_, rfl, ⟨hO.1, hO.2.imp id (fun ⟨g, cap, cur, h1, h2, r⟩ => ⟨g, cap, cur, h1, by omega, r⟩)⟩, hbw2.trans (below_le hbw hz2)⟩
  · have Hr := Lib.hid (foR_bad hc)
    obtain ⟨c, hcc⟩ : ∃ c, permGC M zs n = c := ⟨_, rfl⟩
    rw [hcc] at hc HC ⊢
    rw [Hr.out]
    have hcb : (c != 0) = true := by simpa using hc
    clear hc hcc
    go_enter Try.func14, Try.ntmps14
    go_wp2_with (first | (with_reducible show wpList _ _ _ _ _ _; refine wpList_load_blk rfl 29 (.tmp 3) rfl w.heap.size 0 rfl (mc M) _ (hB) 98 F2.out _ Try.underlying29 rfl size_mach ?_; rw [F1.out]) | (go_at_call 32; refine HC.out.mono ?_; rintro e w1 ⟨rfl, hb1⟩))
    go_ret2
    exact ⟨_, rfl, OwnS.nil _ _, below_step hbw0 hb1⟩
end Go.Proofs.Yticnpajbefflbaa
