/- 'InvertPortrait': the program. -/
import Derived.Test.YtgeihpaealomkaaDoorMuI
namespace Go.Proofs.YtgeihpaealomkaaDoor
open Go.RowKit Go.Shelf
attribute [local go_sem] Oper.semAt_some

def ivStep (d : Nat) (zs : List Int) (l : List Int) (v : ByteArray) : List Int := l.set (plc d (actS d zs v).data.toList).toNat (invN d (kAt d zs v.data.toList) : Int)
def ivF (d : Nat) (zs : List Int) (pre : List ByteArray) : List Int := pre.foldl (ivStep d zs) (List.replicate zs.length 0)
theorem ivF_snoc (d : Nat) (zs : List Int) (pre : List ByteArray) (v : ByteArray) : ivF d zs (pre ++ [v]) = (ivF d zs pre).set (plc d (actS d zs v).data.toList).toNat (invN d (kAt d zs v.data.toList) : Int) := by simp [ivF, ivStep]
theorem iv_fold (d : Nat) (zs : List Int) : ∀ (pre : List ByteArray) (l : List Int), (pre.foldl (ivStep d zs) l).length = l.length
  | [], _ => rfl
  | v :: pre, l => by rw [List.foldl_cons, iv_fold d zs pre]; simp [ivStep]
theorem ivF_len (d : Nat) (zs : List Int) (pre : List ByteArray) : (ivF d zs pre).length = zs.length := by unfold ivF; rw [iv_fold]; simp
theorem isP_len (d n : Nat) (zs : List Int) (hd : d ≤ 3) (hn : n ≤ 4) (h : isP d n zs = true) : zs.length ≤ 1215 := by
  unfold isP at h
  simp only [Bool.and_eq_true, decide_eq_true_eq] at h
  have := sumP_bd d hd n (by omega)
  omega
def ivR (d n : Int) (zs : List Int) : List Int := if codeP d n zs = 0 then ivF d.toNat zs (wordsB d.toNat n.toNat) else []
theorem ivR_len (d n : Int) (zs : List Int) : (ivR d n zs).length ≤ 100000 := by
  unfold ivR
  split
  · rename_i h
    obtain ⟨h1, h2, h3⟩ := codeP_zero d n zs h
    have := isP_len d.toNat n.toNat zs (by omega) (by omega) h3
    rw [ivF_len]; omega
  · simp
/-- What a round holds on to. -/
def IvB (w W0 : World) (b0 b c : Nat) (va : Value) (n : Nat) (l : List Int) (W : World) : Prop :=
  Blk W (b + 1) (ints l) 2 ∧ Blk W b0 #[.int .i64 c] 2 ∧ Blk W b #[.int .i64 c, va] 60 ∧ Blk W (b + 2) #[.slice (some ⟨b + 1, 0, none⟩) n n] 26 ∧ Below w.heap.size w W ∧ FootKeeps (fun k => k = b + 1) (fun k => k = b + 1) W0 W
theorem IvB.step {w W0 : World} {b0 b c n : Nat} {va : Value} {l : List Int} {W W' : World} (h : IvB w W0 b0 b c va n l W) (hb : Below W.heap.size W W') : IvB w W0 b0 b c va n l W' :=
  ⟨h.1.keptAll hb, h.2.1.keptAll hb, h.2.2.1.keptAll hb, h.2.2.2.1.keptAll hb, below_step h.2.2.2.2.1 hb, h.2.2.2.2.2.trans (FootKeeps.of_below hb)⟩

set_option maxRecDepth 100000 in
set_option maxHeartbeats 2000000 in
theorem iInvert_calls (d n : Int) (v : Value) (zs : List Int) (w : World) (hv : SeesI w v zs) (hT : TabsAt w) :
    Calls Tryd.prog 20 #[.int .i64 d, .int .i64 n, v] w fun e w' => ∃ v1, e = .returned (.tuple #[v1, .int .i64 (codeP d n zs)]) ∧ OwnI w' w.heap.size v1 (ivR d n zs) ∧ Below w.heap.size w w' := by
  have hb1 : Below w.heap.size w (w.alloc (.cells #[.int .i64 d] 2)) := by (repeat (first | exact Below.refl _ _ | refine below_drew' ?_ | refine below_drewN' ?_ _ | refine below_alloc' ?_ _ | refine below_set' ?_ (by (try simp); (try omega)) _ | refine below_step ?_ (by assumption)))
  have hL := sees_one2 (hv.below hb1)
  have hE : Blk ((w.alloc (.cells #[.int .i64 d] 2)).alloc (.cells #[v] 26)) w.heap.size #[.int .i64 d] 2 := (Blk.new _ _ _).alloc _
  have hbw : Below w.heap.size w ((w.alloc (.cells #[.int .i64 d] 2)).alloc (.cells #[v] 26)) := by (repeat (first | exact Below.refl _ _ | refine below_drew' ?_ | refine below_drewN' ?_ _ | refine below_alloc' ?_ _ | refine below_set' ?_ (by (try simp); (try omega)) _ | refine below_step ?_ (by assumption)))
  obtain ⟨oa, ca, hve, _⟩ := hv.view
  subst hve
  have Hv := Lib.hid hv
  have HT := Lib.hid hT
  have HC := Lib.hid (checkLists_calls d n _ _ (by simp) _ hL)
  rw [codeQ_one] at HC
  rw [show (w.alloc (.cells #[.int .i64 d] 2)).heap.size = w.heap.size + 1 from by simp] at HC
  clear hv hT hL hb1
  by_cases hc : codeP d n zs = 0
  · obtain ⟨k1, k2, k3⟩ := codeP_zero d n zs hc
    have HR : Hid (ivR d n zs = ivF d.toNat zs (wordsB d.toNat n.toNat)) := Lib.hid (by unfold ivR; rw [if_pos hc])
    have Hc := Lib.hid hc
    obtain ⟨m, rfl⟩ := Int.eq_ofNat_of_zero_le (a := n) (by omega)
    obtain ⟨c, rfl⟩ := Int.eq_ofNat_of_zero_le (a := d) (by omega)
    rw [Int.toNat_natCast] at *
    rw [Int.toNat_natCast] at *
    have hc23 : c = 2 ∨ c = 3 := by omega
    have hm4 : m ≤ 4 := by omega
    have hd3 : c ≤ 3 := by omega
    have hlz := isP_len c m zs hd3 hm4 k3
    rw [hc] at HC
    have hmk := mk_ints zs.length (by omega)
    have hz0 : ∀ w, (zeroValue 60).run Tryd.prog w = .ok (.agg #[.int .i64 0, .slice none 0 0]) w := (zero_of_info (show (Tryd.prog.info? 60).map (fun i => (i.zero, i.size)) = some (some (.agg #[.int .i64 0, .slice none 0 0]), 2) by kernel_rfl)).1
    clear k1 k2 hc
    refine (callsIn_wide (n := 3)).1 ?_
    refine callsIn_of_wp_marks Tryd.func20 rfl trivial ?_ rfl
    simp only [Tryd.ntmps20, List.size_toArray, List.length_cons, List.length_nil, Nat.reduceAdd, Nat.reduceSub, Array.replicate_succ, Array.replicate_zero, List.push_toArray, List.append_toArray, List.nil_append, List.cons_append]
    have cE := hE.cell 0
    simp at cE
    gi_wp2_with (first | (refine ⟨trivial, ?_⟩; gi_at_call 42; refine (callsIn_wide.2 HC.out).mono ?_; rintro e w1 ⟨rfl, hb1⟩; have hmk1 := hmk (w1.alloc (.cells #[.int .i64 c, .slice oa zs.length ca] 60)); have hE1 := hE.keptAll hb1; have cE1 := (((hE1.alloc (.cells #[.int .i64 c, .slice oa zs.length ca] 60)).alloc (.cells (ints (List.replicate zs.length 0)) 2)).alloc (.cells #[.slice (some ⟨w1.heap.size + 1, 0, none⟩) zs.length zs.length] 26)).cell 0; have cE0 := hE1.cell 0; simp at cE0 cE1) | (refine ⟨trivial, ?_⟩; gi_at_call 36; refine (callsIn_wide.2 (wordsBelow_calls _ _ _)).mono ?_; rintro e w2 ⟨rfl, rfl⟩))
    have hs1 := hb1.size
    rw [World.size_alloc, World.size_alloc] at hs1
    have hbw1 := below_step hbw hb1
    have hP : Blk (((((w1.alloc (.cells #[.int .i64 c, .slice oa zs.length ca] 60)).alloc (.cells (ints (List.replicate zs.length 0)) 2)).alloc (.cells #[.slice (some ⟨w1.heap.size + 1, 0, none⟩) zs.length zs.length] 26)).alloc (.cells #[.int .i64 c] 2)).alloc (.cells #[.int .i64 m] 2)) w1.heap.size #[.int .i64 c, .slice oa zs.length ca] 60 := ((((Blk.new w1 _ _).alloc _).alloc _).alloc _).alloc _
    have hS : Blk (((((w1.alloc (.cells #[.int .i64 c, .slice oa zs.length ca] 60)).alloc (.cells (ints (List.replicate zs.length 0)) 2)).alloc (.cells #[.slice (some ⟨w1.heap.size + 1, 0, none⟩) zs.length zs.length] 26)).alloc (.cells #[.int .i64 c] 2)).alloc (.cells #[.int .i64 m] 2)) (w1.heap.size + 1) (ints (List.replicate zs.length 0)) 2 := (((Blk.new_at _ _ _ _ (by simp)).alloc _).alloc _).alloc _
    have hX : Blk (((((w1.alloc (.cells #[.int .i64 c, .slice oa zs.length ca] 60)).alloc (.cells (ints (List.replicate zs.length 0)) 2)).alloc (.cells #[.slice (some ⟨w1.heap.size + 1, 0, none⟩) zs.length zs.length] 26)).alloc (.cells #[.int .i64 c] 2)).alloc (.cells #[.int .i64 m] 2)) (w1.heap.size + 2) #[.slice (some ⟨w1.heap.size + 1, 0, none⟩) zs.length zs.length] 26 := ((Blk.new_at _ _ _ _ (by simp)).alloc _).alloc _
    have hD : Blk (((((w1.alloc (.cells #[.int .i64 c, .slice oa zs.length ca] 60)).alloc (.cells (ints (List.replicate zs.length 0)) 2)).alloc (.cells #[.slice (some ⟨w1.heap.size + 1, 0, none⟩) zs.length zs.length] 26)).alloc (.cells #[.int .i64 c] 2)).alloc (.cells #[.int .i64 m] 2)) (w1.heap.size + 3) #[.int .i64 c] 2 := (Blk.new_at _ _ _ _ (by simp)).alloc _
    have hN : Blk (((((w1.alloc (.cells #[.int .i64 c, .slice oa zs.length ca] 60)).alloc (.cells (ints (List.replicate zs.length 0)) 2)).alloc (.cells #[.slice (some ⟨w1.heap.size + 1, 0, none⟩) zs.length zs.length] 26)).alloc (.cells #[.int .i64 c] 2)).alloc (.cells #[.int .i64 m] 2)) (w1.heap.size + 4) #[.int .i64 m] 2 := Blk.new_at _ _ _ _ (by simp)
    have hb5 : Below w1.heap.size w1 (((((w1.alloc (.cells #[.int .i64 c, .slice oa zs.length ca] 60)).alloc (.cells (ints (List.replicate zs.length 0)) 2)).alloc (.cells #[.slice (some ⟨w1.heap.size + 1, 0, none⟩) zs.length zs.length] 26)).alloc (.cells #[.int .i64 c] 2)).alloc (.cells #[.int .i64 m] 2)) := by (repeat (first | exact Below.refl _ _ | refine below_drew' ?_ | refine below_drewN' ?_ _ | refine below_alloc' ?_ _ | refine below_set' ?_ (by (try simp); (try omega)) _ | refine below_step ?_ (by assumption)))
    have hbw5 := below_step hbw1 hb5
    have hE5 := hE1.keptAll hb5
    have hsz5 : (((((w1.alloc (.cells #[.int .i64 c, .slice oa zs.length ca] 60)).alloc (.cells (ints (List.replicate zs.length 0)) 2)).alloc (.cells #[.slice (some ⟨w1.heap.size + 1, 0, none⟩) zs.length zs.length] 26)).alloc (.cells #[.int .i64 c] 2)).alloc (.cells #[.int .i64 m] 2)).heap.size = w1.heap.size + 5 := by simp
    generalize ((((w1.alloc (.cells #[.int .i64 c, .slice oa zs.length ca] 60)).alloc (.cells (ints (List.replicate zs.length 0)) 2)).alloc (.cells #[.slice (some ⟨w1.heap.size + 1, 0, none⟩) zs.length zs.length] 26)).alloc (.cells #[.int .i64 c] 2)).alloc (.cells #[.int .i64 m] 2) = W5 at *
    generalize hb : w1.heap.size = b at *
    clear hmk hmk1 hb5 hbw1 hb1 hz0 hb cE cE0 cE1 hE hE1 hbw HC
    have hsP := Lib.hid (show (Tryd.prog.info? 60).map (·.size) = some 2 by kernel_rfl)
    refine wp_rangeFoot (gf := 69) (lb := #[.pointer (some ⟨b + 4, 0, none⟩), .pointer (some ⟨b + 3, 0, none⟩)]) rfl (enters_of Tryd.func69 (by kernel_rfl) rfl)
      (wordsBelow_gives c m _ _ hc23 hm4 W5 hN hD) (Below.refl _ _)
      (fun s W => s.2 = (fun k => k = b + 1) ∧ Blk W (b + 1) (ints (ivF c zs s.1)) 2 ∧ Blk W w.heap.size #[.int .i64 c] 2 ∧ Blk W b #[.int .i64 c, .slice oa zs.length ca] 60 ∧ Blk W (b + 2) #[.slice (some ⟨b + 1, 0, none⟩) zs.length zs.length] 26 ∧ Below w.heap.size w W)
      (fun _ _ => False)
      ?own (fun _ _ _ _ h _ _ => h) ?foot (fun k => k = b + 1) ⟨rfl, hS, hE5, hP, hX, hbw5⟩ ?caps
      (fun x => { tmps := #[.int .i64 (c : Int), .int .i64 (m : Int), .slice oa zs.length ca, .pointer (some ⟨w.heap.size, 0, none⟩), undef, undef, .slice none 0 0, .int .i64 0, .int .i64 0, .pointer (some ⟨b, 0, none⟩), .pointer (some ⟨b + 1 + 1, 0, none⟩), .string x, .int .i64 (c : Int), .int .i64 (m : Int), .slice oa zs.length ca, .slice (some ⟨w.heap.size + 1, 0, none⟩) 1 1, .int .i64 0, .int .i64 0, .bool false, undef, .int .i64 (c : Int), .slice oa zs.length ca, .agg #[.int .i64 (c : Int), .slice oa zs.length ca], .slice oa zs.length ca, .int .i64 (zs.length : Int), .slice (some ⟨b + 1, 0, none⟩) zs.length zs.length, .int .i64 (c : Int), .int .i64 (m : Int), .func (.func 69) #[] #[.pointer (some ⟨b + 1 + 1 + 1 + 1, 0, none⟩), .pointer (some ⟨b + 1 + 1 + 1, 0, none⟩)], .string x, undef, undef, undef, undef, undef, undef, undef, undef, undef, undef, undef, undef, undef, undef], defers := [] })
      ?assign ?body ?done ?stop
    case own =>
      rintro s X Z row ⟨x1, x2, x3, x4, x5, x6⟩ hg hr
      have hne : ∀ i, i < W5.heap.size → some i ≠ row := fun i hi e => by have := (hr i e.symm).1; omega
      exact ⟨x1, x2.same (hg.block _ x2.lt (hne _ (by omega))), x3.same (hg.block _ x3.lt (hne _ (by omega))), x4.same (hg.block _ x4.lt (hne _ (by omega))), x5.same (hg.block _ x5.lt (hne _ (by omega))), ownFrom_below (β := Unit) (Nat.le_refl _) (by have := hbw5.size; omega) () X Z row x6 hg hr⟩
    case foot =>
      rintro s X ⟨x1, x2, _⟩ k hk
      rw [x1] at hk
      subst hk
      exact x2.lt
    case caps =>
      rintro i (rfl | rfl) h
      · omega
      · omega
    case assign =>
      intro l2 x W' K hK
      gi_wp2
      exact hK
    case body =>
      rintro l2 ⟨pre, ft⟩ x W' ⟨x1, x2, x3, x4, x5, x6⟩ hpre
      dsimp only at x1 x2 hpre ⊢
      subst x1
      obtain ⟨q1, q2⟩ := kAt_in' c m hc23 x (hpre.subset (by simp))
      obtain ⟨a1, a2⟩ := actS_ok c m hc23 hm4 zs k3 x (by omega) q2
      obtain ⟨_, _, _, _, ka⟩ := kAt_ok c m zs x.data.toList k3 q1 q2 hd3 hm4
      obtain ⟨l1, l3, _⟩ := plc_lt c m zs (actS c zs x).data.toList k3 (by omega) a2 hd3 hm4
      have HA1 := Lib.hid (fun W h1 h2 => at_calls c m hc23 hm4 zs k3 (.slice oa zs.length ca) x q1 q2 W h1 h2)
      have HLd := Lib.hid (fun W h1 h2 => lead_calls c m hc23 hm4 zs k3 (.slice oa zs.length ca) x (by omega) q2 W h1 h2)
      have HPl := Lib.hid (fun W => placeOf_calls c hc23 (.slice oa zs.length ca) (actS c zs x) (by omega) a2 W)
      have hr1 := pRow_3 c _ hc23 ka
      have HIv := Lib.hid (fun W => inverse_calls _ hr1 W)
      rw [bk_p c _ hc23 ka] at HIv
      obtain ⟨hz, _, _, _, hl3, hb3⟩ := inv_facts c _ hc23 ka
      have HNu := Lib.hid (fun W hT => number_calls _ ⟨hl3, hb3⟩ c hd3 W hT)
      rw [hz] at HNu
      have HF := Lib.hid (ivF_snoc c zs pre x)
      have hlen := ivF_len c zs pre
      clear q1 q2 a1 a2 ka hr1 hz hl3 hb3 hpre
      obtain ⟨p, hp⟩ := Int.eq_ofNat_of_zero_le l1
      rw [hp] at HPl HF l3
      rw [Int.toNat_natCast] at HF
      have hpz : p < zs.length := by omega
      generalize (invN c (kAt c zs x.data.toList) : Int) = z at *
      generalize backR (pRow c (kAt c zs x.data.toList)) = r2 at *
      generalize pRow c (kAt c zs x.data.toList) = r1 at *
      generalize actS c zs x = y at *
      have e1 := ints_get (ivF c zs pre) p (by omega)
      generalize (ivF c zs pre)[p]'(by omega) = old at *
      have Hset := Lib.hid (ints_set (ivF c zs pre) p z)
      rw [← HF.out] at Hset
      have h0 : IvB w W' w.heap.size b c (.slice oa zs.length ca) zs.length (ivF c zs pre) W' := ⟨x2, x3, x4, x5, x6, FootKeeps.refl _ _⟩
      have Hcut1 : Hid (cut (#[.int .i64 c, .slice oa zs.length ca] : Array Value) 0 2 = #[.int .i64 c, .slice oa zs.length ca]) := Lib.hid rfl
      have Hfit1 : Hid (0 + 2 ≤ (#[.int .i64 c, .slice oa zs.length ca] : Array Value).size) := Lib.hid (Nat.le_refl 2)
      have hsR := hbw5.size
      clear x2 x3 x4 x5 x6 hp l1
      gi_wp2_with fail
      refine wp_region_round (S := fun W => ∃ l, IvB w W' w.heap.size b c (.slice oa zs.length ca) zs.length l W) (by kernel_rfl) (by kernel_rfl) (not_out _ (fun _ _ h => h)) ⟨_, h0.step (by (repeat (first | exact Below.refl _ _ | refine below_drew' ?_ | refine below_drewN' ?_ _ | refine below_alloc' ?_ _ | refine below_set' ?_ (by (try simp); (try omega)) _ | refine below_step ?_ (by assumption))))⟩ (fun hS => ?_)
      (refine hK_take 0 (.slice (some ⟨b + 1, 0, none⟩) zs.length zs.length) rfl (by kernel_rfl) (by kernel_rfl) (by kernel_rfl) (fun _ _ _ h => h) rfl (fun W hW => by have c1 := Blk.cell hW.choose_spec.2.2.2.1 0; simp at c1; clear hW; go_simp) hS ?_; (intro K hK; go_simp; refine hK _ ?_; clear hK K))
      (refine hK_load 1 rfl (by kernel_rfl) (by kernel_rfl) (by kernel_rfl) 60 _ rfl b 0 rfl #[.int .i64 c, .slice oa zs.length ca] _ (fun W hW => hW.choose_spec.2.2.1) 2 Hfit1.out _ Tryd.underlying60 rfl hsP.out _ Hcut1.out (fun _ _ _ h => h) rfl hS ?_; (intro K hK; go_simp; refine hK _ ?_; clear hK K))
      (refine hK_load 2 rfl (by kernel_rfl) (by kernel_rfl) (by kernel_rfl) 60 _ rfl b 0 rfl #[.int .i64 c, .slice oa zs.length ca] _ (fun W hW => hW.choose_spec.2.2.1) 2 Hfit1.out _ Tryd.underlying60 rfl hsP.out _ Hcut1.out (fun _ _ _ h => h) rfl hS ?_; (intro K hK; go_simp; refine hK _ ?_; clear hK K))
      (refine hK_take 3 (.string x) rfl (by kernel_rfl) (by kernel_rfl) (by kernel_rfl) (fun _ _ _ h => h) rfl (fun W _ => by go_simp) hS ?_; (intro K hK; go_simp; refine hK _ ?_; clear hK K))
      (refine hK_load 6 rfl (by kernel_rfl) (by kernel_rfl) (by kernel_rfl) 60 _ rfl b 0 rfl #[.int .i64 c, .slice oa zs.length ca] _ (fun W hW => hW.choose_spec.2.2.1) 2 Hfit1.out _ Tryd.underlying60 rfl hsP.out _ Hcut1.out (fun _ _ _ h => h) rfl hS ?_; (intro K hK; go_simp; refine hK _ ?_; clear hK K))
      (refine hK_take 7 (.string x) rfl (by kernel_rfl) (by kernel_rfl) (by kernel_rfl) (fun _ _ _ h => h) rfl (fun W _ => by go_simp) hS ?_; (intro K hK; go_simp; refine hK _ ?_; clear hK K))
      (refine hK_take 10 (.int .i64 (c : Int)) rfl (by kernel_rfl) (by kernel_rfl) (by kernel_rfl) (fun _ _ _ h => h) rfl (fun W hW => by have c1 := Blk.cell hW.choose_spec.2.1 0; simp at c1; clear hW; go_simp) hS ?_; (intro K hK; go_simp; refine hK _ ?_; clear hK K))
      have hI : IvB w W' w.heap.size b c (.slice oa zs.length ca) zs.length (ivF c zs pre) W'.drew := h0.step (by (repeat (first | exact Below.refl _ _ | refine below_drew' ?_ | refine below_drewN' ?_ _ | refine below_alloc' ?_ _ | refine below_set' ?_ (by (try simp); (try omega)) _ | refine below_step ?_ (by assumption))))
      (refine wpAnyH_ready (rs := [4]) (by kernel_rfl) (by simp) ?_; refine AllReadyH.cons rfl (fun K hK => ?_) AllReadyH.nil); go_simp; refine (HLd.out _ (Hv.out.below hI.2.2.2.2.1) (HT.out.below hI.2.2.2.2.1)).mono ?_; rintro e w3 ⟨rfl, hb3⟩
      (go_simp; refine hK.out _ _ (⟨_, hI.step hb3⟩) (fun hS => ?_); clear hK K)
      replace hI := hI.step hb3
      (refine wpAnyH_ready (rs := [5]) (by kernel_rfl) (by simp) ?_; refine AllReadyH.cons rfl (fun K hK => ?_) AllReadyH.nil); go_simp; refine (HPl.out _).mono ?_; rintro e w4 ⟨rfl, hb4⟩
      (go_simp; refine hK.out _ _ (⟨_, hI.step hb4⟩) (fun hS => ?_); clear hK K)
      replace hI := hI.step hb4
      (refine wpAnyH_ready (rs := [8]) (by kernel_rfl) (by simp) ?_; refine AllReadyH.cons rfl (fun K hK => ?_) AllReadyH.nil); go_simp; refine (HA1.out _ (Hv.out.below hI.2.2.2.2.1) (HT.out.below hI.2.2.2.2.1)).mono ?_; rintro e w5 ⟨rfl, hb5⟩
      (go_simp; refine hK.out _ _ (⟨_, hI.step hb5⟩) (fun hS => ?_); clear hK K)
      replace hI := hI.step hb5
      (refine wpAnyH_ready (rs := [9]) (by kernel_rfl) (by simp) ?_; refine AllReadyH.cons rfl (fun K hK => ?_) AllReadyH.nil); go_simp; refine (HIv.out _).mono ?_; rintro e w6 ⟨rfl, hb6⟩
      (go_simp; refine hK.out _ _ (⟨_, hI.step hb6⟩) (fun hS => ?_); clear hK K)
      replace hI := hI.step hb6
      (refine wpAnyH_ready (rs := [11]) (by kernel_rfl) (by simp) ?_; refine AllReadyH.cons rfl (fun K hK => ?_) AllReadyH.nil); go_simp; refine (HNu.out _ (HT.out.below hI.2.2.2.2.1)).mono ?_; rintro e w7 ⟨rfl, hb7⟩
      (go_simp; refine hK.out _ _ (⟨_, hI.step hb7⟩) (fun hS => ?_); clear hK K)
      replace hI := hI.step hb7
      (refine hK_take 12 (.pointer (some ⟨b + 1, p, none⟩)) rfl (by kernel_rfl) (by kernel_rfl) (by kernel_rfl) (fun _ _ _ h => h) rfl (fun W _ => by go_simp) hS ?_; (intro K hK; go_simp; refine hK _ ?_; clear hK K))
      refine wpAnyH_ready (rs := [13]) (by kernel_rfl) (by simp) ?_
      refine AllReadyH.cons rfl (fun K hK => ?_) AllReadyH.nil
      obtain ⟨t1, t2, t3, t4, t5, t6⟩ := hI
      have cC := t1.cell p
      rw [e1] at cC
      have fC := t1.free
      have z1 := t1.set p (.int .i64 z)
      rw [← Hset.out] at z1
      have z2 := t2.setOther (b + 1) p (.int .i64 z) (by omega)
      have z3 := t3.setOther (b + 1) p (.int .i64 z) (by omega)
      have z4 := t4.setOther (b + 1) p (.int .i64 z) (by omega)
      have z5 := below_set' (o := p) t5 (b := b + 1) (by omega) (.int .i64 z)
      have z6 := t6.trans (FootKeeps.store (ft := fun k => k = b + 1) (W := w7) (b := b + 1) (o := p) rfl (.int .i64 z))
      go_simp
      refine hK.out _ _ ⟨_, z1, z2, z3, z4, z5, z6⟩ (fun hS3 => ?_)
      clear hK K
      refine wpAnyH_done (by kernel_rfl) ?_ _
      gi_wp2
      exact ⟨_, ⟨rfl, z1, z2, z3, z4, z5⟩, z6⟩
    case done =>
      rintro D ft W' hD ⟨x1, x2, x3, x4, x5, x6⟩ hdd hnd
      dsimp only at x1 x2
      have cX := x5.cell 0
      simp at cX
      gi_wp2
      refine ⟨by simp, .inl ⟨_, _, rfl, run_takeDeferred hdd, ?_⟩⟩
      refine ⟨_, results_tmp2 rfl _ _ _, ?_⟩
      have y3 := x2.same (World.putObj_heap_other (o := .deferred none) (show b + 1 ≠ D by omega))
      have y5 := x6.trans (belowK_b (w := w) (Nat.le_refl _) W' D _ (.deferred none) (by have := hbw5.size; omega) hdd rfl rfl)
      exact ⟨_, ret_lw Hc.out.symm, by rw [HR.out]; exact OwnI.made (ivF_len _ _ _) (by unfold maxLen; omega) (by omega) y3, y5⟩
    case stop =>
      rintro D pre W' _ _ h _
      exact h.elim
  · have HR : Hid (ivR d n zs = []) := Lib.hid (by unfold ivR; rw [if_neg hc])
    have hcb : (codeP d n zs != 0) = true := by simpa using hc
    generalize codeP d n zs = cc at *
    go_enter Tryd.func20, Tryd.ntmps20
    go_wp2_with (go_at_call 42; refine HC.out.mono ?_; rintro e w1 ⟨rfl, hb1⟩)
    go_ret2
    exact ⟨_, rfl, by rw [HR.out]; exact OwnI.nil _ _, below_step hbw hb1⟩
end Go.Proofs.YtgeihpaealomkaaDoor

namespace Go.Proofs.YtgeihpaealomkaaDoor
open Go.RowKit

def ivU (d : Nat) (zs : List Int) (k j : Nat) : List Int := ivF d zs (wordsB d k ++ (wordsL d k).take j)
theorem ivU_next (d : Nat) (zs : List Int) (k j : Nat) (hj : j < d ^ k) : ivU d zs k (j + 1) = (ivU d zs k j).set (plc d (actS d zs (wordS d k j)).data.toList).toNat (invN d (kAt d zs (wordS d k j).data.toList) : Int) := by
  unfold ivU
  rw [wordsL_next d k j hj, ← List.append_assoc, ivF_snoc]
theorem ivU_row (d : Nat) (zs : List Int) (k : Nat) : ivU d zs k (d ^ k) = ivU d zs (k + 1) 0 := by
  unfold ivU
  rw [wordsB_next, List.take_of_length_le (by rw [wordsL_len]; exact Nat.le_refl _)]; simp
theorem ivU_all (d : Nat) (zs : List Int) (n : Nat) : ivU d zs n 0 = ivF d zs (wordsB d n) := by simp [ivU]
theorem ivU_start (d : Nat) (zs : List Int) : ivU d zs 0 0 = List.replicate zs.length 0 := by simp [ivU, wordsB, ivF]
theorem iv_ok (d n : Nat) (hd : d = 2 ∨ d = 3) (hn : n ≤ 4) (zs : List Int) (hP : isP d n zs = true) (k j : Nat) (hk : k < n) :
    (wordS d k j).data.toList.length = k ∧ lettersL d (wordS d k j).data.toList = true ∧ (actS d zs (wordS d k j)).data.toList.length = k ∧ lettersL d (actS d zs (wordS d k j)).data.toList = true ∧ kAt d zs (wordS d k j).data.toList < cN d ∧
      ∃ p : Nat, plc d (actS d zs (wordS d k j)).data.toList = (p : Int) ∧ p < zs.length := by
  obtain ⟨w1, w2⟩ := wordS_ok' d k j hd
  obtain ⟨a1, a2⟩ := actS_ok d n hd hn zs hP (wordS d k j) (by omega) w2
  obtain ⟨_, _, _, _, ka⟩ := kAt_ok d n zs (wordS d k j).data.toList hP (by omega) w2 (by omega) hn
  obtain ⟨l1, l2, _⟩ := plc_lt d n zs (actS d zs (wordS d k j)).data.toList hP (by omega) a2 (by omega) hn
  obtain ⟨p, hp⟩ := Int.eq_ofNat_of_zero_le l1
  exact ⟨w1, w2, by omega, a2, ka, p, hp, by omega⟩

set_option maxRecDepth 100000 in
set_option maxHeartbeats 2000000 in
theorem l03Inverse_calls (d n : Nat) (hd : d = 2 ∨ d = 3) (hn : n ≤ 4) (zs : List Int) (hP : isP d n zs = true) (v : Value) (w : World) (hv : SeesI w v zs) :
    Calls Tryd.prog 46 #[.int .i64 d, .int .i64 n, v] w fun e w' => ∃ v1, e = .returned v1 ∧ OwnI w' w.heap.size v1 (ivF d zs (wordsB d n)) ∧ Below w.heap.size w w' := by
  have hd3 : d ≤ 3 := by omega
  obtain ⟨oa, ca, hve, _⟩ := hv.view
  subst hve
  have Hv := Lib.hid hv
  have hlz := isP_len d n zs hd3 hn hP
  have HF := Lib.hid (fun k j hk => iv_ok d n hd hn zs hP k j hk)
  have F1' := Lib.hid (fun s hs hl W h => l03At_calls d n hd hn zs hP (.slice oa zs.length ca) s hs hl W h)
  have F2' := Lib.hid (fun s hs hl W h => l03Act_calls d n hd hn zs hP (.slice oa zs.length ca) s hs hl W h)
  have HPw := Lib.hid (fun k (hk : k ≤ 4) W => l01Power_calls d k hd3 (by omega) W)
  have HSt := Lib.hid (fun k (hk : k ≤ 4) W => l03Start_calls d k hd3 hk W)
  have HW := Lib.hid (fun k (hk : k ≤ 4) j (hj : j < d ^ k) (W : World) => by
    have := pow_le d k hd3 (by omega)
    exact l01WordOf_calls d hd k (k : Int) (j : Nat) W (by omega) (by omega) (by omega) (by omega) (by omega))
  have HU := Lib.hid (fun k j (hj : j < d ^ k) => ivU_next d zs k j hj)
  have HR := Lib.hid (ivU_row d zs)
  have HE := Lib.hid (ivU_all d zs n)
  have Hpl := Lib.hid (fun k (hk : k ≤ 4) => pow_le d k hd3 (by omega))
  have HL := Lib.hid (fun k j => show (ivU d zs k j).length = zs.length from ivF_len d zs _)
  have hmk := mk_ints zs.length (by omega) w
  have hB0 : Blk (w.alloc (.cells (ints (List.replicate zs.length 0)) 2)) w.heap.size (ints (ivU d zs 0 0)) 2 := by rw [ivU_start]; exact Blk.new _ _ _
  have hbw0 : Below w.heap.size w (w.alloc (.cells (ints (List.replicate zs.length 0)) 2)) := by (repeat (first | exact Below.refl _ _ | refine below_drew' ?_ | refine below_drewN' ?_ _ | refine below_alloc' ?_ _ | refine below_set' ?_ (by (try simp); (try omega)) _ | refine below_step ?_ (by assumption)))
  clear hv hP
  generalize ivU d zs = U at *
  go_enter Tryd.func46, Tryd.ntmps46
  go_wp2_with fail
  clear hmk
  go_loopw [8] (fun i wr => ∃ k : Nat, k ≤ n ∧ i = .int .i64 k ∧ Blk wr w.heap.size (ints (U k 0)) 2 ∧ Below w.heap.size w wr) (fun i _ => n - (intOf i).toNat)
  case atStart => exact ⟨0, by omega, rfl, hB0, hbw0⟩
  case round =>
    clear hB0 hbw0
    obtain ⟨k, hk, rfl, hB, hbw⟩ := hrel
    by_cases hlt : k < n
    · have hki : (k : Int) < (n : Int) := by omega
      have hk4 : k ≤ 4 := by omega
      have HPk := Lib.hid (HPw.out k hk4)
      have HSk := Lib.hid (HSt.out k hk4)
      have HWk := Lib.hid (HW.out k hk4)
      have HFk := Lib.hid (fun j => HF.out k j hlt)
      have HUk := Lib.hid (HU.out k)
      have HRk := Lib.hid (HR.out k)
      have HLk := Lib.hid (HL.out k)
      have hpl := Hpl.out k hk4
      have hsb := sumP_bd d hd3 k (by omega)
      rw [show pw d k = ((d ^ k : Nat) : Int) from rfl] at HPk
      clear HPw HW HF HU HR Hpl HE HSt HL
      generalize d ^ k = N at *
      go_wp2
      go_loopw [9] (fun i wx => ∃ j : Nat, j ≤ N ∧ i = .int .i64 j ∧ Blk wx w.heap.size (ints (U k j)) 2 ∧ Below w.heap.size w wx) (fun i _ => N - (intOf i).toNat)
      case atStart => exact ⟨0, by omega, rfl, hB, hbw⟩
      case round =>
        clear hB hbw
        obtain ⟨j, hj, rfl, hB, hbw⟩ := hrel
        by_cases hjl : j < N
        · have hji : (j : Int) < (N : Int) := by omega
          have HWj := Lib.hid (HWk.out j hjl)
          rw [Int.toNat_natCast] at HWj
          have hw : (⟨(wordOf d k j).toArray⟩ : ByteArray) = wordS d k j := rfl
          rw [hw] at HWj
          obtain ⟨f1, f2, f3, f4, f5, p, hp, hpz⟩ := HFk.out j
          have F1 := Lib.hid (F1'.out _ (by omega) f2)
          have F2 := Lib.hid (F2'.out _ (by omega) f2)
          have F3 := Lib.hid (fun W => l01NumberOf_calls d (actS d zs (wordS d k j)) hd3 (by omega) f4 W)
          have F4 := Lib.hid (fun W => l03Back_calls d _ hd f5 W)
          have Hn := Lib.hid (HUk.out j hjl)
          have hl := HLk.out j
          rw [hp, Int.toNat_natCast] at Hn
          have hnb := numI_lt d _ f4
          rw [f3] at hnb
          unfold pw at hnb
          unfold plc at hp
          rw [f3] at hp
          clear f1 f2 f3 f4 f5 HWk HFk HUk HLk hw F1' F2'
          generalize wordS d k j = x at *
          generalize actS d zs x = y at *
          generalize numI d y.data.toList = q at *
          generalize sumP d k = P at *
          generalize kAt d zs x.data.toList = ka at *
          generalize invN d ka = z at *
          have hwr : IntKind.i64.wrap (P + q) = (p : Int) := by rw [← hp]; exact IntWalk.i64_in _ (by omega)
          have hpi : (p : Int) < (zs.length : Int) := by omega
          have e1 := ints_get (U k j) p (by omega)
          generalize (U k j)[p]'(by omega) = old at *
          have Hset := Lib.hid (ints_set (U k j) p (z : Nat))
          rw [← Hn.out] at Hset
          go_wp2_with (first | (go_at_call 61; refine (HPk.out _).mono ?_; rintro e w' ⟨rfl, rfl⟩) | (go_at_call 63; refine (HWj.out _).mono ?_; rintro e w2 ⟨rfl, hb2⟩; have hB2 := hB.keptAll hb2; have hbw2 := below_step hbw hb2) | (go_at_call 75; refine (F2.out _ (Hv.out.below hbw2)).mono ?_; rintro e w3 ⟨rfl, hb3⟩; have hB3 := hB2.keptAll hb3; have hbw3 := below_step hbw2 hb3) | (go_at_call 79; refine (HSk.out _).mono ?_; rintro e w' ⟨rfl, rfl⟩) | (go_at_call 80; refine (F3.out _).mono ?_; rintro e w' ⟨rfl, rfl⟩) | (go_at_call 74; refine (F1.out _ (Hv.out.below hbw3)).mono ?_; rintro e w' ⟨rfl, rfl⟩) | (go_at_call 78; refine (F4.out _).mono ?_; rintro e w4 ⟨rfl, hb4⟩; have hB4 := hB3.keptAll hb4; have hbw4 := below_step hbw3 hb4; have cB := hB4.cell p; rw [e1] at cB; have fB := hB4.free; have hB5 := hB4.set p (.int .i64 (z : Nat)); rw [← Hset.out] at hB5; have hbw5 := below_set' (o := p) hbw4 (b := w.heap.size) (by omega) (.int .i64 (z : Nat))))
          go_roundw
          case rel => exact ⟨j + 1, by omega, by go_num, hB5, hbw5⟩
          case measure => simp [intOf] <;> omega
        · obtain rfl : j = N := by omega
          go_wp2_with (go_at_call 61; refine (HPk.out _).mono ?_; rintro e w' ⟨rfl, rfl⟩)
          rw [HRk.out] at hB
          go_roundw
          case rel => exact ⟨k + 1, by omega, by go_num, hB, hbw⟩
          case measure => simp [intOf] <;> omega
    · obtain rfl : k = n := by omega
      rw [HE.out] at hB
      go_wp2
      go_ret
      exact ⟨_, rfl, OwnI.made (ivF_len _ _ _) (by unfold maxLen; omega) (Nat.le_refl _) hB, hbw⟩

set_option maxRecDepth 100000 in
set_option maxHeartbeats 1000000 in
theorem sInvert_calls (d n : Int) (v : Value) (zs : List Int) (w : World) (hv : SeesI w v zs) :
    Calls Tryd.prog 19 #[.int .i64 d, .int .i64 n, v] w fun e w' => ∃ v1, e = .returned (.tuple #[v1, .int .i64 (codeP d n zs)]) ∧ OwnI w' w.heap.size v1 (ivR d n zs) ∧ Below w.heap.size w w' := by
  have hL := sees_one2 hv
  have hbw : Below w.heap.size w (w.alloc (.cells #[v] 26)) := by (repeat (first | exact Below.refl _ _ | refine below_drew' ?_ | refine below_drewN' ?_ _ | refine below_alloc' ?_ _ | refine below_set' ?_ (by (try simp); (try omega)) _ | refine below_step ?_ (by assumption)))
  have HC := Lib.hid (l03Code_calls d n _ _ (by simp) _ hL)
  rw [codeQ_one] at HC
  obtain ⟨oa, ca, hve, _⟩ := hv.view
  subst hve
  have Hv := Lib.hid hv
  clear hv hL
  by_cases hc : codeP d n zs = 0
  · obtain ⟨k1, k2, k3⟩ := codeP_zero d n zs hc
    have HR : Hid (ivR d n zs = ivF d.toNat zs (wordsB d.toNat n.toNat)) := Lib.hid (by unfold ivR; rw [if_pos hc])
    have Hc := Lib.hid hc
    obtain ⟨m, rfl⟩ := Int.eq_ofNat_of_zero_le (a := n) (by omega)
    obtain ⟨c, rfl⟩ := Int.eq_ofNat_of_zero_le (a := d) (by omega)
    rw [Int.toNat_natCast] at *
    rw [Int.toNat_natCast] at *
    rw [hc] at HC
    have HL := Lib.hid (fun W h1 => l03Inverse_calls c m (by omega) (by omega) zs k3 (.slice oa zs.length ca) W h1)
    clear k1 k2 k3 hc
    go_enter Tryd.func19, Tryd.ntmps19
    go_wp2_with (first | (go_at_call 40; refine HC.out.mono ?_; rintro e w1 ⟨rfl, hb1⟩; have hbw1 := below_step hbw hb1) | (go_at_call 46; refine (HL.out _ (Hv.out.below hbw1)).mono ?_; rintro e w2 ⟨v1, rfl, hO2, hb2⟩; have hbw2 := below_step hbw1 hb2))
    go_ret2
    exact ⟨_, ret_lw Hc.out.symm, by rw [HR.out]; exact hO2.base_le' hbw1.size, hbw2⟩
  · have HR : Hid (ivR d n zs = []) := Lib.hid (by unfold ivR; rw [if_neg hc])
    have hcb : (codeP d n zs != 0) = true := by simpa using hc
    generalize codeP d n zs = cc at *
    go_enter Tryd.func19, Tryd.ntmps19
    go_wp2_with (go_at_call 40; refine HC.out.mono ?_; rintro e w1 ⟨rfl, hb1⟩)
    go_ret2
    exact ⟨_, rfl, by rw [HR.out]; exact OwnI.nil _ _, below_step hbw hb1⟩
end Go.Proofs.YtgeihpaealomkaaDoor
