/- 'MultiplyPortraits': the program. -/
import Derived.Test.YtgeihpaealomkaaDoorMuS
import Derived.Test.YtgeihpaealomkaaDoorRgL
import Derived.Test.YtgeihpaealomkaaDoorRgW
import Derived.Test.YtgeihpaealomkaaDoorStoreK
namespace Go.Proofs.YtgeihpaealomkaaDoor
open Go.RowKit Go.Shelf
attribute [local go_sem] Oper.semAt_some

theorem sees_two2 {w : World} {v1 v2 : Value} {z1 z2 : List Int} (h1 : SeesI w v1 z1) (h2 : SeesI w v2 z2) : SeesL (w.alloc (.cells #[v1, v2] 26)) (.slice (some ⟨w.heap.size, 0, none⟩) 2 2) [(v1, z1), (v2, z2)] :=
  ⟨w.heap.size, 2, rfl, Blk.new _ _ _, fun i hi => by
    have hb : Below w.heap.size w (w.alloc (.cells #[v1, v2] 26)) := by (repeat (first | exact Below.refl _ _ | refine below_drew' ?_ | refine below_drewN' ?_ _ | refine below_alloc' ?_ _ | refine below_set' ?_ (by (try simp); (try omega)) _ | refine below_step ?_ (by assumption)))
    match i, hi with
    | 0, _ => exact h1.below hb
    | 1, _ => exact h2.below hb⟩
def codeM (d n : Int) (xs ys : List Int) : Int := if isAlpha d && (decide (1 ≤ n) && decide (n ≤ 4)) then (if isP d.toNat n.toNat xs && isP d.toNat n.toNat ys then 0 else 1) else 2
theorem codeQ_two (d n : Int) (v1 v2 : Value) (xs ys : List Int) : codeQ d n [(v1, xs), (v2, ys)] = codeM d n xs ys := by
  unfold codeQ codeM
  simp [allP]
theorem codeM_zero (d n : Int) (xs ys : List Int) (h : codeM d n xs ys = 0) : (2 ≤ d ∧ d ≤ 3) ∧ (1 ≤ n ∧ n ≤ 4) ∧ isP d.toNat n.toNat xs = true ∧ isP d.toNat n.toNat ys = true := by
  unfold codeM at h
  split at h
  · rename_i h1
    simp only [Bool.and_eq_true, decide_eq_true_eq] at h1
    split at h
    · rename_i h2
      simp only [Bool.and_eq_true] at h2
      have := (isAlpha_iff d).1 h1.1
      exact ⟨by omega, h1.2, h2⟩
    · omega
  · omega
theorem kAt_in' (d n : Nat) (hd : d = 2 ∨ d = 3) (x : ByteArray) (h : x ∈ wordsB d n) : x.data.toList.length < n ∧ lettersL d x.data.toList = true := by
  unfold wordsB wordsL at h
  simp only [List.mem_flatMap, List.mem_range, List.mem_map] at h
  obtain ⟨i, hi, k, hk, rfl⟩ := h
  obtain ⟨h1, h2⟩ := wordS_ok' d i k hd
  exact ⟨by omega, h2⟩
theorem wp_store_rowK {P : Program} {o : Oper} {a : Act} {w : World} {K : Act → World → Prop} {Q : Exit → Act → World → Prop} (ty : TypeId) (x y : Operand) (ho : o.op = .store ty x y) (b p : Nat) (cells : Array Value) (hx : a.eval x = .pointer (some ⟨b, p, none⟩)) (hy : a.eval y = .agg cells)
    (c : Array Value) (T : TypeId) (hB : Blk w b c T) (hn : p + cells.size ≤ c.size) (hi : (P.info? ty).map (·.size) = some cells.size) (h1 : cells.all (·.oneCell') = true) (c' : Array Value) (hc : over c p cells = c')
    (h : ∀ w', Stored w w' b c' T → K (a.put o.dst undef) w') : o.wp P a w K Q := by
  subst hc
  obtain ⟨w', key, hs⟩ := run_store_blk w ty b p cells c T hB hn hi h1
  unfold Oper.wp execOp
  simp only [ho, hx, hy, Sem.run_bind, key, Result.andThen_ok, Sem.run_pure]
  exact h w' hs
/-- What a round holds on to: the list that grows, the letters' number, the two portraits. -/
def MuB (w W0 : World) (b g1 g2 gX c : Nat) (va vb v : Value) (zs : List Int) (W : World) : Prop :=
  AccAt W gX (gX + 1) v zs ∧ Blk W b #[.int .i64 c] 2 ∧ Blk W g1 #[.int .i64 c, va] 60 ∧ Blk W g2 #[.int .i64 c, vb] 60 ∧ Below w.heap.size w W ∧ FootKeeps (accF gX v) (accF gX v) W0 W
theorem MuB.step {w W0 : World} {b g1 g2 gX c : Nat} {va vb v : Value} {zs : List Int} {W W' : World} (h : MuB w W0 b g1 g2 gX c va vb v zs W) (hb : Below W.heap.size W W') : MuB w W0 b g1 g2 gX c va vb v zs W' :=
  ⟨h.1.below hb, h.2.1.keptAll hb, h.2.2.1.keptAll hb, h.2.2.2.1.keptAll hb, below_step h.2.2.2.2.1 hb, h.2.2.2.2.2.trans (FootKeeps.of_below hb)⟩
theorem MuB.stored {w W0 : World} {b g1 g2 gX c : Nat} {va vb v : Value} {zs : List Int} {W W' : World} {gp : Nat} {cs : Array Value} {T : TypeId} (h0 : MuB w W0 b g1 g2 gX c va vb v zs W0) (h : MuB w W0 b g1 g2 gX c va vb v zs W) (hs : Stored W W' gp cs T) (hg : W0.heap.size ≤ gp) : MuB w W0 b g1 g2 gX c va vb v zs W' := by
  have f := h0.1.foot
  have n1 := f gX (.inl rfl)
  have n2 := h0.2.1.lt
  have n3 := h0.2.2.1.lt
  have n4 := h0.2.2.2.1.lt
  have n5 := h0.2.2.2.2.1.size
  refine ⟨⟨hs.keep (by omega) h.1.1, ownI_at h.1.2.1 (fun k hk => hs.other k (fun e => by have := f k (.inr hk); omega)), h.1.2.2⟩, hs.keep (by omega) h.2.1, hs.keep (by omega) h.2.2.1, hs.keep (by omega) h.2.2.2.1, hs.below _ _ (by omega) h.2.2.2.2.1, ?_⟩
  refine ⟨by rw [hs.size]; exact h.2.2.2.2.2.1, fun k hk hn => ?_⟩
  obtain ⟨e1, e2⟩ := h.2.2.2.2.2.2 k hk hn
  exact ⟨(hs.other k (by omega)).trans e1, e2⟩
def muF (d : Nat) (xs ys : List Int) (pre : List ByteArray) : List Int := pre.map (muV d xs ys)
def muR (d n : Int) (xs ys : List Int) : List Int := if codeM d n xs ys = 0 then allB (muV d.toNat xs ys) d.toNat n.toNat else []

set_option maxRecDepth 100000 in
set_option maxHeartbeats 2000000 in
theorem iMultiply_calls (d n : Int) (va vb : Value) (xs ys : List Int) (w : World) (hva : SeesI w va xs) (hvb : SeesI w vb ys) (hT : TabsAt w) :
    Calls Tryd.prog 18 #[.int .i64 d, .int .i64 n, va, vb] w fun e w' => ∃ v1, e = .returned (.tuple #[v1, .int .i64 (codeM d n xs ys)]) ∧ OwnI w' w.heap.size v1 (muR d n xs ys) ∧ Below w.heap.size w w' := by
  have hb1 : Below w.heap.size w (w.alloc (.cells #[.int .i64 d] 2)) := by (repeat (first | exact Below.refl _ _ | refine below_drew' ?_ | refine below_drewN' ?_ _ | refine below_alloc' ?_ _ | refine below_set' ?_ (by (try simp); (try omega)) _ | refine below_step ?_ (by assumption)))
  have hL := sees_two2 (hva.below hb1) (hvb.below hb1)
  have hE : Blk ((w.alloc (.cells #[.int .i64 d] 2)).alloc (.cells #[va, vb] 26)) w.heap.size #[.int .i64 d] 2 := (Blk.new _ _ _).alloc _
  have hbw : Below w.heap.size w ((w.alloc (.cells #[.int .i64 d] 2)).alloc (.cells #[va, vb] 26)) := by (repeat (first | exact Below.refl _ _ | refine below_drew' ?_ | refine below_drewN' ?_ _ | refine below_alloc' ?_ _ | refine below_set' ?_ (by (try simp); (try omega)) _ | refine below_step ?_ (by assumption)))
  obtain ⟨oa, ca, hve, _⟩ := hva.view
  subst hve
  obtain ⟨ob, cb, hve, _⟩ := hvb.view
  subst hve
  have Hva := Lib.hid hva
  have Hvb := Lib.hid hvb
  have HT := Lib.hid hT
  have HC := Lib.hid (checkLists_calls d n _ _ (by simp) _ hL)
  rw [codeQ_two] at HC
  rw [show (w.alloc (.cells #[.int .i64 d] 2)).heap.size = w.heap.size + 1 from by simp] at HC
  have cE := hE.cell 0
  simp at cE
  clear hva hvb hT hL hb1
  by_cases hc : codeM d n xs ys = 0
  · obtain ⟨k1, k2, k3, k4⟩ := codeM_zero d n xs ys hc
    have HR : Hid (muR d n xs ys = allB (muV d.toNat xs ys) d.toNat n.toNat) := Lib.hid (by unfold muR; rw [if_pos hc])
    have Hc := Lib.hid hc
    obtain ⟨m, rfl⟩ := Int.eq_ofNat_of_zero_le (a := n) (by omega)
    obtain ⟨c, rfl⟩ := Int.eq_ofNat_of_zero_le (a := d) (by omega)
    rw [Int.toNat_natCast] at *
    rw [Int.toNat_natCast] at *
    have hc23 : c = 2 ∨ c = 3 := by omega
    have hm4 : m ≤ 4 := by omega
    rw [hc] at HC
    have hz0 : ∀ w, (zeroValue 60).run Tryd.prog w = .ok (.agg #[.int .i64 0, .slice none 0 0]) w := (zero_of_info (show (Tryd.prog.info? 60).map (fun i => (i.zero, i.size)) = some (some (.agg #[.int .i64 0, .slice none 0 0]), 2) by kernel_rfl)).1
    clear k1 k2 hc
    refine (callsIn_wide (n := 3)).1 ?_
    refine callsIn_of_wp_marks Tryd.func18 rfl trivial ?_ rfl
    simp only [Tryd.ntmps18, List.size_toArray, List.length_cons, List.length_nil, Nat.reduceAdd, Nat.reduceSub, Array.replicate_succ, Array.replicate_zero, List.push_toArray, List.append_toArray, List.nil_append, List.cons_append]
    gi_wp2_with (first | (refine ⟨trivial, ?_⟩; gi_at_call 42; refine (callsIn_wide.2 HC.out).mono ?_; rintro e w1 ⟨rfl, hb1⟩; have hE1 := hE.keptAll hb1; have cE1 := hE1.cell 0; simp at cE1))
    have hbw1 := below_step hbw hb1
    have hs1 := hb1.size
    rw [World.size_alloc, World.size_alloc] at hs1
    clear hb1 hE hbw HC cE
    have hsP := Lib.hid (show (Tryd.prog.info? 60).map (·.size) = some 2 by kernel_rfl)
    refine wpIn_mono (Q := fun e a' W' => match e with
      | .normal => ∃ g1 g2 : Nat, a' = { tmps := #[.int .i64 (c : Int), .int .i64 (m : Int), .slice oa xs.length ca, .slice ob ys.length cb, .pointer (some ⟨w.heap.size, 0, none⟩), undef, undef, undef, .slice none 0 0, .int .i64 0, .int .i64 0, .pointer (some ⟨g1, 0, none⟩), .pointer (some ⟨g2, 0, none⟩), undef, undef, undef, .int .i64 (c : Int), .int .i64 (m : Int), .slice oa xs.length ca, .slice ob ys.length cb, .slice (some ⟨w.heap.size + 1, 0, none⟩) 2 2, .int .i64 0, .int .i64 0, .bool false, undef, .int .i64 (c : Int), .slice oa xs.length ca, .agg #[.int .i64 (c : Int), .slice oa xs.length ca], .int .i64 (c : Int), .slice ob ys.length cb, .agg #[.int .i64 (c : Int), .slice ob ys.length cb], undef, undef, undef, undef, undef, undef, undef, undef, undef, undef, undef, undef, undef, undef, undef, undef, undef, undef, undef, undef], defers := [] } ∧
          g1 < W'.heap.size ∧ g2 < W'.heap.size ∧ w.heap.size < g1 ∧ w.heap.size < g2 ∧ Blk W' w.heap.size #[.int .i64 (c : Int)] 2 ∧ Blk W' g1 #[.int .i64 (c : Int), .slice oa xs.length ca] 60 ∧ Blk W' g2 #[.int .i64 (c : Int), .slice ob ys.length cb] 60 ∧ Below w.heap.size w W'
      | _ => False) ?reg ?rest
    case reg =>
      refine wp_region_wide (S := fun W => Blk W w.heap.size #[.int .i64 (c : Int)] 2) (by kernel_rfl) (by kernel_rfl) (not_out _ (fun _ _ h => h)) (hE1.keptAll ((Below.refl _ _).drew)) (fun hS0 => ?_)
      (refine hK_take 0 (.int .i64 (c : Int)) rfl (by kernel_rfl) (by kernel_rfl) (by kernel_rfl) (fun _ _ _ h => h) rfl (fun W hW => by have c1 := Blk.cell hW 0; simp at c1; clear hW; go_simp) hS0 ?_; (intro K hK; go_simp; refine hK _ ?_; clear hK K))
      (refine hK_take 1 (.slice oa xs.length ca) rfl (by kernel_rfl) (by kernel_rfl) (by kernel_rfl) (fun _ _ _ h => h) rfl (fun W _ => by go_simp) hS0 ?_; (intro K hK; go_simp; refine hK _ ?_; clear hK K))
      (refine hK_take 2 (.agg #[.int .i64 (c : Int), .slice oa xs.length ca]) rfl (by kernel_rfl) (by kernel_rfl) (by kernel_rfl) (fun _ _ _ h => h) rfl (fun W _ => by go_simp) hS0 ?_; (intro K hK; go_simp; refine hK _ ?_; clear hK K))
      (refine hK_take 3 (.int .i64 (c : Int)) rfl (by kernel_rfl) (by kernel_rfl) (by kernel_rfl) (fun _ _ _ h => h) rfl (fun W hW => by have c1 := Blk.cell hW 0; simp at c1; clear hW; go_simp) hS0 ?_; (intro K hK; go_simp; refine hK _ ?_; clear hK K))
      (refine hK_take 4 (.slice ob ys.length cb) rfl (by kernel_rfl) (by kernel_rfl) (by kernel_rfl) (fun _ _ _ h => h) rfl (fun W _ => by go_simp) hS0 ?_; (intro K hK; go_simp; refine hK _ ?_; clear hK K))
      (refine hK_take 5 (.agg #[.int .i64 (c : Int), .slice ob ys.length cb]) rfl (by kernel_rfl) (by kernel_rfl) (by kernel_rfl) (fun _ _ _ h => h) rfl (fun W _ => by go_simp) hS0 ?_; (intro K hK; go_simp; refine hK _ ?_; clear hK K))
      refine wpAnyH_ready (rs := [6, 7]) (by kernel_rfl) (by simp) ?_
      refine AllReadyH.cons rfl (fun K hK => ?_) (AllReadyH.cons rfl (fun K hK => ?_) AllReadyH.nil)
      · go_simp
        refine hK.out _ _ (Blk.alloc hS0 _) (fun hS1 => ?_)
        clear hK K
        refine wpAnyH_ready (rs := [7]) (by kernel_rfl) (by simp) ?_
        refine AllReadyH.cons rfl (fun K hK => ?_) AllReadyH.nil
        go_simp
        refine hK.out _ _ (Blk.alloc hS1 _) (fun hS2 => ?_)
        clear hK K
        have hA0 : Blk (((w1.alloc (.cells #[.int .i64 0, .slice none 0 0] 60)).alloc (.cells #[.int .i64 0, .slice none 0 0] 60)).drew) w1.heap.size #[.int .i64 0, .slice none 0 0] 60 := ((Blk.new w1 _ _).alloc _).drew
        have hB0 : Blk (((w1.alloc (.cells #[.int .i64 0, .slice none 0 0] 60)).alloc (.cells #[.int .i64 0, .slice none 0 0] 60)).drew) (w1.heap.size + 1) #[.int .i64 0, .slice none 0 0] 60 := (Blk.new_at _ _ _ _ (by simp)).drew
        have hbw2 : Below w.heap.size w (((w1.alloc (.cells #[.int .i64 0, .slice none 0 0] 60)).alloc (.cells #[.int .i64 0, .slice none 0 0] 60)).drew) := below_step hbw1 (by (repeat (first | exact Below.refl _ _ | refine below_drew' ?_ | refine below_drewN' ?_ _ | refine below_alloc' ?_ _ | refine below_set' ?_ (by (try simp); (try omega)) _ | refine below_step ?_ (by assumption))))
        have hs2 : (((w1.alloc (.cells #[.int .i64 0, .slice none 0 0] 60)).alloc (.cells #[.int .i64 0, .slice none 0 0] 60)).drew).heap.size = w1.heap.size + 2 := by simp
        generalize ((w1.alloc (.cells #[.int .i64 0, .slice none 0 0] 60)).alloc (.cells #[.int .i64 0, .slice none 0 0] 60)).drew = W6 at *
        refine hK_store 8 rfl (by kernel_rfl) rfl 60 _ _ rfl w1.heap.size 0 #[.int .i64 (c : Int), .slice oa xs.length ca] rfl rfl _ _ hA0 (by simp) hsP.out (by simp [Value.oneCell']) _ rfl (fun W7 hs7 => ⟨hs7.keep (by omega) hS2, fun hS3 => ?_⟩)
        (intro K hK; go_simp; refine hK _ ?_; clear hK K)
        have hX7 := hs7.blk
        have hY7 := hs7.keep (by omega) hB0
        have hb7 := hs7.below _ _ (by omega) hbw2
        refine hK_store 9 rfl (by kernel_rfl) rfl 60 _ _ rfl (w1.heap.size + 1) 0 #[.int .i64 (c : Int), .slice ob ys.length cb] rfl rfl _ _ hY7 (by simp) hsP.out (by simp [Value.oneCell']) _ rfl (fun W8 hs8 => ⟨hs8.keep (by omega) hS3, fun hS4 => ?_⟩)
        (intro K hK; go_simp; refine hK _ ?_; clear hK K)
        refine wpAnyH_done (by kernel_rfl) ?_ _
        have hz7 := hs7.size
        have hz8 := hs8.size
        exact ⟨w1.heap.size, (w1.heap.size + 1), rfl, by omega, by omega, by omega, by omega, hS4, hs8.keep (by omega) hX7, hs8.blk, hs8.below _ _ (by omega) hb7⟩
      · go_simp
        refine hK.out _ _ (Blk.alloc hS0 _) (fun hS1 => ?_)
        clear hK K
        refine wpAnyH_ready (rs := [6]) (by kernel_rfl) (by simp) ?_
        refine AllReadyH.cons rfl (fun K hK => ?_) AllReadyH.nil
        go_simp
        refine hK.out _ _ (Blk.alloc hS1 _) (fun hS2 => ?_)
        clear hK K
        have hA0 : Blk (((w1.alloc (.cells #[.int .i64 0, .slice none 0 0] 60)).alloc (.cells #[.int .i64 0, .slice none 0 0] 60)).drew) w1.heap.size #[.int .i64 0, .slice none 0 0] 60 := ((Blk.new w1 _ _).alloc _).drew
        have hB0 : Blk (((w1.alloc (.cells #[.int .i64 0, .slice none 0 0] 60)).alloc (.cells #[.int .i64 0, .slice none 0 0] 60)).drew) (w1.heap.size + 1) #[.int .i64 0, .slice none 0 0] 60 := (Blk.new_at _ _ _ _ (by simp)).drew
        have hbw2 : Below w.heap.size w (((w1.alloc (.cells #[.int .i64 0, .slice none 0 0] 60)).alloc (.cells #[.int .i64 0, .slice none 0 0] 60)).drew) := below_step hbw1 (by (repeat (first | exact Below.refl _ _ | refine below_drew' ?_ | refine below_drewN' ?_ _ | refine below_alloc' ?_ _ | refine below_set' ?_ (by (try simp); (try omega)) _ | refine below_step ?_ (by assumption))))
        have hs2 : (((w1.alloc (.cells #[.int .i64 0, .slice none 0 0] 60)).alloc (.cells #[.int .i64 0, .slice none 0 0] 60)).drew).heap.size = w1.heap.size + 2 := by simp
        generalize ((w1.alloc (.cells #[.int .i64 0, .slice none 0 0] 60)).alloc (.cells #[.int .i64 0, .slice none 0 0] 60)).drew = W6 at *
        refine hK_store 8 rfl (by kernel_rfl) rfl 60 _ _ rfl (w1.heap.size + 1) 0 #[.int .i64 (c : Int), .slice oa xs.length ca] rfl rfl _ _ hB0 (by simp) hsP.out (by simp [Value.oneCell']) _ rfl (fun W7 hs7 => ⟨hs7.keep (by omega) hS2, fun hS3 => ?_⟩)
        (intro K hK; go_simp; refine hK _ ?_; clear hK K)
        have hX7 := hs7.blk
        have hY7 := hs7.keep (by omega) hA0
        have hb7 := hs7.below _ _ (by omega) hbw2
        refine hK_store 9 rfl (by kernel_rfl) rfl 60 _ _ rfl w1.heap.size 0 #[.int .i64 (c : Int), .slice ob ys.length cb] rfl rfl _ _ hY7 (by simp) hsP.out (by simp [Value.oneCell']) _ rfl (fun W8 hs8 => ⟨hs8.keep (by omega) hS3, fun hS4 => ?_⟩)
        (intro K hK; go_simp; refine hK _ ?_; clear hK K)
        refine wpAnyH_done (by kernel_rfl) ?_ _
        have hz7 := hs7.size
        have hz8 := hs8.size
        exact ⟨(w1.heap.size + 1), w1.heap.size, rfl, by omega, by omega, by omega, by omega, hS4, hs8.keep (by omega) hX7, hs8.blk, hs8.below _ _ (by omega) hb7⟩
    case rest =>
      rintro e a' W' h
      cases e with
      | normal =>
        obtain ⟨g1, g2, rfl, l1, l2, b1, b2, hE2, hA, hB, hbw2⟩ := h
        have cE2 := (hE2.alloc (.cells #[.slice none 0 0] 26)).cell 0
        simp at cE2
        gi_wp2_with (first | (refine ⟨trivial, ?_⟩; gi_at_call 36; refine (callsIn_wide.2 (wordsBelow_calls _ _ _)).mono ?_; rintro e w2 ⟨rfl, rfl⟩))
        have hX : Blk (((W'.alloc (.cells #[.slice none 0 0] 26)).alloc (.cells #[.int .i64 c] 2)).alloc (.cells #[.int .i64 m] 2)) W'.heap.size #[.slice none 0 0] 26 := ((Blk.new _ _ _).alloc _).alloc _
        have hD : Blk (((W'.alloc (.cells #[.slice none 0 0] 26)).alloc (.cells #[.int .i64 c] 2)).alloc (.cells #[.int .i64 m] 2)) (W'.heap.size + 1) #[.int .i64 c] 2 := (Blk.new_at _ _ _ _ (by simp)).alloc _
        have hN : Blk (((W'.alloc (.cells #[.slice none 0 0] 26)).alloc (.cells #[.int .i64 c] 2)).alloc (.cells #[.int .i64 m] 2)) (W'.heap.size + 2) #[.int .i64 m] 2 := Blk.new_at _ _ _ _ (by simp)
        have hb5 : Below W'.heap.size W' (((W'.alloc (.cells #[.slice none 0 0] 26)).alloc (.cells #[.int .i64 c] 2)).alloc (.cells #[.int .i64 m] 2)) := by (repeat (first | exact Below.refl _ _ | refine below_drew' ?_ | refine below_drewN' ?_ _ | refine below_alloc' ?_ _ | refine below_set' ?_ (by (try simp); (try omega)) _ | refine below_step ?_ (by assumption)))
        have hsz5 : (((W'.alloc (.cells #[.slice none 0 0] 26)).alloc (.cells #[.int .i64 c] 2)).alloc (.cells #[.int .i64 m] 2)).heap.size = W'.heap.size + 3 := by simp
        have hbw5 := below_step hbw2 hb5
        have hE5 := hE2.keptAll hb5
        have hA5 := hA.keptAll hb5
        have hB5 := hB.keptAll hb5
        have hs5 := hbw2.size
        generalize ((W'.alloc (.cells #[.slice none 0 0] 26)).alloc (.cells #[.int .i64 c] 2)).alloc (.cells #[.int .i64 m] 2) = W5 at *
        generalize W'.heap.size = gX at *
        clear hb5 hbw2 hE2 hA hB cE2 hz0 hE1 hbw1 hs1
        refine wp_rangeFoot (gf := 69) (lb := #[.pointer (some ⟨gX + 2, 0, none⟩), .pointer (some ⟨gX + 1, 0, none⟩)]) rfl (enters_of Tryd.func69 (by kernel_rfl) rfl)
          (wordsBelow_gives c m _ _ hc23 hm4 W5 hN hD) (Below.refl _ _)
          (fun s W => ∃ v, s.2 = accF gX v ∧ AccAt W gX (gX + 1) v (muF c xs ys s.1) ∧ Blk W w.heap.size #[.int .i64 c] 2 ∧ Blk W g1 #[.int .i64 c, .slice oa xs.length ca] 60 ∧ Blk W g2 #[.int .i64 c, .slice ob ys.length cb] 60 ∧ Below w.heap.size w W)
          (fun _ _ => False)
          ?own (fun _ _ _ _ h _ _ => h) ?foot (accF gX (.slice none 0 0)) ⟨_, rfl, ⟨hX, OwnI.nil _ _, by omega⟩, hE5, hA5, hB5, hbw5⟩ ?caps
          (fun x => { tmps := #[.int .i64 (c : Int), .int .i64 (m : Int), .slice oa xs.length ca, .slice ob ys.length cb, .pointer (some ⟨w.heap.size, 0, none⟩), undef, undef, undef, .slice none 0 0, .int .i64 0, .int .i64 0, .pointer (some ⟨g1, 0, none⟩), .pointer (some ⟨g2, 0, none⟩), .pointer (some ⟨gX, 0, none⟩), .string x, undef, .int .i64 (c : Int), .int .i64 (m : Int), .slice oa xs.length ca, .slice ob ys.length cb, .slice (some ⟨w.heap.size + 1, 0, none⟩) 2 2, .int .i64 0, .int .i64 0, .bool false, undef, .int .i64 (c : Int), .slice oa xs.length ca, .agg #[.int .i64 (c : Int), .slice oa xs.length ca], .int .i64 (c : Int), .slice ob ys.length cb, .agg #[.int .i64 (c : Int), .slice ob ys.length cb], .int .i64 (c : Int), .int .i64 (m : Int), .func (.func 69) #[] #[.pointer (some ⟨gX + 1 + 1, 0, none⟩), .pointer (some ⟨gX + 1, 0, none⟩)], .string x, undef, undef, undef, undef, undef, undef, undef, undef, undef, undef, undef, undef, undef, undef, undef, undef], defers := [] })
          ?assign ?body ?done ?stop
        case own =>
          rintro s X Z row ⟨v, x1, x2, x3, x4, x5, x6⟩ hg hr
          exact ⟨v, x1, x2.turn hg (fun r e => (hr r e).2), x3.turn hg (fun r e => (hr r e).2), x4.turn hg (fun r e => (hr r e).2), x5.turn hg (fun r e => (hr r e).2), ownFrom_below (β := Unit) (Nat.le_refl _) (by omega) () X Z row x6 hg hr⟩
        case foot =>
          rintro s X ⟨v, x1, x2, _, _⟩ k hk
          rw [x1] at hk
          exact x2.foot k hk
        case caps =>
          rintro i (rfl | rfl) (h | h)
          · omega
          · simp [Value.ownBlock] at h
          · omega
          · simp [Value.ownBlock] at h
        case assign =>
          intro l2 x W' K hK
          gi_wp2
          exact hK
        case body =>
          rintro l2 ⟨pre, ft⟩ x W' ⟨v, x1, x2, x3, x4, x5, x6⟩ hpre
          dsimp only at x1 x2 hpre ⊢
          subst x1
          obtain ⟨q1, q2⟩ := kAt_in' c m hc23 x (hpre.subset (by simp))
          obtain ⟨a1, a2⟩ := actS_ok c m hc23 hm4 xs k3 x (by omega) q2
          have hd3 : c ≤ 3 := by omega
          obtain ⟨_, _, _, _, ka⟩ := kAt_ok c m xs x.data.toList k3 q1 q2 hd3 hm4
          obtain ⟨_, _, _, _, kb⟩ := kAt_ok c m ys (actS c xs x).data.toList k4 (by omega) a2 hd3 hm4
          have HA1 := Lib.hid (fun W h1 h2 => at_calls c m hc23 hm4 xs k3 (.slice oa xs.length ca) x q1 q2 W h1 h2)
          have HLd := Lib.hid (fun W h1 h2 => lead_calls c m hc23 hm4 xs k3 (.slice oa xs.length ca) x (by omega) q2 W h1 h2)
          have HA2 := Lib.hid (fun W h1 h2 => at_calls c m hc23 hm4 ys k4 (.slice ob ys.length cb) (actS c xs x) (by omega) a2 W h1 h2)
          have hr1 := pRow_3 c _ hc23 ka
          have hr2 := pRow_3 c _ hc23 kb
          have HTh := Lib.hid (fun W => then_calls _ _ hr1 hr2 W)
          obtain ⟨hz, _, _, _, hl3, hb3⟩ := mul_facts c _ _ hc23 ka kb
          have HNu := Lib.hid (fun W hT => number_calls _ ⟨hl3, hb3⟩ c hd3 W hT)
          rw [hz] at HNu
          have HF : Hid (muF c xs ys (pre ++ [x]) = muF c xs ys pre ++ [(mulN c (kAt c xs x.data.toList) (kAt c ys (actS c xs x).data.toList) : Int)]) := Lib.hid (by simp [muF, muV])
          have Hln : Hid ((muF c xs ys pre).length ≤ 1215) := Lib.hid (by
            have h1 := hpre.length_le
            have h2 := wordsB_len c hd3 m (by omega)
            simp [muF] at h1 ⊢
            omega)
          have Hr3 : Hid ((u8s (thenR (pRow c (kAt c xs x.data.toList)) (pRow c (kAt c ys (actS c xs x).data.toList)))).size = 3) := Lib.hid (u8s_szs _ hl3)
          clear q1 q2 a1 a2 ka kb hr1 hr2 hz hl3 hb3 hpre
          generalize mulN c (kAt c xs x.data.toList) (kAt c ys (actS c xs x).data.toList) = z at *
          generalize thenR (pRow c (kAt c xs x.data.toList)) (pRow c (kAt c ys (actS c xs x).data.toList)) = r3 at *
          generalize pRow c (kAt c ys (actS c xs x).data.toList) = r2 at *
          generalize pRow c (kAt c xs x.data.toList) = r1 at *
          generalize actS c xs x = y at *
          have hzp := (zero_of_info info_pm).1
          have hsz := Lib.hid (zero_of_info info_pm).2
          have Hs3 : Hid ((Tryd.prog.info? 54).map (·.size) = some (u8s r3).size) := Lib.hid (by rw [Hr3.out]; exact hsz.out)
          have Hf3 : Hid (0 + (u8s r3).size ≤ (u8s [0, 0, 0]).size) := Lib.hid (by rw [Hr3.out]; exact Nat.le_refl 3)
          have Ho3 : Hid (over (u8s [0, 0, 0]) 0 (u8s r3) = u8s r3) := Lib.hid (over_all _ _ (by rw [Hr3.out]; rfl))
          have HcR : Hid (cut (u8s r3) 0 3 = u8s r3) := Lib.hid (cut_all _ _ Hr3.out)
          have HfR : Hid (0 + 3 ≤ (u8s r3).size) := Lib.hid (by rw [Hr3.out]; exact Nat.le_refl 3)
          obtain ⟨o', c', hve, _⟩ := x2.2.1.view
          subst hve
          have Hcut1 : Hid (cut (#[.int .i64 c, .slice oa xs.length ca] : Array Value) 0 2 = #[.int .i64 c, .slice oa xs.length ca]) := Lib.hid rfl
          have Hfit1 : Hid (0 + 2 ≤ (#[.int .i64 c, .slice oa xs.length ca] : Array Value).size) := Lib.hid (Nat.le_refl 2)
          have Hcut2 : Hid (cut (#[.int .i64 c, .slice ob ys.length cb] : Array Value) 0 2 = #[.int .i64 c, .slice ob ys.length cb]) := Lib.hid rfl
          have Hfit2 : Hid (0 + 2 ≤ (#[.int .i64 c, .slice ob ys.length cb] : Array Value).size) := Lib.hid (Nat.le_refl 2)
          generalize hvv : Value.slice o' (muF c xs ys pre).length c' = v at *
          have h0 : MuB w W' w.heap.size g1 g2 gX c (.slice oa xs.length ca) (.slice ob ys.length cb) v (muF c xs ys pre) W' := ⟨x2, x3, x4, x5, x6, FootKeeps.refl _ _⟩
          clear x2 x3 x4 x5 x6
          gi_wp2_with fail
          refine wpIn_mono (Q := fun e a' W'' => match e with
            | .normal => ∃ gp, a' = { tmps := #[.int .i64 (c : Int), .int .i64 (m : Int), .slice oa xs.length ca, .slice ob ys.length cb, .pointer (some ⟨w.heap.size, 0, none⟩), undef, undef, undef, .slice none 0 0, .int .i64 0, .int .i64 0, .pointer (some ⟨g1, 0, none⟩), .pointer (some ⟨g2, 0, none⟩), .pointer (some ⟨gX, 0, none⟩), .string x, .pointer (some ⟨gp, 0, none⟩), .int .i64 (c : Int), .int .i64 (m : Int), .slice oa xs.length ca, .slice ob ys.length cb, .slice (some ⟨w.heap.size + 1, 0, none⟩) 2 2, .int .i64 0, .int .i64 0, .bool false, undef, .int .i64 (c : Int), .slice oa xs.length ca, .agg #[.int .i64 (c : Int), .slice oa xs.length ca], .int .i64 (c : Int), .slice ob ys.length cb, .agg #[.int .i64 (c : Int), .slice ob ys.length cb], .int .i64 (c : Int), .int .i64 (m : Int), .func (.func 69) #[] #[.pointer (some ⟨gX + 1 + 1, 0, none⟩), .pointer (some ⟨gX + 1, 0, none⟩)], .string x, .agg #[.int .i64 (c : Int), .slice oa xs.length ca], .string x, .agg (u8s r1), .agg #[.int .i64 (c : Int), .slice ob ys.length cb], .agg #[.int .i64 (c : Int), .slice oa xs.length ca], .string x, .string y, .agg (u8s r2), .agg (u8s r3), undef, undef, undef, undef, undef, undef, undef], defers := [] } ∧ MuB w W' w.heap.size g1 g2 gX c (.slice oa xs.length ca) (.slice ob ys.length cb) v (muF c xs ys pre) W'' ∧ Blk W'' gp (u8s r3) 54 ∧ W'.heap.size ≤ gp
            | _ => False) ?reg8 ?rest8
          case reg8 =>
            refine wp_region_last (n := 10) (S := fun W => MuB w W' w.heap.size g1 g2 gX c (.slice oa xs.length ca) (.slice ob ys.length cb) v (muF c xs ys pre) W) (by kernel_rfl) rfl (by kernel_rfl) (by kernel_rfl) (not_out _ (fun _ _ h => h)) (h0.step (by (repeat (first | exact Below.refl _ _ | refine below_drew' ?_ | refine below_drewN' ?_ _ | refine below_alloc' ?_ _ | refine below_set' ?_ (by (try simp); (try omega)) _ | refine below_step ?_ (by assumption))))) (fun hS => ?_)
            (refine hK_load 0 rfl (by kernel_rfl) (by kernel_rfl) (by kernel_rfl) 60 _ rfl g1 0 rfl #[.int .i64 c, .slice oa xs.length ca] _ (fun W hW => hW.2.2.1) 2 Hfit1.out _ Tryd.underlying60 rfl hsP.out _ Hcut1.out (fun _ _ _ h => h) rfl hS ?_; (intro K hK; go_simp; refine hK _ ?_; clear hK K))
            (refine hK_take 1 (.string x) rfl (by kernel_rfl) (by kernel_rfl) (by kernel_rfl) (fun _ _ _ h => h) rfl (fun W _ => by go_simp) hS ?_; (intro K hK; go_simp; refine hK _ ?_; clear hK K))
            (refine hK_load 3 rfl (by kernel_rfl) (by kernel_rfl) (by kernel_rfl) 60 _ rfl g2 0 rfl #[.int .i64 c, .slice ob ys.length cb] _ (fun W hW => hW.2.2.2.1) 2 Hfit2.out _ Tryd.underlying60 rfl hsP.out _ Hcut2.out (fun _ _ _ h => h) rfl hS ?_; (intro K hK; go_simp; refine hK _ ?_; clear hK K))
            (refine hK_load 4 rfl (by kernel_rfl) (by kernel_rfl) (by kernel_rfl) 60 _ rfl g1 0 rfl #[.int .i64 c, .slice oa xs.length ca] _ (fun W hW => hW.2.2.1) 2 Hfit1.out _ Tryd.underlying60 rfl hsP.out _ Hcut1.out (fun _ _ _ h => h) rfl hS ?_; (intro K hK; go_simp; refine hK _ ?_; clear hK K))
            (refine hK_take 5 (.string x) rfl (by kernel_rfl) (by kernel_rfl) (by kernel_rfl) (fun _ _ _ h => h) rfl (fun W _ => by go_simp) hS ?_; (intro K hK; go_simp; refine hK _ ?_; clear hK K))
            refine wpAnyH_ready (rs := [2, 9]) (by kernel_rfl) (by simp) ?_
            refine AllReadyH.cons rfl (fun K hK => ?_) (AllReadyH.cons rfl (fun K hK => ?_) AllReadyH.nil)
            · go_simp
              refine (HA1.out _ (Hva.out.below hS.2.2.2.2.1) (HT.out.below hS.2.2.2.2.1)).mono ?_
              rintro e W1 ⟨rfl, hb1⟩
              go_simp
              refine hK.out _ _ (hS.step hb1) (fun hS => ?_)
              clear hK K
              refine wpAnyH_ready (rs := [6, 9]) (by kernel_rfl) (by simp) ?_
              refine AllReadyH.cons rfl (fun K hK => ?_) (AllReadyH.cons rfl (fun K hK => ?_) AllReadyH.nil)
              · go_simp
                refine (HLd.out _ (Hva.out.below hS.2.2.2.2.1) (HT.out.below hS.2.2.2.2.1)).mono ?_
                rintro e W2 ⟨rfl, hb2⟩
                go_simp
                refine hK.out _ _ (hS.step hb2) (fun hS => ?_)
                clear hK K
                refine wpAnyH_ready (rs := [7, 9]) (by kernel_rfl) (by simp) ?_
                refine AllReadyH.cons rfl (fun K hK => ?_) (AllReadyH.cons rfl (fun K hK => ?_) AllReadyH.nil)
                · go_simp
                  refine (HA2.out _ (Hvb.out.below hS.2.2.2.2.1) (HT.out.below hS.2.2.2.2.1)).mono ?_
                  rintro e W3 ⟨rfl, hb3⟩
                  go_simp
                  refine hK.out _ _ (hS.step hb3) (fun hS => ?_)
                  clear hK K
                  refine wpAnyH_ready (rs := [8, 9]) (by kernel_rfl) (by simp) ?_
                  refine AllReadyH.cons rfl (fun K hK => ?_) (AllReadyH.cons rfl (fun K hK => ?_) AllReadyH.nil)
                  · go_simp
                    refine (HTh.out _).mono ?_
                    rintro e W4 ⟨rfl, hb4⟩
                    go_simp
                    refine hK.out _ _ (hS.step hb4) (fun hS => ?_)
                    clear hK K
                    refine wpAnyH_ready (rs := [9]) (by kernel_rfl) (by simp) ?_
                    refine AllReadyH.cons rfl (fun K hK => ?_) AllReadyH.nil
                    · go_simp
                      have hG : Blk (W4.alloc (.cells (u8s [0, 0, 0]) 54)) W4.heap.size (u8s [0, 0, 0]) 54 := Blk.new _ _ _
                      have hgp : W'.heap.size ≤ W4.heap.size := hS.2.2.2.2.2.1
                      refine hK.out _ _ (hS.step (by (repeat (first | exact Below.refl _ _ | refine below_drew' ?_ | refine below_drewN' ?_ _ | refine below_alloc' ?_ _ | refine below_set' ?_ (by (try simp); (try omega)) _ | refine below_step ?_ (by assumption))))) (fun hS => ?_)
                      clear hK K
                      refine wpAnyH_done (by kernel_rfl) ?_ _
                      refine lastQ_go rfl (fun K hK => ?_)
                      refine ite_go rfl ?_
                      refine wp_store_rowK 54 _ _ rfl W4.heap.size 0 (u8s r3) rfl rfl _ _ hG Hf3.out Hs3.out (u8s_one _) _ Ho3.out (fun W8 hs8 => ?_)
                      refine hK.out _ _ ?_
                      exact ⟨W4.heap.size, rfl, MuB.stored h0 hS hs8 hgp, hs8.blk, hgp⟩
                  · go_simp
                    have hG : Blk (W3.alloc (.cells (u8s [0, 0, 0]) 54)) W3.heap.size (u8s [0, 0, 0]) 54 := Blk.new _ _ _
                    have hgp : W'.heap.size ≤ W3.heap.size := hS.2.2.2.2.2.1
                    refine hK.out _ _ (hS.step (by (repeat (first | exact Below.refl _ _ | refine below_drew' ?_ | refine below_drewN' ?_ _ | refine below_alloc' ?_ _ | refine below_set' ?_ (by (try simp); (try omega)) _ | refine below_step ?_ (by assumption))))) (fun hS => ?_)
                    clear hK K
                    refine wpAnyH_ready (rs := [8]) (by kernel_rfl) (by simp) ?_
                    refine AllReadyH.cons rfl (fun K hK => ?_) AllReadyH.nil
                    · go_simp
                      refine (HTh.out _).mono ?_
                      rintro e W4 ⟨rfl, hb4⟩
                      replace hG := hG.keptAll hb4
                      go_simp
                      refine hK.out _ _ (hS.step hb4) (fun hS => ?_)
                      clear hK K
                      refine wpAnyH_done (by kernel_rfl) ?_ _
                      refine lastQ_go rfl (fun K hK => ?_)
                      refine ite_go rfl ?_
                      refine wp_store_rowK 54 _ _ rfl W3.heap.size 0 (u8s r3) rfl rfl _ _ hG Hf3.out Hs3.out (u8s_one _) _ Ho3.out (fun W8 hs8 => ?_)
                      refine hK.out _ _ ?_
                      exact ⟨W3.heap.size, rfl, MuB.stored h0 hS hs8 hgp, hs8.blk, hgp⟩
                · go_simp
                  have hG : Blk (W2.alloc (.cells (u8s [0, 0, 0]) 54)) W2.heap.size (u8s [0, 0, 0]) 54 := Blk.new _ _ _
                  have hgp : W'.heap.size ≤ W2.heap.size := hS.2.2.2.2.2.1
                  refine hK.out _ _ (hS.step (by (repeat (first | exact Below.refl _ _ | refine below_drew' ?_ | refine below_drewN' ?_ _ | refine below_alloc' ?_ _ | refine below_set' ?_ (by (try simp); (try omega)) _ | refine below_step ?_ (by assumption))))) (fun hS => ?_)
                  clear hK K
                  refine wpAnyH_ready (rs := [7]) (by kernel_rfl) (by simp) ?_
                  refine AllReadyH.cons rfl (fun K hK => ?_) AllReadyH.nil
                  · go_simp
                    refine (HA2.out _ (Hvb.out.below hS.2.2.2.2.1) (HT.out.below hS.2.2.2.2.1)).mono ?_
                    rintro e W3 ⟨rfl, hb3⟩
                    replace hG := hG.keptAll hb3
                    go_simp
                    refine hK.out _ _ (hS.step hb3) (fun hS => ?_)
                    clear hK K
                    refine wpAnyH_ready (rs := [8]) (by kernel_rfl) (by simp) ?_
                    refine AllReadyH.cons rfl (fun K hK => ?_) AllReadyH.nil
                    · go_simp
                      refine (HTh.out _).mono ?_
                      rintro e W4 ⟨rfl, hb4⟩
                      replace hG := hG.keptAll hb4
                      go_simp
                      refine hK.out _ _ (hS.step hb4) (fun hS => ?_)
                      clear hK K
                      refine wpAnyH_done (by kernel_rfl) ?_ _
                      refine lastQ_go rfl (fun K hK => ?_)
                      refine ite_go rfl ?_
                      refine wp_store_rowK 54 _ _ rfl W2.heap.size 0 (u8s r3) rfl rfl _ _ hG Hf3.out Hs3.out (u8s_one _) _ Ho3.out (fun W8 hs8 => ?_)
                      refine hK.out _ _ ?_
                      exact ⟨W2.heap.size, rfl, MuB.stored h0 hS hs8 hgp, hs8.blk, hgp⟩
              · go_simp
                have hG : Blk (W1.alloc (.cells (u8s [0, 0, 0]) 54)) W1.heap.size (u8s [0, 0, 0]) 54 := Blk.new _ _ _
                have hgp : W'.heap.size ≤ W1.heap.size := hS.2.2.2.2.2.1
                refine hK.out _ _ (hS.step (by (repeat (first | exact Below.refl _ _ | refine below_drew' ?_ | refine below_drewN' ?_ _ | refine below_alloc' ?_ _ | refine below_set' ?_ (by (try simp); (try omega)) _ | refine below_step ?_ (by assumption))))) (fun hS => ?_)
                clear hK K
                refine wpAnyH_ready (rs := [6]) (by kernel_rfl) (by simp) ?_
                refine AllReadyH.cons rfl (fun K hK => ?_) AllReadyH.nil
                · go_simp
                  refine (HLd.out _ (Hva.out.below hS.2.2.2.2.1) (HT.out.below hS.2.2.2.2.1)).mono ?_
                  rintro e W2 ⟨rfl, hb2⟩
                  replace hG := hG.keptAll hb2
                  go_simp
                  refine hK.out _ _ (hS.step hb2) (fun hS => ?_)
                  clear hK K
                  refine wpAnyH_ready (rs := [7]) (by kernel_rfl) (by simp) ?_
                  refine AllReadyH.cons rfl (fun K hK => ?_) AllReadyH.nil
                  · go_simp
                    refine (HA2.out _ (Hvb.out.below hS.2.2.2.2.1) (HT.out.below hS.2.2.2.2.1)).mono ?_
                    rintro e W3 ⟨rfl, hb3⟩
                    replace hG := hG.keptAll hb3
                    go_simp
                    refine hK.out _ _ (hS.step hb3) (fun hS => ?_)
                    clear hK K
                    refine wpAnyH_ready (rs := [8]) (by kernel_rfl) (by simp) ?_
                    refine AllReadyH.cons rfl (fun K hK => ?_) AllReadyH.nil
                    · go_simp
                      refine (HTh.out _).mono ?_
                      rintro e W4 ⟨rfl, hb4⟩
                      replace hG := hG.keptAll hb4
                      go_simp
                      refine hK.out _ _ (hS.step hb4) (fun hS => ?_)
                      clear hK K
                      refine wpAnyH_done (by kernel_rfl) ?_ _
                      refine lastQ_go rfl (fun K hK => ?_)
                      refine ite_go rfl ?_
                      refine wp_store_rowK 54 _ _ rfl W1.heap.size 0 (u8s r3) rfl rfl _ _ hG Hf3.out Hs3.out (u8s_one _) _ Ho3.out (fun W8 hs8 => ?_)
                      refine hK.out _ _ ?_
                      exact ⟨W1.heap.size, rfl, MuB.stored h0 hS hs8 hgp, hs8.blk, hgp⟩
            · go_simp
              have hG : Blk (W'.alloc (.cells (u8s [0, 0, 0]) 54)).drew W'.heap.size (u8s [0, 0, 0]) 54 := (Blk.new _ _ _).drew
              have hgp : W'.heap.size ≤ W'.heap.size := Nat.le_refl _
              refine hK.out _ _ (h0.step (by (repeat (first | exact Below.refl _ _ | refine below_drew' ?_ | refine below_drewN' ?_ _ | refine below_alloc' ?_ _ | refine below_set' ?_ (by (try simp); (try omega)) _ | refine below_step ?_ (by assumption))))) (fun hS => ?_)
              clear hK K
              refine wpAnyH_ready (rs := [2]) (by kernel_rfl) (by simp) ?_
              refine AllReadyH.cons rfl (fun K hK => ?_) AllReadyH.nil
              · go_simp
                refine (HA1.out _ (Hva.out.below hS.2.2.2.2.1) (HT.out.below hS.2.2.2.2.1)).mono ?_
                rintro e W1 ⟨rfl, hb1⟩
                replace hG := hG.keptAll hb1
                go_simp
                refine hK.out _ _ (hS.step hb1) (fun hS => ?_)
                clear hK K
                refine wpAnyH_ready (rs := [6]) (by kernel_rfl) (by simp) ?_
                refine AllReadyH.cons rfl (fun K hK => ?_) AllReadyH.nil
                · go_simp
                  refine (HLd.out _ (Hva.out.below hS.2.2.2.2.1) (HT.out.below hS.2.2.2.2.1)).mono ?_
                  rintro e W2 ⟨rfl, hb2⟩
                  replace hG := hG.keptAll hb2
                  go_simp
                  refine hK.out _ _ (hS.step hb2) (fun hS => ?_)
                  clear hK K
                  refine wpAnyH_ready (rs := [7]) (by kernel_rfl) (by simp) ?_
                  refine AllReadyH.cons rfl (fun K hK => ?_) AllReadyH.nil
                  · go_simp
                    refine (HA2.out _ (Hvb.out.below hS.2.2.2.2.1) (HT.out.below hS.2.2.2.2.1)).mono ?_
                    rintro e W3 ⟨rfl, hb3⟩
                    replace hG := hG.keptAll hb3
                    go_simp
                    refine hK.out _ _ (hS.step hb3) (fun hS => ?_)
                    clear hK K
                    refine wpAnyH_ready (rs := [8]) (by kernel_rfl) (by simp) ?_
                    refine AllReadyH.cons rfl (fun K hK => ?_) AllReadyH.nil
                    · go_simp
                      refine (HTh.out _).mono ?_
                      rintro e W4 ⟨rfl, hb4⟩
                      replace hG := hG.keptAll hb4
                      go_simp
                      refine hK.out _ _ (hS.step hb4) (fun hS => ?_)
                      clear hK K
                      refine wpAnyH_done (by kernel_rfl) ?_ _
                      refine lastQ_go rfl (fun K hK => ?_)
                      refine ite_go rfl ?_
                      refine wp_store_rowK 54 _ _ rfl W'.heap.size 0 (u8s r3) rfl rfl _ _ hG Hf3.out Hs3.out (u8s_one _) _ Ho3.out (fun W8 hs8 => ?_)
                      refine hK.out _ _ ?_
                      exact ⟨W'.heap.size, rfl, MuB.stored h0 hS hs8 hgp, hs8.blk, hgp⟩
          case rest8 =>
            rintro e a' W2 h
            cases e with
            | normal =>
              obtain ⟨gp, rfl, hM, hG, hgp⟩ := h
              gi_wp2_with fail
              have hMd := hM.step (Below.drew (Below.refl W2.heap.size W2))
              have hsc := h0.1.foot
              have hgX := h0.1.1.lt
              refine wp_region_last (n := 6) (S := fun W => Blk W gX #[v] 26 ∧ Blk W w.heap.size #[.int .i64 c] 2 ∧ Blk W gp (u8s r3) 54) (by kernel_rfl) rfl (by kernel_rfl) (by kernel_rfl) (not_out _ (fun _ _ h => h)) ⟨hMd.1.1, hMd.2.1, hG.drew⟩ (fun hS => ?_)
              (refine hK_take 0 v rfl (by kernel_rfl) (by kernel_rfl) (by kernel_rfl) (fun _ _ _ h => h) rfl (fun W hW => by have c1 := Blk.cell hW.1 0; simp at c1; clear hW; subst hvv; go_simp) hS ?_; (intro K hK; go_simp; refine hK _ ?_; clear hK K))
              (refine hK_load 1 rfl (by kernel_rfl) (by kernel_rfl) (by kernel_rfl) 54 _ rfl gp 0 rfl (u8s r3) _ (fun W hW => hW.2.2) 3 HfR.out _ Tryd.underlying54 rfl hsz.out _ HcR.out (fun _ _ _ h => h) rfl hS ?_; (intro K hK; go_simp; refine hK _ ?_; clear hK K))
              (refine hK_take 2 (.int .i64 (c : Int)) rfl (by kernel_rfl) (by kernel_rfl) (by kernel_rfl) (fun _ _ _ h => h) rfl (fun W hW => by have c1 := Blk.cell hW.2.1 0; simp at c1; clear hW; go_simp) hS ?_; (intro K hK; go_simp; refine hK _ ?_; clear hK K))
              (refine wpAnyH_ready (rs := [3]) (by kernel_rfl) (by simp) ?_; refine AllReadyH.cons rfl (fun K hK => ?_) AllReadyH.nil); go_simp; refine (HNu.out _ (HT.out.below hMd.2.2.2.2.1)).mono ?_; rintro e w3 ⟨rfl, hb3⟩
              (go_simp; refine hK.out _ _ (⟨hS.1.keptAll hb3, hS.2.1.keptAll hb3, hS.2.2.keptAll hb3⟩) (fun hS => ?_); clear hK K)
              have hM4 : MuB w W' w.heap.size g1 g2 gX c (.slice oa xs.length ca) (.slice ob ys.length cb) v (muF c xs ys pre) (w3.alloc (.cells #[.int .i64 (z : Nat)] 2)) := (hMd.step hb3).step (by (repeat (first | exact Below.refl _ _ | refine below_drew' ?_ | refine below_drewN' ?_ _ | refine below_alloc' ?_ _ | refine below_set' ?_ (by (try simp); (try omega)) _ | refine below_step ?_ (by assumption))))
              have hnew : Blk (w3.alloc (.cells #[.int .i64 (z : Nat)] 2)) w3.heap.size #[.int .i64 (z : Nat)] 2 := Blk.new _ _ _
              have hG4 := hS.2.2.alloc (.cells #[.int .i64 (z : Nat)] 2)
              refine wpAnyH_ready (rs := [4]) (by kernel_rfl) (by simp) ?_
              refine AllReadyH.cons rfl (fun K hK => ?_) AllReadyH.nil
              go_simp
              refine hK.out _ _ ⟨hM4.1.1, hM4.2.1, hG4⟩ (fun hS5 => ?_)
              clear hK K hS
              generalize w3.alloc (.cells #[.int .i64 (z : Nat)] 2) = w5 at *
              obtain ⟨t1, t2, t3, t4, t5, t6⟩ := hM4
              refine wpAnyH_ready (rs := [5]) (by kernel_rfl) (by simp) ?_
              refine AllReadyH.cons rfl (fun K hK => ?_) AllReadyH.nil
              refine ite_go (by kernel_rfl) ?_
              refine wp_push_int (.tmp 44) (.tmp 48) rfl (gX + 1) v (muF c xs ys pre) rfl t1.2.1 w3.heap.size 1 (z : Nat) rfl hnew (by have := Hln.out; omega) (by have := t1.1.lt; omega) ?_
              intro v' w6 hO6 hg6 hat6
              obtain ⟨o6, c6, hv6, _⟩ := hO6.view
              generalize (muF c xs ys pre ++ [((z : Nat) : Int)]).length = n6 at hv6
              subst hv6
              obtain ⟨p1, p2, p3⟩ := t1.pushed hO6 hg6 hat6
              have p4 := t1.low t5 hg6 (by have := t5.size; omega) (by omega) (.slice o6 n6 c6)
              have hge := ownI_ge t1.2.1
              have pb := t2.same (hg6.block _ t2.lt (fun e => by have := hge _ e.symm; omega))
              have pg1 := t3.same (hg6.block _ t3.lt (fun e => by have := hge _ e.symm; omega))
              have pg2 := t4.same (hg6.block _ t4.lt (fun e => by have := hge _ e.symm; omega))
              have pgp := hG4.same (hg6.block _ hG4.lt (fun e => by have := hsc _ (.inr e.symm); omega))
              refine hK.out _ _ ⟨p1, pb, pgp⟩ (fun hS6 => ?_)
              clear hK K
              refine wpAnyH_done (by kernel_rfl) ?_ _
              refine lastQ_go rfl (fun K hK => ?_)
              have cX := p1.cell 0
              simp at cX
              have fX := p1.free
              go_simp
              refine hK.out _ _ ?_
              gi_wp2
              exact ⟨_, ⟨_, rfl, by rw [HF.out]; exact p2, pb.setOther gX 0 _ (by omega), pg1.setOther gX 0 _ (by omega), pg2.setOther gX 0 _ (by omega), p4⟩, t6.trans p3⟩
            | _ => exact h.elim
        case done =>
          rintro D ft W' hD ⟨v, x1, x2, x3, x4, x5, x6⟩ hdd hnd
          dsimp only at x1 x2
          obtain ⟨o', c', hve, _⟩ := x2.2.1.view
          subst hve
          have cX := x2.1.cell 0
          simp at cX
          gi_wp2
          refine ⟨by simp, .inl ⟨_, _, rfl, run_takeDeferred hdd, ?_⟩⟩
          refine ⟨_, results_tmp2 rfl _ _ _, ?_⟩
          have y5 := x6.trans (belowK_b (w := w) (Nat.le_refl _) W' D _ (.deferred none) (by omega) hdd rfl rfl)
          exact ⟨_, ret_lw Hc.out.symm, by rw [HR.out]; exact (x2.2.1.turn (grownBy_putObj' W' D (.deferred none)) (fun r e => by cases e; exact ⟨_, hdd, rfl⟩)).base_le' (by omega), y5⟩
        case stop =>
          rintro D pre W' _ _ h _
          exact h.elim
      | _ => exact h.elim
  · have HR : Hid (muR d n xs ys = []) := Lib.hid (by unfold muR; rw [if_neg hc])
    have hcb : (codeM d n xs ys != 0) = true := by simpa using hc
    generalize codeM d n xs ys = cc at *
    go_enter Tryd.func18, Tryd.ntmps18
    go_wp2_with (go_at_call 42; refine HC.out.mono ?_; rintro e w1 ⟨rfl, hb1⟩)
    go_ret2
    exact ⟨_, rfl, by rw [HR.out]; exact OwnI.nil _ _, below_step hbw hb1⟩
end Go.Proofs.YtgeihpaealomkaaDoor
