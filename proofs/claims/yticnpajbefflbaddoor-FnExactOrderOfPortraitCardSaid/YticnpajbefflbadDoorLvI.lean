/- 'levelImages': the program. -/
import Derived.Test.YticnpajbefflbadDoorBls
import Derived.Test.YticnpajbefflbadDoorPcF
import Derived.Test.YticnpajbefflbadDoorRgA
import Derived.Test.YticnpajbefflbadDoorRgL
import Derived.Test.YticnpajbefflbadDoorLevM
namespace Go.Proofs.YticnpajbefflbadDoor
open Go.RowKit Go.Shelf
attribute [local go_sem] Oper.semAt_some

/-- The number of the word to which a word is led. -/
def imgS (d : Nat) (zs : List Int) (s : ByteArray) : Int := numI d (actS d zs s).data.toList
def imgsF (d : Nat) (zs : List Int) (pre : List ByteArray) : List Int := pre.map (imgS d zs)
def imgsP (d n : Nat) (zs : List Int) : List Int := imgsF d zs (wordsL d n)
theorem imgsP_len (d n : Nat) (zs : List Int) : (imgsP d n zs).length = d ^ n := by simp [imgsP, imgsF, wordsL_len]
theorem mem_wordsL (d n : Nat) (hd : d = 2 ∨ d = 3) (x : ByteArray) (h : x ∈ wordsL d n) : x.data.toList.length = n ∧ lettersL d x.data.toList = true := by
  unfold wordsL at h
  obtain ⟨k, _, rfl⟩ := List.mem_map.1 h
  have e : (wordS d n k).data.toList = wordOf d n k := by simp [wordS]
  rw [e]
  exact ⟨length_wordOf d n k, lettersL_wordOf d hd n k⟩
theorem wordS_ok' (d n k : Nat) (hd : d = 2 ∨ d = 3) : (wordS d n k).data.toList.length = n ∧ lettersL d (wordS d n k).data.toList = true := by
  have e : (wordS d n k).data.toList = wordOf d n k := by simp [wordS]
  rw [e]
  exact ⟨length_wordOf d n k, lettersL_wordOf d hd n k⟩
/-- What a portrait makes of a word is a word. -/
theorem actS_ok (d n : Nat) (hd : d = 2 ∨ d = 3) (hn : n ≤ 4) (zs : List Int) (hP : isP d n zs = true) (s : ByteArray) (hs : s.data.toList.length ≤ n) (hl : lettersL d s.data.toList = true) :
    (actS d zs s).data.toList.length = s.data.toList.length ∧ lettersL d (actS d zs s).data.toList = true := by
  have e : (actS d zs s).data.toList = actP d zs s.data.toList s.data.toList.length := by simp [actS]
  rw [e]
  refine ⟨actP_len _ _ _ _, ?_⟩
  unfold lettersL
  rw [List.all_eq_true]
  intro c hc
  unfold actP at hc
  obtain ⟨i, hi, rfl⟩ := List.mem_map.1 hc
  have hi' : i < s.data.toList.length := by simpa using hi
  obtain ⟨h48, h51⟩ := lettersL_at hl i hi'
  obtain ⟨p, _, _, _, hk⟩ := kAt_ok d n zs (s.data.toList.take i) hP (by rw [List.length_take]; omega) (lettersL_pre d _ i hl) (by omega) hn
  have hrow : ∀ x, x < d → 0 ≤ (pRow d (kAt d zs (s.data.toList.take i))).getD x 0 ∧ (pRow d (kAt d zs (s.data.toList.take i))).getD x 0 < d := by
    have h2 : ∀ k, k < 2 → ∀ x, x < 2 → 0 ≤ (pRow 2 k).getD x 0 ∧ (pRow 2 k).getD x 0 < 2 := by decide
    have h3 : ∀ k, k < 6 → ∀ x, x < 3 → 0 ≤ (pRow 3 k).getD x 0 ∧ (pRow 3 k).getD x 0 < 3 := by decide
    rcases hd with rfl | rfl
    · exact h2 _ hk
    · exact h3 _ hk
  have hx := hrow ((s.data.toList.getD i 0).toNat - 48) (by
    rw [show s.data.toList.getD i 0 = s.data.toList[i] from by simp [List.getD, List.getElem?_eq_getElem hi']]
    omega)
  have hpt : (ptL d zs s.data.toList i : Int) < d := by unfold ptL; omega
  have hd3 : d ≤ 3 := by omega
  have hdig := dig_toNat (ptL d zs s.data.toList i : Int) (by omega) (by omega)
  rw [letterB_iff]
  omega


set_option maxRecDepth 100000 in
set_option maxHeartbeats 2000000 in
theorem levelImages_calls (d n : Nat) (hd : d = 2 ∨ d = 3) (hn : n ≤ 4) (zs : List Int) (hP : isP d n zs = true) (v : Value) (w : World) (hv : SeesI w v zs) (hT : TabsAt w) :
    Calls Tryd.prog 14 #[.agg #[.int .i64 d, v], .int .i64 n] w fun e w' => ∃ v1, e = .returned v1 ∧ OwnI w' w.heap.size v1 (imgsP d n zs) ∧ Below w.heap.size w w' := by
  obtain ⟨oa, ca, hve, _⟩ := hv.view
  subst hve
  have Hv := Lib.hid hv
  have HT := Lib.hid hT
  have HL := Lib.hid (fun s hs hl W h1 h2 => lead_calls d n hd hn zs hP (.slice oa zs.length ca) s hs hl W h1 h2)
  have HA := Lib.hid (actS_ok d n hd hn zs hP)
  have hsP := Lib.hid (show (Tryd.prog.info? 33).map (·.size) = some 2 by kernel_rfl)
  have Hcut : Hid (cut (#[.int .i64 d, .slice oa zs.length ca] : Array Value) 0 2 = #[.int .i64 d, .slice oa zs.length ca]) := Lib.hid rfl
  have Hfit : Hid (0 + 2 ≤ (#[.int .i64 d, .slice oa zs.length ca] : Array Value).size) := Lib.hid (Nat.le_refl 2)
  have hpb := pow_le d n (by omega) (by omega)
  have HLen : Hid ((wordsL d n).length ≤ 243) := Lib.hid (by rw [wordsL_len]; exact hpb)
  clear hv hT hP hpb
  have cP0 := (Blk.new w #[.int .i64 d, .slice oa zs.length ca] 33).cell 0
  simp at cP0
  refine (callsIn_wide (n := 3)).1 ?_
  refine callsIn_of_wp_marks Tryd.func14 rfl trivial ?_ rfl
  simp only [Tryd.ntmps14, List.size_toArray, List.length_cons, List.length_nil, Nat.reduceAdd, Nat.reduceSub, Array.replicate_succ, Array.replicate_zero, List.push_toArray, List.append_toArray, List.nil_append, List.cons_append]
  gi_wp2_with (refine ⟨trivial, ?_⟩; gi_at_call 26; refine (callsIn_wide.2 (wordsOfLevel_calls _ _ _)).mono ?_; rintro e w2 ⟨rfl, rfl⟩)
  have hP : Blk ((((w.alloc (.cells #[.int .i64 d, .slice oa zs.length ca] 33)).alloc (.cells #[.slice none 0 0] 22)).alloc (.cells #[.int .i64 d] 2)).alloc (.cells #[.int .i64 n] 2)) w.heap.size #[.int .i64 d, .slice oa zs.length ca] 33 := (((Blk.new w _ _).alloc _).alloc _).alloc _
  have hX : Blk ((((w.alloc (.cells #[.int .i64 d, .slice oa zs.length ca] 33)).alloc (.cells #[.slice none 0 0] 22)).alloc (.cells #[.int .i64 d] 2)).alloc (.cells #[.int .i64 n] 2)) (w.heap.size + 1) #[.slice none 0 0] 22 := ((Blk.new_at _ _ _ _ (by simp)).alloc _).alloc _
  have hD : Blk ((((w.alloc (.cells #[.int .i64 d, .slice oa zs.length ca] 33)).alloc (.cells #[.slice none 0 0] 22)).alloc (.cells #[.int .i64 d] 2)).alloc (.cells #[.int .i64 n] 2)) (w.heap.size + 2) #[.int .i64 d] 2 := (Blk.new_at _ _ _ _ (by simp)).alloc _
  have hN : Blk ((((w.alloc (.cells #[.int .i64 d, .slice oa zs.length ca] 33)).alloc (.cells #[.slice none 0 0] 22)).alloc (.cells #[.int .i64 d] 2)).alloc (.cells #[.int .i64 n] 2)) (w.heap.size + 3) #[.int .i64 n] 2 := Blk.new_at _ _ _ _ (by simp)
  have hbw : Below w.heap.size w ((((w.alloc (.cells #[.int .i64 d, .slice oa zs.length ca] 33)).alloc (.cells #[.slice none 0 0] 22)).alloc (.cells #[.int .i64 d] 2)).alloc (.cells #[.int .i64 n] 2)) := by (repeat (first | exact Below.refl _ _ | refine below_drew' ?_ | refine below_drewN' ?_ _ | refine below_alloc' ?_ _ | refine below_set' ?_ (by (try simp); (try omega)) _ | refine below_step ?_ (by assumption)))
  have hsz : ((((w.alloc (.cells #[.int .i64 d, .slice oa zs.length ca] 33)).alloc (.cells #[.slice none 0 0] 22)).alloc (.cells #[.int .i64 d] 2)).alloc (.cells #[.int .i64 n] 2)).heap.size = w.heap.size + 4 := by simp
  clear cP0
  generalize (((w.alloc (.cells #[.int .i64 d, .slice oa zs.length ca] 33)).alloc (.cells #[.slice none 0 0] 22)).alloc (.cells #[.int .i64 d] 2)).alloc (.cells #[.int .i64 n] 2) = W5 at *
  refine wp_rangeFoot (gf := 36) (lb := #[.pointer (some ⟨w.heap.size + 2, 0, none⟩), .pointer (some ⟨w.heap.size + 3, 0, none⟩)]) rfl (enters_of Tryd.func36 (by kernel_rfl) rfl)
    (wordsOfLevel_gives d n _ _ hd hn W5 hD hN) (Below.refl _ _)
    (fun s W => ∃ v, s.2 = accF (w.heap.size + 1) v ∧ AccAt W (w.heap.size + 1) (w.heap.size + 2) v (imgsF d zs s.1) ∧ Blk W w.heap.size #[.int .i64 d, .slice oa zs.length ca] 33 ∧ Below w.heap.size w W)
    (fun _ _ => False)
    ?own (fun _ _ _ _ h _ _ => h) ?foot (accF (w.heap.size + 1) (.slice none 0 0)) ⟨_, rfl, ⟨hX, OwnI.nil _ _, by omega⟩, hP, hbw⟩ ?caps
    (fun x => { tmps := #[.agg #[.int .i64 (d : Int), .slice oa zs.length ca], .int .i64 (n : Int), .pointer (some ⟨w.heap.size, 0, none⟩), undef, .slice none 0 0, .pointer (some ⟨w.heap.size + 1, 0, none⟩), .string x, .pointer (some ⟨w.heap.size, 0, none⟩), .int .i64 (d : Int), .int .i64 (n : Int), .func (.func 36) #[] #[.pointer (some ⟨w.heap.size + 1 + 1, 0, none⟩), .pointer (some ⟨w.heap.size + 1 + 1 + 1, 0, none⟩)], .string x, undef, undef, undef, undef, undef, undef, undef, undef, undef, undef], defers := [] })
    ?assign ?body ?done ?stop
  case own =>
    rintro s X Z row ⟨v, x1, x2, x3, x4⟩ hg hr
    exact ⟨v, x1, x2.turn hg (fun r e => (hr r e).2), x3.turn hg (fun r e => (hr r e).2), ownFrom_below (β := Unit) (Nat.le_refl _) (by omega) () X Z row x4 hg hr⟩
  case foot =>
    rintro s X ⟨v, x1, x2, _, _⟩ k hk
    rw [x1] at hk
    exact x2.foot k hk
  case caps =>
    rintro i (rfl | rfl) (h | h)
    · omega
    · simp [Value.ownBlock] at h
    · omega
    · simp [Value.ownBlock] at h
  case assign =>
    intro l2 x W' K hK
    gi_wp2
    exact hK
  case body =>
    rintro l2 ⟨pre, ft⟩ x W' ⟨v, x1, x2, x3, x4⟩ hpre
    dsimp only at x1 x2 hpre ⊢
    subst x1
    obtain ⟨q1, q2⟩ := mem_wordsL d n hd x (hpre.subset (by simp))
    obtain ⟨r1, r2⟩ := HA.out x (by omega) q2
    have hpl : pre.length < 243 := by
      have := hpre.length_le
      have := HLen.out
      simp at this ⊢
      simp at *
      omega
    have HLx := Lib.hid (HL.out x (by omega) q2)
    have HNx := Lib.hid (fun W => levelNumber_calls d (actS d zs x) (by omega) (by omega) r2 W)
    have HF : Hid (imgsF d zs (pre ++ [x]) = imgsF d zs pre ++ [numI d (actS d zs x).data.toList]) := Lib.hid (by simp [imgsF, imgS])
    have Hln : Hid ((imgsF d zs pre).length = pre.length) := Lib.hid (by simp [imgsF])
    clear q1 q2 r1 r2 hpre
    generalize numI d (actS d zs x).data.toList = z at *
    generalize actS d zs x = y at *
    obtain ⟨o', c', hve, _⟩ := x2.2.1.view
    subst hve
    have hdr : Below W'.heap.size W' W'.drew := (Below.refl _ _).drew
    have y2 := x2.below hdr
    have y3 := x3.keptAll hdr
    have y4 := below_step x4 hdr
    have yf := FootKeeps.of_below (ft := accF (w.heap.size + 1) (.slice o' (imgsF d zs pre).length c')) hdr
    clear x2 x3 x4 hdr
    gi_wp2_with fail
    refine wp_region_last (n := 9) (S := fun W => Blk W w.heap.size #[.int .i64 d, .slice oa zs.length ca] 33 ∧ Blk W (w.heap.size + 1) #[.slice o' (imgsF d zs pre).length c'] 22) (by kernel_rfl) rfl (by kernel_rfl) (by kernel_rfl) (not_out _ (fun _ _ h => h)) ⟨y3, y2.1⟩ (fun hS0 => ?_)
    (refine hK_take 0 (.slice o' (imgsF d zs pre).length c') rfl (by kernel_rfl) (by kernel_rfl) (by kernel_rfl) (fun _ _ _ h => h) rfl (fun W hW => by have c1 := Blk.cell hW.2 0; simp at c1; clear hW; go_simp) hS0 ?_; (intro K hK; go_simp; refine hK _ ?_; clear hK K))
    (refine hK_take 1 (.pointer (some ⟨w.heap.size, 0, none⟩)) rfl (by kernel_rfl) (by kernel_rfl) (by kernel_rfl) (fun _ _ _ h => h) rfl (fun W _ => by go_simp) hS0 ?_; (intro K hK; go_simp; refine hK _ ?_; clear hK K))
    (refine hK_take 2 (.int .i64 (d : Int)) rfl (by kernel_rfl) (by kernel_rfl) (by kernel_rfl) (fun _ _ _ h => h) rfl (fun W hW => by have c1 := Blk.cell hW.1 0; simp at c1; clear hW; go_simp) hS0 ?_; (intro K hK; go_simp; refine hK _ ?_; clear hK K))
    (refine hK_load 3 rfl (by kernel_rfl) (by kernel_rfl) (by kernel_rfl) 33 _ rfl w.heap.size 0 rfl #[.int .i64 d, .slice oa zs.length ca] _ (fun W hW => hW.1) 2 Hfit.out _ Tryd.underlying33 rfl hsP.out _ Hcut.out (fun _ _ _ h => h) rfl hS0 ?_; (intro K hK; go_simp; refine hK _ ?_; clear hK K))
    (refine hK_take 4 (.string x) rfl (by kernel_rfl) (by kernel_rfl) (by kernel_rfl) (fun _ _ _ h => h) rfl (fun W _ => by go_simp) hS0 ?_; (intro K hK; go_simp; refine hK _ ?_; clear hK K))
    (refine wpAnyH_ready (rs := [5]) (by kernel_rfl) (by simp) ?_; refine AllReadyH.cons rfl (fun K hK => ?_) AllReadyH.nil); go_simp; refine (HLx.out _ (Hv.out.below y4) (HT.out.below y4)).mono ?_; rintro e w3 ⟨rfl, hb3⟩; have hS3 : Blk w3 w.heap.size #[.int .i64 d, .slice oa zs.length ca] 33 ∧ Blk w3 (w.heap.size + 1) #[.slice o' (imgsF d zs pre).length c'] 22 := ⟨hS0.1.keptAll hb3, hS0.2.keptAll hb3⟩; have z2 := y2.below hb3; have z3 := y3.keptAll hb3; have z4 := below_step y4 hb3; have zf := yf.trans (FootKeeps.of_below hb3)
    (go_simp; refine hK.out _ _ (hS3) (fun hS1 => ?_); clear hK K)
    (refine wpAnyH_ready (rs := [6]) (by kernel_rfl) (by simp) ?_; refine AllReadyH.cons rfl (fun K hK => ?_) AllReadyH.nil); go_simp; refine (HNx.out _).mono ?_; rintro e w4 ⟨rfl, rfl⟩
    (go_simp; refine hK.out _ _ (hS1) (fun hS2 => ?_); clear hK K)
    have hbA : Below w3.heap.size w3 (w3.alloc (.cells #[.int .i64 z] 2)) := by (repeat (first | exact Below.refl _ _ | refine below_drew' ?_ | refine below_drewN' ?_ _ | refine below_alloc' ?_ _ | refine below_set' ?_ (by (try simp); (try omega)) _ | refine below_step ?_ (by assumption)))
    have t2 := z2.below hbA
    have t3 := z3.keptAll hbA
    have t4 := below_step z4 hbA
    have tf := zf.trans (FootKeeps.of_below hbA)
    have hnew : Blk (w3.alloc (.cells #[.int .i64 z] 2)) w3.heap.size #[.int .i64 z] 2 := Blk.new _ _ _
    have hsA : (w3.alloc (.cells #[.int .i64 z] 2)).heap.size = w3.heap.size + 1 := by simp
    have hs4 := z4.size
    refine wpAnyH_ready (rs := [7]) (by kernel_rfl) (by simp) ?_
    refine AllReadyH.cons rfl (fun K hK => ?_) AllReadyH.nil
    go_simp
    refine hK.out _ _ ⟨t3, t2.1⟩ (fun hS3' => ?_)
    clear hK K
    generalize w3.alloc (.cells #[.int .i64 z] 2) = w5 at *
    refine wpAnyH_ready (rs := [8]) (by kernel_rfl) (by simp) ?_
    refine AllReadyH.cons rfl (fun K hK => ?_) AllReadyH.nil
    refine ite_go (by kernel_rfl) ?_
    refine wp_push_int (.tmp 12) (.tmp 19) rfl (w.heap.size + 2) _ (imgsF d zs pre) rfl t2.2.1 w3.heap.size 1 z rfl hnew (by rw [Hln.out]; omega) (by have := t2.1.lt; omega) ?_
    intro v' w6 hO6 hg6 hat6
    obtain ⟨o6, c6, hv6, _⟩ := hO6.view
    generalize (imgsF d zs pre ++ [z]).length = n6 at hv6
    subst hv6
    obtain ⟨p1, p2, p3⟩ := t2.pushed hO6 hg6 hat6
    have p4 := t2.low t4 hg6 (by omega) (by omega) (.slice o6 n6 c6)
    have p5 := t3.same (hg6.block _ t3.lt (fun e => by have := ownI_ge t2.2.1 _ e.symm; omega))
    refine hK.out _ _ ⟨p5, p1⟩ (fun hS6 => ?_)
    clear hK K
    refine wpAnyH_done (by kernel_rfl) ?_ _
    refine lastQ_go rfl (fun K hK => ?_)
    have cX := p1.cell 0
    simp at cX
    have fX := p1.free
    go_simp
    refine hK.out _ _ ?_
    gi_wp2
    exact ⟨_, ⟨_, rfl, by rw [HF.out]; exact p2, p5.setOther _ 0 _ (by omega), p4⟩, tf.trans p3⟩
  case done =>
    rintro D ft W' hD ⟨v, x1, x2, x3, x4⟩ hdd hnd
    dsimp only at x1 x2
    obtain ⟨o', c', hve, _⟩ := x2.2.1.view
    subst hve
    have cX := x2.1.cell 0
    simp at cX
    gi_wp2
    refine ⟨by simp, .inl ⟨_, _, rfl, run_takeDeferred hdd, ?_⟩⟩
    refine ⟨_, results_tmp rfl _ _ _, ?_⟩
    have y5 := x4.trans (belowK_b (w := w) (Nat.le_refl _) W' D _ (.deferred none) (by omega) hdd rfl rfl)
    exact ⟨_, rfl, (x2.2.1.turn (grownBy_putObj' W' D (.deferred none)) (fun r e => by cases e; exact ⟨_, hdd, rfl⟩)).base_le' (by omega), y5⟩
  case stop =>
    rintro D pre W' _ _ h _
    exact h.elim
end Go.Proofs.YticnpajbefflbadDoor
