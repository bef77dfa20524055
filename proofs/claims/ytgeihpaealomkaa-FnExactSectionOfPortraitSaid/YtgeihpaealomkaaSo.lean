/- 'SectionOfPortrait': the program. -/
import Derived.Test.YtgeihpaealomkaaMuS
import Derived.Test.YtgeihpaealomkaaRgL
import Derived.Test.YtgeihpaealomkaaRgW
import Derived.Test.YtgeihpaealomkaaPcF
namespace Go.Proofs.Ytgeihpaealomkaa
open Go.RowKit Go.Shelf
attribute [local go_sem] Oper.semAt_some

theorem app_list (s x : ByteArray) : (s ++ x).data.toList = s.data.toList ++ x.data.toList := by simp
theorem app_letters (d : Nat) (s x : ByteArray) (h1 : lettersL d s.data.toList = true) (h2 : lettersL d x.data.toList = true) : lettersL d (s ++ x).data.toList = true := by
  rw [app_list]
  unfold lettersL at *
  rw [List.all_append, h1, h2]; rfl
theorem app_len (s x : ByteArray) : (s ++ x).data.toList.length = s.data.toList.length + x.data.toList.length := by rw [app_list]; simp
def soV (d : Nat) (zs : List Int) (s x : ByteArray) : Int := (kAt d zs (s ++ x).data.toList : Int)
def soC (d n : Int) (zs : List Int) (s : ByteArray) : Int := codeW d n zs s (n - 1)
def soL (d n : Int) (zs : List Int) (s : ByteArray) : List Int := if soC d n zs s = 0 then allB (soV d.toNat zs s) d.toNat (n.toNat - s.size) else []
def soF (d : Nat) (zs : List Int) (s : ByteArray) (pre : List ByteArray) : List Int := pre.map (soV d zs s)
theorem soL_len (d n : Int) (zs : List Int) (s : ByteArray) : (soL d n zs s).length ≤ 100000 := by
  unfold soL
  split
  · rename_i h
    obtain ⟨h0, _, _⟩ := codeW_zero d n zs s _ h
    obtain ⟨h1, h2, _⟩ := codeP_zero d n zs h0
    exact Nat.le_trans (allB_len _ d.toNat _ (by omega) (by omega)) (by omega)
  · simp
theorem codeW_bad (d n : Int) (zs : List Int) (s : ByteArray) (most : Int) (h : codeP d n zs ≠ 0) : codeW d n zs s most = codeP d n zs := by unfold codeW; rw [if_neg h]
theorem kAt_in' (d n : Nat) (hd : d = 2 ∨ d = 3) (x : ByteArray) (h : x ∈ wordsB d n) : x.data.toList.length < n ∧ lettersL d x.data.toList = true := by
  unfold wordsB wordsL at h
  simp only [List.mem_flatMap, List.mem_range, List.mem_map] at h
  obtain ⟨i, hi, k, hk, rfl⟩ := h
  obtain ⟨h1, h2⟩ := wordS_ok' d i k hd
  exact ⟨by omega, h2⟩
/-- What a round holds on to. -/
def SoB (w W0 : World) (b g1 gX c : Nat) (s : ByteArray) (va v : Value) (zs : List Int) (W : World) : Prop :=
  AccAt W gX (gX + 1) v zs ∧ Blk W b #[va] 22 ∧ Blk W (b + 1) #[.string s] 9 ∧ Blk W g1 #[.int .i64 c, va] 34 ∧ Below w.heap.size w W ∧ FootKeeps (accF gX v) (accF gX v) W0 W
theorem SoB.step {w W0 : World} {b g1 gX c : Nat} {s : ByteArray} {va v : Value} {zs : List Int} {W W' : World} (h : SoB w W0 b g1 gX c s va v zs W) (hb : Below W.heap.size W W') : SoB w W0 b g1 gX c s va v zs W' :=
  ⟨h.1.below hb, h.2.1.keptAll hb, h.2.2.1.keptAll hb, h.2.2.2.1.keptAll hb, below_step h.2.2.2.2.1 hb, h.2.2.2.2.2.trans (FootKeeps.of_below hb)⟩

set_option maxRecDepth 100000 in
set_option maxHeartbeats 2000000 in
theorem iSection_calls (d n : Int) (v : Value) (zs : List Int) (s : ByteArray) (w : World) (hv : SeesI w v zs) :
    Calls Try.prog 6 #[.int .i64 d, .int .i64 n, v, .string s] w fun e w' => ∃ v1, e = .returned (.tuple #[v1, .int .i64 (soC d n zs s)]) ∧ OwnI w' w.heap.size v1 (soL d n zs s) ∧ Below w.heap.size w w' := by
  have hE : Blk ((w.alloc (.cells #[v] 22)).alloc (.cells #[.string s] 9)) w.heap.size #[v] 22 := (Blk.new _ _ _).alloc _
  have hS : Blk ((w.alloc (.cells #[v] 22)).alloc (.cells #[.string s] 9)) (w.heap.size + 1) #[.string s] 9 := Blk.new_at _ _ _ _ (by simp)
  have hbw : Below w.heap.size w ((w.alloc (.cells #[v] 22)).alloc (.cells #[.string s] 9)) := by (repeat (first | exact Below.refl _ _ | refine below_drew' ?_ | refine below_drewN' ?_ _ | refine below_alloc' ?_ _ | refine below_set' ?_ (by (try simp); (try omega)) _ | refine below_step ?_ (by assumption)))
  have hsz0 : ((w.alloc (.cells #[v] 22)).alloc (.cells #[.string s] 9)).heap.size = w.heap.size + 2 := by simp
  obtain ⟨oa, ca, hve, _⟩ := hv.view
  subst hve
  have Hv := Lib.hid hv
  have HC := Lib.hid (fun most W h => checkWord_calls d n (.slice oa zs.length ca) zs s most W h)
  have cE := hE.cell 0
  simp at cE
  have cS := hS.cell 0
  simp at cS
  clear hv
  by_cases hc0 : codeP d n zs = 0
  · obtain ⟨k1, k2, k3⟩ := codeP_zero d n zs hc0
    have hwn : IntKind.i64.wrap (n - 1) = n - 1 := IntWalk.i64_in _ (by omega)
    by_cases hc : codeW d n zs s (n - 1) = 0
    · obtain ⟨_, hl, hsl⟩ := codeW_zero d n zs s (n - 1) hc
      have Hc : Hid (soC d n zs s = 0) := Lib.hid hc
      have HR : Hid (soL d n zs s = allB (soV d.toNat zs s) d.toNat (n.toNat - s.size)) := Lib.hid (by unfold soL; rw [if_pos Hc.out])
      obtain ⟨m, rfl⟩ := Int.eq_ofNat_of_zero_le (a := n) (by omega)
      obtain ⟨c, rfl⟩ := Int.eq_ofNat_of_zero_le (a := d) (by omega)
      rw [Int.toNat_natCast] at *
      rw [Int.toNat_natCast] at *
      have hc23 : c = 2 ∨ c = 3 := by omega
      have hm4 : m ≤ 4 := by omega
      have hsz := size_list s
      obtain ⟨r, hr⟩ : ∃ r, r = m - s.size := ⟨_, rfl⟩
      rw [← hr] at HR
      have hmr : s.data.toList.length + r = m := by omega
      have hr4 : r ≤ 4 := by omega
      have hsub : (m : Int) - (s.size : Int) = (r : Int) := by omega
      have hwr : IntKind.i64.wrap ((m : Int) - (s.size : Int)) = (r : Int) := by rw [hsub]; exact IntWalk.i64_in _ (by omega)
      have HC1 := Lib.hid (fun W h => HC.out ((m : Int) - 1) W h)
      rw [hc] at HC1
      have hs4 : s.size ≤ 4 := by omega
      have Hmr := Lib.hid hmr
      clear HC k1 k2 hc0 hc hsl hr hsz hmr hsub
      have hz0 : ∀ w, (zeroValue 34).run Try.prog w = .ok (.agg #[.int .i64 0, .slice none 0 0]) w := (zero_of_info (show (Try.prog.info? 34).map (fun i => (i.zero, i.size)) = some (some (.agg #[.int .i64 0, .slice none 0 0]), 2) by kernel_rfl)).1
      refine (callsIn_wide (n := 3)).1 ?_
      refine callsIn_of_wp_marks Try.func6 rfl trivial ?_ rfl
      simp only [Try.ntmps6, List.size_toArray, List.length_cons, List.length_nil, Nat.reduceAdd, Nat.reduceSub, Array.replicate_succ, Array.replicate_zero, List.push_toArray, List.append_toArray, List.nil_append, List.cons_append]
      refine wpIn_wide.2 ?_
      go_wp2_with (first | (go_at_call 14; refine (HC1.out _ (Hv.out.below hbw)).mono ?_; rintro e w1 ⟨rfl, hb1⟩; have hE1 := hE.keptAll hb1; have cE1 := hE1.cell 0; have hS1 := hS.keptAll hb1; have cS1 := ((hS1.alloc (.cells #[.int .i64 c, .slice oa zs.length ca] 34)).alloc (.cells #[.slice none 0 0] 22)).cell 0; simp at cE1 cS1) | (go_at_call 15; refine (wordsBelow_calls _ _ _).mono ?_; rintro e w3 ⟨rfl, rfl⟩))
      have hP : Blk ((((w1.alloc (.cells #[.int .i64 c, .slice oa zs.length ca] 34)).alloc (.cells #[.slice none 0 0] 22)).alloc (.cells #[.int .i64 c] 2)).alloc (.cells #[.int .i64 r] 2)) w1.heap.size #[.int .i64 c, .slice oa zs.length ca] 34 := (((Blk.new w1 _ _).alloc _).alloc _).alloc _
      have hX : Blk ((((w1.alloc (.cells #[.int .i64 c, .slice oa zs.length ca] 34)).alloc (.cells #[.slice none 0 0] 22)).alloc (.cells #[.int .i64 c] 2)).alloc (.cells #[.int .i64 r] 2)) (w1.heap.size + 1) #[.slice none 0 0] 22 := ((Blk.new_at _ _ _ _ (by simp)).alloc _).alloc _
      have hD : Blk ((((w1.alloc (.cells #[.int .i64 c, .slice oa zs.length ca] 34)).alloc (.cells #[.slice none 0 0] 22)).alloc (.cells #[.int .i64 c] 2)).alloc (.cells #[.int .i64 r] 2)) (w1.heap.size + 2) #[.int .i64 c] 2 := (Blk.new_at _ _ _ _ (by simp)).alloc _
      have hN : Blk ((((w1.alloc (.cells #[.int .i64 c, .slice oa zs.length ca] 34)).alloc (.cells #[.slice none 0 0] 22)).alloc (.cells #[.int .i64 c] 2)).alloc (.cells #[.int .i64 r] 2)) (w1.heap.size + 3) #[.int .i64 r] 2 := Blk.new_at _ _ _ _ (by simp)
      have hb5 : Below w1.heap.size w1 ((((w1.alloc (.cells #[.int .i64 c, .slice oa zs.length ca] 34)).alloc (.cells #[.slice none 0 0] 22)).alloc (.cells #[.int .i64 c] 2)).alloc (.cells #[.int .i64 r] 2)) := by (repeat (first | exact Below.refl _ _ | refine below_drew' ?_ | refine below_drewN' ?_ _ | refine below_alloc' ?_ _ | refine below_set' ?_ (by (try simp); (try omega)) _ | refine below_step ?_ (by assumption)))
      have hsz5 : ((((w1.alloc (.cells #[.int .i64 c, .slice oa zs.length ca] 34)).alloc (.cells #[.slice none 0 0] 22)).alloc (.cells #[.int .i64 c] 2)).alloc (.cells #[.int .i64 r] 2)).heap.size = w1.heap.size + 4 := by simp
      have hs2 := hb1.size
      rw [hsz0] at hs2
      have hbw5 := below_step (below_step hbw hb1) hb5
      have hE5 := hE1.keptAll hb5
      have hS5 := hS1.keptAll hb5
      generalize (((w1.alloc (.cells #[.int .i64 c, .slice oa zs.length ca] 34)).alloc (.cells #[.slice none 0 0] 22)).alloc (.cells #[.int .i64 c] 2)).alloc (.cells #[.int .i64 r] 2) = W5 at *
      generalize w1.heap.size = gP at *
      clear hb1 hb5 hE hE1 hS hS1 cE1 cS1 cE cS hbw hsz0 hz0 HC1
      have hsP := Lib.hid (show (Try.prog.info? 34).map (·.size) = some 2 by kernel_rfl)
      have Hcut1 : Hid (cut (#[.int .i64 c, .slice oa zs.length ca] : Array Value) 0 2 = #[.int .i64 c, .slice oa zs.length ca]) := Lib.hid rfl
      have Hfit1 : Hid (0 + 2 ≤ (#[.int .i64 c, .slice oa zs.length ca] : Array Value).size) := Lib.hid (Nat.le_refl 2)
      refine (wpIn_wide (n := 3)).1 ?_
      refine wp_rangeFoot (n := 3) (gf := 23) (lb := #[.pointer (some ⟨gP + 3, 0, none⟩), .pointer (some ⟨gP + 2, 0, none⟩)]) rfl (enters_of Try.func23 (by kernel_rfl) rfl)
        (wordsBelow_gives c r _ _ hc23 hr4 W5 hN hD) (Below.refl _ _)
        (fun t W => ∃ v, t.2 = accF (gP + 1) v ∧ AccAt W (gP + 1) (gP + 1 + 1) v (soF c zs s t.1) ∧ Blk W w.heap.size #[.slice oa zs.length ca] 22 ∧ Blk W (w.heap.size + 1) #[.string s] 9 ∧ Blk W gP #[.int .i64 c, .slice oa zs.length ca] 34 ∧ Below w.heap.size w W)
        (fun _ _ => False)
        ?own (fun _ _ _ _ h _ _ => h) ?foot (accF (gP + 1) (.slice none 0 0)) ⟨_, rfl, ⟨hX, OwnI.nil _ _, by omega⟩, hE5, hS5, hP, hbw5⟩ ?caps
        (fun x => { tmps := #[.int .i64 (c : Int), .int .i64 (m : Int), .slice oa zs.length ca, .string s, undef, undef, .pointer (some ⟨w.heap.size, 0, none⟩), .pointer (some ⟨w.heap.size + 1, 0, none⟩), .slice none 0 0, .int .i64 0, .int .i64 0, .pointer (some ⟨gP, 0, none⟩), .pointer (some ⟨gP + 1, 0, none⟩), .string x, .int .i64 (c : Int), .int .i64 (m : Int), .slice oa zs.length ca, .string s, .int .i64 (m : Int), .int .i64 ((m : Int) - 1), .int .i64 0, .int .i64 0, .bool false, undef, .int .i64 (c : Int), .slice oa zs.length ca, .agg #[.int .i64 (c : Int), .slice oa zs.length ca], .int .i64 (c : Int), .int .i64 (m : Int), .string s, .int .i64 (s.size : Int), .int .i64 (r : Int), .func (.func 23) #[] #[.pointer (some ⟨gP + 1 + 1 + 1, 0, none⟩), .pointer (some ⟨gP + 1 + 1, 0, none⟩)], .string x, undef, undef, undef, undef, undef, undef, undef, undef, undef, undef, undef, undef], defers := [] })
        ?assign ?body ?done ?stop
      case own =>
        rintro t X Z row ⟨v, x1, x2, x3, x4, x5, x6⟩ hg hr
        exact ⟨v, x1, x2.turn hg (fun r e => (hr r e).2), x3.turn hg (fun r e => (hr r e).2), x4.turn hg (fun r e => (hr r e).2), x5.turn hg (fun r e => (hr r e).2), ownFrom_below (β := Unit) (Nat.le_refl _) (by omega) () X Z row x6 hg hr⟩
      case foot =>
        rintro t X ⟨v, x1, x2, _, _⟩ k hk
        rw [x1] at hk
        exact x2.foot k hk
      case caps =>
        rintro i (rfl | rfl) (h | h)
        · omega
        · simp [Value.ownBlock] at h
        · omega
        · simp [Value.ownBlock] at h
      case assign =>
        intro l2 x W' K hK
        gi_wp2
        exact hK
      case body =>
        rintro l2 ⟨pre, ft⟩ x W' ⟨v, x1, x2, x3, x4, x5, x6⟩ hpre
        dsimp only at x1 x2 hpre ⊢
        subst x1
        obtain ⟨q1, q2⟩ := kAt_in' c r hc23 x (hpre.subset (by simp))
        have hd3 : c ≤ 3 := by omega
        have hal := app_len s x
        have haq := app_letters c s x hl q2
        have hmr := Hmr.out
        obtain ⟨p, hp, hpz, hzk, _⟩ := kAt_ok c m zs (s ++ x).data.toList k3 (by omega) haq hd3 hm4
        have HPl := Lib.hid (fun W => placeOf_calls c hc23 (.slice oa zs.length ca) (s ++ x) (by omega) haq W)
        rw [hp] at HPl
        have HF : Hid (soF c zs s (pre ++ [x]) = soF c zs s pre ++ [(kAt c zs (s ++ x).data.toList : Int)]) := Lib.hid (by simp [soF, soV])
        have Hln : Hid ((soF c zs s pre).length ≤ 1215) := Lib.hid (by
          have h1 := hpre.length_le
          have h2 := wordsB_len c hd3 r (by omega)
          simp [soF] at h1 ⊢
          omega)
        have hpi : (p : Int) < (zs.length : Int) := by omega
        obtain ⟨g, hgo, _, hcg⟩ := Hv.out.at p hpz
        clear hcg
        have HZ := Lib.hid (fun (W : World) (h : SeesI W (.slice oa zs.length ca) zs) => (show W.cell? ⟨g, p, none⟩ = some (.int .i64 (kAt c zs (s ++ x).data.toList : Int)) from by
          obtain ⟨g2, hg2, _, hc2⟩ := h.at p hpz
          rw [hgo] at hg2
          cases hg2
          rw [hc2, hzk]))
        have hcat : s.size + x.size ≤ 9223372036854775807 := by rw [size_list s, size_list x]; omega
        clear q1 q2 hal haq hmr hp hpz hzk hpre
        subst hgo
        generalize (kAt c zs (s ++ x).data.toList : Int) = z at *
        obtain ⟨o', c', hve, _⟩ := x2.2.1.view
        subst hve
        generalize hvv : Value.slice o' (soF c zs s pre).length c' = v at *
        have h0 : SoB w W' w.heap.size gP (gP + 1) c s (.slice (some ⟨g, 0, none⟩) zs.length ca) v (soF c zs s pre) W' := ⟨x2, x3, x4, x5, x6, FootKeeps.refl _ _⟩
        clear x2 x3 x4 x5 x6
        have hMd := h0.step (Below.drew (Below.refl W'.heap.size W'))
        have hSd := Hv.out.below hMd.2.2.2.2.1
        gi_wp2_with fail
        refine wp_region_last (n := 11) (S := fun W => Blk W (gP + 1) #[v] 22 ∧ Blk W w.heap.size #[.slice (some ⟨g, 0, none⟩) zs.length ca] 22 ∧ Blk W (w.heap.size + 1) #[.string s] 9 ∧ Blk W gP #[.int .i64 c, .slice (some ⟨g, 0, none⟩) zs.length ca] 34 ∧ SeesI W (.slice (some ⟨g, 0, none⟩) zs.length ca) zs) (by kernel_rfl) rfl (by kernel_rfl) (by kernel_rfl) (not_out _ (fun _ _ h => h)) ⟨hMd.1.1, hMd.2.1, hMd.2.2.1, hMd.2.2.2.1, hSd⟩ (fun hS => ?_)
        (refine hK_take 0 v rfl (by kernel_rfl) (by kernel_rfl) (by kernel_rfl) (fun _ _ _ h => h) rfl (fun W hW => by have c1 := Blk.cell hW.1 0; simp at c1; clear hW; subst hvv; go_simp) hS ?_; (intro K hK; go_simp; refine hK _ ?_; clear hK K))
        (refine hK_take 1 (.slice (some ⟨g, 0, none⟩) zs.length ca) rfl (by kernel_rfl) (by kernel_rfl) (by kernel_rfl) (fun _ _ _ h => h) rfl (fun W hW => by have c1 := Blk.cell hW.2.1 0; simp at c1; clear hW; go_simp) hS ?_; (intro K hK; go_simp; refine hK _ ?_; clear hK K))
        (refine hK_load 2 rfl (by kernel_rfl) (by kernel_rfl) (by kernel_rfl) 34 _ rfl gP 0 rfl #[.int .i64 c, .slice (some ⟨g, 0, none⟩) zs.length ca] _ (fun W hW => hW.2.2.2.1) 2 Hfit1.out _ Try.underlying34 rfl hsP.out _ Hcut1.out (fun _ _ _ h => h) rfl hS ?_; (intro K hK; go_simp; refine hK _ ?_; clear hK K))
        (refine hK_take 3 (.string s) rfl (by kernel_rfl) (by kernel_rfl) (by kernel_rfl) (fun _ _ _ h => h) rfl (fun W hW => by have c1 := Blk.cell hW.2.2.1 0; simp at c1; clear hW; go_simp) hS ?_; (intro K hK; go_simp; refine hK _ ?_; clear hK K))
        (refine hK_take 4 (.string x) rfl (by kernel_rfl) (by kernel_rfl) (by kernel_rfl) (fun _ _ _ h => h) rfl (fun W _ => by go_simp) hS ?_; (intro K hK; go_simp; refine hK _ ?_; clear hK K))
        (refine hK_take 5 (.string (s ++ x)) rfl (by kernel_rfl) (by kernel_rfl) (by kernel_rfl) (fun _ _ _ h => h) rfl (fun W _ => by go_simp) hS ?_; (intro K hK; go_simp; refine hK _ ?_; clear hK K))
        (refine wpAnyH_ready (rs := [6]) (by kernel_rfl) (by simp) ?_; refine AllReadyH.cons rfl (fun K hK => ?_) AllReadyH.nil); go_simp; refine (HPl.out _).mono ?_; rintro e w3 ⟨rfl, hb3⟩
        (go_simp; refine hK.out _ _ (⟨hS.1.keptAll hb3, hS.2.1.keptAll hb3, hS.2.2.1.keptAll hb3, hS.2.2.2.1.keptAll hb3, hS.2.2.2.2.below hb3⟩) (fun hS => ?_); clear hK K)
        (refine hK_take 7 (.pointer (some ⟨g, p, none⟩)) rfl (by kernel_rfl) (by kernel_rfl) (by kernel_rfl) (fun _ _ _ h => h) rfl (fun W _ => by go_simp) hS ?_; (intro K hK; go_simp; refine hK _ ?_; clear hK K))
        (refine hK_take 8 (.int .i64 z) rfl (by kernel_rfl) (by kernel_rfl) (by kernel_rfl) (fun _ _ _ h => h) rfl (fun W hW => by have c1 := HZ.out W hW.2.2.2.2; clear hW; go_simp) hS ?_; (intro K hK; go_simp; refine hK _ ?_; clear hK K))
        have hM4 : SoB w W' w.heap.size gP (gP + 1) c s (.slice (some ⟨g, 0, none⟩) zs.length ca) v (soF c zs s pre) (w3.alloc (.cells #[.int .i64 z] 2)) := (hMd.step hb3).step (by (repeat (first | exact Below.refl _ _ | refine below_drew' ?_ | refine below_drewN' ?_ _ | refine below_alloc' ?_ _ | refine below_set' ?_ (by (try simp); (try omega)) _ | refine below_step ?_ (by assumption))))
        have hbA : Below w3.heap.size w3 (w3.alloc (.cells #[.int .i64 z] 2)) := by (repeat (first | exact Below.refl _ _ | refine below_drew' ?_ | refine below_drewN' ?_ _ | refine below_alloc' ?_ _ | refine below_set' ?_ (by (try simp); (try omega)) _ | refine below_step ?_ (by assumption)))
        have hnew : Blk (w3.alloc (.cells #[.int .i64 z] 2)) w3.heap.size #[.int .i64 z] 2 := Blk.new _ _ _
        refine wpAnyH_ready (rs := [9]) (by kernel_rfl) (by simp) ?_
        refine AllReadyH.cons rfl (fun K hK => ?_) AllReadyH.nil
        go_simp
        refine hK.out _ _ ⟨hM4.1.1, hM4.2.1, hM4.2.2.1, hM4.2.2.2.1, hS.2.2.2.2.below hbA⟩ (fun hS5 => ?_)
        clear hK K hS hbA
        generalize w3.alloc (.cells #[.int .i64 z] 2) = w5 at *
        obtain ⟨t1, t2, t3, t4, t5, t6⟩ := hM4
        refine wpAnyH_ready (rs := [10]) (by kernel_rfl) (by simp) ?_
        refine AllReadyH.cons rfl (fun K hK => ?_) AllReadyH.nil
        refine ite_go (by kernel_rfl) ?_
        refine wp_push_int (.tmp 34) (.tmp 43) rfl (gP + 1 + 1) v (soF c zs s pre) rfl t1.2.1 w3.heap.size 1 z rfl hnew (by have := Hln.out; omega) (by have := t1.1.lt; omega) ?_
        intro v' w6 hO6 hg6 hat6
        obtain ⟨o6, c6, hv6, _⟩ := hO6.view
        generalize (soF c zs s pre ++ [z]).length = n6 at hv6
        subst hv6
        obtain ⟨p1, p2, p3⟩ := t1.pushed hO6 hg6 hat6
        have p4 := t1.low t5 hg6 (by have := t5.size; omega) (by omega) (.slice o6 n6 c6)
        have hge := ownI_ge t1.2.1
        have pb := t2.same (hg6.block _ t2.lt (fun e => by have := hge _ e.symm; omega))
        have pq := t3.same (hg6.block _ t3.lt (fun e => by have := hge _ e.symm; omega))
        have pp := t4.same (hg6.block _ t4.lt (fun e => by have := hge _ e.symm; omega))
        have hbv : Below w.heap.size w w6 := t5.grown hg6 t5.size (fun k e => by have := hge k e; omega)
        refine hK.out _ _ ⟨p1, pb, pq, pp, Hv.out.below hbv⟩ (fun hS6 => ?_)
        clear hK K
        refine wpAnyH_done (by kernel_rfl) ?_ _
        refine lastQ_go rfl (fun K hK => ?_)
        have cX := p1.cell 0
        simp at cX
        have fX := p1.free
        go_simp
        refine hK.out _ _ ?_
        gi_wp2
        exact ⟨_, ⟨_, rfl, by rw [HF.out]; exact p2, pb.setOther (gP + 1) 0 _ (by omega), pq.setOther (gP + 1) 0 _ (by omega), pp.setOther (gP + 1) 0 _ (by omega), p4⟩, t6.trans p3⟩
      case done =>
        rintro D ft W' hD ⟨v, x1, x2, x3, x4, x5, x6⟩ hdd hnd
        dsimp only at x1 x2
        obtain ⟨o', c', hve, _⟩ := x2.2.1.view
        subst hve
        have cX := x2.1.cell 0
        simp at cX
        go_wp2
        refine ⟨by simp, .inl ⟨_, _, rfl, run_takeDeferred hdd, ?_⟩⟩
        refine ⟨_, results_tmp2 rfl _ _ _, ?_⟩
        have y5 := x6.trans (belowK_b (w := w) (Nat.le_refl _) W' D _ (.deferred none) (by omega) hdd rfl rfl)
        exact ⟨_, ret_lw Hc.out.symm, by rw [HR.out]; exact (x2.2.1.turn (grownBy_putObj' W' D (.deferred none)) (fun r e => by cases e; exact ⟨_, hdd, rfl⟩)).base_le' (by omega), y5⟩
      case stop =>
        rintro D pre W' _ _ h _
        exact h.elim
    · have Hc : Hid (soC d n zs s = codeW d n zs s (n - 1)) := Lib.hid rfl
      have HR : Hid (soL d n zs s = []) := Lib.hid (by unfold soL soC; rw [if_neg hc])
      have HC1 := Lib.hid (fun W h => HC.out (n - 1) W h)
      have hcb : (codeW d n zs s (n - 1) != 0) = true := by simpa using hc
      clear HC hc
      generalize codeW d n zs s (n - 1) = cc at *
      go_enter Try.func6, Try.ntmps6
      go_wp2_with (go_at_call 14; refine (HC1.out _ (Hv.out.below hbw)).mono ?_; rintro e w1 ⟨rfl, hb1⟩)
      go_ret2
      exact ⟨_, ret_lw Hc.out.symm, by rw [HR.out]; exact OwnI.nil _ _, below_step hbw hb1⟩
  · have Hc : Hid (soC d n zs s = codeP d n zs) := Lib.hid (codeW_bad d n zs s _ hc0)
    have HR : Hid (soL d n zs s = []) := Lib.hid (by unfold soL; rw [if_neg (by rw [Hc.out]; exact hc0)])
    have HC1 : Hid (∀ most W, SeesI W (.slice oa zs.length ca) zs → Calls Try.prog 14 #[.int .i64 d, .int .i64 n, .slice oa zs.length ca, .string s, .int .i64 most] W fun e w' => e = .returned (.int .i64 (codeP d n zs)) ∧ Below W.heap.size W w') := Lib.hid (fun most W h => by have := HC.out most W h; rwa [codeW_bad d n zs s most hc0] at this)
    have hcb : (codeP d n zs != 0) = true := by simpa using hc0
    clear HC hc0
    generalize codeP d n zs = cc at *
    go_enter Try.func6, Try.ntmps6
    go_wp2_with (go_at_call 14; refine (HC1.out _ _ (Hv.out.below hbw)).mono ?_; rintro e w1 ⟨rfl, hb1⟩)
    go_ret2
    exact ⟨_, ret_lw Hc.out.symm, by rw [HR.out]; exact OwnI.nil _ _, below_step hbw hb1⟩
end Go.Proofs.Ytgeihpaealomkaa
