/- 'numbersWhere' with a closure and with a method value. Written by gen/nwh.py. -/
import Derived.Test.YtdbdoohcpcjfdaaRgA
import Derived.Test.YtdbdoohcpcjfdaaRgL
import Derived.Test.YtdbdoohcpcjfdaaRgW
import Derived.Test.YtdbdoohcpcjfdaaLevM
namespace Go.Proofs.Ytdbdoohcpcjfdaa
open Go.RowKit Go.Shelf
attribute [local go_sem] Oper.semAt_some

set_option maxRecDepth 100000 in
set_option maxHeartbeats 1000000 in
theorem wordsOfLevel_givesN (d n b1 b2 : Nat) (hd : d = 2 ∨ d = 3) (hn : n ≤ 5) (w0 : World) (h1 : Blk w0 b1 #[.int .i64 d] 2) (h2 : Blk w0 b2 #[.int .i64 n] 2) :
    Gives Try.prog 79 #[.pointer (some ⟨b1, 0, none⟩), .pointer (some ⟨b2, 0, none⟩)] (fun s : ByteArray => .string s) (fun k => k = b1 ∨ k = b2) (wordsL d n) w0 := by
  intro l J Jx W _ hW hJ _ _ hY ft0 h0 hC
  have hd3 : d ≤ 3 := by omega
  have hB1 := h1.keptAll hW
  have hB2 := h2.keptAll hW
  have c1 := hB1.cell 0
  have c2 := hB2.cell 0
  simp at c1 c2
  have hp : (pw d n) = ((d ^ n : Nat) : Int) := rfl
  have hpb := pw_bd d n hd3 (by omega)
  rw [hp] at hpb
  have HLS := Lib.hid (fun w => levelSize_calls d n hd3 (by omega) w)
  rw [hp] at HLS
  have HLW := Lib.hid (fun k (hk : k < d ^ n) w => levelWord_calls d n (k : Nat) hd (by omega) (by omega) (by omega) w)
  have HN := Lib.hid (wordsL_next d n)
  have HLen := Lib.hid (wordsL_len d n)
  have hlt1 := hB1.lt
  have hlt2 := hB2.lt
  refine (callsIn_wide (n := 3)).1 ?_
  refine callsIn_of_wp Try.func79 rfl trivial ?_ rfl
  simp only [Try.ntmps79, List.size_toArray, List.length_cons, List.length_nil, Nat.reduceAdd, Nat.reduceSub, Array.replicate_succ, Array.replicate_zero, List.push_toArray, List.append_toArray, List.nil_append, List.cons_append]
  generalize d ^ n = N at *
  gi_wp2_with (refine ⟨trivial, ?_⟩; gi_at_call 80; refine (callsIn_wide.2 (HLS.out _)).mono ?_; rintro e w' ⟨rfl, rfl⟩)
  gi_loopw [8] (fun i wr => ∃ (k : Nat) (ft : Foot), k ≤ N ∧ i = .int .i64 k ∧ J ((wordsL d n).take k, ft) wr ∧ (¬ ft b1 ∧ ¬ ft b2) ∧ Blk wr b1 #[.int .i64 d] 2 ∧ Blk wr b2 #[.int .i64 n] 2) (fun i _ => N - (intOf i).toNat)
  case atStart => exact ⟨0, ft0, by omega, rfl, h0, ⟨hC _ (.inl rfl), hC _ (.inr rfl)⟩, hB1, hB2⟩
  case round =>
    clear c1 c2 hB1 hB2 hlt1 hlt2
    obtain ⟨k, ft, hk, rfl, hj, ⟨n1, n2⟩, hB1, hB2⟩ := hrel
    have c1 := hB1.cell 0
    have c2 := hB2.cell 0
    simp at c1 c2
    by_cases hlt : k < N
    · have hki : (k : Int) < (N : Int) := by omega
      have Hk := Lib.hid (HLW.out k hlt)
      have Hpre : Hid ((wordsL d n).take k ++ [wordS d n k] <+: wordsL d n) := Lib.hid (by rw [← HN.out k hlt]; exact List.take_prefix _ _)
      rw [Int.toNat_natCast] at Hk
      have hlt1 := hB1.lt
      have hlt2 := hB2.lt
      gi_wp2_with (refine ⟨trivial, ?_⟩; gi_at_call 81; refine (callsIn_wide.2 (Hk.out _)).mono ?_; rintro e w3 ⟨rfl, hb3⟩; obtain ⟨fn, tmps, assign, body, hy, hR⟩ := hY ((wordsL d n).take k, ft) (wordS d n k) w3 (OwnFrom.step hJ hj hb3) Hpre.out; simp only [wordS] at hy)
      have hsz3 := hb3.size
      have hB13 := hB1.keptAll hb3
      have hB23 := hB2.keptAll hb3
      refine (round_wide hR).mono ?_
      rintro e W4 (⟨rfl, ft', hj4, hsp⟩ | ⟨rfl, hx4, _⟩)
      · obtain ⟨e1, m1⟩ := hsp.2 b1 (by omega) n1
        obtain ⟨e2, m2⟩ := hsp.2 b2 (by omega) n2
        have hB14 := hB13.same e1
        have hB24 := hB23.same e2
        rw [← HN.out k hlt] at hj4
        clear hy hsp
        gi_wp2
        go_roundw
        case rel => exact ⟨k + 1, ft', by omega, by go_num, hj4, ⟨m1, m2⟩, hB14, hB24⟩
        case measure => simp [intOf] <;> omega
      · clear hy
        gi_wp2
        refine bodyPost_ret (results_none rfl _ _ _) rfl ?_
        exact ⟨⟨_, rfl⟩, .inr ⟨_, Hpre.out, hx4⟩⟩
    · obtain rfl : k = N := by omega
      gi_wp2
      go_end0
      exact ⟨⟨_, rfl⟩, .inl ⟨ft, by rw [List.take_of_length_le (by rw [HLen.out]; exact Nat.le_refl _)] at hj; exact hj⟩⟩


/-- The numbers of the words for which something holds. -/
def nwF (d : Nat) (P : ByteArray → Bool) (pre : List ByteArray) : List Int := (pre.filter P).map fun x => numI d x.data.toList
theorem nwF_yes (d : Nat) (P : ByteArray → Bool) (pre : List ByteArray) (x : ByteArray) (h : P x = true) : nwF d P (pre ++ [x]) = nwF d P pre ++ [numI d x.data.toList] := by simp [nwF, h]
theorem nwF_no (d : Nat) (P : ByteArray → Bool) (pre : List ByteArray) (x : ByteArray) (h : P x = false) : nwF d P (pre ++ [x]) = nwF d P pre := by simp [nwF, h]
theorem nwF_len (d : Nat) (P : ByteArray → Bool) (pre : List ByteArray) : (nwF d P pre).length ≤ pre.length := by
  unfold nwF
  rw [List.length_map]
  exact List.length_filter_le _ _
theorem mem_wordsN (d n : Nat) (hd : d = 2 ∨ d = 3) (x : ByteArray) (h : x ∈ wordsL d n) : x.data.toList.length = n ∧ lettersL d x.data.toList = true := by
  unfold wordsL at h
  obtain ⟨k, _, rfl⟩ := List.mem_map.1 h
  have e : (wordS d n k).data.toList = wordOf d n k := by simp [wordS]
  rw [e]
  exact ⟨length_wordOf d n k, lettersL_wordOf d hd n k⟩

set_option maxRecDepth 100000 in
set_option maxHeartbeats 4000000 in
theorem numbersWhereR_calls (d n : Nat) (hd : d = 2 ∨ d = 3) (hn : n ≤ 5) (P : ByteArray → Bool) (ga gb : Nat) (w : World)
    (hf : ∀ (x : ByteArray) (W : World), Below w.heap.size w W → x.data.toList.length = n → lettersL d x.data.toList = true → Calls Try.prog 47 #[.string x, .pointer (some ⟨ga, 0, none⟩), .pointer (some ⟨gb, 0, none⟩)] W fun e w' => e = .returned (.bool (P x)) ∧ Below W.heap.size W w') :
    Calls Try.prog 46 #[.int .i64 (d : Int), .int .i64 (n : Int), .func (.func 47) #[] #[.pointer (some ⟨ga, 0, none⟩), .pointer (some ⟨gb, 0, none⟩)]] w fun e w' => ∃ v, e = .returned v ∧ OwnI w' w.heap.size v (nwF d P (wordsL d n)) ∧ Below w.heap.size w w' := by
  have HF0 := Lib.hid hf
  have hpb := pow_le d n (by omega) (by omega)
  have HLen : Hid ((wordsL d n).length ≤ 243) := Lib.hid (by rw [wordsL_len]; exact hpb)
  clear hf hpb
  refine (callsIn_wide (n := 3)).1 ?_
  refine callsIn_of_wp_marks Try.func46 rfl trivial ?_ rfl
  simp only [Try.ntmps46, List.size_toArray, List.length_cons, List.length_nil, Nat.reduceAdd, Nat.reduceSub, Array.replicate_succ, Array.replicate_zero, List.push_toArray, List.append_toArray, List.nil_append, List.cons_append]
  have hD0 : Blk (((w.alloc (.cells #[.int .i64 (d : Int)] 2)).alloc (.cells #[.func (.func 47) #[] #[.pointer (some ⟨ga, 0, none⟩), .pointer (some ⟨gb, 0, none⟩)]] 63)).alloc (.cells #[.slice none 0 0] 31)) w.heap.size #[.int .i64 (d : Int)] 2 := ((Blk.new w _ _).alloc _).alloc _
  gi_wp2_with (refine ⟨trivial, ?_⟩; gi_at_call 66; refine (callsIn_wide.2 (wordsOfLevel_calls _ _ _)).mono ?_; rintro e w2 ⟨rfl, rfl⟩)
  have hD : Blk (((((w.alloc (.cells #[.int .i64 (d : Int)] 2)).alloc (.cells #[.func (.func 47) #[] #[.pointer (some ⟨ga, 0, none⟩), .pointer (some ⟨gb, 0, none⟩)]] 63)).alloc (.cells #[.slice none 0 0] 31)).alloc (.cells #[.int .i64 (d : Int)] 2)).alloc (.cells #[.int .i64 (n : Int)] 2)) w.heap.size #[.int .i64 (d : Int)] 2 := ((((Blk.new w _ _).alloc _).alloc _).alloc _).alloc _
  have hH : Blk (((((w.alloc (.cells #[.int .i64 (d : Int)] 2)).alloc (.cells #[.func (.func 47) #[] #[.pointer (some ⟨ga, 0, none⟩), .pointer (some ⟨gb, 0, none⟩)]] 63)).alloc (.cells #[.slice none 0 0] 31)).alloc (.cells #[.int .i64 (d : Int)] 2)).alloc (.cells #[.int .i64 (n : Int)] 2)) (w.heap.size + 1) #[.func (.func 47) #[] #[.pointer (some ⟨ga, 0, none⟩), .pointer (some ⟨gb, 0, none⟩)]] 63 := (((Blk.new_at _ _ _ _ (by simp)).alloc _).alloc _).alloc _
  have hX : Blk (((((w.alloc (.cells #[.int .i64 (d : Int)] 2)).alloc (.cells #[.func (.func 47) #[] #[.pointer (some ⟨ga, 0, none⟩), .pointer (some ⟨gb, 0, none⟩)]] 63)).alloc (.cells #[.slice none 0 0] 31)).alloc (.cells #[.int .i64 (d : Int)] 2)).alloc (.cells #[.int .i64 (n : Int)] 2)) (w.heap.size + 2) #[.slice none 0 0] 31 := ((Blk.new_at _ _ _ _ (by simp)).alloc _).alloc _
  have h3 : Blk (((((w.alloc (.cells #[.int .i64 (d : Int)] 2)).alloc (.cells #[.func (.func 47) #[] #[.pointer (some ⟨ga, 0, none⟩), .pointer (some ⟨gb, 0, none⟩)]] 63)).alloc (.cells #[.slice none 0 0] 31)).alloc (.cells #[.int .i64 (d : Int)] 2)).alloc (.cells #[.int .i64 (n : Int)] 2)) (w.heap.size + 3) #[.int .i64 (d : Int)] 2 := (Blk.new_at _ _ _ _ (by simp)).alloc _
  have h4 : Blk (((((w.alloc (.cells #[.int .i64 (d : Int)] 2)).alloc (.cells #[.func (.func 47) #[] #[.pointer (some ⟨ga, 0, none⟩), .pointer (some ⟨gb, 0, none⟩)]] 63)).alloc (.cells #[.slice none 0 0] 31)).alloc (.cells #[.int .i64 (d : Int)] 2)).alloc (.cells #[.int .i64 (n : Int)] 2)) (w.heap.size + 4) #[.int .i64 (n : Int)] 2 := Blk.new_at _ _ _ _ (by simp)
  have hbw : Below w.heap.size w (((((w.alloc (.cells #[.int .i64 (d : Int)] 2)).alloc (.cells #[.func (.func 47) #[] #[.pointer (some ⟨ga, 0, none⟩), .pointer (some ⟨gb, 0, none⟩)]] 63)).alloc (.cells #[.slice none 0 0] 31)).alloc (.cells #[.int .i64 (d : Int)] 2)).alloc (.cells #[.int .i64 (n : Int)] 2)) := by (repeat (first | exact Below.refl _ _ | refine below_drew' ?_ | refine below_drewN' ?_ _ | refine below_alloc' ?_ _ | refine below_set' ?_ (by (try simp); (try omega)) _ | refine below_step ?_ (by assumption)))
  have hsz : (((((w.alloc (.cells #[.int .i64 (d : Int)] 2)).alloc (.cells #[.func (.func 47) #[] #[.pointer (some ⟨ga, 0, none⟩), .pointer (some ⟨gb, 0, none⟩)]] 63)).alloc (.cells #[.slice none 0 0] 31)).alloc (.cells #[.int .i64 (d : Int)] 2)).alloc (.cells #[.int .i64 (n : Int)] 2)).heap.size = w.heap.size + 5 := by simp
  clear hD0
  generalize (((((w.alloc (.cells #[.int .i64 (d : Int)] 2)).alloc (.cells #[.func (.func 47) #[] #[.pointer (some ⟨ga, 0, none⟩), .pointer (some ⟨gb, 0, none⟩)]] 63)).alloc (.cells #[.slice none 0 0] 31)).alloc (.cells #[.int .i64 (d : Int)] 2)).alloc (.cells #[.int .i64 (n : Int)] 2)) = W5 at *
  refine wp_rangeFoot (gf := 79) (lb := #[.pointer (some ⟨w.heap.size + 3, 0, none⟩), .pointer (some ⟨w.heap.size + 4, 0, none⟩)]) rfl (enters_of Try.func79 (by kernel_rfl) rfl)
    (wordsOfLevel_givesN d n _ _ hd hn W5 h3 h4) (Below.refl _ _)
    (fun s W => ∃ v, s.2 = accF (w.heap.size + 2) v ∧ AccAt W (w.heap.size + 2) (w.heap.size + 3) v (nwF d P s.1) ∧ Blk W w.heap.size #[.int .i64 (d : Int)] 2 ∧ Blk W (w.heap.size + 1) #[.func (.func 47) #[] #[.pointer (some ⟨ga, 0, none⟩), .pointer (some ⟨gb, 0, none⟩)]] 63 ∧ Below w.heap.size w W)
    (fun _ _ => False)
    ?own (fun _ _ _ _ h _ _ => h) ?foot (accF (w.heap.size + 2) (.slice none 0 0)) ⟨_, rfl, ⟨hX, OwnI.nil _ _, by omega⟩, hD, hH, hbw⟩ ?caps
    (fun x => { tmps := #[.int .i64 (d : Int), .int .i64 (n : Int), .func (.func 47) #[] #[.pointer (some ⟨ga, 0, none⟩), .pointer (some ⟨gb, 0, none⟩)], .pointer (some ⟨w.heap.size, 0, none⟩), undef, .pointer (some ⟨w.heap.size + 1, 0, none⟩), .slice none 0 0, .pointer (some ⟨w.heap.size + 1 + 1, 0, none⟩), .string x, .int .i64 (d : Int), .int .i64 (n : Int), .func (.func 79) #[] #[.pointer (some ⟨w.heap.size + 1 + 1 + 1, 0, none⟩), .pointer (some ⟨w.heap.size + 1 + 1 + 1 + 1, 0, none⟩)], .string x, undef, undef, undef, undef, undef, undef, undef, undef, undef, undef], defers := [] })
    ?assign ?body ?done ?stop
  case own =>
    rintro s X Z row ⟨v, x1, x2, x3, x4, x5⟩ hg hr
    exact ⟨v, x1, x2.turn hg (fun r e => (hr r e).2), x3.turn hg (fun r e => (hr r e).2), x4.turn hg (fun r e => (hr r e).2), ownFrom_below (β := Unit) (Nat.le_refl _) (by omega) () X Z row x5 hg hr⟩
  case foot =>
    rintro s X ⟨v, x1, x2, _, _⟩ k hk
    rw [x1] at hk
    exact x2.foot k hk
  case caps =>
    rintro i (rfl | rfl) (h | h)
    · omega
    · simp [Value.ownBlock] at h
    · omega
    · simp [Value.ownBlock] at h
  case assign =>
    intro l2 x W' K hK
    gi_wp2
    exact hK
  case body =>
    rintro l2 ⟨pre, ft⟩ x W' ⟨v, x1, x2, x3, x5, x4⟩ hpre
    dsimp only at x1 x2 hpre ⊢
    subst x1
    obtain ⟨q1, q2⟩ := mem_wordsN d n hd x (hpre.subset (by simp))
    have hpl : pre.length < 243 := by
      have := hpre.length_le
      have := HLen.out
      simp at this ⊢
      simp at *
      omega
    have HLx := Lib.hid (HF0.out x W' x4 q1 q2)
    have HNx := Lib.hid (fun W => levelNumber_calls d x (by omega) (by omega) q2 W)
    have HFy := Lib.hid (nwF_yes d P pre x)
    have HFn := Lib.hid (nwF_no d P pre x)
    have Hln := Lib.hid (nwF_len d P pre)
    clear q1 q2 hpre
    have cH := x5.cell 0
    simp at cH
    obtain ⟨o', c', hve, _⟩ := x2.2.1.view
    subst hve
    cases hp : P x
    · have HF := Lib.hid (HFn.out hp)
      rw [hp] at HLx
      clear HFy HFn hp
      gi_wp2_with (refine ⟨trivial, rfl, ?_⟩; gi_at_call 47; refine (CallsIn.inRound l2 (callsIn_wide.2 HLx.out)).mono ?_; rintro e w3 ⟨rfl, hb3⟩)
      exact ⟨_, ⟨_, rfl, by rw [HF.out]; exact x2.below hb3, x3.keptAll hb3, x5.keptAll hb3, below_step x4 hb3⟩, FootKeeps.of_below hb3⟩
    · have HF := Lib.hid (HFy.out hp)
      rw [hp] at HLx
      clear HFy HFn hp
      generalize numI d x.data.toList = z at *
      gi_wp2_with (refine ⟨trivial, rfl, ?_⟩; gi_at_call 47; refine (CallsIn.inRound l2 (callsIn_wide.2 HLx.out)).mono ?_; rintro e w0 ⟨rfl, hb0⟩)
      have hdr : Below w0.heap.size w0 w0.drew := (Below.refl _ _).drew
      have hbd := below_step hb0 hdr
      have y2 := x2.below hbd
      have y3 := x3.keptAll hbd
      have y5 := x5.keptAll hbd
      have y4 := below_step x4 hbd
      have yf := FootKeeps.of_below (ft := accF (w.heap.size + 2) (.slice o' (nwF d P pre).length c')) hbd
      clear x2 x3 x4 x5 hdr hbd hb0 HLx cH
      refine wp_region_last (n := 6) (S := fun W => Blk W w.heap.size #[.int .i64 (d : Int)] 2 ∧ Blk W (w.heap.size + 2) #[.slice o' (nwF d P pre).length c'] 31) (by kernel_rfl) rfl (by kernel_rfl) (by kernel_rfl) (not_out _ (fun _ _ h => h)) ⟨y3, y2.1⟩ (fun hS0 => ?_)
      (refine hK_take 0 (.slice o' (nwF d P pre).length c') rfl (by kernel_rfl) (by kernel_rfl) (by kernel_rfl) (fun _ _ _ h => h) rfl (fun W hW => by have c1 := Blk.cell hW.2 0; simp at c1; clear hW; go_simp) hS0 ?_; (intro K hK; go_simp; refine hK _ ?_; clear hK K))
      (refine hK_take 1 (.int .i64 (d : Int)) rfl (by kernel_rfl) (by kernel_rfl) (by kernel_rfl) (fun _ _ _ h => h) rfl (fun W hW => by have c1 := Blk.cell hW.1 0; simp at c1; clear hW; go_simp) hS0 ?_; (intro K hK; go_simp; refine hK _ ?_; clear hK K))
      (refine hK_take 2 (.string x) rfl (by kernel_rfl) (by kernel_rfl) (by kernel_rfl) (fun _ _ _ h => h) rfl (fun W _ => by go_simp) hS0 ?_; (intro K hK; go_simp; refine hK _ ?_; clear hK K))
      (refine wpAnyH_ready (rs := [3]) (by kernel_rfl) (by simp) ?_; refine AllReadyH.cons rfl (fun K hK => ?_) AllReadyH.nil); go_simp; refine (HNx.out _).mono ?_; rintro e w4 ⟨rfl, rfl⟩
      (go_simp; refine hK.out _ _ (hS0) (fun hS2 => ?_); clear hK K)
      generalize w0.drew = w3 at *
      have hbA : Below w3.heap.size w3 (w3.alloc (.cells #[.int .i64 z] 2)) := by (repeat (first | exact Below.refl _ _ | refine below_drew' ?_ | refine below_drewN' ?_ _ | refine below_alloc' ?_ _ | refine below_set' ?_ (by (try simp); (try omega)) _ | refine below_step ?_ (by assumption)))
      have t2 := y2.below hbA
      have t3 := y3.keptAll hbA
      have t5 := y5.keptAll hbA
      have t4 := below_step y4 hbA
      have tf := yf.trans (FootKeeps.of_below hbA)
      have hnew : Blk (w3.alloc (.cells #[.int .i64 z] 2)) w3.heap.size #[.int .i64 z] 2 := Blk.new _ _ _
      have hsA : (w3.alloc (.cells #[.int .i64 z] 2)).heap.size = w3.heap.size + 1 := by simp
      have hs4 := y4.size
      refine wpAnyH_ready (rs := [4]) (by kernel_rfl) (by simp) ?_
      refine AllReadyH.cons rfl (fun K hK => ?_) AllReadyH.nil
      go_simp
      refine hK.out _ _ ⟨t3, t2.1⟩ (fun hS3' => ?_)
      clear hK K
      generalize w3.alloc (.cells #[.int .i64 z] 2) = w5 at *
      refine wpAnyH_ready (rs := [5]) (by kernel_rfl) (by simp) ?_
      refine AllReadyH.cons rfl (fun K hK => ?_) AllReadyH.nil
      refine ite_go (by kernel_rfl) ?_
      refine wp_push_int (.tmp 16) (.tmp 20) rfl (w.heap.size + 3) _ (nwF d P pre) rfl t2.2.1 w3.heap.size 1 z rfl hnew (by have := Hln.out; omega) (by have := t2.1.lt; omega) ?_
      intro v' w6 hO6 hg6 hat6
      obtain ⟨o6, c6, hv6, _⟩ := hO6.view
      generalize (nwF d P pre ++ [z]).length = n6 at hv6
      subst hv6
      obtain ⟨p1, p2, p3⟩ := t2.pushed hO6 hg6 hat6
      have p4 := t2.low t4 hg6 (by omega) (by omega) (.slice o6 n6 c6)
      have p5 := t3.same (hg6.block _ t3.lt (fun e => by have := ownI_ge t2.2.1 _ e.symm; omega))
      have p7 := t5.same (hg6.block _ t5.lt (fun e => by have := ownI_ge t2.2.1 _ e.symm; omega))
      refine hK.out _ _ ⟨p5, p1⟩ (fun hS6 => ?_)
      clear hK K
      refine wpAnyH_done (by kernel_rfl) ?_ _
      refine lastQ_go rfl (fun K hK => ?_)
      have cX := p1.cell 0
      simp at cX
      have fX := p1.free
      go_simp
      refine hK.out _ _ ?_
      gi_wp2
      exact ⟨_, ⟨_, rfl, by rw [HF.out]; exact p2, p5.setOther _ 0 _ (by omega), p7.setOther _ 0 _ (by omega), p4⟩, tf.trans p3⟩
  case done =>
    rintro D ft W' hD ⟨v, x1, x2, x3, x5, x4⟩ hdd hnd
    dsimp only at x1 x2
    obtain ⟨o', c', hve, _⟩ := x2.2.1.view
    subst hve
    have cX := x2.1.cell 0
    simp at cX
    gi_wp2
    refine ⟨by simp, .inl ⟨_, _, rfl, run_takeDeferred hdd, ?_⟩⟩
    refine ⟨_, results_tmp rfl _ _ _, ?_⟩
    have y5 := x4.trans (belowK_b (w := w) (Nat.le_refl _) W' D _ (.deferred none) (by omega) hdd rfl rfl)
    exact ⟨_, rfl, (x2.2.1.turn (grownBy_putObj' W' D (.deferred none)) (fun r e => by cases e; exact ⟨_, hdd, rfl⟩)).base_le' (by omega), y5⟩
  case stop =>
    rintro D pre W' _ _ h _
    exact h.elim

set_option maxRecDepth 100000 in
set_option maxHeartbeats 4000000 in
theorem numbersWhereB_calls (d n : Nat) (hd : d = 2 ∨ d = 3) (hn : n ≤ 5) (P : ByteArray → Bool) (ga : Nat) (w : World)
    (hf : ∀ (x : ByteArray) (W : World), Below w.heap.size w W → x.data.toList.length = n → lettersL d x.data.toList = true → Calls Try.prog 49 #[.pointer (some ⟨ga, 0, none⟩), .string x] W fun e w' => e = .returned (.bool (P x)) ∧ Below W.heap.size W w') :
    Calls Try.prog 46 #[.int .i64 (d : Int), .int .i64 (n : Int), .func (.func 49) #[.pointer (some ⟨ga, 0, none⟩)] #[]] w fun e w' => ∃ v, e = .returned v ∧ OwnI w' w.heap.size v (nwF d P (wordsL d n)) ∧ Below w.heap.size w w' := by
  have HF0 := Lib.hid hf
  have hpb := pow_le d n (by omega) (by omega)
  have HLen : Hid ((wordsL d n).length ≤ 243) := Lib.hid (by rw [wordsL_len]; exact hpb)
  clear hf hpb
  refine (callsIn_wide (n := 3)).1 ?_
  refine callsIn_of_wp_marks Try.func46 rfl trivial ?_ rfl
  simp only [Try.ntmps46, List.size_toArray, List.length_cons, List.length_nil, Nat.reduceAdd, Nat.reduceSub, Array.replicate_succ, Array.replicate_zero, List.push_toArray, List.append_toArray, List.nil_append, List.cons_append]
  have hD0 : Blk (((w.alloc (.cells #[.int .i64 (d : Int)] 2)).alloc (.cells #[.func (.func 49) #[.pointer (some ⟨ga, 0, none⟩)] #[]] 63)).alloc (.cells #[.slice none 0 0] 31)) w.heap.size #[.int .i64 (d : Int)] 2 := ((Blk.new w _ _).alloc _).alloc _
  gi_wp2_with (refine ⟨trivial, ?_⟩; gi_at_call 66; refine (callsIn_wide.2 (wordsOfLevel_calls _ _ _)).mono ?_; rintro e w2 ⟨rfl, rfl⟩)
  have hD : Blk (((((w.alloc (.cells #[.int .i64 (d : Int)] 2)).alloc (.cells #[.func (.func 49) #[.pointer (some ⟨ga, 0, none⟩)] #[]] 63)).alloc (.cells #[.slice none 0 0] 31)).alloc (.cells #[.int .i64 (d : Int)] 2)).alloc (.cells #[.int .i64 (n : Int)] 2)) w.heap.size #[.int .i64 (d : Int)] 2 := ((((Blk.new w _ _).alloc _).alloc _).alloc _).alloc _
  have hH : Blk (((((w.alloc (.cells #[.int .i64 (d : Int)] 2)).alloc (.cells #[.func (.func 49) #[.pointer (some ⟨ga, 0, none⟩)] #[]] 63)).alloc (.cells #[.slice none 0 0] 31)).alloc (.cells #[.int .i64 (d : Int)] 2)).alloc (.cells #[.int .i64 (n : Int)] 2)) (w.heap.size + 1) #[.func (.func 49) #[.pointer (some ⟨ga, 0, none⟩)] #[]] 63 := (((Blk.new_at _ _ _ _ (by simp)).alloc _).alloc _).alloc _
  have hX : Blk (((((w.alloc (.cells #[.int .i64 (d : Int)] 2)).alloc (.cells #[.func (.func 49) #[.pointer (some ⟨ga, 0, none⟩)] #[]] 63)).alloc (.cells #[.slice none 0 0] 31)).alloc (.cells #[.int .i64 (d : Int)] 2)).alloc (.cells #[.int .i64 (n : Int)] 2)) (w.heap.size + 2) #[.slice none 0 0] 31 := ((Blk.new_at _ _ _ _ (by simp)).alloc _).alloc _
  have h3 : Blk (((((w.alloc (.cells #[.int .i64 (d : Int)] 2)).alloc (.cells #[.func (.func 49) #[.pointer (some ⟨ga, 0, none⟩)] #[]] 63)).alloc (.cells #[.slice none 0 0] 31)).alloc (.cells #[.int .i64 (d : Int)] 2)).alloc (.cells #[.int .i64 (n : Int)] 2)) (w.heap.size + 3) #[.int .i64 (d : Int)] 2 := (Blk.new_at _ _ _ _ (by simp)).alloc _
  have h4 : Blk (((((w.alloc (.cells #[.int .i64 (d : Int)] 2)).alloc (.cells #[.func (.func 49) #[.pointer (some ⟨ga, 0, none⟩)] #[]] 63)).alloc (.cells #[.slice none 0 0] 31)).alloc (.cells #[.int .i64 (d : Int)] 2)).alloc (.cells #[.int .i64 (n : Int)] 2)) (w.heap.size + 4) #[.int .i64 (n : Int)] 2 := Blk.new_at _ _ _ _ (by simp)
  have hbw : Below w.heap.size w (((((w.alloc (.cells #[.int .i64 (d : Int)] 2)).alloc (.cells #[.func (.func 49) #[.pointer (some ⟨ga, 0, none⟩)] #[]] 63)).alloc (.cells #[.slice none 0 0] 31)).alloc (.cells #[.int .i64 (d : Int)] 2)).alloc (.cells #[.int .i64 (n : Int)] 2)) := by (repeat (first | exact Below.refl _ _ | refine below_drew' ?_ | refine below_drewN' ?_ _ | refine below_alloc' ?_ _ | refine below_set' ?_ (by (try simp); (try omega)) _ | refine below_step ?_ (by assumption)))
  have hsz : (((((w.alloc (.cells #[.int .i64 (d : Int)] 2)).alloc (.cells #[.func (.func 49) #[.pointer (some ⟨ga, 0, none⟩)] #[]] 63)).alloc (.cells #[.slice none 0 0] 31)).alloc (.cells #[.int .i64 (d : Int)] 2)).alloc (.cells #[.int .i64 (n : Int)] 2)).heap.size = w.heap.size + 5 := by simp
  clear hD0
  generalize (((((w.alloc (.cells #[.int .i64 (d : Int)] 2)).alloc (.cells #[.func (.func 49) #[.pointer (some ⟨ga, 0, none⟩)] #[]] 63)).alloc (.cells #[.slice none 0 0] 31)).alloc (.cells #[.int .i64 (d : Int)] 2)).alloc (.cells #[.int .i64 (n : Int)] 2)) = W5 at *
  refine wp_rangeFoot (gf := 79) (lb := #[.pointer (some ⟨w.heap.size + 3, 0, none⟩), .pointer (some ⟨w.heap.size + 4, 0, none⟩)]) rfl (enters_of Try.func79 (by kernel_rfl) rfl)
    (wordsOfLevel_givesN d n _ _ hd hn W5 h3 h4) (Below.refl _ _)
    (fun s W => ∃ v, s.2 = accF (w.heap.size + 2) v ∧ AccAt W (w.heap.size + 2) (w.heap.size + 3) v (nwF d P s.1) ∧ Blk W w.heap.size #[.int .i64 (d : Int)] 2 ∧ Blk W (w.heap.size + 1) #[.func (.func 49) #[.pointer (some ⟨ga, 0, none⟩)] #[]] 63 ∧ Below w.heap.size w W)
    (fun _ _ => False)
    ?own (fun _ _ _ _ h _ _ => h) ?foot (accF (w.heap.size + 2) (.slice none 0 0)) ⟨_, rfl, ⟨hX, OwnI.nil _ _, by omega⟩, hD, hH, hbw⟩ ?caps
    (fun x => { tmps := #[.int .i64 (d : Int), .int .i64 (n : Int), .func (.func 49) #[.pointer (some ⟨ga, 0, none⟩)] #[], .pointer (some ⟨w.heap.size, 0, none⟩), undef, .pointer (some ⟨w.heap.size + 1, 0, none⟩), .slice none 0 0, .pointer (some ⟨w.heap.size + 1 + 1, 0, none⟩), .string x, .int .i64 (d : Int), .int .i64 (n : Int), .func (.func 79) #[] #[.pointer (some ⟨w.heap.size + 1 + 1 + 1, 0, none⟩), .pointer (some ⟨w.heap.size + 1 + 1 + 1 + 1, 0, none⟩)], .string x, undef, undef, undef, undef, undef, undef, undef, undef, undef, undef], defers := [] })
    ?assign ?body ?done ?stop
  case own =>
    rintro s X Z row ⟨v, x1, x2, x3, x4, x5⟩ hg hr
    exact ⟨v, x1, x2.turn hg (fun r e => (hr r e).2), x3.turn hg (fun r e => (hr r e).2), x4.turn hg (fun r e => (hr r e).2), ownFrom_below (β := Unit) (Nat.le_refl _) (by omega) () X Z row x5 hg hr⟩
  case foot =>
    rintro s X ⟨v, x1, x2, _, _⟩ k hk
    rw [x1] at hk
    exact x2.foot k hk
  case caps =>
    rintro i (rfl | rfl) (h | h)
    · omega
    · simp [Value.ownBlock] at h
    · omega
    · simp [Value.ownBlock] at h
  case assign =>
    intro l2 x W' K hK
    gi_wp2
    exact hK
  case body =>
    rintro l2 ⟨pre, ft⟩ x W' ⟨v, x1, x2, x3, x5, x4⟩ hpre
    dsimp only at x1 x2 hpre ⊢
    subst x1
    obtain ⟨q1, q2⟩ := mem_wordsN d n hd x (hpre.subset (by simp))
    have hpl : pre.length < 243 := by
      have := hpre.length_le
      have := HLen.out
      simp at this ⊢
      simp at *
      omega
    have HLx := Lib.hid (HF0.out x W' x4 q1 q2)
    have HNx := Lib.hid (fun W => levelNumber_calls d x (by omega) (by omega) q2 W)
    have HFy := Lib.hid (nwF_yes d P pre x)
    have HFn := Lib.hid (nwF_no d P pre x)
    have Hln := Lib.hid (nwF_len d P pre)
    clear q1 q2 hpre
    have cH := x5.cell 0
    simp at cH
    obtain ⟨o', c', hve, _⟩ := x2.2.1.view
    subst hve
    cases hp : P x
    · have HF := Lib.hid (HFn.out hp)
      rw [hp] at HLx
      clear HFy HFn hp
      gi_wp2_with (refine ⟨trivial, rfl, ?_⟩; gi_at_call 49; refine (CallsIn.inRound l2 (callsIn_wide.2 HLx.out)).mono ?_; rintro e w3 ⟨rfl, hb3⟩)
      exact ⟨_, ⟨_, rfl, by rw [HF.out]; exact x2.below hb3, x3.keptAll hb3, x5.keptAll hb3, below_step x4 hb3⟩, FootKeeps.of_below hb3⟩
    · have HF := Lib.hid (HFy.out hp)
      rw [hp] at HLx
      clear HFy HFn hp
      generalize numI d x.data.toList = z at *
      gi_wp2_with (refine ⟨trivial, rfl, ?_⟩; gi_at_call 49; refine (CallsIn.inRound l2 (callsIn_wide.2 HLx.out)).mono ?_; rintro e w0 ⟨rfl, hb0⟩)
      have hdr : Below w0.heap.size w0 w0.drew := (Below.refl _ _).drew
      have hbd := below_step hb0 hdr
      have y2 := x2.below hbd
      have y3 := x3.keptAll hbd
      have y5 := x5.keptAll hbd
      have y4 := below_step x4 hbd
      have yf := FootKeeps.of_below (ft := accF (w.heap.size + 2) (.slice o' (nwF d P pre).length c')) hbd
      clear x2 x3 x4 x5 hdr hbd hb0 HLx cH
      refine wp_region_last (n := 6) (S := fun W => Blk W w.heap.size #[.int .i64 (d : Int)] 2 ∧ Blk W (w.heap.size + 2) #[.slice o' (nwF d P pre).length c'] 31) (by kernel_rfl) rfl (by kernel_rfl) (by kernel_rfl) (not_out _ (fun _ _ h => h)) ⟨y3, y2.1⟩ (fun hS0 => ?_)
      (refine hK_take 0 (.slice o' (nwF d P pre).length c') rfl (by kernel_rfl) (by kernel_rfl) (by kernel_rfl) (fun _ _ _ h => h) rfl (fun W hW => by have c1 := Blk.cell hW.2 0; simp at c1; clear hW; go_simp) hS0 ?_; (intro K hK; go_simp; refine hK _ ?_; clear hK K))
      (refine hK_take 1 (.int .i64 (d : Int)) rfl (by kernel_rfl) (by kernel_rfl) (by kernel_rfl) (fun _ _ _ h => h) rfl (fun W hW => by have c1 := Blk.cell hW.1 0; simp at c1; clear hW; go_simp) hS0 ?_; (intro K hK; go_simp; refine hK _ ?_; clear hK K))
      (refine hK_take 2 (.string x) rfl (by kernel_rfl) (by kernel_rfl) (by kernel_rfl) (fun _ _ _ h => h) rfl (fun W _ => by go_simp) hS0 ?_; (intro K hK; go_simp; refine hK _ ?_; clear hK K))
      (refine wpAnyH_ready (rs := [3]) (by kernel_rfl) (by simp) ?_; refine AllReadyH.cons rfl (fun K hK => ?_) AllReadyH.nil); go_simp; refine (HNx.out _).mono ?_; rintro e w4 ⟨rfl, rfl⟩
      (go_simp; refine hK.out _ _ (hS0) (fun hS2 => ?_); clear hK K)
      generalize w0.drew = w3 at *
      have hbA : Below w3.heap.size w3 (w3.alloc (.cells #[.int .i64 z] 2)) := by (repeat (first | exact Below.refl _ _ | refine below_drew' ?_ | refine below_drewN' ?_ _ | refine below_alloc' ?_ _ | refine below_set' ?_ (by (try simp); (try omega)) _ | refine below_step ?_ (by assumption)))
      have t2 := y2.below hbA
      have t3 := y3.keptAll hbA
      have t5 := y5.keptAll hbA
      have t4 := below_step y4 hbA
      have tf := yf.trans (FootKeeps.of_below hbA)
      have hnew : Blk (w3.alloc (.cells #[.int .i64 z] 2)) w3.heap.size #[.int .i64 z] 2 := Blk.new _ _ _
      have hsA : (w3.alloc (.cells #[.int .i64 z] 2)).heap.size = w3.heap.size + 1 := by simp
      have hs4 := y4.size
      refine wpAnyH_ready (rs := [4]) (by kernel_rfl) (by simp) ?_
      refine AllReadyH.cons rfl (fun K hK => ?_) AllReadyH.nil
      go_simp
      refine hK.out _ _ ⟨t3, t2.1⟩ (fun hS3' => ?_)
      clear hK K
      generalize w3.alloc (.cells #[.int .i64 z] 2) = w5 at *
      refine wpAnyH_ready (rs := [5]) (by kernel_rfl) (by simp) ?_
      refine AllReadyH.cons rfl (fun K hK => ?_) AllReadyH.nil
      refine ite_go (by kernel_rfl) ?_
      refine wp_push_int (.tmp 16) (.tmp 20) rfl (w.heap.size + 3) _ (nwF d P pre) rfl t2.2.1 w3.heap.size 1 z rfl hnew (by have := Hln.out; omega) (by have := t2.1.lt; omega) ?_
      intro v' w6 hO6 hg6 hat6
      obtain ⟨o6, c6, hv6, _⟩ := hO6.view
      generalize (nwF d P pre ++ [z]).length = n6 at hv6
      subst hv6
      obtain ⟨p1, p2, p3⟩ := t2.pushed hO6 hg6 hat6
      have p4 := t2.low t4 hg6 (by omega) (by omega) (.slice o6 n6 c6)
      have p5 := t3.same (hg6.block _ t3.lt (fun e => by have := ownI_ge t2.2.1 _ e.symm; omega))
      have p7 := t5.same (hg6.block _ t5.lt (fun e => by have := ownI_ge t2.2.1 _ e.symm; omega))
      refine hK.out _ _ ⟨p5, p1⟩ (fun hS6 => ?_)
      clear hK K
      refine wpAnyH_done (by kernel_rfl) ?_ _
      refine lastQ_go rfl (fun K hK => ?_)
      have cX := p1.cell 0
      simp at cX
      have fX := p1.free
      go_simp
      refine hK.out _ _ ?_
      gi_wp2
      exact ⟨_, ⟨_, rfl, by rw [HF.out]; exact p2, p5.setOther _ 0 _ (by omega), p7.setOther _ 0 _ (by omega), p4⟩, tf.trans p3⟩
  case done =>
    rintro D ft W' hD ⟨v, x1, x2, x3, x5, x4⟩ hdd hnd
    dsimp only at x1 x2
    obtain ⟨o', c', hve, _⟩ := x2.2.1.view
    subst hve
    have cX := x2.1.cell 0
    simp at cX
    gi_wp2
    refine ⟨by simp, .inl ⟨_, _, rfl, run_takeDeferred hdd, ?_⟩⟩
    refine ⟨_, results_tmp rfl _ _ _, ?_⟩
    have y5 := x4.trans (belowK_b (w := w) (Nat.le_refl _) W' D _ (.deferred none) (by omega) hdd rfl rfl)
    exact ⟨_, rfl, (x2.2.1.turn (grownBy_putObj' W' D (.deferred none)) (fun r e => by cases e; exact ⟨_, hdd, rfl⟩)).base_le' (by omega), y5⟩
  case stop =>
    rintro D pre W' _ _ h _
    exact h.elim
end Go.Proofs.Ytdbdoohcpcjfdaa
