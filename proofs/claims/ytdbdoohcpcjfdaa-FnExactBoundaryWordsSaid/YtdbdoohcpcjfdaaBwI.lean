/- 'ReturnWords', 'BoundaryWords': plain data; the program. -/
import Derived.Test.YtdbdoohcpcjfdaaSfD
import Derived.Test.YtdbdoohcpcjfdaaNwh
import Derived.Test.YtdbdoohcpcjfdaaTriP
import Derived.Test.YtdbdoohcpcjfdaaGLv
namespace Go.Proofs.Ytdbdoohcpcjfdaa
open Go.RowKit

theorem numL_wordN (d : Nat) (hd : d = 2 ∨ d = 3) : ∀ n k, k < d ^ n → numL d (wordOf d n k) = k
  | 0, k, h => by simp at h; subst h; rfl
  | n + 1, k, h => by
    have hk : k / d < d ^ n := Nat.div_lt_of_lt_mul (by rw [Nat.mul_comm]; rwa [Nat.pow_succ] at h)
    have hm : k % d < d := Nat.mod_lt _ (by omega)
    rw [wordOf, numL_snoc, numL_wordN d hd n _ hk]
    have hc : (UInt8.ofNat (48 + k % d)).toNat = 48 + k % d := by
      rw [UInt8.toNat_ofNat']
      omega
    rw [hc, Nat.mul_comm]
    have := Nat.div_add_mod k d
    omega

/-! ### Iterations of words -/
theorem triv_eqB {M : Mach} {L : Nat} : ∀ t p q, idB M L t p = true → idB M L t q = true → eqB M L t p q = true
  | 0, _, _, _, _ => rfl
  | t + 1, p, q, hp, hq => (eqB_succ M L t p q).2 fun x hx => by
    have a := (idB_succ M L t p).1 hp x hx
    have b := (idB_succ M L t q).1 hq x hx
    exact ⟨a.1.trans b.1.symm, triv_eqB t _ _ a.2 b.2⟩
theorem eqB_triv {M : Mach} {L : Nat} : ∀ t p q, eqB M L t p q = true → idB M L t p = true → idB M L t q = true
  | 0, _, _, _, _ => rfl
  | t + 1, p, q, he, hp => (idB_succ M L t q).2 fun x hx => by
    have a := (eqB_succ M L t p q).1 he x hx
    have b := (idB_succ M L t p).1 hp x hx
    exact ⟨a.1.symm.trans b.1, eqB_triv t _ _ a.2 b.2⟩
theorem lst_triv {M : Mach} {L S p q : Nat} (h : lst M L (S + 1) p = lst M L (S + 1) q) : trivB M L S p = trivB M L S q := by
  have e := (lst_iff M L (S + 1) p q).1 h
  unfold trivB
  rw [Bool.eq_iff_iff]
  exact ⟨eqB_triv _ _ _ e, eqB_triv _ _ _ (eqB_symm M L _ _ _ e)⟩
theorem nrm_eqL (M : Mach) (L S p q : Nat) : (nrm M L S p == nrm M L S q) = decide (lst M L (S + 1) p = lst M L (S + 1) q) := by
  rw [Bool.eq_iff_iff, beq_iff_eq, decide_eq_true_eq]
  unfold nrm
  constructor
  · intro h
    cases hp : trivB M L S p
    · cases hq : trivB M L S q
      · rw [hp, hq] at h; simp at h; omega
      · rw [hp, hq] at h; simp at h; omega
    · cases hq : trivB M L S q
      · rw [hp, hq] at h; simp at h; omega
      · exact (lst_iff M L (S + 1) p q).2 (triv_eqB _ _ _ hp hq)
  · intro h
    rw [lst_triv h, h]
/-- Does q come back at a word? -/
def retP (M : Mach) (L S q : Nat) (x : ByteArray) : Bool := decide (lst M L (S + 1) (runL M q x.data.toList).1 = lst M L (S + 1) q)
/-- Is one of the first k states active at a word? -/
def bdU (M : Mach) (L S k : Nat) (x : ByteArray) : Bool := (List.range k).any fun q => !trivB M L S (runL M q x.data.toList).1
theorem bdU_succ (M : Mach) (L S k : Nat) (x : ByteArray) : bdU M L S (k + 1) x = (bdU M L S k x || !trivB M L S (runL M k x.data.toList).1) := by
  simp [bdU, List.range_succ]
theorem bdU_up (M : Mach) (L S : Nat) (x : ByteArray) : ∀ k m, k ≤ m → bdU M L S k x = true → bdU M L S m x = true := fun k m hkm h => by
  unfold bdU at *
  rw [List.any_eq_true] at *
  obtain ⟨q, hq, e⟩ := h
  exact ⟨q, by have := List.mem_range.1 hq; exact List.mem_range.2 (by omega), e⟩
/-- The numbers of the words for which something holds, of the first k. -/
def whK (P : ByteArray → Bool) (L n k : Nat) : List Int := ((List.range k).filter fun j => P (wordS L n j)).map Int.ofNat
theorem whK_yes (P : ByteArray → Bool) (L n k : Nat) (h : P (wordS L n k) = true) : whK P L n (k + 1) = whK P L n k ++ [(k : Int)] := by
  simp [whK, List.range_succ, List.filter_append, h]
theorem whK_no (P : ByteArray → Bool) (L n k : Nat) (h : P (wordS L n k) = false) : whK P L n (k + 1) = whK P L n k := by
  simp [whK, List.range_succ, List.filter_append, h]
theorem whK_len (P : ByteArray → Bool) (L n k : Nat) : (whK P L n k).length ≤ k := by
  unfold whK
  rw [List.length_map]
  have := List.length_filter_le (fun j => P (wordS L n j)) (List.range k)
  simpa using this
theorem nwF_whK (P : ByteArray → Bool) (L n : Nat) (hL : L = 2 ∨ L = 3) : nwF L P (wordsL L n) = whK P L n (L ^ n) := by
  have key : ∀ k, k ≤ L ^ n → nwF L P ((List.range k).map (wordS L n)) = whK P L n k := by
    intro k
    induction k with
    | zero => intro _; rfl
    | succ k ih =>
      intro hk
      have e : (wordS L n k).data.toList = wordOf L n k := by simp [wordS]
      have hn := numL_wordN L hL n k (by omega)
      rw [List.range_succ, List.map_append, List.map_singleton]
      cases hp : P (wordS L n k)
      · rw [nwF_no _ _ _ _ hp, whK_no _ _ _ _ hp, ih (by omega)]
      · rw [nwF_yes _ _ _ _ hp, whK_yes _ _ _ _ hp, ih (by omega)]
        unfold numI
        rw [e, hn]
  exact key (L ^ n) (Nat.le_refl _)
def rwC (M : Mach) (q n : Int) : Int := if isMach M = true then (if (0 ≤ q ∧ q < M.S) ∧ gLv M n = true then 0 else 2) else 1
def rwR (M : Mach) (q n : Int) : List Int := if rwC M q n = 0 then whK (retP M M.L.toNat M.S.toNat q.toNat) M.L.toNat n.toNat (M.L.toNat ^ n.toNat) else []
def bwR (M : Mach) (n : Int) : List Int := if gCv M n = 0 then whK (bdU M M.L.toNat M.S.toNat M.S.toNat) M.L.toNat n.toNat (M.L.toNat ^ n.toNat) else []
theorem gLv_nat {M : Mach} {L S : Nat} {n : Int} (hg : Good M L S) (h : gLv M n = true) : ∃ nk : Nat, n = (nk : Int) ∧ nk + L ≤ 7 := by
  unfold gLv at h
  rw [hg.hL] at h
  simp at h
  obtain ⟨nk, rfl⟩ := Int.eq_ofNat_of_zero_le h.1
  exact ⟨nk, rfl, by omega⟩
theorem rwC_good {M : Mach} {q n : Int} (hok : M.Ok) (h : rwC M q n = 0) : ∃ (L S qn nk : Nat), Good M L S ∧ q = (qn : Int) ∧ qn < S ∧ n = (nk : Int) ∧ nk + L ≤ 7 ∧ gLv M n = true := by
  unfold rwC at h
  split at h
  · rename_i hm
    obtain ⟨L, S, hg⟩ := Good.of hok hm
    split at h
    · rename_i h2
      obtain ⟨qn, rfl⟩ := Int.eq_ofNat_of_zero_le h2.1.1
      obtain ⟨nk, rfl, hnk⟩ := gLv_nat hg h2.2
      have := hg.hS
      exact ⟨L, S, qn, nk, hg, rfl, by omega, rfl, hnk, h2.2⟩
    · omega
  · omega
theorem rwR_good {M : Mach} {L S qn nk : Nat} (hg : Good M L S) (h : rwC M qn nk = 0) : rwR M qn nk = whK (retP M L S qn) L nk (L ^ nk) := by
  unfold rwR
  rw [if_pos h, hg.hL, hg.hS]
  rfl
theorem bwR_good {M : Mach} {L S nk : Nat} (hg : Good M L S) (h : gCv M nk = 0) : bwR M nk = whK (bdU M L S S) L nk (L ^ nk) := by
  unfold bwR
  rw [if_pos h, hg.hL, hg.hS]
  rfl
theorem rwR_len (M : Mach) (hok : M.Ok) (q n : Int) : (rwR M q n).length ≤ 1048576 := by
  by_cases h : rwC M q n = 0
  · obtain ⟨L, S, qn, nk, hg, rfl, _, rfl, h7, _⟩ := rwC_good hok h
    rw [rwR_good hg h]
    have := whK_len (retP M L S qn) L nk (L ^ nk)
    have := hg.L2
    have := pow_le L nk hg.L3 (by omega)
    omega
  · unfold rwR; rw [if_neg h]; simp
theorem gCv_nat {M : Mach} {n : Int} (hok : M.Ok) (h : gCv M n = 0) : ∃ (L S nk : Nat), Good M L S ∧ n = (nk : Int) ∧ nk + L ≤ 7 ∧ gLv M n = true := by
  unfold gCv at h
  split at h
  · rename_i hm
    obtain ⟨L, S, hg⟩ := Good.of hok hm
    cases hl : gLv M n
    · rw [hl] at h; simp at h
    · obtain ⟨nk, rfl, h7⟩ := gLv_nat hg hl
      exact ⟨L, S, nk, hg, rfl, h7, rfl⟩
  · omega
theorem bwR_len (M : Mach) (hok : M.Ok) (n : Int) : (bwR M n).length ≤ 1048576 := by
  by_cases h : gCv M n = 0
  · obtain ⟨L, S, nk, hg, rfl, h7, _⟩ := gCv_nat hok h
    rw [bwR_good hg h]
    have := whK_len (bdU M L S S) L nk (L ^ nk)
    have := hg.L2
    have := pow_le L nk hg.L3 (by omega)
    omega
  · unfold bwR; rw [if_neg h]; simp

set_option maxRecDepth 100000 in
set_option maxHeartbeats 2000000 in
theorem returns_calls (M : Mach) (L S : Nat) (hg : Good M L S) (g q : Nat) (hq : q < S) (s : ByteArray) (hs : s.size ≤ 40) (hl : lettersL L s.data.toList = true) (w : World) (hB : Blk w g (sfC M L S) 77) :
    Calls Try.prog 48 #[.pointer (some ⟨g, 0, none⟩), .int .i64 (q : Int), .string s] w fun e w' => e = .returned (.bool (retP M L S q s)) ∧ Below w.heap.size w w' := by
  have hok := hg.ok
  have hS16 := hg.S16
  have hr := hg.run_st q hq s.data.toList hl
  have HW := Lib.hid (walk_calls M L S hg q hq s hs hl)
  have cc := sfC_norm hok L S (runL M q s.data.toList).1 (by omega)
  rw [nrmP_at M L S S _ hr hS16] at cc
  have cq := sfC_norm hok L S q (by omega)
  rw [nrmP_at M L S S _ hq hS16] at cq
  have hne : (nrm M L S (runL M q s.data.toList).1 == nrm M L S q) = retP M L S q s := nrm_eqL M L S _ _
  have hsz := sfC_size hok L S
  have F2 : Hid (0 + 98 ≤ (sfC M L S).size) := Lib.hid (by omega)
  have F1 : Hid (cut (sfC M L S) 0 98 = mc M) := Lib.hid (sfC_cut hok L S)
  have hlt := hB.lt
  clear hsz
  generalize (runL M q s.data.toList).1 = p at *
  generalize nrm M L S p = z at *
  generalize nrm M L S q = y at *
  generalize sfC M L S = cs at *
  generalize retP M L S q s = b at *
  have hp16 : (p : Int) < 16 := by omega
  have hq16 : (q : Int) < 16 := by omega
  go_enter Try.func48, Try.ntmps48
  go_wp2_with (first | (with_reducible show wpList _ _ _ _ _ _; refine wpList_load_blk rfl 28 (.tmp 12) rfl g 0 rfl cs _ hB 98 F2.out _ Try.underlying28 rfl size_mach ?_; rw [F1.out]) | (go_at_call 59; refine (HW.out _).mono ?_; rintro e w3 ⟨rfl, hb3⟩; have hB3 := hB.keptAll hb3; have c3 := hB3.cell (98 + p); rw [cc] at c3; have c4 := hB3.cell (98 + q); rw [cq] at c4))
  go_quiet (fail)
  go_wp2
  go_ret
  exact ⟨rfl, below_step (by (repeat (first | exact Below.refl _ _ | refine below_drew' ?_ | refine below_drewN' ?_ _ | refine below_alloc' ?_ _ | refine below_set' ?_ (by (try simp); (try omega)) _ | refine below_step ?_ (by assumption)))) (below_drewN' (Below.refl _ _) nq)⟩

set_option maxRecDepth 100000 in
set_option maxHeartbeats 2000000 in
theorem isBoundary_calls (M : Mach) (L S : Nat) (hg : Good M L S) (g : Nat) (s : ByteArray) (hs : s.size ≤ 40) (hl : lettersL L s.data.toList = true) (w : World) (hB : Blk w g (sfC M L S) 77) :
    Calls Try.prog 49 #[.pointer (some ⟨g, 0, none⟩), .string s] w fun e w' => e = .returned (.bool (bdU M L S S s)) ∧ Below w.heap.size w w' := by
  have hok := hg.ok
  have hS16 := hg.S16
  have HA := Lib.hid (fun q hq W hB => isActive_calls M L S hg g q hq s hs hl W hB)
  have cS := (sfC_mach hok L S 1 (by omega)).trans (mc_S M)
  rw [hg.hS] at cS
  have c1 := hB.cell 1
  rw [cS] at c1
  have hlt := hB.lt
  have Hs := Lib.hid (fun k => bdU_succ M L S k s)
  have Hup := Lib.hid (fun k hk => bdU_up M L S s k S hk)
  have H0 : Hid (bdU M L S 0 s = false) := Lib.hid rfl
  generalize sfC M L S = cs at *
  go_enter Try.func49, Try.ntmps49
  go_wp2
  go_loopw [11] (fun i wr => ∃ k : Nat, k ≤ S ∧ i = .int .i64 k ∧ Hid (bdU M L S k s = false) ∧ Blk wr g cs 77 ∧ Below w.heap.size w wr) (fun i _ => S - (intOf i).toNat)
  case atStart => exact ⟨0, by omega, rfl, H0, hB, Below.refl _ _⟩
  case round =>
    clear c1 hB hlt
    obtain ⟨k, hk, rfl, HK, hB, hbw⟩ := hrel
    by_cases hlt : k < S
    · have hki : (k : Int) < (S : Int) := by omega
      have HA1 := Lib.hid (HA.out k hlt wr hB)
      have Hsk := Lib.hid (Hs.out k)
      rw [HK.out, Bool.false_or] at Hsk
      cases ht : !trivB M L S (runL M k s.data.toList).1
      · rw [ht] at HA1 Hsk
        clear ht
        go_wp2_with (go_at_call 34; refine HA1.out.mono ?_; rintro e w1 ⟨rfl, hb1⟩)
        go_roundw
        case rel => exact ⟨k + 1, by omega, by go_num, Hsk, hB.keptAll hb1, below_step hbw hb1⟩
        case measure => simp [intOf] <;> omega
      · rw [ht] at HA1 Hsk
        clear ht
        have Hr := Lib.hid (Hup.out (k + 1) hlt Hsk.out)
        go_wp2_with (go_at_call 34; refine HA1.out.mono ?_; rintro e w1 ⟨rfl, hb1⟩)
        go_ret
        exact ⟨by rw [Hr.out]; rfl, below_step hbw hb1⟩
    · obtain rfl : k = S := by omega
      go_wp2
      go_ret
      exact ⟨by rw [HK.out]; rfl, hbw⟩

set_option maxRecDepth 100000 in
set_option maxHeartbeats 1000000 in
theorem retClos_calls (M : Mach) (L S : Nat) (hg : Good M L S) (g q ga gb : Nat) (hq : q < S) (s : ByteArray) (hs : s.size ≤ 40) (hl : lettersL L s.data.toList = true) (w : World) (hB : Blk w g (sfC M L S) 77) (hA : Blk w ga #[.pointer (some ⟨g, 0, none⟩)] 49) (hQ : Blk w gb #[.int .i64 (q : Int)] 2) :
    Calls Try.prog 47 #[.string s, .pointer (some ⟨ga, 0, none⟩), .pointer (some ⟨gb, 0, none⟩)] w fun e w' => e = .returned (.bool (retP M L S q s)) ∧ Below w.heap.size w w' := by
  have HR := Lib.hid (returns_calls M L S hg g q hq s hs hl w hB)
  have cA := hA.cell 0
  have cQ := hQ.cell 0
  simp at cA cQ
  go_enter Try.func47, Try.ntmps47
  go_wp2_with (go_at_call 48; refine HR.out.mono ?_; rintro e w1 ⟨rfl, hb1⟩)
  go_ret
  exact ⟨rfl, hb1⟩

set_option maxRecDepth 100000 in
set_option maxHeartbeats 4000000 in
theorem iReturnWords_calls (M : Mach) (hok : M.Ok) (q n : Int) (w : World) :
    Calls Try.prog 19 #[.agg (mc M), .int .i64 q, .int .i64 n] w fun e w' => ∃ v, e = .returned (.tuple #[v, .int .i64 (rwC M q n)]) ∧ OwnI w' w.heap.size v (rwR M q n) ∧ Below w.heap.size w w' := by
  have F1 : Hid (cut (mc M) 0 98 = mc M) := Lib.hid (cut_all _ _ (mc_size hok)); have F2 : Hid (0 + 98 ≤ (mc M).size) := Lib.hid (by rw [mc_size hok]; omega)
  have hB : Blk ((w.alloc (.cells (mc M) 28)).alloc (.cells #[.int .i64 q] 2)) w.heap.size (mc M) 28 := (Blk.new w _ _).alloc _
  have hQ : Blk ((w.alloc (.cells (mc M) 28)).alloc (.cells #[.int .i64 q] 2)) (w.heap.size + 1) #[.int .i64 q] 2 := Blk.new_at _ _ _ _ (by simp)
  have hbw0 : Below w.heap.size w ((w.alloc (.cells (mc M) 28)).alloc (.cells #[.int .i64 q] 2)) := by (repeat (first | exact Below.refl _ _ | refine below_drew' ?_ | refine below_drewN' ?_ _ | refine below_alloc' ?_ _ | refine below_set' ?_ (by (try simp); (try omega)) _ | refine below_step ?_ (by assumption)))
  have HI := Lib.hid (fun W => IsMachine_calls M hok W)
  have HQ := Lib.hid (fun W => isState_calls M q W)
  cases hm : isMach M
  · have Hc : Hid (rwC M q n = 1) := Lib.hid (by unfold rwC; rw [if_neg (by rw [hm]; simp)])
    have Hr : Hid (rwR M q n = []) := Lib.hid (by unfold rwR; rw [Hc.out]; rfl)
    rw [hm] at HI
    rw [Hr.out]
    go_enter Try.func19, Try.ntmps19
    go_wp2_with (first | (with_reducible show wpList _ _ _ _ _ _; refine wpList_load_blk rfl 28 (.tmp 3) rfl w.heap.size 0 rfl (mc M) _ (hB) 98 F2.out _ Try.underlying28 rfl size_mach ?_; rw [F1.out]) | (go_at_call 37; refine (HI.out _).mono ?_; rintro e w1 ⟨rfl, hb1⟩))
    go_ret2
    exact ⟨_, ret_li' Hc.out.symm, OwnI.nil _ _, below_step hbw0 hb1⟩
  · obtain ⟨L, S, hg⟩ := Good.of hok hm
    rw [hm] at HI
    have hcL := mc_L M
    rw [hg.hL] at hcL
    have HcL := Lib.hid hcL
    have HG := Lib.hid (fun W => isGraphLevel_lv L hg.L23 n W)
    rw [show (decide (0 ≤ n) && decide (n ≤ 7 - (L : Int))) = gLv M n by unfold gLv; rw [hg.hL]] at HG
    clear hcL
    by_cases hq : 0 ≤ q ∧ q < M.S
    · rw [show decide (0 ≤ q ∧ q < M.S) = true by simpa using hq] at HQ
      cases hl : gLv M n
      · have Hc : Hid (rwC M q n = 2) := Lib.hid (by unfold rwC; rw [if_pos hm, if_neg (by rw [hl]; simp)])
        have Hr : Hid (rwR M q n = []) := Lib.hid (by unfold rwR; rw [Hc.out]; rfl)
        rw [hl] at HG
        rw [Hr.out]
        clear hq hm hl
        have cQ := hQ.cell 0
        simp at cQ
        go_enter Try.func19, Try.ntmps19
        go_wp2_with (first | (with_reducible show wpList _ _ _ _ _ _; refine wpList_load_blk rfl 28 (.tmp 3) rfl w.heap.size 0 rfl (mc M) _ (by first | exact hB1 | exact hB) 98 F2.out _ Try.underlying28 rfl size_mach ?_; rw [F1.out]) | (go_at_call 37; refine (HI.out _).mono ?_; rintro e w1 ⟨rfl, hb1⟩; have hB1 := hB.keptAll hb1; have hQ1 := hQ.keptAll hb1; have cQ1 := hQ1.cell 0; simp at cQ1) | (go_at_call 38; refine (HQ.out _).mono ?_; rintro e w2 ⟨rfl, hb2⟩; have cM2 := (hB1.keptAll hb2).cell 0; rw [HcL.out] at cM2) | (go_at_call 45; refine (HG.out _).mono ?_; rintro e w' ⟨rfl, rfl⟩))
        go_ret2
        exact ⟨_, ret_li' Hc.out.symm, OwnI.nil _ _, below_step (below_step hbw0 hb1) hb2⟩
      · have hc : rwC M q n = 0 := by unfold rwC; rw [if_pos hm, if_pos ⟨hq, hl⟩]
        rw [hl] at HG
        obtain ⟨qn, rfl⟩ := Int.eq_ofNat_of_zero_le hq.1
        obtain ⟨nk, rfl, h7⟩ := gLv_nat hg hl
        have hqS : qn < S := by have := hg.hS; omega
        have Hc := Lib.hid hc
        have Hr := Lib.hid (rwR_good hg hc)
        have hL2 := hg.L2
        have Hwh := Lib.hid (nwF_whK (retP M L S qn) L nk hg.L23)
        have HN := Lib.hid (fun ga gb W hf => numbersWhereR_calls L nk hg.L23 (by omega) (retP M L S qn) ga gb W hf)
        have HR := Lib.hid (fun g ga gb s hs hl W h1 h2 h3 => retClos_calls M L S hg g qn ga gb hqS s hs hl W h1 h2 h3)
        rw [Hr.out, ← Hwh.out]
        clear hc hq hm hl
        go_enter Try.func19, Try.ntmps19
        go_wp2_with (first | (with_reducible show wpList _ _ _ _ _ _; refine wpList_load_blk rfl 28 (.tmp 3) rfl w.heap.size 0 rfl (mc M) _ (by first | exact hB2 | exact hB1 | exact hB) 98 F2.out _ Try.underlying28 rfl size_mach ?_; rw [F1.out]) | (go_at_call 37; refine (HI.out _).mono ?_; rintro e w1 ⟨rfl, hb1⟩; have hB1 := hB.keptAll hb1; have hQ1 := hQ.keptAll hb1; have cQ1 := hQ1.cell 0; simp at cQ1) | (go_at_call 38; refine (HQ.out _).mono ?_; rintro e w2 ⟨rfl, hb2⟩; have hB2 := hB1.keptAll hb2; have hQ2 := hQ1.keptAll hb2; have cM2 := hB2.cell 0; rw [HcL.out] at cM2) | (go_at_call 45; refine (HG.out _).mono ?_; rintro e w' ⟨rfl, rfl⟩) | (go_at_call 33; refine (sectionsOf_calls M L S hg _).mono ?_; rintro e w3 ⟨g, rfl, hge, hG3, hb3⟩; have hB3 := (hB2.keptAll hb3).alloc (.cells #[.pointer (some ⟨g, 0, none⟩)] 49); have hQ3 := (hQ2.keptAll hb3).alloc (.cells #[.pointer (some ⟨g, 0, none⟩)] 49); have hG4 := hG3.alloc (.cells #[.pointer (some ⟨g, 0, none⟩)] 49); have hP4 : Blk (w3.alloc (.cells #[.pointer (some ⟨g, 0, none⟩)] 49)) w3.heap.size #[.pointer (some ⟨g, 0, none⟩)] 49 := Blk.new _ _ _; have hbw4 := below_alloc' (below_step (below_step (below_step hbw0 hb1) hb2) hb3) (.cells #[.pointer (some ⟨g, 0, none⟩)] 49); have cM4 := hB3.cell 0; rw [HcL.out] at cM4) | (go_at_call 46; refine (HN.out _ _ _ (fun x W hbW hxn hxl => HR.out g w3.heap.size (w.heap.size + 1) x (by rw [size_list x]; omega) hxl W (hG4.keptAll hbW) (hP4.keptAll hbW) (hQ3.keptAll hbW))).mono ?_; rintro e w5 ⟨v5, rfl, hO5, hb5⟩))
        go_ret2
        exact ⟨_, ret_li' Hc.out.symm, hO5.base_le' (by have := hbw4.size; omega), below_step hbw4 hb5⟩
    · have Hc : Hid (rwC M q n = 2) := Lib.hid (by unfold rwC; rw [if_pos hm, if_neg (fun e => hq e.1)])
      have Hr : Hid (rwR M q n = []) := Lib.hid (by unfold rwR; rw [Hc.out]; rfl)
      rw [show decide (0 ≤ q ∧ q < M.S) = false by simpa using hq] at HQ
      rw [Hr.out]
      clear hq hm
      go_enter Try.func19, Try.ntmps19
      go_wp2_with (first | (with_reducible show wpList _ _ _ _ _ _; refine wpList_load_blk rfl 28 (.tmp 3) rfl w.heap.size 0 rfl (mc M) _ (by first | exact hB1 | exact hB) 98 F2.out _ Try.underlying28 rfl size_mach ?_; rw [F1.out]) | (go_at_call 37; refine (HI.out _).mono ?_; rintro e w1 ⟨rfl, hb1⟩; have hB1 := hB.keptAll hb1; have hQ1 := hQ.keptAll hb1; have cQ1 := hQ1.cell 0; simp at cQ1) | (go_at_call 38; refine (HQ.out _).mono ?_; rintro e w2 ⟨rfl, hb2⟩))
      go_ret2
      exact ⟨_, ret_li' Hc.out.symm, OwnI.nil _ _, below_step (below_step hbw0 hb1) hb2⟩
end Go.Proofs.Ytdbdoohcpcjfdaa
