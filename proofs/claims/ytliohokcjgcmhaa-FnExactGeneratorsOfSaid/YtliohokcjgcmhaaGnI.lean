/- 'GeneratorsOf': plain data; the program. -/
import Derived.Test.YtliohokcjgcmhaaSeaF
import Derived.Test.YtliohokcjgcmhaaMachD
namespace Go.Proofs.Ytliohokcjgcmhaa
open Go.RowKit

theorem index_i16G (c : List Int) (k : Nat) (hk : k < 16) (hl : c.length = 16) (W : World) : (Instr.index 92 (.agg (ints c)) (.int .i64 (k : Int))).run Try.prog W = .ok (.int .i64 (c.getD k 0)) W := by
  have h : Try.prog.underlying 92 = some (.array 16 2) := Try.underlying92
  have e1 := ints_at c k (by omega)
  simp [Instr.index, run_underlying h, asIntOf, hk, go_sem]
  rw [e1]
  simp
/-- Whether the square of a state is trivial, and the code of the search. -/
def gnR (M : Mach) (L S q : Nat) : Bool × Int := resT M L S 201 0 [nf M L S [(q : Int) + 1, (q : Int) + 1]]
def isGen (M : Mach) (L S q : Nat) : Bool := !trivB M L S q && decide (lst M L (S + 1) q = q)
/-- The generators of the first k states, and the code. -/
def gnT (M : Mach) (L S : Nat) : Nat → List Int × Int
  | 0 => ([], 0)
  | k + 1 => if (gnT M L S k).2 ≠ 0 then gnT M L S k else if isGen M L S k then (if (gnR M L S k).2 ≠ 0 then ([], (gnR M L S k).2) else ((gnT M L S k).1 ++ ((k : Int) + 1) :: (if (gnR M L S k).1 then [] else [-((k : Int) + 1)]), 0)) else gnT M L S k
theorem gnT_stay {M : Mach} {L S k : Nat} (h : (gnT M L S k).2 ≠ 0) : ∀ d, gnT M L S (k + d) = gnT M L S k
  | 0 => rfl
  | d + 1 => by
    have ih := gnT_stay h d
    show gnT M L S (k + d + 1) = _
    rw [gnT, ih, if_pos h]
theorem gnT_skip {M : Mach} {L S k : Nat} (h : isGen M L S k = false) : gnT M L S (k + 1) = gnT M L S k := by
  rw [gnT, h]
  split <;> simp
theorem gnT_err {M : Mach} {L S k : Nat} (h : (gnT M L S k).2 = 0) (hg : isGen M L S k = true) (hc : (gnR M L S k).2 ≠ 0) : gnT M L S (k + 1) = ([], (gnR M L S k).2) := by
  rw [gnT, if_neg (by simp [h]), if_pos hg, if_pos hc]
theorem gnT_ok {M : Mach} {L S k : Nat} (h : (gnT M L S k).2 = 0) (hg : isGen M L S k = true) (hc : (gnR M L S k).2 = 0) : gnT M L S (k + 1) = ((gnT M L S k).1 ++ ((k : Int) + 1) :: (if (gnR M L S k).1 then [] else [-((k : Int) + 1)]), 0) := by
  rw [gnT, if_neg (by simp [h]), if_pos hg, if_neg (by simp [hc])]
theorem gnT_len (M : Mach) (L S : Nat) : ∀ k, (gnT M L S k).1.length ≤ 2 * k
  | 0 => by simp [gnT]
  | k + 1 => by
    have ih := gnT_len M L S k
    rw [gnT]
    split
    · omega
    · split
      · split
        · simp
        · split <;> simp <;> omega
      · omega
theorem gn_err {M : Mach} {L S k m : Nat} (h : (gnT M L S k).2 = 0) (hg : isGen M L S k = true) (hc : (gnR M L S k).2 ≠ 0) (hk : k < m) : gnT M L S m = ([], (gnR M L S k).2) := by
  obtain ⟨d, rfl⟩ := Nat.exists_eq_add_of_le (show k + 1 ≤ m by omega)
  have e := gnT_err h hg hc
  rw [gnT_stay (by rw [e]; exact hc) d, e]
theorem nrm_gen {M : Mach} {L S q : Nat} : (nrm M L S q = (q : Int) + 1) ↔ isGen M L S q = true := by
  unfold nrm isGen
  cases trivB M L S q
  · simp; omega
  · simp; omega
theorem nrm_out (M : Mach) (L S k : Nat) (hk : ¬ k < S) : (nrmP M L S S).getD k 0 = 0 := by
  unfold nrmP
  rw [List.getD]
  cases h : ((List.range 16).map fun q => if q < S then nrm M L S q else 0)[k]? with
  | none => rfl
  | some z =>
    obtain ⟨h1, h2⟩ := List.getElem?_eq_some_iff.1 h
    simp only [List.getElem_map, List.getElem_range] at h2
    rw [if_neg hk] at h2
    rw [← h2]; rfl
def gnL (M : Mach) : List Int := if isMach M then (gnT M M.L.toNat M.S.toNat M.S.toNat).1 else []
def gnC (M : Mach) : Int := if isMach M then (gnT M M.L.toNat M.S.toNat M.S.toNat).2 else 1
theorem gn_good {M : Mach} {L S : Nat} (hg : Good M L S) (h : isMach M = true) : gnL M = (gnT M L S S).1 ∧ gnC M = (gnT M L S S).2 := by
  unfold gnL gnC
  rw [if_pos h, if_pos h, hg.hL, hg.hS]
  exact ⟨rfl, rfl⟩
theorem gn_bad {M : Mach} (h : isMach M = false) : gnL M = [] ∧ gnC M = 1 := by
  unfold gnL gnC; rw [h]; exact ⟨rfl, rfl⟩
theorem gnL_len {M : Mach} (hok : M.Ok) : (gnL M).length ≤ 1048576 := by
  cases h : isMach M
  · rw [(gn_bad h).1]; simp
  · obtain ⟨L, S, hg⟩ := Good.of hok h
    rw [(gn_good hg h).1]
    have := gnT_len M L S S
    have := hg.S16
    omega
theorem one_grp {M : Mach} {L S q : Nat} (hg : Good M L S) (h : isMach M = true) (hq : q < S) : isGrp M [(q : Int) + 1] = true ∧ isGrp M [-((q : Int) + 1)] = true := by
  have h1 : ∀ k : Int, (k = (q : Int) + 1 ∨ k = -((q : Int) + 1)) → isGrp M [k] = true := fun k hk => by
    unfold isGrp grpOk
    rw [h, hg.hS]
    simp only [List.length_singleton, numsOk, List.all_cons, List.all_nil, Bool.and_true, Bool.true_and]
    rw [show numOk (S : Int) k = true from (numOk_iff _ _).2 (by omega)]
    rfl
  exact ⟨h1 _ (.inl rfl), h1 _ (.inr rfl)⟩
theorem sameW_gen {M : Mach} {L S q : Nat} (hg : Good M L S) (h : isMach M = true) (hq : q < S) : sameW M [(q : Int) + 1] [-((q : Int) + 1)] = gnR M L S q := by
  have h1 := one_grp hg h hq
  rw [sameW_good hg (by unfold two; rw [h1.1, h1.2]; rfl)]
  unfold gnR
  rw [show [(q : Int) + 1] ++ turnI [-((q : Int) + 1)] = [(q : Int) + 1, (q : Int) + 1] by simp [turnI]]
theorem sees_one {w : World} {g : Nat} {k : Int} (h : Blk w g #[.int .i64 k] 2) : SeesI w (.slice (some ⟨g, 0, none⟩) 1 1) [k] := (OwnI.made (base := 0) (zs := [k]) rfl (by unfold maxLen; show 1 ≤ _; omega) (Nat.zero_le _) h).sees

set_option maxRecDepth 100000 in
set_option maxHeartbeats 2000000 in
theorem iGeneratorsOf_calls (M : Mach) (hok : M.Ok) (w : World) :
    Calls Try.prog 45 #[.agg (mc M)] w fun e w' => ∃ v, e = .returned (.tuple #[v, .int .i64 (gnC M)]) ∧ OwnI w' w.heap.size v (gnL M) ∧ Below w.heap.size w w' := by
  have F1 : Hid (cut (mc M) 0 98 = mc M) := Lib.hid (cut_all _ _ (mc_size hok)); have F2 : Hid (0 + 98 ≤ (mc M).size) := Lib.hid (by rw [mc_size hok]; omega)
  have hB : Blk (w.alloc (.cells (mc M) 27)) w.heap.size (mc M) 27 := Blk.new w _ _
  have hbw0 : Below w.heap.size w (w.alloc (.cells (mc M) 27)) := by (repeat (first | exact Below.refl _ _ | refine below_drew' ?_ | refine below_drewN' ?_ _ | refine below_alloc' ?_ _ | refine below_set' ?_ (by (try simp); (try omega)) _ | refine below_step ?_ (by assumption)))
  have HI := Lib.hid (fun W => IsMachine_calls M hok W)
  cases hm : isMach M
  · have Hr := Lib.hid (gn_bad hm)
    rw [hm] at HI
    rw [Hr.out.1, Hr.out.2]
    clear hm
    go_enter Try.func45, Try.ntmps45
    go_wp2_with (first | (with_reducible show wpList _ _ _ _ _ _; refine wpList_load_blk rfl 27 (.tmp 1) rfl w.heap.size 0 rfl (mc M) _ (hB) 98 F2.out _ Try.underlying27 rfl size_mach ?_; rw [F1.out]) | (go_at_call 73; refine (HI.out _).mono ?_; rintro e w1 ⟨rfl, hb1⟩))
    go_ret2
    exact ⟨_, rfl, World.ownsRow_nil _ _ _ _, below_step hbw0 hb1⟩
  · obtain ⟨L, S, hg⟩ := Good.of hok hm
    have hS16 := hg.S16
    have Hr := Lib.hid (gn_good hg hm)
    rw [hm] at HI
    rw [Hr.out.1, Hr.out.2]
    have HNn := Lib.hid (fun W => normalNumbers_calls M L S hg W)
    have Hlen : Hid ((nrmP M L S S).length = 16) := Lib.hid (nrmP_len M L S S)
    have Hix := Lib.hid (fun k hk W => index_i16G (nrmP M L S S) k hk Hlen.out W)
    have Hat := Lib.hid (fun q (hq : q < S) => nrmP_at M L S S q hq hg.S16)
    have HE := Lib.hid (fun q (hq : q < S) v1 v2 W h1 h2 => by
      have := iAreEqualWords_calls M hok v1 [(q : Int) + 1] v2 [-((q : Int) + 1)] W h1 h2
      rwa [sameW_gen hg hm hq] at this)
    clear Hr hg hm
    have Hnz := Lib.hid (fun (k : Nat) (hk : ¬ k < S) => nrm_out M L S k hk)
    generalize nrmP M L S S = np at *
    generalize hnpa : ints np = npa at *
    clear hnpa
    go_enter Try.func45, Try.ntmps45
    go_wp2_with (first | (with_reducible show wpList _ _ _ _ _ _; refine wpList_load_blk rfl 27 (.tmp 1) rfl w.heap.size 0 rfl (mc M) _ (by first | exact hB1 | exact hB) 98 F2.out _ Try.underlying27 rfl size_mach ?_; rw [F1.out]) | (go_at_call 73; refine (HI.out _).mono ?_; rintro e w1 ⟨rfl, hb1⟩; have hB1 := hB.keptAll hb1; have hbw1 := below_step hbw0 hb1; clear hB hbw0 hb1) | (go_at_call 100; refine (HNn.out _).mono ?_; rintro e w2 ⟨rfl, hb2⟩; have hB2 := hB1.keptAll hb2; have hbw2 := below_step hbw1 hb2; clear hB1 hbw1 hb2))
    have hO2 : OwnI w2 (w.heap.size + 1) (.slice none 0 0) (gnT M L S (min 0 S)).1 := by rw [Nat.zero_min]; exact World.ownsRow_nil _ _ _ _
    have H00 : Hid ((gnT M L S (min 0 S)).2 = 0) := Lib.hid (by rw [Nat.zero_min]; rfl)
    go_loopw [4, 15] (fun gv i wr => ∃ (k : Nat) (v : Value), k ≤ 16 ∧ i = .int .i64 k ∧ v = gv ∧ OwnI wr (w.heap.size + 1) v (gnT M L S (min k S)).1 ∧ Hid ((gnT M L S (min k S)).2 = 0) ∧ Blk wr w.heap.size (mc M) 27 ∧ Below w.heap.size w wr) (fun _ i _ => 16 - (intOf i).toNat)
    case atStart => exact ⟨0, _, by omega, rfl, rfl, hO2, H00, hB2, hbw2⟩
    case round =>
      clear hO2 H00 hB2 hbw2
      obtain ⟨k, v, hk, rfl, rfl, hO, Hc, hB, hbw⟩ := hrel
      by_cases hlt : k < 16
      · have hki : (k : Int) < 16 := by omega
        have hix := Hix.out k hlt
        by_cases hkS : k < S
        · rw [Hat.out k hkS] at hix
          have Hmin : Hid (min k S = k ∧ min (k + 1) S = k + 1) := Lib.hid ⟨by omega, by omega⟩
          rw [Hmin.out.1] at hO Hc
          have Hgen := Lib.hid (nrm_gen (M := M) (L := L) (S := S) (q := k))
          have Hskip := Lib.hid (gnT_skip (M := M) (L := L) (S := S) (k := k))
          generalize nrm M L S k = nk at *
          cases hig : isGen M L S k
          · have hne : (nk != (k : Int) + 1) = true := by
              rw [bne_iff_ne]
              intro e
              have := Hgen.out.1 e
              rw [hig] at this
              cases this
            have Hs := Lib.hid (Hskip.out hig)
            clear hig
            go_wp2
            go_roundw
            case rel => exact ⟨k + 1, _, by omega, by go_num, rfl, by rw [Hmin.out.2, Hs.out]; exact hO, by rw [Hmin.out.2, Hs.out]; exact Hc, hB, hbw⟩
            case measure => simp [intOf] <;> omega
          · have hne : (nk != (k : Int) + 1) = false := by rw [Hgen.out.2 hig]; simp
            have h1 : Blk ((wr.alloc (.cells #[.int .i64 ((k : Int) + 1)] 2)).alloc (.cells #[.int .i64 (-((k : Int) + 1))] 2)) wr.heap.size #[.int .i64 ((k : Int) + 1)] 2 := (Blk.new wr _ _).alloc _
            have h2 : Blk ((wr.alloc (.cells #[.int .i64 ((k : Int) + 1)] 2)).alloc (.cells #[.int .i64 (-((k : Int) + 1))] 2)) (wr.heap.size + 1) #[.int .i64 (-((k : Int) + 1))] 2 := Blk.new_at _ _ _ _ (by simp)
            have HEk := Lib.hid (HE.out k hkS _ _ _ (sees_one h1) (sees_one h2))
            have Herr := Lib.hid (fun h => gn_err (m := S) Hc.out hig h hkS)
            have Hok := Lib.hid (fun h => gnT_ok Hc.out hig h)
            have Hlen := Lib.hid (gnT_len M L S k)
            have hal : Below wr.heap.size wr ((wr.alloc (.cells #[.int .i64 ((k : Int) + 1)] 2)).alloc (.cells #[.int .i64 (-((k : Int) + 1))] 2)) := by (repeat (first | exact Below.refl _ _ | refine below_drew' ?_ | refine below_drewN' ?_ _ | refine below_alloc' ?_ _ | refine below_set' ?_ (by (try simp); (try omega)) _ | refine below_step ?_ (by assumption)))
            have hbw1 := below_step hbw hal
            have hB1 := hB.keptAll hal
            have hO1 := hO.below hal
            have hs1 := hal.size
            have hlB := hB.lt
            obtain ⟨tb, tc, hr⟩ : ∃ tb tc, gnR M L S k = (tb, tc) := ⟨_, _, rfl⟩
            rw [hr] at HEk Herr Hok
            clear hig hr h1 h2 hO Hgen Hskip
            generalize (gnT M L S k).1 = gl at *
            by_cases hc : tc = 0
            · have hcb : (tc != 0) = false := by rw [hc]; rfl
              have Hn := Lib.hid (Hok.out hc)
              clear hc Herr Hok
              cases tb
              · have Hn2 : Hid (gnT M L S (k + 1) = ((gl ++ [(k : Int) + 1]) ++ [-((k : Int) + 1)], 0)) := Lib.hid (by rw [Hn.out]; simp)
                go_wp2_with (first | (with_reducible show wpList _ _ _ _ _ _; refine wpList_load_blk rfl 27 (.tmp 1) rfl w.heap.size 0 rfl (mc M) _ (by first | exact hB) 98 F2.out _ Try.underlying27 rfl size_mach ?_; rw [F1.out]) | (go_at_call 101; refine HEk.out.mono ?_; rintro e w3 ⟨rfl, hb3⟩; have hs3 := hb3.size; have hal3 : Below w3.heap.size w3 (w3.alloc (.cells #[.int .i64 ((k : Int) + 1)] 2)) := (by (repeat (first | exact Below.refl _ _ | refine below_drew' ?_ | refine below_drewN' ?_ _ | refine below_alloc' ?_ _ | refine below_set' ?_ (by (try simp); (try omega)) _ | refine below_step ?_ (by assumption)))); have hsa3 := hal3.size; have hO4 := (hO1.below hb3).below hal3; have hB4 := (hB1.keptAll hb3).keptAll hal3; have hbw4 := below_step (below_step hbw1 hb3) hal3) | (at_builtin; refine wpList_push_int rfl (.tmp 37) (.tmp 39) rfl (w.heap.size + 1) _ gl rfl hO4 w3.heap.size 1 ((k : Int) + 1) rfl (Blk.new w3 _ _) (by have := Hlen.out; omega) (by omega) ?_; intro v5 w5 hO5 hb5; have hs5 := hb5.size; have hal5 : Below w5.heap.size w5 (w5.alloc (.cells #[.int .i64 (-((k : Int) + 1))] 2)) := (by (repeat (first | exact Below.refl _ _ | refine below_drew' ?_ | refine below_drewN' ?_ _ | refine below_alloc' ?_ _ | refine below_set' ?_ (by (try simp); (try omega)) _ | refine below_step ?_ (by assumption)))); have hsa5 := hal5.size; have hO6 := hO5.below hal5; have hB6 := (hB4.kept hb5 (by omega)).keptAll hal5; have hbw6 := below_step (hbw4.trans (below_le hb5 (by omega))) hal5) | (at_builtin; refine wpList_push_int rfl (.tmp 43) (.tmp 46) rfl (w.heap.size + 1) _ (gl ++ [(k : Int) + 1]) rfl hO6 w5.heap.size 1 (-((k : Int) + 1)) rfl (Blk.new w5 _ _) (by have := Hlen.out; simp; omega) (by omega) ?_; intro v7 w7 hO7 hb7))
                go_roundw
                case rel => exact ⟨k + 1, _, by omega, by go_num, rfl, by rw [Hmin.out.2, Hn2.out]; exact hO7, by rw [Hmin.out.2, Hn2.out]; exact Lib.hid rfl, hB6.kept hb7 (by omega), hbw6.trans (below_le hb7 (by omega))⟩
                case measure => simp [intOf] <;> omega
              · have Hn2 : Hid (gnT M L S (k + 1) = (gl ++ [(k : Int) + 1], 0)) := Lib.hid (by rw [Hn.out]; simp)
                go_wp2_with (first | (with_reducible show wpList _ _ _ _ _ _; refine wpList_load_blk rfl 27 (.tmp 1) rfl w.heap.size 0 rfl (mc M) _ (by first | exact hB) 98 F2.out _ Try.underlying27 rfl size_mach ?_; rw [F1.out]) | (go_at_call 101; refine HEk.out.mono ?_; rintro e w3 ⟨rfl, hb3⟩; have hs3 := hb3.size; have hal3 : Below w3.heap.size w3 (w3.alloc (.cells #[.int .i64 ((k : Int) + 1)] 2)) := (by (repeat (first | exact Below.refl _ _ | refine below_drew' ?_ | refine below_drewN' ?_ _ | refine below_alloc' ?_ _ | refine below_set' ?_ (by (try simp); (try omega)) _ | refine below_step ?_ (by assumption)))); have hsa3 := hal3.size; have hO4 := (hO1.below hb3).below hal3; have hB4 := (hB1.keptAll hb3).keptAll hal3; have hbw4 := below_step (below_step hbw1 hb3) hal3) | (at_builtin; refine wpList_push_int rfl (.tmp 37) (.tmp 39) rfl (w.heap.size + 1) _ gl rfl hO4 w3.heap.size 1 ((k : Int) + 1) rfl (Blk.new w3 _ _) (by have := Hlen.out; omega) (by omega) ?_; intro v5 w5 hO5 hb5))
                go_roundw
                case rel => exact ⟨k + 1, _, by omega, by go_num, rfl, by rw [Hmin.out.2, Hn2.out]; exact hO5, by rw [Hmin.out.2, Hn2.out]; exact Lib.hid rfl, hB4.kept hb5 (by omega), hbw4.trans (below_le hb5 (by omega))⟩
                case measure => simp [intOf] <;> omega
            · have hcb : (tc != 0) = true := by simpa using hc
              have He := Lib.hid (Herr.out hc)
              clear hc Herr Hok
              go_wp2_with (first | (with_reducible show wpList _ _ _ _ _ _; refine wpList_load_blk rfl 27 (.tmp 1) rfl w.heap.size 0 rfl (mc M) _ (by first | exact hB) 98 F2.out _ Try.underlying27 rfl size_mach ?_; rw [F1.out]) | (go_at_call 101; refine HEk.out.mono ?_; rintro e w3 ⟨rfl, hb3⟩))
              go_ret2
              rw [He.out]
              exact ⟨_, rfl, World.ownsRow_nil _ _ _ _, below_step hbw1 hb3⟩
        · rw [Hnz.out k hkS] at hix
          have hne : ((0 : Int) != (k : Int) + 1) = true := by simp; omega
          have Hmin : Hid (min (k + 1) S = min k S) := Lib.hid (by omega)
          go_wp2
          go_roundw
          case rel => exact ⟨k + 1, _, by omega, by go_num, rfl, by rw [Hmin.out]; exact hO, by rw [Hmin.out]; exact Hc, hB, hbw⟩
          case measure => simp [intOf] <;> omega
      · obtain rfl : k = 16 := by omega
        have Hm : Hid (min 16 S = S) := Lib.hid (by omega)
        rw [Hm.out] at hO Hc
        go_wp2
        go_ret2
        rw [Hc.out]
        exact ⟨_, rfl, hO.base_le (by omega), hbw⟩
end Go.Proofs.Ytliohokcjgcmhaa
