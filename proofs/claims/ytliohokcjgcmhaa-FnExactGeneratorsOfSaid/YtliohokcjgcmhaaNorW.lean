/- The normal word, as plain data; a list of one's own is cut. -/
import Derived.Test.YtliohokcjgcmhaaTriG
import Derived.Test.YtliohokcjgcmhaaArgs
import Derived.Test.YtliohokcjgcmhaaLedM
import Derived.Test.YtliohokcjgcmhaaMinG
import Derived.Test.YtliohokcjgcmhaaGrpT
import Derived.Test.YtliohokcjgcmhaaMinT
import Derived.Test.YtliohokcjgcmhaaLedT
namespace Go.Proofs.Ytliohokcjgcmhaa
open Go.RowKit

/-- The last number is struck: the block stays. -/
theorem ownI_cut {w : World} {base g cap : Nat} {zs : List Int} {z : Int} (h : OwnI w base (.slice (some ⟨g, 0, none⟩) (zs ++ [z]).length cap) (zs ++ [z])) : OwnI w base (.slice (some ⟨g, 0, none⟩) zs.length cap) zs := by
  rcases h.2 with ⟨e, _⟩ | ⟨g', cap', cur, e, hb, hh, hn, hm, hs, ht⟩
  · cases e
  · simp only [Value.slice.injEq, Option.some.injEq, Addr.mk.injEq] at e
    obtain ⟨⟨rfl, _⟩, _, rfl⟩ := e
    refine ⟨by simp, .inr ⟨g, cap, cur, rfl, hb, hh, ?_, hm, hs, ?_⟩⟩
    · simp at hn; omega
    · have h2 := congrArg (List.take zs.length) ht
      rw [List.take_take] at h2
      simp only [Nat.mul_one, List.map_append, List.length_append, List.length_singleton] at h2
      rw [show min zs.length (zs.length + 1) = zs.length from by omega] at h2
      rw [Nat.mul_one, h2]
      rw [List.take_append_of_le_length (by simp), List.take_of_length_le (by simp)]
theorem ownI_cap {w : World} {base g n cap : Nat} {zs : List Int} (h : OwnI w base (.slice (some ⟨g, 0, none⟩) n cap) zs) : zs.length ≤ cap := by
  rcases h.2 with ⟨e, _⟩ | ⟨g', cap', cur, e, hb, hh, hn, _⟩
  · cases e
  · simp only [Value.slice.injEq] at e
    rw [e.2.2]; exact hn
/-- The number to which a number of a group word is brought: 0 where its state is trivial. -/
def bring (M : Mach) (L S : Nat) (z : Int) : Int :=
  if trivB M L S (stOf z) then 0 else if z < 0 then -((lst M L (S + 1) (stOf z) : Int) + 1) else (lst M L (S + 1) (stOf z) : Int) + 1
/-- One number more. -/
def joinN (acc : List Int) (k : Int) : List Int := if k = 0 then acc else if acc.getLast? = some (-k) then acc.dropLast else acc ++ [k]
def normK (M : Mach) (L S : Nat) (zs : List Int) (k : Nat) : List Int := (zs.take k).foldl (fun acc z => joinN acc (bring M L S z)) []
theorem normK_succ (M : Mach) (L S : Nat) (zs : List Int) (k : Nat) (hk : k < zs.length) : normK M L S zs (k + 1) = joinN (normK M L S zs k) (bring M L S zs[k]) := by
  unfold normK
  rw [List.take_succ_eq_append_getElem hk, List.foldl_append]
  rfl
theorem joinN_len (acc : List Int) (k : Int) : (joinN acc k).length ≤ acc.length + 1 := by
  unfold joinN
  split
  · omega
  · split
    · simp; omega
    · simp
theorem normK_len (M : Mach) (L S : Nat) (zs : List Int) : ∀ k, k ≤ zs.length → (normK M L S zs k).length ≤ k
  | 0, _ => by simp [normK]
  | k + 1, hk => by
    rw [normK_succ M L S zs k (by omega)]
    have h1 := joinN_len (normK M L S zs k) (bring M L S zs[k])
    have h2 := normK_len M L S zs k (by omega)
    omega
end Go.Proofs.Ytliohokcjgcmhaa

namespace Go.Proofs.Ytliohokcjgcmhaa
open Go.RowKit

/-- What stands for the state q: 0 where it is trivial, or one more than the least equal state. -/
def nrm (M : Mach) (L S q : Nat) : Int := if trivB M L S q then 0 else (lst M L (S + 1) q : Int) + 1
theorem bring_nrm (M : Mach) (L S : Nat) (z : Int) : bring M L S z = if z < 0 then -(nrm M L S (stOf z)) else nrm M L S (stOf z) := by
  unfold bring nrm
  split <;> split <;> simp
def nrmP (M : Mach) (L S k : Nat) : List Int := (List.range 16).map fun q => if q < k then nrm M L S q else 0
theorem nrmP_len (M : Mach) (L S k : Nat) : (nrmP M L S k).length = 16 := by simp [nrmP]
theorem nrmP_zero (M : Mach) (L S : Nat) : nrmP M L S 0 = List.replicate 16 0 := rfl
theorem nrmP_at (M : Mach) (L S k q : Nat) (hq : q < k) (hk : k ≤ 16) : (nrmP M L S k).getD q 0 = nrm M L S q := by
  unfold nrmP
  rw [List.getD, List.getElem?_map, List.getElem?_range (by omega)]
  simp [hq]
theorem nrmP_set (M : Mach) (L S k : Nat) (v : Int) (hv : v = nrm M L S k) : (nrmP M L S k).set k v = nrmP M L S (k + 1) := by
  subst hv
  apply List.ext_getElem
  · simp [nrmP]
  · intro i h1 h2
    simp only [nrmP, List.getElem_set, List.getElem_map, List.getElem_range]
    by_cases h : k = i
    · subst h; simp
    · rw [if_neg h]
      by_cases h3 : i < k
      · rw [if_pos h3, if_pos (by omega)]
      · rw [if_neg h3, if_neg (by omega)]
theorem nrmP_same (M : Mach) (L S k : Nat) (h : nrm M L S k = 0) : nrmP M L S (k + 1) = nrmP M L S k := by
  unfold nrmP
  refine List.map_congr_left fun q hq => ?_
  by_cases h1 : q = k
  · subst h1; simp [h]
  · by_cases h2 : q < k
    · rw [if_pos h2, if_pos (by omega)]
    · rw [if_neg h2, if_neg (by omega)]
theorem nrm_bd {M : Mach} {L S : Nat} (q : Nat) (hq : q < 16) : 0 ≤ nrm M L S q ∧ nrm M L S q ≤ 16 := by
  have := (lst_at M L (S + 1) q).1
  unfold nrm
  split <;> omega

/-- The least state of each number, one more, behind the first k states; 0 where there is none. -/
def leaAt (M : Mach) (L S k n : Nat) : Int := match (List.range k).find? (fun q => decide (numT M L S q = n)) with
  | some q => (q : Int) + 1
  | none => 0
def leaK (M : Mach) (L S k : Nat) : List Int := (List.range 16).map fun n => leaAt M L S k n
theorem leaK_len (M : Mach) (L S k : Nat) : (leaK M L S k).length = 16 := by simp [leaK]
theorem leaK_zero (M : Mach) (L S : Nat) : leaK M L S 0 = List.replicate 16 0 := rfl
theorem leaK_at (M : Mach) (L S k n : Nat) (hn : n < 16) : (leaK M L S k).getD n 0 = leaAt M L S k n := by
  unfold leaK
  rw [List.getD, List.getElem?_map, List.getElem?_range hn]
  rfl
theorem leaAt_succ (M : Mach) (L S k n : Nat) : leaAt M L S (k + 1) n = if leaAt M L S k n = 0 then (if numT M L S k = n then (k : Int) + 1 else 0) else leaAt M L S k n := by
  unfold leaAt
  rw [List.range_succ, List.find?_append]
  cases h : (List.range k).find? (fun q => decide (numT M L S q = n)) with
  | none =>
    by_cases h2 : numT M L S k = n
    · simp [h2]
    · simp [h2]
  | some q =>
    have h1 : ((q : Int) + 1 = 0) = False := by simp; omega
    simp only [Option.some_or, h1, if_false]
theorem leaAt_now (M : Mach) (L S k : Nat) : leaAt M L S (k + 1) (numT M L S k) = (lst M L (S + 1) k : Int) + 1 := by
  have hp : (fun q => decide (numT M L S q = numT M L S k)) = (fun r => eqB M L (S + 1) k r) := by
    funext r
    rw [Bool.eq_iff_iff, decide_eq_true_eq, numT_eqB]
    exact ⟨eqB_symm _ _ _ _ _, eqB_symm _ _ _ _ _⟩
  unfold leaAt lst
  rw [List.range_succ, List.find?_append, hp]
  cases h : (List.range k).find? (fun r => eqB M L (S + 1) k r) with
  | none => simp [eqB_refl]
  | some q => simp
/-- The number has been met: nothing changes. -/
theorem leaK_met {M : Mach} {L S k : Nat} (h : leaAt M L S k (numT M L S k) ≠ 0) : leaK M L S (k + 1) = leaK M L S k := by
  unfold leaK
  refine List.map_congr_left fun n _ => ?_
  rw [leaAt_succ]
  by_cases h1 : leaAt M L S k n = 0
  · rw [if_pos h1, if_neg (fun e => h (by rw [e]; exact h1)), h1]
  · rw [if_neg h1]
theorem leaK_new {M : Mach} {L S k : Nat} (h : leaAt M L S k (numT M L S k) = 0) : (leaK M L S k).set (numT M L S k) ((k : Int) + 1) = leaK M L S (k + 1) := by
  apply List.ext_getElem
  · simp [leaK]
  · intro i h1 h2
    simp only [leaK, List.getElem_set, List.getElem_map, List.getElem_range, leaAt_succ]
    by_cases e : numT M L S k = i
    · subst e; simp [h]
    · rw [if_neg e, if_neg e]
      split
      · rename_i h3; exact h3
      · rfl
/-- The normal word. -/
def normR (M : Mach) (zs : List Int) : List Int := if isGrp M zs then normK M M.L.toNat M.S.toNat zs zs.length else []
theorem normR_len (M : Mach) (zs : List Int) : (normR M zs).length ≤ 1048576 := by
  unfold normR
  split
  · rename_i h
    have h1 := normK_len M M.L.toNat M.S.toNat zs zs.length (Nat.le_refl _)
    have h2 := isGrp_len h
    omega
  · simp
end Go.Proofs.Ytliohokcjgcmhaa

namespace Go.Proofs.Ytliohokcjgcmhaa
open Go.RowKit

set_option maxRecDepth 100000 in
set_option maxHeartbeats 2000000 in
theorem normalNumbers_calls (M : Mach) (L S : Nat) (hg : Good M L S) (w : World) :
    Calls Try.prog 100 #[.agg (mc M)] w fun e w' => e = .returned (.agg (ints (nrmP M L S S))) ∧ Below w.heap.size w w' := by
  have hok := hg.ok
  have hS16 := hg.S16
  have hS1 := hg.S1
  have hL3 := hg.L3
  have hm := hg.isMach
  have hz := zero_mach
  have hz16 := zero_i16
  have HzS : Hid ((mc zeroM).size = 98) := Lib.hid (mc_size zeroM_ok)
  have Hz16 : Hid ((ints zer).size = 16) := Lib.hid (by rw [ints_size]; rfl)
  have hB0 : Blk ((w.alloc (.cells (mc M) 27)).alloc (.cells (ints zer) 92)) w.heap.size (mc M) 27 := (Blk.new w _ _).alloc _
  have hR0 : Blk ((w.alloc (.cells (mc M) 27)).alloc (.cells (ints zer) 92)) (w.heap.size + 1) (ints zer) 92 := Blk.new_at _ _ _ _ (by simp)
  have hbw0 : Below w.heap.size w ((w.alloc (.cells (mc M) 27)).alloc (.cells (ints zer) 92)) := by (repeat (first | exact Below.refl _ _ | refine below_drew' ?_ | refine below_drewN' ?_ _ | refine below_alloc' ?_ _ | refine below_set' ?_ (by (try simp); (try omega)) _ | refine below_step ?_ (by assumption)))
  have F1 : Hid (cut (mc M) 0 98 = mc M) := Lib.hid (cut_all _ _ (mc_size hok)); have F2 : Hid (0 + 98 ≤ (mc M).size) := Lib.hid (by rw [mc_size hok]; omega)
  have Hmok := Lib.hid (mnAll_up hg S (Nat.le_refl S)).1.ok
  have HL := Lib.hid (mnAll_up hg S (Nat.le_refl S)).1.hL
  have Hms := Lib.hid (mc_size Hmok.out)
  have Hmo : Hid (over (mc zeroM) 0 (mc (mnAll M L S S)) = mc (mnAll M L S S)) := Lib.hid (over_all _ _ (by rw [Hms.out, HzS.out]))
  have Hmc : Hid (cut (mc (mnAll M L S S)) 0 98 = mc (mnAll M L S S)) := Lib.hid (cut_all _ _ Hms.out)
  have hf1 := fun W => iMinimalMachine_calls M hok W
  rw [show minC M = 0 from by simp [minC, hm], show minR M = mnAll M L S S from by simp [minR, hm, hg.hL, hg.hS], show minN M = numsT M L S S from by simp [minN, hm, hg.hL, hg.hS]] at hf1
  have HF := Lib.hid hf1
  have Hst := Lib.hid (fun q hq => stay_triv hg q hq)
  clear hf1 hm hg
  go_enter Try.func100, Try.ntmps100
  go_wp2_with (first | (with_reducible show wpList _ _ _ _ _ _; refine wpList_load_blk rfl 27 (.tmp 1) rfl w.heap.size 0 rfl (mc M) _ (hB0) 98 F2.out _ Try.underlying27 rfl size_mach ?_; rw [F1.out]) | (go_at_call 150; refine (HF.out _).mono ?_; rintro e w1 ⟨v1, rfl, hv1, hb1⟩; have hR1 := (hR0.keptAll hb1).alloc (.cells (mc zeroM) 27); have hbw1 := below_alloc' (below_step hbw0 hb1) (.cells (mc zeroM) 27); have hX1 : Blk (w1.alloc (.cells (mc zeroM) 27)) w1.heap.size (mc zeroM) 27 := Blk.new _ _ _; have hlt1 := (hR0.keptAll hb1).lt; have hv2 := hv1.2; rw [numsT_len] at hv2; rcases hv2 with ⟨_, h0⟩ | ⟨g, cap, cur, rfl, hbg, hV1, hnn, hcap, hsz, htake⟩; omega; have hltV : g < w1.heap.size := Blk.lt hV1; have hVa := Blk.alloc hV1 (.cells (mc zeroM) 27); have hbg2 : w.heap.size + 1 < g := (by simp at hbg; omega)) | (with_reducible show wpList _ _ _ _ _ _; refine wpList_store_row rfl 27 _ _ rfl w1.heap.size 0 (mc (mnAll M L S S)) rfl rfl _ _ hX1 (by rw [Hms.out, HzS.out]; omega) (by rw [Hms.out]; exact size_mach) (mc_one _) _ Hmo.out ?_; intro w3 hs3; have hR3 := ((hs3.keep (by omega) hR1).alloc (.cells (ints zer) 92)).alloc (.cells (ints zer) 92); have hX3 := (hs3.blk.alloc (.cells (ints zer) 92)).alloc (.cells (ints zer) 92); have hlt3 := hs3.blk.lt; have hV3 := ((hs3.keep (by omega) hVa).alloc (.cells (ints zer) 92)).alloc (.cells (ints zer) 92); have hbw3 := below_alloc' (below_alloc' (hs3.below _ _ (by omega) hbw1) (.cells (ints zer) 92)) (.cells (ints zer) 92); have hE3 : Blk ((w3.alloc (.cells (ints zer) 92)).alloc (.cells (ints zer) 92)) w3.heap.size (ints zer) 92 := (Blk.new w3 _ _).alloc _; have hN3 : Blk ((w3.alloc (.cells (ints zer) 92)).alloc (.cells (ints zer) 92)) (w3.heap.size + 1) (ints zer) 92 := Blk.new_at _ _ _ _ (by simp); clear hX1 hbw1 hs3 hVa hR1 hB0))
  have hcur : ∀ k, k < S → cur[k]? = some (.int .i64 (numT M L S k : Int)) := fun k hk => by
    have := congrArg (fun l => l[k]?) htake
    simp only [List.getElem?_take, Nat.mul_one] at this
    rw [if_pos hk] at this
    rw [← Array.getElem?_toList, this]
    simp [numsT, hk]
  have Hcur := Lib.hid hcur
  have o1 : w.heap.size + 1 < w1.heap.size := hlt1
  clear hcur htake hsz hcap hnn hV1 hv1 hb1 hbw0 hR0 hbg hz hz16 hlt1
  generalize w1.heap.size = g1 at *
  generalize hb0 : w3.heap.size = b0 at *
  clear hb0
  generalize ((w3.alloc (.cells (ints zer) 92)).alloc (.cells (ints zer) 92)) = w4 at *
  go_loopw [18] (fun i wr => ∃ k : Nat, k ≤ S ∧ i = .int .i64 k ∧ Blk wr g1 (mc (mnAll M L S S)) 27 ∧ Blk wr g cur 2 ∧ Blk wr (w.heap.size + 1) (ints zer) 92 ∧ Blk wr b0 (ints (leaK M L S k)) 92 ∧ Blk wr (b0 + 1) (ints (nrmP M L S k)) 92 ∧ Below w.heap.size w wr) (fun i _ => S - (intOf i).toNat)
  case atStart => exact ⟨0, by omega, rfl, hX3, hV3, hR3, by rw [leaK_zero]; exact hE3, by rw [nrmP_zero]; exact hN3, hbw3⟩
  case round =>
    clear hX3 hV3 hR3 hE3 hN3 hbw3
    obtain ⟨k, hk, rfl, hX, hV, hR, hE, hN, hbw⟩ := hrel
    by_cases hlt : k < S
    · have hkS : (k : Int) < S := by omega
      have hk16 : (k : Int) < 16 := by omega
      have e1 := Hcur.out k hlt
      have hnk : numT M L S k ≤ k := num_le M L (S + 1) k
      have hll := (lst_at M L (S + 1) k).1
      have cV := hV.cell
      have HF1 := Lib.hid (fun W => staysTrivial_calls (mnAll M L S S) Hmok.out L HL.out hL3 (numT M L S k) (by omega) W)
      have e2 := ints_at (leaK M L S k) (numT M L S k) (by rw [leaK_len]; omega)
      rw [leaK_at M L S k _ (by omega)] at e2
      have e3 := ints_at (leaK M L S (k + 1)) (numT M L S k) (by rw [leaK_len]; omega)
      rw [leaK_at M L S (k + 1) _ (by omega), leaAt_now] at e3
      have e4 := ints_at (nrmP M L S k) k (by rw [nrmP_len]; omega)
      generalize (nrmP M L S k).getD k 0 = oldn at e4
      have cE := hE.cell
      have fE := hE.free
      have hnki : (numT M L S k : Int) < 16 := by omega
      cases ht : trivB M L S k
      · have Hs2 := Lib.hid ((Hst.out k hlt).trans ht)
        have Hsn := Lib.hid (nrmP_set M L S k ((lst M L (S + 1) k : Int) + 1) (by unfold nrm; rw [ht]; rfl))
        clear ht
        by_cases h0 : leaAt M L S k (numT M L S k) = 0
        · have Hnew := Lib.hid (leaK_new h0)
          rw [h0] at e2
          have hE1 := hE.set (numT M L S k) (.int .i64 ((k : Int) + 1))
          rw [← ints_set, Hnew.out] at hE1
          have hX1 := hX.setOther b0 (numT M L S k) (.int .i64 ((k : Int) + 1)) (by omega)
          have hV1 := hV.setOther b0 (numT M L S k) (.int .i64 ((k : Int) + 1)) (by omega)
          have hR1 := hR.setOther b0 (numT M L S k) (.int .i64 ((k : Int) + 1)) (by omega)
          have hN1 := hN.setOther b0 (numT M L S k) (.int .i64 ((k : Int) + 1)) (by omega)
          have hbw1 := below_set' (o := numT M L S k) hbw (b := b0) (by omega) (.int .i64 ((k : Int) + 1))
          clear h0 hX hR hN hbw Hnew
          generalize numT M L S k = nk at *
          generalize (lst M L (S + 1) k : Int) + 1 = lv at *
          go_wp2_with (first | (with_reducible show wpList _ _ _ _ _ _; refine wpList_load_blk rfl 27 (.tmp 3) rfl g1 0 rfl (mc (mnAll M L S S)) _ hX1 98 (by rw [Hms.out]; omega) _ Try.underlying27 rfl size_mach ?_; rw [Hmc.out]) | (go_at_call 151; refine (HF1.out _).mono ?_; rintro e w6 ⟨rfl, hb6⟩; rw [Hs2.out]; have hE6 := hE1.keptAll hb6; have hN6 := hN1.keptAll hb6; have cE6 := hE6.cell; have cN6 := hN6.cell; have fN6 := hN6.free))
          have hX6 := (hX1.keptAll hb6).setOther (b0 + 1) k (.int .i64 lv) (by omega)
          have hV6 := (hV1.keptAll hb6).setOther (b0 + 1) k (.int .i64 lv) (by omega)
          have hR6 := (hR1.keptAll hb6).setOther (b0 + 1) k (.int .i64 lv) (by omega)
          have hE7 := hE6.setOther (b0 + 1) k (.int .i64 lv) (by omega)
          have hN7 := hN6.set k (.int .i64 lv)
          rw [← ints_set, Hsn.out] at hN7
          have hbw7 := below_set' (o := k) (below_step hbw1 hb6) (b := b0 + 1) (by omega) (.int .i64 lv)
          go_roundw
          case rel => exact ⟨k + 1, by omega, by go_num, hX6, hV6, hR6, hE7, hN7, hbw7⟩
          case measure => simp [intOf] <;> omega
        · have Hmet := Lib.hid (leaK_met h0)
          have hb : (((lst M L (S + 1) k : Int) + 1) == 0) = false := by simp; omega
          rw [← Hmet.out] at hE
          clear h0 cE fE e2 Hmet
          have cE := hE.cell
          generalize numT M L S k = nk at *
          generalize (lst M L (S + 1) k : Int) + 1 = lv at *
          go_wp2_with (first | (with_reducible show wpList _ _ _ _ _ _; refine wpList_load_blk rfl 27 (.tmp 3) rfl g1 0 rfl (mc (mnAll M L S S)) _ hX 98 (by rw [Hms.out]; omega) _ Try.underlying27 rfl size_mach ?_; rw [Hmc.out]) | (go_at_call 151; refine (HF1.out _).mono ?_; rintro e w6 ⟨rfl, hb6⟩; rw [Hs2.out]; have hE6 := hE.keptAll hb6; have hN6 := hN.keptAll hb6; have cE6 := hE6.cell; have cN6 := hN6.cell; have fN6 := hN6.free))
          have hX6 := (hX.keptAll hb6).setOther (b0 + 1) k (.int .i64 lv) (by omega)
          have hV6 := (hV.keptAll hb6).setOther (b0 + 1) k (.int .i64 lv) (by omega)
          have hR6 := (hR.keptAll hb6).setOther (b0 + 1) k (.int .i64 lv) (by omega)
          have hE7 := hE6.setOther (b0 + 1) k (.int .i64 lv) (by omega)
          have hN7 := hN6.set k (.int .i64 lv)
          rw [← ints_set, Hsn.out] at hN7
          have hbw7 := below_set' (o := k) (below_step hbw hb6) (b := b0 + 1) (by omega) (.int .i64 lv)
          go_roundw
          case rel => exact ⟨k + 1, by omega, by go_num, hX6, hV6, hR6, hE7, hN7, hbw7⟩
          case measure => simp [intOf] <;> omega
      · have Hs2 := Lib.hid ((Hst.out k hlt).trans ht)
        have Hsn := Lib.hid (nrmP_same M L S k (by unfold nrm; rw [ht]; rfl))
        clear ht
        by_cases h0 : leaAt M L S k (numT M L S k) = 0
        · have Hnew := Lib.hid (leaK_new h0)
          rw [h0] at e2
          have hE1 := hE.set (numT M L S k) (.int .i64 ((k : Int) + 1))
          rw [← ints_set, Hnew.out] at hE1
          have hX1 := hX.setOther b0 (numT M L S k) (.int .i64 ((k : Int) + 1)) (by omega)
          have hV1 := hV.setOther b0 (numT M L S k) (.int .i64 ((k : Int) + 1)) (by omega)
          have hR1 := hR.setOther b0 (numT M L S k) (.int .i64 ((k : Int) + 1)) (by omega)
          have hN1 := hN.setOther b0 (numT M L S k) (.int .i64 ((k : Int) + 1)) (by omega)
          have hbw1 := below_set' (o := numT M L S k) hbw (b := b0) (by omega) (.int .i64 ((k : Int) + 1))
          clear h0 hX hR hN hbw Hnew
          generalize numT M L S k = nk at *
          go_wp2_with (first | (with_reducible show wpList _ _ _ _ _ _; refine wpList_load_blk rfl 27 (.tmp 3) rfl g1 0 rfl (mc (mnAll M L S S)) _ hX1 98 (by rw [Hms.out]; omega) _ Try.underlying27 rfl size_mach ?_; rw [Hmc.out]) | (go_at_call 151; refine (HF1.out _).mono ?_; rintro e w6 ⟨rfl, hb6⟩; rw [Hs2.out]))
          go_roundw
          case rel => exact ⟨k + 1, by omega, by go_num, hX1.keptAll hb6, hV1.keptAll hb6, hR1.keptAll hb6, hE1.keptAll hb6, by rw [Hsn.out]; exact hN1.keptAll hb6, below_step hbw1 hb6⟩
          case measure => simp [intOf] <;> omega
        · have Hmet := Lib.hid (leaK_met h0)
          have hb : (((lst M L (S + 1) k : Int) + 1) == 0) = false := by simp; omega
          rw [← Hmet.out] at hE
          clear h0 cE fE e2 Hmet
          have cE := hE.cell
          generalize numT M L S k = nk at *
          generalize (lst M L (S + 1) k : Int) + 1 = lv at *
          go_wp2_with (first | (with_reducible show wpList _ _ _ _ _ _; refine wpList_load_blk rfl 27 (.tmp 3) rfl g1 0 rfl (mc (mnAll M L S S)) _ hX 98 (by rw [Hms.out]; omega) _ Try.underlying27 rfl size_mach ?_; rw [Hmc.out]) | (go_at_call 151; refine (HF1.out _).mono ?_; rintro e w6 ⟨rfl, hb6⟩; rw [Hs2.out]))
          go_roundw
          case rel => exact ⟨k + 1, by omega, by go_num, hX.keptAll hb6, hV.keptAll hb6, hR.keptAll hb6, hE.keptAll hb6, by rw [Hsn.out]; exact hN.keptAll hb6, below_step hbw hb6⟩
          case measure => simp [intOf] <;> omega
    · obtain rfl : k = S := by omega
      have Hcs : Hid ((ints (nrmP M L k k)).size = 16) := Lib.hid (by rw [ints_size, nrmP_len])
      have Hcc : Hid (cut (ints (nrmP M L k k)) 0 16 = ints (nrmP M L k k)) := Lib.hid (cut_all _ _ Hcs.out)
      have Hov : Hid (over (ints zer) 0 (ints (nrmP M L k k)) = ints (nrmP M L k k)) := Lib.hid (over_all _ _ (by rw [Hcs.out, Hz16.out]))
      go_wp2_with (first | (with_reducible show wpList _ _ _ _ _ _; refine wpList_load_blk rfl 92 (.tmp 7) rfl (b0 + 1) 0 rfl (ints (nrmP M L k k)) _ hN 16 (by rw [Hcs.out]; omega) _ Try.underlying92 rfl size_i16 ?_; rw [Hcc.out]) | (with_reducible show wpList _ _ _ _ _ _; refine wpList_store_row rfl 92 (.tmp 2) (.tmp 41) rfl (w.heap.size + 1) 0 (ints (nrmP M L k k)) rfl rfl _ _ hR (by rw [Hz16.out, Hcs.out]; omega) (by rw [Hcs.out]; exact size_i16) (ints_one _) _ Hov.out ?_; intro w8 hs8))
      exact bodyPost_cell rfl rfl hs8.blk Try.underlying92 rfl (by rw [Hcs.out]; exact size_i16) rfl ⟨rfl, hs8.below _ _ (by omega) hbw⟩
end Go.Proofs.Ytliohokcjgcmhaa

namespace Go.Proofs.Ytliohokcjgcmhaa
open Go.RowKit

/-- The normal numbers lie somewhere in block b. -/
def SeesN (M : Mach) (L S : Nat) (w : World) (b o : Nat) : Prop := ∃ (c : Array Value) (T : TypeId), Blk w b c T ∧ ∀ q, q < 16 → c[o + q]? = some (.int .i64 ((nrmP M L S S).getD q 0))
theorem Blk.norm {M : Mach} {L S : Nat} {w : World} {b : Nat} (h : Blk w b (ints (nrmP M L S S)) 92) : SeesN M L S w b 0 := ⟨_, _, h, fun q hq => by rw [Nat.zero_add]; exact ints_at _ q (by rw [nrmP_len]; omega)⟩
theorem SeesN.lt {M : Mach} {L S : Nat} {w : World} {b o : Nat} (h : SeesN M L S w b o) : b < w.heap.size := by obtain ⟨c, T, hB, _⟩ := h; exact hB.lt
theorem SeesN.kept {M : Mach} {L S : Nat} {w w1 : World} {b o B : Nat} (h : SeesN M L S w b o) (hb : Below B w w1) (hlt : b < B) : SeesN M L S w1 b o := by obtain ⟨c, T, hB, hc⟩ := h; exact ⟨c, T, hB.kept hb hlt, hc⟩
theorem SeesN.at {M : Mach} {L S : Nat} {w : World} {b o : Nat} (h : SeesN M L S w b o) (q : Nat) (hq : q < 16) : w.cell? ⟨b, o + q, none⟩ = some (.int .i64 ((nrmP M L S S).getD q 0)) := by obtain ⟨c, T, hB, hc⟩ := h; rw [hB.cell, hc q hq]

set_option maxRecDepth 100000 in
set_option maxHeartbeats 1000000 in
theorem putBehind_calls (base : Nat) (v : Value) (acc : List Int) (z : Int) (hz : z ≠ 0) (hzb : -16 ≤ z ∧ z ≤ 16) (hlen : acc.length < 1048576) (w : World) (hO : OwnI w base v acc) (hge : base ≤ w.heap.size) :
    Calls Try.prog 165 #[v, .int .i64 z] w fun e w' => ∃ u, e = .returned u ∧ OwnI w' base u (joinN acc z) ∧ Below base w w' := by
  obtain ⟨ob, cb, rfl, hvc⟩ := hO.view
  have hba : Below base w (w.alloc (.cells #[.int .i64 z] 2)) := (Below.refl _ _).alloc hge _
  have hOa := hO.below (Below.alloc (Below.refl _ _) (Nat.le_refl _) (.cells #[.int .i64 z] 2))
  have Hz := Lib.hid hz
  clear hz
  by_cases hnil : acc.length = 0
  · have h0 := List.eq_nil_of_length_eq_zero hnil
    subst h0
    have Hj : Hid (joinN [] z = [] ++ [z]) := Lib.hid (by unfold joinN; rw [if_neg Hz.out, if_neg (by simp)])
    clear hvc hnil hO
    go_enter Try.func165, Try.ntmps165
    go_wp2_with (at_builtin; refine wpList_push_int rfl (.tmp 23) (.tmp 25) rfl base _ ([] : List Int) rfl hOa w.heap.size 1 z rfl (Blk.new w _ _) (by simp) (by simp; omega) ?_; intro v1 w7 hO1 hb7)
    go_ret
    exact ⟨_, rfl, by rw [Hj.out]; exact hO1, hba.trans hb7⟩
  · obtain ⟨ys, y, hys⟩ : ∃ ys y, acc = ys ++ [y] := ⟨acc.dropLast, acc.getLast (fun e => hnil (by rw [e]; rfl)), (List.dropLast_concat_getLast (fun e => hnil (by rw [e]; rfl))).symm⟩
    subst hys
    obtain ⟨gb, hgb, _, hvd⟩ := hvc (by omega)
    subst hgb
    have hcb := ownI_cap hO
    have hsl : (ys ++ [y]).length = ys.length + 1 := by simp
    have cL := hvd ys.length (by omega)
    rw [show (ys ++ [y])[ys.length]'(by omega) = y by simp] at cL
    have hO' : OwnI w base (.slice (some ⟨gb, 0, none⟩) ys.length cb) ys := ownI_cut (z := y) hO
    rw [hsl] at hOa hcb hlen
    have hpos : (0 : Int) ≤ (ys.length : Int) := by omega
    have hc1 : ys.length ≤ cb := by omega
    have hc2 : (ys.length : Int) ≤ cb := by omega
    have hyl : (ys.length : Int) < 1048576 := by omega
    have Hlen := Lib.hid hlen
    clear hvc hvd hnil hO hlen
    by_cases hy : y = -z
    · have hyb : (y == -z) = true := by simpa using hy
      have Hj : Hid (joinN (ys ++ [y]) z = ys) := Lib.hid (by unfold joinN; rw [if_neg Hz.out, if_pos (by simp [hy]), List.dropLast_concat])
      clear hy hOa hba
      rw [hsl]
      clear hsl
      go_enter Try.func165, Try.ntmps165
      go_wp2
      go_ret
      exact ⟨_, rfl, by rw [Hj.out]; exact hO', Below.refl _ _⟩
    · have hyb : (y == -z) = false := by simpa using hy
      have Hj : Hid (joinN (ys ++ [y]) z = (ys ++ [y]) ++ [z]) := Lib.hid (by unfold joinN; rw [if_neg Hz.out, if_neg (by simp; omega)])
      clear hy hO'
      rw [hsl]
      clear hsl
      go_enter Try.func165, Try.ntmps165
      go_wp2_with (at_builtin; refine wpList_push_int rfl (.tmp 23) (.tmp 25) rfl base _ (ys ++ [y]) rfl hOa w.heap.size 1 z rfl (Blk.new w _ _) (by rw [List.length_append, List.length_singleton]; have := Hlen.out; omega) (by simp; omega) ?_; intro v1 w7 hO1 hb7)
      go_ret
      exact ⟨_, rfl, by rw [Hj.out]; exact hO1, hba.trans hb7⟩

set_option maxRecDepth 100000 in
set_option maxHeartbeats 2000000 in
theorem normalWord_calls (M : Mach) (L S : Nat) (hg : Good M L S) (b o : Nat) (v : Value) (zs : List Int) (hz : ∀ z ∈ zs, numOk S z = true) (hn : zs.length ≤ 1048576) (w : World) (hN : SeesN M L S w b o) (hv : SeesI w v zs) :
    Calls Try.prog 126 #[.pointer (some ⟨b, o, none⟩), v] w fun e w' => ∃ u, e = .returned u ∧ OwnI w' w.heap.size u (normK M L S zs zs.length) ∧ Below w.heap.size w w' := by
  have hS16 := hg.S16
  obtain ⟨oa, ca, hve, _⟩ := hv.view
  subst hve
  have hltb := hN.lt
  have hO0 : OwnI w w.heap.size (.slice none 0 0) (normK M L S zs 0) := OwnI.nil _ _
  have hbw0 : Below w.heap.size w w := Below.refl _ _
  have Hv := Lib.hid hv; clear hv
  have HN := Lib.hid hN; clear hN
  have Hz := Lib.hid hz; clear hz
  clear hg
  go_enter Try.func126, Try.ntmps126
  go_wp2
  go_loopw [5, 10] (fun ov i wr => ∃ (k : Nat) (v0 : Value), k ≤ zs.length ∧ i = .int .i64 k ∧ v0 = ov ∧ OwnI wr w.heap.size v0 (normK M L S zs k) ∧ w.heap.size ≤ wr.heap.size ∧ Below w.heap.size w wr) (fun _ i _ => zs.length - (intOf i).toNat)
  case atStart => exact ⟨0, _, by omega, rfl, rfl, hO0, Nat.le_refl _, hbw0⟩
  case round =>
    clear hO0 hbw0
    obtain ⟨k, v0, hk, rfl, rfl, hO, hge, hbw⟩ := hrel
    by_cases hlt : k < zs.length
    · have hki : (k : Int) < zs.length := by omega
      have hok := Hz.out _ (List.getElem_mem hlt)
      obtain ⟨g, hg', _, c1⟩ := (Hv.out.below hbw).at k hlt
      subst hg'
      have Hsn := Lib.hid (normK_succ M L S zs k hlt)
      have hlen := normK_len M L S zs k (by omega)
      have hst := stOf_lt hok
      have hrange : zs[k] ≠ 0 ∧ -16 ≤ zs[k] ∧ zs[k] ≤ 16 := by have h := (numOk_iff _ _).1 hok; omega
      have cN := (HN.out.kept hbw hltb).at (stOf zs[k]) (by omega)
      rw [nrmP_at M L S S _ hst hS16] at cN
      have hbd := nrm_bd (M := M) (L := L) (S := S) (stOf zs[k]) (by omega)
      have HB := Lib.hid (bring_nrm M L S zs[k])
      have hsto : (stOf zs[k] : Int) = if 0 < zs[k] then zs[k] - 1 else -zs[k] - 1 := by
        have h1 := hrange.1
        unfold stOf
        split <;> omega
      generalize bring M L S zs[k] = kv at *
      generalize nrm M L S (stOf zs[k]) = nz at *
      generalize stOf zs[k] = st at *
      generalize zs[k] = z at *
      generalize normK M L S zs k = acc at *
      have hsti : (st : Int) < 16 := by omega
      clear hok
      by_cases hneg : 0 < z
      · have hidx : z - 1 = (st : Int) := by rw [if_pos hneg] at hsto; omega
        have Hk : Hid (kv = nz) := Lib.hid (by rw [HB.out, if_neg (by omega)])
        clear HB hsto
        by_cases hz0 : nz = 0
        · subst hz0
          have Hj : Hid (joinN acc kv = acc) := Lib.hid (by rw [Hk.out]; simp [joinN])
          go_wp2
          go_roundw
          case rel => exact ⟨k + 1, _, by omega, by go_num, rfl, by rw [Hsn.out, Hj.out]; exact hO, hge, hbw⟩
          case measure => simp [intOf] <;> omega
        · have hb0 : (nz != 0) = true := by simpa using hz0
          have HP := Lib.hid (putBehind_calls w.heap.size v0 acc nz hz0 (by omega) (by omega) _ hO hge)
          clear hz0
          go_wp2_with (go_at_call 165; refine HP.out.mono ?_; rintro e w1 ⟨u1, rfl, hO1, hb1⟩)
          have hs1 := hb1.size
          go_roundw
          case rel => exact ⟨k + 1, _, by omega, by go_num, rfl, by rw [Hsn.out, Hk.out]; exact hO1, by omega, hbw.trans hb1⟩
          case measure => simp [intOf] <;> omega
      · have hidx : -z - 1 = (st : Int) := by rw [if_neg hneg] at hsto; omega
        have hzl : z < 0 := by omega
        have Hk : Hid (kv = -nz) := Lib.hid (by rw [HB.out, if_pos hzl])
        clear HB hsto
        by_cases hz0 : nz = 0
        · subst hz0
          have Hj : Hid (joinN acc kv = acc) := Lib.hid (by rw [Hk.out]; simp [joinN])
          go_wp2
          go_roundw
          case rel => exact ⟨k + 1, _, by omega, by go_num, rfl, by rw [Hsn.out, Hj.out]; exact hO, hge, hbw⟩
          case measure => simp [intOf] <;> omega
        · have hb0 : (-nz != 0) = true := by simp; omega
          have HP := Lib.hid (putBehind_calls w.heap.size v0 acc (-nz) (by omega) (by omega) (by omega) _ hO hge)
          clear hz0
          go_wp2_with (go_at_call 165; refine HP.out.mono ?_; rintro e w1 ⟨u1, rfl, hO1, hb1⟩)
          have hs1 := hb1.size
          go_roundw
          case rel => exact ⟨k + 1, _, by omega, by go_num, rfl, by rw [Hsn.out, Hk.out]; exact hO1, by omega, hbw.trans hb1⟩
          case measure => simp [intOf] <;> omega
    · obtain rfl : k = zs.length := by omega
      go_wp2
      go_ret
      exact ⟨_, rfl, hO, hbw⟩
end Go.Proofs.Ytliohokcjgcmhaa
