/- The normal word, as plain data; a list of one's own is cut. -/
import Derived.Test.YtdbdoohcpcjfdaaTriG
import Derived.Test.YtdbdoohcpcjfdaaArgs
import Derived.Test.YtdbdoohcpcjfdaaLedM
import Derived.Test.YtdbdoohcpcjfdaaMinG
import Derived.Test.YtdbdoohcpcjfdaaGrpT
import Derived.Test.YtdbdoohcpcjfdaaMinT
import Derived.Test.YtdbdoohcpcjfdaaTriJ
import Derived.Test.YtdbdoohcpcjfdaaLedT
namespace Go.Proofs.Ytdbdoohcpcjfdaa
open Go.RowKit

/-- The last number is struck: the block stays. -/
theorem ownI_cut {w : World} {base g cap : Nat} {zs : List Int} {z : Int} (h : OwnI w base (.slice (some ⟨g, 0, none⟩) (zs ++ [z]).length cap) (zs ++ [z])) : OwnI w base (.slice (some ⟨g, 0, none⟩) zs.length cap) zs := by
  rcases h.2 with ⟨e, _⟩ | ⟨g', cap', cur, e, hb, hh, hn, hm, hs, ht⟩
  · cases e
  · simp only [Value.slice.injEq, Option.some.injEq, Addr.mk.injEq] at e
    obtain ⟨⟨rfl, _⟩, _, rfl⟩ := e
    refine ⟨by simp, .inr ⟨g, cap, cur, rfl, hb, hh, ?_, hm, hs, ?_⟩⟩
    · simp at hn; omega
    · have h2 := congrArg (List.take zs.length) ht
      rw [List.take_take] at h2
      simp only [Nat.mul_one, List.map_append, List.length_append, List.length_singleton] at h2
      rw [show min zs.length (zs.length + 1) = zs.length from by omega] at h2
      rw [Nat.mul_one, h2]
      rw [List.take_append_of_le_length (by simp), List.take_of_length_le (by simp)]
theorem ownI_cap {w : World} {base g n cap : Nat} {zs : List Int} (h : OwnI w base (.slice (some ⟨g, 0, none⟩) n cap) zs) : zs.length ≤ cap := by
  rcases h.2 with ⟨e, _⟩ | ⟨g', cap', cur, e, hb, hh, hn, _⟩
  · cases e
  · simp only [Value.slice.injEq] at e
    rw [e.2.2]; exact hn
/-- The number to which a number of a group word is brought: 0 where its state is trivial. -/
def bring (M : Mach) (L S : Nat) (z : Int) : Int :=
  if trivB M L S (stOf z) then 0 else if z < 0 then -((lst M L (S + 1) (stOf z) : Int) + 1) else (lst M L (S + 1) (stOf z) : Int) + 1
/-- One number more. -/
def joinN (acc : List Int) (k : Int) : List Int := if k = 0 then acc else if acc.getLast? = some (-k) then acc.dropLast else acc ++ [k]
def normK (M : Mach) (L S : Nat) (zs : List Int) (k : Nat) : List Int := (zs.take k).foldl (fun acc z => joinN acc (bring M L S z)) []
theorem normK_succ (M : Mach) (L S : Nat) (zs : List Int) (k : Nat) (hk : k < zs.length) : normK M L S zs (k + 1) = joinN (normK M L S zs k) (bring M L S zs[k]) := by
  unfold normK
  rw [List.take_succ_eq_append_getElem hk, List.foldl_append]
  rfl
theorem joinN_len (acc : List Int) (k : Int) : (joinN acc k).length ≤ acc.length + 1 := by
  unfold joinN
  split
  · omega
  · split
    · simp; omega
    · simp
theorem normK_len (M : Mach) (L S : Nat) (zs : List Int) : ∀ k, k ≤ zs.length → (normK M L S zs k).length ≤ k
  | 0, _ => by simp [normK]
  | k + 1, hk => by
    rw [normK_succ M L S zs k (by omega)]
    have h1 := joinN_len (normK M L S zs k) (bring M L S zs[k])
    have h2 := normK_len M L S zs k (by omega)
    omega
end Go.Proofs.Ytdbdoohcpcjfdaa

namespace Go.Proofs.Ytdbdoohcpcjfdaa
open Go.RowKit

/-- What stands for the state q: 0 where it is trivial, or one more than the least equal state. -/
def nrm (M : Mach) (L S q : Nat) : Int := if trivB M L S q then 0 else (lst M L (S + 1) q : Int) + 1
theorem bring_nrm (M : Mach) (L S : Nat) (z : Int) : bring M L S z = if z < 0 then -(nrm M L S (stOf z)) else nrm M L S (stOf z) := by
  unfold bring nrm
  split <;> split <;> simp
def nrmP (M : Mach) (L S k : Nat) : List Int := (List.range 16).map fun q => if q < k then nrm M L S q else 0
theorem nrmP_len (M : Mach) (L S k : Nat) : (nrmP M L S k).length = 16 := by simp [nrmP]
theorem nrmP_zero (M : Mach) (L S : Nat) : nrmP M L S 0 = List.replicate 16 0 := rfl
theorem nrmP_at (M : Mach) (L S k q : Nat) (hq : q < k) (hk : k ≤ 16) : (nrmP M L S k).getD q 0 = nrm M L S q := by
  unfold nrmP
  rw [List.getD, List.getElem?_map, List.getElem?_range (by omega)]
  simp [hq]
theorem nrmP_set (M : Mach) (L S k : Nat) (v : Int) (hv : v = nrm M L S k) : (nrmP M L S k).set k v = nrmP M L S (k + 1) := by
  subst hv
  apply List.ext_getElem
  · simp [nrmP]
  · intro i h1 h2
    simp only [nrmP, List.getElem_set, List.getElem_map, List.getElem_range]
    by_cases h : k = i
    · subst h; simp
    · rw [if_neg h]
      by_cases h3 : i < k
      · rw [if_pos h3, if_pos (by omega)]
      · rw [if_neg h3, if_neg (by omega)]
theorem nrmP_same (M : Mach) (L S k : Nat) (h : nrm M L S k = 0) : nrmP M L S (k + 1) = nrmP M L S k := by
  unfold nrmP
  refine List.map_congr_left fun q hq => ?_
  by_cases h1 : q = k
  · subst h1; simp [h]
  · by_cases h2 : q < k
    · rw [if_pos h2, if_pos (by omega)]
    · rw [if_neg h2, if_neg (by omega)]
theorem nrm_bd {M : Mach} {L S : Nat} (q : Nat) (hq : q < 16) : 0 ≤ nrm M L S q ∧ nrm M L S q ≤ 16 := by
  have := (lst_at M L (S + 1) q).1
  unfold nrm
  split <;> omega

/-- The least state of each number, one more, behind the first k states; 0 where there is none. -/
def leaAt (M : Mach) (L S k n : Nat) : Int := match (List.range k).find? (fun q => decide (numT M L S q = n)) with
  | some q => (q : Int) + 1
  | none => 0
def leaK (M : Mach) (L S k : Nat) : List Int := (List.range 16).map fun n => leaAt M L S k n
theorem leaK_len (M : Mach) (L S k : Nat) : (leaK M L S k).length = 16 := by simp [leaK]
theorem leaK_zero (M : Mach) (L S : Nat) : leaK M L S 0 = List.replicate 16 0 := rfl
theorem leaK_at (M : Mach) (L S k n : Nat) (hn : n < 16) : (leaK M L S k).getD n 0 = leaAt M L S k n := by
  unfold leaK
  rw [List.getD, List.getElem?_map, List.getElem?_range hn]
  rfl
theorem leaAt_succ (M : Mach) (L S k n : Nat) : leaAt M L S (k + 1) n = if leaAt M L S k n = 0 then (if numT M L S k = n then (k : Int) + 1 else 0) else leaAt M L S k n := by
  unfold leaAt
  rw [List.range_succ, List.find?_append]
  cases h : (List.range k).find? (fun q => decide (numT M L S q = n)) with
  | none =>
    by_cases h2 : numT M L S k = n
    · simp [h2]
    · simp [h2]
  | some q =>
    have h1 : ((q : Int) + 1 = 0) = False := by simp; omega
    simp only [Option.some_or, h1, if_false]
theorem leaAt_now (M : Mach) (L S k : Nat) : leaAt M L S (k + 1) (numT M L S k) = (lst M L (S + 1) k : Int) + 1 := by
  have hp : (fun q => decide (numT M L S q = numT M L S k)) = (fun r => eqB M L (S + 1) k r) := by
    funext r
    rw [Bool.eq_iff_iff, decide_eq_true_eq, numT_eqB]
    exact ⟨eqB_symm _ _ _ _ _, eqB_symm _ _ _ _ _⟩
  unfold leaAt lst
  rw [List.range_succ, List.find?_append, hp]
  cases h : (List.range k).find? (fun r => eqB M L (S + 1) k r) with
  | none => simp [eqB_refl]
  | some q => simp
/-- The number has been met: nothing changes. -/
theorem leaK_met {M : Mach} {L S k : Nat} (h : leaAt M L S k (numT M L S k) ≠ 0) : leaK M L S (k + 1) = leaK M L S k := by
  unfold leaK
  refine List.map_congr_left fun n _ => ?_
  rw [leaAt_succ]
  by_cases h1 : leaAt M L S k n = 0
  · rw [if_pos h1, if_neg (fun e => h (by rw [e]; exact h1)), h1]
  · rw [if_neg h1]
theorem leaK_new {M : Mach} {L S k : Nat} (h : leaAt M L S k (numT M L S k) = 0) : (leaK M L S k).set (numT M L S k) ((k : Int) + 1) = leaK M L S (k + 1) := by
  apply List.ext_getElem
  · simp [leaK]
  · intro i h1 h2
    simp only [leaK, List.getElem_set, List.getElem_map, List.getElem_range, leaAt_succ]
    by_cases e : numT M L S k = i
    · subst e; simp [h]
    · rw [if_neg e, if_neg e]
      split
      · rename_i h3; exact h3
      · rfl
/-- The normal word. -/
def normR (M : Mach) (zs : List Int) : List Int := if isGrp M zs then normK M M.L.toNat M.S.toNat zs zs.length else []
theorem normR_len (M : Mach) (zs : List Int) : (normR M zs).length ≤ 1048576 := by
  unfold normR
  split
  · rename_i h
    have h1 := normK_len M M.L.toNat M.S.toNat zs zs.length (Nat.le_refl _)
    have h2 := isGrp_len h
    omega
  · simp
end Go.Proofs.Ytdbdoohcpcjfdaa

namespace Go.Proofs.Ytdbdoohcpcjfdaa
open Go.RowKit

set_option maxRecDepth 100000 in
set_option maxHeartbeats 2000000 in
theorem normalNumbers_calls (M : Mach) (L S : Nat) (hg : Good M L S) (w : World) :
    Calls Try.prog 39 #[.agg (mc M)] w fun e w' => e = .returned (.agg (ints (nrmP M L S S))) ∧ Below w.heap.size w w' := by
  have hok := hg.ok
  have hS16 := hg.S16
  have hS1 := hg.S1
  have hL3 := hg.L3
  have hm := hg.isMach
  have hz := zero_mach
  have hz16 := zero_i16
  have HzS : Hid ((mc zeroM).size = 98) := Lib.hid (mc_size zeroM_ok)
  have Hz16 : Hid ((ints zer).size = 16) := Lib.hid (by rw [ints_size]; rfl)
  have hB0 : Blk ((w.alloc (.cells (mc M) 28)).alloc (.cells (ints zer) 54)) w.heap.size (mc M) 28 := (Blk.new w _ _).alloc _
  have hR0 : Blk ((w.alloc (.cells (mc M) 28)).alloc (.cells (ints zer) 54)) (w.heap.size + 1) (ints zer) 54 := Blk.new_at _ _ _ _ (by simp)
  have hbw0 : Below w.heap.size w ((w.alloc (.cells (mc M) 28)).alloc (.cells (ints zer) 54)) := by (repeat (first | exact Below.refl _ _ | refine below_drew' ?_ | refine below_drewN' ?_ _ | refine below_alloc' ?_ _ | refine below_set' ?_ (by (try simp); (try omega)) _ | refine below_step ?_ (by assumption)))
  have F1 : Hid (cut (mc M) 0 98 = mc M) := Lib.hid (cut_all _ _ (mc_size hok)); have F2 : Hid (0 + 98 ≤ (mc M).size) := Lib.hid (by rw [mc_size hok]; omega)
  have Hmok := Lib.hid (mnAll_up hg S (Nat.le_refl S)).1.ok
  have HL := Lib.hid (mnAll_up hg S (Nat.le_refl S)).1.hL
  have Hms := Lib.hid (mc_size Hmok.out)
  have Hmo : Hid (over (mc zeroM) 0 (mc (mnAll M L S S)) = mc (mnAll M L S S)) := Lib.hid (over_all _ _ (by rw [Hms.out, HzS.out]))
  have Hmc : Hid (cut (mc (mnAll M L S S)) 0 98 = mc (mnAll M L S S)) := Lib.hid (cut_all _ _ Hms.out)
  have hf1 := fun W => iMinimalMachine_calls M hok W
  rw [show minC M = 0 from by simp [minC, hm], show minR M = mnAll M L S S from by simp [minR, hm, hg.hL, hg.hS], show minN M = numsT M L S S from by simp [minN, hm, hg.hL, hg.hS]] at hf1
  have HF := Lib.hid hf1
  have Hst := Lib.hid (fun q hq => stay_triv hg q hq)
  clear hf1 hm hg
  go_enter Try.func39, Try.ntmps39
  go_wp2_with (first | (with_reducible show wpList _ _ _ _ _ _; refine wpList_load_blk rfl 28 (.tmp 1) rfl w.heap.size 0 rfl (mc M) _ (hB0) 98 F2.out _ Try.underlying28 rfl size_mach ?_; rw [F1.out]) | (go_at_call 52; refine (HF.out _).mono ?_; rintro e w1 ⟨v1, rfl, hv1, hb1⟩; have hR1 := (hR0.keptAll hb1).alloc (.cells (mc zeroM) 28); have hbw1 := below_alloc' (below_step hbw0 hb1) (.cells (mc zeroM) 28); have hX1 : Blk (w1.alloc (.cells (mc zeroM) 28)) w1.heap.size (mc zeroM) 28 := Blk.new _ _ _; have hlt1 := (hR0.keptAll hb1).lt; have hv2 := hv1.2; rw [numsT_len] at hv2; rcases hv2 with ⟨_, h0⟩ | ⟨g, cap, cur, rfl, hbg, hV1, hnn, hcap, hsz, htake⟩; omega; have hltV : g < w1.heap.size := Blk.lt hV1; have hVa := Blk.alloc hV1 (.cells (mc zeroM) 28); have hbg2 : w.heap.size + 1 < g := (by simp at hbg; omega)) | (with_reducible show wpList _ _ _ _ _ _; refine wpList_store_row rfl 28 _ _ rfl w1.heap.size 0 (mc (mnAll M L S S)) rfl rfl _ _ hX1 (by rw [Hms.out, HzS.out]; omega) (by rw [Hms.out]; exact size_mach) (mc_one _) _ Hmo.out ?_; intro w3 hs3; have hR3 := ((hs3.keep (by omega) hR1).alloc (.cells (ints zer) 54)).alloc (.cells (ints zer) 54); have hX3 := (hs3.blk.alloc (.cells (ints zer) 54)).alloc (.cells (ints zer) 54); have hlt3 := hs3.blk.lt; have hV3 := ((hs3.keep (by omega) hVa).alloc (.cells (ints zer) 54)).alloc (.cells (ints zer) 54); have hbw3 := below_alloc' (below_alloc' (hs3.below _ _ (by omega) hbw1) (.cells (ints zer) 54)) (.cells (ints zer) 54); have hE3 : Blk ((w3.alloc (.cells (ints zer) 54)).alloc (.cells (ints zer) 54)) w3.heap.size (ints zer) 54 := (Blk.new w3 _ _).alloc _; have hN3 : Blk ((w3.alloc (.cells (ints zer) 54)).alloc (.cells (ints zer) 54)) (w3.heap.size + 1) (ints zer) 54 := Blk.new_at _ _ _ _ (by simp); clear hX1 hbw1 hs3 hVa hR1 hB0))
  have hcur : ∀ k, k < S → cur[k]? = some (.int .i64 (numT M L S k : Int)) := fun k hk => by
    have := congrArg (fun l => l[k]?) htake
    simp only [List.getElem?_take, Nat.mul_one] at this
    rw [if_pos hk] at this
    rw [← Array.getElem?_toList, this]
    simp [numsT, hk]
  have Hcur := Lib.hid hcur
  have o1 : w.heap.size + 1 < w1.heap.size := hlt1
  clear hcur htake hsz hcap hnn hV1 hv1 hb1 hbw0 hR0 hbg hz hz16 hlt1
  generalize w1.heap.size = g1 at *
  generalize hb0 : w3.heap.size = b0 at *
  clear hb0
  generalize ((w3.alloc (.cells (ints zer) 54)).alloc (.cells (ints zer) 54)) = w4 at *
  go_loopw [18] (fun i wr => ∃ k : Nat, k ≤ S ∧ i = .int .i64 k ∧ Blk wr g1 (mc (mnAll M L S S)) 28 ∧ Blk wr g cur 2 ∧ Blk wr (w.heap.size + 1) (ints zer) 54 ∧ Blk wr b0 (ints (leaK M L S k)) 54 ∧ Blk wr (b0 + 1) (ints (nrmP M L S k)) 54 ∧ Below w.heap.size w wr) (fun i _ => S - (intOf i).toNat)
  case atStart => exact ⟨0, by omega, rfl, hX3, hV3, hR3, by rw [leaK_zero]; exact hE3, by rw [nrmP_zero]; exact hN3, hbw3⟩
  case round =>
    clear hX3 hV3 hR3 hE3 hN3 hbw3
    obtain ⟨k, hk, rfl, hX, hV, hR, hE, hN, hbw⟩ := hrel
    by_cases hlt : k < S
    · have hkS : (k : Int) < S := by omega
      have hk16 : (k : Int) < 16 := by omega
      have e1 := Hcur.out k hlt
      have hnk : numT M L S k ≤ k := num_le M L (S + 1) k
      have hll := (lst_at M L (S + 1) k).1
      have cV := hV.cell
      have HF1 := Lib.hid (fun W => staysTrivial_calls (mnAll M L S S) Hmok.out L HL.out hL3 (numT M L S k) (by omega) W)
      have e2 := ints_at (leaK M L S k) (numT M L S k) (by rw [leaK_len]; omega)
      rw [leaK_at M L S k _ (by omega)] at e2
      have e3 := ints_at (leaK M L S (k + 1)) (numT M L S k) (by rw [leaK_len]; omega)
      rw [leaK_at M L S (k + 1) _ (by omega), leaAt_now] at e3
      have e4 := ints_at (nrmP M L S k) k (by rw [nrmP_len]; omega)
      generalize (nrmP M L S k).getD k 0 = oldn at e4
      have cE := hE.cell
      have fE := hE.free
      have hnki : (numT M L S k : Int) < 16 := by omega
      cases ht : trivB M L S k
      · have Hs2 := Lib.hid ((Hst.out k hlt).trans ht)
        have Hsn := Lib.hid (nrmP_set M L S k ((lst M L (S + 1) k : Int) + 1) (by unfold nrm; rw [ht]; rfl))
        clear ht
        by_cases h0 : leaAt M L S k (numT M L S k) = 0
        · have Hnew := Lib.hid (leaK_new h0)
          rw [h0] at e2
          have hE1 := hE.set (numT M L S k) (.int .i64 ((k : Int) + 1))
          rw [← ints_set, Hnew.out] at hE1
          have hX1 := hX.setOther b0 (numT M L S k) (.int .i64 ((k : Int) + 1)) (by omega)
          have hV1 := hV.setOther b0 (numT M L S k) (.int .i64 ((k : Int) + 1)) (by omega)
          have hR1 := hR.setOther b0 (numT M L S k) (.int .i64 ((k : Int) + 1)) (by omega)
          have hN1 := hN.setOther b0 (numT M L S k) (.int .i64 ((k : Int) + 1)) (by omega)
          have hbw1 := below_set' (o := numT M L S k) hbw (b := b0) (by omega) (.int .i64 ((k : Int) + 1))
          clear h0 hX hR hN hbw Hnew
          generalize numT M L S k = nk at *
          generalize (lst M L (S + 1) k : Int) + 1 = lv at *
          go_wp2_with (first | (with_reducible show wpList _ _ _ _ _ _; refine wpList_load_blk rfl 28 (.tmp 3) rfl g1 0 rfl (mc (mnAll M L S S)) _ hX1 98 (by rw [Hms.out]; omega) _ Try.underlying28 rfl size_mach ?_; rw [Hmc.out]) | (go_at_call 63; refine (HF1.out _).mono ?_; rintro e w6 ⟨rfl, hb6⟩; rw [Hs2.out]; have hE6 := hE1.keptAll hb6; have hN6 := hN1.keptAll hb6; have cE6 := hE6.cell; have cN6 := hN6.cell; have fN6 := hN6.free))
          have hX6 := (hX1.keptAll hb6).setOther (b0 + 1) k (.int .i64 lv) (by omega)
          have hV6 := (hV1.keptAll hb6).setOther (b0 + 1) k (.int .i64 lv) (by omega)
          have hR6 := (hR1.keptAll hb6).setOther (b0 + 1) k (.int .i64 lv) (by omega)
          have hE7 := hE6.setOther (b0 + 1) k (.int .i64 lv) (by omega)
          have hN7 := hN6.set k (.int .i64 lv)
          rw [← ints_set, Hsn.out] at hN7
          have hbw7 := below_set' (o := k) (below_step hbw1 hb6) (b := b0 + 1) (by omega) (.int .i64 lv)
          go_roundw
          case rel => exact ⟨k + 1, by omega, by go_num, hX6, hV6, hR6, hE7, hN7, hbw7⟩
          case measure => simp [intOf] <;> omega
        · have Hmet := Lib.hid (leaK_met h0)
          have hb : (((lst M L (S + 1) k : Int) + 1) == 0) = false := by simp; omega
          rw [← Hmet.out] at hE
          clear h0 cE fE e2 Hmet
          have cE := hE.cell
          generalize numT M L S k = nk at *
          generalize (lst M L (S + 1) k : Int) + 1 = lv at *
          go_wp2_with (first | (with_reducible show wpList _ _ _ _ _ _; refine wpList_load_blk rfl 28 (.tmp 3) rfl g1 0 rfl (mc (mnAll M L S S)) _ hX 98 (by rw [Hms.out]; omega) _ Try.underlying28 rfl size_mach ?_; rw [Hmc.out]) | (go_at_call 63; refine (HF1.out _).mono ?_; rintro e w6 ⟨rfl, hb6⟩; rw [Hs2.out]; have hE6 := hE.keptAll hb6; have hN6 := hN.keptAll hb6; have cE6 := hE6.cell; have cN6 := hN6.cell; have fN6 := hN6.free))
          have hX6 := (hX.keptAll hb6).setOther (b0 + 1) k (.int .i64 lv) (by omega)
          have hV6 := (hV.keptAll hb6).setOther (b0 + 1) k (.int .i64 lv) (by omega)
          have hR6 := (hR.keptAll hb6).setOther (b0 + 1) k (.int .i64 lv) (by omega)
          have hE7 := hE6.setOther (b0 + 1) k (.int .i64 lv) (by omega)
          have hN7 := hN6.set k (.int .i64 lv)
          rw [← ints_set, Hsn.out] at hN7
          have hbw7 := below_set' (o := k) (below_step hbw hb6) (b := b0 + 1) (by omega) (.int .i64 lv)
          go_roundw
          case rel => exact ⟨k + 1, by omega, by go_num, hX6, hV6, hR6, hE7, hN7, hbw7⟩
          case measure => simp [intOf] <;> omega
      · have Hs2 := Lib.hid ((Hst.out k hlt).trans ht)
        have Hsn := Lib.hid (nrmP_same M L S k (by unfold nrm; rw [ht]; rfl))
        clear ht
        by_cases h0 : leaAt M L S k (numT M L S k) = 0
        · have Hnew := Lib.hid (leaK_new h0)
          rw [h0] at e2
          have hE1 := hE.set (numT M L S k) (.int .i64 ((k : Int) + 1))
          rw [← ints_set, Hnew.out] at hE1
          have hX1 := hX.setOther b0 (numT M L S k) (.int .i64 ((k : Int) + 1)) (by omega)
          have hV1 := hV.setOther b0 (numT M L S k) (.int .i64 ((k : Int) + 1)) (by omega)
          have hR1 := hR.setOther b0 (numT M L S k) (.int .i64 ((k : Int) + 1)) (by omega)
          have hN1 := hN.setOther b0 (numT M L S k) (.int .i64 ((k : Int) + 1)) (by omega)
          have hbw1 := below_set' (o := numT M L S k) hbw (b := b0) (by omega) (.int .i64 ((k : Int) + 1))
          clear h0 hX hR hN hbw Hnew
          generalize numT M L S k = nk at *
          go_wp2_with (first | (with_reducible show wpList _ _ _ _ _ _; refine wpList_load_blk rfl 28 (.tmp 3) rfl g1 0 rfl (mc (mnAll M L S S)) _ hX1 98 (by rw [Hms.out]; omega) _ Try.underlying28 rfl size_mach ?_; rw [Hmc.out]) | (go_at_call 63; refine (HF1.out _).mono ?_; rintro e w6 ⟨rfl, hb6⟩; rw [Hs2.out]))
          go_roundw
          case rel => exact ⟨k + 1, by omega, by go_num, hX1.keptAll hb6, hV1.keptAll hb6, hR1.keptAll hb6, hE1.keptAll hb6, by rw [Hsn.out]; exact hN1.keptAll hb6, below_step hbw1 hb6⟩
          case measure => simp [intOf] <;> omega
        · have Hmet := Lib.hid (leaK_met h0)
          have hb : (((lst M L (S + 1) k : Int) + 1) == 0) = false := by simp; omega
          rw [← Hmet.out] at hE
          clear h0 cE fE e2 Hmet
          have cE := hE.cell
          generalize numT M L S k = nk at *
          generalize (lst M L (S + 1) k : Int) + 1 = lv at *
          go_wp2_with (first | (with_reducible show wpList _ _ _ _ _ _; refine wpList_load_blk rfl 28 (.tmp 3) rfl g1 0 rfl (mc (mnAll M L S S)) _ hX 98 (by rw [Hms.out]; omega) _ Try.underlying28 rfl size_mach ?_; rw [Hmc.out]) | (go_at_call 63; refine (HF1.out _).mono ?_; rintro e w6 ⟨rfl, hb6⟩; rw [Hs2.out]))
          go_roundw
          case rel => exact ⟨k + 1, by omega, by go_num, hX.keptAll hb6, hV.keptAll hb6, hR.keptAll hb6, hE.keptAll hb6, by rw [Hsn.out]; exact hN.keptAll hb6, below_step hbw hb6⟩
          case measure => simp [intOf] <;> omega
    · obtain rfl : k = S := by omega
      have Hcs : Hid ((ints (nrmP M L k k)).size = 16) := Lib.hid (by rw [ints_size, nrmP_len])
      have Hcc : Hid (cut (ints (nrmP M L k k)) 0 16 = ints (nrmP M L k k)) := Lib.hid (cut_all _ _ Hcs.out)
      have Hov : Hid (over (ints zer) 0 (ints (nrmP M L k k)) = ints (nrmP M L k k)) := Lib.hid (over_all _ _ (by rw [Hcs.out, Hz16.out]))
      go_wp2_with (first | (with_reducible show wpList _ _ _ _ _ _; refine wpList_load_blk rfl 54 (.tmp 7) rfl (b0 + 1) 0 rfl (ints (nrmP M L k k)) _ hN 16 (by rw [Hcs.out]; omega) _ Try.underlying54 rfl size_i16 ?_; rw [Hcc.out]) | (with_reducible show wpList _ _ _ _ _ _; refine wpList_store_row rfl 54 (.tmp 2) (.tmp 41) rfl (w.heap.size + 1) 0 (ints (nrmP M L k k)) rfl rfl _ _ hR (by rw [Hz16.out, Hcs.out]; omega) (by rw [Hcs.out]; exact size_i16) (ints_one _) _ Hov.out ?_; intro w8 hs8))
      exact bodyPost_cell rfl rfl hs8.blk Try.underlying54 rfl (by rw [Hcs.out]; exact size_i16) rfl ⟨rfl, hs8.below _ _ (by omega) hbw⟩
end Go.Proofs.Ytdbdoohcpcjfdaa

namespace Go.Proofs.Ytdbdoohcpcjfdaa
open Go.RowKit

/-- The normal numbers lie somewhere in block b. -/
def SeesN (M : Mach) (L S : Nat) (w : World) (b o : Nat) : Prop := ∃ (c : Array Value) (T : TypeId), Blk w b c T ∧ ∀ q, q < 16 → c[o + q]? = some (.int .i64 ((nrmP M L S S).getD q 0))
theorem Blk.norm {M : Mach} {L S : Nat} {w : World} {b : Nat} (h : Blk w b (ints (nrmP M L S S)) 54) : SeesN M L S w b 0 := ⟨_, _, h, fun q hq => by rw [Nat.zero_add]; exact ints_at _ q (by rw [nrmP_len]; omega)⟩
theorem SeesN.lt {M : Mach} {L S : Nat} {w : World} {b o : Nat} (h : SeesN M L S w b o) : b < w.heap.size := by obtain ⟨c, T, hB, _⟩ := h; exact hB.lt
theorem SeesN.kept {M : Mach} {L S : Nat} {w w1 : World} {b o B : Nat} (h : SeesN M L S w b o) (hb : Below B w w1) (hlt : b < B) : SeesN M L S w1 b o := by obtain ⟨c, T, hB, hc⟩ := h; exact ⟨c, T, hB.kept hb hlt, hc⟩
theorem SeesN.at {M : Mach} {L S : Nat} {w : World} {b o : Nat} (h : SeesN M L S w b o) (q : Nat) (hq : q < 16) : w.cell? ⟨b, o + q, none⟩ = some (.int .i64 ((nrmP M L S S).getD q 0)) := by obtain ⟨c, T, hB, hc⟩ := h; rw [hB.cell, hc q hq]

end Go.Proofs.Ytdbdoohcpcjfdaa
