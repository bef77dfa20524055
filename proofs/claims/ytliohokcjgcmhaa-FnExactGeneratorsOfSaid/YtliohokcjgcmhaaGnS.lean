/- 'GeneratorsOf': the model. Written by gen/gns.py. -/
import Derived.Test.YtliohokcjgcmhaaGnI
import Derived.Test.YtliohokcjgcmhaaSeaU
namespace Go.Proofs.Ytliohokcjgcmhaa
open Go.RowKit
attribute [local go_sem] sel_true sel_false

theorem sees_two {w : World} {g : Nat} {j k : Int} (h : Blk w g #[.int .i64 j, .int .i64 k] 2) : SeesI w (.slice (some ⟨g, 0, none⟩) 2 2) [j, k] := (OwnI.made (base := 0) (zs := [j, k]) rfl (by unfold maxLen; show 2 ≤ _; omega) (Nat.zero_le _) h).sees
def GnV (M : Mach) (Lt S : Nat) (w : World) (L : Nat → Bool) (a : Act) (W : World) : Prop :=
  ∃ (l : List Bool) (g4 g5 g14 : Nat), a = { tmps := #[.agg (mc M), .pointer (some ⟨w.heap.size, 0, none⟩), .slice none 0 0, .int .i64 0, sel (L 5) (.pointer (some ⟨g4, 0, none⟩)), sel (L 6) (.pointer (some ⟨g5, 0, none⟩)), sel (L 9) (.slice (some ⟨g14, 0, none⟩) 0 0), undef, undef, undef, sel (L 0) (.agg (mc M)), sel (L 1) (.agg (ints (clsS M Lt S (S + 1)))), sel (L 2) (.agg (mc M)), sel (L 3) (.agg (bl l)), sel (L 4) (.slice (some ⟨g14, 0, none⟩) 0 0), undef, undef, undef, undef, undef, undef, undef, undef, undef, undef, undef, undef, undef, undef, undef, undef, undef, undef, undef, undef, undef, undef, undef, undef, undef, undef, undef, undef, undef, undef, undef, undef, undef, undef, undef, undef, undef, undef, undef, undef, undef, undef, undef], defers := [] } ∧ (Blk W w.heap.size (mc M) 27 ∧ Below w.heap.size w W ∧
    (L 3 = true → l.length = 16 ∧ ∀ q, q < S → l.getD q false = trivB M Lt S q) ∧
    (L 5 = true → w.heap.size < g4 ∧ Blk W g4 (if L 7 = true then ints (clsS M Lt S (S + 1)) else ints zer) 92) ∧
    (L 6 = true → w.heap.size < g5 ∧ Blk W g5 (if L 8 = true then bl l else bl nob) 143) ∧
    (L 4 = true → w.heap.size < g14 ∧ Blk W g14 #[] 2)) ∧
    (L 5 = true → L 6 = true → g4 ≠ g5) ∧ (L 4 = true → L 5 = true → g14 ≠ g4) ∧ (L 4 = true → L 6 = true → g14 ≠ g5) ∧ (L 8 = true → L 3 = true) ∧ (L 7 = true → L 5 = true) ∧ (L 8 = true → L 6 = true) ∧ (L 9 = true → L 4 = true)
theorem GnV.step {M : Mach} {Lt S : Nat} {w : World} {l : List Bool} {g4 g5 g14 : Nat} {L : Nat → Bool} {W W' : World} (hb : Below W.heap.size W W') (h : Blk W w.heap.size (mc M) 27 ∧ Below w.heap.size w W ∧
    (L 3 = true → l.length = 16 ∧ ∀ q, q < S → l.getD q false = trivB M Lt S q) ∧
    (L 5 = true → w.heap.size < g4 ∧ Blk W g4 (if L 7 = true then ints (clsS M Lt S (S + 1)) else ints zer) 92) ∧
    (L 6 = true → w.heap.size < g5 ∧ Blk W g5 (if L 8 = true then bl l else bl nob) 143) ∧
    (L 4 = true → w.heap.size < g14 ∧ Blk W g14 #[] 2)) : Blk W' w.heap.size (mc M) 27 ∧ Below w.heap.size w W' ∧
    (L 3 = true → l.length = 16 ∧ ∀ q, q < S → l.getD q false = trivB M Lt S q) ∧
    (L 5 = true → w.heap.size < g4 ∧ Blk W' g4 (if L 7 = true then ints (clsS M Lt S (S + 1)) else ints zer) 92) ∧
    (L 6 = true → w.heap.size < g5 ∧ Blk W' g5 (if L 8 = true then bl l else bl nob) 143) ∧
    (L 4 = true → w.heap.size < g14 ∧ Blk W' g14 #[] 2) :=
  ⟨h.1.keptAll hb, below_step h.2.1 hb, h.2.2.1, fun e => ⟨(h.2.2.2.1 e).1, (h.2.2.2.1 e).2.keptAll hb⟩, fun e => ⟨(h.2.2.2.2.1 e).1, (h.2.2.2.2.1 e).2.keptAll hb⟩, fun e => ⟨(h.2.2.2.2.2 e).1, (h.2.2.2.2.2 e).2.keptAll hb⟩⟩

set_option maxRecDepth 100000 in
set_option maxHeartbeats 4000000 in
theorem l10Generators_calls (M : Mach) (Lt S : Nat) (hg : Good M Lt S) (w : World) :
    Calls Try.prog 99 #[.agg (mc M)] w fun e w' => ∃ v, e = .returned (.tuple #[v, .int .i64 (gnT M Lt S S).2]) ∧ OwnI w' w.heap.size v (gnT M Lt S S).1 ∧ Below w.heap.size w w' := by
  have hok := hg.ok
  have F1 : Hid (cut (mc M) 0 98 = mc M) := Lib.hid (cut_all _ _ (mc_size hok)); have F2 : Hid (0 + 98 ≤ (mc M).size) := Lib.hid (by rw [mc_size hok]; omega)
  have hB : Blk (w.alloc (.cells (mc M) 27)) w.heap.size (mc M) 27 := Blk.new w _ _
  have hbw0 : Below w.heap.size w (w.alloc (.cells (mc M) 27)) := by (repeat (first | exact Below.refl _ _ | refine below_drew' ?_ | refine below_drewN' ?_ _ | refine below_alloc' ?_ _ | refine below_set' ?_ (by (try simp); (try omega)) _ | refine below_step ?_ (by assumption)))
  have HC := Lib.hid (fun W => l01Classes_calls M Lt S hg W)
  have HT := Lib.hid (fun W => l01Trivial_calls M Lt S hg W)
  have hzi := zero_i16
  have hzb := zero_b16
  have HsC : Hid ((ints (clsS M Lt S (S + 1))).size = 16) := Lib.hid (by simp [ints, clsS])
  have Hsz : Hid ((ints zer).size = 16) := Lib.hid (by simp [ints, zer])
  have Hsn : Hid ((bl nob).size = 16) := Lib.hid (by simp [bl, nob])
  go_enter Try.func99, Try.ntmps99
  go_wp2_with fail
  refine wp_mono (Q := fun e a' W => match e with
    | .normal => GnV M Lt S w (fun _ => true) a' W
    | _ => False) ?reg ?rest
  case reg =>
    have hdr : Below (w.alloc (.cells (mc M) 27)).heap.size (w.alloc (.cells (mc M) 27)) (w.alloc (.cells (mc M) 27)).drew := (Below.refl _ _).drew
    refine wp_region_inv (by kernel_rfl) (GnV M Lt S w) (by kernel_rfl) ?_ ?_ ?_
    · show GnV M Lt S w (come (Array.replicate 10 false)) _ _
      have e : come (Array.replicate 10 false) = fun i => decide (10 ≤ i) := by
        funext i
        by_cases h : i < 10
        · rw [come_none 10 i h]; simp; omega
        · unfold come; simp [Array.getD_eq_getD_getElem?, Array.getElem?_eq_none (show (Array.replicate 10 false).size ≤ i by simp; omega)]; omega
      rw [e]
      exact ⟨[], 0, 0, 0, rfl, ⟨hB.keptAll hdr, below_step hbw0 hdr, fun h => absurd h (by decide), fun h => absurd h (by decide), fun h => absurd h (by decide), fun h => absurd h (by decide)⟩, fun h => absurd h (by decide), fun h => absurd h (by decide), fun h => absurd h (by decide), fun h => absurd h (by decide), fun h => absurd h (by decide), fun h => absurd h (by decide), fun h => absurd h (by decide)⟩
    · intro i oi L a W hoi hLi hdep hInv K hK
      obtain ⟨l, g4, g5, g14, rfl, ⟨i1, i2, i3, i4, i5, i6⟩, n1, n2, n3, d1, d2, d3, d4⟩ := hInv
      have hi : i < 10 := (Array.getElem?_eq_some_iff.1 hoi).1
      rcases (show i = 0 ∨ i = 1 ∨ i = 2 ∨ i = 3 ∨ i = 4 ∨ i = 5 ∨ i = 6 ∨ i = 7 ∨ i = 8 ∨ i = 9 by omega) with rfl | rfl | rfl | rfl | rfl | rfl | rfl | rfl | rfl | rfl
      all_goals (have hoi2 := Option.some.inj hoi; subst hoi2; refine ⟨rfl, ?_⟩)
      · refine wp_load_rowI 27 _ rfl w.heap.size 0 rfl (mc M) _ i1 98 F2.out _ Try.underlying27 rfl size_mach _ F1.out ?_
        exact hK _ _ ⟨l, g4, g5, g14, rfl, ⟨i1, i2, i3, i4, i5, i6⟩, n1, n2, n3, d1, d2, d3, d4⟩
      · have h0 := dep_of hdep 0 (by kernel_rfl)
        go_simp
        refine (HC.out _).mono ?_
        rintro e W2 ⟨rfl, hb⟩
        exact hK _ _ ⟨l, g4, g5, g14, by simp [now, sel, h0], GnV.step hb ⟨i1, i2, i3, i4, i5, i6⟩, n1, n2, n3, d1, d2, d3, d4⟩
      · refine wp_load_rowI 27 _ rfl w.heap.size 0 rfl (mc M) _ i1 98 F2.out _ Try.underlying27 rfl size_mach _ F1.out ?_
        exact hK _ _ ⟨l, g4, g5, g14, rfl, ⟨i1, i2, i3, i4, i5, i6⟩, n1, n2, n3, d1, d2, d3, d4⟩
      · have h0 := dep_of hdep 2 (by kernel_rfl)
        have h8 : ¬ L 8 = true := fun h => by rw [d1 h] at hLi; cases hLi
        go_simp
        refine (HT.out _).mono ?_
        rintro e W2 ⟨⟨l', rfl, p1, p2⟩, hb⟩
        obtain ⟨j1, j2, _, j4, j5, j6⟩ := GnV.step hb ⟨i1, i2, i3, i4, i5, i6⟩
        rw [if_neg h8] at j5
        exact hK _ _ ⟨l', g4, g5, g14, by simp [now, sel, h0], ⟨j1, j2, fun _ => ⟨p1, p2⟩, j4, fun h => by rw [if_neg (show ¬ now L 3 8 = true from h8)]; exact j5 h, j6⟩, n1, n2, n3, fun _ => rfl, d2, d3, d4⟩
      · have h9 : ¬ L 9 = true := fun h => by rw [d4 h] at hLi; cases hLi
        go_simp
        obtain ⟨j1, j2, j3, j4, j5, j6⟩ := GnV.step (W' := W.alloc (.cells #[] 2)) (by (repeat (first | exact Below.refl _ _ | refine below_drew' ?_ | refine below_drewN' ?_ _ | refine below_alloc' ?_ _ | refine below_set' ?_ (by (try simp); (try omega)) _ | refine below_step ?_ (by assumption)))) ⟨i1, i2, i3, i4, i5, i6⟩
        exact hK _ _ ⟨l, g4, g5, W.heap.size, by simp [now, sel, h9], ⟨j1, j2, j3, j4, j5, fun _ => ⟨i1.lt, Blk.new _ _ _⟩⟩, n1, fun _ h => Nat.ne_of_gt (i4 h).2.lt, fun _ h => Nat.ne_of_gt (i5 h).2.lt, d1, d2, d3, fun _ => rfl⟩
      · have hst : ¬ L 7 = true := fun h => by rw [d2 h] at hLi; cases hLi
        go_simp
        obtain ⟨j1, j2, j3, j4, j5, j6⟩ := GnV.step (W' := W.alloc (.cells (ints zer) 92)) (by (repeat (first | exact Below.refl _ _ | refine below_drew' ?_ | refine below_drewN' ?_ _ | refine below_alloc' ?_ _ | refine below_set' ?_ (by (try simp); (try omega)) _ | refine below_step ?_ (by assumption)))) ⟨i1, i2, i3, i4, i5, i6⟩
        exact hK _ _ ⟨l, W.heap.size, g5, g14, rfl, ⟨j1, j2, j3, fun _ => ⟨i1.lt, by rw [if_neg (show ¬ now L 5 7 = true from hst)]; exact Blk.new _ _ _⟩, j5, j6⟩, fun _ h => Nat.ne_of_gt (i5 h).2.lt, fun h _ => Nat.ne_of_lt (i6 h).2.lt, n3, d1, fun _ => rfl, d3, d4⟩
      · have hst : ¬ L 8 = true := fun h => by rw [d3 h] at hLi; cases hLi
        go_simp
        obtain ⟨j1, j2, j3, j4, j5, j6⟩ := GnV.step (W' := W.alloc (.cells (bl nob) 143)) (by (repeat (first | exact Below.refl _ _ | refine below_drew' ?_ | refine below_drewN' ?_ _ | refine below_alloc' ?_ _ | refine below_set' ?_ (by (try simp); (try omega)) _ | refine below_step ?_ (by assumption)))) ⟨i1, i2, i3, i4, i5, i6⟩
        exact hK _ _ ⟨l, g4, W.heap.size, g14, rfl, ⟨j1, j2, j3, j4, fun _ => ⟨i1.lt, by rw [if_neg (show ¬ now L 6 8 = true from hst)]; exact Blk.new _ _ _⟩, j6⟩, fun h _ => Nat.ne_of_lt (i4 h).2.lt, n2, fun h _ => Nat.ne_of_lt (i6 h).2.lt, d1, d2, fun _ => rfl, d4⟩
      · have h5 := dep_of hdep 5 (by kernel_rfl)
        have h1 := dep_of hdep 1 (by kernel_rfl)
        have hBz := (i4 h5).2
        rw [if_neg (show ¬ L 7 = true by rw [hLi]; simp)] at hBz
        have hgb := (i4 h5).1
        refine wp_store_rowI 92 _ _ rfl g4 0 (ints (clsS M Lt S (S + 1))) (by show sel (L 5) _ = _; rw [h5]; rfl) (by show sel (L 1) _ = _; rw [h1]; rfl) (ints zer) _ hBz (by rw [HsC.out, Hsz.out]; omega) (by rw [HsC.out]; exact size_i16) (ints_one _) (ints (clsS M Lt S (S + 1))) (over_all _ _ (by rw [HsC.out, Hsz.out])) (fun W2 hs => ?_)
        exact hK _ _ ⟨l, g4, g5, g14, rfl, ⟨hs.keep (Nat.ne_of_lt hgb) i1, hs.below _ _ (Nat.le_of_lt hgb) i2, i3, fun _ => ⟨(i4 h5).1, by rw [if_pos (show now L 7 7 = true from rfl)]; exact hs.blk⟩, fun h => ⟨(i5 h).1, hs.keep (Ne.symm (n1 h5 h)) (i5 h).2⟩, fun h => ⟨(i6 h).1, hs.keep (n2 h h5) (i6 h).2⟩⟩, n1, n2, n3, d1, fun _ => h5, d3, d4⟩
      · have h6 := dep_of hdep 6 (by kernel_rfl)
        have h3 := dep_of hdep 3 (by kernel_rfl)
        have hBz := (i5 h6).2
        rw [if_neg (show ¬ L 8 = true by rw [hLi]; simp)] at hBz
        have hgb := (i5 h6).1
        have hl16 : (bl l).size = 16 := by rw [bl_size, (i3 h3).1]
        refine wp_store_rowI 143 _ _ rfl g5 0 (bl l) (by show sel (L 6) _ = _; rw [h6]; rfl) (by show sel (L 3) _ = _; rw [h3]; rfl) (bl nob) _ hBz (by rw [hl16, Hsn.out]; omega) (by rw [hl16]; exact (zero_of_info info_b16).2) (bl_one _) (bl l) (over_all _ _ (by rw [hl16, Hsn.out])) (fun W2 hs => ?_)
        exact hK _ _ ⟨l, g4, g5, g14, rfl, ⟨hs.keep (Nat.ne_of_lt hgb) i1, hs.below _ _ (Nat.le_of_lt hgb) i2, i3, fun h => ⟨(i4 h).1, hs.keep (n1 h h6) (i4 h).2⟩, fun _ => ⟨(i5 h6).1, by rw [if_pos (show now L 8 8 = true from rfl)]; exact hs.blk⟩, fun h => ⟨(i6 h).1, hs.keep (n3 h h6) (i6 h).2⟩⟩, n1, n2, n3, fun _ => h3, d2, fun _ => h6, d4⟩
      · have h4 := dep_of hdep 4 (by kernel_rfl)
        go_simp
        exact hK _ _ ⟨l, g4, g5, g14, by simp [now, sel, h4], ⟨i1, i2, i3, i4, i5, i6⟩, n1, n2, n3, d1, d2, d3, fun _ => h4⟩
    · intro L a W hall hI
      obtain ⟨l, g4, g5, g14, rfl, ⟨i1, i2, i3, i4, i5, i6⟩, n1, n2, n3, d1, d2, d3, d4⟩ := hI
      have q := fun i (h : i < 10) => hall i h
      have b4 := i4 (q 5 (by omega))
      have b5 := i5 (q 6 (by omega))
      rw [if_pos (q 7 (by omega))] at b4
      rw [if_pos (q 8 (by omega))] at b5
      refine ⟨l, g4, g5, g14, ?_, ⟨i1, i2, fun _ => i3 (q 3 (by omega)), fun _ => b4, fun _ => b5, fun _ => i6 (q 4 (by omega))⟩, fun _ _ => n1 (q 5 (by omega)) (q 6 (by omega)), fun _ _ => n2 (q 4 (by omega)) (q 5 (by omega)), fun _ _ => n3 (q 4 (by omega)) (q 6 (by omega)), fun _ => rfl, fun _ => rfl, fun _ => rfl, fun _ => rfl⟩
      rw [q 0 (by omega), q 1 (by omega), q 2 (by omega), q 3 (by omega), q 4 (by omega), q 5 (by omega), q 6 (by omega), q 9 (by omega)]
  case rest =>
    clear HC HT hzi hzb Hsz Hsn hB hbw0
    intro e a W hT
    cases e with
    | normal =>
      obtain ⟨l, g4, g5, g14, rfl, ⟨hBm, hbw, i3, i4, i5, i6⟩, n1, n2, n3, _, _, _, _⟩ := hT
      obtain ⟨hll, hl⟩ := i3 rfl
      obtain ⟨hg4, hB4⟩ := i4 rfl
      obtain ⟨hg5, hB5⟩ := i5 rfl
      obtain ⟨hg14, hB14⟩ := i6 rfl
      have hn2 := n2 rfl rfl
      have hn3 := n3 rfl rfl
      simp only [if_true] at hB4 hB5
      simp only [sel_true]
      clear i3 i4 i5 i6 n1 n2 n3
      have hS16 := hg.S16
      have hcS : (mc M)[1]? = some (.int .i64 M.S) := mc_S M
      rw [hg.hS] at hcS
      have HcS := Lib.hid hcS
      have Hcls := Lib.hid (fun q (hq : q < S) => (ints_at (clsS M Lt S (S + 1)) q (by simp [clsS]; omega)).trans (by rw [clsS_at M Lt S (S + 1) q hq hS16]))
      have Htr := Lib.hid (fun q (hq : q < S) => (bl_at l q (by rw [hll]; omega)).trans (by rw [hl q hq]))
      have HTr := Lib.hid (fun q (hq : q < S) v W hv => l02Trivial_calls M Lt S hg v [(q : Int) + 1, (q : Int) + 1] (by
        refine ⟨?_, by simp⟩
        unfold numsOk
        have : numOk (S : Int) ((q : Int) + 1) = true := (numOk_iff _ _).2 (by omega)
        simp [this]) W hv)
      have hO0 : OwnI W (w.heap.size + 1) (.slice (some ⟨g14, 0, none⟩) 0 0) (gnT M Lt S 0).1 := OwnI.made (zs := []) rfl (by unfold maxLen; omega) (by omega) hB14
      have hv0 : Hid ((Value.slice (some ⟨g14, 0, none⟩) 0 0).ownBlock ≠ some g4 ∧ (Value.slice (some ⟨g14, 0, none⟩) 0 0).ownBlock ≠ some g5) := Lib.hid ⟨by simp [Value.ownBlock]; exact hn2, by simp [Value.ownBlock]; exact hn3⟩
      have Hg := Lib.hid hg
      clear hll hl hcS hB14 hn2 hn3 HsC hg
      generalize ints (clsS M Lt S (S + 1)) = cc at *
      generalize bl l = cb at *
      go_wp2
      go_loopw [6, 7] (fun gv i wr => ∃ (k : Nat) (v : Value), k ≤ S ∧ i = .int .i64 k ∧ v = gv ∧ OwnI wr (w.heap.size + 1) v (gnT M Lt S k).1 ∧ Hid (v.ownBlock ≠ some g4 ∧ v.ownBlock ≠ some g5) ∧ Hid ((gnT M Lt S k).2 = 0) ∧ Blk wr w.heap.size (mc M) 27 ∧ Blk wr g4 cc 92 ∧ Blk wr g5 cb 143 ∧ Below w.heap.size w wr) (fun _ i _ => S - (intOf i).toNat)
      case atStart => exact ⟨0, _, by omega, rfl, rfl, hO0, hv0, Lib.hid rfl, hBm, hB4, hB5, hbw⟩
      case round =>
        clear hO0 hv0 hBm hB4 hB5 hbw
        obtain ⟨k, v, hk, rfl, rfl, hO, Hv, Hc, hB, h4, h5, hbw⟩ := hrel
        have cS := (hB.cell 1).trans HcS.out
        by_cases hkS : k < S
        · have hki : (k : Int) < (S : Int) := by omega
          have hk16 : (k : Int) < 16 := by omega
          have c4 := (h4.cell k).trans (Hcls.out k hkS)
          have c5 := (h5.cell k).trans (Htr.out k hkS)
          have Hskip := Lib.hid (gnT_skip (M := M) (L := Lt) (S := S) (k := k))
          have Hgen : Hid (isGen M Lt S k = (!trivB M Lt S k && decide (lst M Lt (S + 1) k = k))) := Lib.hid rfl
          cases htr : trivB M Lt S k
          · rw [htr] at c5 Hgen
            clear htr
            by_cases hl : lst M Lt (S + 1) k = k
            · have hig : isGen M Lt S k = true := by rw [Hgen.out, decide_eq_true hl]; rfl
              have hne : ((lst M Lt (S + 1) k : Int) != (k : Int)) = false := by rw [hl]; simp
              have Herr := Lib.hid (fun h => gn_err (m := S) Hc.out hig h hkS)
              have Hok := Lib.hid (fun h => gnT_ok Hc.out hig h)
              have Hlen := Lib.hid (gnT_len M Lt S k)
              have HT := Lib.hid (fun v W hv => HTr.out k hkS v W hv)
              rw [show resT M Lt S 201 0 [nf M Lt S [(k : Int) + 1, (k : Int) + 1]] = gnR M Lt S k from rfl] at HT
              have hal : Below wr.heap.size wr (wr.alloc (.cells #[.int .i64 ((k : Int) + 1)] 2)) := by (repeat (first | exact Below.refl _ _ | refine below_drew' ?_ | refine below_drewN' ?_ _ | refine below_alloc' ?_ _ | refine below_set' ?_ (by (try simp); (try omega)) _ | refine below_step ?_ (by assumption)))
              have hs1 := hal.size
              have hO1 := hO.below hal
              have hB1 := hB.keptAll hal
              have h41 := h4.keptAll hal
              have h51 := h5.keptAll hal
              have hbw1 := below_step hbw hal
              have hlB := hB.lt
              have hl4 := h4.lt
              have hl5 := h5.lt
              obtain ⟨tb, tc, hr⟩ : ∃ tb tc, gnR M Lt S k = (tb, tc) := ⟨_, _, rfl⟩
              rw [hr] at HT Herr Hok
              clear hig hr Hgen Hskip hl
              generalize (gnT M Lt S k).1 = gl at *
              generalize (lst M Lt (S + 1) k : Int) = lk at *
              have HP1 : Hid (∀ (v5 : Value) (w5 : World), OwnI w5 (w.heap.size + 1) v5 (gl ++ [(k : Int) + 1]) → Below (w.heap.size + 1) (wr.alloc (.cells #[.int .i64 ((k : Int) + 1)] 2)) w5 → Spares (wr.alloc (.cells #[.int .i64 ((k : Int) + 1)] 2)) w5 v → (v5.ownBlock = v.ownBlock ∨ v5.ownBlock = some (wr.alloc (.cells #[.int .i64 ((k : Int) + 1)] 2)).heap.size) → Blk w5 w.heap.size (mc M) 27 ∧ Blk w5 g4 cc 92 ∧ Blk w5 g5 cb 143 ∧ Below w.heap.size w w5 ∧ (v5.ownBlock ≠ some g4 ∧ v5.ownBlock ≠ some g5)) := Lib.hid (fun v5 w5 hO5 hb5 hsp5 hat5 => ⟨hB1.kept hb5 (by omega), (hsp5 g4 (by omega) (fun e => Hv.out.1 e.symm)).trans h41, (hsp5 g5 (by omega) (fun e => Hv.out.2 e.symm)).trans h51, hbw1.trans (below_le hb5 (by omega)), by
                rcases hat5 with e | e
                · rw [e]; exact Hv.out
                · rw [e]; exact ⟨fun h => by have := Option.some.inj h; omega, fun h => by have := Option.some.inj h; omega⟩⟩)
              by_cases hc : tc = 0
              · have hcb : (tc != 0) = false := by rw [hc]; rfl
                have Hn := Lib.hid (Hok.out hc)
                clear hc Herr Hok
                cases tb
                · have Hn2 : Hid (gnT M Lt S (k + 1) = ((gl ++ [(k : Int) + 1]) ++ [-((k : Int) + 1)], 0)) := Lib.hid (by rw [Hn.out]; simp)
                  go_wp2_with (first | (at_builtin; refine wpList_push_int_at rfl (.tmp 31) (.tmp 34) rfl (w.heap.size + 1) _ gl rfl hO1 wr.heap.size 1 ((k : Int) + 1) rfl (Blk.new wr _ _) (by have := Hlen.out; omega) (by omega) ?_; intro v5 w5 hO5 hb5 hsp5 hat5; obtain ⟨hB5, h45, h55, hbw5, hv5⟩ := HP1.out v5 w5 hO5 hb5 hsp5 hat5; have Hv5 := Lib.hid hv5; have hz5 := hb5.size; clear hv5 hb5 hsp5 hat5; have hal5 : Below w5.heap.size w5 (w5.alloc (.cells #[.int .i64 ((k : Int) + 1), .int .i64 ((k : Int) + 1)] 2)) := (by (repeat (first | exact Below.refl _ _ | refine below_drew' ?_ | refine below_drewN' ?_ _ | refine below_alloc' ?_ _ | refine below_set' ?_ (by (try simp); (try omega)) _ | refine below_step ?_ (by assumption)))); have hsa5 := hal5.size; have hT5 := HT.out _ _ (sees_two (Blk.new w5 #[.int .i64 ((k : Int) + 1), .int .i64 ((k : Int) + 1)] 2)); have HT5 := Lib.hid hT5; clear hT5) | (with_reducible show wpList _ _ _ _ _ _; refine wpList_load_blk rfl 27 (.tmp 1) rfl w.heap.size 0 rfl (mc M) _ (by first | exact hB5) 98 F2.out _ Try.underlying27 rfl size_mach ?_; rw [F1.out]) | (go_at_call 105; refine HT5.out.mono ?_; rintro e w7 ⟨rfl, hb7⟩; have hz7 := hb7.size; have hal7 : Below w7.heap.size w7 (w7.alloc (.cells #[.int .i64 (-((k : Int) + 1))] 2)) := (by (repeat (first | exact Below.refl _ _ | refine below_drew' ?_ | refine below_drewN' ?_ _ | refine below_alloc' ?_ _ | refine below_set' ?_ (by (try simp); (try omega)) _ | refine below_step ?_ (by assumption)))); have hsa7 := hal7.size; have hO8 := ((hO5.below hal5).below hb7).below hal7; have hB8 := ((hB5.keptAll hal5).keptAll hb7).keptAll hal7; have h48 := ((h45.keptAll hal5).keptAll hb7).keptAll hal7; have h58 := ((h55.keptAll hal5).keptAll hb7).keptAll hal7; have hbw8 := below_step (below_step (below_step hbw5 hal5) hb7) hal7) | (at_builtin; refine wpList_push_int_at rfl (.tmp 51) (.tmp 55) rfl (w.heap.size + 1) _ (gl ++ [(k : Int) + 1]) rfl hO8 w7.heap.size 1 (-((k : Int) + 1)) rfl (Blk.new w7 _ _) (by have := Hlen.out; simp; omega) (by omega) ?_; intro v9 w9 hO9 hb9 hsp9 hat9))
                  go_roundw
                  case rel => exact ⟨k + 1, _, by omega, by go_num, rfl, by rw [Hn2.out]; exact hO9, Lib.hid (by
                    rcases hat9 with e | e
                    · rw [e]; exact Hv5.out
                    · rw [e]; exact ⟨fun h => by have := Option.some.inj h; omega, fun h => by have := Option.some.inj h; omega⟩), by rw [Hn2.out]; exact Lib.hid rfl, hB8.kept hb9 (by omega), (hsp9 g4 (by omega) (fun e => Hv5.out.1 e.symm)).trans h48, (hsp9 g5 (by omega) (fun e => Hv5.out.2 e.symm)).trans h58, hbw8.trans (below_le hb9 (by omega))⟩
                  case measure => simp [intOf] <;> omega
                · have Hn2 : Hid (gnT M Lt S (k + 1) = (gl ++ [(k : Int) + 1], 0)) := Lib.hid (by rw [Hn.out]; simp)
                  go_wp2_with (first | (at_builtin; refine wpList_push_int_at rfl (.tmp 31) (.tmp 34) rfl (w.heap.size + 1) _ gl rfl hO1 wr.heap.size 1 ((k : Int) + 1) rfl (Blk.new wr _ _) (by have := Hlen.out; omega) (by omega) ?_; intro v5 w5 hO5 hb5 hsp5 hat5; obtain ⟨hB5, h45, h55, hbw5, hv5⟩ := HP1.out v5 w5 hO5 hb5 hsp5 hat5; have Hv5 := Lib.hid hv5; have hz5 := hb5.size; clear hv5 hb5 hsp5 hat5; have hal5 : Below w5.heap.size w5 (w5.alloc (.cells #[.int .i64 ((k : Int) + 1), .int .i64 ((k : Int) + 1)] 2)) := (by (repeat (first | exact Below.refl _ _ | refine below_drew' ?_ | refine below_drewN' ?_ _ | refine below_alloc' ?_ _ | refine below_set' ?_ (by (try simp); (try omega)) _ | refine below_step ?_ (by assumption)))); have hsa5 := hal5.size; have hT5 := HT.out _ _ (sees_two (Blk.new w5 #[.int .i64 ((k : Int) + 1), .int .i64 ((k : Int) + 1)] 2)); have HT5 := Lib.hid hT5; clear hT5) | (with_reducible show wpList _ _ _ _ _ _; refine wpList_load_blk rfl 27 (.tmp 1) rfl w.heap.size 0 rfl (mc M) _ (by first | exact hB5) 98 F2.out _ Try.underlying27 rfl size_mach ?_; rw [F1.out]) | (go_at_call 105; refine HT5.out.mono ?_; rintro e w7 ⟨rfl, hb7⟩))
                  go_roundw
                  case rel => exact ⟨k + 1, _, by omega, by go_num, rfl, by rw [Hn2.out]; exact (hO5.below hal5).below hb7, Hv5, by rw [Hn2.out]; exact Lib.hid rfl, (hB5.keptAll hal5).keptAll hb7, (h45.keptAll hal5).keptAll hb7, (h55.keptAll hal5).keptAll hb7, below_step (below_step hbw5 hal5) hb7⟩
                  case measure => simp [intOf] <;> omega
              · have hcb : (tc != 0) = true := by simpa using hc
                have He := Lib.hid (Herr.out hc)
                clear hc Herr Hok
                go_wp2_with (first | (at_builtin; refine wpList_push_int_at rfl (.tmp 31) (.tmp 34) rfl (w.heap.size + 1) _ gl rfl hO1 wr.heap.size 1 ((k : Int) + 1) rfl (Blk.new wr _ _) (by have := Hlen.out; omega) (by omega) ?_; intro v5 w5 hO5 hb5 hsp5 hat5; obtain ⟨hB5, h45, h55, hbw5, hv5⟩ := HP1.out v5 w5 hO5 hb5 hsp5 hat5; clear hv5 hb5 hsp5 hat5; have hal5 : Below w5.heap.size w5 (w5.alloc (.cells #[.int .i64 ((k : Int) + 1), .int .i64 ((k : Int) + 1)] 2)) := (by (repeat (first | exact Below.refl _ _ | refine below_drew' ?_ | refine below_drewN' ?_ _ | refine below_alloc' ?_ _ | refine below_set' ?_ (by (try simp); (try omega)) _ | refine below_step ?_ (by assumption)))); have hT5 := HT.out _ _ (sees_two (Blk.new w5 #[.int .i64 ((k : Int) + 1), .int .i64 ((k : Int) + 1)] 2)); have HT5 := Lib.hid hT5; clear hT5) | (with_reducible show wpList _ _ _ _ _ _; refine wpList_load_blk rfl 27 (.tmp 1) rfl w.heap.size 0 rfl (mc M) _ (by first | exact hB5) 98 F2.out _ Try.underlying27 rfl size_mach ?_; rw [F1.out]) | (go_at_call 105; refine HT5.out.mono ?_; rintro e w7 ⟨rfl, hb7⟩))
                go_ret2
                rw [He.out]
                exact ⟨_, rfl, World.ownsRow_nil _ _ _ _, below_step (below_step hbw5 hal5) hb7⟩
            · have hne : ((lst M Lt (S + 1) k : Int) != (k : Int)) = true := by simp; omega
              have Hs := Lib.hid (Hskip.out (by rw [Hgen.out, decide_eq_false hl]; rfl))
              clear hl
              go_wp2
              go_roundw
              case rel => exact ⟨k + 1, _, by omega, by go_num, rfl, by rw [Hs.out]; exact hO, Hv, by rw [Hs.out]; exact Hc, hB, h4, h5, hbw⟩
              case measure => simp [intOf] <;> omega
          · rw [htr] at c5 Hgen
            have Hs := Lib.hid (Hskip.out (by rw [Hgen.out]; rfl))
            clear htr
            go_wp2
            go_roundw
            case rel => exact ⟨k + 1, _, by omega, by go_num, rfl, by rw [Hs.out]; exact hO, Hv, by rw [Hs.out]; exact Hc, hB, h4, h5, hbw⟩
            case measure => simp [intOf] <;> omega
        · obtain rfl : k = S := by omega
          go_wp2
          go_ret2
          rw [Hc.out]
          exact ⟨_, rfl, hO.base_le (by omega), hbw⟩
    | exit _ => exact hT.elim
    | goto _ => exact hT.elim
    | ret => exact hT.elim
    | panic _ => exact hT.elim
    | outgrown => exact hT.elim

set_option maxRecDepth 100000 in
set_option maxHeartbeats 1000000 in
theorem sGeneratorsOf_calls (M : Mach) (hok : M.Ok) (w : World) :
    Calls Try.prog 44 #[.agg (mc M)] w fun e w' => ∃ v, e = .returned (.tuple #[v, .int .i64 (gnC M)]) ∧ OwnI w' w.heap.size v (gnL M) ∧ Below w.heap.size w w' := by
  have F1 : Hid (cut (mc M) 0 98 = mc M) := Lib.hid (cut_all _ _ (mc_size hok)); have F2 : Hid (0 + 98 ≤ (mc M).size) := Lib.hid (by rw [mc_size hok]; omega)
  have hB : Blk (w.alloc (.cells (mc M) 27)) w.heap.size (mc M) 27 := Blk.new w _ _
  have hbw0 : Below w.heap.size w (w.alloc (.cells (mc M) 27)) := by (repeat (first | exact Below.refl _ _ | refine below_drew' ?_ | refine below_drewN' ?_ _ | refine below_alloc' ?_ _ | refine below_set' ?_ (by (try simp); (try omega)) _ | refine below_step ?_ (by assumption)))
  have HI := Lib.hid (fun W => l01Is_calls M hok W)
  cases hm : isMach M
  · have Hr := Lib.hid (gn_bad hm)
    rw [hm] at HI
    rw [Hr.out.1, Hr.out.2]
    clear hm
    go_enter Try.func44, Try.ntmps44
    go_wp2_with (first | (with_reducible show wpList _ _ _ _ _ _; refine wpList_load_blk rfl 27 (.tmp 1) rfl w.heap.size 0 rfl (mc M) _ (hB) 98 F2.out _ Try.underlying27 rfl size_mach ?_; rw [F1.out]) | (go_at_call 71; refine (HI.out _).mono ?_; rintro e w1 ⟨rfl, hb1⟩))
    go_ret2
    exact ⟨_, rfl, World.ownsRow_nil _ _ _ _, below_step hbw0 hb1⟩
  · obtain ⟨L, S, hg⟩ := Good.of hok hm
    have Hr := Lib.hid (gn_good hg hm)
    rw [hm] at HI
    rw [Hr.out.1, Hr.out.2]
    have HG := Lib.hid (fun W => l10Generators_calls M L S hg W)
    clear Hr hg hm
    go_enter Try.func44, Try.ntmps44
    go_wp2_with (first | (with_reducible show wpList _ _ _ _ _ _; refine wpList_load_blk rfl 27 (.tmp 1) rfl w.heap.size 0 rfl (mc M) _ (by first | exact hB1 | exact hB) 98 F2.out _ Try.underlying27 rfl size_mach ?_; rw [F1.out]) | (go_at_call 71; refine (HI.out _).mono ?_; rintro e w1 ⟨rfl, hb1⟩; have hB1 := hB.keptAll hb1; have hbw1 := below_step hbw0 hb1) | (go_at_call 99; refine (HG.out _).mono ?_; rintro e w2 ⟨v2, rfl, hO2, hb2⟩))
    go_ret2
    exact ⟨_, rfl, hO2.base_le hbw1.size, below_step hbw1 hb2⟩
end Go.Proofs.Ytliohokcjgcmhaa
