/- 'slices.Sort' over numbers of one's own: its contract at this program's numbers (the laying is written by the shelf's command for this seat: write it anew for another one), and what it leaves. -/
import Derived.Ground.SlgmProg
import Derived.Shelf.SortM.Plain
import Derived.Shelf.SortM.SortNone
import Derived.Sort.OwnSortedInts
import Derived.Test.YticnpajbefflbaaCtS
namespace Go.Proofs
open Go.Shelf
def Try.laysSlM5_f53_ren : Go.Shelf.Ren := ⟨fun | 5 => 53 | 8 => 80 | 7 => 79 | 19 => 99 | 20 => 100 | 10 => 90 | 11 => 91 | 12 => 92 | 13 => 93 | 14 => 94 | 15 => 95 | 16 => 96 | 17 => 97 | 18 => 98 | 30 => 106 | 31 => 107 | 32 => 108 | 33 => 109 | 34 => 110 | 35 => 111 | 40 => 112 | n => n, fun | 23 => 26 | 25 => 2 | 3 => 3 | 32 => 109 | 22 => 26 | 0 => 0 | 44 => 129 | 46 => 131 | 4 => 4 | 36 => 122 | 35 => 121 | 41 => 126 | 5 => 5 | 9 => 9 | 53 => 133 | 57 => 137 | 63 => 139 | 64 => 140 | n => n, fun | n => n⟩
theorem Try.laysSlM5_f53 : Go.Proofs.SlLaysM.n5 Try.prog Try.laysSlM5_f53_ren := {
  mixed := by kernel_rfl
  f5 := ⟨Try.f53.name, by decide, Try.func53.trans (congrArg some (by kernel_rfl))⟩
  f7 := ⟨Try.f79.name, by decide, Try.func79.trans (congrArg some (by kernel_rfl))⟩
  f8 := Try.func80.trans (congrArg some (by kernel_rfl))
  f10 := ⟨Try.f90.name, by decide, Try.func90.trans (congrArg some (by kernel_rfl))⟩
  f11 := ⟨Try.f91.name, by decide, Try.func91.trans (congrArg some (by kernel_rfl))⟩
  f12 := ⟨Try.f92.name, by decide, Try.func92.trans (congrArg some (by kernel_rfl))⟩
  f13 := ⟨Try.f93.name, by decide, Try.func93.trans (congrArg some (by kernel_rfl))⟩
  f14 := ⟨Try.f94.name, by decide, Try.func94.trans (congrArg some (by kernel_rfl))⟩
  f15 := ⟨Try.f95.name, by decide, Try.func95.trans (congrArg some (by kernel_rfl))⟩
  f16 := ⟨Try.f96.name, by decide, Try.func96.trans (congrArg some (by kernel_rfl))⟩
  f17 := ⟨Try.f97.name, by decide, Try.func97.trans (congrArg some (by kernel_rfl))⟩
  f18 := ⟨Try.f98.name, by decide, Try.func98.trans (congrArg some (by kernel_rfl))⟩
  f19 := Try.func99.trans (congrArg some (by kernel_rfl))
  f20 := Try.func100.trans (congrArg some (by kernel_rfl))
  f30 := ⟨Try.f106.name, by decide, Try.func106.trans (congrArg some (by kernel_rfl))⟩
  f31 := Try.func107.trans (congrArg some (by kernel_rfl))
  f32 := Try.func108.trans (congrArg some (by kernel_rfl))
  f33 := ⟨Try.f109.name, by decide, Try.func109.trans (congrArg some (by kernel_rfl))⟩
  f34 := ⟨Try.f110.name, by decide, Try.func110.trans (congrArg some (by kernel_rfl))⟩
  f35 := ⟨Try.f111.name, by decide, Try.func111.trans (congrArg some (by kernel_rfl))⟩
  f40 := ⟨Try.f112.name, by decide, Try.func112.trans (congrArg some (by kernel_rfl))⟩
  t0 := Try.underlying0
  a0 := Try.isAgg0
  z0 := Try.sizeOf0
  v0 := Try.zeroValue0
  t3 := Try.underlying3
  a3 := Try.isAgg3
  z3 := Try.sizeOf3
  v3 := Try.zeroValue3
  t4 := Try.underlying4
  a4 := Try.isAgg4
  z4 := Try.sizeOf4
  v4 := Try.zeroValue4
  t5 := Try.underlying5
  a5 := Try.isAgg5
  z5 := Try.sizeOf5
  v5 := Try.zeroValue5
  t9 := Try.underlying9
  a9 := Try.isAgg9
  z9 := Try.sizeOf9
  v9 := Try.zeroValue9
  t22 := Try.underlying26
  a22 := Try.isAgg26
  z22 := Try.sizeOf26
  v22 := Try.zeroValue26
  t23 := Try.underlying26
  a23 := Try.isAgg26
  z23 := Try.sizeOf26
  v23 := Try.zeroValue26
  t25 := Try.underlying2
  a25 := Try.isAgg2
  z25 := Try.sizeOf2
  v25 := Try.zeroValue2
  t32 := Try.underlying109
  a32 := Try.isAgg109
  z32 := Try.sizeOf109
  v32 := Try.zeroValue109
  t35 := Try.underlying121
  a35 := Try.isAgg121
  z35 := Try.sizeOf121
  v35 := Try.zeroValue121
  t36 := Try.underlying122
  a36 := Try.isAgg122
  z36 := Try.sizeOf122
  v36 := Try.zeroValue122
  t41 := Try.underlying126
  a41 := Try.isAgg126
  z41 := Try.sizeOf126
  v41 := Try.zeroValue126
  t44 := Try.underlying129
  a44 := Try.isAgg129
  z44 := Try.sizeOf129
  v44 := Try.zeroValue129
  t46 := Try.underlying131
  a46 := Try.isAgg131
  z46 := Try.sizeOf131
  v46 := Try.zeroValue131
  t53 := Try.underlying133
  a53 := Try.isAgg133
  z53 := Try.sizeOf133
  v53 := Try.zeroValue133
  t57 := Try.underlying137
  a57 := Try.isAgg137
  z57 := Try.sizeOf137
  v57 := Try.zeroValue137
  t63 := Try.underlying139
  a63 := Try.isAgg139
  z63 := Try.sizeOf139
  v63 := Try.zeroValue139
  t64 := Try.underlying140
  a64 := Try.isAgg140
  z64 := Try.sizeOf140
  v64 := Try.zeroValue140 }
open Go.Sort Go.RowKit in
theorem Try.slices_Sort_int (blk off cap : Nat) (zs : List Int) (w : World) (hH : Holds (Value.int .i64) w blk off zs.toArray) (hblk : blk < w.heap.size) (hsz : zs.length < 4611686018427387904) :
    Calls Try.prog 53 #[.slice (some ⟨blk, off, none⟩) zs.length cap] w fun e w' =>
      e = .returned (.tuple #[]) ∧ ∃ n os, w' = grow (putRow (Value.int .i64) (Sort.ahead w n) blk off (zs.mergeSort fun x y => decide (x ≤ y)).toArray) os := AnyM.slices_Sort_int Try.laysSlM5_f53 blk off cap zs w hH hblk hsz
open Go.RowKit Go.Sort in
/-- .. and plain. (LAID AT THE INSTANCE 'slices.Sort[[]int64,int64]': no walk: one application.) -/
theorem Try.slices_Sort_int_none (p : Option Addr) (cap : Nat) (w : World) :
    Calls Try.prog 53 #[.slice p 0 cap] w fun e w' => e = .returned (.tuple #[]) ∧ w' = w := AnyM.slices_Sort_int_none Try.laysSlM5_f53 p cap w
end Go.Proofs

namespace Go.Proofs.Yticnpajbefflbaa
open Go.RowKit Go.Sort

def srtL (zs : List Int) : List Int := zs.mergeSort fun x y => decide (x ≤ y)
theorem srtL_len (zs : List Int) : (srtL zs).length = zs.length := List.length_mergeSort _

set_option maxRecDepth 100000 in
theorem Sort_calls (base : Nat) (v : Value) (zs : List Int) (hl : zs.length ≤ 100000) (w : World) (hbw : base ≤ w.heap.size) (hv : OwnI w base v zs) :
    Calls Try.prog 53 #[v] w fun e w' => e = .returned (.tuple #[]) ∧ OwnI w' base v (srtL zs) ∧ Below base w w' := by
  rcases hv.2 with ⟨rfl, h0⟩ | ⟨g, cap, cur, rfl, hg, hB, hn, hm, hs, ht⟩
  · have hz : zs = [] := List.eq_nil_of_length_eq_zero h0
    subst hz
    refine (Try.slices_Sort_int_none none 0 w).mono ?_
    rintro e w' ⟨rfl, rfl⟩
    have e0 : srtL [] = [] := by simp [srtL]
    rw [e0]
    exact ⟨rfl, hv, Below.refl _ _⟩
  · rw [Nat.mul_one] at ht
    have hH := holds_of_blockI hB ht
    have hlt : g < w.heap.size := (Array.getElem?_eq_some_iff.1 hB).1
    refine (Try.slices_Sort_int g 0 cap zs w hH hlt (by omega)).mono ?_
    rintro e w' ⟨rfl, n, os, rfl⟩
    have h1 := ownsRow_sortedI (n := n) (os := os) (ts := srtL zs) (srtL_len zs) hg hB hn hm hs
    refine ⟨rfl, ?_, below_grown hv (grownBy_sortedI _) hbw⟩
    unfold OwnI
    rw [srtL_len]
    exact h1

/-! ### Both sorts give the same list -/
theorem insI_perm (out : List Int) (c : Int) : (insI out c).Perm (c :: out) := by
  unfold insI
  refine List.perm_middle.trans ?_
  rw [List.take_append_drop]
theorem isrtK_perm (zs : List Int) : ∀ k, k ≤ zs.length → (isrtK zs k).Perm (zs.take k)
  | 0, _ => by rw [List.take_zero]; exact List.Perm.refl _
  | k + 1, hk => by
    have ih := isrtK_perm zs k (by omega)
    have e : zs.getD k 0 = zs[k] := by simp [List.getD, List.getElem?_eq_getElem (show k < zs.length by omega)]
    rw [isrtK, e, List.take_succ_eq_append_getElem (by omega)]
    exact (insI_perm _ _).trans ((List.Perm.cons _ ih).trans (List.perm_append_singleton _ _).symm)
def asc (l : List Int) : Prop := ∀ a b (ha : a < l.length) (hb : b < l.length), a ≤ b → l[a] ≤ l[b]
theorem insI_at (out : List Int) (c : Int) (x : Nat) (hx : x < (insI out c).length) : (insI out c)[x] = if x < atI out c then out.getD x 0 else if x = atI out c then c else out.getD (x - 1) 0 := by
  have hal := atI_le out c
  have hxl : x < out.length + 1 := by rw [insI_len] at hx; exact hx
  have hg : (insI out c)[x]? = if x < atI out c then out[x]? else if x = atI out c then some c else out[x - 1]? := by
    unfold insI
    rw [List.getElem?_append, List.length_take, Nat.min_eq_left hal]
    by_cases h : x < atI out c
    · rw [if_pos h, if_pos h, List.getElem?_take_of_lt h]
    · rw [if_neg h, if_neg h]
      by_cases h2 : x = atI out c
      · rw [if_pos h2, h2, Nat.sub_self]; rfl
      · rw [if_neg h2]
        obtain ⟨d, hd⟩ : ∃ d, x - atI out c = d + 1 := ⟨x - atI out c - 1, by omega⟩
        rw [hd, List.getElem?_cons_succ, List.getElem?_drop]
        congr 1
        omega
  have := (List.getElem?_eq_getElem hx).symm.trans hg
  by_cases h : x < atI out c
  · rw [if_pos h] at this ⊢
    rw [List.getD, ← this]; rfl
  · rw [if_neg h] at this ⊢
    by_cases h2 : x = atI out c
    · rw [if_pos h2] at this ⊢
      exact Option.some.inj this
    · rw [if_neg h2] at this ⊢
      rw [List.getD, ← this]; rfl
theorem insI_asc (out : List Int) (c : Int) (h : asc out) : asc (insI out c) := by
  intro a b ha hb hab
  rw [insI_at, insI_at]
  have hal := atI_le out c
  rw [insI_len] at ha hb
  have hget : ∀ x (hx : x < out.length), out.getD x 0 = out[x] := fun x hx => by simp [List.getD, List.getElem?_eq_getElem hx]
  have hhi : ∀ x (hx : x < out.length), atI out c ≤ x → c ≤ out[x] := fun x hx hax => by
    have h1 := atI_here out c (by omega)
    have h2 := h (atI out c) x (by omega) hx hax
    omega
  by_cases h1 : a < atI out c
  · rw [if_pos h1, hget a (by omega)]
    by_cases h2 : b < atI out c
    · rw [if_pos h2, hget b (by omega)]; exact h a b (by omega) (by omega) hab
    · rw [if_neg h2]
      have hl := atI_low out c a h1 (by omega)
      by_cases h3 : b = atI out c
      · rw [if_pos h3]; exact hl
      · rw [if_neg h3, hget (b - 1) (by omega)]; exact h a (b - 1) (by omega) (by omega) (by omega)
  · have h2 : ¬ b < atI out c := by omega
    rw [if_neg h1, if_neg h2]
    by_cases h3 : a = atI out c
    · rw [if_pos h3]
      by_cases h4 : b = atI out c
      · rw [if_pos h4]; exact Int.le_refl _
      · rw [if_neg h4, hget (b - 1) (by omega)]; exact hhi (b - 1) (by omega) (by omega)
    · have h4 : ¬ b = atI out c := by omega
      rw [if_neg h3, if_neg h4, hget (a - 1) (by omega), hget (b - 1) (by omega)]
      exact h (a - 1) (b - 1) (by omega) (by omega) (by omega)
theorem isrtK_asc (zs : List Int) : ∀ k, asc (isrtK zs k)
  | 0 => fun a b ha _ _ => absurd ha (by simp [isrtK])
  | k + 1 => insI_asc _ _ (isrtK_asc zs k)
theorem isrt_srt (zs : List Int) : isrt zs = srtL zs := by
  have h1 : (isrt zs).Perm (srtL zs) := by
    have := isrtK_perm zs zs.length (Nat.le_refl _)
    rw [List.take_length] at this
    exact this.trans (List.mergeSort_perm zs _).symm
  have h2 : (isrt zs).Pairwise (fun x y => x ≤ y) := by
    rw [List.pairwise_iff_getElem]
    intro a b ha hb hab
    exact isrtK_asc zs zs.length a b ha hb (by omega)
  have h3 : (srtL zs).Pairwise (fun x y => x ≤ y) := by
    have := List.pairwise_mergeSort (le := fun (x y : Int) => decide (x ≤ y)) (fun a b c h1 h2 => by simp at h1 h2 ⊢; omega) (fun a b => by simp; omega) zs
    exact this.imp (fun h => by simpa using h)
  exact List.Perm.eq_of_pairwise (fun a b _ _ h1 h2 => by omega) h2 h3 h1
theorem ctL_len (M : Mach) (hok : M.Ok) (q n : Int) : (ctL M q n).length ≤ 243 := by
  by_cases h : ctC M q n = 0
  · obtain ⟨L, S, qq, nn, hg, rfl, hq, rfl, hn, e1, _, _, _⟩ := ct_good hok h
    rw [e1]
    have h2 := hg.L2
    exact Nat.le_trans (cs_ok _ (perm_in hg qq nn hq) _ (Nat.le_refl _)).2 (by rw [permL_len]; exact pow_le L nn hg.L3 (by omega))
  · unfold ctL
    rw [if_neg h]
    simp
theorem ctR_len (M : Mach) (hok : M.Ok) (q n : Int) : (ctR M q n).length ≤ 1048576 := by
  unfold ctR
  rw [isrt_len]
  have := ctL_len M hok q n
  omega

set_option maxRecDepth 100000 in
set_option maxHeartbeats 1000000 in
theorem iCycleType_calls (M : Mach) (hok : M.Ok) (q n : Int) (w : World) :
    Calls Try.prog 23 #[.agg (mc M), .int .i64 q, .int .i64 n] w fun e w' => ∃ v, e = .returned (.tuple #[v, .int .i64 (ctC M q n)]) ∧ OwnI w' w.heap.size v (ctR M q n) ∧ Below w.heap.size w w' := by
  have F1 : Hid (cut (mc M) 0 98 = mc M) := Lib.hid (cut_all _ _ (mc_size hok)); have F2 : Hid (0 + 98 ≤ (mc M).size) := Lib.hid (by rw [mc_size hok]; omega)
  have hB : Blk (w.alloc (.cells (mc M) 29)) w.heap.size (mc M) 29 := Blk.new w _ _
  have hbw0 : Below w.heap.size w (w.alloc (.cells (mc M) 29)) := by (repeat (first | exact Below.refl _ _ | refine below_drew' ?_ | refine below_drewN' ?_ _ | refine below_alloc' ?_ _ | refine below_set' ?_ (by (try simp); (try omega)) _ | refine below_step ?_ (by assumption)))
  have HP := Lib.hid (cyclesOf_calls M hok q n (w.alloc (.cells (mc M) 29)))
  have HR : Hid (ctR M q n = srtL (ctL M q n)) := Lib.hid (isrt_srt _)
  have hl := ctL_len M hok q n
  rw [HR.out]
  generalize ctL M q n = cl at *
  generalize ctC M q n = cc at *
  go_enter Try.func23, Try.ntmps23
  go_wp2_with (first | (with_reducible show wpList _ _ _ _ _ _; refine wpList_load_blk rfl 29 (.tmp 3) rfl w.heap.size 0 rfl (mc M) _ (hB) 98 F2.out _ Try.underlying29 rfl size_mach ?_; rw [F1.out]) | (go_at_call 52; refine HP.out.mono ?_; rintro e w1 ⟨v1, rfl, hO1, hb1⟩; have hbw1 := below_step hbw0 hb1; have hs1 := hb1.size; simp at hs1) | (go_at_call 53; refine (Sort_calls _ v1 cl (by omega) w1 hb1.size hO1).mono ?_; rintro e w2 ⟨rfl, hO2, hb2⟩))
  go_ret2
  exact ⟨_, rfl, hO2.base_le' (by simp), hbw1.trans (below_le hb2 (by simp))⟩
end Go.Proofs.Yticnpajbefflbaa
