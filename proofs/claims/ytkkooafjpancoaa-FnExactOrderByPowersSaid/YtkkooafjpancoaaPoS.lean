/- 'PowerOfState': plain data; the program's closure. · 'PowerOfState' and 'MachineOfState': the program. Written by gen/genpo.py. · 'PowerOfState' and 'MachineOfState': the model. Written by gen/genpo.py. -/
import Derived.Test.YtkkooafjpancoaaPdI
import Derived.Test.YtkkooafjpancoaaAcD
import Derived.Test.YtkkooafjpancoaaTvS
import Derived.Laws.MakeOwn
namespace Go.Proofs.Ytkkooafjpancoaa
open Go.RowKit

set_option maxRecDepth 100000 in
theorem facs_b (L : Nat) (M : Mach) (S q b b' : Nat) : ∀ (n : Nat) (P : Mach), facs L P (List.replicate n ⟨M, S, b, q⟩) = facs L P (List.replicate n ⟨M, S, b', q⟩)
  | 0, _ => rfl
  | n + 1, P => by
    rw [List.replicate_succ, List.replicate_succ]
    by_cases h : (prodQ P M L S (0 * S + q)).length ≤ 16
    · rw [facs_next (f := ⟨M, S, b, q⟩) h, facs_next (f := ⟨M, S, b', q⟩) h]
      exact facs_b L M S q b b' n _
    · rw [facs_up (f := ⟨M, S, b, q⟩) h, facs_up (f := ⟨M, S, b', q⟩) h]
theorem facs_good {L : Nat} (fs : List Fac) : ∀ (P : Mach) (SP : Nat), (∀ f ∈ fs, Good f.m L f.S ∧ f.q < f.S) → Good P L SP → 0 < SP → (facs L P fs).2 = true → ∃ SQ, Good (facs L P fs).1 L SQ ∧ 0 < SQ := by
  induction fs with
  | nil => exact fun P SP _ hP h0 _ => ⟨SP, hP, h0⟩
  | cons f fs ih =>
    intro P SP hfs hP h0 h2
    by_cases h : (prodQ P f.m L f.S (0 * f.S + f.q)).length ≤ 16
    · have e := facs_next (P := P) (f := f) (fs := fs) h
      rw [e] at h2 ⊢
      obtain ⟨hf, hq⟩ := hfs f (by simp)
      have hidx : 0 * f.S + f.q < SP * f.S := by
        calc 0 * f.S + f.q < f.S := by omega
          _ ≤ SP * f.S := Nat.le_mul_of_pos_left _ h0
      have hpos : 0 < (prodQ P f.m L f.S (0 * f.S + f.q)).length := by unfold prodQ setQ; exact bAll_pos _ _ _
      exact ih _ _ (fun g hg => hfs g (by simp [hg])) (prodM_good hP hf hidx h) hpos h2
    · have e := facs_up (P := P) (f := f) (fs := fs) h
      rw [e] at h2
      cases h2
/-- One factor more, as the model takes it. -/
theorem facs_step {L : Nat} {P M : Mach} {S b q n : Nat} : (ltB (prA P M S) L (0 * S + q) = true → facs L P (List.replicate (n + 1) ⟨M, S, b, q⟩) = facs L (ltR (prA P M S) L (0 * S + q)) (List.replicate n ⟨M, S, b, q⟩)) ∧ (ltB (prA P M S) L (0 * S + q) = false → (facs L P (List.replicate (n + 1) ⟨M, S, b, q⟩)).2 = false) := by
  rw [List.replicate_succ]
  refine ⟨fun h => ?_, fun h => ?_⟩
  · obtain ⟨h1, h2⟩ := ltB_yes h
    rw [facs_next (f := ⟨M, S, b, q⟩) h1, h2]; rfl
  · rw [facs_up (f := ⟨M, S, b, q⟩) (ltB_no h).1]

/-! ### Slices of guides -/
def gdC (b : Nat) (q : Int) (k n : Nat) : Array Value := ((List.range (n * 2)).map fun j => if j % 2 = 0 then (if j / 2 < k then Value.pointer (some ⟨b, 0, none⟩) else Value.pointer none) else (if j / 2 < k then Value.int .i64 q else Value.int .i64 0)).toArray
theorem gd_size (b : Nat) (q : Int) (k n : Nat) : (gdC b q k n).size = n * 2 := by simp [gdC]
theorem gd_get (b : Nat) (q : Int) (k n j : Nat) (hj : j < n * 2) : (gdC b q k n)[j]? = some (if j % 2 = 0 then (if j / 2 < k then Value.pointer (some ⟨b, 0, none⟩) else Value.pointer none) else (if j / 2 < k then Value.int .i64 q else Value.int .i64 0)) := by
  simp [gdC, hj]
theorem gd_zero (b : Nat) (q : Int) (n : Nat) : madeCells (Value.agg #[.pointer none, .int .i64 0]).cells (n * 2) = gdC b q 0 n := by
  apply Array.ext
  · simp [madeCells, gdC]
  · intro i h1 h2
    have hi : i < n * 2 := by simpa [gdC] using h2
    have e := gd_get b q 0 n i hi
    rw [Array.getElem?_eq_getElem h2] at e
    rw [Option.some.inj e]
    rcases (show i % 2 = 0 ∨ i % 2 = 1 by omega) with h | h
    · simp [madeCells, Value.cells, h]
    · simp [madeCells, Value.cells, h]
theorem gd_set (b : Nat) (q : Int) (k n : Nat) (hk : k < n) : over (gdC b q k n) (k * 2) #[.pointer (some ⟨b, 0, none⟩), .int .i64 q] = gdC b q (k + 1) n := by
  apply Array.ext_getElem?
  intro i
  have hlt : k * 2 + 2 ≤ n * 2 := by omega
  have hs : (#[Value.pointer (some ⟨b, 0, none⟩), Value.int .i64 q] : Array Value).size = 2 := rfl
  rw [over_get _ _ _ (by rw [gd_size, hs]; exact hlt), hs]
  by_cases hi : i < n * 2
  · rw [gd_get b q (k + 1) n i hi]
    by_cases h1 : i < k * 2
    · rw [if_pos h1, gd_get b q k n i hi]
      have e1 : i / 2 < k := by omega
      have e2 : i / 2 < k + 1 := by omega
      simp [e1, e2]
    · rw [if_neg h1]
      by_cases h2 : i < k * 2 + 2
      · rw [if_pos h2]
        rcases (show i = k * 2 ∨ i = k * 2 + 1 by omega) with rfl | rfl
        · simp
        · have e1 : (k * 2 + 1) % 2 = 1 := by omega
          have e2 : (k * 2 + 1) / 2 = k := by omega
          simp [e1, e2]
      · rw [if_neg h2, gd_get b q k n i hi]
        have e1 : ¬ i / 2 < k := by omega
        have e2 : ¬ i / 2 < k + 1 := by omega
        simp [e1, e2]
  · rw [Array.getElem?_eq_none (by rw [gd_size]; omega), if_neg (by omega), if_neg (by omega), Array.getElem?_eq_none (by rw [gd_size]; omega)]
theorem infob_guide : (Try.prog.info? 57).map (fun i => (i.zero, i.size, i.bytes)) = some (some (.agg #[.pointer none, .int .i64 0]), 2, 16) := by kernel_rfl
theorem mk_guides (b : Nat) (q : Int) (n : Nat) (hn : n ≤ 1048576) (W : World) : (Instr.makeSlice 64 (.int .i64 n) (.int .i64 n)).run Try.prog W = .ok (.slice (some ⟨W.heap.size, 0, none⟩) n n) (W.alloc (.cells (gdC b q 0 n) 57)) := by
  obtain ⟨i0, hi, hz0, hz1, hz2⟩ := info_parts infob_guide
  have := run_make (P := Try.prog) W 64 57 i0 (.agg #[.pointer none, .int .i64 0]) Try.underlying64 hi hz0 .i64 .i64 n n (by omega) (by omega) (by rw [hz2]; omega) (by omega)
  rwa [hz1, Int.toNat_natCast, gd_zero b q] at this
theorem sees_guides {W : World} {g b : Nat} {q : Nat} {n : Nat} (hB : Blk W g (gdC b (q : Int) n n) 57) (M : Mach) (S : Nat) : SeesG W (.slice (some ⟨g, 0, none⟩) n n) (List.replicate n ⟨M, S, b, q⟩) := by
  refine ⟨some ⟨g, 0, none⟩, n, by simp, fun _ => ⟨g, _, rfl, hB, fun i hi => ?_⟩⟩
  have hi' : i < n := by simpa using hi
  have e1 : (i * 2 + 1) % 2 = 1 := by omega
  have e2 : (i * 2 + 1) / 2 = i := by omega
  rw [gd_get b q n n (i * 2) (by omega), gd_get b q n n (i * 2 + 1) (by omega)]
  simp [hi', e1, e2]

/-! ### What 'PowerOfState' answers -/
def poM (M : Mach) (L S : Nat) (n : Int) : Mach := if n < 0 then invM M L S else M
theorem poM_good {M : Mach} {L S : Nat} (hg : Good M L S) (n : Int) : Good (poM M L S n) L S := by
  unfold poM; split
  · exact hg.inv
  · exact hg
def poF (M : Mach) (q n : Int) : Mach × Bool := facs M.L.toNat (trivM M.L.toNat) (List.replicate n.natAbs ⟨poM M M.L.toNat M.S.toNat n, M.S.toNat, 0, q.toNat⟩)
theorem poF_eq {M : Mach} {L S : Nat} (hg : Good M L S) (b q : Nat) (n : Int) : poF M (q : Int) n = facs L (trivM L) (List.replicate n.natAbs ⟨poM M L S n, S, b, q⟩) := by
  unfold poF
  rw [hg.hL, hg.hS, Int.toNat_natCast, Int.toNat_natCast, Int.toNat_natCast]
  exact facs_b L _ S q 0 b _ _
def fR (x : Mach × Bool) : Mach := if x.2 = true then x.1 else zeroM
def fC (x : Mach × Bool) : Int := if x.2 = true then 0 else 3
def poR (M : Mach) (q n : Int) : Mach := if pwC M q n (-16) = 0 then fR (poF M q n) else zeroM
def poC (M : Mach) (q n : Int) : Int := if pwC M q n (-16) = 0 then fC (poF M q n) else pwC M q n (-16)
theorem pwC_good {M : Mach} (hok : M.Ok) {q n l : Int} (h : pwC M q n l = 0) : ∃ L S qn, Good M L S ∧ q = ((qn : Nat) : Int) ∧ qn < S ∧ l ≤ n ∧ n ≤ 16 := by
  unfold pwC at h
  by_cases h1 : isMach M = true
  · by_cases h2 : inS M q = true
    · by_cases h3 : l ≤ n ∧ n ≤ 16
      · obtain ⟨L, S, hM⟩ := Good.of hok h1
        unfold inS at h2
        rw [decide_eq_true_eq, hM.hS] at h2
        exact ⟨L, S, q.toNat, hM, (Int.toNat_of_nonneg h2.1).symm, by omega, h3.1, h3.2⟩
      · simp [h1, h2, h3] at h
    · simp [h1, h2] at h
  · simp [h1] at h
theorem fR_ok {L : Nat} (h2 : 2 ≤ L) (h3 : L ≤ 3) {fs : List Fac} (hfs : ∀ f ∈ fs, Good f.m L f.S ∧ f.q < f.S) : (fR (facs L (trivM L) fs)).Ok := by
  unfold fR
  split
  · rename_i h
    obtain ⟨SQ, hQ, _⟩ := facs_good fs (trivM L) 1 hfs (trivM_good h2 h3) (by omega) h
    exact hQ.ok
  · exact zeroM_ok
theorem rep_good {M : Mach} {L S : Nat} (hg : Good M L S) (b q n : Nat) (hq : q < S) : ∀ f ∈ List.replicate n (Fac.mk M S b q), Good f.m L f.S ∧ f.q < f.S := fun f hf => by
  rw [List.eq_of_mem_replicate hf]
  exact ⟨hg, hq⟩
theorem poR_ok {M : Mach} (hok : M.Ok) (q n : Int) : (poR M q n).Ok := by
  unfold poR
  split
  · rename_i h
    obtain ⟨L, S, qn, hg, rfl, hq, _, _⟩ := pwC_good hok h
    rw [poF_eq hg 0 qn n]
    exact fR_ok hg.L2 hg.L3 (rep_good (poM_good hg n) 0 qn _ hq)
  · exact zeroM_ok
theorem inv_res {M : Mach} {L S : Nat} (hg : Good M L S) (hm : isMach M = true) : invRes M = invM M L S ∧ invCode M = 0 := by
  unfold invRes invCode
  rw [if_pos hm, if_pos hm, hg.hL, hg.hS, Int.toNat_natCast, Int.toNat_natCast]
  exact ⟨rfl, rfl⟩

/-! ### The program's closure -/
section
variable (M : Mach) (L S : Nat) (hg : Good M L S) (q n : Nat) (hq : q < S) (hn : n ≤ 16) (bm bs g : Nat) (w : World) (hM : Blk w bm (mc M) 28) (hS : Blk w bs #[.slice (some ⟨g, 0, none⟩) n n] 64) (hG : Blk w g (gdC bm (q : Int) n n) 57)
include hg hq hn hM hS hG
set_option maxRecDepth 100000 in
set_option maxHeartbeats 1000000 in
theorem poClosure_ok (h : (facs L (trivM L) (List.replicate n ⟨M, S, bm, q⟩)).2 = true) :
    Calls Try.prog 56 #[.pointer (some ⟨bm, 0, none⟩), .pointer (some ⟨bs, 0, none⟩)] w fun e w' => e = .returned (.agg (mc (facs L (trivM L) (List.replicate n ⟨M, S, bm, q⟩)).1)) ∧ Below w.heap.size w w' := by
  have hz := zero_mach
  have HzS : Hid ((mc zeroM).size = 98) := Lib.hid (mc_size zeroM_ok)
  have hfs := rep_good hg bm q n hq
  obtain ⟨SQ, hQ, _⟩ := facs_good _ (trivM L) 1 hfs (trivM_good hg.L2 hg.L3) (by omega) h
  have HP := Lib.hid (fun W (h1 : Blk W bm (mc M) 28) (h2 : Blk W g (gdC bm (q : Int) n n) 57) => productOf_calls L hg.L2 hg.L3 (List.replicate n ⟨M, S, bm, q⟩) (by simp; omega) hfs _ W (sees_guides h2 M S) (fun f hf => by rw [List.eq_of_mem_replicate hf]; exact h1))
  unfold facsOk at HP
  simp only [h, if_true] at HP
  have hcL := mc_L M
  rw [hg.hL] at hcL
  have HRs := Lib.hid (mc_size hQ.ok)
  generalize (facs L (trivM L) (List.replicate n ⟨M, S, bm, q⟩)).1 = R at *
  have Hov : Hid (over (mc zeroM) 0 (mc R) = mc R) := Lib.hid (over_all _ _ (by rw [HRs.out, HzS.out]))
  have hM0 := hM.alloc (.cells (mc zeroM) 28)
  have hG0 := hG.alloc (.cells (mc zeroM) 28)
  have cS : (w.alloc (.cells (mc zeroM) 28)).cell? ⟨bs, 0, none⟩ = some (.slice (some ⟨g, 0, none⟩) n n) := (hS.alloc (.cells (mc zeroM) 28)).cell 0
  have cL := (hM0.cell 0).trans hcL
  have hX0 : Blk (w.alloc (.cells (mc zeroM) 28)) w.heap.size (mc zeroM) 28 := Blk.new _ _ _
  have hb0 : Below w.heap.size w (w.alloc (.cells (mc zeroM) 28)) := by (repeat (first | exact Below.refl _ _ | refine below_drew' ?_ | refine below_drewN' ?_ _ | refine below_alloc' ?_ _ | refine below_set' ?_ (by (try simp); (try omega)) _ | refine below_step ?_ (by assumption)))
  clear h hM hG hS hg hQ hfs hcL hq hn
  go_enter Try.func56, Try.ntmps56
  go_wp2_with (first | (go_at_call 53; refine (HP.out _ hM0 hG0).mono ?_; rintro e w1 ⟨rfl, hc1⟩; have hX1 := hX0.keptAll hc1; have hb1 := below_step hb0 hc1) | ((with_reducible show wpList _ _ _ _ _ _); refine wpList_store_blk rfl 28 (.tmp 2) (.tmp 6) rfl w.heap.size 0 (mc R) rfl rfl (mc zeroM) 28 hX1 (by rw [HRs.out, HzS.out]; omega) (by rw [HRs.out]; exact size_mach) (mc_one _) ?_; intro w5 hb5 hkeep _ hbl; rw [Hov.out] at hb5; have hbw5 := hbl w.heap.size w (Nat.le_refl _) hb1; clear hkeep hbl))
  exact bodyPost_cell rfl rfl hb5 Try.underlying28 rfl (by rw [HRs.out]; exact size_mach) rfl ⟨rfl, hbw5⟩
set_option maxRecDepth 100000 in
set_option maxHeartbeats 1000000 in
theorem poClosure_up (h : (facs L (trivM L) (List.replicate n ⟨M, S, bm, q⟩)).2 = false) :
    Calls Try.prog 56 #[.pointer (some ⟨bm, 0, none⟩), .pointer (some ⟨bs, 0, none⟩)] w fun e w' => e = gaveUp 3 ∧ Below w.heap.size w w' := by
  have hz := zero_mach
  have hfs := rep_good hg bm q n hq
  have HP := Lib.hid (fun W (h1 : Blk W bm (mc M) 28) (h2 : Blk W g (gdC bm (q : Int) n n) 57) => productOf_calls L hg.L2 hg.L3 (List.replicate n ⟨M, S, bm, q⟩) (by simp; omega) hfs _ W (sees_guides h2 M S) (fun f hf => by rw [List.eq_of_mem_replicate hf]; exact h1))
  unfold facsOk at HP
  simp only [h, Bool.false_eq_true, if_false] at HP
  have hcL := mc_L M
  rw [hg.hL] at hcL
  have hM0 := hM.alloc (.cells (mc zeroM) 28)
  have hG0 := hG.alloc (.cells (mc zeroM) 28)
  have cS : (w.alloc (.cells (mc zeroM) 28)).cell? ⟨bs, 0, none⟩ = some (.slice (some ⟨g, 0, none⟩) n n) := (hS.alloc (.cells (mc zeroM) 28)).cell 0
  have cL := (hM0.cell 0).trans hcL
  have hb0 : Below w.heap.size w (w.alloc (.cells (mc zeroM) 28)) := by (repeat (first | exact Below.refl _ _ | refine below_drew' ?_ | refine below_drewN' ?_ _ | refine below_alloc' ?_ _ | refine below_set' ?_ (by (try simp); (try omega)) _ | refine below_step ?_ (by assumption)))
  clear h hM hG hS hg hfs hcL hq hn
  go_enter Try.func56, Try.ntmps56
  go_wp2_with (go_at_call 53; refine (HP.out _ hM0 hG0).mono ?_; rintro e w1 ⟨he, hc1⟩; have hb1 := below_step hb0 hc1; unfold gaveUp at he; subst he)
  exact ⟨rfl, rfl, hb1⟩
end
/-- The door with this closure. -/
theorem poDoor (M : Mach) (L S : Nat) (hg : Good M L S) (q n : Nat) (hq : q < S) (hn : n ≤ 16) (bm bs g : Nat) (w : World) (hM : Blk w bm (mc M) 28) (hS : Blk w bs #[.slice (some ⟨g, 0, none⟩) n n] 64) (hG : Blk w g (gdC bm (q : Int) n n) 57) :
    Calls Try.prog 48 #[.func (.func 56) #[] #[.pointer (some ⟨bm, 0, none⟩), .pointer (some ⟨bs, 0, none⟩)]] w fun e w' => e = .returned (.tuple #[.agg (mc (fR (facs L (trivM L) (List.replicate n ⟨M, S, bm, q⟩)))), .int .i64 (fC (facs L (trivM L) (List.replicate n ⟨M, S, bm, q⟩)))]) ∧ Below w.heap.size w w' := by
  have hcf : ∀ w : World, (callFunc 56 #[.pointer (some ⟨bm, 0, none⟩), .pointer (some ⟨bs, 0, none⟩)]).run Try.prog w = .ok (.enter 56 #[.pointer (some ⟨bm, 0, none⟩), .pointer (some ⟨bs, 0, none⟩)]) w := fun _ => run_fn _ _ Try.func56 (by kernel_rfl) (by kernel_rfl) _ _
  have hal : Below w.heap.size w ((w.alloc (.cells (mc zeroM) 28)).alloc (.cells #[.int .i64 0] 2)) := by show Below _ _ (World.alloc _ _); (repeat (first | exact Below.refl _ _ | refine below_drew' ?_ | refine below_drewN' ?_ _ | refine below_alloc' ?_ _ | refine below_set' ?_ (by (try simp); (try omega)) _ | refine below_step ?_ (by assumption)))
  have hsz : ((w.alloc (.cells (mc zeroM) 28)).alloc (.cells #[.int .i64 0] 2)).heap.size = w.heap.size + 1 + 1 := by simp
  cases h : (facs L (trivM L) (List.replicate n ⟨M, S, bm, q⟩)).2
  · have e1 : fR (facs L (trivM L) (List.replicate n ⟨M, S, bm, q⟩)) = zeroM := by unfold fR; rw [h]; rfl
    have e2 : fC (facs L (trivM L) (List.replicate n ⟨M, S, bm, q⟩)) = 3 := by unfold fC; rw [h]; rfl
    rw [e1, e2]
    have H := poClosure_up M L S hg q n hq hn bm bs g _ (hM.keptAll hal) (hS.keptAll hal) (hG.keptAll hal) h
    rw [hsz] at H
    exact doorM_up _ _ w 3 hcf H
  · have e1 : fR (facs L (trivM L) (List.replicate n ⟨M, S, bm, q⟩)) = (facs L (trivM L) (List.replicate n ⟨M, S, bm, q⟩)).1 := by unfold fR; rw [if_pos h]
    have e2 : fC (facs L (trivM L) (List.replicate n ⟨M, S, bm, q⟩)) = 0 := by unfold fC; rw [if_pos h]
    rw [e1, e2]
    have H := poClosure_ok M L S hg q n hq hn bm bs g _ (hM.keptAll hal) (hS.keptAll hal) (hG.keptAll hal) h
    rw [hsz] at H
    obtain ⟨SQ, hQ, _⟩ := facs_good _ (trivM L) 1 (rep_good hg bm q n hq) (trivM_good hg.L2 hg.L3) (by omega) h
    exact doorM_ok _ _ w _ (mc_size hQ.ok) hcf H
end Go.Proofs.Ytkkooafjpancoaa

namespace Go.Proofs.Ytkkooafjpancoaa
open Go.RowKit

theorem pwC_mach {M : Mach} {q n l : Int} (h : pwC M q n l = 0) : isMach M = true := by
  unfold pwC at h
  by_cases h1 : isMach M = true
  · exact h1
  · simp [h1] at h
/-- What 'MachineOfState' answers. -/
def moR (M : Mach) (q : Int) : Mach := if stC M q = 0 then stN M q else zeroM
theorem stC_pw (M : Mach) (q : Int) : pwC M q 1 (-16) = stC M q := by
  unfold pwC stC
  split
  · split
    · simp
    · rfl
  · rfl
theorem stC_good {M : Mach} (hok : M.Ok) {q : Int} (h : stC M q = 0) : ∃ L S qn, Good M L S ∧ q = ((qn : Nat) : Int) ∧ qn < S := by
  rw [← stC_pw] at h
  obtain ⟨L, S, qn, hg, e, hq, _, _⟩ := pwC_good hok h
  exact ⟨L, S, qn, hg, e, hq⟩
set_option maxRecDepth 100000 in
theorem facs_own {M : Mach} {L S : Nat} (hg : Good M L S) (b q : Nat) (hq : q < S) : facs L (trivM L) [⟨M, S, b, q⟩] = (stM M L q, true) := by
  obtain ⟨h1, h2⟩ := triv_prod hg hq
  have h3 : (prodQ (trivM L) M L S (0 * S + q)).length ≤ 16 := by rw [Nat.zero_mul, Nat.zero_add, h2]; exact stQ_le hg hq
  rw [facs_next (P := trivM L) (f := ⟨M, S, b, q⟩) (fs := []) h3]
  show (prodM (trivM L) M L S (0 * S + q), true) = _
  rw [Nat.zero_mul, Nat.zero_add, h1]
theorem mo_eq {M : Mach} (hok : M.Ok) (q : Int) : poR M q 1 = moR M q ∧ poC M q 1 = stC M q := by
  unfold poR poC moR
  rw [stC_pw]
  by_cases h : stC M q = 0
  · obtain ⟨L, S, qn, hg, rfl, hq⟩ := stC_good hok h
    rw [if_pos h, if_pos h, if_pos h, poF_eq hg 0 qn 1, stN_eq hg]
    have e : poM M L S 1 = M := by unfold poM; rw [if_neg (by omega)]
    have e2 : List.replicate (1 : Int).natAbs (Fac.mk M S 0 qn) = [⟨M, S, 0, qn⟩] := rfl
    rw [e, e2, facs_own hg 0 qn hq]
    exact ⟨by unfold fR; rw [if_pos rfl], by unfold fC; rw [if_pos rfl, h]⟩
  · rw [if_neg h, if_neg h, if_neg h]
    exact ⟨rfl, rfl⟩
theorem moR_ok {M : Mach} (hok : M.Ok) (q : Int) : (moR M q).Ok := by
  rw [← (mo_eq hok q).1]; exact poR_ok hok q 1

set_option maxRecDepth 100000 in
set_option maxHeartbeats 8000000 in
theorem iPowerOfState_calls (M : Mach) (hok : M.Ok) (q n : Int) (w : World) :
    Calls Try.prog 28 #[.agg (mc M), .int .i64 q, .int .i64 n] w fun e w' => e = .returned (.tuple #[.agg (mc (poR M q n)), .int .i64 (poC M q n)]) ∧ Below w.heap.size w w' := by
  have hz := zero_mach
  have F1 : Hid (cut (mc M) 0 98 = mc M) := Lib.hid (cut_all _ _ (mc_size hok))
  have F2 : Hid (0 + 98 ≤ (mc M).size) := Lib.hid (by rw [mc_size hok]; omega)
  have HzS : Hid ((mc zeroM).size = 98) := Lib.hid (mc_size zeroM_ok)
  have HMs : Hid ((mc M).size = 98) := Lib.hid (mc_size hok)
  have hM0 : Blk ((w.alloc (.cells (mc M) 28)).alloc (.cells (mc zeroM) 28)) w.heap.size (mc M) 28 := (Blk.new w _ _).alloc _
  have hX0 : Blk ((w.alloc (.cells (mc M) 28)).alloc (.cells (mc zeroM) 28)) (w.heap.size + 1) (mc zeroM) 28 := Blk.new_at _ _ _ _ (by simp)
  have hb0 : Below w.heap.size w ((w.alloc (.cells (mc M) 28)).alloc (.cells (mc zeroM) 28)) := by show Below _ _ (World.alloc _ _); (repeat (first | exact Below.refl _ _ | refine below_drew' ?_ | refine below_drewN' ?_ _ | refine below_alloc' ?_ _ | refine below_set' ?_ (by (try simp); (try omega)) _ | refine below_step ?_ (by assumption)))
  by_cases h0 : pwC M q n (-16) = 0
  · obtain ⟨L, S, qn, hg, rfl, hq, hn1, hn2⟩ := pwC_good hok h0
    have hm : isMach M = true := pwC_mach h0
    by_cases hs : n < 0
    · skip
      have HCh := Lib.hid (fun W => checkPower_calls M hok qn n (-16) W)
      rw [h0] at HCh
      have hgN := poM_good hg n
      have HRR : Hid (poR M qn n = fR (facs L (trivM L) (List.replicate n.natAbs ⟨poM M L S n, S, w.heap.size, qn⟩))) := Lib.hid (by unfold poR; rw [if_pos h0, poF_eq hg w.heap.size qn n])
      have HCC : Hid (poC M qn n = fC (facs L (trivM L) (List.replicate n.natAbs ⟨poM M L S n, S, w.heap.size, qn⟩))) := Lib.hid (by unfold poC; rw [if_pos h0, poF_eq hg w.heap.size qn n])
      have hK : n.natAbs ≤ 16 := by omega
      have HD := Lib.hid (fun W bs g h1 h2 h3 => poDoor (poM M L S n) L S hgN qn n.natAbs hq hK w.heap.size bs g W h1 h2 h3)
      have HRs := Lib.hid (mc_size (fR_ok hg.L2 hg.L3 (rep_good hgN w.heap.size qn n.natAbs hq)))
      have HNs := Lib.hid (mc_size hgN.ok)
      have hmk := fun W => mk_guides w.heap.size (qn : Int) n.natAbs (by omega) W
      have HInv : Hid (∀ W, Calls Try.prog 41 #[.agg (mc M)] W fun e w' => e = .returned (.tuple #[.agg (mc (poM M L S n)), .int .i64 0]) ∧ Below W.heap.size W w') := Lib.hid (fun W => by
        have := iInverseMachine_calls M hok W
        rw [(inv_res hg hm).1, (inv_res hg hm).2] at this
        unfold poM; rw [if_pos hs]; exact this)
      have hwn : IntKind.i64.wrap (-n) = ((n.natAbs : Nat) : Int) := by
        have e : -n = ((n.natAbs : Nat) : Int) := by omega
        rw [e]; simp [IntKind.wrap, IntKind.bits, IntKind.signed]; omega
      clear h0 hg hgN hm
      generalize fR (facs L (trivM L) (List.replicate n.natAbs ⟨poM M L S n, S, w.heap.size, qn⟩)) = R at *
      generalize fC (facs L (trivM L) (List.replicate n.natAbs ⟨poM M L S n, S, w.heap.size, qn⟩)) = C at *
      generalize poM M L S n = N at *
      generalize n.natAbs = K at *
      have Hov : Hid (over (mc zeroM) 0 (mc R) = mc R) := Lib.hid (over_all _ _ (by rw [HRs.out, HzS.out]))
      have HoN : Hid (over (mc M) 0 (mc N) = mc N) := Lib.hid (over_all _ _ (by rw [HNs.out, HMs.out]))
      go_enter Try.func28, Try.ntmps28
      go_wp2_with (first | (with_reducible show wpList _ _ _ _ _ _; refine wpList_load_blk rfl 28 (.tmp 3) rfl w.heap.size 0 rfl (mc M) _ (by first | exact hM1 | exact hM0) 98 F2.out _ Try.underlying28 rfl size_mach ?_; rw [F1.out]) | (go_at_call 55; refine (HCh.out _).mono ?_; rintro e w1 ⟨rfl, hc1⟩; have hM1 := hM0.keptAll hc1; have hX1 := hX0.keptAll hc1; have hb1 := below_step hb0 hc1) | (go_at_call 41; refine (HInv.out _).mono ?_; rintro e w2 ⟨rfl, hc2⟩; have hM2 := hM1.keptAll hc2; have hX2 := hX1.keptAll hc2; have hb2 := below_step hb1 hc2) | ((with_reducible show wpList _ _ _ _ _ _); refine wpList_store_blk rfl 28 (.tmp 3) (.tmp 24) rfl w.heap.size 0 (mc N) rfl rfl (mc M) 28 hM2 (by first | (rw [HNs.out, HMs.out]; omega) | (rw [HNs.out]; omega)) (by rw [HNs.out]; exact size_mach) (mc_one _) ?_; intro w3 hXw3 hkeep hsz hbl; clear hsz; rw [HoN.out] at hXw3; have hbw3 := hbl w.heap.size w (Nat.le_refl _) hb2; have hM3 := hXw3; have hX3 := hkeep (w.heap.size + 1) _ _ (by omega) hX2; have hb3 := hbw3; clear hkeep hbl))
      clear hM0 hX0 hb0 hM1 hX1 hb1 hM2 hX2 hb2 hc1 hc2 hbw3 hXw3

      have hltX := hX3.lt
      have hge3 := hb3.size
      have hM4 := (hM3.alloc (.cells (gdC w.heap.size (qn : Int) 0 K) 57)).alloc (.cells #[.slice (some ⟨w3.heap.size, 0, none⟩) K K] 64)
      have hX4 := (hX3.alloc (.cells (gdC w.heap.size (qn : Int) 0 K) 57)).alloc (.cells #[.slice (some ⟨w3.heap.size, 0, none⟩) K K] 64)
      have hb4 := below_alloc' (below_alloc' hb3 (.cells (gdC w.heap.size (qn : Int) 0 K) 57)) (.cells #[.slice (some ⟨w3.heap.size, 0, none⟩) K K] 64)
      have hG4 : Blk ((w3.alloc (.cells (gdC w.heap.size (qn : Int) 0 K) 57)).alloc (.cells #[.slice (some ⟨w3.heap.size, 0, none⟩) K K] 64)) w3.heap.size (gdC w.heap.size (qn : Int) 0 K) 57 := (Blk.new _ _ _).alloc _
      have hS4 : Blk ((w3.alloc (.cells (gdC w.heap.size (qn : Int) 0 K) 57)).alloc (.cells #[.slice (some ⟨w3.heap.size, 0, none⟩) K K] 64)) (w3.heap.size + 1) #[.slice (some ⟨w3.heap.size, 0, none⟩) K K] 64 := Blk.new_at _ _ _ _ (by simp)
      clear hM3 hX3 hb3 hmk
      generalize (w3.alloc (.cells (gdC w.heap.size (qn : Int) 0 K) 57)).alloc (.cells #[.slice (some ⟨w3.heap.size, 0, none⟩) K K] 64) = w4 at *
      obtain ⟨g, hg⟩ : ∃ g, w3.heap.size = g := ⟨_, rfl⟩
      rw [hg] at hG4 hS4 hltX hge3 ⊢
      clear hg
      go_loopw [32] (fun cv wr => ∃ k : Nat, k ≤ K ∧ cv = .int .i64 k ∧ Blk wr w.heap.size (mc N) 28 ∧ Blk wr (w.heap.size + 1) (mc zeroM) 28 ∧ Blk wr g (gdC w.heap.size (qn : Int) k K) 57 ∧ Blk wr (g + 1) #[.slice (some ⟨g, 0, none⟩) K K] 64 ∧ Below w.heap.size w wr) (fun cv _ => K - (intOf cv).toNat)
      case atStart => exact ⟨0, by omega, rfl, hM4, hX4, hG4, hS4, hb4⟩
      case round =>
        clear hM4 hX4 hG4 hS4 hb4
        obtain ⟨k, hk, rfl, hM, hX, hG, hS, hbw⟩ := hrel
        by_cases hkK : k < K
        · have hki : (k : Int) < (K : Int) := by omega
          have cS : wr.cell? ⟨g + 1, 0, none⟩ = some (.slice (some ⟨g, 0, none⟩) K K) := hS.cell 0
          have Hset := Lib.hid (gd_set w.heap.size (qn : Int) k K hkK)
          have Hgs := Lib.hid (gd_size w.heap.size (qn : Int) k K)
          go_wp2_with (first | ((with_reducible show wpList _ _ _ _ _ _); refine wpList_build2 rfl 57 0 1 (.tmp 3) (.tmp 37) rfl (.pointer (some ⟨w.heap.size, 0, none⟩)) (.int .i64 (qn : Int)) rfl rfl _ (built_gd2 w.heap.size qn) ?_) | ((with_reducible show wpList _ _ _ _ _ _); refine wpList_store_row rfl 57 (.tmp 39) (.tmp 38) rfl g (k * 2) #[.pointer (some ⟨w.heap.size, 0, none⟩), .int .i64 (qn : Int)] rfl rfl _ _ hG (by rw [Hgs.out]; show k * 2 + 2 ≤ K * 2; omega) size_guide (two_one _ _) _ Hset.out ?_; intro w5 hs5))
          have hM5 := hs5.keep (by omega) hM
          have hX5 := hs5.keep (by omega) hX
          have hS5 := hs5.keep (by omega) hS
          have hG5 := hs5.blk
          have hb5 := hs5.below _ _ hge3 hbw
          clear hs5
          go_roundw
          case rel => exact ⟨k + 1, by omega, by go_num, hM5, hX5, hG5, hS5, hb5⟩
          case measure => simp [intOf] <;> omega
        · obtain rfl : K = k := by omega
          have hki : ¬ (K : Int) < (K : Int) := by omega
          have hmf : ∀ (fn : Fn) (first cap : Array Value) (w : World), (Instr.makeFunc fn first cap).run Try.prog w = .ok (.func fn first cap) w := fun _ _ _ _ => rfl
          have Hdoor := Lib.hid (HD.out wr (g + 1) g hM hS hG)
          go_wp2_with (first | (go_at_call 48; refine Hdoor.out.mono ?_; rintro e w6 ⟨rfl, hc6⟩; have hX6 := hX.keptAll hc6; have hb6 := below_step hbw hc6) | ((with_reducible show wpList _ _ _ _ _ _); refine wpList_store_blk rfl 28 (.tmp 6) (.tmp 43) rfl (w.heap.size + 1) 0 (mc R) rfl rfl (mc zeroM) 28 hX6 (by first | (rw [HRs.out, HzS.out]; omega) | (rw [HRs.out]; omega)) (by rw [HRs.out]; exact size_mach) (mc_one _) ?_; intro w7 hXw7 hkeep hsz hbl; clear hsz; rw [Hov.out] at hXw7; have hbw7 := hbl w.heap.size w (by omega) hb6; clear hkeep hbl))
          exact bodyPost_cell1 rfl rfl hXw7 Try.underlying28 rfl (by rw [HRs.out]; exact size_mach) rfl ⟨by rw [HRR.out, HCC.out]; rfl, hbw7⟩

    · skip
      have HCh := Lib.hid (fun W => checkPower_calls M hok qn n (-16) W)
      rw [h0] at HCh
      have hgN := poM_good hg n
      have HRR : Hid (poR M qn n = fR (facs L (trivM L) (List.replicate n.natAbs ⟨poM M L S n, S, w.heap.size, qn⟩))) := Lib.hid (by unfold poR; rw [if_pos h0, poF_eq hg w.heap.size qn n])
      have HCC : Hid (poC M qn n = fC (facs L (trivM L) (List.replicate n.natAbs ⟨poM M L S n, S, w.heap.size, qn⟩))) := Lib.hid (by unfold poC; rw [if_pos h0, poF_eq hg w.heap.size qn n])
      have hK : n.natAbs ≤ 16 := by omega
      have HD := Lib.hid (fun W bs g h1 h2 h3 => poDoor (poM M L S n) L S hgN qn n.natAbs hq hK w.heap.size bs g W h1 h2 h3)
      have HRs := Lib.hid (mc_size (fR_ok hg.L2 hg.L3 (rep_good hgN w.heap.size qn n.natAbs hq)))
      have HNs := Lib.hid (mc_size hgN.ok)
      have hmk := fun W => mk_guides w.heap.size (qn : Int) n.natAbs (by omega) W
      have hpm : poM M L S n = M := by unfold poM; rw [if_neg hs]
      have hnn : n = ((n.natAbs : Nat) : Int) := by omega
      clear h0 hg hgN hm
      generalize fR (facs L (trivM L) (List.replicate n.natAbs ⟨poM M L S n, S, w.heap.size, qn⟩)) = R at *
      generalize fC (facs L (trivM L) (List.replicate n.natAbs ⟨poM M L S n, S, w.heap.size, qn⟩)) = C at *
      rw [hpm] at HD HNs
      clear hpm
      generalize n.natAbs = K at *
      subst hnn
      have Hov : Hid (over (mc zeroM) 0 (mc R) = mc R) := Lib.hid (over_all _ _ (by rw [HRs.out, HzS.out]))
      have hs : ¬ ((K : Int) < 0) := by omega
      go_enter Try.func28, Try.ntmps28
      go_wp2_with (first | (with_reducible show wpList _ _ _ _ _ _; refine wpList_load_blk rfl 28 (.tmp 3) rfl w.heap.size 0 rfl (mc M) _ (by first | exact hM1 | exact hM0) 98 F2.out _ Try.underlying28 rfl size_mach ?_; rw [F1.out]) | (go_at_call 55; refine (HCh.out _).mono ?_; rintro e w1 ⟨rfl, hc1⟩; have hM1 := hM0.keptAll hc1; have hX1 := hX0.keptAll hc1; have hb1 := below_step hb0 hc1))
      have hM3 := hM1; have hX3 := hX1; have hb3 := hb1
      clear hM0 hX0 hb0 hM1 hX1 hb1 hc1

      have hltX := hX3.lt
      have hge3 := hb3.size
      have hM4 := (hM3.alloc (.cells (gdC w.heap.size (qn : Int) 0 K) 57)).alloc (.cells #[.slice (some ⟨w1.heap.size, 0, none⟩) K K] 64)
      have hX4 := (hX3.alloc (.cells (gdC w.heap.size (qn : Int) 0 K) 57)).alloc (.cells #[.slice (some ⟨w1.heap.size, 0, none⟩) K K] 64)
      have hb4 := below_alloc' (below_alloc' hb3 (.cells (gdC w.heap.size (qn : Int) 0 K) 57)) (.cells #[.slice (some ⟨w1.heap.size, 0, none⟩) K K] 64)
      have hG4 : Blk ((w1.alloc (.cells (gdC w.heap.size (qn : Int) 0 K) 57)).alloc (.cells #[.slice (some ⟨w1.heap.size, 0, none⟩) K K] 64)) w1.heap.size (gdC w.heap.size (qn : Int) 0 K) 57 := (Blk.new _ _ _).alloc _
      have hS4 : Blk ((w1.alloc (.cells (gdC w.heap.size (qn : Int) 0 K) 57)).alloc (.cells #[.slice (some ⟨w1.heap.size, 0, none⟩) K K] 64)) (w1.heap.size + 1) #[.slice (some ⟨w1.heap.size, 0, none⟩) K K] 64 := Blk.new_at _ _ _ _ (by simp)
      clear hM3 hX3 hb3 hmk
      generalize (w1.alloc (.cells (gdC w.heap.size (qn : Int) 0 K) 57)).alloc (.cells #[.slice (some ⟨w1.heap.size, 0, none⟩) K K] 64) = w4 at *
      obtain ⟨g, hg⟩ : ∃ g, w1.heap.size = g := ⟨_, rfl⟩
      rw [hg] at hG4 hS4 hltX hge3 ⊢
      clear hg
      go_loopw [32] (fun cv wr => ∃ k : Nat, k ≤ K ∧ cv = .int .i64 k ∧ Blk wr w.heap.size (mc M) 28 ∧ Blk wr (w.heap.size + 1) (mc zeroM) 28 ∧ Blk wr g (gdC w.heap.size (qn : Int) k K) 57 ∧ Blk wr (g + 1) #[.slice (some ⟨g, 0, none⟩) K K] 64 ∧ Below w.heap.size w wr) (fun cv _ => K - (intOf cv).toNat)
      case atStart => exact ⟨0, by omega, rfl, hM4, hX4, hG4, hS4, hb4⟩
      case round =>
        clear hM4 hX4 hG4 hS4 hb4
        obtain ⟨k, hk, rfl, hM, hX, hG, hS, hbw⟩ := hrel
        by_cases hkK : k < K
        · have hki : (k : Int) < (K : Int) := by omega
          have cS : wr.cell? ⟨g + 1, 0, none⟩ = some (.slice (some ⟨g, 0, none⟩) K K) := hS.cell 0
          have Hset := Lib.hid (gd_set w.heap.size (qn : Int) k K hkK)
          have Hgs := Lib.hid (gd_size w.heap.size (qn : Int) k K)
          go_wp2_with (first | ((with_reducible show wpList _ _ _ _ _ _); refine wpList_build2 rfl 57 0 1 (.tmp 3) (.tmp 37) rfl (.pointer (some ⟨w.heap.size, 0, none⟩)) (.int .i64 (qn : Int)) rfl rfl _ (built_gd2 w.heap.size qn) ?_) | ((with_reducible show wpList _ _ _ _ _ _); refine wpList_store_row rfl 57 (.tmp 39) (.tmp 38) rfl g (k * 2) #[.pointer (some ⟨w.heap.size, 0, none⟩), .int .i64 (qn : Int)] rfl rfl _ _ hG (by rw [Hgs.out]; show k * 2 + 2 ≤ K * 2; omega) size_guide (two_one _ _) _ Hset.out ?_; intro w5 hs5))
          have hM5 := hs5.keep (by omega) hM
          have hX5 := hs5.keep (by omega) hX
          have hS5 := hs5.keep (by omega) hS
          have hG5 := hs5.blk
          have hb5 := hs5.below _ _ hge3 hbw
          clear hs5
          go_roundw
          case rel => exact ⟨k + 1, by omega, by go_num, hM5, hX5, hG5, hS5, hb5⟩
          case measure => simp [intOf] <;> omega
        · obtain rfl : K = k := by omega
          have hki : ¬ (K : Int) < (K : Int) := by omega
          have hmf : ∀ (fn : Fn) (first cap : Array Value) (w : World), (Instr.makeFunc fn first cap).run Try.prog w = .ok (.func fn first cap) w := fun _ _ _ _ => rfl
          have Hdoor := Lib.hid (HD.out wr (g + 1) g hM hS hG)
          go_wp2_with (first | (go_at_call 48; refine Hdoor.out.mono ?_; rintro e w6 ⟨rfl, hc6⟩; have hX6 := hX.keptAll hc6; have hb6 := below_step hbw hc6) | ((with_reducible show wpList _ _ _ _ _ _); refine wpList_store_blk rfl 28 (.tmp 6) (.tmp 43) rfl (w.heap.size + 1) 0 (mc R) rfl rfl (mc zeroM) 28 hX6 (by first | (rw [HRs.out, HzS.out]; omega) | (rw [HRs.out]; omega)) (by rw [HRs.out]; exact size_mach) (mc_one _) ?_; intro w7 hXw7 hkeep hsz hbl; clear hsz; rw [Hov.out] at hXw7; have hbw7 := hbl w.heap.size w (by omega) hb6; clear hkeep hbl))
          exact bodyPost_cell1 rfl rfl hXw7 Try.underlying28 rfl (by rw [HRs.out]; exact size_mach) rfl ⟨by rw [HRR.out, HCC.out]; rfl, hbw7⟩

  · have HRR : Hid (poR M q n = zeroM) := Lib.hid (by unfold poR; rw [if_neg h0])
    have HCC : Hid (poC M q n = pwC M q n (-16)) := Lib.hid (by unfold poC; rw [if_neg h0])
    have hne : (pwC M q n (-16) == 0) = false := by simpa using h0
    have hne2 : (pwC M q n (-16) != 0) = true := by simpa using h0
    clear h0
    go_enter Try.func28, Try.ntmps28
    go_wp2_with (first | (with_reducible show wpList _ _ _ _ _ _; refine wpList_load_blk rfl 28 (.tmp 3) rfl w.heap.size 0 rfl (mc M) _ (by first | exact hM0) 98 F2.out _ Try.underlying28 rfl size_mach ?_; rw [F1.out]) | (go_at_call 55; refine (checkPower_calls M hok q n (-16) _).mono ?_; rintro e w1 ⟨rfl, hc1⟩; have hX1 := hX0.keptAll hc1; have hb1 := below_step hb0 hc1) | ((with_reducible show wpList _ _ _ _ _ _); refine wpList_store_blk rfl 28 (.tmp 6) (.tmp 17) rfl (w.heap.size + 1) 0 (mc zeroM) rfl rfl (mc zeroM) 28 hX1 (by first | (rw [HzS.out, HzS.out]; omega) | (rw [HzS.out]; omega)) (by rw [HzS.out]; exact size_mach) (mc_one _) ?_; intro w3 hXw3 hkeep hsz hbl; clear hsz; rw [zero_over] at hXw3; have hbw3 := hbl w.heap.size w (by omega) hb1; clear hkeep hbl))
    exact bodyPost_cell1 rfl rfl hXw3 Try.underlying28 rfl (by rw [HzS.out]; exact size_mach) rfl ⟨by rw [HRR.out, HCC.out]; rfl, hbw3⟩

set_option maxRecDepth 100000 in
set_option maxHeartbeats 1000000 in
theorem iMachineOfState_calls (M : Mach) (hok : M.Ok) (q : Int) (w : World) :
    Calls Try.prog 24 #[.agg (mc M), .int .i64 q] w fun e w' => e = .returned (.tuple #[.agg (mc (moR M q)), .int .i64 (stC M q)]) ∧ Below w.heap.size w w' := by
  have hz := zero_mach
  have F1 : Hid (cut (mc M) 0 98 = mc M) := Lib.hid (cut_all _ _ (mc_size hok))
  have F2 : Hid (0 + 98 ≤ (mc M).size) := Lib.hid (by rw [mc_size hok]; omega)
  have HzS : Hid ((mc zeroM).size = 98) := Lib.hid (mc_size zeroM_ok)
  have HMs : Hid ((mc M).size = 98) := Lib.hid (mc_size hok)
  have hM0 : Blk ((w.alloc (.cells (mc M) 28)).alloc (.cells (mc zeroM) 28)) w.heap.size (mc M) 28 := (Blk.new w _ _).alloc _
  have hX0 : Blk ((w.alloc (.cells (mc M) 28)).alloc (.cells (mc zeroM) 28)) (w.heap.size + 1) (mc zeroM) 28 := Blk.new_at _ _ _ _ (by simp)
  have hb0 : Below w.heap.size w ((w.alloc (.cells (mc M) 28)).alloc (.cells (mc zeroM) 28)) := by show Below _ _ (World.alloc _ _); (repeat (first | exact Below.refl _ _ | refine below_drew' ?_ | refine below_drewN' ?_ _ | refine below_alloc' ?_ _ | refine below_set' ?_ (by (try simp); (try omega)) _ | refine below_step ?_ (by assumption)))
  have HI := Lib.hid (fun W => iPowerOfState_calls M hok q 1 W)
  rw [(mo_eq hok q).1, (mo_eq hok q).2] at HI
  have HRs := Lib.hid (mc_size (moR_ok hok q))
  generalize moR M q = R at *
  generalize stC M q = c at *
  have Hov : Hid (over (mc zeroM) 0 (mc R) = mc R) := Lib.hid (over_all _ _ (by rw [HRs.out, HzS.out]))
  go_enter Try.func24, Try.ntmps24
  go_wp2_with (first | (with_reducible show wpList _ _ _ _ _ _; refine wpList_load_blk rfl 28 (.tmp 2) rfl w.heap.size 0 rfl (mc M) _ (by first | exact hM0) 98 F2.out _ Try.underlying28 rfl size_mach ?_; rw [F1.out]) | (go_at_call 28; refine (HI.out _).mono ?_; rintro e w1 ⟨rfl, hc1⟩; have hX1 := hX0.keptAll hc1; have hb1 := below_step hb0 hc1) | ((with_reducible show wpList _ _ _ _ _ _); refine wpList_store_blk rfl 28 (.tmp 4) (.tmp 9) rfl (w.heap.size + 1) 0 (mc R) rfl rfl (mc zeroM) 28 hX1 (by first | (rw [HRs.out, HzS.out]; omega) | (rw [HRs.out]; omega)) (by rw [HRs.out]; exact size_mach) (mc_one _) ?_; intro w3 hXw3 hkeep hsz hbl; clear hsz; rw [Hov.out] at hXw3; have hbw3 := hbl w.heap.size w (by omega) hb1; clear hkeep hbl))
  exact bodyPost_cell1 rfl rfl hXw3 Try.underlying28 rfl (by rw [HRs.out]; exact size_mach) rfl ⟨rfl, hbw3⟩
end Go.Proofs.Ytkkooafjpancoaa

namespace Go.Proofs.Ytkkooafjpancoaa
open Go.RowKit

def pwX (M : Mach) (L S q : Nat) (n : Int) : Mach × Bool := facs L (trivM L) (List.replicate n.natAbs ⟨poM M L S n, S, 0, q⟩)
theorem pwC_st {M : Mach} {q n l : Int} (h : pwC M q n l = 0) : stC M q = 0 := by
  unfold pwC at h
  unfold stC
  by_cases h1 : isMach M = true
  · by_cases h2 : inS M q = true
    · simp [h1, h2]
    · simp [h1, h2] at h
  · simp [h1] at h
theorem pwC_two {M : Mach} {q n : Int} (h : ¬ pwC M q n (-16) = 0) (hs : stC M q = 0) : pwC M q n (-16) = 2 ∧ decide (-16 ≤ n ∧ n ≤ 16) = false := by
  unfold stC at hs
  by_cases h1 : isMach M = true
  · by_cases h2 : inS M q = true
    · by_cases h3 : -16 ≤ n ∧ n ≤ 16
      · exact absurd (by unfold pwC; simp [h1, h2, h3]) h
      · exact ⟨by unfold pwC; simp [h1, h2, h3], decide_eq_false h3⟩
    · simp [h1, h2] at hs
  · simp [h1] at hs
theorem pwC_one {M : Mach} {q n : Int} (hs : ¬ stC M q = 0) : pwC M q n (-16) = stC M q := by
  unfold stC at hs ⊢
  unfold pwC
  by_cases h1 : isMach M = true
  · by_cases h2 : inS M q = true
    · simp [h1, h2] at hs
    · simp [h1, h2]
  · simp [h1]

set_option maxRecDepth 100000 in
set_option maxHeartbeats 3000000 in
theorem l07Power_calls (M : Mach) (L S : Nat) (hg : Good M L S) (q : Nat) (hq : q < S) (n : Int) (hn1 : -16 ≤ n) (hn2 : n ≤ 16) (w : World) :
    Calls Try.prog 54 #[.agg (mc M), .int .i64 (q : Int), .int .i64 n] w fun e w' => e = .returned (.tuple #[.agg (mc (fR (pwX M L S q n))), .bool (pwX M L S q n).2]) ∧ Below w.heap.size w w' := by
  have hok := hg.ok
  have hz := zero_mach
  have F1 : Hid (cut (mc M) 0 98 = mc M) := Lib.hid (cut_all _ _ (mc_size hok))
  have F2 : Hid (0 + 98 ≤ (mc M).size) := Lib.hid (by rw [mc_size hok]; omega)
  have HzS : Hid ((mc zeroM).size = 98) := Lib.hid (mc_size zeroM_ok)
  have HMs : Hid ((mc M).size = 98) := Lib.hid (mc_size hok)
  have hM0 : Blk ((w.alloc (.cells (mc M) 28)).alloc (.cells (mc zeroM) 28)) w.heap.size (mc M) 28 := (Blk.new w _ _).alloc _
  have hX0 : Blk ((w.alloc (.cells (mc M) 28)).alloc (.cells (mc zeroM) 28)) (w.heap.size + 1) (mc zeroM) 28 := Blk.new_at _ _ _ _ (by simp)
  have hb0 : Below w.heap.size w ((w.alloc (.cells (mc M) 28)).alloc (.cells (mc zeroM) 28)) := by show Below _ _ (World.alloc _ _); (repeat (first | exact Below.refl _ _ | refine below_drew' ?_ | refine below_drewN' ?_ _ | refine below_alloc' ?_ _ | refine below_set' ?_ (by (try simp); (try omega)) _ | refine below_step ?_ (by assumption)))
  by_cases hs : n < 0
  · skip
    have hgN := poM_good hg n
    have HN := Lib.hid hgN
    have hK : n.natAbs ≤ 16 := by omega
    have HNs := Lib.hid (mc_size hgN.ok)
    have N1 : Hid (cut (mc (poM M L S n)) 0 98 = mc (poM M L S n)) := Lib.hid (cut_all _ _ HNs.out)
    have hcL := mc_L (poM M L S n)
    rw [hgN.hL] at hcL
    have HcL := Lib.hid hcL
    have HPr := Lib.hid (fun P SP (hP : Good P L SP) (h0P : 0 < SP) W => l07Product_calls P (poM M L S n) L SP S hP hgN 0 q h0P hq W)
    have HgP := Lib.hid (fun P SP (hP : Good P L SP) (h0P : 0 < SP) (hB : ltB (prA P (poM M L S n) S) L (0 * S + q) = true) => (show ∃ SQ, Good (ltR (prA P (poM M L S n) S) L (0 * S + q)) L SQ ∧ 0 < SQ from by
      obtain ⟨h1, h2⟩ := ltB_yes hB
      have hidx : 0 * S + q < SP * S := by
        calc 0 * S + q < S := by omega
          _ ≤ SP * S := Nat.le_mul_of_pos_left _ h0P
      rw [h2]
      exact ⟨_, prodM_good hP hgN hidx h1, bAll_pos _ _ _⟩))
    have HRs := Lib.hid (mc_size (fR_ok hg.L2 hg.L3 (rep_good hgN 0 q n.natAbs hq)))
    have Htr := Lib.hid (trivM_good hg.L2 hg.L3)
    have HtC := Lib.hid (fun W => l07Trivial_calls L hg.L3 W)
    have Hsz : Hid (∀ {P : Mach} {SP : Nat}, Good P L SP → (mc P).size = 98) := Lib.hid (fun h => mc_size h.ok)
    have HInv : Hid (∀ W, Calls Try.prog 40 #[.agg (mc M)] W fun e w' => e = .returned (.agg (mc (poM M L S n))) ∧ Below W.heap.size W w') := Lib.hid (fun W => by
      have := l01Inverse_calls M L S hg W
      unfold poM; rw [if_pos hs]; exact this)
    have hwn : IntKind.i64.wrap (-n) = ((n.natAbs : Nat) : Int) := by
      have e : -n = ((n.natAbs : Nat) : Int) := by omega
      rw [e]; simp [IntKind.wrap, IntKind.bits, IntKind.signed]; omega
    have HX : Hid (∀ x, facs L (trivM L) (List.replicate n.natAbs ⟨poM M L S n, S, 0, q⟩) = x → x = pwX M L S q n) := Lib.hid (fun x h => h.symm)
    have HXf : Hid (pwX M L S q n = facs L (trivM L) (List.replicate n.natAbs ⟨poM M L S n, S, 0, q⟩)) := Lib.hid rfl
    rw [← HXf.out] at HRs
    clear hg hgN hcL HX
    generalize pwX M L S q n = x at *
    generalize poM M L S n = N at *
    generalize n.natAbs = K at *
    have HoN : Hid (over (mc M) 0 (mc N) = mc N) := Lib.hid (over_all _ _ (by rw [HNs.out, HMs.out]))
    have Hts : Hid ((mc (trivM L)).size = 98) := Lib.hid (Hsz.out Htr.out)
    have Hto : Hid (over (mc zeroM) 0 (mc (trivM L)) = mc (trivM L)) := Lib.hid (over_all _ _ (by rw [Hts.out, HzS.out]))
    go_enter Try.func54, Try.ntmps54
    go_wp2_with (first | (with_reducible show wpList _ _ _ _ _ _; refine wpList_load_blk rfl 28 (.tmp 3) rfl w.heap.size 0 rfl (mc M) _ (by first | exact hM0) 98 F2.out _ Try.underlying28 rfl size_mach ?_; rw [F1.out]) | (go_at_call 40; refine (HInv.out _).mono ?_; rintro e w1 ⟨rfl, hc1⟩; have hM1 := hM0.keptAll hc1; have hX1 := hX0.keptAll hc1; have hb1 := below_step hb0 hc1) | ((with_reducible show wpList _ _ _ _ _ _); refine wpList_store_blk rfl 28 (.tmp 3) (.tmp 14) rfl w.heap.size 0 (mc N) rfl rfl (mc M) 28 hM1 (by first | (rw [HNs.out, HMs.out]; omega) | (rw [HNs.out]; omega)) (by rw [HNs.out]; exact size_mach) (mc_one _) ?_; intro w2 hXw2 hkeep hsz hbl; clear hsz; rw [HoN.out] at hXw2; have hbw2 := hbl w.heap.size w (Nat.le_refl _) hb1; have hMa := hXw2; have hXa := hkeep (w.heap.size + 1) _ _ (by omega) hX1; have hba := hbw2; have cLa := (hMa.cell 0).trans HcL.out; clear hkeep hbl) | (go_at_call 58; refine (HtC.out _).mono ?_; rintro e w3 ⟨rfl, hc3⟩; have hM3 := hMa.keptAll hc3; have hX3 := hXa.keptAll hc3; have hb3 := below_step hba hc3; have hlt3 := hX3.lt; have hge3 := hb3.size; have hM4 := hM3.alloc (.cells (mc zeroM) 28); have hX4 := hX3.alloc (.cells (mc zeroM) 28); have hb4 := below_alloc' hb3 (.cells (mc zeroM) 28); have hY4 : Blk (w3.alloc (.cells (mc zeroM) 28)) w3.heap.size (mc zeroM) 28 := Blk.new _ _ _) | ((with_reducible show wpList _ _ _ _ _ _); refine wpList_store_blk rfl 28 (.tmp 8) (.tmp 19) rfl w3.heap.size 0 (mc (trivM L)) rfl rfl (mc zeroM) 28 hY4 (by first | (rw [Hts.out, HzS.out]; omega) | (rw [Hts.out]; omega)) (by rw [Hts.out]; exact size_mach) (mc_one _) ?_; intro w5 hXw5 hkeep hsz hbl; clear hsz; rw [Hto.out] at hXw5; have hbw5 := hbl w.heap.size w (hge3) hb4; have hM5 := hkeep w.heap.size _ _ (by omega) hM4; have hX5 := hkeep (w.heap.size + 1) _ _ (by omega) hX4; clear hkeep hbl))
    rw [show ∀ (a : Act) (v : Value), a.put none v = a from fun _ _ => rfl]
    have hlt5 := hX5.lt
    obtain ⟨g8, hg8⟩ : ∃ g, w3.heap.size = g := ⟨_, rfl⟩
    rw [hg8] at hXw5 hlt3 hge3 ⊢
    clear hg8
    go_loopw [2] (fun nv wr => ∃ (k : Nat) (P : Mach) (SP : Nat), nv = .int .i64 k ∧ k ≤ 16 ∧ Good P L SP ∧ 0 < SP ∧ facs L P (List.replicate k ⟨N, S, 0, q⟩) = x ∧ Blk wr w.heap.size (mc N) 28 ∧ Blk wr (w.heap.size + 1) (mc zeroM) 28 ∧ Blk wr g8 (mc P) 28 ∧ Below w.heap.size w wr) (fun nv _ => (intOf nv).toNat)
    case atStart => exact ⟨K, trivM L, 1, rfl, hK, Htr.out, by omega, HXf.out.symm, hM5, hX5, hXw5, hbw5⟩
    case round =>
      clear hM5 hX5 hXw5 hbw5
      obtain ⟨k, P, SP, rfl, hk, hP, h0P, hfa, hM, hX, hY, hbw⟩ := hrel
      have HPs := Lib.hid (Hsz.out hP)
      have P1 : Hid (cut (mc P) 0 98 = mc P) := Lib.hid (cut_all _ _ HPs.out)
      have Hfa := Lib.hid hfa
      clear hfa
      rcases Nat.eq_zero_or_pos k with rfl | hkp
      · have Hx : Hid (x = (P, true)) := Lib.hid Hfa.out.symm
        have Hx1 : Hid (fR x = P) := Lib.hid (by rw [Hx.out]; unfold fR; rw [if_pos rfl])
        have Hx2 : Hid (x.2 = true) := Lib.hid (by rw [Hx.out])
        have Hov : Hid (over (mc zeroM) 0 (mc P) = mc P) := Lib.hid (over_all _ _ (by rw [HPs.out, HzS.out]))
        go_wp2_with (first | ((with_reducible show wpList _ _ _ _ _ _); refine wpList_load_blk rfl 28 (.tmp 8) rfl g8 0 rfl _ _ hY 98 (by rw [HPs.out]; omega) _ Try.underlying28 rfl size_mach ?_; rw [P1.out]) | ((with_reducible show wpList _ _ _ _ _ _); refine wpList_store_blk rfl 28 (.tmp 6) (.tmp 35) rfl (w.heap.size + 1) 0 (mc P) rfl rfl (mc zeroM) 28 hX (by first | (rw [HPs.out, HzS.out]; omega) | (rw [HPs.out]; omega)) (by rw [HPs.out]; exact size_mach) (mc_one _) ?_; intro w7 hXw7 hkeep hsz hbl; clear hsz; rw [Hov.out] at hXw7; have hbw7 := hbl w.heap.size w (by omega) hbw; clear hkeep hbl))
        exact bodyPost_cell1 rfl rfl hXw7 Try.underlying28 rfl (by rw [HPs.out]; exact size_mach) rfl ⟨by rw [Hx1.out, Hx2.out]; rfl, hbw7⟩
      · obtain ⟨k, rfl⟩ : ∃ j, k = j + 1 := ⟨k - 1, by omega⟩
        have hki : (0 : Int) < ((k + 1 : Nat) : Int) := by omega
        have hw : IntKind.i64.wrap (((k + 1 : Nat) : Int) - 1) = (k : Int) := by
          rw [show ((k + 1 : Nat) : Int) - 1 = (k : Int) from by omega]; simp [IntKind.wrap, IntKind.bits, IntKind.signed]; omega
        have HC := Lib.hid (HPr.out P SP hP h0P)
        have hst := facs_step (L := L) (P := P) (M := N) (S := S) (b := 0) (q := q) (n := k)
        have hltX := hX.lt
        have hltY := hY.lt
        cases hB : ltB (prA P N S) L (0 * S + q)
        · have Hx2 : Hid (x.2 = false) := Lib.hid (by rw [← Hfa.out]; exact hst.2 hB)
          have Hx1 : Hid (fR x = zeroM) := Lib.hid (by unfold fR; rw [if_neg (by rw [Hx2.out]; simp)])
          rw [hB, (ltB_no hB).2] at HC
          clear hB hst
          go_wp2_with (first | ((with_reducible show wpList _ _ _ _ _ _); refine wpList_load_blk rfl 28 (.tmp 8) rfl g8 0 rfl _ _ hY 98 (by rw [HPs.out]; omega) _ Try.underlying28 rfl size_mach ?_; rw [P1.out]) | ((with_reducible show wpList _ _ _ _ _ _); refine wpList_load_blk rfl 28 (.tmp 3) rfl w.heap.size 0 rfl _ _ hM 98 (by rw [HNs.out]; omega) _ Try.underlying28 rfl size_mach ?_; rw [N1.out]) | (go_at_call 46; refine (HC.out _).mono ?_; rintro e w6 ⟨rfl, hc6⟩; have hX6 := hX.keptAll hc6; have hb6 := below_step hbw hc6; have hlt6 := hX6.lt; have hge6 := hb6.size; have hX7 := hX6.alloc (.cells (mc zeroM) 28); have hb7 := below_alloc' hb6 (.cells (mc zeroM) 28); have hT7 : Blk (w6.alloc (.cells (mc zeroM) 28)) w6.heap.size (mc zeroM) 28 := Blk.new _ _ _) | ((with_reducible show wpList _ _ _ _ _ _); refine wpList_store_blk rfl 28 (.tmp 9) (.tmp 29) rfl w6.heap.size 0 (mc zeroM) rfl rfl (mc zeroM) 28 hT7 (by first | (rw [HzS.out, HzS.out]; omega) | (rw [HzS.out]; omega)) (by rw [HzS.out]; exact size_mach) (mc_one _) ?_; intro w8 hXw8 hkeep hsz hbl; clear hsz; rw [zero_over] at hXw8; have hbw8 := hbl w.heap.size w (hge6) hb7; have hX8 := hkeep (w.heap.size + 1) _ _ (by omega) hX7; clear hkeep hbl) | ((with_reducible show wpList _ _ _ _ _ _); refine wpList_store_blk rfl 28 (.tmp 6) (.tmp 33) rfl (w.heap.size + 1) 0 (mc zeroM) rfl rfl (mc zeroM) 28 hX8 (by first | (rw [HzS.out, HzS.out]; omega) | (rw [HzS.out]; omega)) (by rw [HzS.out]; exact size_mach) (mc_one _) ?_; intro w9 hXw9 hkeep hsz hbl; clear hsz; rw [zero_over] at hXw9; have hbw9 := hbl w.heap.size w (by omega) hbw8; clear hkeep hbl))
          exact bodyPost_cell1 rfl rfl hXw9 Try.underlying28 rfl (by rw [HzS.out]; exact size_mach) rfl ⟨by rw [Hx1.out, Hx2.out]; rfl, hbw9⟩
        · obtain ⟨SQ, hQ, h0Q⟩ := HgP.out P SP hP h0P hB
          have Hnx : Hid (facs L (ltR (prA P N S) L (0 * S + q)) (List.replicate k ⟨N, S, 0, q⟩) = x) := Lib.hid (by rw [← hst.1 hB]; exact Hfa.out)
          rw [hB] at HC
          clear hB hst
          generalize ltR (prA P N S) L (0 * S + q) = R at *
          have HQs := Lib.hid (Hsz.out hQ)
          have HQ := Lib.hid hQ
          have Q1 : Hid (cut (mc R) 0 98 = mc R) := Lib.hid (cut_all _ _ HQs.out)
          have Q2 : Hid (over (mc zeroM) 0 (mc R) = mc R) := Lib.hid (over_all _ _ (by rw [HQs.out, HzS.out]))
          have Q3 : Hid (over (mc P) 0 (mc R) = mc R) := Lib.hid (over_all _ _ (by rw [HQs.out, HPs.out]))
          clear hQ hP
          go_wp2_with (first | ((with_reducible show wpList _ _ _ _ _ _); refine wpList_load_blk rfl 28 (.tmp 8) rfl g8 0 rfl _ _ hY 98 (by rw [HPs.out]; omega) _ Try.underlying28 rfl size_mach ?_; rw [P1.out]) | ((with_reducible show wpList _ _ _ _ _ _); refine wpList_load_blk rfl 28 (.tmp 3) rfl w.heap.size 0 rfl _ _ hM 98 (by rw [HNs.out]; omega) _ Try.underlying28 rfl size_mach ?_; rw [N1.out]) | (go_at_call 46; refine (HC.out _).mono ?_; rintro e w6 ⟨rfl, hc6⟩; have hM6 := hM.keptAll hc6; have hX6 := hX.keptAll hc6; have hY6 := hY.keptAll hc6; have hb6 := below_step hbw hc6; have hlt6 := hX6.lt; have hltY6 := hY6.lt; have hge6 := hb6.size; have hM7 := hM6.alloc (.cells (mc zeroM) 28); have hX7 := hX6.alloc (.cells (mc zeroM) 28); have hY7 := hY6.alloc (.cells (mc zeroM) 28); have hb7 := below_alloc' hb6 (.cells (mc zeroM) 28); have hT7 : Blk (w6.alloc (.cells (mc zeroM) 28)) w6.heap.size (mc zeroM) 28 := Blk.new _ _ _) | ((with_reducible show wpList _ _ _ _ _ _); refine wpList_store_blk rfl 28 (.tmp 9) (.tmp 29) rfl w6.heap.size 0 (mc R) rfl rfl (mc zeroM) 28 hT7 (by first | (rw [HQs.out, HzS.out]; omega) | (rw [HQs.out]; omega)) (by rw [HQs.out]; exact size_mach) (mc_one _) ?_; intro w8 hXw8 hkeep hsz hbl; clear hsz; rw [Q2.out] at hXw8; have hbw8 := hbl w.heap.size w (hge6) hb7; have hM8 := hkeep w.heap.size _ _ (by omega) hM7; have hX8 := hkeep (w.heap.size + 1) _ _ (by omega) hX7; have hY8 := hkeep g8 _ _ (by omega) hY7; clear hkeep hbl) | ((with_reducible show wpList _ _ _ _ _ _); refine wpList_load_blk rfl 28 (.tmp 9) rfl w6.heap.size 0 rfl _ _ hXw8 98 (by rw [HQs.out]; omega) _ Try.underlying28 rfl size_mach ?_; rw [Q1.out]) | ((with_reducible show wpList _ _ _ _ _ _); refine wpList_store_blk rfl 28 (.tmp 8) (.tmp 34) rfl g8 0 (mc R) rfl rfl (mc P) 28 hY8 (by first | (rw [HQs.out, HPs.out]; omega) | (rw [HQs.out]; omega)) (by rw [HQs.out]; exact size_mach) (mc_one _) ?_; intro w9 hXw9 hkeep hsz hbl; clear hsz; rw [Q3.out] at hXw9; have hbw9 := hbl w.heap.size w (hge3) hbw8; have hM9 := hkeep w.heap.size _ _ (by omega) hM8; have hX9 := hkeep (w.heap.size + 1) _ _ (by omega) hX8; clear hkeep hbl))
          go_roundw
          case rel => exact ⟨k, R, SQ, by go_num, by omega, HQ.out, h0Q, Hnx.out, hM9, hX9, hXw9, hbw9⟩
          case measure => simp [intOf] <;> omega

  · skip
    have hgN := poM_good hg n
    have HN := Lib.hid hgN
    have hK : n.natAbs ≤ 16 := by omega
    have HNs := Lib.hid (mc_size hgN.ok)
    have N1 : Hid (cut (mc (poM M L S n)) 0 98 = mc (poM M L S n)) := Lib.hid (cut_all _ _ HNs.out)
    have hcL := mc_L (poM M L S n)
    rw [hgN.hL] at hcL
    have HcL := Lib.hid hcL
    have HPr := Lib.hid (fun P SP (hP : Good P L SP) (h0P : 0 < SP) W => l07Product_calls P (poM M L S n) L SP S hP hgN 0 q h0P hq W)
    have HgP := Lib.hid (fun P SP (hP : Good P L SP) (h0P : 0 < SP) (hB : ltB (prA P (poM M L S n) S) L (0 * S + q) = true) => (show ∃ SQ, Good (ltR (prA P (poM M L S n) S) L (0 * S + q)) L SQ ∧ 0 < SQ from by
      obtain ⟨h1, h2⟩ := ltB_yes hB
      have hidx : 0 * S + q < SP * S := by
        calc 0 * S + q < S := by omega
          _ ≤ SP * S := Nat.le_mul_of_pos_left _ h0P
      rw [h2]
      exact ⟨_, prodM_good hP hgN hidx h1, bAll_pos _ _ _⟩))
    have HRs := Lib.hid (mc_size (fR_ok hg.L2 hg.L3 (rep_good hgN 0 q n.natAbs hq)))
    have Htr := Lib.hid (trivM_good hg.L2 hg.L3)
    have HtC := Lib.hid (fun W => l07Trivial_calls L hg.L3 W)
    have Hsz : Hid (∀ {P : Mach} {SP : Nat}, Good P L SP → (mc P).size = 98) := Lib.hid (fun h => mc_size h.ok)
    have hpm : poM M L S n = M := by unfold poM; rw [if_neg hs]
    have hnn : n = ((n.natAbs : Nat) : Int) := by omega
    have HX : Hid (∀ x, facs L (trivM L) (List.replicate n.natAbs ⟨poM M L S n, S, 0, q⟩) = x → x = pwX M L S q n) := Lib.hid (fun x h => h.symm)
    have HXf : Hid (pwX M L S q n = facs L (trivM L) (List.replicate n.natAbs ⟨poM M L S n, S, 0, q⟩)) := Lib.hid rfl
    rw [← HXf.out] at HRs
    clear hg hgN hcL HX
    generalize pwX M L S q n = x at *
    rw [hpm] at HN HNs N1 HcL HPr HgP HXf
    clear hpm
    generalize n.natAbs = K at *
    subst hnn
    have hs : ¬ ((K : Int) < 0) := by omega
    have Hts : Hid ((mc (trivM L)).size = 98) := Lib.hid (Hsz.out Htr.out)
    have Hto : Hid (over (mc zeroM) 0 (mc (trivM L)) = mc (trivM L)) := Lib.hid (over_all _ _ (by rw [Hts.out, HzS.out]))
    have hMa := hM0; have hXa := hX0; have hba := hb0
    have cLa := (hMa.cell 0).trans HcL.out
    go_enter Try.func54, Try.ntmps54
    go_wp2_with (first | (go_at_call 58; refine (HtC.out _).mono ?_; rintro e w3 ⟨rfl, hc3⟩; have hM3 := hMa.keptAll hc3; have hX3 := hXa.keptAll hc3; have hb3 := below_step hba hc3; have hlt3 := hX3.lt; have hge3 := hb3.size; have hM4 := hM3.alloc (.cells (mc zeroM) 28); have hX4 := hX3.alloc (.cells (mc zeroM) 28); have hb4 := below_alloc' hb3 (.cells (mc zeroM) 28); have hY4 : Blk (w3.alloc (.cells (mc zeroM) 28)) w3.heap.size (mc zeroM) 28 := Blk.new _ _ _) | ((with_reducible show wpList _ _ _ _ _ _); refine wpList_store_blk rfl 28 (.tmp 8) (.tmp 19) rfl w3.heap.size 0 (mc (trivM L)) rfl rfl (mc zeroM) 28 hY4 (by first | (rw [Hts.out, HzS.out]; omega) | (rw [Hts.out]; omega)) (by rw [Hts.out]; exact size_mach) (mc_one _) ?_; intro w5 hXw5 hkeep hsz hbl; clear hsz; rw [Hto.out] at hXw5; have hbw5 := hbl w.heap.size w (hge3) hb4; have hM5 := hkeep w.heap.size _ _ (by omega) hM4; have hX5 := hkeep (w.heap.size + 1) _ _ (by omega) hX4; clear hkeep hbl))
    rw [show ∀ (a : Act) (v : Value), a.put none v = a from fun _ _ => rfl]
    have hlt5 := hX5.lt
    obtain ⟨g8, hg8⟩ : ∃ g, w3.heap.size = g := ⟨_, rfl⟩
    rw [hg8] at hXw5 hlt3 hge3 ⊢
    clear hg8
    go_loopw [2] (fun nv wr => ∃ (k : Nat) (P : Mach) (SP : Nat), nv = .int .i64 k ∧ k ≤ 16 ∧ Good P L SP ∧ 0 < SP ∧ facs L P (List.replicate k ⟨M, S, 0, q⟩) = x ∧ Blk wr w.heap.size (mc M) 28 ∧ Blk wr (w.heap.size + 1) (mc zeroM) 28 ∧ Blk wr g8 (mc P) 28 ∧ Below w.heap.size w wr) (fun nv _ => (intOf nv).toNat)
    case atStart => exact ⟨K, trivM L, 1, rfl, hK, Htr.out, by omega, HXf.out.symm, hM5, hX5, hXw5, hbw5⟩
    case round =>
      clear hM5 hX5 hXw5 hbw5
      obtain ⟨k, P, SP, rfl, hk, hP, h0P, hfa, hM, hX, hY, hbw⟩ := hrel
      have HPs := Lib.hid (Hsz.out hP)
      have P1 : Hid (cut (mc P) 0 98 = mc P) := Lib.hid (cut_all _ _ HPs.out)
      have Hfa := Lib.hid hfa
      clear hfa
      rcases Nat.eq_zero_or_pos k with rfl | hkp
      · have Hx : Hid (x = (P, true)) := Lib.hid Hfa.out.symm
        have Hx1 : Hid (fR x = P) := Lib.hid (by rw [Hx.out]; unfold fR; rw [if_pos rfl])
        have Hx2 : Hid (x.2 = true) := Lib.hid (by rw [Hx.out])
        have Hov : Hid (over (mc zeroM) 0 (mc P) = mc P) := Lib.hid (over_all _ _ (by rw [HPs.out, HzS.out]))
        go_wp2_with (first | ((with_reducible show wpList _ _ _ _ _ _); refine wpList_load_blk rfl 28 (.tmp 8) rfl g8 0 rfl _ _ hY 98 (by rw [HPs.out]; omega) _ Try.underlying28 rfl size_mach ?_; rw [P1.out]) | ((with_reducible show wpList _ _ _ _ _ _); refine wpList_store_blk rfl 28 (.tmp 6) (.tmp 35) rfl (w.heap.size + 1) 0 (mc P) rfl rfl (mc zeroM) 28 hX (by first | (rw [HPs.out, HzS.out]; omega) | (rw [HPs.out]; omega)) (by rw [HPs.out]; exact size_mach) (mc_one _) ?_; intro w7 hXw7 hkeep hsz hbl; clear hsz; rw [Hov.out] at hXw7; have hbw7 := hbl w.heap.size w (by omega) hbw; clear hkeep hbl))
        exact bodyPost_cell1 rfl rfl hXw7 Try.underlying28 rfl (by rw [HPs.out]; exact size_mach) rfl ⟨by rw [Hx1.out, Hx2.out]; rfl, hbw7⟩
      · obtain ⟨k, rfl⟩ : ∃ j, k = j + 1 := ⟨k - 1, by omega⟩
        have hki : (0 : Int) < ((k + 1 : Nat) : Int) := by omega
        have hw : IntKind.i64.wrap (((k + 1 : Nat) : Int) - 1) = (k : Int) := by
          rw [show ((k + 1 : Nat) : Int) - 1 = (k : Int) from by omega]; simp [IntKind.wrap, IntKind.bits, IntKind.signed]; omega
        have HC := Lib.hid (HPr.out P SP hP h0P)
        have hst := facs_step (L := L) (P := P) (M := M) (S := S) (b := 0) (q := q) (n := k)
        have hltX := hX.lt
        have hltY := hY.lt
        cases hB : ltB (prA P M S) L (0 * S + q)
        · have Hx2 : Hid (x.2 = false) := Lib.hid (by rw [← Hfa.out]; exact hst.2 hB)
          have Hx1 : Hid (fR x = zeroM) := Lib.hid (by unfold fR; rw [if_neg (by rw [Hx2.out]; simp)])
          rw [hB, (ltB_no hB).2] at HC
          clear hB hst
          go_wp2_with (first | ((with_reducible show wpList _ _ _ _ _ _); refine wpList_load_blk rfl 28 (.tmp 8) rfl g8 0 rfl _ _ hY 98 (by rw [HPs.out]; omega) _ Try.underlying28 rfl size_mach ?_; rw [P1.out]) | ((with_reducible show wpList _ _ _ _ _ _); refine wpList_load_blk rfl 28 (.tmp 3) rfl w.heap.size 0 rfl _ _ hM 98 (by rw [HNs.out]; omega) _ Try.underlying28 rfl size_mach ?_; rw [N1.out]) | (go_at_call 46; refine (HC.out _).mono ?_; rintro e w6 ⟨rfl, hc6⟩; have hX6 := hX.keptAll hc6; have hb6 := below_step hbw hc6; have hlt6 := hX6.lt; have hge6 := hb6.size; have hX7 := hX6.alloc (.cells (mc zeroM) 28); have hb7 := below_alloc' hb6 (.cells (mc zeroM) 28); have hT7 : Blk (w6.alloc (.cells (mc zeroM) 28)) w6.heap.size (mc zeroM) 28 := Blk.new _ _ _) | ((with_reducible show wpList _ _ _ _ _ _); refine wpList_store_blk rfl 28 (.tmp 9) (.tmp 29) rfl w6.heap.size 0 (mc zeroM) rfl rfl (mc zeroM) 28 hT7 (by first | (rw [HzS.out, HzS.out]; omega) | (rw [HzS.out]; omega)) (by rw [HzS.out]; exact size_mach) (mc_one _) ?_; intro w8 hXw8 hkeep hsz hbl; clear hsz; rw [zero_over] at hXw8; have hbw8 := hbl w.heap.size w (hge6) hb7; have hX8 := hkeep (w.heap.size + 1) _ _ (by omega) hX7; clear hkeep hbl) | ((with_reducible show wpList _ _ _ _ _ _); refine wpList_store_blk rfl 28 (.tmp 6) (.tmp 33) rfl (w.heap.size + 1) 0 (mc zeroM) rfl rfl (mc zeroM) 28 hX8 (by first | (rw [HzS.out, HzS.out]; omega) | (rw [HzS.out]; omega)) (by rw [HzS.out]; exact size_mach) (mc_one _) ?_; intro w9 hXw9 hkeep hsz hbl; clear hsz; rw [zero_over] at hXw9; have hbw9 := hbl w.heap.size w (by omega) hbw8; clear hkeep hbl))
          exact bodyPost_cell1 rfl rfl hXw9 Try.underlying28 rfl (by rw [HzS.out]; exact size_mach) rfl ⟨by rw [Hx1.out, Hx2.out]; rfl, hbw9⟩
        · obtain ⟨SQ, hQ, h0Q⟩ := HgP.out P SP hP h0P hB
          have Hnx : Hid (facs L (ltR (prA P M S) L (0 * S + q)) (List.replicate k ⟨M, S, 0, q⟩) = x) := Lib.hid (by rw [← hst.1 hB]; exact Hfa.out)
          rw [hB] at HC
          clear hB hst
          generalize ltR (prA P M S) L (0 * S + q) = R at *
          have HQs := Lib.hid (Hsz.out hQ)
          have HQ := Lib.hid hQ
          have Q1 : Hid (cut (mc R) 0 98 = mc R) := Lib.hid (cut_all _ _ HQs.out)
          have Q2 : Hid (over (mc zeroM) 0 (mc R) = mc R) := Lib.hid (over_all _ _ (by rw [HQs.out, HzS.out]))
          have Q3 : Hid (over (mc P) 0 (mc R) = mc R) := Lib.hid (over_all _ _ (by rw [HQs.out, HPs.out]))
          clear hQ hP
          go_wp2_with (first | ((with_reducible show wpList _ _ _ _ _ _); refine wpList_load_blk rfl 28 (.tmp 8) rfl g8 0 rfl _ _ hY 98 (by rw [HPs.out]; omega) _ Try.underlying28 rfl size_mach ?_; rw [P1.out]) | ((with_reducible show wpList _ _ _ _ _ _); refine wpList_load_blk rfl 28 (.tmp 3) rfl w.heap.size 0 rfl _ _ hM 98 (by rw [HNs.out]; omega) _ Try.underlying28 rfl size_mach ?_; rw [N1.out]) | (go_at_call 46; refine (HC.out _).mono ?_; rintro e w6 ⟨rfl, hc6⟩; have hM6 := hM.keptAll hc6; have hX6 := hX.keptAll hc6; have hY6 := hY.keptAll hc6; have hb6 := below_step hbw hc6; have hlt6 := hX6.lt; have hltY6 := hY6.lt; have hge6 := hb6.size; have hM7 := hM6.alloc (.cells (mc zeroM) 28); have hX7 := hX6.alloc (.cells (mc zeroM) 28); have hY7 := hY6.alloc (.cells (mc zeroM) 28); have hb7 := below_alloc' hb6 (.cells (mc zeroM) 28); have hT7 : Blk (w6.alloc (.cells (mc zeroM) 28)) w6.heap.size (mc zeroM) 28 := Blk.new _ _ _) | ((with_reducible show wpList _ _ _ _ _ _); refine wpList_store_blk rfl 28 (.tmp 9) (.tmp 29) rfl w6.heap.size 0 (mc R) rfl rfl (mc zeroM) 28 hT7 (by first | (rw [HQs.out, HzS.out]; omega) | (rw [HQs.out]; omega)) (by rw [HQs.out]; exact size_mach) (mc_one _) ?_; intro w8 hXw8 hkeep hsz hbl; clear hsz; rw [Q2.out] at hXw8; have hbw8 := hbl w.heap.size w (hge6) hb7; have hM8 := hkeep w.heap.size _ _ (by omega) hM7; have hX8 := hkeep (w.heap.size + 1) _ _ (by omega) hX7; have hY8 := hkeep g8 _ _ (by omega) hY7; clear hkeep hbl) | ((with_reducible show wpList _ _ _ _ _ _); refine wpList_load_blk rfl 28 (.tmp 9) rfl w6.heap.size 0 rfl _ _ hXw8 98 (by rw [HQs.out]; omega) _ Try.underlying28 rfl size_mach ?_; rw [Q1.out]) | ((with_reducible show wpList _ _ _ _ _ _); refine wpList_store_blk rfl 28 (.tmp 8) (.tmp 34) rfl g8 0 (mc R) rfl rfl (mc P) 28 hY8 (by first | (rw [HQs.out, HPs.out]; omega) | (rw [HQs.out]; omega)) (by rw [HQs.out]; exact size_mach) (mc_one _) ?_; intro w9 hXw9 hkeep hsz hbl; clear hsz; rw [Q3.out] at hXw9; have hbw9 := hbl w.heap.size w (hge3) hbw8; have hM9 := hkeep w.heap.size _ _ (by omega) hM8; have hX9 := hkeep (w.heap.size + 1) _ _ (by omega) hX8; clear hkeep hbl))
          go_roundw
          case rel => exact ⟨k, R, SQ, by go_num, by omega, HQ.out, h0Q, Hnx.out, hM9, hX9, hXw9, hbw9⟩
          case measure => simp [intOf] <;> omega


set_option maxRecDepth 100000 in
set_option maxHeartbeats 4000000 in
theorem sPowerOfState_calls (M : Mach) (hok : M.Ok) (q n : Int) (w : World) :
    Calls Try.prog 27 #[.agg (mc M), .int .i64 q, .int .i64 n] w fun e w' => e = .returned (.tuple #[.agg (mc (poR M q n)), .int .i64 (poC M q n)]) ∧ Below w.heap.size w w' := by
  have hz := zero_mach
  have F1 : Hid (cut (mc M) 0 98 = mc M) := Lib.hid (cut_all _ _ (mc_size hok))
  have F2 : Hid (0 + 98 ≤ (mc M).size) := Lib.hid (by rw [mc_size hok]; omega)
  have HzS : Hid ((mc zeroM).size = 98) := Lib.hid (mc_size zeroM_ok)
  have HMs : Hid ((mc M).size = 98) := Lib.hid (mc_size hok)
  have hM0 : Blk ((w.alloc (.cells (mc M) 28)).alloc (.cells (mc zeroM) 28)) w.heap.size (mc M) 28 := (Blk.new w _ _).alloc _
  have hX0 : Blk ((w.alloc (.cells (mc M) 28)).alloc (.cells (mc zeroM) 28)) (w.heap.size + 1) (mc zeroM) 28 := Blk.new_at _ _ _ _ (by simp)
  have hb0 : Below w.heap.size w ((w.alloc (.cells (mc M) 28)).alloc (.cells (mc zeroM) 28)) := by show Below _ _ (World.alloc _ _); (repeat (first | exact Below.refl _ _ | refine below_drew' ?_ | refine below_drewN' ?_ _ | refine below_alloc' ?_ _ | refine below_set' ?_ (by (try simp); (try omega)) _ | refine below_step ?_ (by assumption)))
  by_cases h0 : pwC M q n (-16) = 0
  · skip
    obtain ⟨L, S, qn, hg, rfl, hq, hn1, hn2⟩ := pwC_good hok h0
    have hst : stC M qn = 0 := pwC_st h0
    have hin : decide (-16 ≤ n ∧ n ≤ 16) = true := decide_eq_true ⟨hn1, hn2⟩
    have HSt := Lib.hid (fun W => l07State_calls M hok qn W)
    rw [hst] at HSt
    have HIn := Lib.hid (fun W => l01In_calls n (-16) 16 W)
    rw [hin] at HIn
    have HPw := Lib.hid (fun W => l07Power_calls M L S hg qn hq n hn1 hn2 W)
    have HRR : Hid (poR M qn n = fR (pwX M L S qn n)) := Lib.hid (by unfold poR; rw [if_pos h0, poF_eq hg 0 qn n]; rfl)
    have HCC : Hid (poC M qn n = fC (pwX M L S qn n)) := Lib.hid (by unfold poC; rw [if_pos h0, poF_eq hg 0 qn n]; rfl)
    have HRs := Lib.hid (mc_size (fR_ok hg.L2 hg.L3 (rep_good (poM_good hg n) 0 qn n.natAbs hq)))
    rw [show facs L (trivM L) (List.replicate n.natAbs ⟨poM M L S n, S, 0, qn⟩) = pwX M L S qn n from rfl] at HRs
    clear h0 hg hst hin
    generalize pwX M L S qn n = x at *
    cases hx : x.2
    · have e1 : fR x = zeroM := by unfold fR; rw [if_neg (by rw [hx]; simp)]
      have HC3 : Hid (fC x = 3) := Lib.hid (by unfold fC; rw [if_neg (by rw [hx]; simp)])
      rw [e1] at HRR HPw
      rw [hx] at HPw
      clear e1 hx
      go_enter Try.func27, Try.ntmps27
      go_wp2_with (first | (with_reducible show wpList _ _ _ _ _ _; refine wpList_load_blk rfl 28 (.tmp 3) rfl w.heap.size 0 rfl (mc M) _ (by first | exact hM1 | exact hM0) 98 F2.out _ Try.underlying28 rfl size_mach ?_; rw [F1.out]) | (go_at_call 51; refine (HSt.out _).mono ?_; rintro e w1 ⟨rfl, hc1⟩; have hM1 := hM0.keptAll hc1; have hX1 := hX0.keptAll hc1; have hb1 := below_step hb0 hc1) | (go_at_call 42; refine (HIn.out _).mono ?_; rintro e w' ⟨rfl, rfl⟩) | (go_at_call 54; refine (HPw.out _).mono ?_; rintro e w2 ⟨rfl, hc2⟩; have hX2 := hX1.keptAll hc2; have hb2 := below_step hb1 hc2; have hlt2 := hX2.lt; have hge2 := hb2.size; have hX3 := hX2.alloc (.cells (mc zeroM) 28); have hb3 := below_alloc' hb2 (.cells (mc zeroM) 28); have hT3 : Blk (w2.alloc (.cells (mc zeroM) 28)) w2.heap.size (mc zeroM) 28 := Blk.new _ _ _) | ((with_reducible show wpList _ _ _ _ _ _); refine wpList_store_blk rfl 28 (.tmp 9) (.tmp 30) rfl w2.heap.size 0 (mc zeroM) rfl rfl (mc zeroM) 28 hT3 (by first | (rw [HzS.out, HzS.out]; omega) | (rw [HzS.out]; omega)) (by rw [HzS.out]; exact size_mach) (mc_one _) ?_; intro w4 hXw4 hkeep hsz hbl; clear hsz; rw [zero_over] at hXw4; have hbw4 := hbl w.heap.size w (hge2) hb3; have hX4 := hkeep (w.heap.size + 1) _ _ (by omega) hX3; clear hkeep hbl) | ((with_reducible show wpList _ _ _ _ _ _); refine wpList_store_blk rfl 28 (.tmp 6) (.tmp 34) rfl (w.heap.size + 1) 0 (mc zeroM) rfl rfl (mc zeroM) 28 hX4 (by first | (rw [HzS.out, HzS.out]; omega) | (rw [HzS.out]; omega)) (by rw [HzS.out]; exact size_mach) (mc_one _) ?_; intro w5 hXw5 hkeep hsz hbl; clear hsz; rw [zero_over] at hXw5; have hbw5 := hbl w.heap.size w (by omega) hbw4; clear hkeep hbl))
      exact bodyPost_cell1 rfl rfl hXw5 Try.underlying28 rfl (by rw [HzS.out]; exact size_mach) rfl ⟨by rw [HRR.out, HCC.out, HC3.out]; rfl, hbw5⟩
    · have HC3 : Hid (fC x = 0) := Lib.hid (by unfold fC; rw [if_pos hx])
      rw [hx] at HPw
      clear hx
      generalize fR x = R at *
      have Q1 : Hid (cut (mc R) 0 98 = mc R) := Lib.hid (cut_all _ _ HRs.out)
      have Q2 : Hid (over (mc zeroM) 0 (mc R) = mc R) := Lib.hid (over_all _ _ (by rw [HRs.out, HzS.out]))
      go_enter Try.func27, Try.ntmps27
      go_wp2_with (first | (with_reducible show wpList _ _ _ _ _ _; refine wpList_load_blk rfl 28 (.tmp 3) rfl w.heap.size 0 rfl (mc M) _ (by first | exact hM1 | exact hM0) 98 F2.out _ Try.underlying28 rfl size_mach ?_; rw [F1.out]) | (go_at_call 51; refine (HSt.out _).mono ?_; rintro e w1 ⟨rfl, hc1⟩; have hM1 := hM0.keptAll hc1; have hX1 := hX0.keptAll hc1; have hb1 := below_step hb0 hc1) | (go_at_call 42; refine (HIn.out _).mono ?_; rintro e w' ⟨rfl, rfl⟩) | (go_at_call 54; refine (HPw.out _).mono ?_; rintro e w2 ⟨rfl, hc2⟩; have hX2 := hX1.keptAll hc2; have hb2 := below_step hb1 hc2; have hlt2 := hX2.lt; have hge2 := hb2.size; have hX3 := hX2.alloc (.cells (mc zeroM) 28); have hb3 := below_alloc' hb2 (.cells (mc zeroM) 28); have hT3 : Blk (w2.alloc (.cells (mc zeroM) 28)) w2.heap.size (mc zeroM) 28 := Blk.new _ _ _) | ((with_reducible show wpList _ _ _ _ _ _); refine wpList_store_blk rfl 28 (.tmp 9) (.tmp 30) rfl w2.heap.size 0 (mc R) rfl rfl (mc zeroM) 28 hT3 (by first | (rw [HRs.out, HzS.out]; omega) | (rw [HRs.out]; omega)) (by rw [HRs.out]; exact size_mach) (mc_one _) ?_; intro w4 hXw4 hkeep hsz hbl; clear hsz; rw [Q2.out] at hXw4; have hbw4 := hbl w.heap.size w (hge2) hb3; have hX4 := hkeep (w.heap.size + 1) _ _ (by omega) hX3; clear hkeep hbl) | ((with_reducible show wpList _ _ _ _ _ _); refine wpList_load_blk rfl 28 (.tmp 9) rfl w2.heap.size 0 rfl _ _ hXw4 98 (by rw [HRs.out]; omega) _ Try.underlying28 rfl size_mach ?_; rw [Q1.out]) | ((with_reducible show wpList _ _ _ _ _ _); refine wpList_store_blk rfl 28 (.tmp 6) (.tmp 35) rfl (w.heap.size + 1) 0 (mc R) rfl rfl (mc zeroM) 28 hX4 (by first | (rw [HRs.out, HzS.out]; omega) | (rw [HRs.out]; omega)) (by rw [HRs.out]; exact size_mach) (mc_one _) ?_; intro w5 hXw5 hkeep hsz hbl; clear hsz; rw [Q2.out] at hXw5; have hbw5 := hbl w.heap.size w (by omega) hbw4; clear hkeep hbl))
      exact bodyPost_cell1 rfl rfl hXw5 Try.underlying28 rfl (by rw [HRs.out]; exact size_mach) rfl ⟨by rw [HRR.out, HCC.out, HC3.out]; rfl, hbw5⟩

  · have HRR : Hid (poR M q n = zeroM) := Lib.hid (by unfold poR; rw [if_neg h0])
    have HCC : Hid (poC M q n = pwC M q n (-16)) := Lib.hid (by unfold poC; rw [if_neg h0])
    by_cases hst : stC M q = 0
    · have HP2 : Hid (pwC M q n (-16) = 2 ∧ decide (-16 ≤ n ∧ n ≤ 16) = false) := Lib.hid (pwC_two h0 hst)
      have HSt := Lib.hid (fun W => l07State_calls M hok q W)
      rw [hst] at HSt
      have HIn := Lib.hid (fun W => l01In_calls n (-16) 16 W)
      rw [HP2.out.2] at HIn
      clear h0 hst
      go_enter Try.func27, Try.ntmps27
      go_wp2_with (first | (with_reducible show wpList _ _ _ _ _ _; refine wpList_load_blk rfl 28 (.tmp 3) rfl w.heap.size 0 rfl (mc M) _ (by first | exact hM0) 98 F2.out _ Try.underlying28 rfl size_mach ?_; rw [F1.out]) | (go_at_call 51; refine (HSt.out _).mono ?_; rintro e w1 ⟨rfl, hc1⟩; have hX1 := hX0.keptAll hc1; have hb1 := below_step hb0 hc1) | (go_at_call 42; refine (HIn.out _).mono ?_; rintro e w' ⟨rfl, rfl⟩) | ((with_reducible show wpList _ _ _ _ _ _); refine wpList_store_blk rfl 28 (.tmp 6) (.tmp 23) rfl (w.heap.size + 1) 0 (mc zeroM) rfl rfl (mc zeroM) 28 hX1 (by first | (rw [HzS.out, HzS.out]; omega) | (rw [HzS.out]; omega)) (by rw [HzS.out]; exact size_mach) (mc_one _) ?_; intro w5 hXw5 hkeep hsz hbl; clear hsz; rw [zero_over] at hXw5; have hbw5 := hbl w.heap.size w (by omega) hb1; clear hkeep hbl))
      exact bodyPost_cell1 rfl rfl hXw5 Try.underlying28 rfl (by rw [HzS.out]; exact size_mach) rfl ⟨by rw [HRR.out, HCC.out, HP2.out.1]; rfl, hbw5⟩
    · have HP2 : Hid (pwC M q n (-16) = stC M q) := Lib.hid (pwC_one hst)
      have hne : (stC M q == 0) = false := by simpa using hst
      have hne2 : (stC M q != 0) = true := by simpa using hst
      clear h0 hst
      go_enter Try.func27, Try.ntmps27
      go_wp2_with (first | (with_reducible show wpList _ _ _ _ _ _; refine wpList_load_blk rfl 28 (.tmp 3) rfl w.heap.size 0 rfl (mc M) _ (by first | exact hM0) 98 F2.out _ Try.underlying28 rfl size_mach ?_; rw [F1.out]) | (go_at_call 51; refine (l07State_calls M hok q _).mono ?_; rintro e w1 ⟨rfl, hc1⟩; have hX1 := hX0.keptAll hc1; have hb1 := below_step hb0 hc1) | ((with_reducible show wpList _ _ _ _ _ _); refine wpList_store_blk rfl 28 (.tmp 6) (.tmp 23) rfl (w.heap.size + 1) 0 (mc zeroM) rfl rfl (mc zeroM) 28 hX1 (by first | (rw [HzS.out, HzS.out]; omega) | (rw [HzS.out]; omega)) (by rw [HzS.out]; exact size_mach) (mc_one _) ?_; intro w5 hXw5 hkeep hsz hbl; clear hsz; rw [zero_over] at hXw5; have hbw5 := hbl w.heap.size w (by omega) hb1; clear hkeep hbl))
      exact bodyPost_cell1 rfl rfl hXw5 Try.underlying28 rfl (by rw [HzS.out]; exact size_mach) rfl ⟨by rw [HRR.out, HCC.out, HP2.out]; rfl, hbw5⟩

set_option maxRecDepth 100000 in
set_option maxHeartbeats 2000000 in
theorem sMachineOfState_calls (M : Mach) (hok : M.Ok) (q : Int) (w : World) :
    Calls Try.prog 23 #[.agg (mc M), .int .i64 q] w fun e w' => e = .returned (.tuple #[.agg (mc (moR M q)), .int .i64 (stC M q)]) ∧ Below w.heap.size w w' := by
  have hz := zero_mach
  have F1 : Hid (cut (mc M) 0 98 = mc M) := Lib.hid (cut_all _ _ (mc_size hok))
  have F2 : Hid (0 + 98 ≤ (mc M).size) := Lib.hid (by rw [mc_size hok]; omega)
  have HzS : Hid ((mc zeroM).size = 98) := Lib.hid (mc_size zeroM_ok)
  have HMs : Hid ((mc M).size = 98) := Lib.hid (mc_size hok)
  have hM0 : Blk ((w.alloc (.cells (mc M) 28)).alloc (.cells (mc zeroM) 28)) w.heap.size (mc M) 28 := (Blk.new w _ _).alloc _
  have hX0 : Blk ((w.alloc (.cells (mc M) 28)).alloc (.cells (mc zeroM) 28)) (w.heap.size + 1) (mc zeroM) 28 := Blk.new_at _ _ _ _ (by simp)
  have hb0 : Below w.heap.size w ((w.alloc (.cells (mc M) 28)).alloc (.cells (mc zeroM) 28)) := by show Below _ _ (World.alloc _ _); (repeat (first | exact Below.refl _ _ | refine below_drew' ?_ | refine below_drewN' ?_ _ | refine below_alloc' ?_ _ | refine below_set' ?_ (by (try simp); (try omega)) _ | refine below_step ?_ (by assumption)))
  by_cases h0 : stC M q = 0
  · obtain ⟨L, S, qn, hg, rfl, hq⟩ := stC_good hok h0
    have HSt := Lib.hid (fun W => l07State_calls M hok qn W)
    rw [h0] at HSt
    have HM := Lib.hid (fun W => l07Machine_calls M L S hg qn hq W)
    have HRR : Hid (moR M qn = stM M L qn) := Lib.hid (by unfold moR; rw [if_pos h0, stN_eq hg])
    have HCC := Lib.hid h0
    have HRs := Lib.hid (mc_size (stM_good hg hq).ok)
    clear h0 hg
    generalize stM M L qn = R at *
    have Q2 : Hid (over (mc zeroM) 0 (mc R) = mc R) := Lib.hid (over_all _ _ (by rw [HRs.out, HzS.out]))
    go_enter Try.func23, Try.ntmps23
    go_wp2_with (first | (with_reducible show wpList _ _ _ _ _ _; refine wpList_load_blk rfl 28 (.tmp 2) rfl w.heap.size 0 rfl (mc M) _ (by first | exact hM1 | exact hM0) 98 F2.out _ Try.underlying28 rfl size_mach ?_; rw [F1.out]) | (go_at_call 51; refine (HSt.out _).mono ?_; rintro e w1 ⟨rfl, hc1⟩; have hM1 := hM0.keptAll hc1; have hX1 := hX0.keptAll hc1; have hb1 := below_step hb0 hc1) | (go_at_call 52; refine (HM.out _).mono ?_; rintro e w2 ⟨rfl, hc2⟩; have hX2 := hX1.keptAll hc2; have hb2 := below_step hb1 hc2) | ((with_reducible show wpList _ _ _ _ _ _); refine wpList_store_blk rfl 28 (.tmp 4) (.tmp 16) rfl (w.heap.size + 1) 0 (mc R) rfl rfl (mc zeroM) 28 hX2 (by first | (rw [HRs.out, HzS.out]; omega) | (rw [HRs.out]; omega)) (by rw [HRs.out]; exact size_mach) (mc_one _) ?_; intro w5 hXw5 hkeep hsz hbl; clear hsz; rw [Q2.out] at hXw5; have hbw5 := hbl w.heap.size w (by omega) hb2; clear hkeep hbl))
    exact bodyPost_cell1 rfl rfl hXw5 Try.underlying28 rfl (by rw [HRs.out]; exact size_mach) rfl ⟨by rw [HRR.out, HCC.out]; rfl, hbw5⟩
  · have HRR : Hid (moR M q = zeroM) := Lib.hid (by unfold moR; rw [if_neg h0])
    have hne : (stC M q == 0) = false := by simpa using h0
    have hne2 : (stC M q != 0) = true := by simpa using h0
    clear h0
    go_enter Try.func23, Try.ntmps23
    go_wp2_with (first | (with_reducible show wpList _ _ _ _ _ _; refine wpList_load_blk rfl 28 (.tmp 2) rfl w.heap.size 0 rfl (mc M) _ (by first | exact hM0) 98 F2.out _ Try.underlying28 rfl size_mach ?_; rw [F1.out]) | (go_at_call 51; refine (l07State_calls M hok q _).mono ?_; rintro e w1 ⟨rfl, hc1⟩; have hX1 := hX0.keptAll hc1; have hb1 := below_step hb0 hc1) | ((with_reducible show wpList _ _ _ _ _ _); refine wpList_store_blk rfl 28 (.tmp 4) (.tmp 12) rfl (w.heap.size + 1) 0 (mc zeroM) rfl rfl (mc zeroM) 28 hX1 (by first | (rw [HzS.out, HzS.out]; omega) | (rw [HzS.out]; omega)) (by rw [HzS.out]; exact size_mach) (mc_one _) ?_; intro w5 hXw5 hkeep hsz hbl; clear hsz; rw [zero_over] at hXw5; have hbw5 := hbl w.heap.size w (by omega) hb1; clear hkeep hbl))
    exact bodyPost_cell1 rfl rfl hXw5 Try.underlying28 rfl (by rw [HzS.out]; exact size_mach) rfl ⟨by rw [HRR.out]; rfl, hbw5⟩
end Go.Proofs.Ytkkooafjpancoaa
