/- 'l07Start': numbers of least points, the queue of least points, and its machine. · 'l07Start'. Written by gen/genst.py. · 'l07Machine'. · 'l07Product'. Written by gen/genpr.py. -/
import Derived.Test.YtkkooafjpancoaaOfM
import Derived.Test.YtkkooafjpancoaaAuP
import Derived.Test.YtkkooafjpancoaaMaI
import Derived.Test.YtkkooafjpancoaaOwnN
import Derived.Test.YtkkooafjpancoaaInvI
import Derived.Test.YtkkooafjpancoaaBuildK
namespace Go.Proofs.Ytkkooafjpancoaa
open Go.RowKit

/-- The numbers of points: their place in the queue, or -1. -/
def nbL (N : Nat) (q : List Nat) : List Int := (List.range N).map fun p => if bPos eqN q p < q.length then (bPos eqN q p : Int) else -1
theorem nbL_len (N : Nat) (q : List Nat) : (nbL N q).length = N := by simp [nbL]
theorem nbL_at {N : Nat} (q : List Nat) {p : Nat} (hp : p < N) : (ints (nbL N q))[p]? = some (.int .i64 (if bPos eqN q p < q.length then (bPos eqN q p : Int) else -1)) := by
  simp [ints, nbL, hp]
theorem nbL_old {N : Nat} {q : List Nat} {p : Nat} (hp : p < N) (h : bPos eqN q p < q.length) : (ints (nbL N q))[p]? = some (.int .i64 (bPos eqN q p : Int)) := by
  rw [nbL_at q hp, if_pos h]
theorem nbL_new {N : Nat} {q : List Nat} {p : Nat} (hp : p < N) (h : ¬ bPos eqN q p < q.length) : (ints (nbL N q))[p]? = some (.int .i64 (-1)) := by
  rw [nbL_at q hp, if_neg h]
theorem nbL_put (N : Nat) (q : List Nat) (p : Nat) (h : ¬ bPos eqN q p < q.length) : (nbL N q).set p (q.length : Int) = nbL N (q ++ [p]) := by
  apply List.ext_getElem
  · simp [nbL]
  · intro i h1 h2
    simp only [nbL, List.getElem_set, List.getElem_map, List.getElem_range]
    by_cases e : p = i
    · subst e
      have e1 : bPos eqN (q ++ [p]) p = q.length := bPos_new q p (beq_self_eq_true p) h
      rw [if_pos rfl, e1, if_pos (by simp)]
    · rw [if_neg e]
      have hiff : bPos eqN (q ++ [p]) i < (q ++ [p]).length ↔ bPos eqN q i < q.length := fE_old (fun x => x) q p i e
      by_cases h3 : bPos eqN q i < q.length
      · rw [if_pos h3, if_pos (hiff.2 h3), bPos_app q [p] i h3]
      · rw [if_neg h3, if_neg (fun h4 => h3 (hiff.1 h4))]
/-- The first k numbers set to -1. -/
def nbZ (N k : Nat) : List Int := (List.range N).map fun p => if p < k then (-1 : Int) else 0
theorem nbZ_len (N k : Nat) : (nbZ N k).length = N := by simp [nbZ]
theorem nbZ_zero (N : Nat) : nbZ N 0 = List.replicate N 0 := by
  unfold nbZ
  simp only [Nat.not_lt_zero, if_false]
  rw [List.map_const', List.length_range]
theorem nbZ_all (N : Nat) : nbZ N N = nbL N [] := by
  unfold nbZ nbL
  refine List.map_congr_left fun i hi => ?_
  rw [if_pos (by simpa using hi)]; rfl
theorem nbZ_set (N k : Nat) : (nbZ N k).set k (-1) = nbZ N (k + 1) := by
  apply List.ext_getElem
  · simp [nbZ]
  · intro i h1 h2
    simp only [nbZ, List.getElem_set, List.getElem_map, List.getElem_range]
    by_cases h : k = i
    · subst h; simp
    · rw [if_neg h]
      by_cases h3 : i < k
      · rw [if_pos h3, if_pos (by omega)]
      · rw [if_neg h3, if_neg (by omega)]
/-- The queue as numbers. -/
def quI (q : List Nat) : List Int := q.map fun (p : Nat) => (p : Int)
theorem quI_len (q : List Nat) : (quI q).length = q.length := by simp [quI]
theorem quI_app (q : List Nat) (p : Nat) : quI (q ++ [p]) = quI q ++ [(p : Int)] := by simp [quI]
theorem quI_at (q : List Nat) {i : Nat} (h : i < q.length) : (ints (quI q))[i]? = some (.int .i64 (q.getD i 0 : Int)) := by
  simp [ints, quI, h, List.getD]

theorem quI_getD (q : List Nat) (i : Nat) : (quI q).getD i 0 = (q.getD i 0 : Int) := by
  unfold quI
  simp only [List.getD, List.getElem?_map]
  cases q[i]? <;> rfl
theorem OwnI.still {w w1 : World} {base : Nat} {v : Value} {zs : List Int} (h : OwnI w base v zs) (hs : ∀ k, v.ownBlock = some k → w1.heap[k]? = w.heap[k]?) : OwnI w1 base v zs := rowKept h hs
theorem OwnI.far {w : World} {base : Nat} {v : Value} {zs : List Int} (h : OwnI w base v zs) (k : Nat) (hk : v.ownBlock = some k) : base ≤ k ∧ k < w.heap.size := World.ownsRow.lt h k hk
theorem OwnI.opened {w : World} {base : Nat} {v : Value} {zs : List Int} (h : OwnI w base v zs) (h0 : 0 < zs.length) : ∃ g cap cur, v = .slice (some ⟨g, 0, none⟩) zs.length cap ∧ base ≤ g ∧ Blk w g cur 2 ∧ ∀ i, i < zs.length → cur[i]? = some (.int .i64 (zs.getD i 0)) := by
  rcases h.2 with ⟨_, e⟩ | ⟨g, cap, cur, rfl, hbg, hB, hn, _, hs, ht⟩
  · omega
  · refine ⟨g, cap, cur, rfl, hbg, hB, fun i hi => ?_⟩
    have := congrArg (fun l => l[i]?) ht
    simp only [List.getElem?_take, List.getElem?_map, Nat.mul_one] at this
    rw [if_pos hi, List.getElem?_eq_getElem hi] at this
    simpa [List.getD, List.getElem?_eq_getElem hi] using this

/-! ### The machine of the queue while it is made -/
def stP (A : Aut) (L t S j k x : Nat) (q : List Nat) : Mach := mkM L S (qNx eqN (lstN A L t) L 0 k x q) (qOt A.o L 0 j q)
theorem stP_size (A : Aut) (L t S j k x : Nat) (q : List Nat) : (mc (stP A L t S j k x q)).size = 98 := by simp [mc, stP, mkM]
theorem stP_zero (A : Aut) (L t S : Nat) (q : List Nat) : mkM L S (fun _ _ => 0) (fun _ _ => 0) = stP A L t S 0 0 0 q := by
  unfold stP
  refine mkM_congr _ _ _ _ _ _ fun i y _ _ => ?_
  unfold qNx qOt
  rw [if_neg (by omega), if_neg (by omega)]
  exact ⟨rfl, rfl⟩
theorem stP_out (A : Aut) (L t S k : Nat) (hk : k < 16) (q : List Nat) : over (mc (stP A L t S k k 0 q)) (50 + k * 3) (c8 (oL A L (q.getD k 0))) = mc (stP A L t S (k + 1) k 0 q) := by
  unfold stP
  refine mkM_rowO _ _ _ _ _ k hk _ _ _ fun i y _ hy => ?_
  rw [qOt_step k q i y hy]
  rfl
theorem stP_next (A : Aut) (L t S j k x : Nat) (hk : k < 16) (hx3 : x < 3) (hx : x < L) (q : List Nat) : (mc (stP A L t S j k x q)).setIfInBounds (2 + k * 3 + x) (.int .u8 (bPos eqN q (lstN A L t (q.getD k 0) x) : Nat)) = mc (stP A L t S j k (x + 1) q) := by
  unfold stP
  exact mkM_setN _ _ _ _ _ k x hk hx3 _ fun i y _ _ => qNx_step k x hx q i y
theorem stP_row (A : Aut) (L t S j k : Nat) (q : List Nat) : stP A L t S j k L q = stP A L t S j (k + 1) 0 q := by
  unfold stP
  exact mkM_congr _ _ _ _ _ _ fun i y _ _ => ⟨qNx_row k q i y, rfl⟩
theorem stP_all (A : Aut) (L t : Nat) (q : List Nat) : stP A L t q.length q.length q.length 0 q = qM eqN (lstN A L t) A.o L 0 q := rfl
theorem stP_cell (A : Aut) (L t S j k x : Nat) (q : List Nat) {i : Nat} (hi : i < 98) : ∃ v, (mc (stP A L t S j k x q))[i]? = some v :=
  ⟨_, Array.getElem?_eq_getElem (by rw [stP_size]; exact hi)⟩
theorem built_m2 (L S : Int) : Try.prog.built 28 [(0, .int .i64 L), (1, .int .i64 S)] = some (mc (mkM L S (fun _ _ => 0) (fun _ _ => 0))) := by kernel_rfl
/-- What 'l07Start' answers. -/
def ltR (A : Aut) (L p0 : Nat) : Mach := if (setQ A L p0).length ≤ 16 then setM A L p0 else zeroM
def ltB (A : Aut) (L p0 : Nat) : Bool := decide ((setQ A L p0).length ≤ 16)
end Go.Proofs.Ytkkooafjpancoaa

namespace Go.Proofs.Ytkkooafjpancoaa
open Go.RowKit

set_option maxRecDepth 100000 in
set_option maxHeartbeats 6000000 in
theorem l07Start_calls (A : Aut) (L N : Nat) (hL : L ≤ 3) (h0 : 0 < N) (hN : N ≤ 256) (hA : A.In L N) (hb : A.Bytes L N) (lv : Value) (p0 : Nat) (hp : p0 < N) (w : World) (hl : SeesL w lv A L N) :
    Calls Try.prog 72 #[lv, .int .i64 (p0 : Int)] w fun e w' => e = .returned (.tuple #[.agg (mc (ltR A L p0)), .bool (ltB A L p0)]) ∧ Below w.heap.size w w' := by
  have HSee := Lib.hid hl
  obtain ⟨ga, ca, cura, go, co, curo, rfl, hBa, hBo, hc⟩ := hl
  have HN := Lib.hid hN
  have Hin := Lib.hid hA
  have Hby := Lib.hid hb
  have Hc := Lib.hid hc
  have hz := zero_mach
  have HzS : Hid ((mc zeroM).size = 98) := Lib.hid (mc_size zeroM_ok)
  obtain ⟨w0, hw0⟩ : ∃ w0, ((w.alloc (.cells #[.int .i64 (L : Int), .slice (some ⟨ga, 0, none⟩) N ca, .slice (some ⟨go, 0, none⟩) N co] 82)).alloc (.cells (mc zeroM) 28)) = w0 := ⟨_, rfl⟩
  have hb0 : Below w.heap.size w w0 := by rw [← hw0]; show Below _ _ (World.alloc _ _); (repeat (first | exact Below.refl _ _ | refine below_drew' ?_ | refine below_drewN' ?_ _ | refine below_alloc' ?_ _ | refine below_set' ?_ (by (try simp); (try omega)) _ | refine below_step ?_ (by assumption)))
  have hs0 : w0.heap.size = w.heap.size + 1 + 1 := by rw [← hw0]; simp
  have hZ0 : Blk w0 w.heap.size #[.int .i64 (L : Int), .slice (some ⟨ga, 0, none⟩) N ca, .slice (some ⟨go, 0, none⟩) N co] 82 := by rw [← hw0]; exact (Blk.new _ _ _).alloc _
  have hR0 : Blk w0 (w.heap.size + 1) (mc zeroM) 28 := by rw [← hw0]; exact Blk.new_at _ _ _ _ (by simp)
  have Hz : Hid (∀ W, Below w0.heap.size w0 W → Blk W w.heap.size #[.int .i64 (L : Int), .slice (some ⟨ga, 0, none⟩) N ca, .slice (some ⟨go, 0, none⟩) N co] 82 ∧ Blk W (w.heap.size + 1) (mc zeroM) 28 ∧ Blk W ga cura 83 ∧ Blk W go curo 22) := Lib.hid (fun W hW => ⟨hZ0.keptAll hW, hR0.keptAll hW, (hBa.keptAll hb0).keptAll hW, (hBo.keptAll hb0).keptAll hW⟩)
  have Hb0 := Lib.hid hb0
  have Hs0 := Lib.hid hs0
  have HCl : Hid (∀ W, Below w0.heap.size w0 W → Calls Try.prog 80 #[.agg #[.int .i64 (L : Int), .slice (some ⟨ga, 0, none⟩) N ca, .slice (some ⟨go, 0, none⟩) N co]] W fun e w' => ∃ t gc cc curc, e = .returned (.slice (some ⟨gc, 0, none⟩) N cc) ∧ AStill A L N t ∧ W.heap.size ≤ gc ∧ Blk w' gc curc 2 ∧ (∀ i, i < N → curc[i]? = some (.int .i64 (aLst A L t i : Int))) ∧ Below W.heap.size W w') := Lib.hid (fun W hW => by
    refine (l07Classes_calls A L N hL h0 HN.out Hin.out Hby.out _ W (HSee.out.below (hb0.trans (below_le hW (Nat.le_of_lt_succ (by have := hs0; omega)))))).mono ?_
    rintro e w' ⟨⟨v, t, rfl, hst, hO⟩, hbl⟩
    obtain ⟨gc, cc, curc, rfl, hgc, hC, hcc⟩ := hO.opened (by rw [clsA_len]; exact h0)
    rw [clsA_len] at hcc ⊢
    exact ⟨t, gc, cc, curc, rfl, hst, hgc, hC, fun i hi => by rw [hcc i hi]; simp [clsA, List.getD, hi], hbl⟩)
  have hmk := mk_ints N (by omega)
  have Hw0 := Lib.hid hw0
  clear hBa hBo hc hA hb hb0 hs0 hZ0 hR0 hw0 HSee
  go_enter Try.func72, Try.ntmps72
  go_wp2
  rw [Hw0.out]
  clear Hw0
  refine Code.wp_mono (Q := (fun e a W => match e with | .normal => ∃ t gc cc curc gn, AStill A L N t ∧ a = { tmps := #[Value.agg #[.int .i64 (L : Int), .slice (some ⟨ga, 0, none⟩) N ca, .slice (some ⟨go, 0, none⟩) N co], Value.int .i64 (p0 : Int), Value.pointer (some ⟨w.heap.size, 0, none⟩), undef, Value.pointer (some ⟨w.heap.size + 1, 0, none⟩), Value.bool false, Value.slice (some ⟨gc, 0, none⟩) N cc, Value.slice (some ⟨gn, 0, none⟩) N N, undef, undef, undef, undef, undef, undef, undef, undef, Value.agg #[.int .i64 (L : Int), .slice (some ⟨ga, 0, none⟩) N ca, .slice (some ⟨go, 0, none⟩) N co], Value.slice (some ⟨gc, 0, none⟩) N cc, Value.pointer (some ⟨w.heap.size, 1, none⟩), Value.slice (some ⟨ga, 0, none⟩) N ca, Value.int .i64 (N : Int), Value.slice (some ⟨gn, 0, none⟩) N N, undef, undef, undef, undef, undef, undef, undef, undef, undef, undef, undef, undef, undef, undef, undef, undef, undef, undef, undef, undef, undef, undef, undef, undef, undef, undef, undef, undef, undef, undef, undef, undef, undef, undef, undef, undef, undef, undef, undef, undef, undef, undef, undef, undef, undef, undef, undef, undef, undef, undef, undef, undef, undef, undef, undef, undef, undef, undef, undef, undef, undef, undef, undef, undef, undef, undef, undef, undef, undef, undef, undef, undef, undef, undef, undef, undef, undef, undef, undef, undef, undef, undef, undef, undef, undef, undef, undef, undef, undef, undef, undef, undef, undef, undef, undef, undef, undef, undef, undef, undef, undef, undef, undef, undef, undef, undef, undef, undef, undef, undef, undef, undef, undef, undef], defers := [] } ∧ gc ≠ gn ∧ w0.heap.size ≤ gn ∧ Blk W gc curc 2 ∧ (∀ i, i < N → curc[i]? = some (.int .i64 (aLst A L t i : Int))) ∧ Blk W gn (ints (nbZ N 0)) 2 ∧ Below w0.heap.size w0 W | _ => False)) ?rest ?region
  case region =>
    have hb1 : Below w0.heap.size w0 w0.drew := (Below.refl _ _).drew
    refine wp_region_held_drew (S := fun W => Below w0.heap.size w0 W) (by kernel_rfl) hb1 (fun hS0 => ?_)
    generalize w0.drew = wd at *
    (refine hK_load 0 rfl (by kernel_rfl) (by kernel_rfl) (by kernel_rfl) 82 _ rfl w.heap.size 0 rfl #[.int .i64 (L : Int), .slice (some ⟨ga, 0, none⟩) N ca, .slice (some ⟨go, 0, none⟩) N co] _ (fun W hW => (Hz.out W hW).1) 3 (Nat.le_refl 3) _ Try.underlying82 rfl size_lg #[.int .i64 (L : Int), .slice (some ⟨ga, 0, none⟩) N ca, .slice (some ⟨go, 0, none⟩) N co] (cut_all _ _ rfl) (fun _ _ _ h => h) rfl hS0 ?_; (intro K hK; go_simp; refine hK _ ?_; clear hK K))
    (refine hK_take 2 (.pointer (some ⟨w.heap.size, 1, none⟩)) rfl (by kernel_rfl) (by kernel_rfl) (by kernel_rfl) (fun _ _ _ h => h) rfl (fun W _ => by go_simp) hS0 ?_; (intro K hK; go_simp; refine hK _ ?_; clear hK K))
    (refine hK_take 3 (.slice (some ⟨ga, 0, none⟩) N ca) rfl (by kernel_rfl) (by kernel_rfl) (by kernel_rfl) (fun _ _ _ h => h) rfl (fun W hW => by have cC := (Hz.out W hW).1.cell 1; clear hW; go_simp) hS0 ?_; (intro K hK; go_simp; refine hK _ ?_; clear hK K))
    (refine hK_take 4 (.int .i64 (N : Int)) rfl (by kernel_rfl) (by kernel_rfl) (by kernel_rfl) (fun _ _ _ h => h) rfl (fun W _ => by go_simp) hS0 ?_; (intro K hK; go_simp; refine hK _ ?_; clear hK K))
    clear hS0
    refine wpAnyH_ready (rs := [1, 5]) (by kernel_rfl) (by simp) ?_
    refine AllReadyH.cons rfl (fun K hK => ?_) (AllReadyH.cons rfl (fun K hK => ?_) AllReadyH.nil)
    · go_simp
      refine (HCl.out wd hb1).mono ?_
      rintro e W1 ⟨t, gc, cc, curc, rfl, hst, hgc, hC, hcc, hc1⟩
      have hb2 := hb1.trans (below_le hc1 hb1.size)
      have hgl := hC.lt
      go_simp
      refine hK.out _ _ hb2 (fun hS => ?_)
      clear hK K
      refine hK_take 6 (.slice (some ⟨gc, 0, none⟩) N cc) rfl (by kernel_rfl) (by kernel_rfl) (by kernel_rfl) (fun _ _ _ h => h) rfl (fun W _ => by go_simp) hS ?_; (intro K hK; go_simp; refine hK _ ?_; clear hK K)
      refine wpAnyH_ready (rs := [5]) (by kernel_rfl) (by simp) ?_
      refine AllReadyH.cons rfl (fun K hK => ?_) AllReadyH.nil
      go_simp
      have hb3 := below_alloc' hb2 (.cells (ints (List.replicate N 0)) 2)
      have hC3 := hC.alloc (.cells (ints (List.replicate N 0)) 2)
      have hN3 : Blk (W1.alloc (.cells (ints (List.replicate N 0)) 2)) W1.heap.size (ints (List.replicate N 0)) 2 := Blk.new _ _ _
      refine hK.out _ _ hb3 (fun hS2 => ?_)
      clear hK K hS
      refine hK_take 7 (.slice (some ⟨W1.heap.size, 0, none⟩) N N) rfl (by kernel_rfl) (by kernel_rfl) (by kernel_rfl) (fun _ _ _ h => h) rfl (fun W _ => by go_simp) hS2 ?_; (intro K hK; go_simp; refine hK _ ?_; clear hK K)
      refine wpAnyH_done (by kernel_rfl) ?_ _
      exact ⟨t, gc, cc, curc, W1.heap.size, hst, rfl, by omega, hb2.size, hC3, hcc, by rw [nbZ_zero]; exact hN3, hb3⟩
    · go_simp
      have hb2 := below_alloc' hb1 (.cells (ints (List.replicate N 0)) 2)
      have hN2 : Blk (wd.alloc (.cells (ints (List.replicate N 0)) 2)) wd.heap.size (ints (List.replicate N 0)) 2 := Blk.new _ _ _
      have hgl := hN2.lt
      refine hK.out _ _ hb2 (fun hS => ?_)
      clear hK K
      refine wpAnyH_ready (rs := [1]) (by kernel_rfl) (by simp) ?_
      refine AllReadyH.cons rfl (fun K hK => ?_) AllReadyH.nil
      go_simp
      refine (HCl.out _ hb2).mono ?_
      rintro e W1 ⟨t, gc, cc, curc, rfl, hst, hgc, hC, hcc, hc1⟩
      have hb3 := hb2.trans (below_le hc1 hb2.size)
      have hN3 := hN2.keptAll hc1
      go_simp
      refine hK.out _ _ hb3 (fun hS2 => ?_)
      clear hK K hS
      refine hK_take 6 (.slice (some ⟨gc, 0, none⟩) N cc) rfl (by kernel_rfl) (by kernel_rfl) (by kernel_rfl) (fun _ _ _ h => h) rfl (fun W _ => by go_simp) hS2 ?_; (intro K hK; go_simp; refine hK _ ?_; clear hK K)
      refine hK_take 7 (.slice (some ⟨wd.heap.size, 0, none⟩) N N) rfl (by kernel_rfl) (by kernel_rfl) (by kernel_rfl) (fun _ _ _ h => h) rfl (fun W _ => by go_simp) hS2 ?_; (intro K hK; go_simp; refine hK _ ?_; clear hK K)
      refine wpAnyH_done (by kernel_rfl) ?_ _
      exact ⟨t, gc, cc, curc, wd.heap.size, hst, rfl, by omega, hb1.size, hC, hcc, by rw [nbZ_zero]; exact hN3, hb3⟩
  case rest =>
    clear hz hmk HCl
    intro e a W hT
    cases e with
    | normal =>
      obtain ⟨t, gc, cc, curc, gn, hst, rfl, hne, hgn, hC, hcc, hNb, hbw⟩ := hT
      have Hst := Lib.hid hst
      have Hcc := Lib.hid hcc
      have Hne := Lib.hid hne
      have Hgn := Lib.hid hgn
      clear hst hcc
      have hltC0 := hC.lt
      have hltN0 := hNb.lt
      go_wp2
      go_loopw [8] (fun i wr => ∃ k : Nat, k ≤ N ∧ i = .int .i64 k ∧ Blk wr gc curc 2 ∧ Blk wr gn (ints (nbZ N k)) 2 ∧ Below w0.heap.size w0 wr) (fun i _ => N - (intOf i).toNat)
      case atStart => exact ⟨0, by omega, rfl, hC, hNb, hbw⟩
      case round =>
        clear hC hNb hbw
        obtain ⟨k, hk, rfl, hC, hNb, hbw⟩ := hrel
        by_cases hkl : k < N
        · have hki : (k : Int) < (N : Int) := by omega
          have hold := ints_at (nbZ N k) k (by rw [nbZ_len]; omega)
          generalize (nbZ N k).getD k 0 = oldn at hold
          have cN := (hNb.cell k).trans hold
          have fN := hNb.free k
          have hN2 := hNb.set k (.int .i64 (-1))
          rw [← ints_set, nbZ_set] at hN2
          have hC2 := hC.setOther gn k (.int .i64 (-1)) (by omega)
          have hbw2 := below_set' (o := k) hbw (b := gn) hgn (.int .i64 (-1))
          clear hold
          go_wp2
          go_roundw
          case rel => exact ⟨k + 1, by omega, by go_num, hC2, hN2, hbw2⟩
          case measure => simp [intOf] <;> omega
        · obtain rfl : N = k := by omega
          rw [nbZ_all] at hNb
          have hcl := (aLst_at A L t p0).1
          have cC0 := Hcc.out p0 hp
          obtain ⟨c0, hc0⟩ : ∃ c0, aLst A L t p0 = c0 := ⟨_, rfl⟩
          rw [hc0] at cC0 hcl
          have Hc0 := Lib.hid hc0
          clear hc0
          have hc0N : c0 < N := by omega
          have hp0i : (p0 : Int) < (N : Int) := by omega
          have hc0i : (c0 : Int) < (N : Int) := by omega
          have cC1 := (hC.cell p0).trans cC0
          have cC2 := ((hC.alloc (.cells #[.int .i64 (c0 : Int)] 2)).cell p0).trans cC0
          have hold := ints_at (nbL N []) c0 (by rw [nbL_len]; omega)
          generalize (nbL N []).getD c0 0 = oldn at hold
          have cN := ((hNb.alloc (.cells #[.int .i64 (c0 : Int)] 2)).cell c0).trans hold
          have fN := (hNb.alloc (.cells #[.int .i64 (c0 : Int)] 2)).free c0
          have hltC := hC.lt
          have hltN := hNb.lt
          have hN2 := hNb.set c0 (.int .i64 0)
          rw [← ints_set] at hN2
          have hput : (nbL N []).set c0 0 = nbL N [c0] := nbL_put N [] c0 (by simp)
          rw [hput] at hN2
          have hC2 := hC.setOther gn c0 (.int .i64 0) (by omega)
          have hbw2 := below_alloc' (below_set' (o := c0) hbw (b := gn) hgn (.int .i64 0)) (.cells #[.int .i64 (c0 : Int)] 2)
          have hN2 := hN2.alloc (.cells #[.int .i64 (c0 : Int)] 2)
          have hC2 := hC2.alloc (.cells #[.int .i64 (c0 : Int)] 2)
          have hQ2 : Blk ((wr.setCell ⟨gn, c0, none⟩ (.int .i64 0)).alloc (.cells #[.int .i64 (c0 : Int)] 2)) wr.heap.size (ints [(c0 : Int)]) 2 := Blk.new_at _ _ _ _ (by simp)
          clear hold hput
          go_wp2
          clear cC1 cC2 cN fN cC0 hC hNb hbw
          obtain ⟨b2, hb2⟩ : ∃ b2, wr.heap.size = b2 := ⟨_, rfl⟩
          rw [hb2] at hQ2 hltC hltN ⊢
          clear hb2
          have HB9 : Hid (w0.heap.size ≤ b2) := Lib.hid (by have := Hgn.out; omega)
          generalize (wr.setCell ⟨gn, c0, none⟩ (.int .i64 0)).alloc (.cells #[.int .i64 (c0 : Int)] 2) = wb at *
          have hO2 : OwnI wb b2 (.slice (some ⟨b2, 0, none⟩) 1 1) (quI (bAll eqN (lstN A L t) L c0 0)) := OwnI.made (zs := [(c0 : Int)]) rfl (by unfold maxLen; omega) (Nat.le_refl _) hQ2
          have hlstN : ∀ p, p < N → ∀ x, x < L → lstN A L t p x < N := fun p hpN x hx => by
            have h1 := (aLst_at A L t (A.n p x)).1
            have h2 := Hin.out p x hpN hx
            show aLst A L t (A.n p x) < N
            omega
          have HqN := Lib.hid (fun k => bAll_all (E := eqN) (n := lstN A L t) (fun p => p < N) L hlstN c0 hc0N k)
          have Hfew : Hid (∀ k, (bAll eqN (lstN A L t) L c0 k).length ≤ N) := Lib.hid (fun k => few_points eqN_eq.refl (bAll_new eqN_eq L c0 k) (HqN.out k))
          have HlN := Lib.hid hlstN
          clear hlstN hQ2
          go_loopw [9, 10] (fun qv i wr => ∃ (k : Nat) (v : Value), k ≤ 256 ∧ k ≤ (bAll eqN (lstN A L t) L c0 k).length ∧ i = .int .i64 k ∧ v = qv ∧ OwnI wr b2 v (quI (bAll eqN (lstN A L t) L c0 k)) ∧ Blk wr gn (ints (nbL N (bAll eqN (lstN A L t) L c0 k))) 2 ∧ Blk wr gc curc 2 ∧ Below w0.heap.size w0 wr) (fun _ i _ => 257 - (intOf i).toNat)
          case atStart => exact ⟨0, _, by omega, Nat.zero_le _, rfl, rfl, hO2, hN2, hC2, hbw2⟩
          case round =>
            clear hO2 hN2 hC2 hbw2
            obtain ⟨k, v, hk, hkq, rfl, rfl, hO, hNb, hC, hbw⟩ := hrel
            have hlenN := Hfew.out k
            by_cases hlt : k < (bAll eqN (lstN A L t) L c0 k).length
            · have hkN : k < N := by omega
              have Hstep := Lib.hid (bAll_step (E := eqN) (n := lstN A L t) L c0 k hlt)
              have hrN := HqN.out k _ (List.getElem_mem hlt)
              obtain ⟨r, hr⟩ : ∃ r, (bAll eqN (lstN A L t) L c0 k)[k] = r := ⟨_, rfl⟩
              rw [hr] at Hstep hrN
              have Hgt : Hid (∀ x, (bRow eqN (lstN A L t) (bAll eqN (lstN A L t) L c0 k) r x).getD k 0 = r ∧ (bAll eqN (lstN A L t) L c0 k).length ≤ (bRow eqN (lstN A L t) (bAll eqN (lstN A L t) L c0 k) r x).length) := Lib.hid (fun x => by
                obtain ⟨z, hz⟩ := bRow_pre (E := eqN) (n := lstN A L t) (bAll eqN (lstN A L t) L c0 k) r x
                rw [← hz]
                simp [List.getD, List.getElem?_append_left hlt, List.getElem?_eq_getElem hlt, hr])
              have Hle := Lib.hid (fun x => bRow_len (E := eqN) (n := lstN A L t) (bAll eqN (lstN A L t) L c0 k) r x)
              clear hr
              have hO0 : OwnI wr b2 v (quI (bRow eqN (lstN A L t) (bAll eqN (lstN A L t) L c0 k) r 0)) := hO
              have hN0 : Blk wr gn (ints (nbL N (bRow eqN (lstN A L t) (bAll eqN (lstN A L t) L c0 k) r 0))) 2 := hNb
              obtain ⟨oq, cq, rfl, _⟩ := hO.view
              rw [quI_len] at *
              have hli : (k : Int) < ((bAll eqN (lstN A L t) L c0 k).length : Int) := by omega
              go_wp2
              clear hO hNb hli
              go_loopw [9, 11] (fun qv xv wr => ∃ (x : Nat) (v : Value), x ≤ L ∧ xv = .int .i64 x ∧ v = qv ∧ OwnI wr b2 v (quI (bRow eqN (lstN A L t) (bAll eqN (lstN A L t) L c0 k) r x)) ∧ Blk wr gn (ints (nbL N (bRow eqN (lstN A L t) (bAll eqN (lstN A L t) L c0 k) r x))) 2 ∧ Blk wr gc curc 2 ∧ Below w0.heap.size w0 wr) (fun _ xv _ => L - (intOf xv).toNat)
              case atStart => exact ⟨0, _, by omega, rfl, rfl, hO0, hN0, hC, hbw⟩
              case round =>
                clear hO0 hN0 hC hbw
                obtain ⟨x, v, hx, rfl, rfl, hO, hNb, hC, hbw⟩ := hrel
                have cZ0 := ((Hz.out _ hbw).1.cell 0).trans (show _ = some (Value.int .i64 (L : Int)) from rfl)
                obtain ⟨hg1, hg2⟩ := Hgt.out x
                by_cases hxl : x < L
                · have hxi : (x : Int) < (L : Int) := by omega
                  have hx3 : (x : Int) < 3 := by omega
                  have hle := Hle.out x
                  have hto := HlN.out r hrN x hxl
                  have hnr := Hin.out r x hrN hxl
                  have Hrow : Hid (bRow eqN (lstN A L t) (bAll eqN (lstN A L t) L c0 k) r (x + 1) = bPut eqN (bRow eqN (lstN A L t) (bAll eqN (lstN A L t) L c0 k) r x) (lstN A L t r x)) := Lib.hid rfl
                  have cc1 := Hcc.out (A.n r x) hnr
                  rw [show aLst A L t (A.n r x) = lstN A L t r x from rfl] at cc1
                  obtain ⟨gq, cq, curq, rfl, hgq, hQ, hqc⟩ := hO.opened (by rw [quI_len]; omega)
                  have hqk := hqc k (by rw [quI_len]; omega)
                  rw [show (quI (bRow eqN (lstN A L t) (bAll eqN (lstN A L t) L c0 k) r x)).getD k 0 = (r : Int) from by rw [quI_getD, hg1]] at hqk
                  have Hqk := Lib.hid hqk
                  have Hcc1 := Lib.hid cc1
                  clear hqc hqk cc1 hg1
                  rw [quI_len] at hO ⊢
                  have hkx : (k : Int) < ((bRow eqN (lstN A L t) (bAll eqN (lstN A L t) L c0 k) r x).length : Int) := by omega
                  have hrNi : (r : Int) < (N : Int) := by omega
                  have hnri : (A.n r x : Int) < (N : Int) := by omega
                  have htoi : (lstN A L t r x : Int) < (N : Int) := by omega
                  have cQ := (hQ.cell k).trans Hqk.out
                  have cZ1 := ((Hz.out _ hbw).1.cell 1).trans (show _ = some (Value.slice (some ⟨ga, 0, none⟩) N ca) from rfl)
                  have n1 := (Hc.out r hrN x (by omega)).1
                  rw [show rowN A L r x = A.n r x from if_pos hxl] at n1
                  have cn1 := ((Hz.out _ hbw).2.2.1.cell (r * 3 + x)).trans n1
                  have cc1 := (hC.cell (A.n r x)).trans Hcc1.out
                  clear n1
                  have hltC := hC.lt
                  have hltN := hNb.lt
                  have hltQ := hQ.lt
                  generalize lstN A L t r x = tq at *
                  generalize A.n r x = nr at *
                  generalize (bRow eqN (lstN A L t) (bAll eqN (lstN A L t) L c0 k) r x) = qx at *
                  go_wp2
                  go_quiet (fail)
                  clear cZ0 cZ1 cn1 cc1 cQ
                  have hC6 := hC.drewN nq
                  have hN6 := hNb.drewN nq
                  have hO6 := hO.below (w1 := wr.drewN nq) (by exact below_drewN' (Below.refl _ _) nq)
                  have hbw6 := below_drewN' hbw nq
                  clear hC hNb hO hbw hQ
                  generalize wr.drewN nq = w6 at *
                  by_cases hin : bPos eqN qx tq < qx.length
                  · have cN := (hN6.cell tq).trans (nbL_old hto hin)
                    have hnn : ¬ ((bPos eqN qx tq : Int) < 0) := by omega
                    have Hq' := Lib.hid (Hrow.out.trans (bPut_old hin))
                    clear hin
                    go_wp2
                    go_roundw
                    case rel => exact ⟨x + 1, _, by omega, by go_num, rfl, by rw [Hq'.out]; exact hO6, by rw [Hq'.out]; exact hN6, hC6, hbw6⟩
                    case measure => simp [intOf] <;> omega
                  · have cN := (hN6.cell tq).trans (nbL_new hto hin)
                    have fN := hN6.free tq
                    have Hq' := Lib.hid (Hrow.out.trans (bPut_new hin))
                    have hput := nbL_put N qx tq hin
                    clear hin
                    have hN7 := hN6.set tq (.int .i64 (qx.length : Int))
                    rw [← ints_set, hput] at hN7
                    have hC7 := hC6.setOther gn tq (.int .i64 (qx.length : Int)) (by have := Hne.out; omega)
                    have hO7 := hO6.still (w1 := w6.setCell ⟨gn, tq, none⟩ (.int .i64 (qx.length : Int))) (fun q hq => Below.heap_setCell _ _ _ q (by have := (hO6.far q hq).1; show q ≠ gn; omega))
                    have hbw7 := below_set' (o := tq) hbw6 (b := gn) Hgn.out (.int .i64 (qx.length : Int))
                    clear hput hN6 hC6 hO6 hbw6
                    have hal := (Below.refl (w6.setCell ⟨gn, tq, none⟩ (.int .i64 (qx.length : Int))).heap.size (w6.setCell ⟨gn, tq, none⟩ (.int .i64 (qx.length : Int)))).alloc (Nat.le_refl _) (.cells #[.int .i64 (tq : Int)] 2)
                    have hN8 := hN7.keptAll hal
                    have hC8 := hC7.keptAll hal
                    have hO8 := hO7.below hal
                    have hbw8 := below_step hbw7 hal
                    have hX8 : Blk ((w6.setCell ⟨gn, tq, none⟩ (.int .i64 (qx.length : Int))).alloc (.cells #[.int .i64 (tq : Int)] 2)) (w6.setCell ⟨gn, tq, none⟩ (.int .i64 (qx.length : Int))).heap.size #[.int .i64 (tq : Int)] 2 := Blk.new _ _ _
                    rw [show (w6.setCell ⟨gn, tq, none⟩ (.int .i64 (qx.length : Int))).heap.size = w6.heap.size from by simp] at hX8
                    have Hql : Hid ((quI qx).length + 1 ≤ 1048576) := Lib.hid (by rw [quI_len]; omega)
                    have Hb28 : Hid (b2 ≤ ((w6.setCell ⟨gn, tq, none⟩ (.int .i64 (qx.length : Int))).alloc (.cells #[.int .i64 (tq : Int)] 2)).heap.size) := Lib.hid (by have := hN8.lt; have := hC8.lt; have := hO8.far gq rfl; omega)
                    clear hN7 hC7 hO7 hbw7 hal
                    go_wp2_with (at_builtin; refine wpList_push_int rfl (.tmp 77) (.tmp 79) rfl b2 _ (quI qx) rfl hO8 w6.heap.size 1 (tq : Int) rfl hX8 Hql.out Hb28.out ?_; intro v7 w7 hO9 hb7; have hN9 := hN8.kept hb7 (by omega); have hC9 := hC8.kept hb7 (by omega); have hbw9 := hbw8.trans (below_le hb7 HB9.out))
                    go_roundw
                    case rel => exact ⟨x + 1, _, by omega, by go_num, rfl, by rw [Hq'.out, quI_app]; exact hO9, by rw [Hq'.out]; exact hN9, hC9, hbw9⟩
                    case measure => simp [intOf] <;> omega
                · obtain rfl : L = x := by omega
                  rw [← Hstep.out] at hO hNb hg2
                  go_wp2
                  go_roundw
                  case rel => exact ⟨k + 1, _, by omega, by omega, by go_num, rfl, hO, hNb, hC, hbw⟩
                  case measure => simp [intOf] <;> omega
            · have hke : (bAll eqN (lstN A L t) L c0 k).length = k := by omega
              have Hq : Hid (bAll eqN (lstN A L t) L c0 256 = (bAll eqN (lstN A L t) L c0 k)) := Lib.hid (bAll_stay (E := eqN) (n := lstN A L t) L c0 k (by omega) 256 hk)
              have Hmach := Lib.hid (lstQ_mach Hin.out HN.out Hst.out hp)
              have Hlen := Lib.hid (lstQ_len Hin.out HN.out Hst.out hp 256)
              rw [Hc0.out, Hq.out] at Hmach Hlen
              have Hlen2 : Hid (k = (setQ A L p0).length) := Lib.hid (by rw [← hke, Hlen.out]; rfl)
              have Hcl := Lib.hid (fun i (hi : i < (bAll eqN (lstN A L t) L c0 k).length) x hx => bAll_closed (E := eqN) (n := lstN A L t) eqN_eq.refl L c0 k i hi (by omega) x hx)
              have HqNk := Lib.hid (HqN.out k)
              have Hfirst := Lib.hid (bAll_pos (E := eqN) (n := lstN A L t) L c0 k)
              clear Hfew HqN hlt hkq hlenN
              generalize (bAll eqN (lstN A L t) L c0 k) = qf at *
              subst hke
              have hnl : ¬ ((qf.length : Int) < (qf.length : Int)) := by omega
              obtain ⟨gq, cq, curq, rfl, hgq, hQ, hqc⟩ := hO.opened (by rw [quI_len]; exact Hfirst.out)
              rw [quI_len] at *
              by_cases h16 : 16 < qf.length
              · have Hr : Hid (ltR A L p0 = zeroM) := Lib.hid (by unfold ltR; rw [if_neg (by have := Hlen2.out; omega)])
                have HbB : Hid (ltB A L p0 = false) := Lib.hid (by unfold ltB; rw [decide_eq_false]; have := Hlen2.out; omega)
                have h16i : (16 : Int) < (qf.length : Int) := by omega
                have hR := (Hz.out _ hbw).2.1
                have hz := zero_mach
                go_wp2_with ((with_reducible show wpList _ _ _ _ _ _); refine wpList_store_blk rfl 28 (.tmp 4) (.tmp 84) rfl (w.heap.size + 1) 0 (mc zeroM) rfl rfl (mc zeroM) _ hR (by rw [HzS.out]; omega) (by rw [HzS.out]; exact size_mach) (mc_one _) ?_; intro w4 hb4 hkeep _ hbl; rw [zero_over] at hb4; have hbw4 := hbl w.heap.size w (by omega) (Hb0.out.trans (below_le hbw (by have := Hs0.out; omega))); clear hkeep hbl)
                exact bodyPost_cell1 rfl rfl hb4 Try.underlying28 rfl (by rw [HzS.out]; exact size_mach) rfl ⟨by rw [Hr.out, HbB.out]; rfl, hbw4⟩
              · have Hr : Hid (ltR A L p0 = setM A L p0) := Lib.hid (by unfold ltR; rw [if_pos (by have := Hlen2.out; omega)])
                have HbB : Hid (ltB A L p0 = true) := Lib.hid (by unfold ltB; rw [decide_eq_true]; have := Hlen2.out; omega)
                have h16i : ¬ (16 : Int) < (qf.length : Int) := by omega
                rename World => wX
                have hz := zero_mach
                have Hbt : Hid (Try.prog.built 28 [(0, .int .i64 (L : Int)), (1, .int .i64 (qf.length : Int))] = some (mc (stP A L t qf.length (0) (0) (0) qf))) := Lib.hid (by rw [← stP_zero A L t qf.length qf]; exact built_m2 _ _)
                have HsS := Lib.hid (fun j k x => stP_size A L t qf.length j k x qf)
                have G1 : Hid (0 + (mc (stP A L t qf.length (0) (0) (0) qf)).size ≤ (mc zeroM).size) := Lib.hid (by rw [HzS.out, stP_size]; omega)
                have G2 : Hid ((Try.prog.info? 28).map (·.size) = some (mc (stP A L t qf.length (0) (0) (0) qf)).size) := Lib.hid (by rw [stP_size]; exact size_mach)
                have G4 : Hid (over (mc zeroM) 0 (mc (stP A L t qf.length (0) (0) (0) qf)) = mc (stP A L t qf.length (0) (0) (0) qf)) := Lib.hid (over_all _ _ (by rw [HzS.out, stP_size]))
                have cZ0 := ((Hz.out _ hbw).1.cell 0).trans (show _ = some (Value.int .i64 (L : Int)) from rfl)
                have Hqc := Lib.hid hqc
                clear hqc
                have Hy : Hid (∀ W, Below wX.heap.size wX W → Blk W gq curq 2 ∧ Blk W gn (ints (nbL N qf)) 2 ∧ Blk W gc curc 2 ∧ Below w0.heap.size w0 W) := Lib.hid (fun W hW => ⟨hQ.keptAll hW, hNb.keptAll hW, hC.keptAll hW, hbw.trans (below_le hW hbw.size)⟩)
                have hX0 : Blk (wX.alloc (.cells (mc zeroM) 28)) wX.heap.size (mc zeroM) 28 := Blk.new _ _ _
                have hb0 : Below wX.heap.size wX (wX.alloc (.cells (mc zeroM) 28)) := (Below.refl _ _).alloc (Nat.le_refl _) _
                have hgeX := hbw.size
                clear hQ hNb hC hO
                go_wp2_with (first | ((with_reducible show wpList _ _ _ _ _ _); refine wpList_build2 rfl 28 0 1 (.tmp 86) (.tmp 88) rfl (.int .i64 (L : Int)) (.int .i64 (qf.length : Int)) rfl rfl (mc (stP A L t qf.length (0) (0) (0) qf)) Hbt.out ?_) | ((with_reducible show wpList _ _ _ _ _ _); refine wpList_store_blk rfl 28 (.tmp 13) (.tmp 89) rfl wX.heap.size 0 (mc (stP A L t qf.length (0) (0) (0) qf)) rfl rfl (mc zeroM) 28 hX0 G1.out G2.out (mc_one _) ?_; intro w3 hb3 hkeep hsz3 hbl; rw [G4.out] at hb3; have hbw3 := hbl wX.heap.size wX (Nat.le_refl _) hb0; clear hkeep hbl))
                clear hX0 hb0 cZ0 Hbt G1 G2 G4 hz hsz3 hbw
                obtain ⟨gx, hgx⟩ : ∃ gx, wX.heap.size = gx := ⟨_, rfl⟩
                rw [hgx] at hb3 hgeX ⊢
                have Hgx := Lib.hid hgx
                clear hgx
                go_loopw [14] (fun i wr2 => ∃ k : Nat, k ≤ qf.length ∧ i = .int .i64 k ∧ Blk wr2 gx (mc (stP A L t qf.length (k) (k) (0) qf)) 28 ∧ Below wX.heap.size wX wr2) (fun i _ => qf.length - (intOf i).toNat)
                case atStart => exact ⟨0, by omega, rfl, hb3, hbw3⟩
                case round =>
                  clear hb3 hbw3
                  obtain ⟨k2, hk2, rfl, hX, hbw⟩ := hrel
                  by_cases hkl : k2 < qf.length
                  · have hkli : (k2 : Int) < (qf.length : Int) := by omega
                    have hk16 : k2 < 16 := by omega
                    have hk16i : (k2 : Int) < 16 := by omega
                    have hqk := Hqc.out k2 hkl
                    rw [quI_getD] at hqk
                    have hrN : qf.getD k2 0 < N := by rw [getD_get qf hkl]; exact HqNk.out _ (List.getElem_mem hkl)
                    have Hout := Lib.hid (stP_out A L t qf.length k2 hk16 qf)
                    have Hnxt := Lib.hid (fun x hx3 hx => stP_next A L t qf.length (k2 + 1) k2 x hk16 hx3 hx qf)
                    have Hclk := Lib.hid (Hcl.out k2 hkl)
                    rw [← getD_get qf hkl] at Hclk
                    generalize qf.getD k2 0 = r at *
                    have Hqk := Lib.hid hqk
                    have hrNi : (r : Int) < (N : Int) := by omega
                    have hcut := cut_oL (fun x hx => (Hc.out r hrN x hx).2)
                    have Hcut := Lib.hid hcut.1
                    have Hroom := Lib.hid hcut.2
                    have Ho1 := Lib.hid (c8_one' (oL A L r))
                    have Hos : Hid ((c8 (oL A L r)).size = 3) := Lib.hid (by rw [c8_size]; rfl)
                    generalize c8 (oL A L r) = orow at *
                    clear hcut hqk
                    go_wp2
                    have hXd := hX.drew
                    have hbd := below_drew' hbw
                    clear hX hbw
                    refine wp_region_held_drew (S := fun W => Below wX.heap.size wX W) (by kernel_rfl) hbd (fun hS0 => ?_)
                    generalize World.drew _ = wd at *
                    (refine hK_take 0 (.int .i64 (k2 : Int)) rfl (by kernel_rfl) (by kernel_rfl) (by kernel_rfl) (fun _ _ _ h => h) rfl (fun W _ => by go_simp) hS0 ?_; (intro K hK; go_simp; refine hK _ ?_; clear hK K))
                    (refine hK_take 1 (.pointer (some ⟨w.heap.size, 2, none⟩)) rfl (by kernel_rfl) (by kernel_rfl) (by kernel_rfl) (fun _ _ _ h => h) rfl (fun W _ => by go_simp) hS0 ?_; (intro K hK; go_simp; refine hK _ ?_; clear hK K))
                    (refine hK_take 2 (.slice (some ⟨go, 0, none⟩) N co) rfl (by kernel_rfl) (by kernel_rfl) (by kernel_rfl) (fun _ _ _ h => h) rfl (fun W hW => by have cC := (Hz.out W (Hy.out W hW).2.2.2).1.cell 2; clear hW; go_simp) hS0 ?_; (intro K hK; go_simp; refine hK _ ?_; clear hK K))
                    (refine hK_take 3 (.slice (some ⟨gq, 0, none⟩) qf.length cq) rfl (by kernel_rfl) (by kernel_rfl) (by kernel_rfl) (fun _ _ _ h => h) rfl (fun W _ => by go_simp) hS0 ?_; (intro K hK; go_simp; refine hK _ ?_; clear hK K))
                    (refine hK_take 4 (.int .i64 (k2 : Int)) rfl (by kernel_rfl) (by kernel_rfl) (by kernel_rfl) (fun _ _ _ h => h) rfl (fun W _ => by go_simp) hS0 ?_; (intro K hK; go_simp; refine hK _ ?_; clear hK K))
                    (refine hK_take 5 (.pointer (some ⟨gq, k2, none⟩)) rfl (by kernel_rfl) (by kernel_rfl) (by kernel_rfl) (fun _ _ _ h => h) rfl (fun W _ => by go_simp) hS0 ?_; (intro K hK; go_simp; refine hK _ ?_; clear hK K))
                    (refine hK_take 6 (.int .i64 (r : Int)) rfl (by kernel_rfl) (by kernel_rfl) (by kernel_rfl) (fun _ _ _ h => h) rfl (fun W hW => by have cC := ((Hy.out W hW).1.cell k2).trans Hqk.out; clear hW; go_simp) hS0 ?_; (intro K hK; go_simp; refine hK _ ?_; clear hK K))
                    (refine hK_take 7 (.pointer (some ⟨go, r * 3, none⟩)) rfl (by kernel_rfl) (by kernel_rfl) (by kernel_rfl) (fun _ _ _ h => h) rfl (fun W _ => by go_simp) hS0 ?_; (intro K hK; go_simp; refine hK _ ?_; clear hK K))
                    (refine hK_load 8 rfl (by kernel_rfl) (by kernel_rfl) (by kernel_rfl) 22 _ rfl go (r * 3) rfl curo _ (fun W hW => (Hz.out W (Hy.out W hW).2.2.2).2.2.2) 3 Hroom.out _ Try.underlying22 rfl size_a3 _ Hcut.out (fun _ _ _ h => h) rfl hS0 ?_; (intro K hK; go_simp; refine hK _ ?_; clear hK K))
                    (refine hK_take 9 (.pointer (some ⟨gx, 50, none⟩)) rfl (by kernel_rfl) (by kernel_rfl) (by kernel_rfl) (fun _ _ _ h => h) rfl (fun W _ => by go_simp) hS0 ?_; (intro K hK; go_simp; refine hK _ ?_; clear hK K))
                    (refine hK_take 10 (.pointer (some ⟨gx, 50 + k2 * 3, none⟩)) rfl (by kernel_rfl) (by kernel_rfl) (by kernel_rfl) (fun _ _ _ h => h) rfl (fun W _ => by go_simp) hS0 ?_; (intro K hK; go_simp; refine hK _ ?_; clear hK K))
                    refine hK_store 11 rfl (by kernel_rfl) rfl 22 _ _ rfl gx (50 + k2 * 3) orow rfl rfl _ _ hXd (by rw [HsS.out, Hos.out]; omega) (by rw [Hos.out]; exact size_a3) Ho1.out _ Hout.out (fun W5 hs => ⟨hs.below _ _ (by have := Hgx.out; omega) hbd, fun hS => ?_⟩)
                    (intro K hK; go_simp; refine hK _ ?_; clear hK K)
                    have hX5 := hs.blk
                    clear hs hXd hbd hS0
                    refine wpAnyH_done (by kernel_rfl) ?_ _
                    go_wp2
                    go_loopw [15] (fun xv wr2 => ∃ x : Nat, x ≤ L ∧ xv = .int .i64 x ∧ Blk wr2 gx (mc (stP A L t qf.length (k2 + 1) (k2) (x) qf)) 28 ∧ Below wX.heap.size wX wr2) (fun xv _ => L - (intOf xv).toNat)
                    case atStart => exact ⟨0, by omega, rfl, hX5, hS⟩
                    case round =>
                      clear hX5 hS
                      obtain ⟨x, hx, rfl, hX, hbw⟩ := hrel
                      have cZ0 := ((Hz.out _ (Hy.out _ hbw).2.2.2).1.cell 0).trans (show _ = some (Value.int .i64 (L : Int)) from rfl)
                      by_cases hxl : x < L
                      · have hxi : (x : Int) < (L : Int) := by omega
                        have hx3 : x < 3 := by omega
                        have hx3i : (x : Int) < 3 := by omega
                        have hnr := Hin.out r x hrN hxl
                        have hto := HlN.out r hrN x hxl
                        have cc1 := Hcc.out (A.n r x) hnr
                        rw [show aLst A L t (A.n r x) = lstN A L t r x from rfl] at cc1
                        have n1 := (Hc.out r hrN x hx3).1
                        rw [show rowN A L r x = A.n r x from if_pos hxl] at n1
                        have hin := Hclk.out x hxl
                        have nb1 := nbL_old hto hin
                        have Hnx := Lib.hid (Hnxt.out x hx3 hxl)
                        obtain ⟨oldc, hcs⟩ := stP_cell A L t qf.length (k2 + 1) k2 x qf (i := 2 + k2 * 3 + x) (by omega)
                        have Hn1 := Lib.hid n1
                        have Hnb1 := Lib.hid nb1
                        have Hcc1 := Lib.hid cc1
                        have hnri : (A.n r x : Int) < (N : Int) := by omega
                        have htoi : (lstN A L t r x : Int) < (N : Int) := by omega
                        have hw8 : IntKind.u8.wrap (bPos eqN qf (lstN A L t r x) : Int) = (bPos eqN qf (lstN A L t r x) : Int) := by simp [IntKind.wrap, IntKind.bits, IntKind.signed]; omega
                        clear n1 nb1 cc1 hin
                        generalize bPos eqN qf (lstN A L t r x) = ps at *
                        generalize lstN A L t r x = tq at *
                        generalize A.n r x = nr at *
                        go_wp2
                        have hXd := hX.drew
                        have hbd := below_drew' hbw
                        clear hX hbw cZ0
                        refine wp_region_held_drew (S := fun W => Below wX.heap.size wX W) (by kernel_rfl) hbd (fun hS0 => ?_)
                        generalize World.drew _ = wd at *
                        have cS := (hXd.cell (2 + k2 * 3 + x)).trans hcs
                        have fS := hXd.free (2 + k2 * 3 + x)
                        have hX5 := hXd.set (2 + k2 * 3 + x) (.int .u8 (ps : Int))
                        rw [Hnx.out] at hX5
                        have hb5 := below_set' (o := 2 + k2 * 3 + x) hbd (b := gx) (by have := Hgx.out; omega) (.int .u8 (ps : Int))
                        (refine hK_take 0 (.int .i64 (k2 : Int)) rfl (by kernel_rfl) (by kernel_rfl) (by kernel_rfl) (fun _ _ _ h => h) rfl (fun W _ => by go_simp) hS0 ?_; (intro K hK; go_simp; refine hK _ ?_; clear hK K))
                        (refine hK_take 1 (.int .i64 (x : Int)) rfl (by kernel_rfl) (by kernel_rfl) (by kernel_rfl) (fun _ _ _ h => h) rfl (fun W _ => by go_simp) hS0 ?_; (intro K hK; go_simp; refine hK _ ?_; clear hK K))
                        (refine hK_take 2 (.slice (some ⟨gn, 0, none⟩) N N) rfl (by kernel_rfl) (by kernel_rfl) (by kernel_rfl) (fun _ _ _ h => h) rfl (fun W _ => by go_simp) hS0 ?_; (intro K hK; go_simp; refine hK _ ?_; clear hK K))
                        (refine hK_take 3 (.slice (some ⟨gc, 0, none⟩) N cc) rfl (by kernel_rfl) (by kernel_rfl) (by kernel_rfl) (fun _ _ _ h => h) rfl (fun W _ => by go_simp) hS0 ?_; (intro K hK; go_simp; refine hK _ ?_; clear hK K))
                        (refine hK_take 4 (.pointer (some ⟨w.heap.size, 1, none⟩)) rfl (by kernel_rfl) (by kernel_rfl) (by kernel_rfl) (fun _ _ _ h => h) rfl (fun W _ => by go_simp) hS0 ?_; (intro K hK; go_simp; refine hK _ ?_; clear hK K))
                        (refine hK_take 5 (.slice (some ⟨ga, 0, none⟩) N ca) rfl (by kernel_rfl) (by kernel_rfl) (by kernel_rfl) (fun _ _ _ h => h) rfl (fun W hW => by have cC := (Hz.out W (Hy.out W hW).2.2.2).1.cell 1; clear hW; go_simp) hS0 ?_; (intro K hK; go_simp; refine hK _ ?_; clear hK K))
                        (refine hK_take 6 (.slice (some ⟨gq, 0, none⟩) qf.length cq) rfl (by kernel_rfl) (by kernel_rfl) (by kernel_rfl) (fun _ _ _ h => h) rfl (fun W _ => by go_simp) hS0 ?_; (intro K hK; go_simp; refine hK _ ?_; clear hK K))
                        (refine hK_take 7 (.int .i64 (k2 : Int)) rfl (by kernel_rfl) (by kernel_rfl) (by kernel_rfl) (fun _ _ _ h => h) rfl (fun W _ => by go_simp) hS0 ?_; (intro K hK; go_simp; refine hK _ ?_; clear hK K))
                        (refine hK_take 8 (.pointer (some ⟨gq, k2, none⟩)) rfl (by kernel_rfl) (by kernel_rfl) (by kernel_rfl) (fun _ _ _ h => h) rfl (fun W _ => by go_simp) hS0 ?_; (intro K hK; go_simp; refine hK _ ?_; clear hK K))
                        (refine hK_take 9 (.int .i64 (r : Int)) rfl (by kernel_rfl) (by kernel_rfl) (by kernel_rfl) (fun _ _ _ h => h) rfl (fun W hW => by have cC := ((Hy.out W hW).1.cell k2).trans Hqk.out; clear hW; go_simp) hS0 ?_; (intro K hK; go_simp; refine hK _ ?_; clear hK K))
                        (refine hK_take 10 (.int .i64 (x : Int)) rfl (by kernel_rfl) (by kernel_rfl) (by kernel_rfl) (fun _ _ _ h => h) rfl (fun W _ => by go_simp) hS0 ?_; (intro K hK; go_simp; refine hK _ ?_; clear hK K))
                        (refine hK_take 11 (.pointer (some ⟨ga, r * 3, none⟩)) rfl (by kernel_rfl) (by kernel_rfl) (by kernel_rfl) (fun _ _ _ h => h) rfl (fun W _ => by go_simp) hS0 ?_; (intro K hK; go_simp; refine hK _ ?_; clear hK K))
                        (refine hK_take 12 (.pointer (some ⟨ga, r * 3 + x, none⟩)) rfl (by kernel_rfl) (by kernel_rfl) (by kernel_rfl) (fun _ _ _ h => h) rfl (fun W _ => by go_simp) hS0 ?_; (intro K hK; go_simp; refine hK _ ?_; clear hK K))
                        (refine hK_take 13 (.int .i64 (nr : Int)) rfl (by kernel_rfl) (by kernel_rfl) (by kernel_rfl) (fun _ _ _ h => h) rfl (fun W hW => by have cC := ((Hz.out W (Hy.out W hW).2.2.2).2.2.1.cell (r * 3 + x)).trans Hn1.out; clear hW; go_simp) hS0 ?_; (intro K hK; go_simp; refine hK _ ?_; clear hK K))
                        (refine hK_take 14 (.pointer (some ⟨gc, nr, none⟩)) rfl (by kernel_rfl) (by kernel_rfl) (by kernel_rfl) (fun _ _ _ h => h) rfl (fun W _ => by go_simp) hS0 ?_; (intro K hK; go_simp; refine hK _ ?_; clear hK K))
                        (refine hK_take 15 (.int .i64 (tq : Int)) rfl (by kernel_rfl) (by kernel_rfl) (by kernel_rfl) (fun _ _ _ h => h) rfl (fun W hW => by have cC := ((Hy.out W hW).2.2.1.cell nr).trans Hcc1.out; clear hW; go_simp) hS0 ?_; (intro K hK; go_simp; refine hK _ ?_; clear hK K))
                        (refine hK_take 16 (.pointer (some ⟨gn, tq, none⟩)) rfl (by kernel_rfl) (by kernel_rfl) (by kernel_rfl) (fun _ _ _ h => h) rfl (fun W _ => by go_simp) hS0 ?_; (intro K hK; go_simp; refine hK _ ?_; clear hK K))
                        (refine hK_take 17 (.int .i64 (ps : Int)) rfl (by kernel_rfl) (by kernel_rfl) (by kernel_rfl) (fun _ _ _ h => h) rfl (fun W hW => by have cC := ((Hy.out W hW).2.1.cell tq).trans Hnb1.out; clear hW; go_simp) hS0 ?_; (intro K hK; go_simp; refine hK _ ?_; clear hK K))
                        (refine hK_take 18 (.int .u8 (ps : Int)) rfl (by kernel_rfl) (by kernel_rfl) (by kernel_rfl) (fun _ _ _ h => h) rfl (fun W _ => by go_simp) hS0 ?_; (intro K hK; go_simp; refine hK _ ?_; clear hK K))
                        (refine hK_take 19 (.pointer (some ⟨gx, 2, none⟩)) rfl (by kernel_rfl) (by kernel_rfl) (by kernel_rfl) (fun _ _ _ h => h) rfl (fun W _ => by go_simp) hS0 ?_; (intro K hK; go_simp; refine hK _ ?_; clear hK K))
                        (refine hK_take 20 (.pointer (some ⟨gx, 2 + k2 * 3, none⟩)) rfl (by kernel_rfl) (by kernel_rfl) (by kernel_rfl) (fun _ _ _ h => h) rfl (fun W _ => by go_simp) hS0 ?_; (intro K hK; go_simp; refine hK _ ?_; clear hK K))
                        (refine hK_take 21 (.pointer (some ⟨gx, 2 + k2 * 3 + x, none⟩)) rfl (by kernel_rfl) (by kernel_rfl) (by kernel_rfl) (fun _ _ _ h => h) rfl (fun W _ => by go_simp) hS0 ?_; (intro K hK; go_simp; refine hK _ ?_; clear hK K))
                        refine wpAnyH_ready (rs := [22]) (by kernel_rfl) (by simp) ?_
                        refine AllReadyH.cons rfl (fun K hK => ?_) AllReadyH.nil
                        go_simp
                        refine hK.out _ _ hb5 (fun hS1 => ?_)
                        clear hK K
                        refine wpAnyH_done (by kernel_rfl) ?_ _
                        clear hS0 cS fS hXd hbd
                        go_wp2
                        go_roundw
                        case rel => exact ⟨x + 1, by omega, by go_num, hX5, hb5⟩
                        case measure => simp [intOf] <;> omega
                      · obtain rfl : L = x := by omega
                        rw [stP_row] at hX
                        go_wp2
                        go_roundw
                        case rel => exact ⟨k2 + 1, by omega, by go_num, hX, hbw⟩
                        case measure => simp [intOf] <;> omega
                  · obtain rfl : qf.length = k2 := by omega
                    rw [stP_all, Hmach.out] at hX
                    have hXs : (mc (setM A L p0)).size = 98 := by rw [← Hmach.out]; exact HsS.out qf.length qf.length 0
                    have HXs := Lib.hid hXs
                    have hR := (Hz.out _ (Hy.out _ hbw).2.2.2).2.1
                    have hbwz := Hb0.out.trans (below_le (Hy.out _ hbw).2.2.2 (by have := Hs0.out; omega))
                    have F1 : Hid (cut (mc (setM A L p0)) 0 98 = mc (setM A L p0)) := Lib.hid (cut_all _ _ hXs)
                    have F2 : Hid (over (mc zeroM) 0 (mc (setM A L p0)) = mc (setM A L p0)) := Lib.hid (over_all _ _ (by rw [hXs, HzS.out]))
                    clear hXs
                    go_wp2_with (first | ((with_reducible show wpList _ _ _ _ _ _); refine wpList_load_blk rfl 28 (.tmp 13) rfl gx 0 rfl _ _ hX 98 (by rw [HXs.out]; omega) _ Try.underlying28 rfl size_mach ?_; rw [F1.out]) | ((with_reducible show wpList _ _ _ _ _ _); refine wpList_store_blk rfl 28 (.tmp 4) (.tmp 135) rfl (w.heap.size + 1) 0 _ rfl rfl (mc zeroM) _ hR (by rw [HXs.out, HzS.out]; omega) (by rw [HXs.out]; exact size_mach) (mc_one _) ?_; intro w4 hb4 hkeep _ hbl; rw [F2.out] at hb4; have hbw4 := hbl w.heap.size w (by omega) hbwz; clear hkeep hbl))
                    exact bodyPost_cell1 rfl rfl hb4 Try.underlying28 rfl (by rw [HXs.out]; exact size_mach) rfl ⟨by rw [Hr.out, HbB.out]; rfl, hbw4⟩
    | _ => exact hT.elim
end Go.Proofs.Ytkkooafjpancoaa

namespace Go.Proofs.Ytkkooafjpancoaa
open Go.RowKit

theorem stA_bytes {M : Mach} (hok : M.Ok) (L S : Nat) : (stA M).Bytes L S := fun i x _ _ => Mach.o_bd hok i x
theorem ltR_st {M : Mach} {L S q : Nat} (hg : Good M L S) (hq : q < S) : ltR (stA M) L q = stM M L q := by
  have h : (setQ (stA M) L q).length ≤ 16 := stQ_le hg hq
  unfold ltR; rw [if_pos h]; rfl

set_option maxRecDepth 100000 in
set_option maxHeartbeats 2000000 in
theorem l07Machine_calls (M : Mach) (L S : Nat) (hg : Good M L S) (q : Nat) (hq : q < S) (w : World) :
    Calls Try.prog 52 #[.agg (mc M), .int .i64 (q : Int)] w fun e w' => e = .returned (.agg (mc (stM M L q))) ∧ Below w.heap.size w w' := by
  have hok := hg.ok
  have hz := zero_mach
  have F1 : Hid (cut (mc M) 0 98 = mc M) := Lib.hid (cut_all _ _ (mc_size hok)); have F2 : Hid (0 + 98 ≤ (mc M).size) := Lib.hid (by rw [mc_size hok]; omega)
  have HzS : Hid ((mc zeroM).size = 98) := Lib.hid (mc_size zeroM_ok)
  have HOf := Lib.hid (fun W => l07Of_calls M L S hg W)
  have HSt : Hid (∀ W v, SeesL W v (stA M) L S → Calls Try.prog 72 #[v, .int .i64 (q : Int)] W fun e w' => e = .returned (.tuple #[.agg (mc (stM M L q)), .bool (ltB (stA M) L q)]) ∧ Below W.heap.size W w') := Lib.hid (fun W v hv => by
    have := l07Start_calls (stA M) L S hg.L3 (by have := hg.S1; omega) (by have := hg.S16; omega) (stA_in hg) (stA_bytes hok L S) v q hq W hv
    rwa [ltR_st hg hq] at this)
  have HRs : Hid ((mc (stM M L q)).size = 98) := Lib.hid (mc_size (stM_good hg hq).ok)
  obtain ⟨R, hR⟩ : ∃ R, stM M L q = R := ⟨_, rfl⟩
  obtain ⟨B, hB⟩ : ∃ B, ltB (stA M) L q = B := ⟨_, rfl⟩
  rw [hR] at HSt HRs
  rw [hB] at HSt
  rw [hR]
  clear hR hB hg
  have G1 : Hid (cut (mc R) 0 98 = mc R) := Lib.hid (cut_all _ _ HRs.out)
  have G2 : Hid (over (mc zeroM) 0 (mc R) = mc R) := Lib.hid (over_all _ _ (by rw [HRs.out, HzS.out]))
  have hM0 : Blk ((w.alloc (.cells (mc M) 28)).alloc (.cells (mc zeroM) 28)) w.heap.size (mc M) 28 := (Blk.new _ _ _).alloc _
  have hR0 : Blk ((w.alloc (.cells (mc M) 28)).alloc (.cells (mc zeroM) 28)) (w.heap.size + 1) (mc zeroM) 28 := Blk.new_at _ _ _ _ (by simp)
  have hb0 : Below w.heap.size w ((w.alloc (.cells (mc M) 28)).alloc (.cells (mc zeroM) 28)) := by show Below _ _ (World.alloc _ _); (repeat (first | exact Below.refl _ _ | refine below_drew' ?_ | refine below_drewN' ?_ _ | refine below_alloc' ?_ _ | refine below_set' ?_ (by (try simp); (try omega)) _ | refine below_step ?_ (by assumption)))
  go_enter Try.func52, Try.ntmps52
  go_wp2_with (first | (with_reducible show wpList _ _ _ _ _ _; refine wpList_load_blk rfl 28 (.tmp 2) rfl w.heap.size 0 rfl (mc M) _ (hM0) 98 F2.out _ Try.underlying28 rfl size_mach ?_; rw [F1.out]) | (go_at_call 78; refine (HOf.out _).mono ?_; rintro e w1 ⟨v, rfl, hS1, hc1⟩; have hR1 := hR0.keptAll hc1; have hb1 := below_step hb0 hc1) | (go_at_call 72; refine (HSt.out _ _ hS1).mono ?_; rintro e w2 ⟨rfl, hc2⟩; have hR2 := hR1.keptAll hc2; have hb2 := below_step hb1 hc2; have hlt2 := hR2.lt; have hR3 := hR2.alloc (.cells (mc zeroM) 28); have hX3 : Blk (w2.alloc (.cells (mc zeroM) 28)) w2.heap.size (mc zeroM) 28 := Blk.new _ _ _; have hb3 := below_alloc' hb2 (.cells (mc zeroM) 28); have hge2 := hb2.size) | ((with_reducible show wpList _ _ _ _ _ _); refine wpList_store_blk rfl 28 (.tmp 5) (.tmp 12) rfl w2.heap.size 0 (mc R) rfl rfl (mc zeroM) 28 hX3 (by rw [HRs.out, HzS.out]; omega) (by rw [HRs.out]; exact size_mach) (mc_one _) ?_; intro w4 hX4 hkeep _ hbl; rw [G2.out] at hX4; have hR4 := hkeep (w.heap.size + 1) _ _ (by omega) hR3; have hb4 := hbl w.heap.size w hge2 hb3; clear hkeep hbl) | ((with_reducible show wpList _ _ _ _ _ _); refine wpList_load_blk rfl 28 (.tmp 5) rfl w2.heap.size 0 rfl _ _ hX4 98 (by rw [HRs.out]; omega) _ Try.underlying28 rfl size_mach ?_; rw [G1.out]) | ((with_reducible show wpList _ _ _ _ _ _); refine wpList_store_blk rfl 28 (.tmp 4) (.tmp 14) rfl (w.heap.size + 1) 0 (mc R) rfl rfl (mc zeroM) 28 hR4 (by rw [HRs.out, HzS.out]; omega) (by rw [HRs.out]; exact size_mach) (mc_one _) ?_; intro w5 hb5 hkeep _ hbl; rw [G2.out] at hb5; have hbw5 := hbl w.heap.size w (by omega) hb4; clear hkeep hbl))
  exact bodyPost_cell rfl rfl hb5 Try.underlying28 rfl (by rw [HRs.out]; exact size_mach) rfl ⟨rfl, hbw5⟩
end Go.Proofs.Ytkkooafjpancoaa

namespace Go.Proofs.Ytkkooafjpancoaa
open Go.RowKit

theorem info_o3 : (Try.prog.info? 22).map (fun i => (i.zero, i.size)) = some (some (.agg (c8 [0, 0, 0])), 3) := by kernel_rfl
theorem zero_o3 : ∀ w, (zeroValue 22).run Try.prog w = .ok (.agg (c8 [0, 0, 0])) w := (zero_of_info info_o3).1
theorem oL_set (A : Aut) (p k : Nat) (hk : k < 3) : (oL A k p).set k (A.o p k) = oL A (k + 1) p := by
  rcases (show k = 0 ∨ k = 1 ∨ k = 2 by omega) with rfl | rfl | rfl <;> rfl
section
variable {ops : Array Oper} {rest : List Oper} {o : Oper} {a : Act} {w : World} {Q : Exit → Act → World → Prop}
theorem wpList_push_b3 (hgd : o.guard = none) (s x : Operand) (ho : o.op = .call { callee := .builtin .append, args := #[s, x], argTypes := #[80, 80] })
    (base : Nat) (v : Value) (n : Nat) (fl : List Int) (hs : a.eval s = v) (hown : OwnF 22 3 w base v n fl) (g c : Nat) (x0 x1 x2 : Int) (hx : a.eval x = .slice (some ⟨g, 0, none⟩) 1 c) (hB : Blk w g #[.int .u8 x0, .int .u8 x1, .int .u8 x2] 22)
    (hn : n ≤ 1048576) (hbase : base ≤ w.heap.size)
    (h : ∀ v' w', OwnF 22 3 w' base v' (n + 1) (fl ++ [x0, x1, x2]) → Below base w w' → (∀ k, k < w.heap.size → some k ≠ v.ownBlock → w'.heap[k]? = w.heap[k]?) → (v'.ownBlock = v.ownBlock ∨ v'.ownBlock = some w.heap.size) → wpList Try.prog ops Q rest (a.put o.dst v') w') : wpList Try.prog ops Q (o :: rest) a w :=
  wpList_plain hgd fun _ hK => wp_push_b3 s x ho base v n fl hs hown g c x0 x1 x2 hx hB hn hbase fun v' w' h1 h2 h3 h4 => hK _ _ (h v' w' h1 h2 h3 h4)
end
theorem prA_n {M K : Mach} {T : Nat} (i j x : Nat) (hj : j < T) : (prA M K T).n (i * T + j) x = nn M i x * T + nn K j (M.o i x).toNat ∧ (prA M K T).o (i * T + j) x = K.o j (M.o i x).toNat := by
  have h1 : (i * T + j) / T = i := by rw [Nat.mul_comm, Nat.mul_add_div (by omega), Nat.div_eq_of_lt hj, Nat.add_zero]
  have h2 : (i * T + j) % T = j := by rw [Nat.mul_comm, Nat.mul_add_mod, Nat.mod_eq_of_lt hj]
  constructor
  · show nn M ((i * T + j) / T) x * T + nn K ((i * T + j) % T) (M.o ((i * T + j) / T) x).toNat = _
    rw [h1, h2]
  · show K.o ((i * T + j) % T) (M.o ((i * T + j) / T) x).toNat = _
    rw [h1, h2]
theorem prA_bytes {M K : Mach} (hK : K.Ok) (L T N : Nat) : (prA M K T).Bytes L N := fun i x _ _ => prA_bd hK i x

set_option maxRecDepth 100000 in
set_option maxHeartbeats 4000000 in
theorem l07Product_calls (M K : Mach) (L S T : Nat) (hgM : Good M L S) (hgK : Good K L T) (q r : Nat) (hq : q < S) (hr : r < T) (w : World) :
    Calls Try.prog 46 #[.agg (mc M), .int .i64 (q : Int), .agg (mc K), .int .i64 (r : Int)] w fun e w' => e = .returned (.tuple #[.agg (mc (ltR (prA M K T) L (q * T + r))), .bool (ltB (prA M K T) L (q * T + r))]) ∧ Below w.heap.size w w' := by
  have hL3 := hgM.L3
  have hL2 := hgM.L2
  have hS16 := hgM.S16
  have hT16 := hgK.S16
  have hcL := mc_L M
  have hcS := mc_S M
  have hcT := mc_S K
  rw [hgM.hL] at hcL
  rw [hgM.hS] at hcS
  rw [hgK.hS] at hcT
  have HM := Lib.hid hgM
  have HK := Lib.hid hgK
  have hz := zero_mach
  have hzl := zero_lg
  have hz3 := zero_i3
  have hzo := zero_o3
  have HzS : Hid ((mc zeroM).size = 98) := Lib.hid (mc_size zeroM_ok)
  have hST := few_prod hS16 hT16
  have hidx : ∀ i j, i < S → j < T → i * T + j < S * T := fun i j hi hj => by
    calc i * T + j < i * T + T := by omega
      _ = (i + 1) * T := by rw [Nat.succ_mul]
      _ ≤ S * T := Nat.mul_le_mul_right _ (by omega)
  have Hidx := Lib.hid hidx
  have HSt : Hid (∀ W v, SeesL W v (prA M K T) L (S * T) → Calls Try.prog 72 #[v, .int .i64 ((q * T + r : Nat) : Int)] W fun e w' => e = .returned (.tuple #[.agg (mc (ltR (prA M K T) L (q * T + r))), .bool (ltB (prA M K T) L (q * T + r))]) ∧ Below W.heap.size W w') := Lib.hid (fun W v hv => l07Start_calls (prA M K T) L (S * T) hL3 (Nat.mul_pos (by omega) (by omega)) hST (prA_in hgM hgK) (prA_bytes hgK.ok L T (S * T)) v (q * T + r) (hidx q r hq hr) W hv)
  have HRs : Hid ((mc (ltR (prA M K T) L (q * T + r))).size = 98) := Lib.hid (by
    unfold ltR
    split
    · rename_i h
      exact mc_size (prodM_good hgM hgK (hidx q r hq hr) h).ok
    · exact mc_size zeroM_ok)
  have HA := Lib.hid (fun i j x hj => prA_n (M := M) (K := K) (T := T) i j x hj)
  obtain ⟨A, hA⟩ : ∃ A, prA M K T = A := ⟨_, rfl⟩
  rw [hA] at HSt HRs HA
  rw [hA]
  clear hA
  obtain ⟨R, hR⟩ : ∃ R, ltR A L (q * T + r) = R := ⟨_, rfl⟩
  obtain ⟨B, hB⟩ : ∃ B, ltB A L (q * T + r) = B := ⟨_, rfl⟩
  rw [hR] at HSt HRs
  rw [hB] at HSt
  rw [hR, hB]
  clear hR hB
  obtain ⟨w0, hw0⟩ : ∃ w0, ((w.alloc (.cells (mc M) 28)).alloc (.cells (mc K) 28)).alloc (.cells (mc zeroM) 28) = w0 := ⟨_, rfl⟩
  have hb0 : Below w.heap.size w w0 := by rw [← hw0]; show Below _ _ (World.alloc _ _); (repeat (first | exact Below.refl _ _ | refine below_drew' ?_ | refine below_drewN' ?_ _ | refine below_alloc' ?_ _ | refine below_set' ?_ (by (try simp); (try omega)) _ | refine below_step ?_ (by assumption)))
  have hs0 : w0.heap.size = w.heap.size + 1 + 1 + 1 := by rw [← hw0]; simp
  have hM0 : Blk w0 w.heap.size (mc M) 28 := by rw [← hw0]; exact ((Blk.new _ _ _).alloc _).alloc _
  have hK0 : Blk w0 (w.heap.size + 1) (mc K) 28 := by rw [← hw0]; exact (Blk.new_at _ _ _ _ (by simp)).alloc _
  have hR0 : Blk w0 (w.heap.size + 1 + 1) (mc zeroM) 28 := by rw [← hw0]; exact Blk.new_at _ _ _ _ (by simp)
  have Hz : Hid (∀ W, Below w0.heap.size w0 W → Blk W w.heap.size (mc M) 28 ∧ Blk W (w.heap.size + 1) (mc K) 28 ∧ Blk W (w.heap.size + 1 + 1) (mc zeroM) 28) := Lib.hid (fun W hW => ⟨hM0.keptAll hW, hK0.keptAll hW, hR0.keptAll hW⟩)
  have Hb0 := Lib.hid hb0
  have Hs0 := Lib.hid hs0
  have hset : lgZ.setIfInBounds 0 (.int .i64 (L : Int)) = lgC L (.slice none 0 0) (.slice none 0 0) := rfl
  have Hon := Lib.hid (lgC_one L none none 0 0 0 0)
  have Hov : Hid (over lgZ 0 (lgC L (.slice none 0 0) (.slice none 0 0)) = lgC L (.slice none 0 0) (.slice none 0 0)) := Lib.hid (over_all _ _ rfl)
  have cL1 := ((Hz.out w0 (Below.refl _ _)).1.cell 0).trans hcL
  rw [← hw0] at cL1
  have Hw0 := Lib.hid hw0
  clear hgM hgK hb0 hs0 hM0 hK0 hR0 hw0 hidx hST
  go_enter Try.func46, Try.ntmps46
  have hN0 : Blk (w0.alloc (.cells lgZ 82)) w0.heap.size lgZ 82 := Blk.new _ _ _
  have hbA : Below w0.heap.size w0 (w0.alloc (.cells lgZ 82)) := by (repeat (first | exact Below.refl _ _ | refine below_drew' ?_ | refine below_drewN' ?_ _ | refine below_alloc' ?_ _ | refine below_set' ?_ (by (try simp); (try omega)) _ | refine below_step ?_ (by assumption)))
  have HsA : Hid (∀ w1, Stored (w0.alloc (.cells lgZ 82)) w1 w0.heap.size (lgC L (.slice none 0 0) (.slice none 0 0)) 82 → w0.heap.size + 1 ≤ w1.heap.size) := Lib.hid (fun w1 hs => by rw [hs.size]; simp)
  go_wp2_with ((with_reducible show wpList _ _ _ _ _ _); rw [Hw0.out, ← Hs0.out]; refine wpList_store_row rfl 82 (.tmp 10) (.tmp 21) rfl w0.heap.size 0 (lgC L (.slice none 0 0) (.slice none 0 0)) rfl rfl lgZ 82 hN0 (Nat.le_refl 3) size_lg Hon.out _ Hov.out ?_; intro w1 hs1)
  have hN1 := hs1.blk
  have hb1 := hs1.below _ _ (Nat.le_refl _) hbA
  have hsz1 := HsA.out w1 hs1
  clear hN0 hbA hs1 HsA cL1 hset Hw0
  have hJ1 : OwnJ w1 (w0.heap.size + 1) (.slice none 0 0) (0 * T) (flN A L (0 * T)) := by rw [Nat.zero_mul]; exact OwnJ.nil _ _
  have hO1 : OwnF 22 3 w1 (w0.heap.size + 1) (.slice none 0 0) (0 * T) (flO A L (0 * T)) := by rw [Nat.zero_mul]; exact OwnF.nil _ _ _ _
  go_loopw [11] (fun iv wr => ∃ (i : Nat) (nv ov : Value), i ≤ S ∧ iv = .int .i64 i ∧ Blk wr w0.heap.size (lgC L nv ov) 82 ∧ OwnJ wr (w0.heap.size + 1) nv (i * T) (flN A L (i * T)) ∧ OwnF 22 3 wr (w0.heap.size + 1) ov (i * T) (flO A L (i * T)) ∧ Hid (∀ b, nv.ownBlock = some b → ov.ownBlock ≠ some b) ∧ Below w0.heap.size w0 wr ∧ w0.heap.size + 1 ≤ wr.heap.size) (fun iv _ => S - (intOf iv).toNat)
  case atStart => exact ⟨0, _, _, by omega, rfl, hN1, hJ1, hO1, Lib.hid (fun b hb => by simp [Value.ownBlock] at hb), hb1, hsz1⟩
  case round =>
    clear hN1 hJ1 hO1 hb1 hsz1
    obtain ⟨i, nv, ov, hi, rfl, hN, hJ, hO, Hno, hbw, hsz⟩ := hrel
    have cS := ((Hz.out _ hbw).1.cell 1).trans hcS
    by_cases hiS : i < S
    · have hii : (i : Int) < (S : Int) := by omega
      have hi16 : (i : Int) < 16 := by omega
      have hJ2 : OwnJ wr (w0.heap.size + 1) nv (i * T + 0) (flN A L (i * T + 0)) := hJ
      have hO2 : OwnF 22 3 wr (w0.heap.size + 1) ov (i * T + 0) (flO A L (i * T + 0)) := hO
      clear hJ hO
      go_wp2
      clear cS
      go_loopw [12] (fun jv wr => ∃ (j : Nat) (nv ov : Value), j ≤ T ∧ jv = .int .i64 j ∧ Blk wr w0.heap.size (lgC L nv ov) 82 ∧ OwnJ wr (w0.heap.size + 1) nv (i * T + j) (flN A L (i * T + j)) ∧ OwnF 22 3 wr (w0.heap.size + 1) ov (i * T + j) (flO A L (i * T + j)) ∧ Hid (∀ b, nv.ownBlock = some b → ov.ownBlock ≠ some b) ∧ Below w0.heap.size w0 wr ∧ w0.heap.size + 1 ≤ wr.heap.size) (fun jv _ => T - (intOf jv).toNat)
      case atStart => exact ⟨0, _, _, by omega, rfl, hN, hJ2, hO2, Hno, hbw, hsz⟩
      case round =>
        clear hN hJ2 hO2 Hno hbw hsz
        obtain ⟨j, nv, ov, hj, rfl, hN, hJ, hO, Hno, hbw, hsz⟩ := hrel
        have cT := ((Hz.out _ hbw).2.1.cell 1).trans hcT
        by_cases hjT : j < T
        · have hji : (j : Int) < (T : Int) := by omega
          have hj16 : (j : Int) < 16 := by omega
          have hpS := Hidx.out i j hiS hjT
          have hS256 := few_prod hS16 hT16
          have HA2 := Lib.hid (fun x => HA.out i j x hjT)
          obtain ⟨p, hp⟩ : ∃ p, i * T + j = p := ⟨_, rfl⟩
          rw [hp] at hJ hO HA2 hpS
          have Hp := Lib.hid hp
          clear hp
          obtain ⟨oa, ca, rfl, hv1⟩ := hJ.view
          obtain ⟨oo, co, rfl, hv2⟩ := hO.view
          clear hv1 hv2
          have hal : Below wr.heap.size wr ((wr.alloc (.cells (ints [0, 0, 0]) 83)).alloc (.cells (c8 [0, 0, 0]) 22)) := by show Below _ _ (World.alloc _ _); (repeat (first | exact Below.refl _ _ | refine below_drew' ?_ | refine below_drewN' ?_ _ | refine below_alloc' ?_ _ | refine below_set' ?_ (by (try simp); (try omega)) _ | refine below_step ?_ (by assumption)))
          have hX0 : Blk ((wr.alloc (.cells (ints [0, 0, 0]) 83)).alloc (.cells (c8 [0, 0, 0]) 22)) wr.heap.size (ints [0, 0, 0]) 83 := (Blk.new _ _ _).alloc _
          have hY0 : Blk ((wr.alloc (.cells (ints [0, 0, 0]) 83)).alloc (.cells (c8 [0, 0, 0]) 22)) (wr.heap.size + 1) (c8 [0, 0, 0]) 22 := Blk.new_at _ _ _ _ (by simp)
          have hNa := hN.keptAll hal
          have hJa := hJ.below hal
          have hOa := hO.below hal
          have hbwa := hbw.trans (below_le hal hbw.size)
          have HF0 : Hid ((∀ b, (Value.slice oa p ca).ownBlock = some b → b < wr.heap.size) ∧ (∀ b, (Value.slice oo p co).ownBlock = some b → b < wr.heap.size)) := Lib.hid ⟨fun b hb => (hJ.ltt b hb).2, fun b hb => (hO.ltt b hb).2⟩
          have hltN := hN.lt
          have Ht3 : Hid (over (ints [0, 0, 0]) 0 (ints [0, 0, 0]) = ints [0, 0, 0]) := Lib.hid (over_all _ _ rfl)
          have Ho3 : Hid (over (c8 [0, 0, 0]) 0 (c8 [0, 0, 0]) = c8 [0, 0, 0]) := Lib.hid (over_all _ _ rfl)
          have HszA : Hid (((wr.alloc (.cells (ints [0, 0, 0]) 83)).alloc (.cells (c8 [0, 0, 0]) 22)).heap.size = wr.heap.size + 1 + 1) := Lib.hid (by simp)
          clear hal hN hJ hO
          go_wp2_with (first | ((with_reducible show wpList _ _ _ _ _ _); refine wpList_store_row rfl 83 (.tmp 13) (.tmp 34) rfl wr.heap.size 0 (ints [0, 0, 0]) rfl rfl (ints [0, 0, 0]) 83 hX0 (Nat.le_refl 3) size_i3 (ints_one _) _ Ht3.out ?_; intro w5 hs5; have hY5 := hs5.keep (by omega) hY0) | ((with_reducible show wpList _ _ _ _ _ _); refine wpList_store_row rfl 22 (.tmp 14) (.tmp 35) rfl (wr.heap.size + 1) 0 (c8 [0, 0, 0]) rfl rfl (c8 [0, 0, 0]) 22 hY5 (Nat.le_refl 3) size_a3 (c8_one' _) _ Ho3.out ?_; intro w6 hs6))
          have hX6 := hs6.keep (by omega) hs5.blk
          have hY6 := hs6.blk
          have hN6 := hs6.keep (by omega) (hs5.keep (by omega) hNa)
          have hJ6 := (hJa.same (fun b hb => hs5.other b (by have := HF0.out.1 b hb; omega))).same (fun b hb => hs6.other b (by have := HF0.out.1 b hb; omega))
          have hO6 := (hOa.same (fun b hb => hs5.other b (by have := HF0.out.2 b hb; omega))).same (fun b hb => hs6.other b (by have := HF0.out.2 b hb; omega))
          have hbw6 := hs6.below _ _ (by omega) (hs5.below _ _ (by omega) hbwa)
          have hsz6 : wr.heap.size + 1 + 1 ≤ w6.heap.size := by rw [hs6.size, hs5.size, HszA.out]; exact Nat.le_refl _
          clear hs5 hs6 hX0 hY0 hY5 hNa hJa hOa hbwa HszA Ht3 Ho3 hbw
          obtain ⟨g5, hg5⟩ : ∃ g5, wr.heap.size = g5 := ⟨_, rfl⟩
          rw [hg5] at hX6 hY6 hsz6 HF0 hltN hsz
          rw [hg5]
          clear hg5
          rw [← rwP_zero A p] at hX6
          have hY7 : Blk w6 (g5 + 1) (c8 (oL A 0 p)) 22 := hY6
          clear hY6
          go_loopw [15] (fun xv wr => ∃ x : Nat, x ≤ L ∧ xv = .int .i64 x ∧ Blk wr w0.heap.size (lgC L (.slice oa p ca) (.slice oo p co)) 82 ∧ OwnJ wr (w0.heap.size + 1) (.slice oa p ca) p (flN A L p) ∧ OwnF 22 3 wr (w0.heap.size + 1) (.slice oo p co) p (flO A L p) ∧ Below w0.heap.size w0 wr ∧ Blk wr g5 (ints (rwP A p x)) 83 ∧ Blk wr (g5 + 1) (c8 (oL A x p)) 22) (fun xv _ => L - (intOf xv).toNat)
          case atStart => exact ⟨0, by omega, rfl, hN6, hJ6, hO6, hbw6, hX6, hY7⟩
          case round =>
            clear hN6 hJ6 hO6 hbw6 hX6 hY7 hsz6
            obtain ⟨x, hx, rfl, hN, hJ, hO, hbw, hX, hY⟩ := hrel
            have cL := ((Hz.out _ hbw).1.cell 0).trans hcL
            by_cases hxL : x < L
            · have hx3 : x < 3 := by omega
              have hxi : (x : Int) < (L : Int) := by omega
              have hxi3 : (x : Int) < 3 := by omega
              obtain ⟨ha1, ha2⟩ := HA2.out x
              have hyo := (HM.out.oN i x hiS hxL)
              have co1 := mc_o HM.out.ok i x (by omega) hx3
              have cn1 := mc_n HM.out.ok i x (by omega) hx3
              rw [HM.out.nn_eq i x hiS hxL] at cn1
              have hn1 := HM.out.nn_lt i x hiS hxL
              rw [hyo.2] at co1
              obtain ⟨y, hy⟩ : ∃ y, (M.o i x).toNat = y := ⟨_, rfl⟩
              rw [hy] at co1 ha1 ha2 hyo
              have hyL := hyo.1
              clear hyo hy
              have co2 := mc_o HK.out.ok j y (by omega) (by omega)
              have cn2 := mc_n HK.out.ok j y (by omega) (by omega)
              rw [HK.out.nn_eq j y hjT hyL] at cn2
              have hn2 := HK.out.nn_lt j y hjT hyL
              rw [← ha2] at co2
              generalize nn M i x = n1 at *
              generalize nn K j y = n2 at *
              have hm : n1 * T ≤ 256 := Nat.le_trans (Nat.mul_le_mul (show n1 ≤ 16 by omega) hT16) (by omega)
              have hw1 : IntKind.i64.wrap ((n1 : Int) * (T : Int)) = ((n1 * T : Nat) : Int) := by
                rw [show (n1 : Int) * (T : Int) = ((n1 * T : Nat) : Int) from by push_cast; rfl]
                generalize n1 * T = z at *; simp [IntKind.wrap, IntKind.bits, IntKind.signed]; omega
              have hw2 : IntKind.i64.wrap (((n1 * T : Nat) : Int) + (n2 : Int)) = (A.n p x : Int) := by
                rw [ha1]
                generalize n1 * T = z at *; simp [IntKind.wrap, IntKind.bits, IntKind.signed]; omega
              have hv1 : IntKind.i64.wrap (n1 : Int) = (n1 : Int) := by simp [IntKind.wrap, IntKind.bits, IntKind.signed]; omega
              have hv2 : IntKind.i64.wrap (n2 : Int) = (n2 : Int) := by simp [IntKind.wrap, IntKind.bits, IntKind.signed]; omega
              have hy3 : (y : Int) < 3 := by omega
              have Hco1 := Lib.hid co1
              have Hcn1 := Lib.hid cn1
              have Hco2 := Lib.hid co2
              have Hcn2 := Lib.hid cn2
              have HcT := Lib.hid hcT
              have co := ((Hz.out _ hbw).1.cell (50 + i * 3 + x)).trans co1
              have hold := ints_at (rwP A p x) x (by show x < 3; exact hx3)
              generalize (rwP A p x).getD x 0 = oldv at hold
              have hold2 := c8_at (oL A x p) x (by show x < 3; exact hx3)
              generalize (oL A x p).getD x 0 = oldo at hold2
              have Hrs := Lib.hid (rwP_set A p x hx3)
              have Hos := Lib.hid (oL_set A p x hx3)
              clear ha1 ha2 co1 cn1 co2 cn2 hm
              generalize hmv : ((n1 * T : Nat) : Int) = mv at *
              clear hmv
              go_wp2
              clear co cL
              have hXd := hX.drew; have hYd := hY.drew; have hNd := hN.drew; have hbd := below_drew' hbw
              have hJd := hJ.below (w1 := wr.drew) (Below.refl _ _).drew
              have hOd := hO.below (w1 := wr.drew) (Below.refl _ _).drew
              clear hX hY hN hbw hJ hO
              refine wp_region_held_drew (S := fun W => Below w0.heap.size w0 W) (by kernel_rfl) hbd (fun hS0 => ?_)
              generalize World.drew _ = wd at *
              have cX := (hXd.cell x).trans hold
              have fX := hXd.free x
              have hX5 := hXd.set x (.int .i64 (A.n p x : Int))
              rw [← ints_set, Hrs.out] at hX5
              have hY5 := hYd.setOther g5 x (.int .i64 (A.n p x : Int)) (by omega)
              have hN5 := hNd.setOther g5 x (.int .i64 (A.n p x : Int)) (by omega)
              have hJ5 := hJd.same (w1 := wd.setCell ⟨g5, x, none⟩ (.int .i64 (A.n p x : Int))) (fun b hb => Below.heap_setCell _ _ _ b (by have := HF0.out.1 b hb; show b ≠ g5; omega))
              have hO5 := hOd.same (w1 := wd.setCell ⟨g5, x, none⟩ (.int .i64 (A.n p x : Int))) (fun b hb => Below.heap_setCell _ _ _ b (by have := HF0.out.2 b hb; show b ≠ g5; omega))
              have hb5 := below_set' (o := x) hbd (b := g5) (by omega) (.int .i64 (A.n p x : Int))
              (refine hK_take 0 (.int .i64 (x : Int)) rfl (by kernel_rfl) (by kernel_rfl) (by kernel_rfl) (fun _ _ _ h => h) rfl (fun W _ => by go_simp) hS0 ?_; (intro K hK; go_simp; refine hK _ ?_; clear hK K))
              (refine hK_take 1 (.int .i64 (i : Int)) rfl (by kernel_rfl) (by kernel_rfl) (by kernel_rfl) (fun _ _ _ h => h) rfl (fun W _ => by go_simp) hS0 ?_; (intro K hK; go_simp; refine hK _ ?_; clear hK K))
              (refine hK_take 2 (.int .i64 (x : Int)) rfl (by kernel_rfl) (by kernel_rfl) (by kernel_rfl) (fun _ _ _ h => h) rfl (fun W _ => by go_simp) hS0 ?_; (intro K hK; go_simp; refine hK _ ?_; clear hK K))
              (refine hK_take 3 (.pointer (some ⟨w.heap.size, 2, none⟩)) rfl (by kernel_rfl) (by kernel_rfl) (by kernel_rfl) (fun _ _ _ h => h) rfl (fun W _ => by go_simp) hS0 ?_; (intro K hK; go_simp; refine hK _ ?_; clear hK K))
              (refine hK_take 4 (.pointer (some ⟨w.heap.size, 2 + i * 3, none⟩)) rfl (by kernel_rfl) (by kernel_rfl) (by kernel_rfl) (fun _ _ _ h => h) rfl (fun W _ => by go_simp) hS0 ?_; (intro K hK; go_simp; refine hK _ ?_; clear hK K))
              (refine hK_take 5 (.pointer (some ⟨w.heap.size, 2 + i * 3 + x, none⟩)) rfl (by kernel_rfl) (by kernel_rfl) (by kernel_rfl) (fun _ _ _ h => h) rfl (fun W _ => by go_simp) hS0 ?_; (intro K hK; go_simp; refine hK _ ?_; clear hK K))
              (refine hK_take 6 (.int .u8 (n1 : Int)) rfl (by kernel_rfl) (by kernel_rfl) (by kernel_rfl) (fun _ _ _ h => h) rfl (fun W hW => by have cC := ((Hz.out W hW).1.cell (2 + i * 3 + x)).trans Hcn1.out; clear hW; go_simp) hS0 ?_; (intro K hK; go_simp; refine hK _ ?_; clear hK K))
              (refine hK_take 7 (.int .i64 (n1 : Int)) rfl (by kernel_rfl) (by kernel_rfl) (by kernel_rfl) (fun _ _ _ h => h) rfl (fun W _ => by go_simp) hS0 ?_; (intro K hK; go_simp; refine hK _ ?_; clear hK K))
              (refine hK_take 8 (.pointer (some ⟨w.heap.size + 1, 1, none⟩)) rfl (by kernel_rfl) (by kernel_rfl) (by kernel_rfl) (fun _ _ _ h => h) rfl (fun W _ => by go_simp) hS0 ?_; (intro K hK; go_simp; refine hK _ ?_; clear hK K))
              (refine hK_take 9 (.int .i64 (T : Int)) rfl (by kernel_rfl) (by kernel_rfl) (by kernel_rfl) (fun _ _ _ h => h) rfl (fun W hW => by have cC := ((Hz.out W hW).2.1.cell 1).trans HcT.out; clear hW; go_simp) hS0 ?_; (intro K hK; go_simp; refine hK _ ?_; clear hK K))
              (refine hK_take 10 (.int .i64 mv) rfl (by kernel_rfl) (by kernel_rfl) (by kernel_rfl) (fun _ _ _ h => h) rfl (fun W _ => by go_simp) hS0 ?_; (intro K hK; go_simp; refine hK _ ?_; clear hK K))
              (refine hK_take 11 (.int .i64 (j : Int)) rfl (by kernel_rfl) (by kernel_rfl) (by kernel_rfl) (fun _ _ _ h => h) rfl (fun W _ => by go_simp) hS0 ?_; (intro K hK; go_simp; refine hK _ ?_; clear hK K))
              (refine hK_take 12 (.int .u8 (y : Int)) rfl (by kernel_rfl) (by kernel_rfl) (by kernel_rfl) (fun _ _ _ h => h) rfl (fun W _ => by go_simp) hS0 ?_; (intro K hK; go_simp; refine hK _ ?_; clear hK K))
              (refine hK_take 13 (.pointer (some ⟨w.heap.size + 1, 2, none⟩)) rfl (by kernel_rfl) (by kernel_rfl) (by kernel_rfl) (fun _ _ _ h => h) rfl (fun W _ => by go_simp) hS0 ?_; (intro K hK; go_simp; refine hK _ ?_; clear hK K))
              (refine hK_take 14 (.pointer (some ⟨w.heap.size + 1, 2 + j * 3, none⟩)) rfl (by kernel_rfl) (by kernel_rfl) (by kernel_rfl) (fun _ _ _ h => h) rfl (fun W _ => by go_simp) hS0 ?_; (intro K hK; go_simp; refine hK _ ?_; clear hK K))
              (refine hK_take 15 (.pointer (some ⟨w.heap.size + 1, 2 + j * 3 + y, none⟩)) rfl (by kernel_rfl) (by kernel_rfl) (by kernel_rfl) (fun _ _ _ h => h) rfl (fun W _ => by go_simp) hS0 ?_; (intro K hK; go_simp; refine hK _ ?_; clear hK K))
              (refine hK_take 16 (.int .u8 (n2 : Int)) rfl (by kernel_rfl) (by kernel_rfl) (by kernel_rfl) (fun _ _ _ h => h) rfl (fun W hW => by have cC := ((Hz.out W hW).2.1.cell (2 + j * 3 + y)).trans Hcn2.out; clear hW; go_simp) hS0 ?_; (intro K hK; go_simp; refine hK _ ?_; clear hK K))
              (refine hK_take 17 (.int .i64 (n2 : Int)) rfl (by kernel_rfl) (by kernel_rfl) (by kernel_rfl) (fun _ _ _ h => h) rfl (fun W _ => by go_simp) hS0 ?_; (intro K hK; go_simp; refine hK _ ?_; clear hK K))
              (refine hK_take 18 (.int .i64 (A.n p x : Int)) rfl (by kernel_rfl) (by kernel_rfl) (by kernel_rfl) (fun _ _ _ h => h) rfl (fun W _ => by go_simp) hS0 ?_; (intro K hK; go_simp; refine hK _ ?_; clear hK K))
              (refine hK_take 19 (.pointer (some ⟨g5, x, none⟩)) rfl (by kernel_rfl) (by kernel_rfl) (by kernel_rfl) (fun _ _ _ h => h) rfl (fun W _ => by go_simp) hS0 ?_; (intro K hK; go_simp; refine hK _ ?_; clear hK K))
              refine wpAnyH_ready (rs := [20]) (by kernel_rfl) (by simp) ?_
              refine AllReadyH.cons rfl (fun K hK => ?_) AllReadyH.nil
              go_simp
              refine hK.out _ _ hb5 (fun hS1 => ?_)
              clear hK K
              refine wpAnyH_done (by kernel_rfl) ?_ _
              clear hS0 cX fX hXd hbd hYd hNd hJd hOd hw1 hw2 hv1 hv2
              generalize wd.setCell ⟨g5, x, none⟩ (.int .i64 (A.n p x : Int)) = w6 at *
              have co := ((Hz.out _ hb5).2.1.cell (50 + j * 3 + y)).trans Hco2.out
              have cY := (hY5.cell x).trans hold2
              have fY := hY5.free x
              have hY6 := hY5.set x (.int .u8 (A.o p x))
              rw [← c8_set, Hos.out] at hY6
              have hX6 := hX5.setOther (g5 + 1) x (.int .u8 (A.o p x)) (by omega)
              have hN6 := hN5.setOther (g5 + 1) x (.int .u8 (A.o p x)) (by omega)
              have hJ6 := hJ5.same (w1 := w6.setCell ⟨g5 + 1, x, none⟩ (.int .u8 (A.o p x))) (fun b hb => Below.heap_setCell _ _ _ b (by have := HF0.out.1 b hb; show b ≠ g5 + 1; omega))
              have hO6 := hO5.same (w1 := w6.setCell ⟨g5 + 1, x, none⟩ (.int .u8 (A.o p x))) (fun b hb => Below.heap_setCell _ _ _ b (by have := HF0.out.2 b hb; show b ≠ g5 + 1; omega))
              have hb6 := below_set' (o := x) hb5 (b := g5 + 1) (by omega) (.int .u8 (A.o p x))
              clear hX5 hY5 hN5 hJ5 hO5 hb5 hS1
              go_wp2
              go_roundw
              case rel => exact ⟨x + 1, by omega, by go_num, hN6, hJ6, hO6, hb6, hX6, hY6⟩
              case measure => simp [intOf] <;> omega
            · obtain rfl : L = x := by omega
              rw [rwP_all] at hX
              obtain ⟨x0, x1, x2, hxs⟩ : ∃ x0 x1 x2, rwN A L p = [x0, x1, x2] := ⟨_, _, _, rfl⟩
              obtain ⟨y0, y1, y2, hys⟩ : ∃ y0 y1 y2, oL A L p = [y0, y1, y2] := ⟨_, _, _, rfl⟩
              have HflN : Hid (flN A L (p + 1) = flN A L p ++ [x0, x1, x2]) := Lib.hid (by rw [flN_succ, hxs])
              have HflO : Hid (flO A L (p + 1) = flO A L p ++ [y0, y1, y2]) := Lib.hid (by rw [flO_succ, hys])
              rw [hxs, show ints [x0, x1, x2] = #[.int .i64 x0, .int .i64 x1, .int .i64 x2] from rfl] at hX
              rw [hys, show c8 [y0, y1, y2] = #[.int .u8 y0, .int .u8 y1, .int .u8 y2] from rfl] at hY
              clear hxs hys
              have hp20 : p ≤ 1048576 := by omega
              have Hp20 := Lib.hid hp20
              have hltX := hX.lt
              have hltY := hY.lt
              have hltN2 := hN.lt
              have hal : Below wr.heap.size wr (wr.alloc (.cells #[.int .i64 x0, .int .i64 x1, .int .i64 x2] 83)) := by (repeat (first | exact Below.refl _ _ | refine below_drew' ?_ | refine below_drewN' ?_ _ | refine below_alloc' ?_ _ | refine below_set' ?_ (by (try simp); (try omega)) _ | refine below_step ?_ (by assumption)))
              have hJa := hJ.below hal
              have hOa := hO.below hal
              have hNa := hN.keptAll hal
              have hYa := hY.keptAll hal
              have hbwa := hbw.trans (below_le hal hbw.size)
              have hXa : Blk (wr.alloc (.cells #[.int .i64 x0, .int .i64 x1, .int .i64 x2] 83)) wr.heap.size #[.int .i64 x0, .int .i64 x1, .int .i64 x2] 83 := Blk.new _ _ _
              have Hsza : Hid (w0.heap.size + 1 ≤ (wr.alloc (.cells #[.int .i64 x0, .int .i64 x1, .int .i64 x2] 83)).heap.size) := Lib.hid (by simp; omega)
              have Hcu : Hid (cut #[.int .i64 x0, .int .i64 x1, .int .i64 x2] 0 3 = #[.int .i64 x0, .int .i64 x1, .int .i64 x2]) := Lib.hid (cut_all _ _ rfl)
              have Hcy : Hid (cut #[.int .u8 y0, .int .u8 y1, .int .u8 y2] 0 3 = #[.int .u8 y0, .int .u8 y1, .int .u8 y2]) := Lib.hid (cut_all _ _ rfl)
              have cN1 : wr.cell? ⟨w0.heap.size, 1, none⟩ = some (.slice oa p ca) := hN.cell 1
              have HFy : Hid ((Value.slice oa p ca).ownBlock ≠ some (g5 + 1)) := Lib.hid (fun e => by have := HF0.out.1 _ e; omega)
              have Hpost : Hid (∀ v7 w7, OwnJ w7 (w0.heap.size + 1) v7 (p + 1) (flN A L p ++ [x0, x1, x2]) → Below (w0.heap.size + 1) (wr.alloc (.cells #[.int .i64 x0, .int .i64 x1, .int .i64 x2] 83)) w7 → (∀ k, k < (wr.alloc (.cells #[.int .i64 x0, .int .i64 x1, .int .i64 x2] 83)).heap.size → some k ≠ (Value.slice oa p ca).ownBlock → w7.heap[k]? = (wr.alloc (.cells #[.int .i64 x0, .int .i64 x1, .int .i64 x2] 83)).heap[k]?) → (v7.ownBlock = (Value.slice oa p ca).ownBlock ∨ v7.ownBlock = some (wr.alloc (.cells #[.int .i64 x0, .int .i64 x1, .int .i64 x2] 83)).heap.size) →
                  ∃ o7 c7, v7 = .slice o7 (p + 1) c7 ∧ Blk w7 w0.heap.size (lgC L (.slice oa p ca) (.slice oo p co)) 82 ∧ Blk ((w7.setCell ⟨w0.heap.size, 1, none⟩ (.slice o7 (p + 1) c7)).alloc (.cells #[.int .u8 y0, .int .u8 y1, .int .u8 y2] 22)) w0.heap.size (lgC L (.slice o7 (p + 1) c7) (.slice oo p co)) 82 ∧ Blk (w7.setCell ⟨w0.heap.size, 1, none⟩ (.slice o7 (p + 1) c7)) w0.heap.size (lgC L (.slice o7 (p + 1) c7) (.slice oo p co)) 82 ∧ Blk (w7.setCell ⟨w0.heap.size, 1, none⟩ (.slice o7 (p + 1) c7)) (g5 + 1) #[.int .u8 y0, .int .u8 y1, .int .u8 y2] 22 ∧ OwnJ ((w7.setCell ⟨w0.heap.size, 1, none⟩ (.slice o7 (p + 1) c7)).alloc (.cells #[.int .u8 y0, .int .u8 y1, .int .u8 y2] 22)) (w0.heap.size + 1) (.slice o7 (p + 1) c7) (p + 1) (flN A L p ++ [x0, x1, x2]) ∧ OwnF 22 3 ((w7.setCell ⟨w0.heap.size, 1, none⟩ (.slice o7 (p + 1) c7)).alloc (.cells #[.int .u8 y0, .int .u8 y1, .int .u8 y2] 22)) (w0.heap.size + 1) (.slice oo p co) p (flO A L p) ∧ Below w0.heap.size w0 ((w7.setCell ⟨w0.heap.size, 1, none⟩ (.slice o7 (p + 1) c7)).alloc (.cells #[.int .u8 y0, .int .u8 y1, .int .u8 y2] 22)) ∧ w0.heap.size + 1 ≤ ((w7.setCell ⟨w0.heap.size, 1, none⟩ (.slice o7 (p + 1) c7)).alloc (.cells #[.int .u8 y0, .int .u8 y1, .int .u8 y2] 22)).heap.size ∧ Blk ((w7.setCell ⟨w0.heap.size, 1, none⟩ (.slice o7 (p + 1) c7)).alloc (.cells #[.int .u8 y0, .int .u8 y1, .int .u8 y2] 22)) w7.heap.size #[.int .u8 y0, .int .u8 y1, .int .u8 y2] 22 ∧ Hid (∀ b, (Value.slice o7 (p + 1) c7).ownBlock = some b → (Value.slice oo p co).ownBlock ≠ some b)) := Lib.hid (fun v7 w7 hJ7 hb7 hs7 hat7 => by
                obtain ⟨o7, c7, rfl, _⟩ := hJ7.view
                have hN7 : Blk w7 w0.heap.size (lgC L (.slice oa p ca) (.slice oo p co)) 82 := (hb7.block _ (by omega)).trans hNa
                have hY7 : Blk w7 (g5 + 1) #[.int .u8 y0, .int .u8 y1, .int .u8 y2] 22 := (hs7 _ hYa.lt (fun e => HFy.out e.symm)).trans hYa
                have hO7 := hOa.same (w1 := w7) (fun b hb => hs7 b (hOa.ltt b hb).2 (fun e => Hno.out b e.symm hb))
                have hbw7 := hbwa.trans (below_le hb7 (by omega))
                have hN8 := hN7.set 1 (.slice o7 (p + 1) c7)
                rw [lgC_set1] at hN8
                have hY8 := hY7.setOther w0.heap.size 1 (.slice o7 (p + 1) c7) (by omega)
                have hJ8 := hJ7.same (w1 := (w7.setCell ⟨w0.heap.size, 1, none⟩ (.slice o7 (p + 1) c7))) (fun b hb => Below.heap_setCell _ _ _ b (by have := (hJ7.ltt b hb).1; show b ≠ w0.heap.size; omega))
                have hO8 := hO7.same (w1 := (w7.setCell ⟨w0.heap.size, 1, none⟩ (.slice o7 (p + 1) c7))) (fun b hb => Below.heap_setCell _ _ _ b (by have := (hO7.ltt b hb).1; show b ≠ w0.heap.size; omega))
                have hbw8 := below_set' (o := 1) hbw7 (b := w0.heap.size) (Nat.le_refl _) (.slice o7 (p + 1) c7)
                have hal8 : Below (w7.setCell ⟨w0.heap.size, 1, none⟩ (.slice o7 (p + 1) c7)).heap.size (w7.setCell ⟨w0.heap.size, 1, none⟩ (.slice o7 (p + 1) c7)) ((w7.setCell ⟨w0.heap.size, 1, none⟩ (.slice o7 (p + 1) c7)).alloc (.cells #[.int .u8 y0, .int .u8 y1, .int .u8 y2] 22)) := (Below.refl _ _).alloc (Nat.le_refl _) _
                have hY9 : Blk ((w7.setCell ⟨w0.heap.size, 1, none⟩ (.slice o7 (p + 1) c7)).alloc (.cells #[.int .u8 y0, .int .u8 y1, .int .u8 y2] 22)) (w7.setCell ⟨w0.heap.size, 1, none⟩ (.slice o7 (p + 1) c7)).heap.size #[.int .u8 y0, .int .u8 y1, .int .u8 y2] 22 := Blk.new _ _ _
                have hsz8 : (w7.setCell ⟨w0.heap.size, 1, none⟩ (.slice o7 (p + 1) c7)).heap.size = w7.heap.size := by simp
                have hge7 := hb7.size
                have hsza := Hsza.out
                rw [hsz8] at hY9
                refine ⟨o7, c7, rfl, hN7, hN8.keptAll hal8, hN8, hY8, hJ8.below hal8, hO8.below hal8, below_alloc' hbw8 _, ?_, hY9, Lib.hid (fun b hb hb2 => ?_)⟩
                · have h9 := hal8.size
                  omega
                · rcases hat7 with e | e
                  · exact Hno.out b (e ▸ hb) hb2
                  · rw [e] at hb
                    cases hb
                    exact absurd (hOa.ltt _ hb2).2 (Nat.lt_irrefl _))
              clear hal hNa hYa hOa hN hJ hO hY hbw hbwa
              go_wp2_with (first | ((with_reducible show wpList _ _ _ _ _ _); refine wpList_load_blk rfl 83 (.tmp 13) rfl g5 0 rfl _ _ hX 3 (Nat.le_refl 3) _ Try.underlying83 rfl size_i3 ?_; rw [Hcu.out]) | (at_builtin; refine wpList_push_i3 rfl (.tmp 77) (.tmp 79) rfl (w0.heap.size + 1) (.slice oa p ca) p (flN A L p) rfl hJa wr.heap.size 1 x0 x1 x2 rfl hXa Hp20.out Hsza.out ?_; intro v7 w7 hJ7 hb7 hs7 hat7; obtain ⟨o7, c7, rfl, hN7, hN9, hN8, hY8, hJ9, hO9, hbw9, hsz9, hY9, Hno9⟩ := Hpost.out v7 w7 hJ7 hb7 hs7 hat7; have cN7 := hN7.cell; have fN7 := hN7.free; have c8N : (w7.setCell ⟨w0.heap.size, 1, none⟩ (.slice o7 (p + 1) c7)).cell? ⟨w0.heap.size, 2, none⟩ = some (.slice oo p co) := hN8.cell 2; clear hJ7 hb7 hs7 hat7) | ((with_reducible show wpList _ _ _ _ _ _); refine wpList_load_blk rfl 22 (.tmp 14) rfl (g5 + 1) 0 rfl _ _ hY8 3 (Nat.le_refl 3) _ Try.underlying22 rfl size_a3 ?_; rw [Hcy.out]) | (at_builtin; refine wpList_push_b3 rfl (.tmp 83) (.tmp 85) rfl (w0.heap.size + 1) (.slice oo p co) p (flO A L p) rfl hO9 w7.heap.size 1 y0 y1 y2 rfl hY9 Hp20.out hsz9 ?_; intro v8 w10 hO10 hb10 hs10 hat10; obtain ⟨o8, c8', rfl, hq8⟩ := hO10.view; clear hq8; have hN10 : Blk w10 w0.heap.size (lgC L (.slice o7 (p + 1) c7) (.slice oo p co)) 82 := (hb10.block _ (Nat.lt_succ_self _)).trans hN9; have cN10 : w10.cell? ⟨w0.heap.size, 2, none⟩ = some (.slice oo p co) := hN10.cell 2; have fN10 := hN10.free))
              have hJ10 := hJ9.same (w1 := w10) (fun b hb => hs10 b (hJ9.ltt b hb).2 (fun e => Hno9.out b hb e.symm))
              have hbw10 := hbw9.trans (below_le hb10 (by omega))
              have hsz10 := Nat.le_trans hsz9 hb10.size
              have Hno10 : Hid (∀ b, (Value.slice o7 (p + 1) c7).ownBlock = some b → (Value.slice o8 (p + 1) c8').ownBlock ≠ some b) := Lib.hid (fun b hb hb2 => by
                rcases hat10 with e | e
                · exact Hno9.out b hb (e ▸ hb2)
                · rw [e] at hb2
                  cases hb2
                  exact absurd (hJ9.ltt _ hb).2 (Nat.lt_irrefl _))
              clear hat10 hs10 hb10 hN9 hN8 hY8 hJ9 hO9 hbw9 hsz9 hY9 hN7 cN7 fN7 c8N cN10 fN10
              have hN11 := hN10.set 2 (.slice o8 (p + 1) c8')
              rw [lgC_set2] at hN11
              have hJ11 := hJ10.same (w1 := w10.setCell ⟨w0.heap.size, 2, none⟩ (.slice o8 (p + 1) c8')) (fun b hb => Below.heap_setCell _ _ _ b (by have := (hJ10.ltt b hb).1; show b ≠ w0.heap.size; omega))
              have hO11 := hO10.same (w1 := w10.setCell ⟨w0.heap.size, 2, none⟩ (.slice o8 (p + 1) c8')) (fun b hb => Below.heap_setCell _ _ _ b (by have := (hO10.ltt b hb).1; show b ≠ w0.heap.size; omega))
              have hb11 := below_set' (o := 2) hbw10 (b := w0.heap.size) (Nat.le_refl _) (.slice o8 (p + 1) c8')
              have hsz11 : w0.heap.size + 1 ≤ (w10.setCell ⟨w0.heap.size, 2, none⟩ (.slice o8 (p + 1) c8')).heap.size := Nat.le_trans hsz10 (Nat.le_of_eq (by simp))
              rw [← HflN.out] at hJ11
              rw [← HflO.out] at hO11
              have hp1 : p + 1 = i * T + (j + 1) := by have := Hp.out; omega
              go_roundw
              case rel => exact ⟨j + 1, _, _, by omega, by go_num, hN11, by rw [← hp1]; exact hJ11, by rw [← hp1]; exact hO11, Hno10, hb11, hsz11⟩
              case measure => simp [intOf] <;> omega
        · obtain rfl : T = j := by omega
          rw [show i * T + T = (i + 1) * T from by rw [Nat.succ_mul]] at hJ hO
          go_wp2
          go_roundw
          case rel => exact ⟨i + 1, _, _, by omega, by go_num, hN, hJ, hO, Hno, hbw, hsz⟩
          case measure => simp [intOf] <;> omega
    · obtain rfl : S = i := by omega
      obtain ⟨oa, ca, rfl, hv1⟩ := hJ.view
      obtain ⟨oo, co, rfl, hv2⟩ := hO.view
      clear hv1 hv2
      have hsee := large_seen hJ hO (Nat.mul_pos (show 0 < S by omega) (show 0 < T by omega))
      have Hsee := Lib.hid (HSt.out wr _ hsee)
      have cT := ((Hz.out _ hbw).2.1.cell 1).trans hcT
      have hw1 : IntKind.i64.wrap ((q : Int) * (T : Int)) = (q : Int) * (T : Int) := by
        have h : q * T ≤ 256 := Nat.le_trans (Nat.mul_le_mul (show q ≤ 16 by omega) hT16) (by omega)
        have h2 : (q : Int) * (T : Int) = ((q * T : Nat) : Int) := by push_cast; rfl
        rw [h2]; generalize q * T = y at *; simp [IntKind.wrap, IntKind.bits, IntKind.signed]; omega
      have hw2 : IntKind.i64.wrap ((q : Int) * (T : Int) + (r : Int)) = ((q * T + r : Nat) : Int) := by
        have h : q * T ≤ 256 := Nat.le_trans (Nat.mul_le_mul (show q ≤ 16 by omega) hT16) (by omega)
        have h2 : (q : Int) * (T : Int) + (r : Int) = ((q * T + r : Nat) : Int) := by push_cast; rfl
        rw [h2]; generalize q * T = y at *; simp [IntKind.wrap, IntKind.bits, IntKind.signed]; omega
      have Hcu : Hid (cut (lgC L (.slice oa (S * T) ca) (.slice oo (S * T) co)) 0 3 = lgC L (.slice oa (S * T) ca) (.slice oo (S * T) co)) := Lib.hid (cut_all _ _ rfl)
      have F1 : Hid (cut (mc R) 0 98 = mc R) := Lib.hid (cut_all _ _ HRs.out)
      have F2 : Hid (over (mc zeroM) 0 (mc R) = mc R) := Lib.hid (over_all _ _ (by rw [HRs.out, HzS.out]))
      have hR := (Hz.out _ hbw).2.2
      have hbz := Hb0.out.trans (below_le hbw (by have := Hs0.out; omega))
      clear hJ hO hsee
      obtain ⟨p0, hp0⟩ : ∃ p0, q * T + r = p0 := ⟨_, rfl⟩
      rw [hp0] at hw2 Hsee
      clear hp0
      go_wp2_with (first | ((with_reducible show wpList _ _ _ _ _ _); refine wpList_load_blk rfl 82 (.tmp 10) rfl w0.heap.size 0 rfl _ _ hN 3 (Nat.le_refl 3) _ Try.underlying82 rfl size_lg ?_; rw [Hcu.out]) | (go_at_call 72; refine Hsee.out.mono ?_; rintro e w2 ⟨rfl, hc2⟩; have hR2 := hR.keptAll hc2; have hb2 := below_step hbz hc2; have hlt2 := hR2.lt; have hR3 := hR2.alloc (.cells (mc zeroM) 28); have hX3 : Blk (w2.alloc (.cells (mc zeroM) 28)) w2.heap.size (mc zeroM) 28 := Blk.new _ _ _; have hb3 := below_alloc' hb2 (.cells (mc zeroM) 28); have hge2 := hb2.size) | ((with_reducible show wpList _ _ _ _ _ _); refine wpList_store_blk rfl 28 (.tmp 17) (.tmp 97) rfl w2.heap.size 0 (mc R) rfl rfl (mc zeroM) 28 hX3 (by rw [HRs.out, HzS.out]; omega) (by rw [HRs.out]; exact size_mach) (mc_one _) ?_; intro w4 hX4 hkeep _ hbl; rw [F2.out] at hX4; have hR4 := hkeep (w.heap.size + 1 + 1) _ _ (by omega) hR3; have hb4 := hbl w.heap.size w hge2 hb3; clear hkeep hbl) | ((with_reducible show wpList _ _ _ _ _ _); refine wpList_load_blk rfl 28 (.tmp 17) rfl w2.heap.size 0 rfl _ _ hX4 98 (by rw [HRs.out]; omega) _ Try.underlying28 rfl size_mach ?_; rw [F1.out]) | ((with_reducible show wpList _ _ _ _ _ _); refine wpList_store_blk rfl 28 (.tmp 8) (.tmp 99) rfl (w.heap.size + 1 + 1) 0 (mc R) rfl rfl (mc zeroM) 28 hR4 (by rw [HRs.out, HzS.out]; omega) (by rw [HRs.out]; exact size_mach) (mc_one _) ?_; intro w5 hb5 hkeep _ hbl; rw [F2.out] at hb5; have hbw5 := hbl w.heap.size w (by omega) hb4; clear hkeep hbl))
      exact bodyPost_cell1 rfl rfl hb5 Try.underlying28 rfl (by rw [HRs.out]; exact size_mach) rfl ⟨rfl, hbw5⟩
end Go.Proofs.Ytkkooafjpancoaa
