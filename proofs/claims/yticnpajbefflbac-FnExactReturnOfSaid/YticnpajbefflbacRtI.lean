/- 'cycleOf', 'newOrderSearch', 'returnBy': the program. -/
import Derived.Test.YticnpajbefflbacRtD
import Derived.Test.YticnpajbefflbacWrI
import Derived.Test.YticnpajbefflbacNorW
import Derived.Test.YticnpajbefflbacBuildK
import Derived.Test.YticnpajbefflbacStoreK
import Derived.Test.YticnpajbefflbacBhd
import Derived.Laws.Tables
namespace Go.Proofs.Yticnpajbefflbac
open Go.RowKit

/-- Letters of the call's own, as numbers. -/
def OwnN (w : World) (base : Nat) (v : Value) (ks : List Nat) : Prop := w.ownsRow base 5 1 v ks.length (ks.map fun (k : Nat) => Value.int .u8 (k : Int))
theorem OwnN.below {w w1 : World} {base : Nat} {v : Value} {ks : List Nat} (h : OwnN w base v ks) (hb : Below w.heap.size w w1) : OwnN w1 base v ks := owns_below h hb
theorem OwnN.lt {w : World} {base : Nat} {v : Value} {ks : List Nat} (h : OwnN w base v ks) : ∀ k, v.ownBlock = some k → base ≤ k ∧ k < w.heap.size := World.ownsRow.lt h
theorem OwnN.base_le {w : World} {base b : Nat} {v : Value} {ks : List Nat} (h : OwnN w base v ks) (hb : b ≤ base) : OwnN w b v ks := by
  refine ⟨h.1, ?_⟩
  rcases h.2 with h2 | ⟨g, cap, cur, hv, hg, r⟩
  · exact Or.inl h2
  · exact Or.inr ⟨g, cap, cur, hv, Nat.le_trans hb hg, r⟩
theorem OwnN.first {w : World} {base g x : Nat} (hg : base ≤ g) (hB : Blk w g #[.int .u8 (x : Int)] 5) : OwnN w base (.slice (some ⟨g, 0, none⟩) 1 1) [x] :=
  ⟨by simp, .inr ⟨g, 1, _, rfl, hg, hB, by simp, by unfold maxLen; omega, by simp, by simp⟩⟩
theorem OwnN.view {w : World} {base : Nat} {v : Value} {ks : List Nat} (h : OwnN w base v ks) (h0 : 0 < ks.length) : ∃ g cap cur, v = .slice (some ⟨g, 0, none⟩) ks.length cap ∧ base ≤ g ∧ Blk w g cur 5 ∧ ∀ i (hi : i < ks.length), cur[i]? = some (.int .u8 (ks[i] : Int)) := by
  rcases h.2 with ⟨rfl, e⟩ | ⟨g, cap, cur, rfl, hg, hB, hc, hm, hs, ht⟩
  · omega
  · refine ⟨g, cap, cur, rfl, hg, hB, fun i hi => ?_⟩
    have := congrArg (fun l => l[i]?) ht
    simp only [List.getElem?_take] at this
    rw [if_pos (by omega)] at this
    simpa [List.getElem?_eq_getElem hi] using this
def lenOfV : Value → Nat
  | .slice _ n _ => n
  | _ => 0
section
variable {ops : Array Oper} {rest : List Oper} {o : Oper} {a : Act} {w : World} {Q : Exit → Act → World → Prop}
theorem wpList_push_letter (ty : TypeId) (hty : Try.prog.underlying ty = some (.slice 5)) (hgd : o.guard = none) (s x : Operand) (ho : o.op = .call { callee := .builtin .append, args := #[s, x], argTypes := #[ty, ty] })
    (base : Nat) (v : Value) (ks : List Nat) (hs : a.eval s = v) (hown : OwnN w base v ks) (g c y : Nat) (hx : a.eval x = .slice (some ⟨g, 0, none⟩) 1 c) (hB : Blk w g #[.int .u8 (y : Int)] 5)
    (hn : ks.length + 1 ≤ 1048576) (hbase : base ≤ w.heap.size)
    (h : ∀ v' w', OwnN w' base v' (ks ++ [y]) → Below base w w' → (∀ k, k < w.heap.size → some k ≠ v.ownBlock → w'.heap[k]? = w.heap[k]?) → wpList Try.prog ops Q rest (a.put o.dst v') w') : wpList Try.prog ops Q (o :: rest) a w := by
  obtain ⟨i0, hi, hz0, hz1, hz2⟩ := info_parts info5
  refine wpList_append_own _ hgd s x ty ho base 5 i0 (.int .u8 0) 1 1 hty hi hz0 hz1 hz2 rfl (by decide) v ks.length _ hs hown ⟨g, 0, none⟩ 1 c [.int .u8 (y : Int)] hx rfl
    (fun j u hu => ?_) (fun u hu => ?_) (by unfold maxLen; omega) (by omega) hbase (fun v' w' hown' hg _ => h v' w' ?_ (below_grown hown hg hbase) hg.block)
  · match j, hu with
    | 0, hu => simp at hu; subst hu; simpa [Addr.add] using hB.cell 0
  · simp at hu; subst hu; rfl
  · unfold OwnN; simpa using hown'
end

set_option maxRecDepth 100000 in
set_option maxHeartbeats 2000000 in
theorem cycleOf_calls (M : Mach) (L S : Nat) (hg : Good M L S) (zs : List Int) (hz : numsOk S zs = true) (x : Nat) (hx : x < L) (w : World) :
    Calls Try.prog 35 #[.agg (c8 (imP M zs 3 L)), .int .u8 (x : Int)] w fun e w' => ∃ v, e = .returned v ∧ OwnN w' w.heap.size v (cyL (imN M zs) x (cyN (imN M zs) x)) ∧ Below w.heap.size w w' := by
  have hL3 := hg.L3
  have HSt := Lib.hid (cyN_step hL3 (imN_lt hg hz) (imN_inj hg hz) hx)
  have HLt := Lib.hid (itN_lt (imN_lt hg hz) hx)
  obtain ⟨n1, n3⟩ := cyN_bd (imN M zs) x
  have HC : Hid (∀ y, y < L → (c8 (imP M zs 3 L))[y]? = some (.int .u8 (imN M zs y : Int))) := Lib.hid fun y hy => by
    rw [c8_at _ _ (by rw [imP_len]; omega), imP_at M zs 3 L y hy (by omega)]; rfl
  have hB : Blk (w.alloc (.cells (c8 (imP M zs 3 L)) 22)) w.heap.size (c8 (imP M zs 3 L)) 22 := Blk.new _ _ _
  have hB1 : Blk ((w.alloc (.cells (c8 (imP M zs 3 L)) 22)).alloc (.cells #[.int .u8 (x : Int)] 5)) w.heap.size (c8 (imP M zs 3 L)) 22 := hB.alloc _
  have hX1 : Blk ((w.alloc (.cells (c8 (imP M zs 3 L)) 22)).alloc (.cells #[.int .u8 (x : Int)] 5)) (w.heap.size + 1) #[.int .u8 (x : Int)] 5 := Blk.new_at _ _ _ _ (by simp)
  have hO1 := OwnN.first (base := w.heap.size + 1) (by omega) hX1
  have hbw1 : Below w.heap.size w ((w.alloc (.cells (c8 (imP M zs 3 L)) 22)).alloc (.cells #[.int .u8 (x : Int)] 5)) := by (repeat (first | exact Below.refl _ _ | refine below_drew' ?_ | refine below_drewN' ?_ _ | refine below_alloc' ?_ _ | refine below_set' ?_ (by (try simp); (try omega)) _ | refine below_step ?_ (by assumption)))
  have hx3 : (x : Int) < 3 := by omega
  have c1 := hB1.cell x
  rw [HC.out x hx] at c1
  have Hx := Lib.hid hx
  have E0 : Hid (imN M zs x = itN (imN M zs) x 1) := Lib.hid rfl
  have E1 : Hid (cyL (imN M zs) x 1 = [x]) := Lib.hid rfl
  generalize cyN (imN M zs) x = N at *
  clear hz hg hx hX1
  go_enter Try.func35, Try.ntmps35
  go_wp2
  rw [E0.out]
  rw [← E1.out] at hO1
  go_loopw [5, 6] (fun lv yv wr => ∃ (k : Nat) (v0 : Value), 1 ≤ k ∧ k ≤ N ∧ v0 = lv ∧ yv = .int .u8 (itN (imN M zs) x k : Int) ∧ OwnN wr (w.heap.size + 1) v0 (cyL (imN M zs) x k) ∧ Blk wr w.heap.size (c8 (imP M zs 3 L)) 22 ∧ Below w.heap.size w wr) (fun lv _ _ => 5 - lenOfV lv)
  case atStart => exact ⟨1, _, Nat.le_refl _, n1, rfl, rfl, hO1, hB1, hbw1⟩
  case round =>
    clear hO1 hB1 hbw1 c1 hB
    obtain ⟨k, v0, hk1, hk, rfl, rfl, hO, hB, hbw⟩ := hrel
    have hy := HLt.out k
    have Hst := Lib.hid (HSt.out k hk1 hk)
    have hcl := cyL_len (imN M zs) x k
    have Hnx : Hid (imN M zs (itN (imN M zs) x k) = itN (imN M zs) x (k + 1)) := Lib.hid rfl
    have Hsc := Lib.hid (cyL_succ (imN M zs) x k)
    have c1 := hB.cell (itN (imN M zs) x k)
    rw [HC.out _ hy, Hnx.out] at c1
    obtain ⟨y2, hy2⟩ : ∃ y2, itN (imN M zs) x (k + 1) = y2 := ⟨_, rfl⟩
    rw [hy2] at c1 Hnx
    have Hy2 := Lib.hid hy2; clear hy2
    obtain ⟨y, hye⟩ : ∃ y, itN (imN M zs) x k = y := ⟨_, rfl⟩
    rw [hye] at hy c1 Hnx Hst Hsc
    rw [hye]
    clear hye
    have hy3 : (y : Int) < 3 := by omega
    have hltB := hB.lt
    by_cases hN : k = N
    · have hyx : y = x := Hst.out.mpr hN
      subst hN
      subst hyx
      go_wp2
      go_ret
      exact ⟨_, rfl, hO.base_le (by omega), hbw⟩
    · have hyx : ¬ y = x := fun e => hN (Hst.out.mp e)
      have hbne : ((y : Int) != (x : Int)) = true := by simp; omega
      clear hyx
      obtain ⟨g, cap, cur, hv0, hg0, hBg, hcu⟩ := hO.view (by omega)
      rw [hcl] at hv0
      subst hv0
      have hkx : k + 1 ≤ N := by omega
      go_wp2_with (at_builtin; refine wpList_push_letter 68 Try.underlying68 rfl (.tmp 18) (.tmp 20) rfl (w.heap.size + 1) _ (cyL (imN M zs) x k) rfl (hO.below (below_alloc' (Below.refl _ _) _)) wr.heap.size 1 y rfl (Blk.new wr _ _) (by rw [hcl]; omega) (by simp; omega) ?_; intro v1 w7 hO7 hb7 hs7; have hB7 : Blk w7 w.heap.size (c8 (imP M zs 3 L)) 22 := (hs7 w.heap.size (by simp; omega) (fun e => by have := (hO.lt _ e.symm).1; omega)).trans (hB.alloc (.cells #[.int .u8 (y : Int)] 5)); have c7 := hB7.cell y; rw [HC.out _ hy, Hnx.out] at c7)
      obtain ⟨g1, cap1, cur1, hv1, _⟩ := hO7.view (by simp)
      rw [List.length_append, hcl, List.length_singleton] at hv1
      subst hv1
      rw [← Hsc.out] at hO7
      go_roundw
      case rel => exact ⟨k + 1, _, by omega, hkx, rfl, by rw [Hy2.out], hO7, hB7, (below_alloc' hbw _).trans (below_le hb7 (by omega))⟩
      case measure => simp [lenOfV] <;> omega

/-- A search's cells: the machine, the normal numbers. -/
def osC (M : Mach) (L S : Nat) : Array Value := mc M ++ ints (nrmP M L S S)
theorem osC_size {M : Mach} (hok : M.Ok) (L S : Nat) : (osC M L S).size = 114 := by
  unfold osC
  rw [Array.size_append, mc_size hok, ints_size, nrmP_len]
theorem osC_mach {M : Mach} (hok : M.Ok) (L S o : Nat) (ho : o < 98) : (osC M L S)[o]? = (mc M)[o]? := by
  unfold osC
  rw [Array.getElem?_append_left (by rw [mc_size hok]; exact ho)]
theorem osC_norm {M : Mach} (hok : M.Ok) (L S q : Nat) (hq : q < 16) : (osC M L S)[98 + q]? = some (.int .i64 ((nrmP M L S S).getD q 0)) := by
  unfold osC
  rw [Array.getElem?_append_right (by rw [mc_size hok]; omega), mc_size hok, Nat.add_sub_cancel_left]
  exact ints_at _ q (by rw [nrmP_len]; omega)
theorem os_fields : ∃ fields, Try.prog.underlying 107 = some (.struct fields) ∧ fields.toList.mapM (fun f => (Try.prog.info? f.type).map fun i => (f.offset, i.size)) = some [(0, 98), (98, 16)] := ⟨_, Try.underlying107, by kernel_rfl⟩
theorem os_zero : (Try.prog.info? 107).map (fun i => i.zero.map fun z => z.cells.size) = some (some 114) := by kernel_rfl
set_option maxRecDepth 100000 in
theorem built_os (M : Mach) (hok : M.Ok) (L S : Nat) : Try.prog.built 107 [(0, .agg (mc M)), (1, .agg (ints (nrmP M L S S)))] = some (osC M L S) := by
  obtain ⟨fields, hu, hf⟩ := os_fields
  have hz := os_zero
  unfold Program.built
  cases hi : Try.prog.info? 107 with
  | none => rw [hi] at hz; cases hz
  | some it =>
    rw [hi] at hz
    simp only [Option.map_some, Option.some.injEq] at hz
    cases hit : it.zero with
    | none => rw [hit] at hz; cases hz
    | some z =>
      rw [hit] at hz
      simp only [Option.map_some, Option.some.injEq] at hz
      have hm := mc_size hok
      have hn : (ints (nrmP M L S S)).size = 16 := by rw [ints_size, nrmP_len]
      simp only [hu, hf, hit]
      have s1 : (over z.cells 0 (mc M)).size = 114 := by rw [size_over _ _ _ (by omega), hz]
      rw [fill_part _ _ 0 0 98 (.agg (mc M)) _ (by rfl) hm (by omega), show (Value.agg (mc M)).cells = mc M from rfl,
        fill_part _ _ 1 98 16 (.agg (ints (nrmP M L S S))) _ (by rfl) hn (by omega), show (Value.agg (ints (nrmP M L S S))).cells = ints (nrmP M L S S) from rfl, Instr.fill]
      refine congrArg some ?_
      apply Array.ext_getElem?
      intro i
      rw [over_get _ _ _ (by omega), over_get _ _ _ (by omega)]
      by_cases h1 : i < 98
      · rw [if_pos h1, if_neg (by omega), if_pos (by omega), Nat.sub_zero, osC_mach hok L S i h1]
      · by_cases h2 : i < 114
        · rw [if_neg h1, if_pos (by omega)]
          unfold osC
          rw [Array.getElem?_append_right (by omega), hm]
        · have hs := osC_size hok L S
          rw [if_neg h1, if_neg (by omega), if_neg (by omega), if_neg (by omega), Array.getElem?_eq_none (by omega), Array.getElem?_eq_none (by omega)]

theorem exec_build2 {P : Program} {a : Act} {o : Oper} (t : TypeId) (i0 i1 : Nat) (x0 x1 : Operand) (ho : o.op = .build t #[(i0, x0), (i1, x1)]) (v0 v1 : Value) (h0 : a.eval x0 = v0) (h1 : a.eval x1 = v1) (cells : Array Value) (hc : P.built t [(i0, v0), (i1, v1)] = some cells) (W : World) :
    (execOp a.eval o).run P W = .ok (.value (.agg cells)) W := by
  subst h0 h1
  have := run_build (P := P) W t #[(i0, a.eval x0), (i1, a.eval x1)] cells hc
  unfold execOp
  simp [ho, this]

set_option maxRecDepth 100000 in
set_option maxHeartbeats 2000000 in
theorem newOrderSearch_calls (M : Mach) (L S : Nat) (hg : Good M L S) (w : World) :
    Calls Try.prog 38 #[.agg (mc M)] w fun e w' => ∃ g, e = .returned (.pointer (some ⟨g, 0, none⟩)) ∧ w.heap.size ≤ g ∧ Blk w' g (osC M L S) 107 ∧ Below w.heap.size w w' := by
  have hok := hg.ok
  have F1 : Hid (cut (mc M) 0 98 = mc M) := Lib.hid (cut_all _ _ (mc_size hok)); have F2 : Hid (0 + 98 ≤ (mc M).size) := Lib.hid (by rw [mc_size hok]; omega)
  have hB : Blk (w.alloc (.cells (mc M) 29)) w.heap.size (mc M) 29 := Blk.new w _ _
  have hbw0 : Below w.heap.size w (w.alloc (.cells (mc M) 29)) := by (repeat (first | exact Below.refl _ _ | refine below_drew' ?_ | refine below_drewN' ?_ _ | refine below_alloc' ?_ _ | refine below_set' ?_ (by (try simp); (try omega)) _ | refine below_step ?_ (by assumption)))
  have HB := built_os M hok L S
  go_enter Try.func38, Try.ntmps38
  go_wp2
  have hdr : Below (w.alloc (.cells (mc M) 29)).heap.size (w.alloc (.cells (mc M) 29)) (w.alloc (.cells (mc M) 29)).drew := (Below.refl _ _).drew
  have hbd := below_step hbw0 hdr
  refine wp_region_held_drew (S := fun W => Blk W w.heap.size (mc M) 29) (by kernel_rfl) hB.drew (fun hS0 => ?_)
  (refine hK_load 0 rfl (by kernel_rfl) (by kernel_rfl) (by kernel_rfl) 29 _ rfl (w.heap.size) 0 rfl (mc M) _ (fun W hW => hW) 98 (F2.out) _ Try.underlying29 rfl size_mach _ (F1.out) (fun _ _ _ h => h) rfl hS0 ?_; (intro K hK; go_simp; refine hK _ ?_; clear hK K))
  (refine hK_load 1 rfl (by kernel_rfl) (by kernel_rfl) (by kernel_rfl) 29 _ rfl (w.heap.size) 0 rfl (mc M) _ (fun W hW => hW) 98 (F2.out) _ Try.underlying29 rfl size_mach _ (F1.out) (fun _ _ _ h => h) rfl hS0 ?_; (intro K hK; go_simp; refine hK _ ?_; clear hK K))
  (refine wpAnyH_ready (rs := [2]) (by kernel_rfl) (by simp) ?_; refine AllReadyH.cons rfl (fun K hK => ?_) AllReadyH.nil); go_simp; refine (normalNumbers_calls M L S hg _).mono ?_; rintro e w3 ⟨rfl, hb3⟩; have hB3 : Blk w3 _ _ _ := Blk.keptAll hS0 hb3; have hbw3 := below_step hbd hb3
  (go_simp; refine hK.out _ _ (hB3) (fun hS1 => ?_); clear hK K)
  refine hK_take 3 (.agg (osC M L S)) rfl (by kernel_rfl) (by kernel_rfl) (by kernel_rfl) (fun _ _ _ h => h) rfl (fun W _ => exec_build2 107 0 1 (.tmp 3) (.tmp 5) rfl _ _ rfl rfl _ HB W) hS1 ?_; (intro K hK; go_simp; refine hK _ ?_; clear hK K)
  have hG : Blk (w3.alloc (.cells (osC M L S) 107)) w3.heap.size (osC M L S) 107 := Blk.new _ _ _
  have hb4 : Below w3.heap.size w3 (w3.alloc (.cells (osC M L S) 107)) := by (repeat (first | exact Below.refl _ _ | refine below_drew' ?_ | refine below_drewN' ?_ _ | refine below_alloc' ?_ _ | refine below_set' ?_ (by (try simp); (try omega)) _ | refine below_step ?_ (by assumption)))
  have hB4 := hB3.keptAll hb4
  have hbw4 := below_step hbw3 hb4
  have hge := hbw3.size
  (refine wpAnyH_ready (rs := [4]) (by kernel_rfl) (by simp) ?_; refine AllReadyH.cons rfl (fun K hK => ?_) AllReadyH.nil); go_simp; skip
  (go_simp; refine hK.out _ _ (hB4) (fun hS2 => ?_); clear hK K)
  (refine hK_take 5 (.pointer (some ⟨w3.heap.size, 0, none⟩)) rfl (by kernel_rfl) (by kernel_rfl) (by kernel_rfl) (fun _ _ _ h => h) rfl (fun W _ => by go_simp) hS2 ?_; (intro K hK; go_simp; refine hK _ ?_; clear hK K))
  refine wpAnyH_done (by kernel_rfl) ?_ _
  go_wp2
  go_ret
  exact ⟨_, rfl, hge, hG, hbw4⟩
end Go.Proofs.Yticnpajbefflbac
