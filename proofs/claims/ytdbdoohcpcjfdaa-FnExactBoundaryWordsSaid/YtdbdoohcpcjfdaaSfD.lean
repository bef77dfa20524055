/- 'sectionsOf', 'isActive', 'returns', 'isBoundary': the program. -/
import Derived.Test.YtdbdoohcpcjfdaaNorW
import Derived.Test.YtdbdoohcpcjfdaaBuildK
import Derived.Test.YtdbdoohcpcjfdaaStoreK
import Derived.Test.YtdbdoohcpcjfdaaOrbM
import Derived.Test.YtdbdoohcpcjfdaaAct
import Derived.BigQuiet
namespace Go.Proofs.Ytdbdoohcpcjfdaa
open Go.RowKit

/-- A finder's cells: the machine, the normal numbers. -/
def sfC (M : Mach) (L S : Nat) : Array Value := mc M ++ ints (nrmP M L S S)
theorem sfC_size {M : Mach} (hok : M.Ok) (L S : Nat) : (sfC M L S).size = 114 := by
  unfold sfC
  rw [Array.size_append, mc_size hok, ints_size, nrmP_len]
theorem sfC_mach {M : Mach} (hok : M.Ok) (L S o : Nat) (ho : o < 98) : (sfC M L S)[o]? = (mc M)[o]? := by
  unfold sfC
  rw [Array.getElem?_append_left (by rw [mc_size hok]; exact ho)]
theorem sfC_norm {M : Mach} (hok : M.Ok) (L S q : Nat) (hq : q < 16) : (sfC M L S)[98 + q]? = some (.int .i64 ((nrmP M L S S).getD q 0)) := by
  unfold sfC
  rw [Array.getElem?_append_right (by rw [mc_size hok]; omega), mc_size hok, Nat.add_sub_cancel_left]
  exact ints_at _ q (by rw [nrmP_len]; omega)
theorem sfC_cut {M : Mach} (hok : M.Ok) (L S : Nat) : cut (sfC M L S) 0 98 = mc M := by
  apply Array.ext_getElem?
  intro i
  have hm := mc_size hok
  have hs := sfC_size hok L S
  unfold cut
  simp only [List.drop_zero, List.getElem?_toArray, List.getElem?_take, Array.getElem?_toList]
  by_cases h : i < 98
  · rw [if_pos h, sfC_mach hok L S i h]
  · rw [if_neg h, Array.getElem?_eq_none (by omega)]
theorem sf_fields : ∃ fields, Try.prog.underlying 77 = some (.struct fields) ∧ fields.toList.mapM (fun f => (Try.prog.info? f.type).map fun i => (f.offset, i.size)) = some [(0, 98), (98, 16)] := ⟨_, Try.underlying77, by kernel_rfl⟩
theorem sf_zero : (Try.prog.info? 77).map (fun i => i.zero.map fun z => z.cells.size) = some (some 114) := by kernel_rfl
set_option maxRecDepth 100000 in
theorem built_sf (M : Mach) (hok : M.Ok) (L S : Nat) : Try.prog.built 77 [(0, .agg (mc M)), (1, .agg (ints (nrmP M L S S)))] = some (sfC M L S) := by
  obtain ⟨fields, hu, hf⟩ := sf_fields
  have hz := sf_zero
  unfold Program.built
  cases hi : Try.prog.info? 77 with
  | none => rw [hi] at hz; cases hz
  | some it =>
    rw [hi] at hz
    simp only [Option.map_some, Option.some.injEq] at hz
    cases hit : it.zero with
    | none => rw [hit] at hz; cases hz
    | some z =>
      rw [hit] at hz
      simp only [Option.map_some, Option.some.injEq] at hz
      have hm := mc_size hok
      have hn : (ints (nrmP M L S S)).size = 16 := by rw [ints_size, nrmP_len]
      simp only [hu, hf, hit]
      have s1 : (over z.cells 0 (mc M)).size = 114 := by rw [size_over _ _ _ (by omega), hz]
      rw [fill_part _ _ 0 0 98 (.agg (mc M)) _ (by rfl) hm (by omega), show (Value.agg (mc M)).cells = mc M from rfl,
        fill_part _ _ 1 98 16 (.agg (ints (nrmP M L S S))) _ (by rfl) hn (by omega), show (Value.agg (ints (nrmP M L S S))).cells = ints (nrmP M L S S) from rfl, Instr.fill]
      refine congrArg some ?_
      apply Array.ext_getElem?
      intro i
      rw [over_get _ _ _ (by omega), over_get _ _ _ (by omega)]
      by_cases h1 : i < 98
      · rw [if_pos h1, if_neg (by omega), if_pos (by omega), Nat.sub_zero, sfC_mach hok L S i h1]
      · by_cases h2 : i < 114
        · rw [if_neg h1, if_pos (by omega)]
          unfold sfC
          rw [Array.getElem?_append_right (by omega), hm]
        · have hs := sfC_size hok L S
          rw [if_neg h1, if_neg (by omega), if_neg (by omega), if_neg (by omega), Array.getElem?_eq_none (by omega), Array.getElem?_eq_none (by omega)]
theorem exec_build2s {P : Program} {a : Act} {o : Oper} (t : TypeId) (i0 i1 : Nat) (x0 x1 : Operand) (ho : o.op = .build t #[(i0, x0), (i1, x1)]) (v0 v1 : Value) (h0 : a.eval x0 = v0) (h1 : a.eval x1 = v1) (cells : Array Value) (hc : P.built t [(i0, v0), (i1, v1)] = some cells) (W : World) :
    (execOp a.eval o).run P W = .ok (.value (.agg cells)) W := by
  subst h0 h1
  have := run_build (P := P) W t #[(i0, a.eval x0), (i1, a.eval x1)] cells hc
  unfold execOp
  simp [ho, this]

set_option maxRecDepth 100000 in
set_option maxHeartbeats 2000000 in
theorem sectionsOf_calls (M : Mach) (L S : Nat) (hg : Good M L S) (w : World) :
    Calls Try.prog 33 #[.agg (mc M)] w fun e w' => ∃ g, e = .returned (.pointer (some ⟨g, 0, none⟩)) ∧ w.heap.size ≤ g ∧ Blk w' g (sfC M L S) 77 ∧ Below w.heap.size w w' := by
  have hok := hg.ok
  have F1 : Hid (cut (mc M) 0 98 = mc M) := Lib.hid (cut_all _ _ (mc_size hok)); have F2 : Hid (0 + 98 ≤ (mc M).size) := Lib.hid (by rw [mc_size hok]; omega)
  have hB : Blk (w.alloc (.cells (mc M) 28)) w.heap.size (mc M) 28 := Blk.new w _ _
  have hbw0 : Below w.heap.size w (w.alloc (.cells (mc M) 28)) := by (repeat (first | exact Below.refl _ _ | refine below_drew' ?_ | refine below_drewN' ?_ _ | refine below_alloc' ?_ _ | refine below_set' ?_ (by (try simp); (try omega)) _ | refine below_step ?_ (by assumption)))
  have HB := built_sf M hok L S
  go_enter Try.func33, Try.ntmps33
  go_wp2
  have hdr : Below (w.alloc (.cells (mc M) 28)).heap.size (w.alloc (.cells (mc M) 28)) (w.alloc (.cells (mc M) 28)).drew := (Below.refl _ _).drew
  have hbd := below_step hbw0 hdr
  refine wp_region_held_drew (S := fun W => Blk W w.heap.size (mc M) 28) (by kernel_rfl) hB.drew (fun hS0 => ?_)
  (refine hK_load 0 rfl (by kernel_rfl) (by kernel_rfl) (by kernel_rfl) 28 _ rfl (w.heap.size) 0 rfl (mc M) _ (fun W hW => hW) 98 (F2.out) _ Try.underlying28 rfl size_mach _ (F1.out) (fun _ _ _ h => h) rfl hS0 ?_; (intro K hK; go_simp; refine hK _ ?_; clear hK K))
  (refine hK_load 1 rfl (by kernel_rfl) (by kernel_rfl) (by kernel_rfl) 28 _ rfl (w.heap.size) 0 rfl (mc M) _ (fun W hW => hW) 98 (F2.out) _ Try.underlying28 rfl size_mach _ (F1.out) (fun _ _ _ h => h) rfl hS0 ?_; (intro K hK; go_simp; refine hK _ ?_; clear hK K))
  (refine wpAnyH_ready (rs := [2]) (by kernel_rfl) (by simp) ?_; refine AllReadyH.cons rfl (fun K hK => ?_) AllReadyH.nil); go_simp; refine (normalNumbers_calls M L S hg _).mono ?_; rintro e w3 ⟨rfl, hb3⟩; have hB3 : Blk w3 _ _ _ := Blk.keptAll hS0 hb3; have hbw3 := below_step hbd hb3
  (go_simp; refine hK.out _ _ (hB3) (fun hS1 => ?_); clear hK K)
  refine hK_take 3 (.agg (sfC M L S)) rfl (by kernel_rfl) (by kernel_rfl) (by kernel_rfl) (fun _ _ _ h => h) rfl (fun W _ => exec_build2s 77 0 1 (.tmp 3) (.tmp 5) rfl _ _ rfl rfl _ HB W) hS1 ?_; (intro K hK; go_simp; refine hK _ ?_; clear hK K)
  have hG : Blk (w3.alloc (.cells (sfC M L S) 77)) w3.heap.size (sfC M L S) 77 := Blk.new _ _ _
  have hb4 : Below w3.heap.size w3 (w3.alloc (.cells (sfC M L S) 77)) := by (repeat (first | exact Below.refl _ _ | refine below_drew' ?_ | refine below_drewN' ?_ _ | refine below_alloc' ?_ _ | refine below_set' ?_ (by (try simp); (try omega)) _ | refine below_step ?_ (by assumption)))
  have hB4 := hB3.keptAll hb4
  have hbw4 := below_step hbw3 hb4
  have hge := hbw3.size
  (refine wpAnyH_ready (rs := [4]) (by kernel_rfl) (by simp) ?_; refine AllReadyH.cons rfl (fun K hK => ?_) AllReadyH.nil); go_simp; skip
  (go_simp; refine hK.out _ _ (hB4) (fun hS2 => ?_); clear hK K)
  (refine hK_take 5 (.pointer (some ⟨w3.heap.size, 0, none⟩)) rfl (by kernel_rfl) (by kernel_rfl) (by kernel_rfl) (fun _ _ _ h => h) rfl (fun W _ => by go_simp) hS2 ?_; (intro K hK; go_simp; refine hK _ ?_; clear hK K))
  refine wpAnyH_done (by kernel_rfl) ?_ _
  go_wp2
  go_ret
  exact ⟨_, rfl, hge, hG, hbw4⟩

theorem nrm_ne (M : Mach) (L S q : Nat) : (nrm M L S q != 0) = !trivB M L S q := by
  unfold nrm
  cases trivB M L S q
  · simp; omega
  · simp
set_option maxRecDepth 100000 in
set_option maxHeartbeats 2000000 in
theorem isActive_calls (M : Mach) (L S : Nat) (hg : Good M L S) (g q : Nat) (hq : q < S) (s : ByteArray) (hs : s.size ≤ 40) (hl : lettersL L s.data.toList = true) (w : World) (hB : Blk w g (sfC M L S) 77) :
    Calls Try.prog 34 #[.pointer (some ⟨g, 0, none⟩), .int .i64 (q : Int), .string s] w fun e w' => e = .returned (.bool (!trivB M L S (runL M q s.data.toList).1)) ∧ Below w.heap.size w w' := by
  have hok := hg.ok
  have hS16 := hg.S16
  have hr := hg.run_st q hq s.data.toList hl
  have HW := Lib.hid (walk_calls M L S hg q hq s hs hl)
  have cc := sfC_norm hok L S (runL M q s.data.toList).1 (by omega)
  rw [nrmP_at M L S S _ hr hS16] at cc
  have hne := nrm_ne M L S (runL M q s.data.toList).1
  have hsz := sfC_size hok L S
  have F2 : Hid (0 + 98 ≤ (sfC M L S).size) := Lib.hid (by omega)
  have F1 : Hid (cut (sfC M L S) 0 98 = mc M) := Lib.hid (sfC_cut hok L S)
  have hlt := hB.lt
  clear hsz
  generalize (runL M q s.data.toList).1 = p at *
  generalize nrm M L S p = z at *
  generalize sfC M L S = cs at *
  have hp16 : (p : Int) < 16 := by omega
  have hz2 : (z != 0) = !trivB M L S p := hne
  clear hne
  generalize (!trivB M L S p) = b at *
  go_enter Try.func34, Try.ntmps34
  go_wp2_with (first | (with_reducible show wpList _ _ _ _ _ _; refine wpList_load_blk rfl 28 (.tmp 12) rfl g 0 rfl cs _ hB 98 F2.out _ Try.underlying28 rfl size_mach ?_; rw [F1.out]) | (go_at_call 59; refine (HW.out _).mono ?_; rintro e w3 ⟨rfl, hb3⟩; have hB3 := hB.keptAll hb3; have c3 := hB3.cell (98 + p); rw [cc] at c3))
  go_ret
  exact ⟨rfl, by (repeat (first | exact Below.refl _ _ | refine below_drew' ?_ | refine below_drewN' ?_ _ | refine below_alloc' ?_ _ | refine below_set' ?_ (by (try simp); (try omega)) _ | refine below_step ?_ (by assumption)))⟩
end Go.Proofs.Ytdbdoohcpcjfdaa
