/- 'l06Return': the model. -/
import Derived.Test.YticnpajbefflbacTuC
import Derived.Test.YticnpajbefflbacRtB
namespace Go.Proofs.Yticnpajbefflbac
open Go.RowKit

theorem size_t16 : (Try.prog.info? 57).map (·.size) = some 16 := by kernel_rfl

set_option maxRecDepth 100000 in
set_option maxHeartbeats 2000000 in
theorem l06Return_calls (M : Mach) (L S : Nat) (l : List Bool) (hg : Good M L S) (hl' : TuL M L S l) (v : Value) (zs : List Int) (hz : numsOk S zs = true) (hn : zs.length ≤ 40) (x : Nat) (hx : x < L) (w : World) (hv : SeesI w v zs) :
    Calls Try.prog 30 #[.agg (tuC M L S l), v, .int .u8 (x : Int)] w fun e w' =>
      (40 < cyN (imN M zs) x * zs.length → e = .returned (.tuple #[.slice none 0 0, .int .i64 0, .bool false])) ∧
      (¬ 40 < cyN (imN M zs) x * zs.length → ∃ u, e = .returned (.tuple #[u, .int .i64 (cyN (imN M zs) x : Int), .bool true]) ∧ OwnI w' w.heap.size u (normK M L S (rdK M zs x (cyN (imN M zs) x)) (rdK M zs x (cyN (imN M zs) x)).length)) ∧ Below w.heap.size w w' := by
  have hL3 := hg.L3
  obtain ⟨z, hzs, hzi⟩ := tu_zero
  have hsz := (zero_of_info hzi).2
  have HLt := Lib.hid (itN_lt (imN_lt hg hz) hx)
  have HRl := Lib.hid (rdK_len hg hz hx)
  obtain ⟨n1, n3⟩ := cyN_bd (imN M zs) x
  have Hts := Lib.hid (tu_size hg hl')
  have Hca : Hid (cut (tuC M L S l) 0 228 = tuC M L S l) := Lib.hid (cut_all _ _ Hts.out)
  have Hc0 := Lib.hid (tu_cut0 hg hl')
  have Hc1 := Lib.hid (tu_cut1 hg hl')
  have Hc2 := Lib.hid (tu_cut2 hg hl')
  have Hc3 := Lib.hid (tu_cut3 hg hl')
  have hB : Blk (w.alloc (.cells (tuC M L S l) 59)) w.heap.size (tuC M L S l) 59 := Blk.new _ _ _
  have hbw0 : Below w.heap.size w (w.alloc (.cells (tuC M L S l) 59)) := by (repeat (first | exact Below.refl _ _ | refine below_drew' ?_ | refine below_drewN' ?_ _ | refine below_alloc' ?_ _ | refine below_set' ?_ (by (try simp); (try omega)) _ | refine below_step ?_ (by assumption)))
  have hvB := hv.below hbw0
  obtain ⟨oa, ca, hve, _⟩ := hv.view
  subst hve
  have Hv := Lib.hid hv; clear hv
  have HCy := Lib.hid (l06Cycle_calls M L S l hg hl' _ zs hz hn x hx _ hvB)
  have hcl := cyL_len (imN M zs) x (cyN (imN M zs) x)
  have Hca2 : Hid (∀ j (h : j < cyN (imN M zs) x), (cyL (imN M zs) x (cyN (imN M zs) x))[j]'(by rw [cyL_len]; exact h) = itN (imN M zs) x j) := Lib.hid fun j h => cyL_at _ _ _ _ h
  have Hg := Lib.hid hg; clear hg
  have Hz := Lib.hid hz; clear hz
  generalize hNe : cyN (imN M zs) x = N at *
  obtain ⟨p, hp⟩ : ∃ p : Nat, N * zs.length = p := ⟨_, rfl⟩
  have hp3 : p ≤ 120 := by rw [← hp]; exact Nat.mul_le_mul n3 hn
  have hpi : (N : Int) * (zs.length : Int) = (p : Int) := by rw [← hp]; simp
  have hwp : IntKind.i64.wrap (p : Int) = (p : Int) := by simp [IntKind.wrap, IntKind.bits, IntKind.signed]; omega
  clear hNe hvB
  by_cases h4 : 40 < N * zs.length
  · have h4i : (40 : Int) < (p : Int) := by omega
    clear hp
    go_enter Try.func30, Try.ntmps30
    go_wp2_with (first | (with_reducible show wpList _ _ _ _ _ _; refine wpList_load_blk rfl 59 (.tmp 3) rfl w.heap.size 0 rfl (tuC M L S l) _ hB 228 (by rw [Hts.out]; omega) _ Try.underlying59 rfl hsz ?_; rw [Hca.out]) | (go_at_call 57; refine HCy.out.mono ?_; rintro e w1 ⟨cv, rfl, hC1, hb1⟩; obtain ⟨gC, cc, curC, rfl, hgC, hBC, hcC⟩ := hC1.view (by rw [hcl]; omega); rw [hcl]; have hbw1 := below_step hbw0 hb1))
    go_ret3
    exact ⟨fun _ => rfl, fun h => absurd h4 h, below_alloc' hbw1 _⟩
  · have h4i : ¬ ((40 : Int) < (p : Int)) := by omega
    clear hp
    go_enter Try.func30, Try.ntmps30
    go_wp2_with (first | (with_reducible show wpList _ _ _ _ _ _; refine wpList_load_blk rfl 59 (.tmp 3) rfl w.heap.size 0 rfl (tuC M L S l) _ hB 228 (by rw [Hts.out]; omega) _ Try.underlying59 rfl hsz ?_; rw [Hca.out]) | (go_at_call 57; refine HCy.out.mono ?_; rintro e w1 ⟨cv, rfl, hC1, hb1⟩; obtain ⟨gC, cc, curC, rfl, hgC, hBC, hcC⟩ := hC1.view (by rw [hcl]; omega); rw [hcl]; have hbw1 := below_step hbw0 hb1; have hB1 := hB.keptAll hb1; have hlt1 := hB1.lt; have hltC := hBC.lt))
    have HcC : Hid (∀ k, k < N → curC[k]? = some (.int .u8 (itN (imN M zs) x k : Int))) := Lib.hid fun k hk => by
      rw [hcC k (by rw [hcl]; exact hk), Hca2.out k hk]
    have hO1 : OwnI (w1.alloc (.cells #[] 2)) w1.heap.size (.slice (some ⟨w1.heap.size, 0, none⟩) 0 0) (rdK M zs x 0) := OwnI.empty w1 _ 0 #[] (Nat.le_refl _) (by unfold maxLen; omega) rfl
    have hb12 : Below w1.heap.size w1 (w1.alloc (.cells #[] 2)) := by (repeat (first | exact Below.refl _ _ | refine below_drew' ?_ | refine below_drewN' ?_ _ | refine below_alloc' ?_ _ | refine below_set' ?_ (by (try simp); (try omega)) _ | refine below_step ?_ (by assumption)))
    have HB1 := Lib.hid hB1
    have HBC := Lib.hid hBC
    have Hbw1 := Lib.hid hbw1
    clear hC1 hcC hB1 hBC hbw1 hB hbw0
    go_loopw [10, 11] (fun ov iv wr => ∃ (k : Nat) (v0 : Value), k ≤ N ∧ iv = .int .i64 k ∧ v0 = ov ∧ OwnI wr w1.heap.size v0 (rdK M zs x k) ∧ Below w1.heap.size w1 wr) (fun _ i _ => N - (intOf i).toNat)
    case atStart => exact ⟨0, _, by omega, rfl, rfl, hO1, hb12⟩
    case round =>
      clear hO1 hb12
      obtain ⟨k, v0, hk, rfl, rfl, hO, hb⟩ := hrel
      have hbw := below_step Hbw1.out hb
      have hB := HB1.out.keptAll hb
      have hBC := HBC.out.keptAll hb
      have hsz1 := hb.size
      by_cases hlt : k < N
      · have hki : (k : Int) < (N : Int) := by omega
        have hkj : ¬ ((N : Int) ≤ (k : Int)) := by omega
        have hy := HLt.out k
        have c1 := HcC.out k hlt
        have Hrd : Hid (rdK M zs x (k + 1) = rdK M zs x k ++ (ledG M zs (itN (imN M zs) x k)).2) := Lib.hid rfl
        have hl2 := (HRl.out (k + 1)).1
        have hl4 : (k + 1) * zs.length ≤ 3 * 40 := Nat.mul_le_mul (by omega) hn
        have Hl : Hid ((rdK M zs x k).length + (ledG M zs (itN (imN M zs) x k)).2.length ≤ 1048576) := Lib.hid (by
          have := congrArg List.length Hrd.out
          rw [List.length_append] at this
          omega)
        have hdr : Below wr.heap.size wr wr.drew := (Below.refl _ _).drew
        have hvr := (Hv.out.below hbw).below hdr
        have hOd := hO.below hdr
        have hbd := hb.trans (below_le hdr hsz1)
        generalize itN (imN M zs) x k = y at *
        clear hl2 hl4
        go_wp2
        refine wp_region_held_drew (S := fun W => Blk W w.heap.size (tuC M L S l) 59 ∧ Blk W gC curC 5) (by kernel_rfl) ⟨hB.drew, hBC.drew⟩ (fun hS0 => ?_)
        (refine hK_take 0 (.pointer (some ⟨w.heap.size, 0, none⟩)) rfl (by kernel_rfl) (by kernel_rfl) (by kernel_rfl) (fun _ _ _ h => h) rfl (fun W _ => by go_simp) hS0 ?_; (intro K hK; go_simp; refine hK _ ?_; clear hK K))
        (refine hK_load 1 rfl (by kernel_rfl) (by kernel_rfl) (by kernel_rfl) 29 _ rfl (w.heap.size) 0 rfl (tuC M L S l) _ (fun W hW => hW.1) 98 ((by rw [Hts.out]; omega)) _ Try.underlying29 rfl size_mach _ (Hc0.out) (fun _ _ _ h => h) rfl hS0 ?_; (intro K hK; go_simp; refine hK _ ?_; clear hK K))
        (refine hK_take 2 (.pointer (some ⟨w.heap.size, 98, none⟩)) rfl (by kernel_rfl) (by kernel_rfl) (by kernel_rfl) (fun _ _ _ h => h) rfl (fun W _ => by go_simp) hS0 ?_; (intro K hK; go_simp; refine hK _ ?_; clear hK K))
        refine hK_load 3 rfl (by kernel_rfl) (by kernel_rfl) (by kernel_rfl) 29 _ rfl w.heap.size 98 rfl (tuC M L S l) _ (fun W hW => hW.1) 98 (by rw [Hts.out]; omega) _ Try.underlying29 rfl size_mach _ Hc1.out (fun _ _ _ h => h) rfl hS0 ?_; (intro K hK; go_simp; refine hK _ ?_; clear hK K)
        (refine hK_take 4 (.slice oa zs.length ca) rfl (by kernel_rfl) (by kernel_rfl) (by kernel_rfl) (fun _ _ _ h => h) rfl (fun W _ => by go_simp) hS0 ?_; (intro K hK; go_simp; refine hK _ ?_; clear hK K))
        (refine hK_take 5 (.slice (some ⟨gC, 0, none⟩) N cc) rfl (by kernel_rfl) (by kernel_rfl) (by kernel_rfl) (fun _ _ _ h => h) rfl (fun W _ => by go_simp) hS0 ?_; (intro K hK; go_simp; refine hK _ ?_; clear hK K))
        (refine hK_take 6 (.int .i64 (k : Int)) rfl (by kernel_rfl) (by kernel_rfl) (by kernel_rfl) (fun _ _ _ h => h) rfl (fun W _ => by go_simp) hS0 ?_; (intro K hK; go_simp; refine hK _ ?_; clear hK K))
        refine hK_take 7 (.pointer (some ⟨gC, k, none⟩)) rfl (by kernel_rfl) (by kernel_rfl) (by kernel_rfl) (fun _ _ _ h => h) rfl (fun W _ => by simp [go_sem]; intro h; omega) hS0 ?_; (intro K hK; go_simp; refine hK _ ?_; clear hK K)
        refine hK_take 8 (.int .u8 (y : Int)) rfl (by kernel_rfl) (by kernel_rfl) (by kernel_rfl) (fun _ _ _ h => h) rfl (fun W hW => by have := hW.2.cell k; rw [c1] at this; simp [go_sem, this]) hS0 ?_; (intro K hK; go_simp; refine hK _ ?_; clear hK K)
        (refine wpAnyH_ready (rs := [9]) (by kernel_rfl) (by simp) ?_; refine AllReadyH.cons rfl (fun K hK => ?_) AllReadyH.nil); go_simp; refine (l02Led_calls M L S Hg.out _ zs Hz.out (by omega) y hy _ hvr).mono ?_; rintro e w3 ⟨v3, rfl, hO3, hb3⟩
        have hS1 : Blk w3 w.heap.size (tuC M L S l) 59 ∧ Blk w3 gC curC 5 := ⟨hS0.1.keptAll hb3, hS0.2.keptAll hb3⟩
        have hON := hOd.below hb3
        have hb13 := hbd.trans (below_le hb3 (by have := hdr.size; omega))
        (go_simp; refine hK.out _ _ (hS1) (fun hS2 => ?_); clear hK K)
        generalize (ledG M zs y).1 = y2 at *
        generalize (ledG M zs y).2 = sec at *
        (refine hK_take 10 (.tuple #[.int .u8 (y2 : Int), v3]) rfl (by kernel_rfl) (by kernel_rfl) (by kernel_rfl) (fun _ _ _ h => h) rfl (fun W _ => by go_simp) hS2 ?_; (intro K hK; go_simp; refine hK _ ?_; clear hK K))
        (refine hK_take 11 (.int .u8 (y2 : Int)) rfl (by kernel_rfl) (by kernel_rfl) (by kernel_rfl) (fun _ _ _ h => h) rfl (fun W _ => by go_simp) hS2 ?_; (intro K hK; go_simp; refine hK _ ?_; clear hK K))
        (refine hK_take 12 (v3) rfl (by kernel_rfl) (by kernel_rfl) (by kernel_rfl) (fun _ _ _ h => h) rfl (fun W _ => by go_simp) hS2 ?_; (intro K hK; go_simp; refine hK _ ?_; clear hK K))
        (refine hK_take 13 (.int .u8 (y2 : Int)) rfl (by kernel_rfl) (by kernel_rfl) (by kernel_rfl) (fun _ _ _ h => h) rfl (fun W _ => by go_simp) hS2 ?_; (intro K hK; go_simp; refine hK _ ?_; clear hK K))
        (refine hK_take 14 (v3) rfl (by kernel_rfl) (by kernel_rfl) (by kernel_rfl) (fun _ _ _ h => h) rfl (fun W _ => by go_simp) hS2 ?_; (intro K hK; go_simp; refine hK _ ?_; clear hK K))
        refine wpAnyH_done (by kernel_rfl) ?_ _
        have hsz3 := hb13.size
        go_wp2_with (at_builtin; refine wpList_join_ints rfl (.tmp 44) (.tmp 45) rfl w1.heap.size v0 v3 (rdK M zs x k) sec rfl hON rfl hO3.sees Hl.out hsz3 ?_; intro v1 w7 hO7 hb7 _ _)
        rw [← Hrd.out] at hO7
        go_roundw
        case rel => exact ⟨k + 1, _, by omega, by go_num, rfl, hO7, hb13.trans hb7⟩
        case measure => simp [intOf] <;> omega
      · obtain rfl : k = N := by omega
        have hl := (HRl.out k).1
        have hk40 : (rdK M zs x k).length ≤ 1048576 := by have : k * zs.length ≤ 3 * 40 := Nat.mul_le_mul n3 hn; omega
        have Hzr : Hid (∀ z ∈ rdK M zs x k, numOk S z = true) := Lib.hid (by
          have := (HRl.out k).2
          unfold numsOk at this
          exact List.all_eq_true.mp this)
        clear hl
        go_wp2_with (first | (with_reducible show wpList _ _ _ _ _ _; refine wpList_load_blk rfl 56 (.tmp 48) rfl w.heap.size 196 rfl (tuC M L S l) _ hB 16 (by rw [Hts.out]; omega) _ Try.underlying56 rfl size_i16 ?_; rw [Hc2.out]) | (with_reducible show wpList _ _ _ _ _ _; refine wpList_load_blk rfl 57 (.tmp 50) rfl w.heap.size 212 rfl (tuC M L S l) _ hB 16 (by rw [Hts.out]; omega) _ Try.underlying57 rfl size_t16 ?_; rw [Hc3.out]) | (go_at_call 59; refine (l02Normal_calls M L S Hg.out l hl'.len hl'.at' _ (rdK M zs x k) Hzr.out hk40 _ hO.sees).mono ?_; rintro e w8 ⟨u8, rfl, hO8, hb8⟩))
        go_ret3
        exact ⟨fun h => absurd h h4, fun _ => ⟨_, rfl, hO8.base_le hbw.size⟩, below_step hbw hb8⟩
end Go.Proofs.Yticnpajbefflbac
