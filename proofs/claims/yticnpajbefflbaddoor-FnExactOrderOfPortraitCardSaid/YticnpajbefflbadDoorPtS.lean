/- 'IsPortrait': the model. -/
import Derived.Test.YticnpajbefflbadDoorPtI
import Derived.Test.YticnpajbefflbadDoorHeldK
namespace Go.Proofs.YticnpajbefflbadDoor
open Go.RowKit

theorem isPt_parts (d n : Int) (zs : List Int) : isPt d n zs = ((decide (2 ≤ d ∧ d ≤ 3) && decide (1 ≤ n ∧ n ≤ 4)) && isP d.toNat n.toNat zs) := by
  have h1 : isAlpha d = decide (2 ≤ d ∧ d ≤ 3) := by
    rw [Bool.eq_iff_iff, isAlpha_iff, decide_eq_true_eq]; omega
  unfold isPt
  rw [h1, Bool.decide_and, Bool.decide_and]
theorem l03Sizes_calls (d n : Int) (w : World) :
    Calls Tryd.prog 15 #[.int .i64 d, .int .i64 n] w fun e w' => e = .returned (.bool (decide (2 ≤ d ∧ d ≤ 3) && decide (1 ≤ n ∧ n ≤ 4))) ∧ Below w.heap.size w w' := by
  cases h1 : decide (2 ≤ d ∧ d ≤ 3)
  · have H1 := Lib.hid h1; clear h1
    go_enter Tryd.func15, Tryd.ntmps15
    go_wp2_with (go_at_call 29; refine (l01In_calls d 2 3 _).mono ?_; rintro e w' ⟨rfl, rfl⟩; rw [H1.out])
    go_ret
    exact ⟨rfl, by (repeat (first | exact Below.refl _ _ | refine below_drew' ?_ | refine below_drewN' ?_ _ | refine below_alloc' ?_ _ | refine below_set' ?_ (by (try simp); (try omega)) _ | refine below_step ?_ (by assumption)))⟩
  · have H1 := Lib.hid h1; clear h1
    have T1 := Lib.hid trivial
    obtain ⟨b, hb⟩ : ∃ b, decide (1 ≤ n ∧ n ≤ 4) = b := ⟨_, rfl⟩
    rw [hb]
    have Hb := Lib.hid hb; clear hb
    go_enter Tryd.func15, Tryd.ntmps15
    go_wp2_with (go_at_call 29; first | (clear T1; refine (l01In_calls d 2 3 _).mono ?_; rintro e w' ⟨rfl, rfl⟩; rw [H1.out]) | (refine (l01In_calls n 1 4 _).mono ?_; rintro e w' ⟨rfl, rfl⟩; rw [Hb.out]))
    go_ret
    exact ⟨rfl, by (repeat (first | exact Below.refl _ _ | refine below_drew' ?_ | refine below_drewN' ?_ _ | refine below_alloc' ?_ _ | refine below_set' ?_ (by (try simp); (try omega)) _ | refine below_step ?_ (by assumption)))⟩

set_option maxRecDepth 100000 in
set_option maxHeartbeats 1000000 in
theorem l03Is_calls (d n : Nat) (hd : d = 2 ∨ d = 3) (hn : n ≤ 4) (hn1 : 1 ≤ n) (v : Value) (zs : List Int) (w : World) (hv : SeesI w v zs) :
    Calls Tryd.prog 16 #[.int .i64 d, .int .i64 n, v] w fun e w' => e = .returned (.bool (isP d n zs)) ∧ Below w.heap.size w w' := by
  have hd3 : d ≤ 3 := by omega
  obtain ⟨oa, ca, rfl, hca⟩ := hv.view
  have hlen := hv.1
  unfold maxLen at hlen
  by_cases hl : (zs.length : Int) = sumP d n
  · have hlb : ((zs.length : Int) != sumP d n) = false := by simpa using hl
    have hpos := sumP_pos d n hd3 hn hn1
    obtain ⟨g, rfl, _, hca⟩ := hca (by omega)
    clear hca hpos
    have Hv := Lib.hid hv; clear hv
    have hcp : 2 ≤ cntP d ∧ cntP d ≤ 6 := by unfold cntP; split <;> omega
    have hct := fun W => l03Count_calls d hd W
    have Hct := Lib.hid hct; clear hct
    have Hl := Lib.hid hl; clear hl
    go_enter Tryd.func16, Tryd.ntmps16
    go_wp2_with (go_at_call 30; refine (l03Start_calls d n hd3 hn _).mono ?_; rintro e w' ⟨rfl, rfl⟩)
    have hbw0 : Below w.heap.size w w := Below.refl _ _
    have hv0 := Hv.out
    go_loopw [7] (fun i wr => ∃ k : Nat, k ≤ zs.length ∧ i = .int .i64 k ∧ SeesI wr (.slice (some ⟨g, 0, none⟩) zs.length ca) zs ∧ Below w.heap.size w wr ∧ Hid (entP d zs k = true)) (fun i _ => zs.length - (intOf i).toNat)
    case atStart => exact ⟨0, by omega, rfl, hv0, hbw0, Lib.hid rfl⟩
    case round =>
      clear hv0 hbw0
      obtain ⟨k, hk, rfl, hS, hbw, HE⟩ := hrel
      by_cases hlt : k < zs.length
      · have hki : (k : Int) < zs.length := by omega
        have Hs := Lib.hid (entP_succ d zs k hlt)
        have Hno := Lib.hid (entP_no d zs k hlt)
        have Hat : Hid (∀ W, SeesI W (.slice (some ⟨g, 0, none⟩) zs.length ca) zs → W.cell? ⟨g, k, none⟩ = some (.int .i64 zs[k])) := Lib.hid (fun W hW => by
          obtain ⟨g', hg', _, hc⟩ := hW.at k hlt
          cases hg'
          exact hc)
        generalize zs[k] = z at *
        have hSd := hS.below ((Below.refl wr.heap.size wr).drew); have hbd := below_drew' hbw
        obtain ⟨b, hb⟩ : ∃ b, decide (0 ≤ z ∧ z ≤ cntP d - 1) = b := ⟨_, rfl⟩
        have Hb := Lib.hid hb; clear hb
        have Hcc : Hid (∀ W, Calls Tryd.prog 31 #[.int .i64 d] W fun e w' => e = .returned (.int .i64 (cntP d)) ∧ W = w') := Hct
        have Hin : Hid (b = (decide (0 ≤ z) && decide (z < cntP d))) := Lib.hid (by rw [← Hb.out, ← Bool.decide_and, decide_eq_decide]; omega)
        generalize cntP d = cc at *
        have hw1 : IntKind.i64.wrap (cc - 1) = cc - 1 := IntWalk.i64_in _ (by omega)
        go_wp2_with fail
        clear hS hbw
        refine wp_region_quiet (C := fun W => SeesI W (.slice (some ⟨g, 0, none⟩) zs.length ca) zs ∧ Below w.heap.size w W) (by kernel_rfl) (by kernel_rfl) ⟨hSd, hbd⟩ ?_
        refine wpK_val rfl (.slice (some ⟨g, 0, none⟩) zs.length ca) (fun W _ => by go_simp) ?_; (intro K hK; go_simp; refine hK _ ?_; clear hK K)
        refine wpK_val rfl (.int .i64 (k : Int)) (fun W _ => by go_simp) ?_; (intro K hK; go_simp; refine hK _ ?_; clear hK K)
        refine wpK_val rfl (.pointer (some ⟨g, k, none⟩)) (fun W _ => by go_simp) ?_; (intro K hK; go_simp; refine hK _ ?_; clear hK K)
        refine wpK_val rfl (.int .i64 z) (fun W hW => by have hc := Hat.out W hW.1; clear hW; go_simp) ?_; (intro K hK; go_simp; refine hK _ ?_; clear hK K)
        refine wpK_val rfl (.int .i64 (d : Int)) (fun W _ => by go_simp) ?_; (intro K hK; go_simp; refine hK _ ?_; clear hK K)
        refine wpK_call rfl 31 #[.int .i64 (d : Int)] (.int .i64 cc) (fun W => by go_simp) (fun W hW => (Hcc.out W).mono fun e w'' h => ⟨h.1, by rw [← h.2]; exact hW⟩) ?_; (intro K hK; go_simp; refine hK _ ?_; clear hK K)
        refine wpK_val rfl (.int .i64 (cc - 1)) (fun W _ => by go_simp) ?_; (intro K hK; go_simp; refine hK _ ?_; clear hK K)
        refine wpK_call rfl 29 #[.int .i64 z, .int .i64 0, .int .i64 (cc - 1)] (.bool b) (fun W => by go_simp) (fun W hW => (l01In_calls z 0 (cc - 1) W).mono fun e w'' h => ⟨by rw [h.1, Hb.out], by rw [← h.2]; exact hW⟩) ?_; (intro K hK; go_simp; refine hK _ ?_; clear hK K)
        refine wpK_val rfl (.bool (!b)) (fun W _ => by go_simp) ?_; (intro K hK; go_simp; refine hK _ ?_; clear hK K)
        refine wpQuiet_nil ?_
        rintro w6 ⟨hS6, hbw6⟩
        clear hSd hbd
        cases b
        · have Hr : Hid (isP d n zs = false) := Lib.hid (by unfold isP; rw [Hno.out Hin.out.symm]; simp)
          go_wp2
          go_ret
          exact ⟨ret_bool Hr.out.symm, hbw6⟩
        · have Hn : Hid (entP d zs (k + 1) = true) := Lib.hid (by rw [Hs.out, HE.out, ← Hin.out]; rfl)
          go_wp2
          go_roundw
          case rel => exact ⟨k + 1, by omega, by go_num, hS6, hbw6, Hn⟩
          case measure => simp [intOf] <;> omega
      · have hkl : k = zs.length := by omega
        have Hr : Hid (isP d n zs = true) := Lib.hid (by have := HE.out; rw [hkl] at this; simp [isP, Hl.out, this])
        go_wp2
        go_ret
        exact ⟨ret_bool Hr.out.symm, hbw⟩
  · have hlb : ((zs.length : Int) != sumP d n) = true := by simpa using hl
    have Hr : Hid (isP d n zs = false) := Lib.hid (by simp [isP, hl])
    clear hl
    go_enter Tryd.func16, Tryd.ntmps16
    go_wp2_with (go_at_call 30; refine (l03Start_calls d n hd3 hn _).mono ?_; rintro e w' ⟨rfl, rfl⟩)
    go_ret
    exact ⟨ret_bool Hr.out.symm, Below.refl _ _⟩

end Go.Proofs.YticnpajbefflbadDoor
