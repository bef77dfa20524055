/- 'l05Tables': the model. -/
import Derived.Test.YticnpajbefflbaaFxS
import Derived.Test.YticnpajbefflbaaLvB
namespace Go.Proofs.Yticnpajbefflbaa
open Go.RowKit

def tbA (M : Mach) (L n k : Nat) : List (List Int) := (fwd M L n k).map Prod.snd
def tbB (M : Mach) (L S n k : Nat) : List (List Int) := tbA M L n S ++ (bwd M L S n k).map Prod.snd
theorem tbA_succ (M : Mach) (L n k : Nat) : tbA M L n (k + 1) = tbA M L n k ++ [permL M L k n] := by simp [tbA, fwd_succ]
theorem tbB_succ (M : Mach) (L S n k : Nat) : tbB M L S n (k + 1) = tbB M L S n k ++ [permL (invM M L S) L k n] := by simp [tbB, bwd_succ]
theorem tbB_zero (M : Mach) (L S n : Nat) : tbB M L S n 0 = tbA M L n S := by simp [tbB, bwd]
theorem tbA_len (M : Mach) (L n k : Nat) : (tbA M L n k).length = k := by simp [tbA, fwd_len]
theorem tbB_len (M : Mach) (L S n k : Nat) : (tbB M L S n k).length = S + k := by simp [tbB, tbA_len, bwd_len]
theorem tbB_all (M : Mach) (L S n : Nat) : tbB M L S n S = (fwd M L n S ++ bwd M L S n S).map Prod.snd := by simp [tbB, tbA]

set_option maxRecDepth 100000 in
set_option maxHeartbeats 2000000 in
theorem l05Tables_calls (M : Mach) (L S : Nat) (hg : Good M L S) (n : Nat) (hn : n ≤ 5) (w : World) :
    Calls Try.prog 54 #[.agg (mc M), .int .i64 n] w fun e w' => ∃ v vs, e = .returned v ∧ OwnLV w' w.heap.size v vs (tbB M L S n S) ∧ Below w.heap.size w w' := by
  have hok := hg.ok
  have hL3 := hg.L3
  have hS16 := hg.S16
  have hIok := invM_ok hok L S hL3
  have F1 : Hid (cut (mc M) 0 98 = mc M) := Lib.hid (cut_all _ _ (mc_size hok)); have F2 : Hid (0 + 98 ≤ (mc M).size) := Lib.hid (by rw [mc_size hok]; omega)
  have hB : Blk (w.alloc (.cells (mc M) 29)) w.heap.size (mc M) 29 := Blk.new w _ _
  have F3 : Hid (cut (mc (invM M L S)) 0 98 = mc (invM M L S)) := Lib.hid (cut_all _ _ (mc_size hIok))
  have F4 : Hid (0 + 98 ≤ (mc (invM M L S)).size) := Lib.hid (by rw [mc_size hIok]; omega)
  have hzs : (mc zeroM).size = 98 := mc_size zeroM_ok
  have F5 : Hid (0 + (mc (invM M L S)).size ≤ (mc zeroM).size) := Lib.hid (by rw [hzs, mc_size hIok]; omega)
  have F6 : Hid ((Try.prog.info? 29).map (·.size) = some (mc (invM M L S)).size) := Lib.hid (by rw [mc_size hIok]; exact size_mach)
  have F7 : Hid ((mc (invM M L S)).all (·.oneCell') = true) := Lib.hid (mc_one _)
  have F8 : Hid (over (mc zeroM) 0 (mc (invM M L S)) = mc (invM M L S)) := Lib.hid (over_all _ _ (by rw [hzs, mc_size hIok]))
  have hcS := mc_S M
  rw [hg.hS] at hcS
  have HcS := Lib.hid hcS
  have HLV := Lib.hid (fun q hq W => l01Level_calls M L S hg q n hq hn W)
  have HLI := Lib.hid (fun q hq W => l01Level_calls (invM M L S) L S hg.inv q n hq hn W)
  have hz0 := zero_mach
  have hbw0 : Below w.heap.size w (w.alloc (.cells (mc M) 29)) := by (repeat (first | exact Below.refl _ _ | refine below_drew' ?_ | refine below_drewN' ?_ _ | refine below_alloc' ?_ _ | refine below_set' ?_ (by (try simp); (try omega)) _ | refine below_step ?_ (by assumption)))
  have HI := Lib.hid (fun W => l01Inverse_calls M L S hg W)
  clear hzs hcS
  go_enter Try.func54, Try.ntmps54
  have hBA := hB.alloc (.cells #[] 26)
  go_wp2_with (first | (with_reducible show wpList _ _ _ _ _ _; refine wpList_load_blk rfl 29 (.tmp 2) rfl w.heap.size 0 rfl (mc M) _ (hBA) 98 F2.out _ Try.underlying29 rfl size_mach ?_; rw [F1.out]) | (go_at_call 44; refine (HI.out _).mono ?_; rintro e w1 ⟨rfl, hb1⟩; have hB1 := (hB.alloc (.cells #[] 26)).keptAll hb1; have hE1 := (Blk.new_at (w.alloc (.cells (mc M) 29)) #[] 26 (w.heap.size + 1) (by simp)).keptAll hb1; have hbw1 := below_step (below_alloc' hbw0 (.cells #[] 26)) hb1; have hlt1 := hE1.lt; have hB2 := hB1.alloc (.cells (mc zeroM) 29); have hE2 := hE1.alloc (.cells (mc zeroM) 29); have hZ2 : Blk (w1.alloc (.cells (mc zeroM) 29)) w1.heap.size (mc zeroM) 29 := Blk.new _ _ _; have hbw2 := below_alloc' hbw1 (.cells (mc zeroM) 29)) | (with_reducible show wpList _ _ _ _ _ _; refine wpList_store_row rfl 29 (.tmp 6) (.tmp 11) rfl w1.heap.size 0 (mc (invM M L S)) rfl rfl (mc zeroM) 29 hZ2 F5.out F6.out F7.out _ F8.out ?_; intro w3 hs3; have hI3 := hs3.blk; have hB3 := hs3.keep (by omega) hB2; have hbw3 := hs3.below _ _ (by omega) hbw2; have hE3 := hs3.keep (by omega) hE2; clear hs3))
  have hO3 : OwnLV w3 (w.heap.size + 1) (.slice (some ⟨w.heap.size + 1, 0, none⟩) 0 0) [] (tbA M L n 0) := OwnLV.empty (Nat.le_refl _) (by unfold maxLen; omega) rfl hE3
  have hge3 : w.heap.size + 1 ≤ w1.heap.size := by omega
  clear hB hBA hbw0 hB1 hbw1 hB2 hZ2 hE1 hE2 hE3 hbw2 F5 F6 F7 F8 hz0 hb1 hlt1 HI
  generalize w1.heap.size = h1 at *
  have HZ := Lib.hid (tbB_zero M L S n)
  go_loopw [5, 7] (fun ov i wr => ∃ (k : Nat) (v0 : Value) (vs : List Value), k ≤ S ∧ i = .int .i64 k ∧ v0 = ov ∧ OwnLV wr (w.heap.size + 1) v0 vs (tbA M L n k) ∧ Blk wr w.heap.size (mc M) 29 ∧ Blk wr h1 (mc (invM M L S)) 29 ∧ w.heap.size + 1 ≤ wr.heap.size ∧ Below w.heap.size w wr) (fun _ i _ => S - (intOf i).toNat)
  case atStart => exact ⟨0, _, [], by omega, rfl, rfl, hO3, hB3, hI3, by have := hI3.lt; omega, hbw3⟩
  case round =>
    clear hO3 hB3 hI3 hbw3
    obtain ⟨k, v0, vs, hk, rfl, rfl, hO, hM, hI, hge, hbw⟩ := hrel
    obtain ⟨w4, rfl⟩ : ∃ x, x = wr := ⟨_, rfl⟩
    have cA := hM.cell 1
    rw [HcS.out] at cA
    by_cases hlt : k < S
    · have hki : (k : Int) < (S : Int) := by omega
      have HL1 := Lib.hid (HLV.out k hlt)
      have Hs := Lib.hid (tbA_succ M L n k)
      have hln := tbA_len M L n k
      generalize tbA M L n k = zss at *
      generalize permL M L k n = P at *
      have hOl := hO.lt
      go_wp2_with (first | (with_reducible show wpList _ _ _ _ _ _; refine wpList_load_blk rfl 29 (.tmp 2) rfl w.heap.size 0 rfl (mc M) _ (hM) 98 F2.out _ Try.underlying29 rfl size_mach ?_; rw [F1.out]) | (go_at_call 50; refine (HL1.out _).mono ?_; rintro e w5 ⟨u, rfl, hU, hb5⟩; obtain ⟨ou, cu, rfl, hq⟩ := hU.view; clear hq; have hO5 := hO.below hb5; have hs5 := hb5.size; have hM5 := hM.keptAll hb5; have hI5 := hI.keptAll hb5; have hbw5 := below_step hbw hb5; have hO6 := hO5.below (w1 := w5.alloc (.cells #[.slice ou P.length cu] 26)) (by (repeat (first | exact Below.refl _ _ | refine below_drew' ?_ | refine below_drewN' ?_ _ | refine below_alloc' ?_ _ | refine below_set' ?_ (by (try simp); (try omega)) _ | refine below_step ?_ (by assumption)))); have hU6 := hU.below (w1 := w5.alloc (.cells #[.slice ou P.length cu] 26)) (by (repeat (first | exact Below.refl _ _ | refine below_drew' ?_ | refine below_drewN' ?_ _ | refine below_alloc' ?_ _ | refine below_set' ?_ (by (try simp); (try omega)) _ | refine below_step ?_ (by assumption)))); have hM6 := hM5.alloc (.cells #[.slice ou P.length cu] 26); have hI6 := hI5.alloc (.cells #[.slice ou P.length cu] 26); have hbw6 := below_alloc' hbw5 (.cells #[.slice ou P.length cu] 26); have HU := Lib.hid (fun q (hq : (Value.slice ou P.length cu).ownBlock = some q) => (World.ownsRow.lt hU q hq))) | (at_builtin; refine wpList_push_list rfl (.tmp 18) (.tmp 23) rfl (w.heap.size + 1) _ vs zss rfl hO6 w5.heap.size 1 (.slice ou P.length cu) P rfl (Blk.new w5 _ _) (hU6.base_le' (by omega)) (fun q h1 h2 => by have q1 := (HU.out q h1).1; have q2 := (hOl q h2).2; omega) (by omega) (by simp; omega) ?_; intro v7 w7 hO7 hb7 hsp7 hat7))
      have hs7 := hb7.size
      simp at hs7
      have hM7 := hsp7.blkL hM6 hO6
      have hI7 := hsp7.blkL hI6 hO6
      go_roundw
      case rel => exact ⟨k + 1, v7, vs ++ [.slice ou P.length cu], by omega, by go_num, rfl, by rw [Hs.out]; exact hO7, hM7, hI7, by omega, hbw6.trans (below_le hb7 (by omega))⟩
      case measure => simp [intOf] <;> omega
    · obtain rfl : S = k := by omega
      rw [← HZ.out] at hO
      go_wp2
      go_loopw [5, 8] (fun ov i wr => ∃ (k : Nat) (v0 : Value) (vs : List Value), k ≤ S ∧ i = .int .i64 k ∧ v0 = ov ∧ OwnLV wr (w.heap.size + 1) v0 vs (tbB M L S n k) ∧ Blk wr w.heap.size (mc M) 29 ∧ Blk wr h1 (mc (invM M L S)) 29 ∧ w.heap.size + 1 ≤ wr.heap.size ∧ Below w.heap.size w wr) (fun _ i _ => S - (intOf i).toNat)
      case atStart => exact ⟨0, _, vs, by omega, rfl, rfl, hO, hM, hI, hge, hbw⟩
      case round =>
        clear hO hM hI hbw cA hge
        obtain ⟨k, v0, vs, hk, rfl, rfl, hO, hM, hI, hge, hbw⟩ := hrel
        obtain ⟨w4, rfl⟩ : ∃ x, x = wr := ⟨_, rfl⟩
        have cA := hM.cell 1
        rw [HcS.out] at cA
        by_cases hlt : k < S
        · have hki : (k : Int) < (S : Int) := by omega
          have HL1 := Lib.hid (HLI.out k hlt)
          have Hs := Lib.hid (tbB_succ M L S n k)
          have hln := tbB_len M L S n k
          generalize tbB M L S n k = zss at *
          generalize permL (invM M L S) L k n = P at *
          generalize invM M L S = MI at *
          have hOl := hO.lt
          go_wp2_with (first | (with_reducible show wpList _ _ _ _ _ _; refine wpList_load_blk rfl 29 (.tmp 6) rfl h1 0 rfl (mc MI) _ hI 98 F4.out _ Try.underlying29 rfl size_mach ?_; rw [F3.out]) | (go_at_call 50; refine (HL1.out _).mono ?_; rintro e w5 ⟨u, rfl, hU, hb5⟩; obtain ⟨ou, cu, rfl, hq⟩ := hU.view; clear hq; have hO5 := hO.below hb5; have hs5 := hb5.size; have hM5 := hM.keptAll hb5; have hI5 := hI.keptAll hb5; have hbw5 := below_step hbw hb5; have hO6 := hO5.below (w1 := w5.alloc (.cells #[.slice ou P.length cu] 26)) (by (repeat (first | exact Below.refl _ _ | refine below_drew' ?_ | refine below_drewN' ?_ _ | refine below_alloc' ?_ _ | refine below_set' ?_ (by (try simp); (try omega)) _ | refine below_step ?_ (by assumption)))); have hU6 := hU.below (w1 := w5.alloc (.cells #[.slice ou P.length cu] 26)) (by (repeat (first | exact Below.refl _ _ | refine below_drew' ?_ | refine below_drewN' ?_ _ | refine below_alloc' ?_ _ | refine below_set' ?_ (by (try simp); (try omega)) _ | refine below_step ?_ (by assumption)))); have hM6 := hM5.alloc (.cells #[.slice ou P.length cu] 26); have hI6 := hI5.alloc (.cells #[.slice ou P.length cu] 26); have hbw6 := below_alloc' hbw5 (.cells #[.slice ou P.length cu] 26); have HU := Lib.hid (fun q (hq : (Value.slice ou P.length cu).ownBlock = some q) => (World.ownsRow.lt hU q hq))) | (at_builtin; refine wpList_push_list rfl (.tmp 31) (.tmp 36) rfl (w.heap.size + 1) _ vs zss rfl hO6 w5.heap.size 1 (.slice ou P.length cu) P rfl (Blk.new w5 _ _) (hU6.base_le' (by omega)) (fun q h1 h2 => by have q1 := (HU.out q h1).1; have q2 := (hOl q h2).2; omega) (by omega) (by simp; omega) ?_; intro v7 w7 hO7 hb7 hsp7 hat7))
          have hs7 := hb7.size
          simp at hs7
          have hM7 := hsp7.blkL hM6 hO6
          have hI7 := hsp7.blkL hI6 hO6
          go_roundw
          case rel => exact ⟨k + 1, v7, vs ++ [.slice ou P.length cu], by omega, by go_num, rfl, by rw [Hs.out]; exact hO7, hM7, hI7, by omega, hbw6.trans (below_le hb7 (by omega))⟩
          case measure => simp [intOf] <;> omega
        · obtain rfl : S = k := by omega
          go_wp2
          go_ret
          exact ⟨_, vs, rfl, hO.base_le (by omega), hbw⟩
end Go.Proofs.Yticnpajbefflbaa
