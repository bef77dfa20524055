/- 'LevelPermutation', program and model. -/
import Derived.Test.YticnpajbefflbaaLevM
import Derived.Test.YticnpajbefflbaaAct
import Derived.Test.YticnpajbefflbaaInts
import Derived.Test.YticnpajbefflbaaHeldK
import Derived.Test.YticnpajbefflbaaLawB
import Derived.Test.YticnpajbefflbaaWordF
namespace Go.Proofs.Yticnpajbefflbaa
open Go.RowKit

def permRes (M : Mach) (q n : Int) : List Int := if isMach M = true ∧ (0 ≤ q ∧ q < M.S) ∧ (0 ≤ n ∧ n ≤ 5) then permL M M.L.toNat q.toNat n.toNat else []
def permCode (M : Mach) (q n : Int) : Int := if isMach M = false then 1 else if (0 ≤ q ∧ q < M.S) ∧ (0 ≤ n ∧ n ≤ 5) then 0 else 2

set_option maxRecDepth 100000 in
set_option maxHeartbeats 1000000 in
theorem iLevel_good (M : Mach) (L S : Nat) (hg : Good M L S) (q n : Nat) (hq : q < S) (hn : n ≤ 5) (w : World) :
    Calls Try.prog 77 #[.agg (mc M), .int .i64 q, .int .i64 n] w fun e w' => ∃ v, e = .returned (.tuple #[v, .int .i64 0]) ∧ OwnI w' w.heap.size v (permL M L q n) ∧ Below w.heap.size w w' := by
  have hok := hg.ok
  have hL23 := hg.L23
  have hL3 := hg.L3
  have hcL := mc_L M
  rw [hg.hL] at hcL
  have Hm := Lib.hid hg.isMach
  have HS := Lib.hid hg.hS
  have hp := pw_bd L n hL3 hn
  have hpw : pw L n = ((L ^ n : Nat) : Int) := rfl
  obtain ⟨N, hN⟩ : ∃ N : Nat, L ^ n = N := ⟨_, rfl⟩
  rw [hN] at hpw
  have hN1 : N ≤ 243 := by omega
  have hm1 : isMach M = true := Hm.out
  have hqS : decide (0 ≤ (q : Int) ∧ (q : Int) < M.S) = true := by rw [HS.out]; simp; omega
  have hqS' : (q : Int) < M.S := by rw [HS.out]; omega
  have hln : isLev (n : Int) = true := (isLev_iff _).2 (by omega)
  have HN := Lib.hid hN
  clear hN
  obtain ⟨i0, hi, hz0, hz1, hz2⟩ := info_parts info2
  have hmk : ∀ W : World, (Instr.makeSlice 26 (.int .i64 N) (.int .i64 N)).run Try.prog W = .ok (.slice (some ⟨W.heap.size, 0, none⟩) N N) (W.alloc (.cells (permC M L q n N 0) 2)) := fun W => by
    have := run_make (P := Try.prog) W 26 2 i0 (.int .i64 0) Try.underlying26 hi hz0 .i64 .i64 N N (by omega) (by omega) (by rw [hz2]; omega) (by omega)
    rwa [hz1, Int.toNat_natCast, Nat.mul_one, made_zero64, ← permC_zero M L q n N] at this
  clear hi hz0 hz1 hz2
  have F1 : Hid (cut (mc M) 0 98 = mc M) := Lib.hid (cut_all _ _ (mc_size hok)); have F2 : Hid (0 + 98 ≤ (mc M).size) := Lib.hid (by rw [mc_size hok]; omega)
  have hB : Blk (w.alloc (.cells (mc M) 29)) w.heap.size (mc M) 29 := Blk.new w _ _
  go_enter Try.func77, Try.ntmps77
  go_wp2_with (first | (with_reducible show wpList _ _ _ _ _ _; refine wpList_load_blk_g rfl 29 (.tmp 3) rfl w.heap.size 0 rfl (mc M) _ (by first | exact hB2 | exact hB1 | exact hB) 98 F2.out _ Try.underlying29 rfl size_mach ?_; rw [F1.out]) | (go_at_call 83; refine (IsMachine_calls M hok _).mono ?_; rintro e w1 ⟨rfl, hb1⟩; have hB1 := hB.keptAll hb1) | (go_at_call 88; refine (isState_calls M q _).mono ?_; rintro e w2 ⟨rfl, hb2⟩; have hB2 := hB1.keptAll hb2; have cA := hB2.cell) | (go_at_call 62; refine (isLevel_calls _ _).mono ?_; rintro e w' ⟨rfl, rfl⟩) | (go_at_call 63; refine (levelSize_calls L n hL3 hn _).mono ?_; rintro e w' ⟨rfl, rfl⟩; rw [hpw]))
  have hB3 : Blk (w2.alloc (.cells (permC M L q n N 0) 2)) w.heap.size (mc M) 29 := hB2.alloc _
  have hC : Blk (w2.alloc (.cells (permC M L q n N 0) 2)) w2.heap.size (permC M L q n N 0) 2 := Blk.new _ _ _
  have hlt2 := hB2.lt
  have hbw : Below w.heap.size w (w2.alloc (.cells (permC M L q n N 0) 2)) := by (repeat (first | exact Below.refl _ _ | refine below_drew' ?_ | refine below_drewN' ?_ _ | refine below_alloc' ?_ _ | refine below_set' ?_ (by (try simp); (try omega)) _ | refine below_step ?_ (by assumption)))
  have hsz2 : w.heap.size ≤ w2.heap.size := by omega
  have Hsz2 : Hid (w.heap.size < w2.heap.size) := Lib.hid hlt2
  clear hB hB1 hB2 cA hb1 hb2 hmk
  generalize w2.heap.size = g at *
  go_loopw [31] (fun i wr => ∃ k : Nat, k ≤ N ∧ i = .int .i64 k ∧ Blk wr w.heap.size (mc M) 29 ∧ Blk wr g (permC M L q n N k) 2 ∧ Below w.heap.size w wr) (fun i _ => N - (intOf i).toNat)
  case atStart => exact ⟨0, by omega, rfl, hB3, hC, hbw⟩
  case round =>
    clear hB3 hC hbw
    obtain ⟨k, hk, rfl, hB, hC, hbw⟩ := hrel
    have hgt := hC.lt
    by_cases hlt : k < N
    · have hWl := lettersL_wordOf L hL23 n k
      have hWs : (⟨(wordOf L n k).toArray⟩ : ByteArray).size ≤ 40 := by show (wordOf L n k).toArray.size ≤ 40; simp [length_wordOf]; omega
      have hrl := hg.letters_all q hq _ hWl
      have hrs : (runL M q (wordOf L n k)).2.length ≤ 5 := by rw [runL_len, length_wordOf]; exact hn
      go_wp2
      refine wp_region_quiet (C := fun W => Blk W w.heap.size (mc M) 29 ∧ Blk W g (permC M L q n N k) 2 ∧ Below w.heap.size w W) (by kernel_rfl) (by kernel_rfl) ⟨hB.drew, hC.drew, hbw.drew⟩ ?_
      refine wpQuiet_load_blk rfl 29 _ rfl w.heap.size 0 rfl (mc M) _ (fun W hW => hW.1) 98 F2.out _ Try.underlying29 rfl size_mach ?_
      rw [F1.out]
      refine wpQuiet_val rfl (.int .i64 q) (fun W _ => by go_simp) ?_
      refine wpQuiet_val rfl (.pointer (some ⟨w.heap.size, 0, none⟩)) (fun W _ => by go_simp) ?_
      refine wpQuiet_val rfl (.int .i64 L) (fun W hW => by have c0 := hW.1.cell 0; rw [hcL] at c0; clear hW; go_simp) ?_
      refine wpQuiet_val rfl (.int .i64 n) (fun W _ => by go_simp) ?_
      refine wpQuiet_val rfl (.int .i64 k) (fun W _ => by go_simp) ?_
      refine wpQuiet_call rfl 64 _ _ rfl #[.int .i64 L, .int .i64 n, .int .i64 k] (.string ⟨(wordOf L n k).toArray⟩) (fun W => by go_simp) (fun W hW => (levelWord_calls L n k hL23 hn (by omega) (by omega) W).mono fun e w'' h => ⟨by rw [h.1]; rfl, hW.1.keptAll h.2, hW.2.1.keptAll h.2, below_step hW.2.2 h.2⟩) ?_
      refine wpQuiet_call rfl 89 _ _ rfl #[.agg (mc M), .int .i64 q, .string ⟨(wordOf L n k).toArray⟩] (.tuple #[.string ⟨(runL M q (wordOf L n k)).2.toArray⟩, .int .i64 ((runL M q (wordOf L n k)).1 : Nat)]) (fun W => by go_simp) (fun W hW => (walk_calls M L S hg q hq ⟨(wordOf L n k).toArray⟩ hWs hWl W).mono fun e w'' h => ⟨h.1, hW.1.keptAll h.2, hW.2.1.keptAll h.2, below_step hW.2.2 h.2⟩) ?_
      refine wpQuiet_val rfl (.tuple #[.string ⟨(runL M q (wordOf L n k)).2.toArray⟩, .int .i64 ((runL M q (wordOf L n k)).1 : Nat)]) (fun W _ => by go_simp) ?_
      refine wpQuiet_val rfl (.string ⟨(runL M q (wordOf L n k)).2.toArray⟩) (fun W _ => by go_simp) ?_
      refine wpQuiet_val rfl (.int .i64 ((runL M q (wordOf L n k)).1 : Nat)) (fun W _ => by go_simp) ?_
      refine wpQuiet_val rfl (.string ⟨(runL M q (wordOf L n k)).2.toArray⟩) (fun W _ => by go_simp) ?_
      refine wpQuiet_val rfl (.int .i64 ((runL M q (wordOf L n k)).1 : Nat)) (fun W _ => by go_simp) ?_
      refine wpQuiet_nil ?_
      rintro w3 ⟨hB', hC', hbw'⟩
      have cA := hB'.cell
      have cC := hC'.cell
      have fC := hC'.free
      have hsz : (permC M L q n N k).size = N := permC_size _ _ _ _ _ _ hk
      have hold : (permC M L q n N k)[k]? = some ((permC M L q n N k)[k]'(by omega)) := Array.getElem?_eq_getElem _
      have Hset := Lib.hid (permC_set M L q n N k hlt)
      generalize (permC M L q n N k)[k]'(by omega) = old at hold
      clear hB hC hbw hsz
      have hnum : (numI L (runL M q (wordOf L n k)).2) = permAt M L q n k := rfl
      have Hnum := Lib.hid hnum; clear hnum
      go_wp2_with (go_at_call 65; refine (levelNumber_calls L ⟨(runL M q (wordOf L n k)).2.toArray⟩ hL3 hrs hrl _).mono ?_; rintro e w' ⟨rfl, rfl⟩)
      go_roundw
      case rel => exact ⟨k + 1, by omega, by go_num, hB'.setOther _ _ _ (by have := Hsz2.out; omega), by rw [← Hset.out, ← Hnum.out]; exact hC'.set _ _, hbw'.setCell (by show w.heap.size ≤ g; omega) _⟩
      case measure => simp [intOf] <;> omega
    · obtain rfl : k = N := by omega
      go_wp2
      go_ret2
      have hown : OwnI wr w.heap.size (.slice (some ⟨g, 0, none⟩) k k) (permL M L q n) := by
        unfold OwnI
        rw [permL_len, HN.out]
        refine ⟨by simp [permL_len, HN.out], .inr ⟨g, k, _, rfl, by omega, hC, Nat.le_refl _, by unfold maxLen; omega, by rw [permC_size _ _ _ _ _ _ (Nat.le_refl _)]; omega, ?_⟩⟩
        have := permC_done M L q n
        rw [HN.out] at this
        rw [this]
        rw [List.take_of_length_le (by simp [permL_len, HN.out])]
      exact ⟨_, rfl, hown, hbw⟩
end Go.Proofs.Yticnpajbefflbaa
