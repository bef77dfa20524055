/- 'l01Level', and both 'LevelPermutation's for every input. -/
import Derived.Test.YticnpajbefflbaaLev
import Derived.Test.YticnpajbefflbaaInts
namespace Go.Proofs.Yticnpajbefflbaa
open Go.RowKit

/-- The first k numbers. -/
def permK (M : Mach) (L q n k : Nat) : List Int := (List.range k).map (permAt M L q n)
theorem permK_len (M : Mach) (L q n k : Nat) : (permK M L q n k).length = k := by simp [permK]
theorem permK_snoc (M : Mach) (L q n k : Nat) : permK M L q n (k + 1) = permK M L q n k ++ [permAt M L q n k] := by simp [permK, List.range_succ]

set_option maxRecDepth 100000 in
set_option maxHeartbeats 1000000 in
theorem l01Level_calls (M : Mach) (L S : Nat) (hg : Good M L S) (q n : Nat) (hq : q < S) (hn : n ≤ 5) (w : World) :
    Calls Try.prog 50 #[.agg (mc M), .int .i64 q, .int .i64 n] w fun e w' => ∃ v, e = .returned v ∧ OwnI w' w.heap.size v (permL M L q n) ∧ Below w.heap.size w w' := by
  have hok := hg.ok
  have hL23 := hg.L23
  have hL3 := hg.L3
  have hcL := mc_L M
  rw [hg.hL] at hcL
  have hp := pw_bd L n hL3 hn
  have hpw : pw L n = ((L ^ n : Nat) : Int) := rfl
  obtain ⟨N, hN⟩ : ∃ N : Nat, L ^ n = N := ⟨_, rfl⟩
  rw [hN] at hpw
  have hN1 : N ≤ 243 := by omega
  have HN := Lib.hid hN
  clear hN
  have F1 : Hid (cut (mc M) 0 98 = mc M) := Lib.hid (cut_all _ _ (mc_size hok))
  have F2 : Hid (0 + 98 ≤ (mc M).size) := Lib.hid (by rw [mc_size hok]; omega)
  have hB1 : Blk ((w.alloc (.cells (mc M) 29)).alloc (.cells #[] 2)) w.heap.size (mc M) 29 := (Blk.new w _ _).alloc _
  have hO : OwnI ((w.alloc (.cells (mc M) 29)).alloc (.cells #[] 2)) (w.heap.size + 1) (.slice (some ⟨w.heap.size + 1, 0, none⟩) 0 0) [] := by
    have := OwnI.empty (w.alloc (.cells (mc M) 29)) (w.heap.size + 1) 0 #[] (by simp) (by simp) rfl
    simpa using this
  have hbw : Below w.heap.size w ((w.alloc (.cells (mc M) 29)).alloc (.cells #[] 2)) := by (repeat (first | exact Below.refl _ _ | refine below_drew' ?_ | refine below_drewN' ?_ _ | refine below_alloc' ?_ _ | refine below_set' ?_ (by (try simp); (try omega)) _ | refine below_step ?_ (by assumption)))
  go_enter Try.func50, Try.ntmps50
  go_wp2
  go_loopw [7, 8] (fun v i wr => ∃ (k : Nat) (v0 : Value), k ≤ N ∧ i = .int .i64 k ∧ v0 = v ∧ Blk wr w.heap.size (mc M) 29 ∧
      OwnI wr (w.heap.size + 1) v0 (permK M L q n k) ∧ Below w.heap.size w wr) (fun _ i _ => N - (intOf i).toNat)
  case atStart => exact ⟨0, _, by omega, rfl, rfl, hB1, hO, hbw⟩
  case round =>
    clear hB1 hO hbw
    obtain ⟨k, v0, hk, rfl, rfl, hB, hO, hbw⟩ := hrel
    have cA := hB.cell
    by_cases hlt : k < N
    · have hWl := lettersL_wordOf L hL23 n k
      have hWs : (⟨(wordOf L n k).toArray⟩ : ByteArray).size ≤ 40 := by show (wordOf L n k).toArray.size ≤ 40; simp [length_wordOf]; omega
      have hrl := hg.letters_all q hq _ hWl
      have hrs : (runL M q (wordOf L n k)).2.length ≤ 5 := by rw [runL_len, length_wordOf]; exact hn
      have hkp : (k : Int) < pw L n := by rw [hpw]; omega
      go_wp2_with (go_at_call 55; refine (l01Power_calls L n hL3 hn _).mono ?_; rintro e w' ⟨rfl, rfl⟩)
      refine wp_region_quiet (C := fun W => Blk W w.heap.size (mc M) 29 ∧ OwnI W (w.heap.size + 1) v0 (permK M L q n k) ∧ Below w.heap.size w W) (by kernel_rfl) (by kernel_rfl) ⟨hB.drew, hO.below (by (repeat (first | exact Below.refl _ _ | refine below_drew' ?_ | refine below_drewN' ?_ _ | refine below_alloc' ?_ _ | refine below_set' ?_ (by (try simp); (try omega)) _ | refine below_step ?_ (by assumption)))), hbw.drew⟩ ?_
      refine wpQuiet_load_blk rfl 29 _ rfl w.heap.size 0 rfl (mc M) _ (fun W hW => hW.1) 98 F2.out _ Try.underlying29 rfl size_mach ?_
      rw [F1.out]
      refine wpQuiet_val rfl (.int .i64 q) (fun W _ => by go_simp) ?_
      refine wpQuiet_val rfl (.pointer (some ⟨w.heap.size, 0, none⟩)) (fun W _ => by go_simp) ?_
      refine wpQuiet_val rfl (.int .i64 L) (fun W hW => by have c0 := hW.1.cell 0; rw [hcL] at c0; clear hW; go_simp) ?_
      refine wpQuiet_val rfl (.int .i64 n) (fun W _ => by go_simp) ?_
      refine wpQuiet_val rfl (.int .i64 k) (fun W _ => by go_simp) ?_
      refine wpQuiet_call rfl 38 _ _ rfl #[.int .i64 L, .int .i64 n, .int .i64 k] (.string ⟨(wordOf L n k).toArray⟩) (fun W => by go_simp) (fun W hW => (l01WordOf_calls L hL23 n n k W hn (by omega) (by omega) (by omega) (by omega)).mono fun e w'' h => ⟨by rw [h.1]; rfl, hW.1.keptAll h.2, hW.2.1.below h.2, below_step hW.2.2 h.2⟩) ?_
      refine wpQuiet_call rfl 76 _ _ rfl #[.agg (mc M), .int .i64 q, .string ⟨(wordOf L n k).toArray⟩] (.tuple #[.string ⟨(runL M q (wordOf L n k)).2.toArray⟩, .int .i64 ((runL M q (wordOf L n k)).1 : Nat)]) (fun W => by go_simp) (fun W hW => (l01Act_calls M L S hg q hq ⟨(wordOf L n k).toArray⟩ hWs hWl W).mono fun e w'' h => ⟨h.1, hW.1.keptAll h.2, hW.2.1.below h.2, below_step hW.2.2 h.2⟩) ?_
      refine wpQuiet_val rfl (.tuple #[.string ⟨(runL M q (wordOf L n k)).2.toArray⟩, .int .i64 ((runL M q (wordOf L n k)).1 : Nat)]) (fun W _ => by go_simp) ?_
      refine wpQuiet_val rfl (.string ⟨(runL M q (wordOf L n k)).2.toArray⟩) (fun W _ => by go_simp) ?_
      refine wpQuiet_val rfl (.int .i64 ((runL M q (wordOf L n k)).1 : Nat)) (fun W _ => by go_simp) ?_
      refine wpQuiet_val rfl (.string ⟨(runL M q (wordOf L n k)).2.toArray⟩) (fun W _ => by go_simp) ?_
      refine wpQuiet_val rfl (.int .i64 ((runL M q (wordOf L n k)).1 : Nat)) (fun W _ => by go_simp) ?_
      refine wpQuiet_nil ?_
      rintro w3 ⟨hB', hO', hbw'⟩
      have cA' := hB'.cell
      have hsz0 := hbw'.size
      have hlt1 := hB'.lt
      have hnum : (numI L (runL M q (wordOf L n k)).2) = permAt M L q n k := rfl
      have Hnum := Lib.hid hnum; clear hnum
      clear hB hO hbw cA
      go_wp2_with (first | (go_at_call 59; refine (l01NumberOf_calls L ⟨(runL M q (wordOf L n k)).2.toArray⟩ hL3 hrs hrl _).mono ?_; rintro e w' ⟨rfl, rfl⟩) | (at_builtin; refine wpList_push_int rfl (.tmp 31) (.tmp 36) rfl (w.heap.size + 1) _ (permK M L q n k) rfl (hO'.below (Below.alloc (Below.refl _ _) (Nat.le_refl _) (.cells #[.int .i64 (numI L (runL M q (wordOf L n k)).2)] 2))) w3.heap.size 1 (numI L (runL M q (wordOf L n k)).2) rfl (Blk.new w3 _ _) (by rw [permK_len]; omega) (by simp; omega) ?_; intro v1 w4 hO1 hb1; have hB11 := (hB'.alloc (.cells #[.int .i64 (numI L (runL M q (wordOf L n k)).2)] 2)).kept hb1 (by omega)))
      go_roundw
      case rel => exact ⟨k + 1, _, by omega, by go_num, rfl, hB11, by rw [permK_snoc, ← Hnum.out]; exact hO1, (hbw'.alloc hbw'.size _).trans (below_le hb1 (by omega))⟩
      case measure => simp [intOf] <;> omega
    · obtain rfl : k = N := by omega
      have hkp : ¬ (k : Int) < pw L n := by rw [hpw]; omega
      go_wp2_with (go_at_call 55; refine (l01Power_calls L n hL3 hn _).mono ?_; rintro e w' ⟨rfl, rfl⟩)
      go_ret
      refine ⟨_, rfl, ?_, hbw⟩
      have he : permL M L q n = permK M L q n k := by unfold permL permK; rw [HN.out]
      rw [he]
      refine ⟨hO.1, ?_⟩
      rcases hO.2 with h2 | ⟨g, cap, cur, hv', hg', r⟩
      · exact Or.inl h2
      · exact Or.inr ⟨g, cap, cur, hv', by omega, r⟩
end Go.Proofs.Yticnpajbefflbaa
