/- 'OrbitOfWord', model. -/
import Derived.Test.YtbmcbldciioibaaOrb
namespace Go.Proofs.Ytbmcbldciioibaa
open Go.RowKit

set_option maxRecDepth 100000 in
set_option maxHeartbeats 2000000 in
theorem sOrbit_good (M : Mach) (L S : Nat) (hg : Good M L S) (q : Nat) (hq : q < S) (s : ByteArray) (hs5 : s.size ≤ 5) (hl : lettersL L s.data.toList = true) (hwc : walkCode M q s = 0) (w : World) :
    Calls Try.prog 32 #[.agg (mc M), .int .i64 q, .string s] w fun e w' => ∃ v, e = .returned (.tuple #[v, .int .i64 0]) ∧ OwnS w' w.heap.size v (orbK M q s.data.toList (orbN M q s.data.toList)) ∧ Below w.heap.size w w' := by
  have hok := hg.ok
  have hsl : s.data.toList.length ≤ 5 := by rw [← size_list s]; exact hs5
  obtain ⟨n1, n2, n3, n4⟩ := hg.orb q hq s.data.toList hl hsl
  obtain ⟨N, hN⟩ : ∃ N, orbN M q s.data.toList = N := ⟨_, rfl⟩
  rw [hN] at n1 n2 n3 n4 ⊢
  clear hN
  have N3 := Lib.hid n3; have N4 := Lib.hid n4; clear n3 n4
  have hs5' : ¬ ((5 : Int) < s.size) := by omega
  have F1 : Hid (cut (mc M) 0 98 = mc M) := Lib.hid (cut_all _ _ (mc_size hok)); have F2 : Hid (0 + 98 ≤ (mc M).size) := Lib.hid (by rw [mc_size hok]; omega)
  have hB : Blk (w.alloc (.cells (mc M) 27)) w.heap.size (mc M) 27 := Blk.new w _ _
  go_enter Try.func32, Try.ntmps32
  go_wp2_with (first | (with_reducible show wpList _ _ _ _ _ _; refine wpList_load_blk rfl 27 (.tmp 3) rfl w.heap.size 0 rfl (mc M) _ (hB) 98 F2.out _ Try.underlying27 rfl size_mach ?_; rw [F1.out]) | (go_at_call 66; refine (l01Code_calls M hok q s (by omega) _).mono ?_; rintro e w1 ⟨rfl, hb1⟩; rw [hwc]; have hB1 := hB.keptAll hb1))
  have hB2 : Blk (w1.alloc (.cells #[] 9)) w.heap.size (mc M) 27 := hB1.alloc _
  have hlt1 := hB1.lt
  have hO : OwnS (w1.alloc (.cells #[] 9)) (w.heap.size + 1) (.slice (some ⟨w1.heap.size, 0, none⟩) 0 0) (orbK M q s.data.toList 0) := OwnS.empty w1 (w.heap.size + 1) 0 #[] (by omega) (by simp) rfl
  have hbw : Below w.heap.size w (w1.alloc (.cells #[] 9)) := by (repeat (first | exact Below.refl _ _ | refine below_drew' ?_ | refine below_drewN' ?_ _ | refine below_alloc' ?_ _ | refine below_set' ?_ (by (try simp); (try omega)) _ | refine below_step ?_ (by assumption)))
  clear hB hB1
  go_loopw [9, 10] (fun v nv wr => ∃ (k : Nat) (oa : Option Addr) (ca : Nat) (b : ByteArray), v = .slice oa k ca ∧ nv = .string b ∧ b.data.toList = itL M q s.data.toList k ∧ k ≤ N ∧ Blk wr w.heap.size (mc M) 27 ∧
      OwnS wr (w.heap.size + 1) (.slice oa k ca) (orbK M q s.data.toList k) ∧ Below w.heap.size w wr) (fun v _ _ => N - lenOf v)
  case atStart => exact ⟨0, _, _, s, rfl, rfl, rfl, by omega, hB2, hO, hbw⟩
  case round =>
    clear hB2 hO hbw hb1 hlt1
    obtain ⟨k, oa, ca, b, rfl, rfl, hb, hk, hB, hO, hbw⟩ := hrel
    have hbl : lettersL L b.data.toList = true := by rw [hb]; exact hg.itL_letters q hq s.data.toList hl k
    have hbs : b.size ≤ 40 := by rw [size_list b, hb, itL_len]; omega
    have Hnx : Hid ((runL M q b.data.toList).2 = itL M q s.data.toList (k + 1)) := Lib.hid (by rw [hb]; rfl)
    have hbe : b = ⟨(itL M q s.data.toList k).toArray⟩ := by rw [← hb]
    have hlt1 := hB.lt
    have hsz0 := hbw.size
    by_cases hlast : k = N
    · have htest : (b.toList == s.toList) = true := by rw [str_beq, decide_eq_true_eq, hbe, hlast, N3.out]
      have hk0 : ((k : Int) == 0) = false := by simp; omega
      have HL := Lib.hid hlast
      clear hlast hbe hb
      go_wp2
      go_ret2
      refine ⟨_, rfl, ?_, hbw⟩
      rw [← HL.out]
      refine ⟨hO.1, ?_⟩
      rcases hO.2 with h2 | ⟨g', cap, cur, hv', hg', r⟩
      · exact Or.inl h2
      · exact Or.inr ⟨g', cap, cur, hv', by omega, r⟩
    · by_cases hz : k = 0
      · subst hz
        have Hsn := Lib.hid (orbK_snoc M q s.data.toList 0)
        rw [← hbe] at Hsn
        clear hbe hb
        go_wp2_with (first | (at_builtin; refine wpList_push_str rfl (.tmp 33) (.tmp 35) rfl (w.heap.size + 1) _ (orbK M q s.data.toList 0) rfl (hO.below (Below.alloc (Below.refl _ _) (Nat.le_refl _) (.cells #[.string b] 9))) wr.heap.size 1 b rfl (Blk.new wr _ _) (by rw [orbK_len]; omega) (by simp; omega) ?_; intro v1 w4 hO1 hb1; have hB11 := (hB.alloc (.cells #[.string b] 9)).kept hb1 (by omega)) | (with_reducible show wpList _ _ _ _ _ _; refine wpList_load_blk rfl 27 (.tmp 3) rfl w.heap.size 0 rfl (mc M) _ (hB11) 98 F2.out _ Try.underlying27 rfl size_mach ?_; rw [F1.out]) | (go_at_call 67; refine (l01Act_calls M L S hg q hq b hbs hbl _).mono ?_; rintro e w5 ⟨rfl, hb5⟩))
        obtain ⟨oa1, ca1, rfl, -⟩ := hO1.view
        rw [← Hsn.out, orbK_len] at hO1
        go_roundw
        case rel => exact ⟨0 + 1, oa1, ca1, _, by rw [← Hsn.out, orbK_len], rfl, by rw [← Hnx.out], by omega, hB11.keptAll hb5, hO1.below hb5, below_step ((hbw.alloc hbw.size _).trans (below_le hb1 (by omega))) hb5⟩
        case measure => simp [lenOf, orbK_len] <;> omega
      · have htest : (b.toList == s.toList) = false := by
          rw [str_beq, decide_eq_false_iff_not]; intro e; exact N4.out k (by omega) (by omega) (by rw [← hb, e])
        have hk0 : ((k : Int) == 0) = false := by simp; omega
        have Hsn := Lib.hid (orbK_snoc M q s.data.toList k)
        rw [← hbe] at Hsn
        clear hbe hb
        go_wp2_with (first | (at_builtin; refine wpList_push_str rfl (.tmp 33) (.tmp 35) rfl (w.heap.size + 1) _ (orbK M q s.data.toList k) rfl (hO.below (Below.alloc (Below.refl _ _) (Nat.le_refl _) (.cells #[.string b] 9))) wr.heap.size 1 b rfl (Blk.new wr _ _) (by rw [orbK_len]; omega) (by simp; omega) ?_; intro v1 w4 hO1 hb1; have hB11 := (hB.alloc (.cells #[.string b] 9)).kept hb1 (by omega)) | (with_reducible show wpList _ _ _ _ _ _; refine wpList_load_blk rfl 27 (.tmp 3) rfl w.heap.size 0 rfl (mc M) _ (hB11) 98 F2.out _ Try.underlying27 rfl size_mach ?_; rw [F1.out]) | (go_at_call 67; refine (l01Act_calls M L S hg q hq b hbs hbl _).mono ?_; rintro e w5 ⟨rfl, hb5⟩))
        obtain ⟨oa1, ca1, rfl, -⟩ := hO1.view
        rw [← Hsn.out, orbK_len] at hO1
        go_roundw
        case rel => exact ⟨k + 1, oa1, ca1, _, by rw [← Hsn.out, orbK_len], rfl, by rw [← Hnx.out], by omega, hB11.keptAll hb5, hO1.below hb5, below_step ((hbw.alloc hbw.size _).trans (below_le hb1 (by omega))) hb5⟩
        case measure => simp [lenOf, orbK_len] <;> omega
end Go.Proofs.Ytbmcbldciioibaa
