/- 'TrivialStates': the model. -/
import Derived.Test.YtgcieocknlhjlabTriS
import Derived.Test.YtgcieocknlhjlabMachD
namespace Go.Proofs.Ytgcieocknlhjlab
open Go.RowKit

theorem ret_li' {v : Value} {m m' : Int} (h' : m = m') : Ending.returned (.tuple #[v, .int .i64 m]) = Ending.returned (.tuple #[v, .int .i64 m']) := by rw [h']

theorem tri_le' {w : World} {base base' : Nat} {v : Value} {zs : List Int} (h : OwnI w base v zs) (hb : base' ≤ base) : OwnI w base' v zs := by
  refine ⟨h.1, ?_⟩
  rcases h.2 with h2 | ⟨g, cap, cur, hv', hg', r⟩
  · exact Or.inl h2
  · exact Or.inr ⟨g, cap, cur, hv', by omega, r⟩
theorem spares_b {w w' : World} {v : Value} {b base : Nat} {c : Array Value} {zs : List Int} (h : Spares w w' v) (hB : Blk w b c 55) (ho : OwnI w base v zs) : Blk w' b c 55 := by
  unfold Blk
  rw [h b hB.lt (fun e => ?_)]
  · exact hB
  · rcases ho.2 with ⟨rfl, _⟩ | ⟨g, c1, cur, rfl, _, hh, _⟩
    · cases e
    · have : b = g := by simpa [Value.ownBlock] using e
      subst this
      unfold Blk at hB
      rw [hh] at hB
      simp at hB

set_option maxRecDepth 100000 in
set_option maxHeartbeats 2000000 in
theorem sTrivialStates_calls (M : Mach) (hok : M.Ok) (w : World) :
    Calls Try.prog 13 #[.agg (mc M)] w fun e w' => ∃ v, e = .returned (.tuple #[v, .int .i64 (minC M)]) ∧ OwnI w' w.heap.size v (triR M) ∧ Below w.heap.size w w' := by
  have hz := zero_b16
  have Hz16 : Hid ((bl nob).size = 16) := Lib.hid (by rw [bl_size]; rfl)
  have hB0 : Blk (w.alloc (.cells (mc M) 28)) w.heap.size (mc M) 28 := Blk.new _ _ _
  have hbw0 : Below w.heap.size w (w.alloc (.cells (mc M) 28)) := by (repeat (first | exact Below.refl _ _ | refine below_drew' ?_ | refine below_drewN' ?_ _ | refine below_alloc' ?_ _ | refine below_set' ?_ (by (try simp); (try omega)) _ | refine below_step ?_ (by assumption)))
  have F1 : Hid (cut (mc M) 0 98 = mc M) := Lib.hid (cut_all _ _ (mc_size hok)); have F2 : Hid (0 + 98 ≤ (mc M).size) := Lib.hid (by rw [mc_size hok]; omega)
  cases hm : isMach M
  · have Hc : Hid (minC M = 1) := Lib.hid (by simp [minC, hm])
    have Hn : Hid (triR M = []) := Lib.hid (by simp [triR, hm])
    go_enter Try.func13, Try.ntmps13
    go_wp2_with (first | (with_reducible show wpList _ _ _ _ _ _; refine wpList_load_blk rfl 28 (.tmp 1) rfl w.heap.size 0 rfl (mc M) _ (hB0) 98 F2.out _ Try.underlying28 rfl size_mach ?_; rw [F1.out]) | (go_at_call 24; refine (l01Is_calls M hok _).mono ?_; rintro e w1 ⟨rfl, hb1⟩; rw [hm]; have hbw1 := below_step hbw0 hb1))
    go_ret2
    exact ⟨_, ret_li' Hc.out.symm, by rw [Hn.out]; exact OwnI.nil _ _, hbw1⟩
  · obtain ⟨L, S, hg⟩ := Good.of hok hm
    have hS16 := hg.S16
    have hS1 := hg.S1
    have hcS := mc_S M
    rw [hg.hS] at hcS
    have Hc : Hid (minC M = 0) := Lib.hid (by simp [minC, hm])
    have Ht : Hid (triR M = triK M L S S) := Lib.hid (by simp [triR, hm, hg.hL, hg.hS])
    have Hg := Lib.hid hg
    clear hg
    go_enter Try.func13, Try.ntmps13
    go_wp2_with (first | (with_reducible show wpList _ _ _ _ _ _; refine wpList_load_blk rfl 28 (.tmp 1) rfl w.heap.size 0 rfl (mc M) _ (by first | exact hB1 | exact hB0) 98 F2.out _ Try.underlying28 rfl size_mach ?_; rw [F1.out]) | (go_at_call 24; refine (l01Is_calls M hok _).mono ?_; rintro e w1 ⟨rfl, hb1⟩; rw [hm]; have hB1 := hB0.keptAll hb1; have hbw1 := below_step hbw0 hb1) | (go_at_call 32; refine (l01Trivial_calls M L S Hg.out _).mono ?_; rintro e w2 ⟨⟨l, rfl, hl, htl⟩, hb2⟩; have hB2 := ((hB1.keptAll hb2).alloc (.cells #[] 2)).alloc (.cells (bl nob) 55); have hlt2 := (hB1.keptAll hb2).lt; have hbw2 := below_alloc' (below_alloc' (below_step hbw1 hb2) (.cells #[] 2)) (.cells (bl nob) 55); have hE2 : Blk ((w2.alloc (.cells #[] 2)).alloc (.cells (bl nob) 55)) w2.heap.size #[] 2 := (Blk.new _ _ _).alloc _; have hX2 : Blk ((w2.alloc (.cells #[] 2)).alloc (.cells (bl nob) 55)) (w2.heap.size + 1) (bl nob) 55 := Blk.new_at _ _ _ _ (by simp); have Hls : Hid ((bl l).size = 16) := Lib.hid (by rw [bl_size, hl]); have Hlo : Hid (over (bl nob) 0 (bl l) = bl l) := Lib.hid (over_all _ _ (by rw [Hls.out, Hz16.out])); have Htl := Lib.hid htl; have Hll := Lib.hid hl; clear htl hl) | (with_reducible show wpList _ _ _ _ _ _; refine wpList_store_row rfl 55 _ _ rfl (w2.heap.size + 1) 0 (bl l) rfl rfl _ _ hX2 (by rw [Hls.out, Hz16.out]; omega) (by rw [Hls.out]; exact size_b16) (bl_one _) _ Hlo.out ?_; intro w3 hs3; have hB3 := hs3.keep (by omega) hB2; have hX3 := hs3.blk; have hE3 := hs3.keep (by omega) hE2; have hbw3 := hs3.below _ _ (by omega) hbw2; clear hs3 hB2 hX2 hE2 hbw2))
    have hO3 : OwnI w3 w2.heap.size (.slice (some ⟨w2.heap.size, 0, none⟩) 0 0) (triK M L S 0) := OwnI.made rfl (by unfold maxLen; omega) (Nat.le_refl _) hE3
    have hge3 := hX3.lt
    clear hE3 hB0 hbw0 hB1 hbw1 hb1 hb2 hz
    generalize w2.heap.size = b0 at *
    go_loopw [5, 6] (fun ov i wr => ∃ (k : Nat) (v0 : Value), k ≤ S ∧ i = .int .i64 k ∧ v0 = ov ∧ (Blk wr w.heap.size (mc M) 28 ∧ Blk wr (b0 + 1) (bl l) 55) ∧ OwnI wr b0 v0 (triK M L S k) ∧ Below w.heap.size w wr) (fun _ i _ => S - (intOf i).toNat)
    case atStart => exact ⟨0, _, by omega, rfl, rfl, ⟨hB3, hX3⟩, hO3, hbw3⟩
    case round =>
      clear hB3 hX3 hO3 hbw3 hge3
      obtain ⟨k, v0, hk, rfl, rfl, ⟨hB, hX⟩, hO, hbw⟩ := hrel
      have cA := hB.cell
      have hXlt := hX.lt
      by_cases hlt : k < S
      · have hki : (k : Int) < 16 := by omega
        have e1 := bl_at l k (by rw [Hll.out]; omega)
        rw [Htl.out k hlt] at e1
        have Hln := Lib.hid (triK_len M L S k)
        have cX := hX.cell
        cases ht : trivB M L S k
        · rw [ht] at e1
          have Hsn := Lib.hid (triK_no (M := M) (L := L) (S := S) ht)
          clear ht
          go_wp2
          go_roundw
          case rel => exact ⟨k + 1, _, by omega, by go_num, rfl, ⟨hB, hX⟩, by rw [Hsn.out]; exact hO, hbw⟩
          case measure => simp [intOf] <;> omega
        · rw [ht] at e1
          have Hsn := Lib.hid (triK_yes (M := M) (L := L) (S := S) ht)
          clear ht
          have hBa := hB.alloc (.cells #[.int .i64 (k : Int)] 2)
          have hXa := hX.alloc (.cells #[.int .i64 (k : Int)] 2)
          have hOa := hO.below (Below.alloc (Below.refl _ _) (Nat.le_refl _) (.cells #[.int .i64 (k : Int)] 2))
          have hbwa := below_alloc' hbw (.cells #[.int .i64 (k : Int)] 2)
          go_wp2_with (at_builtin; refine wpList_push_int_x rfl (.tmp 22) (.tmp 24) rfl b0 _ (triK M L S k) rfl hOa wr.heap.size 1 (k : Int) rfl (Blk.new wr _ _) (by have := Hln.out; omega) (by simp; omega) ?_; intro v1 w7 hO1 hb7 hsp)
          go_roundw
          case rel => exact ⟨k + 1, _, by omega, by go_num, rfl, ⟨hBa.kept hb7 (by omega), spares_b hsp hXa hOa⟩, by rw [Hsn.out]; exact hO1, hbwa.trans (below_le hb7 (by omega))⟩
          case measure => simp [intOf] <;> omega
      · have hSk : S = k := by omega
        subst hSk
        go_wp2
        go_ret2
        exact ⟨_, ret_li' Hc.out.symm, by rw [Ht.out]; exact tri_le' hO (by omega), hbw⟩
end Go.Proofs.Ytgcieocknlhjlab
