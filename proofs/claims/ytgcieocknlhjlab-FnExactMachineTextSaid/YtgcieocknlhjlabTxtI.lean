/- 'MachineText': the program. -/
import Derived.Test.YtgcieocknlhjlabTxtG
import Derived.Test.YtgcieocknlhjlabStoreK
namespace Go.Proofs.Ytgcieocknlhjlab
open Go.RowKit

theorem ret_ti {a b : ByteArray} {i j : Int} (h : a = b) (h' : i = j) : Ending.returned (.tuple #[.string a, .int .i64 i]) = .returned (.tuple #[.string b, .int .i64 j]) := by rw [h, h']
theorem ownB_two {w : World} {base g : Nat} {a b : UInt8} (hg : base ≤ g) (hB : Blk w g #[.int .u8 (a.toNat : Int), .int .u8 (b.toNat : Int)] 5) : OwnB w base (.slice (some ⟨g, 0, none⟩) 2 2) [a, b] :=
  ⟨by simp, .inr ⟨g, 2, _, rfl, hg, hB, by simp, by unfold maxLen; omega, by simp, by simp⟩⟩
theorem u8w (x : Int) (h0 : 0 ≤ x) (h1 : x < 256) : IntKind.u8.wrap x = x := by
  simp [IntKind.wrap, IntKind.bits, IntKind.signed]
  omega
section
variable {o : Oper} {a : Act} {w : World} {Q : Exit → Act → World → Prop}
/-- 'out = append(out, b, d)'. -/
theorem wp_push_two {K : Act → World → Prop} (s x : Operand) (ho : o.op = .call { callee := .builtin .append, args := #[s, x], argTypes := #[48, 48] })
    (base : Nat) (v : Value) (bs : List UInt8) (hs : a.eval s = v) (hown : OwnB w base v bs) (g c : Nat) (b d : UInt8) (hx : a.eval x = .slice (some ⟨g, 0, none⟩) 2 c) (hB : Blk w g #[.int .u8 (b.toNat : Int), .int .u8 (d.toNat : Int)] 5)
    (hn : bs.length + 2 ≤ 1048576) (hbase : base ≤ w.heap.size)
    (h : ∀ v' w', OwnB w' base v' (bs ++ [b, d]) → Below base w w' → K (a.put o.dst v') w') : o.wp Try.prog a w K Q := by
  obtain ⟨i0, hi, hz0, hz1, hz2⟩ := info_parts info5
  refine wp_append_own _ s x 48 ho base 5 i0 (.int .u8 0) 1 1 Try.underlying48 hi hz0 hz1 hz2 rfl (by decide) v bs.length _ hs hown ⟨g, 0, none⟩ 2 c [.int .u8 (b.toNat : Int), .int .u8 (d.toNat : Int)] hx rfl
    (fun j u hu => ?_) (fun u hu => ?_) (by unfold maxLen; omega) (by omega) hbase (fun v' w' hown' hg _ => h v' w' ?_ (below_grown hown hg hbase))
  · match j, hu with
    | 0, hu => simp at hu; subst hu; simpa [Addr.add] using hB.cell 0
    | 1, hu => simp at hu; subst hu; simpa [Addr.add] using hB.cell 1
  · simp at hu; rcases hu with rfl | rfl <;> rfl
  · unfold OwnB; simpa using hown'
end

set_option maxRecDepth 100000 in
set_option maxHeartbeats 2000000 in
theorem iMachineText_calls (M : Mach) (hok : M.Ok) (w : World) :
    Calls Try.prog 10 #[.agg (mc M)] w fun e w' => e = .returned (.tuple #[.string (textR M), .int .i64 (textC M)]) ∧ Below w.heap.size w w' := by
  have hB0 : Blk (w.alloc (.cells (mc M) 28)) w.heap.size (mc M) 28 := Blk.new _ _ _
  have hbw0 : Below w.heap.size w (w.alloc (.cells (mc M) 28)) := by (repeat (first | exact Below.refl _ _ | refine below_drew' ?_ | refine below_drewN' ?_ _ | refine below_alloc' ?_ _ | refine below_set' ?_ (by (try simp); (try omega)) _ | refine below_step ?_ (by assumption)))
  have F1 : Hid (cut (mc M) 0 98 = mc M) := Lib.hid (cut_all _ _ (mc_size hok)); have F2 : Hid (0 + 98 ≤ (mc M).size) := Lib.hid (by rw [mc_size hok]; omega)
  cases hm : isMach M
  · have Hc : Hid (textC M = 1) := Lib.hid (by simp [textC, hm])
    have Hn : Hid (textR M = ByteArray.empty) := Lib.hid (by simp [textR, hm])
    go_enter Try.func10, Try.ntmps10
    go_wp2_with (first | (with_reducible show wpList _ _ _ _ _ _; refine wpList_load_blk rfl 28 (.tmp 1) rfl w.heap.size 0 rfl (mc M) _ (hB0) 98 F2.out _ Try.underlying28 rfl size_mach ?_; rw [F1.out]) | (go_at_call 27; refine (IsMachine_calls M hok _).mono ?_; rintro e w1 ⟨rfl, hb1⟩; rw [hm]; have hbw1 := below_step hbw0 hb1))
    go_ret2
    exact ⟨ret_ti Hn.out.symm Hc.out.symm, hbw1⟩
  · obtain ⟨L, S, hg⟩ := Good.of hok hm
    have hS16 := hg.S16
    have hS1 := hg.S1
    have hL3 := hg.L3
    have hcL := mc_L M
    have hcS := mc_S M
    rw [hg.hL] at hcL
    rw [hg.hS] at hcS
    have Hc : Hid (textC M = 0) := Lib.hid (by simp [textC, hm])
    have Ht : Hid (textR M = ⟨(txtT M L S).toArray⟩) := Lib.hid (by simp [textR, hm, hg.hL, hg.hS])
    have Hg := Lib.hid hg
    clear hg
    have hLi : (L : Int) ≤ 3 := by omega
    go_enter Try.func10, Try.ntmps10
    go_wp2_with (first | (with_reducible show wpList _ _ _ _ _ _; refine wpList_load_blk rfl 28 (.tmp 1) rfl w.heap.size 0 rfl (mc M) _ (hB0) 98 F2.out _ Try.underlying28 rfl size_mach ?_; rw [F1.out]) | (go_at_call 27; refine (IsMachine_calls M hok _).mono ?_; rintro e w1 ⟨rfl, hb1⟩; rw [hm]; have hB1 := hB0.keptAll hb1; have hbw1 := below_step hbw0 hb1; have hB2 := hB1.alloc (.cells #[.int .u8 (48 + (L : Int)), .int .u8 58] 5); have hbw2 := below_alloc' hbw1 (.cells #[.int .u8 (48 + (L : Int)), .int .u8 58] 5); have cA := hB1.cell; have cA2 := hB2.cell; have hlt1 := hB1.lt))
    have hE : Blk (w1.alloc (.cells #[.int .u8 (48 + (L : Int)), .int .u8 58] 5)) w1.heap.size #[.int .u8 ((dig L).toNat : Int), .int .u8 ((58 : UInt8).toNat : Int)] 5 := by rw [dig_toNat L (by omega) (by omega)]; exact Blk.new _ _ _
    have hO2 : OwnB (w1.alloc (.cells #[.int .u8 (48 + (L : Int)), .int .u8 58] 5)) w1.heap.size (.slice (some ⟨w1.heap.size, 0, none⟩) 2 2) ([dig L, 58] ++ allT M L 0) := ownB_two (Nat.le_refl _) hE
    have hge2 : w1.heap.size ≤ (w1.alloc (.cells #[.int .u8 (48 + (L : Int)), .int .u8 58] 5)).heap.size := by simp
    clear hE hB0 hbw0 hB1 hbw1 hb1 cA cA2
    generalize w1.alloc (.cells #[.int .u8 (48 + (L : Int)), .int .u8 58] 5) = w2 at *
    generalize w1.heap.size = b0 at *
    go_loopw [4, 17] (fun ov i wr => ∃ q : Nat, q ≤ S ∧ i = .int .i64 q ∧ Blk wr w.heap.size (mc M) 28 ∧ OwnB wr b0 ov ([dig L, 58] ++ allT M L q) ∧ b0 ≤ wr.heap.size ∧ Below w.heap.size w wr) (fun _ i _ => S - (intOf i).toNat)
    case atStart => exact ⟨0, by omega, rfl, hB2, hO2, hge2, hbw2⟩
    case round =>
      clear hB2 hO2 hge2 hbw2
      obtain ⟨q, hq, rfl, hB, hO, hge, hbw⟩ := hrel
      have cA := hB.cell
      have hltB := hB.lt
      by_cases hql : q < S
      · have hqS : (q : Int) < S := by omega
        have hq16 : q < 16 := by omega
        have hqi : (q : Int) < 16 := by omega
        by_cases hz : q = 0
        · have hqp : ¬ ((0 : Int) < q) := by omega
          have HALL : Hid (allT M L (q + 1) = allT M L q ++ rowT M q L) := Lib.hid (by rw [allT, if_pos hz]; simp)
          have hO0 : OwnB wr b0 u4 (([dig L, 58] ++ allT M L q) ++ rowT M q 0) := by simpa [rowT] using hO
          clear hz
          go_wp2
          go_loopw [4, 27] (fun ov i wr => ∃ (k : Nat) (v0 : Value), k ≤ L ∧ i = .int .i64 k ∧ v0 = ov ∧ Blk wr w.heap.size (mc M) 28 ∧ OwnB wr b0 v0 (([dig L, 58] ++ allT M L q) ++ rowT M q k) ∧ b0 ≤ wr.heap.size ∧ Below w.heap.size w wr) (fun _ i _ => L - (intOf i).toNat)
          case atStart => exact ⟨0, _, by omega, rfl, rfl, hB, hO0, hge, hbw⟩
          case round =>
            clear hB hO hO0 hge hbw cA hltB
            obtain ⟨k, v0, hk, rfl, rfl, hB, hO, hge, hbw⟩ := hrel
            have cA := hB.cell
            by_cases hlk : k < L
            · have hki : (k : Int) < 3 := by omega
              have hkL : (k : Int) < L := by omega
              have ho := mc_o hok q k hq16 (by omega)
              have hn := mc_n hok q k hq16 (by omega)
              obtain ⟨o0, o1⟩ := Hg.out.o_lt q k hql hlk
              obtain ⟨n0, n1⟩ := Hg.out.n_lt q k hql hlk
              have Hd := Lib.hid (dig_toNat (M.o q k) o0 (by omega))
              have Ha := Lib.hid (alp_toNat (M.n q k) n0 (by omega))
              have Hrow : Hid (rowT M q (k + 1) = rowT M q k ++ [dig (M.o q k), alp (M.n q k)]) := Lib.hid rfl
              have Hlen : Hid ((([dig L, 58] ++ allT M L q) ++ rowT M q k).length + 2 ≤ 1048576) := Lib.hid (by have h1 := allT_len M L hL3 q; have h2 := rowT_len M q k; simp; omega)
              have hBd := hB.drew; have hOd := hO.below ((Below.refl wr.heap.size wr).drew); have hbd := below_drew' hbw
              have hged : b0 ≤ wr.drew.heap.size := hge
              go_wp2_with fail
              clear cA hB hO hbw hge
              generalize M.o q k = ov at *
              generalize M.n q k = nv at *
              have hw1 := u8w (48 + ov) (by omega) (by omega)
              have hw2 := u8w (97 + nv) (by omega) (by omega)
              refine wp_region_held_drew (S := fun W => Blk W w.heap.size (mc M) 28) (by kernel_rfl) hBd (fun hS0 => ?_)
              generalize wr.drew = wd at *
              have hltd := hBd.lt
              (refine hK_take 0 (v0) rfl (by kernel_rfl) (by kernel_rfl) (by kernel_rfl) (fun _ _ _ h => h) rfl (fun W _ => by go_simp) hS0 ?_; (intro K hK; go_simp; refine hK _ ?_; clear hK K))
              (refine hK_take 1 (.int .i64 (q : Int)) rfl (by kernel_rfl) (by kernel_rfl) (by kernel_rfl) (fun _ _ _ h => h) rfl (fun W _ => by go_simp) hS0 ?_; (intro K hK; go_simp; refine hK _ ?_; clear hK K))
              (refine hK_take 2 (.int .i64 (k : Int)) rfl (by kernel_rfl) (by kernel_rfl) (by kernel_rfl) (fun _ _ _ h => h) rfl (fun W _ => by go_simp) hS0 ?_; (intro K hK; go_simp; refine hK _ ?_; clear hK K))
              (refine hK_take 3 (.pointer (some ⟨w.heap.size, 50, none⟩)) rfl (by kernel_rfl) (by kernel_rfl) (by kernel_rfl) (fun _ _ _ h => h) rfl (fun W _ => by go_simp) hS0 ?_; (intro K hK; go_simp; refine hK _ ?_; clear hK K))
              (refine hK_take 4 (.pointer (some ⟨w.heap.size, 50 + q * 3, none⟩)) rfl (by kernel_rfl) (by kernel_rfl) (by kernel_rfl) (fun _ _ _ h => h) rfl (fun W _ => by go_simp) hS0 ?_; (intro K hK; go_simp; refine hK _ ?_; clear hK K))
              (refine hK_take 5 (.pointer (some ⟨w.heap.size, 50 + q * 3 + k, none⟩)) rfl (by kernel_rfl) (by kernel_rfl) (by kernel_rfl) (fun _ _ _ h => h) rfl (fun W _ => by go_simp) hS0 ?_; (intro K hK; go_simp; refine hK _ ?_; clear hK K))
              (refine hK_take 6 (.int .u8 ov) rfl (by kernel_rfl) (by kernel_rfl) (by kernel_rfl) (fun _ _ _ h => h) rfl (fun W hW => by have cC := hW.cell; clear hW; go_simp) hS0 ?_; (intro K hK; go_simp; refine hK _ ?_; clear hK K))
              (refine hK_take 7 (.int .u8 (48 + ov)) rfl (by kernel_rfl) (by kernel_rfl) (by kernel_rfl) (fun _ _ _ h => h) rfl (fun W _ => by go_simp) hS0 ?_; (intro K hK; go_simp; refine hK _ ?_; clear hK K))
              (refine hK_take 8 (.int .i64 (q : Int)) rfl (by kernel_rfl) (by kernel_rfl) (by kernel_rfl) (fun _ _ _ h => h) rfl (fun W _ => by go_simp) hS0 ?_; (intro K hK; go_simp; refine hK _ ?_; clear hK K))
              (refine hK_take 9 (.int .i64 (k : Int)) rfl (by kernel_rfl) (by kernel_rfl) (by kernel_rfl) (fun _ _ _ h => h) rfl (fun W _ => by go_simp) hS0 ?_; (intro K hK; go_simp; refine hK _ ?_; clear hK K))
              (refine hK_take 10 (.pointer (some ⟨w.heap.size, 2, none⟩)) rfl (by kernel_rfl) (by kernel_rfl) (by kernel_rfl) (fun _ _ _ h => h) rfl (fun W _ => by go_simp) hS0 ?_; (intro K hK; go_simp; refine hK _ ?_; clear hK K))
              (refine hK_take 11 (.pointer (some ⟨w.heap.size, 2 + q * 3, none⟩)) rfl (by kernel_rfl) (by kernel_rfl) (by kernel_rfl) (fun _ _ _ h => h) rfl (fun W _ => by go_simp) hS0 ?_; (intro K hK; go_simp; refine hK _ ?_; clear hK K))
              (refine hK_take 12 (.pointer (some ⟨w.heap.size, 2 + q * 3 + k, none⟩)) rfl (by kernel_rfl) (by kernel_rfl) (by kernel_rfl) (fun _ _ _ h => h) rfl (fun W _ => by go_simp) hS0 ?_; (intro K hK; go_simp; refine hK _ ?_; clear hK K))
              (refine hK_take 13 (.int .u8 nv) rfl (by kernel_rfl) (by kernel_rfl) (by kernel_rfl) (fun _ _ _ h => h) rfl (fun W hW => by have cC := hW.cell; clear hW; go_simp) hS0 ?_; (intro K hK; go_simp; refine hK _ ?_; clear hK K))
              (refine hK_take 14 (.int .u8 (97 + nv)) rfl (by kernel_rfl) (by kernel_rfl) (by kernel_rfl) (fun _ _ _ h => h) rfl (fun W _ => by go_simp) hS0 ?_; (intro K hK; go_simp; refine hK _ ?_; clear hK K))
              refine wpAnyH_ready (rs := [15]) (by kernel_rfl) (by simp) ?_
              refine AllReadyH.cons rfl (fun K hK => ?_) AllReadyH.nil
              go_simp
              have hB8 := hBd.alloc (.cells #[.int .u8 (48 + ov), .int .u8 (97 + nv)] 5)
              have hO8 := hOd.below (Below.alloc (Below.refl _ _) (Nat.le_refl _) (.cells #[.int .u8 (48 + ov), .int .u8 (97 + nv)] 5))
              have hb8 := below_alloc' hbd (.cells #[.int .u8 (48 + ov), .int .u8 (97 + nv)] 5)
              have hE8 : Blk (wd.alloc (.cells #[.int .u8 (48 + ov), .int .u8 (97 + nv)] 5)) wd.heap.size #[.int .u8 ((dig ov).toNat : Int), .int .u8 ((alp nv).toNat : Int)] 5 := by rw [Hd.out, Ha.out]; exact Blk.new _ _ _
              have hge8 : b0 ≤ (wd.alloc (.cells #[.int .u8 (48 + ov), .int .u8 (97 + nv)] 5)).heap.size := by simp; omega
              refine hK.out _ _ hB8 (fun hS1 => ?_)
              clear hK K hBd hOd hbd hS0
              generalize wd.alloc (.cells #[.int .u8 (48 + ov), .int .u8 (97 + nv)] 5) = w8 at *
              refine wpAnyH_ready (rs := [16]) (by kernel_rfl) (by simp) ?_
              refine AllReadyH.cons rfl (fun K hK => ?_) AllReadyH.nil
              rw [if_pos (by first | rfl | kernel_rfl)]
              refine wp_push_two (.tmp 30) (.tmp 45) rfl b0 v0 (([dig L, 58] ++ allT M L q) ++ rowT M q k) rfl hO8 wd.heap.size 2 (dig ov) (alp nv) rfl hE8 Hlen.out hge8 ?_
              intro v1 w7 hO1 hb7
              have hs7 := hb7.size
              have hB7 := hB8.kept hb7 (by omega)
              refine hK.out _ _ hB7 (fun hS2 => ?_)
              clear hK K hS1
              (refine hK_take 17 (v1) rfl (by kernel_rfl) (by kernel_rfl) (by kernel_rfl) (fun _ _ _ h => h) rfl (fun W _ => by go_simp) hS2 ?_; (intro K hK; go_simp; refine hK _ ?_; clear hK K))
              refine wpAnyH_done (by kernel_rfl) ?_ _
              clear hS2
              go_wp2
              go_roundw
              case rel => exact ⟨k + 1, _, by omega, by go_num, rfl, hB7, by rw [Hrow.out, ← List.append_assoc]; exact hO1, by omega, hb8.trans (below_le hb7 (by omega))⟩
              case measure => simp [intOf] <;> omega
            · have hLk : L = k := by omega
              subst hLk
              go_wp2
              go_roundw
              case rel => exact ⟨q + 1, by omega, by go_num, hB, by rw [HALL.out]; simpa using hO, hge, hbw⟩
              case measure => simp [intOf] <;> omega
        · have hqp : (0 : Int) < q := by omega
          have HALL : Hid (allT M L (q + 1) = allT M L q ++ ([44] ++ rowT M q L)) := Lib.hid (by rw [allT, if_neg hz])
          have Hln : Hid (([dig L, 58] ++ allT M L q).length + 1 ≤ 1048576) := Lib.hid (by have h1 := allT_len M L hL3 q; simp; omega)
          have hB8 := hB.alloc (.cells #[.int .u8 44] 5)
          have hbw8 := below_alloc' hbw (.cells #[.int .u8 44] 5)
          clear hz
          go_wp2_with (at_builtin; refine wpList_push_byte rfl (.tmp 22) (.tmp 23) rfl b0 _ ([dig L, 58] ++ allT M L q) rfl (hO.below (Below.alloc (Below.refl _ _) (Nat.le_refl _) (.cells #[.int .u8 44] 5))) wr.heap.size 1 44 rfl (Blk.new wr _ _) Hln.out (by simp; omega) ?_; intro v1 w6 hO6 hb6; have hB6 := hB8.kept hb6 (by omega); have hs6 := hb6.size; have hbw6 := hbw8.trans (below_le hb6 (by omega)); have cA6 := hB6.cell)
          have hO7 : OwnB w6 b0 v1 (([dig L, 58] ++ allT M L q ++ [44]) ++ rowT M q 0) := by simpa [rowT] using hO6
          have hge6 : b0 ≤ w6.heap.size := by simp at hs6; omega
          go_loopw [4, 27] (fun ov i wr => ∃ (k : Nat) (v0 : Value), k ≤ L ∧ i = .int .i64 k ∧ v0 = ov ∧ Blk wr w.heap.size (mc M) 28 ∧ OwnB wr b0 v0 (([dig L, 58] ++ allT M L q ++ [44]) ++ rowT M q k) ∧ b0 ≤ wr.heap.size ∧ Below w.heap.size w wr) (fun _ i _ => L - (intOf i).toNat)
          case atStart => exact ⟨0, _, by omega, rfl, rfl, hB6, hO7, hge6, hbw6⟩
          case round =>
            clear hB hO hO6 hO7 hge hbw cA hltB hB8 hbw8 hB6 hbw6 hge6 cA6 hs6 hb6
            obtain ⟨k, v0, hk, rfl, rfl, hB, hO, hge, hbw⟩ := hrel
            have cA := hB.cell
            by_cases hlk : k < L
            · have hki : (k : Int) < 3 := by omega
              have hkL : (k : Int) < L := by omega
              have ho := mc_o hok q k hq16 (by omega)
              have hn := mc_n hok q k hq16 (by omega)
              obtain ⟨o0, o1⟩ := Hg.out.o_lt q k hql hlk
              obtain ⟨n0, n1⟩ := Hg.out.n_lt q k hql hlk
              have Hd := Lib.hid (dig_toNat (M.o q k) o0 (by omega))
              have Ha := Lib.hid (alp_toNat (M.n q k) n0 (by omega))
              have Hrow : Hid (rowT M q (k + 1) = rowT M q k ++ [dig (M.o q k), alp (M.n q k)]) := Lib.hid rfl
              have Hlen : Hid ((([dig L, 58] ++ allT M L q ++ [44]) ++ rowT M q k).length + 2 ≤ 1048576) := Lib.hid (by have h1 := allT_len M L hL3 q; have h2 := rowT_len M q k; simp; omega)
              have hBd := hB.drew; have hOd := hO.below ((Below.refl wr.heap.size wr).drew); have hbd := below_drew' hbw
              have hged : b0 ≤ wr.drew.heap.size := hge
              go_wp2_with fail
              clear cA hB hO hbw hge
              generalize M.o q k = ov at *
              generalize M.n q k = nv at *
              have hw1 := u8w (48 + ov) (by omega) (by omega)
              have hw2 := u8w (97 + nv) (by omega) (by omega)
              refine wp_region_held_drew (S := fun W => Blk W w.heap.size (mc M) 28) (by kernel_rfl) hBd (fun hS0 => ?_)
              generalize wr.drew = wd at *
              have hltd := hBd.lt
              (refine hK_take 0 (v0) rfl (by kernel_rfl) (by kernel_rfl) (by kernel_rfl) (fun _ _ _ h => h) rfl (fun W _ => by go_simp) hS0 ?_; (intro K hK; go_simp; refine hK _ ?_; clear hK K))
              (refine hK_take 1 (.int .i64 (q : Int)) rfl (by kernel_rfl) (by kernel_rfl) (by kernel_rfl) (fun _ _ _ h => h) rfl (fun W _ => by go_simp) hS0 ?_; (intro K hK; go_simp; refine hK _ ?_; clear hK K))
              (refine hK_take 2 (.int .i64 (k : Int)) rfl (by kernel_rfl) (by kernel_rfl) (by kernel_rfl) (fun _ _ _ h => h) rfl (fun W _ => by go_simp) hS0 ?_; (intro K hK; go_simp; refine hK _ ?_; clear hK K))
              (refine hK_take 3 (.pointer (some ⟨w.heap.size, 50, none⟩)) rfl (by kernel_rfl) (by kernel_rfl) (by kernel_rfl) (fun _ _ _ h => h) rfl (fun W _ => by go_simp) hS0 ?_; (intro K hK; go_simp; refine hK _ ?_; clear hK K))
              (refine hK_take 4 (.pointer (some ⟨w.heap.size, 50 + q * 3, none⟩)) rfl (by kernel_rfl) (by kernel_rfl) (by kernel_rfl) (fun _ _ _ h => h) rfl (fun W _ => by go_simp) hS0 ?_; (intro K hK; go_simp; refine hK _ ?_; clear hK K))
              (refine hK_take 5 (.pointer (some ⟨w.heap.size, 50 + q * 3 + k, none⟩)) rfl (by kernel_rfl) (by kernel_rfl) (by kernel_rfl) (fun _ _ _ h => h) rfl (fun W _ => by go_simp) hS0 ?_; (intro K hK; go_simp; refine hK _ ?_; clear hK K))
              (refine hK_take 6 (.int .u8 ov) rfl (by kernel_rfl) (by kernel_rfl) (by kernel_rfl) (fun _ _ _ h => h) rfl (fun W hW => by have cC := hW.cell; clear hW; go_simp) hS0 ?_; (intro K hK; go_simp; refine hK _ ?_; clear hK K))
              (refine hK_take 7 (.int .u8 (48 + ov)) rfl (by kernel_rfl) (by kernel_rfl) (by kernel_rfl) (fun _ _ _ h => h) rfl (fun W _ => by go_simp) hS0 ?_; (intro K hK; go_simp; refine hK _ ?_; clear hK K))
              (refine hK_take 8 (.int .i64 (q : Int)) rfl (by kernel_rfl) (by kernel_rfl) (by kernel_rfl) (fun _ _ _ h => h) rfl (fun W _ => by go_simp) hS0 ?_; (intro K hK; go_simp; refine hK _ ?_; clear hK K))
              (refine hK_take 9 (.int .i64 (k : Int)) rfl (by kernel_rfl) (by kernel_rfl) (by kernel_rfl) (fun _ _ _ h => h) rfl (fun W _ => by go_simp) hS0 ?_; (intro K hK; go_simp; refine hK _ ?_; clear hK K))
              (refine hK_take 10 (.pointer (some ⟨w.heap.size, 2, none⟩)) rfl (by kernel_rfl) (by kernel_rfl) (by kernel_rfl) (fun _ _ _ h => h) rfl (fun W _ => by go_simp) hS0 ?_; (intro K hK; go_simp; refine hK _ ?_; clear hK K))
              (refine hK_take 11 (.pointer (some ⟨w.heap.size, 2 + q * 3, none⟩)) rfl (by kernel_rfl) (by kernel_rfl) (by kernel_rfl) (fun _ _ _ h => h) rfl (fun W _ => by go_simp) hS0 ?_; (intro K hK; go_simp; refine hK _ ?_; clear hK K))
              (refine hK_take 12 (.pointer (some ⟨w.heap.size, 2 + q * 3 + k, none⟩)) rfl (by kernel_rfl) (by kernel_rfl) (by kernel_rfl) (fun _ _ _ h => h) rfl (fun W _ => by go_simp) hS0 ?_; (intro K hK; go_simp; refine hK _ ?_; clear hK K))
              (refine hK_take 13 (.int .u8 nv) rfl (by kernel_rfl) (by kernel_rfl) (by kernel_rfl) (fun _ _ _ h => h) rfl (fun W hW => by have cC := hW.cell; clear hW; go_simp) hS0 ?_; (intro K hK; go_simp; refine hK _ ?_; clear hK K))
              (refine hK_take 14 (.int .u8 (97 + nv)) rfl (by kernel_rfl) (by kernel_rfl) (by kernel_rfl) (fun _ _ _ h => h) rfl (fun W _ => by go_simp) hS0 ?_; (intro K hK; go_simp; refine hK _ ?_; clear hK K))
              refine wpAnyH_ready (rs := [15]) (by kernel_rfl) (by simp) ?_
              refine AllReadyH.cons rfl (fun K hK => ?_) AllReadyH.nil
              go_simp
              have hB8 := hBd.alloc (.cells #[.int .u8 (48 + ov), .int .u8 (97 + nv)] 5)
              have hO8 := hOd.below (Below.alloc (Below.refl _ _) (Nat.le_refl _) (.cells #[.int .u8 (48 + ov), .int .u8 (97 + nv)] 5))
              have hb8 := below_alloc' hbd (.cells #[.int .u8 (48 + ov), .int .u8 (97 + nv)] 5)
              have hE8 : Blk (wd.alloc (.cells #[.int .u8 (48 + ov), .int .u8 (97 + nv)] 5)) wd.heap.size #[.int .u8 ((dig ov).toNat : Int), .int .u8 ((alp nv).toNat : Int)] 5 := by rw [Hd.out, Ha.out]; exact Blk.new _ _ _
              have hge8 : b0 ≤ (wd.alloc (.cells #[.int .u8 (48 + ov), .int .u8 (97 + nv)] 5)).heap.size := by simp; omega
              refine hK.out _ _ hB8 (fun hS1 => ?_)
              clear hK K hBd hOd hbd hS0
              generalize wd.alloc (.cells #[.int .u8 (48 + ov), .int .u8 (97 + nv)] 5) = w8 at *
              refine wpAnyH_ready (rs := [16]) (by kernel_rfl) (by simp) ?_
              refine AllReadyH.cons rfl (fun K hK => ?_) AllReadyH.nil
              rw [if_pos (by first | rfl | kernel_rfl)]
              refine wp_push_two (.tmp 30) (.tmp 45) rfl b0 v0 (([dig L, 58] ++ allT M L q ++ [44]) ++ rowT M q k) rfl hO8 wd.heap.size 2 (dig ov) (alp nv) rfl hE8 Hlen.out hge8 ?_
              intro v1 w7 hO1 hb7
              have hs7 := hb7.size
              have hB7 := hB8.kept hb7 (by omega)
              refine hK.out _ _ hB7 (fun hS2 => ?_)
              clear hK K hS1
              (refine hK_take 17 (v1) rfl (by kernel_rfl) (by kernel_rfl) (by kernel_rfl) (fun _ _ _ h => h) rfl (fun W _ => by go_simp) hS2 ?_; (intro K hK; go_simp; refine hK _ ?_; clear hK K))
              refine wpAnyH_done (by kernel_rfl) ?_ _
              clear hS2
              go_wp2
              go_roundw
              case rel => exact ⟨k + 1, _, by omega, by go_num, rfl, hB7, by rw [Hrow.out, ← List.append_assoc]; exact hO1, by omega, hb8.trans (below_le hb7 (by omega))⟩
              case measure => simp [intOf] <;> omega
            · have hLk : L = k := by omega
              subst hLk
              go_wp2
              go_roundw
              case rel => exact ⟨q + 1, by omega, by go_num, hB, by rw [HALL.out]; simpa using hO, hge, hbw⟩
              case measure => simp [intOf] <;> omega
      · have hSq : S = q := by omega
        subst hSq
        have hstr := run_str_own hO
        go_wp2
        go_ret2
        exact ⟨ret_ti (by rw [Ht.out]; rfl) Hc.out.symm, hbw⟩
end Go.Proofs.Ytgcieocknlhjlab
