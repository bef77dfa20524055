/- 'MachineText': the model. -/
import Derived.Test.YtgcieocknlhjlabTxtG
import Derived.Test.YtgcieocknlhjlabStoreK
namespace Go.Proofs.Ytgcieocknlhjlab
open Go.RowKit

theorem ret_ts {a b : ByteArray} {i j : Int} (h : a = b) (h' : i = j) : Ending.returned (.tuple #[.string a, .int .i64 i]) = .returned (.tuple #[.string b, .int .i64 j]) := by rw [h, h']
theorem u8s (x : Int) (h0 : 0 ≤ x) (h1 : x < 256) : IntKind.u8.wrap x = x := by
  simp [IntKind.wrap, IntKind.bits, IntKind.signed]
  omega
theorem cat_l (a b : List UInt8) : (⟨a.toArray⟩ : ByteArray) ++ ⟨b.toArray⟩ = ⟨(a ++ b).toArray⟩ := by
  rw [ByteArray.mk_append_mk]
set_option maxRecDepth 100000 in
theorem l01Dec_calls (n : Nat) (hn : n < 10) (w : World) :
    Calls Try.prog 42 #[.int .i64 n] w fun e w' => e = .returned (.string ⟨#[dig n]⟩) ∧ Below w.heap.size w w' := by
  have hn0 : (n : Int) < 10 := by omega
  have hw : IntKind.u8.wrap (48 + (n : Int)) = ((dig n).toNat : Int) := by have := dig_wrap n (by omega) (by omega); rwa [IntWalk.i64_in _ (by omega)] at this
  have hw2 : IntKind.u8.wrap (IntKind.i64.wrap (48 + (n : Int))) = ((dig n).toNat : Int) := dig_wrap n (by omega) (by omega)
  have hcv := fun W b => run_str_new (P := Try.prog) Try.underlying48 Try.underlying5 Try.underlying9 W b 1
  go_enter Try.func42, Try.ntmps42
  go_wp2
  go_ret
  exact ⟨rfl, by (repeat (first | exact Below.refl _ _ | refine below_drew' ?_ | refine below_drewN' ?_ _ | refine below_alloc' ?_ _ | refine below_set' ?_ (by (try simp); (try omega)) _ | refine below_step ?_ (by assumption)))⟩

set_option maxRecDepth 100000 in
set_option maxHeartbeats 2000000 in
theorem l01Text_calls (M : Mach) (L S : Nat) (hg : Good M L S) (w : World) :
    Calls Try.prog 25 #[.agg (mc M)] w fun e w' => e = .returned (.string ⟨(txtT M L S).toArray⟩) ∧ Below w.heap.size w w' := by
  have hok := hg.ok
  have hS16 := hg.S16
  have hS1 := hg.S1
  have hL3 := hg.L3
  have hcL := mc_L M
  have hcS := mc_S M
  rw [hg.hL] at hcL
  rw [hg.hS] at hcS
  have hB1 : Blk (w.alloc (.cells (mc M) 28)) w.heap.size (mc M) 28 := Blk.new _ _ _
  have hbw1 : Below w.heap.size w (w.alloc (.cells (mc M) 28)) := by (repeat (first | exact Below.refl _ _ | refine below_drew' ?_ | refine below_drewN' ?_ _ | refine below_alloc' ?_ _ | refine below_set' ?_ (by (try simp); (try omega)) _ | refine below_step ?_ (by assumption)))
  have cA := hB1.cell
  have Hg := Lib.hid hg
  clear hg
  go_enter Try.func25, Try.ntmps25
  go_wp2_with (go_at_call 42; refine (l01Dec_calls L (by omega) _).mono ?_; rintro e w2 ⟨rfl, hb2⟩; have hB2 := hB1.keptAll hb2; have hbw2 := below_step hbw1 hb2)
  clear hB1 hbw1 cA hb2
  go_loopw [3, 4] (fun ov i wr => ∃ q : Nat, q ≤ S ∧ i = .int .i64 q ∧ ov = .string ⟨([dig L, 58] ++ allT M L q).toArray⟩ ∧ Blk wr w.heap.size (mc M) 28 ∧ Below w.heap.size w wr) (fun _ i _ => S - (intOf i).toNat)
  case atStart => exact ⟨0, by omega, rfl, by rfl, hB2, hbw2⟩
  case round =>
      clear hB2 hbw2
      obtain ⟨q, hq, rfl, rfl, hB, hbw⟩ := hrel
      have cA := hB.cell
      by_cases hql : q < S
      · have hqS : (q : Int) < S := by omega
        have hq16 : q < 16 := by omega
        have hqi : (q : Int) < 16 := by omega
        by_cases hz : q = 0
        · have hqp : ¬ ((0 : Int) < q) := by omega
          have HALL : Hid (allT M L (q + 1) = allT M L q ++ rowT M q L) := Lib.hid (by rw [allT, if_pos hz]; simp)
          clear hz
          go_wp2
          go_loopw [3, 5] (fun ov i wr => ∃ k : Nat, k ≤ L ∧ i = .int .i64 k ∧ ov = .string ⟨(([dig L, 58] ++ allT M L q) ++ rowT M q k).toArray⟩ ∧ Blk wr w.heap.size (mc M) 28 ∧ Below w.heap.size w wr) (fun _ i _ => L - (intOf i).toNat)
          case atStart => exact ⟨0, by omega, rfl, by simp [rowT], hB, hbw⟩
          case round =>
            clear hB hbw cA
            obtain ⟨k, hk, rfl, rfl, hB, hbw⟩ := hrel
            have cA := hB.cell
            by_cases hlk : k < L
            · have hki : (k : Int) < 3 := by omega
              have hkL : (k : Int) < L := by omega
              have ho := mc_o hok q k hq16 (by omega)
              have hn := mc_n hok q k hq16 (by omega)
              obtain ⟨o0, o1⟩ := Hg.out.o_lt q k hql hlk
              obtain ⟨n0, n1⟩ := Hg.out.n_lt q k hql hlk
              have Hd := Lib.hid (dig_toNat (M.o q k) o0 (by omega))
              have Ha := Lib.hid (alp_toNat (M.n q k) n0 (by omega))
              have Hrow : Hid (([dig L, 58] ++ allT M L q) ++ rowT M q (k + 1) = (([dig L, 58] ++ allT M L q) ++ rowT M q k) ++ [dig (M.o q k), alp (M.n q k)]) := Lib.hid (by rw [rowT]; simp)
              have hlen : (([dig L, 58] ++ allT M L q) ++ rowT M q k).length ≤ 200 := by have h1 := allT_len M L hL3 q; have h2 := rowT_len M q k; simp; omega
              have hBd := hB.drew; have hbd := below_drew' hbw
              generalize ([dig L, 58] ++ allT M L q) ++ rowT M q k = tt at *
              go_wp2_with fail
              clear cA hB hbw
              generalize M.o q k = ov at *
              generalize M.n q k = nv at *
              have hw1 := u8s (48 + ov) (by omega) (by omega)
              have hw2 := u8s (97 + nv) (by omega) (by omega)
              have hsz : ¬ 9223372036854775807 < tt.length + 2 := by omega
              refine wp_region_held_drew (S := fun W => Blk W w.heap.size (mc M) 28) (by kernel_rfl) hBd (fun hS0 => ?_)
              generalize wr.drew = wd at *
              have hltd := hBd.lt
              (refine hK_take 0 (.string ⟨tt.toArray⟩) rfl (by kernel_rfl) (by kernel_rfl) (by kernel_rfl) (fun _ _ _ h => h) rfl (fun W _ => by go_simp) hS0 ?_; (intro K hK; go_simp; refine hK _ ?_; clear hK K))
              (refine hK_take 1 (.int .i64 (q : Int)) rfl (by kernel_rfl) (by kernel_rfl) (by kernel_rfl) (fun _ _ _ h => h) rfl (fun W _ => by go_simp) hS0 ?_; (intro K hK; go_simp; refine hK _ ?_; clear hK K))
              (refine hK_take 2 (.int .i64 (k : Int)) rfl (by kernel_rfl) (by kernel_rfl) (by kernel_rfl) (fun _ _ _ h => h) rfl (fun W _ => by go_simp) hS0 ?_; (intro K hK; go_simp; refine hK _ ?_; clear hK K))
              (refine hK_take 3 (.pointer (some ⟨w.heap.size, 50, none⟩)) rfl (by kernel_rfl) (by kernel_rfl) (by kernel_rfl) (fun _ _ _ h => h) rfl (fun W _ => by go_simp) hS0 ?_; (intro K hK; go_simp; refine hK _ ?_; clear hK K))
              (refine hK_take 4 (.pointer (some ⟨w.heap.size, 50 + q * 3, none⟩)) rfl (by kernel_rfl) (by kernel_rfl) (by kernel_rfl) (fun _ _ _ h => h) rfl (fun W _ => by go_simp) hS0 ?_; (intro K hK; go_simp; refine hK _ ?_; clear hK K))
              (refine hK_take 5 (.pointer (some ⟨w.heap.size, 50 + q * 3 + k, none⟩)) rfl (by kernel_rfl) (by kernel_rfl) (by kernel_rfl) (fun _ _ _ h => h) rfl (fun W _ => by go_simp) hS0 ?_; (intro K hK; go_simp; refine hK _ ?_; clear hK K))
              (refine hK_take 6 (.int .u8 ov) rfl (by kernel_rfl) (by kernel_rfl) (by kernel_rfl) (fun _ _ _ h => h) rfl (fun W hW => by have cC := hW.cell; clear hW; go_simp) hS0 ?_; (intro K hK; go_simp; refine hK _ ?_; clear hK K))
              (refine hK_take 7 (.int .u8 (48 + ov)) rfl (by kernel_rfl) (by kernel_rfl) (by kernel_rfl) (fun _ _ _ h => h) rfl (fun W _ => by go_simp) hS0 ?_; (intro K hK; go_simp; refine hK _ ?_; clear hK K))
              (refine hK_take 8 (.int .i64 (q : Int)) rfl (by kernel_rfl) (by kernel_rfl) (by kernel_rfl) (fun _ _ _ h => h) rfl (fun W _ => by go_simp) hS0 ?_; (intro K hK; go_simp; refine hK _ ?_; clear hK K))
              (refine hK_take 9 (.int .i64 (k : Int)) rfl (by kernel_rfl) (by kernel_rfl) (by kernel_rfl) (fun _ _ _ h => h) rfl (fun W _ => by go_simp) hS0 ?_; (intro K hK; go_simp; refine hK _ ?_; clear hK K))
              (refine hK_take 10 (.pointer (some ⟨w.heap.size, 2, none⟩)) rfl (by kernel_rfl) (by kernel_rfl) (by kernel_rfl) (fun _ _ _ h => h) rfl (fun W _ => by go_simp) hS0 ?_; (intro K hK; go_simp; refine hK _ ?_; clear hK K))
              (refine hK_take 11 (.pointer (some ⟨w.heap.size, 2 + q * 3, none⟩)) rfl (by kernel_rfl) (by kernel_rfl) (by kernel_rfl) (fun _ _ _ h => h) rfl (fun W _ => by go_simp) hS0 ?_; (intro K hK; go_simp; refine hK _ ?_; clear hK K))
              (refine hK_take 12 (.pointer (some ⟨w.heap.size, 2 + q * 3 + k, none⟩)) rfl (by kernel_rfl) (by kernel_rfl) (by kernel_rfl) (fun _ _ _ h => h) rfl (fun W _ => by go_simp) hS0 ?_; (intro K hK; go_simp; refine hK _ ?_; clear hK K))
              (refine hK_take 13 (.int .u8 nv) rfl (by kernel_rfl) (by kernel_rfl) (by kernel_rfl) (fun _ _ _ h => h) rfl (fun W hW => by have cC := hW.cell; clear hW; go_simp) hS0 ?_; (intro K hK; go_simp; refine hK _ ?_; clear hK K))
              (refine hK_take 14 (.int .u8 (97 + nv)) rfl (by kernel_rfl) (by kernel_rfl) (by kernel_rfl) (fun _ _ _ h => h) rfl (fun W _ => by go_simp) hS0 ?_; (intro K hK; go_simp; refine hK _ ?_; clear hK K))
              refine wpAnyH_ready (rs := [15]) (by kernel_rfl) (by simp) ?_
              refine AllReadyH.cons rfl (fun K hK => ?_) AllReadyH.nil
              go_simp
              have hB8 := hBd.alloc (.cells #[.int .u8 (48 + ov), .int .u8 (97 + nv)] 5)
              have hb8 := below_alloc' hbd (.cells #[.int .u8 (48 + ov), .int .u8 (97 + nv)] 5)
              have hE8 : Blk (wd.alloc (.cells #[.int .u8 (48 + ov), .int .u8 (97 + nv)] 5)) wd.heap.size #[.int .u8 ((dig ov).toNat : Int), .int .u8 ((alp nv).toNat : Int)] 5 := by rw [Hd.out, Ha.out]; exact Blk.new _ _ _
              refine hK.out _ _ hB8 (fun hS1 => ?_)
              clear hK K hBd hbd hS0
              generalize wd.alloc (.cells #[.int .u8 (48 + ov), .int .u8 (97 + nv)] 5) = w8 at *
              have hcv8 := run_str_block w8 48 9 5 wd.heap.size 2 2 _ _ [dig ov, alp nv] Try.underlying48 Try.underlying5 Try.underlying9 rfl hE8 rfl
              refine wpAnyH_ready (rs := [16]) (by kernel_rfl) (by simp) ?_
              refine AllReadyH.cons rfl (fun K hK => ?_) AllReadyH.nil
              go_simp
              refine hK.out _ _ hB8 (fun hS2 => ?_)
              clear hK K hS1 hcv8 hE8
              (refine hK_take 17 (.string (⟨tt.toArray⟩ ++ ⟨#[dig ov, alp nv]⟩)) rfl (by kernel_rfl) (by kernel_rfl) (by kernel_rfl) (fun _ _ _ h => h) rfl (fun W _ => by go_simp) hS2 ?_; (intro K hK; go_simp; refine hK _ ?_; clear hK K))
              (refine hK_take 18 (.string (⟨tt.toArray⟩ ++ ⟨#[dig ov, alp nv]⟩)) rfl (by kernel_rfl) (by kernel_rfl) (by kernel_rfl) (fun _ _ _ h => h) rfl (fun W _ => by go_simp) hS2 ?_; (intro K hK; go_simp; refine hK _ ?_; clear hK K))
              refine wpAnyH_done (by kernel_rfl) ?_ _
              clear hS2 hsz hw1 hw2
              go_wp2
              go_roundw
              case rel => exact ⟨k + 1, by omega, by go_num, by rw [Hrow.out]; exact congrArg Value.string (cat_l tt [dig ov, alp nv]), hB8, hb8⟩
              case measure => simp [intOf] <;> omega
            · have hLk : L = k := by omega
              subst hLk
              go_wp2
              go_roundw
              case rel => exact ⟨q + 1, by omega, by go_num, by rw [HALL.out]; simp, hB, hbw⟩
              case measure => simp [intOf] <;> omega
        · have hqp : (0 : Int) < q := by omega
          have hqn : 0 < q := by omega
          have HALL : Hid (allT M L (q + 1) = allT M L q ++ ([44] ++ rowT M q L)) := Lib.hid (by rw [allT, if_neg hz])
          have hln : ([dig L, 58] ++ allT M L q).length ≤ 200 := by have h1 := allT_len M L hL3 q; simp; omega
          have Hcm : Hid ((⟨([dig L, 58] ++ allT M L q).toArray⟩ : ByteArray) ++ ⟨#[44]⟩ = ⟨([dig L, 58] ++ allT M L q ++ [44]).toArray⟩) := Lib.hid (cat_l _ [44])
          have hsz2 : ¬ 9223372036854775807 < ([dig L, 58] ++ allT M L q).length + 1 := by omega
          clear hz
          generalize htx : [dig L, 58] ++ allT M L q = tx at *
          have Htx := Lib.hid htx; clear htx
          go_wp2
          generalize (⟨tx.toArray⟩ : ByteArray) ++ ⟨#[44]⟩ = sx at *
          go_loopw [3, 5] (fun ov i wr => ∃ k : Nat, k ≤ L ∧ i = .int .i64 k ∧ ov = .string ⟨((tx ++ [44]) ++ rowT M q k).toArray⟩ ∧ Blk wr w.heap.size (mc M) 28 ∧ Below w.heap.size w wr) (fun _ i _ => L - (intOf i).toNat)
          case atStart => exact ⟨0, by omega, rfl, by rw [Hcm.out]; simp [rowT], hB, hbw⟩
          case round =>
            clear hB hbw cA
            obtain ⟨k, hk, rfl, rfl, hB, hbw⟩ := hrel
            have cA := hB.cell
            by_cases hlk : k < L
            · have hki : (k : Int) < 3 := by omega
              have hkL : (k : Int) < L := by omega
              have ho := mc_o hok q k hq16 (by omega)
              have hn := mc_n hok q k hq16 (by omega)
              obtain ⟨o0, o1⟩ := Hg.out.o_lt q k hql hlk
              obtain ⟨n0, n1⟩ := Hg.out.n_lt q k hql hlk
              have Hd := Lib.hid (dig_toNat (M.o q k) o0 (by omega))
              have Ha := Lib.hid (alp_toNat (M.n q k) n0 (by omega))
              have Hrow : Hid ((tx ++ [44]) ++ rowT M q (k + 1) = ((tx ++ [44]) ++ rowT M q k) ++ [dig (M.o q k), alp (M.n q k)]) := Lib.hid (by rw [rowT]; simp)
              have hlen : ((tx ++ [44]) ++ rowT M q k).length ≤ 300 := by have h2 := rowT_len M q k; simp; omega
              have hBd := hB.drew; have hbd := below_drew' hbw
              generalize (tx ++ [44]) ++ rowT M q k = tt at *
              go_wp2_with fail
              clear cA hB hbw
              generalize M.o q k = ov at *
              generalize M.n q k = nv at *
              have hw1 := u8s (48 + ov) (by omega) (by omega)
              have hw2 := u8s (97 + nv) (by omega) (by omega)
              have hsz : ¬ 9223372036854775807 < tt.length + 2 := by omega
              refine wp_region_held_drew (S := fun W => Blk W w.heap.size (mc M) 28) (by kernel_rfl) hBd (fun hS0 => ?_)
              generalize wr.drew = wd at *
              have hltd := hBd.lt
              (refine hK_take 0 (.string ⟨tt.toArray⟩) rfl (by kernel_rfl) (by kernel_rfl) (by kernel_rfl) (fun _ _ _ h => h) rfl (fun W _ => by go_simp) hS0 ?_; (intro K hK; go_simp; refine hK _ ?_; clear hK K))
              (refine hK_take 1 (.int .i64 (q : Int)) rfl (by kernel_rfl) (by kernel_rfl) (by kernel_rfl) (fun _ _ _ h => h) rfl (fun W _ => by go_simp) hS0 ?_; (intro K hK; go_simp; refine hK _ ?_; clear hK K))
              (refine hK_take 2 (.int .i64 (k : Int)) rfl (by kernel_rfl) (by kernel_rfl) (by kernel_rfl) (fun _ _ _ h => h) rfl (fun W _ => by go_simp) hS0 ?_; (intro K hK; go_simp; refine hK _ ?_; clear hK K))
              (refine hK_take 3 (.pointer (some ⟨w.heap.size, 50, none⟩)) rfl (by kernel_rfl) (by kernel_rfl) (by kernel_rfl) (fun _ _ _ h => h) rfl (fun W _ => by go_simp) hS0 ?_; (intro K hK; go_simp; refine hK _ ?_; clear hK K))
              (refine hK_take 4 (.pointer (some ⟨w.heap.size, 50 + q * 3, none⟩)) rfl (by kernel_rfl) (by kernel_rfl) (by kernel_rfl) (fun _ _ _ h => h) rfl (fun W _ => by go_simp) hS0 ?_; (intro K hK; go_simp; refine hK _ ?_; clear hK K))
              (refine hK_take 5 (.pointer (some ⟨w.heap.size, 50 + q * 3 + k, none⟩)) rfl (by kernel_rfl) (by kernel_rfl) (by kernel_rfl) (fun _ _ _ h => h) rfl (fun W _ => by go_simp) hS0 ?_; (intro K hK; go_simp; refine hK _ ?_; clear hK K))
              (refine hK_take 6 (.int .u8 ov) rfl (by kernel_rfl) (by kernel_rfl) (by kernel_rfl) (fun _ _ _ h => h) rfl (fun W hW => by have cC := hW.cell; clear hW; go_simp) hS0 ?_; (intro K hK; go_simp; refine hK _ ?_; clear hK K))
              (refine hK_take 7 (.int .u8 (48 + ov)) rfl (by kernel_rfl) (by kernel_rfl) (by kernel_rfl) (fun _ _ _ h => h) rfl (fun W _ => by go_simp) hS0 ?_; (intro K hK; go_simp; refine hK _ ?_; clear hK K))
              (refine hK_take 8 (.int .i64 (q : Int)) rfl (by kernel_rfl) (by kernel_rfl) (by kernel_rfl) (fun _ _ _ h => h) rfl (fun W _ => by go_simp) hS0 ?_; (intro K hK; go_simp; refine hK _ ?_; clear hK K))
              (refine hK_take 9 (.int .i64 (k : Int)) rfl (by kernel_rfl) (by kernel_rfl) (by kernel_rfl) (fun _ _ _ h => h) rfl (fun W _ => by go_simp) hS0 ?_; (intro K hK; go_simp; refine hK _ ?_; clear hK K))
              (refine hK_take 10 (.pointer (some ⟨w.heap.size, 2, none⟩)) rfl (by kernel_rfl) (by kernel_rfl) (by kernel_rfl) (fun _ _ _ h => h) rfl (fun W _ => by go_simp) hS0 ?_; (intro K hK; go_simp; refine hK _ ?_; clear hK K))
              (refine hK_take 11 (.pointer (some ⟨w.heap.size, 2 + q * 3, none⟩)) rfl (by kernel_rfl) (by kernel_rfl) (by kernel_rfl) (fun _ _ _ h => h) rfl (fun W _ => by go_simp) hS0 ?_; (intro K hK; go_simp; refine hK _ ?_; clear hK K))
              (refine hK_take 12 (.pointer (some ⟨w.heap.size, 2 + q * 3 + k, none⟩)) rfl (by kernel_rfl) (by kernel_rfl) (by kernel_rfl) (fun _ _ _ h => h) rfl (fun W _ => by go_simp) hS0 ?_; (intro K hK; go_simp; refine hK _ ?_; clear hK K))
              (refine hK_take 13 (.int .u8 nv) rfl (by kernel_rfl) (by kernel_rfl) (by kernel_rfl) (fun _ _ _ h => h) rfl (fun W hW => by have cC := hW.cell; clear hW; go_simp) hS0 ?_; (intro K hK; go_simp; refine hK _ ?_; clear hK K))
              (refine hK_take 14 (.int .u8 (97 + nv)) rfl (by kernel_rfl) (by kernel_rfl) (by kernel_rfl) (fun _ _ _ h => h) rfl (fun W _ => by go_simp) hS0 ?_; (intro K hK; go_simp; refine hK _ ?_; clear hK K))
              refine wpAnyH_ready (rs := [15]) (by kernel_rfl) (by simp) ?_
              refine AllReadyH.cons rfl (fun K hK => ?_) AllReadyH.nil
              go_simp
              have hB8 := hBd.alloc (.cells #[.int .u8 (48 + ov), .int .u8 (97 + nv)] 5)
              have hb8 := below_alloc' hbd (.cells #[.int .u8 (48 + ov), .int .u8 (97 + nv)] 5)
              have hE8 : Blk (wd.alloc (.cells #[.int .u8 (48 + ov), .int .u8 (97 + nv)] 5)) wd.heap.size #[.int .u8 ((dig ov).toNat : Int), .int .u8 ((alp nv).toNat : Int)] 5 := by rw [Hd.out, Ha.out]; exact Blk.new _ _ _
              refine hK.out _ _ hB8 (fun hS1 => ?_)
              clear hK K hBd hbd hS0
              generalize wd.alloc (.cells #[.int .u8 (48 + ov), .int .u8 (97 + nv)] 5) = w8 at *
              have hcv8 := run_str_block w8 48 9 5 wd.heap.size 2 2 _ _ [dig ov, alp nv] Try.underlying48 Try.underlying5 Try.underlying9 rfl hE8 rfl
              refine wpAnyH_ready (rs := [16]) (by kernel_rfl) (by simp) ?_
              refine AllReadyH.cons rfl (fun K hK => ?_) AllReadyH.nil
              go_simp
              refine hK.out _ _ hB8 (fun hS2 => ?_)
              clear hK K hS1 hcv8 hE8
              (refine hK_take 17 (.string (⟨tt.toArray⟩ ++ ⟨#[dig ov, alp nv]⟩)) rfl (by kernel_rfl) (by kernel_rfl) (by kernel_rfl) (fun _ _ _ h => h) rfl (fun W _ => by go_simp) hS2 ?_; (intro K hK; go_simp; refine hK _ ?_; clear hK K))
              (refine hK_take 18 (.string (⟨tt.toArray⟩ ++ ⟨#[dig ov, alp nv]⟩)) rfl (by kernel_rfl) (by kernel_rfl) (by kernel_rfl) (fun _ _ _ h => h) rfl (fun W _ => by go_simp) hS2 ?_; (intro K hK; go_simp; refine hK _ ?_; clear hK K))
              refine wpAnyH_done (by kernel_rfl) ?_ _
              clear hS2 hsz hw1 hw2
              go_wp2
              go_roundw
              case rel => exact ⟨k + 1, by omega, by go_num, by rw [Hrow.out]; exact congrArg Value.string (cat_l tt [dig ov, alp nv]), hB8, hb8⟩
              case measure => simp [intOf] <;> omega
            · have hLk : L = k := by omega
              subst hLk
              go_wp2
              go_roundw
              case rel => exact ⟨q + 1, by omega, by go_num, by rw [HALL.out, ← List.append_assoc, Htx.out]; simp, hB, hbw⟩
              case measure => simp [intOf] <;> omega
      · have hSq : S = q := by omega
        subst hSq
        go_wp2
        go_ret
        exact ⟨rfl, hbw⟩

set_option maxRecDepth 100000 in
set_option maxHeartbeats 2000000 in
theorem sMachineText_calls (M : Mach) (hok : M.Ok) (w : World) :
    Calls Try.prog 8 #[.agg (mc M)] w fun e w' => e = .returned (.tuple #[.string (textR M), .int .i64 (textC M)]) ∧ Below w.heap.size w w' := by
  have hB0 : Blk (w.alloc (.cells (mc M) 28)) w.heap.size (mc M) 28 := Blk.new _ _ _
  have hbw0 : Below w.heap.size w (w.alloc (.cells (mc M) 28)) := by (repeat (first | exact Below.refl _ _ | refine below_drew' ?_ | refine below_drewN' ?_ _ | refine below_alloc' ?_ _ | refine below_set' ?_ (by (try simp); (try omega)) _ | refine below_step ?_ (by assumption)))
  have F1 : Hid (cut (mc M) 0 98 = mc M) := Lib.hid (cut_all _ _ (mc_size hok)); have F2 : Hid (0 + 98 ≤ (mc M).size) := Lib.hid (by rw [mc_size hok]; omega)
  cases hm : isMach M
  · have Hc : Hid (textC M = 1) := Lib.hid (by simp [textC, hm])
    have Hn : Hid (textR M = ByteArray.empty) := Lib.hid (by simp [textR, hm])
    go_enter Try.func8, Try.ntmps8
    go_wp2_with (first | (with_reducible show wpList _ _ _ _ _ _; refine wpList_load_blk rfl 28 (.tmp 1) rfl w.heap.size 0 rfl (mc M) _ (hB0) 98 F2.out _ Try.underlying28 rfl size_mach ?_; rw [F1.out]) | (go_at_call 24; refine (l01Is_calls M hok _).mono ?_; rintro e w1 ⟨rfl, hb1⟩; rw [hm]; have hbw1 := below_step hbw0 hb1))
    go_ret2
    exact ⟨ret_ts Hn.out.symm Hc.out.symm, hbw1⟩
  · obtain ⟨L, S, hg⟩ := Good.of hok hm
    have Hc : Hid (textC M = 0) := Lib.hid (by simp [textC, hm])
    have Ht : Hid (textR M = ⟨(txtT M L S).toArray⟩) := Lib.hid (by simp [textR, hm, hg.hL, hg.hS])
    have Hg := Lib.hid hg
    clear hg
    go_enter Try.func8, Try.ntmps8
    go_wp2_with (first | (with_reducible show wpList _ _ _ _ _ _; refine wpList_load_blk rfl 28 (.tmp 1) rfl w.heap.size 0 rfl (mc M) _ (by first | exact hB1 | exact hB0) 98 F2.out _ Try.underlying28 rfl size_mach ?_; rw [F1.out]) | (go_at_call 24; refine (l01Is_calls M hok _).mono ?_; rintro e w1 ⟨rfl, hb1⟩; rw [hm]; have hB1 := hB0.keptAll hb1; have hbw1 := below_step hbw0 hb1) | (go_at_call 25; refine (l01Text_calls M L S Hg.out _).mono ?_; rintro e w2 ⟨rfl, hb2⟩; have hbw2 := below_step hbw1 hb2))
    go_ret2
    exact ⟨ret_ts Ht.out.symm Hc.out.symm, hbw2⟩
end Go.Proofs.Ytgcieocknlhjlab
