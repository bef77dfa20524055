/- 'SectionOfPortrait': the model. -/
import Derived.Test.YtgeihpaealomkaaSo
namespace Go.Proofs.Ytgeihpaealomkaa
open Go.RowKit

set_option maxRecDepth 100000 in
set_option maxHeartbeats 2000000 in
theorem sSection_calls (d n : Int) (v : Value) (zs : List Int) (s : ByteArray) (w : World) (hv : SeesI w v zs) :
    Calls Try.prog 4 #[.int .i64 d, .int .i64 n, v, .string s] w fun e w' => ∃ v1, e = .returned (.tuple #[v1, .int .i64 (soC d n zs s)]) ∧ OwnI w' w.heap.size v1 (soL d n zs s) ∧ Below w.heap.size w w' := by
  obtain ⟨oa, ca, hve, _⟩ := hv.view
  subst hve
  have Hv := Lib.hid hv
  have HC := Lib.hid (fun most W h => l03Wordy_calls d n (.slice oa zs.length ca) zs s most W h)
  clear hv
  by_cases hc0 : codeP d n zs = 0
  · obtain ⟨k1, k2, k3⟩ := codeP_zero d n zs hc0
    have hwn : IntKind.i64.wrap (n - 1) = n - 1 := IntWalk.i64_in _ (by omega)
    by_cases hc : codeW d n zs s (n - 1) = 0
    · obtain ⟨_, hl, hsl⟩ := codeW_zero d n zs s (n - 1) hc
      have Hc : Hid (soC d n zs s = 0) := Lib.hid hc
      have HR : Hid (soL d n zs s = allB (soV d.toNat zs s) d.toNat (n.toNat - s.size)) := Lib.hid (by unfold soL; rw [if_pos Hc.out])
      obtain ⟨m, rfl⟩ := Int.eq_ofNat_of_zero_le (a := n) (by omega)
      obtain ⟨c, rfl⟩ := Int.eq_ofNat_of_zero_le (a := d) (by omega)
      rw [Int.toNat_natCast] at *
      rw [Int.toNat_natCast] at *
      have hc23 : c = 2 ∨ c = 3 := by omega
      have hd3 : c ≤ 3 := by omega
      have hm4 : m ≤ 4 := by omega
      have hsz := size_list s
      obtain ⟨r, hr⟩ : ∃ r, r = m - s.size := ⟨_, rfl⟩
      rw [← hr] at HR
      have hmr : s.data.toList.length + r = m := by omega
      have hr4 : r ≤ 4 := by omega
      have hsub : (m : Int) - (s.size : Int) = (r : Int) := by omega
      have hwr : IntKind.i64.wrap ((m : Int) - (s.size : Int)) = (r : Int) := by rw [hsub]; exact IntWalk.i64_in _ (by omega)
      have HC1 := Lib.hid (fun W h => HC.out ((m : Int) - 1) W h)
      rw [hc] at HC1
      have hs4 : s.size ≤ 4 := by omega
      have Hmr := Lib.hid hmr
      clear HC k1 k2 hc0 hc hsl hr hsz hmr hsub
      have HF := Lib.hid (fun k j (hk : k < r) => show (∀ W, SeesI W (.slice oa zs.length ca) zs → Calls Try.prog 12 #[.int .i64 c, .slice oa zs.length ca, .string (s ++ wordS c k j)] W fun e w' => e = .returned (.int .i64 (kAt c zs (s ++ wordS c k j).data.toList : Int)) ∧ W = w') ∧ s.size + (wordS c k j).size ≤ 9223372036854775807 from by
        obtain ⟨w1, w2⟩ := wordS_ok' c k j hc23
        have h1 := app_len s (wordS c k j)
        have h2 := Hmr.out
        exact ⟨fun W h => l03At_calls c m hc23 hm4 zs k3 (.slice oa zs.length ca) (s ++ wordS c k j) (by omega) (app_letters c s _ hl w2) W h, by rw [size_list s, size_list (wordS c k j)]; omega⟩)
      have HPw := Lib.hid (fun k (hk : k ≤ 4) W => l01Power_calls c k hd3 (by omega) W)
      have HW := Lib.hid (fun k (hk : k ≤ 4) j (hj : j < c ^ k) (W : World) => by
        have := pow_le c k hd3 (by omega)
        exact l01WordOf_calls c hc23 k (k : Int) (j : Nat) W (by omega) (by omega) (by omega) (by omega) (by omega))
      have HU := Lib.hid (fun k j (hj : j < c ^ k) => upB_next (soV c zs s) c k j hj)
      have HV : Hid (∀ x, soV c zs s x = (kAt c zs (s ++ x).data.toList : Int)) := Lib.hid (fun _ => rfl)
      have HRw := Lib.hid (upB_row (soV c zs s) c)
      have HE := Lib.hid (upB_all (soV c zs s) c r)
      have HLn := Lib.hid (fun k j (hk : k ≤ 4) => upB_len (soV c zs s) c k j hd3 hk)
      have Hpl := Lib.hid (fun k (hk : k ≤ 4) => pow_le c k hd3 (by omega))
      have Hst := Lib.hid (upB_start (soV c zs s) c)
      clear hl k3 hwn Hmr
      generalize upB (soV c zs s) c = U at *
      generalize soV c zs s = f at *
      go_enter Try.func4, Try.ntmps4
      go_wp2_with (go_at_call 10; refine (HC1.out _ Hv.out).mono ?_; rintro e w1 ⟨rfl, hb1⟩)
      have hO0 : OwnI (w1.alloc (.cells #[] 2)) w.heap.size (.slice (some ⟨w1.heap.size, 0, none⟩) 0 0) (U 0 0) := by rw [Hst.out]; exact OwnI.empty w1 _ 0 #[] hb1.size (by unfold maxLen; omega) rfl
      have hbw0 : Below w.heap.size w (w1.alloc (.cells #[] 2)) := below_step hb1 (by (repeat (first | exact Below.refl _ _ | refine below_drew' ?_ | refine below_drewN' ?_ _ | refine below_alloc' ?_ _ | refine below_set' ?_ (by (try simp); (try omega)) _ | refine below_step ?_ (by assumption))))
      clear hb1 HC1
      go_loopw [11, 12] (fun o i wr => ∃ k : Nat, k ≤ r ∧ i = .int .i64 k ∧ OwnI wr w.heap.size o (U k 0) ∧ Below w.heap.size w wr) (fun _ i _ => r - (intOf i).toNat)
      case atStart => exact ⟨0, by omega, rfl, hO0, hbw0⟩
      case round =>
        clear hO0 hbw0
        obtain ⟨k, hk, rfl, hO, hbw⟩ := hrel
        by_cases hlt : k < r
        · have hki : (k : Int) < (r : Int) := by omega
          have hk4 : k ≤ 4 := by omega
          have HPk := Lib.hid (HPw.out k hk4)
          have HWk := Lib.hid (HW.out k hk4)
          have HFk := Lib.hid (fun j => HF.out k j hlt)
          have HUk := Lib.hid (HU.out k)
          have HRk := Lib.hid (HRw.out k)
          have HLk := Lib.hid (fun j => HLn.out k j hk4)
          have hpl := Hpl.out k hk4
          rw [show pw c k = ((c ^ k : Nat) : Int) from rfl] at HPk
          clear HPw HW HF HU HRw HLn Hpl HE
          generalize c ^ k = N at *
          go_wp2
          go_loopw [11, 13] (fun o i wx => ∃ j : Nat, j ≤ N ∧ i = .int .i64 j ∧ OwnI wx w.heap.size o (U k j) ∧ Below w.heap.size w wx) (fun _ i _ => N - (intOf i).toNat)
          case atStart => exact ⟨0, by omega, rfl, hO, hbw⟩
          case round =>
            clear hO hbw
            obtain ⟨j, hj, rfl, hO, hbw⟩ := hrel
            by_cases hjl : j < N
            · have hji : (j : Int) < (N : Int) := by omega
              have HWj := Lib.hid (HWk.out j hjl)
              rw [Int.toNat_natCast] at HWj
              have hw : (⟨(wordOf c k j).toArray⟩ : ByteArray) = wordS c k j := rfl
              rw [hw] at HWj
              obtain ⟨f1, hcat⟩ := HFk.out j
              have F1 := Lib.hid f1
              have Hn := Lib.hid (HUk.out j hjl)
              have Hl := Lib.hid (HLk.out j)
              rw [HV.out] at Hn
              clear f1 HWk HFk HUk HLk hw HV
              generalize wordS c k j = x at *
              generalize (kAt c zs (s ++ x).data.toList : Int) = z at *
              go_wp2_with (first | (go_at_call 11; refine (HPk.out _).mono ?_; rintro e w' ⟨rfl, rfl⟩) | (go_at_call 13; refine (HWj.out _).mono ?_; rintro e w2 ⟨rfl, hb2⟩; have hO2 := hO.below hb2; have hbw2 := below_step hbw hb2) | (go_at_call 12; refine (F1.out _ (Hv.out.below hbw2)).mono ?_; rintro e w' ⟨rfl, rfl⟩) | (at_builtin; refine wpList_push_int rfl (.tmp 40) (.tmp 50) rfl w.heap.size _ (U k j) rfl (hO2.below (Below.alloc (Below.refl _ _) (Nat.le_refl _) (.cells #[.int .i64 z] 2))) w2.heap.size 1 z rfl (Blk.new w2 _ _) (by have := Hl.out; omega) (by have := hbw2.size; simp; omega) ?_; intro v1 w5 hO5 hb5; have hbw5 := (hbw2.alloc hbw2.size (.cells #[.int .i64 z] 2)).trans hb5))
              rw [← Hn.out] at hO5
              go_roundw
              case rel => exact ⟨j + 1, by omega, by go_num, hO5, hbw5⟩
              case measure => simp [intOf] <;> omega
            · obtain rfl : j = N := by omega
              go_wp2_with (go_at_call 11; refine (HPk.out _).mono ?_; rintro e w' ⟨rfl, rfl⟩)
              rw [HRk.out] at hO
              go_roundw
              case rel => exact ⟨k + 1, by omega, by go_num, hO, hbw⟩
              case measure => simp [intOf] <;> omega
        · obtain rfl : k = r := by omega
          go_wp2
          go_ret2
          exact ⟨_, ret_lw Hc.out.symm, by rw [HR.out, ← HE.out]; exact hO, hbw⟩
    · have Hc : Hid (soC d n zs s = codeW d n zs s (n - 1)) := Lib.hid rfl
      have HR : Hid (soL d n zs s = []) := Lib.hid (by unfold soL soC; rw [if_neg hc])
      have HC1 := Lib.hid (fun W h => HC.out (n - 1) W h)
      have hcb : (codeW d n zs s (n - 1) != 0) = true := by simpa using hc
      clear HC hc
      generalize codeW d n zs s (n - 1) = cc at *
      go_enter Try.func4, Try.ntmps4
      go_wp2_with (go_at_call 10; refine (HC1.out _ Hv.out).mono ?_; rintro e w1 ⟨rfl, hb1⟩)
      go_ret2
      exact ⟨_, ret_lw Hc.out.symm, by rw [HR.out]; exact OwnI.nil _ _, hb1⟩
  · have Hc : Hid (soC d n zs s = codeP d n zs) := Lib.hid (codeW_bad d n zs s _ hc0)
    have HR : Hid (soL d n zs s = []) := Lib.hid (by unfold soL; rw [if_neg (by rw [Hc.out]; exact hc0)])
    have HC1 : Hid (∀ most W, SeesI W (.slice oa zs.length ca) zs → Calls Try.prog 10 #[.int .i64 d, .int .i64 n, .slice oa zs.length ca, .string s, .int .i64 most] W fun e w' => e = .returned (.int .i64 (codeP d n zs)) ∧ Below W.heap.size W w') := Lib.hid (fun most W h => by have := HC.out most W h; rwa [codeW_bad d n zs s most hc0] at this)
    have hcb : (codeP d n zs != 0) = true := by simpa using hc0
    clear HC hc0
    generalize codeP d n zs = cc at *
    go_enter Try.func4, Try.ntmps4
    go_wp2_with (go_at_call 10; refine (HC1.out _ _ Hv.out).mono ?_; rintro e w1 ⟨rfl, hb1⟩)
    go_ret2
    exact ⟨_, ret_lw Hc.out.symm, by rw [HR.out]; exact OwnI.nil _ _, hb1⟩
end Go.Proofs.Ytgeihpaealomkaa
