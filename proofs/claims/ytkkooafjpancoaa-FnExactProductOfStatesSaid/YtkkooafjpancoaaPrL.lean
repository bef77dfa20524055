/- 'l07Product'. Written by gen/genpr.py. -/
import Derived.Test.YtkkooafjpancoaaStM
namespace Go.Proofs.Ytkkooafjpancoaa
open Go.RowKit

theorem info_o3 : (Try.prog.info? 22).map (fun i => (i.zero, i.size)) = some (some (.agg (c8 [0, 0, 0])), 3) := by kernel_rfl
theorem zero_o3 : ∀ w, (zeroValue 22).run Try.prog w = .ok (.agg (c8 [0, 0, 0])) w := (zero_of_info info_o3).1
theorem oL_set (A : Aut) (p k : Nat) (hk : k < 3) : (oL A k p).set k (A.o p k) = oL A (k + 1) p := by
  rcases (show k = 0 ∨ k = 1 ∨ k = 2 by omega) with rfl | rfl | rfl <;> rfl
section
variable {ops : Array Oper} {rest : List Oper} {o : Oper} {a : Act} {w : World} {Q : Exit → Act → World → Prop}
theorem wpList_push_b3 (hgd : o.guard = none) (s x : Operand) (ho : o.op = .call { callee := .builtin .append, args := #[s, x], argTypes := #[80, 80] })
    (base : Nat) (v : Value) (n : Nat) (fl : List Int) (hs : a.eval s = v) (hown : OwnF 22 3 w base v n fl) (g c : Nat) (x0 x1 x2 : Int) (hx : a.eval x = .slice (some ⟨g, 0, none⟩) 1 c) (hB : Blk w g #[.int .u8 x0, .int .u8 x1, .int .u8 x2] 22)
    (hn : n ≤ 1048576) (hbase : base ≤ w.heap.size)
    (h : ∀ v' w', OwnF 22 3 w' base v' (n + 1) (fl ++ [x0, x1, x2]) → Below base w w' → (∀ k, k < w.heap.size → some k ≠ v.ownBlock → w'.heap[k]? = w.heap[k]?) → (v'.ownBlock = v.ownBlock ∨ v'.ownBlock = some w.heap.size) → wpList Try.prog ops Q rest (a.put o.dst v') w') : wpList Try.prog ops Q (o :: rest) a w :=
  wpList_plain hgd fun _ hK => wp_push_b3 s x ho base v n fl hs hown g c x0 x1 x2 hx hB hn hbase fun v' w' h1 h2 h3 h4 => hK _ _ (h v' w' h1 h2 h3 h4)
end
theorem prA_n {M K : Mach} {T : Nat} (i j x : Nat) (hj : j < T) : (prA M K T).n (i * T + j) x = nn M i x * T + nn K j (M.o i x).toNat ∧ (prA M K T).o (i * T + j) x = K.o j (M.o i x).toNat := by
  have h1 : (i * T + j) / T = i := by rw [Nat.mul_comm, Nat.mul_add_div (by omega), Nat.div_eq_of_lt hj, Nat.add_zero]
  have h2 : (i * T + j) % T = j := by rw [Nat.mul_comm, Nat.mul_add_mod, Nat.mod_eq_of_lt hj]
  constructor
  · show nn M ((i * T + j) / T) x * T + nn K ((i * T + j) % T) (M.o ((i * T + j) / T) x).toNat = _
    rw [h1, h2]
  · show K.o ((i * T + j) % T) (M.o ((i * T + j) / T) x).toNat = _
    rw [h1, h2]
theorem prA_bytes {M K : Mach} (hK : K.Ok) (L T N : Nat) : (prA M K T).Bytes L N := fun i x _ _ => prA_bd hK i x

set_option maxRecDepth 100000 in
set_option maxHeartbeats 4000000 in
theorem l07Product_calls (M K : Mach) (L S T : Nat) (hgM : Good M L S) (hgK : Good K L T) (q r : Nat) (hq : q < S) (hr : r < T) (w : World) :
    Calls Try.prog 46 #[.agg (mc M), .int .i64 (q : Int), .agg (mc K), .int .i64 (r : Int)] w fun e w' => e = .returned (.tuple #[.agg (mc (ltR (prA M K T) L (q * T + r))), .bool (ltB (prA M K T) L (q * T + r))]) ∧ Below w.heap.size w w' := by
  have hL3 := hgM.L3
  have hL2 := hgM.L2
  have hS16 := hgM.S16
  have hT16 := hgK.S16
  have hcL := mc_L M
  have hcS := mc_S M
  have hcT := mc_S K
  rw [hgM.hL] at hcL
  rw [hgM.hS] at hcS
  rw [hgK.hS] at hcT
  have HM := Lib.hid hgM
  have HK := Lib.hid hgK
  have hz := zero_mach
  have hzl := zero_lg
  have hz3 := zero_i3
  have hzo := zero_o3
  have HzS : Hid ((mc zeroM).size = 98) := Lib.hid (mc_size zeroM_ok)
  have hST := few_prod hS16 hT16
  have hidx : ∀ i j, i < S → j < T → i * T + j < S * T := fun i j hi hj => by
    calc i * T + j < i * T + T := by omega
      _ = (i + 1) * T := by rw [Nat.succ_mul]
      _ ≤ S * T := Nat.mul_le_mul_right _ (by omega)
  have Hidx := Lib.hid hidx
  have HSt : Hid (∀ W v, SeesL W v (prA M K T) L (S * T) → Calls Try.prog 72 #[v, .int .i64 ((q * T + r : Nat) : Int)] W fun e w' => e = .returned (.tuple #[.agg (mc (ltR (prA M K T) L (q * T + r))), .bool (ltB (prA M K T) L (q * T + r))]) ∧ Below W.heap.size W w') := Lib.hid (fun W v hv => l07Start_calls (prA M K T) L (S * T) hL3 (Nat.mul_pos (by omega) (by omega)) hST (prA_in hgM hgK) (prA_bytes hgK.ok L T (S * T)) v (q * T + r) (hidx q r hq hr) W hv)
  have HRs : Hid ((mc (ltR (prA M K T) L (q * T + r))).size = 98) := Lib.hid (by
    unfold ltR
    split
    · rename_i h
      exact mc_size (prodM_good hgM hgK (hidx q r hq hr) h).ok
    · exact mc_size zeroM_ok)
  have HA := Lib.hid (fun i j x hj => prA_n (M := M) (K := K) (T := T) i j x hj)
  obtain ⟨A, hA⟩ : ∃ A, prA M K T = A := ⟨_, rfl⟩
  rw [hA] at HSt HRs HA
  rw [hA]
  clear hA
  obtain ⟨R, hR⟩ : ∃ R, ltR A L (q * T + r) = R := ⟨_, rfl⟩
  obtain ⟨B, hB⟩ : ∃ B, ltB A L (q * T + r) = B := ⟨_, rfl⟩
  rw [hR] at HSt HRs
  rw [hB] at HSt
  rw [hR, hB]
  clear hR hB
  obtain ⟨w0, hw0⟩ : ∃ w0, ((w.alloc (.cells (mc M) 28)).alloc (.cells (mc K) 28)).alloc (.cells (mc zeroM) 28) = w0 := ⟨_, rfl⟩
  have hb0 : Below w.heap.size w w0 := by rw [← hw0]; show Below _ _ (World.alloc _ _); (repeat (first | exact Below.refl _ _ | refine below_drew' ?_ | refine below_drewN' ?_ _ | refine below_alloc' ?_ _ | refine below_set' ?_ (by (try simp); (try omega)) _ | refine below_step ?_ (by assumption)))
  have hs0 : w0.heap.size = w.heap.size + 1 + 1 + 1 := by rw [← hw0]; simp
  have hM0 : Blk w0 w.heap.size (mc M) 28 := by rw [← hw0]; exact ((Blk.new _ _ _).alloc _).alloc _
  have hK0 : Blk w0 (w.heap.size + 1) (mc K) 28 := by rw [← hw0]; exact (Blk.new_at _ _ _ _ (by simp)).alloc _
  have hR0 : Blk w0 (w.heap.size + 1 + 1) (mc zeroM) 28 := by rw [← hw0]; exact Blk.new_at _ _ _ _ (by simp)
  have Hz : Hid (∀ W, Below w0.heap.size w0 W → Blk W w.heap.size (mc M) 28 ∧ Blk W (w.heap.size + 1) (mc K) 28 ∧ Blk W (w.heap.size + 1 + 1) (mc zeroM) 28) := Lib.hid (fun W hW => ⟨hM0.keptAll hW, hK0.keptAll hW, hR0.keptAll hW⟩)
  have Hb0 := Lib.hid hb0
  have Hs0 := Lib.hid hs0
  have hset : lgZ.setIfInBounds 0 (.int .i64 (L : Int)) = lgC L (.slice none 0 0) (.slice none 0 0) := rfl
  have Hon := Lib.hid (lgC_one L none none 0 0 0 0)
  have Hov : Hid (over lgZ 0 (lgC L (.slice none 0 0) (.slice none 0 0)) = lgC L (.slice none 0 0) (.slice none 0 0)) := Lib.hid (over_all _ _ rfl)
  have cL1 := ((Hz.out w0 (Below.refl _ _)).1.cell 0).trans hcL
  rw [← hw0] at cL1
  have Hw0 := Lib.hid hw0
  clear hgM hgK hb0 hs0 hM0 hK0 hR0 hw0 hidx hST
  go_enter Try.func46, Try.ntmps46
  have hN0 : Blk (w0.alloc (.cells lgZ 82)) w0.heap.size lgZ 82 := Blk.new _ _ _
  have hbA : Below w0.heap.size w0 (w0.alloc (.cells lgZ 82)) := by (repeat (first | exact Below.refl _ _ | refine below_drew' ?_ | refine below_drewN' ?_ _ | refine below_alloc' ?_ _ | refine below_set' ?_ (by (try simp); (try omega)) _ | refine below_step ?_ (by assumption)))
  have HsA : Hid (∀ w1, Stored (w0.alloc (.cells lgZ 82)) w1 w0.heap.size (lgC L (.slice none 0 0) (.slice none 0 0)) 82 → w0.heap.size + 1 ≤ w1.heap.size) := Lib.hid (fun w1 hs => by rw [hs.size]; simp)
  go_wp2_with ((with_reducible show wpList _ _ _ _ _ _); rw [Hw0.out, ← Hs0.out]; refine wpList_store_row rfl 82 (.tmp 10) (.tmp 21) rfl w0.heap.size 0 (lgC L (.slice none 0 0) (.slice none 0 0)) rfl rfl lgZ 82 hN0 (Nat.le_refl 3) size_lg Hon.out _ Hov.out ?_; intro w1 hs1)
  have hN1 := hs1.blk
  have hb1 := hs1.below _ _ (Nat.le_refl _) hbA
  have hsz1 := HsA.out w1 hs1
  clear hN0 hbA hs1 HsA cL1 hset Hw0
  have hJ1 : OwnJ w1 (w0.heap.size + 1) (.slice none 0 0) (0 * T) (flN A L (0 * T)) := by rw [Nat.zero_mul]; exact OwnJ.nil _ _
  have hO1 : OwnF 22 3 w1 (w0.heap.size + 1) (.slice none 0 0) (0 * T) (flO A L (0 * T)) := by rw [Nat.zero_mul]; exact OwnF.nil _ _ _ _
  go_loopw [11] (fun iv wr => ∃ (i : Nat) (nv ov : Value), i ≤ S ∧ iv = .int .i64 i ∧ Blk wr w0.heap.size (lgC L nv ov) 82 ∧ OwnJ wr (w0.heap.size + 1) nv (i * T) (flN A L (i * T)) ∧ OwnF 22 3 wr (w0.heap.size + 1) ov (i * T) (flO A L (i * T)) ∧ Hid (∀ b, nv.ownBlock = some b → ov.ownBlock ≠ some b) ∧ Below w0.heap.size w0 wr ∧ w0.heap.size + 1 ≤ wr.heap.size) (fun iv _ => S - (intOf iv).toNat)
  case atStart => exact ⟨0, _, _, by omega, rfl, hN1, hJ1, hO1, Lib.hid (fun b hb => by simp [Value.ownBlock] at hb), hb1, hsz1⟩
  case round =>
    clear hN1 hJ1 hO1 hb1 hsz1
    obtain ⟨i, nv, ov, hi, rfl, hN, hJ, hO, Hno, hbw, hsz⟩ := hrel
    have cS := ((Hz.out _ hbw).1.cell 1).trans hcS
    by_cases hiS : i < S
    · have hii : (i : Int) < (S : Int) := by omega
      have hi16 : (i : Int) < 16 := by omega
      have hJ2 : OwnJ wr (w0.heap.size + 1) nv (i * T + 0) (flN A L (i * T + 0)) := hJ
      have hO2 : OwnF 22 3 wr (w0.heap.size + 1) ov (i * T + 0) (flO A L (i * T + 0)) := hO
      clear hJ hO
      go_wp2
      clear cS
      go_loopw [12] (fun jv wr => ∃ (j : Nat) (nv ov : Value), j ≤ T ∧ jv = .int .i64 j ∧ Blk wr w0.heap.size (lgC L nv ov) 82 ∧ OwnJ wr (w0.heap.size + 1) nv (i * T + j) (flN A L (i * T + j)) ∧ OwnF 22 3 wr (w0.heap.size + 1) ov (i * T + j) (flO A L (i * T + j)) ∧ Hid (∀ b, nv.ownBlock = some b → ov.ownBlock ≠ some b) ∧ Below w0.heap.size w0 wr ∧ w0.heap.size + 1 ≤ wr.heap.size) (fun jv _ => T - (intOf jv).toNat)
      case atStart => exact ⟨0, _, _, by omega, rfl, hN, hJ2, hO2, Hno, hbw, hsz⟩
      case round =>
        clear hN hJ2 hO2 Hno hbw hsz
        obtain ⟨j, nv, ov, hj, rfl, hN, hJ, hO, Hno, hbw, hsz⟩ := hrel
        have cT := ((Hz.out _ hbw).2.1.cell 1).trans hcT
        by_cases hjT : j < T
        · have hji : (j : Int) < (T : Int) := by omega
          have hj16 : (j : Int) < 16 := by omega
          have hpS := Hidx.out i j hiS hjT
          have hS256 := few_prod hS16 hT16
          have HA2 := Lib.hid (fun x => HA.out i j x hjT)
          obtain ⟨p, hp⟩ : ∃ p, i * T + j = p := ⟨_, rfl⟩
          rw [hp] at hJ hO HA2 hpS
          have Hp := Lib.hid hp
          clear hp
          obtain ⟨oa, ca, rfl, hv1⟩ := hJ.view
          obtain ⟨oo, co, rfl, hv2⟩ := hO.view
          clear hv1 hv2
          have hal : Below wr.heap.size wr ((wr.alloc (.cells (ints [0, 0, 0]) 83)).alloc (.cells (c8 [0, 0, 0]) 22)) := by show Below _ _ (World.alloc _ _); (repeat (first | exact Below.refl _ _ | refine below_drew' ?_ | refine below_drewN' ?_ _ | refine below_alloc' ?_ _ | refine below_set' ?_ (by (try simp); (try omega)) _ | refine below_step ?_ (by assumption)))
          have hX0 : Blk ((wr.alloc (.cells (ints [0, 0, 0]) 83)).alloc (.cells (c8 [0, 0, 0]) 22)) wr.heap.size (ints [0, 0, 0]) 83 := (Blk.new _ _ _).alloc _
          have hY0 : Blk ((wr.alloc (.cells (ints [0, 0, 0]) 83)).alloc (.cells (c8 [0, 0, 0]) 22)) (wr.heap.size + 1) (c8 [0, 0, 0]) 22 := Blk.new_at _ _ _ _ (by simp)
          have hNa := hN.keptAll hal
          have hJa := hJ.below hal
          have hOa := hO.below hal
          have hbwa := hbw.trans (below_le hal hbw.size)
          have HF0 : Hid ((∀ b, (Value.slice oa p ca).ownBlock = some b → b < wr.heap.size) ∧ (∀ b, (Value.slice oo p co).ownBlock = some b → b < wr.heap.size)) := Lib.hid ⟨fun b hb => (hJ.ltt b hb).2, fun b hb => (hO.ltt b hb).2⟩
          have hltN := hN.lt
          have Ht3 : Hid (over (ints [0, 0, 0]) 0 (ints [0, 0, 0]) = ints [0, 0, 0]) := Lib.hid (over_all _ _ rfl)
          have Ho3 : Hid (over (c8 [0, 0, 0]) 0 (c8 [0, 0, 0]) = c8 [0, 0, 0]) := Lib.hid (over_all _ _ rfl)
          have HszA : Hid (((wr.alloc (.cells (ints [0, 0, 0]) 83)).alloc (.cells (c8 [0, 0, 0]) 22)).heap.size = wr.heap.size + 1 + 1) := Lib.hid (by simp)
          clear hal hN hJ hO
          go_wp2_with (first | ((with_reducible show wpList _ _ _ _ _ _); refine wpList_store_row rfl 83 (.tmp 13) (.tmp 34) rfl wr.heap.size 0 (ints [0, 0, 0]) rfl rfl (ints [0, 0, 0]) 83 hX0 (Nat.le_refl 3) size_i3 (ints_one _) _ Ht3.out ?_; intro w5 hs5; have hY5 := hs5.keep (by omega) hY0) | ((with_reducible show wpList _ _ _ _ _ _); refine wpList_store_row rfl 22 (.tmp 14) (.tmp 35) rfl (wr.heap.size + 1) 0 (c8 [0, 0, 0]) rfl rfl (c8 [0, 0, 0]) 22 hY5 (Nat.le_refl 3) size_a3 (c8_one' _) _ Ho3.out ?_; intro w6 hs6))
          have hX6 := hs6.keep (by omega) hs5.blk
          have hY6 := hs6.blk
          have hN6 := hs6.keep (by omega) (hs5.keep (by omega) hNa)
          have hJ6 := (hJa.same (fun b hb => hs5.other b (by have := HF0.out.1 b hb; omega))).same (fun b hb => hs6.other b (by have := HF0.out.1 b hb; omega))
          have hO6 := (hOa.same (fun b hb => hs5.other b (by have := HF0.out.2 b hb; omega))).same (fun b hb => hs6.other b (by have := HF0.out.2 b hb; omega))
          have hbw6 := hs6.below _ _ (by omega) (hs5.below _ _ (by omega) hbwa)
          have hsz6 : wr.heap.size + 1 + 1 ≤ w6.heap.size := by rw [hs6.size, hs5.size, HszA.out]; exact Nat.le_refl _
          clear hs5 hs6 hX0 hY0 hY5 hNa hJa hOa hbwa HszA Ht3 Ho3 hbw
          obtain ⟨g5, hg5⟩ : ∃ g5, wr.heap.size = g5 := ⟨_, rfl⟩
          rw [hg5] at hX6 hY6 hsz6 HF0 hltN hsz
          rw [hg5]
          clear hg5
          rw [← rwP_zero A p] at hX6
          have hY7 : Blk w6 (g5 + 1) (c8 (oL A 0 p)) 22 := hY6
          clear hY6
          go_loopw [15] (fun xv wr => ∃ x : Nat, x ≤ L ∧ xv = .int .i64 x ∧ Blk wr w0.heap.size (lgC L (.slice oa p ca) (.slice oo p co)) 82 ∧ OwnJ wr (w0.heap.size + 1) (.slice oa p ca) p (flN A L p) ∧ OwnF 22 3 wr (w0.heap.size + 1) (.slice oo p co) p (flO A L p) ∧ Below w0.heap.size w0 wr ∧ Blk wr g5 (ints (rwP A p x)) 83 ∧ Blk wr (g5 + 1) (c8 (oL A x p)) 22) (fun xv _ => L - (intOf xv).toNat)
          case atStart => exact ⟨0, by omega, rfl, hN6, hJ6, hO6, hbw6, hX6, hY7⟩
          case round =>
            clear hN6 hJ6 hO6 hbw6 hX6 hY7 hsz6
            obtain ⟨x, hx, rfl, hN, hJ, hO, hbw, hX, hY⟩ := hrel
            have cL := ((Hz.out _ hbw).1.cell 0).trans hcL
            by_cases hxL : x < L
            · have hx3 : x < 3 := by omega
              have hxi : (x : Int) < (L : Int) := by omega
              have hxi3 : (x : Int) < 3 := by omega
              obtain ⟨ha1, ha2⟩ := HA2.out x
              have hyo := (HM.out.oN i x hiS hxL)
              have co1 := mc_o HM.out.ok i x (by omega) hx3
              have cn1 := mc_n HM.out.ok i x (by omega) hx3
              rw [HM.out.nn_eq i x hiS hxL] at cn1
              have hn1 := HM.out.nn_lt i x hiS hxL
              rw [hyo.2] at co1
              obtain ⟨y, hy⟩ : ∃ y, (M.o i x).toNat = y := ⟨_, rfl⟩
              rw [hy] at co1 ha1 ha2 hyo
              have hyL := hyo.1
              clear hyo hy
              have co2 := mc_o HK.out.ok j y (by omega) (by omega)
              have cn2 := mc_n HK.out.ok j y (by omega) (by omega)
              rw [HK.out.nn_eq j y hjT hyL] at cn2
              have hn2 := HK.out.nn_lt j y hjT hyL
              rw [← ha2] at co2
              generalize nn M i x = n1 at *
              generalize nn K j y = n2 at *
              have hm : n1 * T ≤ 256 := Nat.le_trans (Nat.mul_le_mul (show n1 ≤ 16 by omega) hT16) (by omega)
              have hw1 : IntKind.i64.wrap ((n1 : Int) * (T : Int)) = ((n1 * T : Nat) : Int) := by
                rw [show (n1 : Int) * (T : Int) = ((n1 * T : Nat) : Int) from by push_cast; rfl]
                generalize n1 * T = z at *; simp [IntKind.wrap, IntKind.bits, IntKind.signed]; omega
              have hw2 : IntKind.i64.wrap (((n1 * T : Nat) : Int) + (n2 : Int)) = (A.n p x : Int) := by
                rw [ha1]
                generalize n1 * T = z at *; simp [IntKind.wrap, IntKind.bits, IntKind.signed]; omega
              have hv1 : IntKind.i64.wrap (n1 : Int) = (n1 : Int) := by simp [IntKind.wrap, IntKind.bits, IntKind.signed]; omega
              have hv2 : IntKind.i64.wrap (n2 : Int) = (n2 : Int) := by simp [IntKind.wrap, IntKind.bits, IntKind.signed]; omega
              have hy3 : (y : Int) < 3 := by omega
              have Hco1 := Lib.hid co1
              have Hcn1 := Lib.hid cn1
              have Hco2 := Lib.hid co2
              have Hcn2 := Lib.hid cn2
              have HcT := Lib.hid hcT
              have co := ((Hz.out _ hbw).1.cell (50 + i * 3 + x)).trans co1
              have hold := ints_at (rwP A p x) x (by show x < 3; exact hx3)
              generalize (rwP A p x).getD x 0 = oldv at hold
              have hold2 := c8_at (oL A x p) x (by show x < 3; exact hx3)
              generalize (oL A x p).getD x 0 = oldo at hold2
              have Hrs := Lib.hid (rwP_set A p x hx3)
              have Hos := Lib.hid (oL_set A p x hx3)
              clear ha1 ha2 co1 cn1 co2 cn2 hm
              generalize hmv : ((n1 * T : Nat) : Int) = mv at *
              clear hmv
              go_wp2
              clear co cL
              have hXd := hX.drew; have hYd := hY.drew; have hNd := hN.drew; have hbd := below_drew' hbw
              have hJd := hJ.below (w1 := wr.drew) (Below.refl _ _).drew
              have hOd := hO.below (w1 := wr.drew) (Below.refl _ _).drew
              clear hX hY hN hbw hJ hO
              refine wp_region_held_drew (S := fun W => Below w0.heap.size w0 W) (by kernel_rfl) hbd (fun hS0 => ?_)
              generalize World.drew _ = wd at *
              have cX := (hXd.cell x).trans hold
              have fX := hXd.free x
              have hX5 := hXd.set x (.int .i64 (A.n p x : Int))
              rw [← ints_set, Hrs.out] at hX5
              have hY5 := hYd.setOther g5 x (.int .i64 (A.n p x : Int)) (by omega)
              have hN5 := hNd.setOther g5 x (.int .i64 (A.n p x : Int)) (by omega)
              have hJ5 := hJd.same (w1 := wd.setCell ⟨g5, x, none⟩ (.int .i64 (A.n p x : Int))) (fun b hb => Below.heap_setCell _ _ _ b (by have := HF0.out.1 b hb; show b ≠ g5; omega))
              have hO5 := hOd.same (w1 := wd.setCell ⟨g5, x, none⟩ (.int .i64 (A.n p x : Int))) (fun b hb => Below.heap_setCell _ _ _ b (by have := HF0.out.2 b hb; show b ≠ g5; omega))
              have hb5 := below_set' (o := x) hbd (b := g5) (by omega) (.int .i64 (A.n p x : Int))
              (refine hK_take 0 (.int .i64 (x : Int)) rfl (by kernel_rfl) (by kernel_rfl) (by kernel_rfl) (fun _ _ _ h => h) rfl (fun W _ => by go_simp) hS0 ?_; (intro K hK; go_simp; refine hK _ ?_; clear hK K))
              (refine hK_take 1 (.int .i64 (i : Int)) rfl (by kernel_rfl) (by kernel_rfl) (by kernel_rfl) (fun _ _ _ h => h) rfl (fun W _ => by go_simp) hS0 ?_; (intro K hK; go_simp; refine hK _ ?_; clear hK K))
              (refine hK_take 2 (.int .i64 (x : Int)) rfl (by kernel_rfl) (by kernel_rfl) (by kernel_rfl) (fun _ _ _ h => h) rfl (fun W _ => by go_simp) hS0 ?_; (intro K hK; go_simp; refine hK _ ?_; clear hK K))
              (refine hK_take 3 (.pointer (some ⟨w.heap.size, 2, none⟩)) rfl (by kernel_rfl) (by kernel_rfl) (by kernel_rfl) (fun _ _ _ h => h) rfl (fun W _ => by go_simp) hS0 ?_; (intro K hK; go_simp; refine hK _ ?_; clear hK K))
              (refine hK_take 4 (.pointer (some ⟨w.heap.size, 2 + i * 3, none⟩)) rfl (by kernel_rfl) (by kernel_rfl) (by kernel_rfl) (fun _ _ _ h => h) rfl (fun W _ => by go_simp) hS0 ?_; (intro K hK; go_simp; refine hK _ ?_; clear hK K))
              (refine hK_take 5 (.pointer (some ⟨w.heap.size, 2 + i * 3 + x, none⟩)) rfl (by kernel_rfl) (by kernel_rfl) (by kernel_rfl) (fun _ _ _ h => h) rfl (fun W _ => by go_simp) hS0 ?_; (intro K hK; go_simp; refine hK _ ?_; clear hK K))
              (refine hK_take 6 (.int .u8 (n1 : Int)) rfl (by kernel_rfl) (by kernel_rfl) (by kernel_rfl) (fun _ _ _ h => h) rfl (fun W hW => by have cC := ((Hz.out W hW).1.cell (2 + i * 3 + x)).trans Hcn1.out; clear hW; go_simp) hS0 ?_; (intro K hK; go_simp; refine hK _ ?_; clear hK K))
              (refine hK_take 7 (.int .i64 (n1 : Int)) rfl (by kernel_rfl) (by kernel_rfl) (by kernel_rfl) (fun _ _ _ h => h) rfl (fun W _ => by go_simp) hS0 ?_; (intro K hK; go_simp; refine hK _ ?_; clear hK K))
              (refine hK_take 8 (.pointer (some ⟨w.heap.size + 1, 1, none⟩)) rfl (by kernel_rfl) (by kernel_rfl) (by kernel_rfl) (fun _ _ _ h => h) rfl (fun W _ => by go_simp) hS0 ?_; (intro K hK; go_simp; refine hK _ ?_; clear hK K))
              (refine hK_take 9 (.int .i64 (T : Int)) rfl (by kernel_rfl) (by kernel_rfl) (by kernel_rfl) (fun _ _ _ h => h) rfl (fun W hW => by have cC := ((Hz.out W hW).2.1.cell 1).trans HcT.out; clear hW; go_simp) hS0 ?_; (intro K hK; go_simp; refine hK _ ?_; clear hK K))
              (refine hK_take 10 (.int .i64 mv) rfl (by kernel_rfl) (by kernel_rfl) (by kernel_rfl) (fun _ _ _ h => h) rfl (fun W _ => by go_simp) hS0 ?_; (intro K hK; go_simp; refine hK _ ?_; clear hK K))
              (refine hK_take 11 (.int .i64 (j : Int)) rfl (by kernel_rfl) (by kernel_rfl) (by kernel_rfl) (fun _ _ _ h => h) rfl (fun W _ => by go_simp) hS0 ?_; (intro K hK; go_simp; refine hK _ ?_; clear hK K))
              (refine hK_take 12 (.int .u8 (y : Int)) rfl (by kernel_rfl) (by kernel_rfl) (by kernel_rfl) (fun _ _ _ h => h) rfl (fun W _ => by go_simp) hS0 ?_; (intro K hK; go_simp; refine hK _ ?_; clear hK K))
              (refine hK_take 13 (.pointer (some ⟨w.heap.size + 1, 2, none⟩)) rfl (by kernel_rfl) (by kernel_rfl) (by kernel_rfl) (fun _ _ _ h => h) rfl (fun W _ => by go_simp) hS0 ?_; (intro K hK; go_simp; refine hK _ ?_; clear hK K))
              (refine hK_take 14 (.pointer (some ⟨w.heap.size + 1, 2 + j * 3, none⟩)) rfl (by kernel_rfl) (by kernel_rfl) (by kernel_rfl) (fun _ _ _ h => h) rfl (fun W _ => by go_simp) hS0 ?_; (intro K hK; go_simp; refine hK _ ?_; clear hK K))
              (refine hK_take 15 (.pointer (some ⟨w.heap.size + 1, 2 + j * 3 + y, none⟩)) rfl (by kernel_rfl) (by kernel_rfl) (by kernel_rfl) (fun _ _ _ h => h) rfl (fun W _ => by go_simp) hS0 ?_; (intro K hK; go_simp; refine hK _ ?_; clear hK K))
              (refine hK_take 16 (.int .u8 (n2 : Int)) rfl (by kernel_rfl) (by kernel_rfl) (by kernel_rfl) (fun _ _ _ h => h) rfl (fun W hW => by have cC := ((Hz.out W hW).2.1.cell (2 + j * 3 + y)).trans Hcn2.out; clear hW; go_simp) hS0 ?_; (intro K hK; go_simp; refine hK _ ?_; clear hK K))
              (refine hK_take 17 (.int .i64 (n2 : Int)) rfl (by kernel_rfl) (by kernel_rfl) (by kernel_rfl) (fun _ _ _ h => h) rfl (fun W _ => by go_simp) hS0 ?_; (intro K hK; go_simp; refine hK _ ?_; clear hK K))
              (refine hK_take 18 (.int .i64 (A.n p x : Int)) rfl (by kernel_rfl) (by kernel_rfl) (by kernel_rfl) (fun _ _ _ h => h) rfl (fun W _ => by go_simp) hS0 ?_; (intro K hK; go_simp; refine hK _ ?_; clear hK K))
              (refine hK_take 19 (.pointer (some ⟨g5, x, none⟩)) rfl (by kernel_rfl) (by kernel_rfl) (by kernel_rfl) (fun _ _ _ h => h) rfl (fun W _ => by go_simp) hS0 ?_; (intro K hK; go_simp; refine hK _ ?_; clear hK K))
              refine wpAnyH_ready (rs := [20]) (by kernel_rfl) (by simp) ?_
              refine AllReadyH.cons rfl (fun K hK => ?_) AllReadyH.nil
              go_simp
              refine hK.out _ _ hb5 (fun hS1 => ?_)
              clear hK K
              refine wpAnyH_done (by kernel_rfl) ?_ _
              clear hS0 cX fX hXd hbd hYd hNd hJd hOd hw1 hw2 hv1 hv2
              generalize wd.setCell ⟨g5, x, none⟩ (.int .i64 (A.n p x : Int)) = w6 at *
              have co := ((Hz.out _ hb5).2.1.cell (50 + j * 3 + y)).trans Hco2.out
              have cY := (hY5.cell x).trans hold2
              have fY := hY5.free x
              have hY6 := hY5.set x (.int .u8 (A.o p x))
              rw [← c8_set, Hos.out] at hY6
              have hX6 := hX5.setOther (g5 + 1) x (.int .u8 (A.o p x)) (by omega)
              have hN6 := hN5.setOther (g5 + 1) x (.int .u8 (A.o p x)) (by omega)
              have hJ6 := hJ5.same (w1 := w6.setCell ⟨g5 + 1, x, none⟩ (.int .u8 (A.o p x))) (fun b hb => Below.heap_setCell _ _ _ b (by have := HF0.out.1 b hb; show b ≠ g5 + 1; omega))
              have hO6 := hO5.same (w1 := w6.setCell ⟨g5 + 1, x, none⟩ (.int .u8 (A.o p x))) (fun b hb => Below.heap_setCell _ _ _ b (by have := HF0.out.2 b hb; show b ≠ g5 + 1; omega))
              have hb6 := below_set' (o := x) hb5 (b := g5 + 1) (by omega) (.int .u8 (A.o p x))
              clear hX5 hY5 hN5 hJ5 hO5 hb5 hS1
              go_wp2
              go_roundw
              case rel => exact ⟨x + 1, by omega, by go_num, hN6, hJ6, hO6, hb6, hX6, hY6⟩
              case measure => simp [intOf] <;> omega
            · obtain rfl : L = x := by omega
              rw [rwP_all] at hX
              obtain ⟨x0, x1, x2, hxs⟩ : ∃ x0 x1 x2, rwN A L p = [x0, x1, x2] := ⟨_, _, _, rfl⟩
              obtain ⟨y0, y1, y2, hys⟩ : ∃ y0 y1 y2, oL A L p = [y0, y1, y2] := ⟨_, _, _, rfl⟩
              have HflN : Hid (flN A L (p + 1) = flN A L p ++ [x0, x1, x2]) := Lib.hid (by rw [flN_succ, hxs])
              have HflO : Hid (flO A L (p + 1) = flO A L p ++ [y0, y1, y2]) := Lib.hid (by rw [flO_succ, hys])
              rw [hxs, show ints [x0, x1, x2] = #[.int .i64 x0, .int .i64 x1, .int .i64 x2] from rfl] at hX
              rw [hys, show c8 [y0, y1, y2] = #[.int .u8 y0, .int .u8 y1, .int .u8 y2] from rfl] at hY
              clear hxs hys
              have hp20 : p ≤ 1048576 := by omega
              have Hp20 := Lib.hid hp20
              have hltX := hX.lt
              have hltY := hY.lt
              have hltN2 := hN.lt
              have hal : Below wr.heap.size wr (wr.alloc (.cells #[.int .i64 x0, .int .i64 x1, .int .i64 x2] 83)) := by (repeat (first | exact Below.refl _ _ | refine below_drew' ?_ | refine below_drewN' ?_ _ | refine below_alloc' ?_ _ | refine below_set' ?_ (by (try simp); (try omega)) _ | refine below_step ?_ (by assumption)))
              have hJa := hJ.below hal
              have hOa := hO.below hal
              have hNa := hN.keptAll hal
              have hYa := hY.keptAll hal
              have hbwa := hbw.trans (below_le hal hbw.size)
              have hXa : Blk (wr.alloc (.cells #[.int .i64 x0, .int .i64 x1, .int .i64 x2] 83)) wr.heap.size #[.int .i64 x0, .int .i64 x1, .int .i64 x2] 83 := Blk.new _ _ _
              have Hsza : Hid (w0.heap.size + 1 ≤ (wr.alloc (.cells #[.int .i64 x0, .int .i64 x1, .int .i64 x2] 83)).heap.size) := Lib.hid (by simp; omega)
              have Hcu : Hid (cut #[.int .i64 x0, .int .i64 x1, .int .i64 x2] 0 3 = #[.int .i64 x0, .int .i64 x1, .int .i64 x2]) := Lib.hid (cut_all _ _ rfl)
              have Hcy : Hid (cut #[.int .u8 y0, .int .u8 y1, .int .u8 y2] 0 3 = #[.int .u8 y0, .int .u8 y1, .int .u8 y2]) := Lib.hid (cut_all _ _ rfl)
              have cN1 : wr.cell? ⟨w0.heap.size, 1, none⟩ = some (.slice oa p ca) := hN.cell 1
              have HFy : Hid ((Value.slice oa p ca).ownBlock ≠ some (g5 + 1)) := Lib.hid (fun e => by have := HF0.out.1 _ e; omega)
              have Hpost : Hid (∀ v7 w7, OwnJ w7 (w0.heap.size + 1) v7 (p + 1) (flN A L p ++ [x0, x1, x2]) → Below (w0.heap.size + 1) (wr.alloc (.cells #[.int .i64 x0, .int .i64 x1, .int .i64 x2] 83)) w7 → (∀ k, k < (wr.alloc (.cells #[.int .i64 x0, .int .i64 x1, .int .i64 x2] 83)).heap.size → some k ≠ (Value.slice oa p ca).ownBlock → w7.heap[k]? = (wr.alloc (.cells #[.int .i64 x0, .int .i64 x1, .int .i64 x2] 83)).heap[k]?) → (v7.ownBlock = (Value.slice oa p ca).ownBlock ∨ v7.ownBlock = some (wr.alloc (.cells #[.int .i64 x0, .int .i64 x1, .int .i64 x2] 83)).heap.size) →
                  ∃ o7 c7, v7 = .slice o7 (p + 1) c7 ∧ Blk w7 w0.heap.size (lgC L (.slice oa p ca) (.slice oo p co)) 82 ∧ Blk ((w7.setCell ⟨w0.heap.size, 1, none⟩ (.slice o7 (p + 1) c7)).alloc (.cells #[.int .u8 y0, .int .u8 y1, .int .u8 y2] 22)) w0.heap.size (lgC L (.slice o7 (p + 1) c7) (.slice oo p co)) 82 ∧ Blk (w7.setCell ⟨w0.heap.size, 1, none⟩ (.slice o7 (p + 1) c7)) w0.heap.size (lgC L (.slice o7 (p + 1) c7) (.slice oo p co)) 82 ∧ Blk (w7.setCell ⟨w0.heap.size, 1, none⟩ (.slice o7 (p + 1) c7)) (g5 + 1) #[.int .u8 y0, .int .u8 y1, .int .u8 y2] 22 ∧ OwnJ ((w7.setCell ⟨w0.heap.size, 1, none⟩ (.slice o7 (p + 1) c7)).alloc (.cells #[.int .u8 y0, .int .u8 y1, .int .u8 y2] 22)) (w0.heap.size + 1) (.slice o7 (p + 1) c7) (p + 1) (flN A L p ++ [x0, x1, x2]) ∧ OwnF 22 3 ((w7.setCell ⟨w0.heap.size, 1, none⟩ (.slice o7 (p + 1) c7)).alloc (.cells #[.int .u8 y0, .int .u8 y1, .int .u8 y2] 22)) (w0.heap.size + 1) (.slice oo p co) p (flO A L p) ∧ Below w0.heap.size w0 ((w7.setCell ⟨w0.heap.size, 1, none⟩ (.slice o7 (p + 1) c7)).alloc (.cells #[.int .u8 y0, .int .u8 y1, .int .u8 y2] 22)) ∧ w0.heap.size + 1 ≤ ((w7.setCell ⟨w0.heap.size, 1, none⟩ (.slice o7 (p + 1) c7)).alloc (.cells #[.int .u8 y0, .int .u8 y1, .int .u8 y2] 22)).heap.size ∧ Blk ((w7.setCell ⟨w0.heap.size, 1, none⟩ (.slice o7 (p + 1) c7)).alloc (.cells #[.int .u8 y0, .int .u8 y1, .int .u8 y2] 22)) w7.heap.size #[.int .u8 y0, .int .u8 y1, .int .u8 y2] 22 ∧ Hid (∀ b, (Value.slice o7 (p + 1) c7).ownBlock = some b → (Value.slice oo p co).ownBlock ≠ some b)) := Lib.hid (fun v7 w7 hJ7 hb7 hs7 hat7 => by
                obtain ⟨o7, c7, rfl, _⟩ := hJ7.view
                have hN7 : Blk w7 w0.heap.size (lgC L (.slice oa p ca) (.slice oo p co)) 82 := (hb7.block _ (by omega)).trans hNa
                have hY7 : Blk w7 (g5 + 1) #[.int .u8 y0, .int .u8 y1, .int .u8 y2] 22 := (hs7 _ hYa.lt (fun e => HFy.out e.symm)).trans hYa
                have hO7 := hOa.same (w1 := w7) (fun b hb => hs7 b (hOa.ltt b hb).2 (fun e => Hno.out b e.symm hb))
                have hbw7 := hbwa.trans (below_le hb7 (by omega))
                have hN8 := hN7.set 1 (.slice o7 (p + 1) c7)
                rw [lgC_set1] at hN8
                have hY8 := hY7.setOther w0.heap.size 1 (.slice o7 (p + 1) c7) (by omega)
                have hJ8 := hJ7.same (w1 := (w7.setCell ⟨w0.heap.size, 1, none⟩ (.slice o7 (p + 1) c7))) (fun b hb => Below.heap_setCell _ _ _ b (by have := (hJ7.ltt b hb).1; show b ≠ w0.heap.size; omega))
                have hO8 := hO7.same (w1 := (w7.setCell ⟨w0.heap.size, 1, none⟩ (.slice o7 (p + 1) c7))) (fun b hb => Below.heap_setCell _ _ _ b (by have := (hO7.ltt b hb).1; show b ≠ w0.heap.size; omega))
                have hbw8 := below_set' (o := 1) hbw7 (b := w0.heap.size) (Nat.le_refl _) (.slice o7 (p + 1) c7)
                have hal8 : Below (w7.setCell ⟨w0.heap.size, 1, none⟩ (.slice o7 (p + 1) c7)).heap.size (w7.setCell ⟨w0.heap.size, 1, none⟩ (.slice o7 (p + 1) c7)) ((w7.setCell ⟨w0.heap.size, 1, none⟩ (.slice o7 (p + 1) c7)).alloc (.cells #[.int .u8 y0, .int .u8 y1, .int .u8 y2] 22)) := (Below.refl _ _).alloc (Nat.le_refl _) _
                have hY9 : Blk ((w7.setCell ⟨w0.heap.size, 1, none⟩ (.slice o7 (p + 1) c7)).alloc (.cells #[.int .u8 y0, .int .u8 y1, .int .u8 y2] 22)) (w7.setCell ⟨w0.heap.size, 1, none⟩ (.slice o7 (p + 1) c7)).heap.size #[.int .u8 y0, .int .u8 y1, .int .u8 y2] 22 := Blk.new _ _ _
                have hsz8 : (w7.setCell ⟨w0.heap.size, 1, none⟩ (.slice o7 (p + 1) c7)).heap.size = w7.heap.size := by simp
                have hge7 := hb7.size
                have hsza := Hsza.out
                rw [hsz8] at hY9
                refine ⟨o7, c7, rfl, hN7, hN8.keptAll hal8, hN8, hY8, hJ8.below hal8, hO8.below hal8, below_alloc' hbw8 _, ?_, hY9, Lib.hid (fun b hb hb2 => ?_)⟩
                · have h9 := hal8.size
                  omega
                · rcases hat7 with e | e
                  · exact Hno.out b (e ▸ hb) hb2
                  · rw [e] at hb
                    cases hb
                    exact absurd (hOa.ltt _ hb2).2 (Nat.lt_irrefl _))
              clear hal hNa hYa hOa hN hJ hO hY hbw hbwa
              go_wp2_with (first | ((with_reducible show wpList _ _ _ _ _ _); refine wpList_load_blk rfl 83 (.tmp 13) rfl g5 0 rfl _ _ hX 3 (Nat.le_refl 3) _ Try.underlying83 rfl size_i3 ?_; rw [Hcu.out]) | (at_builtin; refine wpList_push_i3 rfl (.tmp 77) (.tmp 79) rfl (w0.heap.size + 1) (.slice oa p ca) p (flN A L p) rfl hJa wr.heap.size 1 x0 x1 x2 rfl hXa Hp20.out Hsza.out ?_; intro v7 w7 hJ7 hb7 hs7 hat7; obtain ⟨o7, c7, rfl, hN7, hN9, hN8, hY8, hJ9, hO9, hbw9, hsz9, hY9, Hno9⟩ := Hpost.out v7 w7 hJ7 hb7 hs7 hat7; have cN7 := hN7.cell; have fN7 := hN7.free; have c8N : (w7.setCell ⟨w0.heap.size, 1, none⟩ (.slice o7 (p + 1) c7)).cell? ⟨w0.heap.size, 2, none⟩ = some (.slice oo p co) := hN8.cell 2; clear hJ7 hb7 hs7 hat7) | ((with_reducible show wpList _ _ _ _ _ _); refine wpList_load_blk rfl 22 (.tmp 14) rfl (g5 + 1) 0 rfl _ _ hY8 3 (Nat.le_refl 3) _ Try.underlying22 rfl size_a3 ?_; rw [Hcy.out]) | (at_builtin; refine wpList_push_b3 rfl (.tmp 83) (.tmp 85) rfl (w0.heap.size + 1) (.slice oo p co) p (flO A L p) rfl hO9 w7.heap.size 1 y0 y1 y2 rfl hY9 Hp20.out hsz9 ?_; intro v8 w10 hO10 hb10 hs10 hat10; obtain ⟨o8, c8', rfl, hq8⟩ := hO10.view; clear hq8; have hN10 : Blk w10 w0.heap.size (lgC L (.slice o7 (p + 1) c7) (.slice oo p co)) 82 := (hb10.block _ (Nat.lt_succ_self _)).trans hN9; have cN10 : w10.cell? ⟨w0.heap.size, 2, none⟩ = some (.slice oo p co) := hN10.cell 2; have fN10 := hN10.free))
              have hJ10 := hJ9.same (w1 := w10) (fun b hb => hs10 b (hJ9.ltt b hb).2 (fun e => Hno9.out b hb e.symm))
              have hbw10 := hbw9.trans (below_le hb10 (by omega))
              have hsz10 := Nat.le_trans hsz9 hb10.size
              have Hno10 : Hid (∀ b, (Value.slice o7 (p + 1) c7).ownBlock = some b → (Value.slice o8 (p + 1) c8').ownBlock ≠ some b) := Lib.hid (fun b hb hb2 => by
                rcases hat10 with e | e
                · exact Hno9.out b hb (e ▸ hb2)
                · rw [e] at hb2
                  cases hb2
                  exact absurd (hJ9.ltt _ hb).2 (Nat.lt_irrefl _))
              clear hat10 hs10 hb10 hN9 hN8 hY8 hJ9 hO9 hbw9 hsz9 hY9 hN7 cN7 fN7 c8N cN10 fN10
              have hN11 := hN10.set 2 (.slice o8 (p + 1) c8')
              rw [lgC_set2] at hN11
              have hJ11 := hJ10.same (w1 := w10.setCell ⟨w0.heap.size, 2, none⟩ (.slice o8 (p + 1) c8')) (fun b hb => Below.heap_setCell _ _ _ b (by have := (hJ10.ltt b hb).1; show b ≠ w0.heap.size; omega))
              have hO11 := hO10.same (w1 := w10.setCell ⟨w0.heap.size, 2, none⟩ (.slice o8 (p + 1) c8')) (fun b hb => Below.heap_setCell _ _ _ b (by have := (hO10.ltt b hb).1; show b ≠ w0.heap.size; omega))
              have hb11 := below_set' (o := 2) hbw10 (b := w0.heap.size) (Nat.le_refl _) (.slice o8 (p + 1) c8')
              have hsz11 : w0.heap.size + 1 ≤ (w10.setCell ⟨w0.heap.size, 2, none⟩ (.slice o8 (p + 1) c8')).heap.size := Nat.le_trans hsz10 (Nat.le_of_eq (by simp))
              rw [← HflN.out] at hJ11
              rw [← HflO.out] at hO11
              have hp1 : p + 1 = i * T + (j + 1) := by have := Hp.out; omega
              go_roundw
              case rel => exact ⟨j + 1, _, _, by omega, by go_num, hN11, by rw [← hp1]; exact hJ11, by rw [← hp1]; exact hO11, Hno10, hb11, hsz11⟩
              case measure => simp [intOf] <;> omega
        · obtain rfl : T = j := by omega
          rw [show i * T + T = (i + 1) * T from by rw [Nat.succ_mul]] at hJ hO
          go_wp2
          go_roundw
          case rel => exact ⟨i + 1, _, _, by omega, by go_num, hN, hJ, hO, Hno, hbw, hsz⟩
          case measure => simp [intOf] <;> omega
    · obtain rfl : S = i := by omega
      obtain ⟨oa, ca, rfl, hv1⟩ := hJ.view
      obtain ⟨oo, co, rfl, hv2⟩ := hO.view
      clear hv1 hv2
      have hsee := large_seen hJ hO (Nat.mul_pos (show 0 < S by omega) (show 0 < T by omega))
      have Hsee := Lib.hid (HSt.out wr _ hsee)
      have cT := ((Hz.out _ hbw).2.1.cell 1).trans hcT
      have hw1 : IntKind.i64.wrap ((q : Int) * (T : Int)) = (q : Int) * (T : Int) := by
        have h : q * T ≤ 256 := Nat.le_trans (Nat.mul_le_mul (show q ≤ 16 by omega) hT16) (by omega)
        have h2 : (q : Int) * (T : Int) = ((q * T : Nat) : Int) := by push_cast; rfl
        rw [h2]; generalize q * T = y at *; simp [IntKind.wrap, IntKind.bits, IntKind.signed]; omega
      have hw2 : IntKind.i64.wrap ((q : Int) * (T : Int) + (r : Int)) = ((q * T + r : Nat) : Int) := by
        have h : q * T ≤ 256 := Nat.le_trans (Nat.mul_le_mul (show q ≤ 16 by omega) hT16) (by omega)
        have h2 : (q : Int) * (T : Int) + (r : Int) = ((q * T + r : Nat) : Int) := by push_cast; rfl
        rw [h2]; generalize q * T = y at *; simp [IntKind.wrap, IntKind.bits, IntKind.signed]; omega
      have Hcu : Hid (cut (lgC L (.slice oa (S * T) ca) (.slice oo (S * T) co)) 0 3 = lgC L (.slice oa (S * T) ca) (.slice oo (S * T) co)) := Lib.hid (cut_all _ _ rfl)
      have F1 : Hid (cut (mc R) 0 98 = mc R) := Lib.hid (cut_all _ _ HRs.out)
      have F2 : Hid (over (mc zeroM) 0 (mc R) = mc R) := Lib.hid (over_all _ _ (by rw [HRs.out, HzS.out]))
      have hR := (Hz.out _ hbw).2.2
      have hbz := Hb0.out.trans (below_le hbw (by have := Hs0.out; omega))
      clear hJ hO hsee
      obtain ⟨p0, hp0⟩ : ∃ p0, q * T + r = p0 := ⟨_, rfl⟩
      rw [hp0] at hw2 Hsee
      clear hp0
      go_wp2_with (first | ((with_reducible show wpList _ _ _ _ _ _); refine wpList_load_blk rfl 82 (.tmp 10) rfl w0.heap.size 0 rfl _ _ hN 3 (Nat.le_refl 3) _ Try.underlying82 rfl size_lg ?_; rw [Hcu.out]) | (go_at_call 72; refine Hsee.out.mono ?_; rintro e w2 ⟨rfl, hc2⟩; have hR2 := hR.keptAll hc2; have hb2 := below_step hbz hc2; have hlt2 := hR2.lt; have hR3 := hR2.alloc (.cells (mc zeroM) 28); have hX3 : Blk (w2.alloc (.cells (mc zeroM) 28)) w2.heap.size (mc zeroM) 28 := Blk.new _ _ _; have hb3 := below_alloc' hb2 (.cells (mc zeroM) 28); have hge2 := hb2.size) | ((with_reducible show wpList _ _ _ _ _ _); refine wpList_store_blk rfl 28 (.tmp 17) (.tmp 97) rfl w2.heap.size 0 (mc R) rfl rfl (mc zeroM) 28 hX3 (by rw [HRs.out, HzS.out]; omega) (by rw [HRs.out]; exact size_mach) (mc_one _) ?_; intro w4 hX4 hkeep _ hbl; rw [F2.out] at hX4; have hR4 := hkeep (w.heap.size + 1 + 1) _ _ (by omega) hR3; have hb4 := hbl w.heap.size w hge2 hb3; clear hkeep hbl) | ((with_reducible show wpList _ _ _ _ _ _); refine wpList_load_blk rfl 28 (.tmp 17) rfl w2.heap.size 0 rfl _ _ hX4 98 (by rw [HRs.out]; omega) _ Try.underlying28 rfl size_mach ?_; rw [F1.out]) | ((with_reducible show wpList _ _ _ _ _ _); refine wpList_store_blk rfl 28 (.tmp 8) (.tmp 99) rfl (w.heap.size + 1 + 1) 0 (mc R) rfl rfl (mc zeroM) 28 hR4 (by rw [HRs.out, HzS.out]; omega) (by rw [HRs.out]; exact size_mach) (mc_one _) ?_; intro w5 hb5 hkeep _ hbl; rw [F2.out] at hb5; have hbw5 := hbl w.heap.size w (by omega) hb4; clear hkeep hbl))
      exact bodyPost_cell1 rfl rfl hb5 Try.underlying28 rfl (by rw [HRs.out]; exact size_mach) rfl ⟨rfl, hbw5⟩
end Go.Proofs.Ytkkooafjpancoaa
