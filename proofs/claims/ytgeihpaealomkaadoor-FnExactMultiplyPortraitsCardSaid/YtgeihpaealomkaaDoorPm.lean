/- Products and inverses of permutations of letters: the program's methods, the model's functions. -/
import Derived.Test.YtgeihpaealomkaaDoorMuD
import Derived.Test.YtgeihpaealomkaaDoorPnR
namespace Go.Proofs.YtgeihpaealomkaaDoor
open Go.RowKit

theorem run_index_pi (l : List Int) (w : World) (x : Nat) (hx : x < 3) (v : Value) (hv : (u8s l)[x]? = some v) : (Instr.index 54 (.agg (u8s l)) (.int .i64 x)).run Tryd.prog w = .ok v w := by
  have hu := Tryd.underlying54
  have h1 : Tryd.t5.size = 1 := by kernel_rfl
  simp only [Instr.index, asIntOf, go_sem, Go.part, Go.sizeOf]
  simp [go_sem, h1, hv, hx, Nat.mul_one]
def rows3 (p : List Int) : Prop := p.length = 3 ∧ ∀ j, j < 3 → 0 ≤ p.getD j 0 ∧ p.getD j 0 ≤ 2
theorem pRow_3 (d k : Nat) (hd : d = 2 ∨ d = 3) (hk : k < cN d) : rows3 (pRow d k) := pRow_ok d k hd hk
theorem sRow_3 (d k : Nat) (hd : d = 2 ∨ d = 3) (hk : k < cN d) : rows3 (sRow d k) := by
  have h2 : ∀ k, k < 2 → (sRow 2 k).length = 3 ∧ ∀ j, j < 3 → 0 ≤ (sRow 2 k).getD j 0 ∧ (sRow 2 k).getD j 0 ≤ 2 := by decide
  have h3 : ∀ k, k < 6 → (sRow 3 k).length = 3 ∧ ∀ j, j < 3 → 0 ≤ (sRow 3 k).getD j 0 ∧ (sRow 3 k).getD j 0 ≤ 2 := by decide
  rcases hd with rfl | rfl
  · exact h2 k hk
  · exact h3 k hk
theorem info_pm : (Tryd.prog.info? 54).map (fun i => (i.zero, i.size)) = some (some (.agg (u8s [0, 0, 0])), 3) := by kernel_rfl
/-- The turned row, entry for entry. -/
def bkF (p : List Int) (k : Nat) : List Int := (List.range k).foldl (fun l (x : Nat) => l.set (p.getD x 0).toNat (x : Int)) [0, 0, 0]
theorem bkF_succ (p : List Int) (k : Nat) : bkF p (k + 1) = (bkF p k).set (p.getD k 0).toNat (k : Int) := by simp [bkF, List.range_succ]
theorem bkF_len (p : List Int) : ∀ k, (bkF p k).length = 3
  | 0 => rfl
  | k + 1 => by rw [bkF_succ, List.length_set, bkF_len p k]
theorem bk_p (d a : Nat) (hd : d = 2 ∨ d = 3) (ha : a < cN d) : bkF (pRow d a) 3 = backR (pRow d a) := by
  have h2 : ∀ a, a < 2 → bkF (pRow 2 a) 3 = backR (pRow 2 a) := by decide
  have h3 : ∀ a, a < 6 → bkF (pRow 3 a) 3 = backR (pRow 3 a) := by decide
  rcases hd with rfl | rfl
  · exact h2 a ha
  · exact h3 a ha
theorem bk_s (d a : Nat) (hd : d = 2 ∨ d = 3) (ha : a < cN d) : bkF (sRow d a) d = invM3 d a ∧ byte3 (invM3 d a) := by
  have h2 : ∀ a, a < 2 → bkF (sRow 2 a) 2 = invM3 2 a ∧ (invM3 2 a).length = 3 ∧ ∀ j, j < 3 → 0 ≤ (invM3 2 a).getD j 0 ∧ (invM3 2 a).getD j 0 ≤ 255 := by decide
  have h3 : ∀ a, a < 6 → bkF (sRow 3 a) 3 = invM3 3 a ∧ (invM3 3 a).length = 3 ∧ ∀ j, j < 3 → 0 ≤ (invM3 3 a).getD j 0 ∧ (invM3 3 a).getD j 0 ≤ 255 := by decide
  rcases hd with rfl | rfl
  · exact h2 a ha
  · exact h3 a ha
theorem mulM_b3 (d a b : Nat) (hd : d = 2 ∨ d = 3) (ha : a < cN d) (hb : b < cN d) : byte3 (mulM d a b) := by
  have h2 : ∀ a, a < 2 → ∀ b, b < 2 → (mulM 2 a b).length = 3 ∧ ∀ j, j < 3 → 0 ≤ (mulM 2 a b).getD j 0 ∧ (mulM 2 a b).getD j 0 ≤ 255 := by decide
  have h3 : ∀ a, a < 6 → ∀ b, b < 6 → (mulM 3 a b).length = 3 ∧ ∀ j, j < 3 → 0 ≤ (mulM 3 a b).getD j 0 ∧ (mulM 3 a b).getD j 0 ≤ 255 := by decide
  rcases hd with rfl | rfl
  · exact h2 a ha b hb
  · exact h3 a ha b hb
theorem thenR_at (p q : List Int) (hp : p.length = 3) (k : Nat) (hk : k < 3) : rowF (thenR p q) k = q.getD (p.getD k 0).toNat 0 := by
  unfold rowF thenR
  simp [List.getD, List.getElem?_map, List.getElem?_eq_getElem (show k < p.length by omega)]
theorem fill_all (l : List Int) (h : l.length = 3) : fillP (rowF l) 3 3 = l := by
  match l, h with
  | [a, b, c], _ => rfl
theorem thenR_len (p q : List Int) : (thenR p q).length = p.length := by simp [thenR]

set_option maxRecDepth 100000 in
set_option maxHeartbeats 1000000 in
theorem then_calls (p q : List Int) (hp : rows3 p) (hq : rows3 q) (w : World) :
    Calls Tryd.prog 44 #[.agg (u8s p), .agg (u8s q)] w fun e w' => e = .returned (.agg (u8s (thenR p q))) ∧ Below w.heap.size w w' := by
  have hz0 := (zero_of_info info_pm).1
  have hsz := Lib.hid (zero_of_info info_pm).2
  have hP : Blk ((((w.alloc (.cells (u8s p) 54)).alloc (.cells (u8s q) 54)).alloc (.cells (u8s [0, 0, 0]) 54)).alloc (.cells (u8s [0, 0, 0]) 54)) w.heap.size (u8s p) 54 := (((Blk.new w _ _).alloc _).alloc _).alloc _
  have hQ : Blk ((((w.alloc (.cells (u8s p) 54)).alloc (.cells (u8s q) 54)).alloc (.cells (u8s [0, 0, 0]) 54)).alloc (.cells (u8s [0, 0, 0]) 54)) (w.heap.size + 1) (u8s q) 54 := ((Blk.new_at _ _ _ _ (by simp)).alloc _).alloc _
  have hR : Blk ((((w.alloc (.cells (u8s p) 54)).alloc (.cells (u8s q) 54)).alloc (.cells (u8s [0, 0, 0]) 54)).alloc (.cells (u8s [0, 0, 0]) 54)) (w.heap.size + 2) (u8s [0, 0, 0]) 54 := (Blk.new_at _ _ _ _ (by simp)).alloc _
  have hO : Blk ((((w.alloc (.cells (u8s p) 54)).alloc (.cells (u8s q) 54)).alloc (.cells (u8s [0, 0, 0]) 54)).alloc (.cells (u8s [0, 0, 0]) 54)) (w.heap.size + 3) (u8s [0, 0, 0]) 54 := Blk.new_at _ _ _ _ (by simp)
  have hbw : Below w.heap.size w ((((w.alloc (.cells (u8s p) 54)).alloc (.cells (u8s q) 54)).alloc (.cells (u8s [0, 0, 0]) 54)).alloc (.cells (u8s [0, 0, 0]) 54)) := by (repeat (first | exact Below.refl _ _ | refine below_drew' ?_ | refine below_drewN' ?_ _ | refine below_alloc' ?_ _ | refine below_set' ?_ (by (try simp); (try omega)) _ | refine below_step ?_ (by assumption)))
  have Hp3 := Lib.hid hp
  have Hq3 := Lib.hid hq
  have Hsp : Hid ((u8s p).size = 3) := Lib.hid (by rw [u8s_size, hp.1])
  have HcP : Hid (cut (u8s p) 0 3 = u8s p) := Lib.hid (cut_all _ _ (by rw [u8s_size, hp.1]))
  have HcT : Hid (cut (u8s (thenR p q)) 0 3 = u8s (thenR p q)) := Lib.hid (cut_all _ _ (by rw [u8s_size, thenR_len, hp.1]))
  have HsT : Hid ((u8s (thenR p q)).size = 3) := Lib.hid (by rw [u8s_size, thenR_len, hp.1])
  have Hs3 : Hid ((Tryd.prog.info? 54).map (·.size) = some (u8s (thenR p q)).size) := Lib.hid (by rw [HsT.out]; exact hsz.out)
  have Ho : Hid (over (u8s [0, 0, 0]) 0 (u8s (thenR p q)) = u8s (thenR p q)) := Lib.hid (over_all _ _ (by rw [HsT.out]; rfl))
  have Hf3 : Hid (0 + (u8s (thenR p q)).size ≤ (u8s [0, 0, 0]).size) := Lib.hid (by rw [HsT.out]; exact Nat.le_refl 3)
  have Hfa := Lib.hid (fill_all (thenR p q) (by rw [thenR_len, hp.1]))
  clear hp hq
  go_enter Tryd.func44, Tryd.ntmps44
  go_wp2_with (with_reducible show wpList _ _ _ _ _ _; refine wpList_load_blk rfl 54 (.tmp 2) rfl w.heap.size 0 rfl (u8s p) _ hP 3 (by rw [Hsp.out]; omega) _ Tryd.underlying54 rfl hsz.out ?_; rw [HcP.out])
  go_loopw [9] (fun i wr => ∃ k : Nat, k ≤ 3 ∧ i = .int .i64 k ∧ Blk wr (w.heap.size + 1) (u8s q) 54 ∧ Blk wr (w.heap.size + 2) (u8s [0, 0, 0]) 54 ∧ Blk wr (w.heap.size + 3) (u8s (fillP (rowF (thenR p q)) 3 k)) 54 ∧ Below w.heap.size w wr) (fun i _ => 3 - (intOf i).toNat)
  case atStart => exact ⟨0, by omega, rfl, hQ, hR, hO, hbw⟩
  case round =>
    clear hP hQ hR hO hbw
    obtain ⟨k, hk, rfl, hQ, hR, hO, hbw⟩ := hrel
    by_cases hlt : k < 3
    · have hki : (k : Int) < 3 := by omega
      have e1 := u8s_at p k (by rw [Hp3.out.1]; exact hlt)
      obtain ⟨x, hx⟩ := Int.eq_ofNat_of_zero_le (Hp3.out.2 k hlt).1
      have hx2 := (Hp3.out.2 k hlt).2
      rw [hx] at e1 hx2
      have hx3 : x < 3 := by omega
      have hxi : (x : Int) < 3 := by omega
      have e2 := u8s_at q x (by rw [Hq3.out.1]; exact hx3)
      have hv := thenR_at p q Hp3.out.1 k hlt
      rw [hx, Int.toNat_natCast] at hv
      have Hset := Lib.hid (fillP_set (rowF (thenR p q)) 3 k (q.getD x 0) hv.symm)
      have e3 : (u8s (fillP (rowF (thenR p q)) 3 k))[k]? = some (.int .u8 ((fillP (rowF (thenR p q)) 3 k).getD k 0)) := u8s_at _ _ (by rw [fillP_len]; exact hlt)
      have hix := fun W => run_index_pi p W k hlt _ e1
      generalize q.getD x 0 = y at *
      generalize (fillP (rowF (thenR p q)) 3 k).getD k 0 = old at *
      have cQ := hQ.cell x
      rw [e2] at cQ
      have cO := hO.cell k
      rw [e3] at cO
      have fO := hO.free
      have hO1 := hO.set k (.int .u8 y)
      rw [← u8s_set, Hset.out] at hO1
      have hQ1 := hQ.setOther (w.heap.size + 3) k (.int .u8 y) (by omega)
      have hR1 := hR.setOther (w.heap.size + 3) k (.int .u8 y) (by omega)
      have hbw1 := below_set' (o := k) hbw (b := w.heap.size + 3) (by omega) (.int .u8 y)
      clear Hset hv hx e1 e2 e3
      go_wp2
      go_roundw
      case rel => exact ⟨k + 1, by omega, by go_num, hQ1, hR1, hO1, hbw1⟩
      case measure => simp [intOf] <;> omega
    · obtain rfl : k = 3 := by omega
      rw [Hfa.out] at hO
      go_wp2_with (first | (with_reducible show wpList _ _ _ _ _ _; refine wpList_load_blk rfl 54 (.tmp 5) rfl (w.heap.size + 3) 0 rfl (u8s (thenR p q)) _ hO 3 (by rw [HsT.out]; omega) _ Tryd.underlying54 rfl hsz.out ?_; rw [HcT.out]) | (with_reducible show wpList _ _ _ _ _ _; refine wpList_store_row rfl 54 _ _ rfl (w.heap.size + 2) 0 (u8s (thenR p q)) rfl rfl _ _ hR Hf3.out Hs3.out (u8s_one _) _ Ho.out ?_; intro w3 hs3))
      exact bodyPost_cell rfl rfl hs3.blk Tryd.underlying54 rfl Hs3.out rfl ⟨rfl, hs3.below _ _ (by omega) hbw⟩

set_option maxRecDepth 100000 in
set_option maxHeartbeats 1000000 in
theorem inverse_calls (p : List Int) (hp : rows3 p) (w : World) :
    Calls Tryd.prog 47 #[.agg (u8s p)] w fun e w' => e = .returned (.agg (u8s (bkF p 3))) ∧ Below w.heap.size w w' := by
  have hz0 := (zero_of_info info_pm).1
  have hsz := Lib.hid (zero_of_info info_pm).2
  have hP : Blk (((w.alloc (.cells (u8s p) 54)).alloc (.cells (u8s [0, 0, 0]) 54)).alloc (.cells (u8s [0, 0, 0]) 54)) w.heap.size (u8s p) 54 := ((Blk.new w _ _).alloc _).alloc _
  have hR : Blk (((w.alloc (.cells (u8s p) 54)).alloc (.cells (u8s [0, 0, 0]) 54)).alloc (.cells (u8s [0, 0, 0]) 54)) (w.heap.size + 1) (u8s [0, 0, 0]) 54 := (Blk.new_at _ _ _ _ (by simp)).alloc _
  have hO : Blk (((w.alloc (.cells (u8s p) 54)).alloc (.cells (u8s [0, 0, 0]) 54)).alloc (.cells (u8s [0, 0, 0]) 54)) (w.heap.size + 2) (u8s (bkF p 0)) 54 := Blk.new_at _ _ _ _ (by simp)
  have hbw : Below w.heap.size w (((w.alloc (.cells (u8s p) 54)).alloc (.cells (u8s [0, 0, 0]) 54)).alloc (.cells (u8s [0, 0, 0]) 54)) := by (repeat (first | exact Below.refl _ _ | refine below_drew' ?_ | refine below_drewN' ?_ _ | refine below_alloc' ?_ _ | refine below_set' ?_ (by (try simp); (try omega)) _ | refine below_step ?_ (by assumption)))
  have Hp3 := Lib.hid hp
  have Hsp : Hid ((u8s p).size = 3) := Lib.hid (by rw [u8s_size, hp.1])
  have HcP : Hid (cut (u8s p) 0 3 = u8s p) := Lib.hid (cut_all _ _ (by rw [u8s_size, hp.1]))
  have Hln := Lib.hid (bkF_len p)
  have HcT : Hid (cut (u8s (bkF p 3)) 0 3 = u8s (bkF p 3)) := Lib.hid (cut_all _ _ (by rw [u8s_size, bkF_len]))
  have HsT : Hid ((u8s (bkF p 3)).size = 3) := Lib.hid (by rw [u8s_size, bkF_len])
  have Hs3 : Hid ((Tryd.prog.info? 54).map (·.size) = some (u8s (bkF p 3)).size) := Lib.hid (by rw [HsT.out]; exact hsz.out)
  have Ho : Hid (over (u8s [0, 0, 0]) 0 (u8s (bkF p 3)) = u8s (bkF p 3)) := Lib.hid (over_all _ _ (by rw [HsT.out]; rfl))
  have Hf3 : Hid (0 + (u8s (bkF p 3)).size ≤ (u8s [0, 0, 0]).size) := Lib.hid (by rw [HsT.out]; exact Nat.le_refl 3)
  have Hsu := Lib.hid (bkF_succ p)
  clear hp
  go_enter Tryd.func47, Tryd.ntmps47
  go_wp2_with (with_reducible show wpList _ _ _ _ _ _; refine wpList_load_blk rfl 54 (.tmp 1) rfl w.heap.size 0 rfl (u8s p) _ hP 3 (by rw [Hsp.out]; omega) _ Tryd.underlying54 rfl hsz.out ?_; rw [HcP.out])
  generalize hbk : bkF p = bk at *
  have Hbk := Lib.hid hbk
  go_loopw [7] (fun i wr => ∃ k : Nat, k ≤ 3 ∧ i = .int .i64 k ∧ Blk wr (w.heap.size + 1) (u8s [0, 0, 0]) 54 ∧ Blk wr (w.heap.size + 2) (u8s (bk k)) 54 ∧ Below w.heap.size w wr) (fun i _ => 3 - (intOf i).toNat)
  case atStart => exact ⟨0, by omega, rfl, hR, hO, hbw⟩
  case round =>
    clear hP hR hO hbw hbk
    obtain ⟨k, hk, rfl, hR, hO, hbw⟩ := hrel
    by_cases hlt : k < 3
    · have hki : (k : Int) < 3 := by omega
      have e1 := u8s_at p k (by rw [Hp3.out.1]; exact hlt)
      obtain ⟨x, hx⟩ := Int.eq_ofNat_of_zero_le (Hp3.out.2 k hlt).1
      have hx2 := (Hp3.out.2 k hlt).2
      have Hset : Hid ((bk k).set (p.getD k 0).toNat (k : Int) = bk (k + 1)) := Lib.hid (Hsu.out k).symm
      rw [hx, Int.toNat_natCast] at Hset
      rw [hx] at e1 hx2
      have hx3 : x < 3 := by omega
      have hxi : (x : Int) < 3 := by omega
      have e3 : (u8s (bk k))[x]? = some (.int .u8 ((bk k).getD x 0)) := u8s_at _ _ (by rw [Hln.out]; exact hx3)
      have hix := fun W => run_index_pi p W k hlt _ e1
      have hw8 : IntKind.u8.wrap (k : Int) = (k : Int) := by simp [IntKind.wrap, IntKind.bits, IntKind.signed]; omega
      generalize (bk k).getD x 0 = old at *
      have cO := hO.cell x
      rw [e3] at cO
      have fO := hO.free
      have hO1 := hO.set x (.int .u8 (k : Int))
      rw [← u8s_set, Hset.out] at hO1
      have hR1 := hR.setOther (w.heap.size + 2) x (.int .u8 (k : Int)) (by omega)
      have hbw1 := below_set' (o := x) hbw (b := w.heap.size + 2) (by omega) (.int .u8 (k : Int))
      clear Hset hx e1 e3
      go_wp2
      go_roundw
      case rel => exact ⟨k + 1, by omega, by go_num, hR1, hO1, hbw1⟩
      case measure => simp [intOf] <;> omega
    · obtain rfl : k = 3 := by omega
      go_wp2_with (first | (with_reducible show wpList _ _ _ _ _ _; refine wpList_load_blk rfl 54 (.tmp 3) rfl (w.heap.size + 2) 0 rfl (u8s (bk 3)) _ hO 3 (by rw [HsT.out]; omega) _ Tryd.underlying54 rfl hsz.out ?_; rw [HcT.out]) | (with_reducible show wpList _ _ _ _ _ _; refine wpList_store_row rfl 54 _ _ rfl (w.heap.size + 1) 0 (u8s (bk 3)) rfl rfl _ _ hR Hf3.out Hs3.out (u8s_one _) _ Ho.out ?_; intro w3 hs3))
      exact bodyPost_cell rfl rfl hs3.blk Tryd.underlying54 rfl Hs3.out rfl ⟨by rw [Hbk.out], hs3.below _ _ (by omega) hbw⟩

set_option maxRecDepth 100000 in
set_option maxHeartbeats 1000000 in
theorem number_calls (p : List Int) (hp : rows3 p) (d : Nat) (hd : d ≤ 3) (w : World) (hT : TabsAt w) :
    Calls Tryd.prog 39 #[.agg (u8s p), .int .i64 d] w fun e w' => e = .returned (.int .i64 (numR d p)) ∧ Below w.heap.size w w' := by
  have hsz := Lib.hid (zero_of_info info_pm).2
  have hP : Blk (w.alloc (.cells (u8s p) 54)) w.heap.size (u8s p) 54 := Blk.new w _ _
  have hbw : Below w.heap.size w (w.alloc (.cells (u8s p) 54)) := by (repeat (first | exact Below.refl _ _ | refine below_drew' ?_ | refine below_drewN' ?_ _ | refine below_alloc' ?_ _ | refine below_set' ?_ (by (try simp); (try omega)) _ | refine below_step ?_ (by assumption)))
  have hT1 := hT.below hbw
  have Hsp : Hid ((u8s p).size = 3) := Lib.hid (by rw [u8s_size, hp.1])
  have HcP : Hid (cut (u8s p) 0 3 = u8s p) := Lib.hid (cut_all _ _ (by rw [u8s_size, hp.1]))
  have HI := Lib.hid (fun W => images_calls p hp.1 hp.2 d hd W)
  have Hn : Hid (numR d p = pnN (fillP (rowF p) d d)) := Lib.hid rfl
  generalize fillP (rowF p) d d = zs at *
  clear hp hT
  go_enter Tryd.func39, Tryd.ntmps39
  go_wp2_with (first | (with_reducible show wpList _ _ _ _ _ _; refine wpList_load_blk rfl 54 (.tmp 2) rfl w.heap.size 0 rfl (u8s p) _ hP 3 (by rw [Hsp.out]; omega) _ Tryd.underlying54 rfl hsz.out ?_; rw [HcP.out]) | (go_at_call 71; refine (HI.out _).mono ?_; rintro e w1 ⟨v1, rfl, hO1, hb1⟩; have hbw1 := below_step hbw hb1) | (go_at_call 54; refine (iPermutationNumber_calls _ zs _ hO1.sees (hT1.below hb1)).mono ?_; rintro e w2 ⟨rfl, hb2⟩; have hbw2 := below_step hbw1 hb2))
  go_ret
  exact ⟨ret_one Hn.out.symm, hbw2⟩
end Go.Proofs.YtgeihpaealomkaaDoor
