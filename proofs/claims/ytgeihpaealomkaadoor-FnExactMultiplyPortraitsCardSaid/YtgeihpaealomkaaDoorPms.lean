/- Products and inverses of permutations of letters: the model. -/
import Derived.Test.YtgeihpaealomkaaDoorPm
namespace Go.Proofs.YtgeihpaealomkaaDoor
open Go.RowKit

def mlF (d a b : Nat) (x : Nat) : Int := (sRow d b).getD ((sRow d a).getD x 0).toNat 0
theorem mlF_all (d a b : Nat) : fillP (mlF d a b) 3 d = mulM d a b := rfl
theorem u8s_szs (l : List Int) (h : l.length = 3) : (u8s l).size = 3 := by rw [u8s_size, h]

set_option maxRecDepth 100000 in
set_option maxHeartbeats 2000000 in
theorem l03Then_calls (d a b : Nat) (hd : d = 2 ∨ d = 3) (ha : a < cN d) (hb : b < cN d) (w : World) :
    Calls Tryd.prog 73 #[.int .i64 d, .int .i64 a, .int .i64 b] w fun e w' => e = .returned (.int .i64 (mulN d a b : Nat)) ∧ Below w.heap.size w w' := by
  obtain ⟨_, m1, m2, m3, _, _⟩ := mul_facts d a b hd ha hb
  have hm3 := mulM_b3 d a b hd ha hb
  have HN := Lib.hid (fun W => l03Number_calls d hd (mulM d a b) hm3 (mulN d a b) m1 m2 m3 W)
  have HIa := Lib.hid (fun W => l03Images_calls d a hd ha W)
  have HIb := Lib.hid (fun W => l03Images_calls d b hd hb W)
  have hz0 := (zero_of_info info_b3).1
  have hsz := Lib.hid (zero_of_info info_b3).2
  have Ha3 := Lib.hid (sRow_3 d a hd ha)
  have Hb3 := Lib.hid (sRow_3 d b hd hb)
  have Hsa : Hid ((Tryd.prog.info? 22).map (·.size) = some (u8s (sRow d a)).size) := Lib.hid (by rw [u8s_szs _ Ha3.out.1]; exact hsz.out)
  have Hsb : Hid ((Tryd.prog.info? 22).map (·.size) = some (u8s (sRow d b)).size) := Lib.hid (by rw [u8s_szs _ Hb3.out.1]; exact hsz.out)
  have Hfa : Hid (0 + (u8s (sRow d a)).size ≤ (u8s [0, 0, 0]).size) := Lib.hid (by rw [u8s_szs _ Ha3.out.1]; exact Nat.le_refl 3)
  have Hfb : Hid (0 + (u8s (sRow d b)).size ≤ (u8s [0, 0, 0]).size) := Lib.hid (by rw [u8s_szs _ Hb3.out.1]; exact Nat.le_refl 3)
  have Hoa : Hid (over (u8s [0, 0, 0]) 0 (u8s (sRow d a)) = u8s (sRow d a)) := Lib.hid (over_all _ _ (by rw [u8s_szs _ Ha3.out.1]; rfl))
  have Hob : Hid (over (u8s [0, 0, 0]) 0 (u8s (sRow d b)) = u8s (sRow d b)) := Lib.hid (over_all _ _ (by rw [u8s_szs _ Hb3.out.1]; rfl))
  have Hsz : Hid ((Tryd.prog.info? 22).map (·.size) = some (u8s [0, 0, 0]).size) := Lib.hid hsz.out
  have Hfz : Hid (0 + (u8s [0, 0, 0]).size ≤ (u8s [0, 0, 0]).size) := Lib.hid (Nat.le_refl 3)
  have Hoz : Hid (over (u8s [0, 0, 0]) 0 (u8s [0, 0, 0]) = u8s (fillP (mlF d a b) 3 0)) := Lib.hid rfl
  have HcM : Hid (cut (u8s (mulM d a b)) 0 3 = u8s (mulM d a b)) := Lib.hid (cut_all _ _ (u8s_szs _ hm3.1))
  have HsM : Hid ((u8s (mulM d a b)).size = 3) := Lib.hid (u8s_szs _ hm3.1)
  have HF : Hid (∀ x, mlF d a b x = (sRow d b).getD ((sRow d a).getD x 0).toNat 0) := Lib.hid (fun _ => rfl)
  have HA := Lib.hid (mlF_all d a b)
  have hd3 : d ≤ 3 := by omega
  generalize mulN d a b = r at *
  generalize mulM d a b = M at *
  generalize mlF d a b = F at *
  clear m1 m2 m3 hm3
  have T1 := Lib.hid trivial
  go_enter Tryd.func73, Tryd.ntmps73
  go_wp2_with (first | (go_at_call 84; first | (clear T1; refine (HIa.out _).mono ?_; rintro e w1 ⟨rfl, hb1⟩) | (refine (HIb.out _).mono ?_; rintro e w2 ⟨rfl, hb2⟩; have hbw2 := below_step hb1 hb2; have q1 : Blk (((w2.alloc (.cells (u8s [0, 0, 0]) 22)).alloc (.cells (u8s [0, 0, 0]) 22)).alloc (.cells (u8s [0, 0, 0]) 22)) w2.heap.size (u8s [0, 0, 0]) 22 := ((Blk.new w2 _ _).alloc _).alloc _; have q2 : Blk (((w2.alloc (.cells (u8s [0, 0, 0]) 22)).alloc (.cells (u8s [0, 0, 0]) 22)).alloc (.cells (u8s [0, 0, 0]) 22)) (w2.heap.size + 1) (u8s [0, 0, 0]) 22 := (Blk.new_at _ _ _ _ (by simp)).alloc _; have q3 : Blk (((w2.alloc (.cells (u8s [0, 0, 0]) 22)).alloc (.cells (u8s [0, 0, 0]) 22)).alloc (.cells (u8s [0, 0, 0]) 22)) (w2.heap.size + 2) (u8s [0, 0, 0]) 22 := Blk.new_at _ _ _ _ (by simp); have hs2 := hbw2.size; have qb : Below w2.heap.size w2 (((w2.alloc (.cells (u8s [0, 0, 0]) 22)).alloc (.cells (u8s [0, 0, 0]) 22)).alloc (.cells (u8s [0, 0, 0]) 22)) := by (repeat (first | exact Below.refl _ _ | refine below_drew' ?_ | refine below_drewN' ?_ _ | refine below_alloc' ?_ _ | refine below_set' ?_ (by (try simp); (try omega)) _ | refine below_step ?_ (by assumption))))) | (with_reducible show wpList _ _ _ _ _ _; refine wpList_build rfl 22 rfl (.agg (u8s [0, 0, 0])) (by kernel_rfl) ?_) | (with_reducible show wpList _ _ _ _ _ _; first | (have q0 := q1; clear q1; refine wpList_store_row rfl 22 _ _ rfl w2.heap.size 0 (u8s (sRow d a)) rfl rfl _ _ q0 Hfa.out Hsa.out (u8s_one _) _ Hoa.out ?_; intro w3 hs3; have r1 := hs3.blk; have r2 := hs3.keep (by omega) q2; have r3 := hs3.keep (by omega) q3; have rb := hs3.below _ _ (by omega) (below_step hbw2 qb); clear q0 q2 q3 qb) | (have q0 := r2; clear r2; refine wpList_store_row rfl 22 _ _ rfl (w2.heap.size + 1) 0 (u8s (sRow d b)) rfl rfl _ _ q0 Hfb.out Hsb.out (u8s_one _) _ Hob.out ?_; intro w4 hs4; have s2 := hs4.blk; have s1 := hs4.keep (by omega) r1; have s3 := hs4.keep (by omega) r3; have sb := hs4.below _ _ (by omega) rb; clear r1 q0 r3 rb) | (have q0 := s3; clear s3; refine wpList_store_row rfl 22 _ _ rfl (w2.heap.size + 2) 0 (u8s [0, 0, 0]) rfl rfl _ _ q0 Hfz.out Hsz.out (u8s_one _) _ Hoz.out ?_; intro w5 hs5; have t3 := hs5.blk; have t1 := hs5.keep (by omega) s1; have t2 := hs5.keep (by omega) s2; have tb := hs5.below _ _ (by omega) sb; clear s1 s2 q0 sb)))
  clear hb1 hb2 hbw2
  generalize w2.heap.size = s at *
  go_loopw [10] (fun i wr => ∃ k : Nat, k ≤ d ∧ i = .int .i64 k ∧ Blk wr s (u8s (sRow d a)) 22 ∧ Blk wr (s + 1) (u8s (sRow d b)) 22 ∧ Blk wr (s + 2) (u8s (fillP F 3 k)) 22 ∧ Below w.heap.size w wr) (fun i _ => d - (intOf i).toNat)
  case atStart => exact ⟨0, by omega, rfl, t1, t2, t3, tb⟩
  case round =>
    clear t1 t2 t3 tb hs3 hs4 hs5
    obtain ⟨k, hk, rfl, hA, hB, hO, hbw⟩ := hrel
    by_cases hlt : k < d
    · have hki : (k : Int) < (d : Int) := by omega
      have hk3 : (k : Int) < 3 := by omega
      have e1 := u8s_at (sRow d a) k (by rw [Ha3.out.1]; omega)
      obtain ⟨x, hx⟩ := Int.eq_ofNat_of_zero_le (Ha3.out.2 k (by omega)).1
      have hx2 := (Ha3.out.2 k (by omega)).2
      have hv := HF.out k
      rw [hx, Int.toNat_natCast] at hv
      rw [hx] at e1 hx2
      have hx3 : x < 3 := by omega
      have hxi : (x : Int) < 3 := by omega
      have e2 := u8s_at (sRow d b) x (by rw [Hb3.out.1]; exact hx3)
      have Hset := Lib.hid (fillP_set F 3 k ((sRow d b).getD x 0) hv.symm)
      have e3 : (u8s (fillP F 3 k))[k]? = some (.int .u8 ((fillP F 3 k).getD k 0)) := u8s_at _ _ (by rw [fillP_len]; omega)
      generalize (sRow d b).getD x 0 = y at *
      generalize (fillP F 3 k).getD k 0 = old at *
      have cA := hA.cell k
      rw [e1] at cA
      have cB := hB.cell x
      rw [e2] at cB
      have cO := hO.cell k
      rw [e3] at cO
      have fO := hO.free
      have hO1 := hO.set k (.int .u8 y)
      rw [← u8s_set, Hset.out] at hO1
      have hA1 := hA.setOther (s + 2) k (.int .u8 y) (by omega)
      have hB1 := hB.setOther (s + 2) k (.int .u8 y) (by omega)
      have hbw1 := below_set' (o := k) hbw (b := s + 2) (by omega) (.int .u8 y)
      clear Hset hv hx e1 e2 e3
      go_wp2
      go_roundw
      case rel => exact ⟨k + 1, by omega, by go_num, hA1, hB1, hO1, hbw1⟩
      case measure => simp [intOf] <;> omega
    · obtain rfl : k = d := by omega
      rw [HA.out] at hO
      go_wp2_with (first | (with_reducible show wpList _ _ _ _ _ _; refine wpList_load_blk rfl 22 (.tmp 9) rfl (s + 2) 0 rfl (u8s M) _ hO 3 (by rw [HsM.out]; omega) _ Tryd.underlying22 rfl hsz.out ?_; rw [HcM.out]) | (go_at_call 64; refine (HN.out _).mono ?_; rintro e w6 ⟨rfl, hb6⟩))
      go_ret
      exact ⟨rfl, below_step hbw hb6⟩

set_option maxRecDepth 100000 in
set_option maxHeartbeats 2000000 in
theorem l03Back_calls (d a : Nat) (hd : d = 2 ∨ d = 3) (ha : a < cN d) (w : World) :
    Calls Tryd.prog 78 #[.int .i64 d, .int .i64 a] w fun e w' => e = .returned (.int .i64 (invN d a : Nat)) ∧ Below w.heap.size w w' := by
  obtain ⟨_, m1, m2, m3, _, _⟩ := inv_facts d a hd ha
  obtain ⟨hbk, hm3⟩ := bk_s d a hd ha
  have HN := Lib.hid (fun W => l03Number_calls d hd (invM3 d a) hm3 (invN d a) m1 m2 m3 W)
  have HIa := Lib.hid (fun W => l03Images_calls d a hd ha W)
  have hz0 := (zero_of_info info_b3).1
  have hsz := Lib.hid (zero_of_info info_b3).2
  have Ha3 := Lib.hid (sRow_3 d a hd ha)
  have Hsa : Hid ((Tryd.prog.info? 22).map (·.size) = some (u8s (sRow d a)).size) := Lib.hid (by rw [u8s_szs _ Ha3.out.1]; exact hsz.out)
  have Hfa : Hid (0 + (u8s (sRow d a)).size ≤ (u8s [0, 0, 0]).size) := Lib.hid (by rw [u8s_szs _ Ha3.out.1]; exact Nat.le_refl 3)
  have Hoa : Hid (over (u8s [0, 0, 0]) 0 (u8s (sRow d a)) = u8s (sRow d a)) := Lib.hid (over_all _ _ (by rw [u8s_szs _ Ha3.out.1]; rfl))
  have Hsz : Hid ((Tryd.prog.info? 22).map (·.size) = some (u8s [0, 0, 0]).size) := Lib.hid hsz.out
  have Hfz : Hid (0 + (u8s [0, 0, 0]).size ≤ (u8s [0, 0, 0]).size) := Lib.hid (Nat.le_refl 3)
  have Hoz : Hid (over (u8s [0, 0, 0]) 0 (u8s [0, 0, 0]) = u8s (bkF (sRow d a) 0)) := Lib.hid rfl
  have HcM : Hid (cut (u8s (invM3 d a)) 0 3 = u8s (invM3 d a)) := Lib.hid (cut_all _ _ (u8s_szs _ hm3.1))
  have HsM : Hid ((u8s (invM3 d a)).size = 3) := Lib.hid (u8s_szs _ hm3.1)
  have HA := Lib.hid hbk
  have Hsu := Lib.hid (bkF_succ (sRow d a))
  have Hln := Lib.hid (bkF_len (sRow d a))
  have hd3 : d ≤ 3 := by omega
  generalize invN d a = r at *
  generalize invM3 d a = M at *
  generalize bkF (sRow d a) = F at *
  clear m1 m2 m3 hm3 hbk
  go_enter Tryd.func78, Tryd.ntmps78
  go_wp2_with (first | (go_at_call 84; refine (HIa.out _).mono ?_; rintro e w1 ⟨rfl, hb1⟩; have q1 : Blk ((w1.alloc (.cells (u8s [0, 0, 0]) 22)).alloc (.cells (u8s [0, 0, 0]) 22)) w1.heap.size (u8s [0, 0, 0]) 22 := (Blk.new w1 _ _).alloc _; have q2 : Blk ((w1.alloc (.cells (u8s [0, 0, 0]) 22)).alloc (.cells (u8s [0, 0, 0]) 22)) (w1.heap.size + 1) (u8s [0, 0, 0]) 22 := Blk.new_at _ _ _ _ (by simp); have hs1 := hb1.size; have qb : Below w1.heap.size w1 ((w1.alloc (.cells (u8s [0, 0, 0]) 22)).alloc (.cells (u8s [0, 0, 0]) 22)) := by (repeat (first | exact Below.refl _ _ | refine below_drew' ?_ | refine below_drewN' ?_ _ | refine below_alloc' ?_ _ | refine below_set' ?_ (by (try simp); (try omega)) _ | refine below_step ?_ (by assumption)))) | (with_reducible show wpList _ _ _ _ _ _; refine wpList_build rfl 22 rfl (.agg (u8s [0, 0, 0])) (by kernel_rfl) ?_) | (with_reducible show wpList _ _ _ _ _ _; first | (have q0 := q1; clear q1; refine wpList_store_row rfl 22 _ _ rfl w1.heap.size 0 (u8s (sRow d a)) rfl rfl _ _ q0 Hfa.out Hsa.out (u8s_one _) _ Hoa.out ?_; intro w3 hs3; have r1 := hs3.blk; have r2 := hs3.keep (by omega) q2; have rb := hs3.below _ _ (by omega) (below_step hb1 qb); clear q0 q2 qb) | (have q0 := r2; clear r2; refine wpList_store_row rfl 22 _ _ rfl (w1.heap.size + 1) 0 (u8s [0, 0, 0]) rfl rfl _ _ q0 Hfz.out Hsz.out (u8s_one _) _ Hoz.out ?_; intro w5 hs5; have t2 := hs5.blk; have t1 := hs5.keep (by omega) r1; have tb := hs5.below _ _ (by omega) rb; clear r1 q0 rb)))
  clear hb1
  generalize w1.heap.size = s at *
  go_loopw [7] (fun i wr => ∃ k : Nat, k ≤ d ∧ i = .int .i64 k ∧ Blk wr s (u8s (sRow d a)) 22 ∧ Blk wr (s + 1) (u8s (F k)) 22 ∧ Below w.heap.size w wr) (fun i _ => d - (intOf i).toNat)
  case atStart => exact ⟨0, by omega, rfl, t1, t2, tb⟩
  case round =>
    clear t1 t2 tb hs3 hs5
    obtain ⟨k, hk, rfl, hA, hO, hbw⟩ := hrel
    by_cases hlt : k < d
    · have hki : (k : Int) < (d : Int) := by omega
      have hk3 : (k : Int) < 3 := by omega
      have e1 := u8s_at (sRow d a) k (by rw [Ha3.out.1]; omega)
      obtain ⟨x, hx⟩ := Int.eq_ofNat_of_zero_le (Ha3.out.2 k (by omega)).1
      have hx2 := (Ha3.out.2 k (by omega)).2
      have Hset : Hid ((F k).set ((sRow d a).getD k 0).toNat (k : Int) = F (k + 1)) := Lib.hid (Hsu.out k).symm
      rw [hx, Int.toNat_natCast] at Hset
      rw [hx] at e1 hx2
      have hx3 : x < 3 := by omega
      have hxi : (x : Int) < 3 := by omega
      have e3 : (u8s (F k))[x]? = some (.int .u8 ((F k).getD x 0)) := u8s_at _ _ (by rw [Hln.out]; exact hx3)
      have hw8 : IntKind.u8.wrap (k : Int) = (k : Int) := by simp [IntKind.wrap, IntKind.bits, IntKind.signed]; omega
      generalize (F k).getD x 0 = old at *
      have cA := hA.cell k
      rw [e1] at cA
      have cO := hO.cell x
      rw [e3] at cO
      have fO := hO.free
      have hO1 := hO.set x (.int .u8 (k : Int))
      rw [← u8s_set, Hset.out] at hO1
      have hA1 := hA.setOther (s + 1) x (.int .u8 (k : Int)) (by omega)
      have hbw1 := below_set' (o := x) hbw (b := s + 1) (by omega) (.int .u8 (k : Int))
      clear Hset hx e1 e3
      go_wp2
      go_roundw
      case rel => exact ⟨k + 1, by omega, by go_num, hA1, hO1, hbw1⟩
      case measure => simp [intOf] <;> omega
    · obtain rfl : k = d := by omega
      rw [HA.out] at hO
      go_wp2_with (first | (with_reducible show wpList _ _ _ _ _ _; refine wpList_load_blk rfl 22 (.tmp 6) rfl (s + 1) 0 rfl (u8s M) _ hO 3 (by rw [HsM.out]; omega) _ Tryd.underlying22 rfl hsz.out ?_; rw [HcM.out]) | (go_at_call 64; refine (HN.out _).mono ?_; rintro e w6 ⟨rfl, hb6⟩))
      go_ret
      exact ⟨rfl, below_step hbw hb6⟩
end Go.Proofs.YtgeihpaealomkaaDoor
