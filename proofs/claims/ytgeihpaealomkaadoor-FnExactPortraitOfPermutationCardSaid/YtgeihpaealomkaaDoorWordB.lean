/- Words of a number: 'levelWord' and 'l01WordOf' make the same word. -/
import Derived.Test.YtgeihpaealomkaaDoorWordA
namespace Go.Proofs.YtgeihpaealomkaaDoor
open Go.RowKit

theorem Tryd.info5 : (Tryd.prog.info? 5).map (fun i => (i.zero, i.size, i.bytes)) = some (some (.int .u8 0), 1, 1) := by kernel_rfl
theorem wordOf_dig (d n : Nat) (k : Int) (hk : 0 ≤ k) : (⟨(wordOf d n (k / d).toNat).toArray⟩ : ByteArray) ++ ⟨#[dig (k % d)]⟩ = ⟨(wordOf d (n + 1) k.toNat).toArray⟩ := by
  obtain ⟨q, rfl⟩ := Int.eq_ofNat_of_zero_le hk
  rw [show ((q : Int) / d).toNat = q / d from by rw [← Int.natCast_ediv]; rfl, show dig ((q : Int) % d) = UInt8.ofNat (48 + q % d) from by unfold dig; rw [← Int.natCast_emod]; rfl, Int.toNat_natCast]
  rw [ByteArray.mk_append_mk, wordOf]

set_option maxRecDepth 100000 in
set_option maxHeartbeats 600000 in
theorem l01WordOf_calls (d : Nat) (hd : d = 2 ∨ d = 3) (n : Nat) : ∀ (m k : Int) (w : World), n ≤ 5 → m ≤ n → n ≤ m → 0 ≤ k → k ≤ 242 →
    Calls Tryd.prog 63 #[.int .i64 d, .int .i64 m, .int .i64 k] w fun e w' => e = .returned (.string ⟨(wordOf d n k.toNat).toArray⟩) ∧ Below w.heap.size w w' := by
  induction n with
  | zero =>
    intro m k w _ h1 h2 _ _
    obtain rfl : m = 0 := by omega
    go_enter Tryd.func63, Tryd.ntmps63
    go_wp2_with fail
    go_ret
    exact ⟨rfl, Below.refl _ _⟩
  | succ n ih =>
    intro m k w hn h1 h2 hk0 hk
    have hd0 : (1 : Int) ≤ d := by omega
    have hd3 : (d : Int) ≤ 3 := by omega
    have hdz : ((d : Int) == 0) = false := by simp; omega
    have hnz : (m == 0) = false := by simp; omega
    have hq0 : 0 ≤ k / d := Int.ediv_nonneg hk0 (by omega)
    have hq1 : k / d ≤ 242 := Int.le_trans (Int.ediv_le_self _ hk0) hk
    have hr0 : 0 ≤ k % d := Int.emod_nonneg _ (by omega)
    have hr1 : k % d < 3 := Int.lt_of_lt_of_le (Int.emod_lt_of_pos _ (by omega)) hd3
    have hw : IntKind.u8.wrap (IntKind.i64.wrap (48 + k.tmod d)) = ((dig (k % d)).toNat : Int) := by rw [Int.tmod_eq_emod_of_nonneg hk0]; exact dig_wrap _ hr0 (by omega)
    have hw2 : IntKind.u8.wrap (IntKind.i64.wrap (48 + k % d)) = ((dig (k % d)).toNat : Int) := dig_wrap _ hr0 (by omega)
    have hqd : IntKind.i64.wrap (k.tdiv d) = k / d := by rw [Int.tdiv_eq_ediv_of_nonneg hk0]; exact IntWalk.i64_in _ (by omega)
    have hm1 : IntKind.i64.wrap (m - 1) = m - 1 := IntWalk.i64_in _ (by omega)
    have hcv := fun W b => run_str_new (P := Tryd.prog) Tryd.underlying80 Tryd.underlying5 Tryd.underlying9 W b 1
    have hcd := fun W b => run_str_new_drew (P := Tryd.prog) Tryd.underlying80 Tryd.underlying5 Tryd.underlying9 W b 1
    have hsz : ¬ 9223372036854775807 < (wordOf d n (k / d).toNat).length + 1 := by rw [length_wordOf]; omega
    go_enter Tryd.func63, Tryd.ntmps63
    go_wp2_with fail
    go_region_with (go_at_call 63; refine (ih _ _ _ (by omega) (by omega) (by omega) hq0 hq1).mono ?_; rintro e w1 ⟨rfl, hb⟩; try (have hk1 := kept hb (heap_alloc_new w (.cells #[.int .u8 ((dig (k % d)).toNat : Int)] 5)) (by simp); have hcv1 := run_str_block w1 80 9 5 _ 1 1 _ _ [dig (k % d)] Tryd.underlying80 Tryd.underlying5 Tryd.underlying9 rfl hk1 rfl; clear hk1))
    all_goals
      go_wp2
      go_ret
      exact ⟨ret_str (wordOf_dig d n k hk0), by (repeat (first | exact Below.refl _ _ | refine below_drew' ?_ | refine below_drewN' ?_ _ | refine below_alloc' ?_ _ | refine below_set' ?_ (by (try simp); (try omega)) _ | refine below_step ?_ (by assumption)))⟩
end Go.Proofs.YtgeihpaealomkaaDoor
