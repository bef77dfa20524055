/- 'levelWord': the word of a number, written from its end. -/
import Derived.Test.YtgeihpaealomkaaDoorWordB
namespace Go.Proofs.YtgeihpaealomkaaDoor
open Go.RowKit

/-- What the bytes are behind j rounds: zeros ahead, the last j letters behind. -/
def lw (d n j k : Nat) : List Value := List.replicate (n - j) (Value.int .u8 0) ++ (wordOf d j k).map fun b => Value.int .u8 (b.toNat : Int)
theorem lw_length (d n j k : Nat) (h : j ≤ n) : (lw d n j k).length = n := by simp [lw, length_wordOf]; omega

theorem lw_done (d n k : Nat) : lw d n n k = (wordOf d n k).map fun b => Value.int .u8 (b.toNat : Int) := by simp [lw]
theorem lw_start (d n k : Nat) : lw d n 0 k = List.replicate n (Value.int .u8 0) := by simp [lw, wordOf]
theorem made_zero (n : Nat) : madeCells (Value.int .u8 0).cells n = (List.replicate n (Value.int .u8 0)).toArray := by
  apply Array.ext
  · simp [madeCells]
  · intro i h1 h2
    simp [madeCells, Value.cells, Nat.mod_one]

theorem divpow_step (k d j : Nat) : ((k / d ^ j : Nat) : Int) / (d : Int) = ((k / d ^ (j + 1) : Nat) : Int) := by
  rw [← Int.natCast_ediv, Nat.div_div_eq_div_mul, Nat.pow_succ]
def dv (k d j : Nat) : Int := ((k / d ^ j : Nat) : Int)
theorem dv_zero (k d : Nat) : dv k d 0 = k := by simp [dv]
theorem dv_step (k d j : Nat) : dv k d j / (d : Int) = dv k d (j + 1) := divpow_step k d j
theorem dv_bd (k d j : Nat) : 0 ≤ dv k d j ∧ dv k d j ≤ k := ⟨Int.natCast_nonneg _, by have := Nat.div_le_self k (d ^ j); unfold dv; omega⟩

theorem lw_set (d n j k i : Nat) (hi : i + 1 + j = n) (hd : d = 2 ∨ d = 3) : (lw d n j k).set i (Value.int .u8 (48 + dv k d j % (d : Int))) = lw d n (j + 1) k := by
  have hz : ((UInt8.ofNat (48 + k / d ^ j % d)).toNat : Int) = 48 + dv k d j % (d : Int) := by
    have h3 : k / d ^ j % d < 3 := by rcases hd with rfl | rfl <;> omega
    rw [UInt8.toNat_ofNat_of_lt' (by show _ < 256; omega)]
    unfold dv; rw [← Int.natCast_emod]; omega
  unfold lw
  rw [wordOf_succ, List.map_cons, hz]
  have e1 : n - j = (n - (j + 1)) + 1 := by omega
  rw [e1, List.replicate_succ', List.append_assoc, List.set_append_right _ _ (by simp; omega)]
  congr 1
  rw [List.length_replicate, show i - (n - (j + 1)) = 0 from by omega]
  rfl

set_option maxRecDepth 100000 in
theorem levelWord_calls (d n : Nat) (k0 : Int) (hd : d = 2 ∨ d = 3) (hn : n ≤ 5) (hk0 : 0 ≤ k0) (hk : k0 ≤ 242) (w : World) :
    Calls Tryd.prog 87 #[.int .i64 d, .int .i64 n, .int .i64 k0] w fun e w' => e = .returned (.string ⟨(wordOf d n k0.toNat).toArray⟩) ∧ Below w.heap.size w w' := by
  obtain ⟨k, rfl⟩ := Int.eq_ofNat_of_zero_le hk0
  rw [Int.toNat_natCast]
  have hd0 : (1 : Int) ≤ d := by omega
  have hd3 : (d : Int) ≤ 3 := by omega
  have hdz : ((d : Int) == 0) = false := by simp; omega
  obtain ⟨i0, hi, hz0, hz1, hz2⟩ := info_parts Tryd.info5
  have hmk := run_make (P := Tryd.prog) w 80 5 i0 (.int .u8 0) Tryd.underlying80 hi hz0 .i64 .i64 n n (by omega) (by omega) (by rw [hz2]; omega) (by omega)
  rw [hz1, Int.toNat_natCast, Nat.mul_one, made_zero, ← lw_start d n k] at hmk
  have Hi := Lib.hid hi; clear hi hz0 hz1 hz2
  go_enter Tryd.func87, Tryd.ntmps87
  go_wp2
  go_loopw [2, 8] (fun kv i wr => ∃ (j : Nat) (iv : Int), j ≤ n ∧ i = .int .i64 iv ∧ iv + 1 ≤ n - j ∧ n - j ≤ iv + 1 ∧ kv = .int .i64 (dv k d j) ∧ wr = w.alloc (.cells (lw d n j k).toArray 5)) (fun _ i _ => (intOf i + 1).toNat)
  case atStart => exact ⟨0, _, Nat.zero_le _, rfl, by omega, by omega, by rw [dv_zero], rfl⟩
  case round =>
    obtain ⟨j, iv, hj, rfl, h1, h2, rfl, rfl⟩ := hrel
    obtain ⟨hb0, hb1⟩ := dv_bd k d j
    have hm0 := Int.emod_nonneg (dv k d j) (b := (d : Int)) (by omega)
    have hm1 := Int.emod_lt_of_pos (dv k d j) (b := (d : Int)) (by omega)
    have hq0 : 0 ≤ dv k d j / (d : Int) := Int.ediv_nonneg hb0 (by omega)
    by_cases hlt : 0 ≤ iv
    · obtain ⟨i, rfl⟩ := Int.eq_ofNat_of_zero_le hlt
      have hsz : ((lw d n j k).toArray)[i]? = some ((lw d n j k).getD i undef) := by
        rw [List.getElem?_toArray, List.getElem?_eq_getElem (by rw [lw_length _ _ _ _ hj]; omega)]; simp [List.getD]; rw [List.getElem?_eq_getElem (by rw [lw_length _ _ _ _ hj]; omega)]; rfl
      go_wp2
      go_roundw
      case rel => exact ⟨j + 1, _, by omega, rfl, by omega, by omega, by rw [dv_step], by rw [lw_set d n j k i (by omega) hd]⟩
      case measure => simp [intOf] <;> omega
    · obtain rfl : j = n := by omega
      have hstr := run_str_block (P := Tryd.prog) (w.alloc (.cells (lw d j j k).toArray 5)) 80 9 5 w.heap.size j j _ _ (wordOf d j k) Tryd.underlying80 Tryd.underlying5 Tryd.underlying9 (length_wordOf _ _ _) (heap_alloc_new w _) (by rw [lw_done])
      go_wp2
      go_ret
      exact ⟨rfl, by (repeat (first | exact Below.refl _ _ | refine below_drew' ?_ | refine below_drewN' ?_ _ | refine below_alloc' ?_ _ | refine below_set' ?_ (by (try simp); (try omega)) _ | refine below_step ?_ (by assumption)))⟩
end Go.Proofs.YtgeihpaealomkaaDoor
