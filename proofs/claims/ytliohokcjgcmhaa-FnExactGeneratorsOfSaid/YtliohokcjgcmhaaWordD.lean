/- Contracts of the small functions on levels and numbers. -/
import Derived.Test.YtliohokcjgcmhaaWordA0
namespace Go.Proofs.Ytliohokcjgcmhaa
open Go.RowKit

theorem isLevel_calls (n : Int) (w : World) :
    Calls Try.prog 125 #[.int .i64 n] w fun e w' => e = .returned (.bool (isLev n)) ∧ w = w' := by
  by_cases h : 0 ≤ n
  · go_enter Try.func125, Try.ntmps125
    go_wp2
    go_ret
    exact ⟨by simp [isLev, h], rfl⟩
  · go_enter Try.func125, Try.ntmps125
    go_wp2
    go_ret
    exact ⟨by simp [isLev]; omega, rfl⟩

theorem l01Power_calls (d n : Nat) (hd : d ≤ 3) (hn : n ≤ 5) (w : World) :
    Calls Try.prog 120 #[.int .i64 d, .int .i64 n] w fun e w' => e = .returned (.int .i64 (pw d n)) ∧ w = w' := by
  go_enter Try.func120, Try.ntmps120
  go_wp2
  go_loop [1, 5] (fun i s => ∃ k j : Nat, k + j = n ∧ i = .int .i64 j ∧ s = .int .i64 (pw d k)) (fun i _ => (intOf i).toNat)
  case atStart => exact ⟨0, n, by omega, rfl, by rw [pw_zero]⟩
  case round =>
    obtain ⟨k, j, hk, rfl, rfl⟩ := hrel
    obtain ⟨hm0, hm1⟩ := pw_mul_bd d k hd (by omega)
    have hj : j ≤ 5 := by omega
    have Hk := Lib.hid hk; clear hk
    by_cases hlt : 0 < j
    · go_wp2
      go_round
      case rel => exact ⟨k + 1, j - 1, by have := Hk.out; omega, by rw [show ((j - 1 : Nat) : Int) = (j : Int) - 1 from by omega], by rw [pw_succ]⟩
      case measure => simp [intOf] <;> omega
    · go_wp2
      go_ret
      obtain rfl : k = n := by have := Hk.out; omega
      exact ⟨rfl, rfl⟩
end Go.Proofs.Ytliohokcjgcmhaa

namespace Go.Proofs.Ytliohokcjgcmhaa
open Go.RowKit

theorem Try.info5 : (Try.prog.info? 5).map (fun i => (i.zero, i.size, i.bytes)) = some (some (.int .u8 0), 1, 1) := by kernel_rfl
theorem wordOf_dig (d n : Nat) (k : Int) (hk : 0 ≤ k) : (⟨(wordOf d n (k / d).toNat).toArray⟩ : ByteArray) ++ ⟨#[dig (k % d)]⟩ = ⟨(wordOf d (n + 1) k.toNat).toArray⟩ := by
  obtain ⟨q, rfl⟩ := Int.eq_ofNat_of_zero_le hk
  rw [show ((q : Int) / d).toNat = q / d from by rw [← Int.natCast_ediv]; rfl, show dig ((q : Int) % d) = UInt8.ofNat (48 + q % d) from by unfold dig; rw [← Int.natCast_emod]; rfl, Int.toNat_natCast]
  rw [ByteArray.mk_append_mk, wordOf]

set_option maxRecDepth 100000 in
set_option maxHeartbeats 600000 in
theorem l01WordOf_calls (d : Nat) (hd : d = 2 ∨ d = 3) (n : Nat) : ∀ (m k : Int) (w : World), n ≤ 5 → m ≤ n → n ≤ m → 0 ≤ k → k ≤ 242 →
    Calls Try.prog 122 #[.int .i64 d, .int .i64 m, .int .i64 k] w fun e w' => e = .returned (.string ⟨(wordOf d n k.toNat).toArray⟩) ∧ Below w.heap.size w w' := by
  induction n with
  | zero =>
    intro m k w _ h1 h2 _ _
    obtain rfl : m = 0 := by omega
    go_enter Try.func122, Try.ntmps122
    go_wp2_with fail
    go_ret
    exact ⟨rfl, Below.refl _ _⟩
  | succ n ih =>
    intro m k w hn h1 h2 hk0 hk
    have hd0 : (1 : Int) ≤ d := by omega
    have hd3 : (d : Int) ≤ 3 := by omega
    have hdz : ((d : Int) == 0) = false := by simp; omega
    have hnz : (m == 0) = false := by simp; omega
    have hq0 : 0 ≤ k / d := Int.ediv_nonneg hk0 (by omega)
    have hq1 : k / d ≤ 242 := Int.le_trans (Int.ediv_le_self _ hk0) hk
    have hr0 : 0 ≤ k % d := Int.emod_nonneg _ (by omega)
    have hr1 : k % d < 3 := Int.lt_of_lt_of_le (Int.emod_lt_of_pos _ (by omega)) hd3
    have hw : IntKind.u8.wrap (IntKind.i64.wrap (48 + k.tmod d)) = ((dig (k % d)).toNat : Int) := by rw [Int.tmod_eq_emod_of_nonneg hk0]; exact dig_wrap _ hr0 (by omega)
    have hw2 : IntKind.u8.wrap (IntKind.i64.wrap (48 + k % d)) = ((dig (k % d)).toNat : Int) := dig_wrap _ hr0 (by omega)
    have hqd : IntKind.i64.wrap (k.tdiv d) = k / d := by rw [Int.tdiv_eq_ediv_of_nonneg hk0]; exact IntWalk.i64_in _ (by omega)
    have hm1 : IntKind.i64.wrap (m - 1) = m - 1 := IntWalk.i64_in _ (by omega)
    have hcv := fun W b => run_str_new (P := Try.prog) Try.underlying69 Try.underlying5 Try.underlying9 W b 1
    have hcd := fun W b => run_str_new_drew (P := Try.prog) Try.underlying69 Try.underlying5 Try.underlying9 W b 1
    have hsz : ¬ 9223372036854775807 < (wordOf d n (k / d).toNat).length + 1 := by rw [length_wordOf]; omega
    go_enter Try.func122, Try.ntmps122
    go_wp2_with fail
    go_region_with (go_at_call 122; refine (ih _ _ _ (by omega) (by omega) (by omega) hq0 hq1).mono ?_; rintro e w1 ⟨rfl, hb⟩; try (have hk1 := kept hb (heap_alloc_new w (.cells #[.int .u8 ((dig (k % d)).toNat : Int)] 5)) (by simp); have hcv1 := run_str_block w1 69 9 5 _ 1 1 _ _ [dig (k % d)] Try.underlying69 Try.underlying5 Try.underlying9 rfl hk1 rfl; clear hk1))
    all_goals
      go_wp2
      go_ret
      exact ⟨ret_str (wordOf_dig d n k hk0), by (repeat (first | exact Below.refl _ _ | refine below_drew' ?_ | refine below_drewN' ?_ _ | refine below_alloc' ?_ _ | refine below_set' ?_ (by (try simp); (try omega)) _ | refine below_step ?_ (by assumption)))⟩
end Go.Proofs.Ytliohokcjgcmhaa

namespace Go.Proofs.Ytliohokcjgcmhaa
open Go.RowKit

/-- What the bytes are behind j rounds: zeros ahead, the last j letters behind. -/
def lw (d n j k : Nat) : List Value := List.replicate (n - j) (Value.int .u8 0) ++ (wordOf d j k).map fun b => Value.int .u8 (b.toNat : Int)
theorem lw_length (d n j k : Nat) (h : j ≤ n) : (lw d n j k).length = n := by simp [lw, length_wordOf]; omega

theorem lw_done (d n k : Nat) : lw d n n k = (wordOf d n k).map fun b => Value.int .u8 (b.toNat : Int) := by simp [lw]
theorem lw_start (d n k : Nat) : lw d n 0 k = List.replicate n (Value.int .u8 0) := by simp [lw, wordOf]
theorem made_zero (n : Nat) : madeCells (Value.int .u8 0).cells n = (List.replicate n (Value.int .u8 0)).toArray := by
  apply Array.ext
  · simp [madeCells]
  · intro i h1 h2
    simp [madeCells, Value.cells, Nat.mod_one]

theorem divpow_step (k d j : Nat) : ((k / d ^ j : Nat) : Int) / (d : Int) = ((k / d ^ (j + 1) : Nat) : Int) := by
  rw [← Int.natCast_ediv, Nat.div_div_eq_div_mul, Nat.pow_succ]
def dv (k d j : Nat) : Int := ((k / d ^ j : Nat) : Int)
theorem dv_zero (k d : Nat) : dv k d 0 = k := by simp [dv]
theorem dv_step (k d j : Nat) : dv k d j / (d : Int) = dv k d (j + 1) := divpow_step k d j
theorem dv_bd (k d j : Nat) : 0 ≤ dv k d j ∧ dv k d j ≤ k := ⟨Int.natCast_nonneg _, by have := Nat.div_le_self k (d ^ j); unfold dv; omega⟩

theorem lw_set (d n j k i : Nat) (hi : i + 1 + j = n) (hd : d = 2 ∨ d = 3) : (lw d n j k).set i (Value.int .u8 (48 + dv k d j % (d : Int))) = lw d n (j + 1) k := by
  have hz : ((UInt8.ofNat (48 + k / d ^ j % d)).toNat : Int) = 48 + dv k d j % (d : Int) := by
    have h3 : k / d ^ j % d < 3 := by rcases hd with rfl | rfl <;> omega
    rw [UInt8.toNat_ofNat_of_lt' (by show _ < 256; omega)]
    unfold dv; rw [← Int.natCast_emod]; omega
  unfold lw
  rw [wordOf_succ, List.map_cons, hz]
  have e1 : n - j = (n - (j + 1)) + 1 := by omega
  rw [e1, List.replicate_succ', List.append_assoc, List.set_append_right _ _ (by simp; omega)]
  congr 1
  rw [List.length_replicate, show i - (n - (j + 1)) = 0 from by omega]
  rfl

end Go.Proofs.Ytliohokcjgcmhaa

namespace Go.Proofs.Ytliohokcjgcmhaa
open Go.RowKit

theorem size_list (s : ByteArray) : s.size = s.data.toList.length := (Array.length_toList).symm
theorem take_snoc {α : Type} (l : List α) (k : Nat) (h : k < l.length) : l.take (k + 1) = l.take k ++ [l[k]] := by
  rw [List.take_succ_eq_append_getElem h]
/-- The number of a word. -/
def numL (d : Nat) (l : List UInt8) : Nat := l.foldl (fun a c => a * d + (c.toNat - 48)) 0
theorem numL_snoc (d : Nat) (l : List UInt8) (c : UInt8) : numL d (l ++ [c]) = numL d l * d + (c.toNat - 48) := by simp [numL, List.foldl_append]
/-- A byte that is a letter of d. -/
def letterB (d : Nat) (c : UInt8) : Bool := decide (48 ≤ c.toNat) && decide (c.toNat < 48 + d)
theorem letterB_iff (d : Nat) (c : UInt8) : letterB d c = true ↔ 48 ≤ c.toNat ∧ c.toNat < 48 + d := by simp [letterB]
/-- All bytes are letters of d. -/
def lettersL (d : Nat) (l : List UInt8) : Bool := l.all (letterB d)
theorem lettersL_at {d : Nat} {l : List UInt8} (h : lettersL d l = true) (k : Nat) (hk : k < l.length) : 48 ≤ l[k].toNat ∧ l[k].toNat < 48 + d :=
  (letterB_iff d _).1 (by simpa using (List.all_eq_true.1 h) l[k] (List.getElem_mem hk))
theorem lettersL_snoc (d : Nat) (l : List UInt8) (c : UInt8) : lettersL d (l ++ [c]) = (lettersL d l && letterB d c) := by simp [lettersL]
theorem lettersL_take (d : Nat) (l : List UInt8) (k : Nat) (h : k < l.length) (hc : letterB d l[k] = false) : lettersL d l = false := by
  unfold lettersL; rw [List.all_eq_false]; exact ⟨l[k], List.getElem_mem h, by simp [hc]⟩
theorem numL_take_lt (d : Nat) (l : List UInt8) (h : lettersL d l = true) : ∀ k, k ≤ l.length → numL d (l.take k) < d ^ k
  | 0, _ => by simp [numL]
  | k + 1, hk => by
    have hlt : k < l.length := hk
    have ih := numL_take_lt d l h k (by omega)
    obtain ⟨h1, h2⟩ := lettersL_at h k hlt
    rw [take_snoc l k hlt, numL_snoc, Nat.pow_succ]
    generalize numL d (l.take k) = a at *
    generalize d ^ k = p at *
    have : (a + 1) * d ≤ p * d := Nat.mul_le_mul_right d ih
    rw [Nat.add_mul] at this
    omega
def numI (d : Nat) (l : List UInt8) : Int := (numL d l : Nat)
theorem numI_zero (d : Nat) (l : List UInt8) : numI d (l.take 0) = 0 := by simp [numI, numL]
theorem numI_step (d : Nat) (l : List UInt8) (k : Nat) (h : k < l.length) (h48 : 48 ≤ l[k].toNat) : numI d (l.take (k + 1)) = numI d (l.take k) * d + ((l[k].toNat : Int) - 48) := by
  unfold numI; rw [take_snoc l k h, numL_snoc, Int.natCast_add, Int.natCast_mul]; omega
theorem numI_all (d : Nat) (l : List UInt8) : numI d (l.take l.length) = numI d l := by rw [List.take_length]
theorem numI_bd (d : Nat) (l : List UInt8) (hd : d ≤ 3) (hl : l.length ≤ 5) (h : lettersL d l = true) (k : Nat) (hk : k ≤ l.length) : 0 ≤ numI d (l.take k) ∧ numI d (l.take k) ≤ 242 := by
  have h1 := numL_take_lt d l h k hk
  have h2 := pow_le d k hd (by omega)
  unfold numI; omega
theorem numI_mul_bd (d : Nat) (l : List UInt8) (hd : d ≤ 3) (hl : l.length ≤ 5) (h : lettersL d l = true) (k : Nat) (hk : k ≤ l.length) : 0 ≤ numI d (l.take k) * d ∧ numI d (l.take k) * d ≤ 726 := by
  have h1 := numI_bd d l hd hl h k hk
  generalize numI d (l.take k) = p at *
  obtain ⟨q, rfl⟩ := Int.eq_ofNat_of_zero_le h1.1
  have h1 : q * d ≤ 242 * 3 := Nat.mul_le_mul (by omega) hd
  have h2 : ((q * d : Nat) : Int) = (q : Int) * d := Int.natCast_mul q d
  omega

theorem letters_next {d : Nat} {l : List UInt8} {k : Nat} (h : k < l.length) (h1 : lettersL d (l.take k) = true) (h2 : letterB d l[k] = true) : lettersL d (l.take (k + 1)) = true := by
  rw [take_snoc l k h, lettersL_snoc, h1, h2]; rfl

/-- Is it a word of d letters? -/
def wordB (d : Nat) (s : ByteArray) : Bool := decide (s.size ≤ 40) && lettersL d s.data.toList
theorem wordB_iff (d : Nat) (s : ByteArray) : wordB d s = true ↔ s.size ≤ 40 ∧ lettersL d s.data.toList = true := by simp [wordB]

end Go.Proofs.Ytliohokcjgcmhaa
