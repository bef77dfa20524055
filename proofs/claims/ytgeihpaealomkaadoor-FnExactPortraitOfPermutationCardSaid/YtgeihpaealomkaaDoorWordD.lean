/- Numbers of words, and the checks on their letters. -/
import Derived.Test.YtgeihpaealomkaaDoorWordC
namespace Go.Proofs.YtgeihpaealomkaaDoor
open Go.RowKit

theorem size_list (s : ByteArray) : s.size = s.data.toList.length := (Array.length_toList).symm
theorem take_snoc {α : Type} (l : List α) (k : Nat) (h : k < l.length) : l.take (k + 1) = l.take k ++ [l[k]] := by
  rw [List.take_succ_eq_append_getElem h]
/-- The number of a word. -/
def numL (d : Nat) (l : List UInt8) : Nat := l.foldl (fun a c => a * d + (c.toNat - 48)) 0
theorem numL_snoc (d : Nat) (l : List UInt8) (c : UInt8) : numL d (l ++ [c]) = numL d l * d + (c.toNat - 48) := by simp [numL, List.foldl_append]
/-- A byte that is a letter of d. -/
def letterB (d : Nat) (c : UInt8) : Bool := decide (48 ≤ c.toNat) && decide (c.toNat < 48 + d)
theorem letterB_iff (d : Nat) (c : UInt8) : letterB d c = true ↔ 48 ≤ c.toNat ∧ c.toNat < 48 + d := by simp [letterB]
/-- All bytes are letters of d. -/
def lettersL (d : Nat) (l : List UInt8) : Bool := l.all (letterB d)
theorem lettersL_at {d : Nat} {l : List UInt8} (h : lettersL d l = true) (k : Nat) (hk : k < l.length) : 48 ≤ l[k].toNat ∧ l[k].toNat < 48 + d :=
  (letterB_iff d _).1 (by simpa using (List.all_eq_true.1 h) l[k] (List.getElem_mem hk))
theorem lettersL_snoc (d : Nat) (l : List UInt8) (c : UInt8) : lettersL d (l ++ [c]) = (lettersL d l && letterB d c) := by simp [lettersL]
theorem lettersL_take (d : Nat) (l : List UInt8) (k : Nat) (h : k < l.length) (hc : letterB d l[k] = false) : lettersL d l = false := by
  unfold lettersL; rw [List.all_eq_false]; exact ⟨l[k], List.getElem_mem h, by simp [hc]⟩
theorem numL_take_lt (d : Nat) (l : List UInt8) (h : lettersL d l = true) : ∀ k, k ≤ l.length → numL d (l.take k) < d ^ k
  | 0, _ => by simp [numL]
  | k + 1, hk => by
    have hlt : k < l.length := hk
    have ih := numL_take_lt d l h k (by omega)
    obtain ⟨h1, h2⟩ := lettersL_at h k hlt
    rw [take_snoc l k hlt, numL_snoc, Nat.pow_succ]
    generalize numL d (l.take k) = a at *
    generalize d ^ k = p at *
    have : (a + 1) * d ≤ p * d := Nat.mul_le_mul_right d ih
    rw [Nat.add_mul] at this
    omega
def numI (d : Nat) (l : List UInt8) : Int := (numL d l : Nat)
theorem numI_zero (d : Nat) (l : List UInt8) : numI d (l.take 0) = 0 := by simp [numI, numL]
theorem numI_step (d : Nat) (l : List UInt8) (k : Nat) (h : k < l.length) (h48 : 48 ≤ l[k].toNat) : numI d (l.take (k + 1)) = numI d (l.take k) * d + ((l[k].toNat : Int) - 48) := by
  unfold numI; rw [take_snoc l k h, numL_snoc, Int.natCast_add, Int.natCast_mul]; omega
theorem numI_all (d : Nat) (l : List UInt8) : numI d (l.take l.length) = numI d l := by rw [List.take_length]
theorem numI_bd (d : Nat) (l : List UInt8) (hd : d ≤ 3) (hl : l.length ≤ 5) (h : lettersL d l = true) (k : Nat) (hk : k ≤ l.length) : 0 ≤ numI d (l.take k) ∧ numI d (l.take k) ≤ 242 := by
  have h1 := numL_take_lt d l h k hk
  have h2 := pow_le d k hd (by omega)
  unfold numI; omega
theorem numI_mul_bd (d : Nat) (l : List UInt8) (hd : d ≤ 3) (hl : l.length ≤ 5) (h : lettersL d l = true) (k : Nat) (hk : k ≤ l.length) : 0 ≤ numI d (l.take k) * d ∧ numI d (l.take k) * d ≤ 726 := by
  have h1 := numI_bd d l hd hl h k hk
  generalize numI d (l.take k) = p at *
  obtain ⟨q, rfl⟩ := Int.eq_ofNat_of_zero_le h1.1
  have h1 : q * d ≤ 242 * 3 := Nat.mul_le_mul (by omega) hd
  have h2 : ((q * d : Nat) : Int) = (q : Int) * d := Int.natCast_mul q d
  omega

set_option maxRecDepth 100000 in
theorem levelNumber_calls (d : Nat) (s : ByteArray) (hd : d ≤ 3) (hs : s.data.toList.length ≤ 5) (hl : lettersL d s.data.toList = true) (w : World) :
    Calls Tryd.prog 82 #[.int .i64 d, .string s] w fun e w' => e = .returned (.int .i64 (numI d s.data.toList)) ∧ w = w' := by
  have hsz : s.size = s.data.toList.length := size_list s
  have hs5 : s.size ≤ 5 := by omega
  have Hsz := Lib.hid hsz; clear hsz
  go_enter Tryd.func82, Tryd.ntmps82
  go_wp2
  go_loop [5, 9] (fun v i => ∃ k : Nat, k ≤ s.size ∧ i = .int .i64 k ∧ v = .int .i64 (numI d (s.data.toList.take k))) (fun _ i => s.size - (intOf i).toNat)
  case atStart => exact ⟨0, Nat.zero_le _, rfl, by rw [numI_zero]⟩
  case round =>
    obtain ⟨k, hk, rfl, rfl⟩ := hrel
    obtain ⟨hm0, hm1⟩ := numI_mul_bd d s.data.toList hd hs hl k (by rw [← Hsz.out]; exact hk)
    by_cases hlt : k < s.size
    · have hlt' : k < s.data.toList.length := by rw [← Hsz.out]; exact hlt
      have hat := lettersL_at hl k hlt'
      have hst := numI_step d s.data.toList k hlt' hat.1
      have he : s.data.toList[k] = s[k] := rfl
      rw [he] at hst hat
      obtain ⟨h48, h51⟩ := hat
      have Hst := Lib.hid hst; clear hst he
      go_wp2
      go_round
      case rel => exact ⟨k + 1, by omega, by go_num, by rw [Hst.out]⟩
      case measure => simp [intOf] <;> omega
    · go_wp2
      go_ret
      obtain rfl : k = s.size := by omega
      exact ⟨ret_int (by rw [Hsz.out, numI_all]), rfl⟩

set_option maxRecDepth 100000 in
theorem l01NumberOf_calls (d : Nat) (s : ByteArray) (hd : d ≤ 3) (hs : s.data.toList.length ≤ 5) (hl : lettersL d s.data.toList = true) (w : World) :
    Calls Tryd.prog 80 #[.int .i64 d, .string s] w fun e w' => e = .returned (.int .i64 (numI d s.data.toList)) ∧ w = w' := by
  have hsz : s.size = s.data.toList.length := size_list s
  have hs5 : s.size ≤ 5 := by omega
  have Hsz := Lib.hid hsz; clear hsz
  go_enter Tryd.func80, Tryd.ntmps80
  go_wp2
  go_loop [5, 6] (fun v i => ∃ k : Nat, k ≤ s.size ∧ i = .int .i64 k ∧ v = .int .i64 (numI d (s.data.toList.take k))) (fun _ i => s.size - (intOf i).toNat)
  case atStart => exact ⟨0, Nat.zero_le _, rfl, by rw [numI_zero]⟩
  case round =>
    obtain ⟨k, hk, rfl, rfl⟩ := hrel
    obtain ⟨hm0, hm1⟩ := numI_mul_bd d s.data.toList hd hs hl k (by rw [← Hsz.out]; exact hk)
    by_cases hlt : k < s.size
    · have hlt' : k < s.data.toList.length := by rw [← Hsz.out]; exact hlt
      have hat := lettersL_at hl k hlt'
      have hst := numI_step d s.data.toList k hlt' hat.1
      have he : s.data.toList[k] = s[k] := rfl
      rw [he] at hst hat
      obtain ⟨h48, h51⟩ := hat
      have Hst := Lib.hid hst; clear hst he
      go_wp2
      go_round
      case rel => exact ⟨k + 1, by omega, by go_num, by rw [Hst.out]⟩
      case measure => simp [intOf] <;> omega
    · go_wp2
      go_ret
      obtain rfl : k = s.size := by omega
      exact ⟨ret_int (by rw [Hsz.out, numI_all]), rfl⟩

theorem letters_next {d : Nat} {l : List UInt8} {k : Nat} (h : k < l.length) (h1 : lettersL d (l.take k) = true) (h2 : letterB d l[k] = true) : lettersL d (l.take (k + 1)) = true := by
  rw [take_snoc l k h, lettersL_snoc, h1, h2]; rfl

/-- Is it a word of d letters? -/
def wordB (d : Nat) (s : ByteArray) : Bool := decide (s.size ≤ 40) && lettersL d s.data.toList
theorem wordB_iff (d : Nat) (s : ByteArray) : wordB d s = true ↔ s.size ≤ 40 ∧ lettersL d s.data.toList = true := by simp [wordB]

end Go.Proofs.YtgeihpaealomkaaDoor
