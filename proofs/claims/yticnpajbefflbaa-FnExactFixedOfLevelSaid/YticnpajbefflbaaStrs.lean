/- Slices of strings that a call has made: the marks' texts, equality. -/
import Derived.Test.YticnpajbefflbaaInts
import Derived.Test.YticnpajbefflbaaWordD
namespace Go.Proofs.Yticnpajbefflbaa
open Go.RowKit

/-- The decimal digits of a number, none for 0. -/
def dec10 (k : Nat) : List UInt8 := if k = 0 then [] else dec10 (k / 10) ++ [dig ((k % 10 : Nat) : Int)]
termination_by k
decreasing_by omega
theorem dec10_zero : dec10 0 = [] := by rw [dec10]; rfl
theorem dec10_step (k : Nat) (h : 0 < k) : dec10 k = dec10 (k / 10) ++ [dig ((k % 10 : Nat) : Int)] := by
  conv => lhs; rw [dec10]
  rw [if_neg (by omega)]
theorem dec10_len : ∀ k, (dec10 k).length ≤ k := by
  intro k
  induction k using Nat.strongRecOn with
  | ind k ih =>
    by_cases h : k = 0
    · rw [h, dec10_zero]; simp
    · rw [dec10_step k (by omega)]
      have := ih (k / 10) (by omega)
      simp; omega

/-- The text of a mark. -/
def markT (k : Nat) : ByteArray := ⟨(109 :: dec10 k).toArray⟩

set_option maxRecDepth 100000 in
set_option maxHeartbeats 600000 in
theorem markText_calls (k0 : Nat) (h0 : 0 < k0) (h1 : k0 ≤ 2097152) (w : World) :
    Calls Try.prog 42 #[.int .i64 k0] w fun e w' => e = .returned (.string (markT k0)) ∧ Below w.heap.size w w' := by
  have hlen := dec10_len k0
  have hk0 : ¬ ((k0 : Int) ≤ 0) := by omega
  have Hlen := Lib.hid hlen; clear hlen
  go_enter Try.func42, Try.ntmps42
  go_wp2_with fail
  go_loopw [0, 3] (fun kv ov wr => ∃ (k : Nat) (out : List UInt8), k ≤ 2097152 ∧ kv = .int .i64 k ∧ ov = .string ⟨out.toArray⟩ ∧ Hid (dec10 k ++ out = dec10 k0) ∧ Below w.heap.size w wr) (fun kv _ _ => (intOf kv).toNat)
  case atStart => exact ⟨k0, [], h1, rfl, rfl, Lib.hid (by simp), Below.refl _ _⟩
  case round =>
    obtain ⟨k, out, hk, rfl, rfl, HO, hbw⟩ := hrel
    have holen : out.length ≤ 2097152 := by
      have h2 := congrArg List.length HO.out
      rw [List.length_append] at h2
      have := Hlen.out
      omega
    by_cases hz : 0 < k
    · have hkp : (0 : Int) < k := by omega
      have hr0 : 0 ≤ (k : Int) % 10 := Int.emod_nonneg _ (by omega)
      have hr1 : (k : Int) % 10 < 10 := Int.emod_lt_of_pos _ (by omega)
      have hcv := fun W => run_str_new (P := Try.prog) Try.underlying93 Try.underlying5 Try.underlying9 W (dig ((k : Int) % 10)) 1
      simp only [dig_toNat _ hr0 (show (k : Int) % 10 < 200 by omega)] at hcv
      have hqd : IntKind.i64.wrap ((k : Int).tdiv 10) = (k : Int) / 10 := by rw [Int.tdiv_eq_ediv_of_nonneg (by omega)]; exact IntWalk.i64_in _ (by omega)
      have hsz : ¬ 9223372036854775807 < 1 + out.length := by omega
      have hsz2 : ¬ 9223372036854775807 < out.length + 1 := by omega
      have Hst := Lib.hid (dec10_step k hz)
      go_wp2_with fail
      go_roundw
      case rel => exact ⟨k / 10, dig ((k % 10 : Nat) : Int) :: out, by omega, by go_num, by first | rfl | (congr 1; rw [ByteArray.mk_append_mk]; simp), Lib.hid (by rw [← HO.out, Hst.out]; simp), by (repeat (first | exact Below.refl _ _ | refine below_drew' ?_ | refine below_drewN' ?_ _ | refine below_alloc' ?_ _ | refine below_set' ?_ (by (try simp); (try omega)) _ | refine below_step ?_ (by assumption)))⟩
      case measure => simp [intOf] <;> omega
    · obtain rfl : k = 0 := by omega
      have ho : out = dec10 k0 := by have := HO.out; rw [dec10_zero] at this; simpa using this
      subst ho
      have hT : Hid ((⟨#[109]⟩ : ByteArray) ++ ⟨(dec10 k0).toArray⟩ = markT k0) := Lib.hid (by rw [ByteArray.mk_append_mk]; simp [markT])
      clear HO Hlen
      generalize dec10 k0 = ds at *
      go_wp2_with fail
      go_ret
      exact ⟨ret_str hT.out, hbw⟩

/-- A slice of strings of the call's own. -/
def OwnS (w : World) (base : Nat) (v : Value) (zs : List ByteArray) : Prop := w.ownsRow base 9 1 v zs.length (zs.map Value.string)
theorem OwnS.nil (w : World) (base : Nat) : OwnS w base (.slice none 0 0) [] := World.ownsRow_nil w base _ _
theorem OwnS.below {w w1 : World} {base : Nat} {v : Value} {zs : List ByteArray} (h : OwnS w base v zs) (hb : Below w.heap.size w w1) : OwnS w1 base v zs := owns_below h hb
end Go.Proofs.Yticnpajbefflbaa
