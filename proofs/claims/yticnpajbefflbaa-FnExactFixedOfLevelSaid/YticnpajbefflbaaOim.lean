/- Orders of permutations: the program. -/
import Derived.Test.YticnpajbefflbaaOrdT
namespace Go.Proofs.Yticnpajbefflbaa
open Go.RowKit

theorem ret_o1 {a b : Int} (h : a = b) : Ending.returned (.int .i64 a) = Ending.returned (.int .i64 b) := by rw [h]
theorem gcd_next (p q : Nat) : Nat.gcd q (p % q) = Nat.gcd p q := by
  rw [Nat.gcd_comm q (p % q), ← Nat.gcd_rec q p, Nat.gcd_comm]
theorem tmod_nat (p q : Nat) : Int.tmod (p : Int) (q : Int) = ((p % q : Nat) : Int) := by rw [Int.tmod_eq_emod_of_nonneg (by omega)]; rfl
theorem tdiv_nat (p q : Nat) : Int.tdiv (p : Int) (q : Int) = ((p / q : Nat) : Int) := by rw [Int.tdiv_eq_ediv_of_nonneg (by omega)]; rfl
theorem lc_facts (a b : Nat) (ha : 1 ≤ a) (hb : 1 ≤ b) (hab : a * b ≤ 7625597484987) :
    a ≤ 7625597484987 ∧ b ≤ 7625597484987 ∧ 1 ≤ Nat.gcd a b ∧ wrap64 ((a : Int) / (Nat.gcd a b : Nat)) = ((a / Nat.gcd a b : Nat) : Int) ∧ wrap64 (((a / Nat.gcd a b : Nat) : Int) * (b : Int)) = ((lcN a b : Nat) : Int) := by
  have ha2 : a ≤ a * b := Nat.le_mul_of_pos_right _ (by omega)
  have hb2 : b ≤ a * b := Nat.le_mul_of_pos_left _ (by omega)
  have hlc := lcN_le a b
  have hg0 : 0 < Nat.gcd a b := Nat.gcd_pos_of_pos_left _ (by omega)
  have hdiv : a / Nat.gcd a b ≤ a := Nat.div_le_self _ _
  refine ⟨by omega, by omega, by omega, ?_, ?_⟩
  · rw [← Int.natCast_ediv]
    generalize a / Nat.gcd a b = h at *
    unfold wrap64; omega
  · have : ((a / Nat.gcd a b : Nat) : Int) * (b : Int) = ((lcN a b : Nat) : Int) := by unfold lcN; rw [Int.natCast_mul]
    rw [this]
    generalize lcN a b = h at *
    unfold wrap64; omega

set_option maxRecDepth 100000 in
set_option maxHeartbeats 1000000 in
theorem leastMultiple_calls (a b : Nat) (ha : 1 ≤ a) (hb : 1 ≤ b) (hab : a * b ≤ 7625597484987) (w : World) :
    Calls Try.prog 67 #[.int .i64 a, .int .i64 b] w fun e w' => e = .returned (.int .i64 (lcN a b : Nat)) ∧ Below w.heap.size w w' := by
  obtain ⟨ha2, hb2, hg0, hw1, hw2⟩ := lc_facts a b ha hb hab
  have Hw1 := Lib.hid hw1
  have Hw2 := Lib.hid hw2
  clear hw1 hw2 hab ha hb
  generalize lcN a b = r at *
  generalize a / Nat.gcd a b = h at *
  go_enter Try.func67, Try.ntmps67
  go_wp2
  go_loopw [5, 6] (fun x y wr => ∃ p q : Nat, x = .int .i64 p ∧ y = .int .i64 q ∧ Hid (Nat.gcd p q = Nat.gcd a b) ∧ p ≤ 7625597484987 ∧ q ≤ 7625597484987 ∧ Below w.heap.size w wr) (fun _ y _ => (intOf y).toNat)
  case atStart => exact ⟨a, b, rfl, rfl, Lib.hid rfl, ha2, hb2, Below.refl _ _⟩
  case round =>
    obtain ⟨p, q, rfl, rfl, Hg, hp, hq, hbr⟩ := hrel
    by_cases hlt : 0 < q
    · have hqi : (0 : Int) < (q : Int) := by omega
      have hrm := tmod_nat p q
      have hlt2 : p % q < q := Nat.mod_lt _ hlt
      have Hg2 : Hid (Nat.gcd q (p % q) = Nat.gcd a b) := Lib.hid ((gcd_next p q).trans Hg.out)
      generalize p % q = m at *
      go_wp2
      go_region
      all_goals
        go_wp2
        go_roundw
        case rel => exact ⟨q, m, rfl, rfl, Hg2, hq, by omega, hbr.drew⟩
        case measure => simp [intOf] <;> omega
    · obtain rfl : q = 0 := by omega
      have hpg : p = Nat.gcd a b := by rw [← Hg.out, Nat.gcd_zero_right]
      rw [← hpg] at Hw1 hg0
      clear hpg Hg
      have hw1 := Hw1.out
      have hw2 := Hw2.out
      go_wp2
      go_ret
      exact ⟨ret_o1 hw2, hbr⟩

theorem ret_o {a b : Nat} (h : a = b) : Ending.returned (.int .i64 (a : Int)) = Ending.returned (.int .i64 (b : Int)) := by rw [h]
set_option maxRecDepth 100000 in
set_option maxHeartbeats 1000000 in
theorem orderOfImages_calls (v : Value) (im : List Int) (hin : inB im) (hl : im.length ≤ 100000) (hs : ∀ k (hk : k < (cycL im).length), 1 ≤ ordL ((cycL im).take k) ∧ ordL ((cycL im).take k) ≤ 7625597484987 ∧ ∃ c : Nat, (cycL im)[k] = (c : Int) ∧ 1 ≤ c ∧ c ≤ 7776 ∧ ordL ((cycL im).take k) * c ≤ 7625597484987 ∧ ordL ((cycL im).take (k + 1)) = lcN (ordL ((cycL im).take k)) c) (w : World) (hv : SeesI w v im) :
    Calls Try.prog 37 #[v] w fun e w' => e = .returned (.int .i64 (ordL (cycL im) : Nat)) ∧ Below w.heap.size w w' := by
  have HS := Lib.hid hs
  have hall := List.take_of_length_le (Nat.le_refl (cycL im).length)
  have Ha : Hid (ordL ((cycL im).take (cycL im).length) = ordL (cycL im)) := Lib.hid (by rw [hall])
  have Hcy := Lib.hid (cycleLengths_calls v im hin hl w hv)
  obtain ⟨oa, ca, rfl, hvc⟩ := hv.view
  have hcyl : (cycL im).length ≤ 100000 := Nat.le_trans (cs_ok im hin im.length (Nat.le_refl _)).2 hl
  clear hall hs hv hvc
  have HR : Hid (ordL (cycL im) = ordL (cycL im)) := Lib.hid rfl
  generalize hcy : cycL im = cy at *
  clear hcy
  go_enter Try.func37, Try.ntmps37
  go_wp2_with (go_at_call 66; refine Hcy.out.mono ?_; rintro e w3 ⟨v2, rfl, hO3, hb3⟩; have HO3 := Lib.hid hO3.sees; obtain ⟨ob, cb, rfl, hqq⟩ := hO3.view; clear hqq hO3)
  have hbw3 := hb3
  clear hb3 Hcy
  go_loopw [9, 3] (fun i o wr => ∃ k : Nat, k ≤ cy.length ∧ i = .int .i64 k ∧ o = .int .i64 (ordL (cy.take k) : Nat) ∧ Below w3.heap.size w3 wr) (fun i o _ => cy.length - (intOf i).toNat)
  case atStart => exact ⟨0, by omega, rfl, rfl, Below.refl _ _⟩
  case round =>
    obtain ⟨k, hk, rfl, rfl, hbr⟩ := hrel
    by_cases hlt : k < cy.length
    · have hki : (k : Int) < (cy.length : Int) := by omega
      obtain ⟨p1, p2, c, p3, p4, p5, p6, p7⟩ := HS.out k hlt
      obtain ⟨g, hg, _, hcz⟩ := (HO3.out.below hbr).at k hlt
      subst hg
      rw [p3] at hcz
      have Hn := Lib.hid p7
      clear p3 p7
      generalize ordL (cy.take k) = q1 at *
      go_wp2_with (go_at_call 67; refine (leastMultiple_calls q1 c p1 p4 p6 _).mono ?_; rintro e w6 ⟨rfl, hb6⟩)
      go_roundw
      case rel => exact ⟨k + 1, by omega, by go_num, by rw [Hn.out], below_step hbr hb6⟩
      case measure => simp [intOf] <;> omega
    · obtain rfl : k = cy.length := by omega
      go_wp2
      go_ret
      exact ⟨ret_o Ha.out, below_step hbw3 hbr⟩
end Go.Proofs.Yticnpajbefflbaa
