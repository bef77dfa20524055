/- Orders of portraits: the program and the model. -/
import Derived.Test.YticnpajbefflbadDoorOim
import Derived.Test.YticnpajbefflbadDoorOrd
namespace Go.Proofs.YticnpajbefflbadDoor
open Go.RowKit

set_option maxRecDepth 100000 in
set_option maxHeartbeats 1000000 in
theorem l03Divisor_calls (a b : Nat) (ha : a ≤ 7625597484987) (hb : b ≤ 7625597484987) (w : World) :
    Calls Tryd.prog 11 #[.int .i64 a, .int .i64 b] w fun e w' => e = .returned (.int .i64 (Nat.gcd a b : Nat)) ∧ w = w' := by
  go_enter Tryd.func11, Tryd.ntmps11
  go_wp2
  go_loopw [0, 1, 5] (fun x y z wr => ∃ p q : Nat, x = .int .i64 p ∧ y = .int .i64 q ∧ Hid (Nat.gcd p q = Nat.gcd a b) ∧ p ≤ 7625597484987 ∧ q ≤ 7625597484987 ∧ w = wr) (fun _ y _ _ => (intOf y).toNat)
  case atStart => exact ⟨a, b, rfl, rfl, Lib.hid rfl, ha, hb, rfl⟩
  case round =>
    obtain ⟨p, q, rfl, rfl, Hg, hp, hq, rfl⟩ := hrel
    by_cases hlt : 0 < q
    · have hqi : (0 : Int) < (q : Int) := by omega
      have hrm := tmod_nat p q
      have hlt2 : p % q < q := Nat.mod_lt _ hlt
      have Hg2 : Hid (Nat.gcd q (p % q) = Nat.gcd a b) := Lib.hid ((gcd_next p q).trans Hg.out)
      generalize p % q = m at *
      go_wp2
      go_roundw
      case rel => exact ⟨q, m, rfl, rfl, Hg2, hq, by omega, by simp⟩
      case measure => simp [intOf] <;> omega
    · obtain rfl : q = 0 := by omega
      have hpg : p = Nat.gcd a b := by rw [← Hg.out, Nat.gcd_zero_right]
      subst hpg
      go_wp2
      go_ret
      exact ⟨rfl, rfl⟩

def ordR (d n : Int) (zs : List Int) : Int := if codeP d n zs = 0 then (ordL (cycL (imgsP d.toNat n.toNat zs)) : Nat) else 0
theorem pow81 (d n : Nat) (hd : d ≤ 3) (hn : n ≤ 4) : d ^ n ≤ 81 := by
  have : ∀ d, d < 4 → ∀ n, n < 5 → d ^ n ≤ 81 := by decide
  exact this d (by omega) n (by omega)

set_option maxRecDepth 100000 in
set_option maxHeartbeats 1000000 in
theorem iOrderOfPortrait_calls (d n : Int) (v : Value) (zs : List Int) (w : World) (hv : SeesI w v zs) (hT : TabsAt w) :
    Calls Tryd.prog 6 #[.int .i64 d, .int .i64 n, v] w fun e w' => e = .returned (.tuple #[.int .i64 (ordR d n zs), .int .i64 (codeP d n zs)]) ∧ Below w.heap.size w w' := by
  have hE : Blk (w.alloc (.cells #[v] 22)) w.heap.size #[v] 22 := Blk.new _ _ _
  have hbw : Below w.heap.size w (w.alloc (.cells #[v] 22)) := by (repeat (first | exact Below.refl _ _ | refine below_drew' ?_ | refine below_drewN' ?_ _ | refine below_alloc' ?_ _ | refine below_set' ?_ (by (try simp); (try omega)) _ | refine below_step ?_ (by assumption)))
  have hv2 := hv.below hbw
  obtain ⟨oa, ca, hve, _⟩ := hv.view
  subst hve
  have Hv := Lib.hid hv
  have HT := Lib.hid hT
  have HC := Lib.hid (checkPortraits_calls d n _ zs _ hv2 w.heap.size hE)
  clear hv hv2 hE hT
  by_cases hc : codeP d n zs = 0
  · obtain ⟨k1, k2, k3⟩ := codeP_zero d n zs hc
    have HR : Hid (ordR d n zs = (ordL (cycL (imgsP d.toNat n.toNat zs)) : Nat)) := Lib.hid (by unfold ordR; rw [if_pos hc])
    have Hc := Lib.hid hc
    obtain ⟨m, rfl⟩ := Int.eq_ofNat_of_zero_le (a := n) (by omega)
    obtain ⟨c, rfl⟩ := Int.eq_ofNat_of_zero_le (a := d) (by omega)
    rw [Int.toNat_natCast] at *
    rw [Int.toNat_natCast] at *
    rw [hc] at HC
    have HL := Lib.hid (fun W h1 h2 => levelImages_calls c m (by omega) (by omega) zs k3 (.slice oa zs.length ca) W h1 h2)
    have Hin := Lib.hid (imgs_in c m (by omega) (by omega) zs k3)
    have Hle : Hid ((imgsP c m zs).length ≤ 81) := Lib.hid (by rw [imgsP_len]; exact pow81 c m (by omega) (by omega))
    clear k1 k2 k3 hc
    generalize imgsP c m zs = im at *
    obtain ⟨b1, b2, b3⟩ := cyc_bd im Hin.out Hle.out
    have Hoi := Lib.hid (fun v W h => orderOfImages_calls v im Hin.out (by have := Hle.out; omega) (fun k hk => by obtain ⟨q1, q2, c, q3, q4, q5, q6, q7⟩ := ord_step (cycL im) b1 b2 k hk; exact ⟨q1, q2, c, q3, q4, by omega, q6, q7⟩) W h)
    clear b1 b2 b3
    generalize cycL im = cy at *
    go_enter Tryd.func6, Tryd.ntmps6
    go_wp2_with (first | (go_at_call 12; refine HC.out.mono ?_; rintro e w1 ⟨rfl, hb1⟩; have hbw1 := below_step hbw hb1) | (go_at_call 14; refine (HL.out _ (Hv.out.below hbw1) (HT.out.below hbw1)).mono ?_; rintro e w2 ⟨v1, rfl, hO2, hb2⟩; have hbw2 := below_step hbw1 hb2) | (go_at_call 13; refine (Hoi.out _ _ hO2.sees).mono ?_; rintro e w3 ⟨rfl, hb3⟩; have hbw3 := below_step hbw2 hb3))
    go_ret2
    exact ⟨ret_jj HR.out.symm Hc.out.symm, hbw3⟩
  · have HR : Hid (ordR d n zs = 0) := Lib.hid (by unfold ordR; rw [if_neg hc])
    have hcb : (codeP d n zs != 0) = true := by simpa using hc
    generalize codeP d n zs = cc at *
    go_enter Tryd.func6, Tryd.ntmps6
    go_wp2_with (go_at_call 12; refine HC.out.mono ?_; rintro e w1 ⟨rfl, hb1⟩)
    go_ret2
    exact ⟨ret_jj HR.out.symm rfl, below_step hbw hb1⟩

set_option maxRecDepth 100000 in
set_option maxHeartbeats 1000000 in
theorem sOrderOfPortrait_calls (d n : Int) (v : Value) (zs : List Int) (w : World) (hv : SeesI w v zs) :
    Calls Tryd.prog 4 #[.int .i64 d, .int .i64 n, v] w fun e w' => e = .returned (.tuple #[.int .i64 (ordR d n zs), .int .i64 (codeP d n zs)]) ∧ Below w.heap.size w w' := by
  have hL := sees_one2 hv
  have hbw : Below w.heap.size w (w.alloc (.cells #[v] 22)) := by (repeat (first | exact Below.refl _ _ | refine below_drew' ?_ | refine below_drewN' ?_ _ | refine below_alloc' ?_ _ | refine below_set' ?_ (by (try simp); (try omega)) _ | refine below_step ?_ (by assumption)))
  have HC := Lib.hid (l03Code_calls d n _ _ (by simp) _ hL)
  rw [codeQ_one] at HC
  obtain ⟨oa, ca, hve, _⟩ := hv.view
  subst hve
  have Hv := Lib.hid hv
  clear hv hL
  by_cases hc : codeP d n zs = 0
  · obtain ⟨k1, k2, k3⟩ := codeP_zero d n zs hc
    have HR : Hid (ordR d n zs = (ordL (cycL (imgsP d.toNat n.toNat zs)) : Nat)) := Lib.hid (by unfold ordR; rw [if_pos hc])
    have Hc := Lib.hid hc
    obtain ⟨m, rfl⟩ := Int.eq_ofNat_of_zero_le (a := n) (by omega)
    obtain ⟨c, rfl⟩ := Int.eq_ofNat_of_zero_le (a := d) (by omega)
    rw [Int.toNat_natCast] at *
    rw [Int.toNat_natCast] at *
    rw [hc] at HC
    have HL := Lib.hid (fun W h1 => l03Permutation_calls c m (by omega) (by omega) zs k3 (.slice oa zs.length ca) W h1)
    have Hin := Lib.hid (imgs_in c m (by omega) (by omega) zs k3)
    have Hle : Hid ((imgsP c m zs).length ≤ 81) := Lib.hid (by rw [imgsP_len]; exact pow81 c m (by omega) (by omega))
    clear k1 k2 k3 hc
    generalize imgsP c m zs = im at *
    obtain ⟨b1, b2, b3⟩ := cyc_bd im Hin.out Hle.out
    have HS := Lib.hid (ord_step (cycL im) b1 b2)
    have hall := List.take_of_length_le (Nat.le_refl (cycL im).length)
    have Ha : Hid (ordL ((cycL im).take (cycL im).length) = ordL (cycL im)) := Lib.hid (by rw [hall])
    have Hcy := Lib.hid (fun v W h => l03Cycles_calls v im Hin.out (by have := Hle.out; omega) W h)
    clear b1 b2 hall
    generalize cycL im = cy at *
    go_enter Tryd.func4, Tryd.ntmps4
    go_wp2_with (first | (go_at_call 8; refine HC.out.mono ?_; rintro e w1 ⟨rfl, hb1⟩; have hbw1 := below_step hbw hb1) | (go_at_call 10; refine (HL.out _ (Hv.out.below hbw1)).mono ?_; rintro e w2 ⟨v1, rfl, hO2, hb2⟩; have hbw2 := below_step hbw1 hb2) | (go_at_call 9; refine (Hcy.out _ _ hO2.sees).mono ?_; rintro e w3 ⟨v2, rfl, hO3, hb3⟩; have hbw3 := below_step hbw2 hb3; clear hO2; obtain ⟨o3, c3, rfl, hq3⟩ := hO3.view; clear hq3; have HO3 := Lib.hid hO3.sees; clear hO3))
    clear hb1 hb2 hb3 hbw1 hbw2 HC HL Hcy Hin Hle
    go_loopw [10, 11] (fun o i wr => ∃ k : Nat, k ≤ cy.length ∧ i = .int .i64 k ∧ o = .int .i64 (ordL (cy.take k) : Nat) ∧ Below w3.heap.size w3 wr) (fun o i _ => cy.length - (intOf i).toNat)
    case atStart => exact ⟨0, by omega, rfl, rfl, Below.refl _ _⟩
    case round =>
      obtain ⟨k, hk, rfl, rfl, hbr⟩ := hrel
      by_cases hlt : k < cy.length
      · have hki : (k : Int) < (cy.length : Int) := by omega
        obtain ⟨p1, p2, c, p3, p4, p5, p6, p7⟩ := HS.out k hlt
        obtain ⟨g, hg, _, hcz⟩ := (HO3.out.below hbr).at k hlt
        subst hg
        rw [p3] at hcz
        have Hn := Lib.hid p7
        clear p3 p7
        generalize ordL (cy.take k) = q1 at *
        obtain ⟨f1, f2, f3, f4, f5⟩ := lc_facts q1 c p1 p4 p6
        have HG := Lib.hid (fun W => (l03Divisor_calls q1 c f1 f2 W).mono fun e w' (h : _ ∧ W = w') => And.intro h.1 h.2.symm)
        generalize Nat.gcd q1 c = gg at *
        go_wp2
        go_quiet ((go_at_call 11; exact Calls.quiet_of_same (HG.out _)))
        go_wp2
        go_roundw
        case rel => exact ⟨k + 1, by omega, by go_num, by rw [Hn.out]; exact congrArg (Value.int IntKind.i64) f5, below_step hbr (by (repeat (first | exact Below.refl _ _ | refine below_drew' ?_ | refine below_drewN' ?_ _ | refine below_alloc' ?_ _ | refine below_set' ?_ (by (try simp); (try omega)) _ | refine below_step ?_ (by assumption))))⟩
        case measure => simp [intOf] <;> omega
      · obtain rfl : k = cy.length := by omega
        go_wp2
        go_ret2
        exact ⟨ret_jj (by rw [HR.out, ← Ha.out]) Hc.out.symm, below_step hbw3 hbr⟩
  · have HR : Hid (ordR d n zs = 0) := Lib.hid (by unfold ordR; rw [if_neg hc])
    have hcb : (codeP d n zs != 0) = true := by simpa using hc
    generalize codeP d n zs = cc at *
    go_enter Tryd.func4, Tryd.ntmps4
    go_wp2_with (go_at_call 8; refine HC.out.mono ?_; rintro e w1 ⟨rfl, hb1⟩)
    go_ret2
    exact ⟨ret_jj HR.out.symm rfl, below_step hbw hb1⟩
end Go.Proofs.YticnpajbefflbadDoor
