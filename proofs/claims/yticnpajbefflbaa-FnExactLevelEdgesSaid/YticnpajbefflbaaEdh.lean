/- Slices of edges that a call has made: marked, held. -/
import Derived.Test.YticnpajbefflbaaEdg
namespace Go.Proofs.Yticnpajbefflbaa
open Go.RowKit

theorem OwnE.cellAt {w : World} {base g n cap : Nat} {fl : List Int} (h : OwnE w base (.slice (some ⟨g, 0, none⟩) n cap) fl) (h0 : 0 < n) : fl.length = 3 * n ∧ base ≤ g ∧ (∀ o, w.frozen? ⟨g, o, none⟩ = false) ∧ ∀ i (hi : i < fl.length), w.cell? ⟨g, i, none⟩ = some (.int .i64 fl[i]) := by
  obtain ⟨n', oa, ca, hn, e, hv⟩ := h.view
  simp only [Value.slice.injEq] at e
  obtain ⟨e1, rfl, rfl⟩ := e
  obtain ⟨g', cur, h1, hg, hB, hc⟩ := hv h0
  rw [h1] at e1
  have e2 : g = g' := congrArg Addr.block (Option.some.inj e1)
  subst e2
  exact ⟨hn, hg, hB.free, fun i hi => (hB.cell i).trans (hc i hi)⟩
theorem OwnE.big {w : World} {base n cap : Nat} {oa : Option Addr} {fl : List Int} (h : OwnE w base (.slice oa n cap) fl) : fl.length = 3 * n := by
  obtain ⟨n', oa, ca, hn, e, hv⟩ := h.view
  simp only [Value.slice.injEq] at e
  omega

set_option maxRecDepth 100000 in
set_option maxHeartbeats 1000000 in
theorem markEdgeS_x (a : Value) (base k0 m : Nat) (fl : List Int) (w : World) (ha : OwnE w base a fl) (hn : fl.length ≤ 1048576) (hk0 : k0 ≤ 1073741824) (hm : k0 + fl.length = m) :
    Calls Try.prog 30 #[a, .int .i64 k0] w fun e w' => e = .returned (.int .i64 (m : Int)) ∧ OwnE w' base a (marksF k0 fl.length) ∧ Below base w w' ∧ w.heap.size ≤ w'.heap.size ∧ ∀ b, a.ownBlock ≠ some b → w'.heap[b]? = w.heap[b]? := by
  obtain ⟨n, oa, ca, hl, rfl, hva⟩ := ha.view
  by_cases h0 : n = 0
  · subst h0
    have hz : fl = [] := List.eq_nil_of_length_eq_zero hl
    subst hz
    have Hm : Hid (m = k0) := Lib.hid (by simpa using hm.symm)
    have Ha := Lib.hid ha
    clear ha hva hm hl
    go_enter Try.func30, Try.ntmps30
    go_wp2
    go_loop [1, 5] (fun kv i => i = .int .i64 (0 : Nat) ∧ kv = .int .i64 (k0 : Int)) (fun _ _ => 0)
    case atStart => exact ⟨rfl, rfl⟩
    case round =>
      obtain ⟨rfl, rfl⟩ := hrel
      go_wp2
      go_ret
      exact ⟨ret_int (by rw [Hm.out]), Ha.out, Below.refl _ _, Nat.le_refl _, fun _ _ => rfl⟩
  · obtain ⟨g, cur, rfl, hbg, _, _⟩ := hva (by omega)
    have Hm := Lib.hid hm
    have Hl := Lib.hid hl
    have hn3 : n ≤ 1048576 := by omega
    clear hva hm hl hn
    go_enter Try.func30, Try.ntmps30
    go_wp2
    go_loopw [1, 5] (fun kv i wr => ∃ j q : Nat, j ≤ n ∧ i = .int .i64 j ∧ kv = .int .i64 (q : Int) ∧ Hid (q = k0 + j * 3) ∧ q ≤ 1090000000 ∧ OwnE wr base (.slice (some ⟨g, 0, none⟩) n ca) (halfM fl k0 (j * 3)) ∧ Below base w wr ∧ w.heap.size ≤ wr.heap.size ∧ Hid (∀ b, b ≠ g → wr.heap[b]? = w.heap[b]?)) (fun _ i _ => n - (intOf i).toNat)
    case atStart => exact ⟨0, k0, by omega, rfl, rfl, Lib.hid (by omega), by omega, by rw [Nat.zero_mul, halfM_zero]; exact ha, Below.refl _ _, Nat.le_refl _, Lib.hid (fun _ _ => rfl)⟩
    case round =>
      clear ha
      obtain ⟨j, q, hj, rfl, rfl, HQ, hq, hO, hbel, hsz, HS0⟩ := hrel
      by_cases hlt : j < n
      · have hji : (j : Int) < (n : Int) := by omega
        have hlh : (halfM fl k0 (j * 3)).length = fl.length := halfM_len _ _ _ (by rw [Hl.out]; omega)
        have hlb : j * 3 + 2 < fl.length := by rw [Hl.out]; omega
        have hO1 := hO.put (i := j * 3) (q : Int)
        have hO2 := hO1.put (i := j * 3 + 1) ((q : Int) + 1)
        have hO3 := hO2.put (i := j * 3 + 2) ((q : Int) + 1 + 1)
        obtain ⟨_, _, f0, c0⟩ := hO.cellAt (by omega)
        obtain ⟨_, _, f1, c1⟩ := hO1.cellAt (by omega)
        obtain ⟨_, _, f2, c2⟩ := hO2.cellAt (by omega)
        have d0 := c0 (j * 3) (by rw [hlh]; omega)
        have d1 := c1 (j * 3 + 1) (by rw [List.length_set, hlh]; omega)
        have d2 := c2 (j * 3 + 2) (by rw [List.length_set, List.length_set, hlh]; omega)
        generalize (halfM fl k0 (j * 3))[j * 3]'(by rw [hlh]; omega) = old0 at d0
        generalize ((halfM fl k0 (j * 3)).set (j * 3) (q : Int))[j * 3 + 1]'(by rw [List.length_set, hlh]; omega) = old1 at d1
        generalize (((halfM fl k0 (j * 3)).set (j * 3) (q : Int)).set (j * 3 + 1) ((q : Int) + 1))[j * 3 + 2]'(by rw [List.length_set, List.length_set, hlh]; omega) = old2 at d2
        have Hset : Hid ((((halfM fl k0 (j * 3)).set (j * 3) (q : Int)).set (j * 3 + 1) ((q : Int) + 1)).set (j * 3 + 2) ((q : Int) + 1 + 1) = halfM fl k0 ((j + 1) * 3)) := Lib.hid (by
          have s0 := halfM_set fl k0 (j * 3) (by omega)
          have s1 := halfM_set fl k0 (j * 3 + 1) (by omega)
          have s2 := halfM_set fl k0 (j * 3 + 2) (by omega)
          have hq2 := HQ.out
          rw [show ((k0 + j * 3 : Nat) : Int) = (q : Int) by omega] at s0
          rw [show ((k0 + (j * 3 + 1) : Nat) : Int) = (q : Int) + 1 by omega] at s1
          rw [show ((k0 + (j * 3 + 2) : Nat) : Int) = (q : Int) + 1 + 1 by omega] at s2
          rw [s0, s1, s2, show (j + 1) * 3 = j * 3 + 2 + 1 by omega])
        have HO3 := Lib.hid hO3
        clear c0 c1 c2 hO hO1 hO2 hO3 hlh hlb
        go_wp2
        go_roundw
        case rel =>
          refine ⟨j + 1, q + 3, by omega, by go_num, by first | rfl | (congr 1; omega), Lib.hid (by rw [HQ.out]; omega), ?_, by rw [← Hset.out]; exact HO3.out, ((hbel.setCell (p := ⟨g, j * 3, none⟩) hbg _).setCell (p := ⟨g, j * 3 + 1, none⟩) hbg _).setCell (p := ⟨g, j * 3 + 2, none⟩) hbg _, by simpa using hsz, Lib.hid (fun b hb => (Below.heap_setCell _ ⟨g, j * 3 + 2, none⟩ _ b hb).trans ((Below.heap_setCell _ ⟨g, j * 3 + 1, none⟩ _ b hb).trans ((Below.heap_setCell _ ⟨g, j * 3, none⟩ _ b hb).trans (HS0.out b hb))))⟩
          have := HQ.out
          have := Hl.out
          omega
        case measure => simp [intOf] <;> omega
      · obtain rfl : j = n := by omega
        have HE : Hid ((q : Int) = (m : Int)) := Lib.hid (by have := HQ.out; have := Hm.out; have := Hl.out; omega)
        rw [show j * 3 = fl.length by rw [Hl.out]; omega, halfM_all] at hO
        go_wp2
        go_ret
        exact ⟨ret_int HE.out, hO, hbel, hsz, fun b hb => HS0.out b (fun e => hb (by rw [e]; rfl))⟩

set_option maxRecDepth 100000 in
set_option maxHeartbeats 1000000 in
theorem heldEdgeS_m (a : Value) (base k0 N m : Nat) (w : World) (ha : OwnE w base a (marksF k0 N)) (hn : N ≤ 1048576) (hk0 : k0 ≤ 1048576) (hm : k0 + N = m) :
    Calls Try.prog 31 #[a, .int .i64 k0] w fun e w' => e = .returned (.int .i64 (m : Int)) ∧ w = w' := by
  obtain ⟨n, oa, ca, hl, rfl, hva⟩ := ha.view
  rw [marksF_len] at hl
  by_cases h0 : n = 0
  · subst h0
    have Hm : Hid (m = k0) := Lib.hid (by omega)
    clear ha hva hm hl
    go_enter Try.func31, Try.ntmps31
    go_wp2
    go_loop [1, 5] (fun kv i => i = .int .i64 (0 : Nat) ∧ kv = .int .i64 (k0 : Int)) (fun _ _ => 0)
    case atStart => exact ⟨rfl, rfl⟩
    case round =>
      obtain ⟨rfl, rfl⟩ := hrel
      go_wp2
      go_ret
      exact ⟨ret_int (by rw [Hm.out]), rfl⟩
  · obtain ⟨g, cur, rfl, hbg, _, _⟩ := hva (by omega)
    obtain ⟨_, _, _, hc⟩ := ha.cellAt (by omega)
    have Hm := Lib.hid hm
    have Hl := Lib.hid hl
    have Hc : Hid (∀ i, i < N → w.cell? ⟨g, i, none⟩ = some (.int .i64 ((k0 + i : Nat) : Int))) := Lib.hid (fun i hi => by rw [hc i (by rw [marksF_len]; exact hi), marksF_get _ _ _ hi])
    have hn3 : n ≤ 1048576 := by omega
    clear hva hm hl hn hc ha
    go_enter Try.func31, Try.ntmps31
    go_wp2
    go_loop [1, 5] (fun kv i => ∃ j q : Nat, j ≤ n ∧ i = .int .i64 j ∧ kv = .int .i64 (q : Int) ∧ Hid (q = k0 + j * 3)) (fun _ i => n - (intOf i).toNat)
    case atStart => exact ⟨0, k0, by omega, rfl, rfl, Lib.hid (by omega)⟩
    case round =>
      obtain ⟨j, q, hj, rfl, rfl, HQ⟩ := hrel
      by_cases hlt : j < n
      · have hji : (j : Int) < (n : Int) := by omega
        have hqb : q ≤ 8000000 := by have := HQ.out; omega
        have d0 := Hc.out (j * 3) (by have := Hl.out; omega)
        have d1 := Hc.out (j * 3 + 1) (by have := Hl.out; omega)
        have d2 := Hc.out (j * 3 + 2) (by have := Hl.out; omega)
        rw [show ((k0 + j * 3 : Nat) : Int) = (q : Int) by have := HQ.out; omega] at d0
        rw [show ((k0 + (j * 3 + 1) : Nat) : Int) = (q : Int) + 1 by have := HQ.out; omega] at d1
        rw [show ((k0 + (j * 3 + 2) : Nat) : Int) = (q : Int) + 1 + 1 by have := HQ.out; omega] at d2
        have e0 : ((q : Int) != (q : Int)) = false := by simp
        have e1 : ((q : Int) + 1 != (q : Int) + 1) = false := by simp
        have e2 : ((q : Int) + 1 + 1 != (q : Int) + 1 + 1) = false := by simp
        go_wp2
        go_round
        case rel => exact ⟨j + 1, q + 3, by omega, by go_num, by first | rfl | (congr 1; omega), Lib.hid (by rw [HQ.out]; omega)⟩
        case measure => simp [intOf] <;> omega
      · obtain rfl : j = n := by omega
        have HE : Hid ((q : Int) = (m : Int)) := Lib.hid (by have := HQ.out; have := Hm.out; have := Hl.out; omega)
        go_wp2
        go_ret
        exact ⟨ret_int HE.out, rfl⟩
end Go.Proofs.Yticnpajbefflbaa
