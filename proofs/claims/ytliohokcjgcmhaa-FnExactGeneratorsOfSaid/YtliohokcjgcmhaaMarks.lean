/- 'markInt64S' writes into its own block alone. -/
import Derived.Test.YtliohokcjgcmhaaArgs
namespace Go.Proofs.Ytliohokcjgcmhaa
open Go.RowKit

theorem eqInt64S_same (a b : Value) (ba bb : Nat) (zs : List Int) (w : World) (ha : OwnI w ba a zs) (hb : OwnI w bb b zs) :
    Calls Try.prog 20 #[a, b] w fun e w' => e = .returned (.bool true) ∧ Below w.heap.size w w' :=
  (eqInt64S_calls a b ba bb zs zs w ha hb).mono fun e w' h => ⟨by rw [h.1]; simp, h.2⟩
theorem heldInt64S_m (a : Value) (base k0 n m : Nat) (w : World) (ha : OwnI w base a (marksF k0 n)) (hn : n ≤ 1048576) (hk0 : k0 ≤ 1048576) (hm : k0 + n = m) :
    Calls Try.prog 29 #[a, .int .i64 k0] w fun e w' => e = .returned (.int .i64 (m : Int)) ∧ w = w' :=
  (heldInt64S_calls a base k0 n w ha hn hk0).mono fun e w' h => ⟨by rw [h.1, hm], h.2⟩
theorem OwnI.other {w w' : World} {base : Nat} {v a : Value} {zs : List Int} (h : OwnI w base v zs) (hs : ∀ b, a.ownBlock ≠ some b → w'.heap[b]? = w.heap[b]?) (hne : ∀ k, v.ownBlock = some k → a.ownBlock = some k → False) : OwnI w' base v zs := by
  refine ⟨h.1, ?_⟩
  rcases h.2 with h2 | ⟨g, cap, cur, hv', hg, hh, r⟩
  · exact Or.inl h2
  · refine Or.inr ⟨g, cap, cur, hv', hg, ?_, r⟩
    rw [hs g (fun e => hne g (by rw [hv']; rfl) e)]; exact hh

set_option maxRecDepth 100000 in
set_option maxHeartbeats 400000 in
theorem markInt64S_x (a : Value) (base k0 m : Nat) (zs : List Int) (w : World) (ha : OwnI w base a zs) (hn : zs.length ≤ 1048576) (hk0 : k0 ≤ 1073741824) (hm : k0 + zs.length = m) :
    Calls Try.prog 24 #[a, .int .i64 k0] w fun e w' => e = .returned (.int .i64 (m : Int)) ∧ OwnI w' base a (marksF k0 zs.length) ∧ Below base w w' ∧ w.heap.size ≤ w'.heap.size ∧ ∀ b, a.ownBlock ≠ some b → w'.heap[b]? = w.heap[b]? := by
  subst hm
  obtain ⟨oa, ca, rfl, hca⟩ := ha.view
  by_cases h0 : zs.length = 0
  · have hz : zs = [] := List.eq_nil_of_length_eq_zero h0
    subst hz
    have Ha := Lib.hid ha; clear ha hca
    go_enter Try.func24, Try.ntmps24
    go_wp2
    go_loop [1, 5] (fun kv i => i = .int .i64 (0 : Nat) ∧ kv = .int .i64 (k0 : Int)) (fun _ _ => 0)
    case atStart => exact ⟨rfl, rfl⟩
    case round =>
      obtain ⟨rfl, rfl⟩ := hrel
      go_wp2
      go_ret
      exact ⟨rfl, Ha.out, Below.refl _ _, Nat.le_refl _, fun _ _ => rfl⟩
  · obtain ⟨g, rfl, hbg, _⟩ := hca (by omega)
    clear hca
    have Ha := Lib.hid ha; clear ha
    go_enter Try.func24, Try.ntmps24
    go_wp2
    go_loopw [1, 5] (fun kv i wr => ∃ j : Nat, j ≤ zs.length ∧ i = .int .i64 j ∧ kv = .int .i64 ((k0 : Int) + (j : Int)) ∧ Hid (wr.ownsRow base 2 1 (.slice (some ⟨g, 0, none⟩) zs.length ca) zs.length ((halfM zs k0 j).map (Value.int .i64))) ∧ Below base w wr ∧ w.heap.size ≤ wr.heap.size ∧ Hid (∀ b, b ≠ g → wr.heap[b]? = w.heap[b]?)) (fun _ i _ => zs.length - (intOf i).toNat)
    case atStart => exact ⟨0, by omega, rfl, by simp, Lib.hid (by rw [halfM_zero]; exact Ha.out), Below.refl _ _, Nat.le_refl _, Lib.hid (fun _ _ => rfl)⟩
    case round =>
      obtain ⟨j, hj, rfl, rfl, HO, hbel, hsz, HS0⟩ := hrel
      by_cases hlt : j < zs.length
      · have hcell := World.ownsRow.cellAt HO.out j (by omega)
        have hfr := World.ownsRow.frozenAt HO.out j
        rw [List.getElem?_map, List.getElem?_eq_getElem (by rw [halfM_len _ _ _ hj]; exact hlt)] at hcell
        simp only [Option.map_some] at hcell
        generalize (halfM zs k0 j)[j]'(by rw [halfM_len _ _ _ hj]; exact hlt) = old at hcell
        have hji : (j : Int) < zs.length := by omega
        have HS := Lib.hid (World.ownsRow.stored HO.out j (.int .i64 ((k0 : Int) + (j : Int))))
        have Hset := Lib.hid (halfM_set zs k0 j hlt)
        go_wp2
        go_roundw
        case rel =>
          refine ⟨j + 1, by omega, by go_num, by rw [show (((j + 1 : Nat) : Int)) = (j : Int) + 1 from by omega, Int.add_assoc], Lib.hid ?_, hbel.setCell hbg _, by simpa using hsz, Lib.hid (fun b hb => by rw [Below.heap_setCell _ _ _ b hb]; exact HS0.out b hb)⟩
          have h1 := HS.out.1
          rw [← Hset.out, List.map_set]
          rw [show (((k0 + j : Nat) : Int)) = (k0 : Int) + (j : Int) from by omega]
          exact h1
        case measure => simp [intOf] <;> omega
      · obtain rfl : j = zs.length := by omega
        go_wp2
        go_ret
        refine ⟨ret_int (by omega), ?_, hbel, hsz, fun b hb => HS0.out b (fun e => hb (by rw [e]; rfl))⟩
        have h1 := HO.out
        rw [halfM_all] at h1
        unfold OwnI
        rw [marksF_len]
        exact h1
end Go.Proofs.Ytliohokcjgcmhaa
