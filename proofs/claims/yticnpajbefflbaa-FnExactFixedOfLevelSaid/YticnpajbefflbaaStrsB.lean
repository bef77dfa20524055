/- Slices of strings that a call has made: equal, marked, held. -/
import Derived.Test.YticnpajbefflbaaStrs
import Derived.Test.YticnpajbefflbaaHeldK
namespace Go.Proofs.Yticnpajbefflbaa
open Go.RowKit

/-- It stays where what changes lies above its block. -/
theorem OwnS.under {w w1 : World} {base B : Nat} {v : Value} {zs : List ByteArray} (h : OwnS w base v zs) (hv : ∀ k, v.ownBlock = some k → k < B) (hb : Below B w w1) : OwnS w1 base v zs := by
  refine ⟨h.1, ?_⟩
  rcases h.2 with h2 | ⟨g, cap, cur, hv', hg, hh, r⟩
  · exact Or.inl h2
  · refine Or.inr ⟨g, cap, cur, hv', hg, ?_, r⟩
    have : g < B := hv g (by rw [hv']; rfl)
    rw [hb.block g this]; exact hh
theorem OwnS.lt {w : World} {base : Nat} {v : Value} {zs : List ByteArray} (h : OwnS w base v zs) : ∀ k, v.ownBlock = some k → k < w.heap.size := fun k hk => (World.ownsRow.lt h k hk).2
theorem OwnS.empty (w : World) (base cap : Nat) (cur : Array Value) (hb : base ≤ w.heap.size) (hm : cap ≤ maxLen) (hs : cur.size = cap) : OwnS (w.alloc (.cells cur 9)) base (.slice (some ⟨w.heap.size, 0, none⟩) 0 cap) [] :=
  World.ownsRow_made w cur cap hb hm (by omega)
theorem OwnS.view {w : World} {base : Nat} {v : Value} {zs : List ByteArray} (h : OwnS w base v zs) :
    ∃ oa cap, v = .slice oa zs.length cap ∧ (0 < zs.length → ∃ g, oa = some ⟨g, 0, none⟩ ∧ base ≤ g ∧ (∀ i (hi : i < zs.length), w.cell? ⟨g, i, none⟩ = some (.string zs[i]))) := by
  rcases h.2 with ⟨rfl, h0⟩ | ⟨g, cap, cur, rfl, hbg, hg, hn, _, hs, htake⟩
  · exact ⟨none, 0, by rw [h0], fun hp => absurd hp (by omega)⟩
  · refine ⟨_, cap, rfl, fun _ => ⟨g, rfl, hbg, fun i hi => ?_⟩⟩
    rw [Go.Joins.cell_of_block hg]
    have := congrArg (fun l => l[i]?) htake
    simp only [List.getElem?_take, List.getElem?_map, Nat.mul_one] at this
    rw [if_pos hi, List.getElem?_eq_getElem hi] at this
    simpa using this
theorem OwnS.len {w : World} {base : Nat} {v : Value} {zs : List ByteArray} (h : OwnS w base v zs) : zs.length ≤ maxLen := by
  rcases h.2 with ⟨_, h0⟩ | ⟨g, cap, cur, _, _, _, hn, hm, _⟩
  · omega
  · omega

theorem str_beq (a b : ByteArray) : (a.toList == b.toList) = decide (a = b) := by
  rw [Bool.eq_iff_iff, beq_iff_eq, decide_eq_true_eq, ByteArray.toList_eq, ByteArray.toList_eq]
  exact ⟨fun h => ByteArray.ext (Array.toList_inj.mp h), fun h => by rw [h]⟩
theorem take_eq_nextS {zs ys : List ByteArray} {k : Nat} (h1 : k < zs.length) (h2 : k < ys.length) (h : zs.take k = ys.take k) (e : zs[k] = ys[k]) : zs.take (k + 1) = ys.take (k + 1) := by
  rw [List.take_succ_eq_append_getElem h1, List.take_succ_eq_append_getElem h2, h, e]

set_option maxRecDepth 100000 in
set_option maxHeartbeats 400000 in
theorem eqStringS_calls (a b : Value) (ba bb : Nat) (zs ys : List ByteArray) (w : World) (ha : OwnS w ba a zs) (hb : OwnS w bb b ys) :
    Calls Try.prog 16 #[a, b] w fun e w' => e = .returned (.bool (decide (zs = ys))) ∧ Below w.heap.size w w' := by
  have hla := ha.len
  have hlb := hb.len
  obtain ⟨oa, ca, rfl, hca⟩ := ha.view
  obtain ⟨ob, cb, rfl, hcb⟩ := hb.view
  clear ha hb
  unfold maxLen at hla hlb
  by_cases hne : zs.length = ys.length
  · have hne' : ((zs.length : Int) == (ys.length : Int)) = true := by simp; omega
    have hnb : ((zs.length : Int) != (ys.length : Int)) = false := by simp; omega
    have Hne := Lib.hid hne; clear hne hne'
    by_cases h0 : zs.length = 0
    · have h0b : ys.length = 0 := by rw [← Hne.out]; exact h0
      have Hz : Hid (zs = ys) := Lib.hid (by rw [List.eq_nil_of_length_eq_zero h0, List.eq_nil_of_length_eq_zero h0b])
      clear hca hcb
      generalize zs.length = n at *
      generalize ys.length = m at *
      subst h0 h0b
      go_enter Try.func16, Try.ntmps16
      go_wp2
      go_loop [5] (fun i => i = .int .i64 (0 : Nat)) (fun _ => 0)
      case atStart => rfl
      case round =>
        obtain rfl := hrel
        go_wp2
        go_ret
        exact ⟨ret_bool (by simp [Hz.out]), by (repeat (first | exact Below.refl _ _ | refine below_drew' ?_ | refine below_drewN' ?_ _ | refine below_alloc' ?_ _ | refine below_set' ?_ (by (try simp); (try omega)) _ | refine below_step ?_ (by assumption)))⟩
    · obtain ⟨g, rfl, _, hca⟩ := hca (by omega)
      obtain ⟨g2, rfl, _, hcb⟩ := hcb (by rw [← Hne.out]; omega)
      have h0' : ¬ ys.length = 0 := by rw [← Hne.out]; exact h0
      have Hca := Lib.hid hca; have Hcb := Lib.hid hcb; clear hca hcb
      go_enter Try.func16, Try.ntmps16
      go_wp2
      go_loopw [5] (fun i wr => ∃ k : Nat, k ≤ zs.length ∧ i = .int .i64 k ∧ (∃ nd, wr = w.drewN nd) ∧ Hid (zs.take k = ys.take k)) (fun i _ => zs.length - (intOf i).toNat)
      case atStart => exact ⟨0, by omega, rfl, ⟨0, rfl⟩, Lib.hid rfl⟩
      case round =>
        obtain ⟨k, hk, rfl, ⟨nd, rfl⟩, HT⟩ := hrel
        by_cases hlt : k < zs.length
        · have hlt2 : k < ys.length := by rw [← Hne.out]; exact hlt
          have c1 := Hca.out k hlt
          have c2 := Hcb.out k hlt2
          have hki : (k : Int) < zs.length := by omega
          have hki2 : (k : Int) < ys.length := by omega
          by_cases he : zs[k] = ys[k]
          · have Hn := Lib.hid (take_eq_nextS hlt hlt2 HT.out he)
            rw [← he] at c2
            generalize zs[k] = z at *
            clear he
            go_wp2
            go_quiet (fail)
            go_wp2
            go_roundw
            case rel => exact ⟨k + 1, by omega, by go_num, ⟨_, rfl⟩, Hn⟩
            case measure => simp [intOf] <;> omega
          · have hd : (zs[k].toList == ys[k].toList) = false := by rw [str_beq]; simpa using he
            have Hd : Hid (decide (zs = ys) = false) := Lib.hid (by rw [decide_eq_false_iff_not]; intro e; subst e; exact he rfl)
            clear he
            generalize zs[k] = z at *
            generalize ys[k] = y at *
            go_wp2
            go_quiet (fail)
            go_wp2
            go_ret
            exact ⟨ret_bool Hd.out.symm, by (repeat (first | exact Below.refl _ _ | refine below_drew' ?_ | refine below_drewN' ?_ _ | refine below_alloc' ?_ _ | refine below_set' ?_ (by (try simp); (try omega)) _ | refine below_step ?_ (by assumption)))⟩
        · obtain rfl : k = zs.length := by omega
          have Hz : Hid (zs = ys) := Lib.hid (by have := HT.out; rw [List.take_length, Hne.out, List.take_length] at this; exact this)
          go_wp2
          go_ret
          exact ⟨ret_bool (by simp [Hz.out]), by (repeat (first | exact Below.refl _ _ | refine below_drew' ?_ | refine below_drewN' ?_ _ | refine below_alloc' ?_ _ | refine below_set' ?_ (by (try simp); (try omega)) _ | refine below_step ?_ (by assumption)))⟩
  · have hne' : ((zs.length : Int) == (ys.length : Int)) = false := by simp; omega
    have hnb : ((zs.length : Int) != (ys.length : Int)) = true := by simp; omega
    have Hd : Hid (decide (zs = ys) = false) := Lib.hid (by rw [decide_eq_false_iff_not]; intro e; subst e; exact hne rfl)
    clear hne
    go_enter Try.func16, Try.ntmps16
    go_wp2
    go_ret
    exact ⟨ret_bool Hd.out.symm, by (repeat (first | exact Below.refl _ _ | refine below_drew' ?_ | refine below_drewN' ?_ _ | refine below_alloc' ?_ _ | refine below_set' ?_ (by (try simp); (try omega)) _ | refine below_step ?_ (by assumption)))⟩


/-- The marks' texts from k on. -/
def marksS (k n : Nat) : List ByteArray := (List.range n).map fun i => markT (k + i)
theorem marksS_len (k n : Nat) : (marksS k n).length = n := by simp [marksS]
theorem marksS_get (k n i : Nat) (h : i < n) : (marksS k n)[i]'(by rw [marksS_len]; exact h) = markT (k + i) := by simp [marksS]
/-- The first j are marked. -/
def halfS (zs : List ByteArray) (k j : Nat) : List ByteArray := marksS k j ++ zs.drop j
theorem halfS_zero (zs : List ByteArray) (k : Nat) : halfS zs k 0 = zs := by simp [halfS, marksS]
theorem halfS_len (zs : List ByteArray) (k j : Nat) (h : j ≤ zs.length) : (halfS zs k j).length = zs.length := by simp [halfS, marksS_len]; omega
theorem halfS_all (zs : List ByteArray) (k : Nat) : halfS zs k zs.length = marksS k zs.length := by simp [halfS]
theorem halfS_set (zs : List ByteArray) (k j : Nat) (h : j < zs.length) : (halfS zs k j).set j (markT (k + j)) = halfS zs k (j + 1) := by
  unfold halfS
  rw [List.set_append_right _ _ (by rw [marksS_len]; exact Nat.le_refl _), marksS_len, Nat.sub_self, List.drop_eq_getElem_cons h, List.set_cons_zero]
  simp [marksS, List.range_succ]
theorem markText_at (k0 j : Nat) (h0 : 0 < k0) (h1 : k0 ≤ 1048576) (hj : j ≤ 1048576) (W : World) :
    Calls Try.prog 42 #[.int .i64 ((k0 : Int) + (j : Int))] W fun e w' => e = .returned (.string (markT (k0 + j))) ∧ Below W.heap.size W w' := by
  have := markText_calls (k0 + j) (by omega) (by omega) W
  rwa [show ((k0 + j : Nat) : Int) = (k0 : Int) + (j : Int) from by omega] at this

set_option maxRecDepth 100000 in
set_option maxHeartbeats 400000 in
/-- Every element becomes a mark; nothing else changes. -/
theorem markStringS_calls (a : Value) (base k0 : Nat) (zs : List ByteArray) (w : World) (ha : OwnS w base a zs) (hn : zs.length ≤ 1048576) (h0k : 0 < k0) (hk0 : k0 ≤ 1048576) :
    Calls Try.prog 18 #[a, .int .i64 k0] w fun e w' => e = .returned (.int .i64 ((k0 + zs.length : Nat) : Int)) ∧ OwnS w' base a (marksS k0 zs.length) ∧ Below base w w' ∧ w.heap.size ≤ w'.heap.size := by
  obtain ⟨oa, ca, rfl, hca⟩ := ha.view
  by_cases h0 : zs.length = 0
  · have hz : zs = [] := List.eq_nil_of_length_eq_zero h0
    subst hz
    have Ha := Lib.hid ha; clear ha hca
    go_enter Try.func18, Try.ntmps18
    go_wp2
    go_loop [1, 5] (fun kv i => i = .int .i64 (0 : Nat) ∧ kv = .int .i64 (k0 : Int)) (fun _ _ => 0)
    case atStart => exact ⟨rfl, rfl⟩
    case round =>
      obtain ⟨rfl, rfl⟩ := hrel
      go_wp2
      go_ret
      exact ⟨rfl, Ha.out, Below.refl _ _, Nat.le_refl _⟩
  · obtain ⟨g, rfl, hbg, _⟩ := hca (by omega)
    have hbs : base ≤ w.heap.size := by have := ha.lt g rfl; omega
    clear hca
    have Ha := Lib.hid ha; clear ha
    go_enter Try.func18, Try.ntmps18
    go_wp2
    go_loopw [1, 5] (fun kv i wr => ∃ j : Nat, j ≤ zs.length ∧ i = .int .i64 j ∧ kv = .int .i64 ((k0 : Int) + (j : Int)) ∧ Hid (wr.ownsRow base 9 1 (.slice (some ⟨g, 0, none⟩) zs.length ca) zs.length ((halfS zs k0 j).map Value.string)) ∧ Below base w wr ∧ w.heap.size ≤ wr.heap.size) (fun _ i _ => zs.length - (intOf i).toNat)
    case atStart => exact ⟨0, by omega, rfl, by simp, Lib.hid (by rw [halfS_zero]; exact Ha.out), Below.refl _ _, Nat.le_refl _⟩
    case round =>
      obtain ⟨j, hj, rfl, rfl, HO, hbel, hsz⟩ := hrel
      by_cases hlt : j < zs.length
      · have hji : (j : Int) < zs.length := by omega
        have Hset := Lib.hid (halfS_set zs k0 j hlt)
        have Hlen := Lib.hid (halfS_len zs k0 j hj)
        go_wp2_with (go_at_call 42; refine (markText_at k0 j h0k hk0 (by omega) _).mono ?_; rintro e w1 ⟨rfl, hb1⟩; have HO1 := owns_below HO.out hb1; have hcell := World.ownsRow.cellAt HO1 j (by omega); have hfr := World.ownsRow.frozenAt HO1 j; rw [List.getElem?_map, List.getElem?_eq_getElem (by rw [Hlen.out]; exact hlt)] at hcell; simp only [Option.map_some] at hcell; generalize (halfS zs k0 j)[j]'(by rw [Hlen.out]; exact hlt) = old at hcell; have HS := Lib.hid (World.ownsRow.stored HO1 j (.string (markT (k0 + j)))); have HO2 := Lib.hid HO1; clear HO1)
        go_roundw
        case rel =>
          refine ⟨j + 1, by omega, by go_num, by rw [show (((j + 1 : Nat) : Int)) = (j : Int) + 1 from by omega, Int.add_assoc], Lib.hid ?_, (hbel.trans (below_le hb1 (by omega))).setCell hbg _, by have := hb1.size; simp; omega⟩
          have h1 := HS.out.1
          rw [← Hset.out, List.map_set]
          exact h1
        case measure => simp [intOf] <;> omega
      · obtain rfl : j = zs.length := by omega
        go_wp2
        go_ret
        refine ⟨ret_int (by omega), ?_, hbel, hsz⟩
        have h1 := HO.out
        rw [halfS_all] at h1
        unfold OwnS
        rw [marksS_len]
        exact h1

set_option maxRecDepth 100000 in
set_option maxHeartbeats 2000000 in
/-- The marks are found. -/
theorem heldStringS_calls (a : Value) (base k0 n : Nat) (w : World) (ha : OwnS w base a (marksS k0 n)) (hn : n ≤ 1048576) (h0k : 0 < k0) (hk0 : k0 ≤ 1048576) :
    Calls Try.prog 19 #[a, .int .i64 k0] w fun e w' => e = .returned (.int .i64 ((k0 + n : Nat) : Int)) ∧ Below w.heap.size w w' := by
  obtain ⟨oa, ca, rfl, hca⟩ := ha.view
  have hca := fun h => hca (by rw [marksS_len]; exact h)
  rw [marksS_len] at ha ⊢
  by_cases h0 : n = 0
  · subst h0
    clear hca ha
    go_enter Try.func19, Try.ntmps19
    go_wp2
    go_loop [1, 5] (fun kv i => i = .int .i64 (0 : Nat) ∧ kv = .int .i64 (k0 : Int)) (fun _ _ => 0)
    case atStart => exact ⟨rfl, rfl⟩
    case round =>
      obtain ⟨rfl, rfl⟩ := hrel
      go_wp2
      go_ret
      exact ⟨rfl, Below.refl _ _⟩
  · obtain ⟨g, rfl, hbg, hcell⟩ := hca (by omega)
    clear hca
    have hown : ∀ W, OwnS W base (.slice (some ⟨g, 0, none⟩) n ca) (marksS k0 n) → ∀ j, j < n → W.cell? ⟨g, j, none⟩ = some (.string (markT (k0 + j))) := fun W hW j hj => by
      obtain ⟨oa', ca', e, h2⟩ := hW.view
      rw [marksS_len] at e
      obtain ⟨g', e', _, h3⟩ := h2 (by rw [marksS_len]; omega)
      cases e; cases e'
      have := h3 j (by rw [marksS_len]; exact hj)
      rwa [marksS_get k0 n j hj] at this
    have Hown := Lib.hid hown; clear hown hcell
    have Ha := Lib.hid ha; clear ha
    go_enter Try.func19, Try.ntmps19
    go_wp2
    go_loopw [1, 5] (fun kv i wr => ∃ j : Nat, j ≤ n ∧ i = .int .i64 j ∧ kv = .int .i64 ((k0 : Int) + (j : Int)) ∧ Hid (OwnS wr base (.slice (some ⟨g, 0, none⟩) n ca) (marksS k0 n)) ∧ Below w.heap.size w wr) (fun _ i _ => n - (intOf i).toNat)
    case atStart => exact ⟨0, by omega, rfl, by simp, Lib.hid Ha.out, Below.refl _ _⟩
    case round =>
      obtain ⟨j, hj, rfl, rfl, HO, hbw⟩ := hrel
      by_cases hlt : j < n
      · have hji : (j : Int) < n := by omega
        go_wp2_with fail
        refine wp_region_quiet (C := fun W => OwnS W base (.slice (some ⟨g, 0, none⟩) n ca) (marksS k0 n) ∧ Below w.heap.size w W) (by kernel_rfl) (by kernel_rfl) ⟨HO.out.below (by (repeat (first | exact Below.refl _ _ | refine below_drew' ?_ | refine below_drewN' ?_ _ | refine below_alloc' ?_ _ | refine below_set' ?_ (by (try simp); (try omega)) _ | refine below_step ?_ (by assumption)))), hbw.drew⟩ ?_
        refine wpQuiet_val rfl (.slice (some ⟨g, 0, none⟩) n ca) (fun W _ => by go_simp) ?_
        refine wpQuiet_val rfl (.int .i64 j) (fun W _ => by go_simp) ?_
        refine wpQuiet_val rfl (.pointer (some ⟨g, j, none⟩)) (fun W _ => by go_simp) ?_
        refine wpQuiet_val rfl (.string (markT (k0 + j))) (fun W hW => by have c1 := Hown.out W hW.1 j hlt; clear hW; go_simp) ?_
        refine wpQuiet_val rfl (.int .i64 ((k0 : Int) + (j : Int))) (fun W _ => by go_simp) ?_
        refine wpQuiet_call rfl 42 _ _ rfl #[.int .i64 ((k0 : Int) + (j : Int))] (.string (markT (k0 + j))) (fun W => by go_simp) (fun W hW => (markText_at k0 j h0k hk0 (by omega) W).mono fun e w'' h => ⟨h.1, hW.1.below h.2, below_step hW.2 h.2⟩) ?_
        refine wpQuiet_val rfl (.bool false) (fun W _ => by go_simp) ?_
        refine wpQuiet_nil ?_
        rintro w3 ⟨hO', hbw'⟩
        have HO' := Lib.hid hO'; clear hO' HO hbw
        generalize markT (k0 + j) = mt
        go_wp2
        go_roundw
        case rel => exact ⟨j + 1, by omega, by go_num, by rw [show (((j + 1 : Nat) : Int)) = (j : Int) + 1 from by omega, Int.add_assoc], HO', hbw'⟩
        case measure => simp [intOf] <;> omega
      · obtain rfl : j = n := by omega
        go_wp2
        go_ret
        exact ⟨ret_int (by omega), hbw⟩
end Go.Proofs.Yticnpajbefflbaa
