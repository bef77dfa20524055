/- Slices that a call makes itself and appends to: bytes, numbers, strings. Slices of int64 that a call has made: equal, marked, held. A number appended to a slice of the call's own. -/
import Derived.Test.YtliohokcjgcmhaaLaws
import Derived.Test.YtliohokcjgcmhaaProg
namespace Go.Proofs.Ytliohokcjgcmhaa
open Go.RowKit

/-- What is owned stays over calls and writes elsewhere. -/
theorem owns_below {w w1 : World} {base e size n : Nat} {v : Value} {xs : List Value} (h : w.ownsRow base e size v n xs) (hb : Below w.heap.size w w1) : w1.ownsRow base e size v n xs := by
  refine ⟨h.1, ?_⟩
  rcases h.2 with h2 | ⟨g, cap, cur, hv, hg, hh, r⟩
  · exact Or.inl h2
  · exact Or.inr ⟨g, cap, cur, hv, hg, by rw [hb.block g (block_lt hh)]; exact hh, r⟩
theorem below_grown {w w1 : World} {base e size n : Nat} {v : Value} {xs : List Value} (h : w.ownsRow base e size v n xs) (hg : w.grownBy w1 v.ownBlock) (hb : base ≤ w.heap.size) : Below base w w1 :=
  (Below.refl base w).grown hg hb (fun k hk => (h.lt k hk).1)

/-- A slice of bytes of the call's own. -/
def OwnB (w : World) (base : Nat) (v : Value) (bs : List UInt8) : Prop := w.ownsRow base 5 1 v bs.length (bs.map fun b => Value.int .u8 (b.toNat : Int))
theorem OwnB.empty (w : World) (base cap : Nat) (cur : Array Value) (hb : base ≤ w.heap.size) (hm : cap ≤ maxLen) (hs : cur.size = cap) : OwnB (w.alloc (.cells cur 5)) base (.slice (some ⟨w.heap.size, 0, none⟩) 0 cap) [] :=
  World.ownsRow_made w cur cap hb hm (by omega)
theorem OwnB.below {w w1 : World} {base : Nat} {v : Value} {bs : List UInt8} (h : OwnB w base v bs) (hb : Below w.heap.size w w1) : OwnB w1 base v bs := owns_below h hb
theorem info5 : (Try.prog.info? 5).map (fun i => (i.zero, i.size, i.bytes)) = some (some (.int .u8 0), 1, 1) := by kernel_rfl
theorem info2 : (Try.prog.info? 2).map (fun i => (i.zero, i.size, i.bytes)) = some (some (.int .i64 0), 1, 8) := by kernel_rfl

section
variable {ops : Array Oper} {rest : List Oper} {o : Oper} {a : Act} {w : World} {Q : Exit → Act → World → Prop}
/-- 'out = append(out, b)'. -/
theorem wpList_push_byte (hgd : o.guard = none) (s x : Operand) (ho : o.op = .call { callee := .builtin .append, args := #[s, x], argTypes := #[69, 69] })
    (base : Nat) (v : Value) (bs : List UInt8) (hs : a.eval s = v) (hown : OwnB w base v bs) (g c : Nat) (b : UInt8) (hx : a.eval x = .slice (some ⟨g, 0, none⟩) 1 c) (hB : Blk w g #[.int .u8 (b.toNat : Int)] 5)
    (hn : bs.length + 1 ≤ 1048576) (hbase : base ≤ w.heap.size)
    (h : ∀ v' w', OwnB w' base v' (bs ++ [b]) → Below base w w' → wpList Try.prog ops Q rest (a.put o.dst v') w') : wpList Try.prog ops Q (o :: rest) a w := by
  obtain ⟨i0, hi, hz0, hz1, hz2⟩ := info_parts info5
  refine wpList_append_own _ hgd s x 69 ho base 5 i0 (.int .u8 0) 1 1 Try.underlying69 hi hz0 hz1 hz2 rfl (by decide) v bs.length _ hs hown ⟨g, 0, none⟩ 1 c [.int .u8 (b.toNat : Int)] hx rfl
    (fun j u hu => ?_) (fun u hu => ?_) (by unfold maxLen; omega) (by omega) hbase (fun v' w' hown' hg _ => h v' w' ?_ (below_grown hown hg hbase))
  · match j, hu with
    | 0, hu => simp at hu; subst hu; simpa [Addr.add] using hB.cell 0
  · simp at hu; subst hu; rfl
  · unfold OwnB; simpa using hown'
end
/-- 'string(out)'. -/
theorem run_str_own {w : World} {base : Nat} {v : Value} {bs : List UInt8} (h : OwnB w base v bs) : (convert 69 9 v).run Try.prog w = .ok (.string ⟨bs.toArray⟩) w := by
  rcases h.2 with ⟨rfl, h0⟩ | ⟨g, cap, cur, rfl, _, hg, hn, _, hs, htake⟩
  · have hb : bs = [] := List.eq_nil_of_length_eq_zero h0
    subst hb
    rw [run_convert_bytes_string w _ _ _ _ _ _ Try.underlying69 Try.underlying5 Try.underlying9]
    rfl
  · refine run_str_mid w _ _ _ g 0 bs.length cap bs Try.underlying69 Try.underlying5 Try.underlying9 rfl (fun j u hu => ?_)
    rw [Nat.zero_add, Go.Joins.cell_of_block hg]
    rw [← htake, List.getElem?_take] at hu
    split at hu
    · simpa using hu
    · cases hu
end Go.Proofs.Ytliohokcjgcmhaa

namespace Go.Proofs.Ytliohokcjgcmhaa
open Go.RowKit

/-- A slice of numbers of the call's own. -/
def OwnI (w : World) (base : Nat) (v : Value) (zs : List Int) : Prop := w.ownsRow base 2 1 v zs.length (zs.map (Value.int .i64))
theorem OwnI.nil (w : World) (base : Nat) : OwnI w base (.slice none 0 0) [] := World.ownsRow_nil w base _ _
theorem OwnI.below {w w1 : World} {base : Nat} {v : Value} {zs : List Int} (h : OwnI w base v zs) (hb : Below w.heap.size w w1) : OwnI w1 base v zs := owns_below h hb
/-- It stays where what changes lies above its block. -/
theorem OwnI.under {w w1 : World} {base B : Nat} {v : Value} {zs : List Int} (h : OwnI w base v zs) (hv : ∀ k, v.ownBlock = some k → k < B) (hb : Below B w w1) : OwnI w1 base v zs := by
  refine ⟨h.1, ?_⟩
  rcases h.2 with h2 | ⟨g, cap, cur, hv', hg, hh, r⟩
  · exact Or.inl h2
  · refine Or.inr ⟨g, cap, cur, hv', hg, ?_, r⟩
    have : g < B := hv g (by rw [hv']; rfl)
    rw [hb.block g this]; exact hh
theorem OwnI.lt {w : World} {base : Nat} {v : Value} {zs : List Int} (h : OwnI w base v zs) : ∀ k, v.ownBlock = some k → k < w.heap.size := fun k hk => (World.ownsRow.lt h k hk).2
theorem OwnI.empty (w : World) (base cap : Nat) (cur : Array Value) (hb : base ≤ w.heap.size) (hm : cap ≤ maxLen) (hs : cur.size = cap) : OwnI (w.alloc (.cells cur 2)) base (.slice (some ⟨w.heap.size, 0, none⟩) 0 cap) [] :=
  World.ownsRow_made w cur cap hb hm (by omega)
theorem OwnI.view {w : World} {base : Nat} {v : Value} {zs : List Int} (h : OwnI w base v zs) :
    ∃ oa cap, v = .slice oa zs.length cap ∧ (0 < zs.length → ∃ g, oa = some ⟨g, 0, none⟩ ∧ base ≤ g ∧ (∀ i (hi : i < zs.length), w.cell? ⟨g, i, none⟩ = some (.int .i64 zs[i]))) := by
  rcases h.2 with ⟨rfl, h0⟩ | ⟨g, cap, cur, rfl, hbg, hg, hn, _, hs, htake⟩
  · exact ⟨none, 0, by rw [h0], fun hp => absurd hp (by omega)⟩
  · refine ⟨_, cap, rfl, fun _ => ⟨g, rfl, hbg, fun i hi => ?_⟩⟩
    rw [Go.Joins.cell_of_block hg]
    have := congrArg (fun l => l[i]?) htake
    simp only [List.getElem?_take, List.getElem?_map, Nat.mul_one] at this
    rw [if_pos hi, List.getElem?_eq_getElem hi] at this
    simpa using this
theorem OwnI.len {w : World} {base : Nat} {v : Value} {zs : List Int} (h : OwnI w base v zs) : zs.length ≤ maxLen := by
  rcases h.2 with ⟨_, h0⟩ | ⟨g, cap, cur, _, _, _, hn, hm, _⟩
  · omega
  · omega

theorem take_eq_next {zs ys : List Int} {k : Nat} (h1 : k < zs.length) (h2 : k < ys.length) (h : zs.take k = ys.take k) (e : zs[k] = ys[k]) : zs.take (k + 1) = ys.take (k + 1) := by
  rw [List.take_succ_eq_append_getElem h1, List.take_succ_eq_append_getElem h2, h, e]

set_option maxRecDepth 100000 in
set_option maxHeartbeats 400000 in
theorem eqInt64S_calls (a b : Value) (ba bb : Nat) (zs ys : List Int) (w : World) (ha : OwnI w ba a zs) (hb : OwnI w bb b ys) :
    Calls Try.prog 20 #[a, b] w fun e w' => e = .returned (.bool (decide (zs = ys))) ∧ Below w.heap.size w w' := by
  have hla := ha.len
  have hlb := hb.len
  obtain ⟨oa, ca, rfl, hca⟩ := ha.view
  obtain ⟨ob, cb, rfl, hcb⟩ := hb.view
  clear ha hb
  unfold maxLen at hla hlb
  by_cases hne : zs.length = ys.length
  · have hne' : ((zs.length : Int) == (ys.length : Int)) = true := by simp; omega
    have hnb : ((zs.length : Int) != (ys.length : Int)) = false := by simp; omega
    have Hne := Lib.hid hne; clear hne hne'
    by_cases h0 : zs.length = 0
    · have h0b : ys.length = 0 := by rw [← Hne.out]; exact h0
      have Hz : Hid (zs = ys) := Lib.hid (by rw [List.eq_nil_of_length_eq_zero h0, List.eq_nil_of_length_eq_zero h0b])
      clear hca hcb
      generalize zs.length = n at *
      generalize ys.length = m at *
      subst h0 h0b
      go_enter Try.func20, Try.ntmps20
      go_wp2
      go_loop [5] (fun i => i = .int .i64 (0 : Nat)) (fun _ => 0)
      case atStart => rfl
      case round =>
        obtain rfl := hrel
        go_wp2
        go_ret
        exact ⟨ret_bool (by simp [Hz.out]), by (repeat (first | exact Below.refl _ _ | refine below_drew' ?_ | refine below_drewN' ?_ _ | refine below_alloc' ?_ _ | refine below_set' ?_ (by (try simp); (try omega)) _ | refine below_step ?_ (by assumption)))⟩
    · obtain ⟨g, rfl, _, hca⟩ := hca (by omega)
      obtain ⟨g2, rfl, _, hcb⟩ := hcb (by rw [← Hne.out]; omega)
      have h0' : ¬ ys.length = 0 := by rw [← Hne.out]; exact h0
      have Hca := Lib.hid hca; have Hcb := Lib.hid hcb; clear hca hcb
      go_enter Try.func20, Try.ntmps20
      go_wp2
      go_loopw [5] (fun i wr => ∃ k : Nat, k ≤ zs.length ∧ i = .int .i64 k ∧ (∃ nd, wr = w.drewN nd) ∧ Hid (zs.take k = ys.take k)) (fun i _ => zs.length - (intOf i).toNat)
      case atStart => exact ⟨0, by omega, rfl, ⟨0, rfl⟩, Lib.hid rfl⟩
      case round =>
        obtain ⟨k, hk, rfl, ⟨nd, rfl⟩, HT⟩ := hrel
        by_cases hlt : k < zs.length
        · have hlt2 : k < ys.length := by rw [← Hne.out]; exact hlt
          have c1 := Hca.out k hlt
          have c2 := Hcb.out k hlt2
          have hki : (k : Int) < zs.length := by omega
          have hki2 : (k : Int) < ys.length := by omega
          by_cases he : zs[k] = ys[k]
          · have Hn := Lib.hid (take_eq_next hlt hlt2 HT.out he)
            rw [← he] at c2
            generalize zs[k] = z at *
            clear he
            go_wp2
            go_quiet (fail)
            go_wp2
            go_roundw
            case rel => exact ⟨k + 1, by omega, by go_num, ⟨_, rfl⟩, Hn⟩
            case measure => simp [intOf] <;> omega
          · have hd : (zs[k] == ys[k]) = false := by simpa using he
            have hd2 : (zs[k] != ys[k]) = true := by simpa using he
            have Hd : Hid (decide (zs = ys) = false) := Lib.hid (by rw [decide_eq_false_iff_not]; intro e; subst e; exact he rfl)
            clear he
            generalize zs[k] = z at *
            generalize ys[k] = y at *
            go_wp2
            go_quiet (fail)
            go_wp2
            go_ret
            exact ⟨ret_bool Hd.out.symm, by (repeat (first | exact Below.refl _ _ | refine below_drew' ?_ | refine below_drewN' ?_ _ | refine below_alloc' ?_ _ | refine below_set' ?_ (by (try simp); (try omega)) _ | refine below_step ?_ (by assumption)))⟩
        · obtain rfl : k = zs.length := by omega
          have Hz : Hid (zs = ys) := Lib.hid (by have := HT.out; rw [List.take_length, Hne.out, List.take_length] at this; exact this)
          go_wp2
          go_ret
          exact ⟨ret_bool (by simp [Hz.out]), by (repeat (first | exact Below.refl _ _ | refine below_drew' ?_ | refine below_drewN' ?_ _ | refine below_alloc' ?_ _ | refine below_set' ?_ (by (try simp); (try omega)) _ | refine below_step ?_ (by assumption)))⟩
  · have hne' : ((zs.length : Int) == (ys.length : Int)) = false := by simp; omega
    have hnb : ((zs.length : Int) != (ys.length : Int)) = true := by simp; omega
    have Hd : Hid (decide (zs = ys) = false) := Lib.hid (by rw [decide_eq_false_iff_not]; intro e; subst e; exact hne rfl)
    clear hne
    go_enter Try.func20, Try.ntmps20
    go_wp2
    go_ret
    exact ⟨ret_bool Hd.out.symm, by (repeat (first | exact Below.refl _ _ | refine below_drew' ?_ | refine below_drewN' ?_ _ | refine below_alloc' ?_ _ | refine below_set' ?_ (by (try simp); (try omega)) _ | refine below_step ?_ (by assumption)))⟩

/-- k, k + 1, .. -/
def marksF (k n : Nat) : List Int := (List.range n).map fun i => ((k + i : Nat) : Int)
theorem marksF_len (k n : Nat) : (marksF k n).length = n := by simp [marksF]
theorem marksF_get (k n i : Nat) (h : i < n) : (marksF k n)[i]'(by rw [marksF_len]; exact h) = ((k + i : Nat) : Int) := by simp [marksF]
/-- The first j are marked. -/
def halfM (zs : List Int) (k j : Nat) : List Int := marksF k j ++ zs.drop j
theorem halfM_zero (zs : List Int) (k : Nat) : halfM zs k 0 = zs := by simp [halfM, marksF]
theorem halfM_len (zs : List Int) (k j : Nat) (h : j ≤ zs.length) : (halfM zs k j).length = zs.length := by simp [halfM, marksF_len]; omega
theorem halfM_all (zs : List Int) (k : Nat) : halfM zs k zs.length = marksF k zs.length := by simp [halfM]
theorem halfM_set (zs : List Int) (k j : Nat) (h : j < zs.length) : (halfM zs k j).set j ((k + j : Nat) : Int) = halfM zs k (j + 1) := by
  unfold halfM
  rw [List.set_append_right _ _ (by rw [marksF_len]; exact Nat.le_refl _), marksF_len, Nat.sub_self, List.drop_eq_getElem_cons h, List.set_cons_zero]
  simp [marksF, List.range_succ]

set_option maxRecDepth 100000 in
set_option maxHeartbeats 400000 in
/-- Every element becomes a mark; nothing else changes. -/
theorem markInt64S_calls (a : Value) (base k0 : Nat) (zs : List Int) (w : World) (ha : OwnI w base a zs) (hn : zs.length ≤ 1048576) (hk0 : k0 ≤ 1048576) :
    Calls Try.prog 24 #[a, .int .i64 k0] w fun e w' => e = .returned (.int .i64 ((k0 + zs.length : Nat) : Int)) ∧ OwnI w' base a (marksF k0 zs.length) ∧ Below base w w' ∧ w.heap.size ≤ w'.heap.size := by
  obtain ⟨oa, ca, rfl, hca⟩ := ha.view
  by_cases h0 : zs.length = 0
  · have hz : zs = [] := List.eq_nil_of_length_eq_zero h0
    subst hz
    have Ha := Lib.hid ha; clear ha hca
    go_enter Try.func24, Try.ntmps24
    go_wp2
    go_loop [1, 5] (fun kv i => i = .int .i64 (0 : Nat) ∧ kv = .int .i64 (k0 : Int)) (fun _ _ => 0)
    case atStart => exact ⟨rfl, rfl⟩
    case round =>
      obtain ⟨rfl, rfl⟩ := hrel
      go_wp2
      go_ret
      exact ⟨rfl, Ha.out, Below.refl _ _, Nat.le_refl _⟩
  · obtain ⟨g, rfl, hbg, _⟩ := hca (by omega)
    clear hca
    have Ha := Lib.hid ha; clear ha
    go_enter Try.func24, Try.ntmps24
    go_wp2
    go_loopw [1, 5] (fun kv i wr => ∃ j : Nat, j ≤ zs.length ∧ i = .int .i64 j ∧ kv = .int .i64 ((k0 : Int) + (j : Int)) ∧ Hid (wr.ownsRow base 2 1 (.slice (some ⟨g, 0, none⟩) zs.length ca) zs.length ((halfM zs k0 j).map (Value.int .i64))) ∧ Below base w wr ∧ w.heap.size ≤ wr.heap.size) (fun _ i _ => zs.length - (intOf i).toNat)
    case atStart => exact ⟨0, by omega, rfl, by simp, Lib.hid (by rw [halfM_zero]; exact Ha.out), Below.refl _ _, Nat.le_refl _⟩
    case round =>
      obtain ⟨j, hj, rfl, rfl, HO, hbel, hsz⟩ := hrel
      by_cases hlt : j < zs.length
      · have hcell := World.ownsRow.cellAt HO.out j (by omega)
        have hfr := World.ownsRow.frozenAt HO.out j
        rw [List.getElem?_map, List.getElem?_eq_getElem (by rw [halfM_len _ _ _ hj]; exact hlt)] at hcell
        simp only [Option.map_some] at hcell
        generalize (halfM zs k0 j)[j]'(by rw [halfM_len _ _ _ hj]; exact hlt) = old at hcell
        have hji : (j : Int) < zs.length := by omega
        have HS := Lib.hid (World.ownsRow.stored HO.out j (.int .i64 ((k0 : Int) + (j : Int))))
        have Hset := Lib.hid (halfM_set zs k0 j hlt)
        go_wp2
        go_roundw
        case rel =>
          refine ⟨j + 1, by omega, by go_num, by rw [show (((j + 1 : Nat) : Int)) = (j : Int) + 1 from by omega, Int.add_assoc], Lib.hid ?_, hbel.setCell hbg _, by simpa using hsz⟩
          have h1 := HS.out.1
          rw [← Hset.out, List.map_set]
          rw [show (((k0 + j : Nat) : Int)) = (k0 : Int) + (j : Int) from by omega]
          exact h1
        case measure => simp [intOf] <;> omega
      · obtain rfl : j = zs.length := by omega
        go_wp2
        go_ret
        refine ⟨ret_int (by omega), ?_, hbel, hsz⟩
        have h1 := HO.out
        rw [halfM_all] at h1
        unfold OwnI
        rw [marksF_len]
        exact h1

set_option maxRecDepth 100000 in
set_option maxHeartbeats 400000 in
/-- The marks are found. -/
theorem heldInt64S_calls (a : Value) (base k0 n : Nat) (w : World) (ha : OwnI w base a (marksF k0 n)) (hn : n ≤ 1048576) (hk0 : k0 ≤ 1048576) :
    Calls Try.prog 29 #[a, .int .i64 k0] w fun e w' => e = .returned (.int .i64 ((k0 + n : Nat) : Int)) ∧ w = w' := by
  obtain ⟨oa, ca, rfl, hca⟩ := ha.view
  have hca := fun h => hca (by rw [marksF_len]; exact h)
  rw [marksF_len]
  by_cases h0 : n = 0
  · subst h0
    clear hca ha
    go_enter Try.func29, Try.ntmps29
    go_wp2
    go_loop [1, 5] (fun kv i => i = .int .i64 (0 : Nat) ∧ kv = .int .i64 (k0 : Int)) (fun _ _ => 0)
    case atStart => exact ⟨rfl, rfl⟩
    case round =>
      obtain ⟨rfl, rfl⟩ := hrel
      go_wp2
      go_ret
      exact ⟨rfl, rfl⟩
  · obtain ⟨g, rfl, hbg, hcell⟩ := hca (by omega)
    clear hca
    have Hc := Lib.hid hcell; clear hcell ha
    go_enter Try.func29, Try.ntmps29
    go_wp2
    go_loop [1, 5] (fun kv i => ∃ j : Nat, j ≤ n ∧ i = .int .i64 j ∧ kv = .int .i64 ((k0 : Int) + (j : Int))) (fun _ i => n - (intOf i).toNat)
    case atStart => exact ⟨0, by omega, rfl, by simp⟩
    case round =>
      obtain ⟨j, hj, rfl, rfl⟩ := hrel
      by_cases hlt : j < n
      · have c1 := Hc.out j (by rw [marksF_len]; exact hlt)
        rw [marksF_get k0 n j hlt, show (((k0 + j : Nat) : Int)) = (k0 : Int) + (j : Int) from by omega] at c1
        have hji : (j : Int) < n := by omega
        go_wp2
        go_round
        case rel => exact ⟨j + 1, by omega, by go_num, by rw [show (((j + 1 : Nat) : Int)) = (j : Int) + 1 from by omega, Int.add_assoc]⟩
        case measure => simp [intOf] <;> omega
      · obtain rfl : j = n := by omega
        go_wp2
        go_ret
        exact ⟨ret_int (by omega), rfl⟩
end Go.Proofs.Ytliohokcjgcmhaa

namespace Go.Proofs.Ytliohokcjgcmhaa
open Go.RowKit

section
variable {ops : Array Oper} {rest : List Oper} {o : Oper} {a : Act} {w : World} {Q : Exit → Act → World → Prop}
/-- 'out = append(out, z)'. -/
theorem wpList_push_int (hgd : o.guard = none) (s x : Operand) (ho : o.op = .call { callee := .builtin .append, args := #[s, x], argTypes := #[26, 26] })
    (base : Nat) (v : Value) (zs : List Int) (hs : a.eval s = v) (hown : OwnI w base v zs) (g c : Nat) (z : Int) (hx : a.eval x = .slice (some ⟨g, 0, none⟩) 1 c) (hB : Blk w g #[.int .i64 z] 2)
    (hn : zs.length + 1 ≤ 1048576) (hbase : base ≤ w.heap.size)
    (h : ∀ v' w', OwnI w' base v' (zs ++ [z]) → Below base w w' → wpList Try.prog ops Q rest (a.put o.dst v') w') : wpList Try.prog ops Q (o :: rest) a w := by
  obtain ⟨i0, hi, hz0, hz1, hz2⟩ := info_parts info2
  refine wpList_append_own _ hgd s x 26 ho base 2 i0 (.int .i64 0) 1 8 Try.underlying26 hi hz0 hz1 hz2 rfl (by decide) v zs.length _ hs hown ⟨g, 0, none⟩ 1 c [.int .i64 z] hx rfl
    (fun j u hu => ?_) (fun u hu => ?_) (by unfold maxLen; omega) (by omega) hbase (fun v' w' hown' hg _ => h v' w' ?_ (below_grown hown hg hbase))
  · match j, hu with
    | 0, hu => simp at hu; subst hu; simpa [Addr.add] using hB.cell 0
  · simp at hu; subst hu; rfl
  · unfold OwnI; simpa using hown'
end
end Go.Proofs.Ytliohokcjgcmhaa
