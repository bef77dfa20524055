/- Slices of numbers that may be read, wherever they lie; appended as a whole; copied. Slices of numbers as arguments: they may lie anywhere; 'toInt64S' copies them. -/
import Derived.Test.YtliohokcjgcmhaaInts
import Derived.Laws.AppendOwnNone
import Derived.Maps.AppendAt
namespace Go.Proofs.Ytliohokcjgcmhaa
open Go.RowKit

/-- A slice of numbers that may be read. -/
def SeesI (w : World) (v : Value) (zs : List Int) : Prop :=
  zs.length ≤ maxLen ∧ ((v = .slice none 0 0 ∧ zs = []) ∨ ∃ g cap c, v = .slice (some ⟨g, 0, none⟩) zs.length cap ∧ Blk w g c 2 ∧ c.toList.take zs.length = zs.map (Value.int .i64))
theorem SeesI.below {w w1 : World} {v : Value} {zs : List Int} (h : SeesI w v zs) (hb : Below w.heap.size w w1) : SeesI w1 v zs := by
  refine ⟨h.1, ?_⟩
  rcases h.2 with h2 | ⟨g, cap, c, hv, hB, ht⟩
  · exact .inl h2
  · exact .inr ⟨g, cap, c, hv, hB.keptAll hb, ht⟩
theorem SeesI.under {w w1 : World} {B : Nat} {v : Value} {zs : List Int} (h : SeesI w v zs) (hv : ∀ k, v.ownBlock = some k → k < B) (hb : Below B w w1) : SeesI w1 v zs := by
  refine ⟨h.1, ?_⟩
  rcases h.2 with h2 | ⟨g, cap, c, hv', hB, ht⟩
  · exact .inl h2
  · exact .inr ⟨g, cap, c, hv', hB.kept hb (hv g (by rw [hv']; rfl)), ht⟩
theorem SeesI.other {w w' : World} {v : Value} {zs : List Int} (h : SeesI w v zs) (hs : ∀ k, v.ownBlock = some k → w'.heap[k]? = w.heap[k]?) : SeesI w' v zs := by
  refine ⟨h.1, ?_⟩
  rcases h.2 with h2 | ⟨g, cap, c, hv', hB, ht⟩
  · exact .inl h2
  · exact .inr ⟨g, cap, c, hv', by unfold Blk at *; rw [hs g (by rw [hv']; rfl)]; exact hB, ht⟩
theorem SeesI.lt {w : World} {v : Value} {zs : List Int} (h : SeesI w v zs) : ∀ k, v.ownBlock = some k → k < w.heap.size := fun k hk => by
  rcases h.2 with ⟨hv, _⟩ | ⟨g, cap, c, hv, hB, _⟩
  · rw [hv] at hk; cases hk
  · rw [hv] at hk
    have : g = k := by simpa [Value.ownBlock] using hk
    rw [← this]; exact hB.lt
theorem OwnI.sees {w : World} {base : Nat} {v : Value} {zs : List Int} (h : OwnI w base v zs) : SeesI w v zs := by
  refine ⟨h.len, ?_⟩
  rcases h.2 with ⟨hv, h0⟩ | ⟨g, cap, cur, hv, hbg, hg, hn, hm, hs, ht⟩
  · exact .inl ⟨hv, List.eq_nil_of_length_eq_zero h0⟩
  · exact .inr ⟨g, cap, cur, hv, hg, by rw [Nat.mul_one] at ht; exact ht⟩
theorem SeesI.view {w : World} {v : Value} {zs : List Int} (h : SeesI w v zs) :
    ∃ oa cap, v = .slice oa zs.length cap ∧ (0 < zs.length → ∃ g, oa = some ⟨g, 0, none⟩ ∧ g < w.heap.size ∧ (∀ i (hi : i < zs.length), w.cell? ⟨g, i, none⟩ = some (.int .i64 zs[i]))) := by
  rcases h.2 with ⟨hv, h0⟩ | ⟨g, cap, c, hv, hB, ht⟩
  · subst h0; exact ⟨none, 0, hv, fun hp => absurd hp (by simp)⟩
  · refine ⟨_, cap, hv, fun _ => ⟨g, rfl, hB.lt, fun i hi => ?_⟩⟩
    rw [hB.cell]
    have := congrArg (fun l => l[i]?) ht
    simp only [List.getElem?_take, List.getElem?_map] at this
    rw [if_pos hi, List.getElem?_eq_getElem hi] at this
    simpa using this
/-- One of them. -/
theorem SeesI.at {w : World} {oa : Option Addr} {n cap : Nat} {zs : List Int} (h : SeesI w (.slice oa n cap) zs) (i : Nat) (hi : i < zs.length) :
    ∃ g, oa = some ⟨g, 0, none⟩ ∧ g < w.heap.size ∧ w.cell? ⟨g, i, none⟩ = some (.int .i64 zs[i]) := by
  obtain ⟨oa', cap', hv, hc⟩ := h.view
  obtain ⟨g, hg, hlt, hcell⟩ := hc (by omega)
  simp only [Value.slice.injEq] at hv
  exact ⟨g, by rw [hv.1, hg], hlt, hcell i hi⟩
theorem SeesI.len {w : World} {oa : Option Addr} {n cap : Nat} {zs : List Int} (h : SeesI w (.slice oa n cap) zs) : zs.length = n := by
  obtain ⟨oa', cap', hv, hc⟩ := h.view
  simp only [Value.slice.injEq] at hv
  exact hv.2.1.symm

section
variable {ops : Array Oper} {rest : List Oper} {o : Oper} {a : Act} {w : World} {Q : Exit → Act → World → Prop}
/-- 'out = append(out, g...)'. -/
theorem wpList_join_ints (hgd : o.guard = none) (s x : Operand) (ho : o.op = .call { callee := .builtin .append, args := #[s, x], argTypes := #[26, 26] })
    (base : Nat) (v vx : Value) (zs ys : List Int) (hs : a.eval s = v) (hown : OwnI w base v zs) (hx : a.eval x = vx) (hsee : SeesI w vx ys)
    (hn : zs.length + ys.length ≤ 1048576) (hbase : base ≤ w.heap.size)
    (h : ∀ v' w', OwnI w' base v' (zs ++ ys) → Below base w w' → (∀ k, v'.ownBlock = some k → some k = v.ownBlock ∨ k = w.heap.size) → (∀ k, k < w.heap.size → some k ≠ v.ownBlock → w'.heap[k]? = w.heap[k]?) → wpList Try.prog ops Q rest (a.put o.dst v') w') : wpList Try.prog ops Q (o :: rest) a w := by
  obtain ⟨i0, hi, hz0, hz1, hz2⟩ := info_parts info2
  rcases hsee.2 with ⟨rfl, rfl⟩ | ⟨g, cap, c, rfl, hB, ht⟩
  · refine wpList_append_own_none hgd s x 26 ho base 2 i0 1 Try.underlying26 hi v zs.length _ hs hown hx (h v w ?_ (Below.refl _ _) (fun k hk => .inl hk.symm) (fun _ _ _ => rfl))
    simpa using hown
  · refine wpList_append_own_at _ hgd s x 26 ho base 2 i0 (.int .i64 0) 1 8 Try.underlying26 hi hz0 hz1 hz2 rfl (by decide) v zs.length _ hs hown ⟨g, 0, none⟩ ys.length cap (ys.map (Value.int .i64)) hx (by simp)
      (fun j u hu => ?_) (fun u hu => ?_) (by unfold maxLen; omega) (by omega) hbase (fun v' w' hown' hg _ hat => h v' w' ?_ (below_grown hown hg hbase) (fun k hk => ?_) hg.block)
    · rw [Addr.add_mid, Nat.zero_add, hB.cell]
      rw [← ht, List.getElem?_take] at hu
      split at hu
      · simpa using hu
      · cases hu
    · obtain ⟨z, _, rfl⟩ := List.mem_map.1 hu; rfl
    · unfold OwnI; simpa using hown'
    · rcases hat with e | e
      · exact .inl (by rw [← hk, e])
      · exact .inr (by rw [e] at hk; exact (Option.some.inj hk).symm)
end
end Go.Proofs.Ytliohokcjgcmhaa

namespace Go.Proofs.Ytliohokcjgcmhaa
open Go.RowKit

/-- A cell stays. -/
theorem cell_kept {w w1 : World} {a : Addr} {v : Value} (hb : Below w.heap.size w w1) (h : w.cell? a = some v) : w1.cell? a = some v := by
  have hlt : a.block < w.heap.size := by
    rcases Nat.lt_or_ge a.block w.heap.size with h' | h'
    · exact h'
    · unfold World.cell? at h; rw [Array.getElem?_eq_none h'] at h; cases h
  rw [hb.cell hlt]; exact h
/-- A slice of numbers that came in. -/
def ArgI (w : World) (v : Value) (zs : List Int) : Prop :=
  zs.length ≤ maxLen ∧ ∃ oa cap, v = .slice oa zs.length cap ∧ (0 < zs.length → ∃ g o, oa = some ⟨g, o, none⟩ ∧ ∀ i (hi : i < zs.length), w.cell? ⟨g, o + i, none⟩ = some (.int .i64 zs[i]))
theorem ArgI.below {w w1 : World} {v : Value} {zs : List Int} (h : ArgI w v zs) (hb : Below w.heap.size w w1) : ArgI w1 v zs := by
  obtain ⟨h1, oa, cap, hv, hc⟩ := h
  refine ⟨h1, oa, cap, hv, fun hp => ?_⟩
  obtain ⟨g, o, ho, hcell⟩ := hc hp
  exact ⟨g, o, ho, fun i hi => cell_kept hb (hcell i hi)⟩

/-- The cells of numbers. -/
def ints (zs : List Int) : Array Value := (zs.map (Value.int .i64)).toArray
theorem ints_size (zs : List Int) : (ints zs).size = zs.length := by simp [ints]
theorem ints_get (zs : List Int) (i : Nat) (h : i < zs.length) : (ints zs)[i]? = some (.int .i64 zs[i]) := by simp [ints, h]
/-- The first k of zs, then zeros. -/
def padI (zs : List Int) (k : Nat) : List Int := zs.take k ++ List.replicate (zs.length - k) 0
theorem padI_zero (zs : List Int) : padI zs 0 = List.replicate zs.length 0 := by simp [padI]
theorem padI_all (zs : List Int) : padI zs zs.length = zs := by simp [padI]
theorem padI_len (zs : List Int) (k : Nat) (h : k ≤ zs.length) : (padI zs k).length = zs.length := by simp [padI]; omega
theorem padI_set (zs : List Int) (k : Nat) (h : k < zs.length) : (padI zs k).set k zs[k] = padI zs (k + 1) := by
  unfold padI
  rw [List.set_append_right _ _ (by simp; omega), show k - (zs.take k).length = 0 from by simp; omega, show zs.length - k = (zs.length - (k + 1)) + 1 from by omega, List.replicate_succ, List.set_cons_zero, List.take_succ_eq_append_getElem h]
  rw [List.append_assoc]; rfl
theorem ints_set (zs : List Int) (i : Nat) (v : Int) : ints (zs.set i v) = (ints zs).setIfInBounds i (.int .i64 v) := by
  apply Array.ext'; simp [ints]
/-- A made row of numbers is a slice of the call's own. -/
theorem OwnI.made {w : World} {base g n : Nat} {zs : List Int} (hl : zs.length = n) (hm : n ≤ maxLen) (hg : base ≤ g) (hB : Blk w g (ints zs) 2) : OwnI w base (.slice (some ⟨g, 0, none⟩) n n) zs := by
  subst hl
  refine ⟨by simp, .inr ⟨g, zs.length, _, rfl, hg, hB, Nat.le_refl _, hm, by simp [ints], ?_⟩⟩
  simp [ints, List.take_of_length_le]
theorem made_ints (n : Nat) : madeCells (Value.int .i64 0).cells n = ints (List.replicate n 0) := by
  apply Array.ext
  · simp [madeCells, ints]
  · intro i h1 h2
    simp [madeCells, Value.cells, Nat.mod_one, ints]
/-- 'make([]int64, n)'. -/
theorem mk_ints (n : Nat) (hn : n ≤ 1048576) (W : World) : (Instr.makeSlice 26 (.int .i64 n) (.int .i64 n)).run Try.prog W = .ok (.slice (some ⟨W.heap.size, 0, none⟩) n n) (W.alloc (.cells (ints (List.replicate n 0)) 2)) := by
  obtain ⟨i0, hi, hz0, hz1, hz2⟩ := info_parts info2
  have := run_make (P := Try.prog) W 26 2 i0 (.int .i64 0) Try.underlying26 hi hz0 .i64 .i64 n n (by omega) (by omega) (by rw [hz2]; omega) (by omega)
  rwa [hz1, Int.toNat_natCast, Nat.mul_one, made_ints] at this

set_option maxRecDepth 100000 in
set_option maxHeartbeats 400000 in
theorem toInt64S_calls (v : Value) (zs : List Int) (w : World) (ha : ArgI w v zs) (hn : zs.length ≤ 1048576) :
    Calls Try.prog 17 #[v] w fun e w' => ∃ v', e = .returned v' ∧ OwnI w' w.heap.size v' zs ∧ Below w.heap.size w w' := by
  obtain ⟨h1, oa, cap, rfl, hc⟩ := ha
  have hmk := mk_ints zs.length hn
  have Hc := Lib.hid hc; clear hc
  have hB0 : Blk (w.alloc (.cells (ints (padI zs 0)) 2)) w.heap.size (ints (padI zs 0)) 2 := Blk.new w _ _
  rw [padI_zero] at hB0
  have hbw0 : Below w.heap.size w (w.alloc (.cells (ints (List.replicate zs.length 0)) 2)) := by (repeat (first | exact Below.refl _ _ | refine below_drew' ?_ | refine below_drewN' ?_ _ | refine below_alloc' ?_ _ | refine below_set' ?_ (by (try simp); (try omega)) _ | refine below_step ?_ (by assumption)))
  go_enter Try.func17, Try.ntmps17
  go_wp2
  go_loopw [4] (fun i wr => ∃ k : Nat, k ≤ zs.length ∧ i = .int .i64 k ∧ Blk wr w.heap.size (ints (padI zs k)) 2 ∧ Below w.heap.size w wr) (fun i _ => zs.length - (intOf i).toNat)
  case atStart => exact ⟨0, by omega, rfl, by rw [padI_zero]; exact hB0, hbw0⟩
  case round =>
    clear hB0 hbw0 hmk
    obtain ⟨k, hk, rfl, hB, hbw⟩ := hrel
    by_cases hlt : k < zs.length
    · obtain ⟨g, o, rfl, hcell⟩ := Hc.out (by omega)
      have c1 := cell_kept hbw (hcell k hlt)
      have hki : (k : Int) < zs.length := by omega
      have hl := padI_len zs k hk
      have hs : (ints (padI zs k))[k]? = some ((ints (padI zs k))[k]'(by rw [ints_size, hl]; exact hlt)) := Array.getElem?_eq_getElem _
      generalize (ints (padI zs k))[k]'(by rw [ints_size, hl]; exact hlt) = old at hs
      have Hset : Hid (ints (padI zs (k + 1)) = (ints (padI zs k)).setIfInBounds k (.int .i64 zs[k])) := Lib.hid (by rw [← padI_set zs k hlt, ints_set])
      have cC := hB.cell
      have fC := hB.free
      have hB2 := hB.set k (.int .i64 zs[k])
      have hbw2 := below_set' (o := k) hbw (b := w.heap.size) (Nat.le_refl _) (.int .i64 zs[k])
      rw [← Hset.out] at hB2
      generalize zs[k] = z at *
      clear hl hcell hB hbw
      go_wp2
      go_roundw
      case rel => exact ⟨k + 1, by omega, by go_num, hB2, hbw2⟩
      case measure => simp [intOf] <;> omega
    · obtain rfl : k = zs.length := by omega
      go_wp2
      go_ret
      exact ⟨_, rfl, OwnI.made rfl (by unfold maxLen; omega) (Nat.le_refl _) (by rw [padI_all] at hB; exact hB), hbw⟩
end Go.Proofs.Ytliohokcjgcmhaa
