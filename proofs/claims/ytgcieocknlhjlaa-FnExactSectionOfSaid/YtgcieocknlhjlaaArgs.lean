/- Slices of numbers as arguments: they may lie anywhere; 'toInt64S' copies them. -/
import Derived.Test.YtgcieocknlhjlaaSees
namespace Go.Proofs.Ytgcieocknlhjlaa
open Go.RowKit

/-- A cell stays. -/
theorem cell_kept {w w1 : World} {a : Addr} {v : Value} (hb : Below w.heap.size w w1) (h : w.cell? a = some v) : w1.cell? a = some v := by
  have hlt : a.block < w.heap.size := by
    rcases Nat.lt_or_ge a.block w.heap.size with h' | h'
    · exact h'
    · unfold World.cell? at h; rw [Array.getElem?_eq_none h'] at h; cases h
  rw [hb.cell hlt]; exact h
/-- A slice of numbers that came in. -/
def ArgI (w : World) (v : Value) (zs : List Int) : Prop :=
  zs.length ≤ maxLen ∧ ∃ oa cap, v = .slice oa zs.length cap ∧ (0 < zs.length → ∃ g o, oa = some ⟨g, o, none⟩ ∧ ∀ i (hi : i < zs.length), w.cell? ⟨g, o + i, none⟩ = some (.int .i64 zs[i]))
theorem ArgI.below {w w1 : World} {v : Value} {zs : List Int} (h : ArgI w v zs) (hb : Below w.heap.size w w1) : ArgI w1 v zs := by
  obtain ⟨h1, oa, cap, hv, hc⟩ := h
  refine ⟨h1, oa, cap, hv, fun hp => ?_⟩
  obtain ⟨g, o, ho, hcell⟩ := hc hp
  exact ⟨g, o, ho, fun i hi => cell_kept hb (hcell i hi)⟩

/-- The cells of numbers. -/
def ints (zs : List Int) : Array Value := (zs.map (Value.int .i64)).toArray
theorem ints_size (zs : List Int) : (ints zs).size = zs.length := by simp [ints]
theorem ints_get (zs : List Int) (i : Nat) (h : i < zs.length) : (ints zs)[i]? = some (.int .i64 zs[i]) := by simp [ints, h]
/-- The first k of zs, then zeros. -/
def padI (zs : List Int) (k : Nat) : List Int := zs.take k ++ List.replicate (zs.length - k) 0
theorem padI_zero (zs : List Int) : padI zs 0 = List.replicate zs.length 0 := by simp [padI]
theorem padI_all (zs : List Int) : padI zs zs.length = zs := by simp [padI]
theorem padI_len (zs : List Int) (k : Nat) (h : k ≤ zs.length) : (padI zs k).length = zs.length := by simp [padI]; omega
theorem padI_set (zs : List Int) (k : Nat) (h : k < zs.length) : (padI zs k).set k zs[k] = padI zs (k + 1) := by
  unfold padI
  rw [List.set_append_right _ _ (by simp; omega), show k - (zs.take k).length = 0 from by simp; omega, show zs.length - k = (zs.length - (k + 1)) + 1 from by omega, List.replicate_succ, List.set_cons_zero, List.take_succ_eq_append_getElem h]
  rw [List.append_assoc]; rfl
theorem ints_set (zs : List Int) (i : Nat) (v : Int) : ints (zs.set i v) = (ints zs).setIfInBounds i (.int .i64 v) := by
  apply Array.ext'; simp [ints]
/-- A made row of numbers is a slice of the call's own. -/
theorem OwnI.made {w : World} {base g n : Nat} {zs : List Int} (hl : zs.length = n) (hm : n ≤ maxLen) (hg : base ≤ g) (hB : Blk w g (ints zs) 2) : OwnI w base (.slice (some ⟨g, 0, none⟩) n n) zs := by
  subst hl
  refine ⟨by simp, .inr ⟨g, zs.length, _, rfl, hg, hB, Nat.le_refl _, hm, by simp [ints], ?_⟩⟩
  simp [ints, List.take_of_length_le]
theorem made_ints (n : Nat) : madeCells (Value.int .i64 0).cells n = ints (List.replicate n 0) := by
  apply Array.ext
  · simp [madeCells, ints]
  · intro i h1 h2
    simp [madeCells, Value.cells, Nat.mod_one, ints]
/-- 'make([]int64, n)'. -/
theorem mk_ints (n : Nat) (hn : n ≤ 1048576) (W : World) : (Instr.makeSlice 26 (.int .i64 n) (.int .i64 n)).run Try.prog W = .ok (.slice (some ⟨W.heap.size, 0, none⟩) n n) (W.alloc (.cells (ints (List.replicate n 0)) 2)) := by
  obtain ⟨i0, hi, hz0, hz1, hz2⟩ := info_parts info2
  have := run_make (P := Try.prog) W 26 2 i0 (.int .i64 0) Try.underlying26 hi hz0 .i64 .i64 n n (by omega) (by omega) (by rw [hz2]; omega) (by omega)
  rwa [hz1, Int.toNat_natCast, Nat.mul_one, made_ints] at this

set_option maxRecDepth 100000 in
set_option maxHeartbeats 400000 in
theorem toInt64S_calls (v : Value) (zs : List Int) (w : World) (ha : ArgI w v zs) (hn : zs.length ≤ 1048576) :
    Calls Try.prog 10 #[v] w fun e w' => ∃ v', e = .returned v' ∧ OwnI w' w.heap.size v' zs ∧ Below w.heap.size w w' := by
  obtain ⟨h1, oa, cap, rfl, hc⟩ := ha
  have hmk := mk_ints zs.length hn
  have Hc := Lib.hid hc; clear hc
  have hB0 : Blk (w.alloc (.cells (ints (padI zs 0)) 2)) w.heap.size (ints (padI zs 0)) 2 := Blk.new w _ _
  rw [padI_zero] at hB0
  have hbw0 : Below w.heap.size w (w.alloc (.cells (ints (List.replicate zs.length 0)) 2)) := by (repeat (first | exact Below.refl _ _ | refine below_drew' ?_ | refine below_drewN' ?_ _ | refine below_alloc' ?_ _ | refine below_set' ?_ (by (try simp); (try omega)) _ | refine below_step ?_ (by assumption)))
  go_enter Try.func10, Try.ntmps10
  go_wp2
  go_loopw [4] (fun i wr => ∃ k : Nat, k ≤ zs.length ∧ i = .int .i64 k ∧ Blk wr w.heap.size (ints (padI zs k)) 2 ∧ Below w.heap.size w wr) (fun i _ => zs.length - (intOf i).toNat)
  case atStart => exact ⟨0, by omega, rfl, by rw [padI_zero]; exact hB0, hbw0⟩
  case round =>
    clear hB0 hbw0 hmk
    obtain ⟨k, hk, rfl, hB, hbw⟩ := hrel
    by_cases hlt : k < zs.length
    · obtain ⟨g, o, rfl, hcell⟩ := Hc.out (by omega)
      have c1 := cell_kept hbw (hcell k hlt)
      have hki : (k : Int) < zs.length := by omega
      have hl := padI_len zs k hk
      have hs : (ints (padI zs k))[k]? = some ((ints (padI zs k))[k]'(by rw [ints_size, hl]; exact hlt)) := Array.getElem?_eq_getElem _
      generalize (ints (padI zs k))[k]'(by rw [ints_size, hl]; exact hlt) = old at hs
      have Hset : Hid (ints (padI zs (k + 1)) = (ints (padI zs k)).setIfInBounds k (.int .i64 zs[k])) := Lib.hid (by rw [← padI_set zs k hlt, ints_set])
      have cC := hB.cell
      have fC := hB.free
      have hB2 := hB.set k (.int .i64 zs[k])
      have hbw2 := below_set' (o := k) hbw (b := w.heap.size) (Nat.le_refl _) (.int .i64 zs[k])
      rw [← Hset.out] at hB2
      generalize zs[k] = z at *
      clear hl hcell hB hbw
      go_wp2
      go_roundw
      case rel => exact ⟨k + 1, by omega, by go_num, hB2, hbw2⟩
      case measure => simp [intOf] <;> omega
    · obtain rfl : k = zs.length := by omega
      go_wp2
      go_ret
      exact ⟨_, rfl, OwnI.made rfl (by unfold maxLen; omega) (Nat.le_refl _) (by rw [padI_all] at hB; exact hB), hbw⟩
end Go.Proofs.Ytgcieocknlhjlaa
