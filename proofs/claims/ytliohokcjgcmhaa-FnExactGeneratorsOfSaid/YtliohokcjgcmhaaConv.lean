/- 'toMachine' and what it calls: the copy of a machine is the machine. -/
import Derived.Test.YtliohokcjgcmhaaMachC
import Derived.Test.YtliohokcjgcmhaaHeldK
namespace Go.Proofs.Ytliohokcjgcmhaa
open Go.RowKit

/-- The first k cells of c, the rest of z. -/
def cp (c z : Array Value) (k : Nat) : Array Value := (c.toList.take k ++ z.toList.drop k).toArray
theorem cp_zero (c z : Array Value) : cp c z 0 = z := by simp [cp]
theorem cp_all (c z : Array Value) (n : Nat) (h : c.size = n) (h' : z.size = n) : cp c z n = c := by
  apply Array.ext'; simp only [cp]; rw [List.take_of_length_le (by simp; omega), List.drop_of_length_le (by simp; omega), List.append_nil]
theorem cp_size (c z : Array Value) (n k : Nat) (h : c.size = n) (h' : z.size = n) (hk : k ≤ n) : (cp c z k).size = n := by simp [cp]; omega
theorem cp_get (c z : Array Value) (n k i : Nat) (h : c.size = n) (_h' : z.size = n) (hk : k ≤ n) : (cp c z k)[i]? = if i < k then c[i]? else z[i]? := by
  simp only [cp, List.getElem?_toArray]
  by_cases h1 : i < k
  · rw [if_pos h1, List.getElem?_append_left (by simp; omega), List.getElem?_take, if_pos h1]; simp
  · rw [if_neg h1, List.getElem?_append_right (by simp; omega), List.getElem?_drop]
    have e1 : (c.toList.take k).length = k := by simp; omega
    rw [e1, show k + (i - k) = i from by omega]; simp
theorem cp_set (c z : Array Value) (n k : Nat) (h : c.size = n) (h' : z.size = n) (hk : k < n) (v : Value) (hv : c[k]? = some v) : (cp c z k).setIfInBounds k v = cp c z (k + 1) := by
  apply Array.ext_getElem?
  intro i
  rw [Array.getElem?_setIfInBounds, cp_get c z n k i h h' (by omega), cp_get c z n (k + 1) i h h' (by omega), cp_size c z n k h h' (by omega)]
  by_cases e : k = i
  · subst e; rw [if_pos rfl, if_pos hk, if_pos (by omega), hv]
  · rw [if_neg e]
    by_cases h1 : i < k
    · rw [if_pos h1, if_pos (by omega)]
    · rw [if_neg h1, if_neg (by omega)]
theorem cp_over (c z : Array Value) (n k m : Nat) (h : c.size = n) (h' : z.size = n) (hk : k + m ≤ n) : over (cp c z k) k (cut c k m) = cp c z (k + m) := by
  have hs := cp_size c z n k h h' (by omega)
  have hm : (cut c k m).size = m := size_cut _ _ _ (by omega)
  apply Array.ext_getElem?
  intro i
  rw [get_over _ _ _ (by rw [hm, hs]; omega), hm, get_cut, cp_get c z n k i h h' (by omega), cp_get c z n (k + m) i h h' (by omega)]
  by_cases h1 : i < k
  · rw [if_pos h1, if_pos h1, if_pos (by omega)]
  · rw [if_neg h1]
    by_cases h2 : i < k + m
    · rw [if_pos h2, if_pos (by omega), if_pos h2, show k + (i - k) = i from by omega]
    · rw [if_neg h2, if_neg h1, if_neg h2]

/-- All cells are bytes. -/
def byteCells (c : Array Value) : Prop := ∀ v ∈ c.toList, ∃ n, v = .int .u8 n
theorem byteCells_one {c : Array Value} (h : byteCells c) : ∀ v ∈ c.toList, v.oneCell' = true := fun v hv => by obtain ⟨n, rfl⟩ := h v hv; rfl
theorem byteCells_all {c : Array Value} (h : byteCells c) : c.all (·.oneCell') = true := Array.all_eq_true_iff_forall_mem.2 fun v hv => byteCells_one h v (by simpa using hv)
theorem byteCells_at {c : Array Value} (h : byteCells c) (i : Nat) (hi : i < c.size) : ∃ n, c[i]? = some (.int .u8 n) := by
  obtain ⟨n, hn⟩ := h c[i] (by simp)
  exact ⟨n, by rw [Array.getElem?_eq_getElem hi, hn]⟩
theorem byteCells_cut {c : Array Value} (h : byteCells c) (o n : Nat) : byteCells (cut c o n) := fun v hv => h v (by
  simp only [cut, List.toList_toArray] at hv
  exact List.mem_of_mem_drop (List.mem_of_mem_take hv))

def zeros (n : Nat) : Array Value := (List.replicate n (Value.int .u8 0)).toArray
theorem zeros_size (n : Nat) : (zeros n).size = n := by simp [zeros]
theorem info_a3 : (Try.prog.info? 22).map (fun i => (i.zero, i.size)) = some (some (.agg (zeros 3)), 3) := by kernel_rfl
theorem info_a16 : (Try.prog.info? 23).map (fun i => (i.zero, i.size)) = some (some (.agg (zeros 48)), 48) := by kernel_rfl
theorem size_a3 : (Try.prog.info? 22).map (·.size) = some 3 := (zero_of_info info_a3).2
theorem size_a16 : (Try.prog.info? 23).map (·.size) = some 48 := (zero_of_info info_a16).2
theorem size_lmach : (Try.prog.info? 25).map (·.size) = some 98 := by kernel_rfl

set_option maxRecDepth 100000 in
set_option maxHeartbeats 1000000 in
theorem toByteA3_calls (c : Array Value) (hs : c.size = 3) (hc : byteCells c) (w : World) :
    Calls Try.prog 112 #[.agg c] w fun e w' => e = .returned (.agg c) ∧ Below w.heap.size w w' := by
  have hz := (zero_of_info info_a3).1
  have hB1 : Blk (((w.alloc (.cells c 22)).alloc (.cells (zeros 3) 22)).alloc (.cells (zeros 3) 22)) w.heap.size c 22 := ((Blk.new w _ _).alloc _).alloc _
  have hB2 : Blk (((w.alloc (.cells c 22)).alloc (.cells (zeros 3) 22)).alloc (.cells (zeros 3) 22)) (w.heap.size + 1) (zeros 3) 22 := (Blk.new_at _ _ _ _ (by simp)).alloc _
  have hB3 : Blk (((w.alloc (.cells c 22)).alloc (.cells (zeros 3) 22)).alloc (.cells (zeros 3) 22)) (w.heap.size + 1 + 1) (zeros 3) 22 := Blk.new_at _ _ _ _ (by simp)
  have hbw : Below w.heap.size w (((w.alloc (.cells c 22)).alloc (.cells (zeros 3) 22)).alloc (.cells (zeros 3) 22)) := by (repeat (first | exact Below.refl _ _ | refine below_drew' ?_ | refine below_drewN' ?_ _ | refine below_alloc' ?_ _ | refine below_set' ?_ (by (try simp); (try omega)) _ | refine below_step ?_ (by assumption)))
  go_enter Try.func112, Try.ntmps112
  go_wp2
  go_loopw [4] (fun i wr => ∃ k : Nat, k ≤ 3 ∧ i = .int .i64 k ∧ Blk wr w.heap.size c 22 ∧ Blk wr (w.heap.size + 1) (zeros 3) 22 ∧ Blk wr (w.heap.size + 1 + 1) (cp c (zeros 3) k) 22 ∧ Below w.heap.size w wr) (fun i _ => 3 - (intOf i).toNat)
  case atStart => exact ⟨0, by omega, rfl, hB1, hB2, by rw [cp_zero]; exact hB3, hbw⟩
  case round =>
    clear hB1 hB2 hB3 hbw
    obtain ⟨k, hk, rfl, hB1, hB2, hB3, hbw⟩ := hrel
    have Hs := Lib.hid hs
    by_cases hlt : k < 3
    · obtain ⟨n, hn⟩ := byteCells_at hc k (by omega)
      obtain ⟨m, hm⟩ : ∃ m, (cp c (zeros 3) k)[k]? = some m := ⟨_, Array.getElem?_eq_getElem (by rw [cp_size c _ 3 k hs (zeros_size 3) (by omega)]; exact hlt)⟩
      have Hset := Lib.hid (cp_set c (zeros 3) 3 k hs (zeros_size 3) hlt _ hn)
      have cA := hB1.cell
      have cC := hB3.cell
      have fC := hB3.free
      clear hs
      go_wp2
      go_roundw
      case rel => exact ⟨k + 1, by omega, by go_num, hB1.setOther _ _ _ (by omega), hB2.setOther _ _ _ (by omega), by rw [← Hset.out]; exact hB3.set _ _, hbw.setCell (by simp; omega) _⟩
      case measure => simp [intOf] <;> omega
    · obtain rfl : k = 3 := by omega
      rw [cp_all c _ 3 hs (zeros_size 3)] at hB3
      have F1 : Hid (cut c 0 3 = c) := Lib.hid (cut_all _ _ hs)
      have F2 : Hid (over (zeros 3) 0 c = c) := Lib.hid (over_all _ _ (by rw [zeros_size, hs]))
      clear hs
      go_wp2_with (first | (with_reducible show wpList _ _ _ _ _ _; refine wpList_load_blk rfl 22 (.tmp 3) rfl (w.heap.size + 1 + 1) 0 rfl c _ hB3 3 (by rw [Hs.out]; omega) _ Try.underlying22 rfl size_a3 ?_; rw [F1.out]) | (with_reducible show wpList _ _ _ _ _ _; refine wpList_store_blk rfl 22 (.tmp 2) (.tmp 14) rfl (w.heap.size + 1) 0 c rfl rfl (zeros 3) _ hB2 (by rw [Hs.out, zeros_size]; omega) (by rw [Hs.out]; exact size_a3) (byteCells_all hc) ?_; intro w4 hb4 hkeep _ hbl; rw [F2.out] at hb4; have hbw4 := hbl _ _ (by omega) hbw; clear hkeep hbl hbw hB1 hB2 hB3))
      exact bodyPost_cell rfl rfl hb4 Try.underlying22 rfl (by rw [Hs.out]; exact size_a3) rfl ⟨rfl, hbw4⟩

set_option maxRecDepth 100000 in
set_option maxHeartbeats 1000000 in
theorem toByteA3A16_calls (c : Array Value) (hs : c.size = 48) (hc : byteCells c) (w : World) :
    Calls Try.prog 52 #[.agg c] w fun e w' => e = .returned (.agg c) ∧ Below w.heap.size w w' := by
  have hz := (zero_of_info info_a16).1
  have hB1 : Blk (((w.alloc (.cells c 23)).alloc (.cells (zeros 48) 23)).alloc (.cells (zeros 48) 23)) w.heap.size c 23 := ((Blk.new w _ _).alloc _).alloc _
  have hB2 : Blk (((w.alloc (.cells c 23)).alloc (.cells (zeros 48) 23)).alloc (.cells (zeros 48) 23)) (w.heap.size + 1) (zeros 48) 23 := (Blk.new_at _ _ _ _ (by simp)).alloc _
  have hB3 : Blk (((w.alloc (.cells c 23)).alloc (.cells (zeros 48) 23)).alloc (.cells (zeros 48) 23)) (w.heap.size + 1 + 1) (zeros 48) 23 := Blk.new_at _ _ _ _ (by simp)
  have hbw : Below w.heap.size w (((w.alloc (.cells c 23)).alloc (.cells (zeros 48) 23)).alloc (.cells (zeros 48) 23)) := by (repeat (first | exact Below.refl _ _ | refine below_drew' ?_ | refine below_drewN' ?_ _ | refine below_alloc' ?_ _ | refine below_set' ?_ (by (try simp); (try omega)) _ | refine below_step ?_ (by assumption)))
  go_enter Try.func52, Try.ntmps52
  go_wp2
  go_loopw [4] (fun i wr => ∃ k : Nat, k ≤ 16 ∧ i = .int .i64 k ∧ Blk wr w.heap.size c 23 ∧ Blk wr (w.heap.size + 1) (zeros 48) 23 ∧ Blk wr (w.heap.size + 1 + 1) (cp c (zeros 48) (k * 3)) 23 ∧ Below w.heap.size w wr) (fun i _ => 16 - (intOf i).toNat)
  case atStart => exact ⟨0, by omega, rfl, hB1, hB2, by rw [Nat.zero_mul, cp_zero]; exact hB3, hbw⟩
  case round =>
    clear hB1 hB2 hB3 hbw
    obtain ⟨k, hk, rfl, hB1, hB2, hB3, hbw⟩ := hrel
    have Hs := Lib.hid hs
    by_cases hlt : k < 16
    · have h3 : (cut c (k * 3) 3).size = 3 := size_cut _ _ _ (by omega)
      have hb3 := byteCells_cut hc (k * 3) 3
      have hcp := cp_size c (zeros 48) 48 (k * 3) hs (zeros_size 48) (by omega)
      have Hset := Lib.hid (cp_over c (zeros 48) 48 (k * 3) 3 hs (zeros_size 48) (by omega))
      have H3 := Lib.hid h3; have Hcp := Lib.hid hcp
      clear hs h3 hcp
      go_wp2_with (first | (with_reducible show wpList _ _ _ _ _ _; refine wpList_load_blk rfl 22 (.tmp 11) rfl w.heap.size (k * 3) rfl c _ hB1 3 (by rw [Hs.out]; omega) _ Try.underlying22 rfl size_a3 ?_) | (go_at_call 112; refine (toByteA3_calls (cut c (k * 3) 3) H3.out hb3 _).mono ?_; rintro e w1 ⟨rfl, hb1⟩) | (with_reducible show wpList _ _ _ _ _ _; refine wpList_store_blk rfl 22 (.tmp 14) (.tmp 13) rfl (w.heap.size + 1 + 1) (k * 3) (cut c (k * 3) 3) rfl rfl (cp c (zeros 48) (k * 3)) _ (hB3.keptAll hb1) (by rw [H3.out, Hcp.out]; omega) (by rw [H3.out]; exact size_a3) (byteCells_all hb3) ?_; intro w4 hb4 hkeep _ hbl; rw [Hset.out] at hb4; have hbw4 := hbl _ _ (by omega) (below_step hbw hb1); have hB14 := hkeep _ _ _ (by omega) (hB1.keptAll hb1); have hB24 := hkeep _ _ _ (by omega) (hB2.keptAll hb1); clear hkeep hbl))
      go_roundw
      case rel => exact ⟨k + 1, by omega, by go_num, hB14, hB24, by rw [show (k + 1) * 3 = k * 3 + 3 from by omega]; exact hb4, hbw4⟩
      case measure => simp [intOf] <;> omega
    · obtain rfl : k = 16 := by omega
      rw [cp_all c _ 48 hs (zeros_size 48)] at hB3
      have F1 : Hid (cut c 0 48 = c) := Lib.hid (cut_all _ _ hs)
      have F2 : Hid (over (zeros 48) 0 c = c) := Lib.hid (over_all _ _ (by rw [zeros_size, hs]))
      clear hs
      go_wp2_with (first | (with_reducible show wpList _ _ _ _ _ _; refine wpList_load_blk rfl 23 (.tmp 3) rfl (w.heap.size + 1 + 1) 0 rfl c _ hB3 48 (by rw [Hs.out]; omega) _ Try.underlying23 rfl size_a16 ?_; rw [F1.out]) | (with_reducible show wpList _ _ _ _ _ _; refine wpList_store_blk rfl 23 (.tmp 2) (.tmp 15) rfl (w.heap.size + 1) 0 c rfl rfl (zeros 48) _ hB2 (by rw [Hs.out, zeros_size]; omega) (by rw [Hs.out]; exact size_a16) (byteCells_all hc) ?_; intro w4 hb4 hkeep _ hbl; rw [F2.out] at hb4; have hbw4 := hbl _ _ (by omega) hbw; clear hkeep hbl hbw hB1 hB2 hB3))
      exact bodyPost_cell rfl rfl hb4 Try.underlying23 rfl (by rw [Hs.out]; exact size_a16) rfl ⟨rfl, hbw4⟩

theorem mc_bytes {M : Mach} (h : M.Ok) (o : Nat) (ho : 2 ≤ o) : byteCells (cut (mc M) o 48) := fun v hv => by
  simp only [cut, List.toList_toArray] at hv
  have hv2 := List.mem_of_mem_take hv
  obtain ⟨i, hi, rfl⟩ := List.getElem_of_mem hv2
  simp only [List.length_drop, Array.length_toList] at hi
  have hs := mc_size h
  have := mc_get h (o + i)
  rw [Array.getElem?_eq_getElem (by omega), if_neg (by omega), if_neg (by omega)] at this
  simp only [List.getElem_drop, Array.getElem_toList]
  by_cases h1 : o + i < 50
  · rw [if_pos h1] at this; exact ⟨_, Option.some.inj this⟩
  · rw [if_neg h1, if_pos (by omega)] at this; exact ⟨_, Option.some.inj this⟩
theorem toByteA3A16_cut (M : Mach) (h : M.Ok) (o : Nat) (ho : 2 ≤ o) (ho2 : o ≤ 50) (w : World) :
    Calls Try.prog 52 #[.agg (cut (mc M) o 48)] w fun e w' => e = .returned (.agg (cut (mc M) o 48)) ∧ Below w.heap.size w w' :=
  toByteA3A16_calls _ (size_cut _ _ _ (by rw [mc_size h]; omega)) (mc_bytes h o ho) w
theorem mc_rebuild {M : Mach} (h : M.Ok) : over (over (mc ⟨M.L, M.S, List.replicate 48 0, List.replicate 48 0⟩) 2 (cut (mc M) 2 48)) 50 (cut (mc M) 50 48) = mc M := by
  have hs := mc_size h
  have hz : (⟨M.L, M.S, List.replicate 48 0, List.replicate 48 0⟩ : Mach).Ok := ⟨by simp, by simp, fun n hn => by rw [List.mem_replicate] at hn; omega, fun n hn => by rw [List.mem_replicate] at hn; omega, h.Lwf, h.Swf⟩
  have hzs := mc_size hz
  have c2 : (cut (mc M) 2 48).size = 48 := size_cut _ _ _ (by omega)
  have c50 : (cut (mc M) 50 48).size = 48 := size_cut _ _ _ (by omega)
  have ho := size_over (mc ⟨M.L, M.S, List.replicate 48 0, List.replicate 48 0⟩) 2 (cut (mc M) 2 48) (by omega)
  apply Array.ext_getElem?
  intro i
  rw [get_over _ _ _ (by omega), get_over _ _ _ (by omega), c2, c50, get_cut, get_cut]
  by_cases h1 : i < 50
  · rw [if_pos h1]
    by_cases h2 : i < 2
    · rw [if_pos h2, mc_get hz, mc_get h]
      by_cases h0 : i = 0
      · simp only [h0, if_true]
      · have : i = 1 := by omega
        subst this; simp
    · rw [if_neg h2, if_pos (by omega), if_pos (by omega), show 2 + (i - 2) = i from by omega]
  · rw [if_neg h1]
    by_cases h3 : i < 98
    · rw [if_pos (by omega), if_pos (by omega), show 50 + (i - 50) = i from by omega]
    · rw [if_neg (by omega), if_neg (by omega), if_neg (by omega), Array.getElem?_eq_none (by omega), Array.getElem?_eq_none (by omega)]

set_option maxRecDepth 100000 in
set_option maxHeartbeats 1000000 in
theorem toMachine_calls (M : Mach) (hok : M.Ok) (w : World) :
    Calls Try.prog 16 #[.agg (mc M)] w fun e w' => e = .returned (.agg (mc M)) ∧ Below w.heap.size w w' := by
  have hcL := mc_L M
  have hcS := mc_S M
  have hz := zero_mach
  have hzs : (mc zeroM).size = 98 := mc_size zeroM_ok
  obtain ⟨Z0, hZ0⟩ : ∃ Z0 : Mach, Z0 = ⟨M.L, M.S, List.replicate 48 0, List.replicate 48 0⟩ := ⟨_, rfl⟩
  have hset : ((mc zeroM).setIfInBounds 0 (.int .i64 M.L)).setIfInBounds 1 (.int .i64 M.S) = mc Z0 := by rw [zero_set, hZ0]
  have hzok : Z0.Ok := by rw [hZ0]; exact ⟨by simp, by simp, fun n hn => by rw [List.mem_replicate] at hn; omega, fun n hn => by rw [List.mem_replicate] at hn; omega, hok.Lwf, hok.Swf⟩
  have hreb := mc_rebuild hok
  rw [← hZ0] at hreb
  clear hZ0
  have HzS := Lib.hid (mc_size hzok)
  have HmS := Lib.hid (mc_size hok)
  have Hreb := Lib.hid hreb; clear hreb
  have H2 := Lib.hid (size_cut (mc M) 2 48 (by rw [HmS.out]; omega))
  have H50 := Lib.hid (size_cut (mc M) 50 48 (by rw [HmS.out]; omega))
  have Hov := Lib.hid (size_over (mc Z0) 2 (cut (mc M) 2 48) (by rw [HzS.out, H2.out]; omega))
  have F1 : Hid (cut (mc M) 0 98 = mc M) := Lib.hid (cut_all _ _ HmS.out)
  have F2 : Hid (over (mc zeroM) 0 (mc M) = mc M) := Lib.hid (over_all _ _ (by rw [HmS.out, hzs]))
  have hB1 : Blk (((w.alloc (.cells (mc M) 25)).alloc (.cells (mc zeroM) 27)).alloc (.cells (mc Z0) 27)) w.heap.size (mc M) 25 := ((Blk.new w _ _).alloc _).alloc _
  have hB2 : Blk (((w.alloc (.cells (mc M) 25)).alloc (.cells (mc zeroM) 27)).alloc (.cells (mc Z0) 27)) (w.heap.size + 1) (mc zeroM) 27 := (Blk.new_at _ _ _ _ (by simp)).alloc _
  have hB3 : Blk (((w.alloc (.cells (mc M) 25)).alloc (.cells (mc zeroM) 27)).alloc (.cells (mc Z0) 27)) (w.heap.size + 1 + 1) (mc Z0) 27 := Blk.new_at _ _ _ _ (by simp)
  have hbw : Below w.heap.size w (((w.alloc (.cells (mc M) 25)).alloc (.cells (mc zeroM) 27)).alloc (.cells (mc Z0) 27)) := by (repeat (first | exact Below.refl _ _ | refine below_drew' ?_ | refine below_drewN' ?_ _ | refine below_alloc' ?_ _ | refine below_set' ?_ (by (try simp); (try omega)) _ | refine below_step ?_ (by assumption)))
  go_enter Try.func16, Try.ntmps16
  go_wp2_with (first | (with_reducible show wpList _ _ _ _ _ _; refine wpList_load_blk rfl 23 (.tmp 10) rfl w.heap.size 2 rfl (mc M) _ hB1 48 (by rw [HmS.out]; omega) _ Try.underlying23 rfl size_a16 ?_) | (go_at_call 52; refine (toByteA3A16_cut M hok _ (by omega) (by omega) _).mono ?_; rintro e w1 ⟨rfl, hb1⟩) | (with_reducible show wpList _ _ _ _ _ _; refine wpList_store_blk rfl 23 (.tmp 13) (.tmp 12) rfl (w.heap.size + 1 + 1) 2 (cut (mc M) 2 48) rfl rfl (mc Z0) _ (hB3.keptAll hb1) (by rw [HzS.out, H2.out]; omega) (by rw [H2.out]; exact size_a16) (byteCells_all (mc_bytes hok 2 (by omega))) ?_; intro w4 hb4 hkeep _ hbl; have hbw4 := hbl _ _ (by omega) (below_step hbw hb1); have hB14 := hkeep _ _ _ (by omega) (hB1.keptAll hb1); have hB24 := hkeep _ _ _ (by omega) (hB2.keptAll hb1); clear hkeep hbl hb1) | (with_reducible show wpList _ _ _ _ _ _; refine wpList_load_blk rfl 23 (.tmp 14) rfl w.heap.size 50 rfl (mc M) _ hB14 48 (by rw [HmS.out]; omega) _ Try.underlying23 rfl size_a16 ?_) | (with_reducible show wpList _ _ _ _ _ _; refine wpList_store_blk rfl 23 (.tmp 17) (.tmp 16) rfl (w.heap.size + 1 + 1) 50 (cut (mc M) 50 48) rfl rfl _ _ (hb4.keptAll hb1) (by rw [Hov.out, HzS.out, H50.out]; omega) (by rw [H50.out]; exact size_a16) (byteCells_all (mc_bytes hok 50 (by omega))) ?_; intro w5 hb5 hkeep _ hbl; rw [Hreb.out] at hb5; have hbw5 := hbl _ _ (by omega) (below_step hbw4 hb1); have hB25 := hkeep _ _ _ (by omega) (hB24.keptAll hb1); clear hkeep hbl hb1) | (with_reducible show wpList _ _ _ _ _ _; refine wpList_load_blk rfl 27 (.tmp 3) rfl (w.heap.size + 1 + 1) 0 rfl (mc M) _ hb5 98 (by rw [HmS.out]; omega) _ Try.underlying27 rfl size_mach ?_; rw [F1.out]) | (with_reducible show wpList _ _ _ _ _ _; refine wpList_store_blk rfl 27 (.tmp 2) (.tmp 18) rfl (w.heap.size + 1) 0 (mc M) rfl rfl (mc zeroM) _ hB25 (by rw [HmS.out, hzs]; omega) (by rw [HmS.out]; exact size_mach) (mc_one M) ?_; intro w6 hb6 hkeep _ hbl; rw [F2.out] at hb6; have hbw6 := hbl _ _ (by omega) hbw5; clear hkeep hbl))
  exact bodyPost_cell rfl rfl hb6 Try.underlying27 rfl (by rw [HmS.out]; exact size_mach) rfl ⟨rfl, hbw6⟩
end Go.Proofs.Ytliohokcjgcmhaa
