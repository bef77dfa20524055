/- 'walk' and 'l01Act': the word to which a state leads a word, and its section there. -/
import Derived.Test.YtdbdoohcpcjfdaaLedM
import Derived.Test.YtdbdoohcpcjfdaaInts
import Derived.Test.YtdbdoohcpcjfdaaMachC
namespace Go.Proofs.Ytdbdoohcpcjfdaa
open Go.RowKit

set_option maxRecDepth 100000 in
set_option maxHeartbeats 1000000 in
theorem walk_calls (M : Mach) (L S : Nat) (hg : Good M L S) (q0 : Nat) (hq0 : q0 < S) (s : ByteArray) (hs : s.size ≤ 40) (hl : lettersL L s.data.toList = true) (w : World) :
    Calls Try.prog 59 #[.agg (mc M), .int .i64 q0, .string s] w fun e w' =>
      e = .returned (.tuple #[.string ⟨(runL M q0 s.data.toList).2.toArray⟩, .int .i64 ((runL M q0 s.data.toList).1 : Nat)]) ∧ Below w.heap.size w w' := by
  have hok := hg.ok
  have hL3 := hg.L3
  have hS16 := hg.S16
  have hsz : s.size = s.data.toList.length := size_list s
  have Hsz := Lib.hid hsz; clear hsz
  obtain ⟨i0, hi, hz0, hz1, hz2⟩ := info_parts info5
  have hmk := run_make (P := Try.prog) (w.alloc (.cells (mc M) 28)) 74 5 i0 (.int .u8 0) Try.underlying74 hi hz0 .i64 .i64 s.size s.size (by omega) (by omega) (by rw [hz2]; omega) (by omega)
  rw [hz1, Int.toNat_natCast, Nat.mul_one, made_zero, ← imC_zero] at hmk
  simp only [World.size_alloc] at hmk
  have Hi := Lib.hid hi; clear hi hz0 hz1 hz2
  have hB1 : Blk ((w.alloc (.cells (mc M) 28)).alloc (.cells (imC s.size []) 5)) w.heap.size (mc M) 28 := (Blk.new w _ _).alloc _
  have hB2 : Blk ((w.alloc (.cells (mc M) 28)).alloc (.cells (imC s.size []) 5)) (w.heap.size + 1) (imC s.size []) 5 := Blk.new_at _ _ _ _ (by simp)
  have hbw : Below w.heap.size w ((w.alloc (.cells (mc M) 28)).alloc (.cells (imC s.size []) 5)) := by (repeat (first | exact Below.refl _ _ | refine below_drew' ?_ | refine below_drewN' ?_ _ | refine below_alloc' ?_ _ | refine below_set' ?_ (by (try simp); (try omega)) _ | refine below_step ?_ (by assumption)))
  go_enter Try.func59, Try.ntmps59
  go_wp2
  go_loopw [1, 16] (fun qv i wr => ∃ k : Nat, k ≤ s.size ∧ i = .int .i64 k ∧ qv = .int .i64 ((runL M q0 (s.data.toList.take k)).1 : Nat) ∧ Blk wr w.heap.size (mc M) 28 ∧
      Blk wr (w.heap.size + 1) (imC s.size (runL M q0 (s.data.toList.take k)).2) 5 ∧ Below w.heap.size w wr) (fun _ i _ => s.size - (intOf i).toNat)
  case atStart => exact ⟨0, by omega, rfl, rfl, hB1, hB2, hbw⟩
  case round =>
    clear hB1 hB2 hbw hmk
    obtain ⟨k, hk, rfl, rfl, hB1, hB2, hbw⟩ := hrel
    have hkl : k ≤ s.data.toList.length := by rw [← Hsz.out]; exact hk
    have hst := hg.st_lt q0 hq0 s.data.toList hl k hkl
    have hbl : (runL M q0 (s.data.toList.take k)).2.length = k := by rw [runL_len, List.length_take]; omega
    by_cases hlt : k < s.size
    · have hlt' : k < s.data.toList.length := by rw [← Hsz.out]; exact hlt
      obtain ⟨h48, h51⟩ := lettersL_at hl k hlt'
      have hrun := runL_snoc M q0 (s.data.toList.take k) s.data.toList[k]
      rw [← take_snoc s.data.toList k hlt'] at hrun
      have he : s.data.toList[k] = s[k] := rfl
      rw [he] at hrun h48 h51
      simp only [stepL] at hrun
      generalize (runL M q0 (s.data.toList.take k)).1 = st at *
      generalize (runL M q0 (s.data.toList.take k)).2 = bs at *
      obtain ⟨x, hx⟩ : ∃ x : Nat, s[k].toNat = 48 + x := ⟨s[k].toNat - 48, by omega⟩
      rw [show s[k].toNat - 48 = x from by omega] at hrun
      have hxL : x < L := by omega
      obtain ⟨hn0, hn1⟩ := hg.n_lt st x hst hxL
      obtain ⟨ho0, ho1⟩ := hg.o_lt st x hst hxL
      have hcn := mc_n hok st x (by omega) (by omega)
      have hco := mc_o hok st x (by omega) (by omega)
      have hdig := dig_toNat (M.o st x) ho0 (by omega)
      have Hset := Lib.hid (imC_set s.size bs (dig (M.o st x)) (by omega))
      rw [hbl] at Hset
      rw [hdig] at Hset
      obtain ⟨nv, hnv⟩ := Int.eq_ofNat_of_zero_le hn0
      rw [hnv] at hcn hn0 hn1
      simp only [hnv, Int.toNat_natCast] at hrun
      have Hrun := Lib.hid hrun
      have Hx := Lib.hid hx
      have hx' : (s[k].toNat : Int) = 48 + (x : Int) := by omega
      have hcell : (imC s.size bs)[k]? = some ((imC s.size bs)[k]'(by rw [imC_size _ _ (by omega)]; omega)) := Array.getElem?_eq_getElem _
      generalize (imC s.size bs)[k]'(by rw [imC_size _ _ (by omega)]; omega) = cv at hcell
      have cA := hB1.cell
      have cB := hB2.cell
      have fB := hB2.free
      clear hrun hx hbl hdig he hnv
      go_wp2
      go_roundw
      case rel => exact ⟨k + 1, by omega, by go_num, by rw [Hrun.out], hB1.setOther _ _ _ (by omega), by rw [Hrun.out, ← Hset.out]; exact hB2.set _ _, hbw.setCell (by simp) _⟩
      case measure => simp [intOf] <;> omega
    · obtain rfl : k = s.size := by omega
      rw [imC_done _ _ hbl] at hB2
      have hall : s.data.toList.take s.size = s.data.toList := by rw [Hsz.out, List.take_length]
      rw [hall] at hB2 hbl ⊢
      have hstr := run_str_block (P := Try.prog) wr 74 9 5 (w.heap.size + 1) s.size s.size _ _ _ Try.underlying74 Try.underlying5 Try.underlying9 hbl hB2 rfl
      clear hbl hst hall
      go_wp2
      go_ret2
      exact ⟨rfl, hbw⟩

set_option maxRecDepth 100000 in
set_option maxHeartbeats 1000000 in
theorem l01Act_calls (M : Mach) (L S : Nat) (hg : Good M L S) (q0 : Nat) (hq0 : q0 < S) (s : ByteArray) (hs : s.size ≤ 40) (hl : lettersL L s.data.toList = true) (w : World) :
    Calls Try.prog 29 #[.agg (mc M), .int .i64 q0, .string s] w fun e w' =>
      e = .returned (.tuple #[.string ⟨(runL M q0 s.data.toList).2.toArray⟩, .int .i64 ((runL M q0 s.data.toList).1 : Nat)]) ∧ Below w.heap.size w w' := by
  have hok := hg.ok
  have hL3 := hg.L3
  have hS16 := hg.S16
  have hsz : s.size = s.data.toList.length := size_list s
  have Hsz := Lib.hid hsz; clear hsz
  have hB1 : Blk ((w.alloc (.cells (mc M) 28)).alloc (.cells #[] 5)) w.heap.size (mc M) 28 := (Blk.new w _ _).alloc _
  have hO : OwnB ((w.alloc (.cells (mc M) 28)).alloc (.cells #[] 5)) (w.heap.size + 1) (.slice (some ⟨w.heap.size + 1, 0, none⟩) 0 0) [] := by
    have := OwnB.empty (w.alloc (.cells (mc M) 28)) (w.heap.size + 1) 0 #[] (by simp) (by simp) rfl
    simpa using this
  have hbw : Below w.heap.size w ((w.alloc (.cells (mc M) 28)).alloc (.cells #[] 5)) := by (repeat (first | exact Below.refl _ _ | refine below_drew' ?_ | refine below_drewN' ?_ _ | refine below_alloc' ?_ _ | refine below_set' ?_ (by (try simp); (try omega)) _ | refine below_step ?_ (by assumption)))
  go_enter Try.func29, Try.ntmps29
  go_wp2
  go_loopw [1, 8, 9] (fun qv v i wr => ∃ k : Nat, k ≤ s.size ∧ i = .int .i64 k ∧ qv = .int .i64 ((runL M q0 (s.data.toList.take k)).1 : Nat) ∧ Blk wr w.heap.size (mc M) 28 ∧
      OwnB wr (w.heap.size + 1) v (runL M q0 (s.data.toList.take k)).2 ∧ Below w.heap.size w wr) (fun _ _ i _ => s.size - (intOf i).toNat)
  case atStart => exact ⟨0, by omega, rfl, rfl, hB1, hO, hbw⟩
  case round =>
    clear hB1 hO hbw
    obtain ⟨k, hk, rfl, rfl, hB1, hO, hbw⟩ := hrel
    have hkl : k ≤ s.data.toList.length := by rw [← Hsz.out]; exact hk
    have hst := hg.st_lt q0 hq0 s.data.toList hl k hkl
    have hbl : (runL M q0 (s.data.toList.take k)).2.length = k := by rw [runL_len, List.length_take]; omega
    by_cases hlt : k < s.size
    · have hlt' : k < s.data.toList.length := by rw [← Hsz.out]; exact hlt
      obtain ⟨h48, h51⟩ := lettersL_at hl k hlt'
      have hrun := runL_snoc M q0 (s.data.toList.take k) s.data.toList[k]
      rw [← take_snoc s.data.toList k hlt'] at hrun
      have he : s.data.toList[k] = s[k] := rfl
      rw [he] at hrun h48 h51
      simp only [stepL] at hrun
      generalize (runL M q0 (s.data.toList.take k)).1 = st at *
      generalize (runL M q0 (s.data.toList.take k)).2 = bs at *
      obtain ⟨x, hx⟩ : ∃ x : Nat, s[k].toNat = 48 + x := ⟨s[k].toNat - 48, by omega⟩
      rw [show s[k].toNat - 48 = x from by omega] at hrun
      have hxL : x < L := by omega
      obtain ⟨hn0, hn1⟩ := hg.n_lt st x hst hxL
      obtain ⟨ho0, ho1⟩ := hg.o_lt st x hst hxL
      have hcn := mc_n hok st x (by omega) (by omega)
      have hco := mc_o hok st x (by omega) (by omega)
      have hdig := dig_toNat (M.o st x) ho0 (by omega)
      obtain ⟨nv, hnv⟩ := Int.eq_ofNat_of_zero_le hn0
      rw [hnv] at hcn hn0 hn1
      simp only [hnv, Int.toNat_natCast] at hrun
      have Hrun := Lib.hid hrun
      have Hx := Lib.hid hx
      have Hbl := Lib.hid hbl
      have Hdig := Lib.hid hdig
      have hx' : (s[k].toNat : Int) = 48 + (x : Int) := by omega
      have cA := hB1.cell
      have hsz0 := hbw.size
      have hlt1 := hB1.lt
      clear hrun hx hbl hdig he hnv
      go_wp2_with (at_builtin; refine wpList_push_byte rfl (.tmp 22) (.tmp 30) rfl (w.heap.size + 1) _ bs rfl (hO.below (Below.alloc (Below.refl _ _) (Nat.le_refl _) (.cells #[.int .u8 (48 + M.o st x)] 5))) wr.heap.size 1 (dig (M.o st x)) rfl (by rw [Hdig.out]; exact Blk.new wr _ _) (by rw [Hbl.out]; omega) (by simp; omega) ?_; intro v1 w1 hO1 hb1; have hB11 := (hB1.alloc (.cells #[.int .u8 (48 + M.o st x)] 5)).kept hb1 (by omega); have cA1 := hB11.cell)
      go_roundw
      case rel => exact ⟨k + 1, by omega, by go_num, by rw [Hrun.out], hB11, by rw [Hrun.out]; exact hO1, (hbw.alloc hbw.size _).trans (below_le hb1 (by omega))⟩
      case measure => simp [intOf] <;> omega
    · obtain rfl : k = s.size := by omega
      rw [Hsz.out, List.take_length] at hO hst hbl ⊢
      have hstr := run_str_own hO
      clear hbl hst
      go_wp2
      go_ret2
      exact ⟨rfl, hbw⟩
end Go.Proofs.Ytdbdoohcpcjfdaa
