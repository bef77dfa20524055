/- Both 'GroupText's. -/
import Derived.Test.YtoiadhenoankfaaGrpP
namespace Go.Proofs.Ytoiadhenoankfaa
open Go.RowKit

/-- The letter of a number. -/
def lgI (z : Int) : Int := if 0 < z then 97 + (z - 1) else 65 + (-z - 1)
def lgB (z : Int) : UInt8 := UInt8.ofNat (lgI z).toNat
theorem lgB_toNat (z : Int) (h : -16 ≤ z ∧ z ≤ 16 ∧ z ≠ 0) : ((lgB z).toNat : Int) = lgI z := by
  unfold lgB
  have h1 : 0 ≤ lgI z ∧ lgI z ≤ 200 := by unfold lgI; split <;> omega
  rw [UInt8.toNat_ofNat_of_lt' (by show _ < 256; omega)]
  omega
def txtI (zs : List Int) : List UInt8 := zs.map lgB
theorem txtI_len (zs : List Int) : (txtI zs).length = zs.length := by simp [txtI]
/-- Numbers of at most 16, not 0. -/
def numI16 (zs : List Int) : Prop := ∀ z ∈ zs, -16 ≤ z ∧ z ≤ 16 ∧ z ≠ 0
theorem isGrp_num {M : Mach} {zs : List Int} (h : isGrp M zs = true) : numI16 zs := by
  obtain ⟨h1, h2⟩ := isGrp_parts h
  have hS := (isMach_parts h1).2
  intro z hz
  obtain ⟨i, hi, rfl⟩ := List.getElem_of_mem hz
  have := (numOk_iff _ _).1 (grpOk_at h2 i hi)
  omega
def gtxR (M : Mach) (zs : List Int) : ByteArray := if isGrp M zs then ⟨(txtI zs).toArray⟩ else ⟨#[]⟩
theorem ret_si {s s' : ByteArray} {m m' : Int} (hs : s = s') (h : m = m') : Ending.returned (.tuple #[.string s, .int .i64 m]) = Ending.returned (.tuple #[.string s', .int .i64 m']) := by rw [hs, h]

set_option maxRecDepth 100000 in
set_option maxHeartbeats 2000000 in
theorem l02Text_calls (v : Value) (zs : List Int) (w : World) (hv : SeesI w v zs) (hn : zs.length ≤ 40) (hz : numI16 zs) :
    Calls Try.prog 43 #[v] w fun e w' => e = .returned (.string ⟨(txtI zs).toArray⟩) ∧ Below w.heap.size w w' := by
  obtain ⟨oa, cap, rfl, hc⟩ := hv.view
  have Hc := Lib.hid hc; clear hc hv
  have hO0 : OwnB (w.alloc (.cells #[] 5)) w.heap.size (.slice (some ⟨w.heap.size, 0, none⟩) 0 0) [] := OwnB.empty w _ 0 #[] (Nat.le_refl _) (by unfold maxLen; omega) rfl
  have hbw0 : Below w.heap.size w (w.alloc (.cells #[] 5)) := by (repeat (first | exact Below.refl _ _ | refine below_drew' ?_ | refine below_drewN' ?_ _ | refine below_alloc' ?_ _ | refine below_set' ?_ (by (try simp); (try omega)) _ | refine below_step ?_ (by assumption)))
  go_enter Try.func43, Try.ntmps43
  go_wp2
  go_loopw [3, 4] (fun out i wr => ∃ k : Nat, k ≤ zs.length ∧ i = .int .i64 k ∧ OwnB wr w.heap.size out (txtI (zs.take k)) ∧ Below w.heap.size w wr) (fun _ i _ => zs.length - (intOf i).toNat)
  case atStart => exact ⟨0, by omega, rfl, by simpa [txtI] using hO0, hbw0⟩
  case round =>
    clear hO0 hbw0
    obtain ⟨k, hk, rfl, hO, hbw⟩ := hrel
    have hsz := hbw.size
    by_cases hlt : k < zs.length
    · obtain ⟨g, rfl, _, hcell⟩ := Hc.out (by omega)
      have c1 := cell_kept hbw (hcell k hlt)
      have hki : (k : Int) < zs.length := by omega
      have hb := hz _ (List.getElem_mem hlt)
      have hl := lgB_toNat _ hb
      have Hsn : Hid (txtI (zs.take (k + 1)) = txtI (zs.take k) ++ [lgB zs[k]]) := Lib.hid (by unfold txtI; rw [List.take_succ_eq_append_getElem hlt, List.map_append]; rfl)
      have Hln : Hid ((txtI (zs.take k)).length = k) := Lib.hid (by rw [txtI_len, List.length_take]; omega)
      generalize zs[k] = z at *
      clear hcell
      have hz0 := hb.1; have hz1 := hb.2.1; have hzn := hb.2.2
      clear hb
      by_cases hp : 0 < z
      · have hlv : lgI z = 97 + (z - 1) := by unfold lgI; rw [if_pos hp]
        have hlv2 : lgI z = 97 + z - 1 := by omega
        have Hl : Hid (Value.int .u8 (97 + z - 1) = Value.int .u8 ((lgB z).toNat : Int)) := Lib.hid (by rw [hl, hlv2])
        clear hl hlv hlv2 hzn
        go_wp2_with (at_builtin; try rw [Hl.out]; refine wpList_push_byte rfl (.tmp 17) (.tmp 25) rfl w.heap.size _ (txtI (zs.take k)) rfl (hO.below (Below.alloc (Below.refl _ _) (Nat.le_refl _) (.cells #[.int .u8 ((lgB z).toNat : Int)] 5))) _ 1 (lgB z) rfl (Blk.new _ _ _) (by rw [Hln.out]; omega) (by simp; omega) ?_; intro v1 w4 hO1 hb1)
        go_roundw
        case rel => exact ⟨k + 1, by omega, by go_num, by rw [Hsn.out]; exact hO1, (hbw.alloc hbw.size _).trans hb1⟩
        case measure => simp [intOf] <;> omega
      · have hlv2 : lgI z = 65 - z - 1 := by unfold lgI; rw [if_neg hp]; omega
        have Hl : Hid (Value.int .u8 (65 - z - 1) = Value.int .u8 ((lgB z).toNat : Int)) := Lib.hid (by rw [hl, hlv2])
        have hn0 : z < 0 := by omega
        clear hl hlv2 hzn
        go_wp2_with (at_builtin; try rw [Hl.out]; refine wpList_push_byte rfl (.tmp 27) (.tmp 35) rfl w.heap.size _ (txtI (zs.take k)) rfl (hO.below (Below.alloc (Below.refl _ _) (Nat.le_refl _) (.cells #[.int .u8 ((lgB z).toNat : Int)] 5))) _ 1 (lgB z) rfl (Blk.new _ _ _) (by rw [Hln.out]; omega) (by simp; omega) ?_; intro v1 w4 hO1 hb1)
        go_roundw
        case rel => exact ⟨k + 1, by omega, by go_num, by rw [Hsn.out]; exact hO1, (hbw.alloc hbw.size _).trans hb1⟩
        case measure => simp [intOf] <;> omega
    · obtain rfl : k = zs.length := by omega
      rw [List.take_length] at hO
      have hstr := run_str_own hO
      go_wp2
      go_ret
      exact ⟨rfl, hbw⟩

/-- The cells of bytes. -/
def bys (l : List UInt8) : Array Value := (l.map fun b => Value.int .u8 (b.toNat : Int)).toArray
theorem bys_size (l : List UInt8) : (bys l).size = l.length := by simp [bys]
theorem bys_set (l : List UInt8) (i : Nat) (b : UInt8) : bys (l.set i b) = (bys l).setIfInBounds i (.int .u8 (b.toNat : Int)) := by
  apply Array.ext'; simp [bys]
def padT (zs : List Int) (k : Nat) : List UInt8 := txtI (zs.take k) ++ List.replicate (zs.length - k) 0
theorem padT_zero (zs : List Int) : padT zs 0 = List.replicate zs.length 0 := by simp [padT, txtI]
theorem padT_all (zs : List Int) : padT zs zs.length = txtI zs := by simp [padT]
theorem padT_len (zs : List Int) (k : Nat) (h : k ≤ zs.length) : (padT zs k).length = zs.length := by rw [padT, List.length_append, txtI_len, List.length_take, List.length_replicate]; omega
theorem padT_set (zs : List Int) (k : Nat) (h : k < zs.length) : (padT zs k).set k (lgB zs[k]) = padT zs (k + 1) := by
  unfold padT
  rw [List.set_append_right _ _ (by rw [txtI_len, List.length_take]; omega), show k - (txtI (zs.take k)).length = 0 from by rw [txtI_len, List.length_take]; omega, show zs.length - k = (zs.length - (k + 1)) + 1 from by omega, List.replicate_succ, List.set_cons_zero, List.take_succ_eq_append_getElem h]
  unfold txtI
  rw [List.map_append, List.append_assoc]; rfl
theorem made_bys (n : Nat) : madeCells (Value.int .u8 0).cells n = bys (List.replicate n 0) := by
  apply Array.ext
  · simp [madeCells, bys]
  · intro i h1 h2
    simp [madeCells, Value.cells, Nat.mod_one, bys]
theorem mk_bys (n : Nat) (hn : n ≤ 1048576) (W : World) : (Instr.makeSlice 53 (.int .i64 n) (.int .i64 n)).run Try.prog W = .ok (.slice (some ⟨W.heap.size, 0, none⟩) n n) (W.alloc (.cells (bys (List.replicate n 0)) 5)) := by
  obtain ⟨i0, hi, hz0, hz1, hz2⟩ := info_parts info5
  have := run_make (P := Try.prog) W 53 5 i0 (.int .u8 0) Try.underlying53 hi hz0 .i64 .i64 n n (by omega) (by omega) (by rw [hz2]; omega) (by omega)
  rwa [hz1, Int.toNat_natCast, Nat.mul_one, made_bys] at this

set_option maxRecDepth 100000 in
set_option maxHeartbeats 2000000 in
theorem sGroupText_calls (M : Mach) (hok : M.Ok) (v1 : Value) (zs1 : List Int) (w : World) (hv1 : SeesI w v1 zs1) :
    Calls Try.prog 25 #[.agg (mc M), v1] w fun e w' => e = .returned (.tuple #[.string (gtxR M zs1), .int .i64 (code1 M zs1)]) ∧ Below w.heap.size w w' := by
  obtain ⟨oa1, ca1, rfl, q1⟩ := hv1.view
  clear q1
  have F1 : Hid (cut (mc M) 0 98 = mc M) := Lib.hid (cut_all _ _ (mc_size hok)); have F2 : Hid (0 + 98 ≤ (mc M).size) := Lib.hid (by rw [mc_size hok]; omega)
  have hB : Blk (w.alloc (.cells (mc M) 28)) w.heap.size (mc M) 28 := Blk.new w _ _
  have hbw0 : Below w.heap.size w (w.alloc (.cells (mc M) 28)) := by (repeat (first | exact Below.refl _ _ | refine below_drew' ?_ | refine below_drewN' ?_ _ | refine below_alloc' ?_ _ | refine below_set' ?_ (by (try simp); (try omega)) _ | refine below_step ?_ (by assumption)))
  have hv1B := hv1.below hbw0
  clear hv1
  have hL1 := seesL1 hv1B
  rw [show (w.alloc (.cells (mc M) 28)).heap.size = w.heap.size + 1 from by simp] at hL1
  have hbw1 := below_alloc' hbw0 (.cells #[Value.slice oa1 zs1.length ca1] 26)
  have hbB : Below (w.alloc (.cells (mc M) 28)).heap.size (w.alloc (.cells (mc M) 28)) ((w.alloc (.cells (mc M) 28)).alloc (.cells #[Value.slice oa1 zs1.length ca1] 26)) := by (repeat (first | exact Below.refl _ _ | refine below_drew' ?_ | refine below_drewN' ?_ _ | refine below_alloc' ?_ _ | refine below_set' ?_ (by (try simp); (try omega)) _ | refine below_step ?_ (by assumption)))
  have hv1C := hv1B.below hbB
  cases hm : isGrp M zs1
  · have Hc : Hid (code1 M zs1 = 1) := Lib.hid (by simp [code1, hm])
    have Hr : Hid (gtxR M zs1 = ⟨#[]⟩) := Lib.hid (by simp [gtxR, hm])
    go_enter Try.func25, Try.ntmps25
    go_wp2_with (first | (with_reducible show wpList _ _ _ _ _ _; refine wpList_load_blk rfl 28 (.tmp 2) rfl w.heap.size 0 rfl (mc M) _ (hB) 98 F2.out _ Try.underlying28 rfl size_mach ?_; rw [F1.out]) | (go_at_call 33; refine (l02Code_one M hok _ _ zs1 _ hm _ hL1).mono ?_; rintro e w1 ⟨rfl, hb1⟩; simp only [Bool.false_eq_true, if_false]))
    go_ret2
    exact ⟨ret_si Hr.out.symm Hc.out.symm, below_step hbw1 hb1⟩
  · have Hc : Hid (code1 M zs1 = 0) := Lib.hid (by simp [code1, hm])
    have Hr : Hid (gtxR M zs1 = ⟨(txtI zs1).toArray⟩) := Lib.hid (by simp [gtxR, hm])
    have hl1 := isGrp_len hm
    have hs1 := Lib.hid (isGrp_num hm)
    go_enter Try.func25, Try.ntmps25
    go_wp2_with (first | (with_reducible show wpList _ _ _ _ _ _; refine wpList_load_blk rfl 28 (.tmp 2) rfl w.heap.size 0 rfl (mc M) _ (hB) 98 F2.out _ Try.underlying28 rfl size_mach ?_; rw [F1.out]) | (go_at_call 33; refine (l02Code_one M hok _ _ zs1 _ hm _ hL1).mono ?_; rintro e w1 ⟨rfl, hb1⟩; simp only [if_true]; have hv1D := hv1C.below hb1; have hbw := below_step hbw1 hb1) | (go_at_call 43; refine (l02Text_calls _ zs1 _ hv1D hl1 hs1.out).mono ?_; rintro e w2 ⟨rfl, hb2⟩))
    go_ret2
    exact ⟨ret_si Hr.out.symm Hc.out.symm, below_step hbw hb2⟩

set_option maxRecDepth 100000 in
set_option maxHeartbeats 2000000 in
theorem iGroupText_calls (M : Mach) (hok : M.Ok) (v1 : Value) (zs1 : List Int) (w : World) (hv1 : SeesI w v1 zs1) :
    Calls Try.prog 26 #[.agg (mc M), v1] w fun e w' => e = .returned (.tuple #[.string (gtxR M zs1), .int .i64 (code1 M zs1)]) ∧ Below w.heap.size w w' := by
  obtain ⟨oa1, ca1, rfl, q1⟩ := hv1.view
  have F1 : Hid (cut (mc M) 0 98 = mc M) := Lib.hid (cut_all _ _ (mc_size hok)); have F2 : Hid (0 + 98 ≤ (mc M).size) := Lib.hid (by rw [mc_size hok]; omega)
  have hB : Blk (w.alloc (.cells (mc M) 28)) w.heap.size (mc M) 28 := Blk.new w _ _
  have hbw0 : Below w.heap.size w (w.alloc (.cells (mc M) 28)) := by (repeat (first | exact Below.refl _ _ | refine below_drew' ?_ | refine below_drewN' ?_ _ | refine below_alloc' ?_ _ | refine below_set' ?_ (by (try simp); (try omega)) _ | refine below_step ?_ (by assumption)))
  have hv1B := hv1.below hbw0
  clear hv1
  cases hm : isGrp M zs1
  · have Hc : Hid (code1 M zs1 = 1) := Lib.hid (by simp [code1, hm])
    have Hr : Hid (gtxR M zs1 = ⟨#[]⟩) := Lib.hid (by simp [gtxR, hm])
    clear q1
    go_enter Try.func26, Try.ntmps26
    go_wp2_with (first | (with_reducible show wpList _ _ _ _ _ _; refine wpList_load_blk rfl 28 (.tmp 2) rfl w.heap.size 0 rfl (mc M) _ (hB) 98 F2.out _ Try.underlying28 rfl size_mach ?_; rw [F1.out]) | (go_at_call 13; refine (IsGroupWord_calls M hok _ zs1 _ hv1B).mono ?_; rintro e w1 ⟨rfl, hb1⟩; rw [hm]))
    go_ret2
    exact ⟨ret_si Hr.out.symm Hc.out.symm, by (repeat (first | exact Below.refl _ _ | refine below_drew' ?_ | refine below_drewN' ?_ _ | refine below_alloc' ?_ _ | refine below_set' ?_ (by (try simp); (try omega)) _ | refine below_step ?_ (by assumption)))⟩
  · have Hc : Hid (code1 M zs1 = 0) := Lib.hid (by simp [code1, hm])
    have Hr : Hid (gtxR M zs1 = ⟨(txtI zs1).toArray⟩) := Lib.hid (by simp [gtxR, hm])
    have hl1 := isGrp_len hm
    have hs1 := Lib.hid (isGrp_num hm)
    have hmk := mk_bys zs1.length (by omega)
    have Hq := Lib.hid q1; clear q1
    go_enter Try.func26, Try.ntmps26
    go_wp2_with (first | (with_reducible show wpList _ _ _ _ _ _; refine wpList_load_blk rfl 28 (.tmp 2) rfl w.heap.size 0 rfl (mc M) _ (hB) 98 F2.out _ Try.underlying28 rfl size_mach ?_; rw [F1.out]) | (go_at_call 13; refine (IsGroupWord_calls M hok _ zs1 _ hv1B).mono ?_; rintro e w1 ⟨rfl, hb1⟩; rw [hm]; have hbw1 := below_step hbw0 hb1; have hv1C := hv1B.below hb1))
    have hB0 : Blk (w1.alloc (.cells (bys (padT zs1 0)) 5)) w1.heap.size (bys (padT zs1 0)) 5 := Blk.new w1 _ _
    rw [padT_zero] at hB0
    have hbw2 := below_alloc' hbw1 (.cells (bys (List.replicate zs1.length 0)) 5)
    have hge := hbw1.size
    generalize w1.heap.size = g0 at *
    go_loopw [18] (fun i wr => ∃ k : Nat, k ≤ zs1.length ∧ i = .int .i64 k ∧ Blk wr g0 (bys (padT zs1 k)) 5 ∧ Below w.heap.size w wr) (fun i _ => zs1.length - (intOf i).toNat)
    case atStart => exact ⟨0, by omega, rfl, by rw [padT_zero]; exact hB0, hbw2⟩
    case round =>
      clear hB0 hbw2 hmk hv1C hbw1
      obtain ⟨k, hk, rfl, hB1, hbw⟩ := hrel
      by_cases hlt : k < zs1.length
      · obtain ⟨g, rfl, _, hcell⟩ := Hq.out (by omega)
        have c1 := cell_kept hbw (hcell k hlt)
        have hki : (k : Int) < zs1.length := by omega
        have hb := hs1.out _ (List.getElem_mem hlt)
        have hlg := lgB_toNat _ hb
        have hl := padT_len zs1 k hk
        have hs : (bys (padT zs1 k))[k]? = some ((bys (padT zs1 k))[k]'(by rw [bys_size, hl]; exact hlt)) := Array.getElem?_eq_getElem _
        generalize (bys (padT zs1 k))[k]'(by rw [bys_size, hl]; exact hlt) = old at hs
        have Hset : Hid (bys (padT zs1 (k + 1)) = (bys (padT zs1 k)).setIfInBounds k (.int .u8 ((lgB zs1[k]).toNat : Int))) := Lib.hid (by rw [← padT_set zs1 k hlt, bys_set])
        have cC := hB1.cell
        have fC := hB1.free
        have hB2 := hB1.set k (.int .u8 ((lgB zs1[k]).toNat : Int))
        have hbw2 := below_set' (o := k) hbw (b := g0) hge (.int .u8 ((lgB zs1[k]).toNat : Int))
        rw [← Hset.out] at hB2
        generalize zs1[k] = z at *
        have hz0 := hb.1; have hz1 := hb.2.1; have hzn := hb.2.2
        clear hl hcell hB1 hbw hb
        by_cases hp : 0 < z
        · have hlv : lgI z = 97 + (z - 1) := by unfold lgI; rw [if_pos hp]
          rw [hlg, hlv] at hB2 hbw2
          clear hlg hlv hzn
          go_wp2
          go_roundw
          case rel => exact ⟨k + 1, by omega, by go_num, hB2, hbw2⟩
          case measure => simp [intOf] <;> omega
        · have hlv : lgI z = 65 + (-z - 1) := by unfold lgI; rw [if_neg hp]
          have hn0 : z < 0 := by omega
          rw [hlg, hlv] at hB2 hbw2
          clear hlg hlv hzn
          go_wp2
          go_roundw
          case rel => exact ⟨k + 1, by omega, by go_num, hB2, hbw2⟩
          case measure => simp [intOf] <;> omega
      · obtain rfl : k = zs1.length := by omega
        rw [padT_all] at hB1
        have hstr := run_str_block (P := Try.prog) wr 53 9 5 g0 zs1.length zs1.length _ (0, 0) (txtI zs1) Try.underlying53 Try.underlying5 Try.underlying9 (txtI_len zs1) hB1 rfl
        go_wp2
        go_ret2
        exact ⟨ret_si Hr.out.symm Hc.out.symm, hbw⟩
end Go.Proofs.Ytoiadhenoankfaa
