/- Both 'PowerWord's. -/
import Derived.Test.YtoiadhenoankfaaGrpJ
namespace Go.Proofs.Ytoiadhenoankfaa
open Go.RowKit

/-- n times. -/
def repI (zs : List Int) (n : Nat) : List Int := (List.replicate n zs).flatten
theorem repI_zero (zs : List Int) : repI zs 0 = [] := rfl
theorem repI_succ (zs : List Int) (n : Nat) : repI zs (n + 1) = repI zs n ++ zs := by simp [repI, List.replicate_succ']
theorem repI_len (zs : List Int) (n : Nat) : (repI zs n).length = n * zs.length := by simp [repI]
theorem repI_bd (zs : List Int) (n k : Nat) (hz : zs.length ≤ 40) (hk : k ≤ n) (hn : n ≤ 40) : (repI zs k).length ≤ 1600 := by
  rw [repI_len]
  exact Nat.le_trans (Nat.mul_le_mul (Nat.le_trans hk hn) hz) (by decide)

set_option maxRecDepth 100000 in
set_option maxHeartbeats 1000000 in
theorem repeatWord_calls (v : Value) (zs : List Int) (n : Nat) (hz : zs.length ≤ 40) (hn : n ≤ 40) (w : World) (hv : SeesI w v zs) :
    Calls Try.prog 42 #[v, .int .i64 n] w fun e w' => ∃ v', e = .returned v' ∧ OwnI w' w.heap.size v' (repI zs n) ∧ Below w.heap.size w w' := by
  have Hv := Lib.hid hv; clear hv
  go_enter Try.func42, Try.ntmps42
  go_wp2
  go_loopw [5, 7] (fun out i wr => ∃ k : Nat, k ≤ n ∧ i = .int .i64 k ∧ OwnI wr w.heap.size out (repI zs k) ∧ Below w.heap.size w wr) (fun _ i _ => n - (intOf i).toNat)
  case atStart => exact ⟨0, by omega, rfl, by rw [repI_zero]; exact OwnI.nil _ _, Below.refl _ _⟩
  case round =>
    obtain ⟨k, hk, rfl, hO, hbw⟩ := hrel
    have hsz := hbw.size
    by_cases hlt : k < n
    · have hki : (k : Int) < n := by omega
      have hsk := Hv.out.below hbw
      have Hl := Lib.hid (repI_bd zs n k hz hk hn)
      have Hsn := Lib.hid (repI_succ zs k)
      go_wp2_with (at_builtin; refine wpList_join_ints rfl (.tmp 9) (.tmp 10) rfl w.heap.size _ v (repI zs k) zs rfl hO rfl hsk (by have := Hl.out; omega) hsz ?_; intro v1 w4 hO1 hb1 _ _)
      go_roundw
      case rel => exact ⟨k + 1, by omega, by go_num, by rw [Hsn.out]; exact hO1, hbw.trans hb1⟩
      case measure => simp [intOf] <;> omega
    · obtain rfl : k = n := by omega
      go_wp2
      go_ret
      exact ⟨_, rfl, hO, hbw⟩

/-- What is repeated. -/
def absW (zs : List Int) (k : Int) : List Int := if k < 0 then turnI zs else zs
theorem absW_len (zs : List Int) (k : Int) : (absW zs k).length = zs.length := by unfold absW; split <;> simp [turnI_len]

set_option maxRecDepth 100000 in
set_option maxHeartbeats 2000000 in
/-- The model's power. -/
theorem l02Power_calls (v : Value) (zs : List Int) (k : Int) (hz : zs.length ≤ 40) (hsm : smallI zs) (hk : -40 ≤ k ∧ k ≤ 40) (w : World) (hv : SeesI w v zs) :
    Calls Try.prog 41 #[v, .int .i64 k] w fun e w' => ∃ v', e = .returned v' ∧ OwnI w' w.heap.size v' (repI (absW zs k) k.natAbs) ∧ Below w.heap.size w w' := by
  have hO0 : OwnI (w.alloc (.cells #[] 2)) w.heap.size (.slice (some ⟨w.heap.size, 0, none⟩) 0 0) [] := OwnI.empty w _ 0 #[] (Nat.le_refl _) (by unfold maxLen; omega) rfl
  have hbw0 : Below w.heap.size w (w.alloc (.cells #[] 2)) := by (repeat (first | exact Below.refl _ _ | refine below_drew' ?_ | refine below_drewN' ?_ _ | refine below_alloc' ?_ _ | refine below_set' ?_ (by (try simp); (try omega)) _ | refine below_step ?_ (by assumption)))
  have hvl := Lib.hid hv.lt
  have hv0 := hv.below hbw0; clear hv
  have Hsm := Lib.hid hsm; clear hsm
  by_cases hneg : k < 0
  · obtain ⟨n, hn⟩ : ∃ n : Nat, k = -(n : Int) := ⟨k.natAbs, by omega⟩
    subst hn
    have hn40 : n ≤ 40 := by omega
    have Hres : Hid (repI (absW zs (-(n : Int))) (-(n : Int)).natAbs = repI (turnI zs) n) := Lib.hid (by rw [absW, if_pos hneg, Int.natAbs_neg, Int.natAbs_natCast])
    have Htl := Lib.hid (turnI_len zs)
    clear hk
    go_enter Try.func41, Try.ntmps41
    go_wp2_with (go_at_call 34; refine (l02Inverse_calls _ zs _ hv0 (by omega) Hsm.out).mono ?_; rintro e w1 ⟨v1, rfl, hT, hb1⟩; have hO1 := hO0.below hb1; have hbw1 := below_step hbw0 hb1)
    have hTs := hT.sees
    have HTl := Lib.hid (World.ownsRow.lt hT)
    clear hO0 hbw0 hneg hT hv0
    go_loopw [1, 5] (fun i out wr => ∃ (j c : Nat), j + c = n ∧ i = .int .i64 j ∧ OwnI wr w.heap.size out (repI (turnI zs) c) ∧ SeesI wr v1 (turnI zs) ∧ Hid (∀ b, out.ownBlock = some b → (v1).ownBlock = some b → False) ∧ Below w.heap.size w wr) (fun i _ _ => (intOf i).toNat)
    case atStart => exact ⟨n, 0, by omega, rfl, by rw [repI_zero]; exact hO1, hTs, Lib.hid (fun b h1 h2 => by have h3 := HTl.out b h2; simp [Value.ownBlock] at h1; simp at h3; omega), hbw1⟩
    case round =>
      clear hO1 hbw1
      obtain ⟨j, c, hjc, rfl, hO, hsk, HS, hbw⟩ := hrel
      have hsz := hbw.size
      by_cases hlt : 0 < j
      · have Hl := Lib.hid (repI_bd (turnI zs) n c (by rw [Htl.out]; omega) (by omega) hn40)
        have Hsn := Lib.hid (repI_succ (turnI zs) c)
        have hj40 : j ≤ 40 := by omega
        have Hjc := Lib.hid hjc
        clear hjc
        go_wp2_with (at_builtin; refine wpList_join_ints rfl (.tmp 17) (.tmp 18) rfl w.heap.size _ _ (repI (turnI zs) c) (turnI zs) rfl hO rfl hsk (by have := Hl.out; have := Htl.out; omega) hsz ?_; intro v2 w4 hO1 hb2 hblk hoth; have HK := Lib.hid (And.intro hblk hoth); clear hblk hoth)
        go_roundw
        case rel =>
          have hjc := Hjc.out
          refine ⟨j - 1, c + 1, by omega, by rw [show ((j - 1 : Nat) : Int) = (j : Int) - 1 from by omega], by rw [Hsn.out]; exact hO1, hsk.other (fun k hk => HK.out.2 k (hsk.lt k hk) (fun e => HS.out k e.symm hk)), Lib.hid (fun b h1 h2 => ?_), hbw.trans hb2⟩
          rcases HK.out.1 b h1 with e | e
          · exact HS.out b e.symm h2
          · have := hsk.lt b h2; omega
        case measure => simp [intOf] <;> omega
      · obtain rfl : c = n := by omega
        clear hjc
        go_wp2
        go_ret
        exact ⟨_, rfl, by rw [Hres.out]; exact hO, hbw⟩
  · obtain ⟨n, rfl⟩ := Int.eq_ofNat_of_zero_le (a := k) (by omega)
    have hn40 : n ≤ 40 := by omega
    have Hres : Hid (repI (absW zs (n : Int)) (n : Int).natAbs = repI zs n) := Lib.hid (by rw [absW, if_neg hneg, Int.natAbs_natCast])
    clear hk
    go_enter Try.func41, Try.ntmps41
    go_wp2
    go_loopw [1, 5] (fun i out wr => ∃ (j c : Nat), j + c = n ∧ i = .int .i64 j ∧ OwnI wr w.heap.size out (repI zs c) ∧ SeesI wr v zs ∧ Hid (∀ b, out.ownBlock = some b → (v).ownBlock = some b → False) ∧ Below w.heap.size w wr) (fun i _ _ => (intOf i).toNat)
    case atStart => exact ⟨n, 0, by omega, rfl, by rw [repI_zero]; exact hO0, hv0, Lib.hid (fun b h1 h2 => by have h3 := hvl.out b h2; simp [Value.ownBlock] at h1; omega), hbw0⟩
    case round =>
      clear hO0 hbw0
      obtain ⟨j, c, hjc, rfl, hO, hsk, HS, hbw⟩ := hrel
      have hsz := hbw.size
      by_cases hlt : 0 < j
      · have Hl := Lib.hid (repI_bd zs n c hz (by omega) hn40)
        have Hsn := Lib.hid (repI_succ zs c)
        have hj40 : j ≤ 40 := by omega
        have Hjc := Lib.hid hjc
        clear hjc
        go_wp2_with (at_builtin; refine wpList_join_ints rfl (.tmp 17) (.tmp 18) rfl w.heap.size _ _ (repI zs c) zs rfl hO rfl hsk (by have := Hl.out; omega) hsz ?_; intro v2 w4 hO1 hb2 hblk hoth; have HK := Lib.hid (And.intro hblk hoth); clear hblk hoth)
        go_roundw
        case rel =>
          have hjc := Hjc.out
          refine ⟨j - 1, c + 1, by omega, by rw [show ((j - 1 : Nat) : Int) = (j : Int) - 1 from by omega], by rw [Hsn.out]; exact hO1, hsk.other (fun k hk => HK.out.2 k (hsk.lt k hk) (fun e => HS.out k e.symm hk)), Lib.hid (fun b h1 h2 => ?_), hbw.trans hb2⟩
          rcases HK.out.1 b h1 with e | e
          · exact HS.out b e.symm h2
          · have := hsk.lt b h2; omega
        case measure => simp [intOf] <;> omega
      · obtain rfl : c = n := by omega
        clear hjc
        go_wp2
        go_ret
        exact ⟨_, rfl, by rw [Hres.out]; exact hO, hbw⟩

def powR (M : Mach) (zs : List Int) (k : Int) : List Int := if isGrp M zs then (if -40 ≤ k ∧ k ≤ 40 then toldR (repI (absW zs k) k.natAbs) else []) else []
def powC (M : Mach) (zs : List Int) (k : Int) : Int := if isGrp M zs then (if -40 ≤ k ∧ k ≤ 40 then toldC (repI (absW zs k) k.natAbs) else 2) else 1
theorem powR_len (M : Mach) (zs : List Int) (k : Int) : (powR M zs k).length ≤ 1048576 := by
  unfold powR
  split
  · split
    · exact toldR_len _
    · simp
  · simp
theorem codeG_one (M : Mach) (v : Value) (zs : List Int) : codeG M [(v, zs)] = if isGrp M zs then 0 else 1 := by
  have h : (isMach M && grpsOk M.S [(v, zs)]) = isGrp M zs := by simp [grpsOk, isGrp]
  unfold codeG
  rw [h]
theorem l02Code_one (M : Mach) (hok : M.Ok) (v v1 : Value) (z1 : List Int) (b : Bool) (hb : isGrp M z1 = b) (w : World) (hv : SeesL w v [(v1, z1)]) :
    Calls Try.prog 33 #[.agg (mc M), v] w fun e w' => e = .returned (.int .i64 (if b then 0 else 1)) ∧ Below w.heap.size w w' :=
  (l02Code_calls M hok v [(v1, z1)] (by simp) w hv).mono fun e w' h => ⟨by rw [h.1, codeG_one, hb], h.2⟩
/-- One slice laid for '...'. -/
theorem seesL1 {w : World} {v1 : Value} {z1 : List Int} (h1 : SeesI w v1 z1) : SeesL (w.alloc (.cells #[v1] 26)) (.slice (some ⟨w.heap.size, 0, none⟩) 1 1) [(v1, z1)] :=
  ⟨w.heap.size, 1, rfl, Blk.new _ _ _, fun i hi => by
    have hb : Below w.heap.size w (w.alloc (.cells #[v1] 26)) := by (repeat (first | exact Below.refl _ _ | refine below_drew' ?_ | refine below_drewN' ?_ _ | refine below_alloc' ?_ _ | refine below_set' ?_ (by (try simp); (try omega)) _ | refine below_step ?_ (by assumption)))
    match i, hi with
    | 0, _ => exact h1.below hb⟩
end Go.Proofs.Ytoiadhenoankfaa
