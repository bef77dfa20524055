/- Both 'ParseGroup's. -/
import Derived.Test.YtoiadhenoankfaaGrpX
namespace Go.Proofs.Ytoiadhenoankfaa
open Go.RowKit

/-- The number of a letter; 0: none. -/
def ltI (b : UInt8) : Int := if 97 ≤ b.toNat ∧ b.toNat ≤ 112 then (b.toNat : Int) - 97 + 1 else if 65 ≤ b.toNat ∧ b.toNat ≤ 80 then -((b.toNat : Int) - 65) - 1 else 0
theorem ltI_bd (b : UInt8) : -16 ≤ ltI b ∧ ltI b ≤ 16 := by unfold ltI; split <;> (try split) <;> omega

set_option maxRecDepth 100000 in
set_option maxHeartbeats 1000000 in
theorem numberOfLetter_calls (b : UInt8) (w : World) :
    Calls Try.prog 45 #[.int .u8 (b.toNat : Int)] w fun e w' => e = .returned (.int .i64 (ltI b)) ∧ w = w' := by
  have hb := b.toNat_lt
  have hl : ltI b = if 97 ≤ b.toNat ∧ b.toNat ≤ 112 then (b.toNat : Int) - 97 + 1 else if 65 ≤ b.toNat ∧ b.toNat ≤ 80 then -((b.toNat : Int) - 65) - 1 else 0 := rfl
  have Hl := Lib.hid hl; clear hl
  generalize ltI b = r at *
  generalize b.toNat = n at *
  by_cases h1 : 97 ≤ n
  · by_cases h2 : n ≤ 112
    · have Hr : Hid (r = (n : Int) - 97 + 1) := Lib.hid (by rw [Hl.out, if_pos ⟨h1, h2⟩])
      go_enter Try.func45, Try.ntmps45
      go_wp2
      go_ret
      exact ⟨ret_int Hr.out.symm, rfl⟩
    · have Hr : Hid (r = 0) := Lib.hid (by rw [Hl.out, if_neg (by omega), if_neg (by omega)])
      have h2' : ¬ ((n : Int) ≤ 112) := by omega
      have h3' : ¬ ((n : Int) ≤ 80) := by omega
      go_enter Try.func45, Try.ntmps45
      go_wp2
      go_ret
      exact ⟨ret_int Hr.out.symm, rfl⟩
  · have h1' : ¬ (97 ≤ (n : Int)) := by omega
    by_cases h3 : 65 ≤ n
    · by_cases h4 : n ≤ 80
      · have Hr : Hid (r = -((n : Int) - 65) - 1) := Lib.hid (by rw [Hl.out, if_neg (by omega), if_pos ⟨h3, h4⟩])
        go_enter Try.func45, Try.ntmps45
        go_wp2
        go_ret
        exact ⟨ret_int Hr.out.symm, rfl⟩
      · have Hr : Hid (r = 0) := Lib.hid (by rw [Hl.out, if_neg (by omega), if_neg (by omega)])
        have h4' : ¬ ((n : Int) ≤ 80) := by omega
        go_enter Try.func45, Try.ntmps45
        go_wp2
        go_ret
        exact ⟨ret_int Hr.out.symm, rfl⟩
    · have Hr : Hid (r = 0) := Lib.hid (by rw [Hl.out, if_neg (by omega), if_neg (by omega)])
      have h3' : ¬ (65 ≤ (n : Int)) := by omega
      go_enter Try.func45, Try.ntmps45
      go_wp2
      go_ret
      exact ⟨ret_int Hr.out.symm, rfl⟩

/-- The numbers of a text. -/
def rdI (s : ByteArray) : List Int := s.data.toList.map ltI
theorem rdI_len (s : ByteArray) : (rdI s).length = s.size := by cases s; simp [rdI, ByteArray.size]
theorem rdI_get (s : ByteArray) (k : Nat) (h : k < s.size) : (rdI s)[k]'(by rw [rdI_len]; exact h) = ltI s[k] := by
  simp only [rdI, List.getElem_map]; rfl
theorem rdI_snoc (s : ByteArray) (k : Nat) (h : k < s.size) : (rdI s).take (k + 1) = (rdI s).take k ++ [ltI s[k]] := by
  rw [List.take_succ_eq_append_getElem (by rw [rdI_len]; exact h), rdI_get s k h]
theorem grpOk_bad {S : Int} {zs : List Int} (k : Nat) (hk : k < zs.length) (h : zs[k] = 0) : grpOk S zs = false := by
  rw [grpOk, numsOk_bad S zs k hk (by rw [h]; simp [numOk]), Bool.and_false]
def pgC (M : Mach) (s : ByteArray) : Int := if isMach M then (if isGrp M (rdI s) then 0 else 6) else 1
def pgR (M : Mach) (s : ByteArray) : List Int := if isGrp M (rdI s) then rdI s else []
theorem pgR_len (M : Mach) (s : ByteArray) : (pgR M s).length ≤ 1048576 := by
  unfold pgR
  split
  · rename_i h
    have := isGrp_len h
    omega
  · simp

set_option maxRecDepth 100000 in
set_option maxHeartbeats 2000000 in
theorem iParseGroup_calls (M : Mach) (hok : M.Ok) (s : ByteArray) (w : World) (_hs : s.size ≤ 1048576) :
    Calls Try.prog 28 #[.agg (mc M), .string s] w fun e w' => ∃ vr, e = .returned (.tuple #[vr, .int .i64 (pgC M s)]) ∧ OwnI w' w.heap.size vr (pgR M s) ∧ Below w.heap.size w w' := by
  have F1 : Hid (cut (mc M) 0 98 = mc M) := Lib.hid (cut_all _ _ (mc_size hok)); have F2 : Hid (0 + 98 ≤ (mc M).size) := Lib.hid (by rw [mc_size hok]; omega)
  have hB : Blk (w.alloc (.cells (mc M) 28)) w.heap.size (mc M) 28 := Blk.new w _ _
  have hbw0 : Below w.heap.size w (w.alloc (.cells (mc M) 28)) := by (repeat (first | exact Below.refl _ _ | refine below_drew' ?_ | refine below_drewN' ?_ _ | refine below_alloc' ?_ _ | refine below_set' ?_ (by (try simp); (try omega)) _ | refine below_step ?_ (by assumption)))
  cases hm : isMach M
  · have Hc : Hid (pgC M s = 1) := Lib.hid (by simp [pgC, hm])
    have Hr : Hid (pgR M s = []) := Lib.hid (by simp [pgR, isGrp, hm])
    go_enter Try.func28, Try.ntmps28
    go_wp2_with (first | (with_reducible show wpList _ _ _ _ _ _; refine wpList_load_blk rfl 28 (.tmp 2) rfl w.heap.size 0 rfl (mc M) _ (hB) 98 F2.out _ Try.underlying28 rfl size_mach ?_; rw [F1.out]) | (go_at_call 32; refine (IsMachine_calls M hok _).mono ?_; rintro e w1 ⟨rfl, hb1⟩; rw [hm]))
    go_ret2
    exact ⟨_, ret_vi Hc.out.symm, by rw [Hr.out]; exact OwnI.nil _ _, below_step hbw0 hb1⟩
  · by_cases h40 : s.size ≤ 40
    · have hmk := mk_ints s.size (by omega)
      have hgt : ¬ (40 < (s.size : Int)) := by omega
      have Hc : Hid (pgC M s = if isGrp M (rdI s) then 0 else 6) := Lib.hid (by simp [pgC, hm])
      have Hr : Hid (pgR M s = if isGrp M (rdI s) then rdI s else []) := Lib.hid rfl
      have hzl := rdI_len s
      have Hg := Lib.hid (rdI_get s)
      obtain ⟨b, hb⟩ : ∃ b, isGrp M (rdI s) = b := ⟨_, rfl⟩
      have Hb := Lib.hid hb; clear hb
      have Hzl := Lib.hid hzl; clear hzl
      have hlen0 : (padI (rdI s) 0) = List.replicate s.size 0 := by rw [padI_zero, Hzl.out]
      have HL0 := Lib.hid hlen0; clear hlen0
      go_enter Try.func28, Try.ntmps28
      go_wp2_with (first | (with_reducible show wpList _ _ _ _ _ _; refine wpList_load_blk rfl 28 (.tmp 2) rfl w.heap.size 0 rfl (mc M) _ (hB) 98 F2.out _ Try.underlying28 rfl size_mach ?_; rw [F1.out]) | (go_at_call 32; refine (IsMachine_calls M hok _).mono ?_; rintro e w1 ⟨rfl, hb1⟩; rw [hm]; have hB1 := hB.keptAll hb1; have hbw1 := below_step hbw0 hb1))
      have hC0 : Blk (w1.alloc (.cells (ints (padI (rdI s) 0)) 2)) w1.heap.size (ints (padI (rdI s) 0)) 2 := Blk.new w1 _ _
      rw [HL0.out] at hC0
      have hB2 := hB1.alloc (.cells (ints (List.replicate s.size 0)) 2)
      have hbw2 := below_alloc' hbw1 (.cells (ints (List.replicate s.size 0)) 2)
      have hge := hB1.lt
      generalize w1.heap.size = g0 at *
      go_loopw [19] (fun i wr => ∃ k : Nat, k ≤ s.size ∧ i = .int .i64 k ∧ Blk wr w.heap.size (mc M) 28 ∧ Blk wr g0 (ints (padI (rdI s) k)) 2 ∧ Below w.heap.size w wr) (fun i _ => s.size - (intOf i).toNat)
      case atStart => exact ⟨0, by omega, rfl, hB2, by rw [HL0.out]; exact hC0, hbw2⟩
      case round =>
        clear hB2 hC0 hbw2 hmk hbw1 hB1
        obtain ⟨k, hk, rfl, hB1, hC1, hbw⟩ := hrel
        by_cases hlt : k < s.size
        · have hki : (k : Int) < s.size := by omega
          have h256 : s[k].toNat < 256 := s[k].toNat_lt
          have hl := padI_len (rdI s) k (by rw [Hzl.out]; exact hk)
          have hs : (ints (padI (rdI s) k))[k]? = some ((ints (padI (rdI s) k))[k]'(by rw [ints_size, hl, Hzl.out]; exact hlt)) := Array.getElem?_eq_getElem _
          generalize (ints (padI (rdI s) k))[k]'(by rw [ints_size, hl, Hzl.out]; exact hlt) = old at hs
          have Hset : Hid (ints (padI (rdI s) (k + 1)) = (ints (padI (rdI s) k)).setIfInBounds k (.int .i64 (ltI s[k]))) := Lib.hid (by rw [← Hg.out k hlt, ← padI_set (rdI s) k (by rw [Hzl.out]; exact hlt), ints_set])
          have cC := hC1.cell
          have fC := hC1.free
          have hC2 := hC1.set k (.int .i64 (ltI s[k]))
          have hB2 := hB1.setOther g0 k (.int .i64 (ltI s[k])) (by omega)
          have hbw2 := below_set' (o := k) hbw (b := g0) (by omega) (.int .i64 (ltI s[k]))
          rw [← Hset.out] at hC2
          clear hl hC1 hB1 hbw
          go_wp2_with (go_at_call 45; refine (numberOfLetter_calls s[k] _).mono ?_; rintro e w' ⟨rfl, rfl⟩)
          go_roundw
          case rel => exact ⟨k + 1, by omega, by go_num, hB2, hC2, hbw2⟩
          case measure => simp [intOf] <;> omega
        · obtain rfl : k = s.size := by omega
          have hO : OwnI wr w.heap.size (.slice (some ⟨g0, 0, none⟩) s.size s.size) (rdI s) := OwnI.made Hzl.out (by unfold maxLen; omega) (by omega) (by rw [← Hzl.out, padI_all] at hC1; exact hC1)
          have hS := hO.sees
          cases b
          · go_wp2_with (first | (with_reducible show wpList _ _ _ _ _ _; refine wpList_load_blk rfl 28 (.tmp 2) rfl w.heap.size 0 rfl (mc M) _ (hB1) 98 F2.out _ Try.underlying28 rfl size_mach ?_; rw [F1.out]) | (go_at_call 13; refine (IsGroupWord_calls M hok _ (rdI s) _ hS).mono ?_; rintro e w2 ⟨rfl, hb2⟩; rw [Hb.out]))
            go_ret2
            exact ⟨_, ret_vi (by rw [Hc.out, Hb.out]; rfl), by rw [Hr.out, Hb.out]; exact OwnI.nil _ _, below_step hbw hb2⟩
          · go_wp2_with (first | (with_reducible show wpList _ _ _ _ _ _; refine wpList_load_blk rfl 28 (.tmp 2) rfl w.heap.size 0 rfl (mc M) _ (hB1) 98 F2.out _ Try.underlying28 rfl size_mach ?_; rw [F1.out]) | (go_at_call 13; refine (IsGroupWord_calls M hok _ (rdI s) _ hS).mono ?_; rintro e w2 ⟨rfl, hb2⟩; rw [Hb.out]))
            go_ret2
            exact ⟨_, ret_vi (by rw [Hc.out, Hb.out]; rfl), by rw [Hr.out, Hb.out]; exact hO.below hb2, below_step hbw hb2⟩
    · have hng : isGrp M (rdI s) = false := by
        rw [isGrp, grpOk_long (by rw [rdI_len]; exact h40), Bool.and_false]
      have Hc : Hid (pgC M s = 6) := Lib.hid (by simp [pgC, hm, hng])
      have Hr : Hid (pgR M s = []) := Lib.hid (by simp [pgR, hng])
      have hgt : 40 < (s.size : Int) := by omega
      go_enter Try.func28, Try.ntmps28
      go_wp2_with (first | (with_reducible show wpList _ _ _ _ _ _; refine wpList_load_blk rfl 28 (.tmp 2) rfl w.heap.size 0 rfl (mc M) _ (hB) 98 F2.out _ Try.underlying28 rfl size_mach ?_; rw [F1.out]) | (go_at_call 32; refine (IsMachine_calls M hok _).mono ?_; rintro e w1 ⟨rfl, hb1⟩; rw [hm]))
      go_ret2
      exact ⟨_, ret_vi Hc.out.symm, by rw [Hr.out]; exact OwnI.nil _ _, below_step hbw0 hb1⟩
end Go.Proofs.Ytoiadhenoankfaa
