/- 'PermutationNumber': the model, walked. -/
import Derived.Test.YtgeihpaealomkaaDoorPnS
namespace Go.Proofs.YtgeihpaealomkaaDoor
open Go.RowKit

def okUp (d : Nat) (zs : List Int) (i : Nat) : Bool := (List.range i).all fun j => (decide (0 ≤ zs.getD j 0) && decide (zs.getD j 0 ≤ (d : Int) - 1)) && !decide (zs.getD j 0 ∈ zs.take j)
theorem okUp_succ (d : Nat) (zs : List Int) (i : Nat) : okUp d zs (i + 1) = (okUp d zs i && ((decide (0 ≤ zs.getD i 0) && decide (zs.getD i 0 ≤ (d : Int) - 1)) && !decide (zs.getD i 0 ∈ zs.take i))) := by
  simp [okUp, List.range_succ]
def getZ (zs : List Int) (x : Nat) : Int := zs.getD x 0
def lstP (zs : List Int) (i : Nat) : List Int := fillP (getZ zs) 3 i
def bls (l : List Bool) : Array Value := (l.map Value.bool).toArray
def metP (zs : List Int) (i : Nat) : List Bool := (List.range 3).map fun (x : Nat) => decide ((x : Int) ∈ zs.take i)
theorem metP_len (zs : List Int) (i : Nat) : (metP zs i).length = 3 := by simp [metP]
theorem metP_at (zs : List Int) (i x : Nat) (hx : x < 3) : (bls (metP zs i))[x]? = some (.bool (decide ((x : Int) ∈ zs.take i))) := by
  simp [bls, metP, List.getElem?_range hx]
theorem bls_set (l : List Bool) (i : Nat) (v : Bool) : bls (l.set i v) = (bls l).setIfInBounds i (.bool v) := by
  apply Array.ext'; simp [bls]
theorem u8s_set (l : List Int) (i : Nat) (v : Int) : u8s (l.set i v) = (u8s l).setIfInBounds i (.int .u8 v) := by
  apply Array.ext'; simp [u8s]
theorem bls_one (l : List Bool) : (bls l).all (·.oneCell') = true := by
  rw [Array.all_eq_true_iff_forall_mem]
  intro v hv
  simp only [bls, List.mem_toArray, List.mem_map] at hv
  obtain ⟨z, _, rfl⟩ := hv
  rfl
theorem metP_set (zs : List Int) (i x : Nat) (hi : i < zs.length) (h : zs[i] = (x : Int)) : (metP zs i).set x true = metP zs (i + 1) := by
  apply List.ext_getElem
  · simp [metP]
  · intro j h1 h2
    simp only [metP, List.getElem_set, List.getElem_map, List.getElem_range]
    rw [List.take_succ_eq_append_getElem hi, h]
    by_cases e : x = j
    · subst e; simp
    · rw [if_neg e]
      congr 1
      simp
      intro e2; omega
theorem pn_bad (zs : List Int) (d i : Nat) (hd : d = 2 ∨ d = 3) (hl : zs.length = d) (hi : i < d) (h : okUp d zs (i + 1) = false) : pnF zs = none := by
  rw [pnF_find zs d hd hl, List.find?_eq_none]
  intro k hk e
  have e2 : pTabR d k = zs := by simpa using e
  have hk2 : k < cN d := by simpa using hk
  subst e2
  have g2 : ∀ k, k < 2 → ∀ i, i < 2 → okUp 2 (pTabR 2 k) (i + 1) = true := by decide
  have g3 : ∀ k, k < 6 → ∀ i, i < 3 → okUp 3 (pTabR 3 k) (i + 1) = true := by decide
  rcases hd with rfl | rfl
  · rw [g2 k hk2 i hi] at h; cases h
  · rw [g3 k hk2 i hi] at h; cases h
def foundB (d : Nat) (zs : List Int) : Bool := (List.range (cN d)).any fun n => decide (pnF zs = some n) && decide (sRow d n = lstP zs d) && (List.range n).all fun j => decide (sRow d j ≠ lstP zs d)
theorem pn_good (zs : List Int) (d : Nat) (hd : d = 2 ∨ d = 3) (hl : zs.length = d) (h : okUp d zs d = true) : ∃ n, n < cN d ∧ pnF zs = some n ∧ sRow d n = lstP zs d ∧ ∀ j, j < n → sRow d j ≠ lstP zs d := by
  have key : foundB d zs = true := by
    rcases hd with rfl | rfl
    · match zs, hl with
      | [a, b], _ =>
        simp [okUp, List.range_succ] at h
        obtain ⟨⟨a0, a1⟩, ⟨b0, b1⟩, ne⟩ := h
        have ca : a = 0 ∨ a = 1 := by omega
        have cb : b = 0 ∨ b = 1 := by omega
        rcases ca with rfl | rfl <;> rcases cb with rfl | rfl <;> first | (exfalso; omega) | decide
    · match zs, hl with
      | [a, b, c], _ =>
        simp [okUp, List.range_succ] at h
        have ca : a = 0 ∨ a = 1 ∨ a = 2 := by omega
        have cb : b = 0 ∨ b = 1 ∨ b = 2 := by omega
        have cc : c = 0 ∨ c = 1 ∨ c = 2 := by omega
        rcases ca with rfl | rfl | rfl <;> rcases cb with rfl | rfl | rfl <;> rcases cc with rfl | rfl | rfl <;> first | (exfalso; omega) | decide
  unfold foundB at key
  rw [List.any_eq_true] at key
  obtain ⟨n, hn, h2⟩ := key
  simp only [Bool.and_eq_true, decide_eq_true_eq, List.all_eq_true, List.mem_range] at h2 hn
  exact ⟨n, hn, h2.1.1, h2.1.2, h2.2⟩

set_option maxRecDepth 100000 in
set_option maxHeartbeats 1000000 in
theorem l03Number_calls (d : Nat) (hd : d = 2 ∨ d = 3) (row : List Int) (hrow : byte3 row) (n : Nat) (hn : n < cN d) (heq : sRow d n = row) (hno : ∀ j, j < n → sRow d j ≠ row) (w : World) :
    Calls Tryd.prog 64 #[.int .i64 d, .agg (u8s row)] w fun e w' => e = .returned (.int .i64 n) ∧ Below w.heap.size w w' := by
  have hcn : cN d ≤ 6 := by unfold cN; split <;> omega
  have hcn2 : 2 ≤ cN d := by unfold cN; split <;> omega
  have hci : (2 : Int) ≤ (cN d : Int) := by omega
  have hci6 : (cN d : Int) ≤ 6 := by omega
  have HC := Lib.hid (fun W => l03Count_calls d hd W)
  rw [cntP_cN] at HC
  have hB0 : Blk (w.alloc (.cells (u8s row) 22)) w.heap.size (u8s row) 22 := Blk.new w _ _
  have hbw0 : Below w.heap.size w (w.alloc (.cells (u8s row) 22)) := by (repeat (first | exact Below.refl _ _ | refine below_drew' ?_ | refine below_drewN' ?_ _ | refine below_alloc' ?_ _ | refine below_set' ?_ (by (try simp); (try omega)) _ | refine below_step ?_ (by assumption)))
  have Hrs : Hid (0 + 3 ≤ (u8s row).size) := Lib.hid (by rw [u8s_size, hrow.1]; exact Nat.le_refl _)
  have Hrc : Hid (cut (u8s row) 0 3 = u8s row) := Lib.hid (cut_all _ _ (by rw [u8s_size, hrow.1]))
  have Hrow := Lib.hid hrow
  have Heq := Lib.hid heq
  have Hno := Lib.hid hno
  have hsz := Lib.hid (zero_of_info info_b3).2
  clear hrow heq hno
  go_enter Tryd.func64, Tryd.ntmps64
  go_wp2
  go_loopw [5] (fun i wr => ∃ k : Nat, k ≤ n ∧ i = .int .i64 k ∧ Blk wr w.heap.size (u8s row) 22 ∧ Below w.heap.size w wr) (fun i _ => n + 1 - (intOf i).toNat)
  case atStart => exact ⟨0, by omega, rfl, hB0, hbw0⟩
  case round =>
    clear hB0 hbw0
    obtain ⟨k, hk, rfl, hB, hbw⟩ := hrel
    have hkc : k < cN d := by omega
    have hki : (k : Int) < 6 := by omega
    have hmin : min (k : Int) ((cN d : Int) - 1) = (k : Int) := by omega
    have hwr : IntKind.i64.wrap ((cN d : Int) - 1) = (cN d : Int) - 1 := IntWalk.i64_in _ (by omega)
    have hnl : ¬ ((cN d : Int) - 1 < (k : Int)) := by omega
    have HE := Lib.hid (fun W => run_eq_b3 (sRow_ok d k hd hkc) Hrow.out W)
    have HI := Lib.hid (fun W => l03Images_calls d k hd hkc W)
    have Hdec : Hid ((k = n → decide (sRow d k = row) = true) ∧ (k ≠ n → decide (sRow d k = row) = false)) := Lib.hid ⟨fun e => by subst e; simpa using Heq.out, fun e => by simpa using Hno.out k (by omega)⟩
    have hbd := hbw.drew
    generalize decide (sRow d k = row) = dec at *
    generalize u8s (sRow d k) = sr at *
    go_wp2_with fail
    refine wp_region_held_drew (S := fun W => Blk W w.heap.size (u8s row) 22) (by kernel_rfl) hB.drew (fun hS0 => ?_)
    (refine hK_take 0 (.int .i64 (d : Int)) rfl (by kernel_rfl) (by kernel_rfl) (by kernel_rfl) (fun _ _ _ h => h) rfl (fun W _ => by go_simp) hS0 ?_; (intro K hK; go_simp; refine hK _ ?_; clear hK K))
    (refine hK_take 1 (.int .i64 (k : Int)) rfl (by kernel_rfl) (by kernel_rfl) (by kernel_rfl) (fun _ _ _ h => h) rfl (fun W _ => by go_simp) hS0 ?_; (intro K hK; go_simp; refine hK _ ?_; clear hK K))
    (refine hK_take 2 (.int .i64 (d : Int)) rfl (by kernel_rfl) (by kernel_rfl) (by kernel_rfl) (fun _ _ _ h => h) rfl (fun W _ => by go_simp) hS0 ?_; (intro K hK; go_simp; refine hK _ ?_; clear hK K))
    (refine hK_load 7 rfl (by kernel_rfl) (by kernel_rfl) (by kernel_rfl) 22 _ rfl w.heap.size 0 rfl (u8s row) _ (fun W hW => hW) 3 Hrs.out _ Tryd.underlying22 rfl hsz.out _ Hrc.out (fun _ _ _ h => h) rfl hS0 ?_; (intro K hK; go_simp; refine hK _ ?_; clear hK K))
    (refine wpAnyH_ready (rs := [3]) (by kernel_rfl) (by simp) ?_; refine AllReadyH.cons rfl (fun K hK => ?_) AllReadyH.nil); go_simp; refine (HC.out _).mono ?_; rintro e w3 ⟨rfl, rfl⟩
    (go_simp; refine hK.out _ _ (hS0) (fun hS1 => ?_); clear hK K)
    (refine hK_take 4 (.int .i64 ((cN d : Int) - 1)) rfl (by kernel_rfl) (by kernel_rfl) (by kernel_rfl) (fun _ _ _ h => h) rfl (fun W _ => by go_simp) hS1 ?_; (intro K hK; go_simp; refine hK _ ?_; clear hK K))
    (refine hK_take 5 (.int .i64 (k : Int)) rfl (by kernel_rfl) (by kernel_rfl) (by kernel_rfl) (fun _ _ _ h => h) rfl (fun W _ => by go_simp; intro hh; omega) hS1 ?_; (intro K hK; go_simp; refine hK _ ?_; clear hK K))
    (refine wpAnyH_ready (rs := [6]) (by kernel_rfl) (by simp) ?_; refine AllReadyH.cons rfl (fun K hK => ?_) AllReadyH.nil); go_simp; refine (HI.out _).mono ?_; rintro e w4 ⟨rfl, hb4⟩; have hB4 : Blk w4 _ _ _ := Blk.keptAll hS1 hb4; have hbw4 := below_step hbd hb4
    (go_simp; refine hK.out _ _ (hB4) (fun hS2 => ?_); clear hK K)
    have hE := HE.out
    (refine hK_take 8 (.bool dec) rfl (by kernel_rfl) (by kernel_rfl) (by kernel_rfl) (fun _ _ _ h => h) rfl (fun W _ => by go_simp) hS2 ?_; (intro K hK; go_simp; refine hK _ ?_; clear hK K))
    refine wpAnyH_done (by kernel_rfl) ?_ _
    clear hE HE HI
    by_cases hkn : k = n
    · rw [Hdec.out.1 hkn]
      subst hkn
      go_wp2_with (go_at_call 85; refine (HC.out _).mono ?_; rintro e w5 ⟨rfl, rfl⟩)
      go_ret
      exact ⟨rfl, hbw4⟩
    · rw [Hdec.out.2 hkn]
      go_wp2
      go_roundw
      case rel => exact ⟨k + 1, by omega, by go_num, hS2, hbw4⟩
      case measure => simp [intOf] <;> omega
end Go.Proofs.YtgeihpaealomkaaDoor
