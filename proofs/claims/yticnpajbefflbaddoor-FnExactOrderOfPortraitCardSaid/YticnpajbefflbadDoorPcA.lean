/- Portraits lead words: plain data; places and permutations of a portrait in the program. -/
import Derived.Test.YticnpajbefflbadDoorPnR
import Derived.Test.YticnpajbefflbadDoorLedM
import Derived.Test.YticnpajbefflbadDoorPtI
import Derived.Test.YticnpajbefflbadDoorWordD
namespace Go.Proofs.YticnpajbefflbadDoor
open Go.RowKit

/-- The place of a word in a portrait's list. -/
def plc (d : Nat) (l : List UInt8) : Int := sumP d l.length + numI d l
def kAt (d : Nat) (zs : List Int) (l : List UInt8) : Nat := (zs.getD (plc d l).toNat 0).toNat
theorem numI_lt (d : Nat) (l : List UInt8) (h : lettersL d l = true) : 0 ≤ numI d l ∧ numI d l < pw d l.length := by
  have := numL_take_lt d l h l.length (Nat.le_refl _)
  rw [List.take_length] at this
  unfold numI pw
  omega
theorem sumP_mono (d : Nat) (i n : Nat) (h : i ≤ n) : sumP d i ≤ sumP d n := by
  induction h with
  | refl => exact Int.le_refl _
  | step _ ih => rw [sumP]; have : 0 ≤ pw d ‹_› := by unfold pw; omega
                 omega
theorem plc_lt (d n : Nat) (zs : List Int) (l : List UInt8) (hP : isP d n zs = true) (hi : l.length < n) (hl : lettersL d l = true) (hd : d ≤ 3) (hn : n ≤ 4) : 0 ≤ plc d l ∧ plc d l < zs.length ∧ plc d l ≤ 1300 := by
  have h1 := numI_lt d l hl
  have h2 := sumP_mono d (l.length + 1) n hi
  rw [sumP] at h2
  have h3 : (zs.length : Int) = sumP d n := by simp [isP] at hP; exact hP.1
  have h4 := sumP_bd d hd l.length (by omega)
  have h5 := sumP_bd d hd n (by omega)
  unfold plc
  omega
theorem kAt_ok (d n : Nat) (zs : List Int) (l : List UInt8) (hP : isP d n zs = true) (hi : l.length < n) (hl : lettersL d l = true) (hd : d ≤ 3) (hn : n ≤ 4) :
    ∃ p : Nat, plc d l = (p : Int) ∧ ∃ h : p < zs.length, zs[p] = (kAt d zs l : Int) ∧ kAt d zs l < cN d := by
  obtain ⟨q0, q1, _⟩ := plc_lt d n zs l hP hi hl hd hn
  refine ⟨(plc d l).toNat, by omega, by omega, ?_⟩
  have hE : entP d zs zs.length = true := by simp [isP] at hP; exact hP.2
  unfold entP at hE
  rw [List.take_length] at hE
  have hz := (List.all_eq_true.1 hE) _ (List.getElem_mem (show (plc d l).toNat < zs.length by omega))
  simp only [Bool.and_eq_true, decide_eq_true_eq, cntP_cN] at hz
  unfold kAt
  rw [List.getD, List.getElem?_eq_getElem (by omega)]
  simp only [Option.getD_some]
  omega

set_option maxRecDepth 100000 in
set_option maxHeartbeats 1000000 in
theorem placeOf_calls (d : Nat) (hd : d = 2 ∨ d = 3) (v : Value) (s : ByteArray) (hs : s.data.toList.length ≤ 4) (hl : lettersL d s.data.toList = true) (w : World) :
    Calls Tryd.prog 41 #[.agg #[.int .i64 d, v], .string s] w fun e w' => e = .returned (.int .i64 (plc d s.data.toList)) ∧ Below w.heap.size w w' := by
  have hd3 : d ≤ 3 := by omega
  have hsz : s.size = s.data.toList.length := size_list s
  have Hsz := Lib.hid hsz; clear hsz
  have hB0 : Blk (w.alloc (.cells #[.int .i64 d, v] 33)) w.heap.size #[.int .i64 d, v] 33 := Blk.new w _ _
  have hbw0 : Below w.heap.size w (w.alloc (.cells #[.int .i64 d, v] 33)).drew := by (repeat (first | exact Below.refl _ _ | refine below_drew' ?_ | refine below_drewN' ?_ _ | refine below_alloc' ?_ _ | refine below_set' ?_ (by (try simp); (try omega)) _ | refine below_step ?_ (by assumption)))
  have HS := Lib.hid (fun W => portraitSize_calls d s.data.toList.length hd3 hs W)
  have HN := Lib.hid (fun W => levelNumber_calls d s hd3 (by omega) hl W)
  have h1 := sumP_bd d hd3 s.data.toList.length (by omega)
  have h2 := numI_lt d s.data.toList hl
  have h3 := pw_bd d s.data.toList.length hd3 (by omega)
  have Hpl : Hid (plc d s.data.toList = sumP d s.data.toList.length + numI d s.data.toList) := Lib.hid rfl
  have hwr : IntKind.i64.wrap (sumP d s.data.toList.length + numI d s.data.toList) = sumP d s.data.toList.length + numI d s.data.toList := IntWalk.i64_in _ (by omega)
  clear h1 h2 h3 hl
  rw [← Hsz.out] at HS
  rw [← Hsz.out] at hwr Hpl
  generalize sumP d s.size = P at *
  generalize numI d s.data.toList = N at *
  go_enter Tryd.func41, Tryd.ntmps41
  go_wp2_with fail
  refine wp_region_held_drew (S := fun W => Blk W w.heap.size #[.int .i64 d, v] 33) (by kernel_rfl) hB0.drew (fun hS0 => ?_)
  (refine hK_take 0 (.pointer (some ⟨w.heap.size, 0, none⟩)) rfl (by kernel_rfl) (by kernel_rfl) (by kernel_rfl) (fun _ _ _ h => h) rfl (fun W _ => by go_simp) hS0 ?_; (intro K hK; go_simp; refine hK _ ?_; clear hK K))
  (refine hK_take 1 (.int .i64 (d : Int)) rfl (by kernel_rfl) (by kernel_rfl) (by kernel_rfl) (fun _ _ _ h => h) rfl (fun W hW => by have c1 := Blk.cell hW 0; simp at c1; go_simp) hS0 ?_; (intro K hK; go_simp; refine hK _ ?_; clear hK K))
  (refine hK_take 2 (.string s) rfl (by kernel_rfl) (by kernel_rfl) (by kernel_rfl) (fun _ _ _ h => h) rfl (fun W _ => by go_simp) hS0 ?_; (intro K hK; go_simp; refine hK _ ?_; clear hK K))
  (refine hK_take 3 (.int .i64 (s.size : Int)) rfl (by kernel_rfl) (by kernel_rfl) (by kernel_rfl) (fun _ _ _ h => h) rfl (fun W _ => by go_simp) hS0 ?_; (intro K hK; go_simp; refine hK _ ?_; clear hK K))
  (refine hK_take 5 (.pointer (some ⟨w.heap.size, 0, none⟩)) rfl (by kernel_rfl) (by kernel_rfl) (by kernel_rfl) (fun _ _ _ h => h) rfl (fun W _ => by go_simp) hS0 ?_; (intro K hK; go_simp; refine hK _ ?_; clear hK K))
  (refine hK_take 6 (.int .i64 (d : Int)) rfl (by kernel_rfl) (by kernel_rfl) (by kernel_rfl) (fun _ _ _ h => h) rfl (fun W hW => by have c1 := Blk.cell hW 0; simp at c1; go_simp) hS0 ?_; (intro K hK; go_simp; refine hK _ ?_; clear hK K))
  (refine hK_take 7 (.string s) rfl (by kernel_rfl) (by kernel_rfl) (by kernel_rfl) (fun _ _ _ h => h) rfl (fun W _ => by go_simp) hS0 ?_; (intro K hK; go_simp; refine hK _ ?_; clear hK K))
  (refine wpAnyH_ready (rs := [4]) (by kernel_rfl) (by simp) ?_; refine AllReadyH.cons rfl (fun K hK => ?_) AllReadyH.nil); go_simp; refine (HS.out _).mono ?_; rintro e w3 ⟨rfl, rfl⟩
  (go_simp; refine hK.out _ _ (hS0) (fun hS1 => ?_); clear hK K)
  (refine wpAnyH_ready (rs := [8]) (by kernel_rfl) (by simp) ?_; refine AllReadyH.cons rfl (fun K hK => ?_) AllReadyH.nil); go_simp; refine (HN.out _).mono ?_; rintro e w4 ⟨rfl, rfl⟩
  (go_simp; refine hK.out _ _ (hS1) (fun hS2 => ?_); clear hK K)
  (refine hK_take 9 (.int .i64 (P + N)) rfl (by kernel_rfl) (by kernel_rfl) (by kernel_rfl) (fun _ _ _ h => h) rfl (fun W _ => by go_simp) hS2 ?_; (intro K hK; go_simp; refine hK _ ?_; clear hK K))
  (refine hK_take 10 (.int .i64 (P + N)) rfl (by kernel_rfl) (by kernel_rfl) (by kernel_rfl) (fun _ _ _ h => h) rfl (fun W _ => by go_simp) hS2 ?_; (intro K hK; go_simp; refine hK _ ?_; clear hK K))
  refine wpAnyH_done (by kernel_rfl) ?_ _
  go_wp2
  go_ret
  exact ⟨ret_one Hpl.out.symm, hbw0⟩

set_option maxRecDepth 100000 in
set_option maxHeartbeats 1000000 in
theorem at_calls (d n : Nat) (hd : d = 2 ∨ d = 3) (hn : n ≤ 4) (zs : List Int) (hP : isP d n zs = true) (v : Value) (s : ByteArray) (hs : s.data.toList.length < n) (hl : lettersL d s.data.toList = true) (w : World) (hv : SeesI w v zs) (hT : TabsAt w) :
    Calls Tryd.prog 39 #[.agg #[.int .i64 d, v], .string s] w fun e w' => e = .returned (.agg (u8s (pRow d (kAt d zs s.data.toList)))) ∧ Below w.heap.size w w' := by
  have hd3 : d ≤ 3 := by omega
  obtain ⟨oa, ca, hve, _⟩ := hv.view
  subst hve
  have hz0 : ∀ w, (zeroValue 53).run Tryd.prog w = .ok (.agg (u8s [0, 0, 0])) w := (zero_of_info (show (Tryd.prog.info? 53).map (fun i => (i.zero, i.size)) = some (some (.agg (u8s [0, 0, 0])), 3) by kernel_rfl)).1
  have hsz := Lib.hid (zero_of_info (show (Tryd.prog.info? 53).map (fun i => (i.zero, i.size)) = some (some (.agg (u8s [0, 0, 0])), 3) by kernel_rfl)).2
  have hsP := Lib.hid (show (Tryd.prog.info? 33).map (·.size) = some 2 by kernel_rfl)
  obtain ⟨p, hp, hpz, hzk, hkc⟩ := kAt_ok d n zs s.data.toList hP hs hl hd3 hn
  obtain ⟨r1, _⟩ := pRow_ok d _ hd hkc
  have Hs3 : Hid ((Tryd.prog.info? 53).map (·.size) = some (u8s (pRow d (kAt d zs s.data.toList))).size) := Lib.hid (by rw [u8s_size, r1]; exact hsz.out)
  have Hf3 : Hid (0 + (u8s (pRow d (kAt d zs s.data.toList))).size ≤ (u8s [0, 0, 0]).size) := Lib.hid (by rw [u8s_size, r1]; exact Nat.le_refl 3)
  have Ho : Hid (over (u8s [0, 0, 0]) 0 (u8s (pRow d (kAt d zs s.data.toList))) = u8s (pRow d (kAt d zs s.data.toList))) := Lib.hid (over_all _ _ (by rw [u8s_size, u8s_size, r1]; rfl))
  have HPl := Lib.hid (fun W => placeOf_calls d hd (.slice oa zs.length ca) s (by omega) hl W)
  rw [hp] at HPl
  have HA := Lib.hid (fun W hW => permutationAt_calls d (kAt d zs s.data.toList) hd hkc W hW)
  have hB0 : Blk ((w.alloc (.cells #[.int .i64 d, .slice oa zs.length ca] 33)).alloc (.cells (u8s [0, 0, 0]) 53)) w.heap.size #[.int .i64 d, .slice oa zs.length ca] 33 := (Blk.new w _ _).alloc _
  have hR0 : Blk ((w.alloc (.cells #[.int .i64 d, .slice oa zs.length ca] 33)).alloc (.cells (u8s [0, 0, 0]) 53)) (w.heap.size + 1) (u8s [0, 0, 0]) 53 := Blk.new_at _ _ _ _ (by simp)
  have hbw0 : Below w.heap.size w ((w.alloc (.cells #[.int .i64 d, .slice oa zs.length ca] 33)).alloc (.cells (u8s [0, 0, 0]) 53)).drew := by (repeat (first | exact Below.refl _ _ | refine below_drew' ?_ | refine below_drewN' ?_ _ | refine below_alloc' ?_ _ | refine below_set' ?_ (by (try simp); (try omega)) _ | refine below_step ?_ (by assumption)))
  have hR1 := hR0.drew
  have Hv := Lib.hid hv
  have HT := Lib.hid hT
  have hpi : (p : Int) < zs.length := by omega
  have Hcut : Hid (cut (#[.int .i64 d, .slice oa zs.length ca] : Array Value) 0 2 = #[.int .i64 d, .slice oa zs.length ca]) := Lib.hid rfl
  have Hfit : Hid (0 + 2 ≤ (#[.int .i64 d, .slice oa zs.length ca] : Array Value).size) := Lib.hid (Nat.le_refl 2)
  clear hv hT hR0 r1 hp hkc
  generalize kAt d zs s.data.toList = kk at *
  generalize hrow : u8s (pRow d kk) = row at *
  have H1 : Hid (row.all (·.oneCell') = true) := Lib.hid (by rw [← hrow]; exact u8s_one _)
  clear hrow
  obtain ⟨g, hg, hgl, hcz⟩ := Hv.out.at p hpz
  subst hg
  rw [hzk] at hcz
  go_enter Tryd.func39, Tryd.ntmps39
  go_wp2_with fail
  refine wp_region_held_drew (S := fun W => Blk W w.heap.size #[.int .i64 d, .slice (some ⟨g, 0, none⟩) zs.length ca] 33 ∧ W.cell? ⟨g, p, none⟩ = some (.int .i64 (kk : Int))) (by kernel_rfl) ⟨hB0.drew, (Below.cell hbw0 hgl).trans hcz⟩ (fun hS0 => ?_)
  (refine hK_take 0 (.pointer (some ⟨w.heap.size, 0, none⟩)) rfl (by kernel_rfl) (by kernel_rfl) (by kernel_rfl) (fun _ _ _ h => h) rfl (fun W _ => by go_simp) hS0 ?_; (intro K hK; go_simp; refine hK _ ?_; clear hK K))
  (refine hK_take 1 (.int .i64 (d : Int)) rfl (by kernel_rfl) (by kernel_rfl) (by kernel_rfl) (fun _ _ _ h => h) rfl (fun W hW => by have c1 := Blk.cell hW.1 0; simp at c1; clear hW; go_simp) hS0 ?_; (intro K hK; go_simp; refine hK _ ?_; clear hK K))
  (refine hK_take 2 (.pointer (some ⟨w.heap.size, 1, none⟩)) rfl (by kernel_rfl) (by kernel_rfl) (by kernel_rfl) (fun _ _ _ h => h) rfl (fun W _ => by go_simp) hS0 ?_; (intro K hK; go_simp; refine hK _ ?_; clear hK K))
  (refine hK_take 3 (.slice (some ⟨g, 0, none⟩) zs.length ca) rfl (by kernel_rfl) (by kernel_rfl) (by kernel_rfl) (fun _ _ _ h => h) rfl (fun W hW => by have c1 := Blk.cell hW.1 1; simp at c1; clear hW; go_simp) hS0 ?_; (intro K hK; go_simp; refine hK _ ?_; clear hK K))
  (refine hK_load 4 rfl (by kernel_rfl) (by kernel_rfl) (by kernel_rfl) 33 _ rfl w.heap.size 0 rfl #[.int .i64 d, .slice (some ⟨g, 0, none⟩) zs.length ca] _ (fun W hW => hW.1) 2 Hfit.out _ Tryd.underlying33 rfl hsP.out _ Hcut.out (fun _ _ _ h => h) rfl hS0 ?_; (intro K hK; go_simp; refine hK _ ?_; clear hK K))
  (refine hK_take 5 (.string s) rfl (by kernel_rfl) (by kernel_rfl) (by kernel_rfl) (fun _ _ _ h => h) rfl (fun W _ => by go_simp) hS0 ?_; (intro K hK; go_simp; refine hK _ ?_; clear hK K))
  (refine wpAnyH_ready (rs := [6]) (by kernel_rfl) (by simp) ?_; refine AllReadyH.cons rfl (fun K hK => ?_) AllReadyH.nil); go_simp; refine (HPl.out _).mono ?_; rintro e w3 ⟨rfl, hb3⟩; have hB3 : Blk w3 _ _ _ := Blk.keptAll hS0.1 hb3; have hR3 := hR1.keptAll hb3; have hbw3 := below_step hbw0 hb3; have hc3 := (Below.cell hbw3 hgl).trans hcz
  (go_simp; refine hK.out _ _ (⟨hB3, hc3⟩) (fun hS1 => ?_); clear hK K)
  (refine hK_take 7 (.pointer (some ⟨g, p, none⟩)) rfl (by kernel_rfl) (by kernel_rfl) (by kernel_rfl) (fun _ _ _ h => h) rfl (fun W _ => by go_simp) hS1 ?_; (intro K hK; go_simp; refine hK _ ?_; clear hK K))
  (refine hK_take 8 (.int .i64 (kk : Int)) rfl (by kernel_rfl) (by kernel_rfl) (by kernel_rfl) (fun _ _ _ h => h) rfl (fun W hW => by have c1 := hW.2; clear hW; go_simp) hS1 ?_; (intro K hK; go_simp; refine hK _ ?_; clear hK K))
  (refine wpAnyH_ready (rs := [9]) (by kernel_rfl) (by simp) ?_; refine AllReadyH.cons rfl (fun K hK => ?_) AllReadyH.nil); go_simp; refine (HA.out _ (HT.out.below hbw3)).mono ?_; rintro e w4 ⟨rfl, hb4⟩; have hB4 : Blk w4 _ _ _ := Blk.keptAll hB3 hb4; have hR4 := hR3.keptAll hb4; have hbw4 := below_step hbw3 hb4; have hc4 := (Below.cell hbw4 hgl).trans hcz
  (go_simp; refine hK.out _ _ (⟨hB4, hc4⟩) (fun hS2 => ?_); clear hK K)
  refine hK_store 10 rfl (by kernel_rfl) rfl 53 _ _ rfl (w.heap.size + 1) 0 row rfl rfl _ _ hR4 Hf3.out Hs3.out H1.out _ Ho.out (fun w5 hs5 => ⟨⟨hs5.keep (by omega) hB4, (Below.cell (hs5.below _ _ (by omega) hbw4) hgl).trans hcz⟩, fun hS3 => ?_⟩)
  (intro K hK; go_simp; refine hK _ ?_; clear hK K)
  refine wpAnyH_done (by kernel_rfl) ?_ _
  go_wp2
  exact bodyPost_cell rfl rfl hs5.blk Tryd.underlying53 rfl Hs3.out rfl ⟨rfl, hs5.below _ _ (by omega) hbw4⟩
end Go.Proofs.YticnpajbefflbadDoor
