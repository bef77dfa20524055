/- A portrait and a word: their code, in the program. -/
import Derived.Test.YticnpajbefflbadDoorPcA
import Derived.Test.YticnpajbefflbadDoorGrpT
import Derived.Test.YticnpajbefflbadDoorInts
import Derived.Test.YticnpajbefflbadDoorWordD
import Derived.Test.YticnpajbefflbadDoorPtS
import Derived.Test.YticnpajbefflbadDoorPnS
namespace Go.Proofs.YticnpajbefflbadDoor
open Go.RowKit

def codeW (d n : Int) (zs : List Int) (s : ByteArray) (most : Int) : Int := if codeP d n zs = 0 then (if wordB d.toNat s then (if most < (s.size : Int) then 2 else 0) else 1) else codeP d n zs
theorem codeP_zero (d n : Int) (zs : List Int) (h : codeP d n zs = 0) : (2 ≤ d ∧ d ≤ 3) ∧ (1 ≤ n ∧ n ≤ 4) ∧ isP d.toNat n.toNat zs = true := by
  unfold codeP at h
  split at h
  · rename_i h1
    simp only [Bool.and_eq_true, decide_eq_true_eq] at h1
    split at h
    · rename_i h2
      have := (isAlpha_iff d).1 h1.1
      exact ⟨by omega, h1.2, h2⟩
    · omega
  · omega

end Go.Proofs.YticnpajbefflbadDoor

namespace Go.Proofs.YticnpajbefflbadDoor
open Go.RowKit

theorem sees_one2 {w : World} {v1 : Value} {z1 : List Int} (h1 : SeesI w v1 z1) : SeesL (w.alloc (.cells #[v1] 22)) (.slice (some ⟨w.heap.size, 0, none⟩) 1 1) [(v1, z1)] :=
  ⟨w.heap.size, 1, rfl, Blk.new _ _ _, fun i hi => by
    have hb : Below w.heap.size w (w.alloc (.cells #[v1] 22)) := by (repeat (first | exact Below.refl _ _ | refine below_drew' ?_ | refine below_drewN' ?_ _ | refine below_alloc' ?_ _ | refine below_set' ?_ (by (try simp); (try omega)) _ | refine below_step ?_ (by assumption)))
    match i, hi with
    | 0, _ => exact h1.below hb⟩
theorem mk_im2 (n : Nat) (hn : n ≤ 1048576) (W : World) : (Instr.makeSlice 48 (.int .i64 n) (.int .i64 n)).run Tryd.prog W = .ok (.slice (some ⟨W.heap.size, 0, none⟩) n n) (W.alloc (.cells (imC n []) 5)) := by
  obtain ⟨i0, hi, hz0, hz1, hz2⟩ := info_parts info5
  have := run_make (P := Tryd.prog) W 48 5 i0 (.int .u8 0) Tryd.underlying48 hi hz0 .i64 .i64 n n (by omega) (by omega) (by rw [hz2]; omega) (by omega)
  rwa [hz1, Int.toNat_natCast, Nat.mul_one, made_zero, ← imC_zero] at this
theorem ext_list (s : ByteArray) (k : Nat) : (s.extract 0 k).data.toList = s.data.toList.take k := by
  rw [ByteArray.data_extract, Array.toList_extract]
  simp
/-- A letter of a permutation at hand. -/
theorem run_index_perm (l : List Int) (w : World) (x : Nat) (hx : x < 3) (v : Value) (hv : (u8s l)[x]? = some v) : (Instr.index 53 (.agg (u8s l)) (.int .u8 x)).run Tryd.prog w = .ok v w := by
  have hu := Tryd.underlying53
  have h1 : Tryd.t5.size = 1 := by kernel_rfl
  simp only [Instr.index, asIntOf, go_sem, Go.part, Go.sizeOf]
  simp [go_sem, h1, hv, hx, Nat.mul_one]
/-- The letter to which a portrait leads the letter i of a word. -/
def ptL (d : Nat) (zs : List Int) (l : List UInt8) (i : Nat) : Nat := ((pRow d (kAt d zs (l.take i))).getD ((l.getD i 0).toNat - 48) 0).toNat
def actP (d : Nat) (zs : List Int) (l : List UInt8) (k : Nat) : List UInt8 := (List.range k).map fun i => dig (ptL d zs l i : Int)
theorem actP_len (d : Nat) (zs : List Int) (l : List UInt8) (k : Nat) : (actP d zs l k).length = k := by simp [actP]
theorem actP_succ (d : Nat) (zs : List Int) (l : List UInt8) (k : Nat) : actP d zs l (k + 1) = actP d zs l k ++ [dig (ptL d zs l k : Int)] := by simp [actP, List.range_succ]
def actS (d : Nat) (zs : List Int) (s : ByteArray) : ByteArray := ⟨(actP d zs s.data.toList s.data.toList.length).toArray⟩
theorem lettersL_pre (d : Nat) (l : List UInt8) (k : Nat) (h : lettersL d l = true) : lettersL d (l.take k) = true := by
  unfold lettersL at *
  rw [List.all_eq_true] at *
  exact fun x hx => h x (List.mem_of_mem_take hx)
theorem ptL_ok (d n : Nat) (hd : d = 2 ∨ d = 3) (hn : n ≤ 4) (zs : List Int) (hP : isP d n zs = true) (l : List UInt8) (hl : lettersL d l = true) (i x : Nat) (hi : i < l.length) (hin : i < n) (hx : l[i].toNat = 48 + x) :
    x < d ∧ (u8s (pRow d (kAt d zs (l.take i))))[x]? = some (.int .u8 (ptL d zs l i : Int)) ∧ ptL d zs l i ≤ 2 := by
  obtain ⟨h1, h2⟩ := lettersL_at hl i hi
  have hxd : x < d := by omega
  obtain ⟨p, _, _, _, hk⟩ := kAt_ok d n zs (l.take i) hP (by rw [List.length_take]; omega) (lettersL_pre d l i hl) (by omega) hn
  obtain ⟨r1, r2⟩ := pRow_ok d _ hd hk
  have r3 := r2 x (by omega)
  have e : ptL d zs l i = ((pRow d (kAt d zs (l.take i))).getD x 0).toNat := by
    unfold ptL
    rw [show (l.getD i 0) = l[i] from by simp [List.getD, List.getElem?_eq_getElem hi], hx]
    congr 2; omega
  refine ⟨hxd, ?_, by omega⟩
  rw [u8s_at _ x (by omega), e]
  congr 2; omega

set_option maxRecDepth 100000 in
set_option maxHeartbeats 1000000 in
theorem lead_calls (d n : Nat) (hd : d = 2 ∨ d = 3) (hn : n ≤ 4) (zs : List Int) (hP : isP d n zs = true) (v : Value) (s : ByteArray) (hs : s.data.toList.length ≤ n) (hl : lettersL d s.data.toList = true) (w : World) (hv : SeesI w v zs) (hT : TabsAt w) :
    Calls Tryd.prog 28 #[.agg #[.int .i64 d, v], .string s] w fun e w' => e = .returned (.string (actS d zs s)) ∧ Below w.heap.size w w' := by
  obtain ⟨oa, ca, hve, _⟩ := hv.view
  subst hve
  have hsz : s.size = s.data.toList.length := size_list s
  have Hsz := Lib.hid hsz; clear hsz
  have hs4 : s.size ≤ 4 := by rw [Hsz.out]; omega
  have hmk := mk_im2 s.size (by omega)
  have hsP := Lib.hid (show (Tryd.prog.info? 33).map (·.size) = some 2 by kernel_rfl)
  have Hcut : Hid (cut (#[.int .i64 d, .slice oa zs.length ca] : Array Value) 0 2 = #[.int .i64 d, .slice oa zs.length ca]) := Lib.hid rfl
  have Hfit : Hid (0 + 2 ≤ (#[.int .i64 d, .slice oa zs.length ca] : Array Value).size) := Lib.hid (Nat.le_refl 2)
  have HO := Lib.hid (ptL_ok d n hd hn zs hP s.data.toList hl)
  have HA := Lib.hid (fun k (hk : k < s.data.toList.length) W h1 h2 => at_calls d n hd hn zs hP (.slice oa zs.length ca) (s.extract 0 k) (by rw [ext_list, List.length_take]; omega) (by rw [ext_list]; exact lettersL_pre d _ k hl) W h1 h2)
  have HL := Lib.hid hl; clear hl
  have HV := Lib.hid hv
  have HT := Lib.hid hT
  have hB0 : Blk ((w.alloc (.cells #[.int .i64 d, .slice oa zs.length ca] 33)).alloc (.cells (imC s.size []) 5)) w.heap.size #[.int .i64 d, .slice oa zs.length ca] 33 := (Blk.new w _ _).alloc _
  have hC0 : Blk ((w.alloc (.cells #[.int .i64 d, .slice oa zs.length ca] 33)).alloc (.cells (imC s.size []) 5)) (w.heap.size + 1) (imC s.size []) 5 := Blk.new_at _ _ _ _ (by simp)
  have hbw0 : Below w.heap.size w ((w.alloc (.cells #[.int .i64 d, .slice oa zs.length ca] 33)).alloc (.cells (imC s.size []) 5)) := by (repeat (first | exact Below.refl _ _ | refine below_drew' ?_ | refine below_drewN' ?_ _ | refine below_alloc' ?_ _ | refine below_set' ?_ (by (try simp); (try omega)) _ | refine below_step ?_ (by assumption)))
  clear hv hT
  have hmk2 := hmk (w.alloc (.cells #[.int .i64 d, .slice oa zs.length ca] 33))
  clear hmk
  rw [show (w.alloc (.cells #[.int .i64 d, .slice oa zs.length ca] 33)).heap.size = w.heap.size + 1 from by simp] at hmk2
  go_enter Tryd.func28, Tryd.ntmps28
  go_wp2_with fail
  clear hmk2
  go_loopw [12] (fun i wr => ∃ k : Nat, k ≤ s.size ∧ i = .int .i64 k ∧ Blk wr w.heap.size #[.int .i64 d, .slice oa zs.length ca] 33 ∧ Blk wr (w.heap.size + 1) (imC s.size (actP d zs s.data.toList k)) 5 ∧ Below w.heap.size w wr) (fun i _ => s.size - (intOf i).toNat)
  case atStart => exact ⟨0, by omega, rfl, hB0, hC0, hbw0⟩
  case round =>
    clear hB0 hC0 hbw0
    obtain ⟨k, hk, rfl, hB, hC, hbw⟩ := hrel
    by_cases hlt : k < s.size
    · have hlt' : k < s.data.toList.length := by rw [← Hsz.out]; exact hlt
      have hki : (k : Int) < s.size := by omega
      obtain ⟨h48, h51⟩ := lettersL_at HL.out k hlt'
      have he : s.data.toList[k] = s[k] := rfl
      obtain ⟨x, hx⟩ : ∃ x : Nat, s[k].toNat = 48 + x := ⟨s[k].toNat - 48, by rw [he] at h48; omega⟩
      obtain ⟨o1, o2, o3⟩ := HO.out k x hlt' (by omega) (by rw [he]; exact hx)
      have hx' : (s[k].toNat : Int) = 48 + (x : Int) := by omega
      have hw48 : IntKind.u8.wrap (48 + (x : Int) - 48) = (x : Int) := by simp [IntKind.wrap, IntKind.bits, IntKind.signed]; omega
      have hdig := dig_toNat (ptL d zs s.data.toList k : Int) (by omega) (by omega)
      have hw8 : IntKind.u8.wrap (48 + (ptL d zs s.data.toList k : Int)) = 48 + (ptL d zs s.data.toList k : Int) := by simp [IntKind.wrap, IntKind.bits, IntKind.signed]; omega
      have Hset : Hid ((imC s.size (actP d zs s.data.toList k)).setIfInBounds k (.int .u8 (48 + (ptL d zs s.data.toList k : Int))) = imC s.size (actP d zs s.data.toList (k + 1))) := Lib.hid (by
        have := imC_set s.size (actP d zs s.data.toList k) (dig (ptL d zs s.data.toList k : Int)) (by rw [actP_len]; exact hlt)
        rw [actP_len, hdig] at this
        rw [this, actP_succ])
      have hcs : (imC s.size (actP d zs s.data.toList k)).size = s.size := imC_size _ _ (by rw [actP_len]; omega)
      have hix := fun W => run_index_perm (pRow d (kAt d zs (s.data.toList.take k))) W x (by omega) _ o2
      have HAk := Lib.hid (HA.out k hlt')
      rw [ext_list] at HAk
      clear hdig o2 h48 h51 he HO
      generalize imC s.size (actP d zs s.data.toList k) = ic at *
      generalize ptL d zs s.data.toList k = y at *
      generalize u8s (pRow d (kAt d zs (s.data.toList.take k))) = row at *
      have hold : ic[k]? = some (ic[k]'(by omega)) := Array.getElem?_eq_getElem _
      generalize ic[k]'(by omega) = old at hold
      have hdr : Below wr.heap.size wr wr.drew := (Below.refl _ _).drew
      have hBd := hB.keptAll hdr
      have hCd := hC.keptAll hdr
      have hbd := below_step hbw hdr
      clear hB hC hbw hdr
      go_wp2_with fail
      refine wp_region_held_drew (S := fun W => Blk W w.heap.size #[.int .i64 d, .slice oa zs.length ca] 33) (by kernel_rfl) hBd (fun hS0 => ?_)
      (refine hK_take 0 (.slice (some ⟨w.heap.size + 1, 0, none⟩) s.size s.size) rfl (by kernel_rfl) (by kernel_rfl) (by kernel_rfl) (fun _ _ _ h => h) rfl (fun W _ => by go_simp) hS0 ?_; (intro K hK; go_simp; refine hK _ ?_; clear hK K))
      (refine hK_take 1 (.int .i64 (k : Int)) rfl (by kernel_rfl) (by kernel_rfl) (by kernel_rfl) (fun _ _ _ h => h) rfl (fun W _ => by go_simp) hS0 ?_; (intro K hK; go_simp; refine hK _ ?_; clear hK K))
      (refine hK_load 2 rfl (by kernel_rfl) (by kernel_rfl) (by kernel_rfl) 33 _ rfl w.heap.size 0 rfl #[.int .i64 d, .slice oa zs.length ca] _ (fun W hW => hW) 2 Hfit.out _ Tryd.underlying33 rfl hsP.out _ Hcut.out (fun _ _ _ h => h) rfl hS0 ?_; (intro K hK; go_simp; refine hK _ ?_; clear hK K))
      (refine hK_take 3 (.string s) rfl (by kernel_rfl) (by kernel_rfl) (by kernel_rfl) (fun _ _ _ h => h) rfl (fun W _ => by go_simp) hS0 ?_; (intro K hK; go_simp; refine hK _ ?_; clear hK K))
      (refine hK_take 4 (.int .i64 (k : Int)) rfl (by kernel_rfl) (by kernel_rfl) (by kernel_rfl) (fun _ _ _ h => h) rfl (fun W _ => by go_simp) hS0 ?_; (intro K hK; go_simp; refine hK _ ?_; clear hK K))
      (refine hK_take 5 (.string (s.extract 0 k)) rfl (by kernel_rfl) (by kernel_rfl) (by kernel_rfl) (fun _ _ _ h => h) rfl (fun W _ => by go_simp) hS0 ?_; (intro K hK; go_simp; refine hK _ ?_; clear hK K))
      (refine hK_take 7 (.string s) rfl (by kernel_rfl) (by kernel_rfl) (by kernel_rfl) (fun _ _ _ h => h) rfl (fun W _ => by go_simp) hS0 ?_; (intro K hK; go_simp; refine hK _ ?_; clear hK K))
      (refine hK_take 8 (.int .i64 (k : Int)) rfl (by kernel_rfl) (by kernel_rfl) (by kernel_rfl) (fun _ _ _ h => h) rfl (fun W _ => by go_simp) hS0 ?_; (intro K hK; go_simp; refine hK _ ?_; clear hK K))
      (refine hK_take 9 (.int .u8 (s[k].toNat : Int)) rfl (by kernel_rfl) (by kernel_rfl) (by kernel_rfl) (fun _ _ _ h => h) rfl (fun W _ => by go_simp) hS0 ?_; (intro K hK; go_simp; refine hK _ ?_; clear hK K))
      (refine hK_take 10 (.int .u8 (x : Int)) rfl (by kernel_rfl) (by kernel_rfl) (by kernel_rfl) (fun _ _ _ h => h) rfl (fun W _ => by go_simp) hS0 ?_; (intro K hK; go_simp; refine hK _ ?_; clear hK K))
      (refine wpAnyH_ready (rs := [6]) (by kernel_rfl) (by simp) ?_; refine AllReadyH.cons rfl (fun K hK => ?_) AllReadyH.nil); go_simp; refine (HAk.out _ (HV.out.below hbd) (HT.out.below hbd)).mono ?_; rintro e w3 ⟨rfl, hb3⟩; have hB3 : Blk w3 _ _ _ := Blk.keptAll hS0 hb3; have hC3 := hCd.keptAll hb3; have hbw3 := below_step hbd hb3
      (go_simp; refine hK.out _ _ (hB3) (fun hS1 => ?_); clear hK K)
      (refine hK_take 11 (.int .u8 (y : Int)) rfl (by kernel_rfl) (by kernel_rfl) (by kernel_rfl) (fun _ _ _ h => h) rfl (fun W _ => by go_simp) hS1 ?_; (intro K hK; go_simp; refine hK _ ?_; clear hK K))
      (refine hK_take 12 (.int .u8 (48 + (y : Int))) rfl (by kernel_rfl) (by kernel_rfl) (by kernel_rfl) (fun _ _ _ h => h) rfl (fun W _ => by go_simp) hS1 ?_; (intro K hK; go_simp; refine hK _ ?_; clear hK K))
      (refine hK_take 13 (.pointer (some ⟨w.heap.size + 1, k, none⟩)) rfl (by kernel_rfl) (by kernel_rfl) (by kernel_rfl) (fun _ _ _ h => h) rfl (fun W _ => by go_simp) hS1 ?_; (intro K hK; go_simp; refine hK _ ?_; clear hK K))
      refine wpAnyH_ready (rs := [14]) (by kernel_rfl) (by simp) ?_
      refine AllReadyH.cons rfl (fun K hK => ?_) AllReadyH.nil
      have cC := hC3.cell
      have fC := hC3.free
      have hC5 := hC3.set k (.int .u8 (48 + (y : Int)))
      have hB5 := hB3.setOther (w.heap.size + 1) k (.int .u8 (48 + (y : Int))) (by omega)
      have hbw5 := below_set' (o := k) hbw3 (b := w.heap.size + 1) (by omega) (.int .u8 (48 + (y : Int)))
      rw [Hset.out] at hC5
      go_simp
      refine hK.out _ _ hB5 (fun hS3 => ?_)
      clear hK K
      refine wpAnyH_done (by kernel_rfl) ?_ _
      clear cC fC
      go_wp2
      go_roundw
      case rel => exact ⟨k + 1, by omega, by go_num, hB5, hC5, hbw5⟩
      case measure => simp [intOf] <;> omega
    · obtain rfl : k = s.size := by omega
      rw [imC_done _ _ (actP_len _ _ _ _)] at hC
      have hstr := run_str_block (P := Tryd.prog) wr 48 9 5 (w.heap.size + 1) s.size s.size _ _ _ Tryd.underlying48 Tryd.underlying5 Tryd.underlying9 (actP_len _ _ _ _) hC rfl
      go_wp2
      go_ret
      exact ⟨by rw [Hsz.out]; rfl, hbw⟩
end Go.Proofs.YticnpajbefflbadDoor

namespace Go.Proofs.YticnpajbefflbadDoor
open Go.RowKit

theorem rows_same (d k x : Nat) (hd : d = 2 ∨ d = 3) (hk : k < cN d) (hx : x < d) : (sRow d k).getD x 0 = (pRow d k).getD x 0 := by
  have h2 : ∀ k, k < 2 → ∀ x, x < 2 → (sRow 2 k).getD x 0 = (pRow 2 k).getD x 0 := by decide
  have h3 : ∀ k, k < 6 → ∀ x, x < 3 → (sRow 3 k).getD x 0 = (pRow 3 k).getD x 0 := by decide
  rcases hd with rfl | rfl
  · exact h2 k hk x hx
  · exact h3 k hk x hx

set_option maxRecDepth 100000 in
set_option maxHeartbeats 1000000 in
theorem l03At_calls (d n : Nat) (hd : d = 2 ∨ d = 3) (hn : n ≤ 4) (zs : List Int) (hP : isP d n zs = true) (v : Value) (s : ByteArray) (hs : s.data.toList.length < n) (hl : lettersL d s.data.toList = true) (w : World) (hv : SeesI w v zs) :
    Calls Tryd.prog 33 #[.int .i64 d, v, .string s] w fun e w' => e = .returned (.int .i64 (kAt d zs s.data.toList : Int)) ∧ w = w' := by
  have hd3 : d ≤ 3 := by omega
  obtain ⟨oa, ca, hve, _⟩ := hv.view
  subst hve
  obtain ⟨p, hp, hpz, hzk, hkc⟩ := kAt_ok d n zs s.data.toList hP hs hl hd3 hn
  obtain ⟨g, hg, hgl, hcz⟩ := hv.at p hpz
  subst hg
  rw [hzk] at hcz
  have h1 := sumP_bd d hd3 s.data.toList.length (by omega)
  have h2 := numI_lt d s.data.toList hl
  have h3 := pw_bd d s.data.toList.length hd3 (by omega)
  have hwr : IntKind.i64.wrap (sumP d s.data.toList.length + numI d s.data.toList) = (p : Int) := by rw [← hp]; exact IntWalk.i64_in _ (by omega)
  have hpi : (p : Int) < zs.length := by omega
  have HS := Lib.hid (fun W => l03Start_calls d s.data.toList.length hd3 (by omega) W)
  have HN := Lib.hid (fun W => l01NumberOf_calls d s hd3 (by omega) hl W)
  have hsz : s.size = s.data.toList.length := size_list s
  rw [← hsz] at HS hwr
  clear h1 h2 h3 hsz hp hv hzk
  generalize kAt d zs s.data.toList = kk at *
  generalize sumP d s.size = P at *
  generalize numI d s.data.toList = N at *
  go_enter Tryd.func33, Tryd.ntmps33
  go_wp2_with (first | (go_at_call 30; refine (HS.out _).mono ?_; rintro e w3 ⟨rfl, rfl⟩) | (go_at_call 18; refine (HN.out _).mono ?_; rintro e w4 ⟨rfl, rfl⟩))
  go_ret
  exact ⟨rfl, rfl⟩

set_option maxRecDepth 100000 in
set_option maxHeartbeats 1000000 in
theorem l03Act_calls (d n : Nat) (hd : d = 2 ∨ d = 3) (hn : n ≤ 4) (zs : List Int) (hP : isP d n zs = true) (v : Value) (s : ByteArray) (hs : s.data.toList.length ≤ n) (hl : lettersL d s.data.toList = true) (w : World) (hv : SeesI w v zs) :
    Calls Tryd.prog 19 #[.int .i64 d, v, .string s] w fun e w' => e = .returned (.string (actS d zs s)) ∧ Below w.heap.size w w' := by
  obtain ⟨oa, ca, hve, _⟩ := hv.view
  subst hve
  have hsz : s.size = s.data.toList.length := size_list s
  have Hsz := Lib.hid hsz; clear hsz
  have hs4 : s.size ≤ 4 := by rw [Hsz.out]; omega
  have Hi3 := info_b3
  have hz3 := (zero_of_info Hi3).1
  have hs3 := Lib.hid (zero_of_info Hi3).2
  clear Hi3
  have HO := Lib.hid (ptL_ok d n hd hn zs hP s.data.toList hl)
  have HK := Lib.hid (fun k (hk : k < s.data.toList.length) => kAt_ok d n zs (s.data.toList.take k) hP (by rw [List.length_take]; omega) (lettersL_pre d _ k hl) (by omega) hn)
  have HA := Lib.hid (fun k (hk : k < s.data.toList.length) W h1 => l03At_calls d n hd hn zs hP (.slice oa zs.length ca) (s.extract 0 k) (by rw [ext_list, List.length_take]; omega) (by rw [ext_list]; exact lettersL_pre d _ k hl) W h1)
  have HL := Lib.hid hl; clear hl
  have HV := Lib.hid hv
  have hbw0 : Below w.heap.size w (w.alloc (.cells #[] 5)) := by (repeat (first | exact Below.refl _ _ | refine below_drew' ?_ | refine below_drewN' ?_ _ | refine below_alloc' ?_ _ | refine below_set' ?_ (by (try simp); (try omega)) _ | refine below_step ?_ (by assumption)))
  have hO0 : OwnB (w.alloc (.cells #[] 5)) w.heap.size (.slice (some ⟨w.heap.size, 0, none⟩) 0 0) [] := OwnB.empty w _ 0 #[] (Nat.le_refl _) (by unfold maxLen; omega) rfl
  clear hv hP
  go_enter Tryd.func19, Tryd.ntmps19
  go_wp2_with fail
  go_loopw [7, 8] (fun o i wr => ∃ k : Nat, k ≤ s.size ∧ i = .int .i64 k ∧ OwnB wr w.heap.size o (actP d zs s.data.toList k) ∧ Below w.heap.size w wr) (fun _ i _ => s.size - (intOf i).toNat)
  case atStart => exact ⟨0, by omega, rfl, hO0, hbw0⟩
  case round =>
    clear hO0 hbw0
    obtain ⟨k, hk, rfl, hO, hbw⟩ := hrel
    by_cases hlt : k < s.size
    · have hlt' : k < s.data.toList.length := by rw [← Hsz.out]; exact hlt
      have hki : (k : Int) < s.size := by omega
      obtain ⟨h48, h51⟩ := lettersL_at HL.out k hlt'
      have he : s.data.toList[k] = s[k] := rfl
      obtain ⟨x, hx⟩ : ∃ x : Nat, s[k].toNat = 48 + x := ⟨s[k].toNat - 48, by rw [he] at h48; omega⟩
      obtain ⟨o1, o2, o3⟩ := HO.out k x hlt' (by omega) (by rw [he]; exact hx)
      obtain ⟨_, _, _, _, hkc⟩ := HK.out k hlt'
      have hx' : (s[k].toNat : Int) = 48 + (x : Int) := by omega
      have hw48 : IntKind.u8.wrap (48 + (x : Int) - 48) = (x : Int) := by simp [IntKind.wrap, IntKind.bits, IntKind.signed]; omega
      have hdig := dig_toNat (ptL d zs s.data.toList k : Int) (by omega) (by omega)
      have hw8 : IntKind.u8.wrap (48 + (ptL d zs s.data.toList k : Int)) = ((dig (ptL d zs s.data.toList k : Int)).toNat : Int) := by rw [hdig]; simp [IntKind.wrap, IntKind.bits, IntKind.signed]; omega
      have Hs1 := Lib.hid (actP_succ d zs s.data.toList k)
      have Hln := Lib.hid (actP_len d zs s.data.toList k)
      have HAk := Lib.hid (fun W h => HA.out k hlt' W h)
      rw [ext_list] at HAk
      have r1 := (sRow_ok d _ hd hkc).1
      have e1 := u8s_at (sRow d (kAt d zs (s.data.toList.take k))) x (by omega)
      rw [rows_same d _ x hd hkc o1, show (pRow d (kAt d zs (s.data.toList.take k))).getD x 0 = (ptL d zs s.data.toList k : Int) from by
        obtain ⟨p1, p2⟩ := pRow_ok d _ hd hkc
        rw [u8s_at _ x (by omega)] at o2
        simpa using o2] at e1
      have HI := Lib.hid (fun W => l03Images_calls d _ hd hkc W)
      have Hsr : Hid ((u8s (sRow d (kAt d zs (s.data.toList.take k)))).size = 3) := Lib.hid (by rw [u8s_size, r1])
      have H1 : Hid ((u8s (sRow d (kAt d zs (s.data.toList.take k)))).all (·.oneCell') = true) := Lib.hid (u8s_one _)
      clear hdig h48 h51 he HO o2 r1 HK HA
      generalize actP d zs s.data.toList k = cur at *
      generalize ptL d zs s.data.toList k = y at *
      generalize kAt d zs (s.data.toList.take k) = kk at *
      generalize u8s (sRow d kk) = row at *
      have Hs3 : Hid ((Tryd.prog.info? 49).map (·.size) = some row.size) := Lib.hid (by rw [Hsr.out]; exact hs3.out)
      have Hf3 : Hid (0 + row.size ≤ (u8s [0, 0, 0]).size) := Lib.hid (by rw [Hsr.out]; exact Nat.le_refl 3)
      have Ho : Hid (over (u8s [0, 0, 0]) 0 row = row) := Lib.hid (over_all _ _ (by rw [Hsr.out]; rfl))
      have hx3 : x < 3 := by omega
      have hx3i : (x : Int) < 3 := by omega
      go_wp2_with (first | (go_at_call 33; refine (HAk.out _ (HV.out.below hbw)).mono ?_; rintro e w' ⟨rfl, rfl⟩) | (go_at_call 32; refine (HI.out _).mono ?_; rintro e w3 ⟨rfl, hb3⟩; have hR3 : Blk (w3.alloc (.cells (u8s [0, 0, 0]) 49)) w3.heap.size (u8s [0, 0, 0]) 49 := Blk.new _ _ _; have hbr3 := hb3.alloc hb3.size (.cells (u8s [0, 0, 0]) 49); have hs3' := hb3.size) | (with_reducible show wpList _ _ _ _ _ _; refine wpList_store_row rfl 49 _ _ rfl w3.heap.size 0 row rfl rfl _ _ hR3 Hf3.out Hs3.out H1.out _ Ho.out ?_; intro w4 hs4; have cR := hs4.blk.cell x; rw [e1] at cR; have hbr4 := hs4.below _ _ hs3' hbr3; have hO4 := hO.below hbr4; have hbw4 := below_step hbw hbr4) | (at_builtin; refine wpList_push_byte rfl (.tmp 25) (.tmp 33) rfl w.heap.size _ cur rfl (hO4.below (Below.alloc (Below.refl _ _) (Nat.le_refl _) (.cells #[.int .u8 ((dig (y : Int)).toNat : Int)] 5))) w4.heap.size 1 (dig (y : Int)) rfl (Blk.new w4 _ _) (by rw [Hln.out]; omega) (by have := hbw4.size; simp; omega) ?_; intro v1 w5 hO5 hb5; have hbw5 := (hbw4.alloc hbw4.size (.cells #[.int .u8 ((dig (y : Int)).toNat : Int)] 5)).trans hb5))
      rw [← Hs1.out] at hO5
      go_roundw
      case rel => exact ⟨k + 1, by omega, by go_num, hO5, hbw5⟩
      case measure => simp [intOf] <;> omega
    · obtain rfl : k = s.size := by omega
      have hstr := run_str_own hO
      rw [show actP d zs s.data.toList s.size = actP d zs s.data.toList s.data.toList.length from by rw [Hsz.out]] at hstr
      clear HO HK HA
      go_wp2
      go_ret
      exact ⟨rfl, hbw⟩
end Go.Proofs.YticnpajbefflbadDoor

namespace Go.Proofs.YticnpajbefflbadDoor
open Go.RowKit

def allP (d n : Int) (ps : List (Value × List Int)) (k : Nat) : Bool := (ps.take k).all fun p => isP d.toNat n.toNat p.2
theorem allP_succ (d n : Int) (ps : List (Value × List Int)) (k : Nat) (hk : k < ps.length) : allP d n ps (k + 1) = (allP d n ps k && isP d.toNat n.toNat ps[k].2) := by
  unfold allP
  rw [List.take_succ_eq_append_getElem hk, List.all_append]
  simp
theorem allP_no (d n : Int) (ps : List (Value × List Int)) (k : Nat) (hk : k < ps.length) (h : isP d.toNat n.toNat ps[k].2 = false) : allP d n ps ps.length = false := by
  unfold allP
  rw [List.take_length, List.all_eq_false]
  exact ⟨ps[k], List.getElem_mem hk, by rw [h]; simp⟩
def codeQ (d n : Int) (ps : List (Value × List Int)) : Int := if isAlpha d && (decide (1 ≤ n) && decide (n ≤ 4)) then (if allP d n ps ps.length then 0 else 1) else 2
theorem codeQ_one (d n : Int) (v : Value) (zs : List Int) : codeQ d n [(v, zs)] = codeP d n zs := by
  unfold codeQ codeP allP
  simp
theorem sizes_same (d n : Int) : (isAlpha d && (decide (1 ≤ n) && decide (n ≤ 4))) = (decide (2 ≤ d ∧ d ≤ 3) && decide (1 ≤ n ∧ n ≤ 4)) := by
  have h1 : isAlpha d = decide (2 ≤ d ∧ d ≤ 3) := by
    rw [Bool.eq_iff_iff, isAlpha_iff, decide_eq_true_eq]; omega
  have h2 : decide (1 ≤ n ∧ n ≤ 4) = (decide (1 ≤ n) && decide (n ≤ 4)) := Bool.decide_and _ _
  rw [h1, h2]

set_option maxRecDepth 100000 in
set_option maxHeartbeats 1000000 in
theorem l03Code_calls (d n : Int) (v : Value) (ps : List (Value × List Int)) (hp : ps.length ≤ 100) (w : World) (hv : SeesL w v ps) :
    Calls Tryd.prog 8 #[.int .i64 d, .int .i64 n, v] w fun e w' => e = .returned (.int .i64 (codeQ d n ps)) ∧ Below w.heap.size w w' := by
  have Hv := Lib.hid hv
  obtain ⟨g, ca, rfl, hG, _⟩ := hv
  clear hG
  have HS := Lib.hid (fun W => l03Sizes_calls d n W)
  rw [← sizes_same] at HS
  cases hs : (isAlpha d && (decide (1 ≤ n) && decide (n ≤ 4)))
  · have Hr : Hid (codeQ d n ps = 2) := Lib.hid (by unfold codeQ; rw [hs]; rfl)
    rw [hs] at HS
    clear hs
    go_enter Tryd.func8, Tryd.ntmps8
    go_wp2_with (go_at_call 15; refine (HS.out _).mono ?_; rintro e w1 ⟨rfl, hb1⟩)
    go_ret
    exact ⟨ret_one Hr.out.symm, hb1⟩
  · have hh := hs
    simp only [Bool.and_eq_true, decide_eq_true_eq] at hh
    have hda := (isAlpha_iff d).1 hh.1
    have Hr : Hid (codeQ d n ps = if allP d n ps ps.length then 0 else 1) := Lib.hid (by unfold codeQ; rw [hs]; rfl)
    rw [hs] at HS
    obtain ⟨m, rfl⟩ := Int.eq_ofNat_of_zero_le (a := n) (by omega)
    obtain ⟨c, rfl⟩ := Int.eq_ofNat_of_zero_le (a := d) (by omega)
    have hc : c = 2 ∨ c = 3 := by omega
    have hm : m ≤ 4 := by omega
    have hm1 : 1 ≤ m := by omega
    clear hs hh hda
    go_enter Tryd.func8, Tryd.ntmps8
    go_wp2_with (go_at_call 15; refine (HS.out _).mono ?_; rintro e w1 ⟨rfl, hb1⟩)
    go_loopw [7] (fun i wr => ∃ k : Nat, k ≤ ps.length ∧ i = .int .i64 k ∧ Below w.heap.size w wr ∧ Hid (allP c m ps k = true)) (fun i _ => ps.length - (intOf i).toNat)
    case atStart => exact ⟨0, by omega, rfl, hb1, Lib.hid rfl⟩
    case round =>
      clear hb1
      obtain ⟨k, hk, rfl, hbw, HE⟩ := hrel
      by_cases hlt : k < ps.length
      · have hki : (k : Int) < ps.length := by omega
        obtain ⟨g', c', hv', hG, hss⟩ := Hv.out.below hbw
        simp only [Value.slice.injEq, Option.some.injEq, Addr.mk.injEq] at hv'
        have c0 := hG.cell k
        have hpk : (ps.map (·.1)).toArray[k]? = some ps[k].1 := by simp [hlt]
        rw [← hv'.1.1, hpk] at c0
        have HF := Lib.hid (l03Is_calls c m hc hm hm1 ps[k].1 ps[k].2 wr (hss k hlt))
        have Hs := Lib.hid (allP_succ c m ps k hlt)
        have Hno := Lib.hid (allP_no c m ps k hlt)
        rw [HE.out, Bool.true_and] at Hs
        rw [Int.toNat_natCast, Int.toNat_natCast] at Hs Hno
        clear hG hss hv' hpk
        generalize ps[k].1 = pv at *
        cases hi : isP c m ps[k].2
        · have Hn := Lib.hid (Hno.out hi)
          rw [hi] at HF
          clear hi
          go_wp2_with (go_at_call 16; refine HF.out.mono ?_; rintro e w6 ⟨rfl, hb6⟩)
          go_ret
          exact ⟨ret_one (by rw [Hr.out, Hn.out]; rfl), below_step hbw hb6⟩
        · rw [hi] at HF Hs
          clear hi
          go_wp2_with (go_at_call 16; refine HF.out.mono ?_; rintro e w6 ⟨rfl, hb6⟩)
          go_roundw
          case rel => exact ⟨k + 1, by omega, by go_num, below_step hbw hb6, Hs⟩
          case measure => simp [intOf] <;> omega
      · obtain rfl : k = ps.length := by omega
        go_wp2
        go_ret
        exact ⟨ret_one (by rw [Hr.out, HE.out]; rfl), hbw⟩

set_option maxRecDepth 100000 in
set_option maxHeartbeats 1000000 in
theorem checkLists_calls (d n : Int) (v : Value) (ps : List (Value × List Int)) (hp : ps.length ≤ 100) (w : World) (hv : SeesL w v ps) :
    Calls Tryd.prog 12 #[.int .i64 d, .int .i64 n, v] w fun e w' => e = .returned (.int .i64 (codeQ d n ps)) ∧ Below w.heap.size w w' := by
  have Hv := Lib.hid hv
  obtain ⟨g, ca, rfl, hG, _⟩ := hv
  clear hG
  cases ha : isAlpha d
  · have Hr : Hid (codeQ d n ps = 2) := Lib.hid (by unfold codeQ; rw [ha]; rfl)
    have Ha := Lib.hid ha; clear ha
    go_enter Tryd.func12, Tryd.ntmps12
    go_wp2_with (go_at_call 21; refine (isAlphabet_calls d _).mono ?_; rintro e w' ⟨rfl, rfl⟩; rw [Ha.out])
    go_ret
    exact ⟨ret_one Hr.out.symm, by (repeat (first | exact Below.refl _ _ | refine below_drew' ?_ | refine below_drewN' ?_ _ | refine below_alloc' ?_ _ | refine below_set' ?_ (by (try simp); (try omega)) _ | refine below_step ?_ (by assumption)))⟩
  · cases hd : (decide (1 ≤ n) && decide (n ≤ 4))
    · have Hr : Hid (codeQ d n ps = 2) := Lib.hid (by unfold codeQ; rw [ha, hd]; rfl)
      have Ha := Lib.hid ha; clear ha
      have Hd := Lib.hid hd; clear hd
      go_enter Tryd.func12, Tryd.ntmps12
      go_wp2_with (first | (go_at_call 21; refine (isAlphabet_calls d _).mono ?_; rintro e w' ⟨rfl, rfl⟩; rw [Ha.out]) | (go_at_call 22; refine (isDepth_calls n _).mono ?_; rintro e w' ⟨rfl, rfl⟩; rw [Hd.out]))
      go_ret
      exact ⟨ret_one Hr.out.symm, by (repeat (first | exact Below.refl _ _ | refine below_drew' ?_ | refine below_drewN' ?_ _ | refine below_alloc' ?_ _ | refine below_set' ?_ (by (try simp); (try omega)) _ | refine below_step ?_ (by assumption)))⟩
    · have hn4 : 1 ≤ n ∧ n ≤ 4 := by simpa using hd
      have hda := (isAlpha_iff d).1 ha
      have Hr : Hid (codeQ d n ps = if allP d n ps ps.length then 0 else 1) := Lib.hid (by unfold codeQ; rw [ha, hd]; rfl)
      have Ha := Lib.hid ha; clear ha
      have Hd := Lib.hid hd; clear hd
      obtain ⟨m, rfl⟩ := Int.eq_ofNat_of_zero_le (a := n) (by omega)
      obtain ⟨c, rfl⟩ := Int.eq_ofNat_of_zero_le (a := d) (by omega)
      have hc : c = 2 ∨ c = 3 := by omega
      have hm : m ≤ 4 := by omega
      have hm1 : 1 ≤ m := by omega
      clear hn4 hda
      go_enter Tryd.func12, Tryd.ntmps12
      go_wp2_with (first | (go_at_call 21; refine (isAlphabet_calls c _).mono ?_; rintro e w' ⟨rfl, rfl⟩; rw [Ha.out]) | (go_at_call 22; refine (isDepth_calls m _).mono ?_; rintro e w' ⟨rfl, rfl⟩; rw [Hd.out]))
      go_loopw [19] (fun i wr => ∃ k : Nat, k ≤ ps.length ∧ i = .int .i64 k ∧ Below w.heap.size w wr ∧ Hid (allP c m ps k = true)) (fun i _ => ps.length - (intOf i).toNat)
      case atStart => exact ⟨0, by omega, rfl, Below.refl _ _, Lib.hid rfl⟩
      case round =>
        obtain ⟨k, hk, rfl, hbw, HE⟩ := hrel
        by_cases hlt : k < ps.length
        · have hki : (k : Int) < ps.length := by omega
          obtain ⟨g', c', hv', hG, hss⟩ := Hv.out.below hbw
          simp only [Value.slice.injEq, Option.some.injEq, Addr.mk.injEq] at hv'
          have c0 := hG.cell k
          have hpk : (ps.map (·.1)).toArray[k]? = some ps[k].1 := by simp [hlt]
          rw [← hv'.1.1, hpk] at c0
          have HF := Lib.hid (isPortraitOf_calls c m hc hm hm1 ps[k].1 ps[k].2 wr (hss k hlt))
          have Hs := Lib.hid (allP_succ c m ps k hlt)
          have Hno := Lib.hid (allP_no c m ps k hlt)
          rw [HE.out, Bool.true_and] at Hs
          rw [Int.toNat_natCast, Int.toNat_natCast] at Hs Hno
          clear hG hss hv' hpk
          generalize ps[k].1 = pv at *
          cases hi : isP c m ps[k].2
          · have Hn := Lib.hid (Hno.out hi)
            rw [hi] at HF
            clear hi
            go_wp2_with (go_at_call 23; refine HF.out.mono ?_; rintro e w6 ⟨rfl, hb6⟩)
            go_ret
            exact ⟨ret_one (by rw [Hr.out, Hn.out]; rfl), below_step hbw hb6⟩
          · rw [hi] at HF Hs
            clear hi
            go_wp2_with (go_at_call 23; refine HF.out.mono ?_; rintro e w6 ⟨rfl, hb6⟩)
            go_roundw
            case rel => exact ⟨k + 1, by omega, by go_num, below_step hbw hb6, Hs⟩
            case measure => simp [intOf] <;> omega
        · obtain rfl : k = ps.length := by omega
          go_wp2
          go_ret
          exact ⟨ret_one (by rw [Hr.out, HE.out]; rfl), hbw⟩

theorem ret_st {s s' : ByteArray} {m m' : Int} (hs : s = s') (h : m = m') : Ending.returned (.tuple #[.string s, .int .i64 m]) = Ending.returned (.tuple #[.string s', .int .i64 m']) := by rw [hs, h]
/-- What 'ActPortrait' answers. -/
def actR (d n : Int) (zs : List Int) (s : ByteArray) : ByteArray := if codeW d n zs s n = 0 then actS d.toNat zs s else ByteArray.empty
theorem codeW_zero (d n : Int) (zs : List Int) (s : ByteArray) (most : Int) (h : codeW d n zs s most = 0) : codeP d n zs = 0 ∧ lettersL d.toNat s.data.toList = true ∧ (s.data.toList.length : Int) ≤ most := by
  unfold codeW at h
  split at h
  · rename_i h1
    split at h
    · rename_i h2
      split at h
      · omega
      · rename_i h3
        rw [size_list s] at h3
        exact ⟨h1, ((wordB_iff _ _).1 h2).2, by omega⟩
    · omega
  · omega

end Go.Proofs.YticnpajbefflbadDoor
