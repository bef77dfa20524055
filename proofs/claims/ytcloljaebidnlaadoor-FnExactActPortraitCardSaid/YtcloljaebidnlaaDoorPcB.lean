/- Portraits lead words: the program's 'lead'. -/
import Derived.Test.YtcloljaebidnlaaDoorPcA
import Derived.Test.YtcloljaebidnlaaDoorLedP
namespace Go.Proofs.YtcloljaebidnlaaDoor
open Go.RowKit

theorem ext_list (s : ByteArray) (k : Nat) : (s.extract 0 k).data.toList = s.data.toList.take k := by
  rw [ByteArray.data_extract, Array.toList_extract]
  simp
/-- A letter of a permutation at hand. -/
theorem run_index_perm (l : List Int) (w : World) (x : Nat) (hx : x < 3) (v : Value) (hv : (u8s l)[x]? = some v) : (Instr.index 41 (.agg (u8s l)) (.int .u8 x)).run Tryd.prog w = .ok v w := by
  have hu := Tryd.underlying41
  have h1 : Tryd.t5.size = 1 := by kernel_rfl
  simp only [Instr.index, asIntOf, go_sem, Go.part, Go.sizeOf]
  simp [go_sem, h1, hv, hx, Nat.mul_one]
/-- The letter to which a portrait leads the letter i of a word. -/
def ptL (d : Nat) (zs : List Int) (l : List UInt8) (i : Nat) : Nat := ((pRow d (kAt d zs (l.take i))).getD ((l.getD i 0).toNat - 48) 0).toNat
def actP (d : Nat) (zs : List Int) (l : List UInt8) (k : Nat) : List UInt8 := (List.range k).map fun i => dig (ptL d zs l i : Int)
theorem actP_len (d : Nat) (zs : List Int) (l : List UInt8) (k : Nat) : (actP d zs l k).length = k := by simp [actP]
theorem actP_succ (d : Nat) (zs : List Int) (l : List UInt8) (k : Nat) : actP d zs l (k + 1) = actP d zs l k ++ [dig (ptL d zs l k : Int)] := by simp [actP, List.range_succ]
def actS (d : Nat) (zs : List Int) (s : ByteArray) : ByteArray := ⟨(actP d zs s.data.toList s.data.toList.length).toArray⟩
theorem lettersL_pre (d : Nat) (l : List UInt8) (k : Nat) (h : lettersL d l = true) : lettersL d (l.take k) = true := by
  unfold lettersL at *
  rw [List.all_eq_true] at *
  exact fun x hx => h x (List.mem_of_mem_take hx)
theorem ptL_ok (d n : Nat) (hd : d = 2 ∨ d = 3) (hn : n ≤ 4) (zs : List Int) (hP : isP d n zs = true) (l : List UInt8) (hl : lettersL d l = true) (i x : Nat) (hi : i < l.length) (hin : i < n) (hx : l[i].toNat = 48 + x) :
    x < d ∧ (u8s (pRow d (kAt d zs (l.take i))))[x]? = some (.int .u8 (ptL d zs l i : Int)) ∧ ptL d zs l i ≤ 2 := by
  obtain ⟨h1, h2⟩ := lettersL_at hl i hi
  have hxd : x < d := by omega
  obtain ⟨p, _, _, _, hk⟩ := kAt_ok d n zs (l.take i) hP (by rw [List.length_take]; omega) (lettersL_pre d l i hl) (by omega) hn
  obtain ⟨r1, r2⟩ := pRow_ok d _ hd hk
  have r3 := r2 x (by omega)
  have e : ptL d zs l i = ((pRow d (kAt d zs (l.take i))).getD x 0).toNat := by
    unfold ptL
    rw [show (l.getD i 0) = l[i] from by simp [List.getD, List.getElem?_eq_getElem hi], hx]
    congr 2; omega
  refine ⟨hxd, ?_, by omega⟩
  rw [u8s_at _ x (by omega), e]
  congr 2; omega

set_option maxRecDepth 100000 in
set_option maxHeartbeats 1000000 in
theorem lead_calls (d n : Nat) (hd : d = 2 ∨ d = 3) (hn : n ≤ 4) (zs : List Int) (hP : isP d n zs = true) (v : Value) (s : ByteArray) (hs : s.data.toList.length ≤ n) (hl : lettersL d s.data.toList = true) (w : World) (hv : SeesI w v zs) (hT : TabsAt w) :
    Calls Tryd.prog 26 #[.agg #[.int .i64 d, v], .string s] w fun e w' => e = .returned (.string (actS d zs s)) ∧ Below w.heap.size w w' := by
  obtain ⟨oa, ca, hve, _⟩ := hv.view
  subst hve
  have hsz : s.size = s.data.toList.length := size_list s
  have Hsz := Lib.hid hsz; clear hsz
  have hs4 : s.size ≤ 4 := by rw [Hsz.out]; omega
  have hmk := mk_im s.size (by omega)
  have hsP := Lib.hid (show (Tryd.prog.info? 47).map (·.size) = some 2 by kernel_rfl)
  have Hcut : Hid (cut (#[.int .i64 d, .slice oa zs.length ca] : Array Value) 0 2 = #[.int .i64 d, .slice oa zs.length ca]) := Lib.hid rfl
  have Hfit : Hid (0 + 2 ≤ (#[.int .i64 d, .slice oa zs.length ca] : Array Value).size) := Lib.hid (Nat.le_refl 2)
  have HO := Lib.hid (ptL_ok d n hd hn zs hP s.data.toList hl)
  have HA := Lib.hid (fun k (hk : k < s.data.toList.length) W h1 h2 => at_calls d n hd hn zs hP (.slice oa zs.length ca) (s.extract 0 k) (by rw [ext_list, List.length_take]; omega) (by rw [ext_list]; exact lettersL_pre d _ k hl) W h1 h2)
  have HL := Lib.hid hl; clear hl
  have HV := Lib.hid hv
  have HT := Lib.hid hT
  have hB0 : Blk ((w.alloc (.cells #[.int .i64 d, .slice oa zs.length ca] 47)).alloc (.cells (imC s.size []) 5)) w.heap.size #[.int .i64 d, .slice oa zs.length ca] 47 := (Blk.new w _ _).alloc _
  have hC0 : Blk ((w.alloc (.cells #[.int .i64 d, .slice oa zs.length ca] 47)).alloc (.cells (imC s.size []) 5)) (w.heap.size + 1) (imC s.size []) 5 := Blk.new_at _ _ _ _ (by simp)
  have hbw0 : Below w.heap.size w ((w.alloc (.cells #[.int .i64 d, .slice oa zs.length ca] 47)).alloc (.cells (imC s.size []) 5)) := by (repeat (first | exact Below.refl _ _ | refine below_drew' ?_ | refine below_drewN' ?_ _ | refine below_alloc' ?_ _ | refine below_set' ?_ (by (try simp); (try omega)) _ | refine below_step ?_ (by assumption)))
  clear hv hT
  have hmk2 := hmk (w.alloc (.cells #[.int .i64 d, .slice oa zs.length ca] 47))
  clear hmk
  rw [show (w.alloc (.cells #[.int .i64 d, .slice oa zs.length ca] 47)).heap.size = w.heap.size + 1 from by simp] at hmk2
  go_enter Tryd.func26, Tryd.ntmps26
  go_wp2_with fail
  clear hmk2
  go_loopw [12] (fun i wr => ∃ k : Nat, k ≤ s.size ∧ i = .int .i64 k ∧ Blk wr w.heap.size #[.int .i64 d, .slice oa zs.length ca] 47 ∧ Blk wr (w.heap.size + 1) (imC s.size (actP d zs s.data.toList k)) 5 ∧ Below w.heap.size w wr) (fun i _ => s.size - (intOf i).toNat)
  case atStart => exact ⟨0, by omega, rfl, hB0, hC0, hbw0⟩
  case round =>
    clear hB0 hC0 hbw0
    obtain ⟨k, hk, rfl, hB, hC, hbw⟩ := hrel
    by_cases hlt : k < s.size
    · have hlt' : k < s.data.toList.length := by rw [← Hsz.out]; exact hlt
      have hki : (k : Int) < s.size := by omega
      obtain ⟨h48, h51⟩ := lettersL_at HL.out k hlt'
      have he : s.data.toList[k] = s[k] := rfl
      obtain ⟨x, hx⟩ : ∃ x : Nat, s[k].toNat = 48 + x := ⟨s[k].toNat - 48, by rw [he] at h48; omega⟩
      obtain ⟨o1, o2, o3⟩ := HO.out k x hlt' (by omega) (by rw [he]; exact hx)
      have hx' : (s[k].toNat : Int) = 48 + (x : Int) := by omega
      have hw48 : IntKind.u8.wrap (48 + (x : Int) - 48) = (x : Int) := by simp [IntKind.wrap, IntKind.bits, IntKind.signed]; omega
      have hdig := dig_toNat (ptL d zs s.data.toList k : Int) (by omega) (by omega)
      have hw8 : IntKind.u8.wrap (48 + (ptL d zs s.data.toList k : Int)) = 48 + (ptL d zs s.data.toList k : Int) := by simp [IntKind.wrap, IntKind.bits, IntKind.signed]; omega
      have Hset : Hid ((imC s.size (actP d zs s.data.toList k)).setIfInBounds k (.int .u8 (48 + (ptL d zs s.data.toList k : Int))) = imC s.size (actP d zs s.data.toList (k + 1))) := Lib.hid (by
        have := imC_set s.size (actP d zs s.data.toList k) (dig (ptL d zs s.data.toList k : Int)) (by rw [actP_len]; exact hlt)
        rw [actP_len, hdig] at this
        rw [this, actP_succ])
      have hcs : (imC s.size (actP d zs s.data.toList k)).size = s.size := imC_size _ _ (by rw [actP_len]; omega)
      have hix := fun W => run_index_perm (pRow d (kAt d zs (s.data.toList.take k))) W x (by omega) _ o2
      have HAk := Lib.hid (HA.out k hlt')
      rw [ext_list] at HAk
      clear hdig o2 h48 h51 he HO
      generalize imC s.size (actP d zs s.data.toList k) = ic at *
      generalize ptL d zs s.data.toList k = y at *
      generalize u8s (pRow d (kAt d zs (s.data.toList.take k))) = row at *
      have hold : ic[k]? = some (ic[k]'(by omega)) := Array.getElem?_eq_getElem _
      generalize ic[k]'(by omega) = old at hold
      have hdr : Below wr.heap.size wr wr.drew := (Below.refl _ _).drew
      have hBd := hB.keptAll hdr
      have hCd := hC.keptAll hdr
      have hbd := below_step hbw hdr
      clear hB hC hbw hdr
      go_wp2_with fail
      refine wp_region_held_drew (S := fun W => Blk W w.heap.size #[.int .i64 d, .slice oa zs.length ca] 47) (by kernel_rfl) hBd (fun hS0 => ?_)
      (refine hK_take 0 (.slice (some ⟨w.heap.size + 1, 0, none⟩) s.size s.size) rfl (by kernel_rfl) (by kernel_rfl) (by kernel_rfl) (fun _ _ _ h => h) rfl (fun W _ => by go_simp) hS0 ?_; (intro K hK; go_simp; refine hK _ ?_; clear hK K))
      (refine hK_take 1 (.int .i64 (k : Int)) rfl (by kernel_rfl) (by kernel_rfl) (by kernel_rfl) (fun _ _ _ h => h) rfl (fun W _ => by go_simp) hS0 ?_; (intro K hK; go_simp; refine hK _ ?_; clear hK K))
      (refine hK_load 2 rfl (by kernel_rfl) (by kernel_rfl) (by kernel_rfl) 47 _ rfl w.heap.size 0 rfl #[.int .i64 d, .slice oa zs.length ca] _ (fun W hW => hW) 2 Hfit.out _ Tryd.underlying47 rfl hsP.out _ Hcut.out (fun _ _ _ h => h) rfl hS0 ?_; (intro K hK; go_simp; refine hK _ ?_; clear hK K))
      (refine hK_take 3 (.string s) rfl (by kernel_rfl) (by kernel_rfl) (by kernel_rfl) (fun _ _ _ h => h) rfl (fun W _ => by go_simp) hS0 ?_; (intro K hK; go_simp; refine hK _ ?_; clear hK K))
      (refine hK_take 4 (.int .i64 (k : Int)) rfl (by kernel_rfl) (by kernel_rfl) (by kernel_rfl) (fun _ _ _ h => h) rfl (fun W _ => by go_simp) hS0 ?_; (intro K hK; go_simp; refine hK _ ?_; clear hK K))
      (refine hK_take 5 (.string (s.extract 0 k)) rfl (by kernel_rfl) (by kernel_rfl) (by kernel_rfl) (fun _ _ _ h => h) rfl (fun W _ => by go_simp) hS0 ?_; (intro K hK; go_simp; refine hK _ ?_; clear hK K))
      (refine hK_take 7 (.string s) rfl (by kernel_rfl) (by kernel_rfl) (by kernel_rfl) (fun _ _ _ h => h) rfl (fun W _ => by go_simp) hS0 ?_; (intro K hK; go_simp; refine hK _ ?_; clear hK K))
      (refine hK_take 8 (.int .i64 (k : Int)) rfl (by kernel_rfl) (by kernel_rfl) (by kernel_rfl) (fun _ _ _ h => h) rfl (fun W _ => by go_simp) hS0 ?_; (intro K hK; go_simp; refine hK _ ?_; clear hK K))
      (refine hK_take 9 (.int .u8 (s[k].toNat : Int)) rfl (by kernel_rfl) (by kernel_rfl) (by kernel_rfl) (fun _ _ _ h => h) rfl (fun W _ => by go_simp) hS0 ?_; (intro K hK; go_simp; refine hK _ ?_; clear hK K))
      (refine hK_take 10 (.int .u8 (x : Int)) rfl (by kernel_rfl) (by kernel_rfl) (by kernel_rfl) (fun _ _ _ h => h) rfl (fun W _ => by go_simp) hS0 ?_; (intro K hK; go_simp; refine hK _ ?_; clear hK K))
      (refine wpAnyH_ready (rs := [6]) (by kernel_rfl) (by simp) ?_; refine AllReadyH.cons rfl (fun K hK => ?_) AllReadyH.nil); go_simp; refine (HAk.out _ (HV.out.below hbd) (HT.out.below hbd)).mono ?_; rintro e w3 ⟨rfl, hb3⟩; have hB3 : Blk w3 _ _ _ := Blk.keptAll hS0 hb3; have hC3 := hCd.keptAll hb3; have hbw3 := below_step hbd hb3
      (go_simp; refine hK.out _ _ (hB3) (fun hS1 => ?_); clear hK K)
      (refine hK_take 11 (.int .u8 (y : Int)) rfl (by kernel_rfl) (by kernel_rfl) (by kernel_rfl) (fun _ _ _ h => h) rfl (fun W _ => by go_simp) hS1 ?_; (intro K hK; go_simp; refine hK _ ?_; clear hK K))
      (refine hK_take 12 (.int .u8 (48 + (y : Int))) rfl (by kernel_rfl) (by kernel_rfl) (by kernel_rfl) (fun _ _ _ h => h) rfl (fun W _ => by go_simp) hS1 ?_; (intro K hK; go_simp; refine hK _ ?_; clear hK K))
      (refine hK_take 13 (.pointer (some ⟨w.heap.size + 1, k, none⟩)) rfl (by kernel_rfl) (by kernel_rfl) (by kernel_rfl) (fun _ _ _ h => h) rfl (fun W _ => by go_simp) hS1 ?_; (intro K hK; go_simp; refine hK _ ?_; clear hK K))
      refine wpAnyH_ready (rs := [14]) (by kernel_rfl) (by simp) ?_
      refine AllReadyH.cons rfl (fun K hK => ?_) AllReadyH.nil
      have cC := hC3.cell
      have fC := hC3.free
      have hC5 := hC3.set k (.int .u8 (48 + (y : Int)))
      have hB5 := hB3.setOther (w.heap.size + 1) k (.int .u8 (48 + (y : Int))) (by omega)
      have hbw5 := below_set' (o := k) hbw3 (b := w.heap.size + 1) (by omega) (.int .u8 (48 + (y : Int)))
      rw [Hset.out] at hC5
      go_simp
      refine hK.out _ _ hB5 (fun hS3 => ?_)
      clear hK K
      refine wpAnyH_done (by kernel_rfl) ?_ _
      clear cC fC
      go_wp2
      go_roundw
      case rel => exact ⟨k + 1, by omega, by go_num, hB5, hC5, hbw5⟩
      case measure => simp [intOf] <;> omega
    · obtain rfl : k = s.size := by omega
      rw [imC_done _ _ (actP_len _ _ _ _)] at hC
      have hstr := run_str_block (P := Tryd.prog) wr 60 9 5 (w.heap.size + 1) s.size s.size _ _ _ Tryd.underlying60 Tryd.underlying5 Tryd.underlying9 (actP_len _ _ _ _) hC rfl
      go_wp2
      go_ret
      exact ⟨by rw [Hsz.out]; rfl, hbw⟩
end Go.Proofs.YtcloljaebidnlaaDoor
