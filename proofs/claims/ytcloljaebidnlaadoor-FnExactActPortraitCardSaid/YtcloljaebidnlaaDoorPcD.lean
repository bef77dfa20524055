/- 'ActPortrait': the model. -/
import Derived.Test.YtcloljaebidnlaaDoorPcC
import Derived.Test.YtcloljaebidnlaaDoorPcB
import Derived.Test.YtcloljaebidnlaaDoorPtS
import Derived.Test.YtcloljaebidnlaaDoorPnS
namespace Go.Proofs.YtcloljaebidnlaaDoor
open Go.RowKit

theorem rows_same (d k x : Nat) (hd : d = 2 ∨ d = 3) (hk : k < cN d) (hx : x < d) : (sRow d k).getD x 0 = (pRow d k).getD x 0 := by
  have h2 : ∀ k, k < 2 → ∀ x, x < 2 → (sRow 2 k).getD x 0 = (pRow 2 k).getD x 0 := by decide
  have h3 : ∀ k, k < 6 → ∀ x, x < 3 → (sRow 3 k).getD x 0 = (pRow 3 k).getD x 0 := by decide
  rcases hd with rfl | rfl
  · exact h2 k hk x hx
  · exact h3 k hk x hx

set_option maxRecDepth 100000 in
set_option maxHeartbeats 1000000 in
theorem l03At_calls (d n : Nat) (hd : d = 2 ∨ d = 3) (hn : n ≤ 4) (zs : List Int) (hP : isP d n zs = true) (v : Value) (s : ByteArray) (hs : s.data.toList.length < n) (hl : lettersL d s.data.toList = true) (w : World) (hv : SeesI w v zs) :
    Calls Tryd.prog 37 #[.int .i64 d, v, .string s] w fun e w' => e = .returned (.int .i64 (kAt d zs s.data.toList : Int)) ∧ w = w' := by
  have hd3 : d ≤ 3 := by omega
  obtain ⟨oa, ca, hve, _⟩ := hv.view
  subst hve
  obtain ⟨p, hp, hpz, hzk, hkc⟩ := kAt_ok d n zs s.data.toList hP hs hl hd3 hn
  obtain ⟨g, hg, hgl, hcz⟩ := hv.at p hpz
  subst hg
  rw [hzk] at hcz
  have h1 := sumP_bd d hd3 s.data.toList.length (by omega)
  have h2 := numI_lt d s.data.toList hl
  have h3 := pw_bd d s.data.toList.length hd3 (by omega)
  have hwr : IntKind.i64.wrap (sumP d s.data.toList.length + numI d s.data.toList) = (p : Int) := by rw [← hp]; exact IntWalk.i64_in _ (by omega)
  have hpi : (p : Int) < zs.length := by omega
  have HS := Lib.hid (fun W => l03Start_calls d s.data.toList.length hd3 (by omega) W)
  have HN := Lib.hid (fun W => l01NumberOf_calls d s hd3 (by omega) hl W)
  have hsz : s.size = s.data.toList.length := size_list s
  rw [← hsz] at HS hwr
  clear h1 h2 h3 hsz hp hv hzk
  generalize kAt d zs s.data.toList = kk at *
  generalize sumP d s.size = P at *
  generalize numI d s.data.toList = N at *
  go_enter Tryd.func37, Tryd.ntmps37
  go_wp2_with (first | (go_at_call 28; refine (HS.out _).mono ?_; rintro e w3 ⟨rfl, rfl⟩) | (go_at_call 47; refine (HN.out _).mono ?_; rintro e w4 ⟨rfl, rfl⟩))
  go_ret
  exact ⟨rfl, rfl⟩

set_option maxRecDepth 100000 in
set_option maxHeartbeats 1000000 in
theorem l03Act_calls (d n : Nat) (hd : d = 2 ∨ d = 3) (hn : n ≤ 4) (zs : List Int) (hP : isP d n zs = true) (v : Value) (s : ByteArray) (hs : s.data.toList.length ≤ n) (hl : lettersL d s.data.toList = true) (w : World) (hv : SeesI w v zs) :
    Calls Tryd.prog 24 #[.int .i64 d, v, .string s] w fun e w' => e = .returned (.string (actS d zs s)) ∧ Below w.heap.size w w' := by
  obtain ⟨oa, ca, hve, _⟩ := hv.view
  subst hve
  have hsz : s.size = s.data.toList.length := size_list s
  have Hsz := Lib.hid hsz; clear hsz
  have hs4 : s.size ≤ 4 := by rw [Hsz.out]; omega
  have Hi3 := info_b3
  have hz3 := (zero_of_info Hi3).1
  have hs3 := Lib.hid (zero_of_info Hi3).2
  clear Hi3
  have HO := Lib.hid (ptL_ok d n hd hn zs hP s.data.toList hl)
  have HK := Lib.hid (fun k (hk : k < s.data.toList.length) => kAt_ok d n zs (s.data.toList.take k) hP (by rw [List.length_take]; omega) (lettersL_pre d _ k hl) (by omega) hn)
  have HA := Lib.hid (fun k (hk : k < s.data.toList.length) W h1 => l03At_calls d n hd hn zs hP (.slice oa zs.length ca) (s.extract 0 k) (by rw [ext_list, List.length_take]; omega) (by rw [ext_list]; exact lettersL_pre d _ k hl) W h1)
  have HL := Lib.hid hl; clear hl
  have HV := Lib.hid hv
  have hbw0 : Below w.heap.size w (w.alloc (.cells #[] 5)) := by (repeat (first | exact Below.refl _ _ | refine below_drew' ?_ | refine below_drewN' ?_ _ | refine below_alloc' ?_ _ | refine below_set' ?_ (by (try simp); (try omega)) _ | refine below_step ?_ (by assumption)))
  have hO0 : OwnB (w.alloc (.cells #[] 5)) w.heap.size (.slice (some ⟨w.heap.size, 0, none⟩) 0 0) [] := OwnB.empty w _ 0 #[] (Nat.le_refl _) (by unfold maxLen; omega) rfl
  clear hv hP
  go_enter Tryd.func24, Tryd.ntmps24
  go_wp2_with fail
  go_loopw [7, 8] (fun o i wr => ∃ k : Nat, k ≤ s.size ∧ i = .int .i64 k ∧ OwnB wr w.heap.size o (actP d zs s.data.toList k) ∧ Below w.heap.size w wr) (fun _ i _ => s.size - (intOf i).toNat)
  case atStart => exact ⟨0, by omega, rfl, hO0, hbw0⟩
  case round =>
    clear hO0 hbw0
    obtain ⟨k, hk, rfl, hO, hbw⟩ := hrel
    by_cases hlt : k < s.size
    · have hlt' : k < s.data.toList.length := by rw [← Hsz.out]; exact hlt
      have hki : (k : Int) < s.size := by omega
      obtain ⟨h48, h51⟩ := lettersL_at HL.out k hlt'
      have he : s.data.toList[k] = s[k] := rfl
      obtain ⟨x, hx⟩ : ∃ x : Nat, s[k].toNat = 48 + x := ⟨s[k].toNat - 48, by rw [he] at h48; omega⟩
      obtain ⟨o1, o2, o3⟩ := HO.out k x hlt' (by omega) (by rw [he]; exact hx)
      obtain ⟨_, _, _, _, hkc⟩ := HK.out k hlt'
      have hx' : (s[k].toNat : Int) = 48 + (x : Int) := by omega
      have hw48 : IntKind.u8.wrap (48 + (x : Int) - 48) = (x : Int) := by simp [IntKind.wrap, IntKind.bits, IntKind.signed]; omega
      have hdig := dig_toNat (ptL d zs s.data.toList k : Int) (by omega) (by omega)
      have hw8 : IntKind.u8.wrap (48 + (ptL d zs s.data.toList k : Int)) = ((dig (ptL d zs s.data.toList k : Int)).toNat : Int) := by rw [hdig]; simp [IntKind.wrap, IntKind.bits, IntKind.signed]; omega
      have Hs1 := Lib.hid (actP_succ d zs s.data.toList k)
      have Hln := Lib.hid (actP_len d zs s.data.toList k)
      have HAk := Lib.hid (fun W h => HA.out k hlt' W h)
      rw [ext_list] at HAk
      have r1 := (sRow_ok d _ hd hkc).1
      have e1 := u8s_at (sRow d (kAt d zs (s.data.toList.take k))) x (by omega)
      rw [rows_same d _ x hd hkc o1, show (pRow d (kAt d zs (s.data.toList.take k))).getD x 0 = (ptL d zs s.data.toList k : Int) from by
        obtain ⟨p1, p2⟩ := pRow_ok d _ hd hkc
        rw [u8s_at _ x (by omega)] at o2
        simpa using o2] at e1
      have HI := Lib.hid (fun W => l03Images_calls d _ hd hkc W)
      have Hsr : Hid ((u8s (sRow d (kAt d zs (s.data.toList.take k)))).size = 3) := Lib.hid (by rw [u8s_size, r1])
      have H1 : Hid ((u8s (sRow d (kAt d zs (s.data.toList.take k)))).all (·.oneCell') = true) := Lib.hid (u8s_one _)
      clear hdig h48 h51 he HO o2 r1 HK HA
      generalize actP d zs s.data.toList k = cur at *
      generalize ptL d zs s.data.toList k = y at *
      generalize kAt d zs (s.data.toList.take k) = kk at *
      generalize u8s (sRow d kk) = row at *
      have Hs3 : Hid ((Tryd.prog.info? 35).map (·.size) = some row.size) := Lib.hid (by rw [Hsr.out]; exact hs3.out)
      have Hf3 : Hid (0 + row.size ≤ (u8s [0, 0, 0]).size) := Lib.hid (by rw [Hsr.out]; exact Nat.le_refl 3)
      have Ho : Hid (over (u8s [0, 0, 0]) 0 row = row) := Lib.hid (over_all _ _ (by rw [Hsr.out]; rfl))
      have hx3 : x < 3 := by omega
      have hx3i : (x : Int) < 3 := by omega
      go_wp2_with (first | (go_at_call 37; refine (HAk.out _ (HV.out.below hbw)).mono ?_; rintro e w' ⟨rfl, rfl⟩) | (go_at_call 34; refine (HI.out _).mono ?_; rintro e w3 ⟨rfl, hb3⟩; have hR3 : Blk (w3.alloc (.cells (u8s [0, 0, 0]) 35)) w3.heap.size (u8s [0, 0, 0]) 35 := Blk.new _ _ _; have hbr3 := hb3.alloc hb3.size (.cells (u8s [0, 0, 0]) 35); have hs3' := hb3.size) | (with_reducible show wpList _ _ _ _ _ _; refine wpList_store_row rfl 35 _ _ rfl w3.heap.size 0 row rfl rfl _ _ hR3 Hf3.out Hs3.out H1.out _ Ho.out ?_; intro w4 hs4; have cR := hs4.blk.cell x; rw [e1] at cR; have hbr4 := hs4.below _ _ hs3' hbr3; have hO4 := hO.below hbr4; have hbw4 := below_step hbw hbr4) | (at_builtin; refine wpList_push_byte rfl (.tmp 25) (.tmp 33) rfl w.heap.size _ cur rfl (hO4.below (Below.alloc (Below.refl _ _) (Nat.le_refl _) (.cells #[.int .u8 ((dig (y : Int)).toNat : Int)] 5))) w4.heap.size 1 (dig (y : Int)) rfl (Blk.new w4 _ _) (by rw [Hln.out]; omega) (by have := hbw4.size; simp; omega) ?_; intro v1 w5 hO5 hb5; have hbw5 := (hbw4.alloc hbw4.size (.cells #[.int .u8 ((dig (y : Int)).toNat : Int)] 5)).trans hb5))
      rw [← Hs1.out] at hO5
      go_roundw
      case rel => exact ⟨k + 1, by omega, by go_num, hO5, hbw5⟩
      case measure => simp [intOf] <;> omega
    · obtain rfl : k = s.size := by omega
      have hstr := run_str_own hO
      rw [show actP d zs s.data.toList s.size = actP d zs s.data.toList s.data.toList.length from by rw [Hsz.out]] at hstr
      clear HO HK HA
      go_wp2
      go_ret
      exact ⟨rfl, hbw⟩
end Go.Proofs.YtcloljaebidnlaaDoor
