/- Words led by group words: the model's 'l02Act'. -/
import Derived.Test.YtlclhjpnnlgjfaaLedT
import Derived.Test.YtlclhjpnnlgjfaaHeldK
namespace Go.Proofs.Ytlclhjpnnlgjfaa
open Go.RowKit

theorem OwnI.kept_at {w w' : World} {base : Nat} {v : Value} {zs : List Int} (h : OwnI w base v zs) (hs : ∀ k, v.ownBlock = some k → w'.heap[k]? = w.heap[k]?) : OwnI w' base v zs := by
  refine ⟨h.1, ?_⟩
  rcases h.2 with h2 | ⟨g, cap, cur, hv', hg, hh, r⟩
  · exact Or.inl h2
  · exact Or.inr ⟨g, cap, cur, hv', hg, by rw [hs g (by rw [hv']; rfl)]; exact hh, r⟩
theorem OwnI.ge {w : World} {base : Nat} {v : Value} {zs : List Int} (h : OwnI w base v zs) : ∀ k, v.ownBlock = some k → base ≤ k := fun k hk => (World.ownsRow.lt h k hk).1
/-- Bytes and numbers lie apart. -/
theorem OwnB.apart {w : World} {b1 b2 : Nat} {v1 v2 : Value} {bs : List UInt8} {zs : List Int} (h1 : OwnB w b1 v1 bs) (h2 : OwnI w b2 v2 zs) (k : Nat) (e1 : v1.ownBlock = some k) (e2 : v2.ownBlock = some k) : False := by
  rcases h1.2 with ⟨rfl, _⟩ | ⟨g1, c1, cur1, rfl, _, hh1, _⟩
  · cases e1
  · rcases h2.2 with ⟨rfl, _⟩ | ⟨g2, c2, cur2, rfl, _, hh2, _⟩
    · cases e2
    · have a1 : g1 = k := by simpa [Value.ownBlock] using e1
      have a2 : g2 = k := by simpa [Value.ownBlock] using e2
      subst a1
      subst a2
      rw [hh1] at hh2
      simp at hh2

section
variable {ops : Array Oper} {rest : List Oper} {o : Oper} {a : Act} {w : World} {Q : Exit → Act → World → Prop}
/-- 'out = append(out, b)', and what it leaves alone. -/
theorem wpList_push_byte_x (hgd : o.guard = none) (s x : Operand) (ho : o.op = .call { callee := .builtin .append, args := #[s, x], argTypes := #[74, 74] })
    (base : Nat) (v : Value) (bs : List UInt8) (hs : a.eval s = v) (hown : OwnB w base v bs) (g c : Nat) (b : UInt8) (hx : a.eval x = .slice (some ⟨g, 0, none⟩) 1 c) (hB : Blk w g #[.int .u8 (b.toNat : Int)] 5)
    (hn : bs.length + 1 ≤ 1048576) (hbase : base ≤ w.heap.size)
    (h : ∀ v' w', OwnB w' base v' (bs ++ [b]) → Below base w w' → (∀ k, k < w.heap.size → some k ≠ v.ownBlock → w'.heap[k]? = w.heap[k]?) → wpList Try.prog ops Q rest (a.put o.dst v') w') : wpList Try.prog ops Q (o :: rest) a w := by
  obtain ⟨i0, hi, hz0, hz1, hz2⟩ := info_parts info5
  refine wpList_append_own _ hgd s x 74 ho base 5 i0 (.int .u8 0) 1 1 Try.underlying74 hi hz0 hz1 hz2 rfl (by decide) v bs.length _ hs hown ⟨g, 0, none⟩ 1 c [.int .u8 (b.toNat : Int)] hx rfl
    (fun j u hu => ?_) (fun u hu => ?_) (by unfold maxLen; omega) (by omega) hbase (fun v' w' hown' hg _ => h v' w' ?_ (below_grown hown hg hbase) hg.block)
  · match j, hu with
    | 0, hu => simp at hu; subst hu; simpa [Addr.add] using hB.cell 0
  · simp at hu; subst hu; rfl
  · unfold OwnB; simpa using hown'
end

set_option maxRecDepth 100000 in
theorem l01Own_calls (v : Value) (zs : List Int) (hn : zs.length ≤ 1048576) (w : World) (hv : SeesI w v zs) :
    Calls Try.prog 51 #[v] w fun e w' => ∃ v', e = .returned v' ∧ OwnI w' w.heap.size v' zs ∧ Below w.heap.size w w' := by
  have hO0 : OwnI (w.alloc (.cells #[] 2)) w.heap.size (.slice (some ⟨w.heap.size, 0, none⟩) 0 0) [] := OwnI.empty w _ 0 #[] (Nat.le_refl _) (by unfold maxLen; omega) rfl
  have hbw0 : Below w.heap.size w (w.alloc (.cells #[] 2)) := by (repeat (first | exact Below.refl _ _ | refine below_drew' ?_ | refine below_drewN' ?_ _ | refine below_alloc' ?_ _ | refine below_set' ?_ (by (try simp); (try omega)) _ | refine below_step ?_ (by assumption)))
  have hv1 := hv.below hbw0
  have hsz := hbw0.size
  obtain ⟨oa, cap, rfl, hc⟩ := hv.view
  clear hc hv
  go_enter Try.func51, Try.ntmps51
  go_wp2_with (at_builtin; refine wpList_join_ints rfl (.tmp 3) (.tmp 4) rfl w.heap.size _ _ [] zs rfl hO0 rfl hv1 (by simpa using hn) hsz ?_; intro v1 w4 hO1 hb1 _ _; rw [List.nil_append] at hO1)
  go_ret
  exact ⟨_, rfl, hO1, hbw0.trans hb1⟩

set_option maxRecDepth 100000 in
set_option maxHeartbeats 1000000 in
theorem l02Act_calls (M : Mach) (L S : Nat) (hg : Good M L S) (v : Value) (zs : List Int) (hz : numsOk S zs = true) (hn : zs.length ≤ 40) (s : ByteArray) (hs : s.size ≤ 40) (hl : lettersL L s.data.toList = true) (w : World) (hv : SeesI w v zs) :
    Calls Try.prog 33 #[.agg (mc M), .agg (mc (invM M L S)), v, .string s] w fun e w' => ∃ v', e = .returned (.tuple #[.string ⟨(actG M zs s.data.toList).1.toArray⟩, v']) ∧ OwnI w' w.heap.size v' (actG M zs s.data.toList).2 ∧ Below w.heap.size w w' := by
  have hok := hg.ok
  have hIok := invM_ok hok L S hg.L3
  have hL3 := hg.L3
  have F1 : Hid (cut (mc M) 0 98 = mc M) := Lib.hid (cut_all _ _ (mc_size hok))
  have F2 : Hid (0 + 98 ≤ (mc M).size) := Lib.hid (by rw [mc_size hok]; omega)
  have F3 : Hid (cut (mc (invM M L S)) 0 98 = mc (invM M L S)) := Lib.hid (cut_all _ _ (mc_size hIok))
  have F4 : Hid (0 + 98 ≤ (mc (invM M L S)).size) := Lib.hid (by rw [mc_size hIok]; omega)
  have hsz : s.size = s.data.toList.length := size_list s
  have Hsz := Lib.hid hsz; clear hsz
  have Hgood := Lib.hid (actG_good hg zs hz s.data.toList hl)
  have HZ := Lib.hid hz; clear hz
  have HL := Lib.hid hl; clear hl
  have hB1 : Blk (((w.alloc (.cells (mc M) 29)).alloc (.cells (mc (invM M L S)) 29)).alloc (.cells #[] 5)) w.heap.size (mc M) 29 := ((Blk.new w _ _).alloc _).alloc _
  have hB2 : Blk (((w.alloc (.cells (mc M) 29)).alloc (.cells (mc (invM M L S)) 29)).alloc (.cells #[] 5)) (w.heap.size + 1) (mc (invM M L S)) 29 := (Blk.new_at _ _ _ _ (by simp)).alloc _
  have hO0 : OwnB (((w.alloc (.cells (mc M) 29)).alloc (.cells (mc (invM M L S)) 29)).alloc (.cells #[] 5)) (w.heap.size + 2) (.slice (some ⟨w.heap.size + 2, 0, none⟩) 0 0) [] := by
    have := OwnB.empty ((w.alloc (.cells (mc M) 29)).alloc (.cells (mc (invM M L S)) 29)) (w.heap.size + 2) 0 #[] (by simp) (by simp) rfl
    simpa using this
  have hbw0 : Below w.heap.size w (((w.alloc (.cells (mc M) 29)).alloc (.cells (mc (invM M L S)) 29)).alloc (.cells #[] 5)) := by (repeat (first | exact Below.refl _ _ | refine below_drew' ?_ | refine below_drewN' ?_ _ | refine below_alloc' ?_ _ | refine below_set' ?_ (by (try simp); (try omega)) _ | refine below_step ?_ (by assumption)))
  have hv1 := hv.below hbw0
  go_enter Try.func33, Try.ntmps33
  go_wp2_with (go_at_call 51; refine (l01Own_calls _ zs (by omega) _ hv1).mono ?_; rintro e w1 ⟨v1, rfl, hO1, hb1⟩; have hB11 := hB1.keptAll hb1; have hB21 := hB2.keptAll hb1; have hO01 : OwnB w1 _ _ _ := hO0.below hb1; have hbw1 := below_step hbw0 hb1)
  have hge := hO1.ge
  simp only [World.size_alloc] at hge
  replace hO1 : OwnI w1 (w.heap.size + 2) v1 zs := hO1.base_le (by simp)
  clear hB1 hB2 hO0 hbw0 hv1 hge
  go_loopw [2, 10, 11] (fun gvv ov i wr => ∃ (k : Nat) (v0 g0 : Value), k ≤ s.size ∧ i = .int .i64 k ∧ v0 = ov ∧ g0 = gvv ∧ Blk wr w.heap.size (mc M) 29 ∧ Blk wr (w.heap.size + 1) (mc (invM M L S)) 29 ∧
      OwnB wr (w.heap.size + 2) v0 (actG M zs (s.data.toList.take k)).1 ∧ OwnI wr (w.heap.size + 2) g0 (actG M zs (s.data.toList.take k)).2 ∧ Below w.heap.size w wr) (fun _ _ i _ => s.size - (intOf i).toNat)
  case atStart => exact ⟨0, _, _, by omega, rfl, rfl, rfl, hB11, hB21, by simpa [actG] using hO01, by simpa [actG] using hO1, hbw1⟩
  case round =>
    clear hB11 hB21 hO01 hO1 hbw1 hb1
    obtain ⟨k, v0, g0, hk, rfl, rfl, rfl, hB1, hB2, hO, hG, hbw⟩ := hrel
    have hkl : k ≤ s.data.toList.length := by rw [← Hsz.out]; exact hk
    obtain ⟨a1, a2, a3, a4⟩ := Hgood.out k hkl
    by_cases hlt : k < s.size
    · have hlt' : k < s.data.toList.length := by rw [← Hsz.out]; exact hlt
      obtain ⟨h48, h51⟩ := lettersL_at HL.out k hlt'
      have hst := actG_take M zs s.data.toList k hlt'
      have he : s.data.toList[k] = s[k] := rfl
      rw [he] at hst h48 h51
      obtain ⟨x, hx⟩ : ∃ x : Nat, s[k].toNat = 48 + x := ⟨s[k].toNat - 48, by omega⟩
      rw [show s[k].toNat - 48 = x from by omega] at hst
      have hxL : x < L := by omega
      have hx' : (s[k].toNat : Int) = 48 + (x : Int) := by omega
      obtain ⟨y1, y2, y3⟩ := ledG_all hg _ a4 x hxL
      have Hout : Hid ((actG M zs (s.data.toList.take (k + 1))).1 = (actG M zs (s.data.toList.take k)).1 ++ [dig ((ledG M (actG M zs (s.data.toList.take k)).2 x).1 : Nat)]) := Lib.hid (by rw [hst])
      have Hnext : Hid ((actG M zs (s.data.toList.take (k + 1))).2 = (ledG M (actG M zs (s.data.toList.take k)).2 x).2) := Lib.hid (by rw [hst])
      have Hlen := Lib.hid a1
      have H4 := Lib.hid a4
      have H3 := Lib.hid a3
      clear hst a1 a2 a3 a4 he
      generalize (actG M zs (s.data.toList.take k)).1 = bs at *
      generalize (actG M zs (s.data.toList.take k)).2 = cur at *
      obtain ⟨og, cg, rfl, hgc⟩ := hG.view
      clear hgc
      have hdig := dig_toNat ((ledG M cur x).1 : Int) (by omega) (by omega)
      have Hdig := Lib.hid hdig; clear hdig y2 y3
      go_wp2_with fail
      have hw48 : IntKind.u8.wrap (48 + (x : Int) - 48) = (x : Int) := by simp [IntKind.wrap, IntKind.bits, IntKind.signed]; omega
      have hdr : Below wr.heap.size wr wr.drew := (Below.refl _ _).drew
      refine wp_region_held_drew (S := fun W => Blk W w.heap.size (mc M) 29 ∧ Blk W (w.heap.size + 1) (mc (invM M L S)) 29) (by kernel_rfl) ⟨hB1.drew, hB2.drew⟩ (fun hS0 => ?_)
      refine hK_load 0 rfl (by kernel_rfl) (by kernel_rfl) (by kernel_rfl) 29 _ rfl w.heap.size 0 rfl (mc M) _ (fun W hW => hW.1) 98 F2.out _ Try.underlying29 rfl size_mach _ F1.out (fun _ _ _ h => h) rfl hS0 ?_; (intro K hK; go_simp; refine hK _ ?_; clear hK K)
      refine hK_load 1 rfl (by kernel_rfl) (by kernel_rfl) (by kernel_rfl) 29 _ rfl (w.heap.size + 1) 0 rfl (mc (invM M L S)) _ (fun W hW => hW.2) 98 F4.out _ Try.underlying29 rfl size_mach _ F3.out (fun _ _ _ h => h) rfl hS0 ?_; (intro K hK; go_simp; refine hK _ ?_; clear hK K)
      refine hK_take 2 (.slice og cur.length cg) rfl (by kernel_rfl) (by kernel_rfl) (by kernel_rfl) (fun _ _ _ h => h) rfl (fun W _ => by go_simp) hS0 ?_; (intro K hK; go_simp; refine hK _ ?_; clear hK K)
      refine hK_take 3 (.string s) rfl (by kernel_rfl) (by kernel_rfl) (by kernel_rfl) (fun _ _ _ h => h) rfl (fun W _ => by go_simp) hS0 ?_; (intro K hK; go_simp; refine hK _ ?_; clear hK K)
      refine hK_take 4 (.int .i64 (k : Int)) rfl (by kernel_rfl) (by kernel_rfl) (by kernel_rfl) (fun _ _ _ h => h) rfl (fun W _ => by go_simp) hS0 ?_; (intro K hK; go_simp; refine hK _ ?_; clear hK K)
      refine hK_take 5 (.int .u8 (s[k].toNat : Int)) rfl (by kernel_rfl) (by kernel_rfl) (by kernel_rfl) (fun _ _ _ h => h) rfl (fun W _ => by go_simp) hS0 ?_; (intro K hK; go_simp; refine hK _ ?_; clear hK K)
      refine hK_take 6 (.int .u8 (x : Int)) rfl (by kernel_rfl) (by kernel_rfl) (by kernel_rfl) (fun _ _ _ h => h) rfl (fun W _ => by go_simp) hS0 ?_; (intro K hK; go_simp; refine hK _ ?_; clear hK K)
      refine wpAnyH_ready (rs := [7]) (by kernel_rfl) (by simp) ?_
      refine AllReadyH.cons rfl (fun K hK => ?_) AllReadyH.nil
      go_simp
      refine (l02Led_calls M L S hg _ cur H4.out (by have := H3.out; omega) x hxL _ (hG.sees.below hdr)).mono ?_
      rintro e w3 ⟨v3, rfl, hO3, hb3⟩
      have hB13 := hS0.1.keptAll hb3
      have hB23 := hS0.2.keptAll hb3
      have hbw3 := (below_step hbw hdr).trans (hb3.mono hbw.drew.size)
      have hO03 : OwnB w3 (w.heap.size + 2) v0 bs := (hO.below hdr).below hb3
      have hge3 := hO3.ge
      replace hO3 : OwnI w3 (w.heap.size + 2) v3 (ledG M cur x).2 := hO3.base_le (by have := hB2.lt; simp; omega)
      go_simp
      refine hK.out _ _ ⟨hB13, hB23⟩ (fun hS1 => ?_)
      clear hK K
      refine hK_take 8 (.tuple #[.int .u8 (ledG M cur x).1, v3]) rfl (by kernel_rfl) (by kernel_rfl) (by kernel_rfl) (fun _ _ _ h => h) rfl (fun W _ => by go_simp) hS1 ?_; (intro K hK; go_simp; refine hK _ ?_; clear hK K)
      refine hK_take 9 (.int .u8 (ledG M cur x).1) rfl (by kernel_rfl) (by kernel_rfl) (by kernel_rfl) (fun _ _ _ h => h) rfl (fun W _ => by go_simp) hS1 ?_; (intro K hK; go_simp; refine hK _ ?_; clear hK K)
      refine hK_take 10 v3 rfl (by kernel_rfl) (by kernel_rfl) (by kernel_rfl) (fun _ _ _ h => h) rfl (fun W _ => by go_simp) hS1 ?_; (intro K hK; go_simp; refine hK _ ?_; clear hK K)
      refine hK_take 11 (.int .u8 (ledG M cur x).1) rfl (by kernel_rfl) (by kernel_rfl) (by kernel_rfl) (fun _ _ _ h => h) rfl (fun W _ => by go_simp) hS1 ?_; (intro K hK; go_simp; refine hK _ ?_; clear hK K)
      refine hK_take 12 v3 rfl (by kernel_rfl) (by kernel_rfl) (by kernel_rfl) (fun _ _ _ h => h) rfl (fun W _ => by go_simp) hS1 ?_; (intro K hK; go_simp; refine hK _ ?_; clear hK K)
      refine wpAnyH_done (by kernel_rfl) ?_ _
      have hsz0 := hbw3.size
      have hlt1 := hB13.lt
      have hlt2 := hB23.lt
      clear hB1 hB2 hO hG hbw hS0 hS1 hb3 hdr hge3
      generalize (ledG M cur x).1 = y at *
      generalize (ledG M cur x).2 = nx at *
      have hA : Below w3.heap.size w3 (w3.alloc (.cells #[.int .u8 (48 + (y : Int))] 5)) := Below.alloc (Below.refl _ _) (Nat.le_refl _) _
      go_wp2_with (at_builtin; refine wpList_push_byte_x rfl (.tmp 34) (.tmp 37) rfl (w.heap.size + 2) _ bs rfl (hO03.below hA) w3.heap.size 1 (dig (y : Int)) rfl (by rw [Hdig.out]; exact Blk.new w3 _ _) (by rw [Hlen.out]; omega) (by simp; omega) ?_; intro v4 w4 hO4 hb4 hkeep; have hB14 := (hB13.keptAll hA).kept hb4 (by omega); have hB24 := (hB23.keptAll hA).kept hb4 (by omega); have hG4 : OwnI w4 (w.heap.size + 2) v3 nx := (hO3.below hA).kept_at (fun j hj => hkeep j ((hO3.below hA).lt j hj) (fun e => OwnB.apart (hO03.below hA) (hO3.below hA) j e.symm hj)))
      go_roundw
      case rel => exact ⟨k + 1, _, _, by omega, by go_num, rfl, rfl, hB14, hB24, by rw [Hout.out]; exact hO4, by rw [Hnext.out]; exact hG4, (hbw3.alloc hbw3.size _).trans (below_le hb4 (by omega))⟩
      case measure => simp [intOf] <;> omega
    · obtain rfl : k = s.size := by omega
      rw [Hsz.out, List.take_length] at hO hG a1
      have hstr := run_str_own hO
      clear a1 a2 a3 a4 Hgood
      go_wp2
      go_ret2
      exact ⟨_, rfl, hG.base_le (by omega), hbw⟩
end Go.Proofs.Ytlclhjpnnlgjfaa
