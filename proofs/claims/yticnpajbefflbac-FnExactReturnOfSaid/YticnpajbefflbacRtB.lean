/- 'returnBy': the program. -/
import Derived.Test.YticnpajbefflbacRtI
namespace Go.Proofs.Yticnpajbefflbac
open Go.RowKit

set_option maxRecDepth 100000 in
set_option maxHeartbeats 2000000 in
theorem returnBy_calls (M : Mach) (L S : Nat) (hg : Good M L S) (zs : List Int) (hz : numsOk S zs = true) (h40 : zs.length ≤ 40) (x : Nat) (hx : x < L) (g bc bs : Nat) (c v2 : Value) (vs : List Value) (w : World)
    (hG : Blk w g (osC M L S) 107) (hC : OwnN w bc c (cyL (imN M zs) x (cyN (imN M zs) x))) (hS : OwnLV w bs v2 vs (secK M zs L)) :
    Calls Try.prog 39 #[.pointer (some ⟨g, 0, none⟩), c, v2] w fun e w' =>
      ((cyN (imN M zs) x * zs.length ≤ 40 → ∃ u, e = .returned u ∧ OwnI w' w.heap.size u (normK M L S (rdK M zs x (cyN (imN M zs) x)) (rdK M zs x (cyN (imN M zs) x)).length)) ∧
      (40 < cyN (imN M zs) x * zs.length → e = gaveUp 3)) ∧ Below w.heap.size w w' := by
  have hL3 := hg.L3
  have hok := hg.ok
  have HLt := Lib.hid (itN_lt (imN_lt hg hz) hx)
  have HRl := Lib.hid (rdK_len hg hz hx)
  obtain ⟨n1, n3⟩ := cyN_bd (imN M zs) x
  obtain ⟨gC, capC, curC, rfl, hgC, hBC, hcC⟩ := hC.view (by rw [cyL_len]; omega)
  obtain ⟨oa, cap2, rfl, hv2⟩ := hS.view
  obtain ⟨g2, rfl, hg2, hc2⟩ := hv2 (by rw [secK_len]; omega)
  rw [secK_len]
  rw [cyL_len]
  have HcC : Hid (∀ k, k < cyN (imN M zs) x → curC[k]? = some (.int .u8 (itN (imN M zs) x k : Int))) := Lib.hid fun k hk => by
    rw [hcC k (by rw [cyL_len]; exact hk), cyL_at _ _ _ _ hk]
  have hvl : vs.length = L := by rw [hS.len, secK_len]
  have HS := Lib.hid hS
  have Hc2 : Hid (∀ y (hy : y < L), w.cell? ⟨g2, y, none⟩ = some (vs[y]'(by rw [hvl]; exact hy)) ∧ SeesI w (vs[y]'(by rw [hvl]; exact hy)) (ledG M zs y).2 ∧ g2 < w.heap.size) := Lib.hid fun y hy => by
    refine ⟨hc2 y (by rw [hvl]; exact hy), ?_, (hS.lt g2 (.inl rfl)).2⟩
    have := (hS.own y (by rw [hvl]; exact hy) (by rw [secK_len]; exact hy)).sees
    simpa [secK] using this
  have HN : Hid (cyN (imN M zs) x = cyN (imN M zs) x) := Lib.hid rfl
  generalize hNe : cyN (imN M zs) x = N at *
  have Hnum := Lib.hid hz
  have HG := Lib.hid hG
  have HBC := Lib.hid hBC
  have hltG := hG.lt
  have hltC := hBC.lt
  have hO0 : OwnI w w.heap.size (.slice none 0 0) (rdK M zs x 0) := OwnI.nil _ _
  have hbw0 : Below w.heap.size w w := Below.refl _ _
  clear hC hS hc2 hcC hBC hG hz hg2 hv2 HN hNe
  go_enter Try.func39, Try.ntmps39
  go_wp2
  go_loopw [7, 12] (fun rv iv wr => ∃ (k : Nat) (v0 : Value), k ≤ N ∧ iv = .int .i64 k ∧ v0 = rv ∧ OwnI wr w.heap.size v0 (rdK M zs x k) ∧ w.heap.size ≤ wr.heap.size ∧ Below w.heap.size w wr) (fun _ i _ => N - (intOf i).toNat)
  case atStart => exact ⟨0, _, by omega, rfl, rfl, hO0, Nat.le_refl _, hbw0⟩
  case round =>
    clear hO0 hbw0
    obtain ⟨k, v0, hk, rfl, rfl, hO, hge, hbw⟩ := hrel
    by_cases hlt : k < N
    · have hki : (k : Int) < (N : Int) := by omega
      have hy := HLt.out k
      have c1 := (HBC.out.kept hbw hltC).cell k
      rw [HcC.out k hlt] at c1
      obtain ⟨a1, a2, a3⟩ := Hc2.out _ hy
      have Hrd : Hid (rdK M zs x (k + 1) = rdK M zs x k ++ (ledG M zs (itN (imN M zs) x k)).2) := Lib.hid rfl
      have hl1 := (HRl.out k).1
      have hl2 := (HRl.out (k + 1)).1
      have hl3 : k * zs.length ≤ 3 * 40 := Nat.mul_le_mul (by omega) h40
      have hl4 : (k + 1) * zs.length ≤ 3 * 40 := Nat.mul_le_mul (by omega) h40
      have Hl : Hid ((rdK M zs x k).length + (ledG M zs (itN (imN M zs) x k)).2.length ≤ 1048576) := Lib.hid (by
        have := congrArg List.length Hrd.out
        rw [List.length_append] at this
        omega)
      obtain ⟨u, hu⟩ : ∃ u, vs[itN (imN M zs) x k]'(by rw [hvl]; exact hy) = u := ⟨_, rfl⟩
      rw [hu] at a1 a2
      obtain ⟨sec, hsec⟩ : ∃ s, (ledG M zs (itN (imN M zs) x k)).2 = s := ⟨_, rfl⟩
      rw [hsec] at a2 Hrd Hl
      have c2 := cell_kept hbw a1
      have hs := a2.below hbw
      clear hu hsec a1 a2
      generalize itN (imN M zs) x k = y at *
      have hyL : (y : Int) < (L : Int) := by omega
      go_wp2_with (at_builtin; refine wpList_join_ints rfl (.tmp 16) (.tmp 20) rfl w.heap.size v0 u (rdK M zs x k) sec rfl hO rfl hs Hl.out (by omega) ?_; intro v1 w7 hO7 hb7 _ _)
      rw [← Hrd.out] at hO7
      go_roundw
      case rel => exact ⟨k + 1, _, by omega, by go_num, rfl, hO7, (hbw.trans hb7).size, hbw.trans hb7⟩
      case measure => simp [intOf] <;> omega
    · obtain rfl : k = N := by omega
      have hl := (HRl.out k).1
      obtain ⟨oa, ca, hv0, _⟩ := hO.sees.view
      subst hv0
      by_cases h4 : k * zs.length ≤ 40
      · have hn4 : ¬ ((40 : Int) < ((rdK M zs x k).length : Int)) := by omega
        have hk40 : (rdK M zs x k).length ≤ 1048576 := by omega
        have Hz : Hid (∀ z ∈ rdK M zs x k, numOk S z = true) := Lib.hid (by
          have := (HRl.out k).2
          unfold numsOk at this
          exact List.all_eq_true.mp this)
        have HNm : Hid (SeesN M L S wr g 98) := Lib.hid ⟨_, _, HG.out.kept hbw hltG, fun q hq => osC_norm hok L S q hq⟩
        have hsz := hbw.size
        clear hl
        go_wp2_with (go_at_call 69; refine (normalWord_calls M L S hg g 98 _ (rdK M zs x k) Hz.out hk40 _ HNm.out hO.sees).mono ?_; rintro e w8 ⟨u8, rfl, hO8, hb8⟩)
        go_ret
        exact ⟨⟨fun _ => ⟨_, rfl, hO8.base_le hsz⟩, fun h => absurd h (by omega)⟩, below_step hbw hb8⟩
      · have hn4 : (40 : Int) < ((rdK M zs x k).length : Int) := by omega
        clear hl
        go_wp2_with (go_at_call 68; refine (goOn_calls 3 (by decide) _).mono ?_; rintro e w8 ⟨he, rfl⟩; unfold gaveUp at he; subst he)
        exact ⟨rfl, ⟨fun h => absurd h h4, fun _ => rfl⟩, hbw⟩
end Go.Proofs.Yticnpajbefflbac
