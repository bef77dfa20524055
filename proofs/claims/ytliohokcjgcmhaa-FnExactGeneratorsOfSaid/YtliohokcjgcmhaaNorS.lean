/- 'NormalWord': the model. · 'NormalWord': the program and the model. -/
import Derived.Test.YtliohokcjgcmhaaNorW
import Derived.Test.YtliohokcjgcmhaaTriP
import Derived.Test.YtliohokcjgcmhaaLedT
import Derived.Test.YtliohokcjgcmhaaGrpT
namespace Go.Proofs.Ytliohokcjgcmhaa
open Go.RowKit

set_option maxRecDepth 100000 in
set_option maxHeartbeats 2000000 in
theorem l02Normal_calls (M : Mach) (L S : Nat) (hg : Good M L S) (l : List Bool) (hll : l.length = 16) (hl : ∀ q, q < S → l.getD q false = trivB M L S q) (v : Value) (zs : List Int) (hz : ∀ z ∈ zs, numOk S z = true) (hn : zs.length ≤ 1048576) (w : World) (hv : SeesI w v zs) :
    Calls Try.prog 123 #[v, .agg (ints (clsS M L S (S + 1))), .agg (bl l)] w fun e w' => ∃ u, e = .returned u ∧ OwnI w' w.heap.size u (normK M L S zs zs.length) ∧ Below w.heap.size w w' := by
  have hS16 := hg.S16
  obtain ⟨oa, ca, hve, _⟩ := hv.view
  subst hve
  have hC0 : Blk (((w.alloc (.cells (ints (clsS M L S (S + 1))) 92)).alloc (.cells (bl l) 143)).alloc (.cells #[] 2)) w.heap.size (ints (clsS M L S (S + 1))) 92 := ((Blk.new w _ _).alloc _).alloc _
  have hT0 : Blk (((w.alloc (.cells (ints (clsS M L S (S + 1))) 92)).alloc (.cells (bl l) 143)).alloc (.cells #[] 2)) (w.heap.size + 1) (bl l) 143 := (Blk.new_at _ _ _ _ (by simp)).alloc _
  have hE0 : Blk (((w.alloc (.cells (ints (clsS M L S (S + 1))) 92)).alloc (.cells (bl l) 143)).alloc (.cells #[] 2)) (w.heap.size + 1 + 1) #[] 2 := Blk.new_at _ _ _ _ (by simp)
  have hbw0 : Below w.heap.size w (((w.alloc (.cells (ints (clsS M L S (S + 1))) 92)).alloc (.cells (bl l) 143)).alloc (.cells #[] 2)) := by show Below _ _ (World.alloc _ _); (repeat (first | exact Below.refl _ _ | refine below_drew' ?_ | refine below_drewN' ?_ _ | refine below_alloc' ?_ _ | refine below_set' ?_ (by (try simp); (try omega)) _ | refine below_step ?_ (by assumption)))
  have hge0 : w.heap.size + 1 + 1 ≤ ((((w.alloc (.cells (ints (clsS M L S (S + 1))) 92)).alloc (.cells (bl l) 143)).alloc (.cells #[] 2)) : World).heap.size := by simp
  have hO0 : OwnI (((w.alloc (.cells (ints (clsS M L S (S + 1))) 92)).alloc (.cells (bl l) 143)).alloc (.cells #[] 2)) (w.heap.size + 1 + 1) (.slice (some ⟨w.heap.size + 1 + 1, 0, none⟩) 0 0) (normK M L S zs 0) := OwnI.made rfl (by unfold maxLen; omega) (Nat.le_refl _) hE0
  have Hv := Lib.hid hv; clear hv
  have Hz := Lib.hid hz; clear hz
  have Htl := Lib.hid hl; clear hl
  have Hll := Lib.hid hll; clear hll
  have Hg := Lib.hid hg; clear hg
  clear hE0
  go_enter Try.func123, Try.ntmps123
  go_wp2
  generalize (((w.alloc (.cells (ints (clsS M L S (S + 1))) 92)).alloc (.cells (bl l) 143)).alloc (.cells #[] 2)) = w0 at *
  go_loopw [7, 8] (fun ov i wr => ∃ (k : Nat) (v0 : Value), k ≤ zs.length ∧ i = .int .i64 k ∧ v0 = ov ∧ (Blk wr w.heap.size (ints (clsS M L S (S + 1))) 92 ∧ Blk wr (w.heap.size + 1) (bl l) 143) ∧ OwnI wr (w.heap.size + 1 + 1) v0 (normK M L S zs k) ∧ w.heap.size + 1 + 1 ≤ wr.heap.size ∧ Below w.heap.size w wr) (fun _ i _ => zs.length - (intOf i).toNat)
  case atStart => exact ⟨0, _, by omega, rfl, rfl, ⟨hC0, hT0⟩, hO0, hge0, hbw0⟩
  case round =>
    clear hC0 hT0 hO0 hge0 hbw0
    obtain ⟨k, v0, hk, rfl, rfl, ⟨hC, hT⟩, hO, hge, hbw⟩ := hrel
    by_cases hlt : k < zs.length
    · have hki : (k : Int) < zs.length := by omega
      have hok := Hz.out _ (List.getElem_mem hlt)
      obtain ⟨g, hg', _, c1⟩ := (Hv.out.below hbw).at k hlt
      subst hg'
      have Hsn := Lib.hid (normK_succ M L S zs k hlt)
      have hlen := normK_len M L S zs k (by omega)
      have hst := stOf_lt hok
      have hrange : zs[k] ≠ 0 ∧ -16 ≤ zs[k] ∧ zs[k] ≤ 16 := by have h := (numOk_iff _ _).1 hok; omega
      have e1 := bl_at l (stOf zs[k]) (by rw [Hll.out]; omega)
      rw [Htl.out _ hst] at e1
      have e2 := ints_at (clsS M L S (S + 1)) (stOf zs[k]) (by rw [clsS_len]; omega)
      rw [clsS_at M L S (S + 1) _ hst hS16] at e2
      have hle := (lst_at M L (S + 1) (stOf zs[k])).1
      have HB : Hid (bring M L S zs[k] = if trivB M L S (stOf zs[k]) then 0 else if zs[k] < 0 then -((lst M L (S + 1) (stOf zs[k]) : Int) + 1) else (lst M L (S + 1) (stOf zs[k]) : Int) + 1) := Lib.hid rfl
      have Hstate := Lib.hid (fun W => l02State_calls zs[k] hrange.1 hrange.2.1 hrange.2.2 W)
      generalize bring M L S zs[k] = kv at *
      generalize trivB M L S (stOf zs[k]) = tb at *
      generalize lst M L (S + 1) (stOf zs[k]) = ll at *
      generalize stOf zs[k] = st at *
      generalize zs[k] = z at *
      generalize normK M L S zs k = acc at *
      have hsti : (st : Int) < 16 := by omega
      have hlli : (ll : Int) < 16 := by omega
      have cC := hC.cell
      have cT := hT.cell
      cases tb
      · have HB2 : Hid (kv = if z < 0 then -((ll : Int) + 1) else (ll : Int) + 1) := Lib.hid (by rw [HB.out]; rfl)
        clear HB
        obtain ⟨ob, cb, hve, hvc⟩ := hO.view
        subst hve
        by_cases hneg : z < 0
        · have Hk : Hid (kv = -((ll : Int) + 1)) := Lib.hid (by rw [HB2.out, if_pos hneg])
          clear HB2
          by_cases hnil : acc.length = 0
          · have h0 := List.eq_nil_of_length_eq_zero hnil
            subst h0
            have Hj : Hid (joinN [] kv = [] ++ [-((ll : Int) + 1)]) := Lib.hid (by unfold joinN; rw [if_neg (by rw [Hk.out]; omega), if_neg (by simp), Hk.out])
            clear hvc hnil
            have hCa := hC.alloc (.cells #[.int .i64 (-((ll : Int) + 1))] 2)
            have hTa := hT.alloc (.cells #[.int .i64 (-((ll : Int) + 1))] 2)
            have hOa := hO.below (Below.alloc (Below.refl _ _) (Nat.le_refl _) (.cells #[.int .i64 (-((ll : Int) + 1))] 2))
            have hba := below_alloc' hbw (.cells #[.int .i64 (-((ll : Int) + 1))] 2)
            go_wp2_with (first | (go_at_call 163; refine (Hstate.out _).mono ?_; rintro e w' ⟨rfl, rfl⟩) | (at_builtin; refine wpList_push_int rfl (.tmp 56) (.tmp 58) rfl (w.heap.size + 1 + 1) _ ([] : List Int) rfl hOa wr.heap.size 1 (-((ll : Int) + 1)) rfl (Blk.new wr _ _) (by first | omega | simp) (by simp; omega) ?_; intro v1 w7 hO1 hb7))
            have hs7 := hb7.size
            go_roundw
            case rel => exact ⟨k + 1, _, by omega, by go_num, rfl, ⟨hCa.kept hb7 (by omega), hTa.kept hb7 (by omega)⟩, by rw [Hsn.out, Hj.out]; exact hO1, by simp at hs7; omega, hba.trans (below_le hb7 (by omega))⟩
            case measure => simp [intOf] <;> omega
          · obtain ⟨ys, y, hys⟩ : ∃ ys y, acc = ys ++ [y] := ⟨acc.dropLast, acc.getLast (fun e => hnil (by rw [e]; rfl)), (List.dropLast_concat_getLast (fun e => hnil (by rw [e]; rfl))).symm⟩
            subst hys
            obtain ⟨gb, hgb, _, hvd⟩ := hvc (by omega)
            subst hgb
            have hcb := ownI_cap hO
            have hsl : (ys ++ [y]).length = ys.length + 1 := by simp
            have cL := hvd ys.length (by omega)
            rw [show (ys ++ [y])[ys.length]'(by omega) = y by simp] at cL
            rw [hsl] at hO hcb hlen
            have hpos : (0 : Int) < (ys.length : Int) + 1 := by omega
            have hnp : 0 < ys.length + 1 := by omega
            have hc1 : ys.length ≤ cb := by omega
            have hc2 : (ys.length : Int) ≤ cb := by omega
            have hyl : (ys.length : Int) < 1048576 := by omega
            have Hlen := Lib.hid hlen
            clear hvc hvd hnil hsl hlen
            by_cases hy : y = ((ll : Int) + 1)
            · have hyb : (y == ((ll : Int) + 1)) = true := by simpa using hy
              have Hj : Hid (joinN (ys ++ [y]) kv = ys) := Lib.hid (by unfold joinN; rw [if_neg (by rw [Hk.out]; omega), if_pos (by rw [Hk.out]; simp [hy]), List.dropLast_concat])
              have hO' : OwnI wr (w.heap.size + 1 + 1) (.slice (some ⟨gb, 0, none⟩) ys.length cb) ys := ownI_cut (z := y) (by rw [show (ys ++ [y]).length = ys.length + 1 by simp]; exact hO)
              clear hy
              go_wp2_with (go_at_call 163; refine (Hstate.out _).mono ?_; rintro e w' ⟨rfl, rfl⟩)
              go_roundw
              case rel => exact ⟨k + 1, _, by omega, by go_num, rfl, ⟨hC, hT⟩, by rw [Hsn.out, Hj.out]; exact hO', hge, hbw⟩
              case measure => simp [intOf] <;> omega
            · have hyb : (y == ((ll : Int) + 1)) = false := by simpa using hy
              have Hj : Hid (joinN (ys ++ [y]) kv = (ys ++ [y]) ++ [-((ll : Int) + 1)]) := Lib.hid (by unfold joinN; rw [if_neg (by rw [Hk.out]; omega), if_neg (by rw [Hk.out]; simp; omega), Hk.out])
              clear hy
              have hCa := hC.alloc (.cells #[.int .i64 (-((ll : Int) + 1))] 2)
              have hTa := hT.alloc (.cells #[.int .i64 (-((ll : Int) + 1))] 2)
              have hOa := hO.below (Below.alloc (Below.refl _ _) (Nat.le_refl _) (.cells #[.int .i64 (-((ll : Int) + 1))] 2))
              have hba := below_alloc' hbw (.cells #[.int .i64 (-((ll : Int) + 1))] 2)
              go_wp2_with (first | (go_at_call 163; refine (Hstate.out _).mono ?_; rintro e w' ⟨rfl, rfl⟩) | (at_builtin; refine wpList_push_int rfl (.tmp 56) (.tmp 58) rfl (w.heap.size + 1 + 1) _ (ys ++ [y]) rfl hOa wr.heap.size 1 (-((ll : Int) + 1)) rfl (Blk.new wr _ _) (by have := Hlen.out; simp; omega) (by simp; omega) ?_; intro v1 w7 hO1 hb7))
              have hs7 := hb7.size
              go_roundw
              case rel => exact ⟨k + 1, _, by omega, by go_num, rfl, ⟨hCa.kept hb7 (by omega), hTa.kept hb7 (by omega)⟩, by rw [Hsn.out, Hj.out]; exact hO1, by simp at hs7; omega, hba.trans (below_le hb7 (by omega))⟩
              case measure => simp [intOf] <;> omega
        · have Hk : Hid (kv = (ll : Int) + 1) := Lib.hid (by rw [HB2.out, if_neg hneg])
          have hzb : decide (z < 0) = false := by simpa using hneg
          have hz1 : 0 ≤ z := by omega
          clear HB2 hneg
          obtain ⟨kk, hkk⟩ : ∃ kk : Int, (ll : Int) + 1 = kk := ⟨_, rfl⟩
          obtain ⟨nk, hnk⟩ : ∃ nk : Int, -kk = nk := ⟨_, rfl⟩
          rw [hkk] at Hk
          have hkb : 1 ≤ kk ∧ kk ≤ 16 := by omega
          have hnb : -16 ≤ nk ∧ nk ≤ -1 := by omega
          by_cases hnil : acc.length = 0
          · have h0 := List.eq_nil_of_length_eq_zero hnil
            subst h0
            have Hj : Hid (joinN [] kv = [] ++ [kk]) := Lib.hid (by unfold joinN; rw [if_neg (by rw [Hk.out]; omega), if_neg (by simp), Hk.out])
            clear hvc hnil
            have hCa := hC.alloc (.cells #[.int .i64 (kk)] 2)
            have hTa := hT.alloc (.cells #[.int .i64 (kk)] 2)
            have hOa := hO.below (Below.alloc (Below.refl _ _) (Nat.le_refl _) (.cells #[.int .i64 (kk)] 2))
            have hba := below_alloc' hbw (.cells #[.int .i64 (kk)] 2)
            go_wp2_with (first | (go_at_call 163; refine (Hstate.out _).mono ?_; rintro e w' ⟨rfl, rfl⟩) | (at_builtin; refine wpList_push_int rfl (.tmp 56) (.tmp 58) rfl (w.heap.size + 1 + 1) _ ([] : List Int) rfl hOa wr.heap.size 1 (kk) rfl (Blk.new wr _ _) (by first | omega | simp) (by simp; omega) ?_; intro v1 w7 hO1 hb7))
            have hs7 := hb7.size
            go_roundw
            case rel => exact ⟨k + 1, _, by omega, by go_num, rfl, ⟨hCa.kept hb7 (by omega), hTa.kept hb7 (by omega)⟩, by rw [Hsn.out, Hj.out]; exact hO1, by simp at hs7; omega, hba.trans (below_le hb7 (by omega))⟩
            case measure => simp [intOf] <;> omega
          · obtain ⟨ys, y, hys⟩ : ∃ ys y, acc = ys ++ [y] := ⟨acc.dropLast, acc.getLast (fun e => hnil (by rw [e]; rfl)), (List.dropLast_concat_getLast (fun e => hnil (by rw [e]; rfl))).symm⟩
            subst hys
            obtain ⟨gb, hgb, _, hvd⟩ := hvc (by omega)
            subst hgb
            have hcb := ownI_cap hO
            have hsl : (ys ++ [y]).length = ys.length + 1 := by simp
            have cL := hvd ys.length (by omega)
            rw [show (ys ++ [y])[ys.length]'(by omega) = y by simp] at cL
            rw [hsl] at hO hcb hlen
            have hpos : (0 : Int) < (ys.length : Int) + 1 := by omega
            have hnp : 0 < ys.length + 1 := by omega
            have hc1 : ys.length ≤ cb := by omega
            have hc2 : (ys.length : Int) ≤ cb := by omega
            have hyl : (ys.length : Int) < 1048576 := by omega
            have Hlen := Lib.hid hlen
            clear hvc hvd hnil hsl hlen
            by_cases hy : y = nk
            · have hyb : (y == nk) = true := by simpa using hy
              have Hj : Hid (joinN (ys ++ [y]) kv = ys) := Lib.hid (by unfold joinN; rw [if_neg (by rw [Hk.out]; omega), if_pos (by rw [Hk.out, hnk]; simp [hy]), List.dropLast_concat])
              have hO' : OwnI wr (w.heap.size + 1 + 1) (.slice (some ⟨gb, 0, none⟩) ys.length cb) ys := ownI_cut (z := y) (by rw [show (ys ++ [y]).length = ys.length + 1 by simp]; exact hO)
              clear hy
              go_wp2_with (go_at_call 163; refine (Hstate.out _).mono ?_; rintro e w' ⟨rfl, rfl⟩)
              go_roundw
              case rel => exact ⟨k + 1, _, by omega, by go_num, rfl, ⟨hC, hT⟩, by rw [Hsn.out, Hj.out]; exact hO', hge, hbw⟩
              case measure => simp [intOf] <;> omega
            · have hyb : (y == nk) = false := by simpa using hy
              have Hj : Hid (joinN (ys ++ [y]) kv = (ys ++ [y]) ++ [kk]) := Lib.hid (by unfold joinN; rw [if_neg (by rw [Hk.out]; omega), if_neg (by rw [Hk.out, hnk]; simpa using hy), Hk.out])
              clear hy
              have hCa := hC.alloc (.cells #[.int .i64 (kk)] 2)
              have hTa := hT.alloc (.cells #[.int .i64 (kk)] 2)
              have hOa := hO.below (Below.alloc (Below.refl _ _) (Nat.le_refl _) (.cells #[.int .i64 (kk)] 2))
              have hba := below_alloc' hbw (.cells #[.int .i64 (kk)] 2)
              go_wp2_with (first | (go_at_call 163; refine (Hstate.out _).mono ?_; rintro e w' ⟨rfl, rfl⟩) | (at_builtin; refine wpList_push_int rfl (.tmp 56) (.tmp 58) rfl (w.heap.size + 1 + 1) _ (ys ++ [y]) rfl hOa wr.heap.size 1 (kk) rfl (Blk.new wr _ _) (by have := Hlen.out; simp; omega) (by simp; omega) ?_; intro v1 w7 hO1 hb7))
              have hs7 := hb7.size
              go_roundw
              case rel => exact ⟨k + 1, _, by omega, by go_num, rfl, ⟨hCa.kept hb7 (by omega), hTa.kept hb7 (by omega)⟩, by rw [Hsn.out, Hj.out]; exact hO1, by simp at hs7; omega, hba.trans (below_le hb7 (by omega))⟩
              case measure => simp [intOf] <;> omega
      · have Hj : Hid (joinN acc kv = acc) := Lib.hid (by rw [HB.out]; simp [joinN])
        clear HB
        go_wp2_with (go_at_call 163; refine (Hstate.out _).mono ?_; rintro e w' ⟨rfl, rfl⟩)
        go_roundw
        case rel => exact ⟨k + 1, _, by omega, by go_num, rfl, ⟨hC, hT⟩, by rw [Hsn.out, Hj.out]; exact hO, hge, hbw⟩
        case measure => simp [intOf] <;> omega
    · have hkl : k = zs.length := by omega
      have Hk := Lib.hid hkl; clear hkl
      go_wp2
      go_ret
      exact ⟨_, rfl, by rw [← Hk.out]; exact tri_le' hO (by omega), hbw⟩
end Go.Proofs.Ytliohokcjgcmhaa

namespace Go.Proofs.Ytliohokcjgcmhaa
open Go.RowKit

theorem normR_good {M : Mach} {L S : Nat} (hg : Good M L S) {zs : List Int} (h : isGrp M zs = true) : normR M zs = normK M L S zs zs.length := by
  simp [normR, h, hg.hL, hg.hS]
theorem grp_nums {M : Mach} {L S : Nat} (hg : Good M L S) {zs : List Int} (h : isGrp M zs = true) : ∀ z ∈ zs, numOk S z = true := by
  have h2 := (isGrp_parts h).2
  rw [hg.hS] at h2
  intro z hz
  obtain ⟨j, hj, rfl⟩ := List.getElem_of_mem hz
  exact grpOk_at h2 j hj

end Go.Proofs.Ytliohokcjgcmhaa
