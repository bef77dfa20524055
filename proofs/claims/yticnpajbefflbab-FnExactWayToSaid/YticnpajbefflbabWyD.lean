/- 'slices.Reverse' over numbers of one's own; '(*node).way': the program. -/
import Derived.Test.YticnpajbefflbabLvB
import Derived.Shelf.RegionOpenPlain
import Derived.Test.YticnpajbefflbabDsI
import Derived.Deep.LoopGhost
namespace Go.Proofs.Yticnpajbefflbab
open Go.RowKit Go.Shelf

/-- The list with its first and its last i numbers exchanged. -/
def revP (zs : List Int) (i : Nat) : List Int := (List.range zs.length).map fun x => if x < i ∨ zs.length - 1 - i < x then zs.getD (zs.length - 1 - x) 0 else zs.getD x 0
theorem revP_len (zs : List Int) (i : Nat) : (revP zs i).length = zs.length := by simp [revP]
theorem revP_zero (zs : List Int) : revP zs 0 = zs := by
  apply List.ext_getElem
  · simp [revP]
  · intro x h1 h2
    simp only [revP, List.getElem_map, List.getElem_range]
    rw [if_neg (by omega), List.getD, List.getElem?_eq_getElem h2]
    rfl
theorem revP_at (zs : List Int) (i x : Nat) (h1 : i ≤ x) (h2 : x ≤ zs.length - 1 - i) (hx : x < zs.length) : (revP zs i)[x]'(by rw [revP_len]; exact hx) = zs.getD x 0 := by
  simp only [revP, List.getElem_map, List.getElem_range]
  rw [if_neg (by omega)]
theorem revP_all (zs : List Int) (i : Nat) (h : ¬ ((i : Int) < (zs.length : Int) - 1 - i)) : revP zs i = zs.reverse := by
  apply List.ext_getElem
  · simp [revP]
  · intro x h1 h2
    rw [revP_len] at h1
    simp only [revP, List.getElem_map, List.getElem_range, List.getElem_reverse]
    split
    · rw [List.getD, List.getElem?_eq_getElem (by omega)]; rfl
    · have : zs.length - 1 - x = x := by omega
      rw [List.getD, List.getElem?_eq_getElem h1]
      simp only [this]
      rfl
theorem revP_next (zs : List Int) (i : Nat) (h : i < zs.length - 1 - i) : ((revP zs i).set i (zs.getD (zs.length - 1 - i) 0)).set (zs.length - 1 - i) (zs.getD i 0) = revP zs (i + 1) := by
  apply List.ext_getElem
  · simp [revP]
  · intro x h1 h2
    rw [revP_len] at h2
    simp only [revP, List.getElem_set, List.getElem_map, List.getElem_range]
    by_cases e1 : zs.length - 1 - i = x
    · rw [if_pos e1, if_pos (by omega)]
      congr 1
      omega
    · rw [if_neg e1]
      by_cases e2 : i = x
      · rw [if_pos e2, if_pos (by omega), e2]
      · rw [if_neg e2]
        by_cases e3 : x < i ∨ zs.length - 1 - i < x
        · rw [if_pos e3, if_pos (by omega)]
        · rw [if_neg e3, if_neg (by omega)]
theorem OwnI.put {w : World} {base g n cap i : Nat} {zs : List Int} (h : OwnI w base (.slice (some ⟨g, 0, none⟩) n cap) zs) (z : Int) : OwnI (w.setCell ⟨g, i, none⟩ (.int .i64 z)) base (.slice (some ⟨g, 0, none⟩) n cap) (zs.set i z) := by
  have hn : n = zs.length := by
    obtain ⟨oa, ca, e, _⟩ := h.view
    simp only [Value.slice.injEq] at e
    exact e.2.1
  subst hn
  unfold OwnI at h ⊢
  have := (World.ownsRow.stored h i (.int .i64 z)).1
  simpa [List.map_set] using this
theorem OwnI.blk {w : World} {base g n cap : Nat} {zs : List Int} (h : OwnI w base (.slice (some ⟨g, 0, none⟩) n cap) zs) : ∃ cur, Blk w g cur 2 ∧ zs.length ≤ cur.size ∧ ∀ i (hi : i < zs.length), cur[i]? = some (.int .i64 zs[i]) := by
  obtain ⟨oa, ca, e, hv⟩ := h.view
  rcases h.2 with ⟨e2, _⟩ | ⟨g', cap', cur, e2, hg, hB, hn, hm, hs, ht⟩
  · cases e2
  · simp only [Value.slice.injEq, Option.some.injEq, Addr.mk.injEq] at e2
    obtain ⟨⟨rfl, _, _⟩, _, _⟩ := e2
    refine ⟨cur, hB, by rw [hs]; omega, fun i hi => ?_⟩
    obtain ⟨g2, e3, _, hc⟩ := hv (by omega)
    simp only [Value.slice.injEq] at e
    rw [e3] at e
    have e4 : g = g2 := by have := e.1; simp at this; exact this
    subst e4
    have := hc i hi
    rwa [Go.Joins.cell_of_block hB] at this

set_option maxRecDepth 1000000 in
set_option maxHeartbeats 2000000 in
theorem Reverse_calls (base : Nat) (v : Value) (zs : List Int) (hl : zs.length ≤ 100000) (w : World) (hv : OwnI w base v zs) :
    Calls Try.prog 56 #[v] w fun e w' => e = .returned (.tuple #[]) ∧ OwnI w' base v zs.reverse ∧ Below base w w' ∧ ∀ k, v.ownBlock ≠ some k → w'.heap[k]? = w.heap[k]? := by
  obtain ⟨oa, cap, hve, hvc⟩ := hv.view
  subst hve
  by_cases h0 : zs.length = 0
  · have hz : zs = [] := List.eq_nil_of_length_eq_zero h0
    subst hz
    go_enter Try.func56, Try.ntmps56
    go_wp2
    go_loopw [2, 3] (fun a b wr => a = .int .i64 0 ∧ b = .int .i64 (-1) ∧ wr = w) (fun _ _ _ => 0)
    case atStart => exact ⟨rfl, rfl, rfl⟩
    case round =>
      obtain ⟨rfl, rfl, rfl⟩ := hrel
      go_wp2
      go_end0
      exact ⟨rfl, hv, Below.refl _ _, fun _ _ => rfl⟩
  · obtain ⟨g, rfl, hg, _⟩ := hvc (by omega)
    clear hvc
    have HN : Hid (zs.length = zs.length) := Lib.hid rfl
    go_enter Try.func56, Try.ntmps56
    go_wp2
    go_loopw [2, 3] (fun a b wr => ∃ i : Nat, i ≤ zs.length ∧ a = .int .i64 i ∧ b = .int .i64 ((zs.length : Int) - 1 - i) ∧ OwnI wr base (.slice (some ⟨g, 0, none⟩) zs.length cap) (revP zs i) ∧ Below base w wr ∧ Hid (∀ k, k ≠ g → wr.heap[k]? = w.heap[k]?)) (fun a _ _ => zs.length - (intOf a).toNat)
    case atStart => exact ⟨0, by omega, rfl, by congr 1; omega, by rw [revP_zero]; exact hv, Below.refl _ _, Lib.hid fun _ _ => rfl⟩
    case round =>
      clear hv
      obtain ⟨i, hi, rfl, rfl, hO, hsz, HK⟩ := hrel
      by_cases hlt : (i : Int) < (zs.length : Int) - 1 - i
      · obtain ⟨j, hj⟩ : ∃ j : Nat, zs.length - 1 - i = j := ⟨_, rfl⟩
        have hij : i < j := by omega
        have hji : (zs.length : Int) - 1 - i = (j : Int) := by omega
        have hjl : (j : Int) < (zs.length : Int) := by omega
        have hil : (i : Int) < (zs.length : Int) := by omega
        obtain ⟨cur, hB, hcs, hcc⟩ := hO.blk
        have ci := hB.cell i
        have cj := hB.cell j
        rw [hcc i (by rw [revP_len]; omega), revP_at zs i i (Nat.le_refl _) (by omega) (by omega)] at ci
        rw [hcc j (by rw [revP_len]; omega), revP_at zs i j (by omega) (by omega) (by omega)] at cj
        have fi := hB.free
        have Hnext := Lib.hid (revP_next zs i (by omega))
        rw [hj] at Hnext
        have HO := Lib.hid hO
        clear hcc hcs hO
        rw [hji] at hlt ⊢
        generalize zs.getD i 0 = zi at *
        generalize zs.getD j 0 = zj at *
        go_wp2_with fail
        go_region
        go_wp2
        have hp := (HO.out.put (i := i) zj).put (i := j) zi
        rw [Hnext.out] at hp
        have hp2 := hp.below (w1 := ((wr.setCell ⟨g, i, none⟩ (.int .i64 zj)).setCell ⟨g, j, none⟩ (.int .i64 zi)).drew) (Below.refl _ _).drew
        go_roundw
        case rel => exact ⟨i + 1, by omega, by go_num, by go_num, hp2, ((hsz.setCell (p := ⟨g, i, none⟩) hg (.int .i64 zj)).setCell (p := ⟨g, j, none⟩) hg (.int .i64 zi)).drew, Lib.hid fun k hk => (Below.heap_setCell _ ⟨g, j, none⟩ _ k hk).trans ((Below.heap_setCell _ ⟨g, i, none⟩ _ k hk).trans (HK.out k hk))⟩
        case measure => simp [intOf] <;> omega
      · have Hr := Lib.hid (revP_all zs i hlt)
        go_wp2
        go_end0
        exact ⟨rfl, by rw [← Hr.out]; exact hO, hsz, fun k hk => HK.out k (fun e => hk (by rw [e]; rfl))⟩
end Go.Proofs.Yticnpajbefflbab
namespace Go.Proofs.Yticnpajbefflbab
open Go.RowKit

set_option maxRecDepth 100000 in
set_option maxHeartbeats 2000000 in
theorem way_calls (base t N : Nat) (T : List Ent) (bs : List Nat) (gn : Nat) (qv : Value) (hN : N ≤ 1000) (i : Nat) (hi : i < T.length) (b : Nat) (hb : bs[i]? = some b) (w : World) (hT : TreeAt w base t N T bs gn qv) :
    Calls Try.prog 38 #[.pointer (some ⟨b, 0, none⟩)] w fun e w' => ∃ v, e = .returned v ∧ OwnI w' w.heap.size v (wayL T i) ∧ Below w.heap.size w w' := by
  have HT := Lib.hid hT
  have Hl := Lib.hid (hT.blen)
  have hTN := hT.ok.len
  have HOK := Lib.hid hT.ok
  clear hT
  go_enter Try.func38, Try.ntmps38
  go_wp2
  go_loopg [0, 3] i (fun gk p ov wr => ∃ (j c : Nat) (acc : List Int) (v0 : Value), j ≤ gk ∧ j < T.length ∧ p = .pointer (some ⟨c, 0, none⟩) ∧ Hid (bs[j]? = some c) ∧ v0 = ov ∧ OwnI wr w.heap.size v0 acc ∧ acc.length + j ≤ i ∧ Hid (wayL T i = wayL T j ++ acc.reverse) ∧ Below w.heap.size w wr)
  case atStart => exact ⟨i, b, [], _, Nat.le_refl _, hi, rfl, Lib.hid hb, rfl, OwnI.nil _ _, by simp, Lib.hid (by simp), Below.refl _ _⟩
  case round =>
    obtain ⟨j, c, acc, v0, hjk, hj, rfl, Hc, rfl, hO, hal, HW, hbw⟩ := hrel
    obtain ⟨w4, rfl⟩ : ∃ x, x = wr := ⟨_, rfl⟩
    have hTw := HT.out.below hbw
    have hjb : j < bs.length := by rw [Hl.out]; exact hj
    have hcj : bs[j] = c := by
      have := Hc.out
      rw [List.getElem?_eq_getElem hjb] at this
      simpa using this
    have hn := hTw.nodes j hj hjb
    rw [hcj] at hn
    have c1 := hn.cell 1
    have c2 := hn.cell 2
    simp [nodeC] at c1 c2
    clear hn hTw hcj
    by_cases h0 : j = 0
    · subst h0
      have HW2 : Hid (wayL T i = acc.reverse) := Lib.hid (by rw [HW.out, wayL_zero]; rfl)
      simp at c1
      have hal2 : acc.length ≤ 100000 := by omega
      have hO5 := hO
      clear hO c2 HW
      go_wp2_with (go_at_call 56; refine (Reverse_calls w.heap.size v0 acc hal2 _ hO5).mono ?_; rintro e w5 ⟨rfl, hO6, hb5, hk5⟩)
      go_ret
      exact ⟨_, rfl, by rw [HW2.out]; exact hO6, hbw.trans hb5⟩
    · have hp := HOK.out.par j (by omega) hj
      rw [if_neg h0] at c1
      have hpb : (entAt T j).par < bs.length := by rw [Hl.out]; omega
      have Hc2 : Hid (bs[(entAt T j).par]? = some (bs.getD (entAt T j).par 0)) := Lib.hid (by rw [List.getD, List.getElem?_eq_getElem hpb]; rfl)
      have HW2 : Hid (wayL T i = wayL T (entAt T j).par ++ (acc ++ [(entAt T j).step]).reverse) := Lib.hid (by rw [HW.out, wayL_next HOK.out j h0 hj]; simp)
      have hpT : (entAt T j).par < T.length := by omega
      unfold ptr at c1
      obtain ⟨o0, c0, hve, hvq⟩ := hO.view
      clear hvq
      subst hve
      have hOa := hO.below (w1 := w4.alloc (.cells #[.int .i64 (entAt T j).step] 2)) (by (repeat (first | exact Below.refl _ _ | refine below_drew' ?_ | refine below_drewN' ?_ _ | refine below_alloc' ?_ _ | refine below_set' ?_ (by (try simp); (try omega)) _ | refine below_step ?_ (by assumption))))
      have hba := below_alloc' hbw (.cells #[.int .i64 (entAt T j).step] 2)
      have hsz := hbw.size
      have HC1 : Hid (∀ W, Below w.heap.size w W → W.cell? ⟨c, 1, none⟩ = some (.pointer (some ⟨bs.getD (entAt T j).par 0, 0, none⟩))) := Lib.hid (fun W hW => by
        have hn := (HT.out.below hW).nodes j hj hjb
        have hcj : bs[j] = c := by
          have := Hc.out
          rw [List.getElem?_eq_getElem hjb] at this
          simpa using this
        rw [hcj] at hn
        have c1 := hn.cell 1
        simp [nodeC] at c1
        rw [if_neg h0] at c1
        unfold ptr at c1
        simpa using c1)
      clear hO HW
      generalize bs.getD (entAt T j).par 0 = c' at *
      generalize (entAt T j).par = pj at *
      generalize (entAt T j).step = st at *
      go_wp2_with (at_builtin; refine wpList_push_int rfl (.tmp 13) (.tmp 18) rfl w.heap.size _ acc rfl hOa w4.heap.size 1 st rfl (Blk.new w4 _ _) (by omega) (by simp; omega) ?_; intro v7 w7 hO7 hb7; have hbw7 := hba.trans (below_le hb7 (by omega)); have c1b := HC1.out w7 hbw7)
      go_roundg pj
      case measure => omega
      case rel => exact ⟨pj, c', acc ++ [st], v7, Nat.le_refl _, hpT, rfl, Hc2, rfl, hO7, by simp; omega, HW2, hbw7⟩
end Go.Proofs.Yticnpajbefflbab
