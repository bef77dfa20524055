/- 'numberRows': states with one row get one number. · 'classesOf': the sets of equal states. -/
import Derived.Test.YtliohokcjgcmhaaMinK
import Derived.Test.YtliohokcjgcmhaaMinW
import Derived.Test.YtliohokcjgcmhaaStoreK
namespace Go.Proofs.Ytliohokcjgcmhaa
open Go.RowKit
open Go.Maps

/-- Sixteen zeros. -/
def zer : List Int := List.replicate 16 0
theorem info_c16 : (Try.prog.info? 194).map (fun i => (i.zero, i.size)) = some (some (.agg (c8 zer)), 16) := by kernel_rfl
theorem zero_c16 : ∀ w, (zeroValue 194).run Try.prog w = .ok (.agg (c8 zer)) w := (zero_of_info info_c16).1
theorem size_c16 : (Try.prog.info? 194).map (·.size) = some 16 := (zero_of_info info_c16).2
theorem info_u8 : (Try.prog.info? 5).map (fun i => (i.zero, i.size)) = some (some (.int .u8 0), 1) := by kernel_rfl
theorem zero_u8 : ∀ w, (zeroValue 5).run Try.prog w = .ok (.int .u8 0) w := (zero_of_info info_u8).1
theorem c8_one (c : List Int) : (c8 c).all (·.oneCell') = true := by
  rw [Array.all_eq_true_iff_forall_mem]
  intro v hv
  simp only [c8, List.mem_toArray, List.mem_map] at hv
  obtain ⟨n, _, rfl⟩ := hv
  rfl
/-- The map of rows, as it lies in memory. -/
def OwnRows (w : World) (b n : Nat) (D : DataW Unit) : Prop := w.ownsMap Try.prog 137 (plainElem Try.prog 5) b n D
theorem OwnRows.keep {w w' : World} {b n : Nat} {D : DataW Unit} (h : OwnRows w b n D) (e : w'.heap[b]? = w.heap[b]?) : OwnRows w' b n D := by
  obtain ⟨es, clock, hb, r⟩ := h
  exact ⟨es, clock, e.trans hb, r⟩

theorem size_a3 : (Try.prog.info? 22).map (·.size) = some 3 := by kernel_rfl
theorem info_row : (Try.prog.info? 137).map (fun i => (i.zero, i.size)) = some (some (.agg #[.int .u8 0, .int .u8 0, .int .u8 0, .int .u8 0, .int .u8 0, .int .u8 0]), 6) := by kernel_rfl
theorem zero_row : ∀ w, (zeroValue 137).run Try.prog w = .ok (.agg #[.int .u8 0, .int .u8 0, .int .u8 0, .int .u8 0, .int .u8 0, .int .u8 0]) w := (zero_of_info info_row).1
theorem size_row : (Try.prog.info? 137).map (·.size) = some 6 := (zero_of_info info_row).2
theorem cut_of (c : Array Value) (p : Nat) (a b d : Value) (h0 : c[p]? = some a) (h1 : c[p + 1]? = some b) (h2 : c[p + 2]? = some d) : cut c p 3 = #[a, b, d] := by
  apply Array.ext_getElem?
  intro i
  simp only [cut, List.getElem?_toArray, List.getElem?_take, List.getElem?_drop, Array.getElem?_toList]
  rcases (show i = 0 ∨ i = 1 ∨ i = 2 ∨ 3 ≤ i by omega) with rfl | rfl | rfl | h
  · simpa using h0
  · simpa using h1
  · simpa using h2
  · rw [if_neg (by omega)]; symm; simp; omega
theorem rowC_one (V : Mach) (q : Nat) : (rowC V q).all (·.oneCell') = true  := by
  rw [rowC_eq, Array.all_eq_true_iff_forall_mem]
  intro v hv
  simp only [List.mem_toArray, List.mem_map] at hv
  obtain ⟨n, _, rfl⟩ := hv
  rfl

set_option maxRecDepth 100000 in
set_option maxHeartbeats 2000000 in
theorem numberRows_calls (M : Mach) (L S t : Nat) (hS : S ≤ 16) (V : Mach) (hV : V.Ok) (hVS : V.S = S) (hrow : ∀ q r, q < S → r < S → (rowOf V q = rowOf V r ↔ eqB M L (t + 1) q r = true)) (w : World) :
    Calls Try.prog 175 #[.agg (mc V)] w fun e w' => e = .returned (.agg (c8 (clsU M L S (t + 1)))) ∧ Below w.heap.size w w' := by
  have hcS := mc_S V
  rw [hVS] at hcS
  have hz := zero_c16
  have hmm := @run_makeMap Try.prog
  let W0 := (((w.alloc (.cells (mc V) 27)).alloc (.cells (c8 zer) 194)).alloc (.cells (c8 zer) 194)).alloc (.map #[] 0)
  have hB1 : Blk W0 w.heap.size (mc V) 27 := (((Blk.new w _ _).alloc _).alloc _).alloc _
  have hR1 : Blk W0 (w.heap.size + 1) (c8 zer) 194 := ((Blk.new_at _ _ _ _ (by simp)).alloc _).alloc _
  have hN1 : Blk W0 (w.heap.size + 1 + 1) (c8 zer) 194 := (Blk.new_at _ _ _ _ (by simp)).alloc _
  have hM1 : OwnRows W0 (w.heap.size + 1 + 1 + 1) 0 (.map []) := by
    have := World.ownsMap_made (H := Unit) (((w.alloc (.cells (mc V) 27)).alloc (.cells (c8 zer) 194)).alloc (.cells (c8 zer) 194)) Try.prog 137 (plainElem Try.prog 5)
    simpa [OwnRows, W0] using this
  have hbel0 : Below w.heap.size w W0 := by show Below _ _ (World.alloc _ _); (repeat (first | exact Below.refl _ _ | refine below_drew' ?_ | refine below_drewN' ?_ _ | refine below_alloc' ?_ _ | refine below_set' ?_ (by (try simp); (try omega)) _ | refine below_step ?_ (by assumption)))
  have cA0 := hB1.cell
  have Hrow := Lib.hid hrow; clear hrow hVS
  go_enter Try.func175, Try.ntmps175
  go_wp2
  clear hz hmm
  go_loopw [12] (fun i wr => ∃ (k : Nat) (D : DataW Unit), k ≤ S ∧ i = .int .i64 k ∧ Blk wr w.heap.size (mc V) 27 ∧ Blk wr (w.heap.size + 1) (c8 zer) 194 ∧ Blk wr (w.heap.size + 1 + 1) (c8 (numsTo M L t k)) 194 ∧ OwnRows wr (w.heap.size + 1 + 1 + 1) k D ∧ Below w.heap.size w wr ∧ Hid (RowMap M L S t V k D)) (fun i _ => S - (intOf i).toNat)
  case atStart => exact ⟨0, _, by omega, rfl, hB1, hR1, by rw [numsTo_zero]; exact hN1, hM1, hbel0, Lib.hid (RowMap.start M L S t V)⟩
  case round =>
    clear hB1 hR1 hN1 hM1 hbel0 cA0
    obtain ⟨k, D, hk, rfl, hB, hR, hN, hM, hbw, HD⟩ := hrel
    by_cases hlt : k < S
    · have hk16 : k < 16 := by omega
      have hki : (k : Int) < 16 := by omega
      have o0 := mc_o hV k 0 hk16 (by omega)
      have o1 := mc_o hV k 1 hk16 (by omega)
      have o2 := mc_o hV k 2 hk16 (by omega)
      have n0 := mc_n hV k 0 hk16 (by omega)
      have n1 := mc_n hV k 1 hk16 (by omega)
      have n2 := mc_n hV k 2 hk16 (by omega)
      have Hkey := Lib.hid (key_row hV k)
      have HrowC : Hid (rowC V k = #[.int .u8 (V.o k 0), .int .u8 (V.o k 1), .int .u8 (V.o k 2), .int .u8 (V.n k 0), .int .u8 (V.n k 1), .int .u8 (V.n k 2)]) := Lib.hid rfl
      have hB0 := hB.drew; have hR0 := hR.drew; have hN0 := hN.drew; have hbw0 := below_drew' hbw
      have hM0 : OwnRows wr.drew (w.heap.size + 1 + 1 + 1) k D := hM
      have Hct := Lib.hid (cut_of (mc V) (50 + k * 3) _ _ _ o0 o1 o2)
      have Hcn := Lib.hid (cut_of (mc V) (2 + k * 3) _ _ _ n0 n1 n2)
      have Hms := Lib.hid (mc_size hV)
      clear o0 o1 o2 n0 n1 n2
      go_wp2_with fail
      refine wp_region_held_drew (S := fun W => Blk W w.heap.size (mc V) 27) (by kernel_rfl) hB0 (fun hS0 => ?_)
      (refine hK_take 0 (.int .i64 (k : Int)) rfl (by kernel_rfl) (by kernel_rfl) (by kernel_rfl) (fun _ _ _ h => h) rfl (fun W _ => by go_simp) hS0 ?_; (intro K hK; go_simp; refine hK _ ?_; clear hK K))
      (refine hK_take 1 (.pointer (some ⟨w.heap.size, 50, none⟩)) rfl (by kernel_rfl) (by kernel_rfl) (by kernel_rfl) (fun _ _ _ h => h) rfl (fun W _ => by go_simp) hS0 ?_; (intro K hK; go_simp; refine hK _ ?_; clear hK K))
      (refine hK_take 2 (.pointer (some ⟨w.heap.size, 50 + k * 3, none⟩)) rfl (by kernel_rfl) (by kernel_rfl) (by kernel_rfl) (fun _ _ _ h => h) rfl (fun W _ => by go_simp) hS0 ?_; (intro K hK; go_simp; refine hK _ ?_; clear hK K))
      (refine hK_load 3 rfl (by kernel_rfl) (by kernel_rfl) (by kernel_rfl) 22 _ rfl w.heap.size (50 + k * 3) rfl (mc V) _ (fun W hW => hW) 3 (by rw [Hms.out]; omega) _ Try.underlying22 rfl size_a3 _ Hct.out (fun _ _ _ h => h) rfl hS0 ?_; (intro K hK; go_simp; refine hK _ ?_; clear hK K))
      (refine hK_take 4 (.int .i64 (k : Int)) rfl (by kernel_rfl) (by kernel_rfl) (by kernel_rfl) (fun _ _ _ h => h) rfl (fun W _ => by go_simp) hS0 ?_; (intro K hK; go_simp; refine hK _ ?_; clear hK K))
      (refine hK_take 5 (.pointer (some ⟨w.heap.size, 2, none⟩)) rfl (by kernel_rfl) (by kernel_rfl) (by kernel_rfl) (fun _ _ _ h => h) rfl (fun W _ => by go_simp) hS0 ?_; (intro K hK; go_simp; refine hK _ ?_; clear hK K))
      (refine hK_take 6 (.pointer (some ⟨w.heap.size, 2 + k * 3, none⟩)) rfl (by kernel_rfl) (by kernel_rfl) (by kernel_rfl) (fun _ _ _ h => h) rfl (fun W _ => by go_simp) hS0 ?_; (intro K hK; go_simp; refine hK _ ?_; clear hK K))
      (refine hK_load 7 rfl (by kernel_rfl) (by kernel_rfl) (by kernel_rfl) 22 _ rfl w.heap.size (2 + k * 3) rfl (mc V) _ (fun W hW => hW) 3 (by rw [Hms.out]; omega) _ Try.underlying22 rfl size_a3 _ Hcn.out (fun _ _ _ h => h) rfl hS0 ?_; (intro K hK; go_simp; refine hK _ ?_; clear hK K))
      (refine hK_take 8 (.agg #[.int .u8 (V.o k 0), .int .u8 (V.o k 1), .int .u8 (V.o k 2), .int .u8 (V.n k 0), .int .u8 (V.n k 1), .int .u8 (V.n k 2)]) rfl (by kernel_rfl) (by kernel_rfl) (by kernel_rfl) (fun _ _ _ h => h) rfl (fun W _ => by go_simp) hS0 ?_; (intro K hK; go_simp; refine hK _ ?_; clear hK K))
      have hzr := zero_row
      refine wpAnyH_ready (rs := [9]) (by kernel_rfl) (by simp) ?_
      refine AllReadyH.cons rfl (fun K hK => ?_) AllReadyH.nil
      go_simp
      refine hK.out _ _ ((hB.alloc _).drew) (fun hS1 => ?_)
      clear hK K hzr
      have hW1 : Blk (wr.alloc (.cells #[.int .u8 0, .int .u8 0, .int .u8 0, .int .u8 0, .int .u8 0, .int .u8 0] 137)).drew wr.heap.size #[.int .u8 0, .int .u8 0, .int .u8 0, .int .u8 0, .int .u8 0, .int .u8 0] 137 := (Blk.new _ _ _).drew
      have hR1 : Blk (wr.alloc (.cells #[.int .u8 0, .int .u8 0, .int .u8 0, .int .u8 0, .int .u8 0, .int .u8 0] 137)).drew _ _ _ := (hR.alloc _).drew
      have hN1 : Blk (wr.alloc (.cells #[.int .u8 0, .int .u8 0, .int .u8 0, .int .u8 0, .int .u8 0, .int .u8 0] 137)).drew _ _ _ := (hN.alloc _).drew
      have hM1 : OwnRows (wr.alloc (.cells #[.int .u8 0, .int .u8 0, .int .u8 0, .int .u8 0, .int .u8 0, .int .u8 0] 137)).drew (w.heap.size + 1 + 1 + 1) k D := World.ownsMap.drew (World.ownsMap.alloc hM _)
      have hbw1 : Below w.heap.size w (wr.alloc (.cells #[.int .u8 0, .int .u8 0, .int .u8 0, .int .u8 0, .int .u8 0, .int .u8 0] 137)).drew := (hbw.alloc hbw.size _).drew
      have hlt1 := hB.lt
      have hltM : w.heap.size + 1 + 1 + 1 < wr.heap.size := World.ownsMap.lt hM
      generalize (wr.alloc (.cells #[.int .u8 0, .int .u8 0, .int .u8 0, .int .u8 0, .int .u8 0, .int .u8 0] 137)).drew = w1 at *
      clear hB hR hN hM hbw hB0 hR0 hN0 hM0 hbw0 hS0
      refine hK_store 10 rfl (by kernel_rfl) rfl 137 _ _ rfl wr.heap.size 0 (rowC V k) rfl rfl _ _ hW1 (by simp [rowC]) size_row (rowC_one V k) (rowC V k) (by simp [over, rowC]) (fun w2 hs => ⟨hs.keep (by omega) hS1, fun hS2 => ?_⟩)
      (intro K hK; go_simp; refine hK _ ?_; clear hK K)
      refine wpAnyH_done (by kernel_rfl) ?_ _
      have hB2 := hs.keep (by omega) hS1
      have hR2 := hs.keep (by omega) hR1
      have hN2 := hs.keep (by omega) hN1
      have hM2 : OwnRows w2 (w.heap.size + 1 + 1 + 1) k D := hM1.keep (hs.other _ (by omega))
      have hbw2 := hs.below _ _ (by omega) hbw1
      have hX2 := hs.blk
      clear hS1 hS2 hR1 hN1 hM1 hbw1 hW1 hs
      have HcutR : Hid (cut (rowC V k) 0 6 = rowC V k) := Lib.hid (by simp [cut, rowC])
      have hlt2 := hX2.lt
      have hltN := hN2.lt
      obtain ⟨nk, hnk⟩ : ∃ nk, num M L (t + 1) k = nk := ⟨_, rfl⟩
      have hnb : nk ≤ k := by rw [← hnk]; exact num_le _ _ _ _
      have hnn := numsTo_len M L t k
      have hold : (c8 (numsTo M L t k))[k]? = some (.int .u8 ((numsTo M L t k).getD k 0)) := c8_at _ _ (by omega)
      have Hset := Lib.hid (numsTo_set M L t k hk16)
      rw [hnk] at Hset
      generalize (numsTo M L t k).getD k 0 = oldn at hold
      clear hnn
      cases hsn : seenR V k k
      · have hhas : Maps.has D (klR V k) = false := by rw [HD.out.has k hlt, hsn]
        obtain ⟨hsize, hnext⟩ := HD.out.fresh hV Hrow.out (World.ownsMap.tidy hM2 keyed_row) hlt hsn
        rw [hnk] at hsize hnext
        have Hnext := Lib.hid hnext
        have Hsz := Lib.hid hsize
        clear hnext hsize
        have hpl : plainElem (H := Unit) Try.prog 5 (.int .u8 nk) = some (.lit (.int .u8 nk), []) := plainElem_int Try.underlying5 (WalkArith.wf_u8 (by omega))
        have Hpl := Lib.hid hpl
        clear hpl
        go_wp2_with (first | (with_reducible show wpList _ _ _ _ _ _; refine wpList_load_blk rfl 137 (.tmp 6) rfl wr.heap.size 0 rfl (rowC V k) _ hX2 6 (by simp [rowC]) _ Try.underlying137 rfl size_row ?_; rw [HcutR.out]) | (at_lookup; refine wpList_lookup_own_ok_int _ rfl _ _ 188 rfl 137 5 .u8 keyed_row Try.underlying188 Try.underlying5 (zero_u8 _) (w.heap.size + 1 + 1 + 1) k D rfl hM2 _ (klR V k) rfl Hkey.out ?_; intro cN hat hwc; rw [hhas]) | (at_len; refine wpList_len_own _ rfl _ 188 rfl 137 5 Try.underlying188 _ (w.heap.size + 1 + 1 + 1) k D rfl hM2 ?_; rw [Hsz.out]) | (at_mapUpdate; refine wpList_mapUpdate_own _ rfl _ _ _ 188 rfl 137 5 keyed_row Try.underlying188 _ (w.heap.size + 1 + 1 + 1) k D rfl hM2 (by unfold maxLen; omega) _ _ (klR V k) rfl rfl Hkey.out (.lit (.int .u8 nk)) [] Hpl.out ?_; intro w3 hM3 hg3; have hN3 : Blk w3 (w.heap.size + 1 + 1) _ _ := (hg3.block _ hltN (by simp)).trans hN2; have cC := hN3.cell; have fC := hN3.free))
        have hB3 : Blk w3 w.heap.size (mc V) 27 := (hg3.block _ hB2.lt (fun e => by have := Option.some.inj e; omega)).trans hB2
        have hR3 : Blk w3 (w.heap.size + 1) (c8 zer) 194 := (hg3.block _ hR2.lt (fun e => by have := Option.some.inj e; omega)).trans hR2
        have hbw3 : Below w.heap.size w w3 := hbw2.grown hg3 hbw2.size (fun j e => by cases e; omega)
        have hN4 := hN3.set k (.int .u8 nk)
        rw [← c8_set, Hset.out] at hN4
        go_roundw
        case rel => exact ⟨k + 1, _, by omega, by go_num, hB3.setOther _ _ _ (by omega), hR3.setOther _ _ _ (by omega), hN4, OwnRows.keep hM3 (Below.heap_setCell _ _ _ _ (by show w.heap.size + 1 + 1 + 1 ≠ w.heap.size + 1 + 1; omega)), below_set' hbw3 (by omega) _, Hnext⟩
        case measure => simp [intOf] <;> omega
      · have hhas : Maps.has D (klR V k) = true := by rw [HD.out.has k hlt, hsn]
        obtain ⟨hat0, hnext⟩ := HD.out.found hV Hrow.out hlt hsn
        rw [hnk] at hat0
        have Hnext := Lib.hid hnext
        have Hat0 := Lib.hid hat0
        clear hnext hat0
        have cC := hN2.cell
        have fC := hN2.free
        go_wp2_with (first | (with_reducible show wpList _ _ _ _ _ _; refine wpList_load_blk rfl 137 (.tmp 6) rfl wr.heap.size 0 rfl (rowC V k) _ hX2 6 (by simp [rowC]) _ Try.underlying137 rfl size_row ?_; rw [HcutR.out]) | (at_lookup; refine wpList_lookup_own_ok_int _ rfl _ _ 188 rfl 137 5 .u8 keyed_row Try.underlying188 Try.underlying5 (zero_u8 _) (w.heap.size + 1 + 1 + 1) k D rfl hM2 _ (klR V k) rfl Hkey.out ?_; intro cN hat hwc; rw [hhas]))
        have hcN : cN = (nk : Int) := by
          have := Hat0.out.symm.trans hat
          simp at this
          exact this.symm
        have hN4 := hN2.set k (.int .u8 cN)
        rw [← c8_set, hcN, Hset.out] at hN4
        go_roundw
        case rel => exact ⟨k + 1, _, by omega, by go_num, hB2.setOther _ _ _ (by omega), hR2.setOther _ _ _ (by omega), by rw [hcN]; exact hN4, OwnRows.keep (World.ownsMap.mono hM2 (Nat.le_succ k)) (Below.heap_setCell _ _ _ _ (by show w.heap.size + 1 + 1 + 1 ≠ w.heap.size + 1 + 1; omega)), below_set' hbw2 (by omega) _, Hnext⟩
        case measure => simp [intOf] <;> omega
    · obtain rfl : k = S := by omega
      rw [numsTo_all] at hN
      have hcl := clsU_len M L k (t + 1)
      have F1 : Hid (cut (c8 (clsU M L k (t + 1))) 0 16 = c8 (clsU M L k (t + 1))) := Lib.hid (cut_all _ _ (by rw [c8_size, hcl]))
      have F2 : Hid (over (c8 zer) 0 (c8 (clsU M L k (t + 1))) = c8 (clsU M L k (t + 1))) := Lib.hid (over_all _ _ (by rw [c8_size, c8_size, hcl]; rfl))
      have F3 : Hid ((c8 (clsU M L k (t + 1))).size = 16) := Lib.hid (by rw [c8_size, hcl])
      have F4 : Hid ((c8 zer).size = 16) := Lib.hid (by rw [c8_size]; rfl)
      have hltB := hB.lt
      clear hcl
      go_wp2_with (first | (with_reducible show wpList _ _ _ _ _ _; refine wpList_load_blk rfl 194 (.tmp 3) rfl (w.heap.size + 1 + 1) 0 rfl _ _ hN 16 (by rw [F3.out]; omega) _ Try.underlying194 rfl size_c16 ?_; rw [F1.out]) | (with_reducible show wpList _ _ _ _ _ _; refine wpList_store_row rfl 194 (.tmp 2) (.tmp 42) rfl (w.heap.size + 1) 0 _ rfl rfl _ _ hR (by rw [F3.out, F4.out]; omega) (by rw [F3.out]; exact size_c16) (c8_one _) _ F2.out ?_; intro w4 hs4))
      exact bodyPost_cell rfl rfl hs4.blk Try.underlying194 rfl (by rw [F3.out]; exact size_c16) rfl ⟨rfl, hs4.below _ _ (by omega) hbw⟩
end Go.Proofs.Ytliohokcjgcmhaa

namespace Go.Proofs.Ytliohokcjgcmhaa
open Go.RowKit
open Go.Maps

theorem plainElem_bool_inv {H : Type} {P : Program} {e : TypeId} (he : P.underlying e = some .bool) {v : Value} {z : DataW H × List MemPlace} (h : plainElem P e v = some z) : ∃ x, v = .bool x ∧ z = (.lit (.bool x), []) := by
  cases v with
  | bool x => simp [plainElem, he] at h; exact ⟨x, rfl, h.symm⟩
  | _ => simp [plainElem, he] at h
theorem zero_bool : ∀ w, (zeroValue 4).run Try.prog w = .ok (.bool false) w := (zero_of_info (show (Try.prog.info? 4).map (fun i => (i.zero, i.size)) = some (some (.bool false), 1) from by kernel_rfl)).1
/-- The map of views. -/
def OwnViews (w : World) (b n : Nat) (D : DataW Unit) : Prop := w.ownsMap Try.prog 27 (plainElem Try.prog 4) b n D
theorem OwnViews.keep {w w' : World} {b n : Nat} {D : DataW Unit} (h : OwnViews w b n D) (e : w'.heap[b]? = w.heap[b]?) : OwnViews w' b n D := by
  obtain ⟨es, clock, hb, r⟩ := h
  exact ⟨es, clock, e.trans hb, r⟩
section
variable {ops : Array Oper} {rest : List Oper} {o : Oper} {a : Act} {w : World} {Q : Exit → Act → World → Prop}
/-- 'seen[view]'. -/
theorem wpList_look_view (hg : o.guard = none) (m x : Operand) (hop : o.op = Op.lookup 203 m x false) (b n : Nat) (D : DataW Unit) (hm : a.eval m = .map (some b)) (hown : OwnViews w b n D) (V : Mach) (hV : V.Ok) (hx : a.eval x = .agg (mc V))
    (r : Bool) (hr : D.atKey (klM V) (.lit (.bool false)) = .lit (.bool r)) (hK : wpList Try.prog ops Q rest (a.put o.dst (.bool r)) w) : wpList Try.prog ops Q (o :: rest) a w := by
  refine wpList_plain hg fun K' hK' => ?_
  obtain ⟨v, ps, hrun, hv⟩ := World.ownsMap.lookup hown keyed_mach Try.underlying203 (zero_bool w) (plainElem_bool Try.underlying4 false) (key_mach hV)
  obtain ⟨y, rfl, hz⟩ := plainElem_bool_inv Try.underlying4 hv
  have hy : y = r := by
    have h1 := congrArg Prod.fst hz
    rw [hr] at h1
    simp at h1
    exact h1.symm
  subst hy
  unfold Oper.wp
  simp [execOp, hop, hm, hx, hrun, Result.andThen]
  exact hK' _ _ hK
end

set_option maxRecDepth 100000 in
set_option maxHeartbeats 2000000 in
theorem classesOf_calls (M : Mach) (L S : Nat) (hg : Good M L S) (w : World) :
    Calls Try.prog 168 #[.agg (mc M)] w fun e w' => (∃ t, Still M L S t ∧ e = .returned (.agg (c8 (clsU M L S t)))) ∧ Below w.heap.size w w' := by
  have hok := hg.ok
  have hS16 := hg.S16
  have hz := zero_c16
  have hzm := zero_mach
  have hmm := @run_makeMap Try.prog
  let W0 := (((w.alloc (.cells (mc M) 27)).alloc (.cells (c8 zer) 194)).alloc (.cells (c8 zer) 194)).alloc (.map #[] 0)
  have hB1 : Blk W0 w.heap.size (mc M) 27 := (((Blk.new w _ _).alloc _).alloc _).alloc _
  have hR1 : Blk W0 (w.heap.size + 1) (c8 zer) 194 := ((Blk.new_at _ _ _ _ (by simp)).alloc _).alloc _
  have hN1 : Blk W0 (w.heap.size + 1 + 1) (c8 zer) 194 := (Blk.new_at _ _ _ _ (by simp)).alloc _
  have hM1 : OwnViews W0 (w.heap.size + 1 + 1 + 1) 0 (.map []) := by
    have := World.ownsMap_made (H := Unit) (((w.alloc (.cells (mc M) 27)).alloc (.cells (c8 zer) 194)).alloc (.cells (c8 zer) 194)) Try.prog 27 (plainElem Try.prog 4)
    simpa [OwnViews, W0] using this
  have hbel0 : Below w.heap.size w W0 := by show Below _ _ (World.alloc _ _); (repeat (first | exact Below.refl _ _ | refine below_drew' ?_ | refine below_drewN' ?_ _ | refine below_alloc' ?_ _ | refine below_set' ?_ (by (try simp); (try omega)) _ | refine below_step ?_ (by assumption)))
  have F1 : Hid (cut (mc M) 0 98 = mc M) := Lib.hid (cut_all _ _ (mc_size hok)); have F2 : Hid (0 + 98 ≤ (mc M).size) := Lib.hid (by rw [mc_size hok]; omega)
  have Hzs : Hid ((mc zeroM).size = 98) := Lib.hid (mc_size zeroM_ok)
  go_enter Try.func168, Try.ntmps168
  go_wp2
  clear hz hmm
  go_loopg [] (S + 3) (fun gk wr => ∃ (t : Nat) (D : DataW Unit), gk + t = S + 3 ∧ Blk wr w.heap.size (mc M) 27 ∧ Blk wr (w.heap.size + 1) (c8 zer) 194 ∧ Blk wr (w.heap.size + 1 + 1) (c8 (clsU M L S t)) 194 ∧ OwnViews wr (w.heap.size + 1 + 1 + 1) t D ∧ Below w.heap.size w wr ∧ Hid (t ≤ S + 2 ∧ ViewMap M L S t D))
  case atStart => exact ⟨0, _, by omega, hB1, hR1, by rw [clsU_zero]; exact hN1, hM1, hbel0, Lib.hid ⟨by omega, ViewMap.start M L S⟩⟩
  case round =>
    clear hB1 hR1 hN1 hM1 hbel0
    obtain ⟨t, D, htk, hB, hR, hN, hM, hbw, HD⟩ := hrel
    have hcl := clsU_len M L S t
    have hcb := clsU_bytes M L S t
    have Hcs : Hid ((c8 (clsU M L S t)).size = 16) := Lib.hid (by rw [c8_size, hcl])
    have Hcc : Hid (cut (c8 (clsU M L S t)) 0 16 = c8 (clsU M L S t)) := Lib.hid (cut_all _ _ Hcs.out)
    have hvo := vw_ok hg t
    have Hvs := Lib.hid (mc_size hvo)
    have Hvc : Hid (cut (mc (vw M L S t)) 0 98 = mc (vw M L S t)) := Lib.hid (cut_all _ _ Hvs.out)
    have Hov : Hid (over (mc zeroM) 0 (mc (vw M L S t)) = mc (vw M L S t)) := Lib.hid (over_all _ _ (by rw [Hzs.out, Hvs.out]))
    have HatD := Lib.hid (HD.out.2.at' t)
    have HF := Lib.hid (withClasses_calls M L S hg (clsU M L S t) hcl hcb)
    have Htk := Lib.hid htk
    have hltM : w.heap.size + 1 + 1 + 1 < wr.heap.size := World.ownsMap.lt hM
    clear htk hcl hcb
    cases hsn : seenV M L S t t
    · rw [hsn] at HatD
      have ht1 := seen_soon hg HD.out.1 hsn
      have HF2 := Lib.hid (numberRows_calls M L S t hS16 (vw M L S t) hvo ((vw_keeps M L S t).2.1.trans hg.hS) (vw_rows hg t))
      have Hpl : Hid (plainElem (H := Unit) Try.prog 4 (.bool true) = some (.lit (.bool true), [])) := Lib.hid (plainElem_bool Try.underlying4 true)
      have Hkm := Lib.hid (key_mach hvo)
      have Hcl2 : Hid ((c8 (clsU M L S (t + 1))).size = 16) := Lib.hid (by rw [c8_size, clsU_len])
      have Hov2 : Hid (over (c8 (clsU M L S t)) 0 (c8 (clsU M L S (t + 1))) = c8 (clsU M L S (t + 1))) := Lib.hid (over_all _ _ (by rw [Hcs.out, Hcl2.out]))
      have Ht1 := Lib.hid ht1
      clear ht1
      go_wp2_with (first | (with_reducible show wpList _ _ _ _ _ _; refine wpList_load_blk rfl 27 (.tmp 1) rfl w.heap.size 0 rfl (mc M) _ (hB) 98 F2.out _ Try.underlying27 rfl size_mach ?_; rw [F1.out]) | (with_reducible show wpList _ _ _ _ _ _; refine wpList_load_blk rfl 194 (.tmp 3) rfl (w.heap.size + 1 + 1) 0 rfl (c8 (clsU M L S t)) _ (by first | exact hN2 | exact hN) 16 (by rw [Hcs.out]; omega) _ Try.underlying194 rfl size_c16 ?_; rw [Hcc.out]) | (go_at_call 169; refine (HF.out _).mono ?_; rintro e w1 ⟨rfl, hb1⟩; have hB1 := (hB.keptAll hb1).alloc (.cells (mc zeroM) 27); have hR1 := (hR.keptAll hb1).alloc (.cells (mc zeroM) 27); have hN1 := (hN.keptAll hb1).alloc (.cells (mc zeroM) 27); have hM1 : OwnViews (w1.alloc (.cells (mc zeroM) 27)) (w.heap.size + 1 + 1 + 1) t D := World.ownsMap.alloc (hM.keep (hb1.block _ hltM)) _; have hbw1 := below_alloc' (below_step hbw hb1) (.cells (mc zeroM) 27); have hZ1 : Blk (w1.alloc (.cells (mc zeroM) 27)) w1.heap.size (mc zeroM) 27 := Blk.new _ _ _; have hge1 := hb1.size) | (with_reducible show wpList _ _ _ _ _ _; refine wpList_store_row rfl 27 (.tmp 5) (.tmp 9) rfl w1.heap.size 0 (mc (vw M L S t)) rfl rfl _ _ hZ1 (by rw [Hzs.out, Hvs.out]; omega) (by rw [Hvs.out]; exact size_mach) (mc_one _) _ Hov.out ?_; intro w2 hs2; have hV2 := hs2.blk; have hB2 := hs2.keep (by omega) hB1; have hR2 := hs2.keep (by omega) hR1; have hN2 := hs2.keep (by omega) hN1; have hM2 : OwnViews w2 (w.heap.size + 1 + 1 + 1) t D := hM1.keep (hs2.other _ (by omega)); have hbw2 := hs2.below _ _ (by omega) hbw1) | (with_reducible show wpList _ _ _ _ _ _; refine wpList_load_blk rfl 27 (.tmp 5) rfl w1.heap.size 0 rfl (mc (vw M L S t)) _ (by first | exact hV3 | exact hV2) 98 (by rw [Hvs.out]; omega) _ Try.underlying27 rfl size_mach ?_; rw [Hvc.out]) | (at_lookup; refine wpList_look_view rfl _ _ rfl (w.heap.size + 1 + 1 + 1) t D rfl hM2 (vw M L S t) hvo rfl false HatD.out ?_) | (at_mapUpdate; refine wpList_mapUpdate_own _ rfl _ _ _ 203 rfl 27 4 keyed_mach Try.underlying203 _ (w.heap.size + 1 + 1 + 1) t D rfl hM2 (by have := Ht1.out; unfold maxLen; omega) _ _ (klM (vw M L S t)) rfl rfl Hkm.out (.lit (.bool true)) [] Hpl.out ?_; intro w3 hM3 hg3; have hV3 : Blk w3 w1.heap.size (mc (vw M L S t)) 27 := (hg3.block _ hV2.lt (fun e => by have := Option.some.inj e; omega)).trans hV2; have hB3 : Blk w3 w.heap.size (mc M) 27 := (hg3.block _ hB2.lt (fun e => by have := Option.some.inj e; omega)).trans hB2; have hR3 : Blk w3 (w.heap.size + 1) (c8 zer) 194 := (hg3.block _ hR2.lt (fun e => by have := Option.some.inj e; omega)).trans hR2; have hN3 : Blk w3 (w.heap.size + 1 + 1) (c8 (clsU M L S t)) 194 := (hg3.block _ hN2.lt (fun e => by have := Option.some.inj e; omega)).trans hN2; have hbw3 : Below w.heap.size w w3 := hbw2.grown hg3 hbw2.size (fun j e => by cases e; omega); have hltM3 : w.heap.size + 1 + 1 + 1 < w3.heap.size := World.ownsMap.lt hM3) | (go_at_call 175; refine (HF2.out _).mono ?_; rintro e w4 ⟨rfl, hb4⟩; have hB4 := hB3.keptAll hb4; have hR4 := hR3.keptAll hb4; have hN4 := hN3.keptAll hb4; have hM4 : OwnViews w4 (w.heap.size + 1 + 1 + 1) (t + 1) _ := OwnViews.keep hM3 (hb4.block _ hltM3); have hbw4 := below_step hbw3 hb4) | (with_reducible show wpList _ _ _ _ _ _; refine wpList_store_row rfl 194 (.tmp 3) (.tmp 17) rfl (w.heap.size + 1 + 1) 0 (c8 (clsU M L S (t + 1))) rfl rfl _ _ hN4 (by rw [Hcs.out, Hcl2.out]; omega) (by rw [Hcl2.out]; exact size_c16) (c8_one _) _ Hov2.out ?_; intro w5 hs5))
      go_roundg (S + 2 - t)
      case measure => have := Htk.out; have := Ht1.out; omega
      case rel =>
        exact ⟨t + 1, _, by have := Ht1.out; omega, hs5.keep (by omega) hB4, hs5.keep (by omega) hR4, hs5.blk, OwnViews.keep hM4 (hs5.other _ (by omega)), hs5.below _ _ (by omega) hbw4, Lib.hid ⟨by have := Ht1.out; omega, HD.out.2.next hg (World.ownsMap.tidy hM2 keyed_mach).isMap⟩⟩
    · rw [hsn] at HatD
      have hst := seen_still hg hsn
      have Hzc : Hid ((c8 zer).size = 16) := Lib.hid (by rw [c8_size]; rfl)
      have Hov2 : Hid (over (c8 zer) 0 (c8 (clsU M L S t)) = c8 (clsU M L S t)) := Lib.hid (over_all _ _ (by rw [Hcs.out, Hzc.out]))
      go_wp2_with (first | (with_reducible show wpList _ _ _ _ _ _; refine wpList_load_blk rfl 27 (.tmp 1) rfl w.heap.size 0 rfl (mc M) _ (hB) 98 F2.out _ Try.underlying27 rfl size_mach ?_; rw [F1.out]) | (with_reducible show wpList _ _ _ _ _ _; refine wpList_load_blk rfl 194 (.tmp 3) rfl (w.heap.size + 1 + 1) 0 rfl (c8 (clsU M L S t)) _ (by first | exact hN2 | exact hN) 16 (by rw [Hcs.out]; omega) _ Try.underlying194 rfl size_c16 ?_; rw [Hcc.out]) | (go_at_call 169; refine (HF.out _).mono ?_; rintro e w1 ⟨rfl, hb1⟩; have hB1 := (hB.keptAll hb1).alloc (.cells (mc zeroM) 27); have hR1 := (hR.keptAll hb1).alloc (.cells (mc zeroM) 27); have hN1 := (hN.keptAll hb1).alloc (.cells (mc zeroM) 27); have hM1 : OwnViews (w1.alloc (.cells (mc zeroM) 27)) (w.heap.size + 1 + 1 + 1) t D := World.ownsMap.alloc (hM.keep (hb1.block _ hltM)) _; have hbw1 := below_alloc' (below_step hbw hb1) (.cells (mc zeroM) 27); have hZ1 : Blk (w1.alloc (.cells (mc zeroM) 27)) w1.heap.size (mc zeroM) 27 := Blk.new _ _ _; have hge1 := hb1.size) | (with_reducible show wpList _ _ _ _ _ _; refine wpList_store_row rfl 27 (.tmp 5) (.tmp 9) rfl w1.heap.size 0 (mc (vw M L S t)) rfl rfl _ _ hZ1 (by rw [Hzs.out, Hvs.out]; omega) (by rw [Hvs.out]; exact size_mach) (mc_one _) _ Hov.out ?_; intro w2 hs2; have hV2 := hs2.blk; have hB2 := hs2.keep (by omega) hB1; have hR2 := hs2.keep (by omega) hR1; have hN2 := hs2.keep (by omega) hN1; have hM2 : OwnViews w2 (w.heap.size + 1 + 1 + 1) t D := hM1.keep (hs2.other _ (by omega)); have hbw2 := hs2.below _ _ (by omega) hbw1) | (with_reducible show wpList _ _ _ _ _ _; refine wpList_load_blk rfl 27 (.tmp 5) rfl w1.heap.size 0 rfl (mc (vw M L S t)) _ (by first | exact hV3 | exact hV2) 98 (by rw [Hvs.out]; omega) _ Try.underlying27 rfl size_mach ?_; rw [Hvc.out]) | (at_lookup; refine wpList_look_view rfl _ _ rfl (w.heap.size + 1 + 1 + 1) t D rfl hM2 (vw M L S t) hvo rfl true HatD.out ?_) | (with_reducible show wpList _ _ _ _ _ _; refine wpList_store_row rfl 194 (.tmp 2) (.tmp 13) rfl (w.heap.size + 1) 0 (c8 (clsU M L S t)) rfl rfl _ _ hR2 (by rw [Hcs.out, Hzc.out]; omega) (by rw [Hcs.out]; exact size_c16) (c8_one _) _ Hov2.out ?_; intro w5 hs5))
      exact bodyPost_cell rfl rfl hs5.blk Try.underlying194 rfl (by rw [Hcs.out]; exact size_c16) rfl ⟨⟨t, hst, rfl⟩, hs5.below _ _ (by omega) hbw2⟩
end Go.Proofs.Ytliohokcjgcmhaa
