/- 'numberRows': states with one row get one number. -/
import Derived.Test.YtdbdoohcpcjfdaaMinK
import Derived.Test.YtdbdoohcpcjfdaaMinW
import Derived.Test.YtdbdoohcpcjfdaaStoreK
namespace Go.Proofs.Ytdbdoohcpcjfdaa
open Go.RowKit
open Go.Maps

/-- Sixteen zeros. -/
def zer : List Int := List.replicate 16 0
theorem info_c16 : (Try.prog.info? 91).map (fun i => (i.zero, i.size)) = some (some (.agg (c8 zer)), 16) := by kernel_rfl
theorem zero_c16 : ∀ w, (zeroValue 91).run Try.prog w = .ok (.agg (c8 zer)) w := (zero_of_info info_c16).1
theorem size_c16 : (Try.prog.info? 91).map (·.size) = some 16 := (zero_of_info info_c16).2
theorem info_u8 : (Try.prog.info? 5).map (fun i => (i.zero, i.size)) = some (some (.int .u8 0), 1) := by kernel_rfl
theorem zero_u8 : ∀ w, (zeroValue 5).run Try.prog w = .ok (.int .u8 0) w := (zero_of_info info_u8).1
theorem c8_one (c : List Int) : (c8 c).all (·.oneCell') = true := by
  rw [Array.all_eq_true_iff_forall_mem]
  intro v hv
  simp only [c8, List.mem_toArray, List.mem_map] at hv
  obtain ⟨n, _, rfl⟩ := hv
  rfl
/-- The map of rows, as it lies in memory. -/
def OwnRows (w : World) (b n : Nat) (D : DataW Unit) : Prop := w.ownsMap Try.prog 116 (plainElem Try.prog 5) b n D
theorem OwnRows.keep {w w' : World} {b n : Nat} {D : DataW Unit} (h : OwnRows w b n D) (e : w'.heap[b]? = w.heap[b]?) : OwnRows w' b n D := by
  obtain ⟨es, clock, hb, r⟩ := h
  exact ⟨es, clock, e.trans hb, r⟩

theorem size_a3 : (Try.prog.info? 22).map (·.size) = some 3 := by kernel_rfl
theorem info_row : (Try.prog.info? 116).map (fun i => (i.zero, i.size)) = some (some (.agg #[.int .u8 0, .int .u8 0, .int .u8 0, .int .u8 0, .int .u8 0, .int .u8 0]), 6) := by kernel_rfl
theorem zero_row : ∀ w, (zeroValue 116).run Try.prog w = .ok (.agg #[.int .u8 0, .int .u8 0, .int .u8 0, .int .u8 0, .int .u8 0, .int .u8 0]) w := (zero_of_info info_row).1
theorem size_row : (Try.prog.info? 116).map (·.size) = some 6 := (zero_of_info info_row).2
theorem cut_of (c : Array Value) (p : Nat) (a b d : Value) (h0 : c[p]? = some a) (h1 : c[p + 1]? = some b) (h2 : c[p + 2]? = some d) : cut c p 3 = #[a, b, d] := by
  apply Array.ext_getElem?
  intro i
  simp only [cut, List.getElem?_toArray, List.getElem?_take, List.getElem?_drop, Array.getElem?_toList]
  rcases (show i = 0 ∨ i = 1 ∨ i = 2 ∨ 3 ≤ i by omega) with rfl | rfl | rfl | h
  · simpa using h0
  · simpa using h1
  · simpa using h2
  · rw [if_neg (by omega)]; symm; simp; omega
theorem rowC_one (V : Mach) (q : Nat) : (rowC V q).all (·.oneCell') = true  := by
  rw [rowC_eq, Array.all_eq_true_iff_forall_mem]
  intro v hv
  simp only [List.mem_toArray, List.mem_map] at hv
  obtain ⟨n, _, rfl⟩ := hv
  rfl

set_option maxRecDepth 100000 in
set_option maxHeartbeats 2000000 in
theorem numberRows_calls (M : Mach) (L S t : Nat) (hS : S ≤ 16) (V : Mach) (hV : V.Ok) (hVS : V.S = S) (hrow : ∀ q r, q < S → r < S → (rowOf V q = rowOf V r ↔ eqB M L (t + 1) q r = true)) (w : World) :
    Calls Try.prog 83 #[.agg (mc V)] w fun e w' => e = .returned (.agg (c8 (clsU M L S (t + 1)))) ∧ Below w.heap.size w w' := by
  have hcS := mc_S V
  rw [hVS] at hcS
  have hz := zero_c16
  have hmm := @run_makeMap Try.prog
  let W0 := (((w.alloc (.cells (mc V) 28)).alloc (.cells (c8 zer) 91)).alloc (.cells (c8 zer) 91)).alloc (.map #[] 0)
  have hB1 : Blk W0 w.heap.size (mc V) 28 := (((Blk.new w _ _).alloc _).alloc _).alloc _
  have hR1 : Blk W0 (w.heap.size + 1) (c8 zer) 91 := ((Blk.new_at _ _ _ _ (by simp)).alloc _).alloc _
  have hN1 : Blk W0 (w.heap.size + 1 + 1) (c8 zer) 91 := (Blk.new_at _ _ _ _ (by simp)).alloc _
  have hM1 : OwnRows W0 (w.heap.size + 1 + 1 + 1) 0 (.map []) := by
    have := World.ownsMap_made (H := Unit) (((w.alloc (.cells (mc V) 28)).alloc (.cells (c8 zer) 91)).alloc (.cells (c8 zer) 91)) Try.prog 116 (plainElem Try.prog 5)
    simpa [OwnRows, W0] using this
  have hbel0 : Below w.heap.size w W0 := by show Below _ _ (World.alloc _ _); (repeat (first | exact Below.refl _ _ | refine below_drew' ?_ | refine below_drewN' ?_ _ | refine below_alloc' ?_ _ | refine below_set' ?_ (by (try simp); (try omega)) _ | refine below_step ?_ (by assumption)))
  have cA0 := hB1.cell
  have Hrow := Lib.hid hrow; clear hrow hVS
  go_enter Try.func83, Try.ntmps83
  go_wp2
  clear hz hmm
  go_loopw [12] (fun i wr => ∃ (k : Nat) (D : DataW Unit), k ≤ S ∧ i = .int .i64 k ∧ Blk wr w.heap.size (mc V) 28 ∧ Blk wr (w.heap.size + 1) (c8 zer) 91 ∧ Blk wr (w.heap.size + 1 + 1) (c8 (numsTo M L t k)) 91 ∧ OwnRows wr (w.heap.size + 1 + 1 + 1) k D ∧ Below w.heap.size w wr ∧ Hid (RowMap M L S t V k D)) (fun i _ => S - (intOf i).toNat)
  case atStart => exact ⟨0, _, by omega, rfl, hB1, hR1, by rw [numsTo_zero]; exact hN1, hM1, hbel0, Lib.hid (RowMap.start M L S t V)⟩
  case round =>
    clear hB1 hR1 hN1 hM1 hbel0 cA0
    obtain ⟨k, D, hk, rfl, hB, hR, hN, hM, hbw, HD⟩ := hrel
    by_cases hlt : k < S
    · have hk16 : k < 16 := by omega
      have hki : (k : Int) < 16 := by omega
      have o0 := mc_o hV k 0 hk16 (by omega)
      have o1 := mc_o hV k 1 hk16 (by omega)
      have o2 := mc_o hV k 2 hk16 (by omega)
      have n0 := mc_n hV k 0 hk16 (by omega)
      have n1 := mc_n hV k 1 hk16 (by omega)
      have n2 := mc_n hV k 2 hk16 (by omega)
      have Hkey := Lib.hid (key_row hV k)
      have HrowC : Hid (rowC V k = #[.int .u8 (V.o k 0), .int .u8 (V.o k 1), .int .u8 (V.o k 2), .int .u8 (V.n k 0), .int .u8 (V.n k 1), .int .u8 (V.n k 2)]) := Lib.hid rfl
      have hB0 := hB.drew; have hR0 := hR.drew; have hN0 := hN.drew; have hbw0 := below_drew' hbw
      have hM0 : OwnRows wr.drew (w.heap.size + 1 + 1 + 1) k D := hM
      have Hct := Lib.hid (cut_of (mc V) (50 + k * 3) _ _ _ o0 o1 o2)
      have Hcn := Lib.hid (cut_of (mc V) (2 + k * 3) _ _ _ n0 n1 n2)
      have Hms := Lib.hid (mc_size hV)
      clear o0 o1 o2 n0 n1 n2
      go_wp2_with fail
      refine wp_region_held_drew (S := fun W => Blk W w.heap.size (mc V) 28) (by kernel_rfl) hB0 (fun hS0 => ?_)
      (refine hK_take 0 (.int .i64 (k : Int)) rfl (by kernel_rfl) (by kernel_rfl) (by kernel_rfl) (fun _ _ _ h => h) rfl (fun W _ => by go_simp) hS0 ?_; (intro K hK; go_simp; refine hK _ ?_; clear hK K))
      (refine hK_take 1 (.pointer (some ⟨w.heap.size, 50, none⟩)) rfl (by kernel_rfl) (by kernel_rfl) (by kernel_rfl) (fun _ _ _ h => h) rfl (fun W _ => by go_simp) hS0 ?_; (intro K hK; go_simp; refine hK _ ?_; clear hK K))
      (refine hK_take 2 (.pointer (some ⟨w.heap.size, 50 + k * 3, none⟩)) rfl (by kernel_rfl) (by kernel_rfl) (by kernel_rfl) (fun _ _ _ h => h) rfl (fun W _ => by go_simp) hS0 ?_; (intro K hK; go_simp; refine hK _ ?_; clear hK K))
      (refine hK_load 3 rfl (by kernel_rfl) (by kernel_rfl) (by kernel_rfl) 22 _ rfl w.heap.size (50 + k * 3) rfl (mc V) _ (fun W hW => hW) 3 (by rw [Hms.out]; omega) _ Try.underlying22 rfl size_a3 _ Hct.out (fun _ _ _ h => h) rfl hS0 ?_; (intro K hK; go_simp; refine hK _ ?_; clear hK K))
      (refine hK_take 4 (.int .i64 (k : Int)) rfl (by kernel_rfl) (by kernel_rfl) (by kernel_rfl) (fun _ _ _ h => h) rfl (fun W _ => by go_simp) hS0 ?_; (intro K hK; go_simp; refine hK _ ?_; clear hK K))
      (refine hK_take 5 (.pointer (some ⟨w.heap.size, 2, none⟩)) rfl (by kernel_rfl) (by kernel_rfl) (by kernel_rfl) (fun _ _ _ h => h) rfl (fun W _ => by go_simp) hS0 ?_; (intro K hK; go_simp; refine hK _ ?_; clear hK K))
      (refine hK_take 6 (.pointer (some ⟨w.heap.size, 2 + k * 3, none⟩)) rfl (by kernel_rfl) (by kernel_rfl) (by kernel_rfl) (fun _ _ _ h => h) rfl (fun W _ => by go_simp) hS0 ?_; (intro K hK; go_simp; refine hK _ ?_; clear hK K))
      (refine hK_load 7 rfl (by kernel_rfl) (by kernel_rfl) (by kernel_rfl) 22 _ rfl w.heap.size (2 + k * 3) rfl (mc V) _ (fun W hW => hW) 3 (by rw [Hms.out]; omega) _ Try.underlying22 rfl size_a3 _ Hcn.out (fun _ _ _ h => h) rfl hS0 ?_; (intro K hK; go_simp; refine hK _ ?_; clear hK K))
      (refine hK_take 8 (.agg #[.int .u8 (V.o k 0), .int .u8 (V.o k 1), .int .u8 (V.o k 2), .int .u8 (V.n k 0), .int .u8 (V.n k 1), .int .u8 (V.n k 2)]) rfl (by kernel_rfl) (by kernel_rfl) (by kernel_rfl) (fun _ _ _ h => h) rfl (fun W _ => by go_simp) hS0 ?_; (intro K hK; go_simp; refine hK _ ?_; clear hK K))
      have hzr := zero_row
      refine wpAnyH_ready (rs := [9]) (by kernel_rfl) (by simp) ?_
      refine AllReadyH.cons rfl (fun K hK => ?_) AllReadyH.nil
      go_simp
      refine hK.out _ _ ((hB.alloc _).drew) (fun hS1 => ?_)
      clear hK K hzr
      have hW1 : Blk (wr.alloc (.cells #[.int .u8 0, .int .u8 0, .int .u8 0, .int .u8 0, .int .u8 0, .int .u8 0] 116)).drew wr.heap.size #[.int .u8 0, .int .u8 0, .int .u8 0, .int .u8 0, .int .u8 0, .int .u8 0] 116 := (Blk.new _ _ _).drew
      have hR1 : Blk (wr.alloc (.cells #[.int .u8 0, .int .u8 0, .int .u8 0, .int .u8 0, .int .u8 0, .int .u8 0] 116)).drew _ _ _ := (hR.alloc _).drew
      have hN1 : Blk (wr.alloc (.cells #[.int .u8 0, .int .u8 0, .int .u8 0, .int .u8 0, .int .u8 0, .int .u8 0] 116)).drew _ _ _ := (hN.alloc _).drew
      have hM1 : OwnRows (wr.alloc (.cells #[.int .u8 0, .int .u8 0, .int .u8 0, .int .u8 0, .int .u8 0, .int .u8 0] 116)).drew (w.heap.size + 1 + 1 + 1) k D := World.ownsMap.drew (World.ownsMap.alloc hM _)
      have hbw1 : Below w.heap.size w (wr.alloc (.cells #[.int .u8 0, .int .u8 0, .int .u8 0, .int .u8 0, .int .u8 0, .int .u8 0] 116)).drew := (hbw.alloc hbw.size _).drew
      have hlt1 := hB.lt
      have hltM : w.heap.size + 1 + 1 + 1 < wr.heap.size := World.ownsMap.lt hM
      generalize (wr.alloc (.cells #[.int .u8 0, .int .u8 0, .int .u8 0, .int .u8 0, .int .u8 0, .int .u8 0] 116)).drew = w1 at *
      clear hB hR hN hM hbw hB0 hR0 hN0 hM0 hbw0 hS0
      refine hK_store 10 rfl (by kernel_rfl) rfl 116 _ _ rfl wr.heap.size 0 (rowC V k) rfl rfl _ _ hW1 (by simp [rowC]) size_row (rowC_one V k) (rowC V k) (by simp [over, rowC]) (fun w2 hs => ⟨hs.keep (by omega) hS1, fun hS2 => ?_⟩)
      (intro K hK; go_simp; refine hK _ ?_; clear hK K)
      refine wpAnyH_done (by kernel_rfl) ?_ _
      have hB2 := hs.keep (by omega) hS1
      have hR2 := hs.keep (by omega) hR1
      have hN2 := hs.keep (by omega) hN1
      have hM2 : OwnRows w2 (w.heap.size + 1 + 1 + 1) k D := hM1.keep (hs.other _ (by omega))
      have hbw2 := hs.below _ _ (by omega) hbw1
      have hX2 := hs.blk
      clear hS1 hS2 hR1 hN1 hM1 hbw1 hW1 hs
      have HcutR : Hid (cut (rowC V k) 0 6 = rowC V k) := Lib.hid (by simp [cut, rowC])
      have hlt2 := hX2.lt
      have hltN := hN2.lt
      obtain ⟨nk, hnk⟩ : ∃ nk, num M L (t + 1) k = nk := ⟨_, rfl⟩
      have hnb : nk ≤ k := by rw [← hnk]; exact num_le _ _ _ _
      have hnn := numsTo_len M L t k
      have hold : (c8 (numsTo M L t k))[k]? = some (.int .u8 ((numsTo M L t k).getD k 0)) := c8_at _ _ (by omega)
      have Hset := Lib.hid (numsTo_set M L t k hk16)
      rw [hnk] at Hset
      generalize (numsTo M L t k).getD k 0 = oldn at hold
      clear hnn
      cases hsn : seenR V k k
      · have hhas : Maps.has D (klR V k) = false := by rw [HD.out.has k hlt, hsn]
        obtain ⟨hsize, hnext⟩ := HD.out.fresh hV Hrow.out (World.ownsMap.tidy hM2 keyed_row) hlt hsn
        rw [hnk] at hsize hnext
        have Hnext := Lib.hid hnext
        have Hsz := Lib.hid hsize
        clear hnext hsize
        have hpl : plainElem (H := Unit) Try.prog 5 (.int .u8 nk) = some (.lit (.int .u8 nk), []) := plainElem_int Try.underlying5 (WalkArith.wf_u8 (by omega))
        have Hpl := Lib.hid hpl
        clear hpl
        go_wp2_with (first | (with_reducible show wpList _ _ _ _ _ _; refine wpList_load_blk rfl 116 (.tmp 6) rfl wr.heap.size 0 rfl (rowC V k) _ hX2 6 (by simp [rowC]) _ Try.underlying116 rfl size_row ?_; rw [HcutR.out]) | (at_lookup; refine wpList_lookup_own_ok_int _ rfl _ _ 114 rfl 116 5 .u8 keyed_row Try.underlying114 Try.underlying5 (zero_u8 _) (w.heap.size + 1 + 1 + 1) k D rfl hM2 _ (klR V k) rfl Hkey.out ?_; intro cN hat hwc; rw [hhas]) | (at_len; refine wpList_len_own _ rfl _ 114 rfl 116 5 Try.underlying114 _ (w.heap.size + 1 + 1 + 1) k D rfl hM2 ?_; rw [Hsz.out]) | (at_mapUpdate; refine wpList_mapUpdate_own _ rfl _ _ _ 114 rfl 116 5 keyed_row Try.underlying114 _ (w.heap.size + 1 + 1 + 1) k D rfl hM2 (by unfold maxLen; omega) _ _ (klR V k) rfl rfl Hkey.out (.lit (.int .u8 nk)) [] Hpl.out ?_; intro w3 hM3 hg3; have hN3 : Blk w3 (w.heap.size + 1 + 1) _ _ := (hg3.block _ hltN (by simp)).trans hN2; have cC := hN3.cell; have fC := hN3.free))
        have hB3 : Blk w3 w.heap.size (mc V) 28 := (hg3.block _ hB2.lt (fun e => by have := Option.some.inj e; omega)).trans hB2
        have hR3 : Blk w3 (w.heap.size + 1) (c8 zer) 91 := (hg3.block _ hR2.lt (fun e => by have := Option.some.inj e; omega)).trans hR2
        have hbw3 : Below w.heap.size w w3 := hbw2.grown hg3 hbw2.size (fun j e => by cases e; omega)
        have hN4 := hN3.set k (.int .u8 nk)
        rw [← c8_set, Hset.out] at hN4
        go_roundw
        case rel => exact ⟨k + 1, _, by omega, by go_num, hB3.setOther _ _ _ (by omega), hR3.setOther _ _ _ (by omega), hN4, OwnRows.keep hM3 (Below.heap_setCell _ _ _ _ (by show w.heap.size + 1 + 1 + 1 ≠ w.heap.size + 1 + 1; omega)), below_set' hbw3 (by omega) _, Hnext⟩
        case measure => simp [intOf] <;> omega
      · have hhas : Maps.has D (klR V k) = true := by rw [HD.out.has k hlt, hsn]
        obtain ⟨hat0, hnext⟩ := HD.out.found hV Hrow.out hlt hsn
        rw [hnk] at hat0
        have Hnext := Lib.hid hnext
        have Hat0 := Lib.hid hat0
        clear hnext hat0
        have cC := hN2.cell
        have fC := hN2.free
        go_wp2_with (first | (with_reducible show wpList _ _ _ _ _ _; refine wpList_load_blk rfl 116 (.tmp 6) rfl wr.heap.size 0 rfl (rowC V k) _ hX2 6 (by simp [rowC]) _ Try.underlying116 rfl size_row ?_; rw [HcutR.out]) | (at_lookup; refine wpList_lookup_own_ok_int _ rfl _ _ 114 rfl 116 5 .u8 keyed_row Try.underlying114 Try.underlying5 (zero_u8 _) (w.heap.size + 1 + 1 + 1) k D rfl hM2 _ (klR V k) rfl Hkey.out ?_; intro cN hat hwc; rw [hhas]))
        have hcN : cN = (nk : Int) := by
          have := Hat0.out.symm.trans hat
          simp at this
          exact this.symm
        have hN4 := hN2.set k (.int .u8 cN)
        rw [← c8_set, hcN, Hset.out] at hN4
        go_roundw
        case rel => exact ⟨k + 1, _, by omega, by go_num, hB2.setOther _ _ _ (by omega), hR2.setOther _ _ _ (by omega), by rw [hcN]; exact hN4, OwnRows.keep (World.ownsMap.mono hM2 (Nat.le_succ k)) (Below.heap_setCell _ _ _ _ (by show w.heap.size + 1 + 1 + 1 ≠ w.heap.size + 1 + 1; omega)), below_set' hbw2 (by omega) _, Hnext⟩
        case measure => simp [intOf] <;> omega
    · obtain rfl : k = S := by omega
      rw [numsTo_all] at hN
      have hcl := clsU_len M L k (t + 1)
      have F1 : Hid (cut (c8 (clsU M L k (t + 1))) 0 16 = c8 (clsU M L k (t + 1))) := Lib.hid (cut_all _ _ (by rw [c8_size, hcl]))
      have F2 : Hid (over (c8 zer) 0 (c8 (clsU M L k (t + 1))) = c8 (clsU M L k (t + 1))) := Lib.hid (over_all _ _ (by rw [c8_size, c8_size, hcl]; rfl))
      have F3 : Hid ((c8 (clsU M L k (t + 1))).size = 16) := Lib.hid (by rw [c8_size, hcl])
      have F4 : Hid ((c8 zer).size = 16) := Lib.hid (by rw [c8_size]; rfl)
      have hltB := hB.lt
      clear hcl
      go_wp2_with (first | (with_reducible show wpList _ _ _ _ _ _; refine wpList_load_blk rfl 91 (.tmp 3) rfl (w.heap.size + 1 + 1) 0 rfl _ _ hN 16 (by rw [F3.out]; omega) _ Try.underlying91 rfl size_c16 ?_; rw [F1.out]) | (with_reducible show wpList _ _ _ _ _ _; refine wpList_store_row rfl 91 (.tmp 2) (.tmp 42) rfl (w.heap.size + 1) 0 _ rfl rfl _ _ hR (by rw [F3.out, F4.out]; omega) (by rw [F3.out]; exact size_c16) (c8_one _) _ F2.out ?_; intro w4 hs4))
      exact bodyPost_cell rfl rfl hs4.blk Try.underlying91 rfl (by rw [F3.out]; exact size_c16) rfl ⟨rfl, hs4.below _ _ (by omega) hbw⟩
end Go.Proofs.Ytdbdoohcpcjfdaa
