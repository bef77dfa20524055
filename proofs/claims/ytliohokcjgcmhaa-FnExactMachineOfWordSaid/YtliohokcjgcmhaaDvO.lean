/- 'divideOnce': sets of rows are divided once. -/
import Derived.Test.YtliohokcjgcmhaaAuP
import Derived.Test.YtliohokcjgcmhaaWordD
import Derived.Test.YtliohokcjgcmhaaBuildK
import Derived.Laws.Tables
namespace Go.Proofs.Ytliohokcjgcmhaa
open Go.RowKit
open Go.Maps

theorem mk_bytes (n : Nat) (hn : n ≤ 1048576) (W : World) : (Instr.makeSlice 69 (.int .i64 n) (.int .i64 n)).run Try.prog W = .ok (.slice (some ⟨W.heap.size, 0, none⟩) n n) (W.alloc (.cells (nats (List.replicate n 0)) 5)) := by
  obtain ⟨i0, hi, hz0, hz1, hz2⟩ := info_parts info5
  have := run_make (P := Try.prog) W 69 5 i0 (.int .u8 0) Try.underlying69 hi hz0 .i64 .i64 n n (by omega) (by omega) (by rw [hz2]; omega) (by omega)
  rw [hz1, Int.toNat_natCast, Nat.mul_one, made_zero] at this
  rw [this]
  simp [nats]
theorem OwnRows.alloc {w : World} {b n : Nat} {D : DataW Unit} (h : OwnRows w b n D) (o : Obj) : OwnRows (w.alloc o) b n D := World.ownsMap.alloc h o
/-- A view, with the first k numbers of sets. -/
def vwP (A : Aut) (L t i k : Nat) : List Int := [rowO A L i 0, rowO A L i 1, rowO A L i 2, if 0 < k then (aNum A L t (rowN A L i 0) : Int) else 0, if 1 < k then (aNum A L t (rowN A L i 1) : Int) else 0, if 2 < k then (aNum A L t (rowN A L i 2) : Int) else 0]
theorem vwP_len (A : Aut) (L t i k : Nat) : (vwP A L t i k).length = 6 := rfl
theorem vwP_all (A : Aut) (L t i : Nat) : vwP A L t i 3 = vw6 A L t i := rfl
theorem vwP_set (A : Aut) (L t i k : Nat) (hk : k < 3) : (vwP A L t i k).set (3 + k) (aNum A L t (rowN A L i k) : Int) = vwP A L t i (k + 1) := by
  rcases (show k = 0 ∨ k = 1 ∨ k = 2 by omega) with rfl | rfl | rfl <;> rfl
def zer6 : List Int := [0, 0, 0, 0, 0, 0]
theorem info_row6 : (Try.prog.info? 137).map (fun i => (i.zero, i.size)) = some (some (.agg (c8 zer6)), 6) := by kernel_rfl
theorem zero_row6 : ∀ w, (zeroValue 137).run Try.prog w = .ok (.agg (c8 zer6)) w := (zero_of_info info_row6).1
theorem size_row6 : (Try.prog.info? 137).map (·.size) = some 6 := (zero_of_info info_row6).2
theorem cut_row (cur : Array Value) (A : Aut) (L i : Nat) (h : ∀ x, x < 3 → cur[i * 6 + x]? = some (.int .u8 (rowO A L i x)) ∧ cur[i * 6 + 3 + x]? = some (.int .u8 (rowN A L i x : Int))) : cut cur (i * 6) 6 = c8 (rowL A L i) := by
  apply Array.ext_getElem?
  intro j
  rw [get_cut]
  by_cases hj : j < 6
  · rw [if_pos hj]
    rcases (show j = 0 ∨ j = 1 ∨ j = 2 ∨ j = 3 ∨ j = 4 ∨ j = 5 by omega) with rfl | rfl | rfl | rfl | rfl | rfl
    · exact (h 0 (by omega)).1
    · exact (h 1 (by omega)).1
    · exact (h 2 (by omega)).1
    · exact (h 0 (by omega)).2
    · exact (h 1 (by omega)).2
    · exact (h 2 (by omega)).2
  · rw [if_neg hj, Array.getElem?_eq_none (by rw [c8_size]; show 6 ≤ j; omega)]
theorem room_row {cur : Array Value} {A : Aut} {L i : Nat} (h : ∀ x, x < 3 → cur[i * 6 + x]? = some (.int .u8 (rowO A L i x)) ∧ cur[i * 6 + 3 + x]? = some (.int .u8 (rowN A L i x : Int))) : i * 6 + 6 ≤ cur.size := by
  have := (h 2 (by omega)).2
  rcases Nat.lt_or_ge (i * 6 + 3 + 2) cur.size with h1 | h1
  · omega
  · rw [Array.getElem?_eq_none (by omega)] at this; cases this

theorem run_index3 (l : List Int) (hl : l.length = 3) (w : World) (k : Nat) (hk : k < 3) : (Instr.index 22 (.agg (c8 l)) (.int .i64 k)).run Try.prog w = .ok (.int .u8 (l.getD k 0)) w := by
  have hu := Try.underlying22
  have h1 : Try.t5.size = 1 := by kernel_rfl
  have hv := c8_at l k (by omega)
  simp only [Instr.index, asIntOf, go_sem, Go.part, Go.sizeOf]
  simp [go_sem, h1, hv, hk, Nat.mul_one]
theorem built_view (a b c : Int) : Try.prog.built 137 [(0, .agg (c8 [a, b, c]))] = some (c8 [a, b, c, 0, 0, 0]) := by kernel_rfl
theorem cut_lo (a b c d e f : Int) : cut (c8 [a, b, c, d, e, f]) 0 3 = c8 [a, b, c] := rfl
theorem cut_hi (a b c d e f : Int) : cut (c8 [a, b, c, d, e, f]) 3 3 = c8 [d, e, f] := rfl
theorem cut_six (l : List Int) (h : l.length = 6) : cut (c8 l) 0 6 = c8 l := cut_all _ _ (by rw [c8_size, h])
theorem over_six (l l' : List Int) (h : l.length = 6) (h' : l'.length = 6) : over (c8 l) 0 (c8 l') = c8 l' := over_all _ _ (by rw [c8_size, c8_size, h, h'])
theorem c8_one' (c : List Int) : (c8 c).all (·.oneCell') = true := by
  rw [Array.all_eq_true_iff_forall_mem]
  intro v hv
  simp only [c8, List.mem_toArray, List.mem_map] at hv
  obtain ⟨n, _, rfl⟩ := hv
  rfl

set_option maxRecDepth 100000 in
set_option maxHeartbeats 4000000 in
theorem divideOnce_calls (A : Aut) (L N t : Nat) (hL : L ≤ 3) (h0 : 0 < N) (hN : N ≤ 256) (hA : A.In L N) (hb : A.Bytes L N) (rv cv : Value) (w : World) (hr : SeesR w rv A L N) (hc : SeesK w cv N (aNum A L t)) :
    Calls Try.prog 116 #[rv, cv] w fun e w' => ∃ v, e = .returned (.tuple #[v, .int .i64 (cntB (aRep A L (t + 1)) N : Nat)]) ∧ OwnN w' w.heap.size v ((List.range N).map (aNum A L (t + 1))) ∧ Below w.heap.size w w' := by
  obtain ⟨gr, capr, curr, rfl, hBr, hcr⟩ := hr
  obtain ⟨gc, capc, curc, rfl, hBc, hcc⟩ := hc
  have hltr := hBr.lt
  have hltc := hBc.lt
  have hmm := @run_makeMap Try.prog
  have hmk := mk_bytes N (by omega)
  let W0 := (w.alloc (.map #[] 0)).alloc (.cells (nats (List.replicate N 0)) 5)
  have hM1 : OwnRows W0 w.heap.size 0 (.map []) := by
    have := World.ownsMap_made (H := Unit) w Try.prog 137 (plainElem Try.prog 5)
    exact World.ownsMap.alloc this _
  have hF1 : Blk W0 (w.heap.size + 1) (nats (List.replicate N 0)) 5 := Blk.new_at _ _ _ _ (by simp)
  have hbel0 : Below w.heap.size w W0 := by show Below _ _ (World.alloc _ _); (repeat (first | exact Below.refl _ _ | refine below_drew' ?_ | refine below_drewN' ?_ _ | refine below_alloc' ?_ _ | refine below_set' ?_ (by (try simp); (try omega)) _ | refine below_step ?_ (by assumption)))
  have Hin := Lib.hid hA
  have Hby := Lib.hid hb
  have Hrow : Hid (∀ W, Below w.heap.size w W → Blk W gr curr 137) := Lib.hid (fun W hW => hBr.keptAll hW)
  have Hcls : Hid (∀ W, Below w.heap.size w W → Blk W gc curc 5) := Lib.hid (fun W hW => hBc.keptAll hW)
  have Hcr := Lib.hid hcr
  have Hcc := Lib.hid hcc
  clear hA hb hBr hBc hcr hcc
  have hz6 := zero_row6
  go_enter Try.func116, Try.ntmps116
  go_wp2
  clear hmm hmk
  have hz6 := zero_row6
  go_loopw [21] (fun i wr => ∃ (k : Nat) (D : DataW Unit), k ≤ N ∧ i = .int .i64 k ∧ OwnRows wr w.heap.size k D ∧ Blk wr (w.heap.size + 1) (nats (aNums A L (t + 1) N k)) 5 ∧ Below w.heap.size w wr ∧ Hid (NMap A L (t + 1) N k (fun i => kl6 (vw6 A L t i)) D)) (fun i _ => N - (intOf i).toNat)
  case atStart => exact ⟨0, _, by omega, rfl, hM1, by rw [aNums_zero]; exact hF1, hbel0, Lib.hid (NMap.start A L (t + 1) N _)⟩
  case round =>
    clear hM1 hF1 hbel0
    obtain ⟨k, D, hk, rfl, hM, hF, hbw, HD⟩ := hrel
    by_cases hlt : k < N
    · obtain ⟨wo, rfl⟩ : ∃ wo : World, wo = wr := ⟨_, rfl⟩
      have hBr := Hrow.out wo hbw
      have Hroom := Lib.hid (room_row (Hcr.out k hlt))
      have Hcut := Lib.hid (cut_row curr A L k (Hcr.out k hlt))
      have hki : (k : Int) < (N : Int) := by omega
      have hX1 : Blk (wo.alloc (.cells (c8 zer6) 137)) wo.heap.size (c8 zer6) 137 := Blk.new _ _ _
      have hM1 : OwnRows (wo.alloc (.cells (c8 zer6) 137)) w.heap.size k D := World.ownsMap.alloc hM _
      have hF1 := hF.alloc (.cells (c8 zer6) 137)
      have hbw1 := below_alloc' hbw (.cells (c8 zer6) 137)
      have hltF := hF.lt
      have hltM := World.ownsMap.lt hM
      have Hkey := Lib.hid (key_six (vw6_bytes Hin.out Hby.out hN t k hlt))
      have Hcl : Hid (cut (c8 (rowL A L k)) 0 3 = c8 [rowO A L k 0, rowO A L k 1, rowO A L k 2]) := Lib.hid rfl
      have Hch : Hid (cut (c8 (rowL A L k)) 3 3 = c8 [(rowN A L k 0 : Int), (rowN A L k 1 : Int), (rowN A L k 2 : Int)]) := Lib.hid rfl
      have Hbu : Hid (Try.prog.built 137 [(0, .agg (c8 [rowO A L k 0, rowO A L k 1, rowO A L k 2]))] = some (c8 (vwP A L t k 0))) := Lib.hid (built_view _ _ _)
      have hix : ∀ x : Nat, x < 3 → ∀ W, (Instr.index 22 (.agg (c8 [(rowN A L k 0 : Int), (rowN A L k 1 : Int), (rowN A L k 2 : Int)])) (.int .i64 x)).run Try.prog W = .ok (.int .u8 (rowN A L k x : Int)) W := fun x hx W => by
        rw [run_index3 _ rfl W x hx]
        rcases (show x = 0 ∨ x = 1 ∨ x = 2 by omega) with rfl | rfl | rfl <;> rfl
      have Hix := Lib.hid hix
      clear hix
      have Q1 : Hid (0 + (c8 (rowL A L k)).size ≤ (c8 zer6).size) := Lib.hid (by rw [c8_size, c8_size]; exact Nat.le_refl 6)
      have Q2 : Hid ((Try.prog.info? 137).map (·.size) = some (c8 (rowL A L k)).size) := Lib.hid (by rw [c8_size]; exact size_row6)
      have Q3 : Hid (over (c8 zer6) 0 (c8 (rowL A L k)) = c8 (rowL A L k)) := Lib.hid (over_six _ _ rfl rfl)
      have Q4 : Hid (0 + 3 ≤ (c8 (rowL A L k)).size) := Lib.hid (by rw [c8_size]; exact (by decide : 0 + 3 ≤ 6))
      have Q5 : Hid (3 + 3 ≤ (c8 (rowL A L k)).size) := Lib.hid (by rw [c8_size]; exact Nat.le_refl 6)
      have Q6 : Hid (0 + (c8 (vwP A L t k 0)).size ≤ (c8 zer6).size) := Lib.hid (by rw [c8_size, c8_size]; exact Nat.le_refl 6)
      have Q7 : Hid ((Try.prog.info? 137).map (·.size) = some (c8 (vwP A L t k 0)).size) := Lib.hid (by rw [c8_size]; exact size_row6)
      have Q8 : Hid (over (c8 zer6) 0 (c8 (vwP A L t k 0)) = c8 (vwP A L t k 0)) := Lib.hid (over_six _ _ rfl rfl)
      have O1 := Lib.hid (c8_one' (rowL A L k))
      have O2 := Lib.hid (c8_one' (vwP A L t k 0))
      generalize c8 [rowO A L k 0, rowO A L k 1, rowO A L k 2] = lo at *
      generalize c8 [(rowN A L k 0 : Int), (rowN A L k 1 : Int), (rowN A L k 2 : Int)] = hi at *
      generalize c8 (rowL A L k) = rl at *
      generalize hz : c8 zer6 = zr at *
      clear hz
      go_wp2_with (first | (with_reducible show wpList _ _ _ _ _ _; refine wpList_load_blk rfl 137 (.tmp 24) rfl gr (k * 6) rfl curr _ hBr 6 Hroom.out _ Try.underlying137 rfl size_row6 ?_; rw [Hcut.out]) | (with_reducible show wpList _ _ _ _ _ _; refine wpList_store_row rfl 137 (.tmp 9) (.tmp 25) rfl wo.heap.size 0 rl rfl rfl _ _ hX1 Q1.out Q2.out O1.out _ Q3.out ?_; intro w2 hs2; have hX2 := hs2.blk; have hs2z := hs2.size; simp at hs2z; have hM2 : OwnRows w2 w.heap.size k D := hM1.keep (hs2.other _ (by omega)); have hF2 := hs2.keep (by omega) hF1; have hbw2 := hs2.below _ _ (by omega) hbw1; clear hs2 hX1 hM1 hF1 hbw1) | (with_reducible show wpList _ _ _ _ _ _; refine wpList_load_blk rfl 22 (.tmp 26) rfl wo.heap.size 0 rfl _ _ hX2 3 Q4.out _ Try.underlying22 rfl size_a3 ?_; rw [Hcl.out]) | (with_reducible show wpList _ _ _ _ _ _; refine wpList_build1 rfl 137 0 (.tmp 27) rfl (.agg lo) rfl (c8 (vwP A L t k 0)) Hbu.out ?_; have hX3 := hX2.alloc (.cells zr 137); have hM3 := hM2.alloc (.cells zr 137); have hF3 := hF2.alloc (.cells zr 137); have hbw3 := below_alloc' hbw2 (.cells zr 137); have hY3 : Blk (w2.alloc (.cells zr 137)) (wo.heap.size + 1) zr 137 := Blk.new_at _ _ _ _ hs2z.symm; have hl2 := hX2.lt) | (with_reducible show wpList _ _ _ _ _ _; refine wpList_store_row rfl 137 (.tmp 10) (.tmp 28) rfl (wo.heap.size + 1) 0 _ rfl rfl _ _ hY3 Q6.out Q7.out O2.out _ Q8.out ?_; intro w4 hs4; have hY4 := hs4.blk; have hM4 : OwnRows w4 w.heap.size k D := hM3.keep (hs4.other _ (by omega)); have hF4 := hs4.keep (by omega) hF3; have hX4 := hs4.keep (by omega) hX3; have hbw4 := hs4.below _ _ (by omega) hbw3; clear hs4 hX3 hM3 hF3 hbw3 hY3) | (with_reducible show wpList _ _ _ _ _ _; refine wpList_load_blk rfl 22 (.tmp 29) rfl wo.heap.size 3 rfl _ _ hX4 3 Q5.out _ Try.underlying22 rfl size_a3 ?_; rw [Hch.out]))
      clear Hbu Hcl Hch Q1 Q2 Q3 Q4 Q5 Q6 Q7 Q8 O1 O2 Hcut Hroom hBr
      have hltX := hX4.lt
      have hltY := hY4.lt
      go_loopw [31] (fun i wr => ∃ x : Nat, x ≤ 3 ∧ i = .int .i64 x ∧ OwnRows wr w.heap.size k D ∧ Blk wr (w.heap.size + 1) (nats (aNums A L (t + 1) N k)) 5 ∧ Blk wr (wo.heap.size + 1) (c8 (vwP A L t k x)) 137 ∧ Below w.heap.size w wr ∧ wo.heap.size + 1 < wr.heap.size) (fun i _ => 3 - (intOf i).toNat)
      case atStart => exact ⟨0, by omega, rfl, hM4, hF4, hY4, hbw4, hltY⟩
      case round =>
        clear hM4 hF4 hX4 hY4 hbw4 hltX hltY hM hF hbw hl2 hX2 hs2z
        obtain ⟨x, hx, rfl, hM, hF, hY, hbw, hltY⟩ := hrel
        by_cases hx3 : x < 3
        · have hi := Hix.out x hx3
          have hx3i : (x : Int) < 3 := by omega
          have hBc := Hcls.out wr hbw
          have hcc := (hBc.cell (rowN A L k x)).trans (Hcc.out _ (rowN_lt Hin.out hlt x))
          have hnl : ((rowN A L k x : Int)) < (N : Int) := by have := rowN_lt Hin.out hlt x; omega
          have hcY := hY.cell (3 + x)
          have hfY := hY.free
          have Hset := Lib.hid (vwP_set A L t k x hx3)
          have hold : (c8 (vwP A L t k x))[3 + x]? = some (.int .u8 ((vwP A L t k x).getD (3 + x) 0)) := c8_at _ _ (by rw [vwP_len]; omega)
          rw [hold] at hcY
          generalize (vwP A L t k x).getD (3 + x) 0 = old at hcY
          clear hold
          have hY1 := hY.set (3 + x) (.int .u8 (aNum A L t (rowN A L k x) : Int))
          rw [← c8_set, Hset.out] at hY1
          generalize rowN A L k x = y at *
          generalize aNum A L t y = c at *
          go_wp2
          go_roundw
          case rel => exact ⟨x + 1, by omega, by go_num, OwnRows.keep hM (Below.heap_setCell _ _ _ _ (by show w.heap.size ≠ wo.heap.size + 1; omega)), hF.setOther _ _ _ (by omega), hY1, below_set' hbw (by omega) _, by simpa using hltY⟩
          case measure => simp [intOf] <;> omega
        · obtain rfl : x = 3 := by omega
          rw [vwP_all] at hY
          have HcutR : Hid (cut (c8 (vw6 A L t k)) 0 6 = c8 (vw6 A L t k)) := Lib.hid (cut_six _ rfl)
          have Hv6 : Hid (0 + 6 ≤ (c8 (vw6 A L t k)).size) := Lib.hid (by rw [c8_size]; exact Nat.le_refl 6)
          have Hkc : Hid (keyOf Try.prog 137 (.agg (c8 (vw6 A L t k))) = some (kl6 (vw6 A L t k))) := Lib.hid Hkey.out
          obtain ⟨nk, hnk⟩ : ∃ nk, aNum A L (t + 1) k = nk := ⟨_, rfl⟩
          have hnb : nk ≤ k := by rw [← hnk]; exact aNum_le _ _ _ _
          have hold : (nats (aNums A L (t + 1) N k))[k]? = some (.int .u8 ((aNums A L (t + 1) N k).getD k 0 : Int)) := nats_at _ _ (by rw [aNums_len]; omega)
          have Hset := Lib.hid (aNums_set A L (t + 1) N k)
          rw [hnk] at Hset
          generalize (aNums A L (t + 1) N k).getD k 0 = oldn at hold
          have hltY2 := hY.lt
          have hltF2 := hF.lt
          have hltM2 := World.ownsMap.lt hM
          have hkl : ∀ p q, p < N → q < N → (kl6 (vw6 A L t p) = kl6 (vw6 A L t q) ↔ aEq A L (t + 1) p q = true) := fun p q hp hq => (kl6_iff (vw6_bytes Hin.out Hby.out hN t p hp) (vw6_bytes Hin.out Hby.out hN t q hq)).trans (vw6_iff hL t p q)
          cases hsn : seenQ A L (t + 1) k k
          · have hhas : Maps.has D (kl6 (vw6 A L t k)) = false := by rw [HD.out.has k hlt, hsn]
            obtain ⟨hsize, hnext⟩ := HD.out.fresh (fun p => isKey_kl6 _) hkl (World.ownsMap.tidy hM keyed_row) hlt hsn
            rw [hnk] at hsize hnext
            have Hnext := Lib.hid hnext
            have Hsz := Lib.hid hsize
            clear hnext hsize hkl
            have hpl : plainElem (H := Unit) Try.prog 5 (.int .u8 nk) = some (.lit (.int .u8 nk), []) := plainElem_int Try.underlying5 (WalkArith.wf_u8 (by omega))
            have Hpl := Lib.hid hpl
            clear hpl
            have hw8 : IntKind.u8.wrap (nk : Int) = (nk : Int) := by simp [IntKind.wrap, IntKind.bits, IntKind.signed]; omega
            go_wp2_with (first | (with_reducible show wpList _ _ _ _ _ _; refine wpList_load_blk rfl 137 (.tmp 10) rfl (wo.heap.size + 1) 0 rfl _ _ hY 6 Hv6.out _ Try.underlying137 rfl size_row6 ?_; rw [HcutR.out]) | (at_lookup; refine wpList_lookup_own_ok_int _ rfl _ _ 188 rfl 137 5 .u8 keyed_row Try.underlying188 Try.underlying5 (zero_u8 _) w.heap.size k D rfl hM _ (kl6 (vw6 A L t k)) rfl Hkc.out ?_; intro cN hat hwc; rw [hhas]) | (at_len; refine wpList_len_own _ rfl _ 188 rfl 137 5 Try.underlying188 _ w.heap.size k D rfl hM ?_; rw [Hsz.out]) | (at_mapUpdate; refine wpList_mapUpdate_own _ rfl _ _ _ 188 rfl 137 5 keyed_row Try.underlying188 _ w.heap.size k D rfl hM (by unfold maxLen; omega) _ _ (kl6 (vw6 A L t k)) rfl rfl Hkc.out (.lit (.int .u8 nk)) [] Hpl.out ?_; intro w3 hM3 hg3; have hF3 : Blk w3 (w.heap.size + 1) _ _ := (hg3.block _ hltF2 (by simp)).trans hF; have cF := hF3.cell k; rw [hold] at cF; have fF := hF3.free))
            have hbw3 : Below w.heap.size w w3 := hbw.grown hg3 hbw.size (fun j e => by cases e; omega)
            have hF4 := hF3.set k (.int .u8 nk)
            rw [← nats_set, Hset.out] at hF4
            go_roundw
            case rel => exact ⟨k + 1, _, by omega, by go_num, OwnRows.keep hM3 (Below.heap_setCell _ _ _ _ (by show w.heap.size ≠ w.heap.size + 1; omega)), hF4, below_set' hbw3 (by omega) _, Hnext⟩
            case measure => simp [intOf] <;> omega
          · have hhas : Maps.has D (kl6 (vw6 A L t k)) = true := by rw [HD.out.has k hlt, hsn]
            obtain ⟨hat0, hnext⟩ := HD.out.found hkl hlt hsn
            rw [hnk] at hat0
            have Hnext := Lib.hid hnext
            have Hat0 := Lib.hid hat0
            clear hnext hat0 hkl
            have cF := hF.cell k
            rw [hold] at cF
            have fF := hF.free
            go_wp2_with (first | (with_reducible show wpList _ _ _ _ _ _; refine wpList_load_blk rfl 137 (.tmp 10) rfl (wo.heap.size + 1) 0 rfl _ _ hY 6 Hv6.out _ Try.underlying137 rfl size_row6 ?_; rw [HcutR.out]) | (at_lookup; refine wpList_lookup_own_ok_int _ rfl _ _ 188 rfl 137 5 .u8 keyed_row Try.underlying188 Try.underlying5 (zero_u8 _) w.heap.size k D rfl hM _ (kl6 (vw6 A L t k)) rfl Hkc.out ?_; intro cN hat hwc; rw [hhas]))
            have hcN : cN = (nk : Int) := by
              have := Hat0.out.symm.trans hat
              simp at this
              exact this.symm
            have hF4 := hF.set k (.int .u8 cN)
            rw [hcN, ← nats_set, Hset.out] at hF4
            go_roundw
            case rel => exact ⟨k + 1, _, by omega, by go_num, OwnRows.keep (World.ownsMap.mono hM (Nat.le_succ k)) (Below.heap_setCell _ _ _ _ (by show w.heap.size ≠ w.heap.size + 1; omega)), by rw [hcN]; exact hF4, below_set' hbw (by omega) _, Hnext⟩
            case measure => simp [intOf] <;> omega
    · obtain rfl : N = k := by omega
      rw [aNums_all] at hF
      have Hsz := Lib.hid HD.out.size
      go_wp2_with (at_len; refine wpList_len_own _ rfl _ 188 rfl 137 5 Try.underlying188 _ w.heap.size N D rfl hM ?_; rw [Hsz.out])
      go_ret2
      refine ⟨_, rfl, ?_, hbw⟩
      have := OwnN.made (base := w.heap.size) (ks := (List.range N).map (aNum A L (t + 1))) (by omega) hF rfl (by simp; omega)
      simpa using this
end Go.Proofs.Ytliohokcjgcmhaa
