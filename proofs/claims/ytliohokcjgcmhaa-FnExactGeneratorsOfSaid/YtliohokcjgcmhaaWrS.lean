/- Wreath recursions: plain data; lists of lists that a call fills or appends to. · 'wreath' and 'WreathOf': the program. -/
import Derived.Test.YtliohokcjgcmhaaLvB
import Derived.Test.YtliohokcjgcmhaaLedT
import Derived.Test.YtliohokcjgcmhaaMinW
import Derived.Test.YtliohokcjgcmhaaGrpT
import Derived.Test.YtliohokcjgcmhaaInvI
import Derived.Test.YtliohokcjgcmhaaStoreK
import Derived.Test.YtliohokcjgcmhaaMinC
import Derived.Test.YtliohokcjgcmhaaMinT
namespace Go.Proofs.Ytliohokcjgcmhaa
open Go.RowKit

def imK (M : Mach) (zs : List Int) (k : Nat) : List Int := (List.range k).map fun x => ((ledG M zs x).1 : Int)
def secK (M : Mach) (zs : List Int) (k : Nat) : List (List Int) := (List.range k).map fun x => (ledG M zs x).2
theorem imK_len (M : Mach) (zs : List Int) (k : Nat) : (imK M zs k).length = k := by simp [imK]
theorem secK_len (M : Mach) (zs : List Int) (k : Nat) : (secK M zs k).length = k := by simp [secK]
theorem imK_succ (M : Mach) (zs : List Int) (k : Nat) : imK M zs (k + 1) = imK M zs k ++ [((ledG M zs k).1 : Int)] := by simp [imK, List.range_succ]
theorem secK_succ (M : Mach) (zs : List Int) (k : Nat) : secK M zs (k + 1) = secK M zs k ++ [(ledG M zs k).2] := by simp [secK, List.range_succ]
/-- The first k of n places are filled. -/
def imP (M : Mach) (zs : List Int) (n k : Nat) : List Int := (List.range n).map fun x => if x < k then ((ledG M zs x).1 : Int) else 0
def secP (M : Mach) (zs : List Int) (n k : Nat) : List (List Int) := (List.range n).map fun x => if x < k then (ledG M zs x).2 else []
theorem imP_len (M : Mach) (zs : List Int) (n k : Nat) : (imP M zs n k).length = n := by simp [imP]
theorem secP_len (M : Mach) (zs : List Int) (n k : Nat) : (secP M zs n k).length = n := by simp [secP]
theorem imP_zero (M : Mach) (zs : List Int) (n : Nat) : imP M zs n 0 = List.replicate n 0 := by simp [imP, List.map_const']
theorem secP_zero (M : Mach) (zs : List Int) (n : Nat) : secP M zs n 0 = List.replicate n [] := by simp [secP, List.map_const']
theorem imP_all (M : Mach) (zs : List Int) (n : Nat) : imP M zs n n = imK M zs n := by
  unfold imP imK
  exact List.map_congr_left fun x hx => by rw [if_pos (by simpa using hx)]
theorem secP_all (M : Mach) (zs : List Int) (n : Nat) : secP M zs n n = secK M zs n := by
  unfold secP secK
  exact List.map_congr_left fun x hx => by rw [if_pos (by simpa using hx)]
theorem imP_set (M : Mach) (zs : List Int) (n k : Nat) (v : Int) (hv : v = ((ledG M zs k).1 : Int)) : (imP M zs n k).set k v = imP M zs n (k + 1) := by
  subst hv
  apply List.ext_getElem
  · simp [imP]
  · intro i h1 h2
    simp only [imP, List.getElem_set, List.getElem_map, List.getElem_range]
    by_cases h : k = i
    · subst h; simp
    · rw [if_neg h]
      by_cases h3 : i < k
      · rw [if_pos h3, if_pos (by omega)]
      · rw [if_neg h3, if_neg (by omega)]
theorem secP_set (M : Mach) (zs : List Int) (n k : Nat) : (secP M zs n k).set k (ledG M zs k).2 = secP M zs n (k + 1) := by
  apply List.ext_getElem
  · simp [secP]
  · intro i h1 h2
    simp only [secP, List.getElem_set, List.getElem_map, List.getElem_range]
    by_cases h : k = i
    · subst h; simp
    · rw [if_neg h]
      by_cases h3 : i < k
      · rw [if_pos h3, if_pos (by omega)]
      · rw [if_neg h3, if_neg (by omega)]
theorem imP_at (M : Mach) (zs : List Int) (n k x : Nat) (hx : x < k) (hn : x < n) : (imP M zs n k).getD x 0 = ((ledG M zs x).1 : Int) := by
  unfold imP
  rw [List.getD, List.getElem?_map, List.getElem?_range hn]
  simp [hx]
def wrI (M : Mach) (zs : List Int) : List Int := if isGrp M zs then imK M zs M.L.toNat else []
def wrS (M : Mach) (zs : List Int) : List (List Int) := if isGrp M zs then secK M zs M.L.toNat else []
theorem wr_good {M : Mach} {L S : Nat} (hg : Good M L S) {zs : List Int} (h : isGrp M zs = true) : wrI M zs = imK M zs L ∧ wrS M zs = secK M zs L := by
  simp [wrI, wrS, h, hg.hL]
theorem nums_of {M : Mach} {L S : Nat} (hg : Good M L S) {zs : List Int} (h : isGrp M zs = true) : numsOk S zs = true := by
  have h2 := (isGrp_parts h).2
  rw [hg.hS] at h2
  simp [grpOk] at h2
  exact h2.2

end Go.Proofs.Ytliohokcjgcmhaa

namespace Go.Proofs.Ytliohokcjgcmhaa
open Go.RowKit

theorem apart_step {iv sv v1 v2 v5 : Value} {vs : List Value} {nr n6 n8 : Nat} (hap : ∀ q, iv.ownBlock = some q → ¬ inLV sv vs q) (hi : ∀ q, iv.ownBlock = some q → q < nr) (hs : ∀ q, inLV sv vs q → q < nr) (h5 : ∀ q, v5.ownBlock = some q → nr ≤ q ∧ q < n6)
    (h1 : v1.ownBlock = iv.ownBlock ∨ v1.ownBlock = some n6) (h2 : v2.ownBlock = sv.ownBlock ∨ v2.ownBlock = some n8) (hn : nr ≤ n6) (hn8 : n6 < n8) : ∀ q, v1.ownBlock = some q → ¬ inLV v2 (vs ++ [v5]) q := by
  intro q hq hin
  have hq1 : (iv.ownBlock = some q) ∨ q = n6 := by
    rcases h1 with e | e
    · exact .inl (e ▸ hq)
    · rw [e] at hq; cases hq; exact .inr rfl
  rcases inLV_push (v := sv) hin with h | h | h
  · rcases h2 with e | e
    · have h3 : sv.ownBlock = some q := e ▸ h
      rcases hq1 with h4 | h4
      · exact hap q h4 (.inl h3)
      · have := hs q (.inl h3); omega
    · rw [e] at h; cases h
      rcases hq1 with h4 | h4
      · have := hi _ h4; omega
      · omega
  · rcases hq1 with h4 | h4
    · exact hap q h4 h
    · have := hs q h; omega
  · have h6 := h5 q h
    rcases hq1 with h4 | h4
    · have := hi _ h4; omega
    · omega
theorem ret_vvi {v u : Value} {m m' : Int} (h' : m = m') : Ending.returned (.tuple #[v, u, .int .i64 m]) = Ending.returned (.tuple #[v, u, .int .i64 m']) := by rw [h']

end Go.Proofs.Ytliohokcjgcmhaa

namespace Go.Proofs.Ytliohokcjgcmhaa
open Go.RowKit

theorem below_setB {B : Nat} {w X : World} {b o : Nat} (h : Below B w X) (hp : B ≤ b) (u : Value) : Below B w (X.setCell ⟨b, o, none⟩ u) := h.setCell hp u
def zer3 : List Int := List.replicate 3 0
theorem info_b3 : (Try.prog.info? 22).map (fun i => (i.zero, i.size)) = some (some (.agg (c8 zer3)), 3) := by kernel_rfl
theorem zero_b3 : ∀ w, (zeroValue 22).run Try.prog w = .ok (.agg (c8 zer3)) w := (zero_of_info info_b3).1
theorem size_b3 : (Try.prog.info? 22).map (·.size) = some 3 := (zero_of_info info_b3).2

set_option maxRecDepth 100000 in
set_option maxHeartbeats 2000000 in
theorem wreath_calls (M : Mach) (L S : Nat) (hg : Good M L S) (b : Nat) (v : Value) (zs : List Int) (hz : numsOk S zs = true) (hn : zs.length ≤ 1048576) (w : World) (hB : MAt w b M) (hv : SeesI w v zs) :
    Calls Try.prog 114 #[.pointer (some ⟨b, 0, none⟩), v] w fun e w' => ∃ v2 vs, e = .returned (.tuple #[.agg (c8 (imP M zs 3 L)), v2]) ∧ OwnLV w' w.heap.size v2 vs (secK M zs L) ∧ Below w.heap.size w w' := by
  have hL3 := hg.L3
  have hS16 := hg.S16
  have hz3 := zero_b3
  have hltB := hB.lt
  have hmk := mk_lists L (by omega)
  have Hz3 : Hid ((c8 zer3).size = 3) := Lib.hid (by rw [c8_size]; rfl)
  have hR0 : Blk (w.alloc (.cells (c8 zer3) 22)) w.heap.size (c8 zer3) 22 := Blk.new w _ _
  have hbw0 : Below w.heap.size w (w.alloc (.cells (c8 zer3) 22)) := by (repeat (first | exact Below.refl _ _ | refine below_drew' ?_ | refine below_drewN' ?_ _ | refine below_alloc' ?_ _ | refine below_set' ?_ (by (try simp); (try omega)) _ | refine below_step ?_ (by assumption)))
  have hvI := hv.below hbw0
  have HBw := Lib.hid hB
  have Hnum := Lib.hid hz; clear hz
  have hcL := mc_L M
  rw [hg.hL] at hcL
  have Hg := Lib.hid hg
  clear hv hB hg
  go_enter Try.func114, Try.ntmps114
  go_wp2_with (go_at_call 160; refine (stepsOf_calls b _ zs (smallG_of hS16 Hnum.out) hn _ hvI).mono ?_; rintro e w3 ⟨g3, rfl, hg3, hG3, hb3⟩; have hB3 := HBw.out.kept (below_step hbw0 hb3) hltB; have cA := ((hB3.keptAll (show Below w3.heap.size w3 (w3.alloc (.cells (c8 zer3) 22)) by (repeat (first | exact Below.refl _ _ | refine below_drew' ?_ | refine below_drewN' ?_ _ | refine below_alloc' ?_ _ | refine below_set' ?_ (by (try simp); (try omega)) _ | refine below_step ?_ (by assumption))))).at 0 (by omega)).trans hcL)
  have hlt3 := (hR0.keptAll hb3).lt
  have hltG := hG3.lt
  have hR4 := ((hR0.keptAll hb3).alloc (.cells (c8 zer3) 22)).alloc (.cells (nils L) 26)
  have hC4 : Blk ((w3.alloc (.cells (c8 zer3) 22)).alloc (.cells (nils L) 26)) w3.heap.size (c8 zer3) 22 := (Blk.new w3 _ _).alloc _
  have hS4 : Blk ((w3.alloc (.cells (c8 zer3) 22)).alloc (.cells (nils L) 26)) (w3.heap.size + 1) (nils L) 26 := Blk.new_at _ _ _ _ (by simp)
  have hO4 := OwnLV.made (n := L) (by unfold maxLen; omega) (Nat.le_refl _) hS4
  have hb34 : Below w3.heap.size w3 ((w3.alloc (.cells (c8 zer3) 22)).alloc (.cells (nils L) 26)) := by (repeat (first | exact Below.refl _ _ | refine below_drew' ?_ | refine below_drewN' ?_ _ | refine below_alloc' ?_ _ | refine below_set' ?_ (by (try simp); (try omega)) _ | refine below_step ?_ (by assumption)))
  have hbw4 := below_step (below_step hbw0 hb3) hb34
  have hlt4 := hS4.lt
  have HG3 := Lib.hid hG3
  have HB3 := Lib.hid hB3
  have hbb3 : b < w3.heap.size := by omega
  clear hS4 hb3 hbw0 hR0 hvI hz3 hmk hB3 cA hG3
  generalize (w3.alloc (.cells (c8 zer3) 22)).alloc (.cells (nils L) 26) = w4 at *
  generalize hii : w3.heap.size = i0 at *
  go_loopw [20] (fun i wr => ∃ (k : Nat) (vs : List Value), k ≤ L ∧ i = .int .i64 k ∧ Blk wr w.heap.size (c8 zer3) 22 ∧ Blk wr i0 (c8 (imP M zs 3 k)) 22 ∧ OwnLV wr (i0 + 1) (.slice (some ⟨i0 + 1, 0, none⟩) L L) vs (secP M zs L k) ∧ i0 + 1 < wr.heap.size ∧ Below i0 w3 wr ∧ Below w.heap.size w wr) (fun i _ => L - (intOf i).toNat)
  case atStart => exact ⟨0, _, by omega, rfl, hR4, by rw [imP_zero]; exact hC4, by rw [secP_zero]; exact hO4, hlt4, hb34, hbw4⟩
  case round =>
    clear hR4 hC4 hO4 hlt4 hb34 hbw4
    obtain ⟨k, vs, hk, rfl, hR, hC, hO, hge, hb3r, hbw⟩ := hrel
    by_cases hlt : k < L
    · have hki : (k : Int) < L := by omega
      have hk3 : (k : Int) < 3 := by omega
      have hw8 : IntKind.u8.wrap (k : Int) = (k : Int) := by simp [IntKind.wrap, IntKind.bits, IntKind.signed]; omega
      have hvl : k < vs.length := by rw [hO.len, secP_len]; exact hlt
      have hvl2 : vs.length = L := by rw [hO.len, secP_len]
      have hGr := HG3.out.kept hb3r (by omega)
      have hBr := HB3.out.kept hb3r (by omega)
      have Hstep := Lib.hid (throughSteps_calls M L S Hg.out b g3 zs Hnum.out hn k hlt wr hBr hGr)
      have e1 := c8_at (imP M zs 3 k) k (by rw [imP_len]; omega)
      generalize (imP M zs 3 k).getD k 0 = old1 at e1
      have Hset := Lib.hid (imP_set M zs 3 k _ rfl)
      have Hsec := Lib.hid (secP_set M zs L k)
      have hltO := Lib.hid (fun q hq => (hO.lt q hq))
      clear hGr hBr
      generalize (ledG M zs k).1 = y at *
      generalize (ledG M zs k).2 = nx at *
      go_wp2_with (go_at_call 161; refine Hstep.out.mono ?_; rintro e w5 ⟨v0, rfl, hO5, hb5⟩; obtain ⟨o5, c5, rfl, hq5⟩ := hO5.view; clear hq5; have hs5 := hb5.size; have hC5 := hC.keptAll hb5; have cC := hC5.cell; have fC := hC5.free; have hL5 := hO.below hb5; have hC6 := hC5.set k (.int .u8 (y : Int)); have hL6 : OwnLV (w5.setCell ⟨i0, k, none⟩ (.int .u8 (y : Int))) (i0 + 1) (.slice (some ⟨i0 + 1, 0, none⟩) L L) vs (secP M zs L k) := (hL5.same (fun q hq => Below.heap_setCell _ _ _ q (by have := (hltO.out q hq).1; show q ≠ i0; omega))); have hU6 : OwnI (w5.setCell ⟨i0, k, none⟩ (.int .u8 (y : Int))) (i0 + 1) (.slice o5 nx.length c5) nx := (owns_same (hO5.base_le (by omega)) (fun q hq => Below.heap_setCell _ _ _ q (by have := (World.ownsRow.lt hO5 q hq).1; show q ≠ i0; omega))); have hcell := hL5.cell k hvl; have hrow5 := hL5.row; rw [hvl2] at hrow5; have hfr := World.ownsRow.frozenAt hrow5 k; have hcell6 := hL6.cell k hvl; have hrow6 := hL6.row; rw [hvl2] at hrow6; have hfr6 := World.ownsRow.frozenAt hrow6 k; clear hrow5 hrow6; generalize vs[k] = oldv at hcell hcell6)
      have hL7 := hL6.put (i := k) (.slice o5 nx.length c5) nx hU6 (fun q h1 h2 => by have q1 := (hltO.out q h2).2; have q2 := (World.ownsRow.lt hO5 q h1).1; omega)
      rw [← c8_set, Hset.out] at hC6
      rw [Hsec.out] at hL7
      have hC7 := hC6.setOther (i0 + 1) k (.slice o5 nx.length c5) (by omega)
      have hR7 := ((hR.keptAll hb5).setOther i0 k (.int .u8 (y : Int)) (by omega)).setOther (i0 + 1) k (.slice o5 nx.length c5) (by omega)
      have hb7 := below_setB (o := k) (below_setB (o := k) (below_stepB hb3r (by omega) hb5) (b := i0) (Nat.le_refl _) (.int .u8 (y : Int))) (b := i0 + 1) (by omega) (.slice o5 nx.length c5)
      have hbw7 := below_set' (o := k) (below_set' (o := k) (below_step hbw hb5) (b := i0) (by omega) (.int .u8 (y : Int))) (b := i0 + 1) (by omega) (.slice o5 nx.length c5)
      go_roundw
      case rel => exact ⟨k + 1, _, by omega, by go_num, hR7, hC7, hL7, by simp; omega, hb7, hbw7⟩
      case measure => simp [intOf] <;> omega
    · obtain rfl : k = L := by omega
      rw [secP_all] at hO
      have Hcs : Hid ((c8 (imP M zs 3 k)).size = 3) := Lib.hid (by rw [c8_size, imP_len])
      have Hcc : Hid (cut (c8 (imP M zs 3 k)) 0 3 = c8 (imP M zs 3 k)) := Lib.hid (cut_all _ _ Hcs.out)
      have Hov : Hid (over (c8 zer3) 0 (c8 (imP M zs 3 k)) = c8 (imP M zs 3 k)) := Lib.hid (over_all _ _ (by rw [Hcs.out, Hz3.out]))
      have hltO := Lib.hid (fun q hq => (hO.lt q hq).1)
      go_wp2_with (first | (with_reducible show wpList _ _ _ _ _ _; refine wpList_load_blk rfl 22 (.tmp 7) rfl i0 0 rfl (c8 (imP M zs 3 k)) _ hC 3 (by rw [Hcs.out]; omega) _ Try.underlying22 rfl size_b3 ?_; rw [Hcc.out]) | (with_reducible show wpList _ _ _ _ _ _; refine wpList_store_row rfl 22 (.tmp 4) (.tmp 36) rfl w.heap.size 0 (c8 (imP M zs 3 k)) rfl rfl _ _ hR (by rw [Hz3.out, Hcs.out]; omega) (by rw [Hcs.out]; exact size_b3) (c8_one _) _ Hov.out ?_; intro w8 hs8))
      exact bodyPost_cell1 rfl rfl hs8.blk Try.underlying22 rfl (by rw [Hcs.out]; exact size_b3) rfl ⟨_, vs, rfl, (hO.same (fun q hq => hs8.other q (by have := hltO.out q hq; omega))).base_le (by omega), hs8.below _ _ (by omega) hbw⟩

theorem offs_bd (zss : List (List Int)) (n : Nat) (h : ∀ zs ∈ zss, zs.length ≤ n) : ∀ j, j ≤ zss.length → offs zss j ≤ j * n
  | 0, _ => by rw [offs_zero]; omega
  | j + 1, hj => by
    have h1 := offs_bd zss n h j (by omega)
    rw [offs_succ zss j (by omega), Nat.succ_mul]
    have h2 := h _ (List.getElem_mem (show j < zss.length by omega))
    omega
theorem wrI_len {M : Mach} (hok : M.Ok) (zs : List Int) : (wrI M zs).length ≤ 100000 := by
  cases h : isGrp M zs
  · simp [wrI, h]
  · obtain ⟨L, S, hg⟩ := Good.of hok (isGrp_parts h).1
    have := hg.L3
    rw [(wr_good hg h).1, imK_len]; omega
theorem wrS_len {M : Mach} (hok : M.Ok) (zs : List Int) : (wrS M zs).length ≤ 100000 ∧ offs (wrS M zs) (wrS M zs).length ≤ 100000 := by
  cases h : isGrp M zs
  · simp [wrS, h, offs]
  · obtain ⟨L, S, hg⟩ := Good.of hok (isGrp_parts h).1
    have h3 := hg.L3
    have hl := isGrp_len h
    rw [(wr_good hg h).2, secK_len]
    have hb := offs_bd (secK M zs L) 40 (fun z hz => by
      simp only [secK, List.mem_map, List.mem_range] at hz
      obtain ⟨x, hx, rfl⟩ := hz
      have := (ledG_all hg zs (nums_of hg h) x hx).2.1
      omega) L (by rw [secK_len]; exact Nat.le_refl _)
    omega
end Go.Proofs.Ytliohokcjgcmhaa
