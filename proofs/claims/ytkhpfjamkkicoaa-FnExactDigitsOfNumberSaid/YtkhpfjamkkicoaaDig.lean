/- 'NumberOfDigits': the program, the model and the law. -/
import Derived.Test.YtkhpfjamkkicoaaWordF
import Derived.Laws.IdiomStrings
namespace Go.Proofs.Ytkhpfjamkkicoaa
open Go.RowKit

/-- The list with its first and its last i numbers exchanged. -/
def revQ (zs : List Int) (i : Nat) : List Int := (List.range zs.length).map fun x => if x < i ∨ zs.length - 1 - i < x then zs.getD (zs.length - 1 - x) 0 else zs.getD x 0
theorem revQ_len (zs : List Int) (i : Nat) : (revQ zs i).length = zs.length := by simp [revQ]
theorem revQ_zero (zs : List Int) : revQ zs 0 = zs := by
  apply List.ext_getElem
  · simp [revQ]
  · intro x h1 h2
    simp only [revQ, List.getElem_map, List.getElem_range]
    rw [if_neg (by omega), List.getD, List.getElem?_eq_getElem h2]
    rfl
theorem revQ_at (zs : List Int) (i x : Nat) (h1 : i ≤ x) (h2 : x ≤ zs.length - 1 - i) (hx : x < zs.length) : (revQ zs i)[x]'(by rw [revQ_len]; exact hx) = zs.getD x 0 := by
  simp only [revQ, List.getElem_map, List.getElem_range]
  rw [if_neg (by omega)]
theorem revQ_all (zs : List Int) (i : Nat) (h : ¬ ((i : Int) < (zs.length : Int) - 1 - i)) : revQ zs i = zs.reverse := by
  apply List.ext_getElem
  · simp [revQ]
  · intro x h1 h2
    rw [revQ_len] at h1
    simp only [revQ, List.getElem_map, List.getElem_range, List.getElem_reverse]
    split
    · rw [List.getD, List.getElem?_eq_getElem (by omega)]; rfl
    · have : zs.length - 1 - x = x := by omega
      rw [List.getD, List.getElem?_eq_getElem h1]
      simp only [this]
      rfl
theorem revQ_next (zs : List Int) (i : Nat) (h : i < zs.length - 1 - i) : ((revQ zs i).set i (zs.getD (zs.length - 1 - i) 0)).set (zs.length - 1 - i) (zs.getD i 0) = revQ zs (i + 1) := by
  apply List.ext_getElem
  · simp [revQ]
  · intro x h1 h2
    rw [revQ_len] at h2
    simp only [revQ, List.getElem_set, List.getElem_map, List.getElem_range]
    by_cases e1 : zs.length - 1 - i = x
    · rw [if_pos e1, if_pos (by omega)]
      congr 1
      omega
    · rw [if_neg e1]
      by_cases e2 : i = x
      · rw [if_pos e2, if_pos (by omega), e2]
      · rw [if_neg e2]
        by_cases e3 : x < i ∨ zs.length - 1 - i < x
        · rw [if_pos e3, if_pos (by omega)]
        · rw [if_neg e3, if_neg (by omega)]

/-- A block that begins with the bytes l, which can be written. -/
def BB (w : World) (g : Nat) (l : List Int) : Prop := ∃ c lo hi, w.heap[g]? = some (.cells c 5 (lo, hi)) ∧ l.length ≤ c.size ∧ c.size ≤ lo ∧ ∀ i, i < l.length → c[i]? = some (.int .u8 (l.getD i 0))
theorem BB.cell {w : World} {g : Nat} {l : List Int} (h : BB w g l) (i : Nat) (hi : i < l.length) : w.cell? ⟨g, i, none⟩ = some (.int .u8 (l.getD i 0)) ∧ w.frozen? ⟨g, i, none⟩ = false := by
  obtain ⟨c, lo, hi', hB, h1, h2, h3⟩ := h
  refine ⟨by rw [Go.Joins.cell_of_block hB]; exact h3 i hi, ?_⟩
  unfold World.frozen?
  rw [show (⟨g, i, none⟩ : Addr).block = g from rfl, hB]
  simp
  omega
theorem BB.set {w : World} {g : Nat} {l : List Int} (h : BB w g l) (i : Nat) (z : Int) : BB (w.setCell ⟨g, i, none⟩ (.int .u8 z)) g (l.set i z) := by
  obtain ⟨c, lo, hi', hB, h1, h2, h3⟩ := h
  refine ⟨c.setIfInBounds i (.int .u8 z), lo, hi', ?_, by simpa using h1, by simpa using h2, fun j hj => ?_⟩
  · show (w.heap.modify g _)[g]? = _
    rw [Array.getElem?_modify, if_pos rfl, hB]
    simp
  · rw [List.length_set] at hj
    rw [Array.getElem?_setIfInBounds]
    by_cases e : i = j
    · subst e
      rw [if_pos rfl, if_pos (by omega)]
      simp [List.getD, hj]
    · rw [if_neg e, h3 j hj]
      simp [List.getD, e]
theorem BB.lt {w : World} {g : Nat} {l : List Int} (h : BB w g l) : g < w.heap.size := by
  obtain ⟨c, lo, hi', hB, _⟩ := h
  exact (Array.getElem?_eq_some_iff.1 hB).1
theorem BB.drew {w : World} {g : Nat} {l : List Int} (h : BB w g l) : BB w.drew g l := h

set_option maxRecDepth 1000000 in
set_option maxHeartbeats 1500000 in
theorem ReverseB_calls (g n cap : Nat) (zs : List Int) (hn : zs.length = n) (hl : n ≤ 100) (w : World) (hv : BB w g zs) :
    Calls Try.prog 55 #[.slice (some ⟨g, 0, none⟩) n cap] w fun e w' => e = .returned (.tuple #[]) ∧ BB w' g zs.reverse ∧ Below g w w' := by
  subst hn
  have HN : Hid (zs.length = zs.length) := Lib.hid rfl
  go_enter Try.func55, Try.ntmps55
  go_wp2
  go_loopw [2, 3] (fun a b wr => ∃ i : Nat, i ≤ zs.length ∧ a = .int .i64 i ∧ b = .int .i64 ((zs.length : Int) - 1 - i) ∧ BB wr g (revQ zs i) ∧ Below g w wr) (fun a _ _ => zs.length - (intOf a).toNat)
  case atStart => exact ⟨0, by omega, rfl, by congr 1; omega, by rw [revQ_zero]; exact hv, Below.refl _ _⟩
  case round =>
    clear hv
    obtain ⟨i, hi, rfl, rfl, hO, hsz⟩ := hrel
    by_cases hlt : (i : Int) < (zs.length : Int) - 1 - i
    · obtain ⟨j, hj⟩ : ∃ j : Nat, zs.length - 1 - i = j := ⟨_, rfl⟩
      have hij : i < j := by omega
      have hji : (zs.length : Int) - 1 - i = (j : Int) := by omega
      have hjl : (j : Int) < (zs.length : Int) := by omega
      have hil : (i : Int) < (zs.length : Int) := by omega
      obtain ⟨ci, fi⟩ := hO.cell i (by rw [revQ_len]; omega)
      obtain ⟨cj, fj⟩ := hO.cell j (by rw [revQ_len]; omega)
      have ei : (revQ zs i).getD i 0 = zs.getD i 0 := by
        have := revQ_at zs i i (Nat.le_refl _) (by omega) (by omega)
        rw [List.getD, List.getElem?_eq_getElem (by rw [revQ_len]; omega)]; exact this
      have ej : (revQ zs i).getD j 0 = zs.getD j 0 := by
        have := revQ_at zs i j (by omega) (by omega) (by omega)
        rw [List.getD, List.getElem?_eq_getElem (by rw [revQ_len]; omega)]; exact this
      rw [ei] at ci
      rw [ej] at cj
      clear ei ej
      have Hnext := Lib.hid (revQ_next zs i (by omega))
      rw [hj] at Hnext
      have HO := Lib.hid hO
      clear hO
      rw [hji] at hlt ⊢
      generalize zs.getD i 0 = zi at *
      generalize zs.getD j 0 = zj at *
      go_wp2_with fail
      go_region
      go_wp2
      have hp := (HO.out.set i zj).set j zi
      rw [Hnext.out] at hp
      have hp2 := hp.drew
      go_roundw
      case rel => exact ⟨i + 1, by omega, by go_num, by go_num, hp2, ((hsz.setCell (p := ⟨g, i, none⟩) (Nat.le_refl _) (.int .u8 zj)).setCell (p := ⟨g, j, none⟩) (Nat.le_refl _) (.int .u8 zi)).drew⟩
      case measure => simp [intOf] <;> omega
    · have Hr := Lib.hid (revQ_all zs i hlt)
      go_wp2
      go_end0
      exact ⟨rfl, by rw [← Hr.out]; exact hO, hsz⟩

/-! ### 'turnText' -/
def byI (l : List UInt8) : List Int := l.map fun b => (b.toNat : Int)
theorem byI_len (l : List UInt8) : (byI l).length = l.length := by simp [byI]
theorem byI_rev (l : List UInt8) : (byI l).reverse = byI l.reverse := by simp [byI]
theorem byI_at (l : List UInt8) (i : Nat) (h : i < l.length) : (byI l).getD i 0 = (l[i].toNat : Int) := by simp [byI, List.getD, h]
theorem turn_row (w : World) (s : ByteArray) (cap : Nat) : BB (w.drew.alloc (.cells (bytesRow s cap) 5 ((bytesRow s cap).size, (bytesRow s cap).size + 1))) w.heap.size (byI s.data.toList) := by
  refine ⟨bytesRow s cap, (bytesRow s cap).size, (bytesRow s cap).size + 1, ?_, ?_, Nat.le_refl _, fun i hi => ?_⟩
  · exact heap_alloc_new w.drew _
  · simp [bytesRow, byI]
  · rw [byI_len] at hi
    rw [byI_at _ _ hi]
    have hi' : i < s.data.size := by simpa using hi
    have hs : i < s.size := hi'
    simp only [bytesRow, Array.getElem?_append, Array.size_map, hi', if_true, Array.getElem?_map, Array.getElem?_eq_getElem hi', Option.map_some]
    rfl
set_option maxRecDepth 100000 in
set_option maxHeartbeats 1000000 in
theorem turnText_calls (s : ByteArray) (hs : s.size ≤ 40) (w : World) :
    Calls Try.prog 35 #[.string s] w fun e w' => e = .returned (.string ⟨s.data.toList.reverse.toArray⟩) ∧ Below w.heap.size w w' := by
  have hcv := fun W => run_bytes_of_string (P := Try.prog) W 9 56 5 s Try.underlying9 Try.underlying56 Try.underlying5
  have hsz : s.data.toList.length = s.size := (size_list s).symm
  obtain ⟨cap, hcap⟩ : ∃ cap, grownCap w s.size 0 5 = cap := ⟨_, rfl⟩
  have hX := turn_row w s cap
  have hb0 : Below w.heap.size w (w.drew.alloc (.cells (bytesRow s cap) 5 ((bytesRow s cap).size, (bytesRow s cap).size + 1))) := (Below.refl _ _).drew.alloc (Nat.le_refl _) _
  have Hcap := Lib.hid hcap
  have hcw := hcv w
  rw [hcap] at hcw
  have Hrev := Lib.hid (fun (W : World) (h : BB W w.heap.size (byI s.data.toList).reverse) => (show (convert 56 9 (.slice (some ⟨w.heap.size, 0, none⟩) s.size cap)).run Try.prog W = .ok (.string ⟨s.data.toList.reverse.toArray⟩) W from by
    have := run_convert_bytes_back (P := Try.prog) W 56 9 5 ⟨w.heap.size, 0, none⟩ cap s.data.toList.reverse Try.underlying56 Try.underlying5 Try.underlying9 (fun j hj => by
      rw [byI_rev] at h
      have h1 := (h.cell j (by rw [byI_len]; exact hj)).1
      rw [byI_at _ _ hj] at h1
      have ha : (⟨w.heap.size, 0, none⟩ : Addr).add j = ⟨w.heap.size, j, none⟩ := by
        unfold Addr.add; by_cases h0 : j = 0 <;> simp [h0]
      rw [ha]
      exact h1)
    rw [List.length_reverse, hsz] at this
    exact this))
  have HR := Lib.hid (fun (W : World) (h : BB W w.heap.size (byI s.data.toList)) => ReverseB_calls w.heap.size s.size cap (byI s.data.toList) (by rw [byI_len]; exact hsz) (by omega) W h)
  clear hcv hcap
  go_enter Try.func35, Try.ntmps35
  go_wp2_with (go_at_call 55; refine (HR.out _ hX).mono ?_; rintro e w1 ⟨rfl, hX1, hc1⟩; have hbk := Hrev.out _ hX1; have hb1 := hb0.trans hc1)
  go_ret
  exact ⟨rfl, hb1⟩

/-! ### Numbers of words of up to 30 letters -/
theorem numI_bd30 (d : Nat) (l : List UInt8) (hd : d ≤ 3) (hl : l.length ≤ 30) (h : lettersL d l = true) (k : Nat) (hk : k ≤ l.length) : 0 ≤ numI d (l.take k) ∧ numI d (l.take k) ≤ 205891132094649 := by
  have h1 := numL_take_lt d l h k hk
  have h2 : d ^ k ≤ 3 ^ 30 := Nat.le_trans (Nat.pow_le_pow_left hd k) (Nat.pow_le_pow_right (by omega) (by omega))
  have h3 : (3 : Nat) ^ 30 = 205891132094649 := by decide
  unfold numI; omega
theorem numI_mul30 (d : Nat) (l : List UInt8) (hd : d ≤ 3) (hl : l.length ≤ 30) (h : lettersL d l = true) (k : Nat) (hk : k ≤ l.length) : 0 ≤ numI d (l.take k) * d ∧ numI d (l.take k) * d ≤ 617673396283947 := by
  have h1 := numI_bd30 d l hd hl h k hk
  generalize numI d (l.take k) = p at *
  obtain ⟨q, rfl⟩ := Int.eq_ofNat_of_zero_le h1.1
  have h1 : q * d ≤ 205891132094649 * 3 := Nat.mul_le_mul (by omega) hd
  have h2 : ((q * d : Nat) : Int) = (q : Int) * d := Int.natCast_mul q d
  omega

set_option maxRecDepth 100000 in
theorem levelNumber30_calls (d : Nat) (s : ByteArray) (hd : d ≤ 3) (hs : s.data.toList.length ≤ 30) (hl : lettersL d s.data.toList = true) (w : World) :
    Calls Try.prog 34 #[.int .i64 d, .string s] w fun e w' => e = .returned (.int .i64 (numI d s.data.toList)) ∧ w = w' := by
  have hsz : s.size = s.data.toList.length := size_list s
  have hs5 : s.size ≤ 30 := by omega
  have Hsz := Lib.hid hsz; clear hsz
  go_enter Try.func34, Try.ntmps34
  go_wp2
  go_loop [5, 9] (fun v i => ∃ k : Nat, k ≤ s.size ∧ i = .int .i64 k ∧ v = .int .i64 (numI d (s.data.toList.take k))) (fun _ i => s.size - (intOf i).toNat)
  case atStart => exact ⟨0, Nat.zero_le _, rfl, by rw [numI_zero]⟩
  case round =>
    obtain ⟨k, hk, rfl, rfl⟩ := hrel
    obtain ⟨hm0, hm1⟩ := numI_mul30 d s.data.toList hd hs hl k (by rw [← Hsz.out]; exact hk)
    by_cases hlt : k < s.size
    · have hlt' : k < s.data.toList.length := by rw [← Hsz.out]; exact hlt
      have hat := lettersL_at hl k hlt'
      have hst := numI_step d s.data.toList k hlt' hat.1
      have he : s.data.toList[k] = s[k] := rfl
      rw [he] at hst hat
      obtain ⟨h48, h51⟩ := hat
      have Hst := Lib.hid hst; clear hst he
      go_wp2
      go_round
      case rel => exact ⟨k + 1, by omega, by go_num, by rw [Hst.out]⟩
      case measure => simp [intOf] <;> omega
    · go_wp2
      go_ret
      obtain rfl : k = s.size := by omega
      exact ⟨ret_int (by rw [Hsz.out, numI_all]), rfl⟩

def ndC (d : Int) (s : ByteArray) : Int := if isAlpha d = false then 2 else if wordB d.toNat s = false then 1 else if 30 < s.size then 2 else 0
def ndV (d : Int) (s : ByteArray) : Int := if ndC d s = 0 then numI d.toNat s.data.toList.reverse else 0
theorem letters_rev (d : Nat) (l : List UInt8) (h : lettersL d l = true) : lettersL d l.reverse = true := by
  unfold lettersL at *; simpa using h

set_option maxRecDepth 100000 in
set_option maxHeartbeats 1000000 in
theorem iNumberOfDigits_calls (d : Int) (s : ByteArray) (hs : s.size ≤ 1048576) (w : World) :
    Calls Try.prog 18 #[.int .i64 d, .string s] w fun e w' => e = .returned (.tuple #[.int .i64 (ndV d s), .int .i64 (ndC d s)]) ∧ Below w.heap.size w w' := by
  by_cases hd : d = 2 ∨ d = 3
  · have had := (isAlpha_iff d).2 hd
    obtain ⟨dn, rfl⟩ := Int.eq_ofNat_of_zero_le (a := d) (by omega)
    cases hw : wordB dn s
    · have hc : ndC dn s = 1 := by simp [ndC, had, hw]
      have hv : ndV dn s = 0 := by simp [ndV, hc]
      have Hv := Lib.hid hv; have Hc := Lib.hid hc; clear hv hc
      go_enter Try.func18, Try.ntmps18
      go_wp2_with (first | (go_at_call 32; refine (isAlphabet_calls _ _).mono ?_; rintro e w' ⟨rfl, rfl⟩) | (go_at_call 33; refine (isWord_calls dn s (by omega) _).mono ?_; rintro e w' ⟨rfl, rfl⟩))
      go_ret2
      exact ⟨ret_ii Hv.out.symm Hc.out.symm, by (repeat (first | exact Below.refl _ _ | refine below_drew' ?_ | refine below_drewN' ?_ _ | refine below_alloc' ?_ _ | refine below_set' ?_ (by (try simp); (try omega)) _ | refine below_step ?_ (by assumption)))⟩
    · by_cases h5 : s.size ≤ 30
      · have hc : ndC dn s = 0 := by simp [ndC, had, hw]; omega
        have hv : ndV dn s = numI dn s.data.toList.reverse := by simp [ndV, hc]
        have hl := letters_rev dn _ ((wordB_iff dn s).1 hw).2
        have HL := Lib.hid (fun W => levelNumber30_calls dn ⟨s.data.toList.reverse.toArray⟩ (by omega) (by simp; have := size_list s; simp at this; omega) (by simpa using hl) W)
        have HT := Lib.hid (fun W => turnText_calls s (by omega) W)
        have Hv := Lib.hid hv; have Hc := Lib.hid hc; clear hv hc hl
        have hgt : ¬ ((30 : Int) < (s.size : Int)) := by omega
        go_enter Try.func18, Try.ntmps18
        go_wp2_with (first | (go_at_call 32; refine (isAlphabet_calls _ _).mono ?_; rintro e w' ⟨rfl, rfl⟩) | (go_at_call 33; refine (isWord_calls dn s (by omega) _).mono ?_; rintro e w' ⟨rfl, rfl⟩) | (go_at_call 35; refine (HT.out _).mono ?_; rintro e w1 ⟨rfl, hb1⟩) | (go_at_call 34; refine (HL.out _).mono ?_; rintro e w' ⟨rfl, rfl⟩))
        go_ret2
        exact ⟨by rw [Hv.out, Hc.out]; simp, hb1⟩
      · have hc : ndC dn s = 2 := by simp [ndC, had, hw]; omega
        have hv : ndV dn s = 0 := by simp [ndV, hc]
        have Hv := Lib.hid hv; have Hc := Lib.hid hc; clear hv hc
        have hgt : (30 : Int) < (s.size : Int) := by omega
        go_enter Try.func18, Try.ntmps18
        go_wp2_with (first | (go_at_call 32; refine (isAlphabet_calls _ _).mono ?_; rintro e w' ⟨rfl, rfl⟩) | (go_at_call 33; refine (isWord_calls dn s (by omega) _).mono ?_; rintro e w' ⟨rfl, rfl⟩))
        go_ret2
        exact ⟨ret_ii Hv.out.symm Hc.out.symm, by (repeat (first | exact Below.refl _ _ | refine below_drew' ?_ | refine below_drewN' ?_ _ | refine below_alloc' ?_ _ | refine below_set' ?_ (by (try simp); (try omega)) _ | refine below_step ?_ (by assumption)))⟩
  · have had := (isAlpha_no d).2 hd
    have hc : ndC d s = 2 := by simp [ndC, had]
    have hv : ndV d s = 0 := by simp [ndV, hc]
    have Hv := Lib.hid hv; have Hc := Lib.hid hc; clear hv hc
    go_enter Try.func18, Try.ntmps18
    go_wp2_with (first | (go_at_call 32; refine (isAlphabet_calls _ _).mono ?_; rintro e w' ⟨rfl, rfl⟩))
    go_ret2
    exact ⟨ret_ii Hv.out.symm Hc.out.symm, by (repeat (first | exact Below.refl _ _ | refine below_drew' ?_ | refine below_drewN' ?_ _ | refine below_alloc' ?_ _ | refine below_set' ?_ (by (try simp); (try omega)) _ | refine below_step ?_ (by assumption)))⟩
end Go.Proofs.Ytkhpfjamkkicoaa
