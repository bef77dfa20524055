/- The search for equal words: plain data; the model's comparisons of lists. · The search for trivial words: the model. -/
import Derived.Test.YtliohokcjgcmhaaNorS
import Derived.Test.YtliohokcjgcmhaaWrS
import Derived.Test.YtliohokcjgcmhaaStoreK
import Derived.Test.YtliohokcjgcmhaaInvI
namespace Go.Proofs.Ytliohokcjgcmhaa
open Go.RowKit

/-- The normal word. -/
def nf (M : Mach) (L S : Nat) (z : List Int) : List Int := normK M L S z z.length
/-- A word more in the queue, where it is new; none where the queue is full. -/
def pushQ (M : Mach) (L S : Nat) (Q : List (List Int)) (z : List Int) : Option (List (List Int)) := if nf M L S z ∈ Q then some Q else if Q.length = 200 then none else some (Q ++ [nf M L S z])
def pushS (M : Mach) (L S : Nat) : List (List Int) → List (List Int) → Option (List (List Int))
  | Q, [] => some Q
  | Q, z :: zs => match pushQ M L S Q z with | none => none | some Q' => pushS M L S Q' zs
/-- Each of the letters is its own image. -/
def stays (M : Mach) (L : Nat) (z : List Int) : Bool := (List.range L).all fun x => decide ((ledG M z x).1 = x)
/-- What the search tells from the word k of the queue on, and its code. -/
def resT (M : Mach) (L S : Nat) : Nat → Nat → List (List Int) → Bool × Int
  | 0, _, _ => (true, 0)
  | f + 1, k, Q => match Q[k]? with
    | none => (true, 0)
    | some z => if stays M L z then (match pushS M L S Q (secK M z L) with | none => (false, 3) | some Q' => resT M L S f (k + 1) Q') else (false, 0)
theorem resT_end (M : Mach) (L S f k : Nat) (Q : List (List Int)) (h : Q.length ≤ k) : resT M L S (f + 1) k Q = (true, 0) := by
  simp [resT, List.getElem?_eq_none h]
theorem resT_bad (M : Mach) (L S f k : Nat) (Q : List (List Int)) (h : k < Q.length) (hs : stays M L Q[k] = false) : resT M L S (f + 1) k Q = (false, 0) := by
  simp [resT, List.getElem?_eq_getElem h, hs]
theorem resT_full (M : Mach) (L S f k : Nat) (Q : List (List Int)) (h : k < Q.length) (hs : stays M L Q[k] = true) (hp : pushS M L S Q (secK M Q[k] L) = none) : resT M L S (f + 1) k Q = (false, 3) := by
  simp [resT, List.getElem?_eq_getElem h, hs, hp]
theorem resT_next (M : Mach) (L S f k : Nat) (Q Q' : List (List Int)) (h : k < Q.length) (hs : stays M L Q[k] = true) (hp : pushS M L S Q (secK M Q[k] L) = some Q') : resT M L S (f + 1) k Q = resT M L S f (k + 1) Q' := by
  simp [resT, List.getElem?_eq_getElem h, hs, hp]
/-- Words of a queue: numbers that stand for states, at most so many. -/
def wordOk (S n : Nat) (z : List Int) : Prop := numsOk S z = true ∧ z.length ≤ n
theorem nf_len (M : Mach) (L S : Nat) (z : List Int) : (nf M L S z).length ≤ z.length := normK_len M L S z _ (Nat.le_refl _)
theorem bring_ok (M : Mach) (L S : Nat) (z : Int) (hz : numOk S z = true) (hb : bring M L S z ≠ 0) : numOk S (bring M L S z) = true := by
  rw [numOk_iff]
  refine ⟨hb, ?_⟩
  have hq := stOf_lt hz
  have hl := (lst_at M L (S + 1) (stOf z)).1
  have hn : 0 ≤ nrm M L S (stOf z) ∧ nrm M L S (stOf z) ≤ S := by
    unfold nrm
    split <;> omega
  rw [bring_nrm]
  split <;> omega
theorem joinN_nums (S : Nat) (acc : List Int) (k : Int) (h : numsOk S acc = true) (hk : k ≠ 0 → numOk S k = true) : numsOk S (joinN acc k) = true := by
  unfold joinN
  split
  · exact h
  · split
    · unfold numsOk at *
      rw [List.all_eq_true] at *
      exact fun x hx => h x (List.dropLast_subset _ hx)
    · rename_i h0 _
      rw [numsOk_snoc, h, hk h0]; rfl
theorem nf_nums (M : Mach) (L S : Nat) (z : List Int) (h : numsOk S z = true) : numsOk S (nf M L S z) = true := by
  have : ∀ k, k ≤ z.length → numsOk S (normK M L S z k) = true := by
    intro k
    induction k with
    | zero => intro _; rfl
    | succ k ih =>
      intro hk
      rw [normK_succ M L S z k (by omega)]
      exact joinN_nums S _ _ (ih (by omega)) (bring_ok M L S _ (numsOk_at h k (by omega)))
  exact this _ (Nat.le_refl _)
theorem nf_ok (M : Mach) (L S n : Nat) (z : List Int) (h : wordOk S n z) : wordOk S n (nf M L S z) := ⟨nf_nums M L S z h.1, Nat.le_trans (nf_len M L S z) h.2⟩
theorem sec_ok {M : Mach} {L S n : Nat} (hg : Good M L S) (z : List Int) (h : wordOk S n z) (k : Nat) (hk : k ≤ L) : ∀ u ∈ secK M z k, wordOk S n u := by
  intro u hu
  obtain ⟨x, hx, rfl⟩ := List.mem_map.1 hu
  obtain ⟨_, h2, h3⟩ := ledG_all hg z h.1 x (by have := List.mem_range.1 hx; omega)
  exact ⟨h3, by rw [h2]; exact h.2⟩
theorem pushQ_ok (M : Mach) (L S n : Nat) (Q Q' : List (List Int)) (z : List Int) (hQ : ∀ u ∈ Q, wordOk S n u) (hz : wordOk S n z) (h200 : Q.length ≤ 200) (h : pushQ M L S Q z = some Q') : (∀ u ∈ Q', wordOk S n u) ∧ Q'.length ≤ 200 ∧ Q.length ≤ Q'.length := by
  unfold pushQ at h
  split at h
  · cases h; exact ⟨hQ, h200, Nat.le_refl _⟩
  · split at h
    · cases h
    · cases h
      refine ⟨fun u hu => ?_, by simp; omega, by simp⟩
      rcases List.mem_append.1 hu with hu | hu
      · exact hQ u hu
      · rw [List.mem_singleton.1 hu]; exact nf_ok M L S n z hz
/-- The queue behind the first j sections. -/
theorem pushS_snoc (M : Mach) (L S : Nat) : ∀ (zs : List (List Int)) (Q : List (List Int)) (z : List Int), pushS M L S Q (zs ++ [z]) = match pushS M L S Q zs with | none => none | some Q' => pushQ M L S Q' z
  | [], Q, z => by
    simp only [List.nil_append, pushS]
    cases pushQ M L S Q z <;> rfl
  | y :: zs, Q, z => by
    simp only [List.cons_append, pushS]
    cases pushQ M L S Q y with
    | none => rfl
    | some Q' => exact pushS_snoc M L S zs Q' z
theorem pushS_none (M : Mach) (L S : Nat) (ys : List (List Int)) : ∀ (zs : List (List Int)) (Q : List (List Int)), pushS M L S Q zs = none → pushS M L S Q (zs ++ ys) = none
  | [], Q, h => by cases h
  | z :: zs, Q, h => by
    simp only [List.cons_append, pushS] at h ⊢
    cases hq : pushQ M L S Q z with
    | none => rfl
    | some Q' => rw [hq] at h; exact pushS_none M L S ys zs Q' h
def fndQ (Q : List (List Int)) (z : List Int) : Int := if z ∈ Q then (Q.idxOf z : Int) else -1
theorem fndQ_at (Q : List (List Int)) (z : List Int) (k : Nat) (hk : k < Q.length) (h : Q[k] = z) (hno : ∀ j (hj : j < Q.length), j < k → Q[j] ≠ z) : fndQ Q z = (k : Int) := by
  have hm : z ∈ Q := by rw [← h]; exact List.getElem_mem hk
  unfold fndQ
  rw [if_pos hm]
  have h1 : Q.idxOf z ≤ k := by
    unfold List.idxOf
    rw [← Nat.not_lt]
    intro hlt
    have := List.not_of_lt_findIdx hlt
    simp [h] at this
  have h2 : Q.idxOf z < Q.length := List.idxOf_lt_length_of_mem hm
  have h3 : Q[Q.idxOf z] = z := List.getElem_idxOf h2
  by_cases e : Q.idxOf z < k
  · exact absurd h3 (hno _ h2 e)
  · omega
theorem fndQ_no (Q : List (List Int)) (z : List Int) (hno : ∀ j (hj : j < Q.length), Q[j] ≠ z) : fndQ Q z = -1 := by
  unfold fndQ
  rw [if_neg]
  intro hm
  obtain ⟨j, hj, e⟩ := List.getElem_of_mem hm
  exact hno j hj e
theorem ret_bq {a b : Bool} (h : a = b) : Ending.returned (.bool a) = Ending.returned (.bool b) := by rw [h]
theorem ret_iq {a b : Int} (h : a = b) : Ending.returned (.int .i64 a) = Ending.returned (.int .i64 b) := by rw [h]

set_option maxRecDepth 100000 in
set_option maxHeartbeats 1000000 in
theorem l02Like_calls (a b : Value) (zs ys : List Int) (w : World) (ha : SeesI w a zs) (hb : SeesI w b ys) :
    Calls Try.prog 164 #[a, b] w fun e w' => e = .returned (.bool (decide (zs = ys))) ∧ Below w.heap.size w w' := by
  have hla := ha.1
  have hlb := hb.1
  unfold maxLen at hla hlb
  obtain ⟨oa, ca, hva, _⟩ := ha.view
  obtain ⟨ob, cb, hvb, _⟩ := hb.view
  subst hva hvb
  have Ha := Lib.hid ha
  have Hb := Lib.hid hb
  clear ha hb
  by_cases hlen : zs.length = ys.length
  rotate_left
  · have hne : ((zs.length : Int) != (ys.length : Int)) = true := by
      rw [bne_iff_ne]
      intro h
      exact hlen (Int.ofNat.inj h)
    have hd : Hid (decide (zs = ys) = false) := Lib.hid (decide_eq_false (fun e => hlen (by rw [e])))
    clear hlen
    go_enter Try.func164, Try.ntmps164
    go_wp2
    go_ret
    exact ⟨ret_bq hd.out.symm, Below.refl _ _⟩
  have hne : ((zs.length : Int) != (ys.length : Int)) = false := by rw [hlen]; simp
  have Hlen := Lib.hid hlen
  clear hlen
  go_enter Try.func164, Try.ntmps164
  go_wp2
  go_loopw [5] (fun i wr => ∃ k : Nat, k ≤ zs.length ∧ i = .int .i64 k ∧ Below w.heap.size w wr ∧ Hid (∀ j, j < k → zs.getD j 0 = ys.getD j 0)) (fun i _ => zs.length - (intOf i).toNat)
  case atStart => exact ⟨0, by omega, rfl, Below.refl _ _, Lib.hid (fun j hj => by omega)⟩
  case round =>
    obtain ⟨k, hk, rfl, hbw, HE⟩ := hrel
    by_cases hlt : k < zs.length
    · have hki : (k : Int) < (zs.length : Int) := by omega
      have hky : k < ys.length := by rw [← Hlen.out]; exact hlt
      have hkyi : (k : Int) < (ys.length : Int) := by omega
      obtain ⟨g1, h1, _, c1⟩ := (Ha.out.below hbw).at k hlt
      obtain ⟨g2, h2, _, c2⟩ := (Hb.out.below hbw).at k hky
      subst h1 h2
      have ez : zs.getD k 0 = zs[k] := by simp [List.getD, List.getElem?_eq_getElem hlt]
      have ey : ys.getD k 0 = ys[k] := by simp [List.getD, List.getElem?_eq_getElem hky]
      have HE2 : Hid (zs[k] = ys[k] → ∀ j, j < k + 1 → zs.getD j 0 = ys.getD j 0) := Lib.hid (fun h j hj => by
        by_cases e : j = k
        · subst e; rw [ez, ey, h]
        · exact HE.out j (by omega))
      have HD : Hid (zs[k] ≠ ys[k] → decide (zs = ys) = false) := Lib.hid (fun h => decide_eq_false (fun e => h (by rw [← ez, ← ey, e])))
      clear ez ey
      generalize zs[k] = z1 at *
      generalize ys[k] = z2 at *
      by_cases hz : z1 = z2
      · have hzb : (z1 != z2) = false := by rw [hz]; simp
        have HE3 := Lib.hid (HE2.out hz)
        clear hz
        go_wp2
        go_quiet (fail)
        go_wp2
        go_roundw
        case rel => exact ⟨k + 1, by omega, by go_num, below_step hbw (by (repeat (first | exact Below.refl _ _ | refine below_drew' ?_ | refine below_drewN' ?_ _ | refine below_alloc' ?_ _ | refine below_set' ?_ (by (try simp); (try omega)) _ | refine below_step ?_ (by assumption)))), HE3⟩
        case measure => simp [intOf] <;> omega
      · have hzb : (z1 != z2) = true := by simpa using hz
        have Hno := Lib.hid (HD.out hz)
        clear hz
        go_wp2
        go_quiet (fail)
        go_wp2
        go_ret
        exact ⟨ret_bq Hno.out.symm, below_step hbw (by (repeat (first | exact Below.refl _ _ | refine below_drew' ?_ | refine below_drewN' ?_ _ | refine below_alloc' ?_ _ | refine below_set' ?_ (by (try simp); (try omega)) _ | refine below_step ?_ (by assumption))))⟩
    · obtain rfl : k = zs.length := by omega
      have Hyes : Hid (decide (zs = ys) = true) := Lib.hid (decide_eq_true (by
        apply List.ext_getElem Hlen.out
        intro i h1 h2
        have := HE.out i h1
        simpa [List.getD, List.getElem?_eq_getElem h1, List.getElem?_eq_getElem h2] using this))
      go_wp2
      go_ret
      exact ⟨ret_bq Hyes.out.symm, hbw⟩

set_option maxRecDepth 100000 in
set_option maxHeartbeats 1000000 in
theorem l02Find_calls (base : Nat) (q : Value) (vs : List Value) (Q : List (List Int)) (v : Value) (z : List Int) (w : World) (hq : OwnLV w base q vs Q) (hv : SeesI w v z) :
    Calls Try.prog 124 #[q, v] w fun e w' => e = .returned (.int .i64 (fndQ Q z)) ∧ Below w.heap.size w w' := by
  have hll := hq.llen
  unfold maxLen at hll
  have Hln := Lib.hid hq.len
  obtain ⟨oq, cq, hve, _⟩ := hq.view
  obtain ⟨ov, cv, hvv, _⟩ := hv.view
  subst hve hvv
  have Hq := Lib.hid hq
  have Hv := Lib.hid hv
  clear hq hv
  go_enter Try.func124, Try.ntmps124
  go_wp2
  go_loopw [5] (fun i wr => ∃ k : Nat, k ≤ Q.length ∧ i = .int .i64 k ∧ Below w.heap.size w wr ∧ Hid (∀ j (hj : j < Q.length), j < k → Q[j] ≠ z)) (fun i _ => Q.length - (intOf i).toNat)
  case atStart => exact ⟨0, by omega, rfl, Below.refl _ _, Lib.hid (fun j _ hj => by omega)⟩
  case round =>
    obtain ⟨k, hk, rfl, hbw, HE⟩ := hrel
    by_cases hlt : k < Q.length
    · have hki : (k : Int) < (Q.length : Int) := by omega
      have hkv : k < vs.length := by rw [Hln.out]; exact hlt
      have hqb := Hq.out.below hbw
      obtain ⟨oq', cq', hve', hvc⟩ := hqb.view
      obtain ⟨g, hg, _, hcell⟩ := hvc (by omega)
      simp only [Value.slice.injEq] at hve'
      rw [← hve'.1] at hg
      have c1 := hcell k hkv
      have hS := (hqb.own k hkv hlt).sees
      have HL := Lib.hid (l02Like_calls vs[k] (.slice ov z.length cv) Q[k] z wr hS (Hv.out.below hbw))
      have HF : Hid (Q[k] = z → fndQ Q z = (k : Int)) := Lib.hid (fun h => fndQ_at Q z k hlt h HE.out)
      have HE2 : Hid (Q[k] ≠ z → ∀ j (hj : j < Q.length), j < k + 1 → Q[j] ≠ z) := Lib.hid (fun h j hj h2 => by
        by_cases e : j = k
        · subst e; exact h
        · exact HE.out j hj (by omega))
      obtain ⟨o1, c1', hvk, _⟩ := (hqb.own k hkv hlt).view
      subst hg
      clear hve' hvc hcell hS hqb
      generalize Q[k] = y at *
      generalize vs[k] = u at *
      subst hvk
      by_cases hz : y = z
      · have Hyes := Lib.hid (HF.out hz)
        rw [decide_eq_true hz] at HL
        clear hz
        go_wp2_with (go_at_call 164; refine HL.out.mono ?_; rintro e w3 ⟨rfl, hb3⟩)
        go_ret
        exact ⟨ret_iq Hyes.out.symm, below_step hbw hb3⟩
      · have HE3 := Lib.hid (HE2.out hz)
        rw [decide_eq_false hz] at HL
        clear hz
        go_wp2_with (go_at_call 164; refine HL.out.mono ?_; rintro e w3 ⟨rfl, hb3⟩)
        go_roundw
        case rel => exact ⟨k + 1, by omega, by go_num, below_step hbw hb3, HE3⟩
        case measure => simp [intOf] <;> omega
    · obtain rfl : k = Q.length := by omega
      have Hno := Lib.hid (fndQ_no Q z (fun j hj => HE.out j hj hj))
      go_wp2
      go_ret
      exact ⟨ret_iq Hno.out.symm, hbw⟩
end Go.Proofs.Ytliohokcjgcmhaa

namespace Go.Proofs.Ytliohokcjgcmhaa
open Go.RowKit
attribute [local go_sem] sel_true sel_false

/-- Where the region stands: what has come lies in its slots and blocks. -/
def SeaI (M : Mach) (Lt S : Nat) (w : World) (v : Value) (L : Nat → Bool) (a : Act) (W : World) : Prop :=
  ∃ (l : List Bool) (g6 g7 g8 : Nat), a = { tmps := #[.agg (mc M), v, .pointer (some ⟨w.heap.size, 0, none⟩), undef, .bool false, .int .i64 0, sel (L 6) (.pointer (some ⟨g6, 0, none⟩)), sel (L 7) (.pointer (some ⟨g7, 0, none⟩)), sel (L 8) (.pointer (some ⟨g8, 0, none⟩)), undef, undef, undef, undef, undef, undef, undef, undef, sel (L 0) (.agg (mc M)), sel (L 1) (.agg (mc (invM M Lt S))), sel (L 2) (.agg (mc M)), sel (L 3) (.agg (ints (clsS M Lt S (S + 1)))), sel (L 4) (.agg (mc M)), sel (L 5) (.agg (bl l)), undef, undef, undef, undef, undef, undef, undef, undef, undef, undef, undef, undef, undef, undef, undef, undef, undef, undef, undef, undef, undef, undef, undef, undef, undef, undef, undef, undef, undef, undef, undef, undef, undef, undef, undef, undef, undef, undef, undef, undef, undef, undef, undef, undef, undef, undef, undef, undef, undef, undef, undef, undef, undef, undef, undef, undef, undef, undef, undef, undef, undef, undef], defers := [] } ∧ Blk W w.heap.size (mc M) 27 ∧ Below w.heap.size w W ∧
    (L 5 = true → l.length = 16 ∧ ∀ q, q < S → l.getD q false = trivB M Lt S q) ∧
    (L 6 = true → w.heap.size < g6 ∧ Blk W g6 (if L 9 = true then mc (invM M Lt S) else mc zeroM) 27) ∧
    (L 7 = true → w.heap.size < g7 ∧ Blk W g7 (if L 10 = true then ints (clsS M Lt S (S + 1)) else ints zer) 92) ∧
    (L 8 = true → w.heap.size < g8 ∧ Blk W g8 (if L 11 = true then bl l else bl nob) 143) ∧
    (L 6 = true → L 7 = true → g6 ≠ g7) ∧ (L 6 = true → L 8 = true → g6 ≠ g8) ∧ (L 7 = true → L 8 = true → g7 ≠ g8) ∧ (L 11 = true → L 5 = true) ∧ (L 9 = true → L 6 = true) ∧ (L 10 = true → L 7 = true) ∧ (L 11 = true → L 8 = true)
theorem SeaI.step {M : Mach} {Lt S : Nat} {w : World} {l : List Bool} {g6 g7 g8 : Nat} {L : Nat → Bool} {W W' : World} (hb : Below W.heap.size W W')
    (h : Blk W w.heap.size (mc M) 27 ∧ Below w.heap.size w W ∧
    (L 5 = true → l.length = 16 ∧ ∀ q, q < S → l.getD q false = trivB M Lt S q) ∧
    (L 6 = true → w.heap.size < g6 ∧ Blk W g6 (if L 9 = true then mc (invM M Lt S) else mc zeroM) 27) ∧
    (L 7 = true → w.heap.size < g7 ∧ Blk W g7 (if L 10 = true then ints (clsS M Lt S (S + 1)) else ints zer) 92) ∧
    (L 8 = true → w.heap.size < g8 ∧ Blk W g8 (if L 11 = true then bl l else bl nob) 143)) :
    Blk W' w.heap.size (mc M) 27 ∧ Below w.heap.size w W' ∧
    (L 5 = true → l.length = 16 ∧ ∀ q, q < S → l.getD q false = trivB M Lt S q) ∧
    (L 6 = true → w.heap.size < g6 ∧ Blk W' g6 (if L 9 = true then mc (invM M Lt S) else mc zeroM) 27) ∧
    (L 7 = true → w.heap.size < g7 ∧ Blk W' g7 (if L 10 = true then ints (clsS M Lt S (S + 1)) else ints zer) 92) ∧
    (L 8 = true → w.heap.size < g8 ∧ Blk W' g8 (if L 11 = true then bl l else bl nob) 143) :=
  ⟨h.1.keptAll hb, below_step h.2.1 hb, h.2.2.1, fun e => ⟨(h.2.2.2.1 e).1, (h.2.2.2.1 e).2.keptAll hb⟩, fun e => ⟨(h.2.2.2.2.1 e).1, (h.2.2.2.2.1 e).2.keptAll hb⟩, fun e => ⟨(h.2.2.2.2.2 e).1, (h.2.2.2.2.2 e).2.keptAll hb⟩⟩

theorem pushQ_le (M : Mach) (L S : Nat) (Q Q' : List (List Int)) (z : List Int) (h : pushQ M L S Q z = some Q') : Q.length ≤ Q'.length := by
  unfold pushQ at h
  split at h
  · cases h; exact Nat.le_refl _
  · split at h
    · cases h
    · cases h; simp
theorem pushS_le (M : Mach) (L S : Nat) : ∀ (zs : List (List Int)) (Q Q' : List (List Int)), pushS M L S Q zs = some Q' → Q.length ≤ Q'.length
  | [], Q, Q', h => by cases h; exact Nat.le_refl _
  | z :: zs, Q, Q', h => by
    simp only [pushS] at h
    cases hq : pushQ M L S Q z with
    | none => rw [hq] at h; cases h
    | some Q1 => rw [hq] at h; exact Nat.le_trans (pushQ_le M L S Q Q1 z hq) (pushS_le M L S zs Q1 Q' h)
theorem wordOk.nums {S n : Nat} {z : List Int} (h : wordOk S n z) : ∀ x ∈ z, numOk S x = true := fun x hx => List.all_eq_true.1 h.1 x hx
theorem OwnLV.one {w : World} {base g : Nat} {u : Value} {zs : List Int} (hb : base ≤ g) (hB : Blk w g #[u] 26) (hu : OwnI w base u zs) (hne : u.ownBlock ≠ some g) : OwnLV w base (.slice (some ⟨g, 0, none⟩) 1 1) [u] [zs] := by
  refine ⟨rfl, ⟨by simp, .inr ⟨g, 1, #[u], rfl, hb, hB, by simp, by decide, by simp, by simp⟩⟩, fun i h h' => ?_, fun i j _ hj hij => ?_, fun i h k h1 h2 => ?_⟩
  · obtain rfl : i = 0 := by simp at h; omega
    exact hu
  · simp at hj; omega
  · obtain rfl : i = 0 := by simp at h; omega
    simp [Value.ownBlock] at h2
    subst h2
    exact hne h1
theorem stays_yes {M : Mach} {L : Nat} {z : List Int} (h : ∀ x, x < L → (ledG M z x).1 = x) : stays M L z = true := by
  unfold stays
  rw [List.all_eq_true]
  exact fun x hx => decide_eq_true (h x (List.mem_range.1 hx))
theorem stays_no {M : Mach} {L : Nat} {z : List Int} (x : Nat) (hx : x < L) (h : (ledG M z x).1 ≠ x) : stays M L z = false := by
  cases e : stays M L z
  · rfl
  · unfold stays at e
    rw [List.all_eq_true] at e
    exact absurd (of_decide_eq_true (e x (List.mem_range.2 hx))) h
theorem ret_bi2 {a b : Bool × Int} (h : a = b) : Ending.returned (.tuple #[.bool a.1, .int .i64 a.2]) = Ending.returned (.tuple #[.bool b.1, .int .i64 b.2]) := by rw [h]
theorem below_stepC {B : Nat} {w X w1 : World} (h : Below B w X) (hB : B ≤ X.heap.size) (hb : Below X.heap.size X w1) : Below B w w1 := h.trans (below_le hb hB)

set_option maxRecDepth 100000 in
set_option maxHeartbeats 4000000 in
theorem l02Trivial_calls (M : Mach) (Lt S : Nat) (hg : Good M Lt S) (v : Value) (z : List Int) (hz : wordOk S 80 z) (w : World) (hv : SeesI w v z) :
    Calls Try.prog 105 #[.agg (mc M), v] w fun e w' => e = .returned (.tuple #[.bool (resT M Lt S 201 0 [nf M Lt S z]).1, .int .i64 (resT M Lt S 201 0 [nf M Lt S z]).2]) ∧ Below w.heap.size w w' := by
  obtain ⟨RES, hRES⟩ : ∃ r, resT M Lt S 201 0 [nf M Lt S z] = r := ⟨_, rfl⟩
  rw [hRES]
  have HRES := Lib.hid hRES
  clear hRES
  have hok := hg.ok
  have F1 : Hid (cut (mc M) 0 98 = mc M) := Lib.hid (cut_all _ _ (mc_size hok)); have F2 : Hid (0 + 98 ≤ (mc M).size) := Lib.hid (by rw [mc_size hok]; omega)
  have hB : Blk (w.alloc (.cells (mc M) 27)) w.heap.size (mc M) 27 := Blk.new w _ _
  have hbw0 : Below w.heap.size w (w.alloc (.cells (mc M) 27)) := by (repeat (first | exact Below.refl _ _ | refine below_drew' ?_ | refine below_drewN' ?_ _ | refine below_alloc' ?_ _ | refine below_set' ?_ (by (try simp); (try omega)) _ | refine below_step ?_ (by assumption)))
  have HI := Lib.hid (fun W => l01Inverse_calls M Lt S hg W)
  have HC := Lib.hid (fun W => l01Classes_calls M Lt S hg W)
  have HT := Lib.hid (fun W => l01Trivial_calls M Lt S hg W)
  have hzm := zero_mach
  have hzi := zero_i16
  have hzb := zero_b16
  have HsI : Hid ((mc (invM M Lt S)).size = 98) := Lib.hid (mc_size (invM_ok hok Lt S hg.L3))
  have HsZ : Hid ((mc zeroM).size = 98) := Lib.hid (mc_size zeroM_ok)
  have HsC : Hid ((ints (clsS M Lt S (S + 1))).size = 16) := Lib.hid (by simp [ints, clsS])
  have Hsz : Hid ((ints zer).size = 16) := Lib.hid (by simp [ints, zer])
  have Hsn : Hid ((bl nob).size = 16) := Lib.hid (by simp [bl, nob])
  have Hv := Lib.hid hv
  clear hv
  go_enter Try.func105, Try.ntmps105
  go_wp2_with fail
  refine wp_mono (Q := fun e a' W => match e with
    | .normal => SeaI M Lt S w v (fun _ => true) a' W
    | _ => False) ?reg ?rest
  case reg =>
    have hdr : Below (w.alloc (.cells (mc M) 27)).heap.size (w.alloc (.cells (mc M) 27)) (w.alloc (.cells (mc M) 27)).drew := (Below.refl _ _).drew
    refine wp_region_inv (by kernel_rfl) (SeaI M Lt S w v) (by kernel_rfl) ?_ ?_ ?_
    · show SeaI M Lt S w v (come (Array.replicate 12 false)) _ _
      have hc : ∀ i, i < 12 → ¬ come (Array.replicate 12 false) i = true := fun i hi h => by rw [come_none 12 i hi] at h; cases h
      have e : come (Array.replicate 12 false) = fun i => decide (12 ≤ i) := by
        funext i
        by_cases h : i < 12
        · rw [come_none 12 i h]; simp; omega
        · unfold come; simp [Array.getD_eq_getD_getElem?, Array.getElem?_eq_none (show (Array.replicate 12 false).size ≤ i by simp; omega)]; omega
      rw [e]
      exact ⟨[], 0, 0, 0, rfl, hB.keptAll hdr, below_step hbw0 hdr, fun h => absurd h (by decide), fun h => absurd h (by decide), fun h => absurd h (by decide), fun h => absurd h (by decide), fun h => absurd h (by decide), fun h => absurd h (by decide), fun h => absurd h (by decide), fun h => absurd h (by decide), fun h => absurd h (by decide), fun h => absurd h (by decide), fun h => absurd h (by decide)⟩
    · intro i oi L a W hoi hLi hdep hInv K hK
      obtain ⟨l, g6, g7, g8, rfl, i1, i2, i3, i4, i5, i6, i7, i8, i9, d1, d2, d3, d4⟩ := hInv
      have hi : i < 12 := (Array.getElem?_eq_some_iff.1 hoi).1
      rcases (show i = 0 ∨ i = 1 ∨ i = 2 ∨ i = 3 ∨ i = 4 ∨ i = 5 ∨ i = 6 ∨ i = 7 ∨ i = 8 ∨ i = 9 ∨ i = 10 ∨ i = 11 by omega) with rfl | rfl | rfl | rfl | rfl | rfl | rfl | rfl | rfl | rfl | rfl | rfl
      all_goals (have hoi2 := Option.some.inj hoi; subst hoi2; refine ⟨rfl, ?_⟩)
      · refine wp_load_rowI 27 _ rfl w.heap.size 0 rfl (mc M) _ i1 98 F2.out _ Try.underlying27 rfl size_mach _ F1.out ?_
        exact hK _ _ ⟨l, g6, g7, g8, rfl, i1, i2, i3, i4, i5, i6, i7, i8, i9, d1, d2, d3, d4⟩
      · have h0 := dep_of hdep 0 (by kernel_rfl)
        go_simp
        refine (HI.out _).mono ?_
        rintro e W2 ⟨rfl, hb⟩
        obtain ⟨j1, j2, j3, j4, j5, j6⟩ := SeaI.step hb ⟨i1, i2, i3, i4, i5, i6⟩
        exact hK _ _ ⟨l, g6, g7, g8, by simp [now, sel, h0], j1, j2, j3, j4, j5, j6, i7, i8, i9, d1, d2, d3, d4⟩
      · refine wp_load_rowI 27 _ rfl w.heap.size 0 rfl (mc M) _ i1 98 F2.out _ Try.underlying27 rfl size_mach _ F1.out ?_
        exact hK _ _ ⟨l, g6, g7, g8, rfl, i1, i2, i3, i4, i5, i6, i7, i8, i9, d1, d2, d3, d4⟩
      · have h0 := dep_of hdep 2 (by kernel_rfl)
        go_simp
        refine (HC.out _).mono ?_
        rintro e W2 ⟨rfl, hb⟩
        obtain ⟨j1, j2, j3, j4, j5, j6⟩ := SeaI.step hb ⟨i1, i2, i3, i4, i5, i6⟩
        exact hK _ _ ⟨l, g6, g7, g8, by simp [now, sel, h0], j1, j2, j3, j4, j5, j6, i7, i8, i9, d1, d2, d3, d4⟩
      · refine wp_load_rowI 27 _ rfl w.heap.size 0 rfl (mc M) _ i1 98 F2.out _ Try.underlying27 rfl size_mach _ F1.out ?_
        exact hK _ _ ⟨l, g6, g7, g8, rfl, i1, i2, i3, i4, i5, i6, i7, i8, i9, d1, d2, d3, d4⟩
      · have h0 := dep_of hdep 4 (by kernel_rfl)
        have h11 : ¬ L 11 = true := fun h => by rw [d1 h] at hLi; cases hLi
        go_simp
        refine (HT.out _).mono ?_
        rintro e W2 ⟨⟨l', rfl, p1, p2⟩, hb⟩
        obtain ⟨j1, j2, _, j4, j5, j6⟩ := SeaI.step hb ⟨i1, i2, i3, i4, i5, i6⟩
        rw [if_neg h11] at j6
        exact hK _ _ ⟨l', g6, g7, g8, by simp [now, sel, h0], j1, j2, fun _ => ⟨p1, p2⟩, j4, j5, fun h => by rw [if_neg (show ¬ now L 5 11 = true from h11)]; exact j6 h, i7, i8, i9, fun _ => rfl, d2, d3, d4⟩
      · have hst : ¬ L 9 = true := fun h => by rw [d2 h] at hLi; cases hLi
        go_simp
        obtain ⟨j1, j2, j3, j4, j5, j6⟩ := SeaI.step (W' := W.alloc (.cells (mc zeroM) 27)) (by (repeat (first | exact Below.refl _ _ | refine below_drew' ?_ | refine below_drewN' ?_ _ | refine below_alloc' ?_ _ | refine below_set' ?_ (by (try simp); (try omega)) _ | refine below_step ?_ (by assumption)))) ⟨i1, i2, i3, i4, i5, i6⟩
        exact hK _ _ ⟨l, W.heap.size, g7, g8, rfl, j1, j2, j3, fun _ => ⟨i1.lt, by rw [if_neg (show ¬ now L 6 9 = true from hst)]; exact Blk.new _ _ _⟩, j5, j6, fun _ h => Nat.ne_of_gt (i5 h).2.lt, fun _ h => Nat.ne_of_gt (i6 h).2.lt, i9, d1, fun _ => rfl, d3, d4⟩
      · have hst : ¬ L 10 = true := fun h => by rw [d3 h] at hLi; cases hLi
        go_simp
        obtain ⟨j1, j2, j3, j4, j5, j6⟩ := SeaI.step (W' := W.alloc (.cells (ints zer) 92)) (by (repeat (first | exact Below.refl _ _ | refine below_drew' ?_ | refine below_drewN' ?_ _ | refine below_alloc' ?_ _ | refine below_set' ?_ (by (try simp); (try omega)) _ | refine below_step ?_ (by assumption)))) ⟨i1, i2, i3, i4, i5, i6⟩
        exact hK _ _ ⟨l, g6, W.heap.size, g8, rfl, j1, j2, j3, j4, fun _ => ⟨i1.lt, by rw [if_neg (show ¬ now L 7 10 = true from hst)]; exact Blk.new _ _ _⟩, j6, fun h _ => Nat.ne_of_lt (i4 h).2.lt, i8, fun _ h => Nat.ne_of_gt (i6 h).2.lt, d1, d2, fun _ => rfl, d4⟩
      · have hst : ¬ L 11 = true := fun h => by rw [d4 h] at hLi; cases hLi
        go_simp
        obtain ⟨j1, j2, j3, j4, j5, j6⟩ := SeaI.step (W' := W.alloc (.cells (bl nob) 143)) (by (repeat (first | exact Below.refl _ _ | refine below_drew' ?_ | refine below_drewN' ?_ _ | refine below_alloc' ?_ _ | refine below_set' ?_ (by (try simp); (try omega)) _ | refine below_step ?_ (by assumption)))) ⟨i1, i2, i3, i4, i5, i6⟩
        exact hK _ _ ⟨l, g6, g7, W.heap.size, rfl, j1, j2, j3, j4, j5, fun _ => ⟨i1.lt, by rw [if_neg (show ¬ now L 8 11 = true from hst)]; exact Blk.new _ _ _⟩, i7, fun h _ => Nat.ne_of_lt (i4 h).2.lt, fun h _ => Nat.ne_of_lt (i5 h).2.lt, d1, d2, d3, fun _ => rfl⟩
      · have h6 := dep_of hdep 6 (by kernel_rfl)
        have h1 := dep_of hdep 1 (by kernel_rfl)
        have hBz := (i4 h6).2
        rw [if_neg (show ¬ L 9 = true by rw [hLi]; simp)] at hBz
        have hgb := (i4 h6).1
        refine wp_store_rowI 27 _ _ rfl g6 0 (mc (invM M Lt S)) (by show sel (L 6) _ = _; rw [h6]; rfl) (by show sel (L 1) _ = _; rw [h1]; rfl) (mc zeroM) _ hBz (by rw [HsI.out, HsZ.out]; omega) (by rw [HsI.out]; exact size_mach) (mc_one _) (mc (invM M Lt S)) (over_all _ _ (by rw [HsI.out, HsZ.out])) (fun W2 hs => ?_)
        exact hK _ _ ⟨l, g6, g7, g8, rfl, hs.keep (Nat.ne_of_lt hgb) i1, hs.below _ _ (Nat.le_of_lt hgb) i2, i3, fun _ => ⟨(i4 h6).1, by rw [if_pos (show now L 9 9 = true from rfl)]; exact hs.blk⟩, fun h => ⟨(i5 h).1, hs.keep (Ne.symm (i7 h6 h)) (i5 h).2⟩, fun h => ⟨(i6 h).1, hs.keep (Ne.symm (i8 h6 h)) (i6 h).2⟩, i7, i8, i9, d1, fun _ => h6, d3, d4⟩
      · have h6 := dep_of hdep 7 (by kernel_rfl)
        have h1 := dep_of hdep 3 (by kernel_rfl)
        have hBz := (i5 h6).2
        rw [if_neg (show ¬ L 10 = true by rw [hLi]; simp)] at hBz
        have hgb := (i5 h6).1
        refine wp_store_rowI 92 _ _ rfl g7 0 (ints (clsS M Lt S (S + 1))) (by show sel (L 7) _ = _; rw [h6]; rfl) (by show sel (L 3) _ = _; rw [h1]; rfl) (ints zer) _ hBz (by rw [HsC.out, Hsz.out]; omega) (by rw [HsC.out]; exact size_i16) (ints_one _) (ints (clsS M Lt S (S + 1))) (over_all _ _ (by rw [HsC.out, Hsz.out])) (fun W2 hs => ?_)
        exact hK _ _ ⟨l, g6, g7, g8, rfl, hs.keep (Nat.ne_of_lt hgb) i1, hs.below _ _ (Nat.le_of_lt hgb) i2, i3, fun h => ⟨(i4 h).1, hs.keep (i7 h h6) (i4 h).2⟩, fun _ => ⟨(i5 h6).1, by rw [if_pos (show now L 10 10 = true from rfl)]; exact hs.blk⟩, fun h => ⟨(i6 h).1, hs.keep (Ne.symm (i9 h6 h)) (i6 h).2⟩, i7, i8, i9, d1, d2, fun _ => h6, d4⟩
      · have h6 := dep_of hdep 8 (by kernel_rfl)
        have h1 := dep_of hdep 5 (by kernel_rfl)
        have hBz := (i6 h6).2
        rw [if_neg (show ¬ L 11 = true by rw [hLi]; simp)] at hBz
        have hgb := (i6 h6).1
        have hl16 : (bl l).size = 16 := by rw [bl_size, (i3 (dep_of hdep 5 (by kernel_rfl))).1]
        refine wp_store_rowI 143 _ _ rfl g8 0 (bl l) (by show sel (L 8) _ = _; rw [h6]; rfl) (by show sel (L 5) _ = _; rw [h1]; rfl) (bl nob) _ hBz (by rw [hl16, Hsn.out]; omega) (by rw [hl16]; exact (zero_of_info info_b16).2) (bl_one _) (bl l) (over_all _ _ (by rw [hl16, Hsn.out])) (fun W2 hs => ?_)
        exact hK _ _ ⟨l, g6, g7, g8, rfl, hs.keep (Nat.ne_of_lt hgb) i1, hs.below _ _ (Nat.le_of_lt hgb) i2, i3, fun h => ⟨(i4 h).1, hs.keep (i8 h h6) (i4 h).2⟩, fun h => ⟨(i5 h).1, hs.keep (i9 h h6) (i5 h).2⟩, fun _ => ⟨(i6 h6).1, by rw [if_pos (show now L 11 11 = true from rfl)]; exact hs.blk⟩, i7, i8, i9, fun _ => h1, d2, d3, fun _ => h6⟩
    · intro L a W hall hI
      obtain ⟨l, g6, g7, g8, rfl, i1, i2, i3, i4, i5, i6, i7, i8, i9, d1, d2, d3, d4⟩ := hI
      have q := fun i (h : i < 12) => hall i h
      have b4 := i4 (q 6 (by omega))
      have b5 := i5 (q 7 (by omega))
      have b6 := i6 (q 8 (by omega))
      rw [if_pos (q 9 (by omega))] at b4
      rw [if_pos (q 10 (by omega))] at b5
      rw [if_pos (q 11 (by omega))] at b6
      refine ⟨l, g6, g7, g8, ?_, i1, i2, fun _ => i3 (q 5 (by omega)), fun _ => b4, fun _ => b5, fun _ => b6, fun _ _ => i7 (q 6 (by omega)) (q 7 (by omega)), fun _ _ => i8 (q 6 (by omega)) (q 8 (by omega)), fun _ _ => i9 (q 7 (by omega)) (q 8 (by omega)), fun _ => rfl, fun _ => rfl, fun _ => rfl, fun _ => rfl⟩
      rw [q 0 (by omega), q 1 (by omega), q 2 (by omega), q 3 (by omega), q 4 (by omega), q 5 (by omega), q 6 (by omega), q 7 (by omega), q 8 (by omega)]
  case rest =>
    clear HI HC HT hzm hzi hzb HsZ Hsz Hsn hB hbw0
    intro e a W hT
    cases e with
    | normal =>
      obtain ⟨l, g6, g7, g8, rfl, hBm, hbw, i3, i4, i5, i6, _, _, _, _, _, _, _⟩ := hT
      obtain ⟨hll, hl⟩ := i3 rfl
      have hB6 := (i4 rfl).2
      have hB7 := (i5 rfl).2
      have hB8 := (i6 rfl).2
      simp only [if_true] at hB6 hB7 hB8
      simp only [sel_true]
      clear i3 i4 i5 i6
      have HN := Lib.hid (fun V y (hy : wordOk S 80 y) X hX => l02Normal_calls M Lt S hg l hll hl V y hy.nums (Nat.le_trans hy.2 (by omega)) X hX)
      have HLD := Lib.hid (fun V y (hy : wordOk S 80 y) x hx X hX => l02Led_calls M Lt S hg V y hy.1 (Nat.le_trans hy.2 (by omega)) x hx X hX)
      have F7s : Hid (0 + 16 ≤ (ints (clsS M Lt S (S + 1))).size) := Lib.hid (by rw [HsC.out]; omega)
      have F7 : Hid (cut (ints (clsS M Lt S (S + 1))) 0 16 = ints (clsS M Lt S (S + 1))) := Lib.hid (cut_all _ _ HsC.out)
      have Hsl : (bl l).size = 16 := by rw [bl_size, hll]
      have F8s : Hid (0 + 16 ≤ (bl l).size) := Lib.hid (by rw [Hsl]; omega)
      have F8 : Hid (cut (bl l) 0 16 = bl l) := Lib.hid (cut_all _ _ Hsl)
      have F6s : Hid (0 + 98 ≤ (mc (invM M Lt S)).size) := Lib.hid (by rw [HsI.out]; omega)
      have F6 : Hid (cut (mc (invM M Lt S)) 0 98 = mc (invM M Lt S)) := Lib.hid (cut_all _ _ HsI.out)
      have hz0 := Lib.hid (nf_ok M Lt S 80 z hz)
      have hcL := mc_L M
      rw [hg.hL] at hcL
      have hL3 := hg.L3
      have Hg := Lib.hid hg
      have Hz := Lib.hid hz
      clear hg hz hl hll Hsl HsC HsI
      generalize (ints (clsS M Lt S (S + 1))) = cc at *
      generalize bl l = cb at *
      generalize mc (invM M Lt S) = ci at *
      have hsz := hbw.size
      generalize hz1 : nf M Lt S z = z1 at *
      have HN0 : Hid (∀ X, SeesI X v z → Calls Try.prog 123 #[v, .agg cc, .agg cb] X fun e w' => ∃ u, e = .returned u ∧ OwnI w' X.heap.size u z1 ∧ Below X.heap.size X w') := Lib.hid (by rw [← hz1]; exact fun X hX => HN.out v z Hz.out X hX)
      clear hz1 Hz
      go_wp2_with (first | (with_reducible show wpList _ _ _ _ _ _; refine wpList_load_blk rfl 92 (.tmp 7) rfl g7 0 rfl cc _ hB7 16 F7s.out _ Try.underlying92 rfl size_i16 ?_; rw [F7.out]) | (with_reducible show wpList _ _ _ _ _ _; refine wpList_load_blk rfl 143 (.tmp 8) rfl g8 0 rfl cb _ hB8 16 F8s.out _ Try.underlying143 rfl (zero_of_info info_b16).2 ?_; rw [F8.out]) | (go_at_call 123; refine (HN0.out _ (Hv.out.below hbw)).mono ?_; rintro e w1 ⟨u0, rfl, hO1, hb1⟩; obtain ⟨o1, c1, rfl, hq1⟩ := hO1.view; clear hq1))
      have hs1 := hb1.size
      have hal : Below w1.heap.size w1 (w1.alloc (.cells #[.slice o1 z1.length c1] 26)) := by (repeat (first | exact Below.refl _ _ | refine below_drew' ?_ | refine below_drewN' ?_ _ | refine below_alloc' ?_ _ | refine below_set' ?_ (by (try simp); (try omega)) _ | refine below_step ?_ (by assumption)))
      have hOQ : OwnLV (w1.alloc (.cells #[.slice o1 z1.length c1] 26)) W.heap.size (.slice (some ⟨w1.heap.size, 0, none⟩) 1 1) [.slice o1 z1.length c1] [z1] := OwnLV.one hs1 (Blk.new w1 _ _) (hO1.below hal) (fun e => by have := (World.ownsRow.lt hO1 _ e).2; omega)
      have hbr1 : Below W.heap.size W (w1.alloc (.cells #[.slice o1 z1.length c1] 26)) := below_allocB hb1 hs1 _
      clear HN0 hO1 hb1 hal Hv
      go_loopw [9, 10] (fun qv' i wr => ∃ (k : Nat) (Q : List (List Int)) (vs : List Value) (qv : Value), k ≤ Q.length ∧ i = .int .i64 k ∧ qv = qv' ∧ OwnLV wr W.heap.size qv vs Q ∧ Hid ((∀ u ∈ Q, wordOk S 80 u) ∧ Q.length ≤ 200) ∧ Hid (resT M Lt S (201 - k) k Q = RES) ∧ W.heap.size ≤ wr.heap.size ∧ Below W.heap.size W wr) (fun _ i _ => 201 - (intOf i).toNat)
      case atStart => exact ⟨0, [z1], [.slice o1 z1.length c1], _, by simp, rfl, rfl, hOQ, Lib.hid ⟨fun u hu => by rw [List.mem_singleton.1 hu]; exact hz0.out, by simp⟩, HRES, by simp; omega, hbr1⟩
      case round =>
        clear hOQ hbr1 hs1 HRES hz0
        obtain ⟨k, Q, vs, qv, hk, rfl, rfl, hO, HQ, HR, hge, hbr⟩ := hrel
        obtain ⟨HQ1, HQ2⟩ := HQ.out
        by_cases hlt : k < Q.length
        · have hkQ : Hid (k < Q.length) := Lib.hid hlt
          have hkv : k < vs.length := by rw [hO.len]; exact hlt
          obtain ⟨oq, cq, rfl, hvc⟩ := hO.view
          obtain ⟨g, rfl, hgg, hcell⟩ := hvc (by omega)
          have hgl : g < wr.heap.size := (World.ownsRow.lt hO.row g rfl).2
          have cK := hcell k hkv
          have hU := hO.own k hkv hlt
          have hki : (k : Int) < (Q.length : Int) := by omega
          have hy : wordOk S 80 Q[k] := HQ1 _ (List.getElem_mem hlt)
          have Hno := Lib.hid (fun h => resT_bad M Lt S (200 - k) k Q hlt h)
          have Hfu := Lib.hid (fun h h2 => resT_full M Lt S (200 - k) k Q hlt h h2)
          have Hne := Lib.hid (fun Q' h h2 => resT_next M Lt S (200 - k) k Q Q' hlt h h2)
          rw [show 201 - k = 200 - k + 1 by omega] at HR
          generalize Q[k] = y at *
          generalize vs[k] = uk at *
          have HY := Lib.hid hy
          clear hy hvc hcell hkv
          obtain ⟨w2, rfl⟩ : ∃ x, x = wr := ⟨_, rfl⟩
          have hSe : OwnLV (w2.alloc (.cells #[] 26)) w2.heap.size (.slice (some ⟨w2.heap.size, 0, none⟩) 0 0) [] (secK M y 0) := OwnLV.empty (Nat.le_refl _) (by unfold maxLen; omega) rfl (Blk.new w2 _ _)
          have hbe : Below w2.heap.size w2 (w2.alloc (.cells #[] 26)) := by (repeat (first | exact Below.refl _ _ | refine below_drew' ?_ | refine below_drewN' ?_ _ | refine below_alloc' ?_ _ | refine below_set' ?_ (by (try simp); (try omega)) _ | refine below_step ?_ (by assumption)))
          have hMr := hBm.keptAll hbr
          go_wp2
          go_loopw [11, 12] (fun sv' i wr => ∃ (j : Nat) (us : List Value) (sv : Value), j ≤ Lt ∧ i = .int .i64 j ∧ sv = sv' ∧ OwnLV wr w2.heap.size sv us (secK M y j) ∧ Hid (∀ x, x < j → (ledG M y x).1 = x) ∧ w2.heap.size ≤ wr.heap.size ∧ Below w2.heap.size w2 wr) (fun _ i _ => Lt - (intOf i).toNat)
          case atStart => exact ⟨0, [], _, by omega, rfl, rfl, hSe, Lib.hid (fun x hx => by omega), by simp, hbe⟩
          case round =>
            clear hSe hbe hMr
            obtain ⟨j, us, sv, hj, rfl, rfl, hS, HE, hge2, hbe⟩ := hrel
            have hMr := hBm.keptAll (below_stepB hbr hge hbe)
            have h6r := hB6.keptAll (below_stepB hbr hge hbe)
            have cM := hMr.cell
            have cK3 : wr.cell? ⟨g, k, none⟩ = some uk := by rw [hbe.cell hgl]; exact cK
            have hgl3 : g < wr.heap.size := by omega
            by_cases hlj : j < Lt
            · have hji : (j : Int) < (Lt : Int) := by omega
              have hw8 : IntKind.u8.wrap (j : Int) = (j : Int) := by simp [IntKind.wrap, IntKind.bits, IntKind.signed]; omega
              obtain ⟨y1, y2, y3⟩ := ledG_all Hg.out y HY.out.1 j hlj
              have hw64 : IntKind.i64.wrap ((ledG M y j).1 : Int) = ((ledG M y j).1 : Int) := by simp [IntKind.wrap, IntKind.bits, IntKind.signed]; omega
              have Hled := Lib.hid (fun W hW => HLD.out uk y HY.out j hlj W hW)
              have Hs1 := Lib.hid (secK_succ M y j)
              have Hsl := Lib.hid (secK_len M y j)
              have HE1 : Hid ((ledG M y j).1 = j → ∀ x, x < j + 1 → (ledG M y x).1 = x) := Lib.hid (fun h x hx => by
                by_cases e : x = j
                · subst e; exact h
                · exact HE.out x (by omega))
              have HE2 : Hid ((ledG M y j).1 ≠ j → RES = (false, 0)) := Lib.hid (fun h => by rw [← HR.out]; exact Hno.out (stays_no j hlj h))
              clear y2 y3 HE
              generalize (ledG M y j).1 = yx at *
              generalize (ledG M y j).2 = nx at *
              generalize secK M y j = secs at *
              go_wp2
              obtain ⟨w3, rfl⟩ : ∃ x, x = wr := ⟨_, rfl⟩
              have hdr : Below w3.heap.size w3 w3.drew := (Below.refl _ _).drew
              have hUd := (hU.below hbe).below (w1 := w3.drew) (below_le hdr (by omega))
              refine wp_region_held_drew (S := fun W' => Blk W' w.heap.size (mc M) 27 ∧ Blk W' g6 ci 27 ∧ W'.cell? ⟨g, k, none⟩ = some uk) (by kernel_rfl) ⟨hMr.drew, h6r.drew, cK3⟩ (fun hS0 => ?_)
              (refine hK_load 0 rfl (by kernel_rfl) (by kernel_rfl) (by kernel_rfl) 27 _ rfl (w.heap.size) 0 rfl (mc M) _ (fun W hW => hW.1) 98 (F2.out) _ Try.underlying27 rfl size_mach _ (F1.out) (fun _ _ _ h => h) rfl hS0 ?_; (intro K hK; go_simp; refine hK _ ?_; clear hK K))
              (refine hK_load 1 rfl (by kernel_rfl) (by kernel_rfl) (by kernel_rfl) 27 _ rfl (g6) 0 rfl ci _ (fun W hW => hW.2.1) 98 (F6s.out) _ Try.underlying27 rfl size_mach _ (F6.out) (fun _ _ _ h => h) rfl hS0 ?_; (intro K hK; go_simp; refine hK _ ?_; clear hK K))
              (refine hK_take 2 (.slice (some ⟨g, 0, none⟩) Q.length cq) rfl (by kernel_rfl) (by kernel_rfl) (by kernel_rfl) (fun _ _ _ h => h) rfl (fun W _ => by go_simp) hS0 ?_; (intro K hK; go_simp; refine hK _ ?_; clear hK K))
              (refine hK_take 3 (.int .i64 (k : Int)) rfl (by kernel_rfl) (by kernel_rfl) (by kernel_rfl) (fun _ _ _ h => h) rfl (fun W _ => by go_simp) hS0 ?_; (intro K hK; go_simp; refine hK _ ?_; clear hK K))
              (refine hK_take 4 (.pointer (some ⟨g, k, none⟩)) rfl (by kernel_rfl) (by kernel_rfl) (by kernel_rfl) (fun _ _ _ h => h) rfl (fun W _ => by go_simp) hS0 ?_; (intro K hK; go_simp; refine hK _ ?_; clear hK K))
              (refine hK_take 5 uk rfl (by kernel_rfl) (by kernel_rfl) (by kernel_rfl) (fun _ _ _ h => h) rfl (fun W hW => by have c1 := hW.2.2; clear hW; go_simp) hS0 ?_; (intro K hK; go_simp; refine hK _ ?_; clear hK K))
              (refine hK_take 6 (.int .i64 (j : Int)) rfl (by kernel_rfl) (by kernel_rfl) (by kernel_rfl) (fun _ _ _ h => h) rfl (fun W _ => by go_simp) hS0 ?_; (intro K hK; go_simp; refine hK _ ?_; clear hK K))
              (refine hK_take 7 (.int .u8 (j : Int)) rfl (by kernel_rfl) (by kernel_rfl) (by kernel_rfl) (fun _ _ _ h => h) rfl (fun W _ => by go_simp) hS0 ?_; (intro K hK; go_simp; refine hK _ ?_; clear hK K))
              (refine wpAnyH_ready (rs := [8]) (by kernel_rfl) (by simp) ?_; refine AllReadyH.cons rfl (fun K hK => ?_) AllReadyH.nil); go_simp; refine (Hled.out _ hUd.sees).mono ?_; rintro e w5 ⟨v5, rfl, hO5, hb5⟩
              have hbd5 : Below w3.heap.size w3 w5 := hdr.trans hb5
              (go_simp; refine hK.out _ _ (⟨Blk.keptAll hS0.1 hb5, Blk.keptAll hS0.2.1 hb5, by rw [hb5.cell hgl3]; exact hS0.2.2⟩) (fun hS1 => ?_); clear hK K)
              (refine hK_take 9 (.tuple #[.int .u8 (yx : Int), v5]) rfl (by kernel_rfl) (by kernel_rfl) (by kernel_rfl) (fun _ _ _ h => h) rfl (fun W _ => by go_simp) hS1 ?_; (intro K hK; go_simp; refine hK _ ?_; clear hK K))
              (refine hK_take 10 (.int .u8 (yx : Int)) rfl (by kernel_rfl) (by kernel_rfl) (by kernel_rfl) (fun _ _ _ h => h) rfl (fun W _ => by go_simp) hS1 ?_; (intro K hK; go_simp; refine hK _ ?_; clear hK K))
              (refine hK_take 11 (v5) rfl (by kernel_rfl) (by kernel_rfl) (by kernel_rfl) (fun _ _ _ h => h) rfl (fun W _ => by go_simp) hS1 ?_; (intro K hK; go_simp; refine hK _ ?_; clear hK K))
              (refine hK_take 12 (.int .u8 (yx : Int)) rfl (by kernel_rfl) (by kernel_rfl) (by kernel_rfl) (fun _ _ _ h => h) rfl (fun W _ => by go_simp) hS1 ?_; (intro K hK; go_simp; refine hK _ ?_; clear hK K))
              (refine hK_take 13 (v5) rfl (by kernel_rfl) (by kernel_rfl) (by kernel_rfl) (fun _ _ _ h => h) rfl (fun W _ => by go_simp) hS1 ?_; (intro K hK; go_simp; refine hK _ ?_; clear hK K))
              refine wpAnyH_done (by kernel_rfl) ?_ _
              clear hS0 hS1 hMr h6r cM hUd Hled
              have hO5' : OwnI w5 w3.heap.size v5 nx := hO5
              have hs5 : w3.heap.size ≤ w5.heap.size := hbd5.size
              by_cases hyx : yx = j
              · have hyb : ((yx : Int) != (j : Int)) = false := by rw [hyx]; simp
                have HE3 := Lib.hid (HE1.out hyx)
                clear HE1 HE2 hyx
                obtain ⟨o5, c5, rfl, hq5⟩ := hO5'.view
                have hal : Below w5.heap.size w5 (w5.alloc (.cells #[.slice o5 nx.length c5] 26)) := by (repeat (first | exact Below.refl _ _ | refine below_drew' ?_ | refine below_drewN' ?_ _ | refine below_alloc' ?_ _ | refine below_set' ?_ (by (try simp); (try omega)) _ | refine below_step ?_ (by assumption)))
                have hS6 := (hS.below hbd5).below hal
                have hU6 := (hO5'.base_le hge2).below hal
                have HltS := Lib.hid (fun q hq => (hS.lt q hq).2)
                have HltU := Lib.hid (fun q hq => (World.ownsRow.lt hO5' q hq).1)
                clear hq5 hO5
                go_wp2_with (at_builtin; refine wpList_push_list rfl (.tmp 57) (.tmp 59) rfl w2.heap.size _ us secs rfl hS6 w5.heap.size 1 (.slice o5 nx.length c5) nx rfl (Blk.new w5 _ _) hU6 (fun q h1 h2 => by have q1 := HltS.out q h2; have q2 := HltU.out q h1; omega) (by have := Hsl.out; omega) (by simp; omega) ?_; intro v7 w7 hS7 hb7 hsp7 hat7)
                have hs7 := hb7.size
                simp at hs7
                go_roundw
                case rel => exact ⟨j + 1, _, _, by omega, by go_num, rfl, by rw [Hs1.out]; exact hS7, HE3, by omega, (below_allocB (below_stepB hbe hge2 hbd5) (by omega) _).trans hb7⟩
                case measure => simp [intOf] <;> omega
              · have hyb : ((yx : Int) != (j : Int)) = true := by simp; omega
                have Hno := Lib.hid (HE2.out hyx)
                clear HE1 HE2 hyx
                go_wp2
                go_ret2
                exact ⟨ret_bi2 (a := (false, 0)) Hno.out.symm, below_step (below_step (below_step hbw hbr) hbe) hbd5⟩
            · obtain rfl : j = Lt := by omega
              have Hst := Lib.hid (stays_yes HE.out)
              have HSo := Lib.hid (sec_ok (n := 80) Hg.out y HY.out j (Nat.le_refl _))
              have Hsl := Lib.hid (secK_len M y j)
              have HFu := Lib.hid (fun h => HR.out.symm.trans (Hfu.out Hst.out h))
              have HNe := Lib.hid (fun Q' h => (Hne.out Q' Hst.out h).symm.trans HR.out)
              clear Hfu Hne Hno HR HE hMr h6r cK cK3 hgl3 hU
              generalize secK M y j = secs at *
              have hOw := hO.below hbe
              have HltS := Lib.hid hS.lt
              have hbr3 := below_stepB hbr hge hbe
              have hHap : Hid (∀ q, inLV sv us q → (Value.slice (some ⟨g, 0, none⟩) Q.length cq).ownBlock = some q → False) := Lib.hid (fun q h1 h2 => by
                have q1 := (HltS.out q h1).1
                simp [Value.ownBlock] at h2
                omega)
              obtain ⟨osv, csv, rfl, hvs⟩ := hS.view
              rw [Hsl.out] at hS hHap HltS
              obtain ⟨w3, rfl⟩ : ∃ x, x = wr := ⟨_, rfl⟩
              clear hvs
              rw [Hsl.out]
              go_wp2
              clear cM
              go_loopw [9, 15] (fun qv' i wr => ∃ (i3 : Nat) (Q2 : List (List Int)) (vs2 : List Value) (q2 : Value), i3 ≤ j ∧ i = .int .i64 i3 ∧ q2 = qv' ∧ OwnLV wr W.heap.size q2 vs2 Q2 ∧ OwnLV wr w2.heap.size (.slice osv j csv) us secs ∧ Hid (∀ q, inLV (.slice osv j csv) us q → q2.ownBlock = some q → False) ∧ Hid (pushS M j S Q (secs.take i3) = some Q2) ∧ Hid ((∀ u ∈ Q2, wordOk S 80 u) ∧ Q2.length ≤ 200) ∧ w2.heap.size ≤ wr.heap.size ∧ Below W.heap.size W wr) (fun _ i _ => j - (intOf i).toNat)
              case atStart => exact ⟨0, Q, vs, _, by omega, rfl, rfl, hOw, hS, hHap, Lib.hid rfl, HQ, hge2, hbr3⟩
              case round =>
                clear hOw hS hHap hbr3 HQ HltS
                obtain ⟨i3, Q2, vs2, q2, hi3, rfl, rfl, hO, hS, Hap, HP, HW, hge3, hbr3⟩ := hrel
                obtain ⟨w4, rfl⟩ : ∃ x, x = wr := ⟨_, rfl⟩
                by_cases hlj : i3 < j
                · have hi3i : (i3 : Int) < (j : Int) := by omega
                  have hil : i3 < secs.length := by rw [Hsl.out]; exact hlj
                  have hiv : i3 < us.length := by rw [hS.len]; exact hil
                  obtain ⟨osv', csv', e1, hvs⟩ := hS.view
                  simp only [Value.slice.injEq] at e1
                  obtain ⟨rfl, -, rfl⟩ := e1
                  obtain ⟨gs, rfl, hgs, hcs⟩ := hvs (by omega)
                  have hgs4 : gs < w4.heap.size := (hS.lt gs (.inl rfl)).2
                  have cS := hcs i3 hiv
                  have hUs := hS.own i3 hiv hil
                  obtain ⟨oq2, cq2, rfl, hq2⟩ := hO.view
                  have hws := HSo.out _ (List.getElem_mem hil)
                  have HPn : Hid (pushS M j S Q (secs.take (i3 + 1)) = pushQ M j S Q2 secs[i3]) := Lib.hid (by rw [List.take_succ_eq_append_getElem hil, pushS_snoc, HP.out])
                  have HFull : Hid (pushQ M j S Q2 secs[i3] = none → RES = (false, 3)) := Lib.hid (fun h => HFu.out (by rw [← List.take_append_drop (i3 + 1) secs]; exact pushS_none _ _ _ _ _ _ (HPn.out.trans h)))
                  have HQn := Lib.hid (fun Q' h => pushQ_ok M j S 80 Q2 Q' _ HW.out.1 hws HW.out.2 h)
                  have HIn : Hid (nf M j S secs[i3] ∈ Q2 → pushQ M j S Q2 secs[i3] = some Q2) := Lib.hid (fun h => by unfold pushQ; rw [if_pos h])
                  have HFl : Hid (nf M j S secs[i3] ∉ Q2 → Q2.length = 200 → pushQ M j S Q2 secs[i3] = none) := Lib.hid (fun h h2 => by unfold pushQ; rw [if_neg h, if_pos h2])
                  have HPu : Hid (nf M j S secs[i3] ∉ Q2 → ¬ Q2.length = 200 → pushQ M j S Q2 secs[i3] = some (Q2 ++ [nf M j S secs[i3]])) := Lib.hid (fun h h2 => by unfold pushQ; rw [if_neg h, if_neg h2])
                  have HNr : Hid (∀ X, SeesI X us[i3] secs[i3] → Calls Try.prog 123 #[us[i3], .agg cc, .agg cb] X fun e w' => ∃ u, e = .returned u ∧ OwnI w' X.heap.size u (nf M j S secs[i3]) ∧ Below X.heap.size X w') := Lib.hid (fun X hX => HN.out us[i3] secs[i3] hws X hX)
                  have hq200 := HW.out.2
                  have h7r := hB7.keptAll hbr3
                  have h8r := hB8.keptAll hbr3
                  clear hvs hcs hq2 hws HP
                  generalize nf M j S secs[i3] = n5 at *
                  generalize pushQ M j S Q2 secs[i3] = pq at *
                  generalize secs[i3] = s3 at *
                  generalize us[i3] = uj at *
                  clear hil hiv
                  have hdr : Below w4.heap.size w4 w4.drew := (Below.refl _ _).drew
                  have hUd := hUs.below (w1 := w4.drew) hdr
                  go_wp2
                  refine wp_region_held_drew (S := fun W' => Blk W' g7 cc 92 ∧ Blk W' g8 cb 143 ∧ W'.cell? ⟨gs, i3, none⟩ = some uj) (by kernel_rfl) ⟨h7r.drew, h8r.drew, cS⟩ (fun hS0 => ?_)
                  (refine hK_take 0 (.slice (some ⟨gs, 0, none⟩) j csv) rfl (by kernel_rfl) (by kernel_rfl) (by kernel_rfl) (fun _ _ _ h => h) rfl (fun W _ => by go_simp) hS0 ?_; (intro K hK; go_simp; refine hK _ ?_; clear hK K))
                  (refine hK_take 1 (.int .i64 (i3 : Int)) rfl (by kernel_rfl) (by kernel_rfl) (by kernel_rfl) (fun _ _ _ h => h) rfl (fun W _ => by go_simp) hS0 ?_; (intro K hK; go_simp; refine hK _ ?_; clear hK K))
                  (refine hK_take 2 (.pointer (some ⟨gs, i3, none⟩)) rfl (by kernel_rfl) (by kernel_rfl) (by kernel_rfl) (fun _ _ _ h => h) rfl (fun W _ => by go_simp) hS0 ?_; (intro K hK; go_simp; refine hK _ ?_; clear hK K))
                  (refine hK_take 3 uj rfl (by kernel_rfl) (by kernel_rfl) (by kernel_rfl) (fun _ _ _ h => h) rfl (fun W hW => by have c1 := hW.2.2; clear hW; go_simp) hS0 ?_; (intro K hK; go_simp; refine hK _ ?_; clear hK K))
                  (refine hK_load 4 rfl (by kernel_rfl) (by kernel_rfl) (by kernel_rfl) 92 _ rfl g7 0 rfl cc _ (fun W hW => hW.1) 16 F7s.out _ Try.underlying92 rfl size_i16 _ F7.out (fun _ _ _ h => h) rfl hS0 ?_; (intro K hK; go_simp; refine hK _ ?_; clear hK K))
                  (refine hK_load 5 rfl (by kernel_rfl) (by kernel_rfl) (by kernel_rfl) 143 _ rfl g8 0 rfl cb _ (fun W hW => hW.2.1) 16 F8s.out _ Try.underlying143 rfl (zero_of_info info_b16).2 _ F8.out (fun _ _ _ h => h) rfl hS0 ?_; (intro K hK; go_simp; refine hK _ ?_; clear hK K))
                  (refine wpAnyH_ready (rs := [6]) (by kernel_rfl) (by simp) ?_; refine AllReadyH.cons rfl (fun K hK => ?_) AllReadyH.nil); go_simp; refine (HNr.out _ hUd.sees).mono ?_; rintro e w5 ⟨v5, rfl, hO5, hb5⟩
                  have hbd5 : Below w4.heap.size w4 w5 := hdr.trans hb5
                  (go_simp; refine hK.out _ _ (⟨Blk.keptAll hS0.1 hb5, Blk.keptAll hS0.2.1 hb5, by rw [hb5.cell hgs4]; exact hS0.2.2⟩) (fun hS1 => ?_); clear hK K)
                  (refine hK_take 7 (v5) rfl (by kernel_rfl) (by kernel_rfl) (by kernel_rfl) (fun _ _ _ h => h) rfl (fun W _ => by go_simp) hS1 ?_; (intro K hK; go_simp; refine hK _ ?_; clear hK K))
                  refine wpAnyH_done (by kernel_rfl) ?_ _
                  clear hS0 hS1 h7r h8r cS hUd HNr hUs
                  have hO5' : OwnI w5 w4.heap.size v5 n5 := hO5
                  have hs5 : w4.heap.size ≤ w5.heap.size := hbd5.size
                  have hW4 : W.heap.size ≤ w4.heap.size := by omega
                  obtain ⟨o5, c5, rfl, hq5⟩ := hO5'.view
                  have hOq := hO.below hbd5
                  have hSq := hS.below hbd5
                  have HltQ := Lib.hid (fun q hq => (hO.lt q hq).2)
                  have HltU := Lib.hid (fun q hq => (World.ownsRow.lt hO5' q hq).1)
                  have HltS := Lib.hid (fun q hq => (hS.lt q hq))
                  have hFd := l02Find_calls W.heap.size _ vs2 Q2 _ n5 w5 hOq hO5'.sees
                  clear hq5 hO5 hO hS hb5
                  by_cases hin : n5 ∈ Q2
                  · rw [show fndQ Q2 n5 = ((Q2.idxOf n5 : Nat) : Int) by unfold fndQ; rw [if_pos hin]] at hFd
                    have hi0 : (0 : Int) ≤ ((Q2.idxOf n5 : Nat) : Int) := by omega
                    have HP2 := Lib.hid (HPn.out.trans (HIn.out hin))
                    clear HIn HFl HPu HPn HFull HQn hin
                    generalize ((Q2.idxOf n5 : Nat) : Int) = ix at *
                    have HFd := Lib.hid hFd
                    clear hFd
                    go_wp2_with (go_at_call 124; refine HFd.out.mono ?_; rintro e w6 ⟨rfl, hb6⟩)
                    have hs6 := hb6.size
                    go_roundw
                    case rel => exact ⟨i3 + 1, Q2, vs2, _, by omega, by go_num, rfl, hOq.below hb6, hSq.below hb6, Hap, HP2, HW, by omega, below_stepB (below_stepB hbr3 hW4 hbd5) (by omega) hb6⟩
                    case measure => simp [intOf] <;> omega
                  · rw [show fndQ Q2 n5 = -1 by unfold fndQ; rw [if_neg hin]] at hFd
                    have HFd := Lib.hid hFd
                    clear hFd
                    by_cases h200 : Q2.length = 200
                    · have hqb : ((Q2.length : Int) == 200) = true := by rw [h200]; rfl
                      have Hno := Lib.hid (HFull.out (HFl.out hin h200))
                      clear HIn HFl HPu HPn HFull HQn hin h200
                      go_wp2_with (go_at_call 124; refine HFd.out.mono ?_; rintro e w6 ⟨rfl, hb6⟩)
                      go_ret2
                      exact ⟨ret_bi2 (a := (false, 3)) Hno.out.symm, below_step (below_step (below_step hbw hbr3) hbd5) hb6⟩
                    · have hqb : ((Q2.length : Int) == 200) = false := by simp; omega
                      have HP2 := Lib.hid (HPn.out.trans (HPu.out hin h200))
                      have HW2 := Lib.hid (HQn.out _ (HPu.out hin h200))
                      clear HIn HFl HPu HPn HFull HQn hin h200
                      have hal : ∀ X : World, Below X.heap.size X (X.alloc (.cells #[.slice o5 n5.length c5] 26)) := fun X => by (repeat (first | exact Below.refl _ _ | refine below_drew' ?_ | refine below_drewN' ?_ _ | refine below_alloc' ?_ _ | refine below_set' ?_ (by (try simp); (try omega)) _ | refine below_step ?_ (by assumption)))
                      go_wp2_with (first | (go_at_call 124; refine HFd.out.mono ?_; rintro e w6 ⟨rfl, hb6⟩; have hs6 := hb6.size; have hOr := (hOq.below hb6).below (hal w6); have hSr := (hSq.below hb6).below (hal w6); have hUr := ((hO5'.below hb6).base_le hW4).below (hal w6)) | (at_builtin; refine wpList_push_list rfl (.tmp 81) (.tmp 83) rfl W.heap.size _ vs2 Q2 rfl hOr w6.heap.size 1 (.slice o5 n5.length c5) n5 rfl (Blk.new w6 _ _) hUr (fun q h1 h2 => by have q1 := HltQ.out q h2; have q2 := HltU.out q h1; omega) (by omega) (by simp; omega) ?_; intro v7 w7 hS7 hb7 hsp7 hat7))
                      have hs7 := hb7.size
                      simp at hs7
                      have hsz6 : (w6.alloc (.cells #[.slice o5 n5.length c5] 26)).heap.size = w6.heap.size + 1 := by simp
                      go_roundw
                      case rel => exact ⟨i3 + 1, _, _, _, by omega, by go_num, rfl, hS7, hSr.spared hsp7 (fun q h1 h2 => Hap.out q h1 h2), Lib.hid (fun q h1 h2 => by
                        rcases hat7 with e | e
                        · exact Hap.out q h1 (e ▸ h2)
                        · rw [e, hsz6] at h2
                          cases h2
                          have := (HltS.out _ h1).2
                          omega), HP2, Lib.hid ⟨HW2.out.1, HW2.out.2.1⟩, by omega, (below_allocB (below_stepB (below_stepB hbr3 hW4 hbd5) (by omega) hb6) (by omega) _).trans hb7⟩
                      case measure => simp [intOf] <;> omega
                · obtain rfl : i3 = j := by omega
                  have HP2 : Hid (pushS M i3 S Q secs = some Q2) := Lib.hid (by have := HP.out; rwa [List.take_of_length_le (by rw [Hsl.out]; omega)] at this)
                  have HR2 := Lib.hid (HNe.out Q2 HP2.out)
                  have hle := pushS_le M i3 S _ _ _ HP2.out
                  obtain ⟨oq2, cq2, rfl, hq2⟩ := hO.view
                  clear hq2
                  go_wp2
                  go_roundw
                  case rel => exact ⟨k + 1, Q2, vs2, _, by omega, by go_num, rfl, hO, HW, by rw [show 201 - (k + 1) = 200 - k by omega]; exact HR2, by omega, hbr3⟩
                  case measure => simp [intOf] <;> omega
        · obtain rfl : k = Q.length := by omega
          have Hend : Hid (RES = (true, 0)) := Lib.hid (by rw [← HR.out, show 201 - Q.length = (200 - Q.length) + 1 by omega]; exact resT_end M Lt S _ _ Q (Nat.le_refl _))
          obtain ⟨oq, cq, rfl, hvc⟩ := hO.view
          clear hvc
          go_wp2
          go_ret2
          exact ⟨ret_bi2 (a := (true, 0)) Hend.out.symm, below_step hbw hbr⟩
    | exit _ => exact hT.elim
    | goto _ => exact hT.elim
    | ret => exact hT.elim
    | panic _ => exact hT.elim
    | outgrown => exact hT.elim
end Go.Proofs.Ytliohokcjgcmhaa
