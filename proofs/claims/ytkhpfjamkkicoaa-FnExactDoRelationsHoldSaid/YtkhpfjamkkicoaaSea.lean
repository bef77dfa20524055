/- The search for equal words: plain data; the model's comparisons of lists. -/
import Derived.Test.YtkhpfjamkkicoaaNorP
import Derived.Test.YtkhpfjamkkicoaaWrI
namespace Go.Proofs.Ytkhpfjamkkicoaa
open Go.RowKit

/-- The normal word. -/
def nf (M : Mach) (L S : Nat) (z : List Int) : List Int := normK M L S z z.length
/-- A word more in the queue, where it is new; none where the queue is full. -/
def pushQ (M : Mach) (L S : Nat) (Q : List (List Int)) (z : List Int) : Option (List (List Int)) := if nf M L S z ∈ Q then some Q else if Q.length = 200 then none else some (Q ++ [nf M L S z])
def pushS (M : Mach) (L S : Nat) : List (List Int) → List (List Int) → Option (List (List Int))
  | Q, [] => some Q
  | Q, z :: zs => match pushQ M L S Q z with | none => none | some Q' => pushS M L S Q' zs
/-- Each of the letters is its own image. -/
def stays (M : Mach) (L : Nat) (z : List Int) : Bool := (List.range L).all fun x => decide ((ledG M z x).1 = x)
/-- What the search tells from the word k of the queue on, and its code. -/
def resT (M : Mach) (L S : Nat) : Nat → Nat → List (List Int) → Bool × Int
  | 0, _, _ => (true, 0)
  | f + 1, k, Q => match Q[k]? with
    | none => (true, 0)
    | some z => if stays M L z then (match pushS M L S Q (secK M z L) with | none => (false, 3) | some Q' => resT M L S f (k + 1) Q') else (false, 0)
theorem resT_end (M : Mach) (L S f k : Nat) (Q : List (List Int)) (h : Q.length ≤ k) : resT M L S (f + 1) k Q = (true, 0) := by
  simp [resT, List.getElem?_eq_none h]
theorem resT_bad (M : Mach) (L S f k : Nat) (Q : List (List Int)) (h : k < Q.length) (hs : stays M L Q[k] = false) : resT M L S (f + 1) k Q = (false, 0) := by
  simp [resT, List.getElem?_eq_getElem h, hs]
theorem resT_full (M : Mach) (L S f k : Nat) (Q : List (List Int)) (h : k < Q.length) (hs : stays M L Q[k] = true) (hp : pushS M L S Q (secK M Q[k] L) = none) : resT M L S (f + 1) k Q = (false, 3) := by
  simp [resT, List.getElem?_eq_getElem h, hs, hp]
theorem resT_next (M : Mach) (L S f k : Nat) (Q Q' : List (List Int)) (h : k < Q.length) (hs : stays M L Q[k] = true) (hp : pushS M L S Q (secK M Q[k] L) = some Q') : resT M L S (f + 1) k Q = resT M L S f (k + 1) Q' := by
  simp [resT, List.getElem?_eq_getElem h, hs, hp]
/-- Words of a queue: numbers that stand for states, at most so many. -/
def wordOk (S n : Nat) (z : List Int) : Prop := numsOk S z = true ∧ z.length ≤ n
theorem nf_len (M : Mach) (L S : Nat) (z : List Int) : (nf M L S z).length ≤ z.length := normK_len M L S z _ (Nat.le_refl _)
theorem bring_ok (M : Mach) (L S : Nat) (z : Int) (hz : numOk S z = true) (hb : bring M L S z ≠ 0) : numOk S (bring M L S z) = true := by
  rw [numOk_iff]
  refine ⟨hb, ?_⟩
  have hq := stOf_lt hz
  have hl := (lst_at M L (S + 1) (stOf z)).1
  have hn : 0 ≤ nrm M L S (stOf z) ∧ nrm M L S (stOf z) ≤ S := by
    unfold nrm
    split <;> omega
  rw [bring_nrm]
  split <;> omega
theorem joinN_nums (S : Nat) (acc : List Int) (k : Int) (h : numsOk S acc = true) (hk : k ≠ 0 → numOk S k = true) : numsOk S (joinN acc k) = true := by
  unfold joinN
  split
  · exact h
  · split
    · unfold numsOk at *
      rw [List.all_eq_true] at *
      exact fun x hx => h x (List.dropLast_subset _ hx)
    · rename_i h0 _
      rw [numsOk_snoc, h, hk h0]; rfl
theorem nf_nums (M : Mach) (L S : Nat) (z : List Int) (h : numsOk S z = true) : numsOk S (nf M L S z) = true := by
  have : ∀ k, k ≤ z.length → numsOk S (normK M L S z k) = true := by
    intro k
    induction k with
    | zero => intro _; rfl
    | succ k ih =>
      intro hk
      rw [normK_succ M L S z k (by omega)]
      exact joinN_nums S _ _ (ih (by omega)) (bring_ok M L S _ (numsOk_at h k (by omega)))
  exact this _ (Nat.le_refl _)
theorem nf_ok (M : Mach) (L S n : Nat) (z : List Int) (h : wordOk S n z) : wordOk S n (nf M L S z) := ⟨nf_nums M L S z h.1, Nat.le_trans (nf_len M L S z) h.2⟩
theorem sec_ok {M : Mach} {L S n : Nat} (hg : Good M L S) (z : List Int) (h : wordOk S n z) (k : Nat) (hk : k ≤ L) : ∀ u ∈ secK M z k, wordOk S n u := by
  intro u hu
  obtain ⟨x, hx, rfl⟩ := List.mem_map.1 hu
  obtain ⟨_, h2, h3⟩ := ledG_all hg z h.1 x (by have := List.mem_range.1 hx; omega)
  exact ⟨h3, by rw [h2]; exact h.2⟩
theorem pushQ_ok (M : Mach) (L S n : Nat) (Q Q' : List (List Int)) (z : List Int) (hQ : ∀ u ∈ Q, wordOk S n u) (hz : wordOk S n z) (h200 : Q.length ≤ 200) (h : pushQ M L S Q z = some Q') : (∀ u ∈ Q', wordOk S n u) ∧ Q'.length ≤ 200 ∧ Q.length ≤ Q'.length := by
  unfold pushQ at h
  split at h
  · cases h; exact ⟨hQ, h200, Nat.le_refl _⟩
  · split at h
    · cases h
    · cases h
      refine ⟨fun u hu => ?_, by simp; omega, by simp⟩
      rcases List.mem_append.1 hu with hu | hu
      · exact hQ u hu
      · rw [List.mem_singleton.1 hu]; exact nf_ok M L S n z hz
/-- The queue behind the first j sections. -/
theorem pushS_snoc (M : Mach) (L S : Nat) : ∀ (zs : List (List Int)) (Q : List (List Int)) (z : List Int), pushS M L S Q (zs ++ [z]) = match pushS M L S Q zs with | none => none | some Q' => pushQ M L S Q' z
  | [], Q, z => by
    simp only [List.nil_append, pushS]
    cases pushQ M L S Q z <;> rfl
  | y :: zs, Q, z => by
    simp only [List.cons_append, pushS]
    cases pushQ M L S Q y with
    | none => rfl
    | some Q' => exact pushS_snoc M L S zs Q' z
theorem pushS_none (M : Mach) (L S : Nat) (ys : List (List Int)) : ∀ (zs : List (List Int)) (Q : List (List Int)), pushS M L S Q zs = none → pushS M L S Q (zs ++ ys) = none
  | [], Q, h => by cases h
  | z :: zs, Q, h => by
    simp only [List.cons_append, pushS] at h ⊢
    cases hq : pushQ M L S Q z with
    | none => rfl
    | some Q' => rw [hq] at h; exact pushS_none M L S ys zs Q' h
def fndQ (Q : List (List Int)) (z : List Int) : Int := if z ∈ Q then (Q.idxOf z : Int) else -1
theorem fndQ_at (Q : List (List Int)) (z : List Int) (k : Nat) (hk : k < Q.length) (h : Q[k] = z) (hno : ∀ j (hj : j < Q.length), j < k → Q[j] ≠ z) : fndQ Q z = (k : Int) := by
  have hm : z ∈ Q := by rw [← h]; exact List.getElem_mem hk
  unfold fndQ
  rw [if_pos hm]
  have h1 : Q.idxOf z ≤ k := by
    unfold List.idxOf
    rw [← Nat.not_lt]
    intro hlt
    have := List.not_of_lt_findIdx hlt
    simp [h] at this
  have h2 : Q.idxOf z < Q.length := List.idxOf_lt_length_of_mem hm
  have h3 : Q[Q.idxOf z] = z := List.getElem_idxOf h2
  by_cases e : Q.idxOf z < k
  · exact absurd h3 (hno _ h2 e)
  · omega
theorem fndQ_no (Q : List (List Int)) (z : List Int) (hno : ∀ j (hj : j < Q.length), Q[j] ≠ z) : fndQ Q z = -1 := by
  unfold fndQ
  rw [if_neg]
  intro hm
  obtain ⟨j, hj, e⟩ := List.getElem_of_mem hm
  exact hno j hj e
theorem ret_bq {a b : Bool} (h : a = b) : Ending.returned (.bool a) = Ending.returned (.bool b) := by rw [h]
theorem ret_iq {a b : Int} (h : a = b) : Ending.returned (.int .i64 a) = Ending.returned (.int .i64 b) := by rw [h]

set_option maxRecDepth 100000 in
set_option maxHeartbeats 1000000 in
theorem l02Like_calls (a b : Value) (zs ys : List Int) (w : World) (ha : SeesI w a zs) (hb : SeesI w b ys) :
    Calls Try.prog 60 #[a, b] w fun e w' => e = .returned (.bool (decide (zs = ys))) ∧ Below w.heap.size w w' := by
  have hla := ha.1
  have hlb := hb.1
  unfold maxLen at hla hlb
  obtain ⟨oa, ca, hva, _⟩ := ha.view
  obtain ⟨ob, cb, hvb, _⟩ := hb.view
  subst hva hvb
  have Ha := Lib.hid ha
  have Hb := Lib.hid hb
  clear ha hb
  by_cases hlen : zs.length = ys.length
  rotate_left
  · have hne : ((zs.length : Int) != (ys.length : Int)) = true := by
      rw [bne_iff_ne]
      intro h
      exact hlen (Int.ofNat.inj h)
    have hd : Hid (decide (zs = ys) = false) := Lib.hid (decide_eq_false (fun e => hlen (by rw [e])))
    clear hlen
    go_enter Try.func60, Try.ntmps60
    go_wp2
    go_ret
    exact ⟨ret_bq hd.out.symm, Below.refl _ _⟩
  have hne : ((zs.length : Int) != (ys.length : Int)) = false := by rw [hlen]; simp
  have Hlen := Lib.hid hlen
  clear hlen
  go_enter Try.func60, Try.ntmps60
  go_wp2
  go_loopw [5] (fun i wr => ∃ k : Nat, k ≤ zs.length ∧ i = .int .i64 k ∧ Below w.heap.size w wr ∧ Hid (∀ j, j < k → zs.getD j 0 = ys.getD j 0)) (fun i _ => zs.length - (intOf i).toNat)
  case atStart => exact ⟨0, by omega, rfl, Below.refl _ _, Lib.hid (fun j hj => by omega)⟩
  case round =>
    obtain ⟨k, hk, rfl, hbw, HE⟩ := hrel
    by_cases hlt : k < zs.length
    · have hki : (k : Int) < (zs.length : Int) := by omega
      have hky : k < ys.length := by rw [← Hlen.out]; exact hlt
      have hkyi : (k : Int) < (ys.length : Int) := by omega
      obtain ⟨g1, h1, _, c1⟩ := (Ha.out.below hbw).at k hlt
      obtain ⟨g2, h2, _, c2⟩ := (Hb.out.below hbw).at k hky
      subst h1 h2
      have ez : zs.getD k 0 = zs[k] := by simp [List.getD, List.getElem?_eq_getElem hlt]
      have ey : ys.getD k 0 = ys[k] := by simp [List.getD, List.getElem?_eq_getElem hky]
      have HE2 : Hid (zs[k] = ys[k] → ∀ j, j < k + 1 → zs.getD j 0 = ys.getD j 0) := Lib.hid (fun h j hj => by
        by_cases e : j = k
        · subst e; rw [ez, ey, h]
        · exact HE.out j (by omega))
      have HD : Hid (zs[k] ≠ ys[k] → decide (zs = ys) = false) := Lib.hid (fun h => decide_eq_false (fun e => h (by rw [← ez, ← ey, e])))
      clear ez ey
      generalize zs[k] = z1 at *
      generalize ys[k] = z2 at *
      by_cases hz : z1 = z2
      · have hzb : (z1 != z2) = false := by rw [hz]; simp
        have HE3 := Lib.hid (HE2.out hz)
        clear hz
        go_wp2
        go_quiet (fail)
        go_wp2
        go_roundw
        case rel => exact ⟨k + 1, by omega, by go_num, below_step hbw (by (repeat (first | exact Below.refl _ _ | refine below_drew' ?_ | refine below_drewN' ?_ _ | refine below_alloc' ?_ _ | refine below_set' ?_ (by (try simp); (try omega)) _ | refine below_step ?_ (by assumption)))), HE3⟩
        case measure => simp [intOf] <;> omega
      · have hzb : (z1 != z2) = true := by simpa using hz
        have Hno := Lib.hid (HD.out hz)
        clear hz
        go_wp2
        go_quiet (fail)
        go_wp2
        go_ret
        exact ⟨ret_bq Hno.out.symm, below_step hbw (by (repeat (first | exact Below.refl _ _ | refine below_drew' ?_ | refine below_drewN' ?_ _ | refine below_alloc' ?_ _ | refine below_set' ?_ (by (try simp); (try omega)) _ | refine below_step ?_ (by assumption))))⟩
    · obtain rfl : k = zs.length := by omega
      have Hyes : Hid (decide (zs = ys) = true) := Lib.hid (decide_eq_true (by
        apply List.ext_getElem Hlen.out
        intro i h1 h2
        have := HE.out i h1
        simpa [List.getD, List.getElem?_eq_getElem h1, List.getElem?_eq_getElem h2] using this))
      go_wp2
      go_ret
      exact ⟨ret_bq Hyes.out.symm, hbw⟩

set_option maxRecDepth 100000 in
set_option maxHeartbeats 1000000 in
theorem l02Find_calls (base : Nat) (q : Value) (vs : List Value) (Q : List (List Int)) (v : Value) (z : List Int) (w : World) (hq : OwnLV w base q vs Q) (hv : SeesI w v z) :
    Calls Try.prog 47 #[q, v] w fun e w' => e = .returned (.int .i64 (fndQ Q z)) ∧ Below w.heap.size w w' := by
  have hll := hq.llen
  unfold maxLen at hll
  have Hln := Lib.hid hq.len
  obtain ⟨oq, cq, hve, _⟩ := hq.view
  obtain ⟨ov, cv, hvv, _⟩ := hv.view
  subst hve hvv
  have Hq := Lib.hid hq
  have Hv := Lib.hid hv
  clear hq hv
  go_enter Try.func47, Try.ntmps47
  go_wp2
  go_loopw [5] (fun i wr => ∃ k : Nat, k ≤ Q.length ∧ i = .int .i64 k ∧ Below w.heap.size w wr ∧ Hid (∀ j (hj : j < Q.length), j < k → Q[j] ≠ z)) (fun i _ => Q.length - (intOf i).toNat)
  case atStart => exact ⟨0, by omega, rfl, Below.refl _ _, Lib.hid (fun j _ hj => by omega)⟩
  case round =>
    obtain ⟨k, hk, rfl, hbw, HE⟩ := hrel
    by_cases hlt : k < Q.length
    · have hki : (k : Int) < (Q.length : Int) := by omega
      have hkv : k < vs.length := by rw [Hln.out]; exact hlt
      have hqb := Hq.out.below hbw
      obtain ⟨oq', cq', hve', hvc⟩ := hqb.view
      obtain ⟨g, hg, _, hcell⟩ := hvc (by omega)
      simp only [Value.slice.injEq] at hve'
      rw [← hve'.1] at hg
      have c1 := hcell k hkv
      have hS := (hqb.own k hkv hlt).sees
      have HL := Lib.hid (l02Like_calls vs[k] (.slice ov z.length cv) Q[k] z wr hS (Hv.out.below hbw))
      have HF : Hid (Q[k] = z → fndQ Q z = (k : Int)) := Lib.hid (fun h => fndQ_at Q z k hlt h HE.out)
      have HE2 : Hid (Q[k] ≠ z → ∀ j (hj : j < Q.length), j < k + 1 → Q[j] ≠ z) := Lib.hid (fun h j hj h2 => by
        by_cases e : j = k
        · subst e; exact h
        · exact HE.out j hj (by omega))
      obtain ⟨o1, c1', hvk, _⟩ := (hqb.own k hkv hlt).view
      subst hg
      clear hve' hvc hcell hS hqb
      generalize Q[k] = y at *
      generalize vs[k] = u at *
      subst hvk
      by_cases hz : y = z
      · have Hyes := Lib.hid (HF.out hz)
        rw [decide_eq_true hz] at HL
        clear hz
        go_wp2_with (go_at_call 60; refine HL.out.mono ?_; rintro e w3 ⟨rfl, hb3⟩)
        go_ret
        exact ⟨ret_iq Hyes.out.symm, below_step hbw hb3⟩
      · have HE3 := Lib.hid (HE2.out hz)
        rw [decide_eq_false hz] at HL
        clear hz
        go_wp2_with (go_at_call 60; refine HL.out.mono ?_; rintro e w3 ⟨rfl, hb3⟩)
        go_roundw
        case rel => exact ⟨k + 1, by omega, by go_num, below_step hbw hb3, HE3⟩
        case measure => simp [intOf] <;> omega
    · obtain rfl : k = Q.length := by omega
      have Hno := Lib.hid (fndQ_no Q z (fun j hj => HE.out j hj hj))
      go_wp2
      go_ret
      exact ⟨ret_iq Hno.out.symm, hbw⟩
end Go.Proofs.Ytkhpfjamkkicoaa
