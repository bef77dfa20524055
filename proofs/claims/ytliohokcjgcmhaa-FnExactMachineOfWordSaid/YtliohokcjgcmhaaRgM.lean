/- A region whose last operation comes behind all others, in the plain walk. -/
import Derived.Test.YtliohokcjgcmhaaHeldK
namespace Go.Proofs.Ytliohokcjgcmhaa
open Go.RowKit

section
variable {P : Program} {ops : Array Oper} {Q : Exit → Act → World → Prop} {md : Region.Mode} {S : World → Prop} {n l : Nat}
/-- What is to hold where all but the last operation have come. -/
def lastQ (P : Program) (ops : Array Oper) (Q : Exit → Act → World → Prop) (n : Nat) : Exit → Act → World → Prop
  | .normal, a, w => wpOp P ops Q n (fun a' w' => Q .normal a' w') a w
  | e, a, w => Q e a w
theorem lastQ_out : LetsOut (lastQ P ops Q n) → LetsOut Q := fun ⟨a, w, h⟩ => ⟨a, w, h⟩
theorem op_lastQ {o : Oper} {a : Act} {w : World} {K K' : Act → World → Prop} (hK : ∀ a w, K a w → K' a w) (h : o.wp P a w K (lastQ P ops Q n)) : o.wp P a w K' Q := by
  unfold Oper.wp at *
  generalize (execOp a.eval o).run P w = r at *
  cases r with
  | ok x w' =>
    cases x with
    | value v => exact hK _ _ h
    | skip => exact hK _ _ h
    | defer d => exact hK _ _ h
    | enter f args =>
      refine Calls.mono h ?_
      intro e w'' he
      cases e with
      | returned v => exact hK _ _ he
      | panicked c => exact he
      | outgrown => exact lastQ_out he
    | row row args => exact Rows.mono h (fun v w'' he => hK _ _ he)
    | _ => exact h.elim
  | halt x w' => cases x <;> first | exact h | exact h.elim
theorem all_listed {listed : Array Bool} (hsz : ops.size = n + 1) (hl : listed.size = n) (hw : ∀ (i : Nat) (oi : Oper), i < n → ops[i]? = some oi → oi.guard = none ∧ ∀ e ∈ oi.after, e.on < i) (hr : ∀ i, i ∉ Region.ready md ops.pop listed) : ∀ i, i < n → listed.getD i true = true := by
  intro i
  induction i using Nat.strongRecOn with
  | _ i ih =>
    intro hi
    by_cases hli : listed.getD i true = true
    · exact hli
    exfalso
    have hoi : ops[i]? = some (ops[i]'(by omega)) := Array.getElem?_eq_getElem (by omega)
    refine hr i (mem_ready.2 ⟨by simpa using hli, ops[i]'(by omega), ?_, fun e he _ => ?_⟩)
    · rw [Array.getElem?_pop, if_pos (by omega)]; exact hoi
    · have hlt := (hw i _ hi hoi).2 e he
      have := ih e.on hlt (by omega)
      simp only [Array.getD_eq_getD_getElem?] at this ⊢
      rw [Array.getElem?_eq_getElem (by omega)] at this ⊢
      simpa using this
theorem push_getD (n : Nat) (listed : Array Bool) (d : Bool) (i : Nat) (hl : listed.size = n) : (listed.push false).getD i d = if i < n then listed.getD i d else if i = n then false else d := by
  simp only [Array.getD_eq_getD_getElem?, Array.getElem?_push, hl]
  by_cases h1 : i = n
  · subst h1; rw [if_pos rfl, if_neg (by omega), if_pos rfl]; rfl
  · rw [if_neg h1]
    by_cases h2 : i < n
    · rw [if_pos h2]
    · rw [if_neg h2, if_neg h1, Array.getElem?_eq_none (by omega)]; rfl
theorem getD_any (n : Nat) (listed : Array Bool) (d d' : Bool) (i : Nat) (hl : listed.size = n) (hi : i < n) : listed.getD i d = listed.getD i d' := by
  simp only [Array.getD_eq_getD_getElem?]
  rw [Array.getElem?_eq_getElem (by omega)]; rfl
theorem wpAny_end {a : Act} {w : World} {listed : Array Bool} (hr : ∀ i, i ∉ Region.ready md ops listed) (h : Q .normal a w) : ∀ fuel : Nat, wpAny P md ops Q fuel listed a w
  | 0 => ⟨List.eq_nil_iff_forall_not_mem.2 hr, h⟩
  | _ + 1 => ⟨fun _ => h, fun i hi => absurd hi (hr i)⟩
theorem wpAny_last {o : Oper} (hsz : ops.size = n + 1) (ho : ops[n]? = some o) (hall : ∀ j, j < n → ∃ e ∈ o.after, e.on = j ∧ Region.binds md e = true) (hall2 : ∀ e ∈ o.after, e.on < n) (hw : ∀ (i : Nat) (oi : Oper), i < n → ops[i]? = some oi → oi.guard = none ∧ ∀ e ∈ oi.after, e.on < i) :
    ∀ (fuel : Nat) (listed : Array Bool) (a : Act) (w : World), listed.size = n → wpAny P md ops.pop (lastQ P ops Q n) fuel listed a w → wpAny P md ops Q (fuel + 1) (listed.push false) a w := by
  -- all but the last have come
  have fin : ∀ (fuel : Nat) (listed : Array Bool) (a : Act) (w : World), listed.size = n → (∀ i, i ∉ Region.ready md ops.pop listed) → lastQ P ops Q n .normal a w → wpAny P md ops Q (fuel + 1) (listed.push false) a w := by
    intro fuel listed a w hl hr hq
    have hL := all_listed hsz hl hw hr
    have rdy : ∀ i, i ∈ Region.ready md ops (listed.push false) ↔ i = n := by
      intro i
      rw [mem_ready, push_getD n listed true i hl]
      constructor
      · rintro ⟨h1, _, _, _⟩
        by_cases hi : i < n
        · rw [if_pos hi, hL i hi] at h1; cases h1
        · by_cases h2 : i = n
          · exact h2
          · rw [if_neg hi, if_neg h2] at h1; cases h1
      · rintro rfl
        refine ⟨by rw [if_neg (by omega), if_pos rfl], o, ho, fun e he hb => ?_⟩
        have hlt := hall2 e he
        rw [push_getD i listed false e.on hl, if_pos hlt, getD_any i listed false true e.on hl hlt]
        exact hL _ hlt
    refine ⟨fun h => absurd ((rdy n).2 rfl) (by rw [h]; simp), fun i hi => ?_⟩
    obtain rfl := (rdy i).1 hi
    refine wpOp_mono (fun a' w' h => wpAny_end (fun j hj => ?_) h fuel) hq
    obtain ⟨h1, oj, hoj, _⟩ := mem_ready.1 hj
    have hjn : j < i + 1 := by rw [← hsz]; exact (Array.getElem?_eq_some_iff.1 hoj).1
    by_cases hji : j = i
    · subst hji
      simp [Array.getD_eq_getD_getElem?, hl] at h1
    · have hlt : j < i := by omega
      have h2 := push_getD i listed true j hl
      rw [if_pos hlt, hL j hlt] at h2
      simp only [Array.getD_eq_getD_getElem?, Array.getElem?_setIfInBounds] at h1 h2
      rw [if_neg (fun e => hji e.symm), h2] at h1
      cases h1
  intro fuel
  induction fuel with
  | zero => exact fun listed a w hl h => fin 0 listed a w hl (by rw [h.1]; simp) h.2
  | succ fuel ih =>
    intro listed a w hl h
    by_cases hr : Region.ready md ops.pop listed = []
    · exact fin (fuel + 1) listed a w hl (by rw [hr]; simp) (h.1 hr)
    obtain ⟨i0, hi0⟩ := List.exists_mem_of_ne_nil _ hr
    have lift : ∀ i, i ∈ Region.ready md ops.pop listed → i < n ∧ i ∈ Region.ready md ops (listed.push false) := by
      intro i hi
      obtain ⟨h1, oi, hoi, h2⟩ := mem_ready.1 hi
      rw [Array.getElem?_pop] at hoi
      split at hoi
      · rename_i hlt
        have hin : i < n := by omega
        refine ⟨hin, mem_ready.2 ⟨by rw [push_getD n listed true i hl, if_pos hin]; exact h1, oi, hoi, fun e he hb => ?_⟩⟩
        have hen := (hw i oi hin hoi).2 e he
        rw [push_getD n listed false e.on hl, if_pos (by omega)]
        exact h2 e he hb
      · cases hoi
    refine ⟨fun hnil => absurd (lift i0 hi0).2 (by rw [hnil]; simp), fun i hi => ?_⟩
    obtain ⟨h1, oi, hoi, h2⟩ := mem_ready.1 hi
    have hilt : i < n + 1 := by rw [← hsz]; exact (Array.getElem?_eq_some_iff.1 hoi).1
    by_cases hin : i < n
    · have hpop : ops.pop[i]? = some oi := by rw [Array.getElem?_pop, if_pos (by omega)]; exact hoi
      have hri : i ∈ Region.ready md ops.pop listed := mem_ready.2 ⟨by rw [push_getD n listed true i hl, if_pos hin] at h1; exact h1, oi, hpop, fun e he hb => by
        have hen := (hw i oi hin hoi).2 e he
        have := h2 e he hb
        rw [push_getD n listed false e.on hl, if_pos (by omega)] at this
        exact this⟩
      have h3 := h.2 i hri
      have hgd := (hw i oi hin hoi).1
      unfold wpOp at h3 ⊢
      simp only [hpop, hoi, Region.wanted, hgd, if_true] at h3 ⊢
      have hset : (listed.push false).setIfInBounds i true = (listed.setIfInBounds i true).push false := by
        apply Array.ext_getElem?
        intro j
        simp only [Array.getElem?_setIfInBounds, Array.getElem?_push, Array.size_setIfInBounds, Array.size_push]
        by_cases hji : i = j
        · subst hji
          rw [if_pos rfl, if_pos (by omega), if_neg (by omega), if_pos rfl, if_pos (by omega)]
        · rw [if_neg hji, if_neg hji]
      rw [hset]
      rcases h3 with h3 | ⟨h3, h4⟩
      · exact .inl (op_lastQ (fun a' w' hk => ih _ a' w' (by simp [hl]) hk) h3)
      · exact .inr ⟨h3, lastQ_out h4⟩
    · exfalso
      obtain rfl : i = n := by omega
      obtain ⟨hlt0, _⟩ := lift i0 hi0
      rw [ho] at hoi
      cases hoi
      obtain ⟨e, he, heo, hb⟩ := hall i0 hlt0
      have := h2 e he hb
      rw [heo, push_getD i listed false i0 hl, if_pos hlt0, getD_any i listed false true i0 hl hlt0, (mem_ready.1 hi0).1] at this
      cases this
/-- What has come, has come behind what it waits for. -/
def Behind (md : Region.Mode) (ops : Array Oper) (n : Nat) (listed : Array Bool) : Prop := ∀ k ok, k < n → ops[k]? = some ok → listed.getD k false = true → ∀ e ∈ ok.after, Region.binds md e = true → listed.getD e.on false = true
theorem wpAny_lastT {o : Oper} (hsz : ops.size = n + 1) (ho : ops[n]? = some o) (hall : ∀ j, j < n → (∃ e ∈ o.after, e.on = j ∧ Region.binds md e = true) ∨ ∃ e ∈ o.after, Region.binds md e = true ∧ ∃ ok, ops[e.on]? = some ok ∧ ∃ e' ∈ ok.after, e'.on = j ∧ Region.binds md e' = true) (hall2 : ∀ e ∈ o.after, e.on < n) (hw : ∀ (i : Nat) (oi : Oper), i < n → ops[i]? = some oi → oi.guard = none ∧ ∀ e ∈ oi.after, e.on < i) :
    ∀ (fuel : Nat) (listed : Array Bool) (a : Act) (w : World), listed.size = n → Behind md ops n listed → wpAny P md ops.pop (lastQ P ops Q n) fuel listed a w → wpAny P md ops Q (fuel + 1) (listed.push false) a w := by
  -- all but the last have come
  have fin : ∀ (fuel : Nat) (listed : Array Bool) (a : Act) (w : World), listed.size = n → (∀ i, i ∉ Region.ready md ops.pop listed) → lastQ P ops Q n .normal a w → wpAny P md ops Q (fuel + 1) (listed.push false) a w := by
    intro fuel listed a w hl hr hq
    have hL := all_listed hsz hl hw hr
    have rdy : ∀ i, i ∈ Region.ready md ops (listed.push false) ↔ i = n := by
      intro i
      rw [mem_ready, push_getD n listed true i hl]
      constructor
      · rintro ⟨h1, _, _, _⟩
        by_cases hi : i < n
        · rw [if_pos hi, hL i hi] at h1; cases h1
        · by_cases h2 : i = n
          · exact h2
          · rw [if_neg hi, if_neg h2] at h1; cases h1
      · rintro rfl
        refine ⟨by rw [if_neg (by omega), if_pos rfl], o, ho, fun e he hb => ?_⟩
        have hlt := hall2 e he
        rw [push_getD i listed false e.on hl, if_pos hlt, getD_any i listed false true e.on hl hlt]
        exact hL _ hlt
    refine ⟨fun h => absurd ((rdy n).2 rfl) (by rw [h]; simp), fun i hi => ?_⟩
    obtain rfl := (rdy i).1 hi
    refine wpOp_mono (fun a' w' h => wpAny_end (fun j hj => ?_) h fuel) hq
    obtain ⟨h1, oj, hoj, _⟩ := mem_ready.1 hj
    have hjn : j < i + 1 := by rw [← hsz]; exact (Array.getElem?_eq_some_iff.1 hoj).1
    by_cases hji : j = i
    · subst hji
      simp [Array.getD_eq_getD_getElem?, hl] at h1
    · have hlt : j < i := by omega
      have h2 := push_getD i listed true j hl
      rw [if_pos hlt, hL j hlt] at h2
      simp only [Array.getD_eq_getD_getElem?, Array.getElem?_setIfInBounds] at h1 h2
      rw [if_neg (fun e => hji e.symm), h2] at h1
      cases h1
  intro fuel
  induction fuel with
  | zero => exact fun listed a w hl _ h => fin 0 listed a w hl (by rw [h.1]; simp) h.2
  | succ fuel ih =>
    intro listed a w hl hc h
    by_cases hr : Region.ready md ops.pop listed = []
    · exact fin (fuel + 1) listed a w hl (by rw [hr]; simp) (h.1 hr)
    obtain ⟨i0, hi0⟩ := List.exists_mem_of_ne_nil _ hr
    have lift : ∀ i, i ∈ Region.ready md ops.pop listed → i < n ∧ i ∈ Region.ready md ops (listed.push false) := by
      intro i hi
      obtain ⟨h1, oi, hoi, h2⟩ := mem_ready.1 hi
      rw [Array.getElem?_pop] at hoi
      split at hoi
      · rename_i hlt
        have hin : i < n := by omega
        refine ⟨hin, mem_ready.2 ⟨by rw [push_getD n listed true i hl, if_pos hin]; exact h1, oi, hoi, fun e he hb => ?_⟩⟩
        have hen := (hw i oi hin hoi).2 e he
        rw [push_getD n listed false e.on hl, if_pos (by omega)]
        exact h2 e he hb
      · cases hoi
    refine ⟨fun hnil => absurd (lift i0 hi0).2 (by rw [hnil]; simp), fun i hi => ?_⟩
    obtain ⟨h1, oi, hoi, h2⟩ := mem_ready.1 hi
    have hilt : i < n + 1 := by rw [← hsz]; exact (Array.getElem?_eq_some_iff.1 hoi).1
    by_cases hin : i < n
    · have hpop : ops.pop[i]? = some oi := by rw [Array.getElem?_pop, if_pos (by omega)]; exact hoi
      have hri : i ∈ Region.ready md ops.pop listed := mem_ready.2 ⟨by rw [push_getD n listed true i hl, if_pos hin] at h1; exact h1, oi, hpop, fun e he hb => by
        have hen := (hw i oi hin hoi).2 e he
        have := h2 e he hb
        rw [push_getD n listed false e.on hl, if_pos (by omega)] at this
        exact this⟩
      have h3 := h.2 i hri
      have hgd := (hw i oi hin hoi).1
      unfold wpOp at h3 ⊢
      simp only [hpop, hoi, Region.wanted, hgd, if_true] at h3 ⊢
      have hset : (listed.push false).setIfInBounds i true = (listed.setIfInBounds i true).push false := by
        apply Array.ext_getElem?
        intro j
        simp only [Array.getElem?_setIfInBounds, Array.getElem?_push, Array.size_setIfInBounds, Array.size_push]
        by_cases hji : i = j
        · subst hji
          rw [if_pos rfl, if_pos (by omega), if_neg (by omega), if_pos rfl, if_pos (by omega)]
        · rw [if_neg hji, if_neg hji]
      have hcl : Behind md ops n (listed.setIfInBounds i true) := fun k ok hk hok hlk e he hb => by
        have mono : ∀ j, listed.getD j false = true → (listed.setIfInBounds i true).getD j false = true := fun j hj => by
          simp only [Array.getD_eq_getD_getElem?, Array.getElem?_setIfInBounds] at hj ⊢
          by_cases hij : i = j
          · subst hij; rw [if_pos rfl, if_pos (by omega)]; rfl
          · rw [if_neg hij]; exact hj
        by_cases hki : k = i
        · subst hki
          rw [hoi] at hok
          cases hok
          have h4 := h2 e he hb
          have hen := (hw k oi hin hoi).2 e he
          rw [push_getD n listed false e.on hl, if_pos (by omega)] at h4
          exact mono _ h4
        · refine mono _ (hc k ok hk hok ?_ e he hb)
          simp only [Array.getD_eq_getD_getElem?, Array.getElem?_setIfInBounds] at hlk ⊢
          rw [if_neg (fun e => hki e.symm)] at hlk
          exact hlk
      rw [hset]
      rcases h3 with h3 | ⟨h3, h4⟩
      · exact .inl (op_lastQ (fun a' w' hk => ih _ a' w' (by simp [hl]) hcl hk) h3)
      · exact .inr ⟨h3, lastQ_out h4⟩
    · exfalso
      obtain rfl : i = n := by omega
      obtain ⟨hlt0, _⟩ := lift i0 hi0
      rw [ho] at hoi
      cases hoi
      have hno : listed.getD i0 false = false := by
        rw [getD_any i listed false true i0 hl hlt0]; exact (mem_ready.1 hi0).1
      rcases hall i0 hlt0 with ⟨e, he, heo, hb⟩ | ⟨e, he, hb, ok, hok, e', he', heo, hb'⟩
      · have := h2 e he hb
        rw [heo, push_getD i listed false i0 hl, if_pos hlt0, hno] at this
        cases this
      · have hen := hall2 e he
        have h5 := h2 e he hb
        rw [push_getD i listed false e.on hl, if_pos hen] at h5
        have h6 := hc e.on ok hen hok h5 e' he' hb'
        rw [heo, hno] at h6
        cases h6
theorem lastQ_go {o : Oper} {a : Act} {w : World} (ho : ops[n]? = some o) (h : ∀ K' : Act → World → Prop, Shut (∀ a w, Q .normal a w → K' a w) → if Region.wanted o (yielded ops a.tmps) = true then Oper.wp P o a w K' Q else K' (a.put o.dst undef) w) : lastQ P ops Q n .normal a w :=
  wpOp_step ho (fun K' hK => h K' hK)
/-- All that the law asks of the operations, told by the kernel. -/
def lastOk (ops : Array Oper) : Bool :=
  match ops[ops.size - 1]? with
  | none => false
  | some o => ((List.range (ops.size - 1)).all fun j => o.after.toList.any fun e => e.on == j && Region.binds .any e) && (o.after.toList.all fun e => decide (e.on < ops.size - 1)) && o.guard.isNone &&
      ((List.range (ops.size - 1)).all fun i => match ops[i]? with | some oi => oi.guard.isNone && oi.after.toList.all fun e => decide (e.on < i) | none => false)
/-- The same, where some come ahead of the last one only by way of another one. -/
def lastOkT (ops : Array Oper) : Bool :=
  match ops[ops.size - 1]? with
  | none => false
  | some o => ((List.range (ops.size - 1)).all fun j => (o.after.toList.any fun e => e.on == j && Region.binds .any e) || o.after.toList.any fun e => Region.binds .any e && match ops[e.on]? with | some ok => (ok.after.toList.any fun e' => e'.on == j && Region.binds .any e') | none => false) && (o.after.toList.all fun e => decide (e.on < ops.size - 1)) && o.guard.isNone &&
      ((List.range (ops.size - 1)).all fun i => match ops[i]? with | some oi => oi.guard.isNone && oi.after.toList.all fun e => decide (e.on < i) | none => false)
theorem wp_region_lastT {id : Nat} {a : Act} {w : World} (hm : P.follows .mixedOrders = true) (hsz : ops.size = n + 1) (hok : lastOkT ops = true) (hS : S w.drew)
    (h : S w.drew → wpAnyH P .any ops.pop (lastQ P ops Q n) S n (Array.replicate n false) a w.drew) : (Code.region id ops true).wp P Q a w := by
  refine wp_region_any hm ?_
  unfold lastOkT at hok
  rw [hsz, Nat.add_sub_cancel] at hok
  cases ho : ops[n]? with
  | none => rw [ho] at hok; cases hok
  | some o =>
    rw [ho] at hok
    simp only [Bool.and_eq_true, List.all_eq_true, List.mem_range] at hok
    obtain ⟨⟨⟨k1, k2⟩, _⟩, k4⟩ := hok
    have := wpAny_lastT (P := P) (Q := Q) (md := .any) hsz ho (fun j hj => by
        have k1j := k1 j hj
        rw [Bool.or_eq_true] at k1j
        rcases k1j with k1j | k1j
        · obtain ⟨e, he, h2⟩ := List.any_eq_true.1 k1j
          simp only [Bool.and_eq_true, beq_iff_eq] at h2
          exact .inl ⟨e, by simpa using he, h2.1, h2.2⟩
        · obtain ⟨e, he, h2⟩ := List.any_eq_true.1 k1j
          rw [Bool.and_eq_true] at h2
          obtain ⟨h2, h3⟩ := h2
          cases hk : ops[e.on]? with
          | none => rw [hk] at h3; cases h3
          | some ok =>
            rw [hk] at h3
            obtain ⟨e', he', h4⟩ := List.any_eq_true.1 h3
            simp only [Bool.and_eq_true, beq_iff_eq] at h4
            exact .inr ⟨e, by simpa using he, h2, ok, hk, e', by simpa using he', h4.1, h4.2⟩) (fun e he => by simpa using k2 e (by simpa using he)) (fun i oi hi hoi => by
        have h3 := k4 i hi
        rw [hoi] at h3
        simp only [Bool.and_eq_true, List.all_eq_true, decide_eq_true_eq] at h3
        exact ⟨by simpa using h3.1, fun e he => h3.2 e (by simpa using he)⟩) n (Array.replicate n false) a w.drew (by simp) (fun k ok hk _ hl => by
        simp [Array.getD_eq_getD_getElem?, hk] at hl) (wpAny_of_held _ _ _ _ (h hS))
    rw [hsz]
    rw [show Array.replicate (n + 1) false = (Array.replicate n false).push false from by rw [Array.replicate_succ]]
    exact this
theorem wp_region_last0 {id : Nat} {a : Act} {w : World} (hm : P.follows .mixedOrders = true) (hsz : ops.size = n + 1) (hok : lastOk ops = true) (hS : S w.drew)
    (h : S w.drew → wpAnyH P .any ops.pop (lastQ P ops Q n) S n (Array.replicate n false) a w.drew) : (Code.region id ops true).wp P Q a w := by
  refine wp_region_any hm ?_
  unfold lastOk at hok
  rw [hsz, Nat.add_sub_cancel] at hok
  cases ho : ops[n]? with
  | none => rw [ho] at hok; cases hok
  | some o =>
    rw [ho] at hok
    simp only [Bool.and_eq_true, List.all_eq_true, List.mem_range] at hok
    obtain ⟨⟨⟨k1, k2⟩, _⟩, k4⟩ := hok
    have := wpAny_last (P := P) (Q := Q) (md := .any) hsz ho (fun j hj => by
        obtain ⟨e, he, h2⟩ := List.any_eq_true.1 (k1 j hj)
        simp only [Bool.and_eq_true, beq_iff_eq] at h2
        exact ⟨e, by simpa using he, h2.1, h2.2⟩) (fun e he => by simpa using k2 e (by simpa using he)) (fun i oi hi hoi => by
        have h3 := k4 i hi
        rw [hoi] at h3
        simp only [Bool.and_eq_true, List.all_eq_true, decide_eq_true_eq] at h3
        exact ⟨by simpa using h3.1, fun e he => h3.2 e (by simpa using he)⟩) n (Array.replicate n false) a w.drew (by simp) (wpAny_of_held _ _ _ _ (h hS))
    rw [hsz]
    rw [show Array.replicate (n + 1) false = (Array.replicate n false).push false from by rw [Array.replicate_succ]]
    exact this
end
end Go.Proofs.Ytliohokcjgcmhaa
