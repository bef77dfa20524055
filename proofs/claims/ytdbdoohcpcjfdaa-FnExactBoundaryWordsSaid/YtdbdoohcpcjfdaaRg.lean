/- Ranges over functions, where the memory that the rounds own is named: the loop's law. -/
import Derived.Test.YtdbdoohcpcjfdaaLaws
import Derived.RangeFuncNested
import Derived.RangeFuncBound
import Derived.RangeFuncCalls
import Derived.RangeFuncLeaves
import Derived.Shelf.Abstract
import Derived.Shelf.RegionOpen
import Derived.WalkKit
import Derived.OwnWalkIn
import Derived.TacticsInMore
import Derived.LoopNIn
import Derived.LoopIn
import Derived.Deep.RegionHeld
import Derived.OrdersIn
import Derived.Test.YtdbdoohcpcjfdaaWordD
namespace Go.Proofs.Ytdbdoohcpcjfdaa
open Go.RowKit

/-- The blocks that the rounds of a loop own. -/
abbrev Foot := Nat → Prop
/-- What the rounds do not own lies as it lay, and is not theirs afterwards. -/
def FootKeeps (ft ft' : Foot) (W W' : World) : Prop := W.heap.size ≤ W'.heap.size ∧ ∀ k, k < W.heap.size → ¬ ft k → W'.heap[k]? = W.heap[k]? ∧ ¬ ft' k
/-- From a block on. -/
def FootKeepsFrom (B : Nat) (ft : Foot) (W W' : World) : Prop := W.heap.size ≤ W'.heap.size ∧ ∀ k, B ≤ k → k < W.heap.size → ¬ ft k → W'.heap[k]? = W.heap[k]?
theorem FootKeeps.from {ft ft' : Foot} {W W' : World} (h : FootKeeps ft ft' W W') (B : Nat) : FootKeepsFrom B ft W W' := ⟨h.1, fun k _ hk hn => (h.2 k hk hn).1⟩
theorem FootKeepsFrom.up {ft : Foot} {B B' : Nat} {W W' : World} (h : FootKeepsFrom B ft W W') (hB : B ≤ B') : FootKeepsFrom B' ft W W' := ⟨h.1, fun k hb hk hn => h.2 k (Nat.le_trans hB hb) hk hn⟩
theorem FootKeeps.refl (ft : Foot) (W : World) : FootKeeps ft ft W W := ⟨Nat.le_refl _, fun _ _ h => ⟨rfl, h⟩⟩
theorem FootKeeps.trans {f1 f2 f3 : Foot} {A B C : World} (h : FootKeeps f1 f2 A B) (k : FootKeeps f2 f3 B C) : FootKeeps f1 f3 A C :=
  ⟨Nat.le_trans h.1 k.1, fun i hi hn => by
    obtain ⟨h1, h2⟩ := h.2 i hi hn
    obtain ⟨k1, k2⟩ := k.2 i (Nat.lt_of_lt_of_le hi h.1) h2
    exact ⟨k1.trans h1, k2⟩⟩
/-- Where nothing that lay is turned. -/
theorem FootKeeps.of_below {ft : Foot} {W W' : World} (h : Below W.heap.size W W') : FootKeeps ft ft W W' := ⟨h.size, fun k hk hn => ⟨h.block k hk, hn⟩⟩
/-- A store into a block of one's own. -/
theorem FootKeeps.store {ft : Foot} {W : World} {b o : Nat} (hb : ft b) (v : Value) : FootKeeps ft ft W (W.setCell ⟨b, o, none⟩ v) :=
  ⟨by simp, fun k _ hn => ⟨Below.heap_setCell _ _ _ k (fun e => hn (by rw [e]; exact hb)), hn⟩⟩
theorem OwnFrom.up {β : Type} {B B' : Nat} {I : β → World → Prop} (h : OwnFrom B I) (hB : B ≤ B') : OwnFrom B' I :=
  fun s W W' row hs hg hr => h s W W' row hs hg (fun r e => ⟨Nat.le_trans hB (hr r e).1, (hr r e).2⟩)
theorem yield_wide {m m' : Nat} {P : Program} {l : Nat} {args : Array Value} {W : World} {R : Ending → World → Prop} (h : YieldAt Fence.wide m P l args W R) : YieldAt Fence.wide m' P l args W R := by
  obtain ⟨fn, tmps, assign, body, hy, hR⟩ := h
  exact ⟨fn, tmps, assign, body, hy, hR.1, fun c cs _ => hR.2 c cs (room_wide _)⟩

/-- An iterator's word: it yields the list's entries, in order, and turns nothing but blocks of its own. -/
def Gives {α : Type} (P : Program) (g : FuncId) (lb : Array Value) (enc : α → Value) (C : Foot) (xs : List α) (w : World) : Prop :=
  ∀ (l : Nat) (J : List α × Foot → World → Prop) (Jx : List α → World → Prop) (W : World), l < W.heap.size → Below w.heap.size w W → OwnFrom W.heap.size J → OwnFrom W.heap.size Jx →
    (∀ s W1, J s W1 → ∀ k, s.2 k → k < W1.heap.size) →
    (∀ s x W1, J s W1 → (s.1 ++ [x]) <+: xs → YieldAt Fence.wide 0 P l #[enc x] W1 fun e W' =>
      (e = .returned (.bool true) ∧ ∃ ft', J (s.1 ++ [x], ft') W' ∧ FootKeeps s.2 ft' W1 W') ∨ (e = .returned (.bool false) ∧ Jx (s.1 ++ [x]) W' ∧ FootKeepsFrom (l + 1) s.2 W1 W')) →
    ∀ ft0, J ([], ft0) W → (∀ k, C k → ¬ ft0 k) →
    Calls P g (#[.func (.yield l) #[] #[]] ++ lb) W fun e W' => (∃ v, e = .returned v) ∧ ((∃ ft, J (xs, ft) W') ∨ (∃ pre, pre <+: xs ∧ Jx pre W'))
theorem Gives.later {α : Type} {P : Program} {g : FuncId} {lb : Array Value} {enc : α → Value} {C : Foot} {xs : List α} {w w' : World} (h : Gives P g lb enc C xs w) (hb : Below w.heap.size w w') : Gives P g lb enc C xs w' :=
  fun l J Jx W hl hW => h l J Jx W hl (hb.trans (hW.mono hb.size))

/-- How the body of a round is left. -/
def footPost {α : Type} (B : Nat) (I : List α × Foot → World → Prop) (Ix : List α → World → Prop) (xs : List α) (ft : Foot) (W : World) : Exit → Act → World → Prop
  | .normal, _, W' => ∃ ft', I (xs, ft') W' ∧ FootKeeps ft ft' W W'
  | .ret, _, W' => Ix xs W' ∧ FootKeepsFrom B ft W W'
  | _, _, _ => False

set_option maxRecDepth 100000 in
theorem wp_rangeFoot {α : Type} {P : Program} {n : Nat} {g : Operand} {p : Tmp} {assign body : Code} {Q : Exit → Act → World → Prop} {a : Act} {w : World} {gf : FuncId} {lb : Array Value}
    (hg : a.eval g = .func (.func gf) #[] lb) (eg : ∀ args w, (callFunc gf args).run P w = .ok (.enter gf args) w)
    {enc : α → Value} {C : Foot} {xs : List α} {w0 : World} (hseq : Gives P gf lb enc C xs w0) (hb0 : Below w0.heap.size w0 w)
    (I : List α × Foot → World → Prop) (Ix : List α → World → Prop) (hI : OwnFrom w.heap.size I) (hIx : OwnFrom w.heap.size Ix) (hft : ∀ s W, I s W → ∀ k, s.2 k → k < W.heap.size)
    (ft0 : Foot) (h0 : I ([], ft0) w) (hC : ∀ k, C k → ¬ ft0 k) (a1 : α → Act)
    (hassign : ∀ (l : Nat) (x : α) (W : World) (K : Act → World → Prop), K (a1 x) W → assign.wpIn (Fence.wide.inRound l) 0 P (Exit.then K (fun _ _ _ => False)) { tmps := a.tmps.setIfInBounds p (enc x), defers := [] } W)
    (hbody : ∀ (l : Nat) (s : List α × Foot) (x : α) (W : World), I s W → (s.1 ++ [x]) <+: xs → body.wpIn (Fence.wide.inRound l) 0 P (footPost w.heap.size I Ix (s.1 ++ [x]) s.2 W) (a1 x) W)
    (hdone : ∀ (D : Nat) (ft : Foot) (W : World), w.heap.size ≤ D → I (xs, ft) W → W.heap[D]? = some (.deferred (some [])) → ¬ ft D → Q .normal { a with defers := { target := .collected D, args := #[] } :: a.defers } W)
    (hstop : ∀ (D : Nat) (pre : List α) (W : World), w.heap.size ≤ D → pre <+: xs → Ix pre W → W.heap[D]? = some (.deferred (some [])) → Code.ret.wpIn Fence.wide n P Q { a with defers := { target := .collected D, args := #[] } :: a.defers } W) :
    (Code.rangeFunc g #[p] assign body).wpIn Fence.wide n P Q a w := by
  refine wpIn_rangeFunc (fun fn hfn => ?_)
  let rec0 : LoopState → Option Code → Loop := fun st pe => { state := st, pending := pe, fn, tmps := a.tmps, params := #[p], assign, body, defers := w.heap.size }
  let W1 : World := (w.alloc (.deferred (some []))).alloc (.loop (rec0 .ready none))
  have s1 : W1.heap.size = w.heap.size + 2 := by simp [W1]
  have l1 : W1.heap[w.heap.size + 1]? = some (.loop (rec0 .ready none)) := by
    have := World.alloc_heap_new (w.alloc (.deferred (some []))) (.loop (rec0 .ready none))
    rwa [World.size_alloc] at this
  have d1 : W1.heap[w.heap.size]? = some (.deferred (some [])) := (Below.heap_alloc _ _ _ (by simp)).trans (World.alloc_heap_new w _)
  have i1 : I ([], ft0) W1 := hI.alloc _ (hI.alloc _ h0)
  have b1 : Below w0.heap.size w0 W1 := hb0.trans ((((Below.refl _ w).alloc (Nat.le_refl _) _).alloc (by simp) _).mono hb0.size)
  have fresh : ∀ k, w.heap.size ≤ k → ¬ ft0 k := fun k hk h => absurd (hft _ _ h0 k h) (by omega)
  refine ⟨w.heap.size + 1, [{ target := .collected w.heap.size, args := #[] }], W1, { target := .fn (.func gf) lb, args := #[.func (.yield (w.heap.size + 1)) #[] #[]] }, W1, gf, #[.func (.yield (w.heap.size + 1)) #[] #[]] ++ lb, W1,
    run_enterLoop_outer _ _ _ _ _, ?_, fun _ _ => trivial, by simp [invoke, go_sem, eg], (fun h => by cases h), ?_⟩
  · simp only [resolve, hg]
    simp [go_sem]
  refine CallsIn.mono (callsIn_wide.2 (hseq (w.heap.size + 1)
    (fun s W => I s W ∧ W.heap[w.heap.size + 1]? = some (.loop (rec0 .ready none)) ∧ W.heap[w.heap.size]? = some (.deferred (some [])) ∧ ¬ s.2 (w.heap.size + 1) ∧ ¬ s.2 w.heap.size)
    (fun pre W => Ix pre W ∧ W.heap[w.heap.size + 1]? = some (.loop (rec0 .done (some .ret))) ∧ W.heap[w.heap.size]? = some (.deferred (some [])))
    W1 (by omega) b1 ?_ ?_ (fun s W h => hft s W h.1) ?_ ft0 ⟨i1, l1, d1, fresh _ (by omega), fresh _ (by omega)⟩ hC)) ?_
  · -- TURNS OF LATER BLOCKS
    rintro s A B row ⟨hi, hl, hd, n1, n2⟩ hgr hr
    refine ⟨hI s A B row hi hgr (fun r e => ⟨by have := (hr r e).1; omega, (hr r e).2⟩), ?_, ?_, n1, n2⟩
    · exact (hgr.block _ (Array.getElem?_eq_some_iff.1 hl).1 (fun e => by have := (hr _ e.symm).1; omega)).trans hl
    · exact (hgr.block _ (Array.getElem?_eq_some_iff.1 hd).1 (fun e => by have := (hr _ e.symm).1; omega)).trans hd
  · rintro s A B row ⟨hi, hl, hd⟩ hgr hr
    refine ⟨hIx s A B row hi hgr (fun r e => ⟨by have := (hr r e).1; omega, (hr r e).2⟩), ?_, ?_⟩
    · exact (hgr.block _ (Array.getElem?_eq_some_iff.1 hl).1 (fun e => by have := (hr _ e.symm).1; omega)).trans hl
    · exact (hgr.block _ (Array.getElem?_eq_some_iff.1 hd).1 (fun e => by have := (hr _ e.symm).1; omega)).trans hd
  · -- ONE ROUND
    rintro s x W ⟨hi, hl, hd, n1, n2⟩ hpre
    have hlt := (Array.getElem?_eq_some_iff.1 hl).1
    have hy : (Instr.yield (w.heap.size + 1) #[enc x]).run P W = .ok (.round (w.heap.size + 1) fn (a.tmps.setIfInBounds p (enc x)) assign body) W := by
      have := run_yield (P := P) (args := #[enc x]) hl rfl
      simpa [rec0] using this
    refine ⟨fn, _, assign, body, hy, roundIn_of_wpIn hfn ?_⟩
    refine hassign _ x W _ ?_
    refine ⟨_, run_beginRound hl rfl, ?_⟩
    have hl2 : (W.putObj (w.heap.size + 1) (.loop { rec0 .ready none with state := .busy })).heap[w.heap.size + 1]? = some (.loop (rec0 .busy none)) := World.putObj_heap_same hlt
    have hd2 : (W.putObj (w.heap.size + 1) (.loop { rec0 .ready none with state := .busy })).heap[w.heap.size]? = some (.deferred (some [])) := (World.putObj_heap_other (by omega)).trans hd
    have hi2 := hI.putObj (.loop { rec0 .ready none with state := .busy }) hi (by omega) hl rfl
    have hs2 : (W.putObj (w.heap.size + 1) (.loop { rec0 .ready none with state := .busy })).heap.size = W.heap.size := by simp
    have ho2 : ∀ k, k ≠ w.heap.size + 1 → (W.putObj (w.heap.size + 1) (.loop { rec0 .ready none with state := .busy })).heap[k]? = W.heap[k]? := fun k hk => World.putObj_heap_other hk
    refine wpIn_mono (hbody _ s x _ hi2 hpre) ?_
    rintro e a3 W3 hp
    cases e with
    | normal =>
      obtain ⟨ft', hi3, hz3, hsp⟩ := hp
      obtain ⟨e1, m1⟩ := hsp _ (by rw [hs2]; omega) n1
      obtain ⟨e2, m2⟩ := hsp _ (by rw [hs2]; omega) n2
      rw [hl2] at e1
      rw [hd2] at e2
      have hlt3 := (Array.getElem?_eq_some_iff.1 e1).1
      refine ⟨_, _, run_endRound (P := P) none e1, .inl ⟨rfl, ft', ⟨hI.putObj _ hi3 (by omega) e1 rfl, World.putObj_heap_same hlt3, (World.putObj_heap_other (by omega)).trans e2, m1, m2⟩, by rw [hs2] at hz3; simpa using hz3, fun k hk hn => ?_⟩⟩
      by_cases hkl : k = w.heap.size + 1
      · subst hkl
        exact ⟨(World.putObj_heap_same hlt3).trans hl.symm, m1⟩
      · obtain ⟨e4, m4⟩ := hsp k (by rw [hs2]; exact hk) hn
        exact ⟨(World.putObj_heap_other hkl).trans (e4.trans (ho2 k hkl)), m4⟩
    | ret =>
      obtain ⟨hi3, hz3, hsp⟩ := hp
      have e1 := hsp _ (by omega) (by rw [hs2]; omega) n1
      have e2 := hsp _ (by omega) (by rw [hs2]; omega) n2
      rw [hl2] at e1
      rw [hd2] at e2
      have hlt3 := (Array.getElem?_eq_some_iff.1 e1).1
      refine ⟨_, _, run_endRound (P := P) (some .ret) e1, .inr ⟨rfl, ⟨hIx.putObj _ hi3 (by omega) e1 rfl, World.putObj_heap_same hlt3, (World.putObj_heap_other (by omega)).trans e2⟩, by rw [hs2] at hz3; simpa using hz3, fun k hb hk hn => ?_⟩⟩
      exact (World.putObj_heap_other (by omega)).trans ((hsp k (by omega) (by rw [hs2]; exact hk) hn).trans (ho2 k (by omega)))
    | exit id => exact hp.elim
    | goto t => exact hp.elim
    | panic ch => exact hp.elim
    | outgrown => exact hp.elim
  · -- BEHIND THE ITERATOR
    rintro e W2 ⟨⟨v, rfl⟩, (⟨ft, hi, hl, hd, n1, n2⟩ | ⟨pre, hpre, hi, hl, hd⟩)⟩
    · exact ⟨none, _, run_endLoop (P := P) hl (by simp [rec0]), hdone _ ft _ (Nat.le_refl _) (hI.putObj _ hi (by omega) hl rfl) ((World.putObj_heap_other (by omega)).trans hd) n2⟩
    · exact ⟨some .ret, _, run_endLoop (P := P) hl (by simp [rec0]), hstop _ pre _ (Nat.le_refl _) hpre (hIx.putObj _ hi (by omega) hl rfl) ((World.putObj_heap_other (by omega)).trans hd)⟩
end Go.Proofs.Ytdbdoohcpcjfdaa

namespace Go.Proofs.Ytdbdoohcpcjfdaa
open Go.RowKit

section
variable {P : Program} {ops : Array Oper} {Q : Exit → Act → World → Prop} {md : Region.Mode} {S : World → Prop} {n l : Nat}
theorem wpAny_round (hnd : ∀ (i : Nat) (o : Oper), ops[i]? = some o → ∀ c, o.op ≠ .defer c) (hout : ¬ LetsOut Q) : ∀ (fuel : Nat) (listed : Array Bool) (a : Act) (w : World), wpAny P md ops Q fuel listed a w → wpAnyIn (Fence.wide.inRound l) n P md ops Q fuel listed a w
  | 0, _, _, _, h => h
  | fuel + 1, listed, a, w, h => by
    refine ⟨h.1, fun i hi => ?_⟩
    have h2 := h.2 i hi
    have ih := wpAny_round hnd hout fuel (listed.setIfInBounds i true)
    unfold wpOp at h2
    unfold wpOpIn
    cases ho : ops[i]? with
    | none => simp only [ho] at h2 ⊢; exact ih _ _ h2
    | some o =>
      simp only [ho] at h2 ⊢
      split at h2
      · rename_i hw
        simp only [hw, if_true]
        rcases h2 with h2 | ⟨_, h2⟩
        · refine ⟨fun _ _ => trivial, ?_⟩
          rw [Oper.semAt_eq _ _ _ (hnd i o ho)]
          unfold Oper.wp at h2
          generalize (execOp a.eval o).run P w = r at *
          cases r with
          | ok x w' =>
            cases x with
            | value v => exact ih _ _ h2
            | skip => exact ih _ _ h2
            | defer d => exact ih _ _ h2
            | enter f args =>
              refine ⟨(fun e => by cases e), callsIn_wide.2 (Calls.mono h2 ?_)⟩
              intro e w'' he
              cases e with
              | returned v => exact ih _ _ he
              | panicked c => exact he
              | outgrown => exact he
            | row row args =>
              refine ⟨(fun e => by cases e), fun c cs _ => ?_⟩
              obtain ⟨v, w'', r, s⟩ := h2 c cs
              exact ⟨v, w'', ih _ _ r, stepsIn_wide.2 s⟩
            | _ => exact h2.elim
          | halt x w' => cases x <;> first | exact h2 | exact h2.elim
        · exact absurd h2 hout
      · rename_i hw
        simp only [hw]
        exact ⟨fun _ _ => trivial, ih _ _ h2⟩
theorem not_defer (h : (ops.toList.all fun o => match o.op with | .defer _ => false | _ => true) = true) (i : Nat) (o : Oper) (ho : ops[i]? = some o) (c : Call) : o.op ≠ .defer c := fun e => by
  have hm : o ∈ ops.toList := by simpa using Array.mem_of_getElem? ho
  have := List.all_eq_true.1 h o hm
  rw [e] at this
  simp at this
theorem wp_region_round {id : Nat} {a : Act} {w : World} (hm : P.follows .mixedOrders = true) (hnd : (ops.toList.all fun o => match o.op with | .defer _ => false | _ => true) = true) (hout : ¬ LetsOut Q) (hS : S w.drew)
    (h : S w.drew → wpAnyH P .any ops Q S ops.size (Array.replicate ops.size false) a w.drew) : (Code.region id ops true).wpIn (Fence.wide.inRound l) n P Q a w :=
  wpIn_region_any hm (wpAny_round (not_defer hnd) hout _ _ _ _ (wpAny_of_held _ _ _ _ (h hS)))
theorem not_out (Q : Exit → Act → World → Prop) (h : ∀ a w, Q .outgrown a w → False) : ¬ LetsOut Q := fun ⟨a, w, hq⟩ => h a w hq
end
end Go.Proofs.Ytdbdoohcpcjfdaa

namespace Go.Proofs.Ytdbdoohcpcjfdaa
open Go.RowKit Go.Shelf
attribute [local go_sem] Oper.semAt_some

theorem round_wide {m m' : Nat} {P : Program} {l : Nat} {f : FuncId} {tmps : Array Value} {assign body : Code} {w : World} {R : Ending → World → Prop} (h : RoundIn Fence.wide m P l f tmps assign body w R) : RoundIn Fence.wide m' P l f tmps assign body w R :=
  ⟨h.1, fun c cs _ => h.2 c cs (room_wide _)⟩
theorem grown_of_below {W W' : World} (h : Below W.heap.size W W') : W.grownBy W' none := ⟨h.os, h.tape, h.output, h.size, fun k hk _ => h.block k hk⟩
theorem OwnFrom.step {β : Type} {B : Nat} {I : β → World → Prop} (h : OwnFrom B I) {s : β} {W W' : World} (hi : I s W) (hb : Below W.heap.size W W') : I s W' := h s W W' none hi (grown_of_below hb) (fun r e => by cases e)
theorem Blk.same {w w' : World} {g : Nat} {cs : Array Value} {T : TypeId} (h : Blk w g cs T) (e : w'.heap[g]? = w.heap[g]?) : Blk w' g cs T := by
  unfold Blk at *
  rw [e]; exact h
/-- The words of a level. -/
def wordS (d n k : Nat) : ByteArray := ⟨(wordOf d n k).toArray⟩
def wordsL (d n : Nat) : List ByteArray := (List.range (d ^ n)).map (wordS d n)
def wordsB (d n : Nat) : List ByteArray := (List.range n).flatMap (wordsL d)
theorem wordsL_len (d n : Nat) : (wordsL d n).length = d ^ n := by simp [wordsL]
theorem wordsL_next (d n k : Nat) (hk : k < d ^ n) : (wordsL d n).take (k + 1) = (wordsL d n).take k ++ [wordS d n k] := by
  rw [take_snoc _ _ (by rw [wordsL_len]; exact hk)]
  simp [wordsL]
theorem wordsB_next (d n : Nat) : wordsB d (n + 1) = wordsB d n ++ wordsL d n := by simp [wordsB, List.range_succ]

set_option maxRecDepth 100000 in
theorem wordsOfLevel_calls (d n : Int) (w : World) :
    Calls Try.prog 66 #[.int .i64 d, .int .i64 n] w fun e w' => e = .returned (.func (.func 79) #[] #[.pointer (some ⟨w.heap.size, 0, none⟩), .pointer (some ⟨w.heap.size + 1, 0, none⟩)]) ∧ w' = (w.alloc (.cells #[.int .i64 d] 2)).alloc (.cells #[.int .i64 n] 2) := by
  go_enter Try.func66, Try.ntmps66
  go_wp2
  go_ret
  exact ⟨rfl, rfl⟩

set_option maxRecDepth 100000 in
set_option maxHeartbeats 1000000 in
theorem wordsOfLevel_gives (d n b1 b2 : Nat) (hd : d = 2 ∨ d = 3) (hn : n ≤ 4) (w0 : World) (h1 : Blk w0 b1 #[.int .i64 d] 2) (h2 : Blk w0 b2 #[.int .i64 n] 2) :
    Gives Try.prog 79 #[.pointer (some ⟨b1, 0, none⟩), .pointer (some ⟨b2, 0, none⟩)] (fun s : ByteArray => .string s) (fun k => k = b1 ∨ k = b2) (wordsL d n) w0 := by
  intro l J Jx W _ hW hJ _ _ hY ft0 h0 hC
  have hd3 : d ≤ 3 := by omega
  have hB1 := h1.keptAll hW
  have hB2 := h2.keptAll hW
  have c1 := hB1.cell 0
  have c2 := hB2.cell 0
  simp at c1 c2
  have hp : (pw d n) = ((d ^ n : Nat) : Int) := rfl
  have hpb := pw_bd d n hd3 (by omega)
  rw [hp] at hpb
  have HLS := Lib.hid (fun w => levelSize_calls d n hd3 (by omega) w)
  rw [hp] at HLS
  have HLW := Lib.hid (fun k (hk : k < d ^ n) w => levelWord_calls d n (k : Nat) hd (by omega) (by omega) (by omega) w)
  have HN := Lib.hid (wordsL_next d n)
  have HLen := Lib.hid (wordsL_len d n)
  have hlt1 := hB1.lt
  have hlt2 := hB2.lt
  refine (callsIn_wide (n := 3)).1 ?_
  refine callsIn_of_wp Try.func79 rfl trivial ?_ rfl
  simp only [Try.ntmps79, List.size_toArray, List.length_cons, List.length_nil, Nat.reduceAdd, Nat.reduceSub, Array.replicate_succ, Array.replicate_zero, List.push_toArray, List.append_toArray, List.nil_append, List.cons_append]
  generalize d ^ n = N at *
  gi_wp2_with (refine ⟨trivial, ?_⟩; gi_at_call 80; refine (callsIn_wide.2 (HLS.out _)).mono ?_; rintro e w' ⟨rfl, rfl⟩)
  gi_loopw [8] (fun i wr => ∃ (k : Nat) (ft : Foot), k ≤ N ∧ i = .int .i64 k ∧ J ((wordsL d n).take k, ft) wr ∧ (¬ ft b1 ∧ ¬ ft b2) ∧ Blk wr b1 #[.int .i64 d] 2 ∧ Blk wr b2 #[.int .i64 n] 2) (fun i _ => N - (intOf i).toNat)
  case atStart => exact ⟨0, ft0, by omega, rfl, h0, ⟨hC _ (.inl rfl), hC _ (.inr rfl)⟩, hB1, hB2⟩
  case round =>
    clear c1 c2 hB1 hB2 hlt1 hlt2
    obtain ⟨k, ft, hk, rfl, hj, ⟨n1, n2⟩, hB1, hB2⟩ := hrel
    have c1 := hB1.cell 0
    have c2 := hB2.cell 0
    simp at c1 c2
    by_cases hlt : k < N
    · have hki : (k : Int) < (N : Int) := by omega
      have Hk := Lib.hid (HLW.out k hlt)
      have Hpre : Hid ((wordsL d n).take k ++ [wordS d n k] <+: wordsL d n) := Lib.hid (by rw [← HN.out k hlt]; exact List.take_prefix _ _)
      rw [Int.toNat_natCast] at Hk
      have hlt1 := hB1.lt
      have hlt2 := hB2.lt
      gi_wp2_with (refine ⟨trivial, ?_⟩; gi_at_call 81; refine (callsIn_wide.2 (Hk.out _)).mono ?_; rintro e w3 ⟨rfl, hb3⟩; obtain ⟨fn, tmps, assign, body, hy, hR⟩ := hY ((wordsL d n).take k, ft) (wordS d n k) w3 (OwnFrom.step hJ hj hb3) Hpre.out; simp only [wordS] at hy)
      have hsz3 := hb3.size
      have hB13 := hB1.keptAll hb3
      have hB23 := hB2.keptAll hb3
      refine (round_wide hR).mono ?_
      rintro e W4 (⟨rfl, ft', hj4, hsp⟩ | ⟨rfl, hx4, _⟩)
      · obtain ⟨e1, m1⟩ := hsp.2 b1 (by omega) n1
        obtain ⟨e2, m2⟩ := hsp.2 b2 (by omega) n2
        have hB14 := hB13.same e1
        have hB24 := hB23.same e2
        rw [← HN.out k hlt] at hj4
        clear hy hsp
        gi_wp2
        go_roundw
        case rel => exact ⟨k + 1, ft', by omega, by go_num, hj4, ⟨m1, m2⟩, hB14, hB24⟩
        case measure => simp [intOf] <;> omega
      · clear hy
        gi_wp2
        refine bodyPost_ret (results_none rfl _ _ _) rfl ?_
        exact ⟨⟨_, rfl⟩, .inr ⟨_, Hpre.out, hx4⟩⟩
    · obtain rfl : k = N := by omega
      gi_wp2
      go_end0
      exact ⟨⟨_, rfl⟩, .inl ⟨ft, by rw [List.take_of_length_le (by rw [HLen.out]; exact Nat.le_refl _)] at hj; exact hj⟩⟩
end Go.Proofs.Ytdbdoohcpcjfdaa

namespace Go.Proofs.Ytdbdoohcpcjfdaa
open Go.RowKit Go.Shelf
attribute [local go_sem] Oper.semAt_some

theorem round_in {m m' l2 : Nat} {P : Program} {l : Nat} {f : FuncId} {tmps : Array Value} {assign body : Code} {w : World} {R : Ending → World → Prop} (h : RoundIn Fence.wide m P l f tmps assign body w R) : RoundIn (Fence.wide.inRound l2) m' P l f tmps assign body w R :=
  ⟨h.1, fun c cs _ => h.2 c cs (room_wide _)⟩
def markD (D : Nat) : Deferred := { target := .collected D, args := #[] }
/-- A function's marks: each block for deferred calls is shut, and it leaves. -/
theorem leaves_marks {P : Program} {n : Nat} {fn : Func} {tmps : Array Value} {R : Ending → World → Prop} {B : Nat} {T : World → Prop} (hT : OwnFrom B (fun (_ : Unit) W => T W)) (hend : ∀ W, T W → LeavesIn Fence.wide n P fn tmps R [] .returning W) :
    ∀ (Ds : List Nat) (W : World), Ds.Nodup → (∀ D ∈ Ds, B ≤ D ∧ W.heap[D]? = some (.deferred (some []))) → T W → LeavesInM Fence.wide n P fn tmps R (Ds.map markD) .returning W
  | [], W, _, _, h => hend W h
  | D :: Ds, W, hn, hd, h => by
    obtain ⟨h1, h2⟩ := hd D (by simp)
    rw [List.nodup_cons] at hn
    refine ⟨by simp, .inl ⟨D, _, rfl, run_takeDeferred h2, leaves_marks hT hend Ds _ hn.2 (fun E hE => ?_) (hT.putObj (s := ()) _ h h1 h2 rfl)⟩⟩
    obtain ⟨e1, e2⟩ := hd E (by simp [hE])
    exact ⟨e1, (World.putObj_heap_other (fun e => hn.1 (by rw [← e]; exact hE))).trans e2⟩
def MarksAt (B : Nat) (Ds : List Nat) (ft : Foot) (W : World) : Prop := Ds.Nodup ∧ ∀ D ∈ Ds, B ≤ D ∧ ¬ ft D ∧ W.heap[D]? = some (.deferred (some []))
theorem MarksAt.lt {B : Nat} {Ds : List Nat} {ft : Foot} {W : World} (h : MarksAt B Ds ft W) (D : Nat) (hD : D ∈ Ds) : D < W.heap.size := (Array.getElem?_eq_some_iff.1 (h.2 D hD).2.2).1
theorem MarksAt.spared {B : Nat} {Ds : List Nat} {ft ft' : Foot} {W W' : World} (h : MarksAt B Ds ft W) (hs : FootKeeps ft ft' W W') : MarksAt B Ds ft' W' :=
  ⟨h.1, fun D hD => by
    obtain ⟨h1, h2, h3⟩ := h.2 D hD
    obtain ⟨e, m⟩ := hs.2 D (h.lt D hD) h2
    exact ⟨h1, m, e.trans h3⟩⟩
theorem MarksAt.below {B : Nat} {Ds : List Nat} {ft : Foot} {W W' : World} (h : MarksAt B Ds ft W) (hb : Below W.heap.size W W') : MarksAt B Ds ft W' := h.spared (FootKeeps.of_below hb)
theorem MarksAt.turn {B B' : Nat} {Ds : List Nat} {ft : Foot} {W W' : World} {row : Option Nat} (h : MarksAt B Ds ft W) (hl : ∀ D ∈ Ds, D < B') (hg : W.grownBy W' row) (hr : ∀ r, row = some r → B' ≤ r) : MarksAt B Ds ft W' :=
  ⟨h.1, fun D hD => by
    obtain ⟨h1, h2, h3⟩ := h.2 D hD
    exact ⟨h1, h2, (hg.block D (h.lt D hD) (fun e => by have := hr D e.symm; have := hl D hD; omega)).trans h3⟩⟩
theorem MarksAt.more {B : Nat} {Ds : List Nat} {ft : Foot} {W : World} (h : MarksAt B Ds ft W) {D : Nat} (hf : ∀ E ∈ Ds, E < D) (hB : B ≤ D) (hn : ¬ ft D) (hd : W.heap[D]? = some (.deferred (some []))) : MarksAt B (D :: Ds) ft W :=
  ⟨List.nodup_cons.2 ⟨fun hm => absurd (hf D hm) (Nat.lt_irrefl _), h.1⟩, fun E hE => by
    rcases List.mem_cons.1 hE with rfl | hE
    · exact ⟨hB, hn, hd⟩
    · exact h.2 E hE⟩
theorem wordsB_pre (d k : Nat) : ∀ n, k ≤ n → wordsB d k <+: wordsB d n
  | 0, h => by obtain rfl : k = 0 := by omega
               exact List.prefix_refl _
  | n + 1, h => by
    by_cases hk : k = n + 1
    · subst hk; exact List.prefix_refl _
    · rw [wordsB_next]
      exact (wordsB_pre d k n (by omega)).trans (List.prefix_append _ _)
theorem wordsB_in (d k n : Nat) (hk : k < n) (pre : List ByteArray) (h : pre <+: wordsL d k) : wordsB d k ++ pre <+: wordsB d n := by
  have := wordsB_pre d (k + 1) n hk
  rw [wordsB_next] at this
  exact ((List.prefix_append_right_inj _).2 h).trans this

/-- Between two rounds of the levels. -/
def belowRel (d n b1 b2 l B : Nat) (J : List ByteArray × Foot → World → Prop) (a : Act) (wr : World) : Prop :=
  ∃ (k : Nat) (ft : Foot) (Ds : List Nat) (u4 u5 u8 u9 u10 u11 u12 u13 u14 u15 u16 u17 u18 : Value), (k ≤ n ∧ J (wordsB d k, ft) wr ∧ (¬ ft b1 ∧ ¬ ft b2 ∧ ¬ ft B) ∧ Blk wr b1 #[.int .i64 n] 2 ∧ Blk wr b2 #[.int .i64 d] 2 ∧ Blk wr B #[.func (.yield l) #[] #[]] 63 ∧ MarksAt B Ds ft wr) ∧
      a = { tmps := #[.func (.yield l) #[] #[], .pointer (some ⟨b1, 0, none⟩), .pointer (some ⟨b2, 0, none⟩), .pointer (some ⟨B, 0, none⟩), u4, u5, .int .i64 (n : Int), .int .i64 (k : Int), u8, u9, u10, u11, u12, u13, u14, u15, u16, u17, u18], defers := Ds.map markD }

end Go.Proofs.Ytdbdoohcpcjfdaa
