/- A region that draws its order, at the fence's own level (in no round): held orders. -/
import Derived.Test.YtdbdoohcpcjfdaaRg
namespace Go.Proofs.Ytdbdoohcpcjfdaa
open Go.RowKit

section
variable {P : Program} {ops : Array Oper} {Q : Exit → Act → World → Prop} {md : Region.Mode} {S : World → Prop} {n : Nat}
theorem wpAny_wide (hnd : ∀ (i : Nat) (o : Oper), ops[i]? = some o → ∀ c, o.op ≠ .defer c) (hout : ¬ LetsOut Q) : ∀ (fuel : Nat) (listed : Array Bool) (a : Act) (w : World), wpAny P md ops Q fuel listed a w → wpAnyIn (Fence.wide) n P md ops Q fuel listed a w
  | 0, _, _, _, h => h
  | fuel + 1, listed, a, w, h => by
    refine ⟨h.1, fun i hi => ?_⟩
    have h2 := h.2 i hi
    have ih := wpAny_wide hnd hout fuel (listed.setIfInBounds i true)
    unfold wpOp at h2
    unfold wpOpIn
    cases ho : ops[i]? with
    | none => simp only [ho] at h2 ⊢; exact ih _ _ h2
    | some o =>
      simp only [ho] at h2 ⊢
      split at h2
      · rename_i hw
        simp only [hw, if_true]
        rcases h2 with h2 | ⟨_, h2⟩
        · refine ⟨fun _ _ => trivial, ?_⟩
          rw [Oper.semAt_eq _ _ _ (hnd i o ho)]
          unfold Oper.wp at h2
          generalize (execOp a.eval o).run P w = r at *
          cases r with
          | ok x w' =>
            cases x with
            | value v => exact ih _ _ h2
            | skip => exact ih _ _ h2
            | defer d => exact ih _ _ h2
            | enter f args =>
              refine ⟨(fun e => by cases e), callsIn_wide.2 (Calls.mono h2 ?_)⟩
              intro e w'' he
              cases e with
              | returned v => exact ih _ _ he
              | panicked c => exact he
              | outgrown => exact he
            | row row args =>
              refine ⟨(fun e => by cases e), fun c cs _ => ?_⟩
              obtain ⟨v, w'', r, s⟩ := h2 c cs
              exact ⟨v, w'', ih _ _ r, stepsIn_wide.2 s⟩
            | _ => exact h2.elim
          | halt x w' => cases x <;> first | exact h2 | exact h2.elim
        · exact absurd h2 hout
      · rename_i hw
        simp only [hw]
        exact ⟨fun _ _ => trivial, ih _ _ h2⟩
theorem wp_region_wide {id : Nat} {a : Act} {w : World} (hm : P.follows .mixedOrders = true) (hnd : (ops.toList.all fun o => match o.op with | .defer _ => false | _ => true) = true) (hout : ¬ LetsOut Q) (hS : S w.drew)
    (h : S w.drew → wpAnyH P .any ops Q S ops.size (Array.replicate ops.size false) a w.drew) : (Code.region id ops true).wpIn Fence.wide n P Q a w :=
  wpIn_region_any hm (wpAny_wide (not_defer hnd) hout _ _ _ _ (wpAny_of_held _ _ _ _ (h hS)))
end
end Go.Proofs.Ytdbdoohcpcjfdaa

namespace Go.Proofs.Ytdbdoohcpcjfdaa
open Go.RowKit

section
variable {P : Program} {ops : Array Oper} {Q : Exit → Act → World → Prop} {n l : Nat}
theorem op_round {o : Oper} {a : Act} {w : World} {K : Act → World → Prop} (hd : ∀ c, o.op ≠ .defer c) (h2 : o.wp P a w K Q) : o.wpIn (Fence.wide.inRound l) n P a w K Q := by
  refine ⟨fun _ _ => trivial, ?_⟩
  rw [Oper.semAt_eq _ _ _ hd]
  unfold Oper.wp at h2
  generalize (execOp a.eval o).run P w = r at *
  cases r with
  | ok x w' =>
    cases x with
    | value v => exact h2
    | skip => exact h2
    | defer d => exact h2
    | enter f args =>
      refine ⟨(fun e => by cases e), callsIn_wide.2 (Calls.mono h2 ?_)⟩
      intro e w'' he
      cases e with
      | returned v => exact he
      | panicked c => exact he
      | outgrown => exact he
    | row row args =>
      refine ⟨(fun e => by cases e), fun c cs _ => ?_⟩
      obtain ⟨v, w'', r, s⟩ := h2 c cs
      exact ⟨v, w'', r, stepsIn_wide.2 s⟩
    | _ => exact h2.elim
  | halt x w' => cases x <;> first | exact h2 | exact h2.elim
theorem list_round (hout : ¬ LetsOut Q) : ∀ (rest : List Oper) (a : Act) (w : World), (rest.all fun o => match o.op with | .defer _ => false | _ => true) = true → wpList P ops Q rest a w → wpListIn (Fence.wide.inRound l) n P ops Q rest a w
  | [], _, _, _, h => h
  | o :: rest, a, w, hnd, h => by
    have hnd' : (match o.op with | .defer _ => false | _ => true) = true ∧ (rest.all fun o => match o.op with | .defer _ => false | _ => true) = true := by simpa using hnd
    have hd : ∀ c, o.op ≠ .defer c := fun c e => by have := hnd'.1; rw [e] at this; simp at this
    refine wpListIn_step fun K hK => ?_
    have hK' : ∀ a w, wpList P ops Q rest a w → K a w := fun a w h => hK _ _ (list_round hout rest a w hnd'.2 h)
    unfold wpList at h
    split at h
    · rename_i hw
      rw [if_pos hw]
      rcases h with h | ⟨_, h⟩
      · exact Oper.wpIn_mono hK' (op_round hd h)
      · exact absurd h hout
    · rename_i hw
      rw [if_neg hw]
      exact ⟨fun _ _ => trivial, hK' _ _ h⟩
theorem region_round {id : Nat} {ls : List Oper} {a : Act} {w : World} (hnd : (ls.all fun o => match o.op with | .defer _ => false | _ => true) = true) (hout : ¬ LetsOut Q) (h : wpList P ls.toArray Q ls a w) : (Code.region id ls.toArray false).wpIn (Fence.wide.inRound l) n P Q a w :=
  wpIn_region_lit (list_round hout ls a w hnd h)
end
end Go.Proofs.Ytdbdoohcpcjfdaa
