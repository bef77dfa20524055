/- 'classesOf': the sets of equal states. -/
import Derived.Test.YtolkfoecnmjofaaMinN
namespace Go.Proofs.Ytolkfoecnmjofaa
open Go.RowKit
open Go.Maps

theorem plainElem_bool_inv {H : Type} {P : Program} {e : TypeId} (he : P.underlying e = some .bool) {v : Value} {z : DataW H × List MemPlace} (h : plainElem P e v = some z) : ∃ x, v = .bool x ∧ z = (.lit (.bool x), []) := by
  cases v with
  | bool x => simp [plainElem, he] at h; exact ⟨x, rfl, h.symm⟩
  | _ => simp [plainElem, he] at h
theorem zero_bool : ∀ w, (zeroValue 4).run Try.prog w = .ok (.bool false) w := (zero_of_info (show (Try.prog.info? 4).map (fun i => (i.zero, i.size)) = some (some (.bool false), 1) from by kernel_rfl)).1
/-- The map of views. -/
def OwnViews (w : World) (b n : Nat) (D : DataW Unit) : Prop := w.ownsMap Try.prog 28 (plainElem Try.prog 4) b n D
theorem OwnViews.keep {w w' : World} {b n : Nat} {D : DataW Unit} (h : OwnViews w b n D) (e : w'.heap[b]? = w.heap[b]?) : OwnViews w' b n D := by
  obtain ⟨es, clock, hb, r⟩ := h
  exact ⟨es, clock, e.trans hb, r⟩
section
variable {ops : Array Oper} {rest : List Oper} {o : Oper} {a : Act} {w : World} {Q : Exit → Act → World → Prop}
/-- 'seen[view]'. -/
theorem wpList_look_view (hg : o.guard = none) (m x : Operand) (hop : o.op = Op.lookup 92 m x false) (b n : Nat) (D : DataW Unit) (hm : a.eval m = .map (some b)) (hown : OwnViews w b n D) (V : Mach) (hV : V.Ok) (hx : a.eval x = .agg (mc V))
    (r : Bool) (hr : D.atKey (klM V) (.lit (.bool false)) = .lit (.bool r)) (hK : wpList Try.prog ops Q rest (a.put o.dst (.bool r)) w) : wpList Try.prog ops Q (o :: rest) a w := by
  refine wpList_plain hg fun K' hK' => ?_
  obtain ⟨v, ps, hrun, hv⟩ := World.ownsMap.lookup hown keyed_mach Try.underlying92 (zero_bool w) (plainElem_bool Try.underlying4 false) (key_mach hV)
  obtain ⟨y, rfl, hz⟩ := plainElem_bool_inv Try.underlying4 hv
  have hy : y = r := by
    have h1 := congrArg Prod.fst hz
    rw [hr] at h1
    simp at h1
    exact h1.symm
  subst hy
  unfold Oper.wp
  simp [execOp, hop, hm, hx, hrun, Result.andThen]
  exact hK' _ _ hK
end

end Go.Proofs.Ytolkfoecnmjofaa
