/- A region whose last operation comes behind all others: it is walked apart. -/
import Derived.Test.YtdbdoohcpcjfdaaRg
import Derived.Test.YtdbdoohcpcjfdaaRgM
namespace Go.Proofs.Ytdbdoohcpcjfdaa
open Go.RowKit

section
variable {P : Program} {ops : Array Oper} {Q : Exit → Act → World → Prop} {md : Region.Mode} {S : World → Prop} {n l : Nat}
theorem wp_region_last {id : Nat} {a : Act} {w : World} (hm : P.follows .mixedOrders = true) (hsz : ops.size = n + 1) (hok : lastOk ops = true) (hnd : (ops.toList.all fun o => match o.op with | .defer _ => false | _ => true) = true) (hout : ¬ LetsOut Q) (hS : S w.drew)
    (h : S w.drew → wpAnyH P .any ops.pop (lastQ P ops Q n) S n (Array.replicate n false) a w.drew) {m : Nat} : (Code.region id ops true).wpIn (Fence.wide.inRound l) m P Q a w := by
  refine wpIn_region_any hm (wpAny_round (not_defer hnd) hout _ _ _ _ ?_)
  unfold lastOk at hok
  rw [hsz, Nat.add_sub_cancel] at hok
  cases ho : ops[n]? with
  | none => rw [ho] at hok; cases hok
  | some o =>
    rw [ho] at hok
    simp only [Bool.and_eq_true, List.all_eq_true, List.mem_range] at hok
    obtain ⟨⟨⟨k1, k2⟩, _⟩, k4⟩ := hok
    have := wpAny_last (P := P) (Q := Q) (md := .any) hsz ho (fun j hj => by
        obtain ⟨e, he, h2⟩ := List.any_eq_true.1 (k1 j hj)
        simp only [Bool.and_eq_true, beq_iff_eq] at h2
        exact ⟨e, by simpa using he, h2.1, h2.2⟩) (fun e he => by simpa using k2 e (by simpa using he)) (fun i oi hi hoi => by
        have h3 := k4 i hi
        rw [hoi] at h3
        simp only [Bool.and_eq_true, List.all_eq_true, decide_eq_true_eq] at h3
        exact ⟨by simpa using h3.1, fun e he => h3.2 e (by simpa using he)⟩) n (Array.replicate n false) a w.drew (by simp) (wpAny_of_held _ _ _ _ (h hS))
    rw [hsz]
    rw [show Array.replicate (n + 1) false = (Array.replicate n false).push false from by rw [Array.replicate_succ]]
    exact this
end
end Go.Proofs.Ytdbdoohcpcjfdaa
