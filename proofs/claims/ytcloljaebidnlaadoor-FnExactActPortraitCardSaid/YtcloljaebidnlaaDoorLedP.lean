/- Words led by group words: the program's 'leadWord'. -/
import Derived.Test.YtcloljaebidnlaaDoorLedW
import Derived.Test.YtcloljaebidnlaaDoorGrpJ
namespace Go.Proofs.YtcloljaebidnlaaDoor
open Go.RowKit

theorem sees_one {w : World} {v1 : Value} {z1 : List Int} (h1 : SeesI w v1 z1) : SeesL (w.alloc (.cells #[v1] 22)) (.slice (some ⟨w.heap.size, 0, none⟩) 1 1) [(v1, z1)] :=
  ⟨w.heap.size, 1, rfl, Blk.new _ _ _, fun i hi => by
    have hb : Below w.heap.size w (w.alloc (.cells #[v1] 22)) := by (repeat (first | exact Below.refl _ _ | refine below_drew' ?_ | refine below_drewN' ?_ _ | refine below_alloc' ?_ _ | refine below_set' ?_ (by (try simp); (try omega)) _ | refine below_step ?_ (by assumption)))
    match i, hi with
    | 0, _ => exact h1.below hb⟩
theorem mk_im (n : Nat) (hn : n ≤ 1048576) (W : World) : (Instr.makeSlice 60 (.int .i64 n) (.int .i64 n)).run Tryd.prog W = .ok (.slice (some ⟨W.heap.size, 0, none⟩) n n) (W.alloc (.cells (imC n []) 5)) := by
  obtain ⟨i0, hi, hz0, hz1, hz2⟩ := info_parts info5
  have := run_make (P := Tryd.prog) W 60 5 i0 (.int .u8 0) Tryd.underlying60 hi hz0 .i64 .i64 n n (by omega) (by omega) (by rw [hz2]; omega) (by omega)
  rwa [hz1, Int.toNat_natCast, Nat.mul_one, made_zero, ← imC_zero] at this

end Go.Proofs.YtcloljaebidnlaaDoor
