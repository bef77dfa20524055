/- Both 'PowerWord's. -/
import Derived.Test.YtlclhjpnnlgjfaaGrpJ
namespace Go.Proofs.Ytlclhjpnnlgjfaa
open Go.RowKit

/-- n times. -/
def repI (zs : List Int) (n : Nat) : List Int := (List.replicate n zs).flatten
theorem repI_zero (zs : List Int) : repI zs 0 = [] := rfl
theorem repI_succ (zs : List Int) (n : Nat) : repI zs (n + 1) = repI zs n ++ zs := by simp [repI, List.replicate_succ']
theorem repI_len (zs : List Int) (n : Nat) : (repI zs n).length = n * zs.length := by simp [repI]
theorem repI_bd (zs : List Int) (n k : Nat) (hz : zs.length ≤ 40) (hk : k ≤ n) (hn : n ≤ 40) : (repI zs k).length ≤ 1600 := by
  rw [repI_len]
  exact Nat.le_trans (Nat.mul_le_mul (Nat.le_trans hk hn) hz) (by decide)

/-- What is repeated. -/
def absW (zs : List Int) (k : Int) : List Int := if k < 0 then turnI zs else zs
theorem absW_len (zs : List Int) (k : Int) : (absW zs k).length = zs.length := by unfold absW; split <;> simp [turnI_len]

def powR (M : Mach) (zs : List Int) (k : Int) : List Int := if isGrp M zs then (if -40 ≤ k ∧ k ≤ 40 then toldR (repI (absW zs k) k.natAbs) else []) else []
def powC (M : Mach) (zs : List Int) (k : Int) : Int := if isGrp M zs then (if -40 ≤ k ∧ k ≤ 40 then toldC (repI (absW zs k) k.natAbs) else 2) else 1
theorem powR_len (M : Mach) (zs : List Int) (k : Int) : (powR M zs k).length ≤ 1048576 := by
  unfold powR
  split
  · split
    · exact toldR_len _
    · simp
  · simp
theorem codeG_one (M : Mach) (v : Value) (zs : List Int) : codeG M [(v, zs)] = if isGrp M zs then 0 else 1 := by
  have h : (isMach M && grpsOk M.S [(v, zs)]) = isGrp M zs := by simp [grpsOk, isGrp]
  unfold codeG
  rw [h]
theorem l02Code_one (M : Mach) (hok : M.Ok) (v v1 : Value) (z1 : List Int) (b : Bool) (hb : isGrp M z1 = b) (w : World) (hv : SeesL w v [(v1, z1)]) :
    Calls Try.prog 20 #[.agg (mc M), v] w fun e w' => e = .returned (.int .i64 (if b then 0 else 1)) ∧ Below w.heap.size w w' :=
  (l02Code_calls M hok v [(v1, z1)] (by simp) w hv).mono fun e w' h => ⟨by rw [h.1, codeG_one, hb], h.2⟩
/-- One slice laid for '...'. -/
theorem seesL1 {w : World} {v1 : Value} {z1 : List Int} (h1 : SeesI w v1 z1) : SeesL (w.alloc (.cells #[v1] 26)) (.slice (some ⟨w.heap.size, 0, none⟩) 1 1) [(v1, z1)] :=
  ⟨w.heap.size, 1, rfl, Blk.new _ _ _, fun i hi => by
    have hb : Below w.heap.size w (w.alloc (.cells #[v1] 26)) := by (repeat (first | exact Below.refl _ _ | refine below_drew' ?_ | refine below_drewN' ?_ _ | refine below_alloc' ?_ _ | refine below_set' ?_ (by (try simp); (try omega)) _ | refine below_step ?_ (by assumption)))
    match i, hi with
    | 0, _ => exact h1.below hb⟩
end Go.Proofs.Ytlclhjpnnlgjfaa
