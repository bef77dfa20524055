/- Both 'GroupText's. -/
import Derived.Test.YtlclhjpnnlgjfaaGrpP
namespace Go.Proofs.Ytlclhjpnnlgjfaa
open Go.RowKit

/-- The letter of a number. -/
def lgI (z : Int) : Int := if 0 < z then 97 + (z - 1) else 65 + (-z - 1)
def lgB (z : Int) : UInt8 := UInt8.ofNat (lgI z).toNat
theorem lgB_toNat (z : Int) (h : -16 ≤ z ∧ z ≤ 16 ∧ z ≠ 0) : ((lgB z).toNat : Int) = lgI z := by
  unfold lgB
  have h1 : 0 ≤ lgI z ∧ lgI z ≤ 200 := by unfold lgI; split <;> omega
  rw [UInt8.toNat_ofNat_of_lt' (by show _ < 256; omega)]
  omega
def txtI (zs : List Int) : List UInt8 := zs.map lgB
theorem txtI_len (zs : List Int) : (txtI zs).length = zs.length := by simp [txtI]
/-- Numbers of at most 16, not 0. -/
def numI16 (zs : List Int) : Prop := ∀ z ∈ zs, -16 ≤ z ∧ z ≤ 16 ∧ z ≠ 0
theorem isGrp_num {M : Mach} {zs : List Int} (h : isGrp M zs = true) : numI16 zs := by
  obtain ⟨h1, h2⟩ := isGrp_parts h
  have hS := (isMach_parts h1).2
  intro z hz
  obtain ⟨i, hi, rfl⟩ := List.getElem_of_mem hz
  have := (numOk_iff _ _).1 (grpOk_at h2 i hi)
  omega
def gtxR (M : Mach) (zs : List Int) : ByteArray := if isGrp M zs then ⟨(txtI zs).toArray⟩ else ⟨#[]⟩
theorem ret_si {s s' : ByteArray} {m m' : Int} (hs : s = s') (h : m = m') : Ending.returned (.tuple #[.string s, .int .i64 m]) = Ending.returned (.tuple #[.string s', .int .i64 m']) := by rw [hs, h]

/-- The cells of bytes. -/
def bys (l : List UInt8) : Array Value := (l.map fun b => Value.int .u8 (b.toNat : Int)).toArray
theorem bys_size (l : List UInt8) : (bys l).size = l.length := by simp [bys]
theorem bys_set (l : List UInt8) (i : Nat) (b : UInt8) : bys (l.set i b) = (bys l).setIfInBounds i (.int .u8 (b.toNat : Int)) := by
  apply Array.ext'; simp [bys]
def padT (zs : List Int) (k : Nat) : List UInt8 := txtI (zs.take k) ++ List.replicate (zs.length - k) 0
theorem padT_zero (zs : List Int) : padT zs 0 = List.replicate zs.length 0 := by simp [padT, txtI]
theorem padT_all (zs : List Int) : padT zs zs.length = txtI zs := by simp [padT]
theorem padT_len (zs : List Int) (k : Nat) (h : k ≤ zs.length) : (padT zs k).length = zs.length := by rw [padT, List.length_append, txtI_len, List.length_take, List.length_replicate]; omega
theorem padT_set (zs : List Int) (k : Nat) (h : k < zs.length) : (padT zs k).set k (lgB zs[k]) = padT zs (k + 1) := by
  unfold padT
  rw [List.set_append_right _ _ (by rw [txtI_len, List.length_take]; omega), show k - (txtI (zs.take k)).length = 0 from by rw [txtI_len, List.length_take]; omega, show zs.length - k = (zs.length - (k + 1)) + 1 from by omega, List.replicate_succ, List.set_cons_zero, List.take_succ_eq_append_getElem h]
  unfold txtI
  rw [List.map_append, List.append_assoc]; rfl
theorem made_bys (n : Nat) : madeCells (Value.int .u8 0).cells n = bys (List.replicate n 0) := by
  apply Array.ext
  · simp [madeCells, bys]
  · intro i h1 h2
    simp [madeCells, Value.cells, Nat.mod_one, bys]
theorem mk_bys (n : Nat) (hn : n ≤ 1048576) (W : World) : (Instr.makeSlice 74 (.int .i64 n) (.int .i64 n)).run Try.prog W = .ok (.slice (some ⟨W.heap.size, 0, none⟩) n n) (W.alloc (.cells (bys (List.replicate n 0)) 5)) := by
  obtain ⟨i0, hi, hz0, hz1, hz2⟩ := info_parts info5
  have := run_make (P := Try.prog) W 74 5 i0 (.int .u8 0) Try.underlying74 hi hz0 .i64 .i64 n n (by omega) (by omega) (by rw [hz2]; omega) (by omega)
  rwa [hz1, Int.toNat_natCast, Nat.mul_one, made_bys] at this

end Go.Proofs.Ytlclhjpnnlgjfaa
