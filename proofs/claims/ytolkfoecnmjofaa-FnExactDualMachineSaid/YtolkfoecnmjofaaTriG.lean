/- 'MinimalMachine': the program. -/
import Derived.Test.YtolkfoecnmjofaaMinG
import Derived.Test.YtolkfoecnmjofaaMinC
import Derived.Test.YtolkfoecnmjofaaArgs
import Derived.Test.YtolkfoecnmjofaaMachD
namespace Go.Proofs.Ytolkfoecnmjofaa
open Go.RowKit

theorem vw_next {M : Mach} {L S : Nat} (hg : Good M L S) (q x : Nat) (hq : q < S) (hx : x < 3) : (vw M L S (S + 1)).n q x = nextT M L S q x := by
  have := hg.S16
  rw [vw_n hg (S + 1) q x (by omega) hx]
  unfold nextT numT
  by_cases h : x < L
  · rw [if_pos ⟨hq, h⟩, if_pos h]
  · rw [if_neg (fun a => h a.2), if_neg h]

theorem tri_one (a b c : Int) : (#[Value.int .u8 a, Value.int .u8 b, Value.int .u8 c]).all (·.oneCell') = true := by
  rw [Array.all_eq_true_iff_forall_mem]
  intro v hv
  simp at hv
  rcases hv with rfl | rfl | rfl <;> rfl
end Go.Proofs.Ytolkfoecnmjofaa

namespace Go.Proofs.Ytolkfoecnmjofaa
open Go.RowKit

theorem ret_min {c c' : Array Value} {v : Value} {m m' : Int} (h : c = c') (h' : m = m') : Ending.returned (.tuple #[.agg c, v, .int .i64 m]) = Ending.returned (.tuple #[.agg c', v, .int .i64 m']) := by rw [h, h']
theorem zero_over : over (mc zeroM) 0 (mc zeroM) = mc zeroM := over_all _ _ rfl

end Go.Proofs.Ytolkfoecnmjofaa

namespace Go.Proofs.Ytolkfoecnmjofaa
open Go.RowKit

/-- So far as the first k letters tell, the state q of m stays. -/
def stayUp (m : Mach) (q k : Nat) : Bool := (List.range k).all fun x => decide (m.o q x = (x : Int)) && decide (m.n q x = (q : Int))
theorem stayUp_succ (m : Mach) (q k : Nat) : stayUp m q (k + 1) = (stayUp m q k && (decide (m.o q k = (k : Int)) && decide (m.n q k = (q : Int)))) := by
  simp [stayUp, List.range_succ]
theorem stayUp_no (m : Mach) (q k L : Nat) (hk : k < L) (h : (decide (m.o q k = (k : Int)) && decide (m.n q k = (q : Int))) = false) : stayUp m q L = false := by
  unfold stayUp; rw [List.all_eq_false]; exact ⟨k, by simpa using hk, by rw [h]; simp⟩
theorem stayUp_iff (m : Mach) (q k : Nat) : stayUp m q k = true ↔ ∀ x, x < k → m.o q x = (x : Int) ∧ m.n q x = (q : Int) := by simp [stayUp]

theorem ret_bool' {a b : Bool} (h : a = b) : Ending.returned (.bool a) = Ending.returned (.bool b) := by rw [h]
end Go.Proofs.Ytolkfoecnmjofaa

namespace Go.Proofs.Ytolkfoecnmjofaa
open Go.RowKit

/-- The trivial states among the first k. -/
def triN (M : Mach) (L S k : Nat) : List Nat := (List.range k).filter fun q => trivB M L S q
def triK (M : Mach) (L S k : Nat) : List Int := (triN M L S k).map Int.ofNat
theorem triK_len (M : Mach) (L S k : Nat) : (triK M L S k).length ≤ k := by
  unfold triK triN
  rw [List.length_map]
  exact Nat.le_trans (List.length_filter_le _ _) (by simp)
theorem triK_yes {M : Mach} {L S k : Nat} (h : trivB M L S k = true) : triK M L S (k + 1) = triK M L S k ++ [(k : Int)] := by
  simp [triK, triN, List.range_succ, List.filter_append, h]
theorem triK_no {M : Mach} {L S k : Nat} (h : trivB M L S k = false) : triK M L S (k + 1) = triK M L S k := by
  simp [triK, triN, List.range_succ, List.filter_append, h]
def triR (M : Mach) : List Int := if isMach M then triK M M.L.toNat M.S.toNat M.S.toNat else []
theorem triR_len {M : Mach} (h : M.Ok) : (triR M).length ≤ 1048576 := by
  unfold triR
  split
  · rename_i hm
    obtain ⟨L, S, hg⟩ := Good.of h hm
    have h1 := triK_len M M.L.toNat M.S.toNat M.S.toNat
    have h2 := hg.S16
    rw [hg.hS] at h1
    rw [hg.hS]
    simp only [Int.toNat_natCast] at h1 ⊢
    omega
  · simp
/-- A state is trivial as its number in the minimal machine stays. -/
theorem stay_triv {M : Mach} {L S : Nat} (hg : Good M L S) (q : Nat) (hq : q < S) : stayUp (mnAll M L S S) (numT M L S q) L = trivB M L S q := by
  have hL3 := hg.L3
  obtain ⟨hup, _⟩ := mnAll_up hg S (Nat.le_refl S)
  rw [Bool.eq_iff_iff, stayUp_iff, trivB_iff hg (still_from hg (S + 1) (by omega)) hq]
  constructor
  · intro h x hx
    have h1 := h x hx
    have h2 := hup.rows q hq x (by omega)
    rw [h2.1, h2.2] at h1
    refine ⟨h1.1, ?_⟩
    have h3 := h1.2
    unfold nextT at h3
    rw [if_pos hx] at h3
    exact numT_eqB.1 (by omega)
  · intro h x hx
    have h2 := hup.rows q hq x (by omega)
    rw [h2.1, h2.2]
    refine ⟨(h x hx).1, ?_⟩
    unfold nextT
    rw [if_pos hx, numT_eqB.2 (h x hx).2]
end Go.Proofs.Ytolkfoecnmjofaa
