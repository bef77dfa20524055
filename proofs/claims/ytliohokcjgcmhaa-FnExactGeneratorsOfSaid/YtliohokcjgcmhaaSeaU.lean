/- 'IsTrivialWord': the model. -/
import Derived.Test.YtliohokcjgcmhaaSeaS
import Derived.Test.YtliohokcjgcmhaaGrpJ
namespace Go.Proofs.Ytliohokcjgcmhaa
open Go.RowKit

/-- What 'IsTrivialWord' answers. -/
def trivW (M : Mach) (zs : List Int) : Bool × Int := if isGrp M zs then resT M M.L.toNat M.S.toNat 201 0 [nf M M.L.toNat M.S.toNat zs] else (false, 1)
theorem trivW_good {M : Mach} {L S : Nat} (hg : Good M L S) {zs : List Int} (h : isGrp M zs = true) : trivW M zs = resT M L S 201 0 [nf M L S zs] := by
  unfold trivW
  rw [if_pos h, hg.hL, hg.hS]
  rfl

end Go.Proofs.Ytliohokcjgcmhaa

namespace Go.Proofs.Ytliohokcjgcmhaa
open Go.RowKit

/-- What 'AreEqualWords' answers. -/
def sameW (M : Mach) (zs1 zs2 : List Int) : Bool × Int := if two M zs1 zs2 then resT M M.L.toNat M.S.toNat 201 0 [nf M M.L.toNat M.S.toNat (zs1 ++ turnI zs2)] else (false, 1)
theorem sameW_good {M : Mach} {L S : Nat} (hg : Good M L S) {zs1 zs2 : List Int} (h : two M zs1 zs2 = true) : sameW M zs1 zs2 = resT M L S 201 0 [nf M L S (zs1 ++ turnI zs2)] := by
  unfold sameW
  rw [if_pos h, hg.hL, hg.hS]
  rfl
theorem same_ok {M : Mach} {L S : Nat} (hg : Good M L S) {zs1 zs2 : List Int} (h : two M zs1 zs2 = true) : wordOk S 80 (zs1 ++ turnI zs2) := by
  have h1 := nums_of hg (two_parts h).1
  have h2 := nums_of hg (two_parts h).2
  have l1 := isGrp_len (two_parts h).1
  have l2 := isGrp_len (two_parts h).2
  refine ⟨?_, by rw [List.length_append, turnI_len]; omega⟩
  unfold numsOk at *
  rw [List.all_eq_true] at *
  intro z hz
  rcases List.mem_append.1 hz with hz | hz
  · exact h1 z hz
  · simp only [turnI, List.mem_reverse, List.mem_map] at hz
    obtain ⟨y, hy, rfl⟩ := hz
    have := (numOk_iff S y).1 (h2 y hy)
    exact (numOk_iff S (-y)).2 ⟨by omega, by omega⟩

end Go.Proofs.Ytliohokcjgcmhaa
