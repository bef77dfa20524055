/- 'NormalWord': the program and the model. -/
import Derived.Test.YtkhpfjamkkicoaaNorW
import Derived.Test.YtkhpfjamkkicoaaNorS
import Derived.Test.YtkhpfjamkkicoaaGrpT
namespace Go.Proofs.Ytkhpfjamkkicoaa
open Go.RowKit

theorem normR_good {M : Mach} {L S : Nat} (hg : Good M L S) {zs : List Int} (h : isGrp M zs = true) : normR M zs = normK M L S zs zs.length := by
  simp [normR, h, hg.hL, hg.hS]
theorem grp_nums {M : Mach} {L S : Nat} (hg : Good M L S) {zs : List Int} (h : isGrp M zs = true) : ∀ z ∈ zs, numOk S z = true := by
  have h2 := (isGrp_parts h).2
  rw [hg.hS] at h2
  intro z hz
  obtain ⟨j, hj, rfl⟩ := List.getElem_of_mem hz
  exact grpOk_at h2 j hj

end Go.Proofs.Ytkhpfjamkkicoaa
