/- 'ActOnWord' and 'SectionAt', program and model, and the statements on them. -/
import Derived.Test.YtdbdoohcpcjfdaaLawB
import Derived.Test.YtdbdoohcpcjfdaaWordF
namespace Go.Proofs.Ytdbdoohcpcjfdaa
open Go.RowKit

def actStr (M : Mach) (q : Int) (s : ByteArray) : ByteArray := if walkCode M q s = 0 then ⟨(runL M q.toNat s.data.toList).2.toArray⟩ else ⟨#[]⟩
def secVal (M : Mach) (q : Int) (s : ByteArray) : Int := if walkCode M q s = 0 then ((runL M q.toNat s.data.toList).1 : Nat) else 0
theorem walk_good {M : Mach} (hok : M.Ok) {q : Int} {s : ByteArray} (h : walkCode M q s = 0) : ∃ (L S qn : Nat), Good M L S ∧ q = (qn : Int) ∧ qn < S ∧ s.size ≤ 40 ∧ lettersL L s.data.toList = true := by
  unfold walkCode at h
  split at h
  · cases h
  · rename_i h1
    split at h
    · rename_i h2
      have hm : isMach M = true := by cases hh : isMach M <;> simp_all
      obtain ⟨L, S, hg⟩ := Good.of hok hm
      obtain ⟨qn, rfl⟩ := Int.eq_ofNat_of_zero_le h2.1
      have hw : wordB L s = true := by
        have := hg.hL
        cases hh : wordB L s
        · exact absurd (Or.inr (by rw [this, Int.toNat_natCast]; exact hh)) h1
        · rfl
      have := hg.hS
      obtain ⟨a, b⟩ := (wordB_iff L s).1 hw
      exact ⟨L, S, qn, hg, rfl, by omega, a, b⟩
    · cases h

end Go.Proofs.Ytdbdoohcpcjfdaa
