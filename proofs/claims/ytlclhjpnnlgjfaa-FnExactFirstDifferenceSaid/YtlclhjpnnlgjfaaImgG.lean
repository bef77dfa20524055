/- Both 'ImageOf's, both 'SectionOf's. -/
import Derived.Test.YtlclhjpnnlgjfaaLedP
import Derived.Test.YtlclhjpnnlgjfaaGrpP
import Derived.Test.YtlclhjpnnlgjfaaGrpX
import Derived.Test.YtlclhjpnnlgjfaaLawB
import Derived.Test.YtlclhjpnnlgjfaaInv
namespace Go.Proofs.Ytlclhjpnnlgjfaa
open Go.RowKit

def walkB (M : Mach) (zs : List Int) (s : ByteArray) : Bool := isGrp M zs && wordB M.L.toNat s
theorem walkB_no {M : Mach} {zs : List Int} {s : ByteArray} (h : isGrp M zs = false) : walkB M zs s = false := by simp [walkB, h]
theorem walkB_yes {M : Mach} {zs : List Int} {s : ByteArray} {L : Nat} (hL : M.L = L) (h : isGrp M zs = true) : walkB M zs s = wordB L s := by simp [walkB, h, hL]
theorem isGrp_mach {M : Mach} {zs : List Int} (h : isGrp M zs = true) : isMach M = true ∧ grpOk M.S zs = true := by simpa [isGrp] using h
theorem grpOk_nums {S : Int} {zs : List Int} (h : grpOk S zs = true) : zs.length ≤ 40 ∧ numsOk S zs = true := by simpa [grpOk] using h
/-- What may be walked. -/
structure Walks (M : Mach) (zs : List Int) (s : ByteArray) (L S : Nat) : Prop where
  g : Good M L S
  n : numsOk S zs = true
  l40 : zs.length ≤ 40
  s40 : s.size ≤ 40
  l : lettersL L s.data.toList = true
theorem walks_of {M : Mach} (hok : M.Ok) {zs : List Int} {s : ByteArray} (h : walkB M zs s = true) : ∃ L S, Walks M zs s L S := by
  simp only [walkB, Bool.and_eq_true] at h
  obtain ⟨h1, h2⟩ := isGrp_mach h.1
  obtain ⟨L, S, hg⟩ := Good.of hok h1
  rw [hg.hS] at h2
  have h3 := h.2
  rw [hg.hL, Int.toNat_natCast, wordB_iff] at h3
  exact ⟨L, S, hg, (grpOk_nums h2).2, (grpOk_nums h2).1, h3.1, h3.2⟩

/-- The code. -/
def bothC (M : Mach) (zs : List Int) (s : ByteArray) : Int := if walkB M zs s then 0 else 1
def imgR (M : Mach) (zs : List Int) (s : ByteArray) : ByteArray := if walkB M zs s then ⟨(actG M zs s.data.toList).1.toArray⟩ else ⟨#[]⟩
def secR (M : Mach) (zs : List Int) (s : ByteArray) : List Int := if walkB M zs s then (actG M zs s.data.toList).2 else []
theorem secR_len {M : Mach} (hok : M.Ok) (zs : List Int) (s : ByteArray) : (secR M zs s).length ≤ 1048576 := by
  unfold secR
  split
  · rename_i h
    obtain ⟨L, S, hw⟩ := walks_of hok h
    have := (actG_all hw.g zs hw.n _ hw.l).2.2.1
    have := hw.l40
    omega
  · simp

end Go.Proofs.Ytlclhjpnnlgjfaa
