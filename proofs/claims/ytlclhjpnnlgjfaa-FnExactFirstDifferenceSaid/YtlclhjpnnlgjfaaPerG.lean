/- 'PermutationOf': the program. -/
import Derived.Test.YtlclhjpnnlgjfaaImgG
import Derived.Test.YtlclhjpnnlgjfaaLevM
import Derived.Test.YtlclhjpnnlgjfaaWordF
namespace Go.Proofs.Ytlclhjpnnlgjfaa
open Go.RowKit

/-- The number of the image of the word number k. -/
def permGat (M : Mach) (zs : List Int) (L n k : Nat) : Int := numI L (actG M zs (wordOf L n k)).1
def permGK (M : Mach) (zs : List Int) (L n k : Nat) : List Int := (List.range k).map (permGat M zs L n)
def permG (M : Mach) (zs : List Int) (L n : Nat) : List Int := permGK M zs L n (L ^ n)
theorem permGK_len (M : Mach) (zs : List Int) (L n k : Nat) : (permGK M zs L n k).length = k := by simp [permGK]
theorem permGK_snoc (M : Mach) (zs : List Int) (L n k : Nat) : permGK M zs L n (k + 1) = permGK M zs L n k ++ [permGat M zs L n k] := by simp [permGK, List.range_succ]
def permGP (M : Mach) (zs : List Int) (L n N k : Nat) : List Int := permGK M zs L n k ++ List.replicate (N - k) 0
theorem permGP_len (M : Mach) (zs : List Int) (L n N k : Nat) (h : k ≤ N) : (permGP M zs L n N k).length = N := by simp [permGP, permGK_len]; omega
theorem permGP_zero (M : Mach) (zs : List Int) (L n N : Nat) : permGP M zs L n N 0 = List.replicate N 0 := by simp [permGP, permGK]
theorem permGP_all (M : Mach) (zs : List Int) (L n N : Nat) : permGP M zs L n N N = permGK M zs L n N := by simp [permGP]
theorem permGP_set (M : Mach) (zs : List Int) (L n N k : Nat) (h : k < N) : (permGP M zs L n N k).set k (permGat M zs L n k) = permGP M zs L n N (k + 1) := by
  unfold permGP
  rw [List.set_append_right _ _ (by rw [permGK_len]; exact Nat.le_refl _), permGK_len, Nat.sub_self, show N - k = (N - (k + 1)) + 1 from by omega, List.replicate_succ, List.set_cons_zero, permGK_snoc, List.append_assoc]
  rfl
def permGC (M : Mach) (zs : List Int) (n : Int) : Int := if isGrp M zs then (if 0 ≤ n ∧ n ≤ 5 then 0 else 2) else 1
def permGR (M : Mach) (zs : List Int) (n : Int) : List Int := if isGrp M zs = true ∧ (0 ≤ n ∧ n ≤ 5) then permG M zs M.L.toNat n.toNat else []
theorem permGR_len {M : Mach} (hok : M.Ok) (zs : List Int) (n : Int) : (permGR M zs n).length ≤ 1048576 := by
  unfold permGR
  split
  · rename_i h
    obtain ⟨L, S, hg⟩ := Good.of hok (isGrp_mach h.1).1
    rw [permG, permGK_len, hg.hL, Int.toNat_natCast]
    have := pow_le L n.toNat hg.L3 (by omega)
    omega
  · simp
theorem levelWord_nat (L n k : Nat) (hd : L = 2 ∨ L = 3) (hn : n ≤ 5) (hk : k ≤ 242) (w : World) :
    Calls Try.prog 35 #[.int .i64 L, .int .i64 n, .int .i64 k] w fun e w' => e = .returned (.string ⟨(wordOf L n k).toArray⟩) ∧ Below w.heap.size w w' :=
  (levelWord_calls L n k hd hn (by omega) (by omega) w).mono fun e w' h => ⟨by rw [h.1]; rfl, h.2⟩
/-- A word of a level. -/
theorem wordOf_at (L n k : Nat) (hL : L = 2 ∨ L = 3) (hn : n ≤ 5) : (⟨(wordOf L n k).toArray⟩ : ByteArray).size ≤ 40 ∧ lettersL L (⟨(wordOf L n k).toArray⟩ : ByteArray).data.toList = true := by
  refine ⟨?_, lettersL_wordOf L hL n k⟩
  show (wordOf L n k).toArray.size ≤ 40
  simp [length_wordOf]; omega

end Go.Proofs.Ytlclhjpnnlgjfaa
