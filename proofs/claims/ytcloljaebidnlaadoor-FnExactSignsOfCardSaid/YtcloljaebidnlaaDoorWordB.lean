/- Words of a number: 'levelWord' and 'l01WordOf' make the same word. -/
import Derived.Test.YtcloljaebidnlaaDoorWordA
namespace Go.Proofs.YtcloljaebidnlaaDoor
open Go.RowKit

theorem Tryd.info5 : (Tryd.prog.info? 5).map (fun i => (i.zero, i.size, i.bytes)) = some (some (.int .u8 0), 1, 1) := by kernel_rfl
theorem wordOf_dig (d n : Nat) (k : Int) (hk : 0 ≤ k) : (⟨(wordOf d n (k / d).toNat).toArray⟩ : ByteArray) ++ ⟨#[dig (k % d)]⟩ = ⟨(wordOf d (n + 1) k.toNat).toArray⟩ := by
  obtain ⟨q, rfl⟩ := Int.eq_ofNat_of_zero_le hk
  rw [show ((q : Int) / d).toNat = q / d from by rw [← Int.natCast_ediv]; rfl, show dig ((q : Int) % d) = UInt8.ofNat (48 + q % d) from by unfold dig; rw [← Int.natCast_emod]; rfl, Int.toNat_natCast]
  rw [ByteArray.mk_append_mk, wordOf]

end Go.Proofs.YtcloljaebidnlaaDoor
