/- The contracts of 'SectionOf' and 'ImageOf' in the form that the statements' walks take. -/
import Derived.Test.YtgcieocknlhjlaaImgG
namespace Go.Proofs.Ytgcieocknlhjlaa
open Go.RowKit
theorem iSectionOf_g (M : Mach) (hok : M.Ok) (v : Value) (zs : List Int) (s : ByteArray) (w : World) (hv : SeesI w v zs) (_hs : s.size ≤ 1048576) :
    Calls Try.prog 14 #[.agg (mc M), v, .string s] w fun e w' => ∃ vr, e = .returned (.tuple #[vr, .int .i64 (bothC M zs s)]) ∧ OwnI w' w.heap.size vr (secR M zs s) ∧ Below w.heap.size w w' := iSectionOf_calls M hok v zs s w hv
theorem sSectionOf_g (M : Mach) (hok : M.Ok) (v : Value) (zs : List Int) (s : ByteArray) (w : World) (hv : SeesI w v zs) (hs : s.size ≤ 1048576) :
    Calls Try.prog 13 #[.agg (mc M), v, .string s] w fun e w' => ∃ vr, e = .returned (.tuple #[vr, .int .i64 (bothC M zs s)]) ∧ OwnI w' w.heap.size vr (secR M zs s) ∧ Below w.heap.size w w' := sSectionOf_calls M hok v zs s hs w hv
theorem iImageOf_g (M : Mach) (hok : M.Ok) (v : Value) (zs : List Int) (s : ByteArray) (w : World) (hv : SeesI w v zs) (_hs : s.size ≤ 1048576) :
    Calls Try.prog 11 #[.agg (mc M), v, .string s] w fun e w' => e = .returned (.tuple #[.string (imgR M zs s), .int .i64 (bothC M zs s)]) ∧ Below w.heap.size w w' := iImageOf_calls M hok v zs s w hv
theorem sImageOf_g (M : Mach) (hok : M.Ok) (v : Value) (zs : List Int) (s : ByteArray) (w : World) (hv : SeesI w v zs) (hs : s.size ≤ 1048576) :
    Calls Try.prog 8 #[.agg (mc M), v, .string s] w fun e w' => e = .returned (.tuple #[.string (imgR M zs s), .int .i64 (bothC M zs s)]) ∧ Below w.heap.size w w' := sImageOf_calls M hok v zs s hs w hv
end Go.Proofs.Ytgcieocknlhjlaa
