/- Small helpers of all walks: endings that are equal, blocks that are known whole and stay. -/
import Derived.WalkKit
import Derived.WalkLawsBesides
import Derived.WalkSpells
import Derived.BigQuiet
import Derived.Lib.Hide
import Derived.Lib.SmallJoins
import Derived.Deep.MidRow
import Derived.Deep.RegionWith
import Derived.Deep.QuietTactic
import Derived.Deep.RegionHeld3
import Derived.Deep.RegionLaw
import Derived.Deep.LoopGhost
import Derived.Deep.DeepCutAuto
import Derived.Deep.DeepMust
import Derived.Deep.Light
import Derived.Outline
import Derived.Laws.Rows
import Derived.Laws.CopyOwn
namespace Go.Proofs.Ytliohokcjgcmhaa
open Go.RowKit

theorem ret_int {k : IntKind} {a b : Int} (h : a = b) : Ending.returned (.int k a) = .returned (.int k b) := by rw [h]
theorem ret_bool {a b : Bool} (h : a = b) : Ending.returned (.bool a) = .returned (.bool b) := by rw [h]
theorem ret_str {a b : ByteArray} (h : a = b) : Ending.returned (.string a) = .returned (.string b) := by rw [h]
theorem ret_agg {a b : Array Value} (h : a = b) : Ending.returned (.agg a) = .returned (.agg b) := by rw [h]

/-- What lies below B stays, block by block. -/
theorem kept {B b : Nat} {W w1 : World} {o : Obj} (hb : Below B W w1) (h : W.heap[b]? = some o) (hlt : b < B) : w1.heap[b]? = some o := by
  rw [hb.block b hlt]; exact h
theorem cells_at {w : World} {b : Nat} {c : Array Value} {T : TypeId} (h : w.heap[b]? = some (.cells c T (0, 0))) : ∀ o, w.cell? ⟨b, o, none⟩ = c[o]? :=
  fun o => Go.Joins.cell_of_block h o
theorem free_at {w : World} {b : Nat} {c : Array Value} {T : TypeId} (h : w.heap[b]? = some (.cells c T (0, 0))) : ∀ o, w.frozen? ⟨b, o, none⟩ = false :=
  fun o => Go.Joins.unfrozen_of_block h o
theorem block_lt {w : World} {b : Nat} {o : Obj} (h : w.heap[b]? = some o) : b < w.heap.size := by
  rcases Nat.lt_or_ge b w.heap.size with h' | h'
  · exact h'
  · rw [Array.getElem?_eq_none h'] at h; cases h
/-- What a call leaves of a smaller bound. -/
theorem below_le {B B' : Nat} {w w' : World} (h : Below B w w') (hb : B' ≤ B) : Below B' w w' := Go.Joins.below_le h hb
theorem below_step {w X w1 : World} (h : Below w.heap.size w X) (hb : Below X.heap.size X w1) : Below w.heap.size w w1 := h.trans (hb.mono h.size)
theorem below_alloc' {w X : World} (h : Below w.heap.size w X) (o : Obj) : Below w.heap.size w (X.alloc o) := h.alloc h.size o
theorem below_drew' {w X : World} (h : Below w.heap.size w X) : Below w.heap.size w X.drew := h.drew
theorem below_drewN' {w X : World} (h : Below w.heap.size w X) (n : Nat) : Below w.heap.size w (X.drewN n) := h.trans (Go.Joins.below_draws _ _ n)
theorem below_set' {w X : World} {b o : Nat} (h : Below w.heap.size w X) (hp : w.heap.size ≤ b) (u : Value) : Below w.heap.size w (X.setCell ⟨b, o, none⟩ u) := h.setCell hp u
theorem below_same (B : Nat) (w : World) : Below B w w := Below.refl _ _

/-- A block that is known whole. A plain definition: no rule of the walk's. -/
def Blk (w : World) (b : Nat) (c : Array Value) (T : TypeId) : Prop := w.heap[b]? = some (.cells c T (0, 0))
namespace Blk
variable {w : World} {b : Nat} {c : Array Value} {T : TypeId}
theorem new (w : World) (c : Array Value) (T : TypeId) : Blk (w.alloc (.cells c T)) w.heap.size c T := heap_alloc_new w _
theorem new_at (w : World) (c : Array Value) (T : TypeId) (n : Nat) (h : n = w.heap.size) : Blk (w.alloc (.cells c T)) n c T := by subst h; exact heap_alloc_new w _
theorem lt (h : Blk w b c T) : b < w.heap.size := block_lt h
theorem alloc (h : Blk w b c T) (o : Obj) : Blk (w.alloc o) b c T := by
  have := Below.heap_alloc w o b h.lt
  unfold Blk at *; rw [this]; exact h
theorem drewN (h : Blk w b c T) (n : Nat) : Blk (w.drewN n) b c T := h
theorem drew (h : Blk w b c T) : Blk w.drew b c T := h
theorem set (h : Blk w b c T) (i : Nat) (v : Value) : Blk (w.setCell ⟨b, i, none⟩ v) b (c.setIfInBounds i v) T := heap_setCell_same w b i c T v h
theorem setOther (h : Blk w b c T) (g i : Nat) (v : Value) (hne : b ≠ g) : Blk (w.setCell ⟨g, i, none⟩ v) b c T := by
  have := Below.heap_setCell w ⟨g, i, none⟩ v b hne
  unfold Blk at *; rw [this]; exact h
theorem kept (h : Blk w b c T) {B : Nat} {w1 : World} (hb : Below B w w1) (hlt : b < B) : Blk w1 b c T := by
  unfold Blk at *; rw [hb.block b hlt]; exact h
theorem keptAll (h : Blk w b c T) {w1 : World} (hb : Below w.heap.size w w1) : Blk w1 b c T := h.kept hb h.lt
theorem cell (h : Blk w b c T) : ∀ o, w.cell? ⟨b, o, none⟩ = c[o]? := fun o => Go.Joins.cell_of_block h o
theorem free (h : Blk w b c T) : ∀ o, w.frozen? ⟨b, o, none⟩ = false := fun o => Go.Joins.unfrozen_of_block h o
theorem range (h : Blk w b c T) : w.rangeAt b 0 c.toList := fun j v hv => by
  rw [Nat.zero_add, h.cell j]; simpa using hv
theorem sub (h : Blk w b c T) (o : Nat) (cs : List Value) (hs : ∀ j v, cs[j]? = some v → c[o + j]? = some v) : w.rangeAt b o cs := fun j v hv => by
  rw [h.cell]; exact hs j v hv
theorem there (h : Blk w b c T) (o n : Nat) (hn : o + n ≤ c.size) : w.there b o n := fun j hj => by
  refine ⟨?_, h.free _⟩
  rw [h.cell, Array.getElem?_eq_getElem (by omega)]; rfl
end Blk
/-- 'string(b)' of bytes that lie in a block. -/
theorem run_str_mid {P : Program} (w : World) (src dst e : TypeId) (g o len cap : Nat) (bs : List UInt8) (hs : P.underlying src = some (.slice e)) (he : P.underlying e = some (.int .u8))
    (hd : P.underlying dst = some .string) (hl : bs.length = len) (h : w.rangeAt g o (bs.map fun b => Value.int .u8 (b.toNat : Int))) :
    (convert src dst (.slice (some ⟨g, o, none⟩) len cap)).run P w = .ok (.string ⟨bs.toArray⟩) w := by
  subst hl
  have hload : (loadCells ⟨g, o, none⟩ bs.length).run P w = .ok ((bs.map fun b => (b.toNat : Int)).map (Value.int .u8)).toArray w := by
    have := run_loadCells_list (P := P) w ⟨g, o, none⟩ (bs.map fun b => Value.int .u8 (b.toNat : Int)) (fun j v hv => by rw [Addr.add_mid]; exact h j v hv)
    simpa [List.map_map, Function.comp_def] using this
  rw [run_convert_bytes_string w src dst e _ _ _ hs he hd, run_bytesToString w _ _ _ _ hload]
  congr 2
  have key : ∀ (l : List UInt8) (r : ByteArray), (l.map fun b => (b.toNat : Int)).foldl (fun r n => r.push (UInt8.ofNat n.toNat)) r = ⟨r.data ++ l.toArray⟩ := by
    intro l
    induction l with
    | nil => intro r; simp
    | cons b l ih =>
      intro r
      rw [List.map_cons, List.foldl_cons, ih, Int.toNat_natCast, UInt8.ofNat_toNat]
      congr 1
      apply Array.ext'
      simp [ByteArray.push]
  rw [key]
  simp [ByteArray.empty, ByteArray.emptyWithCapacity]
  rfl
theorem rangeAt_of {w : World} {g : Nat} {c : Array Value} {T : TypeId} {fr : Nat × Nat} (h : w.heap[g]? = some (.cells c T fr)) : w.rangeAt g 0 c.toList := fun j v hv => by
  rw [Go.Joins.cell_of_block h]; simpa using hv
theorem rangeAt_sub {w : World} {g : Nat} {c : Array Value} {T : TypeId} {fr : Nat × Nat} (h : w.heap[g]? = some (.cells c T fr)) (o n : Nat) : w.rangeAt g o ((c.toList.drop o).take n) := fun j v hv => by
  rw [Go.Joins.cell_of_block h]
  simp only [List.getElem?_take, List.getElem?_drop] at hv
  split at hv
  · simpa using hv
  · cases hv
/-- The whole block is made of the bytes. -/
theorem run_str_block {P : Program} (w : World) (src dst e : TypeId) (g len cap : Nat) (c : Array Value) (fr : Nat × Nat) (bs : List UInt8) (hs : P.underlying src = some (.slice e)) (he : P.underlying e = some (.int .u8))
    (hd : P.underlying dst = some .string) (hl : bs.length = len) (h : w.heap[g]? = some (.cells c e fr)) (hc : c = (bs.map fun b => Value.int .u8 (b.toNat : Int)).toArray) :
    (convert src dst (.slice (some ⟨g, 0, none⟩) len cap)).run P w = .ok (.string ⟨bs.toArray⟩) w := by
  refine run_str_mid w src dst e g 0 len cap bs hs he hd hl ?_
  have := rangeAt_of h
  rw [hc] at this
  simpa using this
/-- 'string([]byte{..})' as the walk meets it: the block was made last. -/
theorem run_str_new {P : Program} {src dst e : TypeId} (hs : P.underlying src = some (.slice e)) (he : P.underlying e = some (.int .u8)) (hd : P.underlying dst = some .string)
    (W : World) (b : UInt8) (cap : Nat) : (convert src dst (.slice (some ⟨W.heap.size, 0, none⟩) 1 cap)).run P (W.alloc (.cells #[.int .u8 (b.toNat : Int)] e)) = .ok (.string ⟨#[b]⟩) (W.alloc (.cells #[.int .u8 (b.toNat : Int)] e)) :=
  run_str_block _ src dst e _ 1 cap _ _ [b] hs he hd rfl (heap_alloc_new W _) rfl

theorem run_str_new_drew {P : Program} {src dst e : TypeId} (hs : P.underlying src = some (.slice e)) (he : P.underlying e = some (.int .u8)) (hd : P.underlying dst = some .string)
    (W : World) (b : UInt8) (cap : Nat) : (convert src dst (.slice (some ⟨W.heap.size, 0, none⟩) 1 cap)).run P (W.alloc (.cells #[.int .u8 (b.toNat : Int)] e)).drew = .ok (.string ⟨#[b]⟩) (W.alloc (.cells #[.int .u8 (b.toNat : Int)] e)).drew :=
  run_str_block _ src dst e _ 1 cap _ _ [b] hs he hd rfl (heap_alloc_new W _) rfl

/-- The byte of a digit. -/
def dig (x : Int) : UInt8 := UInt8.ofNat (48 + x.toNat)
theorem dig_toNat (x : Int) (h0 : 0 ≤ x) (h1 : x < 200) : ((dig x).toNat : Int) = 48 + x := by
  unfold dig
  rw [UInt8.toNat_ofNat_of_lt' (by show _ < 256; omega)]
  omega
theorem dig_wrap (x : Int) (h0 : 0 ≤ x) (h1 : x < 200) : IntKind.u8.wrap (IntKind.i64.wrap (48 + x)) = ((dig x).toNat : Int) := by
  rw [dig_toNat x h0 h1, IntWalk.i64_in _ (by omega)]
  simp [IntKind.wrap, IntKind.bits, IntKind.signed]
  omega
end Go.Proofs.Ytliohokcjgcmhaa
