/- The search for trivial words: the program's parts. · The search: 'place'. -/
import Derived.Test.YtliohokcjgcmhaaOwnN
import Derived.Test.YtliohokcjgcmhaaSeaS
import Derived.Test.YtliohokcjgcmhaaMinK
import Derived.Test.YtliohokcjgcmhaaWrS
import Derived.Test.YtliohokcjgcmhaaBuildK
import Derived.Test.YtliohokcjgcmhaaStoreK
import Derived.Test.YtliohokcjgcmhaaNorW
import Derived.Laws.Tables
namespace Go.Proofs.Ytliohokcjgcmhaa
open Go.RowKit

set_option maxRecDepth 100000 in
set_option maxHeartbeats 1000000 in
theorem leavesLetters_calls (M : Mach) (L S : Nat) (hg : Good M L S) (zs : List Int) (hz : numsOk S zs = true) (w : World) :
    Calls Try.prog 170 #[.int .i64 L, .agg (c8 (imP M zs 3 L))] w fun e w' => e = .returned (.bool (stays M L zs)) ∧ Below w.heap.size w w' := by
  have hL3 := hg.L3
  have Hg := Lib.hid hg
  have Hnum := Lib.hid hz
  clear hg hz
  have hX : Blk (w.alloc (.cells (c8 (imP M zs 3 L)) 22)) w.heap.size (c8 (imP M zs 3 L)) 22 := Blk.new _ _ _
  have hbw : Below w.heap.size w (w.alloc (.cells (c8 (imP M zs 3 L)) 22)) := by (repeat (first | exact Below.refl _ _ | refine below_drew' ?_ | refine below_drewN' ?_ _ | refine below_alloc' ?_ _ | refine below_set' ?_ (by (try simp); (try omega)) _ | refine below_step ?_ (by assumption)))
  go_enter Try.func170, Try.ntmps170
  go_wp2
  go_loopw [7] (fun i wr => ∃ k : Nat, k ≤ L ∧ i = .int .i64 k ∧ Blk wr w.heap.size (c8 (imP M zs 3 L)) 22 ∧ Hid (∀ x, x < k → (ledG M zs x).1 = x) ∧ Below w.heap.size w wr) (fun i _ => L - (intOf i).toNat)
  case atStart => exact ⟨0, by omega, rfl, hX, Lib.hid (fun x hx => by omega), hbw⟩
  case round =>
    clear hX hbw
    obtain ⟨k, hk, rfl, hX, HE, hbw⟩ := hrel
    by_cases hlt : k < L
    · have hki : (k : Int) < L := by omega
      have hk3 : (k : Int) < 3 := by omega
      obtain ⟨y1, y2, y3⟩ := ledG_all Hg.out zs Hnum.out k hlt
      have e1 := c8_at (imP M zs 3 L) k (by rw [imP_len]; omega)
      rw [imP_at M zs 3 L k hlt (by omega)] at e1
      have HE1 : Hid ((ledG M zs k).1 = k → ∀ x, x < k + 1 → (ledG M zs x).1 = x) := Lib.hid (fun h x hx => by
        by_cases e : x = k
        · subst e; exact h
        · exact HE.out x (by omega))
      have HE2 : Hid ((ledG M zs k).1 ≠ k → stays M L zs = false) := Lib.hid (stays_no k hlt)
      clear y2 y3 HE
      have hw64 : IntKind.i64.wrap ((ledG M zs k).1 : Int) = ((ledG M zs k).1 : Int) := by simp [IntKind.wrap, IntKind.bits, IntKind.signed]; omega
      generalize (ledG M zs k).1 = y at *
      have cX := hX.cell
      by_cases hy : y = k
      · have hyb : ((y : Int) != (k : Int)) = false := by rw [hy]; simp
        have HE3 := Lib.hid (HE1.out hy)
        clear HE1 HE2 hy
        go_wp2
        go_roundw
        case rel => exact ⟨k + 1, by omega, by go_num, hX, HE3, hbw⟩
        case measure => simp [intOf] <;> omega
      · have hyb : ((y : Int) != (k : Int)) = true := by simp; omega
        have Hno := Lib.hid (HE2.out hy)
        clear HE1 HE2 hy
        go_wp2
        go_ret
        exact ⟨ret_bq Hno.out.symm, hbw⟩
    · obtain rfl : k = L := by omega
      have Hyes := Lib.hid (stays_yes HE.out)
      go_wp2
      go_ret
      exact ⟨ret_bq Hyes.out.symm, hbw⟩
end Go.Proofs.Ytliohokcjgcmhaa

namespace Go.Proofs.Ytliohokcjgcmhaa
open Go.RowKit

/-- A key: the numbers, and 0 behind the end. -/
def keyN (z : List Int) (k : Nat) : List Int := (List.range 80).map fun x => if x < k then z.getD x 0 else 0
def c1 (c : List Int) : Array Value := (c.map (Value.int .i8)).toArray
theorem c1_size (c : List Int) : (c1 c).size = c.length := by simp [c1]
theorem c1_at (c : List Int) (i : Nat) (hi : i < c.length) : (c1 c)[i]? = some (.int .i8 (c.getD i 0)) := by
  simp [c1, List.getD, List.getElem?_eq_getElem hi]
theorem c1_set (c : List Int) (i : Nat) (v : Int) : c1 (c.set i v) = (c1 c).setIfInBounds i (.int .i8 v) := by
  apply Array.ext'; simp [c1]
theorem c1_one (c : List Int) : (c1 c).all (·.oneCell') = true := by
  rw [Array.all_eq_true_iff_forall_mem]
  intro v hv
  simp only [c1, List.mem_toArray, List.mem_map] at hv
  obtain ⟨z, _, rfl⟩ := hv
  rfl
theorem keyN_len (z : List Int) (k : Nat) : (keyN z k).length = 80 := by simp [keyN]
theorem keyN_zero (z : List Int) : keyN z 0 = List.replicate 80 0 := by simp [keyN, List.map_const']
theorem keyN_set (z : List Int) (k : Nat) : (keyN z k).set k (z.getD k 0) = keyN z (k + 1) := by
  apply List.ext_getElem
  · simp [keyN]
  · intro x h1 h2
    simp only [keyN, List.getElem_set, List.getElem_map, List.getElem_range]
    by_cases e : k = x
    · subst e; simp
    · rw [if_neg e]
      by_cases h : x < k
      · rw [if_pos h, if_pos (by omega)]
      · rw [if_neg h, if_neg (by omega)]
theorem keyN_all (z : List Int) (x : Nat) (hx : x < 80) : (keyN z z.length).getD x 0 = z.getD x 0 := by
  unfold keyN
  rw [List.getD, List.getElem?_map, List.getElem?_range hx]
  simp only [Option.map_some, Option.getD_some]
  by_cases h : x < z.length
  · rw [if_pos h]
  · rw [if_neg h, List.getD, List.getElem?_eq_none (by omega)]; rfl
theorem word_at {S n : Nat} {z : List Int} (h : wordOk S n z) (x : Nat) (hx : x < z.length) : z.getD x 0 ≠ 0 := by
  rw [List.getD, List.getElem?_eq_getElem hx, Option.getD_some]
  exact ((numOk_iff S z[x]).1 (h.nums _ (List.getElem_mem hx))).1
theorem keyN_inj {S : Nat} {z y : List Int} (hz : wordOk S 80 z) (hy : wordOk S 80 y) (h : keyN z z.length = keyN y y.length) : z = y := by
  have hall : ∀ x, x < 80 → z.getD x 0 = y.getD x 0 := fun x hx => by rw [← keyN_all z x hx, ← keyN_all y x hx, h]
  have hz2 := hz.2
  have hy2 := hy.2
  have none0 : ∀ (u : List Int) (x : Nat), u.length ≤ x → u.getD x 0 = 0 := fun u x hx => by rw [List.getD, List.getElem?_eq_none hx]; rfl
  have hl : z.length = y.length := by
    rcases Nat.lt_trichotomy z.length y.length with hlt | he | hlt
    · exact absurd ((hall z.length (by omega)).symm.trans (none0 z _ (Nat.le_refl _))) (word_at hy _ hlt)
    · exact he
    · exact absurd ((hall y.length (by omega)).trans (none0 y _ (Nat.le_refl _))) (word_at hz _ hlt)
  apply List.ext_getElem hl
  intro x h1 h2
  have := hall x (by omega)
  simpa [List.getD, List.getElem?_eq_getElem h1, List.getElem?_eq_getElem h2] using this
theorem c1_inj {a b : List Int} (h : c1 a = c1 b) : a = b := by
  unfold c1 at h
  have h2 : a.map (Value.int .i8) = b.map (Value.int .i8) := by simpa using h
  exact (List.map_inj_right (fun x y e => by injection e)).1 h2
theorem info_key : (Try.prog.info? 157).map (fun i => (i.zero, i.size)) = some (some (.agg (c1 (List.replicate 80 0))), 80) := by kernel_rfl
theorem zero_key : ∀ w, (zeroValue 157).run Try.prog w = .ok (.agg (c1 (List.replicate 80 0))) w := (zero_of_info info_key).1
theorem size_key : (Try.prog.info? 157).map (·.size) = some 80 := (zero_of_info info_key).2

set_option maxRecDepth 100000 in
set_option maxHeartbeats 1000000 in
theorem keyOf_calls (S : Nat) (hS : S ≤ 16) (v : Value) (z : List Int) (hz : wordOk S 80 z) (w : World) (hv : SeesI w v z) :
    Calls Try.prog 127 #[v] w fun e w' => e = .returned (.agg (c1 (keyN z z.length))) ∧ Below w.heap.size w w' := by
  obtain ⟨oa, ca, hve, _⟩ := hv.view
  subst hve
  have hzk := zero_key
  have hl80 := hz.2
  have Hn := Lib.hid hz.nums
  have Hv := Lib.hid hv
  have hR : Blk ((w.alloc (.cells (c1 (List.replicate 80 0)) 157)).alloc (.cells (c1 (List.replicate 80 0)) 157)) w.heap.size (c1 (List.replicate 80 0)) 157 := (Blk.new w _ _).alloc _
  have hK : Blk ((w.alloc (.cells (c1 (List.replicate 80 0)) 157)).alloc (.cells (c1 (List.replicate 80 0)) 157)) (w.heap.size + 1) (c1 (keyN z 0)) 157 := by rw [keyN_zero]; exact Blk.new_at _ _ _ _ (by simp)
  have hbw : Below w.heap.size w ((w.alloc (.cells (c1 (List.replicate 80 0)) 157)).alloc (.cells (c1 (List.replicate 80 0)) 157)) := by (repeat (first | exact Below.refl _ _ | refine below_drew' ?_ | refine below_drewN' ?_ _ | refine below_alloc' ?_ _ | refine below_set' ?_ (by (try simp); (try omega)) _ | refine below_step ?_ (by assumption)))
  clear hv hz
  have Hz80 : Hid ((c1 (List.replicate 80 0)).size = 80) := Lib.hid (by rw [c1_size, List.length_replicate])
  generalize c1 (List.replicate 80 0) = z80 at *
  go_enter Try.func127, Try.ntmps127
  go_wp2
  go_loopw [8] (fun i wr => ∃ k : Nat, k ≤ z.length ∧ i = .int .i64 k ∧ Blk wr w.heap.size z80 157 ∧ Blk wr (w.heap.size + 1) (c1 (keyN z k)) 157 ∧ Below w.heap.size w wr) (fun i _ => z.length - (intOf i).toNat)
  case atStart => exact ⟨0, by omega, rfl, hR, hK, hbw⟩
  case round =>
    clear hR hK hbw
    obtain ⟨k, hk, rfl, hR, hK, hbw⟩ := hrel
    by_cases hlt : k < z.length
    · have hki : (k : Int) < (z.length : Int) := by omega
      have hk80 : (k : Int) < 80 := by omega
      obtain ⟨g, h1, _, cz⟩ := (Hv.out.below hbw).at k hlt
      subst h1
      have hzk2 := (numOk_iff S z[k]).1 (Hn.out _ (List.getElem_mem hlt))
      have hset := keyN_set z k
      rw [show z.getD k 0 = z[k] by simp [List.getD, List.getElem?_eq_getElem hlt]] at hset
      have Hset := Lib.hid hset
      have hold := c1_at (keyN z k) k (by rw [keyN_len]; omega)
      generalize (keyN z k).getD k 0 = old at hold
      clear hset
      generalize z[k] = y at *
      have hw8 : IntKind.i8.wrap y = y := by simp [IntKind.wrap, IntKind.bits, IntKind.signed]; omega
      have cK := hK.cell
      have fK := hK.free
      have hK1 := hK.set k (.int .i8 y)
      rw [← c1_set, Hset.out] at hK1
      have hR1 := hR.setOther (w.heap.size + 1) k (.int .i8 y) (by omega)
      have hbw1 := below_set' (o := k) hbw (b := w.heap.size + 1) (by omega) (.int .i8 y)
      clear hzk2
      go_wp2
      go_roundw
      case rel => exact ⟨k + 1, by omega, by go_num, hR1, hK1, hbw1⟩
      case measure => simp [intOf] <;> omega
    · obtain rfl : k = z.length := by omega
      have Hks : Hid ((c1 (keyN z z.length)).size = 80) := Lib.hid (by rw [c1_size, keyN_len])
      have Hko := Lib.hid (over_all z80 (c1 (keyN z z.length)) (by rw [Hks.out, Hz80.out]))
      have Hkc := Lib.hid (cut_all (c1 (keyN z z.length)) 80 Hks.out)
      have Hk1 := Lib.hid (c1_one (keyN z z.length))
      generalize hck : c1 (keyN z z.length) = ck at *
      have Hck := Lib.hid hck
      clear hck
      go_wp2_with (first | (with_reducible show wpList _ _ _ _ _ _; refine wpList_load_blk rfl 157 (.tmp 3) rfl (w.heap.size + 1) 0 rfl ck _ hK 80 (by rw [Hks.out]; omega) _ Try.underlying157 rfl size_key ?_; rw [Hkc.out]) | (with_reducible show wpList _ _ _ _ _ _; refine wpList_store_row rfl 157 _ _ rfl w.heap.size 0 ck rfl rfl _ _ hR (by rw [Hks.out, Hz80.out]; omega) (by rw [Hks.out]; exact size_key) Hk1.out _ Hko.out ?_; intro w8 hs8))
      exact bodyPost_cell rfl rfl hs8.blk Try.underlying157 rfl (by rw [Hks.out]; exact size_key) rfl ⟨by rw [Hck.out], hs8.below _ _ (by omega) hbw⟩
end Go.Proofs.Ytliohokcjgcmhaa

namespace Go.Proofs.Ytliohokcjgcmhaa
open Go.RowKit
open Go.Maps

theorem keyed_word : Keyed Try.prog 157 := Keyed.of_law (deep_law_laid laid (m := 4) (by omega) (of_decide_eq_true (by kernel_rfl)) (by kernel_rfl) (by kernel_rfl))
theorem cells_i8 : Try.prog.cellsOf 155 = 1 := by kernel_rfl
theorem cells_key : Try.prog.cellsOf 157 = 80 := by kernel_rfl
def isI8 (c : List Int) : Prop := ∀ n ∈ c, -128 ≤ n ∧ n ≤ 127
theorem lits_i8 (d : Nat) (n : Int) (h : -128 ≤ n ∧ n ≤ 127) : Try.prog.keyLits (d + 1) 155 [.int .i8 n] = some [.int .i8 n] := by
  simp [Program.keyLits, Try.underlying155, WalkArith.wf_i8 h]
theorem flat1 {β : Type} (h : Nat → β) : ∀ n, ((List.range n).map fun i => [h i]).flatten = (List.range n).map h
  | 0 => rfl
  | n + 1 => by rw [List.range_succ, List.map_append, List.flatten_append, flat1 h n, List.map_append]; rfl
theorem lits_key (d : Nat) (c : List Int) (hl : c.length = 80) (hc : isI8 c) : Try.prog.keyLits (d + 2) 157 (c1 c).toList = some (c.map (Lit.int .i8)) := by
  have one : ∀ i, i < 80 → ((c.map (Value.int .i8)).drop i).take 1 = [Value.int .i8 (c.getD i 0)] := fun i hi => by
    rw [List.drop_eq_getElem_cons (by simp; omega)]
    simp [List.getD, List.getElem?_eq_getElem (show i < c.length by omega)]
  have sub : ∀ j, j < 80 → Try.prog.keyLits (d + 1) 155 (((c.map (Value.int .i8)).drop (j * 1)).take 1) = some [Lit.int .i8 (c.getD j 0)] := fun j hj => by
    rw [Nat.mul_one, one j hj]
    refine lits_i8 d _ ?_
    rw [List.getD, List.getElem?_eq_getElem (by omega)]
    exact hc _ (List.getElem_mem _)
  unfold Program.keyLits
  simp only [Try.underlying157, cells_key, cells_i8, c1, List.length_map, hl, if_true]
  rw [mapM_some (f := fun j => [Lit.int .i8 (c.getD j 0)]) (List.range 80) (fun j hj => sub j (by simpa using hj)), Option.map_some, flat1 (fun i => Lit.int .i8 (c.getD i 0)) 80]
  congr 1
  apply List.ext_getElem
  · simp [hl]
  · intro i h1 h2
    simp only [List.length_map, List.length_range] at h1
    simp [List.getD, List.getElem?_eq_getElem (show i < c.length by omega)]
theorem keyN_i8 {S : Nat} (hS : S ≤ 16) {z : List Int} (hz : wordOk S 80 z) : isI8 (keyN z z.length) := fun n hn => by
  obtain ⟨x, _, rfl⟩ := List.mem_map.1 hn
  split
  · rename_i h
    rw [List.getD, List.getElem?_eq_getElem h, Option.getD_some]
    have := (numOk_iff S z[x]).1 (hz.nums _ (List.getElem_mem h))
    omega
  · omega
/-- The key of a word, as the map holds it. -/
def klW (z : List Int) : Lit := .string (keyBytes ((keyN z z.length).map (Lit.int .i8)))
theorem isKey_klW (z : List Int) : WideAt.IsKeyLit (klW z) := trivial
theorem formed_key (c : List Int) (hl : c.length = 80) : (Value.agg (c1 c)).formed Try.prog 157 = true := by
  simp [Value.formed, Try.underlying157, cells_key, c1_size, hl]
theorem key_word {S : Nat} (hS : S ≤ 16) {z : List Int} (hz : wordOk S 80 z) : Go.keyOf Try.prog 157 (.agg (c1 (keyN z z.length))) = some (klW z) := by
  obtain ⟨d, hd⟩ : ∃ d, Try.prog.types.size + 1 = d + 2 := ⟨Try.prog.types.size - 1, by have := types_many; omega⟩
  have hk : Try.prog.keyType 157 = true := by kernel_rfl
  unfold Go.keyOf
  simp only [Try.underlying157]
  rw [hk, formed_key _ (keyN_len z _), hd]
  simp only [Bool.and_self, if_true]
  show (Try.prog.keyLits (d + 2) 157 (c1 (keyN z z.length)).toList).map _ = _
  rw [lits_key d _ (keyN_len z _) (keyN_i8 hS hz)]
  rfl
theorem klW_iff {S : Nat} (hS : S ≤ 16) {z y : List Int} (hz : wordOk S 80 z) (hy : wordOk S 80 y) : klW z = klW y ↔ z = y := by
  constructor
  · intro e
    have h1 := key_word hS hz
    have h2 := key_word hS hy
    rw [e] at h1
    have h3 := keyed_word.inj h1 h2
    exact keyN_inj hz hy (c1_inj (by simpa using h3))
  · intro e; rw [e]

/-- The map of keys, as it lies in memory. -/
def OwnKeys (w : World) (b n : Nat) (D : DataW Unit) : Prop := w.ownsMap Try.prog 157 (plainElem Try.prog 5) b n D
theorem OwnKeys.keep {w w' : World} {b n : Nat} {D : DataW Unit} (h : OwnKeys w b n D) (e : w'.heap[b]? = w.heap[b]?) : OwnKeys w' b n D := by
  obtain ⟨es, clock, hb, r⟩ := h
  exact ⟨es, clock, e.trans hb, r⟩
/-- It tells of each word of the queue where it stands. -/
structure KeyMap (S : Nat) (Q : List (List Int)) (D : DataW Unit) : Prop where
  has : ∀ z, wordOk S 80 z → Maps.has D (klW z) = decide (z ∈ Q)
  at' : ∀ z, wordOk S 80 z → z ∈ Q → D.atKey (klW z) (.lit (.int .u8 0)) = .lit (.int .u8 (Q.idxOf z : Nat))
theorem KeyMap.start (S : Nat) : KeyMap S [] (.map []) := ⟨fun _ _ => by simp [Maps.has], fun _ _ h => by cases h⟩
theorem KeyMap.next {S : Nat} (hS : S ≤ 16) {Q : List (List Int)} {D : DataW Unit} (h : KeyMap S Q D) (hD : IsMap D) {y : List Int} (hy : wordOk S 80 y) (hn : y ∉ Q) : KeyMap S (Q ++ [y]) (D.put (klW y) (.lit (.int .u8 (Q.length : Nat)))) := by
  refine ⟨fun z hz => ?_, fun z hz hm => ?_⟩
  · by_cases e : z = y
    · subst e
      rw [has_put_same hD (isKey_klW z)]
      simp
    · rw [has_put_other (fun e' => e ((klW_iff hS hz hy).1 e')), h.has z hz]
      simp [e]
  · by_cases e : z = y
    · subst e
      rw [atKey_put_same hD (isKey_klW z), List.idxOf_append, if_neg hn]
      simp
    · have hzQ : z ∈ Q := by
        rcases List.mem_append.1 hm with h1 | h1
        · exact h1
        · exact absurd (List.mem_singleton.1 h1) e
      rw [atKey_put_other (fun e' => e ((klW_iff hS hz hy).1 e')), h.at' z hz hzQ, List.idxOf_append, if_pos hzQ]
end Go.Proofs.Ytliohokcjgcmhaa

namespace Go.Proofs.Ytliohokcjgcmhaa
open Go.RowKit

/-- The cells of a search. -/
def sc (M : Mach) (L S : Nat) (qv mv : Value) : Array Value := ((mc M).toList ++ ((nrmP M L S S).map (Value.int .i64) ++ [qv, mv])).toArray
theorem mc_len {M : Mach} (hok : M.Ok) : (mc M).toList.length = 98 := by rw [Array.length_toList, mc_size hok]
theorem sc_size {M : Mach} (hok : M.Ok) (L S : Nat) (qv mv : Value) : (sc M L S qv mv).size = 116 := by
  have := mc_len hok
  simp only [sc, List.size_toArray, List.length_append, List.length_map, nrmP_len, List.length_cons, List.length_nil]
  omega
theorem sc_mach {M : Mach} (hok : M.Ok) (L S : Nat) (qv mv : Value) (o : Nat) (ho : o < 98) : (sc M L S qv mv)[o]? = (mc M)[o]? := by
  have := mc_len hok
  unfold sc
  rw [List.getElem?_toArray, List.getElem?_append_left (by omega), Array.getElem?_toList]
theorem sc_norm {M : Mach} (hok : M.Ok) (L S : Nat) (qv mv : Value) (q : Nat) (hq : q < 16) : (sc M L S qv mv)[98 + q]? = some (.int .i64 ((nrmP M L S S).getD q 0)) := by
  have h1 := mc_len hok
  have h3 := mc_size hok
  have h2 := nrmP_len M L S S
  unfold sc
  rw [List.getElem?_toArray, List.getElem?_append_right (by omega), List.getElem?_append_left (by simp; omega), h1, show 98 + q - 98 = q by omega, List.getElem?_map, List.getElem?_eq_getElem (by omega)]
  simp [List.getD, List.getElem?_eq_getElem (show q < (nrmP M L S S).length by omega)]
theorem sc_queue {M : Mach} (hok : M.Ok) (L S : Nat) (qv mv : Value) : (sc M L S qv mv)[114]? = some qv := by
  have h1 := mc_len hok
  have h3 := mc_size hok
  have h2 := nrmP_len M L S S
  unfold sc
  rw [List.getElem?_toArray, List.getElem?_append_right (by omega), List.getElem?_append_right (by simp; omega), List.length_map, h1, h2]
  rfl
theorem sc_map {M : Mach} (hok : M.Ok) (L S : Nat) (qv mv : Value) : (sc M L S qv mv)[115]? = some mv := by
  have h1 := mc_len hok
  have h3 := mc_size hok
  have h2 := nrmP_len M L S S
  unfold sc
  rw [List.getElem?_toArray, List.getElem?_append_right (by omega), List.getElem?_append_right (by simp; omega), List.length_map, h1, h2]
  rfl
theorem sc_setq {M : Mach} (hok : M.Ok) (L S : Nat) (qv mv : Value) (u : Value) : (sc M L S qv mv).setIfInBounds 114 u = sc M L S u mv := by
  have h1 := mc_len hok
  have h3 := mc_size hok
  have h2 := nrmP_len M L S S
  unfold sc
  rw [List.setIfInBounds_toArray, List.set_append_right _ _ (by omega), List.set_append_right _ _ (by simp; omega), List.length_map, h1, h2]
  rfl
/-- What a search owns. -/
def srFoot (g pm : Nat) (qv : Value) (vs : List Value) (k : Nat) : Prop := k = g ∨ k = pm ∨ inLV qv vs k
/-- A search lies in block g. -/
structure SrAt (w : World) (base g : Nat) (M : Mach) (L S : Nat) (Q : List (List Int)) (qv : Value) (vs : List Value) (pm : Nat) (D : DataW Unit) : Prop where
  blk : Blk w g (sc M L S qv (.map (some pm))) 130
  row : OwnLV w base qv vs Q
  keys : OwnKeys w pm Q.length D
  map : KeyMap S Q D
  ok : ∀ u ∈ Q, wordOk S 80 u
  few : Q.length ≤ 200
  g0 : base ≤ g
  p0 : base ≤ pm
  gp : g ≠ pm
  gq : ¬ inLV qv vs g
  pq : ¬ inLV qv vs pm
section
variable {w w1 : World} {base g : Nat} {M : Mach} {L S : Nat} {Q : List (List Int)} {qv : Value} {vs : List Value} {pm : Nat} {D : DataW Unit}
theorem SrAt.same (h : SrAt w base g M L S Q qv vs pm D) (hs : ∀ k, srFoot g pm qv vs k → w1.heap[k]? = w.heap[k]?) : SrAt w1 base g M L S Q qv vs pm D :=
  ⟨(hs g (.inl rfl)).trans h.blk, h.row.same fun k hk => hs k (.inr (.inr hk)), h.keys.keep (hs pm (.inr (.inl rfl))), h.map, h.ok, h.few, h.g0, h.p0, h.gp, h.gq, h.pq⟩
theorem SrAt.lt (h : SrAt w base g M L S Q qv vs pm D) (k : Nat) (hk : srFoot g pm qv vs k) : base ≤ k ∧ k < w.heap.size := by
  rcases hk with rfl | rfl | hk
  · exact ⟨h.g0, h.blk.lt⟩
  · exact ⟨h.p0, World.ownsMap.lt h.keys⟩
  · exact h.row.lt k hk
theorem SrAt.below (h : SrAt w base g M L S Q qv vs pm D) (hb : Below w.heap.size w w1) : SrAt w1 base g M L S Q qv vs pm D := h.same fun k hk => hb.block k (h.lt k hk).2
theorem SrAt.mat (h : SrAt w base g M L S Q qv vs pm D) (hok : M.Ok) : MAt w g M := ⟨_, _, h.blk, fun o ho => sc_mach hok L S _ _ o ho⟩
theorem SrAt.base_le {b : Nat} (h : SrAt w base g M L S Q qv vs pm D) (hb : b ≤ base) : SrAt w b g M L S Q qv vs pm D :=
  ⟨h.blk, h.row.base_le hb, h.keys, h.map, h.ok, h.few, Nat.le_trans hb h.g0, Nat.le_trans hb h.p0, h.gp, h.gq, h.pq⟩
end
/-- A slice of slices that lies beside the footprint. -/
theorem Keeps.rowL {f f' : Nat → Prop} {w w' : World} (h : Keeps f f' w w') {b : Nat} {v : Value} {vs : List Value} {zss : List (List Int)} (ho : OwnLV w b v vs zss) (hn : ∀ k, inLV v vs k → ¬ f k) : OwnLV w' b v vs zss ∧ ∀ k, inLV v vs k → ¬ f' k :=
  ⟨ho.same fun k hk => (h.2 k (ho.lt k hk).2 (hn k hk)).1, fun k hk => (h.2 k (ho.lt k hk).2 (hn k hk)).2⟩
theorem SrAt.norm {w : World} {base g : Nat} {M : Mach} {L S : Nat} {Q : List (List Int)} {qv : Value} {vs : List Value} {pm : Nat} {D : DataW Unit} (h : SrAt w base g M L S Q qv vs pm D) (hok : M.Ok) : SeesN M L S w g 98 :=
  ⟨_, _, h.blk, fun q hq => sc_norm hok L S _ _ q hq⟩
end Go.Proofs.Ytliohokcjgcmhaa

namespace Go.Proofs.Ytliohokcjgcmhaa
open Go.RowKit
open Go.Maps

theorem ret_ub {a b : Int} {c d : Bool} (h : a = b) (h' : c = d) : Ending.returned (.tuple #[.int .u8 a, .bool c]) = Ending.returned (.tuple #[.int .u8 b, .bool d]) := by rw [h, h']

set_option maxRecDepth 100000 in
set_option maxHeartbeats 4000000 in
theorem place_some (M : Mach) (L S : Nat) (hg : Good M L S) (base g : Nat) (Q : List (List Int)) (qv : Value) (vs : List Value) (pm : Nat) (D : DataW Unit) (v : Value) (z : List Int) (hz : wordOk S 80 z) (w : World)
    (hbase : base ≤ w.heap.size) (hA : SrAt w base g M L S Q qv vs pm D) (hv : SeesI w v z) (Q' : List (List Int)) (hp : pushQ M L S Q z = some Q') :
    Calls Try.prog 159 #[.pointer (some ⟨g, 0, none⟩), v] w fun e w' => e = .returned (.tuple #[.int .u8 (Q'.idxOf (nf M L S z) : Nat), .bool true]) ∧ Below base w w' ∧ ∃ qv' vs' D', SrAt w' base g M L S Q' qv' vs' pm D' ∧ Keeps (srFoot g pm qv vs) (srFoot g pm qv' vs') w w' := by
  obtain ⟨oq, cq, rfl, hqc⟩ := hA.row.view
  clear hqc
  have hok := hg.ok
  have hS16 := hg.S16
  have hy := nf_ok M L S 80 z hz
  have hfew := hA.few
  have hltg := hA.blk.lt
  have HN := Lib.hid (normalWord_calls M L S hg g 98 v z hz.nums (Nat.le_trans hz.2 (by omega)) w (hA.norm hok) hv)
  have HA := Lib.hid hA
  have hzk := zero_key
  have Hz80 : Hid ((c1 (List.replicate 80 0)).size = 80) := Lib.hid (by rw [c1_size, List.length_replicate])
  have Hkey := Lib.hid (key_word hS16 hy)
  have HKO := Lib.hid (fun V W hW => keyOf_calls S hS16 V (nf M L S z) hy W hW)
  have HN2 : Hid (Calls Try.prog 126 #[.pointer (some ⟨g, 98, none⟩), v] w fun e w' => ∃ u, e = .returned u ∧ OwnI w' w.heap.size u (nf M L S z) ∧ Below w.heap.size w w') := HN
  have Hks : Hid ((c1 (keyN (nf M L S z) (nf M L S z).length)).size = 80) := Lib.hid (by rw [c1_size, keyN_len])
  have Hk1 := Lib.hid (c1_one (keyN (nf M L S z) (nf M L S z).length))
  have Hkc := Lib.hid (cut_all (c1 (keyN (nf M L S z) (nf M L S z).length)) 80 Hks.out)
  have Hko := Lib.hid (over_all (c1 (List.replicate 80 0)) (c1 (keyN (nf M L S z) (nf M L S z).length)) (by rw [Hks.out, Hz80.out]))
  have HHas := Lib.hid (hA.map.has _ hy)
  have HAt := Lib.hid (hA.map.at' _ hy)
  have HY := Lib.hid hy
  have HPD : Hid (nf M L S z ∉ Q → Q.length ≠ 200 ∧ Q' = Q ++ [nf M L S z]) := Lib.hid (fun hn => by
    unfold pushQ at hp
    rw [if_neg hn] at hp
    by_cases e : Q.length = 200
    · rw [if_pos e] at hp; cases hp
    · rw [if_neg e] at hp; exact ⟨e, (Option.some.inj hp).symm⟩)
  have HPI : Hid (nf M L S z ∈ Q → Q' = Q) := Lib.hid (fun hn => by
    unfold pushQ at hp
    rw [if_pos hn] at hp
    exact (Option.some.inj hp).symm)
  have Hsz := Lib.hid (sc_size hok L S (.slice oq Q.length cq) (.map (some pm)))
  have Hsq := Lib.hid (sc_queue hok L S (.slice oq Q.length cq) (.map (some pm)))
  have Hsm := Lib.hid (sc_map hok L S (.slice oq Q.length cq) (.map (some pm)))
  have Hst := Lib.hid (sc_setq hok L S (.slice oq Q.length cq) (.map (some pm)))
  have hltp := World.ownsMap.lt hA.keys
  have hgp := hA.gp
  clear HN hz hp hv hA hy
  generalize nf M L S z = y at *
  generalize c1 (List.replicate 80 0) = z80 at *
  generalize hck : c1 (keyN y y.length) = ck at *
  clear hck
  go_enter Try.func159, Try.ntmps159
  go_wp2_with (first | (go_at_call 126; refine HN2.out.mono ?_; rintro e w1 ⟨u1, rfl, hO1, hb1⟩; obtain ⟨o1, c1, rfl, hq1⟩ := hO1.view; clear hq1) | (go_at_call 127; refine (HKO.out _ _ hO1.sees).mono ?_; rintro e w2 ⟨rfl, hb2⟩; have hX : Blk (w2.alloc (.cells z80 157)) w2.heap.size z80 157 := Blk.new _ _ _) | (with_reducible show wpList _ _ _ _ _ _; refine wpList_store_row rfl 157 _ _ rfl w2.heap.size 0 ck rfl rfl _ _ hX (by rw [Hks.out, Hz80.out]; omega) (by rw [Hks.out]; exact size_key) Hk1.out _ Hko.out ?_; intro w3 hs3))
  have hA3 : SrAt w3 base g M L S Q (.slice oq Q.length cq) vs pm D := (((HA.out.below hb1).below hb2).below (w1 := w2.alloc (.cells z80 157)) (by (repeat (first | exact Below.refl _ _ | refine below_drew' ?_ | refine below_drewN' ?_ _ | refine below_alloc' ?_ _ | refine below_set' ?_ (by (try simp); (try omega)) _ | refine below_step ?_ (by assumption))))).same (fun k hk => hs3.other k (by have := (((HA.out.below hb1).below hb2).lt k hk).2; omega))
  have hO3 : OwnI w3 w.heap.size (.slice o1 y.length c1) y := owns_same ((hO1.below hb2).below (w1 := w2.alloc (.cells z80 157)) (by (repeat (first | exact Below.refl _ _ | refine below_drew' ?_ | refine below_drewN' ?_ _ | refine below_alloc' ?_ _ | refine below_set' ?_ (by (try simp); (try omega)) _ | refine below_step ?_ (by assumption))))) (fun k hk => hs3.other k (by have := ((hO1.below hb2).lt k hk); omega))
  have hX3 := hs3.blk
  have hs1 := hb1.size
  have hs2 := hb2.size
  have hs3' := hs3.size
  have hb3 : Below w.heap.size w w3 := hs3.below _ _ (by omega) (below_alloc' (below_step hb1 hb2) _)
  clear hs3 hX hO1 hb1 hb2
  have hS0' : Blk w3 g (sc M L S (.slice oq Q.length cq) (.map (some pm))) 130 ∧ Blk w3 w2.heap.size ck 157 ∧ OwnKeys w3 pm Q.length D := ⟨hA3.blk, hX3, hA3.keys⟩
  obtain ⟨c, hat⟩ := look_some hA3.keys keyed_word Try.underlying128 Try.underlying5 (zero_u8 _) Hkey.out
  have Hat := Lib.hid hat
  clear hat
  go_wp2
  refine wp_region_held_drew (S := fun W => Blk W g (sc M L S (.slice oq Q.length cq) (.map (some pm))) 130 ∧ Blk W w2.heap.size ck 157 ∧ OwnKeys W pm Q.length D) (by kernel_rfl) hS0' (fun hS0 => ?_)
  (refine hK_take 0 (.pointer (some ⟨g, 0, none⟩)) rfl (by kernel_rfl) (by kernel_rfl) (by kernel_rfl) (fun _ _ _ h => h) rfl (fun W _ => by go_simp) hS0 ?_; (intro K hK; go_simp; refine hK _ ?_; clear hK K))
  (refine hK_take 1 (.pointer (some ⟨g, 0, none⟩)) rfl (by kernel_rfl) (by kernel_rfl) (by kernel_rfl) (fun _ _ _ h => h) rfl (fun W _ => by go_simp) hS0 ?_; (intro K hK; go_simp; refine hK _ ?_; clear hK K))
  (refine hK_take 2 (.pointer (some ⟨g, 115, none⟩)) rfl (by kernel_rfl) (by kernel_rfl) (by kernel_rfl) (fun _ _ _ h => h) rfl (fun W _ => by go_simp) hS0 ?_; (intro K hK; go_simp; refine hK _ ?_; clear hK K))
  (refine hK_take 3 (.map (some pm)) rfl (by kernel_rfl) (by kernel_rfl) (by kernel_rfl) (fun _ _ _ h => h) rfl (fun W hW => by have c1 := hW.1.cell 115; rw [Hsm.out] at c1; clear hW; go_simp) hS0 ?_; (intro K hK; go_simp; refine hK _ ?_; clear hK K))
  (refine hK_load 4 rfl (by kernel_rfl) (by kernel_rfl) (by kernel_rfl) 157 _ rfl w2.heap.size 0 rfl ck _ (fun W hW => hW.2.1) 80 (by rw [Hks.out]; omega) _ Try.underlying157 rfl size_key _ Hkc.out (fun _ _ _ h => h) rfl hS0 ?_; (intro K hK; go_simp; refine hK _ ?_; clear hK K))
  by_cases hin : y ∈ Q
  · (refine hK_lookup 5 rfl (by kernel_rfl) (by kernel_rfl) (by kernel_rfl) 128 _ _ rfl 157 5 .u8 keyed_word Try.underlying128 Try.underlying5 zero_u8 pm Q.length D rfl (fun W hW => hW.2.2) _ _ rfl Hkey.out _ (HAt.out hin) true (by rw [HHas.out]; simpa using hin) (fun _ _ _ h => h) rfl hS0 ?_; (intro K hK; go_simp; refine hK _ ?_; clear hK K))
    (refine hK_take 6 (.tuple #[.int .u8 (Q.idxOf y : Nat), .bool true]) rfl (by kernel_rfl) (by kernel_rfl) (by kernel_rfl) (fun _ _ _ h => h) rfl (fun W _ => by go_simp) hS0 ?_; (intro K hK; go_simp; refine hK _ ?_; clear hK K))
    (refine hK_take 7 (.int .u8 (Q.idxOf y : Nat)) rfl (by kernel_rfl) (by kernel_rfl) (by kernel_rfl) (fun _ _ _ h => h) rfl (fun W _ => by go_simp) hS0 ?_; (intro K hK; go_simp; refine hK _ ?_; clear hK K))
    (refine hK_take 8 (.bool true) rfl (by kernel_rfl) (by kernel_rfl) (by kernel_rfl) (fun _ _ _ h => h) rfl (fun W _ => by go_simp) hS0 ?_; (intro K hK; go_simp; refine hK _ ?_; clear hK K))
    (refine hK_take 9 (.int .u8 (Q.idxOf y : Nat)) rfl (by kernel_rfl) (by kernel_rfl) (by kernel_rfl) (fun _ _ _ h => h) rfl (fun W _ => by go_simp) hS0 ?_; (intro K hK; go_simp; refine hK _ ?_; clear hK K))
    (refine hK_take 10 (.bool true) rfl (by kernel_rfl) (by kernel_rfl) (by kernel_rfl) (fun _ _ _ h => h) rfl (fun W _ => by go_simp) hS0 ?_; (intro K hK; go_simp; refine hK _ ?_; clear hK K))
    refine wpAnyH_done (by kernel_rfl) ?_ _
    have HQ' := Lib.hid (HPI.out hin)
    clear hin HPI HPD
    go_wp2
    go_ret2
    exact ⟨ret_ub (by rw [HQ'.out]) rfl, (below_le hb3.drew (by omega)), _, vs, D, by rw [HQ'.out]; exact hA3.below (Below.refl _ _).drew, Keeps.of_below hb3.drew⟩
  · (refine hK_lookup 5 rfl (by kernel_rfl) (by kernel_rfl) (by kernel_rfl) 128 _ _ rfl 157 5 .u8 keyed_word Try.underlying128 Try.underlying5 zero_u8 pm Q.length D rfl (fun W hW => hW.2.2) _ _ rfl Hkey.out c Hat.out false (by rw [HHas.out]; simpa using hin) (fun _ _ _ h => h) rfl hS0 ?_; (intro K hK; go_simp; refine hK _ ?_; clear hK K))
    (refine hK_take 6 (.tuple #[.int .u8 c, .bool false]) rfl (by kernel_rfl) (by kernel_rfl) (by kernel_rfl) (fun _ _ _ h => h) rfl (fun W _ => by go_simp) hS0 ?_; (intro K hK; go_simp; refine hK _ ?_; clear hK K))
    (refine hK_take 7 (.int .u8 c) rfl (by kernel_rfl) (by kernel_rfl) (by kernel_rfl) (fun _ _ _ h => h) rfl (fun W _ => by go_simp) hS0 ?_; (intro K hK; go_simp; refine hK _ ?_; clear hK K))
    (refine hK_take 8 (.bool false) rfl (by kernel_rfl) (by kernel_rfl) (by kernel_rfl) (fun _ _ _ h => h) rfl (fun W _ => by go_simp) hS0 ?_; (intro K hK; go_simp; refine hK _ ?_; clear hK K))
    (refine hK_take 9 (.int .u8 c) rfl (by kernel_rfl) (by kernel_rfl) (by kernel_rfl) (fun _ _ _ h => h) rfl (fun W _ => by go_simp) hS0 ?_; (intro K hK; go_simp; refine hK _ ?_; clear hK K))
    (refine hK_take 10 (.bool false) rfl (by kernel_rfl) (by kernel_rfl) (by kernel_rfl) (fun _ _ _ h => h) rfl (fun W _ => by go_simp) hS0 ?_; (intro K hK; go_simp; refine hK _ ?_; clear hK K))
    refine wpAnyH_done (by kernel_rfl) ?_ _
    obtain ⟨h200, hQ'⟩ := HPD.out hin
    have hqb : ((Q.length : Int) == 200) = false := by simp; omega
    have HQ' := Lib.hid hQ'
    have H200 := Lib.hid h200
    have Hin := Lib.hid hin
    clear hin HPI HPD hQ' h200
    have Hbel : Below w.heap.size w w3.drew := hb3.drew
    have hA4 : SrAt w3.drew base g M L S Q (.slice oq Q.length cq) vs pm D := hA3.below (Below.refl _ _).drew
    have hX4 := hX3.drew
    have hO4 : OwnI w3.drew w.heap.size (.slice o1 y.length c1) y := hO3.below (Below.refl _ _).drew
    have hsz4 : w.heap.size ≤ w3.drew.heap.size := Hbel.size
    have hsz5 : w2.heap.size < w3.drew.heap.size := hX4.lt
    clear hA3 hX3 hO3 hb3 hS0 hS0'
    generalize w3.drew = w4 at *
    have cQ := hA4.blk.cell 114
    rw [Hsq.out] at cQ
    have hw8 : IntKind.u8.wrap (Q.length : Int) = (Q.length : Int) := by simp [IntKind.wrap, IntKind.bits, IntKind.signed]; omega
    go_wp2
    have hS0' : Blk w4.drew g (sc M L S (.slice oq Q.length cq) (.map (some pm))) 130 ∧ Blk w4.drew w2.heap.size ck 157 := ⟨hA4.blk.drew, hX4.drew⟩
    refine wp_region_held_drew (S := fun W => Blk W g (sc M L S (.slice oq Q.length cq) (.map (some pm))) 130 ∧ Blk W w2.heap.size ck 157) (by kernel_rfl) hS0' (fun hS0 => ?_)
    (refine hK_take 0 (.pointer (some ⟨g, 0, none⟩)) rfl (by kernel_rfl) (by kernel_rfl) (by kernel_rfl) (fun _ _ _ h => h) rfl (fun W _ => by go_simp) hS0 ?_; (intro K hK; go_simp; refine hK _ ?_; clear hK K))
    (refine hK_take 1 (.pointer (some ⟨g, 0, none⟩)) rfl (by kernel_rfl) (by kernel_rfl) (by kernel_rfl) (fun _ _ _ h => h) rfl (fun W _ => by go_simp) hS0 ?_; (intro K hK; go_simp; refine hK _ ?_; clear hK K))
    (refine hK_take 2 (.pointer (some ⟨g, 115, none⟩)) rfl (by kernel_rfl) (by kernel_rfl) (by kernel_rfl) (fun _ _ _ h => h) rfl (fun W _ => by go_simp) hS0 ?_; (intro K hK; go_simp; refine hK _ ?_; clear hK K))
    (refine hK_take 3 (.map (some pm)) rfl (by kernel_rfl) (by kernel_rfl) (by kernel_rfl) (fun _ _ _ h => h) rfl (fun W hW => by have c1 := hW.1.cell 115; rw [Hsm.out] at c1; clear hW; go_simp) hS0 ?_; (intro K hK; go_simp; refine hK _ ?_; clear hK K))
    (refine hK_load 4 rfl (by kernel_rfl) (by kernel_rfl) (by kernel_rfl) 157 _ rfl w2.heap.size 0 rfl ck _ (fun W hW => hW.2) 80 (by rw [Hks.out]; omega) _ Try.underlying157 rfl size_key _ Hkc.out (fun _ _ _ h => h) rfl hS0 ?_; (intro K hK; go_simp; refine hK _ ?_; clear hK K))
    (refine hK_take 5 (.int .u8 (Q.length : Int)) rfl (by kernel_rfl) (by kernel_rfl) (by kernel_rfl) (fun _ _ _ h => h) rfl (fun W _ => by go_simp) hS0 ?_; (intro K hK; go_simp; refine hK _ ?_; clear hK K))
    refine hK_mapUpdate 6 rfl (by kernel_rfl) rfl 128 _ _ _ rfl 157 5 keyed_word Try.underlying128 (plainElem Try.prog 5) pm Q.length D rfl (World.ownsMap.drew hA4.keys) (by unfold maxLen; omega) _ _ (klW y) rfl rfl Hkey.out (.lit (.int .u8 (Q.length : Nat))) [] (plainElem_int Try.underlying5 (WalkArith.wf_u8 (by omega))) (fun w5 hM5 hg5 => ⟨⟨(grown_same hg5 g hA4.blk.lt hgp).trans hA4.blk, (grown_same hg5 _ hX4.lt (by omega)).trans hX4⟩, fun hS1 => ?_⟩)
    (intro K hK; go_simp; refine hK _ ?_; clear hK K)
    refine wpAnyH_done (by kernel_rfl) ?_ _
    have hB5 := hS1.1
    have hM5' : OwnKeys w5 pm (Q.length + 1) (D.put (klW y) (.lit (.int .u8 (Q.length : Nat)))) := hM5
    have hR5 : OwnLV w5 base (.slice oq Q.length cq) vs Q := hA4.row.same (fun k hk => grown_same hg5 k (hA4.row.lt k hk).2 (fun e => hA4.pq (e ▸ hk)))
    have hO5 : OwnI w5 base (.slice o1 y.length c1) y := owns_same (hO4.base_le (by omega)) (fun k hk => grown_same hg5 k (hO4.lt k hk) (by have := World.ownsRow.lt hO4 k hk; omega))
    have hKM := hA4.map.next hS16 (World.ownsMap.tidy hA4.keys keyed_word).isMap HY.out Hin.out
    have hbw5 : Below base w w5 := (below_le Hbel.drew (by omega)).grown hg5 (by show base ≤ w4.heap.size; omega) (fun j e => by cases e; exact hA4.p0)
    have hkp5 : Keeps (srFoot g pm (.slice oq Q.length cq) vs) (srFoot g pm (.slice oq Q.length cq) vs) w w5 := (Keeps.of_below Hbel).trans ⟨hg5.size, fun k hk hn => ⟨grown_same hg5 k hk (fun e => hn (.inr (.inl e))), hn⟩⟩
    have hs5 : w4.heap.size ≤ w5.heap.size := hg5.size
    have HKM := Lib.hid hKM
    have HLt := Lib.hid (fun k hk => (World.ownsRow.lt hO4 k hk))
    have HA4 := Lib.hid hA4
    clear hA4 hX4 hO4 hS0 hS0' hS1 hM5 hg5 hKM cQ Hbel
    have cQ := hB5.cell 114
    rw [Hsq.out] at cQ
    have hal : Below w5.heap.size w5 (w5.alloc (.cells #[.slice o1 y.length c1] 26)) := by (repeat (first | exact Below.refl _ _ | refine below_drew' ?_ | refine below_drewN' ?_ _ | refine below_alloc' ?_ _ | refine below_set' ?_ (by (try simp); (try omega)) _ | refine below_step ?_ (by assumption)))
    have hR6 := hR5.below hal
    have hO6 := hO5.below hal
    have hB6 := hB5.keptAll hal
    have hM6 : OwnKeys (w5.alloc (.cells #[.slice o1 y.length c1] 26)) pm (Q.length + 1) (D.put (klW y) (.lit (.int .u8 (Q.length : Nat)))) := hM5'.keep (hal.block _ (World.ownsMap.lt hM5'))
    have hlt6 := hB6.lt
    have hltp6 := World.ownsMap.lt hM6
    have hs6 : (w5.alloc (.cells #[.slice o1 y.length c1] 26)).heap.size = w5.heap.size + 1 := by simp
    have hbw6 := below_allocB hbw5 (by omega) (.cells #[.slice o1 y.length c1] 26)
    have hkp6 := hkp5.trans (Keeps.of_below hal)
    have HN7 : Hid (∀ q, (Value.slice o1 y.length c1).ownBlock = some q → ¬ inLV (.slice oq Q.length cq) vs q) := Lib.hid (fun q h1 h2 => by have q1 := (HLt.out q h1).1; have q2 := (HA.out.row.lt q h2).2; omega)
    clear hR5 hO5 hB5 hM5' hbw5 hkp5 hal
    have hnew := Blk.new w5 #[.slice o1 y.length c1] 26
    go_wp2_with (at_builtin; refine wpList_push_list rfl (.tmp 51) (.tmp 53) rfl base _ vs Q rfl hR6 w5.heap.size 1 (.slice o1 y.length c1) y rfl hnew hO6 HN7.out (by omega) (by omega) ?_; intro v7 w7 hS7 hb7 hsp7 hat7; obtain ⟨o7, c7, e7, hq7⟩ := hS7.view; clear hq7; rw [List.length_append, List.length_singleton] at e7; subst e7; have hB7 : Blk w7 g (sc M L S (.slice oq Q.length cq) (.map (some pm))) 130 := (hsp7 g hlt6 (fun e => HA.out.gq (.inl e.symm))).trans hB6; have cB7 := hB7.cell 114; have fB7 := hB7.free; rw [Hsq.out] at cB7)
    have hM7 : OwnKeys w7 pm (Q.length + 1) (D.put (klW y) (.lit (.int .u8 (Q.length : Nat)))) := hM6.keep (hsp7 pm hltp6 (fun e => HA.out.pq (.inl e.symm)))
    have HF : Hid (∀ k, inLV (.slice o7 (Q.length + 1) c7) (vs ++ [.slice o1 y.length c1]) k → inLV (.slice oq Q.length cq) vs k ∨ w.heap.size ≤ k) := Lib.hid (fun k hk => by
      rcases inLV_push (v := .slice oq Q.length cq) hk with h | h | h
      · rcases hat7 with e | e
        · exact .inl (.inl (e ▸ h))
        · rw [e, hs6] at h
          cases h
          exact .inr (by omega)
      · exact .inl h
      · exact .inr (HLt.out k h).1)
    have hB8 := hB7.set 114 (.slice o7 (Q.length + 1) c7)
    rw [Hst.out (.slice o7 (Q.length + 1) c7)] at hB8
    have hg8 : ∀ k, inLV (.slice o7 (Q.length + 1) c7) (vs ++ [.slice o1 y.length c1]) k → k ≠ g := fun k hk e => by
      rcases HF.out k hk with h | h
      · exact HA.out.gq (e ▸ h)
      · omega
    have hp8 : ¬ inLV (.slice o7 (Q.length + 1) c7) (vs ++ [.slice o1 y.length c1]) pm := fun hk => by
      rcases HF.out pm hk with h | h
      · exact HA.out.pq h
      · omega
    have hA8 : SrAt (w7.setCell ⟨g, 114, none⟩ (.slice o7 (Q.length + 1) c7)) base g M L S (Q ++ [y]) (.slice o7 (Q.length + 1) c7) (vs ++ [.slice o1 y.length c1]) pm (D.put (klW y) (.lit (.int .u8 (Q.length : Nat)))) :=
      ⟨hB8, hS7.same (fun k hk => Below.heap_setCell _ _ _ k (hg8 k hk)), by rw [List.length_append, List.length_singleton]; exact hM7.keep (Below.heap_setCell _ _ _ pm (fun e => hgp e.symm)), HKM.out, fun u hu => by
        rcases List.mem_append.1 hu with h | h
        · exact HA.out.ok u h
        · rw [List.mem_singleton.1 h]; exact HY.out, by have := H200.out; simp; omega, HA.out.g0, HA.out.p0, hgp, fun h => hg8 g h rfl, hp8⟩
    have hk8 : Keeps (srFoot g pm (.slice oq Q.length cq) vs) (srFoot g pm (.slice o7 (Q.length + 1) c7) (vs ++ [.slice o1 y.length c1])) w (w7.setCell ⟨g, 114, none⟩ (.slice o7 (Q.length + 1) c7)) :=
      ⟨Nat.le_trans hkp6.1 (Nat.le_trans hb7.size (Nat.le_of_eq (by simp))), fun k hk hn => ⟨by
        rw [Below.heap_setCell _ _ _ k (fun e => hn (.inl e)), hsp7 k (by omega) (fun e => hn (.inr (.inr (.inl e.symm))))]
        exact (hkp6.2 k hk hn).1, fun h => by
        rcases h with h | h | h
        · exact hn (.inl h)
        · exact hn (.inr (.inl h))
        · rcases HF.out k h with h | h
          · exact hn (.inr (.inr h))
          · omega⟩⟩
    have hbw8 : Below base w (w7.setCell ⟨g, 114, none⟩ (.slice o7 (Q.length + 1) c7)) := (hbw6.trans hb7).setCell HA.out.g0 (.slice o7 (Q.length + 1) c7)
    have hix : Hid (((Q ++ [y]).idxOf y : Nat) = (Q.length : Nat)) := Lib.hid (by rw [List.idxOf_append, if_neg Hin.out]; simp)
    go_ret2
    exact ⟨ret_ub (by rw [HQ'.out, hix.out]) rfl, hbw8, _, _, _, by rw [HQ'.out]; exact hA8, hk8⟩

set_option maxRecDepth 100000 in
set_option maxHeartbeats 4000000 in
theorem place_none (M : Mach) (L S : Nat) (hg : Good M L S) (base g : Nat) (Q : List (List Int)) (qv : Value) (vs : List Value) (pm : Nat) (D : DataW Unit) (v : Value) (z : List Int) (hz : wordOk S 80 z) (w : World)
    (hA : SrAt w base g M L S Q qv vs pm D) (hv : SeesI w v z) (hp : pushQ M L S Q z = none) :
    Calls Try.prog 159 #[.pointer (some ⟨g, 0, none⟩), v] w fun e w' => e = .returned (.tuple #[.int .u8 (0 : Int), .bool false]) ∧ Below w.heap.size w w' := by
  obtain ⟨oq, cq, rfl, hqc⟩ := hA.row.view
  clear hqc
  have hok := hg.ok
  have hS16 := hg.S16
  have hy := nf_ok M L S 80 z hz
  have hfew := hA.few
  have hltg := hA.blk.lt
  have HN := Lib.hid (normalWord_calls M L S hg g 98 v z hz.nums (Nat.le_trans hz.2 (by omega)) w (hA.norm hok) hv)
  have HA := Lib.hid hA
  have hzk := zero_key
  have Hz80 : Hid ((c1 (List.replicate 80 0)).size = 80) := Lib.hid (by rw [c1_size, List.length_replicate])
  have Hkey := Lib.hid (key_word hS16 hy)
  have HKO := Lib.hid (fun V W hW => keyOf_calls S hS16 V (nf M L S z) hy W hW)
  have HN2 : Hid (Calls Try.prog 126 #[.pointer (some ⟨g, 98, none⟩), v] w fun e w' => ∃ u, e = .returned u ∧ OwnI w' w.heap.size u (nf M L S z) ∧ Below w.heap.size w w') := HN
  have Hks : Hid ((c1 (keyN (nf M L S z) (nf M L S z).length)).size = 80) := Lib.hid (by rw [c1_size, keyN_len])
  have Hk1 := Lib.hid (c1_one (keyN (nf M L S z) (nf M L S z).length))
  have Hkc := Lib.hid (cut_all (c1 (keyN (nf M L S z) (nf M L S z).length)) 80 Hks.out)
  have Hko := Lib.hid (over_all (c1 (List.replicate 80 0)) (c1 (keyN (nf M L S z) (nf M L S z).length)) (by rw [Hks.out, Hz80.out]))
  have HHas := Lib.hid (hA.map.has _ hy)
  have HAt := Lib.hid (hA.map.at' _ hy)
  have HY := Lib.hid hy
  have HPD : Hid (nf M L S z ∉ Q ∧ Q.length = 200) := Lib.hid (by
    unfold pushQ at hp
    split at hp
    · cases hp
    · rename_i h
      split at hp
      · exact ⟨h, by assumption⟩
      · cases hp)
  have Hsz := Lib.hid (sc_size hok L S (.slice oq Q.length cq) (.map (some pm)))
  have Hsq := Lib.hid (sc_queue hok L S (.slice oq Q.length cq) (.map (some pm)))
  have Hsm := Lib.hid (sc_map hok L S (.slice oq Q.length cq) (.map (some pm)))
  have Hst := Lib.hid (sc_setq hok L S (.slice oq Q.length cq) (.map (some pm)))
  have hltp := World.ownsMap.lt hA.keys
  have hgp := hA.gp
  clear HN hz hp hv hA hy
  generalize nf M L S z = y at *
  generalize c1 (List.replicate 80 0) = z80 at *
  generalize hck : c1 (keyN y y.length) = ck at *
  clear hck
  go_enter Try.func159, Try.ntmps159
  go_wp2_with (first | (go_at_call 126; refine HN2.out.mono ?_; rintro e w1 ⟨u1, rfl, hO1, hb1⟩; obtain ⟨o1, c1, rfl, hq1⟩ := hO1.view; clear hq1) | (go_at_call 127; refine (HKO.out _ _ hO1.sees).mono ?_; rintro e w2 ⟨rfl, hb2⟩; have hX : Blk (w2.alloc (.cells z80 157)) w2.heap.size z80 157 := Blk.new _ _ _) | (with_reducible show wpList _ _ _ _ _ _; refine wpList_store_row rfl 157 _ _ rfl w2.heap.size 0 ck rfl rfl _ _ hX (by rw [Hks.out, Hz80.out]; omega) (by rw [Hks.out]; exact size_key) Hk1.out _ Hko.out ?_; intro w3 hs3))
  have hA3 : SrAt w3 base g M L S Q (.slice oq Q.length cq) vs pm D := (((HA.out.below hb1).below hb2).below (w1 := w2.alloc (.cells z80 157)) (by (repeat (first | exact Below.refl _ _ | refine below_drew' ?_ | refine below_drewN' ?_ _ | refine below_alloc' ?_ _ | refine below_set' ?_ (by (try simp); (try omega)) _ | refine below_step ?_ (by assumption))))).same (fun k hk => hs3.other k (by have := (((HA.out.below hb1).below hb2).lt k hk).2; omega))
  have hO3 : OwnI w3 w.heap.size (.slice o1 y.length c1) y := owns_same ((hO1.below hb2).below (w1 := w2.alloc (.cells z80 157)) (by (repeat (first | exact Below.refl _ _ | refine below_drew' ?_ | refine below_drewN' ?_ _ | refine below_alloc' ?_ _ | refine below_set' ?_ (by (try simp); (try omega)) _ | refine below_step ?_ (by assumption))))) (fun k hk => hs3.other k (by have := ((hO1.below hb2).lt k hk); omega))
  have hX3 := hs3.blk
  have hs1 := hb1.size
  have hs2 := hb2.size
  have hs3' := hs3.size
  have hb3 : Below w.heap.size w w3 := hs3.below _ _ (by omega) (below_alloc' (below_step hb1 hb2) _)
  clear hs3 hX hO1 hb1 hb2
  have hS0' : Blk w3 g (sc M L S (.slice oq Q.length cq) (.map (some pm))) 130 ∧ Blk w3 w2.heap.size ck 157 ∧ OwnKeys w3 pm Q.length D := ⟨hA3.blk, hX3, hA3.keys⟩
  obtain ⟨c, hat⟩ := look_some hA3.keys keyed_word Try.underlying128 Try.underlying5 (zero_u8 _) Hkey.out
  have Hat := Lib.hid hat
  clear hat
  go_wp2
  refine wp_region_held_drew (S := fun W => Blk W g (sc M L S (.slice oq Q.length cq) (.map (some pm))) 130 ∧ Blk W w2.heap.size ck 157 ∧ OwnKeys W pm Q.length D) (by kernel_rfl) hS0' (fun hS0 => ?_)
  (refine hK_take 0 (.pointer (some ⟨g, 0, none⟩)) rfl (by kernel_rfl) (by kernel_rfl) (by kernel_rfl) (fun _ _ _ h => h) rfl (fun W _ => by go_simp) hS0 ?_; (intro K hK; go_simp; refine hK _ ?_; clear hK K))
  (refine hK_take 1 (.pointer (some ⟨g, 0, none⟩)) rfl (by kernel_rfl) (by kernel_rfl) (by kernel_rfl) (fun _ _ _ h => h) rfl (fun W _ => by go_simp) hS0 ?_; (intro K hK; go_simp; refine hK _ ?_; clear hK K))
  (refine hK_take 2 (.pointer (some ⟨g, 115, none⟩)) rfl (by kernel_rfl) (by kernel_rfl) (by kernel_rfl) (fun _ _ _ h => h) rfl (fun W _ => by go_simp) hS0 ?_; (intro K hK; go_simp; refine hK _ ?_; clear hK K))
  (refine hK_take 3 (.map (some pm)) rfl (by kernel_rfl) (by kernel_rfl) (by kernel_rfl) (fun _ _ _ h => h) rfl (fun W hW => by have c1 := hW.1.cell 115; rw [Hsm.out] at c1; clear hW; go_simp) hS0 ?_; (intro K hK; go_simp; refine hK _ ?_; clear hK K))
  (refine hK_load 4 rfl (by kernel_rfl) (by kernel_rfl) (by kernel_rfl) 157 _ rfl w2.heap.size 0 rfl ck _ (fun W hW => hW.2.1) 80 (by rw [Hks.out]; omega) _ Try.underlying157 rfl size_key _ Hkc.out (fun _ _ _ h => h) rfl hS0 ?_; (intro K hK; go_simp; refine hK _ ?_; clear hK K))
  obtain ⟨hin, h200⟩ := HPD.out
  (refine hK_lookup 5 rfl (by kernel_rfl) (by kernel_rfl) (by kernel_rfl) 128 _ _ rfl 157 5 .u8 keyed_word Try.underlying128 Try.underlying5 zero_u8 pm Q.length D rfl (fun W hW => hW.2.2) _ _ rfl Hkey.out c Hat.out false (by rw [HHas.out]; simpa using hin) (fun _ _ _ h => h) rfl hS0 ?_; (intro K hK; go_simp; refine hK _ ?_; clear hK K))
  (refine hK_take 6 (.tuple #[.int .u8 c, .bool false]) rfl (by kernel_rfl) (by kernel_rfl) (by kernel_rfl) (fun _ _ _ h => h) rfl (fun W _ => by go_simp) hS0 ?_; (intro K hK; go_simp; refine hK _ ?_; clear hK K))
  (refine hK_take 7 (.int .u8 c) rfl (by kernel_rfl) (by kernel_rfl) (by kernel_rfl) (fun _ _ _ h => h) rfl (fun W _ => by go_simp) hS0 ?_; (intro K hK; go_simp; refine hK _ ?_; clear hK K))
  (refine hK_take 8 (.bool false) rfl (by kernel_rfl) (by kernel_rfl) (by kernel_rfl) (fun _ _ _ h => h) rfl (fun W _ => by go_simp) hS0 ?_; (intro K hK; go_simp; refine hK _ ?_; clear hK K))
  (refine hK_take 9 (.int .u8 c) rfl (by kernel_rfl) (by kernel_rfl) (by kernel_rfl) (fun _ _ _ h => h) rfl (fun W _ => by go_simp) hS0 ?_; (intro K hK; go_simp; refine hK _ ?_; clear hK K))
  (refine hK_take 10 (.bool false) rfl (by kernel_rfl) (by kernel_rfl) (by kernel_rfl) (fun _ _ _ h => h) rfl (fun W _ => by go_simp) hS0 ?_; (intro K hK; go_simp; refine hK _ ?_; clear hK K))
  refine wpAnyH_done (by kernel_rfl) ?_ _
  have hqb : ((Q.length : Int) == 200) = true := by rw [h200]; rfl
  have Hbel : Below w.heap.size w w3.drew := hb3.drew
  have cQ := hA3.blk.drew.cell 114
  rw [Hsq.out] at cQ
  clear hin HPD h200 hA3 hX3 hO3 hb3 hS0 hS0'
  generalize w3.drew = w4 at *
  go_wp2
  go_ret2
  exact ⟨rfl, Hbel⟩
end Go.Proofs.Ytliohokcjgcmhaa

namespace Go.Proofs.Ytliohokcjgcmhaa
open Go.RowKit

theorem pushS_append (M : Mach) (L S : Nat) : ∀ (zs ys : List (List Int)) (Q : List (List Int)), pushS M L S Q (zs ++ ys) = match pushS M L S Q zs with | none => none | some Q' => pushS M L S Q' ys
  | [], ys, Q => rfl
  | z :: zs, ys, Q => by
    simp only [List.cons_append, pushS]
    cases pushQ M L S Q z with
    | none => rfl
    | some Q' => exact pushS_append M L S zs ys Q'
theorem pushQ_pre (M : Mach) (L S : Nat) (Q Q' : List (List Int)) (z : List Int) (h : pushQ M L S Q z = some Q') : (∃ t, Q' = Q ++ t) ∧ nf M L S z ∈ Q' := by
  unfold pushQ at h
  split at h
  · cases h; exact ⟨⟨[], by simp⟩, by assumption⟩
  · split at h
    · cases h
    · cases h; exact ⟨⟨_, rfl⟩, by simp⟩
theorem pushS_pre (M : Mach) (L S : Nat) : ∀ (zs : List (List Int)) (Q Q' : List (List Int)), pushS M L S Q zs = some Q' → ∃ t, Q' = Q ++ t
  | [], Q, Q', h => by cases h; exact ⟨[], by simp⟩
  | z :: zs, Q, Q', h => by
    simp only [pushS] at h
    cases hq : pushQ M L S Q z with
    | none => rw [hq] at h; cases h
    | some Q1 =>
      rw [hq] at h
      obtain ⟨⟨t1, rfl⟩, _⟩ := pushQ_pre M L S Q Q1 z hq
      obtain ⟨t2, rfl⟩ := pushS_pre M L S zs _ Q' h
      exact ⟨t1 ++ t2, by rw [List.append_assoc]⟩
/-- The places of the first k words. -/
def plP (M : Mach) (L S : Nat) (Q : List (List Int)) (zss : List (List Int)) (k : Nat) : List Int := (List.range 3).map fun x => if x < k then ((Q.idxOf (nf M L S (zss.getD x [])) : Nat) : Int) else 0
theorem plP_len (M : Mach) (L S : Nat) (Q zss : List (List Int)) (k : Nat) : (plP M L S Q zss k).length = 3 := by simp [plP]
theorem plP_zero (M : Mach) (L S : Nat) (Q zss : List (List Int)) : plP M L S Q zss 0 = zer3 := by simp [plP, zer3, List.map_const']
theorem plP_set (M : Mach) (L S : Nat) (Q zss : List (List Int)) (k : Nat) (hk : k < zss.length) (v : Int) (hv : v = ((Q.idxOf (nf M L S zss[k]) : Nat) : Int)) : (plP M L S Q zss k).set k v = plP M L S Q zss (k + 1) := by
  subst hv
  apply List.ext_getElem
  · simp [plP]
  · intro i h1 h2
    simp only [plP, List.getElem_set, List.getElem_map, List.getElem_range]
    by_cases h : k = i
    · subst h
      rw [if_pos rfl, if_pos (by omega), List.getD, List.getElem?_eq_getElem hk, Option.getD_some]
    · rw [if_neg h]
      by_cases h3 : i < k
      · rw [if_pos h3, if_pos (by omega)]
      · rw [if_neg h3, if_neg (by omega)]
theorem Keeps.set {f f' : Nat → Prop} {a b : World} (h : Keeps f f' a b) {p o : Nat} (hp : a.heap.size ≤ p) (v : Value) : Keeps f f' a (b.setCell ⟨p, o, none⟩ v) :=
  ⟨Nat.le_trans h.1 (Nat.le_of_eq (by simp)), fun k hk hn => ⟨by rw [Below.heap_setCell _ _ _ k (by show k ≠ p; omega)]; exact (h.2 k hk hn).1, (h.2 k hk hn).2⟩⟩
theorem ret_cb {a b : List Int} {c d : Bool} (h : a = b) (h' : c = d) : Ending.returned (.tuple #[.agg (c8 a), .bool c]) = Ending.returned (.tuple #[.agg (c8 b), .bool d]) := by rw [h, h']
/-- What 'placeAll' answers. -/
def PlR (M : Mach) (L S base g : Nat) (qv : Value) (vs : List Value) (pm : Nat) (zss : List (List Int)) (w : World) : Option (List (List Int)) → Ending → World → Prop
  | none, e, w' => ∃ c : List Int, c.length = 3 ∧ e = .returned (.tuple #[.agg (c8 c), .bool false]) ∧ Below base w w'
  | some Q', e, w' => e = .returned (.tuple #[.agg (c8 (plP M L S Q' zss zss.length)), .bool true]) ∧ Below base w w' ∧ ∃ qv' vs' D', SrAt w' base g M L S Q' qv' vs' pm D' ∧ Keeps (srFoot g pm qv vs) (srFoot g pm qv' vs') w w'

set_option maxRecDepth 100000 in
set_option maxHeartbeats 4000000 in
theorem placeAll_calls (M : Mach) (L S : Nat) (hg : Good M L S) (base g : Nat) (Q : List (List Int)) (qv : Value) (vs : List Value) (pm : Nat) (D : DataW Unit) (b2 : Nat) (sv : Value) (us : List Value) (zss : List (List Int)) (h3 : zss.length ≤ 3) (hz : ∀ z ∈ zss, wordOk S 80 z) (w : World)
    (hbase : base ≤ w.heap.size) (hA : SrAt w base g M L S Q qv vs pm D) (hv : OwnLV w b2 sv us zss) (hd : ∀ k, inLV sv us k → ¬ srFoot g pm qv vs k) (R : Option (List (List Int))) (hR : pushS M L S Q zss = R) :
    Calls Try.prog 115 #[.pointer (some ⟨g, 0, none⟩), sv] w (PlR M L S base g qv vs pm zss w R) := by
  have Hz3 : Hid ((c8 zer3).size = 3) := Lib.hid (by rw [c8_size]; rfl)
  have hz3 := zero_b3
  have hB1 : Blk ((w.alloc (.cells (c8 zer3) 22)).alloc (.cells (c8 zer3) 22)) w.heap.size (c8 zer3) 22 := (Blk.new w _ _).alloc _
  have hP1 : Blk ((w.alloc (.cells (c8 zer3) 22)).alloc (.cells (c8 zer3) 22)) (w.heap.size + 1) (c8 zer3) 22 := Blk.new_at _ _ _ _ (by simp)
  have hbb : Below w.heap.size w ((w.alloc (.cells (c8 zer3) 22)).alloc (.cells (c8 zer3) 22)) := by (repeat (first | exact Below.refl _ _ | refine below_drew' ?_ | refine below_drewN' ?_ _ | refine below_alloc' ?_ _ | refine below_set' ?_ (by (try simp); (try omega)) _ | refine below_step ?_ (by assumption)))
  have hA1 := hA.below hbb
  have hk1 : Keeps (srFoot g pm qv vs) (srFoot g pm qv vs) w ((w.alloc (.cells (c8 zer3) 22)).alloc (.cells (c8 zer3) 22)) := Keeps.of_below hbb
  have hf1 : ¬ srFoot g pm qv vs w.heap.size ∧ ¬ srFoot g pm qv vs (w.heap.size + 1) := ⟨fun h => by have := (hA.lt _ h).2; omega, fun h => by have := (hA.lt _ h).2; omega⟩
  obtain ⟨osv, csv, rfl, hcv⟩ := hv.view
  have Hv := Lib.hid hv
  have Hd := Lib.hid hd
  have HZ := Lib.hid hz
  have HR := Lib.hid hR
  have hvl := hv.len
  have Hvl := Lib.hid hvl
  clear hv hd hz hcv hR hA hvl
  go_enter Try.func115, Try.ntmps115
  go_wp2
  clear hz3
  go_loopw [13] (fun i wr => ∃ (k : Nat) (Qk : List (List Int)) (qk : Value) (vk : List Value) (Dk : DataW Unit) (pl : List Int), k ≤ zss.length ∧ i = .int .i64 k ∧ SrAt wr base g M L S Qk qk vk pm Dk ∧ Keeps (srFoot g pm qv vs) (srFoot g pm qk vk) w wr ∧ (¬ srFoot g pm qk vk w.heap.size ∧ ¬ srFoot g pm qk vk (w.heap.size + 1)) ∧ Blk wr w.heap.size (c8 zer3) 22 ∧ Blk wr (w.heap.size + 1) (c8 pl) 22 ∧ Hid (pl.length = 3 ∧ ∀ Q', R = some Q' → pl = plP M L S Q' zss k) ∧ Hid (pushS M L S Q (zss.take k) = some Qk) ∧ Below base w wr) (fun i _ => zss.length - (intOf i).toNat)
  case atStart => exact ⟨0, Q, qv, vs, D, zer3, by omega, rfl, hA1, hk1, hf1, hB1, hP1, Lib.hid ⟨rfl, fun Q' _ => (plP_zero M L S Q' zss).symm⟩, Lib.hid rfl, below_le hbb hbase⟩
  case round =>
    clear hA1 hk1 hf1 hB1 hP1 hbb
    obtain ⟨k, Qk, qk, vk, Dk, pl, hk, rfl, hA, hkp, hft, hB, hP, Hpl, HQ, hbw⟩ := hrel
    by_cases hlt : k < zss.length
    · have hki : (k : Int) < (zss.length : Int) := by omega
      have hk3 : (k : Int) < 3 := by omega
      have hkv : k < us.length := by rw [Hvl.out]; exact hlt
      obtain ⟨hS, hn⟩ := hkp.rowL Hv.out Hd.out
      obtain ⟨osv', csv', e1, hvs⟩ := hS.view
      simp only [Value.slice.injEq] at e1
      obtain ⟨rfl, -, rfl⟩ := e1
      obtain ⟨gs, rfl, hgs, hcs⟩ := hvs (by omega)
      have cS := hcs k hkv
      have hUs := (hS.own k hkv hlt).sees
      have hzk := HZ.out _ (List.getElem_mem hlt)
      have HPn : Hid (pushS M L S Q (zss.take (k + 1)) = pushQ M L S Qk zss[k]) := Lib.hid (by rw [List.take_succ_eq_append_getElem hlt, pushS_snoc, HQ.out])
      have hszw := hkp.1
      have hbr : base ≤ wr.heap.size := by omega
      cases hpq : pushQ M L S Qk zss[k] with
      | none =>
        have HC := Lib.hid (place_none M L S hg base g Qk qk vk pm Dk us[k] zss[k] hzk wr hA hUs hpq)
        have HRn : Hid (R = none) := Lib.hid (by
          rw [← HR.out, ← List.take_append_drop (k + 1) zss]
          exact pushS_none _ _ _ _ _ _ (HPn.out.trans hpq))
        have Hcs : Hid ((c8 pl).size = 3) := Lib.hid (by rw [c8_size, Hpl.out.1])
        have Hcc : Hid (cut (c8 pl) 0 3 = c8 pl) := Lib.hid (cut_all _ _ Hcs.out)
        have Hov : Hid (over (c8 zer3) 0 (c8 pl) = c8 pl) := Lib.hid (over_all _ _ (by rw [Hcs.out, Hz3.out]))
        clear HPn hS hn hcs hvs hUs hpq hA hkp hft
        generalize us[k] = uk at *
        generalize zss[k] = zk at *
        go_wp2_with (first | (go_at_call 159; refine HC.out.mono ?_; rintro e w1 ⟨rfl, hb1⟩; have hP1 := hP.keptAll hb1; have hB1 := hB.keptAll hb1; have hbw1 := below_stepB hbw hbr hb1) | (with_reducible show wpList _ _ _ _ _ _; refine wpList_load_blk rfl 22 (.tmp 6) rfl (w.heap.size + 1) 0 rfl (c8 pl) _ hP1 3 (by rw [Hcs.out]; omega) _ Try.underlying22 rfl size_b3 ?_; rw [Hcc.out]) | (with_reducible show wpList _ _ _ _ _ _; refine wpList_store_row rfl 22 (.tmp 4) (.tmp 26) rfl w.heap.size 0 (c8 pl) rfl rfl _ _ hB1 (by rw [Hz3.out, Hcs.out]; omega) (by rw [Hcs.out]; exact size_b3) (c8_one _) _ Hov.out ?_; intro w8 hs8))
        exact bodyPost_cell1 rfl rfl hs8.blk Try.underlying22 rfl (by rw [Hcs.out]; exact size_b3) rfl (by rw [HRn.out]; exact ⟨pl, Hpl.out.1, rfl, hs8.below _ _ hbase hbw1⟩)
      | some Q2 =>
        have HC := Lib.hid (place_some M L S hg base g Qk qk vk pm Dk us[k] zss[k] hzk wr hbr hA hUs Q2 hpq)
        have HQ2 := Lib.hid (HPn.out.trans hpq)
        have HIx : Hid (∀ Q', R = some Q' → (Q'.idxOf (nf M L S zss[k]) : Nat) = (Q2.idxOf (nf M L S zss[k]) : Nat)) := Lib.hid (fun Q' h => by
          have e := HR.out
          rw [← List.take_append_drop (k + 1) zss, pushS_append, HQ2.out, h] at e
          obtain ⟨t, rfl⟩ := pushS_pre M L S _ _ _ e
          rw [List.idxOf_append, if_pos (pushQ_pre M L S Qk Q2 zss[k] hpq).2])
        have HPs : Hid (∀ Q', R = some Q' → pl.set k ((Q2.idxOf (nf M L S zss[k]) : Nat) : Int) = plP M L S Q' zss (k + 1)) := Lib.hid (fun Q' h => by
          rw [Hpl.out.2 Q' h]
          exact plP_set M L S Q' zss k hlt _ (by rw [HIx.out Q' h]))
        have HI8 : Hid (((Q2.idxOf (nf M L S zss[k]) : Nat) : Int) ≤ 200) := Lib.hid (by
          have h1 := (pushQ_ok M L S 80 Qk Q2 zss[k] hA.ok hzk hA.few hpq).2.1
          have h2 := List.idxOf_le_length (a := nf M L S zss[k]) (l := Q2)
          omega)
        have hold : (c8 pl)[k]? = some (.int .u8 (pl.getD k 0)) := c8_at _ _ (by rw [Hpl.out.1]; omega)
        have Hpl1 := Lib.hid Hpl.out.1
        clear HPn hS hn hcs hvs hUs hpq HIx
        generalize pl.getD k 0 = old at hold
        generalize nf M L S zss[k] = nk at *
        generalize ((Q2.idxOf nk : Nat) : Int) = ix at *
        generalize us[k] = uk at *
        generalize zss[k] = zk at *
        have Hdis := Lib.hid hft
        have hltP := hP.lt
        have hltB := hB.lt
        clear hft
        go_wp2_with (go_at_call 159; refine HC.out.mono ?_; rintro e w1 ⟨rfl, hb1, q1, v1, D1, hA1, hk1⟩; have hP1 : Blk w1 (w.heap.size + 1) (c8 pl) 22 := (hk1.2 _ hltP Hdis.out.2).1.trans hP; have hB1 : Blk w1 w.heap.size (c8 zer3) 22 := (hk1.2 _ hltB Hdis.out.1).1.trans hB; have cP := hP1.cell; have fP := hP1.free)
        have hP2 := hP1.set k (.int .u8 ix)
        rw [← c8_set] at hP2
        have hn1 := (hk1.2 _ hltP Hdis.out.2).2
        have hn0 := (hk1.2 _ hltB Hdis.out.1).2
        have hA2 : SrAt (w1.setCell ⟨w.heap.size + 1, k, none⟩ (.int .u8 ix)) base g M L S Q2 q1 v1 pm D1 := hA1.same (fun q hq => Below.heap_setCell _ _ _ q (fun e => hn1 ((show q = w.heap.size + 1 from e) ▸ hq)))
        have hk2 := (hkp.trans hk1).set (p := w.heap.size + 1) (o := k) (by omega) (.int .u8 ix)
        have hB2 := hB1.setOther (w.heap.size + 1) k (.int .u8 ix) (by omega)
        have hbw2 := (hbw.trans hb1).setCell (p := ⟨w.heap.size + 1, k, none⟩) (show base ≤ w.heap.size + 1 by omega) (.int .u8 ix)
        go_roundw
        case rel => exact ⟨k + 1, Q2, q1, v1, D1, _, by omega, by go_num, hA2, hk2, ⟨hn0, hn1⟩, hB2, hP2, Lib.hid ⟨by rw [List.length_set]; exact Hpl1.out, HPs.out⟩, HQ2, hbw2⟩
        case measure => simp [intOf] <;> omega
    · obtain rfl : k = zss.length := by omega
      have HRs : Hid (R = some Qk) := Lib.hid (by
        have := HQ.out
        rw [List.take_length] at this
        rw [← HR.out, this])
      have Hcs : Hid ((c8 pl).size = 3) := Lib.hid (by rw [c8_size, Hpl.out.1])
      have Hcc : Hid (cut (c8 pl) 0 3 = c8 pl) := Lib.hid (cut_all _ _ Hcs.out)
      have Hov : Hid (over (c8 zer3) 0 (c8 pl) = c8 pl) := Lib.hid (over_all _ _ (by rw [Hcs.out, Hz3.out]))
      have Hpe := Lib.hid (Hpl.out.2 Qk HRs.out)
      have hszw := hkp.1
      go_wp2_with (first | (with_reducible show wpList _ _ _ _ _ _; refine wpList_load_blk rfl 22 (.tmp 6) rfl (w.heap.size + 1) 0 rfl (c8 pl) _ hP 3 (by rw [Hcs.out]; omega) _ Try.underlying22 rfl size_b3 ?_; rw [Hcc.out]) | (with_reducible show wpList _ _ _ _ _ _; refine wpList_store_row rfl 22 (.tmp 4) (.tmp 31) rfl w.heap.size 0 (c8 pl) rfl rfl _ _ hB (by rw [Hz3.out, Hcs.out]; omega) (by rw [Hcs.out]; exact size_b3) (c8_one _) _ Hov.out ?_; intro w8 hs8))
      exact bodyPost_cell1 rfl rfl hs8.blk Try.underlying22 rfl (by rw [Hcs.out]; exact size_b3) rfl (by
        rw [HRs.out]
        exact ⟨ret_cb Hpe.out rfl, hs8.below _ _ hbase hbw, qk, vk, Dk, hA.same (fun q hq => hs8.other q (fun e => hft.1 (e ▸ hq))), ⟨by rw [hs8.size]; exact hszw, fun q hq hn => ⟨(hs8.other q (by omega)).trans (hkp.2 q hq hn).1, (hkp.2 q hq hn).2⟩⟩⟩)
end Go.Proofs.Ytliohokcjgcmhaa

namespace Go.Proofs.Ytliohokcjgcmhaa
open Go.RowKit
open Go.Maps

theorem search_fields : ∃ fields, Try.prog.underlying 130 = some (.struct fields) ∧ fields.toList.mapM (fun f => (Try.prog.info? f.type).map fun i => (f.offset, i.size)) = some [(0, 98), (98, 16), (114, 1), (115, 1)] := ⟨_, Try.underlying130, by kernel_rfl⟩
theorem search_zero : (Try.prog.info? 130).map (fun i => i.zero.map fun z => (z.cells.size, z.cells[114]?)) = some (some (116, some (.slice none 0 0))) := by kernel_rfl
theorem size_search : (Try.prog.info? 130).map (·.size) = some 116 := by kernel_rfl
set_option maxRecDepth 100000 in
theorem built_search (M : Mach) (hok : M.Ok) (L S pm : Nat) : Try.prog.built 130 [(0, .agg (mc M)), (1, .agg (ints (nrmP M L S S))), (3, .map (some pm))] = some (sc M L S (.slice none 0 0) (.map (some pm))) := by
  obtain ⟨fields, hu, hf⟩ := search_fields
  have hz := search_zero
  unfold Program.built
  cases hi : Try.prog.info? 130 with
  | none => rw [hi] at hz; cases hz
  | some it =>
    rw [hi] at hz
    simp only [Option.map_some, Option.some.injEq] at hz
    cases hit : it.zero with
    | none => rw [hit] at hz; cases hz
    | some z =>
      rw [hit] at hz
      simp only [Option.map_some, Option.some.injEq, Prod.mk.injEq] at hz
      obtain ⟨hz1, hz2⟩ := hz
      have hm := mc_size hok
      have hn : (ints (nrmP M L S S)).size = 16 := by rw [ints_size, nrmP_len]
      simp only [hu, hf, hit]
      have s1 : (over z.cells 0 (mc M)).size = 116 := by rw [size_over _ _ _ (by omega), hz1]
      have s2 : (over (over z.cells 0 (mc M)) 98 (ints (nrmP M L S S))).size = 116 := by rw [size_over _ _ _ (by omega), s1]
      rw [fill_part _ _ 0 0 98 (.agg (mc M)) _ (by rfl) hm (by omega), show (Value.agg (mc M)).cells = mc M from rfl,
        fill_part _ _ 1 98 16 (.agg (ints (nrmP M L S S))) _ (by rfl) hn (by omega), show (Value.agg (ints (nrmP M L S S))).cells = ints (nrmP M L S S) from rfl,
        fill_part _ _ 3 115 1 (.map (some pm)) _ (by rfl) rfl (by omega), show (Value.map (some pm)).cells = #[.map (some pm)] from rfl, Instr.fill]
      refine congrArg some ?_
      apply Array.ext_getElem?
      intro i
      rw [over_get _ _ _ (by rw [s2]; simp), over_get _ _ _ (by omega), over_get _ _ _ (by omega)]
      have hc := sc_size hok L S (.slice none 0 0) (.map (some pm))
      by_cases h1 : i < 98
      · rw [if_pos (by omega), if_pos h1, if_neg (by omega), if_pos (by omega), Nat.sub_zero, sc_mach hok L S _ _ i h1]
      · by_cases h2 : i < 114
        · rw [if_pos (by omega), if_neg h1, if_pos (by omega)]
          have := sc_norm hok L S (.slice none 0 0) (.map (some pm)) (i - 98) (by omega)
          rw [show 98 + (i - 98) = i by omega] at this
          rw [this, ints_at _ _ (by rw [nrmP_len]; omega)]
        · by_cases h3 : i = 114
          · subst h3
            rw [if_pos (by omega), if_neg (by omega), if_neg (by omega), if_neg (by omega), if_neg (by omega), hz2, sc_queue hok L S]
          · by_cases h4 : i = 115
            · subst h4
              rw [if_neg (by omega), if_pos (by simp), sc_map hok L S]
              rfl
            · rw [if_neg (by omega), if_neg (by simp; omega), if_neg (by omega), if_neg (by omega), if_neg (by omega), if_neg (by omega), Array.getElem?_eq_none (by omega), Array.getElem?_eq_none (by omega)]
end Go.Proofs.Ytliohokcjgcmhaa

namespace Go.Proofs.Ytliohokcjgcmhaa
open Go.RowKit
open Go.Maps

theorem inLV_nil (k : Nat) : ¬ inLV (.slice none 0 0) [] k := fun h => by
  rcases h with h | ⟨u, hu, _⟩
  · cases h
  · cases hu
theorem pushQ_first (M : Mach) (L S : Nat) (z : List Int) : pushQ M L S [] z = some [nf M L S z] := by simp [pushQ]

set_option maxRecDepth 100000 in
set_option maxHeartbeats 2000000 in
theorem searchWith_calls (M : Mach) (L S : Nat) (hg : Good M L S) (v : Value) (z : List Int) (hz : wordOk S 80 z) (w : World) (hv : SeesI w v z) :
    Calls Try.prog 113 #[.agg (mc M), .agg (ints (nrmP M L S S)), v] w fun e w' => ∃ g, e = .returned (.pointer (some ⟨g, 0, none⟩)) ∧ (∃ qv vs pm D, SrAt w' w.heap.size g M L S [nf M L S z] qv vs pm D) ∧ Below w.heap.size w w' := by
  have hok := hg.ok
  have F1 : Hid (cut (mc M) 0 98 = mc M) := Lib.hid (cut_all _ _ (mc_size hok)); have F2 : Hid (0 + 98 ≤ (mc M).size) := Lib.hid (by rw [mc_size hok]; omega)
  have Hns : Hid ((ints (nrmP M L S S)).size = 16) := Lib.hid (by rw [ints_size, nrmP_len])
  have Hnc : Hid (cut (ints (nrmP M L S S)) 0 16 = ints (nrmP M L S S)) := Lib.hid (cut_all _ _ Hns.out)
  have hmm := @run_makeMap Try.prog
  have hB : Blk ((w.alloc (.cells (mc M) 27)).alloc (.cells (ints (nrmP M L S S)) 92)) w.heap.size (mc M) 27 := (Blk.new w _ _).alloc _
  have hN : Blk ((w.alloc (.cells (mc M) 27)).alloc (.cells (ints (nrmP M L S S)) 92)) (w.heap.size + 1) (ints (nrmP M L S S)) 92 := Blk.new_at _ _ _ _ (by simp)
  have HBS := Lib.hid (built_search M hok L S (w.heap.size + 1 + 1))
  have hb2 : Below w.heap.size w ((((w.alloc (.cells (mc M) 27)).alloc (.cells (ints (nrmP M L S S)) 92)).alloc (.map #[] 0)).alloc (.cells (sc M L S (.slice none 0 0) (.map (some (w.heap.size + 1 + 1)))) 130)) := by (repeat (first | exact Below.refl _ _ | refine below_drew' ?_ | refine below_drewN' ?_ _ | refine below_alloc' ?_ _ | refine below_set' ?_ (by (try simp); (try omega)) _ | refine below_step ?_ (by assumption)))
  have hM1 : OwnKeys ((((w.alloc (.cells (mc M) 27)).alloc (.cells (ints (nrmP M L S S)) 92)).alloc (.map #[] 0)).alloc (.cells (sc M L S (.slice none 0 0) (.map (some (w.heap.size + 1 + 1)))) 130)) (w.heap.size + 1 + 1) 0 (.map []) := by
    have := World.ownsMap_made (H := Unit) ((w.alloc (.cells (mc M) 27)).alloc (.cells (ints (nrmP M L S S)) 92)) Try.prog 157 (plainElem Try.prog 5)
    have h2 := World.ownsMap.alloc this (.cells (sc M L S (.slice none 0 0) (.map (some (w.heap.size + 1 + 1)))) 130)
    simpa [OwnKeys] using h2
  have hA : SrAt ((((w.alloc (.cells (mc M) 27)).alloc (.cells (ints (nrmP M L S S)) 92)).alloc (.map #[] 0)).alloc (.cells (sc M L S (.slice none 0 0) (.map (some (w.heap.size + 1 + 1)))) 130)) w.heap.size (w.heap.size + 1 + 1 + 1) M L S [] (.slice none 0 0) [] (w.heap.size + 1 + 1) (.map []) :=
    ⟨Blk.new_at _ _ _ _ (by simp), OwnLV.nil _ _, hM1, KeyMap.start S, (fun u hu => by cases hu), (by simp), (by omega), (by omega), (by omega), (inLV_nil _), (inLV_nil _)⟩
  have hvW := hv.below hb2
  have HP := Lib.hid (place_some M L S hg w.heap.size (w.heap.size + 1 + 1 + 1) [] (.slice none 0 0) [] (w.heap.size + 1 + 1) (.map []) v z hz ((((w.alloc (.cells (mc M) 27)).alloc (.cells (ints (nrmP M L S S)) 92)).alloc (.map #[] 0)).alloc (.cells (sc M L S (.slice none 0 0) (.map (some (w.heap.size + 1 + 1)))) 130)) (by have := hb2.size; omega) hA hvW _ (pushQ_first M L S z))
  have Hb2 := Lib.hid hb2
  clear hM1 hA hvW hb2 hv
  go_enter Try.func113, Try.ntmps113
  go_wp2_with (first | (with_reducible show wpList _ _ _ _ _ _; refine wpList_load_blk rfl 27 (.tmp 3) rfl w.heap.size 0 rfl (mc M) _ (hB) 98 F2.out _ Try.underlying27 rfl size_mach ?_; rw [F1.out]) | (with_reducible show wpList _ _ _ _ _ _; refine wpList_load_blk rfl 92 (.tmp 4) rfl (w.heap.size + 1) 0 rfl (ints (nrmP M L S S)) _ hN 16 (by rw [Hns.out]; omega) _ Try.underlying92 rfl size_i16 ?_; rw [Hnc.out]) | (with_reducible show wpList _ _ _ _ _ _; refine wpList_build3 rfl 130 0 1 3 _ _ _ rfl (.agg (mc M)) (.agg (ints (nrmP M L S S))) (.map (some (w.heap.size + 1 + 1))) rfl rfl rfl _ HBS.out ?_) | (go_at_call 159; refine HP.out.mono ?_; rintro e w3 ⟨rfl, hb3, q3, v3, D3, hA3, _⟩))
  go_ret
  exact ⟨_, rfl, ⟨q3, v3, _, D3, hA3⟩, Hb2.out.trans hb3⟩

set_option maxRecDepth 100000 in
set_option maxHeartbeats 2000000 in
theorem newSearch_calls (M : Mach) (L S : Nat) (hg : Good M L S) (v : Value) (z : List Int) (hz : wordOk S 80 z) (w : World) (hv : SeesI w v z) :
    Calls Try.prog 54 #[.agg (mc M), v] w fun e w' => ∃ g, e = .returned (.pointer (some ⟨g, 0, none⟩)) ∧ (∃ qv vs pm D, SrAt w' w.heap.size g M L S [nf M L S z] qv vs pm D) ∧ Below w.heap.size w w' := by
  have hok := hg.ok
  have F1 : Hid (cut (mc M) 0 98 = mc M) := Lib.hid (cut_all _ _ (mc_size hok)); have F2 : Hid (0 + 98 ≤ (mc M).size) := Lib.hid (by rw [mc_size hok]; omega)
  have hB : Blk (w.alloc (.cells (mc M) 27)) w.heap.size (mc M) 27 := Blk.new w _ _
  have hvB := hv.below (w1 := w.alloc (.cells (mc M) 27)) (by (repeat (first | exact Below.refl _ _ | refine below_drew' ?_ | refine below_drewN' ?_ _ | refine below_alloc' ?_ _ | refine below_set' ?_ (by (try simp); (try omega)) _ | refine below_step ?_ (by assumption))))
  have hbw0 : Below w.heap.size w (w.alloc (.cells (mc M) 27)) := by (repeat (first | exact Below.refl _ _ | refine below_drew' ?_ | refine below_drewN' ?_ _ | refine below_alloc' ?_ _ | refine below_set' ?_ (by (try simp); (try omega)) _ | refine below_step ?_ (by assumption)))
  clear hv
  go_enter Try.func54, Try.ntmps54
  go_wp2
  have hdr : Below (w.alloc (.cells (mc M) 27)).heap.size (w.alloc (.cells (mc M) 27)) (w.alloc (.cells (mc M) 27)).drew := (Below.refl _ _).drew
  have hvd := hvB.below hdr
  have hbd := below_step hbw0 hdr
  refine wp_region_held_drew (S := fun W => Blk W w.heap.size (mc M) 27) (by kernel_rfl) hB.drew (fun hS0 => ?_)
  (refine hK_load 0 rfl (by kernel_rfl) (by kernel_rfl) (by kernel_rfl) 27 _ rfl (w.heap.size) 0 rfl (mc M) _ (fun W hW => hW) 98 (F2.out) _ Try.underlying27 rfl size_mach _ (F1.out) (fun _ _ _ h => h) rfl hS0 ?_; (intro K hK; go_simp; refine hK _ ?_; clear hK K))
  (refine hK_load 1 rfl (by kernel_rfl) (by kernel_rfl) (by kernel_rfl) 27 _ rfl (w.heap.size) 0 rfl (mc M) _ (fun W hW => hW) 98 (F2.out) _ Try.underlying27 rfl size_mach _ (F1.out) (fun _ _ _ h => h) rfl hS0 ?_; (intro K hK; go_simp; refine hK _ ?_; clear hK K))
  (refine hK_take 3 (v) rfl (by kernel_rfl) (by kernel_rfl) (by kernel_rfl) (fun _ _ _ h => h) rfl (fun W _ => by go_simp) hS0 ?_; (intro K hK; go_simp; refine hK _ ?_; clear hK K))
  (refine wpAnyH_ready (rs := [2]) (by kernel_rfl) (by simp) ?_; refine AllReadyH.cons rfl (fun K hK => ?_) AllReadyH.nil); go_simp; refine (normalNumbers_calls M L S hg _).mono ?_; rintro e w3 ⟨rfl, hb3⟩; have hB3 : Blk w3 _ _ _ := Blk.keptAll hS0 hb3; have hv3 := hvd.below hb3; have hbw3 := below_step hbd hb3
  (go_simp; refine hK.out _ _ (hB3) (fun hS1 => ?_); clear hK K)
  (refine wpAnyH_ready (rs := [4]) (by kernel_rfl) (by simp) ?_; refine AllReadyH.cons rfl (fun K hK => ?_) AllReadyH.nil); go_simp; refine (searchWith_calls M L S hg _ z hz _ hv3).mono ?_; rintro e w4 ⟨g, rfl, ⟨q4, v4, p4, D4, hA4⟩, hb4⟩; have hB4 := hB3.keptAll hb4; have hbw4 := below_step hbw3 hb4
  (go_simp; refine hK.out _ _ (hB4) (fun hS2 => ?_); clear hK K)
  (refine hK_take 5 (.pointer (some ⟨g, 0, none⟩)) rfl (by kernel_rfl) (by kernel_rfl) (by kernel_rfl) (fun _ _ _ h => h) rfl (fun W _ => by go_simp) hS2 ?_; (intro K hK; go_simp; refine hK _ ?_; clear hK K))
  refine wpAnyH_done (by kernel_rfl) ?_ _
  go_wp2
  go_ret
  exact ⟨_, rfl, ⟨q4, v4, p4, D4, hA4.base_le (by have := hbw3.size; omega)⟩, hbw4⟩
end Go.Proofs.Ytliohokcjgcmhaa
