/- The search for trivial words: the program's parts. -/
import Derived.Test.YtkhpfjamkkicoaaOwnN
import Derived.Test.YtkhpfjamkkicoaaSeaS
import Derived.Test.YtkhpfjamkkicoaaMinK
import Derived.Test.YtkhpfjamkkicoaaWrI
namespace Go.Proofs.Ytkhpfjamkkicoaa
open Go.RowKit

set_option maxRecDepth 100000 in
set_option maxHeartbeats 1000000 in
theorem leavesLetters_calls (M : Mach) (L S : Nat) (hg : Good M L S) (zs : List Int) (hz : numsOk S zs = true) (w : World) :
    Calls Try.prog 53 #[.int .i64 L, .agg (c8 (imP M zs 3 L))] w fun e w' => e = .returned (.bool (stays M L zs)) ∧ Below w.heap.size w w' := by
  have hL3 := hg.L3
  have Hg := Lib.hid hg
  have Hnum := Lib.hid hz
  clear hg hz
  have hX : Blk (w.alloc (.cells (c8 (imP M zs 3 L)) 22)) w.heap.size (c8 (imP M zs 3 L)) 22 := Blk.new _ _ _
  have hbw : Below w.heap.size w (w.alloc (.cells (c8 (imP M zs 3 L)) 22)) := by (repeat (first | exact Below.refl _ _ | refine below_drew' ?_ | refine below_drewN' ?_ _ | refine below_alloc' ?_ _ | refine below_set' ?_ (by (try simp); (try omega)) _ | refine below_step ?_ (by assumption)))
  go_enter Try.func53, Try.ntmps53
  go_wp2
  go_loopw [7] (fun i wr => ∃ k : Nat, k ≤ L ∧ i = .int .i64 k ∧ Blk wr w.heap.size (c8 (imP M zs 3 L)) 22 ∧ Hid (∀ x, x < k → (ledG M zs x).1 = x) ∧ Below w.heap.size w wr) (fun i _ => L - (intOf i).toNat)
  case atStart => exact ⟨0, by omega, rfl, hX, Lib.hid (fun x hx => by omega), hbw⟩
  case round =>
    clear hX hbw
    obtain ⟨k, hk, rfl, hX, HE, hbw⟩ := hrel
    by_cases hlt : k < L
    · have hki : (k : Int) < L := by omega
      have hk3 : (k : Int) < 3 := by omega
      obtain ⟨y1, y2, y3⟩ := ledG_all Hg.out zs Hnum.out k hlt
      have e1 := c8_at (imP M zs 3 L) k (by rw [imP_len]; omega)
      rw [imP_at M zs 3 L k hlt (by omega)] at e1
      have HE1 : Hid ((ledG M zs k).1 = k → ∀ x, x < k + 1 → (ledG M zs x).1 = x) := Lib.hid (fun h x hx => by
        by_cases e : x = k
        · subst e; exact h
        · exact HE.out x (by omega))
      have HE2 : Hid ((ledG M zs k).1 ≠ k → stays M L zs = false) := Lib.hid (stays_no k hlt)
      clear y2 y3 HE
      have hw64 : IntKind.i64.wrap ((ledG M zs k).1 : Int) = ((ledG M zs k).1 : Int) := by simp [IntKind.wrap, IntKind.bits, IntKind.signed]; omega
      generalize (ledG M zs k).1 = y at *
      have cX := hX.cell
      by_cases hy : y = k
      · have hyb : ((y : Int) != (k : Int)) = false := by rw [hy]; simp
        have HE3 := Lib.hid (HE1.out hy)
        clear HE1 HE2 hy
        go_wp2
        go_roundw
        case rel => exact ⟨k + 1, by omega, by go_num, hX, HE3, hbw⟩
        case measure => simp [intOf] <;> omega
      · have hyb : ((y : Int) != (k : Int)) = true := by simp; omega
        have Hno := Lib.hid (HE2.out hy)
        clear HE1 HE2 hy
        go_wp2
        go_ret
        exact ⟨ret_bq Hno.out.symm, hbw⟩
    · obtain rfl : k = L := by omega
      have Hyes := Lib.hid (stays_yes HE.out)
      go_wp2
      go_ret
      exact ⟨ret_bq Hyes.out.symm, hbw⟩
end Go.Proofs.Ytkhpfjamkkicoaa

namespace Go.Proofs.Ytkhpfjamkkicoaa
open Go.RowKit

/-- A key: the numbers, and 0 behind the end. -/
def keyN (z : List Int) (k : Nat) : List Int := (List.range 80).map fun x => if x < k then z.getD x 0 else 0
def c1 (c : List Int) : Array Value := (c.map (Value.int .i8)).toArray
theorem c1_size (c : List Int) : (c1 c).size = c.length := by simp [c1]
theorem c1_at (c : List Int) (i : Nat) (hi : i < c.length) : (c1 c)[i]? = some (.int .i8 (c.getD i 0)) := by
  simp [c1, List.getD, List.getElem?_eq_getElem hi]
theorem c1_set (c : List Int) (i : Nat) (v : Int) : c1 (c.set i v) = (c1 c).setIfInBounds i (.int .i8 v) := by
  apply Array.ext'; simp [c1]
theorem c1_one (c : List Int) : (c1 c).all (·.oneCell') = true := by
  rw [Array.all_eq_true_iff_forall_mem]
  intro v hv
  simp only [c1, List.mem_toArray, List.mem_map] at hv
  obtain ⟨z, _, rfl⟩ := hv
  rfl
theorem keyN_len (z : List Int) (k : Nat) : (keyN z k).length = 80 := by simp [keyN]
theorem keyN_zero (z : List Int) : keyN z 0 = List.replicate 80 0 := by simp [keyN, List.map_const']
theorem keyN_set (z : List Int) (k : Nat) : (keyN z k).set k (z.getD k 0) = keyN z (k + 1) := by
  apply List.ext_getElem
  · simp [keyN]
  · intro x h1 h2
    simp only [keyN, List.getElem_set, List.getElem_map, List.getElem_range]
    by_cases e : k = x
    · subst e; simp
    · rw [if_neg e]
      by_cases h : x < k
      · rw [if_pos h, if_pos (by omega)]
      · rw [if_neg h, if_neg (by omega)]
theorem keyN_all (z : List Int) (x : Nat) (hx : x < 80) : (keyN z z.length).getD x 0 = z.getD x 0 := by
  unfold keyN
  rw [List.getD, List.getElem?_map, List.getElem?_range hx]
  simp only [Option.map_some, Option.getD_some]
  by_cases h : x < z.length
  · rw [if_pos h]
  · rw [if_neg h, List.getD, List.getElem?_eq_none (by omega)]; rfl
theorem word_at {S n : Nat} {z : List Int} (h : wordOk S n z) (x : Nat) (hx : x < z.length) : z.getD x 0 ≠ 0 := by
  rw [List.getD, List.getElem?_eq_getElem hx, Option.getD_some]
  exact ((numOk_iff S z[x]).1 (h.nums _ (List.getElem_mem hx))).1
theorem keyN_inj {S : Nat} {z y : List Int} (hz : wordOk S 80 z) (hy : wordOk S 80 y) (h : keyN z z.length = keyN y y.length) : z = y := by
  have hall : ∀ x, x < 80 → z.getD x 0 = y.getD x 0 := fun x hx => by rw [← keyN_all z x hx, ← keyN_all y x hx, h]
  have hz2 := hz.2
  have hy2 := hy.2
  have none0 : ∀ (u : List Int) (x : Nat), u.length ≤ x → u.getD x 0 = 0 := fun u x hx => by rw [List.getD, List.getElem?_eq_none hx]; rfl
  have hl : z.length = y.length := by
    rcases Nat.lt_trichotomy z.length y.length with hlt | he | hlt
    · exact absurd ((hall z.length (by omega)).symm.trans (none0 z _ (Nat.le_refl _))) (word_at hy _ hlt)
    · exact he
    · exact absurd ((hall y.length (by omega)).trans (none0 y _ (Nat.le_refl _))) (word_at hz _ hlt)
  apply List.ext_getElem hl
  intro x h1 h2
  have := hall x (by omega)
  simpa [List.getD, List.getElem?_eq_getElem h1, List.getElem?_eq_getElem h2] using this
theorem c1_inj {a b : List Int} (h : c1 a = c1 b) : a = b := by
  unfold c1 at h
  have h2 : a.map (Value.int .i8) = b.map (Value.int .i8) := by simpa using h
  exact (List.map_inj_right (fun x y e => by injection e)).1 h2
theorem info_key : (Try.prog.info? 104).map (fun i => (i.zero, i.size)) = some (some (.agg (c1 (List.replicate 80 0))), 80) := by kernel_rfl
theorem zero_key : ∀ w, (zeroValue 104).run Try.prog w = .ok (.agg (c1 (List.replicate 80 0))) w := (zero_of_info info_key).1
theorem size_key : (Try.prog.info? 104).map (·.size) = some 80 := (zero_of_info info_key).2

set_option maxRecDepth 100000 in
set_option maxHeartbeats 1000000 in
theorem keyOf_calls (S : Nat) (hS : S ≤ 16) (v : Value) (z : List Int) (hz : wordOk S 80 z) (w : World) (hv : SeesI w v z) :
    Calls Try.prog 73 #[v] w fun e w' => e = .returned (.agg (c1 (keyN z z.length))) ∧ Below w.heap.size w w' := by
  obtain ⟨oa, ca, hve, _⟩ := hv.view
  subst hve
  have hzk := zero_key
  have hl80 := hz.2
  have Hn := Lib.hid hz.nums
  have Hv := Lib.hid hv
  have hR : Blk ((w.alloc (.cells (c1 (List.replicate 80 0)) 104)).alloc (.cells (c1 (List.replicate 80 0)) 104)) w.heap.size (c1 (List.replicate 80 0)) 104 := (Blk.new w _ _).alloc _
  have hK : Blk ((w.alloc (.cells (c1 (List.replicate 80 0)) 104)).alloc (.cells (c1 (List.replicate 80 0)) 104)) (w.heap.size + 1) (c1 (keyN z 0)) 104 := by rw [keyN_zero]; exact Blk.new_at _ _ _ _ (by simp)
  have hbw : Below w.heap.size w ((w.alloc (.cells (c1 (List.replicate 80 0)) 104)).alloc (.cells (c1 (List.replicate 80 0)) 104)) := by (repeat (first | exact Below.refl _ _ | refine below_drew' ?_ | refine below_drewN' ?_ _ | refine below_alloc' ?_ _ | refine below_set' ?_ (by (try simp); (try omega)) _ | refine below_step ?_ (by assumption)))
  clear hv hz
  have Hz80 : Hid ((c1 (List.replicate 80 0)).size = 80) := Lib.hid (by rw [c1_size, List.length_replicate])
  generalize c1 (List.replicate 80 0) = z80 at *
  go_enter Try.func73, Try.ntmps73
  go_wp2
  go_loopw [8] (fun i wr => ∃ k : Nat, k ≤ z.length ∧ i = .int .i64 k ∧ Blk wr w.heap.size z80 104 ∧ Blk wr (w.heap.size + 1) (c1 (keyN z k)) 104 ∧ Below w.heap.size w wr) (fun i _ => z.length - (intOf i).toNat)
  case atStart => exact ⟨0, by omega, rfl, hR, hK, hbw⟩
  case round =>
    clear hR hK hbw
    obtain ⟨k, hk, rfl, hR, hK, hbw⟩ := hrel
    by_cases hlt : k < z.length
    · have hki : (k : Int) < (z.length : Int) := by omega
      have hk80 : (k : Int) < 80 := by omega
      obtain ⟨g, h1, _, cz⟩ := (Hv.out.below hbw).at k hlt
      subst h1
      have hzk2 := (numOk_iff S z[k]).1 (Hn.out _ (List.getElem_mem hlt))
      have hset := keyN_set z k
      rw [show z.getD k 0 = z[k] by simp [List.getD, List.getElem?_eq_getElem hlt]] at hset
      have Hset := Lib.hid hset
      have hold := c1_at (keyN z k) k (by rw [keyN_len]; omega)
      generalize (keyN z k).getD k 0 = old at hold
      clear hset
      generalize z[k] = y at *
      have hw8 : IntKind.i8.wrap y = y := by simp [IntKind.wrap, IntKind.bits, IntKind.signed]; omega
      have cK := hK.cell
      have fK := hK.free
      have hK1 := hK.set k (.int .i8 y)
      rw [← c1_set, Hset.out] at hK1
      have hR1 := hR.setOther (w.heap.size + 1) k (.int .i8 y) (by omega)
      have hbw1 := below_set' (o := k) hbw (b := w.heap.size + 1) (by omega) (.int .i8 y)
      clear hzk2
      go_wp2
      go_roundw
      case rel => exact ⟨k + 1, by omega, by go_num, hR1, hK1, hbw1⟩
      case measure => simp [intOf] <;> omega
    · obtain rfl : k = z.length := by omega
      have Hks : Hid ((c1 (keyN z z.length)).size = 80) := Lib.hid (by rw [c1_size, keyN_len])
      have Hko := Lib.hid (over_all z80 (c1 (keyN z z.length)) (by rw [Hks.out, Hz80.out]))
      have Hkc := Lib.hid (cut_all (c1 (keyN z z.length)) 80 Hks.out)
      have Hk1 := Lib.hid (c1_one (keyN z z.length))
      generalize hck : c1 (keyN z z.length) = ck at *
      have Hck := Lib.hid hck
      clear hck
      go_wp2_with (first | (with_reducible show wpList _ _ _ _ _ _; refine wpList_load_blk rfl 104 (.tmp 3) rfl (w.heap.size + 1) 0 rfl ck _ hK 80 (by rw [Hks.out]; omega) _ Try.underlying104 rfl size_key ?_; rw [Hkc.out]) | (with_reducible show wpList _ _ _ _ _ _; refine wpList_store_row rfl 104 _ _ rfl w.heap.size 0 ck rfl rfl _ _ hR (by rw [Hks.out, Hz80.out]; omega) (by rw [Hks.out]; exact size_key) Hk1.out _ Hko.out ?_; intro w8 hs8))
      exact bodyPost_cell rfl rfl hs8.blk Try.underlying104 rfl (by rw [Hks.out]; exact size_key) rfl ⟨by rw [Hck.out], hs8.below _ _ (by omega) hbw⟩
end Go.Proofs.Ytkhpfjamkkicoaa

namespace Go.Proofs.Ytkhpfjamkkicoaa
open Go.RowKit
open Go.Maps

theorem keyed_word : Keyed Try.prog 104 := Keyed.of_law (deep_law_laid laid (m := 4) (by omega) (of_decide_eq_true (by kernel_rfl)) (by kernel_rfl) (by kernel_rfl))
theorem cells_i8 : Try.prog.cellsOf 102 = 1 := by kernel_rfl
theorem cells_key : Try.prog.cellsOf 104 = 80 := by kernel_rfl
def isI8 (c : List Int) : Prop := ∀ n ∈ c, -128 ≤ n ∧ n ≤ 127
theorem lits_i8 (d : Nat) (n : Int) (h : -128 ≤ n ∧ n ≤ 127) : Try.prog.keyLits (d + 1) 102 [.int .i8 n] = some [.int .i8 n] := by
  simp [Program.keyLits, Try.underlying102, WalkArith.wf_i8 h]
theorem flat1 {β : Type} (h : Nat → β) : ∀ n, ((List.range n).map fun i => [h i]).flatten = (List.range n).map h
  | 0 => rfl
  | n + 1 => by rw [List.range_succ, List.map_append, List.flatten_append, flat1 h n, List.map_append]; rfl
theorem lits_key (d : Nat) (c : List Int) (hl : c.length = 80) (hc : isI8 c) : Try.prog.keyLits (d + 2) 104 (c1 c).toList = some (c.map (Lit.int .i8)) := by
  have one : ∀ i, i < 80 → ((c.map (Value.int .i8)).drop i).take 1 = [Value.int .i8 (c.getD i 0)] := fun i hi => by
    rw [List.drop_eq_getElem_cons (by simp; omega)]
    simp [List.getD, List.getElem?_eq_getElem (show i < c.length by omega)]
  have sub : ∀ j, j < 80 → Try.prog.keyLits (d + 1) 102 (((c.map (Value.int .i8)).drop (j * 1)).take 1) = some [Lit.int .i8 (c.getD j 0)] := fun j hj => by
    rw [Nat.mul_one, one j hj]
    refine lits_i8 d _ ?_
    rw [List.getD, List.getElem?_eq_getElem (by omega)]
    exact hc _ (List.getElem_mem _)
  unfold Program.keyLits
  simp only [Try.underlying104, cells_key, cells_i8, c1, List.length_map, hl, if_true]
  rw [mapM_some (f := fun j => [Lit.int .i8 (c.getD j 0)]) (List.range 80) (fun j hj => sub j (by simpa using hj)), Option.map_some, flat1 (fun i => Lit.int .i8 (c.getD i 0)) 80]
  congr 1
  apply List.ext_getElem
  · simp [hl]
  · intro i h1 h2
    simp only [List.length_map, List.length_range] at h1
    simp [List.getD, List.getElem?_eq_getElem (show i < c.length by omega)]
theorem keyN_i8 {S : Nat} (hS : S ≤ 16) {z : List Int} (hz : wordOk S 80 z) : isI8 (keyN z z.length) := fun n hn => by
  obtain ⟨x, _, rfl⟩ := List.mem_map.1 hn
  split
  · rename_i h
    rw [List.getD, List.getElem?_eq_getElem h, Option.getD_some]
    have := (numOk_iff S z[x]).1 (hz.nums _ (List.getElem_mem h))
    omega
  · omega
/-- The key of a word, as the map holds it. -/
def klW (z : List Int) : Lit := .string (keyBytes ((keyN z z.length).map (Lit.int .i8)))
theorem isKey_klW (z : List Int) : WideAt.IsKeyLit (klW z) := trivial
theorem formed_key (c : List Int) (hl : c.length = 80) : (Value.agg (c1 c)).formed Try.prog 104 = true := by
  simp [Value.formed, Try.underlying104, cells_key, c1_size, hl]
theorem key_word {S : Nat} (hS : S ≤ 16) {z : List Int} (hz : wordOk S 80 z) : Go.keyOf Try.prog 104 (.agg (c1 (keyN z z.length))) = some (klW z) := by
  obtain ⟨d, hd⟩ : ∃ d, Try.prog.types.size + 1 = d + 2 := ⟨Try.prog.types.size - 1, by have := types_many; omega⟩
  have hk : Try.prog.keyType 104 = true := by kernel_rfl
  unfold Go.keyOf
  simp only [Try.underlying104]
  rw [hk, formed_key _ (keyN_len z _), hd]
  simp only [Bool.and_self, if_true]
  show (Try.prog.keyLits (d + 2) 104 (c1 (keyN z z.length)).toList).map _ = _
  rw [lits_key d _ (keyN_len z _) (keyN_i8 hS hz)]
  rfl
theorem klW_iff {S : Nat} (hS : S ≤ 16) {z y : List Int} (hz : wordOk S 80 z) (hy : wordOk S 80 y) : klW z = klW y ↔ z = y := by
  constructor
  · intro e
    have h1 := key_word hS hz
    have h2 := key_word hS hy
    rw [e] at h1
    have h3 := keyed_word.inj h1 h2
    exact keyN_inj hz hy (c1_inj (by simpa using h3))
  · intro e; rw [e]

/-- The map of keys, as it lies in memory. -/
def OwnKeys (w : World) (b n : Nat) (D : DataW Unit) : Prop := w.ownsMap Try.prog 104 (plainElem Try.prog 5) b n D
theorem OwnKeys.keep {w w' : World} {b n : Nat} {D : DataW Unit} (h : OwnKeys w b n D) (e : w'.heap[b]? = w.heap[b]?) : OwnKeys w' b n D := by
  obtain ⟨es, clock, hb, r⟩ := h
  exact ⟨es, clock, e.trans hb, r⟩
/-- It tells of each word of the queue where it stands. -/
structure KeyMap (S : Nat) (Q : List (List Int)) (D : DataW Unit) : Prop where
  has : ∀ z, wordOk S 80 z → Maps.has D (klW z) = decide (z ∈ Q)
  at' : ∀ z, wordOk S 80 z → z ∈ Q → D.atKey (klW z) (.lit (.int .u8 0)) = .lit (.int .u8 (Q.idxOf z : Nat))
theorem KeyMap.start (S : Nat) : KeyMap S [] (.map []) := ⟨fun _ _ => by simp [Maps.has], fun _ _ h => by cases h⟩
theorem KeyMap.next {S : Nat} (hS : S ≤ 16) {Q : List (List Int)} {D : DataW Unit} (h : KeyMap S Q D) (hD : IsMap D) {y : List Int} (hy : wordOk S 80 y) (hn : y ∉ Q) : KeyMap S (Q ++ [y]) (D.put (klW y) (.lit (.int .u8 (Q.length : Nat)))) := by
  refine ⟨fun z hz => ?_, fun z hz hm => ?_⟩
  · by_cases e : z = y
    · subst e
      rw [has_put_same hD (isKey_klW z)]
      simp
    · rw [has_put_other (fun e' => e ((klW_iff hS hz hy).1 e')), h.has z hz]
      simp [e]
  · by_cases e : z = y
    · subst e
      rw [atKey_put_same hD (isKey_klW z), List.idxOf_append, if_neg hn]
      simp
    · have hzQ : z ∈ Q := by
        rcases List.mem_append.1 hm with h1 | h1
        · exact h1
        · exact absurd (List.mem_singleton.1 h1) e
      rw [atKey_put_other (fun e' => e ((klW_iff hS hz hy).1 e')), h.at' z hz hzQ, List.idxOf_append, if_pos hzQ]
end Go.Proofs.Ytkhpfjamkkicoaa

namespace Go.Proofs.Ytkhpfjamkkicoaa
open Go.RowKit

/-- The cells of a search. -/
def sc (M : Mach) (L S : Nat) (qv mv : Value) : Array Value := ((mc M).toList ++ ((nrmP M L S S).map (Value.int .i64) ++ [qv, mv])).toArray
theorem mc_len {M : Mach} (hok : M.Ok) : (mc M).toList.length = 98 := by rw [Array.length_toList, mc_size hok]
theorem sc_size {M : Mach} (hok : M.Ok) (L S : Nat) (qv mv : Value) : (sc M L S qv mv).size = 116 := by
  have := mc_len hok
  simp only [sc, List.size_toArray, List.length_append, List.length_map, nrmP_len, List.length_cons, List.length_nil]
  omega
theorem sc_mach {M : Mach} (hok : M.Ok) (L S : Nat) (qv mv : Value) (o : Nat) (ho : o < 98) : (sc M L S qv mv)[o]? = (mc M)[o]? := by
  have := mc_len hok
  unfold sc
  rw [List.getElem?_toArray, List.getElem?_append_left (by omega), Array.getElem?_toList]
theorem sc_norm {M : Mach} (hok : M.Ok) (L S : Nat) (qv mv : Value) (q : Nat) (hq : q < 16) : (sc M L S qv mv)[98 + q]? = some (.int .i64 ((nrmP M L S S).getD q 0)) := by
  have h1 := mc_len hok
  have h3 := mc_size hok
  have h2 := nrmP_len M L S S
  unfold sc
  rw [List.getElem?_toArray, List.getElem?_append_right (by omega), List.getElem?_append_left (by simp; omega), h1, show 98 + q - 98 = q by omega, List.getElem?_map, List.getElem?_eq_getElem (by omega)]
  simp [List.getD, List.getElem?_eq_getElem (show q < (nrmP M L S S).length by omega)]
theorem sc_queue {M : Mach} (hok : M.Ok) (L S : Nat) (qv mv : Value) : (sc M L S qv mv)[114]? = some qv := by
  have h1 := mc_len hok
  have h3 := mc_size hok
  have h2 := nrmP_len M L S S
  unfold sc
  rw [List.getElem?_toArray, List.getElem?_append_right (by omega), List.getElem?_append_right (by simp; omega), List.length_map, h1, h2]
  rfl
theorem sc_map {M : Mach} (hok : M.Ok) (L S : Nat) (qv mv : Value) : (sc M L S qv mv)[115]? = some mv := by
  have h1 := mc_len hok
  have h3 := mc_size hok
  have h2 := nrmP_len M L S S
  unfold sc
  rw [List.getElem?_toArray, List.getElem?_append_right (by omega), List.getElem?_append_right (by simp; omega), List.length_map, h1, h2]
  rfl
theorem sc_setq {M : Mach} (hok : M.Ok) (L S : Nat) (qv mv : Value) (u : Value) : (sc M L S qv mv).setIfInBounds 114 u = sc M L S u mv := by
  have h1 := mc_len hok
  have h3 := mc_size hok
  have h2 := nrmP_len M L S S
  unfold sc
  rw [List.setIfInBounds_toArray, List.set_append_right _ _ (by omega), List.set_append_right _ _ (by simp; omega), List.length_map, h1, h2]
  rfl
/-- What a search owns. -/
def srFoot (g pm : Nat) (qv : Value) (vs : List Value) (k : Nat) : Prop := k = g ∨ k = pm ∨ inLV qv vs k
/-- A search lies in block g. -/
structure SrAt (w : World) (base g : Nat) (M : Mach) (L S : Nat) (Q : List (List Int)) (qv : Value) (vs : List Value) (pm : Nat) (D : DataW Unit) : Prop where
  blk : Blk w g (sc M L S qv (.map (some pm))) 74
  row : OwnLV w base qv vs Q
  keys : OwnKeys w pm Q.length D
  map : KeyMap S Q D
  ok : ∀ u ∈ Q, wordOk S 80 u
  few : Q.length ≤ 200
  g0 : base ≤ g
  p0 : base ≤ pm
  gp : g ≠ pm
  gq : ¬ inLV qv vs g
  pq : ¬ inLV qv vs pm
section
variable {w w1 : World} {base g : Nat} {M : Mach} {L S : Nat} {Q : List (List Int)} {qv : Value} {vs : List Value} {pm : Nat} {D : DataW Unit}
theorem SrAt.same (h : SrAt w base g M L S Q qv vs pm D) (hs : ∀ k, srFoot g pm qv vs k → w1.heap[k]? = w.heap[k]?) : SrAt w1 base g M L S Q qv vs pm D :=
  ⟨(hs g (.inl rfl)).trans h.blk, h.row.same fun k hk => hs k (.inr (.inr hk)), h.keys.keep (hs pm (.inr (.inl rfl))), h.map, h.ok, h.few, h.g0, h.p0, h.gp, h.gq, h.pq⟩
theorem SrAt.lt (h : SrAt w base g M L S Q qv vs pm D) (k : Nat) (hk : srFoot g pm qv vs k) : base ≤ k ∧ k < w.heap.size := by
  rcases hk with rfl | rfl | hk
  · exact ⟨h.g0, h.blk.lt⟩
  · exact ⟨h.p0, World.ownsMap.lt h.keys⟩
  · exact h.row.lt k hk
theorem SrAt.below (h : SrAt w base g M L S Q qv vs pm D) (hb : Below w.heap.size w w1) : SrAt w1 base g M L S Q qv vs pm D := h.same fun k hk => hb.block k (h.lt k hk).2
theorem SrAt.mat (h : SrAt w base g M L S Q qv vs pm D) (hok : M.Ok) : MAt w g M := ⟨_, _, h.blk, fun o ho => sc_mach hok L S _ _ o ho⟩
theorem SrAt.base_le {b : Nat} (h : SrAt w base g M L S Q qv vs pm D) (hb : b ≤ base) : SrAt w b g M L S Q qv vs pm D :=
  ⟨h.blk, h.row.base_le hb, h.keys, h.map, h.ok, h.few, Nat.le_trans hb h.g0, Nat.le_trans hb h.p0, h.gp, h.gq, h.pq⟩
end
/-- A slice of slices that lies beside the footprint. -/
theorem Keeps.rowL {f f' : Nat → Prop} {w w' : World} (h : Keeps f f' w w') {b : Nat} {v : Value} {vs : List Value} {zss : List (List Int)} (ho : OwnLV w b v vs zss) (hn : ∀ k, inLV v vs k → ¬ f k) : OwnLV w' b v vs zss ∧ ∀ k, inLV v vs k → ¬ f' k :=
  ⟨ho.same fun k hk => (h.2 k (ho.lt k hk).2 (hn k hk)).1, fun k hk => (h.2 k (ho.lt k hk).2 (hn k hk)).2⟩
theorem SrAt.norm {w : World} {base g : Nat} {M : Mach} {L S : Nat} {Q : List (List Int)} {qv : Value} {vs : List Value} {pm : Nat} {D : DataW Unit} (h : SrAt w base g M L S Q qv vs pm D) (hok : M.Ok) : SeesN M L S w g 98 :=
  ⟨_, _, h.blk, fun q hq => sc_norm hok L S _ _ q hq⟩
end Go.Proofs.Ytkhpfjamkkicoaa
