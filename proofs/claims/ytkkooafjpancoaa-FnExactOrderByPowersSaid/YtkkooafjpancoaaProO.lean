/- Queues of pairs of states in memory: keys, the map of places. · '(*pairQueue).place'. · '(*pairQueue).rowOf'. · 'pairRows'. · 'refine': sets of rows, or the search is given up. · 'times'. Written by gen/gentim.py. · 'productOf': factors one behind the other. -/
import Derived.Test.YtkkooafjpancoaaAuP
import Derived.Maps.AppendAt
import Derived.Test.YtkkooafjpancoaaMaI
import Derived.Test.YtkkooafjpancoaaRgM
import Derived.Test.YtkkooafjpancoaaDvO
import Derived.StillTailTactics
import Derived.Test.YtkkooafjpancoaaBhd
import Derived.WalkMore
import Derived.ScopeJumps
import Derived.Test.YtkkooafjpancoaaTvS
namespace Go.Proofs.Ytkkooafjpancoaa
open Go.RowKit
open Go.Maps

theorem keyed_pair : Keyed Try.prog 102 := Keyed.of_law (deep_law_laid laid (m := 4) (by omega) (of_decide_eq_true (by kernel_rfl)) (by kernel_rfl) (by kernel_rfl))
theorem cells_pair : Try.prog.cellsOf 102 = 2 := by kernel_rfl
theorem info_pair : (Try.prog.info? 102).map (fun i => (i.zero, i.size)) = some (some (.agg (c8 [0, 0])), 2) := by kernel_rfl
theorem zero_pair : ∀ w, (zeroValue 102).run Try.prog w = .ok (.agg (c8 [0, 0])) w := (zero_of_info info_pair).1
theorem size_pair : (Try.prog.info? 102).map (·.size) = some 2 := (zero_of_info info_pair).2
theorem infob_pair : (Try.prog.info? 102).map (fun i => (i.zero, i.size, i.bytes)) = some (some (.agg (c8 [0, 0])), 2, 2) := by kernel_rfl
theorem infob_row : (Try.prog.info? 104).map (fun i => (i.zero, i.size, i.bytes)) = some (some (.agg (c8 [0, 0, 0, 0, 0, 0])), 6, 6) := by kernel_rfl
theorem lits_pair (d : Nat) (a b : Int) (ha : 0 ≤ a ∧ a ≤ 255) (hb : 0 ≤ b ∧ b ≤ 255) : Try.prog.keyLits (d + 2) 102 [.int .u8 a, .int .u8 b] = some [.int .u8 a, .int .u8 b] := by
  unfold Program.keyLits
  simp only [Try.underlying102, cells_pair, cells_u8, List.length_cons, List.length_nil, if_true]
  rw [mapM_some (f := fun j => [Lit.int .u8 ([a, b].getD j 0)]) (List.range 2) (fun j hj => by
    have hj3 : j < 2 := by simpa using hj
    rcases (show j = 0 ∨ j = 1 by omega) with rfl | rfl
    · exact lits_u8 d a ha
    · exact lits_u8 d b hb)]
  rfl
/-- The cells of a pair, by its point. -/
def prL (T c : Nat) : List Int := [(c / T : Nat), (c % T : Nat)]
def klP (T c : Nat) : Lit := .string (keyBytes ((prL T c).map (Lit.int .u8)))
theorem isKey_klP (T c : Nat) : WideAt.IsKeyLit (klP T c) := trivial
theorem key_pair {T c : Nat} (h1 : c / T < 256) (h2 : c % T < 256) : keyOf Try.prog 102 (.agg (c8 (prL T c))) = some (klP T c) := by
  obtain ⟨d, hd⟩ : ∃ d, Try.prog.types.size + 1 = d + 2 := ⟨Try.prog.types.size - 1, by have := types_many; omega⟩
  have hk : Try.prog.keyType 102 = true := by kernel_rfl
  have hf : (Value.agg (c8 (prL T c))).formed Try.prog 102 = true := by
    simp [Value.formed, Try.underlying102, cells_pair, c8, prL]
  unfold keyOf
  simp only [Try.underlying102]
  rw [hk, hf, hd]
  simp only [Bool.and_self, if_true]
  show (Try.prog.keyLits (d + 2) 102 [.int .u8 ((c / T : Nat) : Int), .int .u8 ((c % T : Nat) : Int)]).map _ = _
  have b1 : 0 ≤ ((c / T : Nat) : Int) ∧ ((c / T : Nat) : Int) ≤ 255 := ⟨Int.natCast_nonneg _, Int.ofNat_le.2 (Nat.le_of_lt_succ h1)⟩
  have b2 : 0 ≤ ((c % T : Nat) : Int) ∧ ((c % T : Nat) : Int) ≤ 255 := ⟨Int.natCast_nonneg _, Int.ofNat_le.2 (Nat.le_of_lt_succ h2)⟩
  rw [lits_pair d _ _ b1 b2]
  rfl
theorem prL_inj {T c c' : Nat} (h : prL T c = prL T c') : c = c' := by
  simp only [prL, List.cons.injEq, and_true] at h
  have a : c / T = c' / T := Int.ofNat.inj h.1
  have b : c % T = c' % T := Int.ofNat.inj h.2
  rw [← Nat.div_add_mod c T, ← Nat.div_add_mod c' T, a, b]
theorem klP_inj {T c c' : Nat} (h1 : c / T < 256) (h2 : c % T < 256) (h1' : c' / T < 256) (h2' : c' % T < 256) (e : klP T c = klP T c') : c = c' := by
  have a := key_pair h1 h2
  have b := key_pair h1' h2'
  rw [e] at a
  have h3 := keyed_pair.inj a b
  have h4 : c8 (prL T c) = c8 (prL T c') := by simpa using h3
  refine prL_inj (T := T) ?_
  have h5 : (prL T c).map (Value.int .u8) = (prL T c').map (Value.int .u8) := by simpa [c8] using h4
  exact (List.map_inj_right (f := Value.int .u8) (by intro x y hxy; cases hxy; rfl)).1 h5
/-- Points whose pairs are bytes. -/
def PrOk (T N : Nat) : Prop := ∀ c, c < N → c / T < 256 ∧ c % T < 256
theorem prOk {S T : Nat} (hS : S ≤ 16) (hT : T ≤ 16) : PrOk T (S * T) := fun c hc => by
  obtain ⟨h1, h2⟩ := pr_lt hc
  omega
def OwnPr (w : World) (b n : Nat) (D : DataW Unit) : Prop := w.ownsMap Try.prog 102 (plainElem Try.prog 5) b n D
theorem OwnPr.keep {w w' : World} {b n : Nat} {D : DataW Unit} (h : OwnPr w b n D) (e : w'.heap[b]? = w.heap[b]?) : OwnPr w' b n D := by
  obtain ⟨es, clock, hb, r⟩ := h
  exact ⟨es, clock, e.trans hb, r⟩
theorem OwnPr.of {w : World} {b n : Nat} {D : DataW Unit} (h : w.ownsMap Try.prog 102 (plainElem Try.prog 5) b n D) : OwnPr w b n D := h
theorem OwnPr.lt {w : World} {b n : Nat} {D : DataW Unit} (h : OwnPr w b n D) : b < w.heap.size := World.ownsMap.lt h
theorem OwnPr.made (w : World) (n : Nat) (h : n = w.heap.size) : OwnPr (w.alloc (.map #[] 0)) n 0 (.map []) := by
  subst h; exact World.ownsMap_made (H := Unit) w Try.prog 102 (plainElem Try.prog 5)
/-- It tells of each pair of the queue where it stands. -/
structure PMap (T N : Nat) (q : List Nat) (D : DataW Unit) : Prop where
  has : ∀ c, c < N → Maps.has D (klP T c) = decide (bPos eqN q c < q.length)
  at' : ∀ c, c < N → bPos eqN q c < q.length → D.atKey (klP T c) (.lit (.int .u8 0)) = .lit (.int .u8 (bPos eqN q c : Nat))
theorem PMap.start (T N : Nat) : PMap T N [] (.map []) := ⟨fun _ _ => by simp [Maps.has], fun _ _ h => absurd h (by simp)⟩
theorem eqN_app (q : List Nat) (c c' : Nat) (h : c ≠ c') : bPos eqN (q ++ [c]) c' < (q ++ [c]).length ↔ bPos eqN q c' < q.length := by
  rw [bPos_lt, bPos_lt]
  constructor
  · rintro ⟨r, hr, e⟩
    rcases List.mem_append.1 hr with h1 | h1
    · exact ⟨r, h1, e⟩
    · rw [List.mem_singleton.1 h1] at e
      exact absurd (beq_iff_eq.1 e) h
  · rintro ⟨r, hr, e⟩
    exact ⟨r, List.mem_append_left _ hr, e⟩
theorem PMap.next {T N : Nat} (hN : PrOk T N) {q : List Nat} {D : DataW Unit} (h : PMap T N q D) (hD : IsMap D) {c : Nat} (hc : c < N) (hn : ¬ bPos eqN q c < q.length) : PMap T N (q ++ [c]) (D.put (klP T c) (.lit (.int .u8 (q.length : Nat)))) := by
  refine ⟨fun c' hc' => ?_, fun c' hc' hl => ?_⟩
  · by_cases e : c = c'
    · subst e
      rw [has_put_same hD (isKey_klP T c), bPos_new q c (eqN_eq.refl c) hn]
      simp
    · rw [has_put_other (fun e' => e (klP_inj (hN c hc).1 (hN c hc).2 (hN c' hc').1 (hN c' hc').2 e'.symm)), h.has c' hc']
      exact decide_eq_decide.2 (eqN_app q c c' e).symm
  · by_cases e : c = c'
    · subst e
      rw [atKey_put_same hD (isKey_klP T c), bPos_new q c (eqN_eq.refl c) hn]
    · have h1 := (eqN_app q c c' e).1 hl
      rw [atKey_put_other (fun e' => e (klP_inj (hN c hc).1 (hN c hc).2 (hN c' hc').1 (hN c' hc').2 e'.symm)), h.at' c' hc' h1, bPos_app q [c] c' h1]

section
variable {ops : Array Oper} {rest : List Oper} {o : Oper} {a : Act} {w : World} {Q : Exit → Act → World → Prop}
/-- A pair more. -/
theorem wpList_push_pair (hgd : o.guard = none) (s x : Operand) (ho : o.op = .call { callee := .builtin .append, args := #[s, x], argTypes := #[97, 97] })
    (base : Nat) (v : Value) (n : Nat) (fl : List Int) (hs : a.eval s = v) (hown : OwnF 102 2 w base v n fl) (g c : Nat) (x0 x1 : Int) (hx : a.eval x = .slice (some ⟨g, 0, none⟩) 1 c) (hB : Blk w g #[.int .u8 x0, .int .u8 x1] 102)
    (hn : n ≤ 1048576) (hbase : base ≤ w.heap.size)
    (h : ∀ v' w', OwnF 102 2 w' base v' (n + 1) (fl ++ [x0, x1]) → Below base w w' → (∀ k, k < w.heap.size → some k ≠ v.ownBlock → w'.heap[k]? = w.heap[k]?) → (v'.ownBlock = v.ownBlock ∨ v'.ownBlock = some w.heap.size) → wpList Try.prog ops Q rest (a.put o.dst v') w') : wpList Try.prog ops Q (o :: rest) a w := by
  obtain ⟨i0, hi, hz0, hz1, hz2⟩ := info_parts infob_pair
  obtain ⟨hl, hrow⟩ := hown
  refine wpList_append_own_at _ hgd s x 97 ho base 102 i0 (.agg (c8 [0, 0])) 2 2 Try.underlying97 hi hz0 hz1 hz2 rfl (by decide) v n _ hs hrow ⟨g, 0, none⟩ 1 c [.int .u8 x0, .int .u8 x1] hx rfl
    (fun j u' hu' => ?_) (fun u' hu' => ?_) (by unfold maxLen; omega) (by omega) hbase (fun v' w' hown' hg _ hat => h v' w' ⟨by simp [hl]; omega, by simpa using hown'⟩ (below_grown hrow hg hbase) hg.block hat)
  · match j, hu' with
    | 0, hu' => simp at hu'; subst hu'; simpa [Addr.add] using hB.cell 0
    | 1, hu' => simp at hu'; subst hu'; simpa [Addr.add] using hB.cell 1
  · simp at hu'
    rcases hu' with rfl | rfl <;> rfl
theorem wp_push_pair {K : Act → World → Prop} (s x : Operand) (ho : o.op = .call { callee := .builtin .append, args := #[s, x], argTypes := #[97, 97] })
    (base : Nat) (v : Value) (n : Nat) (fl : List Int) (hs : a.eval s = v) (hown : OwnF 102 2 w base v n fl) (g c : Nat) (x0 x1 : Int) (hx : a.eval x = .slice (some ⟨g, 0, none⟩) 1 c) (hB : Blk w g #[.int .u8 x0, .int .u8 x1] 102)
    (hn : n ≤ 1048576) (hbase : base ≤ w.heap.size)
    (h : ∀ v' w', OwnF 102 2 w' base v' (n + 1) (fl ++ [x0, x1]) → Below base w w' → (∀ k, k < w.heap.size → some k ≠ v.ownBlock → w'.heap[k]? = w.heap[k]?) → (v'.ownBlock = v.ownBlock ∨ v'.ownBlock = some w.heap.size) → K (a.put o.dst v') w') : Oper.wp Try.prog o a w K Q := by
  obtain ⟨i0, hi, hz0, hz1, hz2⟩ := info_parts infob_pair
  obtain ⟨hl, hrow⟩ := hown
  obtain ⟨v', w', hr, hown', hg, _, hat⟩ := run_append_own_at (P := Try.prog) w base 97 o.type 102 i0 (.agg (c8 [0, 0])) 2 2 Try.underlying97 hi hz0 hz1 hz2 rfl (by decide) v n _ hrow ⟨g, 0, none⟩ 1 c [.int .u8 x0, .int .u8 x1] rfl
    (fun j u' hu' => by
      match j, hu' with
      | 0, hu' => simp at hu'; subst hu'; simpa [Addr.add] using hB.cell 0
      | 1, hu' => simp at hu'; subst hu'; simpa [Addr.add] using hB.cell 1) (fun u' hu' => by
      simp at hu'
      rcases hu' with rfl | rfl <;> rfl) (by unfold maxLen; omega) (by omega) hbase
  unfold Oper.wp execOp
  simp only [ho, resolve, invoke, builtin, Sem.run_bind, Sem.run_pure, Result.andThen_ok, List.map_toArray, List.map_cons, List.map_nil, hs, hx, hr]
  exact h v' w' ⟨by simp [hl]; omega, by simpa using hown'⟩ (below_grown hrow hg hbase) hg.block hat
/-- A row more. -/
theorem wpList_push_row (hgd : o.guard = none) (s x : Operand) (ho : o.op = .call { callee := .builtin .append, args := #[s, x], argTypes := #[86, 86] })
    (base : Nat) (v : Value) (n : Nat) (fl : List Int) (hs : a.eval s = v) (hown : OwnF 104 6 w base v n fl) (g c : Nat) (x0 x1 x2 x3 x4 x5 : Int) (hx : a.eval x = .slice (some ⟨g, 0, none⟩) 1 c) (hB : Blk w g #[.int .u8 x0, .int .u8 x1, .int .u8 x2, .int .u8 x3, .int .u8 x4, .int .u8 x5] 104)
    (hn : n ≤ 1048576) (hbase : base ≤ w.heap.size)
    (h : ∀ v' w', OwnF 104 6 w' base v' (n + 1) (fl ++ [x0, x1, x2, x3, x4, x5]) → Below base w w' → (∀ k, k < w.heap.size → some k ≠ v.ownBlock → w'.heap[k]? = w.heap[k]?) → (v'.ownBlock = v.ownBlock ∨ v'.ownBlock = some w.heap.size) → wpList Try.prog ops Q rest (a.put o.dst v') w') : wpList Try.prog ops Q (o :: rest) a w := by
  obtain ⟨i0, hi, hz0, hz1, hz2⟩ := info_parts infob_row
  obtain ⟨hl, hrow⟩ := hown
  refine wpList_append_own_at _ hgd s x 86 ho base 104 i0 (.agg (c8 [0, 0, 0, 0, 0, 0])) 6 6 Try.underlying86 hi hz0 hz1 hz2 rfl (by decide) v n _ hs hrow ⟨g, 0, none⟩ 1 c [.int .u8 x0, .int .u8 x1, .int .u8 x2, .int .u8 x3, .int .u8 x4, .int .u8 x5] hx rfl
    (fun j u' hu' => ?_) (fun u' hu' => ?_) (by unfold maxLen; omega) (by omega) hbase (fun v' w' hown' hg _ hat => h v' w' ⟨by simp [hl]; omega, by simpa using hown'⟩ (below_grown hrow hg hbase) hg.block hat)
  · match j, hu' with
    | 0, hu' => simp at hu'; subst hu'; simpa [Addr.add] using hB.cell 0
    | 1, hu' => simp at hu'; subst hu'; simpa [Addr.add] using hB.cell 1
    | 2, hu' => simp at hu'; subst hu'; simpa [Addr.add] using hB.cell 2
    | 3, hu' => simp at hu'; subst hu'; simpa [Addr.add] using hB.cell 3
    | 4, hu' => simp at hu'; subst hu'; simpa [Addr.add] using hB.cell 4
    | 5, hu' => simp at hu'; subst hu'; simpa [Addr.add] using hB.cell 5
  · simp at hu'
    rcases hu' with rfl | rfl | rfl | rfl | rfl | rfl <;> rfl
end

/-! ### The queue in memory -/
/-- The pairs of a queue, one behind the other. -/
def prF (T : Nat) (q : List Nat) : List Int := (q.map (prL T)).flatten
theorem prF_len (T : Nat) : ∀ q, (prF T q).length = 2 * q.length
  | [] => rfl
  | c :: q => by
    have := prF_len T q
    simp only [prF, List.map_cons, List.flatten_cons, List.length_append, List.length_cons] at *
    rw [this]
    simp [prL]; omega
theorem prF_app (T : Nat) (q : List Nat) (c : Nat) : prF T (q ++ [c]) = prF T q ++ prL T c := by simp [prF]
theorem prF_at (T : Nat) : ∀ (q : List Nat) (i : Nat) (hi : i < q.length), (prF T q)[i * 2]? = some ((q[i] / T : Nat) : Int) ∧ (prF T q)[i * 2 + 1]? = some ((q[i] % T : Nat) : Int)
  | c :: q, 0, _ => ⟨rfl, rfl⟩
  | c :: q, i + 1, hi => by
    have h := prF_at T q i (by simpa using hi)
    have e : prF T (c :: q) = ((c / T : Nat) : Int) :: ((c % T : Nat) : Int) :: prF T q := rfl
    rw [e, show (i + 1) * 2 = i * 2 + 1 + 1 by omega, List.getElem?_cons_succ, List.getElem?_cons_succ, show i * 2 + 1 + 1 + 1 = (i * 2 + 1) + 1 + 1 by omega, List.getElem?_cons_succ, List.getElem?_cons_succ]
    simpa using h
/-- The cells of a queue. -/
def pqC (bm bk : Nat) (qv mv : Value) : Array Value := #[.pointer (some ⟨bm, 0, none⟩), .pointer (some ⟨bk, 0, none⟩), qv, mv]
theorem pqC_set (bm bk : Nat) (qv mv u : Value) : (pqC bm bk qv mv).setIfInBounds 2 u = pqC bm bk u mv := rfl
/-- What a queue owns. -/
def pqFoot (g pm : Nat) (qv : Value) (k : Nat) : Prop := k = g ∨ k = pm ∨ qv.ownBlock = some k
/-- A queue lies in block g. -/
structure PqAt (w : World) (base g bm bk T N : Nat) (q : List Nat) (qv : Value) (pm : Nat) (D : DataW Unit) : Prop where
  blk : Blk w g (pqC bm bk qv (.map (some pm))) 99
  row : OwnF 102 2 w base qv q.length (prF T q)
  keys : OwnPr w pm q.length D
  map : PMap T N q D
  lt : ∀ c ∈ q, c < N
  new : BNew eqN q
  g0 : base ≤ g
  p0 : base ≤ pm
  gp : g ≠ pm
  gq : qv.ownBlock ≠ some g
  pq : qv.ownBlock ≠ some pm
section
variable {w w1 : World} {base g bm bk T N : Nat} {q : List Nat} {qv : Value} {pm : Nat} {D : DataW Unit}
theorem PqAt.same (h : PqAt w base g bm bk T N q qv pm D) (hs : ∀ k, pqFoot g pm qv k → w1.heap[k]? = w.heap[k]?) : PqAt w1 base g bm bk T N q qv pm D :=
  ⟨(hs g (.inl rfl)).trans h.blk, h.row.same fun k hk => hs k (.inr (.inr hk)), h.keys.keep (hs pm (.inr (.inl rfl))), h.map, h.lt, h.new, h.g0, h.p0, h.gp, h.gq, h.pq⟩
theorem PqAt.ltt (h : PqAt w base g bm bk T N q qv pm D) (k : Nat) (hk : pqFoot g pm qv k) : base ≤ k ∧ k < w.heap.size := by
  rcases hk with rfl | rfl | hk
  · exact ⟨h.g0, h.blk.lt⟩
  · exact ⟨h.p0, h.keys.lt⟩
  · exact h.row.ltt k hk
theorem PqAt.below (h : PqAt w base g bm bk T N q qv pm D) (hb : Below w.heap.size w w1) : PqAt w1 base g bm bk T N q qv pm D := h.same fun k hk => hb.block k (h.ltt k hk).2
theorem PqAt.few (h : PqAt w base g bm bk T N q qv pm D) : q.length ≤ N := few_points eqN_eq.refl h.new h.lt
end
end Go.Proofs.Ytkkooafjpancoaa

namespace Go.Proofs.Ytkkooafjpancoaa
open Go.RowKit
open Go.Maps

theorem ret_u8 {a b : Int} (h : a = b) : Ending.returned (.int .u8 a) = .returned (.int .u8 b) := by rw [h]

set_option maxRecDepth 100000 in
set_option maxHeartbeats 4000000 in
theorem place_calls (base g bm bk T N : Nat) (q : List Nat) (qv : Value) (pm : Nat) (D : DataW Unit) (hN : N ≤ 256) (hpr : PrOk T N) (c : Nat) (hc : c < N) (w : World) (hbase : base ≤ w.heap.size) (hA : PqAt w base g bm bk T N q qv pm D) :
    Calls Try.prog 81 #[.pointer (some ⟨g, 0, none⟩), .agg #[.int .u8 (c / T : Nat), .int .u8 (c % T : Nat)]] w fun e w' => e = .returned (.int .u8 (bPos eqN (bPut eqN q c) c : Nat)) ∧ Below base w w' ∧
      ∃ qv' D', PqAt w' base g bm bk T N (bPut eqN q c) qv' pm D' ∧ Keeps (pqFoot g pm qv) (pqFoot g pm qv') w w' := by
  obtain ⟨oq, cq, rfl, hqc⟩ := hA.row.view
  clear hqc
  have hfew := hA.few
  have Hkey : Hid (keyOf Try.prog 102 (.agg #[.int .u8 (c / T : Nat), .int .u8 (c % T : Nat)]) = some (klP T c)) := Lib.hid (key_pair (hpr c hc).1 (hpr c hc).2)
  have Hhas := Lib.hid (hA.map.has c hc)
  have HA := Lib.hid hA
  have HP := Lib.hid hpr
  have hX1 : Blk (w.alloc (.cells #[.int .u8 (c / T : Nat), .int .u8 (c % T : Nat)] 102)) w.heap.size #[.int .u8 (c / T : Nat), .int .u8 (c % T : Nat)] 102 := Blk.new _ _ _
  have hA1 : PqAt (w.alloc (.cells #[.int .u8 (c / T : Nat), .int .u8 (c % T : Nat)] 102)) base g bm bk T N q (.slice oq q.length cq) pm D := hA.below (by (repeat (first | exact Below.refl _ _ | refine below_drew' ?_ | refine below_drewN' ?_ _ | refine below_alloc' ?_ _ | refine below_set' ?_ (by (try simp); (try omega)) _ | refine below_step ?_ (by assumption))))
  have hb1 : Below w.heap.size w (w.alloc (.cells #[.int .u8 (c / T : Nat), .int .u8 (c % T : Nat)] 102)) := by (repeat (first | exact Below.refl _ _ | refine below_drew' ?_ | refine below_drewN' ?_ _ | refine below_alloc' ?_ _ | refine below_set' ?_ (by (try simp); (try omega)) _ | refine below_step ?_ (by assumption)))
  have HprL : Hid (prL T c = [((c / T : Nat) : Int), ((c % T : Nat) : Int)]) := Lib.hid rfl
  have hltg := hA.blk.lt
  generalize (c / T : Nat) = ca at *
  generalize (c % T : Nat) = cb at *
  clear hA hpr
  go_enter Try.func81, Try.ntmps81
  go_wp2
  generalize hw1 : w.alloc (.cells #[.int .u8 (ca : Int), .int .u8 (cb : Int)] 102) = w1 at *
  have hsz1 : w.heap.size < w1.heap.size := hX1.lt
  have Hb1 := Lib.hid hb1
  clear hw1 hb1
  have hX := hX1.drew
  have hA2 : PqAt w1.drew base g bm bk T N q (.slice oq q.length cq) pm D := hA1.below (Below.refl _ _).drew
  have hb2 : Below w.heap.size w w1.drew := Hb1.out.drew
  have hs2 : w.heap.size < w1.drew.heap.size := hsz1
  clear hX1 hA1
  have hcut : cut #[Value.int .u8 (ca : Int), .int .u8 (cb : Int)] 0 2 = #[.int .u8 (ca : Int), .int .u8 (cb : Int)] := rfl
  have Hcut := Lib.hid hcut
  clear hcut
  have hS0' : Blk w1.drew g (pqC bm bk (.slice oq q.length cq) (.map (some pm))) 99 ∧ Blk w1.drew w.heap.size #[.int .u8 (ca : Int), .int .u8 (cb : Int)] 102 ∧ OwnPr w1.drew pm q.length D := ⟨hA2.blk, hX, hA2.keys⟩
  obtain ⟨cN, hat⟩ := look_some hA2.keys keyed_pair Try.underlying96 Try.underlying5 (zero_u8 _) Hkey.out
  have Hat := Lib.hid hat
  clear hat
  refine wp_region_held_drew (S := fun W => Blk W g (pqC bm bk (.slice oq q.length cq) (.map (some pm))) 99 ∧ Blk W w.heap.size #[.int .u8 (ca : Int), .int .u8 (cb : Int)] 102 ∧ OwnPr W pm q.length D) (by kernel_rfl) hS0' (fun hS0 => ?_)
  generalize w1.drew = wd at *
  (refine hK_take 0 (.pointer (some ⟨g, 0, none⟩)) rfl (by kernel_rfl) (by kernel_rfl) (by kernel_rfl) (fun _ _ _ h => h) rfl (fun W _ => by go_simp) hS0 ?_; (intro K hK; go_simp; refine hK _ ?_; clear hK K))
  (refine hK_take 1 (.pointer (some ⟨g, 0, none⟩)) rfl (by kernel_rfl) (by kernel_rfl) (by kernel_rfl) (fun _ _ _ h => h) rfl (fun W _ => by go_simp) hS0 ?_; (intro K hK; go_simp; refine hK _ ?_; clear hK K))
  (refine hK_take 2 (.pointer (some ⟨g, 3, none⟩)) rfl (by kernel_rfl) (by kernel_rfl) (by kernel_rfl) (fun _ _ _ h => h) rfl (fun W _ => by go_simp) hS0 ?_; (intro K hK; go_simp; refine hK _ ?_; clear hK K))
  (refine hK_take 3 (.map (some pm)) rfl (by kernel_rfl) (by kernel_rfl) (by kernel_rfl) (fun _ _ _ h => h) rfl (fun W hW => by have c1 : W.cell? ⟨g, 3, none⟩ = some (.map (some pm)) := hW.1.cell 3; clear hW; go_simp) hS0 ?_; (intro K hK; go_simp; refine hK _ ?_; clear hK K))
  (refine hK_load 4 rfl (by kernel_rfl) (by kernel_rfl) (by kernel_rfl) 102 _ rfl w.heap.size 0 rfl _ _ (fun W hW => hW.2.1) 2 (Nat.le_refl 2) _ Try.underlying102 rfl size_pair _ Hcut.out (fun _ _ _ h => h) rfl hS0 ?_; (intro K hK; go_simp; refine hK _ ?_; clear hK K))
  cases hin : decide (bPos eqN q c < q.length)
  · have hin' : ¬ bPos eqN q c < q.length := of_decide_eq_false hin
    (refine hK_lookup 5 rfl (by kernel_rfl) (by kernel_rfl) (by kernel_rfl) 96 _ _ rfl 102 5 .u8 keyed_pair Try.underlying96 Try.underlying5 zero_u8 pm q.length D rfl (fun W hW => hW.2.2) _ _ rfl Hkey.out cN Hat.out false (by rw [Hhas.out, hin]) (fun _ _ _ h => h) rfl hS0 ?_; (intro K hK; go_simp; refine hK _ ?_; clear hK K))
    (refine hK_take 6 (.tuple #[.int .u8 cN, .bool false]) rfl (by kernel_rfl) (by kernel_rfl) (by kernel_rfl) (fun _ _ _ h => h) rfl (fun W _ => by go_simp) hS0 ?_; (intro K hK; go_simp; refine hK _ ?_; clear hK K))
    (refine hK_take 7 (.int .u8 cN) rfl (by kernel_rfl) (by kernel_rfl) (by kernel_rfl) (fun _ _ _ h => h) rfl (fun W _ => by go_simp) hS0 ?_; (intro K hK; go_simp; refine hK _ ?_; clear hK K))
    (refine hK_take 8 (.bool false) rfl (by kernel_rfl) (by kernel_rfl) (by kernel_rfl) (fun _ _ _ h => h) rfl (fun W _ => by go_simp) hS0 ?_; (intro K hK; go_simp; refine hK _ ?_; clear hK K))
    (refine hK_take 9 (.int .u8 cN) rfl (by kernel_rfl) (by kernel_rfl) (by kernel_rfl) (fun _ _ _ h => h) rfl (fun W _ => by go_simp) hS0 ?_; (intro K hK; go_simp; refine hK _ ?_; clear hK K))
    (refine hK_take 10 (.bool false) rfl (by kernel_rfl) (by kernel_rfl) (by kernel_rfl) (fun _ _ _ h => h) rfl (fun W _ => by go_simp) hS0 ?_; (intro K hK; go_simp; refine hK _ ?_; clear hK K))
    refine wpAnyH_done (by kernel_rfl) ?_ _
    have HCM := Lib.hid (HA.out.map.next HP.out (World.ownsMap.tidy hA2.keys keyed_pair).isMap hc hin')
    have Hq' := Lib.hid (bPut_new hin')
    have Hpn := Lib.hid (bPos_new q c (eqN_eq.refl c) hin')
    have hnew : BNew eqN (q ++ [c]) := by
      have := HA.out.new.put eqN_eq c
      rwa [bPut_new hin'] at this
    have hltN : ∀ c' ∈ q ++ [c], c' < N := fun c' h' => by
      rcases List.mem_append.1 h' with h1 | h1
      · exact HA.out.lt c' h1
      · rw [List.mem_singleton.1 h1]; exact hc
    have hq1 : q.length + 1 ≤ N := by
      have := few_points eqN_eq.refl hnew hltN
      simpa using this
    have Hnew := Lib.hid hnew
    have HltN := Lib.hid hltN
    clear hin hin' hnew hltN hS0 hS0'
    have cQ : wd.cell? ⟨g, 2, none⟩ = some (.slice oq q.length cq) := hA2.blk.cell 2
    have hw8 : IntKind.u8.wrap (q.length : Int) = (q.length : Int) := by simp [IntKind.wrap, IntKind.bits, IntKind.signed]; omega
    have hgp := HA.out.gp
    go_wp2
    have hS0' : Blk wd.drew g (pqC bm bk (.slice oq q.length cq) (.map (some pm))) 99 ∧ Blk wd.drew w.heap.size #[.int .u8 (ca : Int), .int .u8 (cb : Int)] 102 := ⟨hA2.blk.drew, hX.drew⟩
    have hA3 : PqAt wd.drew base g bm bk T N q (.slice oq q.length cq) pm D := hA2.below (Below.refl _ _).drew
    have hb3 := below_drew' hb2
    have hX3 := hX.drew
    have hs3 : w.heap.size < wd.drew.heap.size := hs2
    refine wp_region_held_drew (S := fun W => Blk W g (pqC bm bk (.slice oq q.length cq) (.map (some pm))) 99 ∧ Blk W w.heap.size #[.int .u8 (ca : Int), .int .u8 (cb : Int)] 102) (by kernel_rfl) hS0' (fun hS0 => ?_)
    clear cQ hA2 hb2 hX hs2
    generalize wd.drew = we at *
    (refine hK_take 0 (.pointer (some ⟨g, 0, none⟩)) rfl (by kernel_rfl) (by kernel_rfl) (by kernel_rfl) (fun _ _ _ h => h) rfl (fun W _ => by go_simp) hS0 ?_; (intro K hK; go_simp; refine hK _ ?_; clear hK K))
    (refine hK_take 1 (.pointer (some ⟨g, 0, none⟩)) rfl (by kernel_rfl) (by kernel_rfl) (by kernel_rfl) (fun _ _ _ h => h) rfl (fun W _ => by go_simp) hS0 ?_; (intro K hK; go_simp; refine hK _ ?_; clear hK K))
    (refine hK_take 2 (.pointer (some ⟨g, 3, none⟩)) rfl (by kernel_rfl) (by kernel_rfl) (by kernel_rfl) (fun _ _ _ h => h) rfl (fun W _ => by go_simp) hS0 ?_; (intro K hK; go_simp; refine hK _ ?_; clear hK K))
    (refine hK_take 3 (.map (some pm)) rfl (by kernel_rfl) (by kernel_rfl) (by kernel_rfl) (fun _ _ _ h => h) rfl (fun W hW => by have c1 : W.cell? ⟨g, 3, none⟩ = some (.map (some pm)) := hW.1.cell 3; clear hW; go_simp) hS0 ?_; (intro K hK; go_simp; refine hK _ ?_; clear hK K))
    (refine hK_load 4 rfl (by kernel_rfl) (by kernel_rfl) (by kernel_rfl) 102 _ rfl w.heap.size 0 rfl _ _ (fun W hW => hW.2) 2 (Nat.le_refl 2) _ Try.underlying102 rfl size_pair _ Hcut.out (fun _ _ _ h => h) rfl hS0 ?_; (intro K hK; go_simp; refine hK _ ?_; clear hK K))
    (refine hK_take 5 (.int .u8 (q.length : Int)) rfl (by kernel_rfl) (by kernel_rfl) (by kernel_rfl) (fun _ _ _ h => h) rfl (fun W _ => by go_simp) hS0 ?_; (intro K hK; go_simp; refine hK _ ?_; clear hK K))
    refine hK_mapUpdate 6 rfl (by kernel_rfl) rfl 96 _ _ _ rfl 102 5 keyed_pair Try.underlying96 (plainElem Try.prog 5) pm q.length D rfl hA3.keys (by unfold maxLen; omega) _ _ (klP T c) rfl rfl Hkey.out (.lit (.int .u8 (q.length : Nat))) [] (plainElem_int Try.underlying5 (WalkArith.wf_u8 (by omega))) (fun w5 hM5 hg5 => ⟨⟨(grown_same hg5 g hA3.blk.lt hgp).trans hA3.blk, (grown_same hg5 _ hX3.lt (by have := (HA.out.ltt pm (.inr (.inl rfl))).2; omega)).trans hX3⟩, fun hS1 => ?_⟩)
    (intro K hK; go_simp; refine hK _ ?_; clear hK K)
    refine wpAnyH_done (by kernel_rfl) ?_ _
    have hB5 := hS1.1
    have hX5 := hS1.2
    have hM5' : OwnPr w5 pm (q.length + 1) (D.put (klP T c) (.lit (.int .u8 (q.length : Nat)))) := hM5
    have hR5 : OwnF 102 2 w5 base (.slice oq q.length cq) q.length (prF T q) := hA3.row.same (fun k hk => grown_same hg5 k (hA3.row.ltt k hk).2 (fun e => HA.out.pq (e ▸ hk)))
    have hbw5 : Below base w w5 := (below_le hb3 hbase).grown hg5 (by omega) (fun j e => by cases e; exact HA.out.p0)
    have hkp5 : Keeps (pqFoot g pm (.slice oq q.length cq)) (pqFoot g pm (.slice oq q.length cq)) w w5 := (Keeps.of_below hb3).trans ⟨hg5.size, fun k hk hn => ⟨grown_same hg5 k hk (fun e => hn (.inr (.inl e))), hn⟩⟩
    have hs5 : w.heap.size < w5.heap.size := hX5.lt
    clear hA3 hX3 hb3 hs3 hS0 hS0' hS1 hM5 hg5
    go_wp2
    have hB6 := hB5.drew; have hX6 := hX5.drew
    have hM6 : OwnPr w5.drew pm (q.length + 1) (D.put (klP T c) (.lit (.int .u8 (q.length : Nat)))) := World.ownsMap.drew hM5'
    have hR6 := hR5.below (w1 := w5.drew) (Below.refl _ _).drew
    have hbw6 : Below base w w5.drew := hbw5.drew
    have hkp6 := hkp5.trans (Keeps.of_below (Below.refl _ _).drew)
    have hs6 : w.heap.size < w5.drew.heap.size := hs5
    clear hB5 hX5 hM5' hR5 hbw5 hkp5 hs5
    have hS5 : Blk w5.drew g (pqC bm bk (.slice oq q.length cq) (.map (some pm))) 99 ∧ Blk w5.drew w.heap.size #[.int .u8 (ca : Int), .int .u8 (cb : Int)] 102 := ⟨hB6, hX6⟩
    refine wp_region_lastT (n := 10) (S := fun W => Blk W g (pqC bm bk (.slice oq q.length cq) (.map (some pm))) 99 ∧ Blk W w.heap.size #[.int .u8 (ca : Int), .int .u8 (cb : Int)] 102) (by kernel_rfl) rfl (by kernel_rfl) hS5 (fun hS0 => ?_)
    clear hS5
    generalize w5.drew = w6 at *
    (refine hK_take 0 (.pointer (some ⟨g, 0, none⟩)) rfl (by kernel_rfl) (by kernel_rfl) (by kernel_rfl) (fun _ _ _ h => h) rfl (fun W _ => by go_simp) hS0 ?_; (intro K hK; go_simp; refine hK _ ?_; clear hK K))
    (refine hK_take 1 (.pointer (some ⟨g, 0, none⟩)) rfl (by kernel_rfl) (by kernel_rfl) (by kernel_rfl) (fun _ _ _ h => h) rfl (fun W _ => by go_simp) hS0 ?_; (intro K hK; go_simp; refine hK _ ?_; clear hK K))
    (refine hK_take 2 (.pointer (some ⟨g, 0, none⟩)) rfl (by kernel_rfl) (by kernel_rfl) (by kernel_rfl) (fun _ _ _ h => h) rfl (fun W _ => by go_simp) hS0 ?_; (intro K hK; go_simp; refine hK _ ?_; clear hK K))
    (refine hK_take 3 (.pointer (some ⟨g, 2, none⟩)) rfl (by kernel_rfl) (by kernel_rfl) (by kernel_rfl) (fun _ _ _ h => h) rfl (fun W _ => by go_simp) hS0 ?_; (intro K hK; go_simp; refine hK _ ?_; clear hK K))
    (refine hK_take 4 (.slice oq q.length cq) rfl (by kernel_rfl) (by kernel_rfl) (by kernel_rfl) (fun _ _ _ h => h) rfl (fun W hW => by have c1 : W.cell? ⟨g, 2, none⟩ = some (.slice oq q.length cq) := hW.1.cell 2; clear hW; go_simp) hS0 ?_; (intro K hK; go_simp; refine hK _ ?_; clear hK K))
    (refine hK_load 5 rfl (by kernel_rfl) (by kernel_rfl) (by kernel_rfl) 102 _ rfl w.heap.size 0 rfl _ _ (fun W hW => hW.2) 2 (Nat.le_refl 2) _ Try.underlying102 rfl size_pair _ Hcut.out (fun _ _ _ h => h) rfl hS0 ?_; (intro K hK; go_simp; refine hK _ ?_; clear hK K))
    have hal : Below w6.heap.size w6 (w6.alloc (.cells #[.int .u8 (ca : Int), .int .u8 (cb : Int)] 102)) := by (repeat (first | exact Below.refl _ _ | refine below_drew' ?_ | refine below_drewN' ?_ _ | refine below_alloc' ?_ _ | refine below_set' ?_ (by (try simp); (try omega)) _ | refine below_step ?_ (by assumption)))
    have hB7 := hB6.keptAll hal
    have hX7 := hX6.keptAll hal
    have hR7 := hR6.below hal
    have hM7 := hM6.keep (hal.block _ hM6.lt)
    have hbw7 := hbw6.trans (below_le hal (by omega))
    have hkp7 := hkp6.trans (Keeps.of_below hal)
    have hN7 : Blk (w6.alloc (.cells #[.int .u8 (ca : Int), .int .u8 (cb : Int)] 102)) w6.heap.size #[.int .u8 (ca : Int), .int .u8 (cb : Int)] 102 := Blk.new _ _ _
    have hsz7 : (w6.alloc (.cells #[.int .u8 (ca : Int), .int .u8 (cb : Int)] 102)).heap.size = w6.heap.size + 1 := by simp
    have hg7 := hB7.lt
    have hm7 := hM7.lt
    have Hgq := Lib.hid HA.out.gq
    have Hpq := Lib.hid HA.out.pq
    have Hst := Lib.hid (pqC_set bm bk (.slice oq q.length cq) (.map (some pm)))
    refine wpAnyH_ready (rs := [6]) (by kernel_rfl) (by simp) ?_
    refine AllReadyH.cons rfl (fun K hK => ?_) AllReadyH.nil
    go_simp
    refine hK.out _ _ ⟨hB7, hX7⟩ (fun hS7 => ?_)
    clear hK K hB6 hX6 hR6 hM6 hbw6 hkp6 hal hS0
    generalize w6.alloc (.cells #[.int .u8 (ca : Int), .int .u8 (cb : Int)] 102) = w7 at *
    refine wpAnyH_ready (rs := [7]) (by kernel_rfl) (by simp) ?_
    refine AllReadyH.cons rfl (fun K hK => ?_) AllReadyH.nil
    refine (show ∀ {c p q : Prop} [Decidable c], c → p → if c then p else q from fun hc h => by rw [if_pos hc]; exact h) (by kernel_rfl) ?_
    refine wp_push_pair (.tmp 34) (.tmp 36) rfl base _ q.length (prF T q) rfl hR7 w6.heap.size 1 (ca : Int) (cb : Int) rfl hN7 (by omega) (by omega) ?_
    intro v8 w8 hR8 hb8 hs8 hat8
    obtain ⟨o8, c8', e8, hq8⟩ := hR8.view
    clear hq8
    subst e8
    have hB8 : Blk w8 g (pqC bm bk (.slice oq q.length cq) (.map (some pm))) 99 := (hs8 g hg7 (fun e => Hgq.out e.symm)).trans hB7
    have hX8 : Blk w8 w.heap.size #[.int .u8 (ca : Int), .int .u8 (cb : Int)] 102 := (hs8 _ hX7.lt (fun e => by have := (HA.out.row.ltt _ e.symm).2; omega)).trans hX7
    refine hK.out _ _ ⟨hB8, hX8⟩ (fun hS8 => ?_)
    clear hK K hS7
    (refine hK_take 8 (.pointer (some ⟨g, 0, none⟩)) rfl (by kernel_rfl) (by kernel_rfl) (by kernel_rfl) (fun _ _ _ h => h) rfl (fun W _ => by go_simp) hS8 ?_; (intro K hK; go_simp; refine hK _ ?_; clear hK K))
    (refine hK_take 9 (.pointer (some ⟨g, 2, none⟩)) rfl (by kernel_rfl) (by kernel_rfl) (by kernel_rfl) (fun _ _ _ h => h) rfl (fun W _ => by go_simp) hS8 ?_; (intro K hK; go_simp; refine hK _ ?_; clear hK K))
    refine wpAnyH_done (by kernel_rfl) ?_ _
    refine lastQ_go rfl (fun K hK => ?_)
    have cB8 : w8.cell? ⟨g, 2, none⟩ = some (.slice oq q.length cq) := hB8.cell 2
    have fB8 := hB8.free
    go_simp
    refine hK.out _ _ ?_
    clear hK K cB8 fB8 hS8
    have hB9 := hB8.set 2 (.slice o8 (q.length + 1) c8')
    rw [Hst.out] at hB9
    have HF : Hid (∀ k, (Value.slice o8 (q.length + 1) c8').ownBlock = some k → (Value.slice oq q.length cq).ownBlock = some k ∨ w.heap.size < k) := Lib.hid (fun k hk => by
      rcases hat8 with e | e
      · exact .inl (e ▸ hk)
      · rw [e, hsz7] at hk
        cases hk
        exact .inr (by omega))
    have hg9 : ∀ k, (Value.slice o8 (q.length + 1) c8').ownBlock = some k → k ≠ g := fun k hk e => by
      rcases HF.out k hk with h | h
      · exact Hgq.out (e ▸ h)
      · omega
    have hp9 : (Value.slice o8 (q.length + 1) c8').ownBlock ≠ some pm := fun hk => by
      rcases HF.out pm hk with h | h
      · exact Hpq.out h
      · have := (HA.out.ltt pm (.inr (.inl rfl))).2
        omega
    have hA9 : PqAt (w8.setCell ⟨g, 2, none⟩ (.slice o8 (q.length + 1) c8')) base g bm bk T N (q ++ [c]) (.slice o8 (q.length + 1) c8') pm (D.put (klP T c) (.lit (.int .u8 (q.length : Nat)))) :=
      ⟨hB9, by
        rw [List.length_append, List.length_singleton, prF_app, HprL.out]
        exact hR8.same (fun k hk => Below.heap_setCell _ _ _ k (hg9 k hk)), by
        rw [List.length_append, List.length_singleton]
        exact (hM7.keep (hs8 pm hm7 (fun e => Hpq.out e.symm))).keep (Below.heap_setCell _ _ _ pm (fun e => hgp e.symm)), HCM.out, HltN.out, Hnew.out, HA.out.g0, HA.out.p0, hgp, fun h => hg9 g h rfl, hp9⟩
    have hk9 : Keeps (pqFoot g pm (.slice oq q.length cq)) (pqFoot g pm (.slice o8 (q.length + 1) c8')) w (w8.setCell ⟨g, 2, none⟩ (.slice o8 (q.length + 1) c8')) :=
      ⟨Nat.le_trans hkp7.1 (Nat.le_trans hb8.size (Nat.le_of_eq (by simp))), fun k hk hn => ⟨by
        rw [Below.heap_setCell _ _ _ k (fun e => hn (.inl e)), hs8 k (by have := hkp7.1; omega) (fun e => hn (.inr (.inr e.symm)))]
        exact (hkp7.2 k hk hn).1, fun h => by
        rcases h with h | h | h
        · exact hn (.inl h)
        · exact hn (.inr (.inl h))
        · rcases HF.out k h with h1 | h1
          · exact hn (.inr (.inr h1))
          · omega⟩⟩
    have hbw9 : Below base w (w8.setCell ⟨g, 2, none⟩ (.slice o8 (q.length + 1) c8')) := (hbw7.trans hb8).setCell (p := ⟨g, 2, none⟩) HA.out.g0 _
    go_wp2
    go_ret
    exact ⟨by rw [Hq'.out, Hpn.out]; rfl, hbw9, _, _, by rw [Hq'.out]; exact hA9, hk9⟩
  · have hin' : bPos eqN q c < q.length := of_decide_eq_true hin
    (refine hK_lookup 5 rfl (by kernel_rfl) (by kernel_rfl) (by kernel_rfl) 96 _ _ rfl 102 5 .u8 keyed_pair Try.underlying96 Try.underlying5 zero_u8 pm q.length D rfl (fun W hW => hW.2.2) _ _ rfl Hkey.out (bPos eqN q c : Nat) (HA.out.map.at' c hc hin') true (by rw [Hhas.out, hin]) (fun _ _ _ h => h) rfl hS0 ?_; (intro K hK; go_simp; refine hK _ ?_; clear hK K))
    (refine hK_take 6 (.tuple #[.int .u8 (bPos eqN q c : Nat), .bool true]) rfl (by kernel_rfl) (by kernel_rfl) (by kernel_rfl) (fun _ _ _ h => h) rfl (fun W _ => by go_simp) hS0 ?_; (intro K hK; go_simp; refine hK _ ?_; clear hK K))
    (refine hK_take 7 (.int .u8 (bPos eqN q c : Nat)) rfl (by kernel_rfl) (by kernel_rfl) (by kernel_rfl) (fun _ _ _ h => h) rfl (fun W _ => by go_simp) hS0 ?_; (intro K hK; go_simp; refine hK _ ?_; clear hK K))
    (refine hK_take 8 (.bool true) rfl (by kernel_rfl) (by kernel_rfl) (by kernel_rfl) (fun _ _ _ h => h) rfl (fun W _ => by go_simp) hS0 ?_; (intro K hK; go_simp; refine hK _ ?_; clear hK K))
    (refine hK_take 9 (.int .u8 (bPos eqN q c : Nat)) rfl (by kernel_rfl) (by kernel_rfl) (by kernel_rfl) (fun _ _ _ h => h) rfl (fun W _ => by go_simp) hS0 ?_; (intro K hK; go_simp; refine hK _ ?_; clear hK K))
    (refine hK_take 10 (.bool true) rfl (by kernel_rfl) (by kernel_rfl) (by kernel_rfl) (fun _ _ _ h => h) rfl (fun W _ => by go_simp) hS0 ?_; (intro K hK; go_simp; refine hK _ ?_; clear hK K))
    refine wpAnyH_done (by kernel_rfl) ?_ _
    have Hq' := Lib.hid (bPut_old hin')
    clear hin hin'
    go_wp2
    go_ret
    exact ⟨by rw [Hq'.out]; rfl, below_le hb2 hbase, _, D, by rw [Hq'.out]; exact hA2, Keeps.of_below hb2⟩
end Go.Proofs.Ytkkooafjpancoaa

namespace Go.Proofs.Ytkkooafjpancoaa
open Go.RowKit
open Go.Maps

/-- A row while it is made: k letters put out, j places. -/
def rwL (B : Aut) (c k j : Nat) (q : List Nat) : List Int := [if 0 < k then B.o c 0 else 0, if 1 < k then B.o c 1 else 0, if 2 < k then B.o c 2 else 0, if 0 < j then (bPos eqN q (B.n c 0) : Int) else 0, if 1 < j then (bPos eqN q (B.n c 1) : Int) else 0, if 2 < j then (bPos eqN q (B.n c 2) : Int) else 0]
theorem rwL_len (B : Aut) (c k j : Nat) (q : List Nat) : (rwL B c k j q).length = 6 := rfl
theorem rwL_zero (B : Aut) (c : Nat) (q : List Nat) : rwL B c 0 0 q = zer6 := rfl
theorem rwL_out (B : Aut) (c k j : Nat) (q : List Nat) (hk : k < 3) : (rwL B c k j q).set k (B.o c k) = rwL B c (k + 1) j q := by
  rcases (show k = 0 ∨ k = 1 ∨ k = 2 by omega) with rfl | rfl | rfl <;> rfl
theorem rwL_next (B : Aut) (c k j : Nat) (q : List Nat) (hj : j < 3) : (rwL B c k j q).set (3 + j) (bPos eqN q (B.n c j) : Int) = rwL B c k (j + 1) q := by
  rcases (show j = 0 ∨ j = 1 ∨ j = 2 by omega) with rfl | rfl | rfl <;> rfl
theorem rwL_grow (B : Aut) (c k j : Nat) (q : List Nat) (p : Nat) (h : ∀ y, y < j → bPos eqN q (B.n c y) < q.length) : rwL B c k j q = rwL B c k j (bPut eqN q p) := by
  have key : ∀ y, (if y < j then (bPos eqN q (B.n c y) : Int) else 0) = if y < j then (bPos eqN (bPut eqN q p) (B.n c y) : Int) else 0 := fun y => by
    by_cases hy : y < j
    · rw [if_pos hy, if_pos hy, bPos_pre (bPut_pre (E := eqN) q p) _ (h y hy)]
    · rw [if_neg hy, if_neg hy]
  unfold rwL
  rw [key 0, key 1, key 2]
theorem rwL_rows (B : Aut) (L c : Nat) (q : List Nat) (i : Nat) (hi : q.getD i 0 = c) : rwL B c L L q = rowL (qAut eqN B.n B.o q 0) L i := by
  unfold rwL rowL rowO rowN qAut
  simp only [hi]
  congr 1; congr 1; congr 1
  congr 1
  · split <;> rfl
  · congr 1
    · split <;> rfl
    · congr 1
      split <;> rfl
theorem mach_pr {M : Mach} {L S : Nat} (hM : Good M L S) {q x : Nat} (hq : q < S) (hx : x < L) : (mc M)[2 + q * 3 + x]? = some (.int .u8 (nn M q x : Int)) ∧ (mc M)[50 + q * 3 + x]? = some (.int .u8 ((M.o q x).toNat : Int)) := by
  have hS := hM.S16; have hL := hM.L3
  refine ⟨?_, ?_⟩
  · rw [mc_n hM.ok q x (by omega) (by omega), hM.nn_eq q x hq hx]
  · rw [mc_o hM.ok q x (by omega) (by omega)]
    have := (hM.oN q x hq hx).2
    rw [← this]

set_option maxRecDepth 100000 in
set_option maxHeartbeats 8000000 in
theorem rowOf_calls (M J : Mach) (L S T : Nat) (hM : Good M L S) (hK : Good J L T) (base g bm bk : Nat) (q : List Nat) (qv : Value) (pm : Nat) (D : DataW Unit) (c : Nat) (hc : c < S * T) (w : World) (hbase : base ≤ w.heap.size) (hA : PqAt w base g bm bk T (S * T) q qv pm D)
    (hm0 : bm < base) (hk0 : bk < base) (hBm : Blk w bm (mc M) 28) (hBk : Blk w bk (mc J) 28) :
    Calls Try.prog 82 #[.pointer (some ⟨g, 0, none⟩), .agg #[.int .u8 (c / T : Nat), .int .u8 (c % T : Nat)]] w fun e w' => e = .returned (.agg (c8 (rwL (prA M J T) c L L (bRow eqN (prA M J T).n q c L)))) ∧ Below base w w' ∧
      ∃ qv' D', PqAt w' base g bm bk T (S * T) (bRow eqN (prA M J T).n q c L) qv' pm D' ∧ Keeps (pqFoot g pm qv) (pqFoot g pm qv') w w' := by
  obtain ⟨hcS, hcT⟩ := pr_lt hc
  have hL3 := hM.L3
  have hS16 := hM.S16
  have hT16 := hK.S16
  have hN := few_prod hM.S16 hK.S16
  have Hpr := Lib.hid (prOk hM.S16 hK.S16)
  have HM := Lib.hid hM
  have HK := Lib.hid hK
  have HA := Lib.hid hA
  have hz6 := zero_row6
  have Hbm : Hid (∀ W, Below base w W → Blk W bm (mc M) 28) := Lib.hid (fun W hW => hBm.kept hW hm0)
  have Hbk : Hid (∀ W, Below base w W → Blk W bk (mc J) 28) := Lib.hid (fun W hW => hBk.kept hW hk0)
  have HcL := Lib.hid (show (mc M)[0]? = some (.int .i64 (L : Int)) from by rw [mc_L, hM.hL])
  let W0 := ((w.alloc (.cells #[.int .u8 (c / T : Nat), .int .u8 (c % T : Nat)] 102)).alloc (.cells (c8 zer6) 104)).alloc (.cells (c8 zer6) 104)
  have hb0 : Below w.heap.size w W0 := by show Below _ _ (World.alloc _ _); (repeat (first | exact Below.refl _ _ | refine below_drew' ?_ | refine below_drewN' ?_ _ | refine below_alloc' ?_ _ | refine below_set' ?_ (by (try simp); (try omega)) _ | refine below_step ?_ (by assumption)))
  have hX0 : Blk (((w.alloc (.cells #[.int .u8 (c / T : Nat), .int .u8 (c % T : Nat)] 102)).alloc (.cells (c8 zer6) 104)).alloc (.cells (c8 zer6) 104)) w.heap.size #[.int .u8 (c / T : Nat), .int .u8 (c % T : Nat)] 102 := ((Blk.new w _ _).alloc _).alloc _
  have hR0 : Blk (((w.alloc (.cells #[.int .u8 (c / T : Nat), .int .u8 (c % T : Nat)] 102)).alloc (.cells (c8 zer6) 104)).alloc (.cells (c8 zer6) 104)) (w.heap.size + 1) (c8 zer6) 104 := (Blk.new_at _ _ _ _ (by simp)).alloc _
  have hV0 : Blk (((w.alloc (.cells #[.int .u8 (c / T : Nat), .int .u8 (c % T : Nat)] 102)).alloc (.cells (c8 zer6) 104)).alloc (.cells (c8 zer6) 104)) (w.heap.size + 1 + 1) (c8 zer6) 104 := Blk.new_at _ _ _ _ (by simp)
  have hA0 : PqAt (((w.alloc (.cells #[.int .u8 (c / T : Nat), .int .u8 (c % T : Nat)] 102)).alloc (.cells (c8 zer6) 104)).alloc (.cells (c8 zer6) 104)) base g bm bk T (S * T) (bRow eqN (prA M J T).n q c 0) qv pm D := hA.below hb0
  have hk00 : Keeps (pqFoot g pm qv) (pqFoot g pm qv) w (((w.alloc (.cells #[.int .u8 (c / T : Nat), .int .u8 (c % T : Nat)] 102)).alloc (.cells (c8 zer6) 104)).alloc (.cells (c8 zer6) 104)) := Keeps.of_below hb0
  have hbb0 : Below base w (((w.alloc (.cells #[.int .u8 (c / T : Nat), .int .u8 (c % T : Nat)] 102)).alloc (.cells (c8 zer6) 104)).alloc (.cells (c8 zer6) 104)) := below_le hb0 hbase
  have hbM0 := Hbm.out _ hbb0
  have hg0 : (((w.alloc (.cells #[.int .u8 (c / T : Nat), .int .u8 (c % T : Nat)] 102)).alloc (.cells (c8 zer6) 104)).alloc (.cells (c8 zer6) 104)).cell? ⟨g, 0, none⟩ = some (.pointer (some ⟨bm, 0, none⟩)) := hA0.blk.cell 0
  have cL0 : (((w.alloc (.cells #[.int .u8 (c / T : Nat), .int .u8 (c % T : Nat)] 102)).alloc (.cells (c8 zer6) 104)).alloc (.cells (c8 zer6) 104)).cell? ⟨bm, 0, none⟩ = some (.int .i64 (L : Int)) := (hbM0.cell 0).trans HcL.out
  have hf0 : ∀ k, w.heap.size ≤ k → ¬ pqFoot g pm qv k := fun k hk h => by have := (HA.out.ltt k h).2; omega
  have Hf0 : Hid (¬ pqFoot g pm qv w.heap.size ∧ ¬ pqFoot g pm qv (w.heap.size + 1) ∧ ¬ pqFoot g pm qv (w.heap.size + 1 + 1)) := Lib.hid ⟨hf0 _ (Nat.le_refl _), hf0 _ (by omega), hf0 _ (by omega)⟩
  have Hca : Hid ((c / T : Nat) < S) := Lib.hid hcS
  have Hcb : Hid ((c % T : Nat) < T) := Lib.hid hcT
  have Ho : Hid (∀ x, (prA M J T).o c x = J.o (c % T) (M.o (c / T) x).toNat) := Lib.hid (fun _ => rfl)
  have Hn : Hid (∀ x, x < L → (prA M J T).n c x / T = nn M (c / T) x ∧ (prA M J T).n c x % T = nn J (c % T) (M.o (c / T) x).toNat) := Lib.hid (fun x hx => by
    have h2 := HK.out.nn_lt _ _ hcT (HM.out.oN _ x hcS hx).1
    show (nn M (c / T) x * T + nn J (c % T) (M.o (c / T) x).toNat) / T = _ ∧ (nn M (c / T) x * T + nn J (c % T) (M.o (c / T) x).toNat) % T = _
    rw [Nat.mul_comm, Nat.mul_add_div (by omega), Nat.mul_add_mod, Nat.div_eq_of_lt h2, Nat.mod_eq_of_lt h2]
    exact ⟨by omega, rfl⟩)
  have HnN : Hid (∀ x, x < L → (prA M J T).n c x < S * T) := Lib.hid (fun x hx => prA_in hM hK c x hc hx)
  generalize (c / T : Nat) = ca at *
  generalize (c % T : Nat) = cb at *
  clear hM hK hBm hBk hA hf0
  go_enter Try.func82, Try.ntmps82
  go_wp2
  clear cL0 hg0
  generalize hw0 : (((w.alloc (.cells #[.int .u8 (ca : Int), .int .u8 (cb : Int)] 102)).alloc (.cells (c8 zer6) 104)).alloc (.cells (c8 zer6) 104)) = w0 at *
  clear hw0 hb0 hbM0
  rw [← rwL_zero (prA M J T) c (bRow eqN (prA M J T).n q c 0)] at hV0
  go_loopw [15] (fun i wr => ∃ (x : Nat) (qv' : Value) (D' : DataW Unit), x ≤ L ∧ i = .int .i64 x ∧ PqAt wr base g bm bk T (S * T) (bRow eqN (prA M J T).n q c x) qv' pm D' ∧ Keeps (pqFoot g pm qv) (pqFoot g pm qv') w wr ∧ Below base w wr ∧ Blk wr w.heap.size #[.int .u8 (ca : Int), .int .u8 (cb : Int)] 102 ∧ Blk wr (w.heap.size + 1) (c8 zer6) 104 ∧
      Blk wr (w.heap.size + 1 + 1) (c8 (rwL (prA M J T) c x x (bRow eqN (prA M J T).n q c x))) 104 ∧ (¬ pqFoot g pm qv' w.heap.size ∧ ¬ pqFoot g pm qv' (w.heap.size + 1) ∧ ¬ pqFoot g pm qv' (w.heap.size + 1 + 1))) (fun i _ => L - (intOf i).toNat)
  case atStart => exact ⟨0, qv, D, by omega, rfl, hA0, hk00, hbb0, hX0, hR0, hV0, Hf0.out⟩
  case round =>
    clear hA0 hk00 hbb0 hX0 hR0 hV0
    obtain ⟨x, qv', D', hx, rfl, hAx, hkp, hbw, hX, hR, hV, hf⟩ := hrel
    have HF := Lib.hid hf
    clear hf
    by_cases hlx : x < L
    · have hx3 : x < 3 := by omega
      have hxi : (x : Int) < 3 := by omega
      have hcaS := Hca.out
      have hcbT := Hcb.out
      have hca16 : (ca : Int) < 16 := by omega
      have hcb16 : (cb : Int) < 16 := by omega
      have hoN := HM.out.oN ca x hcaS hlx
      obtain ⟨y, hy⟩ : ∃ y, (M.o ca x).toNat = y := ⟨_, rfl⟩
      have hm2 := (mach_pr HM.out hcaS hlx)
      have Ho' := Lib.hid (Ho.out x)
      have Hn' := Lib.hid (Hn.out x hlx)
      rw [hy] at hoN hm2 Ho' Hn'
      have hk2 := mach_pr HK.out hcbT hoN.1
      have hyL := hoN.1
      have hy3 : (y : Int) < 3 := by omega
      clear hoN hy
      have cMn := ((Hbm.out wr hbw).cell (2 + ca * 3 + x)).trans hm2.1
      have cMo := ((Hbm.out wr hbw).cell (50 + ca * 3 + x)).trans hm2.2
      have cKn := ((Hbk.out wr hbw).cell (2 + cb * 3 + y)).trans hk2.1
      have cKo := ((Hbk.out wr hbw).cell (50 + cb * 3 + y)).trans hk2.2
      have cg0 : wr.cell? ⟨g, 0, none⟩ = some (.pointer (some ⟨bm, 0, none⟩)) := hAx.blk.cell 0
      have cg1 : wr.cell? ⟨g, 1, none⟩ = some (.pointer (some ⟨bk, 0, none⟩)) := hAx.blk.cell 1
      have cx0 : wr.cell? ⟨w.heap.size, 0, none⟩ = some (.int .u8 (ca : Int)) := hX.cell 0
      have cx1 : wr.cell? ⟨w.heap.size, 1, none⟩ = some (.int .u8 (cb : Int)) := hX.cell 1
      go_wp2
      go_quiet (fail)
      go_wp2
      have hdr : Below wr.heap.size wr (wr.drewN nq).drew := ((Below.refl wr.heap.size wr).trans (Go.Joins.below_draws _ wr nq)).drew
      have hszr := hkp.1
      have hA1 := hAx.below hdr
      have hkp1 := hkp.trans (Keeps.of_below hdr)
      have hbw1 := hbw.trans (below_le hdr (show base ≤ wr.heap.size by omega))
      have hX1 := hX.keptAll hdr
      have hR1 := hR.keptAll hdr
      have hV1 := hV.keptAll hdr
      clear hAx hkp hbw hX hR hV cMn cMo cKn cKo cg0 cg1 cx0 cx1 hdr
      refine wp_region_still_tail 15 (by kernel_rfl) (by kernel_rfl) ?_
      simp only [List.take_succ_cons, List.take_zero, List.drop_succ_cons, List.drop_zero]
      change wpStill _ _ (World.drew _) (fun a' => wpList _ _ _ _ a' (World.drew _)) _ _
      generalize (World.drew _) = wd at *
      have cKo := ((Hbk.out wd hbw1).cell (50 + cb * 3 + y)).trans hk2.2
      have cg1 : wd.cell? ⟨g, 1, none⟩ = some (.pointer (some ⟨bk, 0, none⟩)) := hA1.blk.cell 1
      have cx1 : wd.cell? ⟨w.heap.size, 1, none⟩ = some (.int .u8 (cb : Int)) := hX1.cell 1
      have hold : (c8 (rwL (prA M J T) c x x (bRow eqN (prA M J T).n q c x)))[x]? = some (.int .u8 ((rwL (prA M J T) c x x (bRow eqN (prA M J T).n q c x)).getD x 0)) := c8_at _ _ (by rw [rwL_len]; omega)
      generalize (rwL (prA M J T) c x x (bRow eqN (prA M J T).n q c x)).getD x 0 = oldv at hold
      have cV := (hV1.cell x).trans hold
      have fV := hV1.free x
      have hko : (J.o cb y).toNat = J.o cb y := (HK.out.oN cb y hcbT hyL).2.symm
      rw [hko, ← Ho'.out] at cKo
      have hV2 := hV1.set x (.int .u8 ((prA M J T).o c x))
      rw [← c8_set, rwL_out _ _ _ _ _ hx3] at hV2
      have hA2 : PqAt (wd.setCell ⟨w.heap.size + 1 + 1, x, none⟩ (.int .u8 ((prA M J T).o c x))) base g bm bk T (S * T) (bRow eqN (prA M J T).n q c x) qv' pm D' := hA1.same (fun k hk => Below.heap_setCell _ _ _ k (fun e => HF.out.2.2 (by have e' : k = w.heap.size + 1 + 1 := e; subst e'; exact hk)))
      have hbw2 := hbw1.setCell (p := ⟨w.heap.size + 1 + 1, x, none⟩) (show base ≤ w.heap.size + 1 + 1 by omega) (.int .u8 ((prA M J T).o c x))
      have hX2 := hX1.setOther (w.heap.size + 1 + 1) x (.int .u8 ((prA M J T).o c x)) (by omega)
      have hR2 := hR1.setOther (w.heap.size + 1 + 1) x (.int .u8 ((prA M J T).o c x)) (by omega)
      have hkp2 : Keeps (pqFoot g pm qv) (pqFoot g pm qv') w (wd.setCell ⟨w.heap.size + 1 + 1, x, none⟩ (.int .u8 ((prA M J T).o c x))) := ⟨Nat.le_trans hkp1.1 (Nat.le_of_eq (by simp)), fun k hk hn => ⟨(Below.heap_setCell _ _ _ k (by show k ≠ w.heap.size + 1 + 1; omega)).trans (hkp1.2 k hk hn).1, (hkp1.2 k hk hn).2⟩⟩
      repeat still_step
      refine wpStill_nil ?_
      clear cKo cg1 cx1
      go_wp2
      clear cV fV hold hA1 hbw1 hX1 hR1 hV1 hkp1
      generalize wd.setCell ⟨w.heap.size + 1 + 1, x, none⟩ (.int .u8 ((prA M J T).o c x)) = w3 at *
      have hd3 : Below w3.heap.size w3 w3.drew := (Below.refl _ _).drew
      have hsz3 := hkp2.1
      have hA3 := hA2.below hd3
      have hkp3 := hkp2.trans (Keeps.of_below hd3)
      have hbw3 := hbw2.trans (below_le hd3 (show base ≤ w3.heap.size by omega))
      have hX3 := hX2.keptAll hd3
      have hR3 := hR2.keptAll hd3
      have hV3 := hV2.keptAll hd3
      clear hA2 hkp2 hbw2 hX2 hR2 hV2 hd3 hsz3
      have HPl := Lib.hid (fun W hb hW => place_calls base g bm bk T (S * T) (bRow eqN (prA M J T).n q c x) qv' pm D' hN Hpr.out ((prA M J T).n c x) (HnN.out x hlx) W hb hW)
      rw [Hn'.out.1, Hn'.out.2] at HPl
      have Hrow' : Hid (bRow eqN (prA M J T).n q c (x + 1) = bPut eqN (bRow eqN (prA M J T).n q c x) ((prA M J T).n c x)) := Lib.hid rfl
      have Hgr := Lib.hid (rwL_grow (prA M J T) c (x + 1) x (bRow eqN (prA M J T).n q c x) ((prA M J T).n c x) (fun y hy => bRow_has eqN_eq.refl q c x y hy))
      rw [Hgr.out] at hV3
      have hnn := HM.out.nn_lt ca x hcaS hlx
      have hnk := HK.out.nn_lt cb y hcbT hyL
      have hyi : (y : Int) < 3 := hy3
      have hS7 : Blk w3.drew bm (mc M) 28 ∧ Blk w3.drew bk (mc J) 28 ∧ w3.drew.cell? ⟨g, 0, none⟩ = some (.pointer (some ⟨bm, 0, none⟩)) ∧ w3.drew.cell? ⟨g, 1, none⟩ = some (.pointer (some ⟨bk, 0, none⟩)) ∧ Blk w3.drew w.heap.size #[.int .u8 (ca : Int), .int .u8 (cb : Int)] 102 := ⟨Hbm.out _ hbw3, Hbk.out _ hbw3, hA3.blk.cell 0, hA3.blk.cell 1, hX3⟩
      refine wp_region_lastT (n := 30) (S := fun W => Blk W bm (mc M) 28 ∧ Blk W bk (mc J) 28 ∧ W.cell? ⟨g, 0, none⟩ = some (.pointer (some ⟨bm, 0, none⟩)) ∧ W.cell? ⟨g, 1, none⟩ = some (.pointer (some ⟨bk, 0, none⟩)) ∧ Blk W w.heap.size #[.int .u8 (ca : Int), .int .u8 (cb : Int)] 102) (by kernel_rfl) rfl (by kernel_rfl) hS7 (fun hS0 => ?_)
      clear hS7
      generalize w3.drew = w4 at *
      (refine hK_take 0 (.int .i64 (x : Int)) rfl (by kernel_rfl) (by kernel_rfl) (by kernel_rfl) (fun _ _ _ h => h) rfl (fun W _ => by go_simp) hS0 ?_; (intro K hK; go_simp; refine hK _ ?_; clear hK K))
      (refine hK_take 1 (.pointer (some ⟨g, 0, none⟩)) rfl (by kernel_rfl) (by kernel_rfl) (by kernel_rfl) (fun _ _ _ h => h) rfl (fun W _ => by go_simp) hS0 ?_; (intro K hK; go_simp; refine hK _ ?_; clear hK K))
      (refine hK_take 2 (.pointer (some ⟨g, 0, none⟩)) rfl (by kernel_rfl) (by kernel_rfl) (by kernel_rfl) (fun _ _ _ h => h) rfl (fun W _ => by go_simp) hS0 ?_; (intro K hK; go_simp; refine hK _ ?_; clear hK K))
      (refine hK_take 3 (.pointer (some ⟨g, 0, none⟩)) rfl (by kernel_rfl) (by kernel_rfl) (by kernel_rfl) (fun _ _ _ h => h) rfl (fun W _ => by go_simp) hS0 ?_; (intro K hK; go_simp; refine hK _ ?_; clear hK K))
      (refine hK_take 4 (.pointer (some ⟨g, 0, none⟩)) rfl (by kernel_rfl) (by kernel_rfl) (by kernel_rfl) (fun _ _ _ h => h) rfl (fun W _ => by go_simp) hS0 ?_; (intro K hK; go_simp; refine hK _ ?_; clear hK K))
      (refine hK_take 5 (.pointer (some ⟨bm, 0, none⟩)) rfl (by kernel_rfl) (by kernel_rfl) (by kernel_rfl) (fun _ _ _ h => h) rfl (fun W hW => by have c1 := hW.2.2.1; clear hW; go_simp) hS0 ?_; (intro K hK; go_simp; refine hK _ ?_; clear hK K))
      (refine hK_take 6 (.pointer (some ⟨w.heap.size, 0, none⟩)) rfl (by kernel_rfl) (by kernel_rfl) (by kernel_rfl) (fun _ _ _ h => h) rfl (fun W _ => by go_simp) hS0 ?_; (intro K hK; go_simp; refine hK _ ?_; clear hK K))
      (refine hK_take 7 (.int .u8 (ca : Int)) rfl (by kernel_rfl) (by kernel_rfl) (by kernel_rfl) (fun _ _ _ h => h) rfl (fun W hW => by have c1 : W.cell? ⟨w.heap.size, 0, none⟩ = some (.int .u8 (ca : Int)) := hW.2.2.2.2.cell 0; clear hW; go_simp) hS0 ?_; (intro K hK; go_simp; refine hK _ ?_; clear hK K))
      (refine hK_take 8 (.int .i64 (x : Int)) rfl (by kernel_rfl) (by kernel_rfl) (by kernel_rfl) (fun _ _ _ h => h) rfl (fun W _ => by go_simp) hS0 ?_; (intro K hK; go_simp; refine hK _ ?_; clear hK K))
      (refine hK_take 9 (.pointer (some ⟨bm, 0, none⟩)) rfl (by kernel_rfl) (by kernel_rfl) (by kernel_rfl) (fun _ _ _ h => h) rfl (fun W _ => by go_simp) hS0 ?_; (intro K hK; go_simp; refine hK _ ?_; clear hK K))
      (refine hK_take 10 (.pointer (some ⟨bm, 2, none⟩)) rfl (by kernel_rfl) (by kernel_rfl) (by kernel_rfl) (fun _ _ _ h => h) rfl (fun W _ => by go_simp) hS0 ?_; (intro K hK; go_simp; refine hK _ ?_; clear hK K))
      (refine hK_take 11 (.pointer (some ⟨bm, 2 + ca * 3, none⟩)) rfl (by kernel_rfl) (by kernel_rfl) (by kernel_rfl) (fun _ _ _ h => h) rfl (fun W _ => by go_simp) hS0 ?_; (intro K hK; go_simp; refine hK _ ?_; clear hK K))
      (refine hK_take 12 (.pointer (some ⟨bm, 2 + ca * 3 + x, none⟩)) rfl (by kernel_rfl) (by kernel_rfl) (by kernel_rfl) (fun _ _ _ h => h) rfl (fun W _ => by go_simp) hS0 ?_; (intro K hK; go_simp; refine hK _ ?_; clear hK K))
      (refine hK_take 13 (.int .u8 (nn M ca x : Int)) rfl (by kernel_rfl) (by kernel_rfl) (by kernel_rfl) (fun _ _ _ h => h) rfl (fun W hW => by have c1 := (hW.1.cell (2 + ca * 3 + x)).trans hm2.1; clear hW; go_simp) hS0 ?_; (intro K hK; go_simp; refine hK _ ?_; clear hK K))
      (refine hK_take 14 (.pointer (some ⟨g, 0, none⟩)) rfl (by kernel_rfl) (by kernel_rfl) (by kernel_rfl) (fun _ _ _ h => h) rfl (fun W _ => by go_simp) hS0 ?_; (intro K hK; go_simp; refine hK _ ?_; clear hK K))
      (refine hK_take 15 (.pointer (some ⟨g, 0, none⟩)) rfl (by kernel_rfl) (by kernel_rfl) (by kernel_rfl) (fun _ _ _ h => h) rfl (fun W _ => by go_simp) hS0 ?_; (intro K hK; go_simp; refine hK _ ?_; clear hK K))
      (refine hK_take 16 (.pointer (some ⟨g, 1, none⟩)) rfl (by kernel_rfl) (by kernel_rfl) (by kernel_rfl) (fun _ _ _ h => h) rfl (fun W _ => by go_simp) hS0 ?_; (intro K hK; go_simp; refine hK _ ?_; clear hK K))
      (refine hK_take 17 (.pointer (some ⟨bk, 0, none⟩)) rfl (by kernel_rfl) (by kernel_rfl) (by kernel_rfl) (fun _ _ _ h => h) rfl (fun W hW => by have c1 := hW.2.2.2.1; clear hW; go_simp) hS0 ?_; (intro K hK; go_simp; refine hK _ ?_; clear hK K))
      (refine hK_take 18 (.pointer (some ⟨w.heap.size, 1, none⟩)) rfl (by kernel_rfl) (by kernel_rfl) (by kernel_rfl) (fun _ _ _ h => h) rfl (fun W _ => by go_simp) hS0 ?_; (intro K hK; go_simp; refine hK _ ?_; clear hK K))
      (refine hK_take 19 (.int .u8 (cb : Int)) rfl (by kernel_rfl) (by kernel_rfl) (by kernel_rfl) (fun _ _ _ h => h) rfl (fun W hW => by have c1 : W.cell? ⟨w.heap.size, 1, none⟩ = some (.int .u8 (cb : Int)) := hW.2.2.2.2.cell 1; clear hW; go_simp) hS0 ?_; (intro K hK; go_simp; refine hK _ ?_; clear hK K))
      (refine hK_take 20 (.int .u8 (y : Int)) rfl (by kernel_rfl) (by kernel_rfl) (by kernel_rfl) (fun _ _ _ h => h) rfl (fun W _ => by go_simp) hS0 ?_; (intro K hK; go_simp; refine hK _ ?_; clear hK K))
      (refine hK_take 21 (.pointer (some ⟨bk, 0, none⟩)) rfl (by kernel_rfl) (by kernel_rfl) (by kernel_rfl) (fun _ _ _ h => h) rfl (fun W _ => by go_simp) hS0 ?_; (intro K hK; go_simp; refine hK _ ?_; clear hK K))
      (refine hK_take 22 (.pointer (some ⟨bk, 2, none⟩)) rfl (by kernel_rfl) (by kernel_rfl) (by kernel_rfl) (fun _ _ _ h => h) rfl (fun W _ => by go_simp) hS0 ?_; (intro K hK; go_simp; refine hK _ ?_; clear hK K))
      (refine hK_take 23 (.pointer (some ⟨bk, 2 + cb * 3, none⟩)) rfl (by kernel_rfl) (by kernel_rfl) (by kernel_rfl) (fun _ _ _ h => h) rfl (fun W _ => by go_simp) hS0 ?_; (intro K hK; go_simp; refine hK _ ?_; clear hK K))
      (refine hK_take 24 (.pointer (some ⟨bk, 2 + cb * 3 + y, none⟩)) rfl (by kernel_rfl) (by kernel_rfl) (by kernel_rfl) (fun _ _ _ h => h) rfl (fun W _ => by go_simp) hS0 ?_; (intro K hK; go_simp; refine hK _ ?_; clear hK K))
      (refine hK_take 25 (.int .u8 (nn J cb y : Int)) rfl (by kernel_rfl) (by kernel_rfl) (by kernel_rfl) (fun _ _ _ h => h) rfl (fun W hW => by have c1 := (hW.1.cell (2 + ca * 3 + x)).trans hm2.1; have c2 := (hW.2.1.cell (2 + cb * 3 + y)).trans hk2.1; clear hW; go_simp) hS0 ?_; (intro K hK; go_simp; refine hK _ ?_; clear hK K))
      (refine hK_take 26 (.agg #[.int .u8 (nn M ca x : Int), .int .u8 (nn J cb y : Int)]) rfl (by kernel_rfl) (by kernel_rfl) (by kernel_rfl) (fun _ _ _ h => h) rfl (fun W _ => by go_simp) hS0 ?_; (intro K hK; go_simp; refine hK _ ?_; clear hK K))
      (refine hK_take 28 (.pointer (some ⟨w.heap.size + 1 + 1, 3, none⟩)) rfl (by kernel_rfl) (by kernel_rfl) (by kernel_rfl) (fun _ _ _ h => h) rfl (fun W _ => by go_simp) hS0 ?_; (intro K hK; go_simp; refine hK _ ?_; clear hK K))
      have hb4 : base ≤ w4.heap.size := by have := hkp3.1; omega
      (refine wpAnyH_ready (rs := [27]) (by kernel_rfl) (by simp) ?_; refine AllReadyH.cons rfl (fun K hK => ?_) AllReadyH.nil); go_simp; refine (HPl.out _ hb4 hA3).mono ?_; rintro e w5 ⟨rfl, hb5, qv5, D5, hA5, hk5⟩
      have hf5 := HF.out
      have hs4 := hkp3.1
      have hltX := hX3.lt
      have hltR := hR3.lt
      have hltV := hV3.lt
      have x5 := hk5.2 _ hltX hf5.1
      have r5 := hk5.2 _ hltR hf5.2.1
      have v5 := hk5.2 _ hltV hf5.2.2
      have hX5 : Blk w5 w.heap.size #[.int .u8 (ca : Int), .int .u8 (cb : Int)] 102 := x5.1.trans hX3
      have hR5 : Blk w5 (w.heap.size + 1) (c8 zer6) 104 := r5.1.trans hR3
      have hV5 : Blk w5 (w.heap.size + 1 + 1) (c8 (rwL (prA M J T) c (x + 1) x (bPut eqN (bRow eqN (prA M J T).n q c x) ((prA M J T).n c x)))) 104 := v5.1.trans hV3
      have HF5 := Lib.hid (And.intro x5.2 (And.intro r5.2 v5.2))
      have hkp5 := hkp3.trans hk5
      have hbw5 := hbw3.trans hb5
      clear x5 r5 v5 hf5 hX3 hR3 hV3 hkp3 hbw3 hb5 hk5 HF hltX hltR hltV hs4 hb4 hA3 HPl
      (go_simp; refine hK.out _ _ (⟨Hbm.out _ hbw5, Hbk.out _ hbw5, hA5.blk.cell 0, hA5.blk.cell 1, hX5⟩) (fun hS5 => ?_); clear hK K)
      clear hS0
      (refine hK_take 29 (.pointer (some ⟨w.heap.size + 1 + 1, 3 + x, none⟩)) rfl (by kernel_rfl) (by kernel_rfl) (by kernel_rfl) (fun _ _ _ h => h) rfl (fun W _ => by go_simp) hS5 ?_; (intro K hK; go_simp; refine hK _ ?_; clear hK K))
      refine wpAnyH_done (by kernel_rfl) ?_ _
      refine lastQ_go rfl (fun K hK => ?_)
      have hold : (c8 (rwL (prA M J T) c (x + 1) x (bPut eqN (bRow eqN (prA M J T).n q c x) ((prA M J T).n c x))))[3 + x]? = some (.int .u8 ((rwL (prA M J T) c (x + 1) x (bPut eqN (bRow eqN (prA M J T).n q c x) ((prA M J T).n c x))).getD (3 + x) 0)) := c8_at _ _ (by rw [rwL_len]; omega)
      generalize (rwL (prA M J T) c (x + 1) x (bPut eqN (bRow eqN (prA M J T).n q c x) ((prA M J T).n c x))).getD (3 + x) 0 = oldv at hold
      have cV := (hV5.cell (3 + x)).trans hold
      have fV := hV5.free (3 + x)
      clear hold hS5
      go_simp
      refine hK.out _ _ ?_
      clear hK K cV fV
      have hV6 := hV5.set (3 + x) (.int .u8 (bPos eqN (bPut eqN (bRow eqN (prA M J T).n q c x) ((prA M J T).n c x)) ((prA M J T).n c x) : Nat))
      rw [← c8_set, rwL_next _ _ _ _ _ hx3] at hV6
      have hA6 : PqAt (w5.setCell ⟨w.heap.size + 1 + 1, 3 + x, none⟩ (.int .u8 (bPos eqN (bPut eqN (bRow eqN (prA M J T).n q c x) ((prA M J T).n c x)) ((prA M J T).n c x) : Nat))) base g bm bk T (S * T) (bPut eqN (bRow eqN (prA M J T).n q c x) ((prA M J T).n c x)) qv5 pm D5 := hA5.same (fun k hk => Below.heap_setCell _ _ _ k (fun e => HF5.out.2.2 (by have e' : k = w.heap.size + 1 + 1 := e; subst e'; exact hk)))
      have hbw6 := hbw5.setCell (p := ⟨w.heap.size + 1 + 1, 3 + x, none⟩) (show base ≤ w.heap.size + 1 + 1 by omega) (.int .u8 (bPos eqN (bPut eqN (bRow eqN (prA M J T).n q c x) ((prA M J T).n c x)) ((prA M J T).n c x) : Nat))
      have hX6 := hX5.setOther (w.heap.size + 1 + 1) (3 + x) (.int .u8 (bPos eqN (bPut eqN (bRow eqN (prA M J T).n q c x) ((prA M J T).n c x)) ((prA M J T).n c x) : Nat)) (by omega)
      have hR6 := hR5.setOther (w.heap.size + 1 + 1) (3 + x) (.int .u8 (bPos eqN (bPut eqN (bRow eqN (prA M J T).n q c x) ((prA M J T).n c x)) ((prA M J T).n c x) : Nat)) (by omega)
      have hkp6 : Keeps (pqFoot g pm qv) (pqFoot g pm qv5) w (w5.setCell ⟨w.heap.size + 1 + 1, 3 + x, none⟩ (.int .u8 (bPos eqN (bPut eqN (bRow eqN (prA M J T).n q c x) ((prA M J T).n c x)) ((prA M J T).n c x) : Nat))) := ⟨Nat.le_trans hkp5.1 (Nat.le_of_eq (by simp)), fun k hk hn => ⟨(Below.heap_setCell _ _ _ k (by show k ≠ w.heap.size + 1 + 1; omega)).trans (hkp5.2 k hk hn).1, (hkp5.2 k hk hn).2⟩⟩
      go_wp2
      go_roundw
      case rel => exact ⟨x + 1, qv5, D5, by omega, by go_num, by rw [Hrow'.out]; exact hA6, hkp6, hbw6, hX6, hR6, by rw [Hrow'.out]; exact hV6, HF5.out⟩
      case measure => simp [intOf] <;> omega
    · obtain rfl : L = x := by omega
      have Q0 : Hid (0 + 6 ≤ (c8 (rwL (prA M J T) c L L (bRow eqN (prA M J T).n q c L))).size) := Lib.hid (by rw [c8_size]; exact Nat.le_refl 6)
      have Hcut : Hid (cut (c8 (rwL (prA M J T) c L L (bRow eqN (prA M J T).n q c L))) 0 6 = c8 (rwL (prA M J T) c L L (bRow eqN (prA M J T).n q c L))) := Lib.hid (cut_six _ rfl)
      have Q1 : Hid (0 + (c8 (rwL (prA M J T) c L L (bRow eqN (prA M J T).n q c L))).size ≤ (c8 zer6).size) := Lib.hid (by rw [c8_size, c8_size]; exact Nat.le_refl 6)
      have Q2 : Hid ((Try.prog.info? 104).map (·.size) = some (c8 (rwL (prA M J T) c L L (bRow eqN (prA M J T).n q c L))).size) := Lib.hid (by rw [c8_size]; exact size_row6)
      have Q3 : Hid (over (c8 zer6) 0 (c8 (rwL (prA M J T) c L L (bRow eqN (prA M J T).n q c L))) = c8 (rwL (prA M J T) c L L (bRow eqN (prA M J T).n q c L))) := Lib.hid (over_six _ _ rfl rfl)
      have O1 := Lib.hid (c8_one' (rwL (prA M J T) c L L (bRow eqN (prA M J T).n q c L)))
      generalize hrl : c8 (rwL (prA M J T) c L L (bRow eqN (prA M J T).n q c L)) = rl at *
      have Hrl := Lib.hid hrl
      clear hrl
      generalize hzr : c8 zer6 = zr at *
      clear hzr
      go_wp2_with (first | ((with_reducible show wpList _ _ _ _ _ _); refine wpList_load_blk rfl 104 (.tmp 5) rfl (w.heap.size + 1 + 1) 0 rfl rl _ hV 6 Q0.out _ Try.underlying104 rfl size_row6 ?_; rw [Hcut.out]) | ((with_reducible show wpList _ _ _ _ _ _); refine wpList_store_row rfl 104 (.tmp 4) (.tmp 76) rfl (w.heap.size + 1) 0 rl rfl rfl _ _ hR Q1.out Q2.out O1.out _ Q3.out ?_; intro w2 hs2))
      have hA2 : PqAt w2 base g bm bk T (S * T) (bRow eqN (prA M J T).n q c L) qv' pm D' := hAx.same (fun k hk => hs2.other k (fun e => HF.out.2.1 (by subst e; exact hk)))
      have hbw2 := hs2.below _ _ (show base ≤ w.heap.size + 1 by omega) hbw
      have hkp2 : Keeps (pqFoot g pm qv) (pqFoot g pm qv') w w2 := ⟨Nat.le_trans hkp.1 (hs2.below _ _ (Nat.zero_le _) (Below.refl 0 wr)).size, fun k hk hn => ⟨(hs2.other k (by omega)).trans (hkp.2 k hk hn).1, (hkp.2 k hk hn).2⟩⟩
      exact bodyPost_cell rfl rfl hs2.blk Try.underlying104 rfl Q2.out rfl ⟨by rw [Hrl.out], hbw2, qv', D', hA2, hkp2⟩
end Go.Proofs.Ytkkooafjpancoaa

namespace Go.Proofs.Ytkkooafjpancoaa
open Go.RowKit
open Go.Maps

theorem OwnPr.alloc {w : World} {b n : Nat} {D : DataW Unit} (h : OwnPr w b n D) (o : Obj) : OwnPr (w.alloc o) b n D := World.ownsMap.alloc h o
theorem built_pq (bm bk pm : Nat) : Try.prog.built 99 [(0, .pointer (some ⟨bm, 0, none⟩)), (1, .pointer (some ⟨bk, 0, none⟩)), (3, .map (some pm))] = some (pqC bm bk (.slice none 0 0) (.map (some pm))) := by kernel_rfl
theorem rwL_pre (B : Aut) (c k j : Nat) (q q' : List Nat) (hq : q <+: q') (h : ∀ y, y < j → bPos eqN q (B.n c y) < q.length) : rwL B c k j q = rwL B c k j q' := by
  have key : ∀ y, (if y < j then (bPos eqN q (B.n c y) : Int) else 0) = if y < j then (bPos eqN q' (B.n c y) : Int) else 0 := fun y => by
    by_cases hy : y < j
    · rw [if_pos hy, if_pos hy, bPos_pre hq _ (h y hy)]
    · rw [if_neg hy, if_neg hy]
  unfold rwL
  rw [key 0, key 1, key 2]
/-- The rows of the first k points of a queue, one behind the other. -/
def rowsF (A : Aut) (L k : Nat) : List Int := ((List.range k).map (rowL A L)).flatten
theorem rowsF_succ (A : Aut) (L k : Nat) : rowsF A L (k + 1) = rowsF A L k ++ rowL A L k := by simp [rowsF, List.range_succ]
theorem rowsF_len (A : Aut) (L : Nat) : ∀ k, (rowsF A L k).length = 6 * k
  | 0 => rfl
  | k + 1 => by rw [rowsF_succ, List.length_append, rowsF_len A L k]; show 6 * k + 6 = _; omega
theorem rowsF_at (A : Aut) (L : Nat) : ∀ k i j, i < k → j < 6 → (rowsF A L k)[i * 6 + j]? = (rowL A L i)[j]?
  | 0, _, _, h, _ => absurd h (by omega)
  | k + 1, i, j, h, hj => by
    rw [rowsF_succ]
    rcases Nat.lt_or_ge i k with h1 | h1
    · rw [List.getElem?_append_left (by rw [rowsF_len]; omega), rowsF_at A L k i j h1 hj]
    · obtain rfl : i = k := by omega
      rw [List.getElem?_append_right (by rw [rowsF_len]; omega), rowsF_len, show i * 6 + j - 6 * i = j by omega]
theorem rows_seen {w : World} {base : Nat} {v : Value} {A : Aut} {L N : Nat} (h : OwnF 104 6 w base v N (rowsF A L N)) (h0 : 0 < N) : SeesR w v A L N := by
  obtain ⟨oa, cap, rfl, hq⟩ := h.view
  obtain ⟨g, cur, rfl, _, hB, hc⟩ := hq h0
  refine ⟨g, cap, cur, rfl, hB, fun i hi x hx => ?_⟩
  have key : ∀ j, j < 6 → cur[i * 6 + j]? = ((rowL A L i)[j]?).map (Value.int .u8) := fun j hj => by
    have hlt : i * 6 + j < (rowsF A L N).length := by rw [rowsF_len]; omega
    have h1 := hc (i * 6 + j) hlt
    have h2 := rowsF_at A L N i j hi hj
    rw [List.getElem?_eq_getElem hlt] at h2
    rw [h1, ← h2]; rfl
  rcases (show x = 0 ∨ x = 1 ∨ x = 2 by omega) with rfl | rfl | rfl
  · exact ⟨key 0 (by omega), key 3 (by omega)⟩
  · exact ⟨key 1 (by omega), key 4 (by omega)⟩
  · exact ⟨key 2 (by omega), key 5 (by omega)⟩
/-- A pair of the queue is read. -/
theorem cut_pair {cur : Array Value} {T : Nat} {q : List Nat} (h : ∀ i (hi : i < (prF T q).length), cur[i]? = some (.int .u8 (prF T q)[i])) (k : Nat) (hk : k < q.length) : cut cur (k * 2) 2 = #[.int .u8 (q[k] / T : Nat), .int .u8 (q[k] % T : Nat)] ∧ k * 2 + 2 ≤ cur.size := by
  obtain ⟨e1, e2⟩ := prF_at T q k hk
  have hl := prF_len T q
  have c1 := h (k * 2) (by omega)
  have c2 := h (k * 2 + 1) (by omega)
  rw [List.getElem?_eq_getElem (by omega)] at e1 e2
  rw [Option.some.inj e1] at c1
  rw [Option.some.inj e2] at c2
  refine ⟨?_, ?_⟩
  · apply Array.ext_getElem?
    intro j
    rw [get_cut]
    by_cases hj : j < 2
    · rw [if_pos hj]
      rcases (show j = 0 ∨ j = 1 by omega) with rfl | rfl
      · exact c1
      · exact c2
    · rw [if_neg hj, Array.getElem?_eq_none (by show 2 ≤ j; omega)]
  · rcases Nat.lt_or_ge (k * 2 + 1) cur.size with h1 | h1
    · omega
    · rw [Array.getElem?_eq_none (by omega)] at c2; cases c2
theorem ptA_row (B : Aut) (L c N : Nat) (hB : B.In L N) (hN : N ≤ 256) (hc : c < N) (k : Nat) (hk : k < (bAll eqN B.n L c k).length) : rwL B ((bAll eqN B.n L c k)[k]) L L (bRow eqN B.n (bAll eqN B.n L c k) ((bAll eqN B.n L c k)[k]) L) = rowL (ptA B L c) L k := by
  have hfew : (bAll eqN B.n L c k).length ≤ 256 := by
    have := few_points eqN_eq.refl (bAll_new eqN_eq L c k) (bAll_all (fun p => p < N) L (fun r hr x hx => hB r x hr hx) c hc k)
    omega
  have hk256 : k + 1 ≤ 256 := by omega
  rw [rwL_pre B _ L L _ (ptQ B L c) (by
    rw [← bAll_step L c k hk]
    exact bAll_pre L c hk256) (fun y hy => bRow_has eqN_eq.refl _ _ L y hy)]
  refine rwL_rows B L _ (ptQ B L c) k ?_
  obtain ⟨z, hz⟩ : bAll eqN B.n L c k <+: ptQ B L c := bAll_pre L c (by omega)
  rw [← hz]
  simp [List.getD, List.getElem?_append_left hk, List.getElem?_eq_getElem hk]

set_option maxRecDepth 100000 in
set_option maxHeartbeats 1500000 in
theorem pairRows_calls (M J : Mach) (L S T : Nat) (hM : Good M L S) (hJ : Good J L T) (bm bk p r : Nat) (hp : p < S) (hr : r < T) (w : World) (hBm : Blk w bm (mc M) 28) (hBk : Blk w bk (mc J) 28) :
    Calls Try.prog 75 #[.agg #[.pointer (some ⟨bm, 0, none⟩), .int .i64 (p : Int)], .agg #[.pointer (some ⟨bk, 0, none⟩), .int .i64 (r : Int)]] w fun e w' => ∃ v, e = .returned v ∧ SeesR w' v (ptA (prA M J T) L (p * T + r)) L (ptQ (prA M J T) L (p * T + r)).length ∧ Below w.heap.size w w' := by
  have hS16 := hM.S16
  have hT16 := hJ.S16
  have HM := Lib.hid hM
  have HJ := Lib.hid hJ
  have HcN : Hid (p * T + r < S * T) := Lib.hid (by
    calc p * T + r < p * T + T := by omega
      _ = (p + 1) * T := by rw [Nat.succ_mul]
      _ ≤ S * T := Nat.mul_le_mul_right T hp)
  have hN := few_prod hM.S16 hJ.S16
  have Hpr := Lib.hid (prOk hM.S16 hJ.S16)
  have Hdiv : Hid ((p * T + r) / T = p) := Lib.hid (by rw [Nat.mul_comm, Nat.mul_add_div (by omega), Nat.div_eq_of_lt hr]; rfl)
  have Hmod : Hid ((p * T + r) % T = r) := Lib.hid (by rw [Nat.mul_comm, Nat.mul_add_mod, Nat.mod_eq_of_lt hr])
  have hpw : IntKind.u8.wrap (p : Int) = (p : Int) := by simp [IntKind.wrap, IntKind.bits, IntKind.signed]; omega
  have hrw : IntKind.u8.wrap (r : Int) = (r : Int) := by simp [IntKind.wrap, IntKind.bits, IntKind.signed]; omega
  have HbmL := Lib.hid hBm.lt
  have HbkL := Lib.hid hBk.lt
  have Hbm : Hid (∀ W, Below w.heap.size w W → Blk W bm (mc M) 28) := Lib.hid (fun W hW => hBm.kept hW HbmL.out)
  have Hbk : Hid (∀ W, Below w.heap.size w W → Blk W bk (mc J) 28) := Lib.hid (fun W hW => hBk.kept hW HbkL.out)
  have hbp := built_pq bm bk (w.heap.size + 1 + 1)
  have hmm := @run_makeMap Try.prog
  have hb1 : Below w.heap.size w ((((w.alloc (.cells #[.pointer (some ⟨bm, 0, none⟩), .int .i64 (p : Int)] 57)).alloc (.cells #[.pointer (some ⟨bk, 0, none⟩), .int .i64 (r : Int)] 57)).alloc (.map #[] 0)).alloc (.cells (pqC bm bk (.slice none 0 0) (.map (some (w.heap.size + 1 + 1)))) 99)) := by (repeat (first | exact Below.refl _ _ | refine below_drew' ?_ | refine below_drewN' ?_ _ | refine below_alloc' ?_ _ | refine below_set' ?_ (by (try simp); (try omega)) _ | refine below_step ?_ (by assumption)))
  have hA0 : PqAt ((((w.alloc (.cells #[.pointer (some ⟨bm, 0, none⟩), .int .i64 (p : Int)] 57)).alloc (.cells #[.pointer (some ⟨bk, 0, none⟩), .int .i64 (r : Int)] 57)).alloc (.map #[] 0)).alloc (.cells (pqC bm bk (.slice none 0 0) (.map (some (w.heap.size + 1 + 1)))) 99)) w.heap.size (w.heap.size + 1 + 1 + 1) bm bk T (S * T) [] (.slice none 0 0) (w.heap.size + 1 + 1) (.map []) :=
    ⟨Blk.new_at _ _ _ _ (by simp), OwnF.nil _ _ _ _, (OwnPr.made _ _ (by simp)).alloc _, PMap.start _ _, by simp, fun i j hi => absurd hi (by simp), by omega, by omega, by omega, by simp [Value.ownBlock], by simp [Value.ownBlock]⟩
  have HPl := Lib.hid (place_calls w.heap.size (w.heap.size + 1 + 1 + 1) bm bk T (S * T) [] (.slice none 0 0) (w.heap.size + 1 + 1) (.map []) hN Hpr.out (p * T + r) HcN.out _ hb1.size hA0)
  rw [Hdiv.out, Hmod.out, show bPut eqN [] (p * T + r) = bAll eqN (prA M J T).n L (p * T + r) 0 from by rw [bPut_new (by simp)]; rfl] at HPl
  have Hb1 := Lib.hid hb1
  have hca : ((((w.alloc (.cells #[.pointer (some ⟨bm, 0, none⟩), .int .i64 (p : Int)] 57)).alloc (.cells #[.pointer (some ⟨bk, 0, none⟩), .int .i64 (r : Int)] 57)).alloc (.map #[] 0)).alloc (.cells #[.pointer (some ⟨bm, 0, none⟩), .pointer (some ⟨bk, 0, none⟩), .slice none 0 0, .map (some (w.heap.size + 1 + 1))] 99)).cell? ⟨w.heap.size, 1, none⟩ = some (.int .i64 (p : Int)) :=
    (((((Blk.new w #[.pointer (some ⟨bm, 0, none⟩), .int .i64 (p : Int)] 57).alloc _).alloc _).alloc _).cell 1)
  have hcb : ((((w.alloc (.cells #[.pointer (some ⟨bm, 0, none⟩), .int .i64 (p : Int)] 57)).alloc (.cells #[.pointer (some ⟨bk, 0, none⟩), .int .i64 (r : Int)] 57)).alloc (.map #[] 0)).alloc (.cells #[.pointer (some ⟨bm, 0, none⟩), .pointer (some ⟨bk, 0, none⟩), .slice none 0 0, .map (some (w.heap.size + 1 + 1))] 99)).cell? ⟨w.heap.size + 1, 1, none⟩ = some (.int .i64 (r : Int)) :=
    ((((Blk.new_at (w.alloc (.cells #[.pointer (some ⟨bm, 0, none⟩), .int .i64 (p : Int)] 57)) #[.pointer (some ⟨bk, 0, none⟩), .int .i64 (r : Int)] 57 (w.heap.size + 1) (by simp)).alloc _).alloc _).cell 1)
  clear hM hJ hBm hBk hS16 hT16 hA0 hb1
  go_enter Try.func75, Try.ntmps75
  go_wp2_with (go_at_call 81; refine HPl.out.mono ?_; rintro e w1 ⟨rfl, hb1, qv1, D1, hA1, hk1⟩)
  have hbw1 : Below w.heap.size w w1 := Hb1.out.trans hb1
  obtain ⟨g, hg⟩ : ∃ g, w.heap.size + 1 + 1 + 1 = g := ⟨_, rfl⟩
  obtain ⟨pm, hpm⟩ : ∃ pm, w.heap.size + 1 + 1 = pm := ⟨_, rfl⟩
  have hO1 : OwnF 104 6 w1 w.heap.size (.slice none 0 0) 0 (rowsF (ptA (prA M J T) L (p * T + r)) L 0) := OwnF.nil _ _ _ _
  have Hf1 : Hid (∀ b, (Value.slice none 0 0).ownBlock = some b → ¬ pqFoot g pm qv1 b) := Lib.hid (fun b hb => by simp [Value.ownBlock] at hb)
  rw [hg, hpm] at hA1
  rw [hg]
  clear hca hcb HPl hb1 hk1 Hb1 hbp hmm hg hpm Hdiv Hmod hpw hrw
  obtain ⟨c, hc⟩ : ∃ c, p * T + r = c := ⟨_, rfl⟩
  rw [hc] at hA1 hO1 HcN
  simp only [hc]
  have Hc := Lib.hid hc
  clear hc
  go_loopw [6, 7] (fun pv i wr => ∃ (k : Nat) (D : DataW Unit) (qv rv : Value), rv = pv ∧ k ≤ (bAll eqN (prA M J T).n L c k).length ∧ i = .int .i64 k ∧ OwnF 104 6 wr w.heap.size rv k (rowsF (ptA (prA M J T) L c) L k) ∧ PqAt wr w.heap.size g bm bk T (S * T) (bAll eqN (prA M J T).n L c k) qv pm D ∧ Below w.heap.size w wr ∧ Hid (∀ b, rv.ownBlock = some b → ¬ pqFoot g pm qv b)) (fun _ i _ => 257 - (intOf i).toNat)
  case atStart => exact ⟨0, D1, qv1, _, rfl, Nat.zero_le _, rfl, hO1, hA1, hbw1, Hf1⟩
  case round =>
    clear hO1 hA1 hbw1 Hf1
    obtain ⟨k, D, qv, rv, rfl, hk, rfl, hO, hA, hbw, Hf⟩ := hrel
    have hfew := hA.few
    have hsz := hbw.size
    by_cases hlt : k < (bAll eqN (prA M J T).n L c k).length
    · have hlti : (k : Int) < ((bAll eqN (prA M J T).n L c k).length : Int) := by omega
      obtain ⟨oq, cq, rfl, hqc⟩ := hA.row.view
      obtain ⟨gq, cur, rfl, _, hBq, hcq⟩ := hqc (by omega)
      clear hqc
      obtain ⟨hcut, hroom⟩ := cut_pair hcq k hlt
      have Hstep := Lib.hid (bAll_step (E := eqN) (n := (prA M J T).n) L c k hlt)
      have Hrw := Lib.hid (ptA_row (prA M J T) L c (S * T) (prA_in HM.out HJ.out) hN HcN.out k hlt)
      have hckN := hA.lt _ (List.getElem_mem hlt)
      have HRo := rowOf_calls M J L S T HM.out HJ.out w.heap.size g bm bk _ _ pm D _ hckN wr hsz hA HbmL.out HbkL.out (Hbm.out _ hbw) (Hbk.out _ hbw)
      rw [Hrw.out, ← Hstep.out] at HRo
      generalize (bAll eqN (prA M J T).n L c k)[k] = ck at *
      obtain ⟨x0, x1, x2, x3, x4, x5, hx⟩ : ∃ x0 x1 x2 x3 x4 x5, rowL (ptA (prA M J T) L c) L k = [x0, x1, x2, x3, x4, x5] := ⟨_, _, _, _, _, _, rfl⟩
      have Hrs : Hid (rowsF (ptA (prA M J T) L c) L (k + 1) = rowsF (ptA (prA M J T) L c) L k ++ [x0, x1, x2, x3, x4, x5]) := Lib.hid (by rw [rowsF_succ, hx])
      rw [hx, show c8 [x0, x1, x2, x3, x4, x5] = #[.int .u8 x0, .int .u8 x1, .int .u8 x2, .int .u8 x3, .int .u8 x4, .int .u8 x5] from rfl] at HRo
      have Hk20 : Hid (k ≤ 1048576) := Lib.hid (by omega)
      have HRo2 := Lib.hid (HRo.mono (R' := fun e w1 => e = .returned (.agg #[.int .u8 x0, .int .u8 x1, .int .u8 x2, .int .u8 x3, .int .u8 x4, .int .u8 x5]) ∧ ∃ qv1 D1, PqAt (w1.alloc (.cells #[.int .u8 x0, .int .u8 x1, .int .u8 x2, .int .u8 x3, .int .u8 x4, .int .u8 x5] 104)) w.heap.size g bm bk T (S * T) (bAll eqN (prA M J T).n L c (k + 1)) qv1 pm D1 ∧
        OwnF 104 6 (w1.alloc (.cells #[.int .u8 x0, .int .u8 x1, .int .u8 x2, .int .u8 x3, .int .u8 x4, .int .u8 x5] 104)) w.heap.size rv k (rowsF (ptA (prA M J T) L c) L k) ∧ Blk (w1.alloc (.cells #[.int .u8 x0, .int .u8 x1, .int .u8 x2, .int .u8 x3, .int .u8 x4, .int .u8 x5] 104)) w1.heap.size #[.int .u8 x0, .int .u8 x1, .int .u8 x2, .int .u8 x3, .int .u8 x4, .int .u8 x5] 104 ∧
        Below w.heap.size w (w1.alloc (.cells #[.int .u8 x0, .int .u8 x1, .int .u8 x2, .int .u8 x3, .int .u8 x4, .int .u8 x5] 104)) ∧ ∀ b, rv.ownBlock = some b → ¬ pqFoot g pm qv1 b) (fun e w1 h => by
        obtain ⟨he, hb1, qv1, D1, hA1, hk1⟩ := h
        have hal : Below w1.heap.size w1 (w1.alloc (.cells #[.int .u8 x0, .int .u8 x1, .int .u8 x2, .int .u8 x3, .int .u8 x4, .int .u8 x5] 104)) := by (repeat (first | exact Below.refl _ _ | refine below_drew' ?_ | refine below_drewN' ?_ _ | refine below_alloc' ?_ _ | refine below_set' ?_ (by (try simp); (try omega)) _ | refine below_step ?_ (by assumption)))
        have hbw1 := hbw.trans hb1
        have hOk := fun b hb => hk1.2 b (hO.ltt b hb).2 (Hf.out b hb)
        exact ⟨he, qv1, D1, hA1.below hal, (hO.same (fun b hb => (hOk b hb).1)).below hal, Blk.new _ _ _, hbw1.trans (below_le hal hbw1.size), fun b hb => (hOk b hb).2⟩))
      clear HRo hx
      generalize (ck / T : Nat) = ca at *
      generalize (ck % T : Nat) = cb at *
      have cQ : wr.cell? ⟨g, 2, none⟩ = some (.slice (some ⟨gq, 0, none⟩) (bAll eqN (prA M J T).n L c k).length cq) := hA.blk.cell 2
      go_wp2_with (first | (go_at_call 82; refine HRo2.out.mono ?_; rintro e w1 ⟨rfl, qv1, D1, hA1, hO1, hX1, hbw1, hf1⟩; have hsz1 := hbw1.size) | ((with_reducible show wpList _ _ _ _ _ _); refine wpList_load_blk rfl 102 (.tmp 40) rfl gq (k * 2) rfl cur _ hBq 2 hroom _ Try.underlying102 rfl size_pair ?_; rw [hcut]) | (at_builtin; refine wpList_push_row rfl (.tmp 33) (.tmp 43) rfl w.heap.size rv k (rowsF (ptA (prA M J T) L c) L k) rfl hO1 w1.heap.size 1 x0 x1 x2 x3 x4 x5 rfl hX1 Hk20.out hsz1 ?_; intro v3 w3 hO3 hb3 hs3 hat3))
      go_roundw
      case rel => exact ⟨k + 1, D1, qv1, _, rfl, by have := (bAll_pre1 (E := eqN) (n := (prA M J T).n) L c k).length_le; omega, by go_num, by rw [Hrs.out]; exact hO3, hA1.same (fun b hb => hs3 b (hA1.ltt b hb).2 (fun e => hf1 b e.symm hb)), hbw1.trans hb3, Lib.hid (fun b hb hf => by
        rcases hat3 with e | e
        · exact hf1 b (e ▸ hb) hf
        · rw [e] at hb
          cases hb
          exact absurd (hA1.ltt _ hf).2 (Nat.lt_irrefl _))⟩
      case measure => simp [intOf] <;> omega
    · have hnlti : ¬ (k : Int) < ((bAll eqN (prA M J T).n L c k).length : Int) := by omega
      obtain ⟨oq, cq, rfl, hqc⟩ := hA.row.view
      clear hqc
      have hke : (bAll eqN (prA M J T).n L c k).length = k := by omega
      have Hq : Hid (ptQ (prA M J T) L c = bAll eqN (prA M J T).n L c k) := Lib.hid (bAll_stay L c k (by omega) 256 (by omega))
      have Hpos := Lib.hid (bAll_pos (E := eqN) (n := (prA M J T).n) L c k)
      have Hke := Lib.hid hke
      clear hke
      have cQ : wr.cell? ⟨g, 2, none⟩ = some (.slice oq (bAll eqN (prA M J T).n L c k).length cq) := hA.blk.cell 2
      go_wp2
      go_ret
      exact ⟨rv, rfl, by rw [Hc.out, Hq.out, Hke.out]; exact rows_seen hO (by have := Hpos.out; have := Hke.out; omega), hbw⟩
end Go.Proofs.Ytkkooafjpancoaa

namespace Go.Proofs.Ytkkooafjpancoaa
open Go.RowKit

/-- The walk up to the loop. -/
def refOk (A : Aut) (L N : Nat) (w w' : World) (e : Ending) : Prop :=
  if cntB (aRep A L 256) N ≤ 16 then (∃ v t, e = .returned v ∧ AStill A L N t ∧ OwnN w' w.heap.size v ((List.range N).map (aNum A L t))) else e = gaveUp 3

set_option maxRecDepth 100000 in
set_option maxHeartbeats 4000000 in
theorem refine_calls (A : Aut) (L N : Nat) (hL : L ≤ 3) (h0 : 0 < N) (hN : N ≤ 256) (hA : A.In L N) (hb : A.Bytes L N) (rv : Value) (w : World) (hr : SeesR w rv A L N) :
    Calls Try.prog 77 #[rv] w fun e w' => refOk A L N w w' e ∧ Below w.heap.size w w' := by
  obtain ⟨gr, capr, curr, rfl, hBr, hcr⟩ := id hr
  have Hr := Lib.hid hr
  have hmk := mk_bytes N (by omega)
  have hF1 : Blk (w.alloc (.cells (nats (List.replicate N 0)) 5)) w.heap.size (nats (List.replicate N 0)) 5 := Blk.new w _ _
  have hbel0 : Below w.heap.size w (w.alloc (.cells (nats (List.replicate N 0)) 5)) := by (repeat (first | exact Below.refl _ _ | refine below_drew' ?_ | refine below_drewN' ?_ _ | refine below_alloc' ?_ _ | refine below_set' ?_ (by (try simp); (try omega)) _ | refine below_step ?_ (by assumption)))
  have hO1 : OwnN (w.alloc (.cells (nats (List.replicate N 0)) 5)) w.heap.size (.slice (some ⟨w.heap.size, 0, none⟩) N N) ((List.range N).map (aNum A L 0)) := by
    have h1 := OwnN.made (base := w.heap.size) (ks := List.replicate N 0) (Nat.le_refl _) hF1 rfl (by simp; omega)
    have h2 : (List.range N).map (aNum A L 0) = List.replicate N 0 := by
      rw [show (aNum A L 0) = fun _ => 0 from funext fun q => aNum_zero A L q, List.map_const', List.length_range]
    rw [h2]
    simpa using h1
  have Hc := Lib.hid (cnt_zero A L N h0)
  clear hr hBr hcr hF1
  have hst : AStill A L N 256 := aStill_from hA 256 hN
  have Hst := Lib.hid hst
  have Hin := Lib.hid hA
  have Hby := Lib.hid hb
  clear hst hA hb
  go_enter Try.func77, Try.ntmps77
  go_wp2
  refine wp_scope_jumps 0 (fun a' w' => ∃ (t : Nat) (v u1 u5 u6 u7 u8 u9 u10 u11 u12 u13 u14 u15 u16 u17 u18 u19 u20 u21 u22 u23 u24 : Value), a' = { tmps := #[.slice (some ⟨gr, 0, none⟩) N capr, u1, .slice none 0 0, v, .int .i64 (cntB (aRep A L t) N : Nat), u5, u6, u7, u8, u9, u10, u11, u12, u13, u14, u15, u16, u17, u18, u19, u20, u21, u22, u23, u24], defers := [] } ∧ OwnN w' w.heap.size v ((List.range N).map (aNum A L t)) ∧ Below w.heap.size w w' ∧ cntB (aRep A L t) N ≤ 16) (fun a' _ => 17 - (intOf (a'.tmps.getD 4 undef)).toNat) rfl ?_ ?_
  · go_wp2
    go_step3
    obtain ⟨w', hw'⟩ : ∃ w', w.alloc (.cells (nats (List.replicate N 0)) 5) = w' := ⟨_, rfl⟩
    rw [hw'] at hO1 hbel0 ⊢
    clear hw'
    obtain ⟨v, hv⟩ : ∃ v, Value.slice (some ⟨w.heap.size, 0, none⟩) N N = v := ⟨_, rfl⟩
    rw [hv] at hO1 ⊢
    clear hv
    have hO := hO1; have hbw := hbel0; clear hO1 hbel0
    have hle : cntB (aRep A L 0) N ≤ 16 := by rw [Hc.out]; omega
    have hcm := cnt_most Hin.out Hst.out (0 + 1)
    have hDv := divideOnce_calls A L N 0 hL h0 hN Hin.out Hby.out (.slice (some ⟨gr, 0, none⟩) N capr) v _ (Hr.out.below hbw) (hO.sees h0)
    have HDv := Lib.hid hDv
    have Hs0 : Hid (cntB (aRep A L (0 + 1)) N ≤ cntB (aRep A L 0) N → AStill A L N 0) := Lib.hid still_of_cnt
    have Hs1 : Hid (AStill A L N 0 → cntB (aRep A L 0) N = cntB (aRep A L 256) N) := Lib.hid (fun h => still_cnt Hin.out h Hst.out)
    clear hDv
    generalize hc1 : cntB (aRep A L (0 + 1)) N = c1 at *
    have Hc1 := Lib.hid hc1; clear hc1
    generalize hc0 : cntB (aRep A L 0) N = c0 at *
    have Hc0 := Lib.hid hc0; clear hc0
    obtain rfl : c0 = 1 := Hc.out
    by_cases h16 : 16 < c1
    · have h16i : (16 : Int) < (c1 : Int) := by omega
      have H16 : Hid (¬ cntB (aRep A L 256) N ≤ 16) := Lib.hid (by omega)
      clear hcm
      go_wp2_with (first | (go_at_call 83; refine HDv.out.mono ?_; rintro e w1 ⟨v1, rfl, hO1, hb1⟩; have hbw1 := below_step hbw hb1) | (go_at_call 84; refine (goOn_calls 3 (by decide) _).mono ?_; rintro e w2 ⟨he, rfl⟩; unfold gaveUp at he; subst he))
      exact ⟨rfl, by unfold refOk; rw [if_neg H16.out]; rfl, hbw1⟩
    · clear hcm
      have h16i : ¬ (16 : Int) < (c1 : Int) := by omega
      by_cases hgt : 1 < c1
      · have hgti : (1 : Int) < (c1 : Int) := by omega
        go_wp2_with (go_at_call 83; refine HDv.out.mono ?_; rintro e w1 ⟨v1, rfl, hO1, hb1⟩; have hbw1 := below_step hbw hb1; have hO1' := hO1.base_le hbw.size)
        go_step3
        refine ⟨rfl, 0 + 1, v1, undef, _, _, _, _, _, _, _, _, _, _, _, _, _, _, _, _, _, _, _, _, by rw [Hc1.out], hO1', hbw1, by rw [Hc1.out]; omega⟩
      · have hgti : ¬ (1 : Int) < (c1 : Int) := by omega
        have hst := Hs0.out (by omega)
        have Hle : Hid (cntB (aRep A L 256) N ≤ 16) := Lib.hid (by rw [← Hs1.out hst]; exact hle)
        have Hst2 := Lib.hid hst; clear hst
        go_wp2_with (go_at_call 83; refine HDv.out.mono ?_; rintro e w1 ⟨v1, rfl, hO1, hb1⟩; have hbw1 := below_step hbw hb1; have hO1' := hO.below hb1)
        simp only [Exit.jump]
        go_ret
        exact ⟨by unfold refOk; rw [if_pos Hle.out]; exact ⟨_, _, rfl, Hst2.out, hO1'⟩, hbw1⟩
  · rintro a' w' ⟨t, v, u1, u5, u6, u7, u8, u9, u10, u11, u12, u13, u14, u15, u16, u17, u18, u19, u20, u21, u22, u23, u24, rfl, hO, hbw, hle⟩
    have hcm := cnt_most Hin.out Hst.out (t + 1)
    have hDv := divideOnce_calls A L N t hL h0 hN Hin.out Hby.out (.slice (some ⟨gr, 0, none⟩) N capr) v _ (Hr.out.below hbw) (hO.sees h0)
    have HDv := Lib.hid hDv
    have Hs0 : Hid (cntB (aRep A L (t + 1)) N ≤ cntB (aRep A L t) N → AStill A L N t) := Lib.hid still_of_cnt
    have Hs1 : Hid (AStill A L N t → cntB (aRep A L t) N = cntB (aRep A L 256) N) := Lib.hid (fun h => still_cnt Hin.out h Hst.out)
    clear hDv
    generalize hc1 : cntB (aRep A L (t + 1)) N = c1 at *
    have Hc1 := Lib.hid hc1; clear hc1
    generalize hc0 : cntB (aRep A L t) N = c0 at *
    have Hc0 := Lib.hid hc0; clear hc0
    by_cases h16 : 16 < c1
    · have h16i : (16 : Int) < (c1 : Int) := by omega
      have H16 : Hid (¬ cntB (aRep A L 256) N ≤ 16) := Lib.hid (by omega)
      clear hcm
      go_wp2_with (first | (go_at_call 83; refine HDv.out.mono ?_; rintro e w1 ⟨v1, rfl, hO1, hb1⟩; have hbw1 := below_step hbw hb1) | (go_at_call 84; refine (goOn_calls 3 (by decide) _).mono ?_; rintro e w2 ⟨he, rfl⟩; unfold gaveUp at he; subst he))
      exact ⟨rfl, by unfold refOk; rw [if_neg H16.out]; rfl, hbw1⟩
    · clear hcm
      have h16i : ¬ (16 : Int) < (c1 : Int) := by omega
      by_cases hgt : c0 < c1
      · have hgti : (c0 : Int) < (c1 : Int) := by omega
        go_wp2_with (go_at_call 83; refine HDv.out.mono ?_; rintro e w1 ⟨v1, rfl, hO1, hb1⟩; have hbw1 := below_step hbw hb1; have hO1' := hO1.base_le hbw.size)
        go_step3
        refine ⟨rfl, ⟨t + 1, v1, u1, _, _, _, _, _, _, _, _, _, _, _, _, _, _, _, _, _, _, _, _, by rw [Hc1.out], hO1', hbw1, by rw [Hc1.out]; omega⟩, ?_⟩
        simp [intOf]
        omega
      · have hgti : ¬ (c0 : Int) < (c1 : Int) := by omega
        have hst := Hs0.out (by omega)
        have Hle : Hid (cntB (aRep A L 256) N ≤ 16) := Lib.hid (by rw [← Hs1.out hst]; exact hle)
        have Hst2 := Lib.hid hst; clear hst
        go_wp2_with (go_at_call 83; refine HDv.out.mono ?_; rintro e w1 ⟨v1, rfl, hO1, hb1⟩; have hbw1 := below_step hbw hb1; have hO1' := hO.below hb1)
        simp only [Exit.jump]
        go_ret
        exact ⟨by unfold refOk; rw [if_pos Hle.out]; exact ⟨_, _, rfl, Hst2.out, hO1'⟩, hbw1⟩
end Go.Proofs.Ytkkooafjpancoaa

namespace Go.Proofs.Ytkkooafjpancoaa
open Go.RowKit
open Go.Maps

theorem ptA_bytes {M J : Mach} {L S T c : Nat} (hM : Good M L S) (hJ : Good J L T) (hc : c < S * T) : (ptA (prA M J T) L c).Bytes L (ptQ (prA M J T) L c).length := fun i x hi hx => by
  rw [(ptA_hom (prA_in hM hJ) (few_prod hM.S16 hJ.S16) hc i x hi hx).1]
  exact prA_bd hJ.ok _ _
/-- The machine of the numbers of sets that nothing divides any more. -/
theorem times_mach {M J : Mach} {L S T c t : Nat} (hM : Good M L S) (hJ : Good J L T) (hc : c < S * T) (h16 : (prodQ M J L T c).length ≤ 16) (ht : AStill (ptA (prA M J T) L c) L (ptQ (prA M J T) L c).length t) :
    maR (ptA (prA M J T) L c) (aNum (ptA (prA M J T) L c) L t) L 0 = prodM M J L T c ∧ maC (ptA (prA M J T) L c) (aNum (ptA (prA M J T) L c) L t) L 0 = 0 := by
  have hB := prA_in hM hJ
  have hN := few_prod hM.S16 hJ.S16
  have hA := ptA_in hB hN hc
  have hP : (ptQ (prA M J T) L c).length ≤ 256 := ptQ_few hB hN hc
  have h0 := ptQ_pos (prA M J T) L c
  have hl : (bAll (fE (aNum (ptA (prA M J T) L c) L t)) (ptA (prA M J T) L c).n L 0 256).length ≤ 16 := by
    have e1 : (bAll (numE (ptA (prA M J T) L c) L t) (ptA (prA M J T) L c).n L 0 256).length = (setQ (ptA (prA M J T) L c) L 0).length := (numQ_pair hA hP ht h0 256).len
    have e2 := pt_len hB hN hc
    have e3 : (setQ (prA M J T) L c).length ≤ 16 := h16
    show (bAll (numE (ptA (prA M J T) L c) L t) (ptA (prA M J T) L c).n L 0 256).length ≤ 16
    omega
  unfold maR maC
  rw [if_pos hl, if_pos hl]
  exact ⟨(numQ_mach hA hP ht h0).trans (pt_mach hB hN hc), rfl⟩


set_option maxRecDepth 100000 in
set_option maxHeartbeats 3000000 in
theorem times_ok (M J : Mach) (L S T : Nat) (hM : Good M L S) (hJ : Good J L T) (bm bk p r : Nat) (hp : p < S) (hr : r < T) (h16 : (prodQ M J L T (p * T + r)).length ≤ 16) (w : World) (hBm : Blk w bm (mc M) 28) (hBk : Blk w bk (mc J) 28) :
    Calls Try.prog 50 #[.agg #[.pointer (some ⟨bm, 0, none⟩), .int .i64 (p : Int)], .agg #[.pointer (some ⟨bk, 0, none⟩), .int .i64 (r : Int)]] w fun e w' => e = .returned (.agg (mc (prodM M J L T (p * T + r)))) ∧ Below w.heap.size w w' := by
  have hbm := hBm.lt
  have hcN : p * T + r < S * T := by
    calc p * T + r < p * T + T := by omega
      _ = (p + 1) * T := by rw [Nat.succ_mul]
      _ ≤ S * T := Nat.mul_le_mul_right T hp
  have hB := prA_in hM hJ
  have hN := few_prod hM.S16 hJ.S16
  have hcnt : cntB (aRep (ptA (prA M J T) L (p * T + r)) L 256) (ptQ (prA M J T) L (p * T + r)).length = (prodQ M J L T (p * T + r)).length := pt_cnt hB hN hcN
  have hpos := ptQ_pos (prA M J T) L (p * T + r)
  have hfew := ptQ_few hB hN hcN
  have hIn := ptA_in hB hN hcN
  have hBy := ptA_bytes hM hJ hcN
  have hmach := fun t h16 ht => times_mach (t := t) hM hJ hcN h16 ht
  have hpr := fun W h1 h2 => pairRows_calls M J L S T hM hJ bm bk p r hp hr W h1 h2
  have hRs : (mc (prodM M J L T (p * T + r))).size = 98 := by simp [mc, prodM, setM, qM, mkM]
  obtain ⟨A, hAe⟩ : ∃ A, ptA (prA M J T) L (p * T + r) = A := ⟨_, rfl⟩
  obtain ⟨N, hNe⟩ : ∃ N, (ptQ (prA M J T) L (p * T + r)).length = N := ⟨_, rfl⟩
  rw [hAe, hNe] at hcnt
  rw [hNe] at hpos hfew
  rw [hAe, hNe] at hIn hBy
  simp only [hAe, hNe] at hmach
  simp only [hAe, hNe] at hpr
  have HRf := Lib.hid (fun v W => refine_calls A L N hM.L3 hpos hfew hIn hBy v W)
  have hW : Below w.heap.size w (((w.alloc (.cells #[.pointer (some ⟨bm, 0, none⟩), .int .i64 (p : Int)] 57)).alloc (.cells #[.pointer (some ⟨bk, 0, none⟩), .int .i64 (r : Int)] 57)).alloc (.cells (mc zeroM) 28)) := by (repeat (first | exact Below.refl _ _ | refine below_drew' ?_ | refine below_drewN' ?_ _ | refine below_alloc' ?_ _ | refine below_set' ?_ (by (try simp); (try omega)) _ | refine below_step ?_ (by assumption)))
  have HPr := Lib.hid (hpr _ (hBm.kept hW hbm) (hBk.kept hW hBk.lt))
  have hG0 : Blk (((w.alloc (.cells #[.pointer (some ⟨bm, 0, none⟩), .int .i64 (p : Int)] 57)).alloc (.cells #[.pointer (some ⟨bk, 0, none⟩), .int .i64 (r : Int)] 57)).alloc (.cells (mc zeroM) 28)) w.heap.size #[.pointer (some ⟨bm, 0, none⟩), .int .i64 (p : Int)] 57 := ((Blk.new w _ _).alloc _).alloc _
  have hZ0 : Blk (((w.alloc (.cells #[.pointer (some ⟨bm, 0, none⟩), .int .i64 (p : Int)] 57)).alloc (.cells #[.pointer (some ⟨bk, 0, none⟩), .int .i64 (r : Int)] 57)).alloc (.cells (mc zeroM) 28)) (w.heap.size + 1 + 1) (mc zeroM) 28 := Blk.new_at _ _ _ _ (by simp)
  have hM0 := hBm.kept hW hbm
  have HW := Lib.hid hW
  have HG0 := Lib.hid hG0
  have HZ0 := Lib.hid hZ0
  have HM0 := Lib.hid hM0
  have HcL := Lib.hid (show (mc M)[0]? = some (.int .i64 (L : Int)) from by rw [mc_L, hM.hL])
  have hzm := zero_mach
  obtain ⟨PM, hPe⟩ : ∃ PM, mc (prodM M J L T (p * T + r)) = PM := ⟨_, rfl⟩
  rw [hPe] at hRs
  have HPe := Lib.hid hPe
  have HMa := Lib.hid (fun t (ht : AStill A L N t) v2 v1 W hv1 hv2 => machineAt_calls A L N (aNum A L t) hM.L2 hM.L3 hfew hIn hBy (fun i hi => by
    have h1 := aNum_le A L t i
    omega) v1 v2 0 hpos W hv1 hv2)
  have HMc : Hid (∀ t, AStill A L N t → mc (maR A (aNum A L t) L 0) = PM ∧ maC A (aNum A L t) L 0 = 0) := Lib.hid (fun t ht => ⟨by rw [(hmach t h16 ht).1, hPe], (hmach t h16 ht).2⟩)
  have HRk : Hid (∀ W W' e, refOk A L N W W' e → ∃ v t, e = .returned v ∧ AStill A L N t ∧ OwnN W' W.heap.size v ((List.range N).map (aNum A L t))) := Lib.hid (fun W W' e he => by
    unfold refOk at he
    rw [hcnt, if_pos h16] at he
    exact he)
  have HRs := Lib.hid hRs
  have HzS : Hid ((mc zeroM).size = 98) := Lib.hid (by simp [mc, zeroM])
  have F1 : Hid (cut PM 0 98 = PM) := Lib.hid (cut_all _ _ HRs.out)
  have F2 : Hid (over (mc zeroM) 0 PM = PM) := Lib.hid (over_all _ _ (by rw [HRs.out, HzS.out]))
  have HP0 := Lib.hid hpos
  have O1 : Hid (PM.all (·.oneCell') = true) := Lib.hid (by rw [← hPe]; exact mc_one _)
  clear hM hJ hBm hBk hG0 hZ0 hM0 hW hB hN hcN hcnt hpos hfew hIn hBy hmach hpr hRs hPe hAe hNe
  go_enter Try.func50, Try.ntmps50
  go_wp2_with (go_at_call 75; refine HPr.out.mono ?_; rintro e w1 ⟨v1, rfl, hv1, hb1⟩)
  have hdr : Below w1.heap.size w1 w1.drew := (Below.refl _ _).drew
  have hR_0 := hv1.below hdr
  have hb_0 := (HW.out.trans (below_le hb1 HW.out.size)).trans (below_le hdr (HW.out.trans (below_le hb1 HW.out.size)).size)
  have hZ_0 := (HZ0.out.keptAll hb1).keptAll hdr
  have hS_0 : Blk w1.drew w.heap.size #[.pointer (some ⟨bm, 0, none⟩), .int .i64 (p : Int)] 57 ∧ Blk w1.drew bm (mc M) 28 := ⟨(HG0.out.keptAll hb1).keptAll hdr, (HM0.out.keptAll hb1).keptAll hdr⟩
  clear hv1 hb1 hdr
  refine wp_region_held_drew (S := fun W => Blk W w.heap.size #[.pointer (some ⟨bm, 0, none⟩), .int .i64 (p : Int)] 57 ∧ Blk W bm (mc M) 28) (by kernel_rfl) hS_0 (fun hS0 => ?_)
  generalize w1.drew = W0 at *
  (refine hK_take 0 (.pointer (some ⟨w.heap.size, 0, none⟩)) rfl (by kernel_rfl) (by kernel_rfl) (by kernel_rfl) (fun _ _ _ h => h) rfl (fun W _ => by go_simp) hS0 ?_; (intro K hK; go_simp; refine hK _ ?_; clear hK K))
  (refine hK_take 1 (.pointer (some ⟨bm, 0, none⟩)) rfl (by kernel_rfl) (by kernel_rfl) (by kernel_rfl) (fun _ _ _ h => h) rfl (fun W hW => by have c1 : W.cell? ⟨w.heap.size, 0, none⟩ = some (.pointer (some ⟨bm, 0, none⟩)) := hW.1.cell 0; clear hW; go_simp) hS0 ?_; (intro K hK; go_simp; refine hK _ ?_; clear hK K))
  (refine hK_take 2 (.pointer (some ⟨bm, 0, none⟩)) rfl (by kernel_rfl) (by kernel_rfl) (by kernel_rfl) (fun _ _ _ h => h) rfl (fun W _ => by go_simp) hS0 ?_; (intro K hK; go_simp; refine hK _ ?_; clear hK K))
  (refine hK_take 3 (.pointer (some ⟨bm, 0, none⟩)) rfl (by kernel_rfl) (by kernel_rfl) (by kernel_rfl) (fun _ _ _ h => h) rfl (fun W _ => by go_simp) hS0 ?_; (intro K hK; go_simp; refine hK _ ?_; clear hK K))
  (refine hK_take 4 (.int .i64 (L : Int)) rfl (by kernel_rfl) (by kernel_rfl) (by kernel_rfl) (fun _ _ _ h => h) rfl (fun W hW => by have c1 := (hW.2.cell 0).trans HcL.out; clear hW; go_simp) hS0 ?_; (intro K hK; go_simp; refine hK _ ?_; clear hK K))
  (refine hK_take 5 (v1) rfl (by kernel_rfl) (by kernel_rfl) (by kernel_rfl) (fun _ _ _ h => h) rfl (fun W _ => by go_simp) hS0 ?_; (intro K hK; go_simp; refine hK _ ?_; clear hK K))
  (refine hK_take 6 (v1) rfl (by kernel_rfl) (by kernel_rfl) (by kernel_rfl) (fun _ _ _ h => h) rfl (fun W _ => by go_simp) hS0 ?_; (intro K hK; go_simp; refine hK _ ?_; clear hK K))
  clear hS0
  refine wpAnyH_ready (rs := [7, 12]) (by kernel_rfl) (by simp) ?_
  refine (AllReadyH.cons rfl (fun K hK => ?_) (AllReadyH.cons rfl (fun K hK => ?_) (AllReadyH.nil)))
  · go_simp
    refine (HRf.out v1 W0 hR_0).mono ?_
    rintro e W1 ⟨he, hc⟩
    obtain ⟨v2, t, rfl, ht, hv⟩ := HRk.out _ _ _ he
    have Ht := Lib.hid ht
    have hS_1 := And.intro (hS_0.1.keptAll hc) (hS_0.2.keptAll hc)
    have hZ_1 := hZ_0.keptAll hc
    have hR_1 := hR_0.below hc
    have hV_1 := hv.sees HP0.out
    have hb_1 := below_step hb_0 hc
    clear hc he hv ht hS_0 hZ_0 hR_0 hb_0
    go_simp
    refine hK.out _ _ hS_1 (fun hS => ?_)
    clear hK K hS
    refine wpAnyH_ready (rs := [8, 12]) (by kernel_rfl) (by simp) ?_
    refine (AllReadyH.cons rfl (fun K hK => ?_) (AllReadyH.cons rfl (fun K hK => ?_) (AllReadyH.nil)))
    · go_simp
      refine (HMa.out t Ht.out v2 v1 W1 hR_1 hV_1).mono ?_
      rintro e W2 ⟨rfl, hc⟩
      rw [(HMc.out t Ht.out).1, (HMc.out t Ht.out).2]
      have hS_2 := And.intro (hS_1.1.keptAll hc) (hS_1.2.keptAll hc)
      have hZ_2 := hZ_1.keptAll hc
      have hb_2 := below_step hb_1 hc
      clear hc hS_1 hZ_1 hR_1 hb_1 hV_1
      go_simp
      refine hK.out _ _ hS_2 (fun hS => ?_)
      clear hK K hS
      have hS := hS_2
      (refine hK_take 9 (.tuple #[.agg PM, .int .i64 0]) rfl (by kernel_rfl) (by kernel_rfl) (by kernel_rfl) (fun _ _ _ h => h) rfl (fun W _ => by go_simp) hS ?_; (intro K hK; go_simp; refine hK _ ?_; clear hK K))
      (refine hK_take 10 (.agg PM) rfl (by kernel_rfl) (by kernel_rfl) (by kernel_rfl) (fun _ _ _ h => h) rfl (fun W _ => by go_simp) hS ?_; (intro K hK; go_simp; refine hK _ ?_; clear hK K))
      (refine hK_take 11 (.int .i64 0) rfl (by kernel_rfl) (by kernel_rfl) (by kernel_rfl) (fun _ _ _ h => h) rfl (fun W _ => by go_simp) hS ?_; (intro K hK; go_simp; refine hK _ ?_; clear hK K))
      clear hS
      refine wpAnyH_ready (rs := [12]) (by kernel_rfl) (by simp) ?_
      refine (AllReadyH.cons rfl (fun K hK => ?_) (AllReadyH.nil))
      · go_simp
        have hS_3 := And.intro (hS_2.1.alloc (.cells (mc zeroM) 28)) (hS_2.2.alloc (.cells (mc zeroM) 28))
        have hZ_3 := hZ_2.alloc (.cells (mc zeroM) 28)
        have hN_3 : Blk (W2.alloc (.cells (mc zeroM) 28)) W2.heap.size (mc zeroM) 28 := Blk.new _ _ _
        have o6 := hZ_2.lt
        have hb_3 := below_alloc' hb_2 (.cells (mc zeroM) 28)
        refine hK.out _ _ hS_3 (fun hS => ?_)
        clear hK K hS hS_2 hZ_2 hb_2
        generalize W2.alloc (.cells (mc zeroM) 28) = W3 at *
        generalize W2.heap.size = b6 at *
        refine hK_store 13 rfl (by kernel_rfl) rfl 28 _ _ rfl b6 0 PM rfl rfl _ _ hN_3 (by rw [HRs.out, HzS.out]; omega) (by rw [HRs.out]; exact size_mach) O1.out _ F2.out (fun W4 hs => ⟨⟨hs.keep (by omega) hS_3.1, hs.keep (by omega) hS_3.2⟩, fun hS => ?_⟩)
        (intro K hK; go_simp; refine hK _ ?_; clear hK K)
        have hN_4 := hs.blk
        have hZ_4 := hs.keep (by omega) hZ_3
        have hb_4 := hs.below _ _ (by omega) hb_3
        clear hs hS_3 hZ_3 hN_3 hb_3
        (refine hK_take 14 (.int .i64 0) rfl (by kernel_rfl) (by kernel_rfl) (by kernel_rfl) (fun _ _ _ h => h) rfl (fun W _ => by go_simp) hS ?_; (intro K hK; go_simp; refine hK _ ?_; clear hK K))
        refine wpAnyH_done (by kernel_rfl) ?_ _
        clear hS
        go_wp2_with (first | ((with_reducible show wpList _ _ _ _ _ _); refine wpList_load_blk rfl 28 (.tmp 6) rfl b6 0 rfl _ _ hN_4 98 (by rw [HRs.out]; omega) _ Try.underlying28 rfl size_mach ?_; rw [F1.out]) | ((with_reducible show wpList _ _ _ _ _ _); refine wpList_store_blk rfl 28 (.tmp 4) (.tmp 23) rfl (w.heap.size + 1 + 1) 0 _ rfl rfl (mc zeroM) _ hZ_4 (by rw [HRs.out, HzS.out]; omega) (by rw [HRs.out]; exact size_mach) O1.out ?_; intro w4 hb4 hkeep _ hbl; rw [F2.out] at hb4; have hbw4 := hbl _ _ (by omega) hb_4; clear hkeep hbl))
        exact bodyPost_cell rfl rfl hb4 Try.underlying28 rfl (by rw [HRs.out]; exact size_mach) rfl ⟨by rw [HPe.out], hbw4⟩
    · go_simp
      have hS_2 := And.intro (hS_1.1.alloc (.cells (mc zeroM) 28)) (hS_1.2.alloc (.cells (mc zeroM) 28))
      have hZ_2 := hZ_1.alloc (.cells (mc zeroM) 28)
      have hN_2 : Blk (W1.alloc (.cells (mc zeroM) 28)) W1.heap.size (mc zeroM) 28 := Blk.new _ _ _
      have o6 := hZ_1.lt
      have hR_2 := hR_1.below (w1 := W1.alloc (.cells (mc zeroM) 28)) (by (repeat (first | exact Below.refl _ _ | refine below_drew' ?_ | refine below_drewN' ?_ _ | refine below_alloc' ?_ _ | refine below_set' ?_ (by (try simp); (try omega)) _ | refine below_step ?_ (by assumption))))
      have hV_2 := hV_1.below (w1 := W1.alloc (.cells (mc zeroM) 28)) (by (repeat (first | exact Below.refl _ _ | refine below_drew' ?_ | refine below_drewN' ?_ _ | refine below_alloc' ?_ _ | refine below_set' ?_ (by (try simp); (try omega)) _ | refine below_step ?_ (by assumption))))
      have hb_2 := below_alloc' hb_1 (.cells (mc zeroM) 28)
      refine hK.out _ _ hS_2 (fun hS => ?_)
      clear hK K hS hS_1 hZ_1 hb_1 hR_1 hV_1
      generalize W1.alloc (.cells (mc zeroM) 28) = W2 at *
      generalize W1.heap.size = b6 at *
      refine wpAnyH_ready (rs := [8]) (by kernel_rfl) (by simp) ?_
      refine (AllReadyH.cons rfl (fun K hK => ?_) (AllReadyH.nil))
      · go_simp
        refine (HMa.out t Ht.out v2 v1 W2 hR_2 hV_2).mono ?_
        rintro e W3 ⟨rfl, hc⟩
        rw [(HMc.out t Ht.out).1, (HMc.out t Ht.out).2]
        have hS_3 := And.intro (hS_2.1.keptAll hc) (hS_2.2.keptAll hc)
        have hZ_3 := hZ_2.keptAll hc
        have hN_3 := hN_2.keptAll hc
        have hb_3 := below_step hb_2 hc
        clear hc hS_2 hZ_2 hR_2 hb_2 hV_2 hN_2
        go_simp
        refine hK.out _ _ hS_3 (fun hS => ?_)
        clear hK K hS
        have hS := hS_3
        (refine hK_take 9 (.tuple #[.agg PM, .int .i64 0]) rfl (by kernel_rfl) (by kernel_rfl) (by kernel_rfl) (fun _ _ _ h => h) rfl (fun W _ => by go_simp) hS ?_; (intro K hK; go_simp; refine hK _ ?_; clear hK K))
        (refine hK_take 10 (.agg PM) rfl (by kernel_rfl) (by kernel_rfl) (by kernel_rfl) (fun _ _ _ h => h) rfl (fun W _ => by go_simp) hS ?_; (intro K hK; go_simp; refine hK _ ?_; clear hK K))
        (refine hK_take 11 (.int .i64 0) rfl (by kernel_rfl) (by kernel_rfl) (by kernel_rfl) (fun _ _ _ h => h) rfl (fun W _ => by go_simp) hS ?_; (intro K hK; go_simp; refine hK _ ?_; clear hK K))
        clear hS
        refine hK_store 13 rfl (by kernel_rfl) rfl 28 _ _ rfl b6 0 PM rfl rfl _ _ hN_3 (by rw [HRs.out, HzS.out]; omega) (by rw [HRs.out]; exact size_mach) O1.out _ F2.out (fun W4 hs => ⟨⟨hs.keep (by omega) hS_3.1, hs.keep (by omega) hS_3.2⟩, fun hS => ?_⟩)
        (intro K hK; go_simp; refine hK _ ?_; clear hK K)
        have hN_4 := hs.blk
        have hZ_4 := hs.keep (by omega) hZ_3
        have hb_4 := hs.below _ _ (by omega) hb_3
        clear hs hS_3 hZ_3 hN_3 hb_3
        (refine hK_take 14 (.int .i64 0) rfl (by kernel_rfl) (by kernel_rfl) (by kernel_rfl) (fun _ _ _ h => h) rfl (fun W _ => by go_simp) hS ?_; (intro K hK; go_simp; refine hK _ ?_; clear hK K))
        refine wpAnyH_done (by kernel_rfl) ?_ _
        clear hS
        go_wp2_with (first | ((with_reducible show wpList _ _ _ _ _ _); refine wpList_load_blk rfl 28 (.tmp 6) rfl b6 0 rfl _ _ hN_4 98 (by rw [HRs.out]; omega) _ Try.underlying28 rfl size_mach ?_; rw [F1.out]) | ((with_reducible show wpList _ _ _ _ _ _); refine wpList_store_blk rfl 28 (.tmp 4) (.tmp 23) rfl (w.heap.size + 1 + 1) 0 _ rfl rfl (mc zeroM) _ hZ_4 (by rw [HRs.out, HzS.out]; omega) (by rw [HRs.out]; exact size_mach) O1.out ?_; intro w4 hb4 hkeep _ hbl; rw [F2.out] at hb4; have hbw4 := hbl _ _ (by omega) hb_4; clear hkeep hbl))
        exact bodyPost_cell rfl rfl hb4 Try.underlying28 rfl (by rw [HRs.out]; exact size_mach) rfl ⟨by rw [HPe.out], hbw4⟩
  · go_simp
    have hS_1 := And.intro (hS_0.1.alloc (.cells (mc zeroM) 28)) (hS_0.2.alloc (.cells (mc zeroM) 28))
    have hZ_1 := hZ_0.alloc (.cells (mc zeroM) 28)
    have hN_1 : Blk (W0.alloc (.cells (mc zeroM) 28)) W0.heap.size (mc zeroM) 28 := Blk.new _ _ _
    have o6 := hZ_0.lt
    have hR_1 := hR_0.below (w1 := W0.alloc (.cells (mc zeroM) 28)) (by (repeat (first | exact Below.refl _ _ | refine below_drew' ?_ | refine below_drewN' ?_ _ | refine below_alloc' ?_ _ | refine below_set' ?_ (by (try simp); (try omega)) _ | refine below_step ?_ (by assumption))))
    have hb_1 := below_alloc' hb_0 (.cells (mc zeroM) 28)
    refine hK.out _ _ hS_1 (fun hS => ?_)
    clear hK K hS hS_0 hZ_0 hb_0 hR_0
    generalize W0.alloc (.cells (mc zeroM) 28) = W1 at *
    generalize W0.heap.size = b6 at *
    refine wpAnyH_ready (rs := [7]) (by kernel_rfl) (by simp) ?_
    refine (AllReadyH.cons rfl (fun K hK => ?_) (AllReadyH.nil))
    · go_simp
      refine (HRf.out v1 W1 hR_1).mono ?_
      rintro e W2 ⟨he, hc⟩
      obtain ⟨v2, t, rfl, ht, hv⟩ := HRk.out _ _ _ he
      have Ht := Lib.hid ht
      have hS_2 := And.intro (hS_1.1.keptAll hc) (hS_1.2.keptAll hc)
      have hZ_2 := hZ_1.keptAll hc
      have hN_2 := hN_1.keptAll hc
      have hR_2 := hR_1.below hc
      have hV_2 := hv.sees HP0.out
      have hb_2 := below_step hb_1 hc
      clear hc he hv ht hS_1 hZ_1 hR_1 hb_1 hN_1
      go_simp
      refine hK.out _ _ hS_2 (fun hS => ?_)
      clear hK K hS
      refine wpAnyH_ready (rs := [8]) (by kernel_rfl) (by simp) ?_
      refine (AllReadyH.cons rfl (fun K hK => ?_) (AllReadyH.nil))
      · go_simp
        refine (HMa.out t Ht.out v2 v1 W2 hR_2 hV_2).mono ?_
        rintro e W3 ⟨rfl, hc⟩
        rw [(HMc.out t Ht.out).1, (HMc.out t Ht.out).2]
        have hS_3 := And.intro (hS_2.1.keptAll hc) (hS_2.2.keptAll hc)
        have hZ_3 := hZ_2.keptAll hc
        have hN_3 := hN_2.keptAll hc
        have hb_3 := below_step hb_2 hc
        clear hc hS_2 hZ_2 hR_2 hb_2 hV_2 hN_2
        go_simp
        refine hK.out _ _ hS_3 (fun hS => ?_)
        clear hK K hS
        have hS := hS_3
        (refine hK_take 9 (.tuple #[.agg PM, .int .i64 0]) rfl (by kernel_rfl) (by kernel_rfl) (by kernel_rfl) (fun _ _ _ h => h) rfl (fun W _ => by go_simp) hS ?_; (intro K hK; go_simp; refine hK _ ?_; clear hK K))
        (refine hK_take 10 (.agg PM) rfl (by kernel_rfl) (by kernel_rfl) (by kernel_rfl) (fun _ _ _ h => h) rfl (fun W _ => by go_simp) hS ?_; (intro K hK; go_simp; refine hK _ ?_; clear hK K))
        (refine hK_take 11 (.int .i64 0) rfl (by kernel_rfl) (by kernel_rfl) (by kernel_rfl) (fun _ _ _ h => h) rfl (fun W _ => by go_simp) hS ?_; (intro K hK; go_simp; refine hK _ ?_; clear hK K))
        clear hS
        refine hK_store 13 rfl (by kernel_rfl) rfl 28 _ _ rfl b6 0 PM rfl rfl _ _ hN_3 (by rw [HRs.out, HzS.out]; omega) (by rw [HRs.out]; exact size_mach) O1.out _ F2.out (fun W4 hs => ⟨⟨hs.keep (by omega) hS_3.1, hs.keep (by omega) hS_3.2⟩, fun hS => ?_⟩)
        (intro K hK; go_simp; refine hK _ ?_; clear hK K)
        have hN_4 := hs.blk
        have hZ_4 := hs.keep (by omega) hZ_3
        have hb_4 := hs.below _ _ (by omega) hb_3
        clear hs hS_3 hZ_3 hN_3 hb_3
        (refine hK_take 14 (.int .i64 0) rfl (by kernel_rfl) (by kernel_rfl) (by kernel_rfl) (fun _ _ _ h => h) rfl (fun W _ => by go_simp) hS ?_; (intro K hK; go_simp; refine hK _ ?_; clear hK K))
        refine wpAnyH_done (by kernel_rfl) ?_ _
        clear hS
        go_wp2_with (first | ((with_reducible show wpList _ _ _ _ _ _); refine wpList_load_blk rfl 28 (.tmp 6) rfl b6 0 rfl _ _ hN_4 98 (by rw [HRs.out]; omega) _ Try.underlying28 rfl size_mach ?_; rw [F1.out]) | ((with_reducible show wpList _ _ _ _ _ _); refine wpList_store_blk rfl 28 (.tmp 4) (.tmp 23) rfl (w.heap.size + 1 + 1) 0 _ rfl rfl (mc zeroM) _ hZ_4 (by rw [HRs.out, HzS.out]; omega) (by rw [HRs.out]; exact size_mach) O1.out ?_; intro w4 hb4 hkeep _ hbl; rw [F2.out] at hb4; have hbw4 := hbl _ _ (by omega) hb_4; clear hkeep hbl))
        exact bodyPost_cell rfl rfl hb4 Try.underlying28 rfl (by rw [HRs.out]; exact size_mach) rfl ⟨by rw [HPe.out], hbw4⟩

set_option maxRecDepth 100000 in
set_option maxHeartbeats 3000000 in
theorem times_up (M J : Mach) (L S T : Nat) (hM : Good M L S) (hJ : Good J L T) (bm bk p r : Nat) (hp : p < S) (hr : r < T) (h16 : ¬ (prodQ M J L T (p * T + r)).length ≤ 16) (w : World) (hBm : Blk w bm (mc M) 28) (hBk : Blk w bk (mc J) 28) :
    Calls Try.prog 50 #[.agg #[.pointer (some ⟨bm, 0, none⟩), .int .i64 (p : Int)], .agg #[.pointer (some ⟨bk, 0, none⟩), .int .i64 (r : Int)]] w fun e w' => e = gaveUp 3 ∧ Below w.heap.size w w' := by
  have hbm := hBm.lt
  have hcN : p * T + r < S * T := by
    calc p * T + r < p * T + T := by omega
      _ = (p + 1) * T := by rw [Nat.succ_mul]
      _ ≤ S * T := Nat.mul_le_mul_right T hp
  have hB := prA_in hM hJ
  have hN := few_prod hM.S16 hJ.S16
  have hcnt : cntB (aRep (ptA (prA M J T) L (p * T + r)) L 256) (ptQ (prA M J T) L (p * T + r)).length = (prodQ M J L T (p * T + r)).length := pt_cnt hB hN hcN
  have hpos := ptQ_pos (prA M J T) L (p * T + r)
  have hfew := ptQ_few hB hN hcN
  have hIn := ptA_in hB hN hcN
  have hBy := ptA_bytes hM hJ hcN
  have hmach := fun t h16 ht => times_mach (t := t) hM hJ hcN h16 ht
  have hpr := fun W h1 h2 => pairRows_calls M J L S T hM hJ bm bk p r hp hr W h1 h2
  have hRs : (mc (prodM M J L T (p * T + r))).size = 98 := by simp [mc, prodM, setM, qM, mkM]
  obtain ⟨A, hAe⟩ : ∃ A, ptA (prA M J T) L (p * T + r) = A := ⟨_, rfl⟩
  obtain ⟨N, hNe⟩ : ∃ N, (ptQ (prA M J T) L (p * T + r)).length = N := ⟨_, rfl⟩
  rw [hAe, hNe] at hcnt
  rw [hNe] at hpos hfew
  rw [hAe, hNe] at hIn hBy
  simp only [hAe, hNe] at hmach
  simp only [hAe, hNe] at hpr
  have HRf := Lib.hid (fun v W => refine_calls A L N hM.L3 hpos hfew hIn hBy v W)
  have hW : Below w.heap.size w (((w.alloc (.cells #[.pointer (some ⟨bm, 0, none⟩), .int .i64 (p : Int)] 57)).alloc (.cells #[.pointer (some ⟨bk, 0, none⟩), .int .i64 (r : Int)] 57)).alloc (.cells (mc zeroM) 28)) := by (repeat (first | exact Below.refl _ _ | refine below_drew' ?_ | refine below_drewN' ?_ _ | refine below_alloc' ?_ _ | refine below_set' ?_ (by (try simp); (try omega)) _ | refine below_step ?_ (by assumption)))
  have HPr := Lib.hid (hpr _ (hBm.kept hW hbm) (hBk.kept hW hBk.lt))
  have hG0 : Blk (((w.alloc (.cells #[.pointer (some ⟨bm, 0, none⟩), .int .i64 (p : Int)] 57)).alloc (.cells #[.pointer (some ⟨bk, 0, none⟩), .int .i64 (r : Int)] 57)).alloc (.cells (mc zeroM) 28)) w.heap.size #[.pointer (some ⟨bm, 0, none⟩), .int .i64 (p : Int)] 57 := ((Blk.new w _ _).alloc _).alloc _
  have hZ0 : Blk (((w.alloc (.cells #[.pointer (some ⟨bm, 0, none⟩), .int .i64 (p : Int)] 57)).alloc (.cells #[.pointer (some ⟨bk, 0, none⟩), .int .i64 (r : Int)] 57)).alloc (.cells (mc zeroM) 28)) (w.heap.size + 1 + 1) (mc zeroM) 28 := Blk.new_at _ _ _ _ (by simp)
  have hM0 := hBm.kept hW hbm
  have HW := Lib.hid hW
  have HG0 := Lib.hid hG0
  have HZ0 := Lib.hid hZ0
  have HM0 := Lib.hid hM0
  have HcL := Lib.hid (show (mc M)[0]? = some (.int .i64 (L : Int)) from by rw [mc_L, hM.hL])
  have hzm := zero_mach
  have HRk : Hid (∀ W W' e, refOk A L N W W' e → e = gaveUp 3) := Lib.hid (fun W W' e he => by
    unfold refOk at he
    rw [hcnt, if_neg h16] at he
    exact he)
  clear hM hJ hBm hBk hG0 hZ0 hM0 hW hB hN hcN hcnt hpos hfew hIn hBy hmach hpr hRs hAe hNe
  go_enter Try.func50, Try.ntmps50
  go_wp2_with (go_at_call 75; refine HPr.out.mono ?_; rintro e w1 ⟨v1, rfl, hv1, hb1⟩)
  have hdr : Below w1.heap.size w1 w1.drew := (Below.refl _ _).drew
  have hR_0 := hv1.below hdr
  have hb_0 := (HW.out.trans (below_le hb1 HW.out.size)).trans (below_le hdr (HW.out.trans (below_le hb1 HW.out.size)).size)
  have hZ_0 := (HZ0.out.keptAll hb1).keptAll hdr
  have hS_0 : Blk w1.drew w.heap.size #[.pointer (some ⟨bm, 0, none⟩), .int .i64 (p : Int)] 57 ∧ Blk w1.drew bm (mc M) 28 := ⟨(HG0.out.keptAll hb1).keptAll hdr, (HM0.out.keptAll hb1).keptAll hdr⟩
  clear hv1 hb1 hdr
  refine wp_region_held_drew (S := fun W => Blk W w.heap.size #[.pointer (some ⟨bm, 0, none⟩), .int .i64 (p : Int)] 57 ∧ Blk W bm (mc M) 28) (by kernel_rfl) hS_0 (fun hS0 => ?_)
  generalize w1.drew = W0 at *
  (refine hK_take 0 (.pointer (some ⟨w.heap.size, 0, none⟩)) rfl (by kernel_rfl) (by kernel_rfl) (by kernel_rfl) (fun _ _ _ h => h) rfl (fun W _ => by go_simp) hS0 ?_; (intro K hK; go_simp; refine hK _ ?_; clear hK K))
  (refine hK_take 1 (.pointer (some ⟨bm, 0, none⟩)) rfl (by kernel_rfl) (by kernel_rfl) (by kernel_rfl) (fun _ _ _ h => h) rfl (fun W hW => by have c1 : W.cell? ⟨w.heap.size, 0, none⟩ = some (.pointer (some ⟨bm, 0, none⟩)) := hW.1.cell 0; clear hW; go_simp) hS0 ?_; (intro K hK; go_simp; refine hK _ ?_; clear hK K))
  (refine hK_take 2 (.pointer (some ⟨bm, 0, none⟩)) rfl (by kernel_rfl) (by kernel_rfl) (by kernel_rfl) (fun _ _ _ h => h) rfl (fun W _ => by go_simp) hS0 ?_; (intro K hK; go_simp; refine hK _ ?_; clear hK K))
  (refine hK_take 3 (.pointer (some ⟨bm, 0, none⟩)) rfl (by kernel_rfl) (by kernel_rfl) (by kernel_rfl) (fun _ _ _ h => h) rfl (fun W _ => by go_simp) hS0 ?_; (intro K hK; go_simp; refine hK _ ?_; clear hK K))
  (refine hK_take 4 (.int .i64 (L : Int)) rfl (by kernel_rfl) (by kernel_rfl) (by kernel_rfl) (fun _ _ _ h => h) rfl (fun W hW => by have c1 := (hW.2.cell 0).trans HcL.out; clear hW; go_simp) hS0 ?_; (intro K hK; go_simp; refine hK _ ?_; clear hK K))
  (refine hK_take 5 (v1) rfl (by kernel_rfl) (by kernel_rfl) (by kernel_rfl) (fun _ _ _ h => h) rfl (fun W _ => by go_simp) hS0 ?_; (intro K hK; go_simp; refine hK _ ?_; clear hK K))
  (refine hK_take 6 (v1) rfl (by kernel_rfl) (by kernel_rfl) (by kernel_rfl) (fun _ _ _ h => h) rfl (fun W _ => by go_simp) hS0 ?_; (intro K hK; go_simp; refine hK _ ?_; clear hK K))
  clear hS0
  refine wpAnyH_ready (rs := [7, 12]) (by kernel_rfl) (by simp) ?_
  refine (AllReadyH.cons rfl (fun K hK => ?_) (AllReadyH.cons rfl (fun K hK => ?_) (AllReadyH.nil)))
  · go_simp
    refine (HRf.out v1 W0 hR_0).mono ?_
    rintro e W1 ⟨he, hc⟩
    obtain rfl := HRk.out _ _ _ he
    have hb_1 := below_step hb_0 hc
    go_simp
    exact ⟨rfl, rfl, hb_1⟩
  · go_simp
    have hS_1 := And.intro (hS_0.1.alloc (.cells (mc zeroM) 28)) (hS_0.2.alloc (.cells (mc zeroM) 28))
    have hZ_1 := hZ_0.alloc (.cells (mc zeroM) 28)
    have hN_1 : Blk (W0.alloc (.cells (mc zeroM) 28)) W0.heap.size (mc zeroM) 28 := Blk.new _ _ _
    have o6 := hZ_0.lt
    have hR_1 := hR_0.below (w1 := W0.alloc (.cells (mc zeroM) 28)) (by (repeat (first | exact Below.refl _ _ | refine below_drew' ?_ | refine below_drewN' ?_ _ | refine below_alloc' ?_ _ | refine below_set' ?_ (by (try simp); (try omega)) _ | refine below_step ?_ (by assumption))))
    have hb_1 := below_alloc' hb_0 (.cells (mc zeroM) 28)
    refine hK.out _ _ hS_1 (fun hS => ?_)
    clear hK K hS hS_0 hZ_0 hb_0 hR_0
    generalize W0.alloc (.cells (mc zeroM) 28) = W1 at *
    generalize W0.heap.size = b6 at *
    refine wpAnyH_ready (rs := [7]) (by kernel_rfl) (by simp) ?_
    refine (AllReadyH.cons rfl (fun K hK => ?_) (AllReadyH.nil))
    · go_simp
      refine (HRf.out v1 W1 hR_1).mono ?_
      rintro e W2 ⟨he, hc⟩
      obtain rfl := HRk.out _ _ _ he
      have hb_2 := below_step hb_1 hc
      go_simp
      exact ⟨rfl, rfl, hb_2⟩
end Go.Proofs.Ytkkooafjpancoaa

namespace Go.Proofs.Ytkkooafjpancoaa
open Go.RowKit

/-- A factor: a machine with S states that lies in block b, and a state of it. -/
structure Fac where
  m : Mach
  S : Nat
  b : Nat
  q : Nat
/-- The product, and whether no machine on the way is too large. -/
def facs (L : Nat) : Mach → List Fac → Mach × Bool
  | P, [] => (P, true)
  | P, f :: fs => if (prodQ P f.m L f.S (0 * f.S + f.q)).length ≤ 16 then facs L (prodM P f.m L f.S (0 * f.S + f.q)) fs else (P, false)
theorem facs_next {L : Nat} {P : Mach} {f : Fac} {fs : List Fac} (h : (prodQ P f.m L f.S (0 * f.S + f.q)).length ≤ 16) : facs L P (f :: fs) = facs L (prodM P f.m L f.S (0 * f.S + f.q)) fs := by
  rw [facs, if_pos h]
theorem facs_up {L : Nat} {P : Mach} {f : Fac} {fs : List Fac} (h : ¬ (prodQ P f.m L f.S (0 * f.S + f.q)).length ≤ 16) : facs L P (f :: fs) = (P, false) := by
  rw [facs, if_neg h]
/-- What productOf answers. -/
def facsOk (L : Nat) (fs : List Fac) (e : Ending) : Prop := if (facs L (trivM L) fs).2 = true then e = .returned (.agg (mc (facs L (trivM L) fs).1)) else e = gaveUp 3
/-- A slice of guides can be read. -/
def SeesG (w : World) (v : Value) (fs : List Fac) : Prop := ∃ oa cap, v = .slice oa fs.length cap ∧ (0 < fs.length → ∃ g cur, oa = some ⟨g, 0, none⟩ ∧ Blk w g cur 57 ∧ ∀ i (hi : i < fs.length), cur[i * 2]? = some (.pointer (some ⟨fs[i].b, 0, none⟩)) ∧ cur[i * 2 + 1]? = some (.int .i64 (fs[i].q : Int)))
theorem SeesG.below {w w1 : World} {v : Value} {fs : List Fac} (h : SeesG w v fs) (hb : Below w.heap.size w w1) : SeesG w1 v fs := by
  obtain ⟨oa, cap, rfl, hq⟩ := h
  refine ⟨oa, cap, rfl, fun h0 => ?_⟩
  obtain ⟨g, cur, e, hB, hc⟩ := hq h0
  exact ⟨g, cur, e, hB.keptAll hb, hc⟩
theorem info_guide : (Try.prog.info? 57).map (fun i => (i.zero, i.size)) = some (some (.agg #[.pointer none, .int .i64 0]), 2) := by kernel_rfl
theorem zero_guide : ∀ w, (zeroValue 57).run Try.prog w = .ok (.agg #[.pointer none, .int .i64 0]) w := (zero_of_info info_guide).1
theorem size_guide : (Try.prog.info? 57).map (·.size) = some 2 := (zero_of_info info_guide).2
theorem cut_two {cur : Array Value} {k : Nat} {a b : Value} (h1 : cur[k]? = some a) (h2 : cur[k + 1]? = some b) : cut cur k 2 = #[a, b] ∧ k + 2 ≤ cur.size := by
  refine ⟨?_, ?_⟩
  · apply Array.ext_getElem?
    intro j
    rw [get_cut]
    by_cases hj : j < 2
    · rw [if_pos hj]
      rcases (show j = 0 ∨ j = 1 by omega) with rfl | rfl
      · exact h1
      · exact h2
    · rw [if_neg hj, Array.getElem?_eq_none (by show 2 ≤ j; omega)]
  · rcases Nat.lt_or_ge (k + 1) cur.size with h | h
    · omega
    · rw [Array.getElem?_eq_none (by omega)] at h2; cases h2
theorem two_one (b : Nat) (q : Int) : (#[.pointer (some ⟨b, 0, none⟩), .int .i64 q] : Array Value).all (·.oneCell') = true := by simp [Value.oneCell']

set_option maxRecDepth 100000 in
set_option maxHeartbeats 2000000 in
theorem productOf_calls (L : Nat) (h2 : 2 ≤ L) (h3 : L ≤ 3) (fs : List Fac) (hlen : fs.length ≤ 1048576) (hfs : ∀ f ∈ fs, Good f.m L f.S ∧ f.q < f.S) (v : Value) (w : World) (hv : SeesG w v fs) (hb : ∀ f ∈ fs, Blk w f.b (mc f.m) 28) :
    Calls Try.prog 53 #[.int .i64 (L : Int), v] w fun e w' => facsOk L fs e ∧ Below w.heap.size w w' := by
  have hz := zero_mach
  have hzg := zero_guide
  have hR : Blk (w.alloc (.cells (mc zeroM) 28)) w.heap.size (mc zeroM) 28 := Blk.new _ _ _
  have hbw0 : Below w.heap.size w (w.alloc (.cells (mc zeroM) 28)) := by (repeat (first | exact Below.refl _ _ | refine below_drew' ?_ | refine below_drewN' ?_ _ | refine below_alloc' ?_ _ | refine below_set' ?_ (by (try simp); (try omega)) _ | refine below_step ?_ (by assumption)))
  have HzS : Hid ((mc zeroM).size = 98) := Lib.hid (mc_size zeroM_ok)
  have Hv : Hid (∀ W, Below w.heap.size w W → SeesG W v fs) := Lib.hid (fun W hW => hv.below hW)
  have Hb : Hid (∀ W, Below w.heap.size w W → ∀ f ∈ fs, Blk W f.b (mc f.m) 28) := Lib.hid (fun W hW f hf => (hb f hf).kept hW (hb f hf).lt)
  have Hfs := Lib.hid hfs
  have HmS : Hid (∀ {M : Mach} {L S : Nat}, Good M L S → (mc M).size = 98) := Lib.hid (fun h => mc_size h.ok)
  have HtS : Hid ((mc (trivM L)).size = 98) := Lib.hid (mc_size (trivM_good h2 h3).ok)
  have G4 : Hid (over (mc zeroM) 0 (mc (trivM L)) = mc (trivM L)) := Lib.hid (over_all _ _ (by rw [HzS.out, HtS.out]))
  obtain ⟨oa, cap, rfl, hq⟩ := id hv
  clear hq hv hb hfs
  go_enter Try.func53, Try.ntmps53
  go_wp2_with (first | (go_at_call 66; refine (trivialMachine_calls L h3 _).mono ?_; rintro e w1 ⟨rfl, hb1⟩; have hR1 := hR.keptAll hb1; have hbw1 := below_step hbw0 hb1) | ((with_reducible show wpList _ _ _ _ _ _); refine wpList_store_blk rfl 28 (.tmp 5) (.tmp 9) rfl w1.heap.size 0 (mc (trivM L)) rfl rfl (mc zeroM) 28 (Blk.new _ _ _) (by rw [HtS.out, HzS.out]; omega) (by rw [HtS.out]; exact size_mach) (mc_one _) ?_; intro w3 hb3 hkeep hsz3 hbl; rw [G4.out] at hb3))
  have hge1 := hbw1.size
  have hbw3 := hbl w.heap.size w hge1 (below_alloc' hbw1 _)
  have hR3 := hkeep _ _ _ (by have := hR1.lt; omega) (hR1.alloc (.cells (mc zeroM) 28))
  have hlt5 : w.heap.size < w1.heap.size := hR1.lt
  clear hkeep hbl hsz3 hb1 hR1 hbw1 hR hbw0
  obtain ⟨b5, hb5⟩ : ∃ b5, w1.heap.size = b5 := ⟨_, rfl⟩
  rw [hb5] at hb3 hlt5 hge1
  rw [hb5]
  clear hb5
  go_loopw [12] (fun i wr => ∃ (k : Nat) (P : Mach) (SP : Nat), k ≤ fs.length ∧ i = .int .i64 k ∧ Good P L SP ∧ 0 < SP ∧ facs L P (fs.drop k) = facs L (trivM L) fs ∧ Blk wr w.heap.size (mc zeroM) 28 ∧ Blk wr b5 (mc P) 28 ∧ Below w.heap.size w wr) (fun i _ => fs.length - (intOf i).toNat)
  case atStart => exact ⟨0, trivM L, 1, by omega, rfl, trivM_good h2 h3, by omega, rfl, hR3, hb3, hbw3⟩
  case round =>
    clear hR3 hb3 hbw3
    obtain ⟨k, P, SP, hk, rfl, hP, h0P, hfa, hR, hN, hbw⟩ := hrel
    have HP := Lib.hid hP
    have Hfa := Lib.hid hfa
    have hPs := HmS.out hP
    by_cases hlt : k < fs.length
    · have hlti : (k : Int) < (fs.length : Int) := by omega
      obtain ⟨oa', cap', he, hq⟩ := Hv.out wr hbw
      obtain ⟨rfl, rfl⟩ : oa = oa' ∧ cap = cap' := by cases he; exact ⟨rfl, rfl⟩
      obtain ⟨g, cur, rfl, hBg, hcur⟩ := hq (by omega)
      obtain ⟨c1, c2⟩ := hcur k hlt
      obtain ⟨hcut, hroom⟩ := cut_two c1 c2
      have hmem : fs[k] ∈ fs := List.getElem_mem hlt
      obtain ⟨hgf, hqf⟩ := Hfs.out _ hmem
      have hBf := Hb.out wr hbw _ hmem
      have hdr : fs.drop k = fs[k] :: fs.drop (k + 1) := List.drop_eq_getElem_cons hlt
      rw [hdr] at Hfa
      generalize fs[k] = f at *
      clear he hq hcur c1 c2 hdr hfa hP
      have Hgf := Lib.hid hgf
      clear hgf
      have hf0 := hBf.lt
      have hRl := hR.lt
      have hNl := hN.lt
      have HSt : Hid (∀ w5, Stored (wr.alloc (.cells #[.pointer none, .int .i64 0] 57)) w5 wr.heap.size #[.pointer (some ⟨f.b, 0, none⟩), .int .i64 (f.q : Int)] 57 → Blk w5 b5 (mc P) 28 ∧ Blk w5 f.b (mc f.m) 28 ∧ Blk w5 w.heap.size (mc zeroM) 28 ∧ Below w.heap.size w w5) := Lib.hid (fun w5 hs =>
        ⟨hs.keep (by omega) (hN.alloc _), hs.keep (by omega) (hBf.alloc _), hs.keep (by omega) (hR.alloc _), hs.below _ _ (by omega) (below_alloc' hbw _)⟩)
      have Hov : Hid (over #[.pointer none, .int .i64 0] 0 #[.pointer (some ⟨f.b, 0, none⟩), .int .i64 (f.q : Int)] = #[.pointer (some ⟨f.b, 0, none⟩), .int .i64 (f.q : Int)]) := Lib.hid (over_all _ _ rfl)
      have Hcu : Hid (cut #[.pointer (some ⟨f.b, 0, none⟩), .int .i64 (f.q : Int)] 0 2 = #[.pointer (some ⟨f.b, 0, none⟩), .int .i64 (f.q : Int)]) := Lib.hid (cut_all _ _ rfl)
      have Hon := Lib.hid (two_one f.b (f.q : Int))
      have Hmeas : Hid (fs.length - (k + 1) < fs.length - k) := Lib.hid (by omega)
      clear hBf
      by_cases h16 : (prodQ P f.m L f.S (0 * f.S + f.q)).length ≤ 16
      · have HTi : Hid (∀ W, Blk W b5 (mc P) 28 → Blk W f.b (mc f.m) 28 → Calls Try.prog 50 #[.agg #[.pointer (some ⟨b5, 0, none⟩), .int .i64 0], .agg #[.pointer (some ⟨f.b, 0, none⟩), .int .i64 (f.q : Int)]] W fun e w' => e = .returned (.agg (mc (prodM P f.m L f.S (0 * f.S + f.q)))) ∧ Below W.heap.size W w') := Lib.hid (fun W h1 h2 => times_ok P f.m L SP f.S HP.out Hgf.out b5 f.b 0 f.q h0P hqf h16 W h1 h2)
        have Hnx := Lib.hid ((facs_next (fs := fs.drop (k + 1)) h16).symm.trans Hfa.out)
        have HgQ := prodM_good HP.out Hgf.out (p0 := 0 * f.S + f.q) (by
          calc 0 * f.S + f.q < f.S := by omega
            _ ≤ SP * f.S := Nat.le_mul_of_pos_left _ h0P) h16
        have h0Q : 0 < (prodQ P f.m L f.S (0 * f.S + f.q)).length := bAll_pos _ _ _
        generalize (prodQ P f.m L f.S (0 * f.S + f.q)).length = SQ at *
        generalize prodM P f.m L f.S (0 * f.S + f.q) = Q at *
        have HQs := Lib.hid (HmS.out HgQ)
        have HPs := Lib.hid hPs
        have HQov : Hid (over (mc P) 0 (mc Q) = mc Q) := Lib.hid (over_all _ _ (by rw [HQs.out, hPs]))
        have HGQ := Lib.hid HgQ
        clear HgQ hPs
        go_wp2_with (first | ((with_reducible show wpList _ _ _ _ _ _); refine wpList_load_blk rfl 57 (.tmp 14) rfl g (k * 2) rfl cur _ hBg 2 hroom _ Try.underlying57 rfl size_guide ?_; rw [hcut]) | ((with_reducible show wpList _ _ _ _ _ _); refine wpList_store_row rfl 57 (.tmp 7) (.tmp 15) rfl wr.heap.size 0 #[.pointer (some ⟨f.b, 0, none⟩), .int .i64 (f.q : Int)] rfl rfl #[.pointer none, .int .i64 0] 57 (Blk.new _ _ _) (Nat.le_refl 2) size_guide Hon.out _ Hov.out ?_; intro w5 hs5; have hB7 := hs5.blk; obtain ⟨hN5, hf5, hR5, hbw5⟩ := HSt.out w5 hs5; clear hs5) | ((with_reducible show wpList _ _ _ _ _ _); refine wpList_load_blk rfl 57 (.tmp 7) rfl wr.heap.size 0 rfl _ _ hB7 2 (Nat.le_refl 2) _ Try.underlying57 rfl size_guide ?_; rw [Hcu.out]) | (go_at_call 50; refine (HTi.out w5 hN5 hf5).mono ?_; rintro e w6 ⟨rfl, hb6⟩; have hN6 := hN5.keptAll hb6; have hR6 := hR5.keptAll hb6; have hbw6 := below_step hbw5 hb6) | ((with_reducible show wpList _ _ _ _ _ _); refine wpList_store_blk rfl 28 (.tmp 5) (.tmp 18) rfl b5 0 (mc Q) rfl rfl (mc P) 28 hN6 (by rw [HQs.out, HPs.out]; omega) (by rw [HQs.out]; exact size_mach) (mc_one _) ?_; intro w7 hb7 hkeep _ hbl; rw [HQov.out] at hb7))
        have hR7 := hkeep w.heap.size _ _ (Nat.ne_of_lt hlt5) hR6
        have hbw7 := hbl w.heap.size w hge1 hbw6
        clear hkeep hbl
        go_roundw
        case rel => exact ⟨k + 1, Q, SQ, by omega, by go_num, HGQ.out, h0Q, Hnx.out, hR7, hb7, hbw7⟩
        case measure => simp [intOf] <;> omega
      · have HTi : Hid (∀ W, Blk W b5 (mc P) 28 → Blk W f.b (mc f.m) 28 → Calls Try.prog 50 #[.agg #[.pointer (some ⟨b5, 0, none⟩), .int .i64 0], .agg #[.pointer (some ⟨f.b, 0, none⟩), .int .i64 (f.q : Int)]] W fun e w' => e = gaveUp 3 ∧ Below W.heap.size W w') := Lib.hid (fun W h1 h2 => times_up P f.m L SP f.S HP.out Hgf.out b5 f.b 0 f.q h0P hqf h16 W h1 h2)
        have Hup : Hid (¬ (facs L (trivM L) fs).2 = true) := Lib.hid (by rw [← Hfa.out, facs_up h16]; simp)
        go_wp2_with (first | ((with_reducible show wpList _ _ _ _ _ _); refine wpList_load_blk rfl 57 (.tmp 14) rfl g (k * 2) rfl cur _ hBg 2 hroom _ Try.underlying57 rfl size_guide ?_; rw [hcut]) | ((with_reducible show wpList _ _ _ _ _ _); refine wpList_store_row rfl 57 (.tmp 7) (.tmp 15) rfl wr.heap.size 0 #[.pointer (some ⟨f.b, 0, none⟩), .int .i64 (f.q : Int)] rfl rfl #[.pointer none, .int .i64 0] 57 (Blk.new _ _ _) (Nat.le_refl 2) size_guide Hon.out _ Hov.out ?_; intro w5 hs5; have hB7 := hs5.blk; obtain ⟨hN5, hf5, hR5, hbw5⟩ := HSt.out w5 hs5; clear hs5) | ((with_reducible show wpList _ _ _ _ _ _); refine wpList_load_blk rfl 57 (.tmp 7) rfl wr.heap.size 0 rfl _ _ hB7 2 (Nat.le_refl 2) _ Try.underlying57 rfl size_guide ?_; rw [Hcu.out]) | (go_at_call 50; refine (HTi.out w5 hN5 hf5).mono ?_; rintro e w6 ⟨he, hb6⟩; have hbw6 := below_step hbw5 hb6; unfold gaveUp at he; subst he))
        exact ⟨rfl, by unfold facsOk; rw [if_neg Hup.out]; rfl, hbw6⟩
    · have hnlti : ¬ (k : Int) < (fs.length : Int) := by omega
      obtain rfl : k = fs.length := by omega
      have Hpe : Hid (facs L (trivM L) fs = (P, true)) := Lib.hid (by rw [← Hfa.out, List.drop_length]; rfl)
      have F1 : Hid (cut (mc P) 0 98 = mc P) := Lib.hid (cut_all _ _ hPs)
      have F2 : Hid (over (mc zeroM) 0 (mc P) = mc P) := Lib.hid (over_all _ _ (by rw [hPs, HzS.out]))
      have HPs := Lib.hid hPs
      clear hPs hfa
      go_wp2_with (first | ((with_reducible show wpList _ _ _ _ _ _); refine wpList_load_blk rfl 28 (.tmp 5) rfl b5 0 rfl _ _ hN 98 (by rw [HPs.out]; omega) _ Try.underlying28 rfl size_mach ?_; rw [F1.out]) | ((with_reducible show wpList _ _ _ _ _ _); refine wpList_store_blk rfl 28 (.tmp 4) (.tmp 20) rfl w.heap.size 0 _ rfl rfl (mc zeroM) _ hR (by rw [HPs.out, HzS.out]; omega) (by rw [HPs.out]; exact size_mach) (mc_one _) ?_; intro w4 hb4 hkeep _ hbl; rw [F2.out] at hb4; have hbw4 := hbl _ _ (by omega) hbw; clear hkeep hbl))
      exact bodyPost_cell rfl rfl hb4 Try.underlying28 rfl (by rw [HPs.out]; exact size_mach) rfl ⟨by unfold facsOk; rw [Hpe.out]; rfl, hbw4⟩
end Go.Proofs.Ytkkooafjpancoaa
