/- Rows of an automaton in memory; the keys of rows; numbers of sets in maps. -/
import Derived.Test.YtkkooafjpancoaaAuD
import Derived.Test.YtkkooafjpancoaaOwnN
import Derived.Test.YtkkooafjpancoaaMinN
namespace Go.Proofs.Ytkkooafjpancoaa
open Go.RowKit
open Go.Maps

/-- What a row of the program has: 0 behind the last letter. -/
def rowO (A : Aut) (L i x : Nat) : Int := if x < L then A.o i x else 0
def rowN (A : Aut) (L i x : Nat) : Nat := if x < L then A.n i x else 0
/-- The cells of a row. -/
def rowL (A : Aut) (L i : Nat) : List Int := [rowO A L i 0, rowO A L i 1, rowO A L i 2, (rowN A L i 0 : Int), (rowN A L i 1 : Int), (rowN A L i 2 : Int)]
def rowV (A : Aut) (L i : Nat) : Array Value := ((rowL A L i).map (Value.int .u8)).toArray
/-- The letters that rows put out are bytes. -/
def Aut.Bytes (A : Aut) (L N : Nat) : Prop := ∀ i x, i < N → x < L → 0 ≤ A.o i x ∧ A.o i x ≤ 255
/-- A slice of rows can be read. -/
def SeesR (w : World) (v : Value) (A : Aut) (L N : Nat) : Prop := ∃ g cap cur, v = .slice (some ⟨g, 0, none⟩) N cap ∧ Blk w g cur 104 ∧ ∀ i, i < N → ∀ x, x < 3 → cur[i * 6 + x]? = some (.int .u8 (rowO A L i x)) ∧ cur[i * 6 + 3 + x]? = some (.int .u8 (rowN A L i x : Int))
/-- A slice of numbers below 256 can be read. -/
def SeesK (w : World) (v : Value) (N : Nat) (f : Nat → Nat) : Prop := ∃ g cap cur, v = .slice (some ⟨g, 0, none⟩) N cap ∧ Blk w g cur 5 ∧ ∀ i, i < N → cur[i]? = some (.int .u8 (f i : Int))
theorem SeesR.below {w w1 : World} {v : Value} {A : Aut} {L N : Nat} (h : SeesR w v A L N) (hb : Below w.heap.size w w1) : SeesR w1 v A L N := by
  obtain ⟨g, cap, cur, rfl, hB, hc⟩ := h
  exact ⟨g, cap, cur, rfl, hB.keptAll hb, hc⟩
theorem SeesK.below {w w1 : World} {v : Value} {N : Nat} {f : Nat → Nat} (h : SeesK w v N f) (hb : Below w.heap.size w w1) : SeesK w1 v N f := by
  obtain ⟨g, cap, cur, rfl, hB, hc⟩ := h
  exact ⟨g, cap, cur, rfl, hB.keptAll hb, hc⟩
theorem OwnN.sees {w : World} {base : Nat} {v : Value} {N : Nat} {f : Nat → Nat} (h : OwnN w base v ((List.range N).map f)) (h0 : 0 < N) : SeesK w v N f := by
  obtain ⟨g, cap, cur, hv, _, hB, hc⟩ := h.view (by simpa using h0)
  refine ⟨g, cap, cur, by rw [hv]; simp, hB, fun i hi => ?_⟩
  have := hc i (by simpa using hi)
  simpa using this
theorem rowO_bd {A : Aut} {L N : Nat} (hA : A.Bytes L N) {i : Nat} (hi : i < N) (x : Nat) : 0 ≤ rowO A L i x ∧ rowO A L i x ≤ 255 := by
  unfold rowO
  split
  · rename_i h; exact hA i x hi h
  · omega
theorem rowN_lt {A : Aut} {L N : Nat} (hA : A.In L N) {i : Nat} (hi : i < N) (x : Nat) : rowN A L i x < N := by
  unfold rowN
  split
  · rename_i h; exact hA i x hi h
  · omega

/-! ### Keys -/
def bytes6 (l : List Int) : Prop := l.length = 6 ∧ isBytes l
theorem lits_six (d : Nat) (l : List Int) (h : bytes6 l) : Try.prog.keyLits (d + 3) 104 (l.map (Value.int .u8)) = some (l.map (Lit.int .u8)) := by
  obtain ⟨hl, hb⟩ := h
  match l, hl with
  | [a, b, c, e, f, g], _ =>
    have e1 := lits_a3 d a b c (hb a (by simp)) (hb b (by simp)) (hb c (by simp))
    have e2 := lits_a3 d e f g (hb e (by simp)) (hb f (by simp)) (hb g (by simp))
    unfold Program.keyLits
    simp only [Try.underlying104, cells_row]
    rw [if_pos ⟨rfl, by simp⟩]
    simp only [List.mapM_cons, List.mapM_nil, cells_a3]
    show (do let x ← Try.prog.keyLits (d + 2) 22 [.int .u8 a, .int .u8 b, .int .u8 c]; let y ← (do let z ← Try.prog.keyLits (d + 2) 22 [.int .u8 e, .int .u8 f, .int .u8 g]; let r ← some []; some (z :: r)); some (x :: y)).map List.flatten = _
    rw [e1, e2]
    rfl
/-- The key of six bytes. -/
def kl6 (l : List Int) : Lit := .string (keyBytes (l.map (Lit.int .u8)))
theorem isKey_kl6 (l : List Int) : WideAt.IsKeyLit (kl6 l) := trivial
theorem key_six {l : List Int} (h : bytes6 l) : keyOf Try.prog 104 (.agg (l.map (Value.int .u8)).toArray) = some (kl6 l) := by
  obtain ⟨d, hd⟩ : ∃ d, Try.prog.types.size + 1 = d + 3 := ⟨Try.prog.types.size - 2, by have := types_many; omega⟩
  have hk : Try.prog.keyType 104 = true := by kernel_rfl
  have hf : (Value.agg (l.map (Value.int .u8)).toArray).formed Try.prog 104 = true := by
    simp [Value.formed, Try.underlying104, cells_row, h.1]
  unfold keyOf
  simp only [Try.underlying104]
  rw [hk, hf, hd]
  simp only [Bool.and_self, if_true]
  show (Try.prog.keyLits (d + 3) 104 (l.map (Value.int .u8))).map _ = _
  rw [lits_six d l h]
  rfl
theorem kl6_iff {l l' : List Int} (h : bytes6 l) (h' : bytes6 l') : kl6 l = kl6 l' ↔ l = l' := by
  constructor
  · intro e
    have h1 := key_six h
    have h2 := key_six h'
    rw [e] at h1
    have h3 := keyed_row.inj h1 h2
    have h4 : l.map (Value.int .u8) = l'.map (Value.int .u8) := by simpa using h3
    exact (List.map_inj_right (f := Value.int .u8) (by intro x y hxy; cases hxy; rfl)).1 h4
  · intro e; rw [e]

/-! ### Views: rows that go on to the numbers of sets -/
def vw6 (A : Aut) (L t i : Nat) : List Int := [rowO A L i 0, rowO A L i 1, rowO A L i 2, (aNum A L t (rowN A L i 0) : Int), (aNum A L t (rowN A L i 1) : Int), (aNum A L t (rowN A L i 2) : Int)]
theorem vw6_bytes {A : Aut} {L N : Nat} (hA : A.In L N) (hb : A.Bytes L N) (hN : N ≤ 256) (t i : Nat) (hi : i < N) : bytes6 (vw6 A L t i) := by
  refine ⟨rfl, fun n hn => ?_⟩
  have o := fun x => rowO_bd hb hi x
  have m := fun x => Nat.lt_of_le_of_lt (aNum_le A L t (rowN A L i x)) (rowN_lt hA hi x)
  have m0 := m 0; have m1 := m 1; have m2 := m 2
  simp only [vw6, List.mem_cons, List.not_mem_nil, or_false] at hn
  rcases hn with rfl | rfl | rfl | rfl | rfl | rfl
  · exact o 0
  · exact o 1
  · exact o 2
  · omega
  · omega
  · omega
theorem vw6_iff {A : Aut} {L : Nat} (hL : L ≤ 3) (t i j : Nat) : vw6 A L t i = vw6 A L t j ↔ aEq A L (t + 1) i j = true := by
  rw [aEq_succ]
  have key : ∀ x, x < 3 → ((rowO A L i x = rowO A L j x ∧ (aNum A L t (rowN A L i x) : Int) = (aNum A L t (rowN A L j x) : Int)) ↔ (x < L → A.o i x = A.o j x ∧ aEq A L t (A.n i x) (A.n j x) = true)) := fun x _ => by
    unfold rowO rowN
    by_cases h : x < L
    · rw [if_pos h, if_pos h, if_pos h, if_pos h, ← aNum_iff]
      constructor
      · intro a _; exact ⟨a.1, by omega⟩
      · intro a; exact ⟨(a h).1, by have := (a h).2; omega⟩
    · rw [if_neg h, if_neg h, if_neg h, if_neg h]
      simp [h]
  have k0 := key 0 (by omega)
  have k1 := key 1 (by omega)
  have k2 := key 2 (by omega)
  simp only [vw6, List.cons.injEq, and_true]
  constructor
  · rintro ⟨a, b, c, d, e, f⟩ x hx
    rcases (show x = 0 ∨ x = 1 ∨ x = 2 by omega) with rfl | rfl | rfl
    · exact k0.1 ⟨a, d⟩ hx
    · exact k1.1 ⟨b, e⟩ hx
    · exact k2.1 ⟨c, f⟩ hx
  · intro h
    have a0 := k0.2 (h 0)
    have a1 := k1.2 (h 1)
    have a2 := k2.2 (h 2)
    exact ⟨a0.1, a1.1, a2.1, a0.2, a1.2, a2.2⟩

/-! ### The map of numbers -/
theorem aRep_iff (A : Aut) (L t q : Nat) : aRep A L t q = true ↔ ∀ r, r < q → aEq A L t q r = false := by
  obtain ⟨h1, h2, h3⟩ := aLst_at A L t q
  simp only [aRep, decide_eq_true_eq]
  constructor
  · intro e r hr; exact h3 r (by omega)
  · intro h
    rcases Nat.lt_or_ge (aLst A L t q) q with hlt | hge
    · rw [h _ hlt] at h2; cases h2
    · omega
/-- A point that leads words like q stands ahead of k. -/
def seenQ (A : Aut) (L t k q : Nat) : Bool := (List.range k).any fun p => aEq A L t p q
theorem seenQ_iff (A : Aut) (L t k q : Nat) : seenQ A L t k q = true ↔ ∃ p, p < k ∧ aEq A L t p q = true := by simp [seenQ]
theorem seenQ_succ (A : Aut) (L t k q : Nat) : seenQ A L t (k + 1) q = (seenQ A L t k q || aEq A L t k q) := by simp [seenQ, List.range_succ]
theorem rep_seenQ (A : Aut) (L t k : Nat) : aRep A L t k = !seenQ A L t k k := by
  cases h : seenQ A L t k k with
  | true =>
    obtain ⟨p, hp, e⟩ := (seenQ_iff A L t k k).1 h
    cases hr : aRep A L t k with
    | false => rfl
    | true =>
      have := (aRep_iff A L t k).1 hr p hp
      rw [aEq_symm A L _ _ _ e] at this
      cases this
  | false =>
    show _ = true
    rw [aRep_iff]
    intro r hr
    cases he : aEq A L t k r with
    | false => rfl
    | true =>
      rw [(seenQ_iff A L t k k).2 ⟨r, hr, aEq_symm A L _ _ _ he⟩] at h
      cases h
structure NMap (A : Aut) (L t N k : Nat) (kl : Nat → Lit) (D : DataW Unit) : Prop where
  size : Maps.size D = cntB (aRep A L t) k
  has : ∀ q, q < N → Maps.has D (kl q) = seenQ A L t k q
  at' : ∀ p, p < k → D.atKey (kl p) (.lit (.int .u8 0)) = .lit (.int .u8 (aNum A L t p))
theorem NMap.start (A : Aut) (L t N : Nat) (kl : Nat → Lit) : NMap A L t N 0 kl (.map []) := ⟨rfl, fun _ _ => rfl, fun _ h => absurd h (by omega)⟩
theorem NMap.found {A : Aut} {L t N k : Nat} {kl : Nat → Lit} {D : DataW Unit} (hkl : ∀ p q, p < N → q < N → (kl p = kl q ↔ aEq A L t p q = true)) (h : NMap A L t N k kl D) (hk : k < N) (hs : seenQ A L t k k = true) :
    D.atKey (kl k) (.lit (.int .u8 0)) = .lit (.int .u8 (aNum A L t k)) ∧ NMap A L t N (k + 1) kl D := by
  obtain ⟨p, hp, e⟩ := (seenQ_iff A L t k k).1 hs
  have hkk : kl p = kl k := (hkl p k (by omega) hk).2 e
  have hn : aNum A L t p = aNum A L t k := (aNum_iff A L t p k).2 e
  have h0 : D.atKey (kl k) (.lit (.int .u8 0)) = .lit (.int .u8 (aNum A L t k)) := by rw [← hkk, h.at' p hp, hn]
  refine ⟨h0, ?_, fun q hq => ?_, fun p' hp' => ?_⟩
  · have hr := rep_seenQ A L t k
    rw [hs] at hr
    rw [h.size]
    show _ = cntB _ k + if aRep A L t k = true then 1 else 0
    rw [hr]; rfl
  · rw [h.has q hq, seenQ_succ]
    cases he : aEq A L t k q with
    | true =>
      have : seenQ A L t k q = true := (seenQ_iff A L t k q).2 ⟨p, hp, aEq_trans A L t _ _ _ e he⟩
      rw [this]; rfl
    | false => simp
  · rcases Nat.lt_or_ge p' k with h1 | h1
    · exact h.at' p' h1
    · obtain rfl : p' = k := by omega
      exact h0
theorem NMap.fresh {A : Aut} {L t N k : Nat} {kl : Nat → Lit} {D : DataW Unit} (hK : ∀ p, WideAt.IsKeyLit (kl p)) (hkl : ∀ p q, p < N → q < N → (kl p = kl q ↔ aEq A L t p q = true)) (h : NMap A L t N k kl D) (hD : Tidy D) (hk : k < N) (hs : seenQ A L t k k = false) :
    (Maps.size D : Nat) = aNum A L t k ∧ NMap A L t N (k + 1) kl (D.put (kl k) (.lit (.int .u8 (aNum A L t k)))) := by
  have hr := rep_seenQ A L t k
  rw [hs] at hr
  have hn : Maps.size D = aNum A L t k := by rw [h.size, aNum_rep A L t k hr]
  refine ⟨hn, ?_, fun q hq => ?_, fun p hp => ?_⟩
  · rw [size_put hD, h.has k hk, hs, if_neg (by simp), h.size]
    show _ = cntB _ k + if aRep A L t k = true then 1 else 0
    rw [hr]; rfl
  · rw [seenQ_succ]
    cases he : aEq A L t k q with
    | true =>
      rw [← (hkl k q hk hq).2 he, has_put_same hD.isMap (hK k)]
      simp
    | false =>
      rw [has_put_other (fun e => by rw [(hkl k q hk hq).1 e.symm] at he; cases he), h.has q hq]
      simp
  · rcases Nat.lt_or_ge p k with h1 | h1
    · have hne : kl p ≠ kl k := fun e => by
        have := (seenQ_iff A L t k k).2 ⟨p, h1, (hkl p k (by omega) hk).1 e⟩
        rw [hs] at this; cases this
      rw [atKey_put_other hne, h.at' p h1]
    · obtain rfl : p = k := by omega
      rw [atKey_put_same hD.isMap (hK p)]
/-- The numbers of the first k points, and 0 behind them. -/
def aNums (A : Aut) (L t N k : Nat) : List Nat := (List.range N).map fun i => if i < k then aNum A L t i else 0
theorem aNums_len (A : Aut) (L t N k : Nat) : (aNums A L t N k).length = N := by simp [aNums]
theorem aNums_all (A : Aut) (L t N : Nat) : aNums A L t N N = (List.range N).map (aNum A L t) := by
  unfold aNums
  refine List.map_congr_left fun i hi => ?_
  rw [if_pos (by simpa using hi)]
theorem aNums_zero (A : Aut) (L t N : Nat) : aNums A L t N 0 = List.replicate N 0 := by
  unfold aNums
  simp only [Nat.not_lt_zero, if_false]
  rw [List.map_const', List.length_range]
theorem aNums_set (A : Aut) (L t N k : Nat) : (aNums A L t N k).set k (aNum A L t k) = aNums A L t N (k + 1) := by
  apply List.ext_getElem
  · simp [aNums]
  · intro i h1 h2
    simp only [aNums, List.getElem_set, List.getElem_map, List.getElem_range]
    by_cases h : k = i
    · subst h; simp
    · rw [if_neg h]
      by_cases h3 : i < k
      · rw [if_pos h3, if_pos (by omega)]
      · rw [if_neg h3, if_neg (by omega)]
/-- Numbers as cells. -/
def nats (l : List Nat) : Array Value := (l.map fun (k : Nat) => Value.int .u8 (k : Int)).toArray
theorem nats_size (l : List Nat) : (nats l).size = l.length := by simp [nats]
theorem nats_at (l : List Nat) (i : Nat) (hi : i < l.length) : (nats l)[i]? = some (.int .u8 (l.getD i 0 : Int)) := by
  simp [nats, List.getD, List.getElem?_eq_getElem hi]
theorem nats_set (l : List Nat) (i k : Nat) : nats (l.set i k) = (nats l).setIfInBounds i (.int .u8 (k : Int)) := by
  apply Array.ext'; simp [nats, List.map_set]
theorem nats_zero (N : Nat) : nats (List.replicate N 0) = Array.replicate N (.int .u8 0) := by
  apply Array.ext'; simp [nats]
end Go.Proofs.Ytkkooafjpancoaa
