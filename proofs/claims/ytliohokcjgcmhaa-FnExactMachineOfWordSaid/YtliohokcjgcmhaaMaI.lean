/- Queues of sets in memory: the map of sets' places; what 'machineAt' makes. · 'machineAt'. -/
import Derived.Test.YtliohokcjgcmhaaAuP
import Derived.Test.YtliohokcjgcmhaaDvO
import Derived.Test.YtliohokcjgcmhaaInvI
import Derived.Laws.Tables
namespace Go.Proofs.Ytliohokcjgcmhaa
open Go.RowKit
open Go.Maps

/-- Points of one set by its number. -/
def fE (f : Nat → Nat) : Nat → Nat → Bool := fun a b => f a == f b
theorem fE_eq (f : Nat → Nat) : BEq (fE f) := ⟨fun _ => beq_self_eq_true _, fun _ _ h => beq_iff_eq.2 (beq_iff_eq.1 h).symm, fun _ _ _ h h' => beq_iff_eq.2 ((beq_iff_eq.1 h).trans (beq_iff_eq.1 h'))⟩
theorem fE_same {f : Nat → Nat} (q : List Nat) {p p' : Nat} (h : f p = f p') : bPos (fE f) q p = bPos (fE f) q p' := by
  unfold bPos fE; rw [h]
theorem fE_app (f : Nat → Nat) (q : List Nat) (p p' : Nat) (hn : ¬ bPos (fE f) q p < q.length) (h : f p = f p') : bPos (fE f) (q ++ [p]) p' = q.length := by
  rw [← fE_same _ h]
  exact bPos_new q p (beq_self_eq_true _) hn
theorem fE_old (f : Nat → Nat) (q : List Nat) (p p' : Nat) (h : f p ≠ f p') : bPos (fE f) (q ++ [p]) p' < (q ++ [p]).length ↔ bPos (fE f) q p' < q.length := by
  rw [bPos_lt, bPos_lt]
  constructor
  · rintro ⟨r, hr, e⟩
    rcases List.mem_append.1 hr with h1 | h1
    · exact ⟨r, h1, e⟩
    · rw [List.mem_singleton.1 h1] at e
      exact absurd (beq_iff_eq.1 e) h
  · rintro ⟨r, hr, e⟩
    exact ⟨r, List.mem_append_left _ hr, e⟩

def OwnBt (w : World) (b n : Nat) (D : DataW Unit) : Prop := w.ownsMap Try.prog 5 (plainElem Try.prog 5) b n D
theorem OwnBt.keep {w w' : World} {b n : Nat} {D : DataW Unit} (h : OwnBt w b n D) (e : w'.heap[b]? = w.heap[b]?) : OwnBt w' b n D := by
  obtain ⟨es, clock, hb, r⟩ := h
  exact ⟨es, clock, e.trans hb, r⟩
theorem OwnBt.alloc {w : World} {b n : Nat} {D : DataW Unit} (h : OwnBt w b n D) (o : Obj) : OwnBt (w.alloc o) b n D := World.ownsMap.alloc h o
theorem OwnBt.of {w : World} {b n : Nat} {D : DataW Unit} (h : w.ownsMap Try.prog 5 (plainElem Try.prog 5) b n D) : OwnBt w b n D := h
theorem OwnBt.drew {w : World} {b n : Nat} {D : DataW Unit} (h : OwnBt w b n D) : OwnBt w.drew b n D := World.ownsMap.drew h
theorem OwnBt.lt {w : World} {b n : Nat} {D : DataW Unit} (h : OwnBt w b n D) : b < w.heap.size := World.ownsMap.lt h
theorem OwnBt.made (w : World) (n : Nat) (h : n = w.heap.size) : OwnBt (w.alloc (.map #[] 0)) n 0 (.map []) := by
  subst h; exact World.ownsMap_made (H := Unit) w Try.prog 5 (plainElem Try.prog 5)
theorem keyed_u8 : Keyed Try.prog 5 := int_keyed Try.underlying5
theorem key_u8 (n : Nat) (h : n < 256) : keyOf Try.prog 5 (.int .u8 (n : Int)) = some (.int .u8 (n : Int)) := keyOf_int_mk Try.underlying5 (WalkArith.wf_u8 (by omega))
/-- It tells of each point of the queue where its set stands. -/
structure CMap (f : Nat → Nat) (N : Nat) (q : List Nat) (D : DataW Unit) : Prop where
  has : ∀ p, p < N → Maps.has D (.int .u8 (f p : Int)) = decide (bPos (fE f) q p < q.length)
  at' : ∀ p, p < N → bPos (fE f) q p < q.length → D.atKey (.int .u8 (f p : Int)) (.lit (.int .u8 0)) = .lit (.int .u8 (bPos (fE f) q p : Nat))
theorem isKey_int (n : Int) : WideAt.IsKeyLit (.int .u8 n) := trivial
theorem CMap.start (f : Nat → Nat) (N : Nat) : CMap f N [] (.map []) := ⟨fun _ _ => by simp [Maps.has], fun _ _ h => absurd h (by simp)⟩
theorem CMap.next {f : Nat → Nat} {N : Nat} {q : List Nat} {D : DataW Unit} (h : CMap f N q D) (hD : IsMap D) {p : Nat} (hn : ¬ bPos (fE f) q p < q.length) : CMap f N (q ++ [p]) (D.put (.int .u8 (f p : Int)) (.lit (.int .u8 (q.length : Nat)))) := by
  refine ⟨fun p' hp' => ?_, fun p' hp' hl => ?_⟩
  · by_cases e : f p = f p'
    · rw [← e, has_put_same hD (isKey_int _), fE_app f q p p' hn e]
      simp
    · rw [has_put_other (fun e' => e (by injection e' with _ h; omega)), h.has p' hp']
      exact decide_eq_decide.2 (fE_old f q p p' e).symm
  · by_cases e : f p = f p'
    · rw [← e, atKey_put_same hD (isKey_int _), fE_app f q p p' hn e]
    · have h1 := (fE_old f q p p' e).1 hl
      rw [atKey_put_other (fun e' => e (by injection e' with _ h; omega)), h.at' p' hp' h1, bPos_app q [p] p' h1]
theorem bPut_new {α : Type} {E : α → α → Bool} {q : List α} {p : α} (h : ¬ bPos E q p < q.length) : bPut E q p = q ++ [p] := by
  unfold bPut; rw [if_neg h]
theorem bPut_old {α : Type} {E : α → α → Bool} {q : List α} {p : α} (h : bPos E q p < q.length) : bPut E q p = q := by
  unfold bPut; rw [if_pos h]
/-- What the rows and letters that have been looked at go on to stands in the queue. -/
theorem cur_closed {α : Type} {E : α → α → Bool} {n : α → Nat → α} {d : α} (hE : ∀ p, E p p = true) {L : Nat} {p0 : α} {k : Nat} (hk : k < (bAll E n L p0 k).length) (x : Nat) (i y : Nat) (h : i < k ∨ i = k ∧ y < x) (hy : y < L) :
    bPos E (bRow E n (bAll E n L p0 k) ((bAll E n L p0 k)[k]) x) (n ((bRow E n (bAll E n L p0 k) ((bAll E n L p0 k)[k]) x).getD i d) y) < (bRow E n (bAll E n L p0 k) ((bAll E n L p0 k)[k]) x).length := by
  have hpre := bRow_pre (E := E) (n := n) (bAll E n L p0 k) ((bAll E n L p0 k)[k]) x
  have hi : i < (bAll E n L p0 k).length := by omega
  have e : (bRow E n (bAll E n L p0 k) ((bAll E n L p0 k)[k]) x).getD i d = (bAll E n L p0 k)[i] := by
    obtain ⟨z, hz⟩ := hpre
    rw [← hz]
    simp [List.getD, List.getElem?_append_left hi, List.getElem?_eq_getElem hi]
  rw [e]
  rcases h with h | ⟨rfl, h⟩
  · exact bPos_pre_lt hpre _ (bAll_closed hE L p0 k i hi h y hy)
  · exact bRow_has hE _ _ x y h
/-- The machine while it is made: k rows, and x letters of the next states of the last one. -/
def maM (A : Aut) (f : Nat → Nat) (L S k x : Nat) (q : List Nat) : Mach := mkM L S (qNx (fE f) A.n L 0 k x q) (qOt A.o L 0 S q)
theorem maM_zero (A : Aut) (f : Nat → Nat) (L : Nat) (q : List Nat) : mkM L 0 (fun _ _ => 0) (fun _ _ => 0) = maM A f L 0 0 0 q := by
  unfold maM
  refine mkM_congr _ _ _ _ _ _ fun i y _ _ => ?_
  unfold qNx qOt
  rw [if_neg (by omega), if_neg (by omega)]
  exact ⟨rfl, rfl⟩
theorem maM_S (A : Aut) (f : Nat → Nat) (L k : Nat) (q : List Nat) : (mc (maM A f L k k 0 q)).setIfInBounds 1 (.int .i64 ((k : Int) + 1)) = mc (mkM L ((k + 1 : Nat) : Int) (qNx (fE f) A.n L 0 k 0 q) (qOt A.o L 0 k q)) := mkM_S _ _ _ _ _
theorem maM_out (A : Aut) (f : Nat → Nat) (L k : Nat) (hk : k < 16) (q : List Nat) : over (mc (mkM L ((k + 1 : Nat) : Int) (qNx (fE f) A.n L 0 k 0 q) (qOt A.o L 0 k q))) (50 + k * 3) #[.int .u8 (rowO A L (q.getD k 0) 0), .int .u8 (rowO A L (q.getD k 0) 1), .int .u8 (rowO A L (q.getD k 0) 2)] = mc (maM A f L (k + 1) k 0 q) := by
  unfold maM
  refine mkM_rowO _ _ _ _ _ k hk _ _ _ fun i y _ hy => ?_
  rw [qOt_step k q i y hy]
  rfl
theorem maM_put {A : Aut} {f : Nat → Nat} {L S k x : Nat} {q : List Nat} {p : Nat} (hS : S ≤ q.length) (hk : k < q.length) (hcl : ∀ i y, (i < k ∨ i = k ∧ y < x) → y < L → bPos (fE f) q (A.n (q.getD i 0) y) < q.length) : maM A f L S k x q = maM A f L S k x (bPut (fE f) q p) := by
  unfold maM
  refine mkM_congr _ _ _ _ _ _ fun i y _ _ => ?_
  exact ⟨qNx_grow (bPut_pre q p) hk hcl i y, qOt_grow (bPut_pre q p) hS i y⟩
theorem maM_next (A : Aut) (f : Nat → Nat) (L S k x : Nat) (hk : k < 16) (hx3 : x < 3) (hx : x < L) (q : List Nat) : (mc (maM A f L S k x q)).setIfInBounds (2 + k * 3 + x) (.int .u8 (bPos (fE f) q (A.n (q.getD k 0) x) : Nat)) = mc (maM A f L S k (x + 1) q) := by
  unfold maM
  exact mkM_setN _ _ _ _ _ k x hk hx3 _ fun i y _ _ => qNx_step k x hx q i y
theorem maM_row (A : Aut) (f : Nat → Nat) (L S k : Nat) (q : List Nat) : maM A f L S k L q = maM A f L S (k + 1) 0 q := by
  unfold maM
  exact mkM_congr _ _ _ _ _ _ fun i y _ _ => ⟨qNx_row k q i y, rfl⟩
theorem maM_all (A : Aut) (f : Nat → Nat) (L : Nat) (q : List Nat) : maM A f L q.length q.length 0 q = qM (fE f) A.n A.o L 0 q := rfl
theorem maM_ok {A : Aut} {f : Nat → Nat} {L N S k x : Nat} {q : List Nat} (hb : A.Bytes L N) (hq : ∀ p ∈ q, p < N) (hl : q.length ≤ 255) (hS : S ≤ q.length) (hL : L ≤ 3) : (maM A f L S k x q).Ok := by
  refine mkM_ok (fun i y => qNx_bd hl i y) (fun i y => ?_) (by omega) (by omega)
  unfold qOt
  split
  · rename_i h
    obtain ⟨h1, h2⟩ := h
    have hi : i < q.length := by omega
    have e : q.getD i 0 = q[i] := by simp [List.getD, List.getElem?_eq_getElem hi]
    rw [e]
    exact hb _ y (hq _ (List.getElem_mem hi)) h2
  · omega
theorem OwnN.ne_cells {w : World} {base b : Nat} {v : Value} {ks : List Nat} {c : Array Value} {T : TypeId} (h : OwnN w base v ks) (h0 : 0 < ks.length) (hB : Blk w b c T) (hT : T ≠ 5) : v.ownBlock ≠ some b := fun e => by
  obtain ⟨g, cap, cur, rfl, _, hg, _⟩ := h.view h0
  have : g = b := by simpa [Value.ownBlock] using e
  subst this
  unfold Blk at hB hg
  rw [hg] at hB
  simp at hB
  exact hT hB.2.symm
theorem OwnN.ne_map {w : World} {base b n : Nat} {v : Value} {ks : List Nat} {D : DataW Unit} (h : OwnN w base v ks) (h0 : 0 < ks.length) (hM : OwnBt w b n D) : v.ownBlock ≠ some b := fun e => by
  obtain ⟨g, cap, cur, rfl, _, hg, _⟩ := h.view h0
  have : g = b := by simpa [Value.ownBlock] using e
  subst this
  obtain ⟨es, clock, hb, _⟩ := hM
  unfold Blk at hg
  rw [hg] at hb
  cases hb
section
variable {P : Program} {ops : Array Oper} {md : Region.Mode} {S : World → Prop} {Q : Exit → Act → World → Prop} {fuel : Nat} {listed : Array Bool} {a : Act} {w : World}
/-- A look-up without 'ok' in a region that draws its order. -/
theorem hK_look1 (i : Nat) {oi : Oper} (hi : ops[i]? = some oi) (hs : Region.noSelect ops = true) (hf : Region.free md ops listed i = true) (hr : (Region.ready md ops listed).contains i = true)
    (t : TypeId) (m x : Operand) (ho : oi.op = .lookup t m x false) (k e : TypeId) (q : IntKind) (K : Keyed P k) (ht : P.underlying t = some (.map k e)) (he : P.underlying e = some (.int q)) (hz : ∀ W, (zeroValue e).run P W = .ok (.int q 0) W) (b n : Nat) (D : DataW Unit)
    (hm : a.eval m = .map (some b)) (hown : ∀ W, S W → W.ownsMap P k (plainElem P e) b n D) (key : Value) (kl : Lit) (hx : a.eval x = key) (hkey : Go.keyOf P k key = some kl) (c : Int) (hat : D.atKey kl (.lit (.int q 0)) = .lit (.int q c))
    (hQ : ∀ e a w, Q (.panic e) (a.put oi.dst (.int q c)) w → Q (.panic e) a w) (hgd : oi.guard = none) (hS : S w)
    (h : ∀ K : Act → Prop, (∀ a, wpAnyH P md ops Q S fuel (listed.setIfInBounds i true) a w → K a) → K (a.put oi.dst (.int q c))) : wpAnyH P md ops Q S (fuel + 1) listed a w := by
  refine hK_take i _ hi hs hf hr hQ hgd (fun W hW => ?_) hS h
  obtain ⟨c', hrun, hat', _⟩ := (hown W hW).lookup_int K ht he (hz W) hkey
  have e : c' = c := by
    have := hat.symm.trans hat'
    injection this with h1
    injection h1 with _ h2
    exact h2.symm
  subst e
  simp [execOp, ho, hm, hx, hrun, Result.andThen]
end
section
variable {P : Program} {ops : Array Oper} {rest : List Oper} {o : Oper} {a : Act} {w : World} {Q : Exit → Act → World → Prop}
/-- An entry of a map's literal. -/
theorem wpList_insert_own (hgd : o.guard = none) (t : TypeId) (m x v : Operand) (ho : o.op = .insert t m x v) (k e : TypeId) (K : Keyed P k) (ht : P.underlying t = some (.map k e)) (R : Value → Option (DataW Unit × List MemPlace)) (b n : Nat) (D : DataW Unit)
    (hm : a.eval m = .map (some b)) (hown : w.ownsMap P k R b n D) (hn : n < maxLen) (key val : Value) (kl : Lit) (hx : a.eval x = key) (hv : a.eval v = val) (hkey : keyOf P k key = some kl)
    (d : DataW Unit) (ps : List MemPlace) (hval : R val = some (d, ps)) (h : ∀ w', w'.ownsMap P k R b (n + 1) (D.put kl d) → w.grownBy w' (some b) → wpList P ops Q rest (a.put o.dst undef) w') : wpList P ops Q (o :: rest) a w := by
  obtain ⟨w', hrun, r1, r2⟩ := hown.store K ht hn hkey hval
  refine wpList_plain hgd fun K' hK' => ?_
  unfold Oper.wp
  simp [execOp, ho, hm, hx, hv, hrun, Result.andThen]
  exact hK' _ _ (h w' r1 r2.grown)
end
end Go.Proofs.Ytliohokcjgcmhaa

namespace Go.Proofs.Ytliohokcjgcmhaa
open Go.RowKit
open Go.Maps

theorem bRow_len {α : Type} {E : α → α → Bool} {n : α → Nat → α} (q : List α) (r : α) : ∀ k, (bRow E n q r k).length ≤ q.length + k
  | 0 => Nat.le_refl _
  | k + 1 => by
    have h1 := bRow_len (E := E) (n := n) q r k
    have h2 := (bPut_len (E := E) (bRow E n q r k) (n r k)).2
    show (bPut E (bRow E n q r k) (n r k)).length ≤ _
    omega
theorem bAll_len {α : Type} {E : α → α → Bool} {n : α → Nat → α} (L : Nat) (p0 : α) : ∀ k, (bAll E n L p0 k).length ≤ 1 + L * k
  | 0 => by simp [bAll]
  | k + 1 => by
    have h1 := bAll_len (E := E) (n := n) L p0 k
    rcases Nat.lt_or_ge k (bAll E n L p0 k).length with h | h
    · rw [bAll_step L p0 k h]
      have := bRow_len (E := E) (n := n) (bAll E n L p0 k) ((bAll E n L p0 k)[k]) L
      rw [Nat.mul_succ]; omega
    · rw [bAll_end L p0 k h, Nat.mul_succ]; omega
theorem len_a3 : Try.prog.arrayLen 22 = 3 := by kernel_rfl
theorem run_slice3 (w : World) (g o L : Nat) (hL : L ≤ 3) : (Instr.sliceAt 22 (.pointer (some ⟨g, o, none⟩)) none (some (.int .i64 (L : Int))) none).run Try.prog w = .ok (.slice (some ⟨g, o, none⟩) L 3) w := by
  have h := run_sliceAt_array_h (P := Try.prog) w 22 ⟨g, o, none⟩ (by kernel_rfl) .i64 (L : Int) (by omega) (by rw [len_a3]; omega)
  rw [h, len_a3]
  have hs : (Go.sizeOf (Try.prog.elem 22)).run Try.prog w = .ok 1 w := by kernel_rfl
  rw [hs]
  simp [slicedAt, Addr.add, Result.andThen]
/-- What 'machineAt' answers. -/
def maR (A : Aut) (f : Nat → Nat) (L p0 : Nat) : Mach := if (bAll (fE f) A.n L p0 256).length ≤ 16 then qM (fE f) A.n A.o L 0 (bAll (fE f) A.n L p0 256) else zeroM
def maC (A : Aut) (f : Nat → Nat) (L p0 : Nat) : Int := if (bAll (fE f) A.n L p0 256).length ≤ 16 then 0 else 3
def lenV : Value → Nat
  | .slice _ n _ => n
  | _ => 0

set_option maxRecDepth 100000 in
set_option maxHeartbeats 4000000 in
theorem machineAt_calls (A : Aut) (L N : Nat) (f : Nat → Nat) (h2 : 2 ≤ L) (hL : L ≤ 3) (_hN : N ≤ 256) (hA : A.In L N) (hb : A.Bytes L N) (hf : ∀ i, i < N → f i < 256) (rv cv : Value) (p0 : Nat) (hp0 : p0 < N) (w : World) (hr : SeesR w rv A L N) (hc : SeesK w cv N f) :
    Calls Try.prog 56 #[.int .i64 (L : Int), rv, cv, .int .u8 (p0 : Int)] w fun e w' => e = .returned (.tuple #[.agg (mc (maR A f L p0)), .int .i64 (maC A f L p0)]) ∧ Below w.heap.size w w' := by
  obtain ⟨gr, capr, curr, rfl, hBr, hcr⟩ := hr
  obtain ⟨gc, capc, curc, rfl, hBc, hcc⟩ := hc
  have hltr := hBr.lt
  have hltc := hBc.lt
  have hmm := @run_makeMap Try.prog
  have hz := zero_mach
  have hz6 := zero_row6
  have HzS : Hid ((mc zeroM).size = 98) := Lib.hid (mc_size zeroM_ok)
  have hset := mkM_zero (L : Int)
  rw [maM_zero A f L [p0]] at hset
  have hM0ok : (maM A f L 0 0 0 [p0]).Ok := maM_ok hb (fun p hp => by rw [List.mem_singleton.1 hp]; exact hp0) (by simp) (by omega) hL
  have G1 : Hid (0 + (mc (maM A f L 0 0 0 [p0])).size ≤ (mc zeroM).size) := Lib.hid (by rw [HzS.out, mc_size hM0ok]; omega)
  have G2 : Hid ((Try.prog.info? 27).map (·.size) = some (mc (maM A f L 0 0 0 [p0])).size) := Lib.hid (by rw [mc_size hM0ok]; exact size_mach)
  have G4 : Hid (over (mc zeroM) 0 (mc (maM A f L 0 0 0 [p0])) = mc (maM A f L 0 0 0 [p0])) := Lib.hid (over_all _ _ (by rw [HzS.out, mc_size hM0ok]))
  let W0 := (w.alloc (.cells (mc zeroM) 27)).alloc (.cells (mc zeroM) 27)
  have hR0 : Blk W0 w.heap.size (mc zeroM) 27 := (Blk.new w _ _).alloc _
  have hC0 : Blk W0 (w.heap.size + 1) (mc zeroM) 27 := Blk.new_at _ _ _ _ (by simp)
  have hbw0 : Below w.heap.size w W0 := by show Below _ _ (World.alloc _ _); (repeat (first | exact Below.refl _ _ | refine below_drew' ?_ | refine below_drewN' ?_ _ | refine below_alloc' ?_ _ | refine below_set' ?_ (by (try simp); (try omega)) _ | refine below_step ?_ (by assumption)))
  have Hin := Lib.hid hA
  have Hby := Lib.hid hb
  have Hf := Lib.hid hf
  have Hrow : Hid (∀ W, Below w.heap.size w W → Blk W gr curr 137) := Lib.hid (fun W hW => hBr.keptAll hW)
  have Hcls : Hid (∀ W, Below w.heap.size w W → Blk W gc curc 5) := Lib.hid (fun W hW => hBc.keptAll hW)
  have Hcr := Lib.hid hcr
  have Hcc := Lib.hid hcc
  have hp0i : (p0 : Int) < (N : Int) := by omega
  have Hk0 := Lib.hid (key_u8 (f p0) (hf p0 hp0))
  have hpl0 : plainElem (H := Unit) Try.prog 5 (.int .u8 0) = some (.lit (.int .u8 0), []) := plainElem_int Try.underlying5 (WalkArith.wf_u8 (by omega))
  have Hpl0 := Lib.hid hpl0
  have hs0 : W0.heap.size = w.heap.size + 1 + 1 := by simp [W0]
  have HW : Hid (∀ w3, Below w.heap.size w w3 → ((w3.alloc (.cells #[.int .u8 (p0 : Int)] 5)).alloc (.map #[] 0)).cell? ⟨gc, p0, none⟩ = some (.int .u8 (f p0 : Int)) ∧ OwnBt ((w3.alloc (.cells #[.int .u8 (p0 : Int)] 5)).alloc (.map #[] 0)) (w3.heap.size + 1) 0 (.map []) ∧
      Blk ((w3.alloc (.cells #[.int .u8 (p0 : Int)] 5)).alloc (.map #[] 0)) w3.heap.size #[.int .u8 (p0 : Int)] 5 ∧ Below w.heap.size w ((w3.alloc (.cells #[.int .u8 (p0 : Int)] 5)).alloc (.map #[] 0))) := Lib.hid (fun w3 hb => by
    have hbW := below_alloc' (below_alloc' hb (.cells #[.int .u8 (p0 : Int)] 5)) (.map #[] 0)
    refine ⟨(((hBc.keptAll hbW).cell p0).trans (hcc p0 hp0)), OwnBt.made _ _ (by simp), (Blk.new _ _ _).alloc _, hbW⟩)
  have HS0 := Lib.hid hs0
  clear hA hb hf hBr hBc hcr hcc hpl0 hs0
  go_enter Try.func56, Try.ntmps56
  go_wp2_with (first | ((with_reducible show wpList _ _ _ _ _ _); refine wpList_store_blk rfl 27 (.tmp 10) (.tmp 21) rfl (w.heap.size + 1) 0 (mc (maM A f L 0 0 0 [p0])) rfl rfl (mc zeroM) 27 hC0 G1.out G2.out (mc_one _) ?_; intro w3 hb3 hkeep hsz3 hbl; rw [G4.out] at hb3; have hbw3 := hbl _ _ (by omega) hbw0; have hR3 := hkeep _ _ _ (by omega) hR0; clear hkeep hbl; have HZ3 : Hid (w3.heap.size = w.heap.size + 1 + 1) := Lib.hid (hsz3.trans HS0.out); obtain ⟨cc0, hMm, hP1, hbW⟩ := HW.out w3 hbw3; clear hsz3) | ((with_reducible show wpList _ _ _ _ _ _); refine wpList_insert_own rfl _ _ _ _ rfl 5 5 keyed_u8 Try.underlying138 (plainElem Try.prog 5) _ 0 (.map []) rfl hMm (by unfold maxLen; omega) _ _ _ rfl rfl Hk0.out _ [] Hpl0.out ?_; intro w5 hM5 hg5))
  have hC5 : Blk w5 (w.heap.size + 1) (mc (maM A f L 0 0 0 [p0])) 27 := (hg5.block _ (by have := hb3.lt; simp; omega) (by have := HZ3.out; simp; omega)).trans ((hb3.alloc _).alloc _)
  have hR5 : Blk w5 w.heap.size (mc zeroM) 27 := (hg5.block _ (by have := hb3.lt; simp; omega) (by have := HZ3.out; simp; omega)).trans ((hR3.alloc _).alloc _)
  have hP5 : Blk w5 w3.heap.size #[.int .u8 (p0 : Int)] 5 := (hg5.block _ (by simp; omega) (by simp)).trans hP1
  have hO5 : OwnN w5 (w.heap.size + 1 + 1) (.slice (some ⟨w3.heap.size, 0, none⟩) 1 1) [p0] := OwnN.first (by have := HZ3.out; omega) hP5
  have hM5' : OwnBt w5 (w3.heap.size + 1) 1 (DataW.put (.map []) (.int .u8 (f p0 : Int)) (.lit (.int .u8 0))) := hM5
  have hCM : CMap f N [p0] (DataW.put (.map []) (.int .u8 (f p0 : Int)) (.lit (.int .u8 0))) := CMap.next (CMap.start f N) (World.ownsMap.tidy hMm keyed_u8).isMap (by simp)
  have hbw5 : Below w.heap.size w w5 := hbW.grown hg5 (by have := HZ3.out; simp; omega) (fun j e => by cases e; have := HZ3.out; omega)
  have HmbP : Hid (w.heap.size + 1 < w3.heap.size) := Lib.hid (by have := HZ3.out; omega)
  obtain ⟨mb, hmb⟩ : ∃ mb, w3.heap.size + 1 = mb := ⟨_, rfl⟩
  obtain ⟨D5, hD5⟩ : ∃ D5, DataW.put (.map []) (.int .u8 (f p0 : Int)) (.lit (.int .u8 0)) = D5 := ⟨_, rfl⟩
  rw [hmb] at hM5'
  rw [hD5] at hM5' hCM
  have Hmb : Hid (w.heap.size + 1 + 1 < mb) := Lib.hid (by have := HmbP.out; omega)
  have HneP : Hid (w3.heap.size ≠ mb) := Lib.hid (by omega)
  have HCM := Lib.hid hCM
  rw [hmb]
  clear hb3 hR3 hP1 hbW hMm hM5 hg5 cc0 hC0 hR0 hbw0 hbw3 hP5 hCM hmb hD5 HW HS0 HZ3 HmbP G1 G2 G4 hset hM0ok Hk0 Hpl0 hmm hp0i
  have Hq0 : Hid (bAll (fE f) A.n L p0 0 = [p0]) := Lib.hid rfl
  rw [← Hq0.out] at hC5
  go_loopw [11, 13] (fun pv i wr => ∃ (k : Nat) (D : DataW Unit) (v : Value), k ≤ 16 ∧ k ≤ (bAll (fE f) A.n L p0 k).length ∧ i = .int .i64 k ∧ pv = v ∧ OwnN wr (w.heap.size + 1 + 1) v (bAll (fE f) A.n L p0 k) ∧ v.ownBlock ≠ some mb ∧ OwnBt wr mb (bAll (fE f) A.n L p0 k).length D ∧ Blk wr w.heap.size (mc zeroM) 27 ∧ Blk wr (w.heap.size + 1) (mc (maM A f L k k 0 (bAll (fE f) A.n L p0 k))) 27 ∧ Below w.heap.size w wr ∧ Hid (CMap f N (bAll (fE f) A.n L p0 k) D)) (fun _ i _ => 17 - (intOf i).toNat)
  case atStart => exact ⟨0, D5, _, by omega, Nat.zero_le _, rfl, rfl, hO5, by simpa [Value.ownBlock] using HneP.out, hM5', hR5, hC5, hbw5, HCM⟩
  case round =>
    clear hO5 hM5' hR5 hC5 hbw5
    obtain ⟨k, D, v, hk, hkl, rfl, rfl, hO, hpm, hM, hR, hC, hbw, HD⟩ := hrel
    by_cases hlt : k < (bAll (fE f) A.n L p0 k).length
    · by_cases h16 : k = 16
      · subst h16
        have Hlong : Hid (¬ (bAll (fE f) A.n L p0 256).length ≤ 16) := Lib.hid (fun h => by
          have := (bAll_pre (E := fE f) (n := A.n) L p0 (show 16 ≤ 256 by omega)).length_le
          omega)
        have Hc : Hid (maC A f L p0 = 3) := Lib.hid (by unfold maC; rw [if_neg Hlong.out])
        have Hr : Hid (maR A f L p0 = zeroM) := Lib.hid (by unfold maR; rw [if_neg Hlong.out])
        obtain ⟨g, cap, cur, rfl, hg, hBp, hcp⟩ := hO.view (by omega)
        have hli : (16 : Int) < ((bAll (fE f) A.n L p0 16).length : Int) := by omega
        go_wp2_with ((with_reducible show wpList _ _ _ _ _ _); refine wpList_store_blk rfl 27 (.tmp 8) (.tmp 38) rfl w.heap.size 0 (mc zeroM) rfl rfl (mc zeroM) _ hR (by rw [HzS.out]; omega) (by rw [HzS.out]; exact size_mach) (mc_one _) ?_; intro w4 hb4 hkeep _ hbl; rw [zero_over] at hb4; have hbw4 := hbl _ _ (by omega) hbw; clear hkeep hbl)
        exact bodyPost_cell1 rfl rfl hb4 Try.underlying27 rfl (by rw [HzS.out]; exact size_mach) rfl ⟨by rw [Hr.out, Hc.out]; rfl, hbw4⟩
      · have hk16 : k < 16 := by omega
        have hk16i : ((k : Int) == 16) = false := by simp; omega
        obtain ⟨g, cap, cur, rfl, hg, hBp, hcp⟩ := hO.view (by omega)
        have Hstep := Lib.hid (bAll_step (E := fE f) (n := A.n) L p0 k hlt)
        have Hcl := Lib.hid (fun x => cur_closed (E := fE f) (n := A.n) (d := 0) (fE_eq f).refl hlt x)
        have HqN := Lib.hid (bAll_all (E := fE f) (n := A.n) (fun p => p < N) L (fun r hr x hx => Hin.out r x hr hx) p0 hp0 k)
        have hpk := hcp k hlt
        have hqk : (bAll (fE f) A.n L p0 k).getD k 0 = (bAll (fE f) A.n L p0 k)[k] := by simp [List.getD, List.getElem?_eq_getElem hlt]
        have hpN := HqN.out _ (List.getElem_mem hlt)
        have Hout := Lib.hid (maM_out A f L k hk16 (bAll (fE f) A.n L p0 k))
        have HmS := Lib.hid (maM_S A f L k (bAll (fE f) A.n L p0 k))
        have hlen := bAll_len (E := fE f) (n := A.n) L p0 k
        have hLk : L * k ≤ 48 := by
          calc L * k ≤ 3 * 16 := Nat.mul_le_mul hL (by omega)
            _ = 48 := rfl
        have Hok0 := Lib.hid (maM_ok (f := f) (S := k) (k := k) (x := 0) Hby.out HqN.out (by omega) hkl hL)
        rw [hqk] at Hout
        clear hqk
        obtain ⟨p, hp⟩ : ∃ p, (bAll (fE f) A.n L p0 k)[k] = p := ⟨_, rfl⟩
        rw [hp] at hpk hpN Hstep Hout
        simp only [hp] at Hcl
        have Hpk := Lib.hid hp
        clear hp hcp
        have cP := hBp.cell k
        rw [hpk] at cP
        have hBr := Hrow.out wr hbw
        have Hroom := Lib.hid (room_row (Hcr.out p hpN))
        have Hcut := Lib.hid (cut_row curr A L p (Hcr.out p hpN))
        have Q1 : Hid (0 + (c8 (rowL A L p)).size ≤ (c8 zer6).size) := Lib.hid (by rw [c8_size, c8_size]; exact Nat.le_refl 6)
        have Q2 : Hid ((Try.prog.info? 137).map (·.size) = some (c8 (rowL A L p)).size) := Lib.hid (by rw [c8_size]; exact size_row6)
        have Q3 : Hid (over (c8 zer6) 0 (c8 (rowL A L p)) = c8 (rowL A L p)) := Lib.hid (over_six _ _ rfl rfl)
        have Q4 : Hid (0 + 3 ≤ (c8 (rowL A L p)).size) := Lib.hid (by rw [c8_size]; exact (by decide : 0 + 3 ≤ 6))
        have O1 := Lib.hid (c8_one' (rowL A L p))
        have Hlo : Hid (cut (c8 (rowL A L p)) 0 3 = #[.int .u8 (rowO A L p 0), .int .u8 (rowO A L p 1), .int .u8 (rowO A L p 2)]) := Lib.hid rfl
        have Hcell : Hid (∀ x, x < 3 → (c8 (rowL A L p))[3 + x]? = some (.int .u8 (rowN A L p x : Int))) := Lib.hid (fun x hx => by
          rcases (show x = 0 ∨ x = 1 ∨ x = 2 by omega) with rfl | rfl | rfl <;> rfl)
        generalize c8 (rowL A L p) = rl at *
        generalize hzr : c8 zer6 = zr at *
        clear hzr
        have hX1 : Blk (wr.alloc (.cells zr 137)) wr.heap.size zr 137 := Blk.new _ _ _
        have hM1 := hM.alloc (.cells zr 137)
        have hO1 := hO.below (w1 := wr.alloc (.cells zr 137)) (by (repeat (first | exact Below.refl _ _ | refine below_drew' ?_ | refine below_drewN' ?_ _ | refine below_alloc' ?_ _ | refine below_set' ?_ (by (try simp); (try omega)) _ | refine below_step ?_ (by assumption))))
        have hR1 := hR.alloc (.cells zr 137)
        have hC1 := hC.alloc (.cells zr 137)
        have hbw1 := below_alloc' hbw (.cells zr 137)
        have hltg := hBp.lt
        have hltM := hM.lt
        have hltC := hC.lt
        have HcS : Hid ((mc (maM A f L k k 0 (bAll (fE f) A.n L p0 k)))[1]? = some (.int .i64 (k : Int))) := Lib.hid (mc_S (maM A f L k k 0 (bAll (fE f) A.n L p0 k)))
        have Q5 : Hid (50 + k * 3 + (#[.int .u8 (rowO A L p 0), .int .u8 (rowO A L p 1), .int .u8 (rowO A L p 2)] : Array Value).size ≤ (mc (mkM L ((k + 1 : Nat) : Int) (qNx (fE f) A.n L 0 k 0 (bAll (fE f) A.n L p0 k)) (qOt A.o L 0 k (bAll (fE f) A.n L p0 k)))).size) := Lib.hid (by simp [mc, mkM]; omega)
        have O2 : Hid ((#[.int .u8 (rowO A L p 0), .int .u8 (rowO A L p 1), .int .u8 (rowO A L p 2)] : Array Value).all (·.oneCell') = true) := Lib.hid (c8_one' [rowO A L p 0, rowO A L p 1, rowO A L p 2])
        have hsl := fun W g o => run_slice3 W g o L hL
        have hki : (k : Int) < ((bAll (fE f) A.n L p0 k).length : Int) := by omega
        have hpNi : (p : Int) < (N : Int) := by omega
        go_wp2_with (first | ((with_reducible show wpList _ _ _ _ _ _); refine wpList_load_blk rfl 137 (.tmp 44) rfl gr (p * 6) rfl curr _ hBr 6 Hroom.out _ Try.underlying137 rfl size_row6 ?_; rw [Hcut.out]) | ((with_reducible show wpList _ _ _ _ _ _); refine wpList_store_row rfl 137 (.tmp 14) (.tmp 45) rfl wr.heap.size 0 rl rfl rfl _ _ hX1 Q1.out Q2.out O1.out _ Q3.out ?_; intro w2 hs2; have hX2 := hs2.blk; have hM2 := hM1.keep (hs2.other _ (by omega)); have hO2 := hO1.same (fun k hk => hs2.other k (by have := (hO.lt k hk).2; omega)); have hR2 := hs2.keep (by omega) hR1; have hC2 := hs2.keep (by omega) hC1; have hbw2 := hs2.below _ _ (by omega) hbw1; clear hs2 hX1 hM1 hO1 hR1 hC1 hbw1; have cS := hC2.cell 1; rw [HcS.out] at cS; have fS := hC2.free; have hC3 := hC2.set 1 (.int .i64 ((k : Int) + 1)); rw [HmS.out] at hC3) | ((with_reducible show wpList _ _ _ _ _ _); refine wpList_load_blk rfl 22 (.tmp 51) rfl wr.heap.size 0 rfl rl _ (hX2.setOther _ _ _ (by omega)) 3 Q4.out _ Try.underlying22 rfl size_a3 ?_; rw [Hlo.out]) | ((with_reducible show wpList _ _ _ _ _ _); refine wpList_store_row rfl 22 (.tmp 54) (.tmp 52) rfl (w.heap.size + 1) (50 + k * 3) #[.int .u8 (rowO A L p 0), .int .u8 (rowO A L p 1), .int .u8 (rowO A L p 2)] rfl rfl _ _ hC3 Q5.out size_a3 O2.out _ Hout.out ?_; intro w4 hs4; have hC4 := hs4.blk; have hX4 := hs4.keep (by omega) (hX2.setOther _ _ _ (by omega)); have hR4 := hs4.keep (by omega) (hR2.setOther _ _ _ (by omega)); have hM4 := (hM2.keep (Below.heap_setCell w2 ⟨w.heap.size + 1, 1, none⟩ (.int .i64 ((k : Int) + 1)) mb (by have := Hmb.out; show mb ≠ w.heap.size + 1; omega))).keep (hs4.other _ (by have := Hmb.out; omega)); have hO4 := (hO2.same (fun k' hk' => Below.heap_setCell w2 ⟨w.heap.size + 1, 1, none⟩ (.int .i64 ((k : Int) + 1)) k' (by have := (hO.lt k' hk').1; show k' ≠ w.heap.size + 1; omega))).same (fun k' hk' => hs4.other k' (by have := (hO.lt k' hk').1; omega)); have hbw4 := hs4.below _ _ (by omega) (below_set' hbw2 (by omega) (.int .i64 ((k : Int) + 1))); have hsz4 := hs4.size; clear hs4 hC2 hC3 hX2 hM2 hO2 hR2 hbw2 cS fS))
        have HcX : Hid (∀ x, x < L → rl[3 + x]? = some (.int .u8 (A.n p x : Int))) := Lib.hid (fun x hx => by
          have h1 := Hcell.out x (by omega)
          have h2 : rowN A L p x = A.n p x := by unfold rowN; rw [if_pos hx]
          rw [h2] at h1
          exact h1)
        have HnN : Hid (∀ x, x < L → A.n p x < N) := Lib.hid (fun x hx => Hin.out p x hpN hx)
        obtain ⟨rb, hrb⟩ : ∃ rb, wr.heap.size = rb := ⟨_, rfl⟩
        rw [hrb] at hX4 hltg hltM hltC ⊢
        have hlt4 := hX4.lt
        have E0 : Hid (bRow (fE f) A.n (bAll (fE f) A.n L p0 k) p 0 = bAll (fE f) A.n L p0 k) := Lib.hid rfl
        have Hq1 := Lib.hid (fun x => bRow_len (E := fE f) (n := A.n) (bAll (fE f) A.n L p0 k) p x)
        have Hpr := Lib.hid (fun x => (bRow_pre (E := fE f) (n := A.n) (bAll (fE f) A.n L p0 k) p x).length_le)
        have Hgt : Hid (∀ x, (bRow (fE f) A.n (bAll (fE f) A.n L p0 k) p x).getD k 0 = p) := Lib.hid (fun x => by
          obtain ⟨z, hz⟩ := bRow_pre (E := fE f) (n := A.n) (bAll (fE f) A.n L p0 k) p x
          rw [← hz]
          simp [List.getD, List.getElem?_append_left hlt, List.getElem?_eq_getElem hlt, Hpk.out])
        have HD4 : Hid (CMap f N (bRow (fE f) A.n (bAll (fE f) A.n L p0 k) p 0) D) := HD
        have hO5 : OwnN w4 (w.heap.size + 1 + 1) (.slice (some ⟨g, 0, none⟩) (bAll (fE f) A.n L p0 k).length cap) (bRow (fE f) A.n (bAll (fE f) A.n L p0 k) p 0) := hO4
        have hM5 : OwnBt w4 mb (bRow (fE f) A.n (bAll (fE f) A.n L p0 k) p 0).length D := hM4
        have hC5 : Blk w4 (w.heap.size + 1) (mc (maM A f L (k + 1) k 0 (bRow (fE f) A.n (bAll (fE f) A.n L p0 k) p 0))) 27 := hC4
        clear hO4 hM4 hC4 Hout HmS Hok0 HcS Hlo Q1 Q2 Q3 Q4 Q5 O1 O2 Hcut Hroom hBr cP hpk hsl hBp hO hM hR hC hbw HD hsz4 hrb hltg
        go_loopw [11, 59] (fun pv i wr => ∃ (x : Nat) (D : DataW Unit) (v : Value), x ≤ L ∧ i = .int .i64 x ∧ pv = v ∧ OwnN wr (w.heap.size + 1 + 1) v (bRow (fE f) A.n (bAll (fE f) A.n L p0 k) p x) ∧ OwnBt wr mb (bRow (fE f) A.n (bAll (fE f) A.n L p0 k) p x).length D ∧ Blk wr w.heap.size (mc zeroM) 27 ∧ Blk wr (w.heap.size + 1) (mc (maM A f L (k + 1) k x (bRow (fE f) A.n (bAll (fE f) A.n L p0 k) p x))) 27 ∧ Blk wr rb rl 137 ∧ Below w.heap.size w wr ∧ Hid (CMap f N (bRow (fE f) A.n (bAll (fE f) A.n L p0 k) p x) D)) (fun _ i _ => L - (intOf i).toNat)
        case atStart => exact ⟨0, D, _, by omega, rfl, rfl, hO5, hM5, hR4, hC5, hX4, hbw4, HD4⟩
        case round =>
          clear hO5 hM5 hR4 hC5 hX4 hbw4 HD4 hlt4
          obtain ⟨x, D, v, hx, rfl, rfl, hO, hM, hR, hC, hX, hbw, HD⟩ := hrel
          by_cases hlx : x < L
          · have hx3 : x < 3 := by omega
            have hxi : (x : Int) < 3 := by omega
            have hkj : (k : Int) < 16 := by omega
            have hlen0 := Hpr.out x
            have hlen1 := Hq1.out x
            have hnN := HnN.out x hlx
            have hnNi : (A.n p x : Int) < (N : Int) := by omega
            have cX := (hX.cell (3 + x)).trans (HcX.out x hlx)
            have cC := ((Hcls.out wr hbw).cell (A.n p x)).trans (Hcc.out _ hnN)
            have Hkey := Lib.hid (key_u8 (f (A.n p x)) (Hf.out _ hnN))
            have hhas := HD.out.has _ hnN
            have Hrow' : Hid (bRow (fE f) A.n (bAll (fE f) A.n L p0 k) p (x + 1) = bPut (fE f) (bRow (fE f) A.n (bAll (fE f) A.n L p0 k) p x) (A.n p x)) := Lib.hid rfl
            have Hcl' := Lib.hid (fun i y h hy => Hcl.out x i y h hy)
            have Hput := Lib.hid (maM_put (A := A) (f := f) (L := L) (S := k + 1) (k := k) (x := x) (q := bRow (fE f) A.n (bAll (fE f) A.n L p0 k) p x) (p := A.n p x) (by omega) (by omega) Hcl'.out)
            have Hnx := Lib.hid (maM_next A f L (k + 1) k x hk16 hx3 hlx (bRow (fE f) A.n (bAll (fE f) A.n L p0 k) p (x + 1)))
            rw [Hgt.out] at Hnx
            have hpos : 0 < (bRow (fE f) A.n (bAll (fE f) A.n L p0 k) p x).length := by omega
            have hneM := hO.ne_map hpos hM
            have hneX := hO.ne_cells hpos hX (by decide)
            have hltM := hM.lt
            have hltX := hX.lt
            have hltC := hC.lt
            cases hin : decide (bPos (fE f) (bRow (fE f) A.n (bAll (fE f) A.n L p0 k) p x) (A.n p x) < (bRow (fE f) A.n (bAll (fE f) A.n L p0 k) p x).length)
            · have hin' : ¬ bPos (fE f) (bRow (fE f) A.n (bAll (fE f) A.n L p0 k) p x) (A.n p x) < (bRow (fE f) A.n (bAll (fE f) A.n L p0 k) p x).length := of_decide_eq_false hin
              rw [hin] at hhas
              have HCM := Lib.hid (HD.out.next (World.ownsMap.tidy hM keyed_u8).isMap hin')
              have HATx := Lib.hid (atKey_put_same (World.ownsMap.tidy hM keyed_u8).isMap (isKey_int (f (A.n p x) : Int)) (d := .lit (.int .u8 ((bRow (fE f) A.n (bAll (fE f) A.n L p0 k) p x).length : Int))) (z := .lit (.int .u8 0)))
              have Hq' := Lib.hid (Hrow'.out.trans (bPut_new hin'))
              have Hpn := Lib.hid (fE_app f _ _ _ hin' rfl)
              rw [bPut_new hin'] at Hput
              clear hin hin'
              have hOv := hO
              obtain ⟨gv, capv, curv, hv, _, hBv, _⟩ := hOv.view hpos
              clear hOv hBv
              generalize hqx : bRow (fE f) A.n (bAll (fE f) A.n L p0 k) p x = qx at *
              have Hqx := Lib.hid hqx; clear hqx
              subst hv
              have hw8 : IntKind.u8.wrap (qx.length : Int) = (qx.length : Int) := by simp [IntKind.wrap, IntKind.bits, IntKind.signed]; omega
              have hpl : plainElem (H := Unit) Try.prog 5 (.int .u8 (qx.length : Int)) = some (.lit (.int .u8 (qx.length : Int)), []) := plainElem_int Try.underlying5 (WalkArith.wf_u8 (by omega))
              have Hpl := Lib.hid hpl
              clear hpl
              go_wp2_with (first | (at_lookup; refine wpList_lookup_own_ok_int _ rfl _ _ 138 rfl 5 5 .u8 keyed_u8 Try.underlying138 Try.underlying5 (zero_u8 _) mb qx.length D rfl hM _ _ rfl Hkey.out ?_; intro cN hat hwc; rw [hhas]) | (at_mapUpdate; refine wpList_mapUpdate_own _ rfl _ _ _ 138 rfl 5 5 keyed_u8 Try.underlying138 _ mb qx.length D rfl hM (by unfold maxLen; omega) _ _ _ rfl rfl Hkey.out (.lit (.int .u8 (qx.length : Int))) [] Hpl.out ?_; intro w5 hM5 hg5; have hO5 := hO.same (fun k' hk' => grown_same hg5 k' (hO.lt k' hk').2 (fun e => hneM (e ▸ hk'))); have hR5 : Blk w5 w.heap.size (mc zeroM) 27 := (grown_same hg5 _ hR.lt (by have := Hmb.out; omega)).trans hR; have hC5 : Blk w5 (w.heap.size + 1) _ _ := (grown_same hg5 _ hltC (by have := Hmb.out; omega)).trans hC; have hX5 : Blk w5 rb rl 137 := (grown_same hg5 _ hltX (by omega)).trans hX; have hbw5 : Below w.heap.size w w5 := hbw.grown hg5 hbw.size (fun j e => by cases e; have := Hmb.out; omega); have hal5 : Below w5.heap.size w5 (w5.alloc (.cells #[.int .u8 (A.n p x : Int)] 5)) := (Below.refl _ _).alloc (Nat.le_refl _) _; have hO6 := hO5.below hal5; have hM6 := (OwnBt.of hM5).alloc (.cells #[.int .u8 (A.n p x : Int)] 5); have hR6 := hR5.keptAll hal5; have hC6 := hC5.keptAll hal5; have hX6 := hX5.keptAll hal5; have hbw6 := below_step hbw5 hal5; have hN6 : Blk (w5.alloc (.cells #[.int .u8 (A.n p x : Int)] 5)) w5.heap.size #[.int .u8 (A.n p x : Int)] 5 := Blk.new w5 _ _) | (at_builtin; refine wpList_push_letter 69 Try.underlying69 rfl (.tmp 81) (.tmp 83) rfl (w.heap.size + 1 + 1) _ qx rfl hO6 w5.heap.size 1 (A.n p x) rfl hN6 (by omega) (by have := hbw6.size; have := hM6.lt; have := Hmb.out; omega) ?_; intro v7 w7 hO7 hb7 hs7; have hM7 : OwnBt w7 mb _ _ := hM6.keep (hs7 mb hM6.lt (fun e => hneM e.symm)); have hR7 : Blk w7 w.heap.size (mc zeroM) 27 := (hs7 _ hR6.lt (fun e => by have := (hO6.lt _ e.symm).1; omega)).trans hR6; have hC7 : Blk w7 (w.heap.size + 1) _ 27 := (hs7 _ hC6.lt (fun e => by have := (hO6.lt _ e.symm).1; omega)).trans hC6; have hX7 : Blk w7 rb rl 137 := (hs7 _ hX6.lt (fun e => hneX e.symm)).trans hX6; have hbw7 := hbw6.trans (below_le hb7 (by omega)); clear hO6 hM6 hR6 hC6 hX6 hbw6 hN6 hb7 hs7 hO5 hR5 hC5 hX5 hbw5 hal5 hM5 hg5))
              have HAT : Hid ((D.put (.int .u8 (f (A.n p x) : Int)) (.lit (.int .u8 (qx.length : Int)))).atKey (.int .u8 (f (A.n p x) : Int)) (.lit (.int .u8 0)) = .lit (.int .u8 (qx.length : Int))) := HATx
              have hMd : OwnBt w7.drew mb (qx.length + 1) (D.put (.int .u8 (f (A.n p x) : Int)) (.lit (.int .u8 (qx.length : Int)))) := hM7.drew
              have hCd := hC7.drew; have hXd := hX7.drew; have hRd := hR7.drew; have hOd := hO7.below (w1 := w7.drew) (Below.refl _ _).drew; have hbd := below_drew' hbw7
              have hcs : (mc (maM A f L (k + 1) k x qx))[2 + k * 3 + x]? = some ((mc (maM A f L (k + 1) k x qx))[2 + k * 3 + x]'(by simp [mc, maM, mkM]; omega)) := Array.getElem?_eq_getElem _
              generalize (mc (maM A f L (k + 1) k x qx))[2 + k * 3 + x]'(by simp [mc, maM, mkM]; omega) = oldc at hcs
              have cS := hCd.cell (2 + k * 3 + x)
              rw [hcs] at cS
              have fS := hCd.free (2 + k * 3 + x)
              have hCe := hCd.set (2 + k * 3 + x) (.int .u8 (qx.length : Int))
              clear hcs
              clear hM7 hC7 hX7 hR7 hO7 hbw7
              refine wp_region_held_drew (S := fun W => OwnBt W mb (qx.length + 1) (D.put (.int .u8 (f (A.n p x) : Int)) (.lit (.int .u8 (qx.length : Int))))) (by kernel_rfl) hMd (fun hS0 => ?_)
              generalize w7.drew = wd at *
              (refine hK_take 0 (.int .i64 (k : Int)) rfl (by kernel_rfl) (by kernel_rfl) (by kernel_rfl) (fun _ _ _ h => h) rfl (fun W _ => by go_simp) hS0 ?_; (intro K hK; go_simp; refine hK _ ?_; clear hK K))
              (refine hK_take 1 (.int .i64 (x : Int)) rfl (by kernel_rfl) (by kernel_rfl) (by kernel_rfl) (fun _ _ _ h => h) rfl (fun W _ => by go_simp) hS0 ?_; (intro K hK; go_simp; refine hK _ ?_; clear hK K))
              (refine hK_take 2 (.map (some mb)) rfl (by kernel_rfl) (by kernel_rfl) (by kernel_rfl) (fun _ _ _ h => h) rfl (fun W _ => by go_simp) hS0 ?_; (intro K hK; go_simp; refine hK _ ?_; clear hK K))
              (refine hK_take 3 (.int .u8 (f (A.n p x) : Int)) rfl (by kernel_rfl) (by kernel_rfl) (by kernel_rfl) (fun _ _ _ h => h) rfl (fun W _ => by go_simp) hS0 ?_; (intro K hK; go_simp; refine hK _ ?_; clear hK K))
              (refine hK_look1 4 rfl (by kernel_rfl) (by kernel_rfl) (by kernel_rfl) 138 _ _ rfl 5 5 .u8 keyed_u8 Try.underlying138 Try.underlying5 zero_u8 mb (qx.length + 1) (D.put (.int .u8 (f (A.n p x) : Int)) (.lit (.int .u8 (qx.length : Int)))) rfl (fun W hW => hW) _ _ rfl Hkey.out (qx.length : Int) HAT.out (fun _ _ _ h => h) rfl hS0 ?_; (intro K hK; go_simp; refine hK _ ?_; clear hK K))
              (refine hK_take 5 (.pointer (some ⟨w.heap.size + 1, 2, none⟩)) rfl (by kernel_rfl) (by kernel_rfl) (by kernel_rfl) (fun _ _ _ h => h) rfl (fun W _ => by go_simp) hS0 ?_; (intro K hK; go_simp; refine hK _ ?_; clear hK K))
              (refine hK_take 6 (.pointer (some ⟨w.heap.size + 1, 2 + k * 3, none⟩)) rfl (by kernel_rfl) (by kernel_rfl) (by kernel_rfl) (fun _ _ _ h => h) rfl (fun W _ => by go_simp) hS0 ?_; (intro K hK; go_simp; refine hK _ ?_; clear hK K))
              (refine hK_take 7 (.pointer (some ⟨w.heap.size + 1, 2 + k * 3 + x, none⟩)) rfl (by kernel_rfl) (by kernel_rfl) (by kernel_rfl) (fun _ _ _ h => h) rfl (fun W _ => by go_simp) hS0 ?_; (intro K hK; go_simp; refine hK _ ?_; clear hK K))
              refine wpAnyH_ready (rs := [8]) (by kernel_rfl) (by simp) ?_
              refine AllReadyH.cons rfl (fun K hK => ?_) AllReadyH.nil
              go_simp
              refine hK.out _ _ (OwnBt.keep hMd (Below.heap_setCell _ _ _ _ (by have := Hmb.out; show mb ≠ w.heap.size + 1; omega))) (fun hS1 => ?_)
              clear hK K
              refine wpAnyH_done (by kernel_rfl) ?_ _
              clear hS0 cS fS hCd hMd
              go_wp2
              go_roundw
              case rel => exact ⟨x + 1, _, _, by omega, by go_num, rfl, by rw [Hq'.out]; exact hOd.same (fun k' hk' => Below.heap_setCell _ _ _ k' (by have := (hOd.lt k' hk').1; show k' ≠ w.heap.size + 1; omega)), by rw [Hq'.out, List.length_append]; exact hS1, hRd.setOther _ _ _ (by omega), by rw [← Hnx.out, Hq'.out, ← Hput.out, Hpn.out]; exact hCe, hXd.setOther _ _ _ (by omega), below_set' hbd (by omega) _, by rw [Hq'.out]; exact HCM⟩
              case measure => simp [intOf] <;> omega
            · have hin' : bPos (fE f) (bRow (fE f) A.n (bAll (fE f) A.n L p0 k) p x) (A.n p x) < (bRow (fE f) A.n (bAll (fE f) A.n L p0 k) p x).length := of_decide_eq_true hin
              rw [hin] at hhas
              have HAT := Lib.hid (HD.out.at' _ hnN hin')
              have Hq' := Lib.hid (Hrow'.out.trans (bPut_old hin'))
              clear hin hin' Hput
              have hOv := hO
              obtain ⟨gv, capv, curv, hv, _, hBv, _⟩ := hOv.view hpos
              clear hOv hBv
              generalize hqx : bRow (fE f) A.n (bAll (fE f) A.n L p0 k) p x = qx at *
              have Hqx := Lib.hid hqx; clear hqx
              subst hv
              go_wp2_with (at_lookup; refine wpList_lookup_own_ok_int _ rfl _ _ 138 rfl 5 5 .u8 keyed_u8 Try.underlying138 Try.underlying5 (zero_u8 _) mb qx.length D rfl hM _ _ rfl Hkey.out ?_; intro cN hat hwc; rw [hhas])
              have hMd : OwnBt wr.drew mb qx.length D := hM.drew
              have hCd := hC.drew; have hXd := hX.drew; have hRd := hR.drew; have hOd := hO.below (w1 := wr.drew) (Below.refl _ _).drew; have hbd := below_drew' hbw
              have hcs : (mc (maM A f L (k + 1) k x qx))[2 + k * 3 + x]? = some ((mc (maM A f L (k + 1) k x qx))[2 + k * 3 + x]'(by simp [mc, maM, mkM]; omega)) := Array.getElem?_eq_getElem _
              generalize (mc (maM A f L (k + 1) k x qx))[2 + k * 3 + x]'(by simp [mc, maM, mkM]; omega) = oldc at hcs
              have cS := hCd.cell (2 + k * 3 + x)
              rw [hcs] at cS
              have fS := hCd.free (2 + k * 3 + x)
              have hCe := hCd.set (2 + k * 3 + x) (.int .u8 (bPos (fE f) qx (A.n p x) : Int))
              clear hcs
              clear hM hC hX hR hO hbw
              refine wp_region_held_drew (S := fun W => OwnBt W mb qx.length D) (by kernel_rfl) hMd (fun hS0 => ?_)
              generalize wr.drew = wd at *
              (refine hK_take 0 (.int .i64 (k : Int)) rfl (by kernel_rfl) (by kernel_rfl) (by kernel_rfl) (fun _ _ _ h => h) rfl (fun W _ => by go_simp) hS0 ?_; (intro K hK; go_simp; refine hK _ ?_; clear hK K))
              (refine hK_take 1 (.int .i64 (x : Int)) rfl (by kernel_rfl) (by kernel_rfl) (by kernel_rfl) (fun _ _ _ h => h) rfl (fun W _ => by go_simp) hS0 ?_; (intro K hK; go_simp; refine hK _ ?_; clear hK K))
              (refine hK_take 2 (.map (some mb)) rfl (by kernel_rfl) (by kernel_rfl) (by kernel_rfl) (fun _ _ _ h => h) rfl (fun W _ => by go_simp) hS0 ?_; (intro K hK; go_simp; refine hK _ ?_; clear hK K))
              (refine hK_take 3 (.int .u8 (f (A.n p x) : Int)) rfl (by kernel_rfl) (by kernel_rfl) (by kernel_rfl) (fun _ _ _ h => h) rfl (fun W _ => by go_simp) hS0 ?_; (intro K hK; go_simp; refine hK _ ?_; clear hK K))
              (refine hK_look1 4 rfl (by kernel_rfl) (by kernel_rfl) (by kernel_rfl) 138 _ _ rfl 5 5 .u8 keyed_u8 Try.underlying138 Try.underlying5 zero_u8 mb qx.length D rfl (fun W hW => hW) _ _ rfl Hkey.out (bPos (fE f) qx (A.n p x) : Int) HAT.out (fun _ _ _ h => h) rfl hS0 ?_; (intro K hK; go_simp; refine hK _ ?_; clear hK K))
              (refine hK_take 5 (.pointer (some ⟨w.heap.size + 1, 2, none⟩)) rfl (by kernel_rfl) (by kernel_rfl) (by kernel_rfl) (fun _ _ _ h => h) rfl (fun W _ => by go_simp) hS0 ?_; (intro K hK; go_simp; refine hK _ ?_; clear hK K))
              (refine hK_take 6 (.pointer (some ⟨w.heap.size + 1, 2 + k * 3, none⟩)) rfl (by kernel_rfl) (by kernel_rfl) (by kernel_rfl) (fun _ _ _ h => h) rfl (fun W _ => by go_simp) hS0 ?_; (intro K hK; go_simp; refine hK _ ?_; clear hK K))
              (refine hK_take 7 (.pointer (some ⟨w.heap.size + 1, 2 + k * 3 + x, none⟩)) rfl (by kernel_rfl) (by kernel_rfl) (by kernel_rfl) (fun _ _ _ h => h) rfl (fun W _ => by go_simp) hS0 ?_; (intro K hK; go_simp; refine hK _ ?_; clear hK K))
              refine wpAnyH_ready (rs := [8]) (by kernel_rfl) (by simp) ?_
              refine AllReadyH.cons rfl (fun K hK => ?_) AllReadyH.nil
              go_simp
              refine hK.out _ _ (OwnBt.keep hMd (Below.heap_setCell _ _ _ _ (by have := Hmb.out; show mb ≠ w.heap.size + 1; omega))) (fun hS1 => ?_)
              clear hK K
              refine wpAnyH_done (by kernel_rfl) ?_ _
              clear hS0 cS fS hCd hMd
              go_wp2
              go_roundw
              case rel => exact ⟨x + 1, D, _, by omega, by go_num, rfl, by rw [Hq'.out]; exact hOd.same (fun k' hk' => Below.heap_setCell _ _ _ k' (by have := (hOd.lt k' hk').1; show k' ≠ w.heap.size + 1; omega)), by rw [Hq'.out]; exact hS1, hRd.setOther _ _ _ (by omega), by rw [← Hnx.out, Hq'.out]; exact hCe, hXd.setOther _ _ _ (by omega), below_set' hbd (by omega) _, by rw [Hq'.out]; exact HD⟩
              case measure => simp [intOf] <;> omega
          · obtain rfl : L = x := by omega
            have Hmr := Lib.hid (maM_row A f L (k + 1) k (bRow (fE f) A.n (bAll (fE f) A.n L p0 k) p L))
            have hpos : 0 < (bRow (fE f) A.n (bAll (fE f) A.n L p0 k) p L).length := by have := Hpr.out L; omega
            have hneM := hO.ne_map hpos hM
            have hge := Hpr.out L
            rw [Hmr.out, ← Hstep.out] at hC
            rw [← Hstep.out] at hO hM HD hge
            clear Hcl
            go_wp2
            go_roundw
            case rel => exact ⟨k + 1, D, _, by omega, by omega, by go_num, rfl, hO, hneM, hM, hR, hC, hbw, HD⟩
            case measure => simp [intOf] <;> omega
    · obtain ⟨g, cap, cur, rfl, hg, hBp, hcp⟩ := hO.view (bAll_pos L p0 k)
      have hke : (bAll (fE f) A.n L p0 k).length = k := by omega
      have Hst : Hid (bAll (fE f) A.n L p0 256 = bAll (fE f) A.n L p0 k) := Lib.hid (bAll_stay L p0 k (by omega) 256 (by omega))
      have Hc : Hid (maC A f L p0 = 0) := Lib.hid (by unfold maC; rw [Hst.out, if_pos (by omega)])
      have Hr : Hid (maR A f L p0 = maM A f L k k 0 (bAll (fE f) A.n L p0 k)) := Lib.hid (by
        unfold maR
        rw [Hst.out, if_pos (by omega)]
        have := maM_all A f L (bAll (fE f) A.n L p0 k)
        rw [hke] at this
        exact this.symm)
      have HAs : Hid ((mc (maM A f L k k 0 (bAll (fE f) A.n L p0 k))).size = 98) := Lib.hid (by simp [mc, maM, mkM])
      have F1 : Hid (cut (mc (maM A f L k k 0 (bAll (fE f) A.n L p0 k))) 0 98 = mc (maM A f L k k 0 (bAll (fE f) A.n L p0 k))) := Lib.hid (cut_all _ _ HAs.out)
      have F2 : Hid (over (mc zeroM) 0 (mc (maM A f L k k 0 (bAll (fE f) A.n L p0 k))) = mc (maM A f L k k 0 (bAll (fE f) A.n L p0 k))) := Lib.hid (over_all _ _ (by rw [HAs.out, HzS.out]))
      have hnlt : ¬ ((k : Int) < ((bAll (fE f) A.n L p0 k).length : Int)) := by omega
      clear hke
      go_wp2_with (first | ((with_reducible show wpList _ _ _ _ _ _); refine wpList_load_blk rfl 27 (.tmp 10) rfl (w.heap.size + 1) 0 rfl _ _ hC 98 (by rw [HAs.out]; omega) _ Try.underlying27 rfl size_mach ?_; rw [F1.out]) | ((with_reducible show wpList _ _ _ _ _ _); refine wpList_store_blk rfl 27 (.tmp 8) (.tmp 94) rfl w.heap.size 0 _ rfl rfl (mc zeroM) _ hR (by rw [HAs.out, HzS.out]; omega) (by rw [HAs.out]; exact size_mach) (mc_one _) ?_; intro w4 hb4 hkeep _ hbl; rw [F2.out] at hb4; have hbw4 := hbl _ _ (by omega) hbw; clear hkeep hbl))
      exact bodyPost_cell1 rfl rfl hb4 Try.underlying27 rfl (by rw [HAs.out]; exact size_mach) rfl ⟨by rw [Hr.out, Hc.out]; rfl, hbw4⟩
end Go.Proofs.Ytliohokcjgcmhaa
