/- Machines' cells, place by place; the machine with zeros in what is not used. -/
import Derived.Test.YtliohokcjgcmhaaMach
import Derived.Test.YtliohokcjgcmhaaLaws
import Derived.Test.YtliohokcjgcmhaaProg
import Derived.DeepKeys
namespace Go.Proofs.Ytliohokcjgcmhaa
open Go.RowKit

theorem mc_get {M : Mach} (h : M.Ok) (i : Nat) : (mc M)[i]? = if i = 0 then some (.int .i64 M.L) else if i = 1 then some (.int .i64 M.S) else if i < 50 then some (.int .u8 (M.nx.getD (i - 2) 0)) else if i < 98 then some (.int .u8 (M.ot.getD (i - 50) 0)) else none := by
  by_cases h0 : i = 0
  · subst h0; simpa using mc_L M
  by_cases h1 : i = 1
  · subst h1; simpa using mc_S M
  rw [if_neg h0, if_neg h1]
  by_cases h2 : i < 50
  · rw [if_pos h2]
    have := mc_nx h (i - 2) (by omega)
    rwa [show 2 + (i - 2) = i from by omega] at this
  rw [if_neg h2]
  by_cases h3 : i < 98
  · rw [if_pos h3]
    have := mc_ot h (i - 50) (by omega)
    rwa [show 50 + (i - 50) = i from by omega] at this
  rw [if_neg h3, Array.getElem?_eq_none (by rw [mc_size h]; omega)]

/-- Of the first q rows the first L entries, 0 elsewhere. -/
def usedL (l : List Int) (L q : Nat) : List Int := (List.range 48).map fun i => if i / 3 < q ∧ i % 3 < L then l.getD i 0 else 0
theorem usedL_len (l : List Int) (L q : Nat) : (usedL l L q).length = 48 := by simp [usedL]
theorem usedL_get (l : List Int) (L q i : Nat) (hi : i < 48) : (usedL l L q).getD i 0 = if i / 3 < q ∧ i % 3 < L then l.getD i 0 else 0 := by
  simp [usedL, List.getD, hi]
theorem usedL_eq (l : List Int) (L q q' i : Nat) (h : (i / 3 < q ∧ i % 3 < L) ↔ (i / 3 < q' ∧ i % 3 < L)) : (usedL l L q).getD i 0 = (usedL l L q').getD i 0 := by
  by_cases hi : i < 48
  · rw [usedL_get _ _ _ _ hi, usedL_get _ _ _ _ hi]; simp only [h]
  · simp [usedL, List.getD, hi]
theorem usedL_bytes {l : List Int} (h : isBytes l) (L q : Nat) : isBytes (usedL l L q) := by
  intro n hn
  simp only [usedL, List.mem_map] at hn
  obtain ⟨i, _, rfl⟩ := hn
  split
  · exact getD_bytes h i
  · omega
def usedM (M : Mach) (L qn qo : Nat) : Mach := ⟨M.L, M.S, usedL M.nx L qn, usedL M.ot L qo⟩
theorem usedM_ok {M : Mach} (h : M.Ok) (L qn qo : Nat) : (usedM M L qn qo).Ok := ⟨usedL_len _ _ _, usedL_len _ _ _, usedL_bytes h.nxB _ _, usedL_bytes h.otB _ _, h.Lwf, h.Swf⟩
theorem usedM_start (M : Mach) (L : Nat) : usedM M L 0 0 = ⟨M.L, M.S, List.replicate 48 0, List.replicate 48 0⟩ := by
  have : ∀ l : List Int, usedL l L 0 = List.replicate 48 0 := fun l => by
    apply List.ext_getElem
    · simp [usedL]
    · intro i h1 h2; rw [List.getElem_replicate]; simp [usedL]
  simp [usedM, this]
theorem used_ot {M : Mach} (h : M.Ok) (L q qn : Nat) (hL : L ≤ 3) (hq : q < 16) : over (mc (usedM M L qn q)) (50 + q * 3) (cut (mc M) (50 + q * 3) L) = mc (usedM M L qn (q + 1)) := by
  have hs := mc_size h
  have hu := usedM_ok h L qn q
  have hu' := usedM_ok h L qn (q + 1)
  have hcs : (cut (mc M) (50 + q * 3) L).size = L := size_cut _ _ _ (by omega)
  apply Array.ext_getElem?
  intro i
  rw [get_over _ _ _ (by rw [hcs, mc_size hu]; omega), hcs, get_cut, mc_get hu, mc_get hu', mc_get h]
  by_cases h1 : i < 50 + q * 3
  · rw [if_pos h1]
    by_cases h50 : i < 50
    · simp only [h50, if_true]; rfl
    · rw [show (usedM M L qn (q + 1)).ot = usedL M.ot L (q + 1) from rfl, show (usedM M L qn q).ot = usedL M.ot L q from rfl, usedL_eq M.ot L q (q + 1) (i - 50) (by omega)]
      rfl
  · rw [if_neg h1]
    by_cases h2 : i < 50 + q * 3 + L
    · rw [if_pos h2, if_pos (by omega), if_neg (by omega), if_neg (by omega), if_neg (by omega), if_pos (by omega), if_neg (by omega), if_neg (by omega), if_neg (by omega), if_pos (by omega)]
      congr 2
      rw [show (usedM M L qn (q + 1)).ot = usedL M.ot L (q + 1) from rfl, usedL_get _ _ _ _ (by omega), if_pos (by omega)]
      congr 1; omega
    · rw [if_neg h2]
      by_cases h98 : i < 98
      · rw [if_neg (by omega), if_neg (by omega), if_neg (by omega), if_pos h98, if_neg (by omega), if_neg (by omega), if_neg (by omega), if_pos h98]
        congr 2
        rw [show (usedM M L qn (q + 1)).ot = usedL M.ot L (q + 1) from rfl, show (usedM M L qn q).ot = usedL M.ot L q from rfl, usedL_get _ _ _ _ (by omega), usedL_get _ _ _ _ (by omega), if_neg (by omega), if_neg (by omega)]
      · rw [if_neg (by omega), if_neg (by omega), if_neg (by omega), if_neg h98, if_neg (by omega), if_neg (by omega), if_neg (by omega), if_neg h98]
theorem used_nx {M : Mach} (h : M.Ok) (L q qo : Nat) (hL : L ≤ 3) (hq : q < 16) : over (mc (usedM M L q qo)) (2 + q * 3) (cut (mc M) (2 + q * 3) L) = mc (usedM M L (q + 1) qo) := by
  have hs := mc_size h
  have hu := usedM_ok h L q qo
  have hu' := usedM_ok h L (q + 1) qo
  have hcs : (cut (mc M) (2 + q * 3) L).size = L := size_cut _ _ _ (by omega)
  apply Array.ext_getElem?
  intro i
  rw [get_over _ _ _ (by rw [hcs, mc_size hu]; omega), hcs, get_cut, mc_get hu, mc_get hu', mc_get h]
  by_cases h1 : i < 2 + q * 3
  · rw [if_pos h1]
    by_cases h2 : i < 2
    · by_cases h0 : i = 0
      · simp only [h0, if_true]; rfl
      · have h0' : i = 1 := by omega
        simp only [h0']; rfl
    · rw [if_neg (by omega), if_neg (by omega), if_pos (by omega), if_neg (by omega), if_neg (by omega), if_pos (by omega)]
      congr 2
      exact usedL_eq M.nx L q (q + 1) (i - 2) (by omega)
  · rw [if_neg h1]
    by_cases h2 : i < 2 + q * 3 + L
    · rw [if_pos h2, if_pos (by omega), if_neg (by omega), if_neg (by omega), if_pos (by omega), if_neg (by omega), if_neg (by omega), if_pos (by omega)]
      congr 2
      rw [show (usedM M L (q + 1) qo).nx = usedL M.nx L (q + 1) from rfl, usedL_get _ _ _ _ (by omega), if_pos (by omega)]
      congr 1; omega
    · by_cases h50 : i < 50
      · rw [if_neg h2, if_neg (by omega), if_neg (by omega), if_pos h50, if_neg (by omega), if_neg (by omega), if_pos h50]
        congr 2
        exact usedL_eq M.nx L q (q + 1) (i - 2) (by omega)
      · simp only [h2, show ¬ i = 0 by omega, show ¬ i = 1 by omega, h50, if_false]; rfl

theorem mc_inj {M N : Mach} (h : M.Ok) (h' : N.Ok) (e : mc M = mc N) : M = N := by
  have g := fun i => (mc_get h i).symm.trans ((congrArg (fun c => c[i]?) e).trans (mc_get h' i))
  obtain ⟨L, S, nx, ot⟩ := M
  obtain ⟨L', S', nx', ot'⟩ := N
  have g0 := g 0; have g1 := g 1
  simp at g0 g1
  have e1 : nx = nx' := by
    apply List.ext_getElem
    · rw [h.nx48, h'.nx48]
    · intro i h1 h2
      have h3 := h.nx48; simp only at h3
      have := g (2 + i)
      rw [if_neg (by omega), if_neg (by omega), if_pos (by omega), if_neg (by omega), if_neg (by omega), if_pos (by omega)] at this
      simpa [List.getD, List.getElem?_eq_getElem h1, List.getElem?_eq_getElem h2] using this
  have e2 : ot = ot' := by
    apply List.ext_getElem
    · rw [h.ot48, h'.ot48]
    · intro i h1 h2
      have h3 := h.ot48; simp only at h3
      have := g (50 + i)
      rw [if_neg (by omega), if_neg (by omega), if_neg (by omega), if_pos (by omega), if_neg (by omega), if_neg (by omega), if_neg (by omega), if_pos (by omega)] at this
      simpa [List.getD, List.getElem?_eq_getElem h1, List.getElem?_eq_getElem h2] using this
  rw [g0, g1, e1, e2]
theorem mc_one (M : Mach) : (mc M).all (·.oneCell') = true := by
  simp only [mc]
  rw [Array.all_eq_true_iff_forall_mem]
  intro v hv
  simp at hv
  rcases hv with rfl | rfl | ⟨n, _, rfl⟩ | ⟨n, _, rfl⟩ <;> rfl
theorem mc_ones (M : Mach) : ∀ v ∈ (mc M).toList, v.oneCell' = true := fun v hv => (Array.all_eq_true_iff_forall_mem.1 (mc_one M)) v (by simpa using hv)
theorem zero_set (a b : Int) : ((mc zeroM).setIfInBounds 0 (.int .i64 a)).setIfInBounds 1 (.int .i64 b) = mc ⟨a, b, List.replicate 48 0, List.replicate 48 0⟩ := by
  simp [mc, zeroM]
end Go.Proofs.Ytliohokcjgcmhaa

namespace Go.Proofs.Ytliohokcjgcmhaa
open Go.RowKit

theorem mapM_some {α β : Type} {g : α → Option β} {f : α → β} : ∀ (l : List α), (∀ x ∈ l, g x = some (f x)) → l.mapM g = some (l.map f)
  | [], _ => rfl
  | x :: l, h => by
    rw [List.mapM_cons, h x (by simp), mapM_some l (fun y hy => h y (by simp [hy]))]; rfl
theorem flat3 {β : Type} (h : Nat → β) : ∀ n, ((List.range n).map fun i => [h (i * 3), h (i * 3 + 1), h (i * 3 + 2)]).flatten = (List.range (n * 3)).map h
  | 0 => rfl
  | n + 1 => by
    rw [List.range_succ, List.map_append, List.flatten_append, flat3 h n, show (n + 1) * 3 = n * 3 + 1 + 1 + 1 from by omega, List.range_succ, List.range_succ, List.range_succ]
    simp
theorem cells_u8 : Try.prog.cellsOf 5 = 1 := by kernel_rfl
theorem cells_i64 : Try.prog.cellsOf 2 = 1 := by kernel_rfl
theorem cells_a3 : Try.prog.cellsOf 22 = 3 := by kernel_rfl
theorem cells_a16 : Try.prog.cellsOf 23 = 48 := by kernel_rfl
theorem cells_mach : Try.prog.cellsOf 27 = 98 := by kernel_rfl
theorem wf_byte (n : Int) (h : 0 ≤ n ∧ n ≤ 255) : (Lit.int .u8 n).wf = true := by
  exact WalkArith.wf_u8 h
theorem wf_i64' (n : Int) (h : -9223372036854775808 ≤ n ∧ n ≤ 9223372036854775807) : (Lit.int .i64 n).wf = true := by
  exact WalkArith.wf_i64 h
theorem lits_u8 (d : Nat) (n : Int) (h : 0 ≤ n ∧ n ≤ 255) : Try.prog.keyLits (d + 1) 5 [.int .u8 n] = some [.int .u8 n] := by
  simp [Program.keyLits, Try.underlying5, wf_byte n h]
theorem lits_i64 (d : Nat) (n : Int) (h : -9223372036854775808 ≤ n ∧ n ≤ 9223372036854775807) : Try.prog.keyLits (d + 1) 2 [.int .i64 n] = some [.int .i64 n] := by
  simp [Program.keyLits, Try.underlying2, wf_i64' n h]
/-- The cells of a list of bytes, three by three. -/
theorem lits_a16 (d : Nat) (l : List Int) (hl : l.length = 48) (hb : isBytes l) : Try.prog.keyLits (d + 3) 23 (l.map (Value.int .u8)) = some ((List.range 48).map fun i => Lit.int .u8 (l.getD i 0)) := by
  have one : ∀ i, i < 48 → ((l.map (Value.int .u8)).drop i).take 1 = [Value.int .u8 (l.getD i 0)] := fun i hi => by
    rw [List.drop_eq_getElem_cons (by simp; omega)]
    simp [List.getD, List.getElem?_eq_getElem (show i < l.length by omega)]
  have three : ∀ i, i < 16 → Try.prog.keyLits (d + 2) 22 (((l.map (Value.int .u8)).drop (i * 3)).take 3) = some [Lit.int .u8 (l.getD (i * 3) 0), Lit.int .u8 (l.getD (i * 3 + 1) 0), Lit.int .u8 (l.getD (i * 3 + 2) 0)] := fun i hi => by
    have hlen : (((l.map (Value.int .u8)).drop (i * 3)).take 3).length = 3 := by simp; omega
    have sub : ∀ j, j < 3 → Try.prog.keyLits (d + 1) 5 (((((l.map (Value.int .u8)).drop (i * 3)).take 3).drop (j * 1)).take 1) = some [Lit.int .u8 (l.getD (i * 3 + j) 0)] := fun j hj => by
      rw [List.drop_take, List.take_take, List.drop_drop, Nat.mul_one, show min 1 (3 - j) = 1 from by omega, one (i * 3 + j) (by omega)]
      exact lits_u8 d _ (getD_bytes hb _)
    unfold Program.keyLits
    simp only [Try.underlying22, cells_a3, cells_u8, hlen, if_true]
    rw [mapM_some (f := fun j => [Lit.int .u8 (l.getD (i * 3 + j) 0)]) (List.range 3) (fun j hj => sub j (by simpa using hj))]
    rfl
  unfold Program.keyLits
  simp only [Try.underlying23, cells_a16, cells_a3, List.length_map, hl, if_true]
  rw [mapM_some (f := fun i => [Lit.int .u8 (l.getD (i * 3) 0), Lit.int .u8 (l.getD (i * 3 + 1) 0), Lit.int .u8 (l.getD (i * 3 + 2) 0)]) (List.range 16) (fun i hi => three i (by simpa using hi))]
  rw [Option.map_some, flat3 (fun i => Lit.int .u8 (l.getD i 0)) 16]
def machLits (M : Mach) : List Lit := Lit.int .i64 M.L :: Lit.int .i64 M.S :: ((List.range 48).map (fun i => Lit.int .u8 (M.nx.getD i 0)) ++ (List.range 48).map (fun i => Lit.int .u8 (M.ot.getD i 0)))
theorem lits_mach (d : Nat) {M : Mach} (h : M.Ok) : Try.prog.keyLits (d + 4) 27 (mc M).toList = some (machLits M) := by
  have h1 := h.nx48
  have h2 := h.ot48
  unfold Program.keyLits
  simp only [Try.underlying27, cells_mach]
  rw [if_pos ⟨by simpa using mc_size h, by simp⟩]
  simp only [List.mapM_cons, List.mapM_nil, cells_i64, cells_a16]
  have e0 : ((mc M).toList.drop 0).take 1 = [Value.int .i64 M.L] := by simp [mc]
  have e1 : ((mc M).toList.drop 1).take 1 = [Value.int .i64 M.S] := by simp [mc]
  have e2 : ((mc M).toList.drop 2).take 48 = M.nx.map (Value.int .u8) := by
    simp only [mc, List.drop_succ_cons, List.drop_zero]
    rw [List.take_append_of_le_length (by simp; omega), List.take_of_length_le (by simp; omega)]
  have e3 : ((mc M).toList.drop 50).take 48 = M.ot.map (Value.int .u8) := by
    simp only [mc, List.drop_succ_cons]
    rw [List.drop_append_of_le_length (by simp; omega), List.drop_of_length_le (by simp; omega), List.nil_append, List.take_of_length_le (by simp; omega)]
  rw [e0, e1, e2, e3, lits_i64 (d + 2) _ h.Lwf, lits_i64 (d + 2) _ h.Swf, lits_a16 d _ h1 h.nxB, lits_a16 d _ h2 h.otB]
  simp [machLits]
theorem machLits_inj {M N : Mach} (h : M.Ok) (h' : N.Ok) (e : machLits M = machLits N) : M = N := by
  obtain ⟨L, S, nx, ot⟩ := M
  obtain ⟨L', S', nx', ot'⟩ := N
  have a1 := h.nx48; have a2 := h.ot48; have b1 := h'.nx48; have b2 := h'.ot48
  simp only at a1 a2 b1 b2
  simp only [machLits, List.cons.injEq, Lit.int.injEq, true_and] at e
  obtain ⟨rfl, rfl, e⟩ := e
  obtain ⟨e1, e2⟩ := List.append_inj e (by simp)
  have key : ∀ l l' : List Int, l.length = 48 → l'.length = 48 → (List.range 48).map (fun i => Lit.int .u8 (l.getD i 0)) = (List.range 48).map (fun i => Lit.int .u8 (l'.getD i 0)) → l = l' := fun l l' hl hl' he => by
    apply List.ext_getElem (by omega)
    intro i h1 h2
    have := List.map_inj_left.1 he i (by simp; omega)
    simpa [List.getD, List.getElem?_eq_getElem h1, List.getElem?_eq_getElem h2] using this
  rw [key nx nx' a1 b1 e1, key ot ot' a2 b2 e2]
theorem keyType_mach : Try.prog.keyTypeAt 4 27 = true := by kernel_rfl
theorem formed_mach {M : Mach} (h : M.Ok) : (Value.agg (mc M)).formed Try.prog 27 = true := by
  simp [Value.formed, Try.underlying27, cells_mach, mc_size h]
/-- Machines are equal if their entries are. -/
theorem run_eq_mach {M N : Mach} (h : M.Ok) (h' : N.Ok) (w : World) : (binOp .eql 27 (.agg (mc M)) (.agg (mc N))).run Try.prog w = .ok (.bool (decide (M = N))) w := by
  obtain ⟨r, hr, hiff⟩ := run_equalIn_deep (P := Try.prog) 9996 4 27 keyType_mach w _ _ _ _ _ _ (formed_mach h) (formed_mach h') (lits_mach 0 h) (lits_mach 0 h')
  rw [run_eql_struct, hr]
  have : r = decide (M = N) := by
    rw [Bool.eq_iff_iff, hiff, decide_eq_true_iff]
    exact ⟨machLits_inj h h', fun e => by rw [e]⟩
  rw [this]; rfl
end Go.Proofs.Ytliohokcjgcmhaa
