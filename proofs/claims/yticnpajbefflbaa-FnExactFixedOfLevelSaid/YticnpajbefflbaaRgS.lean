/- Ranges over the words of a level, level 5 too; texts that are collected in a variable's box. -/
import Derived.Test.YticnpajbefflbaaRgA
import Derived.Test.YticnpajbefflbaaRgL
import Derived.Test.YticnpajbefflbaaRgW
import Derived.Test.YticnpajbefflbaaStrsB
import Derived.Test.YticnpajbefflbaaOrb
namespace Go.Proofs.Yticnpajbefflbaa
open Go.RowKit Go.Shelf

theorem row_keep {w w1 : World} {base e size n : Nat} {v : Value} {xs : List Value} (h : w.ownsRow base e size v n xs) (hs : ∀ k, v.ownBlock = some k → w1.heap[k]? = w.heap[k]?) : w1.ownsRow base e size v n xs := by
  refine ⟨h.1, ?_⟩
  rcases h.2 with h2 | ⟨g, cap, cur, hv, hg, hh, r⟩
  · exact Or.inl h2
  · exact Or.inr ⟨g, cap, cur, hv, hg, by rw [hs g (by rw [hv]; rfl)]; exact hh, r⟩

set_option maxRecDepth 100000 in
set_option maxHeartbeats 1000000 in
theorem wordsOfLevel_gives5 (d n b1 b2 : Nat) (hd : d = 2 ∨ d = 3) (hn : n ≤ 5) (w0 : World) (h1 : Blk w0 b1 #[.int .i64 d] 2) (h2 : Blk w0 b2 #[.int .i64 n] 2) :
    Gives Try.prog 68 #[.pointer (some ⟨b1, 0, none⟩), .pointer (some ⟨b2, 0, none⟩)] (fun s : ByteArray => .string s) (fun k => k = b1 ∨ k = b2) (wordsL d n) w0 := by
  intro l J Jx W _ hW hJ _ _ hY ft0 h0 hC
  have hd3 : d ≤ 3 := by omega
  have hB1 := h1.keptAll hW
  have hB2 := h2.keptAll hW
  have c1 := hB1.cell 0
  have c2 := hB2.cell 0
  simp at c1 c2
  have hp : (pw d n) = ((d ^ n : Nat) : Int) := rfl
  have hpb := pw_bd d n hd3 (by omega)
  rw [hp] at hpb
  have HLS := Lib.hid (fun w => levelSize_calls d n hd3 (by omega) w)
  rw [hp] at HLS
  have HLW := Lib.hid (fun k (hk : k < d ^ n) w => levelWord_calls d n (k : Nat) hd (by omega) (by omega) (by omega) w)
  have HN := Lib.hid (wordsL_next d n)
  have HLen := Lib.hid (wordsL_len d n)
  have hlt1 := hB1.lt
  have hlt2 := hB2.lt
  refine (callsIn_wide (n := 3)).1 ?_
  refine callsIn_of_wp Try.func68 rfl trivial ?_ rfl
  simp only [Try.ntmps68, List.size_toArray, List.length_cons, List.length_nil, Nat.reduceAdd, Nat.reduceSub, Array.replicate_succ, Array.replicate_zero, List.push_toArray, List.append_toArray, List.nil_append, List.cons_append]
  generalize d ^ n = N at *
  gi_wp2_with (refine ⟨trivial, ?_⟩; gi_at_call 63; refine (callsIn_wide.2 (HLS.out _)).mono ?_; rintro e w' ⟨rfl, rfl⟩)
  gi_loopw [8] (fun i wr => ∃ (k : Nat) (ft : Foot), k ≤ N ∧ i = .int .i64 k ∧ J ((wordsL d n).take k, ft) wr ∧ (¬ ft b1 ∧ ¬ ft b2) ∧ Blk wr b1 #[.int .i64 d] 2 ∧ Blk wr b2 #[.int .i64 n] 2) (fun i _ => N - (intOf i).toNat)
  case atStart => exact ⟨0, ft0, by omega, rfl, h0, ⟨hC _ (.inl rfl), hC _ (.inr rfl)⟩, hB1, hB2⟩
  case round =>
    clear c1 c2 hB1 hB2 hlt1 hlt2
    obtain ⟨k, ft, hk, rfl, hj, ⟨n1, n2⟩, hB1, hB2⟩ := hrel
    have c1 := hB1.cell 0
    have c2 := hB2.cell 0
    simp at c1 c2
    by_cases hlt : k < N
    · have hki : (k : Int) < (N : Int) := by omega
      have Hk := Lib.hid (HLW.out k hlt)
      have Hpre : Hid ((wordsL d n).take k ++ [wordS d n k] <+: wordsL d n) := Lib.hid (by rw [← HN.out k hlt]; exact List.take_prefix _ _)
      rw [Int.toNat_natCast] at Hk
      have hlt1 := hB1.lt
      have hlt2 := hB2.lt
      gi_wp2_with (refine ⟨trivial, ?_⟩; gi_at_call 64; refine (callsIn_wide.2 (Hk.out _)).mono ?_; rintro e w3 ⟨rfl, hb3⟩; obtain ⟨fn, tmps, assign, body, hy, hR⟩ := hY ((wordsL d n).take k, ft) (wordS d n k) w3 (OwnFrom.step hJ hj hb3) Hpre.out; simp only [wordS] at hy)
      have hsz3 := hb3.size
      have hB13 := hB1.keptAll hb3
      have hB23 := hB2.keptAll hb3
      refine (round_wide hR).mono ?_
      rintro e W4 (⟨rfl, ft', hj4, hsp⟩ | ⟨rfl, hx4, _⟩)
      · obtain ⟨e1, m1⟩ := hsp.2 b1 (by omega) n1
        obtain ⟨e2, m2⟩ := hsp.2 b2 (by omega) n2
        have hB14 := hB13.same e1
        have hB24 := hB23.same e2
        rw [← HN.out k hlt] at hj4
        clear hy hsp
        gi_wp2
        go_roundw
        case rel => exact ⟨k + 1, ft', by omega, by go_num, hj4, ⟨m1, m2⟩, hB14, hB24⟩
        case measure => simp [intOf] <;> omega
      · clear hy
        gi_wp2
        refine bodyPost_ret (results_none rfl _ _ _) rfl ?_
        exact ⟨⟨_, rfl⟩, .inr ⟨_, Hpre.out, hx4⟩⟩
    · obtain rfl : k = N := by omega
      gi_wp2
      go_end0
      exact ⟨⟨_, rfl⟩, .inl ⟨ft, by rw [List.take_of_length_le (by rw [HLen.out]; exact Nat.le_refl _)] at hj; exact hj⟩⟩

theorem ownS_ge {w : World} {base : Nat} {v : Value} {zs : List ByteArray} (h : OwnS w base v zs) : ∀ k, v.ownBlock = some k → base ≤ k := fun k hk => (World.ownsRow.lt h k hk).1
theorem ownS_at {w w' : World} {base : Nat} {v : Value} {zs : List ByteArray} (h : OwnS w base v zs) (hs : ∀ k, v.ownBlock = some k → w'.heap[k]? = w.heap[k]?) : OwnS w' base v zs := row_keep h hs
theorem OwnS.turn {w w' : World} {base : Nat} {v : Value} {zs : List ByteArray} {row : Option Nat} (h : OwnS w base v zs) (hg : w.grownBy w' row) (hr : ∀ r, row = some r → ∃ o : Obj, w.heap[r]? = some o ∧ o.isCells = false) : OwnS w' base v zs := by
  refine World.ownsRow.kept h hg ?_
  cases hv : v.ownBlock with
  | none => exact .inl rfl
  | some k =>
    refine .inr (fun e => ?_)
    obtain ⟨o, ho, hc⟩ := hr k e.symm
    rcases h.2 with ⟨rfl, _⟩ | ⟨g, cap, cur, rfl, _, hh, _⟩
    · cases hv
    · have : g = k := by simpa [Value.ownBlock] using hv
      subst this
      rw [hh] at ho
      cases ho
      cases hc
/-- A variable's box with a list of the call's own, and the blocks that they are. -/
def AccAtS (W : World) (gX base : Nat) (v : Value) (zs : List ByteArray) : Prop := Blk W gX #[v] 34 ∧ OwnS W base v zs ∧ gX < base
theorem AccAtS.turn {w w' : World} {gX base : Nat} {v : Value} {zs : List ByteArray} {row : Option Nat} (h : AccAtS w gX base v zs) (hg : w.grownBy w' row) (hr : ∀ r, row = some r → ∃ o : Obj, w.heap[r]? = some o ∧ o.isCells = false) : AccAtS w' gX base v zs :=
  ⟨h.1.turn hg hr, h.2.1.turn hg hr, h.2.2⟩
theorem AccAtS.below {w w' : World} {gX base : Nat} {v : Value} {zs : List ByteArray} (h : AccAtS w gX base v zs) (hb : Below w.heap.size w w') : AccAtS w' gX base v zs := ⟨h.1.keptAll hb, h.2.1.below hb, h.2.2⟩
theorem AccAtS.foot {w : World} {gX base : Nat} {v : Value} {zs : List ByteArray} (h : AccAtS w gX base v zs) (k : Nat) (hk : accF gX v k) : k < w.heap.size := by
  rcases hk with rfl | hk
  · exact h.1.lt
  · exact h.2.1.lt k hk
/-- Behind 'out = append(out, z)'. -/
theorem AccAtS.pushed {W w' : World} {gX base : Nat} {v v' : Value} {zs : List ByteArray} {z : ByteArray} (h : AccAtS W gX base v zs) (hO : OwnS w' base v' (zs ++ [z])) (hg : W.grownBy w' v.ownBlock) (hat : v'.ownBlock = v.ownBlock ∨ v'.ownBlock = some W.heap.size) :
    Blk w' gX #[v] 34 ∧ AccAtS (w'.setCell ⟨gX, 0, none⟩ v') gX base v' (zs ++ [z]) ∧ FootKeeps (accF gX v) (accF gX v') W (w'.setCell ⟨gX, 0, none⟩ v') := by
  obtain ⟨hB, hO0, hlt⟩ := h
  have hX : Blk w' gX #[v] 34 := hB.same (hg.block gX hB.lt (fun e => by have := ownS_ge hO0 gX e.symm; omega))
  refine ⟨hX, ⟨?_, ?_, hlt⟩, ?_, fun k hk hn => ?_⟩
  · have := hX.set 0 v'
    simpa using this
  · exact ownS_at hO (fun k hk => Below.heap_setCell _ _ _ k (by show k ≠ gX; have := ownS_ge hO k hk; omega))
  · have := hg.size; simpa using this
  · refine ⟨(Below.heap_setCell _ _ _ k (fun e => hn (.inl e))).trans (hg.block k hk (fun e => hn (.inr e.symm))), ?_⟩
    rintro (e | e)
    · exact hn (.inl e)
    · rcases hat with h1 | h1
      · exact hn (.inr (by rw [← h1]; exact e))
      · rw [h1] at e; simp at e; omega
theorem AccAtS.low {n0 : Nat} {w0 W w' : World} {gX base : Nat} {v : Value} {zs : List ByteArray} (h : AccAtS W gX base v zs) (hb : Below n0 w0 W) (hg : W.grownBy w' v.ownBlock) (h0 : n0 ≤ W.heap.size) (h1 : n0 ≤ gX) (u : Value) : Below n0 w0 (w'.setCell ⟨gX, 0, none⟩ u) :=
  (hb.grown hg h0 (fun k e => by have := ownS_ge h.2.1 k e; have := h.2.2; omega)).setCell (p := ⟨gX, 0, none⟩) h1 u

section
variable {w : World} {o : Oper} {a : Act} {K : Act → World → Prop} {Q : Exit → Act → World → Prop}
/-- 'append(out, s)' as one operation, and which block it makes its own. -/
theorem wp_push_str (s x : Operand) (ho : o.op = .call { callee := .builtin .append, args := #[s, x], argTypes := #[34, 34] })
    (base : Nat) (v : Value) (zs : List ByteArray) (hs : a.eval s = v) (hown : OwnS w base v zs) (g c : Nat) (z : ByteArray) (hx : a.eval x = .slice (some ⟨g, 0, none⟩) 1 c) (hB : Blk w g #[.string z] 9)
    (hn : zs.length + 1 ≤ 1048576) (hbase : base ≤ w.heap.size)
    (h : ∀ v' w', OwnS w' base v' (zs ++ [z]) → w.grownBy w' v.ownBlock → (v'.ownBlock = v.ownBlock ∨ v'.ownBlock = some w.heap.size) → K (a.put o.dst v') w') : o.wp Try.prog a w K Q := by
  obtain ⟨i0, hi, hz0, hz1, hz2⟩ := info_parts info9
  obtain ⟨v', w', hr, h2, h3, _, h5⟩ := run_append_own_at (P := Try.prog) w base 34 o.type 9 i0 (.string ⟨#[]⟩) 1 16 Try.underlying34 hi hz0 hz1 hz2 rfl (by decide) v zs.length _ hown ⟨g, 0, none⟩ 1 c [.string z] rfl
    (fun j u hu => by
      match j, hu with
      | 0, hu => simp at hu; subst hu; simpa [Addr.add] using hB.cell 0)
    (fun u hu => by simp at hu; subst hu; rfl) (by unfold maxLen; omega) (by omega) hbase
  unfold Oper.wp execOp
  simp only [ho, resolve, invoke, builtin, Sem.run_bind, Sem.run_pure, Result.andThen_ok, List.map_toArray, List.map_cons, List.map_nil, hs, hx, hr]
  exact h v' w' (by unfold OwnS; simpa using h2) h3 h5
end
theorem wpListIn_push_str {l n : Nat} {ops : Array Oper} {rest : List Oper} {o : Oper} {a : Act} {w : World} {Q : Exit → Act → World → Prop} (hgd : o.guard = none) (s x : Operand) (ho : o.op = .call { callee := .builtin .append, args := #[s, x], argTypes := #[34, 34] })
    (base : Nat) (v : Value) (zs : List ByteArray) (hs : a.eval s = v) (hown : OwnS w base v zs) (g c : Nat) (z : ByteArray) (hx : a.eval x = .slice (some ⟨g, 0, none⟩) 1 c) (hB : Blk w g #[.string z] 9)
    (hn : zs.length + 1 ≤ 1048576) (hbase : base ≤ w.heap.size)
    (h : ∀ v' w', OwnS w' base v' (zs ++ [z]) → w.grownBy w' v.ownBlock → (v'.ownBlock = v.ownBlock ∨ v'.ownBlock = some w.heap.size) → wpListIn (Fence.wide.inRound l) n Try.prog ops Q rest (a.put o.dst v') w') : wpListIn (Fence.wide.inRound l) n Try.prog ops Q (o :: rest) a w :=
  wpListIn_plain hgd fun K hK => op_round (fun c e => by rw [ho] at e; cases e) (wp_push_str s x ho base v zs hs hown g c z hx hB hn hbase (fun v' w' h1 h2 h3 => hK _ _ (h v' w' h1 h2 h3)))
end Go.Proofs.Yticnpajbefflbaa
