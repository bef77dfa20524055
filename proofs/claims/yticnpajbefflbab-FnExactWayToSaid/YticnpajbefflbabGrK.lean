/- 'slices.Grow', 'slices.Concat', 'steps': the program. -/
import Derived.Test.YticnpajbefflbabGrJ
namespace Go.Proofs.Yticnpajbefflbab
open Go.RowKit

theorem run_append_made {P : Program} (w : World) (t u ty e : TypeId) (i : TypeInfo) (z : Value) (ht : P.underlying t = some (.slice e)) (hu : P.underlying u = some (.int .i64)) (hi : P.info? e = some i) (hz : i.zero = some z)
    (n : Nat) (h0 : 0 < n) (h63 : n ≤ 1000000) (hb2 : i.bytes ≤ 1000) (hsz : 0 < i.size) :
    (Builtin.append_ #[t, u] ty #[.slice none 0 0, .int .i64 n]).run P w =
      .ok (.slice (some ⟨w.heap.size, 0, none⟩) n (grownCap w n 0 e)) (w.drew.alloc (.cells (Builtin.zeroCells z.cells n ++ Builtin.zeroCells z.cells (grownCap w n 0 e - n)) e)) := by
  have hn : n ≠ 0 := by omega
  have hw : IntKind.i64.wrap (n : Int) = (n : Int) := IntWalk.i64_in _ (by omega)
  have hm : n * i.bytes ≤ 1000000 * 1000 := Nat.mul_le_mul h63 hb2
  have h48' : ¬ (281474976710656 < Builtin.nextslicecap n 0 * i.bytes) := by rw [nextslicecap_zero h0]; omega
  have h48 : ¬ (281474976710656 < (n : Int) * (i.bytes : Int)) := by
    have : ((n * i.bytes : Nat) : Int) = (n : Int) * (i.bytes : Int) := Int.natCast_mul _ _
    omega
  have h63' : ¬ (9223372036854775807 < (n : Int)) := by omega
  have hneg : ¬ ((n : Int) < 0) := by omega
  have hns : ¬ (n * i.size = 0) := by rw [Nat.mul_eq_zero]; omega
  simp [Builtin.append_, run_underlying ht, run_underlying hu, sizeOf, typeInfo, zeroValue, hi, hz, hn, h63', h48', h48, Question.forced, newRow, grownCap, asInt, asIntOf, hw, hneg, hns, Builtin.firstCells]
section
variable {ops : Array Oper} {rest : List Oper} {o : Oper} {a : Act} {w : World} {Q : Exit → Act → World → Prop}
theorem wpList_append_made (hgd : o.guard = none) (s x : Operand) (ho : o.op = .call { callee := .builtin .append, args := #[s, x], argTypes := #[51, 3] })
    (n : Nat) (hs : a.eval s = .slice none 0 0) (hx : a.eval x = .int .i64 n) (h0 : 0 < n) (h63 : n ≤ 1000000)
    (h : ∀ (cap : Nat) (cur : Array Value), cap ≤ maxLen → n ≤ cap → cur.size = cap * 2 → wpList Try.prog ops Q rest (a.put o.dst (.slice (some ⟨w.heap.size, 0, none⟩) n cap)) (w.drew.alloc (.cells cur 74))) : wpList Try.prog ops Q (o :: rest) a w := by
  obtain ⟨i0, hi, hz0, hz1, hz2⟩ := info_parts info_st
  have hr := run_append_made (P := Try.prog) w 51 3 o.type 74 i0 (.agg #[.int .i64 0, .slice none 0 0]) Try.underlying51 Try.underlying3 hi hz0 n h0 h63 (by omega) (by omega)
  refine wpList_plain hgd fun K hK => ?_
  unfold Oper.wp execOp
  simp only [ho, resolve, invoke, builtin, Sem.run_bind, Sem.run_pure, Result.andThen_ok, List.map_toArray, List.map_cons, List.map_nil, hs, hx, hr]
  refine hK _ _ (h _ _ (grownCap_le_maxLen _ _ _ _ (by unfold maxLen; omega)) (grownCap_ge _ _ _ _) ?_)
  have h1 := grownCap_ge w n 0 74
  rw [Array.size_append, size_zeroCells, size_zeroCells]
  show n * 2 + (_ - n) * 2 = _ * 2
  omega
end
/-- The row of a slice of steps, of the call's own. -/
def RowSt (w : World) (base : Nat) (v : Value) (n : Nat) (xs : List Value) : Prop := w.ownsRow base 74 2 v n xs

set_option maxRecDepth 100000 in
set_option maxHeartbeats 1000000 in
theorem Grow_calls (n : Nat) (h0 : 0 < n) (h63 : n ≤ 1000000) (w : World) :
    Calls Try.prog 74 #[.slice none 0 0, .int .i64 n] w fun e w' => ∃ v, e = .returned v ∧ RowSt w' w.heap.size v 0 [] ∧ Below w.heap.size w w' := by
  have h0i : (0 : Int) < (n : Int) := by omega
  go_enter Try.func74, Try.ntmps74
  go_wp2_with (at_builtin; refine wpList_append_made rfl (.tmp 20) (.tmp 21) rfl n rfl rfl h0 h63 ?_; intro cap cur hcap hn hcs)
  go_ret
  refine ⟨_, rfl, ⟨rfl, .inr ⟨w.heap.size, cap, cur, rfl, Nat.le_refl _, ?_, Nat.zero_le _, hcap, hcs, by simp⟩⟩, by (repeat (first | exact Below.refl _ _ | refine below_drew' ?_ | refine below_drewN' ?_ _ | refine below_alloc' ?_ _ | refine below_set' ?_ (by (try simp); (try omega)) _ | refine below_step ?_ (by assumption)))⟩
  exact heap_alloc_new w.drew _

/-- What has come behind k slices. -/
def cnK (a b : Nat) (k : Nat) : Nat := if k = 0 then 0 else if k = 1 then a else a + b
def ccK (A B : List Value) (k : Nat) : List Value := if k = 0 then [] else if k = 1 then A else A ++ B

set_option maxRecDepth 100000 in
set_option maxHeartbeats 2000000 in
theorem Concat_calls (gp gf gb cf cb nf nb : Nat) (A B : List Value) (hA : A.length = nf * 2) (hB : B.length = nb * 2) (hA1 : ∀ u ∈ A, u.oneCell' = true) (hB1 : ∀ u ∈ B, u.oneCell' = true) (hnf : 0 < nf) (hnf2 : nf ≤ 1000) (hnb2 : nb ≤ 1000) (w : World)
    (hP : Blk w gp #[.slice (some ⟨gf, 0, none⟩) nf cf, .slice (some ⟨gb, 0, none⟩) nb cb] 51) (hgf : gf < w.heap.size) (hgb : gb < w.heap.size) (hrf : w.rangeAt gf 0 A) (hrb : w.rangeAt gb 0 B) :
    Calls Try.prog 70 #[.slice (some ⟨gp, 0, none⟩) 2 2] w fun e w' => ∃ v, e = .returned v ∧ RowSt w' w.heap.size v (nf + nb) (A ++ B) ∧ Below w.heap.size w w' := by
  obtain ⟨i0, hi, hz0, hz1, hz2⟩ := info_parts info_st
  have hltp := hP.lt
  have HP := Lib.hid hP
  have HRF := Lib.hid hrf
  have HRB := Lib.hid hrb
  have HA := Lib.hid hA
  have HB := Lib.hid hB
  have HA1 := Lib.hid hA1
  have HB1 := Lib.hid hB1
  have HG := Lib.hid (fun W => Grow_calls (nf + nb) (by omega) (by omega) W)
  have hc := hP.cell
  have hp0 := hc 0
  have hp1 := hc 1
  have hS0 : cnK nf nb 0 = 0 := rfl
  have hS1 : cnK nf nb 1 = nf := rfl
  have hS2 : cnK nf nb 2 = nf + nb := rfl
  have hX0 : ccK A B 0 = [] := rfl
  have HX1 : Hid (ccK A B 1 = A) := Lib.hid rfl
  have HX2 : Hid (ccK A B 2 = A ++ B) := Lib.hid rfl
  clear hP hrf hrb hA hB hA1 hB1 hc
  go_enter Try.func70, Try.ntmps70
  go_wp2
  go_loop [3, 11] (fun sv i => ∃ k : Nat, k ≤ 2 ∧ i = .int .i64 k ∧ sv = .int .i64 ((cnK nf nb k : Nat) : Int)) (fun _ i => 2 - (intOf i).toNat)
  case atStart => exact ⟨0, by omega, rfl, rfl⟩
  case round =>
    obtain ⟨k, hk, rfl, rfl⟩ := hrel
    rcases (show k = 0 ∨ k = 1 ∨ k = 2 by omega) with rfl | rfl | rfl
    · go_wp2
      go_round
      case rel => exact ⟨1, by omega, rfl, by rw [hS1]⟩
      case measure => simp [intOf] <;> omega
    · go_wp2
      go_round
      case rel => exact ⟨2, by omega, rfl, by rw [hS2]; go_num⟩
      case measure => simp [intOf] <;> omega
    · go_wp2_with (go_at_call 74; refine (HG.out _).mono ?_; rintro e w1 ⟨v1, rfl, hO1, hb1⟩)
      clear hp0 hp1
      go_loopw [6, 27] (fun nv i wr => ∃ (k : Nat) (v0 : Value), k ≤ 2 ∧ i = .int .i64 k ∧ v0 = nv ∧ RowSt wr w.heap.size v0 (cnK nf nb k) (ccK A B k) ∧ w.heap.size ≤ wr.heap.size ∧ Below w.heap.size w wr) (fun _ i _ => 2 - (intOf i).toNat)
      case atStart => exact ⟨0, _, by omega, rfl, rfl, by rw [hS0, hX0]; exact hO1, hb1.size, hb1⟩
      case round =>
        clear hO1 hb1
        obtain ⟨k, v0, hk, rfl, rfl, hO, hge, hbw⟩ := hrel
        have hPr := HP.out.kept hbw hltp
        have cP := hPr.cell
        have hp0 := cP 0
        have hp1 := cP 1
        clear cP
        have hrf : wr.rangeAt gf 0 A := fun j u hu => (hbw.cell (p := ⟨gf, 0 + j, none⟩) hgf).trans (HRF.out j u hu)
        have hrb : wr.rangeAt gb 0 B := fun j u hu => (hbw.cell (p := ⟨gb, 0 + j, none⟩) hgb).trans (HRB.out j u hu)
        rcases (show k = 0 ∨ k = 1 ∨ k = 2 by omega) with rfl | rfl | rfl
        · go_wp2_with (at_builtin; refine wpList_append_own_at _ rfl (.tmp 31) (.tmp 32) 51 rfl w.heap.size 74 i0 (.agg #[.int .i64 0, .slice none 0 0]) 2 32 Try.underlying51 hi hz0 hz1 hz2 rfl (by decide) v0 0 [] rfl hO ⟨gf, 0, none⟩ nf cf A rfl HA.out (fun j u hu => by rw [Addr.add_mid]; exact hrf j u hu) HA1.out (by unfold maxLen; omega) (by omega) hge ?_; intro v7 w7 hO7 hg7 _ _)
          have hs7 := hg7.size
          have hb7 : Below w.heap.size w w7 := hbw.trans (below_grown hO hg7 hge)
          go_roundw
          case rel => exact ⟨1, v7, by omega, rfl, rfl, by rw [hS1, HX1.out]; rw [Nat.zero_add, List.nil_append] at hO7; exact hO7, by omega, hb7⟩
          case measure => simp [intOf] <;> omega
        · rw [hS1, HX1.out] at hO
          go_wp2_with (at_builtin; refine wpList_append_own_at _ rfl (.tmp 31) (.tmp 32) 51 rfl w.heap.size 74 i0 (.agg #[.int .i64 0, .slice none 0 0]) 2 32 Try.underlying51 hi hz0 hz1 hz2 rfl (by decide) v0 nf A rfl hO ⟨gb, 0, none⟩ nb cb B rfl HB.out (fun j u hu => by rw [Addr.add_mid]; exact hrb j u hu) HB1.out (by unfold maxLen; omega) (by omega) hge ?_; intro v7 w7 hO7 hg7 _ _)
          have hs7 := hg7.size
          have hb7 : Below w.heap.size w w7 := hbw.trans (below_grown hO hg7 hge)
          go_roundw
          case rel => exact ⟨2, v7, by omega, rfl, rfl, by rw [hS2, HX2.out]; exact hO7, by omega, hb7⟩
          case measure => simp [intOf] <;> omega
        · rw [hS2, HX2.out] at hO
          go_wp2
          go_ret
          exact ⟨_, rfl, hO, hbw⟩

theorem stF_one : ∀ (ps : List (Int × List Int)) (us : List Value), (∀ u ∈ us, u.oneCell' = true) → ∀ x ∈ stF ps us, x.oneCell' = true
  | p :: ps, u :: us, h, x, hx => by
    simp only [stF, List.mem_cons] at hx
    rcases hx with rfl | rfl | hx
    · rfl
    · exact h _ (by simp)
    · exact stF_one ps us (fun y hy => h y (by simp [hy])) x hx
  | [], _, _, x, hx => by cases hx
  | _ :: _, [], _, x, hx => by cases hx
theorem SeesI.one {w : World} {v : Value} {zs : List Int} (h : SeesI w v zs) : v.oneCell' = true := by
  obtain ⟨o, c, rfl, _⟩ := h.view
  rfl
theorem SeesSt.of_row {w : World} {base n : Nat} {v : Value} {us : List Value} {ps : List (Int × List Int)} (h : RowSt w base v n (stF ps us)) (hl : us.length = ps.length) (hn : n = ps.length) (h0 : 0 < ps.length) (hs : ∀ j (hj : j < ps.length) (hu : j < us.length), SeesI w us[j] ps[j].2) : SeesSt w v ps := by
  subst hn
  rcases h.2 with ⟨_, h1⟩ | ⟨g, cap, cur, rfl, hg, hh, hn, hm, hsz, ht⟩
  · omega
  · refine ⟨g, cap, us, hl, rfl, (Array.getElem?_eq_some_iff.1 hh).1, fun j u hu => ?_, hs⟩
    rw [Nat.zero_add, Go.Joins.cell_of_block hh]
    have hjl : j < ps.length * 2 := by
      have := (List.getElem?_eq_some_iff.1 hu).1
      rw [stF_len ps us hl] at this
      exact this
    have := congrArg (fun l => l[j]?) ht
    simp only [List.getElem?_take] at this
    rw [if_pos hjl, hu] at this
    simpa using this

/-- Steps whose slice lies in block g, their tables below B. -/
def StAt (w : World) (B g : Nat) (v : Value) (ps : List (Int × List Int)) : Prop := ∃ (cap : Nat) (us : List Value), us.length = ps.length ∧ v = .slice (some ⟨g, 0, none⟩) ps.length cap ∧ g < w.heap.size ∧ w.rangeAt g 0 (stF ps us) ∧ (∀ j (hj : j < ps.length) (hu : j < us.length), SeesI w us[j] ps[j].2) ∧ ∀ j (hu : j < us.length) q, us[j].ownBlock = some q → q < B
theorem StAt.sees {w : World} {B g : Nat} {v : Value} {ps : List (Int × List Int)} (h : StAt w B g v ps) : SeesSt w v ps := by
  obtain ⟨cap, us, h1, h2, h3, h4, h5, _⟩ := h
  exact ⟨g, cap, us, h1, h2, h3, h4, h5⟩
theorem StAt.keeps {w w1 : World} {B g : Nat} {v : Value} {ps : List (Int × List Int)} (h : StAt w B g v ps) (hs : w.heap.size ≤ w1.heap.size) (hk : ∀ k, k < w.heap.size → (k < B ∨ k = g) → w1.heap[k]? = w.heap[k]?) : StAt w1 B g v ps := by
  obtain ⟨cap, us, h1, h2, h3, h4, h5, h6⟩ := h
  refine ⟨cap, us, h1, h2, by omega, fun j u hu => ?_, fun j hj hu => (h5 j hj hu).other fun k e => hk k ((h5 j hj hu).lt k e) (.inl (h6 j hu k e)), h6⟩
  have h7 := h4 j u hu
  unfold World.cell? at h7 ⊢
  dsimp only at h7 ⊢
  rw [hk g h3 (.inr rfl)]
  exact h7
theorem StAt.of_row {w : World} {base n B : Nat} {v : Value} {us : List Value} {ps : List (Int × List Int)} (h : RowSt w base v n (stF ps us)) (hl : us.length = ps.length) (hn : n = ps.length) (h0 : 0 < ps.length) (hs : ∀ j (hj : j < ps.length) (hu : j < us.length), SeesI w us[j] ps[j].2 ∧ ∀ q, us[j].ownBlock = some q → q < B) : ∃ g, base ≤ g ∧ StAt w B g v ps := by
  subst hn
  rcases h.2 with ⟨_, h1⟩ | ⟨g, cap, cur, rfl, hg, hh, hn, hm, hsz, ht⟩
  · omega
  · refine ⟨g, hg, cap, us, hl, rfl, (Array.getElem?_eq_some_iff.1 hh).1, fun j u hu => ?_, fun j hj hu => (hs j hj hu).1, fun j hu => (hs j (by omega) hu).2⟩
    rw [Nat.zero_add, Go.Joins.cell_of_block hh]
    have hjl : j < ps.length * 2 := by
      have := (List.getElem?_eq_some_iff.1 hu).1
      rw [stF_len ps us hl] at this
      exact this
    have := congrArg (fun l => l[j]?) ht
    simp only [List.getElem?_take] at this
    rw [if_pos hjl, hu] at this
    simpa using this

set_option maxRecDepth 100000 in
set_option maxHeartbeats 1000000 in
theorem steps_calls (N : Int) (fv bv : Value) (ps qs : List (Int × List Int)) (h0 : 0 < ps.length) (hp : ps.length ≤ 1000) (hq : qs.length ≤ 1000) (W0 w : World) (hF : SeesSt W0 fv ps) (hB : SeesSt W0 bv qs) (hW : Below W0.heap.size W0 w) :
    Calls Try.prog 55 #[.agg (gra N fv bv)] w fun e w' => ∃ v g, e = .returned v ∧ w.heap.size ≤ g ∧ StAt w' W0.heap.size g v (ps ++ qs) ∧ Below w.heap.size w w' := by
  obtain ⟨gf, cf, us, hul, rfl, hgf, hrf, hsf⟩ := hF
  obtain ⟨gb, cb, vs, hvl, rfl, hgb, hrb, hsb⟩ := hB
  have hb : Below w.heap.size w ((w.alloc (.cells (gra N (.slice (some ⟨gf, 0, none⟩) ps.length cf) (.slice (some ⟨gb, 0, none⟩) qs.length cb)) 53)).alloc (.cells #[.slice (some ⟨gf, 0, none⟩) ps.length cf, .slice (some ⟨gb, 0, none⟩) qs.length cb] 51)) := by (repeat (first | exact Below.refl _ _ | refine below_drew' ?_ | refine below_drewN' ?_ _ | refine below_alloc' ?_ _ | refine below_set' ?_ (by (try simp); (try omega)) _ | refine below_step ?_ (by assumption)))
  have hb0 := hW.trans (below_le hb hW.size)
  have hP : Blk ((w.alloc (.cells (gra N (.slice (some ⟨gf, 0, none⟩) ps.length cf) (.slice (some ⟨gb, 0, none⟩) qs.length cb)) 53)).alloc (.cells #[.slice (some ⟨gf, 0, none⟩) ps.length cf, .slice (some ⟨gb, 0, none⟩) qs.length cb] 51)) (w.heap.size + 1) #[.slice (some ⟨gf, 0, none⟩) ps.length cf, .slice (some ⟨gb, 0, none⟩) qs.length cb] 51 := Blk.new_at _ _ _ _ (by simp)
  have HC := Lib.hid (Concat_calls (w.heap.size + 1) gf gb cf cb ps.length qs.length (stF ps us) (stF qs vs) (stF_len ps us hul) (stF_len qs vs hvl)
    (stF_one ps us (fun u hu => by obtain ⟨j, hj, rfl⟩ := List.getElem_of_mem hu; exact (hsf j (by omega) hj).one)) (stF_one qs vs (fun u hu => by obtain ⟨j, hj, rfl⟩ := List.getElem_of_mem hu; exact (hsb j (by omega) hj).one)) h0 hp hq _ hP (Nat.lt_of_lt_of_le hgf hb0.size) (Nat.lt_of_lt_of_le hgb hb0.size)
    (fun j u hu => (hb0.cell (p := ⟨gf, 0 + j, none⟩) hgf).trans (hrf j u hu)) (fun j u hu => (hb0.cell (p := ⟨gb, 0 + j, none⟩) hgb).trans (hrb j u hu)))
  have hcg : ∀ f b, (gra N f b)[1]? = some f ∧ (gra N f b)[2]? = some b := fun f b => ⟨rfl, rfl⟩
  have HX : Blk (w.alloc (.cells (gra N (.slice (some ⟨gf, 0, none⟩) ps.length cf) (.slice (some ⟨gb, 0, none⟩) qs.length cb)) 53)) w.heap.size _ 53 := Blk.new w _ _
  have c1 := HX.cell 1
  have c2 := HX.cell 2
  rw [(hcg _ _).1] at c1
  rw [(hcg _ _).2] at c2
  have Hsf := Lib.hid hsf
  have Hsb := Lib.hid hsb
  have Hb := Lib.hid hb
  have Hb0 := Lib.hid hb0
  have HW := Lib.hid hW
  have hl : us.length + vs.length = ps.length + qs.length := by omega
  have Hul := Lib.hid hul
  have Hl := Lib.hid hl
  clear hrf hrb hsf hsb hcg HX hP hul hvl hl hb hb0 hW
  generalize hgr : gra N (.slice (some ⟨gf, 0, none⟩) ps.length cf) (.slice (some ⟨gb, 0, none⟩) qs.length cb) = gr at *
  clear hgr
  go_enter Try.func55, Try.ntmps55
  go_wp2_with (go_at_call 70; refine HC.out.mono ?_; rintro e w1 ⟨v1, rfl, hO1, hb1⟩)
  go_ret
  rw [← stF_append ps us qs vs Hul.out] at hO1
  obtain ⟨g, hge, hst⟩ := StAt.of_row (B := W0.heap.size) hO1 (by rw [List.length_append, List.length_append]; exact Hl.out) (by rw [List.length_append]) (by rw [List.length_append]; omega) (fun j hj hu => by
    by_cases hlt : j < us.length
    · rw [List.getElem_append_left hlt, List.getElem_append_left (by have := Hul.out; omega)]
      exact ⟨((Hsf.out j (by have := Hul.out; omega) hlt).below Hb0.out).below hb1, fun q hq => (Hsf.out j (by have := Hul.out; omega) hlt).lt q hq⟩
    · rw [List.getElem_append_right (by omega), List.getElem_append_right (by have := Hul.out; omega)]
      have h1 := Hul.out
      have h2 := Hl.out
      rw [List.length_append] at hj
      have h3 := Hsb.out (j - ps.length) (by omega) (by omega)
      have h4 := (h3.below Hb0.out).below hb1
      have h5 := h3.lt
      simp only [h1]
      exact ⟨h4, h5⟩)
  have hsz := Hb.out.size
  exact ⟨_, g, rfl, by omega, hst, below_step Hb.out hb1⟩
end Go.Proofs.Yticnpajbefflbab
