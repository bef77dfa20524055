/- 'OrbitOfWord', program. -/
import Derived.Test.YtbmcbldciioibaaOrbM
import Derived.Test.YtbmcbldciioibaaStrsB
import Derived.Test.YtbmcbldciioibaaLawC
namespace Go.Proofs.Ytbmcbldciioibaa
open Go.RowKit

theorem info9 : (Try.prog.info? 9).map (fun i => (i.zero, i.size, i.bytes)) = some (some (.string ⟨#[]⟩), 1, 16) := by kernel_rfl
section
variable {ops : Array Oper} {rest : List Oper} {o : Oper} {a : Act} {w : World} {Q : Exit → Act → World → Prop}
/-- 'out = append(out, s)'. -/
theorem wpList_push_str (hgd : o.guard = none) (s x : Operand) (ho : o.op = .call { callee := .builtin .append, args := #[s, x], argTypes := #[43, 43] })
    (base : Nat) (v : Value) (zs : List ByteArray) (hs : a.eval s = v) (hown : OwnS w base v zs) (g c : Nat) (z : ByteArray) (hx : a.eval x = .slice (some ⟨g, 0, none⟩) 1 c) (hB : Blk w g #[.string z] 9)
    (hn : zs.length + 1 ≤ 1048576) (hbase : base ≤ w.heap.size)
    (h : ∀ v' w', OwnS w' base v' (zs ++ [z]) → Below base w w' → wpList Try.prog ops Q rest (a.put o.dst v') w') : wpList Try.prog ops Q (o :: rest) a w := by
  obtain ⟨i0, hi, hz0, hz1, hz2⟩ := info_parts info9
  refine wpList_append_own _ hgd s x 43 ho base 9 i0 (.string ⟨#[]⟩) 1 16 Try.underlying43 hi hz0 hz1 hz2 rfl (by decide) v zs.length _ hs hown ⟨g, 0, none⟩ 1 c [.string z] hx rfl
    (fun j u hu => ?_) (fun u hu => ?_) (by unfold maxLen; omega) (by omega) hbase (fun v' w' hown' hg _ => h v' w' ?_ (below_grown hown hg hbase))
  · match j, hu with
    | 0, hu => simp at hu; subst hu; simpa [Addr.add] using hB.cell 0
  · simp at hu; subst hu; rfl
  · unfold OwnS; simpa using hown'
end
def lenOf : Value → Nat
  | .slice _ n _ => n
  | _ => 0
theorem str_ne {s : ByteArray} {l : List UInt8} (h : l ≠ s.data.toList) : (l == s.toList) = false := by rw [ByteArray.toList_eq]; simpa using h
theorem str_eq {s : ByteArray} {l : List UInt8} (h : l = s.data.toList) : (l == s.toList) = true := by rw [ByteArray.toList_eq]; simpa using h

set_option maxRecDepth 100000 in
set_option maxHeartbeats 2000000 in
theorem iOrbit_good (M : Mach) (L S : Nat) (hg : Good M L S) (q : Nat) (hq : q < S) (s : ByteArray) (hs5 : s.size ≤ 5) (hl : lettersL L s.data.toList = true) (hwc : walkCode M q s = 0) (w : World) :
    Calls Try.prog 31 #[.agg (mc M), .int .i64 q, .string s] w fun e w' => ∃ v, e = .returned (.tuple #[v, .int .i64 0]) ∧ OwnS w' w.heap.size v (orbK M q s.data.toList (orbN M q s.data.toList)) ∧ Below w.heap.size w w' := by
  have hok := hg.ok
  have hsl : s.data.toList.length ≤ 5 := by rw [← size_list s]; exact hs5
  obtain ⟨n1, n2, n3, n4⟩ := hg.orb q hq s.data.toList hl hsl
  obtain ⟨N, hN⟩ : ∃ N, orbN M q s.data.toList = N := ⟨_, rfl⟩
  rw [hN] at n1 n2 n3 n4 ⊢
  clear hN
  have N3 := Lib.hid n3; have N4 := Lib.hid n4; clear n3 n4
  have hs5' : ¬ ((5 : Int) < s.size) := by omega
  have F1 : Hid (cut (mc M) 0 98 = mc M) := Lib.hid (cut_all _ _ (mc_size hok)); have F2 : Hid (0 + 98 ≤ (mc M).size) := Lib.hid (by rw [mc_size hok]; omega)
  have hB : Blk (w.alloc (.cells (mc M) 27)) w.heap.size (mc M) 27 := Blk.new w _ _
  go_enter Try.func31, Try.ntmps31
  go_wp2_with (first | (with_reducible show wpList _ _ _ _ _ _; refine wpList_load_blk rfl 27 (.tmp 3) rfl w.heap.size 0 rfl (mc M) _ (hB) 98 F2.out _ Try.underlying27 rfl size_mach ?_; rw [F1.out]) | (go_at_call 64; refine (checkWalk_calls M hok q s (by omega) _).mono ?_; rintro e w1 ⟨rfl, hb1⟩; rw [hwc]; have hB1 := hB.keptAll hb1))
  have hB2 : Blk (w1.alloc (.cells #[.string s] 9)) w.heap.size (mc M) 27 := hB1.alloc _
  have hlt1 := hB1.lt
  have hO : OwnS (w1.alloc (.cells #[.string s] 9)) (w.heap.size + 1) (.slice (some ⟨w1.heap.size, 0, none⟩) (0 + 1) 1) (orbK M q s.data.toList (0 + 1)) := by
    unfold OwnS
    rw [orbK_len]
    refine ⟨by simp [orbK_len], .inr ⟨w1.heap.size, 1, _, rfl, by omega, Blk.new w1 _ _, Nat.le_refl _, by unfold maxLen; omega, by simp, ?_⟩⟩
    simp [orbK, itL]
  have hbw : Below w.heap.size w (w1.alloc (.cells #[.string s] 9)) := by (repeat (first | exact Below.refl _ _ | refine below_drew' ?_ | refine below_drewN' ?_ _ | refine below_alloc' ?_ _ | refine below_set' ?_ (by (try simp); (try omega)) _ | refine below_step ?_ (by assumption)))
  clear hB hB1
  go_loopw [9] (fun v wr => ∃ (k : Nat) (oa : Option Addr) (ca : Nat), v = .slice oa (k + 1) ca ∧ k + 1 ≤ N ∧ Blk wr w.heap.size (mc M) 27 ∧
      OwnS wr (w.heap.size + 1) (.slice oa (k + 1) ca) (orbK M q s.data.toList (k + 1)) ∧ Below w.heap.size w wr) (fun v _ => N - lenOf v)
  case atStart => exact ⟨0, _, _, rfl, by omega, hB2, hO, hbw⟩
  case round =>
    clear hB2 hO hbw hb1 hlt1
    obtain ⟨k, oa, ca, rfl, hk, hB, hO, hbw⟩ := hrel
    obtain ⟨oa', ca', e, h2⟩ := hO.view
    rw [orbK_len] at e
    cases e
    obtain ⟨g, rfl, hbg, -⟩ := h2 (by rw [orbK_len]; omega)
    clear h2
    have Hown : Hid (∀ W, OwnS W (w.heap.size + 1) (.slice (some ⟨g, 0, none⟩) (k + 1) ca) (orbK M q s.data.toList (k + 1)) → W.cell? ⟨g, k, none⟩ = some (.string ⟨(itL M q s.data.toList k).toArray⟩)) := Lib.hid (fun W hW => by
      obtain ⟨oa', ca', e, h2⟩ := hW.view
      rw [orbK_len] at e
      obtain ⟨g', e', _, h3⟩ := h2 (by rw [orbK_len]; omega)
      cases e; cases e'
      have := h3 k (by rw [orbK_len]; omega)
      simpa [orbK] using this)
    have hWl := hg.itL_letters q hq s.data.toList hl k
    have hWs : (⟨(itL M q s.data.toList k).toArray⟩ : ByteArray).size ≤ 40 := by show (itL M q s.data.toList k).toArray.size ≤ 40; simp [itL_len]; omega
    have Hnext : Hid ((runL M q (itL M q s.data.toList k)).2 = itL M q s.data.toList (k + 1)) := Lib.hid rfl
    have hk1 : IntKind.i64.wrap (k : Int) = k := IntWalk.i64_in _ (by omega)
    have hki : (k : Int) < (k : Int) + 1 := by omega
    go_wp2_with fail
    refine wp_region_quiet (C := fun W => Blk W w.heap.size (mc M) 27 ∧ OwnS W (w.heap.size + 1) (.slice (some ⟨g, 0, none⟩) (k + 1) ca) (orbK M q s.data.toList (k + 1)) ∧ Below w.heap.size w W) (by kernel_rfl) (by kernel_rfl) ⟨hB.drew, hO.below (by (repeat (first | exact Below.refl _ _ | refine below_drew' ?_ | refine below_drewN' ?_ _ | refine below_alloc' ?_ _ | refine below_set' ?_ (by (try simp); (try omega)) _ | refine below_step ?_ (by assumption)))), hbw.drew⟩ ?_
    refine wpQuiet_load_blk rfl 27 _ rfl w.heap.size 0 rfl (mc M) _ (fun W hW => hW.1) 98 F2.out _ Try.underlying27 rfl size_mach ?_
    rw [F1.out]
    refine wpQuiet_val rfl (.int .i64 q) (fun W _ => by go_simp) ?_
    refine wpQuiet_val rfl (.slice (some ⟨g, 0, none⟩) (k + 1) ca) (fun W _ => by go_simp) ?_
    refine wpQuiet_val rfl (.slice (some ⟨g, 0, none⟩) (k + 1) ca) (fun W _ => by go_simp) ?_
    refine wpQuiet_val rfl (.int .i64 ((k : Int) + 1)) (fun W _ => by go_simp) ?_
    refine wpQuiet_val rfl (.int .i64 (k : Int)) (fun W _ => by go_simp) ?_
    refine wpQuiet_val rfl (.pointer (some ⟨g, k, none⟩)) (fun W _ => by go_simp) ?_
    refine wpQuiet_val rfl (.string ⟨(itL M q s.data.toList k).toArray⟩) (fun W hW => by have c1 := Hown.out W hW.2.1; clear hW; go_simp) ?_
    refine wpQuiet_call rfl 65 _ _ rfl #[.agg (mc M), .int .i64 q, .string ⟨(itL M q s.data.toList k).toArray⟩] (.tuple #[.string ⟨(itL M q s.data.toList (k + 1)).toArray⟩, .int .i64 ((runL M q (itL M q s.data.toList k)).1 : Nat)]) (fun W => by go_simp) (fun W hW => (walk_calls M L S hg q hq ⟨(itL M q s.data.toList k).toArray⟩ hWs hWl W).mono fun e w'' h => ⟨h.1, hW.1.keptAll h.2, hW.2.1.below h.2, below_step hW.2.2 h.2⟩) ?_
    refine wpQuiet_val rfl (.tuple #[.string ⟨(itL M q s.data.toList (k + 1)).toArray⟩, .int .i64 ((runL M q (itL M q s.data.toList k)).1 : Nat)]) (fun W _ => by go_simp) ?_
    refine wpQuiet_val rfl (.string ⟨(itL M q s.data.toList (k + 1)).toArray⟩) (fun W _ => by go_simp) ?_
    refine wpQuiet_val rfl (.int .i64 ((runL M q (itL M q s.data.toList k)).1 : Nat)) (fun W _ => by go_simp) ?_
    refine wpQuiet_val rfl (.string ⟨(itL M q s.data.toList (k + 1)).toArray⟩) (fun W _ => by go_simp) ?_
    refine wpQuiet_val rfl (.int .i64 ((runL M q (itL M q s.data.toList k)).1 : Nat)) (fun W _ => by go_simp) ?_
    refine wpQuiet_nil ?_
    rintro w3 ⟨hB', hO', hbw'⟩
    have hsz0 := hbw'.size
    have hlt1 := hB'.lt
    clear hB hO hbw
    by_cases hlast : k + 1 = N
    · have htest := str_eq (s := s) (by rw [hlast]; exact N3.out : itL M q s.data.toList (k + 1) = s.data.toList)
      have HL := Lib.hid hlast
      clear hlast
      generalize itL M q s.data.toList (k + 1) = nx at *
      go_wp2
      go_ret2
      refine ⟨_, rfl, ?_, hbw'⟩
      rw [← HL.out]
      refine ⟨hO'.1, ?_⟩
      rcases hO'.2 with h2 | ⟨g', cap, cur, hv', hg', r⟩
      · exact Or.inl h2
      · exact Or.inr ⟨g', cap, cur, hv', by omega, r⟩
    · have htest := str_ne (s := s) (N4.out (k + 1) (by omega) (by omega))
      have Hsn := Lib.hid (orbK_snoc M q s.data.toList (k + 1))
      have hk2 : k + 1 + 1 ≤ N := by omega
      clear hlast
      generalize itL M q s.data.toList (k + 1) = nx at *
      go_wp2_with (at_builtin; refine wpList_push_str rfl (.tmp 40) (.tmp 42) rfl (w.heap.size + 1) _ (orbK M q s.data.toList (k + 1)) rfl (hO'.below (Below.alloc (Below.refl _ _) (Nat.le_refl _) (.cells #[.string ⟨nx.toArray⟩] 9))) w3.heap.size 1 ⟨nx.toArray⟩ rfl (Blk.new w3 _ _) (by rw [orbK_len]; omega) (by simp; omega) ?_; intro v1 w4 hO1 hb1; have hB11 := (hB'.alloc (.cells #[.string ⟨nx.toArray⟩] 9)).kept hb1 (by omega))
      obtain ⟨oa1, ca1, rfl, -⟩ := hO1.view
      rw [← Hsn.out, orbK_len] at hO1
      go_roundw
      case rel => exact ⟨k + 1, oa1, ca1, by rw [← Hsn.out, orbK_len], hk2, hB11, hO1, (hbw'.alloc hbw'.size _).trans (below_le hb1 (by omega))⟩
      case measure => simp [lenOf, orbK_len] <;> omega
end Go.Proofs.Ytbmcbldciioibaa
