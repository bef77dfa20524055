/- Kinds behind an interface: their numbers, one cycle more, the greater one: the program. -/
import Derived.Test.YtdbdoohcpcjfdaaKdU
import Derived.Test.YtdbdoohcpcjfdaaArgs
import Derived.Test.YtdbdoohcpcjfdaaBls
namespace Go.Proofs.Ytdbdoohcpcjfdaa
open Go.RowKit

/-- A kind as it lies in memory. -/
def kV (n : Nat) : Value := if n = 0 then .iface 97 (.agg #[]) else if n = kE then .iface 112 (.agg #[]) else .iface 102 (.agg #[.int .i64 ((n : Int) - 1)])
theorem kV_fin : kV 0 = .iface 97 (.agg #[]) := rfl
theorem kV_exp : kV kE = .iface 112 (.agg #[]) := rfl
theorem kV_pol {n : Nat} (h0 : n ≠ 0) (hE : n ≠ kE) : kV n = .iface 102 (.agg #[.int .i64 ((n : Int) - 1)]) := by unfold kV; rw [if_neg h0, if_neg hE]
def kL (n : Nat) : List Int := [kN0 n, kN1 n]

set_option maxRecDepth 100000 in
theorem finNum (w : World) : Calls Try.prog 104 #[.agg #[]] w fun e w' => ∃ v, e = .returned v ∧ OwnI w' w.heap.size v [0, 0] ∧ Below w.heap.size w w' := by
  have hbw : Below w.heap.size w ((w.alloc (.cells #[] 97)).alloc (.cells #[.int .i64 0, .int .i64 0] 2)) := by (repeat (first | exact Below.refl _ _ | refine below_drew' ?_ | refine below_drewN' ?_ _ | refine below_alloc' ?_ _ | refine below_set' ?_ (by (try simp); (try omega)) _ | refine below_step ?_ (by assumption)))
  have hB : Blk ((w.alloc (.cells #[] 97)).alloc (.cells #[.int .i64 0, .int .i64 0] 2)) (w.heap.size + 1) (ints [0, 0]) 2 := Blk.new_at _ _ _ _ (by simp)
  go_enter Try.func104, Try.ntmps104
  go_wp2
  go_ret
  exact ⟨_, rfl, OwnI.made rfl (by unfold maxLen; omega) (by omega) hB, hbw⟩
set_option maxRecDepth 100000 in
theorem expNum (w : World) : Calls Try.prog 107 #[.agg #[]] w fun e w' => ∃ v, e = .returned v ∧ OwnI w' w.heap.size v [2, 0] ∧ Below w.heap.size w w' := by
  have hbw : Below w.heap.size w ((w.alloc (.cells #[] 112)).alloc (.cells #[.int .i64 2, .int .i64 0] 2)) := by (repeat (first | exact Below.refl _ _ | refine below_drew' ?_ | refine below_drewN' ?_ _ | refine below_alloc' ?_ _ | refine below_set' ?_ (by (try simp); (try omega)) _ | refine below_step ?_ (by assumption)))
  have hB : Blk ((w.alloc (.cells #[] 112)).alloc (.cells #[.int .i64 2, .int .i64 0] 2)) (w.heap.size + 1) (ints [2, 0]) 2 := Blk.new_at _ _ _ _ (by simp)
  go_enter Try.func107, Try.ntmps107
  go_wp2
  go_ret
  exact ⟨_, rfl, OwnI.made rfl (by unfold maxLen; omega) (by omega) hB, hbw⟩
set_option maxRecDepth 100000 in
theorem polNum (d : Int) (w : World) : Calls Try.prog 77 #[.agg #[.int .i64 d]] w fun e w' => ∃ v, e = .returned v ∧ OwnI w' w.heap.size v [1, d] ∧ Below w.heap.size w w' := by
  have hbw : Below w.heap.size w ((w.alloc (.cells #[.int .i64 d] 102)).alloc (.cells #[.int .i64 1, .int .i64 d] 2)) := by (repeat (first | exact Below.refl _ _ | refine below_drew' ?_ | refine below_drewN' ?_ _ | refine below_alloc' ?_ _ | refine below_set' ?_ (by (try simp); (try omega)) _ | refine below_step ?_ (by assumption)))
  have hB : Blk ((w.alloc (.cells #[.int .i64 d] 102)).alloc (.cells #[.int .i64 1, .int .i64 d] 2)) (w.heap.size + 1) (ints [1, d]) 2 := Blk.new_at _ _ _ _ (by simp)
  go_enter Try.func77, Try.ntmps77
  go_wp2
  go_ret
  exact ⟨_, rfl, OwnI.made rfl (by unfold maxLen; omega) (by omega) hB, hbw⟩
set_option maxRecDepth 100000 in
theorem finCyc (w : World) : Calls Try.prog 105 #[.agg #[]] w fun e w' => e = .returned (kV (kCyc 0)) ∧ Below w.heap.size w w' := by
  go_enter Try.func105, Try.ntmps105
  go_wp2
  go_ret
  exact ⟨rfl, by (repeat (first | exact Below.refl _ _ | refine below_drew' ?_ | refine below_drewN' ?_ _ | refine below_alloc' ?_ _ | refine below_set' ?_ (by (try simp); (try omega)) _ | refine below_step ?_ (by assumption)))⟩
set_option maxRecDepth 100000 in
theorem expCyc (w : World) : Calls Try.prog 108 #[.agg #[]] w fun e w' => e = .returned (kV (kCyc kE)) ∧ Below w.heap.size w w' := by
  go_enter Try.func108, Try.ntmps108
  go_wp2
  go_ret
  exact ⟨rfl, by (repeat (first | exact Below.refl _ _ | refine below_drew' ?_ | refine below_drewN' ?_ _ | refine below_alloc' ?_ _ | refine below_set' ?_ (by (try simp); (try omega)) _ | refine below_step ?_ (by assumption)))⟩
set_option maxRecDepth 100000 in
theorem polCyc (n : Nat) (h0 : n ≠ 0) (hE : n < kE - 1) (w : World) : Calls Try.prog 106 #[.agg #[.int .i64 ((n : Int) - 1)]] w fun e w' => e = .returned (kV (kCyc n)) ∧ Below w.heap.size w w' := by
  have hEv : kE = 1000 := rfl
  have Hk : Hid (kV (kCyc n) = .iface 102 (.agg #[.int .i64 (n : Int)])) := Lib.hid (by
    unfold kCyc
    rw [if_neg (by omega), kV_pol (by omega) (by omega)]
    simp)
  have hn : (n : Int) ≤ 1000 := by omega
  have hn1 : (1 : Int) ≤ (n : Int) := by omega
  clear h0 hE hEv
  go_enter Try.func106, Try.ntmps106
  go_wp2
  go_ret
  exact ⟨by rw [Hk.out]; simp, by (repeat (first | exact Below.refl _ _ | refine below_drew' ?_ | refine below_drewN' ?_ _ | refine below_alloc' ?_ _ | refine below_set' ?_ (by (try simp); (try omega)) _ | refine below_step ?_ (by assumption)))⟩

theorem mthF : ∀ w : World, (method 235 97 (.agg #[]) "loop.example/g01244/impl.numbers").run Try.prog w = .ok (104, .agg #[]) w := fun _ => by kernel_rfl
theorem mthE : ∀ w : World, (method 235 112 (.agg #[]) "loop.example/g01244/impl.numbers").run Try.prog w = .ok (107, .agg #[]) w := fun _ => by kernel_rfl
theorem mthP (d : Int) : ∀ w : World, (method 235 102 (.agg #[.int .i64 d]) "loop.example/g01244/impl.numbers").run Try.prog w = .ok (77, .agg #[.int .i64 d]) w := fun _ => by kernel_rfl
theorem mthFc : ∀ w : World, (method 235 97 (.agg #[]) "loop.example/g01244/impl.withCycle").run Try.prog w = .ok (105, .agg #[]) w := fun _ => by kernel_rfl
theorem mthEc : ∀ w : World, (method 235 112 (.agg #[]) "loop.example/g01244/impl.withCycle").run Try.prog w = .ok (108, .agg #[]) w := fun _ => by kernel_rfl
theorem mthPc (d : Int) : ∀ w : World, (method 235 102 (.agg #[.int .i64 d]) "loop.example/g01244/impl.withCycle").run Try.prog w = .ok (106, .agg #[.int .i64 d]) w := fun _ => by kernel_rfl

/-! ### 'slices.Compare' -/
def c1 (a b : Int) : Int := if a < b then -1 else if b < a then 1 else 0
def c2 (x y a b : Int) : Int := if c1 x a ≠ 0 then c1 x a else c1 y b
theorem c1_sgn (a b : Int) : c1 a b = -1 ∨ c1 a b = 0 ∨ c1 a b = 1 := by
  unfold c1; split
  · exact .inl rfl
  · split
    · exact .inr (.inr rfl)
    · exact .inr (.inl rfl)
theorem isNaN_calls (a : Int) (w : World) : Calls Try.prog 88 #[.int .i64 a] w fun e w' => e = .returned (.bool false) ∧ w = w' := by
  go_enter Try.func88, Try.ntmps88
  go_wp2
  go_ret
  exact ⟨by simp, rfl⟩
set_option maxRecDepth 100000 in
theorem cmp_calls (a b : Int) (w : World) : Calls Try.prog 87 #[.int .i64 a, .int .i64 b] w fun e w' => e = .returned (.int .i64 (c1 a b)) ∧ w = w' := by
  by_cases h1 : a < b
  · have Hr : Hid (c1 a b = -1) := Lib.hid (by unfold c1; rw [if_pos h1])
    go_enter Try.func87, Try.ntmps87
    go_wp2_with (go_at_call 88; refine (isNaN_calls _ _).mono ?_; rintro e w' ⟨rfl, rfl⟩)
    go_ret
    exact ⟨ret_int Hr.out.symm, rfl⟩
  · by_cases h2 : b < a
    · have Hr : Hid (c1 a b = 1) := Lib.hid (by unfold c1; rw [if_neg h1, if_pos h2])
      go_enter Try.func87, Try.ntmps87
      go_wp2_with (go_at_call 88; refine (isNaN_calls _ _).mono ?_; rintro e w' ⟨rfl, rfl⟩)
      go_ret
      exact ⟨ret_int Hr.out.symm, rfl⟩
    · have Hr : Hid (c1 a b = 0) := Lib.hid (by unfold c1; rw [if_neg h1, if_neg h2])
      go_enter Try.func87, Try.ntmps87
      go_wp2_with (go_at_call 88; refine (isNaN_calls _ _).mono ?_; rintro e w' ⟨rfl, rfl⟩)
      go_ret
      exact ⟨ret_int Hr.out.symm, rfl⟩

set_option maxRecDepth 100000 in
set_option maxHeartbeats 1000000 in
theorem Compare_calls (v1 v2 : Value) (x y a b : Int) (w : World) (h1 : SeesI w v1 [x, y]) (h2 : SeesI w v2 [a, b]) :
    Calls Try.prog 76 #[v1, v2] w fun e w' => e = .returned (.int .i64 (c2 x y a b)) ∧ w' = w := by
  obtain ⟨o1, n1, rfl, _⟩ := h1.view
  obtain ⟨o2, n2, rfl, _⟩ := h2.view
  obtain ⟨g1, e1, hg1, p0⟩ := h1.at 0 (by simp)
  obtain ⟨_, e1', _, p1⟩ := h1.at 1 (by simp)
  obtain ⟨g2, e2, hg2, q0⟩ := h2.at 0 (by simp)
  obtain ⟨_, e2', _, q1⟩ := h2.at 1 (by simp)
  subst e1 e2
  simp only [List.length_cons, List.length_nil, Nat.reduceAdd, Option.some.injEq, Addr.mk.injEq, and_true] at e1' e2' ⊢
  subst e1' e2'
  simp at p0 p1 q0 q1
  have Hx := Lib.hid (cmp_calls x a)
  have Hy := Lib.hid (cmp_calls y b)
  have Hs1 := c1_sgn x a
  have HS1 := Lib.hid Hs1
  have HS2 := Lib.hid (c1_sgn y b)
  have HC : Hid (c2 x y a b = if c1 x a ≠ 0 then c1 x a else c1 y b) := Lib.hid rfl
  clear Hs1 h1 h2
  generalize c1 x a = cx at *
  generalize c1 y b = cy at *
  generalize c2 x y a b = cc at *
  go_enter Try.func76, Try.ntmps76
  go_wp2
  go_loopw [11] (fun i wr => (i = .int .i64 0 ∨ (i = .int .i64 1 ∧ Hid (cx = 0)) ∨ (i = .int .i64 2 ∧ Hid (cx = 0 ∧ cy = 0))) ∧ wr = w) (fun i _ => 2 - (intOf i).toNat)
  case atStart => exact ⟨.inl rfl, rfl⟩
  case round =>
    obtain ⟨hi, rfl⟩ := hrel
    rcases hi with rfl | ⟨rfl, Hz⟩ | ⟨rfl, Hz⟩
    · by_cases h0 : cx = 0
      · have Hz : Hid (cx = 0) := Lib.hid h0
        rw [h0] at Hx
        clear h0
        go_wp2_with (go_at_call 87; refine (Hx.out _).mono ?_; rintro e w' ⟨rfl, rfl⟩)
        go_roundw
        case rel => exact ⟨.inr (.inl ⟨rfl, Hz⟩), trivial⟩
        case measure => simp [intOf]
      · have hb : (cx != 0) = true := by simpa using h0
        have Hr : Hid (cc = cx) := Lib.hid (by rw [HC.out, if_pos h0])
        clear h0
        go_wp2_with (go_at_call 87; refine (Hx.out _).mono ?_; rintro e w' ⟨rfl, rfl⟩)
        go_ret
        exact ⟨ret_int Hr.out.symm, rfl⟩
    · by_cases h0 : cy = 0
      · have Hz2 : Hid (cx = 0 ∧ cy = 0) := Lib.hid ⟨Hz.out, h0⟩
        rw [h0] at Hy
        clear h0
        go_wp2_with (go_at_call 87; refine (Hy.out _).mono ?_; rintro e w' ⟨rfl, rfl⟩)
        go_roundw
        case rel => exact ⟨.inr (.inr ⟨rfl, Hz2⟩), trivial⟩
        case measure => simp [intOf]
      · have hb : (cy != 0) = true := by simpa using h0
        have Hr : Hid (cc = cy) := Lib.hid (by rw [HC.out, if_neg (by rw [Hz.out]; simp)])
        clear h0
        go_wp2_with (go_at_call 87; refine (Hy.out _).mono ?_; rintro e w' ⟨rfl, rfl⟩)
        go_ret
        exact ⟨ret_int Hr.out.symm, rfl⟩
    · have Hr : Hid (cc = 0) := Lib.hid (by rw [HC.out, if_neg (by rw [Hz.out.1]; simp), Hz.out.2])
      go_wp2
      go_ret
      exact ⟨ret_int Hr.out.symm, rfl⟩

/-! ### The greater kind -/
theorem kN_0 : kN0 0 = 0 ∧ kN1 0 = 0 := ⟨rfl, rfl⟩
theorem kN_E : kN0 kE = 2 ∧ kN1 kE = 0 := ⟨rfl, rfl⟩
theorem kN_P {n : Nat} (h0 : n ≠ 0) (hE : n ≠ kE) : kN0 n = 1 ∧ kN1 n = (n : Int) - 1 := by
  unfold kN0 kN1
  rw [if_neg h0, if_neg hE, if_neg (by omega)]
  exact ⟨rfl, rfl⟩
theorem c2_kN {a b : Nat} (ha : a ≤ kE) (hb : b ≤ kE) : c2 (kN0 a) (kN1 a) (kN0 b) (kN1 b) = c1 (a : Int) (b : Int) := by
  have hE : kE = 1000 := rfl
  have key : ∀ n : Nat, n ≤ kE → (n = 0 ∧ kN0 n = 0 ∧ kN1 n = 0) ∨ (n = kE ∧ kN0 n = 2 ∧ kN1 n = 0) ∨ (0 < n ∧ n < kE ∧ kN0 n = 1 ∧ kN1 n = (n : Int) - 1) := fun n hn => by
    by_cases h0 : n = 0
    · subst h0; exact .inl ⟨rfl, rfl, rfl⟩
    · by_cases h1 : n = kE
      · subst h1; exact .inr (.inl ⟨rfl, rfl, rfl⟩)
      · exact .inr (.inr ⟨by omega, by omega, kN_P h0 h1⟩)
  rcases key a ha with ⟨a1, a2, a3⟩ | ⟨a1, a2, a3⟩ | ⟨a0, a1, a2, a3⟩ <;> rcases key b hb with ⟨b1, b2, b3⟩ | ⟨b1, b2, b3⟩ | ⟨b0, b1, b2, b3⟩ <;> rw [a2, a3, b2, b3] <;> unfold c2 c1 <;> (repeat' split) <;> omega
end Go.Proofs.Ytdbdoohcpcjfdaa
