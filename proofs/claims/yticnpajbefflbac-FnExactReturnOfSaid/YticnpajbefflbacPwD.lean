/- Words led again and again by a group word: plain data. -/
import Derived.Test.YticnpajbefflbacOrbM
import Derived.Test.YticnpajbefflbacLedM
namespace Go.Proofs.Yticnpajbefflbac
open Go.RowKit

theorem outG_inj {M : Mach} {L S : Nat} (hg : Good M L S) {k : Int} (h : numOk S k = true) {x y : Nat} (hx : x < L) (hy : y < L) (e : outG M k x = outG M k y) : x = y := by
  have hq := stOf_lt h
  unfold outG at e
  split at e
  · have h1 := hg.o_lt (stOf k) x hq hx
    have h2 := hg.o_lt (stOf k) y hq hy
    exact hg.o_inj (stOf k) x y hq hx hy (by omega)
  · have h1 := (hg.bk_at (stOf k) x hq hx).2.1
    have h2 := (hg.bk_at (stOf k) y hq hy).2.1
    rw [e, h2] at h1
    omega
theorem led_fst (M : Mach) : ∀ (zs : List Int) (x : Nat) (l : List Int), (zs.foldl (fun s k => (outG M k s.1, s.2 ++ [nextG M k s.1])) (x, l)).1 = zs.foldl (fun a k => outG M k a) x
  | [], _, _ => rfl
  | k :: zs, x, l => by simp only [List.foldl_cons]; exact led_fst M zs _ _
theorem fold_inj {M : Mach} {L S : Nat} (hg : Good M L S) : ∀ zs : List Int, numsOk S zs = true → ∀ x y, x < L → y < L → zs.foldl (fun a k => outG M k a) x = zs.foldl (fun a k => outG M k a) y → x = y
  | [], _, _, _, _, _, e => e
  | k :: zs, hz, x, y, hx, hy, e => by
    have hk : numOk S k = true ∧ numsOk S zs = true := by simpa [numsOk] using hz
    exact outG_inj hg hk.1 hx hy (fold_inj hg zs hk.2 _ _ (outG_lt hg hk.1 hx) (outG_lt hg hk.1 hy) e)
theorem ledG_inj {M : Mach} {L S : Nat} (hg : Good M L S) (zs : List Int) (hz : numsOk S zs = true) (x y : Nat) (hx : x < L) (hy : y < L) (e : (ledG M zs x).1 = (ledG M zs y).1) : x = y := by
  unfold ledG at e
  rw [led_fst, led_fst] at e
  exact fold_inj hg zs hz x y hx hy e
theorem actG_inj {M : Mach} {L S : Nat} (hg : Good M L S) (zs : List Int) (hz : numsOk S zs = true) : ∀ n (a b : List UInt8), a.length = n → b.length = n → lettersL L a = true → lettersL L b = true → (actG M zs a).1 = (actG M zs b).1 → a = b := by
  intro n
  induction n with
  | zero => intro a b ha hb _ _ _; rw [List.eq_nil_of_length_eq_zero ha, List.eq_nil_of_length_eq_zero hb]
  | succ n ih =>
    intro a b ha hb la lb e
    obtain ⟨a', c, rfl, ha'⟩ := snoc_of_len ha
    obtain ⟨b', d, rfl, hb'⟩ := snoc_of_len hb
    rw [lettersL_snoc, Bool.and_eq_true] at la lb
    rw [actG_snoc, actG_snoc] at e
    obtain ⟨e1, e2⟩ := List.append_inj' e rfl
    obtain rfl := ih a' b' ha' hb' la.1 lb.1 e1
    obtain ⟨_, _, _, h4⟩ := actG_all hg zs hz a' la.1
    have hc := (letterB_iff L c).1 la.2
    have hd := (letterB_iff L d).1 lb.2
    have e3 : dig ((ledG M (actG M zs a').2 (c.toNat - 48)).1 : Nat) = dig ((ledG M (actG M zs a').2 (d.toNat - 48)).1 : Nat) := by simpa using e2
    have c1 := (ledG_all hg _ h4 (c.toNat - 48) (by omega)).1
    have d1 := (ledG_all hg _ h4 (d.toNat - 48) (by omega)).1
    have hL3 := hg.L3
    have e4 := dig_toNat ((ledG M (actG M zs a').2 (c.toNat - 48)).1 : Nat) (by omega) (by omega)
    have e5 := dig_toNat ((ledG M (actG M zs a').2 (d.toNat - 48)).1 : Nat) (by omega) (by omega)
    rw [e3] at e4
    have e6 := ledG_inj hg _ h4 _ _ (by omega) (by omega) (show (ledG M (actG M zs a').2 (c.toNat - 48)).1 = (ledG M (actG M zs a').2 (d.toNat - 48)).1 by omega)
    have : c = d := UInt8.toNat_inj.1 (by omega)
    rw [this]

/-- The word behind i steps. -/
def itG (M : Mach) (zs : List Int) (w : List UInt8) : Nat → List UInt8
  | 0 => w
  | i + 1 => (actG M zs (itG M zs w i)).1
theorem itG_ok {M : Mach} {L S : Nat} (hg : Good M L S) (zs : List Int) (hz : numsOk S zs = true) (w : List UInt8) (hw : lettersL L w = true) : ∀ i, (itG M zs w i).length = w.length ∧ lettersL L (itG M zs w i) = true
  | 0 => ⟨rfl, hw⟩
  | i + 1 => by
    obtain ⟨h1, h2⟩ := itG_ok hg zs hz w hw i
    obtain ⟨a1, a2, _, _⟩ := actG_all hg zs hz _ h2
    exact ⟨a1.trans h1, a2⟩
theorem itG_back {M : Mach} {L S : Nat} (hg : Good M L S) (zs : List Int) (hz : numsOk S zs = true) (w : List UInt8) (hw : lettersL L w = true) (k : Nat) : ∀ i, itG M zs w i = itG M zs w (i + k) → itG M zs w k = w
  | 0, e => by rw [Nat.zero_add] at e; exact e.symm
  | i + 1, e => by
    rw [show i + 1 + k = (i + k) + 1 from by omega] at e
    obtain ⟨a1, a2⟩ := itG_ok hg zs hz w hw i
    obtain ⟨b1, b2⟩ := itG_ok hg zs hz w hw (i + k)
    exact itG_back hg zs hz w hw k i (actG_inj hg zs hz w.length _ _ a1 b1 a2 b2 e)
/-- The period. -/
def perN (M : Mach) (zs : List Int) (w : List UInt8) : Nat := firstOf (fun i => decide (itG M zs w i = w)) 243 1
theorem per_ok {M : Mach} {L S : Nat} (hg : Good M L S) (zs : List Int) (hz : numsOk S zs = true) (w : List UInt8) (hw : lettersL L w = true) (hn : w.length ≤ 5) :
    1 ≤ perN M zs w ∧ perN M zs w ≤ 243 ∧ itG M zs w (perN M zs w) = w ∧ ∀ j, 1 ≤ j → j < perN M zs w → itG M zs w j ≠ w := by
  have hL3 := hg.L3
  have hL2 := hg.L2
  have hok := itG_ok hg zs hz w hw
  obtain ⟨i, j, hij, hj, e⟩ := pigeon 243 (fun i => numL L (itG M zs w i)) (fun i _ => by
    have := numI_bd L (itG M zs w i) hL3 (by rw [(hok i).1]; exact hn) (hok i).2 (itG M zs w i).length (Nat.le_refl _)
    rw [List.take_length] at this
    unfold numI at this
    show numL L (itG M zs w i) < 243
    omega)
  have e1 := num_inj L (by omega) w.length _ _ (hok i).1 (hok j).1 (hok i).2 (hok j).2 e
  have e2 := itG_back hg zs hz w hw (j - i) i (by rw [show i + (j - i) = j from by omega]; exact e1)
  obtain ⟨a, b, c, d⟩ := firstOf_ok (fun i => decide (itG M zs w i = w)) 243 1 (j - i) (by omega) (by omega) (by simpa using e2)
  exact ⟨a, by unfold perN; omega, by simpa [perN] using c, fun k h1 h2 => by simpa using d k h1 h2⟩
end Go.Proofs.Yticnpajbefflbac
