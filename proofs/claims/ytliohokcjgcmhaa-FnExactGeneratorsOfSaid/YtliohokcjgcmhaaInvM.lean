/- The inverse of a machine, as plain data. -/
import Derived.Test.YtliohokcjgcmhaaMach
namespace Go.Proofs.Ytliohokcjgcmhaa
open Go.RowKit

theorem mc_set_nx {M : Mach} (h : M.nx.length = 48) (i : Nat) (hi : i < 48) (v : Int) : mc { M with nx := M.nx.set i v } = (mc M).setIfInBounds (2 + i) (.int .u8 v) := by
  apply Array.ext'
  simp only [mc, List.map_set, Array.toList_setIfInBounds]
  rw [show 2 + i = i + 1 + 1 from by omega, List.set_cons_succ, List.set_cons_succ, List.set_append_left _ _ (by simp; omega)]
theorem mc_set_ot {M : Mach} (h : M.nx.length = 48) (i : Nat) (hi : i < 48) (v : Int) : mc { M with ot := M.ot.set i v } = (mc M).setIfInBounds (50 + i) (.int .u8 v) := by
  apply Array.ext'
  simp only [mc, List.map_set, Array.toList_setIfInBounds]
  rw [show 50 + i = (48 + i) + 1 + 1 from by omega, List.set_cons_succ, List.set_cons_succ, List.set_append_right _ _ (by simp; omega)]
  simp [h]

/-- One entry of the inverse. -/
def invStep (M : Mach) (q x : Nat) (c : Mach) : Mach := { c with ot := c.ot.set (q * 3 + (M.o q x).toNat) (x : Int), nx := c.nx.set (q * 3 + (M.o q x).toNat) (M.n q x) }
def invRow (M : Mach) (q : Nat) (c : Mach) : Nat → Mach
  | 0 => c
  | k + 1 => invStep M q k (invRow M q c k)
def invAll (M : Mach) (L : Nat) (c : Mach) : Nat → Mach
  | 0 => c
  | k + 1 => invRow M k (invAll M L c k) L
/-- A machine with so many letters and states, and nothing else. -/
def blankM (L S : Int) : Mach := ⟨L, S, List.replicate 48 0, List.replicate 48 0⟩
def invM (M : Mach) (L S : Nat) : Mach := invAll M L (blankM M.L M.S) S

theorem isBytes_set {l : List Int} (h : isBytes l) (i : Nat) (v : Int) (hv : 0 ≤ v ∧ v ≤ 255) : isBytes (l.set i v) := fun n hn => by
  rcases List.mem_or_eq_of_mem_set hn with h1 | h1
  · exact h n h1
  · rw [h1]; exact hv
theorem invStep_ok {M c : Mach} (h : M.Ok) (hc : c.Ok) (q x : Nat) (hx : x ≤ 255) : (invStep M q x c).Ok :=
  ⟨by simp [invStep, hc.nx48], by simp [invStep, hc.ot48], isBytes_set hc.nxB _ _ (Mach.n_bd h q x), isBytes_set hc.otB _ _ (by omega), hc.Lwf, hc.Swf⟩
theorem invRow_ok {M c : Mach} (h : M.Ok) (hc : c.Ok) (q : Nat) : ∀ k, k ≤ 3 → (invRow M q c k).Ok
  | 0, _ => hc
  | k + 1, hk => invStep_ok h (invRow_ok h hc q k (by omega)) q k (by omega)
theorem invAll_ok {M c : Mach} (h : M.Ok) (hc : c.Ok) (L : Nat) (hL : L ≤ 3) : ∀ k, (invAll M L c k).Ok
  | 0 => hc
  | k + 1 => invRow_ok h (invAll_ok h hc L hL k) k L hL
theorem blankM_ok {M : Mach} (h : M.Ok) : (blankM M.L M.S).Ok :=
  ⟨by simp [blankM], by simp [blankM], by intro n hn; simp [blankM] at hn; omega, by intro n hn; simp [blankM] at hn; omega, h.Lwf, h.Swf⟩
theorem invM_ok {M : Mach} (h : M.Ok) (L S : Nat) (hL : L ≤ 3) : (invM M L S).Ok := invAll_ok h (blankM_ok h) L hL S
theorem invRow_L (M : Mach) (q : Nat) (c : Mach) : ∀ k, (invRow M q c k).L = c.L ∧ (invRow M q c k).S = c.S
  | 0 => ⟨rfl, rfl⟩
  | k + 1 => invRow_L M q c k
theorem invAll_L (M : Mach) (L : Nat) (c : Mach) : ∀ k, (invAll M L c k).L = c.L ∧ (invAll M L c k).S = c.S
  | 0 => ⟨rfl, rfl⟩
  | k + 1 => by
    have h := invRow_L M k (invAll M L c k) L
    exact ⟨h.1.trans (invAll_L M L c k).1, h.2.trans (invAll_L M L c k).2⟩
theorem invStep_mc {M c : Mach} (hc : c.Ok) (q x : Nat) (hy : q * 3 + (M.o q x).toNat < 48) :
    mc (invStep M q x c) = ((mc c).setIfInBounds (50 + (q * 3 + (M.o q x).toNat)) (.int .u8 (x : Int))).setIfInBounds (2 + (q * 3 + (M.o q x).toNat)) (.int .u8 (M.n q x)) := by
  rw [← mc_set_ot hc.nx48 _ hy]
  rw [← mc_set_nx (M := { c with ot := c.ot.set (q * 3 + (M.o q x).toNat) (x : Int) }) hc.nx48 _ hy]
  rfl
theorem invStep_at {M c : Mach} (hc : c.Ok) (q x y : Nat) (hy : M.o q x = (y : Int)) (hb : q * 3 + y < 48) :
    mc (invStep M q x c) = ((mc c).setIfInBounds (50 + q * 3 + y) (.int .u8 (x : Int))).setIfInBounds (2 + q * 3 + y) (.int .u8 (M.n q x)) := by
  rw [invStep_mc hc q x (by rw [hy]; simpa using hb), hy, Int.toNat_natCast, Nat.add_assoc, Nat.add_assoc]
theorem isMach_parts {M : Mach} (h : isMach M = true) : (2 ≤ M.L ∧ M.L ≤ 3) ∧ (1 ≤ M.S ∧ M.S ≤ 16) := by
  simp [isMach] at h; exact h.1
/-- The answer of 'InverseMachine'. -/
def invRes (M : Mach) : Mach := if isMach M then invM M M.L.toNat M.S.toNat else zeroM
def invCode (M : Mach) : Int := if isMach M then 0 else 1
theorem invRes_ok {M : Mach} (h : M.Ok) : (invRes M).Ok := by
  unfold invRes
  split
  · rename_i hm
    have := (isMach_parts hm).1
    exact invM_ok h _ _ (by omega)
  · exact zeroM_ok
end Go.Proofs.Ytliohokcjgcmhaa
