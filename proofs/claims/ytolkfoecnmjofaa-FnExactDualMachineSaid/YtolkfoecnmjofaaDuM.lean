/- The dual of a machine, as plain data. -/
import Derived.Test.YtolkfoecnmjofaaMinG
import Derived.Test.YtolkfoecnmjofaaRevI
namespace Go.Proofs.Ytolkfoecnmjofaa
open Go.RowKit

/-- One entry of the dual. -/
def duStep (M : Mach) (q x : Nat) (c : Mach) : Mach := { c with ot := c.ot.set (x * 3 + q) (M.n q x), nx := c.nx.set (x * 3 + q) (M.o q x) }
/-- State by state. -/
def duRow (M : Mach) (q : Nat) (c : Mach) : Nat → Mach
  | 0 => c
  | k + 1 => duStep M q k (duRow M q c k)
def duAll (M : Mach) (L : Nat) (c : Mach) : Nat → Mach
  | 0 => c
  | k + 1 => duRow M k (duAll M L c k) L
/-- Letter by letter. -/
def duCol (M : Mach) (x : Nat) (c : Mach) : Nat → Mach
  | 0 => c
  | k + 1 => duStep M k x (duCol M x c k)
def duEvery (M : Mach) (S : Nat) (c : Mach) : Nat → Mach
  | 0 => c
  | k + 1 => duCol M k (duEvery M S c k) S
def duM (M : Mach) (L S : Nat) : Mach := duAll M L (blankM S L) S
theorem duStep_ok {M c : Mach} (h : M.Ok) (hc : c.Ok) (q x : Nat) : (duStep M q x c).Ok :=
  ⟨by simp [duStep, hc.nx48], by simp [duStep, hc.ot48], isBytes_set hc.nxB _ _ (Mach.o_bd h q x), isBytes_set hc.otB _ _ (Mach.n_bd h q x), hc.Lwf, hc.Swf⟩
theorem duRow_ok {M c : Mach} (h : M.Ok) (hc : c.Ok) (q : Nat) : ∀ k, (duRow M q c k).Ok
  | 0 => hc
  | k + 1 => duStep_ok h (duRow_ok h hc q k) q k
theorem duAll_ok {M c : Mach} (h : M.Ok) (hc : c.Ok) (L : Nat) : ∀ k, (duAll M L c k).Ok
  | 0 => hc
  | k + 1 => duRow_ok h (duAll_ok h hc L k) k L
theorem duCol_ok {M c : Mach} (h : M.Ok) (hc : c.Ok) (x : Nat) : ∀ k, (duCol M x c k).Ok
  | 0 => hc
  | k + 1 => duStep_ok h (duCol_ok h hc x k) k x
theorem duEvery_ok {M c : Mach} (h : M.Ok) (hc : c.Ok) (S : Nat) : ∀ k, (duEvery M S c k).Ok
  | 0 => hc
  | k + 1 => duCol_ok h (duEvery_ok h hc S k) k S
theorem duRow_LS (M : Mach) (q : Nat) (c : Mach) : ∀ k, (duRow M q c k).L = c.L ∧ (duRow M q c k).S = c.S
  | 0 => ⟨rfl, rfl⟩
  | k + 1 => duRow_LS M q c k
theorem duAll_LS (M : Mach) (L : Nat) (c : Mach) : ∀ k, (duAll M L c k).L = c.L ∧ (duAll M L c k).S = c.S
  | 0 => ⟨rfl, rfl⟩
  | k + 1 => ⟨((duRow_LS M k (duAll M L c k) L).1).trans (duAll_LS M L c k).1, ((duRow_LS M k (duAll M L c k) L).2).trans (duAll_LS M L c k).2⟩
theorem duCol_LS (M : Mach) (x : Nat) (c : Mach) : ∀ k, (duCol M x c k).L = c.L ∧ (duCol M x c k).S = c.S
  | 0 => ⟨rfl, rfl⟩
  | k + 1 => duCol_LS M x c k
theorem duEvery_LS (M : Mach) (S : Nat) (c : Mach) : ∀ k, (duEvery M S c k).L = c.L ∧ (duEvery M S c k).S = c.S
  | 0 => ⟨rfl, rfl⟩
  | k + 1 => ⟨((duCol_LS M k (duEvery M S c k) S).1).trans (duEvery_LS M S c k).1, ((duCol_LS M k (duEvery M S c k) S).2).trans (duEvery_LS M S c k).2⟩
theorem duStep_at {M c : Mach} (hc : c.Ok) (q x : Nat) (hq : q < 3) (hx : x < 3) (y p : Nat) (hy : y < 16) (hp : p < 3) :
    (duStep M q x c).o y p = (if p = q ∧ y = x then M.n q x else c.o y p) ∧ (duStep M q x c).n y p = (if p = q ∧ y = x then M.o q x else c.n y p) := by
  have a := set_at48 c.ot hc.ot48 x q y p (by omega) hq hy hp (M.n q x)
  have b := set_at48 c.nx hc.nx48 x q y p (by omega) hq hy hp (M.o q x)
  unfold Mach.o Mach.n at *
  refine ⟨?_, ?_⟩
  · rw [show (duStep M q x c).ot = c.ot.set (x * 3 + q) (M.nx.getD (q * 3 + x) 0) from rfl, a]
    by_cases h : p = q ∧ y = x
    · rw [if_pos h, if_pos ⟨h.2, h.1⟩]
    · rw [if_neg h, if_neg (fun e => h ⟨e.2, e.1⟩)]
  · rw [show (duStep M q x c).nx = c.nx.set (x * 3 + q) (M.ot.getD (q * 3 + x) 0) from rfl, b]
    by_cases h : p = q ∧ y = x
    · rw [if_pos h, if_pos ⟨h.2, h.1⟩]
    · rw [if_neg h, if_neg (fun e => h ⟨e.2, e.1⟩)]
theorem duRow_at {M c : Mach} (h : M.Ok) (hc : c.Ok) (q : Nat) (hq : q < 3) (y p : Nat) (hy : y < 16) (hp : p < 3) : ∀ k, k ≤ 3 →
    (duRow M q c k).o y p = (if p = q ∧ y < k then M.n q y else c.o y p) ∧ (duRow M q c k).n y p = (if p = q ∧ y < k then M.o q y else c.n y p)
  | 0, _ => by simp [duRow]
  | k + 1, hk => by
    obtain ⟨a, b⟩ := duStep_at (M := M) (duRow_ok h hc q k) q k hq (by omega) y p hy hp
    obtain ⟨a', b'⟩ := duRow_at h hc q hq y p hy hp k (by omega)
    show (duStep M q k (duRow M q c k)).o y p = _ ∧ (duStep M q k (duRow M q c k)).n y p = _
    rw [a, b, a', b']
    by_cases e : p = q ∧ y = k
    · obtain ⟨rfl, rfl⟩ := e
      rw [if_pos ⟨rfl, rfl⟩, if_pos ⟨rfl, by omega⟩, if_pos ⟨rfl, rfl⟩, if_pos ⟨rfl, by omega⟩]
      exact ⟨rfl, rfl⟩
    · rw [if_neg e, if_neg e]
      by_cases e2 : p = q ∧ y < k
      · rw [if_pos e2, if_pos e2, if_pos ⟨e2.1, by omega⟩, if_pos ⟨e2.1, by omega⟩]; exact ⟨rfl, rfl⟩
      · have e3 : ¬ (p = q ∧ y < k + 1) := fun h => by
          have : y ≠ k := fun h3 => e ⟨h.1, h3⟩
          exact e2 ⟨h.1, by omega⟩
        rw [if_neg e2, if_neg e2, if_neg e3, if_neg e3]; exact ⟨rfl, rfl⟩
theorem duCol_at {M c : Mach} (h : M.Ok) (hc : c.Ok) (x : Nat) (hx : x < 3) (y p : Nat) (hy : y < 16) (hp : p < 3) : ∀ k, k ≤ 3 →
    (duCol M x c k).o y p = (if y = x ∧ p < k then M.n p x else c.o y p) ∧ (duCol M x c k).n y p = (if y = x ∧ p < k then M.o p x else c.n y p)
  | 0, _ => by simp [duCol]
  | k + 1, hk => by
    obtain ⟨a, b⟩ := duStep_at (M := M) (duCol_ok h hc x k) k x (by omega) hx y p hy hp
    obtain ⟨a', b'⟩ := duCol_at h hc x hx y p hy hp k (by omega)
    show (duStep M k x (duCol M x c k)).o y p = _ ∧ (duStep M k x (duCol M x c k)).n y p = _
    rw [a, b, a', b']
    by_cases e : p = k ∧ y = x
    · obtain ⟨rfl, rfl⟩ := e
      rw [if_pos ⟨rfl, rfl⟩, if_pos ⟨rfl, by omega⟩, if_pos ⟨rfl, rfl⟩, if_pos ⟨rfl, by omega⟩]
      exact ⟨rfl, rfl⟩
    · rw [if_neg e, if_neg e]
      by_cases e2 : y = x ∧ p < k
      · rw [if_pos e2, if_pos e2, if_pos ⟨e2.1, by omega⟩, if_pos ⟨e2.1, by omega⟩]; exact ⟨rfl, rfl⟩
      · have e3 : ¬ (y = x ∧ p < k + 1) := fun h => by
          have : p ≠ k := fun h3 => e ⟨h3, h.1⟩
          exact e2 ⟨h.1, by omega⟩
        rw [if_neg e2, if_neg e2, if_neg e3, if_neg e3]; exact ⟨rfl, rfl⟩
theorem duAll_at {M c : Mach} (h : M.Ok) (hc : c.Ok) (L : Nat) (hL : L ≤ 3) (y p : Nat) (hy : y < 16) (hp : p < 3) : ∀ k, k ≤ 3 →
    (duAll M L c k).o y p = (if p < k ∧ y < L then M.n p y else c.o y p) ∧ (duAll M L c k).n y p = (if p < k ∧ y < L then M.o p y else c.n y p)
  | 0, _ => by simp [duAll]
  | k + 1, hk => by
    obtain ⟨a, b⟩ := duRow_at h (duAll_ok h hc L k) k (by omega) y p hy hp L hL
    obtain ⟨a', b'⟩ := duAll_at h hc L hL y p hy hp k (by omega)
    show (duRow M k (duAll M L c k) L).o y p = _ ∧ (duRow M k (duAll M L c k) L).n y p = _
    rw [a, b, a', b']
    by_cases e : p = k ∧ y < L
    · obtain ⟨rfl, e2⟩ := e
      rw [if_pos ⟨rfl, e2⟩, if_pos ⟨by omega, e2⟩, if_pos ⟨rfl, e2⟩, if_pos ⟨by omega, e2⟩]
      exact ⟨rfl, rfl⟩
    · rw [if_neg e, if_neg e]
      by_cases e2 : p < k ∧ y < L
      · rw [if_pos e2, if_pos e2, if_pos ⟨by omega, e2.2⟩, if_pos ⟨by omega, e2.2⟩]; exact ⟨rfl, rfl⟩
      · have e3 : ¬ (p < k + 1 ∧ y < L) := fun h => by
          have : p ≠ k := fun h3 => e ⟨h3, h.2⟩
          exact e2 ⟨by omega, h.2⟩
        rw [if_neg e2, if_neg e2, if_neg e3, if_neg e3]; exact ⟨rfl, rfl⟩
theorem duEvery_at {M c : Mach} (h : M.Ok) (hc : c.Ok) (S : Nat) (hS : S ≤ 3) (y p : Nat) (hy : y < 16) (hp : p < 3) : ∀ k, k ≤ 3 →
    (duEvery M S c k).o y p = (if p < S ∧ y < k then M.n p y else c.o y p) ∧ (duEvery M S c k).n y p = (if p < S ∧ y < k then M.o p y else c.n y p)
  | 0, _ => by simp [duEvery]
  | k + 1, hk => by
    obtain ⟨a, b⟩ := duCol_at h (duEvery_ok h hc S k) k (by omega) y p hy hp S hS
    obtain ⟨a', b'⟩ := duEvery_at h hc S hS y p hy hp k (by omega)
    show (duCol M k (duEvery M S c k) S).o y p = _ ∧ (duCol M k (duEvery M S c k) S).n y p = _
    rw [a, b, a', b']
    by_cases e : y = k ∧ p < S
    · obtain ⟨rfl, e2⟩ := e
      rw [if_pos ⟨rfl, e2⟩, if_pos ⟨e2, by omega⟩, if_pos ⟨rfl, e2⟩, if_pos ⟨e2, by omega⟩]
      exact ⟨rfl, rfl⟩
    · rw [if_neg e, if_neg e]
      by_cases e2 : p < S ∧ y < k
      · rw [if_pos e2, if_pos e2, if_pos ⟨e2.1, by omega⟩, if_pos ⟨e2.1, by omega⟩]; exact ⟨rfl, rfl⟩
      · have e3 : ¬ (p < S ∧ y < k + 1) := fun h => by
          have : y ≠ k := fun h3 => e ⟨h3, h.1⟩
          exact e2 ⟨h.1, by omega⟩
        rw [if_neg e2, if_neg e2, if_neg e3, if_neg e3]; exact ⟨rfl, rfl⟩
theorem blankN_ok (a b : Nat) (ha : a ≤ 16) (hb : b ≤ 16) : (blankM a b).Ok :=
  ⟨by simp [blankM], by simp [blankM], by intro n hn; simp [blankM] at hn; omega, by intro n hn; simp [blankM] at hn; omega, by simp only [blankM]; omega, by simp only [blankM]; omega⟩
theorem du_same {M : Mach} (h : M.Ok) (L S : Nat) (hL : L ≤ 3) (hS : S ≤ 3) : duEvery M S (blankM S L) L = duM M L S := by
  have hb := blankN_ok S L (by omega) (by omega)
  refine mach_ext (duEvery_ok h hb S L) (duAll_ok h hb L S) ?_ ?_ fun y hy p hp => ?_
  · rw [(duEvery_LS M S _ L).1]; exact ((duAll_LS M L _ S).1).symm
  · rw [(duEvery_LS M S _ L).2]; exact ((duAll_LS M L _ S).2).symm
  · obtain ⟨a, b⟩ := duEvery_at h hb S hS y p hy hp L hL
    obtain ⟨a', b'⟩ := duAll_at h hb L hL y p hy hp S hS
    rw [a, b]
    exact ⟨a'.symm, b'.symm⟩
theorem duStep_mc {M c : Mach} (hc : c.Ok) (q x : Nat) (hb : x * 3 + q < 48) :
    mc (duStep M q x c) = ((mc c).setIfInBounds (50 + x * 3 + q) (.int .u8 (M.n q x))).setIfInBounds (2 + x * 3 + q) (.int .u8 (M.o q x)) := by
  rw [Nat.add_assoc, Nat.add_assoc, ← mc_set_ot hc.nx48 _ hb]
  rw [← mc_set_nx (M := { c with ot := c.ot.set (x * 3 + q) (M.n q x) }) hc.nx48 _ hb]
  rfl
def dualC (M : Mach) : Int := if isMach M then (if isAlpha M.S then (if revB M M.L.toNat M.S.toNat then 0 else 5) else 2) else 1
def dualR (M : Mach) : Mach := if isMach M && (isAlpha M.S && revB M M.L.toNat M.S.toNat) then duM M M.L.toNat M.S.toNat else zeroM
theorem dualR_ok {M : Mach} (h : M.Ok) : (dualR M).Ok := by
  unfold dualR
  split
  · rename_i hc
    simp only [Bool.and_eq_true] at hc
    obtain ⟨h1, h2⟩ := isMach_parts hc.1
    exact duAll_ok h (blankN_ok _ _ (by omega) (by omega)) _ _
  · exact zeroM_ok
end Go.Proofs.Ytolkfoecnmjofaa
