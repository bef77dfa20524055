/- Machines as plain data, and the cells in which they lie. What a machine's entries are good for. -/
import Derived.Test.YtliohokcjgcmhaaBase
namespace Go.Proofs.Ytliohokcjgcmhaa
open Go.RowKit

structure Mach where
  L : Int
  S : Int
  nx : List Int
  ot : List Int
  deriving DecidableEq

/-- The cells of a machine: two numbers, 48 bytes, 48 bytes. -/
def mc (M : Mach) : Array Value := (Value.int .i64 M.L :: Value.int .i64 M.S :: (M.nx.map (Value.int .u8) ++ M.ot.map (Value.int .u8))).toArray

def isBytes (l : List Int) : Prop := ∀ n ∈ l, 0 ≤ n ∧ n ≤ 255
structure Mach.Ok (M : Mach) : Prop where
  nx48 : M.nx.length = 48
  ot48 : M.ot.length = 48
  nxB : isBytes M.nx
  otB : isBytes M.ot
  Lwf : -9223372036854775808 ≤ M.L ∧ M.L ≤ 9223372036854775807
  Swf : -9223372036854775808 ≤ M.S ∧ M.S ≤ 9223372036854775807

/-- The entries of the state q and the letter x. -/
def Mach.n (M : Mach) (q x : Nat) : Int := M.nx.getD (q * 3 + x) 0
def Mach.o (M : Mach) (q x : Nat) : Int := M.ot.getD (q * 3 + x) 0

theorem getD_bytes {l : List Int} (h : isBytes l) (i : Nat) : 0 ≤ l.getD i 0 ∧ l.getD i 0 ≤ 255 := by
  by_cases hi : i < l.length
  · rw [List.getD, List.getElem?_eq_getElem hi]; exact h _ (List.getElem_mem hi)
  · rw [List.getD, List.getElem?_eq_none (by omega)]; simp
theorem Mach.n_bd {M : Mach} (h : M.Ok) (q x : Nat) : 0 ≤ M.n q x ∧ M.n q x ≤ 255 := getD_bytes h.nxB _
theorem Mach.o_bd {M : Mach} (h : M.Ok) (q x : Nat) : 0 ≤ M.o q x ∧ M.o q x ≤ 255 := getD_bytes h.otB _

theorem mc_size {M : Mach} (h : M.Ok) : (mc M).size = 98 := by simp [mc, h.nx48, h.ot48]
theorem mc_L (M : Mach) : (mc M)[0]? = some (.int .i64 M.L) := by simp [mc]
theorem mc_S (M : Mach) : (mc M)[1]? = some (.int .i64 M.S) := by simp [mc]
theorem mc_nx {M : Mach} (h : M.Ok) (i : Nat) (hi : i < 48) : (mc M)[2 + i]? = some (.int .u8 (M.nx.getD i 0)) := by
  have h1 := h.nx48
  simp only [mc, List.getElem?_toArray]
  rw [show 2 + i = i + 1 + 1 from by omega, List.getElem?_cons_succ, List.getElem?_cons_succ, List.getElem?_append_left (by simp; omega), List.getElem?_map, List.getElem?_eq_getElem (by omega)]
  simp [List.getD, List.getElem?_eq_getElem (show i < M.nx.length by omega)]
theorem mc_ot {M : Mach} (h : M.Ok) (i : Nat) (hi : i < 48) : (mc M)[50 + i]? = some (.int .u8 (M.ot.getD i 0)) := by
  have h1 := h.nx48
  have h2 := h.ot48
  simp only [mc, List.getElem?_toArray]
  rw [show 50 + i = (48 + i) + 1 + 1 from by omega, List.getElem?_cons_succ, List.getElem?_cons_succ, List.getElem?_append_right (by simp; omega), List.getElem?_map]
  simp only [List.length_map, h1, Nat.add_sub_cancel_left]
  rw [List.getElem?_eq_getElem (by omega)]
  simp [List.getD, List.getElem?_eq_getElem (show i < M.ot.length by omega)]
theorem mc_n {M : Mach} (h : M.Ok) (q x : Nat) (hq : q < 16) (hx : x < 3) : (mc M)[2 + q * 3 + x]? = some (.int .u8 (M.n q x)) := by
  rw [show 2 + q * 3 + x = 2 + (q * 3 + x) from by omega, mc_nx h _ (by omega)]; rfl
theorem mc_o {M : Mach} (h : M.Ok) (q x : Nat) (hq : q < 16) (hx : x < 3) : (mc M)[50 + q * 3 + x]? = some (.int .u8 (M.o q x)) := by
  rw [show 50 + q * 3 + x = 50 + (q * 3 + x) from by omega, mc_ot h _ (by omega)]; rfl

/-- The machine of zeros. -/
def zeroM : Mach := ⟨0, 0, List.replicate 48 0, List.replicate 48 0⟩
theorem zeroM_ok : zeroM.Ok := ⟨rfl, rfl, by intro n hn; simp [zeroM] at hn; omega, by intro n hn; simp [zeroM] at hn; omega, by simp [zeroM], by simp [zeroM]⟩

/-! ### What it is to be a machine -/
def seenB (M : Mach) (q k : Nat) (v : Int) : Bool := (List.range k).any fun x => decide (M.o q x = v)
def cellOk (M : Mach) (L S q k : Nat) : Bool := decide (M.n q k < S) && (decide (M.o q k < L) && !seenB M q k (M.o q k))
def rowUpTo (M : Mach) (L S q k : Nat) : Bool := (List.range k).all (cellOk M L S q)
theorem seenB_succ (M : Mach) (q k : Nat) (v : Int) : seenB M q (k + 1) v = (seenB M q k v || decide (M.o q k = v)) := by
  simp [seenB, List.range_succ]
theorem rowUpTo_succ (M : Mach) (L S q k : Nat) : rowUpTo M L S q (k + 1) = (rowUpTo M L S q k && cellOk M L S q k) := by
  simp [rowUpTo, List.range_succ]
theorem rowUpTo_zero (M : Mach) (L S q : Nat) : rowUpTo M L S q 0 = true := rfl
theorem rowUpTo_bad {M : Mach} {L S q k m : Nat} (hk : k < m) (h : cellOk M L S q k = false) : rowUpTo M L S q m = false := by
  unfold rowUpTo; rw [List.all_eq_false]; exact ⟨k, by simpa using hk, by simp [h]⟩
theorem rowUpTo_at {M : Mach} {L S q k m : Nat} (hk : k < m) (h : rowUpTo M L S q m = true) : cellOk M L S q k = true :=
  (List.all_eq_true.1 h) k (by simpa using hk)

def cellAll (M : Mach) (L S q x : Nat) : Bool := if q < S ∧ x < L then cellOk M L S q x else decide (M.n q x = 0 ∧ M.o q x = 0)
def rowAll (M : Mach) (L S q k : Nat) : Bool := (List.range k).all (cellAll M L S q)
def machUpTo (M : Mach) (L S m : Nat) : Bool := (List.range m).all fun q => rowAll M L S q 3
theorem rowAll_succ (M : Mach) (L S q k : Nat) : rowAll M L S q (k + 1) = (rowAll M L S q k && cellAll M L S q k) := by
  simp [rowAll, List.range_succ]
theorem machUpTo_succ (M : Mach) (L S m : Nat) : machUpTo M L S (m + 1) = (machUpTo M L S m && rowAll M L S m 3) := by
  simp [machUpTo, List.range_succ]
theorem rowAll_bad {M : Mach} {L S q k m : Nat} (hk : k < m) (h : cellAll M L S q k = false) : rowAll M L S q m = false := by
  unfold rowAll; rw [List.all_eq_false]; exact ⟨k, by simpa using hk, by simp [h]⟩
theorem machUpTo_bad {M : Mach} {L S q k m : Nat} (hq : q < m) (hk : k < 3) (h : cellAll M L S q k = false) : machUpTo M L S m = false := by
  unfold machUpTo; rw [List.all_eq_false]; exact ⟨q, by simpa using hq, by simp [rowAll_bad hk h]⟩
/-- Is it a machine? -/
def isMach (M : Mach) : Bool := (decide (2 ≤ M.L ∧ M.L ≤ 3) && decide (1 ≤ M.S ∧ M.S ≤ 16)) && machUpTo M M.L.toNat M.S.toNat 16
end Go.Proofs.Ytliohokcjgcmhaa

namespace Go.Proofs.Ytliohokcjgcmhaa
open Go.RowKit

/-- What a machine's entries are good for. -/
structure Good (M : Mach) (L S : Nat) : Prop where
  ok : M.Ok
  hL : M.L = L
  hS : M.S = S
  L2 : 2 ≤ L
  L3 : L ≤ 3
  S1 : 1 ≤ S
  S16 : S ≤ 16
  all : machUpTo M L S 16 = true
theorem Good.of {M : Mach} (hok : M.Ok) (h : isMach M = true) : ∃ L S, Good M L S := by
  unfold isMach at h
  simp only [Bool.and_eq_true, decide_eq_true_eq] at h
  obtain ⟨⟨hL, hS⟩, ha⟩ := h
  exact ⟨M.L.toNat, M.S.toNat, hok, by omega, by omega, by omega, by omega, by omega, by omega, ha⟩
theorem Good.isMach {M : Mach} {L S : Nat} (h : Good M L S) : isMach M = true := by
  have h1 := h.hL; have h2 := h.hS; have h3 := h.L2; have h4 := h.L3; have h5 := h.S1; have h6 := h.S16
  unfold Go.Proofs.Ytliohokcjgcmhaa.isMach
  simp only [Bool.and_eq_true, decide_eq_true_eq]
  refine ⟨⟨by omega, by omega⟩, ?_⟩
  rw [h1, h2]; exact h.all
theorem Good.cell {M : Mach} {L S : Nat} (h : Good M L S) (q x : Nat) (hq : q < S) (hx : x < L) : cellOk M L S q x = true := by
  have h1 := (List.all_eq_true.1 h.all) q (by have := h.S16; simp; omega)
  have h2 := (List.all_eq_true.1 h1) x (by have := h.L3; simp; omega)
  unfold cellAll at h2
  rwa [if_pos ⟨hq, hx⟩] at h2
theorem Good.n_lt {M : Mach} {L S : Nat} (h : Good M L S) (q x : Nat) (hq : q < S) (hx : x < L) : 0 ≤ M.n q x ∧ M.n q x < S := by
  have := h.cell q x hq hx
  simp only [cellOk, Bool.and_eq_true, decide_eq_true_eq] at this
  exact ⟨(Mach.n_bd h.ok q x).1, this.1⟩
theorem Good.o_lt {M : Mach} {L S : Nat} (h : Good M L S) (q x : Nat) (hq : q < S) (hx : x < L) : 0 ≤ M.o q x ∧ M.o q x < L := by
  have := h.cell q x hq hx
  simp only [cellOk, Bool.and_eq_true, decide_eq_true_eq] at this
  exact ⟨(Mach.o_bd h.ok q x).1, this.2.1⟩
end Go.Proofs.Ytliohokcjgcmhaa
