/- Trees of words as the model holds them: lists by words; plain data. -/
import Derived.Test.YticnpajbefflbaaTbS
import Derived.Test.YticnpajbefflbaaTrD
namespace Go.Proofs.Yticnpajbefflbaa
open Go.RowKit

/-- By words: what the place of a word says, and z for words that are not met. -/
def mapL (N : Nat) (T : List Ent) (f : Nat → Int) (z : Int) : List Int := (List.range N).map fun x => if x ∈ wds T then f ((wds T).idxOf x) else z
theorem mapL_len (N : Nat) (T : List Ent) (f : Nat → Int) (z : Int) : (mapL N T f z).length = N := by simp [mapL]
theorem mapL_nil (N : Nat) (f : Nat → Int) (z : Int) : mapL N [] f z = List.replicate N z := by simp [mapL, wds, List.map_const']
theorem mapL_at (N : Nat) (T : List Ent) (f : Nat → Int) (z : Int) (x : Nat) (hx : x < (mapL N T f z).length) : (mapL N T f z)[x] = if x ∈ wds T then f ((wds T).idxOf x) else z := by simp [mapL]
theorem mapL_add (N : Nat) (T : List Ent) (e : Ent) (f f' : Nat → Int) (z : Int) (hn : e.word ∉ wds T) (hf : ∀ i, i < T.length → f' i = f i) : mapL N (T ++ [e]) f' z = (mapL N T f z).set e.word (f' T.length) := by
  have hw : (wds T).length = T.length := by simp [wds]
  have hwa : wds (T ++ [e]) = wds T ++ [e.word] := by simp [wds]
  apply List.ext_getElem
  · simp [mapL]
  · intro i h1 h2
    rw [List.getElem_set, mapL_at, mapL_at, hwa]
    by_cases h : e.word = i
    · subst h
      rw [if_pos rfl, if_pos (by simp), List.idxOf_append, if_neg hn, List.idxOf_cons_self, Nat.zero_add, hw]
    · rw [if_neg h]
      by_cases hm : i ∈ wds T
      · rw [if_pos hm, if_pos (List.mem_append_left _ hm), List.idxOf_append, if_pos hm, hf]
        rw [← hw]
        exact List.idxOf_lt_length_of_mem hm
      · rw [if_neg hm, if_neg]
        intro h3
        rcases List.mem_append.1 h3 with h3 | h3
        · exact hm h3
        · exact h (List.mem_singleton.1 h3).symm
def distF (T : List Ent) (i : Nat) : Int := ((entAt T i).dist : Int)
def stepF (T : List Ent) (i : Nat) : Int := (entAt T i).step
def fromF (T : List Ent) (i : Nat) : Int := if i = 0 then 0 else ((entAt T (entAt T i).par).word : Int)
def distL (N : Nat) (T : List Ent) : List Int := mapL N T (distF T) (-1)
def stpL (N : Nat) (T : List Ent) : List Int := mapL N T (stepF T) 0
def fromL (N : Nat) (T : List Ent) : List Int := mapL N T (fromF T) 0
def wdsI (T : List Ent) : List Int := (wds T).map fun (x : Nat) => (x : Int)
theorem wdsI_len (T : List Ent) : (wdsI T).length = T.length := by simp [wdsI, wds]
theorem wdsI_at (T : List Ent) (i : Nat) (h : i < (wdsI T).length) : (wdsI T)[i] = ((entAt T i).word : Int) := by
  rw [wdsI_len] at h
  simp [wdsI, wds, entAt_get h]
theorem wdsI_add (T : List Ent) (e : Ent) : wdsI (T ++ [e]) = wdsI T ++ [(e.word : Int)] := by simp [wdsI, wds]
theorem distL_len (N : Nat) (T : List Ent) : (distL N T).length = N := mapL_len _ _ _ _
theorem stpL_len (N : Nat) (T : List Ent) : (stpL N T).length = N := mapL_len _ _ _ _
theorem fromL_len (N : Nat) (T : List Ent) : (fromL N T).length = N := mapL_len _ _ _ _
theorem distL_add (N : Nat) (T : List Ent) (e : Ent) (hn : e.word ∉ wds T) : distL N (T ++ [e]) = (distL N T).set e.word e.dist := by
  unfold distL
  rw [mapL_add N T e (distF T) (distF (T ++ [e])) (-1) hn (fun i hi => by unfold distF; rw [entAt_left hi])]
  unfold distF
  rw [entAt_last]
theorem stpL_add (N : Nat) (T : List Ent) (e : Ent) (hn : e.word ∉ wds T) : stpL N (T ++ [e]) = (stpL N T).set e.word e.step := by
  unfold stpL
  rw [mapL_add N T e (stepF T) (stepF (T ++ [e])) 0 hn (fun i hi => by unfold stepF; rw [entAt_left hi])]
  unfold stepF
  rw [entAt_last]
theorem fromL_add (N : Nat) (T : List Ent) (e : Ent) (hT : TOk N T) (h0 : 0 < T.length) (hp : e.par < T.length) (hn : e.word ∉ wds T) : fromL N (T ++ [e]) = (fromL N T).set e.word ((entAt T e.par).word : Nat) := by
  unfold fromL
  rw [mapL_add N T e (fromF T) (fromF (T ++ [e])) 0 hn (fun i hi => ?_)]
  · unfold fromF
    rw [if_neg (by omega), entAt_last, entAt_left hp]
  · unfold fromF
    by_cases h : i = 0
    · rw [if_pos h, if_pos h]
    · have := hT.par i (by omega) hi
      rw [if_neg h, if_neg h, entAt_left hi, entAt_left (by omega)]
theorem dist_met {N : Nat} {T : List Ent} (x : Nat) (hx : x < N) : ∃ h : x < (distL N T).length, (x ∈ wds T → 0 ≤ (distL N T)[x]) ∧ (x ∉ wds T → (distL N T)[x] = -1) := by
  refine ⟨by rw [distL_len]; exact hx, fun hm => ?_, fun hm => ?_⟩
  · unfold distL
    rw [mapL_at, if_pos hm]
    unfold distF
    omega
  · unfold distL
    rw [mapL_at, if_neg hm]
theorem idx_at {N : Nat} {T : List Ent} (h : TOk N T) (i : Nat) (hi : i < T.length) : (wds T).idxOf (entAt T i).word = i := by
  have hw : i < (wds T).length := by simpa [wds] using hi
  have : (entAt T i).word = (wds T)[i] := by simp [wds, entAt_get hi]
  rw [this]
  exact h.nodup.idxOf_getElem i hw
theorem dist_at {N : Nat} {T : List Ent} (h : TOk N T) (i : Nat) (hi : i < T.length) (hx : (entAt T i).word < (distL N T).length) : (distL N T)[(entAt T i).word] = ((entAt T i).dist : Int) := by
  have e : ∀ hx', (mapL N T (distF T) (-1))[(entAt T i).word]'hx' = ((entAt T i).dist : Int) := fun hx' => by
    rw [mapL_at, if_pos (show (entAt T i).word ∈ wds T from List.mem_map.2 ⟨_, entAt_mem hi, rfl⟩), idx_at h i hi]
    rfl
  exact e hx
theorem first_lists (N k : Nat) : distL N [⟨k, 0, 0, 0⟩] = (List.replicate N (-1)).set k 0 ∧ stpL N [⟨k, 0, 0, 0⟩] = List.replicate N 0 ∧ fromL N [⟨k, 0, 0, 0⟩] = List.replicate N 0 ∧ wdsI [⟨k, 0, 0, 0⟩] = [(k : Int)] := by
  have h0 : ∀ z : Int, (List.replicate N z).set k z = List.replicate N z := fun z => by
    apply List.ext_getElem
    · simp
    · intro i h1 h2
      simp
  refine ⟨?_, ?_, ?_, rfl⟩
  · have := mapL_add N [] ⟨k, 0, 0, 0⟩ (distF []) (distF [⟨k, 0, 0, 0⟩]) (-1) (by simp [wds]) (fun i hi => absurd hi (by simp))
    rw [mapL_nil] at this
    exact this
  · have := mapL_add N [] ⟨k, 0, 0, 0⟩ (stepF []) (stepF [⟨k, 0, 0, 0⟩]) 0 (by simp [wds]) (fun i hi => absurd hi (by simp))
    rw [mapL_nil] at this
    exact this.trans (h0 0)
  · have := mapL_add N [] ⟨k, 0, 0, 0⟩ (fromF []) (fromF [⟨k, 0, 0, 0⟩]) 0 (by simp [wds]) (fun i hi => absurd hi (by simp))
    rw [mapL_nil] at this
    exact this.trans (h0 0)
/-- The numbers of the steps. -/
theorem step_num (M : Mach) (L S n j : Nat) (hj : j < (fwd M L n S ++ bwd M L S n S).length) : (fwd M L n S ++ bwd M L S n S)[j].1 = if j < S then (j : Int) + 1 else (S : Int) - j - 1 := by
  by_cases h : j < S
  · rw [if_pos h, List.getElem_append_left (by rw [fwd_len]; exact h)]
    simp [fwd]
  · rw [if_neg h, List.getElem_append_right (by rw [fwd_len]; omega)]
    simp [bwd, fwd_len]
    omega
/-- Some of the tables stand in the list of the tables. -/
theorem tab_at (M : Mach) (L S n j : Nat) (hj : j < (fwd M L n S ++ bwd M L S n S).length) (hj' : j < (tbB M L S n S).length) : (tbB M L S n S)[j] = (fwd M L n S ++ bwd M L S n S)[j].2 := by
  simp only [tbB_all, List.getElem_map]
theorem tabs_ok {M : Mach} {L S : Nat} (hg : Good M L S) (n : Nat) : TabsOk (L ^ n) (fwd M L n S ++ bwd M L S n S) := by
  intro p hp
  have hS16 := hg.S16
  rcases List.mem_append.1 hp with h | h
  · obtain ⟨j, hj, rfl⟩ := List.mem_map.1 h
    have hj' := List.mem_range.1 hj
    refine ⟨permL_len _ _ _ _, fun x hx => ?_, by show (-16 : Int) ≤ (j : Int) + 1; omega, by show (j : Int) + 1 ≤ 16; omega⟩
    have hb := permAt_bd hg j n x hj'
    have hx' : x < (permL M L j n).length := by rw [permL_len]; exact hx
    have e : (permL M L j n).getD x 0 = permAt M L j n x := by
      simp [List.getD, permL, List.getElem?_range hx]
    show 0 ≤ (permL M L j n).getD x 0 ∧ ((permL M L j n).getD x 0).toNat < L ^ n
    rw [e]
    omega
  · obtain ⟨j, hj, rfl⟩ := List.mem_map.1 h
    have hj' := List.mem_range.1 hj
    refine ⟨permL_len _ _ _ _, fun x hx => ?_, by show (-16 : Int) ≤ -(j : Int) - 1; omega, by show -(j : Int) - 1 ≤ 16; omega⟩
    have hb := permAt_bd hg.inv j n x hj'
    have hx' : x < (permL (invM M L S) L j n).length := by rw [permL_len]; exact hx
    have e : (permL (invM M L S) L j n).getD x 0 = permAt (invM M L S) L j n x := by
      simp [List.getD, permL, List.getElem?_range hx]
    show 0 ≤ (permL (invM M L S) L j n).getD x 0 ∧ ((permL (invM M L S) L j n).getD x 0).toNat < L ^ n
    rw [e]
    omega
end Go.Proofs.Yticnpajbefflbaa
