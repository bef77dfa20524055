/- 'levelImages': the program. -/
import Derived.Test.YtgeihpaealomkaaPcF
import Derived.Test.YtgeihpaealomkaaRgA
import Derived.Test.YtgeihpaealomkaaRgL
import Derived.Test.YtgeihpaealomkaaLevM
namespace Go.Proofs.Ytgeihpaealomkaa
open Go.RowKit Go.Shelf
attribute [local go_sem] Oper.semAt_some

/-- The number of the word to which a word is led. -/
def imgS (d : Nat) (zs : List Int) (s : ByteArray) : Int := numI d (actS d zs s).data.toList
def imgsF (d : Nat) (zs : List Int) (pre : List ByteArray) : List Int := pre.map (imgS d zs)
def imgsP (d n : Nat) (zs : List Int) : List Int := imgsF d zs (wordsL d n)
theorem imgsP_len (d n : Nat) (zs : List Int) : (imgsP d n zs).length = d ^ n := by simp [imgsP, imgsF, wordsL_len]
theorem mem_wordsL (d n : Nat) (hd : d = 2 ∨ d = 3) (x : ByteArray) (h : x ∈ wordsL d n) : x.data.toList.length = n ∧ lettersL d x.data.toList = true := by
  unfold wordsL at h
  obtain ⟨k, _, rfl⟩ := List.mem_map.1 h
  have e : (wordS d n k).data.toList = wordOf d n k := by simp [wordS]
  rw [e]
  exact ⟨length_wordOf d n k, lettersL_wordOf d hd n k⟩
theorem wordS_ok' (d n k : Nat) (hd : d = 2 ∨ d = 3) : (wordS d n k).data.toList.length = n ∧ lettersL d (wordS d n k).data.toList = true := by
  have e : (wordS d n k).data.toList = wordOf d n k := by simp [wordS]
  rw [e]
  exact ⟨length_wordOf d n k, lettersL_wordOf d hd n k⟩
/-- What a portrait makes of a word is a word. -/
theorem actS_ok (d n : Nat) (hd : d = 2 ∨ d = 3) (hn : n ≤ 4) (zs : List Int) (hP : isP d n zs = true) (s : ByteArray) (hs : s.data.toList.length ≤ n) (hl : lettersL d s.data.toList = true) :
    (actS d zs s).data.toList.length = s.data.toList.length ∧ lettersL d (actS d zs s).data.toList = true := by
  have e : (actS d zs s).data.toList = actP d zs s.data.toList s.data.toList.length := by simp [actS]
  rw [e]
  refine ⟨actP_len _ _ _ _, ?_⟩
  unfold lettersL
  rw [List.all_eq_true]
  intro c hc
  unfold actP at hc
  obtain ⟨i, hi, rfl⟩ := List.mem_map.1 hc
  have hi' : i < s.data.toList.length := by simpa using hi
  obtain ⟨h48, h51⟩ := lettersL_at hl i hi'
  obtain ⟨p, _, _, _, hk⟩ := kAt_ok d n zs (s.data.toList.take i) hP (by rw [List.length_take]; omega) (lettersL_pre d _ i hl) (by omega) hn
  have hrow : ∀ x, x < d → 0 ≤ (pRow d (kAt d zs (s.data.toList.take i))).getD x 0 ∧ (pRow d (kAt d zs (s.data.toList.take i))).getD x 0 < d := by
    have h2 : ∀ k, k < 2 → ∀ x, x < 2 → 0 ≤ (pRow 2 k).getD x 0 ∧ (pRow 2 k).getD x 0 < 2 := by decide
    have h3 : ∀ k, k < 6 → ∀ x, x < 3 → 0 ≤ (pRow 3 k).getD x 0 ∧ (pRow 3 k).getD x 0 < 3 := by decide
    rcases hd with rfl | rfl
    · exact h2 _ hk
    · exact h3 _ hk
  have hx := hrow ((s.data.toList.getD i 0).toNat - 48) (by
    rw [show s.data.toList.getD i 0 = s.data.toList[i] from by simp [List.getD, List.getElem?_eq_getElem hi']]
    omega)
  have hpt : (ptL d zs s.data.toList i : Int) < d := by unfold ptL; omega
  have hd3 : d ≤ 3 := by omega
  have hdig := dig_toNat (ptL d zs s.data.toList i : Int) (by omega) (by omega)
  rw [letterB_iff]
  omega

theorem OwnI.base_le' {w : World} {base base' : Nat} {v : Value} {zs : List Int} (h : OwnI w base v zs) (hb : base' ≤ base) : OwnI w base' v zs := by
  refine ⟨h.1, ?_⟩
  rcases h.2 with h2 | ⟨g, cap, cur, hv', hg, r⟩
  · exact Or.inl h2
  · exact Or.inr ⟨g, cap, cur, hv', Nat.le_trans hb hg, r⟩

end Go.Proofs.Ytgeihpaealomkaa
