/- 'toMachine' and what it calls: the copy of a machine is the machine. -/
import Derived.Test.YtgeihpaealomkaaMachC
import Derived.Test.YtgeihpaealomkaaQuietK
namespace Go.Proofs.Ytgeihpaealomkaa
open Go.RowKit

/-- The first k cells of c, the rest of z. -/
def cp (c z : Array Value) (k : Nat) : Array Value := (c.toList.take k ++ z.toList.drop k).toArray
theorem cp_zero (c z : Array Value) : cp c z 0 = z := by simp [cp]
theorem cp_all (c z : Array Value) (n : Nat) (h : c.size = n) (h' : z.size = n) : cp c z n = c := by
  apply Array.ext'; simp only [cp]; rw [List.take_of_length_le (by simp; omega), List.drop_of_length_le (by simp; omega), List.append_nil]
theorem cp_size (c z : Array Value) (n k : Nat) (h : c.size = n) (h' : z.size = n) (hk : k ≤ n) : (cp c z k).size = n := by simp [cp]; omega
theorem cp_get (c z : Array Value) (n k i : Nat) (h : c.size = n) (_h' : z.size = n) (hk : k ≤ n) : (cp c z k)[i]? = if i < k then c[i]? else z[i]? := by
  simp only [cp, List.getElem?_toArray]
  by_cases h1 : i < k
  · rw [if_pos h1, List.getElem?_append_left (by simp; omega), List.getElem?_take, if_pos h1]; simp
  · rw [if_neg h1, List.getElem?_append_right (by simp; omega), List.getElem?_drop]
    have e1 : (c.toList.take k).length = k := by simp; omega
    rw [e1, show k + (i - k) = i from by omega]; simp
theorem cp_set (c z : Array Value) (n k : Nat) (h : c.size = n) (h' : z.size = n) (hk : k < n) (v : Value) (hv : c[k]? = some v) : (cp c z k).setIfInBounds k v = cp c z (k + 1) := by
  apply Array.ext_getElem?
  intro i
  rw [Array.getElem?_setIfInBounds, cp_get c z n k i h h' (by omega), cp_get c z n (k + 1) i h h' (by omega), cp_size c z n k h h' (by omega)]
  by_cases e : k = i
  · subst e; rw [if_pos rfl, if_pos hk, if_pos (by omega), hv]
  · rw [if_neg e]
    by_cases h1 : i < k
    · rw [if_pos h1, if_pos (by omega)]
    · rw [if_neg h1, if_neg (by omega)]
theorem cp_over (c z : Array Value) (n k m : Nat) (h : c.size = n) (h' : z.size = n) (hk : k + m ≤ n) : over (cp c z k) k (cut c k m) = cp c z (k + m) := by
  have hs := cp_size c z n k h h' (by omega)
  have hm : (cut c k m).size = m := size_cut _ _ _ (by omega)
  apply Array.ext_getElem?
  intro i
  rw [get_over _ _ _ (by rw [hm, hs]; omega), hm, get_cut, cp_get c z n k i h h' (by omega), cp_get c z n (k + m) i h h' (by omega)]
  by_cases h1 : i < k
  · rw [if_pos h1, if_pos h1, if_pos (by omega)]
  · rw [if_neg h1]
    by_cases h2 : i < k + m
    · rw [if_pos h2, if_pos (by omega), if_pos h2, show k + (i - k) = i from by omega]
    · rw [if_neg h2, if_neg h1, if_neg h2]

/-- All cells are bytes. -/
def byteCells (c : Array Value) : Prop := ∀ v ∈ c.toList, ∃ n, v = .int .u8 n
theorem byteCells_one {c : Array Value} (h : byteCells c) : ∀ v ∈ c.toList, v.oneCell' = true := fun v hv => by obtain ⟨n, rfl⟩ := h v hv; rfl
theorem byteCells_all {c : Array Value} (h : byteCells c) : c.all (·.oneCell') = true := Array.all_eq_true_iff_forall_mem.2 fun v hv => byteCells_one h v (by simpa using hv)
theorem byteCells_at {c : Array Value} (h : byteCells c) (i : Nat) (hi : i < c.size) : ∃ n, c[i]? = some (.int .u8 n) := by
  obtain ⟨n, hn⟩ := h c[i] (by simp)
  exact ⟨n, by rw [Array.getElem?_eq_getElem hi, hn]⟩
theorem byteCells_cut {c : Array Value} (h : byteCells c) (o n : Nat) : byteCells (cut c o n) := fun v hv => h v (by
  simp only [cut, List.toList_toArray] at hv
  exact List.mem_of_mem_drop (List.mem_of_mem_take hv))

def zeros (n : Nat) : Array Value := (List.replicate n (Value.int .u8 0)).toArray
theorem zeros_size (n : Nat) : (zeros n).size = n := by simp [zeros]
theorem mc_bytes {M : Mach} (h : M.Ok) (o : Nat) (ho : 2 ≤ o) : byteCells (cut (mc M) o 48) := fun v hv => by
  simp only [cut, List.toList_toArray] at hv
  have hv2 := List.mem_of_mem_take hv
  obtain ⟨i, hi, rfl⟩ := List.getElem_of_mem hv2
  simp only [List.length_drop, Array.length_toList] at hi
  have hs := mc_size h
  have := mc_get h (o + i)
  rw [Array.getElem?_eq_getElem (by omega), if_neg (by omega), if_neg (by omega)] at this
  simp only [List.getElem_drop, Array.getElem_toList]
  by_cases h1 : o + i < 50
  · rw [if_pos h1] at this; exact ⟨_, Option.some.inj this⟩
  · rw [if_neg h1, if_pos (by omega)] at this; exact ⟨_, Option.some.inj this⟩
theorem mc_rebuild {M : Mach} (h : M.Ok) : over (over (mc ⟨M.L, M.S, List.replicate 48 0, List.replicate 48 0⟩) 2 (cut (mc M) 2 48)) 50 (cut (mc M) 50 48) = mc M := by
  have hs := mc_size h
  have hz : (⟨M.L, M.S, List.replicate 48 0, List.replicate 48 0⟩ : Mach).Ok := ⟨by simp, by simp, fun n hn => by rw [List.mem_replicate] at hn; omega, fun n hn => by rw [List.mem_replicate] at hn; omega, h.Lwf, h.Swf⟩
  have hzs := mc_size hz
  have c2 : (cut (mc M) 2 48).size = 48 := size_cut _ _ _ (by omega)
  have c50 : (cut (mc M) 50 48).size = 48 := size_cut _ _ _ (by omega)
  have ho := size_over (mc ⟨M.L, M.S, List.replicate 48 0, List.replicate 48 0⟩) 2 (cut (mc M) 2 48) (by omega)
  apply Array.ext_getElem?
  intro i
  rw [get_over _ _ _ (by omega), get_over _ _ _ (by omega), c2, c50, get_cut, get_cut]
  by_cases h1 : i < 50
  · rw [if_pos h1]
    by_cases h2 : i < 2
    · rw [if_pos h2, mc_get hz, mc_get h]
      by_cases h0 : i = 0
      · simp only [h0, if_true]
      · have : i = 1 := by omega
        subst this; simp
    · rw [if_neg h2, if_pos (by omega), if_pos (by omega), show 2 + (i - 2) = i from by omega]
  · rw [if_neg h1]
    by_cases h3 : i < 98
    · rw [if_pos (by omega), if_pos (by omega), show 50 + (i - 50) = i from by omega]
    · rw [if_neg (by omega), if_neg (by omega), if_neg (by omega), Array.getElem?_eq_none (by omega), Array.getElem?_eq_none (by omega)]

end Go.Proofs.Ytgeihpaealomkaa
