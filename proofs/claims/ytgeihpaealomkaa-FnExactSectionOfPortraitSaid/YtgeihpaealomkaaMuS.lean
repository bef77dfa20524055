/- Lists over the words below a depth; the model's product of portraits. -/
import Derived.Test.YtgeihpaealomkaaPm
import Derived.Test.YtgeihpaealomkaaLvS
namespace Go.Proofs.Ytgeihpaealomkaa
open Go.RowKit

def upB (f : ByteArray → Int) (d k j : Nat) : List Int := (wordsB d k ++ (wordsL d k).take j).map f
def allB (f : ByteArray → Int) (d n : Nat) : List Int := (wordsB d n).map f
theorem upB_next (f : ByteArray → Int) (d k j : Nat) (hj : j < d ^ k) : upB f d k (j + 1) = upB f d k j ++ [f (wordS d k j)] := by
  unfold upB
  rw [wordsL_next d k j hj]; simp
theorem upB_row (f : ByteArray → Int) (d k : Nat) : upB f d k (d ^ k) = upB f d (k + 1) 0 := by
  unfold upB
  rw [wordsB_next, List.take_of_length_le (by rw [wordsL_len]; exact Nat.le_refl _)]; simp
theorem upB_all (f : ByteArray → Int) (d n : Nat) : upB f d n 0 = allB f d n := by simp [upB, allB]
theorem upB_start (f : ByteArray → Int) (d : Nat) : upB f d 0 0 = [] := by simp [upB, wordsB]
theorem wordsB_len (d : Nat) (hd : d ≤ 3) : ∀ n, n ≤ 5 → (wordsB d n).length ≤ 243 * n
  | 0, _ => by simp [wordsB]
  | n + 1, h => by
    have := wordsB_len d hd n (by omega)
    have := pow_le d n hd (by omega)
    rw [wordsB_next, List.length_append, wordsL_len]; omega
theorem upB_len (f : ByteArray → Int) (d k j : Nat) (hd : d ≤ 3) (hk : k ≤ 4) : (upB f d k j).length ≤ 1215 := by
  have h1 := wordsB_len d hd k (by omega)
  have h2 := pow_le d k hd (by omega)
  unfold upB
  rw [List.length_map, List.length_append, List.length_take, wordsL_len]; omega
theorem allB_len (f : ByteArray → Int) (d n : Nat) (hd : d ≤ 3) (hn : n ≤ 4) : (allB f d n).length ≤ 1215 := by
  rw [← upB_all]; exact upB_len f d n 0 hd hn

theorem mu_ok (d n : Nat) (hd : d = 2 ∨ d = 3) (hn : n ≤ 4) (xs ys : List Int) (hPa : isP d n xs = true) (hPb : isP d n ys = true) (k j : Nat) (hk : k < n) :
    (wordS d k j).data.toList.length < n ∧ lettersL d (wordS d k j).data.toList = true ∧ (actS d xs (wordS d k j)).data.toList.length < n ∧ lettersL d (actS d xs (wordS d k j)).data.toList = true ∧ kAt d xs (wordS d k j).data.toList < cN d ∧ kAt d ys (actS d xs (wordS d k j)).data.toList < cN d := by
  obtain ⟨w1, w2⟩ := wordS_ok' d k j hd
  obtain ⟨a1, a2⟩ := actS_ok d n hd hn xs hPa (wordS d k j) (by omega) w2
  obtain ⟨_, _, _, _, ka⟩ := kAt_ok d n xs (wordS d k j).data.toList hPa (by omega) w2 (by omega) hn
  obtain ⟨_, _, _, _, kb⟩ := kAt_ok d n ys (actS d xs (wordS d k j)).data.toList hPb (by omega) a2 (by omega) hn
  exact ⟨by omega, w2, by omega, a2, ka, kb⟩
/-- A product's entry. -/
def muV (d : Nat) (xs ys : List Int) (s : ByteArray) : Int := (mulN d (kAt d xs s.data.toList) (kAt d ys (actS d xs s).data.toList) : Nat)

end Go.Proofs.Ytgeihpaealomkaa
