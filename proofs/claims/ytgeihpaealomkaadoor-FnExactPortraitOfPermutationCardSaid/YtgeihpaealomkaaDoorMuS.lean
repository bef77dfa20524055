/- Lists over the words below a depth; the model's product of portraits. -/
import Derived.Test.YtgeihpaealomkaaDoorPm
import Derived.Test.YtgeihpaealomkaaDoorLvS
namespace Go.Proofs.YtgeihpaealomkaaDoor
open Go.RowKit

def upB (f : ByteArray → Int) (d k j : Nat) : List Int := (wordsB d k ++ (wordsL d k).take j).map f
def allB (f : ByteArray → Int) (d n : Nat) : List Int := (wordsB d n).map f
theorem upB_next (f : ByteArray → Int) (d k j : Nat) (hj : j < d ^ k) : upB f d k (j + 1) = upB f d k j ++ [f (wordS d k j)] := by
  unfold upB
  rw [wordsL_next d k j hj]; simp
theorem upB_row (f : ByteArray → Int) (d k : Nat) : upB f d k (d ^ k) = upB f d (k + 1) 0 := by
  unfold upB
  rw [wordsB_next, List.take_of_length_le (by rw [wordsL_len]; exact Nat.le_refl _)]; simp
theorem upB_all (f : ByteArray → Int) (d n : Nat) : upB f d n 0 = allB f d n := by simp [upB, allB]
theorem upB_start (f : ByteArray → Int) (d : Nat) : upB f d 0 0 = [] := by simp [upB, wordsB]
theorem wordsB_len (d : Nat) (hd : d ≤ 3) : ∀ n, n ≤ 5 → (wordsB d n).length ≤ 243 * n
  | 0, _ => by simp [wordsB]
  | n + 1, h => by
    have := wordsB_len d hd n (by omega)
    have := pow_le d n hd (by omega)
    rw [wordsB_next, List.length_append, wordsL_len]; omega
theorem upB_len (f : ByteArray → Int) (d k j : Nat) (hd : d ≤ 3) (hk : k ≤ 4) : (upB f d k j).length ≤ 1215 := by
  have h1 := wordsB_len d hd k (by omega)
  have h2 := pow_le d k hd (by omega)
  unfold upB
  rw [List.length_map, List.length_append, List.length_take, wordsL_len]; omega
theorem allB_len (f : ByteArray → Int) (d n : Nat) (hd : d ≤ 3) (hn : n ≤ 4) : (allB f d n).length ≤ 1215 := by
  rw [← upB_all]; exact upB_len f d n 0 hd hn

theorem mu_ok (d n : Nat) (hd : d = 2 ∨ d = 3) (hn : n ≤ 4) (xs ys : List Int) (hPa : isP d n xs = true) (hPb : isP d n ys = true) (k j : Nat) (hk : k < n) :
    (wordS d k j).data.toList.length < n ∧ lettersL d (wordS d k j).data.toList = true ∧ (actS d xs (wordS d k j)).data.toList.length < n ∧ lettersL d (actS d xs (wordS d k j)).data.toList = true ∧ kAt d xs (wordS d k j).data.toList < cN d ∧ kAt d ys (actS d xs (wordS d k j)).data.toList < cN d := by
  obtain ⟨w1, w2⟩ := wordS_ok' d k j hd
  obtain ⟨a1, a2⟩ := actS_ok d n hd hn xs hPa (wordS d k j) (by omega) w2
  obtain ⟨_, _, _, _, ka⟩ := kAt_ok d n xs (wordS d k j).data.toList hPa (by omega) w2 (by omega) hn
  obtain ⟨_, _, _, _, kb⟩ := kAt_ok d n ys (actS d xs (wordS d k j)).data.toList hPb (by omega) a2 (by omega) hn
  exact ⟨by omega, w2, by omega, a2, ka, kb⟩
/-- A product's entry. -/
def muV (d : Nat) (xs ys : List Int) (s : ByteArray) : Int := (mulN d (kAt d xs s.data.toList) (kAt d ys (actS d xs s).data.toList) : Nat)

set_option maxRecDepth 100000 in
set_option maxHeartbeats 2000000 in
theorem l03Product_calls (d n : Nat) (hd : d = 2 ∨ d = 3) (hn : n ≤ 4) (xs ys : List Int) (hPa : isP d n xs = true) (hPb : isP d n ys = true) (va vb : Value) (w : World) (hva : SeesI w va xs) (hvb : SeesI w vb ys) :
    Calls Tryd.prog 41 #[.int .i64 d, .int .i64 n, va, vb] w fun e w' => ∃ v1, e = .returned v1 ∧ OwnI w' w.heap.size v1 (allB (muV d xs ys) d n) ∧ Below w.heap.size w w' := by
  have hd3 : d ≤ 3 := by omega
  obtain ⟨oa, ca, hve, _⟩ := hva.view
  subst hve
  obtain ⟨ob, cb, hve, _⟩ := hvb.view
  subst hve
  have Hva := Lib.hid hva
  have Hvb := Lib.hid hvb
  have HF := Lib.hid (fun k j hk => mu_ok d n hd hn xs ys hPa hPb k j hk)
  have F1' := Lib.hid (fun s hs hl W h => l03At_calls d n hd hn xs hPa (.slice oa xs.length ca) s hs hl W h)
  have F2' := Lib.hid (fun s hs hl W h => l03Act_calls d n hd hn xs hPa (.slice oa xs.length ca) s hs hl W h)
  have F3' := Lib.hid (fun s hs hl W h => l03At_calls d n hd hn ys hPb (.slice ob ys.length cb) s hs hl W h)
  have HPw := Lib.hid (fun k (hk : k ≤ 4) W => l01Power_calls d k hd3 (by omega) W)
  have HW := Lib.hid (fun k (hk : k ≤ 4) j (hj : j < d ^ k) (W : World) => by
    have := pow_le d k hd3 (by omega)
    exact l01WordOf_calls d hd k (k : Int) (j : Nat) W (by omega) (by omega) (by omega) (by omega) (by omega))
  have HU := Lib.hid (fun k j (hj : j < d ^ k) => upB_next (muV d xs ys) d k j hj)
  have HV : Hid (∀ x, muV d xs ys x = (mulN d (kAt d xs x.data.toList) (kAt d ys (actS d xs x).data.toList) : Nat)) := Lib.hid (fun _ => rfl)
  have HR := Lib.hid (upB_row (muV d xs ys) d)
  have HE := Lib.hid (upB_all (muV d xs ys) d n)
  have HLn := Lib.hid (fun k j (hk : k ≤ 4) => upB_len (muV d xs ys) d k j hd3 hk)
  have Hpl := Lib.hid (fun k (hk : k ≤ 4) => pow_le d k hd3 (by omega))
  have hO0 : OwnI (w.alloc (.cells #[] 2)) w.heap.size (.slice (some ⟨w.heap.size, 0, none⟩) 0 0) (upB (muV d xs ys) d 0 0) := by rw [upB_start]; exact OwnI.empty w _ 0 #[] (Nat.le_refl _) (by unfold maxLen; omega) rfl
  have hbw0 : Below w.heap.size w (w.alloc (.cells #[] 2)) := by (repeat (first | exact Below.refl _ _ | refine below_drew' ?_ | refine below_drewN' ?_ _ | refine below_alloc' ?_ _ | refine below_set' ?_ (by (try simp); (try omega)) _ | refine below_step ?_ (by assumption)))
  clear hva hvb hPa hPb
  generalize upB (muV d xs ys) d = U at *
  generalize muV d xs ys = f at *
  go_enter Tryd.func41, Tryd.ntmps41
  go_wp2_with fail
  go_loopw [9, 10] (fun o i wr => ∃ k : Nat, k ≤ n ∧ i = .int .i64 k ∧ OwnI wr w.heap.size o (U k 0) ∧ Below w.heap.size w wr) (fun _ i _ => n - (intOf i).toNat)
  case atStart => exact ⟨0, by omega, rfl, hO0, hbw0⟩
  case round =>
    clear hO0 hbw0
    obtain ⟨k, hk, rfl, hO, hbw⟩ := hrel
    by_cases hlt : k < n
    · have hki : (k : Int) < (n : Int) := by omega
      have hk4 : k ≤ 4 := by omega
      have HPk := Lib.hid (HPw.out k hk4)
      have HWk := Lib.hid (HW.out k hk4)
      have HFk := Lib.hid (fun j => HF.out k j hlt)
      clear HF
      have HUk := Lib.hid (HU.out k)
      have HRk := Lib.hid (HR.out k)
      have HLk := Lib.hid (fun j => HLn.out k j hk4)
      have hpl := Hpl.out k hk4
      rw [show pw d k = ((d ^ k : Nat) : Int) from rfl] at HPk
      clear HPw HW HU HR HLn Hpl HE
      generalize d ^ k = N at *
      go_wp2
      go_loopw [9, 11] (fun o i wx => ∃ j : Nat, j ≤ N ∧ i = .int .i64 j ∧ OwnI wx w.heap.size o (U k j) ∧ Below w.heap.size w wx) (fun _ i _ => N - (intOf i).toNat)
      case atStart => exact ⟨0, by omega, rfl, hO, hbw⟩
      case round =>
        clear hO hbw
        obtain ⟨j, hj, rfl, hO, hbw⟩ := hrel
        by_cases hjl : j < N
        · have hji : (j : Int) < (N : Int) := by omega
          have HWj := Lib.hid (HWk.out j hjl)
          rw [Int.toNat_natCast] at HWj
          have hw : (⟨(wordOf d k j).toArray⟩ : ByteArray) = wordS d k j := rfl
          rw [hw] at HWj
          obtain ⟨f1, f2, f3, f4, f5, f6⟩ := HFk.out j
          have F1 := Lib.hid (F1'.out _ f1 f2)
          have F2 := Lib.hid (F2'.out _ (Nat.le_of_lt f1) f2)
          have F3 := Lib.hid (F3'.out _ f3 f4)
          have F4 := Lib.hid (fun W => l03Then_calls d _ _ hd f5 f6 W)
          have Hn := Lib.hid (HUk.out j hjl)
          have Hl := Lib.hid (HLk.out j)
          rw [HV.out] at Hn
          clear f1 f2 f3 f4 f5 f6 HWk HFk HUk HLk hw HV F1' F2' F3'
          generalize wordS d k j = x at *
          generalize actS d xs x = y at *
          generalize kAt d xs x.data.toList = ka at *
          generalize kAt d ys y.data.toList = kb at *
          generalize mulN d ka kb = z at *
          have T1 := Lib.hid trivial
          go_wp2_with (first | (go_at_call 61; refine (HPk.out _).mono ?_; rintro e w' ⟨rfl, rfl⟩) | (go_at_call 63; refine (HWj.out _).mono ?_; rintro e w2 ⟨rfl, hb2⟩; have hO2 := hO.below hb2; have hbw2 := below_step hbw hb2) | (go_at_call 74; first | (clear T1; refine (F1.out _ (Hva.out.below hbw2)).mono ?_; rintro e w' ⟨rfl, rfl⟩) | (refine (F3.out _ (Hvb.out.below hbw3)).mono ?_; rintro e w' ⟨rfl, rfl⟩)) | (go_at_call 75; refine (F2.out _ (Hva.out.below hbw2)).mono ?_; rintro e w3 ⟨rfl, hb3⟩; have hO3 := hO2.below hb3; have hbw3 := below_step hbw2 hb3) | (go_at_call 73; refine (F4.out _).mono ?_; rintro e w4 ⟨rfl, hb4⟩; have hO4 := hO3.below hb4; have hbw4 := below_step hbw3 hb4) | (at_builtin; refine wpList_push_int rfl (.tmp 30) (.tmp 44) rfl w.heap.size _ (U k j) rfl (hO4.below (Below.alloc (Below.refl _ _) (Nat.le_refl _) (.cells #[.int .i64 (z : Nat)] 2))) w4.heap.size 1 (z : Nat) rfl (Blk.new w4 _ _) (by have := Hl.out; omega) (by have := hbw4.size; simp; omega) ?_; intro v1 w5 hO5 hb5; have hbw5 := (hbw4.alloc hbw4.size (.cells #[.int .i64 (z : Nat)] 2)).trans hb5))
          rw [← Hn.out] at hO5
          go_roundw
          case rel => exact ⟨j + 1, by omega, by go_num, hO5, hbw5⟩
          case measure => simp [intOf] <;> omega
        · obtain rfl : j = N := by omega
          go_wp2_with (go_at_call 61; refine (HPk.out _).mono ?_; rintro e w' ⟨rfl, rfl⟩)
          rw [HRk.out] at hO
          go_roundw
          case rel => exact ⟨k + 1, by omega, by go_num, hO, hbw⟩
          case measure => simp [intOf] <;> omega
    · obtain rfl : k = n := by omega
      go_wp2
      go_ret
      exact ⟨_, rfl, by rw [← HE.out]; exact hO, hbw⟩
end Go.Proofs.YtgeihpaealomkaaDoor
