/- Orders and cycles of portraits: the program and the model. -/
import Derived.Test.YtgeihpaealomkaaDoorCyc
namespace Go.Proofs.YtgeihpaealomkaaDoor
open Go.RowKit

theorem imgs_in (d n : Nat) (hd : d = 2 ∨ d = 3) (hn : n ≤ 4) (zs : List Int) (hP : isP d n zs = true) : inB (imgsP d n zs) := by
  intro p hp
  rw [imgsP_len] at hp ⊢
  have e : (imgsP d n zs).getD p 0 = imgS d zs (wordS d n p) := by
    simp [imgsP, imgsF, wordsL, List.getD, List.getElem?_map, List.getElem?_range hp]
  rw [e]
  obtain ⟨h1, h2⟩ := wordS_ok' d n p hd
  obtain ⟨a1, a2⟩ := actS_ok d n hd hn zs hP (wordS d n p) (by omega) h2
  have := numI_lt d _ a2
  rw [a1, h1] at this
  unfold imgS
  unfold pw at this
  omega
def oneB (d n : Int) (zs : List Int) : Bool := if codeP d n zs = 0 then decide ((cycL (imgsP d.toNat n.toNat zs)).length = 1) else false
theorem ret_bi {a b : Bool} {i j : Int} (h : a = b) (h' : i = j) : Ending.returned (.tuple #[.bool a, .int .i64 i]) = Ending.returned (.tuple #[.bool b, .int .i64 j]) := by rw [h, h']
theorem ret_jj {a b i j : Int} (h : a = b) (h' : i = j) : Ending.returned (.tuple #[.int .i64 a, .int .i64 i]) = Ending.returned (.tuple #[.int .i64 b, .int .i64 j]) := by rw [h, h']

set_option maxRecDepth 100000 in
set_option maxHeartbeats 1000000 in
theorem iIsOneCycle_calls (d n : Int) (v : Value) (zs : List Int) (w : World) (hv : SeesI w v zs) (hT : TabsAt w) :
    Calls Tryd.prog 28 #[.int .i64 d, .int .i64 n, v] w fun e w' => e = .returned (.tuple #[.bool (oneB d n zs), .int .i64 (codeP d n zs)]) ∧ Below w.heap.size w w' := by
  have hE : Blk (w.alloc (.cells #[v] 26)) w.heap.size #[v] 26 := Blk.new _ _ _
  have hbw : Below w.heap.size w (w.alloc (.cells #[v] 26)) := by (repeat (first | exact Below.refl _ _ | refine below_drew' ?_ | refine below_drewN' ?_ _ | refine below_alloc' ?_ _ | refine below_set' ?_ (by (try simp); (try omega)) _ | refine below_step ?_ (by assumption)))
  have hv2 := hv.below hbw
  obtain ⟨oa, ca, hve, _⟩ := hv.view
  subst hve
  have Hv := Lib.hid hv
  have HT := Lib.hid hT
  have HC := Lib.hid (checkPortraits_calls d n _ zs _ hv2 w.heap.size hE)
  clear hv hv2 hE hT
  by_cases hc : codeP d n zs = 0
  · obtain ⟨k1, k2, k3⟩ := codeP_zero d n zs hc
    have HR : Hid (oneB d n zs = decide ((cycL (imgsP d.toNat n.toNat zs)).length = 1)) := Lib.hid (by unfold oneB; rw [if_pos hc])
    have Hc := Lib.hid hc
    obtain ⟨m, rfl⟩ := Int.eq_ofNat_of_zero_le (a := n) (by omega)
    obtain ⟨c, rfl⟩ := Int.eq_ofNat_of_zero_le (a := d) (by omega)
    rw [Int.toNat_natCast] at *
    rw [Int.toNat_natCast] at *
    rw [hc] at HC
    have HL := Lib.hid (fun W h1 h2 => levelImages_calls c m (by omega) (by omega) zs k3 (.slice oa zs.length ca) W h1 h2)
    have Hin := Lib.hid (imgs_in c m (by omega) (by omega) zs k3)
    have Hle : Hid ((imgsP c m zs).length ≤ 100000) := Lib.hid (by rw [imgsP_len]; exact Nat.le_trans (pow_le c m (by omega) (by omega)) (by omega))
    clear k1 k2 k3 hc
    generalize imgsP c m zs = im at *
    go_enter Tryd.func28, Tryd.ntmps28
    go_wp2_with (first | (go_at_call 42; refine HC.out.mono ?_; rintro e w1 ⟨rfl, hb1⟩; have hbw1 := below_step hbw hb1) | (go_at_call 50; refine (HL.out _ (Hv.out.below hbw1) (HT.out.below hbw1)).mono ?_; rintro e w2 ⟨v1, rfl, hO2, hb2⟩; have hbw2 := below_step hbw1 hb2) | (go_at_call 59; refine (cycleLengths_calls _ im Hin.out Hle.out _ hO2.sees).mono ?_; rintro e w3 ⟨v2, rfl, hO3, hb3⟩; have hbw3 := below_step hbw2 hb3; obtain ⟨o3, c3, rfl, hq3⟩ := hO3.view; clear hq3))
    go_ret2
    exact ⟨ret_bi (by rw [HR.out, Bool.eq_iff_iff, decide_eq_true_iff]; constructor <;> intro hh <;> first | (simp at hh; omega) | (simp; omega) | omega) Hc.out.symm, hbw3⟩
  · have HR : Hid (oneB d n zs = false) := Lib.hid (by unfold oneB; rw [if_neg hc])
    have hcb : (codeP d n zs != 0) = true := by simpa using hc
    generalize codeP d n zs = cc at *
    go_enter Tryd.func28, Tryd.ntmps28
    go_wp2_with (go_at_call 42; refine HC.out.mono ?_; rintro e w1 ⟨rfl, hb1⟩)
    go_ret2
    exact ⟨ret_bi HR.out.symm rfl, below_step hbw hb1⟩

set_option maxRecDepth 100000 in
set_option maxHeartbeats 1000000 in
theorem sIsOneCycle_calls (d n : Int) (v : Value) (zs : List Int) (w : World) (hv : SeesI w v zs) :
    Calls Tryd.prog 27 #[.int .i64 d, .int .i64 n, v] w fun e w' => e = .returned (.tuple #[.bool (oneB d n zs), .int .i64 (codeP d n zs)]) ∧ Below w.heap.size w w' := by
  have hL := sees_one2 hv
  have hbw : Below w.heap.size w (w.alloc (.cells #[v] 26)) := by (repeat (first | exact Below.refl _ _ | refine below_drew' ?_ | refine below_drewN' ?_ _ | refine below_alloc' ?_ _ | refine below_set' ?_ (by (try simp); (try omega)) _ | refine below_step ?_ (by assumption)))
  have HC := Lib.hid (l03Code_calls d n _ _ (by simp) _ hL)
  rw [codeQ_one] at HC
  obtain ⟨oa, ca, hve, _⟩ := hv.view
  subst hve
  have Hv := Lib.hid hv
  clear hv hL
  by_cases hc : codeP d n zs = 0
  · obtain ⟨k1, k2, k3⟩ := codeP_zero d n zs hc
    have HR : Hid (oneB d n zs = decide ((cycL (imgsP d.toNat n.toNat zs)).length = 1)) := Lib.hid (by unfold oneB; rw [if_pos hc])
    have Hc := Lib.hid hc
    obtain ⟨m, rfl⟩ := Int.eq_ofNat_of_zero_le (a := n) (by omega)
    obtain ⟨c, rfl⟩ := Int.eq_ofNat_of_zero_le (a := d) (by omega)
    rw [Int.toNat_natCast] at *
    rw [Int.toNat_natCast] at *
    rw [hc] at HC
    have HL := Lib.hid (fun W h1 => l03Permutation_calls c m (by omega) (by omega) zs k3 (.slice oa zs.length ca) W h1)
    have Hin := Lib.hid (imgs_in c m (by omega) (by omega) zs k3)
    have Hle : Hid ((imgsP c m zs).length ≤ 100000) := Lib.hid (by rw [imgsP_len]; exact Nat.le_trans (pow_le c m (by omega) (by omega)) (by omega))
    clear k1 k2 k3 hc
    generalize imgsP c m zs = im at *
    go_enter Tryd.func27, Tryd.ntmps27
    go_wp2_with (first | (go_at_call 40; refine HC.out.mono ?_; rintro e w1 ⟨rfl, hb1⟩; have hbw1 := below_step hbw hb1) | (go_at_call 49; refine (HL.out _ (Hv.out.below hbw1)).mono ?_; rintro e w2 ⟨v1, rfl, hO2, hb2⟩; have hbw2 := below_step hbw1 hb2) | (go_at_call 57; refine (l03Cycles_calls _ im Hin.out Hle.out _ hO2.sees).mono ?_; rintro e w3 ⟨v2, rfl, hO3, hb3⟩; have hbw3 := below_step hbw2 hb3; obtain ⟨o3, c3, rfl, hq3⟩ := hO3.view; clear hq3))
    go_ret2
    exact ⟨ret_bi (by rw [HR.out, Bool.eq_iff_iff, decide_eq_true_iff]; constructor <;> intro hh <;> first | (simp at hh; omega) | (simp; omega) | omega) Hc.out.symm, hbw3⟩
  · have HR : Hid (oneB d n zs = false) := Lib.hid (by unfold oneB; rw [if_neg hc])
    have hcb : (codeP d n zs != 0) = true := by simpa using hc
    generalize codeP d n zs = cc at *
    go_enter Tryd.func27, Tryd.ntmps27
    go_wp2_with (go_at_call 40; refine HC.out.mono ?_; rintro e w1 ⟨rfl, hb1⟩)
    go_ret2
    exact ⟨ret_bi HR.out.symm rfl, below_step hbw hb1⟩
end Go.Proofs.YtgeihpaealomkaaDoor
