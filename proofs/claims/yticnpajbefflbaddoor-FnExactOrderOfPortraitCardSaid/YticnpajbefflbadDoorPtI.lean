/- 'IsPortrait': the program. -/
import Derived.Test.YticnpajbefflbadDoorPtA
namespace Go.Proofs.YticnpajbefflbadDoor
open Go.RowKit

def isPt (d n : Int) (zs : List Int) : Bool := isAlpha d && (decide (1 ≤ n) && decide (n ≤ 4)) && isP d.toNat n.toNat zs
theorem isDepth_calls (n : Int) (w : World) :
    Calls Tryd.prog 22 #[.int .i64 n] w fun e w' => e = .returned (.bool (decide (1 ≤ n) && decide (n ≤ 4))) ∧ w = w' := by
  by_cases h1 : 1 ≤ n
  · by_cases h2 : n ≤ 4
    · go_enter Tryd.func22, Tryd.ntmps22
      go_wp2
      go_ret
      exact ⟨ret_bool (by simp; omega), rfl⟩
    · go_enter Tryd.func22, Tryd.ntmps22
      go_wp2
      go_ret
      exact ⟨ret_bool (by simp; omega), rfl⟩
  · go_enter Tryd.func22, Tryd.ntmps22
    go_wp2
    go_ret
    exact ⟨ret_bool (by simp; omega), rfl⟩

def codeP (d n : Int) (zs : List Int) : Int := if isAlpha d && (decide (1 ≤ n) && decide (n ≤ 4)) then (if isP d.toNat n.toNat zs then 0 else 1) else 2
theorem ret_one {i j : Int} (h : i = j) : Ending.returned (.int .i64 i) = Ending.returned (.int .i64 j) := by rw [h]
set_option maxRecDepth 100000 in
set_option maxHeartbeats 1000000 in
theorem checkPortraits_calls (d n : Int) (v : Value) (zs : List Int) (w : World) (hv : SeesI w v zs) (g : Nat) (hg : Blk w g #[v] 22) :
    Calls Tryd.prog 12 #[.int .i64 d, .int .i64 n, .slice (some ⟨g, 0, none⟩) 1 1] w fun e w' => e = .returned (.int .i64 (codeP d n zs)) ∧ Below w.heap.size w w' := by
  obtain ⟨oa, ca, hve, _⟩ := hv.view
  subst hve
  have Hv := Lib.hid hv; clear hv
  cases ha : isAlpha d
  · have Hr : Hid (codeP d n zs = 2) := Lib.hid (by simp [codeP, ha])
    have Ha := Lib.hid ha; clear ha
    go_enter Tryd.func12, Tryd.ntmps12
    go_wp2_with (go_at_call 21; refine (isAlphabet_calls d _).mono ?_; rintro e w' ⟨rfl, rfl⟩; rw [Ha.out])
    go_ret
    exact ⟨ret_one Hr.out.symm, by (repeat (first | exact Below.refl _ _ | refine below_drew' ?_ | refine below_drewN' ?_ _ | refine below_alloc' ?_ _ | refine below_set' ?_ (by (try simp); (try omega)) _ | refine below_step ?_ (by assumption)))⟩
  · cases hd : (decide (1 ≤ n) && decide (n ≤ 4))
    · have Hr : Hid (codeP d n zs = 2) := Lib.hid (by unfold codeP; rw [ha, hd]; rfl)
      have Ha := Lib.hid ha; clear ha
      have Hd := Lib.hid hd; clear hd
      go_enter Tryd.func12, Tryd.ntmps12
      go_wp2_with (first | (go_at_call 21; refine (isAlphabet_calls d _).mono ?_; rintro e w' ⟨rfl, rfl⟩; rw [Ha.out]) | (go_at_call 22; refine (isDepth_calls n _).mono ?_; rintro e w' ⟨rfl, rfl⟩; rw [Hd.out]))
      go_ret
      exact ⟨ret_one Hr.out.symm, by (repeat (first | exact Below.refl _ _ | refine below_drew' ?_ | refine below_drewN' ?_ _ | refine below_alloc' ?_ _ | refine below_set' ?_ (by (try simp); (try omega)) _ | refine below_step ?_ (by assumption)))⟩
    · have hn4 : 1 ≤ n ∧ n ≤ 4 := by simpa using hd
      have hda := (isAlpha_iff d).1 ha
      have Hr : Hid (codeP d n zs = if isP d.toNat n.toNat zs then 0 else 1) := Lib.hid (by unfold codeP; rw [ha, hd]; rfl)
      have Ha := Lib.hid ha; clear ha
      have Hd := Lib.hid hd; clear hd
      obtain ⟨m, rfl⟩ := Int.eq_ofNat_of_zero_le (a := n) (by omega)
      obtain ⟨c, rfl⟩ := Int.eq_ofNat_of_zero_le (a := d) (by omega)
      have hc : c = 2 ∨ c = 3 := by omega
      have hm : m ≤ 4 := by omega
      have hm1 : 1 ≤ m := by omega
      rw [Int.toNat_natCast, Int.toNat_natCast] at Hr
      clear hn4 hda
      go_enter Tryd.func12, Tryd.ntmps12
      go_wp2_with (first | (go_at_call 21; refine (isAlphabet_calls c _).mono ?_; rintro e w' ⟨rfl, rfl⟩; rw [Ha.out]) | (go_at_call 22; refine (isDepth_calls m _).mono ?_; rintro e w' ⟨rfl, rfl⟩; rw [Hd.out]))
      have hcell : (#[Value.slice oa zs.length ca] : Array Value)[0]? = some (.slice oa zs.length ca) := rfl
      have Hend : Hid (0 = 1 → isP c m zs = true) := Lib.hid (fun h => absurd h (by omega))
      have hbw0 : Below w.heap.size w w := Below.refl _ _
      go_loopw [19] (fun i wr => ∃ k : Nat, k ≤ 1 ∧ i = .int .i64 k ∧ Blk wr g #[.slice oa zs.length ca] 22 ∧ Below w.heap.size w wr ∧ Hid (k = 1 → isP c m zs = true)) (fun i _ => 1 - (intOf i).toNat)
      case atStart => exact ⟨0, by omega, rfl, hg, hbw0, Hend⟩
      case round =>
        clear hg hbw0 Hend
        obtain ⟨k, hk, rfl, hG, hbw, HE⟩ := hrel
        have cG := hG.cell
        by_cases hlt : k < 1
        · obtain rfl : k = 0 := by omega
          have Hf := Lib.hid (isPortraitOf_calls c m hc hm hm1 (.slice oa zs.length ca) zs wr (Hv.out.below hbw))
          cases hp : isP c m zs
          · have Hp := Lib.hid hp; clear hp
            go_wp2_with (go_at_call 23; refine Hf.out.mono ?_; rintro e w6 ⟨rfl, hb6⟩; rw [Hp.out])
            go_ret
            exact ⟨ret_one (by rw [Hr.out, Hp.out]; rfl), below_step hbw hb6⟩
          · have Hp := Lib.hid hp; clear hp
            go_wp2_with (go_at_call 23; refine Hf.out.mono ?_; rintro e w6 ⟨rfl, hb6⟩; rw [Hp.out])
            go_roundw
            case rel => exact ⟨0 + 1, by omega, by go_num, hG.keptAll hb6, below_step hbw hb6, Lib.hid (fun _ => by first | exact Hp.out | trivial)⟩
            case measure => simp [intOf] <;> omega
        · obtain rfl : k = 1 := by omega
          have Hp := Lib.hid (HE.out rfl)
          go_wp2
          go_ret
          exact ⟨ret_one (by rw [Hr.out, Hp.out]; rfl), hbw⟩

end Go.Proofs.YticnpajbefflbadDoor
