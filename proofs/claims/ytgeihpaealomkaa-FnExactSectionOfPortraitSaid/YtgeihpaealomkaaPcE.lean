/- A portrait and a word: their code, in the program. -/
import Derived.Test.YtgeihpaealomkaaPcA
import Derived.Test.YtgeihpaealomkaaGrpS
import Derived.Test.YtgeihpaealomkaaInts
import Derived.Test.YtgeihpaealomkaaWordC
import Derived.Test.YtgeihpaealomkaaPtS
import Derived.Test.YtgeihpaealomkaaPnS
namespace Go.Proofs.Ytgeihpaealomkaa
open Go.RowKit

def codeW (d n : Int) (zs : List Int) (s : ByteArray) (most : Int) : Int := if codeP d n zs = 0 then (if wordB d.toNat s then (if most < (s.size : Int) then 2 else 0) else 1) else codeP d n zs
theorem codeP_zero (d n : Int) (zs : List Int) (h : codeP d n zs = 0) : (2 ≤ d ∧ d ≤ 3) ∧ (1 ≤ n ∧ n ≤ 4) ∧ isP d.toNat n.toNat zs = true := by
  unfold codeP at h
  split at h
  · rename_i h1
    simp only [Bool.and_eq_true, decide_eq_true_eq] at h1
    split at h
    · rename_i h2
      have := (isAlpha_iff d).1 h1.1
      exact ⟨by omega, h1.2, h2⟩
    · omega
  · omega

set_option maxRecDepth 100000 in
set_option maxHeartbeats 1000000 in
theorem checkWord_calls (d n : Int) (v : Value) (zs : List Int) (s : ByteArray) (most : Int) (w : World) (hv : SeesI w v zs) :
    Calls Try.prog 14 #[.int .i64 d, .int .i64 n, v, .string s, .int .i64 most] w fun e w' => e = .returned (.int .i64 (codeW d n zs s most)) ∧ Below w.heap.size w w' := by
  have hE : Blk (w.alloc (.cells #[v] 22)) w.heap.size #[v] 22 := Blk.new _ _ _
  have hbw : Below w.heap.size w (w.alloc (.cells #[v] 22)) := by (repeat (first | exact Below.refl _ _ | refine below_drew' ?_ | refine below_drewN' ?_ _ | refine below_alloc' ?_ _ | refine below_set' ?_ (by (try simp); (try omega)) _ | refine below_step ?_ (by assumption)))
  have hv2 : SeesI (w.alloc (.cells #[v] 22)) v zs := hv.below hbw
  obtain ⟨oa, ca, hve, _⟩ := hv.view
  subst hve
  have Hv := Lib.hid hv2; clear hv hv2
  have HC := Lib.hid (checkPortraits_calls d n _ zs _ Hv.out w.heap.size hE)
  by_cases hc : codeP d n zs = 0
  · have hd := (codeP_zero d n zs hc).1
    obtain ⟨c, rfl⟩ := Int.eq_ofNat_of_zero_le (a := d) (by omega)
    have HW := Lib.hid (fun W => isWord_calls c s (by omega) W)
    have HR : Hid (codeW c n zs s most = (if wordB c s then (if most < (s.size : Int) then 2 else 0) else 1)) := Lib.hid (by unfold codeW; rw [if_pos hc, Int.toNat_natCast])
    rw [hc] at HC
    clear hc hd
    cases hw : wordB c s
    · rw [hw] at HW HR
      clear hw
      go_enter Try.func14, Try.ntmps14
      go_wp2_with (first | (go_at_call 21; refine HC.out.mono ?_; rintro e w1 ⟨rfl, hb1⟩; have hbw1 := below_step hbw hb1) | (go_at_call 22; refine (HW.out _).mono ?_; rintro e w' ⟨rfl, rfl⟩))
      go_ret
      exact ⟨ret_one HR.out.symm, hbw1⟩
    · rw [hw] at HW HR
      clear hw
      by_cases hm : most < (s.size : Int)
      · rw [if_pos rfl, if_pos hm] at HR
        go_enter Try.func14, Try.ntmps14
        go_wp2_with (first | (go_at_call 21; refine HC.out.mono ?_; rintro e w1 ⟨rfl, hb1⟩; have hbw1 := below_step hbw hb1) | (go_at_call 22; refine (HW.out _).mono ?_; rintro e w' ⟨rfl, rfl⟩))
        go_ret
        exact ⟨ret_one HR.out.symm, hbw1⟩
      · rw [if_pos rfl, if_neg hm] at HR
        go_enter Try.func14, Try.ntmps14
        go_wp2_with (first | (go_at_call 21; refine HC.out.mono ?_; rintro e w1 ⟨rfl, hb1⟩; have hbw1 := below_step hbw hb1) | (go_at_call 22; refine (HW.out _).mono ?_; rintro e w' ⟨rfl, rfl⟩))
        go_ret
        exact ⟨ret_one HR.out.symm, hbw1⟩
  · have HR : Hid (codeW d n zs s most = codeP d n zs) := Lib.hid (by unfold codeW; rw [if_neg hc])
    generalize codeP d n zs = cc at *
    have hcb : (cc != 0) = true := by simpa using hc
    go_enter Try.func14, Try.ntmps14
    go_wp2_with (go_at_call 21; refine HC.out.mono ?_; rintro e w1 ⟨rfl, hb1⟩; have hbw1 := below_step hbw hb1)
    go_ret
    exact ⟨ret_one HR.out.symm, hbw1⟩
end Go.Proofs.Ytgeihpaealomkaa

namespace Go.Proofs.Ytgeihpaealomkaa
open Go.RowKit

theorem sees_one2 {w : World} {v1 : Value} {z1 : List Int} (h1 : SeesI w v1 z1) : SeesL (w.alloc (.cells #[v1] 22)) (.slice (some ⟨w.heap.size, 0, none⟩) 1 1) [(v1, z1)] :=
  ⟨w.heap.size, 1, rfl, Blk.new _ _ _, fun i hi => by
    have hb : Below w.heap.size w (w.alloc (.cells #[v1] 22)) := by (repeat (first | exact Below.refl _ _ | refine below_drew' ?_ | refine below_drewN' ?_ _ | refine below_alloc' ?_ _ | refine below_set' ?_ (by (try simp); (try omega)) _ | refine below_step ?_ (by assumption)))
    match i, hi with
    | 0, _ => exact h1.below hb⟩
theorem mk_im2 (n : Nat) (hn : n ≤ 1048576) (W : World) : (Instr.makeSlice 42 (.int .i64 n) (.int .i64 n)).run Try.prog W = .ok (.slice (some ⟨W.heap.size, 0, none⟩) n n) (W.alloc (.cells (imC n []) 5)) := by
  obtain ⟨i0, hi, hz0, hz1, hz2⟩ := info_parts info5
  have := run_make (P := Try.prog) W 42 5 i0 (.int .u8 0) Try.underlying42 hi hz0 .i64 .i64 n n (by omega) (by omega) (by rw [hz2]; omega) (by omega)
  rwa [hz1, Int.toNat_natCast, Nat.mul_one, made_zero, ← imC_zero] at this
theorem ext_list (s : ByteArray) (k : Nat) : (s.extract 0 k).data.toList = s.data.toList.take k := by
  rw [ByteArray.data_extract, Array.toList_extract]
  simp
/-- The letter to which a portrait leads the letter i of a word. -/
def ptL (d : Nat) (zs : List Int) (l : List UInt8) (i : Nat) : Nat := ((pRow d (kAt d zs (l.take i))).getD ((l.getD i 0).toNat - 48) 0).toNat
def actP (d : Nat) (zs : List Int) (l : List UInt8) (k : Nat) : List UInt8 := (List.range k).map fun i => dig (ptL d zs l i : Int)
theorem actP_len (d : Nat) (zs : List Int) (l : List UInt8) (k : Nat) : (actP d zs l k).length = k := by simp [actP]
theorem actP_succ (d : Nat) (zs : List Int) (l : List UInt8) (k : Nat) : actP d zs l (k + 1) = actP d zs l k ++ [dig (ptL d zs l k : Int)] := by simp [actP, List.range_succ]
def actS (d : Nat) (zs : List Int) (s : ByteArray) : ByteArray := ⟨(actP d zs s.data.toList s.data.toList.length).toArray⟩
theorem lettersL_pre (d : Nat) (l : List UInt8) (k : Nat) (h : lettersL d l = true) : lettersL d (l.take k) = true := by
  unfold lettersL at *
  rw [List.all_eq_true] at *
  exact fun x hx => h x (List.mem_of_mem_take hx)
theorem ptL_ok (d n : Nat) (hd : d = 2 ∨ d = 3) (hn : n ≤ 4) (zs : List Int) (hP : isP d n zs = true) (l : List UInt8) (hl : lettersL d l = true) (i x : Nat) (hi : i < l.length) (hin : i < n) (hx : l[i].toNat = 48 + x) :
    x < d ∧ (u8s (pRow d (kAt d zs (l.take i))))[x]? = some (.int .u8 (ptL d zs l i : Int)) ∧ ptL d zs l i ≤ 2 := by
  obtain ⟨h1, h2⟩ := lettersL_at hl i hi
  have hxd : x < d := by omega
  obtain ⟨p, _, _, _, hk⟩ := kAt_ok d n zs (l.take i) hP (by rw [List.length_take]; omega) (lettersL_pre d l i hl) (by omega) hn
  obtain ⟨r1, r2⟩ := pRow_ok d _ hd hk
  have r3 := r2 x (by omega)
  have e : ptL d zs l i = ((pRow d (kAt d zs (l.take i))).getD x 0).toNat := by
    unfold ptL
    rw [show (l.getD i 0) = l[i] from by simp [List.getD, List.getElem?_eq_getElem hi], hx]
    congr 2; omega
  refine ⟨hxd, ?_, by omega⟩
  rw [u8s_at _ x (by omega), e]
  congr 2; omega

end Go.Proofs.Ytgeihpaealomkaa

namespace Go.Proofs.Ytgeihpaealomkaa
open Go.RowKit

theorem rows_same (d k x : Nat) (hd : d = 2 ∨ d = 3) (hk : k < cN d) (hx : x < d) : (sRow d k).getD x 0 = (pRow d k).getD x 0 := by
  have h2 : ∀ k, k < 2 → ∀ x, x < 2 → (sRow 2 k).getD x 0 = (pRow 2 k).getD x 0 := by decide
  have h3 : ∀ k, k < 6 → ∀ x, x < 3 → (sRow 3 k).getD x 0 = (pRow 3 k).getD x 0 := by decide
  rcases hd with rfl | rfl
  · exact h2 k hk x hx
  · exact h3 k hk x hx

set_option maxRecDepth 100000 in
set_option maxHeartbeats 1000000 in
theorem l03At_calls (d n : Nat) (hd : d = 2 ∨ d = 3) (hn : n ≤ 4) (zs : List Int) (hP : isP d n zs = true) (v : Value) (s : ByteArray) (hs : s.data.toList.length < n) (hl : lettersL d s.data.toList = true) (w : World) (hv : SeesI w v zs) :
    Calls Try.prog 12 #[.int .i64 d, v, .string s] w fun e w' => e = .returned (.int .i64 (kAt d zs s.data.toList : Int)) ∧ w = w' := by
  have hd3 : d ≤ 3 := by omega
  obtain ⟨oa, ca, hve, _⟩ := hv.view
  subst hve
  obtain ⟨p, hp, hpz, hzk, hkc⟩ := kAt_ok d n zs s.data.toList hP hs hl hd3 hn
  obtain ⟨g, hg, hgl, hcz⟩ := hv.at p hpz
  subst hg
  rw [hzk] at hcz
  have h1 := sumP_bd d hd3 s.data.toList.length (by omega)
  have h2 := numI_lt d s.data.toList hl
  have h3 := pw_bd d s.data.toList.length hd3 (by omega)
  have hwr : IntKind.i64.wrap (sumP d s.data.toList.length + numI d s.data.toList) = (p : Int) := by rw [← hp]; exact IntWalk.i64_in _ (by omega)
  have hpi : (p : Int) < zs.length := by omega
  have HS := Lib.hid (fun W => l03Start_calls d s.data.toList.length hd3 (by omega) W)
  have HN := Lib.hid (fun W => l01NumberOf_calls d s hd3 (by omega) hl W)
  have hsz : s.size = s.data.toList.length := size_list s
  rw [← hsz] at HS hwr
  clear h1 h2 h3 hsz hp hv hzk
  generalize kAt d zs s.data.toList = kk at *
  generalize sumP d s.size = P at *
  generalize numI d s.data.toList = N at *
  go_enter Try.func12, Try.ntmps12
  go_wp2_with (first | (go_at_call 19; refine (HS.out _).mono ?_; rintro e w3 ⟨rfl, rfl⟩) | (go_at_call 20; refine (HN.out _).mono ?_; rintro e w4 ⟨rfl, rfl⟩))
  go_ret
  exact ⟨rfl, rfl⟩

end Go.Proofs.Ytgeihpaealomkaa

namespace Go.Proofs.Ytgeihpaealomkaa
open Go.RowKit

def allP (d n : Int) (ps : List (Value × List Int)) (k : Nat) : Bool := (ps.take k).all fun p => isP d.toNat n.toNat p.2
theorem allP_succ (d n : Int) (ps : List (Value × List Int)) (k : Nat) (hk : k < ps.length) : allP d n ps (k + 1) = (allP d n ps k && isP d.toNat n.toNat ps[k].2) := by
  unfold allP
  rw [List.take_succ_eq_append_getElem hk, List.all_append]
  simp
theorem allP_no (d n : Int) (ps : List (Value × List Int)) (k : Nat) (hk : k < ps.length) (h : isP d.toNat n.toNat ps[k].2 = false) : allP d n ps ps.length = false := by
  unfold allP
  rw [List.take_length, List.all_eq_false]
  exact ⟨ps[k], List.getElem_mem hk, by rw [h]; simp⟩
def codeQ (d n : Int) (ps : List (Value × List Int)) : Int := if isAlpha d && (decide (1 ≤ n) && decide (n ≤ 4)) then (if allP d n ps ps.length then 0 else 1) else 2
theorem codeQ_one (d n : Int) (v : Value) (zs : List Int) : codeQ d n [(v, zs)] = codeP d n zs := by
  unfold codeQ codeP allP
  simp
theorem sizes_same (d n : Int) : (isAlpha d && (decide (1 ≤ n) && decide (n ≤ 4))) = (decide (2 ≤ d ∧ d ≤ 3) && decide (1 ≤ n ∧ n ≤ 4)) := by
  have h1 : isAlpha d = decide (2 ≤ d ∧ d ≤ 3) := by
    rw [Bool.eq_iff_iff, isAlpha_iff, decide_eq_true_eq]; omega
  have h2 : decide (1 ≤ n ∧ n ≤ 4) = (decide (1 ≤ n) && decide (n ≤ 4)) := Bool.decide_and _ _
  rw [h1, h2]

set_option maxRecDepth 100000 in
set_option maxHeartbeats 1000000 in
theorem l03Code_calls (d n : Int) (v : Value) (ps : List (Value × List Int)) (hp : ps.length ≤ 100) (w : World) (hv : SeesL w v ps) :
    Calls Try.prog 17 #[.int .i64 d, .int .i64 n, v] w fun e w' => e = .returned (.int .i64 (codeQ d n ps)) ∧ Below w.heap.size w w' := by
  have Hv := Lib.hid hv
  obtain ⟨g, ca, rfl, hG, _⟩ := hv
  clear hG
  have HS := Lib.hid (fun W => l03Sizes_calls d n W)
  rw [← sizes_same] at HS
  cases hs : (isAlpha d && (decide (1 ≤ n) && decide (n ≤ 4)))
  · have Hr : Hid (codeQ d n ps = 2) := Lib.hid (by unfold codeQ; rw [hs]; rfl)
    rw [hs] at HS
    clear hs
    go_enter Try.func17, Try.ntmps17
    go_wp2_with (go_at_call 27; refine (HS.out _).mono ?_; rintro e w1 ⟨rfl, hb1⟩)
    go_ret
    exact ⟨ret_one Hr.out.symm, hb1⟩
  · have hh := hs
    simp only [Bool.and_eq_true, decide_eq_true_eq] at hh
    have hda := (isAlpha_iff d).1 hh.1
    have Hr : Hid (codeQ d n ps = if allP d n ps ps.length then 0 else 1) := Lib.hid (by unfold codeQ; rw [hs]; rfl)
    rw [hs] at HS
    obtain ⟨m, rfl⟩ := Int.eq_ofNat_of_zero_le (a := n) (by omega)
    obtain ⟨c, rfl⟩ := Int.eq_ofNat_of_zero_le (a := d) (by omega)
    have hc : c = 2 ∨ c = 3 := by omega
    have hm : m ≤ 4 := by omega
    have hm1 : 1 ≤ m := by omega
    clear hs hh hda
    go_enter Try.func17, Try.ntmps17
    go_wp2_with (go_at_call 27; refine (HS.out _).mono ?_; rintro e w1 ⟨rfl, hb1⟩)
    go_loopw [7] (fun i wr => ∃ k : Nat, k ≤ ps.length ∧ i = .int .i64 k ∧ Below w.heap.size w wr ∧ Hid (allP c m ps k = true)) (fun i _ => ps.length - (intOf i).toNat)
    case atStart => exact ⟨0, by omega, rfl, hb1, Lib.hid rfl⟩
    case round =>
      clear hb1
      obtain ⟨k, hk, rfl, hbw, HE⟩ := hrel
      by_cases hlt : k < ps.length
      · have hki : (k : Int) < ps.length := by omega
        obtain ⟨g', c', hv', hG, hss⟩ := Hv.out.below hbw
        simp only [Value.slice.injEq, Option.some.injEq, Addr.mk.injEq] at hv'
        have c0 := hG.cell k
        have hpk : (ps.map (·.1)).toArray[k]? = some ps[k].1 := by simp [hlt]
        rw [← hv'.1.1, hpk] at c0
        have HF := Lib.hid (l03Is_calls c m hc hm hm1 ps[k].1 ps[k].2 wr (hss k hlt))
        have Hs := Lib.hid (allP_succ c m ps k hlt)
        have Hno := Lib.hid (allP_no c m ps k hlt)
        rw [HE.out, Bool.true_and] at Hs
        rw [Int.toNat_natCast, Int.toNat_natCast] at Hs Hno
        clear hG hss hv' hpk
        generalize ps[k].1 = pv at *
        cases hi : isP c m ps[k].2
        · have Hn := Lib.hid (Hno.out hi)
          rw [hi] at HF
          clear hi
          go_wp2_with (go_at_call 28; refine HF.out.mono ?_; rintro e w6 ⟨rfl, hb6⟩)
          go_ret
          exact ⟨ret_one (by rw [Hr.out, Hn.out]; rfl), below_step hbw hb6⟩
        · rw [hi] at HF Hs
          clear hi
          go_wp2_with (go_at_call 28; refine HF.out.mono ?_; rintro e w6 ⟨rfl, hb6⟩)
          go_roundw
          case rel => exact ⟨k + 1, by omega, by go_num, below_step hbw hb6, Hs⟩
          case measure => simp [intOf] <;> omega
      · obtain rfl : k = ps.length := by omega
        go_wp2
        go_ret
        exact ⟨ret_one (by rw [Hr.out, HE.out]; rfl), hbw⟩

set_option maxRecDepth 100000 in
set_option maxHeartbeats 1000000 in
theorem checkLists_calls (d n : Int) (v : Value) (ps : List (Value × List Int)) (hp : ps.length ≤ 100) (w : World) (hv : SeesL w v ps) :
    Calls Try.prog 21 #[.int .i64 d, .int .i64 n, v] w fun e w' => e = .returned (.int .i64 (codeQ d n ps)) ∧ Below w.heap.size w w' := by
  have Hv := Lib.hid hv
  obtain ⟨g, ca, rfl, hG, _⟩ := hv
  clear hG
  cases ha : isAlpha d
  · have Hr : Hid (codeQ d n ps = 2) := Lib.hid (by unfold codeQ; rw [ha]; rfl)
    have Ha := Lib.hid ha; clear ha
    go_enter Try.func21, Try.ntmps21
    go_wp2_with (go_at_call 29; refine (isAlphabet_calls d _).mono ?_; rintro e w' ⟨rfl, rfl⟩; rw [Ha.out])
    go_ret
    exact ⟨ret_one Hr.out.symm, by (repeat (first | exact Below.refl _ _ | refine below_drew' ?_ | refine below_drewN' ?_ _ | refine below_alloc' ?_ _ | refine below_set' ?_ (by (try simp); (try omega)) _ | refine below_step ?_ (by assumption)))⟩
  · cases hd : (decide (1 ≤ n) && decide (n ≤ 4))
    · have Hr : Hid (codeQ d n ps = 2) := Lib.hid (by unfold codeQ; rw [ha, hd]; rfl)
      have Ha := Lib.hid ha; clear ha
      have Hd := Lib.hid hd; clear hd
      go_enter Try.func21, Try.ntmps21
      go_wp2_with (first | (go_at_call 29; refine (isAlphabet_calls d _).mono ?_; rintro e w' ⟨rfl, rfl⟩; rw [Ha.out]) | (go_at_call 30; refine (isDepth_calls n _).mono ?_; rintro e w' ⟨rfl, rfl⟩; rw [Hd.out]))
      go_ret
      exact ⟨ret_one Hr.out.symm, by (repeat (first | exact Below.refl _ _ | refine below_drew' ?_ | refine below_drewN' ?_ _ | refine below_alloc' ?_ _ | refine below_set' ?_ (by (try simp); (try omega)) _ | refine below_step ?_ (by assumption)))⟩
    · have hn4 : 1 ≤ n ∧ n ≤ 4 := by simpa using hd
      have hda := (isAlpha_iff d).1 ha
      have Hr : Hid (codeQ d n ps = if allP d n ps ps.length then 0 else 1) := Lib.hid (by unfold codeQ; rw [ha, hd]; rfl)
      have Ha := Lib.hid ha; clear ha
      have Hd := Lib.hid hd; clear hd
      obtain ⟨m, rfl⟩ := Int.eq_ofNat_of_zero_le (a := n) (by omega)
      obtain ⟨c, rfl⟩ := Int.eq_ofNat_of_zero_le (a := d) (by omega)
      have hc : c = 2 ∨ c = 3 := by omega
      have hm : m ≤ 4 := by omega
      have hm1 : 1 ≤ m := by omega
      clear hn4 hda
      go_enter Try.func21, Try.ntmps21
      go_wp2_with (first | (go_at_call 29; refine (isAlphabet_calls c _).mono ?_; rintro e w' ⟨rfl, rfl⟩; rw [Ha.out]) | (go_at_call 30; refine (isDepth_calls m _).mono ?_; rintro e w' ⟨rfl, rfl⟩; rw [Hd.out]))
      go_loopw [19] (fun i wr => ∃ k : Nat, k ≤ ps.length ∧ i = .int .i64 k ∧ Below w.heap.size w wr ∧ Hid (allP c m ps k = true)) (fun i _ => ps.length - (intOf i).toNat)
      case atStart => exact ⟨0, by omega, rfl, Below.refl _ _, Lib.hid rfl⟩
      case round =>
        obtain ⟨k, hk, rfl, hbw, HE⟩ := hrel
        by_cases hlt : k < ps.length
        · have hki : (k : Int) < ps.length := by omega
          obtain ⟨g', c', hv', hG, hss⟩ := Hv.out.below hbw
          simp only [Value.slice.injEq, Option.some.injEq, Addr.mk.injEq] at hv'
          have c0 := hG.cell k
          have hpk : (ps.map (·.1)).toArray[k]? = some ps[k].1 := by simp [hlt]
          rw [← hv'.1.1, hpk] at c0
          have HF := Lib.hid (isPortraitOf_calls c m hc hm hm1 ps[k].1 ps[k].2 wr (hss k hlt))
          have Hs := Lib.hid (allP_succ c m ps k hlt)
          have Hno := Lib.hid (allP_no c m ps k hlt)
          rw [HE.out, Bool.true_and] at Hs
          rw [Int.toNat_natCast, Int.toNat_natCast] at Hs Hno
          clear hG hss hv' hpk
          generalize ps[k].1 = pv at *
          cases hi : isP c m ps[k].2
          · have Hn := Lib.hid (Hno.out hi)
            rw [hi] at HF
            clear hi
            go_wp2_with (go_at_call 31; refine HF.out.mono ?_; rintro e w6 ⟨rfl, hb6⟩)
            go_ret
            exact ⟨ret_one (by rw [Hr.out, Hn.out]; rfl), below_step hbw hb6⟩
          · rw [hi] at HF Hs
            clear hi
            go_wp2_with (go_at_call 31; refine HF.out.mono ?_; rintro e w6 ⟨rfl, hb6⟩)
            go_roundw
            case rel => exact ⟨k + 1, by omega, by go_num, below_step hbw hb6, Hs⟩
            case measure => simp [intOf] <;> omega
        · obtain rfl : k = ps.length := by omega
          go_wp2
          go_ret
          exact ⟨ret_one (by rw [Hr.out, HE.out]; rfl), hbw⟩

theorem ret_st {s s' : ByteArray} {m m' : Int} (hs : s = s') (h : m = m') : Ending.returned (.tuple #[.string s, .int .i64 m]) = Ending.returned (.tuple #[.string s', .int .i64 m']) := by rw [hs, h]
/-- What 'ActPortrait' answers. -/
def actR (d n : Int) (zs : List Int) (s : ByteArray) : ByteArray := if codeW d n zs s n = 0 then actS d.toNat zs s else ByteArray.empty
theorem codeW_zero (d n : Int) (zs : List Int) (s : ByteArray) (most : Int) (h : codeW d n zs s most = 0) : codeP d n zs = 0 ∧ lettersL d.toNat s.data.toList = true ∧ (s.data.toList.length : Int) ≤ most := by
  unfold codeW at h
  split at h
  · rename_i h1
    split at h
    · rename_i h2
      split at h
      · omega
      · rename_i h3
        rw [size_list s] at h3
        exact ⟨h1, ((wordB_iff _ _).1 h2).2, by omega⟩
    · omega
  · omega

end Go.Proofs.Ytgeihpaealomkaa
