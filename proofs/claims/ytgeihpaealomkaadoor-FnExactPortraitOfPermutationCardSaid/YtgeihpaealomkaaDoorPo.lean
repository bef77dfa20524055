/- Portraits read off level permutations: plain data; the letters behind a beginning. -/
import Derived.Test.YtgeihpaealomkaaDoorMuI
import Derived.Test.YtgeihpaealomkaaDoorOrd
namespace Go.Proofs.YtgeihpaealomkaaDoor
open Go.RowKit

theorem numL_wordOf' (d : Nat) (hd : d = 2 ∨ d = 3) : ∀ n k, k < d ^ n → numL d (wordOf d n k) = k
  | 0, k, h => by simp at h; subst h; rfl
  | n + 1, k, h => by
    have hk : k / d < d ^ n := Nat.div_lt_of_lt_mul (by rw [Nat.mul_comm]; rwa [Nat.pow_succ] at h)
    have hm : k % d < d := Nat.mod_lt _ (by omega)
    rw [wordOf, numL_snoc, numL_wordOf' d hd n _ hk]
    have hc : (UInt8.ofNat (48 + k % d)).toNat = 48 + k % d := by
      rw [UInt8.toNat_ofNat']
      omega
    rw [hc, Nat.mul_comm]
    have := Nat.div_add_mod k d
    omega
def rdR (d n k : Nat) : Nat := d ^ (n - 1 - k)
def rdI (d n k j x : Nat) : Nat := (j * d + x) * rdR d n k
def rdE (d n : Nat) (zs : List Int) (k j x : Nat) : Int := Int.tmod (IntKind.i64.wrap (Int.tdiv (zs.getD (rdI d n k j x) 0) (rdR d n k : Nat))) (d : Int)
def rdL (d n : Nat) (zs : List Int) (k j : Nat) : List Int := fillP (rdE d n zs k j) d d
def rdV (d n : Nat) (zs : List Int) (s : ByteArray) : List Int := rdL d n zs s.data.toList.length (numL d s.data.toList)
theorem rdL_len (d n : Nat) (zs : List Int) (k j : Nat) : (rdL d n zs k j).length = d := fillP_len _ _ _
theorem rdV_wordS (d n : Nat) (hd : d = 2 ∨ d = 3) (zs : List Int) (k j : Nat) (hj : j < d ^ k) : rdV d n zs (wordS d k j) = rdL d n zs k j := by
  have e : (wordS d k j).data.toList = wordOf d k j := by simp [wordS]
  unfold rdV
  rw [e, length_wordOf, numL_wordOf' d hd k j hj]
theorem rdI_lt (d n k j x : Nat) (hd : 1 ≤ d) (hk : k < n) (hj : j < d ^ k) (hx : x < d) : rdI d n k j x < d ^ n ∧ 1 ≤ rdR d n k := by
  have h1 : 1 ≤ rdR d n k := Nat.pow_pos (by omega)
  have h2 : j * d + x + 1 ≤ d ^ k * d := by
    have : (j + 1) * d ≤ d ^ k * d := Nat.mul_le_mul_right _ hj
    rw [Nat.add_mul] at this
    omega
  have h3 : d ^ n = d ^ k * d * rdR d n k := by
    unfold rdR
    rw [← Nat.pow_succ, ← Nat.pow_add]
    congr 1; omega
  refine ⟨?_, h1⟩
  rw [h3]
  unfold rdI
  have h4 : (j * d + x + 1) * rdR d n k ≤ d ^ k * d * rdR d n k := Nat.mul_le_mul_right _ h2
  rw [Nat.add_mul, Nat.one_mul] at h4
  omega

def codeE (d n : Int) : Int := if isAlpha d && (decide (1 ≤ n) && decide (n ≤ 4)) then 0 else 2
theorem codeE_zero (d n : Int) (h : codeE d n = 0) : (2 ≤ d ∧ d ≤ 3) ∧ (1 ≤ n ∧ n ≤ 4) := by
  unfold codeE at h
  split at h
  · rename_i h1
    simp only [Bool.and_eq_true, decide_eq_true_eq] at h1
    have := (isAlpha_iff d).1 h1.1
    exact ⟨by omega, h1.2⟩
  · omega
set_option maxRecDepth 100000 in
set_option maxHeartbeats 1000000 in
theorem checkNone_calls (d n : Int) (w : World) :
    Calls Tryd.prog 42 #[.int .i64 d, .int .i64 n, .slice none 0 0] w fun e w' => e = .returned (.int .i64 (codeE d n)) ∧ Below w.heap.size w w' := by
  cases ha : isAlpha d
  · have Hr : Hid (codeE d n = 2) := Lib.hid (by unfold codeE; rw [ha]; rfl)
    have Ha := Lib.hid ha; clear ha
    go_enter Tryd.func42, Tryd.ntmps42
    go_wp2_with (go_at_call 66; refine (isAlphabet_calls d _).mono ?_; rintro e w' ⟨rfl, rfl⟩; rw [Ha.out])
    go_ret
    exact ⟨ret_one Hr.out.symm, by (repeat (first | exact Below.refl _ _ | refine below_drew' ?_ | refine below_drewN' ?_ _ | refine below_alloc' ?_ _ | refine below_set' ?_ (by (try simp); (try omega)) _ | refine below_step ?_ (by assumption)))⟩
  · cases hd : (decide (1 ≤ n) && decide (n ≤ 4))
    · have Hr : Hid (codeE d n = 2) := Lib.hid (by unfold codeE; rw [ha, hd]; rfl)
      have Ha := Lib.hid ha; clear ha
      have Hd := Lib.hid hd; clear hd
      go_enter Tryd.func42, Tryd.ntmps42
      go_wp2_with (first | (go_at_call 66; refine (isAlphabet_calls d _).mono ?_; rintro e w' ⟨rfl, rfl⟩; rw [Ha.out]) | (go_at_call 35; refine (isDepth_calls n _).mono ?_; rintro e w' ⟨rfl, rfl⟩; rw [Hd.out]))
      go_ret
      exact ⟨ret_one Hr.out.symm, by (repeat (first | exact Below.refl _ _ | refine below_drew' ?_ | refine below_drewN' ?_ _ | refine below_alloc' ?_ _ | refine below_set' ?_ (by (try simp); (try omega)) _ | refine below_step ?_ (by assumption)))⟩
    · have Hr : Hid (codeE d n = 0) := Lib.hid (by unfold codeE; rw [ha, hd]; rfl)
      have Ha := Lib.hid ha; clear ha
      have Hd := Lib.hid hd; clear hd
      go_enter Tryd.func42, Tryd.ntmps42
      go_wp2_with (first | (go_at_call 66; refine (isAlphabet_calls d _).mono ?_; rintro e w' ⟨rfl, rfl⟩; rw [Ha.out]) | (go_at_call 35; refine (isDepth_calls n _).mono ?_; rintro e w' ⟨rfl, rfl⟩; rw [Hd.out]))
      go_loopw [19] (fun i wr => i = .int .i64 0 ∧ Below w.heap.size w wr) (fun _ _ => 0)
      case atStart => exact ⟨rfl, Below.refl _ _⟩
      case round =>
        obtain ⟨rfl, hbw⟩ := hrel
        go_wp2
        go_ret
        exact ⟨ret_one Hr.out.symm, hbw⟩

set_option maxRecDepth 100000 in
set_option maxHeartbeats 2000000 in
theorem lettersBehind_calls (d n : Nat) (hd : d = 2 ∨ d = 3) (hn : n ≤ 4) (zs : List Int) (hz : zs.length = d ^ n) (v : Value) (s : ByteArray) (hs : s.data.toList.length < n) (hl : lettersL d s.data.toList = true) (w : World) (hv : SeesI w v zs) :
    Calls Tryd.prog 55 #[.int .i64 d, .int .i64 n, v, .string s] w fun e w' => ∃ v1, e = .returned v1 ∧ OwnI w' w.heap.size v1 (rdV d n zs s) ∧ Below w.heap.size w w' := by
  have hd3 : d ≤ 3 := by omega
  obtain ⟨oa, ca, hve, _⟩ := hv.view
  subst hve
  have Hv := Lib.hid hv
  have hpn := pow_le d n hd3 (by omega)
  have hsz := size_list s
  have hnl := numI_lt d _ hl
  rw [show pw d s.data.toList.length = ((d ^ s.data.toList.length : Nat) : Int) from rfl] at hnl
  have hjd : numL d s.data.toList < d ^ s.data.toList.length := by have := hnl.2; unfold numI at this; omega
  have HI := Lib.hid (fun x hx => rdI_lt d n s.data.toList.length (numL d s.data.toList) x (by omega) hs hjd hx)
  have hR1 := (rdI_lt d n s.data.toList.length (numL d s.data.toList) 0 (by omega) hs hjd (by omega)).2
  have hRb : rdR d n s.data.toList.length ≤ 243 := pow_le d _ hd3 (by omega)
  have hjb : numL d s.data.toList < 243 := by have := pow_le d s.data.toList.length hd3 (by omega); omega
  have HLs := Lib.hid (fun W => levelSize_calls d (n - 1 - s.data.toList.length) hd3 (by omega) W)
  rw [show pw d (n - 1 - s.data.toList.length) = ((rdR d n s.data.toList.length : Nat) : Int) from rfl] at HLs
  rw [show ((n - 1 - s.data.toList.length : Nat) : Int) = (n : Int) - 1 - (s.size : Int) from by omega] at HLs
  have HNu := Lib.hid (fun W => levelNumber_calls d s hd3 (by omega) hl W)
  rw [show numI d s.data.toList = ((numL d s.data.toList : Nat) : Int) from rfl] at HNu
  have HV : Hid (rdV d n zs s = fillP (rdE d n zs s.data.toList.length (numL d s.data.toList)) d d) := Lib.hid rfl
  have HE : Hid (∀ x, rdE d n zs s.data.toList.length (numL d s.data.toList) x = Int.tmod (IntKind.i64.wrap (Int.tdiv (zs.getD (rdI d n s.data.toList.length (numL d s.data.toList) x) 0) (rdR d n s.data.toList.length : Nat))) (d : Int)) := Lib.hid (fun _ => rfl)
  have HX : Hid (∀ x, rdI d n s.data.toList.length (numL d s.data.toList) x = (numL d s.data.toList * d + x) * rdR d n s.data.toList.length) := Lib.hid (fun _ => rfl)
  have hmk := mk_ints d (by omega) w
  have hs4 : s.size ≤ 4 := by omega
  have hsn : (s.size : Int) < (n : Int) := by omega
  have hw1 : IntKind.i64.wrap ((n : Int) - 1) = (n : Int) - 1 := IntWalk.i64_in _ (by omega)
  have hw2 : IntKind.i64.wrap ((n : Int) - 1 - (s.size : Int)) = (n : Int) - 1 - (s.size : Int) := IntWalk.i64_in _ (by omega)
  have hB0 : Blk (w.alloc (.cells (ints (List.replicate d 0)) 2)) w.heap.size (ints (fillP (rdE d n zs s.data.toList.length (numL d s.data.toList)) d 0)) 2 := by rw [fillP_zero]; exact Blk.new _ _ _
  have hbw0 : Below w.heap.size w (w.alloc (.cells (ints (List.replicate d 0)) 2)) := by (repeat (first | exact Below.refl _ _ | refine below_drew' ?_ | refine below_drewN' ?_ _ | refine below_alloc' ?_ _ | refine below_set' ?_ (by (try simp); (try omega)) _ | refine below_step ?_ (by assumption)))
  clear hv hs hl hsz hnl hjd
  generalize rdE d n zs s.data.toList.length (numL d s.data.toList) = f at *
  generalize rdI d n s.data.toList.length (numL d s.data.toList) = ix at *
  generalize rdR d n s.data.toList.length = R at *
  generalize numL d s.data.toList = j at *
  go_enter Tryd.func55, Tryd.ntmps55
  go_wp2_with (go_at_call 53; refine (HLs.out _).mono ?_; rintro e w' ⟨rfl, rfl⟩)
  clear hmk
  go_loopw [23] (fun i wr => ∃ x : Nat, x ≤ d ∧ i = .int .i64 x ∧ Blk wr w.heap.size (ints (fillP f d x)) 2 ∧ Below w.heap.size w wr) (fun i _ => d - (intOf i).toNat)
  case atStart => exact ⟨0, by omega, rfl, hB0, hbw0⟩
  case round =>
    clear hB0 hbw0
    obtain ⟨x, hx, rfl, hB, hbw⟩ := hrel
    by_cases hlt : x < d
    · have hxi : (x : Int) < (d : Int) := by omega
      obtain ⟨i1, _⟩ := HI.out x hlt
      rw [← hz] at i1
      have hxe := HX.out x
      have hfe := HE.out x
      obtain ⟨g, hg, _, hcz⟩ := (Hv.out.below hbw).at (ix x) i1
      subst hg
      rw [show zs.getD (ix x) 0 = zs[ix x] from by simp [List.getD, List.getElem?_eq_getElem i1]] at hfe
      generalize zs[ix x] = z at *
      have hjdb : j * d ≤ 243 * 3 := Nat.mul_le_mul (by omega) hd3
      have hm1 : IntKind.i64.wrap ((j : Int) * (d : Int)) = ((j * d : Nat) : Int) := by rw [← Int.natCast_mul]; exact IntWalk.i64_in _ (by omega)
      have hm2 : IntKind.i64.wrap (((j * d : Nat) : Int) + (x : Int)) = ((j * d + x : Nat) : Int) := by rw [← Int.natCast_add]; exact IntWalk.i64_in _ (by omega)
      have hm3 : IntKind.i64.wrap (((j * d + x : Nat) : Int) * (R : Int)) = ((ix x : Nat) : Int) := by rw [← Int.natCast_mul, ← hxe]; exact IntWalk.i64_in _ (by omega)
      have hix : ((ix x : Nat) : Int) < (zs.length : Int) := by omega
      have e1 := ints_get (fillP f d x) x (by rw [fillP_len]; exact hlt)
      generalize (fillP f d x)[x]'(by rw [fillP_len]; exact hlt) = old at *
      have Hset := Lib.hid (fillP_set f d x (f x) rfl)
      have cB := hB.cell x
      rw [e1] at cB
      have fB := hB.free
      have hB1 := hB.set x (.int .i64 (f x))
      rw [← ints_set, Hset.out] at hB1
      have hbw1 := below_set' (o := x) hbw (b := w.heap.size) (Nat.le_refl _) (.int .i64 (f x))
      rw [show IntKind.i64.wrap (Int.tdiv z (R : Int)) = wrap64 (Int.tdiv z (R : Int)) from IntWalk.i64_left _] at hfe
      replace hfe := hfe.symm
      generalize f x = y at *
      generalize ix x = p at *
      generalize (j * d + x) = q2 at *
      generalize j * d = q1 at *
      clear Hset e1 hxe hjdb i1
      go_wp2_with (go_at_call 82; refine (HNu.out _).mono ?_; rintro e w' ⟨rfl, rfl⟩)
      go_roundw
      case rel => exact ⟨x + 1, by omega, by go_num, hB1, hbw1⟩
      case measure => simp [intOf] <;> omega
    · obtain rfl : x = d := by omega
      go_wp2
      go_ret
      exact ⟨_, rfl, by rw [HV.out]; exact OwnI.made (fillP_len _ _ _) (by unfold maxLen; omega) (Nat.le_refl _) hB, hbw⟩
end Go.Proofs.YtgeihpaealomkaaDoor

namespace Go.Proofs.YtgeihpaealomkaaDoor
open Go.RowKit Go.Shelf
attribute [local go_sem] Oper.semAt_some

theorem load_list {w : World} {g : Nat} {o : Option Addr} {n c : Nat} (hB : Blk w g #[.slice o n c] 26) : (loadVar 26 ⟨g, 0, none⟩).run Tryd.prog w = .ok (.slice o n c) w := by
  have c1 := hB.cell 0
  simp at c1
  go_simp
theorem load_int {w : World} {g : Nat} {z : Int} (hB : Blk w g #[.int .i64 z] 2) : (loadVar 2 ⟨g, 0, none⟩).run Tryd.prog w = .ok (.int .i64 z) w := by
  have c1 := hB.cell 0
  simp at c1
  go_simp
theorem results_two {fn : Func} {p u : Tmp} {ty ty' : TypeId} (h : fn.results = #[.cell p ty, .cell u ty']) (tmps : Array Value) (P : Program) (w : World) {g g' : Nat} {v v' : Value} (hp : tmps.getD p undef = .pointer (some ⟨g, 0, none⟩)) (hu : tmps.getD u undef = .pointer (some ⟨g', 0, none⟩))
    (hl : (loadVar ty ⟨g, 0, none⟩).run P w = .ok v w) (hl' : (loadVar ty' ⟨g', 0, none⟩).run P w = .ok v' w) : (results fn tmps).run P w = .ok (.tuple #[v, v']) w := by
  have hp' : tmps[p]?.getD undef = .pointer (some ⟨g, 0, none⟩) := by simpa using hp
  have hu' : tmps[u]?.getD undef = .pointer (some ⟨g', 0, none⟩) := by simpa using hu
  simp [results, h, hp', hu', asAddr, hl, hl']

/-- 'append(out, z)' in a round. -/
theorem wpListIn_push {l n : Nat} {ops : Array Oper} {rest : List Oper} {o : Oper} {a : Act} {w : World} {Q : Exit → Act → World → Prop} (hgd : o.guard = none) (s x : Operand) (ho : o.op = .call { callee := .builtin .append, args := #[s, x], argTypes := #[26, 26] })
    (base : Nat) (v : Value) (zs : List Int) (hs : a.eval s = v) (hown : OwnI w base v zs) (g c : Nat) (z : Int) (hx : a.eval x = .slice (some ⟨g, 0, none⟩) 1 c) (hB : Blk w g #[.int .i64 z] 2)
    (hn : zs.length + 1 ≤ 1048576) (hbase : base ≤ w.heap.size)
    (h : ∀ v' w', OwnI w' base v' (zs ++ [z]) → w.grownBy w' v.ownBlock → (v'.ownBlock = v.ownBlock ∨ v'.ownBlock = some w.heap.size) → wpListIn (Fence.wide.inRound l) n Tryd.prog ops Q rest (a.put o.dst v') w') : wpListIn (Fence.wide.inRound l) n Tryd.prog ops Q (o :: rest) a w :=
  wpListIn_plain hgd fun K hK => op_round (fun c e => by rw [ho] at e; cases e) (wp_push_int s x ho base v zs hs hown g c z hx hB hn hbase (fun v' w' h1 h2 h3 => hK _ _ (h v' w' h1 h2 h3)))

/-! ### What is read -/
def okV (d n : Nat) (zs : List Int) (s : ByteArray) : Bool := (pnF (rdV d n zs s)).isSome
def nbV (d n : Nat) (zs : List Int) (s : ByteArray) : Int := pnN (rdV d n zs s)
def nbF (d n : Nat) (zs : List Int) (pre : List ByteArray) : List Int := pre.map (nbV d n zs)
def poOk (d n : Nat) (zs : List Int) : Bool := decide (zs.length = d ^ n) && ((wordsB d n).all (okV d n zs) && decide (imgsP d n (nbF d n zs (wordsB d n)) = zs))
def poC (d n : Int) (zs : List Int) : Int := if codeE d n = 0 then (if poOk d.toNat n.toNat zs then 0 else 5) else 2
def poL (d n : Int) (zs : List Int) : List Int := if poC d n zs = 0 then nbF d.toNat n.toNat zs (wordsB d.toNat n.toNat) else []
theorem okV_code (d n : Nat) (zs : List Int) (s : ByteArray) : pnC (rdV d n zs s) = if okV d n zs s then 0 else 2 := by
  unfold pnC okV
  cases pnF (rdV d n zs s) <;> rfl
theorem wordsB_sum (d : Nat) : ∀ n, ((wordsB d n).length : Int) = sumP d n
  | 0 => by simp [wordsB, sumP]
  | n + 1 => by
    rw [wordsB_next, List.length_append, wordsL_len, Int.natCast_add, wordsB_sum d n]; rfl
theorem nb_ok (d n : Nat) (hd : d = 2 ∨ d = 3) (zs : List Int) (s : ByteArray) (h : okV d n zs s = true) : 0 ≤ nbV d n zs s ∧ nbV d n zs s < cntP d := by
  have hl : (rdV d n zs s).length = d := rdL_len _ _ _ _ _
  unfold okV at h
  unfold nbV pnN
  cases hf : pnF (rdV d n zs s) with
  | none => rw [hf] at h; cases h
  | some k =>
    rw [pnF_find _ d hd hl] at hf
    have := List.mem_of_find?_eq_some hf
    rw [cntP_cN]
    simp at this ⊢
    omega
theorem nb_isP (d n : Nat) (hd : d = 2 ∨ d = 3) (zs : List Int) (h : (wordsB d n).all (okV d n zs) = true) : isP d n (nbF d n zs (wordsB d n)) = true := by
  unfold isP nbF
  rw [List.length_map, wordsB_sum]
  simp only [decide_true, Bool.true_and]
  unfold entP
  rw [List.all_eq_true]
  intro z hz
  obtain ⟨x, hx, rfl⟩ := List.mem_map.1 (List.mem_of_mem_take hz)
  obtain ⟨h1, h2⟩ := nb_ok d n hd zs x (List.all_eq_true.1 h x hx)
  simp [h1, h2]
theorem poL_len (d n : Int) (zs : List Int) : (poL d n zs).length ≤ 100000 := by
  unfold poL
  split
  · rename_i h
    unfold poC at h
    split at h
    · rename_i h1
      obtain ⟨h2, h3⟩ := codeE_zero d n h1
      have := wordsB_len d.toNat (by omega) n.toNat (by omega)
      unfold nbF
      rw [List.length_map]; omega
    · omega
  · simp

/-- What a round holds on to. -/
def PoB (w : World) (gX c m : Nat) (va v : Value) (zs : List Int) (W : World) : Prop :=
  AccAt W gX (gX + 1) v zs ∧ Blk W w.heap.size #[.int .i64 c] 2 ∧ Blk W (w.heap.size + 1) #[.int .i64 m] 2 ∧ Blk W (w.heap.size + 2) #[va] 26 ∧ Blk W (w.heap.size + 3) #[.slice none 0 0] 26 ∧ Blk W (w.heap.size + 4) #[.int .i64 0] 2 ∧ Below w.heap.size w W

set_option maxRecDepth 100000 in
set_option maxHeartbeats 4000000 in
theorem iPortraitOfPermutation_calls (d n : Int) (v : Value) (zs : List Int) (w : World) (hv : SeesI w v zs) (hT : TabsAt w) :
    Calls Tryd.prog 24 #[.int .i64 d, .int .i64 n, v] w fun e w' => ∃ v1, e = .returned (.tuple #[v1, .int .i64 (poC d n zs)]) ∧ OwnI w' w.heap.size v1 (poL d n zs) ∧ Below w.heap.size w w' := by
  have h3 : Blk (((((w.alloc (.cells #[.int .i64 d] 2)).alloc (.cells #[.int .i64 n] 2)).alloc (.cells #[v] 26)).alloc (.cells #[.slice none 0 0] 26)).alloc (.cells #[.int .i64 0] 2)) w.heap.size #[.int .i64 d] 2 := ((((Blk.new w _ _).alloc _).alloc _).alloc _).alloc _
  have h4 : Blk (((((w.alloc (.cells #[.int .i64 d] 2)).alloc (.cells #[.int .i64 n] 2)).alloc (.cells #[v] 26)).alloc (.cells #[.slice none 0 0] 26)).alloc (.cells #[.int .i64 0] 2)) (w.heap.size + 1) #[.int .i64 n] 2 := (((Blk.new_at _ _ _ _ (by simp)).alloc _).alloc _).alloc _
  have h5 : Blk (((((w.alloc (.cells #[.int .i64 d] 2)).alloc (.cells #[.int .i64 n] 2)).alloc (.cells #[v] 26)).alloc (.cells #[.slice none 0 0] 26)).alloc (.cells #[.int .i64 0] 2)) (w.heap.size + 2) #[v] 26 := ((Blk.new_at _ _ _ _ (by simp)).alloc _).alloc _
  have h6 : Blk (((((w.alloc (.cells #[.int .i64 d] 2)).alloc (.cells #[.int .i64 n] 2)).alloc (.cells #[v] 26)).alloc (.cells #[.slice none 0 0] 26)).alloc (.cells #[.int .i64 0] 2)) (w.heap.size + 3) #[.slice none 0 0] 26 := (Blk.new_at _ _ _ _ (by simp)).alloc _
  have h7 : Blk (((((w.alloc (.cells #[.int .i64 d] 2)).alloc (.cells #[.int .i64 n] 2)).alloc (.cells #[v] 26)).alloc (.cells #[.slice none 0 0] 26)).alloc (.cells #[.int .i64 0] 2)) (w.heap.size + 4) #[.int .i64 0] 2 := Blk.new_at _ _ _ _ (by simp)
  have hbw : Below w.heap.size w (((((w.alloc (.cells #[.int .i64 d] 2)).alloc (.cells #[.int .i64 n] 2)).alloc (.cells #[v] 26)).alloc (.cells #[.slice none 0 0] 26)).alloc (.cells #[.int .i64 0] 2)) := by (repeat (first | exact Below.refl _ _ | refine below_drew' ?_ | refine below_drewN' ?_ _ | refine below_alloc' ?_ _ | refine below_set' ?_ (by (try simp); (try omega)) _ | refine below_step ?_ (by assumption)))
  have hsz0 : (((((w.alloc (.cells #[.int .i64 d] 2)).alloc (.cells #[.int .i64 n] 2)).alloc (.cells #[v] 26)).alloc (.cells #[.slice none 0 0] 26)).alloc (.cells #[.int .i64 0] 2)).heap.size = w.heap.size + 5 := by simp
  obtain ⟨oa, ca, hve, _⟩ := hv.view
  subst hve
  have Hv := Lib.hid hv
  have HT := Lib.hid hT
  have HC := Lib.hid (fun W => checkNone_calls d n W)
  have c3 := h3.cell 0
  have c4 := h4.cell 0
  simp at c3 c4
  clear hv hT
  by_cases hc : codeE d n = 0
  · obtain ⟨k1, k2⟩ := codeE_zero d n hc
    obtain ⟨m, rfl⟩ := Int.eq_ofNat_of_zero_le (a := n) (by omega)
    obtain ⟨c, rfl⟩ := Int.eq_ofNat_of_zero_le (a := d) (by omega)
    have hc23 : c = 2 ∨ c = 3 := by omega
    have hd3 : c ≤ 3 := by omega
    have hm4 : m ≤ 4 := by omega
    have HLs := Lib.hid (fun W => (levelSize_calls c m hd3 (by omega) W).mono fun e w' (h : _ ∧ W = w') => And.intro h.1 h.2.symm)
    rw [show pw c m = ((c ^ m : Nat) : Int) from rfl] at HLs
    rw [hc] at HC
    by_cases hlen : zs.length = c ^ m
    · have Hpc : Hid (poC c m zs = if poOk c m zs then 0 else 5) := Lib.hid (by unfold poC; rw [if_pos hc, Int.toNat_natCast, Int.toNat_natCast])
      have HpL : Hid (poL c m zs = if poC c m zs = 0 then nbF c m zs (wordsB c m) else []) := Lib.hid (by unfold poL; rw [Int.toNat_natCast, Int.toNat_natCast])
      have hne : ((zs.length : Int) != ((c ^ m : Nat) : Int)) = false := by rw [hlen]; simp
      have Hlen := Lib.hid hlen
      clear k1 k2 hc hlen
      have hpn := pow_le c m hd3 (by omega)
      generalize hN : c ^ m = N at *
      refine (callsIn_wide (n := 3)).1 ?_
      refine callsIn_of_wp_marks Tryd.func24 rfl trivial ?_ rfl
      simp only [Tryd.ntmps24, List.size_toArray, List.length_cons, List.length_nil, Nat.reduceAdd, Nat.reduceSub, Array.replicate_succ, Array.replicate_zero, List.push_toArray, List.append_toArray, List.nil_append, List.cons_append]
      refine wpIn_wide.2 ?_
      go_wp2_with (go_at_call 42; refine (HC.out _).mono ?_; rintro e w1 ⟨rfl, hb1⟩)
      have g3 := h3.keptAll hb1
      have g4 := h4.keptAll hb1
      have g5 := h5.keptAll hb1
      have g6 := h6.keptAll hb1
      have g7 := h7.keptAll hb1
      have hbw1 := below_step hbw hb1
      have hs1 := hb1.size
      rw [hsz0] at hs1
      clear c3 c4 h3 h4 h5 h6 h7 hb1 hbw hsz0
      have c3 := g3.cell 0
      have c4 := g4.cell 0
      have c5 := g5.cell 0
      simp at c3 c4 c5
      go_quiet ((go_at_call 53; exact Calls.quiet_of_same (HLs.out _)))
      clear c3 c4 c5
      have hq : Below w1.heap.size w1 (w1.drewN nq) := by (repeat (first | exact Below.refl _ _ | refine below_drew' ?_ | refine below_drewN' ?_ _ | refine below_alloc' ?_ _ | refine below_set' ?_ (by (try simp); (try omega)) _ | refine below_step ?_ (by assumption)))
      replace g3 := g3.drewN nq
      replace g4 := g4.drewN nq
      replace g5 := g5.drewN nq
      replace g6 := g6.drewN nq
      replace g7 := g7.drewN nq
      replace hbw1 := below_step hbw1 hq
      have hs2 := hq.size
      generalize w1.drewN nq = w2 at *
      have c3 := (g3.alloc (.cells #[.slice none 0 0] 26)).cell 0
      have c4 := (g4.alloc (.cells #[.slice none 0 0] 26)).cell 0
      simp at c3 c4
      go_wp2_with (go_at_call 36; refine (wordsBelow_calls _ _ _).mono ?_; rintro e w3 ⟨rfl, rfl⟩)
      clear c3 c4 hq
      have hX : Blk (((w2.alloc (.cells #[.slice none 0 0] 26)).alloc (.cells #[.int .i64 c] 2)).alloc (.cells #[.int .i64 m] 2)) w2.heap.size #[.slice none 0 0] 26 := ((Blk.new _ _ _).alloc _).alloc _
      have hD : Blk (((w2.alloc (.cells #[.slice none 0 0] 26)).alloc (.cells #[.int .i64 c] 2)).alloc (.cells #[.int .i64 m] 2)) (w2.heap.size + 1) #[.int .i64 c] 2 := (Blk.new_at _ _ _ _ (by simp)).alloc _
      have hN' : Blk (((w2.alloc (.cells #[.slice none 0 0] 26)).alloc (.cells #[.int .i64 c] 2)).alloc (.cells #[.int .i64 m] 2)) (w2.heap.size + 2) #[.int .i64 m] 2 := Blk.new_at _ _ _ _ (by simp)
      have hb5 : Below w2.heap.size w2 (((w2.alloc (.cells #[.slice none 0 0] 26)).alloc (.cells #[.int .i64 c] 2)).alloc (.cells #[.int .i64 m] 2)) := by (repeat (first | exact Below.refl _ _ | refine below_drew' ?_ | refine below_drewN' ?_ _ | refine below_alloc' ?_ _ | refine below_set' ?_ (by (try simp); (try omega)) _ | refine below_step ?_ (by assumption)))
      have hsz5 : (((w2.alloc (.cells #[.slice none 0 0] 26)).alloc (.cells #[.int .i64 c] 2)).alloc (.cells #[.int .i64 m] 2)).heap.size = w2.heap.size + 3 := by simp
      have hbw5 := below_step hbw1 hb5
      replace g3 := g3.keptAll hb5
      replace g4 := g4.keptAll hb5
      replace g5 := g5.keptAll hb5
      replace g6 := g6.keptAll hb5
      replace g7 := g7.keptAll hb5
      generalize ((w2.alloc (.cells #[.slice none 0 0] 26)).alloc (.cells #[.int .i64 c] 2)).alloc (.cells #[.int .i64 m] 2) = W5 at *
      have hgX : w.heap.size + 5 ≤ w2.heap.size := by omega
      generalize w2.heap.size = gX at *
      clear hb5 hbw1 hs1 hs2
      refine (wpIn_wide (n := 3)).1 ?_
      refine wp_rangeFoot (n := 3) (gf := 69) (lb := #[.pointer (some ⟨gX + 2, 0, none⟩), .pointer (some ⟨gX + 1, 0, none⟩)]) rfl (enters_of Tryd.func69 (by kernel_rfl) rfl)
        (wordsBelow_gives c m _ _ hc23 hm4 W5 hN' hD) (Below.refl _ _)
        (fun t W => ∃ v, t.2 = accF gX v ∧ Hid (∀ x ∈ t.1, okV c m zs x = true) ∧ PoB w gX c m (.slice oa zs.length ca) v (nbF c m zs t.1) W)
        (fun _ W => poOk c m zs = false ∧ Blk W (w.heap.size + 3) #[.slice none 0 0] 26 ∧ Blk W (w.heap.size + 4) #[.int .i64 5] 2 ∧ Below w.heap.size w W)
        ?own ?ownx ?foot (accF gX (.slice none 0 0)) ⟨_, rfl, Lib.hid (fun x hx => by cases hx), ⟨hX, OwnI.nil _ _, by omega⟩, g3, g4, g5, g6, g7, hbw5⟩ ?caps
        (fun x => { tmps := #[.int .i64 (c : Int), .int .i64 (m : Int), .slice oa zs.length ca, .pointer (some ⟨w.heap.size, 0, none⟩), .pointer (some ⟨w.heap.size + 1, 0, none⟩), .pointer (some ⟨w.heap.size + 1 + 1, 0, none⟩), .pointer (some ⟨w.heap.size + 1 + 1 + 1, 0, none⟩), .pointer (some ⟨w.heap.size + 1 + 1 + 1 + 1, 0, none⟩), .int .i64 0, .pointer (some ⟨gX, 0, none⟩), .string x, undef, undef, .int .i64 (c : Int), .int .i64 (m : Int), .int .i64 0, .int .i64 0, .bool false, undef, .slice oa zs.length ca, .int .i64 (zs.length : Int), .int .i64 (c : Int), .int .i64 (m : Int), .int .i64 (N : Int), .bool false, .int .i64 (c : Int), .int .i64 (m : Int), .func (.func 69) #[] #[.pointer (some ⟨gX + 1 + 1, 0, none⟩), .pointer (some ⟨gX + 1, 0, none⟩)], .string x, undef, undef, undef, undef, undef, undef, undef, undef, undef, undef, undef, undef, undef, undef, undef, undef, undef, undef, undef, undef, undef, undef, undef, undef], defers := [] })
        ?assign ?body ?done ?stop
      case own =>
        rintro t X Z row ⟨v, x1, xo, x2, x3, x4, x5, x6, x7, x8⟩ hg hr
        exact ⟨v, x1, xo, x2.turn hg (fun r e => (hr r e).2), x3.turn hg (fun r e => (hr r e).2), x4.turn hg (fun r e => (hr r e).2), x5.turn hg (fun r e => (hr r e).2), x6.turn hg (fun r e => (hr r e).2), x7.turn hg (fun r e => (hr r e).2), ownFrom_below (β := Unit) (Nat.le_refl _) (by omega) () X Z row x8 hg hr⟩
      case ownx =>
        rintro t X Z row ⟨x1, x2, x3, x4⟩ hg hr
        exact ⟨x1, x2.turn hg (fun r e => (hr r e).2), x3.turn hg (fun r e => (hr r e).2), ownFrom_below (β := Unit) (Nat.le_refl _) (by omega) () X Z row x4 hg hr⟩
      case foot =>
        rintro t X ⟨v, x1, _, x2, _⟩ k hk
        rw [x1] at hk
        exact x2.foot k hk
      case caps =>
        rintro i (rfl | rfl) (h | h)
        · omega
        · simp [Value.ownBlock] at h
        · omega
        · simp [Value.ownBlock] at h
      case assign =>
        intro l2 x W' K hK
        gi_wp2
        exact hK
      case body =>
        rintro l2 ⟨pre, ft⟩ x W' ⟨v, x1, xo, hP⟩ hpre
        dsimp only at x1 xo hP hpre ⊢
        subst x1
        have hmem : x ∈ wordsB c m := hpre.subset (by simp)
        obtain ⟨q1, q2⟩ := kAt_in' c m hc23 x hmem
        have HLb := Lib.hid (fun W h => lettersBehind_calls c m hc23 hm4 zs (by rw [Hlen.out, hN]) (.slice oa zs.length ca) x q1 q2 W h)
        have HPn := Lib.hid (fun v W h1 h2 => iPermutationNumber_calls v (rdV c m zs x) W h1 h2)
        rw [okV_code] at HPn
        have HF : Hid (nbF c m zs (pre ++ [x]) = nbF c m zs pre ++ [pnN (rdV c m zs x)]) := Lib.hid (by simp [nbF, nbV])
        have Hln : Hid ((nbF c m zs pre).length ≤ 1215) := Lib.hid (by
          have h1 := hpre.length_le
          have h2 := wordsB_len c hd3 m (by omega)
          simp [nbF] at h1 ⊢
          omega)
        obtain ⟨t1, t3, t4, t5, t6, t7, t8⟩ := hP
        have c3 := t3.cell 0
        have c4 := t4.cell 0
        have c5 := t5.cell 0
        simp at c3 c4 c5
        have hl1 := t1.1.lt
        have hl7 := t7.lt
        generalize pnN (rdV c m zs x) = z at *
        cases hok : okV c m zs x
        · have Hno : Hid (poOk c m zs = false) := Lib.hid (by
            have : (wordsB c m).all (okV c m zs) = false := by rw [List.all_eq_false]; exact ⟨x, hmem, by simp [hok]⟩
            unfold poOk; rw [this]; simp)
          rw [hok, if_neg (by simp)] at HPn
          clear hok hpre hmem
          gi_wp2_with (first | (refine ⟨trivial, rfl, ?_⟩; gi_at_call 55; refine (CallsIn.inRound l2 (callsIn_wide.2 (HLb.out _ (Hv.out.below t8)))).mono ?_; rintro e w3 ⟨v1, rfl, hO3, hb3⟩) | (refine ⟨trivial, rfl, ?_⟩; gi_at_call 54; refine (CallsIn.inRound l2 (callsIn_wide.2 (HPn.out _ _ hO3.sees (HT.out.below (below_step t8 hb3))))).mono ?_; rintro e w4 ⟨rfl, hb4⟩; have hb34 := below_step hb3 hb4; have g6b := t6.keptAll hb34; have g7a := t7.keptAll hb34; have c6 := g6b.cell 0; have f6 := g6b.free; have g7b := g7a.setOther (w.heap.size + 3) 0 (.slice none 0 0) (by omega); have c7 := g7b.cell 0; have f7 := g7b.free; simp at c6 c7))
          have k6 := (g6b.set 0 (.slice none 0 0)).setOther (w.heap.size + 4) 0 (.int .i64 5) (by omega)
          have k7 := g7b.set 0 (.int .i64 5)
          simp at k6 k7
          refine ⟨⟨Hno.out, k6, k7, below_set' (o := 0) (below_set' (o := 0) (below_step t8 hb34) (b := w.heap.size + 3) (by omega) _) (b := w.heap.size + 4) (by omega) _⟩, ?_⟩
          refine ⟨by have := hb34.size; simpa using this, fun k hkb hk hn => ?_⟩
          exact (Below.heap_setCell _ _ _ k (by show k ≠ w.heap.size + 4; omega)).trans ((Below.heap_setCell _ _ _ k (by show k ≠ w.heap.size + 3; omega)).trans (hb34.block k hk))
        · rw [hok, if_pos rfl] at HPn
          obtain ⟨o', c', hve, _⟩ := t1.2.1.view
          subst hve
          generalize hvv : Value.slice o' (nbF c m zs pre).length c' = v at *
          gi_wp2_with (first | (refine ⟨trivial, rfl, ?_⟩; gi_at_call 55; refine (CallsIn.inRound l2 (callsIn_wide.2 (HLb.out _ (Hv.out.below t8)))).mono ?_; rintro e w3 ⟨v1, rfl, hO3, hb3⟩) | (refine ⟨trivial, rfl, ?_⟩; gi_at_call 54; refine (CallsIn.inRound l2 (callsIn_wide.2 (HPn.out _ _ hO3.sees (HT.out.below (below_step t8 hb3))))).mono ?_; rintro e w4 ⟨rfl, hb4⟩; have hb34 := below_step hb3 hb4; have s1 := t1.below hb34; have cX := s1.1.cell 0; simp at cX; rw [← hvv] at cX; have hbA : Below w4.heap.size w4 (w4.alloc (.cells #[.int .i64 z] 2)) := by (repeat (first | exact Below.refl _ _ | refine below_drew' ?_ | refine below_drewN' ?_ _ | refine below_alloc' ?_ _ | refine below_set' ?_ (by (try simp); (try omega)) _ | refine below_step ?_ (by assumption)))) | (gi_at_builtin; refine wpListIn_push rfl (.tmp 40) (.tmp 42) rfl (gX + 1) v (nbF c m zs pre) (by rw [← hvv]; rfl) (s1.2.1.below hbA) w4.heap.size 1 z rfl (Blk.new w4 _ _) (by have := Hln.out; omega) (by have := (s1.below hbA).1.lt; omega) ?_; intro v' w6 hO6 hg6 hat6; obtain ⟨o6, c6, hv6, _⟩ := hO6.view; generalize (nbF c m zs pre ++ [z]).length = n6 at hv6; subst hv6; obtain ⟨p1, p2, p3⟩ := (s1.below hbA).pushed hO6 hg6 hat6; have cX6 := p1.cell 0; have fX6 := p1.free; simp at cX6))
          have hb35 := below_step hb34 hbA
          have s1' := s1.below hbA
          have s3 := t3.keptAll hb35
          have s4 := t4.keptAll hb35
          have s5 := t5.keptAll hb35
          have s6 := t6.keptAll hb35
          have s7 := t7.keptAll hb35
          have s8 := below_step t8 hb35
          have p4 := s1'.low s8 hg6 (by have := s8.size; omega) (by omega) (.slice o6 n6 c6)
          have hge := ownI_ge s1'.2.1
          have b3 := (s3.same (hg6.block _ s3.lt (fun e => by have := hge _ e.symm; omega))).setOther gX 0 (.slice o6 n6 c6) (by omega)
          have b4 := (s4.same (hg6.block _ s4.lt (fun e => by have := hge _ e.symm; omega))).setOther gX 0 (.slice o6 n6 c6) (by omega)
          have b5 := (s5.same (hg6.block _ s5.lt (fun e => by have := hge _ e.symm; omega))).setOther gX 0 (.slice o6 n6 c6) (by omega)
          have b6 := (s6.same (hg6.block _ s6.lt (fun e => by have := hge _ e.symm; omega))).setOther gX 0 (.slice o6 n6 c6) (by omega)
          have b7 := (s7.same (hg6.block _ s7.lt (fun e => by have := hge _ e.symm; omega))).setOther gX 0 (.slice o6 n6 c6) (by omega)
          exact ⟨_, ⟨_, rfl, Lib.hid (fun y hy => by
            rcases List.mem_append.1 hy with hy | hy
            · exact xo.out y hy
            · rw [List.mem_singleton.1 hy]; exact hok), by rw [HF.out]; exact p2, b3, b4, b5, b6, b7, p4⟩, (FootKeeps.of_below hb35).trans p3⟩
      case done =>
        rintro D ft W' hD ⟨v, x1, xo, hP⟩ hdd hnd
        dsimp only at x1 xo hP
        obtain ⟨t1, t3, t4, t5, t6, t7, t8⟩ := hP
        have hDl := (Array.getElem?_eq_some_iff.1 hdd).1
        have hall : (wordsB c m).all (okV c m zs) = true := List.all_eq_true.2 xo.out
        have hisP := nb_isP c m hc23 zs hall
        have HLv := Lib.hid (fun v W h1 h2 => levelImages_calls c m hc23 hm4 (nbF c m zs (wordsB c m)) hisP v W h1 h2)
        have Hpo : Hid (poOk c m zs = decide (imgsP c m (nbF c m zs (wordsB c m)) = zs)) := Lib.hid (by unfold poOk; rw [hall, hN, decide_eq_true Hlen.out]; simp)
        clear hall hisP xo
        generalize nbF c m zs (wordsB c m) = nb at *
        generalize imgsP c m nb = im at *
        obtain ⟨o', c', hve, _⟩ := t1.2.1.view
        subst hve
        subst x1
        have hdr : Below W'.heap.size W' W'.drew := (Below.refl _ _).drew
        have d3 := t3.keptAll hdr
        have d4 := t4.keptAll hdr
        have d5 := t5.keptAll hdr
        have dX := t1.1.keptAll hdr
        have dO := t1.2.1.below hdr
        have d8 := below_step t8 hdr
        have hge := ownI_ge t1.2.1
        have Hown := Lib.hid (fun k (hk : (Value.slice o' nb.length c').ownBlock = some k) => And.intro (hge k hk) (show k ≠ D from fun e => hnd (.inr (by rw [← e]; exact hk))))
        clear hge
        generalize hdec : decide (im = zs) = bq at *
        go_wp2_with fail
        refine wp_mono (Q := fun e a' W2 => match e with
          | .normal => ∃ v1, a' = { tmps := #[.int .i64 (c : Int), .int .i64 (m : Int), .slice oa zs.length ca, .pointer (some ⟨w.heap.size, 0, none⟩), .pointer (some ⟨w.heap.size + 1, 0, none⟩), .pointer (some ⟨w.heap.size + 1 + 1, 0, none⟩), .pointer (some ⟨w.heap.size + 1 + 1 + 1, 0, none⟩), .pointer (some ⟨w.heap.size + 1 + 1 + 1 + 1, 0, none⟩), .int .i64 0, .pointer (some ⟨gX, 0, none⟩), undef, undef, undef, .int .i64 (c : Int), .int .i64 (m : Int), .int .i64 0, .int .i64 0, .bool false, undef, .slice oa zs.length ca, .int .i64 (zs.length : Int), .int .i64 (c : Int), .int .i64 (m : Int), .int .i64 (N : Int), .bool false, .int .i64 (c : Int), .int .i64 (m : Int), .func (.func 69) #[] #[.pointer (some ⟨gX + 1 + 1, 0, none⟩), .pointer (some ⟨gX + 1, 0, none⟩)], undef, undef, undef, undef, undef, undef, undef, undef, undef, undef, undef, undef, undef, undef, undef, undef, .int .i64 (c : Int), .slice o' nb.length c', .agg #[.int .i64 (c : Int), .slice o' nb.length c'], .int .i64 (m : Int), v1, .slice oa zs.length ca, .bool bq, .bool (!bq), undef], defers := [{ target := .collected D, args := #[] }] } ∧ Below W'.heap.size W' W2
          | _ => False) ?reg ?rest
        case reg =>
          refine wp_region_held_drew (S := fun W => Blk W w.heap.size #[.int .i64 c] 2 ∧ Blk W (w.heap.size + 1) #[.int .i64 m] 2 ∧ Blk W (w.heap.size + 2) #[.slice oa zs.length ca] 26 ∧ Blk W gX #[.slice o' nb.length c'] 26) (by kernel_rfl) ⟨d3, d4, d5, dX⟩ (fun hS => ?_)
          (refine hK_take 0 (.int .i64 (c : Int)) rfl (by kernel_rfl) (by kernel_rfl) (by kernel_rfl) (fun _ _ _ h => h) rfl (fun W hW => by have c1 := Blk.cell hW.1 0; simp at c1; clear hW; go_simp) hS ?_; (intro K hK; go_simp; refine hK _ ?_; clear hK K))
          (refine hK_take 1 (.slice o' nb.length c') rfl (by kernel_rfl) (by kernel_rfl) (by kernel_rfl) (fun _ _ _ h => h) rfl (fun W hW => by have c1 := Blk.cell hW.2.2.2 0; simp at c1; clear hW; go_simp) hS ?_; (intro K hK; go_simp; refine hK _ ?_; clear hK K))
          (refine hK_take 2 (.agg #[.int .i64 (c : Int), .slice o' nb.length c']) rfl (by kernel_rfl) (by kernel_rfl) (by kernel_rfl) (fun _ _ _ h => h) rfl (fun W _ => by go_simp) hS ?_; (intro K hK; go_simp; refine hK _ ?_; clear hK K))
          (refine hK_take 3 (.int .i64 (m : Int)) rfl (by kernel_rfl) (by kernel_rfl) (by kernel_rfl) (fun _ _ _ h => h) rfl (fun W hW => by have c1 := Blk.cell hW.2.1 0; simp at c1; clear hW; go_simp) hS ?_; (intro K hK; go_simp; refine hK _ ?_; clear hK K))
          (refine hK_take 5 (.slice oa zs.length ca) rfl (by kernel_rfl) (by kernel_rfl) (by kernel_rfl) (fun _ _ _ h => h) rfl (fun W hW => by have c1 := Blk.cell hW.2.2.1 0; simp at c1; clear hW; go_simp) hS ?_; (intro K hK; go_simp; refine hK _ ?_; clear hK K))
          (refine wpAnyH_ready (rs := [4]) (by kernel_rfl) (by simp) ?_; refine AllReadyH.cons rfl (fun K hK => ?_) AllReadyH.nil); go_simp; refine (HLv.out _ _ dO.sees (HT.out.below d8)).mono ?_; rintro e w3 ⟨v1, rfl, hO3, hb3⟩
          (go_simp; refine hK.out _ _ (⟨hS.1.keptAll hb3, hS.2.1.keptAll hb3, hS.2.2.1.keptAll hb3, hS.2.2.2.keptAll hb3⟩) (fun hS => ?_); clear hK K)
          (refine wpAnyH_ready (rs := [6]) (by kernel_rfl) (by simp) ?_; refine AllReadyH.cons rfl (fun K hK => ?_) AllReadyH.nil); go_simp; refine (slicesEqual_calls v1 (.slice oa zs.length ca) im zs _ hO3.sees (Hv.out.below (below_step d8 hb3))).mono ?_; rintro e w4 ⟨rfl, hb4⟩
          (go_simp; refine hK.out _ _ (⟨hS.1.keptAll hb4, hS.2.1.keptAll hb4, hS.2.2.1.keptAll hb4, hS.2.2.2.keptAll hb4⟩) (fun hS => ?_); clear hK K)
          (refine hK_take 7 (.bool (!bq)) rfl (by kernel_rfl) (by kernel_rfl) (by kernel_rfl) (fun _ _ _ h => h) rfl (fun W _ => by go_simp) hS ?_; (intro K hK; go_simp; refine hK _ ?_; clear hK K))
          refine wpAnyH_done (by kernel_rfl) ?_ _
          exact ⟨v1, rfl, below_step hdr (below_step hb3 hb4)⟩
        case rest =>
          rintro e a' w4 h
          cases e with
          | normal =>
            obtain ⟨v1, rfl, hb'4⟩ := h
            cases bq
            · have Hc5 : Hid (poC c m zs = 5) := Lib.hid (by rw [Hpc.out, Hpo.out]; rfl)
              have Hl5 : Hid (poL c m zs = []) := Lib.hid (by rw [HpL.out, Hc5.out]; rfl)
              have g6 := t6.keptAll hb'4
              have g7 := t7.keptAll hb'4
              have c6 := g6.cell 0
              have f6 := g6.free
              have g7b := g7.setOther (w.heap.size + 3) 0 (.slice none 0 0) (by omega)
              have c7 := g7b.cell 0
              have f7 := g7b.free
              simp at c6 c7
              go_wp2
              have k6 := (g6.set 0 (.slice none 0 0)).setOther (w.heap.size + 4) 0 (.int .i64 5) (by omega)
              have k7 := g7b.set 0 (.int .i64 5)
              simp at k6 k7
              have hdd4 : (w4.setCell ⟨w.heap.size + 3, 0, none⟩ (.slice none 0 0)).heap[D]? = some (.deferred (some [])) := (Below.heap_setCell _ _ _ D (by show D ≠ w.heap.size + 3; omega)).trans ((hb'4.block D hDl).trans hdd)
              have hdd5 : ((w4.setCell ⟨w.heap.size + 3, 0, none⟩ (.slice none 0 0)).setCell ⟨w.heap.size + 4, 0, none⟩ (.int .i64 5)).heap[D]? = some (.deferred (some [])) := (Below.heap_setCell _ _ _ D (by show D ≠ w.heap.size + 4; omega)).trans hdd4
              have hbF : Below w.heap.size w ((w4.setCell ⟨w.heap.size + 3, 0, none⟩ (.slice none 0 0)).setCell ⟨w.heap.size + 4, 0, none⟩ (.int .i64 5)) := below_set' (o := 0) (below_set' (o := 0) (below_step t8 hb'4) (b := w.heap.size + 3) (by omega) _) (b := w.heap.size + 4) (by omega) _
              refine ⟨by simp, .inl ⟨_, _, rfl, run_takeDeferred hdd5, ?_⟩⟩
              refine ⟨_, results_two rfl _ _ _ rfl rfl (load_list (k6.same (World.putObj_heap_other (show w.heap.size + 3 ≠ D by omega)))) (load_int (k7.same (World.putObj_heap_other (show w.heap.size + 4 ≠ D by omega)))), ?_⟩
              exact ⟨_, ret_lw Hc5.out.symm, by rw [Hl5.out]; exact OwnI.nil _ _, hbF.trans (belowK_b (w := w) (Nat.le_refl _) _ D _ (.deferred none) (by omega) hdd5 rfl rfl)⟩
            · have Hc5 : Hid (poC c m zs = 0) := Lib.hid (by rw [Hpc.out, Hpo.out]; rfl)
              have Hl5 : Hid (poL c m zs = nb) := Lib.hid (by rw [HpL.out, Hc5.out]; rfl)
              have g6 := t6.keptAll hb'4
              have g7 := t7.keptAll hb'4
              have cX := (t1.1.keptAll hb'4).cell 0
              have c6 := g6.cell 0
              have f6 := g6.free
              have g7b := g7.setOther (w.heap.size + 3) 0 (.slice o' nb.length c') (by omega)
              have c7 := g7b.cell 0
              have f7 := g7b.free
              simp at c6 c7 cX
              go_wp2
              have k6 := (g6.set 0 (.slice o' nb.length c')).setOther (w.heap.size + 4) 0 (.int .i64 0) (by omega)
              have k7 := g7b.set 0 (.int .i64 0)
              simp at k6 k7
              have hdd4 : (w4.setCell ⟨w.heap.size + 3, 0, none⟩ (.slice o' nb.length c')).heap[D]? = some (.deferred (some [])) := (Below.heap_setCell _ _ _ D (by show D ≠ w.heap.size + 3; omega)).trans ((hb'4.block D hDl).trans hdd)
              have hdd5 : ((w4.setCell ⟨w.heap.size + 3, 0, none⟩ (.slice o' nb.length c')).setCell ⟨w.heap.size + 4, 0, none⟩ (.int .i64 0)).heap[D]? = some (.deferred (some [])) := (Below.heap_setCell _ _ _ D (by show D ≠ w.heap.size + 4; omega)).trans hdd4
              have hbF : Below w.heap.size w ((w4.setCell ⟨w.heap.size + 3, 0, none⟩ (.slice o' nb.length c')).setCell ⟨w.heap.size + 4, 0, none⟩ (.int .i64 0)) := below_set' (o := 0) (below_set' (o := 0) (below_step t8 hb'4) (b := w.heap.size + 3) (by omega) _) (b := w.heap.size + 4) (by omega) _
              have hOF := ownI_at (t1.2.1.below hb'4) (w' := ((w4.setCell ⟨w.heap.size + 3, 0, none⟩ (.slice o' nb.length c')).setCell ⟨w.heap.size + 4, 0, none⟩ (.int .i64 0)).putObj D (.deferred none)) (fun k hk => by
                obtain ⟨e1, e2⟩ := Hown.out k hk
                exact (World.putObj_heap_other e2).trans ((Below.heap_setCell _ _ _ k (by show k ≠ w.heap.size + 4; omega)).trans (Below.heap_setCell _ _ _ k (by show k ≠ w.heap.size + 3; omega))))
              refine ⟨by simp, .inl ⟨_, _, rfl, run_takeDeferred hdd5, ?_⟩⟩
              refine ⟨_, results_two rfl _ _ _ rfl rfl (load_list (k6.same (World.putObj_heap_other (show w.heap.size + 3 ≠ D by omega)))) (load_int (k7.same (World.putObj_heap_other (show w.heap.size + 4 ≠ D by omega)))), ?_⟩
              exact ⟨_, ret_lw Hc5.out.symm, by rw [Hl5.out]; exact hOF.base_le' (by omega), hbF.trans (belowK_b (w := w) (Nat.le_refl _) _ D _ (.deferred none) (by omega) hdd5 rfl rfl)⟩
          | _ => exact h.elim
      case stop =>
        rintro D pre W' hD hpre ⟨x1, x2, x3, x4⟩ hdd
        have Hc5 : Hid (poC c m zs = 5) := Lib.hid (by rw [Hpc.out, x1]; rfl)
        have Hl5 : Hid (poL c m zs = []) := Lib.hid (by rw [HpL.out, Hc5.out]; rfl)
        gi_wp2
        refine ⟨by simp, .inl ⟨_, _, rfl, run_takeDeferred hdd, ?_⟩⟩
        refine ⟨_, results_two rfl _ _ _ rfl rfl (load_list (x2.same (World.putObj_heap_other (show w.heap.size + 3 ≠ D by omega)))) (load_int (x3.same (World.putObj_heap_other (show w.heap.size + 4 ≠ D by omega)))), ?_⟩
        exact ⟨_, ret_lw Hc5.out.symm, by rw [Hl5.out]; exact OwnI.nil _ _, x4.trans (belowK_b (w := w) (Nat.le_refl _) W' D _ (.deferred none) (by omega) hdd rfl rfl)⟩
    · have Hpc : Hid (poC c m zs = 5) := Lib.hid (by unfold poC poOk; rw [if_pos hc, Int.toNat_natCast, Int.toNat_natCast, decide_eq_false hlen]; rfl)
      have HpL : Hid (poL c m zs = []) := Lib.hid (by unfold poL; rw [Hpc.out]; rfl)
      have hne : ((zs.length : Int) != ((c ^ m : Nat) : Int)) = true := by
        rw [bne_iff_ne]
        intro h
        exact hlen (Int.ofNat.inj h)
      clear k1 k2 hc hlen
      have hpn := pow_le c m hd3 (by omega)
      generalize c ^ m = N at *
      go_enter Tryd.func24, Tryd.ntmps24
      go_wp2_with (go_at_call 42; refine (HC.out _).mono ?_; rintro e w1 ⟨rfl, hb1⟩)
      have g3 := h3.keptAll hb1
      have g4 := h4.keptAll hb1
      have g5 := h5.keptAll hb1
      have g6 := h6.keptAll hb1
      have g7 := h7.keptAll hb1
      have hbw1 := below_step hbw hb1
      clear c3 c4 h3 h4 h5 h6 h7 hb1 hbw hsz0
      have c3 := g3.cell 0
      have c4 := g4.cell 0
      have c5 := g5.cell 0
      simp at c3 c4 c5
      go_quiet ((go_at_call 53; exact Calls.quiet_of_same (HLs.out _)))
      clear c3 c4 c5 g3 g4 g5
      have hq : Below w1.heap.size w1 (w1.drewN nq) := by (repeat (first | exact Below.refl _ _ | refine below_drew' ?_ | refine below_drewN' ?_ _ | refine below_alloc' ?_ _ | refine below_set' ?_ (by (try simp); (try omega)) _ | refine below_step ?_ (by assumption)))
      replace g6 := g6.drewN nq
      replace g7 := g7.drewN nq
      replace hbw1 := below_step hbw1 hq
      generalize w1.drewN nq = w2 at *
      have c6 := g6.cell 0
      have f6 := g6.free
      have g7b := g7.setOther (w.heap.size + 3) 0 (.slice none 0 0) (by omega)
      have c7 := g7b.cell 0
      have f7 := g7b.free
      simp at c6 c7
      go_wp2
      have k6 := (g6.set 0 (.slice none 0 0)).setOther (w.heap.size + 4) 0 (.int .i64 5) (by omega)
      have k7 := g7b.set 0 (.int .i64 5)
      simp at k6 k7
      exact bodyPost_ret (results_two rfl _ _ _ rfl rfl (load_list k6) (load_int k7)) rfl ⟨_, ret_lw Hpc.out.symm, by rw [HpL.out]; exact OwnI.nil _ _, below_set' (o := 0) (below_set' (o := 0) hbw1 (b := w.heap.size + 3) (by omega) _) (b := w.heap.size + 4) (by omega) _⟩
  · have hc2 : codeE d n = 2 := by
      unfold codeE at hc ⊢
      split at hc
      · omega
      · exact if_neg (by assumption)
    have Hpc : Hid (poC d n zs = 2) := Lib.hid (by unfold poC; rw [if_neg hc])
    have HpL : Hid (poL d n zs = []) := Lib.hid (by unfold poL; rw [Hpc.out]; rfl)
    rw [hc2] at HC
    clear hc hc2
    go_enter Tryd.func24, Tryd.ntmps24
    go_wp2_with (go_at_call 42; refine (HC.out _).mono ?_; rintro e w1 ⟨rfl, hb1⟩; have g6 := h6.keptAll hb1; have g7 := h7.keptAll hb1; have hbw1 := below_step hbw hb1; have c6 := g6.cell 0; have f6 := g6.free; have g7b := g7.setOther (w.heap.size + 3) 0 (.slice none 0 0) (by omega); have c7 := g7b.cell 0; have f7 := g7b.free; simp at c6 c7)
    have k6 := (g6.set 0 (.slice none 0 0)).setOther (w.heap.size + 4) 0 (.int .i64 2) (by omega)
    have k7 := g7b.set 0 (.int .i64 2)
    simp at k6 k7
    exact bodyPost_ret (results_two rfl _ _ _ rfl rfl (load_list k6) (load_int k7)) rfl ⟨_, ret_lw Hpc.out.symm, by rw [HpL.out]; exact OwnI.nil _ _, below_set' (o := 0) (below_set' (o := 0) hbw1 (b := w.heap.size + 3) (by omega) _) (b := w.heap.size + 4) (by omega) _⟩
end Go.Proofs.YtgeihpaealomkaaDoor

namespace Go.Proofs.YtgeihpaealomkaaDoor
open Go.RowKit

theorem info_m3' : (Tryd.prog.info? 74).map (fun i => (i.zero, i.size)) = some (some (.agg (bls [false, false, false])), 3) := by kernel_rfl
theorem lstP_ok' (zs : List Int) (d i : Nat) (h : okUp d zs i = true) (hd : d ≤ 3) : byte3 (lstP zs i) := by
  refine ⟨fillP_len _ _ _, fun j hj => ?_⟩
  have e : (lstP zs i).getD j 0 = if j < i then getZ zs j else 0 := by
    unfold lstP fillP
    rw [List.getD, List.getElem?_map, List.getElem?_range hj]; rfl
  rw [e]
  split
  · rename_i hji
    have h2 := (List.all_eq_true.1 h) j (by simpa using hji)
    simp only [Bool.and_eq_true, decide_eq_true_eq] at h2
    unfold getZ
    omega
  · omega

theorem nbF_upB (d n : Nat) (zs : List Int) : allB (nbV d n zs) d n = nbF d n zs (wordsB d n) := rfl
theorem po_range (d n : Nat) (hd : d = 2 ∨ d = 3) (hn : n ≤ 4) (zs : List Int) (h : poOk d n zs = true) (p : Nat) (hp : p < zs.length) : 0 ≤ zs[p] ∧ zs[p] < ((d ^ n : Nat) : Int) := by
  unfold poOk at h
  simp only [Bool.and_eq_true, decide_eq_true_eq] at h
  obtain ⟨h1, h2, h3⟩ := h
  have hi := imgs_in d n hd hn _ (nb_isP d n hd zs h2)
  rw [h3] at hi
  obtain ⟨a1, a2⟩ := hi p hp
  have e : zs.getD p 0 = zs[p] := by simp [List.getD, List.getElem?_eq_getElem hp]
  rw [e] at a1 a2
  omega
theorem po_no_range (d n : Nat) (hd : d = 2 ∨ d = 3) (hn : n ≤ 4) (zs : List Int) (p : Nat) (hp : p < zs.length) (h : ¬ (0 ≤ zs[p] ∧ zs[p] ≤ ((d ^ n : Nat) : Int) - 1)) : poOk d n zs = false := by
  cases hb : poOk d n zs
  · rfl
  · exact absurd (po_range d n hd hn zs hb p hp) (fun h2 => h (by omega))
theorem po_no_word (d n : Nat) (zs : List Int) (k j : Nat) (hk : k < n) (hj : j < d ^ k) (h : okV d n zs (wordS d k j) = false) : poOk d n zs = false := by
  have hm : wordS d k j ∈ wordsB d n := by
    unfold wordsB wordsL
    simp only [List.mem_flatMap, List.mem_range, List.mem_map]
    exact ⟨k, hk, j, hj, rfl⟩
  have : (wordsB d n).all (okV d n zs) = false := by rw [List.all_eq_false]; exact ⟨_, hm, by simp [h]⟩
  unfold poOk; rw [this]; simp
theorem rdE_in (d n : Nat) (hd : d = 2 ∨ d = 3) (hn : n ≤ 4) (zs : List Int) (hr : ∀ p (hp : p < zs.length), 0 ≤ zs[p] ∧ zs[p] ≤ ((d ^ n : Nat) : Int) - 1) (k j x : Nat) (hi : rdI d n k j x < zs.length) :
    0 ≤ rdE d n zs k j x ∧ rdE d n zs k j x < (d : Int) := by
  obtain ⟨z, hz⟩ := Int.eq_ofNat_of_zero_le (hr _ hi).1
  have hz2 := (hr _ hi).2
  have hp := pow_le d n (by omega) (by omega)
  unfold rdE
  rw [show zs.getD (rdI d n k j x) 0 = zs[rdI d n k j x] from by simp [List.getD, List.getElem?_eq_getElem hi], hz, (show Int.tdiv ((z : Nat) : Int) ((rdR d n k : Nat) : Int) = ((z / rdR d n k : Nat) : Int) from by rw [Int.tdiv_eq_ediv_of_nonneg (by omega)]; rfl)]
  have h1 : z / rdR d n k ≤ z := Nat.div_le_self _ _
  rw [hz] at hz2
  generalize z / rdR d n k = y at *
  rw [IntWalk.i64_in _ (by omega), Int.tmod_eq_emod_of_nonneg (by omega)]
  exact ⟨Int.emod_nonneg _ (by omega), Int.emod_lt_of_pos _ (by omega)⟩
def okUpB (d n : Nat) (zs : List Int) (k j : Nat) : Prop := ∀ x ∈ wordsB d k ++ (wordsL d k).take j, okV d n zs x = true
theorem okUpB_next (d n : Nat) (zs : List Int) (k j : Nat) (hj : j < d ^ k) (h : okUpB d n zs k j) (hw : okV d n zs (wordS d k j) = true) : okUpB d n zs k (j + 1) := by
  intro x hx
  rw [wordsL_next d k j hj, ← List.append_assoc] at hx
  rcases List.mem_append.1 hx with hx | hx
  · exact h x hx
  · rw [List.mem_singleton.1 hx]; exact hw
theorem okUpB_row (d n : Nat) (zs : List Int) (k : Nat) (h : okUpB d n zs k (d ^ k)) : okUpB d n zs (k + 1) 0 := by
  intro x hx
  rw [List.take_zero, List.append_nil, wordsB_next] at hx
  exact h x (by rwa [List.take_of_length_le (by rw [wordsL_len]; exact Nat.le_refl _)])
theorem okUpB_all (d n : Nat) (zs : List Int) (h : okUpB d n zs n 0) : (wordsB d n).all (okV d n zs) = true := by
  rw [List.all_eq_true]
  exact fun x hx => h x (by simpa using hx)
theorem fill_getD (f : Nat → Int) (d x : Nat) (hx : x < d) : (fillP f d d).getD x 0 = f x := by
  unfold fillP
  rw [List.getD, List.getElem?_map, List.getElem?_range hx]
  simp [hx]
/-- What a row that is read is good for. -/
theorem row_good (d n : Nat) (hd : d = 2 ∨ d = 3) (zs : List Int) (k j : Nat) (hj : j < d ^ k) (h : okUp d (rdL d n zs k j) d = true) :
    okV d n zs (wordS d k j) = true ∧ ∃ q : Nat, nbV d n zs (wordS d k j) = (q : Int) ∧ q < cN d ∧ sRow d q = lstP (rdL d n zs k j) d ∧ ∀ i, i < q → sRow d i ≠ lstP (rdL d n zs k j) d := by
  obtain ⟨q, h1, h2, h3, h4⟩ := pn_good (rdL d n zs k j) d hd (rdL_len _ _ _ _ _) h
  have e := rdV_wordS d n hd zs k j hj
  exact ⟨by unfold okV; rw [e, h2]; rfl, q, by unfold nbV pnN; rw [e, h2], h1, h3, h4⟩
theorem row_bad (d n : Nat) (hd : d = 2 ∨ d = 3) (zs : List Int) (k j : Nat) (hj : j < d ^ k) (i : Nat) (hi : i < d) (h : okUp d (rdL d n zs k j) (i + 1) = false) : okV d n zs (wordS d k j) = false := by
  have h2 := pn_bad (rdL d n zs k j) d i hd (rdL_len _ _ _ _ _) hi h
  unfold okV
  rw [rdV_wordS d n hd zs k j hj, h2]; rfl

def poR (d n : Nat) (zs : List Int) : List Int := if poOk d n zs = true then nbF d n zs (wordsB d n) else []
theorem ret_vb {v : Value} {a b : Bool} (h : a = b) : Ending.returned (.tuple #[v, .bool a]) = Ending.returned (.tuple #[v, .bool b]) := by rw [h]

set_option maxRecDepth 100000 in
set_option maxHeartbeats 4000000 in
theorem l03Read_calls (d n : Nat) (hd : d = 2 ∨ d = 3) (hn : n ≤ 4) (zs : List Int) (v : Value) (w : World) (hv : SeesI w v zs) :
    Calls Tryd.prog 52 #[.int .i64 d, .int .i64 n, v] w fun e w' => ∃ v1, e = .returned (.tuple #[v1, .bool (poOk d n zs)]) ∧ OwnI w' w.heap.size v1 (poR d n zs) ∧ Below w.heap.size w w' := by
  have hd3 : d ≤ 3 := by omega
  obtain ⟨oa, ca, hve, _⟩ := hv.view
  subst hve
  have Hv := Lib.hid hv
  clear hv
  have HPw := Lib.hid (fun k (hk : k ≤ 4) W => l01Power_calls d k hd3 (by omega) W)
  have HPn := Lib.hid (fun W => HPw.out n hn W)
  rw [show pw d n = ((d ^ n : Nat) : Int) from rfl] at HPn
  have hNb := pow_le d n hd3 (by omega)
  by_cases hlen : zs.length = d ^ n
  rotate_left
  · have Hno : Hid (poOk d n zs = false) := Lib.hid (by unfold poOk; rw [decide_eq_false hlen]; rfl)
    have HR0 : Hid (poR d n zs = []) := Lib.hid (by unfold poR; rw [Hno.out]; rfl)
    have hne : ((zs.length : Int) != ((d ^ n : Nat) : Int)) = true := by
      rw [bne_iff_ne]
      intro h
      exact hlen (Int.ofNat.inj h)
    clear hlen
    generalize d ^ n = NN at *
    go_enter Tryd.func52, Tryd.ntmps52
    go_wp2_with (go_at_call 61; refine (HPn.out _).mono ?_; rintro e w' ⟨rfl, rfl⟩)
    go_ret2
    exact ⟨_, ret_vb Hno.out.symm, by rw [HR0.out]; exact OwnI.nil _ _, Below.refl _ _⟩
  have hne : ((zs.length : Int) != ((d ^ n : Nat) : Int)) = false := by rw [hlen]; simp
  have Hlen := Lib.hid hlen
  have HR0 : Hid (poOk d n zs = false → poR d n zs = []) := Lib.hid (fun h => by unfold poR; rw [h]; rfl)
  have Hrg := Lib.hid (po_no_range d n hd hn zs)
  have Hwd := Lib.hid (po_no_word d n zs)
  have hN1 : 1 ≤ d ^ n := Nat.pow_pos (by omega)
  have HIn := Lib.hid (fun z W => l01In_calls z 0 (((d ^ n : Nat) : Int) - 1) W)
  have hws : IntKind.i64.wrap (((d ^ n : Nat) : Int) - 1) = ((d ^ n : Nat) : Int) - 1 := IntWalk.i64_in _ (by omega)
  have Hpo : Hid (∀ h : (wordsB d n).all (okV d n zs) = true, poOk d n zs = decide (imgsP d n (nbF d n zs (wordsB d n)) = zs)) := Lib.hid (fun h => by unfold poOk; rw [h, decide_eq_true hlen]; simp)
  have HisP := Lib.hid (nb_isP d n hd zs)
  have HrE := Lib.hid (fun hr k j x (hi : rdI d n k j x < d ^ n) => rdE_in d n hd hn zs hr k j x (by rw [hlen]; exact hi))
  have HrI := Lib.hid (fun k j x => rdI_lt d n k j x (by omega))
  have HW := Lib.hid (fun k (hk : k ≤ 4) j (hj : j < d ^ k) (W : World) => by
    have := pow_le d k hd3 (by omega)
    exact l01WordOf_calls d hd k (k : Int) (j : Nat) W (by omega) (by omega) (by omega) (by omega) (by omega))
  have HU := Lib.hid (fun k j (hj : j < d ^ k) => upB_next (nbV d n zs) d k j hj)
  have HRw := Lib.hid (upB_row (nbV d n zs) d)
  have HE := Lib.hid (upB_all (nbV d n zs) d n)
  rw [nbF_upB] at HE
  have HLn := Lib.hid (fun k j (hk : k ≤ 4) => upB_len (nbV d n zs) d k j hd3 hk)
  have Hpl := Lib.hid (fun k (hk : k ≤ 4) => pow_le d k hd3 (by omega))
  have Hst := Lib.hid (upB_start (nbV d n zs) d)
  have Hgd := Lib.hid (fun k j hj h => row_good d n hd zs k j hj h)
  have Hbd := Lib.hid (fun k j hj i hi h => row_bad d n hd zs k j hj i hi h)
  have hlz : zs.length ≤ 243 := by omega
  have Him := Lib.hid (fun nb => imgsP_len d n nb)
  clear HW hlen
  generalize hNN : d ^ n = NN at *
  generalize upB (nbV d n zs) d = U at *
  have T1 := Lib.hid trivial
  go_enter Tryd.func52, Tryd.ntmps52
  go_wp2_with (go_at_call 61; refine (HPn.out _).mono ?_; rintro e w' ⟨rfl, rfl⟩)
  go_loopw [9] (fun i wr => ∃ k : Nat, k ≤ zs.length ∧ i = .int .i64 k ∧ Below w.heap.size w wr ∧ Hid (∀ p (hp : p < zs.length), p < k → 0 ≤ zs[p] ∧ zs[p] ≤ (NN : Int) - 1)) (fun i _ => zs.length - (intOf i).toNat)
  case atStart => exact ⟨0, by omega, rfl, Below.refl _ _, Lib.hid (fun p hp h => by omega)⟩
  case round =>
    obtain ⟨k, hk, rfl, hbw, HK⟩ := hrel
    by_cases hlt : k < zs.length
    · have hki : (k : Int) < (zs.length : Int) := by omega
      obtain ⟨g, hg, _, hcz⟩ := (Hv.out.below hbw).at k hlt
      subst hg
      have Hrk := Lib.hid (Hrg.out k hlt)
      have HIk := Lib.hid (HIn.out zs[k])
      have HKn : Hid (0 ≤ zs[k] ∧ zs[k] ≤ (NN : Int) - 1 → ∀ p (hp : p < zs.length), p < k + 1 → 0 ≤ zs[p] ∧ zs[p] ≤ (NN : Int) - 1) := Lib.hid (fun h p hp h2 => by
        by_cases e : p = k
        · subst e; exact h
        · exact HK.out p hp (by omega))
      generalize zs[k] = z at *
      by_cases hin : 0 ≤ z ∧ z ≤ (NN : Int) - 1
      · have hind : decide ((0 : Int) ≤ z ∧ z ≤ (NN : Int) - 1) = true := by simpa using hin
        have HK2 := Lib.hid (HKn.out hin)
        clear hin
        go_wp2_with (go_at_call 30; refine (HIk.out _).mono ?_; rintro e w' ⟨rfl, rfl⟩; rw [hind])
        go_roundw
        case rel => exact ⟨k + 1, by omega, by go_num, hbw, HK2⟩
        case measure => simp [intOf] <;> omega
      · have hind : decide ((0 : Int) ≤ z ∧ z ≤ (NN : Int) - 1) = false := by simpa using hin
        have Hno := Lib.hid (Hrk.out hin)
        clear hin
        go_wp2_with (go_at_call 30; refine (HIk.out _).mono ?_; rintro e w' ⟨rfl, rfl⟩; rw [hind])
        go_ret2
        exact ⟨_, ret_vb Hno.out.symm, by rw [HR0.out Hno.out]; exact OwnI.nil _ _, hbw⟩
    · obtain rfl : k = zs.length := by omega
      have HA : Hid (∀ p (hp : p < zs.length), 0 ≤ zs[p] ∧ zs[p] ≤ (NN : Int) - 1) := Lib.hid (fun p hp => HK.out p hp hp)
      clear HK hk hlt
      go_wp2_with fail
      have hO0 : OwnI (wr.alloc (.cells #[] 2)) w.heap.size (.slice (some ⟨wr.heap.size, 0, none⟩) 0 0) (U 0 0) := by rw [Hst.out]; exact OwnI.empty wr _ 0 #[] hbw.size (by unfold maxLen; omega) rfl
      have hbw0 : Below w.heap.size w (wr.alloc (.cells #[] 2)) := below_step hbw (by (repeat (first | exact Below.refl _ _ | refine below_drew' ?_ | refine below_drewN' ?_ _ | refine below_alloc' ?_ _ | refine below_set' ?_ (by (try simp); (try omega)) _ | refine below_step ?_ (by assumption))))
      clear hbw
      go_loopw [10, 11] (fun o i wl => ∃ k : Nat, k ≤ n ∧ i = .int .i64 k ∧ OwnI wl w.heap.size o (U k 0) ∧ Below w.heap.size w wl ∧ Hid (okUpB d n zs k 0)) (fun _ i _ => n - (intOf i).toNat)
      case atStart => exact ⟨0, by omega, rfl, hO0, hbw0, Lib.hid (fun x hx => by simp [wordsB] at hx)⟩
      case round =>
        clear hO0 hbw0
        obtain ⟨k, hk, rfl, hO, hbw, HOk⟩ := hrel
        by_cases hlt : k < n
        · have hki : (k : Int) < (n : Int) := by omega
          have hk4 : k ≤ 4 := by omega
          have HPk := Lib.hid (HPw.out k hk4)
          rw [show pw d k = ((d ^ k : Nat) : Int) from rfl] at HPk
          have HPr := Lib.hid (HPw.out (n - 1 - k) (by omega))
          rw [show pw d (n - 1 - k) = ((rdR d n k : Nat) : Int) from rfl, show ((n - 1 - k : Nat) : Int) = (n : Int) - (k : Int) - 1 from by omega] at HPr
          have hwa : IntKind.i64.wrap ((n : Int) - (k : Int)) = (n : Int) - (k : Int) := IntWalk.i64_in _ (by omega)
          have hwb : IntKind.i64.wrap ((n : Int) - (k : Int) - 1) = (n : Int) - (k : Int) - 1 := IntWalk.i64_in _ (by omega)
          have hR1 := (HrI.out k 0 0 hlt (Nat.pow_pos (by omega)) (by omega)).2
          have hRb : rdR d n k ≤ 243 := Hpl.out _ (by omega)
          have HIk := Lib.hid (fun j x hj hx => (HrI.out k j x hlt hj hx).1)
          have HEk := Lib.hid (fun j x hi => HrE.out HA.out k j x hi)
          have HUk := Lib.hid (HU.out k)
          have HRk := Lib.hid (HRw.out k)
          have HLk := Lib.hid (fun j => HLn.out k j hk4)
          have Hgk := Lib.hid (Hgd.out k)
          have Hbk := Lib.hid (Hbd.out k)
          have Hwk := Lib.hid (fun j => Hwd.out k j hlt)
          have Hon := Lib.hid (okUpB_next d n zs k)
          have Hor := Lib.hid (okUpB_row d n zs k)
          have hpl := Hpl.out k hk4
          have HX : Hid (∀ j x, rdI d n k j x = (j * d + x) * rdR d n k) := Lib.hid (fun _ _ => rfl)
          have HD : Hid (∀ j x, rdE d n zs k j x = Int.tmod (IntKind.i64.wrap (Int.tdiv (zs.getD (rdI d n k j x) 0) (rdR d n k : Nat))) (d : Int)) := Lib.hid (fun _ _ => rfl)
          have HL : Hid (∀ j, rdL d n zs k j = fillP (rdE d n zs k j) d d) := Lib.hid (fun _ => rfl)
          have Hll := Lib.hid (rdL_len d n zs k)
          clear HPw HU HRw HLn Hpl HE Hgd Hbd Hwd HrI HrE Hpo HisP Hrg HIn HPn Hst
          generalize d ^ k = N at *
          generalize rdI d n k = ix at *
          generalize rdE d n zs k = rf at *
          generalize rdL d n zs k = row at *
          generalize rdR d n k = R at *
          generalize okUpB d n zs k = OB at *
          go_wp2_with (go_at_call 61; refine (HPr.out _).mono ?_; rintro e w' ⟨rfl, rfl⟩)
          clear HPr hwa hwb
          go_loopw [10, 13] (fun o i wx => ∃ j : Nat, j ≤ N ∧ i = .int .i64 j ∧ OwnI wx w.heap.size o (U k j) ∧ Below w.heap.size w wx ∧ Hid (OB j)) (fun _ i _ => N - (intOf i).toNat)
          case atStart => exact ⟨0, by omega, rfl, hO, hbw, HOk⟩
          case round =>
            clear hO hbw HOk
            obtain ⟨j, hj, rfl, hO, hbw, HOk⟩ := hrel
            by_cases hjl : j < N
            · have hji : (j : Int) < (N : Int) := by omega
              have Hn := Lib.hid (HUk.out j hjl)
              have Hl := Lib.hid (HLk.out j)
              have HIj := Lib.hid (fun x hx => HIk.out j x hjl hx)
              have HEj := Lib.hid (fun x hi => HEk.out j x hi)
              have Hgj := Lib.hid (Hgk.out j hjl)
              have Hbj := Lib.hid (Hbk.out j hjl)
              have Hwj := Lib.hid (Hwk.out j hjl)
              have Hoj := Lib.hid (Hon.out j hjl HOk.out)
              have HXj := Lib.hid (HX.out j)
              have HDj := Lib.hid (HD.out j)
              have HLj := Lib.hid (HL.out j)
              have Hlj := Lib.hid (Hll.out j)
              have hzb := (zero_of_info info_b3).1
              have hsb := Lib.hid (zero_of_info info_b3).2
              have hzm := (zero_of_info info_m3').1
              have hsm := Lib.hid (zero_of_info info_m3').2
              have Hob : Hid (over (u8s [0, 0, 0]) 0 (u8s [0, 0, 0]) = u8s (lstP (row j) 0)) := Lib.hid rfl
              have Hom : Hid (over (bls [false, false, false]) 0 (bls [false, false, false]) = bls (metP (row j) 0)) := Lib.hid rfl
              have Hfb : Hid (0 + (u8s [0, 0, 0]).size ≤ (u8s [0, 0, 0]).size) := Lib.hid (Nat.le_refl 3)
              have Hfm : Hid (0 + (bls [false, false, false]).size ≤ (bls [false, false, false]).size) := Lib.hid (Nat.le_refl 3)
              have Hsb : Hid ((Tryd.prog.info? 22).map (·.size) = some (u8s [0, 0, 0]).size) := Lib.hid hsb.out
              have Hsm : Hid ((Tryd.prog.info? 74).map (·.size) = some (bls [false, false, false]).size) := Lib.hid hsm.out
              have hB0 : Blk (((wr.alloc (.cells (u8s [0, 0, 0]) 22)).alloc (.cells (bls [false, false, false]) 74))) wr.heap.size (u8s [0, 0, 0]) 22 := (Blk.new wr _ _).alloc _
              have hM0 : Blk (((wr.alloc (.cells (u8s [0, 0, 0]) 22)).alloc (.cells (bls [false, false, false]) 74))) (wr.heap.size + 1) (bls [false, false, false]) 74 := Blk.new_at _ _ _ _ (by simp)
              have hb0 : Below wr.heap.size wr (((wr.alloc (.cells (u8s [0, 0, 0]) 22)).alloc (.cells (bls [false, false, false]) 74))) := by (repeat (first | exact Below.refl _ _ | refine below_drew' ?_ | refine below_drewN' ?_ _ | refine below_alloc' ?_ _ | refine below_set' ?_ (by (try simp); (try omega)) _ | refine below_step ?_ (by assumption)))
              have hs0 : (((wr.alloc (.cells (u8s [0, 0, 0]) 22)).alloc (.cells (bls [false, false, false]) 74))).heap.size = wr.heap.size + 2 := by simp
              have hwz := hbw.size
              have Hown : Hid (∀ b, u10.ownBlock = some b → b < wr.heap.size) := Lib.hid hO.lt
              have T2 := Lib.hid trivial
              clear HUk HLk HIk HEk Hgk Hbk Hwk HX HD HL Hll
              go_wp2_with (first | (go_at_call 61; refine (HPk.out _).mono ?_; rintro e w' ⟨rfl, rfl⟩) | (with_reducible show wpList _ _ _ _ _ _; first | (refine wpList_build rfl 22 rfl (.agg (u8s [0, 0, 0])) (by kernel_rfl) ?_) | (refine wpList_build rfl 74 rfl (.agg (bls [false, false, false])) (by kernel_rfl) ?_)) | (with_reducible show wpList _ _ _ _ _ _; first | (clear T2; refine wpList_store_row rfl 22 _ _ rfl wr.heap.size 0 (u8s [0, 0, 0]) rfl rfl _ _ hB0 Hfb.out Hsb.out (u8s_one _) _ Hob.out ?_; intro w1 hs1; have hB1 := hs1.blk; have hM1 := hs1.keep (by omega) hM0) | (have q0 := hM1; clear hM1; refine wpList_store_row rfl 74 _ _ rfl (wr.heap.size + 1) 0 (bls [false, false, false]) rfl rfl _ _ q0 Hfm.out Hsm.out (bls_one _) _ Hom.out ?_; intro w2 hs2; have hM2 := hs2.blk; have hB2 := hs2.keep (by omega) hB1)))
              have hb2 := hs2.below _ _ (by omega) (hs1.below _ _ (Nat.le_refl _) hb0)
              have hbw2 := below_step hbw hb2
              have hO2 := hO.below hb2
              clear hB0 hM0 hb0 hB1 q0 hs1 hs2 hzb hzm hb2
              generalize wr.heap.size = s at *
              clear hbw hO
              go_loopw [16] (fun i wy => ∃ x : Nat, x ≤ d ∧ i = .int .i64 x ∧ Blk wy s (u8s (lstP (row j) x)) 22 ∧ Blk wy (s + 1) (bls (metP (row j) x)) 74 ∧ OwnI wy w.heap.size u10 (U k j) ∧ Below w.heap.size w wy ∧ Hid (okUp d (row j) x = true) ∧ s + 2 ≤ wy.heap.size) (fun i _ => d - (intOf i).toNat)
              case atStart => exact ⟨0, by omega, rfl, hB2, hM2, hO2, hbw2, Lib.hid rfl, by have := hM2.lt; omega⟩
              case round =>
                clear hB2 hM2 hO2 hbw2
                obtain ⟨x, hx, rfl, hB, hM, hO, hbw, HUp, hsy⟩ := hrel
                by_cases hxl : x < d
                · have hxi : (x : Int) < (d : Int) := by omega
                  have hx3 : (x : Int) < 3 := by omega
                  have i1 := HIj.out x hxl
                  obtain ⟨e1, e2⟩ := HEj.out x i1
                  have i2 : ix j x < zs.length := by rw [Hlen.out]; exact i1
                  have hxe := HXj.out x
                  have hfe := HDj.out x
                  obtain ⟨g, hg, _, hcz⟩ := (Hv.out.below hbw).at (ix j x) i2
                  subst hg
                  rw [show zs.getD (ix j x) 0 = zs[ix j x] from by simp [List.getD, List.getElem?_eq_getElem i2]] at hfe
                  generalize zs[ix j x] = z at *
                  have hjdb : j * d ≤ 243 * 3 := Nat.mul_le_mul (by omega) hd3
                  have hm1 : IntKind.i64.wrap ((j : Int) * (d : Int)) = ((j * d : Nat) : Int) := by rw [← Int.natCast_mul]; exact IntWalk.i64_in _ (by omega)
                  have hm2 : IntKind.i64.wrap (((j * d : Nat) : Int) + (x : Int)) = ((j * d + x : Nat) : Int) := by rw [← Int.natCast_add]; exact IntWalk.i64_in _ (by omega)
                  have hm3 : IntKind.i64.wrap (((j * d + x : Nat) : Int) * (R : Int)) = ((ix j x : Nat) : Int) := by rw [← Int.natCast_mul, ← hxe]; exact IntWalk.i64_in _ (by omega)
                  have hix : ((ix j x : Nat) : Int) < (zs.length : Int) := by omega
                  rw [show IntKind.i64.wrap (Int.tdiv z (R : Int)) = wrap64 (Int.tdiv z (R : Int)) from IntWalk.i64_left _] at hfe
                  have hgx : (row j).getD x 0 = rf j x := by rw [HLj.out]; exact fill_getD _ _ _ hxl
                  have hrl : x < (row j).length := by rw [Hlj.out]; exact hxl
                  have hge : (row j)[x] = rf j x := by rw [← hgx]; simp [List.getD, List.getElem?_eq_getElem hrl]
                  obtain ⟨y, hy⟩ := Int.eq_ofNat_of_zero_le e1
                  rw [hy] at hgx hge e2 hfe
                  replace hfe := hfe.symm
                  have Hsu := Lib.hid (okUp_succ d (row j) x)
                  rw [HUp.out, Bool.true_and, hgx] at Hsu
                  have Hset := Lib.hid (fillP_set (getZ (row j)) 3 x (y : Int) (by unfold getZ; rw [hgx]))
                  have HM := Lib.hid (metP_set (row j) x y hrl hge)
                  have hy3 : y < 3 := by omega
                  have hyi : (y : Int) < 3 := by omega
                  have e3 := u8s_at (lstP (row j) x) x (by unfold lstP; rw [fillP_len]; omega)
                  generalize (lstP (row j) x).getD x 0 = oldb at e3
                  have e4 := metP_at (row j) x y hy3
                  have hyd : (0 : Int) ≤ (y : Int) ∧ (y : Int) ≤ (d : Int) - 1 := by omega
                  have hw8 : IntKind.u8.wrap (y : Int) = (y : Int) := by simp [IntKind.wrap, IntKind.bits, IntKind.signed]; omega
                  have cM := hM.cell y
                  have fM := hM.free
                  clear hgx hge hrl e1 e2 hy i1 hxe hjdb
                  generalize ix j x = p at *
                  generalize (j * d + x) = q2 at *
                  generalize j * d = q1 at *
                  cases hmem : decide ((y : Int) ∈ (row j).take x)
                  · rw [hmem] at e4
                    have Hok : Hid (okUp d (row j) (x + 1) = true) := Lib.hid (by rw [Hsu.out, hmem]; simp; omega)
                    have hM1 := hM.set y (.bool true)
                    rw [← bls_set, HM.out] at hM1
                    have hB1 := hB.setOther (s + 1) y (.bool true) (by omega)
                    have cB := hB1.cell x
                    rw [e3] at cB
                    have fB := hB1.free
                    have hB2 := hB1.set x (.int .u8 (y : Int))
                    rw [← u8s_set, show (lstP (row j) x).set x (y : Int) = lstP (row j) (x + 1) from Hset.out] at hB2
                    have hM2 := hM1.setOther s x (.int .u8 (y : Int)) (by omega)
                    have hO2 := ownI_at (ownI_at hO (w' := wr.setCell ⟨s + 1, y, none⟩ (.bool true)) (fun b hb => Below.heap_setCell _ _ _ b (by show b ≠ s + 1; have := Hown.out b hb; omega))) (w' := (wr.setCell ⟨s + 1, y, none⟩ (.bool true)).setCell ⟨s, x, none⟩ (.int .u8 (y : Int))) (fun b hb => Below.heap_setCell _ _ _ b (by show b ≠ s; have := Hown.out b hb; omega))
                    have hbw2 := below_set' (o := x) (below_set' (o := y) hbw (b := s + 1) (by omega) (.bool true)) (b := s) hwz (.int .u8 (y : Int))
                    have hsz2 : ((wr.setCell ⟨s + 1, y, none⟩ (.bool true)).setCell ⟨s, x, none⟩ (.int .u8 (y : Int))).heap.size = wr.heap.size := by simp
                    rw [e4] at cM
                    clear hmem e4 e3 hB hM1 Hset HM hB1
                    go_wp2
                    go_roundw
                    case rel => exact ⟨x + 1, by omega, by go_num, hB2, hM2, hO2, hbw2, Hok, by rw [hsz2]; exact hsy⟩
                    case measure => simp [intOf] <;> omega
                  · rw [hmem] at e4
                    have Hno := Lib.hid (Hwj.out (Hbj.out x hxl (by rw [Hsu.out, hmem]; simp)))
                    rw [e4] at cM
                    clear hmem e4 e3
                    go_wp2
                    go_ret2
                    exact ⟨_, ret_vb Hno.out.symm, by rw [HR0.out Hno.out]; exact OwnI.nil _ _, hbw⟩
                · obtain rfl : x = d := by omega
                  obtain ⟨g1, q, g2, g3, g4, g5⟩ := Hgj.out HUp.out
                  have hbt := lstP_ok' (row j) x x HUp.out hd3
                  have HN := Lib.hid (fun W => l03Number_calls x hd (lstP (row j) x) hbt q g3 g4 g5 W)
                  have Hfit : Hid (0 + 3 ≤ (u8s (lstP (row j) x)).size) := Lib.hid (by rw [u8s_size, hbt.1]; exact Nat.le_refl _)
                  have Hcut : Hid (cut (u8s (lstP (row j) x)) 0 3 = u8s (lstP (row j) x)) := Lib.hid (cut_all _ _ (by rw [u8s_size, hbt.1]))
                  have HOn := Lib.hid (Hoj.out g1)
                  rw [g2] at Hn
                  clear g1 g2 g3 g4 g5 hbt HUp hM
                  go_wp2_with (first | (with_reducible show wpList _ _ _ _ _ _; refine wpList_load_blk rfl 22 (.tmp 14) rfl s 0 rfl (u8s (lstP (row j) x)) _ hB 3 Hfit.out _ Tryd.underlying22 rfl hsb.out ?_; rw [Hcut.out]) | (go_at_call 64; refine (HN.out _).mono ?_; rintro e w3 ⟨rfl, hb3⟩; have hO3 := hO.below hb3; have hbw3 := below_step hbw hb3) | (at_builtin; refine wpList_push_int rfl (.tmp 90) (.tmp 94) rfl w.heap.size _ (U k j) rfl (hO3.below (Below.alloc (Below.refl _ _) (Nat.le_refl _) (.cells #[.int .i64 (q : Nat)] 2))) w3.heap.size 1 (q : Nat) rfl (Blk.new w3 _ _) (by have := Hl.out; omega) (by have := hbw3.size; simp; omega) ?_; intro v1 w5 hO5 hb5; have hbw5 := (hbw3.alloc hbw3.size (.cells #[.int .i64 (q : Nat)] 2)).trans hb5))
                  rw [← Hn.out] at hO5
                  go_roundw
                  case rel => exact ⟨j + 1, by omega, by go_num, hO5, hbw5, HOn⟩
                  case measure => simp [intOf] <;> omega
            · obtain rfl : j = N := by omega
              go_wp2_with (go_at_call 61; refine (HPk.out _).mono ?_; rintro e w' ⟨rfl, rfl⟩)
              rw [HRk.out] at hO
              go_roundw
              case rel => exact ⟨k + 1, by omega, by go_num, hO, hbw, Lib.hid (Hor.out HOk.out)⟩
              case measure => simp [intOf] <;> omega
        · obtain rfl : k = n := by omega
          have hall := okUpB_all d k zs HOk.out
          have HLp := Lib.hid (fun v W h => l03Permutation_calls d k hd hn (nbF d k zs (wordsB d k)) (HisP.out hall) v W h)
          have Hp2 := Lib.hid (Hpo.out hall)
          have Him2 := Lib.hid (Him.out (nbF d k zs (wordsB d k)))
          have HR1 : Hid (poOk d k zs = true → poR d k zs = nbF d k zs (wordsB d k)) := Lib.hid (fun h => by unfold poR; rw [if_pos h])
          rw [HE.out] at hO
          clear hall HOk HPw HU HRw HLn Hpl HE Hgd Hbd Hwd HrI HrE Hpo HisP Hrg HIn HPn Hst Him HA
          generalize nbF d k zs (wordsB d k) = nb at *
          generalize imgsP d k nb = im at *
          have hiz : im.length = zs.length := by rw [Him2.out, Hlen.out]
          have Hiz := Lib.hid hiz
          clear hiz Him2
          go_wp2_with (go_at_call 49; refine (HLp.out _ _ hO.sees).mono ?_; rintro e w5 ⟨v5, rfl, hO5, hb5⟩; have hO6 := hO.below hb5; have hbw5 := below_step hbw hb5; obtain ⟨o5, c5, rfl, hq5⟩ := hO5.view; clear hq5; have hS5 := hO5.sees)
          clear hO hbw hO5 hb5
          go_loopw [19] (fun i wy => ∃ p : Nat, p ≤ zs.length ∧ i = .int .i64 p ∧ OwnI wy w.heap.size u10 nb ∧ SeesI wy (.slice o5 im.length c5) im ∧ Below w.heap.size w wy ∧ Hid (∀ i, i < p → im.getD i 0 = zs.getD i 0)) (fun i _ => zs.length - (intOf i).toNat)
          case atStart => exact ⟨0, by omega, rfl, hO6, hS5, hbw5, Lib.hid (fun i hi => by omega)⟩
          case round =>
            clear hO6 hS5 hbw5
            obtain ⟨p, hp, rfl, hO, hS, hbw, HEq⟩ := hrel
            by_cases hpl : p < zs.length
            · have hpi : (p : Int) < (zs.length : Int) := by omega
              have hpm : p < im.length := by rw [Hiz.out]; exact hpl
              have hpmi : (p : Int) < (im.length : Int) := by omega
              obtain ⟨g5, hg5, _, c1⟩ := hS.at p hpm
              obtain ⟨g, hg, _, c2⟩ := (Hv.out.below hbw).at p hpl
              subst hg5 hg
              have ez : zs.getD p 0 = zs[p] := by simp [List.getD, List.getElem?_eq_getElem hpl]
              have ei : im.getD p 0 = im[p] := by simp [List.getD, List.getElem?_eq_getElem hpm]
              have HE2 : Hid (im[p] = zs[p] → ∀ i, i < p + 1 → im.getD i 0 = zs.getD i 0) := Lib.hid (fun h i hi => by
                by_cases e : i = p
                · subst e; rw [ei, ez, h]
                · exact HEq.out i (by omega))
              have HD2 : Hid (im[p] ≠ zs[p] → poOk d k zs = false) := Lib.hid (fun h => by
                rw [Hp2.out]
                refine decide_eq_false (fun e => h ?_)
                have : im.getD p 0 = zs.getD p 0 := by rw [e]
                rwa [ei, ez] at this)
              clear ez ei
              generalize im[p] = z1 at *
              generalize zs[p] = z2 at *
              by_cases hz : z1 = z2
              · have hzb : (z1 != z2) = false := by rw [hz]; simp
                have HE3 := Lib.hid (HE2.out hz)
                clear hz
                go_wp2
                go_quiet (fail)
                go_wp2
                go_roundw
                case rel => exact ⟨p + 1, by omega, by go_num, hO.below (by (repeat (first | exact Below.refl _ _ | refine below_drew' ?_ | refine below_drewN' ?_ _ | refine below_alloc' ?_ _ | refine below_set' ?_ (by (try simp); (try omega)) _ | refine below_step ?_ (by assumption)))), hS.below (by (repeat (first | exact Below.refl _ _ | refine below_drew' ?_ | refine below_drewN' ?_ _ | refine below_alloc' ?_ _ | refine below_set' ?_ (by (try simp); (try omega)) _ | refine below_step ?_ (by assumption)))), below_step hbw (by (repeat (first | exact Below.refl _ _ | refine below_drew' ?_ | refine below_drewN' ?_ _ | refine below_alloc' ?_ _ | refine below_set' ?_ (by (try simp); (try omega)) _ | refine below_step ?_ (by assumption)))), HE3⟩
                case measure => simp [intOf] <;> omega
              · have hzb : (z1 != z2) = true := by simpa using hz
                have Hno := Lib.hid (HD2.out hz)
                clear hz
                go_wp2
                go_quiet (fail)
                go_wp2
                go_ret2
                exact ⟨_, ret_vb Hno.out.symm, by rw [HR0.out Hno.out]; exact OwnI.nil _ _, below_step hbw (by (repeat (first | exact Below.refl _ _ | refine below_drew' ?_ | refine below_drewN' ?_ _ | refine below_alloc' ?_ _ | refine below_set' ?_ (by (try simp); (try omega)) _ | refine below_step ?_ (by assumption))))⟩
            · obtain rfl : p = zs.length := by omega
              have Hyes : Hid (poOk d k zs = true) := Lib.hid (by
                rw [Hp2.out]
                refine decide_eq_true ?_
                apply List.ext_getElem Hiz.out
                intro i h1 h2
                have := HEq.out i h2
                simpa [List.getD, List.getElem?_eq_getElem h1, List.getElem?_eq_getElem h2] using this)
              go_wp2
              go_ret2
              exact ⟨_, ret_vb Hyes.out.symm, by rw [HR1.out Hyes.out]; exact hO, hbw⟩
end Go.Proofs.YtgeihpaealomkaaDoor

namespace Go.Proofs.YtgeihpaealomkaaDoor
open Go.RowKit

set_option maxRecDepth 100000 in
set_option maxHeartbeats 1000000 in
theorem sPortraitOfPermutation_calls (d n : Int) (v : Value) (zs : List Int) (w : World) (hv : SeesI w v zs) :
    Calls Tryd.prog 23 #[.int .i64 d, .int .i64 n, v] w fun e w' => ∃ v1, e = .returned (.tuple #[v1, .int .i64 (poC d n zs)]) ∧ OwnI w' w.heap.size v1 (poL d n zs) ∧ Below w.heap.size w w' := by
  obtain ⟨oa, ca, hve, _⟩ := hv.view
  subst hve
  have Hv := Lib.hid hv
  have HS := Lib.hid (fun W => l03Sizes_calls d n W)
  rw [← sizes_same] at HS
  clear hv
  by_cases hc : codeE d n = 0
  · obtain ⟨k1, k2⟩ := codeE_zero d n hc
    have hs : (isAlpha d && (decide (1 ≤ n) && decide (n ≤ 4))) = true := by
      unfold codeE at hc
      split at hc
      · assumption
      · omega
    rw [hs] at HS
    obtain ⟨m, rfl⟩ := Int.eq_ofNat_of_zero_le (a := n) (by omega)
    obtain ⟨c, rfl⟩ := Int.eq_ofNat_of_zero_le (a := d) (by omega)
    have Hpc : Hid (poC c m zs = if poOk c m zs then 0 else 5) := Lib.hid (by unfold poC; rw [if_pos hc, Int.toNat_natCast, Int.toNat_natCast])
    have HpL : Hid (poL c m zs = if poC c m zs = 0 then nbF c m zs (wordsB c m) else []) := Lib.hid (by unfold poL; rw [Int.toNat_natCast, Int.toNat_natCast])
    have HRd := Lib.hid (fun W h => l03Read_calls c m (by omega) (by omega) zs (.slice oa zs.length ca) W h)
    have HR1 : Hid (poOk c m zs = true → poR c m zs = nbF c m zs (wordsB c m)) := Lib.hid (fun h => by unfold poR; rw [if_pos h])
    clear k1 k2 hs hc
    cases ho : poOk c m zs
    · have Hc5 : Hid (poC c m zs = 5) := Lib.hid (by rw [Hpc.out, ho]; rfl)
      have Hl5 : Hid (poL c m zs = []) := Lib.hid (by rw [HpL.out, Hc5.out]; rfl)
      rw [ho] at HRd
      clear ho
      go_enter Tryd.func23, Tryd.ntmps23
      go_wp2_with (first | (go_at_call 51; refine (HS.out _).mono ?_; rintro e w1 ⟨rfl, hb1⟩) | (go_at_call 52; refine (HRd.out _ (Hv.out.below hb1)).mono ?_; rintro e w2 ⟨v1, rfl, hO2, hb2⟩))
      go_ret2
      exact ⟨_, ret_lw Hc5.out.symm, by rw [Hl5.out]; exact OwnI.nil _ _, below_step hb1 hb2⟩
    · have Hc5 : Hid (poC c m zs = 0) := Lib.hid (by rw [Hpc.out, ho]; rfl)
      have Hl5 : Hid (poL c m zs = poR c m zs) := Lib.hid (by rw [HpL.out, Hc5.out, HR1.out ho]; rfl)
      rw [ho] at HRd
      clear ho
      go_enter Tryd.func23, Tryd.ntmps23
      go_wp2_with (first | (go_at_call 51; refine (HS.out _).mono ?_; rintro e w1 ⟨rfl, hb1⟩) | (go_at_call 52; refine (HRd.out _ (Hv.out.below hb1)).mono ?_; rintro e w2 ⟨v1, rfl, hO2, hb2⟩))
      go_ret2
      exact ⟨_, ret_lw Hc5.out.symm, by rw [Hl5.out]; exact hO2.base_le' hb1.size, below_step hb1 hb2⟩
  · have hs : (isAlpha d && (decide (1 ≤ n) && decide (n ≤ 4))) = false := by
      cases hb : (isAlpha d && (decide (1 ≤ n) && decide (n ≤ 4)))
      · rfl
      · exact absurd (by unfold codeE; rw [hb]; rfl) hc
    rw [hs] at HS
    have Hpc : Hid (poC d n zs = 2) := Lib.hid (by unfold poC; rw [if_neg hc])
    have HpL : Hid (poL d n zs = []) := Lib.hid (by unfold poL; rw [Hpc.out]; rfl)
    clear hs hc
    go_enter Tryd.func23, Tryd.ntmps23
    go_wp2_with (go_at_call 51; refine (HS.out _).mono ?_; rintro e w1 ⟨rfl, hb1⟩)
    go_ret2
    exact ⟨_, ret_lw Hpc.out.symm, by rw [HpL.out]; exact OwnI.nil _ _, hb1⟩
end Go.Proofs.YtgeihpaealomkaaDoor
