/- 'kindFrom', 'kindsOf': the program. · 'kindsOf': the program. -/
import Derived.Test.YtdbdoohcpcjfdaaKiJ
import Derived.Test.YtdbdoohcpcjfdaaKiL
namespace Go.Proofs.Ytdbdoohcpcjfdaa
open Go.RowKit

/-- The kinds of all states. -/
def kC (f : Nat → Nat) : Array Value := ((List.range 16).map fun i => kV (f i)).toArray
theorem kC_size (f : Nat → Nat) : (kC f).size = 16 := by simp [kC]
theorem kC_at (f : Nat → Nat) (i : Nat) (hi : i < 16) : (kC f)[i]? = some (kV (f i)) := by simp [kC, hi]
theorem kC_set (f : Nat → Nat) (i n : Nat) : (kC f).setIfInBounds i (kV n) = kC fun j => if j = i then n else f j := by
  apply Array.ext_getElem?
  intro j
  rw [Array.getElem?_setIfInBounds, kC_size]
  by_cases hj : j < 16
  · rw [kC_at (fun j => if j = i then n else f j) j hj, kC_at f j hj]
    by_cases h : i = j
    · subst h; rw [if_pos rfl, if_pos hj]; simp
    · rw [if_neg h]
      show some (kV (f j)) = some (kV (if j = i then n else f j))
      rw [if_neg (fun e => h e.symm)]
  · have h1 : (kC f)[j]? = none := Array.getElem?_eq_none (by rw [kC_size]; omega)
    have h2 : (kC fun j => if j = i then n else f j)[j]? = none := Array.getElem?_eq_none (by rw [kC_size]; omega)
    rw [h1, h2]
    split
    · rw [if_neg (by omega)]
    · rfl
theorem kC_one (f : Nat → Nat) : (kC f).all (·.oneCell') = true := by
  rw [Array.all_eq_true_iff_forall_mem]
  intro v hv
  simp only [kC, List.mem_toArray, List.mem_map] at hv
  obtain ⟨n, _, rfl⟩ := hv
  unfold kV
  split
  · rfl
  · split <;> rfl
theorem kC_congr {f g : Nat → Nat} (h : ∀ i, i < 16 → f i = g i) : kC f = kC g := by
  unfold kC
  exact congrArg _ (List.map_congr_left fun i hi => by rw [h i (List.mem_range.1 hi)])
def nilK : Array Value := (List.replicate 16 Value.nilIface).toArray
theorem info_k16 : (Try.prog.info? 69).map (fun i => (i.zero, i.size)) = some (some (.agg nilK), 16) := by kernel_rfl
theorem zero_k16 : ∀ w, (zeroValue 69).run Try.prog w = .ok (.agg nilK) w := (zero_of_info info_k16).1
theorem size_k16 : (Try.prog.info? 69).map (·.size) = some 16 := (zero_of_info info_k16).2

theorem mxF_bd {c : Nat → Bool} {f : Nat → Nat} {N : Nat} (hN : N ≤ 900) : ∀ n, n ≤ 16 → (∀ i, i < 16 → f i = kE ∨ f i ≤ N) → mxF c f n = kE ∨ mxF c f n ≤ N
  | 0, _, _ => .inr (Nat.zero_le _)
  | n + 1, hn, h => by
    have hE : kE = 1000 := rfl
    have ih := mxF_bd (c := c) hN n (by omega) h
    have h1 := h n (by omega)
    unfold mxF
    split
    · omega
    · exact ih
theorem mxF_yes {c : Nat → Bool} {f : Nat → Nat} {n : Nat} (h : c n = true) : mxF c f (n + 1) = max (mxF c f n) (f n) := by rw [mxF, if_pos h]
theorem mxF_no {c : Nat → Bool} {f : Nat → Nat} {n : Nat} (h : c n = false) : mxF c f (n + 1) = mxF c f n := by rw [mxF, h]; rfl
theorem tuM_le (m : Mach) (L : Nat) (T : Rl) (q : Nat) : tuM m L T q ≤ L := cntB_le _ _

set_option maxRecDepth 100000 in
set_option maxHeartbeats 2000000 in
theorem kindFrom_calls (m : Mach) (L K : Nat) (hg : Good m L K) (hst : ∀ q, q < K → stayUp m q L = trivB m L K q) (f : Nat → Nat) (N : Nat) (hN : N ≤ 900) (hf : ∀ i, i < 16 → f i = kE ∨ f i ≤ N) (g q : Nat) (hq : q < K) (w : World) (hP : Blk w g (psC m (rA m L K)) 107) :
    Calls Try.prog 75 #[.pointer (some ⟨g, 0, none⟩), .int .i64 (q : Int), .agg (kC f)] w fun e w' => e = .returned (kV (kfR K (rA m L K) (trivB m L K) (tuM m L (rA m L K)) f q)) ∧ Below w.heap.size w w' := by
  have hok := hg.ok
  have hS16 := hg.S16
  have hL3 := hg.L3
  have hEv : kE = 1000 := rfl
  have hcS := mc_S m
  rw [hg.hS] at hcS
  have cS := (psC_mach hok (rA m L K) 1 (by omega)).trans hcS
  have Hsz := Lib.hid (psC_size hok (rA m L K))
  have Hcut := Lib.hid (psC_cut hok (rA m L K))
  have hK0 : Blk (w.alloc (.cells (kC f) 69)) w.heap.size (kC f) 69 := Blk.new _ _ _
  have hP0 := hP.alloc (.cells (kC f) 69)
  have hbw0 : Below w.heap.size w (w.alloc (.cells (kC f) 69)) := by (repeat (first | exact Below.refl _ _ | refine below_drew' ?_ | refine below_drewN' ?_ _ | refine below_alloc' ?_ _ | refine below_set' ?_ (by (try simp); (try omega)) _ | refine below_step ?_ (by assumption)))
  have hgl := hP.lt
  have hq16 : (q : Int) < 16 := by omega
  have Hst := Lib.hid (fun W => staysTrivial_calls m hok L hg.hL hL3 q (by omega) W)
  rw [hst q hq] at Hst
  have HTu := Lib.hid (fun r hr W h => turns_calls m L K hg (rA m L K) g r hr W h)
  have Hat := Lib.hid (fun p r hp hr => psC_at hok (rA m L K) p r hp hr)
  have Hf := Lib.hid hf
  have Hle := Lib.hid (fun r => tuM_le m L (rA m L K) r)
  have Hun : Hid (kfR K (rA m L K) (trivB m L K) (tuM m L (rA m L K)) f q = if trivB m L K q then 0 else if mxF (fun r => rA m L K q r && rA m L K r q) (tuM m L (rA m L K)) K = 0 then mxF (fun r => rA m L K q r && !rA m L K r q) f K else if mxF (fun r => rA m L K q r && rA m L K r q) (tuM m L (rA m L K)) K = 1 then kCyc (mxF (fun r => rA m L K q r && !rA m L K r q) f K) else kE) := Lib.hid rfl
  generalize kfR K (rA m L K) (trivB m L K) (tuM m L (rA m L K)) f q = ans at *
  cases hv : trivB m L K q
  rotate_left
  · rw [hv] at Hst
    have Hr : Hid (ans = 0) := Lib.hid (by rw [Hun.out, hv]; rfl)
    clear hv hcS hst hf hg hP cS
    go_enter Try.func75, Try.ntmps75
    go_wp2_with (first | (with_reducible show wpList _ _ _ _ _ _; refine wpList_load_blk rfl 28 (.tmp 12) rfl g 0 rfl (psC m (rA m L K)) _ hP0 98 (by rw [Hsz.out]; omega) _ Try.underlying28 rfl size_mach ?_; rw [Hcut.out]) | (go_at_call 63; refine (Hst.out _).mono ?_; rintro e w1 ⟨rfl, hb1⟩))
    go_ret
    exact ⟨by rw [Hr.out]; rfl, below_step hbw0 hb1⟩
  · rw [hv] at Hst
    have Hun2 : Hid (ans = if mxF (fun r => rA m L K q r && rA m L K r q) (tuM m L (rA m L K)) K = 0 then mxF (fun r => rA m L K q r && !rA m L K r q) f K else if mxF (fun r => rA m L K q r && rA m L K r q) (tuM m L (rA m L K)) K = 1 then kCyc (mxF (fun r => rA m L K q r && !rA m L K r q) f K) else kE) := Lib.hid (by rw [Hun.out, hv, if_neg (by simp)])
    have Hbb := Lib.hid (fun n hn => mxF_bd (c := fun r => rA m L K q r && !rA m L K r q) (f := f) hN n hn hf)
    have Hty := Lib.hid (fun r h => mxF_yes (c := fun r => rA m L K q r && rA m L K r q) (f := tuM m L (rA m L K)) (n := r) h)
    have Htn := Lib.hid (fun r h => mxF_no (c := fun r => rA m L K q r && rA m L K r q) (f := tuM m L (rA m L K)) (n := r) h)
    have Hby := Lib.hid (fun r h => mxF_yes (c := fun r => rA m L K q r && !rA m L K r q) (f := f) (n := r) h)
    have Hbn := Lib.hid (fun r h => mxF_no (c := fun r => rA m L K q r && !rA m L K r q) (f := f) (n := r) h)
    have Htl := Lib.hid (fun n => mxF_le (c := fun r => rA m L K q r && rA m L K r q) (f := tuM m L (rA m L K)) (b := L) n (fun i _ _ => Hle.out i))
    have Ht0 : Hid (mxF (fun r => rA m L K q r && rA m L K r q) (tuM m L (rA m L K)) 0 = 0) := Lib.hid rfl
    have Hb0 : Hid (mxF (fun r => rA m L K q r && !rA m L K r q) f 0 = 0) := Lib.hid rfl
    generalize hmt : mxF (fun r => rA m L K q r && rA m L K r q) (tuM m L (rA m L K)) = mt at *
    generalize hmb : mxF (fun r => rA m L K q r && !rA m L K r q) f = mb at *
    clear hv hcS hst hf Hun hmt hmb hg hP
    go_enter Try.func75, Try.ntmps75
    go_wp2_with (first | (with_reducible show wpList _ _ _ _ _ _; refine wpList_load_blk rfl 28 (.tmp 12) rfl g 0 rfl (psC m (rA m L K)) _ hP0 98 (by rw [Hsz.out]; omega) _ Try.underlying28 rfl size_mach ?_; rw [Hcut.out]) | (go_at_call 63; refine (Hst.out _).mono ?_; rintro e w1 ⟨rfl, hb1⟩; have hK1 := hK0.keptAll hb1; have hP1 := hP0.keptAll hb1; have cS1 := hP1.cell 1; rw [cS] at cS1))
    have hbw1 := below_step hbw0 hb1
    clear cS1 hK0 hP0 hbw0 hb1
    go_loopw [7, 8, 25] (fun bv tv i wr => ∃ r : Nat, r ≤ K ∧ i = .int .i64 r ∧ bv = kV (mb r) ∧ tv = .int .i64 ((mt r : Nat) : Int) ∧ (Blk wr w.heap.size (kC f) 69 ∧ Blk wr g (psC m (rA m L K)) 107) ∧ Below w.heap.size w wr) (fun _ _ i _ => K - (intOf i).toNat)
    case atStart => exact ⟨0, by omega, rfl, by rw [Hb0.out]; rfl, by rw [Ht0.out]; rfl, ⟨hK1, hP1⟩, hbw1⟩
    case round =>
      clear hK1 hP1 hbw1
      obtain ⟨r, hr, rfl, rfl, rfl, ⟨hK, hP⟩, hbw⟩ := hrel
      by_cases hrK : r < K
      · have hri : (r : Int) < (K : Int) := by omega
        have hr16 : (r : Int) < 16 := by omega
        have p1 := hP.cell (98 + q * 16 + r)
        rw [Hat.out q r (by omega) (by omega)] at p1
        have p2 := hP.cell (98 + r * 16 + q)
        rw [Hat.out r q (by omega) (by omega)] at p2
        cases h1 : rA m L K q r
        · rw [h1] at p1
          have Hs1 := Lib.hid (Hbn.out r (by rw [h1]; rfl))
          have Hs2 := Lib.hid (Htn.out r (by rw [h1]; rfl))
          clear h1 p2
          go_wp2
          go_roundw
          case rel => exact ⟨r + 1, by omega, by go_num, by rw [Hs1.out], by rw [Hs2.out], ⟨hK, hP⟩, hbw⟩
          case measure => simp [intOf] <;> omega
        · rw [h1] at p1
          cases h2 : rA m L K r q
          · rw [h2] at p2
            have Hs1 := Lib.hid (Hby.out r (by rw [h1, h2]; rfl))
            have Hs2 := Lib.hid (Htn.out r (by rw [h1, h2]; rfl))
            have hb := Hbb.out r (by omega)
            have hfr := Hf.out r (by omega)
            have HG := Lib.hid (fun W => greaterKind_calls (mb r) (f r) (by omega) (by omega) W)
            have pk := hK.cell r
            rw [kC_at f r (by omega)] at pk
            clear h1 h2 hb hfr
            generalize mb r = b0 at *
            generalize f r = fr at *
            go_wp2_with (go_at_call 86; refine (HG.out _).mono ?_; rintro e w2 ⟨rfl, hb2⟩)
            go_roundw
            case rel => exact ⟨r + 1, by omega, by go_num, by rw [Hs1.out], by rw [Hs2.out], ⟨hK.keptAll hb2, hP.keptAll hb2⟩, below_step hbw hb2⟩
            case measure => simp [intOf] <;> omega
          · rw [h2] at p2
            have Hs1 := Lib.hid (Hbn.out r (by rw [h1, h2]; rfl))
            have Hs2 := Lib.hid (Hty.out r (by rw [h1, h2]; rfl))
            have HT := Lib.hid (HTu.out r hrK wr hP)
            have hb1 := Htl.out r
            have hb2 := Hle.out r
            clear h1 h2
            have hmx : (((max (mt r) (tuM m L (rA m L K) r) : Nat) : Int)) = max (mt r : Int) (tuM m L (rA m L K) r : Int) := by omega
            have Hv : Hid (Value.int .i64 (max (mt r : Int) (tuM m L (rA m L K) r : Int)) = .int .i64 ((mt (r + 1) : Nat) : Int)) := Lib.hid (by rw [Hs2.out, hmx])
            clear hmx Hs2
            generalize mt r = t0 at *
            generalize tuM m L (rA m L K) r = tr at *
            go_wp2_with (go_at_call 85; refine HT.out.mono ?_; rintro e w2 ⟨rfl, hb3⟩)
            go_roundw
            case rel => exact ⟨r + 1, by omega, by go_num, by rw [Hs1.out], Hv.out, ⟨hK.keptAll hb3, hP.keptAll hb3⟩, below_step hbw hb3⟩
            case measure => simp [intOf] <;> omega
      · have hrn : ¬ ((r : Int) < (K : Int)) := by omega
        have hre : r = K := by omega
        have Hun3 : Hid (ans = if mt r = 0 then mb r else if mt r = 1 then kCyc (mb r) else kE) := Lib.hid (by rw [hre]; exact Hun2.out)
        have hb := Hbb.out r (by omega)
        have htl := Htl.out r
        clear hre
        generalize mb r = b0 at *
        generalize mt r = t0 at *
        by_cases h0 : t0 = 0
        · have Hr : Hid (ans = b0) := Lib.hid (by rw [Hun3.out, if_pos h0])
          have e0 : ((t0 : Int) == 0) = true := by rw [h0]; rfl
          clear h0
          go_wp2
          go_ret
          exact ⟨ret_kV Hr.out.symm, hbw⟩
        · have e0 : ((t0 : Int) == 0) = false := by rw [beq_eq_false_iff_ne]; omega
          by_cases h1 : t0 = 1
          · have Hr : Hid (ans = kCyc b0) := Lib.hid (by rw [Hun3.out, if_neg h0, if_pos h1])
            have e1 : ((t0 : Int) == 1) = true := by rw [h1]; rfl
            obtain ⟨t1, r1, f1, ek, mk, cf, hc⟩ := cyc_of b0 (by omega)
            have EK := Lib.hid ek
            have HC := Lib.hid hc
            clear h0 h1 ek hc hb
            rw [EK.out]
            go_wp2_with (with_reducible refine (HC.out _).mono ?_; rintro e w2 ⟨rfl, hb2⟩)
            go_ret
            exact ⟨ret_kV Hr.out.symm, below_step hbw hb2⟩
          · have e1 : ((t0 : Int) == 1) = false := by rw [beq_eq_false_iff_ne]; omega
            have Hr : Hid (ans = kE) := Lib.hid (by rw [Hun3.out, if_neg h0, if_neg h1])
            clear h0 h1
            go_wp2
            go_ret
            exact ⟨ret_kV Hr.out.symm, hbw⟩
end Go.Proofs.Ytdbdoohcpcjfdaa

namespace Go.Proofs.Ytdbdoohcpcjfdaa
open Go.RowKit

/-- The first i are finitary, behind them nothing. -/
def kF (i : Nat) : Array Value := ((List.range 16).map fun j => if j < i then kV 0 else Value.nilIface).toArray
theorem kF_zero : nilK = kF 0 := by unfold nilK kF; simp only [Nat.not_lt_zero, if_false]; rfl
theorem kF_all : kF 16 = kC fun _ => 0 := by
  unfold kF kC
  exact congrArg _ (List.map_congr_left fun i hi => by rw [if_pos (List.mem_range.1 hi)])
theorem kF_at (i j : Nat) (hj : j < 16) : (kF i)[j]? = some (if j < i then kV 0 else Value.nilIface) := by simp [kF, hj]
theorem kF_set (i : Nat) : (kF i).setIfInBounds i (kV 0) = kF (i + 1) := by
  apply Array.ext_getElem?
  intro j
  have hs : ∀ i, (kF i).size = 16 := fun i => by simp [kF]
  rw [Array.getElem?_setIfInBounds, hs]
  by_cases hj : j < 16
  · rw [kF_at i j hj, kF_at (i + 1) j hj]
    by_cases h : i = j
    · subst h; rw [if_pos rfl, if_pos hj, if_pos (Nat.lt_succ_self i)]
    · rw [if_neg h]
      by_cases h2 : j < i
      · rw [if_pos h2, if_pos (show j < i + 1 by omega)]
      · rw [if_neg h2, if_neg (show ¬ j < i + 1 by omega)]
  · have h1 : ∀ i, (kF i)[j]? = none := fun i => Array.getElem?_eq_none (by rw [hs]; omega)
    rw [h1, h1]
    split
    · rw [if_neg (by omega)]
    · rfl
/-- What is right after t rounds and i states of the next one. -/
structure KInv (K : Nat) (A : Rl) (tk : Nat → Nat) (t i : Nat) (f : Nat → Nat) : Prop where
  old : ∀ q, q < K → rkR K A q ≤ t → f q = tk q
  now : ∀ q, q < i → q < K → rkR K A q ≤ t + 1 → f q = tk q
  bd : ∀ j, j < 16 → f j = kE ∨ f j ≤ t * 16 + i
theorem KInv.start (K : Nat) (A : Rl) (tk : Nat → Nat) : KInv K A tk 0 0 fun _ => 0 :=
  ⟨fun q hq h => by have := rkR_pos (K := K) (B := A) hq; omega, fun _ h => absurd h (by omega), fun _ _ => .inr (Nat.zero_le _)⟩
theorem KInv.step {K : Nat} {A B : Rl} {V : Nat → Bool} {tu db : Nat → Nat} (h : Kin K A B V tu db) (hK : K ≤ 16) {t i : Nat} {f : Nat → Nat} (hi : KInv K A (tkK K B db) t i f) (hik : i < K) (hN : t * 16 + i ≤ 900) :
    KInv K A (tkK K B db) t (i + 1) fun j => if j = i then kfR K A V tu f i else f j := by
  have hE : kE = 1000 := rfl
  have hfix : rkR K A i ≤ t + 1 → kfR K A V tu f i = tkK K B db i := fun hr => h.fix hK f i hik fun r hrK h1 h2 => by
    have := rkR_less h.at_ hik h1 h2
    exact hi.old r hrK (by omega)
  refine ⟨fun q hq hr => ?_, fun q hq hqK hr => ?_, fun j hj => ?_⟩
  · by_cases e : q = i
    · subst e
      show (if q = q then _ else _) = _
      rw [if_pos rfl]
      exact hfix (by omega)
    · show (if q = i then _ else _) = _
      rw [if_neg e]
      exact hi.old q hq hr
  · by_cases e : q = i
    · subst e
      show (if q = q then _ else _) = _
      rw [if_pos rfl]
      exact hfix hr
    · show (if q = i then _ else _) = _
      rw [if_neg e]
      exact hi.now q (by omega) hqK hr
  · by_cases e : j = i
    · show (if j = i then _ else _) = kE ∨ (if j = i then _ else _) ≤ _
      rw [if_pos e]
      have hb := mxF_bd (c := fun r => A i r && !A r i) (f := f) hN K hK hi.bd
      unfold kfR
      split
      · exact .inr (Nat.zero_le _)
      · split
        · omega
        · split
          · unfold kCyc
            split
            · exact .inl rfl
            · omega
          · exact .inl rfl
    · show (if j = i then _ else _) = kE ∨ (if j = i then _ else _) ≤ _
      rw [if_neg e]
      have := hi.bd j hj
      omega
theorem KInv.row {K : Nat} {A : Rl} {tk : Nat → Nat} {t : Nat} {f : Nat → Nat} (hK : K ≤ 16) (hi : KInv K A tk t K f) : KInv K A tk (t + 1) 0 f :=
  ⟨fun q hq hr => hi.now q hq hq hr, fun _ h => absurd h (by omega), fun j hj => by have := hi.bd j hj; omega⟩

set_option maxRecDepth 100000 in
set_option maxHeartbeats 4000000 in
theorem kindsOf_calls (m : Mach) (L K : Nat) (hg : Good m L K) (hst : ∀ q, q < K → stayUp m q L = trivB m L K q) (w : World) :
    Calls Try.prog 53 #[.agg (mc m)] w fun e w' => (∃ f, e = .returned (.agg (kC f)) ∧ (∀ q, q < K → f q = tkK K (rB m L K) (dbV m L K (rB m L K)) q) ∧ ∀ i, i < 16 → f i ≤ kE) ∧ Below w.heap.size w w' := by
  have hok := hg.ok
  have hS16 := hg.S16
  have hEv : kE = 1000 := rfl
  have hcS := mc_S m
  rw [hg.hS] at hcS
  have HcS := Lib.hid hcS
  have hzk := zero_k16
  have Hzk : Hid (nilK.size = 16) := Lib.hid (by simp [nilK])
  have F1 : Hid (cut (mc m) 0 98 = mc m) := Lib.hid (cut_all _ _ (mc_size hok))
  have F2 : Hid (0 + 98 ≤ (mc m).size) := Lib.hid (by rw [mc_size hok]; omega)
  have HPa := Lib.hid (fun W => passagesOf_calls m L K hg W)
  have HKf := Lib.hid (fun f N hN hf g q hq W hP => kindFrom_calls m L K hg hst f N hN hf g q hq W hP)
  have HKin := Lib.hid (kin_of hg)
  have H0 := Lib.hid kF_zero
  have Hall := Lib.hid kF_all
  have Hsz := Lib.hid kC_size
  have Hset := Lib.hid kF_set
  have hM0 : Blk ((w.alloc (.cells (mc m) 28)).alloc (.cells nilK 69)) w.heap.size (mc m) 28 := (Blk.new w _ _).alloc _
  have hR0 : Blk ((w.alloc (.cells (mc m) 28)).alloc (.cells nilK 69)) (w.heap.size + 1) nilK 69 := Blk.new_at _ _ _ _ (by simp)
  have hsz0 : ((w.alloc (.cells (mc m) 28)).alloc (.cells nilK 69)).heap.size = w.heap.size + 2 := by simp
  have hbw0 : Below w.heap.size w ((w.alloc (.cells (mc m) 28)).alloc (.cells nilK 69)) := by (repeat (first | exact Below.refl _ _ | refine below_drew' ?_ | refine below_drewN' ?_ _ | refine below_alloc' ?_ _ | refine below_set' ?_ (by (try simp); (try omega)) _ | refine below_step ?_ (by assumption)))
  generalize hNk : nilK = nK at *
  clear hNk hcS hst hg
  go_enter Try.func53, Try.ntmps53
  go_wp2_with (first | (with_reducible show wpList _ _ _ _ _ _; refine wpList_load_blk rfl 28 (.tmp 1) rfl w.heap.size 0 rfl (mc m) _ hM0 98 F2.out _ Try.underlying28 rfl size_mach ?_; rw [F1.out]) | (go_at_call 74; refine (HPa.out _).mono ?_; rw [hsz0]; rintro e w1 ⟨rfl, hP1, hb1⟩; have hM1 := (hM0.keptAll (by rw [hsz0]; exact hb1)).alloc (.cells nK 69); have hR1 := (hR0.keptAll (by rw [hsz0]; exact hb1)).alloc (.cells nK 69); have hP2 := hP1.alloc (.cells nK 69); have hK2 : Blk (w1.alloc (.cells nK 69)) w1.heap.size (kF 0) 69 := (by rw [← H0.out]; exact Blk.new _ _ _); have hPl := hP1.lt; have hbw1 := below_alloc' (below_step hbw0 (by rw [hsz0]; exact hb1)) (.cells nK 69)))
  clear hM0 hR0 hbw0 hb1 hP1 hzk
  generalize w1.heap.size = b0 at *
  go_loopw [9] (fun i wr => ∃ k : Nat, k ≤ 16 ∧ i = .int .i64 k ∧ (Blk wr w.heap.size (mc m) 28 ∧ Blk wr (w.heap.size + 1) nK 69 ∧ Blk wr (w.heap.size + 2 + 1) (psC m (rA m L K)) 107 ∧ Blk wr b0 (kF k) 69) ∧ Below w.heap.size w wr) (fun i _ => 16 - (intOf i).toNat)
  case atStart => exact ⟨0, by omega, rfl, ⟨hM1, hR1, hP2, hK2⟩, hbw1⟩
  case round =>
    clear hM1 hR1 hP2 hK2 hbw1
    obtain ⟨k, hk, rfl, ⟨hM, hR, hP, hKb⟩, hbw⟩ := hrel
    by_cases hlt : k < 16
    · have hki : (k : Int) < 16 := by omega
      have ck := hKb.cell k
      rw [kF_at k k hlt, if_neg (Nat.lt_irrefl k)] at ck
      have fk := hKb.free
      have hK1 := hKb.set k (kV 0)
      rw [Hset.out k] at hK1
      have hM1 := hM.setOther b0 k (kV 0) (by omega)
      have hR1 := hR.setOther b0 k (kV 0) (by omega)
      have hP1 := hP.setOther b0 k (kV 0) (by omega)
      have hbw1 := below_set' (o := k) hbw (b := b0) (by omega) (kV 0)
      rw [kV_fin] at hK1 hM1 hR1 hP1 hbw1
      clear hM hR hP hKb hbw
      go_wp2
      go_roundw
      case rel => exact ⟨k + 1, by omega, by go_num, ⟨hM1, hR1, hP1, hK1⟩, hbw1⟩
      case measure => simp [intOf] <;> omega
    · have hkn : ¬ ((k : Int) < 16) := by omega
      have hke : k = 16 := by omega
      rw [hke, Hall.out] at hKb
      clear hke
      have cS := hM.cell 1
      rw [HcS.out] at cS
      go_wp2
      clear cS
      go_loopw [19] (fun i wr => ∃ (t : Nat) (f : Nat → Nat), t ≤ K ∧ i = .int .i64 t ∧ Hid (KInv K (rA m L K) (tkK K (rB m L K) (dbV m L K (rB m L K))) t 0 f) ∧ (Blk wr w.heap.size (mc m) 28 ∧ Blk wr (w.heap.size + 1) nK 69 ∧ Blk wr (w.heap.size + 2 + 1) (psC m (rA m L K)) 107 ∧ Blk wr b0 (kC f) 69) ∧ Below w.heap.size w wr) (fun i _ => K - (intOf i).toNat)
      case atStart => exact ⟨0, _, by omega, rfl, Lib.hid (KInv.start K _ _), ⟨hM, hR, hP, hKb⟩, hbw⟩
      case round =>
        clear hM hR hP hKb hbw
        obtain ⟨t, f, ht, rfl, HI, ⟨hM, hR, hP, hKb⟩, hbw⟩ := hrel
        by_cases htK : t < K
        · have hti : (t : Int) < (K : Int) := by omega
          have cS := hM.cell 1
          rw [HcS.out] at cS
          go_wp2
          clear cS
          go_loopw [23] (fun i wr => ∃ (q : Nat) (f : Nat → Nat), q ≤ K ∧ i = .int .i64 q ∧ Hid (KInv K (rA m L K) (tkK K (rB m L K) (dbV m L K (rB m L K))) t q f) ∧ (Blk wr w.heap.size (mc m) 28 ∧ Blk wr (w.heap.size + 1) nK 69 ∧ Blk wr (w.heap.size + 2 + 1) (psC m (rA m L K)) 107 ∧ Blk wr b0 (kC f) 69) ∧ Below w.heap.size w wr) (fun i _ => K - (intOf i).toNat)
          case atStart => exact ⟨0, _, by omega, rfl, HI, ⟨hM, hR, hP, hKb⟩, hbw⟩
          case round =>
            clear hM hR hP hKb hbw HI
            obtain ⟨q, f, hq, rfl, HI, ⟨hM, hR, hP, hKb⟩, hbw⟩ := hrel
            by_cases hqK : q < K
            · have hqi : (q : Int) < (K : Int) := by omega
              have hq16 : (q : Int) < 16 := by omega
              have Hstep := Lib.hid (KInv.step HKin.out hS16 HI.out hqK (by omega))
              have HC := Lib.hid (HKf.out f (t * 16 + q) (by omega) HI.out.bd (w.heap.size + 2 + 1) q hqK wr hP)
              generalize kfR K (rA m L K) (trivB m L K) (tuM m L (rA m L K)) f q = nv at *
              obtain ⟨t1, r1, _, ek, _⟩ := num_of nv
              obtain ⟨t2, r2, _, eo, _⟩ := num_of (f q)
              have Hset2 := Lib.hid (kC_set f q nv)
              have EK := Lib.hid ek
              rw [ek] at HC
              have Hcs : Hid ((kC f).size = 16) := Lib.hid (Hsz.out f)
              have Hcc : Hid (cut (kC f) 0 16 = kC f) := Lib.hid (cut_all _ _ Hcs.out)
              have eo2 := (kC_at f q (by omega)).trans (congrArg some eo)
              clear ek eo
              have hbl := hKb.lt
              go_wp2_with (first | (with_reducible show wpList _ _ _ _ _ _; refine wpList_load_blk rfl 69 (.tmp 4) rfl b0 0 rfl (kC f) _ hKb 16 (by rw [Hcs.out]; omega) _ Try.underlying69 rfl size_k16 ?_; rw [Hcc.out]) | (go_at_call 75; refine HC.out.mono ?_; rintro e w4 ⟨rfl, hb4⟩; have hK4 := hKb.keptAll hb4; have ck := hK4.cell q; rw [eo2] at ck; have fk := hK4.free))
              have hK5 := hK4.set q (.iface t1 r1)
              rw [← EK.out, Hset2.out] at hK5
              have hM5 := (hM.keptAll hb4).setOther b0 q (.iface t1 r1) (by omega)
              have hR5 := (hR.keptAll hb4).setOther b0 q (.iface t1 r1) (by omega)
              have hP5 := (hP.keptAll hb4).setOther b0 q (.iface t1 r1) (by omega)
              have hbw5 := below_set' (o := q) (below_step hbw hb4) (b := b0) (by omega) (.iface t1 r1)
              rw [EK.out] at hK5
              go_roundw
              case rel => exact ⟨q + 1, _, by omega, by go_num, Hstep, ⟨hM5, hR5, hP5, hK5⟩, hbw5⟩
              case measure => simp [intOf] <;> omega
            · have hqn : ¬ ((q : Int) < (K : Int)) := by omega
              have hqe : q = K := by omega
              have Hrow : Hid (KInv K (rA m L K) (tkK K (rB m L K) (dbV m L K (rB m L K))) (t + 1) 0 f) := Lib.hid (by
                have := HI.out
                rw [hqe] at this
                exact this.row hS16)
              clear hqe
              go_wp2
              go_roundw
              case rel => exact ⟨t + 1, _, by omega, by go_num, Hrow, ⟨hM, hR, hP, hKb⟩, hbw⟩
              case measure => simp [intOf] <;> omega
        · have htn : ¬ ((t : Int) < (K : Int)) := by omega
          have hte : t = K := by omega
          have Hfin : Hid ((∀ q, q < K → f q = tkK K (rB m L K) (dbV m L K (rB m L K)) q) ∧ ∀ i, i < 16 → f i ≤ kE) := Lib.hid ⟨fun q hq => HI.out.old q hq (by rw [hte]; exact rkR_le _ _ _), fun i hi => by have := HI.out.bd i hi; omega⟩
          clear hte
          have Hcs : Hid ((kC f).size = 16) := Lib.hid (Hsz.out f)
          have Hcc : Hid (cut (kC f) 0 16 = kC f) := Lib.hid (cut_all _ _ Hcs.out)
          have Hov : Hid (over nK 0 (kC f) = kC f) := Lib.hid (over_all _ _ (by rw [Hcs.out, Hzk.out]))
          go_wp2_with (first | (with_reducible show wpList _ _ _ _ _ _; refine wpList_load_blk rfl 69 (.tmp 4) rfl b0 0 rfl (kC f) _ hKb 16 (by rw [Hcs.out]; omega) _ Try.underlying69 rfl size_k16 ?_; rw [Hcc.out]) | (with_reducible show wpList _ _ _ _ _ _; refine wpList_store_row rfl 69 (.tmp 2) (.tmp 34) rfl (w.heap.size + 1) 0 (kC f) rfl rfl _ _ hR (by rw [Hzk.out, Hcs.out]; omega) (by rw [Hcs.out]; exact size_k16) (kC_one _) _ Hov.out ?_; intro w8 hs8))
          exact bodyPost_cell rfl rfl hs8.blk Try.underlying69 rfl (by rw [Hcs.out]; exact size_k16) rfl ⟨⟨f, rfl, Hfin.out.1, Hfin.out.2⟩, hs8.below _ _ (by omega) hbw⟩
end Go.Proofs.Ytdbdoohcpcjfdaa
