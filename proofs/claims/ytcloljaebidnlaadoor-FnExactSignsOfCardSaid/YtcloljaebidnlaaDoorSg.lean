/- Signs of portraits: plain data; odd permutations. -/
import Derived.Test.YtcloljaebidnlaaDoorPcE
import Derived.Test.YtcloljaebidnlaaDoorRg
import Derived.Test.YtcloljaebidnlaaDoorLevM
namespace Go.Proofs.YtcloljaebidnlaaDoor
open Go.RowKit

theorem numL_wordOf (d : Nat) (hd : d = 2 ∨ d = 3) : ∀ n k, k < d ^ n → numL d (wordOf d n k) = k
  | 0, k, h => by simp at h; subst h; rfl
  | n + 1, k, h => by
    have hk : k / d < d ^ n := Nat.div_lt_of_lt_mul (by rw [Nat.mul_comm]; rwa [Nat.pow_succ] at h)
    have hm : k % d < d := Nat.mod_lt _ (by omega)
    rw [wordOf, numL_snoc, numL_wordOf d hd n _ hk]
    have hc : (UInt8.ofNat (48 + k % d)).toNat = 48 + k % d := by
      rw [UInt8.toNat_ofNat']
      omega
    rw [hc, Nat.mul_comm]
    have := Nat.div_add_mod k d
    omega
def sumN (d n : Nat) : Nat := (sumP d n).toNat
theorem sumN_cast (d n : Nat) (hd : d ≤ 3) (hn : n ≤ 5) : ((sumN d n : Nat) : Int) = sumP d n := by
  have := sumP_bd d hd n hn
  unfold sumN; omega
theorem plc_wordS (d : Nat) (hd : d = 2 ∨ d = 3) (n k : Nat) (hn : n ≤ 5) (hk : k < d ^ n) : plc d (wordS d n k).data.toList = ((sumN d n + k : Nat) : Int) := by
  have e : (wordS d n k).data.toList = wordOf d n k := by simp [wordS]
  rw [e]
  unfold plc numI
  rw [length_wordOf, numL_wordOf d hd n k hk, Int.natCast_add, sumN_cast d n (by omega) hn]
theorem kAt_wordS (d : Nat) (hd : d = 2 ∨ d = 3) (zs : List Int) (n k : Nat) (hn : n ≤ 5) (hk : k < d ^ n) : kAt d zs (wordS d n k).data.toList = (zs.getD (sumN d n + k) 0).toNat := by
  unfold kAt
  rw [plc_wordS d hd n k hn hk, Int.toNat_natCast]
theorem wordS_ok (d n k : Nat) (hd : d = 2 ∨ d = 3) : (wordS d n k).data.toList.length = n ∧ lettersL d (wordS d n k).data.toList = true := by
  have e : (wordS d n k).data.toList = wordOf d n k := by simp [wordS]
  rw [e]
  exact ⟨length_wordOf d n k, lettersL_wordOf d hd n k⟩
theorem mem_wordsB (d n : Nat) (x : ByteArray) (h : x ∈ wordsB d n) : ∃ i k, i < n ∧ k < d ^ i ∧ x = wordS d i k := by
  unfold wordsB wordsL at h
  simp only [List.mem_flatMap, List.mem_range, List.mem_map] at h
  obtain ⟨i, hi, k, hk, rfl⟩ := h
  exact ⟨i, k, hi, hk, rfl⟩

def odd3 (a b c : Int) : Bool := (decide (b < a) != decide (c < a)) != decide (c < b)
def oddR (row : List Int) : Bool := odd3 (row.getD 0 0) (row.getD 1 0) (row.getD 2 0)
def oddN (d k : Nat) : Int := if d = 2 then k else [0, 1, 1, 0, 0, 1].getD k 0
theorem oddN_eq (d k : Nat) (hd : d = 2 ∨ d = 3) (hk : k < cN d) : oddN d k = if oddR (pRow d k) then 1 else 0 := by
  have h2 : ∀ k, k < 2 → oddN 2 k = if oddR (pRow 2 k) then 1 else 0 := by decide
  have h3 : ∀ k, k < 6 → oddN 3 k = if oddR (pRow 3 k) then 1 else 0 := by decide
  rcases hd with rfl | rfl
  · exact h2 k hk
  · exact h3 k hk

set_option maxRecDepth 100000 in
set_option maxHeartbeats 1000000 in
theorem isOdd_calls (a b c : Int) (w : World) :
    Calls Tryd.prog 33 #[.agg #[.int .u8 a, .int .u8 b, .int .u8 c]] w fun e w' => e = .returned (.bool (odd3 a b c)) ∧ Below w.heap.size w w' := by
  have hB : Blk (w.alloc (.cells #[.int .u8 a, .int .u8 b, .int .u8 c] 41)) w.heap.size #[.int .u8 a, .int .u8 b, .int .u8 c] 41 := Blk.new _ _ _
  have hbw : Below w.heap.size w (w.alloc (.cells #[.int .u8 a, .int .u8 b, .int .u8 c] 41)) := by (repeat (first | exact Below.refl _ _ | refine below_drew' ?_ | refine below_drewN' ?_ _ | refine below_alloc' ?_ _ | refine below_set' ?_ (by (try simp); (try omega)) _ | refine below_step ?_ (by assumption)))
  have c0 := hB.cell 0
  have c1 := hB.cell 1
  have c2 := hB.cell 2
  simp at c0 c1 c2
  go_enter Tryd.func33, Tryd.ntmps33
  go_wp2
  go_ret
  exact ⟨rfl, hbw⟩

set_option maxRecDepth 100000 in
set_option maxHeartbeats 1000000 in
theorem l03Odd_calls (d k : Nat) (hd : d = 2 ∨ d = 3) (hk : k < cN d) (w : World) :
    Calls Tryd.prog 29 #[.int .i64 d, .int .i64 k] w fun e w' => e = .returned (.int .i64 (oddN d k)) ∧ Below w.heap.size w w' := by
  rcases hd with rfl | rfl
  · go_enter Tryd.func29, Tryd.ntmps29
    go_wp2
    go_ret
    exact ⟨rfl, by (repeat (first | exact Below.refl _ _ | refine below_drew' ?_ | refine below_drewN' ?_ _ | refine below_alloc' ?_ _ | refine below_set' ?_ (by (try simp); (try omega)) _ | refine below_step ?_ (by assumption)))⟩
  · have hk6 : k < 6 := hk
    have hki : (k : Int) < 6 := by omega
    have hz6 : (Tryd.prog.info? 64).map (fun i => (i.zero, i.size)) = some (some (.agg #[.int .i64 0, .int .i64 0, .int .i64 0, .int .i64 0, .int .i64 0, .int .i64 0]), 6) := by kernel_rfl
    have hz := (zero_of_info hz6).1
    have hc : (#[Value.int .i64 0, .int .i64 1, .int .i64 1, .int .i64 0, .int .i64 0, .int .i64 1] : Array Value)[k]? = some (.int .i64 (oddN 3 k)) := by
      have : ∀ k, k < 6 → (#[Value.int .i64 0, .int .i64 1, .int .i64 1, .int .i64 0, .int .i64 0, .int .i64 1] : Array Value)[k]? = some (.int .i64 (oddN 3 k)) := by
        intro k hk
        match k, hk with
        | 0, _ => rfl
        | 1, _ => rfl
        | 2, _ => rfl
        | 3, _ => rfl
        | 4, _ => rfl
        | 5, _ => rfl
      exact this k hk6
    have hB := Blk.new w #[Value.int .i64 0, .int .i64 1, .int .i64 1, .int .i64 0, .int .i64 0, .int .i64 1] 64
    have cB := hB.cell k
    rw [hc] at cB
    generalize oddN 3 k = v at *
    go_enter Tryd.func29, Tryd.ntmps29
    go_wp2
    go_ret
    exact ⟨rfl, by (repeat (first | exact Below.refl _ _ | refine below_drew' ?_ | refine below_drewN' ?_ _ | refine below_alloc' ?_ _ | refine below_set' ?_ (by (try simp); (try omega)) _ | refine below_step ?_ (by assumption)))⟩
end Go.Proofs.YtcloljaebidnlaaDoor

namespace Go.Proofs.YtcloljaebidnlaaDoor
open Go.RowKit Go.Shelf
attribute [local go_sem] Oper.semAt_some

def sgStep (d : Nat) (zs : List Int) (l : List Int) (v : ByteArray) : List Int := if oddR (pRow d (kAt d zs v.data.toList)) then l.set v.size (1 - l.getD v.size 0) else l
def sgF (d : Nat) (zs : List Int) (n : Nat) (pre : List ByteArray) : List Int := pre.foldl (sgStep d zs) (List.replicate n 0)
theorem sgF_snoc (d : Nat) (zs : List Int) (n : Nat) (pre : List ByteArray) (v : ByteArray) : sgF d zs n (pre ++ [v]) = sgStep d zs (sgF d zs n pre) v := by simp [sgF]
theorem sgStep_len (d : Nat) (zs l : List Int) (v : ByteArray) : (sgStep d zs l v).length = l.length := by unfold sgStep; split <;> simp
theorem sg_fold (d : Nat) (zs : List Int) : ∀ (pre : List ByteArray) (l : List Int), (∀ i, 0 ≤ l.getD i 0 ∧ l.getD i 0 ≤ 1) → (pre.foldl (sgStep d zs) l).length = l.length ∧ ∀ i, 0 ≤ (pre.foldl (sgStep d zs) l).getD i 0 ∧ (pre.foldl (sgStep d zs) l).getD i 0 ≤ 1
  | [], _, h => ⟨rfl, h⟩
  | v :: pre, l, h => by
    have h2 : ∀ i, 0 ≤ (sgStep d zs l v).getD i 0 ∧ (sgStep d zs l v).getD i 0 ≤ 1 := fun i => by
      unfold sgStep
      split
      · have h1 := h v.size
        have hi := h i
        rw [List.getD, List.getElem?_set]
        split
        · split
          · simp only [Option.getD_some]; omega
          · simp
        · exact hi
      · exact h i
    have := sg_fold d zs pre _ h2
    rw [List.foldl_cons]
    exact ⟨by rw [this.1, sgStep_len], this.2⟩
theorem sgF_ok (d : Nat) (zs : List Int) (n : Nat) (pre : List ByteArray) : (sgF d zs n pre).length = n ∧ ∀ i, 0 ≤ (sgF d zs n pre).getD i 0 ∧ (sgF d zs n pre).getD i 0 ≤ 1 := by
  have := sg_fold d zs pre (List.replicate n 0) (fun i => by rw [List.getD, List.getElem?_replicate]; split <;> simp)
  simpa [sgF] using this
theorem kAt_in (d n : Nat) (hd : d = 2 ∨ d = 3) (x : ByteArray) (h : x ∈ wordsB d n) : x.data.toList.length < n ∧ lettersL d x.data.toList = true := by
  obtain ⟨i, k, hi, _, rfl⟩ := mem_wordsB d n x h
  obtain ⟨h1, h2⟩ := wordS_ok d i k hd
  exact ⟨by omega, h2⟩
def sgR (d n : Int) (zs : List Int) : List Int := if codeP d n zs = 0 then sgF d.toNat zs n.toNat (wordsB d.toNat n.toNat) else []
theorem sgR_len (d n : Int) (zs : List Int) : (sgR d n zs).length ≤ 100000 := by
  unfold sgR
  split
  · rename_i h
    have := (codeP_zero d n zs h).2.1
    rw [(sgF_ok _ _ _ _).1]; omega
  · simp
theorem ret_lv {v : Value} {i j : Int} (h : i = j) : Ending.returned (.tuple #[v, .int .i64 i]) = Ending.returned (.tuple #[v, .int .i64 j]) := by rw [h]

set_option maxRecDepth 100000 in
set_option maxHeartbeats 2000000 in
theorem iSignsOf_calls (d n : Int) (v : Value) (zs : List Int) (w : World) (hv : SeesI w v zs) (hT : TabsAt w) :
    Calls Tryd.prog 13 #[.int .i64 d, .int .i64 n, v] w fun e w' => ∃ v1, e = .returned (.tuple #[v1, .int .i64 (codeP d n zs)]) ∧ OwnI w' w.heap.size v1 (sgR d n zs) ∧ Below w.heap.size w w' := by
  have hE : Blk (w.alloc (.cells #[v] 22)) w.heap.size #[v] 22 := Blk.new _ _ _
  have hbw : Below w.heap.size w (w.alloc (.cells #[v] 22)) := by (repeat (first | exact Below.refl _ _ | refine below_drew' ?_ | refine below_drewN' ?_ _ | refine below_alloc' ?_ _ | refine below_set' ?_ (by (try simp); (try omega)) _ | refine below_step ?_ (by assumption)))
  have hv2 := hv.below hbw
  obtain ⟨oa, ca, hve, _⟩ := hv.view
  subst hve
  have Hv := Lib.hid hv
  have HT := Lib.hid hT
  have HC := Lib.hid (checkPortraits_calls d n _ zs _ hv2 w.heap.size hE)
  clear hv hv2 hE hT
  by_cases hc : codeP d n zs = 0
  · obtain ⟨k1, k2, k3⟩ := codeP_zero d n zs hc
    have HR : Hid (sgR d n zs = sgF d.toNat zs n.toNat (wordsB d.toNat n.toNat)) := Lib.hid (by unfold sgR; rw [if_pos hc])
    have Hc := Lib.hid hc
    obtain ⟨m, rfl⟩ := Int.eq_ofNat_of_zero_le (a := n) (by omega)
    obtain ⟨c, rfl⟩ := Int.eq_ofNat_of_zero_le (a := d) (by omega)
    rw [Int.toNat_natCast] at *
    rw [Int.toNat_natCast] at *
    have hc23 : c = 2 ∨ c = 3 := by omega
    have hm4 : m ≤ 4 := by omega
    rw [hc] at HC
    have HA := Lib.hid (fun s hs hl W h1 h2 => at_calls c m hc23 hm4 zs k3 (.slice oa zs.length ca) s hs hl W h1 h2)
    have HK := Lib.hid (fun l hs hl => kAt_ok c m zs l k3 hs hl (by omega) hm4)
    have hmk := mk_ints m (by omega)
    have hz0 : ∀ w, (zeroValue 47).run Tryd.prog w = .ok (.agg #[.int .i64 0, .slice none 0 0]) w := (zero_of_info (show (Tryd.prog.info? 47).map (fun i => (i.zero, i.size)) = some (some (.agg #[.int .i64 0, .slice none 0 0]), 2) by kernel_rfl)).1
    clear k1 k2 k3 hc
    refine (callsIn_wide (n := 3)).1 ?_
    refine callsIn_of_wp_marks Tryd.func13 rfl trivial ?_ rfl
    simp only [Tryd.ntmps13, List.size_toArray, List.length_cons, List.length_nil, Nat.reduceAdd, Nat.reduceSub, Array.replicate_succ, Array.replicate_zero, List.push_toArray, List.append_toArray, List.nil_append, List.cons_append]
    gi_wp2_with (first | (refine ⟨trivial, ?_⟩; gi_at_call 30; refine (callsIn_wide.2 HC.out).mono ?_; rintro e w1 ⟨rfl, hb1⟩; have hmk1 := hmk (w1.alloc (.cells #[.int .i64 c, .slice oa zs.length ca] 47))) | (refine ⟨trivial, ?_⟩; gi_at_call 31; refine (callsIn_wide.2 (wordsBelow_calls _ _ _)).mono ?_; rintro e w2 ⟨rfl, rfl⟩))
    have hs1 := hb1.size
    rw [World.size_alloc] at hs1
    have hbw1 := below_step hbw hb1
    have hP : Blk (((((w1.alloc (.cells #[.int .i64 c, .slice oa zs.length ca] 47)).alloc (.cells (ints (List.replicate m 0)) 2)).alloc (.cells #[.slice (some ⟨w1.heap.size + 1, 0, none⟩) m m] 22)).alloc (.cells #[.int .i64 c] 2)).alloc (.cells #[.int .i64 m] 2)) w1.heap.size #[.int .i64 c, .slice oa zs.length ca] 47 := ((((Blk.new w1 _ _).alloc _).alloc _).alloc _).alloc _
    have hS : Blk (((((w1.alloc (.cells #[.int .i64 c, .slice oa zs.length ca] 47)).alloc (.cells (ints (List.replicate m 0)) 2)).alloc (.cells #[.slice (some ⟨w1.heap.size + 1, 0, none⟩) m m] 22)).alloc (.cells #[.int .i64 c] 2)).alloc (.cells #[.int .i64 m] 2)) (w1.heap.size + 1) (ints (List.replicate m 0)) 2 := (((Blk.new_at _ _ _ _ (by simp)).alloc _).alloc _).alloc _
    have hX : Blk (((((w1.alloc (.cells #[.int .i64 c, .slice oa zs.length ca] 47)).alloc (.cells (ints (List.replicate m 0)) 2)).alloc (.cells #[.slice (some ⟨w1.heap.size + 1, 0, none⟩) m m] 22)).alloc (.cells #[.int .i64 c] 2)).alloc (.cells #[.int .i64 m] 2)) (w1.heap.size + 2) #[.slice (some ⟨w1.heap.size + 1, 0, none⟩) m m] 22 := ((Blk.new_at _ _ _ _ (by simp)).alloc _).alloc _
    have hD : Blk (((((w1.alloc (.cells #[.int .i64 c, .slice oa zs.length ca] 47)).alloc (.cells (ints (List.replicate m 0)) 2)).alloc (.cells #[.slice (some ⟨w1.heap.size + 1, 0, none⟩) m m] 22)).alloc (.cells #[.int .i64 c] 2)).alloc (.cells #[.int .i64 m] 2)) (w1.heap.size + 3) #[.int .i64 c] 2 := (Blk.new_at _ _ _ _ (by simp)).alloc _
    have hN : Blk (((((w1.alloc (.cells #[.int .i64 c, .slice oa zs.length ca] 47)).alloc (.cells (ints (List.replicate m 0)) 2)).alloc (.cells #[.slice (some ⟨w1.heap.size + 1, 0, none⟩) m m] 22)).alloc (.cells #[.int .i64 c] 2)).alloc (.cells #[.int .i64 m] 2)) (w1.heap.size + 4) #[.int .i64 m] 2 := Blk.new_at _ _ _ _ (by simp)
    have hb5 : Below w1.heap.size w1 (((((w1.alloc (.cells #[.int .i64 c, .slice oa zs.length ca] 47)).alloc (.cells (ints (List.replicate m 0)) 2)).alloc (.cells #[.slice (some ⟨w1.heap.size + 1, 0, none⟩) m m] 22)).alloc (.cells #[.int .i64 c] 2)).alloc (.cells #[.int .i64 m] 2)) := by (repeat (first | exact Below.refl _ _ | refine below_drew' ?_ | refine below_drewN' ?_ _ | refine below_alloc' ?_ _ | refine below_set' ?_ (by (try simp); (try omega)) _ | refine below_step ?_ (by assumption)))
    have hbw5 := below_step hbw1 hb5
    have hsz5 : (((((w1.alloc (.cells #[.int .i64 c, .slice oa zs.length ca] 47)).alloc (.cells (ints (List.replicate m 0)) 2)).alloc (.cells #[.slice (some ⟨w1.heap.size + 1, 0, none⟩) m m] 22)).alloc (.cells #[.int .i64 c] 2)).alloc (.cells #[.int .i64 m] 2)).heap.size = w1.heap.size + 5 := by simp
    generalize ((((w1.alloc (.cells #[.int .i64 c, .slice oa zs.length ca] 47)).alloc (.cells (ints (List.replicate m 0)) 2)).alloc (.cells #[.slice (some ⟨w1.heap.size + 1, 0, none⟩) m m] 22)).alloc (.cells #[.int .i64 c] 2)).alloc (.cells #[.int .i64 m] 2) = W5 at *
    generalize hb : w1.heap.size = b at *
    clear hmk hmk1 hb5 hbw1 hb1 hz0 hb
    refine wp_rangeFoot (gf := 44) (lb := #[.pointer (some ⟨b + 4, 0, none⟩), .pointer (some ⟨b + 3, 0, none⟩)]) rfl (enters_of Tryd.func44 (by kernel_rfl) rfl)
      (wordsBelow_gives c m _ _ hc23 hm4 W5 hN hD) (Below.refl _ _)
      (fun s W => s.2 = (fun k => k = b + 1) ∧ Blk W b #[.int .i64 c, .slice oa zs.length ca] 47 ∧ Blk W (b + 1) (ints (sgF c zs m s.1)) 2 ∧ Blk W (b + 2) #[.slice (some ⟨b + 1, 0, none⟩) m m] 22 ∧ Below w.heap.size w W)
      (fun _ _ => False)
      ?own (fun _ _ _ _ h _ _ => h) ?foot (fun k => k = b + 1) ⟨rfl, hP, hS, hX, hbw5⟩ ?caps
      (fun x => { tmps := #[.int .i64 (c : Int), .int .i64 (m : Int), .slice oa zs.length ca, undef, undef, undef, .slice none 0 0, .int .i64 0, .int .i64 0, .pointer (some ⟨b, 0, none⟩), .pointer (some ⟨b + 1 + 1, 0, none⟩), .string x, .int .i64 (c : Int), .int .i64 (m : Int), .slice oa zs.length ca, .slice (some ⟨w.heap.size, 0, none⟩) 1 1, .int .i64 0, .int .i64 0, .bool false, undef, .int .i64 (c : Int), .slice oa zs.length ca, .agg #[.int .i64 (c : Int), .slice oa zs.length ca], .int .i64 (m : Int), .slice (some ⟨b + 1, 0, none⟩) m m, .int .i64 (c : Int), .int .i64 (m : Int), .func (.func 44) #[] #[.pointer (some ⟨b + 1 + 1 + 1 + 1, 0, none⟩), .pointer (some ⟨b + 1 + 1 + 1, 0, none⟩)], .string x, undef, undef, undef, undef, undef, undef, undef, undef, undef, undef, undef, undef, undef, undef, undef], defers := [] })
      ?assign ?body ?done ?stop
    case own =>
      rintro s X Z row ⟨x1, x2, x3, x4, x5⟩ hg hr
      have hne : ∀ i, i < W5.heap.size → some i ≠ row := fun i hi e => by have := (hr i e.symm).1; omega
      exact ⟨x1, x2.same (hg.block _ x2.lt (hne _ (by omega))), x3.same (hg.block _ x3.lt (hne _ (by omega))), x4.same (hg.block _ x4.lt (hne _ (by omega))), ownFrom_below (β := Unit) (Nat.le_refl _) (by have := hbw5.size; omega) () X Z row x5 hg hr⟩
    case foot =>
      rintro s X ⟨x1, _, x3, _, _⟩ k hk
      rw [x1] at hk
      subst hk
      exact x3.lt
    case caps =>
      rintro i (rfl | rfl) h
      · omega
      · omega
    case assign =>
      intro l2 x W' K hK
      gi_wp2
      exact hK
    case body =>
      rintro l2 ⟨pre, ft⟩ x W' ⟨x1, x2, x3, x4, x5⟩ hpre
      dsimp only at x1 x3 hpre ⊢
      subst x1
      obtain ⟨h1, h2⟩ := kAt_in c m hc23 x (hpre.subset (by simp))
      obtain ⟨_, _, _, _, hk⟩ := HK.out x.data.toList h1 h2
      have HAx := Lib.hid (HA.out x h1 h2)
      obtain ⟨r1, r2⟩ := pRow_ok c _ hc23 hk
      have hxs : x.size < m := by rw [size_list x]; exact h1
      have hxi : (x.size : Int) < (m : Int) := by omega
      obtain ⟨o1, o2⟩ := sgF_ok c zs m pre
      have HF := Lib.hid (sgF_snoc c zs m pre x)
      unfold sgStep at HF
      generalize pRow c (kAt c zs x.data.toList) = row at *
      obtain ⟨p, q, r, rfl⟩ : ∃ p q r, row = [p, q, r] := by
        match row, r1 with
        | [p, q, r], _ => exact ⟨p, q, r, rfl⟩
      have HO : Hid (oddR [p, q, r] = odd3 p q r) := Lib.hid rfl
      rw [HO.out] at HF
      have hul : u8s [p, q, r] = #[.int .u8 p, .int .u8 q, .int .u8 r] := rfl
      rw [hul] at HAx
      have e1 := ints_get (sgF c zs m pre) x.size (by omega)
      have hz := o2 x.size
      have hg : (sgF c zs m pre).getD x.size 0 = (sgF c zs m pre)[x.size]'(by omega) := by simp [List.getD, List.getElem?_eq_getElem (show x.size < (sgF c zs m pre).length by omega)]
      rw [hg] at hz HF
      have Hset := Lib.hid (ints_set (sgF c zs m pre) x.size (1 - (sgF c zs m pre)[x.size]'(by omega)))
      generalize (sgF c zs m pre)[x.size]'(by omega) = z at *
      have hw1 : IntKind.i64.wrap (1 - z) = 1 - z := IntWalk.i64_in _ (by omega)
      have cP0 := x2.cell 0
      have cP1 := x2.cell 1
      simp at cP0 cP1
      have hsR := hbw5.size
      clear r1 r2 h1 h2 hk o2 hg
      cases ho : odd3 p q r
      · rw [ho] at HF
        have HO1 := Lib.hid ho; clear ho
        gi_wp2_with (first | (refine ⟨trivial, rfl, ?_⟩; gi_at_call 32; refine (CallsIn.inRound l2 (callsIn_wide.2 (HAx.out _ (Hv.out.below x5) (HT.out.below x5)))).mono ?_; rintro e w3 ⟨rfl, hb3⟩) | (refine ⟨trivial, rfl, ?_⟩; gi_at_call 33; refine (CallsIn.inRound l2 (callsIn_wide.2 (isOdd_calls p q r _))).mono ?_; rintro e w4 ⟨rfl, hb4⟩; rw [HO1.out]))
        have hb34 : Below W'.heap.size W' w4 := below_step hb3 hb4
        exact ⟨_, ⟨rfl, x2.keptAll hb34, by rw [HF.out]; exact x3.keptAll hb34, x4.keptAll hb34, below_step x5 hb34⟩, FootKeeps.of_below hb34⟩
      · rw [ho] at HF
        have HO1 := Lib.hid ho; clear ho
        gi_wp2_with (first | (refine ⟨trivial, rfl, ?_⟩; gi_at_call 32; refine (CallsIn.inRound l2 (callsIn_wide.2 (HAx.out _ (Hv.out.below x5) (HT.out.below x5)))).mono ?_; rintro e w3 ⟨rfl, hb3⟩) | (refine ⟨trivial, rfl, ?_⟩; gi_at_call 33; refine (CallsIn.inRound l2 (callsIn_wide.2 (isOdd_calls p q r _))).mono ?_; rintro e w4 ⟨rfl, hb4⟩; rw [HO1.out]))
        have hb34 : Below W'.heap.size W' w4 := below_step hb3 hb4
        have y2 := x2.keptAll hb34
        have y3 := x3.keptAll hb34
        have y4 := x4.keptAll hb34
        have y5 := below_step x5 hb34
        have hl3 := x3.lt
        have hsp := FootKeeps.of_below (ft := fun k => k = b + 1) hb34
        clear x2 x3 x4 x5 cP0 cP1 HAx hb3 hb4 hb34
        have y3d := y3.drew
        have cC := y3d.cell x.size
        rw [e1] at cC
        have fC := y3d.free
        refine wp_region_round (S := fun W => Blk W (b + 2) #[.slice (some ⟨b + 1, 0, none⟩) m m] 22) (by kernel_rfl) (by kernel_rfl) (not_out _ (fun _ _ h => h)) y4.drew (fun hS0 => ?_)
        (refine hK_take 0 (.slice (some ⟨b + 1, 0, none⟩) m m) rfl (by kernel_rfl) (by kernel_rfl) (by kernel_rfl) (fun _ _ _ h => h) rfl (fun W hW => by have c1 := Blk.cell hW 0; simp at c1; clear hW; go_simp) hS0 ?_; (intro K hK; go_simp; refine hK _ ?_; clear hK K))
        (refine hK_take 1 (.string x) rfl (by kernel_rfl) (by kernel_rfl) (by kernel_rfl) (fun _ _ _ h => h) rfl (fun W _ => by go_simp) hS0 ?_; (intro K hK; go_simp; refine hK _ ?_; clear hK K))
        (refine hK_take 2 (.int .i64 (x.size : Int)) rfl (by kernel_rfl) (by kernel_rfl) (by kernel_rfl) (fun _ _ _ h => h) rfl (fun W _ => by go_simp) hS0 ?_; (intro K hK; go_simp; refine hK _ ?_; clear hK K))
        (refine hK_take 3 (.slice (some ⟨b + 1, 0, none⟩) m m) rfl (by kernel_rfl) (by kernel_rfl) (by kernel_rfl) (fun _ _ _ h => h) rfl (fun W hW => by have c1 := Blk.cell hW 0; simp at c1; clear hW; go_simp) hS0 ?_; (intro K hK; go_simp; refine hK _ ?_; clear hK K))
        (refine hK_take 4 (.string x) rfl (by kernel_rfl) (by kernel_rfl) (by kernel_rfl) (fun _ _ _ h => h) rfl (fun W _ => by go_simp) hS0 ?_; (intro K hK; go_simp; refine hK _ ?_; clear hK K))
        (refine hK_take 5 (.int .i64 (x.size : Int)) rfl (by kernel_rfl) (by kernel_rfl) (by kernel_rfl) (fun _ _ _ h => h) rfl (fun W _ => by go_simp) hS0 ?_; (intro K hK; go_simp; refine hK _ ?_; clear hK K))
        (refine hK_take 6 (.pointer (some ⟨b + 1, x.size, none⟩)) rfl (by kernel_rfl) (by kernel_rfl) (by kernel_rfl) (fun _ _ _ h => h) rfl (fun W _ => by go_simp) hS0 ?_; (intro K hK; go_simp; refine hK _ ?_; clear hK K))
        refine wpAnyH_ready (rs := [7]) (by kernel_rfl) (by simp) ?_
        refine AllReadyH.cons rfl (fun K hK => ?_) AllReadyH.nil
        go_simp
        refine hK.out _ _ hS0 (fun hS1 => ?_)
        clear hK K
        (refine hK_take 8 (.int .i64 (1 - z)) rfl (by kernel_rfl) (by kernel_rfl) (by kernel_rfl) (fun _ _ _ h => h) rfl (fun W _ => by go_simp) hS1 ?_; (intro K hK; go_simp; refine hK _ ?_; clear hK K))
        (refine hK_take 9 (.pointer (some ⟨b + 1, x.size, none⟩)) rfl (by kernel_rfl) (by kernel_rfl) (by kernel_rfl) (fun _ _ _ h => h) rfl (fun W _ => by go_simp) hS1 ?_; (intro K hK; go_simp; refine hK _ ?_; clear hK K))
        refine wpAnyH_ready (rs := [10]) (by kernel_rfl) (by simp) ?_
        refine AllReadyH.cons rfl (fun K hK => ?_) AllReadyH.nil
        have z3 := y3d.set x.size (.int .i64 (1 - z))
        have z4 := hS0.setOther (b + 1) x.size (.int .i64 (1 - z)) (by omega)
        have z2 := y2.drew.setOther (b + 1) x.size (.int .i64 (1 - z)) (by omega)
        have z5 := below_set' (o := x.size) (below_drew' y5) (b := b + 1) (by omega) (.int .i64 (1 - z))
        have z6 : FootKeeps (fun k => k = b + 1) (fun k => k = b + 1) W' (w4.drew.setCell ⟨b + 1, x.size, none⟩ (.int .i64 (1 - z))) := hsp.trans ((FootKeeps.of_below ((Below.refl _ _).drew)).trans (FootKeeps.store (ft := fun k => k = b + 1) (b := b + 1) rfl _))
        rw [← Hset.out] at z3
        go_simp
        refine hK.out _ _ z4 (fun hS3 => ?_)
        clear hK K
        refine wpAnyH_done (by kernel_rfl) ?_ _
        gi_wp2
        exact ⟨_, ⟨rfl, z2, by rw [HF.out]; exact z3, z4, z5⟩, z6⟩
    case done =>
      rintro D ft W' hD ⟨x1, x2, x3, x4, x5⟩ hdd hnd
      dsimp only at x1 x3
      have cX := x4.cell 0
      simp at cX
      gi_wp2
      refine ⟨by simp, .inl ⟨_, _, rfl, run_takeDeferred hdd, ?_⟩⟩
      refine ⟨_, results_tmp2 rfl _ _ _, ?_⟩
      have y3 := x3.same (World.putObj_heap_other (o := .deferred none) (show b + 1 ≠ D by omega))
      have y5 := x5.trans (belowK_b (w := w) (Nat.le_refl _) W' D _ (.deferred none) (by have := hbw5.size; omega) hdd rfl rfl)
      exact ⟨_, ret_lv Hc.out.symm, by rw [HR.out]; exact OwnI.made (sgF_ok _ _ _ _).1 (by unfold maxLen; omega) (by omega) y3, y5⟩
    case stop =>
      rintro D pre W' _ _ h _
      exact h.elim
  · have HR : Hid (sgR d n zs = []) := Lib.hid (by unfold sgR; rw [if_neg hc])
    have hcb : (codeP d n zs != 0) = true := by simpa using hc
    generalize codeP d n zs = cc at *
    go_enter Tryd.func13, Tryd.ntmps13
    go_wp2_with (go_at_call 30; refine HC.out.mono ?_; rintro e w1 ⟨rfl, hb1⟩)
    go_ret2
    exact ⟨_, rfl, by rw [HR.out]; exact OwnI.nil _ _, below_step hbw hb1⟩
end Go.Proofs.YtcloljaebidnlaaDoor

namespace Go.Proofs.YtcloljaebidnlaaDoor
open Go.RowKit

def sgM (d : Nat) (zs : List Int) (k : Nat) : Nat → Nat
  | 0 => 0
  | j + 1 => sgM d zs k j + (oddN d (zs.getD (sumN d k + j) 0).toNat).toNat
def sgL (d : Nat) (zs : List Int) (n : Nat) : List Int := (List.range n).map fun k => ((sgM d zs k (d ^ k) % 2 : Nat) : Int)
def stL (d : Nat) (zs : List Int) (n k j : Nat) : List Int := (List.range n).map fun i => if i < k then ((sgM d zs i (d ^ i) % 2 : Nat) : Int) else if i = k then ((sgM d zs k j % 2 : Nat) : Int) else 0
theorem stL_len (d : Nat) (zs : List Int) (n k j : Nat) : (stL d zs n k j).length = n := by simp [stL]
theorem stL_at (d : Nat) (zs : List Int) (n k j i : Nat) (hi : i < n) : (stL d zs n k j).getD i 0 = if i < k then ((sgM d zs i (d ^ i) % 2 : Nat) : Int) else if i = k then ((sgM d zs k j % 2 : Nat) : Int) else 0 := by
  unfold stL
  rw [List.getD, List.getElem?_map, List.getElem?_range hi]
  rfl
theorem entry_ok (d n : Nat) (hd : d = 2 ∨ d = 3) (hn : n ≤ 4) (zs : List Int) (hP : isP d n zs = true) (k j : Nat) (hk : k < n) (hj : j < d ^ k) :
    sumN d k + j < zs.length ∧ 0 ≤ zs.getD (sumN d k + j) 0 ∧ (zs.getD (sumN d k + j) 0).toNat < cN d := by
  obtain ⟨h1, h2⟩ := wordS_ok d k j hd
  obtain ⟨p, hp, hpz, hz, hc⟩ := kAt_ok d n zs _ hP (by rw [h1]; exact hk) h2 (by omega) hn
  rw [plc_wordS d hd k j (by omega) hj] at hp
  rw [kAt_wordS d hd zs k j (by omega) hj] at hz hc
  have e : p = sumN d k + j := by omega
  subst e
  have eg : zs.getD (sumN d k + j) 0 = zs[sumN d k + j] := by simp [List.getD, List.getElem?_eq_getElem hpz]
  refine ⟨hpz, ?_, hc⟩
  rw [eg, hz]; omega
theorem st_step (d n : Nat) (hd : d = 2 ∨ d = 3) (hn : n ≤ 4) (zs : List Int) (hP : isP d n zs = true) (k j : Nat) (hk : k < n) (hj : j < d ^ k) : sgStep d zs (stL d zs n k j) (wordS d k j) = stL d zs n k (j + 1) := by
  obtain ⟨e1, e2, e3⟩ := entry_ok d n hd hn zs hP k j hk hj
  have hs : (wordS d k j).size = k := by rw [size_list, (wordS_ok d k j hd).1]
  have hg := stL_at d zs n k j k hk
  rw [if_neg (by omega), if_pos rfl] at hg
  unfold sgStep
  rw [kAt_wordS d hd zs k j (by omega) hj, hs, hg]
  have hM : sgM d zs k (j + 1) = sgM d zs k j + (oddN d (zs.getD (sumN d k + j) 0).toNat).toNat := rfl
  have ho := oddN_eq d _ hd e3
  cases hb : oddR (pRow d (zs.getD (sumN d k + j) 0).toNat)
  · rw [hb] at ho
    have : sgM d zs k (j + 1) = sgM d zs k j := by rw [hM, ho]; rfl
    rw [if_neg (by simp)]
    unfold stL
    rw [this]
  · rw [hb] at ho
    have h1 : sgM d zs k (j + 1) = sgM d zs k j + 1 := by rw [hM, ho]; rfl
    rw [if_pos rfl]
    apply List.ext_getElem
    · simp [stL]
    · intro i h2 h3
      rw [List.getElem_set]
      simp only [stL, List.getElem_map, List.getElem_range]
      by_cases hik : k = i
      · subst hik
        rw [if_pos rfl, if_neg (by omega), if_pos rfl, h1]
        omega
      · rw [if_neg hik]
        by_cases h4 : i < k
        · rw [if_pos h4, if_pos h4]
        · rw [if_neg h4, if_neg (by omega), if_neg h4, if_neg (by omega)]
theorem st_row (d n : Nat) (hd : d = 2 ∨ d = 3) (hn : n ≤ 4) (zs : List Int) (hP : isP d n zs = true) (k : Nat) (hk : k < n) : ∀ j, j ≤ d ^ k → ((wordsL d k).take j).foldl (sgStep d zs) (stL d zs n k 0) = stL d zs n k j
  | 0, _ => rfl
  | j + 1, hj => by
    rw [wordsL_next d k j hj, List.foldl_append, st_row d n hd hn zs hP k hk j (by omega)]
    exact st_step d n hd hn zs hP k j hk hj
theorem st_next (d : Nat) (zs : List Int) (n k : Nat) : stL d zs n k (d ^ k) = stL d zs n (k + 1) 0 := by
  unfold stL
  apply List.map_congr_left
  intro i _
  by_cases h1 : i < k
  · rw [if_pos h1, if_pos (by omega)]
  · by_cases h2 : i = k
    · subst h2
      rw [if_neg (by omega), if_pos rfl, if_pos (by omega)]
    · rw [if_neg h1, if_neg h2, if_neg (by omega)]
      split <;> simp [sgM]
theorem st_all (d n : Nat) (hd : d = 2 ∨ d = 3) (hn : n ≤ 4) (zs : List Int) (hP : isP d n zs = true) : ∀ k, k ≤ n → sgF d zs n (wordsB d k) = stL d zs n k 0
  | 0, _ => by
    have : stL d zs n 0 0 = List.replicate n 0 := by
      apply List.ext_getElem
      · simp [stL]
      · intro i h1 h2
        simp only [stL, List.getElem_map, List.getElem_range, List.getElem_replicate]
        split
        · omega
        · split <;> simp [sgM]
    rw [this]; rfl
  | k + 1, hk => by
    have ih := st_all d n hd hn zs hP k (by omega)
    rw [wordsB_next]
    unfold sgF at ih ⊢
    rw [List.foldl_append, ih]
    have := st_row d n hd hn zs hP k hk (d ^ k) (Nat.le_refl _)
    rw [List.take_of_length_le (by rw [wordsL_len]; exact Nat.le_refl _)] at this
    rw [this, st_next]
theorem sgF_sgL (d n : Nat) (hd : d = 2 ∨ d = 3) (hn : n ≤ 4) (zs : List Int) (hP : isP d n zs = true) : sgF d zs n (wordsB d n) = sgL d zs n := by
  rw [st_all d n hd hn zs hP n (Nat.le_refl _)]
  unfold stL sgL
  apply List.map_congr_left
  intro i hi
  rw [if_pos (by simpa using hi)]
theorem sgM_bd (d : Nat) (zs : List Int) (k : Nat) (h : ∀ i, (oddN d (zs.getD (sumN d k + i) 0).toNat).toNat ≤ 5) : ∀ j, sgM d zs k j ≤ 5 * j
  | 0 => Nat.le_refl _
  | j + 1 => by
    have := sgM_bd d zs k h j
    have := h j
    simp only [sgM]; omega
theorem oddN_bd (d k : Nat) (hd : d = 2 ∨ d = 3) (hk : k < cN d) : (oddN d k).toNat ≤ 1 ∧ 0 ≤ oddN d k := by
  rw [oddN_eq d k hd hk]
  split <;> simp
theorem sgM_le (d n : Nat) (hd : d = 2 ∨ d = 3) (hn : n ≤ 4) (zs : List Int) (hP : isP d n zs = true) (k : Nat) (hk : k < n) : ∀ j, j ≤ d ^ k → sgM d zs k j ≤ j
  | 0, _ => Nat.le_refl _
  | j + 1, hj => by
    have := sgM_le d n hd hn zs hP k hk j (by omega)
    have := (oddN_bd d _ hd (entry_ok d n hd hn zs hP k j hk hj).2.2).1
    simp only [sgM]; omega
theorem sgL_succ (d : Nat) (zs : List Int) (k : Nat) : sgL d zs (k + 1) = sgL d zs k ++ [((sgM d zs k (d ^ k) % 2 : Nat) : Int)] := by simp [sgL, List.range_succ]
theorem sgL_len (d : Nat) (zs : List Int) (k : Nat) : (sgL d zs k).length = k := by simp [sgL]

set_option maxRecDepth 100000 in
set_option maxHeartbeats 2000000 in
theorem sSignsOf_calls (d n : Int) (v : Value) (zs : List Int) (w : World) (hv : SeesI w v zs) :
    Calls Tryd.prog 12 #[.int .i64 d, .int .i64 n, v] w fun e w' => ∃ v1, e = .returned (.tuple #[v1, .int .i64 (codeP d n zs)]) ∧ OwnI w' w.heap.size v1 (sgR d n zs) ∧ Below w.heap.size w w' := by
  have hL := sees_one2 hv
  have hbw : Below w.heap.size w (w.alloc (.cells #[v] 22)) := by (repeat (first | exact Below.refl _ _ | refine below_drew' ?_ | refine below_drewN' ?_ _ | refine below_alloc' ?_ _ | refine below_set' ?_ (by (try simp); (try omega)) _ | refine below_step ?_ (by assumption)))
  have HC := Lib.hid (l03Code_calls d n _ _ (by simp) _ hL)
  rw [codeQ_one] at HC
  obtain ⟨oa, ca, hve, _⟩ := hv.view
  subst hve
  have Hv := Lib.hid hv
  clear hv hL
  by_cases hc : codeP d n zs = 0
  · obtain ⟨k1, k2, k3⟩ := codeP_zero d n zs hc
    have HR : Hid (sgR d n zs = sgF d.toNat zs n.toNat (wordsB d.toNat n.toNat)) := Lib.hid (by unfold sgR; rw [if_pos hc])
    have Hc := Lib.hid hc
    obtain ⟨m, rfl⟩ := Int.eq_ofNat_of_zero_le (a := n) (by omega)
    obtain ⟨c, rfl⟩ := Int.eq_ofNat_of_zero_le (a := d) (by omega)
    rw [Int.toNat_natCast] at *
    rw [Int.toNat_natCast] at *
    have hc23 : c = 2 ∨ c = 3 := by omega
    have hm4 : m ≤ 4 := by omega
    rw [sgF_sgL c m hc23 hm4 zs k3] at HR
    rw [hc] at HC
    have HE := Lib.hid (entry_ok c m hc23 hm4 zs k3)
    have HB := Lib.hid (sgM_le c m hc23 hm4 zs k3)
    have HSt := Lib.hid (fun k (hk : k ≤ 4) W => l03Start_calls c k (by omega) hk W)
    clear k1 k2 k3 hc
    go_enter Tryd.func12, Tryd.ntmps12
    go_wp2_with (go_at_call 27; refine HC.out.mono ?_; rintro e w1 ⟨rfl, hb1⟩)
    have hbw1 := below_step hbw hb1
    have hs1 := hbw1.size
    have hO0 : OwnI (w1.alloc (.cells #[] 2)) w.heap.size (.slice (some ⟨w1.heap.size, 0, none⟩) 0 0) [] := OwnI.empty w1 _ 0 #[] hs1 (by unfold maxLen; omega) rfl
    have hbw2 : Below w.heap.size w (w1.alloc (.cells #[] 2)) := hbw1.alloc hs1 _
    clear hb1 hbw1 hs1
    go_loopw [9, 10] (fun o i wr => ∃ k : Nat, k ≤ m ∧ i = .int .i64 k ∧ OwnI wr w.heap.size o (sgL c zs k) ∧ Below w.heap.size w wr) (fun _ i _ => m - (intOf i).toNat)
    case atStart => exact ⟨0, by omega, rfl, hO0, hbw2⟩
    case round =>
      clear hO0 hbw2
      obtain ⟨k, hk, rfl, hO, hbwr⟩ := hrel
      by_cases hlt : k < m
      · have hki : (k : Int) < (m : Int) := by omega
        have HS1 := Lib.hid (HSt.out k (by omega))
        have HS2 := Lib.hid (HSt.out (k + 1) (by omega))
        rw [← sumN_cast c k (by omega) (by omega)] at HS1
        have hnx : sumP c (k + 1) = ((sumN c k + c ^ k : Nat) : Int) := by rw [sumP, ← sumN_cast c k (by omega) (by omega), Int.natCast_add]; rfl
        rw [hnx, show ((k + 1 : Nat) : Int) = (k : Int) + 1 from by omega] at HS2
        have hpb := pow_le c k (by omega) (by omega)
        have hsb := sumP_bd c (by omega) k (by omega)
        rw [← sumN_cast c k (by omega) (by omega)] at hsb
        have HEk := Lib.hid (fun j hj => HE.out k j hlt hj)
        have HBk := Lib.hid (fun j hj => HB.out k hlt j hj)
        have Hsu : Hid (∀ j, sgM c zs k (j + 1) = sgM c zs k j + (oddN c (zs.getD (sumN c k + j) 0).toNat).toNat) := Lib.hid (fun _ => rfl)
        have Hn := Lib.hid (sgL_succ c zs k)
        have Hln := Lib.hid (sgL_len c zs k)
        have hz0 : sgM c zs k 0 = 0 := rfl
        clear hnx
        generalize hM : sgM c zs k = M at *
        generalize c ^ k = N at *
        generalize sumN c k = A at *
        clear hM
        go_wp2_with (go_at_call 28; refine (HS1.out _).mono ?_; rintro e w' ⟨rfl, rfl⟩)
        go_loopw [11, 12] (fun sm i wx => ∃ j : Nat, j ≤ N ∧ sm = .int .i64 (M j : Nat) ∧ i = .int .i64 (A + j : Nat) ∧ OwnI wx w.heap.size u9 (sgL c zs k) ∧ Below w.heap.size w wx) (fun _ i _ => A + N - (intOf i).toNat)
        case atStart => exact ⟨0, by omega, by rw [hz0]; rfl, rfl, hO, hbwr⟩
        case round =>
          clear hO hbwr
          obtain ⟨j, hj, rfl, rfl, hO, hbx⟩ := hrel
          have hsx := hbx.size
          have hMb := HBk.out j hj
          by_cases hjl : j < N
          · have hji : ((A + j : Nat) : Int) < ((A + N : Nat) : Int) := by omega
            obtain ⟨q1, q2, q3⟩ := HEk.out j hjl
            have hq1 : ((A + j : Nat) : Int) < (zs.length : Int) := by omega
            have eg : zs.getD (A + j) 0 = zs[A + j] := by simp [List.getD, List.getElem?_eq_getElem q1]
            obtain ⟨g, hg, _, hcz⟩ := (Hv.out.below hbx).at (A + j) q1
            subst hg
            have hsj := Hsu.out j
            rw [eg] at q2 q3 hsj
            obtain ⟨kk, hkk⟩ := Int.eq_ofNat_of_zero_le q2
            rw [hkk] at hcz q3 hsj
            rw [Int.toNat_natCast] at q3 hsj
            obtain ⟨b1, b2⟩ := oddN_bd c kk hc23 q3
            have HOd := Lib.hid (fun W => l03Odd_calls c kk hc23 q3 W)
            have hM1 : ((M (j + 1) : Nat) : Int) = (M j : Int) + oddN c kk := by omega
            have hwr : IntKind.i64.wrap ((M j : Int) + oddN c kk) = (M j : Int) + oddN c kk := IntWalk.i64_in _ (by omega)
            clear eg hsj hkk
            generalize oddN c kk = od at *
            go_wp2_with (first | (go_at_call 28; refine (HS2.out _).mono ?_; rintro e w' ⟨rfl, rfl⟩) | (go_at_call 29; refine (HOd.out _).mono ?_; rintro e w5 ⟨rfl, hb5⟩))
            go_roundw
            case rel => exact ⟨j + 1, by omega, by rw [hM1], by go_num, hO.below hb5, below_step hbx hb5⟩
            case measure => simp [intOf] <;> omega
          · obtain rfl : j = N := by omega
            have hrem : Int.tmod (M j : Int) 2 = ((M j % 2 : Nat) : Int) := by rw [Int.tmod_eq_emod_of_nonneg (by omega)]; omega
            have hO1 := hO.below (Below.alloc (Below.refl wr.heap.size wr) (Nat.le_refl _) (.cells #[.int .i64 ((M j % 2 : Nat) : Int)] 2))
            have hbx1 := hbx.alloc hsx (.cells #[.int .i64 ((M j % 2 : Nat) : Int)] 2)
            go_wp2_with (first | (go_at_call 28; refine (HS2.out _).mono ?_; rintro e w' ⟨rfl, rfl⟩) | (at_builtin; refine wpList_push_int rfl (.tmp 46) (.tmp 49) rfl w.heap.size _ (sgL c zs k) rfl hO1 wr.heap.size 1 ((M j % 2 : Nat) : Int) rfl (Blk.new wr _ _) (by rw [Hln.out]; omega) (by simp; omega) ?_; intro v1 w4 hO4 hb4))
            rw [← Hn.out] at hO4
            go_roundw
            case rel => exact ⟨k + 1, by omega, by go_num, hO4, hbx1.trans hb4⟩
            case measure => simp [intOf] <;> omega
      · obtain rfl : k = m := by omega
        go_wp2
        go_ret2
        exact ⟨_, ret_lv Hc.out.symm, by rw [HR.out]; exact hO, hbwr⟩
  · have HR : Hid (sgR d n zs = []) := Lib.hid (by unfold sgR; rw [if_neg hc])
    have hcb : (codeP d n zs != 0) = true := by simpa using hc
    generalize codeP d n zs = cc at *
    go_enter Tryd.func12, Tryd.ntmps12
    go_wp2_with (go_at_call 27; refine HC.out.mono ?_; rintro e w1 ⟨rfl, hb1⟩)
    go_ret2
    exact ⟨_, rfl, by rw [HR.out]; exact OwnI.nil _ _, below_step hbw hb1⟩
end Go.Proofs.YtcloljaebidnlaaDoor
