/-
  The contract of impl.FillFromStock.
-/
import Derived.Test.YthhmbcgamcbfdaaDoorVu
namespace Go.Proofs.YthhmbcgamcbfdaaDoor
open Go.RowKit Go.Shelf
set_option linter.unusedVariables false
theorem quietUpon_wide {P : Program} {n : Nat} {C : World → Prop} {w : World} {v : Value} {r : Result Next} (h : Oper.quietUpon P C w v r) : Oper.quietUponIn Fence.wide n P C w v r := by
  cases r with
  | ok x w' =>
    cases x with
    | value u => exact h
    | skip => exact h
    | enter f args => exact ⟨h.1, fun hd => (by cases hd), callsIn_wide.2 h.2⟩
    | _ => exact h.elim
  | _ => exact h.elim
theorem wpQuiet_wide {P : Program} {n : Nat} {ops : Array Oper} {C : World → Prop} {Q : Act → Prop} : ∀ (l : List Oper) (a : Act), wpQuiet P ops C Q l a → wpQuietIn Fence.wide n P ops C Q l a
  | [], _, h => h
  | o :: rest, a, h => by
    refine ⟨fun _ _ _ _ => trivial, ?_⟩
    unfold wpQuiet at h
    split
    · rename_i hw
      rw [if_pos hw] at h
      obtain ⟨v, h1, h2⟩ := h
      exact ⟨v, fun w hc => quietUpon_wide (h1 w hc), wpQuiet_wide rest _ h2⟩
    · rename_i hw
      rw [if_neg hw] at h
      exact wpQuiet_wide rest _ h
/-- .. by the plain walk. -/
theorem region_keptP (B : Nat) {P : Program} {n r id : Nat} {Q : Exit → Act → World → Prop} {a : Act} {w : World} {l : List Oper} (hm : P.follows .mixedOrders = true) (hL : Region.lexB .any l.toArray = true) (hd : nodef l = true)
    (h : wpQuiet P l.toArray (fun w' => ∃ x : KeptW B w, w' = x.at_) (fun a' => ∀ w', Below B w w' → Q .normal a' w') l a) : (Code.region id l.toArray true).wpIn (Fence.wide.inRound r) n P Q a w :=
  region_keptR B hm hL hd (wpQuiet_wide l a h)
attribute [local go_sem] Oper.semAt_some encB BwI.w

/-- What a round makes of what is left and of the counts. -/
noncomputable def stpS {l : List Int} (ss : List Int) (s : Int × (Nat → Int)) (x : BwI l) : Int × (Nat → Int) := (s.1 - (mostC l ss x.i s.1 : Int) * x.w, fun j => if j = x.i then (mostC l ss x.i s.1 : Int) else s.2 j)
noncomputable def sS {l : List Int} (ss : List Int) (N : Int) (pre : List (BwI l)) : Int × (Nat → Int) := pre.foldl (stpS ss) (N, fun _ => 0)
theorem sS_snoc {l : List Int} (ss : List Int) (N : Int) (pre : List (BwI l)) (x : BwI l) : sS ss N (pre ++ [x]) = stpS ss (sS ss N pre) x := by simp [sS]
/-- The first round has found something; what is left is no more than all. -/
def GoodT {l : List Int} (ss : List Int) (N : Int) (pre : List (BwI l)) : Prop := (0 ≤ (sS ss N pre).1 ∧ (sS ss N pre).1 ≤ N) ∧ ∀ x r, pre = x :: r → stB l ss (x.i + 1) N = true
theorem goodT_step {l ss : List Int} (hp : Pos l) {N : Int} {pre : List (BwI l)} (h : GoodT ss N pre) (x : BwI l) (hx : stB l ss (x.i + 1) (sS ss N pre).1 = true) : GoodT ss N (pre ++ [x]) := by
  obtain ⟨h1, h2⟩ := mostC_spec hp x.lt (stB_iff.1 hx)
  have h3 := stu_nonneg hp (Nat.le_of_lt x.lt) h1.2
  have h4 := most_bound hp x.lt h1
  have hw : l.getD x.i 0 = x.w := getD_of x.lt
  have h5 := nat_mul_nonneg (getD_pos hp x.lt) (mostC l ss x.i (sS ss N pre).1)
  rw [hw] at h3 h4 h5
  refine ⟨?_, fun y r e => ?_⟩
  · rw [sS_snoc]
    show 0 ≤ (sS ss N pre).1 - _ ∧ (sS ss N pre).1 - _ ≤ N
    have := h.1.2
    omega
  · cases pre with
    | nil => cases e; exact hx
    | cons z q => cases e; exact h.2 _ _ rfl
theorem sS_bw {l : List Int} (ss : List Int) (N : Int) : ∀ k : Nat, k ≤ l.length → (sS ss N (bwL l k)).1 = remS l ss N k ∧ ∀ j, (sS ss N (bwL l k)).2 j = if l.length - k ≤ j ∧ j < l.length then (cntS l ss N j : Int) else 0
  | 0, _ => ⟨rfl, fun j => by rw [if_neg (by omega)]; rfl⟩
  | k + 1, hk => by
    obtain ⟨h1, h2⟩ := sS_bw (l := l) ss N k (by omega)
    have hlt : l.length - 1 - k < l.length := by omega
    rw [bwL_succ (show k < l.length by omega), sS_snoc]
    have hw : (⟨l.length - 1 - k, hlt⟩ : BwI l).w = l.getD (l.length - 1 - k) 0 := by rw [getD_of hlt]; rfl
    refine ⟨?_, fun j => ?_⟩
    · show (sS ss N (bwL l k)).1 - (mostC l ss (l.length - 1 - k) (sS ss N (bwL l k)).1 : Int) * (⟨l.length - 1 - k, hlt⟩ : BwI l).w = _
      rw [h1, hw]; rfl
    · show (if j = l.length - 1 - k then (mostC l ss (l.length - 1 - k) (sS ss N (bwL l k)).1 : Int) else (sS ss N (bwL l k)).2 j) = _
      rw [h1, h2]
      by_cases hj : j = l.length - 1 - k
      · rw [if_pos hj, if_pos (by omega)]
        unfold cntS
        rw [hj, show l.length - 1 - (l.length - 1 - k) = k from by omega]
      · rw [if_neg hj]
        by_cases h3 : l.length - k ≤ j ∧ j < l.length
        · rw [if_pos h3, if_pos (by omega)]
        · rw [if_neg h3, if_neg (by omega)]
theorem bwL_head {l : List Int} (h1 : 1 ≤ l.length) : ∀ k : Nat, 1 ≤ k → k ≤ l.length → ∃ (x : BwI l) (r : List (BwI l)), bwL l k = x :: r ∧ x.i + 1 = l.length
  | 1, _, _ => ⟨⟨l.length - 1 - 0, by omega⟩, [], by rw [bwL_succ (show 0 < l.length by omega)]; rfl, by show l.length - 1 - 0 + 1 = _; omega⟩
  | k + 2, _, hk => by
    obtain ⟨x, r, h2, h3⟩ := bwL_head h1 (k + 1) (by omega) (by omega)
    have hlt : l.length - 1 - (k + 1) < l.length := by omega
    exact ⟨x, r ++ [⟨l.length - 1 - (k + 1), hlt⟩], by rw [bwL_succ (show k + 1 < l.length by omega), h2, List.cons_append], h3⟩
/-- A round that finds nothing: nothing fills it. -/
theorem fill_none {l ss : List Int} (hp : Pos l) (h1 : 1 ≤ l.length) {N : Int} {k : Nat} (hk : k < l.length) (hg : GoodT ss N (bwL l k)) (hx : stB l ss (l.length - 1 - k + 1) (sS ss N (bwL l k)).1 = false) : stB l ss l.length N = false := by
  cases hb : stB l ss l.length N with
  | false => rfl
  | true =>
    have h2 := remS_left hp (stB_iff.1 hb) k (by omega)
    rw [(sS_bw ss N k (by omega)).1, show l.length - 1 - k + 1 = l.length - k from by omega] at hx
    rw [stB_iff.2 h2] at hx; cases hx

set_option maxRecDepth 100000 in
set_option maxHeartbeats 8000000 in
theorem implFillFromStock_any (l : List Int) (A : Option Addr) (c : Nat) (ss : List Int) (B : Option Addr) (d : Nat) (n : Int) (w : World) (hf : IntsIn w A l) (hlen : l.length ≤ 1048576) (hcap : l.length ≤ c) (hg : IntsIn w B ss) (hslen : ss.length ≤ 1048576) (hcap2 : ss.length ≤ d) :
    Calls Tryd.prog 6 #[.slice A l.length c, .slice B ss.length d, .int .i64 n] w fun e w' => ∃ v T, e = .returned (.tuple #[v, .bool (fillB l ss n)]) ∧ Below w.heap.size w w' ∧ w'.ownsRow w.heap.size T 1 v (fillL l ss n).length (intsZ (fillL l ss n)) := by
  obtain ⟨u1, hu1⟩ : ∃ x : World, x = w.alloc (.cells #[.slice A l.length c] 23) := ⟨_, rfl⟩
  have z1 : u1.heap.size = w.heap.size + 1 := by rw [hu1, World.size_alloc]
  obtain ⟨u2, hu2⟩ : ∃ x : World, x = u1.alloc (.cells #[.slice B ss.length d] 23) := ⟨_, rfl⟩
  have z2 : u2.heap.size = w.heap.size + 1 + 1 := by rw [hu2, World.size_alloc, z1]
  obtain ⟨u3, hu3⟩ : ∃ x : World, x = u2.alloc (.cells #[.slice none 0 0] 23) := ⟨_, rfl⟩
  have z3 : u3.heap.size = w.heap.size + 1 + 1 + 1 := by rw [hu3, World.size_alloc, z2]
  obtain ⟨u4, hu4⟩ : ∃ x : World, x = u3.alloc (.cells #[.bool false] 4) := ⟨_, rfl⟩
  have z4 : u4.heap.size = w.heap.size + 1 + 1 + 1 + 1 := by rw [hu4, World.size_alloc, z3]
  have HX0 : Hid (Boxed u4 (w.heap.size) 23 (.slice A l.length c)) := Lib.hid (by
    have h : Boxed u1 w.heap.size 23 (.slice A l.length c) := by rw [hu1]; exact Boxed.new _ _ _
    replace h := h.alloc (.cells #[.slice B ss.length d] 23)
    rw [← hu2] at h
    replace h := h.alloc (.cells #[.slice none 0 0] 23)
    rw [← hu3] at h
    replace h := h.alloc (.cells #[.bool false] 4)
    rw [← hu4] at h
    exact h)
  have HX1 : Hid (Boxed u4 (w.heap.size + 1) 23 (.slice B ss.length d)) := Lib.hid (by
    have h : Boxed u2 u1.heap.size 23 (.slice B ss.length d) := by rw [hu2]; exact Boxed.new _ _ _
    rw [z1] at h
    replace h := h.alloc (.cells #[.slice none 0 0] 23)
    rw [← hu3] at h
    replace h := h.alloc (.cells #[.bool false] 4)
    rw [← hu4] at h
    exact h)
  have HX2 : Hid (Boxed u4 (w.heap.size + 1 + 1) 23 (.slice none 0 0)) := Lib.hid (by
    have h : Boxed u3 u2.heap.size 23 (.slice none 0 0) := by rw [hu3]; exact Boxed.new _ _ _
    rw [z2] at h
    replace h := h.alloc (.cells #[.bool false] 4)
    rw [← hu4] at h
    exact h)
  have HX3 : Hid (Boxed u4 (w.heap.size + 1 + 1 + 1) 4 (.bool false)) := Lib.hid (by
    have h : Boxed u4 u3.heap.size 4 (.bool false) := by rw [hu4]; exact Boxed.new _ _ _
    rw [z3] at h
    exact h)
  have HB1 : Hid (Below w.heap.size w u4) := Lib.hid (by
    have h0 := Below.refl w.heap.size w
    replace h0 := h0.alloc (by omega) (.cells #[.slice A l.length c] 23)
    rw [← hu1] at h0
    replace h0 := h0.alloc (by rw [z1]; omega) (.cells #[.slice B ss.length d] 23)
    rw [← hu2] at h0
    replace h0 := h0.alloc (by rw [z2]; omega) (.cells #[.slice none 0 0] 23)
    rw [← hu3] at h0
    replace h0 := h0.alloc (by rw [z3]; omega) (.cells #[.bool false] 4)
    rw [← hu4] at h0
    exact h0)
  have HW1 : Hid (u4 = ((((w.alloc (.cells #[.slice A l.length c] 23)).alloc (.cells #[.slice B ss.length d] 23)).alloc (.cells #[.slice none 0 0] 23)).alloc (.cells #[.bool false] 4))) := Lib.hid (by rw [hu4, hu3, hu2, hu1])
  have HZ := Lib.hid z4
  clear hu1 z1 hu2 z2 hu3 z3 hu4 z4
  have HF := Lib.hid (hf.below HB1.out (Nat.le_refl _)); have HGG := Lib.hid (hg.below HB1.out (Nat.le_refl _))
  clear hf hg
  have cx := HX0.out.cell; have cy := HX1.out.cell; have c2 := HX2.out.cell; have c3 := HX3.out.cell
  have f2 := HX2.out.frozen; have f3 := HX3.out.frozen
  have hFA : fillAsk l ss n = ((kindsB l && cntB l ss) && inB 0 400 n) := by
    unfold fillAsk wAsk
    cases kindsB l <;> cases cntB l ss <;> cases inB 0 400 n <;> rfl
  cases ha : fillAsk l ss n
  · have HV0 : Hid (fillB l ss n = false) := Lib.hid (by unfold fillB; rw [ha]; rfl)
    have HV := Lib.hid (fillL_no HV0.out)
    have HA : Hid (((kindsB l && cntB l ss) && inB 0 400 n) = false) := Lib.hid (by rw [← hFA]; exact ha)
    clear ha hFA
    go_enter Tryd.func6, Tryd.ntmps6
    go_wp2_with fail
    rw [← HW1.out]
    refine (areSpaceCounts_any l A c ss B d _ HF.out HGG.out hlen hslen).mono ?_
    rintro e w' ⟨rfl, rfl⟩
    have HN2 : Hid (Boxed ((u4.setCell ⟨w.heap.size + 1 + 1, 0, none⟩ (.slice none 0 0)).setCell ⟨w.heap.size + 1 + 1 + 1, 0, none⟩ (.bool false)) (w.heap.size + 1 + 1) 23 (.slice none 0 0)) := Lib.hid ((HX2.out.set _).kept (grownBy_setCell' _ _ _) (fun e => by have := Option.some.inj e; omega))
    have HN3 : Hid (Boxed ((u4.setCell ⟨w.heap.size + 1 + 1, 0, none⟩ (.slice none 0 0)).setCell ⟨w.heap.size + 1 + 1 + 1, 0, none⟩ (.bool false)) (w.heap.size + 1 + 1 + 1) 4 (.bool false)) := Lib.hid ((HX3.out.kept (grownBy_setCell' _ _ _) (fun e => by have := Option.some.inj e; omega)).set _)
    have HNB : Hid (Below w.heap.size w ((u4.setCell ⟨w.heap.size + 1 + 1, 0, none⟩ (.slice none 0 0)).setCell ⟨w.heap.size + 1 + 1 + 1, 0, none⟩ (.bool false))) := Lib.hid ((HB1.out.setCell (p := ⟨w.heap.size + 1 + 1, 0, none⟩) (by show w.heap.size ≤ w.heap.size + 1 + 1; omega) _).setCell (p := ⟨w.heap.size + 1 + 1 + 1, 0, none⟩) (by show w.heap.size ≤ w.heap.size + 1 + 1 + 1; omega) _)
    cases hgk : (kindsB l && cntB l ss)
    · clear hgk HA
      go_wp2
      have hc3 := HN2.out.cell; have hc4 := HN3.out.cell
      refine bodyPost_ret (v := .tuple #[.slice none 0 0, .bool false]) (by simp [results, Tryd.f6, go_sem, hc3, hc4]) rfl ?_
      exact ⟨_, 3, by rw [HV0.out], HNB.out, by rw [HV.out]; exact own_nil _ _ _ _⟩
    · rw [hgk] at HA
      clear hgk
      go_wp2_with fail
      refine (isFillWidth_any _ _).mono ?_
      rintro e w' ⟨rfl, rfl⟩
      have hi : inB 0 400 n = false := by simpa using HA.out
      rw [hi]
      clear hi
      go_wp2
      have hc3 := HN2.out.cell; have hc4 := HN3.out.cell
      refine bodyPost_ret (v := .tuple #[.slice none 0 0, .bool false]) (by simp [results, Tryd.f6, go_sem, hc3, hc4]) rfl ?_
      exact ⟨_, 3, by rw [HV0.out], HNB.out, by rw [HV.out]; exact own_nil _ _ _ _⟩
  · have HA : Hid (((kindsB l && cntB l ss) && inB 0 400 n) = true) := Lib.hid (by rw [← hFA]; exact ha)
    have hA1 := Bool.and_eq_true_iff.1 HA.out
    obtain ⟨⟨hgd, h0, h4⟩, hsl, hs4⟩ := fillAsk_iff.1 ha
    have HK := Lib.hid hA1.1; have HI := Lib.hid hA1.2
    obtain ⟨N, rfl⟩ : ∃ N : Nat, n = (N : Int) := ⟨n.toNat, by omega⟩
    have hN4 : N ≤ 400 := by omega
    have HSL := Lib.hid hsl
    have hs1 : 0 < ss.length := by have := hgd.one; omega
    have HG := Lib.hid hgd; have HS4 := Lib.hid hs4; have HFK := Lib.hid ha
    have hl6 := hgd.six
    have hl1 := hgd.one
    obtain ⟨b, off, rfl, hbl, hkc⟩ := HF.out (by omega)
    obtain ⟨b', off', rfl, hbl', hsc⟩ := HGG.out hs1
    clear hsl
    have HKC := Lib.hid hkc
    have l0 := HX0.out.lt; have l1 := HX1.out.lt; have l2 := HX2.out.lt; have l3 := HX3.out.lt
    have hz := HZ.out
    obtain ⟨ub, hub⟩ : ∃ x : World, x = u4.alloc (.cells (madeCells #[.int .i64 0] (l.length * 1)) 3) := ⟨_, rfl⟩
    have hmk : (Instr.makeSlice 23 (.int .i64 (l.length : Int)) (.int .i64 (l.length : Int))).run Tryd.prog u4 = .ok (.slice (some ⟨u4.heap.size, 0, none⟩) l.length l.length) ub := by rw [hub]; exact run_makeI l.length hlen u4
    have hzb : ub.heap.size = u4.heap.size + 1 := by rw [hub]; simp
    obtain ⟨w3, hw3⟩ : ∃ x : World, x = (ub.alloc (.cells #[.slice (some ⟨u4.heap.size, 0, none⟩) l.length l.length] 23)).alloc (.cells #[.int .i64 (N : Int)] 3) := ⟨_, rfl⟩
    have hz3 : w3.heap.size = ub.heap.size + 2 := by rw [hw3]; simp
    have bub : Below u4.heap.size u4 ub := by rw [hub]; exact (Below.refl _ _).alloc (Nat.le_refl _) _
    have bw3 : Below ub.heap.size ub w3 := by rw [hw3]; exact ((Below.refl _ _).alloc (Nat.le_refl _) _).alloc (by simp) _
    have HB3 : Hid (Below u4.heap.size u4 w3) := Lib.hid (bub.trans (bw3.mono bub.size))
    have HTC : Hid (Tb w3 u4.heap.size 3 l.length (fun _ => .int .i64 0)) := Lib.hid (by
      have h : Tb ub u4.heap.size 3 l.length (fun _ => .int .i64 0) := by rw [hub]; exact made_int _ _ _
      exact h.next bw3)
    have HXC : Hid (Boxed w3 ub.heap.size 23 (.slice (some ⟨u4.heap.size, 0, none⟩) l.length l.length)) := Lib.hid (by rw [hw3]; exact (Boxed.new _ _ _).alloc _)
    have HXL : Hid (Boxed w3 (ub.heap.size + 1) 3 (.int .i64 (N : Int))) := Lib.hid (by
      rw [hw3]
      have h := Boxed.new (ub.alloc (.cells #[.slice (some ⟨u4.heap.size, 0, none⟩) l.length l.length] 23)) 3 (.int .i64 (N : Int))
      rw [World.size_alloc] at h; exact h)
    have HW3 := Lib.hid hw3
    have hq0 : w.heap.size + 1 + 1 + 1 < u4.heap.size := l3
    have hq1 : u4.heap.size < ub.heap.size := by omega
    have hq2 : ub.heap.size + 1 < w3.heap.size := by omega
    have c03 : ((ub.alloc (.cells #[.slice (some ⟨u4.heap.size, 0, none⟩) l.length l.length] 23)).alloc (.cells #[.int .i64 (N : Int)] 3)).cell? ⟨w.heap.size, 0, none⟩ = some (.slice (some ⟨b, off, none⟩) l.length c) := by rw [← hw3]; exact (HB3.out.cell (p := ⟨w.heap.size, 0, none⟩) l0).trans cx
    clear bub bw3 hub hw3 hzb hz3 hz hkc hsc hgd ha hFA hA1 hs4
    refine (callsIn_wide (n := 6)).1 ?_
    have n6 : 1 ≤ 6 := by omega
    refine callsIn_of_wp_marks Tryd.func6 rfl trivial ?_ rfl
    simp only [Tryd.ntmps6, List.size_toArray, List.length_cons, List.length_nil, Nat.reduceAdd, Nat.reduceSub, Array.replicate_succ, Array.replicate_zero, List.push_toArray, List.append_toArray, List.nil_append, List.cons_append]
    refine wpIn_wide.2 ?_
    go_wp2_with fail
    rw [← HW1.out]
    refine (areSpaceCounts_any l _ c ss _ d _ HF.out HGG.out hlen hslen).mono ?_
    rintro e w' ⟨rfl, rfl⟩
    rw [HK.out]
    go_wp2_with fail
    refine (isFillWidth_any _ _).mono ?_
    rintro e w' ⟨rfl, rfl⟩
    rw [HI.out]
    go_wp2_with fail
    rw [← HW3.out]
    refine (backward_any _ l.length c w3).mono ?_
    rintro e w4 ⟨rfl, hw4⟩
    have HBK : Hid (Boxed w4 w3.heap.size 23 (.slice (some ⟨b, off, none⟩) l.length c)) := Lib.hid (by rw [hw4]; exact Boxed.new _ _ _)
    have HB4 : Hid (Below w3.heap.size w3 w4) := Lib.hid (by rw [hw4]; exact (Below.refl _ _).alloc (Nat.le_refl _) _)
    have HBU4 : Hid (Below u4.heap.size u4 w4) := Lib.hid (HB3.out.trans (HB4.out.mono HB3.out.size))
    have HX4 := Lib.hid ((HB4.out.block _ HXC.out.lt).trans HXC.out)
    have HL4 := Lib.hid ((HB4.out.block _ HXL.out.lt).trans HXL.out)
    have HT4 := Lib.hid (HTC.out.next HB4.out)
    clear hw4 hmk cx cy c2 c3 f2 f3 c03
    go_wp2
    refine (wpIn_wide (n := 6)).1 ?_
    have hz4 : w3.heap.size < w4.heap.size := Boxed.lt HBK.out
    have hwu : w.heap.size < u4.heap.size := by omega
    refine wpIn_rangeFunc_ownF (F := Fence.wide) (n := 6) rfl n6 (gf := 46) (lb := #[.pointer (some ⟨w3.heap.size, 0, none⟩)]) rfl trivial (enters_of Tryd.func46 (by kernel_rfl) rfl)
      (back_stops 5 (by omega) w3.heap.size b off l c w4 HBK.out (by omega) (fun k hk => (HBU4.out.cell (p := ⟨b, off + k, none⟩) hbl).trans (HKC.out k hk)) hlen) KpL.t (KpL.kb (fun q hq => by rcases hq with rfl | rfl <;> omega)) (Below.refl _ _) (fun _ => rfl)
      (fun pre W => ((Boxed W ub.heap.size 23 (.slice (some ⟨u4.heap.size, 0, none⟩) l.length l.length) ∧ Boxed W (ub.heap.size + 1) 3 (.int .i64 (sS ss (N : Int) pre).1)) ∧ (Tb W u4.heap.size 3 l.length (fun j => .int .i64 ((sS ss (N : Int) pre).2 j)) ∧ GoodT ss (N : Int) pre)) ∧ Below u4.heap.size w4 W)
      (fun cd pre W => ((cd = .ret ∧ ∃ q x, pre = q ++ [x] ∧ GoodT ss (N : Int) q ∧ stB l ss (x.i + 1) (sS ss (N : Int) q).1 = false) ∧ (Boxed W (w.heap.size + 1 + 1) 23 (.slice none 0 0) ∧ Boxed W (w.heap.size + 1 + 1 + 1) 4 (.bool false))) ∧ Below w.heap.size w W)
      (OwnFrom.and (OwnFrom.and (OwnFrom.and (_root_.Go.Own.from (boxed_own _ _ (fun _ => .slice (some ⟨u4.heap.size, 0, none⟩) l.length l.length)) _) (_root_.Go.Own.from (boxed_own _ _ (fun pre => .int .i64 (sS ss (N : Int) pre).1)) _)) (OwnFrom.and (_root_.Go.Own.from (tb_own _ _ _ (fun pre j => .int .i64 ((sS ss (N : Int) pre).2 j))) _) (_root_.Go.Own.from (pure_own (fun pre => GoodT ss (N : Int) pre)) _))) (ownFrom_below (by omega) (by omega)))
      (fun cd => OwnFrom.and (OwnFrom.and (_root_.Go.Own.from (pure_own (fun pre => cd = .ret ∧ ∃ q x, pre = q ++ [x] ∧ GoodT ss (N : Int) q ∧ stB l ss (x.i + 1) (sS ss (N : Int) q).1 = false)) _) (OwnFrom.and (_root_.Go.Own.from (boxed_own _ _ (fun _ => .slice none 0 0)) _) (_root_.Go.Own.from (boxed_own _ _ (fun _ => .bool false)) _))) (ownFrom_below (Nat.le_refl _) (by omega)))
      ⟨⟨⟨HX4.out, HL4.out⟩, HT4.out, ⟨⟨h0, Int.le_refl _⟩, fun x r e => by cases e⟩⟩, Below.refl _ _⟩ ?act ?assign ?body ?done ?stop
    case assign =>
      intro l x W K hK
      gi_wp2
      exact hK
    case body =>
      rintro lp pre x W ⟨⟨⟨hX, hL⟩, hT, hS⟩, hB⟩ hpl
      have wu := HBU4.out.trans hB
      have X0 : Boxed W _ _ _ := (wu.block _ l0).trans HX0.out
      have X1 : Boxed W _ _ _ := (wu.block _ l1).trans HX1.out
      have hv1 := HG.out.pos _ x.mem
      have hv54 : x.w ≤ 54 := HG.out.le x.lt
      obtain ⟨V, hV⟩ : ∃ V : Nat, x.w = (V : Int) := ⟨x.w.toNat, by omega⟩
      have hV' : l[x.i]'x.lt = (V : Int) := hV
      have hxl := x.lt
      have hrange := hS.1
      obtain ⟨R, hR⟩ : ∃ R : Nat, (sS ss (N : Int) pre).1 = (R : Int) := ⟨_, (Int.toNat_of_nonneg hrange.1).symm⟩
      have hRN : R ≤ N := by omega
      have HMW := Lib.hid (fun y : KeptW W.heap.size W => mostOfWidest_any l ss x.i b off c b' off' d R y.at_ ((HF.out.below wu (Nat.le_refl _)).below y.below (by first | exact Nat.le_refl _ | omega)) ((HGG.out.below wu (Nat.le_refl _)).below y.below (by first | exact Nat.le_refl _ | omega)) x.lt HG.out HSL.out HS4.out (by omega) (by have := HSL.out; omega) (by omega))
      obtain ⟨fb, hfb⟩ : ∃ fb, fb = stB l ss (x.i + 1) (R : Int) := ⟨_, rfl⟩
      obtain ⟨mv, hmv⟩ : ∃ mv, mv = mostV l ss x.i (R : Int) := ⟨_, rfl⟩
      rw [← hfb, ← hmv] at HMW
      have HFB := Lib.hid hfb; have HMV := Lib.hid hmv
      have HSN := Lib.hid (sS_snoc ss (N : Int) pre x)
      have HR := Lib.hid hR; have HVV := Lib.hid hV
      have k0 := KeptW.cell X0.cell X0.lt
      have k1 := KeptW.cell X1.cell X1.lt
      rw [hR] at hL
      have kL := KeptW.cell hL.cell hL.lt
      have hxc : (x.i : Int) + 1 ≤ (c : Int) := by omega
      have hxd : (x.i : Int) + 1 ≤ (d : Int) := by have := HSL.out; omega
      have hxi0 : (0 : Int) ≤ (x.i : Int) := by omega
      have hxl' : (x.i : Int) < (l.length : Int) := by omega
      have hxn : ((x.i : Int) + 1).toNat = x.i + 1 := by omega
      have HX := Lib.hid hX; have HL := Lib.hid hL; have HT := Lib.hid hT; have HB := Lib.hid hB; have HS := Lib.hid hS; have HWU := Lib.hid wu
      have hWl := hB.size
      rw [hV] at hv54 hv1
      clear wu X0 X1 hX hL hT hB hS hR hV hfb hmv hrange
      gi_wp2_with fail
      refine region_keptP W.heap.size (by kernel_rfl) (by kernel_rfl) (by kernel_rfl) ?_
      repeat (go_big_quiet_step (fail))
      go_big_quiet_step ((go_at_call 30; exact kept_call _ (Nat.le_refl _) (HMW.out _)))
      repeat (go_big_quiet_step (fail))
      refine wpQuiet_nil ?_
      intro w9 hb9
      have hX9 : Boxed w9 ub.heap.size _ _ := (hb9.block _ (Boxed.lt HX.out)).trans HX.out
      have hL9 : Boxed w9 (ub.heap.size + 1) _ _ := (hb9.block _ (Boxed.lt HL.out)).trans HL.out
      have hT9 := HT.out.next hb9
      have hB9 : Below u4.heap.size w4 w9 := HB.out.trans (hb9.mono (by omega : u4.heap.size ≤ W.heap.size))
      have hK9 := keeps_below hb9 rfl
      have hP9 : KpL (fun q => q = w3.heap.size ∨ q = b) W w9 := KpL.below hb9 (fun q hq => by rcases hq with rfl | rfl <;> omega)
      clear k0 k1 kL hb9
      cases fb with
      | false =>
        have w9u := HBU4.out.trans hB9
        have a2 : Boxed w9 (w.heap.size + 1 + 1) _ _ := (w9u.block _ l2).trans HX2.out
        have a3 : Boxed w9 (w.heap.size + 1 + 1 + 1) _ _ := (w9u.block _ l3).trans HX3.out
        have c2 := a2.cell; have f2 := a2.frozen; have c3 := a3.cell; have f3 := a3.frozen
        have HA2 := Lib.hid a2; have HA3 := Lib.hid a3; have HK9 := Lib.hid hK9
        have HW9 := Lib.hid (HB1.out.trans (w9u.mono HB1.out.size))
        clear hX9 hL9 hT9 hB9 hK9 hP9 w9u a2 a3
        gi_wp2
        refine ⟨(HK9.out.trans (KeepsOthers.setCell _ _ _)).trans (KeepsOthers.setCell _ _ _), ⟨⟨rfl, pre, x, rfl, HS.out, by rw [HR.out]; exact HFB.out.symm⟩, ?_, ?_⟩, ?_⟩
        · exact ((HA2.out.set _).kept (grownBy_setCell' _ _ _) (fun e => by have := Option.some.inj e; omega))
        · exact (HA3.out.kept (grownBy_setCell' _ _ _) (fun e => by have := Option.some.inj e; omega)).set _
        · exact (HW9.out.setCell (p := ⟨w.heap.size + 1 + 1, 0, none⟩) (by show w.heap.size ≤ w.heap.size + 1 + 1; omega) _).setCell (p := ⟨w.heap.size + 1 + 1 + 1, 0, none⟩) (by show w.heap.size ≤ w.heap.size + 1 + 1 + 1; omega) _
      | true =>
        have hst := HFB.out.symm
        have hme : mv = (mostC l ss x.i (R : Int) : Int) := by rw [HMV.out]; unfold mostV; rw [hst]; rfl
        obtain ⟨m, hm⟩ : ∃ m, m = mostC l ss x.i (R : Int) := ⟨_, rfl⟩
        have hms := (mostC_spec HG.out.pos x.lt (stB_iff.1 hst)).1
        have hmb := most_bound HG.out.pos x.lt hms
        rw [← hm, show l.getD x.i 0 = (V : Int) from by rw [getD_of x.lt]; exact HVV.out] at hmb
        rw [← hm] at hme
        have hGT := goodT_step HG.out.pos HS.out x (by rw [HR.out]; exact hst)
        have HGT := Lib.hid hGT
        obtain ⟨p, hp⟩ : ∃ p, p = m * V := ⟨_, rfl⟩
        have hmp : (m : Int) * (V : Int) = (p : Int) := by rw [hp]; exact (Int.natCast_mul m V).symm
        have hpR : p ≤ R := by omega
        obtain ⟨D, hD⟩ : ∃ D, D = R - p := ⟨_, rfl⟩
        have hDi : (R : Int) - (p : Int) = (D : Int) := by omega
        have HDV : Hid ((R : Int) - (m : Int) * (V : Int) = (D : Int)) := Lib.hid (by rw [hmp, hDi])
        have hm4 : m ≤ 400 := by omega
        have HM := Lib.hid hm
        rw [hme]
        have cx := hX9.cell; have cl := hL9.cell; have fl := hL9.frozen
        have ct := hT9.cell hxl; have ft := hT9.free x.i
        have hne1 : ¬ ub.heap.size + 1 = u4.heap.size := by omega
        have hne2 : ¬ u4.heap.size = ub.heap.size + 1 := by omega
        have HXn := Lib.hid ((hX9.kept (grownBy_cell w9 u4.heap.size x.i (.int .i64 (m : Int))) (fun e => by have := Option.some.inj e; omega)).kept (grownBy_cell (w9.setCell ⟨u4.heap.size, x.i, none⟩ (.int .i64 (m : Int))) (ub.heap.size + 1) 0 (.int .i64 (D : Int))) (fun e => by have := Option.some.inj e; omega))
        have HLn := Lib.hid ((hL9.kept (grownBy_cell w9 u4.heap.size x.i (.int .i64 (m : Int))) (fun e => by have := Option.some.inj e; omega)).set (.int .i64 (D : Int)))
        have HTn := Lib.hid ((hT9.set x.i (.int .i64 (m : Int))).other (c := ub.heap.size + 1) (i := 0) (.int .i64 (D : Int)) hne2)
        have HBn := Lib.hid ((hB9.setCell (p := ⟨u4.heap.size, x.i, none⟩) (Nat.le_refl _) (.int .i64 (m : Int))).setCell (p := ⟨ub.heap.size + 1, 0, none⟩) (by show u4.heap.size ≤ ub.heap.size + 1; omega) (.int .i64 (D : Int)))
        have HKn := Lib.hid ((hK9.trans (KeepsOthers.setCell w9 ⟨u4.heap.size, x.i, none⟩ (.int .i64 (m : Int)))).trans (KeepsOthers.setCell _ ⟨ub.heap.size + 1, 0, none⟩ (.int .i64 (D : Int))))
        have HPn := Lib.hid ((hP9.t (KpL.set w9 u4.heap.size x.i (.int .i64 (m : Int)) (by rintro (h | h) <;> omega))).t (KpL.set (w9.setCell ⟨u4.heap.size, x.i, none⟩ (.int .i64 (m : Int))) (ub.heap.size + 1) 0 (.int .i64 (D : Int)) (by rintro (h | h) <;> omega)))
        clear hX9 hL9 hT9 hB9 hK9 hP9 hst hme hms hmb hGT hm hp hD hpR
        gi_wp2
        refine ⟨HKn.out, HPn.out, ⟨⟨HXn.out, ?_⟩, ?_, HGT.out⟩, HBn.out⟩
        · rw [HSN.out]
          show Boxed _ _ _ (.int .i64 ((sS ss (N : Int) pre).1 - (mostC l ss x.i (sS ss (N : Int) pre).1 : Int) * x.w))
          rw [HR.out, HVV.out, ← HM.out, HDV.out]; exact HLn.out
        · rw [HSN.out]
          exact HTn.out.cong (fun j _ => by
            show (if j = x.i then Value.int .i64 (m : Int) else Value.int .i64 ((sS ss (N : Int) pre).2 j)) = Value.int .i64 (if j = x.i then (mostC l ss x.i (sS ss (N : Int) pre).1 : Int) else (sS ss (N : Int) pre).2 j)
            rw [HR.out, ← HM.out]
            split <;> rfl)
    case done =>
      rintro D ys W hD rfl ⟨⟨⟨hX, hL⟩, hT, hS⟩, hB⟩ hK
      have cx := hX.cell
      obtain ⟨hr1, hr2⟩ := sS_bw (l := l) ss (N : Int) l.length (Nat.le_refl _)
      have wu := HBU4.out.trans hB
      have HBW := Lib.hid (HB1.out.trans (wu.mono HB1.out.size))
      obtain ⟨x0, r0, hx0, hxi⟩ := bwL_head hl1 l.length hl1 (Nat.le_refl _)
      have hst := hS.2 x0 r0 hx0
      rw [hxi] at hst
      have hfb : fillB l ss (N : Int) = true := by unfold fillB; rw [HFK.out, hst]; rfl
      have HV := Lib.hid (fillL_yes hfb)
      have HFBB := Lib.hid hfb
      have hfl : (fillL l ss (N : Int)).length = l.length := by rw [HV.out]; simp
      have HO : Hid (W.ownsRow w.heap.size 3 1 (.slice (some ⟨u4.heap.size, 0, none⟩) l.length l.length) l.length (intsZ (fillL l ss (N : Int)))) := Lib.hid (by
        have h := Tb.own (l := fillL l ss (N : Int)) (base := w.heap.size) (by rw [hfl]; exact hT) (by omega) (by rw [hfl]; unfold maxLen; omega) (fun j hj => by
          rw [hr2 j, if_pos (by omega)]; simp only [HV.out, List.getElem_map, List.getElem_range])
        rw [hfl] at h; exact h)
      have HFL := Lib.hid hfl
      have a2 : Boxed W (w.heap.size + 1 + 1) _ _ := (wu.block _ l2).trans HX2.out
      have a3 : Boxed W (w.heap.size + 1 + 1 + 1) _ _ := (wu.block _ l3).trans HX3.out
      have c2 := a2.cell; have f2 := a2.frozen; have c3 := a3.cell; have f3 := a3.frozen
      obtain ⟨W2, hW2⟩ : ∃ x, x = (W.setCell ⟨w.heap.size + 1 + 1, 0, none⟩ (.slice (some ⟨u4.heap.size, 0, none⟩) l.length l.length)).setCell ⟨w.heap.size + 1 + 1 + 1, 0, none⟩ (.bool true) := ⟨_, rfl⟩
      have hK2 : W2.heap[D]? = some (.deferred (some [])) := by rw [hW2]; exact (KeepsOthers.setCell _ _ _).same D _ ((KeepsOthers.setCell W _ _).same D _ hK rfl) rfl
      have HB2 : Hid (Below w.heap.size w W2) := Lib.hid (by
        rw [hW2]; exact (HBW.out.setCell (p := ⟨w.heap.size + 1 + 1, 0, none⟩) (by show w.heap.size ≤ w.heap.size + 1 + 1; omega) _).setCell (p := ⟨w.heap.size + 1 + 1 + 1, 0, none⟩) (by show w.heap.size ≤ w.heap.size + 1 + 1 + 1; omega) _)
      have b3 : Boxed W2 (w.heap.size + 1 + 1) 23 (.slice (some ⟨u4.heap.size, 0, none⟩) l.length l.length) := by rw [hW2]; exact ((a2.set _).kept (grownBy_setCell' _ _ _) (fun e => by have := Option.some.inj e; omega))
      have b4 : Boxed W2 (w.heap.size + 1 + 1 + 1) 4 (.bool true) := by rw [hW2]; exact (a3.kept (grownBy_setCell' _ _ _) (fun e => by have := Option.some.inj e; omega)).set _
      have HO2 : Hid (W2.ownsRow w.heap.size 3 1 (.slice (some ⟨u4.heap.size, 0, none⟩) l.length l.length) l.length (intsZ (fillL l ss (N : Int)))) := Lib.hid (by
        rw [hW2]
        exact own_grown (own_grown HO.out (grownBy_setCell' _ _ _) (fun q hq e => by have h1 : u4.heap.size = q := Option.some.inj hq; have h2 := Option.some.inj e; omega)) (grownBy_setCell' _ _ _) (fun q hq e => by have h1 : u4.heap.size = q := Option.some.inj hq; have h2 := Option.some.inj e; omega))
      have hDw : w.heap.size ≤ D := by omega
      have HW2 := Lib.hid hW2; have HK2 := Lib.hid hK2; have HC3 := Lib.hid b3; have HC4 := Lib.hid b4
      clear hX hL hT hS hB hr1 hr2 hfl hst hfb hK wu a2 a3 b3 b4 hW2 hK2
      go_wp2
      rw [← HW2.out]
      refine ⟨by simp, .inl ⟨_, _, rfl, run_takeDeferred HK2.out, ?_⟩⟩
      have hc3 := cell_kept HC3.out.cell (grownBy_putObj' _ D (.deferred none)) (fun r e => by cases e; exact ⟨_, HK2.out, rfl⟩)
      have hc4 := cell_kept HC4.out.cell (grownBy_putObj' _ D (.deferred none)) (fun r e => by cases e; exact ⟨_, HK2.out, rfl⟩)
      exact ⟨.tuple #[.slice (some ⟨u4.heap.size, 0, none⟩) l.length l.length, .bool true], by simp [results, Tryd.f6, go_sem, hc3, hc4], _, 3, by rw [HFBB.out], below_put _ HB2.out hDw HK2.out, by rw [HFL.out]; exact ownsRow_putObj HO2.out _ HK2.out rfl⟩
    case stop =>
      rintro D cd pre W hD ⟨k, hk, hpk⟩ ⟨⟨⟨rfl, q, x, hqx, hgt, hx⟩, ha3, ha4⟩, hB⟩ hK
      have hkl : l.length - 1 - k < l.length := by omega
      have hqz : q = bwL l k ∧ x = ⟨l.length - 1 - k, hkl⟩ := by
        have e := hqx.symm.trans hpk
        rw [bwL_succ hk] at e
        have := List.append_inj' e rfl
        exact ⟨this.1, by simpa using this.2⟩
      obtain ⟨rfl, rfl⟩ := hqz
      have hnf := fill_none HG.out.pos hl1 hk hgt hx
      have hfb : fillB l ss (N : Int) = false := by unfold fillB; rw [HFK.out, hnf]; rfl
      have HV := Lib.hid (fillL_no hfb)
      have HFBB := Lib.hid hfb
      have HC3 := Lib.hid ha3; have HC4 := Lib.hid ha4; have HK2 := Lib.hid hK; have HB2 := Lib.hid hB
      have hDw : w.heap.size ≤ D := by omega
      clear hqx hgt hx ha3 ha4 hB hK hpk hnf hfb
      gi_wp2
      refine ⟨by simp, .inl ⟨_, _, rfl, run_takeDeferred HK2.out, ?_⟩⟩
      have hc3 := cell_kept HC3.out.cell (grownBy_putObj' _ D (.deferred none)) (fun r e => by cases e; exact ⟨_, HK2.out, rfl⟩)
      have hc4 := cell_kept HC4.out.cell (grownBy_putObj' _ D (.deferred none)) (fun r e => by cases e; exact ⟨_, HK2.out, rfl⟩)
      exact ⟨.tuple #[.slice none 0 0, .bool false], by simp [results, Tryd.f6, go_sem, hc3, hc4], _, 3, by rw [HFBB.out], below_put _ HB2.out hDw HK2.out, by rw [HV.out]; exact own_nil _ _ _ _⟩
end Go.Proofs.YthhmbcgamcbfdaaDoor
