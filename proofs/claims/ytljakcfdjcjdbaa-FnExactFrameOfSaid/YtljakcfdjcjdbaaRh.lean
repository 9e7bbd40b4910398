/-
  The contract of impl.slipPieces.takeRule.
-/
import Derived.Test.YtljakcfdjcjdbaaRe
import Derived.Test.YtljakcfdjcjdbaaRg
import Derived.Maps.OwnIn
namespace Go.Proofs.Ytljakcfdjcjdbaa
open Go.RowKit Go.Shelf
set_option linter.unusedVariables false
attribute [local go_sem] Oper.semAt_some encB BwI.w

/-- What the round of number d takes. -/
def tkC (P : List Sl) (n d : Nat) : Nat := cD 401 P (remD 401 P n d) d
/-- What the stock's map says behind d rounds, and the rule's. -/
def mpT (P : List Sl) (n : Nat) : Nat → Int → Option Int
  | 0 => asM P
  | d + 1 => takM (mpT P n d) (slipD P d).len (tkC P n d : Int)
def rlT (P : List Sl) (n : Nat) : Nat → Int → Option Int
  | 0 => fun _ => none
  | d + 1 => upM (rlT P n d) (slipD P d).len (tkC P n d : Int)
theorem takM_other {m : Int → Option Int} {k c a : Int} (h : a ≠ k) : takM m k c a = m a := by
  unfold takM
  split
  · rw [delM_other h, upM_other h]
  · rw [upM_other h]
theorem mpT_other {P : List Sl} {n : Nat} {a : Int} : ∀ d, (∀ e, e < d → a ≠ (slipD P e).len) → mpT P n d a = asM P a
  | 0, _ => rfl
  | d + 1, h => by
    show takM (mpT P n d) _ _ a = _
    rw [takM_other (h d (by omega)), mpT_other d (fun e he => h e (by omega))]
theorem mpT_at {P : List Sl} (hG : GoodS P) {n d : Nat} (hd : d < P.length) : (mpT P n d (slipD P d).len).getD 0 = (slipD P d).cnt := by
  have e1 := slipD_at hd rfl
  rw [mpT_other d (fun e he h => by
    have e2 := slipD_at (f := P) (d := e) (by omega) rfl
    rw [e1, e2] at h
    have := hG.inj (by omega) (by omega) h
    omega), e1, asM_mem hG.risen (List.getElem_mem _)]
  rfl
theorem ask_le {Z : Nat} {f : List Sl} (h : GoodS f) {d m q : Nat} (hd : d < f.length) (hq : q ≤ topD f m d) : tblD Z f d m ≤ tblD Z f (d + 1) (m - q * lnN (slipD f d)) + q := by
  obtain ⟨j, hj⟩ : ∃ j, j = f.length - 1 - d := ⟨_, rfl⟩
  have hb := h.bd (j := j) (by omega)
  have e1 := slipD_at hd hj
  rw [(tblD_at Z hd hj _).1, (tblD_at Z hd hj _).2, FW_succ Z (show j < f.length by omega), e1]
  unfold topD at hq
  rw [e1] at hq
  exact accS_at Z (FW Z (f.take j)) (lnN f[j]) m (by unfold rds; omega)
/-- What was there stays, but for three blocks. -/
structure K3 (b r l : Nat) (X Y : World) : Prop where
  os : Y.os = X.os
  tape : Y.tape = X.tape
  output : Y.output = X.output
  size : X.heap.size ≤ Y.heap.size
  block : ∀ k, k < X.heap.size → k ≠ b → k ≠ r → k ≠ l → Y.heap[k]? = X.heap[k]?
theorem K3.refl (b r l : Nat) (X : World) : K3 b r l X X := ⟨rfl, rfl, rfl, Nat.le_refl _, fun _ _ _ _ _ => rfl⟩
theorem K3.grown {b r l : Nat} {X Y Z : World} {row : Option Nat} (h : K3 b r l X Y) (hg : Y.grownBy Z row) (hr : ∀ k, row = some k → k = b ∨ k = r ∨ k = l ∨ X.heap.size ≤ k) : K3 b r l X Z :=
  ⟨hg.os.trans h.os, hg.tape.trans h.tape, hg.output.trans h.output, Nat.le_trans h.size hg.size, fun k hk h1 h2 h3 => (hg.block k (Nat.lt_of_lt_of_le hk h.size) (fun e => by
    rcases hr k e.symm with h4 | h4 | h4 | h4 <;> omega)).trans (h.block k hk h1 h2 h3)⟩
theorem K3.cell {b r l : Nat} {X Y : World} (h : K3 b r l X Y) {q i : Nat} (h0 : q < X.heap.size) (h1 : q ≠ b) (h2 : q ≠ r) (h3 : q ≠ l) : Y.cell? ⟨q, i, none⟩ = X.cell? ⟨q, i, none⟩ := by simp [World.cell?, h.block q h0 h1 h2 h3]
theorem grown_none {X Y : World} (h : Below X.heap.size X Y) : X.grownBy Y none := ⟨h.os, h.tape, h.output, h.size, fun k hk _ => h.block k hk⟩
theorem isMp_own {b B : Nat} (hB : b < B) (N : Nat → Nat) (m : Nat → Int → Option Int) : OwnFrom B (fun s W => IsMp W b (N s) (m s)) := fun s X Y row hs hg hr => hs.kept hg (fun e => by have := (hr b e.symm).1; omega)
theorem k3_own {b r l B : Nat} {X : World} (hB : X.heap.size ≤ B) : OwnFrom B (fun (_ : Nat) W => K3 b r l X W) := fun s A C row hs hg hr => hs.grown hg (fun k e => .inr (.inr (.inr (Nat.le_trans hB (hr k e).1))))
theorem wpListIn_put {F : Fence} {nF : Nat} {ops : Array Oper} {rest : List Oper} {o : Oper} {a : Act} {Q : Exit → Act → World → Prop} (w : World)
    (hg : o.guard = none) (om ox ov : Operand) (hop : o.op = Op.mapUpdate 76 om ox ov) (b N : Nat) (m : Int → Option Int) (hm : a.eval om = .map (some b)) (h : IsMp w b N m) (hn : N < maxLen)
    (k v : Int) (hx : a.eval ox = .int .i64 k) (hv : a.eval ov = .int .i64 v) (wk : WF k) (wv : WF v) (hK : ∀ w', IsMp w' b (N + 1) (upM m k v) → w.grownBy w' (some b) → wpListIn F nF Try.prog ops Q rest (a.put o.dst undef) w') : wpListIn F nF Try.prog ops Q (o :: rest) a w := by
  obtain ⟨D, h1, h2⟩ := h
  refine wpListIn_mapUpdate_own w hg om ox ov 76 hop 3 3 kI uM _ b N D hm h1 hn _ _ (.int .i64 k) hx hv (kOf wk) (.lit (.int .i64 v)) [] (pE wv) ?_
  intro w' h3 h4
  exact hK w' ⟨_, h3, IsMp.putD h1.isMap wk h2⟩ h4
/-- What takeRule answers. -/
def TkTo (P : List Sl) (b NM n : Nat) (w w' : World) (e : Ending) : Prop :=
  (FW 401 P n < 401 ∧ ∃ r, e = .returned (.tuple #[.map (some r), .bool true]) ∧ w.heap.size ≤ r ∧ IsMp w' b (NM + P.length) (mpT P n P.length) ∧ IsMp w' r P.length (rlT P n P.length) ∧ w.grownBy w' (some b)) ∨
  (¬ FW 401 P n < 401 ∧ e = .returned (.tuple #[.map none, .bool false]) ∧ Below w.heap.size w w')
set_option maxRecDepth 100000 in
set_option maxHeartbeats 4000000 in
theorem takeRule_any (P : List Sl) (b NM n : Nat) (w : World) (hm : IsMp w b NM (fun a => asM P a)) (hN : NM ≤ 900) (hG : GoodS P) (h1 : 1 ≤ n) (h4 : n ≤ 400) :
    Calls Try.prog 67 #[.map (some b), .int .i64 (n : Int)] w fun e w' => TkTo P b NM n w w' e := by
  have HM := Lib.hid hm; have HG := Lib.hid hG; clear hm hG
  have hn8 := HG.out.eight
  have hbl := HM.out.lt
  have HR := Lib.hid HG.out.risen
  have HKL := Lib.hid (lensK_len P)
  obtain ⟨w0, hw0⟩ : ∃ x : World, x = w.alloc (.cells #[.map (some b)] 76) := ⟨_, rfl⟩
  have HX0 : Hid (Boxed w0 w.heap.size 76 (.map (some b))) := Lib.hid (by rw [hw0]; exact Boxed.new _ _ _)
  have HB0 : Hid (Below w.heap.size w w0) := Lib.hid (by rw [hw0]; exact (Below.refl _ _).alloc (Nat.le_refl _) _)
  have HZ0 : Hid (w0.heap.size = w.heap.size + 1) := Lib.hid (by rw [hw0]; simp)
  have HW0 := Lib.hid hw0; clear hw0
  have HM0 := Lib.hid (HM.out.next HB0.out)
  have hx0 := HX0.out.cell
  by_cases hfw : FW 401 P n < 401
  rotate_left
  · have HN := Lib.hid hfw
    go_enter Try.func67, Try.ntmps67
    go_wp2_with fail
    rw [← HW0.out]
    go_wp2_with fail
    refine (keys_call _ _).mono ?_
    rintro e w1 ⟨rfl, hw1⟩
    have hal : Below w0.heap.size w0 w1 := by rw [hw1]; exact (Below.refl _ _).alloc (Nat.le_refl _) _
    have HC1 : Hid (w1.cell? ⟨w0.heap.size, 0, none⟩ = some (.map (some b))) := Lib.hid (by rw [hw1]; simp)
    have HL1 : Hid (w0.heap.size < w1.heap.size) := Lib.hid (by rw [hw1]; simp)
    have HM1 := Lib.hid (HM0.out.next hal)
    have HX1 : Hid (Boxed w1 w.heap.size 76 (.map (some b))) := Lib.hid ((hal.block _ HX0.out.lt).trans HX0.out)
    have HB1 := Lib.hid (HB0.out.trans (hal.mono HB0.out.size))
    clear hw1 hal hx0
    go_wp2_with fail
    refine (sorted_call w0.heap.size b NM (fun a => asM P a) (lensK P) _ HL1.out HC1.out HM1.out (by omega) (lensK_rise HR.out) (fun a => (asM_isSome HR.out).symm)).mono ?_
    rintro e w2 ⟨v, rfl, hb2, ho2⟩
    have HM2 := Lib.hid (HM1.out.next hb2)
    have HX2 : Hid (Boxed w2 w.heap.size 76 (.map (some b))) := Lib.hid ((hb2.block _ HX1.out.lt).trans HX1.out)
    have HB2 := Lib.hid (HB1.out.trans (hb2.mono HB1.out.size))
    obtain ⟨A2, c2, rfl⟩ := own_form ho2
    have HOB : Hid (∀ k, (Value.slice A2 (lensK P).length c2).ownBlock = some k → w1.heap.size ≤ k ∧ k < w2.heap.size) := Lib.hid (fun k hk => ⟨own_lt ho2 k hk, own_bound ho2 k hk⟩)
    have HW1 : Hid (w.heap.size < w1.heap.size) := Lib.hid HX1.out.lt
    have HI2 := Lib.hid (own_in ho2)
    rw [HKL.out]
    clear hb2 ho2
    have hx2 := HX2.out.cell
    go_wp2_with fail
    refine (fewest_any P b NM A2 c2 n _ HM2.out HI2.out HG.out h1 h4).mono ?_
    rintro e w3 ⟨G, cap, rfl, hcap, hb3, ho3⟩
    have HM3 := Lib.hid (HM2.out.next hb3)
    have HB23 := Lib.hid hb3
    have HX3 : Hid (Boxed w3 w.heap.size 76 (.map (some b))) := Lib.hid ((hb3.block _ HX2.out.lt).trans HX2.out)
    have HB3 := Lib.hid (HB2.out.trans (hb3.mono HB2.out.size))
    have HI3 := Lib.hid (HI2.out.below hb3 (Nat.le_refl _))
    have HT3 := Lib.hid ho3
    clear hb3 ho3 hx2
    obtain ⟨w4, hw4⟩ : ∃ x : World, x = w3.alloc (.cells #[.slice (some ⟨G, 0, none⟩) (P.length + 1) cap] 45) := ⟨_, rfl⟩
    have b4 : Below w3.heap.size w3 w4 := by rw [hw4]; exact (Below.refl _ _).alloc (Nat.le_refl _) _
    have HF4 : Hid (Boxed w4 w3.heap.size 45 (.slice (some ⟨G, 0, none⟩) (P.length + 1) cap)) := Lib.hid (by rw [hw4]; exact Boxed.new _ _ _)
    have HM4 := Lib.hid (HM3.out.next b4)
    have HX4 : Hid (Boxed w4 w.heap.size 76 (.map (some b))) := Lib.hid ((b4.block _ HX3.out.lt).trans HX3.out)
    have HB4 := Lib.hid (HB3.out.trans (b4.mono HB3.out.size))
    have HI4 := Lib.hid (HI3.out.below b4 (Nat.le_refl _))
    have HT4 := Lib.hid (HT3.out.next b4)
    have HW4 := Lib.hid hw4
    have HZ4 : Hid (w4.heap.size = w3.heap.size + 1) := Lib.hid (by rw [hw4]; simp)
    have HB34 := Lib.hid b4
    clear hw4 b4
    obtain ⟨g, c, k1, k2, k3, k4⟩ := HT3.out.2.2 P.length (by omega)
    have k5 := k4.cell (j := n) (by omega)
    have hGl := HT3.out.2.1
    have hgl := k4.lt
    obtain ⟨z, hz⟩ : ∃ z, z = fwI 401 P P.length n := ⟨_, rfl⟩
    rw [← hz] at k5
    have HFZ : Hid (z = (FW 401 P n : Int)) := Lib.hid (by rw [hz]; unfold fwI; rw [List.take_length])
    have hf4 := HF4.out.cell
    have i1 : (P.length : Int) < ((P.length + 1 : Nat) : Int) := by omega
    have i2 : (n : Int) < ((n + 1 : Nat) : Int) := by omega
    clear k4 hz
    have hge : (400 : Int) < z := by have := HFZ.out; have := HN.out; omega
    clear hfw
    go_wp2_with fail
    rw [← HW4.out]
    go_wp2
    go_ret2
    exact .inr ⟨HN.out, rfl, HB4.out⟩
  have HY := Lib.hid hfw; clear hfw
  refine (callsIn_wide (n := 6)).1 ?_
  refine callsIn_of_wp_marks Try.func67 rfl trivial ?_ rfl
  simp only [Try.ntmps67, List.size_toArray, List.length_cons, List.length_nil, Nat.reduceAdd, Nat.reduceSub, Array.replicate_succ, Array.replicate_zero, List.push_toArray, List.append_toArray, List.nil_append, List.cons_append]
  refine wpIn_wide.2 ?_
  go_wp2_with fail
  rw [← HW0.out]
  go_wp2_with fail
  refine (keys_call _ _).mono ?_
  rintro e w1 ⟨rfl, hw1⟩
  have hal : Below w0.heap.size w0 w1 := by rw [hw1]; exact (Below.refl _ _).alloc (Nat.le_refl _) _
  have HC1 : Hid (w1.cell? ⟨w0.heap.size, 0, none⟩ = some (.map (some b))) := Lib.hid (by rw [hw1]; simp)
  have HL1 : Hid (w0.heap.size < w1.heap.size) := Lib.hid (by rw [hw1]; simp)
  have HM1 := Lib.hid (HM0.out.next hal)
  have HX1 : Hid (Boxed w1 w.heap.size 76 (.map (some b))) := Lib.hid ((hal.block _ HX0.out.lt).trans HX0.out)
  have HB1 := Lib.hid (HB0.out.trans (hal.mono HB0.out.size))
  clear hw1 hal hx0
  go_wp2_with fail
  refine (sorted_call w0.heap.size b NM (fun a => asM P a) (lensK P) _ HL1.out HC1.out HM1.out (by omega) (lensK_rise HR.out) (fun a => (asM_isSome HR.out).symm)).mono ?_
  rintro e w2 ⟨v, rfl, hb2, ho2⟩
  have HM2 := Lib.hid (HM1.out.next hb2)
  have HX2 : Hid (Boxed w2 w.heap.size 76 (.map (some b))) := Lib.hid ((hb2.block _ HX1.out.lt).trans HX1.out)
  have HB2 := Lib.hid (HB1.out.trans (hb2.mono HB1.out.size))
  obtain ⟨A2, c2, rfl⟩ := own_form ho2
  have HOB : Hid (∀ k, (Value.slice A2 (lensK P).length c2).ownBlock = some k → w1.heap.size ≤ k ∧ k < w2.heap.size) := Lib.hid (fun k hk => ⟨own_lt ho2 k hk, own_bound ho2 k hk⟩)
  have HW1 : Hid (w.heap.size < w1.heap.size) := Lib.hid HX1.out.lt
  have HI2 := Lib.hid (own_in ho2)
  rw [HKL.out]
  clear hb2 ho2
  have hx2 := HX2.out.cell
  go_wp2_with fail
  refine (fewest_any P b NM A2 c2 n _ HM2.out HI2.out HG.out h1 h4).mono ?_
  rintro e w3 ⟨G, cap, rfl, hcap, hb3, ho3⟩
  have HM3 := Lib.hid (HM2.out.next hb3)
  have HB23 := Lib.hid hb3
  have HX3 : Hid (Boxed w3 w.heap.size 76 (.map (some b))) := Lib.hid ((hb3.block _ HX2.out.lt).trans HX2.out)
  have HB3 := Lib.hid (HB2.out.trans (hb3.mono HB2.out.size))
  have HI3 := Lib.hid (HI2.out.below hb3 (Nat.le_refl _))
  have HT3 := Lib.hid ho3
  clear hb3 ho3 hx2
  obtain ⟨w4, hw4⟩ : ∃ x : World, x = w3.alloc (.cells #[.slice (some ⟨G, 0, none⟩) (P.length + 1) cap] 45) := ⟨_, rfl⟩
  have b4 : Below w3.heap.size w3 w4 := by rw [hw4]; exact (Below.refl _ _).alloc (Nat.le_refl _) _
  have HF4 : Hid (Boxed w4 w3.heap.size 45 (.slice (some ⟨G, 0, none⟩) (P.length + 1) cap)) := Lib.hid (by rw [hw4]; exact Boxed.new _ _ _)
  have HM4 := Lib.hid (HM3.out.next b4)
  have HX4 : Hid (Boxed w4 w.heap.size 76 (.map (some b))) := Lib.hid ((b4.block _ HX3.out.lt).trans HX3.out)
  have HB4 := Lib.hid (HB3.out.trans (b4.mono HB3.out.size))
  have HI4 := Lib.hid (HI3.out.below b4 (Nat.le_refl _))
  have HT4 := Lib.hid (HT3.out.next b4)
  have HW4 := Lib.hid hw4
  have HZ4 : Hid (w4.heap.size = w3.heap.size + 1) := Lib.hid (by rw [hw4]; simp)
  have HB34 := Lib.hid b4
  clear hw4 b4
  obtain ⟨g, c, k1, k2, k3, k4⟩ := HT3.out.2.2 P.length (by omega)
  have k5 := k4.cell (j := n) (by omega)
  have hGl := HT3.out.2.1
  have hgl := k4.lt
  obtain ⟨z, hz⟩ : ∃ z, z = fwI 401 P P.length n := ⟨_, rfl⟩
  rw [← hz] at k5
  have HFZ : Hid (z = (FW 401 P n : Int)) := Lib.hid (by rw [hz]; unfold fwI; rw [List.take_length])
  have hf4 := HF4.out.cell
  have i1 : (P.length : Int) < ((P.length + 1 : Nat) : Int) := by omega
  have i2 : (n : Int) < ((n + 1 : Nat) : Int) := by omega
  clear k4 hz
  have hge : ¬ (400 : Int) < z := by have := HFZ.out; have := HY.out; omega
  have HD0 : Hid (tblD 401 P 0 n < 401) := Lib.hid (by unfold tblD; rw [Nat.sub_zero, List.take_length]; exact HY.out)
  -- the rule's map, its box, and the box of what is left
  obtain ⟨w5, hw5r⟩ : ∃ x : World, x = (((w3.alloc (.cells #[.slice (some ⟨G, 0, none⟩) (P.length + 1) cap] 45)).alloc (.map #[] 0)).alloc (.cells #[.map (some (w3.heap.size + 1))] 76)).alloc (.cells #[.int .i64 (n : Int)] 3) := ⟨_, rfl⟩
  have hw5 : w5 = ((w4.alloc (.map #[] 0)).alloc (.cells #[.map (some w4.heap.size)] 76)).alloc (.cells #[.int .i64 (n : Int)] 3) := by rw [hw5r, ← HW4.out, ← HZ4.out]
  have b5 : Below w4.heap.size w4 w5 := by rw [hw5]; exact (((Below.refl _ _).alloc (Nat.le_refl _) _).alloc (by simp) _).alloc (by simp; omega) _
  have HR5 : Hid (IsMp w5 w4.heap.size 0 (fun _ => none)) := Lib.hid (by
    rw [hw5]
    exact ((IsMp.made w4).next ((Below.refl _ _).alloc (Nat.le_refl _) _)).next ((Below.refl _ _).alloc (Nat.le_refl _) _))
  have HQ5 : Hid (Boxed w5 (w4.heap.size + 1) 76 (.map (some w4.heap.size))) := Lib.hid (by
    rw [hw5]
    have h := Boxed.new (w4.alloc (.map #[] 0)) 76 (.map (some w4.heap.size))
    rw [World.size_alloc] at h; exact h.alloc _)
  have HL5 : Hid (Boxed w5 (w4.heap.size + 1 + 1) 3 (.int .i64 (n : Int))) := Lib.hid (by
    rw [hw5]
    have h := Boxed.new ((w4.alloc (.map #[] 0)).alloc (.cells #[.map (some w4.heap.size)] 76)) 3 (.int .i64 (n : Int))
    rw [World.size_alloc, World.size_alloc] at h; exact h)
  have HZ5 : Hid (w5.heap.size = w4.heap.size + 3) := Lib.hid (by rw [hw5]; simp)
  have HM5 := Lib.hid (HM4.out.next b5)
  have HX5 : Hid (Boxed w5 w.heap.size 76 (.map (some b))) := Lib.hid ((b5.block _ HX4.out.lt).trans HX4.out)
  have HF5 : Hid (Boxed w5 w3.heap.size 45 (.slice (some ⟨G, 0, none⟩) (P.length + 1) cap)) := Lib.hid ((b5.block _ HF4.out.lt).trans HF4.out)
  have HB5 := Lib.hid (HB4.out.trans (b5.mono HB4.out.size))
  have HI5 := Lib.hid (HI4.out.below b5 (Nat.le_refl _))
  have HT5 := Lib.hid (HT4.out.next b5)
  have HW5 := Lib.hid hw5r
  have HB45 := Lib.hid b5
  clear hw5 hw5r b5
  have hmm : ∀ w : World, (Instr.makeMap 76 none).run Try.prog w = .ok (.map (some w.heap.size)) (w.alloc (.map #[] 0)) := fun w => rfl
  have hPl : 0 < P.length := by
    rcases Nat.eq_zero_or_pos P.length with h | h
    · have e := List.eq_nil_of_length_eq_zero h
      have := HY.out
      rw [e, FW_nil, if_neg (by omega)] at this; omega
    · exact h
  obtain ⟨kb, koff, rfl, hkb, hkc⟩ := HI5.out (by rw [HKL.out]; exact hPl)
  have HKC := Lib.hid hkc; clear hkc
  have HKB : Hid (w.heap.size < kb ∧ kb < w3.heap.size) := Lib.hid (by
    have h1 := HOB.out kb rfl; have h2 := HW1.out; have h3 := HX3.out; have h4 := HB23.out.size
    omega)
  go_wp2_with fail
  rw [← HW5.out, ← HZ4.out]
  refine (backward_any _ P.length c2 w5).mono ?_
  rintro e w6 ⟨rfl, hw6⟩
  have b6 : Below w5.heap.size w5 w6 := by rw [hw6]; exact (Below.refl _ _).alloc (Nat.le_refl _) _
  have HBK : Hid (Boxed w6 w5.heap.size 31 (.slice (some ⟨kb, koff, none⟩) P.length c2)) := Lib.hid (by rw [hw6]; exact Boxed.new _ _ _)
  have HZ6 : Hid (w6.heap.size = w5.heap.size + 1) := Lib.hid (by rw [hw6]; simp)
  have HM6 := Lib.hid (HM5.out.next b6)
  have HR6 := Lib.hid (HR5.out.next b6)
  have HX6 : Hid (Boxed w6 w.heap.size 76 (.map (some b))) := Lib.hid ((b6.block _ HX5.out.lt).trans HX5.out)
  have HF6 : Hid (Boxed w6 w3.heap.size 45 (.slice (some ⟨G, 0, none⟩) (P.length + 1) cap)) := Lib.hid ((b6.block _ HF5.out.lt).trans HF5.out)
  have HQ6 : Hid (Boxed w6 (w4.heap.size + 1) 76 (.map (some w4.heap.size))) := Lib.hid ((b6.block _ HQ5.out.lt).trans HQ5.out)
  have HL6 : Hid (Boxed w6 (w4.heap.size + 1 + 1) 3 (.int .i64 (n : Int))) := Lib.hid ((b6.block _ HL5.out.lt).trans HL5.out)
  have HB6 := Lib.hid (HB5.out.trans (b6.mono HB5.out.size))
  have HT6 := Lib.hid (HT5.out.next b6)
  have HKC6 : Hid (∀ k (h : k < (lensK P).length), w6.cell? ⟨kb, koff + k, none⟩ = some (.int .i64 (lensK P)[k])) := Lib.hid (fun k h => (b6.cell (p := ⟨kb, koff + k, none⟩) hkb).trans (HKC.out k h))
  have HB36 : Hid (Below w3.heap.size w3 w6) := Lib.hid ((HB34.out.trans (HB45.out.mono HB34.out.size)).trans (b6.mono (HB34.out.trans (HB45.out.mono HB34.out.size)).size))
  clear hw6 b6 hmm
  go_wp2
  refine (wpIn_wide (n := 6)).1 ?_
  have HZS : Hid (w6.heap.size = w5.heap.size + 1 ∧ w5.heap.size = w4.heap.size + 3 ∧ w4.heap.size = w3.heap.size + 1 ∧ w.heap.size ≤ w3.heap.size ∧ b < w.heap.size ∧ w2.heap.size ≤ G ∧ G < w3.heap.size ∧ kb < w5.heap.size ∧ w.heap.size < w2.heap.size) := Lib.hid ⟨HZ6.out, HZ5.out, HZ4.out, HB3.out.size, hbl, HT3.out.1, HT3.out.2.1, hkb, HX2.out.lt⟩
  refine wpIn_back (n := 6) (by omega) w5.heap.size kb koff (lensK P) c2 rfl (by rw [HKL.out]; exact HBK.out) (by have := HZS.out; omega) HKC6.out (by rw [HKL.out]; omega) rfl
    (fun d W => (IsMp W b (NM + d) (mpT P n d) ∧ IsMp W w4.heap.size d (rlT P n d)) ∧ (Boxed W (w4.heap.size + 1 + 1) 3 (.int .i64 (remD 401 P n d : Int)) ∧ K3 b w4.heap.size (w4.heap.size + 1 + 1) w6 W))
    (OwnFrom.and (OwnFrom.and (isMp_own (by have := HZS.out; omega) (fun d => NM + d) (mpT P n)) (isMp_own (by have := HZS.out; omega) (fun d => d) (rlT P n))) (OwnFrom.and (_root_.Go.Own.from (boxed_own _ _ (fun d => .int .i64 (remD 401 P n d : Int))) _) (k3_own (Nat.le_refl _))))
    ⟨⟨HM6.out, HR6.out⟩, HL6.out, K3.refl _ _ _ _⟩ ?act ?assign ?body ?done
  case assign =>
    intro l x W K hK
    gi_wp2
    exact hK
  case body =>
    rintro lp d hd W hBk ⟨⟨hM, hR⟩, hL, hK⟩
    clear hkb hf4 i1 i2 hge k1 k2 k3 k5 hGl hgl hcap
    have hdP : d < P.length := by have := HKL.out; omega
    obtain ⟨j, hj⟩ : ∃ j, j = P.length - 1 - d := ⟨_, rfl⟩
    have hjl : j < P.length := by omega
    have HSJ := Lib.hid (slipD_at hdP hj)
    have hbd := HG.out.bd hjl
    obtain ⟨L, hL2⟩ : ∃ L : Nat, P[j].len = (L : Int) := ⟨P[j].len.toNat, by omega⟩
    obtain ⟨C, hC⟩ : ∃ C : Nat, P[j].cnt = (C : Int) := ⟨P[j].cnt.toNat, by omega⟩
    have hxe : (bwX hd).i = j := by
      have h := HKL.out
      show (lensK P).length - 1 - d = j
      omega
    have hxi : ((bwX hd).i : Int) = (j : Int) := by rw [hxe]
    have hxw : (lensK P)[(bwX hd).i]'(bwX hd).lt = (L : Int) := by
      have h : ∀ i (hi : i < (lensK P).length), i = j → (lensK P)[i] = (L : Int) := by
        intro i hi e
        subst e
        rw [← hL2]; simp [lensK]
      exact h _ _ hxe
    clear hxe
    have hlS : (slipD P d).len = (L : Int) := by rw [HSJ.out, hL2]
    have hcS : (slipD P d).cnt = (C : Int) := by rw [HSJ.out, hC]
    have HRM := Lib.hid (remD_ok HG.out HD0.out d (by omega))
    have HCD := Lib.hid (cD_ok HG.out hdP HRM.out)
    have HTL := Lib.hid (fun c h => top_le (m := remD 401 P n d) (c := c) HG.out hdP h)
    have HLE := Lib.hid (fun q h => ask_le (Z := 401) (m := remD 401 P n d) (q := q) HG.out hdP h)
    have HTA := Lib.hid (fun m => tblD_at 401 hdP hj m)
    have hR4 := remD_le 401 P n d
    have hMat := mpT_at HG.out (n := n) hdP
    have hlN : lnN (slipD P d) = L := by unfold lnN; omega
    have hcN : ctN (slipD P d) = C := by unfold ctN; omega
    have HRS : Hid (remD 401 P n (d + 1) = remD 401 P n d - tkC P n d * lnN (slipD P d)) := Lib.hid rfl
    have HMS : Hid (mpT P n (d + 1) = takM (mpT P n d) (L : Int) (tkC P n d : Int)) := Lib.hid (by rw [← hlS]; rfl)
    have HLS : Hid (rlT P n (d + 1) = upM (rlT P n d) (L : Int) (tkC P n d : Int)) := Lib.hid (by rw [← hlS]; rfl)
    obtain ⟨R, hRd⟩ : ∃ R, R = remD 401 P n d := ⟨_, rfl⟩
    obtain ⟨K, hKd⟩ : ∃ K, K = tkC P n d := ⟨_, rfl⟩
    obtain ⟨Q, hQ⟩ : ∃ Q, Q = R / L := ⟨_, rfl⟩
    rw [hL2] at hbd; rw [hC] at hbd
    have hQd : (R : Int).tdiv (L : Int) = (Q : Int) := by rw [hQ]; exact (Int.ofNat_tdiv R L).symm
    have hQ4 : Q ≤ 400 := by have := Nat.div_le_self R L; omega
    have HTP : Hid (topD P R d = min C Q) := Lib.hid (by unfold topD; rw [hlN, hcN, hQ])
    have HKD : Hid (K = dwn (askD 401 P R d) (topD P R d)) := Lib.hid (by rw [hKd, hRd]; rfl)
    have HKP : Hid (askD 401 P R d K = true ∧ K ≤ topD P R d) := Lib.hid (by rw [hKd, hRd]; exact HCD.out)
    rw [hlN] at HTL HRS HLE
    rw [hcN] at HTL
    rw [← hRd] at HTL HRS HLE hR4 hL
    rw [← hKd] at HRS HMS HLS
    rw [hlS, hcS] at hMat
    have hwL : WF (L : Int) := wf_of (by omega) (by omega)
    have hlk := hM.look hwL
    rw [hMat] at hlk
    have HASK : Hid (∀ q p, p = q * L → askD 401 P R d q = (FW 401 (P.take j) (R - p) + q == FW 401 (P.take (j + 1)) R)) := Lib.hid (fun q p hp => by
      unfold askD
      rw [hlN, (HTA.out _).2, (HTA.out _).1, hp])
    have HLEQ : Hid (∀ q p, p = q * L → q ≤ topD P R d → FW 401 (P.take (j + 1)) R ≤ FW 401 (P.take j) (R - p) + q) := Lib.hid (fun q p hp hq => by
      have h := HLE.out q hq
      rw [(HTA.out _).2, (HTA.out _).1, ← hp] at h; exact h)
    clear HRM HCD HTA HLE hlN hcN hlS hcS hRd hKd hQ hL2 hC HSJ hj
    have hL0 : ¬ (L : Int) = 0 := by omega
    have HHM := Lib.hid hM; have HHR := Lib.hid hR; have HHL := Lib.hid hL; have HHK := Lib.hid hK
    obtain ⟨q1, q2, q3, q4, q5, q6, q7, q8, q9⟩ := HZS.out
    have y0 := (hK.cell (q := w.heap.size) (i := 0) (by omega) (by omega) (by omega) (by omega)).trans (Boxed.cell HX6.out)
    have hKs := hK.size
    have x0 := KeptW.cell y0 (show w.heap.size < W.heap.size by omega)
    have x1 := KeptW.cell hL.cell hL.lt
    have x2 : ∀ u : KeptW W.heap.size W, (Instr.lookup 76 (.map (some b)) (.int .i64 (L : Int)) false).run Try.prog u.at_ = .ok (.int .i64 (C : Int)) u.at_ := fun u => by
      have h := (HHM.out.next u.below).look hwL
      rw [hMat] at h; exact h
    have hmq : min (C : Int) (Q : Int) = ((min C Q : Nat) : Int) := by omega
    clear hM hR hL hK y0 hlk q1 q2 q3 q4 q5 q6 q7 q8 q9
    gi_wp2_with fail
    rw [hxw, hxi]
    refine region_keptR W.heap.size (by kernel_rfl) (by kernel_rfl) (by kernel_rfl) ?_
    repeat (gi_big_quiet_step (fail))
    refine wpQuietIn_nil ?_
    intro w7 hb7
    have HM7 := Lib.hid (HHM.out.next hb7); have HR7 := Lib.hid (HHR.out.next hb7)
    have HL7 : Hid (Boxed w7 (w4.heap.size + 1 + 1) 3 (.int .i64 (R : Int))) := Lib.hid ((hb7.block _ HHL.out.lt).trans HHL.out)
    have HK7 := Lib.hid (HHK.out.grown (grown_none hb7) (fun k e => by cases e))
    have HB7 := Lib.hid hb7
    have hW6 := HHK.out.size
    clear hb7 x0 x1 x2 HHM HHR HHL HHK
    have hgl7 : w.heap.size + 1 < W.heap.size := by have := HZS.out; omega
    gi_wp2_with fail
    gi_loopw [12] (fun kv wr => ∃ q : Nat, q ≤ topD P R d ∧ dwn (askD 401 P R d) q = K ∧ kv = .int .i64 (q : Int) ∧ IsMp wr b (NM + d) (mpT P n d) ∧ IsMp wr w4.heap.size d (rlT P n d) ∧ Boxed wr (w4.heap.size + 1 + 1) 3 (.int .i64 (R : Int)) ∧ K3 b w4.heap.size (w4.heap.size + 1 + 1) w6 wr ∧ Below W.heap.size W wr) (fun kv _ => (RowKit.intOf kv).toNat)
    case atStart => exact ⟨min C Q, by rw [HTP.out]; exact Nat.le_refl _, by rw [HKD.out, HTP.out], rfl, HM7.out, HR7.out, HL7.out, HK7.out, HB7.out⟩
    case round =>
      obtain ⟨q, hq, hdw, rfl, hM, hR, hL, hK, hB⟩ := hrel
      obtain ⟨t1, t2⟩ := HTL.out q hq
      obtain ⟨p, hp⟩ : ∃ p, p = q * L := ⟨_, rfl⟩
      have hpp : (q : Int) * (L : Int) = (p : Int) := by rw [hp, Int.natCast_mul]
      rw [← hp] at t2
      have hask := HASK.out q p hp
      have hleq := HLEQ.out q p hp hq
      obtain ⟨m, hm⟩ : ∃ m, m = R - p := ⟨_, rfl⟩
      have hmm : (R : Int) - (p : Int) = (m : Int) := by omega
      rw [← hm] at hask hleq
      have HDW := Lib.hid hdw
      obtain ⟨q1, q2, q3, q4, q5, q6, q7, q8, q9⟩ := HZS.out
      have hO := HT3.out
      obtain ⟨g1, c1, a1, a2, a3, a4⟩ := hO.2.2 j (by omega)
      obtain ⟨g2, c2', b1, b2, b3, b4⟩ := hO.2.2 (j + 1) (by omega)
      have ga := a4.lt; have gb := b4.lt
      have a5 := (HB36.out.cell (p := ⟨g1, m, none⟩) ga).trans (a4.cell (j := m) (by omega))
      have b5 := (HB36.out.cell (p := ⟨g2, R, none⟩) gb).trans (b4.cell (j := R) (by omega))
      replace a1 := (HB36.out.cell (p := ⟨G, j, none⟩) hO.2.1).trans a1
      replace b1 := (HB36.out.cell (p := ⟨G, j + 1, none⟩) hO.2.1).trans b1
      obtain ⟨y1, hy1⟩ : ∃ y : Int, y = fwI 401 P j m := ⟨_, rfl⟩
      obtain ⟨y2, hy2⟩ : ∃ y : Int, y = fwI 401 P (j + 1) R := ⟨_, rfl⟩
      have hle1 := FW_le 401 (P.take j) m
      have hY1 : y1 = (FW 401 (P.take j) m : Int) := hy1
      have hY2 : y2 = (FW 401 (P.take (j + 1)) R : Int) := hy2
      have HAK : Hid (askD 401 P R d q = !decide (y2 < (q : Int) + y1)) := Lib.hid (by
        rw [hask, hY1, hY2]
        by_cases e : FW 401 (P.take j) m + q = FW 401 (P.take (j + 1)) R
        · rw [beq_iff_eq.2 e, decide_eq_false (by omega)]; rfl
        · rw [beq_eq_false_iff_ne.2 e, decide_eq_true (by omega)]; rfl)
      have hy1b : 0 ≤ y1 ∧ y1 ≤ 401 := by omega
      rw [← hy1] at a5; rw [← hy2] at b5
      clear hy1 hy2 hY1 hY2 hle1 hask hleq hdw
      have z0 := (hK.cell (q := w3.heap.size) (i := 0) (by omega) (by omega) (by omega) (by omega)).trans (Boxed.cell HF6.out)
      have z1 := (hK.cell (q := G) (i := j) (by omega) (by omega) (by omega) (by omega)).trans a1
      have z2 := (hK.cell (q := G) (i := j + 1) (by omega) (by omega) (by omega) (by omega)).trans b1
      have z3 := (hK.cell (q := g1) (i := m) (by omega) (by omega) (by omega) (by omega)).trans a5
      have z4 := (hK.cell (q := g2) (i := R) (by omega) (by omega) (by omega) (by omega)).trans b5
      have hKs := hK.size
      have x0 := KeptW.cell z0 (show w3.heap.size < wr.heap.size by omega)
      have x1 := KeptW.cell z1 (show G < wr.heap.size by omega)
      have x2 := KeptW.cell z2 (show G < wr.heap.size by omega)
      have x3 := KeptW.cell z3 (show g1 < wr.heap.size by omega)
      have x4 := KeptW.cell z4 (show g2 < wr.heap.size by omega)
      have x5 := KeptW.cell hL.cell hL.lt
      have i1 : (j : Int) < ((P.length + 1 : Nat) : Int) := by omega
      have i2 : (j : Int) + 1 < ((P.length + 1 : Nat) : Int) := by omega
      have i3 : (m : Int) < ((n + 1 : Nat) : Int) := by omega
      have i4 : (R : Int) < ((n + 1 : Nat) : Int) := by omega
      have i5 : (0 : Int) ≤ (m : Int) := by omega
      have i6 : (0 : Int) ≤ (R : Int) := by omega
      have hpb : (p : Int) ≤ 400 := by omega
      have hMd := Lib.hid hm; have HP := Lib.hid hp
      have HMr := Lib.hid hM; have HRr := Lib.hid hR; have HLr := Lib.hid hL; have HKr := Lib.hid hK; have HBr := Lib.hid hB
      clear hM hR hL hK hB hm hp a1 a2 a3 a4 a5 b1 b2 b3 b4 b5 z0 z1 z2 z3 z4 hO q1 q2 q3 q4 q5 q6 q7 q8 q9 ga gb
      cases hbb : askD 401 P R d q
      · have hgt : decide (y2 < (q : Int) + y1) = true := by have := HAK.out; rw [hbb] at this; simpa using this.symm
        have hq1 : 1 ≤ q := by
          rcases Nat.eq_zero_or_pos q with rfl | h
          · have h2 : dwn (askD 401 P R d) 0 = K := HDW.out
            have h3 := HKP.out.1
            rw [← h2] at h3
            have h4 : askD 401 P R d 0 = true := h3
            rw [hbb] at h4; cases h4
          · exact h
        obtain ⟨q', hq'⟩ : ∃ q', q = q' + 1 := ⟨q - 1, by omega⟩
        have HDN : Hid (dwn (askD 401 P R d) q' = K) := Lib.hid (by
          have h := HDW.out
          rw [hq'] at h hbb
          rw [dwn_miss hbb] at h; exact h)
        have hqq : (q : Int) - 1 = (q' : Int) := by omega
        have HQ' := Lib.hid hq'
        clear hbb HAK HDW hq' hq1
        gi_wp2_with fail
        refine region_keptR wr.heap.size (by kernel_rfl) (by kernel_rfl) (by kernel_rfl) ?_
        repeat (gi_big_quiet_step (fail))
        refine wpQuietIn_nil ?_
        intro w8 hb8
        have HM8 := Lib.hid (HMr.out.next hb8); have HR8 := Lib.hid (HRr.out.next hb8)
        have HL8 : Hid (Boxed w8 (w4.heap.size + 1 + 1) 3 (.int .i64 (R : Int))) := Lib.hid ((hb8.block _ HLr.out.lt).trans HLr.out)
        have HK8 := Lib.hid (HKr.out.grown (grown_none hb8) (fun k e => by cases e))
        have HB8 := Lib.hid (HBr.out.trans (hb8.mono HBr.out.size))
        clear x0 x1 x2 x3 x4 x5 hb8 HMr HRr HLr HKr HBr
        gi_wp2
        go_roundw
        case rel => exact ⟨q', by have := HQ'.out; omega, HDN.out, by first | rfl | rw [hqq], HM8.out, HR8.out, HL8.out, HK8.out, HB8.out⟩
        case measure => have := HQ'.out; simp [RowKit.intOf]; omega
      · have hgt : decide (y2 < (q : Int) + y1) = false := by have := HAK.out; rw [hbb] at this; simpa using this.symm
        have HKQ : Hid (K = q) := Lib.hid (by have h := HDW.out; rw [dwn_hit hbb] at h; exact h.symm)
        clear hbb HAK HDW
        gi_wp2_with fail
        refine region_keptR wr.heap.size (by kernel_rfl) (by kernel_rfl) (by kernel_rfl) ?_
        repeat (gi_big_quiet_step (fail))
        refine wpQuietIn_nil ?_
        intro w8 hb8
        have hM8 := HMr.out.next hb8; have hR8 := HRr.out.next hb8
        have hL8 : Boxed w8 (w4.heap.size + 1 + 1) 3 (.int .i64 (R : Int)) := (hb8.block _ HLr.out.lt).trans HLr.out
        have hK8 := HKr.out.grown (grown_none hb8) (fun k e => by cases e)
        have hB8 := HBr.out.trans (hb8.mono HBr.out.size)
        obtain ⟨q1, q2, q3, q4, q5, q6, q7, q8, q9⟩ := HZS.out
        have z0 := (hK8.cell (q := w.heap.size) (i := 0) (by omega) (by omega) (by omega) (by omega)).trans (Boxed.cell HX6.out)
        have HM8 := Lib.hid hM8; have HR8 := Lib.hid hR8; have HL8 := Lib.hid hL8; have HK8 := Lib.hid hK8; have HB8 := Lib.hid hB8
        clear x0 x1 x2 x3 x4 x5 hM8 hR8 hL8 hK8 hB8 hb8 HMr HRr HLr HKr HBr q1 q2 q3 q4 q5 q6 q7 q8 q9
        have hq20 : (q : Int) ≤ 20 := by omega
        gi_wp2_with fail
        refine ⟨trivial, CallsIn.inRound lp (callsIn_wide.2 ((take_any b (NM + d) (mpT P n d) (L : Int) (q : Int) w8 HM8.out (by omega) hwL (by rw [hMat]; omega) (by omega)).mono ?_))⟩
        rintro e w9 ⟨rfl, hm9, hg9⟩
        obtain ⟨q1, q2, q3, q4, q5, q6, q7, q8, q9⟩ := HZS.out
        have hR9 := HR8.out.kept hg9 (by intro e; have := Option.some.inj e; omega)
        have hL9 := HL8.out.kept hg9 (by intro e; have := Option.some.inj e; omega)
        have hK9 := HK8.out.grown hg9 (fun k e => .inl (Option.some.inj e).symm)
        have z1 := (hK9.cell (q := w4.heap.size + 1) (i := 0) (by omega) (by omega) (by omega) (by omega)).trans (Boxed.cell HQ6.out)
        have HM9 := Lib.hid hm9; have HR9 := Lib.hid hR9; have HL9 := Lib.hid hL9; have HK9 := Lib.hid hK9; have HG9 := Lib.hid hg9
        clear hm9 hR9 hL9 hK9 hg9 q1 q2 q3 q4 q5 q6 q7 q8 q9 z0
        gi_wp2_with (gi_at_mapUpdate; refine wpListIn_put _ rfl _ _ _ rfl w4.heap.size d (rlT P n d) rfl HR9.out (by unfold maxLen; omega) (L : Int) (q : Int) rfl rfl hwL (wf_of (by omega) (by omega)) ?_)
        intro w10 hm10 hg10
        obtain ⟨q1, q2, q3, q4, q5, q6, q7, q8, q9⟩ := HZS.out
        have hM10 := HM9.out.kept hg10 (by intro e; have := Option.some.inj e; omega)
        have hL10 := HL9.out.kept hg10 (by intro e; have := Option.some.inj e; omega)
        have hK10 := HK9.out.grown hg10 (fun k e => .inr (.inl (Option.some.inj e).symm))
        have z2 := hL10.cell
        have z3 := hL10.frozen
        have z4 := hL10.lt
        have gs : w10.grownBy (w10.setCell ⟨w4.heap.size + 1 + 1, 0, none⟩ (.int .i64 (m : Int))) (some (w4.heap.size + 1 + 1)) := ⟨rfl, rfl, rfl, (KeepsWalks.setCell w10 _ _).size, fun k _ hk => Below.heap_setCell _ _ _ k (fun e => hk (by rw [e]))⟩
        have HM11 := Lib.hid (hM10.kept gs (by intro e; have := Option.some.inj e; omega))
        have HR11 := Lib.hid (IsMp.kept hm10 gs (by intro e; have := Option.some.inj e; omega))
        have HL11 := Lib.hid (hL10.set (.int .i64 (m : Int)))
        have HK11 := Lib.hid (hK10.grown gs (fun k e => .inr (.inr (.inl (Option.some.inj e).symm))))
        have HBK11 : Hid (Books w6.heap.size W (w10.setCell ⟨w4.heap.size + 1 + 1, 0, none⟩ (.int .i64 (m : Int)))) := Lib.hid (by
          have e1 := Books.grown (B := w6.heap.size) (grown_none HB8.out) hBk (fun r e => by cases e)
          have e2 := Books.grown (B := w6.heap.size) HG9.out (by have := e1.1; omega) (fun r e => by cases e; omega)
          have e3 := Books.grown (B := w6.heap.size) hg10 (by have := e1.1; have := e2.1; omega) (fun r e => by cases e; omega)
          have e4 := Books.grown (B := w6.heap.size) gs (by have := e1.1; have := e2.1; have := e3.1; omega) (fun r e => by cases e; omega)
          exact ((e1.t e2).t e3).t e4)
        have HKP11 : Hid (KpL (fun q => q = w5.heap.size ∨ q = kb) W (w10.setCell ⟨w4.heap.size + 1 + 1, 0, none⟩ (.int .i64 (m : Int)))) := Lib.hid (fun i hi => by
          have hk2 := HKB.out
          have s8 := HB8.out.size; have s9 := HG9.out.size; have s10 := hg10.size
          have hi6 : i < w6.heap.size ∧ i ≠ b ∧ i ≠ w4.heap.size ∧ i ≠ w4.heap.size + 1 + 1 := by rcases hi with rfl | rfl <;> omega
          have f1 := HB8.out.block i (by omega)
          have f2 := HG9.out.block i (by omega) (fun e => hi6.2.1 (Option.some.inj e))
          have f3 := hg10.block i (by omega) (fun e => hi6.2.2.1 (Option.some.inj e))
          have f4 := gs.block i (by omega) (fun e => hi6.2.2.2 (Option.some.inj e))
          rw [f4, f3, f2, f1])
        have HR10 := Lib.hid hm10
        clear hM10 hL10 hK10 hm10 hg10 gs q1 q2 q3 q4 q5 q6 q7 q8 q9 z1
        have HI1 : Hid (mpT P n (d + 1) = takM (mpT P n d) (L : Int) (q : Int)) := Lib.hid (by rw [HMS.out, HKQ.out])
        have HI2 : Hid (rlT P n (d + 1) = upM (rlT P n d) (L : Int) (q : Int)) := Lib.hid (by rw [HLS.out, HKQ.out])
        have HI3 : Hid (remD 401 P n (d + 1) = m) := Lib.hid (by rw [HRS.out, HKQ.out, ← HP.out, hMd.out])
        gi_wp2
        exact ⟨HBK11.out, HKP11.out, ⟨by rw [HI1.out]; exact HM11.out, by rw [HI2.out]; exact HR11.out⟩, by rw [HI3.out]; exact HL11.out, HK11.out⟩
  case done =>
    rintro D W hD ⟨⟨hM, hR⟩, hL, hK⟩ hKD
    have e := HKL.out
    rw [e] at hM hR hL
    obtain ⟨q1, q2, q3, q4, q5, q6, q7, q8, q9⟩ := HZS.out
    have z0 := (hK.cell (q := w4.heap.size + 1) (i := 0) (by omega) (by omega) (by omega) (by omega)).trans (Boxed.cell HQ6.out)
    have HGW : Hid (∀ o', w.grownBy (W.putObj D o') (some b)) := Lib.hid (fun o' =>
      ⟨hK.os.trans HB6.out.os, hK.tape.trans HB6.out.tape, hK.output.trans HB6.out.output, by have h1 := HB6.out.size; have h2 := hK.size; have h3 := (grownBy_putObj' W D o').size; omega, fun k hk hne => by
        have h1 := HB6.out.size
        rw [World.putObj_heap_other (by omega)]
        exact (hK.block k (by omega) (fun e2 => hne (by rw [e2])) (by omega) (by omega)).trans (HB6.out.block k hk)⟩)
    have HM9 : Hid (∀ o', IsMp (W.putObj D o') b (NM + P.length) (mpT P n P.length)) := Lib.hid (fun o' => hM.kept (grownBy_putObj' W D o') (by intro e2; have := Option.some.inj e2; have := HB6.out.size; omega))
    have HR9 : Hid (∀ o', IsMp (W.putObj D o') w4.heap.size P.length (rlT P n P.length)) := Lib.hid (fun o' => hR.kept (grownBy_putObj' W D o') (by intro e2; have := Option.some.inj e2; omega))
    have HKD := Lib.hid hKD
    have HRL : Hid (w.heap.size ≤ w4.heap.size) := Lib.hid (by omega)
    clear hM hR hL hK e hKD q1 q2 q3 q4 q5 q6 q7 q8 q9 hf4 i1 i2 hge k1 k5 hD
    go_wp2
    refine ⟨by simp, .inl ⟨_, _, rfl, run_takeDeferred HKD.out, ?_⟩⟩
    exact ⟨.tuple #[.map (some w4.heap.size), .bool true], by simp [results, Try.f67, go_sem], .inl ⟨HY.out, w4.heap.size, rfl, HRL.out, HM9.out _, HR9.out _, HGW.out _⟩⟩
end Go.Proofs.Ytljakcfdjcjdbaa
