import Derived.Test.YtnbnegkoanidmaaGreatDoorCur
import Derived.Test.YtnbnegkoanidmaaGreatDoorMsh
import Derived.Test.YtnbnegkoanidmaaGreatDoorHeld
/-
  The draw of a font: spec.l1Cur.font. (For FnFonts.)
-/
namespace Go.Proofs.YtnbnegkoanidmaaGreatDoor.S1
open Go.RowKit
set_option linter.unusedVariables false

theorem cell_keep {w w' : World} {b' i : Nat} {row : Option Nat} (hg : w.grownBy w' row) (h : b' < w.heap.size) (hne : row ≠ some b') : w'.cell? ⟨b', i, none⟩ = w.cell? ⟨b', i, none⟩ := by
  have := hg.block b' h (fun e => hne e.symm)
  unfold World.cell?
  rw [this]
theorem grownBy_own {w wr w4 : World} {b : Nat} {row : Option Nat} (h : w.grownBy wr (some b)) (hg : wr.grownBy w4 row) (hrow : ∀ k, row = some k → w.heap.size ≤ k) : w.grownBy w4 (some b) :=
  ⟨hg.os.trans h.os, hg.tape.trans h.tape, hg.output.trans h.output, Nat.le_trans h.size hg.size, fun i hi hne => (hg.block i (Nat.lt_of_lt_of_le hi h.size) (fun e => by have := hrow i e.symm; omega)).trans (h.block i hi hne)⟩
theorem CurLe.own {w w' : World} {b c M : Nat} {A : Option Addr} {xs : List UInt8} {row : Option Nat} (h : CurLe w b A c M xs) (hg : w.grownBy w' row) (hrow : ∀ k, row = some k → b < k) : CurLe w' b A c M xs := by
  have hl := h.lt
  obtain ⟨⟨a, h0, sd, h1, h1'⟩, h2⟩ := h
  refine ⟨⟨a, h0, sd, h1, (hg.block b hl (fun e => by have := hrow b e.symm; omega)).trans h1'⟩, fun hn => ?_⟩
  obtain ⟨b', off, e, hlt, hc⟩ := h2 hn
  exact ⟨b', off, e, hlt, fun k hk => (cell_keep hg (by omega) (fun e => by have := hrow b' e; omega)).trans (hc k hk)⟩
theorem StrsIn.keep {w w' : World} {g : Nat} {l : List ByteArray} {row : Option Nat} (h : StrsIn w (some ⟨g, 0, none⟩) l) (hg : w.grownBy w' row) (hne : row ≠ some g) : StrsIn w' (some ⟨g, 0, none⟩) l := fun hn => by
  obtain ⟨b', off, e, hl, hc⟩ := h hn
  obtain ⟨rfl, rfl⟩ : g = b' ∧ 0 = off := by simpa using e
  exact ⟨g, 0, rfl, Nat.lt_of_lt_of_le hl hg.size, fun k hk => (cell_keep hg hl hne).trans (hc k hk)⟩
theorem two_new (w : World) (x y : Value) (t : TypeId) : ∀ j u, ([x, y] : List Value)[j]? = some u → (w.alloc (.cells #[x, y] t)).cell? ((⟨w.heap.size, 0, none⟩ : Addr).add j) = some u := by
  intro j u hu
  have e : (⟨w.heap.size, 0, none⟩ : Addr).add j = ⟨w.heap.size, 0 + j, none⟩ := by
    unfold Addr.add
    by_cases hk : j = 0 <;> simp [hk]
  rw [e, cell_of_heap (heap_new _ _), Nat.zero_add, ← hu]
  simp
def fontTexts : List ByteArray := [⟨#[97]⟩, ⟨#[97, 98]⟩, ⟨#[97, 98, 99]⟩, ⟨#[98]⟩, ⟨#[98, 98]⟩, ⟨#[99]⟩, ⟨#[100]⟩, ⟨#[101]⟩, ⟨#[102]⟩, ⟨#[102, 102]⟩, ⟨#[102, 105]⟩, ⟨#[105]⟩]
theorem fontTexts_size : ∀ s ∈ fontTexts, 1 ≤ s.size ∧ s.size ≤ 3 := by
  intro s hs
  simp only [fontTexts, List.mem_cons, List.not_mem_nil, or_false] at hs
  rcases hs with rfl | rfl | rfl | rfl | rfl | rfl | rfl | rfl | rfl | rfl | rfl | rfl <;> decide

set_option maxRecDepth 100000 in
set_option maxHeartbeats 1000000 in
theorem font_any (b c M : Nat) (A : Option Addr) (xs : List UInt8) (w : World) (hc : CurLe w b A c M xs) (hat : M ≤ 999900) (hxs : xs.length ≤ maxLen) :
    Calls Tryz.prog 58 #[.pointer (some ⟨b, 0, none⟩)] w fun e w' =>
      (∃ (f : List (ByteArray × Int)) (B : Option Addr) (d : Nat), e = .returned (.slice B f.length d) ∧ 1 ≤ f.length ∧ f.length ≤ 12 ∧ CodesOk f ∧ w'.ownsRow (w.heap.size + 1) 75 2 (.slice B f.length d) f.length (flat f)) ∧
      CurLe w' b A c (M + 24) xs ∧ w.grownBy w' (some b) := by
  have hbl := hc.lt
  have HC := Lib.hid (hc.below ((Below.refl _ _).alloc (Nat.le_refl _) (.cells (strs fontTexts).toArray 9)))
  have HG := Lib.hid (grownBy_alloc (World.grownBy.refl w (some b)) (.cells (strs fontTexts).toArray 9))
  have HROW := Lib.hid (row_strs w fontTexts)
  clear hc
  obtain ⟨i0, hi0', hz0, hz1, hz2⟩ := info_parts info39
  have HI0 := Lib.hid hi0'; have HZ0 := Lib.hid hz0; have HZ1 := Lib.hid hz1; have HZ2 := Lib.hid hz2
  clear hi0' hz0 hz1 hz2
  go_enter Tryz.func58, Tryz.ntmps58
  go_wp2
  go_loopw [3, 8] (fun v i wr => ∃ (k : Nat) (acc : List (ByteArray × Int)), k ≤ 12 ∧ i = .int .i64 (k : Int) ∧ acc.length ≤ k ∧ CodesOk acc ∧ StrsIn wr (some ⟨w.heap.size, 0, none⟩) fontTexts ∧ wr.ownsRow (w.heap.size + 1) 75 2 v acc.length (flat acc) ∧ CurLe wr b A c (M + 2 * k) xs ∧ w.grownBy wr (some b)) (fun _ i _ => 12 - (intOf i).toNat)
  case atStart => exact ⟨0, [], Nat.zero_le _, rfl, Nat.le_refl _, fun k h => absurd h (by simp), HROW.out, own_nil _ _ _ _, HC.out, HG.out⟩
  case round =>
    clear HC HG HROW
    obtain ⟨k, acc, hk, rfl, hal, hco, hrow, hown, hc, hg⟩ := hrel
    by_cases hlt : k < 12
    · obtain ⟨g', off, e, hgl, hcs⟩ := hrow (by decide)
      obtain ⟨rfl, rfl⟩ : w.heap.size = g' ∧ 0 = off := by simpa using e
      have hx0 := hcs k hlt
      rw [Nat.zero_add] at hx0
      obtain ⟨t1, t3⟩ := fontTexts_size _ (List.getElem_mem hlt)
      generalize fontTexts[k]'hlt = t at *
      clear hcs e
      have hk1 : (k : Int) < 12 := by omega
      have hgw : w.heap.size ≤ wr.heap.size := hg.size
      by_cases h1 : t.size = 1
      · have ht : ((t.size : Int) == 1) = true := by rw [h1]; rfl
        have hgt : ¬ (1 : Int) < (t.size : Int) := by omega
        have HS1 := Lib.hid h1
        have HSZ : Hid (t.size ≤ 3) := t3
        clear h1
        go_wp2_with fail
        refine (one_any 12 b c (M + 2 * k) A xs wr hc (by omega) hxs (by omega) (by omega)).mono ?_
        rintro e w1 ⟨⟨r, rfl⟩, hc1, hg1⟩
        have HC1 := Lib.hid hc1
        have HR1 := Lib.hid (hrow.keep hg1 (fun e => by have := Option.some.inj e; omega))
        have HO1 := Lib.hid (own_grown hown hg1 (fun k hk e => by have := own_lt hown k hk; have := Option.some.inj e; omega))
        have HG1 := Lib.hid (grownBy_trans hg hg1)
        have hw1 : wr.heap.size ≤ w1.heap.size := hg1.size
        clear hc1 hg1 hc hrow hown hg hx0
        cases r
        · go_wp2_with fail
          refine (pick_any 4 b c (M + 2 * k + 1) A xs w1 HC1.out (by omega) hxs (by omega) (by omega)).mono ?_
          rintro e w2 ⟨⟨y, hy, rfl⟩, hc2, hg2⟩
          have hb2 : w1.heap.size ≤ w2.heap.size := hg2.size
          have hown2 := own_grown HO1.out hg2 (fun k hk e => by have := own_lt HO1.out k hk; have := Option.some.inj e; omega)
          have HR2 := Lib.hid (HR1.out.keep hg2 (fun e => by have := Option.some.inj e; omega))
          have HG2 := Lib.hid (grownBy_trans HG1.out hg2)
          have HC2 := Lib.hid hc2
          have hsz2 : w.heap.size ≤ w2.heap.size := HG2.out.size
          have hwl2 : w.heap.size + 1 ≤ w2.heap.size := by omega
          have hy1 : (y : Int) < 4 := by omega
          have hmul : (t.size : Int) * (2 + (y : Int)) ≤ 15 := by
            have h1 : (t.size : Int) ≤ 3 := by omega
            have h2 : 2 + (y : Int) ≤ 5 := by omega
            exact Int.le_trans (Int.mul_le_mul h1 h2 (by omega) (by omega)) (by omega)
          have hmul0 : 0 ≤ (t.size : Int) * (2 + (y : Int)) := Int.mul_nonneg (by omega) (by omega)
          generalize hz : (t.size : Int) * (2 + (y : Int)) = z at *
          have hmx : acc.length + 1 ≤ maxLen := by unfold maxLen; omega
          clear hc2 hg2
          go_wp2_with (at_builtin; refine wpList_append_own _ rfl _ _ 30 rfl (w.heap.size + 1) 75 i0 (.agg #[.string .empty, .int .i64 0]) 2 24 Tryz.underlying30 HI0.out HZ0.out HZ1.out HZ2.out rfl (by decide) _ _ _ rfl (hown2.alloc _) ⟨w2.heap.size, 0, none⟩ 1 1 [.string t, .int .i64 (4 + z)] rfl rfl (two_new _ _ _ _) (by simp [Value.oneCell']) hmx (by omega) (by simp; omega) ?_)
          intro v' w4 hown' hgrow _
          have hal2 : w2.grownBy (w2.alloc (.cells #[.string t, .int .i64 (4 + z)] 75)) (some b) := grownBy_alloc (World.grownBy.refl _ _) _
          have hrw := own_lt hown2
          have HR4 := Lib.hid ((HR2.out.keep hal2 (fun e => by have := Option.some.inj e; omega)).keep hgrow (fun e => by have := hrw _ e; omega))
          have HC4 := Lib.hid ((HC2.out.below ((Below.refl _ _).alloc (Nat.le_refl _) (.cells #[.string t, .int .i64 (4 + z)] 75))).own hgrow (fun k hk => by have := hrw k hk; omega))
          have HG4 := Lib.hid (grownBy_own (grownBy_trans HG2.out hal2) hgrow (fun k hk => by have := hrw k hk; omega))
          have HO4 : Hid (w4.ownsRow (w.heap.size + 1) 75 2 v' (acc ++ [(t, 4 + z)]).length (flat (acc ++ [(t, 4 + z)]))) := by
            rw [List.length_append, flat_snoc]; exact hown'
          have hco' : CodesOk (acc ++ [(t, 4 + z)]) := by
            intro q hq
            by_cases hqa : q < acc.length
            · rw [List.getElem_append_left hqa]; exact hco q hqa
            · have : q = acc.length := by simp at hq; omega
              subst this
              simp
              unfold maxLen; omega
          clear hown' hgrow hown2 hal2
          go_wp2
          go_roundw
          case rel => exact ⟨k + 1, acc ++ [(t, 4 + z)], by omega, by go_num, by simp; omega, hco', HR4.out, HO4.out, HC4.out.more (by omega), HG4.out⟩
          case measure => simp [intOf]; omega
        · go_wp2
          go_roundw
          case rel => exact ⟨k + 1, acc, by omega, by go_num, by omega, hco, HR1.out, HO1.out, HC1.out.more (by omega), HG1.out⟩
          case measure => simp [intOf]; omega
      · have ht : ((t.size : Int) == 1) = false := by rw [beq_eq_false_iff_ne]; omega
        have hgt : (1 : Int) < (t.size : Int) := by omega
        go_wp2_with fail
        refine (one_any 3 b c (M + 2 * k) A xs wr hc (by omega) hxs (by omega) (by omega)).mono ?_
        rintro e w1 ⟨⟨r, rfl⟩, hc1, hg1⟩
        have HC1 := Lib.hid hc1
        have HR1 := Lib.hid (hrow.keep hg1 (fun e => by have := Option.some.inj e; omega))
        have HO1 := Lib.hid (own_grown hown hg1 (fun k hk e => by have := own_lt hown k hk; have := Option.some.inj e; omega))
        have HG1 := Lib.hid (grownBy_trans hg hg1)
        have hw1 : wr.heap.size ≤ w1.heap.size := hg1.size
        clear hc1 hg1 hc hrow hown hg hx0
        cases r
        · go_wp2
          go_roundw
          case rel => exact ⟨k + 1, acc, by omega, by go_num, by omega, hco, HR1.out, HO1.out, HC1.out.more (by omega), HG1.out⟩
          case measure => simp [intOf]; omega
        · go_wp2_with fail
          refine (pick_any 4 b c (M + 2 * k + 1) A xs w1 HC1.out (by omega) hxs (by omega) (by omega)).mono ?_
          rintro e w2 ⟨⟨y, hy, rfl⟩, hc2, hg2⟩
          have hb2 : w1.heap.size ≤ w2.heap.size := hg2.size
          have hown2 := own_grown HO1.out hg2 (fun k hk e => by have := own_lt HO1.out k hk; have := Option.some.inj e; omega)
          have HR2 := Lib.hid (HR1.out.keep hg2 (fun e => by have := Option.some.inj e; omega))
          have HG2 := Lib.hid (grownBy_trans HG1.out hg2)
          have HC2 := Lib.hid hc2
          have hsz2 : w.heap.size ≤ w2.heap.size := HG2.out.size
          have hwl2 : w.heap.size + 1 ≤ w2.heap.size := by omega
          have hy1 : (y : Int) < 4 := by omega
          have hmul : (t.size : Int) * (2 + (y : Int)) ≤ 15 := by
            have h1 : (t.size : Int) ≤ 3 := by omega
            have h2 : 2 + (y : Int) ≤ 5 := by omega
            exact Int.le_trans (Int.mul_le_mul h1 h2 (by omega) (by omega)) (by omega)
          have hmul0 : 0 ≤ (t.size : Int) * (2 + (y : Int)) := Int.mul_nonneg (by omega) (by omega)
          generalize hz : (t.size : Int) * (2 + (y : Int)) = z at *
          have hmx : acc.length + 1 ≤ maxLen := by unfold maxLen; omega
          clear hc2 hg2
          go_wp2_with (at_builtin; refine wpList_append_own _ rfl _ _ 30 rfl (w.heap.size + 1) 75 i0 (.agg #[.string .empty, .int .i64 0]) 2 24 Tryz.underlying30 HI0.out HZ0.out HZ1.out HZ2.out rfl (by decide) _ _ _ rfl (hown2.alloc _) ⟨w2.heap.size, 0, none⟩ 1 1 [.string t, .int .i64 (4 + z)] rfl rfl (two_new _ _ _ _) (by simp [Value.oneCell']) hmx (by omega) (by simp; omega) ?_)
          intro v' w4 hown' hgrow _
          have hal2 : w2.grownBy (w2.alloc (.cells #[.string t, .int .i64 (4 + z)] 75)) (some b) := grownBy_alloc (World.grownBy.refl _ _) _
          have hrw := own_lt hown2
          have HR4 := Lib.hid ((HR2.out.keep hal2 (fun e => by have := Option.some.inj e; omega)).keep hgrow (fun e => by have := hrw _ e; omega))
          have HC4 := Lib.hid ((HC2.out.below ((Below.refl _ _).alloc (Nat.le_refl _) (.cells #[.string t, .int .i64 (4 + z)] 75))).own hgrow (fun k hk => by have := hrw k hk; omega))
          have HG4 := Lib.hid (grownBy_own (grownBy_trans HG2.out hal2) hgrow (fun k hk => by have := hrw k hk; omega))
          have HO4 : Hid (w4.ownsRow (w.heap.size + 1) 75 2 v' (acc ++ [(t, 4 + z)]).length (flat (acc ++ [(t, 4 + z)]))) := by
            rw [List.length_append, flat_snoc]; exact hown'
          have hco' : CodesOk (acc ++ [(t, 4 + z)]) := by
            intro q hq
            by_cases hqa : q < acc.length
            · rw [List.getElem_append_left hqa]; exact hco q hqa
            · have : q = acc.length := by simp at hq; omega
              subst this
              simp
              unfold maxLen; omega
          clear hown' hgrow hown2 hal2
          go_wp2
          go_roundw
          case rel => exact ⟨k + 1, acc ++ [(t, 4 + z)], by omega, by go_num, by simp; omega, hco', HR4.out, HO4.out, HC4.out.more (by omega), HG4.out⟩
          case measure => simp [intOf]; omega
    · obtain rfl : k = 12 := by omega
      have hgw : w.heap.size + 1 ≤ wr.heap.size := by
        obtain ⟨g', off, e, hgl, _⟩ := hrow (by decide)
        obtain ⟨rfl, rfl⟩ : w.heap.size = g' ∧ 0 = off := by simpa using e
        exact hgl
      obtain ⟨B, d, rfl⟩ := own_form_f hown
      by_cases h0 : acc.length = 0
      · have ht : ((acc.length : Int) == 0) = true := by rw [h0]; rfl
        have HC2 := Lib.hid (hc.below ((Below.refl _ _).alloc (Nat.le_refl _) (.cells #[.string ⟨#[97]⟩, .int .i64 9] 75)))
        have HG2 := Lib.hid (grownBy_alloc hg (.cells #[.string ⟨#[97]⟩, .int .i64 9] 75))
        have HO2 : Hid ((wr.alloc (.cells #[.string ⟨#[97]⟩, .int .i64 9] 75)).ownsRow (w.heap.size + 1) 75 2 (.slice (some ⟨wr.heap.size, 0, none⟩) 1 1) 1 (flat [(⟨#[97]⟩, 9)])) :=
          Lib.hid ⟨rfl, .inr ⟨wr.heap.size, 1, _, rfl, hgw, heap_new _ _, Nat.le_refl _, by unfold maxLen; omega, rfl, rfl⟩⟩
        have HZ := Lib.hid h0
        clear h0 hc hg hown hrow
        go_wp2
        go_ret
        exact ⟨⟨[(⟨#[97]⟩, 9)], _, _, rfl, by simp, by simp, fun q hq => by
          obtain rfl : q = 0 := by simp at hq; omega
          show (1 : Nat) ≤ maxLen
          unfold maxLen; omega, HO2.out⟩, HC2.out.more (by omega), HG2.out⟩
      · have ht : ((acc.length : Int) == 0) = false := by rw [beq_eq_false_iff_ne]; omega
        have HO2 := Lib.hid hown
        have HC2 := Lib.hid hc
        have HG2 := Lib.hid hg
        clear hc hg hown hrow
        go_wp2
        go_ret
        exact ⟨⟨acc, B, d, rfl, by omega, by omega, hco, HO2.out⟩, HC2.out.more (by omega), HG2.out⟩
end Go.Proofs.YtnbnegkoanidmaaGreatDoor.S1

/-
  The draws of any font: spec.l1Cur.among, spec.l1Cur.anyFont. (For FnFonts.)
-/
namespace Go.Proofs.YtnbnegkoanidmaaGreatDoor.S1
open Go.RowKit
set_option linter.unusedVariables false

theorem row_ints (w : World) (l : List Int) : IntsIn (w.alloc (.cells (intsZ l).toArray 3)) (some ⟨w.heap.size, 0, none⟩) l := fun hn =>
  ⟨w.heap.size, 0, rfl, by simp, fun k hk => by
    rw [cell_of_heap (heap_new _ _)]
    simp [intsZ, hk]⟩
set_option maxRecDepth 100000 in
theorem among_any (l : List Int) (g c' : Nat) (b c M : Nat) (A : Option Addr) (xs : List UInt8) (w : World) (hc : CurLe w b A c M xs) (hat : M ≤ 1000000) (hxs : xs.length ≤ maxLen) (hl : IntsIn w (some ⟨g, 0, none⟩) l) (hne : g ≠ b) (h1 : 1 ≤ l.length) (h2 : l.length ≤ 200) :
    Calls Tryz.prog 21 #[.pointer (some ⟨b, 0, none⟩), .slice (some ⟨g, 0, none⟩) l.length c'] w fun e w' => (∃ s, s ∈ l ∧ e = .returned (.int .i64 s)) ∧ CurLe w' b A c (M + 1) xs ∧ w.grownBy w' (some b) := by
  have HC := Lib.hid hc; clear hc
  have HL := Lib.hid hl; clear hl
  go_enter Tryz.func21, Tryz.ntmps21
  go_wp2_with fail
  refine (pick_any l.length b c M A xs w HC.out hat hxs h1 h2).mono ?_
  rintro e w1 ⟨⟨x, hx, rfl⟩, hc1, hg1⟩
  obtain ⟨b', off, e, hbl, hcs⟩ := HL.out (by omega)
  obtain ⟨rfl, rfl⟩ : g = b' ∧ 0 = off := by simpa using e
  have hx0 := (cell_keep hg1 hbl (fun e => hne (Option.some.inj e).symm)).trans (hcs x hx)
  rw [Nat.zero_add] at hx0
  have HC1 := Lib.hid hc1
  have HG1 := Lib.hid hg1
  have hbl1 : g < w1.heap.size := Nat.lt_of_lt_of_le hbl hg1.size
  have hx1 : (x : Int) < (l.length : Int) := by omega
  clear hc1 hg1 hcs e
  go_wp2
  go_ret
  exact ⟨⟨l[x], List.getElem_mem _, rfl⟩, HC1.out, HG1.out⟩

theorem own_set {w : World} {base size n cap g i : Nat} {e : TypeId} {xs : List Value} (h : w.ownsRow base e size (.slice (some ⟨g, 0, none⟩) n cap) n xs) (hi : i < xs.length) (u : Value) :
    (w.setCell ⟨g, i, none⟩ u).ownsRow base e size (.slice (some ⟨g, 0, none⟩) n cap) n (xs.set i u) := by
  refine ⟨by rw [List.length_set]; exact h.1, ?_⟩
  rcases h.2 with ⟨hv, _⟩ | ⟨g', cap', cur, hv, hg, hh, h1, h2, h3, h4⟩
  · cases hv
  · injection hv with e1 e2 e3
    injection e1 with e1
    injection e1 with e1
    subst e1
    refine .inr ⟨g, cap', _, by rw [e3], hg, heap_set hh u, h1, h2, by simpa using h3, ?_⟩
    rw [Array.toList_setIfInBounds, List.take_set, h4]
theorem flat_set : ∀ (f : List (ByteArray × Int)) (k : Nat) (h : k < f.length) (s : ByteArray), (flat f).set (k * 2) (.string s) = flat (f.set k (s, f[k].2))
  | x :: r, 0, _, s => rfl
  | x :: r, k + 1, h, s => by
    have ih := flat_set r k (by simpa using h) s
    have e : ∀ (y : ByteArray × Int) (q : List (ByteArray × Int)), flat (y :: q) = .string y.1 :: .int .i64 y.2 :: flat q := fun _ _ => rfl
    rw [e, show (k + 1) * 2 = k * 2 + 1 + 1 from by omega, List.set_cons_succ, List.set_cons_succ, ih]
    rfl
theorem flat_set2 : ∀ (f : List (ByteArray × Int)) (k : Nat) (h : k < f.length) (z : Int), (flat f).set (k * 2 + 1) (.int .i64 z) = flat (f.set k (f[k].1, z))
  | x :: r, 0, _, z => rfl
  | x :: r, k + 1, h, z => by
    have ih := flat_set2 r k (by simpa using h) z
    have e : ∀ (y : ByteArray × Int) (q : List (ByteArray × Int)), flat (y :: q) = .string y.1 :: .int .i64 y.2 :: flat q := fun _ _ => rfl
    rw [e, show (k + 1) * 2 + 1 = k * 2 + 1 + 1 + 1 from by omega, List.set_cons_succ, List.set_cons_succ, ih]
    rfl
theorem own_slot {w : World} {base size n cap : Nat} {e : TypeId} {B : Option Addr} {xs : List Value} (h : w.ownsRow base e size (.slice B n cap) n xs) (hn : 1 ≤ n) :
    ∃ g, B = some ⟨g, 0, none⟩ ∧ base ≤ g ∧ g < w.heap.size ∧ ∀ i, i < xs.length → (∃ u, w.cell? ⟨g, i, none⟩ = some u) ∧ w.frozen? ⟨g, i, none⟩ = false := by
  rcases h.2 with ⟨hv, h0⟩ | ⟨g, cap', cur, hv, hg, hh, h1, h2, h3, h4⟩
  · omega
  · injection hv with e1 e2 e3
    refine ⟨g, e1, hg, lt_of_heap hh, fun i hi => ⟨?_, free_of_heap hh i⟩⟩
    rw [cell_of_heap hh]
    have hxl := h.1
    have : i < cur.size := by
      rw [h3]
      have := Nat.mul_le_mul_right size h1
      omega
    exact ⟨_, Array.getElem?_eq_getElem this⟩
def codeTexts : List ByteArray := [⟨#[]⟩, ⟨#[65]⟩, ⟨#[97, 98, 99, 100]⟩, ⟨#[97]⟩, ⟨#[122, 122, 122]⟩]
theorem codeTexts_size : ∀ s ∈ codeTexts, s.size ≤ 4 := by
  intro s hs
  simp only [codeTexts, List.mem_cons, List.not_mem_nil, or_false] at hs
  rcases hs with rfl | rfl | rfl | rfl | rfl <;> decide
def setInts : List Int := [0, 1, 54, 55, -1]
theorem codesOk_set {f : List (ByteArray × Int)} {k : Nat} {x : ByteArray × Int} (h : CodesOk f) (hx : x.1.size ≤ maxLen) : CodesOk (f.set k x) := by
  intro q hq
  rw [List.getElem_set]
  split
  · exact hx
  · exact h q _

set_option maxRecDepth 100000 in
set_option maxHeartbeats 1000000 in
theorem anyFont_any (b c M : Nat) (A : Option Addr) (xs : List UInt8) (w : World) (hc : CurLe w b A c M xs) (hat : M ≤ 999800) (hxs : xs.length ≤ maxLen) :
    Calls Tryz.prog 31 #[.pointer (some ⟨b, 0, none⟩)] w fun e w' =>
      (∃ (f : List (ByteArray × Int)) (B : Option Addr) (d : Nat), e = .returned (.slice B f.length d) ∧ f.length ≤ 40 ∧ CodesOk f ∧ w'.ownsRow (w.heap.size + 1) 75 2 (.slice B f.length d) f.length (flat f)) ∧
      CurLe w' b A c (M + 30) xs ∧ w.grownBy w' (some b) := by
  have hbl := hc.lt
  have HC := Lib.hid hc; clear hc
  go_enter Tryz.func31, Tryz.ntmps31
  go_wp2_with fail
  refine (font_any b c M A xs w HC.out (by omega) hxs).mono ?_
  rintro e w1 ⟨⟨f, B, d, rfl, hf1, hf2, hco, hown⟩, hc1, hg1⟩
  have HC1 := Lib.hid hc1; have HG1 := Lib.hid hg1; have HO1 := Lib.hid hown
  clear hc1 hg1 hown HC
  go_wp2_with fail
  refine (pick_any f.length b c (M + 24) A xs w1 HC1.out (by omega) hxs hf1 (by omega)).mono ?_
  rintro e w2 ⟨⟨k, hk, rfl⟩, hc2, hg2⟩
  have HC2 := Lib.hid hc2; have HG2 := Lib.hid (grownBy_trans HG1.out hg2)
  have HO2 := Lib.hid (own_grown HO1.out hg2 (fun k hk e => by have := own_lt HO1.out k hk; have := Option.some.inj e; omega))
  clear hc2 hg2 HC1 HG1 HO1
  go_wp2_with fail
  refine (pick_any 30 b c (M + 24 + 1) A xs w2 HC2.out (by omega) hxs (by omega) (by omega)).mono ?_
  rintro e w3 ⟨⟨x, hx, rfl⟩, hc3, hg3⟩
  have HC3 := Lib.hid hc3; have HG3 := Lib.hid (grownBy_trans HG2.out hg3)
  have HO3 := Lib.hid (own_grown HO2.out hg3 (fun k hk e => by have := own_lt HO2.out k hk; have := Option.some.inj e; omega))
  clear hc3 hg3 HC2 HG2 HO2
  have hk1 : (k : Int) < (f.length : Int) := by omega
  rcases (by omega : x = 0 ∨ x = 1 ∨ x = 2 ∨ x = 3 ∨ 4 ≤ x) with rfl | rfl | rfl | rfl | h3
  · have HC4 := Lib.hid (HC3.out.below ((Below.refl _ _).alloc (Nat.le_refl _) (.cells (strs codeTexts).toArray 9)))
    have HG4 := Lib.hid (grownBy_alloc HG3.out (.cells (strs codeTexts).toArray 9))
    have HO4 := Lib.hid (own_below HO3.out ((Below.refl _ _).alloc (Nat.le_refl _) (.cells (strs codeTexts).toArray 9)))
    have HROW := Lib.hid (row_strs w3 codeTexts)
    have hbl3 := HC3.out.lt
    go_wp2_with fail
    refine (of_any codeTexts w3.heap.size _ b c (M + 24 + 1 + 1) A xs _ HC4.out (by omega) hxs HROW.out (by omega) (by decide) (by decide)).mono ?_
    rintro e w5 ⟨⟨t, ht, rfl⟩, hc5, hg5⟩
    have HO5 := own_grown HO4.out hg5 (fun k hk e => by have := own_lt HO4.out k hk; have := Option.some.inj e; omega)
    have HG5 := Lib.hid (grownBy_trans HG4.out hg5)
    obtain ⟨g, rfl, hgb, hgz, hslot⟩ := own_slot HO5 hf1
    obtain ⟨⟨u, hu⟩, hfz⟩ := hslot (k * 2) (by rw [flat_len]; omega)
    have hset := own_set HO5 (i := k * 2) (by rw [flat_len]; omega) (.string t)
    rw [flat_set f k hk] at hset
    have HO6 : Hid ((w5.setCell ⟨g, k * 2, none⟩ (.string t)).ownsRow (w.heap.size + 1) 75 2 (.slice (some ⟨g, 0, none⟩) (f.set k (t, f[k].2)).length d) (f.set k (t, f[k].2)).length (flat (f.set k (t, f[k].2)))) := by
      rw [List.length_set]; exact hset
    have hgr : w5.grownBy (w5.setCell ⟨g, k * 2, none⟩ (.string t)) (some g) := grown_set (World.grownBy.refl _ _) _ _
    have HC6 := Lib.hid (hc5.own hgr (fun k hk => by have := Option.some.inj hk; omega))
    have HG6 := Lib.hid (grownBy_own HG5.out hgr (fun k hk => by have := Option.some.inj hk; omega))
    have HCO : Hid (CodesOk (f.set k (t, f[k].2))) := codesOk_set hco (by have := codeTexts_size t ht; show t.size ≤ _; unfold maxLen; omega)
    clear hset hgr hc5 hg5 HO5 hslot
    go_wp2
    go_ret
    exact ⟨⟨f.set k (t, f[k].2), _, d, by rw [List.length_set]; rfl, by rw [List.length_set]; omega, HCO.out, HO6.out⟩, HC6.out.more (by omega), HG6.out⟩
  · have HC4 := Lib.hid (HC3.out.below ((Below.refl _ _).alloc (Nat.le_refl _) (.cells (intsZ setInts).toArray 3)))
    have HG4 := Lib.hid (grownBy_alloc HG3.out (.cells (intsZ setInts).toArray 3))
    have HO4 := Lib.hid (own_below HO3.out ((Below.refl _ _).alloc (Nat.le_refl _) (.cells (intsZ setInts).toArray 3)))
    have HROW := Lib.hid (row_ints w3 setInts)
    have hbl3 := HC3.out.lt
    go_wp2_with fail
    refine (among_any setInts w3.heap.size _ b c (M + 24 + 1 + 1) A xs _ HC4.out (by omega) hxs HROW.out (by omega) (by decide) (by decide)).mono ?_
    rintro e w5 ⟨⟨t, ht, rfl⟩, hc5, hg5⟩
    have HO5 := own_grown HO4.out hg5 (fun k hk e => by have := own_lt HO4.out k hk; have := Option.some.inj e; omega)
    have HG5 := Lib.hid (grownBy_trans HG4.out hg5)
    obtain ⟨g, rfl, hgb, hgz, hslot⟩ := own_slot HO5 hf1
    obtain ⟨⟨u, hu⟩, hfz⟩ := hslot (k * 2 + 1) (by rw [flat_len]; omega)
    have hset := own_set HO5 (i := k * 2 + 1) (by rw [flat_len]; omega) (.int .i64 t)
    rw [flat_set2 f k hk] at hset
    have HO6 : Hid ((w5.setCell ⟨g, k * 2 + 1, none⟩ (.int .i64 t)).ownsRow (w.heap.size + 1) 75 2 (.slice (some ⟨g, 0, none⟩) (f.set k (f[k].1, t)).length d) (f.set k (f[k].1, t)).length (flat (f.set k (f[k].1, t)))) := by
      rw [List.length_set]; exact hset
    have hgr : w5.grownBy (w5.setCell ⟨g, k * 2 + 1, none⟩ (.int .i64 t)) (some g) := grown_set (World.grownBy.refl _ _) _ _
    have HC6 := Lib.hid (hc5.own hgr (fun k hk => by have := Option.some.inj hk; omega))
    have HG6 := Lib.hid (grownBy_own HG5.out hgr (fun k hk => by have := Option.some.inj hk; omega))
    have HCO : Hid (CodesOk (f.set k (f[k].1, t))) := codesOk_set hco (by exact hco k hk)
    clear hset hgr hc5 hg5 HO5 hslot
    go_wp2
    go_ret
    exact ⟨⟨f.set k (f[k].1, t), _, d, by rw [List.length_set]; rfl, by rw [List.length_set]; omega, HCO.out, HO6.out⟩, HC6.out.more (by omega), HG6.out⟩
  · go_wp2
    go_ret
    exact ⟨⟨[], none, 0, rfl, by simp, fun q hq => absurd hq (by simp), own_nil _ _ _ _⟩, HC3.out.more (by omega), HG3.out⟩
  · go_wp2_with fail
    refine (pick_any 2 b c (M + 24 + 1 + 1) A xs w3 HC3.out (by omega) hxs (by omega) (by omega)).mono ?_
    rintro e w4 ⟨⟨y, hy, rfl⟩, hc4, hg4⟩
    have HC4 := Lib.hid hc4
    have HG4 := Lib.hid (grownBy_trans HG3.out hg4)
    have hsz3 : w.heap.size + 1 ≤ w4.heap.size := by
      obtain ⟨g, _, h1, h2, _⟩ := own_slot HO3.out hf1
      have := hg4.size
      omega
    have hy1 : (y : Int) < 2 := by omega
    clear hc4 hg4 HC3 HG3 HO3
    obtain ⟨i0, hi0', hz0, hz1, hz2⟩ := info_parts info39
    have HI0 := Lib.hid hi0'; have HZ0 := Lib.hid hz0; have HZ1 := Lib.hid hz1; have HZ2 := Lib.hid hz2
    clear hi0' hz0 hz1 hz2
    go_wp2
    go_loopw [3] (fun v wr => ∃ (acc : List (ByteArray × Int)), acc.length ≤ 33 ∧ CodesOk acc ∧ wr.ownsRow (w.heap.size + 1) 75 2 v acc.length (flat acc) ∧ CurLe wr b A c (M + 24 + 1 + 1 + 1) xs ∧ w.grownBy wr (some b) ∧ w.heap.size + 1 ≤ wr.heap.size) (fun v _ => match v with | .slice _ n _ => 40 - n | _ => 0)
    case atStart => exact ⟨[], by simp, fun q hq => absurd hq (by simp), own_nil _ _ _ _, HC4.out, HG4.out, hsz3⟩
    case round =>
      clear HC4 HG4 hsz3
      obtain ⟨acc, hal, hca, hown, hc, hg, hsz⟩ := hrel
      obtain ⟨B', d', rfl⟩ := own_form_f hown
      by_cases hlt : (acc.length : Int) < 32 + (y : Int)
      · have hq0 : 0 ≤ (acc.length : Int) / 6 := by omega
        have hq1 : (acc.length : Int) / 6 ≤ 6 := by omega
        have hr0 : 0 ≤ (acc.length : Int) % 6 := by omega
        have hr1 : (acc.length : Int) % 6 ≤ 5 := by omega
        obtain ⟨x0, hx0⟩ : ∃ x0 : UInt8, (x0.toNat : Int) = 97 + (acc.length : Int) / 6 := ⟨UInt8.ofNat (97 + acc.length / 6), by simp; omega⟩
        obtain ⟨x1, hx1⟩ : ∃ x1 : UInt8, (x1.toNat : Int) = 97 + (acc.length : Int) % 6 := ⟨UInt8.ofNat (97 + acc.length % 6), by simp; omega⟩
        have HX0 := Lib.hid hx0; have HX1 := Lib.hid hx1
        clear hx0 hx1
        have hcv : ∀ W : World, W = wr.alloc (.cells #[.int .u8 (97 + (acc.length : Int) / 6), .int .u8 (97 + (acc.length : Int) % 6)] 5) → (convert 22 9 (.slice (some ⟨wr.heap.size, 0, none⟩) 2 2)).run Tryz.prog W = .ok (.string ⟨([x0, x1] : List UInt8).toArray⟩) W := fun W hW => by
          subst hW
          refine run_convert_bytes_back (P := Tryz.prog) _ 22 9 5 ⟨wr.heap.size, 0, none⟩ 2 [x0, x1] Tryz.underlying22 Tryz.underlying5 Tryz.underlying9 (fun i hi => ?_)
          refine two_new wr _ _ _ i _ ?_
          match i, hi with
          | 0, _ => rw [← HX0.out]; rfl
          | 1, _ => rw [← HX1.out]; rfl
        have hcv := hcv _ rfl
        have hmx : acc.length + 1 ≤ maxLen := by unfold maxLen; omega
        go_wp2_with (at_builtin; refine wpList_append_own _ rfl _ _ 30 rfl (w.heap.size + 1) 75 i0 (.agg #[.string .empty, .int .i64 0]) 2 24 Tryz.underlying30 HI0.out HZ0.out HZ1.out HZ2.out rfl (by decide) _ _ _ rfl ((hown.alloc _).alloc _) ⟨wr.heap.size + 1, 0, none⟩ 1 1 [.string ⟨([x0, x1] : List UInt8).toArray⟩, .int .i64 9] rfl rfl (by have h := two_new (wr.alloc (.cells #[.int .u8 (97 + (acc.length : Int) / 6), .int .u8 (97 + (acc.length : Int) % 6)] 5)) (.string ⟨([x0, x1] : List UInt8).toArray⟩) (.int .i64 9) 75; rw [show (wr.alloc (.cells #[.int .u8 (97 + (acc.length : Int) / 6), .int .u8 (97 + (acc.length : Int) % 6)] 5)).heap.size = wr.heap.size + 1 from by simp] at h; exact h) (by simp [Value.oneCell']) hmx (by omega) (by simp; omega) ?_)
        intro v' w6 hown' hgrow _
        have hrw := own_lt hown
        have hb1 : Below wr.heap.size wr ((wr.alloc (.cells #[.int .u8 (97 + (acc.length : Int) / 6), .int .u8 (97 + (acc.length : Int) % 6)] 5)).alloc (.cells #[.string ⟨([x0, x1] : List UInt8).toArray⟩, .int .i64 9] 75)) :=
          ((Below.refl _ _).alloc (Nat.le_refl _) _).alloc (by simp) _
        have HC6 := Lib.hid ((hc.below hb1).own hgrow (fun k hk => by have := hrw k hk; omega))
        have HG6 := Lib.hid (grownBy_own (grown_below hg hb1) hgrow (fun k hk => by have := hrw k hk; omega))
        have HO6 : Hid (w6.ownsRow (w.heap.size + 1) 75 2 v' (acc ++ [((⟨([x0, x1] : List UInt8).toArray⟩ : ByteArray), (9 : Int))]).length (flat (acc ++ [((⟨([x0, x1] : List UInt8).toArray⟩ : ByteArray), (9 : Int))]))) := by
          rw [List.length_append, flat_snoc]; exact hown'
        have HCO : Hid (CodesOk (acc ++ [((⟨([x0, x1] : List UInt8).toArray⟩ : ByteArray), (9 : Int))])) := by
          show CodesOk _
          intro q hq
          by_cases hqa : q < acc.length
          · rw [List.getElem_append_left hqa]; exact hca q hqa
          · have : q = acc.length := by simp at hq; omega
            subst this
            simp
            show (2 : Nat) ≤ maxLen
            unfold maxLen; omega
        have HSZ : Hid (w.heap.size + 1 ≤ w6.heap.size) := Nat.le_trans hsz (Nat.le_trans hb1.size hgrow.size)
        obtain ⟨B6, d6, rfl⟩ := own_form_f HO6.out
        clear hown' hgrow hown hc hg hcv hb1
        go_wp2
        go_roundw
        case rel => exact ⟨acc ++ [((⟨([x0, x1] : List UInt8).toArray⟩ : ByteArray), (9 : Int))], by simp; omega, HCO.out, HO6.out, HC6.out, HG6.out, HSZ.out⟩
        case measure => show 40 - (acc ++ [_]).length < 40 - acc.length; simp; omega
      · go_wp2
        go_ret
        exact ⟨⟨acc, B', d', rfl, by omega, hca, hown⟩, hc.more (by omega), hg⟩
  · have e0 : ((x : Int) == 0) = false := by rw [beq_eq_false_iff_ne]; omega
    have e1 : ((x : Int) == 1) = false := by rw [beq_eq_false_iff_ne]; omega
    have e2 : ((x : Int) == 2) = false := by rw [beq_eq_false_iff_ne]; omega
    have e3 : ((x : Int) == 3) = false := by rw [beq_eq_false_iff_ne]; omega
    go_wp2
    go_ret
    exact ⟨⟨f, B, d, rfl, by omega, hco, HO3.out⟩, HC3.out.more (by omega), HG3.out⟩

end Go.Proofs.YtnbnegkoanidmaaGreatDoor.S1
