/-
  The draw of a font: spec.l1Cur.font. (For FnFonts.)
-/
import Derived.Test.YtpbkeagpipipmaaCur
import Derived.Test.YtpbkeagpipipmaaWo
import Derived.Test.YtpbkeagpipipmaaHeld
namespace Go.Proofs.Ytpbkeagpipipmaa.S1
open Go.RowKit
set_option linter.unusedVariables false

theorem cell_keep {w w' : World} {b' i : Nat} {row : Option Nat} (hg : w.grownBy w' row) (h : b' < w.heap.size) (hne : row ≠ some b') : w'.cell? ⟨b', i, none⟩ = w.cell? ⟨b', i, none⟩ := by
  have := hg.block b' h (fun e => hne e.symm)
  unfold World.cell?
  rw [this]
theorem grownBy_own {w wr w4 : World} {b : Nat} {row : Option Nat} (h : w.grownBy wr (some b)) (hg : wr.grownBy w4 row) (hrow : ∀ k, row = some k → w.heap.size ≤ k) : w.grownBy w4 (some b) :=
  ⟨hg.os.trans h.os, hg.tape.trans h.tape, hg.output.trans h.output, Nat.le_trans h.size hg.size, fun i hi hne => (hg.block i (Nat.lt_of_lt_of_le hi h.size) (fun e => by have := hrow i e.symm; omega)).trans (h.block i hi hne)⟩
theorem CurLe.own {w w' : World} {b c M : Nat} {A : Option Addr} {xs : List UInt8} {row : Option Nat} (h : CurLe w b A c M xs) (hg : w.grownBy w' row) (hrow : ∀ k, row = some k → b < k) : CurLe w' b A c M xs := by
  have hl := h.lt
  obtain ⟨⟨a, h0, sd, h1, h1'⟩, h2⟩ := h
  refine ⟨⟨a, h0, sd, h1, (hg.block b hl (fun e => by have := hrow b e.symm; omega)).trans h1'⟩, fun hn => ?_⟩
  obtain ⟨b', off, e, hlt, hc⟩ := h2 hn
  exact ⟨b', off, e, hlt, fun k hk => (cell_keep hg (by omega) (fun e => by have := hrow b' e; omega)).trans (hc k hk)⟩
theorem StrsIn.keep {w w' : World} {g : Nat} {l : List ByteArray} {row : Option Nat} (h : StrsIn w (some ⟨g, 0, none⟩) l) (hg : w.grownBy w' row) (hne : row ≠ some g) : StrsIn w' (some ⟨g, 0, none⟩) l := fun hn => by
  obtain ⟨b', off, e, hl, hc⟩ := h hn
  obtain ⟨rfl, rfl⟩ : g = b' ∧ 0 = off := by simpa using e
  exact ⟨g, 0, rfl, Nat.lt_of_lt_of_le hl hg.size, fun k hk => (cell_keep hg hl hne).trans (hc k hk)⟩
theorem two_new (w : World) (x y : Value) (t : TypeId) : ∀ j u, ([x, y] : List Value)[j]? = some u → (w.alloc (.cells #[x, y] t)).cell? ((⟨w.heap.size, 0, none⟩ : Addr).add j) = some u := by
  intro j u hu
  have e : (⟨w.heap.size, 0, none⟩ : Addr).add j = ⟨w.heap.size, 0 + j, none⟩ := by
    unfold Addr.add
    by_cases hk : j = 0 <;> simp [hk]
  rw [e, cell_of_heap (heap_new _ _), Nat.zero_add, ← hu]
  simp
def fontTexts : List ByteArray := [⟨#[97]⟩, ⟨#[97, 98]⟩, ⟨#[97, 98, 99]⟩, ⟨#[98]⟩, ⟨#[98, 98]⟩, ⟨#[99]⟩, ⟨#[100]⟩, ⟨#[101]⟩, ⟨#[102]⟩, ⟨#[102, 102]⟩, ⟨#[102, 105]⟩, ⟨#[105]⟩]
theorem fontTexts_size : ∀ s ∈ fontTexts, 1 ≤ s.size ∧ s.size ≤ 3 := by
  intro s hs
  simp only [fontTexts, List.mem_cons, List.not_mem_nil, or_false] at hs
  rcases hs with rfl | rfl | rfl | rfl | rfl | rfl | rfl | rfl | rfl | rfl | rfl | rfl <;> decide

set_option maxRecDepth 100000 in
set_option maxHeartbeats 1000000 in
theorem font_any (b c M : Nat) (A : Option Addr) (xs : List UInt8) (w : World) (hc : CurLe w b A c M xs) (hat : M ≤ 999900) (hxs : xs.length ≤ maxLen) :
    Calls Try.prog 85 #[.pointer (some ⟨b, 0, none⟩)] w fun e w' =>
      (∃ (f : List (ByteArray × Int)) (B : Option Addr) (d : Nat), e = .returned (.slice B f.length d) ∧ 1 ≤ f.length ∧ f.length ≤ 12 ∧ CodesOk f ∧ w'.ownsRow (w.heap.size + 1) 91 2 (.slice B f.length d) f.length (flat f)) ∧
      CurLe w' b A c (M + 24) xs ∧ w.grownBy w' (some b) := by
  have hbl := hc.lt
  have HC := Lib.hid (hc.below ((Below.refl _ _).alloc (Nat.le_refl _) (.cells (strs fontTexts).toArray 9)))
  have HG := Lib.hid (grownBy_alloc (World.grownBy.refl w (some b)) (.cells (strs fontTexts).toArray 9))
  have HROW := Lib.hid (row_strs w fontTexts)
  clear hc
  obtain ⟨i0, hi0', hz0, hz1, hz2⟩ := info_parts info39
  have HI0 := Lib.hid hi0'; have HZ0 := Lib.hid hz0; have HZ1 := Lib.hid hz1; have HZ2 := Lib.hid hz2
  clear hi0' hz0 hz1 hz2
  go_enter Try.func85, Try.ntmps85
  go_wp2
  go_loopw [3, 8] (fun v i wr => ∃ (k : Nat) (acc : List (ByteArray × Int)), k ≤ 12 ∧ i = .int .i64 (k : Int) ∧ acc.length ≤ k ∧ CodesOk acc ∧ StrsIn wr (some ⟨w.heap.size, 0, none⟩) fontTexts ∧ wr.ownsRow (w.heap.size + 1) 91 2 v acc.length (flat acc) ∧ CurLe wr b A c (M + 2 * k) xs ∧ w.grownBy wr (some b)) (fun _ i _ => 12 - (intOf i).toNat)
  case atStart => exact ⟨0, [], Nat.zero_le _, rfl, Nat.le_refl _, fun k h => absurd h (by simp), HROW.out, own_nil _ _ _ _, HC.out, HG.out⟩
  case round =>
    clear HC HG HROW
    obtain ⟨k, acc, hk, rfl, hal, hco, hrow, hown, hc, hg⟩ := hrel
    by_cases hlt : k < 12
    · obtain ⟨g', off, e, hgl, hcs⟩ := hrow (by decide)
      obtain ⟨rfl, rfl⟩ : w.heap.size = g' ∧ 0 = off := by simpa using e
      have hx0 := hcs k hlt
      rw [Nat.zero_add] at hx0
      obtain ⟨t1, t3⟩ := fontTexts_size _ (List.getElem_mem hlt)
      generalize fontTexts[k]'hlt = t at *
      clear hcs e
      have hk1 : (k : Int) < 12 := by omega
      have hgw : w.heap.size ≤ wr.heap.size := hg.size
      by_cases h1 : t.size = 1
      · have ht : ((t.size : Int) == 1) = true := by rw [h1]; rfl
        have hgt : ¬ (1 : Int) < (t.size : Int) := by omega
        have HS1 := Lib.hid h1
        have HSZ : Hid (t.size ≤ 3) := t3
        clear h1
        go_wp2_with fail
        refine (one_any 12 b c (M + 2 * k) A xs wr hc (by omega) hxs (by omega) (by omega)).mono ?_
        rintro e w1 ⟨⟨r, rfl⟩, hc1, hg1⟩
        have HC1 := Lib.hid hc1
        have HR1 := Lib.hid (hrow.keep hg1 (fun e => by have := Option.some.inj e; omega))
        have HO1 := Lib.hid (own_grown hown hg1 (fun k hk e => by have := own_lt hown k hk; have := Option.some.inj e; omega))
        have HG1 := Lib.hid (grownBy_trans hg hg1)
        have hw1 : wr.heap.size ≤ w1.heap.size := hg1.size
        clear hc1 hg1 hc hrow hown hg hx0
        cases r
        · go_wp2_with fail
          refine (pick_any 4 b c (M + 2 * k + 1) A xs w1 HC1.out (by omega) hxs (by omega) (by omega)).mono ?_
          rintro e w2 ⟨⟨y, hy, rfl⟩, hc2, hg2⟩
          have hb2 : w1.heap.size ≤ w2.heap.size := hg2.size
          have hown2 := own_grown HO1.out hg2 (fun k hk e => by have := own_lt HO1.out k hk; have := Option.some.inj e; omega)
          have HR2 := Lib.hid (HR1.out.keep hg2 (fun e => by have := Option.some.inj e; omega))
          have HG2 := Lib.hid (grownBy_trans HG1.out hg2)
          have HC2 := Lib.hid hc2
          have hsz2 : w.heap.size ≤ w2.heap.size := HG2.out.size
          have hwl2 : w.heap.size + 1 ≤ w2.heap.size := by omega
          have hy1 : (y : Int) < 4 := by omega
          have hmul : (t.size : Int) * (2 + (y : Int)) ≤ 15 := by
            have h1 : (t.size : Int) ≤ 3 := by omega
            have h2 : 2 + (y : Int) ≤ 5 := by omega
            exact Int.le_trans (Int.mul_le_mul h1 h2 (by omega) (by omega)) (by omega)
          have hmul0 : 0 ≤ (t.size : Int) * (2 + (y : Int)) := Int.mul_nonneg (by omega) (by omega)
          generalize hz : (t.size : Int) * (2 + (y : Int)) = z at *
          have hmx : acc.length + 1 ≤ maxLen := by unfold maxLen; omega
          clear hc2 hg2
          go_wp2_with (at_builtin; refine wpList_append_own _ rfl _ _ 43 rfl (w.heap.size + 1) 91 i0 (.agg #[.string .empty, .int .i64 0]) 2 24 Try.underlying43 HI0.out HZ0.out HZ1.out HZ2.out rfl (by decide) _ _ _ rfl (hown2.alloc _) ⟨w2.heap.size, 0, none⟩ 1 1 [.string t, .int .i64 (4 + z)] rfl rfl (two_new _ _ _ _) (by simp [Value.oneCell']) hmx (by omega) (by simp; omega) ?_)
          intro v' w4 hown' hgrow _
          have hal2 : w2.grownBy (w2.alloc (.cells #[.string t, .int .i64 (4 + z)] 91)) (some b) := grownBy_alloc (World.grownBy.refl _ _) _
          have hrw := own_lt hown2
          have HR4 := Lib.hid ((HR2.out.keep hal2 (fun e => by have := Option.some.inj e; omega)).keep hgrow (fun e => by have := hrw _ e; omega))
          have HC4 := Lib.hid ((HC2.out.below ((Below.refl _ _).alloc (Nat.le_refl _) (.cells #[.string t, .int .i64 (4 + z)] 91))).own hgrow (fun k hk => by have := hrw k hk; omega))
          have HG4 := Lib.hid (grownBy_own (grownBy_trans HG2.out hal2) hgrow (fun k hk => by have := hrw k hk; omega))
          have HO4 : Hid (w4.ownsRow (w.heap.size + 1) 91 2 v' (acc ++ [(t, 4 + z)]).length (flat (acc ++ [(t, 4 + z)]))) := by
            rw [List.length_append, flat_snoc]; exact hown'
          have hco' : CodesOk (acc ++ [(t, 4 + z)]) := by
            intro q hq
            by_cases hqa : q < acc.length
            · rw [List.getElem_append_left hqa]; exact hco q hqa
            · have : q = acc.length := by simp at hq; omega
              subst this
              simp
              unfold maxLen; omega
          clear hown' hgrow hown2 hal2
          go_wp2
          go_roundw
          case rel => exact ⟨k + 1, acc ++ [(t, 4 + z)], by omega, by go_num, by simp; omega, hco', HR4.out, HO4.out, HC4.out.more (by omega), HG4.out⟩
          case measure => simp [intOf]; omega
        · go_wp2
          go_roundw
          case rel => exact ⟨k + 1, acc, by omega, by go_num, by omega, hco, HR1.out, HO1.out, HC1.out.more (by omega), HG1.out⟩
          case measure => simp [intOf]; omega
      · have ht : ((t.size : Int) == 1) = false := by rw [beq_eq_false_iff_ne]; omega
        have hgt : (1 : Int) < (t.size : Int) := by omega
        go_wp2_with fail
        refine (one_any 3 b c (M + 2 * k) A xs wr hc (by omega) hxs (by omega) (by omega)).mono ?_
        rintro e w1 ⟨⟨r, rfl⟩, hc1, hg1⟩
        have HC1 := Lib.hid hc1
        have HR1 := Lib.hid (hrow.keep hg1 (fun e => by have := Option.some.inj e; omega))
        have HO1 := Lib.hid (own_grown hown hg1 (fun k hk e => by have := own_lt hown k hk; have := Option.some.inj e; omega))
        have HG1 := Lib.hid (grownBy_trans hg hg1)
        have hw1 : wr.heap.size ≤ w1.heap.size := hg1.size
        clear hc1 hg1 hc hrow hown hg hx0
        cases r
        · go_wp2
          go_roundw
          case rel => exact ⟨k + 1, acc, by omega, by go_num, by omega, hco, HR1.out, HO1.out, HC1.out.more (by omega), HG1.out⟩
          case measure => simp [intOf]; omega
        · go_wp2_with fail
          refine (pick_any 4 b c (M + 2 * k + 1) A xs w1 HC1.out (by omega) hxs (by omega) (by omega)).mono ?_
          rintro e w2 ⟨⟨y, hy, rfl⟩, hc2, hg2⟩
          have hb2 : w1.heap.size ≤ w2.heap.size := hg2.size
          have hown2 := own_grown HO1.out hg2 (fun k hk e => by have := own_lt HO1.out k hk; have := Option.some.inj e; omega)
          have HR2 := Lib.hid (HR1.out.keep hg2 (fun e => by have := Option.some.inj e; omega))
          have HG2 := Lib.hid (grownBy_trans HG1.out hg2)
          have HC2 := Lib.hid hc2
          have hsz2 : w.heap.size ≤ w2.heap.size := HG2.out.size
          have hwl2 : w.heap.size + 1 ≤ w2.heap.size := by omega
          have hy1 : (y : Int) < 4 := by omega
          have hmul : (t.size : Int) * (2 + (y : Int)) ≤ 15 := by
            have h1 : (t.size : Int) ≤ 3 := by omega
            have h2 : 2 + (y : Int) ≤ 5 := by omega
            exact Int.le_trans (Int.mul_le_mul h1 h2 (by omega) (by omega)) (by omega)
          have hmul0 : 0 ≤ (t.size : Int) * (2 + (y : Int)) := Int.mul_nonneg (by omega) (by omega)
          generalize hz : (t.size : Int) * (2 + (y : Int)) = z at *
          have hmx : acc.length + 1 ≤ maxLen := by unfold maxLen; omega
          clear hc2 hg2
          go_wp2_with (at_builtin; refine wpList_append_own _ rfl _ _ 43 rfl (w.heap.size + 1) 91 i0 (.agg #[.string .empty, .int .i64 0]) 2 24 Try.underlying43 HI0.out HZ0.out HZ1.out HZ2.out rfl (by decide) _ _ _ rfl (hown2.alloc _) ⟨w2.heap.size, 0, none⟩ 1 1 [.string t, .int .i64 (4 + z)] rfl rfl (two_new _ _ _ _) (by simp [Value.oneCell']) hmx (by omega) (by simp; omega) ?_)
          intro v' w4 hown' hgrow _
          have hal2 : w2.grownBy (w2.alloc (.cells #[.string t, .int .i64 (4 + z)] 91)) (some b) := grownBy_alloc (World.grownBy.refl _ _) _
          have hrw := own_lt hown2
          have HR4 := Lib.hid ((HR2.out.keep hal2 (fun e => by have := Option.some.inj e; omega)).keep hgrow (fun e => by have := hrw _ e; omega))
          have HC4 := Lib.hid ((HC2.out.below ((Below.refl _ _).alloc (Nat.le_refl _) (.cells #[.string t, .int .i64 (4 + z)] 91))).own hgrow (fun k hk => by have := hrw k hk; omega))
          have HG4 := Lib.hid (grownBy_own (grownBy_trans HG2.out hal2) hgrow (fun k hk => by have := hrw k hk; omega))
          have HO4 : Hid (w4.ownsRow (w.heap.size + 1) 91 2 v' (acc ++ [(t, 4 + z)]).length (flat (acc ++ [(t, 4 + z)]))) := by
            rw [List.length_append, flat_snoc]; exact hown'
          have hco' : CodesOk (acc ++ [(t, 4 + z)]) := by
            intro q hq
            by_cases hqa : q < acc.length
            · rw [List.getElem_append_left hqa]; exact hco q hqa
            · have : q = acc.length := by simp at hq; omega
              subst this
              simp
              unfold maxLen; omega
          clear hown' hgrow hown2 hal2
          go_wp2
          go_roundw
          case rel => exact ⟨k + 1, acc ++ [(t, 4 + z)], by omega, by go_num, by simp; omega, hco', HR4.out, HO4.out, HC4.out.more (by omega), HG4.out⟩
          case measure => simp [intOf]; omega
    · obtain rfl : k = 12 := by omega
      have hgw : w.heap.size + 1 ≤ wr.heap.size := by
        obtain ⟨g', off, e, hgl, _⟩ := hrow (by decide)
        obtain ⟨rfl, rfl⟩ : w.heap.size = g' ∧ 0 = off := by simpa using e
        exact hgl
      obtain ⟨B, d, rfl⟩ := own_form_f hown
      by_cases h0 : acc.length = 0
      · have ht : ((acc.length : Int) == 0) = true := by rw [h0]; rfl
        have HC2 := Lib.hid (hc.below ((Below.refl _ _).alloc (Nat.le_refl _) (.cells #[.string ⟨#[97]⟩, .int .i64 9] 91)))
        have HG2 := Lib.hid (grownBy_alloc hg (.cells #[.string ⟨#[97]⟩, .int .i64 9] 91))
        have HO2 : Hid ((wr.alloc (.cells #[.string ⟨#[97]⟩, .int .i64 9] 91)).ownsRow (w.heap.size + 1) 91 2 (.slice (some ⟨wr.heap.size, 0, none⟩) 1 1) 1 (flat [(⟨#[97]⟩, 9)])) :=
          Lib.hid ⟨rfl, .inr ⟨wr.heap.size, 1, _, rfl, hgw, heap_new _ _, Nat.le_refl _, by unfold maxLen; omega, rfl, rfl⟩⟩
        have HZ := Lib.hid h0
        clear h0 hc hg hown hrow
        go_wp2
        go_ret
        exact ⟨⟨[(⟨#[97]⟩, 9)], _, _, rfl, by simp, by simp, fun q hq => by
          obtain rfl : q = 0 := by simp at hq; omega
          show (1 : Nat) ≤ maxLen
          unfold maxLen; omega, HO2.out⟩, HC2.out.more (by omega), HG2.out⟩
      · have ht : ((acc.length : Int) == 0) = false := by rw [beq_eq_false_iff_ne]; omega
        have HO2 := Lib.hid hown
        have HC2 := Lib.hid hc
        have HG2 := Lib.hid hg
        clear hc hg hown hrow
        go_wp2
        go_ret
        exact ⟨⟨acc, B, d, rfl, by omega, by omega, hco, HO2.out⟩, HC2.out.more (by omega), HG2.out⟩
end Go.Proofs.Ytpbkeagpipipmaa.S1
