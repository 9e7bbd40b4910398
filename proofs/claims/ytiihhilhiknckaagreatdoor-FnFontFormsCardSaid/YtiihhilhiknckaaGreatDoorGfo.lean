/-
  spec.l1Cur.font draws sorts whose sets are small; spec.tyText of them; spec.l1Cur.spoilt; spec.DrawParseFont answers some short text. (For FnFontForms.)
-/
import Derived.Test.YtiihhilhiknckaaGreatDoorGdr
import Derived.Test.YtiihhilhiknckaaGreatDoorQf
import Derived.BigQuiet
namespace Go.Proofs.YtiihhilhiknckaaGreatDoor.P
open Go.RowKit
set_option linter.unusedVariables false

def SetsOk (f : List (ByteArray × Int)) : Prop := ∀ k (h : k < f.length), f[k].1.size ≤ 3 ∧ 1 ≤ f[k].2 ∧ f[k].2 ≤ 54
theorem numL_two {z : Int} (h0 : 0 ≤ z) (h1 : z ≤ 54) : (numL z).length ≤ 2 := by
  have h : ∀ n : Fin 55, (numL ((n.val : Nat) : Int)).length ≤ 2 := by decide +kernel
  have := h ⟨z.toNat, by omega⟩
  rwa [show ((z.toNat : Nat) : Int) = z by omega] at this
theorem ftK_lo {f : List (ByteArray × Int)} (h : SetsOk f) : ∀ k, k ≤ f.length → (ftK f k).length ≤ k * 6
  | 0, _ => by simp [ftK]
  | k + 1, hk => by
    have ih := ftK_lo h k (by omega)
    obtain ⟨h1, h2, h3⟩ := h k (by omega)
    have hn := numL_two (z := f[k].2) (by omega) h3
    have e : f[k].1.data.toList.length = f[k].1.size := Array.length_toList
    rw [ftK_step (by omega), List.length_append, List.length_append, List.length_append, e]
    simp only [List.length_cons, List.length_nil]
    omega

set_option maxRecDepth 100000 in
set_option maxHeartbeats 1000000 in
theorem font_lo (b c M : Nat) (A : Option Addr) (xs : List UInt8) (w : World) (hc : CurLe w b A c M xs) (hat : M ≤ 999900) (hxs : xs.length ≤ maxLen) :
    Calls Tryz.prog 45 #[.pointer (some ⟨b, 0, none⟩)] w fun e w' =>
      (∃ (f : List (ByteArray × Int)) (B : Option Addr) (d : Nat), e = .returned (.slice B f.length d) ∧ 1 ≤ f.length ∧ f.length ≤ 12 ∧ SetsOk f ∧ w'.ownsRow (w.heap.size + 1) 25 2 (.slice B f.length d) f.length (flat f)) ∧
      CurLe w' b A c (M + 24) xs ∧ w.grownBy w' (some b) := by
  have hbl := hc.lt
  have HC := Lib.hid (hc.below ((Below.refl _ _).alloc (Nat.le_refl _) (.cells (strs fontTexts).toArray 9)))
  have HG := Lib.hid (grownBy_alloc (World.grownBy.refl w (some b)) (.cells (strs fontTexts).toArray 9))
  have HROW := Lib.hid (row_strs w fontTexts)
  clear hc
  obtain ⟨i0, hi0', hz0, hz1, hz2⟩ := info_parts info39
  have HI0 := Lib.hid hi0'; have HZ0 := Lib.hid hz0; have HZ1 := Lib.hid hz1; have HZ2 := Lib.hid hz2
  clear hi0' hz0 hz1 hz2
  go_enter Tryz.func45, Tryz.ntmps45
  go_wp2
  go_loopw [3, 8] (fun v i wr => ∃ (k : Nat) (acc : List (ByteArray × Int)), k ≤ 12 ∧ i = .int .i64 (k : Int) ∧ acc.length ≤ k ∧ SetsOk acc ∧ StrsIn wr (some ⟨w.heap.size, 0, none⟩) fontTexts ∧ wr.ownsRow (w.heap.size + 1) 25 2 v acc.length (flat acc) ∧ CurLe wr b A c (M + 2 * k) xs ∧ w.grownBy wr (some b)) (fun _ i _ => 12 - (intOf i).toNat)
  case atStart => exact ⟨0, [], Nat.zero_le _, rfl, Nat.le_refl _, fun k h => absurd h (by simp), HROW.out, own_nil _ _ _ _, HC.out, HG.out⟩
  case round =>
    clear HC HG HROW
    obtain ⟨k, acc, hk, rfl, hal, hco, hrow, hown, hc, hg⟩ := hrel
    by_cases hlt : k < 12
    · obtain ⟨g', off, e, hgl, hcs⟩ := hrow (by decide)
      obtain ⟨rfl, rfl⟩ : w.heap.size = g' ∧ 0 = off := by simpa using e
      have hx0 := hcs k hlt
      rw [Nat.zero_add] at hx0
      obtain ⟨t1, t3⟩ := fontTexts_size _ (List.getElem_mem hlt)
      generalize fontTexts[k]'hlt = t at *
      clear hcs e
      have hk1 : (k : Int) < 12 := by omega
      have hgw : w.heap.size ≤ wr.heap.size := hg.size
      by_cases h1 : t.size = 1
      · have ht : ((t.size : Int) == 1) = true := by rw [h1]; rfl
        have hgt : ¬ (1 : Int) < (t.size : Int) := by omega
        have HS1 := Lib.hid h1
        have HSZ : Hid (t.size ≤ 3) := t3
        clear h1
        go_wp2_with fail
        refine (one_any 12 b c (M + 2 * k) A xs wr hc (by omega) hxs (by omega) (by omega)).mono ?_
        rintro e w1 ⟨⟨r, rfl⟩, hc1, hg1⟩
        have HC1 := Lib.hid hc1
        have HR1 := Lib.hid (hrow.keep hg1 (fun e => by have := Option.some.inj e; omega))
        have HO1 := Lib.hid (own_grown hown hg1 (fun k hk e => by have := own_lt hown k hk; have := Option.some.inj e; omega))
        have HG1 := Lib.hid (grownBy_trans hg hg1)
        have hw1 : wr.heap.size ≤ w1.heap.size := hg1.size
        clear hc1 hg1 hc hrow hown hg hx0
        cases r
        · go_wp2_with fail
          refine (pick_any 4 b c (M + 2 * k + 1) A xs w1 HC1.out (by omega) hxs (by omega) (by omega)).mono ?_
          rintro e w2 ⟨⟨y, hy, rfl⟩, hc2, hg2⟩
          have hb2 : w1.heap.size ≤ w2.heap.size := hg2.size
          have hown2 := own_grown HO1.out hg2 (fun k hk e => by have := own_lt HO1.out k hk; have := Option.some.inj e; omega)
          have HR2 := Lib.hid (HR1.out.keep hg2 (fun e => by have := Option.some.inj e; omega))
          have HG2 := Lib.hid (grownBy_trans HG1.out hg2)
          have HC2 := Lib.hid hc2
          have hsz2 : w.heap.size ≤ w2.heap.size := HG2.out.size
          have hwl2 : w.heap.size + 1 ≤ w2.heap.size := by omega
          have hy1 : (y : Int) < 4 := by omega
          have hmul : (t.size : Int) * (2 + (y : Int)) ≤ 15 := by
            have h1 : (t.size : Int) ≤ 3 := by omega
            have h2 : 2 + (y : Int) ≤ 5 := by omega
            exact Int.le_trans (Int.mul_le_mul h1 h2 (by omega) (by omega)) (by omega)
          have hmul0 : 0 ≤ (t.size : Int) * (2 + (y : Int)) := Int.mul_nonneg (by omega) (by omega)
          generalize hz : (t.size : Int) * (2 + (y : Int)) = z at *
          have hmx : acc.length + 1 ≤ maxLen := by unfold maxLen; omega
          clear hc2 hg2
          go_wp2_with (at_builtin; refine wpList_append_own _ rfl _ _ 23 rfl (w.heap.size + 1) 25 i0 (.agg #[.string .empty, .int .i64 0]) 2 24 Tryz.underlying23 HI0.out HZ0.out HZ1.out HZ2.out rfl (by decide) _ _ _ rfl (hown2.alloc _) ⟨w2.heap.size, 0, none⟩ 1 1 [.string t, .int .i64 (4 + z)] rfl rfl (two_new _ _ _ _) (by simp [Value.oneCell']) hmx (by omega) (by simp; omega) ?_)
          intro v' w4 hown' hgrow _
          have hal2 : w2.grownBy (w2.alloc (.cells #[.string t, .int .i64 (4 + z)] 25)) (some b) := grownBy_alloc (World.grownBy.refl _ _) _
          have hrw := own_lt hown2
          have HR4 := Lib.hid ((HR2.out.keep hal2 (fun e => by have := Option.some.inj e; omega)).keep hgrow (fun e => by have := hrw _ e; omega))
          have HC4 := Lib.hid ((HC2.out.below ((Below.refl _ _).alloc (Nat.le_refl _) (.cells #[.string t, .int .i64 (4 + z)] 25))).own hgrow (fun k hk => by have := hrw k hk; omega))
          have HG4 := Lib.hid (grownBy_own (grownBy_trans HG2.out hal2) hgrow (fun k hk => by have := hrw k hk; omega))
          have HO4 : Hid (w4.ownsRow (w.heap.size + 1) 25 2 v' (acc ++ [(t, 4 + z)]).length (flat (acc ++ [(t, 4 + z)]))) := by
            rw [List.length_append, flat_snoc]; exact hown'
          have hco' : SetsOk (acc ++ [(t, 4 + z)]) := by
            intro q hq
            by_cases hqa : q < acc.length
            · rw [List.getElem_append_left hqa]; exact hco q hqa
            · have : q = acc.length := by simp at hq; omega
              subst this
              simp
              omega
          clear hown' hgrow hown2 hal2
          go_wp2
          go_roundw
          case rel => exact ⟨k + 1, acc ++ [(t, 4 + z)], by omega, by go_num, by simp; omega, hco', HR4.out, HO4.out, HC4.out.more (by omega), HG4.out⟩
          case measure => simp [intOf]; omega
        · go_wp2
          go_roundw
          case rel => exact ⟨k + 1, acc, by omega, by go_num, by omega, hco, HR1.out, HO1.out, HC1.out.more (by omega), HG1.out⟩
          case measure => simp [intOf]; omega
      · have ht : ((t.size : Int) == 1) = false := by rw [beq_eq_false_iff_ne]; omega
        have hgt : (1 : Int) < (t.size : Int) := by omega
        go_wp2_with fail
        refine (one_any 3 b c (M + 2 * k) A xs wr hc (by omega) hxs (by omega) (by omega)).mono ?_
        rintro e w1 ⟨⟨r, rfl⟩, hc1, hg1⟩
        have HC1 := Lib.hid hc1
        have HR1 := Lib.hid (hrow.keep hg1 (fun e => by have := Option.some.inj e; omega))
        have HO1 := Lib.hid (own_grown hown hg1 (fun k hk e => by have := own_lt hown k hk; have := Option.some.inj e; omega))
        have HG1 := Lib.hid (grownBy_trans hg hg1)
        have hw1 : wr.heap.size ≤ w1.heap.size := hg1.size
        clear hc1 hg1 hc hrow hown hg hx0
        cases r
        · go_wp2
          go_roundw
          case rel => exact ⟨k + 1, acc, by omega, by go_num, by omega, hco, HR1.out, HO1.out, HC1.out.more (by omega), HG1.out⟩
          case measure => simp [intOf]; omega
        · go_wp2_with fail
          refine (pick_any 4 b c (M + 2 * k + 1) A xs w1 HC1.out (by omega) hxs (by omega) (by omega)).mono ?_
          rintro e w2 ⟨⟨y, hy, rfl⟩, hc2, hg2⟩
          have hb2 : w1.heap.size ≤ w2.heap.size := hg2.size
          have hown2 := own_grown HO1.out hg2 (fun k hk e => by have := own_lt HO1.out k hk; have := Option.some.inj e; omega)
          have HR2 := Lib.hid (HR1.out.keep hg2 (fun e => by have := Option.some.inj e; omega))
          have HG2 := Lib.hid (grownBy_trans HG1.out hg2)
          have HC2 := Lib.hid hc2
          have hsz2 : w.heap.size ≤ w2.heap.size := HG2.out.size
          have hwl2 : w.heap.size + 1 ≤ w2.heap.size := by omega
          have hy1 : (y : Int) < 4 := by omega
          have hmul : (t.size : Int) * (2 + (y : Int)) ≤ 15 := by
            have h1 : (t.size : Int) ≤ 3 := by omega
            have h2 : 2 + (y : Int) ≤ 5 := by omega
            exact Int.le_trans (Int.mul_le_mul h1 h2 (by omega) (by omega)) (by omega)
          have hmul0 : 0 ≤ (t.size : Int) * (2 + (y : Int)) := Int.mul_nonneg (by omega) (by omega)
          generalize hz : (t.size : Int) * (2 + (y : Int)) = z at *
          have hmx : acc.length + 1 ≤ maxLen := by unfold maxLen; omega
          clear hc2 hg2
          go_wp2_with (at_builtin; refine wpList_append_own _ rfl _ _ 23 rfl (w.heap.size + 1) 25 i0 (.agg #[.string .empty, .int .i64 0]) 2 24 Tryz.underlying23 HI0.out HZ0.out HZ1.out HZ2.out rfl (by decide) _ _ _ rfl (hown2.alloc _) ⟨w2.heap.size, 0, none⟩ 1 1 [.string t, .int .i64 (4 + z)] rfl rfl (two_new _ _ _ _) (by simp [Value.oneCell']) hmx (by omega) (by simp; omega) ?_)
          intro v' w4 hown' hgrow _
          have hal2 : w2.grownBy (w2.alloc (.cells #[.string t, .int .i64 (4 + z)] 25)) (some b) := grownBy_alloc (World.grownBy.refl _ _) _
          have hrw := own_lt hown2
          have HR4 := Lib.hid ((HR2.out.keep hal2 (fun e => by have := Option.some.inj e; omega)).keep hgrow (fun e => by have := hrw _ e; omega))
          have HC4 := Lib.hid ((HC2.out.below ((Below.refl _ _).alloc (Nat.le_refl _) (.cells #[.string t, .int .i64 (4 + z)] 25))).own hgrow (fun k hk => by have := hrw k hk; omega))
          have HG4 := Lib.hid (grownBy_own (grownBy_trans HG2.out hal2) hgrow (fun k hk => by have := hrw k hk; omega))
          have HO4 : Hid (w4.ownsRow (w.heap.size + 1) 25 2 v' (acc ++ [(t, 4 + z)]).length (flat (acc ++ [(t, 4 + z)]))) := by
            rw [List.length_append, flat_snoc]; exact hown'
          have hco' : SetsOk (acc ++ [(t, 4 + z)]) := by
            intro q hq
            by_cases hqa : q < acc.length
            · rw [List.getElem_append_left hqa]; exact hco q hqa
            · have : q = acc.length := by simp at hq; omega
              subst this
              simp
              omega
          clear hown' hgrow hown2 hal2
          go_wp2
          go_roundw
          case rel => exact ⟨k + 1, acc ++ [(t, 4 + z)], by omega, by go_num, by simp; omega, hco', HR4.out, HO4.out, HC4.out.more (by omega), HG4.out⟩
          case measure => simp [intOf]; omega
    · obtain rfl : k = 12 := by omega
      have hgw : w.heap.size + 1 ≤ wr.heap.size := by
        obtain ⟨g', off, e, hgl, _⟩ := hrow (by decide)
        obtain ⟨rfl, rfl⟩ : w.heap.size = g' ∧ 0 = off := by simpa using e
        exact hgl
      obtain ⟨B, d, rfl⟩ := own_form_f hown
      by_cases h0 : acc.length = 0
      · have ht : ((acc.length : Int) == 0) = true := by rw [h0]; rfl
        have HC2 := Lib.hid (hc.below ((Below.refl _ _).alloc (Nat.le_refl _) (.cells #[.string ⟨#[97]⟩, .int .i64 9] 25)))
        have HG2 := Lib.hid (grownBy_alloc hg (.cells #[.string ⟨#[97]⟩, .int .i64 9] 25))
        have HO2 : Hid ((wr.alloc (.cells #[.string ⟨#[97]⟩, .int .i64 9] 25)).ownsRow (w.heap.size + 1) 25 2 (.slice (some ⟨wr.heap.size, 0, none⟩) 1 1) 1 (flat [(⟨#[97]⟩, 9)])) :=
          Lib.hid ⟨rfl, .inr ⟨wr.heap.size, 1, _, rfl, hgw, heap_new _ _, Nat.le_refl _, by unfold maxLen; omega, rfl, rfl⟩⟩
        have HZ := Lib.hid h0
        clear h0 hc hg hown hrow
        go_wp2
        go_ret
        exact ⟨⟨[(⟨#[97]⟩, 9)], _, _, rfl, by simp, by simp, fun q hq => by
          obtain rfl : q = 0 := by simp at hq; omega
          show (1 : Nat) ≤ 3 ∧ (1 : Int) ≤ 9 ∧ (9 : Int) ≤ 54
          decide, HO2.out⟩, HC2.out.more (by omega), HG2.out⟩
      · have ht : ((acc.length : Int) == 0) = false := by rw [beq_eq_false_iff_ne]; omega
        have HO2 := Lib.hid hown
        have HC2 := Lib.hid hc
        have HG2 := Lib.hid hg
        clear hc hg hown hrow
        go_wp2
        go_ret
        exact ⟨⟨acc, B, d, rfl, by omega, by omega, hco, HO2.out⟩, HC2.out.more (by omega), HG2.out⟩

set_option maxRecDepth 100000 in
set_option maxHeartbeats 2000000 in
theorem tyText_lo (f : List (ByteArray × Int)) (A : Option Addr) (c : Nat) (lo : Nat) (w : World) (hf : SortsIn w lo A f) (hg : SetsOk f) (h32 : f.length ≤ 32) :
    Calls Tryz.prog 37 #[.slice A f.length c] w fun e w' => e = .returned (.string (baOf (ftK f f.length))) ∧ Below w.heap.size w w' := by
  have HF := Lib.hid hf; clear hf
  have HG := Lib.hid hg; clear hg
  have HT0 : Hid (baOf (ftK f 0) = ⟨#[]⟩) := by show _ = _; rfl
  go_enter Tryz.func37, Tryz.ntmps37
  go_wp2
  rw [← HT0.out]
  go_loopw [3, 8] (fun t i wr => ∃ k : Nat, k ≤ f.length ∧ i = .int .i64 k ∧ t = .string (baOf (ftK f k)) ∧ Below w.heap.size w wr) (fun _ i _ => f.length - (intOf i).toNat)
  case atStart => exact ⟨0, Nat.zero_le _, rfl, rfl, Below.refl _ _⟩
  case round =>
    obtain ⟨k, hk, rfl, rfl, hb⟩ := hrel
    by_cases hlt : k < f.length
    · obtain ⟨b, off, rfl, _, hbl, hc⟩ := HF.out (by omega)
      obtain ⟨hc0, hc1⟩ := hc k hlt
      clear hc
      rw [← hb.cell (p := ⟨b, off + k * 2, none⟩) hbl] at hc0
      rw [← hb.cell (p := ⟨b, off + k * 2 + 1, none⟩) hbl] at hc1
      obtain ⟨z0, z1, z2⟩ := HG.out k hlt
      have HY := Lib.hid (ba_step hlt)
      have hnl : (baOf (numL f[k].2)).size ≤ 100001 := numL_len (by omega)
      have htl : (baOf (ftK f k)).size ≤ 3300000 := by have := ftK_lo HG.out k hk; rw [baOf_size]; omega
      obtain ⟨D, hD⟩ : ∃ D, baOf (numL f[k].2) = D := ⟨_, rfl⟩
      rw [hD] at hnl HY
      have HD := Lib.hid hD; clear hD
      generalize f[k].1 = s at *
      generalize f[k].2 = z at *
      generalize baOf (ftK f k) = T at *
      have hs1 : ¬ (9223372036854775807 : Nat) < s.size + D.size := by omega
      have hs2 : ¬ (9223372036854775807 : Nat) < (s ++ D).size + 1 := by rw [ByteArray.size_append]; omega
      have hs3 : ¬ (9223372036854775807 : Nat) < T.size + (s ++ D ++ ⟨#[59]⟩).size := by rw [ByteArray.size_append, ByteArray.size_append]; show ¬ _ < T.size + (_ + 1); omega
      have hs4 : ¬ (9223372036854775807 : Nat) < s.size + D.size + 1 := by omega
      have hs5 : ¬ (9223372036854775807 : Nat) < T.size + (s.size + D.size + 1) := by omega
      go_wp2_with fail
      obtain ⟨W0, hW0⟩ : ∃ W0 : World, W0 = wr.alloc (.cells #[.string s, .int .i64 z] 25) := ⟨_, rfl⟩
      rw [← hW0]
      have hq0 : W0.cell? ⟨wr.heap.size, 0, none⟩ = some (.string s) := by rw [hW0]; simp
      have hq1 : W0.cell? ⟨wr.heap.size, 1, none⟩ = some (.int .i64 z) := by rw [hW0]; simp
      have hb0 : Below w.heap.size w W0 := by rw [hW0]; exact hb.alloc hb.size _
      have hz0 : wr.heap.size < W0.heap.size := by rw [hW0]; simp
      clear hc0 hc1 hW0
      have hx0 := KeptW.cell hq0 hz0
      have hx1 := KeptW.cell hq1 hz0
      refine region_kept W0.heap.size (by kernel_rfl) (by kernel_rfl) ?_
      repeat (go_big_quiet_step ((go_at_call 58; exact kept_call _ (Nat.le_refl _) (num_is _ _ _ (by omega) (by omega) HD))))
      refine wpQuiet_nil ?_
      intro w1 hb1
      have hb' : Below w.heap.size w w1 := hb0.trans (hb1.mono hb0.size)
      clear hb hb0 hb1 hx0 hx1 hq0 hq1 hz0
      have HB' := Lib.hid hb'; clear hb'
      go_wp2
      go_roundw
      case rel => exact ⟨k + 1, by omega, by go_num, by rw [HY.out], HB'.out⟩
      case measure => simp [intOf]; omega
    · obtain rfl : k = f.length := by omega
      go_wp2
      go_ret
      exact ⟨rfl, hb⟩

end Go.Proofs.YtiihhilhiknckaaGreatDoor.P
