/-
  spec.l1Cur.spoilt answers some short text; spec.DrawParseFont. (For FnFontForms.)
-/
import Derived.Test.YtiihhilhiknckaaGreatDoorGfo
import Derived.BigQuiet
namespace Go.Proofs.YtiihhilhiknckaaGreatDoor.P
open Go.RowKit
set_option linter.unusedVariables false

theorem drewN_below {B : Nat} {w w' : World} (h : Below B w w') (n : Nat) : Below B w (w'.drewN n) := ⟨h.1, h.2, h.3, h.4, h.5⟩

set_option maxRecDepth 100000 in
set_option maxHeartbeats 2000000 in
theorem spoilt_any (t q : ByteArray) (b c M : Nat) (A : Option Addr) (xs : List UInt8) (w : World) (hc : CurLe w b A c M xs) (hat : M ≤ 999900) (hxs : xs.length ≤ maxLen) (ht : t.size ≤ 100) (hq1 : 1 ≤ q.size) (hq2 : q.size ≤ 200) :
    Calls Tryz.prog 47 #[.pointer (some ⟨b, 0, none⟩), .string t, .string q] w fun e w' => (∃ s : ByteArray, s.size ≤ 110 ∧ e = .returned (.string s)) ∧ CurLe w' b A c (M + 10) xs ∧ w.grownBy w' (some b) := by
  have HC := Lib.hid hc; clear hc
  go_enter Tryz.func47, Tryz.ntmps47
  go_wp2_with fail
  refine (pick_any 2 b c M A xs w HC.out (by omega) hxs (by omega) (by omega)).mono ?_
  rintro e w1 ⟨⟨n0, hn0, rfl⟩, hc1, hg1⟩
  have HC1 := Lib.hid hc1; have HG1 := Lib.hid hg1
  clear hc1 hg1 HC
  have hn1 : (n0 : Int) < 2 := by omega
  go_wp2
  go_loopw [1, 7] (fun tv nv wr => ∃ (s : ByteArray) (n : Nat), tv = .string s ∧ nv = .int .i64 (n : Int) ∧ n ≤ 2 ∧ s.size + n ≤ 102 ∧ CurLe wr b A c (M + 1 + 3 * (2 - n)) xs ∧ w.grownBy wr (some b)) (fun _ nv _ => (intOf nv).toNat)
  case atStart => exact ⟨t, n0 + 1, rfl, by go_num, by omega, by omega, HC1.out.more (by omega), HG1.out⟩
  case round =>
    clear HC1 HG1
    obtain ⟨s, n, rfl, rfl, hn2, hs, hc, hg⟩ := hrel
    by_cases hn : n = 0
    · have hn' : ¬ (0 : Int) < (n : Int) := by omega
      have HC2 := Lib.hid hc; have HG2 := Lib.hid hg
      clear hc hg
      go_wp2
      go_ret
      exact ⟨⟨s, by omega, rfl⟩, HC2.out.more (by omega), HG2.out⟩
    · have hn' : (0 : Int) < (n : Int) := by omega
      by_cases h0 : s.size = 0
      · have h0' : ¬ (0 : Int) < (s.size : Int) := by omega
        have HC2 := Lib.hid hc; have HG2 := Lib.hid hg
        clear hc hg
        go_wp2
        go_ret
        exact ⟨⟨s, by omega, rfl⟩, HC2.out.more (by omega), HG2.out⟩
      · have h0' : (0 : Int) < (s.size : Int) := by omega
        have HC2 := Lib.hid hc; have HG2 := Lib.hid hg
        clear hc hg
        go_wp2_with fail
        refine (pick_any s.size b c _ A xs wr HC2.out (by omega) hxs (by omega) (by omega)).mono ?_
        rintro e w3 ⟨⟨i, hi, rfl⟩, hc3, hg3⟩
        have HC3 := Lib.hid hc3; have HG3 := Lib.hid (grownBy_trans HG2.out hg3)
        clear hc3 hg3 HC2 HG2
        go_wp2_with fail
        refine (pick_any q.size b c _ A xs w3 HC3.out (by omega) hxs hq1 hq2).mono ?_
        rintro e w4 ⟨⟨j, hj, rfl⟩, hc4, hg4⟩
        have HC4 := Lib.hid (hc4.below ((Below.refl _ _).alloc (Nat.le_refl _) (.cells #[.int .u8 (q[j].toNat : Int)] 5)))
        have HG4 := Lib.hid (grownBy_alloc (grownBy_trans HG3.out hg4) (.cells #[.int .u8 (q[j].toNat : Int)] 5))
        clear hc4 hg4 HC3 HG3
        have hji : (j : Int) < (q.size : Int) := by omega
        have hix : ∀ W : World, (Instr.index 9 (.string q) (.int .i64 (j : Int))).run Tryz.prog W = .ok (.int .u8 (q[j].toNat : Int)) W := fun W => by
          rw [run_index_string W 9 q .i64 j Tryz.underlying9, dif_pos ⟨by omega, by omega⟩]
          rfl
        have hcv : ∀ W : World, W = w4.alloc (.cells #[.int .u8 (q[j].toNat : Int)] 5) → (convert 22 9 (.slice (some ⟨w4.heap.size, 0, none⟩) 1 1)).run Tryz.prog W = .ok (.string ⟨([q[j]] : List UInt8).toArray⟩) W := fun W hW => by
          subst hW
          refine run_convert_bytes_back (P := Tryz.prog) _ 22 9 5 ⟨w4.heap.size, 0, none⟩ 1 [q[j]] Tryz.underlying22 Tryz.underlying5 Tryz.underlying9 (fun i hi => ?_)
          have e : (⟨w4.heap.size, 0, none⟩ : Addr).add i = ⟨w4.heap.size, 0 + i, none⟩ := by
            unfold Addr.add
            by_cases hk : i = 0 <;> simp [hk]
          match i, hi with
          | 0, _ => rw [show (⟨w4.heap.size, 0, none⟩ : Addr).add 0 = ⟨w4.heap.size, 0, none⟩ from rfl, cell_of_heap (heap_new _ _)]; rfl
        have hcv := hcv _ rfl
        generalize hqj : q[j] = x at *
        clear hqj
        obtain ⟨X, hX, hXs⟩ : ∃ X : ByteArray, (⟨([x] : List UInt8).toArray⟩ : ByteArray) = X ∧ X.size = 1 := ⟨_, rfl, rfl⟩
        rw [hX] at hcv
        clear hX
        go_wp2_with fail
        refine (pick_any 3 b c _ A xs _ HC4.out (by omega) hxs (by omega) (by omega)).mono ?_
        rintro e w5 ⟨⟨y, hy, rfl⟩, hc5, hg5⟩
        have HC5 := Lib.hid hc5; have HG5 := Lib.hid (grownBy_trans HG4.out hg5)
        clear hc5 hg5 HC4 HG4 hix hcv
        have hi1 : (i : Int) ≤ (s.size : Int) := by omega
        have hi2 : (i : Int) + 1 ≤ (s.size : Int) := by omega
        have hX1 : (⟨#[x]⟩ : ByteArray).size = 1 := rfl
        have ha : (s.extract 0 i).size = i := by rw [ByteArray.size_extract]; omega
        have hb : (s.extract i s.size).size = s.size - i := by rw [ByteArray.size_extract]; omega
        have hb1 : (s.extract (i + 1) s.size).size = s.size - (i + 1) := by rw [ByteArray.size_extract]; omega
        rcases (by omega : y = 0 ∨ y = 1 ∨ y = 2) with rfl | rfl | rfl
        · go_wp2_with fail
          go_quiet (fail)
          rename_i nq
          have HD := drewN_below (Below.refl w5.heap.size w5) nq
          have HC6 := Lib.hid (HC5.out.below HD)
          have HG6 := Lib.hid (grown_below HG5.out HD)
          clear HD HC5 HG5
          go_wp2
          go_roundw
          case rel => exact ⟨s.extract 0 i ++ ⟨#[x]⟩ ++ s.extract i s.size, n - 1, rfl, by go_num, by omega, by rw [ByteArray.size_append, ByteArray.size_append, ha, hb, hX1]; omega, HC6.out.more (by omega), HG6.out⟩
          case measure => simp [intOf]; omega
        · go_wp2_with fail
          go_quiet (fail)
          rename_i nq
          have HD := drewN_below (Below.refl w5.heap.size w5) nq
          have HC6 := Lib.hid (HC5.out.below HD)
          have HG6 := Lib.hid (grown_below HG5.out HD)
          clear HD HC5 HG5
          go_wp2
          go_roundw
          case rel => exact ⟨s.extract 0 i ++ ⟨#[x]⟩ ++ s.extract (i + 1) s.size, n - 1, rfl, by go_num, by omega, by rw [ByteArray.size_append, ByteArray.size_append, ha, hb1, hX1]; omega, HC6.out.more (by omega), HG6.out⟩
          case measure => simp [intOf]; omega
        · go_wp2_with fail
          go_quiet (fail)
          rename_i nq
          have HD := drewN_below (Below.refl w5.heap.size w5) nq
          have HC6 := Lib.hid (HC5.out.below HD)
          have HG6 := Lib.hid (grown_below HG5.out HD)
          clear HD HC5 HG5
          go_wp2
          go_roundw
          case rel => exact ⟨s.extract 0 i ++ s.extract (i + 1) s.size, n - 1, rfl, by go_num, by omega, by rw [ByteArray.size_append, ha, hb1]; omega, HC6.out.more (by omega), HG6.out⟩
          case measure => simp [intOf]; omega

def pfTexts : List ByteArray := [⟨#[]⟩, ⟨#[59]⟩, ⟨#[97, 57, 59]⟩, ⟨#[97, 48, 57, 59]⟩, ⟨#[98, 57, 59, 97, 57, 59]⟩, ⟨#[97, 57]⟩, ⟨#[57, 59]⟩, ⟨#[97, 98, 99, 100, 57, 59]⟩, ⟨#[102, 54, 59, 102, 105, 49, 48, 59, 105, 53, 59, 110, 49, 48, 59]⟩]
theorem pfTexts_size : ∀ s ∈ pfTexts, s.size ≤ 20 := by
  intro s hs
  simp [pfTexts] at hs
  rcases hs with rfl | rfl | rfl | rfl | rfl | rfl | rfl | rfl | rfl <;> decide

set_option maxRecDepth 100000 in
set_option maxHeartbeats 2000000 in
theorem drawPf_any (A : Option Addr) (c : Nat) (xs : List UInt8) (w : World) (hx : BytesIn w A xs) (hxs : xs.length ≤ maxLen) :
    Calls Tryz.prog 21 #[.slice A xs.length c] w fun e w' => ∃ s : ByteArray, e = .returned (.string s) ∧ s.size ≤ 1000 ∧ Below w.heap.size w w' := by
  have HCUR := Lib.hid (cur_new hx c)
  have HB0 := Lib.hid ((Below.refl w.heap.size w).alloc (Nat.le_refl _) (.cells #[.slice A xs.length c, .int .i64 0, .int .u64 0] 51))
  clear hx
  go_enter Tryz.func21, Tryz.ntmps21
  go_wp2_with fail
  refine (font_lo w.heap.size c 0 A xs _ HCUR.out (by omega) hxs).mono ?_
  rintro e w1 ⟨⟨f, B, d, rfl, hf1, hf12, hso, hown⟩, hc1, hg1⟩
  have hl1 := hc1.lt
  have HC1 := Lib.hid hc1
  have HB1 := Lib.hid (HB0.out.grown hg1 HB0.out.size (fun k hk => by have := Option.some.inj hk; omega))
  have HO1 := Lib.hid (own_in_f hown)
  clear hc1 hg1 hown HB0 HCUR
  go_wp2_with fail
  refine (tyText_lo f B d 0 _ HO1.out hso (by omega)).mono ?_
  rintro e w2 ⟨rfl, hb2⟩
  have hts : (baOf (ftK f f.length)).size ≤ 72 := by have := ftK_lo hso f.length (Nat.le_refl _); rw [baOf_size]; omega
  generalize baOf (ftK f f.length) = t at *
  have HC2 := Lib.hid (HC1.out.below hb2)
  have HB2 := Lib.hid (HB1.out.trans (hb2.mono HB1.out.size))
  have hl2 := HC2.out.lt
  clear hb2 HB1 HC1 HO1
  go_wp2_with fail
  refine (pick_any 4 w.heap.size c _ A xs w2 HC2.out (by omega) hxs (by omega) (by omega)).mono ?_
  rintro e w3 ⟨⟨y, hy, rfl⟩, hc3, hg3⟩
  have HC3 := Lib.hid hc3
  have HB3 := Lib.hid (HB2.out.grown hg3 HB2.out.size (fun k hk => by have := Option.some.inj hk; omega))
  have hl3 := hc3.lt
  clear hc3 hg3 HB2 HC2
  rcases (by omega : y = 0 ∨ y = 1 ∨ 2 ≤ y) with rfl | rfl | h2
  · go_wp2_with fail
    refine (spoilt_any t ⟨#[97, 98, 122, 59, 48, 49, 53, 57]⟩ w.heap.size c _ A xs w3 HC3.out (by omega) hxs (by omega) (by decide) (by decide)).mono ?_
    rintro e w4 ⟨⟨s, hs, rfl⟩, hc4, hg4⟩
    have HB4 := Lib.hid (HB3.out.grown hg4 HB3.out.size (fun k hk => by have := Option.some.inj hk; omega))
    clear hc4 hg4
    go_wp2
    go_ret
    exact ⟨s, rfl, by omega, HB4.out⟩
  · have HC4 := Lib.hid (HC3.out.below ((Below.refl _ _).alloc (Nat.le_refl _) (.cells (strs pfTexts).toArray 9)))
    have HB4 := Lib.hid (HB3.out.alloc HB3.out.size (.cells (strs pfTexts).toArray 9))
    have HROW := Lib.hid (row_strs w3 pfTexts)
    go_wp2_with fail
    refine (of_any pfTexts w3.heap.size _ w.heap.size c _ A xs _ HC4.out (by omega) hxs HROW.out (by omega) (by decide) (by decide)).mono ?_
    rintro e w5 ⟨⟨s, hs, rfl⟩, hc5, hg5⟩
    have HB5 := Lib.hid (HB4.out.grown hg5 HB4.out.size (fun k hk => by have := Option.some.inj hk; omega))
    have := pfTexts_size s hs
    clear hc5 hg5
    go_wp2
    go_ret
    exact ⟨s, rfl, by omega, HB5.out⟩
  · have e0 : ((y : Int) == 0) = false := by rw [beq_eq_false_iff_ne]; omega
    have e1 : ((y : Int) == 1) = false := by rw [beq_eq_false_iff_ne]; omega
    go_wp2
    go_ret
    exact ⟨t, rfl, by omega, HB3.out⟩
end Go.Proofs.YtiihhilhiknckaaGreatDoor.P
