/-
  The draws that FnWeights makes of chapter 3: spec.DrawScarcestSort, spec.DrawWeightOfTypes, spec.DrawBillText.
-/
import Derived.Test.YtnbnegkoanidmaaGreatDoorDri
import Derived.Test.YtnbnegkoanidmaaGreatDoorTim
namespace Go.Proofs.YtnbnegkoanidmaaGreatDoor.S1
open Go.RowKit
set_option linter.unusedVariables false

theorem drawSca_any (A : Option Addr) (c : Nat) (xs : List UInt8) (w : World) (hx : BytesIn w A xs) (hxs : xs.length ≤ maxLen) :
    Calls Tryz.prog 9 #[.slice A xs.length c] w fun e w' => ∃ vs, e = .returned (.tuple vs.toArray) ∧ DrawTo w w' vs := by
  go_enter Tryz.func9, Tryz.ntmps9
  go_wp2_with fail
  refine (drawEn_any A c xs w hx hxs).mono ?_
  rintro e w1 ⟨vs, rfl, f, B, d, l, B2, d2, ws, B3, d3, rfl, h⟩
  go_wp2
  go_ret3
  exact ⟨[.slice B f.length d, .slice B2 l.length d2, .slice B3 ws.length d3], rfl, f, B, d, l, B2, d2, ws, B3, d3, rfl, h⟩

def odd3 : List Int := [9, 0, 73]
set_option maxRecDepth 100000 in
set_option maxHeartbeats 1000000 in
theorem drawWei_any (A : Option Addr) (c : Nat) (xs : List UInt8) (w : World) (hx : BytesIn w A xs) (hxs : xs.length ≤ maxLen) :
    Calls Tryz.prog 13 #[.slice A xs.length c] w fun e w' => ∃ (f : List (ByteArray × Int)) (B : Option Addr) (d : Nat) (l : List Int) (B2 : Option Addr) (d2 : Nat) (t : Int), e = .returned (.tuple #[.slice B f.length d, .slice B2 l.length d2, .int .i64 t]) ∧ f.length ≤ 40 ∧ CodesOk f ∧ l.length ≤ 41 ∧ SortsIn w' 0 B f ∧ IntsIn w' B2 l ∧ Below w.heap.size w w' := by
  have hcur : CurLe (w.alloc (.cells #[.slice A xs.length c, .int .i64 0, .int .u64 0] 48)) w.heap.size A c 0 xs := by
    refine ⟨⟨0, Nat.le_refl _, 0, by omega, heap_new _ _⟩, fun hn => ?_⟩
    obtain ⟨b', off, e, hl, hc⟩ := hx hn
    exact ⟨b', off, e, hl, fun k hk => (((Below.refl w.heap.size w).alloc (Nat.le_refl _) _).cell (by show b' < _; exact hl)).trans (hc k hk)⟩
  have hb0 : Below w.heap.size w (w.alloc (.cells #[.slice A xs.length c, .int .i64 0, .int .u64 0] 48)) := (Below.refl _ _).alloc (Nat.le_refl _) _
  have HCUR := Lib.hid hcur
  have HB0 := Lib.hid hb0
  clear hcur hb0 hx
  go_enter Tryz.func13, Tryz.ntmps13
  go_wp2_with fail
  refine (anyFont_any w.heap.size c 0 A xs _ HCUR.out (by omega) hxs).mono ?_
  rintro e w1 ⟨⟨f, B, d, rfl, hfl, hco, hown⟩, hc1, hg1⟩
  have HC1 := Lib.hid hc1
  have HB1 := Lib.hid (HB0.out.grown hg1 HB0.out.size (fun k hk => by have := Option.some.inj hk; omega))
  have HO1 := Lib.hid hown
  have hz0 : w.heap.size < (w.alloc (.cells #[.slice A xs.length c, .int .i64 0, .int .u64 0] 48)).heap.size := by simp
  have hz1 : w.heap.size + 1 ≤ w1.heap.size := by have := hg1.size; simp at this; omega
  have hf0 : ∀ k, (Value.slice B f.length d).ownBlock = some k → w.heap.size < k := fun k hk => by have := own_lt hown k hk; omega
  have HF0 := Lib.hid hf0
  clear hc1 hg1 hown HB0 HCUR hz0 hf0
  go_wp2_with fail
  refine (typeStock_any f B d w.heap.size c (0 + 30) A xs w1 HC1.out (by omega) hxs hfl).mono ?_
  rintro e w2 ⟨⟨l, B2, d2, rfl, hll, hown2⟩, hc2, hg2⟩
  have HC2 := Lib.hid hc2
  have HB2 := Lib.hid (HB1.out.grown hg2 HB1.out.size (fun k hk => by have := Option.some.inj hk; omega))
  have HO2 := Lib.hid (own_grown HO1.out hg2 (fun k hk e => by have h1 := HF0.out k hk; have := Option.some.inj e; omega))
  have HI2 := Lib.hid hown2
  have hi0 : ∀ k, (Value.slice B2 l.length d2).ownBlock = some k → w.heap.size < k := fun k hk => by have := own_lt hown2 k hk; omega
  have HI0 := Lib.hid hi0
  clear hc2 hg2 hown2 HB1 HC1 HO1 hi0
  have HC4 := Lib.hid (HC2.out.below ((Below.refl _ _).alloc (Nat.le_refl _) (.cells (intsZ odd3).toArray 3)))
  have HB4 := Lib.hid (HB2.out.alloc HB2.out.size (.cells (intsZ odd3).toArray 3))
  have HO4 := Lib.hid (own_below HO2.out ((Below.refl _ _).alloc (Nat.le_refl _) (.cells (intsZ odd3).toArray 3)))
  have HI4 := Lib.hid (own_below HI2.out ((Below.refl _ _).alloc (Nat.le_refl _) (.cells (intsZ odd3).toArray 3)))
  have HROW := Lib.hid (row_ints w2 odd3)
  have hbl2 : w.heap.size < w2.heap.size := HC2.out.lt
  clear HB2 HO2 HI2 HC2
  go_wp2_with fail
  refine (among_any odd3 w2.heap.size _ w.heap.size c (0 + 30 + 50) A xs _ HC4.out (by omega) hxs HROW.out (by omega) (by decide) (by decide)).mono ?_
  rintro e w5 ⟨⟨z, hz, rfl⟩, hc5, hg5⟩
  have HC6 := Lib.hid (hc5.below ((Below.refl _ _).alloc (Nat.le_refl _) (.cells (intsZ [1, 6, 8, 10, 12, 72, z]).toArray 3)))
  have hb5 := HB4.out.grown hg5 HB4.out.size (fun k hk => by have := Option.some.inj hk; omega)
  have HB6 := Lib.hid (hb5.alloc hb5.size (.cells (intsZ [1, 6, 8, 10, 12, 72, z]).toArray 3))
  have HO6 := Lib.hid (own_below (own_grown HO4.out hg5 (fun k hk e => by have h1 := HF0.out k hk; have := Option.some.inj e; omega)) ((Below.refl _ _).alloc (Nat.le_refl _) (.cells (intsZ [1, 6, 8, 10, 12, 72, z]).toArray 3)))
  have HI6 := Lib.hid (own_below (own_grown HI4.out hg5 (fun k hk e => by have h1 := HI0.out k hk; have := Option.some.inj e; omega)) ((Below.refl _ _).alloc (Nat.le_refl _) (.cells (intsZ [1, 6, 8, 10, 12, 72, z]).toArray 3)))
  have HROW6 := Lib.hid (row_ints w5 [1, 6, 8, 10, 12, 72, z])
  have hbl5 : w.heap.size < w5.heap.size := hc5.lt
  clear HB4 HO4 HI4 HC4 hc5 hg5 hb5 HROW
  go_wp2_with fail
  refine (among_any [1, 6, 8, 10, 12, 72, z] w5.heap.size _ w.heap.size c (0 + 30 + 50 + 1) A xs _ HC6.out (by omega) hxs HROW6.out (by omega) (by simp) (by simp)).mono ?_
  rintro e w7 ⟨⟨t, ht, rfl⟩, hc7, hg7⟩
  have HB7 := Lib.hid (HB6.out.grown hg7 HB6.out.size (fun k hk => by have := Option.some.inj hk; omega))
  have HO7 := Lib.hid (own_grown HO6.out hg7 (fun k hk e => by have h1 := HF0.out k hk; have := Option.some.inj e; omega))
  have HI7 := Lib.hid (own_grown HI6.out hg7 (fun k hk e => by have h1 := HI0.out k hk; have := Option.some.inj e; omega))
  clear hc7 hg7 HB6 HO6 HI6 HC6
  go_wp2
  exact bodyPost_ret (v := .tuple #[.slice B f.length d, .slice B2 l.length d2, .int .i64 t]) (by simp [results, Tryz.results13, go_sem]) rfl ⟨f, B, d, l, B2, d2, t, rfl, hfl, hco, hll, own_in_f HO7.out, own_in HI7.out, HB7.out⟩

set_option maxRecDepth 100000 in
set_option maxHeartbeats 1000000 in
theorem drawBil_any (A : Option Addr) (c : Nat) (xs : List UInt8) (w : World) (hx : BytesIn w A xs) (hxs : xs.length ≤ maxLen) :
    Calls Tryz.prog 16 #[.slice A xs.length c] w fun e w' => ∃ (f : List (ByteArray × Int)) (B : Option Addr) (d : Nat) (l : List Int) (B2 : Option Addr) (d2 : Nat), e = .returned (.tuple #[.slice B f.length d, .slice B2 l.length d2]) ∧ f.length ≤ 40 ∧ CodesOk f ∧ l.length ≤ 41 ∧ SortsIn w' 0 B f ∧ IntsIn w' B2 l ∧ Below w.heap.size w w' := by
  have hcur : CurLe (w.alloc (.cells #[.slice A xs.length c, .int .i64 0, .int .u64 0] 48)) w.heap.size A c 0 xs := by
    refine ⟨⟨0, Nat.le_refl _, 0, by omega, heap_new _ _⟩, fun hn => ?_⟩
    obtain ⟨b', off, e, hl, hc⟩ := hx hn
    exact ⟨b', off, e, hl, fun k hk => (((Below.refl w.heap.size w).alloc (Nat.le_refl _) _).cell (by show b' < _; exact hl)).trans (hc k hk)⟩
  have hb0 : Below w.heap.size w (w.alloc (.cells #[.slice A xs.length c, .int .i64 0, .int .u64 0] 48)) := (Below.refl _ _).alloc (Nat.le_refl _) _
  have HCUR := Lib.hid hcur
  have HB0 := Lib.hid hb0
  clear hcur hb0 hx
  go_enter Tryz.func16, Tryz.ntmps16
  go_wp2_with fail
  refine (anyFont_any w.heap.size c 0 A xs _ HCUR.out (by omega) hxs).mono ?_
  rintro e w1 ⟨⟨f, B, d, rfl, hfl, hco, hown⟩, hc1, hg1⟩
  have HC1 := Lib.hid hc1
  have HB1 := Lib.hid (HB0.out.grown hg1 HB0.out.size (fun k hk => by have := Option.some.inj hk; omega))
  have HO1 := Lib.hid hown
  have hz0 : w.heap.size < (w.alloc (.cells #[.slice A xs.length c, .int .i64 0, .int .u64 0] 48)).heap.size := by simp
  have hz1 : w.heap.size + 1 ≤ w1.heap.size := by have := hg1.size; simp at this; omega
  have hf0 : ∀ k, (Value.slice B f.length d).ownBlock = some k → w.heap.size < k := fun k hk => by have := own_lt hown k hk; omega
  have HF0 := Lib.hid hf0
  clear hc1 hg1 hown HB0 HCUR hz0 hf0
  go_wp2_with fail
  refine (typeStock_any f B d w.heap.size c (0 + 30) A xs w1 HC1.out (by omega) hxs hfl).mono ?_
  rintro e w2 ⟨⟨l, B2, d2, rfl, hll, hown2⟩, hc2, hg2⟩
  have HC2 := Lib.hid hc2
  have HB2 := Lib.hid (HB1.out.grown hg2 HB1.out.size (fun k hk => by have := Option.some.inj hk; omega))
  have HO2 := Lib.hid (own_grown HO1.out hg2 (fun k hk e => by have h1 := HF0.out k hk; have := Option.some.inj e; omega))
  have HI2 := Lib.hid hown2
  have hi0 : ∀ k, (Value.slice B2 l.length d2).ownBlock = some k → w.heap.size < k := fun k hk => by have := own_lt hown2 k hk; omega
  have HI0 := Lib.hid hi0
  clear hc2 hg2 hown2 HB1 HC1 HO1 hi0
  clear HC2
  go_wp2
  exact bodyPost_ret (v := .tuple #[.slice B f.length d, .slice B2 l.length d2]) (by simp [results, Tryz.results16, go_sem]) rfl ⟨f, B, d, l, B2, d2, rfl, hfl, hco, hll, own_in_f HO2.out, own_in HI2.out, HB2.out⟩
end Go.Proofs.YtnbnegkoanidmaaGreatDoor.S1
