/-
  The draws of tables with a gap, a column, one more entry.
-/
import Derived.Test.YteagclokobkigaaGc
import Derived.Test.YteagclokobkigaaEf
import Derived.Lib.SmallJoins
namespace Go.Proofs.Yteagclokobkigaa
open Go.RowKit
set_option linter.unusedVariables false

theorem BytesIn.alloc {w : World} {A : Option Addr} {xs : List UInt8} (h : BytesIn w A xs) (o : Obj) : BytesIn (w.alloc o) A xs := fun hn => by
  obtain ⟨b', off, e, hl, hc⟩ := h hn
  exact ⟨b', off, e, by simp; omega, fun k hk => (((Below.refl w.heap.size w).alloc (Nat.le_refl _) o).cell (by show b' < _; exact hl)).trans (hc k hk)⟩
theorem cur_new {w : World} {A : Option Addr} {xs : List UInt8} (hx : BytesIn w A xs) (c : Nat) : CurLe (w.alloc (.cells #[.slice A xs.length c, .int .i64 0, .int .u64 0] 50)) w.heap.size A c 0 xs := by
  refine ⟨⟨0, Nat.le_refl _, 0, by omega, heap_new _ _⟩, fun hn => ?_⟩
  obtain ⟨b', off, e, hl, hc⟩ := hx hn
  exact ⟨b', off, e, hl, fun k hk => (((Below.refl w.heap.size w).alloc (Nat.le_refl _) _).cell (by show b' < _; exact hl)).trans (hc k hk)⟩
theorem own_ensA {w : World} {base m cap : Nat} {e : TypeId} {A : Option Addr} {l : List En} (h : w.ownsRow base e 3 (.slice A m cap) l.length (flatEn l)) : EnsIn w A l := by
  obtain ⟨A', c', e1, _, h2⟩ := own_en h
  injection e1 with e2 _ _
  subst e2; exact h2
/-- A table that is drawn: its columns, its entries, in a slice of the call's own. -/
def TabIn (w w' : World) (n : Int) (l : List En) (B : Option Addr) (d : Nat) : Prop :=
  -1 ≤ n ∧ n ≤ 11 ∧ l.length ≤ 21 ∧ l.length ≤ d ∧ EnR l ∧ w'.ownsRow w.heap.size 36 3 (.slice B l.length d) l.length (flatEn l) ∧ Below w.heap.size w w'
/-- A table and a number come back. -/
def DrawnN (w w' : World) (e : Ending) (lo hi : Int) : Prop :=
  ∃ (n : Int) (l : List En) (B : Option Addr) (d : Nat) (g : Int), e = .returned (.tuple #[.int .i64 n, .slice B l.length d, .int .i64 g]) ∧ lo ≤ g ∧ g ≤ hi ∧ TabIn w w' n l B d
set_option maxRecDepth 100000 in
set_option maxHeartbeats 2000000 in
theorem drawLeastStarts_any (A : Option Addr) (c : Nat) (xs : List UInt8) (w : World) (hx : BytesIn w A xs) (hxs : xs.length ≤ maxLen) :
    Calls Try.prog 6 #[.slice A xs.length c] w fun e w' => DrawnN w w' e (-1) 37 := by
  obtain ⟨b, hb⟩ : ∃ b, b = w.heap.size := ⟨_, rfl⟩
  have HCUR := Lib.hid (cur_new hx c)
  have HB0 : Hid (Below w.heap.size w (w.alloc (.cells #[.slice A xs.length c, .int .i64 0, .int .u64 0] 50))) := Lib.hid ((Below.refl _ _).alloc (Nat.le_refl _) _)
  rw [← hb] at HCUR
  have hbw : w.heap.size ≤ b := by omega
  have HBE := Lib.hid hb.symm
  clear hx hb
  go_enter Try.func6, Try.ntmps6
  go_wp2_with fail
  rw [HBE.out]
  refine (table_any b c 0 A xs _ HCUR.out (by omega) hxs).mono ?_
  rintro e w1 ⟨⟨n, l, B, d, rfl, hn1, hn2, hl, hr, ho⟩, hc1, hg1⟩
  have HC1 := Lib.hid hc1; have HER := Lib.hid hr
  have HB1 := Lib.hid (HB0.out.grown hg1 HB0.out.size (fun k hk => by have := Option.some.inj hk; omega))
  have HCAP := Lib.hid (own_capE ho)
  have hbu : b < (w.alloc (.cells #[.slice A xs.length c, .int .i64 0, .int .u64 0] 50)).heap.size := HCUR.out.lt
  have HO1 := Lib.hid (Joins.ownsRow_le (base' := b + 1) ho hbu)
  have hbl1 := hc1.lt
  have hlx : l.length ≤ 1048576 := by omega
  clear hc1 hg1 hr ho hbu HCUR HB0
  go_wp2_with fail
  refine (gapOf_any b c 160 A xs _ (HC1.out.more (by omega)) (by omega) hxs).mono ?_
  rintro e w2 ⟨⟨g, hg1, hg2', rfl⟩, hc2, hg2⟩
  have HC2 := Lib.hid hc2
  have HB2 := Lib.hid (HB1.out.grown hg2 HB1.out.size (fun k hk => by have := Option.some.inj hk; omega))
  have HO2 := Lib.hid (own_grown HO1.out hg2 (fun q hq e => by have h1 := own_lt HO1.out q hq; have := Option.some.inj e; omega))
  have hbl2 := hc2.lt
  clear hc2 hg2 HC1 HB1 HO1
  go_wp2
  go_ret3
  exact ⟨n, l, B, d, g, rfl, hg1, hg2', hn1, hn2, hl, HCAP.out, HER.out, own_up2 HO2.out (by omega), HB2.out⟩
set_option maxRecDepth 100000 in
theorem drawTightEntries_any (A : Option Addr) (c : Nat) (xs : List UInt8) (w : World) (hx : BytesIn w A xs) (hxs : xs.length ≤ maxLen) :
    Calls Try.prog 24 #[.slice A xs.length c] w fun e w' => DrawnN w w' e (-1) 37 := by
  go_enter Try.func24, Try.ntmps24
  go_wp2_with fail
  refine (drawLeastStarts_any A c xs _ hx hxs).mono ?_
  rintro e w1 ⟨n, l, B, d, g, rfl, hg1, hg2, h⟩
  go_wp2
  go_ret3
  exact ⟨n, l, B, d, g, rfl, hg1, hg2, h⟩
set_option maxRecDepth 100000 in
set_option maxHeartbeats 4000000 in
theorem drawEntriesOver_any (A : Option Addr) (c : Nat) (xs : List UInt8) (w : World) (hx : BytesIn w A xs) (hxs : xs.length ≤ maxLen) :
    Calls Try.prog 21 #[.slice A xs.length c] w fun e w' => DrawnN w w' e (-9223372036854775808) 11 := by
  obtain ⟨b, hb⟩ : ∃ b, b = w.heap.size := ⟨_, rfl⟩
  have HCUR := Lib.hid (cur_new hx c)
  have HB0 : Hid (Below w.heap.size w (w.alloc (.cells #[.slice A xs.length c, .int .i64 0, .int .u64 0] 50))) := Lib.hid ((Below.refl _ _).alloc (Nat.le_refl _) _)
  rw [← hb] at HCUR
  have hbw : w.heap.size ≤ b := by omega
  have HBE := Lib.hid hb.symm
  clear hx hb
  go_enter Try.func21, Try.ntmps21
  go_wp2_with fail
  rw [HBE.out]
  refine (table_any b c 0 A xs _ HCUR.out (by omega) hxs).mono ?_
  rintro e w1 ⟨⟨n, l, B, d, rfl, hn1, hn2, hl, hr, ho⟩, hc1, hg1⟩
  have HC1 := Lib.hid hc1; have HER := Lib.hid hr
  have HB1 := Lib.hid (HB0.out.grown hg1 HB0.out.size (fun k hk => by have := Option.some.inj hk; omega))
  have HCAP := Lib.hid (own_capE ho)
  have hbu : b < (w.alloc (.cells #[.slice A xs.length c, .int .i64 0, .int .u64 0] 50)).heap.size := HCUR.out.lt
  have HO1 := Lib.hid (Joins.ownsRow_le (base' := b + 1) ho hbu)
  have hbl1 := hc1.lt
  have hlx : l.length ≤ 1048576 := by omega
  clear hc1 hg1 hr ho hbu HCUR HB0
  go_wp2_with fail
  refine (l1Most_any _ _ _).mono ?_
  rintro e w' ⟨rfl, rfl⟩
  obtain ⟨m, hm⟩ : ∃ m : Nat, m = (max 1 n).toNat := ⟨_, rfl⟩
  have hm1 : max 1 n = (m : Int) := by omega
  have hmm : 1 ≤ m ∧ m ≤ 11 := by omega
  rw [hm1]
  clear hm hm1
  go_wp2_with fail
  refine (pick_any m b c 160 A xs _ (HC1.out.more (by omega)) (by omega) hxs (by omega) (by omega)).mono ?_
  rintro e w2 ⟨⟨p, hp, rfl⟩, hc2, hg2⟩
  have HC2 := Lib.hid hc2
  have HB2 := Lib.hid (HB1.out.grown hg2 HB1.out.size (fun k hk => by have := Option.some.inj hk; omega))
  have HO2 := Lib.hid (own_grown HO1.out hg2 (fun q hq e => by have h1 := own_lt HO1.out q hq; have := Option.some.inj e; omega))
  have hbl2 := hc2.lt
  clear hc2 hg2 HC1 HB1 HO1
  have hb3 : Below w2.heap.size w2 (w2.alloc (.cells (intsZ [n, -1, -9223372036854775808]).toArray 3)) := (Below.refl _ _).alloc (Nat.le_refl _) _
  have HC3 := Lib.hid (HC2.out.below hb3); have HR3 := Lib.hid (row_ints w2 [n, -1, -9223372036854775808])
  have HB3 := Lib.hid (HB2.out.trans (hb3.mono HB2.out.size))
  have HO3 := Lib.hid (own_below HO2.out hb3)
  clear hb3 HC2 HB2 HO2
  go_wp2_with fail
  refine (among_any [n, -1, -9223372036854775808] _ _ b c (160 + 1) A xs _ HC3.out (by omega) hxs HR3.out (by omega) (by simp) (by simp)).mono ?_
  rintro e w4 ⟨⟨x, hx, rfl⟩, hc4, hg4⟩
  have HC4 := Lib.hid hc4
  have HB4 := Lib.hid (HB3.out.grown hg4 HB3.out.size (fun k hk => by have := Option.some.inj hk; omega))
  have HO4 := Lib.hid (own_grown HO3.out hg4 (fun q hq e => by have h1 := own_lt HO3.out q hq; have := Option.some.inj e; omega))
  have hbl4 := hc4.lt
  clear hc4 hg4 HC3 HB3 HO3
  have hx2 : -9223372036854775808 ≤ x ∧ x ≤ 11 := by simp at hx; omega
  clear hx
  have hb5 : Below w4.heap.size w4 (w4.alloc (.cells (intsZ [0, 1, n - 1, (p : Int), x]).toArray 3)) := (Below.refl _ _).alloc (Nat.le_refl _) _
  have HC5 := Lib.hid (HC4.out.below hb5); have HR5 := Lib.hid (row_ints w4 [0, 1, n - 1, (p : Int), x])
  have HB5 := Lib.hid (HB4.out.trans (hb5.mono HB4.out.size))
  have HO5 := Lib.hid (own_below HO4.out hb5)
  clear hb5 HC4 HB4 HO4
  go_wp2_with fail
  refine (among_any [0, 1, n - 1, (p : Int), x] _ _ b c (160 + 1 + 1) A xs _ HC5.out (by omega) hxs HR5.out (by omega) (by simp) (by simp)).mono ?_
  rintro e w6 ⟨⟨y, hy, rfl⟩, hc6, hg6⟩
  have HC6 := Lib.hid hc6
  have HB6 := Lib.hid (HB5.out.grown hg6 HB5.out.size (fun k hk => by have := Option.some.inj hk; omega))
  have HO6 := Lib.hid (own_grown HO5.out hg6 (fun q hq e => by have h1 := own_lt HO5.out q hq; have := Option.some.inj e; omega))
  have hbl6 := hc6.lt
  clear hc6 hg6 HC5 HB5 HO5
  have hy2 : -9223372036854775808 ≤ y ∧ y ≤ 11 := by simp at hy; omega
  clear hy
  go_wp2
  go_ret3
  exact ⟨n, l, B, d, y, rfl, hy2.1, hy2.2, hn1, hn2, hl, HCAP.out, HER.out, own_up2 HO6.out (by omega), HB6.out⟩
end Go.Proofs.Yteagclokobkigaa
