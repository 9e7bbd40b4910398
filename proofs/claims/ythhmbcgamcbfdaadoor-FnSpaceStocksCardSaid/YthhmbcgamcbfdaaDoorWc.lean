/-
  The draws of FnSpaces: spec.l1Cur.fill, spec.DrawCanFill, spec.DrawFewestSpaces, spec.DrawAreSpaces.
-/
import Derived.Test.YthhmbcgamcbfdaaDoorWb
namespace Go.Proofs.YthhmbcgamcbfdaaDoor
open Go.RowKit
set_option linter.unusedVariables false

theorem cur_new {w : World} {A : Option Addr} {c : Nat} {xs : List UInt8} (hx : BytesIn w A xs) : CurLe (w.alloc (.cells #[.slice A xs.length c, .int .i64 0, .int .u64 0] 44)) w.heap.size A c 0 xs := by
  refine ⟨⟨0, Nat.le_refl _, 0, by omega, heap_new _ _⟩, fun hn => ?_⟩
  obtain ⟨b', off, e, hl, hc⟩ := hx hn
  exact ⟨b', off, e, hl, fun k hk => (((Below.refl w.heap.size w).alloc (Nat.le_refl _) _).cell (by show b' < _; exact hl)).trans (hc k hk)⟩

set_option maxRecDepth 100000 in
set_option maxHeartbeats 1000000 in
theorem fill_any (b c M : Nat) (A : Option Addr) (xs : List UInt8) (w : World) (hc : CurLe w b A c M xs) (hat : M ≤ 999900) (hxs : xs.length ≤ maxLen) :
    Calls Tryd.prog 26 #[.pointer (some ⟨b, 0, none⟩)] w fun e w' => (∃ n : Int, e = .returned (.int .i64 n)) ∧ CurLe w' b A c (M + 10) xs ∧ w.grownBy w' (some b) := by
  have hbl := hc.lt
  have HC := Lib.hid hc; clear hc
  go_enter Tryd.func26, Tryd.ntmps26
  go_wp2_with fail
  refine (pick_any 40 b c M A xs _ HC.out (by omega) hxs (by omega) (by omega)).mono ?_
  rintro e w1 ⟨⟨x1, hx1, rfl⟩, hc1, hg1⟩
  have HC1 := Lib.hid hc1; have HG1 := Lib.hid hg1
  clear hc1 hg1
  go_wp2_with fail
  refine (pick_any 100 b c (M + 1) A xs _ HC1.out (by omega) hxs (by omega) (by omega)).mono ?_
  rintro e w2 ⟨⟨x2, hx2, rfl⟩, hc2, hg2⟩
  have hb3 : Below w2.heap.size w2 (w2.alloc (.cells (intsZ [5, 401, -1]).toArray 3)) := (Below.refl _ _).alloc (Nat.le_refl _) _
  have HC2 := Lib.hid (hc2.below hb3); have HG2 := Lib.hid (grown_below (grownBy_trans HG1.out hg2) hb3)
  have HR2 := Lib.hid (row_ints w2 [5, 401, -1])
  have hs2 := hg2.size
  have hs1 := HG1.out.size
  clear hc2 hg2 hb3
  go_wp2_with fail
  refine (among_any [5, 401, -1] _ _ b c (M + 2) A xs _ HC2.out (by omega) hxs HR2.out (by omega) (by decide) (by decide)).mono ?_
  rintro e w3 ⟨⟨s, hs, rfl⟩, hc3, hg3⟩
  have hb4 : Below w3.heap.size w3 (w3.alloc (.cells (intsZ [0, 1, 2, 7, 11, 14, (x1 : Int), (x2 : Int), 400, s]).toArray 3)) := (Below.refl _ _).alloc (Nat.le_refl _) _
  have HC3 := Lib.hid (hc3.below hb4); have HG3 := Lib.hid (grown_below (grownBy_trans HG2.out hg3) hb4)
  have HR3 := Lib.hid (row_ints w3 [0, 1, 2, 7, 11, 14, (x1 : Int), (x2 : Int), 400, s])
  have hs3 := hg3.size
  simp only [World.size_alloc] at hs3
  clear hc3 hg3 hb4 hs
  go_wp2_with fail
  refine (among_any [0, 1, 2, 7, 11, 14, (x1 : Int), (x2 : Int), 400, s] _ _ b c (M + 3) A xs _ HC3.out (by omega) hxs HR3.out (by omega) (by simp) (by simp)).mono ?_
  rintro e w4 ⟨⟨n, hn, rfl⟩, hc4, hg4⟩
  have HC4 := Lib.hid hc4; have HG4 := Lib.hid (grownBy_trans HG3.out hg4)
  clear hc4 hg4 hn
  go_wp2
  go_ret
  exact ⟨⟨n, rfl⟩, HC4.out.more (by omega), HG4.out⟩

/-- What the draw of kinds answers. -/
def KiTo (w w' : World) (l : List Int) (v : Value) : Prop := l.length ≤ 7 ∧ w'.ownsRow w.heap.size 3 1 v l.length (intsZ l)
set_option maxRecDepth 100000 in
theorem drawCanFill_any (A : Option Addr) (c : Nat) (xs : List UInt8) (w : World) (hx : BytesIn w A xs) (hxs : xs.length ≤ maxLen) :
    Calls Tryd.prog 41 #[.slice A xs.length c] w fun e w' => (∃ (l : List Int) (B : Option Addr) (d : Nat) (n : Int), e = .returned (.tuple #[.slice B l.length d, .int .i64 n]) ∧ l.length ≤ 7 ∧ w'.ownsRow w.heap.size 3 1 (.slice B l.length d) l.length (intsZ l)) ∧ Below w.heap.size w w' := by
  have HCUR := Lib.hid (cur_new (c := c) hx)
  have HB0 := Lib.hid ((Below.refl w.heap.size w).alloc (Nat.le_refl _) (.cells #[.slice A xs.length c, .int .i64 0, .int .u64 0] 44))
  clear hx
  go_enter Tryd.func41, Tryd.ntmps41
  go_wp2_with fail
  refine (kinds_any w.heap.size c 0 A xs _ HCUR.out (by omega) hxs).mono ?_
  rintro e w1 ⟨⟨l, B, d, rfl, hl, ho⟩, hc1, hg1⟩
  have HO := Lib.hid ho
  have HB := Lib.hid (HB0.out.grown hg1 HB0.out.size (fun k hk => by have := Option.some.inj hk; omega))
  have HC1 := Lib.hid hc1
  clear ho hc1 hg1
  go_wp2_with fail
  refine (fill_any w.heap.size c 25 A xs _ HC1.out (by omega) hxs).mono ?_
  rintro e w2 ⟨⟨n, rfl⟩, hc2, hg2⟩
  have HO2 := Lib.hid (Joins.ownsRow_le (own_grown HO.out hg2 (fun q hq e => by have h1 := own_lt HO.out q hq; have h2 := Option.some.inj e; simp at h1; omega)) (by simp : w.heap.size ≤ _))
  have HB2 := Lib.hid (HB.out.grown hg2 HB.out.size (fun k hk => by have := Option.some.inj hk; omega))
  clear hc2 hg2
  go_wp2
  go_ret2
  exact ⟨⟨l, B, d, n, rfl, hl, HO2.out⟩, HB2.out⟩
end Go.Proofs.YthhmbcgamcbfdaaDoor
