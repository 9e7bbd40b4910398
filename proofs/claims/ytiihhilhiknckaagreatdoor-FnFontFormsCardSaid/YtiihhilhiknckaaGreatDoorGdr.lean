/-
  The draws of FnFontForms: spec.DrawSetOfCode, DrawWithoutSort, DrawMissingLetters, DrawWithSort, DrawIsSort: some sorts, some text, some words.
-/
import Derived.Test.YtiihhilhiknckaaGreatDoorAdr
import Derived.Test.YtiihhilhiknckaaGreatDoorGA
import Derived.Laws.Rows
namespace Go.Proofs.YtiihhilhiknckaaGreatDoor
open Go.RowKit
set_option linter.unusedVariables false

theorem BytesIn.alloc {w : World} {A : Option Addr} {xs : List UInt8} (h : BytesIn w A xs) (o : Obj) : BytesIn (w.alloc o) A xs := fun hn => by
  obtain ⟨b', off, e, hl, hc⟩ := h hn
  exact ⟨b', off, e, by simp; omega, fun k hk => (((Below.refl w.heap.size w).alloc (Nat.le_refl _) o).cell (by show b' < _; exact hl)).trans (hc k hk)⟩
theorem own_cap {w : World} {base size n m cap : Nat} {e : TypeId} {A : Option Addr} {xs : List Value} (h : w.ownsRow base e size (.slice A m cap) n xs) : n ≤ cap := by
  rcases h.2 with ⟨e1, e2⟩ | ⟨g, c', cur, e1, h1, h2, h3, h4⟩
  · omega
  · injection e1 with _ _ e3; omega
theorem two_set {w : World} {b : Nat} {a c : Value} {t : TypeId} {fr : Nat × Nat} (h : w.heap[b]? = some (.cells #[a, c] t fr)) (x y : Value) : ((w.setCell ⟨b, 0, none⟩ x).setCell ⟨b, 1, none⟩ y).heap[b]? = some (.cells #[x, y] t fr) := by
  rw [heap_set (heap_set h _)]
  simp
theorem results_tmp_cell {P : Program} {fn : Func} {u p : Tmp} {ty : TypeId} (h : fn.results = #[.tmp u, .cell p ty]) (tmps : Array Value) (w : World) (g : Nat) (t : TypeId) (cs : Array Value) (fr : Nat × Nat) (d : TypeDesc)
    (hp : tmps.getD p undef = .pointer (some ⟨g, 0, none⟩)) (hg : w.heap[g]? = some (.cells cs t fr))
    (hu : P.underlying ty = some d) (hd : (match d with | .struct _ | .array _ _ => true | _ => false) = true) (hi : (P.info? ty).map (·.size) = some cs.size) :
    (results fn tmps).run P w = .ok (.tuple #[tmps.getD u undef, .agg cs]) w := by
  have hp' : tmps[p]?.getD undef = .pointer (some ⟨g, 0, none⟩) := by simpa using hp
  simp [results, h, hp', asAddr, run_loadVar_row w g t ty cs fr d hg hu hd hi]
theorem cur_new {w : World} {A : Option Addr} {xs : List UInt8} (hx : BytesIn w A xs) (c : Nat) : CurLe (w.alloc (.cells #[.slice A xs.length c, .int .i64 0, .int .u64 0] 51)) w.heap.size A c 0 xs := by
  refine ⟨⟨0, Nat.le_refl _, 0, by omega, heap_new _ _⟩, fun hn => ?_⟩
  obtain ⟨b', off, e, hl, hc⟩ := hx hn
  exact ⟨b', off, e, hl, fun k hk => (((Below.refl w.heap.size w).alloc (Nat.le_refl _) _).cell (by show b' < _; exact hl)).trans (hc k hk)⟩

def socTexts : List ByteArray := [⟨#[97]⟩, ⟨#[97, 98]⟩, ⟨#[102]⟩, ⟨#[102, 102]⟩, ⟨#[122, 122]⟩, ⟨#[]⟩]
theorem socTexts_size : ∀ s ∈ socTexts, s.size ≤ 4 := by
  intro s hs
  simp [socTexts] at hs
  rcases hs with rfl | rfl | rfl | rfl | rfl | rfl <;> decide
def wsTexts : List ByteArray := [⟨#[97, 97]⟩, ⟨#[99]⟩, ⟨#[102, 108]⟩, ⟨#[122, 122, 122]⟩, ⟨#[97, 98, 99, 100]⟩, ⟨#[98]⟩]
theorem wsTexts_size : ∀ s ∈ wsTexts, s.size ≤ 4 := by
  intro s hs
  simp [wsTexts] at hs
  rcases hs with rfl | rfl | rfl | rfl | rfl | rfl <;> decide
def wsInts : List Int := [1, 9, 54, 55, 0, 12]

set_option maxRecDepth 100000 in
theorem drawSoc_any (A : Option Addr) (c : Nat) (xs : List UInt8) (w : World) (hx : BytesIn w A xs) (hxs : xs.length ≤ maxLen) :
    Calls Tryz.prog 44 #[.slice A xs.length c] w fun e w' =>
      ∃ (f : List (ByteArray × Int)) (B : Option Addr) (d : Nat) (s : ByteArray), e = .returned (.tuple #[.slice B f.length d, .string s]) ∧ f.length ≤ 40 ∧ f.length ≤ d ∧ CodesOk f ∧ s.size ≤ 20 ∧ SortsIn w' 0 B f ∧ Below w.heap.size w w' := by
  have HCUR := Lib.hid (cur_new hx c)
  have HB0 := Lib.hid ((Below.refl w.heap.size w).alloc (Nat.le_refl _) (.cells #[.slice A xs.length c, .int .i64 0, .int .u64 0] 51))
  clear hx
  go_enter Tryz.func44, Tryz.ntmps44
  go_wp2_with fail
  refine (anyFont_any w.heap.size c 0 A xs _ HCUR.out (by omega) hxs).mono ?_
  rintro e w1 ⟨⟨f, B, d, rfl, hfl, hco, hown⟩, hc1, hg1⟩
  have hl1 := hc1.lt
  have HC1 := Lib.hid (hc1.below ((Below.refl _ _).alloc (Nat.le_refl _) (.cells (strs socTexts).toArray 9)))
  have HB1a := HB0.out.grown hg1 HB0.out.size (fun k hk => by have := Option.some.inj hk; omega)
  have HB1 := Lib.hid (HB1a.alloc HB1a.size (.cells (strs socTexts).toArray 9))
  have HO1 := Lib.hid (own_below hown ((Below.refl _ _).alloc (Nat.le_refl _) (.cells (strs socTexts).toArray 9)))
  have HD := Lib.hid (own_cap hown)
  have HROW := Lib.hid (row_strs w1 socTexts)
  clear hc1 hg1 hown HB0 HCUR HB1a
  go_wp2_with fail
  refine (of_any socTexts w1.heap.size _ w.heap.size c (0 + 30) A xs _ HC1.out (by omega) hxs HROW.out (by omega) (by decide) (by decide)).mono ?_
  rintro e w2 ⟨⟨s, hs, rfl⟩, hc2, hg2⟩
  have HB2 := Lib.hid (HB1.out.grown hg2 HB1.out.size (fun k hk => by have := Option.some.inj hk; omega))
  have HO2 := Lib.hid (own_grown HO1.out hg2 (fun k hk e => by have h1 := own_lt HO1.out k hk; have := Option.some.inj e; simp at h1; omega))
  have hsz := socTexts_size s hs
  clear hc2 hg2
  go_wp2
  go_ret2
  exact ⟨f, B, d, s, rfl, hfl, HD.out, hco, by omega, own_in_f HO2.out, HB2.out⟩

theorem drawWo_any (A : Option Addr) (c : Nat) (xs : List UInt8) (w : World) (hx : BytesIn w A xs) (hxs : xs.length ≤ maxLen) :
    Calls Tryz.prog 17 #[.slice A xs.length c] w fun e w' =>
      ∃ (f : List (ByteArray × Int)) (B : Option Addr) (d : Nat) (s : ByteArray), e = .returned (.tuple #[.slice B f.length d, .string s]) ∧ f.length ≤ 40 ∧ f.length ≤ d ∧ CodesOk f ∧ s.size ≤ 20 ∧ SortsIn w' 0 B f ∧ Below w.heap.size w w' := by
  go_enter Tryz.func17, Tryz.ntmps17
  go_wp2_with fail
  refine (drawSoc_any A c xs w hx hxs).mono ?_
  rintro e w1 ⟨f, B, d, s, rfl, h⟩
  have H := Lib.hid h; clear h
  go_wp2
  go_ret2
  exact ⟨f, B, d, s, rfl, H.out⟩

set_option maxRecDepth 100000 in
theorem drawMis_any (A : Option Addr) (c : Nat) (xs : List UInt8) (w : World) (hx : BytesIn w A xs) (hxs : xs.length ≤ maxLen) :
    Calls Tryz.prog 14 #[.slice A xs.length c] w fun e w' =>
      ∃ (f : List (ByteArray × Int)) (B : Option Addr) (d : Nat) (l : List ByteArray) (D : Option Addr) (k : Nat), e = .returned (.tuple #[.slice B f.length d, .slice D l.length k]) ∧ f.length ≤ 40 ∧ CodesOk f ∧ l.length ≤ 41 ∧ Short20 l ∧ SortsIn w' 0 B f ∧ StrsIn w' D l ∧ Below w.heap.size w w' := by
  have HCUR := Lib.hid (cur_new hx c)
  have HB0 := Lib.hid ((Below.refl w.heap.size w).alloc (Nat.le_refl _) (.cells #[.slice A xs.length c, .int .i64 0, .int .u64 0] 51))
  clear hx
  go_enter Tryz.func14, Tryz.ntmps14
  go_wp2_with fail
  refine (anyFont_any w.heap.size c 0 A xs _ HCUR.out (by omega) hxs).mono ?_
  rintro e w1 ⟨⟨f, B, d, rfl, hfl, hco, hown⟩, hc1, hg1⟩
  have hl1 := hc1.lt
  have HC1 := Lib.hid hc1
  have HB1 := Lib.hid (HB0.out.grown hg1 HB0.out.size (fun k hk => by have := Option.some.inj hk; omega))
  have HO1 := Lib.hid hown
  clear hc1 hg1 hown HB0 HCUR
  go_wp2_with fail
  refine (words_any w.heap.size c (0 + 30) A xs _ HC1.out (by omega) hxs).mono ?_
  rintro e w2 ⟨⟨l, D, k, rfl, hll, hsh, hown2⟩, hc2, hg2⟩
  have HB2 := Lib.hid (HB1.out.grown hg2 HB1.out.size (fun k hk => by have := Option.some.inj hk; omega))
  have HO2 := Lib.hid (own_grown HO1.out hg2 (fun k hk e => by have h1 := own_lt HO1.out k hk; have := Option.some.inj e; simp at h1; omega))
  have HL2 := Lib.hid hown2
  clear hc2 hg2 hown2
  go_wp2
  go_ret2
  exact ⟨f, B, d, l, D, k, rfl, hfl, hco, hll, hsh, own_in_f HO2.out, own_in_s HL2.out, HB2.out⟩

set_option maxRecDepth 100000 in
theorem drawWs_any (A : Option Addr) (c : Nat) (xs : List UInt8) (w : World) (hx : BytesIn w A xs) (hxs : xs.length ≤ maxLen) :
    Calls Tryz.prog 4 #[.slice A xs.length c] w fun e w' =>
      ∃ (f : List (ByteArray × Int)) (B : Option Addr) (d : Nat) (s : ByteArray) (z : Int), e = .returned (.tuple #[.slice B f.length d, .agg #[.string s, .int .i64 z]]) ∧ f.length ≤ 40 ∧ f.length ≤ d ∧ CodesOk f ∧ s.size ≤ 20 ∧ SortsIn w' 0 B f ∧ Below w.heap.size w w' := by
  obtain ⟨w0, hw0⟩ : ∃ w0 : World, w0 = w.alloc (.cells #[.string ⟨#[]⟩, .int .i64 0] 25) := ⟨_, rfl⟩
  have hx0 : BytesIn w0 A xs := by rw [hw0]; exact hx.alloc _
  have hb00 : Below w.heap.size w w0 := by rw [hw0]; exact (Below.refl _ _).alloc (Nat.le_refl _) _
  have hbx : w.heap.size < w0.heap.size := by rw [hw0]; simp
  have hR0 : w0.heap[w.heap.size]? = some (.cells #[.string ⟨#[]⟩, .int .i64 0] 25 (0, 0)) := by rw [hw0]; exact heap_new _ _
  have HCUR := Lib.hid (cur_new hx0 c)
  have HB0 := Lib.hid (hb00.alloc hb00.size (.cells #[.slice A xs.length c, .int .i64 0, .int .u64 0] 51))
  have HW0 := Lib.hid hw0
  have HR0 := Lib.hid ((((Below.refl w0.heap.size w0).alloc (Nat.le_refl _) (.cells #[.slice A xs.length c, .int .i64 0, .int .u64 0] 51)).block _ hbx).trans hR0)
  clear hx hw0 hx0 hb00 hR0
  go_enter Tryz.func4, Tryz.ntmps4
  go_wp2_with fail
  rw [show w.heap.size + 1 = w0.heap.size from by rw [HW0.out]; simp, ← HW0.out]
  refine (anyFont_any w0.heap.size c 0 A xs _ HCUR.out (by omega) hxs).mono ?_
  rintro e w1 ⟨⟨f, B, d, rfl, hfl, hco, hown⟩, hc1, hg1⟩
  have hl1 := hc1.lt
  have HC1 := Lib.hid (hc1.below ((Below.refl _ _).alloc (Nat.le_refl _) (.cells (strs wsTexts).toArray 9)))
  have HB1a := HB0.out.grown hg1 HB0.out.size (fun k hk => by have := Option.some.inj hk; omega)
  have HB1 := Lib.hid (HB1a.alloc HB1a.size (.cells (strs wsTexts).toArray 9))
  have HO1 := Lib.hid (own_below hown ((Below.refl _ _).alloc (Nat.le_refl _) (.cells (strs wsTexts).toArray 9)))
  have HD := Lib.hid (own_cap hown)
  have hr1 := (hg1.block _ (by simp; omega) (fun e => by have := Option.some.inj e; omega)).trans HR0.out
  have HR1 := Lib.hid ((((Below.refl w1.heap.size w1).alloc (Nat.le_refl _) (.cells (strs wsTexts).toArray 9)).block _ (by omega)).trans hr1)
  have HROW := Lib.hid (row_strs w1 wsTexts)
  clear hc1 hg1 hown HB0 HCUR HB1a HR0 hr1
  go_wp2_with fail
  refine (of_any wsTexts w1.heap.size _ w0.heap.size c (0 + 30) A xs _ HC1.out (by omega) hxs HROW.out (by omega) (by decide) (by decide)).mono ?_
  rintro e w2 ⟨⟨s, hs, rfl⟩, hc2, hg2⟩
  have hl2 := hc2.lt
  have HC2 := Lib.hid (hc2.below ((Below.refl _ _).alloc (Nat.le_refl _) (.cells (intsZ wsInts).toArray 3)))
  have HB2a := HB1.out.grown hg2 HB1.out.size (fun k hk => by have := Option.some.inj hk; omega)
  have HB2 := Lib.hid (HB2a.alloc HB2a.size (.cells (intsZ wsInts).toArray 3))
  have HO2a := own_grown HO1.out hg2 (fun k hk e => by have h1 := own_lt HO1.out k hk; have := Option.some.inj e; simp at h1; omega)
  have HO2 := Lib.hid (own_below HO2a ((Below.refl _ _).alloc (Nat.le_refl _) (.cells (intsZ wsInts).toArray 3)))
  have hr2 := (hg2.block _ (by simp; omega) (fun e => by have := Option.some.inj e; omega)).trans HR1.out
  have HR2 := Lib.hid ((((Below.refl w2.heap.size w2).alloc (Nat.le_refl _) (.cells (intsZ wsInts).toArray 3)).block _ (by omega)).trans hr2)
  have HROW2 := Lib.hid (row_ints w2 wsInts)
  have hsz := wsTexts_size s hs
  clear hc2 hg2 HB1 HO1 HC1 HO2a HB2a HR1 hr2
  go_wp2_with fail
  refine (among_any wsInts w2.heap.size _ w0.heap.size c (0 + 30 + 1) A xs _ HC2.out (by omega) hxs HROW2.out (by omega) (by decide) (by decide)).mono ?_
  rintro e w3 ⟨⟨z, hz, rfl⟩, hc3, hg3⟩
  have hl3 := hc3.lt
  have HB3 := Lib.hid (HB2.out.grown hg3 HB2.out.size (fun k hk => by have := Option.some.inj hk; omega))
  have HO3 := Lib.hid (own_grown HO2.out hg3 (fun k hk e => by have h1 := own_lt HO2.out k hk; have := Option.some.inj e; simp at h1; omega))
  have hr3 := (hg3.block _ (by simp; omega) (fun e => by have := Option.some.inj e; omega)).trans HR2.out
  have hc30 : w3.cell? ⟨w.heap.size, 0, none⟩ = some (.string ⟨#[]⟩) := by rw [cell_of_heap hr3]; rfl
  have hc31 : w3.cell? ⟨w.heap.size, 1, none⟩ = some (.int .i64 0) := by rw [cell_of_heap hr3]; rfl
  have hz0 : w3.frozen? ⟨w.heap.size, 0, none⟩ = false := by simp [World.frozen?, hr3]
  have hz1 : w3.frozen? ⟨w.heap.size, 1, none⟩ = false := by simp [World.frozen?, hr3]
  have hbz : w.heap.size < w3.heap.size := by omega
  have hgs : w3.grownBy ((w3.setCell ⟨w.heap.size, 0, none⟩ (.string s)).setCell ⟨w.heap.size, 1, none⟩ (.int .i64 z)) (some w.heap.size) := grown_set (grown_set (World.grownBy.refl _ _) _ _) _ _
  have HB4 := Lib.hid (HB3.out.grown hgs HB3.out.size (fun k hk => by have := Option.some.inj hk; omega))
  have HO4 := Lib.hid (own_grown HO3.out hgs (fun k hk e => by have h1 := own_lt HO3.out k hk; have := Option.some.inj e; simp at h1; omega))
  have HROW3 := Lib.hid (two_set hr3 (.string s) (.int .i64 z))
  clear hc3 hg3 HB2 HO2 HC2 HR2 hgs hr3
  go_wp2
  try simp only [Exit.inBlock, Exit.then]
  refine bodyPost_ret (results_tmp_cell rfl _ _ w.heap.size _ _ _ _ rfl HROW3.out Tryz.underlying25 rfl (by kernel_rfl)) rfl ?_
  exact ⟨f, B, d, s, z, rfl, hfl, HD.out, hco, by omega, own_in_f HO4.out, HB4.out⟩

set_option maxRecDepth 100000 in
theorem drawIs_any (A : Option Addr) (c : Nat) (xs : List UInt8) (w : World) (hx : BytesIn w A xs) (hxs : xs.length ≤ maxLen) :
    Calls Tryz.prog 23 #[.slice A xs.length c] w fun e w' =>
      ∃ (s : ByteArray) (z : Int), e = .returned (.agg #[.string s, .int .i64 z]) ∧ s.size ≤ maxLen ∧ Below w.heap.size w w' := by
  obtain ⟨w0, hw0⟩ : ∃ w0 : World, w0 = w.alloc (.cells #[.string ⟨#[]⟩, .int .i64 0] 25) := ⟨_, rfl⟩
  have hx0 : BytesIn w0 A xs := by rw [hw0]; exact hx.alloc _
  have hb00 : Below w.heap.size w w0 := by rw [hw0]; exact (Below.refl _ _).alloc (Nat.le_refl _) _
  have hbx : w.heap.size < w0.heap.size := by rw [hw0]; simp
  have hR0 : w0.heap[w.heap.size]? = some (.cells #[.string ⟨#[]⟩, .int .i64 0] 25 (0, 0)) := by rw [hw0]; exact heap_new _ _
  have HCUR := Lib.hid (cur_new hx0 c)
  have HB0 := Lib.hid (hb00.alloc hb00.size (.cells #[.slice A xs.length c, .int .i64 0, .int .u64 0] 51))
  have HW0 := Lib.hid hw0
  have HR0 := Lib.hid ((((Below.refl w0.heap.size w0).alloc (Nat.le_refl _) (.cells #[.slice A xs.length c, .int .i64 0, .int .u64 0] 51)).block _ hbx).trans hR0)
  clear hx hw0 hx0 hb00 hR0
  go_enter Tryz.func23, Tryz.ntmps23
  go_wp2_with fail
  rw [show w.heap.size + 1 = w0.heap.size from by rw [HW0.out]; simp, ← HW0.out]
  refine (anyFont_any w0.heap.size c 0 A xs _ HCUR.out (by omega) hxs).mono ?_
  rintro e w1 ⟨⟨f, B, d, rfl, hfl, hco, hown⟩, hc1, hg1⟩
  have hl1 := hc1.lt
  have HC1 := Lib.hid hc1
  have HB1 := Lib.hid (HB0.out.grown hg1 HB0.out.size (fun k hk => by have := Option.some.inj hk; omega))
  have HO1 := Lib.hid hown
  have hr1 := (hg1.block _ (by simp; omega) (fun e => by have := Option.some.inj e; omega)).trans HR0.out
  clear hc1 hg1 hown HB0 HCUR HR0
  by_cases hn : f.length = 0
  · have hc30 : w1.cell? ⟨w.heap.size, 0, none⟩ = some (.string ⟨#[]⟩) := by rw [cell_of_heap hr1]; rfl
    have hc31 : w1.cell? ⟨w.heap.size, 1, none⟩ = some (.int .i64 0) := by rw [cell_of_heap hr1]; rfl
    have hz0 : w1.frozen? ⟨w.heap.size, 0, none⟩ = false := by simp [World.frozen?, hr1]
    have hz1 : w1.frozen? ⟨w.heap.size, 1, none⟩ = false := by simp [World.frozen?, hr1]
    have hbz : w.heap.size < w1.heap.size := by omega
    have hgs : w1.grownBy ((w1.setCell ⟨w.heap.size, 0, none⟩ (.string ⟨#[]⟩)).setCell ⟨w.heap.size, 1, none⟩ (.int .i64 0)) (some w.heap.size) := grown_set (grown_set (World.grownBy.refl _ _) _ _) _ _
    have HB4 := Lib.hid (HB1.out.grown hgs HB1.out.size (fun k hk => by have := Option.some.inj hk; omega))
    have hn0 : (f.length : Int) = 0 := by omega
    have HROW3 := Lib.hid (two_set hr1 (.string ⟨#[]⟩) (.int .i64 0))
    clear hgs hr1
    go_wp2
    try simp only [Exit.inBlock, Exit.then]
    refine bodyPost_ret (results_cell_row rfl _ _ w.heap.size _ _ _ _ rfl HROW3.out Tryz.underlying25 rfl (by kernel_rfl)) rfl ?_
    exact ⟨⟨#[]⟩, 0, rfl, Nat.zero_le _, HB4.out⟩
  · have hn1 : 1 ≤ f.length := by omega
    have hn0 : ¬ (f.length : Int) = 0 := by omega
    have HR1 := Lib.hid hr1
    clear hr1
    go_wp2_with fail
    refine (pick_any f.length w0.heap.size c (0 + 30) A xs w1 HC1.out (by omega) hxs hn1 (by omega)).mono ?_
    rintro e w2 ⟨⟨k, hk, rfl⟩, hc2, hg2⟩
    have hl2 := hc2.lt
    have HB2 := Lib.hid (HB1.out.grown hg2 HB1.out.size (fun k hk => by have := Option.some.inj hk; omega))
    have HO2 := own_grown HO1.out hg2 (fun k hk e => by have h1 := own_lt HO1.out k hk; have := Option.some.inj e; simp at h1; omega)
    have hr2 := (hg2.block _ (by omega) (fun e => by have := Option.some.inj e; omega)).trans HR1.out
    have hin := own_in_f HO2
    have hc30 : w2.cell? ⟨w.heap.size, 0, none⟩ = some (.string ⟨#[]⟩) := by rw [cell_of_heap hr2]; rfl
    have hc31 : w2.cell? ⟨w.heap.size, 1, none⟩ = some (.int .i64 0) := by rw [cell_of_heap hr2]; rfl
    have hz0 : w2.frozen? ⟨w.heap.size, 0, none⟩ = false := by simp [World.frozen?, hr2]
    have hz1 : w2.frozen? ⟨w.heap.size, 1, none⟩ = false := by simp [World.frozen?, hr2]
    have hbz : w.heap.size < w2.heap.size := by omega
    have hgs : w2.grownBy ((w2.setCell ⟨w.heap.size, 0, none⟩ (.string f[k].1)).setCell ⟨w.heap.size, 1, none⟩ (.int .i64 f[k].2)) (some w.heap.size) := grown_set (grown_set (World.grownBy.refl _ _) _ _) _ _
    have HB4 := Lib.hid (HB2.out.grown hgs HB2.out.size (fun k hk => by have := Option.some.inj hk; omega))
    have hcz := hco k hk
    obtain ⟨b2, off, rfl, _, hbl2, hcc⟩ := hin (by omega)
    obtain ⟨hk0, hk1⟩ := hcc k hk
    have hne2 : b2 ≠ w.heap.size := by
      have h1 := own_lt HO2 b2 rfl
      simp at h1; omega
    have hne3 : w.heap.size ≠ b2 := fun e => hne2 e.symm
    have hki : (k : Int) < (f.length : Int) := by omega
    have HROW3 := Lib.hid (two_set hr2 (.string f[k].1) (.int .i64 f[k].2))
    clear hc2 hg2 hgs hr2 HB1 HO1 HO2 hin hcc HC1 HB2 HR1
    go_wp2
    try simp only [Exit.inBlock, Exit.then]
    refine bodyPost_ret (results_cell_row rfl _ _ w.heap.size _ _ _ _ rfl HROW3.out Tryz.underlying25 rfl (by kernel_rfl)) rfl ?_
    exact ⟨f[k].1, f[k].2, rfl, hcz, HB4.out⟩
end Go.Proofs.YtiihhilhiknckaaGreatDoor
