/-
  impl.ParseMelt: its contract: it answers what spec.ParseMelt does, given the library's tables, its two sentinels and the variable that strings.SplitN reads.
-/
import Derived.Test.YtebbgdihifihnaaDoorPms
namespace Go.Proofs.YtebbgdihifihnaaDoor
open Go.RowKit
set_option linter.unusedVariables false

def iPcs (s : ByteArray) : List ByteArray := Lib.splitB (sepB 45) 0 (min 4 (s.size + 1) - 1) s
theorem ipc_cases (s : ByteArray) : iPcs s = mPieces s ∨ ((iPcs s).length = 4 ∧ 4 < (mPieces s).length) := by
  rcases cut_some 45 (min 4 (s.size + 1) - 1) s s.size (Nat.le_refl _) with h | ⟨h1, h2⟩
  · exact .inl h
  · right
    have h3 := pcs_le 45 s
    have e1 : (iPcs s).length = min 4 (s.size + 1) - 1 + 1 := h1
    have e2 : min 4 (s.size + 1) - 1 + 1 < (mPieces s).length := h2
    have e3 : (mPieces s).length ≤ s.size + 1 := h3
    omega
theorem ipc_no {s : ByteArray} (h : (iPcs s).length ≠ 3) : (mPieces s).length ≠ 3 := by
  rcases ipc_cases s with h1 | ⟨h1, h2⟩
  · rw [← h1]; exact h
  · omega
theorem ipc_yes {s : ByteArray} (h : (iPcs s).length = 3) : iPcs s = mPieces s := by
  rcases ipc_cases s with h1 | ⟨h1, h2⟩
  · exact h1
  · omega
theorem goodM_of {m : Me} (h : (0 ≤ m.lea ∧ m.lea ≤ 1000000) ∧ (0 ≤ m.tin ∧ m.tin ≤ 1000000) ∧ (0 ≤ m.ant ∧ m.ant ≤ 1000000)) : goodM m = true := by
  obtain ⟨⟨a0, a1⟩, ⟨a2, a3⟩, a4, a5⟩ := h
  simp [goodM, allB, inB, Me.zs, a0, a1, a2, a3, a4, a5]
theorem pm_bad {s X Y Z : ByteArray} (h : iPcs s = [X, Y, Z]) (hb : (T1.decP X).2 = false ∨ (T1.decP Y).2 = false ∨ (T1.decP Z).2 = false ∨ goodM ⟨(T1.decP X).1, (T1.decP Y).1, (T1.decP Z).1⟩ = false) : goodM (mRead s) = false := by
  have e : mPieces s = [X, Y, Z] := by rw [← ipc_yes (by rw [h]; rfl), h]
  have hr : mRead s = ⟨T1.readT X, T1.readT Y, T1.readT Z⟩ := by unfold mRead; rw [e]; rfl
  cases hg : goodM (mRead s)
  · rfl
  · rw [hr] at hg
    obtain ⟨b0, b1, b2⟩ := goodM_bounds hg
    have e0 := T1.read_decT (s := X) rfl b0.1
    have e1 := T1.read_decT (s := Y) rfl b1.1
    have e2 := T1.read_decT (s := Z) rfl b2.1
    rw [e0, e1, e2] at hb
    rcases hb with hb | hb | hb | hb
    · cases hb
    · cases hb
    · cases hb
    · simp only at hb; rw [hg] at hb; cases hb
theorem pm_good {s X Y Z : ByteArray} (h : iPcs s = [X, Y, Z]) (hX : (T1.decP X).2 = true) (hY : (T1.decP Y).2 = true) (hZ : (T1.decP Z).2 = true) (hg : goodM ⟨(T1.decP X).1, (T1.decP Y).1, (T1.decP Z).1⟩ = true) : (mPieces s).length = 3 ∧ goodM (mRead s) = true ∧ mRead s = ⟨(T1.decP X).1, (T1.decP Y).1, (T1.decP Z).1⟩ := by
  have e : mPieces s = [X, Y, Z] := by rw [← ipc_yes (by rw [h]; rfl), h]
  obtain ⟨⟨a0, a1⟩, ⟨b0, b1⟩, c0, c1⟩ := goodM_bounds hg
  dsimp only at a0 a1 b0 b1 c0 c1
  have e0 := T1.dec_readT (s := X) (v := (T1.decP X).1) (by rw [← hX]) a0 (by omega)
  have e1 := T1.dec_readT (s := Y) (v := (T1.decP Y).1) (by rw [← hY]) b0 (by omega)
  have e2 := T1.dec_readT (s := Z) (v := (T1.decP Z).1) (by rw [← hZ]) c0 (by omega)
  have hr : mRead s = ⟨(T1.decP X).1, (T1.decP Y).1, (T1.decP Z).1⟩ := by unfold mRead; rw [e]; show (⟨T1.readT X, T1.readT Y, T1.readT Z⟩ : Me) = _; rw [e0, e1, e2]
  exact ⟨by rw [e]; rfl, by rw [hr]; exact hg, hr⟩

/-- The variable that strings.SplitN reads holds a number. -/
def MaxL (w : World) : Prop := ∃ m, w.cell? ⟨1, 0, none⟩ = some (.int .i64 m)
theorem MaxL.below {w w' : World} (h : MaxL w) (hb : Below w.heap.size w w') : MaxL w' := by
  obtain ⟨m, hm⟩ := h
  refine ⟨m, (hb.cell (p := ⟨1, 0, none⟩) ?_).trans hm⟩
  show (1 : Nat) < w.heap.size
  rcases Nat.lt_or_ge 1 w.heap.size with h' | h'
  · exact h'
  · simp only [World.cell?, Array.getElem?_eq_none h'] at hm; cases hm
theorem sent_below {w w' : World} {g : Nat} (h : T1.Sent w g) (hb : Below w.heap.size w w') : T1.Sent w' g := by
  obtain ⟨ev, h1, h2⟩ := h
  refine ⟨ev, (hb.cell (p := ⟨g, 0, none⟩) ?_).trans h1, h2⟩
  show g < w.heap.size
  rcases Nat.lt_or_ge g w.heap.size with h' | h'
  · exact h'
  · simp only [World.cell?, Array.getElem?_eq_none h'] at h1; cases h1
/-- What the library's readers ask of a world. -/
def Lay (w : World) : Prop := Tab w ∧ T1.Sent w 3 ∧ T1.Sent w 4 ∧ MaxL w
theorem Lay.below {w w' : World} (h : Lay w) (hb : Below w.heap.size w w') : Lay w' := ⟨h.1.below hb, sent_below h.2.1 hb, sent_below h.2.2.1 hb, h.2.2.2.below hb⟩


def SplM (s : ByteArray) (w w' : World) (e : Ending) : Prop := ∃ A q, e = .returned (.slice A (iPcs s).length q) ∧ Below w.heap.size w w' ∧ StrsIn w' A (iPcs s)
theorem cellsOf_get (l : List ByteArray) (N k : Nat) (h : k < l.length) : (Lib.cellsOf l N)[k]? = some (.string l[k]) := by
  unfold Lib.cellsOf
  rw [List.getElem?_toArray, List.getElem?_append_left (by simpa using h), List.getElem?_map, List.getElem?_eq_getElem h]; rfl
theorem splitM_any (s : ByteArray) (w : World) (hs : s.size ≤ 1048576) (hm : MaxL w) :
    Calls Tryd.prog 65 #[.string s, .string ⟨#[45]⟩, .int .i64 4] w fun e w' => SplM s w w' e := by
  obtain ⟨m, hm⟩ := hm
  refine (Tryd.strings_SplitN s (sepB 45) 4 m w (by omega) hm (Nat.le_refl _) (by decide) (by decide)).mono ?_
  rintro e w' ⟨rfl, rfl⟩
  refine ⟨_, _, rfl, (Below.refl _ _).alloc (Nat.le_refl _) _, fun _ => ⟨w.heap.size, 0, rfl, by simp, fun k hk => ?_⟩⟩
  rw [cell_of_heap (heap_new _ _), Nat.zero_add]
  exact cellsOf_get _ _ k hk

theorem MeAt.pu0 {w : World} {b : Nat} {t : TypeId} {m : Me} (h : MeAt w b t m) (x : Int) : MeAt (w.setCell ⟨b, 0, none⟩ (.int .i64 x)) b t ⟨x, m.tin, m.ant⟩ := heap_set (i := 0) h _
theorem MeAt.pu1 {w : World} {b : Nat} {t : TypeId} {m : Me} (h : MeAt w b t m) (x : Int) : MeAt (w.setCell ⟨b, 1, none⟩ (.int .i64 x)) b t ⟨m.lea, x, m.ant⟩ := heap_set (i := 1) h _
theorem MeAt.pu2 {w : World} {b : Nat} {t : TypeId} {m : Me} (h : MeAt w b t m) (x : Int) : MeAt (w.setCell ⟨b, 2, none⟩ (.int .i64 x)) b t ⟨m.lea, m.tin, x⟩ := heap_set (i := 2) h _
def pmK (a b c : Int) (k : Nat) : Me := ⟨if 0 < k then a else 0, if 1 < k then b else 0, if 2 < k then c else 0⟩
set_option maxRecDepth 100000 in
set_option maxHeartbeats 4000000 in
theorem implParM_any (s : ByteArray) (w : World) (hs : s.size ≤ 1048576) (hy : Lay w) :
    Calls Tryd.prog 33 #[.string s] w fun e w' => ParM s w w' e := by
  have hy0 : Lay (w.alloc (.cells #[.int .i64 0, .int .i64 0, .int .i64 0] 32)) := hy.below ((Below.refl _ _).alloc (Nat.le_refl _) _)
  have HSPN : Hid (∀ W : World, Lay W → Calls Tryd.prog 65 #[.string s, .string ⟨#[45]⟩, .int .i64 4] W fun e w' => SplM s W w' e) := Lib.hid fun W h => splitM_any s W hs h.2.2.2
  have HY0 := Lib.hid hy0; clear hy0 hy
  have HSZ : Hid (∀ x ∈ iPcs s, x.size ≤ 1048576) := Lib.hid fun x hx => Nat.le_trans (split_size 45 _ s x hx) hs
  go_enter Tryd.func33, Tryd.ntmps33
  go_wp2_with fail
  refine (HSPN.out _ HY0.out).mono ?_
  rintro e w1 ⟨A, q0, rfl, hb, hin⟩
  have HG : Hid (MeAt w1 w.heap.size 32 zMe) := Lib.hid ((MeAt.new w 32 zMe).next hb)
  have HB1 : Hid (Below w.heap.size w w1) := Lib.hid (((Below.refl _ _).alloc (Nat.le_refl _) _).trans (hb.mono (by simp)))
  have HY1 := Lib.hid (HY0.out.below hb)
  have HIN := Lib.hid hin
  clear hb hin HSPN HY0
  by_cases h5 : (iPcs s).length = 3
  rotate_left
  · have hne : ((iPcs s).length : Int) ≠ 3 := by omega
    have hne1 : (((iPcs s).length : Int) != 3) = true := by simp; omega
    have HV := Lib.hid (mpar_no (s := s) (.inl (ipc_no h5)))
    clear h5 HIN HSZ HY1
    generalize iPcs s = L at *
    obtain ⟨c0, c1, c2⟩ := HG.out.cells
    have f0 := HG.out.free 0; have f1 := HG.out.free 1; have f2 := HG.out.free 2
    simp only [zMe] at c0 c1 c2
    have hgl := HG.out.lt
    go_wp2
    refine bodyPost_ret (v := .tuple #[.agg #[.int .i64 zMe.lea, .int .i64 zMe.tin, .int .i64 zMe.ant], .bool false]) (by simp [results, Tryd.results33, go_sem, c0, c1, c2, f0, f1, f2, zMe]) rfl ⟨ret_meb (a := zMe) (b := false) HV.out.2.symm HV.out.1.symm, ?_⟩
    repeat (first | (with_reducible exact HB1.out) | (refine Below.setCell ?_ (by first | (simp; done) | (simp; omega)) _))
  obtain ⟨X, Y, Z, hxyz⟩ := list3 h5
  have HBAD := Lib.hid (fun h => mpar_no (.inr (pm_bad hxyz h)))
  have HGOOD := Lib.hid (fun hx hy hz hg => pm_good hxyz hx hy hz hg)
  have hsX : X.size ≤ 281474976710656 := by have := HSZ.out X (by rw [hxyz]; simp); omega
  have hsY : Y.size ≤ 281474976710656 := by have := HSZ.out Y (by rw [hxyz]; simp); omega
  have hsZ : Z.size ≤ 281474976710656 := by have := HSZ.out Z (by rw [hxyz]; simp); omega
  have CX := Lib.hid (fun (W : World) (h : Lay W) => T1.parseDec_any X W hsX h.1 h.2.1 h.2.2.1)
  have CY := Lib.hid (fun (W : World) (h : Lay W) => T1.parseDec_any Y W hsY h.1 h.2.1 h.2.2.1)
  have CZ := Lib.hid (fun (W : World) (h : Lay W) => T1.parseDec_any Z W hsZ h.1 h.2.1 h.2.2.1)
  obtain ⟨b, off, rfl, hbl, hc⟩ := HIN.out (by omega)
  have d0 : w1.cell? ⟨b, off, none⟩ = some (.string X) := by have := hc 0 (by omega); rw [Nat.add_zero] at this; rw [this]; simp [hxyz]
  have d1 : w1.cell? ⟨b, off + 1, none⟩ = some (.string Y) := by have := hc 1 (by omega); rw [this]; simp [hxyz]
  have d2 : w1.cell? ⟨b, off + 2, none⟩ = some (.string Z) := by have := hc 2 (by omega); rw [this]; simp [hxyz]
  have HC : Hid (∀ W, Below w1.heap.size w1 W → (b < W.heap.size ∧ W.cell? ⟨b, off, none⟩ = some (.string X) ∧ W.cell? ⟨b, off + 1, none⟩ = some (.string Y) ∧ W.cell? ⟨b, off + 2, none⟩ = some (.string Z))) := Lib.hid (fun W hb => ⟨Nat.lt_of_lt_of_le hbl hb.size, (hb.cell (p := ⟨b, off, none⟩) hbl).trans d0, (hb.cell (p := ⟨b, off + 1, none⟩) hbl).trans d1, (hb.cell (p := ⟨b, off + 2, none⟩) hbl).trans d2⟩)
  clear hc hsX hsY hsZ HSZ HIN d0 d1 d2 hxyz
  rw [h5]
  clear h5
  generalize (T1.decP X).1 = x at *
  generalize (T1.decP Y).1 = y at *
  generalize (T1.decP Z).1 = z at *
  generalize (T1.decP X).2 = ox at *
  generalize (T1.decP Y).2 = oy at *
  generalize (T1.decP Z).2 = oz at *
  obtain ⟨g, hgg⟩ : ∃ g, g = w1.heap.size := ⟨_, rfl⟩
  have hgw : w.heap.size < g := by rw [hgg]; exact HG.out.lt
  have hN0 : MeAt (w1.alloc (.cells #[.int .i64 0, .int .i64 0, .int .i64 0] 66)) g 66 (pmK x y z 0) := by rw [hgg]; exact MeAt.new w1 _ zMe
  have hB0 : Below w1.heap.size w1 (w1.alloc (.cells #[.int .i64 0, .int .i64 0, .int .i64 0] 66)) := (Below.refl _ _).alloc (Nat.le_refl _) _
  have HN0 := Lib.hid hN0; have HB0 := Lib.hid hB0
  clear hN0 hB0
  have HGG := Lib.hid hgg
  clear hgg
  go_wp2
  rw [← HGG.out]
  go_loopw [19] (fun i wr => ∃ (k : Nat), k ≤ 3 ∧ i = .int .i64 k ∧ ((0 < k → ox = true) ∧ (1 < k → oy = true) ∧ (2 < k → oz = true)) ∧ MeAt wr g 66 (pmK x y z k) ∧ Below w1.heap.size w1 wr) (fun i _ => 3 - (intOf i).toNat)
  case atStart => exact ⟨0, Nat.zero_le _, rfl, ⟨fun h => by omega, fun h => by omega, fun h => by omega⟩, HN0.out, HB0.out⟩
  case round =>
    obtain ⟨k, hk, rfl, hok, hn, hb⟩ := hrel
    have HOK := Lib.hid hok; have HN := Lib.hid hn; have HBr := Lib.hid hb
    clear hok hn hb HN0 HB0
    have HGr : Hid (MeAt wr w.heap.size 32 zMe) := Lib.hid (HG.out.next HBr.out)
    have HYr := Lib.hid (HY1.out.below HBr.out)
    have HBW : Hid (Below w.heap.size w wr) := Lib.hid (HB1.out.trans (HBr.out.mono HB1.out.size))
    obtain ⟨hbl2, e0, e1, e2⟩ := HC.out _ HBr.out
    rcases (by omega : k = 0 ∨ k = 1 ∨ k = 2 ∨ k = 3) with rfl | rfl | rfl | rfl
    · clear e1 e2
      go_wp2_with fail
      refine (CX.out _ HYr.out).mono ?_
      rintro e w3 ⟨rfl, hb3⟩
      have HN3 := Lib.hid (HN.out.next hb3)
      have HG3 := Lib.hid (HGr.out.next hb3)
      have HB3 : Hid (Below w1.heap.size w1 w3) := Lib.hid (HBr.out.trans (hb3.mono HBr.out.size))
      have HW3 : Hid (Below w.heap.size w w3) := Lib.hid (HBW.out.trans (hb3.mono HBW.out.size))
      clear hb3 HN HGr HBr HBW HYr e0
      cases ox
      · have HV := Lib.hid (HBAD.out (.inl rfl))
        obtain ⟨c0, c1, c2⟩ := HG3.out.cells
        have f0 := HG3.out.free 0; have f1 := HG3.out.free 1; have f2 := HG3.out.free 2
        simp only [zMe] at c0 c1 c2
        have hgl := HG3.out.lt
        go_wp2
        refine bodyPost_ret (v := .tuple #[.agg #[.int .i64 zMe.lea, .int .i64 zMe.tin, .int .i64 zMe.ant], .bool false]) (by simp [results, Tryd.results33, go_sem, c0, c1, c2, f0, f1, f2, zMe]) rfl ⟨ret_meb (a := zMe) (b := false) HV.out.2.symm HV.out.1.symm, ?_⟩
        repeat (first | (with_reducible exact HW3.out) | (refine Below.setCell ?_ (by first | (simp; done) | (simp; omega)) _))
      · have HN4 := Lib.hid (MeAt.pu0 HN3.out x)
        obtain ⟨n0, n1, n2⟩ := HN3.out.cells
        have m0 := HN3.out.free 0; have m1 := HN3.out.free 1; have m2 := HN3.out.free 2
        have nl := HN3.out.lt
        go_wp2
        go_roundw
        case rel => exact ⟨0 + 1, by omega, by go_num, ⟨fun _ => trivial, fun h => by omega, fun h => by omega⟩, HN4.out, HB3.out.setCell (by show _ ≤ g; have := HGG.out; omega) _⟩
        case measure => simp [intOf]
    · clear e0 e2
      go_wp2_with fail
      refine (CY.out _ HYr.out).mono ?_
      rintro e w3 ⟨rfl, hb3⟩
      have HN3 := Lib.hid (HN.out.next hb3)
      have HG3 := Lib.hid (HGr.out.next hb3)
      have HB3 : Hid (Below w1.heap.size w1 w3) := Lib.hid (HBr.out.trans (hb3.mono HBr.out.size))
      have HW3 : Hid (Below w.heap.size w w3) := Lib.hid (HBW.out.trans (hb3.mono HBW.out.size))
      clear hb3 HN HGr HBr HBW HYr e1
      cases oy
      · have HV := Lib.hid (HBAD.out (.inr (.inl rfl)))
        obtain ⟨c0, c1, c2⟩ := HG3.out.cells
        have f0 := HG3.out.free 0; have f1 := HG3.out.free 1; have f2 := HG3.out.free 2
        simp only [zMe] at c0 c1 c2
        have hgl := HG3.out.lt
        go_wp2
        refine bodyPost_ret (v := .tuple #[.agg #[.int .i64 zMe.lea, .int .i64 zMe.tin, .int .i64 zMe.ant], .bool false]) (by simp [results, Tryd.results33, go_sem, c0, c1, c2, f0, f1, f2, zMe]) rfl ⟨ret_meb (a := zMe) (b := false) HV.out.2.symm HV.out.1.symm, ?_⟩
        repeat (first | (with_reducible exact HW3.out) | (refine Below.setCell ?_ (by first | (simp; done) | (simp; omega)) _))
      · have HN4 := Lib.hid (MeAt.pu1 HN3.out y)
        obtain ⟨n0, n1, n2⟩ := HN3.out.cells
        have m0 := HN3.out.free 0; have m1 := HN3.out.free 1; have m2 := HN3.out.free 2
        have nl := HN3.out.lt
        go_wp2
        go_roundw
        case rel => exact ⟨1 + 1, by omega, by go_num, ⟨fun _ => HOK.out.1 (by omega), fun _ => trivial, fun h => by omega⟩, HN4.out, HB3.out.setCell (by show _ ≤ g; have := HGG.out; omega) _⟩
        case measure => simp [intOf]
    · clear e0 e1
      go_wp2_with fail
      refine (CZ.out _ HYr.out).mono ?_
      rintro e w3 ⟨rfl, hb3⟩
      have HN3 := Lib.hid (HN.out.next hb3)
      have HG3 := Lib.hid (HGr.out.next hb3)
      have HB3 : Hid (Below w1.heap.size w1 w3) := Lib.hid (HBr.out.trans (hb3.mono HBr.out.size))
      have HW3 : Hid (Below w.heap.size w w3) := Lib.hid (HBW.out.trans (hb3.mono HBW.out.size))
      clear hb3 HN HGr HBr HBW HYr e2
      cases oz
      · have HV := Lib.hid (HBAD.out (.inr (.inr (.inl rfl))))
        obtain ⟨c0, c1, c2⟩ := HG3.out.cells
        have f0 := HG3.out.free 0; have f1 := HG3.out.free 1; have f2 := HG3.out.free 2
        simp only [zMe] at c0 c1 c2
        have hgl := HG3.out.lt
        go_wp2
        refine bodyPost_ret (v := .tuple #[.agg #[.int .i64 zMe.lea, .int .i64 zMe.tin, .int .i64 zMe.ant], .bool false]) (by simp [results, Tryd.results33, go_sem, c0, c1, c2, f0, f1, f2, zMe]) rfl ⟨ret_meb (a := zMe) (b := false) HV.out.2.symm HV.out.1.symm, ?_⟩
        repeat (first | (with_reducible exact HW3.out) | (refine Below.setCell ?_ (by first | (simp; done) | (simp; omega)) _))
      · have HN4 := Lib.hid (MeAt.pu2 HN3.out z)
        obtain ⟨n0, n1, n2⟩ := HN3.out.cells
        have m0 := HN3.out.free 0; have m1 := HN3.out.free 1; have m2 := HN3.out.free 2
        have nl := HN3.out.lt
        go_wp2
        go_roundw
        case rel => exact ⟨2 + 1, by omega, by go_num, ⟨fun _ => HOK.out.1 (by omega), fun _ => HOK.out.2.1 (by omega), fun _ => trivial⟩, HN4.out, HB3.out.setCell (by show _ ≤ g; have := HGG.out; omega) _⟩
        case measure => simp [intOf]
    · clear e0 e1 e2
      have HNN : Hid (MeAt wr g 66 ⟨x, y, z⟩) := Lib.hid (by have h := HN.out; simpa [pmK] using h)
      obtain ⟨n0, n1, n2⟩ := HNN.out.cells
      have nl := HNN.out.lt
      go_wp2_with fail
      refine (melt_any ⟨x, y, z⟩ _).mono ?_
      rintro e w4 ⟨rfl, hb4⟩
      have HG4 := Lib.hid (HGr.out.next hb4)
      have HW4 : Hid (Below w.heap.size w w4) := Lib.hid (HBW.out.trans (hb4.mono HBW.out.size))
      clear hb4 n0 n1 n2 nl HN HNN HGr HBW
      go_wp2_with fail
      refine (implIsMelt_any ⟨x, y, z⟩ _).mono ?_
      rintro e w5 ⟨rfl, hb5⟩
      have HG5 := Lib.hid ((HG4.out.alloc _).next hb5)
      have HN5 := Lib.hid ((MeAt.new w4 32 ⟨x, y, z⟩).next hb5)
      have HW5 : Hid (Below w.heap.size w w5) := Lib.hid ((HW4.out.alloc HW4.out.size _).trans (hb5.mono (by have := HW4.out.size; simp; omega)))
      clear hb5 HG4 HW4
      cases hgd : goodM ⟨x, y, z⟩
      · have HV := Lib.hid (HBAD.out (.inr (.inr (.inr hgd))))
        clear hgd
        obtain ⟨c0, c1, c2⟩ := HG5.out.cells
        have f0 := HG5.out.free 0; have f1 := HG5.out.free 1; have f2 := HG5.out.free 2
        simp only [zMe] at c0 c1 c2
        have hgl := HG5.out.lt
        go_wp2
        refine bodyPost_ret (v := .tuple #[.agg #[.int .i64 zMe.lea, .int .i64 zMe.tin, .int .i64 zMe.ant], .bool false]) (by simp [results, Tryd.results33, go_sem, c0, c1, c2, f0, f1, f2, zMe]) rfl ⟨ret_meb (a := zMe) (b := false) HV.out.2.symm HV.out.1.symm, ?_⟩
        repeat (first | (with_reducible exact HW5.out) | (refine Below.setCell ?_ (by first | (simp; done) | (simp; omega)) _))
      · obtain ⟨p1, p2, p3⟩ := HGOOD.out (HOK.out.1 (by omega)) (HOK.out.2.1 (by omega)) (HOK.out.2.2 (by omega)) hgd
        have HV := Lib.hid (mpar_yes p1 p2)
        have HP := Lib.hid p3
        clear hgd p1 p2 p3
        obtain ⟨n0, n1, n2⟩ := HN5.out.cells
        have nl := HN5.out.lt
        obtain ⟨c0, c1, c2⟩ := HG5.out.cells
        have f0 := HG5.out.free 0; have f1 := HG5.out.free 1; have f2 := HG5.out.free 2
        simp only [zMe] at c0 c1 c2
        have hgl := HG5.out.lt
        go_wp2
        refine bodyPost_ret (v := .tuple #[.agg #[.int .i64 x, .int .i64 y, .int .i64 z], .bool true]) (by simp [results, Tryd.results33, go_sem, c0, c1, c2, f0, f1, f2]) rfl ⟨ret_meb (a := ⟨x, y, z⟩) (b := true) (by rw [HV.out.2, HP.out]) HV.out.1.symm, ?_⟩
        repeat (first | (with_reducible exact HW5.out) | (refine Below.setCell ?_ (by first | (simp; done) | (simp; omega)) _))
end Go.Proofs.YtebbgdihifihnaaDoor
