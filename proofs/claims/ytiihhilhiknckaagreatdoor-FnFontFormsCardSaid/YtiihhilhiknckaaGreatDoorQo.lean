/-
  impl.parseSort answers sortOf, given what strings.IndexAny answers at the ten digits. (For ParseFont.)
-/
import Derived.Test.YtiihhilhiknckaaGreatDoorGC
namespace Go.Proofs.YtiihhilhiknckaaGreatDoor.P
open Go.RowKit
set_option linter.unusedVariables false

def SortTo (p : ByteArray) (w w' : World) (e : Ending) : Prop := ∃ (r : ByteArray × Int) (ok : Bool), e = .returned (.tuple #[.agg #[.string r.1, .int .i64 r.2], .bool ok]) ∧ ((ok = true ∧ sortOf p = some r) ∨ (ok = false ∧ sortOf p = none)) ∧ Below w.heap.size w w'
theorem SortTo.no {p : ByteArray} {w w' : World} (h : sortOf p = none) (hb : Below w.heap.size w w') : SortTo p w w' (.returned (.tuple #[.agg #[.string ⟨#[]⟩, .int .i64 0], .bool false])) := ⟨(⟨#[]⟩, 0), false, rfl, .inr ⟨rfl, h⟩, hb⟩
theorem SortTo.yes {p c : ByteArray} {z : Int} {w w' : World} (h : sortOf p = some (c, z)) (hb : Below w.heap.size w w') : SortTo p w w' (.returned (.tuple #[.agg #[.string c, .int .i64 z], .bool true])) := ⟨(c, z), true, rfl, .inl ⟨rfl, h⟩, hb⟩

theorem Sent.below {w w' : World} {g : Nat} (h : Sent w g) (hb : Below w.heap.size w w') : Sent w' g := by
  obtain ⟨ev, h1, h2⟩ := h
  refine ⟨ev, (hb.cell (p := ⟨g, 0, none⟩) ?_).trans h1, h2⟩
  show g < w.heap.size
  rcases Nat.lt_or_ge g w.heap.size with h' | h'
  · exact h'
  · simp only [World.cell?, Array.getElem?_eq_none h'] at h1; cases h1

set_option maxRecDepth 100000 in
set_option maxHeartbeats 2000000 in
theorem parseSort_any (p : ByteArray) (w : World) (hs : p.size ≤ 1048576) (ht : Tab w) (hs2 : Sent w 2) (hs3 : Sent w 3) :
    Calls Tryz.prog 40 #[.string p] w fun e w' => SortTo p w w' e := by
  have HIX : Hid (∀ W : World, Calls Tryz.prog 61 #[.string p, .string ⟨#[48, 49, 50, 51, 52, 53, 54, 55, 56, 57]⟩] W fun e w' => e = .returned (.int .i64 (Lib.indexAny p.data.toList digitsL)) ∧ Below W.heap.size W w') := Lib.hid fun W => indexAny_any p W hs
  have HT := Lib.hid ht; have HS2 := Lib.hid hs2; have HS3 := Lib.hid hs3
  clear ht hs2 hs3
  have hneg : Lib.indexAny p.data.toList digitsL < 0 → sortOf p = none := fun h => by unfold sortOf; rw [if_pos h]
  have hpos : ∀ i : Nat, Lib.indexAny p.data.toList digitsL = (i : Int) → i ≤ p.size ∧ sortOf p = if (decP (p.extract i p.size)).2 && tySortF (p.extract 0 i) (decP (p.extract i p.size)).1 then some (p.extract 0 i, (decP (p.extract i p.size)).1) else none := fun i h => by
    have hl := index_le p (by omega)
    unfold sortOf
    rw [if_neg (by omega), h, Int.toNat_natCast]
    rw [h, Int.toNat_natCast] at hl
    exact ⟨hl, rfl⟩
  have HNEG := Lib.hid hneg; have HPOS := Lib.hid hpos
  clear hneg hpos
  generalize Lib.indexAny p.data.toList digitsL = j at *
  go_enter Tryz.func40, Tryz.ntmps40
  go_wp2_with fail
  refine (HIX.out _).mono ?_
  rintro e w1 ⟨rfl, hb⟩
  have HG : Hid (w1.heap[w.heap.size]? = some (.cells #[.string .empty, .int .i64 0] 25 (0, 0))) := Lib.hid ((hb.block _ (by simp)).trans (heap_new _ _))
  have HB1 : Hid (Below w.heap.size w w1) := Lib.hid (((Below.refl _ _).alloc (Nat.le_refl _) _).trans (hb.mono (by simp)))
  clear hb HIX
  by_cases hj : j < 0
  · have HN := Lib.hid (HNEG.out hj)
    clear HPOS HNEG
    have hh := HG.out
    have hltB := lt_of_heap hh
    have c0 := (cell_of_heap hh 0).trans (show _ = some (Value.string .empty) from rfl)
    have c1 := (cell_of_heap hh 1).trans (show _ = some (Value.int .i64 0) from rfl)
    have f0 := free_of_heap hh 0; have f1 := free_of_heap hh 1
    have h1 := heap_set hh (i := 0) (.string ⟨#[]⟩)
    have h2 := heap_set h1 (i := 1) (.int .i64 0)
    have HE0 := Lib.hid ((cell_of_heap h1 0).trans (show _ = some (Value.string ⟨#[]⟩) from rfl))
    have HE1 := Lib.hid ((cell_of_heap h2 1).trans (show _ = some (Value.int .i64 0) from rfl))
    have HBZ := Lib.hid ((HB1.out.setCell (p := ⟨w.heap.size, 0, none⟩) (Nat.le_refl _) (.string ⟨#[]⟩)).setCell (p := ⟨w.heap.size, 1, none⟩) (Nat.le_refl _) (.int .i64 0))
    clear hh h1 h2
    go_wp2_with fail
    refine bodyPost_ret (v := .tuple #[.agg #[.string ⟨#[]⟩, .int .i64 0], .bool false]) (by simp [results, Tryz.results40, go_sem, HE0.out, HE1.out]) rfl ?_
    exact SortTo.no HN.out HBZ.out
  obtain ⟨i, rfl⟩ := Int.eq_ofNat_of_zero_le (show 0 ≤ j by omega)
  obtain ⟨hi, hso⟩ := HPOS.out i rfl
  have HSO := Lib.hid hso
  clear hso HPOS HNEG
  have hes : (p.extract i p.size).size ≤ 281474976710656 := by rw [ByteArray.size_extract]; omega
  have hcs : (p.extract 0 i).size ≤ maxLen := by rw [ByteArray.size_extract]; unfold maxLen; omega
  go_wp2_with fail
  refine (parseDec_any (p.extract i p.size) _ hes (HT.out.below HB1.out) (HS2.out.below HB1.out) (HS3.out.below HB1.out)).mono ?_
  rintro e w2 ⟨rfl, hb2⟩
  have HG2 := Lib.hid ((hb2.block _ (lt_of_heap HG.out)).trans HG.out)
  have HB2 := Lib.hid (HB1.out.trans (hb2.mono HB1.out.size))
  clear hb2 HG HB1
  generalize (decP (p.extract i p.size)).1 = z at *
  generalize (decP (p.extract i p.size)).2 = b at *
  cases b
  · have HN : Hid (sortOf p = none) := Lib.hid (by rw [HSO.out]; rfl)
    clear HSO
    have hh := HG2.out
    have hltB := lt_of_heap hh
    have c0 := (cell_of_heap hh 0).trans (show _ = some (Value.string .empty) from rfl)
    have c1 := (cell_of_heap hh 1).trans (show _ = some (Value.int .i64 0) from rfl)
    have f0 := free_of_heap hh 0; have f1 := free_of_heap hh 1
    have h1 := heap_set hh (i := 0) (.string ⟨#[]⟩)
    have h2 := heap_set h1 (i := 1) (.int .i64 0)
    have HE0 := Lib.hid ((cell_of_heap h1 0).trans (show _ = some (Value.string ⟨#[]⟩) from rfl))
    have HE1 := Lib.hid ((cell_of_heap h2 1).trans (show _ = some (Value.int .i64 0) from rfl))
    have HBZ := Lib.hid ((HB2.out.setCell (p := ⟨w.heap.size, 0, none⟩) (Nat.le_refl _) (.string ⟨#[]⟩)).setCell (p := ⟨w.heap.size, 1, none⟩) (Nat.le_refl _) (.int .i64 0))
    have h3 := (((Below.refl _ _).alloc (Nat.le_refl _) (.cells #[.string (p.extract 0 i), .int .i64 z] 25)).block _ (lt_of_heap h2)).trans h2
    have HF0 := Lib.hid ((cell_of_heap h3 0).trans (show _ = some (Value.string ⟨#[]⟩) from rfl))
    have HF1 := Lib.hid ((cell_of_heap h3 1).trans (show _ = some (Value.int .i64 0) from rfl))
    have HBA := Lib.hid (HBZ.out.alloc HBZ.out.size (.cells #[.string (p.extract 0 i), .int .i64 z] 25))
    clear hh h1 h2 h3
    go_wp2_with fail
    refine bodyPost_ret (v := .tuple #[.agg #[.string ⟨#[]⟩, .int .i64 0], .bool false]) (by simp [results, Tryz.results40, go_sem, HF0.out, HF1.out]) rfl ?_
    exact SortTo.no HN.out HBA.out
  · cases hty : tySortF (p.extract 0 i) z
    · have HN : Hid (sortOf p = none) := Lib.hid (by rw [HSO.out, hty]; rfl)
      have HTY := Lib.hid hty
      clear HSO hty
      go_wp2_with fail
      refine (implIsSort_is (p.extract 0 i) z false _ hcs HTY).mono ?_
      rintro e w3 ⟨rfl, hb3⟩
      have HB3 := Lib.hid ((HB2.out.alloc HB2.out.size (.cells #[.string (p.extract 0 i), .int .i64 z] 25)).trans (hb3.mono (HB2.out.alloc HB2.out.size (.cells #[.string (p.extract 0 i), .int .i64 z] 25)).size))
      have HG3 := Lib.hid ((hb3.block _ (by have := lt_of_heap HG2.out; simp; omega)).trans ((((Below.refl _ _).alloc (Nat.le_refl _) (.cells #[.string (p.extract 0 i), .int .i64 z] 25)).block _ (lt_of_heap HG2.out)).trans HG2.out))
      clear hb3 HB2 HG2
      have hh := HG3.out
      have hltB := lt_of_heap hh
      have c0 := (cell_of_heap hh 0).trans (show _ = some (Value.string .empty) from rfl)
      have c1 := (cell_of_heap hh 1).trans (show _ = some (Value.int .i64 0) from rfl)
      have f0 := free_of_heap hh 0; have f1 := free_of_heap hh 1
      have h1 := heap_set hh (i := 0) (.string ⟨#[]⟩)
      have h2 := heap_set h1 (i := 1) (.int .i64 0)
      have HE0 := Lib.hid ((cell_of_heap h1 0).trans (show _ = some (Value.string ⟨#[]⟩) from rfl))
      have HE1 := Lib.hid ((cell_of_heap h2 1).trans (show _ = some (Value.int .i64 0) from rfl))
      have HBZ := Lib.hid ((HB3.out.setCell (p := ⟨w.heap.size, 0, none⟩) (Nat.le_refl _) (.string ⟨#[]⟩)).setCell (p := ⟨w.heap.size, 1, none⟩) (Nat.le_refl _) (.int .i64 0))
      clear hh h1 h2
      go_wp2_with fail
      refine bodyPost_ret (v := .tuple #[.agg #[.string ⟨#[]⟩, .int .i64 0], .bool false]) (by simp [results, Tryz.results40, go_sem, HE0.out, HE1.out]) rfl ?_
      exact SortTo.no HN.out HBZ.out
    · have HN : Hid (sortOf p = some (p.extract 0 i, z)) := Lib.hid (by rw [HSO.out, hty]; rfl)
      have HTY := Lib.hid hty
      clear HSO hty
      go_wp2_with fail
      refine (implIsSort_is (p.extract 0 i) z true _ hcs HTY).mono ?_
      rintro e w3 ⟨rfl, hb3⟩
      generalize p.extract 0 i = c at *
      have HB3 := Lib.hid ((HB2.out.alloc HB2.out.size (.cells #[.string c, .int .i64 z] 25)).trans (hb3.mono (HB2.out.alloc HB2.out.size (.cells #[.string c, .int .i64 z] 25)).size))
      have HG3 := Lib.hid ((hb3.block _ (by have := lt_of_heap HG2.out; simp; omega)).trans ((((Below.refl _ _).alloc (Nat.le_refl _) (.cells #[.string c, .int .i64 z] 25)).block _ (lt_of_heap HG2.out)).trans HG2.out))
      have hn := hb3.block _ (show w2.heap.size < (w2.alloc (.cells #[.string c, .int .i64 z] 25)).heap.size by simp)
      have hn' := hn.trans (heap_new w2 _)
      have n0 := (cell_of_heap hn' 0).trans (show _ = some (Value.string c) from rfl)
      have n1 := (cell_of_heap hn' 1).trans (show _ = some (Value.int .i64 z) from rfl)
      clear hb3 HB2 HG2 hn hn'
      have hh := HG3.out
      have hltB := lt_of_heap hh
      have c0 := (cell_of_heap hh 0).trans (show _ = some (Value.string .empty) from rfl)
      have c1 := (cell_of_heap hh 1).trans (show _ = some (Value.int .i64 0) from rfl)
      have f0 := free_of_heap hh 0; have f1 := free_of_heap hh 1
      have h1 := heap_set hh (i := 0) (.string c)
      have h2 := heap_set h1 (i := 1) (.int .i64 z)
      have HE0 := Lib.hid ((cell_of_heap h1 0).trans (show _ = some (Value.string c) from rfl))
      have HE1 := Lib.hid ((cell_of_heap h2 1).trans (show _ = some (Value.int .i64 z) from rfl))
      have HBZ := Lib.hid ((HB3.out.setCell (p := ⟨w.heap.size, 0, none⟩) (Nat.le_refl _) (.string c)).setCell (p := ⟨w.heap.size, 1, none⟩) (Nat.le_refl _) (.int .i64 z))
      clear hh h1 h2
      go_wp2_with fail
      refine bodyPost_ret (v := .tuple #[.agg #[.string c, .int .i64 z], .bool true]) (by simp [results, Tryz.results40, go_sem, HE0.out, HE1.out]) rfl ?_
      exact SortTo.yes HN.out HBZ.out
end Go.Proofs.YtiihhilhiknckaaGreatDoor.P
