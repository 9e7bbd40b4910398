/-
  The contracts of spec.SetOfCode and impl.SetOfCode.
-/
import Derived.Test.YtiihhilhiknckaaGreatDoorCmp
import Derived.Test.YtiihhilhiknckaaGreatDoorWide
namespace Go.Proofs.YtiihhilhiknckaaGreatDoor
open Go.RowKit
set_option linter.unusedVariables false

/-- The sort with a Code, of a font. -/
noncomputable def socF (f : List (ByteArray × Int)) (s : ByteArray) : Option Nat := if fontB f && decide (0 ≤ findI f s 0) then some (findI f s 0).toNat else none
def socW (f : List (ByteArray × Int)) : Option Nat → Int | some i => widthAt f i | none => 0
theorem soc_no {f : List (ByteArray × Int)} {s : ByteArray} (h : fontB f = false ∨ findI f s 0 < 0) : socF f s = none := by
  unfold socF
  rw [if_neg]
  simp only [Bool.and_eq_true, decide_eq_true_eq, not_and]
  intro h1
  rcases h with h | h
  · rw [h] at h1; cases h1
  · omega
theorem soc_yes {f : List (ByteArray × Int)} {s : ByteArray} {i : Nat} (h : fontB f = true) (hi : findI f s 0 = (i : Int)) : socF f s = some i := by
  unfold socF
  rw [hi, h, if_pos (by simp)]
  simp

theorem specSoc_any (f : List (ByteArray × Int)) (A : Option Addr) (cap : Nat) (s : ByteArray) (lo : Nat) (w : World) (hf : SortsIn w lo A f) (hn : f.length ≤ 1048576) (ho : CodesOk f) :
    Calls Tryz.prog 20 #[.slice A f.length cap, .string s] w fun e w' => e = .returned (.tuple #[.int .i64 (socW f (socF f s)), .bool (socF f s).isSome]) ∧ Below w.heap.size w w' := by
  have HS := Lib.hid hf; clear hf
  have HO := Lib.hid ho; clear ho
  go_enter Tryz.func20, Tryz.ntmps20
  go_wp2_with fail
  refine (tyFind_any f A cap s lo _ HS.out hn).mono ?_
  rintro e w1 ⟨rfl, hb1⟩
  have H1 := Lib.hid (HS.out.below hb1 (Nat.le_refl _))
  have HC := Lib.hid (findI_cases f s)
  have HNO : Hid (fontB f = false ∨ findI f s 0 < 0 → socF f s = none) := soc_no
  have HYES : Hid (∀ i : Nat, fontB f = true → findI f s 0 = (i : Int) → socF f s = some i) := fun i h hi => soc_yes h hi
  generalize findI f s 0 = r at *
  go_wp2_with fail
  refine (tyFont_any f A cap lo _ H1.out hn HO.out).mono ?_
  rintro e w2 ⟨rfl, hb2⟩
  have hb := hb1.trans (hb2.mono hb1.size)
  have H2 := Lib.hid (HS.out.below hb (Nat.le_refl _))
  clear hb1 hb2 H1
  cases hv : fontB f
  · have HN := Lib.hid (HNO.out (.inl hv))
    clear hv
    go_wp2
    go_ret2
    exact ⟨by rw [HN.out]; rfl, hb⟩
  · rcases HC.out with ⟨hr, _⟩ | ⟨i, hi, _, hr⟩
    · have HN := Lib.hid (HNO.out (.inr (by omega)))
      clear hv
      have hlt : r < 0 := by omega
      have HR := Lib.hid hr; clear hr
      go_wp2
      go_ret2
      exact ⟨by rw [HN.out]; rfl, hb⟩
    · have HY := Lib.hid (HYES.out i hv hr)
      clear hv
      subst hr
      have HW := Lib.hid (widthAt_of hi)
      obtain ⟨b, off, rfl, _, hbl, hc⟩ := H2.out (by omega)
      obtain ⟨_, hc1⟩ := hc i hi
      clear hc
      have hnlt : ¬ (i : Int) < 0 := by omega
      go_wp2
      go_ret2
      exact ⟨by rw [HY.out]; show _ = Ending.returned (.tuple #[.int .i64 (widthAt f i), .bool true]); rw [HW.out]; rfl, hb⟩

theorem implSoc_any (f : List (ByteArray × Int)) (A : Option Addr) (cap : Nat) (s : ByteArray) (lo : Nat) (w : World) (hf : SortsIn w lo A f) (hn : f.length ≤ 1048576) (ho : CodesOk f) :
    Calls Tryz.prog 19 #[.slice A f.length cap, .string s] w fun e w' => e = .returned (.tuple #[.int .i64 (socW f (socF f s)), .bool (socF f s).isSome]) ∧ Below w.heap.size w w' := by
  have HS := Lib.hid hf; clear hf
  have HO := Lib.hid ho; clear ho
  go_enter Tryz.func19, Tryz.ntmps19
  go_wp2_with fail
  refine (implIsFont_any f A cap lo _ HS.out hn HO.out).mono ?_
  rintro e w1 ⟨rfl, hb1⟩
  cases hv : fontB f
  · have HN := Lib.hid (soc_no (s := s) (.inl hv))
    clear hv
    go_wp2
    go_ret2
    exact ⟨by rw [HN.out]; rfl, hb1⟩
  · have HV := Lib.hid hv
    have HF := Lib.hid (fontB_iff.1 hv)
    have H1 := Lib.hid (HS.out.below hb1 (Nat.le_refl _))
    clear hv
    go_wp2_with fail
    refine (place_any f A cap s lo _ H1.out HF.out).mono ?_
    intro e w2 hfo
    obtain ⟨i, hp, rfl, hb2⟩ := hfo
    have hb := hb1.trans (hb2.mono hb1.size)
    have H2 := Lib.hid (HS.out.below hb (Nat.le_refl _))
    have HPF := Lib.hid (place_find HF.out hp)
    clear hp hb1 hb2 H1
    by_cases hin : i < f.length ∧ codeB0 f i = s
    · rw [decide_eq_true hin]
      have HY := Lib.hid (soc_yes (i := i) HV.out (by rw [HPF.out, if_pos hin]))
      have hi := hin.1
      have HW := Lib.hid (widthAt_of hi)
      obtain ⟨b, off, rfl, _, hbl, hc⟩ := H2.out (by omega)
      obtain ⟨_, hc1⟩ := hc i hi
      clear hc hin
      go_wp2
      go_ret2
      exact ⟨by rw [HY.out]; show _ = Ending.returned (.tuple #[.int .i64 (widthAt f i), .bool true]); rw [HW.out]; rfl, hb⟩
    · rw [decide_eq_false hin]
      have HN := Lib.hid (soc_no (f := f) (s := s) (.inr (by rw [HPF.out, if_neg hin]; omega)))
      clear hin
      go_wp2
      go_ret2
      exact ⟨by rw [HN.out]; rfl, hb⟩
end Go.Proofs.YtiihhilhiknckaaGreatDoor
