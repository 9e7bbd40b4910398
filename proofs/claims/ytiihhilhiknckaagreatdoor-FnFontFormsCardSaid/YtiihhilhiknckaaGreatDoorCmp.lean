/-
  The contracts of strings.Compare, of the closure of impl.placeOfCode, of the instance of slices.BinarySearchFunc and of impl.placeOfCode: the place of a Code in a font.
-/
import Derived.Test.YtiihhilhiknckaaGreatDoorBest
import Derived.Lib.Bytealg
namespace Go.Proofs.YtiihhilhiknckaaGreatDoor
open Go.RowKit
set_option linter.unusedVariables false

theorem cmp_less : ∀ a b : List UInt8, (Lib.compareBytes a b < 0) ↔ Op.bytesLess a b = true
  | [], [] => by simp [Lib.compareBytes, Op.bytesLess]
  | [], _ :: _ => by simp [Lib.compareBytes, Op.bytesLess]
  | _ :: _, [] => by simp [Lib.compareBytes, Op.bytesLess]
  | a :: x, b :: y => by
    simp only [Lib.compareBytes, Op.bytesLess, Bool.or_eq_true, Bool.and_eq_true, decide_eq_true_eq, beq_iff_eq]
    by_cases h1 : a < b
    · simp [h1]
    · by_cases h2 : b < a
      · simp only [h1, h2, if_false, if_true]
        constructor
        · intro h; omega
        · rintro (h | ⟨rfl, _⟩)
          · exact absurd h (by simp)
          · exact absurd h2 h1
      · have e : a = b := UInt8.le_antisymm (UInt8.not_lt.1 h2) (UInt8.not_lt.1 h1)
        subst e
        simp only [h1, if_false]
        rw [cmp_less x y]
        simp
theorem cmp_zero : ∀ a b : List UInt8, (Lib.compareBytes a b = 0) ↔ a = b
  | [], [] => by simp [Lib.compareBytes]
  | [], _ :: _ => by simp [Lib.compareBytes]
  | _ :: _, [] => by simp [Lib.compareBytes]
  | a :: x, b :: y => by
    simp only [Lib.compareBytes]
    by_cases h1 : a < b
    · have : a ≠ b := by rintro rfl; exact absurd h1 (UInt8.lt_irrefl a)
      simp [h1, this]
    · by_cases h2 : b < a
      · have : a ≠ b := by rintro rfl; exact absurd h2 (UInt8.lt_irrefl a)
        simp [h1, h2, this]
      · have e : a = b := UInt8.le_antisymm (UInt8.not_lt.1 h2) (UInt8.not_lt.1 h1)
        subst e
        simp only [h1, if_false]
        rw [cmp_zero x y]
        simp

def cmpF (a b : ByteArray) : Int := Lib.compareBytes a.data.toList b.data.toList

set_option maxRecDepth 100000 in
theorem cmpString_any (a b : ByteArray) (w : World) :
    Calls Tryz.prog 69 #[.string a, .string b] w fun e w' => e = .returned (.int .i64 (cmpF a b)) ∧ w = w' := by
  go_enter Tryz.func69, Tryz.ntmps69
  go_wp2
  rw [run_callFunc_extern Tryz.func78 (by kernel_rfl) (by kernel_rfl) (by kernel_rfl) (e := Extern.BytealgCompare.compare) (by kernel_rfl), Lib.run_compareString]
  simp only [Result.andThen]
  rw [Oper.upon_value]
  go_wp2
  go_ret
  exact ⟨rfl, rfl⟩

theorem compare_any (a b : ByteArray) (w : World) :
    Calls Tryz.prog 52 #[.string a, .string b] w fun e w' => e = .returned (.int .i64 (cmpF a b)) ∧ w = w' := by
  go_enter Tryz.func52, Tryz.ntmps52
  go_wp2_with fail
  refine (cmpString_any _ _ _).mono ?_
  rintro e w' ⟨rfl, rfl⟩
  go_wp2
  go_ret
  exact ⟨rfl, rfl⟩

theorem clos_any (a b : ByteArray) (n : Int) (w : World) :
    Calls Tryz.prog 51 #[.agg #[.string a, .int .i64 n], .string b] w fun e w' => e = .returned (.int .i64 (cmpF a b)) ∧ Below w.heap.size w w' := by
  go_enter Tryz.func51, Tryz.ntmps51
  go_wp2_with fail
  refine (compare_any _ _ _).mono ?_
  rintro e w' ⟨rfl, rfl⟩
  go_wp2
  go_ret
  exact ⟨rfl, (Below.refl _ _).alloc (Nat.le_refl _) _⟩

def codeB0 (f : List (ByteArray × Int)) (i : Nat) : ByteArray := (f.getD i (.empty, 0)).1
theorem codeB0_of {f : List (ByteArray × Int)} {i : Nat} (h : i < f.length) : codeB0 f i = f[i].1 := by
  unfold codeB0; rw [List.getD_eq_getElem?_getD, List.getElem?_eq_getElem h]; rfl
theorem codeB0_list (f : List (ByteArray × Int)) (i : Nat) : (codeB0 f i).data.toList = codeAt f i := rfl
theorem cmp_mono {f : List (ByteArray × Int)} (hF : Font f) {s : ByteArray} {m k : Nat} (hm : m ≤ k) (hk : k < f.length) (h : cmpF (codeB0 f k) s < 0) : cmpF (codeB0 f m) s < 0 := by
  unfold cmpF at *
  rw [cmp_less, codeB0_list] at *
  rcases Nat.lt_or_ge m k with h1 | h1
  · exact bl_trans _ _ _ (hF.less h1 hk) h
  · obtain rfl : m = k := by omega
    exact h
theorem cmp_zero' {a b : ByteArray} : cmpF a b = 0 ↔ a = b := by
  unfold cmpF
  rw [cmp_zero]
  exact ⟨fun h => ByteArray.ext (Array.ext' h), fun h => by rw [h]⟩
/-- i is the place of a Code: those before it are less, the others are not. -/
def IsPlace (f : List (ByteArray × Int)) (c : ByteArray) (i : Nat) : Prop := i ≤ f.length ∧ (∀ m, m < i → cmpF (codeB0 f m) c < 0) ∧ ∀ m, i ≤ m → m < f.length → ¬ cmpF (codeB0 f m) c < 0

/-- The answer of a search: the place of a Code, and whether it is there. -/
def FoundAt (f : List (ByteArray × Int)) (s : ByteArray) (w w' : World) (e : Ending) : Prop := ∃ i, IsPlace f s i ∧ e = .returned (.tuple #[.int .i64 (i : Int), .bool (decide (i < f.length ∧ codeB0 f i = s))]) ∧ Below w.heap.size w w'

set_option maxHeartbeats 1000000 in
set_option maxRecDepth 100000 in
theorem search_any (f : List (ByteArray × Int)) (A : Option Addr) (cap : Nat) (s : ByteArray) (lo : Nat) (w : World) (hf : SortsIn w lo A f) (hF : Font f) :
    Calls Tryz.prog 50 #[.slice A f.length cap, .string s, .func (.func 51) #[] #[]] w fun e w' => FoundAt f s w w' e := by
  have HS := Lib.hid hf; clear hf
  have hn : f.length ≤ 32 := hF.2.2
  have HFF := Lib.hid hF; clear hF
  go_enter Tryz.func50, Tryz.ntmps50
  go_wp2
  go_loopw [9, 10] (fun l h wr => ∃ (i j : Nat), i ≤ j ∧ j ≤ f.length ∧ l = .int .i64 i ∧ h = .int .i64 j ∧ (∀ m, m < i → cmpF (codeB0 f m) s < 0) ∧ (∀ m, j ≤ m → m < f.length → ¬ cmpF (codeB0 f m) s < 0) ∧ Below w.heap.size w wr) (fun l h _ => (intOf h - intOf l).toNat)
  case atStart => exact ⟨0, f.length, Nat.zero_le _, Nat.le_refl _, rfl, rfl, fun m h => absurd h (by omega), fun m h1 h2 => absurd h1 (by omega), Below.refl _ _⟩
  case round =>
    obtain ⟨i, j, hij, hj, rfl, rfl, h1, h2, hb⟩ := hrel
    have H1 := Lib.hid h1; have H2 := Lib.hid h2
    clear h1 h2
    by_cases hlt : i < j
    · have hlt' : (i : Int) < (j : Int) := by omega
      obtain ⟨b, off, rfl, _, hbl, hc⟩ := HS.out (by omega)
      obtain ⟨hc0, hc1⟩ := hc ((i + j) / 2) (by omega)
      clear hc
      rw [← hb.cell (p := ⟨b, off + (i + j) / 2 * 2, none⟩) hbl] at hc0
      rw [← hb.cell (p := ⟨b, off + (i + j) / 2 * 2 + 1, none⟩) hbl] at hc1
      have HCB := Lib.hid (codeB0_of (f := f) (i := (i + j) / 2) (by omega))
      have hml : (i + j) / 2 < f.length := by omega
      go_wp2_with fail
      refine (clos_any _ _ _ _).mono ?_
      rintro e w1 ⟨rfl, hb1⟩
      have hb' := hb.trans (hb1.mono hb.size)
      clear hb hb1 hc0 hc1
      by_cases hless : cmpF f[(i + j) / 2].1 s < 0
      · have HLO : Hid (∀ m, m < (i + j) / 2 + 1 → cmpF (codeB0 f m) s < 0) := by
          show ∀ m, _
          intro m hm
          exact cmp_mono HFF.out (by omega) hml (by rw [HCB.out]; exact hless)
        clear HCB
        generalize cmpF f[(i + j) / 2].1 s = q at *
        go_wp2
        go_roundw
        case rel => exact ⟨(i + j) / 2 + 1, j, by omega, hj, by go_num, rfl, HLO.out, fun m h1 h2 => by have := H2.out m h1 h2; omega, hb'⟩
        case measure => simp [intOf]; omega
      · have HHI : Hid (∀ m, (i + j) / 2 ≤ m → m < f.length → ¬ cmpF (codeB0 f m) s < 0) := by
          show ∀ m, _
          intro m hm hmn h
          exact hless (by rw [← HCB.out]; exact cmp_mono HFF.out hm hmn h)
        clear HCB
        generalize cmpF f[(i + j) / 2].1 s = q at *
        go_wp2
        go_roundw
        case rel => exact ⟨i, (i + j) / 2, by omega, by omega, rfl, by go_num, H1.out, fun m h1 h2 => by have := HHI.out m h1 h2; omega, hb'⟩
        case measure => simp [intOf]; omega
    · obtain rfl : i = j := by omega
      have HP : Hid (IsPlace f s i) := ⟨hj, H1.out, fun m h1 h2 => by have := H2.out m h1 h2; omega⟩
      have hlt' : ¬ (i : Int) < (i : Int) := by omega
      by_cases hin : i < f.length
      · obtain ⟨b, off, rfl, _, hbl, hc⟩ := HS.out (by omega)
        obtain ⟨hc0, hc1⟩ := hc i hin
        clear hc
        rw [← hb.cell (p := ⟨b, off + i * 2, none⟩) hbl] at hc0
        rw [← hb.cell (p := ⟨b, off + i * 2 + 1, none⟩) hbl] at hc1
        have HCB := Lib.hid (codeB0_of hin)
        have hin' : (i : Int) < (f.length : Int) := by omega
        go_wp2_with fail
        refine (clos_any _ _ _ _).mono ?_
        rintro e w1 ⟨rfl, hb1⟩
        have hb' := hb.trans (hb1.mono hb.size)
        clear hb hb1 hc0 hc1
        by_cases heq : f[i].1 = s
        · have hz : (cmpF f[i].1 s == 0) = true := by rw [beq_iff_eq, cmp_zero']; exact heq
          have HE : Hid (decide (i < f.length ∧ codeB0 f i = s) = true) := decide_eq_true ⟨hin, by rw [HCB.out]; exact heq⟩
          clear heq HCB
          generalize cmpF f[i].1 s = q at *
          go_wp2
          go_ret2
          exact ⟨i, HP.out, by rw [HE.out]; rfl, hb'⟩
        · have hz : (cmpF f[i].1 s == 0) = false := by rw [beq_eq_false_iff_ne]; exact fun h => heq (cmp_zero'.1 h)
          have HE : Hid (decide (i < f.length ∧ codeB0 f i = s) = false) := decide_eq_false (fun h => heq (by rw [← HCB.out]; exact h.2))
          clear heq HCB
          generalize cmpF f[i].1 s = q at *
          go_wp2
          go_ret2
          exact ⟨i, HP.out, by rw [HE.out]; rfl, hb'⟩
      · have hin' : ¬ (i : Int) < (f.length : Int) := by omega
        have HE : Hid (decide (i < f.length ∧ codeB0 f i = s) = false) := decide_eq_false (fun h => hin h.1)
        go_wp2
        go_ret2
        exact ⟨i, HP.out, by rw [HE.out]; rfl, hb⟩

theorem place_any (f : List (ByteArray × Int)) (A : Option Addr) (cap : Nat) (s : ByteArray) (lo : Nat) (w : World) (hf : SortsIn w lo A f) (hF : Font f) :
    Calls Tryz.prog 28 #[.slice A f.length cap, .string s] w fun e w' => FoundAt f s w w' e := by
  have HS := Lib.hid hf; clear hf
  have HF := Lib.hid hF; clear hF
  go_enter Tryz.func28, Tryz.ntmps28
  go_wp2_with fail
  refine (search_any f A cap s lo _ HS.out HF.out).mono ?_
  intro e w1 hfo
  obtain ⟨i, hp, rfl, hb⟩ := hfo
  have HP := Lib.hid hp; clear hp
  have HD := Lib.hid (Eq.refl (decide (i < f.length ∧ codeB0 f i = s)))
  generalize hd : decide (i < f.length ∧ codeB0 f i = s) = d
  have HDD := Lib.hid hd; clear hd
  go_wp2
  go_ret2
  exact ⟨i, HP.out, by rw [HDD.out]; rfl, hb⟩

/-- The place of a Code is where the first sort with it is found. -/
theorem place_find {f : List (ByteArray × Int)} (hF : Font f) {s : ByteArray} {i : Nat} (h : IsPlace f s i) : findI f s 0 = if i < f.length ∧ codeB0 f i = s then (i : Int) else -1 := by
  obtain ⟨h1, h2, h3⟩ := h
  rcases findI_cases f s with ⟨e, hn⟩ | ⟨k, hk, hc, e⟩
  · rw [e, if_neg]
    rintro ⟨hi, he⟩
    exact hn i hi (by rw [← codeB0_list, he])
  · have hz : cmpF (codeB0 f k) s = 0 := by unfold cmpF; rw [cmp_zero, codeB0_list, hc]
    have hki : i = k := by
      rcases Nat.lt_trichotomy i k with h4 | h4 | h4
      · exfalso
        have hl := hF.less h4 hk
        have : cmpF (codeB0 f i) s < 0 := by unfold cmpF; rw [cmp_less, codeB0_list, ← hc]; exact hl
        exact h3 i (Nat.le_refl _) (by omega) this
      · exact h4
      · have := h2 k h4; omega
    subst hki
    rw [e, if_pos ⟨hk, cmp_zero'.1 hz⟩]
end Go.Proofs.YtiihhilhiknckaaGreatDoor
