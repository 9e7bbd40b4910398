/-
  strings.IndexAny at the ten digits answers the place of the first digit, whatever the bytes. (For ParseFont.)
-/
import Derived.Test.YtebbgdihifihnaaDoorQi
import Derived.Test.YtebbgdihifihnaaDoorQc
import Derived.Lib.MapLaws
import Derived.Lib.RuneCountTail
namespace Go.Proofs.YtebbgdihifihnaaDoor.P
open Go.RowKit
set_option linter.unusedVariables false

def digitsB : ByteArray := ⟨#[48, 49, 50, 51, 52, 53, 54, 55, 56, 57]⟩
theorem get_at (s : ByteArray) {i : Nat} (h : i < s.size) : s.get! i = s[i] := by
  have e := Lib.getD_get!' s i
  rw [← e, List.getD_eq_getElem?_getD, list_at h]; rfl
theorem dec_far (s : ByteArray) {i : Nat} (h : i < s.size) (h0 : 128 ≤ (s[i]).toNat) : 128 ≤ (Utf8.decode s i).1 ∧ (Utf8.decode s i).1 ≤ 1114111 ∧ 1 ≤ (Utf8.decode s i).2 ∧ i + (Utf8.decode s i).2 ≤ s.size ∧
    ∀ j, i ≤ j → j < i + (Utf8.decode s i).2 → 128 ≤ (s.get! j).toNat := by
  rw [Lib.decode_at]
  have g0 : 128 ≤ (s.get! i).toNat := by rw [get_at s h]; exact h0
  have hlt := UInt8.toNat_lt (s.get! i)
  have e0 : ∀ j, i ≤ j → j < i + 1 → s.get! j = s.get! i := fun j h1 h2 => by rw [show j = i by omega]
  generalize hb0 : (s.get! i).toNat = b0 at *
  generalize hb1 : (s.get! (i + 1)).toNat = b1 at *
  generalize hb2 : (s.get! (i + 2)).toNat = b2 at *
  generalize hb3 : (s.get! (i + 3)).toNat = b3 at *
  rcases Lib.decodeN_shape (s.size - i) b0 b1 b2 b3 with ⟨h1, e⟩ | ⟨h1, h2, h3, h4, e⟩ | ⟨h1, h2, h3, h4, h5, h6, e⟩ | ⟨h1, h2, h3, h4, h5, h6, h7, e⟩ | e
  · omega
  all_goals
    rw [e]
    dsimp only
    refine ⟨by omega, by omega, by omega, by omega, fun j h8 h9 => ?_⟩
    rcases (by omega : j = i ∨ j = i + 1 ∨ j = i + 2 ∨ j = i + 3) with rfl | rfl | rfl | rfl <;> omega
theorem far_no {y : UInt8} (h : 128 ≤ y.toNat) : digitsL.contains y = false := by
  rw [digits_isDig]
  cases hd : isDig y
  · rfl
  · have := (dig_nat hd).2; omega
theorem noAny_far {s : ByteArray} {i n : Nat} (h : Lib.NoAny s.data.toList digitsL i) (hb : ∀ j, i ≤ j → j < i + n → 128 ≤ (s.get! j).toNat) : Lib.NoAny s.data.toList digitsL (i + n) := fun j b hj he => by
  by_cases h1 : j < i
  · exact h j b h1 he
  · have hl : j < s.size := by
      have := (List.getElem?_eq_some_iff.1 he).1
      simpa using this
    rw [list_at hl] at he
    rw [← Option.some.inj he]
    have := hb j (by omega) hj
    rw [get_at s hl] at this
    exact far_no this
theorem asc_digits : Asc digitsB := fun j h => by
  have hm : digitsB[j] ∈ digitsL := List.mem_of_getElem? (list_at (s := digitsB) h)
  have ha : ∀ b ∈ digitsL, b.toNat < 128 := by decide
  exact ha _ hm
theorem digits_list : digitsB.data.toList = digitsL := rfl
theorem iterAt_below {w wr : World} {p : ByteArray} {i : Nat} (h : Below w.heap.size w wr) : Below w.heap.size w (wr.iterAt w.heap.size p i) := by
  refine ⟨h.os, h.tape, h.output, ?_, fun k hk => ?_⟩
  · show w.heap.size ≤ (wr.heap.setIfInBounds _ _).size
    rw [Array.size_setIfInBounds]; exact h.size
  · show (wr.heap.setIfInBounds _ _)[k]? = _
    rw [Array.getElem?_setIfInBounds, if_neg (by omega)]
    exact h.block k hk
/-- What is asked of strings.IndexAny. -/
def IxTo (p : ByteArray) (w w' : World) (e : Ending) : Prop := e = .returned (.int .i64 (Lib.indexAny p.data.toList digitsL)) ∧ Below w.heap.size w w'

set_option maxRecDepth 100000 in
set_option maxHeartbeats 2000000 in
theorem indexAny_small (p : ByteArray) (w : World) (h8 : p.size ≤ 8) :
    Calls Tryd.prog 90 #[.string p, .string digitsB] w fun e w' => IxTo p w w' e := by
  have HUSE := Tryd.strings_shouldUseASCIISet (p.size : Int) w
  rw [show decide ((8 : Int) < (p.size : Int)) = false from decide_eq_false (by omega)] at HUSE
  have HR : Hid (∀ (r : Int) (W : World), 128 ≤ r → r ≤ 1114111 → Calls Tryd.prog 102 #[.string ⟨#[48, 49, 50, 51, 52, 53, 54, 55, 56, 57]⟩, .int .i32 r] W fun e w' => e = .returned (.int .i64 (-1)) ∧ Below W.heap.size W w') := Lib.hid (fun r W h1 h2 => idxRune_far digitsB r W asc_digits (by decide) (by decide) h1 h2)
  have HC : Hid (∀ (x : UInt8) (W : World), x.toNat < 128 → Calls Tryd.prog 102 #[.string ⟨#[48, 49, 50, 51, 52, 53, 54, 55, 56, 57]⟩, .int .i32 (x.toNat : Int)] W fun e w' => e = .returned (.int .i64 (Lib.indexByte digitsL x)) ∧ w' = W) := Lib.hid (fun x W h => by
    have := Tryd.strings_IndexRune_ascii digitsB (x.toNat : Int) W (by omega) (by omega)
    rw [show ((x.toNat : Int)).toNat.toUInt8 = x by simp] at this
    exact this)
  show Calls Tryd.prog 90 #[.string p, .string ⟨#[48, 49, 50, 51, 52, 53, 54, 55, 56, 57]⟩] w _
  go_enter Tryd.func90, Tryd.ntmps90
  go_wp2_with fail
  refine HUSE.mono ?_
  rintro e w' ⟨rfl, rfl⟩
  clear HUSE
  go_wp2
  go_loopg [9, 10] p.size (fun g _ _ wx => ∃ i : Nat, i + g = p.size ∧ wx.heap[w'.heap.size]? = some (.stringIter p i) ∧ Below w'.heap.size w' wx ∧ Lib.NoAny p.data.toList digitsL i)
  case atStart => exact ⟨0, by omega, World.iter_heap _ _ _, iter_below _ _ _, Lib.NoAny.zero _ _⟩
  case round =>
    obtain ⟨i, hig, hit, hb, hno⟩ := hrel
    have HIT := Lib.hid hit; have HB := Lib.hid hb; have HNO := Lib.hid hno
    clear hit hb hno
    cases gk with
    | zero =>
      obtain rfl : i = p.size := by omega
      have hnx := fun ty => Lib.run_next_end_at (P := Tryd.prog) wr w'.heap.size p p.size ty HIT.out (by omega)
      go_wp2
      go_ret
      exact ⟨by rw [Lib.indexAny_none (by rw [← Lib.size_eq]; exact HNO.out)]; rfl, HB.out⟩
    | succ g =>
      have hi : i < p.size := by omega
      have hxl : p.data.toList[i]? = some p[i] := list_at hi
      have HXL := Lib.hid hxl
      clear hxl
      by_cases hx : (p[i]).toNat < 128
      · have hnx := fun ty => Lib.run_next_ascii_at (P := Tryd.prog) wr w'.heap.size p i ty HIT.out hi hx
        have HIT2 := Lib.hid (Lib.iterAt_heap wr w'.heap.size p i (i + 1) HIT.out)
        have HB2 : Hid (Below w'.heap.size w' (wr.iterAt w'.heap.size p (i + 1))) := Lib.hid (iterAt_below HB.out)
        generalize p[i] = x at *
        have HCX := Lib.hid (HC.out x (wr.iterAt w'.heap.size p (i + 1)) hx)
        have hcon := Lib.contains_iff_indexByte digitsL x
        cases hin : digitsL.contains x
        · rw [hin] at hcon
          have hlt : ¬ ((0 : Int) ≤ Lib.indexByte digitsL x) := of_decide_eq_false hcon.symm
          have HSU := Lib.hid (HNO.out.succ HXL.out hin)
          clear hcon hin
          go_wp2_with fail
          refine HCX.out.mono ?_
          rintro e wy ⟨rfl, rfl⟩
          generalize Lib.indexByte digitsL x = z at *
          go_wp2
          go_roundg g
          case measure => omega
          case rel => exact ⟨i + 1, by omega, HIT2.out, HB2.out, HSU.out⟩
        · rw [hin] at hcon
          have hge : (0 : Int) ≤ Lib.indexByte digitsL x := of_decide_eq_true hcon.symm
          have HHT := Lib.hid (Lib.indexAny_hit HNO.out HXL.out hin)
          clear hcon hin
          go_wp2_with fail
          refine HCX.out.mono ?_
          rintro e wy ⟨rfl, rfl⟩
          generalize Lib.indexByte digitsL x = z at *
          go_wp2
          go_ret
          exact ⟨by rw [HHT.out]; rfl, HB2.out⟩
      · obtain ⟨f1, f2, f3, f4, f5⟩ := dec_far p hi (by omega)
        have hnx := fun ty => Lib.run_next_any_at (P := Tryd.prog) wr w'.heap.size p i ty HIT.out hi
        have HSU := Lib.hid (noAny_far HNO.out f5)
        clear f5 hx HXL
        generalize (Utf8.decode p i).1 = r at *
        generalize (Utf8.decode p i).2 = n at *
        have HIT2 := Lib.hid (Lib.iterAt_heap wr w'.heap.size p i (i + n) HIT.out)
        have HB2 : Hid (Below w'.heap.size w' (wr.iterAt w'.heap.size p (i + n))) := Lib.hid (iterAt_below HB.out)
        have HCX := Lib.hid (HR.out (r : Int) (wr.iterAt w'.heap.size p (i + n)) (by omega) (by omega))
        go_wp2_with fail
        refine HCX.out.mono ?_
        rintro e wy ⟨rfl, hby⟩
        have HIT3 : Hid (wy.heap[w'.heap.size]? = some (.stringIter p (i + n))) := Lib.hid ((hby.block _ (lt_of_heap HIT2.out)).trans HIT2.out)
        have HB3 : Hid (Below w'.heap.size w' wy) := Lib.hid (HB2.out.trans (hby.mono HB2.out.size))
        clear hby HIT HB HIT2 HB2 hnx HCX
        go_wp2
        go_roundg (p.size - (i + n))
        case measure => omega
        case rel => exact ⟨i + n, by omega, HIT3.out, HB3.out, HSU.out⟩
end Go.Proofs.YtebbgdihifihnaaDoor.P
