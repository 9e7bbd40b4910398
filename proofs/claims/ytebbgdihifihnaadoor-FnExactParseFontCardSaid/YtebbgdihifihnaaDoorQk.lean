/-
  The two readings of one sort's text: what spec.ParseFont reads of a piece, what impl.parseSort reads of it. (For ParseFont.)
-/
import Derived.Test.YtebbgdihifihnaaDoorQm
import Derived.Test.YtebbgdihifihnaaDoorQd
import Derived.Test.YtebbgdihifihnaaDoorQf
import Derived.Lib.IndexAny
namespace Go.Proofs.YtebbgdihifihnaaDoor.P
open Go.RowKit
set_option linter.unusedVariables false

theorem num_read {n : Int} (h1 : 1 ≤ n) (h9 : n ≤ 999999) : readF (baOf (numL n)) = n := by
  obtain ⟨m, rfl⟩ := Int.eq_ofNat_of_zero_le (show 0 ≤ n by omega)
  have hs : (baOf (numL (m : Int))).data.toList = Lib.decDigits m := rfl
  have hl : (baOf (numL (m : Int))).size = Lib.nDigits m := by
    have : (baOf (numL (m : Int))).data.toList.length = (baOf (numL (m : Int))).size := Array.length_toList
    rw [← this, hs, Lib.decDigits_length]
  have h6 := nDig_pow 5 m (by omega)
  have h0 : 1 ≤ Lib.nDigits m := by rw [Lib.nDigits]; split <;> omega
  unfold readF
  rw [if_pos ⟨⟨by omega, by omega⟩, fun hx => dec_head m (by omega) (by rw [← hs]; exact hx.1), by rw [hs]; exact dec_digs m⟩, hs, dec_val]
theorem num_dec {n : Int} (h1 : 1 ≤ n) (h9 : n ≤ 999999) : decP (baOf (numL n)) = (n, true) := read_dec (num_read h1 h9) h1
theorem dec_num {s : ByteArray} {n : Int} (h : decP s = (n, true)) (h1 : 1 ≤ n) : s = baOf (numL n) := by
  have he : baOf (Lib.itoa n) = s := by
    unfold decP at h
    split at h
    · split at h
      · rename_i u _ hu
        have : u = n := by simpa using h
        rw [← this]; exact hu
      · simp at h
    · simp at h
  obtain ⟨m, rfl⟩ := Int.eq_ofNat_of_zero_le (show 0 ≤ n by omega)
  rw [← he, Lib.itoa_nonneg]; rfl

/-- The text of one sort. -/
def pieceB (r : ByteArray × Int) : ByteArray := r.1 ++ baOf (numL r.2)
theorem piece_list (r : ByteArray × Int) : (pieceB r).data.toList = r.1.data.toList ++ numL r.2 := by
  unfold pieceB; simp [baOf]
def letN (p : ByteArray) : Nat := (p.data.toList.takeWhile isLet).length
/-- What spec.ParseFont reads of a piece. -/
def rowOf (p : ByteArray) : ByteArray × Int := (p.extract 0 (letN p), readF (p.extract (letN p) p.size))
theorem dig_not_let {c : UInt8} (h : isDig c = true) : isLet c = false := by
  rw [isDig_int] at h; rw [isLet_int]
  simp only [Bool.and_eq_true, decide_eq_true_eq] at h
  simp; omega
theorem num_head {n : Int} (h1 : 1 ≤ n) : ∃ x r, numL n = x :: r ∧ isDig x = true := by
  obtain ⟨m, rfl⟩ := Int.eq_ofNat_of_zero_le (show 0 ≤ n by omega)
  have hd := dec_digs m
  have hl := Lib.decDigits_length m
  have h0 : 1 ≤ Lib.nDigits m := by rw [Lib.nDigits]; split <;> omega
  cases hx : Lib.decDigits m with
  | nil => rw [hx] at hl; simp at hl; omega
  | cons x r =>
    rw [hx] at hd
    exact ⟨x, r, hx, by simp [digs] at hd; exact hd.1⟩
theorem piece_let {c : ByteArray} {n : Int} (hc : lets c.data.toList = true) (h1 : 1 ≤ n) : letN (pieceB (c, n)) = c.size := by
  obtain ⟨x, r, hx, hd⟩ := num_head h1
  have e : c.data.toList.length = c.size := Array.length_toList
  unfold letN
  rw [piece_list, List.takeWhile_append_of_pos (fun a ha => List.all_eq_true.1 hc a ha), hx, List.takeWhile_cons, dig_not_let hd]
  simp [e]
theorem piece_cut (c : ByteArray) (n : Int) : (pieceB (c, n)).extract 0 c.size = c ∧ (pieceB (c, n)).extract c.size (pieceB (c, n)).size = baOf (numL n) := by
  have e : c.data.toList.length = c.size := Array.length_toList
  refine ⟨ba_ext ?_, ba_ext ?_⟩
  · rw [ex_list, piece_list]; simp [e]
  · rw [ex_rest, piece_list, ← e]; simp [baOf]
theorem row_piece {c : ByteArray} {n : Int} (hc : lets c.data.toList = true) (h1 : 1 ≤ n) (h9 : n ≤ 999999) : rowOf (pieceB (c, n)) = (c, n) := by
  obtain ⟨p1, p2⟩ := piece_cut c n
  unfold rowOf
  rw [piece_let hc h1, p1, p2, num_read h1 h9]
theorem sort_facts {c : ByteArray} {n : Int} (h : tySortF c n = true) : lets c.data.toList = true ∧ 1 ≤ n ∧ n ≤ 54 := by
  unfold tySortF tyLettersF at h
  simp only [Bool.and_eq_true, decide_eq_true_eq] at h
  exact ⟨h.1.1, by omega, by omega⟩
theorem row_sort {c : ByteArray} {n : Int} (h : tySortF c n = true) : rowOf (pieceB (c, n)) = (c, n) := by
  obtain ⟨h1, h2, h3⟩ := sort_facts h
  exact row_piece h1 h2 (by omega)
/-- A piece cut at its first digit whose rest spells a number from 1 on is that code and that number's digits. -/
theorem piece_of_cut {p : ByteArray} {i : Nat} {n : Int} (hi : i ≤ p.size) (h : decP (p.extract i p.size) = (n, true)) (h1 : 1 ≤ n) : p = pieceB (p.extract 0 i, n) := by
  have e := dec_num h h1
  apply ba_ext
  rw [piece_list]
  have e2 : numL n = p.data.toList.drop i := by
    rw [← ex_rest, e]; rfl
  show _ = (p.extract 0 i).data.toList ++ numL n
  rw [e2, ex_list]; simp
/-- The text of a font is its sorts' texts, each with ';' behind it. -/
theorem text_pieces (F : List (ByteArray × Int)) : ∀ k, k ≤ F.length → ftK F k = withC 59 ((F.take k).map fun r => (pieceB r).data.toList)
  | 0, _ => rfl
  | k + 1, h => by
    have ih := text_pieces F k (by omega)
    rw [ftK_step (by omega), ih, List.take_succ_eq_append_getElem (by omega), List.map_append]
    unfold withC
    rw [List.flatMap_append]
    simp [piece_list]
theorem piece_no59 {c : ByteArray} {n : Int} (h : tySortF c n = true) : ∀ x ∈ (pieceB (c, n)).data.toList, ¬ x = 59 := by
  obtain ⟨h1, h2, h3⟩ := sort_facts h
  intro x hx e
  subst e
  rw [piece_list] at hx
  rcases List.mem_append.1 hx with hx | hx
  · have := List.all_eq_true.1 h1 _ hx
    revert this; decide
  · obtain ⟨m, rfl⟩ := Int.eq_ofNat_of_zero_le (show 0 ≤ n by omega)
    have := List.all_eq_true.1 (dec_digs m) _ hx
    revert this; decide
end Go.Proofs.YtebbgdihifihnaaDoor.P
