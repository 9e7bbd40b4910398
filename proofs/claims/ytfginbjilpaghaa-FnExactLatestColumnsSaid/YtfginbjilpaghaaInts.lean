/-
  The contracts of the laws' own helpers on slices of ints (laws.eqIntS, laws.markIntS, laws.heldIntS): each answers what the plain words here say.
-/
import Derived.Test.YtfginbjilpaghaaBase
namespace Go.Proofs.Ytfginbjilpaghaa
open Go.RowKit
set_option linter.unusedVariables false

set_option maxRecDepth 100000 in
theorem eqIntS_any (l m : List Int) (A B : Option Addr) (c d : Nat) (w : World) (hf : IntsIn w A l) (hg : IntsIn w B m) (hn : l.length ≤ maxLen) (hm : m.length ≤ maxLen) :
    Calls Try.prog 21 #[.slice A l.length c, .slice B m.length d] w fun e w' => e = .returned (.bool (decide (l = m))) ∧ Below w.heap.size w w' := by
  unfold maxLen at hn hm
  have HF := Lib.hid hf; clear hf
  have HG := Lib.hid hg; clear hg
  by_cases h : l.length = m.length
  · have HL := Lib.hid h
    have h' : ((l.length : Int) != (m.length : Int)) = false := by simp [h]
    clear h
    go_enter Try.func21, Try.ntmps21
    go_wp2
    go_loopw [5] (fun i wr => ∃ (k : Nat), k ≤ l.length ∧ i = .int .i64 k ∧ l.take k = m.take k ∧ Below w.heap.size w wr) (fun i _ => l.length - (intOf i).toNat)
    case atStart => exact ⟨0, Nat.zero_le _, rfl, rfl, Below.refl _ _⟩
    case round =>
      obtain ⟨k, hk, rfl, hs, hb⟩ := hrel
      have HS := Lib.hid hs; clear hs
      by_cases hlt : k < l.length
      · have hkg : k < m.length := by have := HL.out; omega
        obtain ⟨b, off, rfl, hbl, hc⟩ := HF.out (by omega)
        have hc0 := hc k hlt
        clear hc
        obtain ⟨b', off', rfl, hbl', hd⟩ := HG.out (by omega)
        have hd0 := hd k hkg
        clear hd
        rw [← hb.cell (p := ⟨b, off + k, none⟩) hbl] at hc0
        rw [← hb.cell (p := ⟨b', off' + k, none⟩) hbl'] at hd0
        have hx := KeptW.cell hc0 (Nat.lt_of_lt_of_le hbl hb.size)
        have hy := KeptW.cell hd0 (Nat.lt_of_lt_of_le hbl' hb.size)
        clear hc0 hd0
        have hk1 : (k : Int) < (l.length : Int) := by omega
        have hk2 : (k : Int) < (m.length : Int) := by omega
        have hk0 : (0 : Int) ≤ (k : Int) := by omega
        go_wp2_with fail
        refine region_kept wr.heap.size (by kernel_rfl) (by kernel_rfl) ?_
        repeat (go_big_quiet_step (fail))
        refine wpQuiet_nil ?_
        intro w1 hb1
        have hb' : Below w.heap.size w w1 := hb.trans (hb1.mono hb.size)
        clear hb hb1 hx hy
        by_cases hl : l[k] = m[k]
        · have ht : (l[k] != m[k]) = false := by simp [hl]
          have HE := Lib.hid hl; clear hl
          go_wp2
          go_roundw
          case rel => exact ⟨k + 1, by omega, by go_num, by rw [List.take_succ_eq_append_getElem hlt, List.take_succ_eq_append_getElem hkg, HS.out, HE.out], hb'⟩
          case measure => simp [intOf]; omega
        · have ht : (l[k] != m[k]) = true := by simp [hl]
          have HE := Lib.hid hl; clear hl
          go_wp2
          go_ret
          exact ⟨ret_bool (by symm; apply decide_eq_false; intro he; apply HE.out; subst he; rfl), hb'⟩
      · obtain rfl : k = l.length := by omega
        go_wp2
        go_ret
        exact ⟨ret_bool (by
          symm; apply decide_eq_true
          have e := HS.out
          rw [List.take_length, HL.out, List.take_length] at e
          exact e), hb⟩
  · have H := Lib.hid h
    have h' : ((l.length : Int) != (m.length : Int)) = true := by simp; omega
    clear h
    go_enter Try.func21, Try.ntmps21
    go_wp2
    go_ret
    exact ⟨ret_bool (by symm; apply decide_eq_false; intro he; apply H.out; rw [he]), Below.refl _ _⟩

theorem heldIntS_any (k : Int) (n : Nat) (A : Option Addr) (c : Nat) (w : World) (hf : IntsIn w A (marks k n)) (h0 : 0 ≤ k) (hn : k + (n : Int) ≤ 16777216) :
    Calls Try.prog 24 #[.slice A n c, .int .i64 k] w fun e w' => e = .returned (.int .i64 (k + (n : Int))) ∧ w = w' := by
  have HF := Lib.hid hf; clear hf
  go_enter Try.func24, Try.ntmps24
  go_wp2
  go_loop [1, 5] (fun q i => ∃ (j : Nat), j ≤ n ∧ i = .int .i64 j ∧ q = .int .i64 (k + (j : Int))) (fun _ i => n - (intOf i).toNat)
  case atStart => exact ⟨0, Nat.zero_le _, rfl, by simp⟩
  case round =>
    obtain ⟨j, hj, rfl, rfl⟩ := hrel
    by_cases hlt : j < n
    · obtain ⟨b, off, rfl, hbl, hc⟩ := HF.out (by rw [marks_len]; omega)
      have hc0 := hc j (by rw [marks_len]; exact hlt)
      rw [marks_get] at hc0
      clear hc
      have ht : (k + (j : Int) != k + (j : Int)) = false := by simp
      go_wp2
      go_round
      case rel => exact ⟨j + 1, by omega, by go_num, by rw [show k + ((j + 1 : Nat) : Int) = k + (j : Int) + 1 from by omega]⟩
      case measure => simp [intOf]; omega
    · obtain rfl : j = n := by omega
      go_wp2
      go_ret
      exact ⟨rfl, rfl⟩

theorem markIntS_any (k : Int) (n base : Nat) (v : Value) (xs : List Value) (w : World) (hown : w.ownsRow base 3 1 v n xs) (h0 : 0 ≤ k) (hn : k + (n : Int) ≤ 16777216) :
    Calls Try.prog 23 #[v, .int .i64 k] w fun e w' => e = .returned (.int .i64 (k + (n : Int))) ∧ w.grownBy w' v.ownBlock ∧ w'.ownsRow base 3 1 v n (intsZ (marks k n)) := by
  rcases hown.2 with ⟨rfl, rfl⟩ | ⟨g, cap, cur, rfl, hg, hh, h1, h2, h3, h4⟩
  · go_enter Try.func23, Try.ntmps23
    go_wp2
    go_loop [1, 5] (fun q i => i = .int .i64 0 ∧ q = .int .i64 k) (fun _ i => 0)
    case atStart => exact ⟨rfl, rfl⟩
    case round =>
      obtain ⟨rfl, rfl⟩ := hrel
      go_wp2
      go_ret
      exact ⟨ret_int (by simp), World.grownBy.refl _ _, own_nil _ _ _ _⟩
  · have hst : Marked w g 3 cap (intsZ (marks k 0)) := ⟨cur, hh, by simpa using h3, by simp [marks, intsZ]⟩
    have HST := Lib.hid hst
    clear hst hh h3 h4 hown
    go_enter Try.func23, Try.ntmps23
    go_wp2
    go_loopw [1, 5] (fun q i wr => ∃ (j : Nat), j ≤ n ∧ i = .int .i64 j ∧ q = .int .i64 (k + (j : Int)) ∧ Marked wr g 3 cap (intsZ (marks k j)) ∧ w.grownBy wr (some g)) (fun _ i _ => n - (intOf i).toNat)
    case atStart => exact ⟨0, Nat.zero_le _, rfl, by simp, HST.out, World.grownBy.refl _ _⟩
    case round =>
      obtain ⟨j, hj, rfl, rfl, hm, hgr⟩ := hrel
      by_cases hlt : j < n
      · obtain ⟨⟨u, hu⟩, hfz⟩ := hm.at_ (j := j) (by omega)
        have hl : (intsZ (marks k j)).length = j := by simp [intsZ, marks_len]
        have hst := hm.step (by rw [hl]; omega) (.int .i64 (k + (j : Int)))
        rw [hl] at hst
        have HM : Hid (Marked (wr.setCell ⟨g, j, none⟩ (.int .i64 (k + (j : Int)))) g 3 cap (intsZ (marks k (j + 1)))) := by rw [marks_succ]; show Marked _ _ _ _ (List.map _ _); rw [List.map_append]; exact hst
        have HG := Lib.hid (grown_set hgr j (.int .i64 (k + (j : Int))))
        clear hm hl hst hgr
        go_wp2
        go_roundw
        case rel => exact ⟨j + 1, by omega, by go_num, by rw [show k + ((j + 1 : Nat) : Int) = k + (j : Int) + 1 from by omega], HM.out, HG.out⟩
        case measure => simp [intOf]; omega
      · obtain rfl : j = n := by omega
        go_wp2
        go_ret
        refine ⟨rfl, hgr, by simp [intsZ, marks_len], .inr ?_⟩
        obtain ⟨cur', g1, g2, g3⟩ := hm
        exact ⟨g, cap, cur', rfl, hg, g1, h1, h2, by simpa using g2, by simpa [intsZ, marks_len] using g3⟩
end Go.Proofs.Ytfginbjilpaghaa
