/-
  The contracts of the laws' own helpers on slices of strings: laws.eqStringS, laws.markStringS, laws.heldStringS.
-/
import Derived.Test.YtcbhhbcfnaekpaaDoorLaw
namespace Go.Proofs.YtcbhhbcfnaekpaaDoor
open Go.RowKit
set_option linter.unusedVariables false

def strs (l : List ByteArray) : List Value := l.map fun s => .string s
/-- A slice of strings at A reads as l. -/
def StrsIn (w : World) (A : Option Addr) (l : List ByteArray) : Prop :=
  0 < l.length → ∃ b off, A = some ⟨b, off, none⟩ ∧ b < w.heap.size ∧ ∀ k (h : k < l.length), w.cell? ⟨b, off + k, none⟩ = some (.string l[k])
theorem StrsIn.below {w w' : World} {B : Nat} {A : Option Addr} {l : List ByteArray} (h : StrsIn w A l) (hb : Below B w w') (hB : w.heap.size ≤ B) : StrsIn w' A l := by
  intro hn
  obtain ⟨b, off, rfl, h2, h3⟩ := h hn
  refine ⟨b, off, rfl, Nat.lt_of_lt_of_le h2 hb.size, fun k hk => ?_⟩
  rw [hb.cell (by show b < B; omega)]
  exact h3 k hk
theorem own_strs {w : World} {base n : Nat} {e : TypeId} {v : Value} {l : List ByteArray} (h : w.ownsRow base e 1 v n (strs l)) : ∃ A c, v = .slice A l.length c ∧ n = l.length ∧ StrsIn w A l := by
  have hn : n = l.length := by have := h.1; simp [strs] at this; omega
  subst hn
  rcases h.2 with ⟨rfl, h0⟩ | ⟨g, cap, cur, rfl, hg, hh, h1, h2, h3, h4⟩
  · exact ⟨none, 0, by rw [h0], rfl, fun h => absurd h (by omega)⟩
  · refine ⟨_, _, rfl, rfl, fun _ => ⟨g, 0, rfl, lt_of_heap hh, fun k hk => ?_⟩⟩
    rw [h.cellAt (0 + k) (by omega)]
    simp [strs, hk]
theorem own_form_s {w : World} {base n : Nat} {e : TypeId} {v : Value} {l : List ByteArray} (h : w.ownsRow base e 1 v n (strs l)) : ∃ A c, v = .slice A l.length c := by
  obtain ⟨A, c, hv, _, _⟩ := own_strs h
  exact ⟨A, c, hv⟩
theorem own_in_s {w : World} {base n m c : Nat} {e : TypeId} {A : Option Addr} {l : List ByteArray} (h : w.ownsRow base e 1 (.slice A m c) n (strs l)) : StrsIn w A l := by
  obtain ⟨A', c', hv, _, hi⟩ := own_strs h
  injection hv with h1
  subst h1
  exact hi

set_option maxRecDepth 100000 in
theorem eqStringS_any (l m : List ByteArray) (A B : Option Addr) (c d : Nat) (w : World) (hf : StrsIn w A l) (hg : StrsIn w B m) (hn : l.length ≤ maxLen) (hm : m.length ≤ maxLen) :
    Calls Tryd.prog 43 #[.slice A l.length c, .slice B m.length d] w fun e w' => e = .returned (.bool (decide (l = m))) ∧ Below w.heap.size w w' := by
  unfold maxLen at hn hm
  have HF := Lib.hid hf; clear hf
  have HG := Lib.hid hg; clear hg
  by_cases h : l.length = m.length
  · have HL := Lib.hid h
    have h' : ((l.length : Int) != (m.length : Int)) = false := by simp [h]
    clear h
    go_enter Tryd.func43, Tryd.ntmps43
    go_wp2
    go_loopw [5] (fun i wr => ∃ (k : Nat), k ≤ l.length ∧ i = .int .i64 k ∧ l.take k = m.take k ∧ Below w.heap.size w wr) (fun i _ => l.length - (intOf i).toNat)
    case atStart => exact ⟨0, Nat.zero_le _, rfl, rfl, Below.refl _ _⟩
    case round =>
      obtain ⟨k, hk, rfl, hs, hb⟩ := hrel
      have HS := Lib.hid hs; clear hs
      by_cases hlt : k < l.length
      · have hkg : k < m.length := by have := HL.out; omega
        obtain ⟨b, off, rfl, hbl, hc⟩ := HF.out (by omega)
        have hc0 := hc k hlt
        clear hc
        obtain ⟨b', off', rfl, hbl', hd⟩ := HG.out (by omega)
        have hd0 := hd k hkg
        clear hd
        rw [← hb.cell (p := ⟨b, off + k, none⟩) hbl] at hc0
        rw [← hb.cell (p := ⟨b', off' + k, none⟩) hbl'] at hd0
        have hx := KeptW.cell hc0 (Nat.lt_of_lt_of_le hbl hb.size)
        have hy := KeptW.cell hd0 (Nat.lt_of_lt_of_le hbl' hb.size)
        clear hc0 hd0
        have hk1 : (k : Int) < (l.length : Int) := by omega
        have hk2 : (k : Int) < (m.length : Int) := by omega
        have hk0 : (0 : Int) ≤ (k : Int) := by omega
        go_wp2_with fail
        refine region_kept wr.heap.size (by kernel_rfl) (by kernel_rfl) ?_
        repeat (go_big_quiet_step (fail))
        refine wpQuiet_nil ?_
        intro w1 hb1
        have hb' : Below w.heap.size w w1 := hb.trans (hb1.mono hb.size)
        clear hb hb1 hx hy
        by_cases hl : l[k] = m[k]
        · have ht : (!l[k].toList == m[k].toList) = false := by rw [str_eq hl]; rfl
          rw [ht]
          have HE := Lib.hid hl; clear hl
          go_wp2
          go_roundw
          case rel => exact ⟨k + 1, by omega, by go_num, by rw [List.take_succ_eq_append_getElem hlt, List.take_succ_eq_append_getElem hkg, HS.out, HE.out], hb'⟩
          case measure => simp [intOf]; omega
        · have ht : (!l[k].toList == m[k].toList) = true := str_ne hl
          rw [ht]
          have HE := Lib.hid hl; clear hl
          go_wp2
          go_ret
          exact ⟨ret_bool (by symm; apply decide_eq_false; intro he; apply HE.out; subst he; rfl), hb'⟩
      · obtain rfl : k = l.length := by omega
        go_wp2
        go_ret
        exact ⟨ret_bool (by
          symm; apply decide_eq_true
          have e := HS.out
          rw [List.take_length, HL.out, List.take_length] at e
          exact e), hb⟩
  · have H := Lib.hid h
    have h' : ((l.length : Int) != (m.length : Int)) = true := by simp; omega
    clear h
    go_enter Tryd.func43, Tryd.ntmps43
    go_wp2
    go_ret
    exact ⟨ret_bool (by symm; apply decide_eq_false; intro he; apply H.out; rw [he]), Below.refl _ _⟩


/-- The texts of the marks k, k+1, .. -/
def marksT (k n : Nat) : List ByteArray := (List.range n).map fun i => markT (k + i)
theorem marksT_len (k n : Nat) : (marksT k n).length = n := by simp [marksT]
theorem marksT_get (k n i : Nat) (h : i < (marksT k n).length) : (marksT k n)[i] = markT (k + i) := by simp [marksT]
theorem marksT_succ (k j : Nat) : marksT k (j + 1) = marksT k j ++ [markT (k + j)] := by simp [marksT, List.range_succ]

set_option maxRecDepth 100000 in
theorem heldStringS_any (k n : Nat) (A : Option Addr) (c : Nat) (w : World) (hf : StrsIn w A (marksT k n)) (h0 : 1 ≤ k) (hn : k + n ≤ 16777216) :
    Calls Tryd.prog 47 #[.slice A n c, .int .i64 k] w fun e w' => e = .returned (.int .i64 ((k + n : Nat) : Int)) ∧ Below w.heap.size w w' := by
  have HF := Lib.hid hf; clear hf
  go_enter Tryd.func47, Tryd.ntmps47
  go_wp2
  go_loopw [1, 5] (fun q i wr => ∃ (j q0 : Nat), j ≤ n ∧ i = .int .i64 j ∧ q = .int .i64 q0 ∧ q0 = k + j ∧ Below w.heap.size w wr) (fun _ i _ => n - (intOf i).toNat)
  case atStart => exact ⟨0, k, Nat.zero_le _, rfl, rfl, rfl, Below.refl _ _⟩
  case round =>
    obtain ⟨j, q0, hj, rfl, rfl, hq, hb⟩ := hrel
    by_cases hlt : j < n
    · obtain ⟨b, off, rfl, hbl, hc⟩ := HF.out (by rw [marksT_len]; omega)
      have hc0 := hc j (by rw [marksT_len]; exact hlt)
      rw [marksT_get, ← hq] at hc0
      rw [← hb.cell (p := ⟨b, off + j, none⟩) hbl] at hc0
      have hx := KeptW.cell hc0 (Nat.lt_of_lt_of_le hbl hb.size)
      have hq1 : 1 ≤ q0 := by omega
      have hq2 : q0 + 1 ≤ 16777216 := by omega
      have HQ := Lib.hid hq
      have hj1 : (j : Int) < (n : Int) := by omega
      have hj0 : (0 : Int) ≤ (j : Int) := by omega
      have ht : (!(markT q0).toList == (markT q0).toList) = false := by simp
      clear hc hc0 hq
      go_wp2_with fail
      refine region_kept wr.heap.size (by kernel_rfl) (by kernel_rfl) ?_
      repeat (go_big_quiet_step ((go_at_call 81; exact kept_call _ (Nat.le_refl _) (markText_any _ _ hq1 (by omega)))))
      refine wpQuiet_nil ?_
      intro w1 hb1
      have hb' : Below w.heap.size w w1 := hb.trans (hb1.mono hb.size)
      clear hb hb1 hx
      go_wp2
      go_roundw
      case rel => exact ⟨j + 1, q0 + 1, by omega, by go_num, by go_num, by have := HQ.out; omega, hb'⟩
      case measure => simp [intOf]; omega
    · obtain rfl : j = n := by omega
      subst hq
      go_wp2
      go_ret
      exact ⟨rfl, hb⟩

theorem markStringS_any (k n base : Nat) (v : Value) (xs : List Value) (w : World) (hown : w.ownsRow base 9 1 v n xs) (h0 : 1 ≤ k) (hn : k + n ≤ 16777216) :
    Calls Tryd.prog 44 #[v, .int .i64 k] w fun e w' => e = .returned (.int .i64 ((k + n : Nat) : Int)) ∧ w.grownBy w' v.ownBlock ∧ w'.ownsRow base 9 1 v n (strs (marksT k n)) := by
  rcases hown.2 with ⟨rfl, rfl⟩ | ⟨g, cap, cur, rfl, hg, hh, h1, h2, h3, h4⟩
  · go_enter Tryd.func44, Tryd.ntmps44
    go_wp2
    go_loop [1, 5] (fun q i => i = .int .i64 0 ∧ q = .int .i64 k) (fun _ i => 0)
    case atStart => exact ⟨rfl, rfl⟩
    case round =>
      obtain ⟨rfl, rfl⟩ := hrel
      go_wp2
      go_ret
      exact ⟨ret_int (by simp), World.grownBy.refl _ _, own_nil _ _ _ _⟩
  · have hst : Marked w g 9 cap (strs (marksT k 0)) := ⟨cur, hh, by simpa using h3, by simp [marksT, strs]⟩
    have HST := Lib.hid hst
    clear hst hh h3 h4 hown
    go_enter Tryd.func44, Tryd.ntmps44
    go_wp2
    go_loopw [1, 5] (fun q i wr => ∃ (j q0 : Nat), j ≤ n ∧ i = .int .i64 j ∧ q = .int .i64 q0 ∧ q0 = k + j ∧ Marked wr g 9 cap (strs (marksT k j)) ∧ w.grownBy wr (some g)) (fun _ i _ => n - (intOf i).toNat)
    case atStart => exact ⟨0, k, Nat.zero_le _, rfl, rfl, rfl, HST.out, World.grownBy.refl _ _⟩
    case round =>
      obtain ⟨j, q0, hj, rfl, rfl, hq, hm, hgr⟩ := hrel
      have HQ := Lib.hid hq
      by_cases hlt : j < n
      · have hq1 : q0 + 1 ≤ 16777216 := by omega
        have hq2 : 1 ≤ q0 := by omega
        clear hq
        go_wp2_with fail
        refine (markText_any q0 _ hq2 (by omega)).mono ?_
        rintro e w1 ⟨rfl, hb1⟩
        have hm1 := hm.below hb1
        have hg1 := grown_below hgr hb1
        clear hm hgr hb1
        obtain ⟨⟨u, hu⟩, hfz⟩ := hm1.at_ (j := j) (by omega)
        have hl : (strs (marksT k j)).length = j := by simp [strs, marksT_len]
        have hst := hm1.step (by rw [hl]; omega) (.string (markT q0))
        rw [hl] at hst
        have HM : Hid (Marked (w1.setCell ⟨g, j, none⟩ (.string (markT q0))) g 9 cap (strs (marksT k (j + 1)))) := by
          rw [marksT_succ]; show Marked _ _ _ _ (List.map _ _); rw [List.map_append, ← HQ.out]; exact hst
        have HG := Lib.hid (grown_set hg1 j (.string (markT q0)))
        clear hm1 hl hst hg1
        go_wp2
        go_roundw
        case rel => exact ⟨j + 1, q0 + 1, by omega, by go_num, by go_num, by have := HQ.out; omega, HM.out, HG.out⟩
        case measure => simp [intOf]; omega
      · obtain rfl : j = n := by omega
        subst hq
        go_wp2
        go_ret
        refine ⟨rfl, hgr, by simp [strs, marksT_len], .inr ?_⟩
        obtain ⟨cur', g1, g2, g3⟩ := hm
        exact ⟨g, cap, cur', rfl, hg, g1, h1, h2, by simpa using g2, by simpa [strs, marksT_len] using g3⟩
end Go.Proofs.YtcbhhbcfnaekpaaDoor
