/-
  What the laws' own functions answer: sameInts of the same ints, pIn, pSum.
-/
import Derived.Test.YteagclokobkigaaGf
import Derived.BigQuiet
namespace Go.Proofs.Yteagclokobkigaa
open Go.RowKit
set_option linter.unusedVariables false

set_option maxRecDepth 100000 in
theorem sameInts_same (l : List Int) (A B : Option Addr) (c d : Nat) (w : World) (hf : IntsIn w A l) (hg : IntsIn w B l) (hn : l.length ≤ 1048576) :
    Calls Try.prog 13 #[.slice A l.length c, .slice B l.length d] w fun e w' => e = .returned (.bool true) ∧ Below w.heap.size w w' := by
  have HF := Lib.hid hf; have HG := Lib.hid hg; clear hf hg
  go_enter Try.func13, Try.ntmps13
  go_wp2
  go_loopw [13] (fun i wr => ∃ k : Nat, k ≤ l.length ∧ i = .int .i64 (k : Int) ∧ Below w.heap.size w wr) (fun i _ => l.length - (intOf i).toNat)
  case atStart => exact ⟨0, Nat.zero_le _, rfl, Below.refl _ _⟩
  case round =>
    obtain ⟨k, hk, rfl, hb⟩ := hrel
    by_cases hlt : k < l.length
    · obtain ⟨b, off, rfl, hbl, hc⟩ := HF.out (by omega)
      obtain ⟨b', off', rfl, hbl', hc'⟩ := HG.out (by omega)
      have k0 := KeptW.cell ((hb.cell (p := ⟨b, off + k, none⟩) hbl).trans (hc k hlt)) (by show b < wr.heap.size; have := hb.size; omega)
      have k1 := KeptW.cell ((hb.cell (p := ⟨b', off' + k, none⟩) hbl').trans (hc' k hlt)) (by show b' < wr.heap.size; have := hb.size; omega)
      have hkl : (k : Int) < (l.length : Int) := by omega
      have hk0 : (0 : Int) ≤ (k : Int) := by omega
      have HB := Lib.hid hb
      clear hc hc' hb
      generalize l[k]'hlt = x at *
      have hne : (x != x) = false := by simp
      go_wp2_with fail
      refine region_kept wr.heap.size (by kernel_rfl) (by kernel_rfl) ?_
      repeat (go_big_quiet_step (fail))
      refine wpQuiet_nil ?_
      intro w9 hb9
      have HB9 := Lib.hid (HB.out.trans (hb9.mono HB.out.size))
      clear k0 k1 hb9
      go_wp2
      go_roundw
      case rel => exact ⟨k + 1, by omega, by go_num, HB9.out⟩
      case measure => simp [intOf]; omega
    · obtain rfl : k = l.length := by omega
      go_wp2
      go_ret
      exact ⟨rfl, hb⟩

set_option maxRecDepth 100000 in
theorem pIn_any (l : List Int) (x : Int) (A : Option Addr) (c : Nat) (w : World) (hf : IntsIn w A l) (hn : l.length ≤ 1048576) :
    Calls Try.prog 29 #[.slice A l.length c, .int .i64 x] w fun e w' => e = .returned (.bool (decide (x ∈ l))) ∧ Below w.heap.size w w' := by
  have HF := Lib.hid hf; clear hf
  go_enter Try.func29, Try.ntmps29
  go_wp2
  go_loopw [9] (fun i wr => ∃ k : Nat, k ≤ l.length ∧ i = .int .i64 (k : Int) ∧ ¬ x ∈ l.take k ∧ Below w.heap.size w wr) (fun i _ => l.length - (intOf i).toNat)
  case atStart => exact ⟨0, Nat.zero_le _, rfl, by simp, Below.refl _ _⟩
  case round =>
    obtain ⟨k, hk, rfl, hx, hb⟩ := hrel
    have HX := Lib.hid hx; clear hx
    by_cases hlt : k < l.length
    · obtain ⟨b, off, rfl, hbl, hc⟩ := HF.out (by omega)
      have hc0 := hc k hlt
      rw [← hb.cell (p := ⟨b, off + k, none⟩) hbl] at hc0
      have hkl : (k : Int) < (l.length : Int) := by omega
      have hk0 : (0 : Int) ≤ (k : Int) := by omega
      have HB := Lib.hid hb
      have HT := Lib.hid (List.take_succ_eq_append_getElem hlt)
      clear hc hb
      by_cases hz : l[k] = x
      · have HM : Hid (decide (x ∈ l) = true) := Lib.hid (decide_eq_true (by rw [← hz]; exact List.getElem_mem hlt))
        have hze : (l[k] == x) = true := by simp [hz]
        clear hz HT
        generalize l[k]'hlt = y at *
        go_wp2
        go_ret
        exact ⟨ret_bool HM.out.symm, HB.out⟩
      · have hze : (l[k] == x) = false := by simp [hz]
        have HN : Hid (¬ x ∈ l.take (k + 1)) := Lib.hid (by
          rw [HT.out, List.mem_append]
          rintro (h | h)
          · exact HX.out h
          · exact hz (List.mem_singleton.1 h).symm)
        clear hz HT
        generalize l[k]'hlt = y at *
        go_wp2
        go_roundw
        case rel => exact ⟨k + 1, by omega, by go_num, HN.out, HB.out⟩
        case measure => simp [intOf]; omega
    · have hkl : ¬ (k : Int) < (l.length : Int) := by omega
      have HM : Hid (decide (x ∈ l) = false) := Lib.hid (decide_eq_false (by have := HX.out; rwa [List.take_of_length_le (by omega)] at this))
      have HB := Lib.hid hb; clear hb
      go_wp2
      go_ret
      exact ⟨ret_bool HM.out.symm, HB.out⟩
theorem smI_take {l : List Int} {k : Nat} (h : k < l.length) : smI (l.take (k + 1)) = smI (l.take k) + l[k] := by
  rw [List.take_succ_eq_append_getElem h, smI_snoc]
set_option maxRecDepth 100000 in
theorem pSum_any (l : List Int) (A : Option Addr) (c : Nat) (w : World) (hf : IntsIn w A l) (hn : l.length ≤ 1048576) (hs : ∀ k, k ≤ l.length → -1000000000 ≤ smI (l.take k) ∧ smI (l.take k) ≤ 1000000000) :
    Calls Try.prog 15 #[.slice A l.length c] w fun e w' => e = .returned (.int .i64 (smI l)) ∧ Below w.heap.size w w' := by
  have HF := Lib.hid hf; clear hf
  have HS := Lib.hid hs; clear hs
  go_enter Try.func15, Try.ntmps15
  go_wp2
  go_loopw [3, 8] (fun s i wr => ∃ k : Nat, k ≤ l.length ∧ i = .int .i64 (k : Int) ∧ s = .int .i64 (smI (l.take k)) ∧ Below w.heap.size w wr) (fun _ i _ => l.length - (intOf i).toNat)
  case atStart => exact ⟨0, Nat.zero_le _, rfl, rfl, Below.refl _ _⟩
  case round =>
    obtain ⟨k, hk, rfl, rfl, hb⟩ := hrel
    by_cases hlt : k < l.length
    · obtain ⟨b, off, rfl, hbl, hc⟩ := HF.out (by omega)
      have hc0 := hc k hlt
      rw [← hb.cell (p := ⟨b, off + k, none⟩) hbl] at hc0
      have hkl : (k : Int) < (l.length : Int) := by omega
      have hk0 : (0 : Int) ≤ (k : Int) := by omega
      have HB := Lib.hid hb
      have h1 := HS.out k hk; have h2 := HS.out (k + 1) (by omega)
      have HT := Lib.hid (smI_take hlt)
      rw [HT.out] at h2
      clear hc hb
      generalize l[k]'hlt = y at *
      generalize smI (l.take k) = s at *
      go_wp2
      go_roundw
      case rel => exact ⟨k + 1, by omega, by go_num, by rw [HT.out], HB.out⟩
      case measure => simp [intOf]; omega
    · have hkl : ¬ (k : Int) < (l.length : Int) := by omega
      have HB := Lib.hid hb; clear hb
      have HE : Hid (smI (l.take k) = smI l) := Lib.hid (by rw [List.take_of_length_le (by omega)])
      go_wp2
      go_ret
      exact ⟨ret_int HE.out, HB.out⟩
end Go.Proofs.Yteagclokobkigaa
