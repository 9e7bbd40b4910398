/-
  The contracts of spec.maList and impl.areStrikes: each answers whether a list of strikes is valid, and changes nothing that was there.
-/
import Derived.Test.YtbbaphhkdhdelaaFis
namespace Go.Proofs.Ytbbaphhkdhdelaa
open Go.RowKit
set_option linter.unusedVariables false

def allG (f : List Sk) : Bool := f.all goodB
def listB (f : List Sk) : Bool := allG f && decide (f.length ≤ 30)
theorem allG_snoc (f : List Sk) {k : Nat} (h : k < f.length) : allG (f.take (k + 1)) = (allG (f.take k) && goodB f[k]) := by
  unfold allG; rw [List.take_succ_eq_append_getElem h, List.all_append]; simp only [List.all_cons, List.all_nil, Bool.and_true]
theorem allG_no {f : List Sk} {k : Nat} (h : k < f.length) (hf : goodB f[k] = false) : allG f = false := by
  unfold allG
  rw [List.all_eq_false]
  exact ⟨f[k], List.getElem_mem h, by simp [hf]⟩
theorem allG_at {f : List Sk} (h : allG f = true) {k : Nat} (hk : k < f.length) : goodB f[k] = true := by
  unfold allG at h
  rw [List.all_eq_true] at h
  exact h _ (List.getElem_mem hk)

set_option maxRecDepth 100000 in
theorem maList_any (f : List Sk) (A : Option Addr) (c : Nat) (w : World) (hf : SksIn w A f) (hn : f.length ≤ 1048576) :
    Calls Try.prog 51 #[.slice A f.length c] w fun e w' => e = .returned (.bool (listB f)) ∧ Below w.heap.size w w' := by
  have HF := Lib.hid hf; clear hf
  go_enter Try.func51, Try.ntmps51
  go_wp2
  go_loopw [7] (fun i wr => ∃ k : Nat, k ≤ f.length ∧ i = .int .i64 k ∧ allG (f.take k) = true ∧ Below w.heap.size w wr) (fun i _ => f.length - (intOf i).toNat)
  case atStart => exact ⟨0, Nat.zero_le _, rfl, rfl, Below.refl _ _⟩
  case round =>
    obtain ⟨k, hk, rfl, hs, hb⟩ := hrel
    have HS := Lib.hid hs; clear hs
    by_cases hlt : k < f.length
    · obtain ⟨b, off, rfl, hbl, hc⟩ := HF.out (by omega)
      obtain ⟨hc0, hc1, hc2, hc3, hc4⟩ := hc k hlt
      clear hc
      rw [← hb.cell (p := ⟨b, off + k * 5, none⟩) hbl] at hc0
      rw [← hb.cell (p := ⟨b, off + k * 5 + 1, none⟩) hbl] at hc1
      rw [← hb.cell (p := ⟨b, off + k * 5 + 2, none⟩) hbl] at hc2
      rw [← hb.cell (p := ⟨b, off + k * 5 + 3, none⟩) hbl] at hc3
      rw [← hb.cell (p := ⟨b, off + k * 5 + 4, none⟩) hbl] at hc4
      have HST := Lib.hid (allG_snoc f hlt)
      have HNO : Hid (goodB f[k] = false → allG f = false) := Lib.hid (allG_no hlt)
      have HB := Lib.hid hb
      clear hb
      go_wp2_with fail
      refine (maGood_any f[k] _).mono ?_
      rintro e w1 ⟨rfl, hb1⟩
      have HB1 : Hid (Below w.heap.size w w1) := Lib.hid ((HB.out.alloc HB.out.size _).trans (hb1.mono (HB.out.alloc HB.out.size _).size))
      clear hb1 HB hc0 hc1 hc2 hc3 hc4
      cases hg : goodB f[k]
      · have HV : Hid (listB f = false) := by show _ = _; unfold listB; rw [HNO.out hg]; rfl
        clear hg
        go_wp2
        go_ret
        exact ⟨ret_bool HV.out.symm, HB1.out⟩
      · have HV : Hid (allG (f.take (k + 1)) = true) := by show _ = _; rw [HST.out, HS.out, hg]; rfl
        clear hg
        go_wp2
        go_roundw
        case rel => exact ⟨k + 1, by omega, by go_num, HV.out, HB1.out⟩
        case measure => simp [intOf]; omega
    · obtain rfl : k = f.length := by omega
      have HV : Hid (listB f = decide (f.length ≤ 30)) := by
        show _ = _
        have h := HS.out
        rw [List.take_length] at h
        unfold listB; rw [h]; rfl
      have e : decide ((f.length : Int) ≤ 30) = decide (f.length ≤ 30) := decide_eq_decide.2 (by omega)
      have HE := Lib.hid e; clear e
      go_wp2
      go_ret
      exact ⟨ret_bool (by rw [HV.out]; first | exact HE.out | rfl), hb⟩

set_option maxRecDepth 100000 in
theorem areStrikes_any (f : List Sk) (A : Option Addr) (c : Nat) (w : World) (hf : SksIn w A f) (hn : f.length ≤ 1048576) :
    Calls Try.prog 55 #[.slice A f.length c] w fun e w' => e = .returned (.bool (listB f)) ∧ Below w.heap.size w w' := by
  have HF := Lib.hid hf; clear hf
  by_cases hl : 30 < f.length
  · have HV : Hid (listB f = false) := by show _ = _; unfold listB; rw [decide_eq_false (by omega)]; simp
    have h1 : (30 : Int) < (f.length : Int) := by omega
    go_enter Try.func55, Try.ntmps55
    go_wp2
    go_ret
    exact ⟨ret_bool HV.out.symm, Below.refl _ _⟩
  have h1 : ¬ (30 : Int) < (f.length : Int) := by omega
  have HV0 : Hid (listB f = allG f) := by show _ = _; unfold listB; rw [decide_eq_true (by omega)]; simp
  go_enter Try.func55, Try.ntmps55
  go_wp2
  go_loopw [10] (fun i wr => ∃ k : Nat, k ≤ f.length ∧ i = .int .i64 k ∧ allG (f.take k) = true ∧ Below w.heap.size w wr) (fun i _ => f.length - (intOf i).toNat)
  case atStart => exact ⟨0, Nat.zero_le _, rfl, rfl, Below.refl _ _⟩
  case round =>
    obtain ⟨k, hk, rfl, hs, hb⟩ := hrel
    have HS := Lib.hid hs; clear hs
    by_cases hlt : k < f.length
    · obtain ⟨b, off, rfl, hbl, hc⟩ := HF.out (by omega)
      obtain ⟨hc0, hc1, hc2, hc3, hc4⟩ := hc k hlt
      clear hc
      rw [← hb.cell (p := ⟨b, off + k * 5, none⟩) hbl] at hc0
      rw [← hb.cell (p := ⟨b, off + k * 5 + 1, none⟩) hbl] at hc1
      rw [← hb.cell (p := ⟨b, off + k * 5 + 2, none⟩) hbl] at hc2
      rw [← hb.cell (p := ⟨b, off + k * 5 + 3, none⟩) hbl] at hc3
      rw [← hb.cell (p := ⟨b, off + k * 5 + 4, none⟩) hbl] at hc4
      have HST := Lib.hid (allG_snoc f hlt)
      have HNO : Hid (goodB f[k] = false → allG f = false) := Lib.hid (allG_no hlt)
      have HB := Lib.hid hb
      clear hb
      go_wp2_with fail
      refine (implIsStrike_any f[k] _).mono ?_
      rintro e w1 ⟨rfl, hb1⟩
      have HB1 : Hid (Below w.heap.size w w1) := Lib.hid ((HB.out.alloc HB.out.size _).trans (hb1.mono (HB.out.alloc HB.out.size _).size))
      clear hb1 HB hc0 hc1 hc2 hc3 hc4
      cases hg : goodB f[k]
      · have HV : Hid (listB f = false) := by show _ = _; rw [HV0.out, HNO.out hg]
        clear hg
        go_wp2
        go_ret
        exact ⟨ret_bool HV.out.symm, HB1.out⟩
      · have HV : Hid (allG (f.take (k + 1)) = true) := by show _ = _; rw [HST.out, HS.out, hg]; rfl
        clear hg
        go_wp2
        go_roundw
        case rel => exact ⟨k + 1, by omega, by go_num, HV.out, HB1.out⟩
        case measure => simp [intOf]; omega
    · obtain rfl : k = f.length := by omega
      have HV : Hid (listB f = true) := by
        show _ = _
        have h := HS.out
        rw [List.take_length] at h
        rw [HV0.out, h]
      go_wp2
      go_ret
      exact ⟨ret_bool HV.out.symm, hb⟩
end Go.Proofs.Ytbbaphhkdhdelaa
