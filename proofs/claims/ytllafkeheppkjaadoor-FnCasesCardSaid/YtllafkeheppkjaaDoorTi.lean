/-
  The contracts of spec.IsCase, spec.caSum, spec.TypesIn, impl.TypesIn: each answers what the plain words on cases say.
-/
import Derived.Test.YtllafkeheppkjaaDoorCf
namespace Go.Proofs.YtllafkeheppkjaaDoor
open Go.RowKit
set_option linter.unusedVariables false

theorem implIsCaseC_any (l : List Bx) (A : Option Addr) (c : Nat) (w : World) (hf : BxsIn w A l) (hn : l.length ≤ 1048576) (ho : BxsOk l) (hcap : l.length ≤ c) :
    Calls Tryd.prog 16 #[.slice A l.length c] w fun e w' => e = .returned (.bool (caseB l)) ∧ Below w.heap.size w w' := implIsCase_any l A c w hf hn ho
theorem implBoxOfC_any (l : List Bx) (A : Option Addr) (cap : Nat) (s : ByteArray) (w : World) (hf : BxsIn w A l) (hn : l.length ≤ 1048576) (ho : BxsOk l) (hcap : l.length ≤ cap) (hs : s.size ≤ maxLen) :
    Calls Tryd.prog 18 #[.slice A l.length cap, .string s] w fun e w' => e = .returned (.tuple #[.int .i64 ((boR l s).getD 0), .bool (boR l s).isSome]) ∧ Below w.heap.size w w' := implBoxOf_any l A cap s w hf hn ho
theorem specBoxOfC_any (l : List Bx) (A : Option Addr) (cap : Nat) (s : ByteArray) (w : World) (hf : BxsIn w A l) (hn : l.length ≤ 1048576) (ho : BxsOk l) (hcap : l.length ≤ cap) (hs : s.size ≤ maxLen) :
    Calls Tryd.prog 27 #[.slice A l.length cap, .string s] w fun e w' => e = .returned (.tuple #[.int .i64 ((boR l s).getD 0), .bool (boR l s).isSome]) ∧ Below w.heap.size w w' := specBoxOf_any l A cap s w hf hn ho hcap

/-- The answer of TypesIn. -/
noncomputable def tiR (l : List Bx) : Option Int := if caseB l = true then some (cntSum l) else none
theorem caSum_any (l : List Bx) (A : Option Addr) (c : Nat) (w : World) (hf : BxsIn w A l) (hC : CaseOk l) :
    Calls Tryd.prog 42 #[.slice A l.length c] w fun e w' => e = .returned (.int .i64 (cntSum l)) ∧ Below w.heap.size w w' := by
  have HF := Lib.hid hf; clear hf
  have hn : l.length ≤ 32 := hC.2.2
  have HC := Lib.hid hC; clear hC
  go_enter Tryd.func42, Tryd.ntmps42
  go_wp2
  go_loopw [3, 8] (fun s i wr => ∃ (k : Nat) (z : Int), k ≤ l.length ∧ i = .int .i64 k ∧ s = .int .i64 z ∧ z = cntSum (l.take k) ∧ Below w.heap.size w wr) (fun _ i _ => l.length - (intOf i).toNat)
  case atStart => exact ⟨0, 0, Nat.zero_le _, rfl, rfl, rfl, Below.refl _ _⟩
  case round =>
    obtain ⟨k, z, hk, rfl, rfl, hz, hb⟩ := hrel
    by_cases hlt : k < l.length
    · obtain ⟨b, off, rfl, hbl, hc⟩ := HF.out (by omega)
      obtain ⟨hc0, hc1, hc2, hc3⟩ := hc k hlt
      clear hc
      rw [← hb.cell (p := ⟨b, off + k * 4, none⟩) hbl] at hc0
      rw [← hb.cell (p := ⟨b, off + k * 4 + 1, none⟩) hbl] at hc1
      rw [← hb.cell (p := ⟨b, off + k * 4 + 2, none⟩) hbl] at hc2
      rw [← hb.cell (p := ⟨b, off + k * 4 + 3, none⟩) hbl] at hc3
      have hr := HC.out.range hlt
      have hr2 := cntSum_range HC.out k hk
      have hs := cntSum_snoc l k hlt
      rw [← hz] at hr2 hs
      have HSN := Lib.hid hs; clear hs hz
      obtain ⟨_, _, hr3, hr4⟩ := hr
      obtain ⟨hr5, hr6⟩ := hr2
      have hb' := Lib.hid (hb.alloc hb.size (.cells #[.string l[k].cod, .int .i64 l[k].row, .int .i64 l[k].col, .int .i64 l[k].cnt] 40))
      clear hb
      go_wp2
      go_roundw
      case rel => exact ⟨k + 1, z + l[k].cnt, by omega, by go_num, by go_num, HSN.out.symm, hb'.out⟩
      case measure => simp [intOf]; omega
    · obtain rfl : k = l.length := by omega
      rw [List.take_length] at hz
      subst hz
      go_wp2
      go_ret
      exact ⟨rfl, hb⟩
theorem specTypesIn_any (l : List Bx) (A : Option Addr) (c : Nat) (w : World) (hf : BxsIn w A l) (hn : l.length ≤ 1048576) (ho : BxsOk l) (hcap : l.length ≤ c) :
    Calls Tryd.prog 14 #[.slice A l.length c] w fun e w' => e = .returned (.tuple #[.int .i64 ((tiR l).getD 0), .bool (tiR l).isSome]) ∧ Below w.heap.size w w' := by
  have HF := Lib.hid hf; clear hf
  have HO := Lib.hid ho; clear ho
  cases hv : caseB l
  · have HE : Hid (tiR l = none) := Lib.hid (by unfold tiR; rw [hv]; rfl)
    have HV := Lib.hid hv; clear hv
    go_enter Tryd.func14, Tryd.ntmps14
    go_wp2_with fail
    refine (caGood_is l _ A c _ HF.out hn HO.out hcap HV).mono ?_
    rintro e w1 ⟨rfl, hb1⟩
    go_wp2
    go_ret2
    exact ⟨by rw [HE.out]; rfl, hb1⟩
  · have HE : Hid (tiR l = some (cntSum l)) := Lib.hid (by unfold tiR; rw [hv]; rfl)
    have HC := Lib.hid (caseB_iff.1 hv)
    have HV := Lib.hid hv; clear hv
    go_enter Tryd.func14, Tryd.ntmps14
    go_wp2_with fail
    refine (caGood_is l _ A c _ HF.out hn HO.out hcap HV).mono ?_
    rintro e w1 ⟨rfl, hb1⟩
    have HF1 := Lib.hid (HF.out.next hb1)
    go_wp2_with fail
    refine (caSum_any l A c _ HF1.out HC.out).mono ?_
    rintro e w2 ⟨rfl, hb2⟩
    go_wp2
    go_ret2
    exact ⟨by rw [HE.out]; rfl, hb1.trans (hb2.mono hb1.size)⟩

theorem implTypesIn_any (l : List Bx) (A : Option Addr) (c : Nat) (w : World) (hf : BxsIn w A l) (hn : l.length ≤ 1048576) (ho : BxsOk l) (hcap : l.length ≤ c) :
    Calls Tryd.prog 13 #[.slice A l.length c] w fun e w' => e = .returned (.tuple #[.int .i64 ((tiR l).getD 0), .bool (tiR l).isSome]) ∧ Below w.heap.size w w' := by
  have HF := Lib.hid hf; clear hf
  have HO := Lib.hid ho; clear ho
  cases hv : caseB l
  · have HE : Hid (tiR l = none) := Lib.hid (by unfold tiR; rw [hv]; rfl)
    have HV := Lib.hid hv; clear hv
    go_enter Tryd.func13, Tryd.ntmps13
    go_wp2_with fail
    refine (implIsCase_is l _ A c _ HF.out hn HO.out HV).mono ?_
    rintro e w1 ⟨rfl, hb1⟩
    go_wp2
    go_ret2
    exact ⟨by rw [HE.out]; rfl, hb1⟩
  · have HE : Hid (tiR l = some (cntSum l)) := Lib.hid (by unfold tiR; rw [hv]; rfl)
    have HC := Lib.hid (caseB_iff.1 hv)
    have HV := Lib.hid hv; clear hv
    go_enter Tryd.func13, Tryd.ntmps13
    go_wp2_with fail
    refine (implIsCase_is l _ A c _ HF.out hn HO.out HV).mono ?_
    rintro e w1 ⟨rfl, hb1⟩
    go_wp2
    go_loopw [4, 12] (fun s i wr => ∃ (k : Nat) (z : Int), k ≤ l.length ∧ i = .int .i64 k ∧ s = .int .i64 z ∧ z = cntSum (l.take k) ∧ Below w.heap.size w wr) (fun _ i _ => l.length - (intOf i).toNat)
    case atStart => exact ⟨0, 0, Nat.zero_le _, rfl, rfl, rfl, hb1⟩
    case round =>
      obtain ⟨k, z, hk, rfl, rfl, hz, hb⟩ := hrel
      by_cases hlt : k < l.length
      · obtain ⟨b, off, rfl, hbl, hc⟩ := HF.out (by omega)
        obtain ⟨hc0, hc1, hc2, hc3⟩ := hc k hlt
        clear hc
        rw [← hb.cell (p := ⟨b, off + k * 4, none⟩) hbl] at hc0
        rw [← hb.cell (p := ⟨b, off + k * 4 + 1, none⟩) hbl] at hc1
        rw [← hb.cell (p := ⟨b, off + k * 4 + 2, none⟩) hbl] at hc2
        rw [← hb.cell (p := ⟨b, off + k * 4 + 3, none⟩) hbl] at hc3
        have hr := HC.out.range hlt
        have hr2 := cntSum_range HC.out k hk
        have hs := cntSum_snoc l k hlt
        rw [← hz] at hr2 hs
        have HSN := Lib.hid hs; clear hs hz
        obtain ⟨_, _, hr3, hr4⟩ := hr
        obtain ⟨hr5, hr6⟩ := hr2
        have hb' := Lib.hid (hb.alloc hb.size (.cells #[.string l[k].cod, .int .i64 l[k].row, .int .i64 l[k].col, .int .i64 l[k].cnt] 40))
        clear hb
        go_wp2
        go_roundw
        case rel => exact ⟨k + 1, z + l[k].cnt, by omega, by go_num, by go_num, HSN.out.symm, hb'.out⟩
        case measure => simp [intOf]; omega
      · obtain rfl : k = l.length := by omega
        rw [List.take_length] at hz
        subst hz
        go_wp2
        go_ret2
        exact ⟨by rw [HE.out]; rfl, hb⟩
end Go.Proofs.YtllafkeheppkjaaDoor
