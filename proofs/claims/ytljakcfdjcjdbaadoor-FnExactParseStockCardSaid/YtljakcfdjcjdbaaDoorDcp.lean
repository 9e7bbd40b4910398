/-
  The contract of impl.parseDecimal: it answers what the plain word decP says, given the library's tables and its two sentinels, and changes nothing that was there.
-/
import Derived.Test.YtljakcfdjcjdbaaDoorPdb
import Derived.Test.YtljakcfdjcjdbaaDoorSha
import Derived.Test.YtljakcfdjcjdbaaDoorFont
import Derived.Lib.AppendIntMem
import Derived.Lib.AtoiAllCases
import Derived.Lib.AtoiErrMem
import Derived.Lib.ItoaLen
namespace Go.Proofs.YtljakcfdjcjdbaaDoor.T1
open Go.RowKit
set_option linter.unusedVariables false

/-- What parseDecimal answers. -/
def decP (s : ByteArray) : Int × Bool := match Lib.atoiAll s.data.toList with
  | .ok v => if baOf (Lib.itoa v) = s then (v, true) else (0, false)
  | _ => (0, false)
theorem decP_ok {s : ByteArray} {v : Int} (h : Lib.atoiAll s.data.toList = .ok v) (he : baOf (Lib.itoa v) = s) : decP s = (v, true) := by unfold decP; rw [h]; simp [he]
theorem decP_other {s : ByteArray} {v : Int} (h : Lib.atoiAll s.data.toList = .ok v) (he : ¬ baOf (Lib.itoa v) = s) : decP s = (0, false) := by unfold decP; rw [h]; simp [he]
theorem decP_bad {s : ByteArray} (h : Lib.atoiAll s.data.toList = Lib.atoiAll []) : decP s = (0, false) := by unfold decP; rw [h]; rfl
theorem decP_range {s : ByteArray} (h : Lib.atoiAll s.data.toList = .range) : decP s = (0, false) := by unfold decP; rw [h]
/-- The sentinel variable g holds an error, or nil. -/
def Sent (w : World) (g : Nat) : Prop := ∃ ev, w.cell? ⟨g, 0, none⟩ = some ev ∧ (ev = .nilIface ∨ ∃ te pe, ev = .iface te pe)
theorem ret_ib' {p : Int × Bool} {v : Int} {b : Bool} (h : p = (v, b)) : Ending.returned (.tuple #[.int .i64 v, .bool b]) = .returned (.tuple #[.int .i64 p.1, .bool p.2]) := by rw [h]

set_option maxRecDepth 100000 in
set_option maxHeartbeats 2000000 in
theorem parseDec_any (s : ByteArray) (w : World) (hs : s.size ≤ 281474976710656) (ht : Tab w) (h2 : Sent w 2) (h3 : Sent w 3) :
    Calls Tryd.prog 34 #[.string s] w fun e w' => e = .returned (.tuple #[.int .i64 (decP s).1, .bool (decP s).2]) ∧ Below w.heap.size w w' := by
  have HT := Lib.hid ht; clear ht
  rcases h : Lib.atoiAll s.data.toList with v | _ | _
  · obtain ⟨r1, r2⟩ := Lib.atoiAll_bounds h
    have HITOA : Hid (∀ W, Tab W → Calls Tryd.prog 19 #[.int .i64 v] W fun e w' => e = .returned (.string (baOf (Lib.itoa v))) ∧ Below W.heap.size W w') := by
      intro W hW
      refine (Tryd.strconv_Itoa v r1 r2 W hW).mono ?_
      rintro e w' ⟨rfl, q, os, rfl⟩
      exact ⟨rfl, Lib.below_grow _ _ (Nat.le_refl _) _ _⟩
    have HA : Hid (∀ W, Calls Tryd.prog 38 #[.string s] W fun e w' => e = .returned (.tuple #[.int .i64 v, .nilIface]) ∧ Below W.heap.size W w') := by
      intro W
      refine (Tryd.strconv_Atoi_ok s (by omega) v h W).mono ?_
      rintro e w' ⟨rfl, hw | ⟨t, hw⟩⟩
      · subst hw; exact ⟨rfl, Below.refl _ _⟩
      · subst hw; exact ⟨rfl, Lib.bytesWorld_below _ _ _⟩
    have HYES := Lib.hid (decP_ok h); have HNO := Lib.hid (decP_other h)
    clear h
    generalize baOf (Lib.itoa v) = t at *
    go_enter Tryd.func34, Tryd.ntmps34
    go_wp2_with fail
    refine (HA.out _).mono ?_
    rintro e w1 ⟨rfl, hb1⟩
    have HB1 := Lib.hid hb1; clear hb1
    go_wp2_with fail
    refine (HITOA.out _ (HT.out.below HB1.out)).mono ?_
    rintro e w2 ⟨rfl, hb2⟩
    have HB2 := Lib.hid (HB1.out.trans (hb2.mono HB1.out.size)); clear hb2
    by_cases he : t = s
    · have HV := Lib.hid (HYES.out he)
      subst he
      have hq : (!(t.toList == t.toList)) = false := by simp
      go_wp2
      go_ret2
      exact ⟨ret_ib' HV.out, HB2.out⟩
    · have HV := Lib.hid (HNO.out he)
      have hq := str_ne he
      have HE := Lib.hid he; clear he
      go_wp2
      go_ret2
      exact ⟨ret_ib' HV.out, HB2.out⟩
  · obtain ⟨ev, hv, hev⟩ := h2
    have HA := Lib.hid (Tryd.strconv_Atoi_syntax s hs h ev w hv hev)
    have HV := Lib.hid (decP_bad h)
    clear h hv hev h3
    go_enter Tryd.func34, Tryd.ntmps34
    go_wp2_with fail
    refine HA.out.mono ?_
    rintro e w1 ⟨N, rfl, _, _, hb1⟩
    have HB1 := Lib.hid hb1; clear hb1
    go_wp2
    go_ret2
    exact ⟨ret_ib' HV.out, HB1.out⟩
  · obtain ⟨ev, hv, hev⟩ := h3
    have HA := Lib.hid (Tryd.strconv_Atoi_range s hs h ev w hv hev)
    have HV := Lib.hid (decP_range h)
    clear h hv hev h2
    go_enter Tryd.func34, Tryd.ntmps34
    go_wp2_with fail
    refine HA.out.mono ?_
    rintro e w1 ⟨N, rfl, _, _, hb1⟩
    have HB1 := Lib.hid hb1; clear hb1
    go_wp2
    go_ret2
    exact ⟨ret_ib' HV.out, HB1.out⟩
end Go.Proofs.YtljakcfdjcjdbaaDoor.T1
