/-
  Strikes by value: the contracts of spec.maParts, spec.maGood, spec.IsStrike, impl.numberParts, impl.IsStrike: each answers what the plain words here say and changes nothing that was there.
-/
import Derived.Test.YtdomccamkiplcaaDoorSk
import Derived.Test.YtdomccamkiplcaaDoorIn
namespace Go.Proofs.YtdomccamkiplcaaDoor
open Go.RowKit
set_option linter.unusedVariables false

def goodB (s : Sk) : Bool := allB 1 999 s.zs
theorem zs_len (s : Sk) : s.zs.length = 5 := rfl

def PartsTo (s : Sk) (w : World) (e : Ending) (w' : World) : Prop := ∃ b, e = .returned (.slice (some ⟨b, 0, none⟩) 5 5) ∧ Below w.heap.size w w' ∧ w.heap.size ≤ b ∧ Own w' b 3 (intsZ s.zs)
theorem maParts_any (s : Sk) (w : World) :
    Calls Tryd.prog 53 #[.agg #[.int .i64 s.dep, .int .i64 s.lef, .int .i64 s.fac, .int .i64 s.rig, .int .i64 s.foo]] w fun e w' => PartsTo s w e w' := by
  go_enter Tryd.func53, Tryd.ntmps53
  go_wp2
  go_ret
  exact ⟨_, rfl, ((Below.refl _ _).alloc (Nat.le_refl _) _).alloc (by simp) _, Nat.le_succ _, heap_alloc2_new _ _ _⟩

theorem maGood_any (s : Sk) (w : World) :
    Calls Tryd.prog 35 #[.agg #[.int .i64 s.dep, .int .i64 s.lef, .int .i64 s.fac, .int .i64 s.rig, .int .i64 s.foo]] w fun e w' => e = .returned (.bool (goodB s)) ∧ Below w.heap.size w w' := by
  go_enter Tryd.func35, Tryd.ntmps35
  go_wp2_with fail
  refine (maParts_any s _).mono ?_
  rintro e w1 ⟨b, rfl, hb, _, ho⟩
  have H := Lib.hid ho.ints
  have hb' : Below w.heap.size w w1 := ((Below.refl _ _).alloc (Nat.le_refl _) _).trans (hb.mono (by simp))
  clear hb ho
  go_wp2_with fail
  refine (l1All_any s.zs _ 5 1 999 _ H.out (by rw [zs_len]; decide)).mono ?_
  rintro e w2 ⟨rfl, rfl⟩
  go_wp2
  go_ret
  exact ⟨rfl, hb'⟩

theorem numberParts_any (s : Sk) (w : World) :
    Calls Tryd.prog 56 #[.agg #[.int .i64 s.dep, .int .i64 s.lef, .int .i64 s.fac, .int .i64 s.rig, .int .i64 s.foo]] w fun e w' => e = .returned (.agg #[.int .i64 s.dep, .int .i64 s.lef, .int .i64 s.fac, .int .i64 s.rig, .int .i64 s.foo]) ∧ Below w.heap.size w w' := by
  go_enter Tryd.func56, Tryd.ntmps56
  go_wp2
  go_outline
  refine bodyPost_ret (v := .agg #[.int .i64 s.dep, .int .i64 s.lef, .int .i64 s.fac, .int .i64 s.rig, .int .i64 s.foo]) (by simp [results, Tryd.results56, go_sem]) rfl ⟨rfl, ?_⟩
  exact ((Below.refl _ _).alloc (Nat.le_refl _) _).alloc (by simp) _

theorem run_index5 (s : Sk) (k : Nat) (h : k < s.zs.length) (w : World) : (Instr.index 63 (.agg #[.int .i64 s.dep, .int .i64 s.lef, .int .i64 s.fac, .int .i64 s.rig, .int .i64 s.foo]) (.int .i64 (k : Int))).run Tryd.prog w = .ok (.int .i64 s.zs[k]) w := by
  have hc : k = 0 ∨ k = 1 ∨ k = 2 ∨ k = 3 ∨ k = 4 := by rw [zs_len] at h; omega
  rcases hc with rfl | rfl | rfl | rfl | rfl <;> simp [Instr.index, asIntOf, run_underlying (P := Tryd.prog) Tryd.underlying63, part, Sem.run_bind, Sk.zs]

theorem run_field5 (s : Sk) (w : World) : (Instr.field 65 (.agg #[.int .i64 s.dep, .int .i64 s.lef, .int .i64 s.fac, .int .i64 s.rig, .int .i64 s.foo]) 0).run Tryd.prog w = .ok (.agg #[.int .i64 s.dep, .int .i64 s.lef, .int .i64 s.fac, .int .i64 s.rig, .int .i64 s.foo]) w := by kernel_rfl

theorem implIsStrike_any (s : Sk) (w : World) :
    Calls Tryd.prog 40 #[.agg #[.int .i64 s.dep, .int .i64 s.lef, .int .i64 s.fac, .int .i64 s.rig, .int .i64 s.foo]] w fun e w' => e = .returned (.bool (goodB s)) ∧ Below w.heap.size w w' := by
  go_enter Tryd.func40, Tryd.ntmps40
  go_wp2_with fail
  refine (numberParts_any s _).mono ?_
  rintro e w1 ⟨rfl, hb⟩
  have HB := Lib.hid (((Below.refl w.heap.size w).alloc (Nat.le_refl _) (.cells #[.int .i64 s.dep, .int .i64 s.lef, .int .i64 s.fac, .int .i64 s.rig, .int .i64 s.foo] 34)).trans (hb.mono (by simp)))
  clear hb
  have hfl := run_field5 s
  go_wp2
  clear hfl
  go_loop [8] (fun i => ∃ (k : Nat), k ≤ 5 ∧ i = .int .i64 k ∧ allB 1 999 (s.zs.take k) = true) (fun i => 5 - (intOf i).toNat)
  case atStart => exact ⟨0, Nat.zero_le _, rfl, rfl⟩
  case round =>
    obtain ⟨k, hk, rfl, hs⟩ := hrel
    have HS := Lib.hid hs; clear hs
    by_cases hlt : k < 5
    · have hix := run_index5 s k hlt
      have hst : allB 1 999 (s.zs.take (k + 1)) = inB 1 999 s.zs[k] := by rw [List.take_succ_eq_append_getElem hlt, allB_snoc, HS.out]; rfl
      have hno := allB_no (lo := 1) (hi := 999) (l := s.zs) hlt
      have HST := Lib.hid hst; have HNO := Lib.hid hno
      clear hst hno
      rcases (by omega : (1 ≤ s.zs[k] ∧ s.zs[k] ≤ 999) ∨ s.zs[k] < 1 ∨ (1 ≤ s.zs[k] ∧ 999 < s.zs[k])) with ⟨h1, h2⟩ | h1 | ⟨h1, h2⟩
      · have HY : Hid (inB 1 999 s.zs[k] = true) := by show _ = _; simp [inB, h1, h2]
        generalize s.zs[k] = z at *
        go_wp2
        go_round
        case rel => exact ⟨k + 1, by omega, by go_num, by rw [HST.out, HY.out]⟩
        case measure => simp [intOf]; omega
      · have HY : Hid (goodB s = false) := by show _ = _; exact HNO.out (by simp [inB]; omega)
        generalize s.zs[k] = z at *
        go_wp2
        go_ret
        exact ⟨ret_bool HY.out.symm, HB.out⟩
      · have HY : Hid (goodB s = false) := by show _ = _; exact HNO.out (by simp [inB]; omega)
        generalize s.zs[k] = z at *
        go_wp2
        go_ret
        exact ⟨ret_bool HY.out.symm, HB.out⟩
    · obtain rfl : k = 5 := by omega
      go_wp2
      go_ret
      exact ⟨ret_bool (by have e := HS.out; rw [List.take_of_length_le (by rw [zs_len]; exact Nat.le_refl _)] at e; exact e.symm), HB.out⟩
end Go.Proofs.YtdomccamkiplcaaDoor
