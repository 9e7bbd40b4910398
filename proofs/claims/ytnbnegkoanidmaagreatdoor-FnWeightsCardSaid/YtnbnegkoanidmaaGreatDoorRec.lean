/-
  The contracts of LeastRecast, in spec and in impl: each answers what the plain words here say and changes nothing that was there.
-/
import Derived.Test.YtnbnegkoanidmaaGreatDoorMsk
import Derived.OwnWalk
import Derived.Maps.AppendAt
import Derived.Deep.RegionLaw
namespace Go.Proofs.YtnbnegkoanidmaaGreatDoor.S1
open Go.RowKit
set_option linter.unusedVariables false

def mx0 (x : Int) : Int := if x < 0 then 0 else x
/-- How many of each sort have to be cast. -/
def rcL (need st : List Int) (t : Int) : List Int := (List.range need.length).map fun i => mx0 (t * need.getD i 0 - st.getD i 0)
theorem rcL_len (need st : List Int) (t : Int) : (rcL need st t).length = need.length := by simp [rcL]
theorem rcL_succ {need st : List Int} {t : Int} {k : Nat} (h1 : k < need.length) (h2 : k < st.length) : (rcL need st t).take (k + 1) = (rcL need st t).take k ++ [mx0 (t * need[k] - st[k])] := by
  rw [List.take_succ_eq_append_getElem (by rw [rcL_len]; exact h1)]
  congr 2
  simp only [rcL, List.getElem_map, List.getElem_range]
  rw [getD_of h1, getD_of h2]
noncomputable def rcR (f : List (ByteArray × Int)) (st : List Int) (ws : List ByteArray) (t : Int) : Option (List Int) := if askB f st ws && inB 0 1000 t && allB 0 100000 (rcL (needF f ws) st t) then some (rcL (needF f ws) st t) else none
theorem rc_no {f : List (ByteArray × Int)} {st : List Int} {ws : List ByteArray} {t : Int} (h : askB f st ws = false ∨ inB 0 1000 t = false ∨ allB 0 100000 (rcL (needF f ws) st t) = false) : rcR f st ws t = none := by
  unfold rcR; rcases h with h | h | h <;> simp [h]
theorem rc_yes {f : List (ByteArray × Int)} {st : List Int} {ws : List ByteArray} {t : Int} (h1 : askB f st ws = true) (h2 : inB 0 1000 t = true) (h3 : allB 0 100000 (rcL (needF f ws) st t) = true) : rcR f st ws t = some (rcL (needF f ws) st t) := by
  unfold rcR; simp [h1, h2, h3]
theorem mul_in {t x : Int} (h0 : 0 ≤ t) (h1 : t ≤ 1000) (g0 : 0 ≤ x) (g1 : x ≤ 640) : 0 ≤ t * x ∧ t * x ≤ 640000 := by
  have a := Int.mul_nonneg h0 g0
  have b := Int.mul_le_mul h1 g1 g0 (by omega)
  omega
theorem rcR_short (f : List (ByteArray × Int)) (st : List Int) (ws : List ByteArray) (t : Int) : ((rcR f st ws t).getD []).length ≤ 64 := by
  unfold rcR
  split
  · rename_i h
    simp only [Bool.and_eq_true] at h
    obtain ⟨h1, _, h2, _⟩ := need_stock h.1.1
    rw [Option.getD_some, rcL_len]; omega
  · simp

theorem mx0_max (x : Int) : max x 0 = mx0 x := by unfold mx0; split <;> omega

end Go.Proofs.YtnbnegkoanidmaaGreatDoor.S1
