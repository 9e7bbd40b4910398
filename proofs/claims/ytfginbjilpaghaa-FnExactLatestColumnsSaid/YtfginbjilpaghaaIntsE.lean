/-
  The contract of laws.markIntS on a row of the call's own, whatever type its block was made with.
-/
import Derived.Test.YtfginbjilpaghaaInts
namespace Go.Proofs.Ytfginbjilpaghaa
open Go.RowKit
set_option linter.unusedVariables false

theorem markIntSE_any (k : Int) (n base : Nat) (E : TypeId) (v : Value) (xs : List Value) (w : World) (hown : w.ownsRow base E 1 v n xs) (h0 : 0 ≤ k) (hn : k + (n : Int) ≤ 16777216) :
    Calls Try.prog 23 #[v, .int .i64 k] w fun e w' => e = .returned (.int .i64 (k + (n : Int))) ∧ w.grownBy w' v.ownBlock ∧ w'.ownsRow base E 1 v n (intsZ (marks k n)) := by
  rcases hown.2 with ⟨rfl, rfl⟩ | ⟨g, cap, cur, rfl, hg, hh, h1, h2, h3, h4⟩
  · go_enter Try.func23, Try.ntmps23
    go_wp2
    go_loop [1, 5] (fun q i => i = .int .i64 0 ∧ q = .int .i64 k) (fun _ i => 0)
    case atStart => exact ⟨rfl, rfl⟩
    case round =>
      obtain ⟨rfl, rfl⟩ := hrel
      go_wp2
      go_ret
      exact ⟨ret_int (by simp), World.grownBy.refl _ _, own_nil _ _ _ _⟩
  · have hst : Marked w g E cap (intsZ (marks k 0)) := ⟨cur, hh, by simpa using h3, by simp [marks, intsZ]⟩
    have HST := Lib.hid hst
    clear hst hh h3 h4 hown
    go_enter Try.func23, Try.ntmps23
    go_wp2
    go_loopw [1, 5] (fun q i wr => ∃ (j : Nat), j ≤ n ∧ i = .int .i64 j ∧ q = .int .i64 (k + (j : Int)) ∧ Marked wr g E cap (intsZ (marks k j)) ∧ w.grownBy wr (some g)) (fun _ i _ => n - (intOf i).toNat)
    case atStart => exact ⟨0, Nat.zero_le _, rfl, by simp, HST.out, World.grownBy.refl _ _⟩
    case round =>
      obtain ⟨j, hj, rfl, rfl, hm, hgr⟩ := hrel
      by_cases hlt : j < n
      · obtain ⟨⟨u, hu⟩, hfz⟩ := hm.at_ (j := j) (by omega)
        have hl : (intsZ (marks k j)).length = j := by simp [intsZ, marks_len]
        have hst := hm.step (by rw [hl]; omega) (.int .i64 (k + (j : Int)))
        rw [hl] at hst
        have HM : Hid (Marked (wr.setCell ⟨g, j, none⟩ (.int .i64 (k + (j : Int)))) g E cap (intsZ (marks k (j + 1)))) := by rw [marks_succ]; show Marked _ _ _ _ (List.map _ _); rw [List.map_append]; exact hst
        have HG := Lib.hid (grown_set hgr j (.int .i64 (k + (j : Int))))
        clear hm hl hst hgr
        go_wp2
        go_roundw
        case rel => exact ⟨j + 1, by omega, by go_num, by rw [show k + ((j + 1 : Nat) : Int) = k + (j : Int) + 1 from by omega], HM.out, HG.out⟩
        case measure => simp [intOf]; omega
      · obtain rfl : j = n := by omega
        go_wp2
        go_ret
        refine ⟨rfl, hgr, by simp [intsZ, marks_len], .inr ?_⟩
        obtain ⟨cur', g1, g2, g3⟩ := hm
        exact ⟨g, cap, cur', rfl, hg, g1, h1, h2, by simpa using g2, by simpa [intsZ, marks_len] using g3⟩
end Go.Proofs.Ytfginbjilpaghaa
