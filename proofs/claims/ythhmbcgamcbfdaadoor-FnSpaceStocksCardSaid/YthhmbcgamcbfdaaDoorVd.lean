/-
  The contract of spec.wsFew: the table of the fewest spaces, and of spec.CanFill, NearestFill, MissingSums, ThinnestNeeded.
-/
import Derived.Test.YthhmbcgamcbfdaaDoorVb
import Derived.BigRegion
namespace Go.Proofs.YthhmbcgamcbfdaaDoor
open Go.RowKit
set_option linter.unusedVariables false

noncomputable def tbF (ks : List Int) (x : Nat) : Nat → Value := fun j => .int .i64 (if j < x then fewV ks (j : Int) else 0)
/-- .. with v at x, where the widths are tried. -/
noncomputable def tbX (ks : List Int) (x : Nat) (v : Int) : Nat → Value := fun j => .int .i64 (if j < x then fewV ks (j : Int) else if j = x then v else 0)
theorem tbF_set (ks : List Int) (x : Nat) (v : Int) : (fun j => if j = x then Value.int .i64 v else tbF ks x j) = tbX ks x v := by
  funext j; unfold tbF tbX
  by_cases h : j = x
  · subst h; simp
  · rw [if_neg h]; split <;> simp
theorem tbX_set (ks : List Int) (x : Nat) (v v' : Int) : (fun j => if j = x then Value.int .i64 v' else tbX ks x v j) = tbX ks x v' := by
  funext j; unfold tbX
  by_cases h : j = x
  · subst h; simp
  · rw [if_neg h]; split <;> simp
theorem tbX_done {ks : List Int} {x : Nat} {v : Int} (h : v = fewV ks (x : Int)) : tbX ks x v = tbF ks (x + 1) := by
  funext j; unfold tbX tbF
  by_cases h1 : j < x
  · rw [if_pos h1, if_pos (by omega)]
  · by_cases h2 : j = x
    · subst h2; rw [if_neg h1, if_pos rfl, if_pos (by omega), h]
    · rw [if_neg h1, if_neg h2, if_neg (by omega)]
theorem tbF_one (ks : List Int) (j : Nat) : Value.int .i64 0 = tbF ks 1 j := by
  unfold tbF
  by_cases h : j < 1
  · obtain rfl : j = 0 := by omega
    rw [if_pos (by omega)]; simp [fewV_zero]
  · rw [if_neg h]
/-- What wsFew answers: a table of its own. -/
def FewTo (ks : List Int) (N : Nat) (w w' : World) (e : Ending) : Prop := e = .returned (.slice (some ⟨w.heap.size, 0, none⟩) (N + 1) (N + 1)) ∧ Below w.heap.size w w' ∧ Tb w' w.heap.size 3 (N + 1) (fun j => .int .i64 (fewV ks (j : Int)))

set_option maxRecDepth 100000 in
set_option maxHeartbeats 1000000 in
theorem wsFew_any (l : List Int) (A : Option Addr) (c : Nat) (N : Nat) (w : World) (hf : IntsIn w A l) (hlen : l.length ≤ 1048576) (hp : Pos l) (h54 : ∀ j (h : j < l.length), l[j] ≤ 54) (hN : N ≤ 400) :
    Calls Tryd.prog 36 #[.slice A l.length c, .int .i64 (N : Int)] w fun e w' => FewTo l N w w' e := by
  have HF := Lib.hid hf; clear hf
  have HP := Lib.hid hp; clear hp
  have H54 := Lib.hid h54; clear h54
  obtain ⟨w1, hw1⟩ : ∃ x : World, x = w.alloc (.cells (madeCells #[.int .i64 0] ((N + 1) * 1)) 3) := ⟨_, rfl⟩
  have hmk : (Instr.makeSlice 23 (.int .i64 ((N : Int) + 1)) (.int .i64 ((N : Int) + 1))).run Tryd.prog w = .ok (.slice (some ⟨w.heap.size, 0, none⟩) (N + 1) (N + 1)) w1 := by rw [hw1]; exact run_makeI (N + 1) (by omega) w
  have ht : Tb w1 w.heap.size 3 (N + 1) (fun _ => .int .i64 0) := by rw [hw1]; exact made_int _ _ _
  have hb1 : Below w.heap.size w w1 := by rw [hw1]; exact (Below.refl _ _).alloc (Nat.le_refl _) _
  have HT : Hid (Tb w1 w.heap.size 3 (N + 1) (tbF l 1)) := Lib.hid (ht.cong (fun j _ => tbF_one l j))
  have HB := Lib.hid hb1
  clear ht hb1 hw1
  have hN1 : ((N + 1 : Nat) : Int) = (N : Int) + 1 := by omega
  go_enter Tryd.func36, Tryd.ntmps36
  go_wp2
  go_loopw [6] (fun i wr => ∃ (x : Nat), 1 ≤ x ∧ x ≤ N + 1 ∧ i = .int .i64 (x : Int) ∧ Tb wr w.heap.size 3 (N + 1) (tbF l x) ∧ Below w.heap.size w wr) (fun i _ => 1 + N - (intOf i).toNat)
  case atStart => exact ⟨1, Nat.le_refl _, by omega, rfl, HT.out, HB.out⟩
  case round =>
    obtain ⟨x, hx1, hxN, rfl, ht, hb⟩ := hrel
    clear hmk
    by_cases hlt : x ≤ N
    · have hxN' : (x : Int) ≤ (N : Int) := by omega
      have hxN1 : (x : Int) < (N : Int) + 1 := by omega
      have hx0 : (0 : Int) ≤ (x : Int) := by omega
      have e0 := ht.cell (j := x) (by omega)
      have e2 := ht.free x
      have HT := Lib.hid (by have h := ht.set x (.int .i64 (-1)); rw [tbF_set] at h; exact h)
      have HB := Lib.hid (hb.setCell (p := ⟨w.heap.size, x, none⟩) (Nat.le_refl _) (.int .i64 (-1)))
      have hgl : w.heap.size < wr.heap.size := ht.lt
      clear ht hb
      generalize hwx : wr = wx at *
      clear hwx
      go_wp2
      go_loopw [22] (fun i wr => ∃ (k : Nat) (v : Int), k ≤ l.length ∧ i = .int .i64 (k : Int) ∧ FewIs (fewV l) (x : Int) (l.take k) v ∧ (-1 ≤ v ∧ v ≤ 400) ∧ Tb wr w.heap.size 3 (N + 1) (tbX l x v) ∧ Below w.heap.size w wr) (fun i _ => l.length - (intOf i).toNat)
      case atStart => exact ⟨0, -1, Nat.zero_le _, rfl, FewIs.start _ _, by omega, HT.out, HB.out⟩
      case round =>
        obtain ⟨k, v, hk, rfl, hfw, hv, ht, hb⟩ := hrel
        clear e0 e2
        by_cases hlk : k < l.length
        · obtain ⟨b, off, rfl, hbl, hc⟩ := HF.out (by omega)
          have hc0 := (hb.cell (p := ⟨b, off + k, none⟩) hbl).trans (hc k hlk)
          clear hc
          have h1 := HP.out.get hlk
          have h2 := H54.out k hlk
          have HNX := Lib.hid (by have h := hfw.step l[k]; rw [← List.take_succ_eq_append_getElem hlk] at h; exact h)
          obtain ⟨u, hu⟩ : ∃ u : Nat, l[k] = (u : Int) := ⟨l[k].toNat, by omega⟩
          rw [hu] at hc0 h1 h2 HNX
          clear hu hfw
          by_cases hux : u ≤ x
          · obtain ⟨d, hd⟩ : ∃ d, d = x - u := ⟨_, rfl⟩
            have hix : (x : Int) - (u : Int) = (d : Int) := by omega
            have hux' : (u : Int) ≤ (x : Int) := by omega
            have hdN : (d : Int) < (N : Int) + 1 := by omega
            have hd0 : (0 : Int) ≤ (d : Int) := by omega
            have e0 := ht.cell (j := x) (by omega)
            have e1 := ht.cell (j := d) (by omega)
            have hr := fewV_range (ks := l) HP.out (n := (d : Int)) hd0
            unfold tbX at e0 e1
            rw [if_neg (by omega), if_pos rfl] at e0
            rw [if_pos (by omega)] at e1
            have HST : Hid (fewStep (fewV l) (x : Int) v (u : Int) = if 0 ≤ fewV l (d : Int) ∧ (v < 0 ∨ fewV l (d : Int) + 1 < v) then fewV l (d : Int) + 1 else v) := Lib.hid (by
              unfold fewStep; rw [hix]; simp only [hux', true_and])
            have hgl : w.heap.size < wr.heap.size := ht.lt
            have hr4 : fewV l (d : Int) + 1 ≤ 400 := by omega
            obtain ⟨q, hq⟩ : ∃ q, q = fewV l (d : Int) := ⟨_, rfl⟩
            rw [← hq] at e1 hr hr4 HST
            clear hq hd
            have hx0' := KeptW.cell e0 hgl
            have hx1' := KeptW.cell e1 hgl
            have hxc := KeptW.cell hc0 (Nat.lt_of_lt_of_le hbl hb.size)
            have hf0 := ht.free x
            by_cases hq0 : 0 ≤ q
            · have hd1 : decide (0 ≤ q) = true := decide_eq_true hq0
              by_cases hv0 : v < 0
              · have hd2 : decide (v < 0) = true := decide_eq_true hv0
                have HN := Lib.hid (by have h := HNX.out; rw [HST.out, if_pos ⟨hq0, .inl hv0⟩] at h; exact h)
                clear HNX HST
                have HT0 := Lib.hid ht; have HB0 := Lib.hid hb
                clear ht hb
                go_wp2_with fail
                refine region_kept wr.heap.size (by kernel_rfl) (by kernel_rfl) ?_
                repeat (go_big_quiet_step (fail))
                refine wpQuiet_nil ?_
                intro w9 hb9
                have ht9 := HT0.out.next hb9
                have hb' := HB0.out.trans (hb9.mono HB0.out.size)
                have g0 := (hb9.cell (p := ⟨w.heap.size, x, none⟩) hgl).trans e0
                have g1 := (hb9.cell (p := ⟨w.heap.size, d, none⟩) hgl).trans e1
                have g2 := ht9.free x
                have HT := Lib.hid (by have h := ht9.set x (.int .i64 (q + 1)); rw [tbX_set] at h; exact h)
                have HB := Lib.hid (hb'.setCell (p := ⟨w.heap.size, x, none⟩) (Nat.le_refl _) (.int .i64 (q + 1)))
                clear ht9 hb' hb9 e0 e1 hx0' hx1' hxc
                go_wp2
                go_roundw
                case rel => exact ⟨k + 1, _, by omega, by go_num, HN.out, by omega, HT.out, HB.out⟩
                case measure => simp [intOf]; omega
              · have hd2 : decide (v < 0) = false := decide_eq_false hv0
                by_cases hqv : q + 1 < v
                · have hd3 : decide (q + 1 < v) = true := decide_eq_true hqv
                  have HN := Lib.hid (by have h := HNX.out; rw [HST.out, if_pos ⟨hq0, .inr hqv⟩] at h; exact h)
                  clear HNX HST
                  have HT0 := Lib.hid ht; have HB0 := Lib.hid hb
                  clear ht hb
                  go_wp2_with fail
                  refine region_kept wr.heap.size (by kernel_rfl) (by kernel_rfl) ?_
                  repeat (go_big_quiet_step (fail))
                  refine wpQuiet_nil ?_
                  intro w9 hb9
                  have ht9 := HT0.out.next hb9
                  have hb' := HB0.out.trans (hb9.mono HB0.out.size)
                  have g0 := (hb9.cell (p := ⟨w.heap.size, x, none⟩) hgl).trans e0
                  have g1 := (hb9.cell (p := ⟨w.heap.size, d, none⟩) hgl).trans e1
                  have g2 := ht9.free x
                  have HT := Lib.hid (by have h := ht9.set x (.int .i64 (q + 1)); rw [tbX_set] at h; exact h)
                  have HB := Lib.hid (hb'.setCell (p := ⟨w.heap.size, x, none⟩) (Nat.le_refl _) (.int .i64 (q + 1)))
                  clear ht9 hb' hb9 e0 e1 hx0' hx1' hxc
                  go_wp2
                  go_roundw
                  case rel => exact ⟨k + 1, _, by omega, by go_num, HN.out, by omega, HT.out, HB.out⟩
                  case measure => simp [intOf]; omega
                · have hd3 : decide (q + 1 < v) = false := decide_eq_false hqv
                  have HN := Lib.hid (by have h := HNX.out; rw [HST.out, if_neg (fun h => h.2.elim hv0 hqv)] at h; exact h)
                  clear HNX HST
                  have HT0 := Lib.hid ht; have HB0 := Lib.hid hb
                  clear ht hb
                  go_wp2_with fail
                  refine region_kept wr.heap.size (by kernel_rfl) (by kernel_rfl) ?_
                  repeat (go_big_quiet_step (fail))
                  refine wpQuiet_nil ?_
                  intro w9 hb9
                  have ht9 := HT0.out.next hb9
                  have hb' := HB0.out.trans (hb9.mono HB0.out.size)
                  have HT := Lib.hid ht9; have HB := Lib.hid hb'
                  clear ht9 hb' hb9 e0 e1 hx0' hx1' hxc
                  go_wp2
                  go_roundw
                  case rel => exact ⟨k + 1, _, by omega, by go_num, HN.out, by omega, HT.out, HB.out⟩
                  case measure => simp [intOf]; omega
            · have hd1 : decide (0 ≤ q) = false := decide_eq_false hq0
              have HN := Lib.hid (by have h := HNX.out; rw [HST.out, if_neg (fun h => hq0 h.1)] at h; exact h)
              clear HNX HST
              have HT0 := Lib.hid ht; have HB0 := Lib.hid hb
              clear ht hb
              go_wp2_with fail
              refine region_kept wr.heap.size (by kernel_rfl) (by kernel_rfl) ?_
              repeat (go_big_quiet_step (fail))
              refine wpQuiet_nil ?_
              intro w9 hb9
              have ht9 := HT0.out.next hb9
              have hb' := HB0.out.trans (hb9.mono HB0.out.size)
              have HT := Lib.hid ht9; have HB := Lib.hid hb'
              clear ht9 hb' hb9 e0 e1 hx0' hx1' hxc
              go_wp2
              go_roundw
              case rel => exact ⟨k + 1, _, by omega, by go_num, HN.out, by omega, HT.out, HB.out⟩
              case measure => simp [intOf]; omega
          · have hux' : ¬ (u : Int) ≤ (x : Int) := by omega
            have hgl : w.heap.size < wr.heap.size := ht.lt
            have hxc := KeptW.cell hc0 (Nat.lt_of_lt_of_le hbl hb.size)
            have hd1 : decide ((u : Int) ≤ (x : Int)) = false := decide_eq_false hux'
            have HN := Lib.hid (by have h := HNX.out; unfold fewStep at h; rw [if_neg (fun h => hux' h.1)] at h; exact h)
            have HST := HN; have hx0' := hgl; have hx1' := hgl; have e0 := hgl; have e1 := hgl
            clear HNX HST
            have HT0 := Lib.hid ht; have HB0 := Lib.hid hb
            clear ht hb
            go_wp2_with fail
            refine region_kept wr.heap.size (by kernel_rfl) (by kernel_rfl) ?_
            repeat (go_big_quiet_step (fail))
            refine wpQuiet_nil ?_
            intro w9 hb9
            have ht9 := HT0.out.next hb9
            have hb' := HB0.out.trans (hb9.mono HB0.out.size)
            have HT := Lib.hid ht9; have HB := Lib.hid hb'
            clear ht9 hb' hb9 e0 e1 hx0' hx1' hxc
            go_wp2
            go_roundw
            case rel => exact ⟨k + 1, _, by omega, by go_num, HN.out, by omega, HT.out, HB.out⟩
            case measure => simp [intOf]; omega
        · obtain rfl : k = l.length := by omega
          have HE := Lib.hid (by have h := hfw; rw [List.take_length] at h; exact tbX_done (h.all HP.out (by omega)))
          have HT := Lib.hid (by have h := ht; rw [HE.out] at h; exact h)
          have HB := Lib.hid hb
          clear hfw ht hb HE
          go_wp2
          go_roundw
          case rel => exact ⟨x + 1, by omega, by omega, by go_num, HT.out, HB.out⟩
          case measure => simp [intOf]; omega
    · obtain rfl : x = N + 1 := by omega
      have HT := Lib.hid (ht.cong (g := fun j => .int .i64 (fewV l (j : Int))) (fun j hj => by unfold tbF; rw [if_pos hj]))
      have HB := Lib.hid hb
      have hgt : ¬ ((N + 1 : Nat) : Int) ≤ (N : Int) := by omega
      clear ht hb
      go_wp2
      go_ret
      exact ⟨rfl, HB.out, HT.out⟩
end Go.Proofs.YthhmbcgamcbfdaaDoor
