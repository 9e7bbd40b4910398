/-
  The contracts of spec.caGood, spec.IsCase: each answers whether the boxes are a case.
-/
import Derived.Test.YtllafkeheppkjaaDoorCb
namespace Go.Proofs.YtllafkeheppkjaaDoor
open Go.RowKit
set_option linter.unusedVariables false

theorem caBox_is (b : Bx) (v : Bool) (w : World) (hs : b.cod.size ≤ maxLen) (h : Hid (boxB b = v)) :
    Calls Tryd.prog 61 #[.agg #[.string b.cod, .int .i64 b.row, .int .i64 b.col, .int .i64 b.cnt]] w fun e w' => e = .returned (.bool v) ∧ Below w.heap.size w w' := by
  rw [← h.out]; exact caBox_any b w hs
theorem implIsBox_is (b : Bx) (v : Bool) (w : World) (hs : b.cod.size ≤ maxLen) (h : Hid (boxB b = v)) :
    Calls Tryd.prog 19 #[.agg #[.string b.cod, .int .i64 b.row, .int .i64 b.col, .int .i64 b.cnt]] w fun e w' => e = .returned (.bool v) ∧ Below w.heap.size w w' := by
  rw [← h.out]; exact implIsBox_any b w hs
theorem any_no {l : List Bx} {k : Nat} (h : k < l.length) (hs : ∀ j (hj : j < l.length), j < k → sameP l[k] l[j] = false) : (l.take k).any (sameP l[k]) = false := by
  rw [List.any_eq_false]
  intro x hx
  obtain ⟨j, hj, rfl⟩ := List.mem_iff_getElem.1 hx
  rw [List.length_take] at hj
  rw [List.getElem_take]
  rw [hs j (by omega) (by omega)]; decide
theorem any_yes {l : List Bx} {k j : Nat} (h : k < l.length) (hj : j < k) (hs : sameP l[k] (l[j]'(by omega)) = true) : (l.take k).any (sameP l[k]) = true := by
  rw [List.any_eq_true]
  refine ⟨l[j], ?_, hs⟩
  rw [List.mem_iff_getElem]
  exact ⟨j, by rw [List.length_take]; omega, by rw [List.getElem_take]⟩

set_option maxRecDepth 100000 in
set_option maxHeartbeats 4000000 in
theorem caGood_any (l : List Bx) (A : Option Addr) (c : Nat) (w : World) (hf : BxsIn w A l) (hn : l.length ≤ 1048576) (ho : BxsOk l) (hcap : l.length ≤ c) :
    Calls Tryd.prog 30 #[.slice A l.length c] w fun e w' => e = .returned (.bool (caseB l)) ∧ Below w.heap.size w w' := by
  have HF := Lib.hid hf; clear hf
  have HO := Lib.hid ho; clear ho
  go_enter Tryd.func30, Tryd.ntmps30
  go_wp2
  go_loopw [9] (fun i wr => ∃ (k : Nat), k ≤ l.length ∧ i = .int .i64 k ∧ okUp l k ∧ Below w.heap.size w wr) (fun i _ => l.length - (intOf i).toNat)
  case atStart => exact ⟨0, Nat.zero_le _, rfl, fun _ _ h => absurd h (by omega), Below.refl _ _⟩
  case round =>
    obtain ⟨k, hk, rfl, hs, hb⟩ := hrel
    have HS := Lib.hid hs; clear hs
    by_cases hlt : k < l.length
    · obtain ⟨b, off, rfl, hbl, hc⟩ := HF.out (by omega)
      obtain ⟨hc0, hc1, hc2, hc3⟩ := hc k hlt
      rw [← hb.cell (p := ⟨b, off + k * 4, none⟩) hbl] at hc0
      rw [← hb.cell (p := ⟨b, off + k * 4 + 1, none⟩) hbl] at hc1
      rw [← hb.cell (p := ⟨b, off + k * 4 + 2, none⟩) hbl] at hc2
      rw [← hb.cell (p := ⟨b, off + k * 4 + 3, none⟩) hbl] at hc3
      have hok : l[k].cod.size ≤ maxLen := HO.out k hlt
      cases hv : boxB l[k]
      · have HV := Lib.hid hv; clear hv hc
        go_wp2_with fail
        obtain ⟨W0, hW0⟩ : ∃ W0 : World, W0 = wr.alloc (.cells #[.string l[k].cod, .int .i64 l[k].row, .int .i64 l[k].col, .int .i64 l[k].cnt] 40) := ⟨_, rfl⟩
        rw [← hW0]
        have s0 : W0.cell? ⟨wr.heap.size, 0, none⟩ = some (.string l[k].cod) := by rw [hW0]; simp
        have s1 : W0.cell? ⟨wr.heap.size, 1, none⟩ = some (.int .i64 l[k].row) := by rw [hW0]; simp
        have s2 : W0.cell? ⟨wr.heap.size, 2, none⟩ = some (.int .i64 l[k].col) := by rw [hW0]; simp
        have s3 : W0.cell? ⟨wr.heap.size, 3, none⟩ = some (.int .i64 l[k].cnt) := by rw [hW0]; simp
        have hb0 : Below w.heap.size w W0 := by rw [hW0]; exact hb.alloc hb.size _
        have hz0 : wr.heap.size < W0.heap.size := by rw [hW0]; simp
        clear hc0 hc1 hc2 hc3 hW0
        have x0 := KeptW.cell s0 hz0
        have x1 := KeptW.cell s1 hz0
        have x2 := KeptW.cell s2 hz0
        have x3 := KeptW.cell s3 hz0
        have HB0 := Lib.hid hb0; have HZ0 := Lib.hid hz0
        have S0 := Lib.hid s0; have S1 := Lib.hid s1; have S2 := Lib.hid s2; have S3 := Lib.hid s3
        clear hb0 hb s0 s1 s2 s3 hz0
        refine region_kept W0.heap.size (by kernel_rfl) (by kernel_rfl) ?_
        repeat (go_big_quiet_step ((go_at_call 61; exact kept_call _ (Nat.le_refl _) (caBox_is _ _ _ hok HV))))
        refine wpQuiet_nil ?_
        intro w1 hb1
        have hb' : Below w.heap.size w w1 := HB0.out.trans (hb1.mono HB0.out.size)
        clear x0 x1 x2 x3
        go_wp2
        go_ret
        exact ⟨ret_bool (caseB_no hlt (by unfold okB; rw [HV.out]; rfl)).symm, hb'⟩
      · have HV := Lib.hid hv; clear hv
        rcases Nat.eq_zero_or_pos k with rfl | hpos
        · simp only [Nat.zero_mul, Nat.add_zero] at hc0 hc1 hc2 hc3
          go_wp2_with fail
          obtain ⟨W0, hW0⟩ : ∃ W0 : World, W0 = wr.alloc (.cells #[.string l[0].cod, .int .i64 l[0].row, .int .i64 l[0].col, .int .i64 l[0].cnt] 40) := ⟨_, rfl⟩
          rw [← hW0]
          have s0 : W0.cell? ⟨wr.heap.size, 0, none⟩ = some (.string l[0].cod) := by rw [hW0]; simp
          have s1 : W0.cell? ⟨wr.heap.size, 1, none⟩ = some (.int .i64 l[0].row) := by rw [hW0]; simp
          have s2 : W0.cell? ⟨wr.heap.size, 2, none⟩ = some (.int .i64 l[0].col) := by rw [hW0]; simp
          have s3 : W0.cell? ⟨wr.heap.size, 3, none⟩ = some (.int .i64 l[0].cnt) := by rw [hW0]; simp
          have hb0 : Below w.heap.size w W0 := by rw [hW0]; exact hb.alloc hb.size _
          have hz0 : wr.heap.size < W0.heap.size := by rw [hW0]; simp
          clear hc0 hc1 hc2 hc3 hW0
          have x0 := KeptW.cell s0 hz0
          have x1 := KeptW.cell s1 hz0
          have x2 := KeptW.cell s2 hz0
          have x3 := KeptW.cell s3 hz0
          have HB0 := Lib.hid hb0; have HZ0 := Lib.hid hz0
          have S0 := Lib.hid s0; have S1 := Lib.hid s1; have S2 := Lib.hid s2; have S3 := Lib.hid s3
          clear hb0 hb s0 s1 s2 s3 hz0
          refine region_kept W0.heap.size (by kernel_rfl) (by kernel_rfl) ?_
          repeat (go_big_quiet_step ((go_at_call 61; exact kept_call _ (Nat.le_refl _) (caBox_is _ _ _ hok HV))))
          refine wpQuiet_nil ?_
          intro w1 hb1
          have hb' : Below w.heap.size w w1 := HB0.out.trans (hb1.mono HB0.out.size)
          clear x0 x1 x2 x3
          have HCL : Hid (∀ W : World, Below w1.heap.size w1 W → W.cell? ⟨wr.heap.size, 1, none⟩ = some (.int .i64 l[0].row) ∧ W.cell? ⟨wr.heap.size, 2, none⟩ = some (.int .i64 l[0].col)) := Lib.hid (fun W hW => by
            have h1 := hb1.trans (hW.mono hb1.size)
            exact ⟨(h1.cell (p := ⟨wr.heap.size, 1, none⟩) HZ0.out).trans S1.out, (h1.cell (p := ⟨wr.heap.size, 2, none⟩) HZ0.out).trans S2.out⟩)
          have HB1 := Lib.hid hb'
          clear S0 S1 S2 S3 HZ0 HB0 hb1 hb'
          obtain ⟨wo, hwo⟩ : ∃ wo : World, wo = wr := ⟨_, rfl⟩
          subst hwo
          go_wp2
          go_loopw [36] (fun i wi => ∃ (m : Nat), m ≤ 0 ∧ i = .int .i64 m ∧ (∀ jj (h : jj < l.length), jj < m → sameP l[0] l[jj] = false) ∧ Below w1.heap.size w1 wi) (fun i _ => 0 - (intOf i).toNat)
          case atStart => exact ⟨0, Nat.zero_le _, rfl, fun _ _ h => absurd h (by omega), Below.refl _ _⟩
          case round =>
            obtain ⟨m, hm, rfl, hs, hb2⟩ := hrel
            have HS2 := Lib.hid hs; clear hs
            by_cases hlm : m < 0
            · exact absurd hlm (Nat.not_lt_zero _)
            · have HBW := Lib.hid (HB1.out.trans (hb2.mono HB1.out.size))
              obtain rfl : m = 0 := by omega
              clear hb2
              go_wp2
              go_roundw
              case rel => exact ⟨0 + 1, by omega, by go_num, okUp_step HS.out hlt (by unfold okB; rw [HV.out, any_no hlt fun jj h hj => HS2.out jj h hj]; simp), HBW.out⟩
              case measure => first | (simp [intOf]; done) | (simp [intOf]; omega)
        · obtain ⟨j, rfl⟩ : ∃ j, k = j + 1 := ⟨k - 1, by omega⟩
          obtain ⟨hp0, _⟩ := hc j (by omega)
          rw [← hb.cell (p := ⟨b, off + j * 4, none⟩) hbl] at hp0
          have hbw0 : b < wr.heap.size := Nat.lt_of_lt_of_le hbl hb.size
          have hxp : ∀ o : Obj, (wr.alloc o).cell? ⟨b, off + j * 4, none⟩ = some (.string l[j].cod) := fun o => by rw [World.cell?_alloc_lt _ _ _ hbw0]; exact hp0
          have HXP := Lib.hid hxp
          clear hp0 hxp
          cases hle : Op.bytesLess l[j].cod.toList l[j + 1].cod.toList
          · have hge : (!Op.bytesLess l[j].cod.toList l[j + 1].cod.toList) = true := by rw [hle]; rfl
            have HLE := Lib.hid hle; clear hle hc
            go_wp2_with fail
            obtain ⟨W0, hW0⟩ : ∃ W0 : World, W0 = wr.alloc (.cells #[.string l[j + 1].cod, .int .i64 l[j + 1].row, .int .i64 l[j + 1].col, .int .i64 l[j + 1].cnt] 40) := ⟨_, rfl⟩
            rw [← hW0]
            have s0 : W0.cell? ⟨wr.heap.size, 0, none⟩ = some (.string l[j + 1].cod) := by rw [hW0]; simp
            have s1 : W0.cell? ⟨wr.heap.size, 1, none⟩ = some (.int .i64 l[j + 1].row) := by rw [hW0]; simp
            have s2 : W0.cell? ⟨wr.heap.size, 2, none⟩ = some (.int .i64 l[j + 1].col) := by rw [hW0]; simp
            have s3 : W0.cell? ⟨wr.heap.size, 3, none⟩ = some (.int .i64 l[j + 1].cnt) := by rw [hW0]; simp
            have hb0 : Below w.heap.size w W0 := by rw [hW0]; exact hb.alloc hb.size _
            have hz0 : wr.heap.size < W0.heap.size := by rw [hW0]; simp
            have hqp : W0.cell? ⟨b, off + j * 4, none⟩ = some (.string l[j].cod) := by rw [hW0]; exact HXP.out _
            have hbz : b < W0.heap.size := by rw [hW0]; simp; omega
            have xp := KeptW.cell hqp hbz
            clear hc0 hc1 hc2 hc3 hW0 hqp
            have x0 := KeptW.cell s0 hz0
            have x1 := KeptW.cell s1 hz0
            have x2 := KeptW.cell s2 hz0
            have x3 := KeptW.cell s3 hz0
            have HB0 := Lib.hid hb0; have HZ0 := Lib.hid hz0
            have S0 := Lib.hid s0; have S1 := Lib.hid s1; have S2 := Lib.hid s2; have S3 := Lib.hid s3
            clear hb0 hb s0 s1 s2 s3 hz0
            refine region_kept W0.heap.size (by kernel_rfl) (by kernel_rfl) ?_
            repeat (go_big_quiet_step ((go_at_call 61; exact kept_call _ (Nat.le_refl _) (caBox_is _ _ _ hok HV))))
            refine wpQuiet_nil ?_
            intro w1 hb1
            have hb' : Below w.heap.size w w1 := HB0.out.trans (hb1.mono HB0.out.size)
            clear x0 x1 x2 x3
            go_wp2
            go_ret
            exact ⟨ret_bool (caseB_no hlt (by unfold okB; rw [HV.out]; simp [HLE.out])).symm, hb'⟩
          · have hge : (!Op.bytesLess l[j].cod.toList l[j + 1].cod.toList) = false := by rw [hle]; rfl
            have HLE := Lib.hid hle; clear hle
            go_wp2_with fail
            obtain ⟨W0, hW0⟩ : ∃ W0 : World, W0 = wr.alloc (.cells #[.string l[j + 1].cod, .int .i64 l[j + 1].row, .int .i64 l[j + 1].col, .int .i64 l[j + 1].cnt] 40) := ⟨_, rfl⟩
            rw [← hW0]
            have s0 : W0.cell? ⟨wr.heap.size, 0, none⟩ = some (.string l[j + 1].cod) := by rw [hW0]; simp
            have s1 : W0.cell? ⟨wr.heap.size, 1, none⟩ = some (.int .i64 l[j + 1].row) := by rw [hW0]; simp
            have s2 : W0.cell? ⟨wr.heap.size, 2, none⟩ = some (.int .i64 l[j + 1].col) := by rw [hW0]; simp
            have s3 : W0.cell? ⟨wr.heap.size, 3, none⟩ = some (.int .i64 l[j + 1].cnt) := by rw [hW0]; simp
            have hb0 : Below w.heap.size w W0 := by rw [hW0]; exact hb.alloc hb.size _
            have hz0 : wr.heap.size < W0.heap.size := by rw [hW0]; simp
            have hqp : W0.cell? ⟨b, off + j * 4, none⟩ = some (.string l[j].cod) := by rw [hW0]; exact HXP.out _
            have hbz : b < W0.heap.size := by rw [hW0]; simp; omega
            have xp := KeptW.cell hqp hbz
            clear hc0 hc1 hc2 hc3 hW0 hqp
            have x0 := KeptW.cell s0 hz0
            have x1 := KeptW.cell s1 hz0
            have x2 := KeptW.cell s2 hz0
            have x3 := KeptW.cell s3 hz0
            have HB0 := Lib.hid hb0; have HZ0 := Lib.hid hz0
            have S0 := Lib.hid s0; have S1 := Lib.hid s1; have S2 := Lib.hid s2; have S3 := Lib.hid s3
            clear hb0 hb s0 s1 s2 s3 hz0
            refine region_kept W0.heap.size (by kernel_rfl) (by kernel_rfl) ?_
            repeat (go_big_quiet_step ((go_at_call 61; exact kept_call _ (Nat.le_refl _) (caBox_is _ _ _ hok HV))))
            refine wpQuiet_nil ?_
            intro w1 hb1
            have hb' : Below w.heap.size w w1 := HB0.out.trans (hb1.mono HB0.out.size)
            clear x0 x1 x2 x3
            have HCL : Hid (∀ W : World, Below w1.heap.size w1 W → W.cell? ⟨wr.heap.size, 1, none⟩ = some (.int .i64 l[(j + 1)].row) ∧ W.cell? ⟨wr.heap.size, 2, none⟩ = some (.int .i64 l[(j + 1)].col)) := Lib.hid (fun W hW => by
              have h1 := hb1.trans (hW.mono hb1.size)
              exact ⟨(h1.cell (p := ⟨wr.heap.size, 1, none⟩) HZ0.out).trans S1.out, (h1.cell (p := ⟨wr.heap.size, 2, none⟩) HZ0.out).trans S2.out⟩)
            have HB1 := Lib.hid hb'
            clear S0 S1 S2 S3 HZ0 HB0 hb1 hb'
            obtain ⟨wo, hwo⟩ : ∃ wo : World, wo = wr := ⟨_, rfl⟩
            subst hwo
            go_wp2
            go_loopw [36] (fun i wi => ∃ (m : Nat), m ≤ (j + 1) ∧ i = .int .i64 m ∧ (∀ jj (h : jj < l.length), jj < m → sameP l[(j + 1)] l[jj] = false) ∧ Below w1.heap.size w1 wi) (fun i _ => (j + 1) - (intOf i).toNat)
            case atStart => exact ⟨0, Nat.zero_le _, rfl, fun _ _ h => absurd h (by omega), Below.refl _ _⟩
            case round =>
              obtain ⟨m, hm, rfl, hs, hb2⟩ := hrel
              have HS2 := Lib.hid hs; clear hs
              by_cases hlm : m < (j + 1)
              · obtain ⟨d0, d1, d2, d3⟩ := hc m (by omega)
                have hbw : Below w.heap.size w wr := HB1.out.trans (hb2.mono HB1.out.size)
                rw [← hbw.cell (p := ⟨b, off + m * 4, none⟩) hbl] at d0
                rw [← hbw.cell (p := ⟨b, off + m * 4 + 1, none⟩) hbl] at d1
                rw [← hbw.cell (p := ⟨b, off + m * 4 + 2, none⟩) hbl] at d2
                rw [← hbw.cell (p := ⟨b, off + m * 4 + 3, none⟩) hbl] at d3
                obtain ⟨y1, y2⟩ := HCL.out _ hb2
                have hlt0 : wo.heap.size < wr.heap.size := World.block_lt_of_cell? _ _ y1
                have HBI := Lib.hid (hb2.alloc hb2.size (.cells #[.string (l[m]'(by omega)).cod, .int .i64 (l[m]'(by omega)).row, .int .i64 (l[m]'(by omega)).col, .int .i64 (l[m]'(by omega)).cnt] 40))
                have HBW := Lib.hid (hbw.alloc hbw.size (.cells #[.string (l[m]'(by omega)).cod, .int .i64 (l[m]'(by omega)).row, .int .i64 (l[m]'(by omega)).col, .int .i64 (l[m]'(by omega)).cnt] 40))
                have hml : m < l.length := by omega
                clear hb2 hbw
                by_cases e1 : l[m].row = l[(j + 1)].row
                · by_cases e2 : l[m].col = l[(j + 1)].col
                  · have HSAME : Hid (sameP l[(j + 1)] l[m] = true) := Lib.hid (sameP_iff.2 ⟨e1, e2⟩)
                    have q1 : (l[m].row == l[(j + 1)].row) = true := by simp [e1]
                    have q2 : (l[m].col == l[(j + 1)].col) = true := by simp [e2]
                    clear e1 e2
                    go_wp2
                    go_ret
                    exact ⟨ret_bool (caseB_no hlt (by unfold okB; rw [any_yes hlt hlm HSAME.out]; simp)).symm, HBW.out⟩
                  · have HSAME : Hid (sameP l[(j + 1)] l[m] = false) := Lib.hid (by rw [← Bool.not_eq_true, sameP_iff]; exact fun h => e2 h.2)
                    have q1 : (l[m].row == l[(j + 1)].row) = true := by simp [e1]
                    have q2 : (l[m].col == l[(j + 1)].col) = false := by simp [e2]
                    clear e1 e2
                    go_wp2
                    go_roundw
                    case rel => exact ⟨m + 1, by omega, by go_num, fun jj h hj => by
                      rcases Nat.lt_or_ge jj m with h1 | h1
                      · exact HS2.out jj h h1
                      · obtain rfl : jj = m := by omega
                        exact HSAME.out, HBI.out⟩
                    case measure => first | (simp [intOf]; done) | (simp [intOf]; omega)
                · have HSAME : Hid (sameP l[(j + 1)] l[m] = false) := Lib.hid (by rw [← Bool.not_eq_true, sameP_iff]; exact fun h => e1 h.1)
                  have q1 : (l[m].row == l[(j + 1)].row) = false := by simp [e1]
                  clear e1
                  go_wp2
                  go_roundw
                  case rel => exact ⟨m + 1, by omega, by go_num, fun jj h hj => by
                    rcases Nat.lt_or_ge jj m with h1 | h1
                    · exact HS2.out jj h h1
                    · obtain rfl : jj = m := by omega
                      exact HSAME.out, HBI.out⟩
                  case measure => first | (simp [intOf]; done) | (simp [intOf]; omega)
              · have HBW := Lib.hid (HB1.out.trans (hb2.mono HB1.out.size))
                obtain rfl : m = (j + 1) := by omega
                clear hb2
                go_wp2
                go_roundw
                case rel => exact ⟨(j + 1) + 1, by omega, by go_num, okUp_step HS.out hlt (by unfold okB; rw [HV.out, any_no hlt fun jj h hj => HS2.out jj h hj]; simp[HLE.out]), HBW.out⟩
                case measure => first | (simp [intOf]; done) | (simp [intOf]; omega)
    · obtain rfl : k = l.length := by omega
      go_wp2_with (go_at_call 55; refine (in_any _ _ _ _).mono ?_; rintro e w' ⟨rfl, rfl⟩)
      go_ret
      exact ⟨ret_bool (caseB_end HS.out).symm, hb⟩
end Go.Proofs.YtllafkeheppkjaaDoor
