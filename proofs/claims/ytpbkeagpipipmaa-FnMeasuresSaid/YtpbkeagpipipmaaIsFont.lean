/-
  The contracts of spec.tyFont, spec.IsFont and impl.IsFont: each answers whether the list is a font, and changes nothing that was there.
-/
import Derived.Test.YtpbkeagpipipmaaTo
import Derived.Test.YtpbkeagpipipmaaKept
namespace Go.Proofs.Ytpbkeagpipipmaa.S1
open Go.RowKit
set_option linter.unusedVariables false

theorem tySort_is (c : ByteArray) (n : Int) (b : Bool) (w : World) (hs : c.size ≤ maxLen) (h : Hid (tySortF c n = b)) :
    Calls Try.prog 90 #[.agg #[.string c, .int .i64 n]] w fun e w' => e = .returned (.bool b) ∧ Below w.heap.size w w' := by
  rw [← h.out]; exact tySort_any c n w hs
theorem implIsSort_is (c : ByteArray) (n : Int) (b : Bool) (w : World) (hs : c.size ≤ maxLen) (h : Hid (tySortF c n = b)) :
    Calls Try.prog 99 #[.agg #[.string c, .int .i64 n]] w fun e w' => e = .returned (.bool b) ∧ Below w.heap.size w w' := by
  rw [← h.out]; exact implIsSort_any c n w hs

def okAt (f : List (ByteArray × Int)) (k : Nat) (h : k < f.length) : Bool := tySortF f[k].1 f[k].2 && (k == 0 || Op.bytesLess (f[k-1]'(by omega)).1.toList f[k].1.toList)
def okTo (f : List (ByteArray × Int)) (k : Nat) : Prop := ∀ j (h : j < f.length), j < k → okAt f j h = true
/-- A list of sorts is a font. -/
def Font (f : List (ByteArray × Int)) : Prop := (∀ j (h : j < f.length), okAt f j h = true) ∧ 1 ≤ f.length ∧ f.length ≤ 32
noncomputable def fontB (f : List (ByteArray × Int)) : Bool := @decide (Font f) (Classical.propDecidable _)
theorem fontB_iff {f : List (ByteArray × Int)} : fontB f = true ↔ Font f := by unfold fontB; simp
theorem fontB_no {f : List (ByteArray × Int)} {k : Nat} (h : k < f.length) (hk : okAt f k h = false) : fontB f = false := by
  rw [← Bool.not_eq_true, fontB_iff]
  intro hf
  rw [hf.1 k h] at hk; cases hk
theorem okTo_step {f : List (ByteArray × Int)} {k : Nat} (hs : okTo f k) (h : k < f.length) (hk : okAt f k h = true) : okTo f (k + 1) := by
  intro j hj hjk
  rcases Nat.lt_or_ge j k with h1 | h1
  · exact hs j hj h1
  · obtain rfl : j = k := by omega
    exact hk
theorem fontB_end {f : List (ByteArray × Int)} (hs : okTo f f.length) : fontB f = (decide ((1 : Int) ≤ f.length) && decide ((f.length : Int) ≤ 32)) := by
  rw [Bool.eq_iff_iff, fontB_iff]
  simp only [Bool.and_eq_true, decide_eq_true_eq]
  exact ⟨fun h => by have := h.2; omega, fun h => ⟨fun j hj => hs j hj hj, by omega, by omega⟩⟩
theorem fontB_len {f : List (ByteArray × Int)} (h : f.length < 1 ∨ 32 < f.length) : fontB f = false := by
  rw [← Bool.not_eq_true, fontB_iff]
  intro hf; have := hf.2; omega

set_option maxRecDepth 100000 in
theorem tyFont_any (f : List (ByteArray × Int)) (A : Option Addr) (c : Nat) (lo : Nat) (w : World) (hf : SortsIn w lo A f) (hn : f.length ≤ 1048576) (ho : CodesOk f) :
    Calls Try.prog 73 #[.slice A f.length c] w fun e w' => e = .returned (.bool (fontB f)) ∧ Below w.heap.size w w' := by
  have HF := Lib.hid hf; clear hf
  have HO := Lib.hid ho; clear ho
  go_enter Try.func73, Try.ntmps73
  go_wp2
  go_loopw [7] (fun i wr => ∃ (k : Nat), k ≤ f.length ∧ i = .int .i64 k ∧ okTo f k ∧ Below w.heap.size w wr) (fun i _ => f.length - (intOf i).toNat)
  case atStart => exact ⟨0, Nat.zero_le _, rfl, fun _ _ h => absurd h (by omega), Below.refl _ _⟩
  case round =>
    obtain ⟨k, hk, rfl, hs, hb⟩ := hrel
    have HS := Lib.hid hs; clear hs
    by_cases hlt : k < f.length
    · obtain ⟨b, off, rfl, _, hbl, hc⟩ := HF.out (by omega)
      obtain ⟨hc0, hc1⟩ := hc k hlt
      rw [← hb.cell (p := ⟨b, off + k * 2, none⟩) hbl] at hc0
      rw [← hb.cell (p := ⟨b, off + k * 2 + 1, none⟩) hbl] at hc1
      have hok := HO.out k hlt
      cases hv : tySortF f[k].1 f[k].2
      · have HV := Lib.hid hv; clear hv hc
        go_wp2_with fail
        obtain ⟨W0, hW0⟩ : ∃ W0 : World, W0 = wr.alloc (.cells #[.string f[k].1, .int .i64 f[k].2] 91) := ⟨_, rfl⟩
        rw [← hW0]
        have hs0 : W0.cell? ⟨wr.heap.size, 0, none⟩ = some (.string f[k].1) := by rw [hW0]; simp
        have hs1 : W0.cell? ⟨wr.heap.size, 1, none⟩ = some (.int .i64 f[k].2) := by rw [hW0]; simp
        have hb0 : Below w.heap.size w W0 := by rw [hW0]; exact hb.alloc hb.size _
        have hz0 : wr.heap.size < W0.heap.size := by rw [hW0]; simp
        clear hc0 hc1 hW0
        have hx0 := KeptW.cell hs0 hz0
        have hx1 := KeptW.cell hs1 hz0
        refine region_kept W0.heap.size (by kernel_rfl) (by kernel_rfl) ?_
        repeat (go_big_quiet_step ((go_at_call 90; exact kept_call _ (Nat.le_refl _) (tySort_is _ _ _ _ hok HV))))
        refine wpQuiet_nil ?_
        intro w1 hb1
        have hb' : Below w.heap.size w w1 := hb0.trans (hb1.mono hb0.size)
        clear hb hb0 hb1 hx0 hx1 hs0 hs1 hz0
        go_wp2
        go_ret
        exact ⟨ret_bool (fontB_no hlt (by unfold okAt; rw [HV.out]; rfl)).symm, hb'⟩
      · have HV := Lib.hid hv; clear hv
        rcases Nat.eq_zero_or_pos k with rfl | hpos
        · clear hc
          simp only [Nat.zero_mul, Nat.add_zero] at hc0 hc1
          go_wp2_with fail
          obtain ⟨W0, hW0⟩ : ∃ W0 : World, W0 = wr.alloc (.cells #[.string f[0].1, .int .i64 f[0].2] 91) := ⟨_, rfl⟩
          rw [← hW0]
          have hs0 : W0.cell? ⟨wr.heap.size, 0, none⟩ = some (.string f[0].1) := by rw [hW0]; simp
          have hs1 : W0.cell? ⟨wr.heap.size, 1, none⟩ = some (.int .i64 f[0].2) := by rw [hW0]; simp
          have hb0 : Below w.heap.size w W0 := by rw [hW0]; exact hb.alloc hb.size _
          have hz0 : wr.heap.size < W0.heap.size := by rw [hW0]; simp
          clear hc0 hc1 hW0
          have hx0 := KeptW.cell hs0 hz0
          have hx1 := KeptW.cell hs1 hz0
          refine region_kept W0.heap.size (by kernel_rfl) (by kernel_rfl) ?_
          repeat (go_big_quiet_step ((go_at_call 90; exact kept_call _ (Nat.le_refl _) (tySort_is _ _ _ _ hok HV))))
          refine wpQuiet_nil ?_
          intro w1 hb1
          have hb' : Below w.heap.size w w1 := hb0.trans (hb1.mono hb0.size)
          clear hb hb0 hb1 hx0 hx1 hs0 hs1 hz0
          go_wp2
          go_roundw
          case rel => exact ⟨0 + 1, by omega, by go_num, okTo_step HS.out hlt (by unfold okAt; rw [HV.out]; rfl), hb'⟩
          case measure => simp [intOf]; omega
        · obtain ⟨j, rfl⟩ : ∃ j, k = j + 1 := ⟨k - 1, by omega⟩
          obtain ⟨hp0, _⟩ := hc j (by omega)
          rw [← hb.cell (p := ⟨b, off + j * 2, none⟩) hbl] at hp0
          clear hc
          have hbw : b < wr.heap.size := Nat.lt_of_lt_of_le hbl hb.size
          cases hle : Op.bytesLess f[j].1.toList f[j + 1].1.toList
          · have hge : (!Op.bytesLess f[j].1.toList f[j + 1].1.toList) = true := by rw [hle]; rfl
            have HLE := Lib.hid hle; clear hle
            go_wp2_with fail
            obtain ⟨W0, hW0⟩ : ∃ W0 : World, W0 = wr.alloc (.cells #[.string f[j + 1].1, .int .i64 f[j + 1].2] 91) := ⟨_, rfl⟩
            rw [← hW0]
            have hs0 : W0.cell? ⟨wr.heap.size, 0, none⟩ = some (.string f[j + 1].1) := by rw [hW0]; simp
            have hs1 : W0.cell? ⟨wr.heap.size, 1, none⟩ = some (.int .i64 f[j + 1].2) := by rw [hW0]; simp
            have hb0 : Below w.heap.size w W0 := by rw [hW0]; exact hb.alloc hb.size _
            have hz0 : wr.heap.size < W0.heap.size := by rw [hW0]; simp
            have hq : W0.cell? ⟨b, off + j * 2, none⟩ = some (.string f[j].1) := by rw [hW0, World.cell?_alloc_lt _ _ _ hbw]; exact hp0
            have hbz : b < W0.heap.size := by rw [hW0]; simp; omega
            clear hc0 hc1 hW0
            have hx0 := KeptW.cell hs0 hz0
            have hx1 := KeptW.cell hs1 hz0
            have hq0 : W0.cell? ⟨b, off + j * 2, none⟩ = some (.string f[j].1) := hq
            have hxq := KeptW.cell hq0 hbz
            clear hp0
            refine region_kept W0.heap.size (by kernel_rfl) (by kernel_rfl) ?_
            repeat (go_big_quiet_step ((go_at_call 90; exact kept_call _ (Nat.le_refl _) (tySort_is _ _ _ _ hok HV))))
            refine wpQuiet_nil ?_
            intro w1 hb1
            have hb' : Below w.heap.size w w1 := hb0.trans (hb1.mono hb0.size)
            clear hb hb0 hb1 hx0 hx1 hs0 hs1 hz0
            clear hq hq0 hxq hbz
            go_wp2
            go_ret
            exact ⟨ret_bool (fontB_no hlt (by unfold okAt; rw [HV.out]; simp [HLE.out])).symm, hb'⟩
          · have hge : (!Op.bytesLess f[j].1.toList f[j + 1].1.toList) = false := by rw [hle]; rfl
            have HLE := Lib.hid hle; clear hle
            go_wp2_with fail
            obtain ⟨W0, hW0⟩ : ∃ W0 : World, W0 = wr.alloc (.cells #[.string f[j + 1].1, .int .i64 f[j + 1].2] 91) := ⟨_, rfl⟩
            rw [← hW0]
            have hs0 : W0.cell? ⟨wr.heap.size, 0, none⟩ = some (.string f[j + 1].1) := by rw [hW0]; simp
            have hs1 : W0.cell? ⟨wr.heap.size, 1, none⟩ = some (.int .i64 f[j + 1].2) := by rw [hW0]; simp
            have hb0 : Below w.heap.size w W0 := by rw [hW0]; exact hb.alloc hb.size _
            have hz0 : wr.heap.size < W0.heap.size := by rw [hW0]; simp
            have hq : W0.cell? ⟨b, off + j * 2, none⟩ = some (.string f[j].1) := by rw [hW0, World.cell?_alloc_lt _ _ _ hbw]; exact hp0
            have hbz : b < W0.heap.size := by rw [hW0]; simp; omega
            clear hc0 hc1 hW0
            have hx0 := KeptW.cell hs0 hz0
            have hx1 := KeptW.cell hs1 hz0
            have hq0 : W0.cell? ⟨b, off + j * 2, none⟩ = some (.string f[j].1) := hq
            have hxq := KeptW.cell hq0 hbz
            clear hp0
            refine region_kept W0.heap.size (by kernel_rfl) (by kernel_rfl) ?_
            repeat (go_big_quiet_step ((go_at_call 90; exact kept_call _ (Nat.le_refl _) (tySort_is _ _ _ _ hok HV))))
            refine wpQuiet_nil ?_
            intro w1 hb1
            have hb' : Below w.heap.size w w1 := hb0.trans (hb1.mono hb0.size)
            clear hb hb0 hb1 hx0 hx1 hs0 hs1 hz0
            clear hq hq0 hxq hbz
            go_wp2
            go_roundw
            case rel => exact ⟨j + 1 + 1, by omega, by go_num, okTo_step HS.out hlt (by unfold okAt; rw [HV.out]; simp [HLE.out]), hb'⟩
            case measure => simp [intOf]; omega
    · obtain rfl : k = f.length := by omega
      go_wp2_with (go_at_call 75; refine (in_any _ _ _ _).mono ?_; rintro e w' ⟨rfl, rfl⟩)
      go_ret
      exact ⟨ret_bool (fontB_end HS.out).symm, hb⟩

set_option maxRecDepth 100000 in
theorem implIsFont_pos (f : List (ByteArray × Int)) (A : Option Addr) (c : Nat) (lo : Nat) (w : World) (hf : SortsIn w lo A f) (hn : f.length ≤ 1048576) (ho : CodesOk f) (hl1 : 1 ≤ f.length) (hl2 : f.length ≤ 32) :
    Calls Try.prog 92 #[.slice A f.length c] w fun e w' => e = .returned (.bool (fontB f)) ∧ Below w.heap.size w w' := by
  have HF := Lib.hid hf; clear hf
  have HO := Lib.hid ho; clear ho
  go_enter Try.func92, Try.ntmps92
  go_wp2
  go_loopw [15] (fun i wr => ∃ (k : Nat), k ≤ f.length ∧ i = .int .i64 k ∧ okTo f k ∧ Below w.heap.size w wr) (fun i _ => f.length - (intOf i).toNat)
  case atStart => exact ⟨0, Nat.zero_le _, rfl, fun _ _ h => absurd h (by omega), Below.refl _ _⟩
  case round =>
    obtain ⟨k, hk, rfl, hs, hb⟩ := hrel
    have HS := Lib.hid hs; clear hs
    by_cases hlt : k < f.length
    · obtain ⟨b, off, rfl, _, hbl, hc⟩ := HF.out (by omega)
      obtain ⟨hc0, hc1⟩ := hc k hlt
      rw [← hb.cell (p := ⟨b, off + k * 2, none⟩) hbl] at hc0
      rw [← hb.cell (p := ⟨b, off + k * 2 + 1, none⟩) hbl] at hc1
      have hok := HO.out k hlt
      cases hv : tySortF f[k].1 f[k].2
      · have HV := Lib.hid hv; clear hv hc
        go_wp2_with fail
        obtain ⟨W0, hW0⟩ : ∃ W0 : World, W0 = wr.alloc (.cells #[.string f[k].1, .int .i64 f[k].2] 91) := ⟨_, rfl⟩
        rw [← hW0]
        have hs0 : W0.cell? ⟨wr.heap.size, 0, none⟩ = some (.string f[k].1) := by rw [hW0]; simp
        have hs1 : W0.cell? ⟨wr.heap.size, 1, none⟩ = some (.int .i64 f[k].2) := by rw [hW0]; simp
        have hb0 : Below w.heap.size w W0 := by rw [hW0]; exact hb.alloc hb.size _
        have hz0 : wr.heap.size < W0.heap.size := by rw [hW0]; simp
        clear hc0 hc1 hW0
        have hx0 := KeptW.cell hs0 hz0
        have hx1 := KeptW.cell hs1 hz0
        refine region_kept W0.heap.size (by kernel_rfl) (by kernel_rfl) ?_
        repeat (go_big_quiet_step ((go_at_call 99; exact kept_call _ (Nat.le_refl _) (implIsSort_is _ _ _ _ hok HV))))
        refine wpQuiet_nil ?_
        intro w1 hb1
        have hb' : Below w.heap.size w w1 := hb0.trans (hb1.mono hb0.size)
        clear hb hb0 hb1 hx0 hx1 hs0 hs1 hz0
        go_wp2
        go_ret
        exact ⟨ret_bool (fontB_no hlt (by unfold okAt; rw [HV.out]; rfl)).symm, hb'⟩
      · have HV := Lib.hid hv; clear hv
        rcases Nat.eq_zero_or_pos k with rfl | hpos
        · clear hc
          simp only [Nat.zero_mul, Nat.add_zero] at hc0 hc1
          go_wp2_with fail
          obtain ⟨W0, hW0⟩ : ∃ W0 : World, W0 = wr.alloc (.cells #[.string f[0].1, .int .i64 f[0].2] 91) := ⟨_, rfl⟩
          rw [← hW0]
          have hs0 : W0.cell? ⟨wr.heap.size, 0, none⟩ = some (.string f[0].1) := by rw [hW0]; simp
          have hs1 : W0.cell? ⟨wr.heap.size, 1, none⟩ = some (.int .i64 f[0].2) := by rw [hW0]; simp
          have hb0 : Below w.heap.size w W0 := by rw [hW0]; exact hb.alloc hb.size _
          have hz0 : wr.heap.size < W0.heap.size := by rw [hW0]; simp
          clear hc0 hc1 hW0
          have hx0 := KeptW.cell hs0 hz0
          have hx1 := KeptW.cell hs1 hz0
          refine region_kept W0.heap.size (by kernel_rfl) (by kernel_rfl) ?_
          repeat (go_big_quiet_step ((go_at_call 99; exact kept_call _ (Nat.le_refl _) (implIsSort_is _ _ _ _ hok HV))))
          refine wpQuiet_nil ?_
          intro w1 hb1
          have hb' : Below w.heap.size w w1 := hb0.trans (hb1.mono hb0.size)
          clear hb hb0 hb1 hx0 hx1 hs0 hs1 hz0
          go_wp2
          go_roundw
          case rel => exact ⟨0 + 1, by omega, by go_num, okTo_step HS.out hlt (by unfold okAt; rw [HV.out]; rfl), hb'⟩
          case measure => simp [intOf]; omega
        · obtain ⟨j, rfl⟩ : ∃ j, k = j + 1 := ⟨k - 1, by omega⟩
          obtain ⟨hp0, _⟩ := hc j (by omega)
          rw [← hb.cell (p := ⟨b, off + j * 2, none⟩) hbl] at hp0
          clear hc
          have hbw : b < wr.heap.size := Nat.lt_of_lt_of_le hbl hb.size
          cases hle : Op.bytesLess f[j].1.toList f[j + 1].1.toList
          · have hge : (!Op.bytesLess f[j].1.toList f[j + 1].1.toList) = true := by rw [hle]; rfl
            have HLE := Lib.hid hle; clear hle
            go_wp2_with fail
            obtain ⟨W0, hW0⟩ : ∃ W0 : World, W0 = wr.alloc (.cells #[.string f[j + 1].1, .int .i64 f[j + 1].2] 91) := ⟨_, rfl⟩
            rw [← hW0]
            have hs0 : W0.cell? ⟨wr.heap.size, 0, none⟩ = some (.string f[j + 1].1) := by rw [hW0]; simp
            have hs1 : W0.cell? ⟨wr.heap.size, 1, none⟩ = some (.int .i64 f[j + 1].2) := by rw [hW0]; simp
            have hb0 : Below w.heap.size w W0 := by rw [hW0]; exact hb.alloc hb.size _
            have hz0 : wr.heap.size < W0.heap.size := by rw [hW0]; simp
            have hq : W0.cell? ⟨b, off + j * 2, none⟩ = some (.string f[j].1) := by rw [hW0, World.cell?_alloc_lt _ _ _ hbw]; exact hp0
            have hbz : b < W0.heap.size := by rw [hW0]; simp; omega
            clear hc0 hc1 hW0
            have hx0 := KeptW.cell hs0 hz0
            have hx1 := KeptW.cell hs1 hz0
            have hq0 : W0.cell? ⟨b, off + j * 2, none⟩ = some (.string f[j].1) := hq
            have hxq := KeptW.cell hq0 hbz
            clear hp0
            refine region_kept W0.heap.size (by kernel_rfl) (by kernel_rfl) ?_
            repeat (go_big_quiet_step ((go_at_call 99; exact kept_call _ (Nat.le_refl _) (implIsSort_is _ _ _ _ hok HV))))
            refine wpQuiet_nil ?_
            intro w1 hb1
            have hb' : Below w.heap.size w w1 := hb0.trans (hb1.mono hb0.size)
            clear hb hb0 hb1 hx0 hx1 hs0 hs1 hz0
            clear hq hq0 hxq hbz
            go_wp2
            go_ret
            exact ⟨ret_bool (fontB_no hlt (by unfold okAt; rw [HV.out]; simp [HLE.out])).symm, hb'⟩
          · have hge : (!Op.bytesLess f[j].1.toList f[j + 1].1.toList) = false := by rw [hle]; rfl
            have HLE := Lib.hid hle; clear hle
            go_wp2_with fail
            obtain ⟨W0, hW0⟩ : ∃ W0 : World, W0 = wr.alloc (.cells #[.string f[j + 1].1, .int .i64 f[j + 1].2] 91) := ⟨_, rfl⟩
            rw [← hW0]
            have hs0 : W0.cell? ⟨wr.heap.size, 0, none⟩ = some (.string f[j + 1].1) := by rw [hW0]; simp
            have hs1 : W0.cell? ⟨wr.heap.size, 1, none⟩ = some (.int .i64 f[j + 1].2) := by rw [hW0]; simp
            have hb0 : Below w.heap.size w W0 := by rw [hW0]; exact hb.alloc hb.size _
            have hz0 : wr.heap.size < W0.heap.size := by rw [hW0]; simp
            have hq : W0.cell? ⟨b, off + j * 2, none⟩ = some (.string f[j].1) := by rw [hW0, World.cell?_alloc_lt _ _ _ hbw]; exact hp0
            have hbz : b < W0.heap.size := by rw [hW0]; simp; omega
            clear hc0 hc1 hW0
            have hx0 := KeptW.cell hs0 hz0
            have hx1 := KeptW.cell hs1 hz0
            have hq0 : W0.cell? ⟨b, off + j * 2, none⟩ = some (.string f[j].1) := hq
            have hxq := KeptW.cell hq0 hbz
            clear hp0
            refine region_kept W0.heap.size (by kernel_rfl) (by kernel_rfl) ?_
            repeat (go_big_quiet_step ((go_at_call 99; exact kept_call _ (Nat.le_refl _) (implIsSort_is _ _ _ _ hok HV))))
            refine wpQuiet_nil ?_
            intro w1 hb1
            have hb' : Below w.heap.size w w1 := hb0.trans (hb1.mono hb0.size)
            clear hb hb0 hb1 hx0 hx1 hs0 hs1 hz0
            clear hq hq0 hxq hbz
            go_wp2
            go_roundw
            case rel => exact ⟨j + 1 + 1, by omega, by go_num, okTo_step HS.out hlt (by unfold okAt; rw [HV.out]; simp [HLE.out]), hb'⟩
            case measure => simp [intOf]; omega
    · obtain rfl : k = f.length := by omega
      go_wp2
      go_ret
      have d1 : decide ((1 : Int) ≤ f.length) = true := decide_eq_true (by omega)
      have d2 : decide ((f.length : Int) ≤ 32) = true := decide_eq_true (by omega)
      exact ⟨ret_bool (by rw [fontB_end HS.out, d1, d2]; rfl), hb⟩

theorem implIsFont_any (f : List (ByteArray × Int)) (A : Option Addr) (c : Nat) (lo : Nat) (w : World) (hf : SortsIn w lo A f) (hn : f.length ≤ 1048576) (ho : CodesOk f) :
    Calls Try.prog 92 #[.slice A f.length c] w fun e w' => e = .returned (.bool (fontB f)) ∧ Below w.heap.size w w' := by
  rcases (by omega : f.length < 1 ∨ 32 < f.length ∨ (1 ≤ f.length ∧ f.length ≤ 32)) with h | h | ⟨h1, h2⟩
  · have HE := Lib.hid (fontB_len (f := f) (.inl h))
    go_enter Try.func92, Try.ntmps92
    go_wp2
    go_ret
    exact ⟨ret_bool HE.out.symm, Below.refl _ _⟩
  · have HE := Lib.hid (fontB_len (f := f) (.inr h))
    have h1 : ¬ (f.length : Int) < 1 := by omega
    have h2 : (32 : Int) < f.length := by omega
    go_enter Try.func92, Try.ntmps92
    go_wp2
    go_ret
    exact ⟨ret_bool HE.out.symm, Below.refl _ _⟩
  · exact implIsFont_pos f A c lo w hf hn ho h1 h2

end Go.Proofs.Ytpbkeagpipipmaa.S1
