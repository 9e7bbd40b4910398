/-
  What spec.tySet, tyWide, tyWidth and juWidths answer for any sorts and texts at all: something, and they change nothing that was there. (For spec.DrawSpacesFor.)
-/
import Derived.Test.YtpbkeagpipipmaaWide
import Derived.Test.YtpbkeagpipipmaaAdr
import Derived.Test.YtpbkeagpipipmaaUs
import Derived.Test.YtpbkeagpipipmaaUv
namespace Go.Proofs.Ytpbkeagpipipmaa.S1
open Go.RowKit
set_option linter.unusedVariables false

set_option maxRecDepth 100000 in
set_option maxHeartbeats 1000000 in
theorem tySet_loose (f : List (ByteArray × Int)) (A : Option Addr) (cap : Nat) (s : ByteArray) (lo : Nat) (w : World) (hf : SortsIn w lo A f) (hn : f.length ≤ 1048576) (hs : s.size ≤ 1048576) :
    Calls Try.prog 96 #[.slice A f.length cap, .string s] w fun e w' => ∃ (r : Option (List Nat)), SetsTo w w' e r ∧ (∀ l, r = some l → (∀ i ∈ l, i < f.length) ∧ l.length ≤ s.size) := by
  have HS := Lib.hid hf; clear hf
  obtain ⟨i0, hi, hz0, hz1, hz2⟩ := info_parts info3
  have HI := Lib.hid hi; have HZ0 := Lib.hid hz0; have HZ1 := Lib.hid hz1; have HZ2 := Lib.hid hz2
  clear hi hz0 hz1 hz2
  go_enter Try.func96, Try.ntmps96
  go_wp2
  go_loopw [6, 7] (fun v t wr => ∃ (acc : List Nat) (p : Nat), t = .int .i64 p ∧ (p ≤ s.size ∧ acc.length ≤ p ∧ ∀ i ∈ acc, i < f.length) ∧ wr.ownsRow w.heap.size 3 1 v acc.length (ints acc) ∧ Below w.heap.size w wr) (fun _ t _ => s.size - (intOf t).toNat)
  case atStart => exact ⟨[], 0, rfl, ⟨Nat.zero_le _, Nat.le_refl _, fun i h => absurd h (by simp)⟩, own_nil _ _ _ _, Below.refl _ _⟩
  case round =>
    obtain ⟨acc, p, rfl, hso, hown, hb⟩ := hrel
    have hp := hso.1
    have HSO := Lib.hid hso; clear hso
    have HOWN := Lib.hid hown; clear hown
    by_cases hlt : p < s.size
    · go_wp2_with fail
      refine (least_any _ _ _).mono ?_
      rintro e w1 ⟨rfl, rfl⟩
      obtain ⟨M, hM, hM3, hMp, hMc⟩ := least_nat ((s.size : Int) - (p : Int)) (by omega)
      rw [hM]
      clear hM hMc
      go_wp2
      obtain ⟨wo, hwo⟩ : ∃ wo : World, wo = wr := ⟨_, rfl⟩
      subst hwo
      go_loopw [8, 9] (fun b n wr => ∃ (j : Nat) (r : Int), n = .int .i64 j ∧ b = .int .i64 r ∧ j ≤ M ∧ (r < 0 → r = -1) ∧ (0 ≤ r → ∃ i, ∃ h : i < f.length, r = (i : Int) ∧ 1 ≤ f[i].1.size ∧ p + f[i].1.size ≤ s.size) ∧ Below wo.heap.size wo wr) (fun _ n _ => (intOf n).toNat)
      case atStart => exact ⟨M, -1, rfl, rfl, Nat.le_refl _, fun _ => rfl, fun h => absurd h (by omega), Below.refl _ _⟩
      case round =>
        obtain ⟨j, r, rfl, rfl, hj, hr1, hr2, hbi⟩ := hrel
        have HR1 := Lib.hid hr1; have HR2 := Lib.hid hr2
        clear hr1 hr2
        by_cases hgo : 0 < j ∧ r < 0
        · obtain ⟨hj0, hr0⟩ := hgo
          obtain ⟨m, rfl⟩ : ∃ m, j = m + 1 := ⟨j - 1, by omega⟩
          have h1 : (0 : Int) < ((m + 1 : Nat) : Int) := by omega
          have HFS := Lib.hid (HS.out.below (hb.trans (hbi.mono hb.size)) (Nat.le_refl _))
          go_wp2_with fail
          refine (tyFind_any f A cap _ lo _ HFS.out (by omega)).mono ?_
          rintro e w2 ⟨rfl, hb2⟩
          have HC := Lib.hid (findI_cases f (s.extract p (p + (m + 1))))
          have HSZ : Hid (∀ i (h : i < f.length), codeAt f i = (s.extract p (p + (m + 1))).data.toList → f[i].1.size = m + 1) := Lib.hid (fun i h e => by
            rw [codeAt_of h] at e
            have e2 := congrArg List.length e
            have h3 : p + (m + 1) ≤ s.size := by omega
            rw [len_list, len_list] at e2
            rw [e2, ByteArray.size_extract]
            omega)
          have HB := Lib.hid (hbi.trans (hb2.mono hbi.size))
          clear hbi hb2 HFS
          generalize findI f (s.extract p (p + (m + 1))) 0 = q at *
          go_wp2
          go_roundw
          case rel =>
            refine ⟨m, q, by go_num, rfl, by omega, fun hq => ?_, fun hq => ?_, HB.out⟩
            · rcases HC.out with ⟨h, _⟩ | ⟨i, _, _, h⟩ <;> omega
            · rcases HC.out with ⟨h, _⟩ | ⟨i, h1, h2, h3⟩
              · omega
              · have h4 := HSZ.out i h1 h2
                exact ⟨i, h1, h3, by omega, by omega⟩
          case measure => simp [intOf]
        · have hstop : ¬ 0 < (j : Int) ∨ (0 < (j : Int) ∧ ¬ r < 0) := by omega
          have hbw := hb.trans (hbi.mono hb.size)
          have hownw := own_below HOWN.out hbi
          clear hbi hb HOWN hgo
          by_cases hr0 : r < 0
          · obtain rfl : r = -1 := HR1.out hr0
            have HW := Lib.hid hbw
            clear hownw hbw HR1 HR2 hr0
            have h : ¬ 0 < (j : Int) := by omega
            clear hstop
            go_wp2
            go_ret2
            exact ⟨none, SetsTo.no rfl HW.out, fun l h => by cases h⟩
          · obtain ⟨i, hil, rfl, hs1, hs2⟩ := HR2.out (by omega)
            clear HR1 HR2 hr0
            obtain ⟨bb, off, rfl, _, hbl, hc⟩ := HS.out (by omega)
            have hc0 := (hc i hil).1
            have hal := HSO.out.2.1
            have HSTEP : Hid (p + f[i].1.size ≤ s.size ∧ (acc ++ [i]).length ≤ p + f[i].1.size ∧ ∀ q ∈ acc ++ [i], q < f.length) := Lib.hid ⟨hs2, by simp; omega, fun q hq => (List.mem_append.1 hq).elim (HSO.out.2.2 q) (fun h => (show q = i by simpa using h) ▸ hil)⟩
            clear hc
            have h0i : ¬ (i : Int) < 0 := by omega
            have hmx : acc.length + 1 ≤ maxLen := by unfold maxLen; omega
            rcases hstop with h | ⟨h, h'⟩
            all_goals
              go_wp2_with (at_builtin; refine wpList_append_own _ rfl _ _ 23 rfl w.heap.size 3 i0 (.int .i64 0) 1 8 Try.underlying23 HI.out HZ0.out HZ1.out HZ2.out rfl (by decide) _ _ _ rfl (hownw.alloc _) ⟨wr.heap.size, 0, none⟩ 1 1 [.int .i64 (i : Int)] rfl rfl (cell_one_new _ _ _) (by simp [Value.oneCell']) hmx (by omega) (by have := hbw.size; simp; omega) ?_)
              intro v' w1 hown' hgrow _
              have hb1 : Below w.heap.size w w1 := (hbw.alloc hbw.size _).grown hgrow (by have := hbw.size; simp; omega) (own_lt hownw)
              have hc1 := (hb1.cell (p := ⟨bb, off + i * 2, none⟩) hbl).trans hc0
              have HO1 : Hid (w1.ownsRow w.heap.size 3 1 v' (acc ++ [i]).length (ints (acc ++ [i]))) := by rw [List.length_append, ints_snoc]; exact hown'
              have HB1 := Lib.hid hb1
              clear hown' hgrow hb1 hbw hownw hc0
              go_wp2
              go_roundw
              case rel => exact ⟨acc ++ [i], p + f[i].1.size, by go_num, HSTEP.out, HO1.out, HB1.out⟩
              case measure => simp [intOf]; omega
    · obtain rfl : p = s.size := by omega
      go_wp2
      go_ret2
      exact ⟨some acc, SetsTo.yes rfl hb HOWN.out, fun l h => by obtain rfl := Option.some.inj h; exact ⟨HSO.out.2.2, HSO.out.2.1⟩⟩

set_option maxRecDepth 100000 in
theorem tyWide_loose (f : List (ByteArray × Int)) (l : List Nat) (A B : Option Addr) (c d : Nat) (lo : Nat) (w : World) (hf : SortsIn w lo A f) (hg : IntsIn w B (intL l)) (hi : ∀ i ∈ l, i < f.length) (hn : l.length ≤ 1048576) :
    Calls Try.prog 97 #[.slice A f.length c, .slice B l.length d] w fun e w' => ∃ S : Int, e = .returned (.int .i64 S) ∧ w = w' := by
  have HF := Lib.hid hf; clear hf
  have HG := Lib.hid hg; clear hg
  have HI := Lib.hid hi
  clear hi
  go_enter Try.func97, Try.ntmps97
  go_wp2
  go_loop [5, 10] (fun q i => ∃ (k : Nat) (S : Int), k ≤ l.length ∧ i = .int .i64 k ∧ q = .int .i64 S) (fun _ i => l.length - (intOf i).toNat)
  case atStart => exact ⟨0, 0, Nat.zero_le _, rfl, rfl⟩
  case round =>
    obtain ⟨k, S, hk, rfl, rfl⟩ := hrel
    by_cases hlt : k < l.length
    · obtain ⟨b', off', rfl, hbl', hd⟩ := HG.out (by rw [intL_len]; omega)
      have hd0 := hd k (by rw [intL_len]; exact hlt)
      rw [intL_get] at hd0
      clear hd
      have hix : l[k] < f.length := HI.out _ (List.getElem_mem hlt)
      obtain ⟨b, off, rfl, _, hbl, hc⟩ := HF.out (by omega)
      have hc1 := (hc l[k] hix).2
      clear hc
      generalize l[k] = i at *
      generalize f[i].2 = x at *
      go_wp2
      go_round
      case rel => exact ⟨k + 1, _, by omega, by go_num, rfl⟩
      case measure => simp [intOf]; omega
    · obtain rfl : k = l.length := by omega
      go_wp2
      go_ret
      exact ⟨⟨S, rfl⟩, rfl⟩
set_option maxRecDepth 100000 in
theorem tyWidth_loose (f : List (ByteArray × Int)) (A : Option Addr) (cap : Nat) (s : ByteArray) (lo : Nat) (w : World) (hf : SortsIn w lo A f) (hn : f.length ≤ 1048576) (hs : s.size ≤ 1048576) :
    Calls Try.prog 89 #[.slice A f.length cap, .string s] w fun e w' => ∃ (S : Int) (b : Bool), e = .returned (.tuple #[.int .i64 S, .bool b]) ∧ Below w.heap.size w w' := by
  have HS := Lib.hid hf; clear hf
  go_enter Try.func89, Try.ntmps89
  go_wp2_with fail
  refine (tySet_loose f A cap s lo _ HS.out hn hs).mono ?_
  rintro e w1 ⟨r, hto, hr⟩
  have HR := Lib.hid hr
  clear hr
  obtain ⟨v, rfl, hb, ho⟩ := hto.get
  obtain ⟨B, d, rfl⟩ := own_form ho
  have HI := Lib.hid (own_in ho)
  have HM : Hid (∀ i ∈ r.getD [], i < f.length) := Lib.hid (by
    cases hq : r with
    | none => simp
    | some l => exact (HR.out l hq).1)
  have hlen : (r.getD []).length ≤ 1048576 := by
    cases hq : r with
    | none => simp
    | some l => have := (HR.out l hq).2; simp; omega
  have H1 := Lib.hid (HS.out.below hb (Nat.le_refl _))
  clear hto ho HR
  generalize hbb : r.isSome = bb at *
  generalize hll : r.getD [] = l at *
  clear hbb hll
  rw [intL_len]
  go_wp2_with fail
  refine (tyWide_loose f l A B _ _ lo _ H1.out HI.out HM.out (by omega)).mono ?_
  rintro e w2 ⟨S, rfl, rfl⟩
  go_wp2
  go_ret2
  exact ⟨S, bb, rfl, hb⟩
end Go.Proofs.Ytpbkeagpipipmaa.S1
