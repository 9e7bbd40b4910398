/-
  The contract of spec.l1Read: it answers the number that a canonical decimal text of at most six digits spells, else -1, and leaves the world as it is.
-/
import Derived.Test.YtljakcfdjcjdbaaDoorLet
import Derived.IntWalk
namespace Go.Proofs.YtljakcfdjcjdbaaDoor.T1
open Go.RowKit
set_option linter.unusedVariables false

def isDig (c : UInt8) : Bool := 48 ≤ c && c ≤ 57
def digs (l : List UInt8) : Bool := l.all isDig
def valL (l : List UInt8) : Int := l.foldl (fun n c => 10 * n + ((c.toNat : Int) - 48)) 0
theorem isDig_int (c : UInt8) : isDig c = (decide (48 ≤ (c.toNat : Int)) && decide ((c.toNat : Int) ≤ 57)) := by
  unfold isDig
  have e1 : (48 : UInt8) ≤ c ↔ 48 ≤ (c.toNat : Int) := by rw [UInt8.le_iff_toNat_le]; simp; omega
  have e2 : c ≤ (57 : UInt8) ↔ (c.toNat : Int) ≤ 57 := by rw [UInt8.le_iff_toNat_le]; simp; omega
  simp [e1, e2]
theorem digs_snoc (l : List UInt8) (c : UInt8) : digs (l ++ [c]) = (digs l && isDig c) := by simp [digs]
theorem valL_snoc (l : List UInt8) (c : UInt8) : valL (l ++ [c]) = 10 * valL l + ((c.toNat : Int) - 48) := by simp [valL]
theorem digs_no (s : ByteArray) (k : Nat) (h : k < s.size) (hf : isDig s[k] = false) : digs s.data.toList = false := by
  unfold digs
  rw [List.all_eq_false]
  refine ⟨s[k], ?_, by simp [hf]⟩
  exact List.getElem_mem (l := s.data.toList) (by simpa using h)
theorem val_bound (s : ByteArray) : ∀ k, k ≤ s.size → k ≤ 6 → digs (s.data.toList.take k) = true → 0 ≤ valL (s.data.toList.take k) ∧ valL (s.data.toList.take k) ≤ 999999 ∧ valL (s.data.toList.take k) < 10 ^ k
  | 0, _, _, _ => by simp [valL]
  | k + 1, hk, h6, hd => by
    rw [take_snoc s k (by omega)] at hd ⊢
    rw [digs_snoc, Bool.and_eq_true] at hd
    obtain ⟨b1, b2, b3⟩ := val_bound s k (by omega) (by omega) hd.1
    have hc := hd.2
    rw [isDig_int] at hc
    simp only [Bool.and_eq_true, decide_eq_true_eq] at hc
    rw [valL_snoc]
    have hc6 : k = 0 ∨ k = 1 ∨ k = 2 ∨ k = 3 ∨ k = 4 ∨ k = 5 := by omega
    rcases hc6 with rfl | rfl | rfl | rfl | rfl | rfl <;> simp [show valL [] = 0 from rfl] at b3 ⊢ <;> omega
/-- The number that l1Read reads. -/
def readF (s : ByteArray) : Int := if (1 ≤ s.size ∧ s.size ≤ 6) ∧ ¬ (s.data.toList.head? = some 48 ∧ 1 < s.size) ∧ digs s.data.toList = true then valL s.data.toList else -1
theorem ret_i64 {a b : Int} (h : a = b) : Ending.returned (.int .i64 a) = .returned (.int .i64 b) := by rw [h]

set_option maxRecDepth 100000 in
set_option maxHeartbeats 2000000 in
theorem l1Read_any (s : ByteArray) (w : World) (hs : s.size ≤ maxLen) :
    Calls Tryd.prog 24 #[.string s] w fun e w' => e = .returned (.int .i64 (readF s)) ∧ w = w' := by
  unfold maxLen at hs
  by_cases h16 : 1 ≤ s.size ∧ s.size ≤ 6
  · obtain ⟨h1, h6⟩ := h16
    have HP : Hid ((1 ≤ s.size ∧ s.size ≤ 6)) := Lib.hid ⟨h1, h6⟩
    have hl0 : 0 < s.size := h1
    have HHD : Hid (s.data.toList.head? = some s[0]) := by
      show _ = _
      rw [List.head?_eq_getElem?, List.getElem?_eq_getElem (by simpa using hl0)]; rfl
    have hm1 : (1 : Int) ≤ (s.size : Int) := by omega
    have hm6 : (s.size : Int) ≤ 6 := by omega
    have HIN : Hid (∀ W, Calls Tryd.prog 32 #[.int .i64 s.size, .int .i64 1, .int .i64 6] W fun e w' => e = .returned (.bool true) ∧ W = w') := by
      intro W
      have := in_any (s.size : Int) 1 6 W
      rw [decide_eq_true hm1, decide_eq_true hm6] at this
      exact this
    by_cases hz : s[0].toNat = 48 ∧ 1 < s.size
    · obtain ⟨hz1, hz2⟩ := hz
      have HV : Hid (readF s = -1) := by
        show _ = _
        unfold readF
        rw [if_neg]
        rintro ⟨_, h, _⟩
        exact h ⟨by rw [HHD.out]; congr 1; exact UInt8.toNat_inj.1 hz1, hz2⟩
      have hz1' : (s[0].toNat : Int) = 48 := by omega
      have hz2' : (1 : Int) < (s.size : Int) := by omega
      go_enter Tryd.func24, Tryd.ntmps24
      go_wp2_with (go_at_call 32; refine (HIN.out _).mono ?_; rintro e w' ⟨rfl, rfl⟩)
      go_ret
      exact ⟨ret_i64 HV.out.symm, rfl⟩
    have HNZ : Hid (¬ (s.data.toList.head? = some 48 ∧ 1 < s.size)) := by
      show ¬ _
      rintro ⟨h, h2⟩
      rw [HHD.out] at h
      exact hz ⟨by rw [Option.some.inj h]; rfl, h2⟩
    have hz' : (¬ (s[0].toNat : Int) = 48) ∨ ((s[0].toNat : Int) = 48 ∧ ¬ (1 : Int) < (s.size : Int)) := by omega
    clear hz
    rcases hz' with hz1 | ⟨hz1, hz2⟩
    all_goals
      go_enter Tryd.func24, Tryd.ntmps24
      go_wp2_with (go_at_call 32; refine (HIN.out _).mono ?_; rintro e w' ⟨rfl, rfl⟩)
      go_loop [3, 4] (fun n i => ∃ k : Nat, k ≤ s.size ∧ i = .int .i64 k ∧ n = .int .i64 (valL (s.data.toList.take k)) ∧ digs (s.data.toList.take k) = true) (fun _ i => s.size - (intOf i).toNat)
      case atStart => exact ⟨0, Nat.zero_le _, rfl, rfl, rfl⟩
      case round =>
        obtain ⟨k, hk, rfl, rfl, hl⟩ := hrel
        have HL := Lib.hid hl; clear hl
        by_cases hlt : k < s.size
        · obtain ⟨b1, b2, b3⟩ := val_bound s k hk (by omega) HL.out
          have hst : valL (s.data.toList.take (k + 1)) = 10 * valL (s.data.toList.take k) + ((s[k].toNat : Int) - 48) := by rw [take_snoc s k hlt, valL_snoc]
          have hdg : digs (s.data.toList.take (k + 1)) = isDig s[k] := by rw [take_snoc s k hlt, digs_snoc, HL.out]; rfl
          have hno := digs_no s k hlt
          rw [isDig_int] at hdg hno
          have HST := Lib.hid hst; have HDG := Lib.hid hdg; have HNO := Lib.hid hno
          clear hst hdg hno
          by_cases c1 : 48 ≤ (s[k].toNat : Int)
          · by_cases c2 : (s[k].toNat : Int) ≤ 57
            · have HDY : Hid (digs (s.data.toList.take (k + 1)) = true) := by show _ = _; rw [HDG.out]; simp [c1, c2]
              clear HDG HNO
              obtain ⟨z, hz⟩ : ∃ z : Int, z = (s[k].toNat : Int) := ⟨_, rfl⟩
              generalize valL (s.data.toList.take k) = n at *
              have c1z : 48 ≤ z := by omega
              have c2z : z ≤ 57 := by omega
              have e1 : IntKind.u8.wrap (z - 48) = z - 48 := by
                rw [show IntKind.u8.wrap (z - 48) = (z - 48) % 256 from by simp [IntKind.wrap, IntKind.bits, IntKind.signed]]
                omega
              have e2 : IntKind.i64.wrap (10 * n) = 10 * n := IntWalk.i64_in _ (by omega)
              have e3 : IntKind.i64.wrap (z - 48) = z - 48 := IntWalk.i64_in _ (by omega)
              have e4 : IntKind.i64.wrap (10 * n + (z - 48)) = 10 * n + (z - 48) := IntWalk.i64_in _ (by omega)
              rw [hz] at e1 e3 e4
              clear hz c1z c2z
              go_wp2
              go_round
              case rel => exact ⟨k + 1, by omega, by go_num, by rw [HST.out], HDY.out⟩
              case measure => simp [intOf]; omega
            · have HV : Hid (readF s = -1) := by
                show _ = _; unfold readF
                rw [if_neg]
                rintro ⟨_, _, h⟩
                rw [HNO.out (by simp; omega)] at h; cases h
              go_wp2
              go_ret
              exact ⟨ret_i64 HV.out.symm, rfl⟩
          · have HV : Hid (readF s = -1) := by
              show _ = _; unfold readF
              rw [if_neg]
              rintro ⟨_, _, h⟩
              rw [HNO.out (by simp; omega)] at h; cases h
            go_wp2
            go_ret
            exact ⟨ret_i64 HV.out.symm, rfl⟩
        · obtain rfl : k = s.size := by omega
          have HV : Hid (readF s = valL (s.data.toList.take s.size)) := by
            show _ = _
            have e := HL.out
            rw [List.take_of_length_le (by simp)] at e ⊢
            unfold readF; rw [if_pos ⟨HP.out, HNZ.out, e⟩]
          go_wp2
          go_ret
          exact ⟨ret_i64 HV.out.symm, rfl⟩
  · have HV : Hid (readF s = -1) := by show _ = _; unfold readF; rw [if_neg (fun h => h16 h.1)]
    have HIN : Hid (∀ W, Calls Tryd.prog 32 #[.int .i64 s.size, .int .i64 1, .int .i64 6] W fun e w' => e = .returned (.bool false) ∧ W = w') := by
      intro W
      have := in_any (s.size : Int) 1 6 W
      rw [show (decide ((1 : Int) ≤ s.size) && decide ((s.size : Int) ≤ 6)) = false by simp; omega] at this
      exact this
    clear h16
    go_enter Tryd.func24, Tryd.ntmps24
    go_wp2_with (go_at_call 32; refine (HIN.out _).mono ?_; rintro e w' ⟨rfl, rfl⟩)
    go_ret
    exact ⟨ret_i64 HV.out.symm, rfl⟩
end Go.Proofs.YtljakcfdjcjdbaaDoor.T1
