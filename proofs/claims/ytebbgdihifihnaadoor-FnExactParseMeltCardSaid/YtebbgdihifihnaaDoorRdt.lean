/-
  The contract of spec.meRead: it answers the number that a canonical decimal text of at most ten digits spells, else -1; what impl.parseDecimal reads is the same, for the numbers that ten digits hold.
-/
import Derived.Test.YtebbgdihifihnaaDoorDec
import Derived.IntWalk
namespace Go.Proofs.YtebbgdihifihnaaDoor.T1
open Go.RowKit
set_option linter.unusedVariables false

theorem val_boundT (s : ByteArray) : ∀ k, k ≤ s.size → k ≤ 10 → digs (s.data.toList.take k) = true → 0 ≤ valL (s.data.toList.take k) ∧ valL (s.data.toList.take k) ≤ 9999999999 ∧ valL (s.data.toList.take k) < 10 ^ k
  | 0, _, _, _ => by simp [valL]
  | k + 1, hk, h6, hd => by
    rw [take_snoc s k (by omega)] at hd ⊢
    rw [digs_snoc, Bool.and_eq_true] at hd
    obtain ⟨b1, b2, b3⟩ := val_boundT s k (by omega) (by omega) hd.1
    have hc := hd.2
    rw [isDig_int] at hc
    simp only [Bool.and_eq_true, decide_eq_true_eq] at hc
    rw [valL_snoc]
    have hc6 : k = 0 ∨ k = 1 ∨ k = 2 ∨ k = 3 ∨ k = 4 ∨ k = 5 ∨ k = 6 ∨ k = 7 ∨ k = 8 ∨ k = 9 := by omega
    rcases hc6 with rfl | rfl | rfl | rfl | rfl | rfl | rfl | rfl | rfl | rfl <;> simp [show valL [] = 0 from rfl] at b3 ⊢ <;> omega
/-- The number that meRead reads. -/
def readT (s : ByteArray) : Int := if (1 ≤ s.size ∧ s.size ≤ 10) ∧ ¬ (s.data.toList.head? = some 48 ∧ 1 < s.size) ∧ digs s.data.toList = true then valL s.data.toList else -1

set_option maxRecDepth 100000 in
set_option maxHeartbeats 2000000 in
theorem meRead_any (s : ByteArray) (w : World) (hs : s.size ≤ maxLen) :
    Calls Tryd.prog 64 #[.string s] w fun e w' => e = .returned (.int .i64 (readT s)) ∧ w = w' := by
  unfold maxLen at hs
  by_cases h16 : 1 ≤ s.size ∧ s.size ≤ 10
  · obtain ⟨h1, h6⟩ := h16
    have HP : Hid ((1 ≤ s.size ∧ s.size ≤ 10)) := Lib.hid ⟨h1, h6⟩
    have hl0 : 0 < s.size := h1
    have HHD : Hid (s.data.toList.head? = some s[0]) := by
      show _ = _
      rw [List.head?_eq_getElem?, List.getElem?_eq_getElem (by simpa using hl0)]; rfl
    have hm1 : (1 : Int) ≤ (s.size : Int) := by omega
    have hm6 : (s.size : Int) ≤ 10 := by omega
    have HIN : Hid (∀ W, Calls Tryd.prog 46 #[.int .i64 s.size, .int .i64 1, .int .i64 10] W fun e w' => e = .returned (.bool true) ∧ W = w') := by
      intro W
      have := in_any (s.size : Int) 1 10 W
      rw [decide_eq_true hm1, decide_eq_true hm6] at this
      exact this
    by_cases hz : s[0].toNat = 48 ∧ 1 < s.size
    · obtain ⟨hz1, hz2⟩ := hz
      have HV : Hid (readT s = -1) := by
        show _ = _
        unfold readT
        rw [if_neg]
        rintro ⟨_, h, _⟩
        exact h ⟨by rw [HHD.out]; congr 1; exact UInt8.toNat_inj.1 hz1, hz2⟩
      have hz1' : (s[0].toNat : Int) = 48 := by omega
      have hz2' : (1 : Int) < (s.size : Int) := by omega
      go_enter Tryd.func64, Tryd.ntmps64
      go_wp2_with (go_at_call 46; refine (HIN.out _).mono ?_; rintro e w' ⟨rfl, rfl⟩)
      go_ret
      exact ⟨ret_i64 HV.out.symm, rfl⟩
    have HNZ : Hid (¬ (s.data.toList.head? = some 48 ∧ 1 < s.size)) := by
      show ¬ _
      rintro ⟨h, h2⟩
      rw [HHD.out] at h
      exact hz ⟨by rw [Option.some.inj h]; rfl, h2⟩
    have hz' : (¬ (s[0].toNat : Int) = 48) ∨ ((s[0].toNat : Int) = 48 ∧ ¬ (1 : Int) < (s.size : Int)) := by omega
    clear hz
    rcases hz' with hz1 | ⟨hz1, hz2⟩
    all_goals
      go_enter Tryd.func64, Tryd.ntmps64
      go_wp2_with (go_at_call 46; refine (HIN.out _).mono ?_; rintro e w' ⟨rfl, rfl⟩)
      go_loop [3, 4] (fun n i => ∃ k : Nat, k ≤ s.size ∧ i = .int .i64 k ∧ n = .int .i64 (valL (s.data.toList.take k)) ∧ digs (s.data.toList.take k) = true) (fun _ i => s.size - (intOf i).toNat)
      case atStart => exact ⟨0, Nat.zero_le _, rfl, rfl, rfl⟩
      case round =>
        obtain ⟨k, hk, rfl, rfl, hl⟩ := hrel
        have HL := Lib.hid hl; clear hl
        by_cases hlt : k < s.size
        · obtain ⟨b1, b2, b3⟩ := val_boundT s k hk (by omega) HL.out
          have hst : valL (s.data.toList.take (k + 1)) = 10 * valL (s.data.toList.take k) + ((s[k].toNat : Int) - 48) := by rw [take_snoc s k hlt, valL_snoc]
          have hdg : digs (s.data.toList.take (k + 1)) = isDig s[k] := by rw [take_snoc s k hlt, digs_snoc, HL.out]; rfl
          have hno := digs_no s k hlt
          rw [isDig_int] at hdg hno
          have HST := Lib.hid hst; have HDG := Lib.hid hdg; have HNO := Lib.hid hno
          clear hst hdg hno
          by_cases c1 : 48 ≤ (s[k].toNat : Int)
          · by_cases c2 : (s[k].toNat : Int) ≤ 57
            · have HDY : Hid (digs (s.data.toList.take (k + 1)) = true) := by show _ = _; rw [HDG.out]; simp [c1, c2]
              clear HDG HNO
              obtain ⟨z, hz⟩ : ∃ z : Int, z = (s[k].toNat : Int) := ⟨_, rfl⟩
              generalize valL (s.data.toList.take k) = n at *
              have c1z : 48 ≤ z := by omega
              have c2z : z ≤ 57 := by omega
              have e1 : IntKind.u8.wrap (z - 48) = z - 48 := by
                rw [show IntKind.u8.wrap (z - 48) = (z - 48) % 256 from by simp [IntKind.wrap, IntKind.bits, IntKind.signed]]
                omega
              have e2 : IntKind.i64.wrap (10 * n) = 10 * n := IntWalk.i64_in _ (by omega)
              have e3 : IntKind.i64.wrap (z - 48) = z - 48 := IntWalk.i64_in _ (by omega)
              have e4 : IntKind.i64.wrap (10 * n + (z - 48)) = 10 * n + (z - 48) := IntWalk.i64_in _ (by omega)
              rw [hz] at e1 e3 e4
              clear hz c1z c2z
              go_wp2
              go_round
              case rel => exact ⟨k + 1, by omega, by go_num, by rw [HST.out], HDY.out⟩
              case measure => simp [intOf]; omega
            · have HV : Hid (readT s = -1) := by
                show _ = _; unfold readT
                rw [if_neg]
                rintro ⟨_, _, h⟩
                rw [HNO.out (by simp; omega)] at h; cases h
              go_wp2
              go_ret
              exact ⟨ret_i64 HV.out.symm, rfl⟩
          · have HV : Hid (readT s = -1) := by
              show _ = _; unfold readT
              rw [if_neg]
              rintro ⟨_, _, h⟩
              rw [HNO.out (by simp; omega)] at h; cases h
            go_wp2
            go_ret
            exact ⟨ret_i64 HV.out.symm, rfl⟩
        · obtain rfl : k = s.size := by omega
          have HV : Hid (readT s = valL (s.data.toList.take s.size)) := by
            show _ = _
            have e := HL.out
            rw [List.take_of_length_le (by simp)] at e ⊢
            unfold readT; rw [if_pos ⟨HP.out, HNZ.out, e⟩]
          go_wp2
          go_ret
          exact ⟨ret_i64 HV.out.symm, rfl⟩
  · have HV : Hid (readT s = -1) := by show _ = _; unfold readT; rw [if_neg (fun h => h16 h.1)]
    have HIN : Hid (∀ W, Calls Tryd.prog 46 #[.int .i64 s.size, .int .i64 1, .int .i64 10] W fun e w' => e = .returned (.bool false) ∧ W = w') := by
      intro W
      have := in_any (s.size : Int) 1 10 W
      rw [show (decide ((1 : Int) ≤ s.size) && decide ((s.size : Int) ≤ 10)) = false by simp; omega] at this
      exact this
    clear h16
    go_enter Tryd.func64, Tryd.ntmps64
    go_wp2_with (go_at_call 46; refine (HIN.out _).mono ?_; rintro e w' ⟨rfl, rfl⟩)
    go_ret
    exact ⟨ret_i64 HV.out.symm, rfl⟩

theorem atoi_digsT {s : ByteArray} (h1 : 1 ≤ s.size) (h10 : s.size ≤ 10) (hd : digs s.data.toList = true) : 0 ≤ valL s.data.toList ∧ valL s.data.toList ≤ 9999999999 ∧ Lib.atoiAll s.data.toList = .ok (valL s.data.toList) := by
  have hl : s.data.toList.length = s.size := Array.length_toList
  have hb := val_boundT s s.size (Nat.le_refl _) h10 (by rw [List.take_of_length_le (by rw [hl]; exact Nat.le_refl _)]; exact hd)
  rw [List.take_of_length_le (by rw [hl]; exact Nat.le_refl _)] at hb
  refine ⟨hb.1, hb.2.1, ?_⟩
  have hv := hb.1
  have hp := parse_digs s.data.toList 0 hd (by
    rw [hl]
    have hc : s.size = 1 ∨ s.size = 2 ∨ s.size = 3 ∨ s.size = 4 ∨ s.size = 5 ∨ s.size = 6 ∨ s.size = 7 ∨ s.size = 8 ∨ s.size = 9 ∨ s.size = 10 := by omega
    rcases hc with h | h | h | h | h | h | h | h | h | h <;> rw [h] <;> decide)
  have hm : Lib.parseMag s.data.toList = .ok (valL s.data.toList).toNat := by
    unfold Lib.parseMag
    rw [if_neg (by intro e; rw [e] at hl; simp at hl; omega), hp]; rfl
  cases hs : s.data.toList with
  | nil => rw [hs] at hl; simp at hl; omega
  | cons c r =>
    rw [hs] at hd hm hv hb
    have hd' : isDig c = true ∧ digs r = true := by simpa [digs] using hd
    obtain ⟨c1, c2⟩ := dig_nat hd'.1
    rw [Lib.atoiAll_plain c r (by omega) (by omega), hm]
    unfold Lib.signless
    simp only []
    rw [if_neg (by omega), Int.toNat_of_nonneg hv]
theorem read_decT {s : ByteArray} {v : Int} (h : readT s = v) (h1 : 0 ≤ v) : decP s = (v, true) := by
  unfold readT at h
  split at h
  · rename_i hc
    obtain ⟨⟨s1, s6⟩, hh, hd⟩ := hc
    have hl : s.data.toList.length = s.size := Array.length_toList
    have hne : s.data.toList ≠ [] := by intro e; rw [e] at hl; simp at hl; omega
    have ha := (atoi_digsT s1 s6 hd).2.2
    rw [h] at ha
    by_cases hz : s.data.toList.head? = some 48
    · have hs1 : s.size = 1 := by have : ¬ 1 < s.size := fun h' => hh ⟨hz, h'⟩; omega
      obtain ⟨c, r, hx⟩ := List.exists_cons_of_ne_nil hne
      rw [hx] at hl hz
      obtain rfl : r = [] := by
        cases r with
        | nil => rfl
        | cons _ _ => simp at hl; omega
      obtain rfl : c = 48 := by simpa using hz
      have hv0 : v = 0 := by rw [← h, hx]; decide
      refine decP_ok ha ?_
      rw [hv0, ← ba_data s, hx, show Lib.itoa 0 = Lib.decDigits 0 from Lib.itoa_nonneg 0, Lib.decDigits_one (by omega)]
      rfl
    · obtain ⟨_, i2⟩ := canon _ s.data.toList rfl hd hne hz
      rw [h] at i2
      refine decP_ok ha ?_
      obtain ⟨n, hn⟩ := Int.eq_ofNat_of_zero_le h1
      rw [hn, Lib.itoa_nonneg, ← show (v.toNat : Nat) = n by omega, i2, ba_data]
  · omega
theorem dec_readT {s : ByteArray} {v : Int} (h : decP s = (v, true)) (h1 : 0 ≤ v) (h9 : v ≤ 9999999999) : readT s = v := by
  have he : baOf (Lib.itoa v) = s := by
    unfold decP at h
    split at h
    · split at h
      · rename_i u _ hu
        have : u = v := by simpa using h
        rw [← this]; exact hu
      · simp at h
    · simp at h
  obtain ⟨n, rfl⟩ := Int.eq_ofNat_of_zero_le h1
  rw [Lib.itoa_nonneg] at he
  have hs : s.data.toList = Lib.decDigits n := by rw [← he]; rfl
  have hl : s.data.toList.length = s.size := Array.length_toList
  rw [hs, Lib.decDigits_length] at hl
  have h6 := nDig_pow 9 n (by omega)
  have h0 : 1 ≤ Lib.nDigits n := by rw [Lib.nDigits]; split <;> omega
  unfold readT
  rw [if_pos ⟨⟨by omega, by omega⟩, fun hx => by
    rcases (by omega : n = 0 ∨ 1 ≤ n) with rfl | hn
    · have e1 : Lib.nDigits 0 = 1 := by rw [Lib.nDigits]; rfl
      rw [e1] at hl; omega
    · exact dec_head n hn (by rw [← hs]; exact hx.1), by rw [hs]; exact dec_digs n⟩, hs, dec_val]
end Go.Proofs.YtebbgdihifihnaaDoor.T1
