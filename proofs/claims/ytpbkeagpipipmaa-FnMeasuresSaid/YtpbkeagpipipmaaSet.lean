/-
  The contracts of spec.tySet, spec.SortsOfWord and impl.SortsOfWord over a font: the list of sorts with which a word is set, in memory of the call's own.
-/
import Derived.Test.YtpbkeagpipipmaaBest
namespace Go.Proofs.Ytpbkeagpipipmaa.S1
open Go.RowKit
set_option linter.unusedVariables false

def ints (l : List Nat) : List Value := l.map fun i : Nat => .int .i64 (i : Int)
theorem ints_len (l : List Nat) : (ints l).length = l.length := by simp [ints]
theorem ints_snoc (l : List Nat) (i : Nat) : ints (l ++ [i]) = ints l ++ [.int .i64 (i : Int)] := by simp [ints]
theorem own_below {w w' : World} {base size n : Nat} {e : TypeId} {v : Value} {xs : List Value} (h : w.ownsRow base e size v n xs) (hb : Below w.heap.size w w') : w'.ownsRow base e size v n xs :=
  h.kept (row := none) ⟨hb.os, hb.tape, hb.output, hb.size, fun k hk _ => hb.block k hk⟩ (by cases v.ownBlock <;> simp)
theorem own_lt {w : World} {base size n : Nat} {e : TypeId} {v : Value} {xs : List Value} (h : w.ownsRow base e size v n xs) : ∀ k, v.ownBlock = some k → base ≤ k := fun k hk => (h.lt k hk).1
theorem own_nil (w : World) (base size : Nat) (e : TypeId) : w.ownsRow base e size (.slice none 0 0) 0 [] := ⟨by simp, .inl ⟨rfl, rfl⟩⟩

/-- The sorts with which the rest of a word from p on is set. -/
def setF (f : List (ByteArray × Int)) (s : ByteArray) : Nat → Nat → Option (List Nat)
  | 0, p => if s.size ≤ p then some [] else none
  | n + 1, p => if s.size ≤ p then some [] else
    match lastPre f (s.extract p s.size) f.length with
    | none => none
    | some i => (setF f s n (p + (codeAt f i).length)).map (i :: ·)
def setW (f : List (ByteArray × Int)) (s : ByteArray) : Option (List Nat) := setF f s s.size 0
theorem setF_end {f : List (ByteArray × Int)} {s : ByteArray} {n p : Nat} (h : s.size ≤ p) : setF f s n p = some [] := by
  cases n <;> simp [setF, h]
theorem setF_no {f : List (ByteArray × Int)} {s : ByteArray} {n p : Nat} (h : p < s.size) (hl : lastPre f (s.extract p s.size) f.length = none) : setF f s n p = none := by
  cases n <;> simp [setF, Nat.not_le.2 h, hl]
/-- So far acc, from p on with n left to go. -/
def SetSo (f : List (ByteArray × Int)) (s : ByteArray) (acc : List Nat) (p : Nat) : Prop := p ≤ s.size ∧ acc.length ≤ p ∧ ∃ n, s.size - p ≤ n ∧ setW f s = (setF f s n p).map (acc ++ ·)
theorem SetSo.start (f : List (ByteArray × Int)) (s : ByteArray) : SetSo f s [] 0 := ⟨Nat.zero_le _, Nat.le_refl _, s.size, by omega, by simp [setW]⟩
theorem SetSo.step {f : List (ByteArray × Int)} {s : ByteArray} {acc : List Nat} {p i : Nat} (hf : Font f) (h : SetSo f s acc p) (hp : p < s.size) (hl : lastPre f (s.extract p s.size) f.length = some i) : SetSo f s (acc ++ [i]) (p + (codeAt f i).length) := by
  obtain ⟨h1, h2, n, hn, h3⟩ := h
  obtain ⟨g1, g2, _⟩ := lastPre_some hl
  have hsz := hf.size g1
  have hle := g2.length_le
  rw [rest_list, List.length_drop, len_list] at hle
  cases n with
  | zero => omega
  | succ n =>
    refine ⟨by omega, by simp; omega, n, by omega, ?_⟩
    rw [h3]
    simp only [setF]
    rw [if_neg (by omega), hl]
    simp only [Option.map_map]
    congr 1
    funext x
    simp
theorem SetSo.no {f : List (ByteArray × Int)} {s : ByteArray} {acc : List Nat} {p : Nat} (h : SetSo f s acc p) (hp : p < s.size) (hl : lastPre f (s.extract p s.size) f.length = none) : setW f s = none := by
  obtain ⟨_, _, n, _, h3⟩ := h
  rw [h3, setF_no hp hl]; rfl
theorem SetSo.done {f : List (ByteArray × Int)} {s : ByteArray} {acc : List Nat} (h : SetSo f s acc s.size) : setW f s = some acc := by
  obtain ⟨_, _, n, _, h3⟩ := h
  rw [h3, setF_end (Nat.le_refl _)]; simp

def SetsTo (w w' : World) (e : Ending) (r : Option (List Nat)) : Prop := Below w.heap.size w w' ∧
  match r with
  | none => e = .returned (.tuple #[.slice none 0 0, .bool false])
  | some l => ∃ v, e = .returned (.tuple #[v, .bool true]) ∧ w'.ownsRow w.heap.size 3 1 v l.length (ints l)

theorem SetsTo.no {w w' : World} {r : Option (List Nat)} (h : r = none) (hb : Below w.heap.size w w') : SetsTo w w' (.returned (.tuple #[.slice none 0 0, .bool false])) r := by subst h; exact ⟨hb, rfl⟩
theorem SetsTo.yes {w w' : World} {r : Option (List Nat)} {l : List Nat} {v : Value} (h : r = some l) (hb : Below w.heap.size w w') (ho : w'.ownsRow w.heap.size 3 1 v l.length (ints l)) : SetsTo w w' (.returned (.tuple #[v, .bool true])) r := by subst h; exact ⟨hb, v, rfl, ho⟩
theorem info3 : (Try.prog.info? 3).map (fun i => (i.zero, i.size, i.bytes)) = some (some (.int .i64 0), 1, 8) := by kernel_rfl

theorem least_nat (a : Int) (h0 : 0 ≤ a) : ∃ M : Nat, (if (3 : Int) < a then (3 : Int) else a) = (M : Int) ∧ M ≤ 3 ∧ (M : Int) ≤ a ∧ (M = 3 ∨ (M : Int) = a) := by
  by_cases h : (3 : Int) < a
  · exact ⟨3, by rw [if_pos h]; rfl, by omega, by omega, .inl rfl⟩
  · exact ⟨a.toNat, by rw [if_neg h]; omega, by omega, by omega, .inr (by omega)⟩
theorem asInt_some {o : Option Nat} {k : Nat} (h : o = some k) : asInt o = (k : Int) := by rw [h]; rfl

set_option maxRecDepth 100000 in
set_option maxHeartbeats 1000000 in
theorem tySet_any (f : List (ByteArray × Int)) (A : Option Addr) (cap : Nat) (s : ByteArray) (lo : Nat) (w : World) (hf : SortsIn w lo A f) (hF : Font f) (hs : s.size ≤ 16) :
    Calls Try.prog 96 #[.slice A f.length cap, .string s] w fun e w' => SetsTo w w' e (setW f s) := by
  have HS := Lib.hid hf; clear hf
  have hn : f.length ≤ 32 := hF.2.2
  have HF := Lib.hid hF; clear hF
  obtain ⟨i0, hi, hz0, hz1, hz2⟩ := info_parts info3
  have HI := Lib.hid hi; have HZ0 := Lib.hid hz0; have HZ1 := Lib.hid hz1; have HZ2 := Lib.hid hz2
  clear hi hz0 hz1 hz2
  go_enter Try.func96, Try.ntmps96
  go_wp2
  go_loopw [6, 7] (fun v t wr => ∃ (acc : List Nat) (p : Nat), t = .int .i64 p ∧ SetSo f s acc p ∧ wr.ownsRow w.heap.size 3 1 v acc.length (ints acc) ∧ Below w.heap.size w wr) (fun _ t _ => s.size - (intOf t).toNat)
  case atStart => exact ⟨[], 0, rfl, SetSo.start f s, own_nil _ _ _ _, Below.refl _ _⟩
  case round =>
    obtain ⟨acc, p, rfl, hso, hown, hb⟩ := hrel
    have hp := hso.1
    have HSO := Lib.hid hso; clear hso
    have HOWN := Lib.hid hown; clear hown
    by_cases hlt : p < s.size
    · go_wp2_with fail
      refine (least_any _ _ _).mono ?_
      rintro e w1 ⟨rfl, rfl⟩
      obtain ⟨M, hM, hM3, hMp, hMc⟩ := least_nat ((s.size : Int) - (p : Int)) (by omega)
      rw [hM]
      have hdown : downF f s p M = asInt (lastPre f (s.extract p s.size) f.length) := by
        refine downF_eq HF.out s p M (by omega) fun i hi hlt hp => ?_
        have := HF.out.size hi
        have := hp.length_le
        rw [List.length_drop, len_list] at this
        omega
      have HDOWN := Lib.hid hdown; clear hdown hM hMc
      go_wp2
      obtain ⟨wo, hwo⟩ : ∃ wo : World, wo = wr := ⟨_, rfl⟩
      subst hwo
      go_loopw [8, 9] (fun b n wr => ∃ (j : Nat) (r : Int), n = .int .i64 j ∧ b = .int .i64 r ∧ j ≤ M ∧ (r < 0 → r = -1 ∧ downF f s p M = downF f s p j) ∧ (0 ≤ r → r = downF f s p M) ∧ Below wo.heap.size wo wr) (fun _ n _ => (intOf n).toNat)
      case atStart => exact ⟨M, -1, rfl, rfl, Nat.le_refl _, fun _ => ⟨rfl, rfl⟩, fun h => absurd h (by omega), Below.refl _ _⟩
      case round =>
        obtain ⟨j, r, rfl, rfl, hj, hr1, hr2, hbi⟩ := hrel
        have HR1 := Lib.hid hr1; have HR2 := Lib.hid hr2
        clear hr1 hr2
        by_cases hgo : 0 < j ∧ r < 0
        · obtain ⟨hj0, hr0⟩ := hgo
          obtain ⟨m, rfl⟩ : ∃ m, j = m + 1 := ⟨j - 1, by omega⟩
          have h1 : (0 : Int) < ((m + 1 : Nat) : Int) := by omega
          have HFS := Lib.hid (HS.out.below (hb.trans (hbi.mono hb.size)) (Nat.le_refl _))
          go_wp2_with fail
          refine (tyFind_any f A cap _ lo _ HFS.out (by omega)).mono ?_
          rintro e w2 ⟨rfl, hb2⟩
          have HD : Hid (downF f s p (m + 1) = if findI f (s.extract p (p + (m + 1))) 0 < 0 then downF f s p m else findI f (s.extract p (p + (m + 1))) 0) := rfl
          have HC := Lib.hid (findI_cases f (s.extract p (p + (m + 1))))
          have HB := Lib.hid (hbi.trans (hb2.mono hbi.size))
          clear hbi hb2 HFS
          generalize findI f (s.extract p (p + (m + 1))) 0 = q at *
          go_wp2
          go_roundw
          case rel =>
            refine ⟨m, q, by go_num, rfl, by omega, fun hq => ?_, fun hq => ?_, HB.out⟩
            · refine ⟨?_, ?_⟩
              · rcases HC.out with ⟨h, _⟩ | ⟨i, _, _, h⟩ <;> omega
              · rw [(HR1.out hr0).2, HD.out, if_pos hq]
            · rw [(HR1.out hr0).2, HD.out, if_neg (by omega)]
          case measure => simp [intOf]
        · have hr : r = downF f s p M := by
            by_cases h0 : 0 ≤ r
            · exact HR2.out h0
            · have hj0 : j = 0 := by omega
              obtain ⟨e1, e2⟩ := HR1.out (by omega)
              rw [e2, hj0, e1]; rfl
          have hr' := hr.trans HDOWN.out
          have hstop : ¬ 0 < (j : Int) ∨ (0 < (j : Int) ∧ ¬ r < 0) := by omega
          have hbw := hb.trans (hbi.mono hb.size)
          have hownw := own_below HOWN.out hbi
          clear HR1 HR2 HDOWN hr hbi hb HOWN hgo
          cases hl : lastPre f (s.extract p s.size) f.length with
          | none =>
            rw [hl] at hr'
            obtain rfl : r = -1 := hr'
            have HNO := Lib.hid (HSO.out.no hlt hl)
            have HW := Lib.hid hbw
            clear hl hownw hbw
            have h : ¬ 0 < (j : Int) := by omega
            clear hstop
            go_wp2
            go_ret2
            exact SetsTo.no HNO.out HW.out
          | some i =>
            rw [hl] at hr'
            obtain rfl : r = (i : Int) := hr'
            have hil := (lastPre_some hl).1
            have HSTEP := Lib.hid (HSO.out.step HF.out hlt hl)
            obtain ⟨bb, off, rfl, _, hbl, hc⟩ := HS.out (by omega)
            have hc0 := (hc i hil).1
            have hcl := HF.out.size hil
            rw [codeAt_of hil] at HSTEP hcl
            rw [len_list] at HSTEP hcl
            have hal := HSO.out.2.1
            clear hl hc
            have h0i : ¬ (i : Int) < 0 := by omega
            have hmx : acc.length + 1 ≤ maxLen := by unfold maxLen; omega
            rcases hstop with h | ⟨h, h'⟩
            all_goals
              go_wp2_with (at_builtin; refine wpList_append_own _ rfl _ _ 23 rfl w.heap.size 3 i0 (.int .i64 0) 1 8 Try.underlying23 HI.out HZ0.out HZ1.out HZ2.out rfl (by decide) _ _ _ rfl (hownw.alloc _) ⟨wr.heap.size, 0, none⟩ 1 1 [.int .i64 (i : Int)] rfl rfl (cell_one_new _ _ _) (by simp [Value.oneCell']) hmx (by omega) (by have := hbw.size; simp; omega) ?_)
              intro v' w1 hown' hgrow _
              have hb1 : Below w.heap.size w w1 := (hbw.alloc hbw.size _).grown hgrow (by have := hbw.size; simp; omega) (own_lt hownw)
              have hc1 := (hb1.cell (p := ⟨bb, off + i * 2, none⟩) hbl).trans hc0
              have HO1 : Hid (w1.ownsRow w.heap.size 3 1 v' (acc ++ [i]).length (ints (acc ++ [i]))) := by rw [List.length_append, ints_snoc]; exact hown'
              have HB1 := Lib.hid hb1
              clear hown' hgrow hb1 hbw hownw hc0
              go_wp2
              go_roundw
              case rel => exact ⟨acc ++ [i], p + f[i].1.size, by go_num, HSTEP.out, HO1.out, HB1.out⟩
              case measure => simp [intOf]; omega
    · obtain rfl : p = s.size := by omega
      have HD := Lib.hid HSO.out.done
      go_wp2
      go_ret2
      exact SetsTo.yes HD.out hb HOWN.out
end Go.Proofs.Ytpbkeagpipipmaa.S1
