/-
  Exceptions, told plainly: a word without its hyphens, their places; the contract of spec.hyBare.
-/
import Derived.Test.YtcbhhbcfnaekpaaDoorHyb
namespace Go.Proofs.YtcbhhbcfnaekpaaDoor
open Go.RowKit
set_option linter.unusedVariables false

def bareL (l : List UInt8) : List UInt8 := l.filter fun c => decide (c ≠ 45)
def plG : Nat → List UInt8 → List Int
  | _, [] => []
  | n, c :: r => if c = 45 then (n : Int) :: plG n r else plG (n + 1) r
def placeL (l : List UInt8) : List Int := plG 0 l
theorem bareL_snoc (l : List UInt8) (c : UInt8) : bareL (l ++ [c]) = if c = 45 then bareL l else bareL l ++ [c] := by
  unfold bareL; rw [List.filter_append]
  by_cases h : c = 45 <;> simp [h]
theorem plG_snoc : ∀ (l : List UInt8) (n : Nat) (c : UInt8), plG n (l ++ [c]) = if c = 45 then plG n l ++ [((n + (bareL l).length : Nat) : Int)] else plG n l
  | [], n, c => by by_cases h : c = 45 <;> simp [plG, h, bareL]
  | x :: r, n, c => by
    have e : bareL (x :: r) = if x = 45 then bareL r else x :: bareL r := by unfold bareL; by_cases h : x = 45 <;> simp [h]
    by_cases hx : x = 45
    · simp only [List.cons_append, plG, if_pos hx, plG_snoc r n c, e]
      split <;> rfl
    · simp only [List.cons_append, plG, if_neg hx, plG_snoc r (n + 1) c, e]
      split
      · simp only [List.length_cons]; congr 3; omega
      · rfl
theorem placeL_hyph (l : List UInt8) : placeL (l ++ [45]) = placeL l ++ [((bareL l).length : Int)] := by
  unfold placeL; rw [plG_snoc, if_pos rfl]; simp
theorem placeL_other {l : List UInt8} {c : UInt8} (h : c ≠ 45) : placeL (l ++ [c]) = placeL l := by unfold placeL; rw [plG_snoc, if_neg h]
theorem bareL_hyph (l : List UInt8) : bareL (l ++ [45]) = bareL l := by rw [bareL_snoc, if_pos rfl]
theorem bareL_other {l : List UInt8} {c : UInt8} (h : c ≠ 45) : bareL (l ++ [c]) = bareL l ++ [c] := by rw [bareL_snoc, if_neg h]
theorem bareL_len (l : List UInt8) : (bareL l).length ≤ l.length := List.length_filter_le _ _
theorem plG_len : ∀ (l : List UInt8) (n : Nat), (plG n l).length ≤ l.length
  | [], _ => by simp [plG]
  | x :: r, n => by
    unfold plG
    split
    · have := plG_len r n; simp; omega
    · have := plG_len r (n + 1); simp; omega
theorem placeL_len (l : List UInt8) : (placeL l).length ≤ l.length := plG_len l 0
theorem bare_place : ∀ (l : List UInt8) (n : Nat), (bareL l).length + (plG n l).length = l.length
  | [], _ => rfl
  | x :: r, n => by
    have e : bareL (x :: r) = if x = 45 then bareL r else x :: bareL r := by unfold bareL; by_cases h : x = 45 <;> simp [h]
    unfold plG
    rw [e]
    split
    · have := bare_place r n; simp; omega
    · have := bare_place r (n + 1); simp; omega
theorem at_list (s : ByteArray) (k : Nat) (h : k < s.size) : s.data.toList.getD k 0 = s[k] := by
  rw [List.getD_eq_getElem?_getD, List.getElem?_eq_getElem (by rw [len_list]; exact h)]; simp; rfl
/-- The hyphen at i stands between letters, and none is before it. -/
def HyAt (l : List UInt8) (i : Nat) : Prop := l.getD i 0 = 45 → 0 < i ∧ i + 1 < l.length ∧ l.getD (i - 1) 0 ≠ 45
def HyOk (l : List UInt8) : Prop := ∀ i, i < l.length → HyAt l i
instance (l : List UInt8) (i : Nat) : Decidable (HyAt l i) := by unfold HyAt; infer_instance
instance (l : List UInt8) : Decidable (HyOk l) := by unfold HyOk; infer_instance
def bareB (s : ByteArray) : ByteArray := ⟨(bareL s.data.toList).toArray⟩
theorem bareB_size (s : ByteArray) : (bareB s).size ≤ s.size := by
  have := bareL_len s.data.toList
  rw [len_list] at this
  show (bareL s.data.toList).toArray.size ≤ _
  simpa using this
/-- A text is an exception; it without its hyphens; the places of these. -/
def exB (s : ByteArray) : Bool := decide (HyOk s.data.toList) && (isWordF (bareB s) && decide (1 < ((bareB s).size : Int)))
def exW (s : ByteArray) : ByteArray := if HyOk s.data.toList then bareB s else ⟨#[]⟩
def exP (s : ByteArray) : List Int := if HyOk s.data.toList then placeL s.data.toList else []
theorem ex_no {s : ByteArray} (h : ¬ HyOk s.data.toList) : exB s = false ∧ exW s = ⟨#[]⟩ ∧ exP s = [] := by
  unfold exB exW exP
  rw [decide_eq_false h, if_neg h, if_neg h]
  exact ⟨rfl, rfl, rfl⟩
theorem ex_yes {s : ByteArray} (h : HyOk s.data.toList) : exB s = (isWordF (bareB s) && decide (1 < ((bareB s).size : Int))) ∧ exW s = bareB s ∧ exP s = placeL s.data.toList := by
  unfold exB exW exP
  rw [decide_eq_true h, if_pos h, if_pos h]
  exact ⟨rfl, rfl, rfl⟩
theorem ex_bad {s : ByteArray} {k : Nat} (hk : k < s.size) (h : ¬ HyAt s.data.toList k) : exB s = false ∧ exW s = ⟨#[]⟩ ∧ exP s = [] := ex_no fun h2 => h (h2 k (by rw [len_list]; exact hk))
theorem ex_word {s : ByteArray} (h : exB s = true) : HyOk s.data.toList ∧ isWordF (bareB s) = true ∧ 1 < (bareB s).size ∧ exW s = bareB s ∧ exP s = placeL s.data.toList := by
  unfold exB at h
  simp only [Bool.and_eq_true, decide_eq_true_eq] at h
  obtain ⟨h1, h2, h3⟩ := h
  obtain ⟨_, e2, e3⟩ := ex_yes h1
  exact ⟨h1, h2, by omega, e2, e3⟩
theorem bare_some {l : List UInt8} {k : Nat} (hk : 0 < k) (hl : k ≤ l.length) (h : HyAt l 0) : bareL (l.take k) ≠ [] := by
  cases l with
  | nil => simp at hl; omega
  | cons x r =>
    obtain ⟨k, rfl⟩ : ∃ j, k = j + 1 := ⟨k - 1, by omega⟩
    have hx : x ≠ 45 := fun e => by have := h (by simpa using e); omega
    simp [bareL, hx]
/-- What spec.hyBare answers. -/
def HyBareTo (s : ByteArray) (w w' : World) (e : Ending) : Prop :=
  ∃ v, e = .returned (.tuple #[.string (exW s), v, .bool (exB s)]) ∧ Below w.heap.size w w' ∧ w'.ownsRow w.heap.size 3 1 v (exP s).length (intsZ (exP s))
theorem HyBareTo.no {s : ByteArray} {w w' : World} (h : exB s = false ∧ exW s = ⟨#[]⟩ ∧ exP s = []) (hb : Below w.heap.size w w') : HyBareTo s w w' (.returned (.tuple #[.string ⟨#[]⟩, .slice none 0 0, .bool false])) := by
  obtain ⟨h1, h2, h3⟩ := h
  refine ⟨.slice none 0 0, by rw [h1, h2], hb, ?_⟩
  rw [h3]; exact own_nil _ _ _ _
theorem HyBareTo.yes {s wd : ByteArray} {w w' : World} {v : Value} {b : Bool} {n : Nat} {P : List Int} (h : exB s = b ∧ exW s = wd ∧ exP s = P) (hb : Below w.heap.size w w') (hn : n = P.length) (ho : w'.ownsRow w.heap.size 3 1 v n (intsZ P)) : HyBareTo s w w' (.returned (.tuple #[.string wd, v, .bool b])) := by
  obtain ⟨h1, h2, h3⟩ := h
  refine ⟨v, by rw [h1, h2], hb, ?_⟩
  rw [h3, ← hn]; exact ho
set_option maxRecDepth 100000 in
set_option maxHeartbeats 2000000 in
theorem hyBare_any (s : ByteArray) (w : World) (hs : s.size ≤ 1048576) :
    Calls Tryd.prog 76 #[.string s] w fun e w' => HyBareTo s w w' e := by
  obtain ⟨i0, hi, hz0, hz1, hz2⟩ := info_parts info3
  have HI0 := Lib.hid hi; have HZ0 := Lib.hid hz0; have HZ1 := Lib.hid hz1; have HZ2 := Lib.hid hz2
  clear hi hz0 hz1 hz2
  go_enter Tryd.func76, Tryd.ntmps76
  go_wp2
  go_loopw [5, 6, 7] (fun t5 t6 t7 wr => ∃ (k : Nat) (wd : ByteArray) (A : Option Addr) (n c : Nat), k ≤ s.size ∧ t7 = .int .i64 k ∧ t5 = .string wd ∧ t6 = .slice A n c ∧ Hid (wd = ⟨(bareL (s.data.toList.take k)).toArray⟩) ∧ Hid (∀ i, i < k → HyAt s.data.toList i) ∧ Hid (n = (placeL (s.data.toList.take k)).length) ∧ Hid (wr.ownsRow w.heap.size 3 1 (.slice A n c) n (intsZ (placeL (s.data.toList.take k)))) ∧ Hid (Below w.heap.size w wr)) (fun _ _ i _ => s.size - (intOf i).toNat)
  case atStart => exact ⟨0, ⟨#[]⟩, none, 0, 0, Nat.zero_le _, rfl, rfl, rfl, Lib.hid rfl, Lib.hid (fun i h => by omega), Lib.hid rfl, Lib.hid (own_nil _ _ _ _), Lib.hid (Below.refl _ _)⟩
  case round =>
    obtain ⟨k, wd, A, n, c, hk, rfl, rfl, rfl, HW, HA, HN, HO, HB⟩ := hrel
    have hwz : wd.size ≤ k := by
      rw [HW.out]
      have := bareL_len (s.data.toList.take k)
      rw [List.length_take, len_list] at this
      show (bareL _).toArray.size ≤ k
      simp only [List.size_toArray]; omega
    have hnk : n ≤ k := by
      rw [HN.out]
      have := placeL_len (s.data.toList.take k)
      rw [List.length_take, len_list] at this
      omega
    by_cases hlt : k < s.size
    · have hBS := HB.out.size
      by_cases h45 : s[k] = 45
      · have hc : (s[k].toNat : Int) = 45 := by rw [h45]; rfl
        have hcn : ((s[k].toNat : Int) != 45) = false := by rw [hc]; rfl
        have HG : Hid (s.data.toList.getD k 0 = 45) := Lib.hid (by rw [at_list s k hlt]; exact h45)
        have HSZ : Hid (s.data.toList.length = s.size) := Lib.hid (len_list s)
        rcases Nat.eq_zero_or_pos k with hk0 | hk0
        · subst hk0
          have hw0 : wd = ⟨#[]⟩ := HW.out
          have HW0 := Lib.hid hw0
          subst hw0
          have HN := Lib.hid (ex_bad hlt (fun h => by have := h HG.out; omega))
          go_wp2
          go_ret3
          exact HyBareTo.no HN.out HB.out
        · have hnil : ¬ wd.toList = [] := fun e => by
            have h1 := bare_some hk0 (by rw [HSZ.out]; exact hk) (HA.out 0 hk0)
            have h2 := HW.out
            rw [h2, ByteArray.toList_eq] at e
            apply h1
            simpa using e
          have hne : wd.toList.isEmpty = false := by
            cases hq : wd.toList with
            | nil => exact absurd hq hnil
            | cons x r => rfl
          obtain ⟨j, rfl⟩ : ∃ j, k = j + 1 := ⟨k - 1, by omega⟩
          by_cases hend : j + 1 + 1 = s.size
          · have he1 : ((((j + 1 : Nat) : Int)) == (s.size : Int) - 1) = true := by rw [beq_iff_eq]; omega
            have HN := Lib.hid (ex_bad hlt (fun h => by have := (h HG.out).2.1; have := HSZ.out; omega))
            go_wp2
            go_ret3
            exact HyBareTo.no HN.out HB.out
          · have he1 : ((((j + 1 : Nat) : Int)) == (s.size : Int) - 1) = false := by rw [beq_eq_false_iff_ne]; omega
            have hj : j < s.size := by omega
            have hix : (((j + 1 : Nat) : Int)) - 1 = (j : Int) := by omega
            by_cases hp : s[j] = 45
            · have hpc : (s[j].toNat : Int) = 45 := by rw [hp]; rfl
              have HGP : Hid (s.data.toList.getD j 0 = 45) := Lib.hid (by rw [at_list s j hj]; exact hp)
              have HN := Lib.hid (ex_bad hlt (fun h => (h HG.out).2.2 HGP.out))
              go_wp2
              go_ret3
              exact HyBareTo.no HN.out HB.out
            · have hpc : ((s[j].toNat : Int) == 45) = false := by
                rw [beq_eq_false_iff_ne]
                intro e
                apply hp
                apply UInt8.toNat_inj.1
                show s[j].toNat = 45
                omega
              have HGP : Hid (s.data.toList.getD j 0 ≠ 45) := Lib.hid (by rw [at_list s j hj]; exact hp)
              have HAT : Hid (∀ i, i < j + 1 + 1 → HyAt s.data.toList i) := Lib.hid (fun i hi => by
                by_cases e : i = j + 1
                · subst e; exact fun _ => ⟨by omega, by rw [HSZ.out]; omega, HGP.out⟩
                · exact HA.out i (by omega))
              have HT : Hid (s.data.toList.take (j + 1 + 1) = s.data.toList.take (j + 1) ++ [45]) := Lib.hid (by rw [take_snoc s (j + 1) hlt, h45])
              have HWD : Hid ((wd.size : Int) = ((bareL (s.data.toList.take (j + 1))).length : Int)) := Lib.hid (by rw [HW.out]; show (((bareL (s.data.toList.take (j + 1))).toArray.size : Nat) : Int) = _; simp)
              have HPL : Hid (intsZ (placeL (s.data.toList.take (j + 1 + 1))) = intsZ (placeL (s.data.toList.take (j + 1))) ++ [.int .i64 (wd.size : Int)]) := Lib.hid (by rw [HT.out, placeL_hyph, intsZ_snoc, HWD.out])
              have hmx : n + 1 ≤ maxLen := by unfold maxLen; omega
              clear h45 hp
              go_wp2_with (at_builtin; refine wpList_append_own _ rfl _ _ 28 rfl w.heap.size 3 i0 (.int .i64 0) 1 8 Tryd.underlying28 HI0.out HZ0.out HZ1.out HZ2.out rfl (by decide) _ _ _ rfl (HO.out.alloc _) ⟨wr.heap.size, 0, none⟩ 1 1 [.int .i64 (wd.size : Int)] rfl rfl (cell_one_new _ _ _) (by simp [Value.oneCell']) hmx (by omega) (by simp; omega) ?_)
              intro v' w4 hown' hgrow _
              have hb4 : Below w.heap.size w w4 := below_append HB.out hgrow HB.out.size (own_lt HO.out)
              rw [← HPL.out] at hown'
              obtain ⟨A4, c4, hv4⟩ : ∃ A c, v' = .slice A (n + 1) c := by
                rcases hown'.2 with ⟨_, h0⟩ | ⟨g', cap', cur, hv, _⟩
                · omega
                · exact ⟨_, _, hv⟩
              subst hv4
              have HO4 := Lib.hid hown'; have HB4 := Lib.hid hb4
              clear hown' hgrow hb4
              go_wp2
              go_roundw
              case rel => exact ⟨j + 1 + 1, wd, A4, n + 1, c4, by omega, by go_num, rfl, rfl, Lib.hid (by rw [HT.out, bareL_hyph]; exact HW.out), HAT, Lib.hid (by rw [HT.out, placeL_hyph, List.length_append, ← HN.out]; rfl), HO4, HB4⟩
              case measure => simp [intOf]; omega
      · have hcn : ((s[k].toNat : Int) != 45) = true := by
          rw [bne_iff_ne]
          intro e
          apply h45
          apply UInt8.toNat_inj.1
          show s[k].toNat = 45
          omega
        have HT : Hid (s.data.toList.take (k + 1) = s.data.toList.take k ++ [s[k]]) := Lib.hid (take_snoc s k hlt)
        have HWN : Hid (wd ++ s.extract k (k + 1) = ⟨(bareL (s.data.toList.take (k + 1))).toArray⟩) := Lib.hid (by rw [HT.out, bareL_other h45, ← one_cut s k hlt, HW.out])
        have HPN : Hid (placeL (s.data.toList.take (k + 1)) = placeL (s.data.toList.take k)) := Lib.hid (by rw [HT.out, placeL_other h45])
        have HAT : Hid (∀ i, i < k + 1 → HyAt s.data.toList i) := Lib.hid (fun i hi => by
          by_cases e : i = k
          · subst e; exact fun h => absurd (by rw [at_list s i hlt] at h; exact h) h45
          · exact HA.out i (by omega))
        clear h45
        go_wp2
        go_roundw
        case rel => exact ⟨k + 1, _, A, n, c, by omega, by go_num, rfl, rfl, HWN, HAT, Lib.hid (by rw [HPN.out]; exact HN.out), Lib.hid (by rw [HPN.out]; exact HO.out), HB⟩
        case measure => simp [intOf]; omega
    · obtain rfl : k = s.size := by omega
      have hT : s.data.toList.take s.size = s.data.toList := List.take_of_length_le (by rw [len_list]; exact Nat.le_refl _)
      have HY := Lib.hid (ex_yes (s := s) (fun i hi => HA.out i (by rw [len_list] at hi; exact hi)))
      rw [hT] at HW HN HO
      have HWB : Hid (wd = bareB s) := Lib.hid HW.out
      have hwm : wd.size ≤ maxLen := by unfold maxLen; omega
      have hBS := HB.out.size
      clear hT
      cases hw : isWordF wd
      · have HF : Hid (exB s = false ∧ exW s = wd ∧ exP s = placeL s.data.toList) := Lib.hid (by rw [HWB.out] at hw; exact ⟨by rw [HY.out.1, hw]; rfl, by rw [HY.out.2.1, HWB.out], HY.out.2.2⟩)
        have HWF := Lib.hid hw
        clear hw
        go_wp2_with fail
        refine (tyWord_is wd false _ hwm HWF).mono ?_
        rintro e w1 ⟨rfl, rfl⟩
        go_wp2
        go_ret3
        exact HyBareTo.yes HF.out HB.out HN.out HO.out
      · have HF : Hid (exB s = decide (1 < (wd.size : Int)) ∧ exW s = wd ∧ exP s = placeL s.data.toList) := Lib.hid (by rw [HWB.out] at hw ⊢; exact ⟨by rw [HY.out.1, hw]; rfl, by rw [HY.out.2.1], HY.out.2.2⟩)
        have HWF := Lib.hid hw
        clear hw
        go_wp2_with fail
        refine (tyWord_is wd true _ hwm HWF).mono ?_
        rintro e w1 ⟨rfl, rfl⟩
        go_wp2
        go_ret3
        exact HyBareTo.yes HF.out HB.out HN.out HO.out
end Go.Proofs.YtcbhhbcfnaekpaaDoor
