/-
  The contract of spec.NearestFree: the nearest free place of a case.
-/
import Derived.Test.YtllafkeheppkjaaSz
import Derived.OwnWalk
namespace Go.Proofs.Ytllafkeheppkjaa
open Go.RowKit
set_option linter.unusedVariables false

def dst (row col : Int) (r c : Nat) : Int := absI ((r : Int) - row) + absI ((c : Int) - col)
def nfUpd (l : List Bx) (row col : Int) (st : Option (Nat × Nat)) (r c : Nat) : Option (Nat × Nat) :=
  if hasP l r c = true then st else match st with
    | none => some (r, c)
    | some (x, y) => if dst row col r c < dst row col x y then some (r, c) else some (x, y)
def nfC (l : List Bx) (row col : Int) (st : Option (Nat × Nat)) (r : Nat) : Nat → Option (Nat × Nat)
  | 0 => st
  | c + 1 => nfUpd l row col (nfC l row col st r c) r c
def nfR (l : List Bx) (row col : Int) : Nat → Option (Nat × Nat)
  | 0 => none
  | r + 1 => nfC l row col (nfR l row col r) r 10
theorem nfUpd_used {l : List Bx} {row col : Int} {st : Option (Nat × Nat)} {r c : Nat} (h : hasP l r c = true) : nfUpd l row col st r c = st := by unfold nfUpd; rw [if_pos h]
theorem nfUpd_none {l : List Bx} {row col : Int} {r c : Nat} (h : hasP l r c = false) : nfUpd l row col none r c = some (r, c) := by unfold nfUpd; rw [h]; rfl
theorem nfUpd_lt {l : List Bx} {row col : Int} {r c x y : Nat} (h : hasP l r c = false) (hd : dst row col r c < dst row col x y) : nfUpd l row col (some (x, y)) r c = some (r, c) := by
  unfold nfUpd; rw [h, if_neg (by decide)]; show (if _ then _ else _) = _; rw [if_pos hd]
theorem nfUpd_ge {l : List Bx} {row col : Int} {r c x y : Nat} (h : hasP l r c = false) (hd : ¬ dst row col r c < dst row col x y) : nfUpd l row col (some (x, y)) r c = some (x, y) := by
  unfold nfUpd; rw [h, if_neg (by decide)]; show (if _ then _ else _) = _; rw [if_neg hd]
theorem nfUpd_some {l : List Bx} {row col : Int} {st : Option (Nat × Nat)} {r c : Nat} (h : st.isSome = true ∨ hasP l r c = false) : (nfUpd l row col st r c).isSome = true := by
  unfold nfUpd
  cases hh : hasP l r c
  · rw [if_neg (by decide)]
    cases st with
    | none => rfl
    | some p => show (if _ then _ else _ : Option _).isSome = true; split <;> rfl
  · rw [if_pos rfl]
    rcases h with h | h
    · exact h
    · rw [hh] at h; cases h
theorem nfC_some {l : List Bx} {row col : Int} {st : Option (Nat × Nat)} {r : Nat} : ∀ n : Nat, (st.isSome = true ∨ ∃ c : Nat, c < n ∧ hasP l r c = false) → (nfC l row col st r n).isSome = true
  | 0, h => by
    rcases h with h | ⟨c, hc, _⟩
    · exact h
    · omega
  | n + 1, h => by
    apply nfUpd_some
    by_cases hn : hasP l r n = false
    · exact .inr hn
    · left
      apply nfC_some n
      rcases h with h | ⟨c, hc, h⟩
      · exact .inl h
      · refine .inr ⟨c, ?_, h⟩
        rcases Nat.lt_or_ge c n with h1 | h1
        · exact h1
        · obtain rfl : c = n := by omega
          exact absurd h hn
theorem nfR_some {l : List Bx} {row col : Int} : ∀ n : Nat, (∃ r c : Nat, r < n ∧ c < 10 ∧ hasP l r c = false) → (nfR l row col n).isSome = true
  | 0, h => by obtain ⟨r, c, h, _⟩ := h; omega
  | n + 1, h => by
    apply nfC_some
    obtain ⟨r, c, hr, hc, h⟩ := h
    rcases Nat.lt_or_ge r n with h1 | h1
    · exact .inl (nfR_some n ⟨r, c, h1, hc, h⟩)
    · obtain rfl : r = n := by omega
      exact .inr ⟨c, hc, h⟩
theorem cover_len : ∀ (n : Nat) (l : List Bx), (∀ k, k < n → ∃ x, x ∈ l ∧ x.row * 10 + x.col = (k : Int)) → n ≤ l.length
  | 0, _, _ => Nat.zero_le _
  | n + 1, l, h => by
    obtain ⟨x, hx, hk⟩ := h n (by omega)
    have ih := cover_len n (l.filter fun y => decide (y.row * 10 + y.col ≠ (n : Int))) fun k hk => by
      obtain ⟨y, hy, e⟩ := h k (by omega)
      exact ⟨y, List.mem_filter.2 ⟨hy, decide_eq_true (by omega)⟩, e⟩
    have hl : (l.filter fun y => decide (y.row * 10 + y.col ≠ (n : Int))).length < l.length := by
      rw [List.length_filter_lt_length_iff_exists]
      exact ⟨x, hx, by simp [hk]⟩
    omega
theorem free_is {l : List Bx} (h : l.length ≤ 32) : ∃ r c : Nat, r < 10 ∧ c < 10 ∧ hasP l r c = false := by
  by_cases hx : ∃ r c : Nat, r < 10 ∧ c < 10 ∧ hasP l r c = false
  · exact hx
  · exfalso
    have hall : ∀ r c : Nat, r < 10 → c < 10 → hasP l r c = true := fun r c hr hc => by
      cases hh : hasP l r c
      · exact absurd ⟨r, c, hr, hc, hh⟩ hx
      · rfl
    have := cover_len 100 l fun k hk => by
      have h1 := hall (k / 10) (k % 10) (by omega) (by omega)
      unfold hasP at h1
      rw [List.any_eq_true] at h1
      obtain ⟨x, hx, e⟩ := h1
      simp only [Bool.and_eq_true, decide_eq_true_eq] at e
      exact ⟨x, hx, by omega⟩
    omega
/-- The answer of NearestFree. -/
noncomputable def nfA (l : List Bx) (row col : Int) : Option (Nat × Nat) := if caseB l = true ∧ inCase row col = true then nfR l row col 10 else none
theorem nfA_no1 {l : List Bx} {row col : Int} (h : caseB l = false) : nfA l row col = none := by unfold nfA; rw [h]; simp
theorem nfA_no2 {l : List Bx} {row col : Int} (h : inCase row col = false) : nfA l row col = none := by unfold nfA; rw [h]; simp
theorem nfA_yes {l : List Bx} {row col : Int} (h1 : caseB l = true) (h2 : inCase row col = true) : nfA l row col = nfR l row col 10 ∧ ∃ p, nfR l row col 10 = some p := by
  refine ⟨by unfold nfA; rw [if_pos ⟨h1, h2⟩], ?_⟩
  exact Option.isSome_iff_exists.1 (nfR_some 10 (free_is (caseB_iff.1 h1).2.2))
def nfX (st : Option (Nat × Nat)) : Int := match st with | none => -1 | some p => p.1
def nfY (st : Option (Nat × Nat)) : Int := match st with | none => -1 | some p => p.2
def nfB (row col : Int) (st : Option (Nat × Nat)) : Int := match st with | none => 0 | some p => dst row col p.1 p.2
/-- Both are in a case. -/
def nfIn (st : Option (Nat × Nat)) : Prop := ∀ p, st = some p → p.1 < 10 ∧ p.2 < 10
theorem nfUpd_in {l : List Bx} {row col : Int} {st : Option (Nat × Nat)} {r c : Nat} (h : nfIn st) (hr : r < 10) (hc : c < 10) : nfIn (nfUpd l row col st r c) := by
  unfold nfUpd
  split
  · exact h
  · cases st with
    | none => intro p e; obtain rfl := Option.some.inj e; exact ⟨hr, hc⟩
    | some q =>
      obtain ⟨x, y⟩ := q
      show nfIn (if _ then _ else _)
      split
      · intro p e; obtain rfl := Option.some.inj e; exact ⟨hr, hc⟩
      · exact h
theorem dst_range {row col : Int} (h : inCase row col = true) {r c : Nat} (hr : r < 10) (hc : c < 10) : 0 ≤ dst row col r c ∧ dst row col r c ≤ 18 := by
  obtain ⟨h1, h2⟩ := inCase_iff.1 h
  have a1 := absI_range (a := (r : Int)) (b := row) (by omega) h1
  have a2 := absI_range (a := (c : Int)) (b := col) (by omega) h2
  unfold dst; omega

set_option maxRecDepth 100000 in
set_option maxHeartbeats 4000000 in
theorem specNearest_yes (l : List Bx) (A : Option Addr) (cap : Nat) (row col : Int) (w : World) (hf : BxsIn w A l) (hn : l.length ≤ 1048576) (ho : BxsOk l) (hcap : l.length ≤ cap) (hv : caseB l = true) (hi : inCase row col = true) :
    Calls Try.prog 37 #[.slice A l.length cap, .int .i64 row, .int .i64 col] w fun e w' => e = .returned (.tuple #[.int .i64 (nfX (nfR l row col 10)), .int .i64 (nfY (nfR l row col 10)), .bool true]) ∧ Below w.heap.size w w' := by
  have HF := Lib.hid hf; clear hf
  have HO := Lib.hid ho; clear ho
  have HV := Lib.hid hv; have HI := Lib.hid hi
  obtain ⟨⟨i1, i2⟩, i3, i4⟩ := inCase_iff.1 hi
  have HR : Hid (inR row 0 9 = true) := Lib.hid (inR_iff.2 ⟨i1, i2⟩)
  have HCC : Hid (inR col 0 9 = true) := Lib.hid (inR_iff.2 ⟨i3, i4⟩)
  clear hv hi
  go_enter Try.func37, Try.ntmps37
  go_wp2_with fail
  refine (caGood_is l _ A cap _ HF.out hn HO.out hcap HV).mono ?_
  rintro e w1 ⟨rfl, hb1⟩
  go_wp2_with fail
  refine (inR_is row 0 9 _ _ HR).mono ?_
  rintro e w2 ⟨rfl, rfl⟩
  go_wp2_with fail
  refine (inR_is col 0 9 _ _ HCC).mono ?_
  rintro e w2 ⟨rfl, rfl⟩
  have HB1 := Lib.hid hb1; clear hb1
  go_wp2
  go_loopw [9, 10, 11, 12] (fun x y z i wr => ∃ (r : Nat), r ≤ 10 ∧ i = .int .i64 r ∧ x = .int .i64 (nfX (nfR l row col r)) ∧ y = .int .i64 (nfY (nfR l row col r)) ∧ z = .int .i64 (nfB row col (nfR l row col r)) ∧ nfIn (nfR l row col r) ∧ Below w.heap.size w wr) (fun _ _ _ i _ => 10 - (intOf i).toNat)
  case atStart => exact ⟨0, by omega, rfl, rfl, rfl, rfl, (fun p e => by cases e), HB1.out⟩
  case round =>
    obtain ⟨r, hr, rfl, rfl, rfl, rfl, hin, hb⟩ := hrel
    have HIN := Lib.hid hin; clear hin
    by_cases hlt : r < 10
    · have HRN : Hid (nfR l row col (r + 1) = nfC l row col (nfR l row col r) r 10) := Lib.hid rfl
      have HB := Lib.hid hb; clear hb
      generalize nfR l row col r = S at *
      have hr10 : (r : Int) < 10 := by omega
      go_wp2
      go_loopw [9, 10, 11, 13] (fun x y z i wi => ∃ (c : Nat), c ≤ 10 ∧ i = .int .i64 c ∧ x = .int .i64 (nfX (nfC l row col S r c)) ∧ y = .int .i64 (nfY (nfC l row col S r c)) ∧ z = .int .i64 (nfB row col (nfC l row col S r c)) ∧ nfIn (nfC l row col S r c) ∧ Below w.heap.size w wi) (fun _ _ _ i _ => 10 - (intOf i).toNat)
      case atStart => exact ⟨0, by omega, rfl, rfl, rfl, rfl, HIN.out, HB.out⟩
      case round =>
        obtain ⟨c, hc, rfl, rfl, rfl, rfl, hin2, hb2⟩ := hrel
        have HIN2 := Lib.hid hin2; clear hin2
        have HBO := Lib.hid hb2; clear hb2
        by_cases hlt2 : c < 10
        · have HCN : Hid (nfC l row col S r (c + 1) = nfUpd l row col (nfC l row col S r c) r c) := Lib.hid rfl
          generalize nfC l row col S r c = T at *
          have hc10 : (c : Int) < 10 := by omega
          go_wp2
          go_loopw [14, 41] (fun u i wj => ∃ (m : Nat), m ≤ l.length ∧ i = .int .i64 m ∧ u = .bool (hasP (l.take m) r c) ∧ Below w.heap.size w wj) (fun _ i _ => l.length - (intOf i).toNat)
          case atStart => exact ⟨0, Nat.zero_le _, rfl, rfl, HBO.out⟩
          case round =>
            obtain ⟨m, hm, rfl, rfl, hb⟩ := hrel
            by_cases hlt3 : m < l.length
            · obtain ⟨b, off, rfl, hbl, hc⟩ := HF.out (by omega)
              obtain ⟨hc0, hc1, hc2, hc3⟩ := hc m hlt3
              clear hc
              rw [← hb.cell (p := ⟨b, off + m * 4, none⟩) hbl] at hc0
              rw [← hb.cell (p := ⟨b, off + m * 4 + 1, none⟩) hbl] at hc1
              rw [← hb.cell (p := ⟨b, off + m * 4 + 2, none⟩) hbl] at hc2
              rw [← hb.cell (p := ⟨b, off + m * 4 + 3, none⟩) hbl] at hc3
              have HSN : Hid (hasP (l.take (m + 1)) r c = (hasP (l.take m) r c || (decide (l[m].row = (r : Int)) && decide (l[m].col = (c : Int))))) := Lib.hid (by rw [List.take_succ_eq_append_getElem hlt3, hasP_snoc])
              have HBI := Lib.hid (hb.alloc hb.size (.cells #[.string l[m].cod, .int .i64 l[m].row, .int .i64 l[m].col, .int .i64 l[m].cnt] 26))
              clear hb
              cases hu : hasP (l.take m) r c
              · have HU := Lib.hid hu; clear hu
                by_cases e1 : l[m].row = (r : Int)
                · by_cases e2 : l[m].col = (c : Int)
                  · have q1 : (l[m].row == (r : Int)) = true := by simp [e1]
                    have q2 : (l[m].col == (c : Int)) = true := by simp [e2]
                    have HN : Hid (hasP (l.take (m + 1)) r c = true) := Lib.hid (by rw [HSN.out, HU.out, decide_eq_true e1, decide_eq_true e2]; rfl)
                    clear e1 e2
                    go_wp2
                    go_roundw
                    case rel => exact ⟨m + 1, by omega, by go_num, by rw [HN.out], HBI.out⟩
                    case measure => simp [intOf]; omega
                  · have q1 : (l[m].row == (r : Int)) = true := by simp [e1]
                    have q2 : (l[m].col == (c : Int)) = false := by simp [e2]
                    have HN : Hid (hasP (l.take (m + 1)) r c = false) := Lib.hid (by rw [HSN.out, HU.out, decide_eq_true e1, decide_eq_false e2]; rfl)
                    clear e1 e2
                    go_wp2
                    go_roundw
                    case rel => exact ⟨m + 1, by omega, by go_num, by rw [HN.out], HBI.out⟩
                    case measure => simp [intOf]; omega
                · have q1 : (l[m].row == (r : Int)) = false := by simp [e1]
                  have HN : Hid (hasP (l.take (m + 1)) r c = false) := Lib.hid (by rw [HSN.out, HU.out, decide_eq_false e1]; rfl)
                  clear e1
                  go_wp2
                  go_roundw
                  case rel => exact ⟨m + 1, by omega, by go_num, by rw [HN.out], HBI.out⟩
                  case measure => simp [intOf]; omega
              · have HU := Lib.hid hu; clear hu
                have HN : Hid (hasP (l.take (m + 1)) r c = true) := Lib.hid (by rw [HSN.out, HU.out]; rfl)
                go_wp2
                go_roundw
                case rel => exact ⟨m + 1, by omega, by go_num, by rw [HN.out], HBI.out⟩
                case measure => simp [intOf]; omega
            · obtain rfl : m = l.length := by omega
              rw [List.take_length]
              have HBW := Lib.hid hb; clear hb
              have d1 : -100 ≤ (r : Int) - row ∧ (r : Int) - row ≤ 100 := by omega
              have d2 : -100 ≤ (c : Int) - col ∧ (c : Int) - col ≤ 100 := by omega
              have hdr := dst_range HI.out hlt hlt2
              have HDS : Hid (absI ((r : Int) - row) + absI ((c : Int) - col) = dst row col r c) := Lib.hid rfl
              have a1 := absI_range (a := (r : Int)) (b := row) (by omega) ⟨i1, i2⟩
              have a2 := absI_range (a := (c : Int)) (b := col) (by omega) ⟨i3, i4⟩
              go_wp2_with fail
              refine (wayAbs_any ((r : Int) - row) _ d1.1 d1.2).mono ?_
              rintro e w3 ⟨rfl, rfl⟩
              go_wp2_with fail
              refine (wayAbs_any ((c : Int) - col) _ d2.1 d2.2).mono ?_
              rintro e w3 ⟨rfl, rfl⟩
              have HINU := Lib.hid (nfUpd_in (l := l) (row := row) (col := col) (c := c) HIN2.out hlt hlt2)
              cases hu : hasP l r c
              · cases T with
                | none =>
                  have HN : Hid (nfC l row col S r (c + 1) = some (r, c)) := Lib.hid (by rw [HCN.out, nfUpd_none hu])
                  have HINN : Hid (nfIn (some (r, c))) := Lib.hid (by rw [← HN.out, HCN.out]; exact HINU.out)
                  clear hu
                  have t1 : nfX none = -1 := rfl
                  go_wp2
                  go_roundw
                  case rel => exact ⟨c + 1, by omega, by go_num, by rw [HN.out]; rfl, by rw [HN.out]; rfl, by rw [HN.out]; exact congrArg (Value.int .i64) HDS.out, by rw [HN.out]; exact HINN.out, HBW.out⟩
                  case measure => simp [intOf]; omega
                | some p =>
                  obtain ⟨x, y⟩ := p
                  have hxy := HIN2.out (x, y) rfl
                  have t1 : nfX (some (x, y)) = (x : Int) := rfl
                  have t2 : nfB row col (some (x, y)) = dst row col x y := rfl
                  have hnx : ¬ (x : Int) < 0 := by omega
                  by_cases hd : dst row col r c < dst row col x y
                  · have HN : Hid (nfC l row col S r (c + 1) = some (r, c)) := Lib.hid (by rw [HCN.out, nfUpd_lt hu hd])
                    have HINN : Hid (nfIn (some (r, c))) := Lib.hid (by rw [← HN.out, HCN.out]; exact HINU.out)
                    have hd2 : absI ((r : Int) - row) + absI ((c : Int) - col) < dst row col x y := hd
                    clear hu hd
                    go_wp2
                    go_roundw
                    case rel => exact ⟨c + 1, by omega, by go_num, by rw [HN.out]; rfl, by rw [HN.out]; rfl, by rw [HN.out]; exact congrArg (Value.int .i64) HDS.out, by rw [HN.out]; exact HINN.out, HBW.out⟩
                    case measure => simp [intOf]; omega
                  · have HN : Hid (nfC l row col S r (c + 1) = some (x, y)) := Lib.hid (by rw [HCN.out, nfUpd_ge hu hd])
                    have hd2 : ¬ absI ((r : Int) - row) + absI ((c : Int) - col) < dst row col x y := hd
                    clear hu hd
                    go_wp2
                    go_roundw
                    case rel => exact ⟨c + 1, by omega, by go_num, by rw [HN.out] <;> rfl, by rw [HN.out] <;> rfl, by rw [HN.out] <;> rfl, by rw [HN.out]; exact HIN2.out, HBW.out⟩
                    case measure => simp [intOf]; omega
              · have HN : Hid (nfC l row col S r (c + 1) = T) := Lib.hid (by rw [HCN.out, nfUpd_used hu])
                clear hu
                go_wp2
                go_roundw
                case rel => exact ⟨c + 1, by omega, by go_num, by rw [HN.out], by rw [HN.out], by rw [HN.out], by rw [HN.out]; exact HIN2.out, HBW.out⟩
                case measure => simp [intOf]; omega
        · obtain rfl : c = 10 := by omega
          go_wp2
          go_roundw
          case rel => exact ⟨r + 1, by omega, by go_num, by rw [HRN.out], by rw [HRN.out], by rw [HRN.out], by rw [HRN.out]; exact HIN2.out, HBO.out⟩
          case measure => simp [intOf]; omega
    · obtain rfl : r = 10 := by omega
      go_wp2
      go_ret3
      exact ⟨rfl, hb⟩

theorem specNearestFree_any (l : List Bx) (A : Option Addr) (cap : Nat) (row col : Int) (w : World) (hf : BxsIn w A l) (hn : l.length ≤ 1048576) (ho : BxsOk l) (hcap : l.length ≤ cap) :
    Calls Try.prog 37 #[.slice A l.length cap, .int .i64 row, .int .i64 col] w fun e w' => e = .returned (.tuple #[.int .i64 (((nfA l row col).getD (0, 0)).1 : Nat), .int .i64 (((nfA l row col).getD (0, 0)).2 : Nat), .bool (nfA l row col).isSome]) ∧ Below w.heap.size w w' := by
  cases hv : caseB l
  · have HE : Hid (nfA l row col = none) := Lib.hid (nfA_no1 hv)
    have HF := Lib.hid hf; clear hf
    have HO := Lib.hid ho; clear ho
    have HV := Lib.hid hv; clear hv
    go_enter Try.func37, Try.ntmps37
    go_wp2_with fail
    refine (caGood_is l _ A cap _ HF.out hn HO.out hcap HV).mono ?_
    rintro e w1 ⟨rfl, hb1⟩
    go_wp2
    go_ret3
    exact ⟨by rw [HE.out]; rfl, hb1⟩
  · cases hi : inCase row col
    · have HE : Hid (nfA l row col = none) := Lib.hid (nfA_no2 hi)
      have HF := Lib.hid hf; clear hf
      have HO := Lib.hid ho; clear ho
      have HV := Lib.hid hv; clear hv
      cases hr : inR row 0 9
      · have HR := Lib.hid hr; clear hr hi
        go_enter Try.func37, Try.ntmps37
        go_wp2_with fail
        refine (caGood_is l _ A cap _ HF.out hn HO.out hcap HV).mono ?_
        rintro e w1 ⟨rfl, hb1⟩
        go_wp2_with fail
        refine (inR_is row 0 9 _ _ HR).mono ?_
        rintro e w2 ⟨rfl, rfl⟩
        go_wp2
        go_ret3
        exact ⟨by rw [HE.out]; rfl, hb1⟩
      · have hc : inR col 0 9 = false := by unfold inCase at hi; rw [hr] at hi; simpa using hi
        have HR := Lib.hid hr; have HC := Lib.hid hc; clear hr hi hc
        go_enter Try.func37, Try.ntmps37
        go_wp2_with fail
        refine (caGood_is l _ A cap _ HF.out hn HO.out hcap HV).mono ?_
        rintro e w1 ⟨rfl, hb1⟩
        go_wp2_with fail
        refine (inR_is row 0 9 _ _ HR).mono ?_
        rintro e w2 ⟨rfl, rfl⟩
        go_wp2_with fail
        refine (inR_is col 0 9 _ _ HC).mono ?_
        rintro e w2 ⟨rfl, rfl⟩
        go_wp2
        go_ret3
        exact ⟨by rw [HE.out]; rfl, hb1⟩
    · obtain ⟨e1, p, e2⟩ := nfA_yes hv hi
      refine (specNearest_yes l A cap row col w hf hn ho hcap hv hi).mono ?_
      rintro e w1 ⟨rfl, hb1⟩
      refine ⟨?_, hb1⟩
      rw [e1, e2]; rfl
end Go.Proofs.Ytllafkeheppkjaa
