import Derived.Test.YtllafkeheppkjaaDoorAm
import Derived.Test.YtllafkeheppkjaaDoorWm
import Derived.OwnWalk
import Derived.Laws.Rows
import Derived.Test.YtllafkeheppkjaaDoorTi
/-
  The contracts of spec.BestSwap and impl.BestSwap: the first exchange for which the way is least.
-/
namespace Go.Proofs.YtllafkeheppkjaaDoor
open Go.RowKit
set_option linter.unusedVariables false

/-- The way behind an exchange. -/
def swW (l : List Bx) (is : List Nat) (a b : Nat) : Int := wayI (swapL l a b) is
def bsUpd (l : List Bx) (is : List Nat) (st : Option (Nat × Nat)) (a b : Nat) : Option (Nat × Nat) :=
  match st with
  | none => some (a, b)
  | some (x, y) => if swW l is a b < swW l is x y then some (a, b) else some (x, y)
/-- Behind the pairs (a, a + 1) .. (a, a + n). -/
def bsC (l : List Bx) (is : List Nat) (st : Option (Nat × Nat)) (a : Nat) : Nat → Option (Nat × Nat)
  | 0 => st
  | n + 1 => bsUpd l is (bsC l is st a n) a (a + 1 + n)
/-- Behind all pairs whose first is less than a. -/
def bsR (l : List Bx) (is : List Nat) (s0 : Option (Nat × Nat)) : Nat → Option (Nat × Nat)
  | 0 => s0
  | a + 1 => bsC l is (bsR l is s0 a) a (l.length - (a + 1))
def bsX (st : Option (Nat × Nat)) : Int := match st with | none => -1 | some p => p.1
def bsY (st : Option (Nat × Nat)) : Int := match st with | none => -1 | some p => p.2
def bsW (l : List Bx) (is : List Nat) (st : Option (Nat × Nat)) : Int := match st with | none => 0 | some p => swW l is p.1 p.2
theorem bsUpd_none (l : List Bx) (is : List Nat) (a b : Nat) : bsUpd l is none a b = some (a, b) := rfl
theorem bsUpd_lt {l : List Bx} {is : List Nat} {a b x y : Nat} (h : swW l is a b < swW l is x y) : bsUpd l is (some (x, y)) a b = some (a, b) := by
  show (if _ then _ else _) = _; rw [if_pos h]
theorem bsUpd_ge {l : List Bx} {is : List Nat} {a b x y : Nat} (h : ¬ swW l is a b < swW l is x y) : bsUpd l is (some (x, y)) a b = some (x, y) := by
  show (if _ then _ else _) = _; rw [if_neg h]
/-- Whether one starts with nothing or with the first pair: the same comes out behind the first row. -/
theorem bsC_first (l : List Bx) (is : List Nat) : ∀ n : Nat, bsC l is (some (0, 1)) 0 (n + 1) = bsC l is none 0 (n + 1)
  | 0 => by
    show bsUpd l is (some (0, 1)) 0 1 = bsUpd l is none 0 1
    rw [bsUpd_ge (by omega), bsUpd_none]
  | n + 1 => by
    show bsUpd l is (bsC l is (some (0, 1)) 0 (n + 1)) 0 _ = bsUpd l is (bsC l is none 0 (n + 1)) 0 _
    rw [bsC_first l is n]
theorem bsR_first {l : List Bx} (is : List Nat) (h : 2 ≤ l.length) : ∀ a : Nat, bsR l is (some (0, 1)) (a + 1) = bsR l is none (a + 1)
  | 0 => by
    show bsC l is (some (0, 1)) 0 (l.length - 1) = bsC l is none 0 (l.length - 1)
    rw [show l.length - 1 = (l.length - 2) + 1 from by omega, bsC_first]
  | a + 1 => by
    show bsC l is (bsR l is (some (0, 1)) (a + 1)) _ _ = bsC l is (bsR l is none (a + 1)) _ _
    rw [bsR_first is h a]
theorem bsUpd_isSome (l : List Bx) (is : List Nat) (st : Option (Nat × Nat)) (a b : Nat) : (bsUpd l is st a b).isSome = true := by
  cases st with
  | none => rfl
  | some p => obtain ⟨x, y⟩ := p; show (if _ then _ else _ : Option _).isSome = true; split <;> rfl
theorem bsC_isSome {l : List Bx} {is : List Nat} {st : Option (Nat × Nat)} {a : Nat} : ∀ n : Nat, (st.isSome = true ∨ 0 < n) → (bsC l is st a n).isSome = true
  | 0, h => by
    rcases h with h | h
    · exact h
    · exact absurd h (Nat.lt_irrefl 0)
  | n + 1, _ => bsUpd_isSome _ _ _ _ _
theorem bsR_isSome {l : List Bx} {is : List Nat} (h : 2 ≤ l.length) : ∀ a : Nat, (bsR l is none (a + 1)).isSome = true
  | 0 => bsC_isSome (l.length - (0 + 1)) (.inr (by omega))
  | a + 1 => bsC_isSome _ (.inl (bsR_isSome h a))
/-- The pair is one of two different boxes. -/
def bsIn (l : List Bx) (st : Option (Nat × Nat)) : Prop := ∀ p, st = some p → p.1 < l.length ∧ p.2 < l.length
theorem bsUpd_in {l : List Bx} {is : List Nat} {st : Option (Nat × Nat)} {a b : Nat} (h : bsIn l st) (ha : a < l.length) (hb : b < l.length) : bsIn l (bsUpd l is st a b) := by
  cases st with
  | none => intro p e; obtain rfl := Option.some.inj e; exact ⟨ha, hb⟩
  | some q =>
    obtain ⟨x, y⟩ := q
    show bsIn l (if _ then _ else _)
    split
    · intro p e; obtain rfl := Option.some.inj e; exact ⟨ha, hb⟩
    · exact h
/-- The answer of BestSwap. -/
noncomputable def bsA (l : List Bx) (cs : List ByteArray) : Option (Nat × Nat) := if askB2 l cs = true ∧ 2 ≤ l.length then bsR l (ixs l cs) none l.length else none
noncomputable def bsV (l : List Bx) (cs : List ByteArray) : Int := match bsA l cs with | none => 0 | some p => swW l (ixs l cs) p.1 p.2
theorem bsA_no {l : List Bx} {cs : List ByteArray} (h : askB2 l cs = false ∨ l.length < 2) : bsA l cs = none := by
  unfold bsA
  rw [if_neg]
  rintro ⟨h1, h2⟩
  rcases h with h | h
  · rw [h] at h1; cases h1
  · omega
theorem bsA_yes {l : List Bx} {cs : List ByteArray} (h : askB2 l cs = true) (h2 : 2 ≤ l.length) : bsA l cs = bsR l (ixs l cs) none l.length ∧ ∃ p, bsR l (ixs l cs) none l.length = some p := by
  refine ⟨by unfold bsA; rw [if_pos ⟨h, h2⟩], ?_⟩
  have := bsR_isSome (l := l) (is := ixs l cs) h2 (l.length - 1)
  rw [show l.length - 1 + 1 = l.length from by omega] at this
  exact Option.isSome_iff_exists.1 this
theorem ixs_swap {l : List Bx} {cs : List ByteArray} {a b : Nat} (ha : a < l.length) (hb : b < l.length) : ixs (swapL l a b) cs = ixs l cs := by
  unfold ixs kI
  simp only [swapL_caI ha hb]
theorem allIn_swap {l : List Bx} {cs : List ByteArray} {a b : Nat} (ha : a < l.length) (hb : b < l.length) (h : AllIn l cs) : AllIn (swapL l a b) cs := fun k hk => by rw [swapL_caI ha hb]; exact h k hk
theorem wayI_range {l : List Bx} {cs : List ByteArray} (hp : Places l) (ha : AllIn l cs) (h60 : cs.length ≤ 60) : 0 ≤ wayI l (ixs l cs) ∧ wayI l (ixs l cs) ≤ 1080 := by
  have h := runW_range _ (ten_of hp ha) cs.length (by simp [ixs])
  rw [List.take_of_length_le (by simp [ixs])] at h
  unfold wayI; omega

end Go.Proofs.YtllafkeheppkjaaDoor

/-
  The contract of impl.BestSwap.
-/
namespace Go.Proofs.YtllafkeheppkjaaDoor
open Go.RowKit
set_option linter.unusedVariables false

theorem bsF_in {l : List Bx} (h : 2 ≤ l.length) : bsIn l (some (0, 1)) := by
  intro p e; obtain rfl := Option.some.inj e; exact ⟨by show 0 < l.length; omega, by show 1 < l.length; omega⟩
end Go.Proofs.YtllafkeheppkjaaDoor

/-
  The contract of spec.NearestFree: the nearest free place of a case.
-/
namespace Go.Proofs.YtllafkeheppkjaaDoor
open Go.RowKit
set_option linter.unusedVariables false

def dst (row col : Int) (r c : Nat) : Int := absI ((r : Int) - row) + absI ((c : Int) - col)
def nfUpd (l : List Bx) (row col : Int) (st : Option (Nat × Nat)) (r c : Nat) : Option (Nat × Nat) :=
  if hasP l r c = true then st else match st with
    | none => some (r, c)
    | some (x, y) => if dst row col r c < dst row col x y then some (r, c) else some (x, y)
def nfC (l : List Bx) (row col : Int) (st : Option (Nat × Nat)) (r : Nat) : Nat → Option (Nat × Nat)
  | 0 => st
  | c + 1 => nfUpd l row col (nfC l row col st r c) r c
def nfR (l : List Bx) (row col : Int) : Nat → Option (Nat × Nat)
  | 0 => none
  | r + 1 => nfC l row col (nfR l row col r) r 10
theorem nfUpd_used {l : List Bx} {row col : Int} {st : Option (Nat × Nat)} {r c : Nat} (h : hasP l r c = true) : nfUpd l row col st r c = st := by unfold nfUpd; rw [if_pos h]
theorem nfUpd_none {l : List Bx} {row col : Int} {r c : Nat} (h : hasP l r c = false) : nfUpd l row col none r c = some (r, c) := by unfold nfUpd; rw [h]; rfl
theorem nfUpd_lt {l : List Bx} {row col : Int} {r c x y : Nat} (h : hasP l r c = false) (hd : dst row col r c < dst row col x y) : nfUpd l row col (some (x, y)) r c = some (r, c) := by
  unfold nfUpd; rw [h, if_neg (by decide)]; show (if _ then _ else _) = _; rw [if_pos hd]
theorem nfUpd_ge {l : List Bx} {row col : Int} {r c x y : Nat} (h : hasP l r c = false) (hd : ¬ dst row col r c < dst row col x y) : nfUpd l row col (some (x, y)) r c = some (x, y) := by
  unfold nfUpd; rw [h, if_neg (by decide)]; show (if _ then _ else _) = _; rw [if_neg hd]
theorem nfUpd_some {l : List Bx} {row col : Int} {st : Option (Nat × Nat)} {r c : Nat} (h : st.isSome = true ∨ hasP l r c = false) : (nfUpd l row col st r c).isSome = true := by
  unfold nfUpd
  cases hh : hasP l r c
  · rw [if_neg (by decide)]
    cases st with
    | none => rfl
    | some p => show (if _ then _ else _ : Option _).isSome = true; split <;> rfl
  · rw [if_pos rfl]
    rcases h with h | h
    · exact h
    · rw [hh] at h; cases h
theorem nfC_some {l : List Bx} {row col : Int} {st : Option (Nat × Nat)} {r : Nat} : ∀ n : Nat, (st.isSome = true ∨ ∃ c : Nat, c < n ∧ hasP l r c = false) → (nfC l row col st r n).isSome = true
  | 0, h => by
    rcases h with h | ⟨c, hc, _⟩
    · exact h
    · omega
  | n + 1, h => by
    apply nfUpd_some
    by_cases hn : hasP l r n = false
    · exact .inr hn
    · left
      apply nfC_some n
      rcases h with h | ⟨c, hc, h⟩
      · exact .inl h
      · refine .inr ⟨c, ?_, h⟩
        rcases Nat.lt_or_ge c n with h1 | h1
        · exact h1
        · obtain rfl : c = n := by omega
          exact absurd h hn
theorem nfR_some {l : List Bx} {row col : Int} : ∀ n : Nat, (∃ r c : Nat, r < n ∧ c < 10 ∧ hasP l r c = false) → (nfR l row col n).isSome = true
  | 0, h => by obtain ⟨r, c, h, _⟩ := h; omega
  | n + 1, h => by
    apply nfC_some
    obtain ⟨r, c, hr, hc, h⟩ := h
    rcases Nat.lt_or_ge r n with h1 | h1
    · exact .inl (nfR_some n ⟨r, c, h1, hc, h⟩)
    · obtain rfl : r = n := by omega
      exact .inr ⟨c, hc, h⟩
theorem cover_len : ∀ (n : Nat) (l : List Bx), (∀ k, k < n → ∃ x, x ∈ l ∧ x.row * 10 + x.col = (k : Int)) → n ≤ l.length
  | 0, _, _ => Nat.zero_le _
  | n + 1, l, h => by
    obtain ⟨x, hx, hk⟩ := h n (by omega)
    have ih := cover_len n (l.filter fun y => decide (y.row * 10 + y.col ≠ (n : Int))) fun k hk => by
      obtain ⟨y, hy, e⟩ := h k (by omega)
      exact ⟨y, List.mem_filter.2 ⟨hy, decide_eq_true (by omega)⟩, e⟩
    have hl : (l.filter fun y => decide (y.row * 10 + y.col ≠ (n : Int))).length < l.length := by
      rw [List.length_filter_lt_length_iff_exists]
      exact ⟨x, hx, by simp [hk]⟩
    omega
theorem free_is {l : List Bx} (h : l.length ≤ 32) : ∃ r c : Nat, r < 10 ∧ c < 10 ∧ hasP l r c = false := by
  by_cases hx : ∃ r c : Nat, r < 10 ∧ c < 10 ∧ hasP l r c = false
  · exact hx
  · exfalso
    have hall : ∀ r c : Nat, r < 10 → c < 10 → hasP l r c = true := fun r c hr hc => by
      cases hh : hasP l r c
      · exact absurd ⟨r, c, hr, hc, hh⟩ hx
      · rfl
    have := cover_len 100 l fun k hk => by
      have h1 := hall (k / 10) (k % 10) (by omega) (by omega)
      unfold hasP at h1
      rw [List.any_eq_true] at h1
      obtain ⟨x, hx, e⟩ := h1
      simp only [Bool.and_eq_true, decide_eq_true_eq] at e
      exact ⟨x, hx, by omega⟩
    omega
/-- The answer of NearestFree. -/
noncomputable def nfA (l : List Bx) (row col : Int) : Option (Nat × Nat) := if caseB l = true ∧ inCase row col = true then nfR l row col 10 else none
theorem nfA_no1 {l : List Bx} {row col : Int} (h : caseB l = false) : nfA l row col = none := by unfold nfA; rw [h]; simp
theorem nfA_no2 {l : List Bx} {row col : Int} (h : inCase row col = false) : nfA l row col = none := by unfold nfA; rw [h]; simp
theorem nfA_yes {l : List Bx} {row col : Int} (h1 : caseB l = true) (h2 : inCase row col = true) : nfA l row col = nfR l row col 10 ∧ ∃ p, nfR l row col 10 = some p := by
  refine ⟨by unfold nfA; rw [if_pos ⟨h1, h2⟩], ?_⟩
  exact Option.isSome_iff_exists.1 (nfR_some 10 (free_is (caseB_iff.1 h1).2.2))
def nfX (st : Option (Nat × Nat)) : Int := match st with | none => -1 | some p => p.1
def nfY (st : Option (Nat × Nat)) : Int := match st with | none => -1 | some p => p.2
def nfB (row col : Int) (st : Option (Nat × Nat)) : Int := match st with | none => 0 | some p => dst row col p.1 p.2
/-- Both are in a case. -/
def nfIn (st : Option (Nat × Nat)) : Prop := ∀ p, st = some p → p.1 < 10 ∧ p.2 < 10
theorem nfUpd_in {l : List Bx} {row col : Int} {st : Option (Nat × Nat)} {r c : Nat} (h : nfIn st) (hr : r < 10) (hc : c < 10) : nfIn (nfUpd l row col st r c) := by
  unfold nfUpd
  split
  · exact h
  · cases st with
    | none => intro p e; obtain rfl := Option.some.inj e; exact ⟨hr, hc⟩
    | some q =>
      obtain ⟨x, y⟩ := q
      show nfIn (if _ then _ else _)
      split
      · intro p e; obtain rfl := Option.some.inj e; exact ⟨hr, hc⟩
      · exact h
theorem dst_range {row col : Int} (h : inCase row col = true) {r c : Nat} (hr : r < 10) (hc : c < 10) : 0 ≤ dst row col r c ∧ dst row col r c ≤ 18 := by
  obtain ⟨h1, h2⟩ := inCase_iff.1 h
  have a1 := absI_range (a := (r : Int)) (b := row) (by omega) h1
  have a2 := absI_range (a := (c : Int)) (b := col) (by omega) h2
  unfold dst; omega

end Go.Proofs.YtllafkeheppkjaaDoor

/-
  The contract of impl.NearestFree.
-/
namespace Go.Proofs.YtllafkeheppkjaaDoor
open Go.RowKit
set_option linter.unusedVariables false

theorem u77 : Tryd.prog.underlying 70 = some (.array 10 68) := by kernel_rfl
theorem u75 : Tryd.prog.underlying 68 = some (.array 10 4) := by kernel_rfl
theorem info77 : (Tryd.prog.info? 70).map (·.size) = some 100 := by kernel_rfl
theorem info75 : (Tryd.prog.info? 68).map (·.size) = some 10 := by kernel_rfl
theorem load77 (W : World) (g : Nat) (cs : Array Value) (h : W.heap[g]? = some (.cells cs 70 (0, 0))) (hs : cs.size = 100) : (Instr.loadAt 70 (.pointer (some ⟨g, 0, none⟩))).run Tryd.prog W = .ok (.agg cs) W := by
  simp only [Instr.loadAt, Instr.sureAddr, Sem.run_bind, Sem.run_pure, Result.andThen_ok, run_loadVar_row W g _ _ cs _ _ h u77 rfl (by rw [info77, hs])]
/-- Row r of a table of places. -/
def rowB (l : List Bx) (r : Nat) : Array Value := #[.bool (hasP l r 0), .bool (hasP l r 1), .bool (hasP l r 2), .bool (hasP l r 3), .bool (hasP l r 4), .bool (hasP l r 5), .bool (hasP l r 6), .bool (hasP l r 7), .bool (hasP l r 8), .bool (hasP l r 9)]
theorem rowB_get (l : List Bx) (r c : Nat) (hc : c < 10) : (rowB l r)[c]? = some (.bool (hasP l r c)) := by
  rcases (by omega : c = 0 ∨ c = 1 ∨ c = 2 ∨ c = 3 ∨ c = 4 ∨ c = 5 ∨ c = 6 ∨ c = 7 ∨ c = 8 ∨ c = 9) with rfl | rfl | rfl | rfl | rfl | rfl | rfl | rfl | rfl | rfl <;> rfl
theorem rowB_of {l : List Bx} {cs : Array Value} (hs : cs.size = 100) (h : ∀ r c : Nat, r < 10 → c < 10 → cs[r * 10 + c]? = some (.bool (hasP l r c))) (r : Nat) (hr : r < 10) : cs.extract (r * 10) (r * 10 + 10) = rowB l r := by
  apply Array.ext_getElem?
  intro c
  by_cases hc : c < 10
  · rw [rowB_get l r c hc, Array.getElem?_extract, if_pos (by omega), h r c hr hc]
  · rw [Array.getElem?_eq_none (by simp; omega), Array.getElem?_eq_none (by simp [rowB]; omega)]
theorem isAgg75 (W : World) : (isAgg 68).run Tryd.prog W = .ok true W := by
  unfold isAgg
  rw [Sem.run_bind, run_underlying u75 W]
  rfl
theorem isAggB (W : World) : (isAgg 4).run Tryd.prog W = .ok false W := by
  unfold isAgg
  rw [Sem.run_bind, run_underlying Tryd.underlying4 W]
  rfl
theorem sizeOf75 (W : World) : (sizeOf 68).run Tryd.prog W = .ok 10 W := by
  cases hq : Tryd.prog.info? 68 with
  | none => have := info75; rw [hq] at this; cases this
  | some i =>
    have hs : i.size = 10 := by have := info75; rw [hq] at this; simpa using this
    simp [sizeOf, typeInfo, hq, hs]
theorem infoB : (Tryd.prog.info? 4).map (·.size) = some 1 := by kernel_rfl
theorem sizeOfB (W : World) : (sizeOf 4).run Tryd.prog W = .ok 1 W := by
  cases hq : Tryd.prog.info? 4 with
  | none => have := infoB; rw [hq] at this; cases this
  | some i =>
    have hs : i.size = 1 := by have := infoB; rw [hq] at this; simpa using this
    simp [sizeOf, typeInfo, hq, hs]
theorem index77 {l : List Bx} {cs : Array Value} (hs : cs.size = 100) (h : ∀ r c : Nat, r < 10 → c < 10 → cs[r * 10 + c]? = some (.bool (hasP l r c))) (r : Nat) (hr : r < 10) (W : World) :
    (Instr.index 70 (.agg cs) (.int .i64 (r : Int))).run Tryd.prog W = .ok (.agg (rowB l r)) W := by
  have h1 : (0 : Int) ≤ (r : Int) ∧ (r : Int) < ((10 : Nat) : Int) := by omega
  simp only [Instr.index, asIntOf, Sem.run_bind, Sem.run_pure, Result.andThen_ok, run_underlying u77 W, if_pos h1, sizeOf75, part, isAgg75, Int.toNat_natCast, if_true, rowB_of hs h r hr]
theorem index75 (l : List Bx) (r c : Nat) (hc : c < 10) (W : World) :
    (Instr.index 68 (.agg (rowB l r)) (.int .i64 (c : Int))).run Tryd.prog W = .ok (.bool (hasP l r c)) W := by
  have h1 : (0 : Int) ≤ (c : Int) ∧ (c : Int) < ((10 : Nat) : Int) := by omega
  simp only [Instr.index, asIntOf, Sem.run_bind, Sem.run_pure, Result.andThen_ok, run_underlying u75 W, if_pos h1, sizeOfB, part, isAggB, Int.toNat_natCast, Nat.mul_one]
  rw [if_neg (by decide)]
  simp only [rowB_get l r c hc, Sem.run_pure]
end Go.Proofs.YtllafkeheppkjaaDoor

/-
  The contract of impl.NearestFree: the walk.
-/
namespace Go.Proofs.YtllafkeheppkjaaDoor
open Go.RowKit
set_option linter.unusedVariables false

def nX0 (st : Option (Nat × Nat)) : Int := match st with | none => 0 | some p => p.1
def nY0 (st : Option (Nat × Nat)) : Int := match st with | none => 0 | some p => p.2
theorem alloc_own {w : World} {t : TypeId} {cs : List Value} : Own (w.alloc (.cells cs.toArray t)) w.heap.size t cs := heap_new _ _
theorem Taken.nextT {w w' : World} {g : Nat} {m : List Bx} (h : Taken w g m) (hb : Below w.heap.size w w') : Taken w' g m := h.below hb h.lt
end Go.Proofs.YtllafkeheppkjaaDoor

/-
  Plain facts for FnHandWays: a case with two boxes exchanged is a case; no exchange makes a shorter way than the best one; the nearest free place is free.
-/
namespace Go.Proofs.YtllafkeheppkjaaDoor
open Go.RowKit
set_option linter.unusedVariables false

theorem okB_parts {l : List Bx} {k : Nat} {h : k < l.length} : okB l k h = true ↔ boxB l[k] = true ∧ (k = 0 ∨ Op.bytesLess (l[k-1]'(by omega)).cod.toList l[k].cod.toList = true) ∧ ∀ j (hj : j < k), ¬ (l[j].row = l[k].row ∧ l[j].col = l[k].col) := by
  unfold okB
  rw [Bool.and_eq_true, Bool.and_eq_true, Bool.or_eq_true, beq_iff_eq, Bool.not_eq_true', ← Bool.not_eq_true, List.any_eq_true]
  refine and_congr_right fun _ => and_congr_right fun _ => ⟨fun hn j hj he => hn ⟨l[j], ?_, sameP_iff.2 he⟩, fun hn he => ?_⟩
  · rw [List.mem_take_iff_getElem]
    exact ⟨j, by omega, rfl⟩
  · obtain ⟨x, hx, hs⟩ := he
    rw [List.mem_take_iff_getElem] at hx
    obtain ⟨j, hj, rfl⟩ := hx
    exact hn j (by omega) (sameP_iff.1 hs)
theorem CaseOk.apart {l : List Bx} (h : CaseOk l) {i j : Nat} (hi : i < l.length) (hj : j < l.length) (hij : i ≠ j) : ¬ (l[i].row = l[j].row ∧ l[i].col = l[j].col) := by
  rcases Nat.lt_or_ge i j with h1 | h1
  · exact (okB_parts.1 (h.1 j hj)).2.2 i h1
  · rintro ⟨e1, e2⟩
    exact (okB_parts.1 (h.1 i hi)).2.2 j (by omega) ⟨e1.symm, e2.symm⟩
/-- Whose place box k has behind the exchange. -/
def tau (a b k : Nat) : Nat := if b = k then a else if a = k then b else k
theorem tau_lt {a b k n : Nat} (ha : a < n) (hb : b < n) (hk : k < n) : tau a b k < n := by unfold tau; split <;> (try split) <;> omega
theorem tau_inj {a b i j : Nat} (h : tau a b i = tau a b j) : i = j := by unfold tau at h; split at h <;> split at h <;> (try split at h) <;> (try split at h) <;> omega
theorem swapL_tau {l : List Bx} {a b : Nat} (ha : a < l.length) (hb : b < l.length) {k : Nat} (hk : k < l.length) (h : k < (swapL l a b).length) :
    (swapL l a b)[k].cod = l[k].cod ∧ (swapL l a b)[k].cnt = l[k].cnt ∧ (swapL l a b)[k].row = (l[tau a b k]'(tau_lt ha hb hk)).row ∧ (swapL l a b)[k].col = (l[tau a b k]'(tau_lt ha hb hk)).col := by
  simp only [swapL, getD_at ha, getD_at hb, tau]
  rw [List.getElem_set]
  by_cases e : b = k
  · subst e
    simp only [if_true]
    rw [getD_at (by simpa using hb), List.getElem_set]
    by_cases e : a = b
    · subst e; simp
    · simp [e]
  · simp only [e, if_false]
    rw [List.getElem_set]
    by_cases e : a = k
    · subst e; simp
    · simp [e]
theorem CaseOk.swap {l : List Bx} (h : CaseOk l) {a b : Nat} (ha : a < l.length) (hb : b < l.length) : CaseOk (swapL l a b) := by
  refine ⟨fun k hk => ?_, by rw [swapL_len]; exact h.2.1, by rw [swapL_len]; exact h.2.2⟩
  have hk' : k < l.length := by rwa [swapL_len] at hk
  obtain ⟨e1, e2, e3, e4⟩ := swapL_tau ha hb hk' hk
  obtain ⟨o1, o2, o3⟩ := okB_parts.1 (h.1 k hk')
  obtain ⟨q1, _, _⟩ := okB_parts.1 (h.1 _ (tau_lt ha hb hk'))
  rw [okB_parts]
  refine ⟨?_, ?_, fun j hj => ?_⟩
  · rw [boxB_iff] at o1 q1 ⊢
    rw [e1, e2, e3, e4]
    exact ⟨o1.1, q1.2.1, q1.2.2.1, o1.2.2.2⟩
  · rcases o2 with o2 | o2
    · exact .inl o2
    · right
      rw [e1, (swapL_tau ha hb (show k - 1 < l.length by omega) (by rw [swapL_len]; omega)).1]
      exact o2
  · have hj' : j < l.length := by omega
    obtain ⟨_, _, f3, f4⟩ := swapL_tau ha hb hj' (by rw [swapL_len]; exact hj')
    rw [e3, e4, f3, f4]
    exact h.apart _ _ (fun e => by have := tau_inj e; omega)
theorem askB2_swap {l : List Bx} {cs : List ByteArray} {a b : Nat} (ha : a < l.length) (hb : b < l.length) (h : askB2 l cs = true) : askB2 (swapL l a b) cs = true := by
  have h1 := (askB2_all h).1
  unfold askB2 at h ⊢
  simp only [swapL_caI ha hb]
  rw [Bool.and_eq_true, Bool.and_eq_true] at h ⊢
  exact ⟨h.1, caseB_iff.2 (h1.swap ha hb), h.2.2⟩
theorem hwR_swap {l : List Bx} {cs : List ByteArray} {a b : Nat} (ha : a < l.length) (hb : b < l.length) (h : askB2 l cs = true) : hwR (swapL l a b) cs = some (swW l (ixs l cs) a b) := by
  unfold hwR
  rw [if_pos (askB2_swap ha hb h), ixs_swap ha hb]
  rfl
theorem swR_yes {l : List Bx} {a b : Nat} (ha : a < l.length) (hb : b < l.length) (h : CaseOk l) : swR l a b = some (swapL l a b) := by
  unfold swR
  rw [if_pos ⟨caseB_iff.2 h, ⟨by omega, by omega⟩, by omega, by omega⟩]
  simp

def LeS (l : List Bx) (is : List Nat) (st : Option (Nat × Nat)) (v : Int) : Prop := ∃ q, st = some q ∧ swW l is q.1 q.2 ≤ v
theorem bsUpd_keep {l : List Bx} {is : List Nat} {st : Option (Nat × Nat)} {v : Int} (h : LeS l is st v) (a b : Nat) : LeS l is (bsUpd l is st a b) v := by
  obtain ⟨⟨x, y⟩, rfl, hv⟩ := h
  by_cases hlt : swW l is a b < swW l is x y
  · rw [bsUpd_lt hlt]; exact ⟨_, rfl, by show swW l is a b ≤ v; have : swW l is x y ≤ v := hv; omega⟩
  · rw [bsUpd_ge hlt]; exact ⟨_, rfl, hv⟩
theorem bsUpd_new {l : List Bx} {is : List Nat} {st : Option (Nat × Nat)} (a b : Nat) : LeS l is (bsUpd l is st a b) (swW l is a b) := by
  cases st with
  | none => exact ⟨_, rfl, Int.le_refl _⟩
  | some p =>
    obtain ⟨x, y⟩ := p
    by_cases hlt : swW l is a b < swW l is x y
    · rw [bsUpd_lt hlt]; exact ⟨_, rfl, Int.le_refl _⟩
    · rw [bsUpd_ge hlt]; exact ⟨_, rfl, by show swW l is x y ≤ _; omega⟩
theorem bsC_keep {l : List Bx} {is : List Nat} {st : Option (Nat × Nat)} {v : Int} (h : LeS l is st v) (a : Nat) : ∀ n : Nat, LeS l is (bsC l is st a n) v
  | 0 => h
  | n + 1 => bsUpd_keep (bsC_keep h a n) _ _
theorem bsC_new {l : List Bx} {is : List Nat} {st : Option (Nat × Nat)} (a : Nat) : ∀ n i : Nat, i < n → LeS l is (bsC l is st a n) (swW l is a (a + 1 + i))
  | n + 1, i, h => by
    rcases Nat.lt_or_ge i n with h1 | h1
    · exact bsUpd_keep (bsC_new a n i h1) _ _
    · obtain rfl : i = n := by omega
      exact bsUpd_new _ _
theorem bsR_new {l : List Bx} {is : List Nat} {s0 : Option (Nat × Nat)} : ∀ (m i k : Nat), i < m → i < k → k < l.length → LeS l is (bsR l is s0 m) (swW l is i k)
  | m + 1, i, k, h1, h2, h3 => by
    rcases Nat.lt_or_ge i m with h | h
    · exact bsC_keep (bsR_new m i k h h2 h3) _ _
    · obtain rfl : i = m := by omega
      have := bsC_new (l := l) (is := is) (st := bsR l is s0 i) i (l.length - (i + 1)) (k - (i + 1)) (by omega)
      rwa [show i + 1 + (k - (i + 1)) = k from by omega] at this
/-- What the law asks of one pair. -/
theorem best_least {l : List Bx} {cs : List ByteArray} {p : Nat × Nat} (h : bsA l cs = some p) {i k : Nat} (h1 : i < k) (h2 : k < l.length) : bsV l cs ≤ swW l (ixs l cs) i k ∧ ((i : Int) = (p.1 : Int) → (k : Int) = (p.2 : Int) → swW l (ixs l cs) i k = bsV l cs) := by
  have hv : bsV l cs = swW l (ixs l cs) p.1 p.2 := by unfold bsV; rw [h]
  refine ⟨?_, fun e1 e2 => ?_⟩
  · unfold bsA at h
    split at h
    · obtain ⟨q, hq, hle⟩ := bsR_new (l := l) (is := ixs l cs) (s0 := none) l.length i k (by omega) h1 h2
      rw [h] at hq
      obtain rfl := Option.some.inj hq
      rw [hv]; exact hle
    · cases h
  · rw [hv, show p.1 = i from by omega, show p.2 = k from by omega]
theorem bsA_ask {l : List Bx} {cs : List ByteArray} {p : Nat × Nat} (h : bsA l cs = some p) : askB2 l cs = true := by
  unfold bsA at h
  split at h
  · rename_i hc; exact hc.1
  · cases h

def FreeS (l : List Bx) (st : Option (Nat × Nat)) : Prop := ∀ p, st = some p → hasP l p.1 p.2 = false
theorem nfUpd_free {l : List Bx} {row col : Int} {st : Option (Nat × Nat)} (h : FreeS l st) (r c : Nat) : FreeS l (nfUpd l row col st r c) := by
  cases hh : hasP l r c with
  | true => rw [nfUpd_used hh]; exact h
  | false =>
    cases st with
    | none => rw [nfUpd_none hh]; intro p e; obtain rfl := Option.some.inj e; exact hh
    | some p =>
      obtain ⟨x, y⟩ := p
      by_cases hd : dst row col r c < dst row col x y
      · rw [nfUpd_lt hh hd]; intro p e; obtain rfl := Option.some.inj e; exact hh
      · rw [nfUpd_ge hh hd]; exact h
theorem nfC_free {l : List Bx} {row col : Int} {st : Option (Nat × Nat)} (h : FreeS l st) (r : Nat) : ∀ n : Nat, FreeS l (nfC l row col st r n)
  | 0 => h
  | n + 1 => nfUpd_free (nfC_free h r n) _ _
theorem nfR_free (l : List Bx) (row col : Int) : ∀ n : Nat, FreeS l (nfR l row col n)
  | 0 => fun p e => by cases e
  | n + 1 => nfC_free (nfR_free l row col n) _ _
theorem near_free {l : List Bx} {row col : Int} {p : Nat × Nat} (h : nfA l row col = some p) {k : Nat} (hk : k < l.length) : ¬ (l[k].row = (p.1 : Int) ∧ l[k].col = (p.2 : Int)) := by
  unfold nfA at h
  split at h
  · have hf := nfR_free l row col 10 p h
    unfold hasP at hf
    rw [List.any_eq_false] at hf
    have := hf l[k] (List.getElem_mem hk)
    rintro ⟨e1, e2⟩
    simp [e1, e2] at this
  · cases h
end Go.Proofs.YtllafkeheppkjaaDoor

/-
  The contracts of spec.caMove, spec.TakeTypes, spec.PutTypes, impl.withCounts, impl.TakeTypes, impl.PutTypes.
-/
namespace Go.Proofs.YtllafkeheppkjaaDoor
open Go.RowKit
set_option linter.unusedVariables false

def bumpL (z : Int) (l : List Bx) (i : Nat) : List Bx := l.set i { l.getD i default with cnt := (l.getD i default).cnt + z }
def moveL (l : List Bx) (is : List Nat) (z : Int) : List Bx := is.foldl (bumpL z) l
theorem moveL_snoc (l : List Bx) (is : List Nat) (i : Nat) (z : Int) : moveL l (is ++ [i]) z = bumpL z (moveL l is z) i := by unfold moveL; rw [List.foldl_append]; rfl
theorem bumpL_len (z : Int) (l : List Bx) (i : Nat) : (bumpL z l i).length = l.length := by simp [bumpL]
theorem moveL_len (l : List Bx) (is : List Nat) (z : Int) : (moveL l is z).length = l.length := by
  induction is generalizing l with
  | nil => rfl
  | cons i r ih => show (moveL (bumpL z l i) r z).length = _; rw [ih, bumpL_len]
theorem bumpL_cod (z : Int) (l : List Bx) (i : Nat) : (bumpL z l i).map Bx.cod = l.map Bx.cod := by
  apply List.ext_getElem
  · simp [bumpL]
  · intro k h1 h2
    simp only [List.getElem_map, bumpL, List.getElem_set]
    split
    · rename_i e
      subst e
      rw [getD_at (by simpa using h2)]
    · rfl
theorem moveL_cod (l : List Bx) (is : List Nat) (z : Int) : (moveL l is z).map Bx.cod = l.map Bx.cod := by
  induction is generalizing l with
  | nil => rfl
  | cons i r ih => show (moveL (bumpL z l i) r z).map Bx.cod = _; rw [ih, bumpL_cod]
theorem moveL_caI (l : List Bx) (is : List Nat) (z : Int) (c : ByteArray) : caI (moveL l is z) c = caI l c := by unfold caI; rw [sf_swap (moveL_cod l is z)]
theorem moveL_ok {l : List Bx} (is : List Nat) (z : Int) (h : BxsOk l) : BxsOk (moveL l is z) := by
  intro k hk
  have hk' : k < l.length := by rwa [moveL_len] at hk
  have e := moveL_cod l is z
  have e2 : ((moveL l is z).map Bx.cod)[k]'(by simpa using hk) = (l.map Bx.cod)[k]'(by simpa using hk') := by simp only [e]
  simp only [List.getElem_map] at e2
  show (moveL l is z)[k].cod.size ≤ maxLen
  rw [e2]
  exact h k hk'
theorem bumpL_cnt {z : Int} (hz : -1 ≤ z ∧ z ≤ 1) (l : List Bx) (i k : Nat) (h : k < (bumpL z l i).length) (h' : k < l.length) : l[k].cnt - 1 ≤ (bumpL z l i)[k].cnt ∧ (bumpL z l i)[k].cnt ≤ l[k].cnt + 1 := by
  simp only [bumpL, List.getElem_set]
  split
  · rename_i e
    subst e
    rw [getD_at h']
    show l[i].cnt - 1 ≤ l[i].cnt + z ∧ l[i].cnt + z ≤ l[i].cnt + 1
    omega
  · omega
theorem moveL_cnt {z : Int} (hz : -1 ≤ z ∧ z ≤ 1) : ∀ (is : List Nat) (l : List Bx) (k : Nat) (h : k < (moveL l is z).length) (h' : k < l.length), l[k].cnt - is.length ≤ (moveL l is z)[k].cnt ∧ (moveL l is z)[k].cnt ≤ l[k].cnt + is.length
  | [], l, k, h, h' => by simp [moveL]
  | i :: r, l, k, h, h' => by
    have hb : k < (bumpL z l i).length := by rwa [bumpL_len]
    have h1 := bumpL_cnt hz l i k hb h'
    have h2 := moveL_cnt hz r (bumpL z l i) k (by rw [moveL_len]; exact hb) hb
    have e : moveL l (i :: r) z = moveL (bumpL z l i) r z := rfl
    simp only [e, List.length_cons]
    omega
theorem bumpL_flat {l : List Bx} {i : Nat} (h : i < l.length) (z : Int) : (flatBx l).set (i * 4 + 3) (.int .i64 (l[i].cnt + z)) = flatBx (bumpL z l i) := by
  rw [flatBx_cnt l i h]
  unfold bumpL
  rw [getD_at h]
theorem Marked.bxs {w : World} {g cap : Nat} {e : TypeId} {m : List Bx} (h : Marked w g e (cap * 4) (flatBx m)) (h1 : m.length ≤ cap) (h2 : cap ≤ maxLen) : BxsIn w (some ⟨g, 0, none⟩) m :=
  own_in_bx (h.own4 (base := 0) (Nat.zero_le _) (by rw [flatBx_len]; omega) h1 h2)
theorem Marked.cntAt {w : World} {g n : Nat} {e : TypeId} {m : List Bx} (h : Marked w g e n (flatBx m)) {i : Nat} (hi : i < m.length) : w.cell? ⟨g, i * 4 + 3, none⟩ = some (.int .i64 m[i].cnt) := by
  have hl := flatBx_len m
  have hc := h.cellAt (j := i * 4 + 3) (by omega)
  obtain ⟨_, _, _, g3⟩ := flatBx_get m i hi
  rw [List.getElem?_eq_getElem (by omega)] at g3
  rw [hc]; exact g3
/-- The answer of TakeTypes (z = -1) and PutTypes (z = 1). -/
noncomputable def mvR (l : List Bx) (cs : List ByteArray) (z : Int) : Option (List Bx) := if askB2 l cs = true ∧ caseB (moveL l (ixs l cs) z) = true then some (moveL l (ixs l cs) z) else none
theorem mvR_short (l : List Bx) (cs : List ByteArray) (z : Int) : ((mvR l cs z).getD []).length ≤ 64 := by
  unfold mvR
  split
  · rename_i h
    have := (caseB_iff.1 h.2).2.2
    simp; omega
  · simp
noncomputable def mvT (l : List Bx) (is : List Nat) (z : Int) : Option (List Bx) := if caseB (moveL l is z) = true then some (moveL l is z) else none
theorem bx_up {w : World} {b1 b2 n : Nat} {e : TypeId} {v : Value} {xs : List Value} (h : w.ownsRow b1 e 4 v n xs) (hb : b2 ≤ b1) : w.ownsRow b2 e 4 v n xs := ⟨h.1, h.2.imp id fun ⟨g, cap, cur, e1, e2, e3⟩ => ⟨g, cap, cur, e1, Nat.le_trans hb e2, e3⟩⟩
theorem BxsTo.up {w0 w w' : World} {e : Ending} {r : Option (List Bx)} (hb : Below w0.heap.size w0 w) (h : BxsTo w w' e r) : BxsTo w0 w' e r := by
  obtain ⟨v, rfl, h1, h2⟩ := h
  exact ⟨v, rfl, hb.trans (h1.mono hb.size), bx_up h2 hb.size⟩

set_option maxRecDepth 100000 in
set_option maxHeartbeats 2000000 in
theorem caMove_any (l : List Bx) (A : Option Addr) (c : Nat) (cs : List ByteArray) (B : Option Addr) (d : Nat) (z : Int) (w : World) (hf : BxsIn w A l) (hn : l.length ≤ 1048576) (ho : BxsOk l) (hs : StrsIn w B cs) (hC : CaseOk l) (ha : AllIn l cs) (hm : cs.length ≤ 60) (hz : -1 ≤ z ∧ z ≤ 1) :
    Calls Tryd.prog 41 #[.slice A l.length c, .slice B cs.length d, .int .i64 z] w fun e w' => BxsTo w w' e (mvT l (ixs l cs) z) := by
  have hf' := hf.next ((Below.refl w.heap.size w).alloc (Nat.le_refl _) (.cells #[] 40))
  have h1l : 1 ≤ l.length := hC.2.1
  have h32 : l.length ≤ 32 := hC.2.2
  have HS := Lib.hid hs; have HA := Lib.hid ha; have HC := Lib.hid hC; have HO := Lib.hid ho
  clear hs ha hC ho
  obtain ⟨q, off, rfl, hbl, hc'⟩ := hf' (by omega)
  obtain ⟨i0, hi, hz0, hz1, hz2⟩ := info_parts infoBx
  have HI0 := Lib.hid hi; have HZ0 := Lib.hid hz0; have HZ1 := Lib.hid hz1; have HZ2 := Lib.hid hz2
  clear hi hz0 hz1 hz2
  have HNW := Lib.hid (newsBx hc')
  have HOW : Hid ((w.alloc (.cells #[] 40)).ownsRow w.heap.size 40 4 (.slice (some ⟨w.heap.size, 0, none⟩) 0 0) 0 []) := Lib.hid (own_none4 _ (heap_new _ _) (Nat.le_refl _))
  have hmx : 0 + l.length ≤ maxLen := by unfold maxLen; omega
  clear hc' hf' hf
  obtain ⟨is, his⟩ : ∃ is, is = ixs l cs := ⟨_, rfl⟩
  have hil : is.length = cs.length := by rw [his]; simp [ixs]
  have HIL := Lib.hid hil; have HIS := Lib.hid his
  have HIK : Hid (∀ k (h : k < is.length) (h' : k < cs.length), is[k] = kI l cs[k]) := Lib.hid (by subst his; intro k h h'; simp [ixs])
  rw [← his]
  clear his hil
  go_enter Tryd.func41, Tryd.ntmps41
  go_wp2_with (at_builtin; refine wpList_append_own _ rfl _ _ 26 rfl w.heap.size 40 i0 (.agg #[.string .empty, .int .i64 0, .int .i64 0, .int .i64 0]) 4 40 Tryd.underlying26 HI0.out HZ0.out HZ1.out HZ2.out rfl (by decide) _ _ _ rfl HOW.out ⟨q, off, none⟩ l.length c (flatBx l) rfl (by rw [flatBx_len]; omega) HNW.out (flatBx_one l) hmx (by omega) (by simp) ?_)
  intro v' w4 hown' hgrow _
  have HB1 : Hid (Below w.heap.size w w4) := Lib.hid (((Below.refl _ _).alloc (Nat.le_refl _) _).grown hgrow (by simp) (own_lt HOW.out))
  have hown : w4.ownsRow w.heap.size 40 4 v' l.length (flatBx l) := by simpa using hown'
  obtain ⟨g, cap, rfl, hg, hcap, hcm, hmk⟩ := own4_marked hown (by omega)
  have HMK := Lib.hid hmk
  clear hown hown' hgrow hmk HNW HOW
  go_wp2
  go_loopw [16] (fun i wr => ∃ (k : Nat), k ≤ cs.length ∧ i = .int .i64 k ∧ Marked wr g 40 (cap * 4) (flatBx (moveL l (is.take k) z)) ∧ Below w.heap.size w wr) (fun i _ => cs.length - (intOf i).toNat)
  case atStart => exact ⟨0, Nat.zero_le _, rfl, HMK.out, HB1.out⟩
  case round =>
    obtain ⟨k, hk, rfl, hmk, hb⟩ := hrel
    have hml := moveL_len l (is.take k) z
    have hmxl := hcm
    by_cases hlt : k < cs.length
    · obtain ⟨b, off2, rfl, hbl2, hc⟩ := HS.out (by omega)
      have hc0 := hc k hlt
      clear hc
      rw [← hb.cell (p := ⟨b, off2 + k, none⟩) hbl2] at hc0
      obtain ⟨hkl, hkv⟩ := kI_lt (HA.out k hlt)
      have HBX := Lib.hid (hmk.bxs (by rw [hml]; exact hcap) hcm)
      have hcaI := moveL_caI l (is.take k) z cs[k]
      have hik := HIK.out k (by rw [HIL.out]; exact hlt) hlt
      have hcn := moveL_cnt hz (is.take k) l (kI l cs[k]) (by rw [hml]; exact hkl) hkl
      have hcr := (HC.out.range hkl).2.2
      have hkk : (is.take k).length = k := by rw [List.length_take, HIL.out]; omega
      rw [hkk] at hcn
      have HNX : Hid (moveL l (is.take (k + 1)) z = bumpL z (moveL l (is.take k) z) (kI l cs[k])) := Lib.hid (by
        rw [List.take_succ_eq_append_getElem (by rw [HIL.out]; exact hlt), moveL_snoc, hik])
      have hML : (moveL l (is.take k) z).length = l.length := hml
      generalize hM : moveL l (is.take k) z = M at *
      have HMEQ := Lib.hid hM; clear hM
      have hkM : kI l cs[k] < M.length := by omega
      have hM2 : M.length ≤ 1048576 := by omega
      have hcn2 : l[kI l cs[k]].cnt - (k : Int) ≤ (M[kI l cs[k]]'hkM).cnt ∧ (M[kI l cs[k]]'hkM).cnt ≤ l[kI l cs[k]].cnt + (k : Int) := hcn
      clear hcn
      have HML := Lib.hid hML
      clear hML hml
      have hcf := caFind_any M (some ⟨g, 0, none⟩) cap cs[k] wr HBX.out hM2
      rw [HML.out] at hcf
      have HCF := Lib.hid hcf
      clear hcf
      go_wp2_with fail
      refine HCF.out.mono ?_
      rintro e w5 ⟨rfl, hb5⟩
      rw [hcaI, hkv]
      have hmk5 := hmk.below hb5
      have hb' := hb.trans (hb5.mono hb.size)
      clear hb hb5 hmk hc0 hcaI hkv HBX hik
      generalize kI l cs[k] = K at *
      have hgt := hmk5.cntAt hkM
      obtain ⟨_, hfz⟩ := hmk5.at_ (j := K * 4 + 3) (by have := HML.out; omega)
      have hkl2 : K < l.length := hkl
      have HMN : Hid (Marked (w5.setCell ⟨g, K * 4 + 3, none⟩ (.int .i64 (M[K].cnt + z))) g 40 (cap * 4) (flatBx (moveL l (is.take (k + 1)) z))) := Lib.hid (by
        have h := hmk5.put (j := K * 4 + 3) (.int .i64 (M[K].cnt + z))
        rw [bumpL_flat hkM, ← HNX.out] at h
        exact h)
      have HBN := Lib.hid (hb'.setCell (p := ⟨g, K * 4 + 3, none⟩) hg (.int .i64 (M[K].cnt + z)))
      clear hmk5 hb'
      go_wp2
      go_roundw
      case rel => exact ⟨k + 1, by omega, by go_num, HMN.out, HBN.out⟩
      case measure => simp [intOf]; omega
    · obtain rfl : k = cs.length := by omega
      rw [List.take_of_length_le (by rw [HIL.out]; exact Nat.le_refl _)] at hmk hml
      have HMV : Hid (mvT l is z = if caseB (moveL l is z) = true then some (moveL l is z) else none) := Lib.hid rfl
      have HOK := Lib.hid (moveL_ok is z HO.out)
      generalize moveL l is z = M at *
      have HBX := Lib.hid (hmk.bxs (by omega) hcm)
      have HOW : Hid (wr.ownsRow w.heap.size 40 4 (.slice (some ⟨g, 0, none⟩) l.length cap) l.length (flatBx M)) := Lib.hid (hmk.own4 hg (by rw [flatBx_len]; omega) (by omega) hcm)
      have HBW := Lib.hid hb
      have hMc : M.length ≤ cap := by omega
      have hM2 : M.length ≤ 1048576 := by omega
      have HML := Lib.hid hml
      clear hmk hb hml
      cases hv : caseB M
      · have HE : Hid (mvT l is z = none) := Lib.hid (by rw [HMV.out, hv]; rfl)
        have HV := Lib.hid hv; clear hv
        have hcg := caGood_is M _ (some ⟨g, 0, none⟩) cap wr HBX.out hM2 HOK.out hMc HV
        rw [HML.out] at hcg
        have HCG := Lib.hid hcg; clear hcg
        go_wp2_with fail
        refine HCG.out.mono ?_
        rintro e w5 ⟨rfl, hb5⟩
        have hbf := HBW.out.trans (hb5.mono HBW.out.size)
        go_wp2
        go_ret2
        exact BxsTo.no HE.out hbf
      · have HE : Hid (mvT l is z = some M) := Lib.hid (by rw [HMV.out, hv]; rfl)
        have HV := Lib.hid hv; clear hv
        have hcg := caGood_is M _ (some ⟨g, 0, none⟩) cap wr HBX.out hM2 HOK.out hMc HV
        rw [HML.out] at hcg
        have HCG := Lib.hid hcg; clear hcg
        go_wp2_with fail
        refine HCG.out.mono ?_
        rintro e w5 ⟨rfl, hb5⟩
        have hbf := HBW.out.trans (hb5.mono HBW.out.size)
        have HOW2 := Lib.hid (own_below HOW.out hb5)
        go_wp2
        go_ret2
        exact ⟨.slice (some ⟨g, 0, none⟩) l.length cap, by rw [HE.out]; rfl, hbf, by rw [HE.out]; have h := HOW2.out; rw [← HML.out] at h ⊢; exact h⟩

theorem specTakeTypes_any (l : List Bx) (A : Option Addr) (c : Nat) (cs : List ByteArray) (B : Option Addr) (d : Nat) (w : World) (hf : BxsIn w A l) (hn : l.length ≤ 1048576) (ho : BxsOk l) (hcap : l.length ≤ c) (hs : StrsIn w B cs) (hso : StrsOk cs) (hm : cs.length ≤ 1048576) :
    Calls Tryd.prog 12 #[.slice A l.length c, .slice B cs.length d] w fun e w' => BxsTo w w' e (mvR l cs (-1)) := by
  have HF := Lib.hid hf; clear hf
  have HO := Lib.hid ho; clear ho
  have HS := Lib.hid hs; clear hs
  cases hv : askB2 l cs
  · have HE : Hid (mvR l cs (-1) = none) := Lib.hid (by unfold mvR; rw [hv]; simp)
    have HV := Lib.hid hv; clear hv
    go_enter Tryd.func12, Tryd.ntmps12
    go_wp2_with fail
    refine (caAsked_is l _ A c cs B d _ HF.out hn HO.out hcap HS.out hso hm HV).mono ?_
    rintro e w1 ⟨rfl, hb1⟩
    go_wp2
    go_ret2
    exact BxsTo.no HE.out hb1
  · have HE : Hid (mvR l cs (-1) = mvT l (ixs l cs) (-1)) := Lib.hid (by unfold mvR mvT; rw [hv]; simp)
    obtain ⟨hC, hA, hL⟩ := askB2_all hv
    have HC := Lib.hid hC; have HA := Lib.hid hA; clear hC hA
    have HV := Lib.hid hv; clear hv
    go_enter Tryd.func12, Tryd.ntmps12
    go_wp2_with fail
    refine (caAsked_is l _ A c cs B d _ HF.out hn HO.out hcap HS.out hso hm HV).mono ?_
    rintro e w1 ⟨rfl, hb1⟩
    have HF1 := Lib.hid (HF.out.next hb1); have HS1 := Lib.hid (HS.out.below hb1 (Nat.le_refl _))
    go_wp2_with fail
    refine (caMove_any l A c cs B d (-1) _ HF1.out hn HO.out HS1.out HC.out HA.out hL (by decide)).mono ?_
    intro e w2 hto
    obtain ⟨v, rfl, hb2, hown⟩ := BxsTo.up hb1 hto
    have HOW := Lib.hid hown
    clear hto hown
    generalize hbS : (mvT l (ixs l cs) (-1)).isSome = bS
    have HBS := Lib.hid hbS; clear hbS
    go_wp2
    go_ret2
    exact ⟨v, by rw [HE.out, HBS.out]; rfl, hb2, by rw [HE.out]; exact HOW.out⟩
theorem specPutTypes_any (l : List Bx) (A : Option Addr) (c : Nat) (cs : List ByteArray) (B : Option Addr) (d : Nat) (w : World) (hf : BxsIn w A l) (hn : l.length ≤ 1048576) (ho : BxsOk l) (hcap : l.length ≤ c) (hs : StrsIn w B cs) (hso : StrsOk cs) (hm : cs.length ≤ 1048576) :
    Calls Tryd.prog 24 #[.slice A l.length c, .slice B cs.length d] w fun e w' => BxsTo w w' e (mvR l cs 1) := by
  have HF := Lib.hid hf; clear hf
  have HO := Lib.hid ho; clear ho
  have HS := Lib.hid hs; clear hs
  cases hv : askB2 l cs
  · have HE : Hid (mvR l cs 1 = none) := Lib.hid (by unfold mvR; rw [hv]; simp)
    have HV := Lib.hid hv; clear hv
    go_enter Tryd.func24, Tryd.ntmps24
    go_wp2_with fail
    refine (caAsked_is l _ A c cs B d _ HF.out hn HO.out hcap HS.out hso hm HV).mono ?_
    rintro e w1 ⟨rfl, hb1⟩
    go_wp2
    go_ret2
    exact BxsTo.no HE.out hb1
  · have HE : Hid (mvR l cs 1 = mvT l (ixs l cs) 1) := Lib.hid (by unfold mvR mvT; rw [hv]; simp)
    obtain ⟨hC, hA, hL⟩ := askB2_all hv
    have HC := Lib.hid hC; have HA := Lib.hid hA; clear hC hA
    have HV := Lib.hid hv; clear hv
    go_enter Tryd.func24, Tryd.ntmps24
    go_wp2_with fail
    refine (caAsked_is l _ A c cs B d _ HF.out hn HO.out hcap HS.out hso hm HV).mono ?_
    rintro e w1 ⟨rfl, hb1⟩
    have HF1 := Lib.hid (HF.out.next hb1); have HS1 := Lib.hid (HS.out.below hb1 (Nat.le_refl _))
    go_wp2_with fail
    refine (caMove_any l A c cs B d 1 _ HF1.out hn HO.out HS1.out HC.out HA.out hL (by decide)).mono ?_
    intro e w2 hto
    obtain ⟨v, rfl, hb2, hown⟩ := BxsTo.up hb1 hto
    have HOW := Lib.hid hown
    clear hto hown
    generalize hbS : (mvT l (ixs l cs) 1).isSome = bS
    have HBS := Lib.hid hbS; clear hbS
    go_wp2
    go_ret2
    exact ⟨v, by rw [HE.out, HBS.out]; rfl, hb2, by rw [HE.out]; exact HOW.out⟩
end Go.Proofs.YtllafkeheppkjaaDoor

/-
  The contracts of impl.withCounts, impl.TakeTypes, impl.PutTypes.
-/
namespace Go.Proofs.YtllafkeheppkjaaDoor
open Go.RowKit
set_option linter.unusedVariables false

theorem mvR_ix {l : List Bx} {cs : List ByteArray} {z : Int} : mvR l cs z = (ixR l cs).bind fun is => mvT l is z := by
  unfold mvR ixR mvT
  cases askB2 l cs
  · simp
  · simp
set_option maxRecDepth 100000 in
set_option maxHeartbeats 2000000 in
theorem withCounts_any (l : List Bx) (A : Option Addr) (c : Nat) (cs : List ByteArray) (B : Option Addr) (d : Nat) (z : Int) (w : World) (hf : BxsIn w A l) (hn : l.length ≤ 1048576) (ho : BxsOk l) (hs : StrsIn w B cs) (hso : StrsOk cs) (hm : cs.length ≤ 1048576) (hz : -1 ≤ z ∧ z ≤ 1) :
    Calls Tryd.prog 39 #[.slice A l.length c, .slice B cs.length d, .int .i64 z] w fun e w' => BxsTo w w' e (mvR l cs z) := by
  have HF := Lib.hid hf; clear hf
  have HO := Lib.hid ho; clear ho
  have HS := Lib.hid hs; clear hs
  have HX := Lib.hid (mvR_ix (l := l) (cs := cs) (z := z))
  have HZ := Lib.hid hz
  go_enter Tryd.func39, Tryd.ntmps39
  go_wp2_with fail
  refine (boxesOfCodes_any l A c cs B d _ HF.out hn HO.out HS.out hso hm).mono ?_
  intro e w1 hto
  obtain ⟨v, rfl, hb1, hown⟩ := hto
  cases hr : ixR l cs with
  | none =>
    have HE : Hid (mvR l cs z = none) := Lib.hid (by rw [HX.out, hr]; rfl)
    rw [hr] at hown
    obtain ⟨A2, c2, rfl⟩ := own_form (l := []) hown
    clear hown hr
    go_wp2
    go_ret2
    exact BxsTo.no HE.out hb1
  | some is =>
    have HX2 : Hid (mvR l cs z = mvT l is z) := Lib.hid (by rw [HX.out, hr]; rfl)
    obtain ⟨hC, hix, hil, h60, hAA⟩ := ixR_some hr
    clear hix hAA
    rw [hr] at hown
    have hown' : w1.ownsRow w.heap.size 3 1 v is.length (intsZ (idxZ is)) := hown
    obtain ⟨A2, c2, rfl⟩ := own_form hown'
    have HIN := Lib.hid (own_in hown')
    have h1l : 1 ≤ l.length := hC.2.1
    have h32 : l.length ≤ 32 := hC.2.2
    have HC := Lib.hid hC; have HI := Lib.hid hil
    have HF1 := Lib.hid (HF.out.next hb1)
    clear hown hown' hr hC hil
    rw [idxZ_len]
    go_wp2_with fail
    refine (cloneBx_any l A c _ HF1.out (by omega) hn).mono ?_
    intro e w4 hto
    obtain ⟨v2, rfl, hb2, hown⟩ := hto
    obtain ⟨g, cap, rfl, hg, hcap, hcm, hmk⟩ := own4_marked hown (by omega)
    have HMK := Lib.hid hmk
    have HIN2 := Lib.hid (HIN.out.below hb2 (Nat.le_refl _))
    have HB1 := Lib.hid (hb1.trans (hb2.mono hb1.size))
    have HGW : Hid (w.heap.size ≤ g) := Lib.hid (Nat.le_trans hb1.size hg)
    have hgw4 : ∀ b, b < w1.heap.size → ¬ b = g := fun b h e => by omega
    have HIL : Hid (∀ b off, A2 = some ⟨b, off, none⟩ → 0 < is.length → b < w4.heap.size) := Lib.hid (fun b off e h => by
      obtain ⟨b', off', e', h1, _⟩ := HIN2.out (by rw [idxZ_len]; exact h)
      rw [e] at e'
      rw [Option.some.injEq, Addr.mk.injEq] at e'
      omega)
    have HNE : Hid (∀ b off, A2 = some ⟨b, off, none⟩ → 0 < is.length → ¬ g = b) := Lib.hid (fun b off e h => by
      obtain ⟨b', off', e', h1, _⟩ := HIN.out (by rw [idxZ_len]; exact h)
      rw [e] at e'
      rw [Option.some.injEq, Addr.mk.injEq] at e'
      omega)
    clear hown hb1 hb2 hmk hgw4
    go_wp2
    go_loopw [25] (fun i wr => ∃ (k : Nat), k ≤ is.length ∧ i = .int .i64 k ∧ Marked wr g 40 (cap * 4) (flatBx (moveL l (is.take k) z)) ∧ IntsIn wr A2 (idxZ is) ∧ Below w.heap.size w wr) (fun i _ => is.length - (intOf i).toNat)
    case atStart => exact ⟨0, Nat.zero_le _, rfl, HMK.out, HIN2.out, HB1.out⟩
    case round =>
      obtain ⟨k, hk, rfl, hmk, hin, hb⟩ := hrel
      have hml := moveL_len l (is.take k) z
      by_cases hlt : k < is.length
      · obtain ⟨b, off2, rfl, hbl2, hc⟩ := hin (by rw [idxZ_len]; omega)
        have hc0 := hc k (by rw [idxZ_len]; exact hlt)
        rw [show (idxZ is)[k]'(by rw [idxZ_len]; exact hlt) = ((is[k] : Nat) : Int) from by simp [idxZ]] at hc0
        have hbg := HNE.out b off2 rfl (by omega)
        have hbg2 : ¬ b = g := fun e => hbg e.symm
        have hkl := HI.out k hlt
        have hcn := moveL_cnt HZ.out (is.take k) l is[k] (by rw [hml]; exact hkl) hkl
        have hcr := (HC.out.range hkl).2.2
        have hkk : (is.take k).length = k := by rw [List.length_take]; omega
        rw [hkk] at hcn
        have HNX : Hid (moveL l (is.take (k + 1)) z = bumpL z (moveL l (is.take k) z) is[k]) := Lib.hid (by
          rw [List.take_succ_eq_append_getElem hlt, moveL_snoc])
        have hML : (moveL l (is.take k) z).length = l.length := hml
        generalize hM : moveL l (is.take k) z = M at *
        clear hM
        have hkM : is[k] < M.length := by omega
        have hcn2 : l[is[k]].cnt - (k : Int) ≤ (M[is[k]]'hkM).cnt ∧ (M[is[k]]'hkM).cnt ≤ l[is[k]].cnt + (k : Int) := hcn
        clear hcn
        have HML := Lib.hid hML
        have hzz := HZ.out
        clear hML hml
        have hgt := hmk.cntAt hkM
        obtain ⟨_, hfz⟩ := hmk.at_ (j := is[k] * 4 + 3) (by have := HML.out; omega)
        have HMN : Hid (Marked (wr.setCell ⟨g, is[k] * 4 + 3, none⟩ (.int .i64 (M[is[k]].cnt + z))) g 40 (cap * 4) (flatBx (moveL l (is.take (k + 1)) z))) := Lib.hid (by
          have h := hmk.put (j := is[k] * 4 + 3) (.int .i64 (M[is[k]].cnt + z))
          rw [bumpL_flat hkM, ← HNX.out] at h
          exact h)
        have HBN := Lib.hid (hb.setCell (p := ⟨g, is[k] * 4 + 3, none⟩) HGW.out (.int .i64 (M[is[k]].cnt + z)))
        have HINN : Hid (IntsIn (wr.setCell ⟨g, is[k] * 4 + 3, none⟩ (.int .i64 (M[is[k]].cnt + z))) (some ⟨b, off2, none⟩) (idxZ is)) := Lib.hid (fun hn => ⟨b, off2, rfl, by simpa using hbl2, fun j hj => by
          rw [World.cell?_setCell_far _ _ _ _ (by simpa using hbg)]
          exact hc j hj⟩)
        clear hmk hb hc hin
        generalize is[k] = K at *
        go_wp2
        go_roundw
        case rel => exact ⟨k + 1, by omega, by go_num, HMN.out, HINN.out, HBN.out⟩
        case measure => simp [intOf]; omega
      · obtain rfl : k = is.length := by omega
        rw [List.take_of_length_le (Nat.le_refl _)] at hmk hml
        have HMV : Hid (mvR l cs z = if caseB (moveL l is z) = true then some (moveL l is z) else none) := Lib.hid HX2.out
        have HOK := Lib.hid (moveL_ok is z HO.out)
        generalize moveL l is z = M at *
        have HBX := Lib.hid (hmk.bxs (by omega) hcm)
        have HOW : Hid (wr.ownsRow w.heap.size 40 4 (.slice (some ⟨g, 0, none⟩) l.length cap) l.length (flatBx M)) := Lib.hid (hmk.own4 HGW.out (by rw [flatBx_len]; omega) (by omega) hcm)
        have HBW := Lib.hid hb
        have hM2 : M.length ≤ 1048576 := by omega
        have HML := Lib.hid hml
        clear hmk hb hml hin
        cases hv : caseB M
        · have HE : Hid (mvR l cs z = none) := Lib.hid (by rw [HMV.out, hv]; rfl)
          have HV := Lib.hid hv; clear hv
          have hcg := implIsCase_is M _ (some ⟨g, 0, none⟩) cap wr HBX.out hM2 HOK.out HV
          rw [HML.out] at hcg
          have HCG := Lib.hid hcg; clear hcg
          go_wp2_with fail
          refine HCG.out.mono ?_
          rintro e w5 ⟨rfl, hb5⟩
          have hbf := HBW.out.trans (hb5.mono HBW.out.size)
          go_wp2
          go_ret2
          exact BxsTo.no HE.out hbf
        · have HE : Hid (mvR l cs z = some M) := Lib.hid (by rw [HMV.out, hv]; rfl)
          have HV := Lib.hid hv; clear hv
          have hcg := implIsCase_is M _ (some ⟨g, 0, none⟩) cap wr HBX.out hM2 HOK.out HV
          rw [HML.out] at hcg
          have HCG := Lib.hid hcg; clear hcg
          go_wp2_with fail
          refine HCG.out.mono ?_
          rintro e w5 ⟨rfl, hb5⟩
          have hbf := HBW.out.trans (hb5.mono HBW.out.size)
          have HOW2 := Lib.hid (own_below HOW.out hb5)
          go_wp2
          go_ret2
          exact ⟨.slice (some ⟨g, 0, none⟩) l.length cap, by rw [HE.out]; rfl, hbf, by rw [HE.out]; have h := HOW2.out; rw [← HML.out] at h ⊢; exact h⟩

theorem implTakeTypes_any (l : List Bx) (A : Option Addr) (c : Nat) (cs : List ByteArray) (B : Option Addr) (d : Nat) (w : World) (hf : BxsIn w A l) (hn : l.length ≤ 1048576) (ho : BxsOk l) (hcap : l.length ≤ c) (hs : StrsIn w B cs) (hso : StrsOk cs) (hm : cs.length ≤ 1048576) :
    Calls Tryd.prog 11 #[.slice A l.length c, .slice B cs.length d] w fun e w' => BxsTo w w' e (mvR l cs (-1)) := by
  have HF := Lib.hid hf; clear hf
  have HO := Lib.hid ho; clear ho
  have HS := Lib.hid hs; clear hs
  go_enter Tryd.func11, Tryd.ntmps11
  go_wp2_with fail
  refine (withCounts_any l A c cs B d (-1) _ HF.out hn HO.out HS.out hso hm (by decide)).mono ?_
  intro e w2 hto
  obtain ⟨v, rfl, hb2, hown⟩ := hto
  have HOW := Lib.hid hown
  clear hown
  generalize hbS : (mvR l cs (-1)).isSome = bS
  have HBS := Lib.hid hbS; clear hbS
  go_wp2
  go_ret2
  exact ⟨v, by rw [HBS.out]; rfl, hb2, HOW.out⟩
theorem implPutTypes_any (l : List Bx) (A : Option Addr) (c : Nat) (cs : List ByteArray) (B : Option Addr) (d : Nat) (w : World) (hf : BxsIn w A l) (hn : l.length ≤ 1048576) (ho : BxsOk l) (hcap : l.length ≤ c) (hs : StrsIn w B cs) (hso : StrsOk cs) (hm : cs.length ≤ 1048576) :
    Calls Tryd.prog 17 #[.slice A l.length c, .slice B cs.length d] w fun e w' => BxsTo w w' e (mvR l cs 1) := by
  have HF := Lib.hid hf; clear hf
  have HO := Lib.hid ho; clear ho
  have HS := Lib.hid hs; clear hs
  go_enter Tryd.func17, Tryd.ntmps17
  go_wp2_with fail
  refine (withCounts_any l A c cs B d 1 _ HF.out hn HO.out HS.out hso hm (by decide)).mono ?_
  intro e w2 hto
  obtain ⟨v, rfl, hb2, hown⟩ := hto
  have HOW := Lib.hid hown
  clear hown
  generalize hbS : (mvR l cs 1).isSome = bS
  have HBS := Lib.hid hbS; clear hbS
  go_wp2
  go_ret2
  exact ⟨v, by rw [HBS.out]; rfl, hb2, HOW.out⟩
end Go.Proofs.YtllafkeheppkjaaDoor

/-
  Plain facts for FnCases: types that are taken and put back leave the case; an exchange done twice leaves it; the sums.
-/
namespace Go.Proofs.YtllafkeheppkjaaDoor
open Go.RowKit
set_option linter.unusedVariables false

theorem bumpL_get (z : Int) (l : List Bx) (i k : Nat) (h : k < (bumpL z l i).length) (h' : k < l.length) : (bumpL z l i)[k] = { l[k] with cnt := l[k].cnt + (if i = k then z else 0) } := by
  simp only [bumpL, List.getElem_set]
  split
  · rename_i e
    subst e
    rw [getD_at h']
  · simp
theorem moveL_get (z : Int) : ∀ (is : List Nat) (l : List Bx) (k : Nat) (h : k < (moveL l is z).length) (h' : k < l.length), (moveL l is z)[k] = { l[k] with cnt := l[k].cnt + z * (is.count k : Int) }
  | [], l, k, h, h' => by simp [moveL]
  | i :: r, l, k, h, h' => by
    have hb : k < (bumpL z l i).length := by rwa [bumpL_len]
    have h2 := moveL_get z r (bumpL z l i) k (by rw [moveL_len]; exact hb) hb
    have e : moveL l (i :: r) z = moveL (bumpL z l i) r z := rfl
    simp only [e]
    rw [h2, bumpL_get z l i k hb h', List.count_cons]
    by_cases hik : i = k
    · subst hik
      simp [Int.mul_add]
      omega
    · simp [hik]
theorem moveL_back (l : List Bx) (is : List Nat) : moveL (moveL l is (-1)) is 1 = l := by
  apply List.ext_getElem
  · rw [moveL_len, moveL_len]
  · intro k h1 h2
    rw [moveL_get 1 is _ k h1 (by rw [moveL_len]; exact h2), moveL_get (-1) is l k _ h2]
    have e : l[k].cnt + -1 * (is.count k : Int) + 1 * (is.count k : Int) = l[k].cnt := by omega
    rw [e]
theorem moveL_ixs (l : List Bx) (is : List Nat) (z : Int) (cs : List ByteArray) : ixs (moveL l is z) cs = ixs l cs := by
  unfold ixs kI
  simp only [moveL_caI]
theorem put_take {l t : List Bx} {cs : List ByteArray} (h : mvR l cs (-1) = some t) : mvR t cs 1 = some l ∧ caseB t = true ∧ caseB l = true := by
  unfold mvR at h
  split at h
  · rename_i hc
    obtain ⟨ha, ht⟩ := hc
    have ht0 := Option.some.inj h
    have hl := caseB_iff.2 (askB2_all ha).1
    rw [ht0] at ht
    refine ⟨?_, ht, hl⟩
    have hix : ixs t cs = ixs l cs := by rw [← ht0, moveL_ixs]
    have hb : moveL t (ixs t cs) 1 = l := by rw [hix, ← ht0, moveL_back]
    have hask : askB2 t cs = true := by
      unfold askB2 at ha ⊢
      rw [← ht0]
      simp only [moveL_caI]
      rw [ht0]
      rw [Bool.and_eq_true, Bool.and_eq_true] at ha ⊢
      exact ⟨ha.1, ht, ha.2.2⟩
    unfold mvR
    rw [hb, if_pos ⟨hask, hl⟩]
  · cases h
theorem cntSum_cons (x : Bx) (l : List Bx) : cntSum (x :: l) = x.cnt + cntSum l := by
  have h : ∀ (l : List Bx) (a : Int), l.foldl (fun s b => s + b.cnt) a = a + l.foldl (fun s b => s + b.cnt) 0 := by
    intro l
    induction l with
    | nil => intro a; simp
    | cons y r ih => intro a; simp only [List.foldl_cons]; rw [ih (a + y.cnt), ih (0 + y.cnt)]; omega
  unfold cntSum
  simp only [List.foldl_cons]
  rw [h]; omega
theorem cntSum_bump (z : Int) : ∀ (l : List Bx) (i : Nat), i < l.length → cntSum (bumpL z l i) = cntSum l + z
  | x :: r, 0, _ => by simp [bumpL, cntSum_cons]; omega
  | x :: r, i + 1, h => by
    have e : bumpL z (x :: r) (i + 1) = x :: bumpL z r i := by simp [bumpL]
    rw [e, cntSum_cons, cntSum_cons, cntSum_bump z r i (by simpa using h)]; omega
theorem cntSum_move (z : Int) : ∀ (is : List Nat) (l : List Bx), (∀ i ∈ is, i < l.length) → cntSum (moveL l is z) = cntSum l + z * (is.length : Int)
  | [], l, _ => by simp [moveL]
  | i :: r, l, h => by
    have e : moveL l (i :: r) z = moveL (bumpL z l i) r z := rfl
    rw [e, cntSum_move z r (bumpL z l i) (fun j hj => by rw [bumpL_len]; exact h j (by simp [hj])), cntSum_bump z l i (h i (by simp))]
    simp [Int.mul_add]; omega
theorem take_sum {l t : List Bx} {cs : List ByteArray} (h : mvR l cs (-1) = some t) : tiR t = some (cntSum l - cs.length) ∧ tiR l = some (cntSum l) := by
  have hp := put_take h
  unfold tiR
  rw [if_pos hp.2.1, if_pos hp.2.2]
  refine ⟨?_, rfl⟩
  unfold mvR at h
  split at h
  · rename_i hc
    have ht0 := Option.some.inj h
    have ha := askB2_all hc.1
    rw [← ht0, cntSum_move]
    · simp [ixs]; omega
    · intro i hi
      simp only [ixs, List.mem_map] at hi
      obtain ⟨c, hcm, rfl⟩ := hi
      obtain ⟨k, hk, rfl⟩ := List.getElem_of_mem hcm
      exact (kI_lt (ha.2.1 k hk)).1
  · cases h
theorem tau_tau (a b k : Nat) : tau a b (tau a b k) = k := by
  unfold tau
  by_cases h1 : b = k
  · subst h1
    by_cases h2 : b = a <;> simp [h2]
  · by_cases h2 : a = k
    · subst h2; simp [h1]
    · simp [h1, h2]
theorem swapL_twice {l : List Bx} {a b : Nat} (ha : a < l.length) (hb : b < l.length) : swapL (swapL l a b) a b = l := by
  apply List.ext_getElem
  · rw [swapL_len, swapL_len]
  · intro k h1 h2
    have ha' : a < (swapL l a b).length := by rw [swapL_len]; exact ha
    have hb' : b < (swapL l a b).length := by rw [swapL_len]; exact hb
    have hk' : k < (swapL l a b).length := by rw [swapL_len]; exact h2
    obtain ⟨e1, e2, e3, e4⟩ := swapL_tau ha' hb' hk' h1
    obtain ⟨f1, f2, _, _⟩ := swapL_tau ha hb h2 hk'
    have ht := tau_lt ha hb h2
    obtain ⟨_, _, g3, g4⟩ := swapL_tau ha hb ht (tau_lt ha' hb' hk')
    simp only [tau_tau] at g3 g4
    have h1c : (swapL (swapL l a b) a b)[k].cod = l[k].cod := e1.trans f1
    have h2c : (swapL (swapL l a b) a b)[k].cnt = l[k].cnt := e2.trans f2
    have h3c : (swapL (swapL l a b) a b)[k].row = l[k].row := e3.trans g3
    have h4c : (swapL (swapL l a b) a b)[k].col = l[k].col := e4.trans g4
    generalize (swapL (swapL l a b) a b)[k] = x at *
    generalize l[k] = y at *
    obtain ⟨x1, x2, x3, x4⟩ := x
    obtain ⟨y1, y2, y3, y4⟩ := y
    simp only at h1c h2c h3c h4c
    subst h1c; subst h2c; subst h3c; subst h4c
    rfl
theorem swap_twice {l m : List Bx} {a b : Int} (h : swR l a b = some m) : swR m a b = some l := by
  unfold swR at h
  split at h
  · rename_i hc
    obtain ⟨h1, ⟨h2, h3⟩, h4, h5⟩ := hc
    have hm := Option.some.inj h
    have hca := (caseB_iff.1 h1).swap (a := a.toNat) (b := b.toNat) (by omega) (by omega)
    rw [hm] at hca
    have hlen : m.length = l.length := by rw [← hm, swapL_len]
    have := swapL_twice (l := l) (a := a.toNat) (b := b.toNat) (by omega) (by omega)
    rw [hm] at this
    unfold swR
    rw [if_pos ⟨caseB_iff.2 hca, ⟨h2, by omega⟩, h4, by omega⟩, this]
  · cases h
end Go.Proofs.YtllafkeheppkjaaDoor
