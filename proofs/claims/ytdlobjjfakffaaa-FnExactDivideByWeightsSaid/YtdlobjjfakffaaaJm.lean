/-
  The contract of impl.greatestFirst, given that of slices.symMergeCmpFunc; that there is one sorted order of the rows, and one alone.
-/
import Derived.Test.YtdlobjjfakffaaaJl
namespace Go.Proofs.Ytdlobjjfakffaaa
open Go.RowKit
set_option linter.unusedVariables false

theorem insertion_none (A : Option Addr) (c : Nat) (F : Value) (w : World) :
    Calls Try.prog 21 #[.slice A 0 c, .int .i64 0, .int .i64 0, F] w fun e w' => e = .returned (.tuple #[]) ∧ w = w' := by
  go_enter Try.func21, Try.ntmps21
  go_wp2
  refine wp_loop_rounds 1 ?_
  rw [rounds_succ]
  go_wp2
  go_end0
  exact ⟨rfl, rfl⟩
theorem stable_none (A : Option Addr) (c : Nat) (F : Value) (w : World) :
    Calls Try.prog 19 #[.slice A 0 c, .int .i64 0, F] w fun e w' => e = .returned (.tuple #[]) ∧ w = w' := by
  go_enter Try.func19, Try.ntmps19
  go_wp2
  refine wp_loop_rounds 1 ?_
  rw [rounds_succ]
  go_wp2_with fail
  refine (insertion_none A c F _).mono ?_
  rintro e w1 ⟨rfl, rfl⟩
  go_wp2
  refine wp_loop_rounds 1 ?_
  rw [rounds_succ]
  go_wp2
  go_end0
  exact ⟨rfl, rfl⟩
theorem sortStable_none (A : Option Addr) (c : Nat) (F : Value) (w : World) :
    Calls Try.prog 16 #[.slice A 0 c, F] w fun e w' => e = .returned (.tuple #[]) ∧ w = w' := by
  go_enter Try.func16, Try.ntmps16
  go_wp2_with fail
  refine (stable_none A c F _).mono ?_
  rintro e w1 ⟨rfl, rfl⟩
  go_wp2
  go_end0
  exact ⟨rfl, rfl⟩

theorem insert_ex {i : Nat} : ∀ (j : Nat) (g : Nat → Rq), Inn 0 i j g → ∃ h, Same 0 (i + 1) g h ∧ Srt 0 (i + 1) h
  | 0, g, hg => ⟨g, Same.refl _ _ _, hg.front⟩
  | j + 1, g, hg => by
    by_cases hl : (g j).v < (g (j + 1)).v
    · obtain ⟨h, h1, h2⟩ := insert_ex j _ (hg.step (Nat.zero_le _) hl)
      have := hg.hi
      exact ⟨h, (sw_same (Nat.zero_le _) (by omega) (Nat.zero_le _) (by omega)).trans h1, h2⟩
    · exact ⟨g, Same.refl _ _ _, hg.stop (Nat.zero_le _) hl⟩
theorem sort_ex {f : Nat → Rq} : ∀ (n : Nat), Asc 0 n f → ∃ g, Same 0 n f g ∧ Srt 0 n g
  | 0, _ => ⟨f, Same.refl _ _ _, fun i j h1 h2 h3 => by omega⟩
  | n + 1, h => by
    obtain ⟨g, h1, h2⟩ := sort_ex n (fun i j a b c => h i j a b (by omega))
    have ho : Out 0 n f g := ⟨h1, h2⟩
    obtain ⟨h', h3, h4⟩ := insert_ex n g (ho.start h (by omega) (Nat.zero_le _))
    exact ⟨h', (h1.wide (Nat.le_refl _) (by omega)).trans h3, h4⟩
theorem sort_uniq {n : Nat} {f g h : Nat → Rq} (sg : Same 0 n f g) (tg : Srt 0 n g) (sh : Same 0 n f h) (th : Srt 0 n h) : ∀ k, k < n → g k = h k := fun k => by
  induction k using Nat.strongRecOn with
  | _ k ih =>
    intro hk
    obtain ⟨a, _, a1, ea⟩ := sg.back (Nat.zero_le k) hk
    obtain ⟨l, _, l1, el⟩ := (sh.2 (g k)).1 ⟨a, Nat.zero_le _, a1, ea⟩
    obtain ⟨c, _, c1, ec⟩ := sh.back (Nat.zero_le k) hk
    obtain ⟨m, _, m1, em⟩ := (sg.2 (h k)).1 ⟨c, Nat.zero_le _, c1, ec⟩
    rcases (by omega : l < k ∨ l = k ∨ k < l) with c2 | c2 | c2
    · have e := ih l c2 l1
      rw [el] at e
      have := tg l k (Nat.zero_le _) c2 hk
      rw [e] at this
      exact absurd this ah_irr
    · rw [← el, c2]
    · have g1 := th k l (Nat.zero_le _) c2 l1
      rw [el, ← em] at g1
      rcases (by omega : m < k ∨ m = k ∨ k < m) with c3 | c3 | c3
      · have e := ih m c3 m1
        rw [em] at e
        have := th m k (Nat.zero_le _) c3 hk
        rw [← e] at this
        exact absurd this ah_irr
      · rw [c3] at g1; exact absurd g1 ah_irr
      · exact absurd (g1.trans (tg k m (Nat.zero_le _) c3 m1)) ah_irr
theorem rows_asc (R : List Int) : Asc 0 (gtT R R.length).length (rowAt (gtT R R.length)) := fun i j h1 h2 h3 => by
  rw [rowAt_of (by omega), rowAt_of h3]
  exact (gtT_asc R R.length).2 i j _ _ h2
/-- The rows of the numbers that are not 0, the greatest first. -/
noncomputable def topF (R : List Int) : Nat → Rq := Classical.choose (sort_ex _ (rows_asc R))
theorem topF_same (R : List Int) : Same 0 (gtT R R.length).length (rowAt (gtT R R.length)) (topF R) := (Classical.choose_spec (sort_ex _ (rows_asc R))).1
theorem topF_srt (R : List Int) : Srt 0 (gtT R R.length).length (topF R) := (Classical.choose_spec (sort_ex _ (rows_asc R))).2

/-- What impl.greatestFirst answers. -/
def GrTo (w w' : World) (e : Ending) (R : List Int) : Prop :=
  ∃ (B : Option Addr) (d : Nat), e = .returned (.slice B (gtT R R.length).length d) ∧ Below w.heap.size w w' ∧ ((gtT R R.length).length ≤ d ∧ (B = none → d = 0)) ∧
    (0 < (gtT R R.length).length → ∃ g, B = some ⟨g, 0, none⟩ ∧ w.heap.size ≤ g ∧ RowsF w' g (gtT R R.length).length (topF R))
theorem own_form2 {w : World} {base n : Nat} {e : TypeId} {v : Value} {xs : List Value} (h : w.ownsRow base e 2 v n xs) : ∃ B d, v = .slice B n d ∧ n ≤ d ∧ (B = none → d = 0) := by
  rcases h.2 with ⟨rfl, hz⟩ | ⟨G, cap, cur, rfl, hg, hh, h1, _⟩
  · exact ⟨none, 0, by rw [hz], by omega, fun _ => rfl⟩
  · exact ⟨_, cap, rfl, h1, fun h => by cases h⟩
theorem RowsF.same {w : World} {b n : Nat} {f g : Nat → Rq} (h : RowsF w b n f) (he : ∀ k, k < n → f k = g k) : RowsF w b n g := by
  obtain ⟨cur, h1, h2, h3⟩ := h
  exact ⟨cur, h1, h2, fun k hk => by rw [← he k hk]; exact h3 k hk⟩
theorem greatestFirst_any (hsym : ∀ n, SymTo n) (R : List Int) (A : Option Addr) (c : Nat) (w : World) (hA : IntsIn w A R) (hs : R.length ≤ 32) :
    Calls Try.prog 13 #[.slice A R.length c] w fun e w' => GrTo w w' e R := by
  go_enter Try.func13, Try.ntmps13
  go_wp2_with fail
  refine (table_any R A c _ hA hs).mono ?_
  rintro e w1 ⟨v, rfl, hb, ho⟩
  have HO := Lib.hid ho; have HB := Lib.hid hb
  have hl := gtT_len R R.length
  clear hA ho hb
  obtain ⟨B, d, rfl, hd, hdn⟩ := own_form2 HO.out
  by_cases h0 : 0 < (gtT R R.length).length
  · obtain ⟨g, c2, hv, hg, hr⟩ := own_rowsF HO.out h0
    injection hv with hv1 _ hv3
    subst hv1 hv3
    have HR := Lib.hid hr
    clear hr
    go_wp2_with fail
    refine (sortStable_any hsym g _ _ _ _ HR.out (by omega) (rows_asc R)).mono ?_
    rintro e w2 ⟨f1, ⟨rfl, hr1, hg1⟩, hs1, ht1⟩
    have HR2 : Hid (RowsF w2 g (gtT R R.length).length (topF R)) := Lib.hid (hr1.same (sort_uniq hs1 ht1 (topF_same R) (topF_srt R)))
    have HB2 : Hid (Below w.heap.size w w2) := Lib.hid (HB.out.grown hg1 HB.out.size (fun k hk => by have h9 : g = k := Option.some.inj hk; omega))
    clear hr1 hg1 hs1 ht1
    go_wp2
    go_ret
    exact ⟨_, _, rfl, HB2.out, ⟨hd, hdn⟩, fun _ => ⟨g, rfl, hg, HR2.out⟩⟩
  · have hz : (gtT R R.length).length = 0 := by omega
    have HZ := Lib.hid hz
    rw [hz]
    clear hz
    go_wp2_with fail
    refine (sortStable_none B d _ _).mono ?_
    rintro e w2 ⟨rfl, rfl⟩
    go_wp2
    go_ret
    exact ⟨B, d, by show Ending.returned (Value.slice B 0 d) = _; rw [HZ.out], HB.out, ⟨by omega, hdn⟩, fun h => absurd h h0⟩
end Go.Proofs.Ytdlobjjfakffaaa
