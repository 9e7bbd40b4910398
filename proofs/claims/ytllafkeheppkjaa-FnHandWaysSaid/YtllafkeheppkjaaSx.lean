/-
  The contracts of spec.caSwap, spec.SwapBoxes.
-/
import Derived.Test.YtllafkeheppkjaaSw
namespace Go.Proofs.Ytllafkeheppkjaa
open Go.RowKit
set_option linter.unusedVariables false

theorem flatBx_row : ∀ (l : List Bx) (k : Nat) (h : k < l.length) (z : Int), (flatBx l).set (k * 4 + 1) (.int .i64 z) = flatBx (l.set k { l[k] with row := z })
  | x :: r, 0, _, z => rfl
  | x :: r, k + 1, h, z => by
    have ih := flatBx_row r k (by simpa using h) z
    have e : ∀ y : Bx, ∀ q : List Bx, flatBx (y :: q) = .string y.cod :: .int .i64 y.row :: .int .i64 y.col :: .int .i64 y.cnt :: flatBx q := fun _ _ => rfl
    rw [e, show (k + 1) * 4 + 1 = k * 4 + 1 + 1 + 1 + 1 + 1 from by omega]
    simp only [List.set_cons_succ, ih, List.getElem_cons_succ, e]
theorem flatBx_col : ∀ (l : List Bx) (k : Nat) (h : k < l.length) (z : Int), (flatBx l).set (k * 4 + 2) (.int .i64 z) = flatBx (l.set k { l[k] with col := z })
  | x :: r, 0, _, z => rfl
  | x :: r, k + 1, h, z => by
    have ih := flatBx_col r k (by simpa using h) z
    have e : ∀ y : Bx, ∀ q : List Bx, flatBx (y :: q) = .string y.cod :: .int .i64 y.row :: .int .i64 y.col :: .int .i64 y.cnt :: flatBx q := fun _ _ => rfl
    rw [e, show (k + 1) * 4 + 2 = k * 4 + 2 + 1 + 1 + 1 + 1 from by omega]
    simp only [List.set_cons_succ, ih, List.getElem_cons_succ, e]
theorem flatBx_cnt : ∀ (l : List Bx) (k : Nat) (h : k < l.length) (z : Int), (flatBx l).set (k * 4 + 3) (.int .i64 z) = flatBx (l.set k { l[k] with cnt := z })
  | x :: r, 0, _, z => rfl
  | x :: r, k + 1, h, z => by
    have ih := flatBx_cnt r k (by simpa using h) z
    have e : ∀ y : Bx, ∀ q : List Bx, flatBx (y :: q) = .string y.cod :: .int .i64 y.row :: .int .i64 y.col :: .int .i64 y.cnt :: flatBx q := fun _ _ => rfl
    rw [e, show (k + 1) * 4 + 3 = k * 4 + 3 + 1 + 1 + 1 + 1 from by omega]
    simp only [List.set_cons_succ, ih, List.getElem_cons_succ, e]
theorem own4_marked {w : World} {base n : Nat} {e : TypeId} {v : Value} {xs : List Value} (h : w.ownsRow base e 4 v n xs) (hn : 0 < n) : ∃ g cap, v = .slice (some ⟨g, 0, none⟩) n cap ∧ base ≤ g ∧ n ≤ cap ∧ cap ≤ maxLen ∧ Marked w g e (cap * 4) xs := by
  rcases h.2 with ⟨rfl, h0⟩ | ⟨g, cap, cur, rfl, hg, hh, h1, h2, h3, h4⟩
  · omega
  · have hl := h.1
    exact ⟨g, cap, rfl, hg, h1, h2, cur, hh, by simpa using h3, by rw [hl]; exact h4⟩
theorem Marked.own4 {w : World} {g cap base n : Nat} {e : TypeId} {xs : List Value} (h : Marked w g e (cap * 4) xs) (hb : base ≤ g) (hn : xs.length = n * 4) (h1 : n ≤ cap) (h2 : cap ≤ maxLen) : w.ownsRow base e 4 (.slice (some ⟨g, 0, none⟩) n cap) n xs := by
  obtain ⟨cur, g1, g2, g3⟩ := h
  exact ⟨hn, .inr ⟨g, cap, cur, rfl, hb, g1, h1, h2, g2, by rw [← hn]; exact g3⟩⟩
/-- The four stores of an exchange. -/
theorem swapL_flat {l : List Bx} {a b : Nat} (ha : a < l.length) (hb : b < l.length) :
    ((((flatBx l).set (a * 4 + 1) (.int .i64 l[b].row)).set (a * 4 + 2) (.int .i64 l[b].col)).set (b * 4 + 1) (.int .i64 l[a].row)).set (b * 4 + 2) (.int .i64 l[a].col) = flatBx (swapL l a b) := by
  rw [flatBx_row l a ha, flatBx_col _ a (by simpa using ha), flatBx_row _ b (by simpa using hb), flatBx_col _ b (by simpa using hb)]
  congr 1
  simp only [swapL, getD_at ha, getD_at hb, List.set_set, List.getElem_set_self]
  rw [getD_at (by simpa using hb)]

set_option maxRecDepth 100000 in
set_option maxHeartbeats 2000000 in
theorem caSwap_any (l : List Bx) (A : Option Addr) (c : Nat) (a b : Nat) (w : World) (hf : BxsIn w A l) (hn : l.length ≤ 1048576) (ha : a < l.length) (hb : b < l.length) :
    Calls Try.prog 68 #[.slice A l.length c, .int .i64 (a : Int), .int .i64 (b : Int)] w fun e w' => BxTo w w' e (swapL l a b) := by
  have hf' := hf.next ((Below.refl w.heap.size w).alloc (Nat.le_refl _) (.cells #[] 26))
  have HF := Lib.hid hf
  obtain ⟨q, off, rfl, hbl, hc'⟩ := hf' (by omega)
  obtain ⟨i0, hi, hz0, hz1, hz2⟩ := info_parts infoBx
  have HI0 := Lib.hid hi; have HZ0 := Lib.hid hz0; have HZ1 := Lib.hid hz1; have HZ2 := Lib.hid hz2
  clear hi hz0 hz1 hz2
  have HNW := Lib.hid (newsBx hc')
  have HOW : Hid ((w.alloc (.cells #[] 26)).ownsRow w.heap.size 26 4 (.slice (some ⟨w.heap.size, 0, none⟩) 0 0) 0 []) := Lib.hid (own_none4 _ (heap_new _ _) (Nat.le_refl _))
  have hmx : 0 + l.length ≤ maxLen := by unfold maxLen; omega
  have hqw : q < w.heap.size := by
    obtain ⟨q', off', e, h, _⟩ := hf (by omega)
    have e1 := Option.some.inj e
    rw [Addr.mk.injEq] at e1
    omega
  clear hc' hf'
  clear hf
  go_enter Try.func68, Try.ntmps68
  go_wp2_with (at_builtin; refine wpList_append_own _ rfl _ _ 32 rfl w.heap.size 26 i0 (.agg #[.string .empty, .int .i64 0, .int .i64 0, .int .i64 0]) 4 40 Try.underlying32 HI0.out HZ0.out HZ1.out HZ2.out rfl (by decide) _ _ _ rfl HOW.out ⟨q, off, none⟩ l.length c (flatBx l) rfl (by rw [flatBx_len]; omega) HNW.out (flatBx_one l) hmx (by omega) (by simp) ?_)
  intro v' w4 hown' hgrow _
  have HB1 : Hid (Below w.heap.size w w4) := Lib.hid (((Below.refl _ _).alloc (Nat.le_refl _) _).grown hgrow (by simp) (own_lt HOW.out))
  have hown : w4.ownsRow w.heap.size 26 4 v' l.length (flatBx l) := by simpa using hown'
  obtain ⟨g, cap, rfl, hg, hcap, hcm, hmk⟩ := own4_marked hown (by omega)
  have HF4 := HF.out.below HB1.out (Nat.le_refl _)
  obtain ⟨q', off', e, _, hcc⟩ := HF4 (by omega)
  rw [Option.some.injEq, Addr.mk.injEq] at e
  obtain ⟨rfl, rfl, _⟩ := e
  obtain ⟨_, ea1, ea2, _⟩ := hcc a ha
  obtain ⟨_, eb1, eb2, _⟩ := hcc b hb
  have hne1 : ¬ q = g := by omega
  have hne2 : ¬ g = q := by omega
  have hfl := flatBx_len l
  obtain ⟨⟨u1, hu1⟩, hz1⟩ := hmk.at_ (j := a * 4 + 1) (by omega)
  obtain ⟨⟨u2, hu2⟩, hz2⟩ := hmk.at_ (j := a * 4 + 2) (by omega)
  obtain ⟨⟨u3, hu3⟩, hz3⟩ := hmk.at_ (j := b * 4 + 1) (by omega)
  obtain ⟨⟨u4, hu4⟩, hz4⟩ := hmk.at_ (j := b * 4 + 2) (by omega)
  have HOUT : Hid (w4.ownsRow w.heap.size 26 4 (.slice (some ⟨g, 0, none⟩) l.length cap) l.length (flatBx l) ∧ (((((w4.setCell ⟨g, a * 4 + 1, none⟩ (.int .i64 l[b].row)).setCell ⟨g, a * 4 + 2, none⟩ (.int .i64 l[b].col)).setCell ⟨g, b * 4 + 1, none⟩ (.int .i64 l[a].row)).setCell ⟨g, b * 4 + 2, none⟩ (.int .i64 l[a].col))).ownsRow w.heap.size 26 4 (.slice (some ⟨g, 0, none⟩) l.length cap) (swapL l a b).length (flatBx (swapL l a b))) := Lib.hid ⟨hown, by
    have h := (((hmk.put (j := a * 4 + 1) (.int .i64 l[b].row)).put (j := a * 4 + 2) (.int .i64 l[b].col)).put (j := b * 4 + 1) (.int .i64 l[a].row)).put (j := b * 4 + 2) (.int .i64 l[a].col)
    rw [swapL_flat ha hb] at h
    rw [swapL_len]
    exact h.own4 hg (by rw [flatBx_len, swapL_len]; omega) hcap hcm⟩
  have HBO := Lib.hid ((((HB1.out.setCell (p := ⟨g, a * 4 + 1, none⟩) hg (.int .i64 l[b].row)).setCell (p := ⟨g, a * 4 + 2, none⟩) hg (.int .i64 l[b].col)).setCell (p := ⟨g, b * 4 + 1, none⟩) hg (.int .i64 l[a].row)).setCell (p := ⟨g, b * 4 + 2, none⟩) hg (.int .i64 l[a].col))
  clear hown hown' hgrow hmk HF4 hcc HNW HOW
  by_cases hab : a = b
  · subst hab
    go_wp2
    go_ret
    exact ⟨_, rfl, HBO.out, HOUT.out.2⟩
  · have n1 : ¬ a * 4 + 1 = b * 4 + 1 := by omega
    have n2 : ¬ a * 4 + 2 = b * 4 + 2 := by omega
    have n3 : ¬ a * 4 + 1 = b * 4 + 2 := by omega
    have n4 : ¬ a * 4 + 2 = b * 4 + 1 := by omega
    have n5 : ¬ b * 4 + 1 = a * 4 + 1 := by omega
    have n6 : ¬ b * 4 + 2 = a * 4 + 2 := by omega
    have n7 : ¬ b * 4 + 1 = a * 4 + 2 := by omega
    have n8 : ¬ b * 4 + 2 = a * 4 + 1 := by omega
    go_wp2
    go_ret
    exact ⟨_, rfl, HBO.out, HOUT.out.2⟩
end Go.Proofs.Ytllafkeheppkjaa
