/-
  The contracts of spec.caSwap, spec.SwapBoxes, impl.boxesAsGiven, slices.Clone at placed boxes, impl.withSwap and impl.SwapBoxes.
-/
import Derived.Test.YtllafkeheppkjaaWk
import Derived.Test.YtllafkeheppkjaaFro
namespace Go.Proofs.Ytllafkeheppkjaa
open Go.RowKit
set_option linter.unusedVariables false

/-- Two boxes have exchanged their places. -/
def swapL (l : List Bx) (a b : Nat) : List Bx :=
  let p := l.getD a default; let q := l.getD b default
  let l1 := l.set a { p with row := q.row, col := q.col }
  l1.set b { l1.getD b default with row := p.row, col := p.col }
theorem swapL_len (l : List Bx) (a b : Nat) : (swapL l a b).length = l.length := by simp [swapL]
theorem getD_at {l : List Bx} {a : Nat} (h : a < l.length) : l.getD a default = l[a] := by
  rw [List.getD_eq_getElem?_getD, List.getElem?_eq_getElem h]; rfl
theorem swapL_cod {l : List Bx} {a b : Nat} (ha : a < l.length) (hb : b < l.length) : (swapL l a b).map Bx.cod = l.map Bx.cod := by
  apply List.ext_getElem
  · simp [swapL]
  · intro k h1 h2
    simp only [List.getElem_map, swapL, getD_at ha, getD_at hb]
    rw [List.getElem_set]
    split
    · rename_i e
      subst e
      rw [getD_at (by simpa using hb), List.getElem_set]
      split
      · rename_i e; subst e; rfl
      · rfl
    · rw [List.getElem_set]
      split
      · rename_i e; subst e; rfl
      · rfl
theorem swapL_sf {l : List Bx} {a b : Nat} (ha : a < l.length) (hb : b < l.length) : sf (swapL l a b) = sf l := sf_swap (swapL_cod ha hb)
theorem swapL_caI {l : List Bx} {a b : Nat} (ha : a < l.length) (hb : b < l.length) (c : ByteArray) : caI (swapL l a b) c = caI l c := by unfold caI; rw [swapL_sf ha hb]
/-- The place of box k behind the exchange. -/
theorem swapL_at {l : List Bx} {a b : Nat} (ha : a < l.length) (hb : b < l.length) {k : Nat} (h : k < (swapL l a b).length) : ∃ j, ∃ hj : j < l.length, (swapL l a b)[k].row = l[j].row ∧ (swapL l a b)[k].col = l[j].col := by
  simp only [swapL, getD_at ha, getD_at hb]
  rw [List.getElem_set]
  split
  · exact ⟨a, ha, rfl, rfl⟩
  · rw [List.getElem_set]
    split
    · exact ⟨b, hb, rfl, rfl⟩
    · exact ⟨k, by rwa [swapL_len] at h, rfl, rfl⟩
theorem swapL_places {l : List Bx} {a b : Nat} (ha : a < l.length) (hb : b < l.length) (hp : Places l) : Places (swapL l a b) := by
  intro k hk
  obtain ⟨j, hj, e1, e2⟩ := swapL_at ha hb hk
  rw [e1, e2]
  exact hp j hj

def BxTo (w w' : World) (e : Ending) (l : List Bx) : Prop := ∃ v, e = .returned v ∧ Below w.heap.size w w' ∧ w'.ownsRow w.heap.size 26 4 v l.length (flatBx l)
def BxsTo (w w' : World) (e : Ending) (r : Option (List Bx)) : Prop :=
  ∃ v, e = .returned (.tuple #[v, .bool r.isSome]) ∧ Below w.heap.size w w' ∧ w'.ownsRow w.heap.size 26 4 v (r.getD []).length (flatBx (r.getD []))
theorem BxsTo.no {w w' : World} {r : Option (List Bx)} (h : r = none) (hb : Below w.heap.size w w') : BxsTo w w' (.returned (.tuple #[.slice none 0 0, .bool false])) r := by subst h; exact ⟨_, rfl, hb, own_nil _ _ _ _⟩
theorem own_none4 (w : World) {g base : Nat} {e : TypeId} (h : w.heap[g]? = some (.cells #[] e (0, 0))) (hb : base ≤ g) : w.ownsRow base e 4 (.slice (some ⟨g, 0, none⟩) 0 0) 0 [] :=
  ⟨rfl, .inr ⟨g, 0, #[], rfl, hb, h, Nat.le_refl _, Nat.zero_le _, rfl, rfl⟩⟩
theorem flatBx_one (l : List Bx) : ∀ u ∈ flatBx l, u.oneCell' = true := by
  intro u hu
  simp only [flatBx, List.mem_flatMap] at hu
  obtain ⟨x, _, hx⟩ := hu
  simp only [Bx.vals, List.mem_cons, List.not_mem_nil, or_false] at hx
  rcases hx with rfl | rfl | rfl | rfl <;> rfl
theorem flatPb_one (l : List Bx) : ∀ u ∈ flatPb l, u.oneCell' = true := by
  intro u hu
  simp only [flatPb, List.mem_flatMap] at hu
  obtain ⟨x, _, hx⟩ := hu
  simp only [Bx.pvals, List.mem_cons, List.not_mem_nil, or_false] at hx
  rcases hx with rfl | rfl | rfl | rfl <;> rfl
theorem news4 {w : World} {b off : Nat} {xs : List Value} {n : Nat} (hlen : xs.length = 4 * n) (hg : ∀ k j, k < n → j < 4 → ∀ u, xs[k * 4 + j]? = some u → w.cell? ⟨b, off + k * 4 + j, none⟩ = some u) :
    ∀ j u, xs[j]? = some u → w.cell? ((⟨b, off, none⟩ : Addr).add j) = some u := by
  intro j u hu
  rw [add_flatI]
  have hj : j < xs.length := by
    rcases Nat.lt_or_ge j xs.length with h | h
    · exact h
    · rw [List.getElem?_eq_none h] at hu; cases hu
  have e : j = j / 4 * 4 + j % 4 := by omega
  rw [e] at hu
  have := hg (j / 4) (j % 4) (by omega) (by omega) u hu
  rw [show off + j = off + j / 4 * 4 + j % 4 from by omega]
  exact this
theorem newsBx {w : World} {b off : Nat} {l : List Bx} (hc : ∀ k (h : k < l.length), w.cell? ⟨b, off + k * 4, none⟩ = some (.string l[k].cod) ∧ w.cell? ⟨b, off + k * 4 + 1, none⟩ = some (.int .i64 l[k].row) ∧ w.cell? ⟨b, off + k * 4 + 2, none⟩ = some (.int .i64 l[k].col) ∧ w.cell? ⟨b, off + k * 4 + 3, none⟩ = some (.int .i64 l[k].cnt)) :
    ∀ j u, (flatBx l)[j]? = some u → w.cell? ((⟨b, off, none⟩ : Addr).add j) = some u := news4 (flatBx_len l) fun k j hk hj u hu => by
  obtain ⟨h0, h1, h2, h3⟩ := hc k hk
  obtain ⟨g0, g1, g2, g3⟩ := flatBx_get l k hk
  rcases (by omega : j = 0 ∨ j = 1 ∨ j = 2 ∨ j = 3) with rfl | rfl | rfl | rfl
  · rw [Nat.add_zero, g0] at hu; rw [Nat.add_zero, h0]; exact hu
  · rw [g1] at hu; rw [h1]; exact hu
  · rw [g2] at hu; rw [h2]; exact hu
  · rw [g3] at hu; rw [h3]; exact hu
theorem newsPb {w : World} {b off : Nat} {l : List Bx} (hc : ∀ k (h : k < l.length), w.cell? ⟨b, off + k * 4, none⟩ = some (.int .i64 l[k].row) ∧ w.cell? ⟨b, off + k * 4 + 1, none⟩ = some (.int .i64 l[k].col) ∧ w.cell? ⟨b, off + k * 4 + 2, none⟩ = some (.string l[k].cod) ∧ w.cell? ⟨b, off + k * 4 + 3, none⟩ = some (.int .i64 l[k].cnt)) :
    ∀ j u, (flatPb l)[j]? = some u → w.cell? ((⟨b, off, none⟩ : Addr).add j) = some u := news4 (flatPb_len l) fun k j hk hj u hu => by
  obtain ⟨h0, h1, h2, h3⟩ := hc k hk
  obtain ⟨g0, g1, g2, g3⟩ := flatPb_get l k hk
  rcases (by omega : j = 0 ∨ j = 1 ∨ j = 2 ∨ j = 3) with rfl | rfl | rfl | rfl
  · rw [Nat.add_zero, g0] at hu; rw [Nat.add_zero, h0]; exact hu
  · rw [g1] at hu; rw [h1]; exact hu
  · rw [g2] at hu; rw [h2]; exact hu
  · rw [g3] at hu; rw [h3]; exact hu

set_option maxRecDepth 100000 in
theorem clonePb_any (l : List Bx) (A : Option Addr) (c : Nat) (w : World) (hf : PbsIn w A l) (h0 : 0 < l.length) (hn : l.length ≤ 1048576) :
    Calls Try.prog 89 #[.slice A l.length c] w fun e w' => PbTo w w' e l := by
  have qT : ∀ (w : World) (a : Option Addr) (n c n' c' : Nat), (binOp .eql 84 (.slice a n c) (.slice none n' c')).run Try.prog w = .ok (.bool a.isNone) w := fun w a n c n' c' => Lib.run_eql_slice_nil w _ _ a n c n' c' Try.underlying84
  have hf' := hf.next ((Below.refl w.heap.size w).alloc (Nat.le_refl _) (.cells #[] 72))
  obtain ⟨b, off, rfl, hbl, hc'⟩ := hf' h0
  obtain ⟨i0, hi, hz0, hz1, hz2⟩ := info_parts infoPb
  have HI0 := Lib.hid hi; have HZ0 := Lib.hid hz0; have HZ1 := Lib.hid hz1; have HZ2 := Lib.hid hz2
  clear hi hz0 hz1 hz2
  have HNW := Lib.hid (newsPb hc')
  have HOW : Hid ((w.alloc (.cells #[] 72)).ownsRow w.heap.size 72 4 (.slice (some ⟨w.heap.size, 0, none⟩) 0 0) 0 []) := Lib.hid (own_none4 _ (heap_new _ _) (Nat.le_refl _))
  have hmx : 0 + l.length ≤ maxLen := by unfold maxLen; omega
  clear hc' hf hf'
  go_enter Try.func89, Try.ntmps89
  go_wp2_with (at_builtin; refine wpList_append_own _ rfl _ _ 84 rfl w.heap.size 72 i0 (.agg #[.int .i64 0, .int .i64 0, .string .empty, .int .i64 0]) 4 40 Try.underlying84 HI0.out HZ0.out HZ1.out HZ2.out rfl (by decide) _ _ _ rfl HOW.out ⟨b, off, none⟩ l.length c (flatPb l) rfl (by rw [flatPb_len]; omega) HNW.out (flatPb_one l) hmx (by omega) (by simp) ?_)
  intro v' w4 hown' hgrow _
  have HB1 : Hid (Below w.heap.size w w4) := Lib.hid (((Below.refl _ _).alloc (Nat.le_refl _) _).grown hgrow (by simp) (own_lt HOW.out))
  have HO : Hid (w4.ownsRow w.heap.size 72 4 v' l.length (flatPb l)) := Lib.hid (by simpa using hown')
  clear hown' hgrow
  go_wp2
  go_ret
  exact ⟨_, rfl, HB1.out, HO.out⟩
set_option maxRecDepth 100000 in
theorem cloneBx_any (l : List Bx) (A : Option Addr) (c : Nat) (w : World) (hf : BxsIn w A l) (h0 : 0 < l.length) (hn : l.length ≤ 1048576) :
    Calls Try.prog 92 #[.slice A l.length c] w fun e w' => BxTo w w' e l := by
  have qT : ∀ (w : World) (a : Option Addr) (n c n' c' : Nat), (binOp .eql 32 (.slice a n c) (.slice none n' c')).run Try.prog w = .ok (.bool a.isNone) w := fun w a n c n' c' => Lib.run_eql_slice_nil w _ _ a n c n' c' Try.underlying32
  have hf' := hf.next ((Below.refl w.heap.size w).alloc (Nat.le_refl _) (.cells #[] 26))
  obtain ⟨b, off, rfl, hbl, hc'⟩ := hf' h0
  obtain ⟨i0, hi, hz0, hz1, hz2⟩ := info_parts infoBx
  have HI0 := Lib.hid hi; have HZ0 := Lib.hid hz0; have HZ1 := Lib.hid hz1; have HZ2 := Lib.hid hz2
  clear hi hz0 hz1 hz2
  have HNW := Lib.hid (newsBx hc')
  have HOW : Hid ((w.alloc (.cells #[] 26)).ownsRow w.heap.size 26 4 (.slice (some ⟨w.heap.size, 0, none⟩) 0 0) 0 []) := Lib.hid (own_none4 _ (heap_new _ _) (Nat.le_refl _))
  have hmx : 0 + l.length ≤ maxLen := by unfold maxLen; omega
  clear hc' hf hf'
  go_enter Try.func92, Try.ntmps92
  go_wp2_with (at_builtin; refine wpList_append_own _ rfl _ _ 32 rfl w.heap.size 26 i0 (.agg #[.string .empty, .int .i64 0, .int .i64 0, .int .i64 0]) 4 40 Try.underlying32 HI0.out HZ0.out HZ1.out HZ2.out rfl (by decide) _ _ _ rfl HOW.out ⟨b, off, none⟩ l.length c (flatBx l) rfl (by rw [flatBx_len]; omega) HNW.out (flatBx_one l) hmx (by omega) (by simp) ?_)
  intro v' w4 hown' hgrow _
  have HB1 : Hid (Below w.heap.size w w4) := Lib.hid (((Below.refl _ _).alloc (Nat.le_refl _) _).grown hgrow (by simp) (own_lt HOW.out))
  have HO : Hid (w4.ownsRow w.heap.size 26 4 v' l.length (flatBx l)) := Lib.hid (by simpa using hown')
  clear hown' hgrow
  go_wp2
  go_ret
  exact ⟨_, rfl, HB1.out, HO.out⟩
end Go.Proofs.Ytllafkeheppkjaa
