/-
  Maps of ints to ints, as functions: what a block that is a map holds, and the look-up, the store, the deletion and the sorted keys of it.
-/
import Derived.Test.YtljakcfdjcjdbaaPe
import Derived.Maps.OwnSet
import Derived.Maps.Ext
import Derived.Lib.SlKeysI
namespace Go.Proofs.Ytljakcfdjcjdbaa
open Go.RowKit Go.Maps
set_option linter.unusedVariables false

def WF (a : Int) : Prop := (Lit.int .i64 a).wf = true
theorem wf_of {a : Int} (h1 : -9223372036854775808 ≤ a) (h2 : a ≤ 9223372036854775807) : WF a := by
  show (decide (IntKind.min .i64 ≤ a) && decide (a ≤ IntKind.max .i64)) = true
  rw [Bool.and_eq_true, decide_eq_true_iff, decide_eq_true_iff]
  exact ⟨h1, h2⟩
theorem kI : Keyed Try.prog 3 := int_keyed Try.underlying3
theorem kOf {a : Int} (h : WF a) : keyOf Try.prog 3 (.int .i64 a) = some (.int .i64 a) := keyOf_int_mk Try.underlying3 h
theorem pE {a : Int} (h : WF a) : plainElem (H := Unit) Try.prog 3 (.int .i64 a) = some (.lit (.int .i64 a), []) := plainElem_int Try.underlying3 h
theorem uM : Try.prog.underlying 76 = some (.map 3 3) := by first | exact Try.underlying76 | kernel_rfl
theorem zI (w : World) : (zeroValue 3).run Try.prog w = .ok (.int .i64 0) w := by first | exact Try.zeroValue3 w | exact Try.zeroValue3 _ | kernel_rfl
/-- Block b is a map of at most N entries; it holds what m says. -/
def IsMp (w : World) (b N : Nat) (m : Int → Option Int) : Prop := ∃ D : DataW Unit, w.ownsMap Try.prog 3 (plainElem Try.prog 3) b N D ∧
  (∀ a, WF a → has D (.int .i64 a) = (m a).isSome ∧ D.atKey (.int .i64 a) (.lit (.int .i64 0)) = .lit (.int .i64 ((m a).getD 0))) ∧ ∀ a, (m a).isSome = true → WF a
theorem IsMp.lt {w : World} {b N : Nat} {m : Int → Option Int} (h : IsMp w b N m) : b < w.heap.size := by obtain ⟨D, h1, _⟩ := h; exact h1.lt
theorem IsMp.kept {w w' : World} {b N : Nat} {m : Int → Option Int} {row : Option Nat} (h : IsMp w b N m) (hg : w.grownBy w' row) (hne : some b ≠ row) : IsMp w' b N m := by
  obtain ⟨D, h1, h2⟩ := h; exact ⟨D, h1.kept hg hne, h2⟩
theorem IsMp.next {w w' : World} {b N : Nat} {m : Int → Option Int} (h : IsMp w b N m) (hb : Below w.heap.size w w') : IsMp w' b N m :=
  h.kept (row := none) ⟨hb.os, hb.tape, hb.output, hb.size, fun k hk _ => hb.block k hk⟩ (by simp)
theorem IsMp.below {w w' : World} {b N B : Nat} {m : Int → Option Int} (h : IsMp w b N m) (hb : Below B w w') (hB : b < B) : IsMp w' b N m := by
  obtain ⟨D, ⟨es, clock, h1, h2⟩, h3⟩ := h
  exact ⟨D, ⟨es, clock, (hb.block b hB).trans h1, h2⟩, h3⟩
theorem IsMp.cong {w : World} {b N : Nat} {m m' : Int → Option Int} (h : IsMp w b N m) (e : ∀ a, m a = m' a) : IsMp w b N m' := by
  have : m = m' := funext e
  subst this; exact h
theorem IsMp.mono {w : World} {b N N' : Nat} {m : Int → Option Int} (h : IsMp w b N m) (hN : N ≤ N') : IsMp w b N' m := by
  obtain ⟨D, h1, h2⟩ := h; exact ⟨D, h1.mono hN, h2⟩
theorem IsMp.made (w : World) : IsMp (w.alloc (.map #[] 0)) w.heap.size 0 (fun _ => none) :=
  ⟨.map [], World.ownsMap_made w _ _ _, fun a _ => ⟨rfl, rfl⟩, fun a h => by cases h⟩
set_option maxRecDepth 100000 in
theorem IsMp.look {w : World} {b N : Nat} {m : Int → Option Int} (h : IsMp w b N m) {a : Int} (ha : WF a) : (Instr.lookup 76 (.map (some b)) (.int .i64 a) false).run Try.prog w = .ok (.int .i64 ((m a).getD 0)) w := by
  obtain ⟨D, h1, h2, _⟩ := h
  obtain ⟨c, hr, hc, _⟩ := h1.lookup_int kI uM Try.underlying3 (zI w) (kOf ha)
  rw [(h2 a ha).2] at hc
  have e := (Lit.int.inj (DataW.lit.inj hc)).2
  rw [hr, e]
def upM (m : Int → Option Int) (k v : Int) : Int → Option Int := fun a => if a = k then some v else m a
def delM (m : Int → Option Int) (k : Int) : Int → Option Int := fun a => if a = k then none else m a
theorem upM_same (m : Int → Option Int) (k v : Int) : upM m k v k = some v := if_pos rfl
theorem upM_other {m : Int → Option Int} {k v a : Int} (h : a ≠ k) : upM m k v a = m a := if_neg h
theorem delM_same (m : Int → Option Int) (k : Int) : delM m k k = none := if_pos rfl
theorem delM_other {m : Int → Option Int} {k a : Int} (h : a ≠ k) : delM m k a = m a := if_neg h
theorem isKey (a : Int) : WideAt.IsKeyLit (.int .i64 a) := by first | trivial | simp [WideAt.IsKeyLit]
theorem lit_ne {a k : Int} (h : a ≠ k) : Lit.int .i64 a ≠ Lit.int .i64 k := fun e => h (by injection e)
theorem IsMp.putD {m : Int → Option Int} {D : DataW Unit} {k v : Int} (hm : IsMap D) (wk : WF k) (h2 : (∀ a, WF a → has D (.int .i64 a) = (m a).isSome ∧ D.atKey (.int .i64 a) (.lit (.int .i64 0)) = .lit (.int .i64 ((m a).getD 0))) ∧ ∀ a, (m a).isSome = true → WF a) :
    (∀ a, WF a → has (D.put (.int .i64 k) (.lit (.int .i64 v))) (.int .i64 a) = (upM m k v a).isSome ∧ (D.put (.int .i64 k) (.lit (.int .i64 v))).atKey (.int .i64 a) (.lit (.int .i64 0)) = .lit (.int .i64 ((upM m k v a).getD 0))) ∧ ∀ a, (upM m k v a).isSome = true → WF a := by
  refine ⟨fun a ha => ?_, fun a h => ?_⟩
  · by_cases e : a = k
    · subst e
      rw [upM_same, has_put_same hm (isKey a), atKey_put_same hm (isKey a)]
      exact ⟨rfl, rfl⟩
    · rw [upM_other e, has_put_other (lit_ne e), atKey_put_other (lit_ne e)]
      exact h2.1 a ha
  · by_cases e : a = k
    · subst e; exact wk
    · rw [upM_other e] at h; exact h2.2 a h
theorem wpList_put {ops : Array Oper} {rest : List Oper} {o : Oper} {a : Act} {Q : Exit → Act → World → Prop} (w : World)
    (hg : o.guard = none) (om ox ov : Operand) (hop : o.op = Op.mapUpdate 76 om ox ov) (b N : Nat) (m : Int → Option Int) (hm : a.eval om = .map (some b)) (h : IsMp w b N m) (hn : N < maxLen)
    (k v : Int) (hx : a.eval ox = .int .i64 k) (hv : a.eval ov = .int .i64 v) (wk : WF k) (wv : WF v) (hK : ∀ w', IsMp w' b (N + 1) (upM m k v) → w.grownBy w' (some b) → wpList Try.prog ops Q rest (a.put o.dst undef) w') : wpList Try.prog ops Q (o :: rest) a w := by
  obtain ⟨D, h1, h2⟩ := h
  refine wpList_mapUpdate_own w hg om ox ov 76 hop 3 3 kI uM _ b N D hm h1 hn _ _ (.int .i64 k) hx hv (kOf wk) (.lit (.int .i64 v)) [] (pE wv) ?_
  intro w' h3 h4
  exact hK w' ⟨_, h3, IsMp.putD h1.isMap wk h2⟩ h4
theorem IsMp.delD {m : Int → Option Int} {D : DataW Unit} {k : Int} (h2 : (∀ a, WF a → has D (.int .i64 a) = (m a).isSome ∧ D.atKey (.int .i64 a) (.lit (.int .i64 0)) = .lit (.int .i64 ((m a).getD 0))) ∧ ∀ a, (m a).isSome = true → WF a) :
    (∀ a, WF a → has (D.del (.int .i64 k)) (.int .i64 a) = (delM m k a).isSome ∧ (D.del (.int .i64 k)).atKey (.int .i64 a) (.lit (.int .i64 0)) = .lit (.int .i64 ((delM m k a).getD 0))) ∧ ∀ a, (delM m k a).isSome = true → WF a := by
  refine ⟨fun a ha => ?_, fun a h => ?_⟩
  · by_cases e : a = k
    · subst e
      rw [delM_same, has_del_same, atKey_del_same]
      exact ⟨rfl, rfl⟩
    · rw [delM_other e, has_del_other (lit_ne e), atKey_del_other (lit_ne e)]
      exact h2.1 a ha
  · by_cases e : a = k
    · subst e; rw [delM_same] at h; cases h
    · rw [delM_other e] at h; exact h2.2 a h
theorem wpList_del {ops : Array Oper} {rest : List Oper} {o : Oper} {a : Act} {Q : Exit → Act → World → Prop} (w : World)
    (hg : o.guard = none) (om ox : Operand) (hop : o.op = Op.call { callee := Callee.builtin Builtin.delete, args := #[om, ox], argTypes := #[76, 3] }) (b N : Nat) (m : Int → Option Int) (hm : a.eval om = .map (some b)) (h : IsMp w b N m)
    (k : Int) (hx : a.eval ox = .int .i64 k) (wk : WF k) (hK : ∀ w', IsMp w' b N (delM m k) → w.grownBy w' (some b) → wpList Try.prog ops Q rest (a.put o.dst (.tuple #[])) w') : wpList Try.prog ops Q (o :: rest) a w := by
  obtain ⟨D, h1, h2⟩ := h
  refine wpList_delete_own w hg om ox 76 3 hop 3 kI uM _ b N D hm h1 _ (.int .i64 k) hx (kOf wk) ?_
  intro w' h3 h4
  exact hK w' ⟨_, h3, IsMp.delD h2⟩ h4.grown
/-- A rising list of just the keys is what the keys are, sorted. -/
theorem IsMp.keys {w : World} {b N : Nat} {m : Int → Option Int} {D : DataW Unit} (h1 : w.ownsMap Try.prog 3 (plainElem Try.prog 3) b N D) (h2 : ∀ a, WF a → has D (.int .i64 a) = (m a).isSome) (h3 : ∀ a, (m a).isSome = true → WF a)
    {K : List Int} (hK : K.Pairwise (· < ·)) (hm : ∀ a, a ∈ K ↔ (m a).isSome = true) {ss : List Int} (hp : ss.Perm (intKeys D)) : ss.mergeSort (fun x y => decide (x ≤ y)) = K := by
  have hI : ∀ es : List (Lit × DataW Unit), D = .map es → (∀ p ∈ es, ∃ x, p.1 = .int .i64 x ∧ WF x) := fun es e p hp => by
    obtain ⟨es', clock, hb, F, _, hD⟩ := h1
    rw [hD] at e
    injection e with e
    rw [← e] at hp
    have := fit_keys F p (by
      have h5 := (Go.WideShapes.sorted_perm (es'.toList.map (Go.WideElems.rg Try.prog 3 (plainElem Try.prog 3)))).mem_iff.1 hp
      exact h5)
    obtain ⟨v, hv⟩ := this
    obtain ⟨x, _, hx, hw⟩ := Maps.keyOf_i64 Try.underlying3 hv
    exact ⟨x, hx, hw⟩
  obtain ⟨es, hD, hap⟩ := h1.tidy kI
  have hN : K.Nodup := hK.imp (fun {a b} h e => by subst e; exact absurd h (Int.lt_irrefl _))
  have hPK : K.Perm (intKeys D) := by
    rw [hD]
    refine perm_intKeys hap (fun p hp => ?_) hN fun x => ?_
    · obtain ⟨x, hx, _⟩ := hI es hD p hp
      exact ⟨x, hx⟩
    · rw [hm x, ← hD]
      constructor
      · intro h; rw [h2 x (h3 x h)]; exact h
      · intro h
        have hw : WF x := by
          rw [hD, has_eq, List.any_eq_true] at h
          obtain ⟨p, hp, hs⟩ := h
          obtain ⟨y, hy, hwy⟩ := hI es hD p hp
          rw [hy] at hs
          have : y = x := by simpa [Lit.sameKey] using hs
          subst this; exact hwy
        rw [h2 x hw] at h; exact h
  have hs : K.mergeSort leI = K := List.mergeSort_of_pairwise (hK.imp (fun {a b} h => by simp only [leI, decide_eq_true_eq]; omega))
  show ss.mergeSort leI = K
  rw [mergeSort_of_perm_i (hp.trans hPK.symm), hs]
end Go.Proofs.Ytljakcfdjcjdbaa
