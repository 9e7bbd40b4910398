/-
  A range over a method value, every round of which ends in the ordinary way: the receiver goes ahead of yield. What a round may change beside new blocks: its own box D and the row that D points to.
-/
import Derived.Test.YteagclokobkigaaEb
import Derived.Test.YteagclokobkigaaVi
import Derived.RangeFuncBox
import Derived.Sort.QuietIn
namespace Go.Proofs.Yteagclokobkigaa
open Go.RowKit Go.Shelf
set_option linter.unusedVariables false

/-- Box D points to block q. -/
def Pts (W : World) (D q : Nat) : Prop := ∃ v, W.cell? ⟨D, 0, none⟩ = some v ∧ v.ownBlock = some q
/-- What a round keeps. -/
structure KpD (D : Nat) (W W' : World) : Prop where
  size : W.heap.size ≤ W'.heap.size
  same : ∀ b o, b ≠ D → ¬ Pts W D b → W.heap[b]? = some o → o.isCells = true → W'.heap[b]? = some o
  pts : ∀ b, Pts W' D b → Pts W D b ∨ W.heap.size ≤ b
theorem KpD.refl (D : Nat) (W : World) : KpD D W W := ⟨Nat.le_refl _, fun _ _ _ _ h _ => h, fun _ h => .inl h⟩
theorem KpD.t {D : Nat} {X Y Z : World} (h : KpD D X Y) (k : KpD D Y Z) : KpD D X Z :=
  ⟨Nat.le_trans h.size k.size, fun b o h1 h2 h3 h4 => k.same b o h1 (fun hp => by
    rcases h.pts b hp with h5 | h5
    · exact h2 h5
    · have := lt_of_heap h3; omega) (h.same b o h1 h2 h3 h4) h4, fun b hb => by
    rcases k.pts b hb with h1 | h1
    · exact h.pts b h1
    · exact .inr (Nat.le_trans h.size h1)⟩
theorem pts_same {W W' : World} {D : Nat} (h : W'.heap[D]? = W.heap[D]?) (q : Nat) : Pts W' D q ↔ Pts W D q := by
  unfold Pts
  rw [World.cell?_of_block (a := ⟨D, 0, none⟩) h]
theorem KpD.put {D : Nat} (W : World) (l : Nat) {o : Obj} (o' : Obj) (hl : W.heap[l]? = some o) (ho : o.isCells = false) (hne : l ≠ D) : KpD D W (W.putObj l o') :=
  ⟨by simp, fun b u h1 h2 h3 h4 => (World.putObj_heap_other (fun e => by subst e; rw [h3] at hl; cases hl; rw [h4] at ho; cases ho)).trans h3,
    fun b hb => .inl ((pts_same (World.putObj_heap_other (Ne.symm hne)) b).1 hb)⟩
/-- What a round's own invariant bears: a change of one block from B on that is not what D points to. -/
def AbD (D B : Nat) (J : Nat → World → Prop) : Prop :=
  ∀ k W W' row, J k W → W.grownBy W' row → (∀ q, row = some q → B ≤ q ∧ (¬ Pts W D q ∨ ∃ o : Obj, W.heap[q]? = some o ∧ o.isCells = false)) → J k W'
/-- How a round ends. -/
def okPost (D : Nat) (I : Nat → World → Prop) (k : Nat) (W : World) : Exit → Act → World → Prop
  | .normal, _, W' => KeepsOthers W W' ∧ KpD D W W' ∧ I k W'
  | _, _, _ => False
/-- The iterator g, given rv ahead of yield, hands over encs 0, .., encs (N - 1). -/
def Hands (n : Nat) (g : Nat) (rv : Value) (encs : Nat → Array Value) (D N : Nat) (w : World) : Prop :=
  ∀ (l : Nat) (J : Nat → World → Prop) (W : World), Below w.heap.size w W → AbD D W.heap.size J →
    (∀ k W1, J k W1 → k < N → YieldAt Fence.wide (n - 1) Try.prog l (encs k) W1 fun e W' => e = .returned (.bool true) ∧ J (k + 1) W' ∧ KpD D W1 W') →
    J 0 W →
    CallsIn Fence.wide n Try.prog g #[rv, .func (.yield l) #[] #[]] W fun e W' => (∃ v, e = .returned v) ∧ J N W'

theorem range_bound {n : Nat} {g : Operand} {ps : Array Tmp} {assign body : Code} {Q : Exit → Act → World → Prop} {a : Act} {w w0 : World}
    (h1 : 1 ≤ n) {gf : Nat} {rv : Value} (hg : a.eval g = .func (.func gf) #[rv] #[]) (eg : ∀ args w, (callFunc gf args).run Try.prog w = .ok (.enter gf args) w)
    {encs : Nat → Array Value} {D N : Nat} (hseq : Hands (n - 1) gf rv encs D N w0) (hb0 : Below w0.heap.size w0 w) (hD : D < w.heap.size) (hps : ∀ k, (encs k).size = ps.size)
    (I : Nat → World → Prop) (hI : AbD D w.heap.size I) (h0 : I 0 w) (a₁ : Nat → Act)
    (hassign : ∀ (l k : Nat) (W : World) (K : Act → World → Prop), K (a₁ k) W →
      assign.wpIn (Fence.wide.inRound l) (n - 1 - 1) Try.prog (Exit.then K (fun _ _ _ => False)) { tmps := (ps.zip (encs k)).foldl (fun t (p, v) => t.setIfInBounds p v) a.tmps, defers := [] } W)
    (hbody : ∀ (l k : Nat) (W : World), I k W → k < N → body.wpIn (Fence.wide.inRound l) (n - 1 - 1) Try.prog (okPost D I (k + 1) W) (a₁ k) W)
    (hdone : ∀ (E : Nat) (W : World), w.heap.size ≤ E → I N W → W.heap[E]? = some (.deferred (some [])) → Q .normal { a with defers := { target := .collected E, args := #[] } :: a.defers } W) :
    (Code.rangeFunc g ps assign body).wpIn Fence.wide n Try.prog Q a w := by
  refine wpIn_rangeFunc fun fn hfn => ?_
  let rc : LoopState → Loop := fun st => { state := st, pending := none, fn := fn, tmps := a.tmps, params := ps, assign := assign, body := body, defers := w.heap.size }
  obtain ⟨W1, hW1⟩ : ∃ W1 : World, W1 = (w.alloc (.deferred (some []))).alloc (.loop (rc .ready)) := ⟨_, rfl⟩
  have z1 : W1.heap.size = w.heap.size + 1 + 1 := by rw [hW1, World.size_alloc, World.size_alloc]
  have kb : Below w.heap.size w W1 := by rw [hW1]; exact ((Below.refl _ _).alloc (Nat.le_refl _) _).alloc (by simp) _
  have eL : W1.heap[w.heap.size + 1]? = some (.loop (rc .ready)) := by
    have := World.alloc_heap_new (w.alloc (.deferred (some []))) (.loop (rc .ready))
    rw [World.size_alloc] at this
    rw [hW1]; exact this
  have eK : W1.heap[w.heap.size]? = some (.deferred (some [])) := by
    rw [hW1]; exact (Below.heap_alloc _ _ _ (by simp)).trans (World.alloc_heap_new w _)
  have i1 : I 0 W1 := by
    rw [hW1]
    exact hI 0 _ _ none (hI 0 _ _ none h0 (World.grownBy_alloc w _ none) (fun q e => by cases e)) (World.grownBy_alloc _ _ none) (fun q e => by cases e)
  refine ⟨w.heap.size + 1, [{ target := .collected w.heap.size, args := #[] }], W1, { target := .fn (.func gf) #[], args := #[rv, .func (.yield (w.heap.size + 1)) #[] #[]] }, W1, gf, #[rv, .func (.yield (w.heap.size + 1)) #[] #[]], W1, ?_, ?_, fun _ _ => trivial, ?_, fun _ => h1, ?_⟩
  · rw [hW1]; exact run_enterLoop_outer _ _ _ _ _
  · simp only [resolve, hg]
    simp [go_sem]
  · simp [invoke, go_sem, eg]
  -- the two blocks of the loop lie on beside the caller's invariant
  refine (hseq (w.heap.size + 1) (fun k W => I k W ∧ W.heap[w.heap.size + 1]? = some (.loop (rc .ready)) ∧ W.heap[w.heap.size]? = some (.deferred (some []))) W1 (hb0.trans (kb.mono hb0.size)) ?_ ?_ ⟨i1, eL, eK⟩).mono ?_
  · rintro k A B row ⟨hi, hl, hk⟩ hgr hr
    have far : ∀ b, b < W1.heap.size → b < A.heap.size → B.heap[b]? = A.heap[b]? := fun b hb hbA => hgr.block b hbA (fun e => by have := (hr b e.symm).1; omega)
    refine ⟨hI k A B row hi hgr (fun q e => ⟨by have := (hr q e).1; omega, (hr q e).2⟩), ?_, ?_⟩
    · exact (far _ (by omega) (lt_of_heap hl)).trans hl
    · exact (far _ (by omega) (lt_of_heap hk)).trans hk
  · rintro k W ⟨hi, hl, hk⟩ hlt
    have hsz := lt_of_heap hl
    have hy := run_yield (P := Try.prog) (args := encs k) hl (hps k)
    refine ⟨fn, _, assign, body, hy, roundIn_of_wpIn hfn (hassign _ k W _ ⟨_, run_beginRound hl rfl, ?_⟩)⟩
    obtain ⟨W2, hW2⟩ : ∃ W2 : World, W2 = W.putObj (w.heap.size + 1) (.loop (rc .busy)) := ⟨_, rfl⟩
    have l2 : W2.heap[w.heap.size + 1]? = some (.loop (rc .busy)) := by rw [hW2]; exact World.putObj_heap_same hsz
    have k2 : W2.heap[w.heap.size]? = some (.deferred (some [])) := by rw [hW2]; exact (World.putObj_heap_other (by omega)).trans hk
    have i2 : I k W2 := by
      rw [hW2]; exact hI k _ _ _ hi (grownBy_putObj' W _ _) (fun q e => by cases e; exact ⟨by omega, .inr ⟨_, hl, rfl⟩⟩)
    have p2 : KpD D W W2 := by rw [hW2]; exact KpD.put W _ _ hl rfl (by omega)
    show body.wpIn _ _ _ _ _ (W.putObj (w.heap.size + 1) (.loop (rc .busy)))
    rw [← hW2]
    refine wpIn_mono (hbody _ k W2 i2 hlt) ?_
    intro e a3 W3 hp
    cases e with
    | normal =>
      obtain ⟨ko, kp, i3⟩ := hp
      have l3 := ko.same _ _ l2 rfl
      have k3 := ko.same _ _ k2 rfl
      have hend := run_endRound (P := Try.prog) none l3
      refine ⟨_, _, hend, rfl, ⟨?_, ?_, ?_⟩, ?_⟩
      · exact hI _ _ _ _ i3 (grownBy_putObj' W3 _ _) (fun q e => by cases e; exact ⟨by omega, .inr ⟨_, l3, rfl⟩⟩)
      · exact World.putObj_heap_same (lt_of_heap l3)
      · exact (World.putObj_heap_other (by omega)).trans k3
      · exact (p2.t kp).t (KpD.put W3 _ _ l3 rfl (by omega))
    | ret => exact hp.elim
    | exit id => exact hp.elim
    | goto t => exact hp.elim
    | panic c => exact hp.elim
    | outgrown => exact hp.elim
  · rintro e W2 ⟨⟨v, rfl⟩, hi, hl, hk⟩
    refine ⟨none, _, run_endLoop (P := Try.prog) hl (by intro h; cases h), hdone _ _ (Nat.le_refl _) ?_ ((World.putObj_heap_other (by omega)).trans hk)⟩
    exact hI _ _ _ _ hi (grownBy_putObj' W2 _ _) (fun q e => by cases e; exact ⟨by omega, .inr ⟨_, hl, rfl⟩⟩)
end Go.Proofs.Yteagclokobkigaa
