/-
  A range over slices.Backward whose body is told, in each round, which round it is: what stands there for round d, and no other.
-/
import Derived.Test.YtljakcfdjcjdbaaVn
import Derived.Test.YtljakcfdjcjdbaaPw
namespace Go.Proofs.Ytljakcfdjcjdbaa
open Go.RowKit Go.Shelf
set_option linter.unusedVariables false
attribute [local go_sem] Oper.semAt_some encB BwI.w

/-- The d-th index from behind. -/
def bwX {ks : List Int} {d : Nat} (h : d < ks.length) : BwI ks := ⟨ks.length - 1 - d, by omega⟩
set_option maxRecDepth 100000 in
set_option maxHeartbeats 2000000 in
theorem back_steps (n : Nat) (hn : 2 ≤ n) (bk b off : Nat) (ks : List Int) (c l : Nat) (W : World) (ck : W.cell? ⟨bk, 0, none⟩ = some (.slice (some ⟨b, off, none⟩) ks.length c)) (hc : ∀ k (h : k < ks.length), W.cell? ⟨b, off + k, none⟩ = some (.int .i64 ks[k])) (hl : ks.length ≤ 1048576)
    (J : Nat → World → Prop) (hY : ∀ k (hk : k < ks.length) W1, J k W1 → YieldAt Fence.wide (n - 1) Try.prog l (encB ks (bwX hk)) W1 (fun e W' => e = .returned (.bool true) ∧ J (k + 1) W' ∧ KpL (fun q => q = bk ∨ q = b) W1 W')) (h0 : J 0 W) :
    CallsIn Fence.wide n Try.prog 89 (#[.func (.yield l) #[] #[]] ++ #[.pointer (some ⟨bk, 0, none⟩)]) W fun e W' => (∃ v, e = .returned v) ∧ J ks.length W' := by
  have HC := Lib.hid hc
  have HY := Lib.hid hY
  have H0 := Lib.hid h0
  have HCK := Lib.hid ck
  clear hY h0 hc
  refine callsIn_of_wp Try.func89 rfl trivial ?_ rfl
  simp only [Try.ntmps89, List.size_toArray, List.length_cons, List.length_nil, Nat.reduceAdd, Nat.reduceSub, Array.replicate_succ, Array.replicate_zero, List.push_toArray, List.append_toArray, List.nil_append, List.cons_append]
  gi_wp2
  gi_loopw [3] (fun i wr => ∃ k : Nat, k ≤ ks.length ∧ i = .int .i64 ((ks.length : Int) - 1 - (k : Int)) ∧ J k wr ∧ KpL (fun q => q = bk ∨ q = b) W wr) (fun i _ => (RowKit.intOf i + 1).toNat)
  case atStart => exact ⟨0, Nat.zero_le _, by simp, H0.out, KpL.refl _ _⟩
  case round =>
    obtain ⟨k, hk, rfl, hJs, hkp⟩ := hrel
    by_cases hlt : k < ks.length
    · obtain ⟨fn, tmps, assign, body, hy, hR⟩ := HY.out k hlt wr hJs
      obtain ⟨j, hj⟩ : ∃ j, j = ks.length - 1 - k := ⟨_, rfl⟩
      have hji : (ks.length : Int) - 1 - (k : Int) = (j : Int) := by omega
      have hjl : j < ks.length := by omega
      have hjl' : (j : Int) < (ks.length : Int) := by omega
      have hj0 : (0 : Int) ≤ (j : Int) := by omega
      have e0 := (hkp.cell (i := off + j) (.inr rfl)).trans (HC.out j hjl)
      have ek := (hkp.cell (i := 0) (.inl rfl)).trans HCK.out
      have hy2 : (Instr.yield l (encB ks ⟨j, hjl⟩)).run Try.prog wr = .ok (.round l fn tmps assign body) wr := by
        subst hj; exact hy
      have HN : Hid ((ks.length : Int) - 1 - ((k + 1 : Nat) : Int) = (j : Int) - 1) := Lib.hid (by omega)
      dsimp only [encB, BwI.w] at hy2
      have HKP := Lib.hid hkp
      rw [hji]
      clear hkp hJs hj hji ck hy
      gi_wp2
      refine ⟨fun _ => by omega, ?_⟩
      refine hR.mono ?_
      rintro e W3 ⟨rfl, hJ3, hk3⟩
      have HJ4 := Lib.hid hJ3
      have HK4 := Lib.hid (HKP.out.t hk3)
      clear hJ3 hk3 hy2 e0 ek
      gi_wp2
      go_roundw
      case rel => exact ⟨k + 1, by omega, by rw [HN.out], HJ4.out, HK4.out⟩
      case measure => simp [RowKit.intOf] <;> omega
    · obtain rfl : k = ks.length := by omega
      have hji : (ks.length : Int) - 1 - (ks.length : Int) = -1 := by omega
      have HJ4 := Lib.hid hJs
      rw [hji]
      clear hJs hkp hji ck
      gi_wp2
      go_end0
      exact ⟨⟨_, rfl⟩, HJ4.out⟩
/-- The two books of the loop, at B and B + 1, are as they were. -/
def Books (B : Nat) (X Y : World) : Prop := X.heap.size ≤ Y.heap.size ∧ ∀ k, (k = B ∨ k = B + 1) → Y.heap[k]? = X.heap[k]?
theorem Books.grown {B : Nat} {X Y : World} {row : Option Nat} (h : X.grownBy Y row) (hB : B + 1 < X.heap.size) (hr : ∀ r, row = some r → r < B) : Books B X Y :=
  ⟨h.size, fun k hk => h.block k (by omega) (fun e => by have := hr k e.symm; omega)⟩
theorem Books.refl (B : Nat) (X : World) : Books B X X := ⟨Nat.le_refl _, fun _ _ => rfl⟩
theorem Books.t {B : Nat} {X Y Z : World} (h : Books B X Y) (k : Books B Y Z) : Books B X Z := ⟨Nat.le_trans h.1 k.1, fun i hi => (k.2 i hi).trans (h.2 i hi)⟩
set_option maxHeartbeats 1000000 in
/-- The statement itself. -/
theorem wpIn_back {n : Nat} (hn : 4 ≤ n) {g : Operand} {ps : Array Tmp} {assign body : Code} {Q : Exit → Act → World → Prop} {a : Act} {w : World} (bk b off : Nat) (ks : List Int) (c : Nat)
    (hg : a.eval g = .func (.func 89) #[] #[.pointer (some ⟨bk, 0, none⟩)]) (hk : Boxed w bk 31 (.slice (some ⟨b, off, none⟩) ks.length c)) (hb : b < w.heap.size)
    (hc : ∀ k (h : k < ks.length), w.cell? ⟨b, off + k, none⟩ = some (.int .i64 ks[k])) (hl : ks.length ≤ 1048576) (hps : ps.size = 2)
    (I : Nat → World → Prop) (hI : OwnFrom w.heap.size I) (h0 : I 0 w) (a₁ : BwI ks → Act)
    (hassign : ∀ (l : Nat) (x : BwI ks) (W : World) (K : Act → World → Prop), K (a₁ x) W → assign.wpIn (Fence.wide.inRound l) (n - 1 - 1) Try.prog (Exit.then K (fun _ _ _ => False)) { tmps := (ps.zip (encB ks x)).foldl (fun t (p, v) => t.setIfInBounds p v) a.tmps, defers := [] } W)
    (hbody : ∀ (l d : Nat) (hd : d < ks.length) (W : World), w.heap.size + 1 < W.heap.size → I d W → body.wpIn (Fence.wide.inRound l) (n - 1 - 1) Try.prog (fun e _ W' => e = .normal ∧ Books w.heap.size W W' ∧ KpL (fun q => q = bk ∨ q = b) W W' ∧ I (d + 1) W') (a₁ (bwX hd)) W)
    (hdone : ∀ (D : Nat) (W : World), w.heap.size ≤ D → I ks.length W → W.heap[D]? = some (.deferred (some [])) → Q .normal { a with defers := { target := .collected D, args := #[] } :: a.defers } W) :
    (Code.rangeFunc g ps assign body).wpIn Fence.wide n Try.prog Q a w := by
  have hbk := hk.lt
  refine wpIn_rangeFunc ?_
  intro fn hfn
  obtain ⟨R, hR⟩ : ∃ R : LoopState → Loop, R = fun st => { state := st, pending := none, fn, tmps := a.tmps, params := ps, assign, body, defers := w.heap.size } := ⟨_, rfl⟩
  obtain ⟨V, hV⟩ : ∃ V : World, V = (w.alloc (.deferred (some []))).alloc (.loop (R .ready)) := ⟨_, rfl⟩
  have v1 : V.heap[w.heap.size + 1]? = some (.loop (R .ready)) := by
    have h := heap_new (w.alloc (.deferred (some []))) (.loop (R .ready))
    rw [World.size_alloc, ← hV] at h; exact h
  have bV : Below w.heap.size w V := by rw [hV]; exact ((Below.refl _ _).alloc (Nat.le_refl _) _).alloc (by simp) _
  have v0 : V.heap[w.heap.size]? = some (.deferred (some [])) := by
    have h := heap_new w (.deferred (some []))
    rw [hV]
    exact (((Below.refl _ (w.alloc (.deferred (some [])))).alloc (Nat.le_refl _) (.loop (R .ready))).block _ (lt_of_heap h)).trans h
  have iV : I 0 V := by rw [hV]; exact hI.alloc _ (hI.alloc _ h0)
  refine ⟨w.heap.size + 1, [{ target := .collected w.heap.size, args := #[] }], V, { target := .fn (.func 89) #[.pointer (some ⟨bk, 0, none⟩)], args := #[.func (.yield (w.heap.size + 1)) #[] #[]] }, V, 89, #[.func (.yield (w.heap.size + 1)) #[] #[]] ++ #[.pointer (some ⟨bk, 0, none⟩)], V, ?_, ?_, ?_, ?_, ?_, ?_⟩
  · rw [hV, hR]; exact run_enterLoop_outer _ _ _ _ _
  · simp only [resolve, hg]
    simp [go_sem]
  · intro f' hf'
    simp [Target.leads] at hf'; subst hf'; trivial
  · have eg := enters_of Try.func89 (by kernel_rfl) rfl
    simp [invoke, go_sem, eg]
  · intro _; omega
  refine (back_steps (n - 1) (by omega) bk b off ks c (w.heap.size + 1) V ((bV.cell (p := ⟨bk, 0, none⟩) hbk).trans hk.cell) (fun k h => (bV.cell (p := ⟨b, off + k, none⟩) hb).trans (hc k h)) hl
    (fun d W => I d W ∧ W.heap[w.heap.size + 1]? = some (.loop (R .ready)) ∧ W.heap[w.heap.size]? = some (.deferred (some []))) ?_ ⟨iV, v1, v0⟩).mono ?_
  · rintro d hd W ⟨hi, hw1, hw0⟩
    have hlt := lt_of_heap hw1
    have hy := run_yield (P := Try.prog) (args := encB ks (bwX hd)) hw1 (by rw [hR]; exact hps.symm)
    rw [hR] at hy
    refine ⟨fn, _, assign, body, hy, roundIn_of_wpIn hfn (hassign _ _ W _ ⟨_, run_beginRound hw1 (by rw [hR]), ?_⟩)⟩
    -- the record says that a round is under way
    obtain ⟨U, hU⟩ : ∃ U : World, U = W.putObj (w.heap.size + 1) (.loop { R .ready with state := .busy }) := ⟨_, rfl⟩
    have u1 : U.heap[w.heap.size + 1]? = some (.loop { R .ready with state := .busy }) := by rw [hU]; exact World.putObj_heap_same hlt
    have u0 : U.heap[w.heap.size]? = some (.deferred (some [])) := by rw [hU]; exact (World.putObj_heap_other (by omega)).trans hw0
    have iU : I d U := by rw [hU]; exact hI.putObj _ hi (by omega) hw1 rfl
    have kU : KpL (fun q => q = bk ∨ q = b) W U := fun q hq => by
      rw [hU]; exact World.putObj_heap_other (by rcases hq with rfl | rfl <;> omega)
    rw [← hU]
    refine wpIn_mono (hbody _ d hd U (lt_of_heap u1) iU) ?_
    rintro e a3 X ⟨rfl, hbk3, hkp3, hi3⟩
    have x1 := (hbk3.2 _ (.inr rfl)).trans u1
    have x0 := (hbk3.2 _ (.inl rfl)).trans u0
    have hr := run_endRound (P := Try.prog) none x1
    rw [hR] at hr x1
    refine ⟨_, _, hr, rfl, ⟨hI.putObj _ hi3 (by omega) x1 rfl, ?_, ?_⟩, ?_⟩
    · rw [hR]; exact World.putObj_heap_same (lt_of_heap x1)
    · exact (World.putObj_heap_other (by omega)).trans x0
    · refine kU.t (hkp3.t fun q hq => World.putObj_heap_other (by rcases hq with rfl | rfl <;> omega))
  · rintro e X ⟨⟨v, rfl⟩, hi, x1, x0⟩
    have hr := run_endLoop (P := Try.prog) x1 (by rw [hR]; simp)
    rw [hR] at hr
    exact ⟨none, _, hr, hdone _ _ (Nat.le_refl _) (hI.putObj _ hi (by omega) x1 rfl) ((World.putObj_heap_other (by omega)).trans x0)⟩
end Go.Proofs.Ytljakcfdjcjdbaa
