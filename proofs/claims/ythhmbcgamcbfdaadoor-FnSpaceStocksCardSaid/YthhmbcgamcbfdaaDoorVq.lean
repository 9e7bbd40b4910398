/-
  The contract of impl.FewestSpaces.
-/
import Derived.Test.YthhmbcgamcbfdaaDoorVn
import Derived.Test.YthhmbcgamcbfdaaDoorVo
import Derived.Test.YthhmbcgamcbfdaaDoorVp
namespace Go.Proofs.YthhmbcgamcbfdaaDoor
open Go.RowKit Go.Shelf
set_option linter.unusedVariables false
attribute [local go_sem] Oper.semAt_some encB BwI.w

theorem BwI.mem {ks : List Int} (x : BwI ks) : x.w ∈ ks := List.getElem_mem x.lt
/-- What a round makes of what is left and of the counts. -/
noncomputable def stpF {ks : List Int} (s : Int × (Nat → Int)) (x : BwI ks) : Int × (Nat → Int) := (s.1 - (useC ks s.1 x.w : Int) * x.w, fun j => if j = x.i then s.2 j + (useC ks s.1 x.w : Int) else s.2 j)
noncomputable def stF {ks : List Int} (N : Int) (pre : List (BwI ks)) : Int × (Nat → Int) := pre.foldl stpF (N, fun _ => 0)
theorem stF_snoc {ks : List Int} (N : Int) (pre : List (BwI ks)) (x : BwI ks) : stF N (pre ++ [x]) = stpF (stF N pre) x := by simp [stF]
def GoodS (ks : List Int) (N : Int) (s : Int × (Nat → Int)) : Prop := Can ks s.1 ∧ s.1 ≤ N ∧ ∀ j, 0 ≤ s.2 j ∧ s.2 j + s.1 ≤ N
theorem goodS_start {ks : List Int} (hp : Pos ks) {N : Int} (h : Can ks N) : GoodS ks N (N, fun _ => 0) := ⟨h, Int.le_refl _, fun j => ⟨Int.le_refl _, by simp⟩⟩
theorem goodS_step {ks : List Int} (hp : Pos ks) {N : Int} {s : Int × (Nat → Int)} (h : GoodS ks N s) (x : BwI ks) : GoodS ks N (stpF s x) := by
  have hv1 := hp _ x.mem
  obtain ⟨h1, h2⟩ := useC_spec hp hv1 h.1
  have h3 := nat_mul_nonneg hv1 (useC ks s.1 x.w)
  refine ⟨h1.2.1, by show s.1 - _ ≤ N; have := h.2.1; omega, fun j => ?_⟩
  have h4 := h.2.2 j
  show 0 ≤ (if j = x.i then s.2 j + (useC ks s.1 x.w : Int) else s.2 j) ∧ (if j = x.i then s.2 j + (useC ks s.1 x.w : Int) else s.2 j) + (s.1 - (useC ks s.1 x.w : Int) * x.w) ≤ N
  split <;> omega
theorem stF_bw {ks : List Int} (N : Int) : ∀ k : Nat, k ≤ ks.length → (stF N (bwL ks k)).1 = remF ks N k ∧ ∀ j, (stF N (bwL ks k)).2 j = if ks.length - k ≤ j ∧ j < ks.length then (cntF ks N j : Int) else 0
  | 0, _ => ⟨rfl, fun j => by rw [if_neg (by omega)]; rfl⟩
  | k + 1, hk => by
    obtain ⟨h1, h2⟩ := stF_bw (ks := ks) N k (by omega)
    have hlt : ks.length - 1 - k < ks.length := by omega
    rw [bwL_succ (show k < ks.length by omega), stF_snoc]
    have hw : (⟨ks.length - 1 - k, hlt⟩ : BwI ks).w = ks.getD (ks.length - 1 - k) 0 := by rw [getD_of hlt]; rfl
    refine ⟨?_, fun j => ?_⟩
    · show (stF N (bwL ks k)).1 - (useC ks (stF N (bwL ks k)).1 (⟨ks.length - 1 - k, hlt⟩ : BwI ks).w : Int) * (⟨ks.length - 1 - k, hlt⟩ : BwI ks).w = _
      rw [h1, hw]; rfl
    · show (if j = ks.length - 1 - k then (stF N (bwL ks k)).2 j + (useC ks (stF N (bwL ks k)).1 (⟨ks.length - 1 - k, hlt⟩ : BwI ks).w : Int) else (stF N (bwL ks k)).2 j) = _
      rw [h1, hw, h2]
      by_cases hj : j = ks.length - 1 - k
      · rw [if_pos hj, if_neg (by omega), if_pos (by omega), Int.zero_add]
        unfold cntF
        rw [hj, show ks.length - 1 - (ks.length - 1 - k) = k from by omega]
      · rw [if_neg hj]
        by_cases h3 : ks.length - k ≤ j ∧ j < ks.length
        · rw [if_pos h3, if_pos (by omega)]
        · rw [if_neg h3, if_neg (by omega)]
theorem tb_own {β : Type} (b n : Nat) (t : TypeId) (f : β → Nat → Value) : _root_.Go.Own (fun s W => Tb W b t n (f s)) := fun s X Y row hs hg hr => hs.grown hg (fun e => by
  obtain ⟨o, ho, hc⟩ := hr b e.symm
  obtain ⟨cs, h1, _⟩ := hs
  rw [h1] at ho; cases ho; cases hc)
theorem pure_own {β : Type} (p : β → Prop) : _root_.Go.Own (fun (s : β) (_ : World) => p s) := fun _ _ _ _ hs _ _ => hs
/-- The number in a box. -/
def leftAt (w : World) (b : Nat) : Nat := match w.cell? ⟨b, 0, none⟩ with | some (.int _ z) => z.toNat | _ => 0
theorem leftAt_eq {w : World} {b : Nat} {t : TypeId} {z : Int} (h : Boxed w b t (.int .i64 z)) : leftAt w b = z.toNat := by unfold leftAt; rw [h.cell]

theorem grownBy_cell (W : World) (b i : Nat) (v : Value) : W.grownBy (W.setCell ⟨b, i, none⟩ v) (some b) :=
  ⟨rfl, rfl, rfl, (KeepsWalks.setCell W _ v).size, fun k _ hk => Below.heap_setCell _ _ _ k (fun e => hk (by rw [e]))⟩
theorem keeps_below {B : Nat} {W W' : World} (h : Below B W W') (hB : B = W.heap.size) : KeepsOthers W W' := by
  subst hB
  exact ⟨h.size, fun k o hk _ => (h.block k (lt_of_heap hk)).trans hk⟩
end Go.Proofs.YthhmbcgamcbfdaaDoor
