/-
  The contract of impl.MissingSums.
-/
import Derived.Test.YthhmbcgamcbfdaaVk
namespace Go.Proofs.Ythhmbcgamcbfdaa
open Go.RowKit Go.Shelf
set_option linter.unusedVariables false
attribute [local go_sem] Oper.semAt_some encS

theorem row_cells {W : World} {n₀ size k j : Nat} {e : TypeId} {v : Value} {xs : List Value} {o : Obj} (h : W.ownsRow n₀ e size v k xs) (hj : v.ownBlock = some j) (ho : W.heap[j]? = some o) : ∃ cur, o = .cells cur e (0, 0) := by
  rcases h.2 with ⟨rfl, _⟩ | ⟨g, cap, cur, rfl, _, hgb, _⟩
  · simp [Value.ownBlock] at hj
  · obtain rfl : g = j := by simpa [Value.ownBlock] using hj
    rw [hgb] at ho; cases ho; exact ⟨_, rfl⟩
theorem row_keeps {W W' : World} {n₀ size k : Nat} {e : TypeId} {v : Value} {xs : List Value} (h : W.ownsRow n₀ e size v k xs) (hg : W.grownBy W' v.ownBlock) : KeepsOthers W W' :=
  KeepsOthers.of_grownBy hg fun j o ej hj => by obtain ⟨cur, rfl⟩ := row_cells h ej hj; rfl
theorem row_kpb {B : Nat} {W W' : World} {n₀ size k : Nat} {v : Value} {xs : List Value} (h : W.ownsRow n₀ 3 size v k xs) (hg : W.grownBy W' v.ownBlock) : KpB B W W' :=
  KpB.grown hg fun r hr cs fr hh => by obtain ⟨cur, e⟩ := row_cells h hr hh; simp at e

set_option maxRecDepth 100000 in
set_option maxHeartbeats 2000000 in
theorem implMissingSums_any (l : List Int) (A : Option Addr) (c : Nat) (n : Int) (w : World) (hf : IntsIn w A l) (hlen : l.length ≤ 1048576) :
    Calls Try.prog 9 #[.slice A l.length c, .int .i64 n] w fun e w' => ∃ v T, e = .returned (.tuple #[v, .bool (wAsk l n)]) ∧ Below w.heap.size w w' ∧ w'.ownsRow w.heap.size T 1 v (missV l n).length (intsZ (missV l n)) := by
  have HF := Lib.hid hf; clear hf
  cases ha : wAsk l n
  · have HV := Lib.hid (missV_no ha)
    have HA : Hid ((kindsB l && inB 0 400 n) = false) := Lib.hid ha; clear ha
    go_enter Try.func9, Try.ntmps9
    go_wp2_with fail
    refine (implAreSpaces_any l A c _ HF.out hlen).mono ?_
    rintro e w' ⟨rfl, rfl⟩
    cases hg : kindsB l
    · clear hg HA
      go_wp2
      go_ret2
      exact ⟨_, 3, rfl, Below.refl _ _, by rw [HV.out]; exact own_nil _ _ _ _⟩
    · rw [hg] at HA
      clear hg
      go_wp2_with fail
      refine (isFillWidth_any _ _).mono ?_
      rintro e w' ⟨rfl, rfl⟩
      have hi : inB 0 400 n = false := by simpa using HA.out
      rw [hi]
      clear hi
      go_wp2
      go_ret2
      exact ⟨_, 3, rfl, Below.refl _ _, by rw [HV.out]; exact own_nil _ _ _ _⟩
  · skip
    have HA := Lib.hid ha
    obtain ⟨hg, h0, h4⟩ := wAsk_iff.1 ha
    obtain ⟨N, rfl⟩ : ∃ N : Nat, n = (N : Int) := ⟨n.toNat, by omega⟩
    have hN4 : N ≤ 400 := by omega
    have hN1 : (N : Int) < (N : Int) + 1 := by omega
    have hN2 : ((N + 1 : Nat) : Int) = (N : Int) + 1 := by omega
    have HK := Lib.hid (kindsB_iff.2 hg)
    have HI := Lib.hid (inB_iff.2 ⟨h0, h4⟩)
    have HG := Lib.hid hg; clear hg ha
    have HV := Lib.hid (missV_yes HA.out)
    refine (callsIn_wide (n := 6)).1 ?_
    have n6 : 1 ≤ 6 := by omega
    refine callsIn_of_wp_marks Try.func9 rfl trivial ?_ rfl
    simp only [Try.ntmps9, List.size_toArray, List.length_cons, List.length_nil, Nat.reduceAdd, Nat.reduceSub, Array.replicate_succ, Array.replicate_zero, List.push_toArray, List.append_toArray, List.nil_append, List.cons_append]
    gi_wp2_with fail
    refine ⟨trivial, ?_⟩
    refine (callsIn_wide.2 (implAreSpaces_any l A c _ HF.out hlen)).mono ?_
    rintro e w' ⟨rfl, rfl⟩
    rw [HK.out]
    gi_wp2_with fail
    refine ⟨trivial, ?_⟩
    refine (callsIn_wide.2 (isFillWidth_any _ _)).mono ?_
    rintro e w' ⟨rfl, rfl⟩
    rw [HI.out]
    obtain ⟨w1, hw1⟩ : ∃ x : World, x = (w.alloc (.cells #[.slice none 0 0] 23)).alloc (.cells #[.int .i64 0] 3) := ⟨_, rfl⟩
    have HX1 : Hid (Boxed w1 w.heap.size 23 (.slice none 0 0)) := Lib.hid (by rw [hw1]; exact (Boxed.new _ _ _).alloc _)
    have HY1 : Hid (Boxed w1 (w.heap.size + 1) 3 (.int .i64 0)) := Lib.hid (by
      rw [hw1]
      have h := Boxed.new (w.alloc (.cells #[.slice none 0 0] 23)) 3 (.int .i64 0)
      rw [World.size_alloc] at h; exact h)
    have HB1 : Hid (Below w.heap.size w w1) := Lib.hid (by rw [hw1]; exact ((Below.refl _ _).alloc (Nat.le_refl _) _).alloc (by simp) _)
    have HF1 := Lib.hid (HF.out.below HB1.out (Nat.le_refl _))
    have HW1 := Lib.hid hw1
    clear hw1
    gi_wp2_with fail
    rw [← HW1.out]
    refine ⟨trivial, ?_⟩
    refine (callsIn_wide.2 (sumsOf_any l A c N _ HF1.out HG.out.six)).mono ?_
    intro e w2 hto
    obtain ⟨b0, B, d, rfl, hbx, hb2⟩ := hto
    have hX2 : Boxed w2 w.heap.size 23 (.slice none 0 0) := (hb2.block _ HX1.out.lt).trans HX1.out
    have hY2 : Boxed w2 (w.heap.size + 1) 3 (.int .i64 0) := (hb2.block _ HY1.out.lt).trans HY1.out
    have hB2 := HB1.out.trans (hb2.mono HB1.out.size)
    gi_wp2
    refine wpIn_rangeFunc_ownF (F := Fence.wide) (n := 6) rfl n6 (gf := 39) (lb := #[.pointer (some ⟨b0 + 2, 0, none⟩), .pointer (some ⟨b0, 0, none⟩), .pointer (some ⟨b0 + 1, 0, none⟩)]) rfl trivial (enters_of Try.func39 (by kernel_rfl) rfl)
      (sums_stops 5 (by omega) _ _ _ l (rep4 l) A B c d N w2 hbx HG.out.pos (fun j h => HG.out.le h) (fun j h => by rw [rep4_get]; omega) (rep4_len l).symm HG.out.six hN4) KpB.kt KpB.kb (Below.refl _ _) (fun _ => rfl)
      (fun pre W => ((∃ v, Boxed W w.heap.size 23 v ∧ W.ownsRow (w.heap.size + 2) 3 1 v (missF pre).2.length (intsZ (missF pre).2) ∧ True) ∧ Boxed W (w.heap.size + 1) 3 (.int .i64 ((missF pre).1 : Int))) ∧ Below w.heap.size w W)
      (fun _ _ _ => False)
      (OwnFrom.and (OwnFrom.and (_root_.Go.Own.from (holdsRow_own _ _ _ _ _ (fun pre => (missF pre).2.length) (fun pre => intsZ (missF pre).2) (fun _ _ => True)) _) (_root_.Go.Own.from (boxed_own _ _ (fun pre => .int .i64 ((missF pre).1 : Int))) _)) (ownFrom_below (Nat.le_refl _) hB2.size))
      (fun _ _ _ _ _ hs _ _ => hs)
      ⟨⟨⟨_, hX2, own_nil _ _ _ _, trivial⟩, hY2⟩, hB2⟩ ?act ?assign ?body ?done ?stop
    case assign =>
      intro l x W K hK
      gi_wp2
      exact hK
    case body =>
      rintro lp pre x W ⟨⟨⟨v, hX, hr, -⟩, hY⟩, hB⟩ hpl
      have hcx := hX.cell
      have hcy := hY.cell
      have hx4 := x.le
      have hm4 := missF_le pre
      have hml := missF_len _ pre rfl
      obtain ⟨Q, hQ⟩ : ∃ Q, Q = (missF pre).2 ++ numsT (missF pre).1 (x.val - (missF pre).1) := ⟨_, rfl⟩
      have hS := missF_snoc pre x
      rw [← hQ] at hS
      have HQ := Lib.hid hQ
      have HS := Lib.hid hS
      clear hQ hS
      have HX := Lib.hid hX; have HR := Lib.hid hr; have HY := Lib.hid hY; have HB := Lib.hid hB
      clear hX hr hY hB
      have hyl := HY.out.lt
      have hn1 : ¬ w.heap.size + 1 = w.heap.size := by omega
      gi_wp2_with fail
      refine ⟨trivial, ?_⟩
      refine (CallsIn.inRound lp (callsIn_wide.2 (appendNumbers_any (w.heap.size + 2) v (missF pre).2 (missF pre).1 x.val W HR.out (by omega) (by omega) (by omega) (by omega)))).mono ?_
      rintro e w5 ⟨v', rfl, hr5, hg5⟩
      rw [← HQ.out] at hr5
      clear HQ
      obtain ⟨A5, c5, rfl⟩ := own_form hr5
      have hX5 : Boxed w5 w.heap.size 23 v := HX.out.kept hg5 (HX.out.not_row (by decide) HR.out)
      have hY5 : Boxed w5 (w.heap.size + 1) 3 (.int .i64 ((missF pre).1 : Int)) := HY.out.kept hg5 (fun e => by have := own_lt HR.out _ e.symm; omega)
      have hcx5 := hX5.cell; have hfx5 := hX5.frozen
      have hcy5 := hY5.cell; have hfy5 := hY5.frozen
      have HK1 := Lib.hid (row_keeps HR.out hg5); have HK2 := Lib.hid (row_kpb (B := w2.heap.size) HR.out hg5)
      have HB5 := Lib.hid (HB.out.grown hg5 HB.out.size (fun q hq => by have := own_lt HR.out q hq; omega))
      have HX5 := Lib.hid hX5; have HY5 := Lib.hid hY5; have HR5 := Lib.hid hr5
      clear hX5 hY5 hr5 hg5
      gi_wp2
      have hxx : (x.val : Int) + 1 = ((x.val + 1 : Nat) : Int) := by omega
      refine ⟨((HK1.out.trans (KeepsOthers.setCell _ _ _)).trans (KeepsOthers.setCell _ _ _)), ((HK2.out.t (KpB.set _ _ _ _ hX2.lt)).t (KpB.set _ _ _ _ hY2.lt)), ⟨⟨_, (HX5.out.set _).kept (grownBy_setCell' _ _ _) (fun e => by have := Option.some.inj e; omega), ?_, trivial⟩, ?_⟩, (HB5.out.setCell (p := ⟨w.heap.size, 0, none⟩) (Nat.le_refl _) _).setCell (p := ⟨w.heap.size + 1, 0, none⟩) (by simp) _⟩
      · rw [HS.out]
        exact own_grown (own_grown HR5.out (grownBy_setCell' _ _ _) (fun q hq e => by have h1 := own_lt HR5.out q hq; have h2 := Option.some.inj e; omega)) (grownBy_setCell' _ _ _) (fun q hq e => by have h1 := own_lt HR5.out q hq; have h2 := Option.some.inj e; omega)
      · rw [HS.out]
        have h := (HY5.out.kept (grownBy_setCell' w5 w.heap.size (.slice A5 Q.length c5)) (fun e => by have := Option.some.inj e; omega)).set (.int .i64 (((x.val + 1 : Nat)) : Int))
        first | exact h | (rw [hxx]; exact h)
    case done =>
      rintro D ys W hD rfl ⟨⟨⟨v, hX, hr, -⟩, hY⟩, hB⟩ hK
      have hcx := hX.cell
      have hcy := hY.cell
      have hm4 := missF_le (sumL (stT l (rep4 l) l.length) (N + 1))
      have hml := missF_len _ (sumL (stT l (rep4 l) l.length) (N + 1)) rfl
      have hsl := sumL_len (stT l (rep4 l) l.length) (N + 1)
      have HE := Lib.hid (missF_all HG.out.pos hN4)
      have HX := Lib.hid hX; have HR := Lib.hid hr; have HY := Lib.hid hY; have HB := Lib.hid hB; have HKD := Lib.hid hK
      have hyl := hY.lt
      have hml4 : (missF (sumL (stT l (rep4 l) l.length) (N + 1))).2.length ≤ 200000 := by
        have : 401 * (sumL (stT l (rep4 l) l.length) (N + 1)).length ≤ 401 * 401 := Nat.mul_le_mul_left _ (by omega)
        omega
      clear hX hr hY hB hml hsl
      generalize missF (sumL (stT l (rep4 l) l.length) (N + 1)) = S at *
      gi_wp2_with fail
      refine ⟨trivial, ?_⟩
      refine (callsIn_wide.2 (appendNumbers_any (w.heap.size + 2) v S.2 S.1 (N + 1) W HR.out (by omega) hml4 (by omega) (by omega))).mono ?_
      rintro e w5 ⟨v', rfl, hr5, hg5⟩
      rw [HE.out] at hr5
      obtain ⟨A5, c5, rfl⟩ := own_form hr5
      have hK5 := (row_keeps HR.out hg5).same D _ HKD.out rfl
      have HB5 := Lib.hid (HB.out.grown hg5 HB.out.size (fun q hq => by have := own_lt HR.out q hq; omega))
      have HR5 := Lib.hid hr5
      clear hr5 hg5 hcx hcy hK
      gi_wp2
      refine ⟨by simp, .inl ⟨_, _, rfl, run_takeDeferred hK5, ?_⟩⟩
      exact ⟨.tuple #[.slice A5 (missT l (N + 1)).length c5, .bool true], by simp [results, Try.f9, go_sem], _, 3, rfl, below_put _ HB5.out (by have := hB2.size; omega) hK5, by rw [HV.out]; exact Joins.ownsRow_le (ownsRow_putObj HR5.out _ hK5 rfl) (by omega)⟩
    case stop =>
      rintro D cc pre W _ _ h _
      exact h.elim
end Go.Proofs.Ythhmbcgamcbfdaa
