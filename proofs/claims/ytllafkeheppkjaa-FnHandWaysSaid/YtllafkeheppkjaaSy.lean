/-
  The contracts of impl.withSwap, impl.boxesAsGiven.
-/
import Derived.Test.YtllafkeheppkjaaSx
import Derived.Deep.RegionHeld3
import Derived.IntWalk
import Derived.Deep.DeepCutAuto
namespace Go.Proofs.Ytllafkeheppkjaa
open Go.RowKit
set_option linter.unusedVariables false

theorem flatPb_place : ∀ (l : List Bx) (k : Nat) (h : k < l.length) (y z : Int), ((flatPb l).set (k * 4) (.int .i64 y)).set (k * 4 + 1) (.int .i64 z) = flatPb (l.set k { l[k] with row := y, col := z })
  | x :: r, 0, _, y, z => rfl
  | x :: r, k + 1, h, y, z => by
    have ih := flatPb_place r k (by simpa using h) y z
    have e : ∀ y : Bx, ∀ q : List Bx, flatPb (y :: q) = .int .i64 y.row :: .int .i64 y.col :: .string y.cod :: .int .i64 y.cnt :: flatPb q := fun _ _ => rfl
    rw [e, show (k + 1) * 4 = k * 4 + 1 + 1 + 1 + 1 from by omega, show k * 4 + 1 + 1 + 1 + 1 + 1 = k * 4 + 1 + 1 + 1 + 1 + 1 from rfl]
    simp only [List.set_cons_succ, ih, List.getElem_cons_succ, e]
theorem swapL_flatP {l : List Bx} {a b : Nat} (ha : a < l.length) (hb : b < l.length) :
    ((((flatPb l).set (a * 4) (.int .i64 l[b].row)).set (a * 4 + 1) (.int .i64 l[b].col)).set (b * 4) (.int .i64 l[a].row)).set (b * 4 + 1) (.int .i64 l[a].col) = flatPb (swapL l a b) := by
  rw [flatPb_place l a ha, flatPb_place _ b (by simpa using hb)]
  congr 1
  simp only [swapL, getD_at ha, getD_at hb]
  rw [getD_at (by simpa using hb)]
theorem set_swap4 {xs : List Value} {p q : Nat} (h1 : ¬ p = q) (h2 : ¬ p = q + 1) (h3 : ¬ p + 1 = q) (u v x y : Value) :
    (((xs.set q x).set (q + 1) y).set p u).set (p + 1) v = (((xs.set p u).set (p + 1) v).set q x).set (q + 1) y := by
  apply List.ext_getElem
  · simp
  · intro k k1 k2
    simp only [List.getElem_set]
    repeat' split
    all_goals first | rfl | omega

set_option maxRecDepth 100000 in
set_option maxHeartbeats 2000000 in
theorem withSwap_any (l : List Bx) (A : Option Addr) (c : Nat) (a b : Nat) (w : World) (hf : PbsIn w A l) (hn : l.length ≤ 1048576) (ha : a < l.length) (hb : b < l.length) :
    Calls Try.prog 71 #[.slice A l.length c, .int .i64 (a : Int), .int .i64 (b : Int)] w fun e w' => PbTo w w' e (swapL l a b) := by
  have HF := Lib.hid hf; clear hf
  go_enter Try.func71, Try.ntmps71
  go_wp2_with fail
  refine (clonePb_any l A c _ HF.out (by omega) hn).mono ?_
  intro e w4 hto
  obtain ⟨v', rfl, hb4, hown⟩ := hto
  obtain ⟨g, cap, rfl, hg, hcap, hcm, hmk⟩ := own4_marked hown (by omega)
  obtain ⟨q, off, rfl, hql, hcc⟩ := HF.out (by omega)
  obtain ⟨ea0, ea1, _, _⟩ := hcc a ha
  obtain ⟨eb0, eb1, _, _⟩ := hcc b hb
  rw [← hb4.cell (p := ⟨q, off + a * 4, none⟩) hql] at ea0
  rw [← hb4.cell (p := ⟨q, off + a * 4 + 1, none⟩) hql] at ea1
  rw [← hb4.cell (p := ⟨q, off + b * 4, none⟩) hql] at eb0
  rw [← hb4.cell (p := ⟨q, off + b * 4 + 1, none⟩) hql] at eb1
  have hne1 : ¬ q = g := by omega
  have hne2 : ¬ g = q := by omega
  have hfl := flatPb_len l
  obtain ⟨⟨u1, hu1⟩, hz1⟩ := hmk.at_ (j := a * 4) (by omega)
  obtain ⟨⟨u2, hu2⟩, hz2⟩ := hmk.at_ (j := a * 4 + 1) (by omega)
  obtain ⟨⟨u3, hu3⟩, hz3⟩ := hmk.at_ (j := b * 4) (by omega)
  obtain ⟨⟨u4, hu4⟩, hz4⟩ := hmk.at_ (j := b * 4 + 1) (by omega)
  have HA : Hid (∀ W : World, W = w4 ∨ W = w4.drew → ((((W.setCell ⟨g, a * 4, none⟩ (.int .i64 l[b].row)).setCell ⟨g, a * 4 + 1, none⟩ (.int .i64 l[b].col)).setCell ⟨g, b * 4, none⟩ (.int .i64 l[a].row)).setCell ⟨g, b * 4 + 1, none⟩ (.int .i64 l[a].col)).ownsRow w.heap.size 72 4 (.slice (some ⟨g, 0, none⟩) l.length cap) (swapL l a b).length (flatPb (swapL l a b))) := Lib.hid (fun W hW => by
    have hm : Marked W g 72 (cap * 4) (flatPb l) := by
      rcases hW with rfl | rfl
      · exact hmk
      · exact hmk.below ((Below.refl _ _).drew)
    have h := (((hm.put (j := a * 4) (.int .i64 l[b].row)).put (j := a * 4 + 1) (.int .i64 l[b].col)).put (j := b * 4) (.int .i64 l[a].row)).put (j := b * 4 + 1) (.int .i64 l[a].col)
    rw [swapL_flatP ha hb] at h
    rw [swapL_len]
    exact h.own4 hg (by rw [flatPb_len, swapL_len]; omega) hcap hcm)
  have HA2 : Hid (∀ W : World, W = w4 ∨ W = w4.drew → ((((W.setCell ⟨g, b * 4, none⟩ (.int .i64 l[a].row)).setCell ⟨g, b * 4 + 1, none⟩ (.int .i64 l[a].col)).setCell ⟨g, a * 4, none⟩ (.int .i64 l[b].row)).setCell ⟨g, a * 4 + 1, none⟩ (.int .i64 l[b].col)).ownsRow w.heap.size 72 4 (.slice (some ⟨g, 0, none⟩) l.length cap) (swapL l a b).length (flatPb (swapL l a b))) := Lib.hid (fun W hW => by
    have hm : Marked W g 72 (cap * 4) (flatPb l) := by
      rcases hW with rfl | rfl
      · exact hmk
      · exact hmk.below ((Below.refl _ _).drew)
    have h := (((hm.put (j := b * 4) (.int .i64 l[a].row)).put (j := b * 4 + 1) (.int .i64 l[a].col)).put (j := a * 4) (.int .i64 l[b].row)).put (j := a * 4 + 1) (.int .i64 l[b].col)
    rw [show ((((flatPb l).set (b * 4) (.int .i64 l[a].row)).set (b * 4 + 1) (.int .i64 l[a].col)).set (a * 4) (.int .i64 l[b].row)).set (a * 4 + 1) (.int .i64 l[b].col) = flatPb (swapL l a b) from by
      by_cases hab : a = b
      · subst hab; exact swapL_flatP ha ha
      · rw [← swapL_flatP ha hb]; exact set_swap4 (by omega) (by omega) (by omega) _ _ _ _] at h
    rw [swapL_len]
    exact h.own4 hg (by rw [flatPb_len, swapL_len]; omega) hcap hcm)
  have HBB := Lib.hid hb4
  clear hown hmk hb4 hcc
  go_wp2_with fail
  by_cases hab : a = b
  · subst hab
    go_region_held3 (fun x => x.cell? ⟨q, off + a * 4, none⟩ = some (.int .i64 l[a].row) ∧ x.cell? ⟨q, off + a * 4 + 1, none⟩ = some (.int .i64 l[a].col)) (first | with_reducible exact ⟨ea0, ea1⟩ | go_keep) (fail)
    all_goals
      go_wp2
      go_ret
      refine ⟨.slice (some ⟨g, 0, none⟩) l.length cap, rfl, ?_, ?_⟩
      · repeat (first | (with_reducible exact HBB.out) | (refine Below.setCell ?_ hg _) | (refine Below.drew ?_))
      · first | (with_reducible exact own_below (HA.out _ (.inl rfl)) ((Below.refl _ _).drew)) | (with_reducible exact own_below (HA2.out _ (.inl rfl)) ((Below.refl _ _).drew)) | (with_reducible exact HA.out _ (.inr rfl)) | (with_reducible exact HA2.out _ (.inl rfl)) | (with_reducible exact HA2.out _ (.inr rfl))
  · have n1 : ¬ a * 4 + 1 = b * 4 + 1 := by omega
    have n2 : ¬ a * 4 = b * 4 := by omega
    have n3 : ¬ a * 4 + 1 = b * 4 := by omega
    have n4 : ¬ a * 4 = b * 4 + 1 := by omega
    have n5 : ¬ b * 4 + 1 = a * 4 + 1 := by omega
    have n6 : ¬ b * 4 = a * 4 := by omega
    have n7 : ¬ b * 4 + 1 = a * 4 := by omega
    have n8 : ¬ b * 4 = a * 4 + 1 := by omega
    go_region_held3 (fun x => x.cell? ⟨q, off + a * 4, none⟩ = some (.int .i64 l[a].row) ∧ x.cell? ⟨q, off + a * 4 + 1, none⟩ = some (.int .i64 l[a].col) ∧ x.cell? ⟨q, off + b * 4, none⟩ = some (.int .i64 l[b].row) ∧ x.cell? ⟨q, off + b * 4 + 1, none⟩ = some (.int .i64 l[b].col)) (first | with_reducible exact ⟨ea0, ea1, eb0, eb1⟩ | go_keep) (fail)
    all_goals
      go_wp2
      go_ret
      refine ⟨.slice (some ⟨g, 0, none⟩) l.length cap, rfl, ?_, ?_⟩
      · repeat (first | (with_reducible exact HBB.out) | (refine Below.setCell ?_ hg _) | (refine Below.drew ?_))
      · first | (with_reducible exact own_below (HA.out _ (.inl rfl)) ((Below.refl _ _).drew)) | (with_reducible exact own_below (HA2.out _ (.inl rfl)) ((Below.refl _ _).drew)) | (with_reducible exact HA.out _ (.inr rfl)) | (with_reducible exact HA2.out _ (.inl rfl)) | (with_reducible exact HA2.out _ (.inr rfl))
end Go.Proofs.Ytllafkeheppkjaa
