/-
  The contract of spec.RulesOf.
-/
import Derived.Test.YtljakcfdjcjdbaaRm
namespace Go.Proofs.Ytljakcfdjcjdbaa
open Go.RowKit
set_option linter.unusedVariables false

theorem lenB_all {ls : List Int} (h : ls.length ≤ 6) : lenB ls = allB 1 400 ls := by
  cases ha : allB 1 400 ls with
  | true => exact lenB_iff.2 ⟨h, fun j hj => inBs_iff.1 (List.all_eq_true.1 ha _ (List.getElem_mem hj))⟩
  | false =>
    refine lenB_no fun hh => ?_
    have : allB 1 400 ls = true := List.all_eq_true.2 fun x hx => by
      obtain ⟨j, hj, rfl⟩ := List.mem_iff_getElem.1 hx
      exact inBs_iff.2 (hh.2 j hj)
    rw [ha] at this; exact absurd this (by simp)
/-- What a slice of rows of ints reads, all of it below top. -/
def Gs (w : World) (top : Nat) (A : Option Addr) (N : Nat) (rw : Nat → List Int) : Prop :=
  top ≤ w.heap.size ∧ ∀ i, i < N → ∃ b g c, A = some ⟨b, 0, none⟩ ∧ b < top ∧ g < top ∧ w.cell? ⟨b, i, none⟩ = some (.slice (some ⟨g, 0, none⟩) (rw i).length c) ∧ ∀ k (h : k < (rw i).length), w.cell? ⟨g, k, none⟩ = some (.int .i64 (rw i)[k])
theorem Gs.keep {w w' : World} {B top N : Nat} {A : Option Addr} {rw : Nat → List Int} (h : Gs w top A N rw) (hb : Below B w w') (hB : top ≤ B) : Gs w' top A N rw := by
  refine ⟨Nat.le_trans h.1 hb.size, fun i hi => ?_⟩
  obtain ⟨b, g, c, h1, h2, h3, h4, h5⟩ := h.2 i hi
  exact ⟨b, g, c, h1, h2, h3, (hb.cell (p := ⟨b, i, none⟩) (by show b < B; omega)).trans h4, fun k hk => (hb.cell (p := ⟨g, k, none⟩) (by show g < B; omega)).trans (h5 k hk)⟩
theorem own_at {w : World} {base n i : Nat} {e : TypeId} {A : Option Addr} {c : Nat} {xs : List Value} (h : w.ownsRow base e 1 (.slice A n c) n xs) (hi : i < n) : ∃ b v, A = some ⟨b, 0, none⟩ ∧ b < w.heap.size ∧ xs[i]? = some v ∧ w.cell? ⟨b, i, none⟩ = some v := by
  rcases h.2 with ⟨_, rfl⟩ | ⟨g, cap, cur, h1, h2, h3, h4, h5, h6, h7⟩
  · omega
  · injection h1 with h1
    have hl : i < xs.length := by rw [h.1]; omega
    refine ⟨g, xs[i], h1, lt_of_heap h3, List.getElem?_eq_getElem hl, ?_⟩
    rw [cell_of_heap h3]
    have e : (cur.toList.take (n * 1))[i]? = xs[i]? := by rw [h7]
    rw [List.getElem?_take_of_lt (by omega), List.getElem?_eq_getElem hl] at e
    simpa using e
theorem own_formI {w : World} {base n : Nat} {e : TypeId} {v : Value} {xs : List Value} (h : w.ownsRow base e 1 v n xs) : ∃ B d, v = .slice B n d := by
  rcases h.2 with ⟨rfl, hz⟩ | ⟨G, cap, cur, rfl, _⟩
  · exact ⟨none, 0, by rw [hz]⟩
  · exact ⟨_, cap, rfl⟩
theorem GI.gs {w : World} {base N c M : Nat} {A : Option Addr} {hs : Nat → Nat} {rw : Nat → List Int} (h : GI w base A N c M hs rw) : Gs w w.heap.size A N rw := by
  refine ⟨Nat.le_refl _, fun i hi => ?_⟩
  obtain ⟨b, v, h1, h2, h3, h4⟩ := own_at h.outer hi
  rw [hsV_get hi] at h3
  obtain ⟨h5, h6⟩ := h.rows i hi
  have h7 := Option.some.inj h3
  subst h7
  refine ⟨b, hs i, M, h1, h2, own_block_lt h6 rfl, by rw [h5]; exact h4, fun k hk => ?_⟩
  obtain ⟨b', off, e1, e2, e3⟩ := own_in h6 (by omega)
  injection e1 with e1
  injection e1 with e1 e4
  subst e1 e4
  have := e3 k hk
  rw [Nat.zero_add] at this
  exact this
theorem GI.below {w w' : World} {base N c M : Nat} {A : Option Addr} {hs : Nat → Nat} {rw : Nat → List Int} (h : GI w base A N c M hs rw) (hb : Below w.heap.size w w') : GI w' base A N c M hs rw :=
  ⟨own_below h.outer hb, fun i hi => ⟨(h.rows i hi).1, own_below (h.rows i hi).2 hb⟩, h.out, h.inc⟩
/-- What spec says of several rules. -/
def RiSo (f : List Sl) (ls : List Int) (w w' : World) (e : Ending) : Prop :=
  ∃ A c, e = .returned (.tuple #[.slice A (rsN f ls) c, .bool (rsB f ls)]) ∧ Below w.heap.size w w' ∧ Gs w' w'.heap.size A (rsN f ls) (ruK 1048576 f ls)
theorem RiSo.no {f : List Sl} {ls : List Int} {w w' : World} (h : rsB f ls = false) (hb : Below w.heap.size w w') : RiSo f ls w w' (.returned (.tuple #[.slice none 0 0, .bool false])) := by
  refine ⟨none, 0, by rw [h, rsN_no h], hb, ?_⟩
  rw [rsN_no h]; exact ⟨Nat.le_refl _, fun i hi => by omega⟩
set_option maxRecDepth 100000 in
set_option maxHeartbeats 1000000 in
theorem specRulesOf_any (f : List Sl) (A : Addr) (c : Nat) (ls : List Int) (B : Option Addr) (d : Nat) (w : World) (hf : SlsIn w (some A) f) (hn : f.length ≤ 1048576) (hl : IntsIn w B ls) (hm : ls.length ≤ 1048576) :
    Calls Try.prog 37 #[.slice (some A) f.length c, .slice B ls.length d] w fun e w' => RiSo f ls w w' e := by
  have HF := Lib.hid hf; have HL := Lib.hid hl; clear hf hl
  go_enter Try.func37, Try.ntmps37
  go_wp2_with fail
  refine (ruGood_any f _ c _ HF.out hn).mono ?_
  rintro e w1 ⟨rfl, hb1⟩
  have HB1 := Lib.hid hb1; clear hb1
  cases hg : stkB f
  · have HV : Hid (rsB f ls = false) := Lib.hid (by unfold rsB; rw [hg]; rfl)
    clear hg
    go_wp2
    go_ret2
    exact RiSo.no HV.out HB1.out
  have HG := Lib.hid (stkB_iff.1 hg)
  have HGB := Lib.hid hg; clear hg
  by_cases h6 : 6 < ls.length
  · have HV : Hid (rsB f ls = false) := Lib.hid (by unfold rsB; rw [lenB_no (fun h => by have := h.1; omega)]; simp)
    go_wp2
    go_ret2
    exact RiSo.no HV.out HB1.out
  have h6' : ¬ (6 : Int) < (ls.length : Int) := by omega
  go_wp2_with fail
  refine (l1All_any ls B d _ _ w1 (HL.out.below HB1.out (Nat.le_refl _)) (by unfold maxLen; omega)).mono ?_
  rintro e w' ⟨rfl, rfl⟩
  rw [← lenB_all (show ls.length ≤ 6 by omega)]
  cases hi : lenB ls
  · have HV : Hid (rsB f ls = false) := Lib.hid (by unfold rsB; rw [hi]; simp)
    clear hi
    go_wp2
    go_ret2
    exact RiSo.no HV.out HB1.out
  have HLB := Lib.hid (lenB_iff.1 hi)
  have HV : Hid (rsB f ls = okB 1048576 f ls) := Lib.hid (by unfold rsB; rw [HGB.out, hi]; simp)
  clear hi
  go_wp2_with fail
  refine (ruRules_any f A c ls B d w1 (HF.out.below HB1.out (Nat.le_refl _)) HG.out (HL.out.below HB1.out (Nat.le_refl _)) HLB.out).mono ?_
  rintro e w2 hto
  rcases hto with ⟨ho, rfl, hb⟩ | ⟨ho, v, vs, rfl, hb, hvl, hv, ht⟩
  · have HN : Hid (rsB f ls = false) := Lib.hid (by rw [HV.out]; exact ho)
    have HB := Lib.hid (HB1.out.trans (hb.mono HB1.out.size))
    clear ho hb
    go_wp2
    go_ret2
    exact RiSo.no HN.out HB.out
  · have HN : Hid (rsB f ls = true) := Lib.hid (by rw [HV.out]; exact ho)
    have HB := Lib.hid (HB1.out.trans (hb.mono HB1.out.size))
    obtain ⟨A2, c2, rfl⟩ := own_formI hv
    have HGS : Hid (Gs w2 w2.heap.size A2 ls.length (ruK 1048576 f ls)) := Lib.hid ⟨Nat.le_refl _, fun i hi => by
      obtain ⟨b, x, h1, h2, h3, h4⟩ := own_at hv hi
      obtain ⟨g, c3, e1, e2, e3, e4⟩ := ht i (by omega)
      rw [h3] at e1
      have e5 := Option.some.inj e1
      subst e5
      exact ⟨b, g, c3, h1, h2, e4.lt, by rw [ruK_len]; exact h4, fun k hk => by
        rw [e4.cell (by rw [ruK_len] at hk; exact hk)]
        show some (Value.int .i64 ((ruK 1048576 f ls i).getD k 0)) = _
        rw [getI hk]⟩⟩
    clear ho hb hvl hv ht
    go_wp2
    go_ret2
    refine ⟨A2, c2, ?_, HB.out, ?_⟩
    · rw [rsN_yes HN.out]; exact ret_vb HN.out.symm
    · rw [rsN_yes HN.out]; exact HGS.out
end Go.Proofs.Ytljakcfdjcjdbaa
