/-
  What the searches visit: the contracts of the function literals of impl.BestCastOrder and of impl.MostCastings.
-/
import Derived.Test.YtpocghcdfpcedaaKq
namespace Go.Proofs.Ytpocghcdfpcedaa
open Go.RowKit
set_option linter.unusedVariables false

def blS (S : Option (List Int × Int)) : List Int := match S with | some p => p.1 | none => []
def blT (S : Option (List Int × Int)) : Int := match S with | some p => p.2 | none => 0
/-- The best order so far sees an order of n castings, or its beginning. -/
def visB (n : Nat) (S : Option (List Int × Int)) (o : List Int) (t : Int) : Option (List Int × Int) × Bool :=
  if S.isSome = true ∧ blT S ≤ t then (S, false) else if o.length = n then (some (o, t), true) else (S, true)
theorem visB_no {n : Nat} {S : Option (List Int × Int)} {o : List Int} {t : Int} (h1 : S.isSome = true) (h2 : blT S ≤ t) : visB n S o t = (S, false) := by unfold visB; rw [if_pos ⟨h1, h2⟩]
theorem visB_new {n : Nat} {S : Option (List Int × Int)} {o : List Int} {t : Int} (h : ¬ (S.isSome = true ∧ blT S ≤ t)) (h2 : o.length = n) : visB n S o t = (some (o, t), true) := by unfold visB; rw [if_neg h, if_pos h2]
theorem visB_on {n : Nat} {S : Option (List Int × Int)} {o : List Int} {t : Int} (h : ¬ (S.isSome = true ∧ blT S ≤ t)) (h2 : ¬ o.length = n) : visB n S o t = (S, true) := by unfold visB; rw [if_neg h, if_neg h2]
/-- The boxes of the best order. -/
def VB (w : World) (pf pl pt base : Nat) (S : Option (List Int × Int)) : Prop :=
  Box1 w pf 4 (.bool S.isSome) ∧ Box1 w pl 3 (.int .i64 (blT S)) ∧ ∃ v, Box1 w pt 42 v ∧ w.ownsRow base 3 1 v (blS S).length (intsZ (blS S))
theorem VB.kep {E : Nat → Prop} {w w' : World} {pf pl pt base : Nat} {S : Option (List Int × Int)} (h : VB w pf pl pt base S) (hk : Kep E w w') (h1 : ¬ E pf) (h2 : ¬ E pl) (h3 : ¬ E pt) (h4 : ∀ k, E k → k < base) : VB w' pf pl pt base S := by
  obtain ⟨a, b, v, c, d⟩ := h
  exact ⟨a.kep hk h1, b.kep hk h2, v, c.kep hk h3, hk.owns d fun k hk2 he => by have := own_lt d k hk2; have := h4 k he; omega⟩
theorem VB.next {w w' : World} {pf pl pt base : Nat} {S : Option (List Int × Int)} (h : VB w pf pl pt base S) (hb : Below w.heap.size w w') : VB w' pf pl pt base S :=
  h.kep (E := fun _ => False) ((Kep.refl _ _).next hb) (fun h => h) (fun h => h) (fun h => h) (fun _ h => h.elim)
set_option maxRecDepth 100000 in
set_option maxHeartbeats 2000000 in
theorem bestVisit_any (f : List Ca) (A : Option Addr) (c : Nat) (o : List Int) (g cap B0 base : Nat) (t : Int) (S : Option (List Int × Int)) (pf pl pb pt : Nat) (w : World)
    (hrow : w.ownsRow B0 3 1 (.slice (some ⟨g, 0, none⟩) o.length cap) o.length (intsZ o)) (ho : o.length ≤ 1048576) (hV : VB w pf pl pt base S) (hL : Box1 w pb 25 (.slice A f.length c))
    (d1 : pf ≠ pl) (d2 : pf ≠ pt) (d3 : pl ≠ pt) (hbase : base ≤ w.heap.size) (b1 : pf < base) (b2 : pl < base) (b3 : pt < base) :
    Calls Try.prog 60 #[.slice (some ⟨g, 0, none⟩) o.length cap, .int .i64 t, .pointer (some ⟨pf, 0, none⟩), .pointer (some ⟨pl, 0, none⟩), .pointer (some ⟨pb, 0, none⟩), .pointer (some ⟨pt, 0, none⟩)] w fun e w' => e = .returned (.bool (visB f.length S o t).2) ∧ VB w' pf pl pt base (visB f.length S o t).1 ∧ Kep (fun k => k = pf ∨ k = pl ∨ k = pt) w w' := by
  obtain ⟨hf, hl, v, ht, hv⟩ := hV
  have HV := Lib.hid (⟨hf, hl, v, ht, hv⟩ : VB w pf pl pt base S)
  have HR := Lib.hid hrow; have HF := Lib.hid hf; have HLL := Lib.hid hl; have HT := Lib.hid ht; have HB := Lib.hid hL
  have f0 := hf.cell; have l0 := hl.cell; have bb0 := hL.cell
  clear hrow hf hl ht hL hv
  by_cases hno : S.isSome = true ∧ blT S ≤ t
  · have HX := Lib.hid (visB_no (n := f.length) (o := o) hno.1 hno.2)
    obtain ⟨hs, hle⟩ := hno
    rw [hs] at f0
    have HS := Lib.hid hs
    clear hs
    generalize hq : blT S = q at l0 hle
    clear hq
    go_enter Try.func60, Try.ntmps60
    go_wp2
    go_ret
    exact ⟨ret_bool (by rw [HX.out]), by rw [HX.out]; exact HV.out, Kep.refl _ _⟩
  · by_cases hfull : o.length = f.length
    · have HX := Lib.hid (visB_new hno hfull)
      have hfi : ((o.length : Int) == (f.length : Int)) = true := by rw [beq_iff_eq]; omega
      have hcl := cloneS_any o g 0 cap w (fun k hk => by rw [HR.out.cellAt (0 + k) (by omega)]; simp [intsZ, hk]) ho
      have HCL := Lib.hid hcl
      have HFU := Lib.hid hfull
      clear hfull hcl
      rcases (by cases hS : S.isSome with
        | true => exact .inr ⟨rfl, by by_cases h : blT S ≤ t
                                      · exact absurd ⟨hS, h⟩ hno
                                      · exact h⟩
        | false => exact .inl rfl : S.isSome = false ∨ (S.isSome = true ∧ ¬ blT S ≤ t)) with hs | ⟨hs, hle⟩
      all_goals
        rw [hs] at f0
        clear hs hno
        try (have hle2 := hle; clear hle)
        generalize hq : blT S = q at l0
        try (rw [hq] at hle2)
        clear hq
        go_enter Try.func60, Try.ntmps60
        go_wp2_with fail
        refine HCL.out.mono ?_
        intro e w1 hto
        obtain ⟨v1, rfl, hb, hown⟩ := hto
        have HF1 := Lib.hid (HF.out.next hb); have HL1 := Lib.hid (HLL.out.next hb); have HT1 := Lib.hid (HT.out.next hb)
        have HO1 := Lib.hid hown
        have HK1 : Hid (Kep (fun k => k = pf ∨ k = pl ∨ k = pt) w w1) := Lib.hid ((Kep.refl _ _).next hb)
        obtain ⟨A1, k1, rfl⟩ := own_form hown
        clear hb hown f0 l0 bb0
        have c0 := HF1.out.cell; have c1 := HL1.out.cell; have c2 := HT1.out.cell
        have f0 := HF1.out.free; have f1 := HL1.out.free; have f2 := HT1.out.free
        have d1' := d1.symm; have d2' := d2.symm; have d3' := d3.symm
        have HFf := Lib.hid (((HF1.out.far (i := 0) d2 (.slice A1 o.length k1)).far (i := 0) d1 (.int .i64 t)).set (.bool true))
        have HLf := Lib.hid (((HL1.out.far (i := 0) d3 (.slice A1 o.length k1)).set (.int .i64 t)).far (i := 0) d1' (.bool true))
        have HTf := Lib.hid (((HT1.out.set (.slice A1 o.length k1)).far (i := 0) d3' (.int .i64 t)).far (i := 0) d2' (.bool true))
        have HKf := Lib.hid (((HK1.out.set (p := pt) (.inl (.inr (.inr rfl))) 0 (.slice A1 o.length k1)).set (p := pl) (.inl (.inr (.inl rfl))) 0 (.int .i64 t)).set (p := pf) (.inl (.inl rfl)) 0 (.bool true))
        have HOf := Lib.hid ((((Kep.refl (fun k => k = pf ∨ k = pl ∨ k = pt) w1).set (p := pt) (.inl (.inr (.inr rfl))) 0 (.slice A1 o.length k1)).set (p := pl) (.inl (.inr (.inl rfl))) 0 (.int .i64 t)).set (p := pf) (.inl (.inl rfl)) 0 (.bool true) |>.owns (Joins.ownsRow_le HO1.out hbase) (fun k hk he => by have := own_lt HO1.out k hk; rcases he with rfl | rfl | rfl <;> omega))
        go_wp2
        go_ret
        exact ⟨ret_bool (by rw [HX.out]), by rw [HX.out]; exact ⟨HFf.out, HLf.out, _, HTf.out, HOf.out⟩, HKf.out⟩
    · have HX := Lib.hid (visB_on hno hfull)
      have hfi : ((o.length : Int) == (f.length : Int)) = false := by rw [beq_eq_false_iff_ne]; omega
      clear hfull
      rcases (by cases hS : S.isSome with
        | true => exact .inr ⟨rfl, by by_cases h : blT S ≤ t
                                      · exact absurd ⟨hS, h⟩ hno
                                      · exact h⟩
        | false => exact .inl rfl : S.isSome = false ∨ (S.isSome = true ∧ ¬ blT S ≤ t)) with hs | ⟨hs, hle⟩
      all_goals
        rw [hs] at f0
        clear hs hno
        try (have hle2 := hle; clear hle)
        generalize hq : blT S = q at l0
        try (rw [hq] at hle2)
        clear hq
        go_enter Try.func60, Try.ntmps60
        go_wp2
        go_ret
        exact ⟨ret_bool (by rw [HX.out]), by rw [HX.out]; exact HV.out, Kep.refl _ _⟩

/-- The longest order so far that ends by a sees an order. -/
def visM (n : Nat) (a : Int) (S : List Int) (o : List Int) (t : Int) : List Int × Bool :=
  if a < t then (S, false) else if S.length < o.length then (o, decide (o.length < n)) else (S, decide (S.length < n))
theorem visM_late {n : Nat} {a : Int} {S o : List Int} {t : Int} (h : a < t) : visM n a S o t = (S, false) := by unfold visM; rw [if_pos h]
theorem visM_new {n : Nat} {a : Int} {S o : List Int} {t : Int} (h : ¬ a < t) (h2 : S.length < o.length) : visM n a S o t = (o, decide (o.length < n)) := by unfold visM; rw [if_neg h, if_pos h2]
theorem visM_old {n : Nat} {a : Int} {S o : List Int} {t : Int} (h : ¬ a < t) (h2 : ¬ S.length < o.length) : visM n a S o t = (S, decide (S.length < n)) := by unfold visM; rw [if_neg h, if_neg h2]
def VM (w : World) (pt base : Nat) (S : List Int) : Prop := ∃ v, Box1 w pt 42 v ∧ w.ownsRow base 3 1 v S.length (intsZ S)
theorem VM.kep {E : Nat → Prop} {w w' : World} {pt base : Nat} {S : List Int} (h : VM w pt base S) (hk : Kep E w w') (h3 : ¬ E pt) (h4 : ∀ k, E k → k < base) : VM w' pt base S := by
  obtain ⟨v, c, d⟩ := h
  exact ⟨v, c.kep hk h3, hk.owns d fun k hk2 he => by have := own_lt d k hk2; have := h4 k he; omega⟩
theorem VM.next {w w' : World} {pt base : Nat} {S : List Int} (h : VM w pt base S) (hb : Below w.heap.size w w') : VM w' pt base S :=
  h.kep (E := fun _ => False) ((Kep.refl _ _).next hb) (fun h => h) (fun _ h => h.elim)
set_option maxRecDepth 100000 in
set_option maxHeartbeats 2000000 in
theorem mostVisit_any (f : List Ca) (A : Option Addr) (c : Nat) (o : List Int) (g cap B0 base : Nat) (t : Int) (a : Int) (S : List Int) (pm pb pt : Nat) (w : World)
    (hrow : w.ownsRow B0 3 1 (.slice (some ⟨g, 0, none⟩) o.length cap) o.length (intsZ o)) (ho : o.length ≤ 1048576) (hV : VM w pt base S) (hM : Box1 w pm 3 (.int .i64 a)) (hL : Box1 w pb 25 (.slice A f.length c))
    (d2 : pm ≠ pt) (d3 : pb ≠ pt) (hbase : base ≤ w.heap.size) (b3 : pt < base) :
    Calls Try.prog 66 #[.slice (some ⟨g, 0, none⟩) o.length cap, .int .i64 t, .pointer (some ⟨pm, 0, none⟩), .pointer (some ⟨pt, 0, none⟩), .pointer (some ⟨pb, 0, none⟩)] w fun e w' => e = .returned (.bool (visM f.length a S o t).2) ∧ VM w' pt base (visM f.length a S o t).1 ∧ Kep (fun k => k = pt) w w' := by
  obtain ⟨v, ht, hv⟩ := hV
  have HV := Lib.hid (⟨v, ht, hv⟩ : VM w pt base S)
  have HR := Lib.hid hrow; have HT := Lib.hid ht; have HB := Lib.hid hL
  obtain ⟨Av, cv, rfl⟩ := own_form hv
  have m0 := hM.cell; have bb0 := hL.cell; have t0 := ht.cell
  clear hrow ht hL hv hM
  by_cases hno : a < t
  · have HX := Lib.hid (visM_late (n := f.length) (S := S) (o := o) hno)
    go_enter Try.func66, Try.ntmps66
    go_wp2
    go_ret
    exact ⟨ret_bool (by rw [HX.out]), by rw [HX.out]; exact HV.out, Kep.refl _ _⟩
  · by_cases hnew : S.length < o.length
    · have HX := Lib.hid (visM_new (n := f.length) hno hnew)
      have hni : (S.length : Int) < (o.length : Int) := by omega
      have hcl := cloneS_any o g 0 cap w (fun k hk => by rw [HR.out.cellAt (0 + k) (by omega)]; simp [intsZ, hk]) ho
      have HCL := Lib.hid hcl
      clear hcl hnew
      go_enter Try.func66, Try.ntmps66
      go_wp2_with fail
      refine HCL.out.mono ?_
      intro e w1 hto
      obtain ⟨v1, rfl, hb, hown⟩ := hto
      have HT1 := Lib.hid (HT.out.next hb); have HB1 := Lib.hid (HB.out.next hb)
      have HO1 := Lib.hid hown
      have HK1 : Hid (Kep (fun k => k = pt) w w1) := Lib.hid ((Kep.refl _ _).next hb)
      obtain ⟨A1, c1, rfl⟩ := own_form hown
      clear hb hown m0 bb0 t0
      have c2 := HT1.out.cell; have f2 := HT1.out.free; have c3 := HB1.out.cell
      have d3' := d3.symm
      have HTf := Lib.hid (HT1.out.set (.slice A1 o.length c1))
      have HKf := Lib.hid (HK1.out.set (p := pt) (.inl rfl) 0 (.slice A1 o.length c1))
      have HOf := Lib.hid (((Kep.refl (fun k => k = pt) w1).set (p := pt) (.inl rfl) 0 (.slice A1 o.length c1)).owns (Joins.ownsRow_le HO1.out hbase) (fun k hk he => by have := own_lt HO1.out k hk; have he' : k = pt := he; omega))
      have hdd : decide ((o.length : Int) < (f.length : Int)) = decide (o.length < f.length) := decide_eq_decide.2 (by omega)
      have HDD := Lib.hid hdd
      clear hdd
      go_wp2
      go_ret
      exact ⟨ret_bool (by rw [HX.out]; try (first | exact HDD.out | rfl)), by rw [HX.out]; exact ⟨_, HTf.out, HOf.out⟩, HKf.out⟩
    · have HX := Lib.hid (visM_old (n := f.length) hno hnew)
      have hni : ¬ (S.length : Int) < (o.length : Int) := by omega
      have hdd : decide ((S.length : Int) < (f.length : Int)) = decide (S.length < f.length) := decide_eq_decide.2 (by omega)
      have HDD := Lib.hid hdd
      clear hdd hnew
      go_enter Try.func66, Try.ntmps66
      go_wp2
      go_ret
      exact ⟨ret_bool (by rw [HX.out]; try (first | exact HDD.out | rfl)), by rw [HX.out]; exact HV.out, Kep.refl _ _⟩
end Go.Proofs.Ytpocghcdfpcedaa
