/-
  FnExactLastPlaceWithin: for every input (a slice of strings, a slice of strings, a text, an int) the law returns true, and what it was given reads as before. Conditions: the given card's own (two tables of unicode/utf8 as the program's text lays them, which this proof does not read).
-/
import Derived.Test.YtcbhhbcfnaekpaaDoorRows
import Derived.Test.YtcbhhbcfnaekpaaDoorHyz
import Derived.Test.YtcbhhbcfnaekpaaDoorHyl
import Derived.ProofKit
import Derived.OpenShut
import Derived.ShutString
import Derived.ChangeOld
import Derived.Lib.SmallJoins
import Derived.Test.YtcbhhbcfnaekpaaDoorCards
import Derived.Test.YtcbhhbcfnaekpaaDoorTie
import Derived.LaidMore
import Derived.LaidHandle
import Derived.MakeChecks
import Derived.Stop.Joined
import Derived.SevenTiedAt
import Derived.Lay
import Derived.HandedShaped
namespace Go.Proofs.YtcbhhbcfnaekpaaDoor.fnExactLastPlaceWithin
open Go Go.ChangeShapes Go.WideShapes Go.ChangeAt Go.RowKit Go.Joins
open Go.ChangeMaps (open_string shut_string)
set_option linter.unusedVariables false

theorem own : ownKnob Tryd.prog.godebug = none := by kernel_rfl
theorem laidOut : laidOutB Tryd.prog = true := by kernel_rfl

set_option maxRecDepth 100000 in
set_option maxHeartbeats 4000000 in
theorem walk (A0 : Option Addr) (s0 : List ByteArray) (c0 : Nat) (A1 : Option Addr) (s1 : List ByteArray) (c1 : Nat) (t2 : ByteArray) (a3 : Int) (w : World) (hs0 : StrsIn w A0 s0) (ho0 : StrsOk s0) (hl0 : s0.length ≤ maxLen) (hs1 : StrsIn w A1 s1) (ho1 : StrsOk s1) (hl1 : s1.length ≤ maxLen) (ht2 : t2.size ≤ maxLen) (r3 : -9223372036854775808 ≤ a3 ∧ a3 ≤ 9223372036854775807) (hy : LayB w) :
    Calls Tryd.prog 9 #[.slice A0 s0.length c0, .slice A1 s1.length c1, .string t2, .int .i64 a3] w fun e w' => e = .returned (.bool true) ∧ Below w.heap.size w w' := by
  have HY := Lib.hid hy; clear hy
  have HS0 := Lib.hid hs0; clear hs0
  have HO0 := Lib.hid ho0; clear ho0
  unfold maxLen at hl0
  have HS1 := Lib.hid hs1; clear hs1
  have HO1 := Lib.hid ho1; clear ho1
  unfold maxLen at hl1
  unfold maxLen at ht2
  by_cases hlong2 : (1048576 : Int) < t2.size
  · go_enter Tryd.func9, Tryd.ntmps9
    go_wp2
    go_ret
    exact ⟨rfl, Below.refl _ _⟩
  have htn2 : t2.size ≤ 1048576 := by omega
  have HR3 := Lib.hid r3; clear r3
  have A_0 : Hid (Below w.heap.size w w) := Lib.hid (Below.refl _ _)
  obtain ⟨V0, hV0⟩ : ∃ V, V = lwV s0 s1 t2 a3 := ⟨_, rfl⟩
  have HV0 := Lib.hid hV0; clear hV0
  have hne0 : (V0 != V0) = false := by simp
  obtain ⟨V1, hV1⟩ : ∃ V, V = lwB s0 s1 t2 a3 := ⟨_, rfl⟩
  have HV1 := Lib.hid hV1; clear hV1
  have hne1 : (V1 != V1) = false := by simp
  have HSP : Hid (∀ (W : World) (B0 : Option Addr) (B1 : Option Addr), s0.length ≤ 1048576 → StrsLe s0 → s1.length ≤ 1048576 → StrsLe s1 → StrsIn W B0 s0 → StrsIn W B1 s1 → Calls Tryd.prog 26 #[.slice B0 s0.length s0.length, .slice B1 s1.length s1.length, .string t2, .int .i64 a3] W fun e W' => e = .returned (.tuple #[.int .i64 V0, .bool V1]) ∧ Below W.heap.size W W') := Lib.hid (by
    rw [HV0.out, HV1.out]; exact fun W B0 B1 h0 o0 h1 o1 i0 i1 => specLastPlace_any s0 B0 s0.length s1 B1 s1.length t2 a3 W i0 o0 h0 i1 o1 h1 htn2 )
  have HIM : Hid (∀ (W : World) (B0 : Option Addr) (B1 : Option Addr), s0.length ≤ 1048576 → StrsLe s0 → s1.length ≤ 1048576 → StrsLe s1 → StrsIn W B0 s0 → StrsIn W B1 s1 → LayB W → Calls Tryd.prog 25 #[.slice B0 s0.length s0.length, .slice B1 s1.length s1.length, .string t2, .int .i64 a3] W fun e W' => e = .returned (.tuple #[.int .i64 V0, .bool V1]) ∧ Below W.heap.size W W') := Lib.hid (by
    rw [HV0.out, HV1.out]; exact fun W B0 B1 h0 o0 h1 o1 i0 i1 yW => implLastPlace_any s0 B0 s0.length s1 B1 s1.length t2 a3 W i0 o0 h0 i1 o1 h1 htn2  yW)
  go_enter Tryd.func9, Tryd.ntmps9
  go_wp2_with fail
  have hfin0 := szStrs_len s0 1048576 (by omega)
  have hfle0 := szStrs_le s0 1048576 (by omega) (by omega)
  have hrg0 := szStrs_range s0 1048576 (by omega)
  refine (szStringS_any s0 A0 c0 1048576 _ (HS0.out.below A_0.out (Nat.le_refl _)) HO0.out (by unfold maxLen; omega) (by omega) (by omega)).mono ?_
  rintro e u1 ⟨rfl, hb1⟩
  have A_1 : Hid (Below w.heap.size w u1) := Lib.hid ((A_0.out).trans (Below.mono hb1 (A_0.out).size))
  clear A_0
  clear hb1
  generalize szStringSF s0 1048576 = z0 at *
  by_cases hz0 : z0 < 0
  · go_wp2
    go_ret
    exact ⟨rfl, A_1.out⟩
  have hn0 : s0.length ≤ 1048576 := hfin0 (by omega)
  have HLE0 := Lib.hid (hfle0 (by omega))
  clear hfin0 hfle0
  go_wp2_with fail
  have hfin1 := szStrs_len s1 z0 (by omega)
  have hfle1 := szStrs_le s1 z0 (by omega) (by omega)
  have hrg1 := szStrs_range s1 z0 (by omega)
  refine (szStringS_any s1 A1 c1 z0 _ (HS1.out.below A_1.out (Nat.le_refl _)) HO1.out (by unfold maxLen; omega) (by omega) (by omega)).mono ?_
  rintro e u2 ⟨rfl, hb2⟩
  have A_2 : Hid (Below w.heap.size w u2) := Lib.hid ((A_1.out).trans (Below.mono hb2 (A_1.out).size))
  clear A_1
  clear hb2
  generalize szStringSF s1 z0 = z1 at *
  by_cases hz1 : z1 < 0
  · go_wp2
    go_ret
    exact ⟨rfl, A_2.out⟩
  have hn1 : s1.length ≤ 1048576 := hfin1 (by omega)
  have HLE1 := Lib.hid (hfle1 (by omega))
  clear hfin1 hfle1
  go_wp2_with fail
  refine (toStrOwn_any s0 A0 c0 _ (HS0.out.below A_2.out (by first | exact Nat.le_refl _)) hn0).mono ?_
  rintro e u3 ⟨rfl, hb3, hr3⟩
  have hB3 : u2.heap.size < u3.heap.size := row_lt hr3
  have A_3 : Hid (Below w.heap.size w u3) := Lib.hid ((A_2.out).trans (Below.mono hb3 (A_2.out).size))
  clear A_2
  clear hb3
  have Z0_3 : Hid (u3.ownsRow 0 9 1 (.slice (some ⟨u2.heap.size, 0, none⟩) s0.length s0.length) s0.length (strs s0)) := Lib.hid hr3
  clear hr3
  go_wp2_with fail
  refine (toStrOwn_any s1 A1 c1 _ (HS1.out.below A_3.out (by first | exact Nat.le_refl _)) hn1).mono ?_
  rintro e u4 ⟨rfl, hb4, hr4⟩
  have hB4 : u3.heap.size < u4.heap.size := row_lt hr4
  have A_4 : Hid (Below w.heap.size w u4) := Lib.hid ((A_3.out).trans (Below.mono hb4 (A_3.out).size))
  have Z0_4 : Hid (u4.ownsRow 0 9 1 (.slice (some ⟨u2.heap.size, 0, none⟩) s0.length s0.length) s0.length (strs s0)) := Lib.hid (own_below Z0_3.out hb4)
  clear A_3 Z0_3
  clear hb4
  have Z1_4 : Hid (u4.ownsRow 0 9 1 (.slice (some ⟨u3.heap.size, 0, none⟩) s1.length s1.length) s1.length (strs s1)) := Lib.hid hr4
  clear hr4
  go_wp2_with fail
  refine (HSP.out _ _ _ hn0 HLE0.out hn1 HLE1.out (own_in_s Z0_4.out) (own_in_s Z1_4.out)).mono ?_
  rintro e u5 ⟨rfl, hb5⟩
  have A_5 : Hid (Below w.heap.size w u5) := Lib.hid ((A_4.out).trans (Below.mono hb5 (A_4.out).size))
  have Z0_5 : Hid (u5.ownsRow 0 9 1 (.slice (some ⟨u2.heap.size, 0, none⟩) s0.length s0.length) s0.length (strs s0)) := Lib.hid (own_below Z0_4.out hb5)
  have Z1_5 : Hid (u5.ownsRow 0 9 1 (.slice (some ⟨u3.heap.size, 0, none⟩) s1.length s1.length) s1.length (strs s1)) := Lib.hid (own_below Z1_4.out hb5)
  clear A_4 Z0_4 Z1_4
  clear hb5
  clear Z0_5
  clear Z1_5
  go_wp2_with fail
  refine (toStrOwn_any s0 A0 c0 _ (HS0.out.below A_5.out (by first | exact Nat.le_refl _)) hn0).mono ?_
  rintro e u6 ⟨rfl, hb6, hr6⟩
  have hB6 : u5.heap.size < u6.heap.size := row_lt hr6
  have A_6 : Hid (Below w.heap.size w u6) := Lib.hid ((A_5.out).trans (Below.mono hb6 (A_5.out).size))
  clear A_5
  clear hb6
  have X_0_6 : Hid (u6.ownsRow 0 9 1 (.slice (some ⟨u5.heap.size, 0, none⟩) s0.length s0.length) s0.length (strs s0)) := Lib.hid hr6
  clear hr6
  go_wp2_with fail
  refine (toStrOwn_any s1 A1 c1 _ (HS1.out.below A_6.out (by first | exact Nat.le_refl _)) hn1).mono ?_
  rintro e u7 ⟨rfl, hb7, hr7⟩
  have hB7 : u6.heap.size < u7.heap.size := row_lt hr7
  have A_7 : Hid (Below w.heap.size w u7) := Lib.hid ((A_6.out).trans (Below.mono hb7 (A_6.out).size))
  have X_0_7 : Hid (u7.ownsRow 0 9 1 (.slice (some ⟨u5.heap.size, 0, none⟩) s0.length s0.length) s0.length (strs s0)) := Lib.hid (own_below X_0_6.out hb7)
  clear A_6 X_0_6
  clear hb7
  have X_1_7 : Hid (u7.ownsRow 0 9 1 (.slice (some ⟨u6.heap.size, 0, none⟩) s1.length s1.length) s1.length (strs s1)) := Lib.hid hr7
  clear hr7
  go_wp2_with fail
  refine (HIM.out _ _ _ hn0 HLE0.out hn1 HLE1.out (own_in_s X_0_7.out) (own_in_s X_1_7.out) (HY.out.below A_7.out)).mono ?_
  rintro e u8 ⟨rfl, hb8⟩
  have A_8 : Hid (Below w.heap.size w u8) := Lib.hid ((A_7.out).trans (Below.mono hb8 (A_7.out).size))
  have X_0_8 : Hid (u8.ownsRow 0 9 1 (.slice (some ⟨u5.heap.size, 0, none⟩) s0.length s0.length) s0.length (strs s0)) := Lib.hid (own_below X_0_7.out hb8)
  have X_1_8 : Hid (u8.ownsRow 0 9 1 (.slice (some ⟨u6.heap.size, 0, none⟩) s1.length s1.length) s1.length (strs s1)) := Lib.hid (own_below X_1_7.out hb8)
  clear A_7 X_0_7 X_1_7
  clear hb8
  go_wp2_with fail
  refine (toStrOwn_any s0 A0 c0 _ (HS0.out.below A_8.out (by first | exact Nat.le_refl _)) hn0).mono ?_
  rintro e u9 ⟨rfl, hb9, hr9⟩
  have hB9 : u8.heap.size < u9.heap.size := row_lt hr9
  have A_9 : Hid (Below w.heap.size w u9) := Lib.hid ((A_8.out).trans (Below.mono hb9 (A_8.out).size))
  have X_0_9 : Hid (u9.ownsRow 0 9 1 (.slice (some ⟨u5.heap.size, 0, none⟩) s0.length s0.length) s0.length (strs s0)) := Lib.hid (own_below X_0_8.out hb9)
  have X_1_9 : Hid (u9.ownsRow 0 9 1 (.slice (some ⟨u6.heap.size, 0, none⟩) s1.length s1.length) s1.length (strs s1)) := Lib.hid (own_below X_1_8.out hb9)
  clear A_8 X_0_8 X_1_8
  clear hb9
  have W0_9 : Hid (u9.ownsRow 0 9 1 (.slice (some ⟨u8.heap.size, 0, none⟩) s0.length s0.length) s0.length (strs s0)) := Lib.hid hr9
  clear hr9
  go_wp2_with fail
  refine (eqStringS_any s0 s0 _ _ _ _ _ (own_in_s X_0_9.out) (own_in_s W0_9.out) (by unfold maxLen; omega) (by unfold maxLen; omega)).mono ?_
  rintro e u10 ⟨rfl, hb10⟩
  rw [show decide (s0 = s0) = true from decide_eq_true rfl]
  clear W0_9
  have A_10 : Hid (Below w.heap.size w u10) := Lib.hid ((A_9.out).trans (Below.mono hb10 (A_9.out).size))
  have X_0_10 : Hid (u10.ownsRow 0 9 1 (.slice (some ⟨u5.heap.size, 0, none⟩) s0.length s0.length) s0.length (strs s0)) := Lib.hid (own_below X_0_9.out hb10)
  have X_1_10 : Hid (u10.ownsRow 0 9 1 (.slice (some ⟨u6.heap.size, 0, none⟩) s1.length s1.length) s1.length (strs s1)) := Lib.hid (own_below X_1_9.out hb10)
  clear A_9 X_0_9 X_1_9
  clear hb10
  go_wp2_with fail
  refine (toStrOwn_any s1 A1 c1 _ (HS1.out.below A_10.out (by first | exact Nat.le_refl _)) hn1).mono ?_
  rintro e u11 ⟨rfl, hb11, hr11⟩
  have hB11 : u10.heap.size < u11.heap.size := row_lt hr11
  have A_11 : Hid (Below w.heap.size w u11) := Lib.hid ((A_10.out).trans (Below.mono hb11 (A_10.out).size))
  have X_0_11 : Hid (u11.ownsRow 0 9 1 (.slice (some ⟨u5.heap.size, 0, none⟩) s0.length s0.length) s0.length (strs s0)) := Lib.hid (own_below X_0_10.out hb11)
  have X_1_11 : Hid (u11.ownsRow 0 9 1 (.slice (some ⟨u6.heap.size, 0, none⟩) s1.length s1.length) s1.length (strs s1)) := Lib.hid (own_below X_1_10.out hb11)
  clear A_10 X_0_10 X_1_10
  clear hb11
  have W1_11 : Hid (u11.ownsRow 0 9 1 (.slice (some ⟨u10.heap.size, 0, none⟩) s1.length s1.length) s1.length (strs s1)) := Lib.hid hr11
  clear hr11
  go_wp2_with fail
  refine (eqStringS_any s1 s1 _ _ _ _ _ (own_in_s X_1_11.out) (own_in_s W1_11.out) (by unfold maxLen; omega) (by unfold maxLen; omega)).mono ?_
  rintro e u12 ⟨rfl, hb12⟩
  rw [show decide (s1 = s1) = true from decide_eq_true rfl]
  clear W1_11
  have A_12 : Hid (Below w.heap.size w u12) := Lib.hid ((A_11.out).trans (Below.mono hb12 (A_11.out).size))
  have X_0_12 : Hid (u12.ownsRow 0 9 1 (.slice (some ⟨u5.heap.size, 0, none⟩) s0.length s0.length) s0.length (strs s0)) := Lib.hid (own_below X_0_11.out hb12)
  have X_1_12 : Hid (u12.ownsRow 0 9 1 (.slice (some ⟨u6.heap.size, 0, none⟩) s1.length s1.length) s1.length (strs s1)) := Lib.hid (own_below X_1_11.out hb12)
  clear A_11 X_0_11 X_1_11
  clear hb12
  go_wp2
  go_ret
  exact ⟨rfl, A_12.out⟩

def laid2 : List (String × DataW Unit) := [("unicode/utf8.acceptRanges", Rows.laid_unicode_utf8_acceptRanges), ("unicode/utf8.first", Rows.laid_unicode_utf8_first)]
theorem lay_of {W : World} (hsh : W.ShapedOpen Tryd.prog) : LayB W := Tryd.laysM146.s1_3 W hsh
/-- The wrap that hands a proof both the condition and the world's shape. -/
theorem wrap {H : Type} {enc : TypeId × Value → H} {a : Assume} {C : Checked} {os : Os} {f : FuncId} {fn : Func} {s : ChangeSpec} {conds : List PathCond} {apart fresh handsOn again : Bool} {X : World → Array Value → Prop}
    (hX : ∀ (w w' : World) (args : Array Value), w.heap = w'.heap → X w args → X w' args)
    (own : ownKnob C.prog.godebug = none) (started : os.Started) (noInit : C.prog.inits.idxOf? f = none) (hfn : C.prog.funcs[f]? = some fn)
    (witness : ∃ (w : World) (tape : Tape) (i : Input), w.os = os ∧ (w.forCall tape i).Shaped C.prog ∧ i.vars = [] ∧ Input.okWide C.prog (w.forCall tape i) .any w.heap.size f i ∧
      ((s.pre enc C.prog fn conds apart (w.forCall tape i).memory i.args ∧ X (w.forCall tape i).memory i.args) ∧ sizedMet enc C.prog fn (OpenSpec.ofChange s) apart (w.forCall tape i).memory i.args) ∧ a.holds C.prog (lone (Frame.enter C.prog f i.args .normal) [] (w.forCall tape i)))
    (contract : ∀ (W : World) (base : Nat) (args : Array Value) (ds gs : List (DataW H)) (before : List MemPlace),
      (∀ (j : Nat) t v, fn.params[j]? = some t → args[j]? = some v → Value.okWide C.prog W .any base t v) →
      DataW.Whole enc C.prog fn.params.toList s.vars apart W args.toList ds gs before →
      X W args → W.ShapedOpen C.prog →
      Calls C.prog f args W fun e W' => ∃ v, e = .returned v ∧ s.post enc C.prog fn apart fresh handsOn again W args v W') :
    ReturnsInHanded a C os f .any (fun w args => (s.pre enc C.prog fn conds apart w args ∧ X w args) ∧ sizedMet enc C.prog fn (OpenSpec.ofChange s) apart w args) (s.post enc C.prog fn apart fresh handsOn again) := by
  refine returnsInHanded_of_calls own started noInit witness ?_
  intro w tape i _ hsh _ hok hpre hholds
  obtain ⟨_, _, _, fn', hfn', _, _, _, _, hval⟩ := hok
  have e : fn' = fn := Option.some.inj (hfn'.symm.trans hfn)
  subst e
  obtain ⟨⟨⟨ds, gs, before, hw, hc⟩, hx⟩, hz⟩ := hpre
  have hw' := DataW.Whole.of_heap (w' := w.forCall tape i) (by rfl) hw
  refine (contract (w.forCall tape i) w.heap.size i.args ds gs before hval hw' (hX _ _ _ (by rfl) hx) hsh).mono fun e W' ⟨v, he, hp⟩ => ?_
  subst he
  exact ChangeSpec.post_blind hp

set_option maxRecDepth 100000 in
theorem door_met (os : Os) (args : Array Value) : laidMetH Tryd.prog laid2 ((World.laidAll Tryd.prog os laid2).forCall (fun _ _ => 0) ⟨#[], args, []⟩).memory := by
  rw [MakeChecks.laidMetH_plain _ _ _ (by kernel_rfl)]
  exact laidMet_laidAll _ (by kernel_rfl) (by kernel_rfl)

set_option maxRecDepth 100000 in
theorem lifted (os : Os) (started : os.Started) (H : Type) (enc : TypeId × Value → H) :
    ReturnsInHanded {} Tryd.checked os 9 .any (fun w args => (Rows.fnExactLastPlaceWithinSpec.pre enc Tryd.prog Tryd.f9 [] false w args ∧ laidMetH Tryd.prog laid2 w) ∧ sizedMet enc Tryd.prog Tryd.f9 (OpenSpec.ofChange Rows.fnExactLastPlaceWithinSpec) false w args)
      (Rows.fnExactLastPlaceWithinSpec.post enc Tryd.prog Tryd.f9 false true false false) := by
  refine wrap (C := Tryd.checked) (X := fun w _ => laidMetH Tryd.prog laid2 w) (fun _ _ _ hh h => h.of_heap hh) own started (by kernel_rfl) Tryd.func9
    (ChangeSpec.witness_shaped (enc := enc) (C := Tryd.checked) (os := os) (X := fun w _ => laidMetH Tryd.prog laid2 w) false (World.laidAll Tryd.prog os laid2) #[.slice none 0 0, .slice none 0 0, .string ⟨#[]⟩, .int .i64 0] 8 rfl (World.shaped_of_ZipB (by kernel_rfl) (by kernel_rfl)) (by kernel_rfl) (by kernel_rfl) (by kernel_rfl) (door_met os _)) ?_
  intro W base args ds gs before hval0 hW hL hsh
  have hval : ∀ (j : Nat) t v, Tryd.f9.params[j]? = some t → args[j]? = some v → Value.okWide Tryd.prog W .any base t v := hval0
  have hW' := hW
  obtain ⟨p, q, hA0, hV, rfl, hfz, hnd⟩ := hW
  have hA : DataW.TrodAll enc Tryd.prog W 0 (fun _ => true) true Tryd.f9.params.toList args.toList ds p := hA0
  rw [Tryd.params9] at hA hval
  obtain ⟨v0, vs0, d0, ds0, p0, q0, hargs, rfl, rfl, h0, r0⟩ := trodAll_cons hA
  obtain ⟨v1, vs1, d1, ds1, p1, q1, rfl, rfl, rfl, h1, r1⟩ := trodAll_cons r0
  obtain ⟨v2, vs2, d2, ds2, p2, q2, rfl, rfl, rfl, h2, r2⟩ := trodAll_cons r1
  obtain ⟨v3, vs3, d3, ds3, p3, q3, rfl, rfl, rfl, h3, r3⟩ := trodAll_cons r2
  obtain ⟨rfl, rfl, rfl⟩ := trodAll_nil r3
  obtain rfl : args = #[v0, v1, v2, v3] := by cases args; simp_all
  obtain ⟨rfl, rfl⟩ := trodVars_none hV
  have k0 := h0
  have lt0 : ∀ x ∈ p0, x.block < W.heap.size := by obtain ⟨m, hm⟩ := k0; exact DataW.trod_lt m _ _ _ hm
  have k1 := h1
  have lt1 : ∀ x ∈ p1, x.block < W.heap.size := by obtain ⟨m, hm⟩ := k1; exact DataW.trod_lt m _ _ _ hm
  have k2 := h2
  have lt2 : ∀ x ∈ p2, x.block < W.heap.size := by obtain ⟨m, hm⟩ := k2; exact DataW.trod_lt m _ _ _ hm
  have k3 := h3
  have lt3 : ∀ x ∈ p3, x.block < W.heap.size := by obtain ⟨m, hm⟩ := k3; exact DataW.trod_lt m _ _ _ hm
  obtain ⟨A0, f0, c0, rfl, hs0, ho0, hl0⟩ := open_strs (hval 0 23 v0 rfl rfl) h0
  obtain ⟨A1, f1, c1, rfl, hs1, ho1, hl1⟩ := open_strs (hval 1 23 v1 rfl rfl) h1
  obtain ⟨t2, rfl, rfl, rfl, wt2⟩ := open_string Tryd.underlying9 (hval 2 9 v2 rfl rfl) h2
  obtain ⟨a3, rfl, rfl, rfl, wa3⟩ := open_int Tryd.underlying3 (hval 3 3 v3 rfl rfl) h3
  clear hA0 hval0
  refine (walk A0 f0 c0 A1 f1 c1 t2 a3 W hs0 ho0 hl0 hs1 ho1 hl1 wt2 (wf_range wa3) (lay_of hsh)).mono fun e W' ⟨he, bel⟩ => ?_
  subst he
  exact ⟨_, rfl, _, _, _, [], _, [], hW', trodAll_mk1 (shut_bool Tryd.underlying4 _), (trodAll_cons_mk (Below.trod laidOut (by kernel_rfl) (of_decide_eq_true (by kernel_rfl)) k0 bel lt0) (trodAll_cons_mk (Below.trod laidOut (by kernel_rfl) (of_decide_eq_true (by kernel_rfl)) k1 bel lt1) (trodAll_cons_mk (Below.trod laidOut (by kernel_rfl) (of_decide_eq_true (by kernel_rfl)) k2 bel lt2) (trodAll_cons_mk (Below.trod laidOut (by kernel_rfl) (of_decide_eq_true (by kernel_rfl)) k3 bel lt3) trodAll_mk0)))), rfl, bel.frame _, fun h => by cases h⟩

theorem over : Rows.FnExactLastPlaceWithinSaid :=
  OpenClaim.holds_of_wide 9 Tryd.f9 rfl rfl rfl rfl rfl rfl rfl ⟨rfl, rfl, rfl, rfl, rfl⟩ rfl rfl rfl rfl rfl (by kernel_rfl) Tryd.func9 (by kernel_rfl)
    (of_decide_eq_true (by kernel_rfl)) (by unfold Func.isWrapper; first | (rw [if_pos (by decide +kernel)]; kernel_rfl) | (rw [if_neg (by decide +kernel)]; exact ⟨rfl, rfl⟩))
    (fun os started H enc _ => lifted os started H enc)

theorem proved : Rows.FnExactLastPlaceWithinCardSaid :=
  Claim7.holds_tied_plain_at .later [] [.data, .pinned] true (true, "2c8310377d7f201b1be5aa71e1a2488674e4727f26cb87bf97b84a8e4d3a74bc") false
    over (fun _ h => by cases h) (by kernel_rfl) (fun _ h => by cases h) fnExactLastPlaceWithin_row_tie rfl ⟨rfl, rfl⟩ (by kernel_rfl) rfl
    (fun f fn hf hfn => by
      obtain rfl : f = 9 := Option.some.inj ((show Tryd.prog.funcNamed "loop.example/g01054/laws.FnExactLastPlaceWithin" = some 9 by kernel_rfl).symm.trans hf) |>.symm
      obtain rfl : fn = Tryd.f9 := (Option.some.inj (Tryd.func9.symm.trans hfn)).symm
      exact ⟨by kernel_rfl, fun j t ht => by
        rw [Tryd.params9] at ht
        have hm : t ∈ [23, 9, 3] := by simpa using Array.mem_of_getElem? ht
        have hall : ([23, 9, 3].all fun u => !Tryd.prog.wantsStandIn u) = true := by kernel_rfl
        exact (show Tryd.prog.wantsStandIn t = false by simpa using List.all_eq_true.1 hall t hm)⟩)
    (by kernel_rfl)
end Go.Proofs.YtcbhhbcfnaekpaaDoor.fnExactLastPlaceWithin
