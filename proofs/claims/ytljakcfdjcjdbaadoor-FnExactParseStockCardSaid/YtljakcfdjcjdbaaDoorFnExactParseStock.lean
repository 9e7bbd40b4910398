/-
  FnExactParseStock: for every input (a text) the law returns true, and what it was given reads as before, where the library's tables start as the program's text lays them; the card ties that to the text. Conditions: none beyond the given statement's own.
-/
import Derived.Test.YtljakcfdjcjdbaaDoorRows
import Derived.Test.YtljakcfdjcjdbaaDoorCards
import Derived.Test.YtljakcfdjcjdbaaDoorTie
import Derived.Test.YtljakcfdjcjdbaaDoorTf
import Derived.Test.YtljakcfdjcjdbaaDoorPe
import Derived.Test.YtljakcfdjcjdbaaDoorPr
import Derived.Lib.LaidTab
import Derived.LaidMore
import Derived.Lay
import Derived.LaidHandle
import Derived.MakeChecks
import Derived.OpenShut
import Derived.Stop.Joined
import Derived.Stop.LaidErr
import Derived.SevenTiedAt
import Derived.HandedShaped
namespace Go.Proofs.YtljakcfdjcjdbaaDoor.fnExactParseStock
open Go Go.ChangeShapes Go.WideShapes Go.ChangeAt Go.RowKit Go.Joins
open Go.ChangeMaps (open_string shut_string)
set_option linter.unusedVariables false

theorem own : ownKnob Tryd.prog.godebug = none := by kernel_rfl
theorem laidOut : laidOutB Tryd.prog = true := by kernel_rfl

set_option maxRecDepth 100000 in
set_option maxHeartbeats 8000000 in
theorem walk (s : ByteArray) (w : World) (hy : LayP w) :
    Calls Tryd.prog 4 #[.string s] w fun e w' => e = .returned (.bool true) ∧ Below w.heap.size w w' := by
  have HY := Lib.hid hy; clear hy
  by_cases hs : s.size ≤ 1048576
  · have hs1 : ¬ (1048576 : Int) < (s.size : Int) := by omega
    go_enter Tryd.func4, Tryd.ntmps4
    go_wp2_with fail
    refine (specParseStock_any s _ hs).mono ?_
    intro e w1 hto
    obtain ⟨v0, T0, rfl, hb1, ho1⟩ := hto
    obtain ⟨A0, c0, rfl⟩ := own_form_sl ho1
    have HY1 := Lib.hid (HY.out.below hb1)
    have O1 := Lib.hid (own_up ho1)
    have B1 := Lib.hid (own_bound ho1)
    have HB1 := Lib.hid hb1
    clear hb1 ho1 HY
    go_wp2_with fail
    refine (implParseStock_any s _ hs HY1.out).mono ?_
    intro e w2 hto
    obtain ⟨vg, Tg, rfl, hb2, ho2⟩ := hto
    obtain ⟨Ag, cg, rfl⟩ := own_form_sl ho2
    have LG := Lib.hid (own_lt ho2)
    have OG := Lib.hid (own_up ho2)
    have O2 := Lib.hid (own_below O1.out hb2)
    have HS1 := HB1.out.size
    have HB2 := Lib.hid (HB1.out.trans (hb2.mono HB1.out.size))
    have HT2 := Lib.hid hb2
    clear hb2 ho2 O1 HB1
    have HLEN : (psV s).length ≤ 1048576 := psV_short s
    have HSO : Hid (∀ (W : World), LayP W → Calls Tryd.prog 11 #[.string s] W fun e w' => ∃ v T, e = .returned (.tuple #[v, .bool (psA s)]) ∧ Below W.heap.size W w' ∧ w'.ownsRow W.heap.size T 2 v (psV s).length (flatSl (psV s))) := by
      show ∀ _, _
      exact fun W h => implParseStock_any s W hs h
    generalize psA s = b at *
    generalize psV s = L at *
    have hbb : (b != b) = false := by simp
    have hmx : L.length ≤ maxLen := by unfold maxLen; omega
    go_wp2_with fail
    refine (eqSlipS_any L L _ _ _ _ _ (own_in_sl OG.out) (own_in_sl O2.out) hmx hmx).mono ?_
    rintro e w3 ⟨rfl, hb3⟩
    rw [show decide (L = L) = true from decide_eq_true rfl]
    have HB3 := Lib.hid (HB2.out.trans (hb3.mono HB2.out.size))
    have HT3 := Lib.hid (HT2.out.trans (hb3.mono HT2.out.size))
    have O3 := Lib.hid (own_below O2.out hb3)
    have OG3 := Lib.hid (own_below OG.out hb3)
    clear hb3 HB2 HT2 O2 OG
    go_wp2_with fail
    refine (markSlipS_any 1 L.length 0 _ _ _ _ OG3.out (by omega) (by omega)).mono ?_
    rintro e w4 ⟨rfl, hg4, om4⟩
    have hne : ∀ k, (Value.slice A0 L.length c0).ownBlock = some k → (Value.slice Ag L.length cg).ownBlock ≠ some k := fun k hk e => by
      have h1 := B1.out k hk
      have h2 := LG.out k e
      omega
    have HB4 := Lib.hid (HB3.out.grown hg4 HB3.out.size (fun k hk => by have h2 := LG.out k hk; omega))
    have HT4 := Lib.hid (HT3.out.grown hg4 HT3.out.size (fun k hk => LG.out k hk))
    have O4 := Lib.hid (own_grown O3.out hg4 hne)
    have OM4 := Lib.hid om4
    clear hg4 om4 hne HB3 HT3 O3 OG3
    have hqm : ((((1 + 2 * L.length : Nat) : Int)) != ((1 + 2 * L.length : Nat) : Int)) = false := by simp
    go_wp2_with fail
    refine (heldSlipS_any 1 L.length _ _ _ (own_in_sl OM4.out) (by omega) (by omega)).mono ?_
    rintro e w5 ⟨rfl, hw5⟩
    have hb5 : Below w4.heap.size w4 w5 := by rw [hw5]; exact Below.refl _ _
    clear hw5
    have HB5 := Lib.hid (HB4.out.trans (hb5.mono HB4.out.size))
    have HT5 := Lib.hid (HT4.out.trans (hb5.mono HT4.out.size))
    have HY5 := Lib.hid (HY1.out.below HT5.out)
    have O5 := Lib.hid (own_below O4.out hb5)
    have OM5 := Lib.hid (own_below OM4.out hb5)
    clear hb5 HB4 HT4 O4 OM4
    go_wp2_with fail
    refine (HSO.out _ HY5.out).mono ?_
    intro e w6 hto
    obtain ⟨vh, Th, rfl, hb6, ho6⟩ := hto
    obtain ⟨Ah, ch, rfl⟩ := own_form_sl ho6
    have HB6 := Lib.hid (HB5.out.trans (hb6.mono HB5.out.size))
    have O6 := Lib.hid (own_below O5.out hb6)
    have OM6 := Lib.hid (own_below OM5.out hb6)
    have OH6 := Lib.hid ho6
    clear hb6 ho6 HB5 O5 OM5
    go_wp2_with fail
    refine (eqSlipS_any L L _ _ _ _ _ (own_in_sl OH6.out) (own_in_sl O6.out) hmx hmx).mono ?_
    rintro e w7 ⟨rfl, hb7⟩
    rw [show decide (L = L) = true from decide_eq_true rfl]
    have HB7 := Lib.hid (HB6.out.trans (hb7.mono HB6.out.size))
    have OM7 := Lib.hid (own_below OM6.out hb7)
    clear hb7 HB6 O6 OM6 OH6
    go_wp2_with fail
    refine (heldSlipS_any 1 L.length _ _ _ (own_in_sl OM7.out) (by omega) (by omega)).mono ?_
    rintro e w8 ⟨rfl, hw8⟩
    have hb8 : Below w7.heap.size w7 w8 := by rw [hw8]; exact Below.refl _ _
    clear hw8
    have HB8 := Lib.hid (HB7.out.trans (hb8.mono HB7.out.size))
    clear hb8 HB7
    go_wp2
    go_ret
    exact ⟨rfl, HB8.out⟩
  · have hs1 : (1048576 : Int) < (s.size : Int) := by omega
    go_enter Tryd.func4, Tryd.ntmps4
    go_wp2
    go_ret
    exact ⟨rfl, Below.refl _ _⟩

def laid5 : List (String × DataW Unit) := [("math/bits.deBruijn32tab", Rows.laid_math_bits_deBruijn32tab), ("math/bits.deBruijn64tab", Rows.laid_math_bits_deBruijn64tab), ("internal/strconv.uint64pow10", Rows.laid_internal_strconv_uint64pow10), ("strconv.ErrRange", Rows.laid_strconv_ErrRange), ("strconv.ErrSyntax", Rows.laid_strconv_ErrSyntax)]
noncomputable def gNo : Nat := (Tryd.prog.globalNamed "internal/strconv.uint64pow10").getD 0
theorem star : "*" ++ "errors.errorString" = "*errors.errorString" := by decide
set_option maxRecDepth 100000 in
theorem rowE (u : TypeId) (h : Tryd.prog.typeName? 3 u = some "*errors.errorString") : u = 104 :=
  typeName_ptr_named (nm := "errors.errorString") (by rw [star]; kernel_rfl) (by kernel_rfl) (by decide) u (by rw [star]; exact h)
set_option maxRecDepth 100000 in
theorem sent_of {W : World} {n : String} {g : Nat} {text : List UInt8} {r : List (String × DataW Unit)} (h : laidMet Tryd.prog ((n, .iface "*errors.errorString" (.ptr (.agg [.lit (.string text)]))) :: r) W)
    (hg : Tryd.prog.globalNamed n = some g) (ht : (Tryd.prog.globals[g]?).map (·.type) = some 45) : T1.Sent W g := by
  obtain ⟨a1, s1, hv1, hc1, hs1, hz1⟩ := laid_sentinel h hg ht Tryd.underlying45 rowE Tryd.underlying104 Tryd.underlying106 rfl rfl Tryd.underlying9 (by kernel_rfl) (by kernel_rfl)
  exact ⟨_, by simpa using World.var?_cell hg hv1 0, .inr ⟨_, _, rfl⟩⟩
set_option maxRecDepth 100000 in
theorem lay_of {W : World} (h : laidMetH Tryd.prog laid5 W) (hsh : W.ShapedOpen Tryd.prog) : LayP W := by
  rw [MakeChecks.laidMetH_plain _ _ _ (by kernel_rfl)] at h
  have h3 := h.tail.tail
  exact ⟨Lib.tabIs_of_head (g := gNo) (t := (Tryd.prog.globals[gNo]?.map (·.type)).getD 0) (e := 70) (n := 20) (by kernel_rfl) (by kernel_rfl) (by kernel_rfl) (by kernel_rfl) (by kernel_rfl) (by kernel_rfl) h3,
    sent_of h3.tail.tail (by kernel_rfl) (by kernel_rfl), sent_of h3.tail (by kernel_rfl) (by kernel_rfl), Tryd.laysM145.s1_3 W hsh⟩

/-- The wrap that hands a proof both the condition and the world's shape. -/
theorem wrap {H : Type} {enc : TypeId × Value → H} {a : Assume} {C : Checked} {os : Os} {f : FuncId} {fn : Func} {s : ChangeSpec} {conds : List PathCond} {apart fresh handsOn again : Bool} {X : World → Array Value → Prop}
    (hX : ∀ (w w' : World) (args : Array Value), w.heap = w'.heap → X w args → X w' args)
    (own : ownKnob C.prog.godebug = none) (started : os.Started) (noInit : C.prog.inits.idxOf? f = none) (hfn : C.prog.funcs[f]? = some fn)
    (witness : ∃ (w : World) (tape : Tape) (i : Input), w.os = os ∧ (w.forCall tape i).Shaped C.prog ∧ i.vars = [] ∧ Input.okWide C.prog (w.forCall tape i) .any w.heap.size f i ∧
      ((s.pre enc C.prog fn conds apart (w.forCall tape i).memory i.args ∧ X (w.forCall tape i).memory i.args) ∧ sizedMet enc C.prog fn (OpenSpec.ofChange s) apart (w.forCall tape i).memory i.args) ∧ a.holds C.prog (lone (Frame.enter C.prog f i.args .normal) [] (w.forCall tape i)))
    (contract : ∀ (W : World) (base : Nat) (args : Array Value) (ds gs : List (DataW H)) (before : List MemPlace),
      (∀ (j : Nat) t v, fn.params[j]? = some t → args[j]? = some v → Value.okWide C.prog W .any base t v) →
      DataW.Whole enc C.prog fn.params.toList s.vars apart W args.toList ds gs before →
      X W args → W.ShapedOpen C.prog →
      Calls C.prog f args W fun e W' => ∃ v, e = .returned v ∧ s.post enc C.prog fn apart fresh handsOn again W args v W') :
    ReturnsInHanded a C os f .any (fun w args => (s.pre enc C.prog fn conds apart w args ∧ X w args) ∧ sizedMet enc C.prog fn (OpenSpec.ofChange s) apart w args) (s.post enc C.prog fn apart fresh handsOn again) := by
  refine returnsInHanded_of_calls own started noInit witness ?_
  intro w tape i _ hsh _ hok hpre hholds
  obtain ⟨_, _, _, fn', hfn', _, _, _, _, hval⟩ := hok
  have e : fn' = fn := Option.some.inj (hfn'.symm.trans hfn)
  subst e
  obtain ⟨⟨⟨ds, gs, before, hw, hc⟩, hx⟩, hz⟩ := hpre
  have hw' := DataW.Whole.of_heap (w' := w.forCall tape i) (by rfl) hw
  refine (contract (w.forCall tape i) w.heap.size i.args ds gs before hval hw' (hX _ _ _ (by rfl) hx) hsh).mono fun e W' ⟨v, he, hp⟩ => ?_
  subst he
  exact ChangeSpec.post_blind hp

set_option maxRecDepth 100000 in
theorem door_met (os : Os) (args : Array Value) : laidMetH Tryd.prog laid5 ((World.laidAll Tryd.prog os laid5).forCall (fun _ _ => 0) ⟨#[], args, []⟩).memory := by
  rw [MakeChecks.laidMetH_plain _ _ _ (by kernel_rfl)]
  exact laidMet_laidAll _ (by kernel_rfl) (by kernel_rfl)

set_option maxRecDepth 100000 in
theorem lifted (os : Os) (started : os.Started) (H : Type) (enc : TypeId × Value → H) :
    ReturnsInHanded {} Tryd.checked os 4 .any (fun w args => (Rows.fnExactParseStockSpec.pre enc Tryd.prog Tryd.f4 [] false w args ∧ laidMetH Tryd.prog laid5 w) ∧ sizedMet enc Tryd.prog Tryd.f4 (OpenSpec.ofChange Rows.fnExactParseStockSpec) false w args)
      (Rows.fnExactParseStockSpec.post enc Tryd.prog Tryd.f4 false true false false) := by
  refine wrap (C := Tryd.checked) (X := fun w _ => laidMetH Tryd.prog laid5 w) (fun _ _ _ hh h => h.of_heap hh) own started (by kernel_rfl) Tryd.func4
    (ChangeSpec.witness_shaped (enc := enc) (C := Tryd.checked) (os := os) (X := fun w _ => laidMetH Tryd.prog laid5 w) false (World.laidAll Tryd.prog os laid5) #[.string ⟨#[]⟩] 8 rfl (World.shaped_of_ZipB (by kernel_rfl) (by kernel_rfl)) (by kernel_rfl) (by kernel_rfl) (by kernel_rfl) (door_met os _)) ?_
  intro W base args ds gs before hval0 hW hL hsh
  have hval : ∀ (j : Nat) t v, Tryd.f4.params[j]? = some t → args[j]? = some v → Value.okWide Tryd.prog W .any base t v := hval0
  have hW' := hW
  obtain ⟨p, q, hA0, hV, rfl, hfz, hnd⟩ := hW
  have hA : DataW.TrodAll enc Tryd.prog W 0 (fun _ => true) true Tryd.f4.params.toList args.toList ds p := hA0
  rw [Tryd.params4] at hA hval
  obtain ⟨v0, vs0, d0, ds0, p0, q0, hargs, rfl, rfl, h0, r0⟩ := trodAll_cons hA
  obtain ⟨rfl, rfl, rfl⟩ := trodAll_nil r0
  obtain rfl : args = #[v0] := by cases args; simp_all
  obtain ⟨rfl, rfl⟩ := trodVars_none hV
  have k0 := h0
  have lt0 : ∀ x ∈ p0, x.block < W.heap.size := by obtain ⟨m, hm⟩ := k0; exact DataW.trod_lt m _ _ _ hm
  obtain ⟨a0, rfl, rfl, rfl, ws⟩ := open_string Tryd.underlying9 (hval 0 9 v0 rfl rfl) h0
  clear hA0 hval0
  refine (walk a0 W (lay_of hL hsh)).mono fun e W' ⟨he, bel⟩ => ?_
  subst he
  exact ⟨_, rfl, _, _, _, [], _, [], hW', trodAll_mk1 (shut_bool Tryd.underlying4 _), (trodAll_cons_mk (Below.trod laidOut (by kernel_rfl) (of_decide_eq_true (by kernel_rfl)) k0 bel lt0) trodAll_mk0), rfl, bel.frame _, fun h => by cases h⟩

theorem over : Rows.FnExactParseStockSaid :=
  OpenClaim.holds_of_wide 4 Tryd.f4 rfl rfl rfl rfl rfl rfl rfl ⟨rfl, rfl, rfl, rfl, rfl⟩ rfl rfl rfl rfl rfl (by kernel_rfl) Tryd.func4 (by kernel_rfl)
    (of_decide_eq_true (by kernel_rfl)) (by unfold Func.isWrapper; first | (rw [if_pos (by decide +kernel)]; kernel_rfl) | (rw [if_neg (by decide +kernel)]; exact ⟨rfl, rfl⟩))
    (fun os started H enc _ => lifted os started H enc)

theorem proved : Rows.FnExactParseStockCardSaid :=
  Claim7.holds_tied_plain_at .later [] [.data, .data, .data, .sentinel, .sentinel] true (true, "003e3fa82d995cb6fa2df13f64548c6a204f113c73670ddec2851165d3b6260b") true
    over (fun _ h => by cases h) (by kernel_rfl) (fun _ h => by cases h) fnExactParseStock_row_tie rfl ⟨rfl, rfl⟩ (by kernel_rfl) rfl
    (fun f fn hf hfn => by
      obtain rfl : f = 4 := Option.some.inj ((show Tryd.prog.funcNamed "loop.example/g01054/laws.FnExactParseStock" = some 4 by kernel_rfl).symm.trans hf) |>.symm
      obtain rfl : fn = Tryd.f4 := (Option.some.inj (Tryd.func4.symm.trans hfn)).symm
      exact ⟨by kernel_rfl, fun j t ht => by
        rw [Tryd.params4] at ht
        have hm : t ∈ [9] := by simpa using Array.mem_of_getElem? ht
        have hall : ([9].all fun u => !Tryd.prog.wantsStandIn u) = true := by kernel_rfl
        exact (show Tryd.prog.wantsStandIn t = false by simpa using List.all_eq_true.1 hall t hm)⟩)
    (by kernel_rfl)
end Go.Proofs.YtljakcfdjcjdbaaDoor.fnExactParseStock
