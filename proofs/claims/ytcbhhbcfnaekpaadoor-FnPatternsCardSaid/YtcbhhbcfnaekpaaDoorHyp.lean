/-
  The table of exceptions: a map from texts to ints, told by its words; the contract of impl.tableOfExceptions.
-/
import Derived.Test.YtcbhhbcfnaekpaaDoorHym
import Derived.Maps.OwnSet
import Derived.Maps.RangeWalk
import Derived.StringKeys
namespace Go.Proofs.YtcbhhbcfnaekpaaDoor
open Go.RowKit Go.Maps Go.WideMaps
set_option linter.unusedVariables false

theorem kS : Keyed Tryd.prog 9 := string_keyed Tryd.underlying9
theorem kOfS {s : ByteArray} (h : s.size ≤ maxLen) : keyOf Tryd.prog 9 (.string s) = some (.string s.data.toList) := keyOf_string_mk Tryd.underlying9 h
theorem uMT : Tryd.prog.underlying 60 = some (.map 9 3) := by first | exact Tryd.underlying60 | kernel_rfl
theorem zIT (w : World) : (zeroValue 3).run Tryd.prog w = .ok (.int .i64 0) w := by first | exact Tryd.zeroValue3 w | exact Tryd.zeroValue3 _ | kernel_rfl
theorem pET {a : Int} (h : (Lit.int .i64 a).wf = true) : plainElem (H := Unit) Tryd.prog 3 (.int .i64 a) = some (.lit (.int .i64 a), []) := plainElem_int Tryd.underlying3 h
theorem wf_nat {k : Nat} (h : k ≤ 1048576) : (Lit.int .i64 (k : Int)).wf = true := by
  show (decide (IntKind.min .i64 ≤ (k : Int)) && decide ((k : Int) ≤ IntKind.max .i64)) = true
  rw [Bool.and_eq_true, decide_eq_true_iff, decide_eq_true_iff]
  show -9223372036854775808 ≤ (k : Int) ∧ (k : Int) ≤ 9223372036854775807
  omega
def keyS (s : ByteArray) : Lit := .string s.data.toList
theorem keyS_inj {a b : ByteArray} (h : keyS a = keyS b) : a = b := by
  injection h with h
  exact ByteArray.ext (Array.ext' h)
theorem isKeyS (s : ByteArray) : WideAt.IsKeyLit (keyS s) := by first | trivial | simp [WideAt.IsKeyLit, keyS]
/-- What a map says of the first k exceptions. -/
structure TabD (D : DataW Unit) (es : List ByteArray) (k : Nat) : Prop where
  tidy : Tidy D
  has1 : ∀ i (h : i < es.length), i < k → has D (keyS (exW es[i])) = true
  has2 : ∀ kl, has D kl = true → ∃ i, ∃ h : i < es.length, i < k ∧ kl = keyS (exW es[i])
  size : size D ≤ k ∧ (size D = k ↔ ((es.take k).map exW).Nodup)
  val : ((es.take k).map exW).Nodup → ∀ i (h : i < es.length), i < k → ∀ z, D.atKey (keyS (exW es[i])) z = .lit (.int .i64 (i : Int))
theorem TabD.start (es : List ByteArray) : TabD (.map []) es 0 :=
  ⟨tidy_empty, fun i h h0 => by omega, fun kl h => (by cases h), ⟨Nat.le_refl _, by simp [Maps.size]⟩, fun _ i h h0 => by omega⟩
theorem TabD.hasIn {D : DataW Unit} {es : List ByteArray} {k : Nat} (h : TabD D es k) (hk : k ≤ es.length) (s : ByteArray) : has D (keyS s) = hasS ((es.take k).map exW) s := by
  rw [Bool.eq_iff_iff, hasS_mem]
  constructor
  · intro h1
    obtain ⟨i, hi, hik, e⟩ := h.has2 _ h1
    rw [keyS_inj e, List.mem_map]
    exact ⟨es[i], by rw [List.mem_take_iff_getElem]; exact ⟨i, by omega, rfl⟩, rfl⟩
  · intro h1
    obtain ⟨x, hx, e⟩ := List.mem_map.1 h1
    obtain ⟨i, hi, e2⟩ := List.mem_take_iff_getElem.1 hx
    subst e
    rw [← e2]
    exact h.has1 i (by omega) (by omega)
theorem TabD.put {D : DataW Unit} {es : List ByteArray} {k : Nat} (h : TabD D es k) (hk : k < es.length) : TabD (D.put (keyS (exW es[k])) (.lit (.int .i64 (k : Int)))) es (k + 1) := by
  have hh := h.hasIn (Nat.le_of_lt hk) (exW es[k])
  have hm : (es.take (k + 1)).map exW = (es.take k).map exW ++ [exW es[k]] := by rw [List.take_succ_eq_append_getElem hk, List.map_append]; rfl
  have hnd : ((es.take (k + 1)).map exW).Nodup ↔ ((es.take k).map exW).Nodup ∧ hasS ((es.take k).map exW) (exW es[k]) = false := by
    rw [hm, List.nodup_append]
    constructor
    · rintro ⟨h1, _, h3⟩
      refine ⟨h1, ?_⟩
      cases hq : hasS ((es.take k).map exW) (exW es[k])
      · rfl
      · exact absurd rfl (h3 _ (hasS_mem.1 hq) _ (by simp))
    · rintro ⟨h1, h2⟩
      refine ⟨h1, by simp, fun a ha b hb e => ?_⟩
      obtain rfl : b = exW es[k] := by simpa using hb
      subst e
      rw [hasS_mem.2 ha] at h2; cases h2
  refine ⟨h.tidy.put (isKeyS _) _, fun i hi hik => ?_, fun kl hkl => ?_, ?_, fun hn i hi hik z => ?_⟩
  · by_cases e : keyS (exW es[i]) = keyS (exW es[k])
    · rw [e]; exact has_put_same h.tidy.isMap (isKeyS _) _
    · rw [has_put_other e]
      exact h.has1 i hi (by rcases (by omega : i < k ∨ i = k) with h1 | h1; · exact h1
                            · subst h1; exact absurd rfl e)
  · by_cases e : kl = keyS (exW es[k])
    · exact ⟨k, hk, by omega, e⟩
    · rw [has_put_other e] at hkl
      obtain ⟨i, hi, hik, e2⟩ := h.has2 kl hkl
      exact ⟨i, hi, by omega, e2⟩
  · rw [size_put h.tidy, hh, hnd]
    have hs := h.size
    cases hq : hasS ((es.take k).map exW) (exW es[k])
    · refine ⟨by simp; omega, ?_⟩
      rw [← hs.2]
      simp
    · refine ⟨by simp; omega, ?_⟩
      simp only [if_true]
      constructor
      · intro e; omega
      · rintro ⟨_, h2⟩; cases h2
  · obtain ⟨h1, h2⟩ := hnd.1 hn
    by_cases e : i = k
    · subst e; exact atKey_put_same h.tidy.isMap (isKeyS _) _ _
    · have hne : keyS (exW es[i]) ≠ keyS (exW es[k]) := fun e2 => by
        have e3 := keyS_inj e2
        have : hasS ((es.take k).map exW) (exW es[k]) = true := hasS_mem.2 (by
          rw [← e3, List.mem_map]
          exact ⟨es[i], by rw [List.mem_take_iff_getElem]; exact ⟨i, by omega, rfl⟩, rfl⟩)
        rw [h2] at this; cases this
      rw [atKey_put_other hne]
      exact h.val h1 i hi (by omega) z
/-- Block b is the table of the exceptions. -/
def IsTab (w : World) (b : Nat) (es : List ByteArray) : Prop := ∃ D : DataW Unit, w.ownsMap Tryd.prog 9 (plainElem Tryd.prog 3) b 20 D ∧ TabD D es es.length
def TabTo (es : List ByteArray) (w w' : World) (e : Ending) : Prop := Below w.heap.size w w' ∧ ((exsB es = false ∧ ∃ x, e = .returned (.tuple #[.map x, .bool false])) ∨
  (exsB es = true ∧ ∃ b, w.heap.size ≤ b ∧ e = .returned (.tuple #[.map (some b), .bool true]) ∧ IsTab w' b es))
theorem isException_is (s : ByteArray) (b : Bool) (w : World) (hs : s.size ≤ 1048576) (hy : LayB w) (h : Hid (exB s = b)) :
    Calls Tryd.prog 74 #[.string s] w fun e w' => e = .returned (.bool b) ∧ Below w.heap.size w w' := by
  have := isException_any s w hs hy; rw [h.out] at this; exact this
theorem without_is (s : ByteArray) (w : World) (hs : s.size ≤ 1048576) (hy : LayB w) (h : Hid (exB s = true)) :
    Calls Tryd.prog 75 #[.string s] w fun e w' => e = .returned (.string (exW s)) ∧ Below w.heap.size w w' := by
  have := without_any s w hs hy
  rw [← (ex_word h.out).2.2.2.1] at this; exact this
theorem own_mapB {w w' : World} {b n B : Nat} {D : DataW Unit} (h : w.ownsMap Tryd.prog 9 (plainElem Tryd.prog 3) b n D) (hb : Below w.heap.size w w') : w'.ownsMap Tryd.prog 9 (plainElem Tryd.prog 3) b n D :=
  h.kept (row := none) ⟨hb.os, hb.tape, hb.output, hb.size, fun k hk _ => hb.block k hk⟩ (by simp)
set_option maxRecDepth 100000 in
set_option maxHeartbeats 4000000 in
theorem tableOf_any (es : List ByteArray) (A : Option Addr) (c : Nat) (w : World) (hf : StrsIn w A es) (ho : StrsLe es) (hn : es.length ≤ 1048576) (hy : LayB w) :
    Calls Tryd.prog 51 #[.slice A es.length c] w fun e w' => TabTo es w w' e := by
  have HF := Lib.hid hf; have HO := Lib.hid ho; have HY := Lib.hid hy; clear hf ho hy
  by_cases h20 : (20 : Int) < es.length
  · have HN : Hid (exsB es = false) := Lib.hid (by unfold exsB; rw [decide_eq_false (by omega)]; simp)
    go_enter Tryd.func51, Tryd.ntmps51
    go_wp2
    go_ret2
    exact ⟨Below.refl _ _, .inl ⟨HN.out, _, rfl⟩⟩
  have hmm := @run_makeMap Tryd.prog
  go_enter Tryd.func51, Tryd.ntmps51
  go_wp2
  go_loopw [13] (fun i wr => ∃ (k : Nat) (D : DataW Unit), k ≤ es.length ∧ i = .int .i64 k ∧ Hid ((es.take k).all exB = true) ∧ Hid (TabD D es k) ∧ Hid (wr.ownsMap Tryd.prog 9 (plainElem Tryd.prog 3) w.heap.size k D) ∧ Hid (Below w.heap.size w wr)) (fun i _ => es.length - (intOf i).toNat)
  case atStart => exact ⟨0, .map [], Nat.zero_le _, rfl, Lib.hid rfl, Lib.hid (TabD.start es), Lib.hid (World.ownsMap_made w _ _ _), Lib.hid ((Below.refl _ _).alloc (Nat.le_refl _) _)⟩
  case round =>
    clear hmm
    obtain ⟨k, D, hk, rfl, HS, HD, HM, HB⟩ := hrel
    have HYR := Lib.hid (HY.out.below HB.out)
    by_cases hlt : k < es.length
    · obtain ⟨b, off, hA, hbl, hc⟩ := HF.out (by omega)
      subst hA
      have hc0 := (HB.out.cell (p := ⟨b, off + k, none⟩) hbl).trans (hc k hlt)
      clear hc
      have hok := HO.out k hlt
      cases hp : exB es[k]
      · have HP := Lib.hid hp
        have HN : Hid (exsB es = false) := Lib.hid (by unfold exsB; rw [exsA_no hlt hp]; rfl)
        clear hp
        go_wp2_with fail
        refine (isException_is _ _ _ hok HYR.out HP).mono ?_
        rintro e w1 ⟨rfl, hb1⟩
        have HB1 := Lib.hid (HB.out.trans (hb1.mono HB.out.size))
        clear hb1
        go_wp2
        go_ret2
        exact ⟨HB1.out, .inl ⟨HN.out, _, rfl⟩⟩
      · have HP := Lib.hid hp
        have HN : Hid ((es.take (k + 1)).all exB = true) := Lib.hid (by rw [List.take_succ_eq_append_getElem hlt, List.all_append, HS.out]; simp [hp])
        have HD2 := Lib.hid (HD.out.put hlt)
        clear hp
        go_wp2_with fail
        refine (isException_is _ _ _ hok HYR.out HP).mono ?_
        rintro e w1 ⟨rfl, hb1⟩
        have HB1 := Lib.hid (HB.out.trans (hb1.mono HB.out.size))
        have HY1 := Lib.hid (HYR.out.below hb1)
        have HM1 := Lib.hid (own_mapB (B := 0) HM.out hb1)
        clear hb1
        go_wp2_with fail
        refine (without_is _ _ hok HY1.out HP).mono ?_
        rintro e w2 ⟨rfl, hb2⟩
        have HB2 := Lib.hid (HB1.out.trans (hb2.mono HB1.out.size))
        have HM2 := Lib.hid (own_mapB (B := 0) HM1.out hb2)
        have HKY : Hid (keyOf Tryd.prog 9 (.string (exW es[k])) = some (keyS (exW es[k]))) := Lib.hid (kOfS (by have := exW_size es[k]; unfold maxLen; omega))
        clear hb2 HM HM1 HB HB1 HY1
        generalize exW es[k] = wd at *
        go_wp2_with (at_mapUpdate; refine wpList_mapUpdate_own _ rfl _ _ _ 60 rfl 9 3 kS uMT _ w.heap.size k D rfl HM2.out (by unfold maxLen; omega) _ _ (keyS wd) rfl rfl HKY.out (.lit (.int .i64 (k : Int))) [] (pET (wf_nat (by omega))) ?_)
        intro w3 hm3 hg3
        have HM3 := Lib.hid hm3
        have HB3 := Lib.hid (HB2.out.grown hg3 HB2.out.size (fun q hq => by have := Option.some.inj hq; omega))
        clear hm3 hg3
        go_wp2
        go_roundw
        case rel => exact ⟨k + 1, _, by omega, by go_num, HN, HD2, HM3, HB3⟩
        case measure => simp [intOf]; omega
    · obtain rfl : k = es.length := by omega
      have hlen : ∀ ty, (Builtin.len_ #[60] ty #[.map (some w.heap.size)]).run Tryd.prog wr = .ok (.int .i64 (Maps.size D)) wr := fun ty => HM.out.len uMT ty
      have HSA : Hid (es.all exB = true) := Lib.hid (by have h := HS.out; rw [List.take_length] at h; exact h)
      have hsz := HD.out.size
      rw [List.take_length] at hsz
      by_cases hnd : (es.map exW).Nodup
      · have HX : Hid (exsB es = true) := Lib.hid (by unfold exsB exsA; rw [HSA.out, decide_eq_true hnd, decide_eq_true (by omega)]; rfl)
        have he : Maps.size D = es.length := hsz.2.2 hnd
        have heq : ((Maps.size D : Int) == (es.length : Int)) = true := by rw [he]; simp
        have HM20 := Lib.hid (HM.out.mono (show es.length ≤ 20 by omega))
        clear hsz hnd he
        go_wp2
        go_ret2
        exact ⟨HB.out, .inr ⟨HX.out, _, Nat.le_refl _, rfl, D, HM20.out, HD.out⟩⟩
      · have HX : Hid (exsB es = false) := Lib.hid (by unfold exsB exsA; rw [decide_eq_false hnd]; simp)
        have he : Maps.size D ≠ es.length := fun e => hnd (hsz.2.1 e)
        have heq : ((Maps.size D : Int) == (es.length : Int)) = false := by rw [beq_eq_false_iff_ne]; omega
        clear hsz hnd he
        go_wp2
        go_ret2
        exact ⟨HB.out, .inl ⟨HX.out, _, rfl⟩⟩
end Go.Proofs.YtcbhhbcfnaekpaaDoor
