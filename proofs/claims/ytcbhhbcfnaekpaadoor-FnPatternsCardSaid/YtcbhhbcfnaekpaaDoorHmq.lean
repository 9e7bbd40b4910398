import Derived.Test.YtcbhhbcfnaekpaaDoorHyu
import Derived.Deep.Upon
import Derived.Deep.RegionLaw
import Derived.Laws.OwnMore
import Derived.Test.YtcbhhbcfnaekpaaDoorHyq
import Derived.Sort.MapsRangeIn
import Derived.Maps.RangeWalk
/-
  A new exception: told plainly; the contracts of spec.l1OwnS and spec.NewException.
-/
namespace Go.Proofs.YtcbhhbcfnaekpaaDoor
open Go.RowKit
set_option linter.unusedVariables false

/-- The index of the exception with these letters, or the number of exceptions. -/
def nxAt (es : List ByteArray) (wd : ByteArray) : Nat := es.findIdx fun x => decide (exW x = wd)
theorem nxAt_le (es : List ByteArray) (wd : ByteArray) : nxAt es wd ≤ es.length := List.findIdx_le_length
theorem nxAt_is {es : List ByteArray} {wd : ByteArray} {i : Nat} (hi : i < es.length) (h : exW es[i] = wd) (h2 : ∀ j (hj : j < i), exW (es[j]'(by omega)) ≠ wd) : nxAt es wd = i := by
  unfold nxAt
  rw [List.findIdx_eq hi]
  exact ⟨by simpa using h, fun j hj => by simpa using h2 j hj⟩
theorem nxAt_no {es : List ByteArray} {wd : ByteArray} (h : ∀ j (hj : j < es.length), exW es[j] ≠ wd) : nxAt es wd = es.length := by
  unfold nxAt
  rw [List.findIdx_eq_length]
  intro x hx
  obtain ⟨j, hj, rfl⟩ := List.getElem_of_mem hx
  simpa using h j hj
/-- The exceptions with one more, or one changed. -/
def nxR (es : List ByteArray) (e : ByteArray) : List ByteArray := if nxAt es (exW e) < es.length then es.set (nxAt es (exW e)) e else es ++ [e]
/-- There is room. -/
def nxOk (es : List ByteArray) (e : ByteArray) : Bool := decide (nxAt es (exW e) < es.length) || decide (es.length < 20)
def nxB (es : List ByteArray) (e : ByteArray) : Bool := exsB es && exB e && nxOk es e
def nxL (es : List ByteArray) (e : ByteArray) : List ByteArray := if nxB es e then nxR es e else []
theorem nx_no {es : List ByteArray} {e : ByteArray} (h : nxB es e = false) : nxL es e = [] := by unfold nxL; rw [h]; rfl
theorem nx_bad1 {es : List ByteArray} {e : ByteArray} (h : exsB es = false) : nxB es e = false ∧ nxL es e = [] := by
  have : nxB es e = false := by unfold nxB; rw [h]; rfl
  exact ⟨this, nx_no this⟩
theorem nx_bad2 {es : List ByteArray} {e : ByteArray} (h : exB e = false) : nxB es e = false ∧ nxL es e = [] := by
  have : nxB es e = false := by unfold nxB; rw [h]; simp
  exact ⟨this, nx_no this⟩
theorem nx_hit {es : List ByteArray} {e : ByteArray} {i : Nat} (h1 : exsB es = true) (h2 : exB e = true) (hi : nxAt es (exW e) = i) (hl : i < es.length) : nxB es e = true ∧ nxL es e = es.set i e := by
  have : nxB es e = true := by unfold nxB nxOk; rw [h1, h2, hi, decide_eq_true hl]; rfl
  exact ⟨this, by unfold nxL nxR; rw [this, hi, if_pos rfl, if_pos hl]⟩
theorem nx_room {es : List ByteArray} {e : ByteArray} (h1 : exsB es = true) (h2 : exB e = true) (hi : nxAt es (exW e) = es.length) (hl : es.length < 20) : nxB es e = true ∧ nxL es e = es ++ [e] := by
  have : nxB es e = true := by unfold nxB nxOk; rw [h1, h2, decide_eq_true hl]; simp
  exact ⟨this, by unfold nxL nxR; rw [this, hi, if_pos rfl, if_neg (by omega)]⟩
theorem nx_full {es : List ByteArray} {e : ByteArray} (hi : nxAt es (exW e) = es.length) (hl : ¬ es.length < 20) : nxB es e = false ∧ nxL es e = [] := by
  have : nxB es e = false := by unfold nxB nxOk; rw [hi, decide_eq_false hl]; simp
  exact ⟨this, nx_no this⟩
theorem nx_short (es : List ByteArray) (e : ByteArray) : (nxL es e).length ≤ 20 := by
  cases h : nxB es e
  · rw [nx_no h]; simp
  · have h0 := h
    unfold nxB at h0
    rw [Bool.and_eq_true, Bool.and_eq_true] at h0
    have h20 := (exsB_all h0.1.1).2
    unfold nxL nxR
    rw [h, if_pos rfl]
    split
    · rw [List.length_set]; exact h20
    · have h3 := h0.2
      unfold nxOk at h3
      rename_i hn
      rw [decide_eq_false hn] at h3
      simp at h3
      simp; omega
/-- One more: still exceptions, if there is room. -/
theorem exsB_more {es : List ByteArray} {e : ByteArray} (h1 : exsB es = true) (h2 : exB e = true) (hn : ∀ j (hj : j < es.length), exW es[j] ≠ exW e) : exsB (es ++ [e]) = decide (es.length < 20) := by
  have hA := (exsB_all h1).1
  have hA2 : exsA (es ++ [e]) = true := by
    have h := hA
    unfold exsA at h ⊢
    rw [Bool.and_eq_true, decide_eq_true_eq] at h
    rw [Bool.and_eq_true, decide_eq_true_eq, List.all_append, h.1, List.map_append, List.nodup_append]
    refine ⟨by simp [h2], h.2, by simp, fun a ha b hb e2 => ?_⟩
    obtain ⟨x, hx, rfl⟩ := List.mem_map.1 ha
    obtain ⟨j, hj, rfl⟩ := List.getElem_of_mem hx
    obtain rfl : b = exW e := by simpa using hb
    exact hn j hj e2
  unfold exsB
  rw [hA2, Bool.true_and, List.length_append]
  apply decide_eq_decide.2
  simp; omega
theorem strs_set (l : List ByteArray) (i : Nat) (e : ByteArray) : (strs l).set i (.string e) = strs (l.set i e) := by unfold strs; rw [List.map_set]
theorem add_flat9 (b off k : Nat) : (⟨b, off, none⟩ : Addr).add k = ⟨b, off + k, none⟩ := by
  simp [Addr.add]
theorem news_strs {w : World} {b off : Nat} {l : List ByteArray} (hc : ∀ k (h : k < l.length), w.cell? ⟨b, off + k, none⟩ = some (.string l[k])) : ∀ j u, (strs l)[j]? = some u → w.cell? ((⟨b, off, none⟩ : Addr).add j) = some u := by
  intro j u hu
  rw [add_flat9]
  have hj : j < l.length := by
    rcases Nat.lt_or_ge j l.length with h | h
    · exact h
    · rw [List.getElem?_eq_none (by rw [strs_len]; exact h)] at hu; cases hu
  have e : (strs l)[j]? = some (.string l[j]) := by simp [strs, hj]
  rw [e] at hu
  rw [hc j hj]; exact hu
theorem strs_one (l : List ByteArray) : ∀ u ∈ strs l, u.oneCell' = true := by
  intro u hu
  simp only [strs, List.mem_map] at hu
  obtain ⟨x, _, rfl⟩ := hu
  rfl
theorem own_zero (w : World) {g base : Nat} {e : TypeId} (h : w.heap[g]? = some (.cells #[] e (0, 0))) (hb : base ≤ g) : w.ownsRow base e 1 (.slice (some ⟨g, 0, none⟩) 0 0) 0 [] :=
  ⟨rfl, .inr ⟨g, 0, #[], rfl, hb, h, Nat.le_refl _, Nat.zero_le _, rfl, rfl⟩⟩
theorem wpList_append_is {P : Program} {ops : Array Oper} {rest : List Oper} {o : Oper} {a : Act} {Q : Exit → Act → World → Prop} (w w' : World) (v v0 v1 : Value) (hgd : o.guard = none) (s x : Operand) (t ty : TypeId)
    (ho : o.op = .call { callee := .builtin .append, args := #[s, x], argTypes := #[t, t] }) (hty : o.type = ty) (hs : a.eval s = v0) (hx : a.eval x = v1)
    (hrun : (Builtin.append_ #[t, t] ty #[v0, v1]).run P w = .ok v w') (h : wpList P ops Q rest (a.put o.dst v) w') : wpList P ops Q (o :: rest) a w := by
  subst hty; subst hs; subst hx
  refine wpList_plain hgd fun K hK' => ?_
  unfold Oper.wp
  simp [execOp, ho, resolve, invoke, builtin, hrun, Result.andThen]
  exact hK' _ _ h
theorem append_noneS (W : World) (a : Option Addr) (n c d : Nat) (h : n ≤ c) : (Builtin.append_ #[23, 23] 23 #[.slice a n c, .slice none 0 d]).run Tryd.prog W = .ok (.slice a n c) W := by
  obtain ⟨i0, hi, hz0, hz1, hz2⟩ := info_parts info9
  exact run_append_nothing (P := Tryd.prog) _ 23 23 23 9 i0 Tryd.underlying23 hi _ n c h _ (Src.ofNil (w := _) Tryd.underlying23 d)
set_option maxRecDepth 100000 in
theorem l1OwnS_any (l : List ByteArray) (A : Option Addr) (c : Nat) (w : World) (hf : StrsIn w A l) (hn : l.length ≤ 1048576) :
    Calls Tryd.prog 77 #[.slice A l.length c] w fun e w' => ∃ v, e = .returned v ∧ Below w.heap.size w w' ∧ w'.ownsRow w.heap.size 9 1 v l.length (strs l) := by
  obtain ⟨i0, hi, hz0, hz1, hz2⟩ := info_parts info9
  have HI0 := Lib.hid hi; have HZ0 := Lib.hid hz0; have HZ1 := Lib.hid hz1; have HZ2 := Lib.hid hz2
  clear hi hz0 hz1 hz2
  rcases Nat.eq_zero_or_pos l.length with h0 | h0
  · obtain rfl := List.eq_nil_of_length_eq_zero h0
    cases A with
    | none =>
      have HAP := Lib.hid (append_noneS (w.alloc (.cells #[] 9)) (some ⟨w.heap.size, 0, none⟩) 0 0 c (Nat.le_refl _))
      go_enter Tryd.func77, Tryd.ntmps77
      go_wp2_with (at_builtin; refine wpList_append_is _ _ _ _ _ rfl _ _ 23 23 rfl rfl rfl rfl HAP.out ?_)
      go_wp2
      go_ret
      exact ⟨_, rfl, (Below.refl _ _).alloc (Nat.le_refl _) _, own_zero _ (heap_new _ _) (Nat.le_refl _)⟩
    | some a =>
      have HOW := Lib.hid (own_zero (w.alloc (.cells #[] 9)) (base := w.heap.size) (heap_new _ _) (Nat.le_refl _))
      have hmx : 0 + 0 ≤ maxLen := by unfold maxLen; omega
      go_enter Tryd.func77, Tryd.ntmps77
      go_wp2_with (at_builtin; refine wpList_append_own _ rfl _ _ 23 rfl w.heap.size 9 i0 (.string .empty) 1 16 Tryd.underlying23 HI0.out HZ0.out HZ1.out HZ2.out rfl (by decide) _ _ _ rfl HOW.out a 0 c [] rfl rfl (fun j u hu => by simp at hu) (by simp) hmx (by omega) (by simp) ?_)
      intro v' w4 hown' hgrow _
      have HB1 : Hid (Below w.heap.size w w4) := Lib.hid (((Below.refl _ _).alloc (Nat.le_refl _) _).grown hgrow (by simp) (own_lt HOW.out))
      have HO := Lib.hid hown'
      clear hown' hgrow
      go_wp2
      go_ret
      exact ⟨_, rfl, HB1.out, HO.out⟩
  obtain ⟨b, off, rfl, hbl, hc⟩ := hf h0
  have hc' : ∀ k (h : k < l.length), (w.alloc (.cells #[] 9)).cell? ⟨b, off + k, none⟩ = some (.string l[k]) := fun k hk => by
    rw [World.cell?_alloc_lt _ _ _ (World.block_lt_of_cell? _ _ (hc k hk))]; exact hc k hk
  have hnews := news_strs hc'
  have hown : (w.alloc (.cells #[] 9)).ownsRow w.heap.size 9 1 (.slice (some ⟨w.heap.size, 0, none⟩) 0 0) 0 [] := own_zero _ (heap_new _ _) (Nat.le_refl _)
  have HNW := Lib.hid hnews; have HOW := Lib.hid hown
  have hmx : 0 + l.length ≤ maxLen := by unfold maxLen; omega
  clear hc hc' hnews hown hf h0
  go_enter Tryd.func77, Tryd.ntmps77
  go_wp2_with (at_builtin; refine wpList_append_own _ rfl _ _ 23 rfl w.heap.size 9 i0 (.string .empty) 1 16 Tryd.underlying23 HI0.out HZ0.out HZ1.out HZ2.out rfl (by decide) _ _ _ rfl HOW.out ⟨b, off, none⟩ l.length c (strs l) rfl (by rw [strs_len]; omega) HNW.out (strs_one l) hmx (by omega) (by simp) ?_)
  intro v' w4 hown' hgrow _
  have HB1 : Hid (Below w.heap.size w w4) := Lib.hid (((Below.refl _ _).alloc (Nat.le_refl _) _).grown hgrow (by simp) (own_lt HOW.out))
  have HO : Hid (w4.ownsRow w.heap.size 9 1 v' l.length (strs l)) := Lib.hid (by simpa using hown')
  clear hown' hgrow
  go_wp2
  go_ret
  exact ⟨_, rfl, HB1.out, HO.out⟩
end Go.Proofs.YtcbhhbcfnaekpaaDoor

/-
  The contract of spec.NewException.
-/
namespace Go.Proofs.YtcbhhbcfnaekpaaDoor
open Go.RowKit
set_option linter.unusedVariables false

theorem le_more {es : List ByteArray} {e : ByteArray} (h : StrsLe es) (hs : e.size ≤ 1048576) : StrsLe (es ++ [e]) := by
  intro k hk
  rw [List.getElem_append]
  split
  · exact h k _
  · simpa using hs
theorem hyB_more {es : List ByteArray} {e : ByteArray} {b : Bool} (h : exsB (es ++ [e]) = b) : hyB [] (es ++ [e]) = b := by rw [hyB_exs]; exact h
set_option maxRecDepth 100000 in
set_option maxHeartbeats 2000000 in
theorem specNewException_any (es : List ByteArray) (A : Option Addr) (c : Nat) (e : ByteArray) (w : World) (hf : StrsIn w A es) (ho : StrsLe es) (hn : es.length ≤ 1048576) (hs : e.size ≤ 1048576) :
    Calls Tryd.prog 34 #[.slice A es.length c, .string e] w fun x w' => ∃ v, x = .returned (.tuple #[v, .bool (nxB es e)]) ∧ Below w.heap.size w w' ∧ w'.ownsRow w.heap.size 9 1 v (nxL es e).length (strs (nxL es e)) := by
  obtain ⟨i0, hi, hz0, hz1, hz2⟩ := info_parts info9
  have HI0 := Lib.hid hi; have HZ0 := Lib.hid hz0; have HZ1 := Lib.hid hz1; have HZ2 := Lib.hid hz2
  clear hi hz0 hz1 hz2
  have HF := Lib.hid hf; have HO := Lib.hid ho; clear hf ho
  cases hx : exsB es
  · have HV := Lib.hid (nx_bad1 (e := e) hx)
    have HG : Hid (hyB [] es = false) := Lib.hid (by rw [hyB_exs]; exact hx)
    clear hx
    go_enter Tryd.func34, Tryd.ntmps34
    go_wp2_with fail
    refine (hyBare_is e _ w hs (Lib.hid rfl)).mono ?_
    rintro x w1 ⟨A1, c1, rfl, hb1, -⟩
    have HB1 := Lib.hid hb1
    clear hb1
    generalize (exP e).length = pl at *
    go_wp2_with fail
    refine (hyGood_is [] none 0 es A c false w1 (noStrs _) noLe (by simp) (HF.out.below HB1.out (Nat.le_refl _)) HO.out hn HG).mono ?_
    rintro x w2 ⟨rfl, hb2⟩
    have HB2 := Lib.hid (HB1.out.trans (hb2.mono HB1.out.size))
    clear hb2
    go_wp2
    go_ret2
    exact ⟨_, ret_vb HV.out.1.symm, HB2.out, by rw [HV.out.2]; exact own_nil _ _ _ _⟩
  have HG : Hid (hyB [] es = true) := Lib.hid (by rw [hyB_exs]; exact hx)
  cases he : exB e
  · have HV := Lib.hid (nx_bad2 (es := es) he)
    have HE := Lib.hid he
    clear hx he
    go_enter Tryd.func34, Tryd.ntmps34
    go_wp2_with fail
    refine (hyBare_is e _ w hs HE).mono ?_
    rintro x w1 ⟨A1, c1, rfl, hb1, -⟩
    have HB1 := Lib.hid hb1
    clear hb1
    generalize (exP e).length = pl at *
    go_wp2_with fail
    refine (hyGood_is [] none 0 es A c true w1 (noStrs _) noLe (by simp) (HF.out.below HB1.out (Nat.le_refl _)) HO.out hn HG).mono ?_
    rintro x w2 ⟨rfl, hb2⟩
    have HB2 := Lib.hid (HB1.out.trans (hb2.mono HB1.out.size))
    clear hb2
    go_wp2
    go_ret2
    exact ⟨_, ret_vb HV.out.1.symm, HB2.out, by rw [HV.out.2]; exact own_nil _ _ _ _⟩
  have HX := Lib.hid hx; have HE := Lib.hid he
  have HXA := Lib.hid (exsB_all hx).1
  have h20 := (exsB_all hx).2
  clear hx he
  go_enter Tryd.func34, Tryd.ntmps34
  go_wp2_with fail
  refine (hyBare_is e _ w hs HE).mono ?_
  rintro x w1 ⟨A1, c1, rfl, hb1, -⟩
  have HB1 := Lib.hid hb1
  clear hb1
  generalize (exP e).length = pl at *
  go_wp2_with fail
  refine (hyGood_is [] none 0 es A c true w1 (noStrs _) noLe (by simp) (HF.out.below HB1.out (Nat.le_refl _)) HO.out hn HG).mono ?_
  rintro x w2 ⟨rfl, hb2⟩
  have HB2 := Lib.hid (HB1.out.trans (hb2.mono HB1.out.size))
  clear hb2 HB1
  go_wp2_with fail
  refine (l1OwnS_any es A c w2 (HF.out.below HB2.out (Nat.le_refl _)) hn).mono ?_
  rintro x w3 ⟨v3, rfl, hb3, ho3⟩
  obtain ⟨A3, c3, rfl⟩ := own_shape ho3
  have HB3 := Lib.hid (HB2.out.trans (hb3.mono HB2.out.size))
  have HO3 := Lib.hid (Joins.ownsRow_le ho3 HB2.out.size)
  clear hb3 ho3 HB2
  go_wp2
  go_loopw [32] (fun i wr => ∃ k : Nat, k ≤ es.length ∧ i = .int .i64 k ∧ Hid (∀ j (hj : j < k) (hl : j < es.length), exW es[j] ≠ exW e) ∧ Hid (Below w3.heap.size w3 wr)) (fun i _ => es.length - (intOf i).toNat)
  case atStart => exact ⟨0, Nat.zero_le _, rfl, Lib.hid (fun j hj => by omega), Lib.hid (Below.refl _ _)⟩
  case round =>
    obtain ⟨k, hk, rfl, HN, HBx⟩ := hrel
    have HB := Lib.hid (HB3.out.trans (HBx.out.mono HB3.out.size))
    have HOr := Lib.hid (own_below HO3.out HBx.out)
    by_cases hlt : k < es.length
    · have hok := HO.out k hlt
      have HEK : Hid (exB es[k] = true) := Lib.hid (exsA_mem HXA.out hlt)
      obtain ⟨g3, c3', hv3, hg3, hgl3⟩ := own_some HOr.out (by omega)
      injection hv3 with hA3 _ hc3
      subst hA3; subst hc3
      have hcell := HOr.out.cellAt k (by omega)
      have hce : (strs es)[k]? = some (.string es[k]) := by simp [strs, hlt]
      rw [hce] at hcell
      by_cases heq : exW es[k] = exW e
      · have HV := Lib.hid (nx_hit HX.out HE.out (nxAt_is hlt heq (fun j hj => HN.out j hj (by omega))) hlt)
        have ht := str_eq heq
        clear heq
        go_wp2_with fail
        refine (hyBare_is _ _ _ hok HEK).mono ?_
        rintro x w4 ⟨A4, c4, rfl, hb4, -⟩
        have HB4 := Lib.hid (HB.out.trans (hb4.mono HB.out.size))
        have HO4 := Lib.hid (own_below HOr.out hb4)
        have HOF := Lib.hid (HO4.out.stored k (.string e)).1
        have HBF : Hid (Below w.heap.size w (w4.setCell ⟨g3, k, none⟩ (.string e))) := Lib.hid (HB4.out.setCell (p := ⟨g3, k, none⟩) hg3 _)
        have hc4 := HO4.out.cellAt k (by omega)
        rw [hce] at hc4
        have hf4 := HO4.out.frozenAt k
        clear hb4 hcell hce
        generalize exW es[k] = we at *
        generalize (exP es[k]).length = pl2 at *
        go_wp2
        go_ret2
        refine ⟨_, ret_vb HV.out.1.symm, HBF.out, ?_⟩
        rw [HV.out.2, List.length_set, ← strs_set]
        exact HOF.out
      · have HN2 : Hid (∀ j (hj : j < k + 1) (hl : j < es.length), exW es[j] ≠ exW e) := Lib.hid (fun j hj hl => by
          rcases (by omega : j < k ∨ j = k) with h | h
          · exact HN.out j h hl
          · subst h; exact heq)
        have ht := str_neb heq
        clear heq
        go_wp2_with fail
        refine (hyBare_is _ _ _ hok HEK).mono ?_
        rintro x w4 ⟨A4, c4, rfl, hb4, -⟩
        have HB4 := Lib.hid (HBx.out.trans (hb4.mono HBx.out.size))
        clear hb4 hcell hce
        generalize exW es[k] = we at *
        generalize (exP es[k]).length = pl2 at *
        go_wp2
        go_roundw
        case rel => exact ⟨k + 1, by omega, by go_num, HN2, HB4⟩
        case measure => simp [intOf]; omega
    · obtain rfl : k = es.length := by omega
      have hnn : ∀ j (hj : j < es.length), exW es[j] ≠ exW e := fun j hj => HN.out j hj hj
      have HAT := Lib.hid (nxAt_no hnn)
      have HMO := Lib.hid (exsB_more HX.out HE.out hnn)
      have hmx : es.length + 1 ≤ maxLen := by unfold maxLen; omega
      clear hnn
      go_wp2_with (at_builtin; refine wpList_append_own _ rfl _ _ 23 rfl w.heap.size 9 i0 (.string .empty) 1 16 Tryd.underlying23 HI0.out HZ0.out HZ1.out HZ2.out rfl (by decide) _ _ _ rfl (HOr.out.alloc _) ⟨wr.heap.size, 0, none⟩ 1 1 [.string e] rfl rfl (cell_one_new _ _ _) (by simp [Value.oneCell']) hmx (by omega) (by simp; have := HB.out.size; omega) ?_)
      intro v' w4 hown' hgrow _
      have hb4 : Below w.heap.size w w4 := below_append HB.out hgrow HB.out.size (own_lt HOr.out)
      rw [← strs_snoc] at hown'
      obtain ⟨A5, c5, hv5⟩ := own_shape hown'
      subst hv5
      have HO5 := Lib.hid hown'
      have HB5 := Lib.hid hb4
      have HI5 : Hid (StrsIn w4 A5 (es ++ [e])) := Lib.hid (own_in_s hown')
      have HL5 : Hid ((es ++ [e]).length = es.length + 1) := Lib.hid (by simp)
      clear hown' hgrow hb4
      by_cases hlt : es.length < 20
      · have HV := Lib.hid (nx_room HX.out HE.out HAT.out hlt)
        have HH : Hid (hyB [] (es ++ [e]) = true) := Lib.hid (hyB_more (by rw [HMO.out]; exact decide_eq_true hlt))
        have HC := Lib.hid (hyGood_is [] none 0 (es ++ [e]) A5 c5 true w4 (noStrs _) noLe (by simp) HI5.out (le_more HO.out hs) (by rw [HL5.out]; omega) HH)
        rw [HL5.out] at HC
        go_wp2_with fail
        refine HC.out.mono ?_
        rintro x w5 ⟨rfl, hb5⟩
        have HOF := Lib.hid (own_below HO5.out hb5)
        have HBF := Lib.hid (HB5.out.trans (hb5.mono HB5.out.size))
        clear hb5
        go_wp2
        go_ret2
        refine ⟨_, ret_vb HV.out.1.symm, HBF.out, ?_⟩
        rw [HV.out.2, HL5.out]
        exact HOF.out
      · have HV := Lib.hid (nx_full HAT.out hlt)
        have HH : Hid (hyB [] (es ++ [e]) = false) := Lib.hid (hyB_more (by rw [HMO.out]; exact decide_eq_false hlt))
        have HC := Lib.hid (hyGood_is [] none 0 (es ++ [e]) A5 c5 false w4 (noStrs _) noLe (by simp) HI5.out (le_more HO.out hs) (by rw [HL5.out]; omega) HH)
        rw [HL5.out] at HC
        go_wp2_with fail
        refine HC.out.mono ?_
        rintro x w5 ⟨rfl, hb5⟩
        have HBF := Lib.hid (HB5.out.trans (hb5.mono HB5.out.size))
        clear hb5
        go_wp2
        go_ret2
        exact ⟨_, ret_vb HV.out.1.symm, HBF.out, by rw [HV.out.2]; exact own_nil _ _ _ _⟩
end Go.Proofs.YtcbhhbcfnaekpaaDoor

/-
  The contract of impl.NewException.
-/
namespace Go.Proofs.YtcbhhbcfnaekpaaDoor
open Go.RowKit Go.Maps Go.WideMaps
set_option linter.unusedVariables false

/-- Block b: these texts. -/
def TbS (w : World) (b : Nat) (l : List ByteArray) : Prop := ∃ cs : Array Value, w.heap[b]? = some (.cells cs 9 (0, 0)) ∧ cs.toList = strs l
theorem TbS.lt {w : World} {b : Nat} {l : List ByteArray} (h : TbS w b l) : b < w.heap.size := by obtain ⟨cs, h1, _⟩ := h; exact lt_of_heap h1
theorem TbS.cell {w : World} {b j : Nat} {l : List ByteArray} (h : TbS w b l) (hj : j < l.length) : w.cell? ⟨b, j, none⟩ = some (.string l[j]) := by
  obtain ⟨cs, h1, h2⟩ := h
  rw [cell_of_heap h1, ← Array.getElem?_toList, h2]
  simp [strs, hj]
theorem TbS.free {w : World} {b : Nat} {l : List ByteArray} (h : TbS w b l) (j : Nat) : w.frozen? ⟨b, j, none⟩ = false := by
  obtain ⟨cs, h1, _⟩ := h; exact free_of_heap h1 j
theorem TbS.kept {w w' : World} {b : Nat} {l : List ByteArray} {row : Option Nat} (h : TbS w b l) (hg : w.grownBy w' row) (hr : some b ≠ row) : TbS w' b l := by
  obtain ⟨cs, h1, h2⟩ := h; exact ⟨cs, (hg.block b (lt_of_heap h1) hr).trans h1, h2⟩
theorem TbS.set {w : World} {b : Nat} {l : List ByteArray} (h : TbS w b l) (i : Nat) (x : ByteArray) : TbS (w.setCell ⟨b, i, none⟩ (.string x)) b (l.set i x) := by
  obtain ⟨cs, h1, h2⟩ := h
  refine ⟨_, heap_set h1 _, ?_⟩
  rw [Array.toList_setIfInBounds, h2, strs_set]
theorem TbS.made (w : World) (n : Nat) : TbS (w.alloc (.cells (madeCells #[.string .empty] (n * 1)) 9)) w.heap.size (List.replicate n .empty) := by
  refine ⟨_, heap_new _ _, ?_⟩
  apply List.ext_getElem
  · simp [strs, size_madeCells]
  · intro j h1 h2
    simp [madeCells, strs, Nat.mod_one]
theorem TbS.own {w : World} {b base n : Nat} {l : List ByteArray} (h : TbS w b l) (hl : l.length = n) (hb : base ≤ b) (hn : n ≤ maxLen) : w.ownsRow base 9 1 (.slice (some ⟨b, 0, none⟩) n n) n (strs l) := by
  obtain ⟨cs, h1, h2⟩ := h
  have hsz : cs.size = n := by rw [← Array.length_toList, h2, strs_len, hl]
  refine ⟨by rw [strs_len, hl]; omega, .inr ⟨b, n, cs, rfl, hb, h1, Nat.le_refl _, hn, by omega, ?_⟩⟩
  rw [h2, List.take_of_length_le (by rw [strs_len]; omega)]
/-- What a map says of all exceptions but the one at p. -/
structure TabE (D : DataW Unit) (es : List ByteArray) (p : Nat) : Prop where
  has1 : ∀ j (h : j < es.length), j ≠ p → has D (keyS (exW es[j])) = true
  has2 : ∀ kl, has D kl = true → ∃ j, ∃ h : j < es.length, j ≠ p ∧ kl = keyS (exW es[j])
  val : ∀ j (h : j < es.length), j ≠ p → ∀ z, D.atKey (keyS (exW es[j])) z = .lit (.int .i64 (j : Int))
theorem ex_ne {es : List ByteArray} (hn : (es.map exW).Nodup) {i j : Nat} (hi : i < es.length) (hj : j < es.length) (e : exW es[i] = exW es[j]) : i = j := by
  have h := (List.nodup_iff_pairwise_ne.1 hn)
  rw [List.pairwise_iff_getElem] at h
  rcases Nat.lt_trichotomy i j with h1 | h1 | h1
  · exact absurd (by rw [List.getElem_map, List.getElem_map]; exact e) (h i j (by simpa using hi) (by simpa using hj) h1)
  · exact h1
  · exact absurd (by rw [List.getElem_map, List.getElem_map]; exact e.symm) (h j i (by simpa using hj) (by simpa using hi) h1)
theorem TabD.cut {D : DataW Unit} {es : List ByteArray} {i : Nat} {wd : ByteArray} (h : TabD D es es.length) (hn : (es.map exW).Nodup) (hi : i < es.length) (e : exW es[i] = wd) : TabE (D.del (keyS wd)) es i ∧ Maps.size (D.del (keyS wd)) + 1 = es.length := by
  subst e
  have hnd : ((es.take es.length).map exW).Nodup := by rw [List.take_length]; exact hn
  have hk : ∀ j (h : j < es.length), j ≠ i → keyS (exW es[j]) ≠ keyS (exW es[i]) := fun j hj hji e2 => hji (ex_ne hn hj hi (keyS_inj e2))
  refine ⟨⟨fun j hj hji => by rw [has_del_other (hk j hj hji)]; exact h.has1 j hj hj, fun kl hkl => ?_, fun j hj hji z => by rw [atKey_del_other (hk j hj hji)]; exact h.val hnd j hj hj z⟩, ?_⟩
  · by_cases e3 : kl = keyS (exW es[i])
    · subst e3; rw [has_del_same] at hkl; cases hkl
    · rw [has_del_other e3] at hkl
      obtain ⟨j, hj, _, e4⟩ := h.has2 kl hkl
      exact ⟨j, hj, fun e5 => by subst e5; exact e3 e4, e4⟩
  · have h1 := size_del h.tidy (k := keyS (exW es[i]))
    rw [h.has1 i hi hi, if_pos rfl, h.size.2.2 hnd] at h1
    exact h1
theorem TabD.cut0 {D : DataW Unit} {es : List ByteArray} {wd : ByteArray} (h : TabD D es es.length) (hn : (es.map exW).Nodup) (hno : hasS (es.map exW) wd = false) : TabE (D.del (keyS wd)) es es.length ∧ Maps.size (D.del (keyS wd)) = es.length := by
  have hnd : ((es.take es.length).map exW).Nodup := by rw [List.take_length]; exact hn
  have hin := h.hasIn (Nat.le_refl _) wd
  rw [List.take_length, hno] at hin
  have hk : ∀ j (h : j < es.length), keyS (exW es[j]) ≠ keyS wd := fun j hj e2 => by
    have := h.has1 j hj hj
    rw [e2, hin] at this; cases this
  refine ⟨⟨fun j hj _ => by rw [has_del_other (hk j hj)]; exact h.has1 j hj hj, fun kl hkl => ?_, fun j hj _ z => by rw [atKey_del_other (hk j hj)]; exact h.val hnd j hj hj z⟩, ?_⟩
  · by_cases e3 : kl = keyS wd
    · subst e3; rw [has_del_same] at hkl; cases hkl
    · rw [has_del_other e3] at hkl
      obtain ⟨j, hj, _, e4⟩ := h.has2 kl hkl
      exact ⟨j, hj, by omega, e4⟩
  · have h1 := size_del h.tidy (k := keyS wd)
    rw [hin, h.size.2.2 hnd] at h1
    simpa using h1
theorem hasS_no {l : List ByteArray} {s : ByteArray} (h : hasS l s = false) : s ∉ l := fun hm => by rw [hasS_mem.2 hm] at h; cases h
/-- What the round keeps of the new list. -/
structure NewI (es : List ByteArray) (e : ByteArray) (p n : Nat) (C : List ByteArray) (left : Lit → Bool) : Prop where
  len : C.length = n
  at_ : C[p]? = some e
  old : ∀ j (h : j < es.length), j ≠ p → left (keyS (exW es[j])) = false → C[j]? = some es[j]
theorem NewI.step {es : List ByteArray} {e : ByteArray} {p n : Nat} {C : List ByteArray} {left : Lit → Bool} (h : NewI es e p n C left) (hn : (es.map exW).Nodup) {j : Nat} (hj : j < es.length) (hjp : j ≠ p) (hjn : j < n) : NewI es e p n (C.set j es[j]) (fun z => left z && !z.sameKey (keyS (exW es[j]))) := by
  refine ⟨by rw [List.length_set]; exact h.len, by rw [List.getElem?_set_ne (by omega)]; exact h.at_, fun i hi hip hl => ?_⟩
  by_cases e2 : i = j
  · subst e2
    rw [List.getElem?_set_self (by rw [h.len]; exact hjn)]
  · rw [List.getElem?_set_ne (by omega)]
    refine h.old i hi hip ?_
    have h3 : (keyS (exW es[i])).sameKey (keyS (exW es[j])) = false := sameKey_ne (fun e3 => e2 (ex_ne hn hi hj (keyS_inj e3)))
    simpa [h3] using hl
theorem NewI.done_set {es : List ByteArray} {e : ByteArray} {i n : Nat} {C : List ByteArray} {left : Lit → Bool} (h : NewI es e i n C left) (hl : ∀ kl, left kl = false) (hn : n = es.length) (hi : i < es.length) : C = es.set i e := by
  apply List.ext_getElem?
  intro j
  by_cases hj : j < es.length
  · by_cases e2 : j = i
    · subst e2; rw [h.at_, List.getElem?_set_self hj]
    · rw [h.old j hj e2 (hl _), List.getElem?_set_ne (by omega), List.getElem?_eq_getElem hj]
  · rw [List.getElem?_eq_none (by rw [h.len]; omega), List.getElem?_eq_none (by rw [List.length_set]; omega)]
theorem NewI.done_app {es : List ByteArray} {e : ByteArray} {n : Nat} {C : List ByteArray} {left : Lit → Bool} (h : NewI es e es.length n C left) (hl : ∀ kl, left kl = false) (hn : n = es.length + 1) : C = es ++ [e] := by
  apply List.ext_getElem?
  intro j
  rcases Nat.lt_trichotomy j es.length with hj | hj | hj
  · rw [h.old j hj (by omega) (hl _), List.getElem?_append_left hj, List.getElem?_eq_getElem hj]
  · subst hj; rw [h.at_]; simp
  · rw [List.getElem?_eq_none (by rw [h.len]; omega), List.getElem?_eq_none (by simp; omega)]
theorem run_makeStr1 (n : Nat) (hn : n ≤ 1000) (w : World) :
    (Instr.makeSlice 23 (.int .i64 ((n : Int) + 1)) (.int .i64 ((n : Int) + 1))).run Tryd.prog w = .ok (.slice (some ⟨w.heap.size, 0, none⟩) (n + 1) (n + 1)) (w.alloc (.cells (madeCells #[.string .empty] ((n + 1) * 1)) 9)) := by
  have := run_makeStr (n + 1) (by omega) w
  rwa [show ((n + 1 : Nat) : Int) = (n : Int) + 1 from by omega] at this
end Go.Proofs.YtcbhhbcfnaekpaaDoor

/-
  The contract of impl.NewException: the walk.
-/
namespace Go.Proofs.YtcbhhbcfnaekpaaDoor
open Go.RowKit Go.Maps Go.WideMaps
set_option linter.unusedVariables false

set_option maxRecDepth 100000 in
set_option maxHeartbeats 4000000 in
theorem implNewException_any (es : List ByteArray) (A : Option Addr) (c : Nat) (e : ByteArray) (w : World) (hf : StrsIn w A es) (ho : StrsLe es) (hn : es.length ≤ 1048576) (hs : e.size ≤ 1048576) (hy : LayB w) :
    Calls Tryd.prog 33 #[.slice A es.length c, .string e] w fun x w' => ∃ v, x = .returned (.tuple #[v, .bool (nxB es e)]) ∧ Below w.heap.size w w' ∧ w'.ownsRow w.heap.size 9 1 v (nxL es e).length (strs (nxL es e)) := by
  have HF := Lib.hid hf; have HO := Lib.hid ho; have HY := Lib.hid hy; clear hf ho hy
  go_enter Tryd.func33, Tryd.ntmps33
  go_wp2_with fail
  refine (tableOf_any es A c _ HF.out HO.out hn HY.out).mono ?_
  rintro x w1 ⟨hb1, ⟨hp, x, rfl⟩ | ⟨hp, b0, hb0, rfl, ht⟩⟩
  · have HV := Lib.hid (nx_bad1 (e := e) hp)
    clear hp
    go_wp2
    go_ret2
    exact ⟨_, ret_vb HV.out.1.symm, hb1, by rw [HV.out.2]; exact own_nil _ _ _ _⟩
  have HP := Lib.hid hp
  have HXA := Lib.hid (exsB_all hp).1
  have HND := Lib.hid (exsA_nodup (exsB_all hp).1)
  have h20 := (exsB_all hp).2
  have HT1 := Lib.hid ht
  have HB1 := Lib.hid hb1
  have HY1 := Lib.hid (HY.out.below hb1)
  clear hp ht hb1
  cases he : exB e
  · have HV := Lib.hid (nx_bad2 (es := es) he)
    have HE := Lib.hid he
    clear he
    go_wp2_with fail
    refine (isException_is e false w1 hs HY1.out HE).mono ?_
    rintro x w2 ⟨rfl, hb2⟩
    have HB2 := Lib.hid (HB1.out.trans (hb2.mono HB1.out.size))
    clear hb2
    go_wp2
    go_ret2
    exact ⟨_, ret_vb HV.out.1.symm, HB2.out, by rw [HV.out.2]; exact own_nil _ _ _ _⟩
  have HE := Lib.hid he
  clear he
  go_wp2_with fail
  refine (isException_is e true w1 hs HY1.out HE).mono ?_
  rintro x w2 ⟨rfl, hb2⟩
  have HB2 := Lib.hid (HB1.out.trans (hb2.mono HB1.out.size))
  have HT2 := Lib.hid (HT1.out.next hb2)
  have HY2 := Lib.hid (HY1.out.below hb2)
  clear hb2 HT1 HY1 HB1
  go_wp2_with fail
  refine (without_is e w2 hs HY2.out HE).mono ?_
  rintro x w3 ⟨rfl, hb3⟩
  have HB3 := Lib.hid (HB2.out.trans (hb3.mono HB2.out.size))
  have HT3 := Lib.hid (HT2.out.next hb3)
  clear hb3 HT2 HY2 HB2
  have hwm : (exW e).size ≤ maxLen := by have := exW_size e; unfold maxLen; omega
  have HKY := Lib.hid (kOfS hwm)
  have hlk0 := HT3.out.look HXA.out hwm
  have HAT := Lib.hid (fun h => nxAt_no (es := es) (wd := exW e) h)
  have HAI := Lib.hid (fun (i : Nat) hi h h2 => nxAt_is (es := es) (wd := exW e) (i := i) hi h h2)
  have HHIT := Lib.hid (fun (i : Nat) hi hl => nx_hit (es := es) (e := e) (i := i) HP.out HE.out hi hl)
  have HROOM := Lib.hid (fun hi hl => nx_room (es := es) (e := e) HP.out HE.out hi hl)
  have HFULL := Lib.hid (fun hi hl => nx_full (es := es) (e := e) hi hl)
  clear hwm
  generalize hwd : exW e = wd at *
  clear hwd
  rcases hlk0 with ⟨h1, hlk⟩ | ⟨i, hi, h1, hlk⟩
  · have HNO := Lib.hid (HAT.out (fun j hj e2 => hasS_no h1 (List.mem_map.2 ⟨es[j], List.getElem_mem hj, e2⟩)))
    obtain ⟨D, hM, hD⟩ := HT3.out
    have HE2 := Lib.hid (hD.cut0 HND.out h1)
    have HSZ := Lib.hid HE2.out.2
    have HM := Lib.hid hM
    clear HT3 hM hD h1
    go_wp2_with (at_delete; refine wpList_delete_own _ rfl _ _ 60 9 rfl 3 kS uMT _ b0 20 D rfl HM.out _ (keyS wd) rfl HKY.out ?_)
    intro w4 hm4 ht4
    have HM4 := Lib.hid hm4
    have HB4 := Lib.hid (HB3.out.grown ht4.grown HB3.out.size (fun q hq => by have := Option.some.inj hq; omega))
    clear hm4 ht4 HM hlk
    by_cases hroom : es.length < 20
    · have hne : ((es.length : Int) == 20) = false := by rw [beq_eq_false_iff_ne]; omega
      have HV := Lib.hid (HROOM.out HNO.out hroom)
      have HMZ := Lib.hid HE2.out.2
      have HTE := Lib.hid HE2.out.1
      clear HE2
      generalize D.del (keyS wd) = D2 at *
      have hlen : ∀ ty, (Builtin.len_ #[60] ty #[.map (some b0)]).run Tryd.prog w4 = .ok (.int .i64 (es.length : Nat)) w4 := fun ty => by
        have h := HM4.out.len uMT ty
        rw [HSZ.out] at h; exact h
      have hmk := run_makeStr1 es.length (by omega) w4
      have HT0 : Hid (TbS (w4.alloc (.cells (madeCells #[.string .empty] ((es.length + 1) * 1)) 9)) w4.heap.size (List.replicate (es.length + 1) .empty)) := Lib.hid (TbS.made w4 (es.length + 1))
      have HMA := Lib.hid (HM4.out.alloc (.cells (madeCells #[.string .empty] ((es.length + 1) * 1)) 9))
      have HBA : Hid (Below w.heap.size w (w4.alloc (.cells (madeCells #[.string .empty] ((es.length + 1) * 1)) 9))) := Lib.hid (HB4.out.alloc HB4.out.size _)
      have HSA : Hid ((w4.alloc (.cells (madeCells #[.string .empty] ((es.length + 1) * 1)) 9)).heap.size = w4.heap.size + 1) := Lib.hid (by simp)
      generalize w4.alloc (.cells (madeCells #[.string .empty] ((es.length + 1) * 1)) 9) = w5 at *
      have hpn : es.length < es.length + 1 := by omega
      have hc5 := HT0.out.cell (j := es.length) (by rw [List.length_replicate]; exact hpn)
      have hf5 := HT0.out.free es.length
      have hne0 : b0 ≠ w4.heap.size := by have := HM4.out.lt; omega
      have HT5 := Lib.hid (HT0.out.set es.length e)
      have HI5 : Hid (NewI es e es.length (es.length + 1) ((List.replicate (es.length + 1) ByteArray.empty).set es.length e) (Maps.has D2)) := Lib.hid ⟨by rw [List.length_set, List.length_replicate], by rw [List.getElem?_set_self (by rw [List.length_replicate]; exact hpn)], fun j hj hji h => by rw [HTE.out.has1 j hj hji] at h; cases h⟩
      have HM5 := Lib.hid (HMA.out.kept (grown_set (World.grownBy.refl _ _) es.length (.string e) : World.grownBy _ (w5.setCell ⟨w4.heap.size, es.length, none⟩ (.string e)) (some w4.heap.size)) (fun h => hne0 (Option.some.inj h)))
      have HB5 : Hid (Below w.heap.size w (w5.setCell ⟨w4.heap.size, es.length, none⟩ (.string e))) := Lib.hid (HBA.out.setCell (p := ⟨w4.heap.size, es.length, none⟩) HB4.out.size _)
      have HS5 : Hid ((w5.setCell ⟨w4.heap.size, es.length, none⟩ (.string e)).heap.size = w4.heap.size + 1) := Lib.hid (by rw [← HSA.out]; simp)
      generalize (List.replicate (es.length + 1) ByteArray.empty).set es.length e = C0 at *
      clear HMA HT0
      go_wp2_with (at_range; refine wpList_range_own _ rfl _ 60 rfl 9 3 kS uMT _ b0 20 D2 rfl HM5.out ?_)
      intro w6 hr6 hg6 hs6
      rw [HSA.out] at hr6 ⊢
      have HR6 := Lib.hid hr6
      have HT6 := Lib.hid (HT5.out.kept hg6 (by simp))
      have HB6 := Lib.hid (HB5.out.grown hg6 HB5.out.size (fun q hq => by cases hq))
      have h46 := HB4.out.size
      clear hr6 hg6 HM5 HT5 hlen hmk hc5 hf5
      go_wp2
      go_loopw [] (fun wr => ∃ (left : Lit → Bool) (cnt : Nat) (C : List ByteArray), Hid (wr.ranges Tryd.prog 9 (plainElem Tryd.prog 3) b0 (w4.heap.size + 1) 20 D2 left cnt) ∧ Hid (TbS wr w4.heap.size C) ∧ Hid (NewI es e es.length (es.length + 1) C left) ∧ Hid (∀ kl, left kl = true → Maps.has D2 kl = true) ∧ Hid (Below w.heap.size w wr)) (fun wr => wr.rangeLeft b0 (w4.heap.size + 1))
      case atStart => exact ⟨_, _, C0, HR6, HT6, HI5, Lib.hid (fun kl h => h), HB6⟩
      case round =>
        clear HR6 HT6 HI5 HB6 HM4 HB5 HS5 HSZ
        obtain ⟨left, cnt, C, HR, HT, HI, HL, HB⟩ := hrel
        go_wp2_with (at_next; refine wpList_next_ranges _ rfl _ rfl 9 kS _ Value.string (Value.int .i64) (fun key kl hk => keyOf_string_inv Tryd.underlying9 hk) (fun v y hv => by obtain ⟨c, hc, _⟩ := plainElem_int_inv Tryd.underlying3 hv; exact ⟨c, hc⟩) b0 (w4.heap.size + 1) 20 D2 left cnt rfl HR.out ?_ ?_)
        · intro hc0 hl0
          have HOF : Hid (wr.ownsRow w.heap.size 9 1 (.slice (some ⟨w4.heap.size, 0, none⟩) (es.length + 1) (es.length + 1)) (nxL es e).length (strs (nxL es e))) := Lib.hid (by
            have hC := HI.out.done_app hl0 rfl
            rw [HV.out.2, ← hC]
            have h := HT.out.own HI.out.len (base := w.heap.size) h46 (by unfold maxLen; omega)
            rw [HI.out.len]; exact h)
          clear hl0 hc0
          go_wp2
          go_ret2
          exact ⟨_, ret_vb HV.out.1.symm, HB.out, HOF.out⟩
        · intro x cI kl y1 y2 w7 cnt1 hkey hlk hv hat hrg1 hlt hg7 hs7 hen
          obtain ⟨j, hj, hjp, rfl⟩ := HTE.out.has2 _ (HL.out _ hlk)
          have hj' : cI = (j : Int) := by
            obtain ⟨c2, ec, ey, _⟩ := plainElem_int_inv Tryd.underlying3 hv
            injection ec with _ ec
            have h1 := hat .nil
            have e1 : y1 = .lit (.int .i64 c2) := congrArg Prod.fst ey
            rw [e1] at h1
            rw [HTE.out.val j hj hjp .nil] at h1
            have h2 := (Lit.int.inj (DataW.lit.inj h1)).2
            omega
          subst hj'
          have hjn : j < es.length + 1 := by omega
          obtain ⟨b9, o9, hA9, hbl9, hc9⟩ := HF.out (by omega)
          subst hA9
          have hB7 : Below w.heap.size w w7 := HB.out.grown hg7 HB.out.size (fun q hq => by have := Option.some.inj hq; omega)
          have hcj := (hB7.cell (p := ⟨b9, o9 + j, none⟩) hbl9).trans (hc9 j hj)
          have hT7 := HT.out.kept hg7 (by simp)
          obtain ⟨u7, hc7⟩ : ∃ u7, w7.cell? ⟨w4.heap.size, j, none⟩ = some u7 := ⟨_, hT7.cell (j := j) (by rw [HI.out.len]; exact hjn)⟩
          have hf7 := hT7.free j
          have HT8 := Lib.hid (hT7.set j es[j])
          have HB8 : Hid (Below w.heap.size w (w7.setCell ⟨w4.heap.size, j, none⟩ (.string es[j]))) := Lib.hid (hB7.setCell (p := ⟨w4.heap.size, j, none⟩) h46 _)
          have HI8 := Lib.hid (HI.out.step HND.out hj hjp hjn)
          have HR8 := Lib.hid (hrg1.kept (grown_set (World.grownBy.refl _ _) j (.string es[j]) : World.grownBy _ (w7.setCell ⟨w4.heap.size, j, none⟩ (.string es[j])) (some w4.heap.size)) (fun h => hne0 (Option.some.inj h)) (fun h => by have := Option.some.inj h; omega))
          have HL8 : Hid (∀ kl, (left kl && !kl.sameKey (keyS (exW es[j]))) = true → Maps.has D2 kl = true) := Lib.hid (fun kl h => by
            rw [Bool.and_eq_true] at h; exact HL.out kl h.1)
          have HLT := Lib.hid hlt
          clear hkey hlk hv hat hrg1 hlt hg7 hs7 hB7 hT7 hc9 HI HT HL
          generalize hsx : es[j] = sx at *
          go_wp2
          go_roundw
          case rel => exact ⟨_, _, _, HR8, HT8, HI8, HL8, HB8⟩
          case measure => rw [HR8.out.left_eq, HR.out.left_eq]; exact HLT.out
    · have hne : ((es.length : Int) == 20) = true := by rw [beq_iff_eq]; omega
      have HV := Lib.hid (HFULL.out HNO.out hroom)
      have hlen : ∀ ty, (Builtin.len_ #[60] ty #[.map (some b0)]).run Tryd.prog w4 = .ok (.int .i64 (es.length : Nat)) w4 := fun ty => by
        have h := HM4.out.len uMT ty
        rw [HSZ.out] at h; exact h
      go_wp2
      go_ret2
      exact ⟨_, ret_vb HV.out.1.symm, HB4.out, by rw [HV.out.2]; exact own_nil _ _ _ _⟩
  · have HNO := Lib.hid (HAI.out i hi h1 (fun j hj e2 => by have := ex_ne HND.out (by omega) hi (e2.trans h1.symm); omega))
    obtain ⟨D, hM, hD⟩ := HT3.out
    have HE2 := Lib.hid (hD.cut HND.out hi h1)
    obtain ⟨m, hm⟩ : ∃ m, es.length = m + 1 := ⟨es.length - 1, by omega⟩
    have HSZ : Hid (Maps.size (D.del (keyS wd)) = m) := Lib.hid (by have := HE2.out.2; omega)
    have HM := Lib.hid hM
    clear HT3 hM hD h1
    go_wp2_with (at_delete; refine wpList_delete_own _ rfl _ _ 60 9 rfl 3 kS uMT _ b0 20 D rfl HM.out _ (keyS wd) rfl HKY.out ?_)
    intro w4 hm4 ht4
    have HM4 := Lib.hid hm4
    have HB4 := Lib.hid (HB3.out.grown ht4.grown HB3.out.size (fun q hq => by have := Option.some.inj hq; omega))
    clear hm4 ht4 HM hlk
    have hne : ((m : Int) == 20) = false := by rw [beq_eq_false_iff_ne]; omega
    have HV := Lib.hid (HHIT.out i HNO.out hi)
    have HMZ := Lib.hid HE2.out.2
    have HTE := Lib.hid HE2.out.1
    clear HE2
    generalize D.del (keyS wd) = D2 at *
    have hlen : ∀ ty, (Builtin.len_ #[60] ty #[.map (some b0)]).run Tryd.prog w4 = .ok (.int .i64 (m : Nat)) w4 := fun ty => by
      have h := HM4.out.len uMT ty
      rw [HSZ.out] at h; exact h
    have hmk := run_makeStr1 m (by omega) w4
    have HT0 : Hid (TbS (w4.alloc (.cells (madeCells #[.string .empty] ((m + 1) * 1)) 9)) w4.heap.size (List.replicate (m + 1) .empty)) := Lib.hid (TbS.made w4 (m + 1))
    have HMA := Lib.hid (HM4.out.alloc (.cells (madeCells #[.string .empty] ((m + 1) * 1)) 9))
    have HBA : Hid (Below w.heap.size w (w4.alloc (.cells (madeCells #[.string .empty] ((m + 1) * 1)) 9))) := Lib.hid (HB4.out.alloc HB4.out.size _)
    have HSA : Hid ((w4.alloc (.cells (madeCells #[.string .empty] ((m + 1) * 1)) 9)).heap.size = w4.heap.size + 1) := Lib.hid (by simp)
    generalize w4.alloc (.cells (madeCells #[.string .empty] ((m + 1) * 1)) 9) = w5 at *
    have hpn : i < m + 1 := by omega
    have hc5 := HT0.out.cell (j := i) (by rw [List.length_replicate]; exact hpn)
    have hf5 := HT0.out.free i
    have hne0 : b0 ≠ w4.heap.size := by have := HM4.out.lt; omega
    have HT5 := Lib.hid (HT0.out.set i e)
    have HI5 : Hid (NewI es e i (m + 1) ((List.replicate (m + 1) ByteArray.empty).set i e) (Maps.has D2)) := Lib.hid ⟨by rw [List.length_set, List.length_replicate], by rw [List.getElem?_set_self (by rw [List.length_replicate]; exact hpn)], fun j hj hji h => by rw [HTE.out.has1 j hj hji] at h; cases h⟩
    have HM5 := Lib.hid (HMA.out.kept (grown_set (World.grownBy.refl _ _) i (.string e) : World.grownBy _ (w5.setCell ⟨w4.heap.size, i, none⟩ (.string e)) (some w4.heap.size)) (fun h => hne0 (Option.some.inj h)))
    have HB5 : Hid (Below w.heap.size w (w5.setCell ⟨w4.heap.size, i, none⟩ (.string e))) := Lib.hid (HBA.out.setCell (p := ⟨w4.heap.size, i, none⟩) HB4.out.size _)
    have HS5 : Hid ((w5.setCell ⟨w4.heap.size, i, none⟩ (.string e)).heap.size = w4.heap.size + 1) := Lib.hid (by rw [← HSA.out]; simp)
    generalize (List.replicate (m + 1) ByteArray.empty).set i e = C0 at *
    clear HMA HT0
    go_wp2_with (at_range; refine wpList_range_own _ rfl _ 60 rfl 9 3 kS uMT _ b0 20 D2 rfl HM5.out ?_)
    intro w6 hr6 hg6 hs6
    rw [HSA.out] at hr6 ⊢
    have HR6 := Lib.hid hr6
    have HT6 := Lib.hid (HT5.out.kept hg6 (by simp))
    have HB6 := Lib.hid (HB5.out.grown hg6 HB5.out.size (fun q hq => by cases hq))
    have h46 := HB4.out.size
    clear hr6 hg6 HM5 HT5 hlen hmk hc5 hf5
    go_wp2
    go_loopw [] (fun wr => ∃ (left : Lit → Bool) (cnt : Nat) (C : List ByteArray), Hid (wr.ranges Tryd.prog 9 (plainElem Tryd.prog 3) b0 (w4.heap.size + 1) 20 D2 left cnt) ∧ Hid (TbS wr w4.heap.size C) ∧ Hid (NewI es e i (m + 1) C left) ∧ Hid (∀ kl, left kl = true → Maps.has D2 kl = true) ∧ Hid (Below w.heap.size w wr)) (fun wr => wr.rangeLeft b0 (w4.heap.size + 1))
    case atStart => exact ⟨_, _, C0, HR6, HT6, HI5, Lib.hid (fun kl h => h), HB6⟩
    case round =>
      clear HR6 HT6 HI5 HB6 HM4 HB5 HS5 HSZ
      obtain ⟨left, cnt, C, HR, HT, HI, HL, HB⟩ := hrel
      go_wp2_with (at_next; refine wpList_next_ranges _ rfl _ rfl 9 kS _ Value.string (Value.int .i64) (fun key kl hk => keyOf_string_inv Tryd.underlying9 hk) (fun v y hv => by obtain ⟨c, hc, _⟩ := plainElem_int_inv Tryd.underlying3 hv; exact ⟨c, hc⟩) b0 (w4.heap.size + 1) 20 D2 left cnt rfl HR.out ?_ ?_)
      · intro hc0 hl0
        have HOF : Hid (wr.ownsRow w.heap.size 9 1 (.slice (some ⟨w4.heap.size, 0, none⟩) (m + 1) (m + 1)) (nxL es e).length (strs (nxL es e))) := Lib.hid (by
          have hC := HI.out.done_set hl0 hm.symm hi
          rw [HV.out.2, ← hC]
          have h := HT.out.own HI.out.len (base := w.heap.size) h46 (by unfold maxLen; omega)
          rw [HI.out.len]; exact h)
        clear hl0 hc0
        go_wp2
        go_ret2
        exact ⟨_, ret_vb HV.out.1.symm, HB.out, HOF.out⟩
      · intro x cI kl y1 y2 w7 cnt1 hkey hlk hv hat hrg1 hlt hg7 hs7 hen
        obtain ⟨j, hj, hjp, rfl⟩ := HTE.out.has2 _ (HL.out _ hlk)
        have hj' : cI = (j : Int) := by
          obtain ⟨c2, ec, ey, _⟩ := plainElem_int_inv Tryd.underlying3 hv
          injection ec with _ ec
          have h1 := hat .nil
          have e1 : y1 = .lit (.int .i64 c2) := congrArg Prod.fst ey
          rw [e1] at h1
          rw [HTE.out.val j hj hjp .nil] at h1
          have h2 := (Lit.int.inj (DataW.lit.inj h1)).2
          omega
        subst hj'
        have hjn : j < m + 1 := by omega
        obtain ⟨b9, o9, hA9, hbl9, hc9⟩ := HF.out (by omega)
        subst hA9
        have hB7 : Below w.heap.size w w7 := HB.out.grown hg7 HB.out.size (fun q hq => by have := Option.some.inj hq; omega)
        have hcj := (hB7.cell (p := ⟨b9, o9 + j, none⟩) hbl9).trans (hc9 j hj)
        have hT7 := HT.out.kept hg7 (by simp)
        obtain ⟨u7, hc7⟩ : ∃ u7, w7.cell? ⟨w4.heap.size, j, none⟩ = some u7 := ⟨_, hT7.cell (j := j) (by rw [HI.out.len]; exact hjn)⟩
        have hf7 := hT7.free j
        have HT8 := Lib.hid (hT7.set j es[j])
        have HB8 : Hid (Below w.heap.size w (w7.setCell ⟨w4.heap.size, j, none⟩ (.string es[j]))) := Lib.hid (hB7.setCell (p := ⟨w4.heap.size, j, none⟩) h46 _)
        have HI8 := Lib.hid (HI.out.step HND.out hj hjp hjn)
        have HR8 := Lib.hid (hrg1.kept (grown_set (World.grownBy.refl _ _) j (.string es[j]) : World.grownBy _ (w7.setCell ⟨w4.heap.size, j, none⟩ (.string es[j])) (some w4.heap.size)) (fun h => hne0 (Option.some.inj h)) (fun h => by have := Option.some.inj h; omega))
        have HL8 : Hid (∀ kl, (left kl && !kl.sameKey (keyS (exW es[j]))) = true → Maps.has D2 kl = true) := Lib.hid (fun kl h => by
          rw [Bool.and_eq_true] at h; exact HL.out kl h.1)
        have HLT := Lib.hid hlt
        clear hkey hlk hv hat hrg1 hlt hg7 hs7 hB7 hT7 hc9 HI HT HL
        generalize hsx : es[j] = sx at *
        go_wp2
        go_roundw
        case rel => exact ⟨_, _, _, HR8, HT8, HI8, HL8, HB8⟩
        case measure => rw [HR8.out.left_eq, HR.out.left_eq]; exact HLT.out
end Go.Proofs.YtcbhhbcfnaekpaaDoor
