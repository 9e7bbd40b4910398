/-
  A new exception: told plainly; the contracts of spec.l1OwnS and spec.NewException.
-/
import Derived.Test.YtcbhhbcfnaekpaaDoorHyu
import Derived.Deep.Upon
import Derived.Deep.RegionLaw
import Derived.Laws.OwnMore
namespace Go.Proofs.YtcbhhbcfnaekpaaDoor
open Go.RowKit
set_option linter.unusedVariables false

/-- The index of the exception with these letters, or the number of exceptions. -/
def nxAt (es : List ByteArray) (wd : ByteArray) : Nat := es.findIdx fun x => decide (exW x = wd)
theorem nxAt_le (es : List ByteArray) (wd : ByteArray) : nxAt es wd ≤ es.length := List.findIdx_le_length
theorem nxAt_is {es : List ByteArray} {wd : ByteArray} {i : Nat} (hi : i < es.length) (h : exW es[i] = wd) (h2 : ∀ j (hj : j < i), exW (es[j]'(by omega)) ≠ wd) : nxAt es wd = i := by
  unfold nxAt
  rw [List.findIdx_eq hi]
  exact ⟨by simpa using h, fun j hj => by simpa using h2 j hj⟩
theorem nxAt_no {es : List ByteArray} {wd : ByteArray} (h : ∀ j (hj : j < es.length), exW es[j] ≠ wd) : nxAt es wd = es.length := by
  unfold nxAt
  rw [List.findIdx_eq_length]
  intro x hx
  obtain ⟨j, hj, rfl⟩ := List.getElem_of_mem hx
  simpa using h j hj
/-- The exceptions with one more, or one changed. -/
def nxR (es : List ByteArray) (e : ByteArray) : List ByteArray := if nxAt es (exW e) < es.length then es.set (nxAt es (exW e)) e else es ++ [e]
/-- There is room. -/
def nxOk (es : List ByteArray) (e : ByteArray) : Bool := decide (nxAt es (exW e) < es.length) || decide (es.length < 20)
def nxB (es : List ByteArray) (e : ByteArray) : Bool := exsB es && exB e && nxOk es e
def nxL (es : List ByteArray) (e : ByteArray) : List ByteArray := if nxB es e then nxR es e else []
theorem nx_no {es : List ByteArray} {e : ByteArray} (h : nxB es e = false) : nxL es e = [] := by unfold nxL; rw [h]; rfl
theorem nx_bad1 {es : List ByteArray} {e : ByteArray} (h : exsB es = false) : nxB es e = false ∧ nxL es e = [] := by
  have : nxB es e = false := by unfold nxB; rw [h]; rfl
  exact ⟨this, nx_no this⟩
theorem nx_bad2 {es : List ByteArray} {e : ByteArray} (h : exB e = false) : nxB es e = false ∧ nxL es e = [] := by
  have : nxB es e = false := by unfold nxB; rw [h]; simp
  exact ⟨this, nx_no this⟩
theorem nx_hit {es : List ByteArray} {e : ByteArray} {i : Nat} (h1 : exsB es = true) (h2 : exB e = true) (hi : nxAt es (exW e) = i) (hl : i < es.length) : nxB es e = true ∧ nxL es e = es.set i e := by
  have : nxB es e = true := by unfold nxB nxOk; rw [h1, h2, hi, decide_eq_true hl]; rfl
  exact ⟨this, by unfold nxL nxR; rw [this, hi, if_pos rfl, if_pos hl]⟩
theorem nx_room {es : List ByteArray} {e : ByteArray} (h1 : exsB es = true) (h2 : exB e = true) (hi : nxAt es (exW e) = es.length) (hl : es.length < 20) : nxB es e = true ∧ nxL es e = es ++ [e] := by
  have : nxB es e = true := by unfold nxB nxOk; rw [h1, h2, decide_eq_true hl]; simp
  exact ⟨this, by unfold nxL nxR; rw [this, hi, if_pos rfl, if_neg (by omega)]⟩
theorem nx_full {es : List ByteArray} {e : ByteArray} (hi : nxAt es (exW e) = es.length) (hl : ¬ es.length < 20) : nxB es e = false ∧ nxL es e = [] := by
  have : nxB es e = false := by unfold nxB nxOk; rw [hi, decide_eq_false hl]; simp
  exact ⟨this, nx_no this⟩
theorem nx_short (es : List ByteArray) (e : ByteArray) : (nxL es e).length ≤ 20 := by
  cases h : nxB es e
  · rw [nx_no h]; simp
  · have h0 := h
    unfold nxB at h0
    rw [Bool.and_eq_true, Bool.and_eq_true] at h0
    have h20 := (exsB_all h0.1.1).2
    unfold nxL nxR
    rw [h, if_pos rfl]
    split
    · rw [List.length_set]; exact h20
    · have h3 := h0.2
      unfold nxOk at h3
      rename_i hn
      rw [decide_eq_false hn] at h3
      simp at h3
      simp; omega
/-- One more: still exceptions, if there is room. -/
theorem exsB_more {es : List ByteArray} {e : ByteArray} (h1 : exsB es = true) (h2 : exB e = true) (hn : ∀ j (hj : j < es.length), exW es[j] ≠ exW e) : exsB (es ++ [e]) = decide (es.length < 20) := by
  have hA := (exsB_all h1).1
  have hA2 : exsA (es ++ [e]) = true := by
    have h := hA
    unfold exsA at h ⊢
    rw [Bool.and_eq_true, decide_eq_true_eq] at h
    rw [Bool.and_eq_true, decide_eq_true_eq, List.all_append, h.1, List.map_append, List.nodup_append]
    refine ⟨by simp [h2], h.2, by simp, fun a ha b hb e2 => ?_⟩
    obtain ⟨x, hx, rfl⟩ := List.mem_map.1 ha
    obtain ⟨j, hj, rfl⟩ := List.getElem_of_mem hx
    obtain rfl : b = exW e := by simpa using hb
    exact hn j hj e2
  unfold exsB
  rw [hA2, Bool.true_and, List.length_append]
  apply decide_eq_decide.2
  simp; omega
theorem strs_set (l : List ByteArray) (i : Nat) (e : ByteArray) : (strs l).set i (.string e) = strs (l.set i e) := by unfold strs; rw [List.map_set]
theorem add_flat9 (b off k : Nat) : (⟨b, off, none⟩ : Addr).add k = ⟨b, off + k, none⟩ := by
  simp [Addr.add]
theorem news_strs {w : World} {b off : Nat} {l : List ByteArray} (hc : ∀ k (h : k < l.length), w.cell? ⟨b, off + k, none⟩ = some (.string l[k])) : ∀ j u, (strs l)[j]? = some u → w.cell? ((⟨b, off, none⟩ : Addr).add j) = some u := by
  intro j u hu
  rw [add_flat9]
  have hj : j < l.length := by
    rcases Nat.lt_or_ge j l.length with h | h
    · exact h
    · rw [List.getElem?_eq_none (by rw [strs_len]; exact h)] at hu; cases hu
  have e : (strs l)[j]? = some (.string l[j]) := by simp [strs, hj]
  rw [e] at hu
  rw [hc j hj]; exact hu
theorem strs_one (l : List ByteArray) : ∀ u ∈ strs l, u.oneCell' = true := by
  intro u hu
  simp only [strs, List.mem_map] at hu
  obtain ⟨x, _, rfl⟩ := hu
  rfl
theorem own_zero (w : World) {g base : Nat} {e : TypeId} (h : w.heap[g]? = some (.cells #[] e (0, 0))) (hb : base ≤ g) : w.ownsRow base e 1 (.slice (some ⟨g, 0, none⟩) 0 0) 0 [] :=
  ⟨rfl, .inr ⟨g, 0, #[], rfl, hb, h, Nat.le_refl _, Nat.zero_le _, rfl, rfl⟩⟩
theorem wpList_append_is {P : Program} {ops : Array Oper} {rest : List Oper} {o : Oper} {a : Act} {Q : Exit → Act → World → Prop} (w w' : World) (v v0 v1 : Value) (hgd : o.guard = none) (s x : Operand) (t ty : TypeId)
    (ho : o.op = .call { callee := .builtin .append, args := #[s, x], argTypes := #[t, t] }) (hty : o.type = ty) (hs : a.eval s = v0) (hx : a.eval x = v1)
    (hrun : (Builtin.append_ #[t, t] ty #[v0, v1]).run P w = .ok v w') (h : wpList P ops Q rest (a.put o.dst v) w') : wpList P ops Q (o :: rest) a w := by
  subst hty; subst hs; subst hx
  refine wpList_plain hgd fun K hK' => ?_
  unfold Oper.wp
  simp [execOp, ho, resolve, invoke, builtin, hrun, Result.andThen]
  exact hK' _ _ h
theorem append_noneS (W : World) (a : Option Addr) (n c d : Nat) (h : n ≤ c) : (Builtin.append_ #[23, 23] 23 #[.slice a n c, .slice none 0 d]).run Tryd.prog W = .ok (.slice a n c) W := by
  obtain ⟨i0, hi, hz0, hz1, hz2⟩ := info_parts info9
  exact run_append_nothing (P := Tryd.prog) _ 23 23 23 9 i0 Tryd.underlying23 hi _ n c h _ (Src.ofNil (w := _) Tryd.underlying23 d)
set_option maxRecDepth 100000 in
theorem l1OwnS_any (l : List ByteArray) (A : Option Addr) (c : Nat) (w : World) (hf : StrsIn w A l) (hn : l.length ≤ 1048576) :
    Calls Tryd.prog 77 #[.slice A l.length c] w fun e w' => ∃ v, e = .returned v ∧ Below w.heap.size w w' ∧ w'.ownsRow w.heap.size 9 1 v l.length (strs l) := by
  obtain ⟨i0, hi, hz0, hz1, hz2⟩ := info_parts info9
  have HI0 := Lib.hid hi; have HZ0 := Lib.hid hz0; have HZ1 := Lib.hid hz1; have HZ2 := Lib.hid hz2
  clear hi hz0 hz1 hz2
  rcases Nat.eq_zero_or_pos l.length with h0 | h0
  · obtain rfl := List.eq_nil_of_length_eq_zero h0
    cases A with
    | none =>
      have HAP := Lib.hid (append_noneS (w.alloc (.cells #[] 9)) (some ⟨w.heap.size, 0, none⟩) 0 0 c (Nat.le_refl _))
      go_enter Tryd.func77, Tryd.ntmps77
      go_wp2_with (at_builtin; refine wpList_append_is _ _ _ _ _ rfl _ _ 23 23 rfl rfl rfl rfl HAP.out ?_)
      go_wp2
      go_ret
      exact ⟨_, rfl, (Below.refl _ _).alloc (Nat.le_refl _) _, own_zero _ (heap_new _ _) (Nat.le_refl _)⟩
    | some a =>
      have HOW := Lib.hid (own_zero (w.alloc (.cells #[] 9)) (base := w.heap.size) (heap_new _ _) (Nat.le_refl _))
      have hmx : 0 + 0 ≤ maxLen := by unfold maxLen; omega
      go_enter Tryd.func77, Tryd.ntmps77
      go_wp2_with (at_builtin; refine wpList_append_own _ rfl _ _ 23 rfl w.heap.size 9 i0 (.string .empty) 1 16 Tryd.underlying23 HI0.out HZ0.out HZ1.out HZ2.out rfl (by decide) _ _ _ rfl HOW.out a 0 c [] rfl rfl (fun j u hu => by simp at hu) (by simp) hmx (by omega) (by simp) ?_)
      intro v' w4 hown' hgrow _
      have HB1 : Hid (Below w.heap.size w w4) := Lib.hid (((Below.refl _ _).alloc (Nat.le_refl _) _).grown hgrow (by simp) (own_lt HOW.out))
      have HO := Lib.hid hown'
      clear hown' hgrow
      go_wp2
      go_ret
      exact ⟨_, rfl, HB1.out, HO.out⟩
  obtain ⟨b, off, rfl, hbl, hc⟩ := hf h0
  have hc' : ∀ k (h : k < l.length), (w.alloc (.cells #[] 9)).cell? ⟨b, off + k, none⟩ = some (.string l[k]) := fun k hk => by
    rw [World.cell?_alloc_lt _ _ _ (World.block_lt_of_cell? _ _ (hc k hk))]; exact hc k hk
  have hnews := news_strs hc'
  have hown : (w.alloc (.cells #[] 9)).ownsRow w.heap.size 9 1 (.slice (some ⟨w.heap.size, 0, none⟩) 0 0) 0 [] := own_zero _ (heap_new _ _) (Nat.le_refl _)
  have HNW := Lib.hid hnews; have HOW := Lib.hid hown
  have hmx : 0 + l.length ≤ maxLen := by unfold maxLen; omega
  clear hc hc' hnews hown hf h0
  go_enter Tryd.func77, Tryd.ntmps77
  go_wp2_with (at_builtin; refine wpList_append_own _ rfl _ _ 23 rfl w.heap.size 9 i0 (.string .empty) 1 16 Tryd.underlying23 HI0.out HZ0.out HZ1.out HZ2.out rfl (by decide) _ _ _ rfl HOW.out ⟨b, off, none⟩ l.length c (strs l) rfl (by rw [strs_len]; omega) HNW.out (strs_one l) hmx (by omega) (by simp) ?_)
  intro v' w4 hown' hgrow _
  have HB1 : Hid (Below w.heap.size w w4) := Lib.hid (((Below.refl _ _).alloc (Nat.le_refl _) _).grown hgrow (by simp) (own_lt HOW.out))
  have HO : Hid (w4.ownsRow w.heap.size 9 1 v' l.length (strs l)) := Lib.hid (by simpa using hown')
  clear hown' hgrow
  go_wp2
  go_ret
  exact ⟨_, rfl, HB1.out, HO.out⟩
end Go.Proofs.YtcbhhbcfnaekpaaDoor
