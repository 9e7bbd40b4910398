/-
  Slips marked and held (the laws' own helpers), copies of slips (slices.Clone), what is left of a stock: the contracts of spec.ruRest, RestOfStock and impl.RestOfStock.
-/
import Derived.Test.YtljakcfdjcjdbaaPd
import Derived.Test.YtljakcfdjcjdbaaPr
namespace Go.Proofs.Ytljakcfdjcjdbaa
open Go.RowKit
set_option linter.unusedVariables false

theorem Marked.put {w : World} {g cap j : Nat} {e : TypeId} {l : List Value} (h : Marked w g e cap l) (u : Value) : Marked (w.setCell ⟨g, j, none⟩ u) g e cap (l.set j u) := by
  obtain ⟨cur, h1, h2, h3⟩ := h
  refine ⟨_, heap_set h1 u, by simpa using h2, ?_⟩
  rw [Array.toList_setIfInBounds, List.length_set, List.take_set, h3]
theorem Marked.cellAt {w : World} {g cap j : Nat} {e : TypeId} {l : List Value} (h : Marked w g e cap l) (hj : j < l.length) : w.cell? ⟨g, j, none⟩ = some l[j] := by
  obtain ⟨cur, h1, h2, h3⟩ := h
  rw [cell_of_heap h1, ← Array.getElem?_toList]
  have e : (cur.toList.take l.length)[j]? = l[j]? := by rw [h3]
  rw [List.getElem?_take_of_lt hj] at e
  rw [e, List.getElem?_eq_getElem hj]
theorem Marked.freeAt {w : World} {g cap : Nat} {e : TypeId} {l : List Value} (h : Marked w g e cap l) (j : Nat) : w.frozen? ⟨g, j, none⟩ = false := by
  obtain ⟨cur, h1, _⟩ := h; exact free_of_heap h1 j
theorem Marked.far {w : World} {g cap b i : Nat} {e : TypeId} {l : List Value} (h : Marked w g e cap l) (hne : g ≠ b) (x : Value) : Marked (w.setCell ⟨b, i, none⟩ x) g e cap l := by
  obtain ⟨cur, h1, h2⟩ := h
  exact ⟨cur, (Below.heap_setCell w ⟨b, i, none⟩ x g hne).trans h1, h2⟩
theorem Marked.own2 {w : World} {g cap base : Nat} {e : TypeId} {l : List Sl} (h : Marked w g e (cap * 2) (flatSl l)) (hb : base ≤ g) (h1 : l.length ≤ cap) (h2 : cap ≤ maxLen) : w.ownsRow base e 2 (.slice (some ⟨g, 0, none⟩) l.length cap) l.length (flatSl l) := by
  obtain ⟨cur, c1, c2, c3⟩ := h
  exact ⟨by rw [flatSl_len]; omega, .inr ⟨g, cap, cur, rfl, hb, c1, h1, h2, c2, by rw [flatSl_len, Nat.mul_comm] at c3; exact c3⟩⟩
theorem Marked.sls {w : World} {g n : Nat} {e : TypeId} {l : List Sl} (h : Marked w g e n (flatSl l)) : SlsIn w (some ⟨g, 0, none⟩) l := fun h0 => ⟨g, 0, rfl, h.lt, fun k hk => by
  have hg := flatSl_get l k hk
  have hl := flatSl_len l
  rw [Nat.zero_add, h.cellAt (j := k * 2) (by omega), h.cellAt (j := k * 2 + 1) (by omega), ← List.getElem?_eq_getElem, ← List.getElem?_eq_getElem]
  exact hg⟩
/-- A row of its own that is not nil. -/
theorem own_row2 {w : World} {base n : Nat} {e : TypeId} {v : Value} {l : List Sl} (h : w.ownsRow base e 2 v n (flatSl l)) (hv : v ≠ .slice none 0 0) : ∃ g cap, v = .slice (some ⟨g, 0, none⟩) l.length cap ∧ base ≤ g ∧ Marked w g e (cap * 2) (flatSl l) ∧ l.length ≤ cap ∧ cap ≤ maxLen := by
  have hn : n = l.length := by have := h.1; rw [flatSl_len] at this; omega
  subst hn
  rcases h.2 with ⟨h1, _⟩ | ⟨g, cap, cur, h1, h2, h3, h4, h5, h6, h7⟩
  · exact absurd h1 hv
  · exact ⟨g, cap, h1, h2, ⟨cur, h3, h6, by rw [flatSl_len, Nat.mul_comm]; exact h7⟩, h4, h5⟩
/-- A new slice of slips. -/
def SlTo (w w' : World) (e : Ending) (l : List Sl) : Prop := ∃ g cap, e = .returned (.slice (some ⟨g, 0, none⟩) l.length cap) ∧ Below w.heap.size w w' ∧ w.heap.size ≤ g ∧ Marked w' g 57 (cap * 2) (flatSl l) ∧ l.length ≤ cap ∧ cap ≤ maxLen
theorem newsSl {w : World} {A : Addr} {f : List Sl} (h : SlsIn w (some A) f) : ∀ j u, (flatSl f)[j]? = some u → w.cell? (A.add j) = some u := by
  intro j u hu
  have hj : j < 2 * f.length := by
    rcases Nat.lt_or_ge j (2 * f.length) with h | h
    · exact h
    · rw [List.getElem?_eq_none (by rw [flatSl_len]; exact h)] at hu; cases hu
  obtain ⟨b, off, hA, hbl, hc⟩ := h (by omega)
  obtain rfl := Option.some.inj hA
  rw [add_flat]
  obtain ⟨k, r, hr, rfl⟩ : ∃ k r, r < 2 ∧ j = k * 2 + r := ⟨j / 2, j % 2, Nat.mod_lt _ (by decide), by omega⟩
  have hk : k < f.length := by omega
  obtain ⟨c0, c1⟩ := hc k hk
  obtain ⟨g0, g1⟩ := flatSl_get f k hk
  rcases (by omega : r = 0 ∨ r = 1) with rfl | rfl
  · rw [Nat.add_zero] at hu ⊢; rw [c0, ← g0, hu]
  · rw [← Nat.add_assoc, c1, ← g1, hu]
theorem flatSl_one (f : List Sl) : ∀ u ∈ flatSl f, u.oneCell' = true := by
  intro u hu
  simp only [flatSl, intsZ, Sl.zs, List.mem_flatMap, List.mem_map] at hu
  obtain ⟨s, _, z, _, rfl⟩ := hu
  rfl
theorem own_none2 (w : World) {g base : Nat} {e : TypeId} (h : w.heap[g]? = some (.cells #[] e (0, 0))) (hb : base ≤ g) : w.ownsRow base e 2 (.slice (some ⟨g, 0, none⟩) 0 0) 0 (flatSl []) :=
  ⟨rfl, .inr ⟨g, 0, #[], rfl, hb, h, Nat.le_refl _, Nat.zero_le _, rfl, rfl⟩⟩
theorem clone_sl (f : List Sl) (A : Addr) (c : Nat) (w : World) (hf : SlsIn w (some A) f) (hn : f.length ≤ 1048576) :
    Calls Try.prog 57 #[.slice (some A) f.length c] w fun e w' => SlTo w w' e f := by
  have qT : ∀ (w : World) (a : Option Addr) (n c n' c' : Nat), (binOp .eql 25 (.slice a n c) (.slice none n' c')).run Try.prog w = .ok (.bool a.isNone) w := fun w a n c n' c' => Lib.run_eql_slice_nil w _ _ a n c n' c' Try.underlying25
  obtain ⟨i0, hi, hz0, hz1, hz2⟩ := info_parts infoSl
  have HI0 := Lib.hid hi; have HZ0 := Lib.hid hz0; have HZ1 := Lib.hid hz1; have HZ2 := Lib.hid hz2
  clear hi hz0 hz1 hz2
  have HNW := Lib.hid (newsSl (hf.below ((Below.refl w.heap.size w).alloc (Nat.le_refl _) (.cells #[] 57)) (Nat.le_refl _)))
  have HOW := Lib.hid (own_none2 (base := w.heap.size) (w.alloc (.cells #[] 57)) (heap_new _ _) (Nat.le_refl _))
  have hmx : 0 + f.length ≤ maxLen := by unfold maxLen; omega
  clear hf
  go_enter Try.func57, Try.ntmps57
  go_wp2_with (at_builtin; refine wpList_append_own _ rfl _ _ 25 rfl w.heap.size 57 i0 (.agg #[.int .i64 0, .int .i64 0]) 2 16 Try.underlying25 HI0.out HZ0.out HZ1.out HZ2.out rfl (by decide) _ _ _ rfl HOW.out A f.length c (flatSl f) rfl (by rw [flatSl_len]; omega) HNW.out (flatSl_one f) hmx (by omega) (by simp) ?_)
  intro v' w4 hown' hgrow hnil
  have HB1 : Hid (Below w.heap.size w w4) := Lib.hid (((Below.refl _ _).alloc (Nat.le_refl _) _).grown hgrow (by simp) (own_lt HOW.out))
  have hv : v' ≠ .slice none 0 0 := hnil
  have HO : Hid (w4.ownsRow w.heap.size 57 2 v' f.length (flatSl f)) := Lib.hid (by simpa [flatSl] using hown')
  obtain ⟨g, cap, rfl, hg, hm, h1, h2⟩ := own_row2 HO.out hv
  have HM := Lib.hid hm
  clear hown' hgrow hnil hm HO hv
  go_wp2
  go_ret
  exact ⟨_, _, rfl, HB1.out, hg, HM.out, h1, h2⟩

/-- The stock without the first k counts. -/
def restK (f : List Sl) (cs : List Int) : Nat → List Sl
  | 0 => f
  | k + 1 => (restK f cs k).set k ⟨(f.getD k ⟨0, 0⟩).len, (f.getD k ⟨0, 0⟩).cnt - cs.getD k 0⟩
theorem restK_len (f : List Sl) (cs : List Int) : ∀ k, (restK f cs k).length = f.length
  | 0 => rfl
  | k + 1 => by rw [restK, List.length_set, restK_len f cs k]
theorem restK_get (f : List Sl) (cs : List Int) : ∀ k j (hj : j < f.length), (restK f cs k)[j]'(by rw [restK_len]; exact hj) = if j < k then ⟨f[j].len, f[j].cnt - cs.getD j 0⟩ else f[j]
  | 0, j, hj => by rw [if_neg (by omega)]; rfl
  | k + 1, j, hj => by
    have ih := restK_get f cs k j hj
    simp only [restK, List.getElem_set]
    by_cases h : k = j
    · subst h; rw [if_pos rfl, if_pos (by omega), getS hj]
    · rw [if_neg h, ih]
      by_cases h2 : j < k
      · rw [if_pos h2, if_pos (by omega)]
      · rw [if_neg h2, if_neg (by omega)]
theorem restK_at {f : List Sl} {cs : List Int} {k : Nat} (h : k < f.length) : (restK f cs k)[k]'(by rw [restK_len]; exact h) = f[k] := by rw [restK_get f cs k k h, if_neg (by omega)]
theorem flatSl_set : ∀ (f : List Sl) (k : Nat) (x : Int), (h : k < f.length) → flatSl (f.set k ⟨f[k].len, x⟩) = (flatSl f).set (k * 2 + 1) (.int .i64 x)
  | s :: r, 0, x, _ => rfl
  | s :: r, k + 1, x, h => by
    have hk : k < r.length := by simpa using h
    have ih := flatSl_set r k x hk
    show .int .i64 s.len :: .int .i64 s.cnt :: flatSl (r.set k ⟨r[k].len, x⟩) = _
    rw [ih, show (k + 1) * 2 + 1 = k * 2 + 1 + 1 + 1 from by omega]
    rfl
theorem restK_flat {f : List Sl} {cs : List Int} {k : Nat} (h : k < f.length) (h2 : k < cs.length) : flatSl (restK f cs (k + 1)) = (flatSl (restK f cs k)).set (k * 2 + 1) (.int .i64 (f[k].cnt - cs[k])) := by
  have e := flatSl_set (restK f cs k) k (f[k].cnt - cs[k]) (by rw [restK_len]; exact h)
  rw [← e, restK, getS h, getI h2, restK_at h]
/-- What is left, told as an answer. -/
noncomputable def restL (f : List Sl) (cs : List Int) : List Sl := if cntsB f cs then restK f cs f.length else []
theorem restL_no {f : List Sl} {cs : List Int} (h : cntsB f cs = false) : restL f cs = [] := by unfold restL; rw [h]; rfl
theorem restL_yes {f : List Sl} {cs : List Int} (h : cntsB f cs = true) : restL f cs = restK f cs f.length := by unfold restL; rw [h]; rfl
theorem restL_short (f : List Sl) (cs : List Int) : (restL f cs).length ≤ 1048576 := by
  cases h : cntsB f cs
  · rw [restL_no h]; simp
  · rw [restL_yes h, restK_len]; have := (cntsB_iff.1 h).s.eight; omega
/-- The stock without counts is a stock. -/
theorem rest_good {f : List Sl} {cs : List Int} (h : GoodC f cs) : GoodS (restK f cs f.length) := by
  have hl := restK_len f cs f.length
  have hg : ∀ j (hj : j < f.length), (restK f cs f.length)[j]'(by rw [restK_len]; exact hj) = ⟨f[j].len, f[j].cnt - cs.getD j 0⟩ := fun j hj => by rw [restK_get f cs _ j hj, if_pos hj]
  refine ⟨by rw [hl]; exact h.s.eight, fun j hj _ => ?_⟩
  rw [hl] at hj
  have h1 := h.s.rise j hj hj
  have h2 := h.at_ j (by have := h.len; omega) hj hj
  have h3 := h.s.bd hj
  have ep : prvS (restK f cs f.length) j = prvS f j := by
    cases j with
    | zero => rfl
    | succ i => rw [prvS_succ (by rw [hl]; omega), prvS_succ (by omega), hg i (by omega)]
  unfold StpS
  rw [ep, hg j hj, getI (by have := h.len; omega)]
  exact ⟨h1.1, by show (0 : Int) ≤ _ - _; omega, by show _ - _ ≤ (20 : Int); omega⟩

set_option maxRecDepth 100000 in
set_option maxHeartbeats 1000000 in
theorem ruRest_any (f : List Sl) (A : Addr) (c : Nat) (cs : List Int) (B : Option Addr) (d : Nat) (w : World) (hf : SlsIn w (some A) f) (hc : IntsIn w B cs) (hgc : GoodC f cs) :
    Calls Try.prog 56 #[.slice (some A) f.length c, .slice B cs.length d] w fun e w' => SlTo w w' e (restK f cs f.length) := by
  have HC := Lib.hid hc; clear hc
  have HG := Lib.hid hgc; clear hgc
  have hn : f.length ≤ 1048576 := by have := HG.out.s.eight; omega
  have HLE := Lib.hid HG.out.len
  have hcf : cs.length ≤ 8 := by have := HG.out.s.eight; have := HLE.out; omega
  obtain ⟨i0, hi, hz0, hz1, hz2⟩ := info_parts infoSl
  have HI0 := Lib.hid hi; have HZ0 := Lib.hid hz0; have HZ1 := Lib.hid hz1; have HZ2 := Lib.hid hz2
  clear hi hz0 hz1 hz2
  have HNW := Lib.hid (newsSl (hf.below ((Below.refl w.heap.size w).alloc (Nat.le_refl _) (.cells #[] 57)) (Nat.le_refl _)))
  have HOW := Lib.hid (own_none2 (base := w.heap.size) (w.alloc (.cells #[] 57)) (heap_new _ _) (Nat.le_refl _))
  have hmx : 0 + f.length ≤ maxLen := by unfold maxLen; omega
  clear hf
  go_enter Try.func56, Try.ntmps56
  go_wp2_with (at_builtin; refine wpList_append_own _ rfl _ _ 25 rfl w.heap.size 57 i0 (.agg #[.int .i64 0, .int .i64 0]) 2 16 Try.underlying25 HI0.out HZ0.out HZ1.out HZ2.out rfl (by decide) _ _ _ rfl HOW.out A f.length c (flatSl f) rfl (by rw [flatSl_len]; omega) HNW.out (flatSl_one f) hmx (by omega) (by simp) ?_)
  intro v' w4 hown' hgrow hnil
  have HB1 : Hid (Below w.heap.size w w4) := Lib.hid (((Below.refl _ _).alloc (Nat.le_refl _) _).grown hgrow (by simp) (own_lt HOW.out))
  have hv : v' ≠ .slice none 0 0 := hnil
  have HO : Hid (w4.ownsRow w.heap.size 57 2 v' f.length (flatSl f)) := Lib.hid (by simpa [flatSl] using hown')
  obtain ⟨g, cap, rfl, hg, hm, h1, h2⟩ := own_row2 HO.out hv
  have HM := Lib.hid hm
  clear hown' hgrow hnil hm HO hv
  go_wp2
  go_loopw [13] (fun i wr => ∃ k : Nat, k ≤ cs.length ∧ i = .int .i64 (k : Int) ∧ Marked wr g 57 (cap * 2) (flatSl (restK f cs k)) ∧ Below w.heap.size w wr) (fun i _ => cs.length - (intOf i).toNat)
  case atStart => exact ⟨0, Nat.zero_le _, rfl, HM.out, HB1.out⟩
  case round =>
    obtain ⟨k, hk, rfl, hm, hb⟩ := hrel
    by_cases hlt : k < cs.length
    · have hlf : k < f.length := by have := HLE.out; omega
      obtain ⟨b', off', rfl, hbl', hc'⟩ := HC.out (by omega)
      have hc0 := hc' k hlt
      clear hc'
      rw [← hb.cell (p := ⟨b', off' + k, none⟩) hbl'] at hc0
      have hfl : k * 2 + 1 < (flatSl (restK f cs k)).length := by rw [flatSl_len, restK_len]; omega
      have hg1 : wr.cell? ⟨g, k * 2 + 1, none⟩ = some (.int .i64 f[k].cnt) := by
        rw [hm.cellAt hfl, ← List.getElem?_eq_getElem, (flatSl_get _ k (by rw [restK_len]; exact hlf)).2, restK_at hlf]
      have hg2 := hm.freeAt (k * 2 + 1)
      have hgl := hm.lt
      have hbd := HG.out.s.bd hlf
      have hbc := HG.out.c20 hlt hlf
      have HN : Hid (Marked (wr.setCell ⟨g, k * 2 + 1, none⟩ (.int .i64 (f[k].cnt - cs[k]))) g 57 (cap * 2) (flatSl (restK f cs (k + 1)))) := Lib.hid (by rw [restK_flat hlf hlt]; exact hm.put _)
      have HB3 := Lib.hid (hb.setCell (p := ⟨g, k * 2 + 1, none⟩) hg (.int .i64 (f[k].cnt - cs[k])))
      have hkc : (k : Int) < (f.length : Int) := by omega
      clear hm hb hfl
      generalize f[k].cnt = y at *
      generalize cs[k] = x at *
      go_wp2
      go_roundw
      case rel => exact ⟨k + 1, by omega, by go_num, HN.out, HB3.out⟩
      case measure => simp [intOf]; omega
    · obtain rfl : k = cs.length := by omega
      have HMM := Lib.hid hm; have HBB := Lib.hid hb
      clear hm hb
      go_wp2
      go_ret
      exact ⟨g, cap, by rw [restK_len] <;> rfl, HBB.out, hg, by rw [← HLE.out]; exact HMM.out, by rw [restK_len]; exact h1, h2⟩
set_option maxRecDepth 100000 in
set_option maxHeartbeats 1000000 in
theorem implRestOfStock_any (f : List Sl) (A : Addr) (c : Nat) (cs : List Int) (B : Option Addr) (d : Nat) (w : World) (hf : SlsIn w (some A) f) (hn : f.length ≤ 1048576) (hc : IntsIn w B cs) (hm : cs.length ≤ 1048576) :
    Calls Try.prog 31 #[.slice (some A) f.length c, .slice B cs.length d] w fun e w' => ∃ v T, e = .returned (.tuple #[v, .bool (cntsB f cs)]) ∧ Below w.heap.size w w' ∧ w'.ownsRow w.heap.size T 2 v (restL f cs).length (flatSl (restL f cs)) := by
  have HF := Lib.hid hf; have HC := Lib.hid hc; clear hf hc
  go_enter Try.func31, Try.ntmps31
  go_wp2_with fail
  refine (areSlipCounts_any f _ c cs B d _ HF.out HC.out hn hm).mono ?_
  rintro e w1 ⟨rfl, hb1⟩
  have HB0 := Lib.hid hb1
  clear hb1
  cases hg : cntsB f cs
  · have HV := Lib.hid (restL_no hg)
    have HQ := Lib.hid hg
    clear hg
    go_wp2
    go_ret2
    exact ⟨_, 57, ret_vb HQ.out.symm, HB0.out, by rw [HV.out]; exact own_nil _ _ _ _⟩
  have HR := Lib.hid (restL_yes hg)
  have HQ := Lib.hid hg
  have HG := Lib.hid (cntsB_iff.1 hg)
  clear hg
  have HLE := Lib.hid HG.out.len
  have hcf : cs.length ≤ 8 := by have := HG.out.s.eight; have := HLE.out; omega
  go_wp2_with fail
  refine (clone_sl f A c w1 (HF.out.below HB0.out (Nat.le_refl _)) hn).mono ?_
  rintro e w2 ⟨g, cap, rfl, hb2, hg0, hm2, h1, h2⟩
  have HB1 := Lib.hid (HB0.out.trans (hb2.mono HB0.out.size))
  have hg : w.heap.size ≤ g := by have := HB0.out.size; omega
  have HM := Lib.hid hm2
  clear hb2 hm2
  go_wp2
  go_loopw [17] (fun i wr => ∃ k : Nat, k ≤ cs.length ∧ i = .int .i64 (k : Int) ∧ Marked wr g 57 (cap * 2) (flatSl (restK f cs k)) ∧ Below w.heap.size w wr) (fun i _ => cs.length - (intOf i).toNat)
  case atStart => exact ⟨0, Nat.zero_le _, rfl, HM.out, HB1.out⟩
  case round =>
    obtain ⟨k, hk, rfl, hm, hb⟩ := hrel
    by_cases hlt : k < cs.length
    · have hlf : k < f.length := by have := HLE.out; omega
      obtain ⟨b', off', rfl, hbl', hc'⟩ := HC.out (by omega)
      have hc0 := hc' k hlt
      clear hc'
      rw [← hb.cell (p := ⟨b', off' + k, none⟩) hbl'] at hc0
      have hfl : k * 2 + 1 < (flatSl (restK f cs k)).length := by rw [flatSl_len, restK_len]; omega
      have hg1 : wr.cell? ⟨g, k * 2 + 1, none⟩ = some (.int .i64 f[k].cnt) := by
        rw [hm.cellAt hfl, ← List.getElem?_eq_getElem, (flatSl_get _ k (by rw [restK_len]; exact hlf)).2, restK_at hlf]
      have hg2 := hm.freeAt (k * 2 + 1)
      have hgl := hm.lt
      have hbd := HG.out.s.bd hlf
      have hbc := HG.out.c20 hlt hlf
      have HN : Hid (Marked (wr.setCell ⟨g, k * 2 + 1, none⟩ (.int .i64 (f[k].cnt - cs[k]))) g 57 (cap * 2) (flatSl (restK f cs (k + 1)))) := Lib.hid (by rw [restK_flat hlf hlt]; exact hm.put _)
      have HB3 := Lib.hid (hb.setCell (p := ⟨g, k * 2 + 1, none⟩) hg (.int .i64 (f[k].cnt - cs[k])))
      have hkc : (k : Int) < (f.length : Int) := by omega
      clear hm hb hfl
      generalize f[k].cnt = y at *
      generalize cs[k] = x at *
      go_wp2
      go_roundw
      case rel => exact ⟨k + 1, by omega, by go_num, HN.out, HB3.out⟩
      case measure => simp [intOf]; omega
    · obtain rfl : k = cs.length := by omega
      have HMM := Lib.hid hm; have HBB := Lib.hid hb
      clear hm hb
      go_wp2
      go_ret2
      have ho := (HMM.out.own2 (base := w.heap.size) hg (by rw [restK_len]; exact h1) h2)
      rw [HLE.out] at ho
      have e := restK_len f cs f.length
      exact ⟨_, _, ret_vb HQ.out.symm, HBB.out, by rw [HR.out, e]; rw [e] at ho; exact ho⟩
theorem specRestOfStock_any (f : List Sl) (A : Addr) (c : Nat) (cs : List Int) (B : Option Addr) (d : Nat) (w : World) (hf : SlsIn w (some A) f) (hn : f.length ≤ 1048576) (hc : IntsIn w B cs) (hm : cs.length ≤ 1048576) :
    Calls Try.prog 30 #[.slice (some A) f.length c, .slice B cs.length d] w fun e w' => ∃ v T, e = .returned (.tuple #[v, .bool (cntsB f cs)]) ∧ Below w.heap.size w w' ∧ w'.ownsRow w.heap.size T 2 v (restL f cs).length (flatSl (restL f cs)) := by
  have HF := Lib.hid hf; have HC := Lib.hid hc; clear hf hc
  go_enter Try.func30, Try.ntmps30
  go_wp2_with fail
  refine (ruCounts_any f _ c cs B d _ HF.out HC.out hn hm).mono ?_
  rintro e w1 ⟨rfl, hb1⟩
  have HB0 := Lib.hid hb1
  clear hb1
  cases hg : cntsB f cs
  · have HV := Lib.hid (restL_no hg)
    have HQ := Lib.hid hg
    clear hg
    go_wp2
    go_ret2
    exact ⟨_, 57, ret_vb HQ.out.symm, HB0.out, by rw [HV.out]; exact own_nil _ _ _ _⟩
  have HR := Lib.hid (restL_yes hg)
  have HQ := Lib.hid hg
  have HG := Lib.hid (cntsB_iff.1 hg)
  clear hg
  go_wp2_with fail
  refine (ruRest_any f A c cs B d w1 (HF.out.below HB0.out (Nat.le_refl _)) (HC.out.below HB0.out (Nat.le_refl _)) HG.out).mono ?_
  rintro e w2 ⟨g, cap, rfl, hb2, hg0, hm2, h1, h2⟩
  have HB2 := Lib.hid (HB0.out.trans (hb2.mono HB0.out.size))
  have HO := Lib.hid (hm2.own2 (base := w.heap.size) (by have := HB0.out.size; omega) h1 h2)
  clear hb2 hm2
  go_wp2
  go_ret2
  exact ⟨_, _, ret_vb HQ.out.symm, HB2.out, by rw [HR.out]; exact HO.out⟩

theorem own_form_sl {w : World} {base n : Nat} {e : TypeId} {v : Value} {l : List Sl} (h : w.ownsRow base e 2 v n (flatSl l)) : ∃ A c, v = .slice A l.length c := by
  obtain ⟨A, c, h1, _⟩ := own_sl h
  exact ⟨A, c, h1⟩
/-- Marked slips from k on. -/
def markSl (k n : Nat) : List Sl := (List.range n).map fun i => ⟨((k + 2 * i : Nat) : Int), ((k + 2 * i + 1 : Nat) : Int)⟩
theorem markSl_len (k n : Nat) : (markSl k n).length = n := by simp [markSl]
theorem markSl_get (k n i : Nat) (h : i < (markSl k n).length) : (markSl k n)[i] = ⟨((k + 2 * i : Nat) : Int), ((k + 2 * i + 1 : Nat) : Int)⟩ := by simp [markSl]
theorem markSl_succ (k j : Nat) : markSl k (j + 1) = markSl k j ++ [⟨((k + 2 * j : Nat) : Int), ((k + 2 * j + 1 : Nat) : Int)⟩] := by simp [markSl, List.range_succ]
set_option maxRecDepth 100000 in
set_option maxHeartbeats 1000000 in
theorem markSlipS_any (k n base : Nat) (E : TypeId) (v : Value) (xs : List Value) (w : World) (hown : w.ownsRow base E 2 v n xs) (h0 : 1 ≤ k) (hn : k + 2 * n ≤ 16777216) :
    Calls Try.prog 24 #[v, .int .i64 k] w fun e w' => e = .returned (.int .i64 ((k + 2 * n : Nat) : Int)) ∧ w.grownBy w' v.ownBlock ∧ w'.ownsRow base E 2 v n (flatSl (markSl k n)) := by
  rcases hown.2 with ⟨rfl, rfl⟩ | ⟨g, cap, cur, rfl, hg, hh, h1, h2, h3, h4⟩
  · go_enter Try.func24, Try.ntmps24
    go_wp2
    go_loop [1, 5] (fun q i => i = .int .i64 0 ∧ q = .int .i64 k) (fun _ i => 0)
    case atStart => exact ⟨rfl, rfl⟩
    case round =>
      obtain ⟨rfl, rfl⟩ := hrel
      go_wp2
      go_ret
      exact ⟨ret_int (by simp), World.grownBy.refl _ _, own_nil _ _ _ _⟩
  · have hst : Marked w g E (cap * 2) (flatSl (markSl k 0)) := ⟨cur, hh, by simpa using h3, by simp [markSl, flatSl]⟩
    have HST := Lib.hid hst
    clear hst hh h3 h4 hown
    go_enter Try.func24, Try.ntmps24
    go_wp2
    go_loopw [1, 5] (fun q i wr => ∃ (j q0 : Nat), j ≤ n ∧ i = .int .i64 j ∧ q = .int .i64 q0 ∧ q0 = k + 2 * j ∧ Marked wr g E (cap * 2) (flatSl (markSl k j)) ∧ w.grownBy wr (some g)) (fun _ i _ => n - (intOf i).toNat)
    case atStart => exact ⟨0, k, Nat.zero_le _, rfl, rfl, rfl, HST.out, World.grownBy.refl _ _⟩
    case round =>
      obtain ⟨j, q0, hj, rfl, rfl, hq, hm, hgr⟩ := hrel
      have HQ := Lib.hid hq
      by_cases hlt : j < n
      · have hq1 : q0 + 2 ≤ 16777216 := by omega
        have hq2 : 1 ≤ q0 := by omega
        clear hq
        have hl : (flatSl (markSl k j)).length = j * 2 := by rw [flatSl_len, markSl_len]; omega
        obtain ⟨⟨u0, hu0⟩, hfz0⟩ := hm.at_ (j := j * 2) (by omega)
        have m0 : Marked (wr.setCell ⟨g, j * 2, none⟩ (.int .i64 (q0 : Int))) g E (cap * 2) (flatSl (markSl k j) ++ [.int .i64 (q0 : Int)]) := hm.stepAt (j * 2) (by simp only [hl]) (by omega) _
        obtain ⟨⟨u1, hu1⟩, hfz1⟩ := m0.at_ (j := j * 2 + 1) (by omega)
        have m1 : Marked ((wr.setCell ⟨g, j * 2, none⟩ (.int .i64 (q0 : Int))).setCell ⟨g, j * 2 + 1, none⟩ (.int .i64 ((q0 : Int) + 1))) g E (cap * 2) (flatSl (markSl k j) ++ [.int .i64 (q0 : Int)] ++ [.int .i64 ((q0 : Int) + 1)]) := m0.stepAt (j * 2 + 1) (by simp only [List.length_append, List.length_cons, List.length_nil, hl]) (by omega) _
        have HM : Hid (Marked ((wr.setCell ⟨g, j * 2, none⟩ (.int .i64 (q0 : Int))).setCell ⟨g, j * 2 + 1, none⟩ (.int .i64 ((q0 : Int) + 1))) g E (cap * 2) (flatSl (markSl k (j + 1)))) := by
          show Marked _ _ _ _ _
          have hq := HQ.out
          rw [markSl_succ, flatSl_snoc]
          simp only [← hq]
          rw [show ((q0 + 1 : Nat) : Int) = (q0 : Int) + 1 from by omega]
          simpa only [List.append_assoc, List.cons_append, List.nil_append] using m1
        have HG := Lib.hid (grown_set (grown_set hgr (j * 2) (.int .i64 (q0 : Int))) (j * 2 + 1) (.int .i64 ((q0 : Int) + 1)))
        clear hm m0 m1 hl hgr
        go_wp2
        go_roundw
        case rel => exact ⟨j + 1, q0 + 2, by omega, by go_num, by go_num, by have := HQ.out; omega, HM.out, HG.out⟩
        case measure => simp [intOf]; omega
      · obtain rfl : j = n := by omega
        subst hq
        go_wp2
        go_ret
        refine ⟨rfl, hgr, by rw [flatSl_len, markSl_len]; omega, .inr ?_⟩
        obtain ⟨cur', g1, g2, g3⟩ := hm
        exact ⟨g, cap, cur', rfl, hg, g1, h1, h2, by simpa using g2, by rw [flatSl_len, markSl_len, Nat.mul_comm] at g3; exact g3⟩
set_option maxRecDepth 100000 in
theorem heldSlipS_any (k n : Nat) (A : Option Addr) (c : Nat) (w : World) (hf : SlsIn w A (markSl k n)) (h0 : 1 ≤ k) (hn : k + 2 * n ≤ 16777216) :
    Calls Try.prog 32 #[.slice A n c, .int .i64 k] w fun e w' => e = .returned (.int .i64 ((k + 2 * n : Nat) : Int)) ∧ w = w' := by
  have HF := Lib.hid hf; clear hf
  go_enter Try.func32, Try.ntmps32
  go_wp2
  go_loop [1, 5] (fun q i => ∃ (j q0 : Nat), j ≤ n ∧ i = .int .i64 j ∧ q = .int .i64 q0 ∧ q0 = k + 2 * j) (fun _ i => n - (intOf i).toNat)
  case atStart => exact ⟨0, k, Nat.zero_le _, rfl, rfl, rfl⟩
  case round =>
    obtain ⟨j, q0, hj, rfl, rfl, hq⟩ := hrel
    by_cases hlt : j < n
    · obtain ⟨b, off, rfl, hbl, hc⟩ := HF.out (by rw [markSl_len]; omega)
      obtain ⟨hc0, hc1⟩ := hc j (by rw [markSl_len]; exact hlt)
      rw [markSl_get] at hc0 hc1
      simp only [← hq] at hc0 hc1
      rw [show ((q0 + 1 : Nat) : Int) = (q0 : Int) + 1 from by omega] at hc1
      have hq1 : 1 ≤ q0 := by omega
      have hq2 : q0 + 2 ≤ 16777216 := by omega
      have HQ := Lib.hid hq
      have hn0 : ((q0 : Int) != (q0 : Int)) = false := by simp
      have hn1 : ((q0 : Int) + 1 != (q0 : Int) + 1) = false := by simp
      clear hc hq
      go_wp2
      go_round
      case rel => exact ⟨j + 1, q0 + 2, by omega, by go_num, by go_num, by have := HQ.out; omega⟩
      case measure => simp [intOf]; omega
    · obtain rfl : j = n := by omega
      subst hq
      go_wp2
      go_ret
      exact ⟨rfl, rfl⟩
end Go.Proofs.Ytljakcfdjcjdbaa
