/-
  The contracts of spec.l1Own, slices.Clone at ints, and of FirstRunOut, in spec and in impl: each answers what the plain words here say and changes nothing that was there.
-/
import Derived.Test.YtdomccamkiplcaaEnf
import Derived.OwnWalk
import Derived.Maps.AppendAt
import Derived.Deep.RegionLaw
import Derived.Lib.SliceRun
namespace Go.Proofs.Ytdomccamkiplcaa
open Go.RowKit
set_option linter.unusedVariables false

theorem own_noneI (w : World) {g base : Nat} {e : TypeId} (h : w.heap[g]? = some (.cells #[] e (0, 0))) (hb : base ≤ g) : w.ownsRow base e 1 (.slice (some ⟨g, 0, none⟩) 0 0) 0 [] :=
  ⟨rfl, .inr ⟨g, 0, #[], rfl, hb, h, Nat.le_refl _, Nat.zero_le _, rfl, rfl⟩⟩
theorem add_flatI (b off k : Nat) : (⟨b, off, none⟩ : Addr).add k = ⟨b, off + k, none⟩ := by
  unfold Addr.add
  by_cases hk : k = 0 <;> simp [hk]
def OwnTo (w w' : World) (e : Ending) (l : List Int) : Prop := ∃ v, e = .returned v ∧ Below w.heap.size w w' ∧ w'.ownsRow w.heap.size 3 1 v l.length (intsZ l)
theorem intsZ_one (l : List Int) : ∀ u ∈ intsZ l, u.oneCell' = true := by
  intro u hu
  simp only [intsZ, List.mem_map] at hu
  obtain ⟨x, _, rfl⟩ := hu
  rfl
theorem news_ints {w : World} {b off : Nat} {l : List Int} (hc : ∀ k (h : k < l.length), w.cell? ⟨b, off + k, none⟩ = some (.int .i64 l[k])) : ∀ j u, (intsZ l)[j]? = some u → w.cell? ((⟨b, off, none⟩ : Addr).add j) = some u := by
  intro j u hu
  rw [add_flatI]
  have hj : j < l.length := by
    rcases Nat.lt_or_ge j l.length with h | h
    · exact h
    · rw [List.getElem?_eq_none (by rw [intsZ_len]; exact h)] at hu; cases hu
  rw [intsZ_at hj] at hu
  rw [hc j hj]; exact hu

set_option maxRecDepth 100000 in
theorem l1Own_any (l : List Int) (A : Option Addr) (c : Nat) (w : World) (hf : IntsIn w A l) (h0 : 0 < l.length) (hn : l.length ≤ 1048576) :
    Calls Try.prog 52 #[.slice A l.length c] w fun e w' => OwnTo w w' e l := by
  obtain ⟨b, off, rfl, hbl, hc⟩ := hf h0
  obtain ⟨i0, hi, hz0, hz1, hz2⟩ := info_parts info3
  have HI0 := Lib.hid hi; have HZ0 := Lib.hid hz0; have HZ1 := Lib.hid hz1; have HZ2 := Lib.hid hz2
  clear hi hz0 hz1 hz2
  have hc' : ∀ k (h : k < l.length), (w.alloc (.cells #[] 3)).cell? ⟨b, off + k, none⟩ = some (.int .i64 l[k]) := fun k hk => by
    rw [World.cell?_alloc_lt _ _ _ hbl]; exact hc k hk
  have hnews := news_ints hc'
  have hown : (w.alloc (.cells #[] 3)).ownsRow w.heap.size 3 1 (.slice (some ⟨w.heap.size, 0, none⟩) 0 0) 0 [] := own_noneI _ (heap_new _ _) (Nat.le_refl _)
  have HNW := Lib.hid hnews; have HOW := Lib.hid hown
  have hmx : 0 + l.length ≤ maxLen := by unfold maxLen; omega
  clear hc hc' hnews hown hf
  go_enter Try.func52, Try.ntmps52
  go_wp2_with (at_builtin; refine wpList_append_own _ rfl _ _ 24 rfl w.heap.size 3 i0 (.int .i64 0) 1 8 Try.underlying24 HI0.out HZ0.out HZ1.out HZ2.out rfl (by decide) _ _ _ rfl HOW.out ⟨b, off, none⟩ l.length c (intsZ l) rfl (by rw [intsZ_len]; omega) HNW.out (intsZ_one l) hmx (by omega) (by simp) ?_)
  intro v' w4 hown' hgrow _
  have HB1 : Hid (Below w.heap.size w w4) := Lib.hid (((Below.refl _ _).alloc (Nat.le_refl _) _).grown hgrow (by simp) (own_lt HOW.out))
  have HO := Lib.hid hown'
  clear hown' hgrow
  go_wp2
  go_ret
  exact ⟨_, rfl, HB1.out, HO.out⟩
set_option maxRecDepth 100000 in
theorem clone_any (l : List Int) (A : Option Addr) (c : Nat) (w : World) (hf : IntsIn w A l) (h0 : 0 < l.length) (hn : l.length ≤ 1048576) :
    Calls Try.prog 51 #[.slice A l.length c] w fun e w' => OwnTo w w' e l := by
  have qT : ∀ (w : World) (a : Option Addr) (n c n' c' : Nat), (binOp .eql 24 (.slice a n c) (.slice none n' c')).run Try.prog w = .ok (.bool a.isNone) w := fun w a n c n' c' => Lib.run_eql_slice_nil w _ _ a n c n' c' Try.underlying24
  obtain ⟨b, off, rfl, hbl, hc⟩ := hf h0
  obtain ⟨i0, hi, hz0, hz1, hz2⟩ := info_parts info3
  have HI0 := Lib.hid hi; have HZ0 := Lib.hid hz0; have HZ1 := Lib.hid hz1; have HZ2 := Lib.hid hz2
  clear hi hz0 hz1 hz2
  have hc' : ∀ k (h : k < l.length), (w.alloc (.cells #[] 3)).cell? ⟨b, off + k, none⟩ = some (.int .i64 l[k]) := fun k hk => by
    rw [World.cell?_alloc_lt _ _ _ hbl]; exact hc k hk
  have hnews := news_ints hc'
  have hown : (w.alloc (.cells #[] 3)).ownsRow w.heap.size 3 1 (.slice (some ⟨w.heap.size, 0, none⟩) 0 0) 0 [] := own_noneI _ (heap_new _ _) (Nat.le_refl _)
  have HNW := Lib.hid hnews; have HOW := Lib.hid hown
  have hmx : 0 + l.length ≤ maxLen := by unfold maxLen; omega
  clear hc hc' hnews hown hf
  go_enter Try.func51, Try.ntmps51
  go_wp2_with (at_builtin; refine wpList_append_own _ rfl _ _ 24 rfl w.heap.size 3 i0 (.int .i64 0) 1 8 Try.underlying24 HI0.out HZ0.out HZ1.out HZ2.out rfl (by decide) _ _ _ rfl HOW.out ⟨b, off, none⟩ l.length c (intsZ l) rfl (by rw [intsZ_len]; omega) HNW.out (intsZ_one l) hmx (by omega) (by simp) ?_)
  intro v' w4 hown' hgrow _
  have HB1 : Hid (Below w.heap.size w w4) := Lib.hid (((Below.refl _ _).alloc (Nat.le_refl _) _).grown hgrow (by simp) (own_lt HOW.out))
  have HO := Lib.hid hown'
  clear hown' hgrow
  go_wp2
  go_ret
  exact ⟨_, rfl, HB1.out, HO.out⟩

theorem own_marked {w : World} {base n : Nat} {e : TypeId} {v : Value} {xs : List Value} (h : w.ownsRow base e 1 v n xs) (hn : 0 < n) : ∃ g cap, v = .slice (some ⟨g, 0, none⟩) n cap ∧ base ≤ g ∧ n ≤ cap ∧ Marked w g e cap xs := by
  rcases h.2 with ⟨rfl, h0⟩ | ⟨g, cap, cur, rfl, hg, hh, h1, h2, h3, h4⟩
  · omega
  · have hl := h.1
    exact ⟨g, cap, rfl, hg, h1, cur, hh, by simpa using h3, by rw [hl]; exact h4⟩
theorem Marked.put {w : World} {g cap j : Nat} {e : TypeId} {l : List Value} (h : Marked w g e cap l) (u : Value) : Marked (w.setCell ⟨g, j, none⟩ u) g e cap (l.set j u) := by
  obtain ⟨cur, h1, h2, h3⟩ := h
  refine ⟨_, heap_set h1 u, by simpa using h2, ?_⟩
  rw [List.length_set, Array.toList_setIfInBounds, List.take_set, h3]
theorem Marked.cellAt {w : World} {g cap j : Nat} {e : TypeId} {l : List Value} (h : Marked w g e cap l) (hj : j < l.length) : w.cell? ⟨g, j, none⟩ = some l[j] := by
  obtain ⟨cur, h1, h2, h3⟩ := h
  rw [cell_of_heap h1, ← Array.getElem?_toList, ← List.getElem?_eq_getElem hj]
  conv => rhs; rw [← h3]
  rw [List.getElem?_take_of_lt hj]
theorem Marked.freeAt {w : World} {g cap : Nat} {e : TypeId} {l : List Value} (h : Marked w g e cap l) (j : Nat) : w.frozen? ⟨g, j, none⟩ = false := by
  obtain ⟨cur, h1, _⟩ := h
  exact free_of_heap h1 j
theorem Marked.next {w w' : World} {g cap : Nat} {e : TypeId} {l : List Value} (h : Marked w g e cap l) (hb : Below w.heap.size w w') : Marked w' g e cap l := h.below hb
theorem Marked.ltG {w : World} {g cap : Nat} {e : TypeId} {l : List Value} (h : Marked w g e cap l) : g < w.heap.size := by
  obtain ⟨cur, h1, _⟩ := h
  exact lt_of_heap h1

/-- Types are taken one after the other: the first sort of which there is none, or what is left. -/
def runL : List Int → List Nat → Except Nat (List Int)
  | left, [] => .ok left
  | left, i :: r => if left.getD i 0 = 0 then .error i else runL (left.set i (left.getD i 0 - 1)) r
def froF (f : List (ByteArray × Int)) : List Int → Nat → List ByteArray → Option (Nat × Nat)
  | _, _, [] => none
  | left, k, s :: r => match runL left (sg f s) with
    | .error i => some (k, i)
    | .ok left' => froF f left' (k + 1) r
noncomputable def frR (f : List (ByteArray × Int)) (st : List Int) (ws : List ByteArray) : Option (Nat × Nat) := if askB f st ws then froF f st 0 ws else none
theorem fr_no {f : List (ByteArray × Int)} {st : List Int} {ws : List ByteArray} (h : askB f st ws = false) : frR f st ws = none := by unfold frR; rw [h]; rfl
theorem fr_yes {f : List (ByteArray × Int)} {st : List Int} {ws : List ByteArray} (h : askB f st ws = true) : frR f st ws = froF f st 0 ws := by unfold frR; rw [h]; rfl
/-- What is left after the first k words; after j types of the next word. -/
def LeftAt (f : List (ByteArray × Int)) (st : List Int) (ws : List ByteArray) (k : Nat) (left : List Int) : Prop := froF f st 0 ws = froF f left k (ws.drop k) ∧ left.length = f.length ∧ allB 0 100000 left = true
def RunAt (f : List (ByteArray × Int)) (l : List Nat) (L0 : List Int) (j : Nat) (left : List Int) : Prop := runL L0 l = runL left (l.drop j) ∧ left.length = f.length ∧ allB 0 100000 left = true
theorem RunAt.zero {f : List (ByteArray × Int)} {l : List Nat} {L0 : List Int} (h1 : L0.length = f.length) (h2 : allB 0 100000 L0 = true) : RunAt f l L0 0 L0 := ⟨by rw [List.drop_zero], h1, h2⟩
theorem RunAt.stop {f : List (ByteArray × Int)} {l : List Nat} {L0 left : List Int} {j : Nat} (h : RunAt f l L0 j left) (hj : j < l.length) (hz : left.getD l[j] 0 = 0) : runL L0 l = .error l[j] := by
  rw [h.1, List.drop_eq_getElem_cons hj]
  simp only [runL]
  rw [if_pos hz]
theorem allB_set {left : List Int} {i : Nat} {z : Int} (h : allB 0 100000 left = true) (h0 : 0 ≤ z) (h1 : z ≤ 100000) : allB 0 100000 (left.set i z) = true := by
  unfold allB at *
  rw [List.all_eq_true] at *
  intro x hx
  rcases List.mem_or_eq_of_mem_set hx with h2 | rfl
  · exact h x h2
  · simp [inB, h0, h1]
theorem RunAt.next {f : List (ByteArray × Int)} {l : List Nat} {L0 left : List Int} {j : Nat} {z : Int} (h : RunAt f l L0 j left) (hj : j < l.length) (hz : left.getD l[j] 0 = z) (h0 : 0 < z) (h1 : z ≤ 100000) : RunAt f l L0 (j + 1) (left.set l[j] (z - 1)) := by
  refine ⟨?_, by rw [List.length_set]; exact h.2.1, allB_set h.2.2 (by omega) (by omega)⟩
  rw [h.1, List.drop_eq_getElem_cons hj]
  simp only [runL]
  rw [if_neg (by omega), hz]
theorem RunAt.done {f : List (ByteArray × Int)} {l : List Nat} {L0 left : List Int} (h : RunAt f l L0 l.length left) : runL L0 l = .ok left := by
  rw [h.1, List.drop_length]; rfl
theorem LeftAt.stop {f : List (ByteArray × Int)} {st left : List Int} {ws : List ByteArray} {k i : Nat} (h : LeftAt f st ws k left) (hk : k < ws.length) (hr : runL left (sg f ws[k]) = .error i) : froF f st 0 ws = some (k, i) := by
  rw [h.1, List.drop_eq_getElem_cons hk]
  simp only [froF]
  rw [hr]
theorem LeftAt.next {f : List (ByteArray × Int)} {st left left' : List Int} {ws : List ByteArray} {k : Nat} (h : LeftAt f st ws k left) (hk : k < ws.length) (hr : runL left (sg f ws[k]) = .ok left') (h1 : left'.length = f.length) (h2 : allB 0 100000 left' = true) : LeftAt f st ws (k + 1) left' := by
  refine ⟨?_, h1, h2⟩
  rw [h.1, List.drop_eq_getElem_cons hk]
  simp only [froF]
  rw [hr]
theorem LeftAt.done {f : List (ByteArray × Int)} {st left : List Int} {ws : List ByteArray} (h : LeftAt f st ws ws.length left) : froF f st 0 ws = none := by
  rw [h.1, List.drop_length]; rfl
def fr3 (r : Option (Nat × Nat)) : Ending := .returned (.tuple #[.int .i64 (((r.getD (0, 0)).1 : Nat) : Int), .int .i64 (((r.getD (0, 0)).2 : Nat) : Int), .bool r.isSome])
theorem fr3_no {r : Option (Nat × Nat)} (h : r = none) : Ending.returned (.tuple #[.int .i64 0, .int .i64 0, .bool false]) = fr3 r := by subst h; rfl
theorem fr3_yes {r : Option (Nat × Nat)} {k i : Nat} (h : r = some (k, i)) : Ending.returned (.tuple #[.int .i64 (k : Int), .int .i64 (i : Int), .bool true]) = fr3 r := by subst h; rfl
theorem IntsOff.shift {w1 wo : World} {g0 g : Nat} {A : Option Addr} {l : List Int} (h : IntsOff w1 g0 A l) (hb : Below w1.heap.size w1 wo) (hg : w1.heap.size ≤ g) : IntsOff wo g A l := by
  intro hn
  obtain ⟨b, off, rfl, h1, h2, h3⟩ := h hn
  exact ⟨b, off, rfl, by omega, Nat.lt_of_lt_of_le h2 hb.size, fun k hk => (hb.cell (p := ⟨b, off + k, none⟩) h2).trans (h3 k hk)⟩


set_option maxRecDepth 100000 in
set_option maxHeartbeats 1000000 in
theorem specFro_any (f : List (ByteArray × Int)) (A : Option Addr) (c : Nat) (st : List Int) (C : Option Addr) (q : Nat) (ws : List ByteArray) (B : Option Addr) (d : Nat) (lo : Nat) (w : World) (hf : SortsIn w lo A f) (hn : f.length ≤ 1048576) (ho : CodesOk f) (hi : IntsIn w C st) (hq : st.length ≤ 1048576) (hg : StrsIn w B ws) (ho' : StrsOk ws) (hm : ws.length ≤ 1048576) :
    Calls Try.prog 18 #[.slice A f.length c, .slice C st.length q, .slice B ws.length d] w fun e w' => e = fr3 (frR f st ws) ∧ Below w.heap.size w w' := by
  have HF := Lib.hid hf; have HG := Lib.hid hg; have HII := Lib.hid hi
  clear hf hg hi
  go_enter Try.func18, Try.ntmps18
  go_wp2_with fail
  refine (biAsk_any f A c st C q ws B d lo _ HF.out hn ho HII.out hq HG.out ho' hm).mono ?_
  rintro e w1 ⟨rfl, hb1⟩
  clear ho ho'
  cases hv : askB f st ws
  · have HN := Lib.hid (fr_no hv); clear hv
    go_wp2
    go_ret3
    exact ⟨fr3_no HN.out, hb1⟩
  have HY := Lib.hid (fr_yes hv)
  have HV := Lib.hid hv; clear hv
  obtain ⟨hcp, hsk⟩ := askB_parts HV.out
  have HCP := Lib.hid (copy_parts hcp)
  obtain ⟨_, hSl, h32, h1l, _, hSb⟩ := need_stock HV.out
  have HSL := Lib.hid hSl; have HSB := Lib.hid hSb
  have hs0 : 0 < st.length := by omega
  have hw40 := words_40 HCP.out.2.1
  have HI1 := Lib.hid (HII.out.below hb1 (Nat.le_refl _))
  have HB1 := Lib.hid hb1
  clear hcp hsk hb1 hSb hSl
  go_wp2_with fail
  refine (l1Own_any st C q _ HI1.out hs0 hq).mono ?_
  rintro e w2 ⟨v, rfl, hb2, ho2⟩
  obtain ⟨g, cap, rfl, hg1, hcap, hmk⟩ := own_marked ho2 hs0
  have HMK0 := Lib.hid hmk
  have HB2 := Lib.hid (HB1.out.trans (hb2.mono HB1.out.size))
  have hgw : w.heap.size ≤ g := Nat.le_trans HB1.out.size hg1
  have HFIN : Hid (∀ W, Below w.heap.size w W → Below w.heap.size w W) := Lib.hid fun _ h => h
  rw [HSL.out]
  clear hb2 ho2 hmk HI1 HB1 hg1
  go_wp2
  go_loopw [25] (fun i wr => ∃ (k : Nat) (L0 : List Int), k ≤ ws.length ∧ i = .int .i64 k ∧ LeftAt f st ws k L0 ∧ Marked wr g 3 cap (intsZ L0) ∧ Below w.heap.size w wr) (fun i _ => ws.length - (intOf i).toNat)
  case atStart => exact ⟨0, st, Nat.zero_le _, rfl, ⟨by rw [List.drop_zero], HSL.out, HSB.out⟩, HMK0.out, HB2.out⟩
  case round =>
    obtain ⟨k, L0, hk, rfl, hla, hmk, hb⟩ := hrel
    clear HMK0 HB2
    have HLA := Lib.hid hla; have HMK := Lib.hid hmk; have HB := Lib.hid hb
    clear hla hmk hb
    by_cases hlt : k < ws.length
    · obtain ⟨b, off, rfl, hbl, hd⟩ := HG.out (by omega)
      have hd0 := (HB.out.cell (p := ⟨b, off + k, none⟩) hbl).trans (hd k hlt)
      have hsz := words_size HCP.out.2.1 hlt
      have HSW := Lib.hid (HF.out.below HB.out (Nat.le_refl _))
      have HSET := Lib.hid (canB_at hlt HCP.out.2.2)
      have HSG0 : Hid (sg f ws[k] = sg f ws[k]) := Lib.hid rfl
      have HM0 := Lib.hid (sg_mem (f := f) (s := ws[k]))
      have HLG := Lib.hid HMK.out.ltG
      clear hd
      obtain ⟨s, hs⟩ : ∃ s, s = ws[k] := ⟨_, rfl⟩
      rw [← hs] at HSET hsz hd0 HM0
      have HS := Lib.hid hs; clear hs HSG0
      go_wp2_with fail
      refine (tySet_any f A c s lo _ HSW.out HCP.out.1 hsz).mono ?_
      intro e w3 hto
      rw [HSET.out] at hto
      obtain ⟨hb3, v, rfl, hov⟩ := hto
      have ho2 : w3.ownsRow wr.heap.size 3 1 v (intL (sg f s)).length (intsZ (intL (sg f s))) := by rw [intL_len]; rw [ints_Z] at hov; exact hov
      obtain ⟨A1, c1, rfl⟩ := own_form ho2
      have HI := Lib.hid (own_off (g := g) ho2 HLG.out)
      have HSG : Hid (sg f ws[k] = sg f s) := Lib.hid (by rw [HS.out])
      have HBO := Lib.hid (HB.out.trans (hb3.mono HB.out.size))
      have HMK3 := Lib.hid (HMK.out.next hb3)
      have hl16 : (sg f s).length ≤ 16 := sg_len hsz
      rw [intL_len]
      clear hb3 hov ho2 HMK HSW hd0 HSET HLG hsz HS
      have HMK := HMK3; clear HMK3
      obtain ⟨l, hl⟩ : ∃ l, l = sg f s := ⟨_, rfl⟩
      rw [← hl] at HI HSG HM0 hl16 ⊢
      have HM := HM0
      clear hl HM0
      go_wp2
      obtain ⟨wo, hwo⟩ : ∃ wo : World, wo = w3 := ⟨_, rfl⟩
      subst hwo
      go_loopw [38] (fun i wr => ∃ (j : Nat) (left : List Int), j ≤ l.length ∧ i = .int .i64 j ∧ RunAt f l L0 j left ∧ Marked wr g 3 cap (intsZ left) ∧ wo.grownBy wr (some g)) (fun i _ => l.length - (intOf i).toNat)
      case atStart => exact ⟨0, L0, Nat.zero_le _, rfl, RunAt.zero HLA.out.2.1 HLA.out.2.2, HMK.out, World.grownBy.refl _ _⟩
      case round =>
        obtain ⟨j, left, hj, rfl, hra, hmk, hgr⟩ := hrel
        clear HMK
        have HRA := Lib.hid hra; have HMK := Lib.hid hmk; have HGR := Lib.hid hgr
        clear hra hmk hgr
        by_cases hlj : j < l.length
        · obtain ⟨b1, o1, rfl, hne, hb1, hd⟩ := HI.out (by rw [intL_len]; omega)
          have hd0 := hd j (by rw [intL_len]; exact hlj)
          rw [intL_get] at hd0
          have hd1 := (cell_grown HGR.out hne hb1).trans hd0
          have hil := HM.out _ (List.getElem_mem hlj)
          have hlL : l[j] < left.length := by rw [HRA.out.2.1]; exact hil
          have hcell := HMK.out.cellAt (j := l[j]) (by rw [intsZ_len]; exact hlL)
          have hce : (intsZ left)[l[j]]'(by rw [intsZ_len]; exact hlL) = .int .i64 left[l[j]] := by simp [intsZ]
          rw [hce] at hcell
          have hfr := HMK.out.freeAt l[j]
          have hz := allB_at hlL HRA.out.2.2
          have HST : Hid (left[l[j]] = 0 → runL L0 l = .error l[j]) := Lib.hid fun h => HRA.out.stop hlj (by rw [getD_of hlL]; exact h)
          have HNX : Hid (0 < left[l[j]] → RunAt f l L0 (j + 1) (left.set l[j] (left[l[j]] - 1))) := Lib.hid fun h => HRA.out.next hlj (by rw [getD_of hlL]) h hz.2
          have HPT := Lib.hid (HMK.out.put (j := l[j]) (.int .i64 (left[l[j]] - 1)))
          rw [intsZ_set] at HPT
          clear hd hd0 hne hb1 hce HRA
          generalize hgz : left[l[j]] = z at *
          clear hgz
          generalize l[j] = i at *
          have HG2 := Lib.hid (grown_set HGR.out i (.int .i64 (z - 1)))
          by_cases hz0 : z = 0
          · have hzb : (z == 0) = true := by simp [hz0]
            have HE := Lib.hid (HLA.out.stop hlt (by rw [HSG.out]; exact HST.out hz0))
            have HZ0 := Lib.hid hz0
            have HBW := Lib.hid (HBO.out.grown HGR.out HBO.out.size (fun k hk => by have e : g = k := Option.some.inj hk; omega))
            clear hz0 HST HNX HPT HG2 HGR HMK
            go_wp2
            go_ret3
            exact ⟨fr3_yes (by rw [HY.out]; exact HE.out), HFIN.out _ HBW.out⟩
          · have hzb : (z == 0) = false := by simp [hz0]
            have hzp : 0 < z := by omega
            have HNX1 := Lib.hid (HNX.out hzp)
            clear hz0 HST HNX HGR HMK
            go_wp2
            go_roundw
            case rel => exact ⟨j + 1, _, by omega, by go_num, HNX1.out, HPT.out, HG2.out⟩
            case measure => simp [intOf]; omega
        · obtain rfl : j = l.length := by omega
          have HE := Lib.hid (HLA.out.next hlt (by rw [HSG.out]; exact HRA.out.done) HRA.out.2.1 HRA.out.2.2)
          have HBW := Lib.hid (HBO.out.grown HGR.out HBO.out.size (fun k hk => by have e : g = k := Option.some.inj hk; omega))
          clear HRA HGR
          go_wp2
          go_roundw
          case rel => exact ⟨k + 1, left, by omega, by go_num, HE.out, HMK.out, HBW.out⟩
          case measure => simp [intOf]; omega
    · obtain rfl : k = ws.length := by omega
      have HE := Lib.hid HLA.out.done
      go_wp2
      go_ret3
      exact ⟨fr3_no (by rw [HY.out]; exact HE.out), HFIN.out _ HB.out⟩

set_option maxRecDepth 100000 in
set_option maxHeartbeats 1000000 in
theorem implFro_any (f : List (ByteArray × Int)) (A : Option Addr) (c : Nat) (st : List Int) (C : Option Addr) (q : Nat) (ws : List ByteArray) (B : Option Addr) (d : Nat) (lo : Nat) (w : World) (hf : SortsIn w lo A f) (hn : f.length ≤ 1048576) (ho : CodesOk f) (hi : IntsIn w C st) (hq : st.length ≤ 1048576) (hg : StrsIn w B ws) (ho' : StrsOk ws) (hm : ws.length ≤ 1048576) :
    Calls Try.prog 17 #[.slice A f.length c, .slice C st.length q, .slice B ws.length d] w fun e w' => e = fr3 (frR f st ws) ∧ Below w.heap.size w w' := by
  have HII := Lib.hid hi
  clear hi
  go_enter Try.func17, Try.ntmps17
  go_wp2_with fail
  refine (setCopy_any f A c ws B d lo _ hf hn ho hg ho' hm).mono ?_
  intro e w1 hto
  clear hf ho hg ho'
  obtain ⟨hb1, hto⟩ := hto
  cases hcp : copyB f ws
  · rw [copyR_no hcp] at hto
    obtain rfl := hto
    have HN := Lib.hid (fr_no (askB_no (st := st) (.inl hcp)))
    clear hcp
    go_wp2
    go_ret3
    exact ⟨fr3_no HN.out, hb1⟩
  rw [copyR_yes hcp] at hto
  obtain ⟨g0, rfl, hg0, hsi⟩ := hto
  have HSI := Lib.hid hsi
  have HB1 := Lib.hid hb1
  have HC := Lib.hid (HII.out.below hb1 (Nat.le_refl _))
  have HCPY := Lib.hid hcp
  clear hcp hsi hb1
  have hml : (ws.map (sg f)).length = ws.length := by simp
  rw [hml] at HSI ⊢
  clear hml
  cases hsk : stockB f st
  · have HN := Lib.hid (fr_no (askB_no (ws := ws) (.inr hsk)))
    have HK := Lib.hid hsk; clear hsk
    go_wp2_with fail
    refine (implStock_is f A c st C q false _ HC.out hn hq HK).mono ?_
    rintro e w2 ⟨rfl, rfl⟩
    go_wp2
    go_ret3
    exact ⟨fr3_no HN.out, HB1.out⟩
  have HV : Hid (askB f st ws = true) := Lib.hid (by unfold askB; rw [HCPY.out, hsk]; rfl)
  have HK := Lib.hid hsk; clear hsk
  go_wp2_with fail
  refine (implStock_is f A c st C q true _ HC.out hn hq HK).mono ?_
  rintro e w2 ⟨rfl, rfl⟩
  have HY := Lib.hid (fr_yes HV.out)
  have HCP := Lib.hid (copy_parts HCPY.out)
  obtain ⟨_, hSl, h32, h1l, _, hSb⟩ := need_stock HV.out
  have HSL := Lib.hid hSl; have HSB := Lib.hid hSb
  have hs0 : 0 < st.length := by omega
  have hw40 := words_40 HCP.out.2.1
  clear hSb hSl
  go_wp2_with fail
  refine (clone_any st C q _ HC.out hs0 hq).mono ?_
  rintro e w2 ⟨v, rfl, hb2, ho2⟩
  obtain ⟨g, cap, rfl, hg1, hcap, hmk⟩ := own_marked ho2 hs0
  have HMK0 := Lib.hid hmk
  have HB2 := Lib.hid hb2
  have HFIN : Hid (∀ W, Below w1.heap.size w1 W → Below w.heap.size w W) := Lib.hid fun _ h => HB1.out.trans (h.mono HB1.out.size)
  rw [HSL.out]
  clear hb2 ho2 hmk HB1
  go_wp2
  go_loopw [34] (fun i wr => ∃ (k : Nat) (L0 : List Int), k ≤ ws.length ∧ i = .int .i64 k ∧ LeftAt f st ws k L0 ∧ Marked wr g 3 cap (intsZ L0) ∧ Below w1.heap.size w1 wr) (fun i _ => ws.length - (intOf i).toNat)
  case atStart => exact ⟨0, st, Nat.zero_le _, rfl, ⟨by rw [List.drop_zero], HSL.out, HSB.out⟩, HMK0.out, HB2.out⟩
  case round =>
    obtain ⟨k, L0, hk, rfl, hla, hmk, hb⟩ := hrel
    clear HMK0 HB2
    have HLA := Lib.hid hla; have HMK := Lib.hid hmk; have HB := Lib.hid hb
    clear hla hmk hb
    by_cases hlt : k < ws.length
    · obtain ⟨vs, hvo, hvl, hvs⟩ := HSI.out
      obtain ⟨A1, c1, hv1, hi1⟩ := hvs k (by simpa using hlt)
      have hd0 : w1.cell? ⟨g0, k, none⟩ = some (.slice A1 (sg f ws[k]).length c1) := by rw [hvo.cell, hv1]; simp
      have hbl := hvo.lt
      have hi1' : IntsOff w1 g0 A1 (intL (sg f ws[k])) := by simpa using hi1
      have HI := Lib.hid (hi1'.shift HB.out hg1)
      rw [← HB.out.cell (p := ⟨g0, k, none⟩) hbl] at hd0
      have HM0 := Lib.hid (sg_mem (f := f) (s := ws[k]))
      have HSG0 : Hid (∀ x, x = sg f ws[k] → sg f ws[k] = x) := Lib.hid fun _ h => h.symm
      have HBO := HB
      have hgw := hg1
      clear hvo hvl hvs hv1 hi1 hi1'
      obtain ⟨l, hl⟩ : ∃ l, l = sg f ws[k] := ⟨_, rfl⟩
      have HSG := Lib.hid (HSG0.out l hl)
      rw [← hl] at HI HM0 hd0
      have HM := HM0
      clear hl HM0 HSG0
      have hl16 : l.length ≤ 16 := by rw [← HSG.out]; exact sg_len (words_size HCP.out.2.1 hlt)
      go_wp2
      obtain ⟨wo, hwo⟩ : ∃ wo : World, wo = wr := ⟨_, rfl⟩
      subst hwo
      go_loopw [41] (fun i wr => ∃ (j : Nat) (left : List Int), j ≤ l.length ∧ i = .int .i64 j ∧ RunAt f l L0 j left ∧ Marked wr g 3 cap (intsZ left) ∧ wo.grownBy wr (some g)) (fun i _ => l.length - (intOf i).toNat)
      case atStart => exact ⟨0, L0, Nat.zero_le _, rfl, RunAt.zero HLA.out.2.1 HLA.out.2.2, HMK.out, World.grownBy.refl _ _⟩
      case round =>
        obtain ⟨j, left, hj, rfl, hra, hmk, hgr⟩ := hrel
        clear HMK
        have HRA := Lib.hid hra; have HMK := Lib.hid hmk; have HGR := Lib.hid hgr
        clear hra hmk hgr
        by_cases hlj : j < l.length
        · obtain ⟨b1, o1, rfl, hne, hb1, hd⟩ := HI.out (by rw [intL_len]; omega)
          have hd0 := hd j (by rw [intL_len]; exact hlj)
          rw [intL_get] at hd0
          have hd1 := (cell_grown HGR.out hne hb1).trans hd0
          have hil := HM.out _ (List.getElem_mem hlj)
          have hlL : l[j] < left.length := by rw [HRA.out.2.1]; exact hil
          have hcell := HMK.out.cellAt (j := l[j]) (by rw [intsZ_len]; exact hlL)
          have hce : (intsZ left)[l[j]]'(by rw [intsZ_len]; exact hlL) = .int .i64 left[l[j]] := by simp [intsZ]
          rw [hce] at hcell
          have hfr := HMK.out.freeAt l[j]
          have hz := allB_at hlL HRA.out.2.2
          have HST : Hid (left[l[j]] = 0 → runL L0 l = .error l[j]) := Lib.hid fun h => HRA.out.stop hlj (by rw [getD_of hlL]; exact h)
          have HNX : Hid (0 < left[l[j]] → RunAt f l L0 (j + 1) (left.set l[j] (left[l[j]] - 1))) := Lib.hid fun h => HRA.out.next hlj (by rw [getD_of hlL]) h hz.2
          have HPT := Lib.hid (HMK.out.put (j := l[j]) (.int .i64 (left[l[j]] - 1)))
          rw [intsZ_set] at HPT
          clear hd hd0 hne hb1 hce HRA
          generalize hgz : left[l[j]] = z at *
          clear hgz
          generalize l[j] = i at *
          have HG2 := Lib.hid (grown_set HGR.out i (.int .i64 (z - 1)))
          by_cases hz0 : z = 0
          · have hzb : (z == 0) = true := by simp [hz0]
            have HE := Lib.hid (HLA.out.stop hlt (by rw [HSG.out]; exact HST.out hz0))
            have HZ0 := Lib.hid hz0
            have HBW := Lib.hid (HBO.out.grown HGR.out HBO.out.size (fun k hk => by have e : g = k := Option.some.inj hk; omega))
            clear hz0 HST HNX HPT HG2 HGR HMK
            go_wp2
            go_ret3
            exact ⟨fr3_yes (by rw [HY.out]; exact HE.out), HFIN.out _ HBW.out⟩
          · have hzb : (z == 0) = false := by simp [hz0]
            have hzp : 0 < z := by omega
            have HNX1 := Lib.hid (HNX.out hzp)
            clear hz0 HST HNX HGR HMK
            go_wp2
            go_roundw
            case rel => exact ⟨j + 1, _, by omega, by go_num, HNX1.out, HPT.out, HG2.out⟩
            case measure => simp [intOf]; omega
        · obtain rfl : j = l.length := by omega
          have HE := Lib.hid (HLA.out.next hlt (by rw [HSG.out]; exact HRA.out.done) HRA.out.2.1 HRA.out.2.2)
          have HBW := Lib.hid (HBO.out.grown HGR.out HBO.out.size (fun k hk => by have e : g = k := Option.some.inj hk; omega))
          clear HRA HGR
          go_wp2
          go_roundw
          case rel => exact ⟨k + 1, left, by omega, by go_num, HE.out, HMK.out, HBW.out⟩
          case measure => simp [intOf]; omega
    · obtain rfl : k = ws.length := by omega
      have HE := Lib.hid HLA.out.done
      go_wp2
      go_ret3
      exact ⟨fr3_no (by rw [HY.out]; exact HE.out), HFIN.out _ HB.out⟩
theorem specFro_is (f : List (ByteArray × Int)) (A : Option Addr) (c : Nat) (st : List Int) (C : Option Addr) (q : Nat) (ws : List ByteArray) (B : Option Addr) (d : Nat) (lo : Nat) (w : World) (hf : SortsIn w lo A f) (hn : f.length ≤ 1048576) (ho : CodesOk f) (hi : IntsIn w C st) (hq : st.length ≤ 1048576) (hg : StrsIn w B ws) (ho' : StrsOk ws) (hm : ws.length ≤ 1048576) :
    Calls Try.prog 18 #[.slice A f.length c, .slice C st.length q, .slice B ws.length d] w fun e w' => e = .returned (.tuple #[.int .i64 ((((frR f st ws).getD (0, 0)).1 : Nat) : Int), .int .i64 ((((frR f st ws).getD (0, 0)).2 : Nat) : Int), .bool (frR f st ws).isSome]) ∧ Below w.heap.size w w' :=
  specFro_any f A c st C q ws B d lo w hf hn ho hi hq hg ho' hm
theorem implFro_is (f : List (ByteArray × Int)) (A : Option Addr) (c : Nat) (st : List Int) (C : Option Addr) (q : Nat) (ws : List ByteArray) (B : Option Addr) (d : Nat) (lo : Nat) (w : World) (hf : SortsIn w lo A f) (hn : f.length ≤ 1048576) (ho : CodesOk f) (hi : IntsIn w C st) (hq : st.length ≤ 1048576) (hg : StrsIn w B ws) (ho' : StrsOk ws) (hm : ws.length ≤ 1048576) :
    Calls Try.prog 17 #[.slice A f.length c, .slice C st.length q, .slice B ws.length d] w fun e w' => e = .returned (.tuple #[.int .i64 ((((frR f st ws).getD (0, 0)).1 : Nat) : Int), .int .i64 ((((frR f st ws).getD (0, 0)).2 : Nat) : Int), .bool (frR f st ws).isSome]) ∧ Below w.heap.size w w' :=
  implFro_any f A c st C q ws B d lo w hf hn ho hi hq hg ho' hm
end Go.Proofs.Ytdomccamkiplcaa
