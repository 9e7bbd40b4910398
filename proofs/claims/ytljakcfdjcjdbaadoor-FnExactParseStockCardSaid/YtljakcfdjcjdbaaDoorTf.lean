/-
  The contracts of impl.parseSlip, parseEntries and ParseStock, given the library's tables, its two sentinels and the variable that strings.Cut reads.
-/
import Derived.Test.YtljakcfdjcjdbaaDoorTe
import Derived.OwnWalk
import Derived.Maps.AppendAt
namespace Go.Proofs.YtljakcfdjcjdbaaDoor
open Go.RowKit Go.Proofs.YtljakcfdjcjdbaaDoor.T1
set_option linter.unusedVariables false

theorem Sent.below {w w' : World} {g : Nat} (h : Sent w g) (hb : Below w.heap.size w w') : Sent w' g := by
  obtain ⟨ev, h1, h2⟩ := h
  refine ⟨ev, (hb.cell (p := ⟨g, 0, none⟩) ?_).trans h1, h2⟩
  show g < w.heap.size
  rcases Nat.lt_or_ge g w.heap.size with h' | h'
  · exact h'
  · simp only [World.cell?, Array.getElem?_eq_none h'] at h1; cases h1
/-- What the library's readers ask of a world. -/
def LayP (w : World) : Prop := Tab w ∧ Sent w 2 ∧ Sent w 3 ∧ MaxL w
theorem LayP.below {w w' : World} (h : LayP w) (hb : Below w.heap.size w w') : LayP w' := ⟨h.1.below hb, Sent.below h.2.1 hb, Sent.below h.2.2.1 hb, h.2.2.2.below hb⟩
theorem heap_two (w : World) (a b : Obj) : ((w.alloc a).alloc b).heap[w.heap.size + 1]? = some b := by
  have h := heap_new (w.alloc a) b
  have e : (w.alloc a).heap.size = w.heap.size + 1 := by simp
  rw [e] at h; exact h
def cutC (p a r : ByteArray) : Prop := CutIs 120 p a r
def SlipTo (p : ByteArray) (w w' : World) (e : Ending) : Prop := ∃ a r, CutIs 120 p a r ∧ e = .returned (.tuple #[.agg #[.int .i64 (decP r).1, .int .i64 (decP a).1], .bool ((decP a).2 && (decP r).2)]) ∧ Below w.heap.size w w'
theorem cutX_any (c : UInt8) (s : ByteArray) (w : World) (hs : s.size ≤ 1048576) (hm : MaxL w) :
    Calls Tryd.prog 33 #[.string s, .string (sepB c)] w fun e w' => ∃ a r b, e = .returned (.tuple #[.string a, .string r, .bool b]) ∧ CutIs c s a r ∧ a.size ≤ s.size ∧ r.size ≤ s.size ∧ Below w.heap.size w w' := by
  refine (cut_any c s w hs hm).mono ?_
  rintro e w' ⟨h, hb⟩
  rcases h with ⟨h1, rfl⟩ | ⟨p, r, h1, h2, rfl⟩
  · exact ⟨_, _, _, rfl, .inl ⟨h1, rfl, rfl⟩, Nat.le_refl _, Nat.zero_le _, hb⟩
  · exact ⟨_, _, _, rfl, .inr h1, by omega, by omega, hb⟩
set_option maxRecDepth 100000 in
set_option maxHeartbeats 2000000 in
theorem parseSlip_any (p : ByteArray) (w : World) (hs : p.size ≤ 1048576) (hy : LayP w) :
    Calls Tryd.prog 27 #[.string p] w fun e w' => SlipTo p w w' e := by
  have HY := Lib.hid hy; clear hy
  have HCUT : Hid (∀ W : World, MaxL W → Calls Tryd.prog 33 #[.string p, .string ⟨#[120]⟩] W fun e w' => ∃ a r b, e = .returned (.tuple #[.string a, .string r, .bool b]) ∧ CutIs 120 p a r ∧ a.size ≤ p.size ∧ r.size ≤ p.size ∧ Below W.heap.size W w') := Lib.hid (fun W h => cutX_any 120 p W hs h)
  obtain ⟨w0, hw0⟩ : ∃ x : World, x = w.alloc (.cells #[.int .i64 0, .int .i64 0] 37) := ⟨_, rfl⟩
  have HG0 : Hid (w0.heap[w.heap.size]? = some (.cells #[.int .i64 0, .int .i64 0] 37 (0, 0))) := Lib.hid (by rw [hw0]; exact heap_new _ _)
  have HB0 : Hid (Below w.heap.size w w0) := Lib.hid (by rw [hw0]; exact (Below.refl _ _).alloc (Nat.le_refl _) _)
  have HY0 := Lib.hid (HY.out.below HB0.out)
  have HW0 := Lib.hid hw0; clear hw0
  go_enter Tryd.func27, Tryd.ntmps27
  go_wp2_with fail
  rw [← HW0.out]
  refine (HCUT.out _ HY0.out.2.2.2).mono ?_
  rintro e w1 ⟨a, r, b, rfl, hcut, ha, hr, hb⟩
  have HC := Lib.hid hcut
  have HG1 := Lib.hid ((hb.block _ (lt_of_heap HG0.out)).trans HG0.out)
  have HB1 := Lib.hid (HB0.out.trans (hb.mono HB0.out.size))
  have HY1 := Lib.hid (HY0.out.below hb)
  clear hb hcut HCUT HG0 HB0 HY0 HW0
  go_wp2_with fail
  refine (parseDec_any a _ (by omega) HY1.out.1 HY1.out.2.1 HY1.out.2.2.1).mono ?_
  rintro e w2 ⟨rfl, hb⟩
  have HG2 := Lib.hid ((hb.block _ (lt_of_heap HG1.out)).trans HG1.out)
  have HB2 := Lib.hid (HB1.out.trans (hb.mono HB1.out.size))
  have HY2 := Lib.hid (HY1.out.below hb)
  clear hb HG1 HB1 HY1
  go_wp2_with fail
  refine (parseDec_any r _ (by omega) HY2.out.1 HY2.out.2.1 HY2.out.2.2.1).mono ?_
  rintro e w3 ⟨rfl, hb⟩
  have HG3 := Lib.hid ((hb.block _ (lt_of_heap HG2.out)).trans HG2.out)
  have HB3 := Lib.hid (HB2.out.trans (hb.mono HB2.out.size))
  clear hb HG2 HB2 HY2
  have HEND : Hid (∀ W, Below w.heap.size w W → SlipTo p w W (.returned (.tuple #[.agg #[.int .i64 (decP r).1, .int .i64 (decP a).1], .bool ((decP a).2 && (decP r).2)]))) := Lib.hid (fun W h => ⟨a, r, HC.out, rfl, h⟩)
  generalize (decP a).1 = ca at *
  generalize (decP r).1 = cl at *
  generalize (decP a).2 = ba at *
  generalize (decP r).2 = br at *
  have hh := HG3.out
  have hltB := lt_of_heap hh
  have c0 := (cell_of_heap hh 0).trans (show _ = some (Value.int .i64 0) from rfl)
  have c1 := (cell_of_heap hh 1).trans (show _ = some (Value.int .i64 0) from rfl)
  have f0 := free_of_heap hh 0; have f1 := free_of_heap hh 1
  have h1 := heap_set hh (i := 0) (.int .i64 cl)
  have h2 := heap_set h1 (i := 1) (.int .i64 ca)
  have HE0 := Lib.hid ((cell_of_heap h2 0).trans (show _ = some (Value.int .i64 cl) from rfl))
  have HE1 := Lib.hid ((cell_of_heap h2 1).trans (show _ = some (Value.int .i64 ca) from rfl))
  have HBZ := Lib.hid ((HB3.out.setCell (p := ⟨w.heap.size, 0, none⟩) (Nat.le_refl _) (.int .i64 cl)).setCell (p := ⟨w.heap.size, 1, none⟩) (Nat.le_refl _) (.int .i64 ca))
  clear hh h1 h2
  cases ba
  · go_wp2_with fail
    refine bodyPost_ret (v := .tuple #[.agg #[.int .i64 cl, .int .i64 ca], .bool false]) (by simp [results, Tryd.results27, go_sem, HE0.out, HE1.out]) rfl ?_
    exact HEND.out _ HBZ.out
  · go_wp2_with fail
    refine bodyPost_ret (v := .tuple #[.agg #[.int .i64 cl, .int .i64 ca], .bool br]) (by simp [results, Tryd.results27, go_sem, HE0.out, HE1.out]) rfl ?_
    exact HEND.out _ HBZ.out
def EntTo (s : ByteArray) (w w' : World) (e : Ending) : Prop := (∃ F v E, e = .returned (.tuple #[v, .bool true]) ∧ Below w.heap.size w w' ∧ w'.ownsRow w.heap.size 37 2 v F.length (flatSl F) ∧ pcs 32 s = E ++ [⟨#[]⟩] ∧ Rels E F ∧ F.length ≤ 8) ∨ (e = .returned (.tuple #[.slice none 0 0, .bool false]) ∧ Below w.heap.size w w' ∧ ¬ ParsB s)
theorem run_len_own {w : World} {base n : Nat} {e : TypeId} {v : Value} {l : List Sl} {ty : TypeId} {W : World} (h : w.ownsRow base e 2 v n (flatSl l)) : (Builtin.len_ #[26] ty #[v]).run Tryd.prog W = .ok (.int .i64 (l.length : Int)) W := by
  obtain ⟨A, c, rfl⟩ := own_form_sl h
  simp [Builtin.len_, run_underlying (P := Tryd.prog) Tryd.underlying26, go_sem]
def strL : Value → Nat | .string s => s.size | _ => 0
theorem rel_of {p a r : ByteArray} (hc : CutIs 120 p a r) (h1 : (decP a).2 = true) (h2 : (decP r).2 = true) : Rel p ⟨(decP r).1, (decP a).1⟩ := ⟨a, r, hc, Prod.ext rfl h1, Prod.ext rfl h2⟩
set_option maxRecDepth 100000 in
set_option maxHeartbeats 2000000 in
theorem parseEntries_any (s : ByteArray) (w : World) (hs : s.size ≤ 1048576) (hy : LayP w) :
    Calls Tryd.prog 26 #[.string s, .string ⟨#[32]⟩, .int .i64 8, .func (.func 27) #[] #[]] w fun e w' => EntTo s w w' e := by
  have HY := Lib.hid hy; clear hy
  obtain ⟨i0, hi, hz0, hz1, hz2⟩ := info_parts infoSl
  have HI0 := Lib.hid hi; have HZ0 := Lib.hid hz0; have HZ1 := Lib.hid hz1; have HZ2 := Lib.hid hz2
  clear hi hz0 hz1 hz2
  go_enter Tryd.func26, Tryd.ntmps26
  go_wp2
  go_loopw [10, 11] (fun fv rv wr => ∃ (R : ByteArray) (E : List ByteArray) (F : List Sl), rv = .string R ∧ R.size ≤ s.size ∧ pcs 32 s = E ++ pcs 32 R ∧ Rels E F ∧ F.length ≤ 8 ∧ wr.ownsRow w.heap.size 37 2 fv F.length (flatSl F) ∧ Below w.heap.size w wr) (fun _ rv _ => strL rv)
  case atStart => exact ⟨s, [], [], rfl, Nat.le_refl _, rfl, .nil, by simp, own_nil _ _ _ _, Below.refl _ _⟩
  case round =>
    obtain ⟨R, E, F, rfl, hRs, hinv, hrel, hF, hown, hb⟩ := hrel
    have HIV := Lib.hid hinv; have HRE := Lib.hid hrel; have HO := Lib.hid hown; have HB := Lib.hid hb
    have HRS := Lib.hid hRs; have HFL := Lib.hid hF
    clear hinv hrel hown hb hRs hF
    have HYr := Lib.hid (HY.out.below HB.out)
    by_cases hR : R.size = 0
    · obtain rfl : R = ⟨#[]⟩ := ba_ext (List.eq_nil_of_length_eq_zero (by rw [Array.length_toList]; exact hR))
      have HP : Hid (pcs 32 s = E ++ [⟨#[]⟩]) := Lib.hid (by rw [HIV.out, pcs_empty])
      clear hR HIV
      go_wp2
      go_ret2
      exact .inl ⟨F, _, E, rfl, HB.out, HO.out, HP.out, HRE.out, HFL.out⟩
    have hRe : R.toList.isEmpty = false := str_none hR
    have HCUT : Hid (∀ W : World, MaxL W → Calls Tryd.prog 33 #[.string R, .string ⟨#[32]⟩] W fun e w' => CutTo 32 R e ∧ Below W.heap.size W w') := Lib.hid (fun W h => cut_any 32 R W (by have := HRS.out; omega) h)
    have HPS : Hid (∀ (p : ByteArray) (W : World), p.size ≤ 1048576 → LayP W → Calls Tryd.prog 27 #[.string p] W fun e w' => SlipTo p W w' e) := Lib.hid (fun p W h hl => parseSlip_any p W h hl)
    go_wp2_with fail
    refine (HCUT.out _ HYr.out.2.2.2).mono ?_
    rintro e w2 ⟨hcut, hb2⟩
    have HB2 : Hid (Below w.heap.size w w2) := Lib.hid (HB.out.trans (hb2.mono HB.out.size))
    have HO2 := Lib.hid (own_below HO.out hb2)
    have HY2 := Lib.hid (HYr.out.below hb2)
    clear hb2 HB HO HYr HCUT
    rcases hcut with ⟨hm, rfl⟩ | ⟨p, r, hh, hsz, rfl⟩
    · have HN : Hid (¬ ParsB s) := Lib.hid (ps_miss HIV.out hm hR)
      clear hm
      go_wp2_with fail
      refine (HPS.out R _ (by have := HRS.out; omega) HY2.out).mono ?_
      rintro e w3 ⟨x, y, hcx, rfl, hb3⟩
      have HB3 : Hid (Below w.heap.size w w3) := Lib.hid (HB2.out.trans (hb3.mono HB2.out.size))
      clear hb3 hcx
      generalize (decP x).1 = x1 at *
      generalize (decP y).1 = y1 at *
      generalize ((decP x).2 && (decP y).2) = b1 at *
      go_wp2
      go_ret2
      exact .inr ⟨rfl, HB3.out.alloc HB3.out.size _, HN.out⟩
    · have HH := Lib.hid hh; clear hh
      have HSZ := Lib.hid hsz; clear hsz
      go_wp2_with fail
      refine (HPS.out p _ (by have := HRS.out; have := HSZ.out; omega) HY2.out).mono ?_
      rintro e w3 ⟨x, y, hcx, rfl, hb3⟩
      have HB3 : Hid (Below w.heap.size w w3) := Lib.hid (HB2.out.trans (hb3.mono HB2.out.size))
      have HO3 := Lib.hid (own_below HO2.out hb3)
      have HCX := Lib.hid hcx
      clear hb3 HB2 HO2 HY2 hcx
      cases hok : ((decP x).2 && (decP y).2)
      · have HN : Hid (¬ ParsB s) := Lib.hid (ps_bad HIV.out HH.out HCX.out hok)
        clear hok
        generalize (decP x).1 = x1 at *
        generalize (decP y).1 = y1 at *
        go_wp2
        go_ret2
        exact .inr ⟨rfl, HB3.out.alloc HB3.out.size _, HN.out⟩
      have HRL : Hid (Rel p ⟨(decP y).1, (decP x).1⟩) := Lib.hid (by
        have h := hok
        simp only [Bool.and_eq_true] at h
        exact rel_of HCX.out h.1 h.2)
      clear hok HCX
      generalize (decP x).1 = c at *
      generalize (decP y).1 = z at *
      have HBb : Hid (Below w.heap.size w (w3.alloc (.cells #[.int .i64 z, .int .i64 c] 37))) := Lib.hid (HB3.out.alloc HB3.out.size _)
      have hlen := fun ty W => run_len_own (ty := ty) (W := W) HO3.out
      by_cases h8 : F.length = 8
      · have HN : Hid (¬ ParsB s) := Lib.hid (ps_full HIV.out HH.out HRE.out h8)
        have h8' : (F.length : Int) = 8 := by omega
        have h8b : ((F.length : Int) == 8) = true := by simp [h8']
        clear h8
        go_wp2
        go_ret2
        exact .inr ⟨rfl, HBb.out, HN.out⟩
      have HST : Hid (pcs 32 s = (E ++ [p]) ++ pcs 32 r) := Lib.hid (by rw [HIV.out, HH.out]; simp)
      have HRN : Hid (Rels (E ++ [p]) (F ++ [⟨z, c⟩])) := Lib.hid (.snoc HRE.out HRL.out)
      have HSN := Lib.hid (flatSl_snoc F (⟨z, c⟩ : Sl))
      have h8' : ¬ (F.length : Int) = 8 := by omega
      have h8b : ((F.length : Int) == 8) = false := by simp; omega
      have hown := HO3.out
      have hsw := HB3.out.size
      have hmx : F.length + 1 ≤ maxLen := by have := HFL.out; unfold maxLen; omega
      have hfl := HFL.out
      go_wp2_with (at_builtin; go_loud (refine wpList_append_own _ rfl _ _ 26 rfl w.heap.size 37 i0 (.agg #[.int .i64 0, .int .i64 0]) 2 16 Tryd.underlying26 HI0.out HZ0.out HZ1.out HZ2.out rfl (by decide) _ _ _ rfl ((hown.alloc _).alloc _) ⟨w3.heap.size + 1, 0, none⟩ 1 1 [.int .i64 z, .int .i64 c] rfl rfl (pair_new _ (heap_two w3 _ _)) (by simp [Value.oneCell']) hmx (by omega) (by simp; omega) ?_))
      intro v' w4 hown' hgrow _
      have HB4 : Hid (Below w.heap.size w w4) := Lib.hid (((HBb.out.alloc HBb.out.size _).grown hgrow (by have := HB3.out.size; simp; omega) (own_lt hown)))
      have HO4 : Hid (w4.ownsRow w.heap.size 37 2 v' (F ++ [(⟨z, c⟩ : Sl)]).length (flatSl (F ++ [(⟨z, c⟩ : Sl)]))) := Lib.hid (by rw [HSN.out, List.length_append]; exact hown')
      have hl4 : (F ++ [(⟨z, c⟩ : Sl)]).length ≤ 8 := by rw [List.length_append]; simp; omega
      have hrs : r.size ≤ s.size := by have := HSZ.out; have := HRS.out; omega
      have hlt : r.size < R.size := by have := HSZ.out; omega
      clear hown' hgrow hown HO3 hlen HSN
      generalize F ++ [(⟨z, c⟩ : Sl)] = G at *
      go_wp2
      go_roundw
      case rel => exact ⟨r, E ++ [p], G, rfl, hrs, HST.out, HRN.out, hl4, HO4.out, HB4.out⟩
      case measure => exact hlt
set_option maxRecDepth 100000 in
set_option maxHeartbeats 2000000 in
theorem implParseStock_any (s : ByteArray) (w : World) (hs : s.size ≤ 1048576) (hy : LayP w) :
    Calls Tryd.prog 11 #[.string s] w fun e w' => StkTo s w w' e := by
  have HE : Hid (∀ W, LayP W → Calls Tryd.prog 26 #[.string s, .string ⟨#[32]⟩, .int .i64 8, .func (.func 27) #[] #[]] W fun e w' => EntTo s W w' e) := Lib.hid (fun W h => parseEntries_any s W hs h)
  have HY := Lib.hid hy; clear hy
  go_enter Tryd.func11, Tryd.ntmps11
  go_wp2_with fail
  refine (HE.out _ HY.out).mono ?_
  rintro e w1 hto
  rcases hto with ⟨F, v, E, rfl, hb, ho, hp, hr, h8⟩ | ⟨rfl, hb, hn⟩
  rotate_left
  · have HB := Lib.hid hb; have HN := Lib.hid hn
    clear hb hn
    go_wp2
    go_ret2
    exact StkTo.no HN.out HB.out
  obtain ⟨e1, e2⟩ := ps_end hp hr h8
  have HE1 := Lib.hid e1; have HE2 := Lib.hid e2; have HB := Lib.hid hb; have HO := Lib.hid ho
  clear e1 e2 hb ho hp hr
  obtain ⟨A9, c9, hv9⟩ := own_form_sl HO.out
  subst hv9
  go_wp2_with fail
  refine (implIsStock_any F A9 c9 _ (own_in_sl HO.out) (by omega)).mono ?_
  rintro e w2 ⟨rfl, hb2⟩
  have HB2 := Lib.hid (HB.out.trans (hb2.mono HB.out.size))
  have HO2 := Lib.hid (own_below HO.out hb2)
  clear hb2
  cases hg : stkB F
  · have HN : Hid (¬ ParsB s) := Lib.hid (fun hp => by have e3 := HE1.out; rw [hg, psA_iff.2 hp] at e3; cases e3)
    clear hg
    go_wp2
    go_ret2
    exact StkTo.no HN.out HB2.out
  · have HV := Lib.hid (HE2.out hg)
    have HQ : Hid (psA s = true) := Lib.hid (HE1.out.trans hg)
    clear hg
    go_wp2
    go_ret2
    exact ⟨_, 37, ret_vb HQ.out.symm, HB2.out, by rw [HV.out]; exact HO2.out⟩
end Go.Proofs.YtljakcfdjcjdbaaDoor
