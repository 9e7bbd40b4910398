/-
  impl.ParseStrike: its contract: it answers what spec.ParseStrike does, given the library's tables, its two sentinels and the variable that strings.SplitN reads.
-/
import Derived.Test.YtdomccamkiplcaaDoorPss
import Derived.Test.YtdomccamkiplcaaDoorDec
namespace Go.Proofs.YtdomccamkiplcaaDoor
open Go.RowKit
set_option linter.unusedVariables false

def iPieces (s : ByteArray) : List ByteArray := Lib.splitB (sepB 47) 0 (min 6 (s.size + 1) - 1) s
theorem ip_cases (s : ByteArray) : iPieces s = sPieces s ∨ ((iPieces s).length = 6 ∧ 6 < (sPieces s).length) := by
  rcases cut_some 47 (min 6 (s.size + 1) - 1) s s.size (Nat.le_refl _) with h | ⟨h1, h2⟩
  · exact .inl h
  · right
    have h3 := pcs_le 47 s
    have e1 : (iPieces s).length = min 6 (s.size + 1) - 1 + 1 := h1
    have e2 : min 6 (s.size + 1) - 1 + 1 < (sPieces s).length := h2
    have e3 : (sPieces s).length ≤ s.size + 1 := h3
    omega
theorem ip_no {s : ByteArray} (h : (iPieces s).length ≠ 5) : (sPieces s).length ≠ 5 := by
  rcases ip_cases s with h1 | ⟨h1, h2⟩
  · rw [← h1]; exact h
  · omega
theorem ip_yes {s : ByteArray} (h : (iPieces s).length = 5) : iPieces s = sPieces s := by
  rcases ip_cases s with h1 | ⟨h1, h2⟩
  · exact h1
  · omega
def okD (l : List ByteArray) : Bool := l.all fun x => (T1.decP x).2
def valsD (l : List ByteArray) : List Int := l.map fun x => (T1.decP x).1
theorem good_all {s : Sk} (h : goodB s = true) : ∀ z ∈ s.zs, 1 ≤ z ∧ z ≤ 999 := by
  intro z hz
  unfold goodB allB at h
  have := List.all_eq_true.1 h z hz
  simpa [inB] using this
theorem all_good {s : Sk} (h : ∀ z ∈ s.zs, 1 ≤ z ∧ z ≤ 999) : goodB s = true := by
  unfold goodB allB
  exact List.all_eq_true.2 fun z hz => by have := h z hz; simpa [inB] using this
theorem read_good {l : List ByteArray} (h5 : l.length = 5) (hg : goodB (skOf (l.map T1.readF)) = true) : okD l = true ∧ valsD l = l.map T1.readF := by
  have h := good_all hg
  rw [skOf_zs (by rw [List.length_map, h5])] at h
  have h1 : ∀ x ∈ l, T1.decP x = (T1.readF x, true) := fun x hx => T1.read_dec rfl (h _ (List.mem_map_of_mem hx)).1
  exact ⟨List.all_eq_true.2 fun x hx => by rw [h1 x hx], List.map_congr_left fun x hx => by rw [h1 x hx]⟩
theorem dec_good {l : List ByteArray} (h5 : l.length = 5) (ho : okD l = true) (hg : goodB (skOf (valsD l)) = true) : valsD l = l.map T1.readF := by
  have h := good_all hg
  rw [skOf_zs (by unfold valsD; rw [List.length_map, h5])] at h
  refine List.map_congr_left fun x hx => ?_
  have h2 : (T1.decP x).2 = true := List.all_eq_true.1 ho x hx
  have h3 := h _ (List.mem_map_of_mem hx)
  exact (T1.dec_read (v := (T1.decP x).1) (by rw [← h2]) h3.1 (by have := h3.2; omega)).symm
theorem i_bad {s : ByteArray} (h5 : (iPieces s).length = 5) (ho : okD (iPieces s) = false ∨ goodB (skOf (valsD (iPieces s))) = false) : goodB (sRead s) = false := by
  rw [ip_yes h5] at ho h5
  cases hg : goodB (sRead s)
  · rfl
  · obtain ⟨g1, g2⟩ := read_good h5 hg
    rcases ho with ho | ho
    · rw [g1] at ho; cases ho
    · rw [g2] at ho
      have hg' : goodB (skOf ((sPieces s).map T1.readF)) = true := hg
      rw [hg'] at ho; cases ho
theorem i_good {s : ByteArray} (h5 : (iPieces s).length = 5) (ho : okD (iPieces s) = true) (hg : goodB (skOf (valsD (iPieces s))) = true) : goodB (sRead s) = true ∧ skOf (valsD (iPieces s)) = sRead s := by
  have e := ip_yes h5
  rw [e] at ho hg h5 ⊢
  have h := dec_good h5 ho hg
  rw [h] at hg ⊢
  exact ⟨hg, rfl⟩
theorem okD_snoc {l : List ByteArray} {k : Nat} (h : k < l.length) : okD (l.take (k + 1)) = (okD (l.take k) && (T1.decP l[k]).2) := by
  unfold okD
  rw [List.take_succ_eq_append_getElem h, List.all_append]; simp
theorem okD_no {l : List ByteArray} {k : Nat} (h : k < l.length) (hf : (T1.decP l[k]).2 = false) : okD l = false := by
  unfold okD
  rw [List.all_eq_false]
  exact ⟨l[k], List.getElem_mem h, by simp [hf]⟩

/-- The variable that strings.SplitN reads holds a number. -/
def MaxL (w : World) : Prop := ∃ m, w.cell? ⟨0, 0, none⟩ = some (.int .i64 m)
theorem MaxL.below {w w' : World} (h : MaxL w) (hb : Below w.heap.size w w') : MaxL w' := by
  obtain ⟨m, hm⟩ := h
  refine ⟨m, (hb.cell (p := ⟨0, 0, none⟩) ?_).trans hm⟩
  show (0 : Nat) < w.heap.size
  rcases Nat.lt_or_ge 0 w.heap.size with h' | h'
  · exact h'
  · simp only [World.cell?, Array.getElem?_eq_none h'] at hm; cases hm
theorem sent_below {w w' : World} {g : Nat} (h : T1.Sent w g) (hb : Below w.heap.size w w') : T1.Sent w' g := by
  obtain ⟨ev, h1, h2⟩ := h
  refine ⟨ev, (hb.cell (p := ⟨g, 0, none⟩) ?_).trans h1, h2⟩
  show g < w.heap.size
  rcases Nat.lt_or_ge g w.heap.size with h' | h'
  · exact h'
  · simp only [World.cell?, Array.getElem?_eq_none h'] at h1; cases h1
/-- What the library's readers ask of a world. -/
def Lay (w : World) : Prop := Tab w ∧ T1.Sent w 2 ∧ T1.Sent w 3 ∧ MaxL w
theorem Lay.below {w w' : World} (h : Lay w) (hb : Below w.heap.size w w') : Lay w' := ⟨h.1.below hb, sent_below h.2.1 hb, sent_below h.2.2.1 hb, h.2.2.2.below hb⟩

def SplN (s : ByteArray) (w w' : World) (e : Ending) : Prop := ∃ A q, e = .returned (.slice A (iPieces s).length q) ∧ Below w.heap.size w w' ∧ StrsIn w' A (iPieces s)
theorem cellsOf_get (l : List ByteArray) (N k : Nat) (h : k < l.length) : (Lib.cellsOf l N)[k]? = some (.string l[k]) := by
  unfold Lib.cellsOf
  rw [List.getElem?_toArray, List.getElem?_append_left (by simpa using h), List.getElem?_map, List.getElem?_eq_getElem h]; rfl
theorem splitN_any (s : ByteArray) (w : World) (hs : s.size ≤ 1048576) (hm : MaxL w) :
    Calls Tryd.prog 37 #[.string s, .string ⟨#[47]⟩, .int .i64 6] w fun e w' => SplN s w w' e := by
  obtain ⟨m, hm⟩ := hm
  refine (Tryd.strings_SplitN s (sepB 47) 6 m w (by omega) hm (Nat.le_refl _) (by decide) (by decide)).mono ?_
  rintro e w' ⟨rfl, rfl⟩
  refine ⟨_, _, rfl, (Below.refl _ _).alloc (Nat.le_refl _) _, fun _ => ⟨w.heap.size, 0, rfl, by simp, fun k hk => ?_⟩⟩
  rw [cell_of_heap (heap_new _ _), Nat.zero_add]
  exact cellsOf_get _ _ k hk

theorem strike_any (s : Sk) (w : World) :
    Calls Tryd.prog 39 #[.agg #[.int .i64 s.dep, .int .i64 s.lef, .int .i64 s.fac, .int .i64 s.rig, .int .i64 s.foo]] w fun e w' => e = .returned (.agg #[.int .i64 s.dep, .int .i64 s.lef, .int .i64 s.fac, .int .i64 s.rig, .int .i64 s.foo]) ∧ Below w.heap.size w w' := by
  go_enter Tryd.func39, Tryd.ntmps39
  go_wp2_with fail
  refine bodyPost_ret (v := .agg #[.int .i64 s.dep, .int .i64 s.lef, .int .i64 s.fac, .int .i64 s.rig, .int .i64 s.foo]) (by simp [results, Tryd.results39, go_sem]) rfl ⟨rfl, ?_⟩
  exact ((Below.refl _ _).alloc (Nat.le_refl _) _).alloc (by simp) _

theorem marked_sk {w : World} {g : Nat} {l : List Int} (h : Marked w g 65 5 (intsZ l)) (h5 : l.length = 5) : SkAt w g 65 (skOf l) := by
  have e : (intsZ l).length = 5 := by rw [intsZ_len, h5]
  have h' : Own w g 65 (intsZ l) := by
    refine Marked.done ?_
    rw [e]; exact h
  rw [← skOf_zs h5] at h'
  exact h'
theorem marked_new (w : World) : Marked (w.alloc (.cells #[.int .i64 0, .int .i64 0, .int .i64 0, .int .i64 0, .int .i64 0] 65)) w.heap.size 65 5 (intsZ (valsD [])) := ⟨_, heap_new _ _, rfl, rfl⟩

set_option maxRecDepth 100000 in
set_option maxHeartbeats 4000000 in
theorem implPar_any (s : ByteArray) (w : World) (hs : s.size ≤ 1048576) (hy : Lay w) :
    Calls Tryd.prog 14 #[.string s] w fun e w' => ParTo s w w' e := by
  have hy0 : Lay (w.alloc (.cells #[.int .i64 0, .int .i64 0, .int .i64 0, .int .i64 0, .int .i64 0] 34)) := hy.below ((Below.refl _ _).alloc (Nat.le_refl _) _)
  have HSPN : Hid (∀ W : World, Lay W → Calls Tryd.prog 37 #[.string s, .string ⟨#[47]⟩, .int .i64 6] W fun e w' => SplN s W w' e) := Lib.hid fun W h => splitN_any s W hs h.2.2.2
  have HY0 := Lib.hid hy0; clear hy0 hy
  have HSZ : Hid (∀ x ∈ iPieces s, x.size ≤ 1048576) := Lib.hid fun x hx => Nat.le_trans (split_size 47 _ s x hx) hs
  have HNO5 : Hid ((iPieces s).length ≠ 5 → ∀ w' : World, Below w.heap.size w w' → ParTo s w w' (.returned (.tuple #[.agg #[.int .i64 0, .int .i64 0, .int .i64 0, .int .i64 0, .int .i64 0], .bool false]))) := Lib.hid fun h w' hb => ParTo.no (.inl (ip_no h)) hb
  go_enter Tryd.func14, Tryd.ntmps14
  go_wp2_with fail
  refine (HSPN.out _ HY0.out).mono ?_
  rintro e w1 ⟨A, q0, rfl, hb, hin⟩
  have HG : Hid (SkAt w1 w.heap.size 34 zeroSk) := Lib.hid ((SkAt.new w 34 zeroSk).next hb)
  have HB1 : Hid (Below w.heap.size w w1) := Lib.hid (((Below.refl _ _).alloc (Nat.le_refl _) _).trans (hb.mono (by simp)))
  have HY1 := Lib.hid (HY0.out.below hb)
  have HIN := Lib.hid hin
  clear hb hin HSPN HY0
  by_cases h5 : (iPieces s).length = 5
  rotate_left
  · have hne : ((iPieces s).length : Int) ≠ 5 := by omega
    have hne1 : (((iPieces s).length : Int) != 5) = true := by simp; omega
    have HN5 := Lib.hid (HNO5.out h5)
    clear HNO5 h5 HIN HSZ HY1
    generalize iPieces s = L at *
    obtain ⟨c0, c1, c2, c3, c4⟩ := HG.out.cells
    have f0 := HG.out.free 0; have f1 := HG.out.free 1; have f2 := HG.out.free 2; have f3 := HG.out.free 3; have f4 := HG.out.free 4
    obtain ⟨e0, e1, e2, e3, e4⟩ := sk_set HG.out (.int .i64 0) (.int .i64 0) (.int .i64 0) (.int .i64 0) (.int .i64 0)
    have HBZ := Lib.hid (sk_below HB1.out (.int .i64 0) (.int .i64 0) (.int .i64 0) (.int .i64 0) (.int .i64 0))
    have HE0 := Lib.hid e0; have HE1 := Lib.hid e1; have HE2 := Lib.hid e2; have HE3 := Lib.hid e3; have HE4 := Lib.hid e4
    clear e0 e1 e2 e3 e4
    go_wp2_with fail
    refine bodyPost_ret (v := .tuple #[.agg #[.int .i64 0, .int .i64 0, .int .i64 0, .int .i64 0, .int .i64 0], .bool false]) (by simp [results, Tryd.results14, go_sem, HE0.out, HE1.out, HE2.out, HE3.out, HE4.out]) rfl ?_
    exact HN5.out _ HBZ.out
  · have HBAD : Hid (okD (iPieces s) = false ∨ goodB (skOf (valsD (iPieces s))) = false → ∀ w' : World, Below w.heap.size w w' → ParTo s w w' (.returned (.tuple #[.agg #[.int .i64 0, .int .i64 0, .int .i64 0, .int .i64 0, .int .i64 0], .bool false]))) := Lib.hid fun h w' hb => ParTo.no (.inr (i_bad h5 h)) hb
    have HYES : Hid (okD (iPieces s) = true → goodB (skOf (valsD (iPieces s))) = true → ∀ (q : Sk) (w' : World), q = skOf (valsD (iPieces s)) → Below w.heap.size w w' → ParTo s w w' (.returned (.tuple #[.agg #[.int .i64 q.dep, .int .i64 q.lef, .int .i64 q.fac, .int .i64 q.rig, .int .i64 q.foo], .bool true]))) := Lib.hid fun ho hg q w' hq hb => ParTo.yes (by rw [← ip_yes h5]; exact h5) (i_good h5 ho hg).1 (hq.trans (i_good h5 ho hg).2) hb
    generalize iPieces s = L at *
    rw [h5]
    have H5 := Lib.hid h5
    clear h5 HNO5
    go_wp2
    go_loopw [19] (fun i wr => ∃ (k : Nat), k ≤ 5 ∧ i = .int .i64 k ∧ okD (L.take k) = true ∧ Marked wr w1.heap.size 65 5 (intsZ (valsD (L.take k))) ∧ Below w1.heap.size w1 wr) (fun i _ => 5 - (intOf i).toNat)
    case atStart => exact ⟨0, Nat.zero_le _, rfl, rfl, marked_new _, (Below.refl _ _).alloc (Nat.le_refl _) _⟩
    case round =>
      obtain ⟨k, hk, rfl, hok, hmk, hb⟩ := hrel
      have HO := Lib.hid hok; have HM := Lib.hid hmk; have HB := Lib.hid hb
      clear hok hmk hb
      have HGW : Hid (SkAt wr w.heap.size 34 zeroSk) := Lib.hid (HG.out.next HB.out)
      have HYW := Lib.hid (HY1.out.below HB.out)
      have HBW : Hid (Below w.heap.size w wr) := Lib.hid (HB1.out.trans (HB.out.mono HB1.out.size))
      by_cases hlt : k < 5
      · have hkl : k < L.length := by rw [H5.out]; exact hlt
        obtain ⟨b, off, rfl, hbl, hc⟩ := HIN.out (by omega)
        have hc0 := (HB.out.cell (p := ⟨b, off + k, none⟩) hbl).trans (hc k hkl)
        clear hc
        have HOS := Lib.hid (okD_snoc hkl)
        have HOF := Lib.hid (okD_no hkl)
        have HVS : Hid (valsD (L.take (k + 1)) = valsD (L.take k) ++ [(T1.decP L[k]).1]) := Lib.hid (map_snoc _ hkl)
        have hsz : L[k].size ≤ 281474976710656 := by have := HSZ.out L[k] (List.getElem_mem hkl); omega
        have hvl : (intsZ (valsD (L.take k))).length = k := by rw [intsZ_len]; unfold valsD; rw [List.length_map, List.length_take]; omega
        have HVL := Lib.hid hvl; clear hvl
        generalize L[k] = x at *
        clear hkl
        go_wp2_with fail
        refine (T1.parseDec_any x _ hsz HYW.out.1 HYW.out.2.1 HYW.out.2.2.1).mono ?_
        rintro e w3 ⟨rfl, hb3⟩
        have HM3 := Lib.hid (HM.out.below hb3)
        have HG3 := Lib.hid (HGW.out.next hb3)
        have HB3 : Hid (Below w1.heap.size w1 w3) := Lib.hid (HB.out.trans (hb3.mono HB.out.size))
        have HW3 : Hid (Below w.heap.size w w3) := Lib.hid (HBW.out.trans (hb3.mono HBW.out.size))
        clear hb3 HM HGW HB HBW HYW hc0 hsz
        generalize (T1.decP x).1 = z at *
        cases hd : (T1.decP x).2
        · have HNB := Lib.hid (HBAD.out (.inl (HOF.out hd)))
          clear hd HBAD HYES HOS HOF HVS HVL HO HM3 HB3
          obtain ⟨c0, c1, c2, c3, c4⟩ := HG3.out.cells
          have f0 := HG3.out.free 0; have f1 := HG3.out.free 1; have f2 := HG3.out.free 2; have f3 := HG3.out.free 3; have f4 := HG3.out.free 4
          obtain ⟨e0, e1, e2, e3, e4⟩ := sk_set HG3.out (.int .i64 0) (.int .i64 0) (.int .i64 0) (.int .i64 0) (.int .i64 0)
          have HBZ := Lib.hid (sk_below HW3.out (.int .i64 0) (.int .i64 0) (.int .i64 0) (.int .i64 0) (.int .i64 0))
          have HE0 := Lib.hid e0; have HE1 := Lib.hid e1; have HE2 := Lib.hid e2; have HE3 := Lib.hid e3; have HE4 := Lib.hid e4
          clear e0 e1 e2 e3 e4
          go_wp2_with fail
          refine bodyPost_ret (v := .tuple #[.agg #[.int .i64 0, .int .i64 0, .int .i64 0, .int .i64 0, .int .i64 0], .bool false]) (by simp [results, Tryd.results14, go_sem, HE0.out, HE1.out, HE2.out, HE3.out, HE4.out]) rfl ?_
          exact HNB.out _ HBZ.out
        · have hok1 : okD (L.take (k + 1)) = true := by rw [HOS.out, HO.out, hd]; rfl
          have HOK1 := Lib.hid hok1
          clear hd hok1 HOS HOF HO
          obtain ⟨⟨u, hu⟩, hfz⟩ := HM3.out.at_ (j := k) hlt
          go_wp2
          go_roundw
          case rel => exact ⟨k + 1, by omega, by go_num, HOK1.out, by rw [HVS.out, intsZ_snoc]; exact HM3.out.stepAt k HVL.out hlt _, HB3.out.setCell (Nat.le_refl _) _⟩
          case measure => simp [intOf]; omega
      · obtain rfl : k = 5 := by omega
        have hL : L.take 5 = L := List.take_of_length_le (by rw [H5.out]; exact Nat.le_refl _)
        have hok := HO.out; have hmk := HM.out
        rw [hL] at hok hmk
        have hq5 : (valsD L).length = 5 := by unfold valsD; rw [List.length_map, H5.out]
        have HN := Lib.hid (marked_sk hmk hq5)
        have HYS := Lib.hid (HYES.out hok)
        clear hL hok hmk hq5 HO HM HYES HSZ HIN H5 HB HYW
        obtain ⟨q, hq⟩ : ∃ q, q = skOf (valsD L) := ⟨_, rfl⟩
        rw [← hq] at HN HYS HBAD
        clear hq
        obtain ⟨n0, n1, n2, n3, n4⟩ := HN.out.cells
        go_wp2_with fail
        refine (strike_any q _).mono ?_
        rintro e w4 ⟨rfl, hb4⟩
        have HG4 := Lib.hid (HGW.out.next hb4)
        have HW4 : Hid (Below w.heap.size w w4) := Lib.hid (HBW.out.trans (hb4.mono HBW.out.size))
        clear hb4 n0 n1 n2 n3 n4 HN HGW HBW
        go_wp2_with fail
        refine (implIsStrike_any q _).mono ?_
        rintro e w5 ⟨rfl, hb5⟩
        have HG5 := Lib.hid ((HG4.out.alloc _).next hb5)
        have HN5 := Lib.hid ((SkAt.new w4 34 q).next hb5)
        have HW5 : Hid (Below w.heap.size w w5) := Lib.hid ((HW4.out.alloc HW4.out.size _).trans (hb5.mono (by have := HW4.out.size; simp; omega)))
        clear hb5 HG4 HW4
        cases hgd : goodB q
        · have HNB := Lib.hid (HBAD.out (.inr hgd))
          clear hgd HBAD HYS HN5
          obtain ⟨c0, c1, c2, c3, c4⟩ := HG5.out.cells
          have f0 := HG5.out.free 0; have f1 := HG5.out.free 1; have f2 := HG5.out.free 2; have f3 := HG5.out.free 3; have f4 := HG5.out.free 4
          obtain ⟨e0, e1, e2, e3, e4⟩ := sk_set HG5.out (.int .i64 0) (.int .i64 0) (.int .i64 0) (.int .i64 0) (.int .i64 0)
          have HBZ := Lib.hid (sk_below HW5.out (.int .i64 0) (.int .i64 0) (.int .i64 0) (.int .i64 0) (.int .i64 0))
          have HE0 := Lib.hid e0; have HE1 := Lib.hid e1; have HE2 := Lib.hid e2; have HE3 := Lib.hid e3; have HE4 := Lib.hid e4
          clear e0 e1 e2 e3 e4
          go_wp2_with fail
          refine bodyPost_ret (v := .tuple #[.agg #[.int .i64 0, .int .i64 0, .int .i64 0, .int .i64 0, .int .i64 0], .bool false]) (by simp [results, Tryd.results14, go_sem, HE0.out, HE1.out, HE2.out, HE3.out, HE4.out]) rfl ?_
          exact HNB.out _ HBZ.out
        · have HYG := Lib.hid (HYS.out hgd q)
          clear hgd HBAD HYS
          obtain ⟨n0, n1, n2, n3, n4⟩ := HN5.out.cells
          obtain ⟨c0, c1, c2, c3, c4⟩ := HG5.out.cells
          have f0 := HG5.out.free 0; have f1 := HG5.out.free 1; have f2 := HG5.out.free 2; have f3 := HG5.out.free 3; have f4 := HG5.out.free 4
          obtain ⟨e0, e1, e2, e3, e4⟩ := sk_set HG5.out (.int .i64 q.dep) (.int .i64 q.lef) (.int .i64 q.fac) (.int .i64 q.rig) (.int .i64 q.foo)
          have HBZ := Lib.hid (sk_below HW5.out (.int .i64 q.dep) (.int .i64 q.lef) (.int .i64 q.fac) (.int .i64 q.rig) (.int .i64 q.foo))
          have HE0 := Lib.hid e0; have HE1 := Lib.hid e1; have HE2 := Lib.hid e2; have HE3 := Lib.hid e3; have HE4 := Lib.hid e4
          clear e0 e1 e2 e3 e4
          go_wp2_with fail
          refine bodyPost_ret (v := .tuple #[.agg #[.int .i64 q.dep, .int .i64 q.lef, .int .i64 q.fac, .int .i64 q.rig, .int .i64 q.foo], .bool true]) (by simp [results, Tryd.results14, go_sem, HE0.out, HE1.out, HE2.out, HE3.out, HE4.out]) rfl ?_
          exact HYG.out _ (by first | rfl | trivial) HBZ.out
end Go.Proofs.YtdomccamkiplcaaDoor
