/-
  FnCases: for every input (two slices of bytes) the law returns true, and what it was given reads as before. Conditions: none beyond the given statement's own.
-/
import Derived.Test.YtllafkeheppkjaaDoorRows
import Derived.Test.YtllafkeheppkjaaDoorFm
import Derived.Test.YtllafkeheppkjaaDoorOpenB
import Derived.Test.YtllafkeheppkjaaDoorCards
import Derived.Test.YtllafkeheppkjaaDoorTie
import Derived.ProofKit
import Derived.OpenShut
import Derived.ShutString
import Derived.ChangeOld
import Derived.Lib.SmallJoins
import Derived.Lib.LaidTab
import Derived.LaidMore
import Derived.LaidHandle
import Derived.MakeChecks
import Derived.Stop.Joined
import Derived.Stop.LaidErr
import Derived.SevenTiedAt
namespace Go.Proofs.YtllafkeheppkjaaDoor.fnCases
open Go Go.ChangeShapes Go.WideShapes Go.ChangeAt Go.RowKit Go.Joins
open Go.ChangeMaps (open_string shut_string)
open Go.Proofs.YtllafkeheppkjaaDoor.P
set_option linter.unusedVariables false

theorem own : ownKnob Tryd.prog.godebug = none := by kernel_rfl
theorem laidOut : laidOutB Tryd.prog = true := by kernel_rfl

set_option maxRecDepth 100000 in
set_option maxHeartbeats 8000000 in
theorem walk (A : Option Addr) (xs : List UInt8) (c : Nat) (Ay : Option Addr) (ys : List UInt8) (cy : Nat) (w : World) (hx : BytesIn w A xs) (hxs : xs.length ≤ maxLen) (hy : BytesIn w Ay ys) (hys : ys.length ≤ maxLen) (ht : Tab w) :
    Calls Tryd.prog 4 #[.slice A xs.length c, .slice Ay ys.length cy] w fun e w' => e = .returned (.bool true) ∧ Below w.heap.size w w' := by
  have HX := Lib.hid hx; have HY := Lib.hid hy; have HTB := Lib.hid ht; clear hx hy ht
  have hlongs : (1048576 : Int) < wrap64 ((xs.length : Int) + (ys.length : Int)) ∨ ¬ (1048576 : Int) < wrap64 ((xs.length : Int) + (ys.length : Int)) := by omega
  go_enter Tryd.func4, Tryd.ntmps4
  by_cases hlong : (1048576 : Int) < wrap64 ((xs.length : Int) + (ys.length : Int))
  · go_wp2
    go_ret
    exact ⟨rfl, Below.refl _ _⟩
  clear hlongs
  go_wp2_with fail
  refine (drawTake_any A c xs w HX.out hxs).mono ?_
  rintro e w1 ⟨l, B, d, cs, E, dE, rfl, hl, hcap, hlo, hlin, hcs, hso, hsin, hb⟩
  have HLO := Lib.hid hlo; have HSO := Lib.hid hso; have HL := Lib.hid hlin; have HS := Lib.hid hsin
  have HT : Hid (Below w.heap.size w w1) := Lib.hid hb
  have hn : l.length ≤ 1048576 := by omega
  have hm : cs.length ≤ 1048576 := by omega
  clear HX hlong hxs hlo hso hlin hsin hb
  obtain ⟨t, ok, hop⟩ : ∃ t ok, OpIs (mvR l cs (-1)) t ok := ⟨_, _, rfl, rfl⟩
  obtain ⟨n, g, hti⟩ : ∃ n g, TiIs l n g := ⟨_, _, rfl, rfl⟩
  obtain ⟨s, hs⟩ : ∃ s, CtIs l s g := ⟨_, rfl, tiIs_case hti⟩
  have htk := take_ok hop HLO.out
  have HOP := Lib.hid hop; have HTI := Lib.hid hti; have HCT := Lib.hid hs; have HTO := Lib.hid htk.1
  have htl := htk.2
  have HCB := Lib.hid (tiIs_case hti)
  have hnr := ti_range hti
  have htn : t.length ≤ 1048576 := by omega
  clear hop hti hs htk
  go_wp2_with fail
  refine (implTakeTypes_any l B d cs E dE _ HL.out hn HLO.out hcap HS.out HSO.out hm).mono ?_
  intro e w2 hto
  obtain ⟨A1, c1, rfl, hb, hr, hcA1⟩ := hto.back HOP
  clear hto
  replace HT := Lib.hid (HT.out.trans (hb.mono HT.out.size))
  replace HL := Lib.hid (HL.out.below hb (Nat.le_refl _))
  replace HS := Lib.hid (HS.out.below hb (Nat.le_refl _))
  clear hb
  have HR1 := Lib.hid hr; clear hr
  go_wp2_with fail
  refine (specTakeTypes_any l B d cs E dE _ HL.out hn HLO.out hcap HS.out HSO.out hm).mono ?_
  intro e w3 hto
  obtain ⟨A2, c2, rfl, hb, hr, hcA2⟩ := hto.back HOP
  clear hto
  replace HT := Lib.hid (HT.out.trans (hb.mono HT.out.size))
  replace HL := Lib.hid (HL.out.below hb (Nat.le_refl _))
  replace HS := Lib.hid (HS.out.below hb (Nat.le_refl _))
  replace HR1 := Lib.hid (HR1.out.below hb (Nat.le_refl _))
  clear hb
  have HR2 := Lib.hid hr; clear hr
  go_wp2_with fail
  refine (implTi_is l B d _ HL.out hn HLO.out hcap n g HTI).mono ?_
  rintro e w4 ⟨rfl, hb⟩
  replace HT := Lib.hid (HT.out.trans (hb.mono HT.out.size))
  replace HL := Lib.hid (HL.out.below hb (Nat.le_refl _))
  replace HS := Lib.hid (HS.out.below hb (Nat.le_refl _))
  replace HR1 := Lib.hid (HR1.out.below hb (Nat.le_refl _))
  replace HR2 := Lib.hid (HR2.out.below hb (Nat.le_refl _))
  clear hb
  go_wp2_with fail
  refine (specTi_is l B d _ HL.out hn HLO.out hcap n g HTI).mono ?_
  rintro e w5 ⟨rfl, hb⟩
  replace HT := Lib.hid (HT.out.trans (hb.mono HT.out.size))
  replace HL := Lib.hid (HL.out.below hb (Nat.le_refl _))
  replace HS := Lib.hid (HS.out.below hb (Nat.le_refl _))
  replace HR1 := Lib.hid (HR1.out.below hb (Nat.le_refl _))
  replace HR2 := Lib.hid (HR2.out.below hb (Nat.le_refl _))
  clear hb
  go_wp2_with fail
  refine (implCt_is l B d _ HL.out hn HLO.out hcap (HTB.out.below HT.out) s g HCT).mono ?_
  rintro e w6 ⟨rfl, hb⟩
  replace HT := Lib.hid (HT.out.trans (hb.mono HT.out.size))
  replace HL := Lib.hid (HL.out.below hb (Nat.le_refl _))
  replace HS := Lib.hid (HS.out.below hb (Nat.le_refl _))
  replace HR1 := Lib.hid (HR1.out.below hb (Nat.le_refl _))
  replace HR2 := Lib.hid (HR2.out.below hb (Nat.le_refl _))
  clear hb
  go_wp2_with fail
  refine (specCt_is l B d _ HL.out hn HLO.out hcap s g HCT).mono ?_
  rintro e w7 ⟨rfl, hb⟩
  replace HT := Lib.hid (HT.out.trans (hb.mono HT.out.size))
  replace HL := Lib.hid (HL.out.below hb (Nat.le_refl _))
  replace HS := Lib.hid (HS.out.below hb (Nat.le_refl _))
  replace HR1 := Lib.hid (HR1.out.below hb (Nat.le_refl _))
  replace HR2 := Lib.hid (HR2.out.below hb (Nat.le_refl _))
  clear hb
  have hss : (!(s.toList == s.toList)) = false := by simp
  have hgg : (g != g) = false := by simp
  go_wp2_with fail
  refine (qBoxes_same t A1 A2 c1 c2 _ HR1.out HR2.out htn).mono ?_
  rintro e w8 ⟨rfl, hb⟩
  replace HT := Lib.hid (HT.out.trans (hb.mono HT.out.size))
  replace HL := Lib.hid (HL.out.below hb (Nat.le_refl _))
  replace HS := Lib.hid (HS.out.below hb (Nat.le_refl _))
  replace HR1 := Lib.hid (HR1.out.below hb (Nat.le_refl _))
  clear hb
  clear HR2
  go_wp2_with fail
  refine (implIc_is l B d _ HL.out hn HLO.out hcap g HCB).mono ?_
  rintro e w9 ⟨rfl, hb⟩
  replace HT := Lib.hid (HT.out.trans (hb.mono HT.out.size))
  replace HL := Lib.hid (HL.out.below hb (Nat.le_refl _))
  replace HS := Lib.hid (HS.out.below hb (Nat.le_refl _))
  replace HR1 := Lib.hid (HR1.out.below hb (Nat.le_refl _))
  clear hb
  cases ok
  · go_wp2
    go_loopw [173] (fun i wr => ∃ (k : Nat), k ≤ l.length ∧ i = .int .i64 k ∧ Below w9.heap.size w9 wr) (fun i _ => l.length - (intOf i).toNat)
    case atStart => exact ⟨0, Nat.zero_le _, rfl, Below.refl _ _⟩
    case round =>
      obtain ⟨k, hk, rfl, hb⟩ := hrel
      by_cases hlt : k < l.length
      · have HLR := HL.out.below hb (Nat.le_refl _)
        obtain ⟨gb, off, hBe, hbl, hc⟩ := HLR (by omega)
        subst hBe
        obtain ⟨hc0, hc1, hc2, hc3⟩ := hc k hlt
        clear hc
        obtain ⟨x, hbo, hown⟩ := bo_own HCB.out hlt
        have hcz := HLO.out k hlt
        have hk1 : (k : Int) < (l.length : Int) := by omega
        have hcz' : (l[k]).cod.size ≤ maxLen := hcz
        clear hcz
        generalize l[k] = b0 at *
        have HBO := Lib.hid hbo; have HCZ := Lib.hid hcz'
        clear hbo hcz'
        obtain ⟨wv, hwv⟩ : ∃ wv, wv = wr.alloc (.cells #[.string b0.cod, .int .i64 b0.row, .int .i64 b0.col, .int .i64 b0.cnt] 40) := ⟨_, rfl⟩
        have hbv : Below wr.heap.size wr wv := by rw [hwv]; exact (Below.refl _ _).alloc (Nat.le_refl _) _
        have hlt0 : wr.heap.size < wv.heap.size := by rw [hwv]; simp
        have y0 : wv.cell? ⟨wr.heap.size, 0, none⟩ = some (.string b0.cod) := by rw [hwv, cell_of_heap (heap_new _ _)]; rfl
        have y1 : wv.cell? ⟨wr.heap.size, 1, none⟩ = some (.int .i64 b0.row) := by rw [hwv, cell_of_heap (heap_new _ _)]; rfl
        have y2 : wv.cell? ⟨wr.heap.size, 2, none⟩ = some (.int .i64 b0.col) := by rw [hwv, cell_of_heap (heap_new _ _)]; rfl
        have y3 : wv.cell? ⟨wr.heap.size, 3, none⟩ = some (.int .i64 b0.cnt) := by rw [hwv, cell_of_heap (heap_new _ _)]; rfl
        have HLV := Lib.hid (HLR.below hbv (Nat.le_refl _))
        have HBV := Lib.hid (hb.trans (hbv.mono hb.size))
        have HWV := Lib.hid hwv
        clear hb hbv hwv HLR
        go_wp2_with fail
        rw [← HWV.out]
        refine (implBo_is l _ d _ HLV.out hn HLO.out hcap b0.cod x _ HBO).mono ?_
        rintro e v1 ⟨rfl, hb1⟩
        have HB1 := Lib.hid (HBV.out.trans (hb1.mono HBV.out.size))
        clear hc0 hc1 hc2 hc3
        cases g
        · go_wp2
          go_roundw
          case rel => exact ⟨k + 1, by omega, by go_num, HB1.out⟩
          case measure => simp [intOf]; omega
        · obtain ⟨rfl, hbb⟩ := hown (by first | rfl | trivial)
          have HBB : Hid (IbIs b0 true) := Lib.hid hbb
          have hq0 := (hb1.cell (p := ⟨wr.heap.size, 0, none⟩) hlt0).trans y0
          have hq1 := (hb1.cell (p := ⟨wr.heap.size, 1, none⟩) hlt0).trans y1
          have hq2 := (hb1.cell (p := ⟨wr.heap.size, 2, none⟩) hlt0).trans y2
          have hq3 := (hb1.cell (p := ⟨wr.heap.size, 3, none⟩) hlt0).trans y3
          clear hbb hb1 y0 y1 y2 y3 hown
          go_wp2_with fail
          refine (implIb_is b0 _ HCZ.out true HBB).mono ?_
          rintro e v2 ⟨rfl, hb2⟩
          have HB2 := Lib.hid (HB1.out.trans (hb2.mono HB1.out.size))
          clear hb2 hq0 hq1 hq2 hq3
          go_wp2
          go_roundw
          case rel => exact ⟨k + 1, by omega, by go_num, HB2.out⟩
          case measure => simp [intOf]; omega
      · obtain rfl : k = l.length := by omega
        replace HT := Lib.hid (HT.out.trans (hb.mono HT.out.size))
        clear hb
        clear HL HS HR1
        have HYX := Lib.hid (HY.out.under HT.out (Nat.le_refl _))
        go_wp2_with fail
        refine (drawSwap_any Ay cy ys _ HYX.out hys).mono ?_
        rintro e p1 ⟨u, U, dU, r, q, rfl, hul, hucap, huo, huin, hb⟩
        replace HT := Lib.hid (HT.out.trans (hb.mono HT.out.size))
        clear hb
        have HUO := Lib.hid huo; have HU := Lib.hid huin
        clear huo huin HYX
        have hun : u.length ≤ 1048576 := by omega
        obtain ⟨sw, f5, hsw⟩ : ∃ sw f5, OpIs (swR u r q) sw f5 := ⟨_, _, rfl, rfl⟩
        have hswk := swap_ok hsw HUO.out
        have hswl := hswk.2
        have hswn : sw.length ≤ 1048576 := by omega
        have HSW := Lib.hid hsw; have HSWO := Lib.hid hswk.1
        clear hsw hswk
        go_wp2_with fail
        refine (implSwapBoxes_any u U dU r q _ HU.out hun HUO.out hucap).mono ?_
        intro e p2 hto
        obtain ⟨A7, c7, rfl, hb, hr, hcA7⟩ := hto.back HSW
        clear hto
        replace HT := Lib.hid (HT.out.trans (hb.mono HT.out.size))
        replace HU := Lib.hid (HU.out.below hb (Nat.le_refl _))
        clear hb
        have HR7 := Lib.hid hr; clear hr
        go_wp2_with fail
        refine (specSwapBoxes_any u U dU r q _ HU.out hun HUO.out hucap).mono ?_
        intro e p3 hto
        obtain ⟨A8, c8, rfl, hb, hr, hcA8⟩ := hto.back HSW
        clear hto
        replace HT := Lib.hid (HT.out.trans (hb.mono HT.out.size))
        replace HU := Lib.hid (HU.out.below hb (Nat.le_refl _))
        replace HR7 := Lib.hid (HR7.out.below hb (Nat.le_refl _))
        clear hb
        have HR8 := Lib.hid hr; clear hr
        have HYX := Lib.hid (HY.out.under HT.out (Nat.le_refl _))
        go_wp2_with fail
        refine (drawPut_any Ay cy ys _ HYX.out hys).mono ?_
        rintro e p4 ⟨v, V, dV, ps, Pq, dP, rfl, hvl, hvcap, hvo, hvin, hpl, hpo, hpin, hb⟩
        replace HT := Lib.hid (HT.out.trans (hb.mono HT.out.size))
        replace HU := Lib.hid (HU.out.below hb (Nat.le_refl _))
        replace HR7 := Lib.hid (HR7.out.below hb (Nat.le_refl _))
        replace HR8 := Lib.hid (HR8.out.below hb (Nat.le_refl _))
        clear hb
        have HVO := Lib.hid hvo; have HV := Lib.hid hvin; have HPO := Lib.hid hpo; have HPS := Lib.hid hpin
        clear hvo hvin hpo hpin HYX
        have hvn : v.length ≤ 1048576 := by omega
        have hpn : ps.length ≤ 1048576 := by omega
        obtain ⟨fu, f7, hfu⟩ : ∃ fu f7, OpIs (mvR v ps 1) fu f7 := ⟨_, _, rfl, rfl⟩
        have hful : fu.length ≤ 1048576 := by
          have := mvR_short v ps 1
          rw [hfu.1] at this
          omega
        have HFU := Lib.hid hfu
        clear hfu
        go_wp2_with fail
        refine (implPutTypes_any v V dV ps Pq dP _ HV.out hvn HVO.out hvcap HPS.out HPO.out hpn).mono ?_
        intro e p5 hto
        obtain ⟨A9, c9, rfl, hb, hr, hcA9⟩ := hto.back HFU
        clear hto
        replace HT := Lib.hid (HT.out.trans (hb.mono HT.out.size))
        replace HU := Lib.hid (HU.out.below hb (Nat.le_refl _))
        replace HR7 := Lib.hid (HR7.out.below hb (Nat.le_refl _))
        replace HR8 := Lib.hid (HR8.out.below hb (Nat.le_refl _))
        replace HV := Lib.hid (HV.out.below hb (Nat.le_refl _))
        replace HPS := Lib.hid (HPS.out.below hb (Nat.le_refl _))
        clear hb
        have HR9 := Lib.hid hr; clear hr
        go_wp2_with fail
        refine (specPutTypes_any v V dV ps Pq dP _ HV.out hvn HVO.out hvcap HPS.out HPO.out hpn).mono ?_
        intro e p6 hto
        obtain ⟨A10, c10, rfl, hb, hr, hcA10⟩ := hto.back HFU
        clear hto
        replace HT := Lib.hid (HT.out.trans (hb.mono HT.out.size))
        replace HU := Lib.hid (HU.out.below hb (Nat.le_refl _))
        replace HR7 := Lib.hid (HR7.out.below hb (Nat.le_refl _))
        replace HR8 := Lib.hid (HR8.out.below hb (Nat.le_refl _))
        replace HR9 := Lib.hid (HR9.out.below hb (Nat.le_refl _))
        clear hb
        have HR10 := Lib.hid hr; clear hr
        clear HV HPS HVO HPO
        have HYX := Lib.hid (HY.out.under HT.out (Nat.le_refl _))
        go_wp2_with fail
        refine (drawIsBox_any Ay cy ys _ HYX.out hys).mono ?_
        rintro e p7 ⟨b1, rfl, hbz, hb⟩
        replace HT := Lib.hid (HT.out.trans (hb.mono HT.out.size))
        replace HU := Lib.hid (HU.out.below hb (Nat.le_refl _))
        replace HR7 := Lib.hid (HR7.out.below hb (Nat.le_refl _))
        replace HR8 := Lib.hid (HR8.out.below hb (Nat.le_refl _))
        replace HR9 := Lib.hid (HR9.out.below hb (Nat.le_refl _))
        replace HR10 := Lib.hid (HR10.out.below hb (Nat.le_refl _))
        clear hb
        have HBZ := Lib.hid hbz
        clear hbz HYX
        obtain ⟨p8, hp8⟩ : ∃ p8, p8 = p7.alloc (.cells #[.string b1.cod, .int .i64 b1.row, .int .i64 b1.col, .int .i64 b1.cnt] 40) := ⟨_, rfl⟩
        have hb : Below p7.heap.size p7 p8 := by rw [hp8]; exact (Below.refl _ _).alloc (Nat.le_refl _) _
        have hbx : p7.heap.size < p8.heap.size := by rw [hp8]; simp
        have z0 : p8.cell? ⟨p7.heap.size, 0, none⟩ = some (.string b1.cod) := by rw [hp8, cell_of_heap (heap_new _ _)]; rfl
        have z1 : p8.cell? ⟨p7.heap.size, 1, none⟩ = some (.int .i64 b1.row) := by rw [hp8, cell_of_heap (heap_new _ _)]; rfl
        have z2 : p8.cell? ⟨p7.heap.size, 2, none⟩ = some (.int .i64 b1.col) := by rw [hp8, cell_of_heap (heap_new _ _)]; rfl
        have z3 : p8.cell? ⟨p7.heap.size, 3, none⟩ = some (.int .i64 b1.cnt) := by rw [hp8, cell_of_heap (heap_new _ _)]; rfl
        replace HT := Lib.hid (HT.out.trans (hb.mono HT.out.size))
        replace HU := Lib.hid (HU.out.below hb (Nat.le_refl _))
        replace HR7 := Lib.hid (HR7.out.below hb (Nat.le_refl _))
        replace HR8 := Lib.hid (HR8.out.below hb (Nat.le_refl _))
        replace HR9 := Lib.hid (HR9.out.below hb (Nat.le_refl _))
        replace HR10 := Lib.hid (HR10.out.below hb (Nat.le_refl _))
        clear hb
        have HP8 := Lib.hid hp8
        have HZ : Hid (∀ W, Below p8.heap.size p8 W → (W.cell? ⟨p7.heap.size, 0, none⟩ = some (.string b1.cod) ∧ W.cell? ⟨p7.heap.size, 1, none⟩ = some (.int .i64 b1.row) ∧ W.cell? ⟨p7.heap.size, 2, none⟩ = some (.int .i64 b1.col) ∧ W.cell? ⟨p7.heap.size, 3, none⟩ = some (.int .i64 b1.cnt)) ∧ p7.heap.size < W.heap.size) := Lib.hid (fun W h =>
          ⟨⟨(h.cell (p := ⟨p7.heap.size, 0, none⟩) hbx).trans z0, (h.cell (p := ⟨p7.heap.size, 1, none⟩) hbx).trans z1, (h.cell (p := ⟨p7.heap.size, 2, none⟩) hbx).trans z2, (h.cell (p := ⟨p7.heap.size, 3, none⟩) hbx).trans z3⟩, Nat.lt_of_lt_of_le hbx h.size⟩)
        have HT8 := Lib.hid (Below.refl p8.heap.size p8)
        clear hp8 z0 z1 z2 z3 hbx
        have HYX := Lib.hid (HY.out.under HT.out (Nat.le_refl _))
        go_wp2_with fail
        rw [← HP8.out]
        refine (drawBoxOf_any Ay cy ys _ HYX.out hys).mono ?_
        rintro e p9 ⟨y, Y, dY, cc, rfl, hyl, hycap, hyo, hyin, hb⟩
        replace HT8 := Lib.hid (HT8.out.trans (hb.mono HT8.out.size))
        replace HT := Lib.hid (HT.out.trans (hb.mono HT.out.size))
        replace HU := Lib.hid (HU.out.below hb (Nat.le_refl _))
        replace HR7 := Lib.hid (HR7.out.below hb (Nat.le_refl _))
        replace HR8 := Lib.hid (HR8.out.below hb (Nat.le_refl _))
        replace HR9 := Lib.hid (HR9.out.below hb (Nat.le_refl _))
        replace HR10 := Lib.hid (HR10.out.below hb (Nat.le_refl _))
        clear hb
        have HYO := Lib.hid hyo; have HYI := Lib.hid hyin
        clear hyo hyin HYX
        have hyn : y.length ≤ 1048576 := by omega
        obtain ⟨ix, f9, hbo⟩ : ∃ ix f9, BoIs y cc ix f9 := ⟨_, _, rfl, rfl⟩
        have HBO := Lib.hid hbo; clear hbo
        go_wp2_with fail
        refine (implBo_is y Y dY _ HYI.out hyn HYO.out hycap cc ix f9 HBO).mono ?_
        rintro e p10 ⟨rfl, hb⟩
        replace HT8 := Lib.hid (HT8.out.trans (hb.mono HT8.out.size))
        replace HT := Lib.hid (HT.out.trans (hb.mono HT.out.size))
        replace HU := Lib.hid (HU.out.below hb (Nat.le_refl _))
        replace HR7 := Lib.hid (HR7.out.below hb (Nat.le_refl _))
        replace HR8 := Lib.hid (HR8.out.below hb (Nat.le_refl _))
        replace HR9 := Lib.hid (HR9.out.below hb (Nat.le_refl _))
        replace HR10 := Lib.hid (HR10.out.below hb (Nat.le_refl _))
        replace HYI := Lib.hid (HYI.out.below hb (Nat.le_refl _))
        clear hb
        go_wp2_with fail
        refine (specBo_is y Y dY _ HYI.out hyn HYO.out hycap cc ix f9 HBO).mono ?_
        rintro e p11 ⟨rfl, hb⟩
        replace HT8 := Lib.hid (HT8.out.trans (hb.mono HT8.out.size))
        replace HT := Lib.hid (HT.out.trans (hb.mono HT.out.size))
        replace HU := Lib.hid (HU.out.below hb (Nat.le_refl _))
        replace HR7 := Lib.hid (HR7.out.below hb (Nat.le_refl _))
        replace HR8 := Lib.hid (HR8.out.below hb (Nat.le_refl _))
        replace HR9 := Lib.hid (HR9.out.below hb (Nat.le_refl _))
        replace HR10 := Lib.hid (HR10.out.below hb (Nat.le_refl _))
        clear hb
        clear HYI HYO HBO
        obtain ⟨⟨z0, z1, z2, z3⟩, hbx⟩ := HZ.out p11 HT8.out
        have hx0 := KeptW.cell z0 hbx
        have hx1 := KeptW.cell z1 hbx
        have hx2 := KeptW.cell z2 hbx
        have hx3 := KeptW.cell z3 hbx
        clear z0 z1 z2 z3
        have HK1 : Hid (∀ x : KeptW p11.heap.size p11, Calls Tryd.prog 15 #[.slice A7 sw.length c7, .slice A8 sw.length c8] x.at_ fun e w' => e = .returned (.bool true) ∧ Below x.at_.heap.size x.at_ w') := by
          show ∀ _, _
          intro x
          exact qBoxes_same sw A7 A8 c7 c8 _ (HR7.out.below x.below (Nat.le_refl _)) (HR8.out.below x.below (Nat.le_refl _)) hswn
        have HK2 : Hid (∀ x : KeptW p11.heap.size p11, Calls Tryd.prog 15 #[.slice A9 fu.length c9, .slice A10 fu.length c10] x.at_ fun e w' => e = .returned (.bool true) ∧ Below x.at_.heap.size x.at_ w') := by
          show ∀ _, _
          intro x
          exact qBoxes_same fu A9 A10 c9 c10 _ (HR9.out.below x.below (Nat.le_refl _)) (HR10.out.below x.below (Nat.le_refl _)) hful
        obtain ⟨bv, hbv⟩ : ∃ bv, IbIs b1 bv := ⟨_, rfl⟩
        have HBV := Lib.hid hbv; clear hbv
        have HK3 : Hid (∀ W : World, Calls Tryd.prog 19 #[.agg #[.string b1.cod, .int .i64 b1.row, .int .i64 b1.col, .int .i64 b1.cnt]] W fun e w' => e = .returned (.bool bv) ∧ Below W.heap.size W w') := Lib.hid (fun W => implIb_is b1 W HBZ.out bv HBV)
        have HK4 : Hid (∀ W : World, Calls Tryd.prog 28 #[.agg #[.string b1.cod, .int .i64 b1.row, .int .i64 b1.col, .int .i64 b1.cnt]] W fun e w' => e = .returned (.bool bv) ∧ Below W.heap.size W w') := Lib.hid (fun W => specIb_is b1 W HBZ.out bv HBV)
        have e5 : (f5 != f5) = false := by simp
        have e7 : (f7 != f7) = false := by simp
        have e9 : (f9 != f9) = false := by simp
        have eb : (bv != bv) = false := by simp
        have ei : (ix != ix) = false := by simp
        go_wp2_with fail
        refine region_kept p11.heap.size (by kernel_rfl) (by kernel_rfl) ?_
        repeat (go_big_quiet_step ((first | (go_at_call 15; first | with_reducible exact kept_call _ (Nat.le_refl _) (HK1.out _) | with_reducible exact kept_call _ (Nat.le_refl _) (HK2.out _)) | (go_at_call 19; with_reducible exact kept_call _ (Nat.le_refl _) (HK3.out _)) | (go_at_call 28; with_reducible exact kept_call _ (Nat.le_refl _) (HK4.out _)))))
        refine wpQuiet_nil ?_
        intro p12 hb
        replace HT := Lib.hid (HT.out.trans (hb.mono HT.out.size))
        replace HU := Lib.hid (HU.out.below hb (Nat.le_refl _))
        replace HR7 := Lib.hid (HR7.out.below hb (Nat.le_refl _))
        clear hb
        clear HK1 HK2 HK3 HK4 hx0 hx1 hx2 hx3 hbx HR8 HR9 HR10 HT8 HZ HP8
        cases f5
        · go_wp2
          go_ret
          exact ⟨rfl, HT.out⟩
        · have HSB := Lib.hid (swap_back HSW.out)
          go_wp2_with fail
          refine (implSwapBoxes_any sw A7 c7 r q _ HR7.out hswn HSWO.out hcA7).mono ?_
          intro e p13 hto
          obtain ⟨A11, c11, rfl, hb, hr, hcA11⟩ := hto.back HSB
          clear hto
          replace HT := Lib.hid (HT.out.trans (hb.mono HT.out.size))
          replace HU := Lib.hid (HU.out.below hb (Nat.le_refl _))
          clear hb
          have HR11 := Lib.hid hr; clear hr
          go_wp2_with fail
          refine (qBoxes_same u A11 U c11 dU _ HR11.out HU.out hun).mono ?_
          rintro e p14 ⟨rfl, hb⟩
          replace HT := Lib.hid (HT.out.trans (hb.mono HT.out.size))
          clear hb
          go_wp2
          go_ret
          exact ⟨rfl, HT.out⟩
  · obtain ⟨rfl, hput, htit⟩ := take_ti HOP.out HTI.out
    have HPB := Lib.hid hput; have HTT := Lib.hid htit
    clear hput htit
    go_wp2_with fail
    refine (implPutTypes_any t A1 c1 cs E dE _ HR1.out htn HTO.out hcA1 HS.out HSO.out hm).mono ?_
    intro e w10 hto
    obtain ⟨A5, c5, rfl, hb, hr, hcA5⟩ := hto.back HPB
    clear hto
    replace HT := Lib.hid (HT.out.trans (hb.mono HT.out.size))
    replace HL := Lib.hid (HL.out.below hb (Nat.le_refl _))
    replace HS := Lib.hid (HS.out.below hb (Nat.le_refl _))
    replace HR1 := Lib.hid (HR1.out.below hb (Nat.le_refl _))
    clear hb
    have HR5 := Lib.hid hr; clear hr
    go_wp2_with fail
    refine (implTi_is t A1 c1 _ HR1.out htn HTO.out hcA1 _ true HTT).mono ?_
    rintro e w11 ⟨rfl, hb⟩
    replace HT := Lib.hid (HT.out.trans (hb.mono HT.out.size))
    replace HL := Lib.hid (HL.out.below hb (Nat.le_refl _))
    replace HS := Lib.hid (HS.out.below hb (Nat.le_refl _))
    replace HR1 := Lib.hid (HR1.out.below hb (Nat.le_refl _))
    replace HR5 := Lib.hid (HR5.out.below hb (Nat.le_refl _))
    clear hb
    go_wp2_with fail
    refine (qBoxes_same l A5 B c5 d _ HR5.out HL.out hn).mono ?_
    rintro e w12 ⟨rfl, hb⟩
    replace HT := Lib.hid (HT.out.trans (hb.mono HT.out.size))
    replace HL := Lib.hid (HL.out.below hb (Nat.le_refl _))
    replace HS := Lib.hid (HS.out.below hb (Nat.le_refl _))
    replace HR1 := Lib.hid (HR1.out.below hb (Nat.le_refl _))
    clear hb
    go_wp2
    go_loopw [173] (fun i wr => ∃ (k : Nat), k ≤ l.length ∧ i = .int .i64 k ∧ Below w12.heap.size w12 wr) (fun i _ => l.length - (intOf i).toNat)
    case atStart => exact ⟨0, Nat.zero_le _, rfl, Below.refl _ _⟩
    case round =>
      obtain ⟨k, hk, rfl, hb⟩ := hrel
      by_cases hlt : k < l.length
      · have HLR := HL.out.below hb (Nat.le_refl _)
        obtain ⟨gb, off, hBe, hbl, hc⟩ := HLR (by omega)
        subst hBe
        obtain ⟨hc0, hc1, hc2, hc3⟩ := hc k hlt
        clear hc
        obtain ⟨x, hbo, hown⟩ := bo_own HCB.out hlt
        have hcz := HLO.out k hlt
        have hk1 : (k : Int) < (l.length : Int) := by omega
        have hcz' : (l[k]).cod.size ≤ maxLen := hcz
        clear hcz
        generalize l[k] = b0 at *
        have HBO := Lib.hid hbo; have HCZ := Lib.hid hcz'
        clear hbo hcz'
        obtain ⟨wv, hwv⟩ : ∃ wv, wv = wr.alloc (.cells #[.string b0.cod, .int .i64 b0.row, .int .i64 b0.col, .int .i64 b0.cnt] 40) := ⟨_, rfl⟩
        have hbv : Below wr.heap.size wr wv := by rw [hwv]; exact (Below.refl _ _).alloc (Nat.le_refl _) _
        have hlt0 : wr.heap.size < wv.heap.size := by rw [hwv]; simp
        have y0 : wv.cell? ⟨wr.heap.size, 0, none⟩ = some (.string b0.cod) := by rw [hwv, cell_of_heap (heap_new _ _)]; rfl
        have y1 : wv.cell? ⟨wr.heap.size, 1, none⟩ = some (.int .i64 b0.row) := by rw [hwv, cell_of_heap (heap_new _ _)]; rfl
        have y2 : wv.cell? ⟨wr.heap.size, 2, none⟩ = some (.int .i64 b0.col) := by rw [hwv, cell_of_heap (heap_new _ _)]; rfl
        have y3 : wv.cell? ⟨wr.heap.size, 3, none⟩ = some (.int .i64 b0.cnt) := by rw [hwv, cell_of_heap (heap_new _ _)]; rfl
        have HLV := Lib.hid (HLR.below hbv (Nat.le_refl _))
        have HBV := Lib.hid (hb.trans (hbv.mono hb.size))
        have HWV := Lib.hid hwv
        clear hb hbv hwv HLR
        go_wp2_with fail
        rw [← HWV.out]
        refine (implBo_is l _ d _ HLV.out hn HLO.out hcap b0.cod x _ HBO).mono ?_
        rintro e v1 ⟨rfl, hb1⟩
        have HB1 := Lib.hid (HBV.out.trans (hb1.mono HBV.out.size))
        clear hc0 hc1 hc2 hc3
        obtain ⟨rfl, hbb⟩ := hown (by first | rfl | trivial)
        have HBB : Hid (IbIs b0 true) := Lib.hid hbb
        have hq0 := (hb1.cell (p := ⟨wr.heap.size, 0, none⟩) hlt0).trans y0
        have hq1 := (hb1.cell (p := ⟨wr.heap.size, 1, none⟩) hlt0).trans y1
        have hq2 := (hb1.cell (p := ⟨wr.heap.size, 2, none⟩) hlt0).trans y2
        have hq3 := (hb1.cell (p := ⟨wr.heap.size, 3, none⟩) hlt0).trans y3
        clear hbb hb1 y0 y1 y2 y3 hown
        go_wp2_with fail
        refine (implIb_is b0 _ HCZ.out true HBB).mono ?_
        rintro e v2 ⟨rfl, hb2⟩
        have HB2 := Lib.hid (HB1.out.trans (hb2.mono HB1.out.size))
        clear hb2 hq0 hq1 hq2 hq3
        go_wp2
        go_roundw
        case rel => exact ⟨k + 1, by omega, by go_num, HB2.out⟩
        case measure => simp [intOf]; omega
      · obtain rfl : k = l.length := by omega
        replace HT := Lib.hid (HT.out.trans (hb.mono HT.out.size))
        clear hb
        clear HL HS HR1
        have HYX := Lib.hid (HY.out.under HT.out (Nat.le_refl _))
        go_wp2_with fail
        refine (drawSwap_any Ay cy ys _ HYX.out hys).mono ?_
        rintro e p1 ⟨u, U, dU, r, q, rfl, hul, hucap, huo, huin, hb⟩
        replace HT := Lib.hid (HT.out.trans (hb.mono HT.out.size))
        clear hb
        have HUO := Lib.hid huo; have HU := Lib.hid huin
        clear huo huin HYX
        have hun : u.length ≤ 1048576 := by omega
        obtain ⟨sw, f5, hsw⟩ : ∃ sw f5, OpIs (swR u r q) sw f5 := ⟨_, _, rfl, rfl⟩
        have hswk := swap_ok hsw HUO.out
        have hswl := hswk.2
        have hswn : sw.length ≤ 1048576 := by omega
        have HSW := Lib.hid hsw; have HSWO := Lib.hid hswk.1
        clear hsw hswk
        go_wp2_with fail
        refine (implSwapBoxes_any u U dU r q _ HU.out hun HUO.out hucap).mono ?_
        intro e p2 hto
        obtain ⟨A7, c7, rfl, hb, hr, hcA7⟩ := hto.back HSW
        clear hto
        replace HT := Lib.hid (HT.out.trans (hb.mono HT.out.size))
        replace HU := Lib.hid (HU.out.below hb (Nat.le_refl _))
        clear hb
        have HR7 := Lib.hid hr; clear hr
        go_wp2_with fail
        refine (specSwapBoxes_any u U dU r q _ HU.out hun HUO.out hucap).mono ?_
        intro e p3 hto
        obtain ⟨A8, c8, rfl, hb, hr, hcA8⟩ := hto.back HSW
        clear hto
        replace HT := Lib.hid (HT.out.trans (hb.mono HT.out.size))
        replace HU := Lib.hid (HU.out.below hb (Nat.le_refl _))
        replace HR7 := Lib.hid (HR7.out.below hb (Nat.le_refl _))
        clear hb
        have HR8 := Lib.hid hr; clear hr
        have HYX := Lib.hid (HY.out.under HT.out (Nat.le_refl _))
        go_wp2_with fail
        refine (drawPut_any Ay cy ys _ HYX.out hys).mono ?_
        rintro e p4 ⟨v, V, dV, ps, Pq, dP, rfl, hvl, hvcap, hvo, hvin, hpl, hpo, hpin, hb⟩
        replace HT := Lib.hid (HT.out.trans (hb.mono HT.out.size))
        replace HU := Lib.hid (HU.out.below hb (Nat.le_refl _))
        replace HR7 := Lib.hid (HR7.out.below hb (Nat.le_refl _))
        replace HR8 := Lib.hid (HR8.out.below hb (Nat.le_refl _))
        clear hb
        have HVO := Lib.hid hvo; have HV := Lib.hid hvin; have HPO := Lib.hid hpo; have HPS := Lib.hid hpin
        clear hvo hvin hpo hpin HYX
        have hvn : v.length ≤ 1048576 := by omega
        have hpn : ps.length ≤ 1048576 := by omega
        obtain ⟨fu, f7, hfu⟩ : ∃ fu f7, OpIs (mvR v ps 1) fu f7 := ⟨_, _, rfl, rfl⟩
        have hful : fu.length ≤ 1048576 := by
          have := mvR_short v ps 1
          rw [hfu.1] at this
          omega
        have HFU := Lib.hid hfu
        clear hfu
        go_wp2_with fail
        refine (implPutTypes_any v V dV ps Pq dP _ HV.out hvn HVO.out hvcap HPS.out HPO.out hpn).mono ?_
        intro e p5 hto
        obtain ⟨A9, c9, rfl, hb, hr, hcA9⟩ := hto.back HFU
        clear hto
        replace HT := Lib.hid (HT.out.trans (hb.mono HT.out.size))
        replace HU := Lib.hid (HU.out.below hb (Nat.le_refl _))
        replace HR7 := Lib.hid (HR7.out.below hb (Nat.le_refl _))
        replace HR8 := Lib.hid (HR8.out.below hb (Nat.le_refl _))
        replace HV := Lib.hid (HV.out.below hb (Nat.le_refl _))
        replace HPS := Lib.hid (HPS.out.below hb (Nat.le_refl _))
        clear hb
        have HR9 := Lib.hid hr; clear hr
        go_wp2_with fail
        refine (specPutTypes_any v V dV ps Pq dP _ HV.out hvn HVO.out hvcap HPS.out HPO.out hpn).mono ?_
        intro e p6 hto
        obtain ⟨A10, c10, rfl, hb, hr, hcA10⟩ := hto.back HFU
        clear hto
        replace HT := Lib.hid (HT.out.trans (hb.mono HT.out.size))
        replace HU := Lib.hid (HU.out.below hb (Nat.le_refl _))
        replace HR7 := Lib.hid (HR7.out.below hb (Nat.le_refl _))
        replace HR8 := Lib.hid (HR8.out.below hb (Nat.le_refl _))
        replace HR9 := Lib.hid (HR9.out.below hb (Nat.le_refl _))
        clear hb
        have HR10 := Lib.hid hr; clear hr
        clear HV HPS HVO HPO
        have HYX := Lib.hid (HY.out.under HT.out (Nat.le_refl _))
        go_wp2_with fail
        refine (drawIsBox_any Ay cy ys _ HYX.out hys).mono ?_
        rintro e p7 ⟨b1, rfl, hbz, hb⟩
        replace HT := Lib.hid (HT.out.trans (hb.mono HT.out.size))
        replace HU := Lib.hid (HU.out.below hb (Nat.le_refl _))
        replace HR7 := Lib.hid (HR7.out.below hb (Nat.le_refl _))
        replace HR8 := Lib.hid (HR8.out.below hb (Nat.le_refl _))
        replace HR9 := Lib.hid (HR9.out.below hb (Nat.le_refl _))
        replace HR10 := Lib.hid (HR10.out.below hb (Nat.le_refl _))
        clear hb
        have HBZ := Lib.hid hbz
        clear hbz HYX
        obtain ⟨p8, hp8⟩ : ∃ p8, p8 = p7.alloc (.cells #[.string b1.cod, .int .i64 b1.row, .int .i64 b1.col, .int .i64 b1.cnt] 40) := ⟨_, rfl⟩
        have hb : Below p7.heap.size p7 p8 := by rw [hp8]; exact (Below.refl _ _).alloc (Nat.le_refl _) _
        have hbx : p7.heap.size < p8.heap.size := by rw [hp8]; simp
        have z0 : p8.cell? ⟨p7.heap.size, 0, none⟩ = some (.string b1.cod) := by rw [hp8, cell_of_heap (heap_new _ _)]; rfl
        have z1 : p8.cell? ⟨p7.heap.size, 1, none⟩ = some (.int .i64 b1.row) := by rw [hp8, cell_of_heap (heap_new _ _)]; rfl
        have z2 : p8.cell? ⟨p7.heap.size, 2, none⟩ = some (.int .i64 b1.col) := by rw [hp8, cell_of_heap (heap_new _ _)]; rfl
        have z3 : p8.cell? ⟨p7.heap.size, 3, none⟩ = some (.int .i64 b1.cnt) := by rw [hp8, cell_of_heap (heap_new _ _)]; rfl
        replace HT := Lib.hid (HT.out.trans (hb.mono HT.out.size))
        replace HU := Lib.hid (HU.out.below hb (Nat.le_refl _))
        replace HR7 := Lib.hid (HR7.out.below hb (Nat.le_refl _))
        replace HR8 := Lib.hid (HR8.out.below hb (Nat.le_refl _))
        replace HR9 := Lib.hid (HR9.out.below hb (Nat.le_refl _))
        replace HR10 := Lib.hid (HR10.out.below hb (Nat.le_refl _))
        clear hb
        have HP8 := Lib.hid hp8
        have HZ : Hid (∀ W, Below p8.heap.size p8 W → (W.cell? ⟨p7.heap.size, 0, none⟩ = some (.string b1.cod) ∧ W.cell? ⟨p7.heap.size, 1, none⟩ = some (.int .i64 b1.row) ∧ W.cell? ⟨p7.heap.size, 2, none⟩ = some (.int .i64 b1.col) ∧ W.cell? ⟨p7.heap.size, 3, none⟩ = some (.int .i64 b1.cnt)) ∧ p7.heap.size < W.heap.size) := Lib.hid (fun W h =>
          ⟨⟨(h.cell (p := ⟨p7.heap.size, 0, none⟩) hbx).trans z0, (h.cell (p := ⟨p7.heap.size, 1, none⟩) hbx).trans z1, (h.cell (p := ⟨p7.heap.size, 2, none⟩) hbx).trans z2, (h.cell (p := ⟨p7.heap.size, 3, none⟩) hbx).trans z3⟩, Nat.lt_of_lt_of_le hbx h.size⟩)
        have HT8 := Lib.hid (Below.refl p8.heap.size p8)
        clear hp8 z0 z1 z2 z3 hbx
        have HYX := Lib.hid (HY.out.under HT.out (Nat.le_refl _))
        go_wp2_with fail
        rw [← HP8.out]
        refine (drawBoxOf_any Ay cy ys _ HYX.out hys).mono ?_
        rintro e p9 ⟨y, Y, dY, cc, rfl, hyl, hycap, hyo, hyin, hb⟩
        replace HT8 := Lib.hid (HT8.out.trans (hb.mono HT8.out.size))
        replace HT := Lib.hid (HT.out.trans (hb.mono HT.out.size))
        replace HU := Lib.hid (HU.out.below hb (Nat.le_refl _))
        replace HR7 := Lib.hid (HR7.out.below hb (Nat.le_refl _))
        replace HR8 := Lib.hid (HR8.out.below hb (Nat.le_refl _))
        replace HR9 := Lib.hid (HR9.out.below hb (Nat.le_refl _))
        replace HR10 := Lib.hid (HR10.out.below hb (Nat.le_refl _))
        clear hb
        have HYO := Lib.hid hyo; have HYI := Lib.hid hyin
        clear hyo hyin HYX
        have hyn : y.length ≤ 1048576 := by omega
        obtain ⟨ix, f9, hbo⟩ : ∃ ix f9, BoIs y cc ix f9 := ⟨_, _, rfl, rfl⟩
        have HBO := Lib.hid hbo; clear hbo
        go_wp2_with fail
        refine (implBo_is y Y dY _ HYI.out hyn HYO.out hycap cc ix f9 HBO).mono ?_
        rintro e p10 ⟨rfl, hb⟩
        replace HT8 := Lib.hid (HT8.out.trans (hb.mono HT8.out.size))
        replace HT := Lib.hid (HT.out.trans (hb.mono HT.out.size))
        replace HU := Lib.hid (HU.out.below hb (Nat.le_refl _))
        replace HR7 := Lib.hid (HR7.out.below hb (Nat.le_refl _))
        replace HR8 := Lib.hid (HR8.out.below hb (Nat.le_refl _))
        replace HR9 := Lib.hid (HR9.out.below hb (Nat.le_refl _))
        replace HR10 := Lib.hid (HR10.out.below hb (Nat.le_refl _))
        replace HYI := Lib.hid (HYI.out.below hb (Nat.le_refl _))
        clear hb
        go_wp2_with fail
        refine (specBo_is y Y dY _ HYI.out hyn HYO.out hycap cc ix f9 HBO).mono ?_
        rintro e p11 ⟨rfl, hb⟩
        replace HT8 := Lib.hid (HT8.out.trans (hb.mono HT8.out.size))
        replace HT := Lib.hid (HT.out.trans (hb.mono HT.out.size))
        replace HU := Lib.hid (HU.out.below hb (Nat.le_refl _))
        replace HR7 := Lib.hid (HR7.out.below hb (Nat.le_refl _))
        replace HR8 := Lib.hid (HR8.out.below hb (Nat.le_refl _))
        replace HR9 := Lib.hid (HR9.out.below hb (Nat.le_refl _))
        replace HR10 := Lib.hid (HR10.out.below hb (Nat.le_refl _))
        clear hb
        clear HYI HYO HBO
        obtain ⟨⟨z0, z1, z2, z3⟩, hbx⟩ := HZ.out p11 HT8.out
        have hx0 := KeptW.cell z0 hbx
        have hx1 := KeptW.cell z1 hbx
        have hx2 := KeptW.cell z2 hbx
        have hx3 := KeptW.cell z3 hbx
        clear z0 z1 z2 z3
        have HK1 : Hid (∀ x : KeptW p11.heap.size p11, Calls Tryd.prog 15 #[.slice A7 sw.length c7, .slice A8 sw.length c8] x.at_ fun e w' => e = .returned (.bool true) ∧ Below x.at_.heap.size x.at_ w') := by
          show ∀ _, _
          intro x
          exact qBoxes_same sw A7 A8 c7 c8 _ (HR7.out.below x.below (Nat.le_refl _)) (HR8.out.below x.below (Nat.le_refl _)) hswn
        have HK2 : Hid (∀ x : KeptW p11.heap.size p11, Calls Tryd.prog 15 #[.slice A9 fu.length c9, .slice A10 fu.length c10] x.at_ fun e w' => e = .returned (.bool true) ∧ Below x.at_.heap.size x.at_ w') := by
          show ∀ _, _
          intro x
          exact qBoxes_same fu A9 A10 c9 c10 _ (HR9.out.below x.below (Nat.le_refl _)) (HR10.out.below x.below (Nat.le_refl _)) hful
        obtain ⟨bv, hbv⟩ : ∃ bv, IbIs b1 bv := ⟨_, rfl⟩
        have HBV := Lib.hid hbv; clear hbv
        have HK3 : Hid (∀ W : World, Calls Tryd.prog 19 #[.agg #[.string b1.cod, .int .i64 b1.row, .int .i64 b1.col, .int .i64 b1.cnt]] W fun e w' => e = .returned (.bool bv) ∧ Below W.heap.size W w') := Lib.hid (fun W => implIb_is b1 W HBZ.out bv HBV)
        have HK4 : Hid (∀ W : World, Calls Tryd.prog 28 #[.agg #[.string b1.cod, .int .i64 b1.row, .int .i64 b1.col, .int .i64 b1.cnt]] W fun e w' => e = .returned (.bool bv) ∧ Below W.heap.size W w') := Lib.hid (fun W => specIb_is b1 W HBZ.out bv HBV)
        have e5 : (f5 != f5) = false := by simp
        have e7 : (f7 != f7) = false := by simp
        have e9 : (f9 != f9) = false := by simp
        have eb : (bv != bv) = false := by simp
        have ei : (ix != ix) = false := by simp
        go_wp2_with fail
        refine region_kept p11.heap.size (by kernel_rfl) (by kernel_rfl) ?_
        repeat (go_big_quiet_step ((first | (go_at_call 15; first | with_reducible exact kept_call _ (Nat.le_refl _) (HK1.out _) | with_reducible exact kept_call _ (Nat.le_refl _) (HK2.out _)) | (go_at_call 19; with_reducible exact kept_call _ (Nat.le_refl _) (HK3.out _)) | (go_at_call 28; with_reducible exact kept_call _ (Nat.le_refl _) (HK4.out _)))))
        refine wpQuiet_nil ?_
        intro p12 hb
        replace HT := Lib.hid (HT.out.trans (hb.mono HT.out.size))
        replace HU := Lib.hid (HU.out.below hb (Nat.le_refl _))
        replace HR7 := Lib.hid (HR7.out.below hb (Nat.le_refl _))
        clear hb
        clear HK1 HK2 HK3 HK4 hx0 hx1 hx2 hx3 hbx HR8 HR9 HR10 HT8 HZ HP8
        cases f5
        · go_wp2
          go_ret
          exact ⟨rfl, HT.out⟩
        · have HSB := Lib.hid (swap_back HSW.out)
          go_wp2_with fail
          refine (implSwapBoxes_any sw A7 c7 r q _ HR7.out hswn HSWO.out hcA7).mono ?_
          intro e p13 hto
          obtain ⟨A11, c11, rfl, hb, hr, hcA11⟩ := hto.back HSB
          clear hto
          replace HT := Lib.hid (HT.out.trans (hb.mono HT.out.size))
          replace HU := Lib.hid (HU.out.below hb (Nat.le_refl _))
          clear hb
          have HR11 := Lib.hid hr; clear hr
          go_wp2_with fail
          refine (qBoxes_same u A11 U c11 dU _ HR11.out HU.out hun).mono ?_
          rintro e p14 ⟨rfl, hb⟩
          replace HT := Lib.hid (HT.out.trans (hb.mono HT.out.size))
          clear hb
          go_wp2
          go_ret
          exact ⟨rfl, HT.out⟩

def laid3 : List (String × DataW Unit) := [("math/bits.deBruijn32tab", Rows.laid_math_bits_deBruijn32tab), ("math/bits.deBruijn64tab", Rows.laid_math_bits_deBruijn64tab), ("internal/strconv.uint64pow10", Rows.laid_internal_strconv_uint64pow10)]
noncomputable def gNo : Nat := (Tryd.prog.globalNamed "internal/strconv.uint64pow10").getD 0
set_option maxRecDepth 100000 in
theorem tab_of {W : World} (h : laidMetH Tryd.prog laid3 W) : Tab W := by
  rw [MakeChecks.laidMetH_plain _ _ _ (by kernel_rfl)] at h
  have h3 := h.tail.tail
  exact Lib.tabIs_of_head (g := gNo) (t := (Tryd.prog.globals[gNo]?.map (·.type)).getD 0) (e := 79) (n := 20) (by kernel_rfl) (by kernel_rfl) (by kernel_rfl) (by kernel_rfl) (by kernel_rfl) (by kernel_rfl) h3

set_option maxRecDepth 100000 in
theorem door_met (os : Os) (args : Array Value) : laidMetH Tryd.prog laid3 ((World.doorLaid Tryd.prog 400 os).forCall (fun _ _ => 0) ⟨#[], args, []⟩).memory :=
  laidMetH_of_parts3 (fuel := 8) (laidMet_of_run' 8 (by kernel_rfl) (by kernel_rfl)) (by kernel_rfl) (by kernel_rfl)

set_option maxRecDepth 100000 in
theorem lifted (os : Os) (started : os.Started) (H : Type) (enc : TypeId × Value → H) :
    ReturnsInHanded {} Tryd.checked os 4 .any (fun w args => (Rows.fnCasesSpec.pre enc Tryd.prog Tryd.f4 [] false w args ∧ laidMetH Tryd.prog laid3 w) ∧ sizedMet enc Tryd.prog Tryd.f4 (OpenSpec.ofChange Rows.fnCasesSpec) false w args)
      (Rows.fnCasesSpec.post enc Tryd.prog Tryd.f4 false true false false) := by
  refine returnsInHanded_of_change_and (C := Tryd.checked) (X := fun w _ => laidMetH Tryd.prog laid3 w) (fun _ _ _ hh h => h.of_heap hh) own started (by kernel_rfl) Tryd.func4
    (ChangeSpec.witness_shaped (enc := enc) (C := Tryd.checked) (os := os) (X := fun w _ => laidMetH Tryd.prog laid3 w) false (World.doorLaid Tryd.prog 400 os) #[.slice none 0 0, .slice none 0 0] 8 rfl (World.shaped_of_RefB (by kernel_rfl) (by kernel_rfl)) (by kernel_rfl) (by kernel_rfl) (by kernel_rfl) (door_met os _)) ?_
  intro W base args ds gs before hval0 hW _ _ hL _
  have hval : ∀ (j : Nat) t v, Tryd.f4.params[j]? = some t → args[j]? = some v → Value.okWide Tryd.prog W .any base t v := hval0
  have hW' := hW
  obtain ⟨p, q, hA0, hV, rfl, hfz, hnd⟩ := hW
  have hA : DataW.TrodAll enc Tryd.prog W 0 (fun _ => true) true Tryd.f4.params.toList args.toList ds p := hA0
  rw [Tryd.params4] at hA hval
  obtain ⟨v0, vs0, d0, ds0, p0, q0, hargs, rfl, rfl, h0, r0⟩ := trodAll_cons hA
  obtain ⟨v1, vs1, d1, ds1, p1, q1, rfl, rfl, rfl, h1, r1⟩ := trodAll_cons r0
  obtain ⟨rfl, rfl, rfl⟩ := trodAll_nil r1
  obtain rfl : args = #[v0, v1] := by cases args; simp_all
  obtain ⟨rfl, rfl⟩ := trodVars_none hV
  have k0 := h0
  have lt0 : ∀ x ∈ p0, x.block < W.heap.size := by obtain ⟨m, hm⟩ := k0; exact DataW.trod_lt m _ _ _ hm
  have k1 := h1
  have lt1 : ∀ x ∈ p1, x.block < W.heap.size := by obtain ⟨m, hm⟩ := k1; exact DataW.trod_lt m _ _ _ hm
  obtain ⟨A0, f0, c0, rfl, hs0, hl0⟩ := open_bytes (hval 0 30 v0 rfl rfl) h0
  obtain ⟨A1, f1, c1, rfl, hs1, hl1⟩ := open_bytes (hval 1 30 v1 rfl rfl) h1
  clear hA0 hval0
  refine (walk A0 f0 c0 A1 f1 c1 W hs0 hl0 hs1 hl1 (tab_of hL)).mono fun e W' ⟨he, bel⟩ => ?_
  subst he
  exact ⟨_, rfl, _, _, _, [], _, [], hW', trodAll_mk1 (shut_bool Tryd.underlying4 _), (trodAll_cons_mk (Below.trod laidOut (by kernel_rfl) (of_decide_eq_true (by kernel_rfl)) k0 bel lt0) (trodAll_cons_mk (Below.trod laidOut (by kernel_rfl) (of_decide_eq_true (by kernel_rfl)) k1 bel lt1) trodAll_mk0)), rfl, bel.frame _, fun h => by cases h⟩

theorem over : Rows.FnCasesSaid :=
  OpenClaim.holds_of_wide 4 Tryd.f4 rfl rfl rfl rfl rfl rfl rfl ⟨rfl, rfl, rfl, rfl, rfl⟩ rfl rfl rfl rfl rfl (by kernel_rfl) Tryd.func4 (by kernel_rfl)
    (of_decide_eq_true (by kernel_rfl)) (by unfold Func.isWrapper; first | (rw [if_pos (by decide +kernel)]; kernel_rfl) | (rw [if_neg (by decide +kernel)]; exact ⟨rfl, rfl⟩))
    (fun os started H enc _ => lifted os started H enc)

theorem proved : Rows.FnCasesCardSaid :=
  Claim7.holds_tied_plain_at .later [] [.data, .data, .data] true (true, "04a2aa74f8aff198e122f0d63ff1ed5023cf03276ed248cf8691a4df6afe259c") false
    over (fun _ h => by cases h) (by kernel_rfl) (fun _ h => by cases h) fnCases_row_tie rfl ⟨rfl, rfl⟩ (by kernel_rfl) rfl
    (fun f fn hf hfn => by
      obtain rfl : f = 4 := Option.some.inj ((show Tryd.prog.funcNamed "loop.example/g01054/laws.FnCases" = some 4 by kernel_rfl).symm.trans hf) |>.symm
      obtain rfl : fn = Tryd.f4 := (Option.some.inj (Tryd.func4.symm.trans hfn)).symm
      exact ⟨by kernel_rfl, fun j t ht => by
        rw [Tryd.params4] at ht
        have hm : t ∈ [30] := by simpa using Array.mem_of_getElem? ht
        have hall : ([30].all fun u => !Tryd.prog.wantsStandIn u) = true := by kernel_rfl
        exact (show Tryd.prog.wantsStandIn t = false by simpa using List.all_eq_true.1 hall t hm)⟩)
    (by kernel_rfl)
end Go.Proofs.YtllafkeheppkjaaDoor.fnCases
