/-
  The contract of impl.NearestFree: the walk.
-/
import Derived.Test.YtllafkeheppkjaaNg
namespace Go.Proofs.Ytllafkeheppkjaa
open Go.RowKit
set_option linter.unusedVariables false

def nX0 (st : Option (Nat × Nat)) : Int := match st with | none => 0 | some p => p.1
def nY0 (st : Option (Nat × Nat)) : Int := match st with | none => 0 | some p => p.2
theorem alloc_own {w : World} {t : TypeId} {cs : List Value} : Own (w.alloc (.cells cs.toArray t)) w.heap.size t cs := heap_new _ _
theorem Taken.nextT {w w' : World} {g : Nat} {m : List Bx} (h : Taken w g m) (hb : Below w.heap.size w w') : Taken w' g m := h.below hb h.lt
set_option maxRecDepth 100000 in
set_option maxHeartbeats 4000000 in
theorem implNearest_yes (l : List Bx) (A : Option Addr) (cap : Nat) (row col : Int) (w : World) (hf : BxsIn w A l) (hn : l.length ≤ 1048576) (ho : BxsOk l) (hv : caseB l = true) (hi : inCase row col = true) :
    Calls Try.prog 38 #[.slice A l.length cap, .int .i64 row, .int .i64 col] w fun e w' => e = .returned (.tuple #[.int .i64 (nX0 (nfR l row col 10)), .int .i64 (nY0 (nfR l row col 10)), .bool (nfR l row col 10).isSome]) ∧ Below w.heap.size w w' := by
  obtain ⟨wf, hwf⟩ : ∃ wf : World, wf = w.alloc (.cells #[.int .i64 row, .int .i64 col] 70) := ⟨_, rfl⟩
  have ho9 : Own wf w.heap.size 70 [.int .i64 row, .int .i64 col] := by rw [hwf]; exact heap_new _ _
  have hbf : Below w.heap.size w wf := by rw [hwf]; exact (Below.refl _ _).alloc (Nat.le_refl _) _
  have HFF := Lib.hid (hf.next hbf); clear hf
  have HBF := Lib.hid hbf; have HO9 := Lib.hid ho9
  have HO := Lib.hid ho; clear ho hbf ho9
  have HC := Lib.hid (caseB_iff.1 hv)
  have HV := Lib.hid hv; have HI := Lib.hid hi
  obtain ⟨⟨i1, i2⟩, i3, i4⟩ := inCase_iff.1 hi
  clear hv hi
  have HWF := Lib.hid hwf; clear hwf
  go_enter Try.func38, Try.ntmps38
  go_wp2_with fail
  rw [← HWF.out]
  refine (implIsCase_is l _ A cap _ HFF.out hn HO.out HV).mono ?_
  rintro e w1 ⟨rfl, hb1⟩
  have ho1 := HO9.out.next hb1
  have q0 : w1.cell? ⟨w.heap.size, 0, none⟩ = some (.int .i64 row) := ho1.cell 0
  have q1 : w1.cell? ⟨w.heap.size, 1, none⟩ = some (.int .i64 col) := ho1.cell 1
  go_wp2_with fail
  refine (isInCase_is row col _ _ HI).mono ?_
  rintro e w2 ⟨rfl, hb2⟩
  have HO2 := Lib.hid (ho1.next hb2)
  have HB2 : Hid (Below wf.heap.size wf w2) := Lib.hid (hb1.trans (hb2.mono hb1.size))
  clear hb1 hb2 ho1 q0 q1
  have HF2 := Lib.hid (HFF.out.next HB2.out)
  have HST : Hid (Taken (w2.alloc (.cells Try.zeroCells77 77)) w2.heap.size []) := Lib.hid (Taken.start w2 _ (by rw [zero_taken]; simp) (fun i hi => by rw [zero_taken]; simp [hi]))
  have HO2A := Lib.hid (HO2.out.alloc (.cells Try.zeroCells77 77))
  go_wp2
  go_loopw [33] (fun i wr => ∃ (k : Nat), k ≤ l.length ∧ i = .int .i64 k ∧ Taken wr w2.heap.size (l.take k) ∧ Below w2.heap.size w2 wr) (fun i _ => l.length - (intOf i).toNat)
  case atStart => exact ⟨0, Nat.zero_le _, rfl, HST.out, (Below.refl _ _).alloc (Nat.le_refl _) _⟩
  case round =>
    obtain ⟨k, hk, rfl, htk, hb⟩ := hrel
    by_cases hlt : k < l.length
    · obtain ⟨b, off, rfl, hbl, hc⟩ := HF2.out (by omega)
      obtain ⟨hc0, hc1, hc2, hc3⟩ := hc k hlt
      clear hc
      rw [← hb.cell (p := ⟨b, off + k * 4, none⟩) hbl] at hc0
      rw [← hb.cell (p := ⟨b, off + k * 4 + 1, none⟩) hbl] at hc1
      rw [← hb.cell (p := ⟨b, off + k * 4 + 2, none⟩) hbl] at hc2
      rw [← hb.cell (p := ⟨b, off + k * 4 + 3, none⟩) hbl] at hc3
      obtain ⟨⟨h1, h2⟩, ⟨h3, h4⟩, _, _⟩ := HC.out.range hlt
      obtain ⟨R, hR⟩ : ∃ R : Nat, l[k].row = (R : Int) := ⟨l[k].row.toNat, by omega⟩
      obtain ⟨C, hC⟩ : ∃ C : Nat, l[k].col = (C : Int) := ⟨l[k].col.toNat, by omega⟩
      rw [hR] at hc1 h1 h2
      rw [hC] at hc2 h3 h4
      have hR9 : R < 10 := by omega
      have hC9 : C < 10 := by omega
      have hR9' : (R : Int) < 10 := by omega
      have hC9' : (C : Int) < 10 := by omega
      have HR := Lib.hid hR; have HCC := Lib.hid hC
      clear hR hC
      obtain ⟨W0, hW0⟩ : ∃ W0 : World, W0 = wr.alloc (.cells #[.string l[k].cod, .int .i64 (R : Int), .int .i64 (C : Int), .int .i64 l[k].cnt] 26) := ⟨_, rfl⟩
      have htk0 : Taken W0 w2.heap.size (l.take k) := by rw [hW0]; exact htk.nextT ((Below.refl _ _).alloc (Nat.le_refl _) _)
      have hb0 : Below w2.heap.size w2 W0 := by rw [hW0]; exact hb.alloc hb.size _
      have hgl := htk.lt
      have r3 := htk0.cell hR9 hC9
      have r4 := htk0.free (R * 10 + C)
      have s1 : W0.cell? ⟨wr.heap.size, 1, none⟩ = some (.int .i64 (R : Int)) := by rw [hW0]; simp
      have s2 : W0.cell? ⟨wr.heap.size, 2, none⟩ = some (.int .i64 (C : Int)) := by rw [hW0]; simp
      have hne : ¬ wr.heap.size = w2.heap.size := by omega
      have HTK := Lib.hid htk0; have HB0 := Lib.hid hb0
      have HW0 := Lib.hid hW0
      clear htk hb htk0 hb0 hW0
      go_wp2_with fail
      rw [← HW0.out]
      clear hc0 hc1 hc2 hc3
      go_region
      go_wp2
      go_roundw
      case rel => exact ⟨k + 1, by omega, by go_num, by
        have h := HTK.out.set (x := l[k]) hR9 hC9 HR.out HCC.out
        rw [← List.take_succ_eq_append_getElem hlt] at h
        first | exact h | exact h.below ((Below.refl _ _).drew) h.lt, by
        first | exact HB0.out.setCell (Nat.le_refl _) _ | exact (HB0.out.setCell (Nat.le_refl _) _).drew | exact HB0.out.drew.setCell (Nat.le_refl _) _⟩
      case measure => simp [intOf]; omega
    · obtain rfl : k = l.length := by omega
      rw [List.take_length] at htk
      obtain ⟨cs, hcs, hcsz, hcg⟩ := htk
      have hgl := lt_of_heap hcs
      have HIX := Lib.hid (fun r hr W => index77 (l := l) hcsz hcg r hr W)
      have HGC : Hid ((wr.alloc (.cells #[.int .i64 0, .int .i64 0] 70)).heap[w2.heap.size]? = some (.cells cs 77 (0, 0))) := Lib.hid ((((Below.refl wr.heap.size wr).alloc (Nat.le_refl _) _).block _ hgl).trans hcs)
      have HIF : Hid ((Try.prog.info? 77).map (·.size) = some cs.size) := Lib.hid (by rw [info77, hcsz])
      have HO9R := Lib.hid ((HO2.out.below (B := w2.heap.size) hb HO2.out.lt).alloc (.cells #[.int .i64 0, .int .i64 0] 70))
      have HNE : Hid (Own (wr.alloc (.cells #[.int .i64 0, .int .i64 0] 70)) wr.heap.size 70 [.int .i64 0, .int .i64 0]) := Lib.hid (heap_new _ _)
      have HBR : Hid (Below w.heap.size w wr) := Lib.hid ((HBF.out.trans (HB2.out.mono HBF.out.size)).trans (hb.mono (HBF.out.trans (HB2.out.mono HBF.out.size)).size))
      have hw9 : w.heap.size < wr.heap.size := by
        have e1 := HO2.out.lt; have e2 := hb.size; omega
      obtain ⟨g, hg⟩ : ∃ g : Nat, g = wr.heap.size := ⟨_, rfl⟩
      have hwg : w.heap.size < g := by omega
      have HBA : Hid (Below w.heap.size w (wr.alloc (.cells #[.int .i64 0, .int .i64 0] 70))) := Lib.hid (HBR.out.alloc HBR.out.size _)
      rw [← hg] at HNE
      have HG := Lib.hid hg
      clear hcs hcsz hcg hb hgl hg HBR
      go_wp2_with (refine wpList_load_row rfl 77 _ rfl w2.heap.size rfl 77 cs (0, 0) _ HGC.out u77 rfl HIF.out ?_)
      rw [← HG.out]
      go_loopw [14, 46] (fun f i wi => ∃ (r : Nat), r ≤ 10 ∧ i = .int .i64 r ∧ f = .bool (nfR l row col r).isSome ∧ nfIn (nfR l row col r) ∧ Own wi g 70 [.int .i64 (nX0 (nfR l row col r)), .int .i64 (nY0 (nfR l row col r))] ∧ Own wi w.heap.size 70 [.int .i64 row, .int .i64 col] ∧ Below w.heap.size w wi) (fun _ i _ => 10 - (intOf i).toNat)
      case atStart => exact ⟨0, by omega, rfl, rfl, (fun p e => by cases e), HNE.out, HO9R.out, HBA.out⟩
      case round =>
        obtain ⟨r, hr, rfl, rfl, hin, hown, ho9, hb⟩ := hrel
        by_cases hlt : r < 10
        · have hr10 : (r : Int) < 10 := by omega
          have hr0 : (0 : Int) ≤ (r : Int) := by omega
          have hix := fun W => HIX.out r hlt W
          have HRN : Hid (nfR l row col (r + 1) = nfC l row col (nfR l row col r) r 10) := Lib.hid rfl
          have HOWN := Lib.hid (hown.alloc (.cells (rowB l r) 75)); have HO9 := Lib.hid (ho9.alloc (.cells (rowB l r) 75)); have HB := Lib.hid (hb.alloc hb.size (.cells (rowB l r) 75))
          have HIN := Lib.hid hin
          have HJX := Lib.hid (fun c hc W => index75 l r c hc W)
          clear hin hown ho9 hb
          generalize nfR l row col r = S at *
          simp only [rowB] at hix HOWN HO9 HB HJX
          go_wp2
          go_loopw [14, 51] (fun f i wi => ∃ (c : Nat), c ≤ 10 ∧ i = .int .i64 c ∧ f = .bool (nfC l row col S r c).isSome ∧ nfIn (nfC l row col S r c) ∧ Own wi g 70 [.int .i64 (nX0 (nfC l row col S r c)), .int .i64 (nY0 (nfC l row col S r c))] ∧ Own wi w.heap.size 70 [.int .i64 row, .int .i64 col] ∧ Below w.heap.size w wi) (fun _ i _ => 10 - (intOf i).toNat)
          case atStart => exact ⟨0, by omega, rfl, rfl, HIN.out, HOWN.out, HO9.out, HB.out⟩
          case round =>
            obtain ⟨c, hc, rfl, rfl, hin2, hown2, ho92, hb2⟩ := hrel
            by_cases hlt2 : c < 10
            · have hc10 : (c : Int) < 10 := by omega
              have hjx := fun W => HJX.out c hlt2 W
              have HCN : Hid (nfC l row col S r (c + 1) = nfUpd l row col (nfC l row col S r c) r c) := Lib.hid rfl
              have HIN2 := Lib.hid hin2
              have HUI := Lib.hid (nfUpd_in (l := l) (row := row) (col := col) (c := c) hin2 hlt hlt2)
              clear hin2
              generalize nfC l row col S r c = T at *
              obtain ⟨W0, hW0⟩ : ∃ W0 : World, W0 = wr.alloc (.cells #[.int .i64 (r : Int), .int .i64 (c : Int)] 70) := ⟨_, rfl⟩
              have HOG : Hid (Own W0 g 70 [.int .i64 (nX0 T), .int .i64 (nY0 T)]) := Lib.hid (by rw [hW0]; exact hown2.alloc _)
              have HOF : Hid (Own W0 w.heap.size 70 [.int .i64 row, .int .i64 col]) := Lib.hid (by rw [hW0]; exact ho92.alloc _)
              have HON : Hid (Own W0 wr.heap.size 70 [.int .i64 (r : Int), .int .i64 (c : Int)]) := Lib.hid (by rw [hW0]; exact heap_new _ _)
              have HBI : Hid (Below w.heap.size w W0) := Lib.hid (by rw [hW0]; exact hb2.alloc hb2.size _)
              have HW0 := Lib.hid hW0
              clear hown2 ho92 hb2 hW0
              have x0 := KeptW.cell (show W0.cell? ⟨wr.heap.size, 0, none⟩ = some (.int .i64 (r : Int)) from HON.out.cell 0) HON.out.lt
              have x1 := KeptW.cell (show W0.cell? ⟨wr.heap.size, 1, none⟩ = some (.int .i64 (c : Int)) from HON.out.cell 1) HON.out.lt
              have x4 := KeptW.cell (show W0.cell? ⟨w.heap.size, 0, none⟩ = some (.int .i64 row) from HOF.out.cell 0) HOF.out.lt
              have x5 := KeptW.cell (show W0.cell? ⟨w.heap.size, 1, none⟩ = some (.int .i64 col) from HOF.out.cell 1) HOF.out.lt
              cases hu : hasP l r c
              · cases T with
                | none =>
                  have HN : Hid (nfC l row col S r (c + 1) = some (r, c)) := Lib.hid (by rw [HCN.out, nfUpd_none hu])
                  have HINN : Hid (nfIn (some (r, c))) := Lib.hid (by rw [← HN.out, HCN.out]; exact HUI.out)
                  rw [hu] at hjx
                  clear hu
                  go_wp2_with fail
                  rw [← HW0.out]
                  refine region_kept W0.heap.size (by kernel_rfl) (by kernel_rfl) ?_
                  repeat (go_big_quiet_step (fail))
                  refine wpQuiet_nil ?_
                  intro w3 hb3
                  have hog3 := HOG.out.next hb3
                  have hon3 := HON.out.next hb3
                  have q0 : w3.cell? ⟨wr.heap.size, 0, none⟩ = some (.int .i64 (r : Int)) := hon3.cell 0
                  have q1 : w3.cell? ⟨wr.heap.size, 1, none⟩ = some (.int .i64 (c : Int)) := hon3.cell 1
                  have z0 := hog3.free 0
                  have z1 := hog3.free 1
                  have v0 : ∃ u, w3.cell? ⟨g, 0, none⟩ = some u := ⟨_, hog3.cell 0⟩
                  have v1 : ∃ u, w3.cell? ⟨g, 1, none⟩ = some u := ⟨_, hog3.cell 1⟩
                  obtain ⟨v0, hv0⟩ := v0; obtain ⟨v1, hv1⟩ := v1
                  have HOS : Hid (Own ((w3.setCell ⟨g, 0, none⟩ (.int .i64 (r : Int))).setCell ⟨g, 1, none⟩ (.int .i64 (c : Int))) g 70 [.int .i64 (r : Int), .int .i64 (c : Int)]) := Lib.hid ((hog3.set 0 (.int .i64 (r : Int))).set 1 (.int .i64 (c : Int)))
                  have HOF3 : Hid (Own ((w3.setCell ⟨g, 0, none⟩ (.int .i64 (r : Int))).setCell ⟨g, 1, none⟩ (.int .i64 (c : Int))) w.heap.size 70 [.int .i64 row, .int .i64 col]) := Lib.hid (((HOF.out.next hb3).other (p := ⟨g, 0, none⟩) (by show ¬ w.heap.size = g; omega) _).other (p := ⟨g, 1, none⟩) (by show ¬ w.heap.size = g; omega) _)
                  have HB3 := Lib.hid (((HBI.out.trans (hb3.mono HBI.out.size)).setCell (p := ⟨g, 0, none⟩) (by show w.heap.size ≤ g; omega) (.int .i64 (r : Int))).setCell (p := ⟨g, 1, none⟩) (by show w.heap.size ≤ g; omega) (.int .i64 (c : Int)))
                  clear hb3 hog3 hon3 x0 x1 x4 x5
                  go_wp2
                  go_roundw
                  case rel => exact ⟨c + 1, by omega, by go_num, by rw [HN.out] <;> rfl, by rw [HN.out]; exact HINN.out, by rw [HN.out]; exact HOS.out, HOF3.out, HB3.out⟩
                  case measure => simp [intOf]; omega
                | some p =>
                  obtain ⟨x, y⟩ := p
                  obtain ⟨hx10, hy10⟩ := HIN2.out (x, y) rfl
                  have t1 : nX0 (some (x, y)) = (x : Int) := rfl
                  have t2 : nY0 (some (x, y)) = (y : Int) := rfl
                  rw [t1, t2] at HOG
                  have x2 := KeptW.cell (show W0.cell? ⟨g, 0, none⟩ = some (.int .i64 (x : Int)) from HOG.out.cell 0) HOG.out.lt
                  have x3 := KeptW.cell (show W0.cell? ⟨g, 1, none⟩ = some (.int .i64 (y : Int)) from HOG.out.cell 1) HOG.out.lt
                  have HD1 : Hid (DistIs (r : Int) row (absI ((r : Int) - row))) := Lib.hid ⟨by omega, ⟨i1, i2⟩, rfl⟩
                  have HD2 : Hid (DistIs (c : Int) col (absI ((c : Int) - col))) := Lib.hid ⟨by omega, ⟨i3, i4⟩, rfl⟩
                  have HD3 : Hid (DistIs (x : Int) row (absI ((x : Int) - row))) := Lib.hid ⟨by omega, ⟨i1, i2⟩, rfl⟩
                  have HD4 : Hid (DistIs (y : Int) col (absI ((y : Int) - col))) := Lib.hid ⟨by omega, ⟨i3, i4⟩, rfl⟩
                  have a1 := absI_range (a := (r : Int)) (b := row) (by omega) ⟨i1, i2⟩
                  have a2 := absI_range (a := (c : Int)) (b := col) (by omega) ⟨i3, i4⟩
                  have a3 := absI_range (a := (x : Int)) (b := row) (by omega) ⟨i1, i2⟩
                  have a4 := absI_range (a := (y : Int)) (b := col) (by omega) ⟨i3, i4⟩
                  rw [hu] at hjx
                  by_cases hd : dst row col r c < dst row col x y
                  · have HN : Hid (nfC l row col S r (c + 1) = some (r, c)) := Lib.hid (by rw [HCN.out, nfUpd_lt hu hd])
                    have HINN : Hid (nfIn (some (r, c))) := Lib.hid (by rw [← HN.out, HCN.out]; exact HUI.out)
                    have hd2 : absI ((r : Int) - row) + absI ((c : Int) - col) < absI ((x : Int) - row) + absI ((y : Int) - col) := hd
                    clear hu hd t1 t2
                    go_wp2_with fail
                    rw [← HW0.out]
                    refine region_kept W0.heap.size (by kernel_rfl) (by kernel_rfl) ?_
                    repeat (go_big_quiet_step ((go_at_call 74; first | with_reducible exact kept_call _ (Nat.le_refl _) (wayTo_is (r : Int) (c : Int) row col _ _ _ HD1 HD2 a1.1 a1.2 a2.1 a2.2) | with_reducible exact kept_call _ (Nat.le_refl _) (wayTo_is (x : Int) (y : Int) row col _ _ _ HD3 HD4 a3.1 a3.2 a4.1 a4.2))))
                    refine wpQuiet_nil ?_
                    intro w3 hb3
                    have hog3 := HOG.out.next hb3
                    have hon3 := HON.out.next hb3
                    have q0 : w3.cell? ⟨wr.heap.size, 0, none⟩ = some (.int .i64 (r : Int)) := hon3.cell 0
                    have q1 : w3.cell? ⟨wr.heap.size, 1, none⟩ = some (.int .i64 (c : Int)) := hon3.cell 1
                    have z0 := hog3.free 0
                    have z1 := hog3.free 1
                    have hv0 : w3.cell? ⟨g, 0, none⟩ = some (.int .i64 (x : Int)) := hog3.cell 0
                    have hv1 : w3.cell? ⟨g, 1, none⟩ = some (.int .i64 (y : Int)) := hog3.cell 1
                    clear x2 x3
                    have HOS : Hid (Own ((w3.setCell ⟨g, 0, none⟩ (.int .i64 (r : Int))).setCell ⟨g, 1, none⟩ (.int .i64 (c : Int))) g 70 [.int .i64 (r : Int), .int .i64 (c : Int)]) := Lib.hid ((hog3.set 0 (.int .i64 (r : Int))).set 1 (.int .i64 (c : Int)))
                    have HOF3 : Hid (Own ((w3.setCell ⟨g, 0, none⟩ (.int .i64 (r : Int))).setCell ⟨g, 1, none⟩ (.int .i64 (c : Int))) w.heap.size 70 [.int .i64 row, .int .i64 col]) := Lib.hid (((HOF.out.next hb3).other (p := ⟨g, 0, none⟩) (by show ¬ w.heap.size = g; omega) _).other (p := ⟨g, 1, none⟩) (by show ¬ w.heap.size = g; omega) _)
                    have HB3 := Lib.hid (((HBI.out.trans (hb3.mono HBI.out.size)).setCell (p := ⟨g, 0, none⟩) (by show w.heap.size ≤ g; omega) (.int .i64 (r : Int))).setCell (p := ⟨g, 1, none⟩) (by show w.heap.size ≤ g; omega) (.int .i64 (c : Int)))
                    clear hb3 hog3 hon3 x0 x1 x4 x5
                    go_wp2
                    go_roundw
                    case rel => exact ⟨c + 1, by omega, by go_num, by rw [HN.out] <;> rfl, by rw [HN.out]; exact HINN.out, by rw [HN.out]; exact HOS.out, HOF3.out, HB3.out⟩
                    case measure => simp [intOf]; omega
                  · have HN : Hid (nfC l row col S r (c + 1) = some (x, y)) := Lib.hid (by rw [HCN.out, nfUpd_ge hu hd])
                    have hd2 : ¬ absI ((r : Int) - row) + absI ((c : Int) - col) < absI ((x : Int) - row) + absI ((y : Int) - col) := hd
                    clear hu hd t1 t2
                    go_wp2_with fail
                    rw [← HW0.out]
                    refine region_kept W0.heap.size (by kernel_rfl) (by kernel_rfl) ?_
                    repeat (go_big_quiet_step ((go_at_call 74; first | with_reducible exact kept_call _ (Nat.le_refl _) (wayTo_is (r : Int) (c : Int) row col _ _ _ HD1 HD2 a1.1 a1.2 a2.1 a2.2) | with_reducible exact kept_call _ (Nat.le_refl _) (wayTo_is (x : Int) (y : Int) row col _ _ _ HD3 HD4 a3.1 a3.2 a4.1 a4.2))))
                    refine wpQuiet_nil ?_
                    intro w3 hb3
                    have HOG3 := Lib.hid (HOG.out.next hb3)
                    have HOF3 := Lib.hid (HOF.out.next hb3)
                    have HB3 := Lib.hid (HBI.out.trans (hb3.mono HBI.out.size))
                    clear hb3 x0 x1 x2 x3 x4 x5
                    go_wp2
                    go_roundw
                    case rel => exact ⟨c + 1, by omega, by go_num, by rw [HN.out] <;> rfl, by rw [HN.out]; exact HIN2.out, by rw [HN.out]; exact HOG3.out, HOF3.out, HB3.out⟩
                    case measure => simp [intOf]; omega
              · have HN : Hid (nfC l row col S r (c + 1) = T) := Lib.hid (by rw [HCN.out, nfUpd_used hu])
                rw [hu] at hjx
                clear hu
                go_wp2_with fail
                rw [← HW0.out]
                refine region_kept W0.heap.size (by kernel_rfl) (by kernel_rfl) ?_
                repeat (go_big_quiet_step (fail))
                refine wpQuiet_nil ?_
                intro w3 hb3
                have HOG3 := Lib.hid (HOG.out.next hb3)
                have HOF3 := Lib.hid (HOF.out.next hb3)
                have HB3 := Lib.hid (HBI.out.trans (hb3.mono HBI.out.size))
                clear hb3 x0 x1 x4 x5
                go_wp2
                go_roundw
                case rel => exact ⟨c + 1, by omega, by go_num, by rw [HN.out] <;> rfl, by rw [HN.out]; exact HIN2.out, by rw [HN.out]; exact HOG3.out, HOF3.out, HB3.out⟩
                case measure => simp [intOf]; omega
            · obtain rfl : c = 10 := by omega
              have HI2 := Lib.hid hin2; have HO2 := Lib.hid hown2; have HO3 := Lib.hid ho92; have HO4 := Lib.hid hb2
              clear hin2 hown2 ho92 hb2
              go_wp2
              go_roundw
              case rel => exact ⟨r + 1, by omega, by go_num, by rw [HRN.out], by rw [HRN.out]; exact HI2.out, by rw [HRN.out]; exact HO2.out, HO3.out, HO4.out⟩
              case measure => simp [intOf]; omega
        · obtain rfl : r = 10 := by omega
          have h0 : wr.cell? ⟨g, 0, none⟩ = some (.int .i64 (nX0 (nfR l row col 10))) := hown.cell 0
          have h1 : wr.cell? ⟨g, 1, none⟩ = some (.int .i64 (nY0 (nfR l row col 10))) := hown.cell 1
          have x0 := KeptW.cell h0 hown.lt
          have x1 := KeptW.cell h1 hown.lt
          clear hown ho9 hin h0 h1
          go_wp2_with fail
          refine region_kept wr.heap.size (by kernel_rfl) (by kernel_rfl) ?_
          repeat (go_big_quiet_step (fail))
          refine wpQuiet_nil ?_
          intro w3 hb3
          have hbb := hb.trans (hb3.mono hb.size)
          clear x0 x1 hb hb3
          go_wp2
          go_ret3
          exact ⟨rfl, hbb⟩

theorem implNearestFree_any (l : List Bx) (A : Option Addr) (cap : Nat) (row col : Int) (w : World) (hf : BxsIn w A l) (hn : l.length ≤ 1048576) (ho : BxsOk l) (hcap : l.length ≤ cap) :
    Calls Try.prog 38 #[.slice A l.length cap, .int .i64 row, .int .i64 col] w fun e w' => e = .returned (.tuple #[.int .i64 (((nfA l row col).getD (0, 0)).1 : Nat), .int .i64 (((nfA l row col).getD (0, 0)).2 : Nat), .bool (nfA l row col).isSome]) ∧ Below w.heap.size w w' := by
  by_cases hb : caseB l = true ∧ inCase row col = true
  · obtain ⟨e1, p, e2⟩ := nfA_yes hb.1 hb.2
    refine (implNearest_yes l A cap row col w hf hn ho hb.1 hb.2).mono ?_
    rintro e w1 ⟨rfl, hb1⟩
    refine ⟨?_, hb1⟩
    rw [e1, e2]; rfl
  · have HE : Hid (nfA l row col = none) := Lib.hid (by unfold nfA; rw [if_neg hb])
    obtain ⟨wf, hwf⟩ : ∃ wf : World, wf = w.alloc (.cells #[.int .i64 row, .int .i64 col] 70) := ⟨_, rfl⟩
    have ho9 : Own wf w.heap.size 70 [.int .i64 row, .int .i64 col] := by rw [hwf]; exact heap_new _ _
    have hbf : Below w.heap.size w wf := by rw [hwf]; exact (Below.refl _ _).alloc (Nat.le_refl _) _
    have HFF := Lib.hid (hf.next hbf); clear hf
    have HBF := Lib.hid hbf; have HO9 := Lib.hid ho9
    have HO := Lib.hid ho; clear ho hbf ho9
    have HWF := Lib.hid hwf; clear hwf
    cases hv : caseB l
    · have HV := Lib.hid hv; clear hv hb
      go_enter Try.func38, Try.ntmps38
      go_wp2_with fail
      rw [← HWF.out]
      refine (implIsCase_is l _ A cap _ HFF.out hn HO.out HV).mono ?_
      rintro e w1 ⟨rfl, hb1⟩
      go_wp2
      go_ret3
      exact ⟨by rw [HE.out]; rfl, HBF.out.trans (hb1.mono HBF.out.size)⟩
    · have hi : inCase row col = false := by
        cases h : inCase row col
        · rfl
        · exact absurd ⟨hv, h⟩ hb
      have HV := Lib.hid hv; have HI := Lib.hid hi; clear hv hb hi
      go_enter Try.func38, Try.ntmps38
      go_wp2_with fail
      rw [← HWF.out]
      refine (implIsCase_is l _ A cap _ HFF.out hn HO.out HV).mono ?_
      rintro e w1 ⟨rfl, hb1⟩
      have ho1 := HO9.out.next hb1
      have q0 : w1.cell? ⟨w.heap.size, 0, none⟩ = some (.int .i64 row) := ho1.cell 0
      have q1 : w1.cell? ⟨w.heap.size, 1, none⟩ = some (.int .i64 col) := ho1.cell 1
      go_wp2_with fail
      refine (isInCase_is row col _ _ HI).mono ?_
      rintro e w2 ⟨rfl, hb2⟩
      have hbb := HBF.out.trans ((hb1.trans (hb2.mono hb1.size)).mono HBF.out.size)
      clear hb1 hb2 ho1 q0 q1
      go_wp2
      go_ret3
      exact ⟨by rw [HE.out]; rfl, hbb⟩
end Go.Proofs.Ytllafkeheppkjaa
