/-
  The contract of impl.laterEnd: the later end of two machines that share castings.
-/
import Derived.Test.YtpocghcdfpcedaaKl
namespace Go.Proofs.Ytpocghcdfpcedaa
open Go.RowKit
set_option linter.unusedVariables false

theorem heap_alloc4_new (w : World) (a b c d : Obj) : ((((w.alloc a).alloc b).alloc c).alloc d).heap[w.heap.size + 3]? = some d := by
  have h := heap_new (((w.alloc a).alloc b).alloc c) d
  have e : (((w.alloc a).alloc b).alloc c).heap.size = w.heap.size + 3 := by simp
  rw [e] at h; exact h
/-- Two machines, one behind the other. -/
def mm (a b : Mc) : List Value := intsZ (a.zs ++ b.zs)
theorem Own.free {w : World} {b : Nat} {t : TypeId} {cs : List Value} (h : Own w b t cs) (i : Nat) : w.frozen? ⟨b, i, none⟩ = false := free_of_heap h i
theorem Own.next {w w' : World} {b : Nat} {t : TypeId} {cs : List Value} (h : Own w b t cs) (hb : Below w.heap.size w w') : Own w' b t cs := h.below hb h.lt
theorem Own.far {w : World} {b c i : Nat} {t : TypeId} {cs : List Value} (h : Own w b t cs) (hne : b ≠ c) (x : Value) : Own (w.setCell ⟨c, i, none⟩ x) b t cs := heap_far h hne x

set_option maxRecDepth 100000 in
set_option maxHeartbeats 8000000 in
theorem laterEnd_any (m n : Mc) (f : List Ca) (A : Option Addr) (c : Nat) (sh : List Int) (B : Option Addr) (d : Nat) (w : World) (hf : CasIn w A f) (hn : f.length ≤ 1048576) (hs : IntsIn w B sh) (hk : sh.length = f.length) (h01 : Is01 sh) (hm : goodMc m = true) (hmn : goodMc n = true) (hL : goodL f = true) :
    Calls Try.prog 68 #[.agg #[.int .i64 m.bod, .int .i64 m.hou, .int .i64 m.cha], .agg #[.int .i64 n.bod, .int .i64 n.hou, .int .i64 n.cha], .slice A f.length c, .slice B sh.length d] w fun e w' => e = .returned (.int .i64 (shE m n f sh)) ∧ Below w.heap.size w w' := by
  have h8 : sh.length ≤ 8 := by rw [hk]; exact (goodL_all hL).2
  have HK := Lib.hid hk
  have HF := Lib.hid hf; have HS := Lib.hid hs; have H01 := Lib.hid h01; have HGM := Lib.hid hm; have HGN := Lib.hid hmn; have HL := Lib.hid hL
  have HAO0 : Hid (∀ k, k ≤ sh.length → goodMc (shA m f 0 sh k).mc = true ∧ 0 ≤ (shA m f 0 sh k).t ∧ (shA m f 0 sh k).t ≤ 50000000) := Lib.hid (fun k hkk => shA_ok hm hL (by omega))
  have HAO1 : Hid (∀ k, k ≤ sh.length → goodMc (shA n f 1 sh k).mc = true ∧ 0 ≤ (shA n f 1 sh k).t ∧ (shA n f 1 sh k).t ≤ 50000000) := Lib.hid (fun k hkk => shA_ok hmn hL (by omega))
  clear hf hs h01 hm hmn hL hk
  go_enter Try.func68, Try.ntmps68
  go_wp2
  go_loopw [20] (fun i wr => ∃ k : Nat, k ≤ sh.length ∧ i = .int .i64 k ∧ Own wr (w.heap.size + 2) 85 (mm (shA m f 0 sh k).mc (shA n f 1 sh k).mc) ∧ Own wr (w.heap.size + 3) 86 (intsZ [(shA m f 0 sh k).t, (shA n f 1 sh k).t]) ∧ Below w.heap.size w wr) (fun i _ => sh.length - (intOf i).toNat)
  case atStart => exact ⟨0, Nat.zero_le _, rfl, by first | exact heap_alloc3_new _ _ _ _ | (apply Own.next (w := (((w.alloc _).alloc _).alloc _)) (heap_alloc3_new _ _ _ _); exact (Below.refl _ _).alloc (Nat.le_refl _) _) , heap_alloc4_new _ _ _ _ _, by repeat (first | exact Below.refl _ _ | (refine Below.alloc ?_ (by first | (simp; done) | (simp; omega)) _))⟩
  case round =>
    obtain ⟨k, hkk, rfl, har, hen, hb⟩ := hrel
    have HAR := Lib.hid har; have HEN := Lib.hid hen; have HB := Lib.hid hb
    clear har hen hb
    by_cases hlt : k < sh.length
    · obtain ⟨b', off', rfl, hbl', hc'⟩ := HS.out (by omega)
      have hco := (HB.out.cell (p := ⟨b', off' + k, none⟩) hbl').trans (hc' k hlt)
      clear hc'
      have hkl1 : (k : Int) < (sh.length : Int) := by omega
      have hkl0 : (0 : Int) ≤ (k : Int) := by omega
      have HP0 := Lib.hid (HAO0.out k hkk)
      have HP1 := Lib.hid (HAO1.out k hkk)
      rcases H01.out k hlt with e | e
      · rw [e] at hco
        have HE := Lib.hid e
        clear e
        have HKF := HK.out
        have HGX := Lib.hid (goodL_at HL.out (k := k) (by omega))
        have HAX := Lib.hid (atC_at (f := f) (j := k) (by omega))
        obtain ⟨b, off, hAe, hbl, hc⟩ := HF.out (by omega)
        subst hAe
        have HCJ := Lib.hid (cas_at hbl (hc k (by omega)))
        clear hc
        obtain ⟨x, hx⟩ : ∃ x, x = f[k]'(by omega) := ⟨_, rfl⟩
        rw [← hx] at HGX HAX HCJ
        clear hx HKF
        have hkl2 : (k : Int) < (f.length : Int) := by have := HK.out; omega
        obtain ⟨hx0, hx1⟩ := HCJ.out wr HB.out
        have HGS := Lib.hid HP0.out.1
        have hts := HP0.out.2
        have hcr := costI_range HGS.out HGX.out
        have HST : Hid (shA m f 0 sh (k + 1) = stp f (shA m f 0 sh k) (k : Int)) := Lib.hid (shA_yes hlt HE.out)
        have HNO : Hid (shA n f 1 sh (k + 1) = shA n f 1 sh k) := Lib.hid (shA_no hlt (by rw [HE.out]; decide))
        obtain ⟨S, hS⟩ : ∃ S, S = shA m f 0 sh k := ⟨_, rfl⟩
        obtain ⟨R, hR⟩ : ∃ R, R = shA n f 1 sh k := ⟨_, rfl⟩
        rw [← hS] at HST hts HGS hcr
        rw [← hR] at HNO
        rw [← hS, ← hR] at HAR HEN
        have HM1 : Hid ((shA m f 0 sh (k + 1)).mc = nextM S.mc x) := Lib.hid (by rw [HST.out]; unfold stp; rw [HAX.out])
        have HT1 : Hid ((shA m f 0 sh (k + 1)).t = S.t + costI S.mc x) := Lib.hid (by rw [HST.out]; unfold stp; rw [HAX.out])
        have HM2 : Hid ((shA n f 1 sh (k + 1)).mc = R.mc) := Lib.hid (by rw [HNO.out])
        have HT2 : Hid ((shA n f 1 sh (k + 1)).t = R.t) := Lib.hid (by rw [HNO.out])
        clear hS hR HST HNO HAX
        have a0 := HAR.out.cell 0
        have a1 := HAR.out.cell (0 + 1)
        have a2 := HAR.out.cell (0 + 2)
        simp only [mm, Mc.zs, intsZ, List.map_cons, List.map_nil, List.cons_append, List.nil_append, List.getElem?_cons_succ, List.getElem?_cons_zero, Nat.zero_add, Nat.reduceAdd] at a0 a1 a2
        have har := HAR.out.lt; have hen := HEN.out.lt
        have hbw : b < wr.heap.size := Nat.lt_of_lt_of_le hbl HB.out.size
        have hna : w.heap.size + 2 ≠ wr.heap.size := by omega
        have hnb : w.heap.size + 3 ≠ wr.heap.size := by omega
        go_wp2_with fail
        clear hco
        go_cut [13, 14] (fun s13 s14 wx => ∃ g : Nat, s13 = .pointer (some ⟨g, 0, none⟩) ∧ s14 = .int .i64 (costI S.mc x) ∧ w.heap.size + 3 < g ∧ McAt wx g 32 (nextM S.mc x) ∧ Own wx (w.heap.size + 2) 85 (mm S.mc R.mc) ∧ Own wx (w.heap.size + 3) 86 (intsZ [S.t, R.t]) ∧ Below w.heap.size w wx)
        case first =>
          go_region_law (first
  | (go_simp; go_at_call 64; refine (castNext_any S.mc x wr.drew HGS.out HGX.out).mono ?_; rintro e wq ⟨rfl, hq⟩; have hqb : Below wr.heap.size wr wq := ((Below.refl wr.heap.size wr).drew).trans (hq.mono (Nat.le_refl _)); have HBq := Lib.hid (HB.out.trans (hqb.mono HB.out.size)); have HAq := Lib.hid (HAR.out.next hqb); have HEq := Lib.hid (HEN.out.next hqb); have hql := HEq.out.lt; clear hq hqb)
  | (go_simp; go_at_call 64; refine (castNext_any S.mc x (wr.alloc (.cells #[.int .i64 0, .int .i64 0, .int .i64 0] 32)).drew HGS.out HGX.out).mono ?_; rintro e wq ⟨rfl, hq⟩; have hqb : Below wr.heap.size wr wq := (((Below.refl wr.heap.size wr).alloc (Nat.le_refl _) (.cells #[.int .i64 0, .int .i64 0, .int .i64 0] 32)).drew).trans (hq.mono (by show wr.heap.size ≤ (wr.alloc _).heap.size; simp)); have HZq : Hid (McAt wq wr.heap.size 32 ⟨0, 0, 0⟩) := Lib.hid ((show McAt (wr.alloc (.cells #[.int .i64 0, .int .i64 0, .int .i64 0] 32)).drew wr.heap.size 32 ⟨0, 0, 0⟩ from heap_new _ _).next hq); have HBq := Lib.hid (HB.out.trans (hqb.mono HB.out.size)); have HAq := Lib.hid (HAR.out.next hqb); have HEq := Lib.hid (HEN.out.next hqb); obtain ⟨z0, z1, z2⟩ := HZq.out.cells; have zf0 := HZq.out.free 0; have zf1 := HZq.out.free 1; have zf2 := HZq.out.free 2; have zl := HZq.out.lt; clear hq hqb))
          all_goals (go_wp2_with fail; go_meet; first | exact ⟨_, rfl, rfl, hql, McAt.new _ _ _, HAq.out.next ((Below.refl _ _).alloc (Nat.le_refl _) _), HEq.out.next ((Below.refl _ _).alloc (Nat.le_refl _) _), HBq.out.alloc HBq.out.size _⟩ | exact ⟨_, rfl, rfl, hen, HZq.out.put3 _ _ _, ((HAq.out.far (i := 0) hna _).far (i := 1) hna _).far (i := 2) hna _, ((HEq.out.far (i := 0) hnb _).far (i := 1) hnb _).far (i := 2) hnb _, ((HBq.out.setCell (p := ⟨wr.heap.size, 0, none⟩) HB.out.size _).setCell (p := ⟨wr.heap.size, 1, none⟩) HB.out.size _).setCell (p := ⟨wr.heap.size, 2, none⟩) HB.out.size _⟩)
        case rest =>
          obtain ⟨g, rfl, rfl, hgl, hgm, hxa, hxe, hxb⟩ := hcut
          have HXA := Lib.hid hxa; have HXE := Lib.hid hxe; have HXB := Lib.hid hxb; have HGM2 := Lib.hid hgm
          clear hgm hxa hxe hxb HAR HEN HB a0 a1 a2 hx0 hx1 har hen hna hnb hbw
          obtain ⟨g0, g1, g2⟩ := HGM2.out.cells
          have gl := HGM2.out.lt
          have hxal := HXA.out.lt; have hxel := HXE.out.lt
          obtain ⟨N, hN⟩ : ∃ N, N = nextM S.mc x := ⟨_, rfl⟩
          rw [← hN] at g0 g1 g2 HM1
          obtain ⟨q, hq⟩ : ∃ q, q = costI S.mc x := ⟨_, rfl⟩
          rw [← hq] at hcr HT1 ⊢
          clear hN hq HGM2
          have a0 := HXA.out.cell 0
          have a1 := HXA.out.cell (0 + 1)
          have a2 := HXA.out.cell (0 + 2)
          have af0 := HXA.out.free 0
          have af1 := HXA.out.free (0 + 1)
          have af2 := HXA.out.free (0 + 2)
          have e0 := HXE.out.cell 0
          have ef0 := HXE.out.free 0
          simp only [mm, Mc.zs, intsZ, List.map_cons, List.map_nil, List.cons_append, List.nil_append, List.getElem?_cons_succ, List.getElem?_cons_zero, Nat.zero_add, Nat.reduceAdd] at a0 a1 a2 af0 af1 af2 e0 ef0
          have hne1 : ¬ w.heap.size + 3 = w.heap.size + 2 := by omega
          have hne2 : ¬ w.heap.size + 2 = w.heap.size + 3 := by omega
          have HA1 := ((HXA.out.put 0 (.int .i64 N.bod)).put (0 + 1) (.int .i64 N.hou)).put (0 + 2) (.int .i64 N.cha)
          have HA2 := HA1.far (i := 0) hne2 (.int .i64 (S.t + q))
          have HE1 := (((HXE.out.far (i := 0) hne1 (.int .i64 N.bod)).far (i := 0 + 1) hne1 (.int .i64 N.hou)).far (i := 0 + 2) hne1 (.int .i64 N.cha)).put 0 (.int .i64 (S.t + q))
          have HAf : Hid (Own _ (w.heap.size + 2) 85 (mm (shA m f 0 sh (k + 1)).mc (shA n f 1 sh (k + 1)).mc)) := Lib.hid (by rw [HM1.out, HM2.out]; exact HA2)
          have HEf : Hid (Own _ (w.heap.size + 3) 86 (intsZ [(shA m f 0 sh (k + 1)).t, (shA n f 1 sh (k + 1)).t])) := Lib.hid (by rw [HT1.out, HT2.out]; exact HE1)
          have HBf := Lib.hid ((((HXB.out.setCell (p := ⟨w.heap.size + 2, 0, none⟩) (by show _ ≤ w.heap.size + 2; omega) (.int .i64 N.bod)).setCell (p := ⟨w.heap.size + 2, 0 + 1, none⟩) (by show _ ≤ w.heap.size + 2; omega) (.int .i64 N.hou)).setCell (p := ⟨w.heap.size + 2, 0 + 2, none⟩) (by show _ ≤ w.heap.size + 2; omega) (.int .i64 N.cha)).setCell (p := ⟨w.heap.size + 3, 0, none⟩) (by show _ ≤ w.heap.size + 3; omega) (.int .i64 (S.t + q)))
          clear HA1 HA2 HE1 HXA HXE HXB
          go_wp2
          go_roundw
          case rel => exact ⟨k + 1, by omega, by go_num, HAf.out, HEf.out, HBf.out⟩
          case measure => simp [intOf]; omega
      · rw [e] at hco
        have HE := Lib.hid e
        clear e
        have HKF := HK.out
        have HGX := Lib.hid (goodL_at HL.out (k := k) (by omega))
        have HAX := Lib.hid (atC_at (f := f) (j := k) (by omega))
        obtain ⟨b, off, hAe, hbl, hc⟩ := HF.out (by omega)
        subst hAe
        have HCJ := Lib.hid (cas_at hbl (hc k (by omega)))
        clear hc
        obtain ⟨x, hx⟩ : ∃ x, x = f[k]'(by omega) := ⟨_, rfl⟩
        rw [← hx] at HGX HAX HCJ
        clear hx HKF
        have hkl2 : (k : Int) < (f.length : Int) := by have := HK.out; omega
        obtain ⟨hx0, hx1⟩ := HCJ.out wr HB.out
        have HGS := Lib.hid HP1.out.1
        have hts := HP1.out.2
        have hcr := costI_range HGS.out HGX.out
        have HST : Hid (shA n f 1 sh (k + 1) = stp f (shA n f 1 sh k) (k : Int)) := Lib.hid (shA_yes hlt HE.out)
        have HNO : Hid (shA m f 0 sh (k + 1) = shA m f 0 sh k) := Lib.hid (shA_no hlt (by rw [HE.out]; decide))
        obtain ⟨S, hS⟩ : ∃ S, S = shA n f 1 sh k := ⟨_, rfl⟩
        obtain ⟨R, hR⟩ : ∃ R, R = shA m f 0 sh k := ⟨_, rfl⟩
        rw [← hS] at HST hts HGS hcr
        rw [← hR] at HNO
        rw [← hS, ← hR] at HAR HEN
        have HM1 : Hid ((shA n f 1 sh (k + 1)).mc = nextM S.mc x) := Lib.hid (by rw [HST.out]; unfold stp; rw [HAX.out])
        have HT1 : Hid ((shA n f 1 sh (k + 1)).t = S.t + costI S.mc x) := Lib.hid (by rw [HST.out]; unfold stp; rw [HAX.out])
        have HM2 : Hid ((shA m f 0 sh (k + 1)).mc = R.mc) := Lib.hid (by rw [HNO.out])
        have HT2 : Hid ((shA m f 0 sh (k + 1)).t = R.t) := Lib.hid (by rw [HNO.out])
        clear hS hR HST HNO HAX
        have a0 := HAR.out.cell 3
        have a1 := HAR.out.cell (3 + 1)
        have a2 := HAR.out.cell (3 + 2)
        simp only [mm, Mc.zs, intsZ, List.map_cons, List.map_nil, List.cons_append, List.nil_append, List.getElem?_cons_succ, List.getElem?_cons_zero, Nat.zero_add, Nat.reduceAdd] at a0 a1 a2
        have har := HAR.out.lt; have hen := HEN.out.lt
        have hbw : b < wr.heap.size := Nat.lt_of_lt_of_le hbl HB.out.size
        have hna : w.heap.size + 2 ≠ wr.heap.size := by omega
        have hnb : w.heap.size + 3 ≠ wr.heap.size := by omega
        go_wp2_with fail
        clear hco
        go_cut [13, 14] (fun s13 s14 wx => ∃ g : Nat, s13 = .pointer (some ⟨g, 0, none⟩) ∧ s14 = .int .i64 (costI S.mc x) ∧ w.heap.size + 3 < g ∧ McAt wx g 32 (nextM S.mc x) ∧ Own wx (w.heap.size + 2) 85 (mm R.mc S.mc) ∧ Own wx (w.heap.size + 3) 86 (intsZ [R.t, S.t]) ∧ Below w.heap.size w wx)
        case first =>
          go_region_law (first
  | (go_simp; go_at_call 64; refine (castNext_any S.mc x wr.drew HGS.out HGX.out).mono ?_; rintro e wq ⟨rfl, hq⟩; have hqb : Below wr.heap.size wr wq := ((Below.refl wr.heap.size wr).drew).trans (hq.mono (Nat.le_refl _)); have HBq := Lib.hid (HB.out.trans (hqb.mono HB.out.size)); have HAq := Lib.hid (HAR.out.next hqb); have HEq := Lib.hid (HEN.out.next hqb); have hql := HEq.out.lt; clear hq hqb)
  | (go_simp; go_at_call 64; refine (castNext_any S.mc x (wr.alloc (.cells #[.int .i64 0, .int .i64 0, .int .i64 0] 32)).drew HGS.out HGX.out).mono ?_; rintro e wq ⟨rfl, hq⟩; have hqb : Below wr.heap.size wr wq := (((Below.refl wr.heap.size wr).alloc (Nat.le_refl _) (.cells #[.int .i64 0, .int .i64 0, .int .i64 0] 32)).drew).trans (hq.mono (by show wr.heap.size ≤ (wr.alloc _).heap.size; simp)); have HZq : Hid (McAt wq wr.heap.size 32 ⟨0, 0, 0⟩) := Lib.hid ((show McAt (wr.alloc (.cells #[.int .i64 0, .int .i64 0, .int .i64 0] 32)).drew wr.heap.size 32 ⟨0, 0, 0⟩ from heap_new _ _).next hq); have HBq := Lib.hid (HB.out.trans (hqb.mono HB.out.size)); have HAq := Lib.hid (HAR.out.next hqb); have HEq := Lib.hid (HEN.out.next hqb); obtain ⟨z0, z1, z2⟩ := HZq.out.cells; have zf0 := HZq.out.free 0; have zf1 := HZq.out.free 1; have zf2 := HZq.out.free 2; have zl := HZq.out.lt; clear hq hqb))
          all_goals (go_wp2_with fail; go_meet; first | exact ⟨_, rfl, rfl, hql, McAt.new _ _ _, HAq.out.next ((Below.refl _ _).alloc (Nat.le_refl _) _), HEq.out.next ((Below.refl _ _).alloc (Nat.le_refl _) _), HBq.out.alloc HBq.out.size _⟩ | exact ⟨_, rfl, rfl, hen, HZq.out.put3 _ _ _, ((HAq.out.far (i := 0) hna _).far (i := 1) hna _).far (i := 2) hna _, ((HEq.out.far (i := 0) hnb _).far (i := 1) hnb _).far (i := 2) hnb _, ((HBq.out.setCell (p := ⟨wr.heap.size, 0, none⟩) HB.out.size _).setCell (p := ⟨wr.heap.size, 1, none⟩) HB.out.size _).setCell (p := ⟨wr.heap.size, 2, none⟩) HB.out.size _⟩)
        case rest =>
          obtain ⟨g, rfl, rfl, hgl, hgm, hxa, hxe, hxb⟩ := hcut
          have HXA := Lib.hid hxa; have HXE := Lib.hid hxe; have HXB := Lib.hid hxb; have HGM2 := Lib.hid hgm
          clear hgm hxa hxe hxb HAR HEN HB a0 a1 a2 hx0 hx1 har hen hna hnb hbw
          obtain ⟨g0, g1, g2⟩ := HGM2.out.cells
          have gl := HGM2.out.lt
          have hxal := HXA.out.lt; have hxel := HXE.out.lt
          obtain ⟨N, hN⟩ : ∃ N, N = nextM S.mc x := ⟨_, rfl⟩
          rw [← hN] at g0 g1 g2 HM1
          obtain ⟨q, hq⟩ : ∃ q, q = costI S.mc x := ⟨_, rfl⟩
          rw [← hq] at hcr HT1 ⊢
          clear hN hq HGM2
          have a0 := HXA.out.cell 3
          have a1 := HXA.out.cell (3 + 1)
          have a2 := HXA.out.cell (3 + 2)
          have af0 := HXA.out.free 3
          have af1 := HXA.out.free (3 + 1)
          have af2 := HXA.out.free (3 + 2)
          have e0 := HXE.out.cell 1
          have ef0 := HXE.out.free 1
          simp only [mm, Mc.zs, intsZ, List.map_cons, List.map_nil, List.cons_append, List.nil_append, List.getElem?_cons_succ, List.getElem?_cons_zero, Nat.zero_add, Nat.reduceAdd] at a0 a1 a2 af0 af1 af2 e0 ef0
          have hne1 : ¬ w.heap.size + 3 = w.heap.size + 2 := by omega
          have hne2 : ¬ w.heap.size + 2 = w.heap.size + 3 := by omega
          have HA1 := ((HXA.out.put 3 (.int .i64 N.bod)).put (3 + 1) (.int .i64 N.hou)).put (3 + 2) (.int .i64 N.cha)
          have HA2 := HA1.far (i := 1) hne2 (.int .i64 (S.t + q))
          have HE1 := (((HXE.out.far (i := 3) hne1 (.int .i64 N.bod)).far (i := 3 + 1) hne1 (.int .i64 N.hou)).far (i := 3 + 2) hne1 (.int .i64 N.cha)).put 1 (.int .i64 (S.t + q))
          have HAf : Hid (Own _ (w.heap.size + 2) 85 (mm (shA m f 0 sh (k + 1)).mc (shA n f 1 sh (k + 1)).mc)) := Lib.hid (by rw [HM1.out, HM2.out]; exact HA2)
          have HEf : Hid (Own _ (w.heap.size + 3) 86 (intsZ [(shA m f 0 sh (k + 1)).t, (shA n f 1 sh (k + 1)).t])) := Lib.hid (by rw [HT1.out, HT2.out]; exact HE1)
          have HBf := Lib.hid ((((HXB.out.setCell (p := ⟨w.heap.size + 2, 3, none⟩) (by show _ ≤ w.heap.size + 2; omega) (.int .i64 N.bod)).setCell (p := ⟨w.heap.size + 2, 3 + 1, none⟩) (by show _ ≤ w.heap.size + 2; omega) (.int .i64 N.hou)).setCell (p := ⟨w.heap.size + 2, 3 + 2, none⟩) (by show _ ≤ w.heap.size + 2; omega) (.int .i64 N.cha)).setCell (p := ⟨w.heap.size + 3, 1, none⟩) (by show _ ≤ w.heap.size + 3; omega) (.int .i64 (S.t + q)))
          clear HA1 HA2 HE1 HXA HXE HXB
          go_wp2
          go_roundw
          case rel => exact ⟨k + 1, by omega, by go_num, HAf.out, HEf.out, HBf.out⟩
          case measure => simp [intOf]; omega
    · obtain rfl : k = sh.length := by omega
      have e0 := HEN.out.cell 0
      have e1 := HEN.out.cell 1
      simp only [intsZ, List.map_cons, List.map_nil, List.getElem?_cons_succ, List.getElem?_cons_zero] at e0 e1
      have hel := HEN.out.lt
      have b0 := (HAO0.out sh.length (Nat.le_refl _)).2
      have b1 := (HAO1.out sh.length (Nat.le_refl _)).2
      have HV : Hid (shE m n f sh = max (shA m f 0 sh sh.length).t (shA n f 1 sh sh.length).t) := Lib.hid rfl
      generalize (shA m f 0 sh sh.length).t = T0 at *
      generalize (shA n f 1 sh sh.length).t = T1 at *
      go_wp2
      go_ret
      exact ⟨ret_int HV.out.symm, HB.out⟩
end Go.Proofs.Ytpocghcdfpcedaa
