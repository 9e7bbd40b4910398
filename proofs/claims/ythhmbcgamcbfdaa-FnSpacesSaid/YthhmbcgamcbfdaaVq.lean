/-
  The contract of impl.FewestSpaces.
-/
import Derived.Test.YthhmbcgamcbfdaaVn
import Derived.Test.YthhmbcgamcbfdaaVo
import Derived.Test.YthhmbcgamcbfdaaVp
namespace Go.Proofs.Ythhmbcgamcbfdaa
open Go.RowKit Go.Shelf
set_option linter.unusedVariables false
attribute [local go_sem] Oper.semAt_some encB BwI.w

theorem BwI.mem {ks : List Int} (x : BwI ks) : x.w ∈ ks := List.getElem_mem x.lt
/-- What a round makes of what is left and of the counts. -/
noncomputable def stpF {ks : List Int} (s : Int × (Nat → Int)) (x : BwI ks) : Int × (Nat → Int) := (s.1 - (useC ks s.1 x.w : Int) * x.w, fun j => if j = x.i then s.2 j + (useC ks s.1 x.w : Int) else s.2 j)
noncomputable def stF {ks : List Int} (N : Int) (pre : List (BwI ks)) : Int × (Nat → Int) := pre.foldl stpF (N, fun _ => 0)
theorem stF_snoc {ks : List Int} (N : Int) (pre : List (BwI ks)) (x : BwI ks) : stF N (pre ++ [x]) = stpF (stF N pre) x := by simp [stF]
def GoodS (ks : List Int) (N : Int) (s : Int × (Nat → Int)) : Prop := Can ks s.1 ∧ s.1 ≤ N ∧ ∀ j, 0 ≤ s.2 j ∧ s.2 j + s.1 ≤ N
theorem goodS_start {ks : List Int} (hp : Pos ks) {N : Int} (h : Can ks N) : GoodS ks N (N, fun _ => 0) := ⟨h, Int.le_refl _, fun j => ⟨Int.le_refl _, by simp⟩⟩
theorem goodS_step {ks : List Int} (hp : Pos ks) {N : Int} {s : Int × (Nat → Int)} (h : GoodS ks N s) (x : BwI ks) : GoodS ks N (stpF s x) := by
  have hv1 := hp _ x.mem
  obtain ⟨h1, h2⟩ := useC_spec hp hv1 h.1
  have h3 := nat_mul_nonneg hv1 (useC ks s.1 x.w)
  refine ⟨h1.2.1, by show s.1 - _ ≤ N; have := h.2.1; omega, fun j => ?_⟩
  have h4 := h.2.2 j
  show 0 ≤ (if j = x.i then s.2 j + (useC ks s.1 x.w : Int) else s.2 j) ∧ (if j = x.i then s.2 j + (useC ks s.1 x.w : Int) else s.2 j) + (s.1 - (useC ks s.1 x.w : Int) * x.w) ≤ N
  split <;> omega
theorem stF_bw {ks : List Int} (N : Int) : ∀ k : Nat, k ≤ ks.length → (stF N (bwL ks k)).1 = remF ks N k ∧ ∀ j, (stF N (bwL ks k)).2 j = if ks.length - k ≤ j ∧ j < ks.length then (cntF ks N j : Int) else 0
  | 0, _ => ⟨rfl, fun j => by rw [if_neg (by omega)]; rfl⟩
  | k + 1, hk => by
    obtain ⟨h1, h2⟩ := stF_bw (ks := ks) N k (by omega)
    have hlt : ks.length - 1 - k < ks.length := by omega
    rw [bwL_succ (show k < ks.length by omega), stF_snoc]
    have hw : (⟨ks.length - 1 - k, hlt⟩ : BwI ks).w = ks.getD (ks.length - 1 - k) 0 := by rw [getD_of hlt]; rfl
    refine ⟨?_, fun j => ?_⟩
    · show (stF N (bwL ks k)).1 - (useC ks (stF N (bwL ks k)).1 (⟨ks.length - 1 - k, hlt⟩ : BwI ks).w : Int) * (⟨ks.length - 1 - k, hlt⟩ : BwI ks).w = _
      rw [h1, hw]; rfl
    · show (if j = ks.length - 1 - k then (stF N (bwL ks k)).2 j + (useC ks (stF N (bwL ks k)).1 (⟨ks.length - 1 - k, hlt⟩ : BwI ks).w : Int) else (stF N (bwL ks k)).2 j) = _
      rw [h1, hw, h2]
      by_cases hj : j = ks.length - 1 - k
      · rw [if_pos hj, if_neg (by omega), if_pos (by omega), Int.zero_add]
        unfold cntF
        rw [hj, show ks.length - 1 - (ks.length - 1 - k) = k from by omega]
      · rw [if_neg hj]
        by_cases h3 : ks.length - k ≤ j ∧ j < ks.length
        · rw [if_pos h3, if_pos (by omega)]
        · rw [if_neg h3, if_neg (by omega)]
theorem tb_own {β : Type} (b n : Nat) (t : TypeId) (f : β → Nat → Value) : _root_.Go.Own (fun s W => Tb W b t n (f s)) := fun s X Y row hs hg hr => hs.grown hg (fun e => by
  obtain ⟨o, ho, hc⟩ := hr b e.symm
  obtain ⟨cs, h1, _⟩ := hs
  rw [h1] at ho; cases ho; cases hc)
theorem pure_own {β : Type} (p : β → Prop) : _root_.Go.Own (fun (s : β) (_ : World) => p s) := fun _ _ _ _ hs _ _ => hs
/-- The number in a box. -/
def leftAt (w : World) (b : Nat) : Nat := match w.cell? ⟨b, 0, none⟩ with | some (.int _ z) => z.toNat | _ => 0
theorem leftAt_eq {w : World} {b : Nat} {t : TypeId} {z : Int} (h : Boxed w b t (.int .i64 z)) : leftAt w b = z.toNat := by unfold leftAt; rw [h.cell]

theorem grownBy_cell (W : World) (b i : Nat) (v : Value) : W.grownBy (W.setCell ⟨b, i, none⟩ v) (some b) :=
  ⟨rfl, rfl, rfl, (KeepsWalks.setCell W _ v).size, fun k _ hk => Below.heap_setCell _ _ _ k (fun e => hk (by rw [e]))⟩
theorem keeps_below {B : Nat} {W W' : World} (h : Below B W W') (hB : B = W.heap.size) : KeepsOthers W W' := by
  subst hB
  exact ⟨h.size, fun k o hk _ => (h.block k (lt_of_heap hk)).trans hk⟩
set_option maxRecDepth 100000 in
set_option maxHeartbeats 4000000 in
theorem implFewestSpaces_any (l : List Int) (A : Option Addr) (c : Nat) (n : Int) (w : World) (hf : IntsIn w A l) (hlen : l.length ≤ 1048576) :
    Calls Try.prog 5 #[.slice A l.length c, .int .i64 n] w fun e w' => ∃ v T, e = .returned (.tuple #[v, .bool (canV l n)]) ∧ Below w.heap.size w w' ∧ w'.ownsRow w.heap.size T 1 v (fewL l n).length (intsZ (fewL l n)) := by
  have HF := Lib.hid hf; clear hf
  cases ha : canV l n
  · have HV := Lib.hid (fewL_no (ks := l) (n := n) ha)
    have HA := Lib.hid ha; clear ha
    go_enter Try.func5, Try.ntmps5
    go_wp2_with fail
    refine (implCanFill_any l A c n _ HF.out hlen).mono ?_
    rintro e w1 ⟨rfl, hb1⟩
    rw [HA.out]
    go_wp2
    go_ret2
    exact ⟨_, 3, rfl, hb1, by rw [HV.out]; exact own_nil _ _ _ _⟩
  · have HV := Lib.hid (fewL_yes (ks := l) (n := n) ha)
    have HA := Lib.hid ha
    obtain ⟨hask, hcan⟩ := canV_iff.1 ha
    obtain ⟨hg, h0, h4⟩ := wAsk_iff.1 hask
    obtain ⟨N, rfl⟩ : ∃ N : Nat, n = (N : Int) := ⟨n.toNat, by omega⟩
    have hN4 : N ≤ 400 := by omega
    have HG := Lib.hid hg; have HC := Lib.hid hcan
    have hl6 := hg.six
    have hl1 := hg.one
    obtain ⟨b, off, rfl, hbl, hc⟩ := HF.out (by omega)
    have HKC := Lib.hid hc
    clear hg hcan hask ha hc
    refine (callsIn_wide (n := 6)).1 ?_
    have n6 : 1 ≤ 6 := by omega
    refine callsIn_of_wp_marks Try.func5 rfl trivial ?_ rfl
    simp only [Try.ntmps5, List.size_toArray, List.length_cons, List.length_nil, Nat.reduceAdd, Nat.reduceSub, Array.replicate_succ, Array.replicate_zero, List.push_toArray, List.append_toArray, List.nil_append, List.cons_append]
    refine wpIn_wide.2 ?_
    go_wp2_with fail
    refine (implCanFill_any l _ c (N : Int) _ HF.out hlen).mono ?_
    rintro e w1 ⟨rfl, hb1⟩
    rw [HA.out]
    have HB1 := Lib.hid hb1
    clear hb1
    go_wp2_with fail
    refine (fewestForWidths_any l _ c N _ (HF.out.below HB1.out (Nat.le_refl _)) hlen HG.out.pos (fun j hj => HG.out.le hj) hN4).mono ?_
    intro e w2 hto
    obtain ⟨rfl, hb2, ht2⟩ := hto
    have HT2 := Lib.hid ht2
    have HB2 := Lib.hid (HB1.out.trans (hb2.mono HB1.out.size))
    have hw12 : w1.heap.size < w2.heap.size := ht2.lt
    clear hb2 ht2
    obtain ⟨wa, hwa⟩ : ∃ x : World, x = w2.alloc (.cells #[.slice (some ⟨w1.heap.size, 0, none⟩) (N + 1) (N + 1)] 23) := ⟨_, rfl⟩
    have hza : wa.heap.size = w2.heap.size + 1 := by rw [hwa]; simp
    obtain ⟨wb, hwb⟩ : ∃ x : World, x = wa.alloc (.cells (madeCells #[.int .i64 0] (l.length * 1)) 3) := ⟨_, rfl⟩
    have hmk : (Instr.makeSlice 23 (.int .i64 (l.length : Int)) (.int .i64 (l.length : Int))).run Try.prog (w2.alloc (.cells #[.slice (some ⟨w1.heap.size, 0, none⟩) (N + 1) (N + 1)] 23)) = .ok (.slice (some ⟨w2.heap.size + 1, 0, none⟩) l.length l.length) wb := by rw [← hwa, ← hza, hwb]; exact run_makeI l.length hlen wa
    have hzb : wb.heap.size = wa.heap.size + 1 := by rw [hwb]; simp
    obtain ⟨w3, hw3⟩ : ∃ x : World, x = (wb.alloc (.cells #[.slice (some ⟨w2.heap.size + 1, 0, none⟩) l.length l.length] 23)).alloc (.cells #[.int .i64 (N : Int)] 3) := ⟨_, rfl⟩
    have hz3 : w3.heap.size = wb.heap.size + 2 := by rw [hw3]; simp
    have HWA := Lib.hid hwa; have HWB := Lib.hid hwb; have HW3 := Lib.hid hw3
    have HZA := Lib.hid hza; have HZB := Lib.hid hzb; have HZ3 := Lib.hid hz3
    have bwa : Below w2.heap.size w2 wa := by rw [hwa]; exact (Below.refl _ _).alloc (Nat.le_refl _) _
    have bwb : Below wa.heap.size wa wb := by rw [hwb]; exact (Below.refl _ _).alloc (Nat.le_refl _) _
    have bw3 : Below wb.heap.size wb w3 := by rw [hw3]; exact ((Below.refl _ _).alloc (Nat.le_refl _) _).alloc (by simp) _
    have HB3 : Hid (Below w2.heap.size w2 w3) := Lib.hid ((bwa.trans (bwb.mono bwa.size)).trans (bw3.mono (bwa.trans (bwb.mono bwa.size)).size))
    have HXF : Hid (Boxed w3 w2.heap.size 23 (.slice (some ⟨w1.heap.size, 0, none⟩) (N + 1) (N + 1))) := Lib.hid (by
      have h : Boxed wa w2.heap.size 23 (.slice (some ⟨w1.heap.size, 0, none⟩) (N + 1) (N + 1)) := by rw [hwa]; exact Boxed.new _ _ _
      exact ((bwb.trans (bw3.mono bwb.size)).block _ (by omega)).trans h)
    have HTC : Hid (Tb w3 (w2.heap.size + 1) 3 l.length (fun _ => .int .i64 0)) := Lib.hid (by
      have h : Tb wb wa.heap.size 3 l.length (fun _ => .int .i64 0) := by rw [hwb]; exact made_int _ _ _
      rw [hza] at h; exact h.next bw3)
    have HXC : Hid (Boxed w3 wb.heap.size 23 (.slice (some ⟨w2.heap.size + 1, 0, none⟩) l.length l.length)) := Lib.hid (by rw [hw3]; exact (Boxed.new _ _ _).alloc _)
    have HXL : Hid (Boxed w3 (wb.heap.size + 1) 3 (.int .i64 (N : Int))) := Lib.hid (by
      rw [hw3]
      have h := Boxed.new (wb.alloc (.cells #[.slice (some ⟨w2.heap.size + 1, 0, none⟩) l.length l.length] 23)) 3 (.int .i64 (N : Int))
      rw [World.size_alloc] at h; exact h)
    have HT3 := Lib.hid (HT2.out.next HB3.out)
    clear bwa bwb bw3 hwa hwb hw3 hza hzb hz3
    go_wp2_with fail
    rw [← HW3.out]
    refine (backward_any _ l.length c w3).mono ?_
    rintro e w4 ⟨rfl, hw4⟩
    have HBK : Hid (Boxed w4 w3.heap.size 23 (.slice (some ⟨b, off, none⟩) l.length c)) := Lib.hid (by rw [hw4]; exact Boxed.new _ _ _)
    have HB4 : Hid (Below w3.heap.size w3 w4) := Lib.hid (by rw [hw4]; exact (Below.refl _ _).alloc (Nat.le_refl _) _)
    have HBW4 : Hid (Below w.heap.size w w4) := Lib.hid (by
      have h := HB2.out.trans (HB3.out.mono HB2.out.size)
      exact h.trans (HB4.out.mono h.size))
    have HX4 := Lib.hid ((HB4.out.block _ HXC.out.lt).trans HXC.out)
    have HL4 := Lib.hid ((HB4.out.block _ HXL.out.lt).trans HXL.out)
    have HT4 := Lib.hid (HTC.out.next HB4.out)
    clear hw4 hmk
    go_wp2
    refine (wpIn_wide (n := 6)).1 ?_
    have hsz : w.heap.size ≤ w1.heap.size := HB1.out.size
    have hza := HZA.out; have hzb := HZB.out; have hz3 := HZ3.out
    have hz4 : w3.heap.size < w4.heap.size := Boxed.lt HBK.out
    have HXF4 := Lib.hid ((HB4.out.block _ HXF.out.lt).trans HXF.out)
    have HTF4 := Lib.hid (HT3.out.next HB4.out)
    have hq1 : w2.heap.size + 1 < wb.heap.size := by omega
    have hq2 : wb.heap.size + 1 < w3.heap.size := by omega
    have hq3 : w.heap.size < w2.heap.size := by omega
    clear hza hzb hz3
    refine wpIn_rangeFunc_ownF (F := Fence.wide) (n := 6) rfl n6 (gf := 31) (lb := #[.pointer (some ⟨w3.heap.size, 0, none⟩)]) rfl trivial (enters_of Try.func31 (by kernel_rfl) rfl)
      (back_stops 5 (by omega) w3.heap.size b off l c w4 HBK.out (by omega) (fun k hk => (HBW4.out.cell (p := ⟨b, off + k, none⟩) hbl).trans (HKC.out k hk)) hlen) KpL.t (KpL.kb (fun q hq => by rcases hq with rfl | rfl; · exact HBK.out.lt
                                                                                                                                                                                                 · omega)) (Below.refl _ _) (fun _ => rfl)
      (fun pre W => ((Boxed W wb.heap.size 23 (.slice (some ⟨(w2.heap.size + 1), 0, none⟩) l.length l.length) ∧ Boxed W (wb.heap.size + 1) 3 (.int .i64 (stF (N : Int) pre).1)) ∧ (Tb W (w2.heap.size + 1) 3 l.length (fun j => .int .i64 ((stF (N : Int) pre).2 j)) ∧ GoodS l N (stF (N : Int) pre))) ∧ Below (w2.heap.size + 1) w4 W)
      (fun _ _ _ => False)
      (OwnFrom.and (OwnFrom.and (OwnFrom.and (_root_.Go.Own.from (boxed_own _ _ (fun _ => .slice (some ⟨(w2.heap.size + 1), 0, none⟩) l.length l.length)) _) (_root_.Go.Own.from (boxed_own _ _ (fun pre => .int .i64 (stF (N : Int) pre).1)) _)) (OwnFrom.and (_root_.Go.Own.from (tb_own _ _ _ (fun pre j => .int .i64 ((stF (N : Int) pre).2 j))) _) (_root_.Go.Own.from (pure_own (fun pre => GoodS l N (stF (N : Int) pre))) _))) (ownFrom_below (by omega) (by omega)))
      (fun _ _ _ _ _ hs _ _ => hs)
      ⟨⟨⟨HX4.out, HL4.out⟩, HT4.out, goodS_start HG.out.pos HC.out⟩, Below.refl _ _⟩ ?act ?assign ?body ?done ?stop
    case assign =>
      intro l x W K hK
      gi_wp2
      exact hK
    case body =>
      rintro lp pre x W ⟨⟨⟨hX, hL⟩, hT, hS⟩, hB⟩ hpl
      have hv1 := HG.out.pos _ x.mem
      have hv54 : x.w ≤ 54 := HG.out.le x.lt
      obtain ⟨V, hV⟩ : ∃ V : Nat, x.w = (V : Int) := ⟨x.w.toNat, by omega⟩
      have hV' : l[x.i]'x.lt = (V : Int) := hV
      have HSN := Lib.hid (stF_snoc (N : Int) pre x)
      have HGS := Lib.hid (goodS_step HG.out.pos hS x)
      obtain ⟨S, hSd⟩ : ∃ S, S = stF (N : Int) pre := ⟨_, rfl⟩
      rw [← hSd] at HSN HGS hL hT hS
      clear hSd
      have hmem : (V : Int) ∈ l := by rw [← hV]; exact x.mem
      have HUQ := Lib.hid (fun (cc : Nat) (h1 : UseP l S.1 (V : Int) cc) h2 => useC_eq HG.out.pos hmem h1 h2)
      have HUN := Lib.hid (fun (cc : Nat) (h1 : UseP l S.1 (V : Int) cc) => use_next HG.out.pos hmem (by have := hS.2.1; omega) h1)
      have HU0 := Lib.hid (use_zero (v := (V : Int)) HG.out.pos hS.1)
      have HSS := Lib.hid hS
      have HVV := Lib.hid hV
      rw [hV] at hv1 hv54
      have HX := Lib.hid hX; have HL := Lib.hid hL; have HT := Lib.hid hT; have HB := Lib.hid hB
      have hxl := x.lt
      have hxl' : (x.i : Int) < (l.length : Int) := by omega
      have hxi0 : (0 : Int) ≤ (x.i : Int) := by omega
      clear hS hV hX hL hT hB hmem
      gi_wp2_with fail
      gi_loopw [] (fun wr => ∃ cc : Nat, UseP l S.1 (V : Int) cc ∧ Boxed wr wb.heap.size 23 (.slice (some ⟨w2.heap.size + 1, 0, none⟩) l.length l.length) ∧ Boxed wr (wb.heap.size + 1) 3 (.int .i64 (S.1 - cc * (V : Int))) ∧ Tb wr (w2.heap.size + 1) 3 l.length (fun j => .int .i64 (if j = x.i then S.2 j + cc else S.2 j)) ∧ Below (w2.heap.size + 1) w4 wr ∧ KeepsOthers W wr ∧ KpL (fun q => q = w3.heap.size ∨ q = b) W wr) (fun wr => leftAt wr (wb.heap.size + 1))
      case atStart => exact ⟨0, HU0.out, HX.out, by simpa using HL.out, HT.out.cong (fun j _ => by split <;> simp), HB.out, KeepsOthers.refl _, KpL.refl _ _⟩
      case round =>
        obtain ⟨cc, hu, hX, hL, hT, hB, hK, hP⟩ := hrel
        have HU := Lib.hid hu
        have hnn := can_nonneg HG.out.pos hu.2.1
        have hS2 := HSS.out.2.1
        have hccV := nat_mul_nonneg hv1 cc
        obtain ⟨Z, hZ⟩ : ∃ Z : Nat, S.1 - (cc : Int) * (V : Int) = (Z : Int) := ⟨_, (Int.toNat_of_nonneg hnn).symm⟩
        have hSj := HSS.out.2.2 x.i
        have HZ := Lib.hid hZ
        have hZN : Z ≤ N := by omega
        have hyb : 0 ≤ S.2 x.i + (cc : Int) ∧ S.2 x.i + (cc : Int) + (Z : Int) ≤ (N : Int) := by omega
        rw [hZ] at hL
        have hgl := hT.lt
        have glf : w2.heap.size < wr.heap.size := by omega
        have gl1 : w1.heap.size < wr.heap.size := by omega
        have glx := hX.lt; have gll := hL.lt
        have ef := (hB.cell (p := ⟨w2.heap.size, 0, none⟩) (by show w2.heap.size < w2.heap.size + 1; omega)).trans (Boxed.cell HXF4.out)
        have eq := (hB.cell (p := ⟨w1.heap.size, Z, none⟩) (by show w1.heap.size < w2.heap.size + 1; omega)).trans (HTF4.out.cell (j := Z) (by omega))
        have el := hL.cell
        have kf := KeptW.cell ef glf
        have kq := KeptW.cell eq gl1
        have kl := KeptW.cell el gll
        have hzN1 : (Z : Int) < (N : Int) + 1 := by omega
        have hz0 : (0 : Int) ≤ (Z : Int) := by omega
        have HXr := Lib.hid hX; have HLr := Lib.hid hL; have HTr := Lib.hid hT; have HBr := Lib.hid hB; have HKr := Lib.hid hK; have HPr := Lib.hid hP
        clear hu hX hL hT hB hK hP hnn hZ hSj hS2 hccV
        by_cases hVZ : V ≤ Z
        · obtain ⟨D, hD⟩ : ∃ D, D = Z - V := ⟨_, rfl⟩
          have hDi : (Z : Int) - (V : Int) = (D : Int) := by omega
          have hVZ' : (V : Int) ≤ (Z : Int) := by omega
          have hDN : (D : Int) < (N : Int) + 1 := by omega
          have hD0 : (0 : Int) ≤ (D : Int) := by omega
          have ep := (HBr.out.cell (p := ⟨w1.heap.size, D, none⟩) (by show w1.heap.size < w2.heap.size + 1; omega)).trans (HTF4.out.cell (j := D) (by omega))
          have kp := KeptW.cell ep gl1
          have HND := Lib.hid (HUN.out cc HU.out)
          rw [HZ.out, hDi] at HND
          have hd1 : decide ((V : Int) ≤ (Z : Int)) = true := decide_eq_true hVZ'
          generalize fewW l (Z : Int) = q at *
          generalize fewW l (D : Int) = p at *
          by_cases hpq : p < q
          · have hd2 : decide (p < q) = true := decide_eq_true hpq
            have HU1 := Lib.hid (HND.out.1 ⟨hVZ', hpq⟩)
            have hDZ : D < Z := by omega
            clear HND hD
            gi_wp2_with fail
            refine region_keptR wr.heap.size (by kernel_rfl) (by kernel_rfl) (by kernel_rfl) ?_
            repeat (gi_big_quiet_step (fail))
            refine wpQuietIn_nil ?_
            intro w9 hb9
            have hX9 := (hb9.block _ glx).trans HXr.out
            have hL9 := (hb9.block _ gll).trans HLr.out
            have hT9 := HTr.out.next hb9
            have hB9 := HBr.out.trans (hb9.mono (by omega : w2.heap.size + 1 ≤ wr.heap.size))
            have hK9 := HKr.out.trans (keeps_below hb9 rfl)
            have hP9 := HPr.out.t (KpL.below (R := fun q => q = w3.heap.size ∨ q = b) hb9 (fun q hq => by have := HBr.out.size; rcases hq with rfl | rfl <;> omega))
            replace hX9 : Boxed w9 wb.heap.size 23 (.slice (some ⟨w2.heap.size + 1, 0, none⟩) l.length l.length) := hX9
            replace hL9 : Boxed w9 (wb.heap.size + 1) 3 (.int .i64 (Z : Int)) := hL9
            clear hb9 kf kq kl ef eq el
            have hy5 : S.2 x.i + (cc : Int) ≤ 400 := by omega
            obtain ⟨y, hy⟩ : ∃ y, y = S.2 x.i + (cc : Int) := ⟨_, rfl⟩
            have hyy : 0 ≤ y ∧ y ≤ 400 := by omega
            have ec := hX9.cell
            have ey := hT9.cell hxl
            rw [if_pos rfl, ← hy] at ey
            have el9 := hL9.cell
            have fy := hT9.free x.i; have fl := hL9.frozen
            have hne1 : ¬ wb.heap.size + 1 = w2.heap.size + 1 := by omega
            have hne2 : ¬ w2.heap.size + 1 = wb.heap.size + 1 := by omega
            have hne3 : ¬ wb.heap.size = w2.heap.size + 1 := by omega
            have HXn := Lib.hid ((hX9.kept (grownBy_cell w9 (w2.heap.size + 1) x.i (.int .i64 (y + 1))) (fun e => by have := Option.some.inj e; omega)).kept (grownBy_cell (w9.setCell ⟨w2.heap.size + 1, x.i, none⟩ (.int .i64 (y + 1))) (wb.heap.size + 1) 0 (.int .i64 (D : Int))) (fun e => by have := Option.some.inj e; omega))
            have HLn := Lib.hid ((hL9.kept (grownBy_cell w9 (w2.heap.size + 1) x.i (.int .i64 (y + 1))) (fun e => by have := Option.some.inj e; omega)).set (.int .i64 (D : Int)))
            have HTn := Lib.hid (((hT9.set x.i (.int .i64 (y + 1))).other (c := wb.heap.size + 1) (i := 0) (.int .i64 (D : Int)) hne2).cong (g := fun j => .int .i64 (if j = x.i then S.2 j + ((cc + 1 : Nat) : Int) else S.2 j)) (fun j _ => by
              by_cases hj : j = x.i
              · subst hj; simp only [if_pos]; congr 1; rw [hy]; omega
              · simp only [if_neg hj]))
            have HBn := Lib.hid ((hB9.setCell (p := ⟨w2.heap.size + 1, x.i, none⟩) (Nat.le_refl _) (.int .i64 (y + 1))).setCell (p := ⟨wb.heap.size + 1, 0, none⟩) (by show w2.heap.size + 1 ≤ wb.heap.size + 1; omega) (.int .i64 (D : Int)))
            have HKn := Lib.hid ((hK9.trans (KeepsOthers.setCell w9 ⟨w2.heap.size + 1, x.i, none⟩ (.int .i64 (y + 1)))).trans (KeepsOthers.setCell _ ⟨wb.heap.size + 1, 0, none⟩ (.int .i64 (D : Int))))
            have HPn := Lib.hid ((hP9.t (KpL.set w9 (w2.heap.size + 1) x.i (.int .i64 (y + 1)) (by rintro (h | h) <;> omega))).t (KpL.set (w9.setCell ⟨w2.heap.size + 1, x.i, none⟩ (.int .i64 (y + 1))) (wb.heap.size + 1) 0 (.int .i64 (D : Int)) (by rintro (h | h) <;> omega)))
            have HZn : Hid (S.1 - ((cc + 1 : Nat) : Int) * (V : Int) = (D : Int)) := Lib.hid (by have := cadd cc 1 (V : Int); have := HZ.out; simp at *; omega)
            clear hX9 hL9 hT9 hB9 hK9 hP9 hy
            gi_wp2
            go_roundw
            case rel => exact ⟨cc + 1, HU1.out, HXn.out, by rw [HZn.out]; exact HLn.out, HTn.out, HBn.out, HKn.out, HPn.out⟩
            case measure => rw [leftAt_eq HLn.out, leftAt_eq HLr.out]; simp; omega
          · have hd2 : decide (p < q) = false := decide_eq_false hpq
            have HU1 := Lib.hid (HUQ.out cc HU.out (fun h => hpq (HND.out.2 h).2))
            clear HND hD
            gi_wp2_with fail
            refine region_keptR wr.heap.size (by kernel_rfl) (by kernel_rfl) (by kernel_rfl) ?_
            repeat (gi_big_quiet_step (fail))
            refine wpQuietIn_nil ?_
            intro w9 hb9
            have hX9 := (hb9.block _ glx).trans HXr.out
            have hL9 := (hb9.block _ gll).trans HLr.out
            have hT9 := HTr.out.next hb9
            have hB9 := HBr.out.trans (hb9.mono (by omega : w2.heap.size + 1 ≤ wr.heap.size))
            have hK9 := HKr.out.trans (keeps_below hb9 rfl)
            have hP9 := HPr.out.t (KpL.below (R := fun q => q = w3.heap.size ∨ q = b) hb9 (fun q hq => by have := HBr.out.size; rcases hq with rfl | rfl <;> omega))
            replace hX9 : Boxed w9 wb.heap.size 23 (.slice (some ⟨w2.heap.size + 1, 0, none⟩) l.length l.length) := hX9
            replace hL9 : Boxed w9 (wb.heap.size + 1) 3 (.int .i64 (Z : Int)) := hL9
            clear hb9 kf kq kl ef eq el
            have HX9 := Lib.hid hX9; have HL9 := Lib.hid hL9; have HT9 := Lib.hid hT9; have HB9 := Lib.hid hB9; have HK9 := Lib.hid hK9; have HP9 := Lib.hid hP9
            clear hX9 hL9 hT9 hB9 hK9 hP9
            gi_wp2
            refine ⟨HK9.out, HP9.out, ⟨⟨HX9.out, ?_⟩, ?_, by rw [HSN.out]; exact HGS.out⟩, HB9.out⟩
            · rw [HSN.out]
              show Boxed _ _ _ (.int .i64 (S.1 - (useC l S.1 x.w : Int) * x.w))
              rw [HVV.out, HU1.out, HZ.out]; exact HL9.out
            · rw [HSN.out]
              exact HT9.out.cong (fun j _ => by
                show Value.int .i64 _ = Value.int .i64 (if j = x.i then S.2 j + (useC l S.1 x.w : Int) else S.2 j)
                rw [HVV.out, HU1.out])
        · have hVZ' : ¬ (V : Int) ≤ (Z : Int) := by omega
          have hd1 : decide ((V : Int) ≤ (Z : Int)) = false := decide_eq_false hVZ'
          have HU1 := Lib.hid (HUQ.out cc HU.out (fun h => hVZ' (by have := ((HUN.out cc HU.out).2 h).1; rw [HZ.out] at this; exact this)))
          gi_wp2_with fail
          refine region_keptR wr.heap.size (by kernel_rfl) (by kernel_rfl) (by kernel_rfl) ?_
          repeat (gi_big_quiet_step (fail))
          refine wpQuietIn_nil ?_
          intro w9 hb9
          have hX9 := (hb9.block _ glx).trans HXr.out
          have hL9 := (hb9.block _ gll).trans HLr.out
          have hT9 := HTr.out.next hb9
          have hB9 := HBr.out.trans (hb9.mono (by omega : w2.heap.size + 1 ≤ wr.heap.size))
          have hK9 := HKr.out.trans (keeps_below hb9 rfl)
          have hP9 := HPr.out.t (KpL.below (R := fun q => q = w3.heap.size ∨ q = b) hb9 (fun q hq => by have := HBr.out.size; rcases hq with rfl | rfl <;> omega))
          replace hX9 : Boxed w9 wb.heap.size 23 (.slice (some ⟨w2.heap.size + 1, 0, none⟩) l.length l.length) := hX9
          replace hL9 : Boxed w9 (wb.heap.size + 1) 3 (.int .i64 (Z : Int)) := hL9
          clear hb9 kf kq kl ef eq el
          have HX9 := Lib.hid hX9; have HL9 := Lib.hid hL9; have HT9 := Lib.hid hT9; have HB9 := Lib.hid hB9; have HK9 := Lib.hid hK9; have HP9 := Lib.hid hP9
          clear hX9 hL9 hT9 hB9 hK9 hP9
          gi_wp2
          refine ⟨HK9.out, HP9.out, ⟨⟨HX9.out, ?_⟩, ?_, by rw [HSN.out]; exact HGS.out⟩, HB9.out⟩
          · rw [HSN.out]
            show Boxed _ _ _ (.int .i64 (S.1 - (useC l S.1 x.w : Int) * x.w))
            rw [HVV.out, HU1.out, HZ.out]; exact HL9.out
          · rw [HSN.out]
            exact HT9.out.cong (fun j _ => by
              show Value.int .i64 _ = Value.int .i64 (if j = x.i then S.2 j + (useC l S.1 x.w : Int) else S.2 j)
              rw [HVV.out, HU1.out])
    case done =>
      rintro D ys W hD rfl ⟨⟨⟨hX, hL⟩, hT, hS⟩, hB⟩ hK
      have cx := hX.cell
      obtain ⟨hr1, hr2⟩ := stF_bw (ks := l) (N : Int) l.length (Nat.le_refl _)
      have HBW := Lib.hid (HBW4.out.trans (hB.mono (by omega) : Below w.heap.size w4 W))
      have HO : Hid (W.ownsRow w.heap.size 3 1 (.slice (some ⟨(w2.heap.size + 1), 0, none⟩) l.length l.length) l.length (intsZ (fewL l (N : Int)))) := Lib.hid (by
        have hfl : (fewL l (N : Int)).length = l.length := by rw [HV.out]; simp
        have h := Tb.own (l := fewL l (N : Int)) (base := w.heap.size) (by rw [hfl]; exact hT) (by omega) (by rw [hfl]; unfold maxLen; omega) (fun j hj => by
          rw [hr2 j, if_pos (by omega)]; simp only [HV.out, List.getElem_map, List.getElem_range])
        rw [hfl] at h; exact h)
      have hfl : (fewL l (N : Int)).length = l.length := by rw [HV.out]; simp
      have HFL := Lib.hid hfl
      have HKD := Lib.hid hK
      clear hX hL hT hS hB hr1 hr2 hfl
      go_wp2
      refine ⟨by simp, .inl ⟨_, _, rfl, run_takeDeferred HKD.out, ?_⟩⟩
      exact ⟨.tuple #[.slice (some ⟨(w2.heap.size + 1), 0, none⟩) l.length l.length, .bool true], by simp [results, Try.f5, go_sem], _, 3, rfl, below_put _ HBW.out (by omega) HKD.out, by rw [HFL.out]; exact ownsRow_putObj HO.out _ HKD.out rfl⟩
    case stop =>
      rintro D cc pre W _ _ h _
      exact h.elim
end Go.Proofs.Ythhmbcgamcbfdaa
