/-
  The contracts of slices.AppendSeq and slices.Collect over the sums of a stock, and of impl.LengthsUpTo.
-/
import Derived.Test.YtljakcfdjcjdbaaPu
import Derived.Maps.AppendAt
import Derived.Lib.SliceRun
namespace Go.Proofs.Ytljakcfdjcjdbaa
open Go.RowKit Go.Shelf
set_option linter.unusedVariables false
attribute [local go_sem] Oper.semAt_some encS

theorem elemI : Try.prog.elem 31 = 3 := by kernel_rfl
theorem sizeI (W : World) : (sizeOf (Try.prog.elem 31)).run Try.prog W = .ok 1 W := by
  obtain ⟨i0, hi, hz0, hz1, hz2⟩ := info_parts info_int
  rw [elemI]
  simp [sizeOf, typeInfo, hi, hz1]
theorem underI : Try.prog.underlying 31 = some (.slice (Try.prog.elem 31)) := by rw [elemI]; exact Try.underlying31
set_option maxRecDepth 100000 in
set_option maxHeartbeats 4000000 in
theorem appendSeq_any (f : List Sl) (bm bk bs g h N : Nat) (w : World) (hG : GoodS f) (hS : SumBox w bm bk bs (lensL f) (cntsL f) (some ⟨g, 0, none⟩) (some ⟨h, 0, none⟩) f.length f.length N) (hN : N ≤ 400) :
    Calls Try.prog 75 #[.slice none 0 0, .func (.func 82) #[] #[.pointer (some ⟨bm, 0, none⟩), .pointer (some ⟨bk, 0, none⟩), .pointer (some ⟨bs, 0, none⟩)]] w fun e w' => ∃ v, e = .returned v ∧ Below w.heap.size w w' ∧ w'.ownsRow w.heap.size 3 1 v (valL (sumL (mkB f) (N + 1))).length (intsZ (valL (sumL (mkB f) (N + 1)))) := by
  have HG := Lib.hid hG; clear hG
  obtain ⟨i0, hi, hz0, hz1, hz2⟩ := info_parts info_int
  have HI := Lib.hid hi; have HZ0 := Lib.hid hz0; have HZ1 := Lib.hid hz1; have HZ2 := Lib.hid hz2
  clear hi hz0 hz1 hz2
  obtain ⟨w1, hw1⟩ : ∃ x : World, x = w.alloc (.cells #[.slice none 0 0] 31) := ⟨_, rfl⟩
  have hX1 : Boxed w1 w.heap.size 31 (.slice none 0 0) := by rw [hw1]; exact Boxed.new _ _ _
  have hB1 : Below w.heap.size w w1 := by rw [hw1]; exact (Below.refl _ _).alloc (Nat.le_refl _) _
  have HS1 := Lib.hid (hS.next hB1)
  have HW1 := Lib.hid hw1
  clear hw1 hS
  refine (callsIn_wide (n := 6)).1 ?_
  have n6 : 1 ≤ 6 := by omega
  refine callsIn_of_wp_marks Try.func75 rfl trivial ?_ rfl
  simp only [Try.ntmps75, List.size_toArray, List.length_cons, List.length_nil, Nat.reduceAdd, Nat.reduceSub, Array.replicate_succ, Array.replicate_zero, List.push_toArray, List.append_toArray, List.nil_append, List.cons_append]
  gi_wp2
  rw [← HW1.out]
  have hws := hB1.size
  refine wpIn_rangeFunc_ownF (F := Fence.wide) (n := 6) rfl n6 (gf := 82) (lb := #[.pointer (some ⟨bm, 0, none⟩), .pointer (some ⟨bk, 0, none⟩), .pointer (some ⟨bs, 0, none⟩)]) rfl trivial (enters_of Try.func82 (by kernel_rfl) rfl)
    (slips_stops HG.out 5 (by omega) bm bk bs g h N w1 HS1.out hN) KpB.kt KpB.kb (Below.refl _ _) (fun _ => rfl)
    (fun pre W => (∃ v, Boxed W w.heap.size 31 v ∧ W.ownsRow w.heap.size 3 1 v (valL pre).length (intsZ (valL pre)) ∧ True) ∧ Below w.heap.size w W)
    (fun _ _ _ => False)
    (OwnFrom.and (_root_.Go.Own.from (holdsRow_own _ _ _ _ _ (fun pre => (valL pre).length) (fun pre => intsZ (valL pre)) (fun _ _ => True)) _) (ownFrom_below (Nat.le_refl _) hws))
    (fun _ _ _ _ _ hs _ _ => hs)
    ⟨⟨_, hX1, own_nil _ _ _ _, trivial⟩, hB1⟩ ?act ?assign ?body ?done ?stop
  case assign =>
    intro l x W K hK
    gi_wp2
    exact hK
  case body =>
    rintro lp pre x W ⟨⟨v, hv, hrow, -⟩, hB⟩ hlt
    have hc := hv.cell
    have hx4 := x.le
    have hpl : (valL pre).length = pre.length := by simp [valL]
    have hmx : (valL pre).length + 1 ≤ maxLen := by rw [hpl]; unfold maxLen; omega
    have hmx2 : (valL pre).length ≤ 1000 := by rw [hpl]; omega
    have HVS := Lib.hid (valL_snoc pre x)
    have HROW := Lib.hid hrow; have HV := Lib.hid hv; have HB := Lib.hid hB
    clear hrow hv hB hpl
    generalize valL pre = L at *
    gi_wp2_with (gi_at_builtin; refine wpListIn_append_own _ rfl _ _ 31 rfl w.heap.size 3 i0 (.int .i64 0) 1 8 Try.underlying31 HI.out HZ0.out HZ1.out HZ2.out rfl (by decide) _ _ _ rfl (HROW.out.alloc _) ⟨W.heap.size, 0, none⟩ 1 1 [.int .i64 (x.val : Int)] rfl rfl (cell_one_new _ _ _) (by simp [Value.oneCell']) hmx (by omega) (by have := HB.out.size; first | (simp; done) | (simp; omega) | omega) ?_)
    intro v' w5 hown' hgrow _
    obtain ⟨hv1, hv2, hr2, hk2, hb2⟩ := HV.out.appended (by decide) HROW.out HB.out.size (Nat.le_refl _) hown' hgrow
    have hc1 := hv1.cell; have hf1 := hv1.frozen
    have HGR := Lib.hid hgrow
    have HV2 := Lib.hid hv2; have HR2 := Lib.hid hr2; have HK2 := Lib.hid hk2; have HB2 := Lib.hid hb2
    obtain ⟨A5, c5, hve⟩ := own_form (l := L ++ [(x.val : Int)]) (by rw [intsZ_snoc]; exact hown')
    simp only [List.length_append, List.length_cons, List.length_nil, Nat.zero_add] at hve
    clear hv2 hr2 hk2 hb2 hgrow hv1 hown'
    subst hve
    gi_wp2
    refine ⟨HK2.out, ((KpB.alloc W _).t ((row_kpb (HROW.out.alloc _) HGR.out).t (KpB.set _ _ _ _ hX1.lt))), ⟨⟨_, HV2.out, ?_, trivial⟩, HB.out.trans HB2.out⟩⟩
    have h := HR2.out
    rw [HVS.out, intsZ_snoc, List.length_append]
    exact h
  case done =>
    rintro D ys W hD rfl ⟨⟨v, hv, hrow, -⟩, hB⟩ hK
    have hc := hv.cell
    obtain ⟨A5, c5, hve⟩ := own_form hrow
    subst hve
    have HV := Lib.hid hv; have HROW := Lib.hid hrow; have HB := Lib.hid hB; have HKD := Lib.hid hK
    clear hv hrow hB
    gi_wp2
    refine ⟨by simp, .inl ⟨_, _, rfl, run_takeDeferred hK, ?_⟩⟩
    exact ⟨_, results_tmp rfl _ _ _, _, rfl, below_put _ HB.out (by omega) hK, ownsRow_putObj HROW.out _ hK rfl⟩
  case stop =>
    rintro D cc pre W _ _ h _
    exact h.elim
theorem collect_any (f : List Sl) (bm bk bs g h N : Nat) (w : World) (hG : GoodS f) (hS : SumBox w bm bk bs (lensL f) (cntsL f) (some ⟨g, 0, none⟩) (some ⟨h, 0, none⟩) f.length f.length N) (hN : N ≤ 400) :
    Calls Try.prog 62 #[.func (.func 82) #[] #[.pointer (some ⟨bm, 0, none⟩), .pointer (some ⟨bk, 0, none⟩), .pointer (some ⟨bs, 0, none⟩)]] w fun e w' => ∃ v, e = .returned v ∧ Below w.heap.size w w' ∧ w'.ownsRow w.heap.size 3 1 v (valL (sumL (mkB f) (N + 1))).length (intsZ (valL (sumL (mkB f) (N + 1)))) := by
  have HG := Lib.hid hG; have HS := Lib.hid hS; clear hG hS
  go_enter Try.func62, Try.ntmps62
  go_wp2_with fail
  refine (appendSeq_any f bm bk bs g h N w HG.out HS.out hN).mono ?_
  rintro e w1 ⟨v, rfl, hb1, ho1⟩
  have HB1 := Lib.hid hb1; have HO1 := Lib.hid ho1
  clear hb1 ho1
  go_wp2
  go_ret
  exact ⟨_, rfl, HB1.out, HO1.out⟩
theorem slice_tailI (b off n cap k : Nat) (hk : k ≤ n) (hn : n ≤ cap) :
    ∃ a2 : Addr, (∀ W, (Instr.slice 31 (.slice (some ⟨b, off, none⟩) n cap) (some (.int .i64 (k : Int))) none none).run Try.prog W = .ok (.slice (some a2) (n - k) (cap - k)) W) ∧ a2.block = b ∧ (k < n → a2 = ⟨b, off + k, none⟩) := by
  refine ⟨if cap = k then ⟨b, off, none⟩ else (⟨b, off, none⟩ : Addr).add k, fun W => ?_, ?_, ?_⟩
  · rw [run_slice_l W _ _ _ _ underI .i64 (k : Int) (by omega) (by omega), sizeI]
    by_cases hc : cap = k <;> simp [sliced, Result.andThen, hc]
  · split
    · rfl
    · unfold Addr.add; split <;> rfl
  · intro h
    rw [if_neg (by omega), add_flat]
set_option maxRecDepth 100000 in
set_option maxHeartbeats 2000000 in
theorem implLengthsUpTo_any (f : List Sl) (A : Option Addr) (c : Nat) (n : Int) (w : World) (hf : SlsIn w A f) (hn : f.length ≤ 1048576) :
    Calls Try.prog 36 #[.slice A f.length c, .int .i64 n] w fun e w' => ∃ v, e = .returned (.tuple #[v, .bool (askU f n)]) ∧ Below w.heap.size w w' ∧ AtRow w' w.heap.size v (upV f n) := by
  have HF := Lib.hid hf; clear hf
  have HAE : Hid (askU f n = (stkB f && inB 0 400 n)) := Lib.hid rfl
  go_enter Try.func36, Try.ntmps36
  go_wp2_with fail
  refine (implIsStock_any f A c _ HF.out hn).mono ?_
  rintro e w1 ⟨rfl, hb1⟩
  have HB1 := Lib.hid hb1
  clear hb1
  cases hg : stkB f
  · have HA : Hid (askU f n = false) := Lib.hid (by rw [HAE.out, hg]; rfl)
    have HV := Lib.hid (upV_no HA.out)
    clear hg
    go_wp2
    go_ret2
    exact ⟨_, ret_vb HA.out.symm, HB1.out, by rw [HV.out]; exact AtRow.of_own (own_nil _ _ _ 3)⟩
  have HG := Lib.hid (stkB_iff.1 hg)
  rcases (by omega : n < 0 ∨ (¬ n < 0 ∧ 400 < n) ∨ (¬ n < 0 ∧ ¬ 400 < n)) with h1 | ⟨h1, h2⟩ | ⟨h1, h2⟩
  · have HA : Hid (askU f n = false) := Lib.hid (by rw [HAE.out, show inB 0 400 n = false from by simp [inB]; omega]; simp)
    have HV := Lib.hid (upV_no HA.out)
    clear hg
    go_wp2
    go_ret2
    exact ⟨_, ret_vb HA.out.symm, HB1.out, by rw [HV.out]; exact AtRow.of_own (own_nil _ _ _ 3)⟩
  · have HA : Hid (askU f n = false) := Lib.hid (by rw [HAE.out, show inB 0 400 n = false from by simp [inB]; omega]; simp)
    have HV := Lib.hid (upV_no HA.out)
    clear hg
    go_wp2
    go_ret2
    exact ⟨_, ret_vb HA.out.symm, HB1.out, by rw [HV.out]; exact AtRow.of_own (own_nil _ _ _ 3)⟩
  have HA : Hid (askU f n = true) := Lib.hid (by rw [HAE.out, hg, inBs_iff.2 (by omega)]; rfl)
  obtain ⟨N, rfl⟩ : ∃ N : Nat, n = (N : Int) := ⟨n.toNat, by omega⟩
  have HV := Lib.hid (upV_yes HA.out)
  clear hg
  have hn8 := HG.out.eight
  have hN4 : N ≤ 400 := by omega
  go_wp2_with fail
  refine (sumsOfSlips_any f A c N w1 (HF.out.below HB1.out (Nat.le_refl _)) hn).mono ?_
  rintro e w2 ⟨bm, bk, bs, g, h, rfl, hbx, hb2⟩
  have HB2 := Lib.hid (HB1.out.trans (hb2.mono HB1.out.size))
  have HBX := Lib.hid hbx
  clear hb2 hbx
  go_wp2_with fail
  refine (collect_any f bm bk bs g h N w2 HG.out HBX.out hN4).mono ?_
  rintro e w3 ⟨v, rfl, hb3, ho3⟩
  have HB3 := Lib.hid (HB2.out.trans (hb3.mono HB2.out.size))
  have HE := Lib.hid (val_up (T := mkB f) (mkB_zero HG.out) N hN4)
  have hul := upI_len (mkB f) (N + 1)
  rw [HE.out] at ho3
  obtain ⟨q, cap, rfl, hq, hcap, htc⟩ := own_tc ho3 (by simp)
  have hl : (0 :: upI (mkB f) (N + 1)).length = (upI (mkB f) (N + 1)).length + 1 := rfl
  rw [hl] at hcap htc
  rw [hl]
  obtain ⟨a2, hs2, ha2, ha3⟩ := slice_tailI q 0 ((upI (mkB f) (N + 1)).length + 1) cap 1 (by omega) hcap
  have HR : Hid (AtRow w3 w.heap.size (.slice (some a2) ((upI (mkB f) (N + 1)).length + 1 - 1) (cap - 1)) (upI (mkB f) (N + 1))) := Lib.hid (by
    refine ⟨some a2, cap - 1, by rw [Nat.add_sub_cancel], fun a e => ?_, fun h0 => ?_⟩
    · obtain rfl := Option.some.inj e
      rw [ha2]
      exact ⟨by have := HB2.out.size; omega, htc.lt⟩
    · obtain ⟨cs, k1, k2, k3⟩ := htc
      refine ⟨q, 0 + 1, _, cs, by rw [ha3 (by omega)], k1, fun k hk => ?_⟩
      rw [show 0 + 1 + k = k + 1 from by omega, k3 (k + 1) (by omega)]
      show some (Value.int .i64 ((upI (mkB f) (N + 1)).getD k 0)) = _
      rw [getI hk])
  have hs2' : ∀ W, (Instr.slice 31 (.slice (some ⟨q, 0, none⟩) ((upI (mkB f) (N + 1)).length + 1) cap) (some (.int .i64 1)) none none).run Try.prog W = .ok (.slice (some a2) ((upI (mkB f) (N + 1)).length + 1 - 1) (cap - 1)) W := hs2
  clear hb3 ho3 htc hs2 ha2 ha3 hl
  generalize (upI (mkB f) (N + 1)).length + 1 - 1 = m1 at *
  generalize (upI (mkB f) (N + 1)).length + 1 = m2 at *
  generalize cap - 1 = c1 at *
  go_wp2
  go_ret2
  exact ⟨_, ret_vb HA.out.symm, HB3.out, by rw [HV.out]; exact HR.out⟩
end Go.Proofs.Ytljakcfdjcjdbaa
