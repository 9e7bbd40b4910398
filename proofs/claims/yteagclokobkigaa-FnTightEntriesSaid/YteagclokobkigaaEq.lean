/-
  The contract of spec.WidthWithout.
-/
import Derived.Test.YteagclokobkigaaEp
import Derived.Deep.RegionLaw
namespace Go.Proofs.Yteagclokobkigaa
open Go.RowKit
set_option linter.unusedVariables false

theorem step_own {P : Program} (w : World) {ops : Array Oper} {o : Oper} {a : Act} {K : Act → World → Prop} {Q : Exit → Act → World → Prop} {E : Prop} (hgd : o.guard = none) (s x : Operand) (t : TypeId)
    (ho : o.op = .call { callee := .builtin .append, args := #[s, x], argTypes := #[t, t] })
    (base : Nat) (e : TypeId) (i : TypeInfo) (z : Value) (size bytes : Nat) (ht : P.underlying t = some (.slice e)) (hi : P.info? e = some i) (hz : i.zero = some z)
    (hsize : i.size = size) (hby : i.bytes = bytes) (hzs : z.cells.size = size) (hsz : 0 < size)
    (v : Value) (n : Nat) (xs : List Value) (hs : a.eval s = v) (hown : w.ownsRow base e size v n xs)
    (ad : Addr) (m c : Nat) (news : List Value) (hx : a.eval x = .slice (some ad) m c) (hl : news.length = m * size) (hnews : ∀ j u, news[j]? = some u → w.cell? (ad.add j) = some u) (h1 : ∀ u ∈ news, u.oneCell' = true)
    (h63 : n + m ≤ maxLen) (hbytes : (n + m) * bytes ≤ 140737488355328) (hbase : base ≤ w.heap.size)
    (h : ∀ v' w', w'.ownsRow base e size v' (n + m) (xs ++ news) → w.grownBy w' v.ownBlock → K (a.put o.dst v') w') :
    if Region.wanted o (yielded ops a.tmps) = true then Oper.wp P o a w K Q else E := by
  have hw : Region.wanted o (yielded ops a.tmps) = true := by simp [Region.wanted, hgd]
  rw [if_pos hw]
  exact wp_append_own w s x t ho base e i z size bytes ht hi hz hsize hby hzs hsz v n xs hs hown ad m c news hx hl hnews h1 h63 hbytes hbase fun v' w' h2 h3 _ => h v' w' h2 h3
set_option maxRecDepth 100000 in
set_option maxHeartbeats 4000000 in
theorem specWidthWithout_any (n : Int) (f : List En) (A : Option Addr) (d : Nat) (g i : Int) (w : World) (hf : EnsIn w A f) (hn : f.length ≤ 1048576) (hd : f.length ≤ d) :
    Calls Try.prog 36 #[.int .i64 n, .slice A f.length d, .int .i64 g, .int .i64 i] w fun e w' => e = .returned (.tuple #[.int .i64 (wwV n f g i), .bool (wwB n f g i)]) ∧ Below w.heap.size w w' := by
  have HF := Lib.hid hf; clear hf
  have HE : Hid (wwB n f g i = (askT n f g && inB 0 ((f.length : Int) - 1) i)) := Lib.hid rfl
  go_enter Try.func36, Try.ntmps36
  go_wp2_with fail
  refine (tbAsked_any n f A d g _ HF.out hn).mono ?_
  rintro e w1 ⟨rfl, hb1⟩
  have HB1 := Lib.hid hb1; clear hb1
  cases ha : askT n f g
  · have HA : Hid (wwB n f g i = false) := Lib.hid (by rw [HE.out, ha]; rfl)
    have HV := Lib.hid (ww_no HA.out)
    clear ha
    go_wp2
    go_ret2
    exact ⟨ret_ib HV.out.symm HA.out.symm, HB1.out⟩
  go_wp2_with fail
  refine (l1In_any _ _ _ _).mono ?_
  rintro e w' ⟨rfl, rfl⟩
  cases hi : inB 0 ((f.length : Int) - 1) i
  · have HA : Hid (wwB n f g i = false) := Lib.hid (by rw [HE.out, hi, Bool.and_false])
    have HV := Lib.hid (ww_no HA.out)
    clear ha hi
    go_wp2
    go_ret2
    exact ⟨ret_ib HV.out.symm HA.out.symm, HB1.out⟩
  have HA : Hid (wwB n f g i = true) := Lib.hid (by rw [HE.out, ha, hi]; rfl)
  have hin := inBs_iff.1 hi
  obtain ⟨i, rfl⟩ : ∃ k : Nat, i = (k : Int) := ⟨i.toNat, by omega⟩
  have HV := Lib.hid (ww_yes HA.out)
  obtain ⟨hG, h0, h36⟩ := askT_iff.1 ha
  obtain ⟨N, rfl, hN1, hN10⟩ := ask_nat ha
  have hl20 := hG.len
  have hil : i < f.length := by omega
  have HGL := Lib.hid (woL_good hG hil)
  obtain ⟨b, off, rfl, hbl, _⟩ := HF.out (by omega)
  have hi1 : (i : Int) + 1 = ((i + 1 : Nat) : Int) := by omega
  have hwr : IntKind.i64.wrap ((i : Int) + 1) = (i : Int) + 1 := by rw [IntWalk.i64_left]; exact IntWalk.wrap64_in _ (by omega)
  have hs1 := slice_headE b off f.length d i (by omega) hd
  obtain ⟨a2, hs2, ha2, ha3⟩ := slice_tailE b off f.length d (i + 1) (by omega) hd
  rw [← hi1] at hs2
  obtain ⟨i0, hi0, hz0, hz1, hz2⟩ := info_parts infoEn
  have HI0 := Lib.hid hi0; have HZ0 := Lib.hid hz0; have HZ1 := Lib.hid hz1; have HZ2 := Lib.hid hz2
  have HFW := Lib.hid (HF.out.below HB1.out (Nat.le_refl _))
  have HN1 : Hid (∀ W, Below w1.heap.size w1 W → ∀ j u, (flatEn (f.take i))[j]? = some u → W.cell? ((⟨b, off, none⟩ : Addr).add j) = some u) := Lib.hid (fun W hW => newsEn ((ens_take HFW.out i).below hW (Nat.le_refl _)))
  have HN2 : Hid (∀ W, Below w1.heap.size w1 W → ∀ j u, (flatEn (f.drop (i + 1)))[j]? = some u → W.cell? (a2.add j) = some u) := Lib.hid (fun W hW => newsEn ((ens_drop HFW.out ha3).below hW (Nat.le_refl _)))
  have HL1 : Hid ((flatEn (f.take i)).length = i * 3) := Lib.hid (by rw [flatEn_len, List.length_take, Nat.min_eq_left (by omega), Nat.mul_comm])
  have HL2 : Hid ((flatEn (f.drop (i + 1))).length = (f.length - (i + 1)) * 3) := Lib.hid (by rw [flatEn_len, List.length_drop, Nat.mul_comm])
  have HQ1 : Hid (Below w1.heap.size w1 ((w1.alloc (.cells #[] 36)).drew)) := Lib.hid ((Below.refl _ _).alloc (Nat.le_refl _) _).drew
  have hmxA : 0 + i ≤ maxLen := by unfold maxLen; omega
  have hmxB : i + (f.length - (i + 1)) ≤ maxLen := by unfold maxLen; omega
  obtain ⟨L, hL⟩ : ∃ L : List En, L = woL f i := ⟨_, rfl⟩
  have HFL : Hid (flatEn (f.take i) ++ flatEn (f.drop (i + 1)) = flatEn L) := Lib.hid (by rw [hL, woL, flatEn_app])
  have HLL : Hid (i + (f.length - (i + 1)) = L.length) := Lib.hid (by rw [hL, woL_len hil]; omega)
  rw [← hL] at HV HGL
  clear hL ha2 ha3 hi1 ha hi hin hG hi0 hz0 hz1 hz2 hd
  go_wp2_with fail
  go_region_law (first
    | (refine step_own ((w1.alloc (.cells #[] 36)).drew) (by rfl) (.tmp 24) (.tmp 27) 24 (by rfl) w1.heap.size 36 i0 (.agg #[.int .i64 0, .int .i64 0, .int .i64 0]) 3 24 Try.underlying24 HI0.out HZ0.out HZ1.out HZ2.out rfl (by decide) (.slice (some ⟨w1.heap.size, 0, none⟩) 0 0) 0 (flatEn []) (by rfl) (own_noneE (base := w1.heap.size) ((w1.alloc (.cells #[] 36)).drew) (heap_new w1 (.cells #[] 36)) (Nat.le_refl _)) ⟨b, off, none⟩ i d (flatEn (f.take i)) (by rfl) HL1.out (HN1.out ((w1.alloc (.cells #[] 36)).drew) HQ1.out) (flatEn_one _) hmxA (by omega) (Below.size HQ1.out) ?_; intro v1 w5 hown' hgrow; have HO1 : Hid (w5.ownsRow w1.heap.size 36 3 v1 i (flatEn (f.take i))) := Lib.hid (by simpa [flatEn] using hown'); have HB5 : Hid (Below w1.heap.size w1 w5) := Lib.hid (Below.grown HQ1.out hgrow (Below.size HQ1.out) (own_lt (own_noneE (base := w1.heap.size) ((w1.alloc (.cells #[] 36)).drew) (heap_new w1 (.cells #[] 36)) (Nat.le_refl _)))); clear hown' hgrow)
    | (refine step_own w5 (by rfl) (.tmp 28) (.tmp 32) 24 (by rfl) w1.heap.size 36 i0 (.agg #[.int .i64 0, .int .i64 0, .int .i64 0]) 3 24 Try.underlying24 HI0.out HZ0.out HZ1.out HZ2.out rfl (by decide) v1 i (flatEn (f.take i)) (by rfl) HO1.out a2 (f.length - (i + 1)) (d - (i + 1)) (flatEn (f.drop (i + 1))) (by rfl) HL2.out (HN2.out w5 HB5.out) (flatEn_one _) hmxB (by omega) HB5.out.size ?_
       intro v2 w6 hown' hgrow
       have hb6 : Below w1.heap.size w1 w6 := HB5.out.grown hgrow HB5.out.size (own_lt HO1.out)
       have ho6 : w6.ownsRow w1.heap.size 36 3 v2 L.length (flatEn L) := by rw [← HFL.out, ← HLL.out]; exact hown'
       obtain ⟨A6, c6, hv6⟩ := own_form_en ho6
       subst hv6
       have HI6 := Lib.hid (own_in_en ho6)
       have HB6 := Lib.hid (HB1.out.trans (hb6.mono HB1.out.size))
       clear hb6 ho6 hown' hgrow)
    | (go_simp; go_at_call 47; refine (tbWidth_any N L A6 c6 g _ HGL.out h0 h36 HI6.out).mono ?_; rintro e w7 ⟨rfl, hb7⟩; have HB7 := Lib.hid (HB6.out.trans (hb7.mono HB6.out.size)); clear hb7))
  all_goals
    go_wp2
    go_ret2
    exact ⟨ret_ib HV.out.symm HA.out.symm, HB7.out⟩
end Go.Proofs.Yteagclokobkigaa
