/-
  The contracts of spec.l1Own, spec.JoinTrials and spec.gaSorted.
-/
import Derived.Test.YtbepgjknjopikaaYh
import Derived.Deep.RegionLaw
import Derived.Deep.DeepCutAuto
import Derived.Deep.Upon
namespace Go.Proofs.Ytbepgjknjopikaa
open Go.RowKit
set_option linter.unusedVariables false

theorem intsZ_one (l : List Int) : ∀ u ∈ intsZ l, u.oneCell' = true := by
  intro u hu
  simp only [intsZ, List.mem_map] at hu
  obtain ⟨x, _, rfl⟩ := hu
  rfl
theorem intsZ_app (l m : List Int) : intsZ (l ++ m) = intsZ l ++ intsZ m := by simp [intsZ]
theorem news_ints {w : World} {b off : Nat} {l : List Int} (hc : ∀ k (h : k < l.length), w.cell? ⟨b, off + k, none⟩ = some (.int .i64 l[k])) : ∀ j u, (intsZ l)[j]? = some u → w.cell? ((⟨b, off, none⟩ : Addr).add j) = some u := by
  intro j u hu
  rw [add_flat]
  have hj : j < l.length := by
    rcases Nat.lt_or_ge j l.length with h | h
    · exact h
    · rw [List.getElem?_eq_none (by rw [intsZ_len]; exact h)] at hu; cases hu
  have e : (intsZ l)[j]? = some (.int .i64 l[j]) := by simp [intsZ, hj]
  rw [e] at hu
  rw [hc j hj]; exact hu
set_option maxRecDepth 100000 in
theorem l1OwnS_any (l : List Int) (b off : Nat) (c : Nat) (w : World) (hc : ∀ k (h : k < l.length), w.cell? ⟨b, off + k, none⟩ = some (.int .i64 l[k])) (hn : l.length ≤ 1048576) :
    Calls Try.prog 68 #[.slice (some ⟨b, off, none⟩) l.length c] w fun e w' => RowTo w w' e l := by
  obtain ⟨i0, hi, hz0, hz1, hz2⟩ := info_parts info_int
  have HI := Lib.hid hi; have HZ0 := Lib.hid hz0; have HZ1 := Lib.hid hz1; have HZ2 := Lib.hid hz2
  clear hi hz0 hz1 hz2
  have hc' : ∀ k (h : k < l.length), (w.alloc (.cells #[] 3)).cell? ⟨b, off + k, none⟩ = some (.int .i64 l[k]) := fun k hk => by
    rw [World.cell?_alloc_lt _ _ _ (World.block_lt_of_cell? _ _ (hc k hk))]; exact hc k hk
  have hnews := news_ints hc'
  have hown : (w.alloc (.cells #[] 3)).ownsRow w.heap.size 3 1 (.slice (some ⟨w.heap.size, 0, none⟩) 0 0) 0 [] := own_noneI _ (heap_new _ _) (Nat.le_refl _)
  have HNW := Lib.hid hnews; have HOW := Lib.hid hown
  have hmx : 0 + l.length ≤ maxLen := by unfold maxLen; omega
  clear hc hc' hnews hown
  go_enter Try.func68, Try.ntmps68
  go_wp2_with (at_builtin; refine wpList_append_own _ rfl _ _ 22 rfl w.heap.size 3 i0 (.int .i64 0) 1 8 Try.underlying22 HI.out HZ0.out HZ1.out HZ2.out rfl (by decide) _ _ _ rfl HOW.out ⟨b, off, none⟩ l.length c (intsZ l) rfl (by rw [intsZ_len]; omega) HNW.out (intsZ_one l) hmx (by omega) (by simp) ?_)
  intro v' w4 hown' hgrow _
  have HB1 : Hid (Below w.heap.size w w4) := Lib.hid (((Below.refl _ _).alloc (Nat.le_refl _) _).grown hgrow (by simp) (own_lt HOW.out))
  have HO : Hid (w4.ownsRow w.heap.size 3 1 v' l.length (intsZ l)) := Lib.hid (by simpa using hown')
  clear hown' hgrow
  go_wp2
  go_ret
  exact ⟨_, rfl, HB1.out, HO.out⟩
theorem wpList_append_is {P : Program} {ops : Array Oper} {rest : List Oper} {o : Oper} {a : Act} {Q : Exit → Act → World → Prop} (w w' : World) (v v0 v1 : Value) (hgd : o.guard = none) (s x : Operand) (t ty : TypeId)
    (ho : o.op = .call { callee := .builtin .append, args := #[s, x], argTypes := #[t, t] }) (hty : o.type = ty) (hs : a.eval s = v0) (hx : a.eval x = v1)
    (hrun : (Builtin.append_ #[t, t] ty #[v0, v1]).run P w = .ok v w') (h : wpList P ops Q rest (a.put o.dst v) w') : wpList P ops Q (o :: rest) a w := by
  subst hty; subst hs; subst hx
  refine wpList_plain hgd fun K hK' => ?_
  unfold Oper.wp
  simp [execOp, ho, resolve, invoke, builtin, hrun, Result.andThen]
  exact hK' _ _ h
theorem append_none (W : World) (a : Option Addr) (n c : Nat) (h : n ≤ c) : (Builtin.append_ #[22, 22] 22 #[.slice a n c, .slice none 0 0]).run Try.prog W = .ok (.slice a n c) W := by
  obtain ⟨i0, hi, hz0, hz1, hz2⟩ := info_parts info_int
  exact run_append_nothing (P := Try.prog) _ 22 22 22 3 i0 Try.underlying22 hi _ n c h _ (Src.ofNil (w := _) Try.underlying22 0)
theorem l1OwnN_any (w : World) :
    Calls Try.prog 68 #[.slice none 0 0] w fun e w' => RowTo w w' e [] := by
  have HAP := Lib.hid (append_none (w.alloc (.cells #[] 3)) (some ⟨w.heap.size, 0, none⟩) 0 0 (Nat.le_refl _))
  go_enter Try.func68, Try.ntmps68
  go_wp2_with (at_builtin; refine wpList_append_is _ _ _ _ _ rfl _ _ 22 22 rfl rfl rfl rfl HAP.out ?_)
  go_wp2
  go_ret
  exact ⟨_, rfl, (Below.refl _ _).alloc (Nat.le_refl _) _, own_noneI _ (heap_new _ _) (Nat.le_refl _)⟩
theorem step_own {P : Program} (w : World) {ops : Array Oper} {o : Oper} {a : Act} {K : Act → World → Prop} {Q : Exit → Act → World → Prop} {E : Prop} (hgd : o.guard = none) (s x : Operand) (t : TypeId)
    (ho : o.op = .call { callee := .builtin .append, args := #[s, x], argTypes := #[t, t] })
    (base : Nat) (e : TypeId) (i : TypeInfo) (z : Value) (size bytes : Nat) (ht : P.underlying t = some (.slice e)) (hi : P.info? e = some i) (hz : i.zero = some z)
    (hsize : i.size = size) (hby : i.bytes = bytes) (hzs : z.cells.size = size) (hsz : 0 < size)
    (v : Value) (n : Nat) (xs : List Value) (hs : a.eval s = v) (hown : w.ownsRow base e size v n xs)
    (ad : Addr) (m c : Nat) (news : List Value) (hx : a.eval x = .slice (some ad) m c) (hl : news.length = m * size) (hnews : ∀ j u, news[j]? = some u → w.cell? (ad.add j) = some u) (h1 : ∀ u ∈ news, u.oneCell' = true)
    (h63 : n + m ≤ maxLen) (hbytes : (n + m) * bytes ≤ 140737488355328) (hbase : base ≤ w.heap.size)
    (h : ∀ v' w', w'.ownsRow base e size v' (n + m) (xs ++ news) → w.grownBy w' v.ownBlock → K (a.put o.dst v') w') :
    if Region.wanted o (yielded ops a.tmps) = true then Oper.wp P o a w K Q else E := by
  have hw : Region.wanted o (yielded ops a.tmps) = true := by simp [Region.wanted, hgd]
  rw [if_pos hw]
  exact wp_append_own w s x t ho base e i z size bytes ht hi hz hsize hby hzs hsz v n xs hs hown ad m c news hx hl hnews h1 h63 hbytes hbase fun v' w' h2 h3 _ => h v' w' h2 h3
theorem step_is {P : Program} (w w' : World) (v v0 v1 : Value) {ops : Array Oper} {o : Oper} {a : Act} {K : Act → World → Prop} {Q : Exit → Act → World → Prop} {E : Prop} (hgd : o.guard = none) (s x : Operand) (t ty : TypeId)
    (ho : o.op = .call { callee := .builtin .append, args := #[s, x], argTypes := #[t, t] }) (hty : o.type = ty) (hs : a.eval s = v0) (hx : a.eval x = v1)
    (hrun : (Builtin.append_ #[t, t] ty #[v0, v1]).run P w = .ok v w') (h : K (a.put o.dst v) w') :
    if Region.wanted o (yielded ops a.tmps) = true then Oper.wp P o a w K Q else E := by
  have hw : Region.wanted o (yielded ops a.tmps) = true := by simp [Region.wanted, hgd]
  rw [if_pos hw]
  subst hty; subst hs; subst hx
  unfold Oper.wp
  simp [execOp, ho, resolve, invoke, builtin, hrun, Result.andThen]
  exact h
theorem own_cap {w : World} {base size n c : Nat} {e : TypeId} {A : Option Addr} {xs : List Value} (h : w.ownsRow base e size (.slice A n c) n xs) : n ≤ c := by
  rcases h.2 with ⟨h0, h1⟩ | ⟨g, cap, cur, hv, _, _, h1, _⟩
  · injection h0 with _ h2 h3; omega
  · injection hv with _ _ h3; omega
theorem one_kept {wr w1 : World} {x : Int} (hb : Below (wr.alloc (.cells #[.int .i64 x] 3)).drew.heap.size (wr.alloc (.cells #[.int .i64 x] 3)).drew w1) : ∀ j u, [Value.int .i64 x][j]? = some u → w1.cell? ((⟨wr.heap.size, 0, none⟩ : Addr).add j) = some u := by
  intro j u hu
  have h := cell_one_new wr (.int .i64 x) 3 j u hu
  rw [add_flat] at h ⊢
  exact (hb.cell (p := ⟨wr.heap.size, 0 + j, none⟩) (by show wr.heap.size < (wr.alloc _).heap.size; simp)).trans h
theorem size_alloc_le (w : World) (o : Obj) : w.heap.size ≤ (w.alloc o).heap.size := by simp

def joinB (a b : List Int) : Bool := gaB a && gaB b && decide (a.length + b.length ≤ 40)
def joinV (a b : List Int) : List Int := if joinB a b = true then a ++ b else []
theorem joinV_no {a b : List Int} (h : joinB a b = false) : joinV a b = [] := by unfold joinV; rw [h]; simp
theorem joinV_yes {a b : List Int} (h : joinB a b = true) : joinV a b = a ++ b := by unfold joinV; rw [h]; simp
theorem joinV_len (a b : List Int) : (joinV a b).length ≤ 1048576 := by
  cases h : joinB a b
  · rw [joinV_no h]; simp
  · rw [joinV_yes h]
    unfold joinB at h
    simp only [Bool.and_eq_true, decide_eq_true_eq] at h
    rw [List.length_append]; omega
set_option maxRecDepth 100000 in
theorem specJoinTrials_any (l : List Int) (A : Option Addr) (c : Nat) (m : List Int) (B : Option Addr) (d : Nat) (w : World) (hf : IntsIn w A l) (hn : l.length ≤ 1048576) (hg : IntsIn w B m) (hm : m.length ≤ 1048576) :
    Calls Try.prog 44 #[.slice A l.length c, .slice B m.length d] w fun e w' => EnTo w w' e (joinV l m) (joinB l m) := by
  have HF := Lib.hid hf; have HM := Lib.hid hg; clear hf hg
  obtain ⟨i0, hi, hz0, hz1, hz2⟩ := info_parts info_int
  have HI := Lib.hid hi; have HZ0 := Lib.hid hz0; have HZ1 := Lib.hid hz1; have HZ2 := Lib.hid hz2
  clear hi hz0 hz1 hz2
  go_enter Try.func44, Try.ntmps44
  go_wp2_with fail
  refine (gaGood_any l A c _ HF.out hn).mono ?_
  rintro e w' ⟨rfl, rfl⟩
  cases hg : gaB l
  · have HK : Hid (joinB l m = false) := Lib.hid (by unfold joinB; rw [hg]; rfl)
    clear hg
    go_wp2
    refine bodyPost_ret (v := .tuple #[.slice none 0 0, .bool false]) (by simp [results, Try.results44, go_sem]) rfl ?_
    exact EnTo.no (joinV_no HK.out) HK.out (Below.refl _ _)
  have HGL := Lib.hid hg; clear hg
  go_wp2_with fail
  refine (gaGood_any m B d _ HM.out hm).mono ?_
  rintro e w' ⟨rfl, rfl⟩
  cases hg : gaB m
  · have HK : Hid (joinB l m = false) := Lib.hid (by unfold joinB; rw [hg]; simp)
    clear hg
    go_wp2
    refine bodyPost_ret (v := .tuple #[.slice none 0 0, .bool false]) (by simp [results, Try.results44, go_sem]) rfl ?_
    exact EnTo.no (joinV_no HK.out) HK.out (Below.refl _ _)
  have HGM := Lib.hid hg; clear hg
  have hl1 := (gaB_iff.1 HGL.out).one; have hl2 := (gaB_iff.1 HGL.out).most; have hm1 := (gaB_iff.1 HGM.out).one; have hm2 := (gaB_iff.1 HGM.out).most
  by_cases h40 : 40 < l.length + m.length
  · have HK : Hid (joinB l m = false) := Lib.hid (by unfold joinB; rw [decide_eq_false (by omega)]; simp)
    have h41 : (40 : Int) < (l.length : Int) + (m.length : Int) := by omega
    go_wp2
    refine bodyPost_ret (v := .tuple #[.slice none 0 0, .bool false]) (by simp [results, Try.results44, go_sem]) rfl ?_
    exact EnTo.no (joinV_no HK.out) HK.out (Below.refl _ _)
  have h41 : ¬ (40 : Int) < (l.length : Int) + (m.length : Int) := by omega
  have HK : Hid (joinB l m = true) := Lib.hid (by unfold joinB; rw [HGL.out, HGM.out, decide_eq_true (by omega)]; rfl)
  obtain ⟨b, off, rfl, hbl, hc⟩ := HF.out (by omega)
  obtain ⟨b', off', rfl, hbl', hc'⟩ := HM.out (by omega)
  have HC := Lib.hid hc; have HC' := Lib.hid hc'
  clear hc hc'
  go_wp2_with fail
  refine (l1OwnS_any l b off c _ HC.out hn).mono ?_
  rintro e w1 ⟨v, rfl, hb1, ho1⟩
  have HB1 := Lib.hid hb1; have HO1 := Lib.hid ho1
  have hnews : ∀ j u, (intsZ m)[j]? = some u → w1.cell? ((⟨b', off', none⟩ : Addr).add j) = some u := news_ints (fun k hk => (hb1.cell (p := ⟨b', off' + k, none⟩) hbl').trans (HC'.out k hk))
  have HNW := Lib.hid hnews
  have hmx : l.length + m.length ≤ maxLen := by unfold maxLen; omega
  clear hb1 ho1 hnews
  go_wp2_with (at_builtin; refine wpList_append_own _ rfl _ _ 22 rfl w.heap.size 3 i0 (.int .i64 0) 1 8 Try.underlying22 HI.out HZ0.out HZ1.out HZ2.out rfl (by decide) _ _ _ rfl HO1.out ⟨b', off', none⟩ m.length d (intsZ m) rfl (by rw [intsZ_len]; omega) HNW.out (intsZ_one m) hmx (by omega) HB1.out.size ?_)
  intro v' w4 hown' hgrow _
  have HB4 := Lib.hid (HB1.out.grown hgrow HB1.out.size (own_lt HO1.out))
  have HO4 : Hid (w4.ownsRow w.heap.size 3 1 v' (l ++ m).length (intsZ (l ++ m))) := Lib.hid (by rw [intsZ_app, List.length_append]; exact hown')
  clear hown' hgrow
  go_wp2
  refine bodyPost_ret (v := .tuple #[v', .bool true]) (by simp [results, Try.results44, go_sem]) rfl ?_
  exact EnTo.yes (joinV_yes HK.out) HK.out HB4.out HO4.out
end Go.Proofs.Ytbepgjknjopikaa
