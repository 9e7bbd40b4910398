/-
  The contracts of spec.ruPut and spec.ruIf.
-/
import Derived.Test.YtljakcfdjcjdbaaPy
import Derived.Deep.RegionLaw
import Derived.Deep.DeepCutAuto
import Derived.Deep.Upon
namespace Go.Proofs.Ytljakcfdjcjdbaa
open Go.RowKit
set_option linter.unusedVariables false

theorem step_own {P : Program} (w : World) {ops : Array Oper} {o : Oper} {a : Act} {K : Act → World → Prop} {Q : Exit → Act → World → Prop} {E : Prop} (hgd : o.guard = none) (s x : Operand) (t : TypeId)
    (ho : o.op = .call { callee := .builtin .append, args := #[s, x], argTypes := #[t, t] })
    (base : Nat) (e : TypeId) (i : TypeInfo) (z : Value) (size bytes : Nat) (ht : P.underlying t = some (.slice e)) (hi : P.info? e = some i) (hz : i.zero = some z)
    (hsize : i.size = size) (hby : i.bytes = bytes) (hzs : z.cells.size = size) (hsz : 0 < size)
    (v : Value) (n : Nat) (xs : List Value) (hs : a.eval s = v) (hown : w.ownsRow base e size v n xs)
    (ad : Addr) (m c : Nat) (news : List Value) (hx : a.eval x = .slice (some ad) m c) (hl : news.length = m * size) (hnews : ∀ j u, news[j]? = some u → w.cell? (ad.add j) = some u) (h1 : ∀ u ∈ news, u.oneCell' = true)
    (h63 : n + m ≤ maxLen) (hbytes : (n + m) * bytes ≤ 140737488355328) (hbase : base ≤ w.heap.size)
    (h : ∀ v' w', w'.ownsRow base e size v' (n + m) (xs ++ news) → w.grownBy w' v.ownBlock → K (a.put o.dst v') w') :
    if Region.wanted o (yielded ops a.tmps) = true then Oper.wp P o a w K Q else E := by
  have hw : Region.wanted o (yielded ops a.tmps) = true := by simp [Region.wanted, hgd]
  rw [if_pos hw]
  exact wp_append_own w s x t ho base e i z size bytes ht hi hz hsize hby hzs hsz v n xs hs hown ad m c news hx hl hnews h1 h63 hbytes hbase fun v' w' h2 h3 _ => h v' w' h2 h3
theorem step_is {P : Program} (w w' : World) (v v0 v1 : Value) {ops : Array Oper} {o : Oper} {a : Act} {K : Act → World → Prop} {Q : Exit → Act → World → Prop} {E : Prop} (hgd : o.guard = none) (s x : Operand) (t ty : TypeId)
    (ho : o.op = .call { callee := .builtin .append, args := #[s, x], argTypes := #[t, t] }) (hty : o.type = ty) (hs : a.eval s = v0) (hx : a.eval x = v1)
    (hrun : (Builtin.append_ #[t, t] ty #[v0, v1]).run P w = .ok v w') (h : K (a.put o.dst v) w') :
    if Region.wanted o (yielded ops a.tmps) = true then Oper.wp P o a w K Q else E := by
  have hw : Region.wanted o (yielded ops a.tmps) = true := by simp [Region.wanted, hgd]
  rw [if_pos hw]
  subst hty; subst hs; subst hx
  unfold Oper.wp
  simp [execOp, ho, resolve, invoke, builtin, hrun, Result.andThen]
  exact h
theorem own_cap {w : World} {base size n c : Nat} {e : TypeId} {A : Option Addr} {xs : List Value} (h : w.ownsRow base e size (.slice A n c) n xs) : n ≤ c := by
  rcases h.2 with ⟨h0, h1⟩ | ⟨g, cap, cur, hv, _, _, h1, _⟩
  · injection h0 with _ h2 h3; omega
  · injection hv with _ _ h3; omega

theorem flatSl_app (l m : List Sl) : flatSl (l ++ m) = flatSl l ++ flatSl m := by simp [flatSl]
theorem elemS : Try.prog.elem 25 = 57 := by kernel_rfl
theorem sizeS (W : World) : (sizeOf (Try.prog.elem 25)).run Try.prog W = .ok 2 W := by
  obtain ⟨i0, hi, hz0, hz1, hz2⟩ := info_parts infoSl
  rw [elemS]
  simp [sizeOf, typeInfo, hi, hz1]
theorem underS : Try.prog.underlying 25 = some (.slice (Try.prog.elem 25)) := by rw [elemS]; exact Try.underlying25
theorem slice_headS (b off n cap k : Nat) (hk : k ≤ n) (hn : n ≤ cap) (W : World) :
    (Instr.slice 25 (.slice (some ⟨b, off, none⟩) n cap) none (some (.int .i64 (k : Int))) none).run Try.prog W = .ok (.slice (some ⟨b, off, none⟩) k cap) W := by
  rw [run_slice_h W _ _ _ _ underS .i64 (k : Int) (by omega) (by omega), sizeS]
  by_cases hc : cap = 0 <;> simp [sliced, Result.andThen, Addr.add, hc]
theorem slice_tailS (b off n cap k : Nat) (hk : k ≤ n) (hn : n ≤ cap) :
    ∃ a2 : Addr, (∀ W, (Instr.slice 25 (.slice (some ⟨b, off, none⟩) n cap) (some (.int .i64 (k : Int))) none none).run Try.prog W = .ok (.slice (some a2) (n - k) (cap - k)) W) ∧ a2.block = b ∧ (k < n → a2 = ⟨b, off + k * 2, none⟩) := by
  refine ⟨if cap = k then ⟨b, off, none⟩ else (⟨b, off, none⟩ : Addr).add (k * 2), fun W => ?_, ?_, ?_⟩
  · rw [run_slice_l W _ _ _ _ underS .i64 (k : Int) (by omega) (by omega), sizeS]
    by_cases hc : cap = k <;> simp [sliced, Result.andThen, hc]
  · split
    · rfl
    · unfold Addr.add; split <;> rfl
  · intro h
    rw [if_neg (by omega), add_flat]
theorem sls_take {w : World} {A : Option Addr} {l : List Sl} (h : SlsIn w A l) (k : Nat) : SlsIn w A (l.take k) := fun h0 => by
  rw [List.length_take] at h0
  obtain ⟨b, off, h1, h2, h3⟩ := h (by omega)
  refine ⟨b, off, h1, h2, fun i hi => ?_⟩
  rw [List.length_take] at hi
  rw [List.getElem_take]; exact h3 i (by omega)
theorem sls_drop {w : World} {b off : Nat} {l : List Sl} (h : SlsIn w (some ⟨b, off, none⟩) l) (k : Nat) : SlsIn w (some ⟨b, off + k * 2, none⟩) (l.drop k) := fun h0 => by
  rw [List.length_drop] at h0
  obtain ⟨b', off', h1, h2, h3⟩ := h (by omega)
  have e := Option.some.inj h1
  rw [Addr.mk.injEq] at e
  obtain ⟨rfl, rfl, _⟩ := e
  refine ⟨_, _, rfl, h2, fun i hi => ?_⟩
  rw [List.length_drop] at hi
  rw [List.getElem_drop, show off + k * 2 + i * 2 = off + (k + i) * 2 from by omega]
  exact h3 (k + i) (by omega)
theorem cells_two_new (w : World) (x y : Value) (t : TypeId) : ∀ j u, [x, y][j]? = some u → (w.alloc (.cells #[x, y] t)).cell? ((⟨w.heap.size, 0, none⟩ : Addr).add j) = some u := by
  intro j u hu
  rw [add_flat, cell_of_heap (heap_new _ _), Nat.zero_add]
  simpa using hu

theorem two_of_heap {w : World} {b : Nat} {x y : Value} {t : TypeId} (h : w.heap[b]? = some (.cells #[x, y] t (0, 0))) : ∀ j u, [x, y][j]? = some u → w.cell? ((⟨b, 0, none⟩ : Addr).add j) = some u := by
  intro j u hu
  rw [add_flat, cell_of_heap h, Nat.zero_add]
  simpa using hu
theorem grown_two {W w5 : World} {b S : Nat} {x y : Value} {t : TypeId} (hg : W.grownBy w5 (some b)) (hS : W.heap[S]? = some (.cells #[x, y] t (0, 0))) (hne : S ≠ b) : ∀ j u, [x, y][j]? = some u → w5.cell? ((⟨S, 0, none⟩ : Addr).add j) = some u :=
  two_of_heap ((hg.block S (lt_of_heap hS) (fun e => hne (Option.some.inj e))).trans hS)
theorem heap_first (w : World) (a b : Obj) : ((w.alloc a).alloc b).heap[w.heap.size]? = some a := (Below.heap_alloc (w.alloc a) b w.heap.size (by simp)).trans (heap_new w a)
theorem heap_second (w : World) (a b : Obj) : ((w.alloc a).alloc b).heap[w.heap.size + 1]? = some b := by
  have h := heap_new (w.alloc a) b
  rw [World.size_alloc] at h; exact h
theorem size_alloc_le (w : World) (o : Obj) : w.heap.size ≤ (w.alloc o).heap.size := by simp
theorem own_row2p {w : World} {base n : Nat} {e : TypeId} {v : Value} {l : List Sl} (h : w.ownsRow base e 2 v n (flatSl l)) (hn : 0 < n) : ∃ g cap, v = .slice (some ⟨g, 0, none⟩) l.length cap ∧ base ≤ g ∧ Marked w g e (cap * 2) (flatSl l) ∧ l.length ≤ cap ∧ cap ≤ maxLen := by
  refine own_row2 h (fun e => ?_)
  subst e
  rcases h.2 with ⟨_, h1⟩ | ⟨g, cap, cur, h1, _⟩
  · omega
  · cases h1

set_option maxRecDepth 100000 in
set_option maxHeartbeats 8000000 in
theorem ruPut_any (l : List Sl) (g cap : Nat) (n c : Int) (w : World) (hl : SlsIn w (some ⟨g, 0, none⟩) l) (hcap : l.length ≤ cap) (hn : l.length ≤ 40) (hb : ∀ k (h : k < l.length), -1000 ≤ l[k].cnt ∧ l[k].cnt ≤ 1000) (hc : -1000 ≤ c ∧ c ≤ 1000) :
    Calls Try.prog 70 #[.slice (some ⟨g, 0, none⟩) l.length cap, .int .i64 n, .int .i64 c] w fun e w' => SlTo w w' e (putS l n c) := by
  obtain ⟨i0, hi, hz0, hz1, hz2⟩ := info_parts infoSl
  have HI0 := Lib.hid hi; have HZ0 := Lib.hid hz0; have HZ1 := Lib.hid hz1; have HZ2 := Lib.hid hz2
  clear hi hz0 hz1 hz2
  have HNW := Lib.hid (newsSl (hl.below ((Below.refl w.heap.size w).alloc (Nat.le_refl _) (.cells #[] 57)) (Nat.le_refl _)))
  have HOW := Lib.hid (own_none2 (base := w.heap.size) (w.alloc (.cells #[] 57)) (heap_new _ _) (Nat.le_refl _))
  have hmx : 0 + l.length ≤ maxLen := by unfold maxLen; omega
  have HL := Lib.hid hl; have HCB := Lib.hid hb
  clear hl hb
  go_enter Try.func70, Try.ntmps70
  go_wp2
  go_loop [7] (fun q => ∃ k : Nat, k ≤ l.length ∧ q = .int .i64 (k : Int) ∧ ∀ i (h : i < l.length), i < k → l[i].len < n) (fun q => l.length - (RowKit.intOf q).toNat)
  case atStart => exact ⟨0, Nat.zero_le _, rfl, fun i h hi => absurd hi (by omega)⟩
  case round =>
    obtain ⟨k, hkl, rfl, hs⟩ := hrel
    have HLT := Lib.hid hs; clear hs
    by_cases hk : k < l.length
    · obtain ⟨b, off, hA, hbl, hcl⟩ := HL.out (by omega)
      have e := Option.some.inj hA
      rw [Addr.mk.injEq] at e
      obtain ⟨rfl, rfl, _⟩ := e
      obtain ⟨hc0, hc1⟩ := hcl k hk
      rw [Nat.zero_add] at hc0 hc1
      have hkk : (k : Int) < (l.length : Int) := by omega
      have HNX : Hid (l[k].len < n → ∀ i (h : i < l.length), i < k + 1 → l[i].len < n) := Lib.hid (fun h0 i h hi => by
        rcases Nat.lt_or_ge i k with h1 | h1
        · exact HLT.out i h h1
        · obtain rfl : i = k := by omega
          exact h0)
      have HPA : Hid (n ≤ l[k].len → putS l n c = if l[k].len = n then l.set k ⟨n, l[k].cnt + c⟩ else l.take k ++ ([⟨n, c⟩] ++ l.drop k)) := Lib.hid (fun h0 => by
        have := putS_at (l := l) (n := n) (c := c) hkl HLT.out (fun _ => h0)
        rw [getS hk] at this
        simpa [hk] using this)
      have HFS : Hid (flatSl (l.set k ⟨l[k].len, l[k].cnt + c⟩) = (flatSl l).set (k * 2 + 1) (.int .i64 (l[k].cnt + c))) := Lib.hid (flatSl_set l k _ hk)
      have hcb := HCB.out k hk
      have HG1 : Hid (k * 2 + 1 < (flatSl l).length) := Lib.hid (by rw [flatSl_len]; omega)
      have HGV : Hid ((flatSl l)[k * 2 + 1]? = some (.int .i64 l[k].cnt)) := Lib.hid (flatSl_get l k hk).2
      clear hcl
      generalize hy : l[k].len = y at *
      generalize hz : l[k].cnt = z at *
      clear hy hz
      rcases (by omega : y < n ∨ y = n ∨ (¬ y < n ∧ ¬ y = n)) with h1 | h1 | ⟨h1, h2⟩
      · have H := Lib.hid (HNX.out h1)
        go_wp2
        go_round
        case rel => exact ⟨k + 1, by omega, by go_num, H.out⟩
        case measure => simp [RowKit.intOf]; omega
      · subst h1
        have HP := Lib.hid (HPA.out (Int.le_refl _))
        rw [if_pos rfl] at HP
        clear HPA HNX
        go_wp2_with (at_builtin; refine wpList_append_own _ rfl _ _ 25 rfl w.heap.size 57 i0 (.agg #[.int .i64 0, .int .i64 0]) 2 16 Try.underlying25 HI0.out HZ0.out HZ1.out HZ2.out rfl (by decide) _ _ _ rfl HOW.out ⟨g, 0, none⟩ l.length cap (flatSl l) rfl (by rw [flatSl_len]; omega) HNW.out (flatSl_one l) hmx (by omega) (by simp) ?_)
        intro v' w4 hown' hgrow hnil
        have HB1 : Hid (Below w.heap.size w w4) := Lib.hid (((Below.refl _ _).alloc (Nat.le_refl _) _).grown hgrow (by simp) (own_lt HOW.out))
        have hv : v' ≠ .slice none 0 0 := hnil
        have HO : Hid (w4.ownsRow w.heap.size 57 2 v' l.length (flatSl l)) := Lib.hid (by simpa [flatSl] using hown')
        obtain ⟨g2, cap2, rfl, hg2, hm, h1, h2⟩ := own_row2 HO.out hv
        have HM := Lib.hid hm
        clear hown' hgrow hnil hm HO hv
        have c0 := (HB1.out.cell (p := ⟨g, k * 2, none⟩) hbl).trans hc0
        have d1 := HM.out.cellAt HG1.out
        have e1 : (flatSl l)[k * 2 + 1]'HG1.out = .int .i64 z := by have := HGV.out; rw [List.getElem?_eq_getElem HG1.out] at this; exact Option.some.inj this
        rw [e1] at d1
        have f1 := HM.out.freeAt (k * 2 + 1)
        have gl := HM.out.lt
        have HMM : Hid (Marked (w4.setCell ⟨g2, k * 2 + 1, none⟩ (.int .i64 (z + c))) g2 57 (cap2 * 2) (flatSl (putS l y c))) := Lib.hid (by
          rw [HP.out, HFS.out]; exact HM.out.put _)
        have HB2 := Lib.hid (HB1.out.setCell (p := ⟨g2, k * 2 + 1, none⟩) hg2 (.int .i64 (z + c)))
        have HLE : Hid ((putS l y c).length = l.length) := Lib.hid (by rw [HP.out, List.length_set])
        clear e1
        go_wp2
        go_ret
        exact ⟨g2, cap2, by rw [HLE.out] <;> rfl, HB2.out, hg2, HMM.out, by rw [HLE.out]; exact h1, h2⟩
      · have HP := Lib.hid (HPA.out (by omega))
        rw [if_neg h2] at HP
        have h2' := h2
        clear HPA HNX HGV HG1 HFS
        go_wp2_with (at_builtin; refine wpList_append_own _ rfl _ _ 25 rfl w.heap.size 57 i0 (.agg #[.int .i64 0, .int .i64 0]) 2 16 Try.underlying25 HI0.out HZ0.out HZ1.out HZ2.out rfl (by decide) _ _ _ rfl HOW.out ⟨g, 0, none⟩ l.length cap (flatSl l) rfl (by rw [flatSl_len]; omega) HNW.out (flatSl_one l) hmx (by omega) (by simp) ?_)
        intro v' w4 hown' hgrow hnil
        have HB1 : Hid (Below w.heap.size w w4) := Lib.hid (((Below.refl _ _).alloc (Nat.le_refl _) _).grown hgrow (by simp) (own_lt HOW.out))
        have hv : v' ≠ .slice none 0 0 := hnil
        have HO : Hid (w4.ownsRow w.heap.size 57 2 v' l.length (flatSl l)) := Lib.hid (by simpa [flatSl] using hown')
        obtain ⟨g2, cap2, rfl, hg2, hm, h1, h2⟩ := own_row2 HO.out hv
        have HM := Lib.hid hm
        clear hown' hgrow hnil hm HO hv
        have c0 := (HB1.out.cell (p := ⟨g, k * 2, none⟩) hbl).trans hc0
        have HL4 := Lib.hid (HL.out.below HB1.out (Nat.le_refl _))
        have hs1 := slice_headS g 0 l.length cap k hkl hcap
        obtain ⟨a2, hs2, ha2, ha3⟩ := slice_tailS g 0 l.length cap k hkl hcap
        have HTL : Hid ((flatSl (l.take k)).length = k * 2) := Lib.hid (by rw [flatSl_len, List.length_take]; omega)
        have HDL : Hid ((flatSl (l.drop k)).length = (l.length - k) * 2) := Lib.hid (by rw [flatSl_len, List.length_drop]; omega)
        have HN1 : Hid (∀ W, Below w4.heap.size w4 W → ∀ j u, (flatSl (l.take k))[j]? = some u → W.cell? ((⟨g, 0, none⟩ : Addr).add j) = some u) := Lib.hid (fun W hW => newsSl ((sls_take HL4.out k).below hW (Nat.le_refl _)))
        have HN3 : Hid (∀ W, Below w4.heap.size w4 W → ∀ j u, (flatSl (l.drop k))[j]? = some u → W.cell? (a2.add j) = some u) := Lib.hid (fun W hW j u hu => by
          have hj : j < (flatSl (l.drop k)).length := (List.getElem?_eq_some_iff.1 hu).1
          rw [HDL.out] at hj
          rw [ha3 (by omega)]
          exact newsSl ((sls_drop HL4.out k).below hW (Nat.le_refl _)) j u hu)
        have hmxA : 0 + k ≤ maxLen := by unfold maxLen; omega
        have hmxB : k + 1 ≤ maxLen := by unfold maxLen; omega
        have hmxC : k + 1 + (l.length - k) ≤ maxLen := by unfold maxLen; omega
        have two_one : ∀ u ∈ [Value.int .i64 n, .int .i64 c], u.oneCell' = true := by simp [Value.oneCell']
        clear ha2 ha3
        have q1 : Below w4.heap.size w4 (w4.alloc (.cells #[] 57)).drew := ((Below.refl _ _).alloc (Nat.le_refl _) _).drew
        have q2 : Below w4.heap.size w4 ((w4.alloc (.cells #[] 57)).alloc (.cells #[.int .i64 n, .int .i64 c] 57)).drew := (((Below.refl _ _).alloc (Nat.le_refl _) _).alloc (by simp) _).drew
        have q3 : Below w4.heap.size w4 ((w4.alloc (.cells #[.int .i64 n, .int .i64 c] 57)).alloc (.cells #[] 57)).drew := (((Below.refl _ _).alloc (Nat.le_refl _) _).alloc (by simp) _).drew
        have Q1 := Lib.hid q1; have Q2 := Lib.hid q2; have Q3 := Lib.hid q3
        clear q1 q2 q3
        have HEND : Hid (flatSl (l.take k) ++ [.int .i64 n, .int .i64 c] ++ flatSl (l.drop k) = flatSl (putS l n c)) := Lib.hid (by
          rw [HP.out, flatSl_app, flatSl_app, List.append_assoc]; rfl)
        have HLN : Hid (k + 1 + (l.length - k) = (putS l n c).length) := Lib.hid (by
          rw [HP.out, List.length_append, List.length_append, List.length_take, List.length_drop, Nat.min_eq_left hkl]
          show _ = k + (1 + _); omega)
        have hg4 : w.heap.size ≤ w4.heap.size := HB1.out.size

        go_wp2_with fail
        (try clear c0)
        go_region_law (first
          | (refine step_own (w4.alloc (.cells #[] 57)).drew (by rfl) (.tmp 50) (.tmp 53) 25 (by rfl) w4.heap.size 57 i0 (.agg #[.int .i64 0, .int .i64 0]) 2 16 Try.underlying25 HI0.out HZ0.out HZ1.out HZ2.out rfl (by decide) (.slice (some ⟨w4.heap.size, 0, none⟩) 0 0) 0 (flatSl []) (by rfl) (own_none2 (base := w4.heap.size) (w4.alloc (.cells #[] 57)).drew (heap_new w4 (.cells #[] 57)) (Nat.le_refl _)) ⟨g, 0, none⟩ k cap (flatSl (l.take k)) (by rfl) (by rw [HTL.out]) (HN1.out (w4.alloc (.cells #[] 57)).drew Q1.out) (flatSl_one _) hmxA (by omega) (Below.size Q1.out) ?_; intro v1 w5 hown' hgrow; have HO1 : Hid (w5.ownsRow w4.heap.size 57 2 v1 k (flatSl (l.take k))) := Lib.hid (by simpa [flatSl] using hown'); have HB5 : Hid (Below w4.heap.size w4 w5) := Lib.hid (Below.grown Q1.out hgrow (Below.size Q1.out) (own_lt (own_none2 (base := w4.heap.size) (w4.alloc (.cells #[] 57)).drew (heap_new w4 (.cells #[] 57)) (Nat.le_refl _)))); skip; clear hown' hgrow)
          | (refine step_own ((w4.alloc (.cells #[] 57)).alloc (.cells #[.int .i64 n, .int .i64 c] 57)).drew (by rfl) (.tmp 50) (.tmp 53) 25 (by rfl) w4.heap.size 57 i0 (.agg #[.int .i64 0, .int .i64 0]) 2 16 Try.underlying25 HI0.out HZ0.out HZ1.out HZ2.out rfl (by decide) (.slice (some ⟨w4.heap.size, 0, none⟩) 0 0) 0 (flatSl []) (by rfl) (own_none2 (base := w4.heap.size) ((w4.alloc (.cells #[] 57)).alloc (.cells #[.int .i64 n, .int .i64 c] 57)).drew (heap_first w4 (.cells #[] 57) (.cells #[.int .i64 n, .int .i64 c] 57)) (Nat.le_refl _)) ⟨g, 0, none⟩ k cap (flatSl (l.take k)) (by rfl) (by rw [HTL.out]) (HN1.out ((w4.alloc (.cells #[] 57)).alloc (.cells #[.int .i64 n, .int .i64 c] 57)).drew Q2.out) (flatSl_one _) hmxA (by omega) (Below.size Q2.out) ?_; intro v1 w5 hown' hgrow; have HO1 : Hid (w5.ownsRow w4.heap.size 57 2 v1 k (flatSl (l.take k))) := Lib.hid (by simpa [flatSl] using hown'); have HB5 : Hid (Below w4.heap.size w4 w5) := Lib.hid (Below.grown Q2.out hgrow (Below.size Q2.out) (own_lt (own_none2 (base := w4.heap.size) ((w4.alloc (.cells #[] 57)).alloc (.cells #[.int .i64 n, .int .i64 c] 57)).drew (heap_first w4 (.cells #[] 57) (.cells #[.int .i64 n, .int .i64 c] 57)) (Nat.le_refl _)))); have HC1 := Lib.hid (grown_two (W := ((w4.alloc (.cells #[] 57)).alloc (.cells #[.int .i64 n, .int .i64 c] 57)).drew) (b := w4.heap.size) hgrow (heap_second w4 (.cells #[] 57) (.cells #[.int .i64 n, .int .i64 c] 57)) (by omega)); clear hown' hgrow)
          | (refine step_own ((w4.alloc (.cells #[.int .i64 n, .int .i64 c] 57)).alloc (.cells #[] 57)).drew (by rfl) (.tmp 50) (.tmp 53) 25 (by rfl) w4.heap.size 57 i0 (.agg #[.int .i64 0, .int .i64 0]) 2 16 Try.underlying25 HI0.out HZ0.out HZ1.out HZ2.out rfl (by decide) (.slice (some ⟨w4.heap.size + 1, 0, none⟩) 0 0) 0 (flatSl []) (by rfl) (own_none2 (base := w4.heap.size) ((w4.alloc (.cells #[.int .i64 n, .int .i64 c] 57)).alloc (.cells #[] 57)).drew (heap_second w4 (.cells #[.int .i64 n, .int .i64 c] 57) (.cells #[] 57)) (Nat.le_succ _)) ⟨g, 0, none⟩ k cap (flatSl (l.take k)) (by rfl) (by rw [HTL.out]) (HN1.out ((w4.alloc (.cells #[.int .i64 n, .int .i64 c] 57)).alloc (.cells #[] 57)).drew Q3.out) (flatSl_one _) hmxA (by omega) (Below.size Q3.out) ?_; intro v1 w5 hown' hgrow; have HO1 : Hid (w5.ownsRow w4.heap.size 57 2 v1 k (flatSl (l.take k))) := Lib.hid (by simpa [flatSl] using hown'); have HB5 : Hid (Below w4.heap.size w4 w5) := Lib.hid (Below.grown Q3.out hgrow (Below.size Q3.out) (own_lt (own_none2 (base := w4.heap.size) ((w4.alloc (.cells #[.int .i64 n, .int .i64 c] 57)).alloc (.cells #[] 57)).drew (heap_second w4 (.cells #[.int .i64 n, .int .i64 c] 57) (.cells #[] 57)) (Nat.le_succ _)))); have HC1 := Lib.hid (grown_two (W := ((w4.alloc (.cells #[.int .i64 n, .int .i64 c] 57)).alloc (.cells #[] 57)).drew) (b := w4.heap.size + 1) hgrow (heap_first w4 (.cells #[.int .i64 n, .int .i64 c] 57) (.cells #[] 57)) (by omega)); clear hown' hgrow)
          | (refine step_own (w5.alloc (.cells #[.int .i64 n, .int .i64 c] 57)) (by rfl) (.tmp 54) (.tmp 58) 25 (by rfl) w4.heap.size 57 i0 (.agg #[.int .i64 0, .int .i64 0]) 2 16 Try.underlying25 HI0.out HZ0.out HZ1.out HZ2.out rfl (by decide) v1 k (flatSl (l.take k)) (by rfl) (HO1.out.alloc _) ⟨w5.heap.size, 0, none⟩ 1 1 [.int .i64 n, .int .i64 c] (by rfl) rfl (cells_two_new _ _ _ _) two_one hmxB (by omega) (Nat.le_trans HB5.out.size (size_alloc_le _ _)) ?_; intro v2 w6 hown' hgrow; have HO2 : Hid (w6.ownsRow w4.heap.size 57 2 v2 (k + 1) (flatSl (l.take k) ++ [.int .i64 n, .int .i64 c])) := Lib.hid hown'; have HB6 : Hid (Below w4.heap.size w4 w6) := Lib.hid (Below.grown (HB5.out.alloc HB5.out.size (.cells #[.int .i64 n, .int .i64 c] 57)) hgrow (Nat.le_trans HB5.out.size (size_alloc_le _ _)) (own_lt HO1.out)); clear hown' hgrow)
          | (refine step_own w5 (by rfl) (.tmp 54) (.tmp 58) 25 (by rfl) w4.heap.size 57 i0 (.agg #[.int .i64 0, .int .i64 0]) 2 16 Try.underlying25 HI0.out HZ0.out HZ1.out HZ2.out rfl (by decide) v1 k (flatSl (l.take k)) (by rfl) HO1.out ⟨w4.heap.size + 1, 0, none⟩ 1 1 [.int .i64 n, .int .i64 c] (by rfl) rfl HC1.out two_one hmxB (by omega) HB5.out.size ?_; intro v2 w6 hown' hgrow; have HO2 : Hid (w6.ownsRow w4.heap.size 57 2 v2 (k + 1) (flatSl (l.take k) ++ [.int .i64 n, .int .i64 c])) := Lib.hid hown'; have HB6 : Hid (Below w4.heap.size w4 w6) := Lib.hid (Below.grown HB5.out hgrow HB5.out.size (own_lt HO1.out)); clear hown' hgrow)
          | (refine step_own w5 (by rfl) (.tmp 54) (.tmp 58) 25 (by rfl) w4.heap.size 57 i0 (.agg #[.int .i64 0, .int .i64 0]) 2 16 Try.underlying25 HI0.out HZ0.out HZ1.out HZ2.out rfl (by decide) v1 k (flatSl (l.take k)) (by rfl) HO1.out ⟨w4.heap.size, 0, none⟩ 1 1 [.int .i64 n, .int .i64 c] (by rfl) rfl HC1.out two_one hmxB (by omega) HB5.out.size ?_; intro v2 w6 hown' hgrow; have HO2 : Hid (w6.ownsRow w4.heap.size 57 2 v2 (k + 1) (flatSl (l.take k) ++ [.int .i64 n, .int .i64 c])) := Lib.hid hown'; have HB6 : Hid (Below w4.heap.size w4 w6) := Lib.hid (Below.grown HB5.out hgrow HB5.out.size (own_lt HO1.out)); clear hown' hgrow)
          | (refine step_own w6 (by rfl) (.tmp 59) (.tmp 62) 25 (by rfl) w4.heap.size 57 i0 (.agg #[.int .i64 0, .int .i64 0]) 2 16 Try.underlying25 HI0.out HZ0.out HZ1.out HZ2.out rfl (by decide) v2 (k + 1) (flatSl (l.take k) ++ [.int .i64 n, .int .i64 c]) (by rfl) HO2.out a2 (l.length - k) (cap - k) (flatSl (l.drop k)) (by rfl) (by rw [HDL.out]) (HN3.out w6 HB6.out) (flatSl_one _) hmxC (by omega) HB6.out.size ?_
             intro v3 w7 hown7 hgrow7
             have HB7 : Hid (Below w4.heap.size w4 w7) := Lib.hid (HB6.out.grown hgrow7 HB6.out.size (own_lt HO2.out))
             have HO7 := Lib.hid hown7
             clear hgrow7 hown7))
        all_goals
          have ho7 := HO7.out
          rw [HEND.out] at ho7
          obtain ⟨g7, cap7, rfl, hg7, hm7, k1, k2⟩ := own_row2p ho7 (by omega)
          have HM7 := Lib.hid hm7
          have HBB := Lib.hid (HB1.out.trans (HB7.out.mono HB1.out.size))
          clear ho7 hm7 HO7
          go_wp2
          go_ret
          exact ⟨g7, cap7, rfl, HBB.out, by omega, HM7.out, k1, k2⟩
    · have hnk : ¬ (k : Int) < (l.length : Int) := by omega
      have HP : Hid (putS l n c = l.take k ++ ([⟨n, c⟩] ++ l.drop k)) := Lib.hid (by
        rw [putS_at (l := l) (n := n) (c := c) hkl HLT.out (fun h => absurd h hk), if_neg (fun h => absurd h.2 hk)])
      go_wp2_with (at_builtin; refine wpList_append_own _ rfl _ _ 25 rfl w.heap.size 57 i0 (.agg #[.int .i64 0, .int .i64 0]) 2 16 Try.underlying25 HI0.out HZ0.out HZ1.out HZ2.out rfl (by decide) _ _ _ rfl HOW.out ⟨g, 0, none⟩ l.length cap (flatSl l) rfl (by rw [flatSl_len]; omega) HNW.out (flatSl_one l) hmx (by omega) (by simp) ?_)
      intro v' w4 hown' hgrow hnil
      have HB1 : Hid (Below w.heap.size w w4) := Lib.hid (((Below.refl _ _).alloc (Nat.le_refl _) _).grown hgrow (by simp) (own_lt HOW.out))
      have hv : v' ≠ .slice none 0 0 := hnil
      have HO : Hid (w4.ownsRow w.heap.size 57 2 v' l.length (flatSl l)) := Lib.hid (by simpa [flatSl] using hown')
      obtain ⟨g2, cap2, rfl, hg2, hm, h1, h2⟩ := own_row2 HO.out hv
      have HM := Lib.hid hm
      clear hown' hgrow hnil hm HO hv
      have HL4 := Lib.hid (HL.out.below HB1.out (Nat.le_refl _))
      have hs1 := slice_headS g 0 l.length cap k hkl hcap
      obtain ⟨a2, hs2, ha2, ha3⟩ := slice_tailS g 0 l.length cap k hkl hcap
      have HTL : Hid ((flatSl (l.take k)).length = k * 2) := Lib.hid (by rw [flatSl_len, List.length_take]; omega)
      have HDL : Hid ((flatSl (l.drop k)).length = (l.length - k) * 2) := Lib.hid (by rw [flatSl_len, List.length_drop]; omega)
      have HN1 : Hid (∀ W, Below w4.heap.size w4 W → ∀ j u, (flatSl (l.take k))[j]? = some u → W.cell? ((⟨g, 0, none⟩ : Addr).add j) = some u) := Lib.hid (fun W hW => newsSl ((sls_take HL4.out k).below hW (Nat.le_refl _)))
      have HN3 : Hid (∀ W, Below w4.heap.size w4 W → ∀ j u, (flatSl (l.drop k))[j]? = some u → W.cell? (a2.add j) = some u) := Lib.hid (fun W hW j u hu => by
        have hj : j < (flatSl (l.drop k)).length := (List.getElem?_eq_some_iff.1 hu).1
        rw [HDL.out] at hj
        rw [ha3 (by omega)]
        exact newsSl ((sls_drop HL4.out k).below hW (Nat.le_refl _)) j u hu)
      have hmxA : 0 + k ≤ maxLen := by unfold maxLen; omega
      have hmxB : k + 1 ≤ maxLen := by unfold maxLen; omega
      have hmxC : k + 1 + (l.length - k) ≤ maxLen := by unfold maxLen; omega
      have two_one : ∀ u ∈ [Value.int .i64 n, .int .i64 c], u.oneCell' = true := by simp [Value.oneCell']
      clear ha2 ha3
      have q1 : Below w4.heap.size w4 (w4.alloc (.cells #[] 57)).drew := ((Below.refl _ _).alloc (Nat.le_refl _) _).drew
      have q2 : Below w4.heap.size w4 ((w4.alloc (.cells #[] 57)).alloc (.cells #[.int .i64 n, .int .i64 c] 57)).drew := (((Below.refl _ _).alloc (Nat.le_refl _) _).alloc (by simp) _).drew
      have q3 : Below w4.heap.size w4 ((w4.alloc (.cells #[.int .i64 n, .int .i64 c] 57)).alloc (.cells #[] 57)).drew := (((Below.refl _ _).alloc (Nat.le_refl _) _).alloc (by simp) _).drew
      have Q1 := Lib.hid q1; have Q2 := Lib.hid q2; have Q3 := Lib.hid q3
      clear q1 q2 q3
      have HEND : Hid (flatSl (l.take k) ++ [.int .i64 n, .int .i64 c] ++ flatSl (l.drop k) = flatSl (putS l n c)) := Lib.hid (by
        rw [HP.out, flatSl_app, flatSl_app, List.append_assoc]; rfl)
      have HLN : Hid (k + 1 + (l.length - k) = (putS l n c).length) := Lib.hid (by
        rw [HP.out, List.length_append, List.length_append, List.length_take, List.length_drop, Nat.min_eq_left hkl]
        show _ = k + (1 + _); omega)
      have hg4 : w.heap.size ≤ w4.heap.size := HB1.out.size

      go_wp2_with fail
      (try clear c0)
      go_region_law (first
        | (refine step_own (w4.alloc (.cells #[] 57)).drew (by rfl) (.tmp 50) (.tmp 53) 25 (by rfl) w4.heap.size 57 i0 (.agg #[.int .i64 0, .int .i64 0]) 2 16 Try.underlying25 HI0.out HZ0.out HZ1.out HZ2.out rfl (by decide) (.slice (some ⟨w4.heap.size, 0, none⟩) 0 0) 0 (flatSl []) (by rfl) (own_none2 (base := w4.heap.size) (w4.alloc (.cells #[] 57)).drew (heap_new w4 (.cells #[] 57)) (Nat.le_refl _)) ⟨g, 0, none⟩ k cap (flatSl (l.take k)) (by rfl) (by rw [HTL.out]) (HN1.out (w4.alloc (.cells #[] 57)).drew Q1.out) (flatSl_one _) hmxA (by omega) (Below.size Q1.out) ?_; intro v1 w5 hown' hgrow; have HO1 : Hid (w5.ownsRow w4.heap.size 57 2 v1 k (flatSl (l.take k))) := Lib.hid (by simpa [flatSl] using hown'); have HB5 : Hid (Below w4.heap.size w4 w5) := Lib.hid (Below.grown Q1.out hgrow (Below.size Q1.out) (own_lt (own_none2 (base := w4.heap.size) (w4.alloc (.cells #[] 57)).drew (heap_new w4 (.cells #[] 57)) (Nat.le_refl _)))); skip; clear hown' hgrow)
        | (refine step_own ((w4.alloc (.cells #[] 57)).alloc (.cells #[.int .i64 n, .int .i64 c] 57)).drew (by rfl) (.tmp 50) (.tmp 53) 25 (by rfl) w4.heap.size 57 i0 (.agg #[.int .i64 0, .int .i64 0]) 2 16 Try.underlying25 HI0.out HZ0.out HZ1.out HZ2.out rfl (by decide) (.slice (some ⟨w4.heap.size, 0, none⟩) 0 0) 0 (flatSl []) (by rfl) (own_none2 (base := w4.heap.size) ((w4.alloc (.cells #[] 57)).alloc (.cells #[.int .i64 n, .int .i64 c] 57)).drew (heap_first w4 (.cells #[] 57) (.cells #[.int .i64 n, .int .i64 c] 57)) (Nat.le_refl _)) ⟨g, 0, none⟩ k cap (flatSl (l.take k)) (by rfl) (by rw [HTL.out]) (HN1.out ((w4.alloc (.cells #[] 57)).alloc (.cells #[.int .i64 n, .int .i64 c] 57)).drew Q2.out) (flatSl_one _) hmxA (by omega) (Below.size Q2.out) ?_; intro v1 w5 hown' hgrow; have HO1 : Hid (w5.ownsRow w4.heap.size 57 2 v1 k (flatSl (l.take k))) := Lib.hid (by simpa [flatSl] using hown'); have HB5 : Hid (Below w4.heap.size w4 w5) := Lib.hid (Below.grown Q2.out hgrow (Below.size Q2.out) (own_lt (own_none2 (base := w4.heap.size) ((w4.alloc (.cells #[] 57)).alloc (.cells #[.int .i64 n, .int .i64 c] 57)).drew (heap_first w4 (.cells #[] 57) (.cells #[.int .i64 n, .int .i64 c] 57)) (Nat.le_refl _)))); have HC1 := Lib.hid (grown_two (W := ((w4.alloc (.cells #[] 57)).alloc (.cells #[.int .i64 n, .int .i64 c] 57)).drew) (b := w4.heap.size) hgrow (heap_second w4 (.cells #[] 57) (.cells #[.int .i64 n, .int .i64 c] 57)) (by omega)); clear hown' hgrow)
        | (refine step_own ((w4.alloc (.cells #[.int .i64 n, .int .i64 c] 57)).alloc (.cells #[] 57)).drew (by rfl) (.tmp 50) (.tmp 53) 25 (by rfl) w4.heap.size 57 i0 (.agg #[.int .i64 0, .int .i64 0]) 2 16 Try.underlying25 HI0.out HZ0.out HZ1.out HZ2.out rfl (by decide) (.slice (some ⟨w4.heap.size + 1, 0, none⟩) 0 0) 0 (flatSl []) (by rfl) (own_none2 (base := w4.heap.size) ((w4.alloc (.cells #[.int .i64 n, .int .i64 c] 57)).alloc (.cells #[] 57)).drew (heap_second w4 (.cells #[.int .i64 n, .int .i64 c] 57) (.cells #[] 57)) (Nat.le_succ _)) ⟨g, 0, none⟩ k cap (flatSl (l.take k)) (by rfl) (by rw [HTL.out]) (HN1.out ((w4.alloc (.cells #[.int .i64 n, .int .i64 c] 57)).alloc (.cells #[] 57)).drew Q3.out) (flatSl_one _) hmxA (by omega) (Below.size Q3.out) ?_; intro v1 w5 hown' hgrow; have HO1 : Hid (w5.ownsRow w4.heap.size 57 2 v1 k (flatSl (l.take k))) := Lib.hid (by simpa [flatSl] using hown'); have HB5 : Hid (Below w4.heap.size w4 w5) := Lib.hid (Below.grown Q3.out hgrow (Below.size Q3.out) (own_lt (own_none2 (base := w4.heap.size) ((w4.alloc (.cells #[.int .i64 n, .int .i64 c] 57)).alloc (.cells #[] 57)).drew (heap_second w4 (.cells #[.int .i64 n, .int .i64 c] 57) (.cells #[] 57)) (Nat.le_succ _)))); have HC1 := Lib.hid (grown_two (W := ((w4.alloc (.cells #[.int .i64 n, .int .i64 c] 57)).alloc (.cells #[] 57)).drew) (b := w4.heap.size + 1) hgrow (heap_first w4 (.cells #[.int .i64 n, .int .i64 c] 57) (.cells #[] 57)) (by omega)); clear hown' hgrow)
        | (refine step_own (w5.alloc (.cells #[.int .i64 n, .int .i64 c] 57)) (by rfl) (.tmp 54) (.tmp 58) 25 (by rfl) w4.heap.size 57 i0 (.agg #[.int .i64 0, .int .i64 0]) 2 16 Try.underlying25 HI0.out HZ0.out HZ1.out HZ2.out rfl (by decide) v1 k (flatSl (l.take k)) (by rfl) (HO1.out.alloc _) ⟨w5.heap.size, 0, none⟩ 1 1 [.int .i64 n, .int .i64 c] (by rfl) rfl (cells_two_new _ _ _ _) two_one hmxB (by omega) (Nat.le_trans HB5.out.size (size_alloc_le _ _)) ?_; intro v2 w6 hown' hgrow; have HO2 : Hid (w6.ownsRow w4.heap.size 57 2 v2 (k + 1) (flatSl (l.take k) ++ [.int .i64 n, .int .i64 c])) := Lib.hid hown'; have HB6 : Hid (Below w4.heap.size w4 w6) := Lib.hid (Below.grown (HB5.out.alloc HB5.out.size (.cells #[.int .i64 n, .int .i64 c] 57)) hgrow (Nat.le_trans HB5.out.size (size_alloc_le _ _)) (own_lt HO1.out)); clear hown' hgrow)
        | (refine step_own w5 (by rfl) (.tmp 54) (.tmp 58) 25 (by rfl) w4.heap.size 57 i0 (.agg #[.int .i64 0, .int .i64 0]) 2 16 Try.underlying25 HI0.out HZ0.out HZ1.out HZ2.out rfl (by decide) v1 k (flatSl (l.take k)) (by rfl) HO1.out ⟨w4.heap.size + 1, 0, none⟩ 1 1 [.int .i64 n, .int .i64 c] (by rfl) rfl HC1.out two_one hmxB (by omega) HB5.out.size ?_; intro v2 w6 hown' hgrow; have HO2 : Hid (w6.ownsRow w4.heap.size 57 2 v2 (k + 1) (flatSl (l.take k) ++ [.int .i64 n, .int .i64 c])) := Lib.hid hown'; have HB6 : Hid (Below w4.heap.size w4 w6) := Lib.hid (Below.grown HB5.out hgrow HB5.out.size (own_lt HO1.out)); clear hown' hgrow)
        | (refine step_own w5 (by rfl) (.tmp 54) (.tmp 58) 25 (by rfl) w4.heap.size 57 i0 (.agg #[.int .i64 0, .int .i64 0]) 2 16 Try.underlying25 HI0.out HZ0.out HZ1.out HZ2.out rfl (by decide) v1 k (flatSl (l.take k)) (by rfl) HO1.out ⟨w4.heap.size, 0, none⟩ 1 1 [.int .i64 n, .int .i64 c] (by rfl) rfl HC1.out two_one hmxB (by omega) HB5.out.size ?_; intro v2 w6 hown' hgrow; have HO2 : Hid (w6.ownsRow w4.heap.size 57 2 v2 (k + 1) (flatSl (l.take k) ++ [.int .i64 n, .int .i64 c])) := Lib.hid hown'; have HB6 : Hid (Below w4.heap.size w4 w6) := Lib.hid (Below.grown HB5.out hgrow HB5.out.size (own_lt HO1.out)); clear hown' hgrow)
        | (refine step_own w6 (by rfl) (.tmp 59) (.tmp 62) 25 (by rfl) w4.heap.size 57 i0 (.agg #[.int .i64 0, .int .i64 0]) 2 16 Try.underlying25 HI0.out HZ0.out HZ1.out HZ2.out rfl (by decide) v2 (k + 1) (flatSl (l.take k) ++ [.int .i64 n, .int .i64 c]) (by rfl) HO2.out a2 (l.length - k) (cap - k) (flatSl (l.drop k)) (by rfl) (by rw [HDL.out]) (HN3.out w6 HB6.out) (flatSl_one _) hmxC (by omega) HB6.out.size ?_
           intro v3 w7 hown7 hgrow7
           have HB7 : Hid (Below w4.heap.size w4 w7) := Lib.hid (HB6.out.grown hgrow7 HB6.out.size (own_lt HO2.out))
           have HO7 := Lib.hid hown7
           clear hgrow7 hown7))
      all_goals
        have ho7 := HO7.out
        rw [HEND.out] at ho7
        obtain ⟨g7, cap7, rfl, hg7, hm7, k1, k2⟩ := own_row2p ho7 (by omega)
        have HM7 := Lib.hid hm7
        have HBB := Lib.hid (HB1.out.trans (HB7.out.mono HB1.out.size))
        clear ho7 hm7 HO7
        go_wp2
        go_ret
        exact ⟨g7, cap7, rfl, HBB.out, by omega, HM7.out, k1, k2⟩
theorem ruPut_short (l : List Sl) (n c : Int) : (putS l n c).length ≤ l.length + 1 := by
  induction l with
  | nil => simp [putS]
  | cons x r ih =>
    unfold putS
    split
    · simp only [List.length_cons]; omega
    · split <;> simp
/-- Slips, if they are a stock. -/
noncomputable def ifV (l : List Sl) : List Sl := if stkB l then l else []
theorem ifV_no {l : List Sl} (h : stkB l = false) : ifV l = [] := by unfold ifV; rw [h]; rfl
theorem ifV_yes {l : List Sl} (h : stkB l = true) : ifV l = l := by unfold ifV; rw [h]; rfl
theorem ifV_short (l : List Sl) : (ifV l).length ≤ 1048576 := by
  cases h : stkB l
  · rw [ifV_no h]; simp
  · rw [ifV_yes h]; have := (stkB_iff.1 h).eight; omega
theorem ruIf_any (l : List Sl) (base g cap : Nat) (w : World) (hm : Marked w g 57 (cap * 2) (flatSl l)) (hb : base ≤ g) (hbw : base ≤ w.heap.size) (h1 : l.length ≤ cap) (h2 : cap ≤ maxLen) (hn : l.length ≤ 1048576) :
    Calls Try.prog 69 #[.slice (some ⟨g, 0, none⟩) l.length cap] w fun e w' => ∃ v, e = .returned (.tuple #[v, .bool (stkB l)]) ∧ Below w.heap.size w w' ∧ w'.ownsRow base 57 2 v (ifV l).length (flatSl (ifV l)) := by
  have HM := Lib.hid hm; clear hm
  go_enter Try.func69, Try.ntmps69
  go_wp2_with fail
  refine (ruGood_any l (some ⟨g, 0, none⟩) cap _ HM.out.sls hn).mono ?_
  rintro e w1 ⟨rfl, hb1⟩
  have HB1 := Lib.hid hb1
  have HM1 := Lib.hid (HM.out.below hb1)
  clear hb1
  cases hg : stkB l
  · have HV := Lib.hid (ifV_no hg)
    have HQ := Lib.hid hg
    clear hg
    go_wp2
    go_ret2
    exact ⟨_, ret_vb HQ.out.symm, HB1.out, by rw [HV.out]; exact own_nil _ _ _ _⟩
  · have HV := Lib.hid (ifV_yes hg)
    have HQ := Lib.hid hg
    clear hg
    go_wp2
    go_ret2
    exact ⟨_, ret_vb HQ.out.symm, HB1.out, by rw [HV.out]; exact HM1.out.own2 hb h1 h2⟩
end Go.Proofs.Ytljakcfdjcjdbaa
