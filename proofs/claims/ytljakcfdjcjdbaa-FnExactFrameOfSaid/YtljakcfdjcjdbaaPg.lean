/-
  Tables of the fewest pieces, as rows of a table: the contract of spec.ruTables.
-/
import Derived.Test.YtljakcfdjcjdbaaPf
import Derived.Test.YtljakcfdjcjdbaaPe
import Derived.Maps.AppendAt
namespace Go.Proofs.Ytljakcfdjcjdbaa
open Go.RowKit
set_option linter.unusedVariables false

/-- Block g has at least n cells; cell j holds f j. -/
def Tc (w : World) (g : Nat) (t : TypeId) (n : Nat) (f : Nat → Value) : Prop := ∃ cs : Array Value, w.heap[g]? = some (.cells cs t (0, 0)) ∧ n ≤ cs.size ∧ ∀ j, j < n → cs[j]? = some (f j)
theorem Tc.lt {w : World} {b n : Nat} {t : TypeId} {f : Nat → Value} (h : Tc w b t n f) : b < w.heap.size := by obtain ⟨cs, h1, _⟩ := h; exact lt_of_heap h1
theorem Tc.cell {w : World} {b n : Nat} {t : TypeId} {f : Nat → Value} (h : Tc w b t n f) {j : Nat} (hj : j < n) : w.cell? ⟨b, j, none⟩ = some (f j) := by
  obtain ⟨cs, h1, h2, h3⟩ := h; rw [cell_of_heap h1]; exact h3 j hj
theorem Tc.free {w : World} {b n : Nat} {t : TypeId} {f : Nat → Value} (h : Tc w b t n f) (j : Nat) : w.frozen? ⟨b, j, none⟩ = false := by obtain ⟨cs, h1, _⟩ := h; exact free_of_heap h1 j
theorem Tc.cong {w : World} {b n : Nat} {t : TypeId} {f g : Nat → Value} (h : Tc w b t n f) (hg : ∀ j, j < n → f j = g j) : Tc w b t n g := by
  obtain ⟨cs, h1, h2, h3⟩ := h; exact ⟨cs, h1, h2, fun j hj => by rw [h3 j hj, hg j hj]⟩
theorem Tc.below {w w' : World} {b n B : Nat} {t : TypeId} {f : Nat → Value} (h : Tc w b t n f) (hb : Below B w w') (hB : b < B) : Tc w' b t n f := by
  obtain ⟨cs, h1, h2⟩ := h; exact ⟨cs, (hb.block b hB).trans h1, h2⟩
theorem Tc.next {w w' : World} {b n : Nat} {t : TypeId} {f : Nat → Value} (h : Tc w b t n f) (hb : Below w.heap.size w w') : Tc w' b t n f := h.below hb h.lt
theorem Tc.grown {w w' : World} {b n : Nat} {t : TypeId} {f : Nat → Value} {row : Option Nat} (h : Tc w b t n f) (hg : w.grownBy w' row) (hr : some b ≠ row) : Tc w' b t n f := by
  have hl := h.lt
  obtain ⟨cs, h1, h2⟩ := h; exact ⟨cs, (hg.block b hl hr).trans h1, h2⟩
theorem Tc.set {w : World} {b n : Nat} {t : TypeId} {f : Nat → Value} (h : Tc w b t n f) (i : Nat) (v : Value) : Tc (w.setCell ⟨b, i, none⟩ v) b t n (fun j => if j = i then v else f j) := by
  obtain ⟨cs, h1, h2, h3⟩ := h
  refine ⟨_, heap_set h1 v, by simpa using h2, fun j hj => ?_⟩
  by_cases e : j = i
  · subst e
    have : j < cs.size := by omega
    simp [this]
  · show _ = some (if j = i then v else f j)
    rw [if_neg e, ← h3 j hj]; simp [Ne.symm e]
/-- A row of ints of its own, not nil, as a table. -/
theorem own_tc {w : World} {base : Nat} {e : TypeId} {v : Value} {l : List Int} (h : w.ownsRow base e 1 v l.length (intsZ l)) (hn : 0 < l.length) : ∃ g cap, v = .slice (some ⟨g, 0, none⟩) l.length cap ∧ base ≤ g ∧ l.length ≤ cap ∧ Tc w g e l.length (fun j => .int .i64 (l.getD j 0)) := by
  rcases h.2 with ⟨rfl, h0⟩ | ⟨g, cap, cur, rfl, hg, hh, h1, h2, h3, h4⟩
  · omega
  · refine ⟨g, cap, rfl, hg, h1, cur, hh, by omega, fun j hj => ?_⟩
    rw [← Array.getElem?_toList]
    have e1 : (cur.toList.take (l.length * 1))[j]? = (intsZ l)[j]? := by rw [h4]
    rw [List.getElem?_take_of_lt (by omega)] at e1
    rw [e1]
    show _ = some (Value.int .i64 (l.getD j 0))
    rw [getI hj]
    simp [intsZ, hj]
theorem row_cells {W : World} {n₀ size k j : Nat} {e : TypeId} {v : Value} {xs : List Value} {o : Obj} (h : W.ownsRow n₀ e size v k xs) (hj : v.ownBlock = some j) (ho : W.heap[j]? = some o) : ∃ cur, o = .cells cur e (0, 0) := by
  rcases h.2 with ⟨rfl, _⟩ | ⟨g, cap, cur, rfl, _, hgb, _⟩
  · simp [Value.ownBlock] at hj
  · obtain rfl : g = j := by simpa [Value.ownBlock] using hj
    rw [hgb] at ho; cases ho; exact ⟨_, rfl⟩
/-- The values are rows of M ints each: number i has F i. -/
def TabsAt (w : World) (base : Nat) (vs : List Value) (M : Nat) (F : Nat → Nat → Int) : Prop := ∀ i, i < vs.length → ∃ g c, vs[i]? = some (.slice (some ⟨g, 0, none⟩) M c) ∧ base ≤ g ∧ M ≤ c ∧ Tc w g 3 M (fun j => .int .i64 (F i j))
theorem TabsAt.next {w w' : World} {base M : Nat} {vs : List Value} {F : Nat → Nat → Int} (h : TabsAt w base vs M F) (hb : Below w.heap.size w w') : TabsAt w' base vs M F := fun i hi => by
  obtain ⟨g, c, h1, h2, h3, h4⟩ := h i hi
  exact ⟨g, c, h1, h2, h3, h4.next hb⟩
/-- .. while a row of another type grows. -/
theorem TabsAt.grown {w w' : World} {base b2 M n : Nat} {vs xs : List Value} {F : Nat → Nat → Int} {v : Value} (h : TabsAt w base vs M F) (ho : w.ownsRow b2 31 1 v n xs) (hg : w.grownBy w' v.ownBlock) : TabsAt w' base vs M F := fun i hi => by
  obtain ⟨g, c, h1, h2, h3, h4⟩ := h i hi
  refine ⟨g, c, h1, h2, h3, h4.grown hg (fun e => ?_)⟩
  obtain ⟨cs, h5, _⟩ := h4
  obtain ⟨cur, h6⟩ := row_cells ho e.symm h5
  simp at h6
theorem TabsAt.snoc {w : World} {base M g c : Nat} {vs : List Value} {F : Nat → Nat → Int} (h : TabsAt w base vs M F) (hb : base ≤ g) (hc : M ≤ c) (ht : Tc w g 3 M (fun j => .int .i64 (F vs.length j))) : TabsAt w base (vs ++ [.slice (some ⟨g, 0, none⟩) M c]) M F := fun i hi => by
  rcases Nat.lt_or_ge i vs.length with h1 | h1
  · rw [List.getElem?_append_left h1]; exact h i h1
  · obtain rfl : i = vs.length := by simp at hi; omega
    exact ⟨g, c, by simp, hb, hc, ht⟩
/-- A table of tables, as it is read. -/
def TabO (w : World) (base G n M : Nat) (F : Nat → Nat → Int) : Prop := base ≤ G ∧ G < w.heap.size ∧ ∀ i, i < n → ∃ g c, w.cell? ⟨G, i, none⟩ = some (.slice (some ⟨g, 0, none⟩) M c) ∧ base ≤ g ∧ M ≤ c ∧ Tc w g 3 M (fun j => .int .i64 (F i j))
theorem TabO.next {w w' : World} {base G n M : Nat} {F : Nat → Nat → Int} (h : TabO w base G n M F) (hb : Below w.heap.size w w') : TabO w' base G n M F := ⟨h.1, Nat.lt_of_lt_of_le h.2.1 hb.size, fun i hi => by
  obtain ⟨g, c, h1, h2, h3, h4⟩ := h.2.2 i hi
  exact ⟨g, c, (hb.cell (p := ⟨G, i, none⟩) h.2.1).trans h1, h2, h3, h4.next hb⟩⟩
theorem tabs_o {w : World} {base n M : Nat} {v : Value} {vs : List Value} {F : Nat → Nat → Int} (ho : w.ownsRow base 31 1 v n vs) (h : TabsAt w base vs M F) (hn : 0 < n) : ∃ G cap, v = .slice (some ⟨G, 0, none⟩) n cap ∧ n ≤ cap ∧ TabO w base G n M F := by
  have hvl : vs.length = n := by have := ho.1; omega
  rcases ho.2 with ⟨rfl, h0⟩ | ⟨G, cap, cur, rfl, hg, hh, h1, h2, h3, h4⟩
  · rw [h0] at hvl; simp at hvl; omega
  · refine ⟨G, cap, rfl, h1, hg, lt_of_heap hh, fun i hi => ?_⟩
    obtain ⟨g, c, k1, k2, k3, k4⟩ := h i (by omega)
    refine ⟨g, c, ?_, k2, k3, k4⟩
    rw [cell_of_heap hh, ← Array.getElem?_toList, ← k1]
    have e1 : (cur.toList.take (n * 1))[i]? = vs[i]? := by rw [h4]
    rwa [List.getElem?_take_of_lt (by omega)] at e1
theorem info_sl : (Try.prog.info? 31).map (fun i => (i.zero, i.size, i.bytes)) = some (some (.slice none 0 0), 1, 24) := by kernel_rfl
theorem own_one {w : World} {base b : Nat} {t : TypeId} {x : Value} (h : w.heap[b]? = some (.cells #[x] t (0, 0))) (hb : base ≤ b) : w.ownsRow base t 1 (.slice (some ⟨b, 0, none⟩) 1 1) 1 [x] :=
  ⟨rfl, .inr ⟨b, 1, #[x], rfl, hb, h, Nat.le_refl _, by unfold maxLen; omega, rfl, rfl⟩⟩
def fwI (Z : Nat) (f : List Sl) (i j : Nat) : Int := (FW Z (f.take i) j : Int)
/-- The first n numbers of row i. -/
def fwL (Z : Nat) (f : List Sl) (i n : Nat) : List Int := (List.range n).map fun j => fwI Z f i j
theorem fwL_len (Z : Nat) (f : List Sl) (i n : Nat) : (fwL Z f i n).length = n := by simp [fwL]
theorem fwL_succ (Z : Nat) (f : List Sl) (i n : Nat) : fwL Z f i (n + 1) = fwL Z f i n ++ [fwI Z f i n] := by simp [fwL, List.range_succ]
theorem fwL_get {Z : Nat} {f : List Sl} {i n j : Nat} (h : j < n) : (fwL Z f i n).getD j 0 = fwI Z f i j := by
  rw [getI (by rw [fwL_len]; exact h)]; simp [fwL]
theorem least_nat (a b k : Nat) : (if (a : Int) < (b : Int) + (k : Int) then (a : Int) else (b : Int) + (k : Int)) = ((min a (b + k) : Nat) : Int) := by
  split <;> omega
theorem l1Least_nat (a b k : Nat) (w : World) :
    Calls Try.prog 73 #[.int .i64 (a : Int), .int .i64 ((b : Int) + (k : Int))] w fun e w' => e = .returned (.int .i64 ((min a (b + k) : Nat) : Int)) ∧ w = w' :=
  (l1Least_any (a : Int) ((b : Int) + (k : Int)) w).mono fun e w' ⟨h1, h2⟩ => ⟨by rw [h1, least_nat], h2⟩
/-- What a table of Z's with 0 at the start says. -/
theorem fw_start (Z : Nat) (f : List Sl) (M : Nat) {j : Nat} (hj : j < M) : (if j = 0 then Value.int .i64 0 else .int .i64 ((List.replicate M (Z : Int)).getD j 0)) = .int .i64 (fwI Z f 0 j) := by
  unfold fwI
  rw [List.take_zero, FW_nil]
  by_cases h : j = 0
  · rw [if_pos h, if_pos h]; rfl
  · rw [if_neg h, if_neg h, getI (by simpa using hj)]; simp

set_option maxRecDepth 100000 in
set_option maxHeartbeats 8000000 in
theorem ruTables_any (f : List Sl) (A : Option Addr) (cq N : Nat) (w : World) (hf : SlsIn w A f) (hgs : GoodS f) (hN : N ≤ 400) :
    Calls Try.prog 58 #[.slice A f.length cq, .int .i64 (N : Int)] w fun e w' => ∃ G cap, e = .returned (.slice (some ⟨G, 0, none⟩) (f.length + 1) cap) ∧ f.length + 1 ≤ cap ∧ Below w.heap.size w w' ∧ TabO w' w.heap.size G (f.length + 1) (N + 1) (fwI 1048576 f) := by
  have HF := Lib.hid hf; clear hf
  have HG := Lib.hid hgs; clear hgs
  obtain ⟨i0, hi, hz0, hz1, hz2⟩ := info_parts info_int
  have HI := Lib.hid hi; have HZ0 := Lib.hid hz0; have HZ1 := Lib.hid hz1; have HZ2 := Lib.hid hz2
  clear hi hz0 hz1 hz2
  obtain ⟨i1, hi, hz0, hz1, hz2⟩ := info_parts info_sl
  have HI1 := Lib.hid hi; have HY0 := Lib.hid hz0; have HY1 := Lib.hid hz1; have HY2 := Lib.hid hz2
  clear hi hz0 hz1 hz2
  have hn8 := HG.out.eight
  go_enter Try.func58, Try.ntmps58
  go_wp2
  go_loopw [5, 6] (fun v i wr => ∃ k : Nat, k ≤ N + 1 ∧ i = .int .i64 (k : Int) ∧ wr.ownsRow w.heap.size 3 1 v k (intsZ (List.replicate k (1048576 : Int))) ∧ Below w.heap.size w wr) (fun _ i _ => 1 + N - (intOf i).toNat)
  case atStart => exact ⟨0, Nat.zero_le _, rfl, own_nil _ _ _ _, Below.refl _ _⟩
  case round =>
    obtain ⟨k, hk, rfl, hv, hb⟩ := hrel
    have HV := Lib.hid hv; have HB := Lib.hid hb
    clear hv hb
    by_cases hlt : k ≤ N
    · have hkN : (k : Int) ≤ (N : Int) := by omega
      have hmx : k + 1 ≤ maxLen := by unfold maxLen; omega
      have hws := HB.out.size
      go_wp2_with (at_builtin; refine wpList_append_own_at _ rfl _ _ 31 rfl w.heap.size 3 i0 (.int .i64 0) 1 8 Try.underlying31 HI.out HZ0.out HZ1.out HZ2.out rfl (by decide) _ _ _ rfl (HV.out.alloc _) ⟨wr.heap.size, 0, none⟩ 1 1 [.int .i64 1048576] rfl rfl (cell_one_new _ _ _) (by simp [Value.oneCell']) hmx (by omega) (by first | (simp; done) | (simp; omega) | omega) ?_)
      intro v' w5 hown' hgrow _ hat
      have HB5 := Lib.hid ((HB.out.alloc HB.out.size (.cells #[.int .i64 1048576] 3)).grown hgrow (by simp; omega) (own_lt HV.out))
      have HO5 : Hid (w5.ownsRow w.heap.size 3 1 v' (k + 1) (intsZ (List.replicate (k + 1) (1048576 : Int)))) := Lib.hid (by
        rw [List.replicate_succ', intsZ_snoc]; exact hown')
      clear hown' hgrow hat
      go_wp2
      go_roundw
      case rel => exact ⟨k + 1, by omega, by go_num, HO5.out, HB5.out⟩
      case measure => simp [intOf]; omega
    · obtain rfl : k = N + 1 := by omega
      have hvl : (List.replicate (N + 1) (1048576 : Int)).length = N + 1 := by simp
      obtain ⟨g, cap, rfl, hg, hcap, htc⟩ := own_tc (l := List.replicate (N + 1) (1048576 : Int)) (by rw [hvl]; exact HV.out) (by rw [hvl]; omega)
      rw [hvl] at hcap htc
      rw [hvl]
      have e0 := htc.cell (j := 0) (by omega)
      have f0 := htc.free 0
      have hgl := htc.lt
      have HT := Lib.hid ((htc.set 0 (.int .i64 0)).cong (fun j hj => fw_start 1048576 f (N + 1) hj))
      have HB1 := Lib.hid (HB.out.setCell (p := ⟨g, 0, none⟩) hg (.int .i64 0))
      have hn1 : ¬ ((N + 1 : Nat) : Int) ≤ (N : Int) := by omega
      have hn2 : (0 : Int) < ((N + 1 : Nat) : Int) := by omega
      clear htc hvl HV HB
      obtain ⟨w2, hw2⟩ : ∃ x : World, x = (wr.setCell ⟨g, 0, none⟩ (.int .i64 0)).alloc (.cells #[.slice (some ⟨g, 0, none⟩) (N + 1) cap] 31) := ⟨_, rfl⟩
      have hsz2 : (wr.setCell ⟨g, 0, none⟩ (.int .i64 0)).heap.size = wr.heap.size := by simp
      have HB2 : Hid (Below w.heap.size w w2) := Lib.hid (by rw [hw2]; exact HB1.out.alloc HB1.out.size _)
      have HO2 : Hid (w2.ownsRow w.heap.size 31 1 (.slice (some ⟨wr.heap.size, 0, none⟩) 1 1) 1 [.slice (some ⟨g, 0, none⟩) (N + 1) cap]) := Lib.hid (by
        have h := own_one (base := w.heap.size) (heap_new (wr.setCell ⟨g, 0, none⟩ (.int .i64 0)) (.cells #[.slice (some ⟨g, 0, none⟩) (N + 1) cap] 31)) HB1.out.size
        rw [hsz2, ← hw2] at h; exact h)
      have HT2 : Hid (TabsAt w2 w.heap.size [.slice (some ⟨g, 0, none⟩) (N + 1) cap] (N + 1) (fwI 1048576 f)) := Lib.hid (fun i hi => by
        obtain rfl : i = 0 := by simpa using hi
        exact ⟨g, cap, rfl, hg, hcap, by rw [hw2]; exact HT.out.next ((Below.refl _ _).alloc (Nat.le_refl _) _)⟩)
      have HW2 := Lib.hid hw2
      clear hw2 HT HB1 hsz2
      generalize hwx : wr = wx at *
      clear hwx
      go_wp2
      rw [← HW2.out]
      go_loopw [7, 28] (fun v i wr => ∃ (k : Nat) (vs : List Value), k ≤ f.length ∧ i = .int .i64 (k : Int) ∧ vs.length = k + 1 ∧ wr.ownsRow w.heap.size 31 1 v (k + 1) vs ∧ TabsAt wr w.heap.size vs (N + 1) (fwI 1048576 f) ∧ Below w.heap.size w wr) (fun _ i _ => f.length - (intOf i).toNat)
      case atStart => exact ⟨0, _, Nat.zero_le _, rfl, rfl, HO2.out, HT2.out, HB2.out⟩
      case round =>
        obtain ⟨k, vs, hk, rfl, hvl, hv, ht, hb⟩ := hrel
        obtain ⟨G, capG, rfl, hcg, hO⟩ := tabs_o hv ht (by omega)
        clear e0 f0 hgl hn1 hn2
        by_cases hlt : k < f.length
        · obtain ⟨b, off, rfl, hbl, hc⟩ := HF.out (by omega)
          obtain ⟨hc0, hc1⟩ := hc k hlt
          clear hc
          rw [← hb.cell (p := ⟨b, off + k * 2, none⟩) hbl] at hc0
          rw [← hb.cell (p := ⟨b, off + k * 2 + 1, none⟩) hbl] at hc1
          have hbd := HG.out.bd hlt
          obtain ⟨L, hL⟩ : ∃ L : Nat, f[k].len = (L : Int) := ⟨f[k].len.toNat, by omega⟩
          obtain ⟨C, hC⟩ : ∃ C : Nat, f[k].cnt = (C : Int) := ⟨f[k].cnt.toNat, by omega⟩
          have HFS : Hid (∀ n, FW 1048576 (f.take (k + 1)) n = accS 1048576 (FW 1048576 (f.take k)) L n (rds f[k] n)) := Lib.hid (fun n => by
            rw [FW_succ _ hlt, show lnN f[k] = L from by unfold lnN; omega])
          have HRD : Hid (∀ n c, c < rds f[k] n ↔ c ≤ C ∧ c * L ≤ n) := Lib.hid (fun n c => by
            have e1 : lnN f[k] = L := by unfold lnN; omega
            have e2 : ctN f[k] = C := by unfold ctN; omega
            rw [rds_iff (by omega), e1, e2])
          have HR20 : Hid (∀ n, rds f[k] n ≤ 21) := Lib.hid (fun n => by
            unfold rds
            have : min (ctN f[k]) (n / lnN f[k]) ≤ ctN f[k] := Nat.min_le_left _ _
            have e2 : ctN f[k] = C := by unfold ctN; omega
            omega)
          rw [hL] at hc0 hbd; rw [hC] at hc1 hbd
          generalize hrd : rds f[k] = rd at *
          clear hrd hL hC
          obtain ⟨W0, hW0⟩ : ∃ W0 : World, W0 = wr.alloc (.cells #[.int .i64 (L : Int), .int .i64 (C : Int)] 57) := ⟨_, rfl⟩
          have hal : Below wr.heap.size wr W0 := by rw [hW0]; exact (Below.refl _ _).alloc (Nat.le_refl _) _
          have HS0 : Hid (W0.cell? ⟨wr.heap.size, 0, none⟩ = some (.int .i64 (L : Int))) := Lib.hid (by rw [hW0]; simp)
          have HS1 : Hid (W0.cell? ⟨wr.heap.size, 1, none⟩ = some (.int .i64 (C : Int))) := Lib.hid (by rw [hW0]; simp)
          have hz0 : wr.heap.size < W0.heap.size := by rw [hW0]; simp
          have HB0 := Lib.hid (hb.trans (hal.mono hb.size))
          have HO0 := Lib.hid (hO.next hal)
          have HV0 := Lib.hid (own_below hv hal)
          have HT0 := Lib.hid (ht.next hal)
          have HVL := Lib.hid hvl
          have HW0 := Lib.hid hW0
          clear hal hb hO hv ht hvl
          go_wp2
          rw [← HW0.out]
          clear HW0 hW0 hc0 hc1
          have HZ := Lib.hid hz0
          generalize hbx : wr.heap.size = bx at *
          clear hbx hz0
          generalize hwy : wr = wy at *
          clear hwy
          go_loopw [10, 11] (fun u j wr => ∃ n : Nat, n ≤ N + 1 ∧ j = .int .i64 (n : Int) ∧ wr.ownsRow W0.heap.size 3 1 u n (intsZ (fwL 1048576 f (k + 1) n)) ∧ Below W0.heap.size W0 wr) (fun _ j _ => 1 + N - (intOf j).toNat)
          case atStart => exact ⟨0, Nat.zero_le _, rfl, own_nil _ _ _ _, Below.refl _ _⟩
          case round =>
            obtain ⟨n, hn, rfl, hu, hbi⟩ := hrel
            by_cases hln : n ≤ N
            · have hnN : (n : Int) ≤ (N : Int) := by omega
              have HU := Lib.hid hu; have HBI := Lib.hid hbi
              clear hu hbi
              generalize hwi : wr = wi at *
              clear hwi
              go_wp2
              go_loopw [12, 13] (fun a q wr => ∃ c : Nat, c ≤ rd n ∧ q = .int .i64 (c : Int) ∧ a = .int .i64 ((accS 1048576 (FW 1048576 (f.take k)) L n c : Nat) : Int) ∧ Below wi.heap.size wi wr) (fun _ q _ => 30 - (intOf q).toNat)
              case atStart => exact ⟨0, Nat.zero_le _, rfl, rfl, Below.refl _ _⟩
              case round =>
                obtain ⟨c, hcr, rfl, rfl, hbk⟩ := hrel
                have hr21 := HR20.out n
                have hbw := HBI.out.trans (hbk.mono HBI.out.size)
                have s0 := (hbw.cell (p := ⟨bx, 0, none⟩) HZ.out).trans HS0.out
                have s1 := (hbw.cell (p := ⟨bx, 1, none⟩) HZ.out).trans HS1.out
                obtain ⟨p, hp⟩ : ∃ p : Nat, (c : Int) * (L : Int) = (p : Int) := ⟨c * L, by rw [Int.natCast_mul]⟩
                have HP : Hid (p = c * L) := Lib.hid (by rw [← Int.natCast_mul] at hp; omega)
                have hp4 : (p : Int) ≤ 4200 := by
                  have := HP.out
                  have : c * L ≤ 21 * 200 := Nat.mul_le_mul (by omega) (by omega)
                  omega
                have hc21 : (c : Int) ≤ 21 := by omega
                have HRN := Lib.hid (HRD.out n c)
                by_cases hcc : c < rd n
                · have h1 := HRN.out.1 hcc
                  have h2 : p ≤ n := by rw [HP.out]; exact h1.2
                  have g1 : (c : Int) ≤ (C : Int) := by omega
                  have g2 : (p : Int) ≤ (n : Int) := by omega
                  obtain ⟨d, hd⟩ : ∃ d, d = n - p := ⟨_, rfl⟩
                  have hix : (n : Int) - (p : Int) = (d : Int) := by omega
                  have hdM : (d : Int) < ((N + 1 : Nat) : Int) := by omega
                  have hd0 : (0 : Int) ≤ (d : Int) := by omega
                  obtain ⟨g, cg, k1, k2, k3, k4⟩ := HO0.out.2.2 k (by omega)
                  have k1' := (hbw.cell (p := ⟨G, k, none⟩) HO0.out.2.1).trans k1
                  have k4' := ((k4.next hbw).cell (j := d) (by omega))
                  have hfe : fwI 1048576 f k d = (FW 1048576 (f.take k) d : Int) := rfl
                  rw [hfe] at k4'
                  have hle := FW_le 1048576 (f.take k) d
                  have hac := accS_le 1048576 (FW 1048576 (f.take k)) L n c
                  have HAC : Hid (accS 1048576 (FW 1048576 (f.take k)) L n (c + 1) = min (accS 1048576 (FW 1048576 (f.take k)) L n c) (FW 1048576 (f.take k) d + c)) := Lib.hid (by rw [hd, HP.out]; rfl)
                  have hgl : g < wr.heap.size := (k4.next hbw).lt
                  have hGl : G < wr.heap.size := Nat.lt_of_lt_of_le HO0.out.2.1 hbw.size
                  have hbl2 : bx < wr.heap.size := Nat.lt_of_lt_of_le HZ.out hbw.size
                  have x0 := KeptW.cell s0 hbl2
                  have x1 := KeptW.cell k1' hGl
                  have x2 := KeptW.cell k4' hgl
                  have hkc : (k : Int) < ((k + 1 : Nat) : Int) := by omega
                  have hk0 : (0 : Int) ≤ (k : Int) := by omega
                  have HLN := Lib.hid (least_nat (accS 1048576 (FW 1048576 (f.take k)) L n c) (FW 1048576 (f.take k) d) c)
                  have HBK := Lib.hid hbk
                  clear hbk hbw k1 k2 k4 k1' k4' hfe hd h1 h2
                  generalize accS 1048576 (FW 1048576 (f.take k)) L n c = ac at *
                  generalize FW 1048576 (f.take k) d = fd at *
                  go_wp2_with fail
                  refine region_kept wr.heap.size (by kernel_rfl) (by kernel_rfl) ?_
                  repeat (go_big_quiet_step (fail))
                  go_big_quiet_step ((go_at_call 73; exact kept_same _ (l1Least_nat ac fd c _)))
                  repeat (go_big_quiet_step (fail))
                  refine wpQuiet_nil ?_
                  intro w9 hb9
                  have HB9 := Lib.hid (HBK.out.trans (hb9.mono HBK.out.size))
                  clear hb9 x0 x1 x2 s0 s1
                  go_wp2
                  go_roundw
                  case rel => exact ⟨c + 1, by omega, by go_num, by rw [HAC.out], HB9.out⟩
                  case measure => simp [intOf]; omega
                · have hce : c = rd n := by omega
                  have hno : ¬ (c ≤ C ∧ p ≤ n) := by rw [HP.out]; exact fun h => hcc (HRN.out.2 h)
                  have HFN : Hid (accS 1048576 (FW 1048576 (f.take k)) L n c = FW 1048576 (f.take (k + 1)) n) := Lib.hid (by rw [hce]; exact (HFS.out n).symm)
                  rw [HFN.out]
                  have hle := FW_le 1048576 (f.take (k + 1)) n
                  have HU2 := Lib.hid (own_below HU.out hbk)
                  have HBI2 := Lib.hid hbw
                  have HBI3 : Hid (Below W0.heap.size W0 wr) := Lib.hid (HBI.out.trans (hbk.mono HBI.out.size))
                  have HFL : Hid (fwL 1048576 f (k + 1) (n + 1) = fwL 1048576 f (k + 1) n ++ [((FW 1048576 (f.take (k + 1)) n : Nat) : Int)]) := Lib.hid (fwL_succ _ _ _ _)
                  have hws := HBI3.out.size
                  have hmx : n + 1 ≤ maxLen := by unfold maxLen; omega
                  generalize FW 1048576 (f.take (k + 1)) n = fd at *
                  clear hbk hbw hce
                  rcases (by omega : ¬ (c : Int) ≤ (C : Int) ∨ ((c : Int) ≤ (C : Int) ∧ ¬ (p : Int) ≤ (n : Int))) with g1 | ⟨g1, g2⟩
                  all_goals
                    go_wp2_with (at_builtin; refine wpList_append_own_at _ rfl _ _ 31 rfl W0.heap.size 3 i0 (.int .i64 0) 1 8 Try.underlying31 HI.out HZ0.out HZ1.out HZ2.out rfl (by decide) _ _ _ rfl (HU2.out.alloc _) ⟨wr.heap.size, 0, none⟩ 1 1 [.int .i64 (fd : Int)] rfl rfl (cell_one_new _ _ _) (by simp [Value.oneCell']) hmx (by omega) (by first | (simp; done) | (simp; omega) | omega) ?_)
                    intro v' w5 hown' hgrow _ hat
                    have HB5 := Lib.hid ((HBI3.out.alloc HBI3.out.size (.cells #[.int .i64 (fd : Int)] 3)).grown hgrow (by simp; omega) (own_lt HU2.out))
                    have HO5 : Hid (w5.ownsRow W0.heap.size 3 1 v' (n + 1) (intsZ (fwL 1048576 f (k + 1) (n + 1)))) := Lib.hid (by
                      rw [HFL.out, intsZ_snoc]; exact hown')
                    clear hown' hgrow hat s0 s1
                    go_wp2
                    go_roundw
                    case rel => exact ⟨n + 1, by omega, by go_num, HO5.out, HB5.out⟩
                    case measure => simp [intOf]; omega
            · obtain rfl : n = N + 1 := by omega
              have hfl := fwL_len 1048576 f (k + 1) (N + 1)
              obtain ⟨g2, cap2, rfl, hg2, hcap2, htc⟩ := own_tc (l := fwL 1048576 f (k + 1) (N + 1)) (by rw [hfl]; exact hu) (by rw [hfl]; omega)
              rw [hfl] at hcap2 htc
              rw [hfl]
              have HTC : Hid (Tc wr g2 3 (N + 1) (fun j => .int .i64 (fwI 1048576 f (k + 1) j))) := Lib.hid (htc.cong (fun j hj => by rw [fwL_get hj]))
              have HVW := Lib.hid (own_below HV0.out hbi)
              have HTW := Lib.hid (HT0.out.next hbi)
              have HBW := Lib.hid (HB0.out.trans (hbi.mono HB0.out.size))
              have hg2b : w.heap.size ≤ g2 := by have := HB0.out.size; omega
              have hn1 : ¬ ((N + 1 : Nat) : Int) ≤ (N : Int) := by omega
              have hws := HBW.out.size
              have hmx : k + 1 + 1 ≤ maxLen := by unfold maxLen; omega
              clear hu hbi htc
              go_wp2_with (at_builtin; refine wpList_append_own_at _ rfl _ _ 45 rfl w.heap.size 31 i1 (.slice none 0 0) 1 24 Try.underlying45 HI1.out HY0.out HY1.out HY2.out rfl (by decide) _ _ _ rfl (HVW.out.alloc _) ⟨wr.heap.size, 0, none⟩ 1 1 [.slice (some ⟨g2, 0, none⟩) (N + 1) cap2] rfl rfl (cell_one_new _ _ _) (by simp [Value.oneCell']) hmx (by omega) (by first | (simp; done) | (simp; omega) | omega) ?_)
              intro v' w5 hown' hgrow _ hat
              have HB5 := Lib.hid ((HBW.out.alloc HBW.out.size (.cells #[.slice (some ⟨g2, 0, none⟩) (N + 1) cap2] 31)).grown hgrow (by simp; omega) (own_lt HVW.out))
              have HT5 : Hid (TabsAt w5 w.heap.size (vs ++ [.slice (some ⟨g2, 0, none⟩) (N + 1) cap2]) (N + 1) (fwI 1048576 f)) := Lib.hid (by
                have hal : Below wr.heap.size wr (wr.alloc (.cells #[.slice (some ⟨g2, 0, none⟩) (N + 1) cap2] 31)) := (Below.refl _ _).alloc (Nat.le_refl _) _
                exact ((HTW.out.snoc hg2b hcap2 (by rw [HVL.out]; exact HTC.out)).next hal).grown (HVW.out.alloc _) hgrow)
              have HO5 : Hid (w5.ownsRow w.heap.size 31 1 v' (k + 1 + 1) (vs ++ [.slice (some ⟨g2, 0, none⟩) (N + 1) cap2])) := Lib.hid hown'
              have HV5 : Hid ((vs ++ [Value.slice (some ⟨g2, 0, none⟩) (N + 1) cap2]).length = k + 1 + 1) := Lib.hid (by rw [List.length_append, HVL.out]; rfl)
              clear hown' hgrow hat
              go_wp2
              go_roundw
              case rel => exact ⟨k + 1, _, by omega, by go_num, HV5.out, HO5.out, HT5.out, HB5.out⟩
              case measure => simp [intOf]; omega
        · obtain rfl : k = f.length := by omega
          have HB5 := Lib.hid hb; have HO5 := Lib.hid hO
          clear hb hO hv ht
          go_wp2
          go_ret
          exact ⟨_, _, rfl, hcg, HB5.out, HO5.out⟩
end Go.Proofs.Ytljakcfdjcjdbaa
