/-
  The contracts of spec.wsStock and spec.FillFromStock.
-/
import Derived.Test.YthhmbcgamcbfdaaDoorVt
import Derived.Test.YthhmbcgamcbfdaaDoorVi
import Derived.BigRegion
import Derived.OwnWalk
import Derived.Maps.AppendAt
namespace Go.Proofs.YthhmbcgamcbfdaaDoor
open Go.RowKit
set_option linter.unusedVariables false

theorem info_bs : (Tryd.prog.info? 68).map (fun i => (i.zero, i.size, i.bytes)) = some (some (.slice none 0 0), 1, 24) := by kernel_rfl
/-- The tables of the first n kinds. -/
def rowsV (g : Nat → Nat) (M n : Nat) : List Value := (List.range n).map (fun j => .slice (some ⟨g j, 0, none⟩) M M)
theorem rowsV_len (g : Nat → Nat) (M n : Nat) : (rowsV g M n).length = n := by simp [rowsV]
theorem rowsV_snoc (g : Nat → Nat) (M n b : Nat) : rowsV (fun j => if j = n then b else g j) M (n + 1) = rowsV g M n ++ [.slice (some ⟨b, 0, none⟩) M M] := by
  unfold rowsV
  rw [List.range_succ, List.map_append]
  congr 1
  · apply List.map_congr_left
    intro j hj
    show Value.slice (some ⟨if j = n then b else g j, 0, none⟩) M M = _
    rw [if_neg (by have := List.mem_range.1 hj; omega)]
  · simp
theorem rowsV_get (g : Nat → Nat) (M n j : Nat) (h : j < n) : (rowsV g M n)[j]? = some (.slice (some ⟨g j, 0, none⟩) M M) := by simp [rowsV, h]
theorem row_cell {w : World} {base n : Nat} {e : TypeId} {v : Value} {xs : List Value} (h : w.ownsRow base e 1 v n xs) (hn : 1 ≤ n) : ∃ G cap, v = .slice (some ⟨G, 0, none⟩) n cap ∧ base ≤ G ∧ G < w.heap.size ∧ n ≤ cap ∧ ∀ j u, xs[j]? = some u → w.cell? ⟨G, j, none⟩ = some u := by
  obtain ⟨h0, h1⟩ := h
  rcases h1 with ⟨rfl, hz⟩ | ⟨G, cap, cur, rfl, hg, hh, hc1, hc2, hc3, hc4⟩
  · omega
  · refine ⟨G, cap, rfl, hg, lt_of_heap hh, hc1, fun j u hj => ?_⟩
    rw [cell_of_heap hh]
    have hjn : j < n := by have := (List.getElem?_eq_some_iff.1 hj).1; omega
    rw [← hc4] at hj
    rw [List.getElem?_take_of_lt (by omega)] at hj
    simpa using hj
theorem tb_not_row {W : World} {b n : Nat} {t e : TypeId} {f : Nat → Value} (h : Tb W b t n f) (hte : t ≠ e) {base size k : Nat} {v : Value} {xs : List Value} (hr : W.ownsRow base e size v k xs) : some b ≠ v.ownBlock := by
  obtain ⟨cs, h1, _⟩ := h
  rcases hr.2 with ⟨rfl, _⟩ | ⟨g, cap, cur, rfl, _, hgb, _⟩
  · simp [Value.ownBlock]
  · intro e'
    obtain rfl : b = g := by simpa [Value.ownBlock] using e'
    rw [h1] at hgb
    simp at hgb
    exact hte hgb.2
/-- The tables of the first k + 1 kinds lie in a row of the call's own. -/
def CanAt (w : World) (l ss : List Int) (base M : Nat) (v : Value) (k : Nat) (g : Nat → Nat) : Prop :=
  (∀ j, j ≤ k → Tb w (g j) 4 M (fun z => .bool (stT l ss j z)) ∧ base ≤ g j) ∧ w.ownsRow base 68 1 v (k + 1) (rowsV g M (k + 1))
theorem CanAt.next {w w' : World} {l ss : List Int} {base M k : Nat} {v : Value} {g : Nat → Nat} (h : CanAt w l ss base M v k g) (hb : Below w.heap.size w w') : CanAt w' l ss base M v k g :=
  ⟨fun j hj => ⟨(h.1 j hj).1.next hb, (h.1 j hj).2⟩, own_below h.2 hb⟩
def mixN (T' : Nat → Bool) (x : Nat) : Nat → Value := fun z => .bool (if z < x then T' z else false)
def mixP (T' : Nat → Bool) (x : Nat) (p : Bool) : Nat → Value := fun z => .bool (if z < x then T' z else if z = x then p else false)
theorem mixN_P (T' : Nat → Bool) (x : Nat) : mixN T' x = mixP T' x false := by
  funext z; unfold mixN mixP; split
  · rfl
  · split <;> rfl
theorem mixP_set (T' : Nat → Bool) (x : Nat) (p p' : Bool) : (fun z => if z = x then Value.bool p' else mixP T' x p z) = mixP T' x p' := by
  funext z; unfold mixP
  by_cases h : z = x
  · subst h; simp
  · rw [if_neg h]; split <;> simp [h]
theorem mixP_done {T' : Nat → Bool} {x : Nat} {p : Bool} (h : p = T' x) : mixP T' x p = mixN T' (x + 1) := by
  funext z; unfold mixP mixN
  by_cases h1 : z < x
  · rw [if_pos h1, if_pos (by omega)]
  · by_cases h2 : z = x
    · subst h2; rw [if_neg h1, if_pos rfl, if_pos (by omega), h]
    · rw [if_neg h1, if_neg h2, if_neg (by omega)]

theorem own_keptB {w w' : World} {B base size n : Nat} {e : TypeId} {v : Value} {xs : List Value} (h : w.ownsRow base e size v n xs) (hb : Below B w w') (hv : ∀ q, v.ownBlock = some q → q < B) : w'.ownsRow base e size v n xs := by
  obtain ⟨h0, h1⟩ := h
  rcases h1 with ⟨rfl, hz⟩ | ⟨G, cap, cur, rfl, hg, hh, rest⟩
  · exact ⟨h0, .inl ⟨rfl, hz⟩⟩
  · exact ⟨h0, .inr ⟨G, cap, cur, rfl, hg, (hb.block G (hv G rfl)).trans hh, rest⟩⟩
/-- What wsStock answers. -/
noncomputable def stkL (l ss : List Int) (N : Nat) : List Int := if stB l ss l.length (N : Int) then (List.range l.length).map (fun i => (cntS l ss (N : Int) i : Int)) else []
theorem stkL_no {l ss : List Int} {N : Nat} (h : stB l ss l.length (N : Int) = false) : stkL l ss N = [] := by unfold stkL; rw [h]; rfl
theorem stkL_yes {l ss : List Int} {N : Nat} (h : stB l ss l.length (N : Int) = true) : stkL l ss N = (List.range l.length).map (fun i => (cntS l ss (N : Int) i : Int)) := by unfold stkL; rw [h]; rfl
/-- The counts from the widest kind on, down to kind e. -/
noncomputable def outC (l ss : List Int) (N e : Nat) : Nat → Value := fun j => .int .i64 (if e ≤ j then (cntS l ss (N : Int) j : Int) else 0)
theorem outC_set {l ss : List Int} {N i m : Nat} (h : cntS l ss (N : Int) i = m) : (fun j => if j = i then Value.int .i64 (m : Int) else outC l ss N (i + 1) j) = outC l ss N i := by
  funext j; unfold outC
  by_cases h1 : j = i
  · subst h1; rw [if_pos rfl, if_pos (Nat.le_refl _), h]
  · rw [if_neg h1]
    by_cases h2 : i ≤ j
    · rw [if_pos h2, if_pos (by omega)]
    · rw [if_neg h2, if_neg (by omega)]

set_option maxRecDepth 100000 in
set_option maxHeartbeats 8000000 in
theorem wsStock_any (l : List Int) (b off c : Nat) (ss : List Int) (b' off' d : Nat) (N : Nat) (w : World) (hf : IntsIn w (some ⟨b, off, none⟩) l) (hg : IntsIn w (some ⟨b', off', none⟩) ss) (hG : GoodK l) (hss : ss.length = l.length) (hs4 : ∀ j (h : j < ss.length), 0 ≤ ss[j] ∧ ss[j] ≤ 400) (hN : N ≤ 400) :
    Calls Tryd.prog 33 #[.slice (some ⟨b, off, none⟩) l.length c, .slice (some ⟨b', off', none⟩) ss.length d, .int .i64 (N : Int)] w fun e w' => ∃ v T, e = .returned (.tuple #[v, .bool (stB l ss l.length (N : Int))]) ∧ Below w.heap.size w w' ∧ w'.ownsRow w.heap.size T 1 v (stkL l ss N).length (intsZ (stkL l ss N)) := by
  have hl6 := hG.six
  have hl1 := hG.one
  have HG := Lib.hid hG; have HSS := Lib.hid hss; have HS4 := Lib.hid hs4
  have hs1 : 0 < ss.length := by omega
  obtain ⟨b1, off1, e1, hbl, hkc⟩ := hf (by omega)
  cases e1
  obtain ⟨b2, off2, e2, hbl', hsc⟩ := hg hs1
  cases e2
  have HKC := Lib.hid hkc; have HSC := Lib.hid hsc
  have HF := Lib.hid hf; have HGG := Lib.hid hg
  obtain ⟨i0, hi, hz0, hz1, hz2⟩ := info_parts info_bs
  have HI := Lib.hid hi; have HZ0 := Lib.hid hz0; have HZ1 := Lib.hid hz1; have HZ2 := Lib.hid hz2
  clear hi hz0 hz1 hz2 hkc hsc hf hg hG hss hs4
  obtain ⟨M, hM⟩ : ∃ M, M = N + 1 := ⟨_, rfl⟩
  have hM1 : (M : Int) = (N : Int) + 1 := by omega
  have hM4 : M ≤ 401 := by omega
  have hM0 : (0 : Int) < (M : Int) := by omega
  obtain ⟨w1, hw1⟩ : ∃ x : World, x = w.alloc (.cells (madeCells #[.bool false] (M * 1)) 4) := ⟨_, rfl⟩
  have hmk : (Instr.makeSlice 68 (.int .i64 ((N : Int) + 1)) (.int .i64 ((N : Int) + 1))).run Tryd.prog w = .ok (.slice (some ⟨w.heap.size, 0, none⟩) M M) w1 := by rw [hw1, ← hM1]; exact run_makeB M (by omega) w
  have hz1 : w1.heap.size = w.heap.size + 1 := by rw [hw1]; simp
  obtain ⟨w2, hw2⟩ : ∃ x : World, x = w1.alloc (.cells #[.slice (some ⟨w.heap.size, 0, none⟩) M M] 68) := ⟨_, rfl⟩
  have hb1 : Below w.heap.size w w1 := by rw [hw1]; exact (Below.refl _ _).alloc (Nat.le_refl _) _
  have hb2 : Below w1.heap.size w1 w2 := by rw [hw2]; exact (Below.refl _ _).alloc (Nat.le_refl _) _
  have ht1 : Tb w1 w.heap.size 4 M (fun _ => .bool false) := by rw [hw1]; exact made_bool _ _ _
  have hr2 : w2.heap[w1.heap.size]? = some (.cells #[.slice (some ⟨w.heap.size, 0, none⟩) M M] 68 (0, 0)) := by rw [hw2]; exact heap_new _ _
  have ht2 := ht1.next hb2
  have e00 := ht2.cell (j := 0) (by omega)
  have f00 := ht2.free 0
  have er0 : w2.cell? ⟨w1.heap.size, 0, none⟩ = some (.slice (some ⟨w.heap.size, 0, none⟩) M M) := by rw [cell_of_heap hr2]; rfl
  obtain ⟨ws, hws⟩ : ∃ x : World, x = w1.setCell ⟨w.heap.size, 0, none⟩ (.bool true) := ⟨_, rfl⟩
  have hzs : ws.heap.size = w1.heap.size := by rw [hws]; simp
  have hts := ht1.set 0 (.bool true)
  rw [← hws] at hts
  obtain ⟨w3, hw3⟩ : ∃ x : World, x = ws.alloc (.cells #[.slice (some ⟨w.heap.size, 0, none⟩) M M] 68) := ⟨_, rfl⟩
  have hb3 : Below ws.heap.size ws w3 := by rw [hw3]; exact (Below.refl _ _).alloc (Nat.le_refl _) _
  have hr3 : w3.heap[w1.heap.size]? = some (.cells #[.slice (some ⟨w.heap.size, 0, none⟩) M M] 68 (0, 0)) := by rw [hw3, ← hzs]; exact heap_new _ _
  have HCAN : Hid (CanAt w3 l ss w.heap.size M (.slice (some ⟨w1.heap.size, 0, none⟩) 1 1) 0 (fun _ => w.heap.size)) := Lib.hid ⟨fun j hj => by
      obtain rfl : j = 0 := by omega
      exact ⟨(hts.next hb3).cong (fun z _ => by
        show (if z = 0 then _ else _) = _
        rw [stT_zero]
        by_cases h : z = 0
        · rw [if_pos h, decide_eq_true h]
        · rw [if_neg h, decide_eq_false h]), Nat.le_refl _⟩, 
      ⟨rfl, .inr ⟨w1.heap.size, 1, _, rfl, by omega, hr3, Nat.le_refl _, by unfold maxLen; omega, rfl, rfl⟩⟩⟩
  have HB2 : Hid (Below w.heap.size w w3) := Lib.hid ((by rw [hws]; exact hb1.setCell (p := ⟨w.heap.size, 0, none⟩) (Nat.le_refl _) (.bool true) : Below w.heap.size w ws).trans (hb3.mono (by omega)))
  have HW2 := Lib.hid hw2
  have HMM := Lib.hid hM
  have hwl : ¬ w.heap.size = w1.heap.size := by omega
  have hz12 : w.heap.size < w1.heap.size := by omega
  clear hb1 hb2 ht1 hr2 ht2 hM hz1 er0 hts hb3 hr3 hzs
  rw [hw2] at e00 f00
  rw [hw3, hws] at HCAN HB2
  clear hw1 hw2 hw3 hws
  go_enter Tryd.func33, Tryd.ntmps33
  go_wp2
  go_loopw [8, 27] (fun v kv wr => ∃ (k : Nat) (g : Nat → Nat), k ≤ l.length ∧ kv = .int .i64 (k : Int) ∧ CanAt wr l ss w.heap.size M v k g ∧ Below w.heap.size w wr) (fun _ kv _ => l.length - (intOf kv).toNat)
  case atStart => exact ⟨0, _, Nat.zero_le _, rfl, HCAN.out, HB2.out⟩
  case round =>
    obtain ⟨k, g, hk, rfl, hcan, hb⟩ := hrel
    clear hmk e00 f00
    obtain ⟨G, cap, hve, hbG, hGl, hkc, hrow⟩ := row_cell hcan.2 (by omega)
    subst hve
    by_cases hlt : k < l.length
    · have hlt2 : k < ss.length := by have := HSS.out; omega
      have hv1 := HG.out.pos.get hlt
      have hv54 := HG.out.le hlt
      have hs04 := HS4.out k hlt2
      obtain ⟨V, hV⟩ : ∃ V : Nat, l[k] = (V : Int) := ⟨l[k].toNat, by omega⟩
      obtain ⟨s, hs⟩ : ∃ s : Nat, ss[k] = (s : Int) := ⟨ss[k].toNat, by omega⟩
      have HMO := Lib.hid (stT_more (ss := ss) HG.out.pos (fun j h => (HS4.out j h).1) HSS.out.symm hlt hV hs)
      have HKI := Lib.hid (hV ▸ HKC.out k hlt)
      have HSI := Lib.hid (hs ▸ HSC.out k hlt2)
      rw [hV] at hv1 hv54
      rw [hs] at hs04
      have eV := (hb.cell (p := ⟨b, off + k, none⟩) hbl).trans HKI.out
      obtain ⟨wA, hwA⟩ : ∃ x : World, x = wr.alloc (.cells (madeCells #[.bool false] (M * 1)) 4) := ⟨_, rfl⟩
      have hmk : (Instr.makeSlice 68 (.int .i64 ((N : Int) + 1)) (.int .i64 ((N : Int) + 1))).run Tryd.prog wr = .ok (.slice (some ⟨wr.heap.size, 0, none⟩) M M) wA := by rw [hwA, ← hM1]; exact run_makeB M (by omega) wr
      obtain ⟨nb, hnb⟩ : ∃ nb, nb = wr.heap.size := ⟨_, rfl⟩
      have HTA : Hid (Tb wA nb 4 M (mixN (stT l ss (k + 1)) 0)) := Lib.hid (by
        rw [hwA, hnb]; exact (made_bool _ _ _).cong (fun z _ => by unfold mixN; rw [if_neg (by omega)]))
      have hbA : Below wr.heap.size wr wA := by rw [hwA]; exact (Below.refl _ _).alloc (Nat.le_refl _) _
      have HCA := Lib.hid (hcan.next hbA)
      have HBA := Lib.hid (hb.trans (hbA.mono hb.size))
      have hwn : w.heap.size ≤ nb := by rw [hnb]; exact hb.size
      have hGn : G < nb := by rw [hnb]; exact hGl
      have hbn : b < nb := by omega
      have hbn' : b' < nb := by omega
      have HGA : Hid (∀ j, j ≤ k → g j < nb) := Lib.hid (fun j hj => by rw [hnb]; exact (hcan.1 j hj).1.lt)
      have HGK := Lib.hid (HGA.out k (Nat.le_refl _))
      have ercA := (hbA.cell (p := ⟨G, k, none⟩) hGl).trans (hrow k _ (rowsV_get g M (k + 1) k (by omega)))
      have HEV := Lib.hid ((hbA.cell (p := ⟨b, off + k, none⟩) (by show b < wr.heap.size; have := hb.size; omega)).trans eV)
      have HES := Lib.hid ((HBA.out.cell (p := ⟨b', off' + k, none⟩) hbl').trans HSI.out)
      have HERC := Lib.hid ercA
      have hkl6 : k ≤ 6 := by omega
      rw [← hnb] at hmk
      clear hcan hb hbA hV hs hrow hwA ercA hGl
      generalize hwx : wr = wx at *
      clear hwx hnb
      go_wp2
      go_loopw [12] (fun xv wr => ∃ x : Nat, x ≤ M ∧ xv = .int .i64 (x : Int) ∧ Tb wr nb 4 M (mixN (stT l ss (k + 1)) x) ∧ Below nb wA wr) (fun xv _ => M - (intOf xv).toNat)
      case atStart => exact ⟨0, Nat.zero_le _, rfl, HTA.out, Below.refl _ _⟩
      case round =>
        obtain ⟨x, hxM, rfl, ht, hbn0⟩ := hrel
        clear hmk
        by_cases hlx : x < M
        · have hxN : (x : Int) ≤ (N : Int) := by omega
          have hx1 : (x : Int) < (M : Int) := by omega
          have hx0 : (0 : Int) ≤ (x : Int) := by omega
          have HTX := Lib.hid (by have h := ht; rw [mixN_P] at h; exact h)
          have HBX := Lib.hid hbn0
          clear ht hbn0 eV
          generalize hwy : wr = wy at *
          clear hwy
          go_wp2
          go_loopw [13] (fun cv wr => ∃ (cc : Nat) (p : Bool), cc ≤ s + 1 ∧ cv = .int .i64 (cc : Int) ∧ (p = true ↔ ∃ c, c < cc ∧ c ≤ s ∧ LcP (stT l ss k) V x c) ∧ Tb wr nb 4 M (mixP (stT l ss (k + 1)) x p) ∧ Below nb wA wr) (fun cv _ => s + 1 - (intOf cv).toNat)
          case atStart => exact ⟨0, false, by omega, rfl, ⟨(fun h => by cases h), (fun ⟨c, h, _⟩ => absurd h (by omega))⟩, HTX.out, HBX.out⟩
          case round =>
            obtain ⟨cc, p, hccs, rfl, hpi, ht, hbn0⟩ := hrel
            have HPI := Lib.hid hpi; clear hpi
            have es := (hbn0.cell (p := ⟨b', off' + k, none⟩) hbn').trans HES.out
            have hk2 : (k : Int) < (ss.length : Int) := by omega
            obtain ⟨q, hq⟩ : ∃ q, q = cc * V := ⟨_, rfl⟩
            have hqi : (cc : Int) * (V : Int) = (q : Int) := by rw [hq]; exact (Int.natCast_mul cc V).symm
            have hq3 : q ≤ 401 * 54 := by rw [hq]; exact Nat.mul_le_mul (by omega) (by omega)
            have hcs4 : cc ≤ 401 := by omega
            by_cases hin : cc ≤ s ∧ q ≤ x
            · obtain ⟨h1, h2⟩ := hin
              have h1' : (cc : Int) ≤ (s : Int) := by omega
              have h2' : (q : Int) ≤ (x : Int) := by omega
              obtain ⟨D, hD⟩ : ∃ D, D = x - q := ⟨_, rfl⟩
              have hDi : (x : Int) - (q : Int) = (D : Int) := by omega
              have hDM : (D : Int) < (M : Int) := by omega
              have hD0 : (0 : Int) ≤ (D : Int) := by omega
              have HLC : Hid (LcP (stT l ss k) V x cc ↔ stT l ss k D = true) := Lib.hid (by unfold LcP; rw [← hq, ← hD]; exact ⟨fun h => h.2, fun h => ⟨h2, h⟩⟩)
              have en := ht.cell hlx
              have fn := ht.free x
              unfold mixP at en
              rw [if_neg (Nat.lt_irrefl _), if_pos rfl] at en
              have er := (hbn0.cell (p := ⟨G, k, none⟩) hGn).trans HERC.out
              have eT := (((HCA.out.1 k (Nat.le_refl _)).1).below hbn0 HGK.out).cell (j := D) (by omega)
              have HNX : Hid (∀ p', p' = (p || stT l ss k D) → (p' = true ↔ ∃ c, c < cc + 1 ∧ c ≤ s ∧ LcP (stT l ss k) V x c)) := Lib.hid (fun p' hp' => by
                rw [hp', Bool.or_eq_true, HPI.out, ← HLC.out]
                constructor
                · rintro (⟨c0, h3, h4, h5⟩ | h3)
                  · exact ⟨c0, by omega, h4, h5⟩
                  · exact ⟨cc, by omega, h1, h3⟩
                · rintro ⟨c0, h3, h4, h5⟩
                  rcases Nat.lt_or_ge c0 cc with h6 | h6
                  · exact .inl ⟨c0, h6, h4, h5⟩
                  · obtain rfl : c0 = cc := by omega
                    exact .inr h5)
              have hkk1 : (k : Int) < (k : Int) + 1 := by omega
              cases p with
              | true =>
                have HTN := Lib.hid (by have h := ht.set x (.bool true); rw [mixP_set] at h; exact h)
                have HBN := Lib.hid (hbn0.setCell (p := ⟨nb, x, none⟩) (Nat.le_refl _) (.bool true))
                clear ht hbn0 hq hD
                go_wp2
                go_roundw
                case rel => exact ⟨cc + 1, true, by omega, by go_num, HNX.out true (by simp), HTN.out, HBN.out⟩
                case measure => simp [intOf]; omega
              | false =>
                cases hT : stT l ss k D with
                | true =>
                  rw [hT] at eT HNX
                  have HTN := Lib.hid (by have h := ht.set x (.bool true); rw [mixP_set] at h; exact h)
                  have HBN := Lib.hid (hbn0.setCell (p := ⟨nb, x, none⟩) (Nat.le_refl _) (.bool true))
                  clear ht hbn0 hq hD hT
                  go_wp2
                  go_roundw
                  case rel => exact ⟨cc + 1, true, by omega, by go_num, HNX.out true rfl, HTN.out, HBN.out⟩
                  case measure => simp [intOf]; omega
                | false =>
                  rw [hT] at eT HNX
                  have HTN := Lib.hid (by have h := ht.set x (.bool false); rw [mixP_set] at h; exact h)
                  have HBN := Lib.hid (hbn0.setCell (p := ⟨nb, x, none⟩) (Nat.le_refl _) (.bool false))
                  clear ht hbn0 hq hD hT
                  go_wp2
                  go_roundw
                  case rel => exact ⟨cc + 1, false, by omega, by go_num, HNX.out false rfl, HTN.out, HBN.out⟩
                  case measure => simp [intOf]; omega
            · have HDN : Hid (p = stT l ss (k + 1) x) := Lib.hid (by
                have h1 : stT l ss (k + 1) x = true ↔ p = true := by
                  rw [HPI.out, HMO.out x]
                  constructor
                  · rintro ⟨c0, h3, h4⟩
                    refine ⟨c0, ?_, h3, h4⟩
                    rcases Nat.lt_or_ge c0 cc with h5 | h5
                    · exact h5
                    · exfalso
                      have h6 : cc * V ≤ c0 * V := Nat.mul_le_mul_right V h5
                      have h7 := h4.1
                      exact hin ⟨by omega, by omega⟩
                  · rintro ⟨c0, _, h3, h4⟩; exact ⟨c0, h3, h4⟩
                cases p <;> cases h2 : stT l ss (k + 1) x <;> simp_all)
              have HTN := Lib.hid (by have h := ht; rw [mixP_done HDN.out] at h; exact h)
              have HBN := Lib.hid hbn0
              by_cases h1 : cc ≤ s
              · have h1' : (cc : Int) ≤ (s : Int) := by omega
                have h2' : ¬ (q : Int) ≤ (x : Int) := by omega
                clear ht hbn0 hq hin
                go_wp2
                go_roundw
                case rel => exact ⟨x + 1, by omega, by go_num, HTN.out, HBN.out⟩
                case measure => simp [intOf]; omega
              · have h1' : ¬ (cc : Int) ≤ (s : Int) := by omega
                clear ht hbn0 hq hin
                go_wp2
                go_roundw
                case rel => exact ⟨x + 1, by omega, by go_num, HTN.out, HBN.out⟩
                case measure => simp [intOf]; omega
        · have hxe : x = M := by omega
          have hxN : ¬ (x : Int) ≤ (N : Int) := by omega
          rw [hxe] at ht
          have HTD : Hid (Tb wr nb 4 M (fun z => .bool (stT l ss (k + 1) z))) := Lib.hid (ht.cong (fun z hz => by unfold mixN; rw [if_pos hz]))
          have HBD := Lib.hid hbn0
          have hnl : nb < wr.heap.size := HTD.out.lt
          have HRW : Hid (wr.ownsRow w.heap.size 68 1 (.slice (some ⟨G, 0, none⟩) (k + 1) cap) (k + 1) (rowsV g M (k + 1))) := Lib.hid (own_keptB HCA.out.2 hbn0 (fun q hq => by have : G = q := Option.some.inj hq; omega))
          have HTJ : Hid (∀ j, j ≤ k → Tb wr (g j) 4 M (fun z => .bool (stT l ss j z)) ∧ w.heap.size ≤ g j) := Lib.hid (fun j hj => ⟨((HCA.out.1 j hj).1).below hbn0 (HGA.out j hj), (HCA.out.1 j hj).2⟩)
          have hmx : (k + 1) + 1 ≤ maxLen := by unfold maxLen; omega
          have HLT := Lib.hid hlt
          clear ht hbn0 eV hxe
          go_wp2_with (at_builtin; refine wpList_append_own_at _ rfl _ _ 69 rfl w.heap.size 68 i0 (.slice none 0 0) 1 24 Tryd.underlying69 HI.out HZ0.out HZ1.out HZ2.out rfl (by decide) _ _ _ rfl (HRW.out.alloc _) ⟨wr.heap.size, 0, none⟩ 1 1 [.slice (some ⟨nb, 0, none⟩) M M] rfl rfl (cell_one_new _ _ _) (by simp [Value.oneCell']) hmx (by omega) (by simp; omega) ?_)
          intro v' w5 hown' hgrow _ hat
          have HB5 : Hid (Below w.heap.size w w5) := Lib.hid (((HBA.out.trans (HBD.out.mono hwn)).alloc (by omega) _).grown hgrow (by simp; omega) (fun q hq => by have : G = q := Option.some.inj hq; omega))
          have HT5 : Hid (∀ j, j ≤ k + 1 → Tb w5 (if j = k + 1 then nb else g j) 4 M (fun z => .bool (stT l ss j z)) ∧ w.heap.size ≤ (if j = k + 1 then nb else g j)) := Lib.hid (fun j hj => by
            by_cases hjk : j = k + 1
            · rw [if_pos hjk, hjk]
              have h1 := HTD.out.alloc (.cells #[.slice (some ⟨nb, 0, none⟩) M M] 68)
              exact ⟨h1.grown hgrow (tb_not_row h1 (by decide) (HRW.out.alloc _)), hwn⟩
            · rw [if_neg hjk]
              have h0 := HTJ.out j (by omega)
              have h1 := h0.1.alloc (.cells #[.slice (some ⟨nb, 0, none⟩) M M] 68)
              exact ⟨h1.grown hgrow (tb_not_row h1 (by decide) (HRW.out.alloc _)), h0.2⟩)
          have HR5 : Hid (w5.ownsRow w.heap.size 68 1 v' (k + 1 + 1) (rowsV (fun j => if j = k + 1 then nb else g j) M (k + 1 + 1))) := Lib.hid (by rw [rowsV_snoc]; exact hown')
          clear hown' hgrow hat
          go_wp2
          go_roundw
          case rel => exact ⟨k + 1, (fun j => if j = k + 1 then nb else g j), by have := HLT.out; omega, by go_num, ⟨HT5.out, HR5.out⟩, HB5.out⟩
          case measure => have := HLT.out; simp [intOf]; omega
    · obtain rfl : k = l.length := by omega
      have erc := hrow l.length _ (rowsV_get g M (l.length + 1) l.length (by omega))
      have htN := (hcan.1 l.length (Nat.le_refl _)).1
      have hgL := htN.lt
      have etN := htN.cell (j := N) (by have := HMM.out; omega)
      have hnM : (N : Int) < (M : Int) := by omega
      have hn0 : (0 : Int) ≤ (N : Int) := by omega
      have hll : (l.length : Int) < (l.length : Int) + 1 := by omega
      have HB := Lib.hid hb
      cases hT : stT l ss l.length N with
      | false =>
        rw [hT] at etN
        have HV : Hid (stB l ss l.length (N : Int) = false) := Lib.hid hT
        clear hrow hcan htN hb hT
        go_wp2
        go_ret2
        exact ⟨_, 3, by rw [HV.out]; rfl, HB.out, by rw [stkL_no HV.out]; exact own_nil _ _ _ _⟩
      | true =>
        rw [hT] at etN
        have HV : Hid (stB l ss l.length (N : Int) = true) := Lib.hid hT
        have HST : Hid (StU l ss l.length (N : Int)) := Lib.hid (stB_iff.1 hT)
        obtain ⟨wC, hwC⟩ : ∃ x : World, x = wr.alloc (.cells (madeCells #[.int .i64 0] (l.length * 1)) 3) := ⟨_, rfl⟩
        have hmk2 : (Instr.makeSlice 23 (.int .i64 (l.length : Int)) (.int .i64 (l.length : Int))).run Tryd.prog wr = .ok (.slice (some ⟨wr.heap.size, 0, none⟩) l.length l.length) wC := by rw [hwC]; exact run_makeI l.length (by omega) wr
        obtain ⟨cb, hcb⟩ : ∃ cb, cb = wr.heap.size := ⟨_, rfl⟩
        have HTC : Hid (Tb wC cb 3 l.length (outC l ss N l.length)) := Lib.hid (by
          rw [hwC, hcb]; exact (made_int _ _ _).cong (fun z hz => by unfold outC; rw [if_neg (by omega)]))
        have hbC : Below wr.heap.size wr wC := by rw [hwC]; exact (Below.refl _ _).alloc (Nat.le_refl _) _
        have HBC : Hid (Below w.heap.size w wC) := Lib.hid (hb.trans (hbC.mono hb.size))
        have HEC : Hid (∀ i, i ≤ l.length → wC.cell? ⟨G, i, none⟩ = some (.slice (some ⟨g i, 0, none⟩) M M)) := Lib.hid (fun i hi => (hbC.cell (p := ⟨G, i, none⟩) hGl).trans (hrow i _ (rowsV_get g M (l.length + 1) i (by omega))))
        have HTT : Hid (∀ i, i ≤ l.length → Tb wC (g i) 4 M (fun z => .bool (stT l ss i z))) := Lib.hid (fun i hi => ((hcan.1 i hi).1).next hbC)
        have HGC : Hid (∀ i, i ≤ l.length → g i < cb) := Lib.hid (fun i hi => by rw [hcb]; exact (hcan.1 i hi).1.lt)
        have hGc : G < cb := by rw [hcb]; exact hGl
        have hwc : w.heap.size ≤ cb := by rw [hcb]; exact hb.size
        rw [← hcb] at hmk2
        clear hrow hcan htN hb hT hbC hwC
        generalize hwx : wr = wx at *
        clear hwx hcb
        go_wp2
        go_loopw [2, 15] (fun nv iv wr => ∃ (e R : Nat) (q : Int), e ≤ l.length ∧ R ≤ N ∧ q + 1 = (e : Int) ∧ remS l ss (N : Int) (l.length - e) = (R : Int) ∧ nv = .int .i64 (R : Int) ∧ iv = .int .i64 q ∧ Tb wr cb 3 l.length (outC l ss N e) ∧ Below cb wC wr) (fun _ iv _ => (intOf iv + 1).toNat)
        case atStart => exact ⟨l.length, N, (l.length : Int) - 1, Nat.le_refl _, Nat.le_refl _, by omega, by rw [Nat.sub_self]; rfl, rfl, rfl, HTC.out, Below.refl _ _⟩
        case round =>
          obtain ⟨e, R, q, hel, hRN, hqe, hrem, rfl, rfl, ht, hb2⟩ := hrel
          clear hmk2 erc etN
          cases e with
          | zero =>
            obtain rfl : q = -1 := by omega
            have HLL : Hid (((List.range l.length).map (fun i => (cntS l ss (N : Int) i : Int))).length = l.length) := Lib.hid (by simp)
            have HO : Hid (wr.ownsRow w.heap.size 3 1 (.slice (some ⟨cb, 0, none⟩) l.length l.length) l.length (intsZ ((List.range l.length).map (fun i => (cntS l ss (N : Int) i : Int))))) := Lib.hid (by
              have h := Tb.own (l := (List.range l.length).map (fun i => (cntS l ss (N : Int) i : Int))) (base := w.heap.size) (by rw [HLL.out]; exact ht) hwc (by rw [HLL.out]; unfold maxLen; omega) (fun j hj => by unfold outC; simp)
              rw [HLL.out] at h; exact h)
            have HBF := Lib.hid (HBC.out.trans (hb2.mono hwc))
            clear ht hb2 hrem hqe
            go_wp2
            go_ret2
            exact ⟨_, 3, by rw [HV.out]; rfl, HBF.out, by rw [stkL_yes HV.out, HLL.out]; exact HO.out⟩
          | succ i =>
            obtain rfl : q = (i : Int) := by omega
            have hil : i < l.length := by omega
            have hi2 : i < ss.length := by have := HSS.out; omega
            have hke : l.length - 1 - (l.length - (i + 1)) = i := by omega
            have hv1 := HG.out.pos.get hil
            have hv54 := HG.out.le hil
            have hs04 := HS4.out i hi2
            obtain ⟨V, hV⟩ : ∃ V : Nat, l[i] = (V : Int) := ⟨l[i].toNat, by omega⟩
            obtain ⟨s, hs⟩ : ∃ s : Nat, ss[i] = (s : Int) := ⟨ss[i].toNat, by omega⟩
            have hgV : l.getD i 0 = (V : Int) := by rw [getD_of hil]; exact hV
            have hgS : ss.getD i 0 = (s : Int) := by rw [getD_of hi2]; exact hs
            have hst : StU l ss (i + 1) (R : Int) := by
              have h := remS_left HG.out.pos HST.out (l.length - (i + 1)) (by omega)
              rw [hrem, show l.length - (l.length - (i + 1)) = i + 1 from by omega] at h; exact h
            obtain ⟨hm1, hm2⟩ := mostC_spec HG.out.pos hil hst
            obtain ⟨m, hm⟩ : ∃ m, m = mostC l ss i (R : Int) := ⟨_, rfl⟩
            rw [← hm] at hm1 hm2
            have hmb := most_bound HG.out.pos hil hm1
            rw [hgV] at hmb
            have hms : m ≤ s := by have := hm1.1; rw [hgS] at this; omega
            obtain ⟨Q, hQ⟩ : ∃ Q, Q = R / V := ⟨_, rfl⟩
            have hquo : (R : Int).tdiv (V : Int) = (Q : Int) := by rw [hQ]; exact (Int.ofNat_tdiv R V).symm
            have hmV : m * V ≤ R := by have h := hmb.1; rw [← Int.natCast_mul] at h; omega
            have hmQ : m ≤ Q := by rw [hQ]; exact (Nat.le_div_iff_mul_le (by omega)).2 hmV
            have hQR : Q ≤ R := by rw [hQ]; exact Nat.div_le_self _ _
            have hQV : Q * V ≤ R := by rw [hQ]; exact Nat.div_mul_le_self _ _
            obtain ⟨c0, hc0⟩ : ∃ c0, c0 = min s Q := ⟨_, rfl⟩
            have hmin : (if (s : Int) < (Q : Int) then (s : Int) else (Q : Int)) = (c0 : Int) := by split <;> omega
            have HLE := Lib.hid (fun x : KeptW wr.heap.size wr => (by have h := l1Least_any (s : Int) (Q : Int) x.at_; rw [hmin] at h; exact h : Calls Tryd.prog 24 #[.int .i64 (s : Int), .int .i64 (Q : Int)] x.at_ fun e w' => e = .returned (.int .i64 (c0 : Int)) ∧ x.at_ = w'))
            have hri := remS_is (ks := l) (ss := ss) (N := (N : Int)) (k := l.length - (i + 1)) (m := m) (v := (V : Int)) (by rw [hke]; exact hgV) (by rw [hke, hrem]; exact hm.symm)
            rw [hke, hrem, show l.length - (i + 1) + 1 = l.length - i from by omega] at hri
            have HRI := Lib.hid hri
            have HMB : Hid (∀ c, (c ≤ s ∧ c * V ≤ R ∧ stT l ss i (R - c * V) = true) → c ≤ m) := Lib.hid (fun c hc => by
              refine hm2 c ⟨by rw [hgS]; omega, ?_⟩
              have h := stB_iff.1 (show stB l ss i ((R - c * V : Nat) : Int) = true from hc.2.2)
              rw [hgV, show (R : Int) - (c : Int) * (V : Int) = ((R - c * V : Nat) : Int) from by have := Int.natCast_mul c V; have := hc.2.1; omega]
              exact h)
            have HMS : Hid (stT l ss i (R - m * V) = true) := Lib.hid (by
              show stB l ss i ((R - m * V : Nat) : Int) = true
              rw [stB_iff]
              have h := hm1.2
              rw [hgV, show (R : Int) - (m : Int) * (V : Int) = ((R - m * V : Nat) : Int) from by have := Int.natCast_mul m V; omega] at h
              exact h)
            have hbw := HBC.out.trans (hb2.mono hwc)
            have hbwl : b < wr.heap.size := by have := hbw.size; omega
            have hbwl' : b' < wr.heap.size := by have := hbw.size; omega
            have ek := (hbw.cell (p := ⟨b, off + i, none⟩) hbl).trans (hV ▸ HKC.out i hil)
            have es := (hbw.cell (p := ⟨b', off' + i, none⟩) hbl').trans (hs ▸ HSC.out i hi2)
            have eG := (hb2.cell (p := ⟨G, i, none⟩) hGc).trans (HEC.out i (by omega))
            have tT := (HTT.out i (by omega)).below hb2 (HGC.out i (by omega))
            have hcw := ht.lt
            have hGw : G < wr.heap.size := by omega
            have kk := KeptW.cell ek hbwl
            have ks := KeptW.cell es hbwl'
            have HEK := Lib.hid ek; have HEG := Lib.hid eG; have HTI := Lib.hid tT; have HTO := Lib.hid ht; have HB2 := Lib.hid hb2
            have hVne : ¬ (V : Int) = 0 := by omega
            have hiL : (i : Int) < (l.length : Int) := by omega
            have hiS : (i : Int) < (ss.length : Int) := by omega
            have hi0 : (0 : Int) ≤ (i : Int) := by omega
            have hQ4 : Q ≤ 400 := by omega
            have HQV := Lib.hid hQV; have HMQ := Lib.hid hmQ; have HMSL := Lib.hid hms; have HC0 := Lib.hid hc0
            rw [hV] at hv1 hv54
            rw [hs] at hs04
            clear hV hs hgV hgS hst hm1 hm2 hm hmb hms hQ hmV hmQ hQR hQV hc0 hmin hri hbw ek es eG tT ht hb2 hrem hqe hke
            go_wp2_with fail
            refine region_kept wr.heap.size (by kernel_rfl) (by kernel_rfl) ?_
            repeat (go_big_quiet_step (fail))
            go_big_quiet_step ((go_at_call 24; exact kept_same _ (HLE.out _)))
            repeat (go_big_quiet_step (fail))
            refine wpQuiet_nil ?_
            intro w9 hb9
            have HEK9 := Lib.hid ((hb9.cell (p := ⟨b, off + i, none⟩) hbwl).trans HEK.out)
            have HEG9 := Lib.hid ((hb9.cell (p := ⟨G, i, none⟩) hGw).trans HEG.out)
            have HTI9 := Lib.hid (HTI.out.next hb9)
            have HTO9 := Lib.hid (HTO.out.next hb9)
            have HB9 := Lib.hid (HB2.out.trans (hb9.mono (by omega)))
            have hb9l : b < w9.heap.size := by have := hb9.size; omega
            have hG9l : G < w9.heap.size := by have := hb9.size; omega
            clear hb9 kk ks hquo HLE
            generalize hwz : wr = wz at *
            clear hwz
            go_wp2
            go_loopw [16] (fun cv wr => ∃ cc : Nat, m ≤ cc ∧ cc ≤ c0 ∧ cv = .int .i64 (cc : Int) ∧ Below w9.heap.size w9 wr) (fun cv _ => (intOf cv).toNat)
            case atStart => exact ⟨c0, by have h1 := HMQ.out; have h2 := HMSL.out; have h3 := HC0.out; omega, Nat.le_refl _, rfl, Below.refl _ _⟩
            case round =>
              obtain ⟨cc, hcm, hcc, rfl, hb5⟩ := hrel
              have hcs : cc ≤ s := by have h3 := HC0.out; omega
              have hcQ : cc ≤ Q := by have h3 := HC0.out; omega
              obtain ⟨p, hp⟩ : ∃ p, p = cc * V := ⟨_, rfl⟩
              have hpi : (cc : Int) * (V : Int) = (p : Int) := by rw [hp]; exact (Int.natCast_mul cc V).symm
              have hpR : p ≤ R := by rw [hp]; exact Nat.le_trans (Nat.mul_le_mul_right V hcQ) HQV.out
              obtain ⟨D, hD⟩ : ∃ D, D = R - p := ⟨_, rfl⟩
              have hDi : (R : Int) - (p : Int) = (D : Int) := by omega
              have hDM : (D : Int) < (M : Int) := by omega
              have hD0 : (0 : Int) ≤ (D : Int) := by omega
              have tI := HTI9.out.next hb5
              have eT := tI.cell (j := D) (by omega)
              have kT := KeptW.cell eT tI.lt
              have kG := KeptW.cell ((hb5.cell (p := ⟨G, i, none⟩) hG9l).trans HEG9.out) (by show G < wr.heap.size; have := hb5.size; omega)
              have kk := KeptW.cell ((hb5.cell (p := ⟨b, off + i, none⟩) hb9l).trans HEK9.out) (by show b < wr.heap.size; have := hb5.size; omega)
              have HB5 := Lib.hid hb5
              cases hTD : stT l ss i D with
              | false =>
                rw [hTD] at kT
                have hne : m ≠ cc := fun h => by
                  have h1 := HMS.out
                  rw [h, ← hp, ← hD, hTD] at h1; cases h1
                obtain ⟨y, hy⟩ : ∃ y, y = cc - 1 := ⟨_, rfl⟩
                have hcy : (cc : Int) - 1 = (y : Int) := by omega
                have HMY : Hid (m ≤ y ∧ y ≤ c0 ∧ y < cc) := Lib.hid (by omega)
                clear hTD hne hy hp hD tI eT hb5
                go_wp2_with fail
                refine region_kept wr.heap.size (by kernel_rfl) (by kernel_rfl) ?_
                repeat (go_big_quiet_step (fail))
                refine wpQuiet_nil ?_
                intro w6 hb6
                have HB6 := Lib.hid (HB5.out.trans (hb6.mono HB5.out.size))
                clear kT kG kk hb6
                go_wp2
                go_roundw
                case rel => exact ⟨y, HMY.out.1, HMY.out.2.1, by go_num, HB6.out⟩
                case measure => have := HMY.out; simp [intOf]; omega
              | true =>
                rw [hTD] at kT
                have hcm2 : cc = m := by
                  have h1 := HMB.out cc ⟨hcs, by rw [← hp]; exact hpR, by rw [← hp, ← hD]; exact hTD⟩
                  omega
                have HCN : Hid (remS l ss (N : Int) (l.length - i) = (D : Int) ∧ cntS l ss (N : Int) i = cc) := Lib.hid (by
                  rw [hcm2]
                  refine ⟨?_, HRI.out.2 (by omega)⟩
                  rw [HRI.out.1, ← hcm2, hpi, hDi])
                have hDN : D ≤ N := by omega
                clear hTD hcm2 hp hD tI eT hb5
                go_wp2_with fail
                refine region_kept wr.heap.size (by kernel_rfl) (by kernel_rfl) ?_
                repeat (go_big_quiet_step (fail))
                refine wpQuiet_nil ?_
                intro w6 hb6
                have hb7 := HB5.out.trans (hb6.mono HB5.out.size)
                have tO := HTO9.out.next hb7
                have ct := tO.cell (j := i) hil
                have ft := tO.free i
                have ek := (hb7.cell (p := ⟨b, off + i, none⟩) hb9l).trans HEK9.out
                have hbc : ¬ b = cb := by omega
                have HTN : Hid (Tb (w6.setCell ⟨cb, i, none⟩ (.int .i64 (cc : Int))) cb 3 l.length (outC l ss N i)) := Lib.hid (by
                  have h := tO.set i (.int .i64 (cc : Int))
                  rw [outC_set HCN.out.2] at h; exact h)
                have HBN := Lib.hid ((HB9.out.trans (hb7.mono (by have := HTO9.out.lt; omega))).setCell (p := ⟨cb, i, none⟩) (Nat.le_refl _) (.int .i64 (cc : Int)))
                clear kT kG kk hb6 hb7 tO
                go_wp2
                go_roundw
                case rel => exact ⟨i, D, (i : Int) - 1, by omega, hDN, by omega, HCN.out.1, by go_num, by go_num, HTN.out, HBN.out⟩
                case measure => simp [intOf]
end Go.Proofs.YthhmbcgamcbfdaaDoor
