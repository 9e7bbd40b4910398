/-
  The contracts of impl.scarcestRow and of TimesToSet, ScarcestSort, in spec and in impl: each answers what the plain words here say and changes nothing that was there.
-/
import Derived.Test.YtdomccamkiplcaaMin
namespace Go.Proofs.Ytdomccamkiplcaa
open Go.RowKit
set_option linter.unusedVariables false

theorem setF_pos {f : List (ByteArray × Int)} {s : ByteArray} {n p : Nat} {l : List Nat} (hp : p < s.size) (h : setF f s n p = some l) : l ≠ [] := by
  cases n with
  | zero => simp only [setF] at h; rw [if_neg (by omega)] at h; cases h
  | succ n =>
    simp only [setF] at h
    rw [if_neg (by omega)] at h
    split at h
    · cases h
    · cases hr : setF f s n (p + (codeAt f _).length) with
      | none => rw [hr] at h; cases h
      | some m => rw [hr] at h; simp at h; subst h; simp
theorem need_pos {f : List (ByteArray × Int)} {ws : List ByteArray} (h : copyB f ws = true) (h0 : 0 < ws.length) : ∃ i, i < f.length ∧ (needF f ws).getD i 0 ≠ 0 := by
  obtain ⟨hF, hw, hc⟩ := copy_parts h
  have h1 := canB_at h0 hc
  have h2 := isWord_len (words_isWord hw h0)
  have h3 : sg f ws[0] ≠ [] := setF_pos (p := 0) (by omega) h1
  obtain ⟨i, r, hr⟩ := List.exists_cons_of_ne_nil h3
  have hm : i ∈ sg f ws[0] := by rw [hr]; simp
  have hi := sg_mem i hm
  refine ⟨i, hi, ?_⟩
  rw [getD_of (by rw [needF_len]; exact hi)]
  unfold needF
  rw [cntL_get]
  have hmem : i ∈ flS f ws := List.mem_flatMap.2 ⟨ws[0], List.getElem_mem h0, hm⟩
  have := List.count_pos_iff.2 hmem
  omega
theorem supTo_pos {N S : List Int} {i : Nat} (hi : N.getD i 0 ≠ 0) : ∀ k, i < k → 0 < (supTo N S k).length
  | 0, h => by omega
  | k + 1, h => by
    simp only [supTo]
    by_cases hk : N.getD k 0 = 0
    · rw [if_pos hk]
      refine supTo_pos hi k ?_
      rcases Nat.lt_or_ge i k with h1 | h1
      · exact h1
      · obtain rfl : i = k := by omega
        exact absurd hk hi
    · rw [if_neg hk]; simp
theorem supTo_zero {N S : List Int} : ∀ k, (∀ i, i < k → N.getD i 0 = 0) → supTo N S k = []
  | 0, _ => rfl
  | k + 1, h => by
    simp only [supTo]
    rw [if_pos (h k (by omega))]
    exact supTo_zero k fun i hi => h i (by omega)
theorem supTo_mem {N S : List Int} {r : Rw} : ∀ k, r ∈ supTo N S k → ∃ i : Nat, i < k ∧ r.i = (i : Int) ∧ r.s = S.getD i 0 ∧ r.n = N.getD i 0 ∧ N.getD i 0 ≠ 0
  | 0, h => by simp [supTo] at h
  | k + 1, h => by
    simp only [supTo] at h
    by_cases hk : N.getD k 0 = 0
    · rw [if_pos hk] at h
      obtain ⟨i, h1, h2⟩ := supTo_mem k h
      exact ⟨i, by omega, h2⟩
    · rw [if_neg hk] at h
      rcases List.mem_append.1 h with h | h
      · obtain ⟨i, h1, h2⟩ := supTo_mem k h
        exact ⟨i, by omega, h2⟩
      · simp at h; subst h
        exact ⟨k, by omega, rfl, rfl, rfl, hk⟩
/-- The first least row, if there is one. -/
def lastMin (rows : List Rw) : Option Rw := if 0 < rows.length then some (minK rows (rows.length - 1)) else none
theorem minK_append (a b : List Rw) : ∀ k, k < a.length → minK (a ++ b) k = minK a k
  | 0, h => by simp only [minK]; rw [rows_getD h, rows_getD (by simp; omega), List.getElem_append_left h]
  | k + 1, h => by simp only [minK]; rw [minK_append a b k (by omega), rows_getD h, rows_getD (by simp; omega), List.getElem_append_left h]
def newM : Option Rw → Rw → Rw | none, x => x | some m, x => pickR x m
theorem lastMin_nil : lastMin [] = none := rfl
theorem lastMin_snoc (rows : List Rw) (x : Rw) : lastMin (rows ++ [x]) = some (newM (lastMin rows) x) := by
  unfold lastMin
  rw [if_pos (by simp), List.length_append]
  congr 1
  by_cases h : 0 < rows.length
  · rw [if_pos h]
    show minK (rows ++ [x]) (rows.length + 1 - 1) = _
    obtain ⟨n, hn⟩ : ∃ n, rows.length = n + 1 := ⟨rows.length - 1, by omega⟩
    rw [show rows.length + 1 - 1 = n + 1 from by omega, show rows.length - 1 = n from by omega]
    simp only [minK]
    rw [minK_append _ _ n (by omega), rows_getD (by simp; omega), List.getElem_append_right (by omega)]
    simp [hn, newM]
  · rw [if_neg h]
    obtain rfl : rows = [] := List.eq_nil_of_length_eq_zero (by omega)
    rfl
theorem lastMin_some {rows : List Rw} (h : 0 < rows.length) : lastMin rows = some (minK rows (rows.length - 1)) := by unfold lastMin; rw [if_pos h]
theorem lastMin_mem {rows : List Rw} {m : Rw} (h : lastMin rows = some m) : m ∈ rows := by
  unfold lastMin at h
  split at h
  · injection h with h; subst h; exact minK_mem _ (by omega)
  · cases h
theorem sup_step {N S : List Int} {k : Nat} (h1 : k < N.length) (h2 : k < S.length) : lastMin (supTo N S (k + 1)) = if N[k] = 0 then lastMin (supTo N S k) else some (newM (lastMin (supTo N S k)) ⟨k, S[k], N[k]⟩) := by
  simp only [supTo]
  rw [getD_of h1, getD_of h2]
  split
  · rfl
  · rw [lastMin_snoc]

noncomputable def scR (f : List (ByteArray × Int)) (st : List Int) (ws : List ByteArray) : Option Rw := if askB f st ws && decide (0 < ws.length) then lastMin (supTo (needF f ws) st (needF f ws).length) else none
theorem sc_no {f : List (ByteArray × Int)} {st : List Int} {ws : List ByteArray} (h : askB f st ws = false ∨ ¬ 0 < ws.length) : scR f st ws = none := by
  unfold scR; rcases h with h | h <;> simp [h]
theorem sc_yes {f : List (ByteArray × Int)} {st : List Int} {ws : List ByteArray} (h : askB f st ws = true) (h0 : 0 < ws.length) : scR f st ws = lastMin (supTo (needF f ws) st (needF f ws).length) := by
  unfold scR; simp [h, h0]
/-- Without a word nothing is needed. -/
theorem need_none {f : List (ByteArray × Int)} {ws : List ByteArray} (h : ¬ 0 < ws.length) (S : List Int) : lastMin (supTo (needF f ws) S (needF f ws).length) = none := by
  obtain rfl : ws = [] := List.eq_nil_of_length_eq_zero (by omega)
  rw [supTo_zero]
  · rfl
  · intro i hi
    rw [getD_of hi]
    have h := cntL_get (n := f.length) (L := flS f []) (i := i) hi
    exact h.trans (by simp [flS])
theorem sup_bound {f : List (ByteArray × Int)} {st : List Int} {ws : List ByteArray} (h : askB f st ws = true) : ∀ r ∈ supTo (needF f ws) st (needF f ws).length, (0 ≤ r.s ∧ r.s ≤ 100000) ∧ (0 ≤ r.n ∧ r.n ≤ 640) := by
  intro r hr
  obtain ⟨h1, h2, _, _, h3, h4⟩ := need_stock h
  obtain ⟨i, hi, _, e1, e2, _⟩ := supTo_mem _ hr
  have hs : i < st.length := by omega
  rw [e1, e2, getD_of hi, getD_of hs]
  exact ⟨allB_at hs h4, h3 i hi⟩
theorem sc_bound {f : List (ByteArray × Int)} {st : List Int} {ws : List ByteArray} {m : Rw} (h : scR f st ws = some m) : (0 ≤ m.s ∧ m.s ≤ 100000) ∧ (1 ≤ m.n ∧ m.n ≤ 640) := by
  unfold scR at h
  split at h
  · rename_i ha
    simp only [Bool.and_eq_true] at ha
    have hm := lastMin_mem h
    have hb := sup_bound ha.1 m hm
    obtain ⟨i, _, _, _, e2, hne⟩ := supTo_mem _ hm
    have : m.n ≠ 0 := by rw [e2]; exact hne
    omega
  · cases h
def ScTo (w w' : World) (e : Ending) (r : Option Rw) : Prop := e = .returned (.tuple #[.agg #[.int .i64 (r.getD r0).i, .int .i64 (r.getD r0).s, .int .i64 (r.getD r0).n], .bool r.isSome]) ∧ Below w.heap.size w w'

set_option maxRecDepth 100000 in
set_option maxHeartbeats 1000000 in
theorem scarcestRow_any (f : List (ByteArray × Int)) (A : Option Addr) (c : Nat) (st : List Int) (C : Option Addr) (q : Nat) (ws : List ByteArray) (B : Option Addr) (d : Nat) (lo : Nat) (w : World) (hf : SortsIn w lo A f) (hn : f.length ≤ 1048576) (ho : CodesOk f) (hi : IntsIn w C st) (hq : st.length ≤ 1048576) (hg : StrsIn w B ws) (ho' : StrsOk ws) (hm : ws.length ≤ 1048576) :
    Calls Try.prog 54 #[.slice A f.length c, .slice C st.length q, .slice B ws.length d] w fun e w' => ScTo w w' e (scR f st ws) := by
  obtain ⟨w0, hw0⟩ : ∃ x : World, x = (w.alloc (.cells #[.slice C st.length q] 24)).alloc (.cells #[.int .i64 0, .int .i64 0, .int .i64 0] 69) := ⟨_, rfl⟩
  have HA0 : Hid (Below w.heap.size w w0) := Lib.hid (by rw [hw0]; exact ((Below.refl _ _).alloc (Nat.le_refl _) _).alloc (by simp) _)
  have HBX : Hid (Own w0 w.heap.size 24 [.slice C st.length q]) := Lib.hid (by rw [hw0]; exact Own.alloc (heap_new _ _) _)
  have HRW : Hid (RwAt w0 (w.heap.size + 1) r0) := Lib.hid (by rw [hw0]; exact own_new2 _ _ _ _)
  have HF0 := Lib.hid (hf.below HA0.out (Nat.le_refl _))
  have HG0 := Lib.hid (hg.below HA0.out (Nat.le_refl _))
  have HC0 := Lib.hid (hi.below HA0.out (Nat.le_refl _))
  have HW0 := Lib.hid hw0
  clear hw0 hf hg hi
  go_enter Try.func54, Try.ntmps54
  go_wp2_with fail
  rw [← HW0.out]
  refine (implCount_any f A c ws B d lo _ HF0.out hn ho HG0.out ho' hm).mono ?_
  intro e w1 hto
  clear ho ho'
  cases hcp : copyB f ws
  · obtain ⟨v, rfl, hb1⟩ := hto.none (need_no hcp)
    have HN := Lib.hid (sc_no (ws := ws) (.inl (askB_no (st := st) (.inl hcp))))
    have HB1 := Lib.hid (HA0.out.trans (hb1.mono HA0.out.size))
    have HR1 := Lib.hid (HRW.out.next hb1)
    obtain ⟨e0, e1, e2⟩ := HR1.out.cells
    have f0 := Own.free HR1.out 0; have f1 := Own.free HR1.out 1; have f2 := Own.free HR1.out 2
    clear hcp hto hb1
    go_wp2
    refine bodyPost_ret (v := .tuple #[.agg #[.int .i64 r0.i, .int .i64 r0.s, .int .i64 r0.n], .bool false]) (by simp [results, Try.results54, go_sem, r0, e0, e1, e2]) rfl ⟨by rw [HN.out]; rfl, ?_⟩
    repeat (first | (with_reducible exact HB1.out) | (refine Below.setCell ?_ (by first | (simp; done) | (simp; omega)) _))
  obtain ⟨A2, c2, rfl, hb1, ho2⟩ := hto.some (need_yes hcp)
  have HB1 := Lib.hid (HA0.out.trans (hb1.mono HA0.out.size))
  have HR1 := Lib.hid (HRW.out.next hb1)
  have HX1 := Lib.hid (HBX.out.next hb1)
  have HC1 := Lib.hid (HC0.out.below hb1 (Nat.le_refl _))
  have HI := Lib.hid (own_in ho2)
  have HCPY := Lib.hid hcp
  have HGT : Hid (w.heap.size + 1 < w1.heap.size) := Lib.hid HR1.out.lt
  clear hto hb1 ho2 hcp HA0 HBX HRW HF0 HG0 HC0 HW0
  have hbx : w1.cell? ⟨w.heap.size, 0, none⟩ = some (.slice C st.length q) := HX1.out.cell 0
  have hbxl := HX1.out.lt
  cases hsk : stockB f st
  · have HN := Lib.hid (sc_no (ws := ws) (.inl (askB_no (ws := ws) (.inr hsk))))
    have HK := Lib.hid hsk; clear hsk
    obtain ⟨e0, e1, e2⟩ := HR1.out.cells
    have f0 := Own.free HR1.out 0; have f1 := Own.free HR1.out 1; have f2 := Own.free HR1.out 2
    go_wp2_with fail
    refine (implStock_is f A c st C q false _ HC1.out hn hq HK).mono ?_
    rintro e w2 ⟨rfl, rfl⟩
    go_wp2
    refine bodyPost_ret (v := .tuple #[.agg #[.int .i64 r0.i, .int .i64 r0.s, .int .i64 r0.n], .bool false]) (by simp [results, Try.results54, go_sem, r0, e0, e1, e2]) rfl ⟨by rw [HN.out]; rfl, ?_⟩
    repeat (first | (with_reducible exact HB1.out) | (refine Below.setCell ?_ (by first | (simp; done) | (simp; omega)) _))
  have HV : Hid (askB f st ws = true) := Lib.hid (by unfold askB; rw [HCPY.out, hsk]; rfl)
  have HK := Lib.hid hsk; clear hsk
  by_cases h0 : 0 < ws.length
  rotate_left
  · have HN := Lib.hid (sc_no (f := f) (st := st) (ws := ws) (.inr h0))
    have hz : ((ws.length : Int) == 0) = true := by rw [beq_iff_eq]; omega
    obtain ⟨e0, e1, e2⟩ := HR1.out.cells
    have f0 := Own.free HR1.out 0; have f1 := Own.free HR1.out 1; have f2 := Own.free HR1.out 2
    go_wp2_with fail
    refine (implStock_is f A c st C q true _ HC1.out hn hq HK).mono ?_
    rintro e w2 ⟨rfl, rfl⟩
    go_wp2
    refine bodyPost_ret (v := .tuple #[.agg #[.int .i64 r0.i, .int .i64 r0.s, .int .i64 r0.n], .bool false]) (by simp [results, Try.results54, go_sem, r0, e0, e1, e2]) rfl ⟨by rw [HN.out]; rfl, ?_⟩
    repeat (first | (with_reducible exact HB1.out) | (refine Below.setCell ?_ (by first | (simp; done) | (simp; omega)) _))
  have hz : ((ws.length : Int) == 0) = false := by rw [beq_eq_false_iff_ne]; omega
  have HSC := Lib.hid (sc_yes HV.out h0)
  obtain ⟨hNl, hSl, h32, h1l, hNb, hSb⟩ := need_stock HV.out
  have HPOS : Hid (0 < (supTo (needF f ws) st (needF f ws).length).length) := Lib.hid (by
    obtain ⟨i, hi, hne⟩ := need_pos HCPY.out h0
    exact supTo_pos hne _ (by omega))
  have HSB := Lib.hid (sup_bound HV.out)
  have hlen := supTo_len (needF f ws) st (needF f ws).length
  have hNs : (needF f ws).length ≤ st.length := by omega
  have hs32 : st.length ≤ 32 := by omega
  have hN32 : (needF f ws).length ≤ 32 := by omega
  clear hNb hSb hNl hSl
  go_wp2_with fail
  refine (implStock_is f A c st C q true _ HC1.out hn hq HK).mono ?_
  rintro e w2 ⟨rfl, rfl⟩
  obtain ⟨N, hN⟩ : ∃ N, N = needF f ws := ⟨_, rfl⟩
  rw [← hN] at HI HSC HPOS HSB hlen hNs hN32 ⊢
  clear hN
  go_wp2_with fail
  refine (tabOf_any N st A2 C _ q _ _ HI.out hbx HC1.out hNs hs32).mono ?_
  rintro e w3 ⟨v, rfl, hb3, ho3⟩
  obtain ⟨b, c3, rfl, hb0, hra⟩ := own_rows ho3 HPOS.out
  have HB3 := Lib.hid (HB1.out.trans (hb3.mono HB1.out.size))
  have HR3 := Lib.hid (HR1.out.next hb3)
  have HRA := Lib.hid hra
  have HLM := Lib.hid (HSC.out.trans (lastMin_some HPOS.out))
  clear hb3 ho3 hra hbx hbxl HX1 HR1 HB1 HC1 HI
  obtain ⟨rows, hrows⟩ : ∃ rows, rows = supTo N st N.length := ⟨_, rfl⟩
  rw [← hrows] at HRA HPOS HSB hlen HLM ⊢
  clear hrows HSC
  go_wp2_with fail
  refine (minFunc_any rows b c3 _ HRA.out HPOS.out (by omega) HSB.out).mono ?_
  rintro e w4 ⟨rfl, hb4⟩
  have HB4 := Lib.hid (HB3.out.trans (hb4.mono HB3.out.size))
  have HR4 := Lib.hid (HR3.out.next hb4)
  obtain ⟨e0, e1, e2⟩ := HR4.out.cells
  have f0 := Own.free HR4.out 0; have f1 := Own.free HR4.out 1; have f2 := Own.free HR4.out 2
  generalize minK rows (rows.length - 1) = m at *
  clear hb4
  go_wp2
  refine bodyPost_ret (v := .tuple #[.agg #[.int .i64 m.i, .int .i64 m.s, .int .i64 m.n], .bool true]) (by simp [results, Try.results54, go_sem, e0, e1, e2]) rfl ⟨by rw [HLM.out]; rfl, ?_⟩
  repeat (first | (with_reducible exact HB4.out) | (refine Below.setCell ?_ (by first | (simp; done) | (simp; omega)) _))
end Go.Proofs.Ytdomccamkiplcaa
