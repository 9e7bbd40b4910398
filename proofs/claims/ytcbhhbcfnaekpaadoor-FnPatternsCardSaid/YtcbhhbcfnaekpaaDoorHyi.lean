/-
  The contracts of impl.readPatterns, spec.ValuesOf and impl.ValuesOf.
-/
import Derived.Test.YtcbhhbcfnaekpaaDoorHyg
import Derived.Test.YtcbhhbcfnaekpaaDoorHyh
import Derived.Test.YtcbhhbcfnaekpaaDoorHyr
namespace Go.Proofs.YtcbhhbcfnaekpaaDoor
open Go.RowKit
set_option linter.unusedVariables false

theorem readPattern_yes (s : ByteArray) (w : World) (hs : s.size ≤ 1048576) (h : Hid (ptB s = true)) :
    Calls Tryd.prog 79 #[.string s] w fun e w' => ∃ A c, e = .returned (.tuple #[.agg #[.string (ptT s), .slice A (ptVs s).length c], .bool true]) ∧ Below w.heap.size w w' ∧ w'.ownsRow w.heap.size 3 1 (.slice A (ptVs s).length c) (ptVs s).length (intsZ (ptVs s)) := by
  refine (readPattern_any s w hs).mono ?_
  rintro e w' ⟨L, A, n, c, rfl, hb, ho⟩
  obtain ⟨e1, ho2⟩ := ho h.out
  subst e1
  obtain ⟨A', c', hv⟩ := own_shape ho2
  injection hv with h1 h2 h3
  subst h2
  exact ⟨A, c, by rw [h.out]; rfl, hb, ho2⟩
theorem readPattern_no (s : ByteArray) (w : World) (hs : s.size ≤ 1048576) (h : Hid (ptB s = false)) :
    Calls Tryd.prog 79 #[.string s] w fun e w' => ∃ x A n c, e = .returned (.tuple #[.agg #[.string x, .slice A n c], .bool false]) ∧ Below w.heap.size w w' := by
  refine (readPattern_any s w hs).mono ?_
  rintro e w' ⟨L, A, n, c, rfl, hb, ho⟩
  exact ⟨_, A, n, c, by rw [h.out], hb⟩
theorem IntsIn.set {w : World} {A : Option Addr} {l : List Int} {b i : Nat} (h : IntsIn w A l) (hA : ∀ a, A = some a → a.block ≠ b) (u : Value) : IntsIn (w.setCell ⟨b, i, none⟩ u) A l := fun hn => by
  obtain ⟨g, off, rfl, h1, h2⟩ := h hn
  have hne : g ≠ b := hA _ rfl
  refine ⟨g, off, rfl, by simpa using h1, fun k hk => ?_⟩
  rw [← h2 k hk]
  simp [World.cell?, set_other hne]
/-- Block b: the first k of n patterns. -/
def RowP (w : World) (b n k : Nat) (ps : List ByteArray) : Prop := ∃ cs : Array Value, w.heap[b]? = some (.cells cs 83 (0, 0)) ∧ cs.size = n * 2 ∧
  ∀ j (h : j < ps.length), j < k → cs[j * 2]? = some (.string (ptT ps[j])) ∧ ∃ A c, cs[j * 2 + 1]? = some (.slice A (ptVs ps[j]).length c) ∧ IntsIn w A (ptVs ps[j]) ∧ ∀ a, A = some a → b < a.block ∧ a.block < w.heap.size
theorem RowP.lt {w : World} {b n k : Nat} {ps : List ByteArray} (h : RowP w b n k ps) : b < w.heap.size := by obtain ⟨cs, h1, _⟩ := h; exact lt_of_heap h1
theorem RowP.next {w w' : World} {b n k : Nat} {ps : List ByteArray} (h : RowP w b n k ps) (hb : Below w.heap.size w w') : RowP w' b n k ps := by
  obtain ⟨cs, h1, h2, h3⟩ := h
  refine ⟨cs, (hb.block b (lt_of_heap h1)).trans h1, h2, fun j hj hk => ?_⟩
  obtain ⟨q1, A, c, q2, q3, q4⟩ := h3 j hj hk
  exact ⟨q1, A, c, q2, q3.below hb (Nat.le_refl _), fun a e => ⟨(q4 a e).1, Nat.lt_of_lt_of_le (q4 a e).2 hb.size⟩⟩
theorem RowP.at_ {w : World} {b n k : Nat} {ps : List ByteArray} (h : RowP w b n k ps) {j : Nat} (hj : j < n) : (∃ u, w.cell? ⟨b, j * 2, none⟩ = some u) ∧ (∃ u, w.cell? ⟨b, j * 2 + 1, none⟩ = some u) ∧ w.frozen? ⟨b, j * 2, none⟩ = false ∧ w.frozen? ⟨b, j * 2 + 1, none⟩ = false := by
  obtain ⟨cs, h1, h2, _⟩ := h
  refine ⟨⟨cs[j * 2]'(by omega), ?_⟩, ⟨cs[j * 2 + 1]'(by omega), ?_⟩, free_of_heap h1 _, free_of_heap h1 _⟩
  · rw [cell_of_heap h1]; exact Array.getElem?_eq_getElem _
  · rw [cell_of_heap h1]; exact Array.getElem?_eq_getElem _
theorem RowP.step {w : World} {b n k : Nat} {ps : List ByteArray} (h : RowP w b n k ps) (hk : k < ps.length) (hn : n = ps.length) {A : Option Addr} {c : Nat} (hA : IntsIn w A (ptVs ps[k])) (ha : ∀ a, A = some a → b < a.block ∧ a.block < w.heap.size) :
    RowP ((w.setCell ⟨b, k * 2, none⟩ (.string (ptT ps[k]))).setCell ⟨b, k * 2 + 1, none⟩ (.slice A (ptVs ps[k]).length c)) b n (k + 1) ps := by
  obtain ⟨cs, h1, h2, h3⟩ := h
  refine ⟨_, heap_set (heap_set h1 _) _, by simpa using h2, fun j hj hjk => ?_⟩
  by_cases e : j = k
  · subst e
    have l1 : j * 2 < cs.size := by omega
    have l2 : j * 2 + 1 < cs.size := by omega
    refine ⟨by simp [l1], A, c, by simp [l2], ?_, fun a e => ⟨(ha a e).1, by simpa using (ha a e).2⟩⟩
    exact (hA.set (fun a e => by have := (ha a e).1; omega) _).set (fun a e => by have := (ha a e).1; omega) _
  · obtain ⟨q1, A', c', q2, q3, q4⟩ := h3 j hj (by omega)
    refine ⟨?_, A', c', ?_, (q3.set (fun a e => by have := (q4 a e).1; omega) _).set (fun a e => by have := (q4 a e).1; omega) _, fun a e => ⟨(q4 a e).1, by simpa using (q4 a e).2⟩⟩
    · rw [Array.getElem?_setIfInBounds_ne (by omega), Array.getElem?_setIfInBounds_ne (by omega)]; exact q1
    · rw [Array.getElem?_setIfInBounds_ne (by omega), Array.getElem?_setIfInBounds_ne (by omega)]; exact q2
theorem infoPat : (Tryd.prog.info? 83).map (fun i => (i.zero, i.size, i.bytes)) = some (some (.agg #[.string .empty, .slice none 0 0]), 2, 40) := by kernel_rfl
theorem run_makePat (n : Nat) (hn : n ≤ 1048576) (w : World) :
    (Instr.makeSlice 79 (.int .i64 (n : Int)) (.int .i64 (n : Int))).run Tryd.prog w = .ok (.slice (some ⟨w.heap.size, 0, none⟩) n n) (w.alloc (.cells (madeCells #[.string .empty, .slice none 0 0] (n * 2)) 83)) := by
  obtain ⟨i0, hi, hz0, hz1, hz2⟩ := info_parts infoPat
  have h := run_make (P := Tryd.prog) w 79 83 i0 _ Tryd.underlying79 hi hz0 .i64 .i64 (n : Int) (n : Int) (by omega) (Int.le_refl _) (by rw [hz2]; omega) (by omega)
  rw [hz1, Int.toNat_natCast] at h
  exact h
/-- What impl.readPatterns answers. -/
def RdPatsTo (ps : List ByteArray) (w w' : World) (e : Ending) : Prop := Below w.heap.size w w' ∧ ((patsB ps = false ∧ e = .returned (.tuple #[.slice none 0 0, .bool false])) ∨
  (patsB ps = true ∧ ∃ b, w.heap.size ≤ b ∧ e = .returned (.tuple #[.slice (some ⟨b, 0, none⟩) ps.length ps.length, .bool true]) ∧ RowP w' b ps.length ps.length ps))
set_option maxRecDepth 100000 in
set_option maxHeartbeats 2000000 in
theorem readPatterns_any (ps : List ByteArray) (A : Option Addr) (c : Nat) (w : World) (hf : StrsIn w A ps) (ho : StrsLe ps) (hn : ps.length ≤ 1048576) :
    Calls Tryd.prog 65 #[.slice A ps.length c] w fun e w' => RdPatsTo ps w w' e := by
  have HF := Lib.hid hf; have HO := Lib.hid ho; clear hf ho
  by_cases h20 : (20 : Int) < ps.length
  · have HN : Hid (patsB ps = false) := Lib.hid (by unfold patsB; rw [decide_eq_false (by omega)]; simp)
    go_enter Tryd.func65, Tryd.ntmps65
    go_wp2
    go_ret2
    exact ⟨Below.refl _ _, .inl ⟨HN.out, rfl⟩⟩
  have hmk := run_makePat ps.length hn
  have hst : RowP (w.alloc (.cells (madeCells #[.string .empty, .slice none 0 0] (ps.length * 2)) 83)) w.heap.size ps.length 0 ps := ⟨_, heap_new _ _, by rw [size_madeCells], fun j _ hj => by omega⟩
  have HST := Lib.hid hst; clear hst
  generalize hz : madeCells #[.string .empty, .slice none 0 0] (ps.length * 2) = cs0 at *
  clear hz
  go_enter Tryd.func65, Tryd.ntmps65
  go_wp2
  go_loopw [17] (fun i wr => ∃ (k : Nat), k ≤ ps.length ∧ i = .int .i64 k ∧ Hid (patsA (ps.take k) = true) ∧ Hid (RowP wr w.heap.size ps.length k ps) ∧ Hid (Below w.heap.size w wr)) (fun i _ => ps.length - (intOf i).toNat)
  case atStart => exact ⟨0, Nat.zero_le _, rfl, Lib.hid rfl, HST, Lib.hid ((Below.refl _ _).alloc (Nat.le_refl _) _)⟩
  case round =>
    clear HST hmk
    obtain ⟨k, hk, rfl, HS, HR, HB⟩ := hrel
    by_cases hlt : k < ps.length
    · obtain ⟨b, off, hA, hbl, hc⟩ := HF.out (by omega)
      subst hA
      have hc0 := (HB.out.cell (p := ⟨b, off + k, none⟩) hbl).trans (hc k hlt)
      clear hc
      have hok := HO.out k hlt
      cases hp : ptB ps[k]
      · have HP := Lib.hid hp
        have HN : Hid (patsB ps = false) := Lib.hid (by unfold patsB; rw [patsA_no hlt hp]; rfl)
        clear hp
        go_wp2_with fail
        refine (readPattern_no _ _ hok HP).mono ?_
        rintro e w1 ⟨x1, A1, n1, c1, rfl, hb1⟩
        have HB1 := Lib.hid (HB.out.trans (hb1.mono HB.out.size))
        have HB2 := Lib.hid (HB1.out.alloc HB1.out.size (.cells #[.string x1, .slice A1 n1 c1] 83))
        clear hb1
        go_wp2
        go_ret2
        exact ⟨HB2.out, .inl ⟨HN.out, rfl⟩⟩
      · have HP := Lib.hid hp
        have HN := Lib.hid (patsA_step hlt HS.out hp)
        clear hp
        go_wp2_with fail
        refine (readPattern_yes _ _ hok HP).mono ?_
        rintro e w1 ⟨A1, c1, rfl, hb1, ho1⟩
        have HB1 := Lib.hid (HB.out.trans (hb1.mono HB.out.size))
        have HR1 := Lib.hid (HR.out.next hb1)
        have HA1 := Lib.hid (own_in ho1)
        have hlw := HR.out.lt
        have HAP : Hid (∀ a, A1 = some a → w.heap.size < a.block ∧ a.block < w1.heap.size) := Lib.hid (fun a e => by
          subst e
          have h1 := ho1.lt a.block rfl
          omega)
        have hR2 := HR1.out.step hlt rfl (c := c1) HA1.out HAP.out
        have HR3 := Lib.hid (hR2.next ((Below.refl _ _).alloc (Nat.le_refl _) (.cells #[.string (ptT ps[k]), .slice A1 (ptVs ps[k]).length c1] 83)))
        have hB2 := (HB1.out.setCell (p := ⟨w.heap.size, k * 2, none⟩) (Nat.le_refl _) (.string (ptT ps[k]))).setCell (p := ⟨w.heap.size, k * 2 + 1, none⟩) (Nat.le_refl _) (.slice A1 (ptVs ps[k]).length c1)
        have HB3 := Lib.hid (hB2.alloc hB2.size (.cells #[.string (ptT ps[k]), .slice A1 (ptVs ps[k]).length c1] 83))
        obtain ⟨⟨u0, hu0⟩, ⟨u1, hu1⟩, hf0, hf1⟩ := HR1.out.at_ hlt
        have hl1 := HR1.out.lt
        clear hb1 ho1 HA1 HAP hR2 HR hB2 HB
        generalize ptT ps[k] = x1 at *
        generalize (ptVs ps[k]).length = n1 at *
        go_wp2
        go_roundw
        case rel => exact ⟨k + 1, by omega, by go_num, HN, by first | exact HR3 | (refine Lib.hid ?_; exact HR3.out), by first | exact HB3 | (refine Lib.hid ?_; exact HB3.out)⟩
        case measure => simp [intOf]; omega
    · obtain rfl : k = ps.length := by omega
      have HPB : Hid (patsB ps = true) := Lib.hid (by have h := HS.out; rw [List.take_length] at h; unfold patsB; rw [h, decide_eq_true (by omega)]; rfl)
      go_wp2
      go_ret2
      exact ⟨HB.out, .inr ⟨HPB.out, _, Nat.le_refl _, rfl, HR.out⟩⟩
end Go.Proofs.YtcbhhbcfnaekpaaDoor
