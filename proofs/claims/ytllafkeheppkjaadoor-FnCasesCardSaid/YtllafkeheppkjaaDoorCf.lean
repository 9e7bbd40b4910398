/-
  The contracts of spec.caFind, spec.caAsked, spec.BoxOf, strings.Compare's use in impl.indexOfBox, and impl.BoxOf, impl.boxesOfCodes: where the box of a Code is.
-/
import Derived.Test.YtllafkeheppkjaaDoorIc
namespace Go.Proofs.YtllafkeheppkjaaDoor
open Go.RowKit
set_option linter.unusedVariables false

theorem caI_drop (l : List Bx) (c : ByteArray) (k : Nat) (h : k < l.length) : findI ((sf l).drop k) c k = if l[k].cod = c then (k : Int) else findI ((sf l).drop (k + 1)) c (k + 1) := by
  rw [findI_drop (sf l) c k (by rw [sf_len]; exact h), sf_get]

theorem caFind_any (l : List Bx) (A : Option Addr) (cap : Nat) (s : ByteArray) (w : World) (hf : BxsIn w A l) (hn : l.length ≤ 1048576) :
    Calls Tryd.prog 60 #[.slice A l.length cap, .string s] w fun e w' => e = .returned (.int .i64 (caI l s)) ∧ Below w.heap.size w w' := by
  have HF := Lib.hid hf; clear hf
  go_enter Tryd.func60, Tryd.ntmps60
  go_wp2
  go_loopw [9] (fun i wr => ∃ (k : Nat), k ≤ l.length ∧ i = .int .i64 k ∧ caI l s = findI ((sf l).drop k) s k ∧ Below w.heap.size w wr) (fun i _ => l.length - (intOf i).toNat)
  case atStart => exact ⟨0, Nat.zero_le _, rfl, rfl, Below.refl _ _⟩
  case round =>
    obtain ⟨k, hk, rfl, hs, hb⟩ := hrel
    have HS := Lib.hid hs; clear hs
    by_cases hlt : k < l.length
    · obtain ⟨b, off, rfl, hbl, hc⟩ := HF.out (by omega)
      obtain ⟨hc0, hc1, hc2, hc3⟩ := hc k hlt
      clear hc
      rw [← hb.cell (p := ⟨b, off + k * 4, none⟩) hbl] at hc0
      rw [← hb.cell (p := ⟨b, off + k * 4 + 1, none⟩) hbl] at hc1
      rw [← hb.cell (p := ⟨b, off + k * 4 + 2, none⟩) hbl] at hc2
      rw [← hb.cell (p := ⟨b, off + k * 4 + 3, none⟩) hbl] at hc3
      have HD := Lib.hid (caI_drop l s k hlt)
      have hb' := Lib.hid (hb.alloc hb.size (.cells #[.string l[k].cod, .int .i64 l[k].row, .int .i64 l[k].col, .int .i64 l[k].cnt] 40))
      clear hb
      by_cases he : l[k].cod = s
      · have ht := str_eq he
        have HE := Lib.hid he; clear he
        go_wp2
        go_ret
        exact ⟨ret_int (by rw [HS.out, HD.out, if_pos HE.out]), hb'.out⟩
      · have ht := str_neb he
        have HE := Lib.hid he; clear he
        go_wp2
        go_roundw
        case rel => exact ⟨k + 1, by omega, by go_num, by rw [HS.out, HD.out, if_neg HE.out], hb'.out⟩
        case measure => simp [intOf]; omega
    · obtain rfl : k = l.length := by omega
      go_wp2
      go_ret
      exact ⟨ret_int (by rw [HS.out, List.drop_of_length_le (by rw [sf_len]; omega)]; rfl), hb⟩

theorem caGood_is (l : List Bx) (v : Bool) (A : Option Addr) (c : Nat) (w : World) (hf : BxsIn w A l) (hn : l.length ≤ 1048576) (ho : BxsOk l) (hcap : l.length ≤ c) (h : Hid (caseB l = v)) :
    Calls Tryd.prog 30 #[.slice A l.length c] w fun e w' => e = .returned (.bool v) ∧ Below w.heap.size w w' := by
  rw [← h.out]; exact caGood_any l A c w hf hn ho hcap
theorem implIsCase_is (l : List Bx) (v : Bool) (A : Option Addr) (c : Nat) (w : World) (hf : BxsIn w A l) (hn : l.length ≤ 1048576) (ho : BxsOk l) (h : Hid (caseB l = v)) :
    Calls Tryd.prog 16 #[.slice A l.length c] w fun e w' => e = .returned (.bool v) ∧ Below w.heap.size w w' := by
  rw [← h.out]; exact implIsCase_any l A c w hf hn ho

/-- The answer of BoxOf. -/
noncomputable def boR (l : List Bx) (c : ByteArray) : Option Int := if caseB l = true ∧ 0 ≤ caI l c then some (caI l c) else none

theorem specBoxOf_any (l : List Bx) (A : Option Addr) (cap : Nat) (s : ByteArray) (w : World) (hf : BxsIn w A l) (hn : l.length ≤ 1048576) (ho : BxsOk l) (hcap : l.length ≤ cap) :
    Calls Tryd.prog 27 #[.slice A l.length cap, .string s] w fun e w' => e = .returned (.tuple #[.int .i64 ((boR l s).getD 0), .bool (boR l s).isSome]) ∧ Below w.heap.size w w' := by
  have HF := Lib.hid hf; clear hf
  have HO := Lib.hid ho; clear ho
  go_enter Tryd.func27, Tryd.ntmps27
  go_wp2_with fail
  refine (caFind_any l A cap s _ HF.out hn).mono ?_
  rintro e w1 ⟨rfl, hb1⟩
  have HF1 := Lib.hid (HF.out.next hb1)
  cases hv : caseB l
  · have HE : Hid (boR l s = none) := Lib.hid (by unfold boR; rw [hv]; simp)
    have HV := Lib.hid hv; clear hv
    go_wp2_with fail
    refine (caGood_is l _ A cap _ HF1.out hn HO.out hcap HV).mono ?_
    rintro e w2 ⟨rfl, hb2⟩
    go_wp2
    go_ret2
    exact ⟨by rw [HE.out]; rfl, hb1.trans (hb2.mono hb1.size)⟩
  · by_cases hi : 0 ≤ caI l s
    · have HE : Hid (boR l s = some (caI l s)) := Lib.hid (by unfold boR; rw [if_pos ⟨hv, hi⟩])
      have HV := Lib.hid hv; clear hv
      go_wp2_with fail
      refine (caGood_is l _ A cap _ HF1.out hn HO.out hcap HV).mono ?_
      rintro e w2 ⟨rfl, hb2⟩
      have hi' : ¬ caI l s < 0 := by omega
      go_wp2
      go_ret2
      exact ⟨by rw [HE.out]; rfl, hb1.trans (hb2.mono hb1.size)⟩
    · have HE : Hid (boR l s = none) := Lib.hid (by unfold boR; rw [if_neg (fun h => hi h.2)])
      have HV := Lib.hid hv; clear hv
      go_wp2_with fail
      refine (caGood_is l _ A cap _ HF1.out hn HO.out hcap HV).mono ?_
      rintro e w2 ⟨rfl, hb2⟩
      have hi' : caI l s < 0 := by omega
      go_wp2
      go_ret2
      exact ⟨by rw [HE.out]; rfl, hb1.trans (hb2.mono hb1.size)⟩

theorem clos2_any (b : Bx) (c : ByteArray) (w : World) :
    Calls Tryd.prog 68 #[.agg #[.string b.cod, .int .i64 b.row, .int .i64 b.col, .int .i64 b.cnt], .string c] w fun e w' => e = .returned (.int .i64 (cmpF b.cod c)) ∧ Below w.heap.size w w' := by
  go_enter Tryd.func68, Tryd.ntmps68
  go_wp2_with fail
  refine (compare_any _ _ _).mono ?_
  rintro e w' ⟨rfl, rfl⟩
  go_wp2
  go_ret
  exact ⟨rfl, (Below.refl _ _).alloc (Nat.le_refl _) _⟩
theorem codeB0_sf {l : List Bx} {i : Nat} (h : i < l.length) : codeB0 (sf l) i = l[i].cod := by
  rw [codeB0_of (by rw [sf_len]; exact h), sf_get]

set_option maxHeartbeats 1000000 in
set_option maxRecDepth 100000 in
theorem search2_any (l : List Bx) (A : Option Addr) (cap : Nat) (s : ByteArray) (w : World) (hf : BxsIn w A l) (hC : CaseOk l) :
    Calls Tryd.prog 67 #[.slice A l.length cap, .string s, .func (.func 68) #[] #[]] w fun e w' => FoundAt (sf l) s w w' e := by
  have HS := Lib.hid hf; clear hf
  have hn : l.length ≤ 32 := hC.2.2
  have hsl := sf_len l
  have HFF := Lib.hid hC.font; clear hC
  have HL := Lib.hid hsl; clear hsl
  go_enter Tryd.func67, Tryd.ntmps67
  go_wp2
  go_loopw [9, 10] (fun p h wr => ∃ (i j : Nat), i ≤ j ∧ j ≤ l.length ∧ p = .int .i64 i ∧ h = .int .i64 j ∧ (∀ m, m < i → cmpF (codeB0 (sf l) m) s < 0) ∧ (∀ m, j ≤ m → m < (sf l).length → ¬ cmpF (codeB0 (sf l) m) s < 0) ∧ Below w.heap.size w wr) (fun p h _ => (intOf h - intOf p).toNat)
  case atStart => exact ⟨0, l.length, Nat.zero_le _, Nat.le_refl _, rfl, rfl, fun m h => absurd h (by omega), fun m h1 h2 => absurd h1 (by have := HL.out; omega), Below.refl _ _⟩
  case round =>
    obtain ⟨i, j, hij, hj, rfl, rfl, h1, h2, hb⟩ := hrel
    have H1 := Lib.hid h1; have H2 := Lib.hid h2
    clear h1 h2
    by_cases hlt : i < j
    · have hlt' : (i : Int) < (j : Int) := by omega
      obtain ⟨b, off, rfl, hbl, hc⟩ := HS.out (by omega)
      have hml : (i + j) / 2 < l.length := by omega
      obtain ⟨hc0, hc1, hc2, hc3⟩ := hc ((i + j) / 2) hml
      clear hc
      rw [← hb.cell (p := ⟨b, off + ((i + j) / 2) * 4, none⟩) hbl] at hc0
      rw [← hb.cell (p := ⟨b, off + ((i + j) / 2) * 4 + 1, none⟩) hbl] at hc1
      rw [← hb.cell (p := ⟨b, off + ((i + j) / 2) * 4 + 2, none⟩) hbl] at hc2
      rw [← hb.cell (p := ⟨b, off + ((i + j) / 2) * 4 + 3, none⟩) hbl] at hc3
      have HCB := Lib.hid (codeB0_sf hml)
      go_wp2_with fail
      refine (clos2_any l[(i + j) / 2] _ _).mono ?_
      rintro e w1 ⟨rfl, hb1⟩
      have hb' := hb.trans (hb1.mono hb.size)
      clear hb hb1 hc0 hc1 hc2 hc3
      by_cases hless : cmpF l[(i + j) / 2].cod s < 0
      · have HLO : Hid (∀ m, m < (i + j) / 2 + 1 → cmpF (codeB0 (sf l) m) s < 0) := by
          show ∀ m, _
          intro m hm
          exact cmp_mono (k := (i + j) / 2) HFF.out (by omega) (by rw [HL.out]; exact hml) (by rw [HCB.out]; exact hless)
        clear HCB
        generalize cmpF l[(i + j) / 2].cod s = q at *
        go_wp2
        go_roundw
        case rel => exact ⟨(i + j) / 2 + 1, j, by omega, hj, by go_num, rfl, HLO.out, fun m h1 h2 => by have := H2.out m h1 h2; omega, hb'⟩
        case measure => simp [intOf]; omega
      · have HHI : Hid (∀ m, (i + j) / 2 ≤ m → m < (sf l).length → ¬ cmpF (codeB0 (sf l) m) s < 0) := by
          show ∀ m, _
          intro m hm hmn h
          exact hless (by rw [← HCB.out]; exact cmp_mono HFF.out hm hmn h)
        clear HCB
        generalize cmpF l[(i + j) / 2].cod s = q at *
        go_wp2
        go_roundw
        case rel => exact ⟨i, (i + j) / 2, by omega, by omega, rfl, by go_num, H1.out, fun m h1 h2 => by have := HHI.out m h1 h2; omega, hb'⟩
        case measure => simp [intOf]; omega
    · obtain rfl : i = j := by omega
      have HP : Hid (IsPlace (sf l) s i) := ⟨by rw [HL.out]; exact hj, H1.out, fun m h1 h2 => by have := H2.out m h1 h2; omega⟩
      have hlt' : ¬ (i : Int) < (i : Int) := by omega
      by_cases hin : i < l.length
      · obtain ⟨b, off, rfl, hbl, hc⟩ := HS.out (by omega)
        obtain ⟨hc0, hc1, hc2, hc3⟩ := hc i hin
        clear hc
        rw [← hb.cell (p := ⟨b, off + i * 4, none⟩) hbl] at hc0
        rw [← hb.cell (p := ⟨b, off + i * 4 + 1, none⟩) hbl] at hc1
        rw [← hb.cell (p := ⟨b, off + i * 4 + 2, none⟩) hbl] at hc2
        rw [← hb.cell (p := ⟨b, off + i * 4 + 3, none⟩) hbl] at hc3
        have HCB := Lib.hid (codeB0_sf hin)
        have hin' : (i : Int) < (l.length : Int) := by omega
        go_wp2_with fail
        refine (clos2_any l[i] _ _).mono ?_
        rintro e w1 ⟨rfl, hb1⟩
        have hb' := hb.trans (hb1.mono hb.size)
        clear hb hb1 hc0 hc1 hc2 hc3
        by_cases heq : l[i].cod = s
        · have hz : (cmpF l[i].cod s == 0) = true := by rw [beq_iff_eq, cmp_zero']; exact heq
          have HE : Hid (decide (i < (sf l).length ∧ codeB0 (sf l) i = s) = true) := decide_eq_true ⟨by rw [HL.out]; exact hin, by rw [HCB.out]; exact heq⟩
          clear heq HCB
          generalize cmpF l[i].cod s = q at *
          go_wp2
          go_ret2
          exact ⟨i, HP.out, by rw [HE.out]; rfl, hb'⟩
        · have hz : (cmpF l[i].cod s == 0) = false := by rw [beq_eq_false_iff_ne]; exact fun h => heq (cmp_zero'.1 h)
          have HE : Hid (decide (i < (sf l).length ∧ codeB0 (sf l) i = s) = false) := decide_eq_false (fun h => heq (by rw [← HCB.out]; exact h.2))
          clear heq HCB
          generalize cmpF l[i].cod s = q at *
          go_wp2
          go_ret2
          exact ⟨i, HP.out, by rw [HE.out]; rfl, hb'⟩
      · have hin' : ¬ (i : Int) < (l.length : Int) := by omega
        have HE : Hid (decide (i < (sf l).length ∧ codeB0 (sf l) i = s) = false) := decide_eq_false (fun h => hin (by rw [← HL.out]; exact h.1))
        go_wp2
        go_ret2
        exact ⟨i, HP.out, by rw [HE.out]; rfl, hb⟩

/-- Where the box of a Code is: its index and true, or any index that a slice of these can have and false. -/
theorem indexOfBox_any (l : List Bx) (A : Option Addr) (cap : Nat) (s : ByteArray) (w : World) (hf : BxsIn w A l) (hC : CaseOk l) :
    Calls Tryd.prog 43 #[.slice A l.length cap, .string s] w fun e w' => ∃ i : Nat, i ≤ l.length ∧ (0 ≤ caI l s → caI l s = i) ∧ e = .returned (.tuple #[.int .i64 (i : Int), .bool (decide (0 ≤ caI l s))]) ∧ Below w.heap.size w w' := by
  have HS := Lib.hid hf; clear hf
  have HC := Lib.hid hC; clear hC
  go_enter Tryd.func43, Tryd.ntmps43
  go_wp2_with fail
  refine (search2_any l A cap s _ HS.out HC.out).mono ?_
  intro e w1 hfo
  obtain ⟨i, hp, rfl, hb⟩ := hfo
  have hpf := place_find HC.out.font hp
  have hle : i ≤ l.length := by have := hp.1; rwa [sf_len] at this
  have hd : decide (i < (sf l).length ∧ codeB0 (sf l) i = s) = decide (0 ≤ caI l s) := by
    show _ = decide (0 ≤ findI (sf l) s 0)
    rw [hpf]
    split
    · rename_i h; rw [decide_eq_true h]; simp
    · rename_i h; rw [decide_eq_false h]; simp
  have hv : 0 ≤ caI l s → caI l s = i := by
    show 0 ≤ findI (sf l) s 0 → findI (sf l) s 0 = i
    rw [hpf]
    split
    · intro _; rfl
    · intro h; omega
  have HV := Lib.hid hv; clear hv hp hpf
  rw [hd]
  clear hd
  generalize hq : decide (0 ≤ caI l s) = d
  have HQ := Lib.hid hq; clear hq
  go_wp2
  go_ret2
  exact ⟨i, hle, HV.out, by rw [HQ.out]; rfl, hb⟩

theorem implBoxOf_any (l : List Bx) (A : Option Addr) (cap : Nat) (s : ByteArray) (w : World) (hf : BxsIn w A l) (hn : l.length ≤ 1048576) (ho : BxsOk l) :
    Calls Tryd.prog 18 #[.slice A l.length cap, .string s] w fun e w' => e = .returned (.tuple #[.int .i64 ((boR l s).getD 0), .bool (boR l s).isSome]) ∧ Below w.heap.size w w' := by
  have HF := Lib.hid hf; clear hf
  have HO := Lib.hid ho; clear ho
  go_enter Tryd.func18, Tryd.ntmps18
  cases hv : caseB l
  · have HE : Hid (boR l s = none) := Lib.hid (by unfold boR; rw [hv]; simp)
    have HV := Lib.hid hv; clear hv
    go_wp2_with fail
    refine (implIsCase_is l _ A cap _ HF.out hn HO.out HV).mono ?_
    rintro e w1 ⟨rfl, hb1⟩
    go_wp2
    go_ret2
    exact ⟨by rw [HE.out]; rfl, hb1⟩
  · have HC := Lib.hid (caseB_iff.1 hv)
    have HV := Lib.hid hv; clear hv
    go_wp2_with fail
    refine (implIsCase_is l _ A cap _ HF.out hn HO.out HV).mono ?_
    rintro e w1 ⟨rfl, hb1⟩
    have HF1 := Lib.hid (HF.out.next hb1)
    go_wp2_with fail
    refine (indexOfBox_any l A cap s _ HF1.out HC.out).mono ?_
    rintro e w2 ⟨i, hi, hv, rfl, hb2⟩
    have hb := hb1.trans (hb2.mono hb1.size)
    clear hb1 hb2
    by_cases h0 : 0 ≤ caI l s
    · have HE : Hid (boR l s = some (i : Int)) := Lib.hid (by unfold boR; rw [if_pos ⟨HV.out, h0⟩, hv h0])
      rw [decide_eq_true h0]
      clear hv
      go_wp2
      go_ret2
      exact ⟨by rw [HE.out]; rfl, hb⟩
    · have HE : Hid (boR l s = none) := Lib.hid (by unfold boR; rw [if_neg (fun h => h0 h.2)])
      rw [decide_eq_false h0]
      clear hv
      go_wp2
      go_ret2
      exact ⟨by rw [HE.out]; rfl, hb⟩
end Go.Proofs.YtllafkeheppkjaaDoor
