/-
  The contracts of spec.WithSort and impl.WithSort: the font with one more sort, in memory of the call's own.
-/
import Derived.Test.YtiihhilhiknckaaGreatDoorWo
import Derived.Test.YtiihhilhiknckaaGreatDoorWsp
import Derived.Test.YtiihhilhiknckaaGreatDoorKept
import Derived.Test.YtiihhilhiknckaaGreatDoorHeld
namespace Go.Proofs.YtiihhilhiknckaaGreatDoor
open Go.RowKit
set_option linter.unusedVariables false

set_option maxHeartbeats 1000000 in
set_option maxRecDepth 100000 in
theorem implWs_any (f : List (ByteArray × Int)) (A : Option Addr) (cap : Nat) (s : ByteArray) (z : Int) (lo : Nat) (w : World) (hf : SortsIn w lo A f) (hn : f.length ≤ 1048576) (ho : CodesOk f) (hcap : f.length ≤ cap) (hs : s.size ≤ maxLen) :
    Calls Tryz.prog 5 #[.slice A f.length cap, .agg #[.string s, .int .i64 z]] w fun e w' => SortsTo w w' e (wsF f s z) := by
  have hb0 : Below w.heap.size w (w.alloc (.cells #[.string s, .int .i64 z] 25)) := (Below.refl _ _).alloc (Nat.le_refl _) _
  have HS := Lib.hid hf; clear hf
  have HO := Lib.hid ho; clear ho
  have H0 := Lib.hid (HS.out.below hb0 (Nat.le_refl _))
  go_enter Tryz.func5, Tryz.ntmps5
  go_wp2_with fail
  refine (implIsFont_any f A cap lo _ H0.out hn HO.out).mono ?_
  rintro e w1 ⟨rfl, hb1⟩
  have hb1' := hb0.trans (hb1.mono (by simp))
  have hz0 : w.heap.size < w1.heap.size := by have := hb1.size; simp at this; omega
  have hc0 : w1.cell? ⟨w.heap.size, 0, none⟩ = some (.string s) := by rw [hb1.cell (by simp)]; simp
  have hc1 : w1.cell? ⟨w.heap.size, 1, none⟩ = some (.int .i64 z) := by rw [hb1.cell (by simp)]; simp
  clear hb0 hb1
  cases hv : fontB f
  · have HN := Lib.hid (ws_no (c := s) (n := z) (.inl hv))
    clear hv
    go_wp2
    go_ret2
    exact SortsTo.no HN.out hb1'
  · have HV := Lib.hid hv
    have HF := Lib.hid (fontB_iff.1 hv)
    clear hv
    go_wp2_with fail
    refine (implIsSort_any s z _ hs).mono ?_
    rintro e w2 ⟨rfl, hb2⟩
    have hb2' := hb1'.trans (hb2.mono hb1'.size)
    have hz2 : w.heap.size < w2.heap.size := by have := hb2.size; omega
    have hd0 := (hb2.cell (p := ⟨w.heap.size, 0, none⟩) hz0).trans hc0
    have hd1 := (hb2.cell (p := ⟨w.heap.size, 1, none⟩) hz0).trans hc1
    clear hb1' hb2 hc0 hc1 hz0
    cases hv : tySortF s z
    · have HN := Lib.hid (ws_no (f := f) (c := s) (n := z) (.inr (.inl hv)))
      clear hv
      go_wp2
      go_ret2
      exact SortsTo.no HN.out hb2'
    · have HT := Lib.hid hv
      clear hv
      by_cases hl1 : f.length = 32
      · have HN := Lib.hid (ws_no (f := f) (c := s) (n := z) (.inr (.inr (.inr hl1))))
        have hl : ((f.length : Int) == 32) = true := by rw [beq_iff_eq]; omega
        clear hl1
        go_wp2
        go_ret2
        exact SortsTo.no HN.out hb2'
      · have hl : ((f.length : Int) == 32) = false := by rw [beq_eq_false_iff_ne]; omega
        have HL := Lib.hid hl1; clear hl1
        have H2 := Lib.hid (HS.out.below hb2' (Nat.le_refl _))
        go_wp2_with fail
        refine (place_any f A cap s lo _ H2.out HF.out).mono ?_
        intro e w3 hfo
        obtain ⟨i, hp, rfl, hb3⟩ := hfo
        have hb := hb2'.trans (hb3.mono hb2'.size)
        have hz3 : w.heap.size < w3.heap.size := by have := hb3.size; omega
        have he0 := (hb3.cell (p := ⟨w.heap.size, 0, none⟩) hz2).trans hd0
        have he1 := (hb3.cell (p := ⟨w.heap.size, 1, none⟩) hz2).trans hd1
        have H3 := Lib.hid (HS.out.below hb (Nat.le_refl _))
        have HPF := Lib.hid (place_find HF.out hp)
        have HPOS := Lib.hid (posF_place hp)
        have hil := hp.1
        clear hp hb2' hb3 H2 hd0 hd1 hz2
        by_cases hin : i < f.length ∧ codeB0 f i = s
        · rw [decide_eq_true hin]
          have HN := Lib.hid (ws_no (f := f) (c := s) (n := z) (.inr (.inr (.inl (by rw [HPF.out, if_pos hin]; omega)))))
          clear hin
          go_wp2
          go_ret2
          exact SortsTo.no HN.out hb
        · rw [decide_eq_false hin]
          have HY := Lib.hid (ws_yes (n := z) HV.out HT.out (by rw [HPF.out, if_neg hin]; omega) HL.out)
          have hl1 := HF.out.2.1
          have hl32 := HF.out.2.2
          obtain ⟨b, off, rfl, _, hbl, hc⟩ := H3.out (by omega)
          have HC := Lib.hid hc
          clear hc hin
          have HE1 := Lib.hid he1
          have hs1 := slice_head b off f.length cap i (by omega) hcap
          obtain ⟨a2, hs2, ha2, ha3⟩ := slice_tail b off f.length cap i (i : Int) rfl (by omega) hcap
          have HA2 := Lib.hid ha2; have HA3 := Lib.hid ha3
          clear ha2 ha3
          obtain ⟨W3, hW3⟩ : ∃ W3 : World, W3 = ((w3.alloc (.cells #[.string s, .int .i64 z] 25)).alloc (.cells #[.slice (some ⟨b, off, none⟩) i cap, .slice (some ⟨w3.heap.size, 0, none⟩) 1 1, .slice (some a2) (f.length - i) (cap - i)] 23)).drew := ⟨_, rfl⟩
          have hbb : Below w3.heap.size w3 W3 := by rw [hW3]; exact (((Below.refl _ _).alloc (Nat.le_refl _) _).alloc (by simp) _).drew
          have hbW : Below w.heap.size w W3 := hb.trans (hbb.mono hb.size)
          obtain ⟨ps, hps⟩ : ∃ ps : List Part3, ps = [⟨⟨b, off, none⟩, i, cap, flat (f.take i)⟩, ⟨⟨w3.heap.size, 0, none⟩, 1, 1, [.string s, .int .i64 z]⟩, ⟨a2, f.length - i, cap - i, flat (f.drop i)⟩] := ⟨_, rfl⟩
          have hS : W3.heap[w3.heap.size + 1]? = some (.cells (ps.map Part3.val).toArray 23 (0, 0)) := by
            rw [hW3, hps]
            have := heap_new (w3.alloc (.cells #[.string s, .int .i64 z] 25)) (.cells #[.slice (some ⟨b, off, none⟩) i cap, .slice (some ⟨w3.heap.size, 0, none⟩) 1 1, .slice (some a2) (f.length - i) (cap - i)] 23)
            rw [show (w3.alloc (.cells #[.string s, .int .i64 z] 25)).heap.size = w3.heap.size + 1 from by simp] at this
            exact this
          have hS2 : W3.heap[w3.heap.size]? = some (.cells #[.string s, .int .i64 z] 25 (0, 0)) := by
            rw [hW3]
            show ((w3.alloc _).alloc _).heap[w3.heap.size]? = _
            rw [Below.heap_alloc _ _ _ (by simp)]
            exact heap_new _ _
          have hr : ∀ p ∈ ps, p.Reads W3 := by
            intro p hp
            rw [hps] at hp
            simp only [List.mem_cons, List.not_mem_nil, or_false] at hp
            rcases hp with rfl | rfl | rfl
            · exact (part_head (cap := cap) (i := i) hbl HC.out (by omega)).below hbb (Nat.le_refl _)
            · refine ⟨rfl, lt_of_heap hS2, fun j u hu => ?_, fun u hu => ?_⟩
              · show W3.cell? ((⟨w3.heap.size, 0, none⟩ : Addr).add j) = some u
                rw [add_flat0, Nat.zero_add, cell_of_heap hS2]
                have hu' : [Value.string s, Value.int .i64 z][j]? = some u := hu
                simpa using hu'
              · have hu' : u ∈ [Value.string s, Value.int .i64 z] := hu
                simp at hu'
                rcases hu' with rfl | rfl <;> rfl
            · exact (part_tail (cap := cap - i) (i := i) hbl HC.out (by omega) HA2.out HA3.out).below hbb (Nat.le_refl _)
          have hlen : ps.length = 3 := by rw [hps]; rfl
          have hlens : lens ps = (putIn f s z).length := by
            rw [hps, putIn_len]; simp only [lens]; omega
          have hxs : allXs ps = flat (putIn f s z) := by
            rw [hps]; unfold putIn; rw [HPOS.out, flat_append]
            simp only [allXs, List.append_nil]
            rfl
          have hl2 := putIn_len f s z
          have hcon := concat_any ps (w3.heap.size + 1) W3 hS hr (by rw [hlen]; omega) (by rw [hlens, hl2]; omega) (by rw [hlens, hl2]; omega)
          rw [hlen, hW3] at hcon
          rw [hW3] at hbW
          have HCON := Lib.hid hcon; have HBW := Lib.hid hbW; have HLENS := Lib.hid hlens; have HXS := Lib.hid hxs
          clear hcon hbW hlens hxs hr hS hS2 hlen hl2 hps hbb hW3 he1
          have he1 : w3.cell? ⟨w.heap.size, 1, none⟩ = some (.int .i64 z) := HE1.out
          go_wp2_with fail
          go_region_law (first
            | (go_simp; go_at_call 29; refine HCON.out.mono ?_; intro e w4 hct; obtain ⟨v, rfl, hb4, ho4⟩ := hct))
          rw [HLENS.out, HXS.out] at ho4
          have hbf := HBW.out.trans (hb4.mono HBW.out.size)
          have HO4 := Lib.hid (Joins.ownsRow_le ho4 HBW.out.size)
          clear hb hb4 ho4 hs1 hs2
          go_wp2
          go_ret2
          exact SortsTo.yes HY.out hbf HO4.out

theorem heap_new1 (w : World) (o p : Obj) : ((w.alloc o).alloc p).drew.heap[w.heap.size + 1]? = some p := by
  have h := heap_new (w.alloc o) p
  rw [show (w.alloc o).heap.size = w.heap.size + 1 from by simp] at h
  exact h
theorem putIn_codes {f : List (ByteArray × Int)} {c : ByteArray} {n : Int} (hf : Font f) (hs : tySortF c n = true) : CodesOk (putIn f c n) := by
  obtain ⟨f1, _, _, _⟩ := font_iff.1 hf
  have hsz : ∀ (a : ByteArray) (m : Int), tySortF a m = true → a.size ≤ maxLen := fun a m h => by
    unfold tySortF tyLettersF at h
    simp only [Bool.and_eq_true, decide_eq_true_eq, len_list] at h
    unfold maxLen; omega
  intro k hk
  have e : (putIn f c n)[k] = (putIn f c n).getD k (.empty, 0) := by rw [List.getD_eq_getElem?_getD, List.getElem?_eq_getElem hk]; rfl
  rw [e, putIn_get]
  rw [putIn_len] at hk
  split
  · rename_i h; exact hsz _ _ (f1 k (by have := posF_le f c; omega))
  · split
    · exact hsz _ _ hs
    · exact hsz _ _ (f1 (k - 1) (by omega))
theorem own_empty (w : World) {g base : Nat} (h : w.heap[g]? = some (.cells #[] 25 (0, 0))) (hb : base ≤ g) : w.ownsRow base 25 2 (.slice (some ⟨g, 0, none⟩) 0 0) 0 [] :=
  ⟨rfl, .inr ⟨g, 0, #[], rfl, hb, h, Nat.le_refl _, Nat.zero_le _, rfl, rfl⟩⟩
theorem news_two {a b : Value} (w : World) {g : Nat} (h : w.heap[g]? = some (.cells #[a, b] 25 (0, 0))) : ∀ j u, [a, b][j]? = some u → w.cell? ((⟨g, 0, none⟩ : Addr).add j) = some u := by
  intro j u hu
  rw [add_flat0, Nat.zero_add, cell_of_heap h]
  simpa using hu

set_option maxHeartbeats 4000000 in
set_option maxRecDepth 100000 in
theorem specWs_any (f : List (ByteArray × Int)) (A : Option Addr) (cap : Nat) (s : ByteArray) (z : Int) (lo : Nat) (w : World) (hf : SortsIn w lo A f) (hn : f.length ≤ 1048576) (ho : CodesOk f) (hcap : f.length ≤ cap) (hs : s.size ≤ maxLen) :
    Calls Tryz.prog 6 #[.slice A f.length cap, .agg #[.string s, .int .i64 z]] w fun e w' => SortsTo w w' e (wsF f s z) := by
  have hb0 : Below w.heap.size w (w.alloc (.cells #[.string s, .int .i64 z] 25)) := (Below.refl _ _).alloc (Nat.le_refl _) _
  have HS := Lib.hid hf; clear hf
  have HO := Lib.hid ho; clear ho
  have H0 := Lib.hid (HS.out.below hb0 (Nat.le_refl _))
  go_enter Tryz.func6, Tryz.ntmps6
  go_wp2_with fail
  refine (tyFont_any f A cap lo _ H0.out hn HO.out).mono ?_
  rintro e w1 ⟨rfl, hb1⟩
  have hb1' := hb0.trans (hb1.mono (by simp))
  have hz0 : w.heap.size < w1.heap.size := by have := hb1.size; simp at this; omega
  have hc0 : w1.cell? ⟨w.heap.size, 0, none⟩ = some (.string s) := by rw [hb1.cell (by simp)]; simp
  have hc1 : w1.cell? ⟨w.heap.size, 1, none⟩ = some (.int .i64 z) := by rw [hb1.cell (by simp)]; simp
  clear hb0 hb1
  cases hv : fontB f
  · have HN := Lib.hid (ws_no (c := s) (n := z) (.inl hv))
    clear hv
    go_wp2
    go_ret2
    exact SortsTo.no HN.out hb1'
  · have HV := Lib.hid hv
    have HF := Lib.hid (fontB_iff.1 hv)
    have hl1 := HF.out.2.1
    have hl32 := HF.out.2.2
    clear hv
    go_wp2_with fail
    refine (tySort_any s z _ hs).mono ?_
    rintro e w2 ⟨rfl, hb2⟩
    have hb2' := hb1'.trans (hb2.mono hb1'.size)
    have hz2 : w.heap.size < w2.heap.size := by have := hb2.size; omega
    have hd0 := (hb2.cell (p := ⟨w.heap.size, 0, none⟩) hz0).trans hc0
    have hd1 := (hb2.cell (p := ⟨w.heap.size, 1, none⟩) hz0).trans hc1
    clear hb1' hb2 hc0 hc1 hz0
    cases hv : tySortF s z
    · have HN := Lib.hid (ws_no (f := f) (c := s) (n := z) (.inr (.inl hv)))
      clear hv
      go_wp2
      go_ret2
      exact SortsTo.no HN.out hb2'
    · have HT := Lib.hid hv
      clear hv
      have H2 := Lib.hid (HS.out.below hb2' (Nat.le_refl _))
      go_wp2_with fail
      refine (tyFind_any f A cap s lo _ H2.out hn).mono ?_
      rintro e w3 ⟨rfl, hb3⟩
      have hb := hb2'.trans (hb3.mono hb2'.size)
      have hz3 : w.heap.size < w3.heap.size := by have := hb3.size; omega
      have he0 := (hb3.cell (p := ⟨w.heap.size, 0, none⟩) hz2).trans hd0
      have he1 := (hb3.cell (p := ⟨w.heap.size, 1, none⟩) hz2).trans hd1
      clear hb2' hb3 H2 hd0 hd1 hz2
      rcases findI_cases f s with ⟨hr, hno⟩ | ⟨k, hk, _, hr⟩
      · have HNO := Lib.hid hno; have HR := Lib.hid hr
        have hlt : findI f s 0 < 0 := by omega
        clear hno hr
        have HYN : Hid (f.length ≠ 32 → wsF f s z = some (putIn f s z)) := fun h => ws_yes HV.out HT.out (by have := HR.out; omega) h
        have HNN : Hid (f.length = 32 → wsF f s z = none) := fun h => ws_no (.inr (.inr (.inr h)))
        generalize findI f s 0 = r at *
        have he0' := Lib.hid he0; have he1' := Lib.hid he1
        go_wp2
        go_loopw [6] (fun q wr => ∃ (k : Nat), k ≤ f.length ∧ q = .int .i64 k ∧ posF f s = k + posF (f.drop k) s ∧ Below w3.heap.size w3 wr) (fun q _ => f.length - (intOf q).toNat)
        case atStart => exact ⟨0, Nat.zero_le _, rfl, by simp, Below.refl _ _⟩
        case round =>
          obtain ⟨k, hkl, rfl, hpos, hbi⟩ := hrel
          have HPOS := Lib.hid hpos; clear hpos
          have hzr : w.heap.size < wr.heap.size := Nat.lt_of_lt_of_le hz3 hbi.size
          have hg0 := (hbi.cell (p := ⟨w.heap.size, 0, none⟩) hz3).trans he0'.out
          have hg1 := (hbi.cell (p := ⟨w.heap.size, 1, none⟩) hz3).trans he1'.out
          have hbw := hb.trans (hbi.mono hb.size)
          obtain ⟨b, off, rfl, _, hbl, hc⟩ := HS.out (by omega)
          have HC : Hid (∀ k (h : k < f.length), wr.cell? ⟨b, off + k * 2, none⟩ = some (.string f[k].1) ∧ wr.cell? ⟨b, off + k * 2 + 1, none⟩ = some (.int .i64 f[k].2)) := by
            show ∀ k, _
            intro k h
            rw [hbw.cell (p := ⟨b, off + k * 2, none⟩) hbl, hbw.cell (p := ⟨b, off + k * 2 + 1, none⟩) hbl]
            exact hc k h
          have hblr : b < wr.heap.size := Nat.lt_of_lt_of_le hbl hbw.size
          clear hc
          have hx0 := KeptW.cell hg0 hzr
          have hk0 : (0 : Int) ≤ (k : Int) := by omega
          by_cases hltk : k < f.length ∧ Op.bytesLess (f.getD k (.empty, 0)).1.toList s.toList = true
          · obtain ⟨hkn, hless⟩ := hltk
            have hge : f.getD k (.empty, 0) = f[k] := by rw [List.getD_eq_getElem?_getD, List.getElem?_eq_getElem hkn]; rfl
            rw [hge] at hless
            have hx1 := KeptW.cell (HC.out k hkn).1 hblr
            have hkn' : (k : Int) < (f.length : Int) := by omega
            have HP : Hid (posF f s = (k + 1) + posF (f.drop (k + 1)) s) := by
              show posF f s = _
              have h1 := HPOS.out
              rw [posF_drop f s k hkn, if_pos hless] at h1
              omega
            clear hge hg0 hg1
            go_wp2_with fail
            refine region_kept wr.heap.size (by kernel_rfl) (by kernel_rfl) ?_
            repeat (go_big_quiet_step (fail))
            refine wpQuiet_nil ?_
            intro w4 hb4
            have hb4' := hbi.trans (hb4.mono hbi.size)
            clear hb4 hbi hx0 hx1 hbw
            go_wp2
            go_roundw
            case rel => exact ⟨k + 1, by omega, by go_num, HP.out, hb4'⟩
            case measure => simp [intOf]; omega
          · have hend : posF f s = k ∧ (k = f.length ∨ (k < f.length ∧ Op.bytesLess (f.getD k (.empty, 0)).1.toList s.toList = false)) := by
              have h1 := HPOS.out
              by_cases hkn : k < f.length
              · have hge : f.getD k (.empty, 0) = f[k] := by rw [List.getD_eq_getElem?_getD, List.getElem?_eq_getElem hkn]; rfl
                have hf : Op.bytesLess (f.getD k (.empty, 0)).1.toList s.toList = false := by
                  rw [← Bool.not_eq_true]; exact fun h => hltk ⟨hkn, h⟩
                rw [posF_drop f s k hkn, ← hge, hf] at h1
                exact ⟨by simpa using h1, .inr ⟨hkn, hf⟩⟩
              · obtain rfl : k = f.length := by omega
                rw [List.drop_length] at h1
                exact ⟨by simpa [posF] using h1, .inl rfl⟩
            obtain ⟨hpf, hend⟩ := hend
            have hs1 := slice_head b off f.length cap k hkl hcap
            obtain ⟨a2, hs2, ha2, ha3⟩ := slice_tail b off f.length cap k (k : Int) rfl hkl hcap
            have HA2 := Lib.hid ha2; have HA3 := Lib.hid ha3; have HPF := Lib.hid hpf
            clear ha2 ha3 hpf hltk HPOS hg0 hg1 he0 he1
            rcases hend with hkeq | ⟨hkn, hless⟩
            · have hkd : decide (k < f.length) = false := decide_eq_false (by omega)
              clear hkeq
              go_wp2_with fail
              refine region_kept wr.heap.size (by kernel_rfl) (by kernel_rfl) ?_
              repeat (go_big_quiet_step (fail))
              refine wpQuiet_nil ?_
              intro wl hbl4
              have hwl := hbw.trans (hbl4.mono hbw.size)
              have hq0 := hx0 ⟨wl, hbl4⟩
              have hq1 : wl.cell? ⟨w.heap.size, 1, none⟩ = some (.int .i64 z) := (hbl4.cell (p := ⟨w.heap.size, 1, none⟩) hzr).trans ((hbi.cell (p := ⟨w.heap.size, 1, none⟩) hz3).trans he1'.out)
              have hzl : w.heap.size < wl.heap.size := Nat.lt_of_lt_of_le hzr hbl4.size
              have hbbl : b < wl.heap.size := Nat.lt_of_lt_of_le hblr hbl4.size
              have HCL : Hid (∀ k (h : k < f.length), wl.cell? ⟨b, off + k * 2, none⟩ = some (.string f[k].1) ∧ wl.cell? ⟨b, off + k * 2 + 1, none⟩ = some (.int .i64 f[k].2)) := by
                show ∀ k, _
                intro k h
                rw [hbl4.cell (p := ⟨b, off + k * 2, none⟩) hblr, hbl4.cell (p := ⟨b, off + k * 2 + 1, none⟩) hblr]
                exact HC.out k h
              have HWL := Lib.hid hwl
              simp only at hq0
              clear hx0 hbl4 hbi hbw hwl
              have hp1 := part_head (cap := cap) (i := k) hbbl HCL.out hkl
              have hp2 := part_tail (cap := cap - k) (i := k) hbbl HCL.out hkl HA2.out HA3.out
              have B1 : Below wl.heap.size wl (wl.alloc (.cells #[] 25)).drew := ((Below.refl _ _).alloc (Nat.le_refl _) _).drew
              have B2 : Below wl.heap.size wl ((wl.alloc (.cells #[] 25)).alloc (.cells #[.string s, .int .i64 z] 25)).drew := (((Below.refl _ _).alloc (Nat.le_refl _) _).alloc (by simp) _).drew
              have B3 : Below wl.heap.size wl ((wl.alloc (.cells #[.string s, .int .i64 z] 25)).alloc (.cells #[] 25)).drew := (((Below.refl _ _).alloc (Nat.le_refl _) _).alloc (by simp) _).drew
              have O1 : (wl.alloc (.cells #[] 25)).drew.ownsRow wl.heap.size 25 2 (.slice (some ⟨wl.heap.size, 0, none⟩) 0 0) 0 [] := own_empty _ (by exact heap_new _ _) (Nat.le_refl _)
              have O2 : ((wl.alloc (.cells #[] 25)).alloc (.cells #[.string s, .int .i64 z] 25)).drew.ownsRow wl.heap.size 25 2 (.slice (some ⟨wl.heap.size, 0, none⟩) 0 0) 0 [] := own_empty _ (by show ((wl.alloc _).alloc _).heap[wl.heap.size]? = _; rw [Below.heap_alloc _ _ _ (by simp)]; exact heap_new _ _) (Nat.le_refl _)
              have O3 : ((wl.alloc (.cells #[.string s, .int .i64 z] 25)).alloc (.cells #[] 25)).drew.ownsRow wl.heap.size 25 2 (.slice (some ⟨wl.heap.size + 1, 0, none⟩) 0 0) 0 [] := own_empty _ (heap_new1 _ _ _) (by omega)
              have S2 : ((wl.alloc (.cells #[] 25)).alloc (.cells #[.string s, .int .i64 z] 25)).drew.heap[wl.heap.size + 1]? = some (.cells #[.string s, .int .i64 z] 25 (0, 0)) := heap_new1 _ _ _
              have S3 : ((wl.alloc (.cells #[.string s, .int .i64 z] 25)).alloc (.cells #[] 25)).drew.heap[wl.heap.size]? = some (.cells #[.string s, .int .i64 z] 25 (0, 0)) := by
                show ((wl.alloc _).alloc _).heap[wl.heap.size]? = _
                rw [Below.heap_alloc _ _ _ (by simp)]; exact heap_new _ _
              have HB1 := Lib.hid B1; have HB2 := Lib.hid B2; have HB3 := Lib.hid B3
              have HO1 := Lib.hid O1; have HO2 := Lib.hid O2; have HO3 := Lib.hid O3; have HS2 := Lib.hid S2; have HS3 := Lib.hid S3
              have HR1 := Lib.hid (hp1.below B1 (Nat.le_refl _)); have HR2 := Lib.hid (hp1.below B2 (Nat.le_refl _)); have HR3 := Lib.hid (hp1.below B3 (Nat.le_refl _))
              have HP2 := Lib.hid hp2
              clear B1 B2 B3 O1 O2 O3 S2 S3 hp1 hp2
              obtain ⟨i0, hi0', hz0, hz1, hz2⟩ := info_parts info39
              have HI0 := Lib.hid hi0'; have HZ0 := Lib.hid hz0; have HZ1 := Lib.hid hz1; have HZ2 := Lib.hid hz2
              clear hi0' hz0 hz1 hz2
              have hm1 : 0 + k ≤ maxLen := by unfold maxLen; omega
              have hm2 : k + 1 ≤ maxLen := by unfold maxLen; omega
              have hm3 : k + 1 + (f.length - k) ≤ maxLen := by unfold maxLen; omega
              have hy1 : (0 + k) * 24 ≤ 140737488355328 := by omega
              have hy2 : (k + 1) * 24 ≤ 140737488355328 := by omega
              have hy3 : (k + 1 + (f.length - k)) * 24 ≤ 140737488355328 := by omega
              have hone : ∀ u ∈ [Value.string s, Value.int .i64 z], u.oneCell' = true := by intro u hu; simp at hu; rcases hu with rfl | rfl <;> rfl
              have HONE := Lib.hid hone
              clear hone
              go_wp2_with fail
              go_region_law (first
                | (refine step_own _ (by rfl) (.tmp 39) (.tmp 42) _ (by rfl) wl.heap.size 25 i0 (.agg #[.string .empty, .int .i64 0]) 2 24 Tryz.underlying23 HI0.out HZ0.out HZ1.out HZ2.out rfl (by decide) _ 0 [] (by rfl) HO1.out ⟨b, off, none⟩ k cap (flat (f.take k)) (by rfl) HR1.out.1 HR1.out.2.2.1 HR1.out.2.2.2 hm1 hy1 HB1.out.size ?_
                   intro v1 w4 hown1 hg1
                   have hb4 : Below wl.heap.size wl w4 := HB1.out.grown hg1 HB1.out.size (by intro j hj; have : wl.heap.size = j := Option.some.inj hj; omega)
                   have hc40 := (hb4.cell (p := ⟨w.heap.size, 0, none⟩) hzl).trans hq0
                   have hc41 := (hb4.cell (p := ⟨w.heap.size, 1, none⟩) hzl).trans hq1
                   have hnw : ∀ j u, [Value.string s, Value.int .i64 z][j]? = some u → (w4.alloc (.cells #[.string s, .int .i64 z] 25)).cell? ((⟨w4.heap.size, 0, none⟩ : Addr).add j) = some u := news_two _ (heap_new _ _)
                   have HNW := Lib.hid hnw
                   simp only [Nat.zero_add, List.nil_append] at hown1
                   have HOW := Lib.hid (hown1.alloc (.cells #[.string s, .int .i64 z] 25))
                   have HB4 := Lib.hid (hb4.alloc hb4.size (.cells #[.string s, .int .i64 z] 25))
                   clear hg1 hnw hown1 hb4)
                | (refine step_own _ (by rfl) (.tmp 39) (.tmp 42) _ (by rfl) wl.heap.size 25 i0 (.agg #[.string .empty, .int .i64 0]) 2 24 Tryz.underlying23 HI0.out HZ0.out HZ1.out HZ2.out rfl (by decide) _ 0 [] (by rfl) HO2.out ⟨b, off, none⟩ k cap (flat (f.take k)) (by rfl) HR2.out.1 HR2.out.2.2.1 HR2.out.2.2.2 hm1 hy1 HB2.out.size ?_
                   intro v1 w4 hown1 hg1
                   have hb4 : Below wl.heap.size wl w4 := HB2.out.grown hg1 HB2.out.size (by intro j hj; have : wl.heap.size = j := Option.some.inj hj; omega)
                   have hs4 : w4.heap[wl.heap.size + 1]? = some (.cells #[.string s, .int .i64 z] 25 (0, 0)) := (hg1.block (wl.heap.size + 1) (lt_of_heap HS2.out) (by intro e; have : wl.heap.size + 1 = wl.heap.size := Option.some.inj e; omega)).trans HS2.out
                   have HNW2 := Lib.hid (news_two w4 hs4)
                   simp only [Nat.zero_add, List.nil_append] at hown1
                   have HOW := Lib.hid hown1
                   have HB4 := Lib.hid hb4
                   clear hg1 hs4 hown1 hb4)
                | (refine step_own _ (by rfl) (.tmp 39) (.tmp 42) _ (by rfl) wl.heap.size 25 i0 (.agg #[.string .empty, .int .i64 0]) 2 24 Tryz.underlying23 HI0.out HZ0.out HZ1.out HZ2.out rfl (by decide) _ 0 [] (by rfl) HO3.out ⟨b, off, none⟩ k cap (flat (f.take k)) (by rfl) HR3.out.1 HR3.out.2.2.1 HR3.out.2.2.2 hm1 hy1 HB3.out.size ?_
                   intro v1 w4 hown1 hg1
                   have hb4 : Below wl.heap.size wl w4 := HB3.out.grown hg1 HB3.out.size (by intro j hj; have : wl.heap.size + 1 = j := Option.some.inj hj; omega)
                   have hs4 : w4.heap[wl.heap.size]? = some (.cells #[.string s, .int .i64 z] 25 (0, 0)) := (hg1.block wl.heap.size (lt_of_heap HS3.out) (by intro e; have : wl.heap.size = wl.heap.size + 1 := Option.some.inj e; omega)).trans HS3.out
                   have HNW2 := Lib.hid (news_two w4 hs4)
                   simp only [Nat.zero_add, List.nil_append] at hown1
                   have HOW := Lib.hid hown1
                   have HB4 := Lib.hid hb4
                   clear hg1 hs4 hown1 hb4)
                | (refine step_own _ (by rfl) (.tmp 43) (.tmp 45) _ (by rfl) wl.heap.size 25 i0 (.agg #[.string .empty, .int .i64 0]) 2 24 Tryz.underlying23 HI0.out HZ0.out HZ1.out HZ2.out rfl (by decide) _ k (flat (f.take k)) (by rfl) HOW.out _ 1 1 [.string s, .int .i64 z] (by rfl) rfl HNW.out HONE.out hm2 hy2 HB4.out.size ?_
                   intro v2 w5 hown2 hg2
                   have hb5 : Below wl.heap.size wl w5 := HB4.out.grown hg2 HB4.out.size (own_lt HOW.out)
                   clear hg2)
                | (refine step_own _ (by rfl) (.tmp 43) (.tmp 45) _ (by rfl) wl.heap.size 25 i0 (.agg #[.string .empty, .int .i64 0]) 2 24 Tryz.underlying23 HI0.out HZ0.out HZ1.out HZ2.out rfl (by decide) _ k (flat (f.take k)) (by rfl) HOW.out _ 1 1 [.string s, .int .i64 z] (by rfl) rfl HNW2.out HONE.out hm2 hy2 HB4.out.size ?_
                   intro v2 w5 hown2 hg2
                   have hb5 : Below wl.heap.size wl w5 := HB4.out.grown hg2 HB4.out.size (own_lt HOW.out)
                   clear hg2)
                | (refine step_own _ (by rfl) (.tmp 46) (.tmp 49) _ (by rfl) wl.heap.size 25 i0 (.agg #[.string .empty, .int .i64 0]) 2 24 Tryz.underlying23 HI0.out HZ0.out HZ1.out HZ2.out rfl (by decide) _ (k + 1) (flat (f.take k) ++ [.string s, .int .i64 z]) (by rfl) hown2 a2 (f.length - k) (cap - k) (flat (f.drop k)) (by rfl) (HP2.out.below hb5 (Nat.le_refl _)).1 (HP2.out.below hb5 (Nat.le_refl _)).2.2.1 (HP2.out.below hb5 (Nat.le_refl _)).2.2.2 hm3 hy3 hb5.size ?_
                   intro v3 w6 hown3 hg3
                   have hb6 : Below wl.heap.size wl w6 := hb5.grown hg3 hb5.size (own_lt hown2)
                   clear hg3 hown2 hb5))
              all_goals
                have hwf := HWL.out.trans (hb6.mono HWL.out.size)
                have hfl : (flat (f.take k) ++ [.string s, .int .i64 z]) ++ flat (f.drop k) = flat (putIn f s z) := by
                  unfold putIn; rw [HPF.out, flat_append, List.append_assoc]; rfl
                have hln : k + 1 + (f.length - k) = (putIn f s z).length := by rw [putIn_len]; omega
                rw [hfl, hln] at hown3
                have HO3' := Lib.hid (Joins.ownsRow_le hown3 HWL.out.size)
                obtain ⟨A3, c3, rfl⟩ := own_form_f hown3
                have hpl : (putIn f s z).length ≤ 1048576 := by rw [putIn_len]; omega
                have HCO := Lib.hid (putIn_codes HF.out HT.out)
                have HIN := Lib.hid (own_in_f hown3)
                clear hown3 hb6 hfl hln hs1 hs2 hm1 hm2 hm3 hy1 hy2 hy3
                go_wp2_with fail
                refine (tyFont_any (putIn f s z) A3 c3 0 _ HIN.out hpl HCO.out).mono ?_
                rintro e w7 ⟨rfl, hb7⟩
                have hwf7 := hwf.trans (hb7.mono hwf.size)
                have HO7 := Lib.hid (own_below HO3'.out hb7)
                clear hwf hb7
                by_cases h32 : f.length = 32
                · rw [fontB_len (f := putIn f s z) (.inr (by rw [putIn_len]; omega))]
                  have HN := Lib.hid (HNN.out h32)
                  clear h32
                  go_wp2
                  go_ret2
                  exact SortsTo.no HN.out hwf7
                · rw [fontB_iff.2 (putIn_font HF.out HT.out HNO.out h32)]
                  have HY := Lib.hid (HYN.out h32)
                  clear h32
                  go_wp2
                  go_ret2
                  exact SortsTo.yes HY.out hwf7 HO7.out
            · have hge : f.getD k (.empty, 0) = f[k] := by rw [List.getD_eq_getElem?_getD, List.getElem?_eq_getElem hkn]; rfl
              rw [hge] at hless
              have hx1 := KeptW.cell (HC.out k hkn).1 hblr
              have hkn' : (k : Int) < (f.length : Int) := by omega
              clear hge
              go_wp2_with fail
              refine region_kept wr.heap.size (by kernel_rfl) (by kernel_rfl) ?_
              repeat (go_big_quiet_step (fail))
              refine wpQuiet_nil ?_
              intro wl hbl4
              have hwl := hbw.trans (hbl4.mono hbw.size)
              have hq0 := hx0 ⟨wl, hbl4⟩
              have hq1 : wl.cell? ⟨w.heap.size, 1, none⟩ = some (.int .i64 z) := (hbl4.cell (p := ⟨w.heap.size, 1, none⟩) hzr).trans ((hbi.cell (p := ⟨w.heap.size, 1, none⟩) hz3).trans he1'.out)
              have hzl : w.heap.size < wl.heap.size := Nat.lt_of_lt_of_le hzr hbl4.size
              have hbbl : b < wl.heap.size := Nat.lt_of_lt_of_le hblr hbl4.size
              have HCL : Hid (∀ k (h : k < f.length), wl.cell? ⟨b, off + k * 2, none⟩ = some (.string f[k].1) ∧ wl.cell? ⟨b, off + k * 2 + 1, none⟩ = some (.int .i64 f[k].2)) := by
                show ∀ k, _
                intro k h
                rw [hbl4.cell (p := ⟨b, off + k * 2, none⟩) hblr, hbl4.cell (p := ⟨b, off + k * 2 + 1, none⟩) hblr]
                exact HC.out k h
              have HWL := Lib.hid hwl
              simp only at hq0
              clear hx0 hbl4 hbi hbw hwl
              have hp1 := part_head (cap := cap) (i := k) hbbl HCL.out hkl
              have hp2 := part_tail (cap := cap - k) (i := k) hbbl HCL.out hkl HA2.out HA3.out
              have B1 : Below wl.heap.size wl (wl.alloc (.cells #[] 25)).drew := ((Below.refl _ _).alloc (Nat.le_refl _) _).drew
              have B2 : Below wl.heap.size wl ((wl.alloc (.cells #[] 25)).alloc (.cells #[.string s, .int .i64 z] 25)).drew := (((Below.refl _ _).alloc (Nat.le_refl _) _).alloc (by simp) _).drew
              have B3 : Below wl.heap.size wl ((wl.alloc (.cells #[.string s, .int .i64 z] 25)).alloc (.cells #[] 25)).drew := (((Below.refl _ _).alloc (Nat.le_refl _) _).alloc (by simp) _).drew
              have O1 : (wl.alloc (.cells #[] 25)).drew.ownsRow wl.heap.size 25 2 (.slice (some ⟨wl.heap.size, 0, none⟩) 0 0) 0 [] := own_empty _ (by exact heap_new _ _) (Nat.le_refl _)
              have O2 : ((wl.alloc (.cells #[] 25)).alloc (.cells #[.string s, .int .i64 z] 25)).drew.ownsRow wl.heap.size 25 2 (.slice (some ⟨wl.heap.size, 0, none⟩) 0 0) 0 [] := own_empty _ (by show ((wl.alloc _).alloc _).heap[wl.heap.size]? = _; rw [Below.heap_alloc _ _ _ (by simp)]; exact heap_new _ _) (Nat.le_refl _)
              have O3 : ((wl.alloc (.cells #[.string s, .int .i64 z] 25)).alloc (.cells #[] 25)).drew.ownsRow wl.heap.size 25 2 (.slice (some ⟨wl.heap.size + 1, 0, none⟩) 0 0) 0 [] := own_empty _ (heap_new1 _ _ _) (by omega)
              have S2 : ((wl.alloc (.cells #[] 25)).alloc (.cells #[.string s, .int .i64 z] 25)).drew.heap[wl.heap.size + 1]? = some (.cells #[.string s, .int .i64 z] 25 (0, 0)) := heap_new1 _ _ _
              have S3 : ((wl.alloc (.cells #[.string s, .int .i64 z] 25)).alloc (.cells #[] 25)).drew.heap[wl.heap.size]? = some (.cells #[.string s, .int .i64 z] 25 (0, 0)) := by
                show ((wl.alloc _).alloc _).heap[wl.heap.size]? = _
                rw [Below.heap_alloc _ _ _ (by simp)]; exact heap_new _ _
              have HB1 := Lib.hid B1; have HB2 := Lib.hid B2; have HB3 := Lib.hid B3
              have HO1 := Lib.hid O1; have HO2 := Lib.hid O2; have HO3 := Lib.hid O3; have HS2 := Lib.hid S2; have HS3 := Lib.hid S3
              have HR1 := Lib.hid (hp1.below B1 (Nat.le_refl _)); have HR2 := Lib.hid (hp1.below B2 (Nat.le_refl _)); have HR3 := Lib.hid (hp1.below B3 (Nat.le_refl _))
              have HP2 := Lib.hid hp2
              clear B1 B2 B3 O1 O2 O3 S2 S3 hp1 hp2
              obtain ⟨i0, hi0', hz0, hz1, hz2⟩ := info_parts info39
              have HI0 := Lib.hid hi0'; have HZ0 := Lib.hid hz0; have HZ1 := Lib.hid hz1; have HZ2 := Lib.hid hz2
              clear hi0' hz0 hz1 hz2
              have hm1 : 0 + k ≤ maxLen := by unfold maxLen; omega
              have hm2 : k + 1 ≤ maxLen := by unfold maxLen; omega
              have hm3 : k + 1 + (f.length - k) ≤ maxLen := by unfold maxLen; omega
              have hy1 : (0 + k) * 24 ≤ 140737488355328 := by omega
              have hy2 : (k + 1) * 24 ≤ 140737488355328 := by omega
              have hy3 : (k + 1 + (f.length - k)) * 24 ≤ 140737488355328 := by omega
              have hone : ∀ u ∈ [Value.string s, Value.int .i64 z], u.oneCell' = true := by intro u hu; simp at hu; rcases hu with rfl | rfl <;> rfl
              have HONE := Lib.hid hone
              clear hone
              go_wp2_with fail
              go_region_law (first
                | (refine step_own _ (by rfl) (.tmp 39) (.tmp 42) _ (by rfl) wl.heap.size 25 i0 (.agg #[.string .empty, .int .i64 0]) 2 24 Tryz.underlying23 HI0.out HZ0.out HZ1.out HZ2.out rfl (by decide) _ 0 [] (by rfl) HO1.out ⟨b, off, none⟩ k cap (flat (f.take k)) (by rfl) HR1.out.1 HR1.out.2.2.1 HR1.out.2.2.2 hm1 hy1 HB1.out.size ?_
                   intro v1 w4 hown1 hg1
                   have hb4 : Below wl.heap.size wl w4 := HB1.out.grown hg1 HB1.out.size (by intro j hj; have : wl.heap.size = j := Option.some.inj hj; omega)
                   have hc40 := (hb4.cell (p := ⟨w.heap.size, 0, none⟩) hzl).trans hq0
                   have hc41 := (hb4.cell (p := ⟨w.heap.size, 1, none⟩) hzl).trans hq1
                   have hnw : ∀ j u, [Value.string s, Value.int .i64 z][j]? = some u → (w4.alloc (.cells #[.string s, .int .i64 z] 25)).cell? ((⟨w4.heap.size, 0, none⟩ : Addr).add j) = some u := news_two _ (heap_new _ _)
                   have HNW := Lib.hid hnw
                   simp only [Nat.zero_add, List.nil_append] at hown1
                   have HOW := Lib.hid (hown1.alloc (.cells #[.string s, .int .i64 z] 25))
                   have HB4 := Lib.hid (hb4.alloc hb4.size (.cells #[.string s, .int .i64 z] 25))
                   clear hg1 hnw hown1 hb4)
                | (refine step_own _ (by rfl) (.tmp 39) (.tmp 42) _ (by rfl) wl.heap.size 25 i0 (.agg #[.string .empty, .int .i64 0]) 2 24 Tryz.underlying23 HI0.out HZ0.out HZ1.out HZ2.out rfl (by decide) _ 0 [] (by rfl) HO2.out ⟨b, off, none⟩ k cap (flat (f.take k)) (by rfl) HR2.out.1 HR2.out.2.2.1 HR2.out.2.2.2 hm1 hy1 HB2.out.size ?_
                   intro v1 w4 hown1 hg1
                   have hb4 : Below wl.heap.size wl w4 := HB2.out.grown hg1 HB2.out.size (by intro j hj; have : wl.heap.size = j := Option.some.inj hj; omega)
                   have hs4 : w4.heap[wl.heap.size + 1]? = some (.cells #[.string s, .int .i64 z] 25 (0, 0)) := (hg1.block (wl.heap.size + 1) (lt_of_heap HS2.out) (by intro e; have : wl.heap.size + 1 = wl.heap.size := Option.some.inj e; omega)).trans HS2.out
                   have HNW2 := Lib.hid (news_two w4 hs4)
                   simp only [Nat.zero_add, List.nil_append] at hown1
                   have HOW := Lib.hid hown1
                   have HB4 := Lib.hid hb4
                   clear hg1 hs4 hown1 hb4)
                | (refine step_own _ (by rfl) (.tmp 39) (.tmp 42) _ (by rfl) wl.heap.size 25 i0 (.agg #[.string .empty, .int .i64 0]) 2 24 Tryz.underlying23 HI0.out HZ0.out HZ1.out HZ2.out rfl (by decide) _ 0 [] (by rfl) HO3.out ⟨b, off, none⟩ k cap (flat (f.take k)) (by rfl) HR3.out.1 HR3.out.2.2.1 HR3.out.2.2.2 hm1 hy1 HB3.out.size ?_
                   intro v1 w4 hown1 hg1
                   have hb4 : Below wl.heap.size wl w4 := HB3.out.grown hg1 HB3.out.size (by intro j hj; have : wl.heap.size + 1 = j := Option.some.inj hj; omega)
                   have hs4 : w4.heap[wl.heap.size]? = some (.cells #[.string s, .int .i64 z] 25 (0, 0)) := (hg1.block wl.heap.size (lt_of_heap HS3.out) (by intro e; have : wl.heap.size = wl.heap.size + 1 := Option.some.inj e; omega)).trans HS3.out
                   have HNW2 := Lib.hid (news_two w4 hs4)
                   simp only [Nat.zero_add, List.nil_append] at hown1
                   have HOW := Lib.hid hown1
                   have HB4 := Lib.hid hb4
                   clear hg1 hs4 hown1 hb4)
                | (refine step_own _ (by rfl) (.tmp 43) (.tmp 45) _ (by rfl) wl.heap.size 25 i0 (.agg #[.string .empty, .int .i64 0]) 2 24 Tryz.underlying23 HI0.out HZ0.out HZ1.out HZ2.out rfl (by decide) _ k (flat (f.take k)) (by rfl) HOW.out _ 1 1 [.string s, .int .i64 z] (by rfl) rfl HNW.out HONE.out hm2 hy2 HB4.out.size ?_
                   intro v2 w5 hown2 hg2
                   have hb5 : Below wl.heap.size wl w5 := HB4.out.grown hg2 HB4.out.size (own_lt HOW.out)
                   clear hg2)
                | (refine step_own _ (by rfl) (.tmp 43) (.tmp 45) _ (by rfl) wl.heap.size 25 i0 (.agg #[.string .empty, .int .i64 0]) 2 24 Tryz.underlying23 HI0.out HZ0.out HZ1.out HZ2.out rfl (by decide) _ k (flat (f.take k)) (by rfl) HOW.out _ 1 1 [.string s, .int .i64 z] (by rfl) rfl HNW2.out HONE.out hm2 hy2 HB4.out.size ?_
                   intro v2 w5 hown2 hg2
                   have hb5 : Below wl.heap.size wl w5 := HB4.out.grown hg2 HB4.out.size (own_lt HOW.out)
                   clear hg2)
                | (refine step_own _ (by rfl) (.tmp 46) (.tmp 49) _ (by rfl) wl.heap.size 25 i0 (.agg #[.string .empty, .int .i64 0]) 2 24 Tryz.underlying23 HI0.out HZ0.out HZ1.out HZ2.out rfl (by decide) _ (k + 1) (flat (f.take k) ++ [.string s, .int .i64 z]) (by rfl) hown2 a2 (f.length - k) (cap - k) (flat (f.drop k)) (by rfl) (HP2.out.below hb5 (Nat.le_refl _)).1 (HP2.out.below hb5 (Nat.le_refl _)).2.2.1 (HP2.out.below hb5 (Nat.le_refl _)).2.2.2 hm3 hy3 hb5.size ?_
                   intro v3 w6 hown3 hg3
                   have hb6 : Below wl.heap.size wl w6 := hb5.grown hg3 hb5.size (own_lt hown2)
                   clear hg3 hown2 hb5))
              all_goals
                have hwf := HWL.out.trans (hb6.mono HWL.out.size)
                have hfl : (flat (f.take k) ++ [.string s, .int .i64 z]) ++ flat (f.drop k) = flat (putIn f s z) := by
                  unfold putIn; rw [HPF.out, flat_append, List.append_assoc]; rfl
                have hln : k + 1 + (f.length - k) = (putIn f s z).length := by rw [putIn_len]; omega
                rw [hfl, hln] at hown3
                have HO3' := Lib.hid (Joins.ownsRow_le hown3 HWL.out.size)
                obtain ⟨A3, c3, rfl⟩ := own_form_f hown3
                have hpl : (putIn f s z).length ≤ 1048576 := by rw [putIn_len]; omega
                have HCO := Lib.hid (putIn_codes HF.out HT.out)
                have HIN := Lib.hid (own_in_f hown3)
                clear hown3 hb6 hfl hln hs1 hs2 hm1 hm2 hm3 hy1 hy2 hy3
                go_wp2_with fail
                refine (tyFont_any (putIn f s z) A3 c3 0 _ HIN.out hpl HCO.out).mono ?_
                rintro e w7 ⟨rfl, hb7⟩
                have hwf7 := hwf.trans (hb7.mono hwf.size)
                have HO7 := Lib.hid (own_below HO3'.out hb7)
                clear hwf hb7
                by_cases h32 : f.length = 32
                · rw [fontB_len (f := putIn f s z) (.inr (by rw [putIn_len]; omega))]
                  have HN := Lib.hid (HNN.out h32)
                  clear h32
                  go_wp2
                  go_ret2
                  exact SortsTo.no HN.out hwf7
                · rw [fontB_iff.2 (putIn_font HF.out HT.out HNO.out h32)]
                  have HY := Lib.hid (HYN.out h32)
                  clear h32
                  go_wp2
                  go_ret2
                  exact SortsTo.yes HY.out hwf7 HO7.out
      · have HN := Lib.hid (ws_no (f := f) (c := s) (n := z) (.inr (.inr (.inl (by omega)))))
        have hge : ¬ findI f s 0 < 0 := by omega
        clear hr
        generalize findI f s 0 = r at *
        go_wp2
        go_ret2
        exact SortsTo.no HN.out hb
theorem ws_len (f : List (ByteArray × Int)) (c : ByteArray) (n : Int) : ((wsF f c n).getD []).length ≤ 64 := by
  unfold wsF
  split
  · rename_i h
    simp only [Bool.and_eq_true] at h
    have := (fontB_iff.1 h.1).2.2
    simp only [Option.getD_some, putIn_len]
    omega
  · simp
theorem szF_range : ∀ (f : List (ByteArray × Int)) (l : Int), 0 ≤ l → szF f l ≤ l
  | [], l, _ => Int.le_refl _
  | x :: r, l, h => by
    simp only [szF]
    split
    · omega
    · have := szF_range r (l - x.1.size) (by omega)
      omega
theorem sz_range (f : List (ByteArray × Int)) (l : Int) (h : 0 ≤ l) : szSortSF f l ≤ l := by
  unfold szSortSF
  split
  · omega
  · have := szF_range f (l - f.length) (by omega)
    omega
end Go.Proofs.YtiihhilhiknckaaGreatDoor
