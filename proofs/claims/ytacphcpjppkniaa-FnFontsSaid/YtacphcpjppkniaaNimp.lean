/-
  The contract of impl.NarrowestWay.
-/
import Derived.Test.YtacphcpjppkniaaNst
import Derived.Test.YtacphcpjppkniaaMil
import Derived.OwnWalk
namespace Go.Proofs.Ytacphcpjppkniaa
open Go.RowKit
set_option linter.unusedVariables false

/-- What NarrowestWay answers: the narrowest way, if there is one. -/
noncomputable def narW (f : List (ByteArray × Int)) (s : ByteArray) : Option (List Nat) := if fontB f && isWordF s then tabW f s s.size 0 else none
theorem narW_no {f : List (ByteArray × Int)} {s : ByteArray} (h : fontB f = false ∨ isWordF s = false) : narW f s = none := by
  unfold narW
  rcases h with h | h <;> simp [h]
theorem narW_yes {f : List (ByteArray × Int)} {s : ByteArray} (h1 : fontB f = true) (h2 : isWordF s = true) : narW f s = tabW f s s.size 0 := by
  unfold narW; simp [h1, h2]
theorem word_size {s : ByteArray} (h : isWordF s = true) : 1 ≤ s.size ∧ s.size ≤ 16 := by
  unfold isWordF tyLettersF at h
  simp at h
  have e : s.data.size = s.size := rfl
  omega
/-- A call's answer: a slice of ints of its own, the sum of the widths, and whether there is a way. -/
def NarTo (f : List (ByteArray × Int)) (w w' : World) (e : Ending) (r : Option (List Nat)) : Prop :=
  ∃ v, e = .returned (.tuple #[v, .int .i64 (widthW f r), .bool r.isSome]) ∧ Below w.heap.size w w' ∧ w'.ownsRow w.heap.size 3 1 v (intL (r.getD [])).length (intsZ (intL (r.getD [])))
theorem NarTo.no {f : List (ByteArray × Int)} {w w' : World} {e : Ending} {r : Option (List Nat)} (h : r = none) (he : e = .returned (.tuple #[.slice none 0 0, .int .i64 0, .bool false])) (hb : Below w.heap.size w w') : NarTo f w w' e r := by
  subst h; exact ⟨_, he, hb, own_nil _ _ _ _⟩
theorem NarTo.yes {f : List (ByteArray × Int)} {w w' : World} {e : Ending} {r : Option (List Nat)} {l0 acc : List Nat} {wl : Int} {v : Value} (ho : w'.ownsRow w.heap.size 3 1 v acc.length (intsZ (intL acc)))
    (h : r = some l0) (hl : l0 = acc) (hw : wideF f l0 = wl) (hb : Below w.heap.size w w') (he : e = .returned (.tuple #[v, .int .i64 wl, .bool true])) : NarTo f w w' e r := by
  subst h; subst hl; subst hw
  exact ⟨v, he, hb, by show World.ownsRow _ _ _ _ _ (intL l0).length _; rw [intL_len]; exact ho⟩
theorem intsL_snoc (l : List Nat) (i : Nat) : intsZ (intL (l ++ [i])) = intsZ (intL l) ++ [.int .i64 (i : Int)] := by simp [intsZ, intL]
theorem own_mono {w : World} {base base' size n : Nat} {e : TypeId} {v : Value} {xs : List Value} (h : w.ownsRow base e size v n xs) (hb : base' ≤ base) : w.ownsRow base' e size v n xs :=
  ⟨h.1, h.2.imp id fun ⟨g, cap, cur, hv, hg, rest⟩ => ⟨g, cap, cur, hv, Nat.le_trans hb hg, rest⟩⟩
theorem infoI : (Try.prog.info? 3).map (fun i => (i.zero, i.size, i.bytes)) = some (some (.int .i64 0), 1, 8) := by kernel_rfl

set_option maxRecDepth 100000 in
set_option maxHeartbeats 1000000 in
theorem implNar_any (f : List (ByteArray × Int)) (A : Option Addr) (cap : Nat) (s : ByteArray) (w : World) (hf : SortsIn w 0 A f) (hn : f.length ≤ 1048576) (ho : CodesOk f) (hs : s.size ≤ maxLen) :
    Calls Try.prog 21 #[.slice A f.length cap, .string s] w fun e w' => NarTo f w w' e (narW f s) := by
  have HS := Lib.hid hf; clear hf
  have HO := Lib.hid ho; clear ho
  cases h1 : fontB f
  · have HV := Lib.hid h1; clear h1
    go_enter Try.func21, Try.ntmps21
    go_wp2_with fail
    refine (implIsFont_is f A cap 0 _ false HS.out hn HO.out HV).mono ?_
    rintro e w1 ⟨rfl, hb1⟩
    go_wp2
    go_ret3
    exact NarTo.no (narW_no (.inl HV.out)) rfl hb1
  have HV := Lib.hid h1; clear h1
  cases h2 : isWordF s
  · have HW := Lib.hid h2; clear h2
    go_enter Try.func21, Try.ntmps21
    go_wp2_with fail
    refine (implIsFont_is f A cap 0 _ true HS.out hn HO.out HV).mono ?_
    rintro e w1 ⟨rfl, hb1⟩
    go_wp2_with fail
    refine (isWord_is s false _ hs HW).mono ?_
    rintro e w2 ⟨rfl, hb2⟩
    have hb := hb1.trans (hb2.mono hb1.size)
    go_wp2
    go_ret3
    exact NarTo.no (narW_no (.inr HW.out)) rfl hb
  have HW := Lib.hid h2; clear h2
  have HY := Lib.hid (narW_yes HV.out HW.out)
  have HF := Lib.hid (fontB_iff.1 HV.out)
  obtain ⟨hs1, hs16⟩ := word_size HW.out
  go_enter Try.func21, Try.ntmps21
  go_wp2_with fail
  refine (implIsFont_is f A cap 0 _ true HS.out hn HO.out HV).mono ?_
  rintro e w1 ⟨rfl, hb1⟩
  go_wp2_with fail
  refine (isWord_is s true _ hs HW).mono ?_
  rintro e w2 ⟨rfl, hb2⟩
  have hb := hb1.trans (hb2.mono hb1.size)
  have H2 := Lib.hid (HS.out.below hb (Nat.le_refl _))
  clear hb1 hb2
  go_wp2_with fail
  refine (steps_any f A cap s _ H2.out HF.out hs16).mono ?_
  rintro e w3 ⟨rfl, hb3, ht⟩
  have hb' := hb.trans (hb3.mono hb.size)
  have hgw : w.heap.size ≤ w2.heap.size := hb.size
  clear hb hb3 H2
  have HCH := Lib.hid (tabW_chain (s := s) HF.out s.size (Nat.le_refl _))
  generalize tabW f s s.size = T at *
  generalize w2.heap.size = g at *
  have hgl := ht.lt
  obtain ⟨hp0, hp1, hp2⟩ := ht.at_ (p := 0) (by omega)
  simp only [Nat.zero_mul, Nat.zero_add] at hp0 hp1 hp2
  cases h0 : T 0 with
  | none =>
    rw [h0] at hp0
    simp only [Option.isSome] at hp0
    have HN : Hid (narW f s = none) := by show _ = _; rw [HY.out]; exact h0
    clear h0 hp1 hp2
    go_wp2
    go_ret3
    exact NarTo.no HN.out rfl hb'
  | some l0 =>
    rw [h0] at hp0 hp1 hp2
    simp only [Option.isSome, widthW] at hp0 hp1 hp2
    generalize headW (some l0) = hd0 at *
    have HN : Hid (narW f s = some l0) := by show _ = _; rw [HY.out]; exact h0
    have HT0 := Lib.hid h0
    clear h0
    obtain ⟨i0, hi0', hz0, hz1, hz2⟩ := info_parts infoI
    have HI0 := Lib.hid hi0'; have HZ0 := Lib.hid hz0; have HZ1 := Lib.hid hz1; have HZ2 := Lib.hid hz2
    clear hi0' hz0 hz1 hz2
    generalize hwl : wideF f l0 = wl at *
    have HWL := Lib.hid hwl; clear hwl
    go_wp2
    go_loopw [8, 9] (fun v a wr => ∃ (p : Nat) (acc l : List Nat), p ≤ s.size ∧ a = .int .i64 (p : Int) ∧ l0 = acc ++ l ∧ T p = some l ∧ acc.length ≤ p ∧ StepTab f wr g (s.size + 1) T ∧ wr.ownsRow (g + 1) 3 1 v acc.length (intsZ (intL acc)) ∧ Below w.heap.size w wr) (fun _ a _ => s.size - (intOf a).toNat)
    case atStart => exact ⟨0, [], l0, Nat.zero_le _, rfl, rfl, HT0.out, Nat.le_refl _, ht, own_nil _ _ _ _, hb'⟩
    case round =>
      clear hp0 hp1 hp2 ht hb' hgl
      obtain ⟨p, acc, l, hp, rfl, hal, htp, hac, ht, hown, hb⟩ := hrel
      have HAL := Lib.hid hal; clear hal
      have hgl := ht.lt
      by_cases hps : p < s.size
      · rcases (HCH.out p l htp).2 with ⟨h1, _⟩ | ⟨i, r, hl, hi, hst, hnx⟩
        · omega
        subst hl
        have hle := stands_le hp hst
        have hlc := lenC_pos HF.out hi
        have hlen : lenC f i = f[i].1.size := by unfold lenC; rw [codeB0_of hi]
        rw [hlen] at hle hlc hnx
        obtain ⟨he0, he1, he2⟩ := ht.at_ (p := p) (by omega)
        rw [htp] at he0 he1 he2
        simp only [headW] at he1
        have HTP := Lib.hid htp
        have HNX := Lib.hid hnx
        have HSTN := Lib.hid hst
        clear htp hnx hst he0 he2
        obtain ⟨b, off, rfl, _, hbl, hc⟩ := HS.out (by omega)
        obtain ⟨hc0, hc1⟩ := hc i hi
        clear hc hc1
        rw [← hb.cell (p := ⟨b, off + i * 2, none⟩) hbl] at hc0
        have hbw : b < wr.heap.size := Nat.lt_of_lt_of_le hbl hb.size
        have hmx : acc.length + 1 ≤ maxLen := by unfold maxLen; omega
        have hsw : g + 1 ≤ wr.heap.size := hgl
        go_wp2_with (at_builtin; refine wpList_append_own _ rfl _ _ 26 rfl (g + 1) 3 i0 (.int .i64 0) 1 8 Try.underlying26 HI0.out HZ0.out HZ1.out HZ2.out rfl (by decide) _ _ _ rfl (hown.alloc _) ⟨wr.heap.size, 0, none⟩ 1 1 [.int .i64 (i : Int)] rfl rfl (cell_one_new _ _ _) (by simp [Value.oneCell']) hmx (by omega) (by simp; omega) ?_)
        intro v' w4 hown' hgrow _
        have hb4 : Below w.heap.size w w4 := below_append hb hgrow hb.size (fun k hk => by have := own_lt hown k hk; omega)
        have hbg : Below (g + 1) wr w4 := below_append (Below.refl _ _) hgrow hsw (own_lt hown)
        have ht4 : StepTab f w4 g (s.size + 1) T := (hbg.block g (by omega)).trans ht
        have hc4 : w4.cell? ⟨b, off + i * 2, none⟩ = some (.string f[i].1) := (hbg.cell (by show b < _; omega)).trans hc0
        have HO1 : Hid (w4.ownsRow (g + 1) 3 1 v' (acc ++ [i]).length (intsZ (intL (acc ++ [i])))) := by
          rw [List.length_append, intsL_snoc]; exact hown'
        clear hown' hgrow hown hb ht hc0 he1 hbg
        have HT4 := Lib.hid ht4
        clear ht4
        go_wp2
        go_roundw
        case rel => exact ⟨p + f[i].1.size, acc ++ [i], r, hle, by go_num, by rw [HAL.out]; simp, HNX.out, by simp; omega, HT4.out, HO1.out, hb4⟩
        case measure => simp [intOf]; omega
      · obtain rfl : p = s.size := by omega
        have hl : l = [] := by
          rcases (HCH.out s.size l htp).2 with ⟨_, h2⟩ | ⟨i, r, hl, hi, hst, hnx⟩
          · exact h2
          · have := stands_le (Nat.le_refl _) hst
            have := lenC_pos HF.out hi
            omega
        subst hl
        rw [List.append_nil] at HAL
        have HTP := Lib.hid htp
        clear htp
        obtain ⟨hp0, hp1, hp2⟩ := ht.at_ (p := 0) (by omega)
        simp only [Nat.zero_mul, Nat.zero_add] at hp0 hp1 hp2
        rw [HT0.out] at hp2
        simp only [widthW] at hp2
        rw [HWL.out] at hp2
        have hx2 := KeptW.cell hp2 hgl
        clear hp0 hp1
        go_wp2_with fail
        refine region_kept wr.heap.size (by kernel_rfl) (by kernel_rfl) ?_
        repeat (go_big_quiet_step (fail))
        refine wpQuiet_nil ?_
        intro w5 hb5
        have hb' : Below w.heap.size w w5 := hb.trans (hb5.mono hb.size)
        have HO5 : Hid (w5.ownsRow w.heap.size 3 1 _ acc.length (intsZ (intL acc))) := Lib.hid (own_mono (own_below hown hb5) (by omega))
        clear hb5 hb hown hp2 hx2 ht
        go_wp2
        go_ret3
        exact NarTo.yes HO5.out HN.out HAL.out HWL.out hb' rfl
end Go.Proofs.Ytacphcpjppkniaa
