/-
  Places where a word may break, told plainly; the contracts of spec.hyPlaces, spec.hyAsked and spec.HyphenPlaces.
-/
import Derived.Test.YtcbhhbcfnaekpaaDoorHyn
import Derived.Test.YtcbhhbcfnaekpaaDoorHyj
namespace Go.Proofs.YtcbhhbcfnaekpaaDoor
open Go.RowKit
set_option linter.unusedVariables false

/-- The first exception that is the word without its hyphens. -/
def exFind : List ByteArray → ByteArray → Option ByteArray
  | [], _ => none
  | e :: r, wd => if exW e = wd then some e else exFind r wd
theorem exFind_drop (es : List ByteArray) (wd : ByteArray) (k : Nat) (h : k < es.length) : exFind (es.drop k) wd = if exW es[k] = wd then some es[k] else exFind (es.drop (k + 1)) wd := by
  rw [List.drop_eq_getElem_cons h]; rfl
theorem exFind_none : ∀ {es : List ByteArray} {wd : ByteArray}, hasS (es.map exW) wd = false → exFind es wd = none
  | [], _, _ => rfl
  | e :: r, wd, h => by
    have h2 : ¬ exW e = wd ∧ hasS (r.map exW) wd = false := by simpa [hasS] using h
    unfold exFind
    rw [if_neg h2.1]
    exact exFind_none h2.2
theorem exFind_at : ∀ {es : List ByteArray} {wd : ByteArray} {i : Nat} (hi : i < es.length), (es.map exW).Nodup → exW es[i] = wd → exFind es wd = some es[i]
  | e :: r, wd, 0, _, _, h => by
    unfold exFind; rw [if_pos (by simpa using h)]; rfl
  | e :: r, wd, i + 1, hi, hn, h => by
    rw [List.map_cons, List.nodup_cons] at hn
    have h1 : exW (r[i]'(by simpa using hi)) = wd := by simpa using h
    have hne : ¬ exW e = wd := fun e2 => hn.1 (by rw [e2, ← h1]; exact List.mem_map.2 ⟨_, List.getElem_mem _, rfl⟩)
    unfold exFind
    rw [if_neg hne, exFind_at (by simpa using hi) hn.2 h1]
    rfl
def hyRaw (ps es : List ByteArray) (wd : ByteArray) : List Int := match exFind es wd with | some e => exP e | none => oddL (valL ps wd)
/-- All places where the word may break. -/
def hyPl (ps es : List ByteArray) (wd : ByteArray) : List Int := (hyRaw ps es wd).filter (kpB wd.size)
theorem hyRaw_some {ps es : List ByteArray} {wd e : ByteArray} (h : exFind es wd = some e) : hyRaw ps es wd = exP e := by unfold hyRaw; rw [h]
theorem hyRaw_none {ps es : List ByteArray} {wd : ByteArray} (h : exFind es wd = none) : hyRaw ps es wd = oddL (valL ps wd) := by unfold hyRaw; rw [h]
theorem plG_ge : ∀ (l : List UInt8) (n : Nat), (∀ x ∈ plG n l, (n : Int) ≤ x) ∧ (plG n l).Pairwise (· ≤ ·)
  | [], n => by simp [plG]
  | c :: r, n => by
    unfold plG
    split
    · obtain ⟨h1, h2⟩ := plG_ge r n
      exact ⟨fun x hx => by rcases List.mem_cons.1 hx with rfl | hx; · omega
                            · exact h1 x hx, List.pairwise_cons.2 ⟨h1, h2⟩⟩
    · obtain ⟨h1, h2⟩ := plG_ge r (n + 1)
      exact ⟨fun x hx => by have := h1 x hx; omega, h2⟩
theorem oddG_up : ∀ (l : List Int) (n : Nat), (oddG n l).Pairwise (· ≤ ·)
  | [], n => by simp [oddG]
  | c :: r, n => by
    unfold oddG
    split
    · exact List.pairwise_cons.2 ⟨fun x hx => by have := oddG_mem r (n + 1) x hx; omega, oddG_up r (n + 1)⟩
    · exact oddG_up r (n + 1)
theorem exP_up (s : ByteArray) : (exP s).Pairwise (· ≤ ·) := by
  unfold exP
  split
  · exact (plG_ge _ 0).2
  · simp
theorem exP_len (s : ByteArray) : (exP s).length ≤ s.size := by
  unfold exP
  split
  · have := placeL_len s.data.toList
    rw [len_list] at this; exact this
  · exact Nat.zero_le _
theorem hyPl_up (ps es : List ByteArray) (wd : ByteArray) : (hyPl ps es wd).Pairwise (· ≤ ·) := by
  unfold hyPl hyRaw
  refine List.Pairwise.filter _ ?_
  split
  · exact exP_up _
  · exact oddG_up _ _
theorem hyPl_in {ps es : List ByteArray} {wd : ByteArray} : ∀ x ∈ hyPl ps es wd, 2 ≤ x ∧ x ≤ (wd.size : Int) - 2 := fun x hx => by
  have h := (List.mem_filter.1 hx).2
  unfold kpB at h
  simp only [Bool.and_eq_true, decide_eq_true_eq] at h
  exact h
theorem filt_len {kp : Int → Bool} (L : List Int) (j : Nat) : ((L.take j).filter kp).length ≤ j := by
  have h1 := List.length_filter_le kp (L.take j)
  rw [List.length_take] at h1
  omega
theorem filt_next {kp : Int → Bool} {L : List Int} {j : Nat} (h : j < L.length) : (L.take (j + 1)).filter kp = (L.take j).filter kp ++ (if kp L[j] then [L[j]] else []) := by
  rw [List.take_succ_eq_append_getElem h, List.filter_append]
  congr 1
  by_cases hk : kp L[j] <;> simp [hk]
def okV (wd : ByteArray) (V : List Int) (k : Nat) : List Int := (oddL (V.take k)).filter (kpB wd.size)
theorem okV_yes {wd : ByteArray} {V : List Int} {k : Nat} (h : k < V.length) (h1 : V[k] % 2 = 1) (h2 : kpB wd.size ((k : Int) + 1) = true) : okV wd V (k + 1) = okV wd V k ++ [(k : Int) + 1] := by
  unfold okV; rw [oddL_yes h h1, List.filter_append]; simp [h2]
theorem okV_odd {wd : ByteArray} {V : List Int} {k : Nat} (h : k < V.length) (h1 : V[k] % 2 = 1) (h2 : kpB wd.size ((k : Int) + 1) = false) : okV wd V (k + 1) = okV wd V k := by
  unfold okV; rw [oddL_yes h h1, List.filter_append]; simp [h2]
theorem okV_no {wd : ByteArray} {V : List Int} {k : Nat} (h : k < V.length) (h1 : ¬ V[k] % 2 = 1) : okV wd V (k + 1) = okV wd V k := by
  unfold okV; rw [oddL_no h h1]
theorem okV_len (wd : ByteArray) (V : List Int) (k : Nat) : (okV wd V k).length ≤ k := by
  have h1 := List.length_filter_le (kpB wd.size) (oddL (V.take k))
  have h2 := oddG_len (V.take k) 1
  rw [List.length_take] at h2
  unfold okV oddL at *
  omega
set_option maxRecDepth 100000 in
set_option maxHeartbeats 4000000 in
theorem hyPlaces_any (ps : List ByteArray) (A : Option Addr) (c : Nat) (es : List ByteArray) (B : Option Addr) (d : Nat) (wd : ByteArray) (w : World) (hf : StrsIn w A ps) (ho : StrsLe ps) (hn : ps.length ≤ 1048576) (hf' : StrsIn w B es) (ho' : StrsLe es) (hn' : es.length ≤ 1048576) (hp : patsA ps = true) (h1 : 1 ≤ wd.size) (h16 : wd.size ≤ 16) :
    Calls Tryd.prog 56 #[.slice A ps.length c, .slice B es.length d, .string wd] w fun e w' => ∃ v, e = .returned v ∧ Below w.heap.size w w' ∧ w'.ownsRow w.heap.size 3 1 v (hyPl ps es wd).length (intsZ (hyPl ps es wd)) := by
  obtain ⟨i0, hi, hz0, hz1, hz2⟩ := info_parts info3
  have HI0 := Lib.hid hi; have HZ0 := Lib.hid hz0; have HZ1 := Lib.hid hz1; have HZ2 := Lib.hid hz2
  clear hi hz0 hz1 hz2
  have HF := Lib.hid hf; have HF' := Lib.hid hf'; have HO1 := Lib.hid ho; have HO' := Lib.hid ho'; have HP := Lib.hid hp
  clear hf hf' ho ho' hp
  go_enter Tryd.func56, Tryd.ntmps56
  go_wp2
  go_loopw [7, 19] (fun t7 i wr => ∃ (k : Nat), k ≤ es.length ∧ i = .int .i64 k ∧ t7 = .slice none 0 0 ∧ Hid (exFind es wd = exFind (es.drop k) wd) ∧ Hid (Below w.heap.size w wr)) (fun _ i _ => es.length - (intOf i).toNat)
  case atStart => exact ⟨0, Nat.zero_le _, rfl, rfl, Lib.hid rfl, Lib.hid (Below.refl _ _)⟩
  case round =>
    obtain ⟨k, hk, rfl, rfl, HS, HB⟩ := hrel
    have hbs := HB.out.size
    by_cases hlt : k < es.length
    · obtain ⟨b, off, hA, hbl, hc⟩ := HF'.out (by omega)
      subst hA
      have hc0 := (HB.out.cell (p := ⟨b, off + k, none⟩) hbl).trans (hc k hlt)
      clear hc
      have hok := HO'.out k hlt
      have HD := Lib.hid (exFind_drop es wd k hlt)
      by_cases he : exW es[k] = wd
      · have HR : Hid (hyRaw ps es wd = exP es[k]) := Lib.hid (hyRaw_some (by rw [HS.out, HD.out, if_pos he]))
        have ht := str_eq he
        have hpl := exP_len es[k]
        clear he
        go_wp2_with fail
        refine (hyBare_is _ _ _ hok (Lib.hid rfl)).mono ?_
        rintro e w1 ⟨A1, c1, rfl, hb1, ho1⟩
        have HB1 := Lib.hid (HB.out.trans (hb1.mono HB.out.size))
        have HIN := Lib.hid (own_in ho1)
        clear hb1 ho1 HB HD
        generalize exW es[k] = we at *
        generalize exP es[k] = P at *
        generalize exB es[k] = be at *
        go_wp2
        go_loopw [7, 34] (fun v i wr => ∃ (q : Nat) (A2 : Option Addr) (n c2 : Nat), q ≤ P.length ∧ i = .int .i64 q ∧ v = .slice A2 n c2 ∧ Hid (n = ((P.take q).filter (kpB wd.size)).length) ∧ Hid (wr.ownsRow w1.heap.size 3 1 (.slice A2 n c2) n (intsZ ((P.take q).filter (kpB wd.size)))) ∧ Hid (Below w1.heap.size w1 wr)) (fun _ i _ => P.length - (intOf i).toNat)
        case atStart => exact ⟨0, none, 0, 0, Nat.zero_le _, rfl, rfl, Lib.hid rfl, Lib.hid (own_nil _ _ _ _), Lib.hid (Below.refl _ _)⟩
        case round =>
          obtain ⟨q, A2, n, c2, hq, rfl, rfl, HN, HO, HBx⟩ := hrel
          have HB := Lib.hid (HB1.out.trans (HBx.out.mono HB1.out.size))
          have hbs3 := HBx.out.size
          have hnq : n ≤ q := by have h1 := HN.out; have h2 := filt_len (kp := kpB wd.size) P q; omega
          by_cases hqp : q < P.length
          · obtain ⟨b9, o9, hA9, hbl9, hc9⟩ := HIN.out (by omega)
            subst hA9
            have hcq := (HBx.out.cell (p := ⟨b9, o9 + q, none⟩) hbl9).trans (hc9 q hqp)
            clear hc9
            have HFN := Lib.hid (filt_next (kp := kpB wd.size) hqp)
            cases hkp : kpB wd.size P[q]
            · have HF2 : Hid ((P.take (q + 1)).filter (kpB wd.size) = (P.take q).filter (kpB wd.size)) := Lib.hid (by rw [HFN.out, hkp]; simp)
              have hd : (decide ((2 : Int) ≤ P[q]) && decide (P[q] ≤ (wd.size : Int) - 2)) = false := hkp
              clear hkp
              generalize P[q] = y at *
              go_wp2_with (go_at_call 61; refine (in_any _ _ _ _).mono ?_; rintro e w' ⟨rfl, rfl⟩)
              go_roundw
              case rel => exact ⟨q + 1, A2, n, c2, by omega, by go_num, rfl, Lib.hid (by rw [HF2.out]; exact HN.out), Lib.hid (by rw [HF2.out]; exact HO.out), HBx⟩
              case measure => simp [intOf]; omega
            · have HF2 : Hid ((P.take (q + 1)).filter (kpB wd.size) = (P.take q).filter (kpB wd.size) ++ [P[q]]) := Lib.hid (by rw [HFN.out, hkp]; simp)
              have HPL : Hid (intsZ ((P.take (q + 1)).filter (kpB wd.size)) = intsZ ((P.take q).filter (kpB wd.size)) ++ [.int .i64 P[q]]) := Lib.hid (by rw [HF2.out, intsZ_snoc])
              have hd : (decide ((2 : Int) ≤ P[q]) && decide (P[q] ≤ (wd.size : Int) - 2)) = true := hkp
              have hmx : n + 1 ≤ maxLen := by unfold maxLen; omega
              clear hkp
              generalize P[q] = y at *
              go_wp2_with (first | (go_at_call 61; refine (in_any _ _ _ _).mono ?_; rintro e w' ⟨rfl, rfl⟩) | (at_builtin; refine wpList_append_own _ rfl _ _ 28 rfl w1.heap.size 3 i0 (.int .i64 0) 1 8 Tryd.underlying28 HI0.out HZ0.out HZ1.out HZ2.out rfl (by decide) _ _ _ rfl (HO.out.alloc _) ⟨wr.heap.size, 0, none⟩ 1 1 [.int .i64 y] rfl rfl (cell_one_new _ _ _) (by simp [Value.oneCell']) hmx (by omega) (by simp; omega) ?_))
              intro v' w4 hown' hgrow _
              have hb4 : Below w1.heap.size w1 w4 := below_append HBx.out hgrow HBx.out.size (own_lt HO.out)
              rw [← HPL.out] at hown'
              obtain ⟨A4, c4, hv4⟩ := own_shape hown'
              subst hv4
              have HO4 := Lib.hid hown'; have HB4 := Lib.hid hb4
              clear hown' hgrow hb4
              go_wp2
              go_roundw
              case rel => exact ⟨q + 1, A4, n + 1, c4, by omega, by go_num, rfl, Lib.hid (by rw [HF2.out, List.length_append, ← HN.out]; rfl), HO4, HB4⟩
              case measure => simp [intOf]; omega
          · obtain rfl : q = P.length := by omega
            have HOF : Hid (wr.ownsRow w.heap.size 3 1 (.slice A2 n c2) (hyPl ps es wd).length (intsZ (hyPl ps es wd))) := Lib.hid (by
              have h1 := HO.out; have h2 := HN.out
              rw [List.take_length] at h1 h2
              unfold hyPl
              rw [HR.out, ← h2]; exact Joins.ownsRow_le h1 HB1.out.size)
            go_wp2
            go_ret
            exact ⟨_, rfl, HB.out, HOF.out⟩
      · have ht := str_neb he
        have HS2 : Hid (exFind es wd = exFind (es.drop (k + 1)) wd) := Lib.hid (by rw [HS.out, HD.out, if_neg he])
        clear he
        go_wp2_with fail
        refine (hyBare_is _ _ _ hok (Lib.hid rfl)).mono ?_
        rintro e w1 ⟨A1, c1, rfl, hb1, -⟩
        have HB1 := Lib.hid (HB.out.trans (hb1.mono HB.out.size))
        clear hb1 HB HD
        generalize exW es[k] = we at *
        generalize (exP es[k]).length = pl at *
        generalize exB es[k] = be at *
        go_wp2
        go_roundw
        case rel => exact ⟨k + 1, by omega, by go_num, rfl, HS2, HB1⟩
        case measure => simp [intOf]; omega
    · obtain rfl : k = es.length := by omega
      have HR : Hid (hyRaw ps es wd = oddL (valL ps wd)) := Lib.hid (hyRaw_none (by rw [HS.out, List.drop_length]; rfl))
      go_wp2_with fail
      refine (hyValues_any ps A c wd _ (HF.out.below HB.out (Nat.le_refl _)) HO1.out hn HP.out h1 h16).mono ?_
      rintro e w1 ⟨v1, rfl, hb1, ho1⟩
      obtain ⟨A1, c1, hv1⟩ := own_form ho1
      subst hv1
      have HB1 := Lib.hid (HB.out.trans (hb1.mono HB.out.size))
      have HIN := Lib.hid (own_in ho1)
      have HBD := Lib.hid (valL_bd (wd := wd) HP.out)
      have hvl := valL_len ps wd
      have hvl2 : (valL ps wd).length ≤ 15 := by omega
      clear hb1 ho1 HB hvl
      have HOV : Hid (oddL (valL ps wd) = oddL (valL ps wd)) := Lib.hid rfl
      have HFIN : Hid (hyPl ps es wd = okV wd (valL ps wd) (valL ps wd).length) := Lib.hid (by unfold hyPl okV; rw [HR.out, List.take_length])
      clear HOV
      generalize valL ps wd = V at *
      go_wp2
      go_loopw [7, 54] (fun v i wr => ∃ (q : Nat) (A2 : Option Addr) (n c2 : Nat), q ≤ V.length ∧ i = .int .i64 q ∧ v = .slice A2 n c2 ∧ Hid (n = (okV wd V q).length) ∧ Hid (wr.ownsRow w1.heap.size 3 1 (.slice A2 n c2) n (intsZ (okV wd V q))) ∧ Hid (Below w1.heap.size w1 wr)) (fun _ i _ => V.length - (intOf i).toNat)
      case atStart => exact ⟨0, none, 0, 0, Nat.zero_le _, rfl, rfl, Lib.hid rfl, Lib.hid (own_nil _ _ _ _), Lib.hid (Below.refl _ _)⟩
      case round =>
        obtain ⟨q, A2, n, c2, hq, rfl, rfl, HN, HO, HBx⟩ := hrel
        have HB := Lib.hid (HB1.out.trans (HBx.out.mono HB1.out.size))
        have hbs3 := HBx.out.size
        have hnq : n ≤ q := by have h1 := HN.out; have h2 := okV_len wd V q; omega
        by_cases hqp : q < V.length
        · obtain ⟨b9, o9, hA9, hbl9, hc9⟩ := HIN.out (by omega)
          subst hA9
          have hcq := (HBx.out.cell (p := ⟨b9, o9 + q, none⟩) hbl9).trans (hc9 q hqp)
          clear hc9
          have hbd := HBD.out V[q] (List.getElem_mem hqp)
          by_cases hx : V[q] % 2 = 1
          · have ht : (V[q] % 2 == 1) = true := by rw [hx]; rfl
            cases hkp : kpB wd.size ((q : Int) + 1)
            · have HF2 := Lib.hid (okV_odd hqp hx hkp)
              have hd : (decide ((2 : Int) ≤ (q : Int) + 1) && decide ((q : Int) + 1 ≤ (wd.size : Int) - 2)) = false := hkp
              clear hkp hx
              generalize V[q] = y at *
              go_wp2_with (go_at_call 61; refine (in_any _ _ _ _).mono ?_; rintro e w' ⟨rfl, rfl⟩)
              go_roundw
              case rel => exact ⟨q + 1, A2, n, c2, by omega, by go_num, rfl, Lib.hid (by rw [HF2.out]; exact HN.out), Lib.hid (by rw [HF2.out]; exact HO.out), HBx⟩
              case measure => simp [intOf]; omega
            · have HF2 := Lib.hid (okV_yes hqp hx hkp)
              have HPL : Hid (intsZ (okV wd V (q + 1)) = intsZ (okV wd V q) ++ [.int .i64 ((q : Int) + 1)]) := Lib.hid (by rw [HF2.out, intsZ_snoc])
              have hd : (decide ((2 : Int) ≤ (q : Int) + 1) && decide ((q : Int) + 1 ≤ (wd.size : Int) - 2)) = true := hkp
              have hmx : n + 1 ≤ maxLen := by unfold maxLen; omega
              clear hkp hx
              generalize V[q] = y at *
              go_wp2_with (first | (go_at_call 61; refine (in_any _ _ _ _).mono ?_; rintro e w' ⟨rfl, rfl⟩) | (at_builtin; refine wpList_append_own _ rfl _ _ 28 rfl w1.heap.size 3 i0 (.int .i64 0) 1 8 Tryd.underlying28 HI0.out HZ0.out HZ1.out HZ2.out rfl (by decide) _ _ _ rfl (HO.out.alloc _) ⟨wr.heap.size, 0, none⟩ 1 1 [.int .i64 ((q : Int) + 1)] rfl rfl (cell_one_new _ _ _) (by simp [Value.oneCell']) hmx (by omega) (by simp; omega) ?_))
              intro v' w4 hown' hgrow _
              have hb4 : Below w1.heap.size w1 w4 := below_append HBx.out hgrow HBx.out.size (own_lt HO.out)
              rw [← HPL.out] at hown'
              obtain ⟨A4, c4, hv4⟩ := own_shape hown'
              subst hv4
              have HO4 := Lib.hid hown'; have HB4 := Lib.hid hb4
              clear hown' hgrow hb4
              go_wp2
              go_roundw
              case rel => exact ⟨q + 1, A4, n + 1, c4, by omega, by go_num, rfl, Lib.hid (by rw [HF2.out, List.length_append, ← HN.out]; rfl), HO4, HB4⟩
              case measure => simp [intOf]; omega
          · have ht : (V[q] % 2 == 1) = false := by rw [beq_eq_false_iff_ne]; exact hx
            have HF2 := Lib.hid (okV_no (wd := wd) hqp hx)
            clear hx
            generalize V[q] = y at *
            go_wp2
            go_roundw
            case rel => exact ⟨q + 1, A2, n, c2, by omega, by go_num, rfl, Lib.hid (by rw [HF2.out]; exact HN.out), Lib.hid (by rw [HF2.out]; exact HO.out), HBx⟩
            case measure => simp [intOf]; omega
        · obtain rfl : q = V.length := by omega
          have HOF : Hid (wr.ownsRow w.heap.size 3 1 (.slice A2 n c2) (hyPl ps es wd).length (intsZ (hyPl ps es wd))) := Lib.hid (by
            rw [HFIN.out, ← HN.out]; exact Joins.ownsRow_le HO.out HB1.out.size)
          go_wp2
          go_ret
          exact ⟨_, rfl, HB.out, HOF.out⟩
end Go.Proofs.YtcbhhbcfnaekpaaDoor
