/-
  The contract of impl.SpacesText, given the library's table of powers.
-/
import Derived.Test.YthhmbcgamcbfdaaDoorZa
import Derived.Test.YthhmbcgamcbfdaaDoorZb
import Derived.Test.YthhmbcgamcbfdaaDoorVq
import Derived.Test.YthhmbcgamcbfdaaDoorSh7
import Derived.Lib.AppendIntMem
namespace Go.Proofs.YthhmbcgamcbfdaaDoor
open Go.RowKit Go.Shelf
set_option linter.unusedVariables false
attribute [local go_sem] Oper.semAt_some encB BwI.w

theorem info_str : (Tryd.prog.info? 9).map (fun i => (i.zero, i.size, i.bytes)) = some (some (.string .empty), 1, 16) := by kernel_rfl
def strs (l : List ByteArray) : List Value := l.map fun s => .string s
theorem strs_len (l : List ByteArray) : (strs l).length = l.length := by simp [strs]
theorem itoa_any (z : Int) (D : ByteArray) (W : World) (h : 0 ≤ z ∧ z ≤ 1000) (hD : numB z = D) (ht : Tab W) : Calls Tryd.prog 38 #[.int .i64 z] W fun e w' => e = .returned (.string D) ∧ Below W.heap.size W w' := by
  refine (Tryd.strconv_Itoa z (by omega) (by omega) W ht).mono ?_
  rintro e w' ⟨rfl, q, os, rfl⟩
  exact ⟨by rw [← hD, ← numB_itoa h.1]; rfl, Lib.below_grow _ _ (Nat.le_refl _) _ _⟩
theorem own_slice {w : World} {base n : Nat} {e : TypeId} {v : Value} {xs : List Value} (h : w.ownsRow base e 1 v n xs) : ∃ A c, v = .slice A n c := by
  rcases h.2 with ⟨rfl, h0⟩ | ⟨g, cap, cur, rfl, _⟩
  · exact ⟨none, 0, by rw [h0]⟩
  · exact ⟨_, _, rfl⟩
/-- What a round adds. -/
def prS {l : List Int} (cs : List Int) (x : BwI l) : List ByteArray := if 0 < cs.getD x.i 0 then [numB (cs.getD x.i 0) ++ ⟨#[120]⟩ ++ numB x.w] else []
def psP {l : List Int} (cs : List Int) (pre : List (BwI l)) : List ByteArray := pre.flatMap (prS cs)
theorem psP_snoc {l : List Int} (cs : List Int) (pre : List (BwI l)) (x : BwI l) : psP cs (pre ++ [x]) = psP cs pre ++ prS cs x := by simp [psP]
theorem psP_len {l : List Int} (cs : List Int) : ∀ pre : List (BwI l), (psP cs pre).length ≤ pre.length
  | [] => Nat.le_refl _
  | x :: r => by
    have ih := psP_len cs r
    have e : psP cs (x :: r) = prS cs x ++ psP cs r := rfl
    rw [e, List.length_append]
    have h1 : (prS cs x).length ≤ 1 := by unfold prS; split <;> simp
    simp only [List.length_cons]; omega
theorem psP_bw {l : List Int} (cs : List Int) : ∀ k : Nat, k ≤ l.length → psP cs (bwL l k) = ptS l cs k
  | 0, _ => rfl
  | k + 1, hk => by
    have ih := psP_bw (l := l) cs k (by omega)
    have hlt : l.length - 1 - k < l.length := by omega
    rw [bwL_succ (show k < l.length by omega), psP_snoc, ih]
    have hw : (⟨l.length - 1 - k, hlt⟩ : BwI l).w = vAt l k := by unfold vAt; rw [getD_of hlt]; rfl
    unfold prS
    show _ ++ (if 0 < cs.getD (l.length - 1 - k) 0 then _ else _) = _
    by_cases h : 0 < cAt l cs k
    · have h' : 0 < cs.getD (l.length - 1 - k) 0 := h
      rw [if_pos h', ptS_yes h, hw]; rfl
    · have h' : ¬ 0 < cs.getD (l.length - 1 - k) 0 := h
      rw [if_neg h', ptS_no h, List.append_nil]
theorem jn_size {L : List ByteArray} (h6 : L.length ≤ 6) (hs : ∀ x ∈ L, x.size ≤ 3000) : (Lib.join (L.map (·.data.toList)) [43]).length ≤ 140737488355328 := by
  have hb : ∀ L : List ByteArray, (∀ x ∈ L, x.size ≤ 3000) → (frT L).length ≤ 3001 * L.length := by
    intro L
    induction L with
    | nil => intro _; exact Nat.le_refl _
    | cons x r ih =>
      intro h
      have h1 := ih (fun y hy => h y (List.mem_cons_of_mem _ hy))
      have h2 := h x List.mem_cons_self
      have e : frT (x :: r) = (43 :: x.data.toList) ++ frT r := rfl
      have e2 : x.data.toList.length = x.size := Array.length_toList
      rw [e, List.length_append, List.length_cons, List.length_cons]
      omega
  by_cases h0 : L = []
  · subst h0; simp [Lib.join, List.intercalate]
  · have h1 := hb L hs
    rw [fr_join L h0, List.length_cons] at h1
    omega
theorem pt_size {l cs : List Int} (hg : GoodK l) (hl : cs.length = l.length) (hc : ∀ j (h : j < cs.length), 0 ≤ cs[j] ∧ cs[j] ≤ 400) : ∀ d, d ≤ l.length → (ptS l cs d).length ≤ d ∧ ∀ x ∈ ptS l cs d, x.size ≤ 3000
  | 0, _ => ⟨Nat.le_refl _, fun x hx => by cases hx⟩
  | d + 1, hd => by
    obtain ⟨ih1, ih2⟩ := pt_size hg hl hc d (by omega)
    obtain ⟨h1, h2⟩ := at_range hg hl hc (show d < l.length by omega)
    have n1 := numB_size h1; have n2 := numB_size h2
    by_cases h : 0 < cAt l cs d
    · rw [ptS_yes h]
      refine ⟨by rw [List.length_append]; show _ + 1 ≤ _; omega, fun x hx => ?_⟩
      rcases List.mem_append.1 hx with hx | hx
      · exact ih2 x hx
      · rw [List.mem_singleton.1 hx]
        simp only [ByteArray.size_append]
        have e2 : (⟨#[120]⟩ : ByteArray).size = 1 := rfl
        omega
    · rw [ptS_no h]; exact ⟨by omega, ih2⟩
set_option maxRecDepth 100000 in
set_option maxHeartbeats 4000000 in
theorem implSpacesText_any (l : List Int) (A : Option Addr) (c : Nat) (cs : List Int) (B : Option Addr) (e : Nat) (w : World) (hf : IntsIn w A l) (hn : l.length ≤ 1048576) (hg : IntsIn w B cs) (hm : cs.length ≤ 1048576) (ht : Tab w) :
    Calls Tryd.prog 13 #[.slice A l.length c, .slice B cs.length e] w fun e w' => e = .returned (.tuple #[.string (spcT l cs), .bool (spcAsk l cs)]) ∧ Below w.heap.size w w' := by
  have HF := Lib.hid hf; have HC := Lib.hid hg; have HT := Lib.hid ht; clear hf hg ht
  obtain ⟨u1, hu1⟩ : ∃ x : World, x = w.alloc (.cells #[.slice B cs.length e] 23) := ⟨_, rfl⟩
  have z1 : u1.heap.size = w.heap.size + 1 := by rw [hu1, World.size_alloc]
  have HX1 : Hid (Boxed u1 w.heap.size 23 (.slice B cs.length e)) := Lib.hid (by rw [hu1]; exact Boxed.new _ _ _)
  have HB1 : Hid (Below w.heap.size w u1) := Lib.hid (by rw [hu1]; exact (Below.refl _ _).alloc (Nat.le_refl _) _)
  have HW1 := Lib.hid hu1; clear hu1
  have HQ1 := Lib.hid z1; clear z1
  have HF1 := Lib.hid (HF.out.below HB1.out (Nat.le_refl _)); have HC1 := Lib.hid (HC.out.below HB1.out (Nat.le_refl _))
  have hx1 := HX1.out.cell
  cases hk : spcAsk l cs
  · have HK := Lib.hid hk; clear hk
    go_enter Tryd.func13, Tryd.ntmps13
    go_wp2_with fail
    rw [← HW1.out]
    go_wp2_with fail
    refine (areSpaceCounts_any l A c cs B e _ HF1.out HC1.out hn hm).mono ?_
    rintro e' w' ⟨rfl, rfl⟩
    have HKK : Hid ((kindsB l && cntB l cs) = false) := HK
    rw [HKK.out]
    go_wp2
    go_ret2
    exact ⟨ret_strb (spcT_no HK.out).symm rfl, HB1.out⟩
  have HK := Lib.hid hk; clear hk
  obtain ⟨hgk, hlen, hcs⟩ := spcAsk_iff.1 HK.out
  have HG := Lib.hid hgk; have HL := Lib.hid hlen; have HCS := Lib.hid hcs
  have hl6 := hgk.six; have hl1 := hgk.one
  clear hgk hlen hcs
  obtain ⟨i0, hi, hz0, hz1, hz2⟩ := info_parts info_str
  have HI := Lib.hid hi; have HZ0 := Lib.hid hz0; have HZ1 := Lib.hid hz1; have HZ2 := Lib.hid hz2
  clear hi hz0 hz1 hz2
  obtain ⟨u2, hu2⟩ : ∃ x : World, x = u1.alloc (.cells #[.slice none 0 0] 60) := ⟨_, rfl⟩
  have z2 : u2.heap.size = u1.heap.size + 1 := by rw [hu2, World.size_alloc]
  have HX2 : Hid (Boxed u2 u1.heap.size 60 (.slice none 0 0)) := Lib.hid (by rw [hu2]; exact Boxed.new _ _ _)
  have HB2 : Hid (Below u1.heap.size u1 u2) := Lib.hid (by rw [hu2]; exact (Below.refl _ _).alloc (Nat.le_refl _) _)
  have HW2 := Lib.hid hu2; clear hu2
  have HQ2 := Lib.hid z2; clear z2
  obtain ⟨b, off, rfl, hbl, hc⟩ := HF.out (by omega)
  obtain ⟨b', off', rfl, hbl', hc'⟩ := HC.out (by have := HL.out; omega)
  have HKC := Lib.hid hc; have HKD := Lib.hid hc'
  clear hc hc'
  refine (callsIn_wide (n := 6)).1 ?_
  have n6 : 1 ≤ 6 := by omega
  refine callsIn_of_wp_marks Tryd.func13 rfl trivial ?_ rfl
  simp only [Tryd.ntmps13, List.size_toArray, List.length_cons, List.length_nil, Nat.reduceAdd, Nat.reduceSub, Array.replicate_succ, Array.replicate_zero, List.push_toArray, List.append_toArray, List.nil_append, List.cons_append]
  refine wpIn_wide.2 ?_
  go_wp2_with fail
  rw [← HW1.out]
  go_wp2_with fail
  refine (areSpaceCounts_any l _ c cs _ e _ HF1.out HC1.out hn hm).mono ?_
  rintro e' w' ⟨rfl, rfl⟩
  have HKK : Hid ((kindsB l && cntB l cs) = true) := HK
  rw [HKK.out]
  go_wp2_with fail
  rw [← HW2.out]
  refine (backward_any _ l.length c u2).mono ?_
  rintro e' w4 ⟨rfl, hw4⟩
  have HBK : Hid (Boxed w4 u2.heap.size 23 (.slice (some ⟨b, off, none⟩) l.length c)) := Lib.hid (by rw [hw4]; exact Boxed.new _ _ _)
  have HB4 : Hid (Below u2.heap.size u2 w4) := Lib.hid (by rw [hw4]; exact (Below.refl _ _).alloc (Nat.le_refl _) _)
  have HB24 : Hid (Below u1.heap.size u1 w4) := Lib.hid (HB2.out.trans (HB4.out.mono HB2.out.size))
  have HBW4 : Hid (Below w.heap.size w w4) := Lib.hid (HB1.out.trans (HB24.out.mono HB1.out.size))
  have HX14 := Lib.hid ((HB24.out.block _ HX1.out.lt).trans HX1.out)
  have HX24 := Lib.hid ((HB4.out.block _ HX2.out.lt).trans HX2.out)
  clear hw4
  go_wp2
  refine (wpIn_wide (n := 6)).1 ?_
  have hz4 : u2.heap.size < w4.heap.size := Boxed.lt HBK.out
  have hzb : u1.heap.size ≤ w4.heap.size := HB24.out.size
  have hkb : ∀ q, (q = u2.heap.size ∨ q = b) → q < w4.heap.size := fun q hq => by
    rcases hq with rfl | rfl
    · exact HBK.out.lt
    · exact Nat.lt_of_lt_of_le hbl HBW4.out.size
  refine wpIn_rangeFunc_ownF (F := Fence.wide) (n := 6) rfl n6 (gf := 46) (lb := #[.pointer (some ⟨u2.heap.size, 0, none⟩)]) rfl trivial (enters_of Tryd.func46 (by kernel_rfl) rfl)
    (back_stops 5 (by omega) u2.heap.size b off l c w4 HBK.out (Nat.lt_of_lt_of_le hbl HBW4.out.size) (fun k hk => (HBW4.out.cell (p := ⟨b, off + k, none⟩) hbl).trans (HKC.out k hk)) hn) KpL.t (KpL.kb hkb) (Below.refl _ _) (fun _ => rfl)
    (fun pre W => (∃ v, Boxed W u1.heap.size 60 v ∧ W.ownsRow w4.heap.size 9 1 v (psP cs pre).length (strs (psP cs pre)) ∧ True) ∧ Below u1.heap.size w4 W)
    (fun _ _ _ => False)
    (OwnFrom.and (_root_.Go.Own.from (holdsRow_own w4.heap.size u1.heap.size 60 9 1 (fun pre => (psP cs pre).length) (fun pre => strs (psP cs pre)) (fun _ _ => True)) _) (ownFrom_below hzb hzb))
    (fun _ _ _ _ _ hs _ _ => hs)
    ⟨⟨_, HX24.out, own_nil _ _ _ _, trivial⟩, Below.refl _ _⟩ ?act ?assign ?body ?done ?stop
  case assign =>
    intro lq x W K hK
    gi_wp2
    exact hK
  case body =>
    rintro lp pre x W ⟨⟨v, hX, hO, _⟩, hB⟩ hpl
    have hv1 := HG.out.rise.pos x.i x.lt x.lt
    have hv54 := HG.out.le x.lt
    have hxc : x.i < cs.length := by rw [HL.out]; exact x.lt
    have hz := HCS.out x.i hxc
    have HSN := Lib.hid (psP_snoc cs pre x)
    have hpn := psP_len cs pre
    have HPR : Hid (prS cs x = if 0 < cs[x.i] then [numB cs[x.i] ++ ⟨#[120]⟩ ++ numB (l[x.i]'x.lt)] else []) := Lib.hid (by unfold prS; rw [getD_of hxc]; rfl)
    have x0 := (hB.cell (p := ⟨w.heap.size, 0, none⟩) (by show w.heap.size < u1.heap.size; have := HQ1.out; omega)).trans (Boxed.cell HX14.out)
    have x1 := (hB.cell (p := ⟨b', off' + x.i, none⟩) (by show b' < u1.heap.size; have := HQ1.out; omega)).trans ((HBW4.out.cell (p := ⟨b', off' + x.i, none⟩) hbl').trans (HKD.out x.i hxc))
    have hxl := x.lt
    have hxl' : (x.i : Int) < (cs.length : Int) := by omega
    have hxi0 : (0 : Int) ≤ (x.i : Int) := by omega
    have hwl : w4.heap.size ≤ W.heap.size := hB.size
    have HLT : Hid (w.heap.size < W.heap.size ∧ b' < W.heap.size ∧ u1.heap.size ≤ W.heap.size) := Lib.hid (by have := HQ1.out; omega)
    have HX := Lib.hid hX; have HO := Lib.hid hO; have HB := Lib.hid hB
    clear hX hO hB
    generalize cs[x.i] = z at *
    generalize l[x.i] = y at *
    by_cases hz0 : 0 < z
    · have HSN2 : Hid (psP cs (pre ++ [x]) = psP cs pre ++ [numB z ++ ⟨#[120]⟩ ++ numB y]) := Lib.hid (by rw [HSN.out, HPR.out, if_pos hz0])
      clear HSN HPR
      obtain ⟨D1, hD1⟩ : ∃ D, numB z = D := ⟨_, rfl⟩
      obtain ⟨D2, hD2⟩ : ∃ D, numB y = D := ⟨_, rfl⟩
      have n1 := numB_size (z := z) (by omega); have n2 := numB_size (z := y) (by omega)
      rw [hD1] at n1 HSN2
      rw [hD2] at n2 HSN2
      have I1 : Hid (∀ W', Below w.heap.size w W' → Calls Tryd.prog 38 #[.int .i64 z] W' fun e w' => e = .returned (.string D1) ∧ Below W'.heap.size W' w') := Lib.hid (fun W' h => itoa_any z D1 W' (by omega) hD1 (HT.out.below h))
      have I2 : Hid (∀ W', Below w.heap.size w W' → Calls Tryd.prog 38 #[.int .i64 y] W' fun e w' => e = .returned (.string D2) ∧ Below W'.heap.size W' w') := Lib.hid (fun W' h => itoa_any y D2 W' (by omega) hD2 (HT.out.below h))
      clear hD1 hD2
      have hs1 : ¬ (9223372036854775807 : Nat) < D1.size + 1 := by omega
      have hs2 : ¬ (9223372036854775807 : Nat) < D1.size + 1 + D2.size := by omega
      have hxb := HX.out.cell
      gi_wp2_with fail
      have X0 := Lib.hid x0; have X1 := Lib.hid x1; have XB := Lib.hid hxb
      clear x0 x1 hxb
      have HWW : Hid (Below w.heap.size w W) := Lib.hid (HBW4.out.trans (HB.out.mono (by have := HQ1.out; have := HBW4.out.size; omega)))
      refine' region_makeR 10 (.cells #[.string (D1 ++ ⟨#[120]⟩ ++ D2)] 9) (fun p => .slice (some ⟨p, 0, none⟩) 1 1) (by first | rfl | kernel_rfl) (by kernel_rfl) (by kernel_rfl) (by kernel_rfl) (by kernel_rfl) ?hq ?hmk ?ht
      case hq =>
        intro u
        have hul := u.below.size
        obtain ⟨hl1, hl2, hl3⟩ := HLT.out
        have hXl := HX.out.lt
        have k0 := KeptW.cell (B := u.at_.heap.size) ((u.below.cell (p := ⟨w.heap.size, 0, none⟩) (by show w.heap.size < W.heap.size; omega)).trans X0.out) (by show w.heap.size < _; omega)
        have k1 := KeptW.cell (B := u.at_.heap.size) ((u.below.cell (p := ⟨b', off' + x.i, none⟩) (by show b' < W.heap.size; omega)).trans X1.out) (by show b' < _; omega)
        have k2 := KeptW.cell (B := u.at_.heap.size) ((u.below.cell (p := ⟨u1.heap.size, 0, none⟩) (by show u1.heap.size < W.heap.size; omega)).trans XB.out) (by show u1.heap.size < _; omega)
        have HUW : Hid (Below w.heap.size w u.at_) := Lib.hid (HWW.out.trans (u.below.mono HWW.out.size))
        have J1 : Hid (∀ W', Below u.at_.heap.size u.at_ W' → Calls Tryd.prog 38 #[.int .i64 z] W' fun e w' => e = .returned (.string D1) ∧ Below W'.heap.size W' w') := Lib.hid (fun W' h => I1.out W' (HUW.out.trans (h.mono HUW.out.size)))
        have J2 : Hid (∀ W', Below u.at_.heap.size u.at_ W' → Calls Tryd.prog 38 #[.int .i64 y] W' fun e w' => e = .returned (.string D2) ∧ Below W'.heap.size W' w') := Lib.hid (fun W' h => I2.out W' (HUW.out.trans (h.mono HUW.out.size)))
        clear hul hl1 hl2 hl3 hXl
        unfold After
        simp only [List.take_succ_cons, List.take_zero]
        repeat (go_big_quiet_step (fail))
        go_big_quiet_step ((go_at_call 38; exact kept_call _ (Nat.le_refl _) (J1.out _ (KeptW.below _))))
        repeat (go_big_quiet_step (fail))
        go_big_quiet_step ((go_at_call 38; exact kept_call _ (Nat.le_refl _) (J2.out _ (KeptW.below _))))
        repeat (go_big_quiet_step (fail))
        refine wpQuiet_nil ?_
        rfl
      case hmk =>
        exact ⟨rfl, fun w => by first | rfl | simp [execOp, go_sem] | kernel_rfl⟩
      case ht =>
        intro p X hbX hpX hX1
        simp only [List.drop_succ_cons, List.drop_zero]
        have HXx : Hid (Boxed X u1.heap.size 60 v) := Lib.hid ((hbX.block _ HX.out.lt).trans HX.out)
        have HOx := Lib.hid (own_below HO.out hbX)
        have hnews : ∀ j u, [Value.string (D1 ++ ⟨#[120]⟩ ++ D2)][j]? = some u → X.cell? ((⟨p, 0, none⟩ : Addr).add j) = some u := by
          intro j u hu
          cases j with
          | zero => rw [add_flat, cell_of_heap hX1, ← hu]; rfl
          | succ j => simp at hu
        have HNW := Lib.hid hnews
        have hmx : (psP cs pre).length + 1 ≤ maxLen := by unfold maxLen; omega
        have hmx2 : (psP cs pre).length ≤ 6 := by omega
        have hbase : w4.heap.size ≤ X.heap.size := Nat.le_trans hwl hbX.size
        have hte : 60 ≠ 9 := by decide
        have HKX := Lib.hid (keeps_below hbX rfl)
        have HBX := Lib.hid (HB.out.trans (hbX.mono (by have := HLT.out; omega)))
        have hkq : ∀ q, (q = u2.heap.size ∨ q = b) → q < W.heap.size := fun q hq => Nat.lt_of_lt_of_le (hkb q hq) hwl
        have HPX : Hid (KpL (fun q => q = u2.heap.size ∨ q = b) W X) := Lib.hid (KpL.below hbX hkq)
        clear hnews hX1 hpX hbX hkq
        refine wpList_append_own _ rfl _ _ 60 rfl w4.heap.size 9 i0 (.string .empty) 1 16 Tryd.underlying60 HI.out HZ0.out HZ1.out HZ2.out rfl (by decide) v (psP cs pre).length (strs (psP cs pre)) rfl HOx.out ⟨p, 0, none⟩ 1 1 [.string (D1 ++ ⟨#[120]⟩ ++ D2)] rfl rfl HNW.out (by simp [Value.oneCell']) hmx (by omega) hbase ?_
        intro v' w5 hown' hgrow _
        obtain ⟨A', c', rfl⟩ := own_slice hown'
        obtain ⟨v', hv'⟩ : ∃ v', v' = Value.slice A' ((psP cs pre).length + 1) c' := ⟨_, rfl⟩
        rw [← hv'] at hown'
        have HV' := Lib.hid hv'
        clear hv'
        have hv1 : Boxed w5 u1.heap.size 60 v := HXx.out.kept hgrow (HXx.out.not_row hte HOx.out)
        have HX5 : Hid (Boxed (w5.setCell ⟨u1.heap.size, 0, none⟩ v') u1.heap.size 60 v') := Lib.hid (hv1.set v')
        have HO5 : Hid ((w5.setCell ⟨u1.heap.size, 0, none⟩ v').ownsRow w4.heap.size 9 1 v' (psP cs (pre ++ [x])).length (strs (psP cs (pre ++ [x])))) := Lib.hid (by
          rw [HSN2.out]
          have h := hown'.kept (grownBy_setCell' w5 u1.heap.size v') (.inr (hv1.not_row hte hown').symm)
          have e : strs (psP cs pre ++ [D1 ++ ⟨#[120]⟩ ++ D2]) = strs (psP cs pre) ++ [.string (D1 ++ ⟨#[120]⟩ ++ D2)] := by simp [strs]
          rw [e, List.length_append]; exact h)
        have HB5 : Hid (Below u1.heap.size w4 (w5.setCell ⟨u1.heap.size, 0, none⟩ v')) := Lib.hid ((HBX.out.grown hgrow (Nat.le_trans hzb hbase) (fun q hq => Nat.le_trans hzb (own_lt HOx.out q hq))).setCell (p := ⟨u1.heap.size, 0, none⟩) (Nat.le_refl _) v')
        have HK5 : Hid (KeepsOthers W (w5.setCell ⟨u1.heap.size, 0, none⟩ v')) := Lib.hid ((HKX.out.trans (KeepsOthers.of_grownBy hgrow (fun j o ej hj => by
          rcases HOx.out.2 with ⟨rfl, _⟩ | ⟨g, cap, cur, rfl, _, hgb, _⟩
          · simp [Value.ownBlock] at ej
          · obtain rfl : g = j := by simpa [Value.ownBlock] using ej
            rw [hgb] at hj; cases hj; rfl))).trans (KeepsOthers.setCell _ _ _))
        have HP5 : Hid (KpL (fun q => q = u2.heap.size ∨ q = b) W (w5.setCell ⟨u1.heap.size, 0, none⟩ v')) := Lib.hid ((HPX.out.t (fun q hq => hgrow.block q (Nat.lt_of_lt_of_le (hkb q hq) hbase) (fun e => by
          have h1 := own_lt HOx.out q e.symm
          have h2 := hkb q hq
          omega))).t (KpL.set w5 u1.heap.size 0 v' (by rintro (h | h) <;> (have := HQ2.out; have := HQ1.out; omega))))
        have hcell := hv1.cell; have hfz := hv1.frozen
        have hlt5 := hv1.lt
        clear hown' hgrow hv1
        rw [HV'.out] at HX5 HO5 HB5 HK5 HP5
        go_wp2
        exact ⟨HK5.out, HP5.out, ⟨_, HX5.out, HO5.out, trivial⟩, HB5.out⟩
    · have HSN2 : Hid (psP cs (pre ++ [x]) = psP cs pre) := Lib.hid (by rw [HSN.out, HPR.out, if_neg hz0, List.append_nil])
      clear HSN HPR
      gi_wp2
      refine ⟨KeepsOthers.refl _, KpL.refl _ _, ⟨v, HX.out, by rw [HSN2.out]; exact HO.out⟩, HB.out⟩
  case done =>
    rintro D ys W hD rfl ⟨⟨v, hX, hO, _⟩, hB⟩ hK
    have hps := psP_bw (l := l) cs l.length (Nat.le_refl _)
    rw [hps] at hO
    have HX := Lib.hid hX; have HKD := Lib.hid hK
    have HBW := Lib.hid (HBW4.out.trans (hB.mono (by have := HQ1.out; omega) : Below w.heap.size w4 W))
    have hxb := hX.cell
    have hDw : w.heap.size ≤ D := Nat.le_trans HBW4.out.size hD
    obtain ⟨hp1, hp2⟩ := pt_size HG.out HL.out HCS.out l.length (Nat.le_refl _)
    have hjs := jn_size (L := ptS l cs l.length) (by omega) hp2
    clear hK hB hps hp2
    by_cases h0 : ptS l cs l.length = []
    · have HV := Lib.hid (spcT_zero HK.out h0)
      obtain ⟨A', c', rfl⟩ := own_slice hO
      rw [h0] at hxb
      simp only [List.length_nil] at hxb
      clear hO hX hjs h0
      go_wp2
      refine ⟨by simp, .inl ⟨_, _, rfl, run_takeDeferred HKD.out, ?_⟩⟩
      exact ⟨.tuple #[.string ⟨#[48]⟩, .bool true], by simp [results, Tryd.f13, go_sem], by rw [HV.out], below_put _ HBW.out (by omega) HKD.out⟩
    · have HV := Lib.hid (spcT_some HK.out h0)
      have hpos : 0 < (ptS l cs l.length).length := by
        rcases Nat.eq_zero_or_pos (ptS l cs l.length).length with h | h
        · exact absurd (List.length_eq_zero_iff.1 h) h0
        · exact h
      rcases hO.2 with ⟨_, h1⟩ | ⟨g, cap, cur, rfl, hg, hh, h1, h2, h3, h4⟩
      · omega
      · have HJ : Hid (Calls Tryd.prog 39 #[.slice (some ⟨g, 0, none⟩) (ptS l cs l.length).length cap, .string ⟨#[43]⟩] W fun e w' => e = .returned (.string (joinP (ptS l cs l.length))) ∧ Below W.heap.size W w') := Lib.hid (by
          refine Tryd.strings_Join g 0 cap (ptS l cs l.length) ⟨#[43]⟩ W (fun j x hx => ?_) (lt_of_heap hh) (by omega) h1 hjs
          obtain ⟨hj, rfl⟩ := List.getElem?_eq_some_iff.1 hx
          rw [hO.cellAt (0 + j) (by omega)]
          simp [strs, hj])
        clear hO hX hjs h0 hg hh h1 h2 h3 h4
        generalize joinP (ptS l cs l.length) = t at *
        generalize (ptS l cs l.length).length = N at *
        go_wp2_with fail
        refine HJ.out.mono ?_
        rintro e' w5 ⟨rfl, hb5⟩
        have HB5 := Lib.hid (HBW.out.trans (hb5.mono HBW.out.size))
        have HK5 := Lib.hid ((hb5.block D (lt_of_heap HKD.out)).trans HKD.out)
        clear hb5
        go_wp2
        refine ⟨by simp, .inl ⟨_, _, rfl, run_takeDeferred HK5.out, ?_⟩⟩
        exact ⟨.tuple #[.string t, .bool true], by simp [results, Tryd.f13, go_sem], by rw [HV.out], below_put _ HB5.out (by omega) HK5.out⟩
  case stop =>
    rintro D cc pre W _ _ h _
    exact h.elim
end Go.Proofs.YthhmbcgamcbfdaaDoor
