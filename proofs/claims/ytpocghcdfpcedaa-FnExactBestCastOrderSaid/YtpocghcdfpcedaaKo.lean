/-
  The contracts of ShareOfMachines, in spec and in impl: the first share with the least later end.
-/
import Derived.Test.YtpocghcdfpcedaaKn
namespace Go.Proofs.Ytpocghcdfpcedaa
open Go.RowKit
set_option linter.unusedVariables false

/-- The later end of share number c. -/
def nE (m n : Mc) (f : List Ca) (c : Nat) : Int := shE m n f (digL f.length (c : Int))
def bestC (m n : Mc) (f : List Ca) : Nat → Nat
  | 0 => 0
  | c + 1 => if nE m n f c < nE m n f (bestC m n f c) then c else bestC m n f c
theorem bestC_lt {m n : Mc} {f : List Ca} {c : Nat} (h : nE m n f c < nE m n f (bestC m n f c)) : bestC m n f (c + 1) = c := by show (if _ then _ else _) = _; rw [if_pos h]
theorem bestC_ge {m n : Mc} {f : List Ca} {c : Nat} (h : ¬ nE m n f c < nE m n f (bestC m n f c)) : bestC m n f (c + 1) = bestC m n f c := by show (if _ then _ else _) = _; rw [if_neg h]
theorem bestC_one (m n : Mc) (f : List Ca) : bestC m n f 1 = 0 := bestC_ge (by show ¬ nE m n f 0 < nE m n f 0; omega)
theorem nE_range {m n : Mc} {f : List Ca} (hm : goodMc m = true) (hn : goodMc n = true) (hL : goodL f = true) (c : Nat) : 0 ≤ nE m n f c ∧ nE m n f c ≤ 50000000 := by
  have h1 := (shA_ok (b := 0) (sh := digL f.length (c : Int)) hm hL (k := f.length) (Nat.le_refl _)).2
  have h2 := (shA_ok (b := 1) (sh := digL f.length (c : Int)) hn hL (k := f.length) (Nat.le_refl _)).2
  unfold nE shE
  rw [digL_len]
  omega
def askM (m n : Mc) (f : List Ca) : Bool := goodMc m && goodMc n && goodL f
def smL (m n : Mc) (f : List Ca) : List Int := if askM m n f then digL f.length (bestC m n f (2 ^ f.length) : Nat) else []
def smV (m n : Mc) (f : List Ca) : Int := if askM m n f then nE m n f (bestC m n f (2 ^ f.length)) else 0
theorem sm_no {m n : Mc} {f : List Ca} (h : askM m n f = false) : smL m n f = [] ∧ smV m n f = 0 := by unfold smL smV; rw [h]; exact ⟨rfl, rfl⟩
theorem sm_yes {m n : Mc} {f : List Ca} (h : askM m n f = true) : smL m n f = digL f.length (bestC m n f (2 ^ f.length) : Nat) ∧ smV m n f = nE m n f (bestC m n f (2 ^ f.length)) := by unfold smL smV; rw [h]; exact ⟨rfl, rfl⟩
theorem smL_len (m n : Mc) (f : List Ca) : (smL m n f).length ≤ 1048576 := by
  unfold smL; split
  · rename_i h
    unfold askM at h
    simp only [Bool.and_eq_true] at h
    have := (goodL_all h.2).2
    rw [digL_len]; omega
  · exact Nat.zero_le _
/-- A row of ints of its own, a number and a truth value come back. -/
def ShTo (w w' : World) (e : Ending) (l : List Int) (x : Int) (b : Bool) : Prop := ∃ v T, e = .returned (.tuple #[v, .int .i64 x, .bool b]) ∧ Below w.heap.size w w' ∧ w'.ownsRow w.heap.size T 1 v l.length (intsZ l)
theorem ShTo.no {w w' : World} {l : List Int} {x : Int} {b : Bool} (h1 : l = []) (h2 : x = 0) (h3 : b = false) (hb : Below w.heap.size w w') : ShTo w w' (.returned (.tuple #[.slice none 0 0, .int .i64 0, .bool false])) l x b := by
  subst h1; subst h2; subst h3; exact ⟨_, 3, rfl, hb, own_nil _ _ _ _⟩
theorem ShTo.yes {w w' : World} {l l' : List Int} {n : Nat} {x x' : Int} {b : Bool} {v : Value} {T : TypeId} (h1 : l = l') (h2 : x = x') (h3 : b = true) (hb : Below w.heap.size w w') (ho : w'.ownsRow w.heap.size T 1 v n (intsZ l')) : ShTo w w' (.returned (.tuple #[v, .int .i64 x', .bool true])) l x b := by
  subst h1; subst h2; subst h3
  have hn : n = l.length := by have := ho.1; rw [intsZ_len] at this; omega
  subst hn
  exact ⟨v, T, rfl, hb, ho⟩
theorem csSharedD_any (m n : Mc) (f : List Ca) (A : Option Addr) (c : Nat) (q : Nat) (B : Option Addr) (d : Nat) (w : World) (hf : CasIn w A f) (hn : f.length ≤ 1048576) (hs : IntsIn w B (digL f.length (q : Int))) (hm : goodMc m = true) (hmn : goodMc n = true) (hL : goodL f = true) :
    Calls Try.prog 67 #[.agg #[.int .i64 m.bod, .int .i64 m.hou, .int .i64 m.cha], .agg #[.int .i64 n.bod, .int .i64 n.hou, .int .i64 n.cha], .slice A f.length c, .slice B f.length d] w fun e w' => e = .returned (.int .i64 (nE m n f q)) ∧ Below w.heap.size w w' := by
  have h := csShared_any m n f A c (digL f.length (q : Int)) B d w hf hn hs (digL_len _ _) (digL_01 _ _) hm hmn hL
  rw [digL_len] at h
  exact h
theorem laterEndD_any (m n : Mc) (f : List Ca) (A : Option Addr) (c : Nat) (q : Nat) (B : Option Addr) (d : Nat) (w : World) (hf : CasIn w A f) (hn : f.length ≤ 1048576) (hs : IntsIn w B (digL f.length (q : Int))) (hm : goodMc m = true) (hmn : goodMc n = true) (hL : goodL f = true) :
    Calls Try.prog 68 #[.agg #[.int .i64 m.bod, .int .i64 m.hou, .int .i64 m.cha], .agg #[.int .i64 n.bod, .int .i64 n.hou, .int .i64 n.cha], .slice A f.length c, .slice B f.length d] w fun e w' => e = .returned (.int .i64 (nE m n f q)) ∧ Below w.heap.size w w' := by
  have h := laterEnd_any m n f A c (digL f.length (q : Int)) B d w hf hn hs (digL_len _ _) (digL_01 _ _) hm hmn hL
  rw [digL_len] at h
  exact h
theorem own_n {w : World} {base n : Nat} {e : TypeId} {v : Value} {l : List Int} (h : w.ownsRow base e 1 v n (intsZ l)) : ∃ A c, v = .slice A n c ∧ IntsIn w A l := by
  obtain ⟨A, c, h1, h2, h3⟩ := own_ints h
  exact ⟨A, c, by rw [h2]; exact h1, h3⟩
theorem pow_le8 {n : Nat} (h : n ≤ 8) : 2 ^ n ≤ 256 := Nat.le_trans (Nat.pow_le_pow_right (by decide) h) (by decide)

set_option maxRecDepth 100000 in
set_option maxHeartbeats 4000000 in
theorem implShare_any (m n : Mc) (f : List Ca) (A : Option Addr) (c : Nat) (w : World) (hf : CasIn w A f) (hn : f.length ≤ 1048576) :
    Calls Try.prog 43 #[.agg #[.int .i64 m.bod, .int .i64 m.hou, .int .i64 m.cha], .agg #[.int .i64 n.bod, .int .i64 n.hou, .int .i64 n.cha], .slice A f.length c] w fun e w' => ShTo w w' e (smL m n f) (smV m n f) (askM m n f) := by
  have HF := Lib.hid hf; clear hf
  have HA : Hid (Below w.heap.size w ((w.alloc (.cells #[.int .i64 m.bod, .int .i64 m.hou, .int .i64 m.cha] 32)).alloc (.cells #[.int .i64 n.bod, .int .i64 n.hou, .int .i64 n.cha] 32))) := Lib.hid (((Below.refl _ _).alloc (Nat.le_refl _) _).alloc (by simp) _)
  have HM : Hid (McAt ((w.alloc (.cells #[.int .i64 m.bod, .int .i64 m.hou, .int .i64 m.cha] 32)).alloc (.cells #[.int .i64 n.bod, .int .i64 n.hou, .int .i64 n.cha] 32)) w.heap.size 32 m) := Lib.hid ((McAt.new _ _ _).alloc _)
  have HN : Hid (McAt ((w.alloc (.cells #[.int .i64 m.bod, .int .i64 m.hou, .int .i64 m.cha] 32)).alloc (.cells #[.int .i64 n.bod, .int .i64 n.hou, .int .i64 n.cha] 32)) (w.heap.size + 1) 32 n) := Lib.hid (heap_alloc2_new _ _ _)
  go_enter Try.func43, Try.ntmps43
  go_wp2_with fail
  refine (implIsMachine_any m _).mono ?_
  rintro e w1 ⟨rfl, hb⟩
  have HB1 := Lib.hid (HA.out.trans (hb.mono HA.out.size))
  have HM1 := Lib.hid (HM.out.next hb); have HN1 := Lib.hid (HN.out.next hb)
  clear hb HA HM HN
  cases hg : goodMc m
  · have HV : Hid (askM m n f = false) := Lib.hid (by unfold askM; rw [hg]; rfl)
    clear hg
    go_wp2
    refine bodyPost_ret (v := .tuple #[.slice none 0 0, .int .i64 (0), .bool false]) (by simp [results, Try.results43, go_sem]) rfl ?_
    exact ShTo.no (sm_no HV.out).1 (sm_no HV.out).2 HV.out HB1.out
  have HG := Lib.hid hg; clear hg
  obtain ⟨n0, n1, n2⟩ := HN1.out.cells
  have nl := HN1.out.lt
  go_wp2_with fail
  refine (implIsMachine_any n _).mono ?_
  rintro e w2 ⟨rfl, hb⟩
  clear n0 n1 n2 nl
  have HB2 := Lib.hid (HB1.out.trans (hb.mono HB1.out.size))
  have HM2 := Lib.hid (HM1.out.next hb); have HN2 := Lib.hid (HN1.out.next hb)
  clear hb HB1 HM1 HN1
  cases hg : goodMc n
  · have HV : Hid (askM m n f = false) := Lib.hid (by unfold askM; rw [hg]; simp)
    clear hg
    go_wp2
    refine bodyPost_ret (v := .tuple #[.slice none 0 0, .int .i64 (0), .bool false]) (by simp [results, Try.results43, go_sem]) rfl ?_
    exact ShTo.no (sm_no HV.out).1 (sm_no HV.out).2 HV.out HB2.out
  have HG2 := Lib.hid hg; clear hg
  go_wp2_with fail
  refine (implAreCastings_any f A c _ (HF.out.below HB2.out (Nat.le_refl _)) hn).mono ?_
  rintro e w3 ⟨rfl, hb⟩
  have HB3 := Lib.hid (HB2.out.trans (hb.mono HB2.out.size))
  have HM3 := Lib.hid (HM2.out.next hb); have HN3 := Lib.hid (HN2.out.next hb)
  clear hb HB2 HM2 HN2
  cases hg : goodL f
  · have HV : Hid (askM m n f = false) := Lib.hid (by unfold askM; rw [hg]; simp)
    clear hg
    go_wp2
    refine bodyPost_ret (v := .tuple #[.slice none 0 0, .int .i64 (0), .bool false]) (by simp [results, Try.results43, go_sem]) rfl ?_
    exact ShTo.no (sm_no HV.out).1 (sm_no HV.out).2 HV.out HB3.out
  have h8 := (goodL_all hg).2
  have HL := Lib.hid hg
  have HAM : Hid (askM m n f = true) := Lib.hid (by unfold askM; rw [HG.out, HG2.out, hg]; rfl)
  have HNE := Lib.hid (nE_range HG.out HG2.out hg)
  clear hg
  have hp := pow_le8 h8
  obtain ⟨N, hN⟩ : ∃ N : Nat, N = 2 ^ f.length := ⟨_, rfl⟩
  have HNN := Lib.hid hN
  rw [← hN] at hp
  have HV := sm_yes HAM.out
  rw [← hN] at HV
  have HVV := Lib.hid HV
  clear HV hN
  have hmk := run_makeInt f.length hn
  have hz : (madeCells #[.int .i64 0] (f.length * 1)).toList = intsZ (digL f.length ((0 : Nat) : Int)) := by
    have h := toList_madeCells_one (.int .i64 0) f.length
    rw [Nat.mul_one, h, Int.natCast_zero, digL_zero]; simp [intsZ]
  have HO4 : Hid ((w3.alloc (.cells (madeCells #[.int .i64 0] (f.length * 1)) 3)).ownsRow (w.heap.size + 2) 3 1 (.slice (some ⟨w3.heap.size, 0, none⟩) f.length f.length) f.length (intsZ (digL f.length ((0 : Nat) : Int)))) := Lib.hid
    ⟨by rw [intsZ_len, digL_len]; omega, .inr ⟨w3.heap.size, f.length, _, rfl, by have := HN3.out.lt; omega, heap_new _ _, Nat.le_refl _, by unfold maxLen; omega, by rw [size_madeCells], by rw [hz, Nat.mul_one, List.take_of_length_le (by rw [intsZ_len, digL_len]; exact Nat.le_refl _)]⟩⟩
  have HB4 := Lib.hid (HB3.out.alloc HB3.out.size (.cells (madeCells #[.int .i64 0] (f.length * 1)) 3))
  have HM4 := Lib.hid (HM3.out.alloc (.cells (madeCells #[.int .i64 0] (f.length * 1)) 3))
  have HN4 := Lib.hid (HN3.out.alloc (.cells (madeCells #[.int .i64 0] (f.length * 1)) 3))
  clear hz HM3 HN3 HB3
  generalize madeCells #[.int .i64 0] (f.length * 1) = cs0 at *
  obtain ⟨m0, m1, m2⟩ := HM4.out.cells
  obtain ⟨n0, n1, n2⟩ := HN4.out.cells
  have ml := HM4.out.lt; have nl := HN4.out.lt
  go_wp2_with fail
  refine (laterEndD_any m n f A c 0 _ _ _ (HF.out.below HB4.out (Nat.le_refl _)) hn (own_in HO4.out) HG.out HG2.out HL.out).mono ?_
  rintro e w5 ⟨rfl, hb⟩
  have HO5 := Lib.hid (own_below HO4.out hb)
  clear m0 m1 m2 n0 n1 n2 ml nl HO4 hmk
  have HB5 := Lib.hid (HB4.out.trans (hb.mono HB4.out.size))
  have HM5 := Lib.hid (HM4.out.next hb); have HN5 := Lib.hid (HN4.out.next hb)
  clear hb HB4 HM4 HN4
  have hsh : (2 : Int) ^ f.length = (N : Int) := by rw [HNN.out]; simp
  go_wp2
  go_loopw [9, 10, 38] (fun v t i wr => ∃ q : Nat, q ≤ N ∧ i = .int .i64 q ∧ t = .int .i64 (nE m n f (bestC m n f q)) ∧ wr.ownsRow (w.heap.size + 2) 3 1 v f.length (intsZ (digL f.length ((bestC m n f q : Nat) : Int))) ∧ McAt wr w.heap.size 32 m ∧ McAt wr (w.heap.size + 1) 32 n ∧ Below w.heap.size w wr) (fun _ _ i _ => N - (intOf i).toNat)
  case atStart => exact ⟨0, Nat.zero_le _, rfl, rfl, HO5.out, HM5.out, HN5.out, HB5.out⟩
  case round =>
    obtain ⟨q, hq, rfl, rfl, hown, hmm, hnn, hb⟩ := hrel
    have HO := Lib.hid hown; have HM := Lib.hid hmm; have HN := Lib.hid hnn; have HB := Lib.hid hb
    clear hown hmm hnn hb HO5 HM5 HN5 HB5
    by_cases hlt : q < N
    · have hql : (q : Int) < (N : Int) := by omega
      have hr1 := HNE.out (bestC m n f q)
      have hr2 := HNE.out q
      have HLT := Lib.hid (fun h => bestC_lt (m := m) (n := n) (f := f) (c := q) h)
      have HGE := Lib.hid (fun h => bestC_ge (m := m) (n := n) (f := f) (c := q) h)
      go_wp2_with fail
      refine (shareOfNumber_any (q : Int) f.length _ h8 (by omega) (by omega)).mono ?_
      intro e w6 hto
      obtain ⟨v6, rfl, hb, hown⟩ := hto
      obtain ⟨A6, c6, rfl, hin6⟩ := own_n hown
      have HO6 := Lib.hid (own_below HO.out hb)
      have HS6 := Lib.hid (Joins.ownsRow_le (base' := w.heap.size + 2) hown (by have := HN.out.lt; omega))
      have HI6 := Lib.hid hin6
      clear hown hin6 HO
      have HB6 := Lib.hid (HB.out.trans (hb.mono HB.out.size))
      have HM6 := Lib.hid (HM.out.next hb); have HN6 := Lib.hid (HN.out.next hb)
      clear hb HB HM HN
      obtain ⟨m0, m1, m2⟩ := HM6.out.cells
      obtain ⟨n0, n1, n2⟩ := HN6.out.cells
      have ml := HM6.out.lt; have nl := HN6.out.lt
      go_wp2_with fail
      refine (laterEndD_any m n f A c q _ _ _ (HF.out.below HB6.out (Nat.le_refl _)) hn HI6.out HG.out HG2.out HL.out).mono ?_
      rintro e w7 ⟨rfl, hb⟩
      have HO7 := Lib.hid (own_below HO6.out hb)
      have HS7 := Lib.hid (own_below HS6.out hb)
      clear m0 m1 m2 n0 n1 n2 ml nl HO6 HS6 HI6
      have HB7 := Lib.hid (HB6.out.trans (hb.mono HB6.out.size))
      have HM7 := Lib.hid (HM6.out.next hb); have HN7 := Lib.hid (HN6.out.next hb)
      clear hb HB6 HM6 HN6
      by_cases hc : nE m n f q < nE m n f (bestC m n f q)
      · have HX := Lib.hid (HLT.out (by first | exact hc | omega))
        have HR : Hid (nE m n f (bestC m n f (q + 1)) = nE m n f q) := Lib.hid (by rw [HX.out])
        generalize nE m n f (bestC m n f q) = Eb at *
        obtain ⟨Eq, hEq⟩ : ∃ x, x = nE m n f q := ⟨_, rfl⟩
        rw [← hEq] at hr2 HR hc ⊢
        clear hEq
        go_wp2
        go_roundw
        case rel => exact ⟨q + 1, by omega, by go_num, by rw [HR.out], by rw [HX.out]; exact HS7.out, HM7.out, HN7.out, HB7.out⟩
        case measure => simp [intOf]; omega
      · have HX := Lib.hid (HGE.out (by first | exact hc | omega))
        obtain ⟨Eb, hEb⟩ : ∃ x, x = nE m n f (bestC m n f q) := ⟨_, rfl⟩
        have HR : Hid (nE m n f (bestC m n f (q + 1)) = Eb) := Lib.hid (by rw [HX.out, hEb])
        rw [← hEb] at hr1 hc ⊢
        clear hEb
        generalize nE m n f q = Eq at *
        go_wp2
        go_roundw
        case rel => exact ⟨q + 1, by omega, by go_num, by rw [HR.out], by rw [HX.out]; exact HO7.out, HM7.out, HN7.out, HB7.out⟩
        case measure => simp [intOf]; omega
    · obtain rfl : q = N := by omega
      have HO9 := Lib.hid (Joins.ownsRow_le (base' := w.heap.size) HO.out (by omega))
      clear HO HM HN
      obtain ⟨Eb, hEb⟩ : ∃ x, x = nE m n f (bestC m n f q) := ⟨_, rfl⟩
      have HEE := Lib.hid hEb
      rw [← hEb]
      clear hEb
      obtain ⟨A9, c9, rfl, -⟩ := own_n HO9.out
      go_wp2
      refine bodyPost_ret (v := .tuple #[.slice A9 f.length c9, .int .i64 (Eb), .bool true]) (by simp [results, Try.results43, go_sem]) rfl ?_
      exact ShTo.yes HVV.out.1 (HVV.out.2.trans HEE.out.symm) HAM.out HB.out HO9.out
end Go.Proofs.Ytpocghcdfpcedaa
