/-
  FnBills: for every input (two slices of bytes) the law returns true, and what it was given reads as before. Conditions: none beyond the given statement's own.
-/
import Derived.Test.YtdomccamkiplcaaRows
import Derived.Test.YtdomccamkiplcaaBmt
import Derived.Test.YtdomccamkiplcaaDri
import Derived.Test.YtdomccamkiplcaaQ
import Derived.Test.YtdomccamkiplcaaOpenB
import Derived.Test.YtdomccamkiplcaaOpenI
import Derived.Test.YtdomccamkiplcaaTos
import Derived.ProofKit
import Derived.OpenShut
import Derived.ShutString
import Derived.ChangeOld
import Derived.Lib.SmallJoins
namespace Go.Proofs.Ytdomccamkiplcaa.fnBills
open Go.ChangeShapes Go.WideShapes Go.ChangeAt Go.RowKit Go.Joins
open Go.ChangeMaps (open_string shut_string)
set_option linter.unusedVariables false

theorem own : ownKnob Try.prog.godebug = none := by kernel_rfl
theorem laidOut : laidOutB Try.prog = true := by kernel_rfl

set_option maxRecDepth 100000 in
set_option maxHeartbeats 8000000 in
theorem walk (A : Option Addr) (xs : List UInt8) (c : Nat) (Ay : Option Addr) (ys : List UInt8) (cy : Nat) (w : World) (hx : BytesIn w A xs) (hxs : xs.length ≤ maxLen) (hy : BytesIn w Ay ys) (hys : ys.length ≤ maxLen) :
    Calls Try.prog 3 #[.slice A xs.length c, .slice Ay ys.length cy] w fun e w' => e = .returned (.bool true) ∧ Below w.heap.size w w' := by
  have HX := Lib.hid hx; have HY := Lib.hid hy; clear hx hy
  have hlongs : (1048576 : Int) < wrap64 ((xs.length : Int) + (ys.length : Int)) ∨ ¬ (1048576 : Int) < wrap64 ((xs.length : Int) + (ys.length : Int)) := by omega
  go_enter Try.func3, Try.ntmps3
  by_cases hlong : (1048576 : Int) < wrap64 ((xs.length : Int) + (ys.length : Int))
  · go_wp2
    go_ret
    exact ⟨rfl, Below.refl _ _⟩
  clear hlongs
  go_wp2_with fail
  refine (drawTim_any A c xs w HX.out hxs).mono ?_
  rintro e w1 ⟨vs, rfl, f, B, d, st, C, q, ws, E, d3, rfl, hf40, hco, hst, hws, hso, hF, hI, hS, hb1⟩
  have HCO := Lib.hid hco; have HSO := Lib.hid hso
  have hn : f.length ≤ 1048576 := by omega
  have hq : st.length ≤ 1048576 := by omega
  have hm : ws.length ≤ 1048576 := by omega
  clear HX hlong hxs hco hso
  have A_0 : Hid (Below w.heap.size w w1) := Lib.hid hb1
  have F_0 : Hid (SortsIn w1 0 B f) := Lib.hid hF
  have I_0 : Hid (IntsIn w1 C st) := Lib.hid hI
  have S_0 : Hid (StrsIn w1 E ws) := Lib.hid hS
  clear hb1 hF hI hS
  go_wp2_with fail
  refine (implCount_any f B d ws E d3 0 _ F_0.out hn HCO.out S_0.out HSO.out hm).mono ?_
  intro e u1 hto
  obtain ⟨v1, rfl, hb1, ho1⟩ := hto
  obtain ⟨A1, c1, rfl⟩ := own_form ho1
  have A_1 : Hid (Below w.heap.size w u1) := Lib.hid ((A_0.out).trans (Below.mono hb1 (A_0.out).size))
  have F_1 : Hid (SortsIn u1 0 B f) := Lib.hid (SortsIn.below F_0.out hb1 (Nat.le_refl _))
  have I_1 : Hid (IntsIn u1 C st) := Lib.hid (IntsIn.below I_0.out hb1 (Nat.le_refl _))
  have S_1 : Hid (StrsIn u1 E ws) := Lib.hid (StrsIn.below S_0.out hb1 (Nat.le_refl _))
  clear A_0 F_0 I_0 S_0
  clear hb1
  have N1_1 : Hid (IntsIn u1 A1 ((needR f ws).getD [])) := Lib.hid (own_in ho1)
  clear ho1
  go_wp2_with fail
  refine (specCount_any f B d ws E d3 0 _ F_1.out hn HCO.out S_1.out HSO.out hm).mono ?_
  intro e u2 hto
  obtain ⟨v2, rfl, hb2, ho2⟩ := hto
  obtain ⟨A2, c2, rfl⟩ := own_form ho2
  have A_2 : Hid (Below w.heap.size w u2) := Lib.hid ((A_1.out).trans (Below.mono hb2 (A_1.out).size))
  have F_2 : Hid (SortsIn u2 0 B f) := Lib.hid (SortsIn.below F_1.out hb2 (Nat.le_refl _))
  have I_2 : Hid (IntsIn u2 C st) := Lib.hid (IntsIn.below I_1.out hb2 (Nat.le_refl _))
  have S_2 : Hid (StrsIn u2 E ws) := Lib.hid (StrsIn.below S_1.out hb2 (Nat.le_refl _))
  have N1_2 : Hid (IntsIn u2 A1 ((needR f ws).getD [])) := Lib.hid (IntsIn.below N1_1.out hb2 (Nat.le_refl _))
  clear A_1 F_1 I_1 S_1 N1_1
  clear hb2
  have N2_2 : Hid (IntsIn u2 A2 ((needR f ws).getD [])) := Lib.hid (own_in ho2)
  clear ho2
  go_wp2_with fail
  refine (implEnough_is f B d st C q ws E d3 0 _ F_2.out hn HCO.out I_2.out hq S_2.out HSO.out hm).mono ?_
  rintro e u3 ⟨rfl, hb3⟩
  have A_3 : Hid (Below w.heap.size w u3) := Lib.hid ((A_2.out).trans (Below.mono hb3 (A_2.out).size))
  have F_3 : Hid (SortsIn u3 0 B f) := Lib.hid (SortsIn.below F_2.out hb3 (Nat.le_refl _))
  have I_3 : Hid (IntsIn u3 C st) := Lib.hid (IntsIn.below I_2.out hb3 (Nat.le_refl _))
  have S_3 : Hid (StrsIn u3 E ws) := Lib.hid (StrsIn.below S_2.out hb3 (Nat.le_refl _))
  have N1_3 : Hid (IntsIn u3 A1 ((needR f ws).getD [])) := Lib.hid (IntsIn.below N1_2.out hb3 (Nat.le_refl _))
  have N2_3 : Hid (IntsIn u3 A2 ((needR f ws).getD [])) := Lib.hid (IntsIn.below N2_2.out hb3 (Nat.le_refl _))
  clear A_2 F_2 I_2 S_2 N1_2 N2_2
  clear hb3
  go_wp2_with fail
  refine (specEnough_is f B d st C q ws E d3 0 _ F_3.out hn HCO.out I_3.out hq S_3.out HSO.out hm).mono ?_
  rintro e u4 ⟨rfl, hb4⟩
  have A_4 : Hid (Below w.heap.size w u4) := Lib.hid ((A_3.out).trans (Below.mono hb4 (A_3.out).size))
  have F_4 : Hid (SortsIn u4 0 B f) := Lib.hid (SortsIn.below F_3.out hb4 (Nat.le_refl _))
  have I_4 : Hid (IntsIn u4 C st) := Lib.hid (IntsIn.below I_3.out hb4 (Nat.le_refl _))
  have S_4 : Hid (StrsIn u4 E ws) := Lib.hid (StrsIn.below S_3.out hb4 (Nat.le_refl _))
  have N1_4 : Hid (IntsIn u4 A1 ((needR f ws).getD [])) := Lib.hid (IntsIn.below N1_3.out hb4 (Nat.le_refl _))
  have N2_4 : Hid (IntsIn u4 A2 ((needR f ws).getD [])) := Lib.hid (IntsIn.below N2_3.out hb4 (Nat.le_refl _))
  clear A_3 F_3 I_3 S_3 N1_3 N2_3
  clear hb4
  go_wp2_with fail
  refine (implFro_is f B d st C q ws E d3 0 _ F_4.out hn HCO.out I_4.out hq S_4.out HSO.out hm).mono ?_
  rintro e u5 ⟨rfl, hb5⟩
  have A_5 : Hid (Below w.heap.size w u5) := Lib.hid ((A_4.out).trans (Below.mono hb5 (A_4.out).size))
  have F_5 : Hid (SortsIn u5 0 B f) := Lib.hid (SortsIn.below F_4.out hb5 (Nat.le_refl _))
  have I_5 : Hid (IntsIn u5 C st) := Lib.hid (IntsIn.below I_4.out hb5 (Nat.le_refl _))
  have S_5 : Hid (StrsIn u5 E ws) := Lib.hid (StrsIn.below S_4.out hb5 (Nat.le_refl _))
  have N1_5 : Hid (IntsIn u5 A1 ((needR f ws).getD [])) := Lib.hid (IntsIn.below N1_4.out hb5 (Nat.le_refl _))
  have N2_5 : Hid (IntsIn u5 A2 ((needR f ws).getD [])) := Lib.hid (IntsIn.below N2_4.out hb5 (Nat.le_refl _))
  clear A_4 F_4 I_4 S_4 N1_4 N2_4
  clear hb5
  go_wp2_with fail
  refine (specFro_is f B d st C q ws E d3 0 _ F_5.out hn HCO.out I_5.out hq S_5.out HSO.out hm).mono ?_
  rintro e u6 ⟨rfl, hb6⟩
  have A_6 : Hid (Below w.heap.size w u6) := Lib.hid ((A_5.out).trans (Below.mono hb6 (A_5.out).size))
  have F_6 : Hid (SortsIn u6 0 B f) := Lib.hid (SortsIn.below F_5.out hb6 (Nat.le_refl _))
  have I_6 : Hid (IntsIn u6 C st) := Lib.hid (IntsIn.below I_5.out hb6 (Nat.le_refl _))
  have S_6 : Hid (StrsIn u6 E ws) := Lib.hid (StrsIn.below S_5.out hb6 (Nat.le_refl _))
  have N1_6 : Hid (IntsIn u6 A1 ((needR f ws).getD [])) := Lib.hid (IntsIn.below N1_5.out hb6 (Nat.le_refl _))
  have N2_6 : Hid (IntsIn u6 A2 ((needR f ws).getD [])) := Lib.hid (IntsIn.below N2_5.out hb6 (Nat.le_refl _))
  clear A_5 F_5 I_5 S_5 N1_5 N2_5
  clear hb6
  go_wp2_with fail
  refine (implTim_any f B d st C q ws E d3 0 _ F_6.out hn HCO.out I_6.out hq S_6.out HSO.out hm).mono ?_
  rintro e u7 ⟨rfl, hb7⟩
  have A_7 : Hid (Below w.heap.size w u7) := Lib.hid ((A_6.out).trans (Below.mono hb7 (A_6.out).size))
  have F_7 : Hid (SortsIn u7 0 B f) := Lib.hid (SortsIn.below F_6.out hb7 (Nat.le_refl _))
  have I_7 : Hid (IntsIn u7 C st) := Lib.hid (IntsIn.below I_6.out hb7 (Nat.le_refl _))
  have S_7 : Hid (StrsIn u7 E ws) := Lib.hid (StrsIn.below S_6.out hb7 (Nat.le_refl _))
  have N1_7 : Hid (IntsIn u7 A1 ((needR f ws).getD [])) := Lib.hid (IntsIn.below N1_6.out hb7 (Nat.le_refl _))
  have N2_7 : Hid (IntsIn u7 A2 ((needR f ws).getD [])) := Lib.hid (IntsIn.below N2_6.out hb7 (Nat.le_refl _))
  clear A_6 F_6 I_6 S_6 N1_6 N2_6
  clear hb7
  go_wp2_with fail
  refine (specTim_any f B d st C q ws E d3 0 _ F_7.out hn HCO.out I_7.out hq S_7.out HSO.out hm).mono ?_
  rintro e u8 ⟨rfl, hb8⟩
  have A_8 : Hid (Below w.heap.size w u8) := Lib.hid ((A_7.out).trans (Below.mono hb8 (A_7.out).size))
  have F_8 : Hid (SortsIn u8 0 B f) := Lib.hid (SortsIn.below F_7.out hb8 (Nat.le_refl _))
  have I_8 : Hid (IntsIn u8 C st) := Lib.hid (IntsIn.below I_7.out hb8 (Nat.le_refl _))
  have S_8 : Hid (StrsIn u8 E ws) := Lib.hid (StrsIn.below S_7.out hb8 (Nat.le_refl _))
  have N1_8 : Hid (IntsIn u8 A1 ((needR f ws).getD [])) := Lib.hid (IntsIn.below N1_7.out hb8 (Nat.le_refl _))
  have N2_8 : Hid (IntsIn u8 A2 ((needR f ws).getD [])) := Lib.hid (IntsIn.below N2_7.out hb8 (Nat.le_refl _))
  clear A_7 F_7 I_7 S_7 N1_7 N2_7
  clear hb8
  have hcopy : (needR f ws).isSome = copyB f ws := by unfold needR; cases copyB f ws <;> rfl
  have h1 : askB f st ws = true → copyB f ws = true := fun h => (askB_parts h).1
  have h2 := fro_enough f st ws
  have h3 : (timR f st ws).isSome = true → askB f st ws = true := fun h => by
    unfold timR at h; rw [Option.isSome_map] at h
    obtain ⟨m, hm⟩ := Option.isSome_iff_exists.1 h
    exact (sc_facts hm).1
  have h4 : (timR f st ws).isSome = true → (askB f st ws && enB (needF f ws) st) = decide (0 < (timR f st ws).getD 0) := fun h => by
    unfold timR at h ⊢; rw [Option.isSome_map] at h
    obtain ⟨m, hm⟩ := Option.isSome_iff_exists.1 h
    rw [tim_enough hm, hm]; rfl
  have h5 : (timR f st ws).isSome = true → (timR f st ws).getD 0 < 1000 → ∃ r, rcR f st ws ((timR f st ws).getD 0) = some r ∧ r.sum = 0 := fun h ht => by
    unfold timR at h ht ⊢; rw [Option.isSome_map] at h
    obtain ⟨m, hm⟩ := Option.isSome_iff_exists.1 h
    rw [hm] at ht ⊢
    exact rc_now hm ht
  have h6 : (timR f st ws).isSome = true → ∀ r, rcR f st ws ((timR f st ws).getD 0 + 1) = some r → 0 < r.sum := fun h r hr => by
    unfold timR at h hr; rw [Option.isSome_map] at h
    obtain ⟨m, hm⟩ := Option.isSome_iff_exists.1 h
    rw [hm] at hr
    exact rc_more hm hr
  have h7 : (timR f st ws).isSome = true → 0 ≤ (timR f st ws).getD 0 ∧ (timR f st ws).getD 0 ≤ 100000 := fun h => by
    unfold timR at h ⊢; rw [Option.isSome_map] at h
    obtain ⟨m, hm⟩ := Option.isSome_iff_exists.1 h
    obtain ⟨⟨a0, a1⟩, ⟨b0, _⟩⟩ := sc_bound hm
    rw [hm]
    exact ⟨Int.ediv_nonneg a0 (by omega), Int.le_trans (Int.ediv_le_self _ a0) a1⟩
  have hL64 := needR_short f ws
  have hLN : copyB f ws = true → (needR f ws).getD [] = needF f ws := fun h => by rw [need_yes h]; rfl
  have HLN := Lib.hid hLN
  rw [hcopy]
  have H4 := Lib.hid h4; have H5 := Lib.hid h5; have H6 := Lib.hid h6; have H7 := Lib.hid h7
  clear hLN hcopy h4 h5 h6 h7
  generalize (frR f st ws).isSome = three at *
  generalize (timR f st ws).isSome = five at *
  generalize (timR f st ws).getD 0 = t at *
  generalize ((frR f st ws).getD (0, 0)).1 = fk at *
  generalize ((frR f st ws).getD (0, 0)).2 = fi at *
  obtain ⟨en, hen⟩ : ∃ b, b = (askB f st ws && enB (needF f ws) st) := ⟨_, rfl⟩
  rw [← hen] at h2 H4 ⊢
  have HEN := Lib.hid hen; clear hen
  obtain ⟨one, hone⟩ : ∃ b, b = askB f st ws := ⟨_, rfl⟩
  rw [← hone] at h1 h2 h3 HEN ⊢
  have HONE := Lib.hid hone; clear hone
  obtain ⟨ok, hok⟩ : ∃ b, b = copyB f ws := ⟨_, rfl⟩
  rw [← hok] at h1 HLN ⊢
  have HOK := Lib.hid hok; clear hok
  obtain ⟨L, hL⟩ : ∃ l, l = (needR f ws).getD [] := ⟨_, rfl⟩
  rw [← hL] at N1_8
  rw [← hL] at N2_8
  rw [← hL] at hL64 HLN ⊢
  have HL := Lib.hid hL; clear hL
  have hmx : L.length ≤ maxLen := by unfold maxLen; omega
  have e_ok : (ok != ok) = false := by simp
  have e_one : (one != one) = false := by simp
  have e_en : (en != en) = false := by simp
  have e_three : (three != three) = false := by simp
  have e_five : (five != five) = false := by simp
  have e_t : (t != t) = false := by simp
  have e_k : ((fk : Int) != (fk : Int)) = false := by simp
  have e_i : ((fi : Int) != (fi : Int)) = false := by simp
  have hcases : (ok = false ∧ one = false ∧ en = false ∧ three = false ∧ five = false) ∨ (ok = true ∧ one = false ∧ en = false ∧ three = false ∧ five = false) ∨ (ok = true ∧ one = true ∧ en = true ∧ three = false) ∨ (ok = true ∧ one = true ∧ en = false ∧ three = true) := by
    have h8 : en = true → one = true := fun h => by rw [HEN.out] at h; revert h; cases one <;> simp
    clear HLN HOK HONE HEN
    revert h1 h2 h3 h8; cases ok <;> cases one <;> cases en <;> cases three <;> cases five <;> simp
  clear h1 h2 h3
  rcases hcases with ⟨rfl, rfl, rfl, rfl, rfl⟩ | ⟨rfl, rfl, rfl, rfl, rfl⟩ | ⟨rfl, rfl, rfl, rfl⟩ | ⟨rfl, rfl, rfl, rfl⟩
  · skip
    go_wp2_with fail
    refine (qInts_any L L _ _ _ _ _ N1_8.out N2_8.out hmx hmx).mono ?_
    rintro e u9 ⟨rfl, hb9⟩
    rw [show decide (L = L) = true from decide_eq_true rfl]
    have A_9 : Hid (Below w.heap.size w u9) := Lib.hid ((A_8.out).trans (Below.mono hb9 (A_8.out).size))
    have F_9 : Hid (SortsIn u9 0 B f) := Lib.hid (SortsIn.below F_8.out hb9 (Nat.le_refl _))
    have I_9 : Hid (IntsIn u9 C st) := Lib.hid (IntsIn.below I_8.out hb9 (Nat.le_refl _))
    have S_9 : Hid (StrsIn u9 E ws) := Lib.hid (StrsIn.below S_8.out hb9 (Nat.le_refl _))
    have N1_9 : Hid (IntsIn u9 A1 (L)) := Lib.hid (IntsIn.below N1_8.out hb9 (Nat.le_refl _))
    have N2_9 : Hid (IntsIn u9 A2 (L)) := Lib.hid (IntsIn.below N2_8.out hb9 (Nat.le_refl _))
    clear A_8 F_8 I_8 S_8 N1_8 N2_8
    clear hb9
    clear N1_9
    go_wp2_with fail
    refine (drawRec_any Ay cy ys _ (HY.out.below A_9.out (Nat.le_refl _)) hys).mono ?_
    rintro e u10 ⟨vs, t9, rfl, f9, B9, d9, st9, C9, q9, ws9, E9, d93, rfl, hf9, hco9, hst9, hws9, hso9, hF9, hI9, hS9, hb10⟩
    clear F_9
    clear I_9
    clear S_9
    clear N2_9
    have A_10 : Hid (Below w.heap.size w u10) := Lib.hid ((A_9.out).trans (Below.mono hb10 (A_9.out).size))
    clear A_9
    clear hb10
    have HCO9 := Lib.hid hco9; have HSO9 := Lib.hid hso9
    have hn9 : f9.length ≤ 1048576 := by omega
    have hq9 : st9.length ≤ 1048576 := by omega
    have hm9 : ws9.length ≤ 1048576 := by omega
    clear hco9 hso9
    have F9_10 : Hid (SortsIn u10 0 B9 f9) := Lib.hid hF9
    have I9_10 : Hid (IntsIn u10 C9 st9) := Lib.hid hI9
    have S9_10 : Hid (StrsIn u10 E9 ws9) := Lib.hid hS9
    clear hF9 hI9 hS9
    go_wp2_with fail
    refine (implRec_any f9 B9 d9 st9 C9 q9 ws9 E9 d93 t9 0 _ F9_10.out hn9 HCO9.out I9_10.out hq9 S9_10.out HSO9.out hm9).mono ?_
    intro e u11 hto
    obtain ⟨v3, rfl, hb11, ho3⟩ := hto
    obtain ⟨A3, c3, rfl⟩ := own_form ho3
    have A_11 : Hid (Below w.heap.size w u11) := Lib.hid ((A_10.out).trans (Below.mono hb11 (A_10.out).size))
    have F9_11 : Hid (SortsIn u11 0 B9 f9) := Lib.hid (SortsIn.below F9_10.out hb11 (Nat.le_refl _))
    have I9_11 : Hid (IntsIn u11 C9 st9) := Lib.hid (IntsIn.below I9_10.out hb11 (Nat.le_refl _))
    have S9_11 : Hid (StrsIn u11 E9 ws9) := Lib.hid (StrsIn.below S9_10.out hb11 (Nat.le_refl _))
    clear A_10 F9_10 I9_10 S9_10
    clear hb11
    have N3_11 : Hid (IntsIn u11 A3 ((rcR f9 st9 ws9 t9).getD [])) := Lib.hid (own_in ho3)
    clear ho3
    go_wp2_with fail
    refine (specRec_any f9 B9 d9 st9 C9 q9 ws9 E9 d93 t9 0 _ F9_11.out hn9 HCO9.out I9_11.out hq9 S9_11.out HSO9.out hm9).mono ?_
    intro e u12 hto
    obtain ⟨v4, rfl, hb12, ho4⟩ := hto
    obtain ⟨A4, c4, rfl⟩ := own_form ho4
    have A_12 : Hid (Below w.heap.size w u12) := Lib.hid ((A_11.out).trans (Below.mono hb12 (A_11.out).size))
    have F9_12 : Hid (SortsIn u12 0 B9 f9) := Lib.hid (SortsIn.below F9_11.out hb12 (Nat.le_refl _))
    have I9_12 : Hid (IntsIn u12 C9 st9) := Lib.hid (IntsIn.below I9_11.out hb12 (Nat.le_refl _))
    have S9_12 : Hid (StrsIn u12 E9 ws9) := Lib.hid (StrsIn.below S9_11.out hb12 (Nat.le_refl _))
    have N3_12 : Hid (IntsIn u12 A3 ((rcR f9 st9 ws9 t9).getD [])) := Lib.hid (IntsIn.below N3_11.out hb12 (Nat.le_refl _))
    clear A_11 F9_11 I9_11 S9_11 N3_11
    clear hb12
    have N4_12 : Hid (IntsIn u12 A4 ((rcR f9 st9 ws9 t9).getD [])) := Lib.hid (own_in ho4)
    clear ho4
    have h64 := rcR_short f9 st9 ws9 t9
    obtain ⟨R9, hR9⟩ : ∃ l, l = (rcR f9 st9 ws9 t9).getD [] := ⟨_, rfl⟩
    rw [← hR9] at h64 N3_12 N4_12 ⊢
    clear hR9
    generalize (rcR f9 st9 ws9 t9).isSome = b9 at *
    have e9 : (b9 == b9) = true := by simp
    have hmx9 : R9.length ≤ maxLen := by unfold maxLen; omega
    go_wp2_with fail
    refine (qInts_any R9 R9 _ _ _ _ _ N3_12.out N4_12.out hmx9 hmx9).mono ?_
    rintro e u13 ⟨rfl, hb13⟩
    rw [show decide (R9 = R9) = true from decide_eq_true rfl]
    have A_13 : Hid (Below w.heap.size w u13) := Lib.hid ((A_12.out).trans (Below.mono hb13 (A_12.out).size))
    have F9_13 : Hid (SortsIn u13 0 B9 f9) := Lib.hid (SortsIn.below F9_12.out hb13 (Nat.le_refl _))
    have I9_13 : Hid (IntsIn u13 C9 st9) := Lib.hid (IntsIn.below I9_12.out hb13 (Nat.le_refl _))
    have S9_13 : Hid (StrsIn u13 E9 ws9) := Lib.hid (StrsIn.below S9_12.out hb13 (Nat.le_refl _))
    have N3_13 : Hid (IntsIn u13 A3 (R9)) := Lib.hid (IntsIn.below N3_12.out hb13 (Nat.le_refl _))
    have N4_13 : Hid (IntsIn u13 A4 (R9)) := Lib.hid (IntsIn.below N4_12.out hb13 (Nat.le_refl _))
    clear A_12 F9_12 I9_12 S9_12 N3_12 N4_12
    clear hb13
    go_wp2
    go_ret
    exact ⟨rfl, A_13.out⟩
  · skip
    go_wp2_with fail
    refine (qInts_any L L _ _ _ _ _ N1_8.out N2_8.out hmx hmx).mono ?_
    rintro e u14 ⟨rfl, hb14⟩
    rw [show decide (L = L) = true from decide_eq_true rfl]
    have A_9 : Hid (Below w.heap.size w u14) := Lib.hid ((A_8.out).trans (Below.mono hb14 (A_8.out).size))
    have F_9 : Hid (SortsIn u14 0 B f) := Lib.hid (SortsIn.below F_8.out hb14 (Nat.le_refl _))
    have I_9 : Hid (IntsIn u14 C st) := Lib.hid (IntsIn.below I_8.out hb14 (Nat.le_refl _))
    have S_9 : Hid (StrsIn u14 E ws) := Lib.hid (StrsIn.below S_8.out hb14 (Nat.le_refl _))
    have N1_9 : Hid (IntsIn u14 A1 (L)) := Lib.hid (IntsIn.below N1_8.out hb14 (Nat.le_refl _))
    have N2_9 : Hid (IntsIn u14 A2 (L)) := Lib.hid (IntsIn.below N2_8.out hb14 (Nat.le_refl _))
    clear A_8 F_8 I_8 S_8 N1_8 N2_8
    clear hb14
    clear N1_9
    obtain ⟨hcp, hwo⟩ : copyB f ws = true ∧ wordsB ws = true := ⟨HOK.out.symm, (copy_parts HOK.out.symm).2.1⟩
    have HCP := Lib.hid (copy_parts hcp)
    have hw40 := words_40 hwo
    have hLe := HLN.out (by first | rfl | trivial)
    have HSUM : Hid (L.sum = ((flS f ws).length : Nat)) := Lib.hid (by rw [hLe]; exact need_sum f ws)
    have HLB : Hid (∀ k (h : k < L.length), 0 ≤ L[k] ∧ L[k] ≤ 100000) := Lib.hid (by subst hLe; intro k hk; have := needF_bound hwo hk; omega)
    clear hcp hwo hLe
    go_wp2
    obtain ⟨wo, hwo⟩ : ∃ wo : World, wo = u14 := ⟨_, rfl⟩
    subst hwo
    go_loopw [26, 181] (fun s i wr => ∃ (k : Nat), k ≤ ws.length ∧ i = .int .i64 k ∧ s = .int .i64 (((flS f (ws.take k)).length : Nat) : Int) ∧ Below wo.heap.size wo wr) (fun _ i _ => ws.length - (intOf i).toNat)
    case atStart => exact ⟨0, Nat.zero_le _, rfl, rfl, Below.refl _ _⟩
    case round =>
      obtain ⟨k, hk, rfl, rfl, hbw⟩ := hrel
      have HBW := Lib.hid hbw; clear hbw
      by_cases hlt : k < ws.length
      · obtain ⟨b, off, rfl, hbl, hd⟩ := (S_9.out) (by omega)
        have hd0 := (HBW.out.cell (p := ⟨b, off + k, none⟩) hbl).trans (hd k hlt)
        have hsz : ws[k].size ≤ maxLen := HSO.out k hlt
        have HSW : Hid (sowF f ws[k] = some (sg f ws[k])) := Lib.hid ((sow_word (fontB_iff.2 HCP.out.1) (words_isWord HCP.out.2.1 hlt)).trans (canB_at hlt HCP.out.2.2))
        have HSN := Lib.hid (flS_snoc f hlt)
        have h640 := flS_640 (f := f) HCP.out.2.1 k
        have hl16 := sg_len (f := f) (words_size HCP.out.2.1 hlt)
        have HFW := Lib.hid ((F_9.out).below HBW.out (Nat.le_refl _))
        generalize ws[k] = s at *
        clear hd
        go_wp2_with fail
        refine (implSow_any f B d s 0 _ HFW.out hn HCO.out hsz).mono ?_
        intro e w3 hto
        rw [HSW.out] at hto
        obtain ⟨hb3, v, rfl, hov⟩ := hto
        rw [ints_Z] at hov
        have hov2 : w3.ownsRow wr.heap.size 3 1 v (intL (sg f s)).length (intsZ (intL (sg f s))) := by rw [intL_len]; exact hov
        obtain ⟨A7, c7, rfl⟩ := own_form hov2
        rw [intL_len]
        have HB3 := Lib.hid (HBW.out.trans (hb3.mono HBW.out.size))
        clear hb3 hov hov2 hd0
        have HSL : Hid ((flS f (ws.take (k + 1))).length = (flS f (ws.take k)).length + (sg f s).length) := Lib.hid (by rw [HSN.out, List.length_append])
        clear HSN
        generalize (flS f (ws.take k)).length = S at *
        generalize (sg f s).length = z at *
        go_wp2
        go_roundw
        case rel => exact ⟨k + 1, by omega, by go_num, by rw [HSL.out]; go_num, HB3.out⟩
        case measure => simp [intOf]; omega
      · obtain rfl : k = ws.length := by omega
        have HFL : Hid ((flS f (ws.take ws.length)).length = (flS f ws).length) := Lib.hid (by rw [List.take_length])
        rw [HFL.out]
        have hbq := HBW.out
        have A_10 : Hid (Below w.heap.size w wr) := Lib.hid ((A_9.out).trans (Below.mono hbq (A_9.out).size))
        have F_10 : Hid (SortsIn wr 0 B f) := Lib.hid (SortsIn.below F_9.out hbq (Nat.le_refl _))
        have I_10 : Hid (IntsIn wr C st) := Lib.hid (IntsIn.below I_9.out hbq (Nat.le_refl _))
        have S_10 : Hid (StrsIn wr E ws) := Lib.hid (StrsIn.below S_9.out hbq (Nat.le_refl _))
        have N2_10 : Hid (IntsIn wr A2 (L)) := Lib.hid (IntsIn.below N2_9.out hbq (Nat.le_refl _))
        clear A_9 F_9 I_9 S_9 N2_9
        clear hbq
        have hs64 : L.length ≤ 64 := hL64
        go_wp2_with fail
        refine (qSum_any L _ _ _ N2_10.out hs64 HLB.out).mono ?_
        rintro e w' ⟨rfl, rfl⟩
        rw [HSUM.out]
        have e_s : ((((flS f ws).length : Nat) : Int) != (((flS f ws).length : Nat) : Int)) = false := by simp
        generalize (flS f ws).length = Z at *
        clear N2_10
        go_wp2_with fail
        refine (drawRec_any Ay cy ys _ (HY.out.below A_10.out (Nat.le_refl _)) hys).mono ?_
        rintro e u15 ⟨vs, t9, rfl, f9, B9, d9, st9, C9, q9, ws9, E9, d93, rfl, hf9, hco9, hst9, hws9, hso9, hF9, hI9, hS9, hb15⟩
        clear F_10
        clear I_10
        clear S_10
        have A_11 : Hid (Below w.heap.size w u15) := Lib.hid ((A_10.out).trans (Below.mono hb15 (A_10.out).size))
        clear A_10
        clear hb15
        have HCO9 := Lib.hid hco9; have HSO9 := Lib.hid hso9
        have hn9 : f9.length ≤ 1048576 := by omega
        have hq9 : st9.length ≤ 1048576 := by omega
        have hm9 : ws9.length ≤ 1048576 := by omega
        clear hco9 hso9
        have F9_11 : Hid (SortsIn u15 0 B9 f9) := Lib.hid hF9
        have I9_11 : Hid (IntsIn u15 C9 st9) := Lib.hid hI9
        have S9_11 : Hid (StrsIn u15 E9 ws9) := Lib.hid hS9
        clear hF9 hI9 hS9
        go_wp2_with fail
        refine (implRec_any f9 B9 d9 st9 C9 q9 ws9 E9 d93 t9 0 _ F9_11.out hn9 HCO9.out I9_11.out hq9 S9_11.out HSO9.out hm9).mono ?_
        intro e u16 hto
        obtain ⟨v3, rfl, hb16, ho3⟩ := hto
        obtain ⟨A3, c3, rfl⟩ := own_form ho3
        have A_12 : Hid (Below w.heap.size w u16) := Lib.hid ((A_11.out).trans (Below.mono hb16 (A_11.out).size))
        have F9_12 : Hid (SortsIn u16 0 B9 f9) := Lib.hid (SortsIn.below F9_11.out hb16 (Nat.le_refl _))
        have I9_12 : Hid (IntsIn u16 C9 st9) := Lib.hid (IntsIn.below I9_11.out hb16 (Nat.le_refl _))
        have S9_12 : Hid (StrsIn u16 E9 ws9) := Lib.hid (StrsIn.below S9_11.out hb16 (Nat.le_refl _))
        clear A_11 F9_11 I9_11 S9_11
        clear hb16
        have N3_12 : Hid (IntsIn u16 A3 ((rcR f9 st9 ws9 t9).getD [])) := Lib.hid (own_in ho3)
        clear ho3
        go_wp2_with fail
        refine (specRec_any f9 B9 d9 st9 C9 q9 ws9 E9 d93 t9 0 _ F9_12.out hn9 HCO9.out I9_12.out hq9 S9_12.out HSO9.out hm9).mono ?_
        intro e u17 hto
        obtain ⟨v4, rfl, hb17, ho4⟩ := hto
        obtain ⟨A4, c4, rfl⟩ := own_form ho4
        have A_13 : Hid (Below w.heap.size w u17) := Lib.hid ((A_12.out).trans (Below.mono hb17 (A_12.out).size))
        have F9_13 : Hid (SortsIn u17 0 B9 f9) := Lib.hid (SortsIn.below F9_12.out hb17 (Nat.le_refl _))
        have I9_13 : Hid (IntsIn u17 C9 st9) := Lib.hid (IntsIn.below I9_12.out hb17 (Nat.le_refl _))
        have S9_13 : Hid (StrsIn u17 E9 ws9) := Lib.hid (StrsIn.below S9_12.out hb17 (Nat.le_refl _))
        have N3_13 : Hid (IntsIn u17 A3 ((rcR f9 st9 ws9 t9).getD [])) := Lib.hid (IntsIn.below N3_12.out hb17 (Nat.le_refl _))
        clear A_12 F9_12 I9_12 S9_12 N3_12
        clear hb17
        have N4_13 : Hid (IntsIn u17 A4 ((rcR f9 st9 ws9 t9).getD [])) := Lib.hid (own_in ho4)
        clear ho4
        have h64 := rcR_short f9 st9 ws9 t9
        obtain ⟨R9, hR9⟩ : ∃ l, l = (rcR f9 st9 ws9 t9).getD [] := ⟨_, rfl⟩
        rw [← hR9] at h64 N3_13 N4_13 ⊢
        clear hR9
        generalize (rcR f9 st9 ws9 t9).isSome = b9 at *
        have e9 : (b9 == b9) = true := by simp
        have hmx9 : R9.length ≤ maxLen := by unfold maxLen; omega
        go_wp2_with fail
        refine (qInts_any R9 R9 _ _ _ _ _ N3_13.out N4_13.out hmx9 hmx9).mono ?_
        rintro e u18 ⟨rfl, hb18⟩
        rw [show decide (R9 = R9) = true from decide_eq_true rfl]
        have A_14 : Hid (Below w.heap.size w u18) := Lib.hid ((A_13.out).trans (Below.mono hb18 (A_13.out).size))
        have F9_14 : Hid (SortsIn u18 0 B9 f9) := Lib.hid (SortsIn.below F9_13.out hb18 (Nat.le_refl _))
        have I9_14 : Hid (IntsIn u18 C9 st9) := Lib.hid (IntsIn.below I9_13.out hb18 (Nat.le_refl _))
        have S9_14 : Hid (StrsIn u18 E9 ws9) := Lib.hid (StrsIn.below S9_13.out hb18 (Nat.le_refl _))
        have N3_14 : Hid (IntsIn u18 A3 (R9)) := Lib.hid (IntsIn.below N3_13.out hb18 (Nat.le_refl _))
        have N4_14 : Hid (IntsIn u18 A4 (R9)) := Lib.hid (IntsIn.below N4_13.out hb18 (Nat.le_refl _))
        clear A_13 F9_13 I9_13 S9_13 N3_13 N4_13
        clear hb18
        go_wp2
        go_ret
        exact ⟨rfl, A_14.out⟩
  · skip
    cases five
    · skip
      go_wp2_with fail
      refine (qInts_any L L _ _ _ _ _ N1_8.out N2_8.out hmx hmx).mono ?_
      rintro e u19 ⟨rfl, hb19⟩
      rw [show decide (L = L) = true from decide_eq_true rfl]
      have A_9 : Hid (Below w.heap.size w u19) := Lib.hid ((A_8.out).trans (Below.mono hb19 (A_8.out).size))
      have F_9 : Hid (SortsIn u19 0 B f) := Lib.hid (SortsIn.below F_8.out hb19 (Nat.le_refl _))
      have I_9 : Hid (IntsIn u19 C st) := Lib.hid (IntsIn.below I_8.out hb19 (Nat.le_refl _))
      have S_9 : Hid (StrsIn u19 E ws) := Lib.hid (StrsIn.below S_8.out hb19 (Nat.le_refl _))
      have N1_9 : Hid (IntsIn u19 A1 (L)) := Lib.hid (IntsIn.below N1_8.out hb19 (Nat.le_refl _))
      have N2_9 : Hid (IntsIn u19 A2 (L)) := Lib.hid (IntsIn.below N2_8.out hb19 (Nat.le_refl _))
      clear A_8 F_8 I_8 S_8 N1_8 N2_8
      clear hb19
      clear N1_9
      obtain ⟨hcp, hwo⟩ : copyB f ws = true ∧ wordsB ws = true := ⟨HOK.out.symm, (copy_parts HOK.out.symm).2.1⟩
      have HCP := Lib.hid (copy_parts hcp)
      have hw40 := words_40 hwo
      have hLe := HLN.out (by first | rfl | trivial)
      have HSUM : Hid (L.sum = ((flS f ws).length : Nat)) := Lib.hid (by rw [hLe]; exact need_sum f ws)
      have HLB : Hid (∀ k (h : k < L.length), 0 ≤ L[k] ∧ L[k] ≤ 100000) := Lib.hid (by subst hLe; intro k hk; have := needF_bound hwo hk; omega)
      clear hcp hwo hLe
      go_wp2
      obtain ⟨wo, hwo⟩ : ∃ wo : World, wo = u19 := ⟨_, rfl⟩
      subst hwo
      go_loopw [26, 181] (fun s i wr => ∃ (k : Nat), k ≤ ws.length ∧ i = .int .i64 k ∧ s = .int .i64 (((flS f (ws.take k)).length : Nat) : Int) ∧ Below wo.heap.size wo wr) (fun _ i _ => ws.length - (intOf i).toNat)
      case atStart => exact ⟨0, Nat.zero_le _, rfl, rfl, Below.refl _ _⟩
      case round =>
        obtain ⟨k, hk, rfl, rfl, hbw⟩ := hrel
        have HBW := Lib.hid hbw; clear hbw
        by_cases hlt : k < ws.length
        · obtain ⟨b, off, rfl, hbl, hd⟩ := (S_9.out) (by omega)
          have hd0 := (HBW.out.cell (p := ⟨b, off + k, none⟩) hbl).trans (hd k hlt)
          have hsz : ws[k].size ≤ maxLen := HSO.out k hlt
          have HSW : Hid (sowF f ws[k] = some (sg f ws[k])) := Lib.hid ((sow_word (fontB_iff.2 HCP.out.1) (words_isWord HCP.out.2.1 hlt)).trans (canB_at hlt HCP.out.2.2))
          have HSN := Lib.hid (flS_snoc f hlt)
          have h640 := flS_640 (f := f) HCP.out.2.1 k
          have hl16 := sg_len (f := f) (words_size HCP.out.2.1 hlt)
          have HFW := Lib.hid ((F_9.out).below HBW.out (Nat.le_refl _))
          generalize ws[k] = s at *
          clear hd
          go_wp2_with fail
          refine (implSow_any f B d s 0 _ HFW.out hn HCO.out hsz).mono ?_
          intro e w3 hto
          rw [HSW.out] at hto
          obtain ⟨hb3, v, rfl, hov⟩ := hto
          rw [ints_Z] at hov
          have hov2 : w3.ownsRow wr.heap.size 3 1 v (intL (sg f s)).length (intsZ (intL (sg f s))) := by rw [intL_len]; exact hov
          obtain ⟨A7, c7, rfl⟩ := own_form hov2
          rw [intL_len]
          have HB3 := Lib.hid (HBW.out.trans (hb3.mono HBW.out.size))
          clear hb3 hov hov2 hd0
          have HSL : Hid ((flS f (ws.take (k + 1))).length = (flS f (ws.take k)).length + (sg f s).length) := Lib.hid (by rw [HSN.out, List.length_append])
          clear HSN
          generalize (flS f (ws.take k)).length = S at *
          generalize (sg f s).length = z at *
          go_wp2
          go_roundw
          case rel => exact ⟨k + 1, by omega, by go_num, by rw [HSL.out]; go_num, HB3.out⟩
          case measure => simp [intOf]; omega
        · obtain rfl : k = ws.length := by omega
          have HFL : Hid ((flS f (ws.take ws.length)).length = (flS f ws).length) := Lib.hid (by rw [List.take_length])
          rw [HFL.out]
          have hbq := HBW.out
          have A_10 : Hid (Below w.heap.size w wr) := Lib.hid ((A_9.out).trans (Below.mono hbq (A_9.out).size))
          have F_10 : Hid (SortsIn wr 0 B f) := Lib.hid (SortsIn.below F_9.out hbq (Nat.le_refl _))
          have I_10 : Hid (IntsIn wr C st) := Lib.hid (IntsIn.below I_9.out hbq (Nat.le_refl _))
          have S_10 : Hid (StrsIn wr E ws) := Lib.hid (StrsIn.below S_9.out hbq (Nat.le_refl _))
          have N2_10 : Hid (IntsIn wr A2 (L)) := Lib.hid (IntsIn.below N2_9.out hbq (Nat.le_refl _))
          clear A_9 F_9 I_9 S_9 N2_9
          clear hbq
          have hs64 : L.length ≤ 64 := hL64
          go_wp2_with fail
          refine (qSum_any L _ _ _ N2_10.out hs64 HLB.out).mono ?_
          rintro e w' ⟨rfl, rfl⟩
          rw [HSUM.out]
          have e_s : ((((flS f ws).length : Nat) : Int) != (((flS f ws).length : Nat) : Int)) = false := by simp
          generalize (flS f ws).length = Z at *
          clear N2_10
          go_wp2_with fail
          refine (drawRec_any Ay cy ys _ (HY.out.below A_10.out (Nat.le_refl _)) hys).mono ?_
          rintro e u20 ⟨vs, t9, rfl, f9, B9, d9, st9, C9, q9, ws9, E9, d93, rfl, hf9, hco9, hst9, hws9, hso9, hF9, hI9, hS9, hb20⟩
          clear F_10
          clear I_10
          clear S_10
          have A_11 : Hid (Below w.heap.size w u20) := Lib.hid ((A_10.out).trans (Below.mono hb20 (A_10.out).size))
          clear A_10
          clear hb20
          have HCO9 := Lib.hid hco9; have HSO9 := Lib.hid hso9
          have hn9 : f9.length ≤ 1048576 := by omega
          have hq9 : st9.length ≤ 1048576 := by omega
          have hm9 : ws9.length ≤ 1048576 := by omega
          clear hco9 hso9
          have F9_11 : Hid (SortsIn u20 0 B9 f9) := Lib.hid hF9
          have I9_11 : Hid (IntsIn u20 C9 st9) := Lib.hid hI9
          have S9_11 : Hid (StrsIn u20 E9 ws9) := Lib.hid hS9
          clear hF9 hI9 hS9
          go_wp2_with fail
          refine (implRec_any f9 B9 d9 st9 C9 q9 ws9 E9 d93 t9 0 _ F9_11.out hn9 HCO9.out I9_11.out hq9 S9_11.out HSO9.out hm9).mono ?_
          intro e u21 hto
          obtain ⟨v3, rfl, hb21, ho3⟩ := hto
          obtain ⟨A3, c3, rfl⟩ := own_form ho3
          have A_12 : Hid (Below w.heap.size w u21) := Lib.hid ((A_11.out).trans (Below.mono hb21 (A_11.out).size))
          have F9_12 : Hid (SortsIn u21 0 B9 f9) := Lib.hid (SortsIn.below F9_11.out hb21 (Nat.le_refl _))
          have I9_12 : Hid (IntsIn u21 C9 st9) := Lib.hid (IntsIn.below I9_11.out hb21 (Nat.le_refl _))
          have S9_12 : Hid (StrsIn u21 E9 ws9) := Lib.hid (StrsIn.below S9_11.out hb21 (Nat.le_refl _))
          clear A_11 F9_11 I9_11 S9_11
          clear hb21
          have N3_12 : Hid (IntsIn u21 A3 ((rcR f9 st9 ws9 t9).getD [])) := Lib.hid (own_in ho3)
          clear ho3
          go_wp2_with fail
          refine (specRec_any f9 B9 d9 st9 C9 q9 ws9 E9 d93 t9 0 _ F9_12.out hn9 HCO9.out I9_12.out hq9 S9_12.out HSO9.out hm9).mono ?_
          intro e u22 hto
          obtain ⟨v4, rfl, hb22, ho4⟩ := hto
          obtain ⟨A4, c4, rfl⟩ := own_form ho4
          have A_13 : Hid (Below w.heap.size w u22) := Lib.hid ((A_12.out).trans (Below.mono hb22 (A_12.out).size))
          have F9_13 : Hid (SortsIn u22 0 B9 f9) := Lib.hid (SortsIn.below F9_12.out hb22 (Nat.le_refl _))
          have I9_13 : Hid (IntsIn u22 C9 st9) := Lib.hid (IntsIn.below I9_12.out hb22 (Nat.le_refl _))
          have S9_13 : Hid (StrsIn u22 E9 ws9) := Lib.hid (StrsIn.below S9_12.out hb22 (Nat.le_refl _))
          have N3_13 : Hid (IntsIn u22 A3 ((rcR f9 st9 ws9 t9).getD [])) := Lib.hid (IntsIn.below N3_12.out hb22 (Nat.le_refl _))
          clear A_12 F9_12 I9_12 S9_12 N3_12
          clear hb22
          have N4_13 : Hid (IntsIn u22 A4 ((rcR f9 st9 ws9 t9).getD [])) := Lib.hid (own_in ho4)
          clear ho4
          have h64 := rcR_short f9 st9 ws9 t9
          obtain ⟨R9, hR9⟩ : ∃ l, l = (rcR f9 st9 ws9 t9).getD [] := ⟨_, rfl⟩
          rw [← hR9] at h64 N3_13 N4_13 ⊢
          clear hR9
          generalize (rcR f9 st9 ws9 t9).isSome = b9 at *
          have e9 : (b9 == b9) = true := by simp
          have hmx9 : R9.length ≤ maxLen := by unfold maxLen; omega
          go_wp2_with fail
          refine (qInts_any R9 R9 _ _ _ _ _ N3_13.out N4_13.out hmx9 hmx9).mono ?_
          rintro e u23 ⟨rfl, hb23⟩
          rw [show decide (R9 = R9) = true from decide_eq_true rfl]
          have A_14 : Hid (Below w.heap.size w u23) := Lib.hid ((A_13.out).trans (Below.mono hb23 (A_13.out).size))
          have F9_14 : Hid (SortsIn u23 0 B9 f9) := Lib.hid (SortsIn.below F9_13.out hb23 (Nat.le_refl _))
          have I9_14 : Hid (IntsIn u23 C9 st9) := Lib.hid (IntsIn.below I9_13.out hb23 (Nat.le_refl _))
          have S9_14 : Hid (StrsIn u23 E9 ws9) := Lib.hid (StrsIn.below S9_13.out hb23 (Nat.le_refl _))
          have N3_14 : Hid (IntsIn u23 A3 (R9)) := Lib.hid (IntsIn.below N3_13.out hb23 (Nat.le_refl _))
          have N4_14 : Hid (IntsIn u23 A4 (R9)) := Lib.hid (IntsIn.below N4_13.out hb23 (Nat.le_refl _))
          clear A_13 F9_13 I9_13 S9_13 N3_13 N4_13
          clear hb23
          go_wp2
          go_ret
          exact ⟨rfl, A_14.out⟩
    · skip
      go_wp2_with fail
      refine (qInts_any L L _ _ _ _ _ N1_8.out N2_8.out hmx hmx).mono ?_
      rintro e u24 ⟨rfl, hb24⟩
      rw [show decide (L = L) = true from decide_eq_true rfl]
      have A_9 : Hid (Below w.heap.size w u24) := Lib.hid ((A_8.out).trans (Below.mono hb24 (A_8.out).size))
      have F_9 : Hid (SortsIn u24 0 B f) := Lib.hid (SortsIn.below F_8.out hb24 (Nat.le_refl _))
      have I_9 : Hid (IntsIn u24 C st) := Lib.hid (IntsIn.below I_8.out hb24 (Nat.le_refl _))
      have S_9 : Hid (StrsIn u24 E ws) := Lib.hid (StrsIn.below S_8.out hb24 (Nat.le_refl _))
      have N1_9 : Hid (IntsIn u24 A1 (L)) := Lib.hid (IntsIn.below N1_8.out hb24 (Nat.le_refl _))
      have N2_9 : Hid (IntsIn u24 A2 (L)) := Lib.hid (IntsIn.below N2_8.out hb24 (Nat.le_refl _))
      clear A_8 F_8 I_8 S_8 N1_8 N2_8
      clear hb24
      clear N1_9
      obtain ⟨hcp, hwo⟩ : copyB f ws = true ∧ wordsB ws = true := ⟨HOK.out.symm, (copy_parts HOK.out.symm).2.1⟩
      have HCP := Lib.hid (copy_parts hcp)
      have hw40 := words_40 hwo
      have hLe := HLN.out (by first | rfl | trivial)
      have HSUM : Hid (L.sum = ((flS f ws).length : Nat)) := Lib.hid (by rw [hLe]; exact need_sum f ws)
      have HLB : Hid (∀ k (h : k < L.length), 0 ≤ L[k] ∧ L[k] ≤ 100000) := Lib.hid (by subst hLe; intro k hk; have := needF_bound hwo hk; omega)
      clear hcp hwo hLe
      go_wp2
      obtain ⟨wo, hwo⟩ : ∃ wo : World, wo = u24 := ⟨_, rfl⟩
      subst hwo
      go_loopw [26, 181] (fun s i wr => ∃ (k : Nat), k ≤ ws.length ∧ i = .int .i64 k ∧ s = .int .i64 (((flS f (ws.take k)).length : Nat) : Int) ∧ Below wo.heap.size wo wr) (fun _ i _ => ws.length - (intOf i).toNat)
      case atStart => exact ⟨0, Nat.zero_le _, rfl, rfl, Below.refl _ _⟩
      case round =>
        obtain ⟨k, hk, rfl, rfl, hbw⟩ := hrel
        have HBW := Lib.hid hbw; clear hbw
        by_cases hlt : k < ws.length
        · obtain ⟨b, off, rfl, hbl, hd⟩ := (S_9.out) (by omega)
          have hd0 := (HBW.out.cell (p := ⟨b, off + k, none⟩) hbl).trans (hd k hlt)
          have hsz : ws[k].size ≤ maxLen := HSO.out k hlt
          have HSW : Hid (sowF f ws[k] = some (sg f ws[k])) := Lib.hid ((sow_word (fontB_iff.2 HCP.out.1) (words_isWord HCP.out.2.1 hlt)).trans (canB_at hlt HCP.out.2.2))
          have HSN := Lib.hid (flS_snoc f hlt)
          have h640 := flS_640 (f := f) HCP.out.2.1 k
          have hl16 := sg_len (f := f) (words_size HCP.out.2.1 hlt)
          have HFW := Lib.hid ((F_9.out).below HBW.out (Nat.le_refl _))
          generalize ws[k] = s at *
          clear hd
          go_wp2_with fail
          refine (implSow_any f B d s 0 _ HFW.out hn HCO.out hsz).mono ?_
          intro e w3 hto
          rw [HSW.out] at hto
          obtain ⟨hb3, v, rfl, hov⟩ := hto
          rw [ints_Z] at hov
          have hov2 : w3.ownsRow wr.heap.size 3 1 v (intL (sg f s)).length (intsZ (intL (sg f s))) := by rw [intL_len]; exact hov
          obtain ⟨A7, c7, rfl⟩ := own_form hov2
          rw [intL_len]
          have HB3 := Lib.hid (HBW.out.trans (hb3.mono HBW.out.size))
          clear hb3 hov hov2 hd0
          have HSL : Hid ((flS f (ws.take (k + 1))).length = (flS f (ws.take k)).length + (sg f s).length) := Lib.hid (by rw [HSN.out, List.length_append])
          clear HSN
          generalize (flS f (ws.take k)).length = S at *
          generalize (sg f s).length = z at *
          go_wp2
          go_roundw
          case rel => exact ⟨k + 1, by omega, by go_num, by rw [HSL.out]; go_num, HB3.out⟩
          case measure => simp [intOf]; omega
        · obtain rfl : k = ws.length := by omega
          have HFL : Hid ((flS f (ws.take ws.length)).length = (flS f ws).length) := Lib.hid (by rw [List.take_length])
          rw [HFL.out]
          have hbq := HBW.out
          have A_10 : Hid (Below w.heap.size w wr) := Lib.hid ((A_9.out).trans (Below.mono hbq (A_9.out).size))
          have F_10 : Hid (SortsIn wr 0 B f) := Lib.hid (SortsIn.below F_9.out hbq (Nat.le_refl _))
          have I_10 : Hid (IntsIn wr C st) := Lib.hid (IntsIn.below I_9.out hbq (Nat.le_refl _))
          have S_10 : Hid (StrsIn wr E ws) := Lib.hid (StrsIn.below S_9.out hbq (Nat.le_refl _))
          have N2_10 : Hid (IntsIn wr A2 (L)) := Lib.hid (IntsIn.below N2_9.out hbq (Nat.le_refl _))
          clear A_9 F_9 I_9 S_9 N2_9
          clear hbq
          have hs64 : L.length ≤ 64 := hL64
          go_wp2_with fail
          refine (qSum_any L _ _ _ N2_10.out hs64 HLB.out).mono ?_
          rintro e w' ⟨rfl, rfl⟩
          rw [HSUM.out]
          have e_s : ((((flS f ws).length : Nat) : Int) != (((flS f ws).length : Nat) : Int)) = false := by simp
          generalize (flS f ws).length = Z at *
          clear N2_10
          have hq4 := H4.out (by first | rfl | trivial)
          obtain ⟨ht0, ht1⟩ := H7.out (by first | rfl | trivial)
          have htp : 0 < t := by simpa using hq4.symm
          clear hq4
          by_cases hth : t < 1000
          · skip
            obtain ⟨r0, hr0, hr1⟩ := H5.out (by first | rfl | trivial) hth
            have HR0 := Lib.hid hr0; have HR1 := Lib.hid hr1; clear hr0 hr1
            go_wp2_with fail
            refine (implRec_any f B d st C q ws E d3 t 0 _ F_10.out hn HCO.out I_10.out hq S_10.out HSO.out hm).mono ?_
            intro e u25 hto
            obtain ⟨A5, c5, rfl, hb25, ho5⟩ := hto.some HR0.out
            have A_11 : Hid (Below w.heap.size w u25) := Lib.hid ((A_10.out).trans (Below.mono hb25 (A_10.out).size))
            have F_11 : Hid (SortsIn u25 0 B f) := Lib.hid (SortsIn.below F_10.out hb25 (Nat.le_refl _))
            have I_11 : Hid (IntsIn u25 C st) := Lib.hid (IntsIn.below I_10.out hb25 (Nat.le_refl _))
            have S_11 : Hid (StrsIn u25 E ws) := Lib.hid (StrsIn.below S_10.out hb25 (Nat.le_refl _))
            clear A_10 F_10 I_10 S_10
            clear hb25
            have N5_11 : Hid (IntsIn u25 A5 r0) := Lib.hid (own_in ho5)
            clear ho5
            have hr64 : r0.length ≤ 64 := by have := rcR_short f st ws t; rw [HR0.out] at this; exact this
            have HRB : Hid (∀ k (h : k < r0.length), 0 ≤ r0[k] ∧ r0[k] ≤ 100000) := Lib.hid fun k hk => allB_at hk (rcR_bound HR0.out)
            have htn : t + 1 ≤ 1000 := by omega
            cases hr9 : rcR f st ws (t + 1) with
            | none =>
              have HR9 := Lib.hid hr9; clear hr9
              go_wp2_with fail
              refine (implRec_any f B d st C q ws E d3 (t + 1) 0 _ F_11.out hn HCO.out I_11.out hq S_11.out HSO.out hm).mono ?_
              intro e u26 hto
              obtain ⟨v6, rfl, hb26⟩ := hto.none HR9.out
              have A_12 : Hid (Below w.heap.size w u26) := Lib.hid ((A_11.out).trans (Below.mono hb26 (A_11.out).size))
              have F_12 : Hid (SortsIn u26 0 B f) := Lib.hid (SortsIn.below F_11.out hb26 (Nat.le_refl _))
              have I_12 : Hid (IntsIn u26 C st) := Lib.hid (IntsIn.below I_11.out hb26 (Nat.le_refl _))
              have S_12 : Hid (StrsIn u26 E ws) := Lib.hid (StrsIn.below S_11.out hb26 (Nat.le_refl _))
              have N5_12 : Hid (IntsIn u26 A5 r0) := Lib.hid (IntsIn.below N5_11.out hb26 (Nat.le_refl _))
              clear A_11 F_11 I_11 S_11 N5_11
              clear hb26
              go_wp2_with fail
              refine (qSum_any r0 _ _ _ N5_12.out hr64 HRB.out).mono ?_
              rintro e w' ⟨rfl, rfl⟩
              rw [HR1.out]
              clear N5_12
              go_wp2_with fail
              refine (drawRec_any Ay cy ys _ (HY.out.below A_12.out (Nat.le_refl _)) hys).mono ?_
              rintro e u27 ⟨vs, t9, rfl, f9, B9, d9, st9, C9, q9, ws9, E9, d93, rfl, hf9, hco9, hst9, hws9, hso9, hF9, hI9, hS9, hb27⟩
              clear F_12
              clear I_12
              clear S_12
              have A_13 : Hid (Below w.heap.size w u27) := Lib.hid ((A_12.out).trans (Below.mono hb27 (A_12.out).size))
              clear A_12
              clear hb27
              have HCO9 := Lib.hid hco9; have HSO9 := Lib.hid hso9
              have hn9 : f9.length ≤ 1048576 := by omega
              have hq9 : st9.length ≤ 1048576 := by omega
              have hm9 : ws9.length ≤ 1048576 := by omega
              clear hco9 hso9
              have F9_13 : Hid (SortsIn u27 0 B9 f9) := Lib.hid hF9
              have I9_13 : Hid (IntsIn u27 C9 st9) := Lib.hid hI9
              have S9_13 : Hid (StrsIn u27 E9 ws9) := Lib.hid hS9
              clear hF9 hI9 hS9
              go_wp2_with fail
              refine (implRec_any f9 B9 d9 st9 C9 q9 ws9 E9 d93 t9 0 _ F9_13.out hn9 HCO9.out I9_13.out hq9 S9_13.out HSO9.out hm9).mono ?_
              intro e u28 hto
              obtain ⟨v3, rfl, hb28, ho3⟩ := hto
              obtain ⟨A3, c3, rfl⟩ := own_form ho3
              have A_14 : Hid (Below w.heap.size w u28) := Lib.hid ((A_13.out).trans (Below.mono hb28 (A_13.out).size))
              have F9_14 : Hid (SortsIn u28 0 B9 f9) := Lib.hid (SortsIn.below F9_13.out hb28 (Nat.le_refl _))
              have I9_14 : Hid (IntsIn u28 C9 st9) := Lib.hid (IntsIn.below I9_13.out hb28 (Nat.le_refl _))
              have S9_14 : Hid (StrsIn u28 E9 ws9) := Lib.hid (StrsIn.below S9_13.out hb28 (Nat.le_refl _))
              clear A_13 F9_13 I9_13 S9_13
              clear hb28
              have N3_14 : Hid (IntsIn u28 A3 ((rcR f9 st9 ws9 t9).getD [])) := Lib.hid (own_in ho3)
              clear ho3
              go_wp2_with fail
              refine (specRec_any f9 B9 d9 st9 C9 q9 ws9 E9 d93 t9 0 _ F9_14.out hn9 HCO9.out I9_14.out hq9 S9_14.out HSO9.out hm9).mono ?_
              intro e u29 hto
              obtain ⟨v4, rfl, hb29, ho4⟩ := hto
              obtain ⟨A4, c4, rfl⟩ := own_form ho4
              have A_15 : Hid (Below w.heap.size w u29) := Lib.hid ((A_14.out).trans (Below.mono hb29 (A_14.out).size))
              have F9_15 : Hid (SortsIn u29 0 B9 f9) := Lib.hid (SortsIn.below F9_14.out hb29 (Nat.le_refl _))
              have I9_15 : Hid (IntsIn u29 C9 st9) := Lib.hid (IntsIn.below I9_14.out hb29 (Nat.le_refl _))
              have S9_15 : Hid (StrsIn u29 E9 ws9) := Lib.hid (StrsIn.below S9_14.out hb29 (Nat.le_refl _))
              have N3_15 : Hid (IntsIn u29 A3 ((rcR f9 st9 ws9 t9).getD [])) := Lib.hid (IntsIn.below N3_14.out hb29 (Nat.le_refl _))
              clear A_14 F9_14 I9_14 S9_14 N3_14
              clear hb29
              have N4_15 : Hid (IntsIn u29 A4 ((rcR f9 st9 ws9 t9).getD [])) := Lib.hid (own_in ho4)
              clear ho4
              have h64 := rcR_short f9 st9 ws9 t9
              obtain ⟨R9, hR9⟩ : ∃ l, l = (rcR f9 st9 ws9 t9).getD [] := ⟨_, rfl⟩
              rw [← hR9] at h64 N3_15 N4_15 ⊢
              clear hR9
              generalize (rcR f9 st9 ws9 t9).isSome = b9 at *
              have e9 : (b9 == b9) = true := by simp
              have hmx9 : R9.length ≤ maxLen := by unfold maxLen; omega
              go_wp2_with fail
              refine (qInts_any R9 R9 _ _ _ _ _ N3_15.out N4_15.out hmx9 hmx9).mono ?_
              rintro e u30 ⟨rfl, hb30⟩
              rw [show decide (R9 = R9) = true from decide_eq_true rfl]
              have A_16 : Hid (Below w.heap.size w u30) := Lib.hid ((A_15.out).trans (Below.mono hb30 (A_15.out).size))
              have F9_16 : Hid (SortsIn u30 0 B9 f9) := Lib.hid (SortsIn.below F9_15.out hb30 (Nat.le_refl _))
              have I9_16 : Hid (IntsIn u30 C9 st9) := Lib.hid (IntsIn.below I9_15.out hb30 (Nat.le_refl _))
              have S9_16 : Hid (StrsIn u30 E9 ws9) := Lib.hid (StrsIn.below S9_15.out hb30 (Nat.le_refl _))
              have N3_16 : Hid (IntsIn u30 A3 (R9)) := Lib.hid (IntsIn.below N3_15.out hb30 (Nat.le_refl _))
              have N4_16 : Hid (IntsIn u30 A4 (R9)) := Lib.hid (IntsIn.below N4_15.out hb30 (Nat.le_refl _))
              clear A_15 F9_15 I9_15 S9_15 N3_15 N4_15
              clear hb30
              go_wp2
              go_ret
              exact ⟨rfl, A_16.out⟩
            | some r1 =>
              have HR9 := Lib.hid hr9; clear hr9
              go_wp2_with fail
              refine (implRec_any f B d st C q ws E d3 (t + 1) 0 _ F_11.out hn HCO.out I_11.out hq S_11.out HSO.out hm).mono ?_
              intro e u31 hto
              obtain ⟨A6, c6, rfl, hb31, ho6⟩ := hto.some HR9.out
              have A_12 : Hid (Below w.heap.size w u31) := Lib.hid ((A_11.out).trans (Below.mono hb31 (A_11.out).size))
              have F_12 : Hid (SortsIn u31 0 B f) := Lib.hid (SortsIn.below F_11.out hb31 (Nat.le_refl _))
              have I_12 : Hid (IntsIn u31 C st) := Lib.hid (IntsIn.below I_11.out hb31 (Nat.le_refl _))
              have S_12 : Hid (StrsIn u31 E ws) := Lib.hid (StrsIn.below S_11.out hb31 (Nat.le_refl _))
              have N5_12 : Hid (IntsIn u31 A5 r0) := Lib.hid (IntsIn.below N5_11.out hb31 (Nat.le_refl _))
              clear A_11 F_11 I_11 S_11 N5_11
              clear hb31
              have N6_12 : Hid (IntsIn u31 A6 r1) := Lib.hid (own_in ho6)
              clear ho6
              go_wp2_with fail
              refine (qSum_any r0 _ _ _ N5_12.out hr64 HRB.out).mono ?_
              rintro e w' ⟨rfl, rfl⟩
              rw [HR1.out]
              clear N5_12
              have hp1 := H6.out (by first | rfl | trivial) r1 HR9.out
              have hz1 : (r1.sum == 0) = false := by rw [beq_eq_false_iff_ne]; omega
              have hr65 : r1.length ≤ 64 := by have := rcR_short f st ws (t + 1); rw [HR9.out] at this; exact this
              have HRC : Hid (∀ k (h : k < r1.length), 0 ≤ r1[k] ∧ r1[k] ≤ 100000) := Lib.hid fun k hk => allB_at hk (rcR_bound HR9.out)
              go_wp2_with fail
              refine (qSum_any r1 _ _ _ N6_12.out hr65 HRC.out).mono ?_
              rintro e w' ⟨rfl, rfl⟩
              generalize r1.sum = sm at *
              clear N6_12
              go_wp2_with fail
              refine (drawRec_any Ay cy ys _ (HY.out.below A_12.out (Nat.le_refl _)) hys).mono ?_
              rintro e u32 ⟨vs, t9, rfl, f9, B9, d9, st9, C9, q9, ws9, E9, d93, rfl, hf9, hco9, hst9, hws9, hso9, hF9, hI9, hS9, hb32⟩
              clear F_12
              clear I_12
              clear S_12
              have A_13 : Hid (Below w.heap.size w u32) := Lib.hid ((A_12.out).trans (Below.mono hb32 (A_12.out).size))
              clear A_12
              clear hb32
              have HCO9 := Lib.hid hco9; have HSO9 := Lib.hid hso9
              have hn9 : f9.length ≤ 1048576 := by omega
              have hq9 : st9.length ≤ 1048576 := by omega
              have hm9 : ws9.length ≤ 1048576 := by omega
              clear hco9 hso9
              have F9_13 : Hid (SortsIn u32 0 B9 f9) := Lib.hid hF9
              have I9_13 : Hid (IntsIn u32 C9 st9) := Lib.hid hI9
              have S9_13 : Hid (StrsIn u32 E9 ws9) := Lib.hid hS9
              clear hF9 hI9 hS9
              go_wp2_with fail
              refine (implRec_any f9 B9 d9 st9 C9 q9 ws9 E9 d93 t9 0 _ F9_13.out hn9 HCO9.out I9_13.out hq9 S9_13.out HSO9.out hm9).mono ?_
              intro e u33 hto
              obtain ⟨v3, rfl, hb33, ho3⟩ := hto
              obtain ⟨A3, c3, rfl⟩ := own_form ho3
              have A_14 : Hid (Below w.heap.size w u33) := Lib.hid ((A_13.out).trans (Below.mono hb33 (A_13.out).size))
              have F9_14 : Hid (SortsIn u33 0 B9 f9) := Lib.hid (SortsIn.below F9_13.out hb33 (Nat.le_refl _))
              have I9_14 : Hid (IntsIn u33 C9 st9) := Lib.hid (IntsIn.below I9_13.out hb33 (Nat.le_refl _))
              have S9_14 : Hid (StrsIn u33 E9 ws9) := Lib.hid (StrsIn.below S9_13.out hb33 (Nat.le_refl _))
              clear A_13 F9_13 I9_13 S9_13
              clear hb33
              have N3_14 : Hid (IntsIn u33 A3 ((rcR f9 st9 ws9 t9).getD [])) := Lib.hid (own_in ho3)
              clear ho3
              go_wp2_with fail
              refine (specRec_any f9 B9 d9 st9 C9 q9 ws9 E9 d93 t9 0 _ F9_14.out hn9 HCO9.out I9_14.out hq9 S9_14.out HSO9.out hm9).mono ?_
              intro e u34 hto
              obtain ⟨v4, rfl, hb34, ho4⟩ := hto
              obtain ⟨A4, c4, rfl⟩ := own_form ho4
              have A_15 : Hid (Below w.heap.size w u34) := Lib.hid ((A_14.out).trans (Below.mono hb34 (A_14.out).size))
              have F9_15 : Hid (SortsIn u34 0 B9 f9) := Lib.hid (SortsIn.below F9_14.out hb34 (Nat.le_refl _))
              have I9_15 : Hid (IntsIn u34 C9 st9) := Lib.hid (IntsIn.below I9_14.out hb34 (Nat.le_refl _))
              have S9_15 : Hid (StrsIn u34 E9 ws9) := Lib.hid (StrsIn.below S9_14.out hb34 (Nat.le_refl _))
              have N3_15 : Hid (IntsIn u34 A3 ((rcR f9 st9 ws9 t9).getD [])) := Lib.hid (IntsIn.below N3_14.out hb34 (Nat.le_refl _))
              clear A_14 F9_14 I9_14 S9_14 N3_14
              clear hb34
              have N4_15 : Hid (IntsIn u34 A4 ((rcR f9 st9 ws9 t9).getD [])) := Lib.hid (own_in ho4)
              clear ho4
              have h64 := rcR_short f9 st9 ws9 t9
              obtain ⟨R9, hR9⟩ : ∃ l, l = (rcR f9 st9 ws9 t9).getD [] := ⟨_, rfl⟩
              rw [← hR9] at h64 N3_15 N4_15 ⊢
              clear hR9
              generalize (rcR f9 st9 ws9 t9).isSome = b9 at *
              have e9 : (b9 == b9) = true := by simp
              have hmx9 : R9.length ≤ maxLen := by unfold maxLen; omega
              go_wp2_with fail
              refine (qInts_any R9 R9 _ _ _ _ _ N3_15.out N4_15.out hmx9 hmx9).mono ?_
              rintro e u35 ⟨rfl, hb35⟩
              rw [show decide (R9 = R9) = true from decide_eq_true rfl]
              have A_16 : Hid (Below w.heap.size w u35) := Lib.hid ((A_15.out).trans (Below.mono hb35 (A_15.out).size))
              have F9_16 : Hid (SortsIn u35 0 B9 f9) := Lib.hid (SortsIn.below F9_15.out hb35 (Nat.le_refl _))
              have I9_16 : Hid (IntsIn u35 C9 st9) := Lib.hid (IntsIn.below I9_15.out hb35 (Nat.le_refl _))
              have S9_16 : Hid (StrsIn u35 E9 ws9) := Lib.hid (StrsIn.below S9_15.out hb35 (Nat.le_refl _))
              have N3_16 : Hid (IntsIn u35 A3 (R9)) := Lib.hid (IntsIn.below N3_15.out hb35 (Nat.le_refl _))
              have N4_16 : Hid (IntsIn u35 A4 (R9)) := Lib.hid (IntsIn.below N4_15.out hb35 (Nat.le_refl _))
              clear A_15 F9_15 I9_15 S9_15 N3_15 N4_15
              clear hb35
              go_wp2
              go_ret
              exact ⟨rfl, A_16.out⟩
          · skip
            go_wp2_with fail
            refine (drawRec_any Ay cy ys _ (HY.out.below A_10.out (Nat.le_refl _)) hys).mono ?_
            rintro e u36 ⟨vs, t9, rfl, f9, B9, d9, st9, C9, q9, ws9, E9, d93, rfl, hf9, hco9, hst9, hws9, hso9, hF9, hI9, hS9, hb36⟩
            clear F_10
            clear I_10
            clear S_10
            have A_11 : Hid (Below w.heap.size w u36) := Lib.hid ((A_10.out).trans (Below.mono hb36 (A_10.out).size))
            clear A_10
            clear hb36
            have HCO9 := Lib.hid hco9; have HSO9 := Lib.hid hso9
            have hn9 : f9.length ≤ 1048576 := by omega
            have hq9 : st9.length ≤ 1048576 := by omega
            have hm9 : ws9.length ≤ 1048576 := by omega
            clear hco9 hso9
            have F9_11 : Hid (SortsIn u36 0 B9 f9) := Lib.hid hF9
            have I9_11 : Hid (IntsIn u36 C9 st9) := Lib.hid hI9
            have S9_11 : Hid (StrsIn u36 E9 ws9) := Lib.hid hS9
            clear hF9 hI9 hS9
            go_wp2_with fail
            refine (implRec_any f9 B9 d9 st9 C9 q9 ws9 E9 d93 t9 0 _ F9_11.out hn9 HCO9.out I9_11.out hq9 S9_11.out HSO9.out hm9).mono ?_
            intro e u37 hto
            obtain ⟨v3, rfl, hb37, ho3⟩ := hto
            obtain ⟨A3, c3, rfl⟩ := own_form ho3
            have A_12 : Hid (Below w.heap.size w u37) := Lib.hid ((A_11.out).trans (Below.mono hb37 (A_11.out).size))
            have F9_12 : Hid (SortsIn u37 0 B9 f9) := Lib.hid (SortsIn.below F9_11.out hb37 (Nat.le_refl _))
            have I9_12 : Hid (IntsIn u37 C9 st9) := Lib.hid (IntsIn.below I9_11.out hb37 (Nat.le_refl _))
            have S9_12 : Hid (StrsIn u37 E9 ws9) := Lib.hid (StrsIn.below S9_11.out hb37 (Nat.le_refl _))
            clear A_11 F9_11 I9_11 S9_11
            clear hb37
            have N3_12 : Hid (IntsIn u37 A3 ((rcR f9 st9 ws9 t9).getD [])) := Lib.hid (own_in ho3)
            clear ho3
            go_wp2_with fail
            refine (specRec_any f9 B9 d9 st9 C9 q9 ws9 E9 d93 t9 0 _ F9_12.out hn9 HCO9.out I9_12.out hq9 S9_12.out HSO9.out hm9).mono ?_
            intro e u38 hto
            obtain ⟨v4, rfl, hb38, ho4⟩ := hto
            obtain ⟨A4, c4, rfl⟩ := own_form ho4
            have A_13 : Hid (Below w.heap.size w u38) := Lib.hid ((A_12.out).trans (Below.mono hb38 (A_12.out).size))
            have F9_13 : Hid (SortsIn u38 0 B9 f9) := Lib.hid (SortsIn.below F9_12.out hb38 (Nat.le_refl _))
            have I9_13 : Hid (IntsIn u38 C9 st9) := Lib.hid (IntsIn.below I9_12.out hb38 (Nat.le_refl _))
            have S9_13 : Hid (StrsIn u38 E9 ws9) := Lib.hid (StrsIn.below S9_12.out hb38 (Nat.le_refl _))
            have N3_13 : Hid (IntsIn u38 A3 ((rcR f9 st9 ws9 t9).getD [])) := Lib.hid (IntsIn.below N3_12.out hb38 (Nat.le_refl _))
            clear A_12 F9_12 I9_12 S9_12 N3_12
            clear hb38
            have N4_13 : Hid (IntsIn u38 A4 ((rcR f9 st9 ws9 t9).getD [])) := Lib.hid (own_in ho4)
            clear ho4
            have h64 := rcR_short f9 st9 ws9 t9
            obtain ⟨R9, hR9⟩ : ∃ l, l = (rcR f9 st9 ws9 t9).getD [] := ⟨_, rfl⟩
            rw [← hR9] at h64 N3_13 N4_13 ⊢
            clear hR9
            generalize (rcR f9 st9 ws9 t9).isSome = b9 at *
            have e9 : (b9 == b9) = true := by simp
            have hmx9 : R9.length ≤ maxLen := by unfold maxLen; omega
            go_wp2_with fail
            refine (qInts_any R9 R9 _ _ _ _ _ N3_13.out N4_13.out hmx9 hmx9).mono ?_
            rintro e u39 ⟨rfl, hb39⟩
            rw [show decide (R9 = R9) = true from decide_eq_true rfl]
            have A_14 : Hid (Below w.heap.size w u39) := Lib.hid ((A_13.out).trans (Below.mono hb39 (A_13.out).size))
            have F9_14 : Hid (SortsIn u39 0 B9 f9) := Lib.hid (SortsIn.below F9_13.out hb39 (Nat.le_refl _))
            have I9_14 : Hid (IntsIn u39 C9 st9) := Lib.hid (IntsIn.below I9_13.out hb39 (Nat.le_refl _))
            have S9_14 : Hid (StrsIn u39 E9 ws9) := Lib.hid (StrsIn.below S9_13.out hb39 (Nat.le_refl _))
            have N3_14 : Hid (IntsIn u39 A3 (R9)) := Lib.hid (IntsIn.below N3_13.out hb39 (Nat.le_refl _))
            have N4_14 : Hid (IntsIn u39 A4 (R9)) := Lib.hid (IntsIn.below N4_13.out hb39 (Nat.le_refl _))
            clear A_13 F9_13 I9_13 S9_13 N3_13 N4_13
            clear hb39
            go_wp2
            go_ret
            exact ⟨rfl, A_14.out⟩
  · skip
    cases five
    · skip
      go_wp2_with fail
      refine (qInts_any L L _ _ _ _ _ N1_8.out N2_8.out hmx hmx).mono ?_
      rintro e u40 ⟨rfl, hb40⟩
      rw [show decide (L = L) = true from decide_eq_true rfl]
      have A_9 : Hid (Below w.heap.size w u40) := Lib.hid ((A_8.out).trans (Below.mono hb40 (A_8.out).size))
      have F_9 : Hid (SortsIn u40 0 B f) := Lib.hid (SortsIn.below F_8.out hb40 (Nat.le_refl _))
      have I_9 : Hid (IntsIn u40 C st) := Lib.hid (IntsIn.below I_8.out hb40 (Nat.le_refl _))
      have S_9 : Hid (StrsIn u40 E ws) := Lib.hid (StrsIn.below S_8.out hb40 (Nat.le_refl _))
      have N1_9 : Hid (IntsIn u40 A1 (L)) := Lib.hid (IntsIn.below N1_8.out hb40 (Nat.le_refl _))
      have N2_9 : Hid (IntsIn u40 A2 (L)) := Lib.hid (IntsIn.below N2_8.out hb40 (Nat.le_refl _))
      clear A_8 F_8 I_8 S_8 N1_8 N2_8
      clear hb40
      clear N1_9
      obtain ⟨hcp, hwo⟩ : copyB f ws = true ∧ wordsB ws = true := ⟨HOK.out.symm, (copy_parts HOK.out.symm).2.1⟩
      have HCP := Lib.hid (copy_parts hcp)
      have hw40 := words_40 hwo
      have hLe := HLN.out (by first | rfl | trivial)
      have HSUM : Hid (L.sum = ((flS f ws).length : Nat)) := Lib.hid (by rw [hLe]; exact need_sum f ws)
      have HLB : Hid (∀ k (h : k < L.length), 0 ≤ L[k] ∧ L[k] ≤ 100000) := Lib.hid (by subst hLe; intro k hk; have := needF_bound hwo hk; omega)
      clear hcp hwo hLe
      go_wp2
      obtain ⟨wo, hwo⟩ : ∃ wo : World, wo = u40 := ⟨_, rfl⟩
      subst hwo
      go_loopw [26, 181] (fun s i wr => ∃ (k : Nat), k ≤ ws.length ∧ i = .int .i64 k ∧ s = .int .i64 (((flS f (ws.take k)).length : Nat) : Int) ∧ Below wo.heap.size wo wr) (fun _ i _ => ws.length - (intOf i).toNat)
      case atStart => exact ⟨0, Nat.zero_le _, rfl, rfl, Below.refl _ _⟩
      case round =>
        obtain ⟨k, hk, rfl, rfl, hbw⟩ := hrel
        have HBW := Lib.hid hbw; clear hbw
        by_cases hlt : k < ws.length
        · obtain ⟨b, off, rfl, hbl, hd⟩ := (S_9.out) (by omega)
          have hd0 := (HBW.out.cell (p := ⟨b, off + k, none⟩) hbl).trans (hd k hlt)
          have hsz : ws[k].size ≤ maxLen := HSO.out k hlt
          have HSW : Hid (sowF f ws[k] = some (sg f ws[k])) := Lib.hid ((sow_word (fontB_iff.2 HCP.out.1) (words_isWord HCP.out.2.1 hlt)).trans (canB_at hlt HCP.out.2.2))
          have HSN := Lib.hid (flS_snoc f hlt)
          have h640 := flS_640 (f := f) HCP.out.2.1 k
          have hl16 := sg_len (f := f) (words_size HCP.out.2.1 hlt)
          have HFW := Lib.hid ((F_9.out).below HBW.out (Nat.le_refl _))
          generalize ws[k] = s at *
          clear hd
          go_wp2_with fail
          refine (implSow_any f B d s 0 _ HFW.out hn HCO.out hsz).mono ?_
          intro e w3 hto
          rw [HSW.out] at hto
          obtain ⟨hb3, v, rfl, hov⟩ := hto
          rw [ints_Z] at hov
          have hov2 : w3.ownsRow wr.heap.size 3 1 v (intL (sg f s)).length (intsZ (intL (sg f s))) := by rw [intL_len]; exact hov
          obtain ⟨A7, c7, rfl⟩ := own_form hov2
          rw [intL_len]
          have HB3 := Lib.hid (HBW.out.trans (hb3.mono HBW.out.size))
          clear hb3 hov hov2 hd0
          have HSL : Hid ((flS f (ws.take (k + 1))).length = (flS f (ws.take k)).length + (sg f s).length) := Lib.hid (by rw [HSN.out, List.length_append])
          clear HSN
          generalize (flS f (ws.take k)).length = S at *
          generalize (sg f s).length = z at *
          go_wp2
          go_roundw
          case rel => exact ⟨k + 1, by omega, by go_num, by rw [HSL.out]; go_num, HB3.out⟩
          case measure => simp [intOf]; omega
        · obtain rfl : k = ws.length := by omega
          have HFL : Hid ((flS f (ws.take ws.length)).length = (flS f ws).length) := Lib.hid (by rw [List.take_length])
          rw [HFL.out]
          have hbq := HBW.out
          have A_10 : Hid (Below w.heap.size w wr) := Lib.hid ((A_9.out).trans (Below.mono hbq (A_9.out).size))
          have F_10 : Hid (SortsIn wr 0 B f) := Lib.hid (SortsIn.below F_9.out hbq (Nat.le_refl _))
          have I_10 : Hid (IntsIn wr C st) := Lib.hid (IntsIn.below I_9.out hbq (Nat.le_refl _))
          have S_10 : Hid (StrsIn wr E ws) := Lib.hid (StrsIn.below S_9.out hbq (Nat.le_refl _))
          have N2_10 : Hid (IntsIn wr A2 (L)) := Lib.hid (IntsIn.below N2_9.out hbq (Nat.le_refl _))
          clear A_9 F_9 I_9 S_9 N2_9
          clear hbq
          have hs64 : L.length ≤ 64 := hL64
          go_wp2_with fail
          refine (qSum_any L _ _ _ N2_10.out hs64 HLB.out).mono ?_
          rintro e w' ⟨rfl, rfl⟩
          rw [HSUM.out]
          have e_s : ((((flS f ws).length : Nat) : Int) != (((flS f ws).length : Nat) : Int)) = false := by simp
          generalize (flS f ws).length = Z at *
          clear N2_10
          go_wp2_with fail
          refine (drawRec_any Ay cy ys _ (HY.out.below A_10.out (Nat.le_refl _)) hys).mono ?_
          rintro e u41 ⟨vs, t9, rfl, f9, B9, d9, st9, C9, q9, ws9, E9, d93, rfl, hf9, hco9, hst9, hws9, hso9, hF9, hI9, hS9, hb41⟩
          clear F_10
          clear I_10
          clear S_10
          have A_11 : Hid (Below w.heap.size w u41) := Lib.hid ((A_10.out).trans (Below.mono hb41 (A_10.out).size))
          clear A_10
          clear hb41
          have HCO9 := Lib.hid hco9; have HSO9 := Lib.hid hso9
          have hn9 : f9.length ≤ 1048576 := by omega
          have hq9 : st9.length ≤ 1048576 := by omega
          have hm9 : ws9.length ≤ 1048576 := by omega
          clear hco9 hso9
          have F9_11 : Hid (SortsIn u41 0 B9 f9) := Lib.hid hF9
          have I9_11 : Hid (IntsIn u41 C9 st9) := Lib.hid hI9
          have S9_11 : Hid (StrsIn u41 E9 ws9) := Lib.hid hS9
          clear hF9 hI9 hS9
          go_wp2_with fail
          refine (implRec_any f9 B9 d9 st9 C9 q9 ws9 E9 d93 t9 0 _ F9_11.out hn9 HCO9.out I9_11.out hq9 S9_11.out HSO9.out hm9).mono ?_
          intro e u42 hto
          obtain ⟨v3, rfl, hb42, ho3⟩ := hto
          obtain ⟨A3, c3, rfl⟩ := own_form ho3
          have A_12 : Hid (Below w.heap.size w u42) := Lib.hid ((A_11.out).trans (Below.mono hb42 (A_11.out).size))
          have F9_12 : Hid (SortsIn u42 0 B9 f9) := Lib.hid (SortsIn.below F9_11.out hb42 (Nat.le_refl _))
          have I9_12 : Hid (IntsIn u42 C9 st9) := Lib.hid (IntsIn.below I9_11.out hb42 (Nat.le_refl _))
          have S9_12 : Hid (StrsIn u42 E9 ws9) := Lib.hid (StrsIn.below S9_11.out hb42 (Nat.le_refl _))
          clear A_11 F9_11 I9_11 S9_11
          clear hb42
          have N3_12 : Hid (IntsIn u42 A3 ((rcR f9 st9 ws9 t9).getD [])) := Lib.hid (own_in ho3)
          clear ho3
          go_wp2_with fail
          refine (specRec_any f9 B9 d9 st9 C9 q9 ws9 E9 d93 t9 0 _ F9_12.out hn9 HCO9.out I9_12.out hq9 S9_12.out HSO9.out hm9).mono ?_
          intro e u43 hto
          obtain ⟨v4, rfl, hb43, ho4⟩ := hto
          obtain ⟨A4, c4, rfl⟩ := own_form ho4
          have A_13 : Hid (Below w.heap.size w u43) := Lib.hid ((A_12.out).trans (Below.mono hb43 (A_12.out).size))
          have F9_13 : Hid (SortsIn u43 0 B9 f9) := Lib.hid (SortsIn.below F9_12.out hb43 (Nat.le_refl _))
          have I9_13 : Hid (IntsIn u43 C9 st9) := Lib.hid (IntsIn.below I9_12.out hb43 (Nat.le_refl _))
          have S9_13 : Hid (StrsIn u43 E9 ws9) := Lib.hid (StrsIn.below S9_12.out hb43 (Nat.le_refl _))
          have N3_13 : Hid (IntsIn u43 A3 ((rcR f9 st9 ws9 t9).getD [])) := Lib.hid (IntsIn.below N3_12.out hb43 (Nat.le_refl _))
          clear A_12 F9_12 I9_12 S9_12 N3_12
          clear hb43
          have N4_13 : Hid (IntsIn u43 A4 ((rcR f9 st9 ws9 t9).getD [])) := Lib.hid (own_in ho4)
          clear ho4
          have h64 := rcR_short f9 st9 ws9 t9
          obtain ⟨R9, hR9⟩ : ∃ l, l = (rcR f9 st9 ws9 t9).getD [] := ⟨_, rfl⟩
          rw [← hR9] at h64 N3_13 N4_13 ⊢
          clear hR9
          generalize (rcR f9 st9 ws9 t9).isSome = b9 at *
          have e9 : (b9 == b9) = true := by simp
          have hmx9 : R9.length ≤ maxLen := by unfold maxLen; omega
          go_wp2_with fail
          refine (qInts_any R9 R9 _ _ _ _ _ N3_13.out N4_13.out hmx9 hmx9).mono ?_
          rintro e u44 ⟨rfl, hb44⟩
          rw [show decide (R9 = R9) = true from decide_eq_true rfl]
          have A_14 : Hid (Below w.heap.size w u44) := Lib.hid ((A_13.out).trans (Below.mono hb44 (A_13.out).size))
          have F9_14 : Hid (SortsIn u44 0 B9 f9) := Lib.hid (SortsIn.below F9_13.out hb44 (Nat.le_refl _))
          have I9_14 : Hid (IntsIn u44 C9 st9) := Lib.hid (IntsIn.below I9_13.out hb44 (Nat.le_refl _))
          have S9_14 : Hid (StrsIn u44 E9 ws9) := Lib.hid (StrsIn.below S9_13.out hb44 (Nat.le_refl _))
          have N3_14 : Hid (IntsIn u44 A3 (R9)) := Lib.hid (IntsIn.below N3_13.out hb44 (Nat.le_refl _))
          have N4_14 : Hid (IntsIn u44 A4 (R9)) := Lib.hid (IntsIn.below N4_13.out hb44 (Nat.le_refl _))
          clear A_13 F9_13 I9_13 S9_13 N3_13 N4_13
          clear hb44
          go_wp2
          go_ret
          exact ⟨rfl, A_14.out⟩
    · skip
      go_wp2_with fail
      refine (qInts_any L L _ _ _ _ _ N1_8.out N2_8.out hmx hmx).mono ?_
      rintro e u45 ⟨rfl, hb45⟩
      rw [show decide (L = L) = true from decide_eq_true rfl]
      have A_9 : Hid (Below w.heap.size w u45) := Lib.hid ((A_8.out).trans (Below.mono hb45 (A_8.out).size))
      have F_9 : Hid (SortsIn u45 0 B f) := Lib.hid (SortsIn.below F_8.out hb45 (Nat.le_refl _))
      have I_9 : Hid (IntsIn u45 C st) := Lib.hid (IntsIn.below I_8.out hb45 (Nat.le_refl _))
      have S_9 : Hid (StrsIn u45 E ws) := Lib.hid (StrsIn.below S_8.out hb45 (Nat.le_refl _))
      have N1_9 : Hid (IntsIn u45 A1 (L)) := Lib.hid (IntsIn.below N1_8.out hb45 (Nat.le_refl _))
      have N2_9 : Hid (IntsIn u45 A2 (L)) := Lib.hid (IntsIn.below N2_8.out hb45 (Nat.le_refl _))
      clear A_8 F_8 I_8 S_8 N1_8 N2_8
      clear hb45
      clear N1_9
      obtain ⟨hcp, hwo⟩ : copyB f ws = true ∧ wordsB ws = true := ⟨HOK.out.symm, (copy_parts HOK.out.symm).2.1⟩
      have HCP := Lib.hid (copy_parts hcp)
      have hw40 := words_40 hwo
      have hLe := HLN.out (by first | rfl | trivial)
      have HSUM : Hid (L.sum = ((flS f ws).length : Nat)) := Lib.hid (by rw [hLe]; exact need_sum f ws)
      have HLB : Hid (∀ k (h : k < L.length), 0 ≤ L[k] ∧ L[k] ≤ 100000) := Lib.hid (by subst hLe; intro k hk; have := needF_bound hwo hk; omega)
      clear hcp hwo hLe
      go_wp2
      obtain ⟨wo, hwo⟩ : ∃ wo : World, wo = u45 := ⟨_, rfl⟩
      subst hwo
      go_loopw [26, 181] (fun s i wr => ∃ (k : Nat), k ≤ ws.length ∧ i = .int .i64 k ∧ s = .int .i64 (((flS f (ws.take k)).length : Nat) : Int) ∧ Below wo.heap.size wo wr) (fun _ i _ => ws.length - (intOf i).toNat)
      case atStart => exact ⟨0, Nat.zero_le _, rfl, rfl, Below.refl _ _⟩
      case round =>
        obtain ⟨k, hk, rfl, rfl, hbw⟩ := hrel
        have HBW := Lib.hid hbw; clear hbw
        by_cases hlt : k < ws.length
        · obtain ⟨b, off, rfl, hbl, hd⟩ := (S_9.out) (by omega)
          have hd0 := (HBW.out.cell (p := ⟨b, off + k, none⟩) hbl).trans (hd k hlt)
          have hsz : ws[k].size ≤ maxLen := HSO.out k hlt
          have HSW : Hid (sowF f ws[k] = some (sg f ws[k])) := Lib.hid ((sow_word (fontB_iff.2 HCP.out.1) (words_isWord HCP.out.2.1 hlt)).trans (canB_at hlt HCP.out.2.2))
          have HSN := Lib.hid (flS_snoc f hlt)
          have h640 := flS_640 (f := f) HCP.out.2.1 k
          have hl16 := sg_len (f := f) (words_size HCP.out.2.1 hlt)
          have HFW := Lib.hid ((F_9.out).below HBW.out (Nat.le_refl _))
          generalize ws[k] = s at *
          clear hd
          go_wp2_with fail
          refine (implSow_any f B d s 0 _ HFW.out hn HCO.out hsz).mono ?_
          intro e w3 hto
          rw [HSW.out] at hto
          obtain ⟨hb3, v, rfl, hov⟩ := hto
          rw [ints_Z] at hov
          have hov2 : w3.ownsRow wr.heap.size 3 1 v (intL (sg f s)).length (intsZ (intL (sg f s))) := by rw [intL_len]; exact hov
          obtain ⟨A7, c7, rfl⟩ := own_form hov2
          rw [intL_len]
          have HB3 := Lib.hid (HBW.out.trans (hb3.mono HBW.out.size))
          clear hb3 hov hov2 hd0
          have HSL : Hid ((flS f (ws.take (k + 1))).length = (flS f (ws.take k)).length + (sg f s).length) := Lib.hid (by rw [HSN.out, List.length_append])
          clear HSN
          generalize (flS f (ws.take k)).length = S at *
          generalize (sg f s).length = z at *
          go_wp2
          go_roundw
          case rel => exact ⟨k + 1, by omega, by go_num, by rw [HSL.out]; go_num, HB3.out⟩
          case measure => simp [intOf]; omega
        · obtain rfl : k = ws.length := by omega
          have HFL : Hid ((flS f (ws.take ws.length)).length = (flS f ws).length) := Lib.hid (by rw [List.take_length])
          rw [HFL.out]
          have hbq := HBW.out
          have A_10 : Hid (Below w.heap.size w wr) := Lib.hid ((A_9.out).trans (Below.mono hbq (A_9.out).size))
          have F_10 : Hid (SortsIn wr 0 B f) := Lib.hid (SortsIn.below F_9.out hbq (Nat.le_refl _))
          have I_10 : Hid (IntsIn wr C st) := Lib.hid (IntsIn.below I_9.out hbq (Nat.le_refl _))
          have S_10 : Hid (StrsIn wr E ws) := Lib.hid (StrsIn.below S_9.out hbq (Nat.le_refl _))
          have N2_10 : Hid (IntsIn wr A2 (L)) := Lib.hid (IntsIn.below N2_9.out hbq (Nat.le_refl _))
          clear A_9 F_9 I_9 S_9 N2_9
          clear hbq
          have hs64 : L.length ≤ 64 := hL64
          go_wp2_with fail
          refine (qSum_any L _ _ _ N2_10.out hs64 HLB.out).mono ?_
          rintro e w' ⟨rfl, rfl⟩
          rw [HSUM.out]
          have e_s : ((((flS f ws).length : Nat) : Int) != (((flS f ws).length : Nat) : Int)) = false := by simp
          generalize (flS f ws).length = Z at *
          clear N2_10
          have hq4 := H4.out (by first | rfl | trivial)
          obtain ⟨ht0, ht1⟩ := H7.out (by first | rfl | trivial)
          have htp : ¬ 0 < t := by simpa using hq4.symm
          clear hq4
          by_cases hth : t < 1000
          · skip
            obtain ⟨r0, hr0, hr1⟩ := H5.out (by first | rfl | trivial) hth
            have HR0 := Lib.hid hr0; have HR1 := Lib.hid hr1; clear hr0 hr1
            go_wp2_with fail
            refine (implRec_any f B d st C q ws E d3 t 0 _ F_10.out hn HCO.out I_10.out hq S_10.out HSO.out hm).mono ?_
            intro e u46 hto
            obtain ⟨A5, c5, rfl, hb46, ho5⟩ := hto.some HR0.out
            have A_11 : Hid (Below w.heap.size w u46) := Lib.hid ((A_10.out).trans (Below.mono hb46 (A_10.out).size))
            have F_11 : Hid (SortsIn u46 0 B f) := Lib.hid (SortsIn.below F_10.out hb46 (Nat.le_refl _))
            have I_11 : Hid (IntsIn u46 C st) := Lib.hid (IntsIn.below I_10.out hb46 (Nat.le_refl _))
            have S_11 : Hid (StrsIn u46 E ws) := Lib.hid (StrsIn.below S_10.out hb46 (Nat.le_refl _))
            clear A_10 F_10 I_10 S_10
            clear hb46
            have N5_11 : Hid (IntsIn u46 A5 r0) := Lib.hid (own_in ho5)
            clear ho5
            have hr64 : r0.length ≤ 64 := by have := rcR_short f st ws t; rw [HR0.out] at this; exact this
            have HRB : Hid (∀ k (h : k < r0.length), 0 ≤ r0[k] ∧ r0[k] ≤ 100000) := Lib.hid fun k hk => allB_at hk (rcR_bound HR0.out)
            have htn : t + 1 ≤ 1000 := by omega
            cases hr9 : rcR f st ws (t + 1) with
            | none =>
              have HR9 := Lib.hid hr9; clear hr9
              go_wp2_with fail
              refine (implRec_any f B d st C q ws E d3 (t + 1) 0 _ F_11.out hn HCO.out I_11.out hq S_11.out HSO.out hm).mono ?_
              intro e u47 hto
              obtain ⟨v6, rfl, hb47⟩ := hto.none HR9.out
              have A_12 : Hid (Below w.heap.size w u47) := Lib.hid ((A_11.out).trans (Below.mono hb47 (A_11.out).size))
              have F_12 : Hid (SortsIn u47 0 B f) := Lib.hid (SortsIn.below F_11.out hb47 (Nat.le_refl _))
              have I_12 : Hid (IntsIn u47 C st) := Lib.hid (IntsIn.below I_11.out hb47 (Nat.le_refl _))
              have S_12 : Hid (StrsIn u47 E ws) := Lib.hid (StrsIn.below S_11.out hb47 (Nat.le_refl _))
              have N5_12 : Hid (IntsIn u47 A5 r0) := Lib.hid (IntsIn.below N5_11.out hb47 (Nat.le_refl _))
              clear A_11 F_11 I_11 S_11 N5_11
              clear hb47
              go_wp2_with fail
              refine (qSum_any r0 _ _ _ N5_12.out hr64 HRB.out).mono ?_
              rintro e w' ⟨rfl, rfl⟩
              rw [HR1.out]
              clear N5_12
              go_wp2_with fail
              refine (drawRec_any Ay cy ys _ (HY.out.below A_12.out (Nat.le_refl _)) hys).mono ?_
              rintro e u48 ⟨vs, t9, rfl, f9, B9, d9, st9, C9, q9, ws9, E9, d93, rfl, hf9, hco9, hst9, hws9, hso9, hF9, hI9, hS9, hb48⟩
              clear F_12
              clear I_12
              clear S_12
              have A_13 : Hid (Below w.heap.size w u48) := Lib.hid ((A_12.out).trans (Below.mono hb48 (A_12.out).size))
              clear A_12
              clear hb48
              have HCO9 := Lib.hid hco9; have HSO9 := Lib.hid hso9
              have hn9 : f9.length ≤ 1048576 := by omega
              have hq9 : st9.length ≤ 1048576 := by omega
              have hm9 : ws9.length ≤ 1048576 := by omega
              clear hco9 hso9
              have F9_13 : Hid (SortsIn u48 0 B9 f9) := Lib.hid hF9
              have I9_13 : Hid (IntsIn u48 C9 st9) := Lib.hid hI9
              have S9_13 : Hid (StrsIn u48 E9 ws9) := Lib.hid hS9
              clear hF9 hI9 hS9
              go_wp2_with fail
              refine (implRec_any f9 B9 d9 st9 C9 q9 ws9 E9 d93 t9 0 _ F9_13.out hn9 HCO9.out I9_13.out hq9 S9_13.out HSO9.out hm9).mono ?_
              intro e u49 hto
              obtain ⟨v3, rfl, hb49, ho3⟩ := hto
              obtain ⟨A3, c3, rfl⟩ := own_form ho3
              have A_14 : Hid (Below w.heap.size w u49) := Lib.hid ((A_13.out).trans (Below.mono hb49 (A_13.out).size))
              have F9_14 : Hid (SortsIn u49 0 B9 f9) := Lib.hid (SortsIn.below F9_13.out hb49 (Nat.le_refl _))
              have I9_14 : Hid (IntsIn u49 C9 st9) := Lib.hid (IntsIn.below I9_13.out hb49 (Nat.le_refl _))
              have S9_14 : Hid (StrsIn u49 E9 ws9) := Lib.hid (StrsIn.below S9_13.out hb49 (Nat.le_refl _))
              clear A_13 F9_13 I9_13 S9_13
              clear hb49
              have N3_14 : Hid (IntsIn u49 A3 ((rcR f9 st9 ws9 t9).getD [])) := Lib.hid (own_in ho3)
              clear ho3
              go_wp2_with fail
              refine (specRec_any f9 B9 d9 st9 C9 q9 ws9 E9 d93 t9 0 _ F9_14.out hn9 HCO9.out I9_14.out hq9 S9_14.out HSO9.out hm9).mono ?_
              intro e u50 hto
              obtain ⟨v4, rfl, hb50, ho4⟩ := hto
              obtain ⟨A4, c4, rfl⟩ := own_form ho4
              have A_15 : Hid (Below w.heap.size w u50) := Lib.hid ((A_14.out).trans (Below.mono hb50 (A_14.out).size))
              have F9_15 : Hid (SortsIn u50 0 B9 f9) := Lib.hid (SortsIn.below F9_14.out hb50 (Nat.le_refl _))
              have I9_15 : Hid (IntsIn u50 C9 st9) := Lib.hid (IntsIn.below I9_14.out hb50 (Nat.le_refl _))
              have S9_15 : Hid (StrsIn u50 E9 ws9) := Lib.hid (StrsIn.below S9_14.out hb50 (Nat.le_refl _))
              have N3_15 : Hid (IntsIn u50 A3 ((rcR f9 st9 ws9 t9).getD [])) := Lib.hid (IntsIn.below N3_14.out hb50 (Nat.le_refl _))
              clear A_14 F9_14 I9_14 S9_14 N3_14
              clear hb50
              have N4_15 : Hid (IntsIn u50 A4 ((rcR f9 st9 ws9 t9).getD [])) := Lib.hid (own_in ho4)
              clear ho4
              have h64 := rcR_short f9 st9 ws9 t9
              obtain ⟨R9, hR9⟩ : ∃ l, l = (rcR f9 st9 ws9 t9).getD [] := ⟨_, rfl⟩
              rw [← hR9] at h64 N3_15 N4_15 ⊢
              clear hR9
              generalize (rcR f9 st9 ws9 t9).isSome = b9 at *
              have e9 : (b9 == b9) = true := by simp
              have hmx9 : R9.length ≤ maxLen := by unfold maxLen; omega
              go_wp2_with fail
              refine (qInts_any R9 R9 _ _ _ _ _ N3_15.out N4_15.out hmx9 hmx9).mono ?_
              rintro e u51 ⟨rfl, hb51⟩
              rw [show decide (R9 = R9) = true from decide_eq_true rfl]
              have A_16 : Hid (Below w.heap.size w u51) := Lib.hid ((A_15.out).trans (Below.mono hb51 (A_15.out).size))
              have F9_16 : Hid (SortsIn u51 0 B9 f9) := Lib.hid (SortsIn.below F9_15.out hb51 (Nat.le_refl _))
              have I9_16 : Hid (IntsIn u51 C9 st9) := Lib.hid (IntsIn.below I9_15.out hb51 (Nat.le_refl _))
              have S9_16 : Hid (StrsIn u51 E9 ws9) := Lib.hid (StrsIn.below S9_15.out hb51 (Nat.le_refl _))
              have N3_16 : Hid (IntsIn u51 A3 (R9)) := Lib.hid (IntsIn.below N3_15.out hb51 (Nat.le_refl _))
              have N4_16 : Hid (IntsIn u51 A4 (R9)) := Lib.hid (IntsIn.below N4_15.out hb51 (Nat.le_refl _))
              clear A_15 F9_15 I9_15 S9_15 N3_15 N4_15
              clear hb51
              go_wp2
              go_ret
              exact ⟨rfl, A_16.out⟩
            | some r1 =>
              have HR9 := Lib.hid hr9; clear hr9
              go_wp2_with fail
              refine (implRec_any f B d st C q ws E d3 (t + 1) 0 _ F_11.out hn HCO.out I_11.out hq S_11.out HSO.out hm).mono ?_
              intro e u52 hto
              obtain ⟨A6, c6, rfl, hb52, ho6⟩ := hto.some HR9.out
              have A_12 : Hid (Below w.heap.size w u52) := Lib.hid ((A_11.out).trans (Below.mono hb52 (A_11.out).size))
              have F_12 : Hid (SortsIn u52 0 B f) := Lib.hid (SortsIn.below F_11.out hb52 (Nat.le_refl _))
              have I_12 : Hid (IntsIn u52 C st) := Lib.hid (IntsIn.below I_11.out hb52 (Nat.le_refl _))
              have S_12 : Hid (StrsIn u52 E ws) := Lib.hid (StrsIn.below S_11.out hb52 (Nat.le_refl _))
              have N5_12 : Hid (IntsIn u52 A5 r0) := Lib.hid (IntsIn.below N5_11.out hb52 (Nat.le_refl _))
              clear A_11 F_11 I_11 S_11 N5_11
              clear hb52
              have N6_12 : Hid (IntsIn u52 A6 r1) := Lib.hid (own_in ho6)
              clear ho6
              go_wp2_with fail
              refine (qSum_any r0 _ _ _ N5_12.out hr64 HRB.out).mono ?_
              rintro e w' ⟨rfl, rfl⟩
              rw [HR1.out]
              clear N5_12
              have hp1 := H6.out (by first | rfl | trivial) r1 HR9.out
              have hz1 : (r1.sum == 0) = false := by rw [beq_eq_false_iff_ne]; omega
              have hr65 : r1.length ≤ 64 := by have := rcR_short f st ws (t + 1); rw [HR9.out] at this; exact this
              have HRC : Hid (∀ k (h : k < r1.length), 0 ≤ r1[k] ∧ r1[k] ≤ 100000) := Lib.hid fun k hk => allB_at hk (rcR_bound HR9.out)
              go_wp2_with fail
              refine (qSum_any r1 _ _ _ N6_12.out hr65 HRC.out).mono ?_
              rintro e w' ⟨rfl, rfl⟩
              generalize r1.sum = sm at *
              clear N6_12
              go_wp2_with fail
              refine (drawRec_any Ay cy ys _ (HY.out.below A_12.out (Nat.le_refl _)) hys).mono ?_
              rintro e u53 ⟨vs, t9, rfl, f9, B9, d9, st9, C9, q9, ws9, E9, d93, rfl, hf9, hco9, hst9, hws9, hso9, hF9, hI9, hS9, hb53⟩
              clear F_12
              clear I_12
              clear S_12
              have A_13 : Hid (Below w.heap.size w u53) := Lib.hid ((A_12.out).trans (Below.mono hb53 (A_12.out).size))
              clear A_12
              clear hb53
              have HCO9 := Lib.hid hco9; have HSO9 := Lib.hid hso9
              have hn9 : f9.length ≤ 1048576 := by omega
              have hq9 : st9.length ≤ 1048576 := by omega
              have hm9 : ws9.length ≤ 1048576 := by omega
              clear hco9 hso9
              have F9_13 : Hid (SortsIn u53 0 B9 f9) := Lib.hid hF9
              have I9_13 : Hid (IntsIn u53 C9 st9) := Lib.hid hI9
              have S9_13 : Hid (StrsIn u53 E9 ws9) := Lib.hid hS9
              clear hF9 hI9 hS9
              go_wp2_with fail
              refine (implRec_any f9 B9 d9 st9 C9 q9 ws9 E9 d93 t9 0 _ F9_13.out hn9 HCO9.out I9_13.out hq9 S9_13.out HSO9.out hm9).mono ?_
              intro e u54 hto
              obtain ⟨v3, rfl, hb54, ho3⟩ := hto
              obtain ⟨A3, c3, rfl⟩ := own_form ho3
              have A_14 : Hid (Below w.heap.size w u54) := Lib.hid ((A_13.out).trans (Below.mono hb54 (A_13.out).size))
              have F9_14 : Hid (SortsIn u54 0 B9 f9) := Lib.hid (SortsIn.below F9_13.out hb54 (Nat.le_refl _))
              have I9_14 : Hid (IntsIn u54 C9 st9) := Lib.hid (IntsIn.below I9_13.out hb54 (Nat.le_refl _))
              have S9_14 : Hid (StrsIn u54 E9 ws9) := Lib.hid (StrsIn.below S9_13.out hb54 (Nat.le_refl _))
              clear A_13 F9_13 I9_13 S9_13
              clear hb54
              have N3_14 : Hid (IntsIn u54 A3 ((rcR f9 st9 ws9 t9).getD [])) := Lib.hid (own_in ho3)
              clear ho3
              go_wp2_with fail
              refine (specRec_any f9 B9 d9 st9 C9 q9 ws9 E9 d93 t9 0 _ F9_14.out hn9 HCO9.out I9_14.out hq9 S9_14.out HSO9.out hm9).mono ?_
              intro e u55 hto
              obtain ⟨v4, rfl, hb55, ho4⟩ := hto
              obtain ⟨A4, c4, rfl⟩ := own_form ho4
              have A_15 : Hid (Below w.heap.size w u55) := Lib.hid ((A_14.out).trans (Below.mono hb55 (A_14.out).size))
              have F9_15 : Hid (SortsIn u55 0 B9 f9) := Lib.hid (SortsIn.below F9_14.out hb55 (Nat.le_refl _))
              have I9_15 : Hid (IntsIn u55 C9 st9) := Lib.hid (IntsIn.below I9_14.out hb55 (Nat.le_refl _))
              have S9_15 : Hid (StrsIn u55 E9 ws9) := Lib.hid (StrsIn.below S9_14.out hb55 (Nat.le_refl _))
              have N3_15 : Hid (IntsIn u55 A3 ((rcR f9 st9 ws9 t9).getD [])) := Lib.hid (IntsIn.below N3_14.out hb55 (Nat.le_refl _))
              clear A_14 F9_14 I9_14 S9_14 N3_14
              clear hb55
              have N4_15 : Hid (IntsIn u55 A4 ((rcR f9 st9 ws9 t9).getD [])) := Lib.hid (own_in ho4)
              clear ho4
              have h64 := rcR_short f9 st9 ws9 t9
              obtain ⟨R9, hR9⟩ : ∃ l, l = (rcR f9 st9 ws9 t9).getD [] := ⟨_, rfl⟩
              rw [← hR9] at h64 N3_15 N4_15 ⊢
              clear hR9
              generalize (rcR f9 st9 ws9 t9).isSome = b9 at *
              have e9 : (b9 == b9) = true := by simp
              have hmx9 : R9.length ≤ maxLen := by unfold maxLen; omega
              go_wp2_with fail
              refine (qInts_any R9 R9 _ _ _ _ _ N3_15.out N4_15.out hmx9 hmx9).mono ?_
              rintro e u56 ⟨rfl, hb56⟩
              rw [show decide (R9 = R9) = true from decide_eq_true rfl]
              have A_16 : Hid (Below w.heap.size w u56) := Lib.hid ((A_15.out).trans (Below.mono hb56 (A_15.out).size))
              have F9_16 : Hid (SortsIn u56 0 B9 f9) := Lib.hid (SortsIn.below F9_15.out hb56 (Nat.le_refl _))
              have I9_16 : Hid (IntsIn u56 C9 st9) := Lib.hid (IntsIn.below I9_15.out hb56 (Nat.le_refl _))
              have S9_16 : Hid (StrsIn u56 E9 ws9) := Lib.hid (StrsIn.below S9_15.out hb56 (Nat.le_refl _))
              have N3_16 : Hid (IntsIn u56 A3 (R9)) := Lib.hid (IntsIn.below N3_15.out hb56 (Nat.le_refl _))
              have N4_16 : Hid (IntsIn u56 A4 (R9)) := Lib.hid (IntsIn.below N4_15.out hb56 (Nat.le_refl _))
              clear A_15 F9_15 I9_15 S9_15 N3_15 N4_15
              clear hb56
              go_wp2
              go_ret
              exact ⟨rfl, A_16.out⟩
          · exact absurd (show t < 1000 by omega) hth

set_option maxRecDepth 100000 in
theorem lifted (os : Os) (started : os.Started) (H : Type) (enc : TypeId × Value → H) :
    ReturnsInHanded {} Try.checked os 3 .any (Rows.fnBillsSpec.pre6 enc Try.prog Try.f3 Rows.fnBillsRow.domain false) (Rows.fnBillsSpec.post enc Try.prog Try.f3 false true false false) := by
  refine returnsInHanded_of_change (C := Try.checked) own started (by kernel_rfl) Try.func3
    (ChangeSpec.witness6 (enc := enc) (C := Try.checked) false ⟨#[], #[.slice none 0 0, .slice none 0 0], []⟩ 8 (by kernel_rfl) (by kernel_rfl) (by kernel_rfl) (by kernel_rfl)) ?_
  intro W base args ds gs before hval0 hW hcnd _
  have hval : ∀ (j : Nat) t v, Try.f3.params[j]? = some t → args[j]? = some v → Value.okWide Try.prog W .any base t v := hval0
  have hW' := hW
  obtain ⟨p, q, hA0, hV, rfl, hfz, hnd⟩ := hW
  have hA : DataW.TrodAll enc Try.prog W 0 (fun _ => true) true Try.f3.params.toList args.toList ds p := hA0
  rw [Try.params3] at hA hval
  obtain ⟨v0, vs0, d0, ds0, p0, q0, hargs, rfl, rfl, h0, r0⟩ := trodAll_cons hA
  obtain ⟨v1, vs1, d1, ds1, p1, q1, rfl, rfl, rfl, h1, r1⟩ := trodAll_cons r0
  obtain ⟨rfl, rfl, rfl⟩ := trodAll_nil r1
  obtain rfl : args = #[v0, v1] := by cases args; simp_all
  obtain ⟨rfl, rfl⟩ := trodVars_none hV
  have k0 := h0
  have lt0 : ∀ x ∈ p0, x.block < W.heap.size := by obtain ⟨m, hm⟩ := k0; exact DataW.trod_lt m _ _ _ hm
  have k1 := h1
  have lt1 : ∀ x ∈ p1, x.block < W.heap.size := by obtain ⟨m, hm⟩ := k1; exact DataW.trod_lt m _ _ _ hm
  obtain ⟨A0, f0, c0, rfl, hs0, hl0⟩ := open_bytes (hval 0 22 v0 rfl rfl) h0
  obtain ⟨A1, f1, c1, rfl, hs1, hl1⟩ := open_bytes (hval 1 22 v1 rfl rfl) h1
  clear hA0 hval0
  refine (walk A0 f0 c0 A1 f1 c1 W hs0 hl0 hs1 hl1).mono fun e W' ⟨he, bel⟩ => ?_
  subst he
  exact ⟨_, rfl, _, _, _, [], _, [], hW', trodAll_mk1 (shut_bool Try.underlying4 _), (trodAll_cons_mk (Below.trod laidOut (by kernel_rfl) (of_decide_eq_true (by kernel_rfl)) k0 bel lt0) (trodAll_cons_mk (Below.trod laidOut (by kernel_rfl) (of_decide_eq_true (by kernel_rfl)) k1 bel lt1) trodAll_mk0)), rfl, bel.frame _, fun h => by cases h⟩

theorem over : Rows.fnBillsRow.holds Try.pinned (OpenSpec.ofChange Rows.fnBillsSpec) :=
  OpenClaim.holds_of_wide 3 Try.f3 rfl rfl rfl rfl rfl rfl rfl ⟨rfl, rfl, rfl, rfl, rfl⟩ rfl rfl rfl rfl rfl (by kernel_rfl) Try.func3 (by kernel_rfl)
    (of_decide_eq_true (by kernel_rfl)) (by unfold Func.isWrapper; first | (rw [if_pos (by decide +kernel)]; kernel_rfl) | (rw [if_neg (by decide +kernel)]; exact ⟨rfl, rfl⟩))
    (fun os started H enc _ => lifted os started H enc)

theorem proved : Rows.FnBillsSaid := over
end Go.Proofs.Ytdomccamkiplcaa.fnBills
