/-
  The walk of FnWeights.
-/
import Derived.Test.YtnbnegkoanidmaaGreatDoorHa
import Derived.Test.YtnbnegkoanidmaaGreatDoorHb
import Derived.Test.YtnbnegkoanidmaaGreatDoorHc
import Derived.Test.YtnbnegkoanidmaaGreatDoorHd
import Derived.Test.YtnbnegkoanidmaaGreatDoorMwe
import Derived.Test.YtnbnegkoanidmaaGreatDoorMwf
import Derived.Test.YtnbnegkoanidmaaGreatDoorTim
import Derived.Test.YtnbnegkoanidmaaGreatDoorWei
import Derived.Test.YtnbnegkoanidmaaGreatDoorBtj
import Derived.Test.YtnbnegkoanidmaaGreatDoorBtx
import Derived.Test.YtnbnegkoanidmaaGreatDoorMsj
import Derived.Deep.LoopGhost
import Derived.Deep.QuietTactic
import Derived.BigQuiet
namespace Go.Proofs.YtnbnegkoanidmaaGreatDoor
open Go.RowKit
set_option linter.unusedVariables false

theorem bytes_under {w w' : World} {A : Option Addr} {l : List UInt8} {B : Nat} (h : BytesIn w A l) (hb : Below B w w') (hB : w.heap.size ≤ B) : BytesIn w' A l := fun hn => by
  obtain ⟨b, off, rfl, h2, h3⟩ := h hn
  exact ⟨b, off, rfl, Nat.lt_of_lt_of_le h2 hb.size, fun k hk => (hb.cell (by show b < B; omega)).trans (h3 k hk)⟩
set_option maxRecDepth 100000 in
set_option maxHeartbeats 8000000 in
theorem weightsWalk (A : Option Addr) (xs : List UInt8) (c : Nat) (Ay : Option Addr) (ys : List UInt8) (cy : Nat) (w : World) (hx : BytesIn w A xs) (hxs : xs.length ≤ maxLen) (hy : BytesIn w Ay ys) (hys : ys.length ≤ maxLen) (ht : S1.Tab w) :
    Calls Tryz.prog 3 #[.slice A xs.length c, .slice Ay ys.length cy] w fun e w' => e = .returned (.bool true) ∧ Below w.heap.size w w' := by
  have HX := Lib.hid hx; have HY := Lib.hid hy; have HT := Lib.hid ht; clear hx hy ht
  have hlongs : (1048576 : Int) < wrap64 ((xs.length : Int) + (ys.length : Int)) ∨ ¬ (1048576 : Int) < wrap64 ((xs.length : Int) + (ys.length : Int)) := by omega
  go_enter Tryz.func3, Tryz.ntmps3
  by_cases hlong : (1048576 : Int) < wrap64 ((xs.length : Int) + (ys.length : Int))
  · go_wp2
    go_ret
    exact ⟨rfl, Below.refl _ _⟩
  clear hlongs
  go_wp2_with fail
  refine (drawDivide_any A c xs w HX.out hxs).mono ?_
  rintro e w1 ⟨l, B, d, T, rfl, hl33, hin, hb⟩
  have HA : Hid (Below w.heap.size w w1) := Lib.hid hb
  have HL : Hid (IntsIn w1 B l) := Lib.hid hin
  have hn : l.length ≤ 1048576 := by omega
  clear HX hlong hxs hb hin
  obtain ⟨D, hD⟩ : ∃ D, D = divL l T := ⟨_, rfl⟩
  obtain ⟨ok, hok⟩ : ∃ q, q = divB l T := ⟨_, rfl⟩
  have KDi := Lib.hid (fun (W : World) (h : IntsIn W B l) => (by have h2 := implDivide_any l B d T W h hn; rw [← hD, ← hok] at h2; exact h2 : Calls Tryz.prog 5 #[.slice B l.length d, .int .i64 T] W fun e W' => ∃ v t, e = .returned (.tuple #[v, .bool ok]) ∧ Below W.heap.size W W' ∧ W'.ownsRow W.heap.size t 1 v D.length (intsZ D)))
  have KDs := Lib.hid (fun (W : World) (h : IntsIn W B l) => (by have h2 := specDivide_any l B d T W h hn; unfold DivTo at h2; rw [← hD, ← hok] at h2; exact h2 : Calls Tryz.prog 6 #[.slice B l.length d, .int .i64 T] W fun e W' => ∃ v t, e = .returned (.tuple #[v, .bool ok]) ∧ Below W.heap.size W W' ∧ W'.ownsRow W.heap.size t 1 v D.length (intsZ D)))
  have hDl : D.length ≤ 1048576 := by
    rw [hD]
    by_cases h : divB l T = true
    · have := (div_ok h).len; have := (div_ok h).l32; omega
    · rw [divL_no (by simpa using h)]; exact Nat.zero_le _
  have ED := Lib.hid hD; have EK := Lib.hid hok
  clear hD hok
  go_wp2_with fail
  refine (KDi.out _ HL.out).mono ?_
  rintro e w2 ⟨v, t, rfl, hb, ho⟩
  obtain ⟨B1, d1, rfl⟩ := own_formI ho
  have HS1 := Lib.hid (own_in ho)
  replace HL := Lib.hid (HL.out.below hb (Nat.le_refl _))
  replace HA := Lib.hid (HA.out.trans (hb.mono HA.out.size))
  clear hb ho
  go_wp2_with fail
  refine (KDs.out _ HL.out).mono ?_
  rintro e w3 ⟨v, t, rfl, hb, ho⟩
  obtain ⟨B2, d2, rfl⟩ := own_formI ho
  have HS2 := Lib.hid (own_in ho)
  replace HL := Lib.hid (HL.out.below hb (Nat.le_refl _)); replace HS1 := Lib.hid (HS1.out.below hb (Nat.le_refl _))
  replace HA := Lib.hid (HA.out.trans (hb.mono HA.out.size))
  clear hb ho KDi KDs
  have e1 : (ok != ok) = false := by simp
  go_wp2_with fail
  refine (qInts_any D B1 B2 d1 d2 _ HS1.out HS2.out hDl).mono ?_
  rintro e w4 ⟨rfl, hb⟩
  replace HL := Lib.hid (HL.out.below hb (Nat.le_refl _)); replace HS2 := Lib.hid (HS2.out.below hb (Nat.le_refl _))
  replace HA := Lib.hid (HA.out.trans (hb.mono HA.out.size))
  clear hb HS1
  go_upto_if 70 with fail
  go_cut [] (fun wx => Below w4.heap.size w4 wx)
  case first =>
    skip
    as_aux_lemma =>
      cases ok with
      | false =>
        go_wp2_with fail
        go_meet
        exact Below.refl _ _
      | true =>
        have hd := div_ok (l := l) (T := T) EK.out.symm
        rw [← ED.out] at hd
        generalize sumW l l.length = S at *
        have HDV := Lib.hid hd
        have HB1 : Hid (∀ k (h : k < D.length), 0 ≤ D[k] ∧ D[k] ≤ 100000000001) := Lib.hid fun k h => by
          have h2 := hd.fine k (by rw [← hd.len]; exact h) h
          exact ⟨h2.1, h2.2.1⟩
        have HB2 : Hid (∀ k (h : k < l.length), 0 ≤ l[k] ∧ l[k] ≤ 100000000001) := Lib.hid fun k h => by
          have h2 := hd.all k h
          omega
        have hdl := hd.len; have hd32 := hd.l32
        have hD64 : D.length ≤ 64 := by omega
        have hl64 : l.length ≤ 64 := by omega
        have HDS := Lib.hid hd.sum; have HWS := Lib.hid hd.ws
        obtain ⟨hT0, hT1⟩ := hd.tot; obtain ⟨hS0, hS1⟩ := hd.pos
        clear hd hdl
        have hTT : (T != T) = false := by simp
        go_wp2_with fail
        refine (qSum_any D B2 d2 _ HS2.out hD64 HB1.out).mono ?_
        rintro e w5 ⟨rfl, rfl⟩
        rw [HDS.out]
        go_wp2_with fail
        refine (qSum_any l B d _ HL.out hl64 HB2.out).mono ?_
        rintro e w6 ⟨rfl, rfl⟩
        rw [HWS.out]
        go_wp2
        go_loopw [79] (fun i wr => ∃ k : Nat, k ≤ D.length ∧ i = .int .i64 (k : Int) ∧ Below w4.heap.size w4 wr) (fun i _ => D.length - (intOf i).toNat)
        case atStart => exact ⟨0, Nat.zero_le _, rfl, Below.refl _ _⟩
        case round =>
          obtain ⟨k, hk, rfl, hb⟩ := hrel
          by_cases hlt : k < D.length
          · have hkl : k < l.length := by rw [← HDV.out.len]; exact hlt
            obtain ⟨b0, off, rfl, hbl, hc⟩ := HS2.out (by omega)
            obtain ⟨b1, off1, rfl, hbl1, hc1⟩ := HL.out (by omega)
            have e0 := (hb.cell (p := ⟨b0, off + k, none⟩) hbl).trans (hc k hlt)
            have e1 := (hb.cell (p := ⟨b1, off1 + k, none⟩) hbl1).trans (hc1 k hkl)
            obtain ⟨x0, x1, x2, x3⟩ := HDV.out.fine k hkl hlt
            obtain ⟨y0, y1⟩ := HDV.out.all k hkl
            have HB := Lib.hid hb
            have hk1 : (k : Int) < (D.length : Int) := by omega
            have hk2 : (k : Int) < (l.length : Int) := by omega
            have hk0 : (0 : Int) ≤ (k : Int) := by omega
            clear hc hc1 hb
            generalize D[k]'hlt = x at *
            generalize l[k]'hkl = y at *
            obtain ⟨t0, t1⟩ := S1.mul_bd hT0 hT1 y0 y1
            simp only [Int.reduceMul] at t1
            have p0 : 0 ≤ x * S := Int.mul_nonneg x0 (by omega)
            obtain ⟨p, hp⟩ : ∃ p : Int, x * S = p := ⟨_, rfl⟩
            rw [hp] at x2 x3 p0
            obtain ⟨q, hq⟩ : ∃ q : Int, T * y = q := ⟨_, rfl⟩
            rw [hq] at x2 x3 t0 t1
            have n1 : ¬ q + S < p := by omega
            have n2 : ¬ p < q - S := by omega
            go_wp2
            go_roundw
            case rel => exact ⟨k + 1, by omega, by go_num, HB.out⟩
            case measure => simp [intOf]; omega
          · obtain rfl : k = D.length := by omega
            go_wp2
            go_meet
            exact hb
  case rest =>
    have hb := hcut
    clear hcut HL HS2 ED EK e1 hn hDl hl33
    replace HA := Lib.hid (HA.out.trans (hb.mono HA.out.size))
    clear hb
    generalize wc = w7 at *
    clear wc
    go_wp2_with fail
    refine (S1.drawSca_any Ay cy ys _ (bytes_under HY.out HA.out (Nat.le_refl _)) hys).mono ?_
    rintro e w8 ⟨vs, rfl, f, B, d, st, C, q, ws, E, d3, rfl, hf40, hco, hst, hws, hso, hF, hI, hS, hb⟩
    replace HA := Lib.hid (HA.out.trans (hb.mono HA.out.size))
    have HF := Lib.hid hF; have HI := Lib.hid hI; have HS := Lib.hid hS
    have HCO := Lib.hid hco; have HSO := Lib.hid hso
    have hn : f.length ≤ 1048576 := by omega
    have hq : st.length ≤ 1048576 := by omega
    have hm : ws.length ≤ 1048576 := by omega
    clear hb hF hI hS hco hso hf40 hst hws
    obtain ⟨kv, hkv⟩ : ∃ F, F = (S1.scaR f st ws).getD 0 := ⟨_, rfl⟩
    obtain ⟨one, hone⟩ : ∃ F, F = (S1.scaR f st ws).isSome := ⟨_, rfl⟩
    have KSi := Lib.hid (fun (W : World) (h : S1.SortsIn W 0 B f) (h1 : S1.IntsIn W C st) (h3 : S1.StrsIn W E ws) => (by have h2 := S1.implSca_any f B d st C q ws E d3 0 W h hn HCO.out h1 hq h3 HSO.out hm; rw [← hkv, ← hone] at h2; exact h2 : Calls Tryz.prog 10 #[.slice B f.length d, .slice C st.length q, .slice E ws.length d3] W fun e W' => e = .returned (.tuple #[.int .i64 kv, .bool one]) ∧ Below W.heap.size W W'))
    have KSs := Lib.hid (fun (W : World) (h : S1.SortsIn W 0 B f) (h1 : S1.IntsIn W C st) (h3 : S1.StrsIn W E ws) => (by have h2 := S1.specSca_any f B d st C q ws E d3 0 W h hn HCO.out h1 hq h3 HSO.out hm; rw [← hkv, ← hone] at h2; exact h2 : Calls Tryz.prog 11 #[.slice B f.length d, .slice C st.length q, .slice E ws.length d3] W fun e W' => e = .returned (.tuple #[.int .i64 kv, .bool one]) ∧ Below W.heap.size W W'))
    have EV := Lib.hid hkv; have EO := Lib.hid hone
    clear hkv hone
    go_wp2_with fail
    refine (KSi.out _ HF.out HI.out HS.out).mono ?_
    rintro e w9 ⟨rfl, hb⟩
    replace HF := Lib.hid (HF.out.below hb (Nat.le_refl _)); replace HI := Lib.hid (HI.out.below hb (Nat.le_refl _)); replace HS := Lib.hid (HS.out.below hb (Nat.le_refl _))
    replace HA := Lib.hid (HA.out.trans (hb.mono HA.out.size))
    clear hb
    go_wp2_with fail
    refine (KSs.out _ HF.out HI.out HS.out).mono ?_
    rintro e w12 ⟨rfl, hb⟩
    replace HF := Lib.hid (HF.out.below hb (Nat.le_refl _)); replace HI := Lib.hid (HI.out.below hb (Nat.le_refl _)); replace HS := Lib.hid (HS.out.below hb (Nat.le_refl _))
    replace HA := Lib.hid (HA.out.trans (hb.mono HA.out.size))
    clear hb KSi KSs
    have e1 : (one != one) = false := by simp
    have e2 : (kv != kv) = false := by simp
    go_upto_if 139 with fail
    go_cut [] (fun wx => Below w12.heap.size w12 wx)
    case first =>
      skip
      as_aux_lemma =>
        cases one with
        | false =>
          go_wp2_with fail
          go_meet
          exact Below.refl _ _
        | true =>
          obtain ⟨v0, hv0⟩ := Option.isSome_iff_exists.1 EO.out.symm
          obtain ⟨i, hi, hsc⟩ := sca_ok hv0
          obtain rfl : kv = (i : Int) := by rw [EV.out, hv0, ← hi]; rfl
          obtain ⟨N, hN⟩ : ∃ N, N = S1.needF f ws := ⟨_, rfl⟩
          rw [← hN] at hsc
          clear hv0 hi hN EV EO
          have KN := Lib.hid (fun (W : World) (h : S1.SortsIn W 0 B f) (h1 : S1.StrsIn W E ws) => (by have h2 := S1.implCount_any f B d ws E d3 0 W h hn HCO.out h1 HSO.out hm; rw [hsc.need] at h2; exact h2 : Calls Tryz.prog 12 #[.slice B f.length d, .slice E ws.length d3] W fun e W' => ∃ v, e = .returned (.tuple #[v, .bool true]) ∧ Below W.heap.size W W' ∧ W'.ownsRow W.heap.size 3 1 v N.length (intsZ N)))
          have hil := hsc.at_
          have h1 := hsc.one; rw [S1.getD_of hil] at h1
          have h2 := (hsc.nb i hil).2
          have hil2 : i < st.length := by rw [hsc.stl]; exact hil
          have h3 := hsc.sb i hil2
          have hN32 := hsc.len
          have HST := Lib.hid hsc.stl
          have HLE : Hid (∀ j (h : j < N.length) (h' : j < st.length), st[i] * N[j] ≤ st[j] * N[i]) := Lib.hid fun j h h' => by
            have := hsc.least j h h'
            rw [S1.getD_of hil, S1.getD_of hil2] at this
            exact this
          have HNB := Lib.hid hsc.nb; have HSB := Lib.hid hsc.sb
          clear hsc
          have HK : Hid (Below w12.heap.size w12 w12) := Lib.hid (Below.refl _ _)
          go_wp2_with fail
          refine (KN.out _ HF.out HS.out).mono ?_
          rintro e w13 ⟨v, rfl, hb, ho⟩
          obtain ⟨BN, dN, rfl⟩ := own_formI ho
          have HN := Lib.hid (own_in ho)
          replace HI := Lib.hid (HI.out.below hb (Nat.le_refl _))
          replace HK := Lib.hid (HK.out.trans (hb.mono HK.out.size))
          clear hb ho HF HS KN
          obtain ⟨b0, off, rfl, hbl, hc⟩ := HN.out (by omega)
          obtain ⟨b1, off1, rfl, hbl1, hc1⟩ := HI.out (by omega)
          have e0 := hc i hil
          have e1 := hc1 i hil2
          obtain ⟨m, hmm⟩ : ∃ m, m = N[i]'hil := ⟨_, rfl⟩
          obtain ⟨s, hss⟩ : ∃ s, s = st[i]'hil2 := ⟨_, rfl⟩
          have HMM := Lib.hid hmm; have HSS := Lib.hid hss
          rw [← hmm] at e0 h1 h2
          rw [← hss] at e1 h3
          obtain ⟨h30, h31⟩ := h3
          clear hmm hss
          have hi0 : (0 : Int) ≤ (i : Int) := by omega
          have hi1 : (i : Int) < (N.length : Int) := by omega
          have hi2 : (i : Int) < (st.length : Int) := by omega
          have hm1 : ¬ m < 1 := by omega
          have HC := Lib.hid hc; have HC1 := Lib.hid hc1
          clear hc hc1
          go_wp2
          go_loopw [157] (fun i wr => ∃ k : Nat, k ≤ N.length ∧ i = .int .i64 (k : Int) ∧ Below w13.heap.size w13 wr) (fun i _ => N.length - (intOf i).toNat)
          case atStart => exact ⟨0, Nat.zero_le _, rfl, Below.refl _ _⟩
          case round =>
            obtain ⟨k, hk, rfl, hb⟩ := hrel
            by_cases hlt : k < N.length
            · have hkl : k < st.length := by rw [HST.out]; exact hlt
              have k0 := KeptW.cell ((hb.cell (p := ⟨b0, off + i, none⟩) hbl).trans e0) (by show b0 < wr.heap.size; have := hb.size; omega)
              have k1 := KeptW.cell ((hb.cell (p := ⟨b1, off1 + i, none⟩) hbl1).trans e1) (by show b1 < wr.heap.size; have := hb.size; omega)
              have k3 := KeptW.cell ((hb.cell (p := ⟨b1, off1 + k, none⟩) hbl1).trans (HC1.out k hkl)) (by show b1 < wr.heap.size; have := hb.size; omega)
              have f2 := (hb.cell (p := ⟨b0, off + k, none⟩) hbl).trans (HC.out k hlt)
              obtain ⟨a0, a1⟩ := HNB.out k hlt
              obtain ⟨c0, c1⟩ := HSB.out k hkl
              have hle := HLE.out k hlt hkl
              rw [← HMM.out, ← HSS.out] at hle
              have HB := Lib.hid hb
              have hk1 : (k : Int) < (N.length : Int) := by omega
              have hk2 : (k : Int) < (st.length : Int) := by omega
              have hk0 : (0 : Int) ≤ (k : Int) := by omega
              clear hb e0 e1
              generalize N[k]'hlt = x at *
              generalize st[k]'hkl = y at *
              obtain ⟨t0, t1⟩ := S1.mul_bd h30 h31 a0 a1
              obtain ⟨u0, u1⟩ := S1.mul_bd c0 c1 (by omega : (0 : Int) ≤ m) h2
              simp only [Int.reduceMul] at t1 u1
              by_cases hx : 0 < x
              · have hd : decide (0 < x) = true := by simp; exact hx
                have hpq : decide (y * m < s * x) = false := by simp; exact hle
                have hw1 : IntKind.i64.wrap (y * m) = y * m := by rw [IntKind.wrap_i64]; omega
                have hw2 : IntKind.i64.wrap (s * x) = s * x := by rw [IntKind.wrap_i64]; omega
                go_wp2_with fail
                refine region_kept wr.heap.size (by kernel_rfl) (by kernel_rfl) ?_
                repeat (go_big_quiet_step (fail))
                refine wpQuiet_nil ?_
                intro w15 hb15
                have HB2 := Lib.hid (HB.out.trans (hb15.mono HB.out.size))
                clear k0 k1 k3 hb15
                go_wp2
                go_roundw
                case rel => exact ⟨k + 1, by omega, by go_num, HB2.out⟩
                case measure => simp [intOf]; omega
              · have hd : decide (0 < x) = false := by simp; omega
                go_wp2_with fail
                refine region_kept wr.heap.size (by kernel_rfl) (by kernel_rfl) ?_
                repeat (go_big_quiet_step (fail))
                refine wpQuiet_nil ?_
                intro w15 hb15
                have HB2 := Lib.hid (HB.out.trans (hb15.mono HB.out.size))
                clear k0 k1 k3 hb15
                go_wp2
                go_roundw
                case rel => exact ⟨k + 1, by omega, by go_num, HB2.out⟩
                case measure => simp [intOf]; omega
            · obtain rfl : k = N.length := by omega
              go_wp2
              go_meet
              exact HK.out.trans (hb.mono HK.out.size)
    case rest =>
      have hb := hcut
      clear hcut HF HI HS EV EO e1 e2 hn hq hm HCO HSO
      replace HA := Lib.hid (HA.out.trans (hb.mono HA.out.size))
      clear hb
      generalize wc = w19 at *
      clear wc
      go_wp2_with fail
      refine (S1.drawWei_any Ay cy ys _ (bytes_under HY.out HA.out (Nat.le_refl _)) hys).mono ?_
      rintro e w20 ⟨g, G, dG, cs, C2, q2, body, rfl, hgl, hgo, hcl, hgs, hci, hb⟩
      replace HA := Lib.hid (HA.out.trans (hb.mono HA.out.size))
      have hgn : g.length ≤ 1048576 := by omega
      have hcn : cs.length ≤ 1048576 := by omega
      have HG := Lib.hid hgs; have HC := Lib.hid hci; have HGO := Lib.hid hgo
      clear hb hgl hcl hgs hci hgo
      obtain ⟨V, hV⟩ : ∃ V, V = (S1.weiV g cs body).getD 0 := ⟨_, rfl⟩
      obtain ⟨three, h3⟩ : ∃ q, q = (S1.weiV g cs body).isSome := ⟨_, rfl⟩
      have HV0 : Hid (three = true → 0 ≤ V) := Lib.hid fun h => by
        obtain ⟨z, hz⟩ := Option.isSome_iff_exists.1 (h3 ▸ h)
        rw [hV, hz]
        exact wei_nn hz
      have KWi := Lib.hid (fun (W : World) (h : S1.SortsIn W 0 G g) (h1 : S1.IntsIn W C2 cs) => (by have h2 := S1.implWei_any g G dG cs C2 q2 body 0 W h hgn HGO.out h1 hcn; rw [← hV, ← h3] at h2; exact h2 : Calls Tryz.prog 14 #[.slice G g.length dG, .slice C2 cs.length q2, .int .i64 body] W fun e W' => e = .returned (.tuple #[.int .i64 V, .bool three]) ∧ Below W.heap.size W W'))
      have KWs := Lib.hid (fun (W : World) (h : S1.SortsIn W 0 G g) (h1 : S1.IntsIn W C2 cs) => (by have h2 := S1.specWei_any g G dG cs C2 q2 body 0 W h hgn HGO.out h1 hcn; rw [← hV, ← h3] at h2; exact h2 : Calls Tryz.prog 15 #[.slice G g.length dG, .slice C2 cs.length q2, .int .i64 body] W fun e W' => e = .returned (.tuple #[.int .i64 V, .bool three]) ∧ Below W.heap.size W W'))
      clear hV h3
      go_wp2_with fail
      refine (KWi.out _ HG.out HC.out).mono ?_
      rintro e w21 ⟨rfl, hb⟩
      replace HG := Lib.hid (HG.out.below hb (Nat.le_refl _)); replace HC := Lib.hid (HC.out.below hb (Nat.le_refl _))
      replace HA := Lib.hid (HA.out.trans (hb.mono HA.out.size))
      clear hb
      go_wp2_with fail
      refine (KWs.out _ HG.out HC.out).mono ?_
      rintro e w22 ⟨rfl, hb⟩
      replace HA := Lib.hid (HA.out.trans (hb.mono HA.out.size))
      clear hb HG HC KWi KWs HGO hgn hcn
      go_wp2_with fail
      refine (S1.drawBil_any Ay cy ys _ (bytes_under HY.out HA.out (Nat.le_refl _)) hys).mono ?_
      rintro e w23 ⟨g2, G2, dG2, cs2, C3, q3, rfl, hgl, hgo, hcl, hgs, hci, hb⟩
      replace HA := Lib.hid (HA.out.trans (hb.mono HA.out.size))
      have hgn : g2.length ≤ 1048576 := by omega
      have hcn : cs2.length ≤ 1048576 := by omega
      have HG := Lib.hid hgs; have HC := Lib.hid hci; have HGO := Lib.hid hgo
      clear hb hgl hcl hgs hci hgo
      obtain ⟨X, hX⟩ : ∃ X, X = S1.billT g2 cs2 := ⟨_, rfl⟩
      obtain ⟨five, h5⟩ : ∃ q, q = S1.billOk g2 cs2 := ⟨_, rfl⟩
      have KBi := Lib.hid (fun (W : World) (h : S1.SortsIn W 0 G2 g2) (h1 : S1.IntsIn W C3 cs2) (t : S1.Tab W) => (by have h2 := S1.implBill_any g2 G2 dG2 cs2 C3 q3 W h hgn HGO.out h1 hcn t; unfold S1.BillTo at h2; rw [← hX, ← h5] at h2; exact h2 : Calls Tryz.prog 17 #[.slice G2 g2.length dG2, .slice C3 cs2.length q3] W fun e W' => e = .returned (.tuple #[.string X, .bool five]) ∧ Below W.heap.size W W'))
      have KBs := Lib.hid (fun (W : World) (h : S1.SortsIn W 0 G2 g2) (h1 : S1.IntsIn W C3 cs2) => (by have h2 := S1.specBill_any g2 G2 dG2 cs2 C3 q3 W h hgn HGO.out h1 hcn; unfold S1.BillTo at h2; rw [← hX, ← h5] at h2; exact h2 : Calls Tryz.prog 18 #[.slice G2 g2.length dG2, .slice C3 cs2.length q3] W fun e W' => e = .returned (.tuple #[.string X, .bool five]) ∧ Below W.heap.size W W'))
      clear hX h5
      go_wp2_with fail
      refine (KBi.out _ HG.out HC.out (HT.out.below HA.out)).mono ?_
      rintro e w24 ⟨rfl, hb⟩
      replace HG := Lib.hid (HG.out.below hb (Nat.le_refl _)); replace HC := Lib.hid (HC.out.below hb (Nat.le_refl _))
      replace HA := Lib.hid (HA.out.trans (hb.mono HA.out.size))
      clear hb
      go_wp2_with fail
      refine (KBs.out _ HG.out HC.out).mono ?_
      rintro e w25 ⟨rfl, hb⟩
      replace HA := Lib.hid (HA.out.trans (hb.mono HA.out.size))
      clear hb HG HC KBi KBs HGO hgn hcn
      have hVV : (V == V) = true := by simp
      have hXX : (X.toList == X.toList) = true := by simp
      have h0 := HV0.out
      clear HV0
      cases three <;> cases five
      all_goals
        first
        | have h1 : 0 ≤ V := h0 rfl
        | skip
        clear h0
        go_wp2
        go_ret
        exact ⟨rfl, HA.out⟩
end Go.Proofs.YtnbnegkoanidmaaGreatDoor
