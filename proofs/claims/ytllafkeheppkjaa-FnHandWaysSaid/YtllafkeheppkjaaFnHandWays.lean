/-
  FnHandWays: for every input (two slices of bytes) the law returns true, and what it was given reads as before. Conditions: none beyond the given statement's own.
-/
import Derived.Test.YtllafkeheppkjaaRows
import Derived.Test.YtllafkeheppkjaaDm
import Derived.Test.YtllafkeheppkjaaOpenB
import Derived.ProofKit
import Derived.OpenShut
import Derived.ShutString
import Derived.ChangeOld
import Derived.Lib.SmallJoins
namespace Go.Proofs.Ytllafkeheppkjaa.fnHandWays
open Go.ChangeShapes Go.WideShapes Go.ChangeAt Go.RowKit Go.Joins
open Go.ChangeMaps (open_string shut_string)
set_option linter.unusedVariables false

theorem own : ownKnob Try.prog.godebug = none := by kernel_rfl
theorem laidOut : laidOutB Try.prog = true := by kernel_rfl

set_option maxRecDepth 100000 in
set_option maxHeartbeats 8000000 in
theorem walk (A : Option Addr) (xs : List UInt8) (c : Nat) (Ay : Option Addr) (ys : List UInt8) (cy : Nat) (w : World) (hx : BytesIn w A xs) (hxs : xs.length ≤ maxLen) (hy : BytesIn w Ay ys) (hys : ys.length ≤ maxLen) :
    Calls Try.prog 13 #[.slice A xs.length c, .slice Ay ys.length cy] w fun e w' => e = .returned (.bool true) ∧ Below w.heap.size w w' := by
  have HX := Lib.hid hx; have HY := Lib.hid hy; clear hx hy
  have hlongs : (1048576 : Int) < wrap64 ((xs.length : Int) + (ys.length : Int)) ∨ ¬ (1048576 : Int) < wrap64 ((xs.length : Int) + (ys.length : Int)) := by omega
  go_enter Try.func13, Try.ntmps13
  by_cases hlong : (1048576 : Int) < wrap64 ((xs.length : Int) + (ys.length : Int))
  · go_wp2
    go_ret
    exact ⟨rfl, Below.refl _ _⟩
  clear hlongs
  go_wp2_with fail
  refine (drawBest_any A c xs w HX.out hxs).mono ?_
  rintro e w1 ⟨l, B, d, cs, E, dE, rfl, hl, hcap, hlo, hlin, hcs, hso, hsin, hb⟩
  have HLO := Lib.hid hlo; have HSO := Lib.hid hso; have HL1 := Lib.hid hlin; have HS1 := Lib.hid hsin
  have HA1 : Hid (Below w.heap.size w w1) := Lib.hid hb
  have hn : l.length ≤ 1048576 := by omega
  have hm : cs.length ≤ 1048576 := by omega
  clear HX hlong hxs hlo hso hlin hsin hb
  obtain ⟨x, y, n, ok, hbi⟩ : ∃ x y n ok, BestIs l cs x y n ok := ⟨_, _, _, _, rfl, rfl, rfl, rfl⟩
  obtain ⟨z, one, hhi⟩ : ∃ z one, HandIs l cs z one := ⟨_, _, rfl, rfl⟩
  have HBI := Lib.hid hbi; have HHI := Lib.hid hhi; clear hbi hhi
  go_wp2_with fail
  refine (implBest_is l B d cs E dE w1 HL1.out hn HLO.out hcap HS1.out HSO.out hm x y n ok HBI).mono ?_
  rintro e w2 ⟨rfl, hb⟩
  have HL2 := Lib.hid (HL1.out.next hb); have HS2 := Lib.hid (HS1.out.below hb (Nat.le_refl _))
  have HA2 := Lib.hid (HA1.out.trans (hb.mono HA1.out.size))
  clear hb HL1 HS1 HA1
  go_wp2_with fail
  refine (specBest_is l B d cs E dE w2 HL2.out hn HLO.out hcap HS2.out HSO.out hm x y n ok HBI).mono ?_
  rintro e w3 ⟨rfl, hb⟩
  have HL3 := Lib.hid (HL2.out.next hb); have HS3 := Lib.hid (HS2.out.below hb (Nat.le_refl _))
  have HA3 := Lib.hid (HA2.out.trans (hb.mono HA2.out.size))
  clear hb HL2 HS2 HA2
  go_wp2_with fail
  refine (implHand_is l B d cs E dE w3 HL3.out hn HLO.out hcap HS3.out HSO.out hm z one HHI).mono ?_
  rintro e w4 ⟨rfl, hb⟩
  have HL4 := Lib.hid (HL3.out.next hb); have HS4 := Lib.hid (HS3.out.below hb (Nat.le_refl _))
  have HA4 := Lib.hid (HA3.out.trans (hb.mono HA3.out.size))
  clear hb HL3 HS3 HA3
  go_wp2_with fail
  refine (specHand_is l B d cs E dE w4 HL4.out hn HLO.out hcap HS4.out HSO.out hm z one HHI).mono ?_
  rintro e w5 ⟨rfl, hb⟩
  have HL5 := Lib.hid (HL4.out.next hb); have HS5 := Lib.hid (HS4.out.below hb (Nat.le_refl _))
  have HA5 := Lib.hid (HA4.out.trans (hb.mono HA4.out.size))
  clear hb HL4 HS4 HA4
  cases ok
  · have HA := HA5
    clear HA5 HL5 HS5
    go_wp2_with fail
    refine (drawNear_any Ay cy ys _ (HY.out.under HA.out (Nat.le_refl _)) hys).mono ?_
    rintro e n1 ⟨u, U, dU, r, q, rfl, hul, hucap, huo, huin, hr, hq, hb⟩
    have HUO := Lib.hid huo; have HU1 := Lib.hid huin
    have HA1 := Lib.hid (HA.out.trans (hb.mono HA.out.size))
    have hun : u.length ≤ 1048576 := by omega
    clear hb huo huin HA
    obtain ⟨x', y', fine, hnear⟩ : ∃ x' y' fine, NearIs u r q x' y' fine := ⟨_, _, _, rfl, rfl, rfl⟩
    have HNR := Lib.hid hnear; clear hnear
    go_wp2_with fail
    refine (implNear_is u U dU r q n1 HU1.out hun HUO.out hucap x' y' fine HNR).mono ?_
    rintro e n2 ⟨rfl, hb⟩
    have HU2 := Lib.hid (HU1.out.next hb)
    have HA2 := Lib.hid (HA1.out.trans (hb.mono HA1.out.size))
    clear hb HU1 HA1
    go_wp2_with fail
    refine (specNear_is u U dU r q n2 HU2.out hun HUO.out hucap x' y' fine HNR).mono ?_
    rintro e n3 ⟨rfl, hb⟩
    have HU3 := Lib.hid (HU2.out.next hb)
    have HA3 := Lib.hid (HA2.out.trans (hb.mono HA2.out.size))
    clear hb HU2 HA2
    cases fine
    · go_wp2
      go_ret
      exact ⟨rfl, HA3.out⟩
    · go_wp2
      go_loopw [202] (fun i wr => ∃ (k : Nat), k ≤ u.length ∧ i = .int .i64 k ∧ Below n3.heap.size n3 wr) (fun i _ => u.length - (intOf i).toNat)
      case atStart => exact ⟨0, Nat.zero_le _, rfl, Below.refl _ _⟩
      case round =>
        obtain ⟨k, hk, rfl, hb⟩ := hrel
        by_cases hlt : k < u.length
        · obtain ⟨gb, off, rfl, hbl, hc⟩ := HU3.out (by omega)
          obtain ⟨hc0, hc1, hc2, hc3⟩ := hc k hlt
          clear hc
          rw [← hb.cell (p := ⟨gb, off + k * 4, none⟩) hbl] at hc0
          rw [← hb.cell (p := ⟨gb, off + k * 4 + 1, none⟩) hbl] at hc1
          rw [← hb.cell (p := ⟨gb, off + k * 4 + 2, none⟩) hbl] at hc2
          rw [← hb.cell (p := ⟨gb, off + k * 4 + 3, none⟩) hbl] at hc3
          have hno := near_no HNR.out hlt
          have hk1 : (k : Int) < (u.length : Int) := by omega
          have HBE := Lib.hid (hb.alloc hb.size (.cells #[.string u[k].cod, .int .i64 u[k].row, .int .i64 u[k].col, .int .i64 u[k].cnt] 26))
          clear hb
          generalize u[k].cod = t0 at *; generalize u[k].row = t1 at *; generalize u[k].col = t2 at *; generalize u[k].cnt = t3 at *
          by_cases e1 : t1 = (x' : Int)
          · have e2 : (t2 == (y' : Int)) = false := by rw [beq_eq_false_iff_ne]; exact fun h => hno ⟨e1, h⟩
            have e1' : (t1 == (x' : Int)) = true := by rw [beq_iff_eq]; exact e1
            clear hno e1
            go_wp2
            go_roundw
            case rel => exact ⟨k + 1, by omega, by go_num, HBE.out⟩
            case measure => simp [intOf]; omega
          · have e1' : (t1 == (x' : Int)) = false := by rw [beq_eq_false_iff_ne]; exact e1
            clear hno e1
            go_wp2
            go_roundw
            case rel => exact ⟨k + 1, by omega, by go_num, HBE.out⟩
            case measure => simp [intOf]; omega
        · obtain rfl : k = u.length := by omega
          go_wp2
          go_ret
          exact ⟨rfl, HA3.out.trans (hb.mono HA3.out.size)⟩
  · obtain rfl := best_hand HBI.out HHI.out
    have HP := Lib.hid (pair_ok HBI.out HLO.out)
    go_wp2
    go_loopw [113] (fun i wr => ∃ (k : Nat), k ≤ l.length ∧ i = .int .i64 k ∧ Below w5.heap.size w5 wr) (fun i _ => l.length - (intOf i).toNat)
    case atStart => exact ⟨0, Nat.zero_le _, rfl, Below.refl _ _⟩
    case round =>
      obtain ⟨k, hk, rfl, hbo⟩ := hrel
      have HBO := Lib.hid hbo; clear hbo
      by_cases hlt : k < l.length
      · have hkl : (k : Int) < (l.length : Int) := by omega
        go_wp2
        go_loopw [20] (fun j wi => ∃ (m : Nat), k + 1 ≤ m ∧ m ≤ l.length ∧ j = .int .i64 m ∧ Below w5.heap.size w5 wi) (fun j _ => l.length - (intOf j).toNat)
        case atStart => exact ⟨k + 1, Nat.le_refl _, by omega, by go_num, HBO.out⟩
        case round =>
          obtain ⟨m, hkm, hm1, rfl, hbi⟩ := hrel
          have HBI2 := Lib.hid hbi; clear hbi
          by_cases hlt2 : m < l.length
          · have hml : (m : Int) < (l.length : Int) := by omega
            obtain ⟨z, L, hsw, hhd, hlo, hll, hnz, heq⟩ := HP.out k m (by omega) hlt2
            have HSW := Lib.hid hsw; have HHD := Lib.hid hhd; have HLO2 := Lib.hid hlo
            have hLn : L.length ≤ 1048576 := by omega
            clear hsw hhd hlo hll
            have HF1 := Lib.hid (HL5.out.below HBI2.out (Nat.le_refl _)); have HS1 := Lib.hid (HS5.out.below HBI2.out (Nat.le_refl _))
            go_wp2_with fail
            refine (swap_is l B d k m L _ HF1.out hn HLO.out hcap HSW).mono ?_
            rintro e v1 ⟨v, rfl, hb1, hown⟩
            obtain ⟨A3, c3, rfl⟩ := own_form_bx hown
            have HF2 := Lib.hid (own_in_bx hown); have hcap2 := own_cap hown
            have HS2 := Lib.hid (HS1.out.below hb1 (Nat.le_refl _))
            have HB1 := Lib.hid (HBI2.out.trans (hb1.mono HBI2.out.size))
            clear hb1 hown HF1 HS1
            go_wp2_with fail
            refine (implHand_is L A3 c3 cs E dE v1 HF2.out hLn HLO2.out hcap2 HS2.out HSO.out hm z true HHD).mono ?_
            rintro e v2 ⟨rfl, hb2⟩
            have HB2 := Lib.hid (HB1.out.trans (hb2.mono HB1.out.size))
            clear hb2
            have hzn : ¬ z < n := by omega
            by_cases e1 : (k : Int) = (x : Int)
            · by_cases e2 : (m : Int) = (y : Int)
              · have h1 : ((k : Int) == (x : Int)) = true := by rw [beq_iff_eq]; exact e1
                have h2 : ((m : Int) == (y : Int)) = true := by rw [beq_iff_eq]; exact e2
                have h3 : (z != n) = false := by rw [heq e1 e2]; simp
                clear heq e1 e2
                go_wp2
                go_roundw
                case rel => exact ⟨m + 1, by omega, by omega, by go_num, HB2.out⟩
                case measure => simp [intOf]; omega
              · have h1 : ((k : Int) == (x : Int)) = true := by rw [beq_iff_eq]; exact e1
                have h2 : ((m : Int) == (y : Int)) = false := by rw [beq_eq_false_iff_ne]; exact e2
                clear heq e1 e2
                go_wp2
                go_roundw
                case rel => exact ⟨m + 1, by omega, by omega, by go_num, HB2.out⟩
                case measure => simp [intOf]; omega
            · have h1 : ((k : Int) == (x : Int)) = false := by rw [beq_eq_false_iff_ne]; exact e1
              clear heq e1
              go_wp2
              go_roundw
              case rel => exact ⟨m + 1, by omega, by omega, by go_num, HB2.out⟩
              case measure => simp [intOf]; omega
          · have hml : ¬ (m : Int) < (l.length : Int) := by omega
            go_wp2
            go_roundw
            case rel => exact ⟨k + 1, by omega, by go_num, HBI2.out⟩
            case measure => simp [intOf]; omega
      · obtain rfl : k = l.length := by omega
        have hkl : ¬ (l.length : Int) < (l.length : Int) := by omega
        have HA := Lib.hid (HA5.out.trans (HBO.out.mono HA5.out.size))
        clear HA5 HBO
        go_wp2_with fail
        refine (drawNear_any Ay cy ys _ (HY.out.under HA.out (Nat.le_refl _)) hys).mono ?_
        rintro e n1 ⟨u, U, dU, r, q, rfl, hul, hucap, huo, huin, hr, hq, hb⟩
        have HUO := Lib.hid huo; have HU1 := Lib.hid huin
        have HA1 := Lib.hid (HA.out.trans (hb.mono HA.out.size))
        have hun : u.length ≤ 1048576 := by omega
        clear hb huo huin HA
        obtain ⟨x', y', fine, hnear⟩ : ∃ x' y' fine, NearIs u r q x' y' fine := ⟨_, _, _, rfl, rfl, rfl⟩
        have HNR := Lib.hid hnear; clear hnear
        go_wp2_with fail
        refine (implNear_is u U dU r q n1 HU1.out hun HUO.out hucap x' y' fine HNR).mono ?_
        rintro e n2 ⟨rfl, hb⟩
        have HU2 := Lib.hid (HU1.out.next hb)
        have HA2 := Lib.hid (HA1.out.trans (hb.mono HA1.out.size))
        clear hb HU1 HA1
        go_wp2_with fail
        refine (specNear_is u U dU r q n2 HU2.out hun HUO.out hucap x' y' fine HNR).mono ?_
        rintro e n3 ⟨rfl, hb⟩
        have HU3 := Lib.hid (HU2.out.next hb)
        have HA3 := Lib.hid (HA2.out.trans (hb.mono HA2.out.size))
        clear hb HU2 HA2
        cases fine
        · go_wp2
          go_ret
          exact ⟨rfl, HA3.out⟩
        · go_wp2
          go_loopw [202] (fun i wr => ∃ (k : Nat), k ≤ u.length ∧ i = .int .i64 k ∧ Below n3.heap.size n3 wr) (fun i _ => u.length - (intOf i).toNat)
          case atStart => exact ⟨0, Nat.zero_le _, rfl, Below.refl _ _⟩
          case round =>
            obtain ⟨k, hk, rfl, hb⟩ := hrel
            by_cases hlt : k < u.length
            · obtain ⟨gb, off, rfl, hbl, hc⟩ := HU3.out (by omega)
              obtain ⟨hc0, hc1, hc2, hc3⟩ := hc k hlt
              clear hc
              rw [← hb.cell (p := ⟨gb, off + k * 4, none⟩) hbl] at hc0
              rw [← hb.cell (p := ⟨gb, off + k * 4 + 1, none⟩) hbl] at hc1
              rw [← hb.cell (p := ⟨gb, off + k * 4 + 2, none⟩) hbl] at hc2
              rw [← hb.cell (p := ⟨gb, off + k * 4 + 3, none⟩) hbl] at hc3
              have hno := near_no HNR.out hlt
              have hk1 : (k : Int) < (u.length : Int) := by omega
              have HBE := Lib.hid (hb.alloc hb.size (.cells #[.string u[k].cod, .int .i64 u[k].row, .int .i64 u[k].col, .int .i64 u[k].cnt] 26))
              clear hb
              generalize u[k].cod = t0 at *; generalize u[k].row = t1 at *; generalize u[k].col = t2 at *; generalize u[k].cnt = t3 at *
              by_cases e1 : t1 = (x' : Int)
              · have e2 : (t2 == (y' : Int)) = false := by rw [beq_eq_false_iff_ne]; exact fun h => hno ⟨e1, h⟩
                have e1' : (t1 == (x' : Int)) = true := by rw [beq_iff_eq]; exact e1
                clear hno e1
                go_wp2
                go_roundw
                case rel => exact ⟨k + 1, by omega, by go_num, HBE.out⟩
                case measure => simp [intOf]; omega
              · have e1' : (t1 == (x' : Int)) = false := by rw [beq_eq_false_iff_ne]; exact e1
                clear hno e1
                go_wp2
                go_roundw
                case rel => exact ⟨k + 1, by omega, by go_num, HBE.out⟩
                case measure => simp [intOf]; omega
            · obtain rfl : k = u.length := by omega
              go_wp2
              go_ret
              exact ⟨rfl, HA3.out.trans (hb.mono HA3.out.size)⟩

set_option maxRecDepth 100000 in
theorem lifted (os : Os) (started : os.Started) (H : Type) (enc : TypeId × Value → H) :
    ReturnsInHanded {} Try.checked os 13 .any (Rows.fnHandWaysSpec.pre6 enc Try.prog Try.f13 Rows.fnHandWaysRow.domain false) (Rows.fnHandWaysSpec.post enc Try.prog Try.f13 false true false false) := by
  refine returnsInHanded_of_change (C := Try.checked) own started (by kernel_rfl) Try.func13
    (ChangeSpec.witness6 (enc := enc) (C := Try.checked) false ⟨#[], #[.slice none 0 0, .slice none 0 0], []⟩ 8 (by kernel_rfl) (by kernel_rfl) (by kernel_rfl) (by kernel_rfl)) ?_
  intro W base args ds gs before hval0 hW hcnd _
  have hval : ∀ (j : Nat) t v, Try.f13.params[j]? = some t → args[j]? = some v → Value.okWide Try.prog W .any base t v := hval0
  have hW' := hW
  obtain ⟨p, q, hA0, hV, rfl, hfz, hnd⟩ := hW
  have hA : DataW.TrodAll enc Try.prog W 0 (fun _ => true) true Try.f13.params.toList args.toList ds p := hA0
  rw [Try.params13] at hA hval
  obtain ⟨v0, vs0, d0, ds0, p0, q0, hargs, rfl, rfl, h0, r0⟩ := trodAll_cons hA
  obtain ⟨v1, vs1, d1, ds1, p1, q1, rfl, rfl, rfl, h1, r1⟩ := trodAll_cons r0
  obtain ⟨rfl, rfl, rfl⟩ := trodAll_nil r1
  obtain rfl : args = #[v0, v1] := by cases args; simp_all
  obtain ⟨rfl, rfl⟩ := trodVars_none hV
  have k0 := h0
  have lt0 : ∀ x ∈ p0, x.block < W.heap.size := by obtain ⟨m, hm⟩ := k0; exact DataW.trod_lt m _ _ _ hm
  have k1 := h1
  have lt1 : ∀ x ∈ p1, x.block < W.heap.size := by obtain ⟨m, hm⟩ := k1; exact DataW.trod_lt m _ _ _ hm
  obtain ⟨A0, f0, c0, rfl, hs0, hl0⟩ := open_bytes (hval 0 55 v0 rfl rfl) h0
  obtain ⟨A1, f1, c1, rfl, hs1, hl1⟩ := open_bytes (hval 1 55 v1 rfl rfl) h1
  clear hA0 hval0
  refine (walk A0 f0 c0 A1 f1 c1 W hs0 hl0 hs1 hl1).mono fun e W' ⟨he, bel⟩ => ?_
  subst he
  exact ⟨_, rfl, _, _, _, [], _, [], hW', trodAll_mk1 (shut_bool Try.underlying4 _), (trodAll_cons_mk (Below.trod laidOut (by kernel_rfl) (of_decide_eq_true (by kernel_rfl)) k0 bel lt0) (trodAll_cons_mk (Below.trod laidOut (by kernel_rfl) (of_decide_eq_true (by kernel_rfl)) k1 bel lt1) trodAll_mk0)), rfl, bel.frame _, fun h => by cases h⟩

theorem over : Rows.fnHandWaysRow.holds Try.pinned (OpenSpec.ofChange Rows.fnHandWaysSpec) :=
  OpenClaim.holds_of_wide 13 Try.f13 rfl rfl rfl rfl rfl rfl rfl ⟨rfl, rfl, rfl, rfl, rfl⟩ rfl rfl rfl rfl rfl (by kernel_rfl) Try.func13 (by kernel_rfl)
    (of_decide_eq_true (by kernel_rfl)) (by unfold Func.isWrapper; first | (rw [if_pos (by decide +kernel)]; kernel_rfl) | (rw [if_neg (by decide +kernel)]; exact ⟨rfl, rfl⟩))
    (fun os started H enc _ => lifted os started H enc)

theorem proved : Rows.FnHandWaysSaid := over
end Go.Proofs.Ytllafkeheppkjaa.fnHandWays
