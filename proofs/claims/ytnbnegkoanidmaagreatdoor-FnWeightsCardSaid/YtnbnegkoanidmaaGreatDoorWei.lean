/-
  The contracts of WeightOfTypes, in spec and in impl: each answers what the plain words here say and changes nothing that was there.
-/
import Derived.Test.YtnbnegkoanidmaaGreatDoorMsi
namespace Go.Proofs.YtnbnegkoanidmaaGreatDoor.S1
open Go.RowKit
set_option linter.unusedVariables false

theorem mul_bd {x z a b : Int} (h0 : 0 ≤ x) (h1 : x ≤ a) (g0 : 0 ≤ z) (g1 : z ≤ b) : 0 ≤ x * z ∧ x * z ≤ a * b :=
  ⟨Int.mul_nonneg h0 g0, Int.mul_le_mul h1 g1 g0 (by omega)⟩
def sumW (f : List (ByteArray × Int)) (cs : List Int) : Nat → Int
  | 0 => 0
  | k + 1 => sumW f cs k + cs.getD k 0 * widthAt f k
theorem sumW_succ {f : List (ByteArray × Int)} {cs : List Int} {k : Nat} (h : k < cs.length) (hf : k < f.length) : sumW f cs (k + 1) = sumW f cs k + cs[k] * f[k].2 := by
  simp only [sumW]
  rw [widthAt_of hf, List.getD_eq_getElem?_getD, List.getElem?_eq_getElem h]; rfl
noncomputable def weiV (f : List (ByteArray × Int)) (cs : List Int) (body : Int) : Option Int := if fontB f && stockB f cs && inB 1 72 body then some ((sumW f cs cs.length * body + 99) / 100) else none
theorem wei_no {f : List (ByteArray × Int)} {cs : List Int} {body : Int} (h : (fontB f && stockB f cs && inB 1 72 body) = false) : weiV f cs body = none := by unfold weiV; rw [h]; rfl
theorem wei_yes {f : List (ByteArray × Int)} {cs : List Int} {body : Int} (h : (fontB f && stockB f cs && inB 1 72 body) = true) : weiV f cs body = some ((sumW f cs cs.length * body + 99) / 100) := by unfold weiV; rw [h]; rfl
theorem ret2i {a b : Int} {c d : Bool} (h1 : a = b) (h2 : c = d) : Ending.returned (.tuple #[.int .i64 a, .bool c]) = .returned (.tuple #[.int .i64 b, .bool d]) := by rw [h1, h2]

set_option maxRecDepth 100000 in
set_option maxHeartbeats 1000000 in
theorem specWei_any (f : List (ByteArray × Int)) (A : Option Addr) (c : Nat) (cs : List Int) (B : Option Addr) (d : Nat) (body : Int) (lo : Nat) (w : World) (hf : SortsIn w lo A f) (hn : f.length ≤ 1048576) (ho : CodesOk f) (hg : IntsIn w B cs) (hm : cs.length ≤ 1048576) :
    Calls Tryz.prog 15 #[.slice A f.length c, .slice B cs.length d, .int .i64 body] w fun e w' => e = .returned (.tuple #[.int .i64 ((weiV f cs body).getD 0), .bool (weiV f cs body).isSome]) ∧ Below w.heap.size w w' := by
  have HS := Lib.hid hf; clear hf
  have HO := Lib.hid ho; clear ho
  have HG := Lib.hid hg; clear hg
  go_enter Tryz.func15, Tryz.ntmps15
  go_wp2_with fail
  refine (tyFont_any f A c lo _ HS.out hn HO.out).mono ?_
  rintro e w1 ⟨rfl, hb1⟩
  have HG1 := Lib.hid (HG.out.below hb1 (Nat.le_refl _))
  have HS1 := Lib.hid (HS.out.below hb1 (Nat.le_refl _))
  cases hv : fontB f
  · have HN : Hid (weiV f cs body = none) := Lib.hid (wei_no (by rw [hv]; rfl))
    clear hv
    go_wp2
    go_ret2
    exact ⟨by rw [HN.out]; rfl, hb1⟩
  have HV := Lib.hid hv; clear hv
  cases hs : stockB f cs
  · have HN : Hid (weiV f cs body = none) := Lib.hid (wei_no (by rw [hs]; simp))
    have HH := Lib.hid hs; clear hs
    go_wp2_with fail
    refine (biStock_is f A c cs B d false _ HG1.out hn hm HH).mono ?_
    rintro e w2 ⟨rfl, rfl⟩
    go_wp2
    go_ret2
    exact ⟨by rw [HN.out]; rfl, hb1⟩
  have HH := Lib.hid hs; clear hs
  cases hi : inB 1 72 body
  · have HN : Hid (weiV f cs body = none) := Lib.hid (wei_no (by rw [hi]; simp))
    have HI := Lib.hid hi; clear hi
    go_wp2_with fail
    refine (biStock_is f A c cs B d true _ HG1.out hn hm HH).mono ?_
    rintro e w2 ⟨rfl, rfl⟩
    go_wp2_with fail
    refine (in_is body 1 72 false _ HI).mono ?_
    rintro e w2 ⟨rfl, rfl⟩
    go_wp2
    go_ret2
    exact ⟨by rw [HN.out]; rfl, hb1⟩
  have HY : Hid (weiV f cs body = some ((sumW f cs cs.length * body + 99) / 100)) := Lib.hid (wei_yes (by rw [HV.out, HH.out, hi]; rfl))
  have HI := Lib.hid hi
  have hb72 : 1 ≤ body ∧ body ≤ 72 := by simpa [inB] using hi
  obtain ⟨hb0, hb9⟩ := hb72
  clear hi
  have HFF := Lib.hid (fontB_iff.1 HV.out)
  have hn32 : f.length ≤ 32 := HFF.out.2.2
  have HL := Lib.hid (stock_parts HH.out).1
  have HA := Lib.hid (stock_parts HH.out).2
  go_wp2_with fail
  refine (biStock_is f A c cs B d true _ HG1.out hn hm HH).mono ?_
  rintro e w2 ⟨rfl, rfl⟩
  go_wp2_with fail
  refine (in_is body 1 72 true _ HI).mono ?_
  rintro e w2 ⟨rfl, rfl⟩
  go_wp2
  go_loop [8, 27] (fun q i => ∃ (k : Nat) (S : Int), k ≤ cs.length ∧ i = .int .i64 k ∧ q = .int .i64 S ∧ S = sumW f cs k * body ∧ 0 ≤ S ∧ S ≤ 388800000 * (k : Int)) (fun _ i => cs.length - (intOf i).toNat)
  case atStart => exact ⟨0, 0, Nat.zero_le _, rfl, rfl, by simp [sumW], by omega, by omega⟩
  case round =>
    obtain ⟨k, S, hk, rfl, rfl, hs, hs0, hs1⟩ := hrel
    have HSS := Lib.hid hs; clear hs
    have hk32 : k ≤ 32 := by have := HL.out; omega
    by_cases hlt : k < cs.length
    · have hkf : k < f.length := by have := HL.out; omega
      obtain ⟨b, off, rfl, hbl, hc⟩ := HG1.out (by omega)
      have hc0 := hc k hlt
      clear hc
      obtain ⟨b', off', rfl, _, hbl', hd⟩ := HS1.out (by omega)
      have hd1 := (hd k hkf).2
      clear hd
      have hx := allB_at hlt HA.out
      have hz := HFF.out.width hkf
      have HST := Lib.hid (sumW_succ hlt hkf)
      generalize cs[k] = x at *
      generalize f[k].2 = z at *
      have hm1 := mul_bd hx.1 hx.2 (by omega : (0 : Int) ≤ z) hz.2
      obtain ⟨m0, m1⟩ := hm1
      have hm2 := mul_bd m0 m1 (by omega : (0 : Int) ≤ body) hb9
      obtain ⟨n0, n1⟩ := hm2
      simp only [Int.reduceMul] at m1 n1
      go_wp2
      go_round
      case rel => exact ⟨k + 1, _, by omega, by go_num, rfl, by rw [HST.out, Int.add_mul, HSS.out], by omega, by omega⟩
      case measure => simp [intOf]; omega
    · obtain rfl : k = cs.length := by omega
      go_wp2
      go_ret2
      exact ⟨by rw [HY.out]; exact ret2i (by rw [HSS.out]; rfl) rfl, hb1⟩

set_option maxRecDepth 100000 in
set_option maxHeartbeats 1000000 in
theorem implWei_any (f : List (ByteArray × Int)) (A : Option Addr) (c : Nat) (cs : List Int) (B : Option Addr) (d : Nat) (body : Int) (lo : Nat) (w : World) (hf : SortsIn w lo A f) (hn : f.length ≤ 1048576) (ho : CodesOk f) (hg : IntsIn w B cs) (hm : cs.length ≤ 1048576) :
    Calls Tryz.prog 14 #[.slice A f.length c, .slice B cs.length d, .int .i64 body] w fun e w' => e = .returned (.tuple #[.int .i64 ((weiV f cs body).getD 0), .bool (weiV f cs body).isSome]) ∧ Below w.heap.size w w' := by
  have HS := Lib.hid hf; clear hf
  have HO := Lib.hid ho; clear ho
  have HG := Lib.hid hg; clear hg
  go_enter Tryz.func14, Tryz.ntmps14
  go_wp2_with fail
  refine (implIsFont_any f A c lo _ HS.out hn HO.out).mono ?_
  rintro e w1 ⟨rfl, hb1⟩
  have HG1 := Lib.hid (HG.out.below hb1 (Nat.le_refl _))
  have HS1 := Lib.hid (HS.out.below hb1 (Nat.le_refl _))
  cases hv : fontB f
  · have HN : Hid (weiV f cs body = none) := Lib.hid (wei_no (by rw [hv]; rfl))
    clear hv
    go_wp2
    go_ret2
    exact ⟨by rw [HN.out]; rfl, hb1⟩
  have HV := Lib.hid hv; clear hv
  cases hs : stockB f cs
  · have HN : Hid (weiV f cs body = none) := Lib.hid (wei_no (by rw [hs]; simp))
    have HH := Lib.hid hs; clear hs
    go_wp2_with fail
    refine (implStock_is f A c cs B d false _ HG1.out hn hm HH).mono ?_
    rintro e w2 ⟨rfl, rfl⟩
    go_wp2
    go_ret2
    exact ⟨by rw [HN.out]; rfl, hb1⟩
  have HH := Lib.hid hs; clear hs
  rcases (by omega : (1 ≤ body ∧ body ≤ 72) ∨ body < 1 ∨ (1 ≤ body ∧ 72 < body)) with ⟨hb0, hb9⟩ | hb0 | ⟨hb0, hb9⟩
  rotate_left
  · have HN : Hid (weiV f cs body = none) := Lib.hid (wei_no (by simp [inB]; omega))
    go_wp2_with fail
    refine (implStock_is f A c cs B d true _ HG1.out hn hm HH).mono ?_
    rintro e w2 ⟨rfl, rfl⟩
    go_wp2
    go_ret2
    exact ⟨by rw [HN.out]; rfl, hb1⟩
  · have HN : Hid (weiV f cs body = none) := Lib.hid (wei_no (by simp [inB]; omega))
    go_wp2_with fail
    refine (implStock_is f A c cs B d true _ HG1.out hn hm HH).mono ?_
    rintro e w2 ⟨rfl, rfl⟩
    go_wp2
    go_ret2
    exact ⟨by rw [HN.out]; rfl, hb1⟩
  have HY : Hid (weiV f cs body = some ((sumW f cs cs.length * body + 99) / 100)) := Lib.hid (wei_yes (by rw [HV.out, HH.out]; simp [inB]; omega))
  have HFF := Lib.hid (fontB_iff.1 HV.out)
  have hn32 : f.length ≤ 32 := HFF.out.2.2
  have HL := Lib.hid (stock_parts HH.out).1
  have HA := Lib.hid (stock_parts HH.out).2
  go_wp2_with fail
  refine (implStock_is f A c cs B d true _ HG1.out hn hm HH).mono ?_
  rintro e w2 ⟨rfl, rfl⟩
  go_wp2
  go_loop [8, 30] (fun q i => ∃ (k : Nat) (S : Int), k ≤ cs.length ∧ i = .int .i64 k ∧ q = .int .i64 S ∧ S = sumW f cs k ∧ 0 ≤ S ∧ S ≤ 5400000 * (k : Int)) (fun _ i => cs.length - (intOf i).toNat)
  case atStart => exact ⟨0, 0, Nat.zero_le _, rfl, rfl, by simp [sumW], by omega, by omega⟩
  case round =>
    obtain ⟨k, S, hk, rfl, rfl, hs, hs0, hs1⟩ := hrel
    have HSS := Lib.hid hs; clear hs
    have hk32 : k ≤ 32 := by have := HL.out; omega
    by_cases hlt : k < cs.length
    · have hkf : k < f.length := by have := HL.out; omega
      obtain ⟨b, off, rfl, hbl, hc⟩ := HG1.out (by omega)
      have hc0 := hc k hlt
      clear hc
      obtain ⟨b', off', rfl, _, hbl', hd⟩ := HS1.out (by omega)
      have hd1 := (hd k hkf).2
      clear hd
      have hx := allB_at hlt HA.out
      have hz := HFF.out.width hkf
      have HST := Lib.hid (sumW_succ hlt hkf)
      generalize cs[k] = x at *
      generalize f[k].2 = z at *
      have hm1 := mul_bd hx.1 hx.2 (by omega : (0 : Int) ≤ z) hz.2
      obtain ⟨m0, m1⟩ := hm1
      simp only [Int.reduceMul] at m1
      go_wp2
      go_round
      case rel => exact ⟨k + 1, _, by omega, by go_num, rfl, by rw [HST.out, HSS.out], by omega, by omega⟩
      case measure => simp [intOf]; omega
    · obtain rfl : k = cs.length := by omega
      obtain ⟨n0, n1⟩ := mul_bd hs0 (by omega : S ≤ 172800000) (by omega : (0 : Int) ≤ body) hb9
      simp only [Int.reduceMul] at n1
      go_wp2
      go_ret2
      exact ⟨by rw [HY.out]; exact ret2i (by rw [← HSS.out]; show _ = (S * body + 99) / 100; congr 1; omega) rfl, hb1⟩
end Go.Proofs.YtnbnegkoanidmaaGreatDoor.S1
