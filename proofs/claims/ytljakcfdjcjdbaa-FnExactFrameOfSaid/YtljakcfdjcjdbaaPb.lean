/-
  Stocks of slips in plain words, and the contracts of spec.ruSlip, ruGood, IsStock, ruLength and impl.IsStock, isRuleLength: each answers what the plain words here say and changes nothing that was there.
-/
import Derived.Test.YtljakcfdjcjdbaaPa
import Derived.Test.YtljakcfdjcjdbaaIn
import Derived.Test.YtljakcfdjcjdbaaTail
import Derived.IntWalk
namespace Go.Proofs.Ytljakcfdjcjdbaa
open Go.RowKit
set_option linter.unusedVariables false

theorem inBs_iff {a b c : Int} : inB a b c = true ↔ a ≤ c ∧ c ≤ b := by simp [inB]
/-- A slip. -/
def goodSl (x : Sl) : Bool := inB 1 200 x.len && inB 0 20 x.cnt
theorem goodSl_iff {x : Sl} : goodSl x = true ↔ (1 ≤ x.len ∧ x.len ≤ 200) ∧ 0 ≤ x.cnt ∧ x.cnt ≤ 20 := by unfold goodSl; rw [Bool.and_eq_true, inBs_iff, inBs_iff]
/-- The Length before number k. -/
def prvS (f : List Sl) : Nat → Int | 0 => 0 | k + 1 => (f.getD k ⟨0, 0⟩).len
theorem prvS_succ {f : List Sl} {j : Nat} (h : j < f.length) : prvS f (j + 1) = f[j].len := by show (f.getD j ⟨0, 0⟩).len = _; rw [List.getD_eq_getElem?_getD, List.getElem?_eq_getElem h]; rfl
/-- Number k may stand behind those before it. -/
def StpS (f : List Sl) (k : Nat) (h : k < f.length) : Prop := (prvS f k < f[k].len ∧ f[k].len ≤ 200) ∧ 0 ≤ f[k].cnt ∧ f[k].cnt ≤ 20
def RsS (f : List Sl) (k : Nat) : Prop := ∀ j (h : j < f.length), j < k → StpS f j h
theorem RsS.start (f : List Sl) : RsS f 0 := fun _ _ h => absurd h (by omega)
theorem RsS.succ {f : List Sl} {k : Nat} (h : RsS f k) (hk : k < f.length) (h1 : StpS f k hk) : RsS f (k + 1) := fun j hj hjk => by
  rcases Nat.lt_or_ge j k with h3 | h3
  · exact h j hj h3
  · obtain rfl : j = k := by omega
    exact h1
theorem RsS.pos {f : List Sl} {k : Nat} (h : RsS f k) : ∀ j (hj : j < f.length), j < k → 1 ≤ f[j].len
  | 0, hj, hjk => by have := (h 0 hj hjk).1.1; have e : prvS f 0 = 0 := rfl; omega
  | j + 1, hj, hjk => by
    have h1 := (h (j + 1) hj hjk).1.1
    have h2 := h.pos j (by omega) (by omega)
    rw [prvS_succ (by omega)] at h1
    omega
theorem RsS.prv {f : List Sl} {k : Nat} (h : RsS f k) (hk : k ≤ f.length) : 0 ≤ prvS f k ∧ prvS f k ≤ 200 := by
  cases k with
  | zero => exact ⟨Int.le_refl _, by show (0 : Int) ≤ 200; omega⟩
  | succ j => rw [prvS_succ (by omega)]; have := h.pos j (by omega) (by omega); have := (h j (by omega) (by omega)).1.2; omega
theorem RsS.no {f : List Sl} {k : Nat} (hk : k < f.length) (h : ¬ StpS f k hk) : ¬ RsS f f.length := fun hr => h (hr k hk hk)
/-- A stock. -/
structure GoodS (f : List Sl) : Prop where
  eight : f.length ≤ 8
  rise : RsS f f.length
open Classical in
noncomputable def stkB (f : List Sl) : Bool := decide (GoodS f)
theorem stkB_iff {f : List Sl} : stkB f = true ↔ GoodS f := by unfold stkB; exact @decide_eq_true_iff _ (Classical.propDecidable _)
theorem stkB_no {f : List Sl} (h : ¬ GoodS f) : stkB f = false := by cases hb : stkB f with | false => rfl | true => exact absurd (stkB_iff.1 hb) h
theorem stkB_noR {f : List Sl} (h : ¬ RsS f f.length) : stkB f = false := stkB_no fun g => h g.rise
theorem stkB_yes {f : List Sl} (h : RsS f f.length) (h8 : f.length ≤ 8) : stkB f = true := stkB_iff.2 ⟨h8, h⟩
theorem GoodS.at_ {f : List Sl} (h : GoodS f) {j : Nat} (hj : j < f.length) : goodSl f[j] = true := by
  have h1 := h.rise j hj hj
  have h2 := h.rise.pos j hj hj
  exact goodSl_iff.2 ⟨⟨h2, h1.1.2⟩, h1.2⟩
theorem GoodS.bd {f : List Sl} (h : GoodS f) {j : Nat} (hj : j < f.length) : (1 ≤ f[j].len ∧ f[j].len ≤ 200) ∧ 0 ≤ f[j].cnt ∧ f[j].cnt ≤ 20 := goodSl_iff.1 (h.at_ hj)
theorem GoodS.lt {f : List Sl} (h : GoodS f) : ∀ {i j : Nat} (hj : j < f.length) (hij : i < j), (f[i]'(by omega)).len < f[j].len
  | i, 0, hj, hij => absurd hij (by omega)
  | i, j + 1, hj, hij => by
    have h1 := (h.rise (j + 1) hj hj).1.1
    rw [prvS_succ (by omega)] at h1
    rcases Nat.lt_or_ge i j with h2 | h2
    · have := h.lt (i := i) (j := j) (by omega) h2; omega
    · obtain rfl : i = j := by omega
      exact h1
theorem GoodS.inj {f : List Sl} (h : GoodS f) {i j : Nat} (hi : i < f.length) (hj : j < f.length) (e : f[i].len = f[j].len) : i = j := by
  rcases Nat.lt_trichotomy i j with h1 | h1 | h1
  · have := h.lt hj h1; omega
  · exact h1
  · have := h.lt hi h1; omega
theorem ret_ib {a a' : Int} {b b' : Bool} (h1 : a = a') (h2 : b = b') : Ending.returned (.tuple #[.int .i64 a, .bool b]) = .returned (.tuple #[.int .i64 a', .bool b']) := by rw [h1, h2]
theorem ret_vb {v : Value} {b b' : Bool} (h2 : b = b') : Ending.returned (.tuple #[v, .bool b]) = .returned (.tuple #[v, .bool b']) := by rw [h2]

theorem ruSlip_any (s : Sl) (w : World) :
    Calls Try.prog 72 #[.agg #[.int .i64 s.len, .int .i64 s.cnt]] w fun e w' => e = .returned (.bool (goodSl s)) ∧ Below w.heap.size w w' := by
  have HB : Hid (Below w.heap.size w (w.alloc (.cells #[.int .i64 s.len, .int .i64 s.cnt] 57))) := Lib.hid ((Below.refl _ _).alloc (Nat.le_refl _) _)
  go_enter Try.func72, Try.ntmps72
  go_wp2_with fail
  refine (l1In_any _ _ _ _).mono ?_
  rintro e w' ⟨rfl, rfl⟩
  cases h : inB 1 200 s.len
  · have H := Lib.hid h; clear h
    go_wp2
    go_ret
    exact ⟨ret_bool (by unfold goodSl; rw [H.out]; rfl), HB.out⟩
  · have H := Lib.hid h; clear h
    go_wp2_with fail
    refine (l1In_any _ _ _ _).mono ?_
    rintro e w' ⟨rfl, rfl⟩
    go_wp2
    go_ret
    exact ⟨ret_bool (by unfold goodSl; rw [H.out]; rfl), HB.out⟩
theorem ruSlip_is {b : Bool} (s : Sl) (w : World) (h : goodSl s = b) :
    Calls Try.prog 72 #[.agg #[.int .i64 s.len, .int .i64 s.cnt]] w fun e w' => e = .returned (.bool b) ∧ Below w.heap.size w w' := h ▸ ruSlip_any s w
theorem ruLength_any (a : Int) (w : World) : Calls Try.prog 52 #[.int .i64 a] w fun e w' => e = .returned (.bool (inB 1 400 a)) ∧ w = w' := by
  go_enter Try.func52, Try.ntmps52
  go_wp2_with fail
  refine (l1In_any _ _ _ _).mono ?_
  rintro e w' ⟨rfl, rfl⟩
  go_wp2
  go_ret
  exact ⟨rfl, rfl⟩
theorem isRuleLength_any (a : Int) (w : World) : Calls Try.prog 59 #[.int .i64 a] w fun e w' => e = .returned (.bool (inB 1 400 a)) ∧ w = w' := by
  by_cases h1 : (1 : Int) ≤ a <;> by_cases h2 : a ≤ 400 <;>
  · go_enter Try.func59, Try.ntmps59
    go_wp2
    go_ret
    exact ⟨by simp [inB, h1, h2], rfl⟩
set_option maxRecDepth 100000 in
set_option maxHeartbeats 1000000 in
theorem implIsStock_any (f : List Sl) (A : Option Addr) (c : Nat) (w : World) (hf : SlsIn w A f) (hn : f.length ≤ 1048576) :
    Calls Try.prog 17 #[.slice A f.length c] w fun e w' => e = .returned (.bool (stkB f)) ∧ Below w.heap.size w w' := by
  have HF := Lib.hid hf; clear hf
  by_cases hl : 8 < f.length
  · have HV : Hid (stkB f = false) := Lib.hid (stkB_no fun g => by have := g.eight; omega)
    have h1 : (8 : Int) < (f.length : Int) := by omega
    go_enter Try.func17, Try.ntmps17
    go_wp2
    go_ret
    exact ⟨ret_bool HV.out.symm, Below.refl _ _⟩
  have h1 : ¬ (8 : Int) < (f.length : Int) := by omega
  go_enter Try.func17, Try.ntmps17
  go_wp2
  go_loopw [3, 11] (fun q i wr => ∃ k : Nat, k ≤ f.length ∧ i = .int .i64 k ∧ q = .int .i64 (prvS f k) ∧ RsS f k ∧ Below w.heap.size w wr) (fun _ i _ => f.length - (intOf i).toNat)
  case atStart => exact ⟨0, Nat.zero_le _, rfl, rfl, RsS.start f, Below.refl _ _⟩
  case round =>
    obtain ⟨k, hk, rfl, rfl, hs, hb⟩ := hrel
    have HS := Lib.hid hs; clear hs
    by_cases hlt : k < f.length
    · obtain ⟨b, off, rfl, hbl, hc⟩ := HF.out (by omega)
      obtain ⟨hc0, hc1⟩ := hc k hlt
      clear hc
      rw [← hb.cell (p := ⟨b, off + k * 2, none⟩) hbl] at hc0; rw [← hb.cell (p := ⟨b, off + k * 2 + 1, none⟩) hbl] at hc1
      have HNX := Lib.hid (HS.out.succ hlt)
      have HNO := Lib.hid (fun h => stkB_noR (RsS.no hlt h))
      have HPS := Lib.hid (prvS_succ hlt)
      have HB := Lib.hid (hb.alloc hb.size (.cells #[.int .i64 f[k].len, .int .i64 f[k].cnt] 57))
      unfold StpS at HNX HNO
      generalize hy : prvS f k = y at *
      rcases hxx : f[k] with ⟨p, q⟩
      rw [hxx] at HNX HNO HPS HB hc0 hc1
      simp only at HNX HNO HPS HB hc0 hc1
      clear hy hxx hb
      rcases (by omega : ((y < p ∧ p ≤ 200) ∧ 0 ≤ q ∧ q ≤ 20) ∨ p ≤ y ∨ (y < p ∧ 200 < p) ∨ ((y < p ∧ p ≤ 200) ∧ q < 0) ∨ ((y < p ∧ p ≤ 200) ∧ 0 ≤ q ∧ 20 < q)) with ⟨⟨h1, h2⟩, h3, h4⟩ | h1 | ⟨h1, h2⟩ | ⟨⟨h1, h2⟩, h3⟩ | ⟨⟨h1, h2⟩, h3, h4⟩
      · have HR := Lib.hid (HNX.out ⟨⟨h1, h2⟩, h3, h4⟩)
        go_wp2
        go_roundw
        case rel => exact ⟨k + 1, by omega, by go_num, by rw [HPS.out], HR.out, HB.out⟩
        case measure => simp [intOf]; omega
      all_goals
        have HR := Lib.hid (HNO.out (by omega))
        go_wp2
        go_ret
        exact ⟨ret_bool HR.out.symm, HB.out⟩
    · obtain rfl : k = f.length := by omega
      go_wp2
      go_ret
      exact ⟨ret_bool (stkB_yes HS.out (by omega)).symm, hb⟩
set_option maxRecDepth 100000 in
set_option maxHeartbeats 2000000 in
theorem ruGood_any (f : List Sl) (A : Option Addr) (c : Nat) (w : World) (hf : SlsIn w A f) (hn : f.length ≤ 1048576) :
    Calls Try.prog 48 #[.slice A f.length c] w fun e w' => e = .returned (.bool (stkB f)) ∧ Below w.heap.size w w' := by
  have HF := Lib.hid hf; clear hf
  go_enter Try.func48, Try.ntmps48
  go_wp2
  go_loopw [7] (fun i wr => ∃ k : Nat, k ≤ f.length ∧ i = .int .i64 k ∧ RsS f k ∧ Below w.heap.size w wr) (fun i _ => f.length - (intOf i).toNat)
  case atStart => exact ⟨0, Nat.zero_le _, rfl, RsS.start f, Below.refl _ _⟩
  case round =>
    obtain ⟨k, hk, rfl, hs, hb⟩ := hrel
    have HS := Lib.hid hs; clear hs
    by_cases hlt : k < f.length
    · obtain ⟨b, off, rfl, hbl, hc⟩ := HF.out (by omega)
      obtain ⟨hc0, hc1⟩ := hc k hlt
      rw [← hb.cell (p := ⟨b, off + k * 2, none⟩) hbl] at hc0; rw [← hb.cell (p := ⟨b, off + k * 2 + 1, none⟩) hbl] at hc1
      have HNX := Lib.hid (HS.out.succ hlt)
      have HNO := Lib.hid (fun h => stkB_noR (RsS.no hlt h))
      have HPV := Lib.hid (HS.out.prv hk)
      unfold StpS at HNX HNO
      cases k with
      | zero =>
        clear hc
        have e : prvS f 0 = 0 := rfl
        rw [e] at HNX HNO
        rw [Nat.zero_mul, Nat.add_zero] at hc0 hc1
        rcases hxx : f[0] with ⟨p, q⟩
        rw [hxx] at HNX HNO hc0 hc1
        simp only at HNX HNO hc0 hc1
        clear hxx e
        cases hg : goodSl ⟨p, q⟩
        · have HG := Lib.hid hg
          have hG : ¬ ((1 ≤ p ∧ p ≤ 200) ∧ 0 ≤ q ∧ q ≤ 20) := fun h => by rw [goodSl_iff.2 h] at hg; cases hg
          clear hg
          go_wp2_with fail
          obtain ⟨W0, hW0⟩ : ∃ W0 : World, W0 = wr.alloc (.cells #[.int .i64 p, .int .i64 q] 57) := ⟨_, rfl⟩
          rw [← hW0]
          have s0 : W0.cell? ⟨wr.heap.size, 0, none⟩ = some (.int .i64 p) := by rw [hW0]; simp
          have s1 : W0.cell? ⟨wr.heap.size, 1, none⟩ = some (.int .i64 q) := by rw [hW0]; simp
          have hb0 : Below w.heap.size w W0 := by rw [hW0]; exact hb.alloc hb.size _
          have hz0 : wr.heap.size < W0.heap.size := by rw [hW0]; simp
          have hal : Below wr.heap.size wr W0 := by rw [hW0]; exact (Below.refl _ _).alloc (Nat.le_refl _) _
          have x0 := KeptW.cell s0 hz0
          have x1 := KeptW.cell s1 hz0
          have HR := Lib.hid (HNO.out (by omega))
          have HB0 := Lib.hid hb0
          clear hW0 hb0 hb s0 s1 hc0 hc1 hal
          refine region_kept W0.heap.size (by kernel_rfl) (by kernel_rfl) ?_
          repeat (go_big_quiet_step ((go_at_call 72; exact kept_call _ (Nat.le_refl _) (ruSlip_is ⟨p, q⟩ _ HG.out))))
          refine wpQuiet_nil ?_
          intro w1 hb1
          have HB1 := Lib.hid (HB0.out.trans (hb1.mono HB0.out.size))
          clear hb1 HB0 x0 x1
          go_wp2
          go_ret
          exact ⟨ret_bool HR.out.symm, HB1.out⟩
        · have HG := Lib.hid hg
          have hG : (1 ≤ p ∧ p ≤ 200) ∧ 0 ≤ q ∧ q ≤ 20 := goodSl_iff.1 hg
          have HR := Lib.hid (HNX.out (by omega))
          clear hg hG
          go_wp2_with fail
          obtain ⟨W0, hW0⟩ : ∃ W0 : World, W0 = wr.alloc (.cells #[.int .i64 p, .int .i64 q] 57) := ⟨_, rfl⟩
          rw [← hW0]
          have s0 : W0.cell? ⟨wr.heap.size, 0, none⟩ = some (.int .i64 p) := by rw [hW0]; simp
          have s1 : W0.cell? ⟨wr.heap.size, 1, none⟩ = some (.int .i64 q) := by rw [hW0]; simp
          have hb0 : Below w.heap.size w W0 := by rw [hW0]; exact hb.alloc hb.size _
          have hz0 : wr.heap.size < W0.heap.size := by rw [hW0]; simp
          have hal : Below wr.heap.size wr W0 := by rw [hW0]; exact (Below.refl _ _).alloc (Nat.le_refl _) _
          have x0 := KeptW.cell s0 hz0
          have x1 := KeptW.cell s1 hz0
          have hd : decide ((0 : Int) > 0) = false := by decide
          have HB0 := Lib.hid hb0
          clear hW0 hb0 hb s0 s1 hc0 hc1 hal
          refine region_kept W0.heap.size (by kernel_rfl) (by kernel_rfl) ?_
          repeat (go_big_quiet_step ((go_at_call 72; exact kept_call _ (Nat.le_refl _) (ruSlip_is ⟨p, q⟩ _ HG.out))))
          refine wpQuiet_nil ?_
          intro w1 hb1
          have HB1 := Lib.hid (HB0.out.trans (hb1.mono HB0.out.size))
          clear hb1 HB0 x0 x1
          go_wp2
          go_roundw
          case rel => exact ⟨1, by omega, by go_num, HR.out, HB1.out⟩
          case measure => simp [intOf]; omega
      | succ j =>
        obtain ⟨hd0, hd1⟩ := hc j (by omega)
        clear hc
        rw [← hb.cell (p := ⟨b, off + j * 2, none⟩) hbl] at hd0
        clear hd1
        rw [prvS_succ (show j < f.length by omega)] at HNX HNO HPV
        have hix : ((j + 1 : Nat) : Int) - 1 = (j : Int) := by omega
        have hj1 : (0 : Int) < ((j + 1 : Nat) : Int) := by omega
        generalize hy : f[j].len = y at *
        rcases hxx : f[j + 1] with ⟨p, q⟩
        rw [hxx] at HNX HNO hc0 hc1
        simp only at HNX HNO hc0 hc1
        clear hxx hy
        cases hg : goodSl ⟨p, q⟩
        · have HG := Lib.hid hg
          have hG : ¬ ((1 ≤ p ∧ p ≤ 200) ∧ 0 ≤ q ∧ q ≤ 20) := fun h => by rw [goodSl_iff.2 h] at hg; cases hg
          clear hg
          go_wp2_with fail
          obtain ⟨W0, hW0⟩ : ∃ W0 : World, W0 = wr.alloc (.cells #[.int .i64 p, .int .i64 q] 57) := ⟨_, rfl⟩
          rw [← hW0]
          have s0 : W0.cell? ⟨wr.heap.size, 0, none⟩ = some (.int .i64 p) := by rw [hW0]; simp
          have s1 : W0.cell? ⟨wr.heap.size, 1, none⟩ = some (.int .i64 q) := by rw [hW0]; simp
          have hb0 : Below w.heap.size w W0 := by rw [hW0]; exact hb.alloc hb.size _
          have hz0 : wr.heap.size < W0.heap.size := by rw [hW0]; simp
          have hal : Below wr.heap.size wr W0 := by rw [hW0]; exact (Below.refl _ _).alloc (Nat.le_refl _) _
          have x0 := KeptW.cell s0 hz0
          have x1 := KeptW.cell s1 hz0
          have HR := Lib.hid (HNO.out (by have := HPV.out; omega))
          have HB0 := Lib.hid hb0
          clear hW0 hb0 hb s0 s1 hc0 hc1 hal
          refine region_kept W0.heap.size (by kernel_rfl) (by kernel_rfl) ?_
          repeat (go_big_quiet_step ((go_at_call 72; exact kept_call _ (Nat.le_refl _) (ruSlip_is ⟨p, q⟩ _ HG.out))))
          refine wpQuiet_nil ?_
          intro w1 hb1
          have HB1 := Lib.hid (HB0.out.trans (hb1.mono HB0.out.size))
          clear hb1 HB0 x0 x1
          go_wp2
          go_ret
          exact ⟨ret_bool HR.out.symm, HB1.out⟩
        · have HG := Lib.hid hg
          have hG : (1 ≤ p ∧ p ≤ 200) ∧ 0 ≤ q ∧ q ≤ 20 := goodSl_iff.1 hg
          clear hg
          have hd : decide (((j + 1 : Nat) : Int) > 0) = true := decide_eq_true (by omega)
          by_cases hyp : p ≤ y
          · have hde : decide (y ≥ p) = true := decide_eq_true hyp
            go_wp2_with fail
            obtain ⟨W0, hW0⟩ : ∃ W0 : World, W0 = wr.alloc (.cells #[.int .i64 p, .int .i64 q] 57) := ⟨_, rfl⟩
            rw [← hW0]
            have s0 : W0.cell? ⟨wr.heap.size, 0, none⟩ = some (.int .i64 p) := by rw [hW0]; simp
            have s1 : W0.cell? ⟨wr.heap.size, 1, none⟩ = some (.int .i64 q) := by rw [hW0]; simp
            have hb0 : Below w.heap.size w W0 := by rw [hW0]; exact hb.alloc hb.size _
            have hz0 : wr.heap.size < W0.heap.size := by rw [hW0]; simp
            have hal : Below wr.heap.size wr W0 := by rw [hW0]; exact (Below.refl _ _).alloc (Nat.le_refl _) _
            have x0 := KeptW.cell s0 hz0
            have x1 := KeptW.cell s1 hz0
            have xp := KeptW.cell ((hal.cell (p := ⟨b, off + j * 2, none⟩) (show b < wr.heap.size by have := hb.size; omega)).trans hd0) (show b < W0.heap.size by have := hb.size; omega)
            clear hd0
            have HR := Lib.hid (HNO.out (by omega))
            have HB0 := Lib.hid hb0
            clear hW0 hb0 hb s0 s1 hc0 hc1 hal
            refine region_kept W0.heap.size (by kernel_rfl) (by kernel_rfl) ?_
            repeat (go_big_quiet_step ((go_at_call 72; exact kept_call _ (Nat.le_refl _) (ruSlip_is ⟨p, q⟩ _ HG.out))))
            refine wpQuiet_nil ?_
            intro w1 hb1
            have HB1 := Lib.hid (HB0.out.trans (hb1.mono HB0.out.size))
            clear hb1 HB0 x0 x1
            go_wp2
            go_ret
            exact ⟨ret_bool HR.out.symm, HB1.out⟩
          · have hde : decide (y ≥ p) = false := decide_eq_false hyp
            have HR := Lib.hid (HNX.out (by omega))
            go_wp2_with fail
            obtain ⟨W0, hW0⟩ : ∃ W0 : World, W0 = wr.alloc (.cells #[.int .i64 p, .int .i64 q] 57) := ⟨_, rfl⟩
            rw [← hW0]
            have s0 : W0.cell? ⟨wr.heap.size, 0, none⟩ = some (.int .i64 p) := by rw [hW0]; simp
            have s1 : W0.cell? ⟨wr.heap.size, 1, none⟩ = some (.int .i64 q) := by rw [hW0]; simp
            have hb0 : Below w.heap.size w W0 := by rw [hW0]; exact hb.alloc hb.size _
            have hz0 : wr.heap.size < W0.heap.size := by rw [hW0]; simp
            have hal : Below wr.heap.size wr W0 := by rw [hW0]; exact (Below.refl _ _).alloc (Nat.le_refl _) _
            have x0 := KeptW.cell s0 hz0
            have x1 := KeptW.cell s1 hz0
            have xp := KeptW.cell ((hal.cell (p := ⟨b, off + j * 2, none⟩) (show b < wr.heap.size by have := hb.size; omega)).trans hd0) (show b < W0.heap.size by have := hb.size; omega)
            clear hd0
            have HB0 := Lib.hid hb0
            clear hW0 hb0 hb s0 s1 hc0 hc1 hal
            refine region_kept W0.heap.size (by kernel_rfl) (by kernel_rfl) ?_
            repeat (go_big_quiet_step ((go_at_call 72; exact kept_call _ (Nat.le_refl _) (ruSlip_is ⟨p, q⟩ _ HG.out))))
            refine wpQuiet_nil ?_
            intro w1 hb1
            have HB1 := Lib.hid (HB0.out.trans (hb1.mono HB0.out.size))
            clear hb1 HB0 x0 x1
            go_wp2
            go_roundw
            case rel => exact ⟨j + 1 + 1, by omega, by go_num, HR.out, HB1.out⟩
            case measure => simp [intOf]; omega
    · obtain rfl : k = f.length := by omega
      have e : decide ((f.length : Int) ≤ 8) = stkB f := by
        by_cases h8 : f.length ≤ 8
        · rw [stkB_yes HS.out h8, decide_eq_true (by omega)]
        · rw [stkB_no (fun g => h8 g.eight), decide_eq_false (by omega)]
      have HE := Lib.hid e; clear e
      go_wp2
      go_ret
      exact ⟨ret_bool (by first | exact HE.out | rfl), hb⟩
theorem specIsStock_any (f : List Sl) (A : Option Addr) (c : Nat) (w : World) (hf : SlsIn w A f) (hn : f.length ≤ 1048576) :
    Calls Try.prog 15 #[.slice A f.length c] w fun e w' => e = .returned (.bool (stkB f)) ∧ Below w.heap.size w w' := by
  have HF := Lib.hid hf; clear hf
  go_enter Try.func15, Try.ntmps15
  go_wp2_with fail
  refine (ruGood_any f A c _ HF.out hn).mono ?_
  rintro e w1 ⟨rfl, hb⟩
  go_wp2
  go_ret
  exact ⟨rfl, hb⟩
end Go.Proofs.Ytljakcfdjcjdbaa
