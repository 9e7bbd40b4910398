/-
  The contracts of impl.numbersOfSlips, StockLength and spec.StockLength; slices.Clone at slips; RestOfStock in spec (ruRest) and in impl.
-/
import Derived.Test.YtljakcfdjcjdbaaPc
import Derived.Test.YtljakcfdjcjdbaaVr
import Derived.BigRegion
import Derived.Deep.RegionLaw
import Derived.Deep.DeepCutAuto
import Derived.Lib.SliceRun
namespace Go.Proofs.Ytljakcfdjcjdbaa
open Go.RowKit
set_option linter.unusedVariables false

/-- The numbers g j for the first k, 0 behind. -/
def upF (g : Nat → Int) (k : Nat) : Nat → Value := fun j => .int .i64 (if j < k then g j else 0)
theorem upF_succ (g : Nat → Int) (k : Nat) : (fun j => if j = k then Value.int .i64 (g k) else upF g k j) = upF g (k + 1) := by
  funext j
  unfold upF
  by_cases h : j = k
  · subst h; rw [if_pos rfl, if_pos (by omega)]
  · rw [if_neg h]
    by_cases h2 : j < k
    · rw [if_pos h2, if_pos (by omega)]
    · rw [if_neg h2, if_neg (by omega)]
def lensF (f : List Sl) : Nat → Int := fun j => (f.getD j ⟨0, 0⟩).len
def cntsF (f : List Sl) : Nat → Int := fun j => (f.getD j ⟨0, 0⟩).cnt
/-- Two tables of their own: the Lengths and the Counts. -/
structure NumTo (w w' : World) (f : List Sl) (g h : Nat) : Prop where
  bel : Below w.heap.size w w'
  lo : w.heap.size ≤ g
  lo' : w.heap.size ≤ h
  ne : ¬ g = h
  l : Tb w' g 3 f.length (upF (lensF f) f.length)
  c : Tb w' h 3 f.length (upF (cntsF f) f.length)
theorem upF_zero (q : Nat → Int) : (fun (j : Nat) => Value.int .i64 0) = upF q 0 := by funext j; unfold upF; rw [if_neg (by omega)]
theorem twoT (w : World) (n : Nat) : Below w.heap.size w ((w.alloc (.cells (madeCells #[.int .i64 0] n) 3)).alloc (.cells (madeCells #[.int .i64 0] n) 3)).drew ∧ ¬ w.heap.size = w.heap.size + 1 ∧ ¬ w.heap.size + 1 = w.heap.size ∧ (∀ q, Tb ((w.alloc (.cells (madeCells #[.int .i64 0] n) 3)).alloc (.cells (madeCells #[.int .i64 0] n) 3)).drew w.heap.size 3 n (upF q 0)) ∧ (∀ q, Tb ((w.alloc (.cells (madeCells #[.int .i64 0] n) 3)).alloc (.cells (madeCells #[.int .i64 0] n) 3)).drew (w.heap.size + 1) 3 n (upF q 0)) := by
  have e : n = n * 1 := by omega
  refine ⟨(((Below.refl _ _).alloc (Nat.le_refl _) _).alloc (by simp) _).drew, by omega, by omega, fun q => ?_, fun q => ?_⟩
  · rw [← upF_zero q]
    have h := made_int w n 3
    rw [← e] at h
    exact (h.alloc _).next (Below.refl _ _).drew
  · rw [← upF_zero q]
    have h := made_int (w.alloc (.cells (madeCells #[.int .i64 0] n) 3)) n 3
    rw [World.size_alloc, ← e] at h
    exact h.next (Below.refl _ _).drew
set_option maxRecDepth 100000 in
set_option maxHeartbeats 4000000 in
theorem numbersOfSlips_any (f : List Sl) (A : Option Addr) (c : Nat) (w : World) (hf : SlsIn w A f) (hn : f.length ≤ 1048576) :
    Calls Try.prog 51 #[.slice A f.length c] w fun e w' => ∃ g h, e = .returned (.tuple #[.slice (some ⟨g, 0, none⟩) f.length f.length, .slice (some ⟨h, 0, none⟩) f.length f.length]) ∧ NumTo w w' f g h := by
  have HF := Lib.hid hf; clear hf
  have hmk := fun w => run_makeI f.length hn w
  go_enter Try.func51, Try.ntmps51
  go_wp2_with fail
  go_cut [4, 5] (fun s4 s5 wx => ∃ g h, s4 = .slice (some ⟨g, 0, none⟩) f.length f.length ∧ s5 = .slice (some ⟨h, 0, none⟩) f.length f.length ∧ Below w.heap.size w wx ∧ w.heap.size ≤ g ∧ w.heap.size ≤ h ∧ ¬ g = h ∧ ¬ h = g ∧ Tb wx g 3 f.length (upF (lensF f) 0) ∧ Tb wx h 3 f.length (upF (cntsF f) 0))
  case first =>
    obtain ⟨b1, n1, m1, t1, u1⟩ := twoT w f.length
    have HT := Lib.hid t1; have HU := Lib.hid u1; have HB := Lib.hid b1
    clear t1 u1 b1
    go_region
    all_goals
      go_wp2_with fail
      go_meet
      first
      | exact ⟨_, _, rfl, rfl, HB.out, by omega, by omega, n1, m1, HT.out _, HU.out _⟩
      | exact ⟨_, _, rfl, rfl, HB.out, by omega, by omega, m1, n1, HU.out _, HT.out _⟩
  case rest =>
    obtain ⟨g, h, rfl, rfl, hb0, hg, hh, hne, hne', htg, hth⟩ := hcut
    have HB0 := Lib.hid hb0; have HTG := Lib.hid htg; have HTH := Lib.hid hth
    obtain ⟨wq, hwq⟩ : ∃ u, u = wc := ⟨_, rfl⟩
    subst hwq
    clear hb0 htg hth hmk
    go_wp2
    go_loopw [16] (fun i wr => ∃ k : Nat, k ≤ f.length ∧ i = .int .i64 (k : Int) ∧ Below w.heap.size w wr ∧ Tb wr g 3 f.length (upF (lensF f) k) ∧ Tb wr h 3 f.length (upF (cntsF f) k)) (fun i _ => f.length - (intOf i).toNat)
    case atStart => exact ⟨0, Nat.zero_le _, rfl, HB0.out, HTG.out, HTH.out⟩
    case round =>
      obtain ⟨k, hk, rfl, hb, htg, hth⟩ := hrel
      by_cases hlt : k < f.length
      · obtain ⟨b, off, rfl, hbl, hc⟩ := HF.out (by omega)
        obtain ⟨hc0, hc1⟩ := hc k hlt
        clear hc
        rw [← hb.cell (p := ⟨b, off + k * 2, none⟩) hbl] at hc0
        rw [← hb.cell (p := ⟨b, off + k * 2 + 1, none⟩) hbl] at hc1
        have hg1 := htg.lt; have hh1 := hth.lt
        have HS1 : Hid (∀ W, Tb W g 3 f.length (upF (lensF f) k) → Tb W h 3 f.length (upF (cntsF f) k) → Below w.heap.size w W → Below w.heap.size w ((W.setCell ⟨g, k, none⟩ (.int .i64 f[k].len)).setCell ⟨h, k, none⟩ (.int .i64 f[k].cnt)) ∧ Tb ((W.setCell ⟨g, k, none⟩ (.int .i64 f[k].len)).setCell ⟨h, k, none⟩ (.int .i64 f[k].cnt)) g 3 f.length (upF (lensF f) (k + 1)) ∧ Tb ((W.setCell ⟨g, k, none⟩ (.int .i64 f[k].len)).setCell ⟨h, k, none⟩ (.int .i64 f[k].cnt)) h 3 f.length (upF (cntsF f) (k + 1))) := Lib.hid (fun W h1 h2 h3 => by
          have e1 : lensF f k = f[k].len := by unfold lensF; rw [getS hlt]
          have e2 : cntsF f k = f[k].cnt := by unfold cntsF; rw [getS hlt]
          rw [← e1, ← e2]
          refine ⟨(h3.setCell (p := ⟨g, k, none⟩) hg _).setCell (p := ⟨h, k, none⟩) hh _, ?_, ?_⟩
          · have := (h1.set k (.int .i64 (lensF f k))).other (c := h) (i := k) (.int .i64 (cntsF f k)) hne
            rw [upF_succ] at this; exact this
          · have := (h2.other (c := g) (i := k) (.int .i64 (lensF f k)) hne').set k (.int .i64 (cntsF f k))
            rw [upF_succ] at this; exact this)
        have HS2 : Hid (∀ W, Tb W g 3 f.length (upF (lensF f) k) → Tb W h 3 f.length (upF (cntsF f) k) → Below w.heap.size w W → Below w.heap.size w ((W.setCell ⟨h, k, none⟩ (.int .i64 f[k].cnt)).setCell ⟨g, k, none⟩ (.int .i64 f[k].len)) ∧ Tb ((W.setCell ⟨h, k, none⟩ (.int .i64 f[k].cnt)).setCell ⟨g, k, none⟩ (.int .i64 f[k].len)) g 3 f.length (upF (lensF f) (k + 1)) ∧ Tb ((W.setCell ⟨h, k, none⟩ (.int .i64 f[k].cnt)).setCell ⟨g, k, none⟩ (.int .i64 f[k].len)) h 3 f.length (upF (cntsF f) (k + 1))) := Lib.hid (fun W h1 h2 h3 => by
          have e1 : lensF f k = f[k].len := by unfold lensF; rw [getS hlt]
          have e2 : cntsF f k = f[k].cnt := by unfold cntsF; rw [getS hlt]
          rw [← e1, ← e2]
          refine ⟨(h3.setCell (p := ⟨h, k, none⟩) hh _).setCell (p := ⟨g, k, none⟩) hg _, ?_, ?_⟩
          · have := (h1.other (c := h) (i := k) (.int .i64 (cntsF f k)) hne).set k (.int .i64 (lensF f k))
            rw [upF_succ] at this; exact this
          · have := (h2.set k (.int .i64 (cntsF f k))).other (c := g) (i := k) (.int .i64 (lensF f k)) hne'
            rw [upF_succ] at this; exact this)
        go_wp2_with fail
        obtain ⟨W0, hW0⟩ : ∃ W0 : World, W0 = wr.alloc (.cells #[.int .i64 f[k].len, .int .i64 f[k].cnt] 57) := ⟨_, rfl⟩
        rw [← hW0]
        have s0 : W0.cell? ⟨wr.heap.size, 0, none⟩ = some (.int .i64 f[k].len) := by rw [hW0]; simp
        have s1 : W0.cell? ⟨wr.heap.size, 1, none⟩ = some (.int .i64 f[k].cnt) := by rw [hW0]; simp
        have hb0 : Below w.heap.size w W0 := by rw [hW0]; exact hb.alloc hb.size _
        have tg0 : Tb W0 g 3 f.length (upF (lensF f) k) := by rw [hW0]; exact htg.alloc _
        have th0 : Tb W0 h 3 f.length (upF (cntsF f) k) := by rw [hW0]; exact hth.alloc _
        have rg := tg0.cell hlt; have rh := th0.cell hlt
        have fg := tg0.free k; have fh := th0.free k
        have ng : ¬ wr.heap.size = g := by omega
        have nh : ¬ wr.heap.size = h := by omega
        have ng' : ¬ g = wr.heap.size := by omega
        have nh' : ¬ h = wr.heap.size := by omega
        have HB := Lib.hid hb0; have TG := Lib.hid tg0; have TH := Lib.hid th0
        clear hW0 hb0 tg0 th0 hb htg hth hc0 hc1
        generalize f[k].len = y at *
        generalize f[k].cnt = x at *
        go_region
        all_goals
          go_wp2
          go_roundw
          case rel =>
            refine ⟨k + 1, by omega, by go_num, ?_⟩
            first
            | exact HS1.out _ TG.out TH.out HB.out
            | exact HS2.out _ TG.out TH.out HB.out
            | exact HS1.out _ (TG.out.next (Below.refl _ _).drew) (TH.out.next (Below.refl _ _).drew) HB.out.drew
            | exact HS2.out _ (TG.out.next (Below.refl _ _).drew) (TH.out.next (Below.refl _ _).drew) HB.out.drew
          case measure => simp [intOf]; omega
      · obtain rfl : k = f.length := by omega
        have HB := Lib.hid hb; have TG := Lib.hid htg; have TH := Lib.hid hth
        clear hb htg hth
        go_wp2
        go_ret2
        exact ⟨g, h, rfl, ⟨HB.out, hg, hh, hne, TG.out, TH.out⟩⟩
/-- A table as numbers. -/
theorem tb_ints {w : World} {b : Nat} {t : TypeId} {q : Nat → Int} {l : List Int} (h : Tb w b t l.length (upF q l.length)) (hq : ∀ j (hj : j < l.length), l[j] = q j) : IntsIn w (some ⟨b, 0, none⟩) l :=
  h.ints (g := q) (fun j hj => by unfold upF; rw [if_pos hj]) rfl hq
def lensL (f : List Sl) : List Int := f.map (·.len)
def cntsL (f : List Sl) : List Int := f.map (·.cnt)
theorem lensL_len (f : List Sl) : (lensL f).length = f.length := by simp [lensL]
theorem cntsL_len (f : List Sl) : (cntsL f).length = f.length := by simp [cntsL]
theorem NumTo.li {w w' : World} {f : List Sl} {g h : Nat} (H : NumTo w w' f g h) : IntsIn w' (some ⟨g, 0, none⟩) (lensL f) :=
  tb_ints (q := lensF f) (by rw [lensL_len]; exact H.l) (fun j hj => by rw [lensL_len] at hj; unfold lensF; rw [getS hj]; simp [lensL])
theorem NumTo.ci {w w' : World} {f : List Sl} {g h : Nat} (H : NumTo w w' f g h) : IntsIn w' (some ⟨h, 0, none⟩) (cntsL f) :=
  tb_ints (q := cntsF f) (by rw [cntsL_len]; exact H.c) (fun j hj => by rw [cntsL_len] at hj; unfold cntsF; rw [getS hj]; simp [cntsL])
theorem cntsL_good {f : List Sl} (h : GoodS f) : GoodC f (cntsL f) := ⟨h, cntsL_len f, fun j hj h2 _ => by
  have e : (cntsL f)[j] = f[j].cnt := by simp [cntsL]
  rw [e]; exact ⟨(h.bd h2).2.1, Int.le_refl _⟩⟩
theorem cntsL_b (f : List Sl) : cntsB f (cntsL f) = stkB f := by
  cases h : stkB f with
  | true => exact cntsB_iff.2 (cntsL_good (stkB_iff.1 h))
  | false => exact cntsB_no fun g => by rw [stkB_iff.2 g.s] at h; cases h
noncomputable def allV (f : List Sl) : Int := lnV f (cntsL f)
theorem implStockLength_any (f : List Sl) (A : Option Addr) (c : Nat) (w : World) (hf : SlsIn w A f) (hn : f.length ≤ 1048576) :
    Calls Try.prog 20 #[.slice A f.length c] w fun e w' => e = .returned (.tuple #[.int .i64 (allV f), .bool (stkB f)]) ∧ Below w.heap.size w w' := by
  have HF := Lib.hid hf; clear hf
  have HV : Hid (stkB f = cntsB f (cntsL f)) := Lib.hid (cntsL_b f).symm
  have hcl := cntsL_len f
  go_enter Try.func20, Try.ntmps20
  go_wp2_with fail
  refine (numbersOfSlips_any f A c _ HF.out hn).mono ?_
  rintro e w1 ⟨g, h, rfl, H⟩
  have HH := Lib.hid H; clear H
  have HB := Lib.hid HH.out.bel
  go_wp2_with fail
  rw [← hcl]
  have e2 : (Value.slice A (cntsL f).length c) = .slice A f.length c := by rw [hcl]
  rw [e2]
  refine (implPiecesOf_any f A c (cntsL f) (some ⟨h, 0, none⟩) (cntsL f).length _ (HF.out.below HB.out (Nat.le_refl _)) hn HH.out.ci (by omega)).mono ?_
  rintro e w2 ⟨rfl, hb2⟩
  have HB2 := Lib.hid (HB.out.trans (hb2.mono HB.out.size))
  clear hb2 e2
  go_wp2
  go_ret2
  exact ⟨ret_ib rfl HV.out.symm, HB2.out⟩
theorem lnC_succ {f : List Sl} {k : Nat} (h : k < f.length) : lnS f (cntsL f) (k + 1) = lnS f (cntsL f) k + f[k].cnt * f[k].len := by
  rw [lnS_succ (by rw [cntsL_len]; exact h) h]; simp [cntsL]
set_option maxRecDepth 100000 in
theorem specStockLength_any (f : List Sl) (A : Option Addr) (c : Nat) (w : World) (hf : SlsIn w A f) (hn : f.length ≤ 1048576) :
    Calls Try.prog 19 #[.slice A f.length c] w fun e w' => e = .returned (.tuple #[.int .i64 (allV f), .bool (stkB f)]) ∧ Below w.heap.size w w' := by
  have HF := Lib.hid hf; clear hf
  go_enter Try.func19, Try.ntmps19
  go_wp2_with fail
  refine (ruGood_any f A c _ HF.out hn).mono ?_
  rintro e w1 ⟨rfl, hb1⟩
  have HB1 := Lib.hid hb1
  clear hb1
  cases hg : stkB f
  · have HV : Hid (allV f = 0) := Lib.hid (pcV_no (by rw [cntsL_b]; exact hg)).2
    have HQ := Lib.hid hg
    clear hg
    go_wp2
    go_ret2
    exact ⟨ret_ib HV.out.symm HQ.out.symm, HB1.out⟩
  have HV : Hid (allV f = lnS f (cntsL f) f.length) := Lib.hid (pcV_yes (by rw [cntsL_b]; exact hg)).2
  have HQ := Lib.hid hg
  have HG := Lib.hid (stkB_iff.1 hg)
  have HGC := Lib.hid (cntsL_good (stkB_iff.1 hg))
  clear hg
  have hn8 := HG.out.eight
  go_wp2
  go_loopw [4, 12] (fun q i wr => ∃ k : Nat, k ≤ f.length ∧ i = .int .i64 (k : Int) ∧ q = .int .i64 (lnS f (cntsL f) k) ∧ Below w.heap.size w wr) (fun _ i _ => f.length - (intOf i).toNat)
  case atStart => exact ⟨0, Nat.zero_le _, rfl, rfl, HB1.out⟩
  case round =>
    obtain ⟨k, hk, rfl, rfl, hb⟩ := hrel
    by_cases hlt : k < f.length
    · obtain ⟨b, off, rfl, hbl, hc⟩ := HF.out (by omega)
      obtain ⟨hc0, hc1⟩ := hc k hlt
      clear hc
      rw [← hb.cell (p := ⟨b, off + k * 2, none⟩) hbl] at hc0
      rw [← hb.cell (p := ⟨b, off + k * 2 + 1, none⟩) hbl] at hc1
      have h1 := (HG.out.bd hlt).2
      have h2 := (HG.out.bd hlt).1
      have h3 := mul_4000 h1.1 h1.2 h2.1 h2.2
      have h4 := HGC.out.sums k (by omega)
      have HL := Lib.hid (lnC_succ hlt)
      have hk8 : (k : Int) ≤ 8 := by omega
      have HB := Lib.hid (hb.alloc hb.size (.cells #[.int .i64 f[k].len, .int .i64 f[k].cnt] 57))
      generalize f[k].len = y at *
      generalize f[k].cnt = x at *
      generalize lnS f (cntsL f) k = q at *
      clear hb
      go_wp2
      go_roundw
      case rel => exact ⟨k + 1, by omega, by go_num, by rw [HL.out], HB.out⟩
      case measure => simp [intOf]; omega
    · obtain rfl : k = f.length := by omega
      go_wp2
      go_ret2
      exact ⟨ret_ib HV.out.symm HQ.out.symm, hb⟩
end Go.Proofs.Ytljakcfdjcjdbaa
