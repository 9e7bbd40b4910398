/-
  Orders of castings: what they are, the machine, the minutes and the changes behind them; the contracts of spec.csEnds, csLast.
-/
import Derived.Test.YtpocghcdfpcedaaKr
import Derived.OwnWalk
import Derived.Maps.AppendAt
import Derived.Lib.SliceRun
namespace Go.Proofs.Ytpocghcdfpcedaa
open Go.RowKit
set_option linter.unusedVariables false

/-- The machine, the minutes, the changes. -/
structure St where
  mc : Mc
  t : Int
  n : Int
def atC (f : List Ca) (i : Int) : Ca := f.getD i.toNat ⟨0, 0⟩
theorem atC_at {f : List Ca} {j : Nat} (h : j < f.length) : atC f (j : Int) = f[j] := by simp [atC, h]
def stp (f : List Ca) (s : St) (i : Int) : St := ⟨nextM s.mc (atC f i), s.t + costI s.mc (atC f i), s.n + if (atC f i).bod = s.mc.bod then 0 else 1⟩
def run (m : Mc) (f : List Ca) (o : List Int) : St := o.foldl (stp f) ⟨m, 0, 0⟩
theorem run_snoc (m : Mc) (f : List Ca) (o : List Int) (i : Int) : run m f (o ++ [i]) = stp f (run m f o) i := by simp [run]
theorem run_succ (m : Mc) (f : List Ca) {o : List Int} {k : Nat} (h : k < o.length) : run m f (o.take (k + 1)) = stp f (run m f (o.take k)) o[k] := by
  rw [List.take_succ_eq_append_getElem h, run_snoc]
/-- All are indices of castings. -/
def InO (f : List Ca) (o : List Int) : Prop := ∀ k (h : k < o.length), ∃ j : Nat, o[k] = (j : Int) ∧ j < f.length
theorem run_ok {m : Mc} {f : List Ca} {o : List Int} (hm : goodMc m = true) (hL : goodL f = true) (ho : InO f o) : ∀ k, k ≤ o.length →
    goodMc (run m f (o.take k)).mc = true ∧ (0 ≤ (run m f (o.take k)).t ∧ (run m f (o.take k)).t ≤ 6011000 * (k : Int)) ∧ (0 ≤ (run m f (o.take k)).n ∧ (run m f (o.take k)).n ≤ (k : Int))
  | 0, _ => ⟨hm, ⟨Int.le_refl _, by simp [run]⟩, Int.le_refl _, by simp [run]⟩
  | k + 1, hk => by
    obtain ⟨h1, h2, h3⟩ := run_ok hm hL ho k (by omega)
    obtain ⟨j, hj, hjl⟩ := ho k hk
    rw [run_succ m f hk, hj]
    have hx := goodL_at hL hjl
    have hc := costI_range h1 hx
    unfold stp
    rw [atC_at hjl]
    dsimp only
    refine ⟨nextM_good h1 hx, ?_, ?_⟩
    · rw [show ((k + 1 : Nat) : Int) = (k : Int) + 1 from by omega]; omega
    · split <;> omega
def endsTo (m : Mc) (f : List Ca) (o : List Int) (k : Nat) : List Int := (List.range k).map fun i => (run m f (o.take (i + 1))).t
def endsL (m : Mc) (f : List Ca) (o : List Int) : List Int := endsTo m f o o.length
theorem endsTo_len (m : Mc) (f : List Ca) (o : List Int) (k : Nat) : (endsTo m f o k).length = k := by simp [endsTo]
theorem endsL_len (m : Mc) (f : List Ca) (o : List Int) : (endsL m f o).length = o.length := endsTo_len _ _ _ _
theorem endsTo_succ (m : Mc) (f : List Ca) (o : List Int) (k : Nat) : endsTo m f o (k + 1) = endsTo m f o k ++ [(run m f (o.take (k + 1))).t] := by simp [endsTo, List.range_succ]
theorem endsL_at (m : Mc) (f : List Ca) (o : List Int) {k : Nat} (h : k < (endsL m f o).length) : (endsL m f o)[k] = (run m f (o.take (k + 1))).t := by simp [endsL, endsTo]
theorem endsL_last (m : Mc) (f : List Ca) (o : List Int) {k : Nat} (h : k < (endsL m f o).length) (hk : k + 1 = o.length) : (endsL m f o)[k] = (run m f o).t := by
  rw [endsL_at, List.take_of_length_le (by omega)]
theorem McAt.put0 {w : World} {b : Nat} {t : TypeId} {m : Mc} (h : McAt w b t m) (x : Int) : McAt (w.setCell ⟨b, 0, none⟩ (.int .i64 x)) b t ⟨x, m.hou, m.cha⟩ := heap_set (i := 0) h _
theorem McAt.grown {w w' : World} {b : Nat} {t : TypeId} {m : Mc} {row : Option Nat} (h : McAt w b t m) (hg : w.grownBy w' row) (hne : row ≠ some b) : McAt w' b t m := (hg.block b h.lt (fun e => hne e.symm)).trans h
theorem own_eq {u w : World} {base size n : Nat} {e : TypeId} {v : Value} {xs : List Value} (h : u = w) (ho : w.ownsRow base e size v n xs) : u.ownsRow base e size v n xs := h ▸ ho
/-- The cells of casting j, in each world that is as w was. -/
theorem cas_at {w : World} {b off j : Nat} {x : Ca} (hbl : b < w.heap.size) (hc : w.cell? ⟨b, off + j * 2, none⟩ = some (.int .i64 x.bod) ∧ w.cell? ⟨b, off + j * 2 + 1, none⟩ = some (.int .i64 x.cnt)) :
    ∀ W, Below w.heap.size w W → W.cell? ⟨b, off + j * 2, none⟩ = some (.int .i64 x.bod) ∧ W.cell? ⟨b, off + j * 2 + 1, none⟩ = some (.int .i64 x.cnt) := fun W hb =>
  ⟨(hb.cell (p := ⟨b, off + j * 2, none⟩) hbl).trans hc.1, (hb.cell (p := ⟨b, off + j * 2 + 1, none⟩) hbl).trans hc.2⟩

set_option maxRecDepth 100000 in
set_option maxHeartbeats 4000000 in
theorem csEnds_any (m : Mc) (f : List Ca) (A : Option Addr) (c : Nat) (o : List Int) (B : Option Addr) (d : Nat) (w : World) (hf : CasIn w A f) (hn : f.length ≤ 1048576) (hs : IntsIn w B o) (hk : o.length ≤ 1048576) (hm : goodMc m = true) (hL : goodL f = true) (ho : InO f o) :
    Calls Try.prog 56 #[.agg #[.int .i64 m.bod, .int .i64 m.hou, .int .i64 m.cha], .slice A f.length c, .slice B o.length d] w fun e w' => ∃ v, e = .returned (.tuple #[v, .int .i64 (run m f o).n]) ∧ Below w.heap.size w w' ∧ w'.ownsRow w.heap.size 3 1 v o.length (intsZ (endsL m f o)) := by
  obtain ⟨i0, hi, hz0, hz1, hz2⟩ := info_parts info3
  have HI := Lib.hid hi; have HZ0 := Lib.hid hz0; have HZ1 := Lib.hid hz1; have HZ2 := Lib.hid hz2
  clear hi hz0 hz1 hz2
  have HF := Lib.hid hf; have HS := Lib.hid hs; have HG := Lib.hid hm; have HLL := Lib.hid hL; have HO := Lib.hid ho
  have HRK := Lib.hid (run_ok hm hL ho)
  clear hf hs hm hL ho
  go_enter Try.func56, Try.ntmps56
  go_wp2
  go_loopw [8, 9, 10, 15] (fun v t n i wr => ∃ k : Nat, k ≤ o.length ∧ i = .int .i64 k ∧ t = .int .i64 (run m f (o.take k)).t ∧ n = .int .i64 (run m f (o.take k)).n ∧ McAt wr w.heap.size 32 (run m f (o.take k)).mc ∧ wr.ownsRow (w.heap.size + 1) 3 1 v k (intsZ (endsTo m f o k)) ∧ Below w.heap.size w wr) (fun _ _ _ i _ => o.length - (intOf i).toNat)
  case atStart => exact ⟨0, Nat.zero_le _, rfl, rfl, rfl, McAt.new _ _ _, own_nil _ _ _ _, (Below.refl _ _).alloc (Nat.le_refl _) _⟩
  case round =>
    obtain ⟨k, hkk, rfl, rfl, rfl, hmc, hown, hb⟩ := hrel
    have HM := Lib.hid hmc; have HOWN := Lib.hid hown; have HB := Lib.hid hb
    clear hmc hown hb
    by_cases hlt : k < o.length
    · obtain ⟨j, hj, hjl⟩ := HO.out k hlt
      obtain ⟨b, off, rfl, hbl, hc⟩ := HF.out (by omega)
      have HCJ := Lib.hid (cas_at hbl (hc j hjl))
      obtain ⟨b', off', rfl, hbl', hc'⟩ := HS.out (by omega)
      have hco := hc' k hlt
      rw [← HB.out.cell (p := ⟨b', off' + k, none⟩) hbl', hj] at hco
      clear hc hc'
      have HRS := Lib.hid (run_succ m f hlt)
      have HEN := Lib.hid (endsTo_succ m f o k)
      have HAX := Lib.hid (atC_at hjl)
      have HGX := Lib.hid (goodL_at HLL.out hjl)
      obtain ⟨hgs, hts, hns⟩ := HRK.out k hkk
      have HGS := Lib.hid hgs
      clear hgs
      have HJ := Lib.hid hj; clear hj
      generalize f[j] = x at *
      generalize run m f (o.take k) = S at *
      have hjl1 : (j : Int) < (f.length : Int) := by omega
      have hjl0 : (0 : Int) ≤ (j : Int) := by omega
      obtain ⟨hx0, hx1⟩ := HCJ.out wr HB.out
      have hbw : b < wr.heap.size := Nat.lt_of_lt_of_le hbl HB.out.size
      have kx0 := KeptW.cell hx0 hbw; have kx1 := KeptW.cell hx1 hbw
      obtain ⟨m0, m1, m2⟩ := HM.out.kept (B := wr.heap.size) HM.out.lt
      clear hx0 hx1
      go_wp2_with fail
      refine region_kept wr.heap.size (by kernel_rfl) (by kernel_rfl) ?_
      repeat (go_big_quiet_step (fail))
      refine wpQuiet_nil ?_
      intro w1 hb1
      have HB1 := Lib.hid (HB.out.trans (hb1.mono HB.out.size))
      have HM1 := Lib.hid (HM.out.next hb1)
      have HO1 := Lib.hid (own_below HOWN.out hb1)
      clear kx0 kx1 m0 m1 m2 hb1 HOWN HM HB hco
      by_cases hbod : x.bod = S.mc.bod
      · have hn1 : (x.bod != S.mc.bod) = false := by simp [hbod]
        obtain ⟨M1, hM1⟩ : ∃ M : Mc, M = S.mc := ⟨_, rfl⟩
        obtain ⟨u, hu⟩ : ∃ u : World, u = w1 := ⟨_, rfl⟩
        have HMu : Hid (McAt u w.heap.size 32 M1) := Lib.hid (by rw [hu, hM1]; exact HM1.out)
        have HBu : Hid (Below w.heap.size w u) := Lib.hid (by rw [hu]; exact HB1.out)
        have HOu := Lib.hid (own_eq hu HO1.out)
        have HGu : Hid (goodMc M1 = true) := Lib.hid (by rw [hM1]; exact HGS.out)
        have HMC : Hid (M1 = (run m f (o.take (k + 1))).mc) := Lib.hid (by rw [HRS.out, HJ.out, hM1]; unfold stp; rw [HAX.out]; show _ = nextM S.mc x; unfold nextM; rw [hbod])
        have HT1 : Hid (S.t + timeI M1 x = (run m f (o.take (k + 1))).t) := Lib.hid (by rw [HRS.out, HJ.out, hM1]; unfold stp; rw [HAX.out]; show _ = S.t + costI S.mc x; unfold costI; rw [if_pos hbod]; omega)
        have HN1 : Hid (Value.int .i64 S.n = .int .i64 (run m f (o.take (k + 1))).n) := Lib.hid (by rw [HRS.out, HJ.out]; unfold stp; rw [HAX.out]; show _ = Value.int .i64 (S.n + if x.bod = S.mc.bod then 0 else 1); rw [if_pos hbod, Int.add_zero])
        have HU := Lib.hid hu
        clear hu hM1 hbod HM1 HB1 HO1
        go_wp2_with fail
        rw [← HU.out]
        obtain ⟨hc0, hc1⟩ := HCJ.out u HBu.out
        obtain ⟨m0, m1, m2⟩ := HMu.out.kept (B := u.heap.size) HMu.out.lt
        have hbu : b < u.heap.size := Nat.lt_of_lt_of_le hbl HBu.out.size
        have kc0 := KeptW.cell hc0 hbu; have kc1 := KeptW.cell hc1 hbu
        clear hc0 hc1
        have htq := timeI_range HGu.out HGX.out
        have hty := timeI_range (m := S.mc) HGS.out HGX.out
        refine region_kept u.heap.size (by kernel_rfl) (by kernel_rfl) ?_
        repeat (go_big_quiet_step (fail))
        go_big_quiet_step ((go_at_call 52; exact kept_call _ (Nat.le_refl _) (csTime_any M1 x _ HGu.out HGX.out)))
        repeat (go_big_quiet_step (fail))
        refine wpQuiet_nil ?_
        intro w2 hb2
        have HB2 := Lib.hid (HBu.out.trans (hb2.mono HBu.out.size))
        have HM2 := Lib.hid (HMu.out.next hb2)
        have hown2 := own_below HOu.out hb2
        clear kc0 kc1 m0 m1 m2 hb2 HOu HMu HBu
        have hmx : k + 1 ≤ maxLen := by unfold maxLen; omega
        generalize timeI M1 x = q at *
        obtain ⟨T2, hT2⟩ : ∃ T, T = (run m f (o.take (k + 1))).t := ⟨_, rfl⟩
        have HT2 := Lib.hid hT2
        rw [HT1.out, ← hT2]
        clear hT2
        go_wp2_with (at_builtin; refine wpList_append_own _ rfl _ _ 42 rfl (w.heap.size + 1) 3 i0 (.int .i64 0) 1 8 Try.underlying42 HI.out HZ0.out HZ1.out HZ2.out rfl (by decide) _ _ _ rfl (hown2.alloc _) ⟨w2.heap.size, 0, none⟩ 1 1 [.int .i64 T2] rfl rfl (cell_one_new _ _ _) (by simp [Value.oneCell']) hmx (by omega) (by have := HM2.out.lt; first | (simp; done) | (simp; omega) | omega) ?_)
        intro v' w5 hown' hgrow _
        have HB5 : Hid (Below w.heap.size w w5) := Lib.hid ((HB2.out.alloc HB2.out.size _).grown hgrow (by have := HB2.out.size; simp; omega) (fun k hk => by have := own_lt hown2 k hk; omega))
        have HM5 : Hid (McAt w5 w.heap.size 32 (run m f (o.take (k + 1))).mc) := Lib.hid (by
          rw [← HMC.out]
          exact (HM2.out.alloc _).grown hgrow (fun e => by have := own_lt hown2 _ e; omega))
        have HO5 : Hid (w5.ownsRow (w.heap.size + 1) 3 1 v' (k + 1) (intsZ (endsTo m f o (k + 1)))) := by
          show World.ownsRow _ _ _ _ _ _ _
          rw [HEN.out, ← HT2.out, intsZ_snoc]; exact hown'
        clear hown' hgrow hown2 HM2
        go_wp2
        go_roundw
        case rel => exact ⟨k + 1, by omega, by go_num, by rw [HT2.out], HN1.out, HM5.out, HO5.out, HB5.out⟩
        case measure => simp [intOf]; omega
      · have hn1 : (x.bod != S.mc.bod) = true := by simp [hbod]
        obtain ⟨M1, hM1⟩ : ∃ M : Mc, M = ⟨x.bod, S.mc.hou, S.mc.cha⟩ := ⟨_, rfl⟩
        obtain ⟨u, hu⟩ : ∃ u : World, u = w1.setCell ⟨w.heap.size, 0, none⟩ (.int .i64 x.bod) := ⟨_, rfl⟩
        have HMu : Hid (McAt u w.heap.size 32 M1) := Lib.hid (by rw [hu, hM1]; exact HM1.out.put0 x.bod)
        have HBu : Hid (Below w.heap.size w u) := Lib.hid (by rw [hu]; exact HB1.out.setCell (p := ⟨w.heap.size, 0, none⟩) (Nat.le_refl _) _)
        have HOu := Lib.hid (own_eq hu (own_grown HO1.out (grown_set (World.grownBy.refl w1 (some w.heap.size)) 0 (.int .i64 x.bod)) (fun q hq e => by have := own_lt HO1.out q hq; have := Option.some.inj e; omega)))
        have hgn := nextM_good HGS.out HGX.out
        have HGu : Hid (goodMc M1 = true) := Lib.hid (by rw [hM1]; exact hgn)
        have HMC : Hid (M1 = (run m f (o.take (k + 1))).mc) := Lib.hid (by rw [HRS.out, HJ.out, hM1]; unfold stp; rw [HAX.out]; rfl)
        have HT1 : Hid (S.t + S.mc.cha + timeI M1 x = (run m f (o.take (k + 1))).t) := Lib.hid (by rw [HRS.out, HJ.out, hM1]; unfold stp; rw [HAX.out]; show _ = S.t + costI S.mc x; unfold costI; rw [if_neg hbod]; show _ + timeI S.mc x = _; omega)
        have HN1 : Hid (Value.int .i64 (S.n + 1) = .int .i64 (run m f (o.take (k + 1))).n) := Lib.hid (by rw [HRS.out, HJ.out]; unfold stp; rw [HAX.out]; show _ = Value.int .i64 (S.n + if x.bod = S.mc.bod then 0 else 1); rw [if_neg hbod])
        obtain ⟨_, _, hch⟩ := goodMc_bounds HGS.out
        have HU := Lib.hid hu
        obtain ⟨hx0, hx1⟩ := HCJ.out w1 HB1.out
        obtain ⟨m0, m1, m2⟩ := HM1.out.cells
        have hml := HM1.out.lt
        have mf0 := HM1.out.free 0
        clear hu hM1 hbod HB1 HO1 hgn
        go_wp2_with fail
        rw [← HU.out]
        clear hx0 hx1 m0 m1 m2 hml mf0 HM1
        obtain ⟨hc0, hc1⟩ := HCJ.out u HBu.out
        obtain ⟨m0, m1, m2⟩ := HMu.out.kept (B := u.heap.size) HMu.out.lt
        have hbu : b < u.heap.size := Nat.lt_of_lt_of_le hbl HBu.out.size
        have kc0 := KeptW.cell hc0 hbu; have kc1 := KeptW.cell hc1 hbu
        clear hc0 hc1
        have htq := timeI_range HGu.out HGX.out
        have hty := timeI_range (m := S.mc) HGS.out HGX.out
        refine region_kept u.heap.size (by kernel_rfl) (by kernel_rfl) ?_
        repeat (go_big_quiet_step (fail))
        go_big_quiet_step ((go_at_call 52; exact kept_call _ (Nat.le_refl _) (csTime_any M1 x _ HGu.out HGX.out)))
        repeat (go_big_quiet_step (fail))
        refine wpQuiet_nil ?_
        intro w2 hb2
        have HB2 := Lib.hid (HBu.out.trans (hb2.mono HBu.out.size))
        have HM2 := Lib.hid (HMu.out.next hb2)
        have hown2 := own_below HOu.out hb2
        clear kc0 kc1 m0 m1 m2 hb2 HOu HMu HBu
        have hmx : k + 1 ≤ maxLen := by unfold maxLen; omega
        generalize timeI M1 x = q at *
        obtain ⟨T2, hT2⟩ : ∃ T, T = (run m f (o.take (k + 1))).t := ⟨_, rfl⟩
        have HT2 := Lib.hid hT2
        rw [HT1.out, ← hT2]
        clear hT2
        go_wp2_with (at_builtin; refine wpList_append_own _ rfl _ _ 42 rfl (w.heap.size + 1) 3 i0 (.int .i64 0) 1 8 Try.underlying42 HI.out HZ0.out HZ1.out HZ2.out rfl (by decide) _ _ _ rfl (hown2.alloc _) ⟨w2.heap.size, 0, none⟩ 1 1 [.int .i64 T2] rfl rfl (cell_one_new _ _ _) (by simp [Value.oneCell']) hmx (by omega) (by have := HM2.out.lt; first | (simp; done) | (simp; omega) | omega) ?_)
        intro v' w5 hown' hgrow _
        have HB5 : Hid (Below w.heap.size w w5) := Lib.hid ((HB2.out.alloc HB2.out.size _).grown hgrow (by have := HB2.out.size; simp; omega) (fun k hk => by have := own_lt hown2 k hk; omega))
        have HM5 : Hid (McAt w5 w.heap.size 32 (run m f (o.take (k + 1))).mc) := Lib.hid (by
          rw [← HMC.out]
          exact (HM2.out.alloc _).grown hgrow (fun e => by have := own_lt hown2 _ e; omega))
        have HO5 : Hid (w5.ownsRow (w.heap.size + 1) 3 1 v' (k + 1) (intsZ (endsTo m f o (k + 1)))) := by
          show World.ownsRow _ _ _ _ _ _ _
          rw [HEN.out, ← HT2.out, intsZ_snoc]; exact hown'
        clear hown' hgrow hown2 HM2
        go_wp2
        go_roundw
        case rel => exact ⟨k + 1, by omega, by go_num, by rw [HT2.out], HN1.out, HM5.out, HO5.out, HB5.out⟩
        case measure => simp [intOf]; omega
    · obtain rfl : k = o.length := by omega
      have h := HOWN.out
      have HO2 := Lib.hid (Joins.ownsRow_le (base' := w.heap.size) h (by omega))
      clear h HOWN
      have hlast := congrArg St.n (show run m f (o.take o.length) = run m f o by rw [List.take_length])
      rw [hlast]
      clear hlast
      go_wp2
      refine bodyPost_ret (v := .tuple #[_, .int .i64 (run m f o).n]) (by simp [results, Try.results56, go_sem]) rfl ⟨_, rfl, HB.out, HO2.out⟩
end Go.Proofs.Ytpocghcdfpcedaa
