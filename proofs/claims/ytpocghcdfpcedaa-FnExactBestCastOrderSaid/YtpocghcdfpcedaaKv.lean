/-
  The contract of the function literal of impl.searchCastOrders, with the visit of impl.MostCastings.
-/
import Derived.Test.YtpocghcdfpcedaaKu
import Derived.Deep.LoopGhost
import Derived.WalkMore
namespace Go.Proofs.Ytpocghcdfpcedaa
open Go.RowKit
set_option linter.unusedVariables false

/-- What stays as it is while one searches. -/
def SsM (w wE : World) (P0 z pm pb pt : Nat) (a : Int) (A : Option Addr) (f : List Ca) (c : Nat) : Prop :=
  Box1 w (z + 1) 25 (.slice A f.length c) ∧ Box1 w (z + 2) 73 (.func (.func 66) #[] #[(.pointer (some ⟨pm, 0, none⟩)), (.pointer (some ⟨pt, 0, none⟩)), (.pointer (some ⟨pb, 0, none⟩))]) ∧ Box1 w (z + 5) 84 (.func (.func 75) #[] #[(.pointer (some ⟨z + 2, 0, none⟩)), (.pointer (some ⟨z + 4, 0, none⟩)), (.pointer (some ⟨z + 1, 0, none⟩)), (.pointer (some ⟨z + 5, 0, none⟩))]) ∧ (Box1 w pb 25 (.slice A f.length c) ∧ Box1 w pm 3 (.int .i64 a)) ∧ Below P0 wE w ∧ z + 6 ≤ w.heap.size
def ExM (z pt : Nat) : Nat → Prop := fun k => k = z + 3 ∨ k = z + 4 ∨ k = pt
theorem SsM.kep {w w' wE : World} {P0 z pm pb pt : Nat} {a : Int} {A : Option Addr} {f : List Ca} {c : Nat} (h : SsM w wE P0 z pm pb pt a A f c) (hk : Kep (ExM z pt) w w')
    (hn : (P0 ≤ pm ∧ pm < z) ∧ (P0 ≤ pb ∧ pb < z) ∧ (P0 ≤ pt ∧ pt < z)) (d : pm ≠ pt ∧ pb ≠ pt) : SsM w' wE P0 z pm pb pt a A f c := by
  obtain ⟨h1, h2, h3, ⟨h4, h7⟩, h5, h6⟩ := h
  refine ⟨h1.kep hk ?_, h2.kep hk ?_, h3.kep hk ?_, ⟨h4.kep hk ?_, h7.kep hk ?_⟩, h5.trans (hk.below ?_ ?_), Nat.le_trans h6 hk.size⟩
  · unfold ExM; omega
  · unfold ExM; omega
  · unfold ExM; omega
  · unfold ExM; omega
  · unfold ExM; omega
  · omega
  · intro k hk2; unfold ExM at hk2; omega
set_option maxRecDepth 100000 in
set_option maxHeartbeats 8000000 in
theorem searchM_any (m : Mc) (f : List Ca) (A : Option Addr) (c : Nat) (wE : World) (P0 z pm pb pt : Nat) (a : Int) (hm : goodMc m = true) (hL : goodL f = true) (hA : CasE wE P0 A f)
    (hn : (P0 ≤ pm ∧ pm < z) ∧ (P0 ≤ pb ∧ pb < z) ∧ (P0 ≤ pt ∧ pt < z)) (dp : pm ≠ pt ∧ pb ≠ pt) :
    ∀ (D : Nat) (o : List Int) (S : List Int) (w : World), OkO f.length o → o.length + D = f.length + 1 → SsM w wE P0 z pm pb pt a A f c → OrI w z f.length o → VM w pt (z + 6) S →
      Calls Try.prog 75 #[.agg #[.int .i64 (run m f o).mc.bod, .int .i64 (run m f o).mc.hou, .int .i64 (run m f o).mc.cha], .int .i64 (run m f o).t, (.pointer (some ⟨z + 2, 0, none⟩)), (.pointer (some ⟨z + 4, 0, none⟩)), (.pointer (some ⟨z + 1, 0, none⟩)), (.pointer (some ⟨z + 5, 0, none⟩))] w fun e w' =>
        e = .returned (.tuple #[]) ∧ OrI w' z f.length o ∧ VM w' pt (z + 6) (rc (visM f.length a) (tmO m f) f.length D o S) ∧ Kep (ExM z pt) w w' := by
  obtain ⟨i0, hi, hz0, hz1, hz2⟩ := info_parts info3
  have HI0 := Lib.hid hi; have HZ1 := Lib.hid hz1
  clear hi hz0 hz1 hz2
  have HG := Lib.hid hm; have HL := Lib.hid hL; have HA := Lib.hid hA; have HN := Lib.hid hn; have HDP := Lib.hid dp
  have h8 := (goodL_all hL).2
  clear hm hL hA dp
  obtain ⟨⟨hn1, hn2⟩, ⟨hn5, hn6⟩, hn7, hn8⟩ := hn
  obtain ⟨d2, d3⟩ := HDP.out
  intro D
  induction D with
  | zero => intro o S w hok hlen; exact absurd (okO_len _ _ hok) (by omega)
  | succ D ih =>
    intro o S w hok hlen hss hor hvb
    have HIH := Lib.hid ih
    have HOK := Lib.hid hok
    have hol := okO_len _ _ hok
    obtain ⟨hgm, ⟨ht0, ht1⟩, _⟩ := by
      have h := run_ok HG.out HL.out (okO_in hok) o.length (Nat.le_refl _)
      rw [List.take_length] at h; exact h
    obtain ⟨M, hM⟩ : ∃ M, M = (run m f o).mc := ⟨_, rfl⟩
    obtain ⟨T, hT⟩ : ∃ T, T = (run m f o).t := ⟨_, rfl⟩
    rw [← hM] at hgm ⊢
    rw [← hT] at ht0 ht1 ⊢
    have HGM := Lib.hid hgm
    have HMM := Lib.hid hM; have HTT := Lib.hid hT
    clear ih hok hgm hM hT
    obtain ⟨u, hu⟩ : ∃ u : World, u = w.alloc (.cells #[.int .i64 M.bod, .int .i64 M.hou, .int .i64 M.cha] 32) := ⟨_, rfl⟩
    have hkA : Kep (ExM z pt) w u := by rw [hu]; exact (Kep.refl _ _).alloc _
    have hkN : Kep (fun _ => False) w u := by rw [hu]; exact (Kep.refl _ _).alloc _
    have HSS := Lib.hid (hss.kep hkA HN.out HDP.out)
    have HOR := Lib.hid (hor.kep hkN (fun h => h) (fun h => h))
    have HVB := Lib.hid (hvb.kep hkN (fun h => h) (fun _ h => h.elim))
    have HKA := Lib.hid hkA
    have HMX : Hid (McAt u w.heap.size 32 M) := Lib.hid (by rw [hu]; exact McAt.new _ _ _)
    have hws : z + 6 ≤ w.heap.size := hss.2.2.2.2.2
    have v0 := hss.2.1.cell
    have o0 := hor.1.cell
    have hz2w : z + 2 < w.heap.size := by omega
    have hz4w : z + 4 < w.heap.size := by omega
    have HU := Lib.hid hu
    clear hu hkA hkN hss hor hvb
    go_enter Try.func75, Try.ntmps75
    go_wp2
    go_step3
    go_wp2_with fail
    rw [← HU.out]
    refine (mostVisit_any f A c o (z + 3) f.length (z + 3) (z + 6) T a S pm pb pt u HOR.out.2 (by omega) HVB.out HSS.out.2.2.2.1.2 HSS.out.2.2.2.1.1 d2 d3 HSS.out.2.2.2.2.2 (by omega)).mono ?_
    rintro e w1 ⟨rfl, hv1, hk1⟩
    have hk1E : Kep (ExM z pt) u w1 := hk1.mono (fun k h => by unfold ExM; omega)
    have HSS1 := Lib.hid (HSS.out.kep hk1E HN.out HDP.out)
    have HOR1 := Lib.hid (HOR.out.kep hk1 (by omega) (by omega))
    have HM1 := Lib.hid (HMX.out.kep hk1 (by omega))
    have HVB1 := Lib.hid hv1
    have HK1 := Lib.hid (HKA.out.trans hk1E)
    clear v0 o0 hv1 hk1 hk1E HSS HOR HVB HKA HMX HU
    have HRY := Lib.hid (fun h => rc_yes (vis := visM f.length a) (tm := tmO m f) (n := f.length) (d := D) (o := o) (s := S) h)
    have HRN := Lib.hid (fun h => rc_no (vis := visM f.length a) (tm := tmO m f) (n := f.length) (d := D) (o := o) (s := S) h)
    have hTM : tmO m f o = T := HTT.out.symm
    rw [hTM] at HRY HRN
    obtain ⟨S1, hS1⟩ : ∃ S1, S1 = (visM f.length a S o T).1 := ⟨_, rfl⟩
    rw [← hS1] at HVB1 HRY HRN
    clear hS1 hTM
    cases hr : (visM f.length a S o T).2
    · have HX := Lib.hid (HRN.out hr)
      clear hr
      go_wp2
      rw [Exit.noGoto_ret]
      refine bodyPost_ret (results_none rfl _ _ _) rfl ?_
      exact ⟨rfl, HOR1.out, by rw [HX.out]; exact HVB1.out, HK1.out⟩
    have HX := Lib.hid (HRY.out hr)
    clear hr HRY HRN
    have l0 := HSS1.out.1.cell
    go_wp2
    go_step3
    go_wp2
    go_loopg [21] f.length (fun g i wr => ∃ k : Nat, k + g = f.length ∧ i = .int .i64 k ∧ SsM wr wE P0 z pm pb pt a A f c ∧ OrI wr z f.length o ∧ VM wr pt (z + 6) (lpF (rc (visM f.length a) (tmO m f) f.length D) o k S1) ∧ McAt wr w.heap.size 32 M ∧ Kep (ExM z pt) w wr)
    case atStart => exact ⟨0, by omega, rfl, HSS1.out, HOR1.out, HVB1.out, HM1.out, HK1.out⟩
    case round =>
      obtain ⟨k, hk, rfl, hss, hor, hvb, hmx, hkp⟩ := hrel
      have HSR := Lib.hid hss; have HOO := Lib.hid hor; have HVV := Lib.hid hvb; have HMR := Lib.hid hmx; have HKR := Lib.hid hkp
      clear hss hor hvb hmx hkp l0 HSS1 HOR1 HVB1 HM1 HK1
      cases gk with
      | zero =>
        obtain rfl : k = f.length := by omega
        go_wp2
        rw [Exit.noGoto_normal]
        go_end0
        exact ⟨rfl, HOO.out, by rw [HX.out]; exact HVV.out, HKR.out⟩
      | succ G =>
        have hlt : k < f.length := by omega
        obtain ⟨b, off, rfl, hbl, hc⟩ := HA.out (by omega)
        obtain ⟨hx0, hx1⟩ := hc k hlt wr HSR.out.2.2.2.2.1
        have HCJ := Lib.hid (fun W hW => hc k hlt W hW)
        have HGX := Lib.hid (goodL_at HL.out hlt)
        have HAX := Lib.hid (atC_at hlt)
        clear hc
        generalize f[k] = x at *
        have hkl1 : (k : Int) < (f.length : Int) := by omega
        have hkl0 : (0 : Int) ≤ (k : Int) := by omega
        have hzw := HSR.out.2.2.2.2.2
        have hbz : b < wr.heap.size := by omega
        have o0 := HOO.out.1.cell
        have hz4 : z + 4 < wr.heap.size := by omega
        have hz3 : z + 3 < wr.heap.size := by omega
        have HKX : Hid (Kep (ExM z pt) wr (wr.alloc (.cells #[.int .i64 x.bod, .int .i64 x.cnt] 39))) := Lib.hid ((Kep.refl _ _).alloc _)
        have HKN : Hid (Kep (fun _ => False) wr (wr.alloc (.cells #[.int .i64 x.bod, .int .i64 x.cnt] 39))) := Lib.hid ((Kep.refl _ _).alloc _)
        go_wp2
        go_loopg [28] o.length (fun h j wi => ∃ q : Nat, q + h = o.length ∧ j = .int .i64 q ∧ hasB (o.take q) (k : Int) = false ∧ wi = wr.alloc (.cells #[.int .i64 x.bod, .int .i64 x.cnt] 39))
        case atStart => exact ⟨0, by omega, rfl, rfl, rfl⟩
        case round =>
          obtain ⟨q, hq, rfl, hh, rfl⟩ := hrel
          have HH := Lib.hid hh; clear hh
          cases gk with
          | succ g2 =>
            have hqo : q < o.length := by omega
            have hc0 : wr.cell? ⟨z + 3, q, none⟩ = some (.int .i64 o[q]) := by
              have h := HOO.out.2.cellAt (0 + q) (by omega)
              rw [Nat.zero_add] at h
              rw [h]; simp [intsZ, hqo]
            have HST := Lib.hid (hasB_take hqo (k : Int))
            have HYES := Lib.hid (fun e : o[q] = (k : Int) => hasB_yes hqo e)
            have hql1 : (q : Int) < (o.length : Int) := by omega
            have hql0 : (0 : Int) ≤ (q : Int) := by omega
            generalize o[q] = y at *
            by_cases hy : y = (k : Int)
            · have hb : (y == (k : Int)) = true := by simp [hy]
              have HSK := Lib.hid (lpF_skip (rec := (rc (visM f.length a) (tmO m f) f.length D)) (s := S1) (HYES.out hy))
              have HSf := Lib.hid (HSR.out.kep HKX.out HN.out HDP.out)
              have HOf := Lib.hid (HOO.out.kep HKN.out (fun h => h) (fun h => h))
              have HVf := Lib.hid (HVV.out.kep HKN.out (fun h => h) (fun _ h => h.elim))
              have HMf := Lib.hid (HMR.out.kep HKN.out (fun h => h))
              have HKf := Lib.hid (HKR.out.trans HKX.out)
              clear hy
              go_wp2
              go_roundg G
              case measure => omega
              case rel => exact ⟨k + 1, by omega, by go_num, HSf.out, HOf.out, by rw [HSK.out]; exact HVf.out, HMf.out, HKf.out⟩
            · have hb : (y == (k : Int)) = false := by simp [hy]
              have HYB := Lib.hid hb
              clear hy
              go_wp2
              go_roundg g2
              case measure => omega
              case rel => exact ⟨q + 1, by omega, by go_num, by rw [HST.out, HH.out, HYB.out]; rfl, rfl⟩
          | zero =>
            obtain rfl : q = o.length := by omega
            have hno : hasB o (k : Int) = false := by have h := HH.out; rw [List.take_length] at h; exact h
            have HSP := Lib.hid (lpF_step (rec := (rc (visM f.length a) (tmO m f) f.length D)) (s := S1) hno)
            have hok2 := okO_snoc HOK.out hlt hno
            have hro := okO_room HOK.out hlt hno
            have HOK2 := Lib.hid hok2
            have HRUN := Lib.hid (run_snoc m f o (k : Int))
            have HKN2 := HKN
            have HSx := Lib.hid (HSR.out.kep HKX.out HN.out HDP.out)
            have HOx := Lib.hid (HOO.out.kep HKN.out (fun h => h) (fun h => h))
            have HVx := Lib.hid (HVV.out.kep HKN.out (fun h => h) (fun _ h => h.elim))
            have HMx := Lib.hid (HMR.out.kep HKN.out (fun h => h))
            have HKx := Lib.hid (HKR.out.trans HKX.out)
            obtain ⟨m0, m1, m2⟩ := HMR.out.cells
            have ml := HMR.out.lt
            have hcr := costI_range HGM.out HGX.out
            clear hno hok2 HH HSR HOO HVV HMR HKR HKX HKN HKN2 o0
            obtain ⟨wx, hwx⟩ : ∃ wx : World, wx = wr.alloc (.cells #[.int .i64 x.bod, .int .i64 x.cnt] 39) := ⟨_, rfl⟩
            rw [← hwx] at HSx HOx HVx HMx HKx
            have HWX := Lib.hid hwx
            clear hwx
            go_wp2_with fail
            rw [← HWX.out]
            refine (castNext_any M x _ HGM.out HGX.out).mono ?_
            rintro e w2 ⟨rfl, hb2⟩
            obtain ⟨N, hN⟩ : ∃ N, N = nextM M x := ⟨_, rfl⟩
            have HNX := Lib.hid hN
            obtain ⟨Q, hQ⟩ : ∃ Q, Q = costI M x := ⟨_, rfl⟩
            have HQX := Lib.hid hQ
            rw [← hQ] at hcr
            rw [← hN, ← hQ]
            clear hN hQ m0 m1 m2 ml hx0 hx1 HWX
            have HK2 : Hid (Kep (fun _ => False) wx w2) := Lib.hid (Kep.of hb2)
            have HK2E : Hid (Kep (ExM z pt) wx w2) := Lib.hid (Kep.of hb2)
            clear hb2
            -- the next machine's box, then the box of one index
            obtain ⟨w3, hw3⟩ : ∃ w3 : World, w3 = (w2.alloc (.cells #[.int .i64 N.bod, .int .i64 N.hou, .int .i64 N.cha] 32)) := ⟨_, rfl⟩
            have HK3 : Hid (Kep (fun _ => False) wx (w3.alloc (.cells #[.int .i64 (k : Int)] 3))) := Lib.hid (by rw [hw3]; exact (HK2.out.alloc _).alloc _)
            have HK3E : Hid (Kep (ExM z pt) wx (w3.alloc (.cells #[.int .i64 (k : Int)] 3))) := Lib.hid (by rw [hw3]; exact (HK2E.out.alloc _).alloc _)
            have HS3 := Lib.hid (HSx.out.kep HK3E.out HN.out HDP.out)
            have HO3 := Lib.hid (HOx.out.kep HK3.out (fun h => h) (fun h => h))
            have HV3 := Lib.hid (HVx.out.kep HK3.out (fun h => h) (fun _ h => h.elim))
            have HM3 := Lib.hid (HMx.out.kep HK3.out (fun h => h))
            have HKW := Lib.hid (HKx.out.trans HK3E.out)
            have HN3 : Hid (McAt (w3.alloc (.cells #[.int .i64 (k : Int)] 3)) w2.heap.size 32 N) := Lib.hid (by rw [hw3]; exact (McAt.new _ _ _).alloc _)
            have HW3 := Lib.hid hw3
            have hxw2 : wx.heap.size ≤ w2.heap.size := HK2.out.size
            have hmx2 : w.heap.size < wx.heap.size := HMx.out.lt
            have ob := (HOx.out.1.kep HK2.out (fun h => h)).cell
            have obl := (HOx.out.1.kep HK2.out (fun h => h)).lt
            clear hw3 HK2 HK2E HK3 HK3E HSx HOx HVx HMx HKx
            have ho3 := HO3.out.2
            rw [HW3.out] at ho3
            have HC1 : Hid (∀ j u, [Value.int .i64 (k : Int)][j]? = some u → ((w2.alloc (.cells #[.int .i64 N.bod, .int .i64 N.hou, .int .i64 N.cha] 32)).alloc (.cells #[.int .i64 (k : Int)] 3)).cell? ((⟨w2.heap.size + 1, 0, none⟩ : Addr).add j) = some u) := Lib.hid (by
              have h := cell_one_new (w2.alloc (.cells #[.int .i64 N.bod, .int .i64 N.hou, .int .i64 N.cha] 32)) (.int .i64 (k : Int)) 3
              rw [show (w2.alloc (.cells #[.int .i64 N.bod, .int .i64 N.hou, .int .i64 N.cha] 32)).heap.size = w2.heap.size + 1 from by simp] at h
              exact h)
            go_wp2_with (at_builtin; refine wpList_append_fits _ rfl _ _ 42 rfl (z + 3) 3 i0 1 Try.underlying42 HI0.out HZ1.out (z + 3) o.length f.length (intsZ o) rfl ho3 ⟨w2.heap.size + 1, 0, none⟩ 1 1 [.int .i64 (k : Int)] rfl rfl HC1.out (by simp [Value.oneCell']) hro ?_)
            intro w5 hown' hgrow
            rw [← HW3.out] at hgrow
            have hk5 : Kep (fun q => q = z + 3 ∨ q = z + 4) (w3.alloc (.cells #[.int .i64 (k : Int)] 3)) w5 := (Kep.refl _ _).grown hgrow (fun q e => .inl (.inl (Option.some.inj e).symm))
            have hk5E : Kep (ExM z pt) (w3.alloc (.cells #[.int .i64 (k : Int)] 3)) w5 := hk5.mono (fun q h => by unfold ExM; omega)
            have h4b := HO3.out.1.grown hgrow (fun e => by have := Option.some.inj e; omega)
            have hnb := HN3.out.kep hk5 (by have := HS3.out.2.2.2.2.2; omega)
            have hsb := HS3.out.2.2.1.grown hgrow (fun e => by have := Option.some.inj e; omega)
            have H4 := Lib.hid h4b; have HNB := Lib.hid hnb; have HSB := Lib.hid hsb; have HOW := Lib.hid hown'
            obtain ⟨w6, hw6⟩ : ∃ w6 : World, w6 = w5.setCell ⟨z + 4, 0, none⟩ (.slice (some ⟨z + 3, 0, none⟩) (o.length + 1) f.length) := ⟨_, rfl⟩
            have hk56 : Kep (fun q => q = z + 4) w5 w6 := by rw [hw6]; exact Kep.set (E := fun q => q = z + 4) (p := z + 4) (Kep.refl _ _) (.inl rfl) 0 _
            have hk56E : Kep (ExM z pt) w5 w6 := hk56.mono (fun q h => by unfold ExM; omega)
            have hk56N : Kep (fun q => q = z + 3 ∨ q = z + 4) w5 w6 := hk56.mono (fun q h => .inr h)
            have HS6 := Lib.hid (HS3.out.kep (hk5E.trans hk56E) HN.out HDP.out)
            have HO6 : Hid (OrI w6 z f.length (o ++ [(k : Int)])) := Lib.hid (by
              unfold OrI
              rw [List.length_append, intsZ_snoc]
              refine ⟨by rw [hw6]; exact h4b.set _, hk56.owns hown' fun q hq e => by have : z + 3 = q := Option.some.inj hq; omega⟩)
            have HV6 := Lib.hid (HV3.out.kep (hk5.trans hk56N) (by omega) (fun q h => by rcases h with h | h <;> omega))
            have HM6 := Lib.hid (HM3.out.kep (hk5.trans hk56N) (by omega))
            have HK6 := Lib.hid ((HKW.out.trans hk5E).trans hk56E)
            have HW6 := Lib.hid hw6
            have c4 := h4b.cell; have f4 := h4b.free; have c5 := hsb.cell
            obtain ⟨n0, n1, n2⟩ := hnb.cells
            have hne1 : ¬ z + 4 = w2.heap.size := by omega
            have hne2 : ¬ w2.heap.size = z + 4 := by omega
            clear hown' hgrow hk5 hk5E h4b hnb hsb hw6 hk56 hk56E hk56N ho3 HC1 HW3 HS3 HO3 HV3 HM3 HKW HN3 ob obl
            have hmc2 : (run m f (o ++ [(k : Int)])).mc = N := by rw [HRUN.out, HNX.out, HMM.out]; unfold stp; rw [HAX.out]
            have htt2 : (run m f (o ++ [(k : Int)])).t = T + Q := by rw [HRUN.out, HQX.out, HTT.out, HMM.out]; unfold stp; rw [HAX.out]
            have hcall := HIH.out (o ++ [(k : Int)]) (lpF (rc (visM f.length a) (tmO m f) f.length D) o k S1) w6 HOK2.out (by rw [List.length_append]; show o.length + 1 + D = _; omega) HS6.out HO6.out HV6.out
            rw [hmc2, htt2] at hcall
            have HCALL := Lib.hid hcall
            clear hmc2 htt2 hcall
            go_wp2_with fail
            rw [← HW6.out]
            refine HCALL.out.mono ?_
            rintro e w7 ⟨rfl, ho7, hv7, hk7⟩
            have HS7 := Lib.hid (HS6.out.kep hk7 HN.out HDP.out)
            have HM7 := Lib.hid (HM6.out.kep hk7 (by unfold ExM; omega))
            have HK7 := Lib.hid (HK6.out.trans hk7)
            unfold OrI at ho7
            rw [List.length_append, intsZ_snoc] at ho7
            obtain ⟨h7b, h7o⟩ := ho7
            have HO7 := Lib.hid (own_trunc h7o (intsZ_len o))
            have HV7 := Lib.hid hv7
            have H7B := Lib.hid h7b
            have c7 : w7.cell? ⟨z + 4, 0, none⟩ = some (.slice (some ⟨z + 3, 0, none⟩) (o.length + 1) f.length) := h7b.cell
            have f7 := h7b.free
            clear c4 f4 c5 n0 n1 n2 hne1 hne2 HCALL HW6 HS6 HO6 HV6 HM6 HK6 H4 HNB HSB HOW h7b h7o hv7 hk7
            have hix : ((o.length + 1 : Nat) : Int) - 1 = (o.length : Int) := by omega
            have hk8 : Kep (fun q => q = z + 4) w7 (w7.setCell ⟨z + 4, 0, none⟩ (.slice (some ⟨z + 3, 0, none⟩) o.length f.length)) := Kep.set (E := fun q => q = z + 4) (p := z + 4) (Kep.refl _ _) (.inl rfl) 0 _
            have hk8E : Kep (ExM z pt) w7 (w7.setCell ⟨z + 4, 0, none⟩ (.slice (some ⟨z + 3, 0, none⟩) o.length f.length)) := hk8.mono (fun q h => by unfold ExM; omega)
            have HS8 := Lib.hid (HS7.out.kep hk8E HN.out HDP.out)
            have HO8 : Hid (OrI (w7.setCell ⟨z + 4, 0, none⟩ (.slice (some ⟨z + 3, 0, none⟩) o.length f.length)) z f.length o) := Lib.hid ⟨H7B.out.set _, hk8.owns HO7.out fun q hq e => by have : z + 3 = q := Option.some.inj hq; omega⟩
            have HV8 := Lib.hid (HV7.out.kep hk8 (by omega) (fun q h => by omega))
            have HM8 := Lib.hid (HM7.out.kep hk8 (by omega))
            have HK8 := Lib.hid (HK7.out.trans hk8E)
            clear hk8 hk8E HS7 HM7 HK7 HO7 HV7 H7B
            go_wp2
            go_roundg G
            case measure => omega
            case rel => exact ⟨k + 1, by omega, by go_num, HS8.out, HO8.out, by rw [HSP.out]; exact HV8.out, HM8.out, HK8.out⟩
end Go.Proofs.Ytpocghcdfpcedaa
