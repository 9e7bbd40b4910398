/-
  One rule: the words agree, whatever is written where there is none; the contracts of spec.RuleOf, impl.RulesOf for one length, and RuleOf.
-/
import Derived.Test.YtljakcfdjcjdbaaRb
import Derived.Test.YtljakcfdjcjdbaaRh
import Derived.Test.YtljakcfdjcjdbaaQe
namespace Go.Proofs.Ytljakcfdjcjdbaa
open Go.RowKit
set_option linter.unusedVariables false

theorem tbl_min {Z : Nat} (hZ : 401 ≤ Z) (f : List Sl) (d m : Nat) : tblD 401 f d m = min 401 (tblD Z f d m) := fwR_Z hZ _ _
theorem ask_same {Z : Nat} (hZ : 401 ≤ Z) {f : List Sl} {d m : Nat} (h : tblD 401 f d m < 401) (c : Nat) : askD 401 f m d c = askD Z f m d c := by
  unfold askD
  have e1 := tbl_min hZ f d m
  have e2 := tbl_min hZ f (d + 1) (m - c * lnN (slipD f d))
  by_cases e : tblD Z f (d + 1) (m - c * lnN (slipD f d)) + c = tblD Z f d m
  · rw [beq_iff_eq.2 e, beq_iff_eq]; omega
  · rw [beq_eq_false_iff_ne.2 e, beq_eq_false_iff_ne]; omega
theorem cD_same {Z : Nat} (hZ : 401 ≤ Z) {f : List Sl} {d m : Nat} (h : tblD 401 f d m < 401) : cD 401 f m d = cD Z f m d := by
  unfold cD
  rw [show askD 401 f m d = askD Z f m d from funext (ask_same hZ h)]
theorem rem_same {Z : Nat} (hZ : 401 ≤ Z) {f : List Sl} (hG : GoodS f) {n : Nat} (hn : tblD 401 f 0 n < 401) : ∀ d, d ≤ f.length → remD 401 f n d = remD Z f n d
  | 0, _ => rfl
  | d + 1, hd => by
    have ih := rem_same hZ hG hn d (by omega)
    have h := remD_ok hG hn d (by omega)
    show remD 401 f n d - cD 401 f (remD 401 f n d) d * _ = remD Z f n d - cD Z f (remD Z f n d) d * _
    rw [cD_same hZ h, ih]
theorem ruL_same {Z : Nat} (hZ : 401 ≤ Z) {f : List Sl} (hG : GoodS f) {n : Nat} (hn : FW 401 f n < 401) : ruL 401 f n = ruL Z f n := by
  have h0 : tblD 401 f 0 n < 401 := by unfold tblD; rw [Nat.sub_zero, List.take_length]; exact hn
  unfold ruL
  refine List.map_congr_left fun i hi => ?_
  have hi' := List.mem_range.1 hi
  unfold ruC
  rw [cD_same hZ (remD_ok hG h0 _ (by omega)), rem_same hZ hG h0 _ (by omega)]
theorem ruB_same {Z : Nat} (hZ : 401 ≤ Z) {f : List Sl} (hG : GoodS f) {n : Nat} (h4 : n ≤ 400) : FW 401 f n < 401 ↔ FW Z f n < Z := by
  have e : FW 401 f n = min 401 (FW Z f n) := fwR_Z hZ _ _
  constructor
  · intro h; omega
  · intro h
    have := can_fw (Z := Z) hG.pos (fw_can hG.pos (show fwR Z f.reverse n < Z from h))
    have h2 : FW Z f n ≤ n := this
    omega
theorem rlT_at {P : List Sl} (hG : GoodS P) {n : Nat} : ∀ d, d ≤ P.length → ∀ e, e < d → rlT P n d (slipD P e).len = some (tkC P n e : Int)
  | 0, _, e, he => absurd he (by omega)
  | d + 1, hd, e, he => by
    show upM (rlT P n d) (slipD P d).len _ _ = _
    rcases Nat.lt_or_ge e d with h | h
    · rw [upM_other (fun h2 => by
        have e1 := slipD_at (f := P) (d := e) (by omega) rfl
        have e2 := slipD_at (f := P) (d := d) (by omega) rfl
        rw [e1, e2] at h2
        have := hG.inj (by omega) (by omega) h2
        omega)]
      exact rlT_at hG d (by omega) e h
    · obtain rfl : e = d := by omega
      exact upM_same _ _ _
theorem cnt_rule {P : List Sl} (hG : GoodS P) {n : Nat} : cntM (rlT P n P.length) P = ruL 401 P n := by
  refine List.ext_getElem (by rw [cntM_len, ruL_len]) fun i h1 h2 => ?_
  rw [cntM_len] at h1
  rw [cntM_get h1, ruL_get]
  have e := slipD_at (f := P) (d := P.length - 1 - i) (j := i) (by omega) (by omega)
  rw [← e, rlT_at hG P.length (Nat.le_refl _) _ (by omega)]
  rfl
/-- What RuleOf answers. -/
noncomputable def rleB (f : List Sl) (a : Int) : Bool := stkB f && (inB 1 400 a && ruB 1048576 f a.toNat)
noncomputable def rleV (f : List Sl) (a : Int) : List Int := if rleB f a then ruL 1048576 f a.toNat else []
theorem rle_no {f : List Sl} {a : Int} (h : rleB f a = false) : rleV f a = [] := by unfold rleV; rw [h]; rfl
theorem rle_yes {f : List Sl} {a : Int} (h : rleB f a = true) : rleV f a = ruL 1048576 f a.toNat := by unfold rleV; rw [h]; rfl
theorem rleV_short (f : List Sl) (a : Int) : (rleV f a).length ≤ 1048576 := by
  cases h : rleB f a
  · rw [rle_no h]; simp
  · rw [rle_yes h, ruL_len]
    have h2 : stkB f = true := by
      unfold rleB at h
      rw [Bool.and_eq_true] at h; exact h.1
    have := (stkB_iff.1 h2).eight
    omega
def RlTo (f : List Sl) (a : Int) (w w' : World) (e : Ending) : Prop := ∃ v T, e = .returned (.tuple #[v, .bool (rleB f a)]) ∧ Below w.heap.size w w' ∧ w'.ownsRow w.heap.size T 1 v (rleV f a).length (intsZ (rleV f a))
theorem RlTo.no {f : List Sl} {a : Int} {w w' : World} (h : rleB f a = false) (hb : Below w.heap.size w w') : RlTo f a w w' (.returned (.tuple #[.slice none 0 0, .bool false])) :=
  ⟨_, 3, by rw [h], hb, by rw [rle_no h]; exact own_nil _ _ _ _⟩
set_option maxRecDepth 100000 in
set_option maxHeartbeats 1000000 in
theorem specRuleOf_any (f : List Sl) (A : Addr) (c : Nat) (a : Int) (w : World) (hf : SlsIn w (some A) f) (hn : f.length ≤ 1048576) :
    Calls Try.prog 21 #[.slice (some A) f.length c, .int .i64 a] w fun e w' => RlTo f a w w' e := by
  have HF := Lib.hid hf; clear hf
  go_enter Try.func21, Try.ntmps21
  go_wp2_with fail
  refine (ruGood_any f _ c _ HF.out hn).mono ?_
  rintro e w1 ⟨rfl, hb1⟩
  have HB1 := Lib.hid hb1; clear hb1
  cases hg : stkB f
  · have HV : Hid (rleB f a = false) := Lib.hid (by unfold rleB; rw [hg]; rfl)
    clear hg
    go_wp2
    go_ret2
    exact RlTo.no HV.out HB1.out
  have HG := Lib.hid (stkB_iff.1 hg)
  have HGB := Lib.hid hg; clear hg
  go_wp2_with fail
  refine (ruLength_any a _).mono ?_
  rintro e w' ⟨rfl, rfl⟩
  cases hi : inB 1 400 a
  · have HV : Hid (rleB f a = false) := Lib.hid (by unfold rleB; rw [hi]; simp)
    clear hi
    go_wp2
    go_ret2
    exact RlTo.no HV.out HB1.out
  have hi2 := inBs_iff.1 hi
  have HV : Hid (rleB f a = ruB 1048576 f a.toNat ∧ rleV f a = ruV 1048576 f a.toNat) := Lib.hid (by
    have e : rleB f a = ruB 1048576 f a.toNat := by unfold rleB; rw [HGB.out, hi]; simp
    refine ⟨e, ?_⟩
    unfold rleV ruV
    rw [e])
  clear hi
  obtain ⟨n, rfl⟩ : ∃ n : Nat, a = (n : Int) := ⟨a.toNat, by omega⟩
  go_wp2_with fail
  refine (ruRule_any f (some A) c n w1 (HF.out.below HB1.out (Nat.le_refl _)) HG.out (by omega) (by omega)).mono ?_
  rintro e w2 ⟨v, rfl, hb2, ho2⟩
  have HB2 := Lib.hid (HB1.out.trans (hb2.mono HB1.out.size))
  have HO2 := Lib.hid (Joins.ownsRow_le ho2 HB1.out.size)
  clear hb2 ho2
  have hv1 := HV.out.1; have hv2 := HV.out.2
  rw [Int.toNat_natCast] at hv1 hv2
  have HV1 := Lib.hid hv1; have HV2 := Lib.hid hv2
  clear hv1 hv2 HV
  go_wp2
  go_ret2
  exact ⟨_, 3, ret_vb HV1.out.symm, HB2.out, by rw [HV2.out]; exact HO2.out⟩
end Go.Proofs.Ytljakcfdjcjdbaa
