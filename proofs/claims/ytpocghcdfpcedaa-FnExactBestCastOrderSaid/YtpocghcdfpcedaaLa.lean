/-
  The contracts of spec.csBest and spec.BestCastOrder.
-/
import Derived.Test.YtpocghcdfpcedaaKw
import Derived.Deep.RegionLaw
import Derived.Deep.DeepCutAuto
namespace Go.Proofs.Ytpocghcdfpcedaa
open Go.RowKit
set_option linter.unusedVariables false

section
variable {n : Nat} {tm : List Int → Int}
def FullB (n : Nat) (S : Option (List Int × Int)) : Prop := ∀ p, S = some p → p.1.length = n
theorem visB_len {S : Option (List Int × Int)} {o : List Int} {t : Int} (hS : FullB n S) : FullB n (visB n S o t).1 := by
  unfold visB; split
  · exact hS
  · split
    · rename_i h; intro p e; obtain rfl := Option.some.inj e; exact h
    · exact hS
theorem foldN_keepB {σ : Type} {g : Nat → σ → σ} {Q : σ → Prop} (h : ∀ i s, Q s → Q (g i s)) : ∀ k s, Q s → Q (foldN g k s)
  | 0, _, hs => hs
  | k + 1, s, hs => h _ _ (foldN_keepB h k s hs)
theorem rcB_len : ∀ (D : Nat) (o : List Int) (S : Option (List Int × Int)), FullB n S → FullB n (rc (visB n) tm n D o S)
  | 0, _, _, hS => hS
  | D + 1, o, S, hS => by
    have h1 := visB_len (o := o) (t := tm o) hS
    show FullB n (if _ then _ else _)
    split
    · refine foldN_keepB (Q := fun s : Option (List Int × Int) => FullB n s) (fun i s hs => ?_) _ _ h1
      show FullB n (if _ then _ else _)
      split
      · exact hs
      · exact rcB_len D _ _ hs
    · exact h1
theorem lpB_len {D : Nat} {o : List Int} {S : Option (List Int × Int)} (hS : FullB n S) (k : Nat) : FullB n (lpF (rc (visB n) tm n D) o k S) := by
  refine foldN_keepB (Q := fun s : Option (List Int × Int) => FullB n s) (fun i s hs => ?_) _ _ hS
  show FullB n (if _ then _ else _)
  split
  · exact hs
  · exact rcB_len D _ _ hs
theorem lpF_id {σ : Type} (o : List Int) : ∀ (k : Nat) (s : σ), lpF (fun _ s => s) o k s = s
  | 0, _ => rfl
  | k + 1, s => by
    have ih := lpF_id o k s
    cases hb : hasB o (k : Int) with
    | true => rw [lpF_skip hb, ih]
    | false => rw [lpF_step hb, ih]
/-- What is answered at once. -/
theorem rcB_old {D : Nat} {o : List Int} {S : Option (List Int × Int)} (h1 : S.isSome = true) (h2 : blT S ≤ tm o) : rc (visB n) tm n (D + 1) o S = S := by
  have h := visB_no (n := n) (o := o) h1 h2
  rw [rc_no (by rw [h]), h]
theorem rcB_new {o : List Int} {S : Option (List Int × Int)} (h : ¬ (S.isSome = true ∧ blT S ≤ tm o)) (h2 : o.length = n) : rc (visB n) tm n (0 + 1) o S = some (o, tm o) := by
  have e := visB_new h h2
  rw [rc_yes (by rw [e]), e]
  exact lpF_id o n _
theorem rcB_on {D : Nat} {o : List Int} {S : Option (List Int × Int)} (h : ¬ (S.isSome = true ∧ blT S ≤ tm o)) (h2 : ¬ o.length = n) : rc (visB n) tm n (D + 1) o S = lpF (rc (visB n) tm n D) o n S := by
  have e := visB_on h h2
  rw [rc_yes (by rw [e]), e]
end
theorem step_own {P : Program} (w : World) {ops : Array Oper} {o : Oper} {a : Act} {K : Act → World → Prop} {Q : Exit → Act → World → Prop} {E : Prop} (hgd : o.guard = none) (s x : Operand) (t : TypeId)
    (ho : o.op = .call { callee := .builtin .append, args := #[s, x], argTypes := #[t, t] })
    (base : Nat) (e : TypeId) (i : TypeInfo) (z : Value) (size bytes : Nat) (ht : P.underlying t = some (.slice e)) (hi : P.info? e = some i) (hz : i.zero = some z)
    (hsize : i.size = size) (hby : i.bytes = bytes) (hzs : z.cells.size = size) (hsz : 0 < size)
    (v : Value) (n : Nat) (xs : List Value) (hs : a.eval s = v) (hown : w.ownsRow base e size v n xs)
    (ad : Addr) (m c : Nat) (news : List Value) (hx : a.eval x = .slice (some ad) m c) (hl : news.length = m * size) (hnews : ∀ j u, news[j]? = some u → w.cell? (ad.add j) = some u) (h1 : ∀ u ∈ news, u.oneCell' = true)
    (h63 : n + m ≤ maxLen) (hbytes : (n + m) * bytes ≤ 140737488355328) (hbase : base ≤ w.heap.size)
    (h : ∀ v' w', w'.ownsRow base e size v' (n + m) (xs ++ news) → w.grownBy w' v.ownBlock → K (a.put o.dst v') w') :
    if Region.wanted o (yielded ops a.tmps) = true then Oper.wp P o a w K Q else E := by
  have hw : Region.wanted o (yielded ops a.tmps) = true := by simp [Region.wanted, hgd]
  rw [if_pos hw]
  exact wp_append_own w s x t ho base e i z size bytes ht hi hz hsize hby hzs hsz v n xs hs hown ad m c news hx hl hnews h1 h63 hbytes hbase fun v' w' h2 h3 _ => h v' w' h2 h3
theorem kept_row {wr w1 w4 : World} {v : Value} {B g : Nat} {x : List Value} (hb : Below wr.heap.size wr w1) (hg : w1.grownBy w4 v.ownBlock) (ho : ∀ k, v.ownBlock = some k → wr.heap.size ≤ k) : Below wr.heap.size wr w4 := hb.grown hg hb.size ho

theorem one_kept {wr w1 : World} {k : Int} (hb : Below (wr.alloc (.cells #[.int .i64 k] 3)).drew.heap.size (wr.alloc (.cells #[.int .i64 k] 3)).drew w1) : ∀ j u, [Value.int .i64 k][j]? = some u → w1.cell? ((⟨wr.heap.size, 0, none⟩ : Addr).add j) = some u := by
  intro j u hu
  have h := cell_one_new wr (.int .i64 k) 3 j u hu
  rw [add_flat] at h ⊢
  exact (hb.cell (p := ⟨wr.heap.size, 0 + j, none⟩) (by show wr.heap.size < (wr.alloc _).heap.size; simp)).trans h
theorem size_alloc_le (w : World) (o : Obj) : w.heap.size ≤ (w.alloc o).heap.size := by simp
set_option maxRecDepth 100000 in
set_option maxHeartbeats 8000000 in
theorem csBest_any (m : Mc) (f : List Ca) (A : Option Addr) (c : Nat) (B : Nat) (hm : goodMc m = true) (hL : goodL f = true) (hpos : 0 < f.length) :
    ∀ (D : Nat) (o : List Int) (S : Option (List Int × Int)) (vo vb : Value) (w : World), CasIn w A f → OkO f.length o → o.length + D = f.length + 1 → FullB f.length S → (o = [] → S = none) → B ≤ w.heap.size →
      w.ownsRow B 3 1 vo o.length (intsZ o) → w.ownsRow B 3 1 vb (blS S).length (intsZ (blS S)) →
      Calls Try.prog 58 #[.agg #[.int .i64 m.bod, .int .i64 m.hou, .int .i64 m.cha], .slice A f.length c, vo, vb, .int .i64 (blT S)] w fun e w' => ∃ v', e = .returned (.tuple #[v', .int .i64 (blT (rc (visB f.length) (tmO m f) f.length D o S))]) ∧ Below w.heap.size w w' ∧ w'.ownsRow B 3 1 v' (blS (rc (visB f.length) (tmO m f) f.length D o S)).length (intsZ (blS (rc (visB f.length) (tmO m f) f.length D o S))) := by
  have h8 := (goodL_all hL).2
  have HG := Lib.hid hm; have HL := Lib.hid hL
  obtain ⟨i0, hi, hz0, hz1, hz2⟩ := info_parts info3
  have HI := Lib.hid hi; have HZ0 := Lib.hid hz0; have HZ1 := Lib.hid hz1; have HZ2 := Lib.hid hz2
  clear hi hz0 hz1 hz2 hm hL
  intro D
  induction D with
  | zero => intro o S vo vb w _ hok hlen; exact absurd (okO_len _ _ hok) (by omega)
  | succ D ih =>
    intro o S vo vb w hf hok hlen hS hroot hB hvo hvb
    have HIH := Lib.hid ih
    have HOK := Lib.hid hok
    have hol := okO_len _ _ hok
    have HF := Lib.hid hf; have HVO := Lib.hid hvo; have HVB := Lib.hid hvb; have HFB := Lib.hid hS
    obtain ⟨Ao, co, rfl⟩ := own_form hvo
    obtain ⟨Ab, cb, rfl⟩ := own_form hvb
    have HIN := Lib.hid (own_in hvo)
    have HBW : Hid (Below w.heap.size w (w.alloc (.cells #[.int .i64 m.bod, .int .i64 m.hou, .int .i64 m.cha] 32))) := Lib.hid ((Below.refl _ _).alloc (Nat.le_refl _) _)
    have HM : Hid (McAt (w.alloc (.cells #[.int .i64 m.bod, .int .i64 m.hou, .int .i64 m.cha] 32)) w.heap.size 32 m) := Lib.hid (McAt.new _ _ _)
    have HLA := Lib.hid (fun W h1 h2 => csLast_any m f A c o Ao co W h1 (by omega) h2 (by omega) HG.out HL.out (okO_in hok))
    have hrb := run_ok HG.out HL.out (okO_in hok) _ (Nat.le_refl _)
    rw [List.take_length] at hrb
    have hrt := hrb.2.1
    have HTM : Hid (tmO m f o = (run m f o).t) := Lib.hid rfl
    have hlb : (blS S).length = 0 ∧ S.isSome = false ∨ (blS S).length = f.length ∧ S.isSome = true := by
      cases S with
      | none => exact .inl ⟨rfl, rfl⟩
      | some p => exact .inr ⟨hS p rfl, rfl⟩
    clear ih hok hf hvo hvb hrb hS
    by_cases hfull : o.length = f.length
    · obtain rfl : D = 0 := by omega
      have hfi : ((o.length : Int) == (f.length : Int)) = true := by rw [beq_iff_eq]; omega
      have hnew := fun h => rcB_new (n := f.length) (tm := tmO m f) (o := o) (S := S) h hfull
      have hold := fun h1 h2 => rcB_old (n := f.length) (tm := tmO m f) (D := 0) (o := o) (S := S) h1 h2
      rw [HTM.out] at hnew hold
      have HNEW := Lib.hid hnew; have HOLD := Lib.hid hold
      clear hnew hold hfull
      go_enter Try.func58, Try.ntmps58
      go_wp2_with fail
      refine (HLA.out _ (HF.out.below HBW.out (Nat.le_refl _)) (HIN.out.below HBW.out (Nat.le_refl _))).mono ?_
      rintro e w1 ⟨rfl, hb1⟩
      have HB1 := Lib.hid (HBW.out.trans (hb1.mono HBW.out.size))
      have HVO1 := Lib.hid (own_below HVO.out HB1.out); have HVB1 := Lib.hid (own_below HVB.out HB1.out)
      clear hb1 HM HBW HLA
      generalize (run m f o).t = T at *
      rcases hlb with ⟨hl0, hs⟩ | ⟨hl0, hs⟩
      · have HR := Lib.hid (HNEW.out (by rw [hs]; rintro ⟨h, _⟩; cases h))
        have hlt : ((blS S).length : Int) < (f.length : Int) := by omega
        clear hs hl0
        generalize blT S = q at *
        go_wp2
        refine bodyPost_ret (v := .tuple #[.slice Ao o.length co, .int .i64 (T)]) (by simp [results, Try.results58, go_sem]) rfl ?_
        exact ⟨_, by rw [HR.out]; rfl, HB1.out, by rw [HR.out]; exact HVO1.out⟩
      · have hlt : ¬ ((blS S).length : Int) < (f.length : Int) := by omega
        clear hl0
        by_cases hle : blT S ≤ T
        · have HR := Lib.hid (HOLD.out hs hle)
          have hge : ¬ T < blT S := by omega
          clear hs hle
          generalize hq : blT S = q at *
          have HQ := Lib.hid hq
          clear hq
          go_wp2
          refine bodyPost_ret (v := .tuple #[.slice Ab (blS S).length cb, .int .i64 (q)]) (by simp [results, Try.results58, go_sem]) rfl ?_
          exact ⟨_, by rw [HR.out, HQ.out], HB1.out, by rw [HR.out]; exact HVB1.out⟩
        · have HR := Lib.hid (HNEW.out (fun h => hle h.2))
          have hge : T < blT S := by omega
          clear hs hle
          generalize blT S = q at *
          go_wp2
          refine bodyPost_ret (v := .tuple #[.slice Ao o.length co, .int .i64 (T)]) (by simp [results, Try.results58, go_sem]) rfl ?_
          exact ⟨_, by rw [HR.out]; rfl, HB1.out, by rw [HR.out]; exact HVO1.out⟩
    · have hfi : ((o.length : Int) == (f.length : Int)) = false := by rw [beq_eq_false_iff_ne]; omega
      have hon := fun h => rcB_on (n := f.length) (tm := tmO m f) (D := D) (o := o) (S := S) h hfull
      have hold := fun h1 h2 => rcB_old (n := f.length) (tm := tmO m f) (D := D) (o := o) (S := S) h1 h2
      rw [HTM.out] at hon hold
      have HONN := Lib.hid hon; have HOLD := Lib.hid hold
      clear hon hold hfull
      rcases hlb with ⟨hl0, hs⟩ | ⟨hl0, hs⟩
      · have HON := Lib.hid (HONN.out (by rw [hs]; rintro ⟨h, _⟩; cases h))
        have hlq : (((blS S).length : Int) == (f.length : Int)) = false := by rw [beq_eq_false_iff_ne]; omega
        have HVO1 := Lib.hid (own_below HVO.out HBW.out); have HVB1 := Lib.hid (own_below HVB.out HBW.out)
        clear hs HOLD HLA HONN hl0
        go_enter Try.func58, Try.ntmps58
        go_wp2
        go_loopw [3, 4, 59] (fun v t i wr => ∃ k : Nat, k ≤ f.length ∧ i = .int .i64 k ∧ t = .int .i64 (blT (lpF (rc (visB f.length) (tmO m f) f.length D) o k S)) ∧ wr.ownsRow B 3 1 v (blS (lpF (rc (visB f.length) (tmO m f) f.length D) o k S)).length (intsZ (blS (lpF (rc (visB f.length) (tmO m f) f.length D) o k S))) ∧ wr.ownsRow B 3 1 (.slice Ao o.length co) o.length (intsZ o) ∧ McAt wr w.heap.size 32 m ∧ Below w.heap.size w wr) (fun _ _ i _ => f.length - (intOf i).toNat)
        case atStart => exact ⟨0, Nat.zero_le _, rfl, rfl, HVB1.out, HVO1.out, HM.out, HBW.out⟩
        case round =>
          obtain ⟨k, hk, rfl, rfl, hv, hvo, hmm, hb⟩ := hrel
          have HV := Lib.hid hv; have HO := Lib.hid hvo; have HMM := Lib.hid hmm; have HB := Lib.hid hb
          have HLN := Lib.hid (lpB_len (n := f.length) (tm := tmO m f) (D := D) (o := o) HFB.out k)
          obtain ⟨Av, cv, rfl⟩ := own_form hv
          clear hvo hmm hb HVB1 HVO1 HM HBW hv
          obtain ⟨Sk, hSk⟩ : ∃ Sk, Sk = lpF (rc (visB f.length) (tmO m f) f.length D) o k S := ⟨_, rfl⟩
          have HSK := Lib.hid hSk
          rw [← hSk] at HV HLN ⊢
          clear hSk
          by_cases hlt : k < f.length
          · have hkl1 : (k : Int) < (f.length : Int) := by omega
            have hkl0 : (0 : Int) ≤ (k : Int) := by omega
            have hin5 := own_in HO.out
            go_wp2_with fail
            refine (l1Has_any o Ao co (k : Int) _ hin5 (by omega)).mono ?_
            rintro e w' ⟨rfl, rfl⟩
            cases hh : hasB o (k : Int)
            rotate_left
            · have HSP := Lib.hid (lpF_skip (rec := (rc (visB f.length) (tmO m f) f.length D)) (s := S) hh)
              have HE : Hid (lpF (rc (visB f.length) (tmO m f) f.length D) o (k + 1) S = Sk) := Lib.hid (by rw [HSP.out, ← HSK.out])
              clear hh hin5
              generalize hq : blT Sk = q at *
              have HQ := Lib.hid hq
              clear hq
              go_wp2
              go_roundw
              case rel => exact ⟨k + 1, by omega, by go_num, by rw [HE.out, HQ.out], by rw [HE.out]; exact HV.out, HO.out, HMM.out, HB.out⟩
              case measure => simp [intOf]; omega
            · have HSP := Lib.hid (lpF_step (rec := (rc (visB f.length) (tmO m f) f.length D)) (s := S) hh)
              have HE : Hid (lpF (rc (visB f.length) (tmO m f) f.length D) o (k + 1) S = rc (visB f.length) (tmO m f) f.length D (o ++ [(k : Int)]) Sk) := Lib.hid (by rw [HSP.out, ← HSK.out])
              have hok2 := okO_snoc HOK.out hlt hh
              have HOK2 := Lib.hid hok2
              have hmx : o.length + 1 ≤ maxLen := by unfold maxLen; omega
              have hBr : B ≤ wr.heap.size := by have := HB.out.size; omega
              have HCALL := Lib.hid (fun (v2 : Value) (w4 : World) (h1 : CasIn w4 A f) (h2 : B ≤ w4.heap.size) (h3 : w4.ownsRow B 3 1 v2 (o.length + 1) (intsZ o ++ [.int .i64 (k : Int)])) (h4 : w4.ownsRow B 3 1 (.slice Av (blS Sk).length cv) (blS Sk).length (intsZ (blS Sk))) => HIH.out (o ++ [(k : Int)]) Sk v2 (.slice Av (blS Sk).length cv) w4 h1 HOK2.out (by rw [List.length_append]; show o.length + 1 + D = _; omega) HLN.out (fun h => absurd (congrArg List.length h) (by simp)) h2 (by rw [List.length_append, intsZ_snoc]; exact h3) h4)
              obtain ⟨m0, m1, m2⟩ := HMM.out.cells
              have ml := HMM.out.lt
              have hszA : wr.heap.size ≤ (wr.alloc (.cells #[.int .i64 (k : Int)] 3)).drew.heap.size := by show wr.heap.size ≤ (wr.alloc _).heap.size; simp
              clear hh hok2 hin5
              go_wp2_with fail
              go_region_law (first
                | (go_simp; go_at_call 74; refine (l1OwnR_any o (base := B) wr.drew HO.out.drew (by omega)).mono ?_; intro e w1 hto; obtain ⟨v1, rfl, hb1, hown1⟩ := hto; have hbW : Below wr.heap.size wr w1 := ((Below.refl wr.heap.size wr).drew).trans (hb1.mono (Nat.le_refl _)); have HO1 : Hid (w1.ownsRow wr.heap.size 3 1 v1 o.length (intsZ o)) := Lib.hid hown1; have HBW1 := Lib.hid hbW; have HM1 := Lib.hid (HMM.out.next hbW); have HB1 := Lib.hid (HB.out.trans (hbW.mono HB.out.size)); have HV1 := Lib.hid (own_below HV.out hbW); obtain ⟨m0, m1, m2⟩ := HM1.out.cells; have ml := HM1.out.lt; clear hb1 hown1 hbW)
                | (go_simp; go_at_call 74; refine (l1OwnR_any o (base := B) (wr.alloc (.cells #[.int .i64 (k : Int)] 3)).drew (HO.out.alloc (.cells #[.int .i64 (k : Int)] 3)).drew (by omega)).mono ?_; intro e w1 hto; obtain ⟨v1, rfl, hb1, hown1⟩ := hto; have hbW : Below wr.heap.size wr w1 := (((Below.refl wr.heap.size wr).alloc (Nat.le_refl _) (.cells #[.int .i64 (k : Int)] 3)).drew).trans (hb1.mono hszA); have HO1 : Hid (w1.ownsRow wr.heap.size 3 1 v1 o.length (intsZ o)) := Lib.hid (Joins.ownsRow_le (base' := wr.heap.size) hown1 hszA); have HC1 : Hid (∀ j u, [Value.int .i64 (k : Int)][j]? = some u → w1.cell? ((⟨wr.heap.size, 0, none⟩ : Addr).add j) = some u) := Lib.hid (one_kept hb1); have HBW1 := Lib.hid hbW; have HM1 := Lib.hid (HMM.out.next hbW); have HB1 := Lib.hid (HB.out.trans (hbW.mono HB.out.size)); have HV1 := Lib.hid (own_below HV.out hbW); obtain ⟨m0, m1, m2⟩ := HM1.out.cells; have ml := HM1.out.lt; clear hb1 hown1 hbW)
                | (refine step_own (w1.alloc (.cells #[.int .i64 (k : Int)] 3)) (by rfl) _ _ 42 (by rfl) wr.heap.size 3 i0 (.int .i64 0) 1 8 Try.underlying42 HI.out HZ0.out HZ1.out HZ2.out rfl (by decide) v1 o.length (intsZ o) (by rfl) (HO1.out.alloc _) ⟨w1.heap.size, 0, none⟩ 1 1 [.int .i64 (k : Int)] (by rfl) rfl (cell_one_new _ _ _) (by simp [Value.oneCell']) hmx (by omega) (Nat.le_trans HBW1.out.size (size_alloc_le _ _)) ?_; intro v2 w4 hown' hgrow; have hb4 : Below wr.heap.size wr w4 := (HBW1.out.alloc HBW1.out.size (.cells #[.int .i64 (k : Int)] 3)).grown hgrow (Nat.le_trans HBW1.out.size (size_alloc_le _ _)) (own_lt HO1.out); have HM4 := Lib.hid (HMM.out.next hb4); have HV4 := Lib.hid (own_below HV.out hb4); have HB4 := Lib.hid (HB.out.trans (hb4.mono HB.out.size)); have HBR := Lib.hid hb4; have HN4 := Lib.hid (Joins.ownsRow_le (base' := B) hown' hBr); obtain ⟨m0, m1, m2⟩ := HM4.out.cells; have ml := HM4.out.lt; clear hown' hgrow hb4)
                | (refine step_own w1 (by rfl) _ _ 42 (by rfl) wr.heap.size 3 i0 (.int .i64 0) 1 8 Try.underlying42 HI.out HZ0.out HZ1.out HZ2.out rfl (by decide) v1 o.length (intsZ o) (by rfl) HO1.out ⟨wr.heap.size, 0, none⟩ 1 1 [.int .i64 (k : Int)] (by rfl) rfl HC1.out (by simp [Value.oneCell']) hmx (by omega) HBW1.out.size ?_; intro v2 w4 hown' hgrow; have hb4 : Below wr.heap.size wr w4 := HBW1.out.grown hgrow HBW1.out.size (own_lt HO1.out); have HM4 := Lib.hid (HMM.out.next hb4); have HV4 := Lib.hid (own_below HV.out hb4); have HB4 := Lib.hid (HB.out.trans (hb4.mono HB.out.size)); have HBR := Lib.hid hb4; have HN4 := Lib.hid (Joins.ownsRow_le (base' := B) hown' hBr); obtain ⟨m0, m1, m2⟩ := HM4.out.cells; have ml := HM4.out.lt; clear hown' hgrow hb4)
                | (go_simp; go_at_call 58; refine (HCALL.out v2 w4 (HF.out.below HB4.out (Nat.le_refl _)) (Nat.le_trans hBr HBR.out.size) HN4.out HV4.out).mono ?_; intro e w5 hto; obtain ⟨v5, rfl, hb5, hown5⟩ := hto; have hbF := HBR.out.trans (hb5.mono HBR.out.size); clear m0 m1 m2 ml))
              all_goals
                have HR5 := Lib.hid hown5
                have HO5 := Lib.hid (own_below HO.out hbF); have HM5 := Lib.hid (HMM.out.next hbF); have HB5 := Lib.hid (HB.out.trans (hbF.mono HB.out.size))
                clear hown5 hbF
                obtain ⟨S5, hS5⟩ : ∃ S5, S5 = rc (visB f.length) (tmO m f) f.length D (o ++ [(k : Int)]) Sk := ⟨_, rfl⟩
                rw [← hS5] at HR5 HE ⊢
                clear hS5
                obtain ⟨q, hq⟩ : ∃ q, q = blT S5 := ⟨_, rfl⟩
                have HQ := Lib.hid hq
                rw [← hq]
                clear hq
                go_wp2
                go_roundw
                case rel => exact ⟨k + 1, by omega, by go_num, by rw [HE.out, HQ.out], by rw [HE.out]; exact HR5.out, HO5.out, HM5.out, HB5.out⟩
                case measure => simp [intOf]; omega
          · obtain rfl : k = f.length := by omega
            have HR := Lib.hid (HON.out.trans HSK.out.symm)
            generalize hq : blT Sk = q at *
            have HQ := Lib.hid hq
            clear hq
            go_wp2
            refine bodyPost_ret (v := .tuple #[.slice Av (blS Sk).length cv, .int .i64 (q)]) (by simp [results, Try.results58, go_sem]) rfl ?_
            exact ⟨_, by rw [HR.out, HQ.out], HB.out, by rw [HR.out]; exact HV.out⟩
      · have hlq : (((blS S).length : Int) == (f.length : Int)) = true := by rw [beq_iff_eq]; omega
        have hop : 0 < o.length := by
          rcases Nat.eq_zero_or_pos o.length with h | h
          · have := hroot (List.length_eq_zero_iff.1 h)
            rw [this] at hs; cases hs
          · exact h
        have hopi : (0 : Int) < (o.length : Int) := by omega
        clear hroot hl0
        go_enter Try.func58, Try.ntmps58
        go_wp2_with fail
        refine (HLA.out _ (HF.out.below HBW.out (Nat.le_refl _)) (HIN.out.below HBW.out (Nat.le_refl _))).mono ?_
        rintro e w1 ⟨rfl, hb1⟩
        have HB1 := Lib.hid (HBW.out.trans (hb1.mono HBW.out.size))
        have HVO1 := Lib.hid (own_below HVO.out HB1.out); have HVB1 := Lib.hid (own_below HVB.out HB1.out)
        have HM1 := Lib.hid (HM.out.next hb1)
        clear hb1 HM HBW HLA
        have HM := HM1; have HBW := HB1
        clear HM1 HB1
        obtain ⟨T, hT⟩ : ∃ T, T = (run m f o).t := ⟨_, rfl⟩
        rw [← hT] at hrt HOLD HONN ⊢
        clear hT HTM
        by_cases hle : blT S ≤ T
        · have HR := Lib.hid (HOLD.out hs hle)
          clear hs
          generalize hq : blT S = q at *
          have HQ := Lib.hid hq
          clear hq
          go_wp2
          refine bodyPost_ret (v := .tuple #[.slice Ab (blS S).length cb, .int .i64 (q)]) (by simp [results, Try.results58, go_sem]) rfl ?_
          exact ⟨_, by rw [HR.out, HQ.out], HBW.out, by rw [HR.out]; exact HVB1.out⟩
        · have HON := Lib.hid (HONN.out (fun h => hle h.2))
          clear hs HOLD HONN
          go_wp2
          go_loopw [3, 4, 59] (fun v t i wr => ∃ k : Nat, k ≤ f.length ∧ i = .int .i64 k ∧ t = .int .i64 (blT (lpF (rc (visB f.length) (tmO m f) f.length D) o k S)) ∧ wr.ownsRow B 3 1 v (blS (lpF (rc (visB f.length) (tmO m f) f.length D) o k S)).length (intsZ (blS (lpF (rc (visB f.length) (tmO m f) f.length D) o k S))) ∧ wr.ownsRow B 3 1 (.slice Ao o.length co) o.length (intsZ o) ∧ McAt wr w.heap.size 32 m ∧ Below w.heap.size w wr) (fun _ _ i _ => f.length - (intOf i).toNat)
          case atStart => exact ⟨0, Nat.zero_le _, rfl, rfl, HVB1.out, HVO1.out, HM.out, HBW.out⟩
          case round =>
            obtain ⟨k, hk, rfl, rfl, hv, hvo, hmm, hb⟩ := hrel
            have HV := Lib.hid hv; have HO := Lib.hid hvo; have HMM := Lib.hid hmm; have HB := Lib.hid hb
            have HLN := Lib.hid (lpB_len (n := f.length) (tm := tmO m f) (D := D) (o := o) HFB.out k)
            obtain ⟨Av, cv, rfl⟩ := own_form hv
            clear hvo hmm hb HVB1 HVO1 HM HBW hv
            obtain ⟨Sk, hSk⟩ : ∃ Sk, Sk = lpF (rc (visB f.length) (tmO m f) f.length D) o k S := ⟨_, rfl⟩
            have HSK := Lib.hid hSk
            rw [← hSk] at HV HLN ⊢
            clear hSk
            by_cases hlt : k < f.length
            · have hkl1 : (k : Int) < (f.length : Int) := by omega
              have hkl0 : (0 : Int) ≤ (k : Int) := by omega
              have hin5 := own_in HO.out
              go_wp2_with fail
              refine (l1Has_any o Ao co (k : Int) _ hin5 (by omega)).mono ?_
              rintro e w' ⟨rfl, rfl⟩
              cases hh : hasB o (k : Int)
              rotate_left
              · have HSP := Lib.hid (lpF_skip (rec := (rc (visB f.length) (tmO m f) f.length D)) (s := S) hh)
                have HE : Hid (lpF (rc (visB f.length) (tmO m f) f.length D) o (k + 1) S = Sk) := Lib.hid (by rw [HSP.out, ← HSK.out])
                clear hh hin5
                generalize hq : blT Sk = q at *
                have HQ := Lib.hid hq
                clear hq
                go_wp2
                go_roundw
                case rel => exact ⟨k + 1, by omega, by go_num, by rw [HE.out, HQ.out], by rw [HE.out]; exact HV.out, HO.out, HMM.out, HB.out⟩
                case measure => simp [intOf]; omega
              · have HSP := Lib.hid (lpF_step (rec := (rc (visB f.length) (tmO m f) f.length D)) (s := S) hh)
                have HE : Hid (lpF (rc (visB f.length) (tmO m f) f.length D) o (k + 1) S = rc (visB f.length) (tmO m f) f.length D (o ++ [(k : Int)]) Sk) := Lib.hid (by rw [HSP.out, ← HSK.out])
                have hok2 := okO_snoc HOK.out hlt hh
                have HOK2 := Lib.hid hok2
                have hmx : o.length + 1 ≤ maxLen := by unfold maxLen; omega
                have hBr : B ≤ wr.heap.size := by have := HB.out.size; omega
                have HCALL := Lib.hid (fun (v2 : Value) (w4 : World) (h1 : CasIn w4 A f) (h2 : B ≤ w4.heap.size) (h3 : w4.ownsRow B 3 1 v2 (o.length + 1) (intsZ o ++ [.int .i64 (k : Int)])) (h4 : w4.ownsRow B 3 1 (.slice Av (blS Sk).length cv) (blS Sk).length (intsZ (blS Sk))) => HIH.out (o ++ [(k : Int)]) Sk v2 (.slice Av (blS Sk).length cv) w4 h1 HOK2.out (by rw [List.length_append]; show o.length + 1 + D = _; omega) HLN.out (fun h => absurd (congrArg List.length h) (by simp)) h2 (by rw [List.length_append, intsZ_snoc]; exact h3) h4)
                obtain ⟨m0, m1, m2⟩ := HMM.out.cells
                have ml := HMM.out.lt
                have hszA : wr.heap.size ≤ (wr.alloc (.cells #[.int .i64 (k : Int)] 3)).drew.heap.size := by show wr.heap.size ≤ (wr.alloc _).heap.size; simp
                clear hh hok2 hin5
                go_wp2_with fail
                go_region_law (first
                  | (go_simp; go_at_call 74; refine (l1OwnR_any o (base := B) wr.drew HO.out.drew (by omega)).mono ?_; intro e w1 hto; obtain ⟨v1, rfl, hb1, hown1⟩ := hto; have hbW : Below wr.heap.size wr w1 := ((Below.refl wr.heap.size wr).drew).trans (hb1.mono (Nat.le_refl _)); have HO1 : Hid (w1.ownsRow wr.heap.size 3 1 v1 o.length (intsZ o)) := Lib.hid hown1; have HBW1 := Lib.hid hbW; have HM1 := Lib.hid (HMM.out.next hbW); have HB1 := Lib.hid (HB.out.trans (hbW.mono HB.out.size)); have HV1 := Lib.hid (own_below HV.out hbW); obtain ⟨m0, m1, m2⟩ := HM1.out.cells; have ml := HM1.out.lt; clear hb1 hown1 hbW)
                  | (go_simp; go_at_call 74; refine (l1OwnR_any o (base := B) (wr.alloc (.cells #[.int .i64 (k : Int)] 3)).drew (HO.out.alloc (.cells #[.int .i64 (k : Int)] 3)).drew (by omega)).mono ?_; intro e w1 hto; obtain ⟨v1, rfl, hb1, hown1⟩ := hto; have hbW : Below wr.heap.size wr w1 := (((Below.refl wr.heap.size wr).alloc (Nat.le_refl _) (.cells #[.int .i64 (k : Int)] 3)).drew).trans (hb1.mono hszA); have HO1 : Hid (w1.ownsRow wr.heap.size 3 1 v1 o.length (intsZ o)) := Lib.hid (Joins.ownsRow_le (base' := wr.heap.size) hown1 hszA); have HC1 : Hid (∀ j u, [Value.int .i64 (k : Int)][j]? = some u → w1.cell? ((⟨wr.heap.size, 0, none⟩ : Addr).add j) = some u) := Lib.hid (one_kept hb1); have HBW1 := Lib.hid hbW; have HM1 := Lib.hid (HMM.out.next hbW); have HB1 := Lib.hid (HB.out.trans (hbW.mono HB.out.size)); have HV1 := Lib.hid (own_below HV.out hbW); obtain ⟨m0, m1, m2⟩ := HM1.out.cells; have ml := HM1.out.lt; clear hb1 hown1 hbW)
                  | (refine step_own (w1.alloc (.cells #[.int .i64 (k : Int)] 3)) (by rfl) _ _ 42 (by rfl) wr.heap.size 3 i0 (.int .i64 0) 1 8 Try.underlying42 HI.out HZ0.out HZ1.out HZ2.out rfl (by decide) v1 o.length (intsZ o) (by rfl) (HO1.out.alloc _) ⟨w1.heap.size, 0, none⟩ 1 1 [.int .i64 (k : Int)] (by rfl) rfl (cell_one_new _ _ _) (by simp [Value.oneCell']) hmx (by omega) (Nat.le_trans HBW1.out.size (size_alloc_le _ _)) ?_; intro v2 w4 hown' hgrow; have hb4 : Below wr.heap.size wr w4 := (HBW1.out.alloc HBW1.out.size (.cells #[.int .i64 (k : Int)] 3)).grown hgrow (Nat.le_trans HBW1.out.size (size_alloc_le _ _)) (own_lt HO1.out); have HM4 := Lib.hid (HMM.out.next hb4); have HV4 := Lib.hid (own_below HV.out hb4); have HB4 := Lib.hid (HB.out.trans (hb4.mono HB.out.size)); have HBR := Lib.hid hb4; have HN4 := Lib.hid (Joins.ownsRow_le (base' := B) hown' hBr); obtain ⟨m0, m1, m2⟩ := HM4.out.cells; have ml := HM4.out.lt; clear hown' hgrow hb4)
                  | (refine step_own w1 (by rfl) _ _ 42 (by rfl) wr.heap.size 3 i0 (.int .i64 0) 1 8 Try.underlying42 HI.out HZ0.out HZ1.out HZ2.out rfl (by decide) v1 o.length (intsZ o) (by rfl) HO1.out ⟨wr.heap.size, 0, none⟩ 1 1 [.int .i64 (k : Int)] (by rfl) rfl HC1.out (by simp [Value.oneCell']) hmx (by omega) HBW1.out.size ?_; intro v2 w4 hown' hgrow; have hb4 : Below wr.heap.size wr w4 := HBW1.out.grown hgrow HBW1.out.size (own_lt HO1.out); have HM4 := Lib.hid (HMM.out.next hb4); have HV4 := Lib.hid (own_below HV.out hb4); have HB4 := Lib.hid (HB.out.trans (hb4.mono HB.out.size)); have HBR := Lib.hid hb4; have HN4 := Lib.hid (Joins.ownsRow_le (base' := B) hown' hBr); obtain ⟨m0, m1, m2⟩ := HM4.out.cells; have ml := HM4.out.lt; clear hown' hgrow hb4)
                  | (go_simp; go_at_call 58; refine (HCALL.out v2 w4 (HF.out.below HB4.out (Nat.le_refl _)) (Nat.le_trans hBr HBR.out.size) HN4.out HV4.out).mono ?_; intro e w5 hto; obtain ⟨v5, rfl, hb5, hown5⟩ := hto; have hbF := HBR.out.trans (hb5.mono HBR.out.size); clear m0 m1 m2 ml))
                all_goals
                  have HR5 := Lib.hid hown5
                  have HO5 := Lib.hid (own_below HO.out hbF); have HM5 := Lib.hid (HMM.out.next hbF); have HB5 := Lib.hid (HB.out.trans (hbF.mono HB.out.size))
                  clear hown5 hbF
                  obtain ⟨S5, hS5⟩ : ∃ S5, S5 = rc (visB f.length) (tmO m f) f.length D (o ++ [(k : Int)]) Sk := ⟨_, rfl⟩
                  rw [← hS5] at HR5 HE ⊢
                  clear hS5
                  obtain ⟨q, hq⟩ : ∃ q, q = blT S5 := ⟨_, rfl⟩
                  have HQ := Lib.hid hq
                  rw [← hq]
                  clear hq
                  go_wp2
                  go_roundw
                  case rel => exact ⟨k + 1, by omega, by go_num, by rw [HE.out, HQ.out], by rw [HE.out]; exact HR5.out, HO5.out, HM5.out, HB5.out⟩
                  case measure => simp [intOf]; omega
            · obtain rfl : k = f.length := by omega
              have HR := Lib.hid (HON.out.trans HSK.out.symm)
              generalize hq : blT Sk = q at *
              have HQ := Lib.hid hq
              clear hq
              go_wp2
              refine bodyPost_ret (v := .tuple #[.slice Av (blS Sk).length cv, .int .i64 (q)]) (by simp [results, Try.results58, go_sem]) rfl ?_
              exact ⟨_, by rw [HR.out, HQ.out], HB.out, by rw [HR.out]; exact HV.out⟩
end Go.Proofs.Ytpocghcdfpcedaa
