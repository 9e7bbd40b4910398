/-
  The contract of impl.RulesOf.
-/
import Derived.Test.YtljakcfdjcjdbaaRl
import Derived.Test.YtljakcfdjcjdbaaRj
namespace Go.Proofs.Ytljakcfdjcjdbaa
open Go.RowKit
set_option linter.unusedVariables false

theorem run_makeN (n : Nat) (hn : n ≤ 1000) (w : World) :
    (Instr.makeSlice 45 (.int .i64 (n : Int)) (.int .i64 (n : Int))).run Try.prog w = .ok (.slice (some ⟨w.heap.size, 0, none⟩) n n) (w.alloc (.cells (madeCells #[.slice none 0 0] (n * 1)) 31)) := by
  obtain ⟨i0, hi, hz0, hz1, hz2⟩ := info_parts info_sl
  have h := run_make (P := Try.prog) w 45 31 i0 _ Try.underlying45 hi hz0 .i64 .i64 (n : Int) (n : Int) (by omega) (Int.le_refl _) (by rw [hz2]; omega) (by omega)
  rw [hz1, Int.toNat_natCast] at h
  exact h
theorem made_sl (w : World) (n : Nat) (t : TypeId) : Tb (w.alloc (.cells (madeCells #[.slice none 0 0] (n * 1)) t)) w.heap.size t n (fun _ => .slice none 0 0) :=
  ⟨_, heap_new _ _, by simp [madeCells], fun j hj => by simp [madeCells, hj, Nat.mod_one]⟩
theorem chS_at {Z : Nat} {f : List Sl} {ls : List Int} : ∀ k i (h : i < f.length), ((chS Z f ls k)[i]'(by rw [chS_len]; exact h)).len = f[i].len
  | 0, i, h => rfl
  | k + 1, i, h => by
    have e := nxtS_get Z (f := chS Z f ls k) (n := (ls.getD k 0).toNat) (i := i) (by rw [chS_len]; exact h)
    have ih := chS_at (Z := Z) (f := f) (ls := ls) k i h
    exact (congrArg Sl.len e).trans ih
/-- What the rule's map says is what spec counts. -/
theorem rlT_cR {P : List Sl} (hP : GoodS P) {n : Nat} (a : Int) : (rlT P n P.length a).getD 0 = cR 401 P.reverse n a := by
  by_cases h : ∃ i, ∃ hi : i < P.length, a = P[i].len
  · obtain ⟨i, hi, rfl⟩ := h
    rw [cR_ru hP hi]
    have e := slipD_at (f := P) (d := P.length - 1 - i) (j := i) (by omega) (by omega)
    rw [← e, rlT_at hP P.length (Nat.le_refl _) _ (by omega)]
    rfl
  · have hne : ∀ i (hi : i < P.length), a ≠ P[i].len := fun i hi e => h ⟨i, hi, e⟩
    rw [cR_zero (fun y hy => by
      obtain ⟨j, hj, rfl⟩ := List.mem_iff_getElem.1 (List.mem_reverse.1 hy)
      exact (hne j hj).symm)]
    have : ∀ d, d ≤ P.length → rlT P n d a = none := fun d => by
      induction d with
      | zero => exact fun _ => rfl
      | succ d ih =>
        intro hd
        show upM (rlT P n d) (slipD P d).len _ a = none
        rw [upM_other (by rw [slipD_at (f := P) (d := d) (by omega) rfl]; exact hne _ _), ih (by omega)]
    rw [this P.length (Nat.le_refl _)]; rfl
theorem cnt_chain {f P : List Sl} (hf : GoodS f) (hP : GoodS P) {ls : List Int} {k n : Nat} (hok : OkS 1048576 f ls k) (ht : thin P = thin (chS 1048576 f ls k)) (hn : (ls.getD k 0).toNat = n) (hfw : FW 401 P n < 401) (h4 : n ≤ 400) : cntM (rlT P n P.length) f = ruK 1048576 f ls k := by
  have hG := chS_good hf k hok
  have hfw2 : FW 401 (chS 1048576 f ls k) n < 401 := by rw [← FW_same hP hG ht]; exact hfw
  refine List.ext_getElem (by rw [cntM_len, ruK_len]) fun i h1 h2 => ?_
  rw [cntM_len] at h1
  have hi : i < (chS 1048576 f ls k).length := by rw [chS_len]; exact h1
  rw [cntM_get h1, rlT_cR hP, cR_same hP hG ht, ← chS_at (Z := 1048576) (ls := ls) k i h1, cR_ru hG hi]
  unfold ruK
  simp only [hn, ← ruL_same (Z := 1048576) (by omega) hG hfw2, ruL_get]
/-- .. and the stocks stay alike. -/
theorem thin_nxt {f P : List Sl} (hf : GoodS f) (hP : GoodS P) {n : Nat} (ht : thin P = thin f) (hfw : FW 401 P n < 401) : thin (thin (nxtS 401 P n)) = thin (nxtS 1048576 f n) := by
  have hfw2 : FW 401 f n < 401 := by rw [← FW_same hP hf ht]; exact hfw
  have e0 : nxtS 1048576 f n = nxtS 401 f n := by unfold nxtS; rw [ruL_same (Z := 1048576) (by omega) hf hfw2]
  rw [e0]
  have g1 := nxtS_good hP hfw; have g2 := nxtS_good hf hfw2
  have e1 : thin (thin (nxtS 401 P n)) = thin (nxtS 401 P n) := by unfold thin; rw [List.filter_filter]; simp
  rw [e1]
  refine rise_ext (thin_good g1).risen (thin_good g2).risen fun a => ?_
  rw [← mpT_nxt hP hfw, ← mpT_nxt hf hfw2]
  -- both maps say what is there less what the rule takes
  have key : ∀ {q : List Sl} (hq : GoodS q), mpT q n q.length a = if (asM (thin q) a).getD 0 - cR 401 q.reverse n a = 0 then none else some ((asM (thin q) a).getD 0 - cR 401 q.reverse n a) := fun {q} hq => by
    have ea : (asM (thin q) a).getD 0 = (asM q a).getD 0 := by
      rw [thin_as hq.risen]
      split
      · rename_i h; rw [h]; rfl
      · rfl
    rw [ea]
    by_cases h : ∃ i, ∃ hi : i < q.length, a = q[i].len
    · obtain ⟨i, hi, rfl⟩ := h
      have hd := mpT_done hq (n := n) q.length (Nat.le_refl _) (q.length - 1 - i) (by omega)
      rw [slipD_at (f := q) (d := q.length - 1 - i) (j := i) (by omega) (by omega)] at hd
      rw [hd, asM_mem hq.risen (List.getElem_mem hi), cR_ru hq hi]
      rfl
    · have hne : ∀ i (hi : i < q.length), a ≠ q[i].len := fun i hi e => h ⟨i, hi, e⟩
      rw [mpT_other q.length (fun e he => by rw [slipD_at (f := q) (d := e) (by omega) rfl]; exact hne _ _)]
      rw [asM_none (fun x hx => by
        obtain ⟨j, hj, rfl⟩ := List.mem_iff_getElem.1 hx
        exact (hne j hj).symm), cR_zero (fun y hy => by
        obtain ⟨j, hj, rfl⟩ := List.mem_iff_getElem.1 (List.mem_reverse.1 hy)
        exact (hne j hj).symm)]
      rfl
  rw [key hP, key hf, ht, cR_same hP hf ht]
/-- What several rules answer. -/
noncomputable def rsB (f : List Sl) (ls : List Int) : Bool := stkB f && (lenB ls && okB 1048576 f ls)
def hsV (M : Nat) (hs : Nat → Nat) (n : Nat) : List Value := (List.range n).map fun i => .slice (some ⟨hs i, 0, none⟩) M M
theorem hsV_get {M n i : Nat} {hs : Nat → Nat} (h : i < n) : (hsV M hs n)[i]? = some (.slice (some ⟨hs i, 0, none⟩) M M) := by simp [hsV, h]
/-- A slice of rows of ints that are all their own: the outer row and every inner row lie from base on, and no two are one. -/
structure GI (w : World) (base : Nat) (A : Option Addr) (N c M : Nat) (hs : Nat → Nat) (rw : Nat → List Int) : Prop where
  outer : w.ownsRow base 31 1 (.slice A N c) N (hsV M hs N)
  rows : ∀ i, i < N → (rw i).length = M ∧ w.ownsRow base 3 1 (.slice (some ⟨hs i, 0, none⟩) M M) M (intsZ (rw i))
  out : ∀ i, i < N → ∀ q, (Value.slice A N c).ownBlock = some q → q ≠ hs i
  inc : ∀ i j, i < j → j < N → hs i ≠ hs j
theorem GI.none (w : World) (base M : Nat) (hs : Nat → Nat) (rw : Nat → List Int) : GI w base none 0 0 M hs rw :=
  ⟨own_nil _ _ _ _, fun i hi => by omega, fun i hi => by omega, fun i j _ hj => by omega⟩
noncomputable def rsN (f : List Sl) (ls : List Int) : Nat := if rsB f ls then ls.length else 0
theorem rsN_no {f : List Sl} {ls : List Int} (h : rsB f ls = false) : rsN f ls = 0 := by unfold rsN; rw [h]; rfl
theorem rsN_yes {f : List Sl} {ls : List Int} (h : rsB f ls = true) : rsN f ls = ls.length := by unfold rsN; rw [h]; rfl
def RiTo (f : List Sl) (ls : List Int) (w w' : World) (e : Ending) : Prop :=
  ∃ A c hs, e = .returned (.tuple #[.slice A (rsN f ls) c, .bool (rsB f ls)]) ∧ Below w.heap.size w w' ∧ GI w' w.heap.size A (rsN f ls) c f.length hs (ruK 1048576 f ls)
theorem RiTo.no {f : List Sl} {ls : List Int} {w w' : World} (h : rsB f ls = false) (hb : Below w.heap.size w w') : RiTo f ls w w' (.returned (.tuple #[.slice none 0 0, .bool false])) := by
  refine ⟨none, 0, fun _ => 0, by rw [h, rsN_no h], hb, ?_⟩
  rw [rsN_no h]; exact GI.none _ _ _ _ _
theorem tb_row {w : World} {b base n : Nat} {l : List Int} {fn : Nat → Value} (hn : l.length = n) (h : Tb w b 3 n fn) (hb : base ≤ b) (h4 : n ≤ 1048576) (he : ∀ j, j < n → fn j = .int .i64 (l.getD j 0)) : w.ownsRow base 3 1 (.slice (some ⟨b, 0, none⟩) n n) n (intsZ l) := by
  subst hn
  exact Tb.own (l := l) h hb (by unfold maxLen; omega) (fun j hj => by rw [he j hj, getI hj])
set_option maxRecDepth 100000 in
set_option maxHeartbeats 2000000 in
theorem implRulesOf_any (f : List Sl) (A : Addr) (c : Nat) (ls : List Int) (B : Option Addr) (d : Nat) (w : World) (hf : SlsIn w (some A) f) (hn : f.length ≤ 1048576) (hl : IntsIn w B ls) (hm : ls.length ≤ 1048576) :
    Calls Try.prog 38 #[.slice (some A) f.length c, .slice B ls.length d] w fun e w' => RiTo f ls w w' e := by
  have HF := Lib.hid hf; have HL := Lib.hid hl; clear hf hl
  go_enter Try.func38, Try.ntmps38
  go_wp2_with fail
  refine (implIsStock_any f _ c _ HF.out hn).mono ?_
  rintro e w1 ⟨rfl, hb1⟩
  have HB1 := Lib.hid hb1; clear hb1
  cases hg : stkB f
  · have HV : Hid (rsB f ls = false) := Lib.hid (by unfold rsB; rw [hg]; rfl)
    clear hg
    go_wp2
    go_ret2
    exact RiTo.no HV.out HB1.out
  have HG := Lib.hid (stkB_iff.1 hg)
  have HGB := Lib.hid hg; clear hg
  have hn8 := HG.out.eight
  go_wp2_with fail
  refine (areRuleLengths_any ls B d w1 (HL.out.below HB1.out (Nat.le_refl _)) hm).mono ?_
  rintro e w' ⟨rfl, rfl⟩
  cases hi : lenB ls
  · have HV : Hid (rsB f ls = false) := Lib.hid (by unfold rsB; rw [hi]; simp)
    clear hi
    go_wp2
    go_ret2
    exact RiTo.no HV.out HB1.out
  have HLB := Lib.hid (lenB_iff.1 hi)
  have HV : Hid (rsB f ls = okB 1048576 f ls) := Lib.hid (by unfold rsB; rw [HGB.out, hi]; simp)
  have h6 := HLB.out.1
  clear hi
  have hb2 : Below w1.heap.size w1 (w1.alloc (.cells #[.slice (some A) f.length c] 25)) := (Below.refl _ _).alloc (Nat.le_refl _) _
  have HB2 := Lib.hid (HB1.out.trans (hb2.mono HB1.out.size))
  have HFL : Hid ([f].flatten = f) := Lib.hid (by simp)
  have HHD : Hid (Hdrs (w1.alloc (.cells #[.slice (some A) f.length c] 25)) w1.heap.size [f]) := Lib.hid ⟨by simp, fun i hi => by
    obtain rfl : i = 0 := by simpa using hi
    exact ⟨A, c, by rw [cell_of_heap (heap_new _ _)]; rfl, HF.out.below HB2.out (Nat.le_refl _)⟩⟩
  have HPC : Hid (Calls Try.prog 66 #[.slice (some ⟨w1.heap.size, 0, none⟩) 1 1] (w1.alloc (.cells #[.slice (some A) f.length c] 25)) fun e w' => ∃ b, e = .returned (.map (some b)) ∧ Below (w1.alloc (.cells #[.slice (some A) f.length c] 25)).heap.size (w1.alloc (.cells #[.slice (some A) f.length c] 25)) w' ∧ (w1.alloc (.cells #[.slice (some A) f.length c] 25)).heap.size ≤ b ∧ IsMp w' b f.length (fun a => asM f a)) := Lib.hid (by
    have h := piecesOfSlips_any [f] w1.heap.size 1 _ HHD.out (by simp) (by rw [HFL.out]; omega) (by rw [HFL.out]; exact HG.out.cnt20) (by rw [HFL.out]; exact HG.out.wf)
    rw [HFL.out, srt_of_rise HG.out.risen] at h
    exact h)
  clear hb2
  go_wp2_with fail
  refine HPC.out.mono ?_
  rintro e w3 ⟨b, rfl, hb3, hbb, hm3⟩
  have HM3 := Lib.hid hm3
  have HB3 := Lib.hid (HB2.out.trans (hb3.mono HB2.out.size))
  have hbw : w.heap.size ≤ b := Nat.le_trans HB2.out.size hbb
  have hb3l := HM3.out.lt
  clear hb3 hm3 hbb HPC HHD
  obtain ⟨w4, hw4⟩ : ∃ x : World, x = w3.alloc (.cells (madeCells #[.slice none 0 0] (ls.length * 1)) 31) := ⟨_, rfl⟩
  have hmk : (Instr.makeSlice 45 (.int .i64 (ls.length : Int)) (.int .i64 (ls.length : Int))).run Try.prog w3 = .ok (.slice (some ⟨w3.heap.size, 0, none⟩) ls.length ls.length) w4 := by rw [hw4]; exact run_makeN ls.length (by omega) w3
  have b4 : Below w3.heap.size w3 w4 := by rw [hw4]; exact (Below.refl _ _).alloc (Nat.le_refl _) _
  have HT4 : Hid (Tb w4 w3.heap.size 31 ls.length (fun i => if i < 0 then .slice (some ⟨0, 0, none⟩) f.length f.length else .slice none 0 0)) := Lib.hid (by
    rw [hw4]; exact (made_sl _ _ _).cong (fun j hj => by rw [if_neg (by omega)]))
  have HM4 := Lib.hid (HM3.out.next b4)
  have HB4 := Lib.hid (HB3.out.trans (b4.mono HB3.out.size))
  have hw3 := HB3.out.size
  clear hw4 b4
  go_wp2
  clear hmk
  go_loopw [28] (fun i wr => ∃ (k : Nat) (hs : Nat → Nat) (P : List Sl), k ≤ ls.length ∧ i = .int .i64 (k : Int) ∧ Below w.heap.size w wr ∧ OkS 1048576 f ls k ∧ GoodS P ∧ thin P = thin (chS 1048576 f ls k) ∧ IsMp wr b (8 + 8 * k) (fun a => asM P a) ∧ Tb wr w3.heap.size 31 ls.length (fun i => if i < k then .slice (some ⟨hs i, 0, none⟩) f.length f.length else .slice none 0 0) ∧ (∀ i, i < k → (w3.heap.size < hs i ∧ hs i < wr.heap.size) ∧ Tb wr (hs i) 3 f.length (fun j => .int .i64 ((ruK 1048576 f ls i).getD j 0))) ∧ (∀ i j, i < j → j < k → hs i < hs j)) (fun i _ => ls.length - (RowKit.intOf i).toNat)
  case atStart => exact ⟨0, fun _ => 0, f, Nat.zero_le _, rfl, HB4.out, fun j hj => by omega, HG.out, rfl, HM4.out.mono (by omega), HT4.out, fun i hi => by omega, fun i j _ hj => by omega⟩
  case round =>
    obtain ⟨k, hs, P, hk, rfl, hb, hok, hP, hth, hmp, ht, hrows, hinc⟩ := hrel
    have HB := Lib.hid hb; have HOK := Lib.hid hok; have HP := Lib.hid hP; have HTH := Lib.hid hth; have HM := Lib.hid hmp; have HT := Lib.hid ht; have HRW := Lib.hid hrows; have HIN := Lib.hid hinc
    clear hb hok hP hth hmp ht hrows hinc
    by_cases hlt : k < ls.length
    · obtain ⟨B', off, rfl, hbl, hcl⟩ := HL.out (by omega)
      have hc0 := (HB.out.cell (p := ⟨B', off + k, none⟩) hbl).trans (hcl k hlt)
      clear hcl
      have hlk := HLB.out.2 k hlt
      have hgd : ls.getD k 0 = ls[k] := getI hlt
      obtain ⟨n, hnn⟩ : ∃ n : Nat, ls[k] = (n : Int) := ⟨ls[k].toNat, by omega⟩
      rw [hnn] at hlk hc0
      have HGN : Hid ((ls.getD k 0).toNat = n) := Lib.hid (by rw [hgd, hnn]; rfl)
      clear hgd hnn
      have HGK := Lib.hid (chS_good HG.out k HOK.out)
      go_wp2_with fail
      refine (takeRule_any P b (8 + 8 * k) n _ HM.out (by omega) HP.out (by omega) (by omega)).mono ?_
      rintro e w5 hto
      rcases hto with ⟨hfw, r, rfl, hrw, hm5, hr5, hg5⟩ | ⟨hfw, rfl, hb5⟩
      rotate_left
      · have HN : Hid (rsB f ls = false) := Lib.hid (by
          rw [HV.out]
          refine okB_no hlt (fun h => hfw ?_)
          rw [HGN.out] at h
          rw [FW_same HP.out HGK.out HTH.out]
          exact (ruB_same (Z := 1048576) (by omega) HGK.out (by omega)).2 h)
        have HB5 := Lib.hid (HB.out.trans (hb5.mono HB.out.size))
        clear hfw hb5 hc0
        go_wp2
        go_ret2
        exact RiTo.no HN.out HB5.out
      have HFW := Lib.hid hfw
      have hP8 := HP.out.eight
      have HB5 := Lib.hid (HB.out.grown hg5 HB.out.size (fun q e => by have := Option.some.inj e; omega))
      have HT5 := Lib.hid (HT.out.grown hg5 (fun e => by have := Option.some.inj e; omega))
      have HR5 := Lib.hid hr5
      have HM5 : Hid (IsMp w5 b (8 + 8 * (k + 1)) (fun a => asM (thin (nxtS 401 P n)) a)) := Lib.hid ((hm5.cong (mpT_nxt HP.out hfw)).mono (by omega))
      have HG5 := Lib.hid hg5
      clear hfw hm5 hr5 hg5 hc0
      go_wp2_with fail
      refine (countsFor_any r P.length (rlT P n P.length) f (some A) c _ HR5.out (HF.out.below HB5.out (Nat.le_refl _)) HG.out).mono ?_
      rintro e w6 ⟨rfl, hb6, ht6⟩
      rw [cnt_chain HG.out HP.out HOK.out HTH.out HGN.out HFW.out (by omega)] at ht6
      have hB6 := HB5.out.trans (hb6.mono HB5.out.size)
      have hT6 := HT5.out.next hb6
      have s1 := hT6.cell (j := k) hlt
      have s2 := hT6.free k
      have s3 := hT6.lt
      have h5w := HB5.out.size
      have h5l := HT5.out.lt
      have hrs := HG5.out.size
      have HB7 := Lib.hid (hB6.setCell (p := ⟨w3.heap.size, k, none⟩) hw3 (.slice (some ⟨w5.heap.size, 0, none⟩) f.length f.length))
      have HT7 : Hid (Tb (w6.setCell ⟨w3.heap.size, k, none⟩ (.slice (some ⟨w5.heap.size, 0, none⟩) f.length f.length)) w3.heap.size 31 ls.length (fun i => if i < k + 1 then .slice (some ⟨(if i = k then w5.heap.size else hs i), 0, none⟩) f.length f.length else .slice none 0 0)) := Lib.hid ((hT6.set k (.slice (some ⟨w5.heap.size, 0, none⟩) f.length f.length)).cong (fun j hj => by
        by_cases e : j = k
        · rw [if_pos e, if_pos (by omega), if_pos e]
        · rw [if_neg e]
          by_cases e2 : j < k
          · rw [if_pos e2, if_pos (by omega), if_neg e]
          · rw [if_neg e2, if_neg (by omega)]))
      have gs : w6.grownBy (w6.setCell ⟨w3.heap.size, k, none⟩ (.slice (some ⟨w5.heap.size, 0, none⟩) f.length f.length)) (some w3.heap.size) := ⟨rfl, rfl, rfl, (KeepsWalks.setCell w6 _ _).size, fun q _ hq => Below.heap_setCell _ _ _ q (fun e => hq (by rw [e]))⟩
      have HM7 := Lib.hid ((HM5.out.next hb6).kept gs (by intro e; have := Option.some.inj e; omega))
      have HRW7 : Hid (∀ i, i < k + 1 → (w3.heap.size < (if i = k then w5.heap.size else hs i) ∧ (if i = k then w5.heap.size else hs i) < (w6.setCell ⟨w3.heap.size, k, none⟩ (.slice (some ⟨w5.heap.size, 0, none⟩) f.length f.length)).heap.size) ∧ Tb (w6.setCell ⟨w3.heap.size, k, none⟩ (.slice (some ⟨w5.heap.size, 0, none⟩) f.length f.length)) (if i = k then w5.heap.size else hs i) 3 f.length (fun j => .int .i64 ((ruK 1048576 f ls i).getD j 0))) := Lib.hid (fun i hi => by
        have hz := gs.size
        by_cases e : i = k
        · subst e
          rw [if_pos rfl]
          exact ⟨⟨h5l, Nat.lt_of_lt_of_le ht6.lt hz⟩, ht6.other _ (by omega)⟩
        · rw [if_neg e]
          obtain ⟨⟨r1, r2⟩, r3⟩ := HRW.out i (by omega)
          have hb6s := hb6.size
          exact ⟨⟨r1, by omega⟩, ((r3.grown HG5.out (fun e => by have := Option.some.inj e; omega)).next hb6).other _ (by omega)⟩)
      have HIN7 : Hid (∀ i j, i < j → j < k + 1 → (if i = k then w5.heap.size else hs i) < (if j = k then w5.heap.size else hs j)) := Lib.hid (fun i j hij hj => by
        rw [if_neg (show ¬ i = k by omega)]
        by_cases e : j = k
        · rw [if_pos e]; have := (HRW.out i (by omega)).1.2; omega
        · rw [if_neg e]; exact HIN.out i j hij (by omega))
      have HOK7 : Hid (OkS 1048576 f ls (k + 1)) := Lib.hid (fun j hj => by
        rcases Nat.lt_or_ge j k with h | h
        · exact HOK.out j h
        · obtain rfl : j = k := by omega
          rw [HGN.out]
          exact (ruB_same (Z := 1048576) (by omega) HGK.out (by omega)).1 (by rw [← FW_same HP.out HGK.out HTH.out]; exact HFW.out))
      have HP7 := Lib.hid (thin_good (nxtS_good HP.out HFW.out))
      have HTH7 : Hid (thin (thin (nxtS 401 P n)) = thin (chS 1048576 f ls (k + 1))) := Lib.hid (by
        rw [thin_nxt HGK.out HP.out HTH.out HFW.out]
        show _ = thin (nxtS 1048576 (chS 1048576 f ls k) (ls.getD k 0).toNat)
        rw [HGN.out])
      clear hb6 ht6 hB6 hT6 gs
      go_wp2
      go_roundw
      case rel => exact ⟨k + 1, (fun i => if i = k then w5.heap.size else hs i), _, by omega, by go_num, HB7.out, HOK7.out, HP7.out, HTH7.out, HM7.out, HT7.out, HRW7.out, HIN7.out⟩
      case measure => simp [RowKit.intOf]; omega
    · obtain rfl : k = ls.length := by omega
      have HN : Hid (rsB f ls = true) := Lib.hid (by rw [HV.out]; exact okB_iff.2 HOK.out)
      have HOW : Hid (wr.ownsRow w.heap.size 31 1 (.slice (some ⟨w3.heap.size, 0, none⟩) ls.length ls.length) ls.length (hsV f.length hs ls.length)) := Lib.hid (by
        obtain ⟨cs, c1, c2, c3⟩ := HT.out
        refine ⟨by simp [hsV], .inr ⟨w3.heap.size, ls.length, cs, rfl, hw3, c1, Nat.le_refl _, by unfold maxLen; omega, by omega, ?_⟩⟩
        apply List.ext_getElem
        · simp [hsV, c2]
        · intro i hi1 hi2
          have hi : i < ls.length := by simpa [hsV] using hi2
          have h3 : cs[i]? = some (if i < ls.length then Value.slice (some ⟨hs i, 0, none⟩) f.length f.length else .slice none 0 0) := c3 i hi
          rw [if_pos hi] at h3
          simp only [List.getElem_take, hsV, List.getElem_map, List.getElem_range]
          rw [Array.getElem?_eq_getElem (by omega)] at h3
          simpa using Option.some.inj h3)
      have HGI : Hid (GI wr w.heap.size (some ⟨w3.heap.size, 0, none⟩) ls.length ls.length f.length hs (ruK 1048576 f ls)) := Lib.hid ⟨HOW.out, fun i hi => by
          obtain ⟨⟨r1, r2⟩, r3⟩ := HRW.out i hi
          exact ⟨ruK_len _ _ _ _, tb_row (ruK_len _ _ _ _) r3 (by omega) hn (fun j hj => rfl)⟩, fun i hi q hq => by
          have e1 : w3.heap.size = q := Option.some.inj hq
          have := (HRW.out i hi).1.1
          omega, fun i j hij hj => by have := HIN.out i j hij hj; omega⟩
      go_wp2
      go_ret2
      refine ⟨some ⟨w3.heap.size, 0, none⟩, ls.length, hs, ?_, HB.out, ?_⟩
      · rw [rsN_yes HN.out]; exact ret_vb HN.out.symm
      · rw [rsN_yes HN.out]; exact HGI.out
end Go.Proofs.Ytljakcfdjcjdbaa
