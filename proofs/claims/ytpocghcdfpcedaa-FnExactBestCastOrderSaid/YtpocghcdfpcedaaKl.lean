/-
  The contracts of spec.l1Most, spec.csShared and impl.laterEnd: the later end of two machines that share castings.
-/
import Derived.Test.YtpocghcdfpcedaaKk
namespace Go.Proofs.Ytpocghcdfpcedaa
open Go.RowKit
set_option linter.unusedVariables false

theorem l1Most_any (a b : Int) (w : World) :
    Calls Try.prog 76 #[.int .i64 a, .int .i64 b] w fun e w' => e = .returned (.int .i64 (if b < a then a else b)) ∧ w = w' := by
  by_cases h : b < a
  · go_enter Try.func76, Try.ntmps76
    go_wp2
    go_ret
    exact ⟨rfl, rfl⟩
  · go_enter Try.func76, Try.ntmps76
    go_wp2
    go_ret
    exact ⟨rfl, rfl⟩
/-- The indices, among the first k, of those that have b in the share. -/
def idxT (b : Int) (sh : List Int) : Nat → List Int
  | 0 => []
  | k + 1 => if sh.getD k 0 = b then idxT b sh k ++ [(k : Int)] else idxT b sh k
theorem idxT_yes {b : Int} {sh : List Int} {k : Nat} (h : k < sh.length) (e : sh[k] = b) : idxT b sh (k + 1) = idxT b sh k ++ [(k : Int)] := by
  show (if _ then _ else _) = _
  rw [if_pos (by simp [h, e])]
theorem idxT_no {b : Int} {sh : List Int} {k : Nat} (h : k < sh.length) (e : sh[k] ≠ b) : idxT b sh (k + 1) = idxT b sh k := by
  show (if _ then _ else _) = _
  rw [if_neg (by simp [h, e])]
theorem idxT_len (b : Int) (sh : List Int) : ∀ k, (idxT b sh k).length ≤ k
  | 0 => Nat.le_refl _
  | k + 1 => by
    have ih := idxT_len b sh k
    show (if _ then _ else _ : List Int).length ≤ _
    split
    · simp; exact ih
    · omega
theorem idxT_mem (b : Int) (sh : List Int) : ∀ k, ∀ x ∈ idxT b sh k, ∃ j : Nat, x = (j : Int) ∧ j < k
  | 0, x, h => by cases h
  | k + 1, x, h => by
    have h' : x ∈ (if sh.getD k 0 = b then idxT b sh k ++ [(k : Int)] else idxT b sh k) := h
    split at h'
    · rw [List.mem_append] at h'
      rcases h' with h' | h'
      · obtain ⟨j, e, hj⟩ := idxT_mem b sh k x h'
        exact ⟨j, e, by omega⟩
      · exact ⟨k, by simpa using h', by omega⟩
    · obtain ⟨j, e, hj⟩ := idxT_mem b sh k x h'
      exact ⟨j, e, by omega⟩
theorem idxT_in {f : List Ca} {b : Int} {sh : List Int} {k : Nat} (hk : k ≤ f.length) : InO f (idxT b sh k) := by
  intro i hi
  obtain ⟨j, e, hj⟩ := idxT_mem b sh k _ (List.getElem_mem hi)
  exact ⟨j, e, by omega⟩
def shA (m : Mc) (f : List Ca) (b : Int) (sh : List Int) (k : Nat) : St := run m f (idxT b sh k)
theorem shA_yes {m : Mc} {f : List Ca} {b : Int} {sh : List Int} {k : Nat} (h : k < sh.length) (e : sh[k] = b) : shA m f b sh (k + 1) = stp f (shA m f b sh k) (k : Int) := by
  unfold shA; rw [idxT_yes h e, run_snoc]
theorem shA_no {m : Mc} {f : List Ca} {b : Int} {sh : List Int} {k : Nat} (h : k < sh.length) (e : sh[k] ≠ b) : shA m f b sh (k + 1) = shA m f b sh k := by
  unfold shA; rw [idxT_no h e]
theorem shA_ok {m : Mc} {f : List Ca} {b : Int} {sh : List Int} {k : Nat} (hm : goodMc m = true) (hL : goodL f = true) (hk : k ≤ f.length) : goodMc (shA m f b sh k).mc = true ∧ 0 ≤ (shA m f b sh k).t ∧ (shA m f b sh k).t ≤ 50000000 := by
  have h8 := (goodL_all hL).2
  have hl := idxT_len b sh k
  have h := run_ok hm hL (idxT_in (b := b) (sh := sh) hk) _ (Nat.le_refl _)
  rw [List.take_length] at h
  unfold shA
  refine ⟨h.1, h.2.1.1, ?_⟩
  have := h.2.1.2
  omega
theorem apart_l {v v' u : Value} {g : Nat} (hd : ∀ q, v.ownBlock = some q → u.ownBlock ≠ some q) (hat : v'.ownBlock = v.ownBlock ∨ v'.ownBlock = some g) (hb : ∀ q, u.ownBlock = some q → q < g) : ∀ q, v'.ownBlock = some q → u.ownBlock ≠ some q := fun q h1 h2 => by
  rcases hat with e | e
  · exact hd q (by rw [← e]; exact h1) h2
  · have h3 := hb q h2
    have e2 : q = g := Option.some.inj (h1.symm.trans e)
    omega
theorem apart_r {v u u' : Value} {g : Nat} (hd : ∀ q, v.ownBlock = some q → u.ownBlock ≠ some q) (hat : u'.ownBlock = u.ownBlock ∨ u'.ownBlock = some g) (hb : ∀ q, v.ownBlock = some q → q < g) : ∀ q, v.ownBlock = some q → u'.ownBlock ≠ some q := fun q h1 h2 => by
  rcases hat with e | e
  · exact hd q h1 (by rw [← e]; exact h2)
  · have h3 := hb q h1
    have e2 : q = g := Option.some.inj (h2.symm.trans e)
    omega
/-- The later end. -/
def shE (m n : Mc) (f : List Ca) (sh : List Int) : Int := max (shA m f 0 sh sh.length).t (shA n f 1 sh sh.length).t

set_option maxRecDepth 100000 in
set_option maxHeartbeats 4000000 in
theorem csShared_any (m n : Mc) (f : List Ca) (A : Option Addr) (c : Nat) (sh : List Int) (B : Option Addr) (d : Nat) (w : World) (hf : CasIn w A f) (hn : f.length ≤ 1048576) (hs : IntsIn w B sh) (hk : sh.length = f.length) (h01 : Is01 sh) (hm : goodMc m = true) (hmn : goodMc n = true) (hL : goodL f = true) :
    Calls Try.prog 67 #[.agg #[.int .i64 m.bod, .int .i64 m.hou, .int .i64 m.cha], .agg #[.int .i64 n.bod, .int .i64 n.hou, .int .i64 n.cha], .slice A f.length c, .slice B sh.length d] w fun e w' => e = .returned (.int .i64 (shE m n f sh)) ∧ Below w.heap.size w w' := by
  obtain ⟨i0, hi, hz0, hz1, hz2⟩ := info_parts info3
  have HI := Lib.hid hi; have HZ0 := Lib.hid hz0; have HZ1 := Lib.hid hz1; have HZ2 := Lib.hid hz2
  clear hi hz0 hz1 hz2
  have h8 : sh.length ≤ 8 := by rw [hk]; exact (goodL_all hL).2
  have HK := Lib.hid hk
  have HF := Lib.hid hf; have HS := Lib.hid hs; have H01 := Lib.hid h01; have HGM := Lib.hid hm; have HGN := Lib.hid hmn; have HL := Lib.hid hL
  clear hf hs h01 hm hmn hL hk
  go_enter Try.func67, Try.ntmps67
  go_wp2
  go_loopw [9, 10, 15] (fun v u i wr => ∃ k : Nat, k ≤ sh.length ∧ i = .int .i64 k ∧ wr.ownsRow (w.heap.size + 2) 3 1 v (idxT 0 sh k).length (intsZ (idxT 0 sh k)) ∧ wr.ownsRow (w.heap.size + 2) 3 1 u (idxT 1 sh k).length (intsZ (idxT 1 sh k)) ∧ (∀ q, v.ownBlock = some q → u.ownBlock ≠ some q) ∧ McAt wr w.heap.size 32 m ∧ McAt wr (w.heap.size + 1) 32 n ∧ Below w.heap.size w wr) (fun _ _ i _ => sh.length - (intOf i).toNat)
  case atStart => exact ⟨0, Nat.zero_le _, rfl, own_nil _ _ _ _, own_nil _ _ _ _, (fun q h => by cases h), (McAt.new _ _ _).alloc _, heap_alloc2_new _ _ _, ((Below.refl _ _).alloc (Nat.le_refl _) _).alloc (by simp) _⟩
  case round =>
    obtain ⟨k, hkk, rfl, hv, hu, hd, hmm, hnn, hb⟩ := hrel
    have HV := Lib.hid hv; have HU := Lib.hid hu; have HD := Lib.hid hd; have HM := Lib.hid hmm; have HN := Lib.hid hnn; have HB := Lib.hid hb
    clear hv hu hd hmm hnn hb
    have hl0 := idxT_len 0 sh k
    have hl1 := idxT_len 1 sh k
    by_cases hlt : k < sh.length
    · obtain ⟨b', off', rfl, hbl', hc'⟩ := HS.out (by omega)
      have hco := (HB.out.cell (p := ⟨b', off' + k, none⟩) hbl').trans (hc' k hlt)
      clear hc'
      have hkl1 : (k : Int) < (sh.length : Int) := by omega
      have hkl0 : (0 : Int) ≤ (k : Int) := by omega
      rcases H01.out k hlt with e | e
      · have HX0 := Lib.hid (idxT_yes (b := 0) hlt e)
        have HX1 := Lib.hid (idxT_no (b := 1) hlt (by rw [e]; decide))
        rw [e] at hco
        clear e
        have hmx : (idxT 0 sh k).length + 1 ≤ maxLen := by unfold maxLen; omega
        go_wp2_with (at_builtin; refine wpList_append_own_at _ rfl _ _ 42 rfl (w.heap.size + 2) 3 i0 (.int .i64 0) 1 8 Try.underlying42 HI.out HZ0.out HZ1.out HZ2.out rfl (by decide) _ _ _ rfl (HV.out.alloc _) ⟨wr.heap.size, 0, none⟩ 1 1 [.int .i64 (k : Int)] rfl rfl (cell_one_new _ _ _) (by simp [Value.oneCell']) hmx (by omega) (by have := HN.out.lt; first | (simp; done) | (simp; omega) | omega) ?_)
        intro v' w5 hown' hgrow _ hat
        have HB5 := Lib.hid ((HB.out.alloc HB.out.size (.cells #[.int .i64 (k : Int)] 3)).grown hgrow (by have := HB.out.size; simp; omega) (fun q hq => by have := own_lt HV.out q hq; omega))
        have HM5 := Lib.hid ((HM.out.alloc (.cells #[.int .i64 (k : Int)] 3)).grown hgrow (fun e => by have := own_lt HV.out _ e; omega))
        have HN5 := Lib.hid ((HN.out.alloc (.cells #[.int .i64 (k : Int)] 3)).grown hgrow (fun e => by have := own_lt HV.out _ e; omega))
        have hown2 := own_grown (HU.out.alloc (.cells #[.int .i64 (k : Int)] 3)) hgrow (fun q h1 h2 => HD.out q h2 h1)
        have HO5 : Hid (w5.ownsRow (w.heap.size + 2) 3 1 v' (idxT 0 sh (k + 1)).length (intsZ (idxT 0 sh (k + 1)))) := by
          show World.ownsRow _ _ _ _ _ _ _
          rw [HX0.out, List.length_append, intsZ_snoc]; exact hown'
        have HP5 := Lib.hid hown2
        have hb3 := own_bound HU.out
        have HD5 := Lib.hid (apart_l HD.out hat (fun q h => by have := hb3 q h; simp; omega))
        clear hown' hgrow hown2 hat hb3
        go_wp2
        go_roundw
        case rel => exact ⟨k + 1, by omega, by go_num, HO5.out, by rw [HX1.out]; exact HP5.out, HD5.out, HM5.out, HN5.out, HB5.out⟩
        case measure => simp [intOf]; omega
      · have HX0 := Lib.hid (idxT_no (b := 0) hlt (by rw [e]; decide))
        have HX1 := Lib.hid (idxT_yes (b := 1) hlt e)
        rw [e] at hco
        clear e
        have hmx : (idxT 1 sh k).length + 1 ≤ maxLen := by unfold maxLen; omega
        go_wp2_with (at_builtin; refine wpList_append_own_at _ rfl _ _ 42 rfl (w.heap.size + 2) 3 i0 (.int .i64 0) 1 8 Try.underlying42 HI.out HZ0.out HZ1.out HZ2.out rfl (by decide) _ _ _ rfl (HU.out.alloc _) ⟨wr.heap.size, 0, none⟩ 1 1 [.int .i64 (k : Int)] rfl rfl (cell_one_new _ _ _) (by simp [Value.oneCell']) hmx (by omega) (by have := HN.out.lt; first | (simp; done) | (simp; omega) | omega) ?_)
        intro v' w5 hown' hgrow _ hat
        have HB5 := Lib.hid ((HB.out.alloc HB.out.size (.cells #[.int .i64 (k : Int)] 3)).grown hgrow (by have := HB.out.size; simp; omega) (fun q hq => by have := own_lt HU.out q hq; omega))
        have HM5 := Lib.hid ((HM.out.alloc (.cells #[.int .i64 (k : Int)] 3)).grown hgrow (fun e => by have := own_lt HU.out _ e; omega))
        have HN5 := Lib.hid ((HN.out.alloc (.cells #[.int .i64 (k : Int)] 3)).grown hgrow (fun e => by have := own_lt HU.out _ e; omega))
        have hown2 := own_grown (HV.out.alloc (.cells #[.int .i64 (k : Int)] 3)) hgrow HD.out
        have HO5 : Hid (w5.ownsRow (w.heap.size + 2) 3 1 v' (idxT 1 sh (k + 1)).length (intsZ (idxT 1 sh (k + 1)))) := by
          show World.ownsRow _ _ _ _ _ _ _
          rw [HX1.out, List.length_append, intsZ_snoc]; exact hown'
        have HP5 := Lib.hid hown2
        have hb3 := own_bound HV.out
        have HD5 := Lib.hid (apart_r HD.out hat (fun q h => by have := hb3 q h; simp; omega))
        clear hown' hgrow hown2 hat hb3
        go_wp2
        go_roundw
        case rel => exact ⟨k + 1, by omega, by go_num, by rw [HX0.out]; exact HP5.out, HO5.out, HD5.out, HM5.out, HN5.out, HB5.out⟩
        case measure => simp [intOf]; omega
    · obtain rfl : k = sh.length := by omega
      obtain ⟨A1, c1, rfl, -, hin1⟩ := own_ints HV.out
      obtain ⟨A2, c2, rfl, -, hin2⟩ := own_ints HU.out
      have hfw := HF.out.below HB.out (Nat.le_refl _)
      have HFx := Lib.hid (fun x : KeptW wr.heap.size wr => hfw.below x.below (Nat.le_refl _))
      have HI1x := Lib.hid (fun x : KeptW wr.heap.size wr => hin1.below x.below (Nat.le_refl _))
      have HI2x := Lib.hid (fun x : KeptW wr.heap.size wr => hin2.below x.below (Nat.le_refl _))
      have HO1 := Lib.hid (idxT_in (f := f) (b := 0) (sh := sh) (k := sh.length) (by have := HK.out; omega))
      have HO2 := Lib.hid (idxT_in (f := f) (b := 1) (sh := sh) (k := sh.length) (by have := HK.out; omega))
      obtain ⟨m0, m1, m2⟩ := HM.out.kept (B := wr.heap.size) HM.out.lt
      obtain ⟨n0, n1, n2⟩ := HN.out.kept (B := wr.heap.size) HN.out.lt
      clear hfw hin1 hin2
      have HE : Hid (shE m n f sh = if (run n f (idxT 1 sh sh.length)).t < (run m f (idxT 0 sh sh.length)).t then (run m f (idxT 0 sh sh.length)).t else (run n f (idxT 1 sh sh.length)).t) := Lib.hid (by unfold shE shA; split <;> omega)
      go_wp2_with fail
      refine region_kept wr.heap.size (by kernel_rfl) (by kernel_rfl) ?_
      repeat (go_big_quiet_step (fail))
      go_big_quiet_step ((go_at_call 55; exact kept_call _ (Nat.le_refl _) (csLast_any m f A c (idxT 0 sh sh.length) A1 c1 _ (HFx.out _) hn (HI1x.out _) (by omega) HGM.out HL.out HO1.out)))
      repeat (go_big_quiet_step (fail))
      go_big_quiet_step ((go_at_call 55; exact kept_call _ (Nat.le_refl _) (csLast_any n f A c (idxT 1 sh sh.length) A2 c2 _ (HFx.out _) hn (HI2x.out _) (by omega) HGN.out HL.out HO2.out)))
      repeat (go_big_quiet_step (fail))
      go_big_quiet_step ((go_at_call 76; exact kept_same _ (l1Most_any _ _ _)))
      repeat (go_big_quiet_step (fail))
      refine wpQuiet_nil ?_
      intro w2 hb2
      have HB2 := Lib.hid (HB.out.trans (hb2.mono HB.out.size))
      clear hb2 m0 m1 m2 n0 n1 n2
      rw [← HE.out]
      go_wp2
      go_ret
      exact ⟨rfl, HB2.out⟩
end Go.Proofs.Ytpocghcdfpcedaa
