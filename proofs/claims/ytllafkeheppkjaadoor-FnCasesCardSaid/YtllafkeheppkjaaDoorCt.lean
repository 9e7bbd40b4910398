/-
  The text of a case: the contracts of spec.caText, spec.CaseText and impl.CaseText.
-/
import Derived.Test.YtllafkeheppkjaaDoorTi
import Derived.Test.YtllafkeheppkjaaDoorQf
import Derived.Test.YtllafkeheppkjaaDoorBlk
import Derived.Test.YtllafkeheppkjaaDoorSh5
import Derived.Lib.ItoaMem
import Derived.Lib.AppendIntMem
namespace Go.Proofs.YtllafkeheppkjaaDoor.P
open Go.RowKit Go.Proofs.YtllafkeheppkjaaDoor.B
set_option linter.unusedVariables false

def Tab (w : World) : Prop := Lib.TabIs Tryd.prog w "internal/strconv.uint64pow10" .u64 Lib.pow10Tab
theorem Tab.below {w w' : World} (h : Tab w) (hb : Below w.heap.size w w') : Tab w' := by
  unfold Tab Lib.TabIs World.var? at h ⊢
  obtain ⟨g, hg⟩ : ∃ g, Tryd.prog.globalNamed "internal/strconv.uint64pow10" = some g := by
    cases hg : Tryd.prog.globalNamed "internal/strconv.uint64pow10" with
    | none => rw [hg] at h; cases h
    | some g => exact ⟨g, rfl⟩
  rw [hg] at h ⊢
  simp only [Option.bind_some] at h ⊢
  have hlt : g < w.heap.size := by
    rcases Nat.lt_or_ge g w.heap.size with h' | h'
    · exact h'
    · rw [Array.getElem?_eq_none h'] at h; cases h
  rw [hb.block g hlt]
  exact h
def oneT (b : Bx) : List UInt8 := b.cod.data.toList ++ [64] ++ numL b.row ++ [46] ++ numL b.col ++ [120] ++ numL b.cnt ++ [59]
def caK (l : List Bx) : Nat → List UInt8
  | 0 => []
  | k + 1 => caK l k ++ oneT (l.getD k default)
noncomputable def ctextB (l : List Bx) : ByteArray := if caseB l then baOf (caK l l.length) else baOf []
theorem ct_no {l : List Bx} (h : caseB l = false) : ctextB l = baOf [] := by unfold ctextB; rw [h]; rfl
theorem ct_yes {l : List Bx} (h : caseB l = true) : ctextB l = baOf (caK l l.length) := by unfold ctextB; rw [h]; rfl
theorem getD_atP {l : List Bx} {a : Nat} (h : a < l.length) : l.getD a default = l[a] := by
  rw [List.getD_eq_getElem?_getD, List.getElem?_eq_getElem h]; rfl
theorem caK_step {l : List Bx} {k : Nat} (h : k < l.length) : caK l (k + 1) = caK l k ++ oneT l[k] := by
  show caK l k ++ _ = _
  rw [getD_atP h]
theorem cod_small {b : Bx} (h : boxB b = true) : b.cod.size ≤ 3 := by
  have h1 := (boxB_iff.1 h).1
  unfold tyLettersF at h1
  simp only [Bool.and_eq_true, decide_eq_true_eq] at h1
  have e : b.cod.data.toList.length = b.cod.size := Array.length_toList
  omega
theorem oneT_len {b : Bx} (h : boxB b = true) : (oneT b).length ≤ 300010 := by
  obtain ⟨_, ⟨_, h1⟩, ⟨_, h2⟩, _, h3⟩ := boxB_iff.1 h
  have e : b.cod.data.toList.length = b.cod.size := Array.length_toList
  have := cod_small h
  have n1 := numL_len (z := b.row) (by omega)
  have n2 := numL_len (z := b.col) (by omega)
  have n3 := numL_len (z := b.cnt) (by omega)
  simp only [oneT, List.length_append, List.length_cons, List.length_nil]
  omega
theorem caK_len {l : List Bx} (h : CaseOk l) : ∀ k, k ≤ l.length → (caK l k).length ≤ k * 300010
  | 0, _ => by simp [caK]
  | k + 1, hk => by
    have ih := caK_len h k (by omega)
    have := oneT_len (h.box (k := k) (by omega))
    rw [caK_step (by omega), List.length_append]
    omega
theorem ct_ba {l : List Bx} {k : Nat} (h : k < l.length) : baOf (caK l (k + 1)) = baOf (caK l k) ++ (l[k].cod ++ ⟨#[64]⟩ ++ baOf (numL l[k].row) ++ ⟨#[46]⟩ ++ baOf (numL l[k].col) ++ ⟨#[120]⟩ ++ baOf (numL l[k].cnt) ++ ⟨#[59]⟩) := by
  rw [caK_step h, ← baOf_app]
  all_goals first | rfl | (congr 1; unfold oneT; rw [← baOf_app, ← baOf_app, ← baOf_app, ← baOf_app, ← baOf_app, ← baOf_app, ← baOf_app, ba_data]; rfl)

set_option maxRecDepth 100000 in
set_option maxHeartbeats 2000000 in
theorem caText_any (l : List Bx) (A : Option Addr) (c : Nat) (w : World) (hf : BxsIn w A l) (hC : CaseOk l) :
    Calls Tryd.prog 31 #[.slice A l.length c] w fun e w' => e = .returned (.string (baOf (caK l l.length))) ∧ Below w.heap.size w w' := by
  have HF := Lib.hid hf; clear hf
  have h32 := hC.2.2
  have HC := Lib.hid hC; clear hC
  have HT0 : Hid (baOf (caK l 0) = ⟨#[]⟩) := by show _ = _; rfl
  go_enter Tryd.func31, Tryd.ntmps31
  go_wp2
  rw [← HT0.out]
  go_loopw [3, 8] (fun t i wr => ∃ k : Nat, k ≤ l.length ∧ i = .int .i64 k ∧ t = .string (baOf (caK l k)) ∧ Below w.heap.size w wr) (fun _ i _ => l.length - (intOf i).toNat)
  case atStart => exact ⟨0, Nat.zero_le _, rfl, rfl, Below.refl _ _⟩
  case round =>
    obtain ⟨k, hk, rfl, rfl, hb⟩ := hrel
    by_cases hlt : k < l.length
    · obtain ⟨b, off, rfl, hbl, hc⟩ := HF.out (by omega)
      obtain ⟨hc0, hc1, hc2, hc3⟩ := hc k hlt
      clear hc
      rw [← hb.cell (p := ⟨b, off + k * 4, none⟩) hbl] at hc0
      rw [← hb.cell (p := ⟨b, off + k * 4 + 1, none⟩) hbl] at hc1
      rw [← hb.cell (p := ⟨b, off + k * 4 + 2, none⟩) hbl] at hc2
      rw [← hb.cell (p := ⟨b, off + k * 4 + 3, none⟩) hbl] at hc3
      obtain ⟨⟨r1, r2⟩, ⟨r3, r4⟩, r5, r6⟩ := HC.out.range hlt
      have z0 := cod_small (HC.out.box hlt)
      have HY := Lib.hid (ct_ba hlt)
      have n1 : (baOf (numL l[k].row)).size ≤ 100001 := numL_len (by omega)
      have n2 : (baOf (numL l[k].col)).size ≤ 100001 := numL_len (by omega)
      have n3 : (baOf (numL l[k].cnt)).size ≤ 100001 := numL_len (by omega)
      have htl : (baOf (caK l k)).size ≤ 9700000 := by have := caK_len HC.out k hk; rw [baOf_size]; omega
      obtain ⟨D1, hD1⟩ : ∃ D, baOf (numL l[k].row) = D := ⟨_, rfl⟩
      obtain ⟨D2, hD2⟩ : ∃ D, baOf (numL l[k].col) = D := ⟨_, rfl⟩
      obtain ⟨D3, hD3⟩ : ∃ D, baOf (numL l[k].cnt) = D := ⟨_, rfl⟩
      rw [hD1] at n1 HY
      rw [hD2] at n2 HY
      rw [hD3] at n3 HY
      have HD1 := Lib.hid hD1; have HD2 := Lib.hid hD2; have HD3 := Lib.hid hD3; clear hD1 hD2 hD3
      generalize l[k].cod = s at *
      generalize l[k].row = y1 at *
      generalize l[k].col = y2 at *
      generalize l[k].cnt = y3 at *
      generalize baOf (caK l k) = T at *
      have hs1 : ¬ (9223372036854775807 : Nat) < s.size + 1 := by omega
      have hs2 : ¬ (9223372036854775807 : Nat) < s.size + 1 + D1.size := by omega
      have hs3 : ¬ (9223372036854775807 : Nat) < s.size + 1 + D1.size + 1 := by omega
      have hs4 : ¬ (9223372036854775807 : Nat) < s.size + 1 + D1.size + 1 + D2.size := by omega
      have hs5 : ¬ (9223372036854775807 : Nat) < s.size + 1 + D1.size + 1 + D2.size + 1 := by omega
      have hs6 : ¬ (9223372036854775807 : Nat) < s.size + 1 + D1.size + 1 + D2.size + 1 + D3.size := by omega
      have hs7 : ¬ (9223372036854775807 : Nat) < s.size + 1 + D1.size + 1 + D2.size + 1 + D3.size + 1 := by omega
      have hs8 : ¬ (9223372036854775807 : Nat) < T.size + (s.size + 1 + D1.size + 1 + D2.size + 1 + D3.size + 1) := by omega
      go_wp2_with fail
      obtain ⟨W0, hW0⟩ : ∃ W0 : World, W0 = wr.alloc (.cells #[.string s, .int .i64 y1, .int .i64 y2, .int .i64 y3] 40) := ⟨_, rfl⟩
      rw [← hW0]
      have hq0 : W0.cell? ⟨wr.heap.size, 0, none⟩ = some (.string s) := by rw [hW0]; simp
      have hq1 : W0.cell? ⟨wr.heap.size, 1, none⟩ = some (.int .i64 y1) := by rw [hW0]; simp
      have hq2 : W0.cell? ⟨wr.heap.size, 2, none⟩ = some (.int .i64 y2) := by rw [hW0]; simp
      have hq3 : W0.cell? ⟨wr.heap.size, 3, none⟩ = some (.int .i64 y3) := by rw [hW0]; simp
      have hb0 : Below w.heap.size w W0 := by rw [hW0]; exact hb.alloc hb.size _
      have hz0 : wr.heap.size < W0.heap.size := by rw [hW0]; simp
      clear hc0 hc1 hc2 hc3 hW0
      have hx0 := KeptW.cell hq0 hz0
      have hx1 := KeptW.cell hq1 hz0
      have hx2 := KeptW.cell hq2 hz0
      have hx3 := KeptW.cell hq3 hz0
      refine region_kept W0.heap.size (by kernel_rfl) (by kernel_rfl) ?_
      repeat (go_big_quiet_step ((go_at_call 62; first | with_reducible exact kept_call _ (Nat.le_refl _) (num_is y1 D1 _ r1 (by omega) HD1) | with_reducible exact kept_call _ (Nat.le_refl _) (num_is y2 D2 _ r3 (by omega) HD2) | with_reducible exact kept_call _ (Nat.le_refl _) (num_is y3 D3 _ r5 (by omega) HD3))))
      refine wpQuiet_nil ?_
      intro w1 hb1
      have hb' : Below w.heap.size w w1 := hb0.trans (hb1.mono hb0.size)
      clear hb hb0 hb1 hx0 hx1 hx2 hx3 hq0 hq1 hq2 hq3 hz0
      have HB' := Lib.hid hb'; clear hb'
      go_wp2
      go_roundw
      case rel => exact ⟨k + 1, by omega, by go_num, by rw [HY.out], HB'.out⟩
      case measure => simp [intOf]; omega
    · obtain rfl : k = l.length := by omega
      go_wp2
      go_ret
      exact ⟨rfl, hb⟩

theorem ret_sb {a c : ByteArray} {b d : Bool} (h1 : a = c) (h2 : b = d) : Ending.returned (.tuple #[.string a, .bool b]) = .returned (.tuple #[.string c, .bool d]) := by rw [h1, h2]
theorem specCaseText_any (l : List Bx) (A : Option Addr) (c : Nat) (w : World) (hf : BxsIn w A l) (hn : l.length ≤ 1048576) (ho : BxsOk l) (hcap : l.length ≤ c) :
    Calls Tryd.prog 6 #[.slice A l.length c] w fun e w' => e = .returned (.tuple #[.string (ctextB l), .bool (caseB l)]) ∧ Below w.heap.size w w' := by
  have HF := Lib.hid hf; have HO := Lib.hid ho; clear hf ho
  cases hg : caseB l
  · have HV := Lib.hid (ct_no hg)
    have HG := Lib.hid hg; clear hg
    go_enter Tryd.func6, Tryd.ntmps6
    go_wp2_with fail
    refine (caGood_is l _ A c _ HF.out hn HO.out hcap HG).mono ?_
    rintro e w1 ⟨rfl, hb1⟩
    go_wp2
    go_ret2
    exact ⟨ret_sb HV.out.symm rfl, hb1⟩
  · have HV := Lib.hid (ct_yes hg)
    have HC := Lib.hid (caseB_iff.1 hg)
    have HG := Lib.hid hg; clear hg
    go_enter Tryd.func6, Tryd.ntmps6
    go_wp2_with fail
    refine (caGood_is l _ A c _ HF.out hn HO.out hcap HG).mono ?_
    rintro e w1 ⟨rfl, hb1⟩
    have HF1 := Lib.hid (HF.out.next hb1)
    go_wp2_with fail
    refine (caText_any l A c _ HF1.out HC.out).mono ?_
    rintro e w2 ⟨rfl, hb2⟩
    go_wp2
    go_ret2
    exact ⟨ret_sb HV.out.symm rfl, hb1.trans (hb2.mono hb1.size)⟩
end Go.Proofs.YtllafkeheppkjaaDoor.P
