/-
  The contracts of spec.hyPattern and spec.IsPattern.
-/
import Derived.Test.YtcbhhbcfnaekpaaDoorHya
import Derived.Test.YtcbhhbcfnaekpaaDoorMis
import Derived.Test.YtcbhhbcfnaekpaaDoorBil
import Derived.Laws.OwnMore
namespace Go.Proofs.YtcbhhbcfnaekpaaDoor
open Go.RowKit
set_option linter.unusedVariables false

theorem one_cut (s : ByteArray) (k : Nat) (h : k < s.size) (l : List UInt8) : (⟨l.toArray⟩ : ByteArray) ++ s.extract k (k + 1) = ⟨(l ++ [s[k]]).toArray⟩ := by
  have e : s.extract k (k + 1) = ⟨[s[k]].toArray⟩ := by
    apply ByteArray.ext
    apply Array.ext'
    simp [ByteArray.data_extract]
    rw [List.drop_eq_getElem_cons (by simpa using h)]
    simp
    rfl
  rw [e, bytes_snoc]
/-- What spec.hyPattern answers. -/
def HyPatTo (s : ByteArray) (w w' : World) (e : Ending) : Prop :=
  ∃ v, e = .returned (.tuple #[.string ⟨(ptLs s).toArray⟩, v, .bool (ptB s)]) ∧ Below w.heap.size w w' ∧ w'.ownsRow w.heap.size 3 1 v (ptVs s).length (intsZ (ptVs s))
theorem HyPatTo.no {s : ByteArray} {w w' : World} (h : ptB s = false ∧ ptLs s = [] ∧ ptVs s = []) (hb : Below w.heap.size w w') : HyPatTo s w w' (.returned (.tuple #[.string ⟨#[]⟩, .slice none 0 0, .bool false])) := by
  obtain ⟨h1, h2, h3⟩ := h
  refine ⟨.slice none 0 0, by rw [h1, h2], hb, ?_⟩
  rw [h3]; exact own_nil _ _ _ _
theorem HyPatTo.yes {s : ByteArray} {p : Pt} {w w' : World} {v : Value} {b : Bool} {n : Nat} (h : ptB s = ptFine p ∧ ptLs s = p.ls ∧ ptVs s = p.vals) (hb : Below w.heap.size w w') (hf : b = ptFine p) (hn : n = p.vals.length) (ho : w'.ownsRow w.heap.size 3 1 v n (intsZ p.vals)) : HyPatTo s w w' (.returned (.tuple #[.string ⟨p.ls.toArray⟩, v, .bool b])) := by
  obtain ⟨h1, h2, h3⟩ := h
  refine ⟨v, by rw [h1, h2, hf], hb, ?_⟩
  rw [h3, ← hn]; exact ho
set_option maxRecDepth 100000 in
set_option maxHeartbeats 2000000 in
theorem hyPattern_any (s : ByteArray) (w : World) (hs : s.size ≤ 1048576) :
    Calls Tryd.prog 80 #[.string s] w fun e w' => HyPatTo s w w' e := by
  obtain ⟨i0, hi, hz0, hz1, hz2⟩ := info_parts info3
  have HI0 := Lib.hid hi; have HZ0 := Lib.hid hz0; have HZ1 := Lib.hid hz1; have HZ2 := Lib.hid hz2
  clear hi hz0 hz1 hz2
  have HST : Hid ((w.alloc (.cells #[.int .i64 0] 3)).ownsRow w.heap.size 3 1 (.slice (some ⟨w.heap.size, 0, none⟩) 1 1) 1 (intsZ [0])) := Lib.hid (World.ownsRow_lit w #[.int .i64 0] 1 (Nat.le_refl _) (by decide) rfl)
  go_enter Tryd.func80, Tryd.ntmps80
  go_wp2
  go_loopw [5, 6, 7, 8] (fun t5 t6 t7 t8 wr => ∃ (k : Nat) (p : Pt) (g cap m : Nat), k ≤ s.size ∧ t8 = .int .i64 k ∧ t5 = .string ⟨p.ls.toArray⟩ ∧ t6 = .bool (ptSome p) ∧ t7 = .slice (some ⟨g, 0, none⟩) (m + 1) cap ∧ Hid (m = p.vs.length) ∧ Hid (ptRead (s.data.toList.take k) = some p) ∧ Hid (wr.ownsRow w.heap.size 3 1 (.slice (some ⟨g, 0, none⟩) (m + 1) cap) (m + 1) (intsZ p.vals)) ∧ Hid (Below w.heap.size w wr)) (fun _ _ _ i _ => s.size - (intOf i).toNat)
  case atStart => exact ⟨0, ⟨[], [], 0⟩, w.heap.size, 1, 0, Nat.zero_le _, rfl, rfl, rfl, rfl, Lib.hid rfl, Lib.hid rfl, HST, Lib.hid ((Below.refl _ _).alloc (Nat.le_refl _) _)⟩
  case round =>
    obtain ⟨k, p, g, cap, m, hk, rfl, rfl, rfl, rfl, HM, HR, HO, HB⟩ := hrel
    clear HST
    have hok := ptRead_ok s.data.toList k (by rw [len_list]; exact hk) p HR.out
    have hle := hok.le
    have HOK := Lib.hid hok
    have hml : m ≤ k := by have := HM.out; have := hok.len; omega
    clear hok
    by_cases hlt : k < s.size
    · have hBS := HB.out.size
      rcases (by omega : (97 ≤ (s[k].toNat : Int) ∧ (s[k].toNat : Int) ≤ 122) ∨ (s[k].toNat : Int) < 49 ∨ (49 ≤ (s[k].toNat : Int) ∧ (s[k].toNat : Int) ≤ 57) ∨ (57 < (s[k].toNat : Int) ∧ (s[k].toNat : Int) < 97) ∨ 122 < (s[k].toNat : Int)) with ⟨h1, h2⟩ | h1 | ⟨h1, h2⟩ | ⟨h1, h2⟩ | h1
      · -- a letter
        have hL : isLet s[k] = true := by rw [isLet_int]; simp [h1, h2]
        have HN := Lib.hid (pt_next hlt HR.out (ptStep_let hL))
        have HC := Lib.hid (one_cut s k hlt p.ls)
        have HV : Hid (intsZ (p.vs ++ [p.v] ++ [0]) = intsZ p.vals ++ [.int .i64 0]) := Lib.hid (intsZ_snoc _ _)
        have HS := Lib.hid (ptSome_let (p := p) (c := s[k]))
        have hmx : m + 1 + 1 ≤ maxLen := by unfold maxLen; omega
        have hsz : (⟨p.ls.toArray⟩ : ByteArray).size = p.ls.length := by simp [ByteArray.size]
        clear hL
        go_wp2_with (at_builtin; refine wpList_append_own _ rfl _ _ 28 rfl w.heap.size 3 i0 (.int .i64 0) 1 8 Tryd.underlying28 HI0.out HZ0.out HZ1.out HZ2.out rfl (by decide) _ _ _ rfl (HO.out.alloc _) ⟨wr.heap.size, 0, none⟩ 1 1 [.int .i64 0] rfl rfl (cell_one_new _ _ _) (by simp [Value.oneCell']) hmx (by omega) (by simp; omega) ?_)
        intro v' w4 hown' hgrow _
        have hb4 : Below w.heap.size w w4 := below_append HB.out hgrow HB.out.size (own_lt HO.out)
        obtain ⟨g', cap', hv', hown2⟩ : ∃ g' cap', v' = .slice (some ⟨g', 0, none⟩) (m + 1 + 1) cap' ∧ w4.ownsRow w.heap.size 3 1 (.slice (some ⟨g', 0, none⟩) (m + 1 + 1) cap') (m + 1 + 1) (intsZ (p.vs ++ [p.v] ++ [0])) := by
          rw [← HV.out] at hown'
          obtain ⟨A, c, hA⟩ := own_form hown'
          rcases hown'.2 with ⟨_, h0⟩ | ⟨g', cap', cur, hv, _⟩
          · omega
          · exact ⟨g', cap', hv, by rw [← hv]; exact hown'⟩
        subst hv'
        have HO4 := Lib.hid hown2; have HB4 := Lib.hid hb4
        clear hown' hgrow hown2 hb4
        go_wp2
        go_roundw
        case rel => exact ⟨k + 1, ⟨p.ls ++ [s[k]], p.vs ++ [p.v], 0⟩, g', cap', m + 1, by omega, by go_num, by rw [HC.out], by rw [HS.out], rfl, Lib.hid (by rw [HM.out]; simp), HN, HO4, HB4⟩
        case measure => simp [intOf]; omega
      · have hL : isLet s[k] = false := by rw [isLet_int]; simp; omega
        have HN := Lib.hid (pt_bad hlt HR.out (ptStep_no (p := p) hL (fun h => by have h9 := h.1; rw [isNum_int] at h9; simp only [Bool.and_eq_true, decide_eq_true_eq] at h9; omega)))
        go_wp2
        go_ret3
        exact HyPatTo.no HN.out HB.out
      · have hL : isLet s[k] = false := by rw [isLet_int]; simp; omega
        have hN : isNum s[k] = true := by rw [isNum_int]; simp; omega
        have hm1 : m < (m + 1) * 1 := by omega
        have hc0 := HO.out.cellAt m hm1
        have hf0 := HO.out.frozenAt m
        have hg0 : (intsZ p.vals)[m]? = some (.int .i64 p.v) := by rw [HM.out]; simp [intsZ, Pt.vals]
        rw [hg0] at hc0
        have HG := Lib.hid hg0
        clear hg0
        by_cases hv : p.v = 0
        · have HN := Lib.hid (pt_next hlt HR.out (ptStep_num hL hN hv))
          have hw8 : IntKind.u8.wrap ((s[k].toNat : Int) - 48) = (s[k].toNat : Int) - 48 := by show ((s[k].toNat : Int) - 48) % 256 = _; omega
          have HO4 : Hid ((wr.setCell ⟨g, m, none⟩ (.int .i64 ((s[k].toNat : Int) - 48))).ownsRow w.heap.size 3 1 (.slice (some ⟨g, 0, none⟩) (m + 1) cap) (m + 1) (intsZ (p.vs ++ [(s[k].toNat : Int) - 48]))) := Lib.hid (by
            have h := HO.out.stored m (.int .i64 ((s[k].toNat : Int) - 48))
            have e : (intsZ p.vals).set m (.int .i64 ((s[k].toNat : Int) - 48)) = intsZ (p.vs ++ [(s[k].toNat : Int) - 48]) := by rw [HM.out]; simp [intsZ, Pt.vals]
            rw [e] at h; exact h.1)
          have hgb : w.heap.size ≤ g := own_lt HO.out g rfl
          have HB4 : Hid (Below w.heap.size w (wr.setCell ⟨g, m, none⟩ (.int .i64 ((s[k].toNat : Int) - 48)))) := Lib.hid (HB.out.setCell (p := ⟨g, m, none⟩) hgb _)
          have HS := Lib.hid (ptSome_num (p := p) (x := (s[k].toNat : Int) - 48) (by omega))
          clear hL hN
          go_wp2
          go_roundw
          case rel => exact ⟨k + 1, ⟨p.ls, p.vs, (s[k].toNat : Int) - 48⟩, g, cap, m, by omega, by go_num, rfl, by rw [HS.out], rfl, HM, HN, HO4, HB4⟩
          case measure => simp [intOf]; omega
        · have hv' : (p.v == 0) = false := by simp [hv]
          have HN := Lib.hid (pt_bad hlt HR.out (ptStep_no (p := p) hL (fun h => hv h.2)))
          go_wp2
          go_ret3
          exact HyPatTo.no HN.out HB.out
      · have hL : isLet s[k] = false := by rw [isLet_int]; simp; omega
        have h3 : ¬ 97 ≤ (s[k].toNat : Int) := by omega
        have h4 : 49 ≤ (s[k].toNat : Int) := by omega
        have h5 : ¬ (s[k].toNat : Int) ≤ 57 := by omega
        have HN := Lib.hid (pt_bad hlt HR.out (ptStep_no (p := p) hL (fun h => by have h9 := h.1; rw [isNum_int] at h9; simp only [Bool.and_eq_true, decide_eq_true_eq] at h9; omega)))
        go_wp2
        go_ret3
        exact HyPatTo.no HN.out HB.out
      · have hL : isLet s[k] = false := by rw [isLet_int]; simp; omega
        have h3 : 97 ≤ (s[k].toNat : Int) := by omega
        have h4 : 49 ≤ (s[k].toNat : Int) := by omega
        have h5 : ¬ (s[k].toNat : Int) ≤ 57 := by omega
        have h6 : ¬ (s[k].toNat : Int) ≤ 122 := by omega
        have HN := Lib.hid (pt_bad hlt HR.out (ptStep_no (p := p) hL (fun h => by have h9 := h.1; rw [isNum_int] at h9; simp only [Bool.and_eq_true, decide_eq_true_eq] at h9; omega)))
        go_wp2
        go_ret3
        exact HyPatTo.no HN.out HB.out
    · obtain rfl : k = s.size := by omega
      have HD := Lib.hid (pt_done HR.out)
      have hsz : (⟨p.ls.toArray⟩ : ByteArray).size = p.ls.length := by simp [ByteArray.size]
      have HL : Hid (m + 1 = p.vals.length) := Lib.hid (by rw [HM.out]; simp [Pt.vals])
      cases hs : ptSome p
      · have HF : Hid (false = ptFine p) := Lib.hid (by unfold ptFine; rw [hs]; rfl)
        clear hs
        go_wp2
        go_ret3
        exact HyPatTo.yes HD.out HB.out HF.out HL.out HO.out
      · have HF : Hid ((decide (1 ≤ (p.ls.length : Int)) && decide ((p.ls.length : Int) ≤ 6)) = ptFine p) := Lib.hid (by unfold ptFine; rw [hs]; rfl)
        clear hs
        go_wp2_with (go_at_call 61; refine (in_any _ _ _ _).mono ?_; rintro e w' ⟨rfl, rfl⟩)
        go_ret3
        exact HyPatTo.yes HD.out HB.out HF.out HL.out HO.out
theorem specIsPattern_any (s : ByteArray) (w : World) (hs : s.size ≤ 1048576) :
    Calls Tryd.prog 39 #[.string s] w fun e w' => e = .returned (.bool (ptB s)) ∧ Below w.heap.size w w' := by
  go_enter Tryd.func39, Tryd.ntmps39
  go_wp2_with fail
  refine (hyPattern_any s _ hs).mono ?_
  rintro e w1 ⟨v, rfl, hb, ho⟩
  obtain ⟨A, c, rfl⟩ := own_form ho
  clear ho
  go_wp2
  go_ret
  exact ⟨rfl, hb⟩
end Go.Proofs.YtcbhhbcfnaekpaaDoor
