/-
  The text of a font: the contract of spec.tyText (stage 3's family of texts).
-/
import Derived.Test.YtiihhilhiknckaaGreatDoorBtx
namespace Go.Proofs.YtiihhilhiknckaaGreatDoor.P
open Go.RowKit
set_option linter.unusedVariables false

def ftK (f : List (ByteArray × Int)) : Nat → List UInt8
  | 0 => []
  | k + 1 => ftK f k ++ ((f.getD k (⟨#[]⟩, 0)).1.data.toList ++ numL (f.getD k (⟨#[]⟩, 0)).2 ++ [59])
noncomputable def ftextB (f : List (ByteArray × Int)) : ByteArray := if fontB f then baOf (ftK f f.length) else baOf []
theorem ft_no {f : List (ByteArray × Int)} (h : fontB f = false) : ftextB f = baOf [] := by unfold ftextB; rw [h]; rfl
theorem ft_yes {f : List (ByteArray × Int)} (h : fontB f = true) : ftextB f = baOf (ftK f f.length) := by unfold ftextB; rw [h]; rfl
theorem sort_bounds {c : ByteArray} {n : Int} (h : tySortF c n = true) : c.size ≤ 3 ∧ 1 ≤ n ∧ n ≤ 54 := by
  unfold tySortF tyLettersF at h
  simp only [Bool.and_eq_true, decide_eq_true_eq] at h
  have e : c.data.toList.length = c.size := Array.length_toList
  omega
theorem font_at {f : List (ByteArray × Int)} (h : fontB f = true) {k : Nat} (hk : k < f.length) : f[k].1.size ≤ 3 ∧ 1 ≤ f[k].2 ∧ f[k].2 ≤ 54 := by
  have := (fontB_iff.1 h).1 k hk
  unfold okAt at this
  simp only [Bool.and_eq_true] at this
  exact sort_bounds this.1
theorem ftK_step {f : List (ByteArray × Int)} {k : Nat} (h : k < f.length) : ftK f (k + 1) = ftK f k ++ (f[k].1.data.toList ++ numL f[k].2 ++ [59]) := by
  show ftK f k ++ _ = _
  simp [List.getD, h]
theorem ftK_len {f : List (ByteArray × Int)} (h : fontB f = true) : ∀ k, k ≤ f.length → (ftK f k).length ≤ k * 100010
  | 0, _ => by simp [ftK]
  | k + 1, hk => by
    have ih := ftK_len h k (by omega)
    obtain ⟨h1, h2, h3⟩ := font_at h (k := k) (by omega)
    have hn := numL_len (z := f[k].2) (by omega)
    have e : f[k].1.data.toList.length = f[k].1.size := Array.length_toList
    rw [ftK_step (by omega), List.length_append, List.length_append, List.length_append, e]
    simp only [List.length_cons, List.length_nil]
    omega
theorem ba_step {f : List (ByteArray × Int)} {k : Nat} (h : k < f.length) : baOf (ftK f (k + 1)) = baOf (ftK f k) ++ (f[k].1 ++ baOf (numL f[k].2) ++ ⟨#[59]⟩) := by
  rw [ftK_step h, ← baOf_app, ← baOf_app, ← baOf_app, ba_data]; rfl
set_option maxRecDepth 100000 in
set_option maxHeartbeats 2000000 in
theorem tyText_any (f : List (ByteArray × Int)) (A : Option Addr) (c : Nat) (lo : Nat) (w : World) (hf : SortsIn w lo A f) (hg : fontB f = true) :
    Calls Tryz.prog 37 #[.slice A f.length c] w fun e w' => e = .returned (.string (baOf (ftK f f.length))) ∧ Below w.heap.size w w' := by
  have HF := Lib.hid hf; clear hf
  have HG := Lib.hid hg; clear hg
  have h32 := (fontB_iff.1 HG.out).2.2
  have HT0 : Hid (baOf (ftK f 0) = ⟨#[]⟩) := by show _ = _; rfl
  go_enter Tryz.func37, Tryz.ntmps37
  go_wp2
  rw [← HT0.out]
  go_loopw [3, 8] (fun t i wr => ∃ k : Nat, k ≤ f.length ∧ i = .int .i64 k ∧ t = .string (baOf (ftK f k)) ∧ Below w.heap.size w wr) (fun _ i _ => f.length - (intOf i).toNat)
  case atStart => exact ⟨0, Nat.zero_le _, rfl, rfl, Below.refl _ _⟩
  case round =>
    obtain ⟨k, hk, rfl, rfl, hb⟩ := hrel
    by_cases hlt : k < f.length
    · obtain ⟨b, off, rfl, _, hbl, hc⟩ := HF.out (by omega)
      obtain ⟨hc0, hc1⟩ := hc k hlt
      clear hc
      rw [← hb.cell (p := ⟨b, off + k * 2, none⟩) hbl] at hc0
      rw [← hb.cell (p := ⟨b, off + k * 2 + 1, none⟩) hbl] at hc1
      obtain ⟨z0, z1, z2⟩ := font_at HG.out hlt
      have HY := Lib.hid (ba_step hlt)
      have hnl : (baOf (numL f[k].2)).size ≤ 100001 := numL_len (by omega)
      have htl : (baOf (ftK f k)).size ≤ 3300000 := by have := ftK_len HG.out k hk; rw [baOf_size]; omega
      obtain ⟨D, hD⟩ : ∃ D, baOf (numL f[k].2) = D := ⟨_, rfl⟩
      rw [hD] at hnl HY
      have HD := Lib.hid hD; clear hD
      generalize f[k].1 = s at *
      generalize f[k].2 = z at *
      generalize baOf (ftK f k) = T at *
      have hs1 : ¬ (9223372036854775807 : Nat) < s.size + D.size := by omega
      have hs2 : ¬ (9223372036854775807 : Nat) < (s ++ D).size + 1 := by rw [ByteArray.size_append]; omega
      have hs3 : ¬ (9223372036854775807 : Nat) < T.size + (s ++ D ++ ⟨#[59]⟩).size := by rw [ByteArray.size_append, ByteArray.size_append]; show ¬ _ < T.size + (_ + 1); omega
      have hs4 : ¬ (9223372036854775807 : Nat) < s.size + D.size + 1 := by omega
      have hs5 : ¬ (9223372036854775807 : Nat) < T.size + (s.size + D.size + 1) := by omega
      go_wp2_with fail
      obtain ⟨W0, hW0⟩ : ∃ W0 : World, W0 = wr.alloc (.cells #[.string s, .int .i64 z] 25) := ⟨_, rfl⟩
      rw [← hW0]
      have hq0 : W0.cell? ⟨wr.heap.size, 0, none⟩ = some (.string s) := by rw [hW0]; simp
      have hq1 : W0.cell? ⟨wr.heap.size, 1, none⟩ = some (.int .i64 z) := by rw [hW0]; simp
      have hb0 : Below w.heap.size w W0 := by rw [hW0]; exact hb.alloc hb.size _
      have hz0 : wr.heap.size < W0.heap.size := by rw [hW0]; simp
      clear hc0 hc1 hW0
      have hx0 := KeptW.cell hq0 hz0
      have hx1 := KeptW.cell hq1 hz0
      refine region_kept W0.heap.size (by kernel_rfl) (by kernel_rfl) ?_
      repeat (go_big_quiet_step ((go_at_call 58; exact kept_call _ (Nat.le_refl _) (num_is _ _ _ (by omega) (by omega) HD))))
      refine wpQuiet_nil ?_
      intro w1 hb1
      have hb' : Below w.heap.size w w1 := hb0.trans (hb1.mono hb0.size)
      clear hb hb0 hb1 hx0 hx1 hq0 hq1 hz0
      have HB' := Lib.hid hb'; clear hb'
      go_wp2
      go_roundw
      case rel => exact ⟨k + 1, by omega, by go_num, by rw [HY.out], HB'.out⟩
      case measure => simp [intOf]; omega
    · obtain rfl : k = f.length := by omega
      go_wp2
      go_ret
      exact ⟨rfl, hb⟩

end Go.Proofs.YtiihhilhiknckaaGreatDoor.P
