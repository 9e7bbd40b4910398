/-
  The keys of a map, sorted (slices.Sorted over maps.Keys), and the contract of impl.slipPieces.stock.
-/
import Derived.Test.YtljakcfdjcjdbaaQb
import Derived.Test.YtljakcfdjcjdbaaShk
import Derived.Shelf.AbstractIn
namespace Go.Proofs.Ytljakcfdjcjdbaa
open Go.RowKit Go.Maps Go.Sort Go.Shelf
set_option linter.unusedVariables false

theorem sortsA (m : Nat) : AnyZI.SortsIn Try.prog Try.sortedA_ren Fence.wide m :=
  ⟨fun blk off cap ss W hH hblk hsz => callsIn_wide.2 (AnyM.slices_Sort_int Try.sortA blk off cap ss W hH hblk hsz),
   fun p cap W => callsIn_wide.2 (AnyM.slices_Sort_int_none Try.sortA p cap W)⟩
theorem keys_call (mb : Option Nat) (w : World) : Calls Try.prog 78 #[.map mb] w fun e w' => e = .returned (.func (.func 86) #[] #[.pointer (some ⟨w.heap.size, 0, none⟩)]) ∧ w' = w.alloc (.cells #[.map mb] 76) :=
  (callsIn_wide (n := 6)).1 (AnyZI.keys_in Try.keysA Fence.wide 6 trivial rfl mb w)
set_option maxHeartbeats 1000000 in
theorem sorted_call (q b N : Nat) (m : Int → Option Int) (K : List Int) (w : World) (hq : q < w.heap.size) (hc : w.cell? ⟨q, 0, none⟩ = some (.map (some b))) (hm : IsMp w b N m) (hN : N ≤ 1000) (hK : K.Pairwise (· < ·)) (hk : ∀ a, a ∈ K ↔ (m a).isSome = true) :
    Calls Try.prog 77 #[.func (.func 86) #[] #[.pointer (some ⟨q, 0, none⟩)]] w fun e w' => ∃ v, e = .returned v ∧ Below w.heap.size w w' ∧ w'.ownsRow w.heap.size 3 1 v K.length (intsZ K) := by
  obtain ⟨D, h1, h2, h3⟩ := hm
  have hsz : Maps.size D ≤ 1000 := Nat.le_trans h1.size_le hN
  have hseq : SeqGives Fence.wide 2 Try.prog 86 #[.pointer (some ⟨q, 0, none⟩)] encZ (fun ss => ss.Perm (intKeys D)) (Maps.size D) w :=
    AnyZI.keys_gives (ρ := Try.keysA_ren) { Try.keysA with } Fence.wide _ trivial rfl (by omega) q b N D _ hq hc h1
  have cS := AnyZI.sorted_in Try.sortedA Fence.wide 5 trivial trivial trivial trivial rfl (by omega) (sortsA _) (enters_of Try.func85 (by kernel_rfl) rfl) 86 #[.pointer (some ⟨q, 0, none⟩)] trivial (enters_of Try.func86 (by kernel_rfl) rfl) _ _ (by unfold maxLen; omega) (by omega) _ hseq
  refine ((callsIn_wide (n := 5)).1 cS).mono ?_
  rintro e w' ⟨v, ss, rfl, hS, hrow, _, hb⟩
  have hkk := IsMp.keys h1 (fun a ha => (h2 a ha).1) h3 hK hk hS
  have hl : ss.length = K.length := by rw [← hkk, List.length_mergeSort]
  rw [hkk, hl] at hrow
  exact ⟨v, rfl, hb, hrow⟩

def lensK (l : List Sl) : List Int := l.map (·.len)
theorem lensK_len (l : List Sl) : (lensK l).length = l.length := by simp [lensK]
theorem lensK_rise {l : List Sl} (h : Rise l) : (lensK l).Pairwise (· < ·) := List.pairwise_map.2 h
theorem own_nilS (w : World) (base : Nat) (e : TypeId) : w.ownsRow base e 2 (.slice none 0 0) 0 (flatSl []) := own_nil w base 2 e
set_option maxRecDepth 100000 in
set_option maxHeartbeats 2000000 in
theorem stock_any (S : List Sl) (b N : Nat) (w : World) (hm : IsMp w b N (fun a => asM S a)) (hN : N ≤ 1000) (hr : Rise S) (hl : S.length ≤ 100) (hwf : ∀ x ∈ S, WF x.len) :
    Calls Try.prog 71 #[.map (some b)] w fun e w' => ∃ v, e = .returned (.tuple #[v, .bool (stkB S)]) ∧ Below w.heap.size w w' ∧ w'.ownsRow w.heap.size 57 2 v (ifV S).length (flatSl (ifV S)) := by
  have HM := Lib.hid hm; have HR := Lib.hid hr; have HWF := Lib.hid hwf; clear hm hr hwf
  obtain ⟨i0, hi, hz0, hz1, hz2⟩ := info_parts infoSl
  have HI0 := Lib.hid hi; have HZ0 := Lib.hid hz0; have HZ1 := Lib.hid hz1; have HZ2 := Lib.hid hz2
  clear hi hz0 hz1 hz2
  have hbl := HM.out.lt
  go_enter Try.func71, Try.ntmps71
  go_wp2_with fail
  refine (keys_call _ _).mono ?_
  rintro e w1 ⟨rfl, hw1⟩
  have hal : Below w.heap.size w w1 := by rw [hw1]; exact (Below.refl _ _).alloc (Nat.le_refl _) _
  have HC1 : Hid (w1.cell? ⟨w.heap.size, 0, none⟩ = some (.map (some b))) := Lib.hid (by rw [hw1]; simp)
  have HL1 : Hid (w.heap.size < w1.heap.size) := Lib.hid (by rw [hw1]; simp)
  have HM1 := Lib.hid (HM.out.next hal)
  have HB1 := Lib.hid hal
  clear hw1 hal
  go_wp2_with fail
  refine (sorted_call w.heap.size b N (fun a => asM S a) (lensK S) _ HL1.out HC1.out HM1.out hN (lensK_rise HR.out) (fun a => (asM_isSome HR.out).symm)).mono ?_
  rintro e w2 ⟨v, rfl, hb2, ho2⟩
  have HM2 := Lib.hid (HM1.out.next hb2)
  have HB2 := Lib.hid (HB1.out.trans (hb2.mono HB1.out.size))
  obtain ⟨A2, c2, rfl⟩ := own_form ho2
  have HI2 := Lib.hid (own_in ho2)
  have HKL := Lib.hid (lensK_len S)
  rw [HKL.out]
  clear hb2 ho2
  go_wp2
  go_loopw [4, 11] (fun v i wr => ∃ k : Nat, k ≤ S.length ∧ i = .int .i64 (k : Int) ∧ wr.ownsRow w2.heap.size 57 2 v k (flatSl (S.take k)) ∧ Below w2.heap.size w2 wr) (fun _ i _ => S.length - (RowKit.intOf i).toNat)
  case atStart => exact ⟨0, Nat.zero_le _, rfl, own_nil _ _ _ _, Below.refl _ _⟩
  case round =>
    obtain ⟨k, hk, rfl, hv, hb⟩ := hrel
    have HV := Lib.hid hv; have HB := Lib.hid hb
    clear hv hb
    by_cases hlt : k < S.length
    · obtain ⟨B, off, hA, hbl2, hc⟩ := HI2.out (by rw [HKL.out]; omega)
      subst hA
      have hc0 := hc k (by rw [HKL.out]; exact hlt)
      rw [← HB.out.cell (p := ⟨B, off + k, none⟩) hbl2] at hc0
      have HE : Hid ((lensK S)[k]'(by rw [HKL.out]; exact hlt) = S[k].len) := Lib.hid (by simp [lensK])
      rw [HE.out] at hc0
      have HAS : Hid ((asM S S[k].len).getD 0 = S[k].cnt) := Lib.hid (by rw [asM_mem HR.out (List.getElem_mem hlt)]; rfl)
      have hlk := (HM2.out.next HB.out).look (HWF.out S[k] (List.getElem_mem hlt))
      rw [HAS.out] at hlk
      have HST : Hid (flatSl (S.take (k + 1)) = flatSl (S.take k) ++ [.int .i64 S[k].len, .int .i64 S[k].cnt]) := Lib.hid (by rw [List.take_succ_eq_append_getElem hlt, flatSl_snoc])
      have hmx : k + 1 ≤ maxLen := by unfold maxLen; omega
      have hws := HB.out.size
      clear hc HE HAS
      generalize S[k].len = y at *
      generalize S[k].cnt = x at *
      go_wp2_with (at_builtin; refine wpList_append_own _ rfl _ _ 25 rfl w2.heap.size 57 i0 (.agg #[.int .i64 0, .int .i64 0]) 2 16 Try.underlying25 HI0.out HZ0.out HZ1.out HZ2.out rfl (by decide) _ _ _ rfl (HV.out.alloc _) ⟨wr.heap.size, 0, none⟩ 1 1 [.int .i64 y, .int .i64 x] rfl rfl (cells_two_new _ _ _ _) (by simp [Value.oneCell']) hmx (by omega) (by first | (simp; done) | (simp; omega) | omega) ?_)
      intro v' w5 hown' hgrow _
      have HB5 := Lib.hid ((HB.out.alloc HB.out.size (.cells #[.int .i64 y, .int .i64 x] 57)).grown hgrow (by simp; omega) (own_lt HV.out))
      have HO5 : Hid (w5.ownsRow w2.heap.size 57 2 v' (k + 1) (flatSl (S.take (k + 1)))) := Lib.hid (by rw [HST.out]; exact hown')
      clear hown' hgrow hlk
      go_wp2
      go_roundw
      case rel => exact ⟨k + 1, by omega, by go_num, HO5.out, HB5.out⟩
      case measure => simp [RowKit.intOf]; omega
    · obtain rfl : k = S.length := by omega
      have HO9 : Hid (wr.ownsRow w2.heap.size 57 2 u4 S.length (flatSl S)) := Lib.hid (by have h := HV.out; rw [List.take_length] at h; exact h)
      obtain ⟨A9, c9, hv9⟩ := own_form_sl HO9.out
      subst hv9
      have HBW := Lib.hid (HB2.out.trans (HB.out.mono HB2.out.size))
      clear HV
      go_wp2_with fail
      refine (implIsStock_any S A9 c9 _ (own_in_sl HO9.out) (by omega)).mono ?_
      rintro e w6 ⟨rfl, hb6⟩
      have HB6 := Lib.hid (HBW.out.trans (hb6.mono HBW.out.size))
      have HO6 := Lib.hid (own_below HO9.out hb6)
      clear hb6
      cases hg : stkB S
      · have HV := Lib.hid (ifV_no hg)
        have HQ := Lib.hid hg
        clear hg
        go_wp2
        go_ret2
        exact ⟨_, ret_vb HQ.out.symm, HB6.out, by rw [HV.out]; exact own_nil _ _ _ _⟩
      · have HV := Lib.hid (ifV_yes hg)
        have HQ := Lib.hid hg
        clear hg
        go_wp2
        go_ret2
        exact ⟨_, ret_vb HQ.out.symm, HB6.out, by rw [HV.out]; exact Joins.ownsRow_le HO6.out HB2.out.size⟩
end Go.Proofs.Ytljakcfdjcjdbaa
