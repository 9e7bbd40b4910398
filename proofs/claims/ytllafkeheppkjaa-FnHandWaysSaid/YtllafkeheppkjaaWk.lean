/-
  The contracts of impl.distance, impl.place's wayTo, impl.wayOver and impl.HandWay.
-/
import Derived.Test.YtllafkeheppkjaaWi
import Derived.Test.YtllafkeheppkjaaWj
namespace Go.Proofs.Ytllafkeheppkjaa
open Go.RowKit
set_option linter.unusedVariables false

theorem ten_at {l : List Bx} {is : List Nat} (hp : Places l) (hi : ∀ k (h : k < is.length), is[k] < l.length) : ∀ q ∈ is.map (plG l), InTen q := by
  intro q hq
  rw [List.mem_map] at hq
  obtain ⟨i, hm, rfl⟩ := hq
  obtain ⟨k, hk, rfl⟩ := List.mem_iff_getElem.1 hm
  rw [plG_at (hi k hk)]
  exact hp _ (hi k hk)
set_option maxRecDepth 100000 in
set_option maxHeartbeats 1000000 in
theorem wayOver_any (m : List Bx) (A : Option Addr) (c : Nat) (is : List Nat) (B : Option Addr) (d : Nat) (w : World) (hf : PbsIn w A m) (hn : m.length ≤ 1048576) (hs : IntsIn w B (idxZ is)) (hp : Places m) (hi : ∀ k (h : k < is.length), is[k] < m.length) (hm : is.length ≤ 60) :
    Calls Try.prog 65 #[.slice A m.length c, .slice B is.length d] w fun e w' => e = .returned (.int .i64 (wayI m is)) ∧ Below w.heap.size w w' := by
  have HF := Lib.hid hf; clear hf
  have HS := Lib.hid hs; clear hs
  have HT := Lib.hid (ten_at hp hi)
  have HP := Lib.hid hp; have HI := Lib.hid hi; clear hp hi
  obtain ⟨qs, hqs⟩ : ∃ qs, qs = is.map (plG m) := ⟨_, rfl⟩
  have HQL : Hid (qs.length = is.length) := Lib.hid (by rw [hqs]; simp)
  have HQS := Lib.hid hqs
  have HQ : Hid (∀ k (h : k < qs.length) (h' : k < is.length), qs[k] = plG m is[k]) := Lib.hid (by subst hqs; intro k h h'; simp)
  rw [← hqs] at HT
  clear hqs
  go_enter Try.func65, Try.ntmps65
  go_wp2
  go_loopw [5, 11] (fun s i wr => ∃ (k : Nat) (x y z : Int), k ≤ is.length ∧ i = .int .i64 k ∧ s = .int .i64 z ∧ (x, y, z) = runW (qs.take k) ∧ Own wr w.heap.size 70 [.int .i64 x, .int .i64 y] ∧ Below w.heap.size w wr) (fun _ i _ => is.length - (intOf i).toNat)
  case atStart => exact ⟨0, 0, 0, 0, Nat.zero_le _, rfl, rfl, rfl, heap_new _ _, (Below.refl _ _).alloc (Nat.le_refl _) _⟩
  case round =>
    obtain ⟨k, x, y, z, hk, rfl, rfl, hst, ho, hb⟩ := hrel
    by_cases hlt : k < is.length
    · obtain ⟨b, off, rfl, hbl, hc⟩ := HS.out (by rw [idxZ_len]; omega)
      have hc0 := hc k (by rw [idxZ_len]; exact hlt)
      clear hc
      rw [show (idxZ is)[k]'(by rw [idxZ_len]; exact hlt) = ((is[k] : Nat) : Int) from by simp [idxZ], ← hb.cell (p := ⟨b, off + k, none⟩) hbl] at hc0
      have hkl := HI.out k hlt
      have hrg := runW_range qs HT.out k (by rw [HQL.out]; omega)
      rw [← hst] at hrg
      have hqk := HQ.out k (by rw [HQL.out]; exact hlt) hlt
      rw [plG_at hkl] at hqk
      have HNX : Hid (runW (qs.take (k + 1)) = stepW (x, y, z) (m[is[k]].row, m[is[k]].col)) := Lib.hid (by
        rw [List.take_succ_eq_append_getElem (by rw [HQL.out]; exact hlt), runW_snoc, ← hst, hqk])
      clear hst hqk
      have hpl := HP.out _ hkl
      obtain ⟨bb, offb, rfl, hbbl, hcc⟩ := HF.out (by omega)
      obtain ⟨e0, e1, _, _⟩ := hcc _ hkl
      rw [← hb.cell (p := ⟨bb, offb + is[k] * 4, none⟩) hbbl] at e0
      rw [← hb.cell (p := ⟨bb, offb + is[k] * 4 + 1, none⟩) hbbl] at e1
      clear hcc
      obtain ⟨p0, hp0⟩ : ∃ p0, p0 = m[is[k]] := ⟨_, rfl⟩
      rw [← hp0] at e0 e1 HNX hpl
      have HP0 := Lib.hid hp0; clear hp0
      generalize is[k] = K at *
      have hTen : InTen (p0.row, p0.col) := hpl
      have hTn2 : InTen (x, y) := hrg.1
      have HX1 : Hid (DistIs p0.row x (absI (p0.row - x))) := Lib.hid ⟨hTen.1, hTn2.1, rfl⟩
      have HX2 : Hid (DistIs p0.col y (absI (p0.col - y))) := Lib.hid ⟨hTen.2, hTn2.2, rfl⟩
      obtain ⟨⟨g1, g2⟩, g3, g4⟩ := hrg
      obtain ⟨⟨g5, g6⟩, g7, g8⟩ := hpl
      have a1 := absI_range (a := p0.row) (b := x) ⟨g5, g6⟩ g1
      have a2 := absI_range (a := p0.col) (b := y) ⟨g7, g8⟩ g2
      dsimp only at g1 g2 g3 g4 g5 g6 g7 g8
      have hbw : bb < wr.heap.size := Nat.lt_of_lt_of_le hbbl hb.size
      have hgl := ho.lt
      have h0 : wr.cell? ⟨w.heap.size, 0, none⟩ = some (.int .i64 x) := ho.cell 0
      have h1 : wr.cell? ⟨w.heap.size, 1, none⟩ = some (.int .i64 y) := ho.cell 1
      have x0 := KeptW.cell e0 hbw
      have x1 := KeptW.cell e1 hbw
      have x2 := KeptW.cell h0 hgl
      have x3 := KeptW.cell h1 hgl
      have E0 := Lib.hid e0; have E1 := Lib.hid e1; have HO := Lib.hid ho; have HB := Lib.hid hb; have HGL := Lib.hid hgl; have HBW := Lib.hid hbw
      clear e0 e1 ho hb h0 h1 hTen hTn2 hgl hbw
      go_wp2_with fail
      refine region_kept wr.heap.size (by kernel_rfl) (by kernel_rfl) ?_
      repeat (go_big_quiet_step ((go_at_call 74; with_reducible exact kept_call _ (Nat.le_refl _) (wayTo_is p0.row p0.col x y _ _ _ HX1 HX2 a1.1 a1.2 a2.1 a2.2))))
      refine wpQuiet_nil ?_
      intro w1 hb1
      have f0 := (hb1.cell (p := ⟨bb, offb + K * 4, none⟩) HBW.out).trans E0.out
      have f1 := (hb1.cell (p := ⟨bb, offb + K * 4 + 1, none⟩) HBW.out).trans E1.out
      have ho1 := HO.out.next hb1
      have q0 : w1.cell? ⟨w.heap.size, 0, none⟩ = some (.int .i64 x) := ho1.cell 0
      have q1 : w1.cell? ⟨w.heap.size, 1, none⟩ = some (.int .i64 y) := ho1.cell 1
      have z0 := ho1.free 0
      have z1 := ho1.free 1
      have HOS : Hid (Own ((w1.setCell ⟨w.heap.size, 0, none⟩ (.int .i64 p0.row)).setCell ⟨w.heap.size, 1, none⟩ (.int .i64 p0.col)) w.heap.size 70 [.int .i64 p0.row, .int .i64 p0.col]) := Lib.hid ((ho1.set 0 (.int .i64 p0.row)).set 1 (.int .i64 p0.col))
      have hb2 := HB.out.trans (hb1.mono HB.out.size)
      have HBS := Lib.hid ((hb2.setCell (p := ⟨w.heap.size, 0, none⟩) (Nat.le_refl _) (.int .i64 p0.row)).setCell (p := ⟨w.heap.size, 1, none⟩) (Nat.le_refl _) (.int .i64 p0.col))
      clear x0 x1 x2 x3 hb1 ho1 hb2
      go_wp2
      go_roundw
      case rel => exact ⟨k + 1, p0.row, p0.col, z + (absI (p0.row - x) + absI (p0.col - y)), by omega, by go_num, by go_num, HNX.out.symm, HOS.out, HBS.out⟩
      case measure => simp [intOf]; omega
    · obtain rfl : k = is.length := by omega
      have HE : Hid (wayI m is = z) := Lib.hid (by
        unfold wayI
        rw [← HQS.out]
        rw [List.take_of_length_le (by rw [HQL.out]; exact Nat.le_refl _)] at hst
        rw [← hst])
      go_wp2
      go_ret
      exact ⟨ret_int HE.out.symm, hb⟩

theorem hwR_ix {l : List Bx} {cs : List ByteArray} : hwR l cs = (ixR l cs).map (wayI l) := by
  unfold hwR ixR
  split <;> rfl
theorem ixR_some {l : List Bx} {cs : List ByteArray} {is : List Nat} (h : ixR l cs = some is) : CaseOk l ∧ is = ixs l cs ∧ (∀ k (h : k < is.length), is[k] < l.length) ∧ is.length ≤ 60 ∧ AllIn l cs := by
  unfold ixR at h
  split at h
  · rename_i hv
    obtain ⟨h1, h2, h3⟩ := askB2_all hv
    obtain rfl := Option.some.inj h
    refine ⟨h1, rfl, fun k hk => ?_, by simpa [ixs] using h3, h2⟩
    simp only [ixs, List.length_map] at hk
    simp only [ixs, List.getElem_map]
    exact (kI_lt (h2 k hk)).1
  · cases h
theorem implHandWay_any (l : List Bx) (A : Option Addr) (c : Nat) (cs : List ByteArray) (B : Option Addr) (d : Nat) (w : World) (hf : BxsIn w A l) (hn : l.length ≤ 1048576) (ho : BxsOk l) (hcap : l.length ≤ c) (hs : StrsIn w B cs) (hso : StrsOk cs) (hm : cs.length ≤ 1048576) :
    Calls Try.prog 29 #[.slice A l.length c, .slice B cs.length d] w fun e w' => e = .returned (.tuple #[.int .i64 ((hwR l cs).getD 0), .bool (hwR l cs).isSome]) ∧ Below w.heap.size w w' := by
  have HF := Lib.hid hf; clear hf
  have HO := Lib.hid ho; clear ho
  have HS := Lib.hid hs; clear hs
  have HX := Lib.hid (hwR_ix (l := l) (cs := cs))
  go_enter Try.func29, Try.ntmps29
  go_wp2_with fail
  refine (boxesOfCodes_any l A c cs B d _ HF.out hn HO.out HS.out hso hm).mono ?_
  intro e w1 hto
  obtain ⟨v, rfl, hb1, hown⟩ := hto
  cases hr : ixR l cs with
  | none =>
    have HE : Hid (hwR l cs = none) := Lib.hid (by rw [HX.out, hr]; rfl)
    rw [hr] at hown
    obtain ⟨A2, c2, rfl⟩ := own_form (l := []) hown
    clear hown hr
    go_wp2
    go_ret2
    exact ⟨by rw [HE.out]; rfl, hb1⟩
  | some is =>
    have HE : Hid (hwR l cs = some (wayI l is)) := Lib.hid (by rw [HX.out, hr]; rfl)
    obtain ⟨hC, hix, hil, h60, hA⟩ := ixR_some hr
    rw [hr] at hown
    have hown' : w1.ownsRow w.heap.size 3 1 v is.length (intsZ (idxZ is)) := hown
    obtain ⟨A2, c2, rfl⟩ := own_form hown'
    have HIN := Lib.hid (own_in hown')
    have HC := Lib.hid hC; have HIL := Lib.hid hil
    have HF1 := Lib.hid (HF.out.next hb1)
    clear hown hown' hr hC hix hil hA
    rw [idxZ_len]
    go_wp2_with fail
    refine (placeBoxes_any l A c _ HF1.out hn).mono ?_
    intro e w2 hto
    obtain ⟨v2, rfl, hb2, hown2⟩ := hto
    obtain ⟨A3, c3, rfl, _, _, hpb⟩ := own_pbs hown2
    have HPB := Lib.hid hpb
    have HIN2 := Lib.hid (HIN.out.below hb2 (Nat.le_refl _))
    have hb' := hb1.trans (hb2.mono hb1.size)
    clear hpb hown2 hb1 hb2
    go_wp2_with fail
    refine (wayOver_any l A3 c3 is A2 c2 _ HPB.out hn HIN2.out HC.out.places HIL.out h60).mono ?_
    rintro e w3 ⟨rfl, hb3⟩
    go_wp2
    go_ret2
    exact ⟨by rw [HE.out]; rfl, hb'.trans (hb3.mono hb'.size)⟩
end Go.Proofs.Ytllafkeheppkjaa
