/-
  Going through the sums of a stock: impl.sumsOfSlips, MissingFor in spec and in impl.
-/
import Derived.Test.YtljakcfdjcjdbaaPg
import Derived.Test.YtljakcfdjcjdbaaVi
import Derived.RangeFuncBox
import Derived.Sort.QuietIn
namespace Go.Proofs.Ytljakcfdjcjdbaa
open Go.RowKit Go.Shelf
set_option linter.unusedVariables false
attribute [local go_sem] Oper.semAt_some encS

theorem KpB.kt {B : Nat} : ∀ {X Y Z : World}, KpB B X Y → KpB B Y Z → KpB B X Z := fun h k => KpB.t h k
theorem KpB.kb {B m : Nat} : ∀ (W : World) (l : Nat) (o o' : Obj), m ≤ l → W.heap[l]? = some o → o.isCells = false → o.isWalk = false → KpB B W (W.putObj l o') := fun W l o o' _ h ho _ => KpB.b W l o o' h ho
theorem below_put {w W : World} {B D : Nat} {o : Obj} (o' : Obj) (h : Below B w W) (hD : B ≤ D) (hk : W.heap[D]? = some o) : Below B w (W.putObj D o') :=
  h.grown (grownBy_putObj' W D o') (by have := lt_of_heap hk; omega) (fun k e => by cases e; exact hD)
theorem pure_own {β : Type} (p : β → Prop) : _root_.Go.Own (fun (s : β) (_ : World) => p s) := fun _ _ _ _ hs _ _ => hs
theorem keeps_below {B : Nat} {W W' : World} (h : Below B W W') (hB : B = W.heap.size) : KeepsOthers W W' := by
  subst hB
  exact ⟨h.size, fun k o hk _ => (h.block k (lt_of_heap hk)).trans hk⟩
theorem row_kpb {B : Nat} {W W' : World} {n₀ size k : Nat} {v : Value} {xs : List Value} (h : W.ownsRow n₀ 3 size v k xs) (hg : W.grownBy W' v.ownBlock) : KpB B W W' :=
  KpB.grown hg fun r hr cs fr hh => by obtain ⟨cur, e⟩ := row_cells h hr hh; simp at e
def lastV (pre : List Sum4) : Nat := match pre.getLast? with | none => 0 | some x => x.1
theorem lastV_snoc (pre : List Sum4) (x : Sum4) : lastV (pre ++ [x]) = x.1 := by unfold lastV; rw [List.getLast?_concat]
theorem sumL_mem {T : Nat → Bool} {z : Nat} (hz : T z = true) (h4 : z ≤ 400) : ∀ k : Nat, z < k → (⟨z, h4⟩ : Sum4) ∈ sumL T k
  | 0, h => by omega
  | k + 1, h => by
    rcases Nat.lt_or_ge z k with h1 | h1
    · have ih := sumL_mem hz h4 k h1
      by_cases hk : T k = true ∧ k ≤ 400
      · rw [sumL_yes hk.1 hk.2]; exact List.mem_append_left _ ih
      · unfold sumL; rw [dif_neg hk]; exact ih
    · obtain rfl : z = k := by omega
      rw [sumL_yes hz h4]; simp

/-- The iterator over the sums of a stock up to N. -/
def SlSums (f : List Sl) (N : Nat) (w w' : World) (e : Ending) : Prop :=
  ∃ (bm bk bs g h : Nat), e = .returned (.func (.func 82) #[] #[.pointer (some ⟨bm, 0, none⟩), .pointer (some ⟨bk, 0, none⟩), .pointer (some ⟨bs, 0, none⟩)]) ∧ SumBox w' bm bk bs (lensL f) (cntsL f) (some ⟨g, 0, none⟩) (some ⟨h, 0, none⟩) f.length f.length N ∧ Below w.heap.size w w'
theorem sumsOfSlips_any (f : List Sl) (A : Option Addr) (c N : Nat) (w : World) (hf : SlsIn w A f) (hn : f.length ≤ 1048576) :
    Calls Try.prog 60 #[.slice A f.length c, .int .i64 (N : Int)] w fun e w' => SlSums f N w w' e := by
  have HF := Lib.hid hf; clear hf
  go_enter Try.func60, Try.ntmps60
  go_wp2_with fail
  refine (numbersOfSlips_any f A c _ HF.out hn).mono ?_
  rintro e w1 ⟨g, h, rfl, H⟩
  have HH := Lib.hid H; clear H
  have HB := Lib.hid HH.out.bel
  go_wp2_with fail
  refine (sumsFromStock_any (some ⟨g, 0, none⟩) (some ⟨h, 0, none⟩) f.length f.length f.length f.length (N : Int) w1).mono ?_
  rintro e w2 ⟨rfl, hw2⟩
  have hb2 : Below w1.heap.size w1 w2 := by rw [hw2]; exact (((Below.refl _ _).alloc (Nat.le_refl _) _).alloc (by simp) _).alloc (by simp; omega) _
  have HB2 := Lib.hid (HB.out.trans (hb2.mono HB.out.size))
  have HS : Hid (SumBox w2 (w1.heap.size + 2) w1.heap.size (w1.heap.size + 1) (lensL f) (cntsL f) (some ⟨g, 0, none⟩) (some ⟨h, 0, none⟩) f.length f.length N) := Lib.hid ⟨by
      rw [hw2]
      have h := Boxed.new ((w1.alloc (.cells #[.slice (some ⟨g, 0, none⟩) f.length f.length] 31)).alloc (.cells #[.slice (some ⟨h, 0, none⟩) f.length f.length] 31)) 3 (.int .i64 (N : Int))
      rw [World.size_alloc, World.size_alloc] at h
      exact h, by rw [hw2, lensL_len]; exact ((Boxed.new _ _ _).alloc _).alloc _, by
      rw [hw2, cntsL_len]
      have h := Boxed.new (w1.alloc (.cells #[.slice (some ⟨g, 0, none⟩) f.length f.length] 31)) 31 (.slice (some ⟨h, 0, none⟩) f.length f.length)
      rw [World.size_alloc] at h
      exact h.alloc _, HH.out.li.below hb2 (Nat.le_refl _), HH.out.ci.below hb2 (Nat.le_refl _)⟩
  clear hb2 hw2
  go_wp2
  go_ret
  exact ⟨_, _, _, _, _, rfl, HS.out, HB2.out⟩
/-- The sums come in their order. -/
theorem slips_stops {f : List Sl} (hG : GoodS f) (n : Nat) (hn : 2 ≤ n) (bm bk bs g h N : Nat) (w : World) (hS : SumBox w bm bk bs (lensL f) (cntsL f) (some ⟨g, 0, none⟩) (some ⟨h, 0, none⟩) f.length f.length N) (hN : N ≤ 400) :
    SeqStopsK Fence.wide n Try.prog 82 #[.pointer (some ⟨bm, 0, none⟩), .pointer (some ⟨bk, 0, none⟩), .pointer (some ⟨bs, 0, none⟩)] encS (KpB w.heap.size)
      (fun xs => xs = sumL (mkB f) (N + 1)) (SumPre (mkB f) (N + 1)) (N + 1) w := by
  have e : stT (lensL f) (cntsL f) (lensL f).length = mkB f := by funext j; unfold stT mkB; rw [lensL_len]
  rw [← e]
  have hll := lensL_len f; have hcl := cntsL_len f
  exact sums_stops n hn bm bk bs (lensL f) (cntsL f) _ _ _ _ N w hS (fun k hk => by
      obtain ⟨j, hj, rfl⟩ := List.mem_iff_getElem.1 hk
      rw [hll] at hj
      have := (hG.bd hj).1
      simp only [lensL, List.getElem_map]; omega) (fun j hj => by
      rw [hll] at hj
      have := (hG.bd hj).1
      simp only [lensL, List.getElem_map]; omega) (fun j hj => by
      rw [hcl] at hj
      have := (hG.bd hj).2
      simp only [cntsL, List.getElem_map]; omega) (by rw [hll, hcl]) (by rw [hll]; exact hG.eight) hN

/-- The first number from n on, of k ones, that passes. -/
def nxt (P : Nat → Bool) : Nat → Nat → Option Nat
  | _, 0 => none
  | n, k + 1 => if P n then some n else nxt P (n + 1) k
theorem nxt_none {P : Nat → Bool} : ∀ {k n : Nat}, (∀ m, n ≤ m → m < n + k → P m = false) → nxt P n k = none
  | 0, _, _ => rfl
  | k + 1, n, h => by
    unfold nxt; rw [h n (Nat.le_refl _) (by omega)]
    exact nxt_none fun m h1 h2 => h m (by omega) (by omega)
theorem nxt_some {P : Nat → Bool} {x : Nat} (hx : P x = true) : ∀ {k n : Nat}, n ≤ x → x < n + k → (∀ m, n ≤ m → m < x → P m = false) → nxt P n k = some x
  | 0, _, h1, h2, _ => by omega
  | k + 1, n, h1, h2, h => by
    unfold nxt
    rcases Nat.lt_or_ge n x with h3 | h3
    · rw [h n (Nat.le_refl _) h3]
      exact nxt_some hx (by omega) (by omega) fun m h4 h5 => h m (by omega) h5
    · obtain rfl : n = x := by omega
      rw [hx]; rfl
noncomputable def askL (f : List Sl) (n : Int) : Bool := stkB f && inB 1 400 n
theorem askL_iff {f : List Sl} {n : Int} : askL f n = true ↔ GoodS f ∧ 1 ≤ n ∧ n ≤ 400 := by unfold askL; rw [Bool.and_eq_true, stkB_iff, inBs_iff]
noncomputable def misO (f : List Sl) (n : Int) : Option Nat := if askL f n then nxt (mkB f) n.toNat (401 - n.toNat) else none
noncomputable def misB (f : List Sl) (n : Int) : Bool := (misO f n).isSome
noncomputable def misV (f : List Sl) (n : Int) : Int := match misO f n with | some m => (m : Int) - n | none => 0
theorem mis_none {f : List Sl} {n : Int} (h : misO f n = none) : misB f n = false ∧ misV f n = 0 := by unfold misB misV; rw [h]; exact ⟨rfl, rfl⟩
theorem mis_some {f : List Sl} {n : Int} {m : Nat} (h : misO f n = some m) : misB f n = true ∧ misV f n = (m : Int) - n := by unfold misB misV; rw [h]; exact ⟨rfl, rfl⟩
theorem misO_no {f : List Sl} {n : Int} (h : askL f n = false) : misO f n = none := by unfold misO; rw [h]; rfl
theorem misO_yes {f : List Sl} {n : Nat} (h : askL f (n : Int) = true) : misO f (n : Int) = nxt (mkB f) n (401 - n) := by unfold misO; rw [h]; rfl

set_option maxRecDepth 100000 in
set_option maxHeartbeats 2000000 in
theorem specMissingFor_any (f : List Sl) (A : Option Addr) (c : Nat) (n : Int) (w : World) (hf : SlsIn w A f) (hn : f.length ≤ 1048576) :
    Calls Try.prog 33 #[.slice A f.length c, .int .i64 n] w fun e w' => e = .returned (.tuple #[.int .i64 (misV f n), .bool (misB f n)]) ∧ Below w.heap.size w w' := by
  have HF := Lib.hid hf; clear hf
  go_enter Try.func33, Try.ntmps33
  go_wp2_with fail
  refine (ruGood_any f A c _ HF.out hn).mono ?_
  rintro e w1 ⟨rfl, hb1⟩
  have HB1 := Lib.hid hb1
  clear hb1
  cases hg : stkB f
  · have HV := Lib.hid (mis_none (misO_no (f := f) (n := n) (by unfold askL; rw [hg]; rfl)))
    clear hg
    go_wp2
    go_ret2
    exact ⟨ret_ib HV.out.2.symm HV.out.1.symm, HB1.out⟩
  have HG := Lib.hid (stkB_iff.1 hg)
  go_wp2_with fail
  refine (ruLength_any _ _).mono ?_
  rintro e w' ⟨rfl, rfl⟩
  cases hi : inB 1 400 n
  · have HV := Lib.hid (mis_none (misO_no (f := f) (n := n) (by unfold askL; rw [hi]; simp)))
    clear hg hi
    go_wp2
    go_ret2
    exact ⟨ret_ib HV.out.2.symm HV.out.1.symm, HB1.out⟩
  have hin := inBs_iff.1 hi
  obtain ⟨N, rfl⟩ : ∃ N : Nat, n = (N : Int) := ⟨n.toNat, by omega⟩
  have HO := Lib.hid (misO_yes (f := f) (n := N) (by unfold askL; rw [hg, hi]; rfl))
  clear hg hi
  have hn8 := HG.out.eight
  have hN4 : N ≤ 400 := by omega
  go_wp2_with fail
  refine (ruTables_any f A c 400 _ (HF.out.below HB1.out (Nat.le_refl _)) HG.out (Nat.le_refl _)).mono ?_
  rintro e w2 ⟨G, cap, rfl, hcap, hb2, hO⟩
  have HB2 := Lib.hid (HB1.out.trans (hb2.mono HB1.out.size))
  have HT := Lib.hid hO
  clear hb2 hO
  obtain ⟨g, cg, k1, k2, k3, k4⟩ := HT.out.2.2 f.length (by omega)
  have HK := Lib.hid k4
  have hGl := HT.out.2.1
  have hfl : (f.length : Int) < ((f.length + 1 : Nat) : Int) := by omega
  clear k4
  go_wp2
  go_loopw [7] (fun i wr => ∃ m : Nat, N ≤ m ∧ m ≤ 401 ∧ i = .int .i64 (m : Int) ∧ nxt (mkB f) N (401 - N) = nxt (mkB f) m (401 - m) ∧ Below w2.heap.size w2 wr) (fun i _ => 402 - (intOf i).toNat)
  case atStart => exact ⟨N, Nat.le_refl _, by omega, rfl, rfl, Below.refl _ _⟩
  case round =>
    obtain ⟨m, hm1, hm2, rfl, hnx, hb⟩ := hrel
    have HNX := Lib.hid hnx; have HB := Lib.hid hb
    have HBW := Lib.hid (HB2.out.trans (hb.mono HB2.out.size))
    clear hnx hb k1
    by_cases hlt : m ≤ 400
    · have ht := (HK.out.next HB.out).cell (j := m) (by omega)
      have hgl := HK.out.lt
      have hgl2 : g < wr.heap.size := (HK.out.next HB.out).lt
      have hm4 : (m : Int) ≤ 400 := by omega
      have hfe : fwI 1048576 f f.length m = (FW 1048576 f m : Int) := by unfold fwI; rw [List.take_length]
      rw [hfe] at ht
      have hfl2 := FW_le 1048576 f m
      have HMK := Lib.hid (mkB_fw (f := f) HG.out (Z := 1048576) (n := m) (by omega))
      have HST : Hid (nxt (mkB f) m (401 - m) = if mkB f m then some m else nxt (mkB f) (m + 1) (401 - (m + 1))) := Lib.hid (by
        rw [show 401 - m = (401 - (m + 1)) + 1 from by omega]; rfl)
      clear hfe
      generalize FW 1048576 f m = fd at *
      rcases (by omega : (fd : Int) < 1048576 ∨ ¬ (fd : Int) < 1048576) with h1 | h1
      · have HV := Lib.hid (mis_some (f := f) (n := (N : Int)) (m := m) (by rw [HO.out, HNX.out, HST.out, HMK.out.2 (by omega)]; rfl))
        go_wp2
        go_ret2
        exact ⟨ret_ib HV.out.2.symm HV.out.1.symm, HBW.out⟩
      · have HN2 : Hid (nxt (mkB f) N (401 - N) = nxt (mkB f) (m + 1) (401 - (m + 1))) := Lib.hid (by
          rw [HNX.out, HST.out, if_neg (fun h => by have := HMK.out.1 h; omega)])
        go_wp2
        go_roundw
        case rel => exact ⟨m + 1, by omega, by omega, by go_num, HN2.out, HB.out⟩
        case measure => simp [intOf]; omega
    · obtain rfl : m = 401 := by omega
      have HV := Lib.hid (mis_none (f := f) (n := (N : Int)) (by rw [HO.out, HNX.out]; rfl))
      go_wp2
      go_ret2
      exact ⟨ret_ib HV.out.2.symm HV.out.1.symm, HBW.out⟩
end Go.Proofs.Ytljakcfdjcjdbaa
