/-
  spec.ParseStrike: what it answers, in plain words, and its contract.
-/
import Derived.Test.YtdomccamkiplcaaDoorSpl
import Derived.Test.YtdomccamkiplcaaDoorMao
import Derived.Test.YtdomccamkiplcaaDoorRd
namespace Go.Proofs.YtdomccamkiplcaaDoor
open Go.RowKit
set_option linter.unusedVariables false

def skOf (l : List Int) : Sk := ⟨l.getD 0 0, l.getD 1 0, l.getD 2 0, l.getD 3 0, l.getD 4 0⟩
theorem skOf_zs {l : List Int} (h : l.length = 5) : (skOf l).zs = l := by
  match l, h with
  | [c0, c1, c2, c3, c4], _ => rfl
def zeroSk : Sk := ⟨0, 0, 0, 0, 0⟩
def sPieces (s : ByteArray) : List ByteArray := pcs 47 s
def sRead (s : ByteArray) : Sk := skOf ((sPieces s).map T1.readF)
def parOk (s : ByteArray) : Bool := decide ((sPieces s).length = 5) && goodB (sRead s)
def parS (s : ByteArray) : Sk := if parOk s then sRead s else zeroSk
theorem par_yes {s : ByteArray} (h : (sPieces s).length = 5) (hg : goodB (sRead s) = true) : parOk s = true ∧ parS s = sRead s := by
  have : parOk s = true := by unfold parOk; rw [hg, decide_eq_true h]; rfl
  exact ⟨this, by unfold parS; rw [this]; rfl⟩
theorem par_no {s : ByteArray} (h : (sPieces s).length ≠ 5 ∨ goodB (sRead s) = false) : parOk s = false ∧ parS s = zeroSk := by
  have : parOk s = false := by
    unfold parOk
    rcases h with h | h
    · rw [decide_eq_false h]; rfl
    · rw [h]; simp
  exact ⟨this, by unfold parS; rw [this]; rfl⟩
theorem split_size (c : UInt8) (n : Nat) : ∀ (s : ByteArray), ∀ x ∈ Lib.splitB (sepB c) 0 n s, x.size ≤ s.size := by
  induction n with
  | zero => intro s x hx; rw [Lib.splitB_zero] at hx; simp at hx; subst hx; exact Nat.le_refl _
  | succ n ih =>
    intro s x hx
    rcases Lib.indexB_cases s (sepB c) with h | ⟨i, h, hr⟩
    · rw [Lib.splitB_miss _ _ _ _ h] at hx; simp at hx; subst hx; exact Nat.le_refl _
    · rw [Lib.splitB_hit _ _ _ _ i h] at hx
      rcases List.mem_cons.1 hx with rfl | hx
      · rw [ByteArray.size_extract]; omega
      · have := ih _ x hx
        rw [ByteArray.size_extract] at this; omega
theorem map_snoc {α β : Type} (f : α → β) {l : List α} {k : Nat} (h : k < l.length) : (l.take (k + 1)).map f = (l.take k).map f ++ [f l[k]] := by
  rw [List.take_succ_eq_append_getElem h, List.map_append]; rfl

def ParTo (s : ByteArray) (w w' : World) (e : Ending) : Prop := e = .returned (.tuple #[.agg #[.int .i64 (parS s).dep, .int .i64 (parS s).lef, .int .i64 (parS s).fac, .int .i64 (parS s).rig, .int .i64 (parS s).foo], .bool (parOk s)]) ∧ Below w.heap.size w w'
theorem ParTo.no {s : ByteArray} {w w' : World} (h : (sPieces s).length ≠ 5 ∨ goodB (sRead s) = false) (hb : Below w.heap.size w w') : ParTo s w w' (.returned (.tuple #[.agg #[.int .i64 0, .int .i64 0, .int .i64 0, .int .i64 0, .int .i64 0], .bool false])) := by
  obtain ⟨h1, h2⟩ := par_no h
  exact ⟨by rw [h1, h2]; rfl, hb⟩
theorem ParTo.yes {s : ByteArray} {w w' : World} {q : Sk} (h : (sPieces s).length = 5) (hg : goodB (sRead s) = true) (hq : q = sRead s) (hb : Below w.heap.size w w') : ParTo s w w' (.returned (.tuple #[.agg #[.int .i64 q.dep, .int .i64 q.lef, .int .i64 q.fac, .int .i64 q.rig, .int .i64 q.foo], .bool true])) := by
  obtain ⟨h1, h2⟩ := par_yes h hg
  exact ⟨by rw [h1, h2, hq], hb⟩

theorem info_int : (Tryd.prog.info? 3).map (fun i => (i.zero, i.size, i.bytes)) = some (some (.int .i64 0), 1, 8) := by kernel_rfl
theorem sk_set {W : World} {b : Nat} {t : TypeId} {s : Sk} (h : SkAt W b t s) (x0 x1 x2 x3 x4 : Value) :
    (W.setCell ⟨b, 0, none⟩ x0).cell? ⟨b, 0, none⟩ = some x0 ∧ ((W.setCell ⟨b, 0, none⟩ x0).setCell ⟨b, 1, none⟩ x1).cell? ⟨b, 1, none⟩ = some x1 ∧
    (((W.setCell ⟨b, 0, none⟩ x0).setCell ⟨b, 1, none⟩ x1).setCell ⟨b, 2, none⟩ x2).cell? ⟨b, 2, none⟩ = some x2 ∧
    ((((W.setCell ⟨b, 0, none⟩ x0).setCell ⟨b, 1, none⟩ x1).setCell ⟨b, 2, none⟩ x2).setCell ⟨b, 3, none⟩ x3).cell? ⟨b, 3, none⟩ = some x3 ∧
    (((((W.setCell ⟨b, 0, none⟩ x0).setCell ⟨b, 1, none⟩ x1).setCell ⟨b, 2, none⟩ x2).setCell ⟨b, 3, none⟩ x3).setCell ⟨b, 4, none⟩ x4).cell? ⟨b, 4, none⟩ = some x4 := by
  have h1 := heap_set h (i := 0) x0
  have h2 := heap_set h1 (i := 1) x1
  have h3 := heap_set h2 (i := 2) x2
  have h4 := heap_set h3 (i := 3) x3
  have h5 := heap_set h4 (i := 4) x4
  exact ⟨(cell_of_heap h1 0).trans rfl, (cell_of_heap h2 1).trans rfl, (cell_of_heap h3 2).trans rfl, (cell_of_heap h4 3).trans rfl, (cell_of_heap h5 4).trans rfl⟩
theorem sk_below {w W : World} {b : Nat} (hb : Below b w W) (x0 x1 x2 x3 x4 : Value) : Below b w (((((W.setCell ⟨b, 0, none⟩ x0).setCell ⟨b, 1, none⟩ x1).setCell ⟨b, 2, none⟩ x2).setCell ⟨b, 3, none⟩ x3).setCell ⟨b, 4, none⟩ x4) :=
  ((((hb.setCell (Nat.le_refl _) _).setCell (Nat.le_refl _) _).setCell (Nat.le_refl _) _).setCell (Nat.le_refl _) _).setCell (Nat.le_refl _) _

set_option maxRecDepth 100000 in
set_option maxHeartbeats 4000000 in
theorem specPar_any (s : ByteArray) (w : World) (hs : s.size ≤ 1048576) :
    Calls Tryd.prog 13 #[.string s] w fun e w' => ParTo s w w' e := by
  obtain ⟨i0, hi, hz0, hz1, hz2⟩ := info_parts info_int
  have HI0 := Lib.hid hi; have HZ0 := Lib.hid hz0; have HZ1 := Lib.hid hz1; have HZ2 := Lib.hid hz2
  clear hi hz0 hz1 hz2
  have HSP : Hid (∀ W : World, Calls Tryd.prog 33 #[.string s, .int .u8 47] W fun e w' => SplTo 47 s W w' e) := Lib.hid fun W => l1Split_any 47 s W hs
  have HSZ : Hid (∀ x ∈ sPieces s, x.size ≤ 1048576) := Lib.hid fun x hx => Nat.le_trans (split_size 47 _ s x hx) hs
  have HNO5 : Hid ((sPieces s).length ≠ 5 → ∀ w' : World, Below w.heap.size w w' → ParTo s w w' (.returned (.tuple #[.agg #[.int .i64 0, .int .i64 0, .int .i64 0, .int .i64 0, .int .i64 0], .bool false]))) := Lib.hid fun h w' hb => ParTo.no (.inl h) hb
  have HNOG : Hid (goodB (sRead s) = false → ∀ w' : World, Below w.heap.size w w' → ParTo s w w' (.returned (.tuple #[.agg #[.int .i64 0, .int .i64 0, .int .i64 0, .int .i64 0, .int .i64 0], .bool false]))) := Lib.hid fun h w' hb => ParTo.no (.inr h) hb
  go_enter Tryd.func13, Tryd.ntmps13
  go_wp2_with fail
  refine (HSP.out _).mono ?_
  rintro e w1 ⟨A, q0, rfl, hb, hin⟩
  have HG : Hid (SkAt w1 w.heap.size 34 zeroSk) := Lib.hid ((SkAt.new w 34 zeroSk).next hb)
  have HB1 : Hid (Below w.heap.size w w1) := Lib.hid (((Below.refl _ _).alloc (Nat.le_refl _) _).trans (hb.mono (by simp)))
  rw [show pcs 47 s = sPieces s from rfl] at hin ⊢
  have HRD : Hid (sRead s = skOf ((sPieces s).map T1.readF)) := Lib.hid rfl
  have HIN := Lib.hid hin
  clear hb hin HSP
  by_cases h5 : (sPieces s).length = 5
  rotate_left
  · have hne : ((sPieces s).length : Int) ≠ 5 := by omega
    have hne1 : (((sPieces s).length : Int) != 5) = true := by simp; omega
    have HN5 := Lib.hid (HNO5.out h5)
    clear HNO5 HNOG h5 HIN HRD HSZ
    generalize sPieces s = L at *
    obtain ⟨c0, c1, c2, c3, c4⟩ := HG.out.cells
    have f0 := HG.out.free 0; have f1 := HG.out.free 1; have f2 := HG.out.free 2; have f3 := HG.out.free 3; have f4 := HG.out.free 4
    obtain ⟨e0, e1, e2, e3, e4⟩ := sk_set HG.out (.int .i64 0) (.int .i64 0) (.int .i64 0) (.int .i64 0) (.int .i64 0)
    have HBZ := Lib.hid (sk_below HB1.out (.int .i64 0) (.int .i64 0) (.int .i64 0) (.int .i64 0) (.int .i64 0))
    have HE0 := Lib.hid e0; have HE1 := Lib.hid e1; have HE2 := Lib.hid e2; have HE3 := Lib.hid e3; have HE4 := Lib.hid e4
    clear e0 e1 e2 e3 e4
    go_wp2_with fail
    refine bodyPost_ret (v := .tuple #[.agg #[.int .i64 0, .int .i64 0, .int .i64 0, .int .i64 0, .int .i64 0], .bool false]) (by simp [results, Tryd.results13, go_sem, HE0.out, HE1.out, HE2.out, HE3.out, HE4.out]) rfl ?_
    exact HN5.out _ HBZ.out
  · have HYES : Hid (goodB (sRead s) = true → ∀ (q : Sk) (w' : World), q = sRead s → Below w.heap.size w w' → ParTo s w w' (.returned (.tuple #[.agg #[.int .i64 q.dep, .int .i64 q.lef, .int .i64 q.fac, .int .i64 q.rig, .int .i64 q.foo], .bool true]))) := Lib.hid fun h q w' hq hb => ParTo.yes h5 h hq hb
    generalize sPieces s = L at *
    rw [h5]
    have H5 := Lib.hid h5
    clear h5 HNO5
    go_wp2
    go_loopw [5, 16] (fun v i wr => ∃ (k : Nat), k ≤ 5 ∧ i = .int .i64 k ∧ wr.ownsRow w1.heap.size 3 1 v k (intsZ ((L.take k).map T1.readF)) ∧ Below w1.heap.size w1 wr) (fun _ i _ => 5 - (intOf i).toNat)
    case atStart => exact ⟨0, Nat.zero_le _, rfl, own_nil _ _ _ _, Below.refl _ _⟩
    case round =>
      obtain ⟨k, hk, rfl, hown, hb⟩ := hrel
      have HO := Lib.hid hown; have HB := Lib.hid hb
      clear hown hb
      by_cases hlt : k < 5
      · have hkl : k < L.length := by rw [H5.out]; exact hlt
        obtain ⟨b, off, rfl, hbl, hc⟩ := HIN.out (by omega)
        have hc0 := (HB.out.cell (p := ⟨b, off + k, none⟩) hbl).trans (hc k hkl)
        clear hc
        have HMS := Lib.hid (map_snoc T1.readF hkl)
        have hsz : L[k].size ≤ maxLen := by have := HSZ.out L[k] (List.getElem_mem hkl); unfold maxLen; omega
        generalize L[k] = x at *
        have hownw := HO.out
        have hszw := HB.out.size
        have hmx : k + 1 ≤ maxLen := by unfold maxLen; omega
        clear hkl
        go_wp2_with fail
        refine (T1.l1Read_any x _ hsz).mono ?_
        rintro e w' ⟨rfl, rfl⟩
        generalize T1.readF x = z at *
        go_wp2_with (at_builtin; go_loud (refine wpList_append_own _ rfl _ _ 23 rfl w1.heap.size 3 i0 (.int .i64 0) 1 8 Tryd.underlying23 HI0.out HZ0.out HZ1.out HZ2.out rfl (by decide) _ _ _ rfl (hownw.alloc _) ⟨wr.heap.size, 0, none⟩ 1 1 [.int .i64 z] rfl rfl (cell_one_new _ _ _) (by simp [Value.oneCell']) hmx (by omega) (by simp; omega) ?_))
        intro v' w4 hown' hgrow _
        have HBN : Hid (Below w1.heap.size w1 w4) := Lib.hid ((HB.out.alloc HB.out.size _).grown hgrow (by have := HB.out.size; simp; omega) (own_lt hownw))
        have HO3 : Hid (w4.ownsRow w1.heap.size 3 1 v' (k + 1) (intsZ ((L.take (k + 1)).map T1.readF))) := Lib.hid (by
          rw [HMS.out, intsZ_snoc, List.map_take]; exact hown')
        clear hown' hgrow hownw HO hc0 HB
        go_wp2
        go_roundw
        case rel => exact ⟨k + 1, by omega, by go_num, HO3.out, HBN.out⟩
        case measure => simp [intOf]; omega
      · obtain rfl : k = 5 := by omega
        have hz : (sRead s).zs = (L.take 5).map T1.readF := by
          rw [HRD.out, List.take_of_length_le (by rw [H5.out]; exact Nat.le_refl _)]
          exact skOf_zs (by rw [List.length_map, H5.out])
        have h := HO.out
        rw [← hz] at h
        obtain ⟨A5, c5, rfl⟩ := own_form h
        have HIS := Lib.hid (own_in h)
        rw [show (sRead s).zs.length = 5 from rfl] at *
        have HBW : Hid (Below w.heap.size w wr) := Lib.hid (HB1.out.trans (HB.out.mono HB1.out.size))
        have HGW : Hid (SkAt wr w.heap.size 34 zeroSk) := Lib.hid (HG.out.next HB.out)
        have HQ := Lib.hid (rfl : sRead s = sRead s)
        clear h hz HO HB HRD HIN HSZ H5 HG HB1
        obtain ⟨q, hq⟩ : ∃ q, q = sRead s := ⟨_, rfl⟩
        rw [← hq] at HIS HNOG HYES
        have HQQ := Lib.hid hq; clear hq HQ
        go_wp2_with fail
        refine (maOf_any A5 c5 q _ HIS.out).mono ?_
        rintro e w2 ⟨rfl, hb2⟩
        have HB2 : Hid (Below w.heap.size w w2) := Lib.hid (HBW.out.trans (hb2.mono HBW.out.size))
        have HG2 : Hid (SkAt w2 w.heap.size 34 zeroSk) := Lib.hid (HGW.out.next hb2)
        have HIS2 : Hid (IntsIn w2 A5 q.zs) := Lib.hid (HIS.out.below hb2 (Nat.le_refl _))
        clear hb2 HBW HGW HIS
        go_wp2_with fail
        refine (maGood_any q _).mono ?_
        rintro e w3 ⟨rfl, hb3⟩
        have HB3 : Hid (Below w.heap.size w w3) := Lib.hid (HB2.out.trans (hb3.mono HB2.out.size))
        have HG3 : Hid (SkAt w3 w.heap.size 34 zeroSk) := Lib.hid (HG2.out.next hb3)
        have HIS3 : Hid (IntsIn w3 A5 q.zs) := Lib.hid (HIS2.out.below hb3 (Nat.le_refl _))
        clear hb3 HB2 HG2 HIS2
        cases hgd : goodB q
        · have HNG := Lib.hid (HNOG.out hgd)
          clear hgd HNOG HYES HIS3
          obtain ⟨c0, c1, c2, c3, c4⟩ := HG3.out.cells
          have f0 := HG3.out.free 0; have f1 := HG3.out.free 1; have f2 := HG3.out.free 2; have f3 := HG3.out.free 3; have f4 := HG3.out.free 4
          obtain ⟨e0, e1, e2, e3, e4⟩ := sk_set HG3.out (.int .i64 0) (.int .i64 0) (.int .i64 0) (.int .i64 0) (.int .i64 0)
          have HBZ := Lib.hid (sk_below HB3.out (.int .i64 0) (.int .i64 0) (.int .i64 0) (.int .i64 0) (.int .i64 0))
          have HE0 := Lib.hid e0; have HE1 := Lib.hid e1; have HE2 := Lib.hid e2; have HE3 := Lib.hid e3; have HE4 := Lib.hid e4
          clear e0 e1 e2 e3 e4
          go_wp2_with fail
          refine bodyPost_ret (v := .tuple #[.agg #[.int .i64 0, .int .i64 0, .int .i64 0, .int .i64 0, .int .i64 0], .bool false]) (by simp [results, Tryd.results13, go_sem, HE0.out, HE1.out, HE2.out, HE3.out, HE4.out]) rfl ?_
          exact HNG.out _ HBZ.out
        · have HYG := Lib.hid (HYES.out hgd q)
          clear hgd HNOG HYES
          go_wp2_with fail
          refine (maOf_any A5 c5 q _ HIS3.out).mono ?_
          rintro e w4 ⟨rfl, hb4⟩
          have HB4 : Hid (Below w.heap.size w w4) := Lib.hid (HB3.out.trans (hb4.mono HB3.out.size))
          have HG4 : Hid (SkAt w4 w.heap.size 34 zeroSk) := Lib.hid (HG3.out.next hb4)
          clear hb4 HB3 HG3 HIS3
          obtain ⟨c0, c1, c2, c3, c4⟩ := HG4.out.cells
          have f0 := HG4.out.free 0; have f1 := HG4.out.free 1; have f2 := HG4.out.free 2; have f3 := HG4.out.free 3; have f4 := HG4.out.free 4
          obtain ⟨e0, e1, e2, e3, e4⟩ := sk_set HG4.out (.int .i64 q.dep) (.int .i64 q.lef) (.int .i64 q.fac) (.int .i64 q.rig) (.int .i64 q.foo)
          have HBZ := Lib.hid (sk_below HB4.out (.int .i64 q.dep) (.int .i64 q.lef) (.int .i64 q.fac) (.int .i64 q.rig) (.int .i64 q.foo))
          have HE0 := Lib.hid e0; have HE1 := Lib.hid e1; have HE2 := Lib.hid e2; have HE3 := Lib.hid e3; have HE4 := Lib.hid e4
          clear e0 e1 e2 e3 e4
          go_wp2_with fail
          refine bodyPost_ret (v := .tuple #[.agg #[.int .i64 q.dep, .int .i64 q.lef, .int .i64 q.fac, .int .i64 q.rig, .int .i64 q.foo], .bool true]) (by simp [results, Tryd.results13, go_sem, HE0.out, HE1.out, HE2.out, HE3.out, HE4.out]) rfl ?_
          exact HYG.out _ (by first | rfl | trivial) HBZ.out
end Go.Proofs.YtdomccamkiplcaaDoor
