/-
  The rooms of all entries: the contract of impl.gappedTable.rooms.
-/
import Derived.Test.YteagclokobkigaaEy
import Derived.Test.YteagclokobkigaaEx
import Derived.Deep.RegionLaw
import Derived.Deep.DeepCutAuto
namespace Go.Proofs.Yteagclokobkigaa
open Go.RowKit
set_option linter.unusedVariables false

theorem three_set {w : World} {b : Nat} {x y z u v s : Value} {t : TypeId} (h : w.heap[b]? = some (.cells #[x, y, z] t (0, 0))) : (((w.setCell ⟨b, 0, none⟩ u).setCell ⟨b, 1, none⟩ v).setCell ⟨b, 2, none⟩ s).heap[b]? = some (.cells #[u, v, s] t (0, 0)) := by
  rw [heap_set (heap_set (heap_set h u) v) s]; rfl
/-- The table other. -/
def OthAt (w wx : World) (N : Nat) (l : List En) (A : Option Addr) (c : Nat) (g : Int) (p : Nat) (A' : Option Addr) (c' : Nat) : Prop :=
  Below w.heap.size w wx ∧ w.heap.size < p ∧ wx.heap[p]? = some (.cells #[.int .i64 (N : Int), .slice A' l.length c', .int .i64 g] 55) ∧ EnsIn wx A' (miL (N : Int) l) ∧ wx.heap[w.heap.size]? = some (.cells #[.int .i64 (N : Int), .slice A l.length c, .int .i64 g] 55)
theorem ens_far {w : World} {A : Option Addr} {f : List En} {p i : Nat} (h : EnsIn w A f) (hne : ∀ b, A.map (·.block) = some b → b ≠ p) (u : Value) : EnsIn (w.setCell ⟨p, i, none⟩ u) A f := fun hn => by
  obtain ⟨b, off, rfl, h2, h3⟩ := h hn
  have hb := hne b rfl
  have hh : (w.setCell ⟨p, i, none⟩ u).heap[b]? = w.heap[b]? := Below.heap_setCell w ⟨p, i, none⟩ u b hb
  refine ⟨b, off, rfl, Nat.lt_of_lt_of_le h2 (grown_set (World.grownBy.refl w (some p)) i u).size, fun k hk => ?_⟩
  obtain ⟨c0, c1, c2⟩ := h3 k hk
  exact ⟨(World.cell?_of_block hh).trans c0, (World.cell?_of_block hh).trans c1, (World.cell?_of_block hh).trans c2⟩
theorem oth_set {w uB : World} {N : Nat} {l : List En} {A A' : Option Addr} {c c' p : Nat} {g : Int} (h1 : Below w.heap.size w uB) (h2 : w.heap.size < p) (h3 : uB.heap[p]? = some (.cells #[.int .i64 0, .slice none 0 0, .int .i64 0] 55)) (h4 : EnsIn uB A' (miL (N : Int) l)) (h5 : ∀ b, A'.map (·.block) = some b → b ≠ p) (h6 : uB.heap[w.heap.size]? = some (.cells #[.int .i64 (N : Int), .slice A l.length c, .int .i64 g] 55)) :
    OthAt w (((uB.setCell ⟨p, 0, none⟩ (.int .i64 (N : Int))).setCell ⟨p, 1, none⟩ (.slice A' l.length c')).setCell ⟨p, 2, none⟩ (.int .i64 g)) N l A c g p A' c' := by
  have hp : w.heap.size ≤ p := by omega
  have hne : w.heap.size ≠ p := by omega
  exact ⟨((h1.setCell (p := ⟨p, 0, none⟩) hp _).setCell (p := ⟨p, 1, none⟩) hp _).setCell (p := ⟨p, 2, none⟩) hp _, h2, three_set h3, ens_far (ens_far (ens_far h4 h5 _) h5 _) h5 _,
    ((Below.heap_setCell _ ⟨p, 2, none⟩ _ w.heap.size hne).trans ((Below.heap_setCell _ ⟨p, 1, none⟩ _ w.heap.size hne).trans (Below.heap_setCell _ ⟨p, 0, none⟩ _ w.heap.size hne))).trans h6⟩
theorem oth_new {w uB : World} {N : Nat} {l : List En} {A A' : Option Addr} {c c' : Nat} {g : Int} (h1 : Below w.heap.size w uB) (h2 : w.heap.size < uB.heap.size) (h4 : EnsIn uB A' (miL (N : Int) l)) (h6 : uB.heap[w.heap.size]? = some (.cells #[.int .i64 (N : Int), .slice A l.length c, .int .i64 g] 55)) :
    OthAt w (uB.alloc (.cells #[.int .i64 (N : Int), .slice A' l.length c', .int .i64 g] 55)) N l A c g uB.heap.size A' c' :=
  ⟨h1.alloc (by omega) _, h2, heap_new _ _, h4.below ((Below.refl _ _).alloc (Nat.le_refl _) _) (Nat.le_refl _), (Below.heap_alloc _ _ _ h2).trans h6⟩
/-- The rooms. -/
def rmL (N : Nat) (l : List En) (g : Int) : List Int := l.map (rmV (N : Int) l g)
set_option maxRecDepth 100000 in
set_option maxHeartbeats 8000000 in
theorem rooms_any (N : Nat) (l : List En) (A : Option Addr) (c : Nat) (g : Int) (w : World) (hG : GoodT (N : Int) l) (h0 : 0 ≤ g) (h36 : g ≤ 36) (hf : EnsIn w A l) :
    Calls Try.prog 57 #[.agg #[.int .i64 (N : Int), .slice A l.length c, .int .i64 g]] w fun e w' => IntsOf w w' e (rmL N l g) := by
  have HG := Lib.hid hG; clear hG
  have hl20 := HG.out.len
  have hN10 : N ≤ 10 := by have := HG.out.n1; omega
  have hN1 : 1 ≤ N := by have := HG.out.n0; omega
  obtain ⟨w1, hw1⟩ : ∃ u : World, u = w.alloc (.cells #[.int .i64 (N : Int), .slice A l.length c, .int .i64 g] 55) := ⟨_, rfl⟩
  have z1 : w1.heap.size = w.heap.size + 1 := by rw [hw1, World.size_alloc]
  have b1 : Below w.heap.size w w1 := by rw [hw1]; exact (Below.refl _ _).alloc (Nat.le_refl _) _
  have x1 : w1.heap[w.heap.size]? = some (.cells #[.int .i64 (N : Int), .slice A l.length c, .int .i64 g] 55) := by rw [hw1]; exact heap_new _ _
  have p0 : w1.cell? ⟨w.heap.size, 0, none⟩ = some (.int .i64 (N : Int)) := by rw [cell_of_heap x1]; rfl
  have p1 : w1.cell? ⟨w.heap.size, 1, none⟩ = some (.slice A l.length c) := by rw [cell_of_heap x1]; rfl
  have p2 : w1.cell? ⟨w.heap.size, 2, none⟩ = some (.int .i64 g) := by rw [cell_of_heap x1]; rfl
  have hl1 := lt_of_heap x1
  have HW1 := Lib.hid hw1; have HB1 := Lib.hid b1; have HX1 := Lib.hid x1; have HF := Lib.hid hf
  have HD1 : Hid (Below w1.heap.size w1 w1.drew) := Lib.hid (Below.refl _ _).drew
  have HD2 : Hid (Below w1.heap.size w1 (w1.alloc (.cells #[.int .i64 0, .slice none 0 0, .int .i64 0] 55)).drew) := Lib.hid ((Below.refl _ _).alloc (Nat.le_refl _) _).drew
  have HP2 : Hid ((w1.alloc (.cells #[.int .i64 0, .slice none 0 0, .int .i64 0] 55)).drew.heap[w1.heap.size]? = some (.cells #[.int .i64 0, .slice none 0 0, .int .i64 0] 55)) := Lib.hid (heap_new _ _)
  have HFU : Hid (∀ U, Below w.heap.size w U → EnsIn U A l) := Lib.hid (fun U h => HF.out.below h (Nat.le_refl _))
  have HBX : Hid (∀ U, Below w1.heap.size w1 U → U.heap[w.heap.size]? = some (.cells #[.int .i64 (N : Int), .slice A l.length c, .int .i64 g] 55)) := Lib.hid (fun U h => (h.block _ hl1).trans HX1.out)
  have HCX : Hid (∀ U : World, U.heap[w.heap.size]? = some (.cells #[.int .i64 (N : Int), .slice A l.length c, .int .i64 g] 55) → U.cell? ⟨w.heap.size, 0, none⟩ = some (.int .i64 (N : Int)) ∧ U.cell? ⟨w.heap.size, 1, none⟩ = some (.slice A l.length c) ∧ U.cell? ⟨w.heap.size, 2, none⟩ = some (.int .i64 g) ∧ w.heap.size < U.heap.size) := Lib.hid (fun U h => ⟨by rw [cell_of_heap h]; rfl, by rw [cell_of_heap h]; rfl, by rw [cell_of_heap h]; rfl, lt_of_heap h⟩)
  have HPX : Hid (∀ (U : World) (p : Nat), U.heap[p]? = some (.cells #[.int .i64 0, .slice none 0 0, .int .i64 0] 55) → (U.cell? ⟨p, 0, none⟩ = some (.int .i64 0) ∧ U.cell? ⟨p, 1, none⟩ = some (.slice none 0 0) ∧ U.cell? ⟨p, 2, none⟩ = some (.int .i64 0)) ∧ (U.frozen? ⟨p, 0, none⟩ = false ∧ U.frozen? ⟨p, 1, none⟩ = false ∧ U.frozen? ⟨p, 2, none⟩ = false) ∧ p < U.heap.size) := Lib.hid (fun U p h => ⟨⟨by rw [cell_of_heap h]; rfl, by rw [cell_of_heap h]; rfl, by rw [cell_of_heap h]; rfl⟩, ⟨free_of_heap h 0, free_of_heap h 1, free_of_heap h 2⟩, lt_of_heap h⟩)
  have HZ1 := Lib.hid z1
  clear hw1 b1 x1 hf z1
  go_enter Try.func57, Try.ntmps57
  go_wp2_with fail
  rw [← HW1.out]
  go_cut [3, 4] (fun s3 s4 wx => ∃ p A' c', s3 = .int .i64 (wdV l g (N : Int)) ∧ s4 = .pointer (some ⟨p, 0, none⟩) ∧ OthAt w wx N l A c g p A' c')
  case first =>
    go_region_law (first
      | (go_simp; go_at_call 46; refine (leastWidth_any N l A c g w1.drew HG.out h0 h36 (HFU.out _ (HB1.out.trans (HD1.out.mono HB1.out.size)))).mono ?_; rintro e uA ⟨rfl, hcA⟩; have HDA := Lib.hid (HD1.out.trans (hcA.mono HD1.out.size)); obtain ⟨q0, q1, q2, q3⟩ := HCX.out uA (HBX.out uA HDA.out); clear hcA p0 p1 p2)
      | (go_simp; go_at_call 46; refine (leastWidth_any N l A c g (w1.alloc (.cells #[.int .i64 0, .slice none 0 0, .int .i64 0] 55)).drew HG.out h0 h36 (HFU.out _ (HB1.out.trans (HD2.out.mono HB1.out.size)))).mono ?_; rintro e uA ⟨rfl, hcA⟩; have HDA := Lib.hid (HD2.out.trans (hcA.mono HD2.out.size)); have HPA := Lib.hid ((hcA.block _ (lt_of_heap HP2.out)).trans HP2.out); obtain ⟨q0, q1, q2, q3⟩ := HCX.out uA (HBX.out uA HDA.out); clear hcA p0 p1 p2)
      | (go_simp; go_at_call 61; have hzz := HPA.out; refine (mirrored_any N l A c g uA HG.out (HFU.out _ (HB1.out.trans (HDA.out.mono HB1.out.size)))).mono ?_; rintro e uB ⟨A', c', rfl, hcB, heB, hnB⟩; have HNB := Lib.hid hnB; have HDB := Lib.hid (HDA.out.trans (hcB.mono HDA.out.size)); have HPB := Lib.hid ((hcB.block _ (lt_of_heap hzz)).trans hzz); have HEB := Lib.hid heB; obtain ⟨⟨r0, r1, r2⟩, ⟨r3, r4, r5⟩, r6⟩ := HPX.out uB _ HPB.out; clear hnB hcB heB hzz q0 q1 q2 q3)
      | (go_simp; go_at_call 61; refine (mirrored_any N l A c g (uA.alloc (.cells #[.int .i64 0, .slice none 0 0, .int .i64 0] 55)) HG.out (HFU.out _ ((HB1.out.trans (HDA.out.mono HB1.out.size)).alloc (HB1.out.trans (HDA.out.mono HB1.out.size)).size _))).mono ?_; rintro e uB ⟨A', c', rfl, hcB, heB, hnB⟩; have HNB := Lib.hid hnB; have HDB := Lib.hid ((HDA.out.alloc HDA.out.size (.cells #[.int .i64 0, .slice none 0 0, .int .i64 0] 55)).trans (hcB.mono (HDA.out.alloc HDA.out.size (.cells #[.int .i64 0, .slice none 0 0, .int .i64 0] 55)).size)); have HPB := Lib.hid ((hcB.block _ (lt_of_heap (heap_new uA (.cells #[.int .i64 0, .slice none 0 0, .int .i64 0] 55)))).trans (heap_new uA (.cells #[.int .i64 0, .slice none 0 0, .int .i64 0] 55))); have HEB := Lib.hid heB; obtain ⟨⟨r0, r1, r2⟩, ⟨r3, r4, r5⟩, r6⟩ := HPX.out uB _ HPB.out; have hAs := HDA.out.size; clear hnB hcB heB q0 q1 q2 q3)
      | (go_simp; go_at_call 61; refine (mirrored_any N l A c g uA HG.out (HFU.out _ (HB1.out.trans (HDA.out.mono HB1.out.size)))).mono ?_; rintro e uB ⟨A', c', rfl, hcB, heB, hnB⟩; have HNB := Lib.hid hnB; have HDB := Lib.hid (HDA.out.trans (hcB.mono HDA.out.size)); have HEB := Lib.hid heB; clear hnB hcB heB q0 q1 q2 q3))
    all_goals
      go_wp2_with fail
      go_meet
      first
      | exact ⟨_, A', c', rfl, rfl, oth_new (HB1.out.trans (HDB.out.mono HB1.out.size)) (by have := HDB.out.size; have := HZ1.out; omega) HEB.out (HBX.out uB HDB.out)⟩
      | exact ⟨_, A', c', rfl, rfl, oth_set (HB1.out.trans (HDB.out.mono HB1.out.size)) (by have := HZ1.out; have := HDA.out.size; omega) HPB.out HEB.out (fun b h => by have h7 := HNB.out b h; have h8 := HDA.out.size; first | (rw [World.size_alloc] at h7; omega) | (have h9 := HPA.out; have h10 := lt_of_heap h9; omega)) (HBX.out uB HDB.out)⟩
  case rest =>
    obtain ⟨p, A', c', rfl, rfl, hoth⟩ := hcut
    obtain ⟨u1, hu1⟩ : ∃ u, u = wc := ⟨_, rfl⟩
    subst hu1
    have HOT := Lib.hid hoth
    obtain ⟨t1, t2, t3, t4, t5⟩ := hoth
    have hml := miL_len (N : Int) l
    have HS2 : Hid (∀ U : World, EnsIn U A' (miL (N : Int) l) → Calls Try.prog 40 #[.agg #[.int .i64 (N : Int), .slice A' l.length c', .int .i64 g]] U fun e w' => IntsTo U w' e N (stL (miL (N : Int) l) g N)) := Lib.hid (fun U hU => by
      have h := leastStarts_any N (miL (N : Int) l) A' c' g U (miL_good HG.out) h0 h36 hU
      rw [hml] at h; exact h)
    have HCP : Hid (∀ U : World, U.heap[p]? = some (.cells #[.int .i64 (N : Int), .slice A' l.length c', .int .i64 g] 55) → U.cell? ⟨p, 0, none⟩ = some (.int .i64 (N : Int)) ∧ U.cell? ⟨p, 1, none⟩ = some (.slice A' l.length c') ∧ U.cell? ⟨p, 2, none⟩ = some (.int .i64 g) ∧ p < U.heap.size) := Lib.hid (fun U h => ⟨by rw [cell_of_heap h]; rfl, by rw [cell_of_heap h]; rfl, by rw [cell_of_heap h]; rfl, lt_of_heap h⟩)
    obtain ⟨q0, q1, q2, q3⟩ := HCX.out u1 t5
    obtain ⟨r0, r1, r2, r3⟩ := HCP.out u1 t3
    have HDR : Hid (Below u1.heap.size u1 u1.drew) := Lib.hid (Below.refl _ _).drew
    clear t1 t2 t3 t4 t5 p0 p1 p2 hl1 HW1 HB1 HX1 HD1 HD2 HP2 HBX HPX HZ1 hml
    go_wp2_with fail
    go_cut [5, 6] (fun s5 s6 wx => ∃ A5 c5 A6 c6, s5 = .slice A5 N c5 ∧ s6 = .slice A6 N c6 ∧ OthAt w wx N l A c g p A' c' ∧ IntsIn wx A5 (stL l g N) ∧ IntsIn wx A6 (stL (miL (N : Int) l) g N))
    case first =>
      go_region_law (first
        | (go_simp; go_at_call 40; refine (HS2.out uA (HOT.out.2.2.2.1.below HDA.out (Nat.le_refl _))).mono ?_; rintro e uB ⟨v, rfl, hcB, hoB⟩; obtain ⟨A6, c6, hv6⟩ := own_form hoB; rw [stL_len] at hv6; subst hv6; have HDB := Lib.hid (HDA.out.trans (hcB.mono HDA.out.size)); have HI6 := Lib.hid (own_in hoB); have HI5B := Lib.hid (HI5.out.below hcB (Nat.le_refl _)); clear hcB hoB)
        | (go_simp; go_at_call 40; refine (leastStarts_any N l A c g u1.drew HG.out h0 h36 (HFU.out _ (HOT.out.1.trans (HDR.out.mono HOT.out.1.size)))).mono ?_; rintro e uA ⟨v, rfl, hcA, hoA⟩; obtain ⟨A5, c5, hv5⟩ := own_form hoA; rw [stL_len] at hv5; subst hv5; have HDA := Lib.hid (HDR.out.trans (hcA.mono HDR.out.size)); have HI5 := Lib.hid (own_in hoA); obtain ⟨q0, q1, q2, q3⟩ := HCX.out uA ((HDA.out.block _ (lt_of_heap HOT.out.2.2.2.2)).trans HOT.out.2.2.2.2); obtain ⟨r0, r1, r2, r3⟩ := HCP.out uA ((HDA.out.block _ (lt_of_heap HOT.out.2.2.1)).trans HOT.out.2.2.1); clear hcA hoA))
      all_goals
        go_wp2_with fail
        go_meet
        exact ⟨A5, c5, A6, c6, rfl, rfl, ⟨HOT.out.1.trans (HDB.out.mono HOT.out.1.size), HOT.out.2.1, (HDB.out.block _ (lt_of_heap HOT.out.2.2.1)).trans HOT.out.2.2.1, HOT.out.2.2.2.1.below HDB.out (Nat.le_refl _), (HDB.out.block _ (lt_of_heap HOT.out.2.2.2.2)).trans HOT.out.2.2.2.2⟩, HI5B.out, HI6.out⟩
    case rest =>
      obtain ⟨A5, c5, A6, c6, rfl, rfl, hoth, hi5, hi6⟩ := hcut
      obtain ⟨u3, hu3⟩ : ∃ u, u = wc := ⟨_, rfl⟩
      subst hu3
      have HO3 := Lib.hid hoth; have HI5 := Lib.hid hi5; have HI6 := Lib.hid hi6
      obtain ⟨t1, t2, t3, t4, t5⟩ := hoth
      have HT4 := Lib.hid t4
      obtain ⟨q0', q1', q2', q3'⟩ := HCX.out u3 t5
      obtain ⟨F, hF⟩ : ∃ F : Nat → Int, F = fun j => rmV (N : Int) l g (l.getD j ⟨0, 0, 0⟩) := ⟨_, rfl⟩
      obtain ⟨w4, hw4⟩ : ∃ x : World, x = u3.alloc (.cells (madeCells #[.int .i64 0] (l.length * 1)) 3) := ⟨_, rfl⟩
      have hmk : (Instr.makeSlice 27 (.int .i64 (l.length : Int)) (.int .i64 (l.length : Int))).run Try.prog u3 = .ok (.slice (some ⟨u3.heap.size, 0, none⟩) l.length l.length) w4 := by rw [hw4]; exact run_makeI l.length (by omega) u3
      have HT4' : Hid (Tb w4 u3.heap.size 3 l.length (upT F 0)) := Lib.hid (by rw [hw4, ← upT_zero]; exact made_int _ _ _)
      have HB4 : Hid (Below u3.heap.size u3 w4) := Lib.hid (by rw [hw4]; exact (Below.refl _ _).alloc (Nat.le_refl _) _)
      have hx4 := (HB4.out.block _ (lt_of_heap t5)).trans t5
      obtain ⟨qq0, qq1, qq2, qq3⟩ := HCX.out w4 hx4
      have HFE : Hid (∀ j (h : j < l.length), F j = rmV (N : Int) l g l[j]) := Lib.hid (fun j h => by
        rw [hF]; show rmV _ _ _ (l.getD j ⟨0, 0, 0⟩) = _
        rw [List.getD_eq_getElem?_getD, List.getElem?_eq_getElem h]; rfl)
      have HFU3 := Lib.hid (HFU.out u3 t1)
      clear hF hw4 hi5 hi6 t1 t2 t3 t4 t5 hx4 q0 q1 q2 q3 r0 r1 r2 r3 HDR HS2 HOT
      go_wp2
      clear hmk q0' q1' q2' q3' qq0 qq1 qq2 qq3
      go_loopw [25] (fun i wr => ∃ k : Nat, k ≤ l.length ∧ i = .int .i64 (k : Int) ∧ Below u3.heap.size u3 wr ∧ Tb wr u3.heap.size 3 l.length (upT F k)) (fun i _ => l.length - (intOf i).toNat)
      case atStart => exact ⟨0, Nat.zero_le _, rfl, HB4.out, HT4'.out⟩
      case round =>
        obtain ⟨k, hk, rfl, hb, htb⟩ := hrel
        have HBR := Lib.hid hb; have HTB := Lib.hid htb
        have HSZ := Lib.hid HO3.out.1.size
        by_cases hlt : k < l.length
        · obtain ⟨b, off, hA0, hbl, hc⟩ := HFU3.out (by omega)
          obtain ⟨hc0, hc1, hc2⟩ := hc k hlt
          rw [← hb.cell (p := ⟨b, off + k * 3, none⟩) hbl] at hc0
          rw [← hb.cell (p := ⟨b, off + k * 3 + 1, none⟩) hbl] at hc1
          rw [← hb.cell (p := ⟨b, off + k * 3 + 2, none⟩) hbl] at hc2
          have hml := miL_len (N : Int) l
          obtain ⟨bm, om, hAm, hbm, hcm⟩ := HT4.out (by omega)
          have hm0 := (hcm k (by omega)).1
          rw [miL_at (N : Int) l hlt] at hm0
          rw [← hb.cell (p := ⟨bm, om + k * 3, none⟩) hbm] at hm0
          have HOK := Lib.hid (HG.out.en hlt)
          have HFK := Lib.hid (HFE.out k hlt)
          have HMO := Lib.hid (miE_ok (HG.out.en hlt))
          have hxp := (HCP.out wr ((hb.block _ (lt_of_heap HO3.out.2.2.1)).trans HO3.out.2.2.1))
          obtain ⟨_, r1, _, r3⟩ := hxp
          obtain ⟨b5, o5, hA5, hb5, hc5⟩ := HI5.out (by rw [stL_len]; omega)
          obtain ⟨b6, o6, hA6, hb6, hc6⟩ := HI6.out (by rw [stL_len]; omega)
          clear hc hcm hml
          subst hA0 hAm hA5 hA6
          have HRM : Hid (F k = wdV l g (N : Int) - stV l g l[k].col.toNat - l[k].wid - stV (miL (N : Int) l) g (miE (N : Int) l[k]).col.toNat) := HFK
          obtain ⟨mc, hmc⟩ : ∃ x, x = (miE (N : Int) l[k]).col := ⟨_, rfl⟩
          have hmo := HMO.out
          have hm1 := hmo.c0; have hm2 := hmo.c1
          rw [← hmc] at hm0 hm1 hm2 HRM
          clear hmo hmc HMO HFK HFE
          generalize l[k] = x at *
          rcases x with ⟨p1, q1, x1⟩
          obtain ⟨o1, o2, o3, o4, o5', o6'⟩ := HOK.out
          simp only at o1 o2 o3 o4 o5' o6' hc0 hc1 hc2 HRM
          obtain ⟨pn, rfl⟩ : ∃ n : Nat, p1 = (n : Int) := ⟨p1.toNat, by omega⟩
          obtain ⟨mn, rfl⟩ : ∃ n : Nat, mc = (n : Int) := ⟨mc.toNat, by omega⟩
          simp only [Int.toNat_natCast] at HRM
          have e5 := hc5 pn (by rw [stL_len]; omega)
          have e6 := hc6 mn (by rw [stL_len]; omega)
          rw [stL_get, ← hb.cell (p := ⟨b5, o5 + pn, none⟩) hb5] at e5
          rw [stL_get, ← hb.cell (p := ⟨b6, o6 + mn, none⟩) hb6] at e6
          obtain ⟨W0, hW0⟩ : ∃ W0 : World, W0 = wr.alloc (.cells #[.int .i64 (pn : Int), .int .i64 q1, .int .i64 x1] 36) := ⟨_, rfl⟩
          have hal : Below wr.heap.size wr W0 := by rw [hW0]; exact (Below.refl _ _).alloc (Nat.le_refl _) _
          have s0 : W0.cell? ⟨wr.heap.size, 0, none⟩ = some (.int .i64 (pn : Int)) := by rw [hW0]; simp
          have s2 : W0.cell? ⟨wr.heap.size, 2, none⟩ = some (.int .i64 x1) := by rw [hW0]; simp
          have hz0 : wr.heap.size < W0.heap.size := by rw [hW0]; simp
          have hsz := hb.size
          have y0 := KeptW.cell s0 hz0
          have y2 := KeptW.cell s2 hz0
          have y3 := KeptW.cell ((hal.cell (p := ⟨p, 1, none⟩) r3).trans r1) (show p < W0.heap.size by omega)
          have y4 := KeptW.cell ((hal.cell (p := ⟨bm, om + k * 3, none⟩) (show bm < wr.heap.size by omega)).trans hm0) (show bm < W0.heap.size by omega)
          have y5 := KeptW.cell ((hal.cell (p := ⟨b5, o5 + pn, none⟩) (show b5 < wr.heap.size by omega)).trans e5) (show b5 < W0.heap.size by omega)
          have y6 := KeptW.cell ((hal.cell (p := ⟨b6, o6 + mn, none⟩) (show b6 < wr.heap.size by omega)).trans e6) (show b6 < W0.heap.size by omega)
          have k1 : (pn : Int) < (N : Int) := by omega
          have k2 : (mn : Int) < (N : Int) := by omega
          have hb1' := stV_all HG.out.all h0 h36 (k := pn) (by omega)
          have hb2' := stV_all (miL_ok HG.out.all) h0 h36 (k := mn) (by omega)
          have hb3' := lastWd HG.out h0 h36 hN1
          have hb4' : wdV l g (N : Int) ≤ 6360 := by have := stV_all HG.out.all h0 h36 (k := N) (by omega); unfold wdV; rw [Int.toNat_natCast]; omega
          have hkl : (k : Int) < (l.length : Int) := by omega
          have HBA := Lib.hid (hb.trans (hal.mono hsz)); have HTA := Lib.hid (htb.next hal)
          have HW0 := Lib.hid hW0
          have HSUC := Lib.hid (upT_succ F k)
          generalize stV l g pn = sa at *
          generalize stV (miL (N : Int) l) g mn = sb at *
          generalize wdV l g (N : Int) = wd at *
          clear hb htb hal s0 s2 e5 e6 hm0 r1 r3 hW0 hc5 hc6
          go_wp2_with fail
          rw [← HW0.out]
          refine region_mid W0.heap.size 23 (by kernel_rfl) (by kernel_rfl) rfl ?_
          simp only [List.take_succ_cons, List.take_zero]
          repeat (go_big_quiet_step (fail))
          refine wpQuiet_nil ?_
          intro w7 hb7 K hK
          have HB7 := Lib.hid (HBA.out.trans (hb7.mono HBA.out.size)); have ht7 := HTA.out.next hb7
          have e7 := ht7.cell hlt; have f7 := ht7.free k
          have HT8 : Hid (Tb (w7.setCell ⟨u3.heap.size, k, none⟩ (.int .i64 (F k))) u3.heap.size 3 l.length (upT F (k + 1))) := Lib.hid (by rw [← HSUC.out]; exact ht7.set k _)
          have HB8 := Lib.hid (HB7.out.setCell (p := ⟨u3.heap.size, k, none⟩) (Nat.le_refl _) (.int .i64 (F k)))
          rw [HRM.out] at HT8 HB8
          clear hb7 ht7 y0 y2 y3 y4 y5 y6
          go_simp
          refine hK _ _ ?_
          clear hK
          simp only [List.drop_succ_cons, List.drop_zero]
          repeat (go_big_quiet_step (fail))
          refine wpQuiet_nil ?_
          go_wp2
          go_roundw
          case rel => exact ⟨k + 1, by omega, by go_num, HB8.out, HT8.out⟩
          case measure => simp [intOf]; omega
        · obtain rfl : k = l.length := by omega
          have HLN : Hid ((rmL N l g).length = l.length) := Lib.hid (by simp [rmL])
          have HOWN : Hid (wr.ownsRow w.heap.size 3 1 (.slice (some ⟨u3.heap.size, 0, none⟩) l.length l.length) l.length (intsZ (rmL N l g))) := Lib.hid (by
            have h := Tb.own (base := w.heap.size) (l := rmL N l g) (by rw [HLN.out]; exact htb) HSZ.out (by rw [HLN.out]; unfold maxLen; omega) (fun j hj => by
              have hj' : j < l.length := by rw [HLN.out] at hj; exact hj
              rw [upT_at _ hj', HFE.out j hj']; simp [rmL])
            rw [HLN.out] at h; exact h)
          have HBW := Lib.hid (HO3.out.1.trans (hb.mono HSZ.out))
          clear hb htb
          go_wp2
          go_ret
          exact ⟨_, rfl, HBW.out, by rw [HLN.out]; exact HOWN.out⟩
end Go.Proofs.Yteagclokobkigaa
