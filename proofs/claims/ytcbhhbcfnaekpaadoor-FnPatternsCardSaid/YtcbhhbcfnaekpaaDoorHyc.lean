/-
  The contracts of slices.Max over ints, impl.readPattern and impl.IsPattern.
-/
import Derived.Test.YtcbhhbcfnaekpaaDoorHyb
import Derived.Maps.AppendAt
namespace Go.Proofs.YtcbhhbcfnaekpaaDoor
open Go.RowKit
set_option linter.unusedVariables false

def mxK (l : List Int) (k : Nat) : Int := (l.take k).foldl max (l.headD 0)
def mxL (l : List Int) : Int := l.foldl max (l.headD 0)
theorem mx_fold : ∀ (l : List Int) (a : Int), 0 ≤ a → (∀ x ∈ l, 0 ≤ x) → 0 ≤ l.foldl max a ∧ (l.foldl max a = 0 ↔ a = 0 ∧ ∀ x ∈ l, x = 0)
  | [], a, h, _ => by simp [h]
  | x :: r, a, h, h2 => by
    have hx := h2 x (by simp)
    obtain ⟨h3, h4⟩ := mx_fold r (max a x) (by omega) (fun y hy => h2 y (by simp [hy]))
    refine ⟨h3, ?_⟩
    rw [List.foldl_cons, h4]
    constructor
    · rintro ⟨h5, h6⟩
      refine ⟨by omega, fun y hy => ?_⟩
      rcases List.mem_cons.1 hy with rfl | hy
      · omega
      · exact h6 y hy
    · rintro ⟨h5, h6⟩
      have := h6 x (by simp)
      exact ⟨by omega, fun y hy => h6 y (by simp [hy])⟩
theorem mx_some {p : Pt} (h : ∀ x ∈ p.vals, 0 ≤ x ∧ x ≤ 9) : (mxL p.vals == 0) = !ptSome p := by
  have h0 : 0 ≤ p.vals.headD 0 := by
    cases hp : p.vals with
    | nil => simp
    | cons x r => exact (h x (by rw [hp]; simp)).1
  obtain ⟨_, h2⟩ := mx_fold p.vals (p.vals.headD 0) h0 (fun x hx => (h x hx).1)
  have h3 : mxL p.vals = 0 ↔ ptSome p = false := by
    unfold mxL ptSome
    rw [h2, List.any_eq_false]
    constructor
    · rintro ⟨_, h4⟩ x hx; simp [h4 x hx]
    · intro h4
      have h5 : ∀ x ∈ p.vals, x = 0 := fun x hx => by have := h4 x hx; simpa using this
      refine ⟨?_, h5⟩
      cases hp : p.vals with
      | nil => rfl
      | cons x r => exact h5 x (by rw [hp]; simp)
  cases hs : ptSome p
  · rw [h3.2 hs]; rfl
  · have : ¬ mxL p.vals = 0 := fun e => by rw [h3.1 e] at hs; cases hs
    simp [this]
set_option maxRecDepth 100000 in
theorem max_any (l : List Int) (A : Option Addr) (c : Nat) (w : World) (hf : IntsIn w A l) (h1 : 1 ≤ l.length) (hn : l.length ≤ 2000000) :
    Calls Tryd.prog 99 #[.slice A l.length c] w fun e w' => e = .returned (.int .i64 (mxL l)) ∧ w' = w := by
  obtain ⟨b, off, rfl, hbl, hc⟩ := hf (by omega)
  have h0 := hc 0 (by omega)
  rw [Nat.add_zero] at h0
  have HC := Lib.hid hc; clear hc hf
  have HST : Hid (mxK l 1 = l[0]) := Lib.hid (by unfold mxK; cases l with | nil => simp at h1 | cons x r => simp)
  have hln : ¬ ((l.length : Int) < 1) := by omega
  go_enter Tryd.func99, Tryd.ntmps99
  go_wp2
  go_loop [3, 4] (fun m i => ∃ k : Nat, 1 ≤ k ∧ k ≤ l.length ∧ i = .int .i64 k ∧ m = .int .i64 (mxK l k)) (fun _ i => l.length - (intOf i).toNat)
  case atStart => exact ⟨1, Nat.le_refl _, h1, rfl, by rw [HST.out]⟩
  case round =>
    obtain ⟨k, hk1, hk, rfl, rfl⟩ := hrel
    clear h0
    by_cases hlt : k < l.length
    · have hk0 := HC.out k hlt
      have HS : Hid (mxK l (k + 1) = max (mxK l k) l[k]) := Lib.hid (by unfold mxK; rw [List.take_succ_eq_append_getElem hlt, List.foldl_append]; rfl)
      generalize mxK l k = q at *
      go_wp2
      go_round
      case rel => exact ⟨k + 1, by omega, by omega, by go_num, by rw [HS.out]⟩
      case measure => simp [intOf]; omega
    · obtain rfl : k = l.length := by omega
      have HE : Hid (mxK l l.length = mxL l) := Lib.hid (by unfold mxK; rw [List.take_length]; rfl)
      go_wp2
      go_ret
      exact ⟨ret_int HE.out, rfl⟩

def bytesZ (l : List UInt8) : List Value := l.map fun c => .int .u8 (c.toNat : Int)
theorem bytesZ_snoc (l : List UInt8) (c : UInt8) : bytesZ (l ++ [c]) = bytesZ l ++ [.int .u8 (c.toNat : Int)] := by simp [bytesZ]
theorem infoU8h : (Tryd.prog.info? 5).map (fun i => (i.zero, i.size, i.bytes)) = some (some (.int .u8 0), 1, 1) := by kernel_rfl
theorem own_shape {w : World} {base size n : Nat} {e : TypeId} {v : Value} {xs : List Value} (h : w.ownsRow base e size v n xs) : ∃ A c, v = .slice A n c := by
  rcases h.2 with ⟨rfl, h0⟩ | ⟨g, cap, cur, hv, _⟩
  · exact ⟨none, 0, by rw [h0]⟩
  · exact ⟨_, _, hv⟩
theorem own_some {w : World} {base size n : Nat} {e : TypeId} {v : Value} {xs : List Value} (h : w.ownsRow base e size v n xs) (hn : 0 < n) : ∃ g c, v = .slice (some ⟨g, 0, none⟩) n c ∧ base ≤ g ∧ g < w.heap.size := by
  rcases h.2 with ⟨rfl, h0⟩ | ⟨g, cap, cur, hv, hg, hh, _⟩
  · omega
  · exact ⟨g, cap, hv, hg, lt_of_heap hh⟩
theorem apart_l {v v' u : Value} {g : Nat} (hd : ∀ q, v.ownBlock = some q → u.ownBlock ≠ some q) (hat : v'.ownBlock = v.ownBlock ∨ v'.ownBlock = some g) (hb : ∀ q, u.ownBlock = some q → q < g) : ∀ q, v'.ownBlock = some q → u.ownBlock ≠ some q := fun q h1 h2 => by
  rcases hat with e | e
  · exact hd q (by rw [← e]; exact h1) h2
  · have h3 := hb q h2
    have e2 : q = g := Option.some.inj (h1.symm.trans e)
    omega
theorem apart_r {v u u' : Value} {g : Nat} (hd : ∀ q, v.ownBlock = some q → u.ownBlock ≠ some q) (hat : u'.ownBlock = u.ownBlock ∨ u'.ownBlock = some g) (hb : ∀ q, v.ownBlock = some q → q < g) : ∀ q, v.ownBlock = some q → u'.ownBlock ≠ some q := fun q h1 h2 => by
  rcases hat with e | e
  · exact hd q h1 (by rw [← e]; exact h2)
  · have h3 := hb q h1
    have e2 : q = g := Option.some.inj (h2.symm.trans e)
    omega
/-- What impl.readPattern answers. -/
def RdPatTo (s : ByteArray) (w w' : World) (e : Ending) : Prop :=
  ∃ L A n c, e = .returned (.tuple #[.agg #[.string ⟨L.toArray⟩, .slice A n c], .bool (ptB s)]) ∧ Below w.heap.size w w' ∧ (ptB s = true → L = ptLs s ∧ w'.ownsRow w.heap.size 3 1 (.slice A n c) (ptVs s).length (intsZ (ptVs s)))
theorem ret_pat {L : List UInt8} {v : Value} {a b : Bool} (h : a = b) : Ending.returned (.tuple #[.agg #[.string ⟨L.toArray⟩, v], .bool a]) = .returned (.tuple #[.agg #[.string ⟨L.toArray⟩, v], .bool b]) := by rw [h]
theorem RdPatTo.no {s : ByteArray} {w w' : World} {L : List UInt8} {A : Option Addr} {n c : Nat} (h : ptB s = false) (hb : Below w.heap.size w w') : RdPatTo s w w' (.returned (.tuple #[.agg #[.string ⟨L.toArray⟩, .slice A n c], .bool false])) :=
  ⟨L, A, n, c, ret_pat h.symm, hb, fun h2 => by rw [h] at h2; cases h2⟩
theorem RdPatTo.yes {s : ByteArray} {p : Pt} {w w' : World} {A : Option Addr} {c : Nat} {n : Nat} (h : ptB s = ptFine p ∧ ptLs s = p.ls ∧ ptVs s = p.vals) (hf : ptFine p = true) (hb : Below w.heap.size w w') (hn : n = p.vals.length) (ho : w'.ownsRow w.heap.size 3 1 (.slice A n c) n (intsZ p.vals)) : RdPatTo s w w' (.returned (.tuple #[.agg #[.string ⟨p.ls.toArray⟩, .slice A n c], .bool true])) :=
  ⟨p.ls, A, n, c, ret_pat (by rw [h.1, hf]), hb, fun _ => ⟨h.2.1.symm, by rw [h.2.2, ← hn]; exact ho⟩⟩
set_option maxRecDepth 100000 in
set_option maxHeartbeats 4000000 in
theorem readPattern_any (s : ByteArray) (w : World) (hs : s.size ≤ 1048576) :
    Calls Tryd.prog 79 #[.string s] w fun e w' => RdPatTo s w w' e := by
  obtain ⟨i0, hi, hz0, hz1, hz2⟩ := info_parts info3
  have HI0 := Lib.hid hi; have HZ0 := Lib.hid hz0; have HZ1 := Lib.hid hz1; have HZ2 := Lib.hid hz2
  clear hi hz0 hz1 hz2
  obtain ⟨i1, hi, hz0, hz1, hz2⟩ := info_parts infoU8h
  have HI0' := Lib.hid hi; have HZ0' := Lib.hid hz0; have HZ1' := Lib.hid hz1; have HZ2' := Lib.hid hz2
  clear hi hz0 hz1 hz2
  obtain ⟨w1, hw1⟩ : ∃ x : World, x = w.alloc (.cells #[.string ⟨#[]⟩, .slice none 0 0] 83) := ⟨_, rfl⟩
  have HBW : Hid (Below w.heap.size w w1) := Lib.hid (by rw [hw1]; exact (Below.refl _ _).alloc (Nat.le_refl _) _)
  have HL1 : Hid (w.heap.size < w1.heap.size) := Lib.hid (by rw [hw1]; simp)
  have HZ : Hid (w1.cell? ⟨w.heap.size, 0, none⟩ = some (.string ⟨#[]⟩) ∧ w1.cell? ⟨w.heap.size, 1, none⟩ = some (.slice none 0 0) ∧ w1.frozen? ⟨w.heap.size, 0, none⟩ = false ∧ w1.frozen? ⟨w.heap.size, 1, none⟩ = false) := Lib.hid (by
    rw [hw1]
    exact ⟨by rw [cell_of_heap (heap_new _ _)]; rfl, by rw [cell_of_heap (heap_new _ _)]; rfl, free_of_heap (heap_new _ _) _, free_of_heap (heap_new _ _) _⟩)
  have HW1 := Lib.hid hw1
  have HST : Hid ((w1.alloc (.cells #[.int .i64 0] 3)).ownsRow w1.heap.size 3 1 (.slice (some ⟨w1.heap.size, 0, none⟩) 1 1) 1 (intsZ [0])) := Lib.hid (World.ownsRow_lit w1 #[.int .i64 0] 1 (Nat.le_refl _) (by decide) rfl)
  have hsz1 : w.heap.size + 1 = w1.heap.size := by rw [hw1]; simp
  have HSZ := Lib.hid hsz1
  clear hw1 hsz1
  go_enter Tryd.func79, Tryd.ntmps79
  go_wp2
  rw [← HW1.out]
  go_loopw [4, 5, 12] (fun t4 t5 t12 wr => ∃ (k : Nat) (p : Pt) (g cap m : Nat) (A : Option Addr) (c : Nat), k ≤ s.size ∧ t12 = .int .i64 k ∧ t4 = .slice A p.ls.length c ∧ t5 = .slice (some ⟨g, 0, none⟩) (m + 1) cap ∧ Hid (m = p.vs.length) ∧ Hid (ptRead (s.data.toList.take k) = some p) ∧ Hid (wr.ownsRow w1.heap.size 3 1 (.slice (some ⟨g, 0, none⟩) (m + 1) cap) (m + 1) (intsZ p.vals)) ∧ Hid (wr.ownsRow w1.heap.size 5 1 (.slice A p.ls.length c) p.ls.length (bytesZ p.ls)) ∧ Hid (∀ q, (Value.slice A p.ls.length c).ownBlock = some q → (Value.slice (some ⟨g, 0, none⟩) (m + 1) cap).ownBlock ≠ some q) ∧ Hid (Below w1.heap.size w1 wr)) (fun _ _ i _ => s.size - (intOf i).toNat)
  case atStart => exact ⟨0, ⟨[], [], 0⟩, w1.heap.size, 1, 0, none, 0, Nat.zero_le _, rfl, rfl, by rw [HSZ.out], Lib.hid rfl, Lib.hid rfl, HST, Lib.hid (own_nil _ _ _ _), Lib.hid (fun q h => by cases h), Lib.hid ((Below.refl _ _).alloc (Nat.le_refl _) _)⟩
  case round =>
    obtain ⟨k, p, g, cap, m, A, c, hk, rfl, rfl, rfl, HM, HR, HO, HP, HD, HB⟩ := hrel
    clear HST
    have hok := ptRead_ok s.data.toList k (by rw [len_list]; exact hk) p HR.out
    have hle := hok.le
    have HOK := Lib.hid hok
    have hml : m ≤ k := by have := HM.out; have := hok.len; omega
    clear hok
    by_cases hlt : k < s.size
    · have hBS := HB.out.size
      rcases (by omega : (97 ≤ (s[k].toNat : Int) ∧ (s[k].toNat : Int) ≤ 122) ∨ (s[k].toNat : Int) < 49 ∨ (49 ≤ (s[k].toNat : Int) ∧ (s[k].toNat : Int) ≤ 57) ∨ (57 < (s[k].toNat : Int) ∧ (s[k].toNat : Int) < 97) ∨ 122 < (s[k].toNat : Int)) with ⟨h1, h2⟩ | h1 | ⟨h1, h2⟩ | ⟨h1, h2⟩ | h1
      · -- a letter
        have hL : isLet s[k] = true := by rw [isLet_int]; simp [h1, h2]
        have HN := Lib.hid (pt_next hlt HR.out (ptStep_let hL))
        have HV : Hid (intsZ (p.vs ++ [p.v] ++ [0]) = intsZ p.vals ++ [.int .i64 0]) := Lib.hid (intsZ_snoc _ _)
        have HU := Lib.hid (bytesZ_snoc p.ls s[k])
        have hmx : m + 1 + 1 ≤ maxLen := by unfold maxLen; omega
        have hmy : p.ls.length + 1 ≤ maxLen := by unfold maxLen; omega
        have HPL : Hid ((p.ls ++ [s[k]]).length = p.ls.length + 1) := Lib.hid (by simp)
        clear hL
        go_wp2_with (at_builtin; refine wpList_append_own_at _ rfl _ _ 22 rfl w1.heap.size 5 i1 (.int .u8 0) 1 1 Tryd.underlying22 HI0'.out HZ0'.out HZ1'.out HZ2'.out rfl (by decide) _ _ _ rfl (HP.out.alloc _) ⟨wr.heap.size, 0, none⟩ 1 1 [.int .u8 (s[k].toNat : Int)] rfl rfl (cell_one_new _ _ _) (by simp [Value.oneCell']) hmy (by omega) (by simp; omega) ?_)
        intro v' w4 hown' hgrow _ hat
        have hb4 : Below w1.heap.size w1 w4 := below_append HB.out hgrow HB.out.size (own_lt HP.out)
        have HO4 := Lib.hid (own_grown (HO.out.alloc (.cells #[.int .u8 (s[k].toNat : Int)] 5)) hgrow (fun q h1 h2 => HD.out q h2 h1))
        have HD4 := Lib.hid (apart_l HD.out hat (fun q h => by have := own_bound HO.out q h; simp; omega))
        rw [← HU.out] at hown'
        obtain ⟨A4, c4, hv4⟩ := own_shape hown'
        subst hv4
        have HP4 := Lib.hid hown'; have HB4 := Lib.hid hb4
        clear hown' hgrow hb4 hat
        have hB4 := HB4.out.size
        go_wp2_with (at_builtin; refine wpList_append_own_at _ rfl _ _ 28 rfl w1.heap.size 3 i0 (.int .i64 0) 1 8 Tryd.underlying28 HI0.out HZ0.out HZ1.out HZ2.out rfl (by decide) _ _ _ rfl (HO4.out.alloc _) ⟨w4.heap.size, 0, none⟩ 1 1 [.int .i64 0] rfl rfl (cell_one_new _ _ _) (by simp [Value.oneCell']) hmx (by omega) (by simp; omega) ?_)
        intro v' w5 hown' hgrow _ hat
        have hb5 : Below w1.heap.size w1 w5 := below_append HB4.out hgrow HB4.out.size (own_lt HO4.out)
        have HP5 := Lib.hid (own_grown (HP4.out.alloc (.cells #[.int .i64 0] 3)) hgrow HD4.out)
        have HD5 := Lib.hid (apart_r HD4.out hat (fun q h => by have := own_bound HP4.out q h; simp; omega))
        rw [← HV.out] at hown'
        obtain ⟨g5, c5, hv5, -, -⟩ := own_some hown' (by omega)
        subst hv5
        have HO5 := Lib.hid hown'; have HB5 := Lib.hid hb5
        clear hown' hgrow hb5 hat
        go_wp2
        go_roundw
        case rel => exact ⟨k + 1, ⟨p.ls ++ [s[k]], p.vs ++ [p.v], 0⟩, g5, c5, m + 1, A4, c4, by omega, by go_num, by rw [HPL.out], rfl, Lib.hid (by rw [HM.out]; simp), HN, HO5, Lib.hid (by rw [HPL.out]; exact HP5.out), Lib.hid (by rw [HPL.out]; exact HD5.out), HB5⟩
        case measure => simp [intOf]; omega
      · have hL : isLet s[k] = false := by rw [isLet_int]; simp; omega
        have HN := Lib.hid (pt_bad hlt HR.out (ptStep_no (p := p) hL (fun h => by have h9 := h.1; rw [isNum_int] at h9; simp only [Bool.and_eq_true, decide_eq_true_eq] at h9; omega))).1
        have z0 : wr.cell? ⟨w.heap.size, 0, none⟩ = some (.string ⟨#[]⟩) := (HB.out.cell (p := ⟨w.heap.size, 0, none⟩) HL1.out).trans HZ.out.1
        have z1 : wr.cell? ⟨w.heap.size, 1, none⟩ = some (.slice none 0 0) := (HB.out.cell (p := ⟨w.heap.size, 1, none⟩) HL1.out).trans HZ.out.2.1
        have zf0 : wr.frozen? ⟨w.heap.size, 0, none⟩ = false := (HB.out.frozen (p := ⟨w.heap.size, 0, none⟩) HL1.out).trans HZ.out.2.2.1
        have zf1 : wr.frozen? ⟨w.heap.size, 1, none⟩ = false := (HB.out.frozen (p := ⟨w.heap.size, 1, none⟩) HL1.out).trans HZ.out.2.2.2
        have zbl : w.heap.size < wr.heap.size := Nat.lt_of_lt_of_le HL1.out HB.out.size
        go_wp2
        refine bodyPost_ret (v := .tuple #[.agg #[.string ⟨([] : List UInt8).toArray⟩, .slice none 0 0], .bool false]) (by simp [results, Tryd.results79, go_sem, z0, z1, zf0, zf1, zbl]) rfl ?_
        exact RdPatTo.no HN.out (((HBW.out.trans (HB.out.mono HBW.out.size)).setCell (p := ⟨w.heap.size, 0, none⟩) (Nat.le_refl _) _).setCell (p := ⟨w.heap.size, 1, none⟩) (Nat.le_refl _) _)
      · have hL : isLet s[k] = false := by rw [isLet_int]; simp; omega
        have hN : isNum s[k] = true := by rw [isNum_int]; simp; omega
        have hm1 : m < (m + 1) * 1 := by omega
        have hc0 := HO.out.cellAt m hm1
        have hf0 := HO.out.frozenAt m
        have hg0 : (intsZ p.vals)[m]? = some (.int .i64 p.v) := by rw [HM.out]; simp [intsZ, Pt.vals]
        rw [hg0] at hc0
        clear hg0
        by_cases hv : p.v = 0
        · have HN := Lib.hid (pt_next hlt HR.out (ptStep_num hL hN hv))
          have hw8 : IntKind.u8.wrap ((s[k].toNat : Int) - 48) = (s[k].toNat : Int) - 48 := by show ((s[k].toNat : Int) - 48) % 256 = _; omega
          have HO4 : Hid ((wr.setCell ⟨g, m, none⟩ (.int .i64 ((s[k].toNat : Int) - 48))).ownsRow w1.heap.size 3 1 (.slice (some ⟨g, 0, none⟩) (m + 1) cap) (m + 1) (intsZ (p.vs ++ [(s[k].toNat : Int) - 48]))) := Lib.hid (by
            have h := HO.out.stored m (.int .i64 ((s[k].toNat : Int) - 48))
            have e : (intsZ p.vals).set m (.int .i64 ((s[k].toNat : Int) - 48)) = intsZ (p.vs ++ [(s[k].toNat : Int) - 48]) := by rw [HM.out]; simp [intsZ, Pt.vals]
            rw [e] at h; exact h.1)
          have HP4 := Lib.hid (own_grown HP.out (HO.out.stored m (.int .i64 ((s[k].toNat : Int) - 48))).2 (fun q h1 h2 => HD.out q h1 (by rw [← h2]; rfl)))
          have hgb : w1.heap.size ≤ g := own_lt HO.out g rfl
          have HB4 : Hid (Below w1.heap.size w1 (wr.setCell ⟨g, m, none⟩ (.int .i64 ((s[k].toNat : Int) - 48)))) := Lib.hid (HB.out.setCell (p := ⟨g, m, none⟩) hgb _)
          clear hL hN
          go_wp2
          go_roundw
          case rel => exact ⟨k + 1, ⟨p.ls, p.vs, (s[k].toNat : Int) - 48⟩, g, cap, m, A, c, by omega, by go_num, rfl, rfl, HM, HN, HO4, HP4, HD, HB4⟩
          case measure => simp [intOf]; omega
        · have hv' : (p.v == 0) = false := by simp [hv]
          have HN := Lib.hid (pt_bad hlt HR.out (ptStep_no (p := p) hL (fun h => hv h.2))).1
          have z0 : wr.cell? ⟨w.heap.size, 0, none⟩ = some (.string ⟨#[]⟩) := (HB.out.cell (p := ⟨w.heap.size, 0, none⟩) HL1.out).trans HZ.out.1
          have z1 : wr.cell? ⟨w.heap.size, 1, none⟩ = some (.slice none 0 0) := (HB.out.cell (p := ⟨w.heap.size, 1, none⟩) HL1.out).trans HZ.out.2.1
          have zf0 : wr.frozen? ⟨w.heap.size, 0, none⟩ = false := (HB.out.frozen (p := ⟨w.heap.size, 0, none⟩) HL1.out).trans HZ.out.2.2.1
          have zf1 : wr.frozen? ⟨w.heap.size, 1, none⟩ = false := (HB.out.frozen (p := ⟨w.heap.size, 1, none⟩) HL1.out).trans HZ.out.2.2.2
          have zbl : w.heap.size < wr.heap.size := Nat.lt_of_lt_of_le HL1.out HB.out.size
          go_wp2
          refine bodyPost_ret (v := .tuple #[.agg #[.string ⟨([] : List UInt8).toArray⟩, .slice none 0 0], .bool false]) (by simp [results, Tryd.results79, go_sem, z0, z1, zf0, zf1, zbl]) rfl ?_
          exact RdPatTo.no HN.out (((HBW.out.trans (HB.out.mono HBW.out.size)).setCell (p := ⟨w.heap.size, 0, none⟩) (Nat.le_refl _) _).setCell (p := ⟨w.heap.size, 1, none⟩) (Nat.le_refl _) _)
      · have hL : isLet s[k] = false := by rw [isLet_int]; simp; omega
        have h3 : ¬ 97 ≤ (s[k].toNat : Int) := by omega
        have h4 : 49 ≤ (s[k].toNat : Int) := by omega
        have h5 : ¬ (s[k].toNat : Int) ≤ 57 := by omega
        have HN := Lib.hid (pt_bad hlt HR.out (ptStep_no (p := p) hL (fun h => by have h9 := h.1; rw [isNum_int] at h9; simp only [Bool.and_eq_true, decide_eq_true_eq] at h9; omega))).1
        have z0 : wr.cell? ⟨w.heap.size, 0, none⟩ = some (.string ⟨#[]⟩) := (HB.out.cell (p := ⟨w.heap.size, 0, none⟩) HL1.out).trans HZ.out.1
        have z1 : wr.cell? ⟨w.heap.size, 1, none⟩ = some (.slice none 0 0) := (HB.out.cell (p := ⟨w.heap.size, 1, none⟩) HL1.out).trans HZ.out.2.1
        have zf0 : wr.frozen? ⟨w.heap.size, 0, none⟩ = false := (HB.out.frozen (p := ⟨w.heap.size, 0, none⟩) HL1.out).trans HZ.out.2.2.1
        have zf1 : wr.frozen? ⟨w.heap.size, 1, none⟩ = false := (HB.out.frozen (p := ⟨w.heap.size, 1, none⟩) HL1.out).trans HZ.out.2.2.2
        have zbl : w.heap.size < wr.heap.size := Nat.lt_of_lt_of_le HL1.out HB.out.size
        go_wp2
        refine bodyPost_ret (v := .tuple #[.agg #[.string ⟨([] : List UInt8).toArray⟩, .slice none 0 0], .bool false]) (by simp [results, Tryd.results79, go_sem, z0, z1, zf0, zf1, zbl]) rfl ?_
        exact RdPatTo.no HN.out (((HBW.out.trans (HB.out.mono HBW.out.size)).setCell (p := ⟨w.heap.size, 0, none⟩) (Nat.le_refl _) _).setCell (p := ⟨w.heap.size, 1, none⟩) (Nat.le_refl _) _)
      · have hL : isLet s[k] = false := by rw [isLet_int]; simp; omega
        have h3 : 97 ≤ (s[k].toNat : Int) := by omega
        have h4 : 49 ≤ (s[k].toNat : Int) := by omega
        have h5 : ¬ (s[k].toNat : Int) ≤ 57 := by omega
        have h6 : ¬ (s[k].toNat : Int) ≤ 122 := by omega
        have HN := Lib.hid (pt_bad hlt HR.out (ptStep_no (p := p) hL (fun h => by have h9 := h.1; rw [isNum_int] at h9; simp only [Bool.and_eq_true, decide_eq_true_eq] at h9; omega))).1
        have z0 : wr.cell? ⟨w.heap.size, 0, none⟩ = some (.string ⟨#[]⟩) := (HB.out.cell (p := ⟨w.heap.size, 0, none⟩) HL1.out).trans HZ.out.1
        have z1 : wr.cell? ⟨w.heap.size, 1, none⟩ = some (.slice none 0 0) := (HB.out.cell (p := ⟨w.heap.size, 1, none⟩) HL1.out).trans HZ.out.2.1
        have zf0 : wr.frozen? ⟨w.heap.size, 0, none⟩ = false := (HB.out.frozen (p := ⟨w.heap.size, 0, none⟩) HL1.out).trans HZ.out.2.2.1
        have zf1 : wr.frozen? ⟨w.heap.size, 1, none⟩ = false := (HB.out.frozen (p := ⟨w.heap.size, 1, none⟩) HL1.out).trans HZ.out.2.2.2
        have zbl : w.heap.size < wr.heap.size := Nat.lt_of_lt_of_le HL1.out HB.out.size
        go_wp2
        refine bodyPost_ret (v := .tuple #[.agg #[.string ⟨([] : List UInt8).toArray⟩, .slice none 0 0], .bool false]) (by simp [results, Tryd.results79, go_sem, z0, z1, zf0, zf1, zbl]) rfl ?_
        exact RdPatTo.no HN.out (((HBW.out.trans (HB.out.mono HBW.out.size)).setCell (p := ⟨w.heap.size, 0, none⟩) (Nat.le_refl _) _).setCell (p := ⟨w.heap.size, 1, none⟩) (Nat.le_refl _) _)
    · obtain rfl : k = s.size := by omega
      have HDN := Lib.hid (pt_done HR.out)
      have HL : Hid (m + 1 = p.vals.length) := Lib.hid (by rw [HM.out]; simp [Pt.vals])
      have z0 : wr.cell? ⟨w.heap.size, 0, none⟩ = some (.string ⟨#[]⟩) := (HB.out.cell (p := ⟨w.heap.size, 0, none⟩) HL1.out).trans HZ.out.1
      have z1 : wr.cell? ⟨w.heap.size, 1, none⟩ = some (.slice none 0 0) := (HB.out.cell (p := ⟨w.heap.size, 1, none⟩) HL1.out).trans HZ.out.2.1
      have zf0 : wr.frozen? ⟨w.heap.size, 0, none⟩ = false := (HB.out.frozen (p := ⟨w.heap.size, 0, none⟩) HL1.out).trans HZ.out.2.2.1
      have zf1 : wr.frozen? ⟨w.heap.size, 1, none⟩ = false := (HB.out.frozen (p := ⟨w.heap.size, 1, none⟩) HL1.out).trans HZ.out.2.2.2
      have zbl : w.heap.size < wr.heap.size := Nat.lt_of_lt_of_le HL1.out HB.out.size
      rcases (by omega : (p.ls.length : Int) < 1 ∨ (¬ (p.ls.length : Int) < 1 ∧ 6 < (p.ls.length : Int)) ∨ (¬ (p.ls.length : Int) < 1 ∧ ¬ 6 < (p.ls.length : Int))) with h1 | ⟨h1, h2⟩ | ⟨h1, h2⟩
      · have HF : Hid (ptB s = false) := Lib.hid (by rw [HDN.out.1]; unfold ptFine; rw [decide_eq_false (by omega)]; simp)
        go_wp2
        refine bodyPost_ret (v := .tuple #[.agg #[.string ⟨([] : List UInt8).toArray⟩, .slice none 0 0], .bool false]) (by simp [results, Tryd.results79, go_sem, z0, z1, zf0, zf1, zbl]) rfl ?_
        exact RdPatTo.no HF.out (((HBW.out.trans (HB.out.mono HBW.out.size)).setCell (p := ⟨w.heap.size, 0, none⟩) (Nat.le_refl _) _).setCell (p := ⟨w.heap.size, 1, none⟩) (Nat.le_refl _) _)
      · have HF : Hid (ptB s = false) := Lib.hid (by rw [HDN.out.1]; unfold ptFine; rw [decide_eq_false (by omega : ¬ (p.ls.length : Int) ≤ 6)]; simp)
        go_wp2
        refine bodyPost_ret (v := .tuple #[.agg #[.string ⟨([] : List UInt8).toArray⟩, .slice none 0 0], .bool false]) (by simp [results, Tryd.results79, go_sem, z0, z1, zf0, zf1, zbl]) rfl ?_
        exact RdPatTo.no HF.out (((HBW.out.trans (HB.out.mono HBW.out.size)).setCell (p := ⟨w.heap.size, 0, none⟩) (Nat.le_refl _) _).setCell (p := ⟨w.heap.size, 1, none⟩) (Nat.le_refl _) _)
      · have hin := own_in HO.out
        have hvl : p.vals.length ≤ 2000000 := by have := HL.out; omega
        have hvp : 1 ≤ p.vals.length := by have := HL.out; omega
        have hmax := max_any p.vals (some ⟨g, 0, none⟩) cap wr hin hvp hvl
        rw [← HL.out] at hmax
        have HMX := Lib.hid hmax
        have HMZ := Lib.hid (mx_some HOK.out.bd)
        have hps := own_some HP.out (by omega)
        obtain ⟨g4, c4, hv4, hg4, hg4'⟩ := hps
        injection hv4 with ha1 _ ha3
        subst ha1; subst ha3
        have hcv : (convert 22 9 (.slice (some ⟨g4, 0, none⟩) p.ls.length c)).run Tryd.prog wr = .ok (.string ⟨p.ls.toArray⟩) wr :=
          run_convert_bytes_back (P := Tryd.prog) wr 22 9 5 ⟨g4, 0, none⟩ c p.ls Tryd.underlying22 Tryd.underlying5 Tryd.underlying9 (fun i hi => by
            have h := HP.out.cellAt i (by omega)
            rw [show (bytesZ p.ls)[i]? = some (.int .u8 (p.ls[i].toNat : Int)) from by simp [bytesZ, hi]] at h
            rw [show (⟨g4, 0, none⟩ : Addr).add i = ⟨g4, i, none⟩ from by unfold Addr.add; by_cases hk0 : i = 0 <;> simp [hk0]]
            exact h)
        have HCV := Lib.hid hcv
        clear hmax hin hcv
        cases hq : ptSome p
        · have HF : Hid (ptB s = false) := Lib.hid (by rw [HDN.out.1]; unfold ptFine; rw [hq]; rfl)
          rw [hq] at HMZ
          clear hq
          go_wp2_with fail
          refine HMX.out.mono ?_
          rintro e w2 ⟨rfl, rfl⟩
          have hmz : (mxL p.vals == 0) = true := HMZ.out
          generalize mxL p.vals = q at *
          go_wp2
          refine bodyPost_ret (v := .tuple #[.agg #[.string ⟨([] : List UInt8).toArray⟩, .slice none 0 0], .bool false]) (by simp [results, Tryd.results79, go_sem, z0, z1, zf0, zf1, zbl]) rfl ?_
          exact RdPatTo.no HF.out (((HBW.out.trans (HB.out.mono HBW.out.size)).setCell (p := ⟨w.heap.size, 0, none⟩) (Nat.le_refl _) _).setCell (p := ⟨w.heap.size, 1, none⟩) (Nat.le_refl _) _)
        · have HF : Hid (ptFine p = true) := Lib.hid (by unfold ptFine; rw [hq, decide_eq_true (by omega), decide_eq_true (by omega)]; rfl)
          rw [hq] at HMZ
          clear hq
          go_wp2_with fail
          refine HMX.out.mono ?_
          rintro e w2 ⟨rfl, rfl⟩
          have hmz : (mxL p.vals == 0) = false := HMZ.out
          have hcv := HCV.out
          generalize mxL p.vals = q at *
          go_wp2
          refine bodyPost_ret (v := .tuple #[.agg #[.string ⟨p.ls.toArray⟩, .slice (some ⟨g, 0, none⟩) (m + 1) cap], .bool true]) (by simp [results, Tryd.results79, go_sem, z0, z1, zf0, zf1, zbl]) rfl ?_
          have hne : ∀ q, (Value.slice (some ⟨g, 0, none⟩) (m + 1) cap).ownBlock = some q → some w.heap.size ≠ some q := fun q h1 h2 => by
            have h3 := own_lt HO.out q h1
            have h4 := Option.some.inj h2
            have := HL1.out
            omega
          refine RdPatTo.yes HDN.out HF.out (((HBW.out.trans (HB.out.mono HBW.out.size)).setCell (p := ⟨w.heap.size, 0, none⟩) (Nat.le_refl _) _).setCell (p := ⟨w.heap.size, 1, none⟩) (Nat.le_refl _) _) HL.out ?_
          exact Joins.ownsRow_le (own_grown HO.out (grown_set (grown_set (World.grownBy.refl _ _) 0 _) 1 _) hne) HBW.out.size
theorem implIsPattern_any (s : ByteArray) (w : World) (hs : s.size ≤ 1048576) :
    Calls Tryd.prog 38 #[.string s] w fun e w' => e = .returned (.bool (ptB s)) ∧ Below w.heap.size w w' := by
  go_enter Tryd.func38, Tryd.ntmps38
  go_wp2_with fail
  refine (readPattern_any s _ hs).mono ?_
  rintro e w1 ⟨L, A, n, c, rfl, hb, ho⟩
  clear ho
  have HB := Lib.hid (hb.alloc hb.size (.cells #[.string ⟨L.toArray⟩, .slice A n c] 83))
  go_wp2
  go_ret
  exact ⟨rfl, by first | exact HB.out | exact hb⟩
end Go.Proofs.YtcbhhbcfnaekpaaDoor
