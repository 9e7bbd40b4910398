/-
  spec.ParseMelt: what it answers, in plain words, and its contract.
-/
import Derived.Test.YtebbgdihifihnaaDoorSpl
import Derived.Test.YtebbgdihifihnaaDoorMjo
import Derived.Test.YtebbgdihifihnaaDoorNew
import Derived.Test.YtebbgdihifihnaaDoorRdt
import Derived.Deep.DeepCutAuto
namespace Go.Proofs.YtebbgdihifihnaaDoor
open Go.RowKit
set_option linter.unusedVariables false

def meOf (l : List Int) : Me := ⟨l.getD 0 0, l.getD 1 0, l.getD 2 0⟩
theorem meOf_zs {l : List Int} (h : l.length = 3) : (meOf l).zs = l := by
  match l, h with
  | [c0, c1, c2], _ => rfl
def mPieces (s : ByteArray) : List ByteArray := pcs 45 s
def mRead (s : ByteArray) : Me := meOf ((mPieces s).map T1.readT)
def mparOk (s : ByteArray) : Bool := decide ((mPieces s).length = 3) && goodM (mRead s)
def mparV (s : ByteArray) : Me := if mparOk s then mRead s else zMe
theorem mpar_yes {s : ByteArray} (h : (mPieces s).length = 3) (hg : goodM (mRead s) = true) : mparOk s = true ∧ mparV s = mRead s := by
  have : mparOk s = true := by unfold mparOk; rw [hg, decide_eq_true h]; rfl
  exact ⟨this, by unfold mparV; rw [this]; rfl⟩
theorem mpar_no {s : ByteArray} (h : (mPieces s).length ≠ 3 ∨ goodM (mRead s) = false) : mparOk s = false ∧ mparV s = zMe := by
  have : mparOk s = false := by
    unfold mparOk
    rcases h with h | h
    · rw [decide_eq_false h]; rfl
    · rw [h]; simp
  exact ⟨this, by unfold mparV; rw [this]; rfl⟩
theorem mpar_if {s : ByteArray} (h : (mPieces s).length = 3) : mparOk s = goodM (mRead s) ∧ mparV s = ifM (mRead s) := by
  cases hg : goodM (mRead s)
  · obtain ⟨h1, h2⟩ := mpar_no (s := s) (.inr hg); exact ⟨h1, by rw [h2]; unfold ifM; rw [hg]; rfl⟩
  · obtain ⟨h1, h2⟩ := mpar_yes h hg; exact ⟨h1, by rw [h2]; unfold ifM; rw [hg]; rfl⟩
theorem split_size (c : UInt8) (n : Nat) : ∀ (s : ByteArray), ∀ x ∈ Lib.splitB (sepB c) 0 n s, x.size ≤ s.size := by
  induction n with
  | zero => intro s x hx; rw [Lib.splitB_zero] at hx; simp at hx; subst hx; exact Nat.le_refl _
  | succ n ih =>
    intro s x hx
    rcases Lib.indexB_cases s (sepB c) with h | ⟨i, h, hr⟩
    · rw [Lib.splitB_miss _ _ _ _ h] at hx; simp at hx; subst hx; exact Nat.le_refl _
    · rw [Lib.splitB_hit _ _ _ _ i h] at hx
      rcases List.mem_cons.1 hx with rfl | hx
      · rw [ByteArray.size_extract]; omega
      · have := ih _ x hx
        rw [ByteArray.size_extract] at this; omega
theorem map_snoc {α β : Type} (f : α → β) {l : List α} {k : Nat} (h : k < l.length) : (l.take (k + 1)).map f = (l.take k).map f ++ [f l[k]] := by
  rw [List.take_succ_eq_append_getElem h, List.map_append]; rfl
theorem list3 {l : List ByteArray} (h : l.length = 3) : ∃ a b c, l = [a, b, c] := by
  match l, h with
  | [a, b, c], _ => exact ⟨a, b, c, rfl⟩

def ParM (s : ByteArray) (w w' : World) (e : Ending) : Prop := e = .returned (.tuple #[.agg #[.int .i64 (mparV s).lea, .int .i64 (mparV s).tin, .int .i64 (mparV s).ant], .bool (mparOk s)]) ∧ Below w.heap.size w w'
theorem ParM.no {s : ByteArray} {w w' : World} (h : (mPieces s).length ≠ 3 ∨ goodM (mRead s) = false) (hb : Below w.heap.size w w') : ParM s w w' (.returned (.tuple #[.agg #[.int .i64 0, .int .i64 0, .int .i64 0], .bool false])) := by
  obtain ⟨h1, h2⟩ := mpar_no h
  exact ⟨by rw [h1, h2]; rfl, hb⟩
theorem ParM.yes {s : ByteArray} {w w' : World} {q : Me} (h : (mPieces s).length = 3) (hg : goodM (mRead s) = true) (hq : q = mRead s) (hb : Below w.heap.size w w') : ParM s w w' (.returned (.tuple #[.agg #[.int .i64 q.lea, .int .i64 q.tin, .int .i64 q.ant], .bool true])) := by
  obtain ⟨h1, h2⟩ := mpar_yes h hg
  exact ⟨by rw [h1, h2, hq], hb⟩

set_option maxRecDepth 100000 in
set_option maxHeartbeats 4000000 in
theorem specParM_any (s : ByteArray) (w : World) (hs : s.size ≤ 1048576) :
    Calls Tryd.prog 32 #[.string s] w fun e w' => ParM s w w' e := by
  have HSP : Hid (∀ W : World, Calls Tryd.prog 62 #[.string s, .int .u8 45] W fun e w' => SplTo 45 s W w' e) := Lib.hid fun W => l1Split_any 45 s W hs
  have HSZ : Hid (∀ x ∈ mPieces s, x.size ≤ 1048576) := Lib.hid fun x hx => Nat.le_trans (split_size 45 _ s x hx) hs
  go_enter Tryd.func32, Tryd.ntmps32
  go_wp2_with fail
  refine (HSP.out _).mono ?_
  rintro e w1 ⟨A, q0, rfl, hb, hin⟩
  have HG : Hid (MeAt w1 w.heap.size 32 zMe) := Lib.hid ((MeAt.new w 32 zMe).next hb)
  have HB1 : Hid (Below w.heap.size w w1) := Lib.hid (((Below.refl _ _).alloc (Nat.le_refl _) _).trans (hb.mono (by simp)))
  rw [show pcs 45 s = mPieces s from rfl] at hin ⊢
  have HIN := Lib.hid hin
  clear hb hin HSP
  obtain ⟨c0, c1, c2⟩ := HG.out.cells
  have f0 := HG.out.free 0; have f1 := HG.out.free 1; have f2 := HG.out.free 2
  simp only [zMe] at c0 c1 c2
  by_cases h5 : (mPieces s).length = 3
  rotate_left
  · have hne : ((mPieces s).length : Int) ≠ 3 := by omega
    have hne1 : (((mPieces s).length : Int) != 3) = true := by simp; omega
    have HV := Lib.hid (mpar_no (s := s) (.inl h5))
    clear h5 HIN HSZ
    generalize mPieces s = L at *
    go_wp2
    refine bodyPost_ret (v := .tuple #[.agg #[.int .i64 zMe.lea, .int .i64 zMe.tin, .int .i64 zMe.ant], .bool false]) (by simp [results, Tryd.results32, go_sem, c0, c1, c2, f0, f1, f2, zMe]) rfl ⟨ret_meb (a := zMe) (b := false) HV.out.2.symm HV.out.1.symm, ?_⟩
    repeat (first | (with_reducible exact HB1.out) | (refine Below.setCell ?_ (by first | (simp; done) | (simp; omega)) _))
  have HV := Lib.hid (mpar_if h5)
  have hl3 := h5
  obtain ⟨X, Y, Z, hxyz⟩ := list3 h5
  have HR : Hid (mRead s = ⟨T1.readT X, T1.readT Y, T1.readT Z⟩) := Lib.hid (by unfold mRead; rw [hxyz]; rfl)
  have hsX : X.size ≤ maxLen := by have := HSZ.out X (by rw [hxyz]; simp); unfold maxLen; omega
  have hsY : Y.size ≤ maxLen := by have := HSZ.out Y (by rw [hxyz]; simp); unfold maxLen; omega
  have hsZ : Z.size ≤ maxLen := by have := HSZ.out Z (by rw [hxyz]; simp); unfold maxLen; omega
  obtain ⟨b, off, rfl, hbl, hc⟩ := HIN.out (by omega)
  have d0 : w1.cell? ⟨b, off, none⟩ = some (.string X) := by have := hc 0 (by omega); rw [Nat.add_zero] at this; rw [this]; simp [hxyz]
  have d1 : w1.cell? ⟨b, off + 1, none⟩ = some (.string Y) := by have := hc 1 (by omega); rw [this]; simp [hxyz]
  have d2 : w1.cell? ⟨b, off + 2, none⟩ = some (.string Z) := by have := hc 2 (by omega); rw [this]; simp [hxyz]
  have CX : Hid (∀ W, Calls Tryd.prog 64 #[.string X] W fun e w' => e = .returned (.int .i64 (T1.readT X)) ∧ W = w') := Lib.hid (fun W => T1.meRead_any X W hsX)
  have CY : Hid (∀ W, Calls Tryd.prog 64 #[.string Y] W fun e w' => e = .returned (.int .i64 (T1.readT Y)) ∧ W = w') := Lib.hid (fun W => T1.meRead_any Y W hsY)
  have CZ : Hid (∀ W, Calls Tryd.prog 64 #[.string Z] W fun e w' => e = .returned (.int .i64 (T1.readT Z)) ∧ W = w') := Lib.hid (fun W => T1.meRead_any Z W hsZ)
  have D0 := Lib.hid d0; have D1 := Lib.hid d1; have D2 := Lib.hid d2
  clear hc hxyz hsX hsY hsZ HSZ HIN h5 d0 d1 d2
  generalize T1.readT X = x at *
  generalize T1.readT Y = y at *
  generalize T1.readT Z = z at *
  rw [hl3]
  clear hl3
  generalize mRead s = M at *
  go_wp2_with fail
  refine' region_new 16 [] (by kernel_rfl) (by kernel_rfl) (by kernel_rfl) ?hq ?ht
  case hq =>
    intro u
    have hbu : b < u.at_.heap.size := Nat.lt_of_lt_of_le hbl u.below.size
    have k0 : ∀ v : KeptW u.at_.heap.size u.at_, v.at_.cell? ⟨b, off, none⟩ = some (.string X) := fun v => (v.below.cell (p := ⟨b, off, none⟩) hbu).trans ((u.below.cell (p := ⟨b, off, none⟩) hbl).trans D0.out)
    have k1 : ∀ v : KeptW u.at_.heap.size u.at_, v.at_.cell? ⟨b, off + 1, none⟩ = some (.string Y) := fun v => (v.below.cell (p := ⟨b, off + 1, none⟩) hbu).trans ((u.below.cell (p := ⟨b, off + 1, none⟩) hbl).trans D1.out)
    have k2 : ∀ v : KeptW u.at_.heap.size u.at_, v.at_.cell? ⟨b, off + 2, none⟩ = some (.string Z) := fun v => (v.below.cell (p := ⟨b, off + 2, none⟩) hbu).trans ((u.below.cell (p := ⟨b, off + 2, none⟩) hbl).trans D2.out)
    unfold After
    simp only [List.take_succ_cons, List.take_zero]
    repeat (go_big_quiet_step (fail))
    go_big_quiet_step ((go_at_call 64; exact kept_same _ (CX.out _)))
    repeat (go_big_quiet_step (fail))
    go_big_quiet_step ((go_at_call 64; exact kept_same _ (CY.out _)))
    repeat (go_big_quiet_step (fail))
    go_big_quiet_step ((go_at_call 64; exact kept_same _ (CZ.out _)))
    repeat (go_big_quiet_step (fail))
    go_big_quiet_step ((go_at_call 63; exact kept_call _ (Nat.le_refl _) (meIf_any ⟨x, y, z⟩ _)))
    repeat (go_big_quiet_step (fail))
    refine wpQuiet_nil ?_
    rfl
  case ht =>
    simp only [List.drop_succ_cons, List.drop_zero, List.take_succ_cons, List.take_zero, List.length_cons, List.length_nil]
    intro wx hx
    have HBx : Hid (Below w.heap.size w wx) := Lib.hid (HB1.out.trans (hx.1.mono HB1.out.size))
    have HGx : Hid (MeAt wx w.heap.size 32 zMe) := Lib.hid (HG.out.next hx.1)
    clear c0 c1 c2 f0 f1 f2 hx
    obtain ⟨c0, c1, c2⟩ := HGx.out.cells
    have f0 := HGx.out.free 0; have f1 := HGx.out.free 1; have f2 := HGx.out.free 2
    have hgl := HGx.out.lt
    simp only [zMe] at c0 c1 c2
    have HV2 : Hid (mparOk s = goodM ⟨x, y, z⟩ ∧ mparV s = ifM ⟨x, y, z⟩) := Lib.hid (by rw [← HR.out]; exact HV.out)
    generalize ifM ⟨x, y, z⟩ = N at *
    generalize goodM ⟨x, y, z⟩ = q at *
    go_wp2
    refine bodyPost_ret (v := .tuple #[.agg #[.int .i64 N.lea, .int .i64 N.tin, .int .i64 N.ant], .bool q]) (by simp [results, Tryd.results32, go_sem, c0, c1, c2, f0, f1, f2]) rfl ⟨ret_meb (a := N) (b := q) HV2.out.2.symm HV2.out.1.symm, ?_⟩
    repeat (first | (with_reducible exact HBx.out) | (refine Below.setCell ?_ (by first | (simp; done) | (simp; omega)) _))
end Go.Proofs.YtebbgdihifihnaaDoor
