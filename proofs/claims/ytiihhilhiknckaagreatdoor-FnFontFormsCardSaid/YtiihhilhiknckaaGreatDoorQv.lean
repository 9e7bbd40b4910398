/-
  impl.ParseFont answers impP, given the library's tables, its two sentinels and the variable that strings.Cut reads.
-/
import Derived.Test.YtiihhilhiknckaaGreatDoorQo
import Derived.Test.YtiihhilhiknckaaGreatDoorHeld
import Derived.OwnWalk
import Derived.Maps.AppendAt
namespace Go.Proofs.YtiihhilhiknckaaGreatDoor.P
open Go.RowKit
set_option linter.unusedVariables false

def SrtTo (w w' : World) (e : Ending) (r : Option (List (ByteArray × Int))) : Prop :=
  ∃ v, e = .returned (.tuple #[v, .bool r.isSome]) ∧ Below w.heap.size w w' ∧ w'.ownsRow w.heap.size 25 2 v (r.getD []).length (flat (r.getD []))
theorem SrtTo.no {w w' : World} {r : Option (List (ByteArray × Int))} (h : r = none) (hb : Below w.heap.size w w') : SrtTo w w' (.returned (.tuple #[.slice none 0 0, .bool false])) r := by subst h; exact ⟨_, rfl, hb, own_nil _ _ _ _⟩
theorem SrtTo.yes {w w' : World} {r : Option (List (ByteArray × Int))} {l : List (ByteArray × Int)} {v : Value} (h : r = some l) (hb : Below w.heap.size w w') (ho : w'.ownsRow w.heap.size 25 2 v l.length (flat l)) : SrtTo w w' (.returned (.tuple #[v, .bool true])) r := by subst h; exact ⟨_, rfl, hb, ho⟩
theorem infoSt : (Tryz.prog.info? 25).map (fun i => (i.zero, i.size, i.bytes)) = some (some (.agg #[.string .empty, .int .i64 0]), 2, 24) := by kernel_rfl
theorem pair_new {a b : Value} (w : World) {g : Nat} {e : TypeId} (h : w.heap[g]? = some (.cells #[a, b] e (0, 0))) : ∀ j u, [a, b][j]? = some u → w.cell? ((⟨g, 0, none⟩ : Addr).add j) = some u := by
  intro j u hj
  have hc : j = 0 ∨ j = 1 ∨ 2 ≤ j := by omega
  rcases hc with rfl | rfl | h2
  · rw [show ((⟨g, 0, none⟩ : Addr).add 0) = ⟨g, 0, none⟩ from rfl, cell_of_heap h]; simpa using hj
  · rw [show ((⟨g, 0, none⟩ : Addr).add 1) = ⟨g, 1, none⟩ from rfl, cell_of_heap h]; simpa using hj
  · rw [List.getElem?_eq_none (by simpa using h2)] at hj; cases hj
theorem heap_two (w : World) (a b : Obj) : ((w.alloc a).alloc b).heap[w.heap.size + 1]? = some b := by
  have h := heap_new (w.alloc a) b
  have e : (w.alloc a).heap.size = w.heap.size + 1 := by simp
  rw [e] at h; exact h
theorem flat_snoc (F : List (ByteArray × Int)) (r : ByteArray × Int) : flat (F ++ [r]) = flat F ++ [.string r.1, .int .i64 r.2] := by simp [flat]
/-- What the library's readers ask of a world. -/
def LayP (w : World) : Prop := Tab w ∧ Sent w 2 ∧ Sent w 3 ∧ MaxL w
theorem LayP.below {w w' : World} (h : LayP w) (hb : Below w.heap.size w w') : LayP w' := ⟨h.1.below hb, h.2.1.below hb, h.2.2.1.below hb, h.2.2.2.below hb⟩
theorem pcs_empty : pcs 59 ⟨#[]⟩ = [⟨#[]⟩] := by unfold pcs; rw [show (⟨#[]⟩ : ByteArray).size = 0 from rfl, Lib.splitB_zero]
theorem pcs_ne (r : ByteArray) : ∃ q L, pcs 59 r = q :: L := by
  cases h : pcs 59 r with
  | nil =>
    have := lp_ne 59 r.data.toList
    rw [← pcs_lp, h] at this
    exact absurd rfl this
  | cons q L => exact ⟨q, L, rfl⟩
theorem imp_end (F : List (ByteArray × Int)) : impF (pcs 59 ⟨#[]⟩) F = some F := by rw [pcs_empty]; simp [impF]
theorem imp_miss {R : ByteArray} {F : List (ByteArray × Int)} (h : pcs 59 R = [R]) (hn : R.size ≠ 0) : impF (pcs 59 R) F = none := by
  rw [h]; unfold impF
  rw [if_neg (fun e => hn (by rw [e]; rfl))]
theorem imp_hit {R p r : ByteArray} {F : List (ByteArray × Int)} (h : pcs 59 R = p :: pcs 59 r) : impF (pcs 59 R) F = match sortOf p with
    | none => none
    | some f => if F.length = 32 then none else impF (pcs 59 r) (F ++ [f]) := by
  obtain ⟨q, L, hq⟩ := pcs_ne r
  rw [h, hq]
  rfl
theorem imp_nosort {R p r : ByteArray} {F : List (ByteArray × Int)} (h : pcs 59 R = p :: pcs 59 r) (hs : sortOf p = none) : impF (pcs 59 R) F = none := by rw [imp_hit h, hs]
theorem imp_full {R p r : ByteArray} {F : List (ByteArray × Int)} {f : ByteArray × Int} (h : pcs 59 R = p :: pcs 59 r) (hs : sortOf p = some f) (hl : F.length = 32) : impF (pcs 59 R) F = none := by rw [imp_hit h, hs]; simp [hl]
theorem imp_step {R p r : ByteArray} {F : List (ByteArray × Int)} {f : ByteArray × Int} (h : pcs 59 R = p :: pcs 59 r) (hs : sortOf p = some f) (hl : F.length ≠ 32) : impF (pcs 59 R) F = impF (pcs 59 r) (F ++ [f]) := by rw [imp_hit h, hs]; simp [hl]
theorem impP_none {s : ByteArray} (h : impF (pcs 59 s) [] = none) : impP s = none := by unfold impP; rw [h]; rfl
theorem impP_some {s : ByteArray} {F : List (ByteArray × Int)} (h : impF (pcs 59 s) [] = some F) : impP s = if fontB F then some F else none := by unfold impP; rw [h]; rfl
theorem run_len_own {w : World} {base n : Nat} {e : TypeId} {v : Value} {l : List (ByteArray × Int)} {ty : TypeId} {W : World} (h : w.ownsRow base e 2 v n (flat l)) : (Builtin.len_ #[23] ty #[v]).run Tryz.prog W = .ok (.int .i64 (l.length : Int)) W := by
  obtain ⟨A, c, rfl⟩ := own_form_f h
  simp [Builtin.len_, run_underlying (P := Tryz.prog) Tryz.underlying23, go_sem]
def strL : Value → Nat | .string s => s.size | _ => 0
theorem codes_of {F : List (ByteArray × Int)} (h : ∀ r ∈ F, tySortF r.1 r.2 = true) : CodesOk F := fun k hk => by
  have := sort_bounds (h _ (List.getElem_mem hk))
  unfold maxLen; omega

set_option maxRecDepth 100000 in
set_option maxHeartbeats 2000000 in
theorem implParse_any (s : ByteArray) (w : World) (hs : s.size ≤ 1048576) (hy : LayP w) :
    Calls Tryz.prog 13 #[.string s] w fun e w' => SrtTo w w' e (impP s) := by
  have HY := Lib.hid hy; clear hy
  obtain ⟨i0, hi, hz0, hz1, hz2⟩ := info_parts infoSt
  have HI0 := Lib.hid hi; have HZ0 := Lib.hid hz0; have HZ1 := Lib.hid hz1; have HZ2 := Lib.hid hz2
  clear hi hz0 hz1 hz2
  go_enter Tryz.func13, Tryz.ntmps13
  go_wp2
  go_loopw [4, 5] (fun fv rv wr => ∃ (R : ByteArray) (F : List (ByteArray × Int)), rv = .string R ∧ R.size ≤ s.size ∧ impF (pcs 59 s) [] = impF (pcs 59 R) F ∧ F.length ≤ 32 ∧ (∀ r ∈ F, tySortF r.1 r.2 = true) ∧ wr.ownsRow w.heap.size 25 2 fv F.length (flat F) ∧ Below w.heap.size w wr) (fun _ rv _ => strL rv)
  case atStart => exact ⟨s, [], rfl, Nat.le_refl _, rfl, by simp, by simp, own_nil _ _ _ _, Below.refl _ _⟩
  case round =>
    obtain ⟨R, F, rfl, hRs, hinv, hF, hty, hown, hb⟩ := hrel
    have HIV := Lib.hid hinv; have HTY := Lib.hid hty; have HO := Lib.hid hown; have HB := Lib.hid hb
    have HRS := Lib.hid hRs; have HFL := Lib.hid hF
    clear hinv hty hown hb hRs hF
    have HYr := Lib.hid (HY.out.below HB.out)
    by_cases hR : R.size = 0
    · obtain rfl : R = ⟨#[]⟩ := ba_ext (List.eq_nil_of_length_eq_zero (by rw [Array.length_toList]; exact hR))
      have HP := Lib.hid (impP_some (HIV.out.trans (imp_end F)))
      obtain ⟨A, c, rfl⟩ := own_form_f HO.out
      have HSI := Lib.hid (own_in_f HO.out)
      go_wp2_with fail
      refine (implIsFont_any F A c 0 _ HSI.out (by have := HFL.out; omega) (codes_of HTY.out)).mono ?_
      rintro e w2 ⟨rfl, hb2⟩
      have HB2 : Hid (Below w.heap.size w w2) := Lib.hid (HB.out.trans (hb2.mono HB.out.size))
      have HO2 := Lib.hid (own_below HO.out hb2)
      clear hb2
      cases hg : fontB F
      · have HN : Hid (impP s = none) := Lib.hid (by rw [HP.out, hg]; rfl)
        clear hg
        go_wp2
        go_ret2
        exact SrtTo.no HN.out HB2.out
      · have HN : Hid (impP s = some F) := Lib.hid (by rw [HP.out, hg]; rfl)
        clear hg
        go_wp2
        go_ret2
        exact SrtTo.yes HN.out HB2.out HO2.out
    have hRe : R.toList.isEmpty = false := by
      cases h : R.toList with
      | nil => exact absurd (by rw [Lib.toList_data] at h; have := Lib.size_eq R; rw [h] at this; simpa using this) hR
      | cons _ _ => rfl
    have HCUT : Hid (∀ W : World, MaxL W → Calls Tryz.prog 39 #[.string R, .string ⟨#[59]⟩] W fun e w' => CutTo 59 R e ∧ Below W.heap.size W w') := Lib.hid (fun W h => cut_any 59 R W (by have := HRS.out; omega) h)
    have HPS : Hid (∀ (p : ByteArray) (W : World), p.size ≤ 1048576 → LayP W → Calls Tryz.prog 40 #[.string p] W fun e w' => SortTo p W w' e) := Lib.hid (fun p W h hl => parseSort_any p W h hl.1 hl.2.1 hl.2.2.1)
    go_wp2_with fail
    refine (HCUT.out _ HYr.out.2.2.2).mono ?_
    rintro e w2 ⟨hcut, hb2⟩
    have HB2 : Hid (Below w.heap.size w w2) := Lib.hid (HB.out.trans (hb2.mono HB.out.size))
    have HO2 := Lib.hid (own_below HO.out hb2)
    have HY2 := Lib.hid (HYr.out.below hb2)
    clear hb2 HB HO HYr HCUT
    rcases hcut with ⟨hm, rfl⟩ | ⟨p, r, hh, hsz, rfl⟩
    · have HN : Hid (impP s = none) := Lib.hid (impP_none (HIV.out.trans (imp_miss hm hR)))
      clear hm
      go_wp2_with fail
      refine (HPS.out R _ (by have := HRS.out; omega) HY2.out).mono ?_
      rintro e w3 ⟨f, ok, rfl, hso, hb3⟩
      have HB3 : Hid (Below w.heap.size w w3) := Lib.hid (HB2.out.trans (hb3.mono HB2.out.size))
      clear hb3 hso
      go_wp2
      go_ret2
      exact SrtTo.no HN.out (HB3.out.alloc HB3.out.size _)
    · have HH := Lib.hid hh; clear hh
      have HSZ := Lib.hid hsz; clear hsz
      go_wp2_with fail
      refine (HPS.out p _ (by have := HRS.out; have := HSZ.out; omega) HY2.out).mono ?_
      rintro e w3 ⟨f, ok, rfl, hso, hb3⟩
      have HB3 : Hid (Below w.heap.size w w3) := Lib.hid (HB2.out.trans (hb3.mono HB2.out.size))
      have HO3 := Lib.hid (own_below HO2.out hb3)
      clear hb3 HB2 HO2 HY2
      rcases hso with ⟨rfl, hso⟩ | ⟨rfl, hso⟩
      rotate_left
      · have HN : Hid (impP s = none) := Lib.hid (impP_none (HIV.out.trans (imp_nosort HH.out hso)))
        clear hso
        go_wp2
        go_ret2
        exact SrtTo.no HN.out (HB3.out.alloc HB3.out.size _)
      obtain ⟨c, z⟩ := f
      have HBb : Hid (Below w.heap.size w (w3.alloc (.cells #[.string c, .int .i64 z] 25))) := Lib.hid (HB3.out.alloc HB3.out.size _)
      have HTF : Hid (tySortF c z = true) := Lib.hid (piece_sort hso).2
      have hlen := fun ty W => run_len_own (ty := ty) (W := W) HO3.out
      by_cases h32 : F.length = 32
      · have HN : Hid (impP s = none) := Lib.hid (impP_none (HIV.out.trans (imp_full HH.out hso h32)))
        clear hso
        have h32' : (F.length : Int) = 32 := by omega
        have h32b : ((F.length : Int) == 32) = true := by simp [h32']
        clear h32
        go_wp2
        go_ret2
        exact SrtTo.no HN.out HBb.out
      have HST := Lib.hid (HIV.out.trans (imp_step HH.out hso h32))
      have HSN := Lib.hid (flat_snoc F (c, z))
      clear hso
      have h32' : ¬ (F.length : Int) = 32 := by omega
      have h32b : ((F.length : Int) == 32) = false := by simp; omega
      have hown := HO3.out
      have hsw := HB3.out.size
      have hmx : F.length + 1 ≤ maxLen := by have := HFL.out; unfold maxLen; omega
      have hfl := HFL.out
      go_wp2_with (at_builtin; go_loud (refine wpList_append_own _ rfl _ _ 23 rfl w.heap.size 25 i0 (.agg #[.string .empty, .int .i64 0]) 2 24 Tryz.underlying23 HI0.out HZ0.out HZ1.out HZ2.out rfl (by decide) _ _ _ rfl ((hown.alloc _).alloc _) ⟨w3.heap.size + 1, 0, none⟩ 1 1 [.string c, .int .i64 z] rfl rfl (pair_new _ (heap_two w3 _ _)) (by simp [Value.oneCell']) hmx (by omega) (by simp; omega) ?_))
      intro v' w4 hown' hgrow _
      have HB4 : Hid (Below w.heap.size w w4) := Lib.hid (((HBb.out.alloc HBb.out.size _).grown hgrow (by have := HB3.out.size; simp; omega) (own_lt hown)))
      have HO4 : Hid (w4.ownsRow w.heap.size 25 2 v' (F ++ [(c, z)]).length (flat (F ++ [(c, z)]))) := Lib.hid (by rw [HSN.out, List.length_append]; exact hown')
      have HT4 : Hid (∀ r ∈ F ++ [(c, z)], tySortF r.1 r.2 = true) := Lib.hid (fun q hq => by
        rcases List.mem_append.1 hq with h | h
        · exact HTY.out q h
        · obtain rfl : q = (c, z) := by simpa using h
          exact HTF.out)
      have hl4 : (F ++ [(c, z)]).length ≤ 32 := by rw [List.length_append]; simp; omega
      have hrs : r.size ≤ s.size := by have := HSZ.out; have := HRS.out; omega
      have hlt : r.size < R.size := by have := HSZ.out; omega
      clear hown' hgrow hown HO3 hlen HSN
      generalize F ++ [(c, z)] = G at *
      go_wp2
      go_roundw
      case rel => exact ⟨r, G, rfl, hrs, HST.out, hl4, HT4.out, HO4.out, HB4.out⟩
      case measure => exact hlt
end Go.Proofs.YtiihhilhiknckaaGreatDoor.P
