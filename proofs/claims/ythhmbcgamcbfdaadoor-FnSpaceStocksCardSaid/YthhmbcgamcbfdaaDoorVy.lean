/-
  The contract of spec.FillFromStock; impl's once more, its arguments in another order.
-/
import Derived.Test.YthhmbcgamcbfdaaDoorVx
import Derived.Test.YthhmbcgamcbfdaaDoorVv
namespace Go.Proofs.YthhmbcgamcbfdaaDoor
open Go.RowKit
set_option linter.unusedVariables false

theorem implFillFromStock2_any (l : List Int) (A : Option Addr) (c : Nat) (ss : List Int) (B : Option Addr) (d : Nat) (n : Int) (w : World) (hf : IntsIn w A l) (hlen : l.length ≤ 1048576) (hg : IntsIn w B ss) (hslen : ss.length ≤ 1048576) (hcap : l.length ≤ c) (hcap2 : ss.length ≤ d) :
    Calls Tryd.prog 6 #[.slice A l.length c, .slice B ss.length d, .int .i64 n] w fun e w' => ∃ v T, e = .returned (.tuple #[v, .bool (fillB l ss n)]) ∧ Below w.heap.size w w' ∧ w'.ownsRow w.heap.size T 1 v (fillL l ss n).length (intsZ (fillL l ss n)) :=
  implFillFromStock_any l A c ss B d n w hf hlen hcap hg hslen hcap2

set_option maxRecDepth 100000 in
theorem specFillFromStock_any (l : List Int) (A : Option Addr) (c : Nat) (ss : List Int) (B : Option Addr) (d : Nat) (n : Int) (w : World) (hf : IntsIn w A l) (hlen : l.length ≤ 1048576) (hg : IntsIn w B ss) (hslen : ss.length ≤ 1048576) (hcap : l.length ≤ c) (hcap2 : ss.length ≤ d) :
    Calls Tryd.prog 7 #[.slice A l.length c, .slice B ss.length d, .int .i64 n] w fun e w' => ∃ v T, e = .returned (.tuple #[v, .bool (fillB l ss n)]) ∧ Below w.heap.size w w' ∧ w'.ownsRow w.heap.size T 1 v (fillL l ss n).length (intsZ (fillL l ss n)) := by
  have HF := Lib.hid hf; have HG := Lib.hid hg; clear hf hg
  cases ha : wAsk l n
  · have HB : Hid (fillB l ss n = false) := Lib.hid (by unfold fillB fillAsk; rw [ha]; rfl)
    have HV := Lib.hid (fillL_no HB.out)
    have HA := Lib.hid ha
    clear ha
    go_enter Tryd.func7, Tryd.ntmps7
    go_wp2_with fail
    refine (wsAsked_any l A c n _ HF.out hlen).mono ?_
    rintro e w' ⟨rfl, rfl⟩
    rw [HA.out]
    go_wp2
    go_ret2
    exact ⟨_, 3, by rw [HB.out]; rfl, Below.refl _ _, by rw [HV.out]; exact own_nil _ _ _ _⟩
  · have HA := Lib.hid ha
    cases hc : cntB l ss
    · have HB : Hid (fillB l ss n = false) := Lib.hid (by unfold fillB fillAsk; rw [ha, hc]; rfl)
      have HV := Lib.hid (fillL_no HB.out)
      have HC := Lib.hid hc
      clear ha hc
      go_enter Tryd.func7, Tryd.ntmps7
      go_wp2_with fail
      refine (wsAsked_any l A c n _ HF.out hlen).mono ?_
      rintro e w' ⟨rfl, rfl⟩
      rw [HA.out]
      go_wp2_with fail
      refine (wsCounts_any l A c ss B d _ HG.out hlen hslen).mono ?_
      rintro e w' ⟨rfl, rfl⟩
      rw [HC.out]
      go_wp2
      go_ret2
      exact ⟨_, 3, by rw [HB.out]; rfl, Below.refl _ _, by rw [HV.out]; exact own_nil _ _ _ _⟩
    · have hask : fillAsk l ss n = true := by unfold fillAsk; rw [ha, hc]; rfl
      obtain ⟨⟨hgd, h0, h4⟩, hsl, hs4⟩ := fillAsk_iff.1 hask
      obtain ⟨N, rfl⟩ : ∃ N : Nat, n = (N : Int) := ⟨n.toNat, by omega⟩
      have hN4 : N ≤ 400 := by omega
      have HB : Hid (fillB l ss (N : Int) = stB l ss l.length (N : Int)) := Lib.hid (by unfold fillB; rw [hask]; rfl)
      have HV : Hid (fillL l ss (N : Int) = stkL l ss N) := Lib.hid (by unfold fillL stkL; rw [HB.out])
      have HC := Lib.hid hc
      have hl1 := hgd.one
      obtain ⟨b, off, rfl, hbl, hkc⟩ := HF.out (by omega)
      obtain ⟨b', off', rfl, hbl', hsc⟩ := HG.out (by omega)
      have HST := Lib.hid (fun w' h1 h2 => wsStock_any l b off c ss b' off' d N w' h1 h2 hgd hsl hs4 hN4)
      clear ha hc hask hgd hsl hs4 hkc hsc hl1
      go_enter Tryd.func7, Tryd.ntmps7
      go_wp2_with fail
      refine (wsAsked_any l _ c (N : Int) _ HF.out hlen).mono ?_
      rintro e w' ⟨rfl, rfl⟩
      rw [HA.out]
      go_wp2_with fail
      refine (wsCounts_any l _ c ss _ d _ HG.out hlen hslen).mono ?_
      rintro e w' ⟨rfl, rfl⟩
      rw [HC.out]
      go_wp2_with fail
      refine (HST.out _ HF.out HG.out).mono ?_
      intro e w1 hto
      obtain ⟨v, T, rfl, hb, ho⟩ := hto
      have HBW := Lib.hid hb; have HO := Lib.hid ho
      clear hb ho
      obtain ⟨fb, hfb⟩ : ∃ fb, fb = stB l ss l.length (N : Int) := ⟨_, rfl⟩
      rw [← hfb] at HB
      rw [← hfb]
      clear hfb
      go_wp2
      go_ret2
      exact ⟨_, T, by rw [HB.out]; rfl, HBW.out, by rw [HV.out]; exact HO.out⟩
end Go.Proofs.YthhmbcgamcbfdaaDoor
