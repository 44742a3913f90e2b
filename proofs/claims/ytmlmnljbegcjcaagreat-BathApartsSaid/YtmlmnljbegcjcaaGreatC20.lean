/- Texts of one package, joined: ApartsLaw. -/
import Derived.Test.YtmlmnljbegcjcaaGreatC17
/- BathAparts: the walk. -/
namespace Go.Proofs.YtmlmnljbegcjcaaGreat
open Go.RowKit Go.Shelf
attribute [local irreducible] bitCells

set_option maxRecDepth 100000 in
set_option maxHeartbeats 8000000 in
theorem apartsLaw_any {A : Option Addr} {n c : Nat} {os : List Odr} {w : World} (h : IsOrders w A n c os) (A' : Option Addr) (n' c' : Nat) (xs : List Int) (hn' : n' = xs.length) (hm' : n' ≤ 9223372036854775807) (hh : Held w w.heap.size 1 encI A' xs) :
    Calls Tryz.prog 5 #[.slice A n c, .slice A' n' c'] w fun e w' => e = .returned (.bool true) ∧ Ext w w' := by
  have h14 := great_any A n c w
  by_cases hg : 20 < n
  · rw [decide_eq_true hg] at h14
    have h15 := works_any w
    clear hg
    go_enter Tryz.func5, Tryz.ntmps5
    go_wp2_with fail
    refine h14.mono ?_
    rintro e w1 ⟨rfl, rfl⟩
    clear h14
    go_wp2_with fail
    refine h15.mono ?_
    rintro e w2 ⟨rfl, e2⟩
    have HE := Lib.hid e2
    clear h15 e2
    go_wp2
    go_ret
    exact ⟨rfl, HE.out⟩
  · rw [decide_eq_false hg] at h14
    by_cases hg2 : 20 < n'
    · have h15 := works_any w
      have hgz : (20 : Int) < (n' : Int) := by omega
      clear hg hg2
      go_enter Tryz.func5, Tryz.ntmps5
      go_wp2_with fail
      refine h14.mono ?_
      rintro e w1 ⟨rfl, rfl⟩
      clear h14
      go_wp2_with fail
      refine h15.mono ?_
      rintro e w2 ⟨rfl, e2⟩
      have HE := Lib.hid e2
      clear h15 e2
      go_wp2
      go_ret
      exact ⟨rfl, HE.out⟩
    · have hgz : ¬ (20 : Int) < (n' : Int) := by omega
      have H := Lib.hid h
      have HH := Lib.hid hh
      have HM := Lib.hid (And.intro hn' (show n' ≤ 1000000 by omega))
      have hal : wholeErr os = 0 → (apartB os).length = (bestB os).length := apart_len
      have hai : wholeErr os = 0 → checkApartErr os (apartB os) = 0 := apart_is
      have han : wholeErr os ≠ 0 → (apartB os).length = 0 := fun h => by unfold apartB; rw [if_neg h]; rfl
      have hof : wholeErr os = 0 → (apartB os).length ≤ 1000000 := fun h => by
        rw [apart_len h]
        unfold bestB fewB
        rw [if_pos h]
        have := (orders_ok (whole_ok h).1).1
        exact Nat.le_trans (stab_len _ _) (by omega)
      clear hg hg2 h hh hn'
      obtain ⟨E, hE⟩ : ∃ E, wholeErr os = E := ⟨_, rfl⟩
      obtain ⟨ap, hap⟩ : ∃ ap, apartB os = ap := ⟨_, rfl⟩
      obtain ⟨bl, hbl⟩ : ∃ bl, (bestB os).length = bl := ⟨_, rfl⟩
      rw [hE] at hal hai han hof
      rw [hap] at hal hai han hof
      rw [hbl] at hal
      have HN := Lib.hid (And.intro hE (And.intro hap hbl))
      have HA := Lib.hid (And.intro hal (And.intro hai (And.intro han hof)))
      clear hE hap hbl hal hai han hof
      go_enter Tryz.func5, Tryz.ntmps5
      go_wp2_with fail
      refine h14.mono ?_
      rintro e w1 ⟨rfl, rfl⟩
      clear h14
      have h1 := apart_any H.out
      rw [HN.out.1, HN.out.2.1] at h1
      go_wp2_with fail
      refine h1.mono ?_
      rintro e w2 ⟨e2, Ay, cy, rfl, hy, _⟩
      have HX := Lib.hid e2
      have HY := Lib.hid hy
      clear h1 e2 hy
      have h1 := refBest_any (H.out.ext HX.out)
      rw [HN.out.1] at h1
      go_wp2_with fail
      refine h1.mono ?_
      rintro e w3 ⟨e3, Ab, cb, rfl, _, _⟩
      rw [HN.out.2.2]
      replace HX := Lib.hid (HX.out.trans e3)
      replace HY := Lib.hid (HY.out.ext e3)
      clear h1 e3
      obtain ⟨Z, hZ⟩ : ∃ Z, checkApartErr os xs = Z := ⟨_, rfl⟩
      have h1 := checkApart_any (H.out.ext HX.out) A' n' c' xs HM.out.1 hm' (HH.out.ext HX.out)
      rw [hZ] at h1
      have HZ := Lib.hid hZ
      clear hZ
      go_wp2_with fail
      refine h1.mono ?_
      rintro e w4 ⟨rfl, e4⟩
      replace HX := Lib.hid (HX.out.trans e4)
      replace HY := Lib.hid (HY.out.ext e4)
      clear h1 e4
      have h1 := refApart_any (H.out.ext HX.out) A' n' c' xs HM.out.1 HM.out.2 (HH.out.ext HX.out)
      rw [HZ.out] at h1
      go_wp2_with fail
      refine h1.mono ?_
      rintro e w5 ⟨rfl, e5⟩
      replace HX := Lib.hid (HX.out.trans e5)
      replace HY := Lib.hid (HY.out.ext e5)
      clear h1 e5
      by_cases he : E = 0
      · subst he
        have hal := HA.out.1 rfl
        have hai := HA.out.2.1 rfl
        have hof := HA.out.2.2.2 rfl
        subst hal
        have h1 := refApart_any (H.out.ext HX.out) Ay ap.length cy ap rfl hof HY.out
        rw [hai] at h1
        clear hai hof
        go_wp2_with fail
        refine h1.mono ?_
        rintro e w6 ⟨rfl, e6⟩
        replace HX := Lib.hid (HX.out.trans e6)
        have h15 := works_any w6
        clear h1 e6
        go_wp2_with fail
        refine h15.mono ?_
        rintro e w7 ⟨rfl, e7⟩
        have HE := Lib.hid (HX.out.trans e7)
        clear h15 e7
        go_wp2
        go_ret
        exact ⟨rfl, HE.out⟩
      · have heb : (E != 0) = true := by simp [he]
        have han := HA.out.2.2.1 he
        rw [han]
        have h15 := works_any w5
        clear han
        go_wp2_with fail
        refine h15.mono ?_
        rintro e w7 ⟨rfl, e7⟩
        have HE := Lib.hid (HX.out.trans e7)
        clear h15 e7
        go_wp2
        go_ret
        exact ⟨rfl, HE.out⟩
end Go.Proofs.YtmlmnljbegcjcaaGreat
