/- Texts of one package, joined: OrdersLaw. -/
import Derived.Test.YtmlmnljbegcjcaaGreatC17
/- BathOrders: the walk. -/
namespace Go.Proofs.YtmlmnljbegcjcaaGreat
open Go.RowKit Go.Shelf
attribute [local irreducible] bitCells

set_option maxRecDepth 100000 in
set_option maxHeartbeats 8000000 in
theorem ordersLaw_any {A : Option Addr} {n c : Nat} {os : List Odr} {w : World} (h : IsOrders w A n c os) (x y : Int) :
    Calls Tryz.prog 3 #[.slice A n c, .int .i64 x, .int .i64 y] w fun e w' => e = .returned (.bool true) ∧ Ext w w' := by
  have h14 := great_any A n c w
  by_cases hg : 20 < n
  · rw [decide_eq_true hg] at h14
    have h15 := works_any w
    clear hg
    go_enter Tryz.func3, Tryz.ntmps3
    go_wp2_with fail
    refine h14.mono ?_
    rintro e w1 ⟨rfl, rfl⟩
    clear h14
    go_wp2_with fail
    refine h15.mono ?_
    rintro e w2 ⟨rfl, e2⟩
    have HE := Lib.hid e2
    clear h15 e2
    go_wp2
    go_ret
    exact ⟨rfl, HE.out⟩
  · rw [decide_eq_false hg] at h14
    have H := Lib.hid h
    clear hg h
    have hdl : (doesOf os y).length ≤ 9223372036854775807 := by
      unfold doesOf
      split
      · exact Nat.le_trans (numsTo_len _ _) (by decide)
      · simp
    obtain ⟨ba, hba⟩ : ∃ ba, birthsAns os x = ba := ⟨_, rfl⟩
    obtain ⟨da, hda⟩ : ∃ da, doesOf os y = da := ⟨_, rfl⟩
    obtain ⟨E, hE⟩ : ∃ E, ordersErr os = E := ⟨_, rfl⟩
    rw [hda] at hdl
    have HN := Lib.hid (And.intro hba (And.intro hda hE))
    have HDL := Lib.hid hdl
    clear hba hda hE hdl
    obtain ⟨⟨lo, hi⟩, er⟩ := ba
    have hq : ∀ w, (binOp .eql 26 (.agg #[.int .i64 lo, .int .i64 hi]) (.agg #[.int .i64 lo, .int .i64 hi])).run Tryz.prog w = .ok (.bool true) w := fun w => by rw [eqRange]; simp
    go_enter Tryz.func3, Tryz.ntmps3
    go_wp2_with fail
    refine h14.mono ?_
    rintro e w1 ⟨rfl, rfl⟩
    clear h14
    have h1 := births_any H.out x
    rw [HN.out.1] at h1
    go_wp2_with fail
    refine h1.mono ?_
    rintro e w2 ⟨rfl, e2⟩
    clear h1
    go_upto_region 4 with fail
    obtain ⟨p7, hp7⟩ : ∃ p7, w2.heap.size = p7 := ⟨_, rfl⟩
    obtain ⟨w3, hw3⟩ : ∃ w3, w2.alloc (.cells #[.int .i64 lo, .int .i64 hi] 26) = w3 := ⟨_, rfl⟩
    have e3 : Ext w2 w3 := by rw [← hw3]; exact ext_alloc _ _
    have R7 := Lib.hid (show w3.heap[p7]? = some (.cells #[.int .i64 lo, .int .i64 hi] 26 (0, 0)) from by rw [← hw3]; exact row_last _ _ _ hp7.symm)
    rw [hw3, hp7]
    have HX := Lib.hid (e2.trans e3)
    clear e2 hw3 hp7 e3
    have h1 := refBirths_any (H.out.ext HX.out) x
    rw [HN.out.1] at h1
    go_wp2_with fail
    refine h1.mono ?_
    rintro e w4 ⟨rfl, e4⟩
    clear h1
    go_upto_region 5 with fail
    obtain ⟨p9, hp9⟩ : ∃ p9, w4.heap.size = p9 := ⟨_, rfl⟩
    obtain ⟨w5, hw5⟩ : ∃ w5, w4.alloc (.cells #[.int .i64 lo, .int .i64 hi] 26) = w5 := ⟨_, rfl⟩
    have e5 : Ext w4 w5 := by rw [← hw5]; exact ext_alloc _ _
    have R9 := Lib.hid (show w5.heap[p9]? = some (.cells #[.int .i64 lo, .int .i64 hi] 26 (0, 0)) from by rw [← hw5]; exact row_last _ _ _ hp9.symm)
    rw [hw5, hp9]
    replace HX := Lib.hid (HX.out.trans (e4.trans e5))
    replace R7 := Lib.hid (row_ext R7.out (e4.trans e5))
    clear e4 hw5 hp9 e5
    have h1 := does18_any (H.out.ext HX.out) y
    rw [HN.out.2.1, HN.out.2.2] at h1
    go_wp2_with fail
    refine h1.mono ?_
    rintro e w6 ⟨e6, Ad, cd, rfl, hd, hdc, _⟩
    replace HX := Lib.hid (HX.out.trans e6)
    replace R7 := Lib.hid (row_ext R7.out e6)
    replace R9 := Lib.hid (row_ext R9.out e6)
    have HD := Lib.hid hd
    clear h1 e6 hd
    have h1 := refDoes_any (H.out.ext HX.out) y
    rw [HN.out.2.1, HN.out.2.2] at h1
    go_wp2_with fail
    refine h1.mono ?_
    rintro e w7 ⟨e7, Ag, cg, rfl, hd2, _, _⟩
    replace HX := Lib.hid (HX.out.trans e7)
    replace R7 := Lib.hid (row_ext R7.out e7)
    replace R9 := Lib.hid (row_ext R9.out e7)
    replace HD := Lib.hid (HD.out.ext e7)
    have HD2 := Lib.hid hd2
    clear h1 e7 hd2
    have h1 := checkOrders_any (H.out.ext HX.out)
    rw [HN.out.2.2] at h1
    go_wp2_with fail
    refine h1.mono ?_
    rintro e w8 ⟨rfl, e8⟩
    replace HX := Lib.hid (HX.out.trans e8)
    replace R7 := Lib.hid (row_ext R7.out e8)
    replace R9 := Lib.hid (row_ext R9.out e8)
    replace HD := Lib.hid (HD.out.ext e8)
    replace HD2 := Lib.hid (HD2.out.ext e8)
    clear h1 e8
    have h1 := refCheck_any (H.out.ext HX.out)
    rw [HN.out.2.2] at h1
    go_wp2_with fail
    refine h1.mono ?_
    rintro e w9 ⟨rfl, e9⟩
    replace HX := Lib.hid (HX.out.trans e9)
    replace R7 := Lib.hid (row_ext R7.out e9)
    replace R9 := Lib.hid (row_ext R9.out e9)
    replace HD := Lib.hid (HD.out.ext e9)
    replace HD2 := Lib.hid (HD2.out.ext e9)
    clear h1 e9
    have d0 : w9.cell? ⟨p7, 0, none⟩ = some (.int .i64 lo) := cell_of_row _ _ _ _ _ _ R7.out
    have d1 : w9.cell? ⟨p7, 1, none⟩ = some (.int .i64 hi) := cell_of_row _ _ _ _ _ _ R7.out
    have d2 : w9.cell? ⟨p9, 0, none⟩ = some (.int .i64 lo) := cell_of_row _ _ _ _ _ _ R9.out
    have d3 : w9.cell? ⟨p9, 1, none⟩ = some (.int .i64 hi) := cell_of_row _ _ _ _ _ _ R9.out
    have h1 := ints_any Ad Ag da.length cd da.length cg da da w9 rfl rfl HDL.out HDL.out HD.out HD2.out
    rw [decide_eq_true rfl] at h1
    go_wp2_with fail
    refine h1.mono ?_
    rintro e w10 ⟨rfl, e10⟩
    replace HX := Lib.hid (HX.out.trans (show Ext w9 w10 from e10))
    have h15 := works_any w10
    clear h1 e10 d0 d1 d2 d3
    go_wp2_with fail
    refine h15.mono ?_
    rintro e w11 ⟨rfl, e11⟩
    have HE := Lib.hid (HX.out.trans e11)
    clear h15 e11
    go_wp2
    go_ret
    exact ⟨rfl, HE.out⟩
end Go.Proofs.YtmlmnljbegcjcaaGreat
