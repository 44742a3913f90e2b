/- Texts of the package drop, joined: DropFirsts. -/
import Derived.Test.YtckndnaohggmhaaC15
import Derived.Test.YtckndnaohggmhaaC33
import Derived.Test.YtckndnaohggmhaaC34
/- DropFirsts: the walk. -/
namespace Go.Proofs.Ytckndnaohggmhaa
open Go.RowKit Go.Shelf

section
variable {w : World} {Wd : Int} {A : Option Addr} {n c : Nat} {A' : Option Addr} {n' c' : Nat} {ss : List (Int × Int)} {ds : List (Int × Int × Int)}

theorem firstAns_prog (one two : Int) (hb : IsBath w w.heap.size A n c A' n' c' ss ds) :
    Calls Try.prog 25 #[.agg #[.int .i64 Wd, .slice A n c, .slice A' n' c'], .int .i64 one, .int .i64 two] w fun e w' => e = .returned (.tuple #[.agg #[.int .i64 (firstAns Wd ss ds one two).1.1, .int .i64 (firstAns Wd ss ds one two).1.2], .int .i64 (firstAns Wd ss ds one two).2]) ∧ Ext w w' := by
  by_cases he : forErr Wd ss ds one two = 0
  · exact first_ok one two hb he
  · have ha : firstAns Wd ss ds one two = ((0, 0), forErr Wd ss ds one two) := by unfold firstAns; rw [if_neg he]
    rw [ha]
    exact first_err one two hb he

set_option maxRecDepth 100000 in
set_option maxHeartbeats 2000000 in
theorem dropFirsts_any (one two spot : Int) (hb : IsBath w w.heap.size A n c A' n' c' ss ds) :
    Calls Try.prog 5 #[.agg #[.int .i64 Wd, .slice A n c, .slice A' n' c'], .int .i64 one, .int .i64 two, .int .i64 spot] w fun e w' => e = .returned (.bool true) ∧ Ext w w' := by
  have hX0 : BathAt (w.alloc (.cells #[.int .i64 Wd, .slice A n c, .slice A' n' c'] 25)) w.heap.size Wd A n c A' n' c' ss ds := BathAt.new hb
  have hE0 : Ext w (w.alloc (.cells #[.int .i64 Wd, .slice A n c, .slice A' n' c'] 25)) := ext_alloc w _
  have cG := great_any Wd A A' n c n' c' (w.alloc (.cells #[.int .i64 Wd, .slice A n c, .slice A' n' c'] 25))
  cases hg : (decide (15 < n) || decide (50 < n')) with
  | true =>
    rw [hg] at cG
    clear hg hb hX0
    go_enter Try.func5, Try.ntmps5
    go_wp2_with fail
    refine cG.mono ?_
    rintro e w1 ⟨rfl, hb1⟩
    have hE1 := Lib.hid (hE0.trans hb1)
    clear hE0 hb1 cG
    go_wp2_with fail
    refine (works_any _).mono ?_
    rintro e w2 ⟨rfl, hb2⟩
    go_wp2
    go_ret
    exact ⟨rfl, hE1.out.trans hb2⟩
  | false =>
    rw [hg] at cG
    obtain ⟨lo, hi, er, hr⟩ : ∃ lo hi er, firstAns Wd ss ds one two = ((lo, hi), er) := ⟨_, _, _, rfl⟩
    obtain ⟨m, em, hm⟩ : ∃ m em, roomAns Wd ss ds spot = (m, em) := ⟨_, _, rfl⟩
    have c1 : ∀ W : World, IsBath W W.heap.size A n c A' n' c' ss ds → Calls Try.prog 25 #[.agg #[.int .i64 Wd, .slice A n c, .slice A' n' c'], .int .i64 one, .int .i64 two] W fun e w' => e = .returned (.tuple #[.agg #[.int .i64 lo, .int .i64 hi], .int .i64 er]) ∧ Ext W w' := fun W h => by
      have := firstAns_prog (Wd := Wd) one two h
      rw [hr] at this
      exact this
    have c2 : ∀ W : World, IsBath W W.heap.size A n c A' n' c' ss ds → Calls Try.prog 26 #[.agg #[.int .i64 Wd, .slice A n c, .slice A' n' c'], .int .i64 one, .int .i64 two] W fun e w' => e = .returned (.tuple #[.agg #[.int .i64 lo, .int .i64 hi], .int .i64 er]) ∧ Ext W w' := fun W h => by
      have := firstAns_ref (Wd := Wd) one two h
      rw [hr] at this
      exact this
    have c3 : ∀ W : World, IsBath W W.heap.size A n c A' n' c' ss ds → Calls Try.prog 27 #[.agg #[.int .i64 Wd, .slice A n c, .slice A' n' c'], .int .i64 spot] W fun e w' => e = .returned (.tuple #[.int .i64 m, .int .i64 em]) ∧ Ext W w' := fun W h => by
      have := room_prog (Wd := Wd) spot h
      rw [hm] at this
      exact this
    have c4 : ∀ W : World, IsBath W W.heap.size A n c A' n' c' ss ds → Calls Try.prog 28 #[.agg #[.int .i64 Wd, .slice A n c, .slice A' n' c'], .int .i64 spot] W fun e w' => e = .returned (.tuple #[.int .i64 m, .int .i64 em]) ∧ Ext W w' := fun W h => by
      have := room_ref (Wd := Wd) spot h
      rw [hm] at this
      exact this
    clear hg hb hr hm
    go_enter Try.func5, Try.ntmps5
    go_wp2_with fail
    refine cG.mono ?_
    rintro e w1 ⟨rfl, hb1⟩
    have x_p := hX0.ext hb1
    have eW := hE0.trans hb1
    clear hE0 hb1 cG hX0
    obtain ⟨q0, q1, q2⟩ := x_p.cells
    go_wp2_with fail
    refine (c1 _ x_p.bath).mono ?_
    rintro e w2 ⟨rfl, eV⟩
    replace x_p := x_p.ext eV
    replace eW := eW.trans eV
    clear eV q0 q1 q2 c1
    go_upto_region 4 with fail
    obtain ⟨w3, hW, r_9, eV⟩ : ∃ W, w2.alloc (.cells #[.int .i64 lo, .int .i64 hi] 29) = W ∧ W.heap[w2.heap.size]? = some (.cells #[.int .i64 lo, .int .i64 hi] 29 (0, 0)) ∧ Ext w2 W := ⟨_, rfl, row_last _ _ _ rfl, ext_alloc _ _⟩
    rw [hW]
    replace x_p := x_p.ext eV
    replace eW := eW.trans eV
    clear hW eV
    generalize w2.heap.size = p9 at r_9 ⊢
    obtain ⟨q0, q1, q2⟩ := x_p.cells
    go_wp2_with fail
    refine (c2 _ x_p.bath).mono ?_
    rintro e w4 ⟨rfl, eV⟩
    replace x_p := x_p.ext eV
    replace eW := eW.trans eV
    replace r_9 := row_ext r_9 eV
    clear eV q0 q1 q2 c2
    go_upto_region 5 with fail
    obtain ⟨w5, hW, r_11, eV⟩ : ∃ W, w4.alloc (.cells #[.int .i64 lo, .int .i64 hi] 29) = W ∧ W.heap[w4.heap.size]? = some (.cells #[.int .i64 lo, .int .i64 hi] 29 (0, 0)) ∧ Ext w4 W := ⟨_, rfl, row_last _ _ _ rfl, ext_alloc _ _⟩
    rw [hW]
    replace x_p := x_p.ext eV
    replace eW := eW.trans eV
    replace r_9 := row_ext r_9 eV
    clear hW eV
    generalize w4.heap.size = p11 at r_11 ⊢
    obtain ⟨q0, q1, q2⟩ := x_p.cells
    go_wp2_with fail
    refine (c3 _ x_p.bath).mono ?_
    rintro e w6 ⟨rfl, eV⟩
    replace x_p := x_p.ext eV
    replace eW := eW.trans eV
    replace r_9 := row_ext r_9 eV
    replace r_11 := row_ext r_11 eV
    clear eV q0 q1 q2 c3
    obtain ⟨q0, q1, q2⟩ := x_p.cells
    go_wp2_with fail
    refine (c4 _ x_p.bath).mono ?_
    rintro e w7 ⟨rfl, eV⟩
    replace x_p := x_p.ext eV
    replace eW := eW.trans eV
    replace r_9 := row_ext r_9 eV
    replace r_11 := row_ext r_11 eV
    clear eV q0 q1 q2 c4
    have a0 := cell_of_row _ _ 0 _ _ _ r_9
    have a1 := cell_of_row _ _ 1 _ _ _ r_9
    have b0 := cell_of_row _ _ 0 _ _ _ r_11
    have b1 := cell_of_row _ _ 1 _ _ _ r_11
    simp at a0 a1 b0 b1
    have HW := Lib.hid eW
    clear eW x_p r_9 r_11
    go_wp2_with fail
    refine (works_any _).mono ?_
    rintro e w8 ⟨rfl, eV⟩
    go_wp2
    go_ret
    exact ⟨rfl, HW.out.trans eV⟩
end
end Go.Proofs.Ytckndnaohggmhaa
