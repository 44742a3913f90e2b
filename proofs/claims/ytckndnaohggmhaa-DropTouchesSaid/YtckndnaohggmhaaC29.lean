/- Texts of the package drop, joined: DropTouches. -/
import Derived.Test.YtckndnaohggmhaaC15
import Derived.Test.YtckndnaohggmhaaC28
/- DropTouches: the walk. -/
namespace Go.Proofs.Ytckndnaohggmhaa
open Go.RowKit Go.Shelf

section
variable {w : World} {Wd : Int} {A : Option Addr} {n c : Nat} {A' : Option Addr} {n' c' : Nat} {ss : List (Int × Int)} {ds : List (Int × Int × Int)}

set_option maxRecDepth 100000 in
set_option maxHeartbeats 2000000 in
theorem dropTouches_any (one two : Int) (hb : IsBath w w.heap.size A n c A' n' c' ss ds) :
    Calls Try.prog 4 #[.agg #[.int .i64 Wd, .slice A n c, .slice A' n' c'], .int .i64 one, .int .i64 two] w fun e w' => e = .returned (.bool true) ∧ Ext w w' := by
  have hX0 : BathAt (w.alloc (.cells #[.int .i64 Wd, .slice A n c, .slice A' n' c'] 25)) w.heap.size Wd A n c A' n' c' ss ds := BathAt.new hb
  have hE0 : Ext w (w.alloc (.cells #[.int .i64 Wd, .slice A n c, .slice A' n' c'] 25)) := ext_alloc w _
  have cG := great_any Wd A A' n c n' c' (w.alloc (.cells #[.int .i64 Wd, .slice A n c, .slice A' n' c'] 25))
  cases hg : (decide (15 < n) || decide (50 < n')) with
  | true =>
    rw [hg] at cG
    clear hg hb hX0
    go_enter Try.func4, Try.ntmps4
    go_wp2_with fail
    refine cG.mono ?_
    rintro e w1 ⟨rfl, hb1⟩
    have hE1 := Lib.hid (hE0.trans hb1)
    clear hE0 hb1 cG
    go_wp2_with fail
    refine (works_any _).mono ?_
    rintro e w2 ⟨rfl, hb2⟩
    go_wp2
    go_ret
    exact ⟨rfl, hE1.out.trans hb2⟩
  | false =>
    rw [hg] at cG
    obtain ⟨k, e1, hk⟩ : ∃ k e1, touchAns Wd ss ds one two = (k, e1) := ⟨_, _, rfl⟩
    obtain ⟨m, e3, hm⟩ : ∃ m e3, besideAns Wd ss ds one two = (m, e3) := ⟨_, _, rfl⟩
    have c1 : ∀ W : World, IsBath W W.heap.size A n c A' n' c' ss ds → Calls Try.prog 21 #[.agg #[.int .i64 Wd, .slice A n c, .slice A' n' c'], .int .i64 one, .int .i64 two] W fun e w' => e = .returned (.tuple #[.int .i64 k, .int .i64 e1]) ∧ Ext W w' := fun W h => by
      have := touch_any (Wd := Wd) one two h
      rw [hk] at this
      exact this
    have c2 : ∀ W : World, IsBath W W.heap.size A n c A' n' c' ss ds → Calls Try.prog 22 #[.agg #[.int .i64 Wd, .slice A n c, .slice A' n' c'], .int .i64 one, .int .i64 two] W fun e w' => e = .returned (.tuple #[.int .i64 k, .int .i64 e1]) ∧ Ext W w' := fun W h => by
      have := touch_ref (Wd := Wd) one two h
      rw [hk] at this
      exact this
    have c3 : ∀ W : World, IsBath W W.heap.size A n c A' n' c' ss ds → Calls Try.prog 23 #[.agg #[.int .i64 Wd, .slice A n c, .slice A' n' c'], .int .i64 one, .int .i64 two] W fun e w' => e = .returned (.tuple #[.int .i64 m, .int .i64 e3]) ∧ Ext W w' := fun W h => by
      have := beside_any (Wd := Wd) one two h
      rw [hm] at this
      exact this
    have c4 : ∀ W : World, IsBath W W.heap.size A n c A' n' c' ss ds → Calls Try.prog 24 #[.agg #[.int .i64 Wd, .slice A n c, .slice A' n' c'], .int .i64 one, .int .i64 two] W fun e w' => e = .returned (.tuple #[.int .i64 m, .int .i64 e3]) ∧ Ext W w' := fun W h => by
      have := beside_ref (Wd := Wd) one two h
      rw [hm] at this
      exact this
    clear hg hb hk hm
    go_enter Try.func4, Try.ntmps4
    go_wp2_with fail
    refine cG.mono ?_
    rintro e w1 ⟨rfl, hb1⟩
    have x := hX0.ext hb1
    have eW := hE0.trans hb1
    clear hE0 hb1 cG hX0
    obtain ⟨q0, q1, q2⟩ := x.cells
    go_wp2_with fail
    refine (c1 _ x.bath).mono ?_
    rintro e v0 ⟨rfl, eV⟩
    replace x := x.ext eV
    replace eW := eW.trans eV
    clear eV q0 q1 q2 c1
    obtain ⟨q0, q1, q2⟩ := x.cells
    go_wp2_with fail
    refine (c2 _ x.bath).mono ?_
    rintro e v1 ⟨rfl, eV⟩
    replace x := x.ext eV
    replace eW := eW.trans eV
    clear eV q0 q1 q2 c2
    obtain ⟨q0, q1, q2⟩ := x.cells
    go_wp2_with fail
    refine (c3 _ x.bath).mono ?_
    rintro e v2 ⟨rfl, eV⟩
    replace x := x.ext eV
    replace eW := eW.trans eV
    clear eV q0 q1 q2 c3
    obtain ⟨q0, q1, q2⟩ := x.cells
    go_wp2_with fail
    refine (c4 _ x.bath).mono ?_
    rintro e v3 ⟨rfl, eV⟩
    replace x := x.ext eV
    replace eW := eW.trans eV
    clear eV q0 q1 q2 c4
    have HW := Lib.hid eW
    clear eW x
    go_wp2_with fail
    refine (works_any _).mono ?_
    rintro e w6 ⟨rfl, eV⟩
    go_wp2
    go_ret
    exact ⟨rfl, HW.out.trans eV⟩
end
end Go.Proofs.Ytckndnaohggmhaa
