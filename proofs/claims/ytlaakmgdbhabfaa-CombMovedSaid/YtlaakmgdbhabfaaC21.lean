/- Texts of one package, joined: BestCmp. -/
import Derived.Test.YtlaakmgdbhabfaaC20
import Derived.StillTailTactics
import Derived.Lib.Small
import Derived.Sort.Grow
/- Best's comparison: cmp.Compare, cmp.Or, and the function literal. -/
namespace Go.Proofs.Ytlaakmgdbhabfaa
open Go.RowKit Go.Shelf Go.Sort
attribute [local irreducible] bitCells fitCells Z94 fitOf

theorem nan102 (x : Int) (w : World) : Calls Try.prog 102 #[.int .i64 x] w fun e w' => e = .returned (.bool false) ∧ w' = w := by
  go_enter Try.func102, Try.ntmps102
  go_wp2
  go_ret
  exact ⟨by simp, rfl⟩
theorem nan103 (x : Int) (w : World) : Calls Try.prog 103 #[.int .i64 x] w fun e w' => e = .returned (.bool false) ∧ w' = w := by
  go_enter Try.func103, Try.ntmps103
  go_wp2
  go_ret
  exact ⟨by simp, rfl⟩
theorem compare79 (x y : Int) (w : World) : Calls Try.prog 79 #[.int .i64 x, .int .i64 y] w fun e w' => e = .returned (.int .i64 (Lib.compareInt x y)) ∧ w' = w := by
  have h1 := nan102 x w
  have h2 := nan102 y w
  obtain ⟨r, hr⟩ : ∃ r, Lib.compareInt x y = r := ⟨_, rfl⟩
  rw [hr]
  unfold Lib.compareInt at hr
  have HR := Lib.hid hr
  clear hr
  go_enter Try.func79, Try.ntmps79
  go_wp2_with (fail)
  refine h1.mono ?_
  rintro e w' ⟨rfl, rfl⟩
  go_wp2_with (fail)
  refine h2.mono ?_
  rintro e w' ⟨rfl, rfl⟩
  clear h1 h2
  have hr := HR.out
  by_cases hlt : x < y
  · rw [if_pos hlt] at hr
    subst hr
    go_wp2
    go_ret
    exact ⟨rfl, rfl⟩
  · rw [if_neg hlt] at hr
    by_cases hgt : x > y
    · rw [if_pos hgt] at hr
      subst hr
      go_wp2
      go_ret
      exact ⟨rfl, rfl⟩
    · rw [if_neg hgt] at hr
      subst hr
      go_wp2
      go_ret
      exact ⟨rfl, rfl⟩
theorem compare80 (x y : Int) (w : World) : Calls Try.prog 80 #[.int .i64 x, .int .i64 y] w fun e w' => e = .returned (.int .i64 (Lib.compareInt x y)) ∧ w' = w := by
  have h1 := nan103 x w
  have h2 := nan103 y w
  obtain ⟨r, hr⟩ : ∃ r, Lib.compareInt x y = r := ⟨_, rfl⟩
  rw [hr]
  unfold Lib.compareInt at hr
  have HR := Lib.hid hr
  clear hr
  go_enter Try.func80, Try.ntmps80
  go_wp2_with (fail)
  refine h1.mono ?_
  rintro e w' ⟨rfl, rfl⟩
  go_wp2_with (fail)
  refine h2.mono ?_
  rintro e w' ⟨rfl, rfl⟩
  clear h1 h2
  have hr := HR.out
  by_cases hlt : x < y
  · rw [if_pos hlt] at hr
    subst hr
    go_wp2
    go_ret
    exact ⟨rfl, rfl⟩
  · rw [if_neg hlt] at hr
    by_cases hgt : x > y
    · rw [if_pos hgt] at hr
      subst hr
      go_wp2
      go_ret
      exact ⟨rfl, rfl⟩
    · rw [if_neg hgt] at hr
      subst hr
      go_wp2
      go_ret
      exact ⟨rfl, rfl⟩
set_option maxHeartbeats 1000000 in
theorem or_any (b o : Nat) (x y : Int) (w : World) (h0 : w.cell? ⟨b, o, none⟩ = some (.int .i64 x)) (h1 : w.cell? ⟨b, o + 1, none⟩ = some (.int .i64 y)) : Calls Try.prog 78 #[.slice (some ⟨b, o, none⟩) 2 2] w fun e w' => e = .returned (.int .i64 (if x = 0 then y else x)) ∧ w' = w := by
  obtain ⟨r, hr⟩ : ∃ r, (if x = 0 then y else x) = r := ⟨_, rfl⟩
  rw [hr]
  have HR := Lib.hid hr
  clear hr
  go_enter Try.func78, Try.ntmps78
  go_wp2_with (fail)
  refine wp_loop_rounds 3 ?_
  rw [rounds_succ]
  by_cases hx : x = 0
  · have hr := HR.out
    rw [if_pos hx] at hr
    subst hx hr
    go_wp2
    rw [rounds_succ]
    by_cases hy : y = 0
    · subst hy
      go_wp2
      rw [rounds_succ]
      go_wp2
      go_ret
      exact ⟨rfl, rfl⟩
    · have hz : (y != 0) = true := by simpa using hy
      go_wp2
      go_ret
      exact ⟨rfl, rfl⟩
  · have hz : (x != 0) = true := by simpa using hx
    have hr := HR.out
    rw [if_neg hx] at hr
    subst hr
    go_wp2
    go_ret
    exact ⟨rfl, rfl⟩
/-- How two rows compare. -/
def cmpRw (x y : Rw) : Int := if Lib.compareInt (x.1 : Int) (y.1 : Int) = 0 then Lib.compareInt x.2 y.2 else Lib.compareInt (x.1 : Int) (y.1 : Int)
set_option maxRecDepth 100000 in
set_option maxHeartbeats 1000000 in
theorem closure77 (x1 x2 y1 y2 : Int) (W : World) : Calls Try.prog 77 #[.agg #[.int .i64 x1, .int .i64 x2], .agg #[.int .i64 y1, .int .i64 y2]] W fun e w' =>
    e = .returned (.int .i64 (if Lib.compareInt x1 y1 = 0 then Lib.compareInt x2 y2 else Lib.compareInt x1 y1)) ∧ ∃ q os', w' = grow (W.drewN q) os' := by
  have c79 := fun w => compare79 x1 y1 w
  have c80 := fun w => compare80 x2 y2 w
  have c78 := fun b w h0 h1 => or_any b 0 (Lib.compareInt x1 y1) (Lib.compareInt x2 y2) w h0 h1
  obtain ⟨r1, hr1⟩ : ∃ r, Lib.compareInt x1 y1 = r := ⟨_, rfl⟩
  obtain ⟨r2, hr2⟩ : ∃ r, Lib.compareInt x2 y2 = r := ⟨_, rfl⟩
  rw [hr1] at c79 c78 ⊢
  rw [hr2] at c80 c78 ⊢
  obtain ⟨r, hr⟩ : ∃ r, (if r1 = 0 then r2 else r1) = r := ⟨_, rfl⟩
  simp only [hr] at c78
  rw [hr]
  have C79 := Lib.hid c79
  have C80 := Lib.hid c80
  have C78 := Lib.hid c78
  clear hr hr1 hr2 c79 c80 c78
  have hq1 : ((W.alloc (.cells #[.int .i64 x1, .int .i64 x2] 27)).alloc (.cells #[.int .i64 y1, .int .i64 y2] 27)).heap[W.heap.size]? = some (.cells #[.int .i64 x1, .int .i64 x2] 27 (0, 0)) := row_alloc _ _ _ _ (row_last _ _ _ rfl)
  have hq2 : ((W.alloc (.cells #[.int .i64 x1, .int .i64 x2] 27)).alloc (.cells #[.int .i64 y1, .int .i64 y2] 27)).heap[W.heap.size + 1]? = some (.cells #[.int .i64 y1, .int .i64 y2] 27 (0, 0)) := row_last _ _ _ (by simp)
  have hgr : (W.alloc (.cells #[.int .i64 x1, .int .i64 x2] 27)).alloc (.cells #[.int .i64 y1, .int .i64 y2] 27) = grow (W.drewN 0) (#[.cells #[.int .i64 x1, .int .i64 x2] 27] ++ #[.cells #[.int .i64 y1, .int .i64 y2] 27]) := by rw [alloc_eq_grow, alloc_eq_grow, grow_grow]; rfl
  have HGR := Lib.hid hgr
  clear hgr
  go_enter Try.func77, Try.ntmps77
  go_upto_region 1 with fail
  obtain ⟨w0, hw0⟩ : ∃ w0, (W.alloc (.cells #[.int .i64 x1, .int .i64 x2] 27)).alloc (.cells #[.int .i64 y1, .int .i64 y2] 27) = w0 := ⟨_, rfl⟩
  rw [hw0] at hq1 hq2 HGR ⊢
  obtain ⟨p, hp⟩ : ∃ p, W.heap.size = p := ⟨_, rfl⟩
  rw [hp] at hq1 hq2 ⊢
  have q0 : w0.cell? ⟨p, 0, none⟩ = some (.int .i64 x1) := cell_of_row _ _ _ _ _ _ hq1
  have q1 : w0.cell? ⟨p, 1, none⟩ = some (.int .i64 x2) := cell_of_row _ _ _ _ _ _ hq1
  have q2 : w0.cell? ⟨p + 1, 0, none⟩ = some (.int .i64 y1) := cell_of_row _ _ _ _ _ _ hq2
  have q3 : w0.cell? ⟨p + 1, 1, none⟩ = some (.int .i64 y2) := cell_of_row _ _ _ _ _ _ hq2
  clear hw0 hp hq1 hq2
  refine wp_region_still_tail 10 (by kernel_rfl) (by kernel_rfl) ?_
  simp only [List.take_succ_cons, List.take_zero, List.drop_succ_cons, List.drop_zero]
  still_step
  still_step
  still_step
  still_step
  still_call (C79.out _)
  still_step
  still_step
  still_step
  still_step
  still_call (C80.out _)
  refine wpStill_nil ?_
  change wpList _ _ _ _ _ w0.drew
  have hg1 : w0.drew = grow (W.drewN 1) (#[.cells #[.int .i64 x1, .int .i64 x2] 27] ++ #[.cells #[.int .i64 y1, .int .i64 y2] 27]) := by rw [HGR.out]; rfl
  obtain ⟨w1, hw1⟩ : ∃ w1, w0.drew = w1 := ⟨_, rfl⟩
  rw [hw1] at hg1 ⊢
  have HG1 := Lib.hid hg1
  clear hw1 hg1 HGR q0 q1 q2 q3
  go_wp2_with (fail)
  have hrr : (w1.alloc (.cells #[.int .i64 r1, .int .i64 r2] 3)).heap[w1.heap.size]? = some (.cells #[.int .i64 r1, .int .i64 r2] 3 (0, 0)) := row_last _ _ _ rfl
  refine (C78.out w1.heap.size _ (cell_of_row _ _ _ _ _ _ hrr) (cell_of_row _ _ _ _ _ _ hrr)).mono ?_
  rintro e w2 ⟨rfl, rfl⟩
  clear hrr
  go_wp2
  go_ret
  exact ⟨rfl, 1, _, by rw [HG1.out, alloc_eq_grow, grow_grow]⟩
end Go.Proofs.Ytlaakmgdbhabfaa
