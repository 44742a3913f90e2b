/- Texts of the package drop, joined: LawBath. -/
import Derived.Test.YtckndnaohggmhaaC10
import Derived.StillTail
import Derived.StillTailTactics
import Derived.StillTactics
import Derived.Deep.Cut
/- The example baths of the verifier's own Go text: rg, Spot, On, Bath, few. -/
namespace Go.Proofs.Ytckndnaohggmhaa
open Go.RowKit Go.Shelf

def exS : List (Int × Int) := [(20, 50), (50, 50), (80, 50)]
def exB : List (Int × Int × Int) := [(0, 100, 144), (1, 225, 400), (0, 200, 300), (2, 100, 100)]
def exC : List (Int × Int × Int) := [(0, 100, 144), (2, 100, 100)]

theorem results_row {fn : Func} {p : Tmp} (T : TypeId) (h : fn.results = #[.cell p T]) (tmps : Array Value) (w : World) (g : Nat) (cs : Array Value)
    (hp : tmps.getD p undef = .pointer (some ⟨g, 0, none⟩)) (hl : (loadVar T ⟨g, 0, none⟩).run Try.prog w = .ok (.agg cs) w) :
    (results fn tmps).run Try.prog w = .ok (.agg cs) w := by
  have hp' : tmps[p]?.getD undef = .pointer (some ⟨g, 0, none⟩) := by simpa using hp
  simp [results, h, hp', asAddr, hl]

set_option maxHeartbeats 400000 in
theorem rg_any (lo hi : Int) (w : World) : Calls Try.prog 57 #[.int .i64 lo, .int .i64 hi] w fun e w' => e = .returned (.agg #[.int .i64 lo, .int .i64 hi]) ∧ Below w.heap.size w w' := by
  go_enter Try.func57, Try.ntmps57
  go_wp2
  exact bodyPost_ret (v := .agg #[.int .i64 lo, .int .i64 hi]) (by simp [results, Try.f57, go_sem]) rfl ⟨rfl, (Below.refl _ w).alloc (Nat.le_refl _) _⟩

set_option maxHeartbeats 400000 in
theorem spot_any (x y : Int) (w : World) : Calls Try.prog 51 #[.int .i64 x, .int .i64 y] w fun e w' => e = .returned (.agg #[.int .i64 x, .int .i64 y]) ∧ Below w.heap.size w w' := by
  go_enter Try.func51, Try.ntmps51
  go_wp2
  exact bodyPost_ret (v := .agg #[.int .i64 x, .int .i64 y]) (by simp [results, Try.f51, go_sem]) rfl ⟨rfl, (Below.refl _ w).alloc (Nat.le_refl _) _⟩

set_option maxHeartbeats 400000 in
theorem on_any (s lo hi : Int) (w : World) : Calls Try.prog 49 #[.int .i64 s, .int .i64 lo, .int .i64 hi] w fun e w' => e = .returned (.agg #[.int .i64 s, .int .i64 lo, .int .i64 hi]) ∧ Below w.heap.size w w' := by
  go_enter Try.func49, Try.ntmps49
  go_wp2_with fail
  refine (rg_any _ _ _).mono ?_
  rintro e w1 ⟨rfl, hb⟩
  have hB : Below w.heap.size w w1 := bstep ((Below.refl _ w).alloc (Nat.le_refl _) _) (by simp) hb
  have hc : w1.heap[w.heap.size]? = _ := (hb.block w.heap.size (by simp)).trans (row_last w _ _ rfl)
  go_wp2_with (refine wpList_store_row rfl 62 (.tmp 6) (.tmp 11) rfl w.heap.size _ rfl rfl 62 _ hc (by kernel_rfl) rfl (by simp [Value.oneCell']) ?_)
  exact bodyPost_ret (v := .agg #[.int .i64 s, .int .i64 lo, .int .i64 hi]) (results_row 62 rfl _ _ w.heap.size _ rfl (run_loadVar_row (P := Try.prog) _ _ 62 62 _ (0, 0) _ (row_setRow _ _ _ _ _ _ hc) Try.underlying62 rfl (by kernel_rfl))) rfl ⟨rfl, below_setRow hB (Nat.le_refl _) _⟩

/-- What Bath and few answer: an example bath, of which nothing is older. -/
def ExPost (k : Nat) (ds : List (Int × Int × Int)) (w : World) (e : Ending) (w' : World) : Prop :=
  Below w.heap.size w w' ∧ ∃ g g', e = .returned (.agg #[.int .i64 100, .slice (some ⟨g, 0, none⟩) 3 3, .slice (some ⟨g', 0, none⟩) k k]) ∧ IsBath w' w'.heap.size (some ⟨g, 0, none⟩) 3 3 (some ⟨g', 0, none⟩) k k exS ds

theorem held_row {α : Type} {w : World} {B k : Nat} {enc : α → List Value} {xs : List α} {g : Nat} {cs : Array Value} {t : TypeId} (hg : w.heap[g]? = some (.cells cs t (0, 0))) (hB : g < B)
    (hc : ∀ (j : Nat) (x : α), xs[j]? = some x → ∀ (i : Nat) (v : Value), (enc x)[i]? = some v → cs[j * k + i]? = some v) : Held w B k enc (some ⟨g, 0, none⟩) xs :=
  .inr ⟨g, 0, rfl, hB, fun j x hj i v hi => by
    rw [Nat.zero_add]
    exact (cell_of_row _ _ _ _ _ _ hg).trans (hc j x hj i v hi)⟩

theorem exS_held {w : World} {B g : Nat} (hg : w.heap[g]? = some (.cells #[.int .i64 20, .int .i64 50, .int .i64 50, .int .i64 50, .int .i64 80, .int .i64 50] 74 (0, 0))) (hB : g < B) : Held w B 2 encS (some ⟨g, 0, none⟩) exS :=
  held_row hg hB fun j x hj i v hi => by
    match j, hj with
    | 0, hj => simp [exS] at hj; subst hj; match i, hi with
      | 0, hi => simpa [encS] using hi
      | 1, hi => simpa [encS] using hi
    | 1, hj => simp [exS] at hj; subst hj; match i, hi with
      | 0, hi => simpa [encS] using hi
      | 1, hi => simpa [encS] using hi
    | 2, hj => simp [exS] at hj; subst hj; match i, hi with
      | 0, hi => simpa [encS] using hi
      | 1, hi => simpa [encS] using hi

theorem exB_held {w : World} {B g : Nat} (hg : w.heap[g]? = some (.cells #[.int .i64 0, .int .i64 100, .int .i64 144, .int .i64 1, .int .i64 225, .int .i64 400, .int .i64 0, .int .i64 200, .int .i64 300, .int .i64 2, .int .i64 100, .int .i64 100] 62 (0, 0))) (hB : g < B) : Held w B 3 encD (some ⟨g, 0, none⟩) exB :=
  held_row hg hB fun j x hj i v hi => by
    match j, hj with
    | 0, hj => simp [exB] at hj; subst hj; match i, hi with
      | 0, hi => simpa [encD] using hi
      | 1, hi => simpa [encD] using hi
      | 2, hi => simpa [encD] using hi
    | 1, hj => simp [exB] at hj; subst hj; match i, hi with
      | 0, hi => simpa [encD] using hi
      | 1, hi => simpa [encD] using hi
      | 2, hi => simpa [encD] using hi
    | 2, hj => simp [exB] at hj; subst hj; match i, hi with
      | 0, hi => simpa [encD] using hi
      | 1, hi => simpa [encD] using hi
      | 2, hi => simpa [encD] using hi
    | 3, hj => simp [exB] at hj; subst hj; match i, hi with
      | 0, hi => simpa [encD] using hi
      | 1, hi => simpa [encD] using hi
      | 2, hi => simpa [encD] using hi
theorem exC_held {w : World} {B g : Nat} (hg : w.heap[g]? = some (.cells #[.int .i64 0, .int .i64 100, .int .i64 144, .int .i64 2, .int .i64 100, .int .i64 100] 62 (0, 0))) (hB : g < B) : Held w B 3 encD (some ⟨g, 0, none⟩) exC :=
  held_row hg hB fun j x hj i v hi => by
    match j, hj with
    | 0, hj => simp [exC] at hj; subst hj; match i, hi with
      | 0, hi => simpa [encD] using hi
      | 1, hi => simpa [encD] using hi
      | 2, hi => simpa [encD] using hi
    | 1, hj => simp [exC] at hj; subst hj; match i, hi with
      | 0, hi => simpa [encD] using hi
      | 1, hi => simpa [encD] using hi
      | 2, hi => simpa [encD] using hi

set_option maxHeartbeats 1000000 in
theorem bath_any (w : World) : Calls Try.prog 55 #[] w (ExPost 4 exB w) := by
  go_enter Try.func55, Try.ntmps55
  go_wp2_with fail
  refine (spot_any _ _ _).mono ?_
  rintro e w1 ⟨rfl, hb1⟩
  go_wp2_with fail
  refine (spot_any _ _ _).mono ?_
  rintro e w2 ⟨rfl, hb2⟩
  go_wp2_with fail
  refine (spot_any _ _ _).mono ?_
  rintro e w3 ⟨rfl, hb3⟩
  go_wp2_with fail
  have hz3 : w.heap.size + 1 ≤ w3.heap.size := by have := hb1.size; have := hb2.size; have := hb3.size; simp at *; omega
  have hB3 : Below w.heap.size w w3 := (((Below.refl _ w).alloc (Nat.le_refl _) _).trans (hb1.mono (by simp))).trans ((hb2.mono (by have := hb1.size; simp at *; omega)).trans (hb3.mono (by have := hb1.size; have := hb2.size; simp at *; omega)))
  have hr3 : w3.heap[w.heap.size]? = _ := (hb3.block w.heap.size (by have := hb1.size; have := hb2.size; simp at *; omega)).trans ((hb2.block w.heap.size (by have := hb1.size; simp at *; omega)).trans ((hb1.block w.heap.size (by simp)).trans (row_last w _ _ rfl)))
  obtain ⟨W, hW⟩ : ∃ W, w3.alloc (.cells #[.int .i64 20, .int .i64 50, .int .i64 50, .int .i64 50, .int .i64 80, .int .i64 50] 74) = W := ⟨_, rfl⟩
  have hBW : Below w.heap.size w W := by rw [← hW]; exact hB3.alloc (by omega) _
  have hrW : W.heap[w.heap.size]? = some (.cells #[.int .i64 0, .slice none 0 0, .slice none 0 0] 25 (0, 0)) := by rw [← hW]; exact row_alloc _ _ _ _ hr3
  have hsW : W.heap[w3.heap.size]? = some (.cells #[.int .i64 20, .int .i64 50, .int .i64 50, .int .i64 50, .int .i64 80, .int .i64 50] 74 (0, 0)) := by rw [← hW]; exact row_last w3 _ _ rfl
  have hzW : W.heap.size = w3.heap.size + 1 := by rw [← hW]; simp
  rw [hW]
  clear hW hr3 hB3 hb1 hb2 hb3
  refine (on_any _ _ _ _).mono ?_
  rintro e w4 ⟨rfl, hb4⟩
  go_wp2_with fail
  refine (on_any _ _ _ _).mono ?_
  rintro e w5 ⟨rfl, hb5⟩
  go_wp2_with fail
  refine (on_any _ _ _ _).mono ?_
  rintro e w6 ⟨rfl, hb6⟩
  go_wp2_with fail
  refine (on_any _ _ _ _).mono ?_
  rintro e w7 ⟨rfl, hb7⟩
  have hz4 := hb4.size
  have hz5 := hb5.size
  have hz6 := hb6.size
  have hz7 := hb7.size
  have hbW : Below W.heap.size W w7 := hb4.trans ((hb5.mono hz4).trans ((hb6.mono (by omega)).trans (hb7.mono (by omega))))
  have hB7 : Below w.heap.size w w7 := hBW.trans (hbW.mono (by omega))
  have hr7 := (hbW.block w.heap.size (by omega)).trans hrW
  have hs7 := (hbW.block w3.heap.size (by omega)).trans hsW
  have hz8 := hbW.size
  clear hz4 hz5 hz6 hz7 hb4 hb5 hb6 hb7 hbW hrW hsW hBW
  have H7 := Lib.hid (fun o => row_alloc w7 _ _ o hr7)
  go_wp2_with (refine wpList_store_row rfl 25 (.tmp 0) (.tmp 10) rfl w.heap.size _ rfl rfl 25 _ (H7.out _) (by kernel_rfl) rfl (by simp [Value.oneCell']) ?_)
  refine bodyPost_ret (v := .agg #[.int .i64 100, .slice (some ⟨w3.heap.size, 0, none⟩) 3 3, .slice (some ⟨w7.heap.size, 0, none⟩) 4 4])
    (results_row 25 rfl _ _ w.heap.size _ rfl (run_loadVar_row (P := Try.prog) _ _ 25 25 _ (0, 0) _ (row_setRow _ _ _ _ _ _ (H7.out _)) Try.underlying25 rfl (by kernel_rfl))) rfl
    ⟨below_setRow (hB7.alloc hB7.size _) (Nat.le_refl _) _, _, _, rfl, ⟨rfl, rfl, by omega, by omega, Nat.le_refl _, Nat.le_refl _, exS_held ((setRow_other _ _ _ _ (by omega)).trans (row_alloc _ _ _ _ hs7)) (by simp; omega), exB_held ((setRow_other _ _ _ _ (by omega)).trans (row_last _ _ _ rfl)) (by simp)⟩⟩

set_option maxRecDepth 100000 in
set_option maxHeartbeats 1000000 in
theorem few_any (w : World) : Calls Try.prog 56 #[] w (ExPost 2 exC w) := by
  go_enter Try.func56, Try.ntmps56
  go_wp2_with fail
  refine (bath_any _).mono ?_
  rintro e w1 ⟨hb1, g, g', rfl, hI⟩
  have hD : g' < w1.heap.size ∧ w1.cell? ⟨g', 0, none⟩ = some (.int .i64 0) ∧ w1.cell? ⟨g', 1, none⟩ = some (.int .i64 100) ∧ w1.cell? ⟨g', 2, none⟩ = some (.int .i64 144) ∧
      w1.cell? ⟨g', 9, none⟩ = some (.int .i64 2) ∧ w1.cell? ⟨g', 10, none⟩ = some (.int .i64 100) ∧ w1.cell? ⟨g', 11, none⟩ = some (.int .i64 100) := by
    rcases hI.hds with h | ⟨b, off, hA, hlt, hc⟩
    · exact absurd h (by simp [exB])
    · cases hA
      exact ⟨hlt, hc 0 _ rfl 0 _ rfl, hc 0 _ rfl 1 _ rfl, hc 0 _ rfl 2 _ rfl, hc 3 _ rfl 0 _ rfl, hc 3 _ rfl 1 _ rfl, hc 3 _ rfl 2 _ rfl⟩
  obtain ⟨hg', d0, d1, d2, d3, d4, d5⟩ := hD
  have HS := Lib.hid hI.hss
  have hB1 : Below w.heap.size w w1 := bstep ((Below.refl _ w).alloc (Nat.le_refl _) _) (by simp) hb1
  have hz1 : w.heap.size + 1 ≤ w1.heap.size := by have := hb1.size; simpa using this
  have hr1 : w1.heap[w.heap.size]? = some (.cells #[.int .i64 0, .slice none 0 0, .slice none 0 0] 25 (0, 0)) := (hb1.block w.heap.size (by simp)).trans (row_last w _ _ rfl)
  clear hI hb1
  go_wp2_with fail
  have hA := (Below.refl w1.heap.size w1).alloc (Nat.le_refl _) (.cells #[.int .i64 100, .slice (some ⟨g, 0, none⟩) 3 3, .slice (some ⟨g', 0, none⟩) 4 4] 25)
  have e0 := (hA.cell (p := ⟨g', 0, none⟩) hg').trans d0
  have e1 := (hA.cell (p := ⟨g', 1, none⟩) hg').trans d1
  have e2 := (hA.cell (p := ⟨g', 2, none⟩) hg').trans d2
  have e3 := (hA.cell (p := ⟨g', 9, none⟩) hg').trans d3
  have e4 := (hA.cell (p := ⟨g', 10, none⟩) hg').trans d4
  have e5 := (hA.cell (p := ⟨g', 11, none⟩) hg').trans d5
  have hs0 : (w1.alloc (.cells #[.int .i64 100, .slice (some ⟨g, 0, none⟩) 3 3, .slice (some ⟨g', 0, none⟩) 4 4] 25)).heap[w1.heap.size]? = _ := row_last w1 _ _ rfl
  have hr2 := row_alloc w1 _ _ (.cells #[.int .i64 100, .slice (some ⟨g, 0, none⟩) 3 3, .slice (some ⟨g', 0, none⟩) 4 4] 25) hr1
  have hB2 := hB1.alloc hB1.size (.cells #[.int .i64 100, .slice (some ⟨g, 0, none⟩) 3 3, .slice (some ⟨g', 0, none⟩) 4 4] 25)
  have hz2 : (w1.alloc (.cells #[.int .i64 100, .slice (some ⟨g, 0, none⟩) 3 3, .slice (some ⟨g', 0, none⟩) 4 4] 25)).heap.size = w1.heap.size + 1 := by simp
  have hS2 := HS.out.kept hA (Nat.le_refl _)
  obtain ⟨W, hW⟩ : ∃ W, w1.alloc (.cells #[.int .i64 100, .slice (some ⟨g, 0, none⟩) 3 3, .slice (some ⟨g', 0, none⟩) 4 4] 25) = W := ⟨_, rfl⟩
  rw [hW] at e0 e1 e2 e3 e4 e5 hs0 hr2 hB2 hz2 hS2 ⊢
  have q0 := (cell_of_row _ _ 0 _ _ _ hs0)
  have q1 := (cell_of_row _ _ 1 _ _ _ hs0)
  have q2 := (cell_of_row _ _ 2 _ _ _ hs0)
  simp at q0 q1 q2
  have f2 : W.frozen? ⟨w1.heap.size, 2, none⟩ = false := by simp [World.frozen?, hs0]
  clear hW d0 d1 d2 d3 d4 d5 hA hr1 hB1 HS
  have hmx : Try.prog.follows .mixedOrders = true := by kernel_rfl
  refine wp_region_still_tail 8 hmx (by kernel_rfl) ?_
  clear hmx
  simp only [List.take_succ_cons, List.take_zero, List.drop_succ_cons, List.drop_zero]
  still_step
  still_step
  still_step
  still_step
  still_step
  still_step
  still_step
  still_step
  refine wpStill_nil ?_
  go_upto_region 3 with fail
  have hs1 : ((W.setCell ⟨w1.heap.size, 2, none⟩ (.slice (some ⟨w1.heap.size + 1, 0, none⟩) 2 2)).heap[w1.heap.size]?) = some (.cells #[.int .i64 100, .slice (some ⟨g, 0, none⟩) 3 3, .slice (some ⟨w1.heap.size + 1, 0, none⟩) 2 2] 25 (0, 0)) := by
    simp [World.setCell, Array.getElem?_modify, hs0]
  have hr3 := (heap_set_other W w1.heap.size 2 w.heap.size (.slice (some ⟨w1.heap.size + 1, 0, none⟩) 2 2) (by omega)).trans hr2
  have hB3 := hB2.setCell (p := ⟨w1.heap.size, 2, none⟩) (by show w.heap.size ≤ w1.heap.size; omega) (.slice (some ⟨w1.heap.size + 1, 0, none⟩) 2 2)
  have hz3 : (W.setCell ⟨w1.heap.size, 2, none⟩ (.slice (some ⟨w1.heap.size + 1, 0, none⟩) 2 2)).heap.size = w1.heap.size + 1 := by simp [World.setCell, hz2]
  have hS3 := hS2.kept ((Below.refl w1.heap.size W).setCell (p := ⟨w1.heap.size, 2, none⟩) (Nat.le_refl _) (.slice (some ⟨w1.heap.size + 1, 0, none⟩) 2 2)) (Nat.le_refl _)
  obtain ⟨V, hV⟩ : ∃ V, W.setCell ⟨w1.heap.size, 2, none⟩ (.slice (some ⟨w1.heap.size + 1, 0, none⟩) 2 2) = V := ⟨_, rfl⟩
  rw [hV] at hs1 hr3 hB3 hz3 hS3 ⊢
  clear hV hs0 hr2 hB2 hz2 hS2 q0 q1 q2 f2 e0 e1 e2 e3 e4 e5
  obtain ⟨X, hX, x1, x2, x3, x4, x5, x6⟩ : ∃ X, (V.alloc (.cells #[.int .i64 0, .int .i64 100, .int .i64 144, .int .i64 2, .int .i64 100, .int .i64 100] 62)).drew = X ∧
      X.heap[w1.heap.size]? = some (.cells #[.int .i64 100, .slice (some ⟨g, 0, none⟩) 3 3, .slice (some ⟨w1.heap.size + 1, 0, none⟩) 2 2] 25 (0, 0)) ∧
      X.heap[w.heap.size]? = some (.cells #[.int .i64 0, .slice none 0 0, .slice none 0 0] 25 (0, 0)) ∧
      X.heap[w1.heap.size + 1]? = some (.cells #[.int .i64 0, .int .i64 100, .int .i64 144, .int .i64 2, .int .i64 100, .int .i64 100] 62 (0, 0)) ∧
      Below w.heap.size w X ∧ X.heap.size = w1.heap.size + 2 ∧ Held X w1.heap.size 2 encS (some ⟨g, 0, none⟩) exS :=
    ⟨_, rfl, row_alloc V _ _ _ hs1, row_alloc V _ _ _ hr3, row_last V _ _ hz3.symm, (hB3.alloc hB3.size _).drew, by simp [World.drew, hz3], hS3.kept (((Below.refl w1.heap.size V).alloc (by omega) _).drew) (Nat.le_refl _)⟩
  rw [hX]
  have q0 := (cell_of_row _ _ 0 _ _ _ x1)
  have q1 := (cell_of_row _ _ 1 _ _ _ x1)
  have q2 := (cell_of_row _ _ 2 _ _ _ x1)
  simp at q0 q1 q2
  clear hX hs1 hr3 hB3 hz3 hS3
  go_wp2_with (refine wpList_store_row rfl 25 (.tmp 0) (.tmp 13) rfl w.heap.size _ rfl rfl 25 _ x2 (by kernel_rfl) rfl (by simp [Value.oneCell']) ?_)
  refine bodyPost_ret (v := .agg #[.int .i64 100, .slice (some ⟨g, 0, none⟩) 3 3, .slice (some ⟨w1.heap.size + 1, 0, none⟩) 2 2])
    (results_row 25 rfl _ _ w.heap.size _ rfl (run_loadVar_row (P := Try.prog) _ _ 25 25 _ (0, 0) _ (row_setRow _ _ _ _ _ _ x2) Try.underlying25 rfl (by kernel_rfl))) rfl
    ⟨below_setRow x4 (Nat.le_refl _) _, _, _, rfl, ⟨rfl, rfl, by omega, by omega, Nat.le_refl _, Nat.le_refl _, ?_, exC_held ((setRow_other _ _ _ _ (by omega)).trans x3) (by simp; omega)⟩⟩
  rcases x6 with h | ⟨b, off, hA, hlt, hc⟩
  · exact absurd h (by simp [exS])
  · cases hA
    have hne : g ≠ w.heap.size := fun e => by
      have h0 := hc 0 _ rfl 0 _ rfl
      rw [e] at h0
      have h1 := h0.symm.trans (cell_of_row _ _ 0 _ _ _ x2)
      simp at h1
    exact .inr ⟨g, 0, rfl, by simp; omega, fun j x hj i v hi => (cell_setRow_other _ _ _ _ hne).trans (hc j x hj i v hi)⟩
end Go.Proofs.Ytckndnaohggmhaa
