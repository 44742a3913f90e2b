/- Texts of the package drop, joined: Grow. -/
import Derived.Test.YtckndnaohggmhaaC4
import Derived.RegionTactic
import Derived.ChangeAlike
import Derived.BigRegion
/- grow: one spot's size grows, all else stays. -/
namespace Go.Proofs.Ytckndnaohggmhaa
open Go.RowKit Go.Shelf

/-- w' is w, but for block g, which holds the row cs' now, and new blocks. -/
def Grew (w w' : World) (g : Nat) (cs' : Array Value) : Prop :=
  Below g w w' ∧ w'.heap[g]? = some (.cells cs' 84 (0, 0))

theorem row_setCell (w : World) (g o : Nat) (v : Value) (cs : Array Value) (t : TypeId) (fr : Nat × Nat) (h : w.heap[g]? = some (.cells cs t fr)) : (w.setCell ⟨g, o, none⟩ v).heap[g]? = some (.cells (cs.setIfInBounds o v) t fr) := by
  simp [World.setCell, Array.getElem?_modify, h]

theorem row_alloc (w : World) (g : Nat) (ob o : Obj) (h : w.heap[g]? = some ob) : (w.alloc o).heap[g]? = some ob := by
  have hl : g < w.heap.size := (Array.getElem?_eq_some_iff.1 h).1
  show (w.heap.push o)[g]? = _
  rw [Array.getElem?_push, if_neg (by omega), h]

theorem grew_of (g i : Nat) (l' h' : Int) (w : World) (cs : Array Value) (hr : w.heap[g]? = some (.cells cs 84 (0, 0))) (o : Obj) :
    Grew w (((w.setCell ⟨g, 3 + i * 2, none⟩ (.int .i64 l')).setCell ⟨g, 3 + i * 2 + 1, none⟩ (.int .i64 h')).alloc o).drew.drew g ((cs.setIfInBounds (3 + i * 2) (.int .i64 l')).setIfInBounds (3 + i * 2 + 1) (.int .i64 h')) := by
  have hg : g < w.heap.size := (Array.getElem?_eq_some_iff.1 hr).1
  refine ⟨(((((Below.refl g w).setCell (p := ⟨g, 3 + i * 2, none⟩) (Nat.le_refl _) _).setCell (p := ⟨g, 3 + i * 2 + 1, none⟩) (Nat.le_refl _) _).alloc (by simp; omega) _).drew).drew, ?_⟩
  exact row_alloc _ _ _ _ (row_setCell _ _ _ _ _ _ _ (row_setCell _ _ _ _ _ _ _ hr))

set_option maxHeartbeats 1000000 in
theorem grow_any (g i : Nat) (hi : i < 10) (l h dl dh : Int) (w : World) (cs : Array Value) (hr : w.heap[g]? = some (.cells cs 84 (0, 0))) (hl' : cs[3 + i * 2]? = some (.int .i64 l)) (hh' : cs[3 + i * 2 + 1]? = some (.int .i64 h))
    (bl : 0 ≤ l ∧ l ≤ 500000) (bh : 0 ≤ h ∧ h ≤ 500000) (bdl : 0 ≤ dl ∧ dl ≤ 500000) (bdh : 0 ≤ dh ∧ dh ≤ 500000) :
    Calls Try.prog 86 #[.pointer (some ⟨g, 0, none⟩), .int .i64 i, .agg #[.int .i64 dl, .int .i64 dh]] w fun e w' => e = .returned (.tuple #[]) ∧ Grew w w' g ((cs.setIfInBounds (3 + i * 2) (.int .i64 (l + dl))).setIfInBounds (3 + i * 2 + 1) (.int .i64 (h + dh))) := by
  have hiz : (i : Int) < 10 := by omega
  have hg : g < w.heap.size := (Array.getElem?_eq_some_iff.1 hr).1
  have hne : g ≠ w.heap.size := by omega
  have hl : w.cell? ⟨g, 3 + i * 2, none⟩ = some (.int .i64 l) := (cell_of_row w g _ _ _ _ hr).trans hl'
  have hh : w.cell? ⟨g, 3 + i * 2 + 1, none⟩ = some (.int .i64 h) := (cell_of_row w g _ _ _ _ hr).trans hh'
  have fl : w.frozen? ⟨g, 3 + i * 2, none⟩ = false := by simp [World.frozen?, hr]
  have fh : w.frozen? ⟨g, 3 + i * 2 + 1, none⟩ = false := by simp [World.frozen?, hr]
  have HR := Lib.hid hr
  clear hr hl' hh'
  go_enter Try.func86, Try.ntmps86
  go_wp2
  go_region
  go_wp2
  go_region
  go_end0
  exact ⟨rfl, grew_of g i (l + dl) (h + dh) w cs HR.out _⟩
end Go.Proofs.Ytckndnaohggmhaa
