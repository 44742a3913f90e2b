/- Texts of the package drop, joined: Lone. -/
import Derived.Test.YtckndnaohggmhaaC10
import Derived.ChangeKeysEq
/- lone: whether a place holds together with none. -/
namespace Go.Proofs.Ytckndnaohggmhaa
open Go.RowKit Go.Shelf
attribute [local irreducible] matCells

/-- No one of twelve is marked. -/
def noneB (r : Nat → Bool) : Bool := (List.range 12).all fun j => !r j

theorem info4 : (Try.prog.info? 4).map (fun i => (i.zero, i.size, i.bytes)) = some (some (.bool false), 1, 1) := by kernel_rfl

theorem eqItems_none (d : Nat) (r : Nat → Bool) (xs ys : Array Value) (w : World) (is : List Nat) (hx : ∀ j, j ∈ is → xs[j]? = some (.bool (r j))) (hy : ∀ j, j ∈ is → ys[j]? = some (.bool false)) :
    (Op.eqItems (d + 1) 4 (Try.prog.cellsOf 4) xs ys is).run Try.prog w = .ok (is.all fun j => !r j) w := by
  have hc : Try.prog.cellsOf 4 = 1 := by kernel_rfl
  have u4 := Try.underlying4
  have a4 := Try.isAgg4
  induction is with
  | nil => simp [Op.eqItems]
  | cons j is ih =>
    have h1 := hx j (by simp)
    have h2 := hy j (by simp)
    have ih' := ih (fun i hi => hx i (by simp [hi])) (fun i hi => hy i (by simp [hi]))
    have p1 : (part 4 xs (j * Try.prog.cellsOf 4)).run Try.prog w = .ok (.bool (r j)) w := by
      rw [hc, Nat.mul_one]
      unfold part
      go_simp
    have p2 : (part 4 ys (j * Try.prog.cellsOf 4)).run Try.prog w = .ok (.bool false) w := by
      rw [hc, Nat.mul_one]
      unfold part
      go_simp
    have p3 := run_equalIn_bool w d 4 (r j) false u4
    simp only [Op.eqItems, Sem.run_bind, p1, p2, p3, Result.andThen_ok]
    cases hr : r j
    · simpa [hr] using ih'
    · simp [hr]

theorem eqRow (r : Nat → Bool) (w : World) : (binOp .eql 116 (.agg #[.bool (r 0), .bool (r 1), .bool (r 2), .bool (r 3), .bool (r 4), .bool (r 5), .bool (r 6), .bool (r 7), .bool (r 8), .bool (r 9), .bool (r 10), .bool (r 11)]) (.agg #[.bool false, .bool false, .bool false, .bool false, .bool false, .bool false, .bool false, .bool false, .bool false, .bool false, .bool false, .bool false])).run Try.prog w = .ok (.bool (noneB r)) w := by
  obtain ⟨i4, hi4, _⟩ := info_parts info4
  have u116 : Try.prog.underlying 116 = some (.array 12 4) := by kernel_rfl
  rw [run_eql_struct, show (10000 : Nat) = 9999 + 1 from rfl, run_equalIn_array w 9999 _ _ u116 hi4, show (9999 : Nat) = 9998 + 1 from rfl, eqItems_none 9998 r]
  · rfl
  · intro j hj
    have : j < 12 := by simpa using hj
    match j, this with
    | 0, _ => rfl
    | 1, _ => rfl
    | 2, _ => rfl
    | 3, _ => rfl
    | 4, _ => rfl
    | 5, _ => rfl
    | 6, _ => rfl
    | 7, _ => rfl
    | 8, _ => rfl
    | 9, _ => rfl
    | 10, _ => rfl
    | 11, _ => rfl
  · intro j hj
    have : j < 12 := by simpa using hj
    match j, this with
    | 0, _ => rfl
    | 1, _ => rfl
    | 2, _ => rfl
    | 3, _ => rfl
    | 4, _ => rfl
    | 5, _ => rfl
    | 6, _ => rfl
    | 7, _ => rfl
    | 8, _ => rfl
    | 9, _ => rfl
    | 10, _ => rfl
    | 11, _ => rfl

set_option maxRecDepth 100000 in
set_option maxHeartbeats 2000000 in
theorem lone_any (b k : Nat) (hk : k < 12) (H : Nat → Nat → Bool) (w : World) (hr : w.heap[b]? = some (.cells (matCells H) 135 (0, 0))) :
    Calls Try.prog 117 #[.pointer (some ⟨b, 0, none⟩), .int .i64 ((k : Int) - 2)] w fun e w' => e = .returned (.bool (noneB (H k))) ∧ Below w.heap.size w w' := by
  have g : ∀ j, j < 12 → w.cell? ⟨b, k * 12 + j, none⟩ = some (.bool (H k j)) := fun j hj => (cell_of_row _ _ _ _ _ _ hr).trans (matCells_get H k j hk hj)
  have g0 := g 0 (by omega)
  have g1 := g 1 (by omega)
  have g2 := g 2 (by omega)
  have g3 := g 3 (by omega)
  have g4 := g 4 (by omega)
  have g5 := g 5 (by omega)
  have g6 := g 6 (by omega)
  have g7 := g 7 (by omega)
  have g8 := g 8 (by omega)
  have g9 := g 9 (by omega)
  have g10 := g 10 (by omega)
  have g11 := g 11 (by omega)
  rw [Nat.add_zero] at g0
  have hkz : (k : Int) < 12 := by omega
  have hq := eqRow (H k)
  clear g hr
  go_enter Try.func117, Try.ntmps117
  go_wp2
  go_quiet ((go_at_call 95; exact Calls.quiet_of_same (at_pl k _ (by omega))))
  go_wp2
  go_ret
  exact ⟨rfl, bdrewN (Below.refl _ _) _⟩
end Go.Proofs.Ytckndnaohggmhaa
