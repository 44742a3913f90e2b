/- Texts of one package, joined: Rows2. -/
import Derived.Test.YtlaakmgdbhabfaaC7
import Derived.RangeFuncNested
import Derived.RangeFuncBound
import Derived.RangeFuncCalls
import Derived.RangeFuncLeaves
import Derived.RangeFuncFrom
import Derived.Shelf.Abstract
import Derived.Shelf.RegionOpen
import Derived.OwnWalkIn
import Derived.TacticsInMore
import Derived.LoopNIn
import Derived.LoopIn
import Derived.ChangeKeysEq
/- rows: the iterator over all rows that fit. -/
namespace Go.Proofs.Ytlaakmgdbhabfaa
open Go.RowKit Go.Shelf
attribute [local go_sem] Oper.semAt_some

/-- Whether any mark is had. -/
def nz (M : Nat → Bool) : Bool := (List.range 12).any M
/-- A row that fits, as cells. -/
def fitCells (k : Nat) (x : Int) (M : Nat → Bool) : Array Value := #[.int .i64 k, .int .i64 x] ++ bitCells M
theorem fitCells_size (k : Nat) (x : Int) (M : Nat → Bool) : (fitCells k x M).size = 14 := by simp [fitCells, bitCells_size]
theorem eqItems_bits (d : Nat) (M : Nat → Bool) (xs ys : Array Value) (w : World) (is : List Nat) (hx : ∀ j, j ∈ is → xs[j]? = some (.int .i64 (if M j = true then 1 else 0))) (hy : ∀ j, j ∈ is → ys[j]? = some (.int .i64 0)) :
    (Op.eqItems (d + 1) 3 (Try.prog.cellsOf 3) xs ys is).run Try.prog w = .ok (is.all fun j => !M j) w := by
  have hc : Try.prog.cellsOf 3 = 1 := by kernel_rfl
  have u3 := Try.underlying3
  have a3 := Try.isAgg3
  induction is with
  | nil => simp [Op.eqItems]
  | cons j is ih =>
    have h1 := hx j (by simp)
    have h2 := hy j (by simp)
    have ih' := ih (fun i hi => hx i (by simp [hi])) (fun i hi => hy i (by simp [hi]))
    have p1 : (part 3 xs (j * Try.prog.cellsOf 3)).run Try.prog w = .ok (.int .i64 (if M j = true then 1 else 0)) w := by
      rw [hc, Nat.mul_one]
      unfold part
      go_simp
    have p2 : (part 3 ys (j * Try.prog.cellsOf 3)).run Try.prog w = .ok (.int .i64 0) w := by
      rw [hc, Nat.mul_one]
      unfold part
      go_simp
    have p3 := run_equalIn_int w d 3 .i64 .i64 (if M j = true then 1 else 0) 0 u3
    simp only [Op.eqItems, Sem.run_bind, p1, p2, p3, Result.andThen_ok]
    cases hr : M j
    · simpa [hr] using ih'
    · simp [hr]
theorem nz_all (M : Nat → Bool) : nz M = !((List.range 12).all fun j => !M j) := by
  unfold nz
  rw [List.any_eq_not_all_not]
def bitV (M : Nat → Bool) (i : Nat) : Int := if M i = true then 1 else 0
theorem cells92 {M : Nat → Bool} {w : World} {g : Nat} (h : w.heap[g]? = some (.cells (bitCells M) 92 (0, 0))) (i : Nat) (hi : i < 12) : w.cell? ⟨g, i, none⟩ = some (.int .i64 (bitV M i)) := (cell_of_row _ _ _ _ _ _ h).trans (bitCells_get M i hi)
theorem litBits (M : Nat → Bool) : (#[.int .i64 (bitV M 0), .int .i64 (bitV M 1), .int .i64 (bitV M 2), .int .i64 (bitV M 3), .int .i64 (bitV M 4), .int .i64 (bitV M 5), .int .i64 (bitV M 6), .int .i64 (bitV M 7), .int .i64 (bitV M 8), .int .i64 (bitV M 9), .int .i64 (bitV M 10), .int .i64 (bitV M 11)] : Array Value) = bitCells M := by kernel_rfl
theorem litZero : (#[.int .i64 0, .int .i64 0, .int .i64 0, .int .i64 0, .int .i64 0, .int .i64 0, .int .i64 0, .int .i64 0, .int .i64 0, .int .i64 0, .int .i64 0, .int .i64 0] : Array Value) = bitCells noBits := by kernel_rfl
theorem litFit (k : Nat) (x : Int) (M : Nat → Bool) : fitCells k x M = (#[.int .i64 k, .int .i64 x, .int .i64 (bitV M 0), .int .i64 (bitV M 1), .int .i64 (bitV M 2), .int .i64 (bitV M 3), .int .i64 (bitV M 4), .int .i64 (bitV M 5), .int .i64 (bitV M 6), .int .i64 (bitV M 7), .int .i64 (bitV M 8), .int .i64 (bitV M 9), .int .i64 (bitV M 10), .int .i64 (bitV M 11)] : Array Value) := by kernel_rfl
theorem eq92 (M : Nat → Bool) (w : World) : (Op.equalIn 10000 92 (.agg #[.int .i64 (bitV M 0), .int .i64 (bitV M 1), .int .i64 (bitV M 2), .int .i64 (bitV M 3), .int .i64 (bitV M 4), .int .i64 (bitV M 5), .int .i64 (bitV M 6), .int .i64 (bitV M 7), .int .i64 (bitV M 8), .int .i64 (bitV M 9), .int .i64 (bitV M 10), .int .i64 (bitV M 11)]) (.agg #[.int .i64 0, .int .i64 0, .int .i64 0, .int .i64 0, .int .i64 0, .int .i64 0, .int .i64 0, .int .i64 0, .int .i64 0, .int .i64 0, .int .i64 0, .int .i64 0])).run Try.prog w = .ok (!nz M) w := by
  obtain ⟨i3, hi3, _⟩ := info_parts info3
  have u92 : Try.prog.underlying 92 = some (.array 12 3) := by kernel_rfl
  rw [litBits, litZero, show (10000 : Nat) = 9999 + 1 from rfl, run_equalIn_array w 9999 _ _ u92 hi3, show (9999 : Nat) = 9998 + 1 from rfl, eqItems_bits 9998 M]
  · simp [nz_all]
  · intro j hj
    exact bitCells_get M j (by simpa using hj)
  · intro j hj
    rw [bitCells_get noBits j (by simpa using hj)]
    rfl
/-- The rows that fit of the comb k whose first tooth is in the first i numbers of a mark; of all marks; of all combs. -/
def rowsIn (cs ms : List (Int × Int)) (k : Nat) (m : Int × Int) (i : Nat) : List (Nat × Int) := (List.range i).filterMap fun d : Nat => if nz (hadB cs ms k (m.1 + (d : Int))) = true then some (k, m.1 + (d : Int)) else none
def rowsUpto (cs ms : List (Int × Int)) (k j : Nat) : List (Nat × Int) := (List.range j).flatMap fun j' => rowsIn cs ms k (ms.getD j' (0, 0)) ((ms.getD j' (0, 0)).2 - (ms.getD j' (0, 0)).1 + 1).toNat
def fitsUpto (cs ms : List (Int × Int)) (k : Nat) : List (Nat × Int) := (List.range k).flatMap fun k' => rowsUpto cs ms k' ms.length
def fitsOf (cs ms : List (Int × Int)) : List (Nat × Int) := fitsUpto cs ms cs.length
theorem rowsIn_succ (cs ms : List (Int × Int)) (k : Nat) (m : Int × Int) (i : Nat) : rowsIn cs ms k m (i + 1) = rowsIn cs ms k m i ++ (if nz (hadB cs ms k (m.1 + i)) = true then [(k, m.1 + (i : Int))] else []) := by
  unfold rowsIn
  rw [List.range_succ, List.filterMap_append]
  congr 1
  by_cases h : nz (hadB cs ms k (m.1 + i)) = true <;> simp [h]
theorem rowsUpto_succ (cs ms : List (Int × Int)) (k j : Nat) : rowsUpto cs ms k (j + 1) = rowsUpto cs ms k j ++ rowsIn cs ms k (ms.getD j (0, 0)) ((ms.getD j (0, 0)).2 - (ms.getD j (0, 0)).1 + 1).toNat := by
  unfold rowsUpto
  rw [List.range_succ, List.flatMap_append]
  simp
theorem fitsUpto_succ (cs ms : List (Int × Int)) (k : Nat) : fitsUpto cs ms (k + 1) = fitsUpto cs ms k ++ rowsUpto cs ms k ms.length := by
  unfold fitsUpto
  rw [List.range_succ, List.flatMap_append]
  simp
theorem rowsIn_pre (cs ms : List (Int × Int)) (k : Nat) (m : Int × Int) {i i' : Nat} (h : i ≤ i') : rowsIn cs ms k m i <+: rowsIn cs ms k m i' := by
  obtain ⟨d, rfl⟩ := Nat.le.dest h
  induction d with
  | zero => exact List.prefix_refl _
  | succ d ih => rw [← Nat.add_assoc, rowsIn_succ]; exact (ih (by omega)).trans (List.prefix_append _ _)
theorem rowsUpto_pre (cs ms : List (Int × Int)) (k : Nat) {i i' : Nat} (h : i ≤ i') : rowsUpto cs ms k i <+: rowsUpto cs ms k i' := by
  obtain ⟨d, rfl⟩ := Nat.le.dest h
  induction d with
  | zero => exact List.prefix_refl _
  | succ d ih => rw [← Nat.add_assoc, rowsUpto_succ]; exact (ih (by omega)).trans (List.prefix_append _ _)
theorem fitsUpto_pre (cs ms : List (Int × Int)) {i i' : Nat} (h : i ≤ i') : fitsUpto cs ms i <+: fitsUpto cs ms i' := by
  obtain ⟨d, rfl⟩ := Nat.le.dest h
  induction d with
  | zero => exact List.prefix_refl _
  | succ d ih => rw [← Nat.add_assoc, fitsUpto_succ]; exact (ih (by omega)).trans (List.prefix_append _ _)
/-- What comes before the i-th number of the mark j of the comb k. -/
def rowsAt (cs ms : List (Int × Int)) (k j i : Nat) : List (Nat × Int) := fitsUpto cs ms k ++ (rowsUpto cs ms k j ++ rowsIn cs ms k (ms.getD j (0, 0)) i)
theorem rowsAt_pre {cs ms : List (Int × Int)} {k j i : Nat} (hk : k < cs.length) (hj : j < ms.length) (hi : i ≤ ((ms.getD j (0, 0)).2 - (ms.getD j (0, 0)).1 + 1).toNat) : rowsAt cs ms k j i <+: fitsOf cs ms := by
  refine List.IsPrefix.trans ?_ (fitsUpto_pre cs ms (show k + 1 ≤ cs.length from hk))
  rw [fitsUpto_succ]
  refine (List.prefix_append_right_inj _).2 (List.IsPrefix.trans ?_ (rowsUpto_pre cs ms k (show j + 1 ≤ ms.length from hj)))
  rw [rowsUpto_succ]
  exact (List.prefix_append_right_inj _).2 (rowsIn_pre cs ms k _ hi)

/-- What a round of the rows' loop may not turn: all that was there below n₀, and all variables but those that hold rows that fit. -/
def KeepsVars (n₀ : Nat) (W W' : World) : Prop := Below n₀ W W' ∧ ∀ (b : Nat) (cs : Array Value) (t : TypeId), W.heap[b]? = some (Obj.cells cs t (0, 0)) → t ≠ 94 → t ≠ 87 → W'.heap[b]? = some (Obj.cells cs t (0, 0))
theorem keepsVars_t {n₀ : Nat} {A B C : World} (h : KeepsVars n₀ A B) (k : KeepsVars n₀ B C) : KeepsVars n₀ A C := ⟨h.1.trans k.1, fun b cs t h1 h2 h3 => k.2 b cs t (h.2 b cs t h1 h2 h3) h2 h3⟩
theorem keepsVars_ext {n₀ : Nat} {A B : World} (h : Ext A B) (hn : n₀ ≤ A.heap.size) : KeepsVars n₀ A B := ⟨h.mono hn, fun _ _ _ h1 _ _ => row_ext h1 h⟩
end Go.Proofs.Ytlaakmgdbhabfaa
