/- Texts of one package, joined: BestCopy, RefRows. -/
import Derived.Test.YtlaakmgdbhabfaaC20
import Derived.Test.YtlaakmgdbhabfaaC21
import Derived.Laws.CopyOwn
import Derived.Shelf.GgSortFunc.InsertionK
/- Best: the copy of the rows. -/
namespace Go.Proofs.Ytlaakmgdbhabfaa
open Go.RowKit Go.Shelf Go.Sort
attribute [local irreducible] bitCells fitCells Z94 fitOf

theorem run_copy54 (w : World) (ty : TypeId) (g n c1 c2 : Nat) (sp : Option Addr) (cur : Array Value) (hg : w.heap[g]? = some (.cells cur 27 (0, 0))) (hcur : cur.size = n * 2) (cs : List Value) (hn : cs.length = n * 2)
    (hsrc : n = 0 ∨ ∃ ad, sp = some ad ∧ ∀ j v, cs[j]? = some v → w.cell? (ad.add j) = some v) (h1 : ∀ v ∈ cs, v.oneCell' = true) :
    (Builtin.copy_ #[54, 54] ty #[.slice (some ⟨g, 0, none⟩) n c1, .slice sp n c2]).run Try.prog w = .ok (goInt n) (w.setRow g cs.toArray) := by
  obtain ⟨i0, hi, _, hz1, _⟩ := info_parts info27c
  have hu : Try.prog.underlying 54 = some (.slice 27) := Try.underlying54
  rcases hsrc with rfl | ⟨ad, rfl, hsrc⟩
  · obtain rfl : cs = [] := List.eq_nil_of_length_eq_zero (by omega)
    obtain rfl : cur = #[] := Array.eq_empty_of_size_eq_zero (by omega)
    rw [setRow_self w g _ 27 (0, 0) hg]
    cases sp <;> simp [Builtin.copy_, run_underlying hu, Builtin.lenOf, Builtin.firstCells, sizeOf, typeInfo, hi, storeCells, loadCells, loadCellsFrom]
  · have hl := run_loadCells_list (P := Try.prog) w ad cs hsrc
    have hst := run_storeCells_at Try.prog g 0 27 cs 0 cur w hg (by omega) h1
    have he : (cur.toList.take (0 + 0) ++ cs ++ cur.toList.drop (0 + 0 + cs.length)).toArray = cs.toArray := by
      rw [List.drop_eq_nil_of_le (by simp; omega)]
      simp
    rw [he] at hst
    rw [hn] at hl
    simp [Builtin.copy_, run_underlying hu, Builtin.lenOf, Builtin.firstCells, sizeOf, typeInfo, hi, hz1, hl, hst]
section
variable {ops : Array Oper} {rest : List Oper} {o : Oper} {a : Act} {w : World} {Q : Exit → Act → World → Prop}
theorem wpList_copy54 (hgd : o.guard = none) (d s : Operand) (ho : o.op = .call { callee := .builtin .copy, args := #[d, s], argTypes := #[54, 54] }) (g n c1 c2 : Nat) (sp : Option Addr) (hd : a.eval d = .slice (some ⟨g, 0, none⟩) n c1) (hs : a.eval s = .slice sp n c2)
    (cur : Array Value) (hg : w.heap[g]? = some (.cells cur 27 (0, 0))) (hcur : cur.size = n * 2) (cs : List Value) (hn : cs.length = n * 2)
    (hsrc : n = 0 ∨ ∃ ad, sp = some ad ∧ ∀ j v, cs[j]? = some v → w.cell? (ad.add j) = some v) (h1 : ∀ v ∈ cs, v.oneCell' = true)
    (h : wpList Try.prog ops Q rest (a.put o.dst (goInt n)) (w.setRow g cs.toArray)) : wpList Try.prog ops Q (o :: rest) a w := by
  refine wpList_plain hgd fun K hK => ?_
  have hrun := run_copy54 w o.type g n c1 c2 sp cur hg hcur cs hn hsrc h1
  unfold Oper.wp
  simp [execOp, ho, resolve, invoke, builtin, hd, hs, hrun, Result.andThen]
  exact hK _ _ h
end
theorem run_make54 (n : Nat) (hn : n ≤ 4096) (w : World) : (Instr.makeSlice 54 (.int .i64 (n : Int)) (.int .i64 (n : Int))).run Try.prog w = .ok (.slice (some ⟨w.heap.size, 0, none⟩) n n) (w.alloc (.cells (madeCells #[.int .i64 0, .int .i64 0] (n * 2)) 27)) := by
  obtain ⟨i0, hi, hz0, hz1, hz2⟩ := info_parts info27c
  have := run_makeSlice (P := Try.prog) w 54 27 i0 _ Try.underlying54 hi hz0 .i64 .i64 (n : Int) (n : Int) (by omega) (Int.le_refl _) (by rw [hz1]; simp; omega) (by rw [hz2]; omega) (by omega)
  simp only [Int.toNat_natCast, hz1] at this
  exact this
theorem flat_list (d : Array Rw) : (flatK encRw 2 d).toList = d.toList.flatMap encRw := by
  have : ∀ l : List Rw, (List.range (l.length * 2)).map (fun t => (encRw l[t / 2]!)[t % 2]!) = l.flatMap encRw := by
    intro l
    induction l with
    | nil => rfl
    | cons x l ih =>
      rw [List.flatMap_cons, ← ih, show (x :: l).length * 2 = 2 + l.length * 2 from by simp; omega, List.range_add]
      simp only [List.map_append, List.map_map]
      congr 1
      apply List.map_congr_left
      intro t _
      simp only [Function.comp]
      rw [show (2 + t) / 2 = t / 2 + 1 from by omega, show (2 + t) % 2 = t % 2 from by omega]
      simp
  rw [← this d.toList]
  unfold flatK
  simp
  intro t _
  rw [show d[t / 2]! = d[t / 2]?.getD default from by rw [getElem!_def]; cases d[t / 2]? <;> rfl]
/-- What lies in memory behind the sort. -/
theorem sorted_row {w : World} {g : Nat} {cs : Array Value} (hg : w.heap[g]? = some (.cells cs 27 (0, 0))) (d : Array Rw) (hsz : cs.size = d.size * 2) (m : Nat) (os : Array Obj) :
    (sortWorldK encRw 2 w g 0 m d os).heap[g]? = some (.cells (flatK encRw 2 d) 27 (0, 0)) ∧ Below g w (sortWorldK encRw 2 w g 0 m d os) := by
  have hlt := (Array.getElem?_eq_some_iff.1 hg).1
  constructor
  · unfold sortWorldK
    rw [heap_grow_old _ _ (by simp [putRowK, putRow, mapBlock]; exact hlt)]
    unfold putRowK putRow mapBlock
    show (w.heap.modify g _)[g]? = _
    rw [Array.getElem?_modify, if_pos rfl, hg]
    simp only [Option.map_some, onCells]
    congr 2
    apply Array.ext
    · simp [putCells, hsz]
    · intro i h1 h2
      have h3 : i < d.size * 2 := by simpa using h2
      simp only [putCells, Array.getElem_mapIdx]
      rw [if_pos ⟨Nat.zero_le _, by simpa using h3⟩]
      simp only [Nat.sub_zero, id]
      rw [getElem!_pos _ i h2]
  · refine ⟨rfl, rfl, rfl, ?_, fun k hk => ?_⟩
    · simp [sortWorldK, putRowK, putRow, mapBlock]
    · unfold sortWorldK
      rw [heap_grow_old _ _ (by simp [putRowK, putRow, mapBlock]; omega)]
      unfold putRowK putRow mapBlock
      show (w.heap.modify g _)[k]? = _
      rw [Array.getElem?_modify, if_neg (by omega)]
end Go.Proofs.Ytlaakmgdbhabfaa

/- Rows of the reference. -/
namespace Go.Proofs.Ytlaakmgdbhabfaa
open Go.RowKit Go.Shelf
attribute [local irreducible] bitCells fitCells Z94 fitOf

theorem ats_few (cs ms : List (Int × Int)) (k : Nat) : (atsOf cs ms k).length ≤ 501 := nums_few _ _
theorem fits_succ (cs ms : List (Int × Int)) (k : Nat) : fitsUpto cs ms (k + 1) = fitsUpto cs ms k ++ rowsUpto cs ms k ms.length := by unfold fitsUpto; rw [List.range_succ, List.flatMap_append]; simp
end Go.Proofs.Ytlaakmgdbhabfaa
