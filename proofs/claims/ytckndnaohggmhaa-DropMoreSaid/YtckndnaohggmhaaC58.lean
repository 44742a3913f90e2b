/- Texts of the package drop, joined: MoreOps. -/
import Derived.Test.YtckndnaohggmhaaC34
/- DropMore: all of a list of drops appended to an empty one; a list of drops of which one is narrowed. -/
namespace Go.Proofs.Ytckndnaohggmhaa
open Go.RowKit Go.Shelf

theorem wpList_append_all {V : World} {ops : Array Oper} {rest : List Oper} {o : Oper} {a : Act} {Q : Exit → Act → World → Prop} {b off n' c' : Nat} {ds : List (Int × Int × Int)} (hgd : o.guard = none) (t1 t2 : Tmp)
    (ho : o.op = .call { callee := .builtin .append, args := #[.tmp t1, .tmp t2], argTypes := #[23, 23] }) (g : Nat) (hs : a.eval (.tmp t1) = .slice (some ⟨g, 0, none⟩) 0 0) (hx : a.eval (.tmp t2) = .slice (some ⟨b, off, none⟩) n' c')
    (hsrc : Held V V.heap.size 3 encD (some ⟨b, off, none⟩) ds) (hn : n' = ds.length) (hpos : 0 < n') (h40 : n' ≤ 1000)
    (h : ∀ g1 cap W', W'.ownsRow V.heap.size 62 3 (.slice (some ⟨g1, 0, none⟩) n' cap) n' (ds.flatMap encD) → V.heap.size ≤ g1 → V.grownBy W' none → wpList Try.prog ops Q rest (a.put o.dst (.slice (some ⟨g1, 0, none⟩) n' cap)) W') :
    wpList Try.prog ops Q (o :: rest) a V := by
  have hw : Region.wanted o (yielded ops a.tmps) = true := by simp [Region.wanted, hgd]
  refine wpList_tail hgd ?_
  rw [if_pos hw]
  obtain ⟨i0, hi0, hz0, hz1, hz2⟩ := info_parts info62b
  obtain ⟨v', W', hr, h2, h3⟩ := run_append_arg_grows (P := Try.prog) (w := V) 23 o.type 62 i0 _ 3 24 Try.underlying23 hi0 hz0 hz1 hz2 rfl (by omega) ⟨g, 0, none⟩ 0 0 [] rfl (fun j u hu => by simp at hu) ⟨b, off, none⟩ n' c' (ds.flatMap encD) (by rw [flat_len, hn])
    (held_flat hsrc) (by omega) (by unfold maxLen; omega) (by omega)
  rw [Nat.zero_add, List.nil_append] at h2
  have h2' := h2
  obtain ⟨g1, cap, rfl, hg1, _⟩ := h2'.form hpos
  unfold Oper.wp execOp
  simp only [ho, resolve, invoke, builtin, Sem.run_bind, Sem.run_pure, Result.andThen_ok, List.map_toArray, List.map_cons, List.map_nil, hs, hx, hr]
  exact h g1 cap W' h2 hg1 h3

/-- The row of a list of drops. -/
structure DropRow (W : World) (g : Nat) (cs : Array Value) (ds : List (Int × Int × Int)) : Prop where
  row : W.heap[g]? = some (.cells cs 62 (0, 0))
  has : ∀ j x, ds[j]? = some x → ∀ i v, (encD x)[i]? = some v → cs[j * 3 + i]? = some v

theorem dropRow_of {W : World} {base g n cap : Nat} {ds : List (Int × Int × Int)} (h : W.ownsRow base 62 3 (.slice (some ⟨g, 0, none⟩) n cap) n (ds.flatMap encD)) : ∃ cs, DropRow W g cs ds ∧ base ≤ g ∧ n ≤ cap := by
  rcases h.2 with ⟨e, _⟩ | ⟨g', cap', cur, e, hb, hg, h1, h2, h3, h4⟩
  · cases e
  · cases e
    refine ⟨cur, ⟨hg, fun j x hx i v hi => ?_⟩, hb, h1⟩
    have hi3 : i < 3 := (List.getElem?_eq_some_iff.1 hi).1
    have h5 : (ds.flatMap encD)[j * 3 + i]? = some v := by
      rw [flat_get, show (j * 3 + i) / 3 = j from by omega, show (j * 3 + i) % 3 = i from by omega, hx]
      exact hi
    rw [← h4, List.getElem?_take] at h5
    split at h5
    · simpa using h5
    · cases h5

section
variable {W : World} {g : Nat} {cs : Array Value} {ds : List (Int × Int × Int)}
theorem DropRow.held (h : DropRow W g cs ds) : Held W W.heap.size 3 encD (some ⟨g, 0, none⟩) ds :=
  .inr ⟨g, 0, rfl, (Array.getElem?_eq_some_iff.1 h.row).1, fun j x hx i v hi => by rw [Nat.zero_add]; exact (cell_of_row _ _ _ _ _ _ h.row).trans (h.has j x hx i v hi)⟩
theorem DropRow.cell (h : DropRow W g cs ds) {k : Nat} (hk : k < ds.length) : W.cell? ⟨g, k * 3, none⟩ = some (.int .i64 (ds.getD k (0, 0, 0)).1) ∧ W.cell? ⟨g, k * 3 + 1, none⟩ = some (.int .i64 (ds.getD k (0, 0, 0)).2.1) ∧ W.cell? ⟨g, k * 3 + 2, none⟩ = some (.int .i64 (ds.getD k (0, 0, 0)).2.2) := by
  have e := List.getElem?_eq_getElem hk
  have e2 : ds.getD k (0, 0, 0) = ds[k] := by simp [e]
  rw [e2]
  exact ⟨(cell_of_row _ _ _ _ _ _ h.row).trans (h.has k _ e 0 _ rfl), (cell_of_row _ _ _ _ _ _ h.row).trans (h.has k _ e 1 _ rfl), (cell_of_row _ _ _ _ _ _ h.row).trans (h.has k _ e 2 _ rfl)⟩
theorem DropRow.ext {W' : World} (h : DropRow W g cs ds) (e : Ext W W') : DropRow W' g cs ds := ⟨row_ext h.row e, h.has⟩
theorem DropRow.set1 (h : DropRow W g cs ds) {k : Nat} (hk : k < ds.length) (lo : Int) : DropRow (W.setCell ⟨g, k * 3 + 1, none⟩ (.int .i64 lo)) g (cs.setIfInBounds (k * 3 + 1) (.int .i64 lo)) (ds.set k ((ds.getD k (0, 0, 0)).1, lo, (ds.getD k (0, 0, 0)).2.2)) := by
  refine ⟨row_setCell _ _ _ _ _ _ _ h.row, fun j x hx i v hi => ?_⟩
  have hi3 : i < 3 := (List.getElem?_eq_some_iff.1 hi).1
  have e := List.getElem?_eq_getElem hk
  have e2 : ds.getD k (0, 0, 0) = ds[k] := by simp [e]
  rw [e2] at hx
  rw [List.getElem?_set] at hx
  rw [Array.getElem?_setIfInBounds]
  by_cases hkj : k = j
  · subst hkj
    rw [if_pos rfl, if_pos hk] at hx
    cases hx
    by_cases hi1 : i = 1
    · subst hi1
      have h1 := h.has k _ e 1 _ rfl
      rw [if_pos rfl, if_pos (Array.getElem?_eq_some_iff.1 h1).1]
      exact hi
    · rw [if_neg (by omega)]
      have h2 : (encD ds[k])[i]? = some v := by
        rw [← hi]
        match i, hi3 with
        | 0, _ => rfl
        | 1, _ => exact absurd rfl hi1
        | 2, _ => rfl
      exact h.has k _ e i v h2
  · rw [if_neg hkj] at hx
    rw [if_neg (by omega)]
    exact h.has j x hx i v hi
theorem DropRow.set2 (h : DropRow W g cs ds) {k : Nat} (hk : k < ds.length) (hi' : Int) : DropRow (W.setCell ⟨g, k * 3 + 2, none⟩ (.int .i64 hi')) g (cs.setIfInBounds (k * 3 + 2) (.int .i64 hi')) (ds.set k ((ds.getD k (0, 0, 0)).1, (ds.getD k (0, 0, 0)).2.1, hi')) := by
  refine ⟨row_setCell _ _ _ _ _ _ _ h.row, fun j x hx i v hi => ?_⟩
  have hi3 : i < 3 := (List.getElem?_eq_some_iff.1 hi).1
  have e := List.getElem?_eq_getElem hk
  have e2 : ds.getD k (0, 0, 0) = ds[k] := by simp [e]
  rw [e2] at hx
  rw [List.getElem?_set] at hx
  rw [Array.getElem?_setIfInBounds]
  by_cases hkj : k = j
  · subst hkj
    rw [if_pos rfl, if_pos hk] at hx
    cases hx
    by_cases hi1 : i = 2
    · subst hi1
      have h1 := h.has k _ e 2 _ rfl
      rw [if_pos rfl, if_pos (Array.getElem?_eq_some_iff.1 h1).1]
      exact hi
    · rw [if_neg (by omega)]
      have h2 : (encD ds[k])[i]? = some v := by
        rw [← hi]
        match i, hi3 with
        | 0, _ => rfl
        | 1, _ => rfl
        | 2, _ => exact absurd rfl hi1
      exact h.has k _ e i v h2
  · rw [if_neg hkj] at hx
    rw [if_neg (by omega)]
    exact h.has j x hx i v hi
theorem DropRow.other (h : DropRow W g cs ds) {b o : Nat} (v : Value) (hne : b ≠ g) : DropRow (W.setCell ⟨b, o, none⟩ v) g cs ds :=
  ⟨(heap_set_other W b o g v (fun e => hne e.symm)).trans h.row, h.has⟩
end
end Go.Proofs.Ytckndnaohggmhaa
