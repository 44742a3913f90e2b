/- Texts of the package drop, joined: WayMem. -/
import Derived.Test.YtckndnaohggmhaaC14
import Derived.Test.YtckndnaohggmhaaC16
import Derived.Maps.OwnIn
/- What the search for a way keeps in memory: a table of ways, a map of who found whom, a queue. Words and how they are carried. -/
namespace Go.Proofs.Ytckndnaohggmhaa
open Go.RowKit Go.Shelf

/-! ### A map of places -/
/-- Block b is a map of places, of at most n, that answers as m does. -/
def PlMap (w : World) (b n : Nat) (m : Nat → Option Nat) : Prop :=
  ∃ D : DataW Unit, w.ownsMap Try.prog 3 (plainElem Try.prog 3) b n D ∧ ∀ i : Nat, i < 12 → Maps.has D (.int .i64 ((i : Int) - 2)) = (m i).isSome ∧ ∀ c, m i = some c → D.atKey (.int .i64 ((i : Int) - 2)) (.lit (.int .i64 0)) = .lit (.int .i64 ((c : Int) - 2))
def putAt (m : Nat → Option Nat) (i : Nat) (c : Option Nat) (j : Nat) : Option Nat := if j = i then c else m j
theorem putAt_same (m : Nat → Option Nat) (i : Nat) (c : Option Nat) : putAt m i c i = c := by simp [putAt]
theorem putAt_other (m : Nat → Option Nat) {i j : Nat} (c : Option Nat) (h : j ≠ i) : putAt m i c j = m j := by simp [putAt, h]

theorem lawInt : Maps.Keyed Try.prog 3 := Maps.int_keyed Try.underlying3
theorem wf_pl (i : Nat) (hi : i < 12) : (Lit.int .i64 ((i : Int) - 2)).wf = true := by
  have h : IntKind.i64.min = -9223372036854775808 := by decide
  simp [Lit.wf, h]
  omega
theorem key_pl (i : Nat) (hi : i < 12) : keyOf Try.prog 3 (.int .i64 ((i : Int) - 2)) = some (.int .i64 ((i : Int) - 2)) := Maps.keyOf_int_mk Try.underlying3 (wf_pl i hi)
theorem lit_ne {i j : Nat} (h : j ≠ i) : (Lit.int .i64 ((j : Int) - 2)) ≠ Lit.int .i64 ((i : Int) - 2) := fun e => by
  injection e with _ h
  omega
theorem isKey_pl (i : Nat) : WideAt.IsKeyLit (Lit.int .i64 ((i : Int) - 2)) := by trivial

theorem PlMap.new (w : World) : PlMap (w.alloc (.map #[] 0)) w.heap.size 0 (fun _ => none) :=
  ⟨_, World.ownsMap_made _ _ _ _, fun i _ => ⟨rfl, fun c h => by cases h⟩⟩
theorem PlMap.lt {w : World} {b n : Nat} {m : Nat → Option Nat} (h : PlMap w b n m) : b < w.heap.size := by
  obtain ⟨D, h1, _⟩ := h
  exact h1.lt
theorem PlMap.kept {w w' : World} {b n : Nat} {m : Nat → Option Nat} (h : PlMap w b n m) (hb : w'.heap[b]? = w.heap[b]?) : PlMap w' b n m := by
  obtain ⟨D, ⟨es, clock, h1, h2⟩, h3⟩ := h
  exact ⟨D, ⟨es, clock, hb.trans h1, h2⟩, h3⟩
theorem PlMap.obj {w : World} {b n : Nat} {m : Nat → Option Nat} (h : PlMap w b n m) : ∃ es clock, w.heap[b]? = some (.map es clock) := by
  obtain ⟨D, ⟨es, clock, h1, h2⟩, h3⟩ := h
  exact ⟨es, clock, h1⟩

section
variable {F : Fence} {nF : Nat} (w : World) {ops : Array Oper} {rest : List Oper} {o : Oper} {a : Act} {Q : Exit → Act → World → Prop}
theorem look_pl (hg : o.guard = none) (mo x : Operand) (hop : o.op = Op.lookup 137 mo x true) (b n : Nat) (m : Nat → Option Nat) (hm : a.eval mo = .map (some b)) (hown : PlMap w b n m)
    (i : Nat) (hi : i < 12) (hx : a.eval x = .int .i64 ((i : Int) - 2))
    (hK : ∀ c : Int, (∀ c0, m i = some c0 → c = (c0 : Int) - 2) → wpListIn F nF Try.prog ops Q rest (a.put o.dst (.tuple #[.int .i64 c, .bool (m i).isSome])) w) :
    wpListIn F nF Try.prog ops Q (o :: rest) a w := by
  obtain ⟨D, h1, h2⟩ := hown
  refine wpListIn_lookup_own_ok_int w hg mo x 137 hop 3 3 .i64 lawInt (by kernel_rfl) Try.underlying3 (by kernel_rfl) b n D hm h1 _ _ hx (key_pl i hi) ?_
  intro c hat _
  rw [(h2 i hi).1]
  refine hK c fun c0 hc0 => ?_
  have := (h2 i hi).2 c0 hc0
  rw [this] at hat
  injection hat with h
  injection h with _ h
  exact h.symm
theorem put_pl (hg : o.guard = none) (mo x v : Operand) (hop : o.op = Op.mapUpdate 137 mo x v) (b n : Nat) (hn : n < maxLen) (m : Nat → Option Nat) (hm : a.eval mo = .map (some b)) (hown : PlMap w b n m)
    (i c : Nat) (hi : i < 12) (hc : c < 12) (hx : a.eval x = .int .i64 ((i : Int) - 2)) (hv : a.eval v = .int .i64 ((c : Int) - 2))
    (hK : ∀ w', PlMap w' b (n + 1) (putAt m i (some c)) → w.grownBy w' (some b) → wpListIn F nF Try.prog ops Q rest (a.put o.dst undef) w') :
    wpListIn F nF Try.prog ops Q (o :: rest) a w := by
  obtain ⟨D, h1, h2⟩ := hown
  refine wpListIn_mapUpdate_own w hg mo x v 137 hop 3 3 lawInt (by kernel_rfl) _ b n D hm h1 hn _ _ _ hx hv (key_pl i hi) _ _ (plainElem_int Try.underlying3 (wf_pl c hc)) ?_
  intro w' h3 h4
  refine hK w' ⟨_, h3, fun j hj => ?_⟩ h4
  by_cases e : j = i
  · subst e
    rw [putAt_same]
    refine ⟨Maps.has_put_same h1.isMap (isKey_pl j) _, fun c0 hc0 => ?_⟩
    cases hc0
    exact Maps.atKey_put_same h1.isMap (isKey_pl j) _ _
  · rw [putAt_other m _ e, Maps.has_put_other (lit_ne e), Maps.atKey_put_other (lit_ne e)]
    exact h2 j hj
theorem del_pl (hg : o.guard = none) (mo x : Operand) (hop : o.op = Op.call { callee := Callee.builtin Builtin.delete, args := #[mo, x], argTypes := #[137, 3] }) (b n : Nat) (m : Nat → Option Nat) (hm : a.eval mo = .map (some b)) (hown : PlMap w b n m)
    (i : Nat) (hi : i < 12) (hx : a.eval x = .int .i64 ((i : Int) - 2))
    (hK : ∀ w', PlMap w' b n (putAt m i none) → w.grownBy w' (some b) → wpListIn F nF Try.prog ops Q rest (a.put o.dst (.tuple #[])) w') :
    wpListIn F nF Try.prog ops Q (o :: rest) a w := by
  obtain ⟨D, h1, h2⟩ := hown
  refine wpListIn_delete_own w hg mo x 137 3 hop 3 lawInt (by kernel_rfl) _ b n D hm h1 _ _ hx (key_pl i hi) ?_
  intro w' h3 h4
  refine hK w' ⟨_, h3, fun j hj => ?_⟩ h4.grown
  by_cases e : j = i
  · subst e
    rw [putAt_same]
    exact ⟨Maps.has_del_same, fun c h => by cases h⟩
  · rw [putAt_other m _ e, Maps.has_del_other (lit_ne e), Maps.atKey_del_other (lit_ne e)]
    exact h2 j hj
end

/-! ### A queue of places: taken from its front, grown at its end -/
def plc (i : Nat) : Value := .int .i64 ((i : Int) - 2)
def QueueAt (w : World) (base : Nat) (v : Value) (xs : List Nat) : Prop :=
  ∃ g off cap cur, v = .slice (some ⟨g, off, none⟩) xs.length cap ∧ base ≤ g ∧ w.heap[g]? = some (.cells cur 3 (0, 0)) ∧ xs.length ≤ cap ∧ cap ≤ maxLen ∧ off + cap ≤ cur.size ∧ ∀ j x, xs[j]? = some x → cur[off + j]? = some (plc x)
theorem QueueAt.kept {w w' : World} {base : Nat} {v : Value} {xs : List Nat} (h : QueueAt w base v xs) (hk : ∀ r, v.ownBlock = some r → w'.heap[r]? = w.heap[r]?) : QueueAt w' base v xs := by
  obtain ⟨g, off, cap, cur, rfl, h1, h2, r⟩ := h
  exact ⟨g, off, cap, cur, rfl, h1, (hk g rfl).trans h2, r⟩
theorem QueueAt.obj {w : World} {base : Nat} {v : Value} {xs : List Nat} (h : QueueAt w base v xs) : ∀ r, v.ownBlock = some r → base ≤ r ∧ ∃ cur, w.heap[r]? = some (.cells cur 3 (0, 0)) := by
  obtain ⟨g, off, cap, cur, rfl, h1, h2, _⟩ := h
  intro r hr
  simp [Value.ownBlock] at hr
  subst hr
  exact ⟨h1, cur, h2⟩
theorem QueueAt.new (w : World) (x : Nat) {base : Nat} (hb : base ≤ w.heap.size) : QueueAt (w.alloc (.cells #[plc x] 3)) base (.slice (some ⟨w.heap.size, 0, none⟩) 1 1) [x] :=
  ⟨w.heap.size, 0, 1, _, rfl, hb, World.alloc_heap_new w _, by simp, by unfold maxLen; omega, by simp, fun j y hy => by
    match j, hy with
    | 0, hy => simp at hy; subst hy; rfl⟩

theorem cells_at {w : World} {g o : Nat} {cur : Array Value} {v : Value} (h : w.heap[g]? = some (.cells cur 3 (0, 0))) (hv : cur[o]? = some v) : w.cell? ⟨g, o, none⟩ = some v := (cell_of_row _ _ _ _ _ _ h).trans hv

/-- One place more at the end. -/
theorem run_append_queue (w : World) (ty : TypeId) {base : Nat} {v : Value} {xs : List Nat} (x : Nat) (h : QueueAt w base v xs) (hx : xs.length ≤ 1000) (a : Nat) (hbs : base ≤ w.heap.size) (ha : w.cell? ⟨a, 0, none⟩ = some (plc x)) (c : Nat) :
    ∃ v' w', (Builtin.append_ #[42, 42] ty #[v, .slice (some ⟨a, 0, none⟩) 1 c]).run Try.prog w = .ok v' w' ∧ QueueAt w' base v' (xs ++ [x]) ∧ w.grownBy w' v.ownBlock ∧ (v'.ownBlock = v.ownBlock ∨ ∃ r, v'.ownBlock = some r ∧ w.heap.size ≤ r) := by
  obtain ⟨i0, hi, hz0, hz1, hz2⟩ := info_parts info3
  obtain ⟨g, off, cap, cur, rfl, h1, h2, h3, h4, h5, h6⟩ := h
  have hn : ∀ j u, [plc x][j]? = some u → w.cell? ((⟨a, 0, none⟩ : Addr).add j) = some u := fun j u hu => by
    match j, hu with
    | 0, hu => simp at hu; subst hu; rw [Addr.add_lit]; exact ha
  have h1c : ∀ u ∈ [plc x], u.oneCell' = true := fun u hu => by simp at hu; subst hu; rfl
  by_cases hr : xs.length + 1 ≤ cap
  · have hlt : off + xs.length < cur.size := by omega
    have hrun := run_append_room_cells (P := Try.prog) w 42 ty 3 i0 Try.underlying42 hi g off xs.length cap ⟨a, 0, none⟩ 1 c [plc x] (by simp [hz1]) hn h1c hr
      (fun j hj => by
        simp at hj; subst hj
        rw [hz1, Nat.mul_one, Nat.add_zero, cells_at h2 (Array.getElem?_eq_getElem hlt)]; rfl)
      (fun j hj => by simp [World.frozen?, h2])
    rw [hz1, Nat.mul_one] at hrun
    refine ⟨_, _, hrun, ⟨g, off, cap, cur.setIfInBounds (off + xs.length) (plc x), by simp, h1, ?_, by simp; omega, h4, by simpa using h5, ?_⟩, ?_, .inl rfl⟩
    · simp only [World.setCells]
      exact row_setCell w g _ _ _ _ _ h2
    · intro j y hy
      rw [Array.getElem?_setIfInBounds]
      by_cases e : j = xs.length
      · subst e
        rw [List.getElem?_append_right (Nat.le_refl _), Nat.sub_self] at hy
        simp at hy
        subst hy
        rw [if_pos rfl, if_pos hlt]
      · rw [if_neg (by omega)]
        have hj : j < xs.length := by
          have := (List.getElem?_eq_some_iff.1 hy).1
          simp at this
          omega
        rw [List.getElem?_append_left hj] at hy
        exact h6 j y hy
    · exact grownBy_setCells g [plc x] _ w
  · have hold : ∀ j u, (xs.map plc)[j]? = some u → w.cell? ((⟨g, off, none⟩ : Addr).add j) = some u := fun j u hu => by
      rw [List.getElem?_map, Option.map_eq_some_iff] at hu
      obtain ⟨y, hy, rfl⟩ := hu
      rw [Addr.add_lit]
      exact cells_at h2 (h6 j y hy)
    obtain ⟨v', w', hrun, r1, r2⟩ := run_append_arg_grows (P := Try.prog) w 42 ty 3 i0 (.int .i64 0) 1 8 Try.underlying42 hi hz0 hz1 hz2 rfl (by decide) ⟨g, off, none⟩ xs.length cap (xs.map plc) (by simp) hold ⟨a, 0, none⟩ 1 c [plc x] (by simp) hn (by omega) (by unfold maxLen; omega) (by omega)
    obtain ⟨e1, e2 | ⟨g', cap', cur', rfl, b1, b2, b3, b4, b5, b6⟩⟩ := r1
    · omega
    · refine ⟨_, w', hrun, ⟨g', 0, cap', cur', by simp, Nat.le_trans hbs b1, b2, by simp; omega, b4, by omega, fun j y hy => ?_⟩, ⟨r2.os, r2.tape, r2.output, r2.size, fun k hk _ => r2.block k hk (by simp)⟩, .inr ⟨g', rfl, b1⟩⟩
      have hj : j < xs.length + 1 := by
        have := (List.getElem?_eq_some_iff.1 hy).1
        simpa using this
      rw [Nat.zero_add, ← Array.getElem?_toList]
      have hm : ((xs ++ [x]).map plc)[j]? = some (plc y) := by rw [List.getElem?_map, hy]; rfl
      rw [List.map_append, List.map_cons, List.map_nil, ← b6, List.getElem?_take] at hm
      rw [if_pos (by omega)] at hm
      exact hm

/-! ### All of it -/
/-- The table of ways, as cells. -/
def wayCells (V : Nat → Value) : Array Value := Array.ofFn (n := 12) fun i => V i.val
theorem wayCells_get (V : Nat → Value) (i : Nat) (hi : i < 12) : (wayCells V)[i]? = some (V i) := by simp [wayCells, hi]
def putV (V : Nat → Value) (p : Nat) (v : Value) (i : Nat) : Value := if i = p then v else V i
theorem wayCells_set (V : Nat → Value) (p : Nat) (v : Value) : (wayCells V).setIfInBounds p v = wayCells (putV V p v) := by
  apply Array.ext
  · simp [wayCells]
  · intro k hk1 hk2
    have hk : k < 12 := by simpa [wayCells] using hk2
    rw [Array.getElem_setIfInBounds (by simpa [wayCells] using hk)]
    simp only [wayCells, Array.getElem_ofFn, putV]
    by_cases e : p = k
    · subst e; simp
    · rw [if_neg e, if_neg (fun h => e h.symm)]

/-- What the search keeps: the table at B, what was found at B + 1, the map at B + 3, its box at B + 4, the queue's box at B + 6, the place that is looked for at n0. -/
structure Mem (n0 B t : Nat) (v : Value) (Q : List Nat) (V : Nat → Value) (R : Nat → Prop) (P : Nat → List Nat) (mn : Nat) (m : Nat → Option Nat) (W : World) : Prop where
  lt : n0 < B
  ways : W.heap[B]? = some (.cells (wayCells V) 136 (0, 0))
  none_ : Boxed W (B + 1) 42 (.slice none 0 0)
  mapBox : Boxed W (B + 4) 137 (.map (some (B + 3)))
  map : PlMap W (B + 3) mn m
  box : Boxed W (B + 6) 42 v
  two : Boxed W n0 3 (plc t)
  queue : QueueAt W B v Q
  rows : ∀ i, i < 12 → R i → W.ownsRow B 3 1 (V i) (P i).length ((P i).map plc) ∧ P i ≠ []
  nils : ∀ i, i < 12 → ¬ R i → V i = .slice none 0 0
  apart : ∀ i r, i < 12 → v.ownBlock = some r → (V i).ownBlock ≠ some r

section
variable {n0 B t : Nat} {v : Value} {Q : List Nat} {V : Nat → Value} {R : Nat → Prop} {P : Nat → List Nat} {mn : Nat} {m : Nat → Option Nat} {W W' : World}
theorem Mem.size (h : Mem n0 B t v Q V R P mn m W) : B + 6 < W.heap.size := h.box.lt
/-- Whatever leaves cells, and the map, as they lay. -/
theorem Mem.keep (h : Mem n0 B t v Q V R P mn m W) (hm : W'.heap[B + 3]? = W.heap[B + 3]?) (hk : ∀ (b : Nat) (cs : Array Value) (ty : TypeId) (fr : Nat × Nat), W.heap[b]? = some (Obj.cells cs ty fr) → W'.heap[b]? = W.heap[b]?) : Mem n0 B t v Q V R P mn m W' where
  lt := h.lt
  ways := (hk _ _ _ _ h.ways).trans h.ways
  none_ := (hk _ _ _ _ h.none_).trans h.none_
  mapBox := (hk _ _ _ _ h.mapBox).trans h.mapBox
  map := h.map.kept hm
  box := (hk _ _ _ _ h.box).trans h.box
  two := (hk _ _ _ _ h.two).trans h.two
  queue := h.queue.kept fun r hr => by
    obtain ⟨_, cur, hc⟩ := h.queue.obj r hr
    exact hk _ _ _ _ hc
  rows i hi hR := by
    obtain ⟨⟨h1, h2⟩, h3⟩ := h.rows i hi hR
    refine ⟨⟨h1, h2.imp id ?_⟩, h3⟩
    rintro ⟨g, cap, cur, e, hg, hc, r⟩
    exact ⟨g, cap, cur, e, hg, (hk _ _ _ _ hc).trans hc, r⟩
  nils := h.nils
  apart := h.apart
theorem Mem.below (h : Mem n0 B t v Q V R P mn m W) {C : Nat} (hb : Below C W W') (hC : W.heap.size ≤ C) : Mem n0 B t v Q V R P mn m W' :=
  h.keep (hb.block _ (by have := h.size; omega)) fun b _ _ _ hc => hb.block b (Nat.lt_of_lt_of_le (Array.getElem?_eq_some_iff.1 hc).1 hC)
theorem Mem.alloc (h : Mem n0 B t v Q V R P mn m W) (o : Obj) : Mem n0 B t v Q V R P mn m (W.alloc o) := h.below ((Below.refl _ W).alloc (Nat.le_refl _) o) (Nat.le_refl _)
theorem Mem.drew (h : Mem n0 B t v Q V R P mn m W) : Mem n0 B t v Q V R P mn m W.drew := h.below (Below.refl W.heap.size W).drew (Nat.le_refl _)
/-- Another slice stands in the queue's box. -/
theorem Mem.setBox (h : Mem n0 B t v Q V R P mn m W) {v' : Value} {Q' : List Nat} (hq : QueueAt W B v' Q') (ha : ∀ i r, i < 12 → v'.ownBlock = some r → (V i).ownBlock ≠ some r) : Mem n0 B t v' Q' V R P mn m (W.setCell ⟨B + 6, 0, none⟩ v') := by
  have hne : ∀ (b : Nat), b ≠ B + 6 → (W.setCell ⟨B + 6, 0, none⟩ v').heap[b]? = W.heap[b]? := fun b hb => heap_set_other W _ _ _ _ hb
  have h3 : ∀ (b : Nat) (cs : Array Value), W.heap[b]? = some (Obj.cells cs 3 (0, 0)) → (W.setCell ⟨B + 6, 0, none⟩ v').heap[b]? = W.heap[b]? := fun b cs hc => hne b fun e => by
    subst e
    rw [show W.heap[B + 6]? = _ from h.box] at hc
    simp at hc
  refine ⟨h.lt, (hne _ (by omega)).trans h.ways, (hne _ (by omega)).trans h.none_, (hne _ (by omega)).trans h.mapBox, h.map.kept (hne _ (by omega)), h.box.set v', (hne _ (by have := h.lt; omega)).trans h.two, hq.kept fun r hr => ?_, fun i hi hR => ?_, h.nils, ha⟩
  · obtain ⟨_, cur, hc⟩ := hq.obj r hr
    exact h3 _ _ hc
  · obtain ⟨⟨h1, h2⟩, h4⟩ := h.rows i hi hR
    refine ⟨⟨h1, h2.imp id ?_⟩, h4⟩
    rintro ⟨g, cap, cur, e, hg, hc, r⟩
    exact ⟨g, cap, cur, e, hg, (h3 _ _ hc).trans hc, r⟩
/-- The map turned. -/
theorem Mem.setMap (h : Mem n0 B t v Q V R P mn m W) {mn' : Nat} {m' : Nat → Option Nat} (hm : PlMap W' (B + 3) mn' m') (hg : W.grownBy W' (some (B + 3))) : Mem n0 B t v Q V R P mn' m' W' := by
  obtain ⟨es, clock, ho⟩ := h.map.obj
  have hk : ∀ (b : Nat) (cs : Array Value) (ty : TypeId) (fr : Nat × Nat), W.heap[b]? = some (Obj.cells cs ty fr) → W'.heap[b]? = W.heap[b]? := fun b cs ty fr hc => hg.block b (Array.getElem?_eq_some_iff.1 hc).1 fun e => by
    cases e
    rw [ho] at hc
    cases hc
  refine ⟨h.lt, (hk _ _ _ _ h.ways).trans h.ways, (hk _ _ _ _ h.none_).trans h.none_, (hk _ _ _ _ h.mapBox).trans h.mapBox, hm, (hk _ _ _ _ h.box).trans h.box, (hk _ _ _ _ h.two).trans h.two, h.queue.kept fun r hr => ?_, fun i hi hR => ?_, h.nils, h.apart⟩
  · obtain ⟨_, cur, hc⟩ := h.queue.obj r hr
    exact hk _ _ _ _ hc
  · obtain ⟨⟨h1, h2⟩, h4⟩ := h.rows i hi hR
    refine ⟨⟨h1, h2.imp id ?_⟩, h4⟩
    rintro ⟨g, cap, cur, e, hg', hc, r⟩
    exact ⟨g, cap, cur, e, hg', (hk _ _ _ _ hc).trans hc, r⟩
/-- A way is laid into the table. -/
theorem Mem.setWay (h : Mem n0 B t v Q V R P mn m W) {p : Nat} (hp : p < 12) {u : Value} {R' : Nat → Prop} (hu : W.ownsRow B 3 1 u (P p).length ((P p).map plc)) (hne0 : P p ≠ []) (ha : ∀ r, v.ownBlock = some r → u.ownBlock ≠ some r)
    (hR' : ∀ i, R' i ↔ i = p ∨ R i) : Mem n0 B t v Q (putV V p u) R' P mn m (W.setCell ⟨B, p, none⟩ u) := by
  have hne : ∀ (b : Nat), b ≠ B → (W.setCell ⟨B, p, none⟩ u).heap[b]? = W.heap[b]? := fun b hb => heap_set_other W _ _ _ _ hb
  have h3 : ∀ (b : Nat) (cs : Array Value), W.heap[b]? = some (Obj.cells cs 3 (0, 0)) → (W.setCell ⟨B, p, none⟩ u).heap[b]? = W.heap[b]? := fun b cs hc => hne b fun e => by
    subst e
    rw [h.ways] at hc
    simp at hc
  have h4 : ∀ {x : Value} {k : Nat} {ys : List Value}, W.ownsRow B 3 1 x k ys → (W.setCell ⟨B, p, none⟩ u).ownsRow B 3 1 x k ys := by
    rintro x k ys ⟨h1, h2⟩
    refine ⟨h1, h2.imp id ?_⟩
    rintro ⟨g, cap, cur, e, hg, hc, r⟩
    exact ⟨g, cap, cur, e, hg, (h3 _ _ hc).trans hc, r⟩
  refine ⟨h.lt, ?_, (hne _ (by omega)).trans h.none_, (hne _ (by omega)).trans h.mapBox, h.map.kept (hne _ (by omega)), (hne _ (by omega)).trans h.box, (hne _ (by have := h.lt; omega)).trans h.two, h.queue.kept fun r hr => ?_, fun i hi hR => ?_, fun i hi hR => ?_, fun i r hi hr => ?_⟩
  · rw [← wayCells_set]
    exact row_setCell W B p u _ _ _ h.ways
  · obtain ⟨_, cur, hc⟩ := h.queue.obj r hr
    exact h3 _ _ hc
  · unfold putV
    by_cases e : i = p
    · subst e
      rw [if_pos rfl]
      exact ⟨h4 hu, hne0⟩
    · rw [if_neg e]
      have := h.rows i hi (((hR' i).1 hR).resolve_left e)
      exact ⟨h4 this.1, this.2⟩
  · have h5 : i ≠ p ∧ ¬ R i := ⟨fun e => hR ((hR' i).2 (.inl e)), fun e => hR ((hR' i).2 (.inr e))⟩
    unfold putV
    rw [if_neg h5.1]
    exact h.nils i hi h5.2
  · unfold putV
    split
    · exact ha r hr
    · exact h.apart i r hi hr
/-- The queue has grown by one place, and its box has it. -/
theorem Mem.push (h : Mem n0 B t v Q V R P mn m W) {v' : Value} {Q' : List Nat} (hg : W.grownBy W' v.ownBlock) (hq : QueueAt W' B v' Q') (ho : v'.ownBlock = v.ownBlock ∨ ∃ r, v'.ownBlock = some r ∧ W.heap.size ≤ r) :
    Mem n0 B t v' Q' V R P mn m (W'.setCell ⟨B + 6, 0, none⟩ v') ∧ Boxed W' (B + 6) 42 v := by
  have hk : ∀ (b : Nat) (o : Obj), W.heap[b]? = some o → (∀ cur, o ≠ Obj.cells cur 3 (0, 0)) → W'.heap[b]? = W.heap[b]? := fun b o hc hn => hg.block b (Array.getElem?_eq_some_iff.1 hc).1 fun e => by
    obtain ⟨_, cur, h1⟩ := h.queue.obj b e.symm
    rw [hc] at h1
    cases h1
    exact hn cur rfl
  have hrow : ∀ i, i < 12 → R i → W'.ownsRow B 3 1 (V i) (P i).length ((P i).map plc) ∧ P i ≠ [] := fun i hi hR => by
    obtain ⟨h1, h4⟩ := h.rows i hi hR
    refine ⟨h1.kept hg ?_, h4⟩
    cases hv : v.ownBlock with
    | none => cases hV : (V i).ownBlock with
      | none => exact .inl rfl
      | some r => exact .inr (by simp)
    | some r => exact .inr (h.apart i r hi hv)
  have hbx : Boxed W' (B + 6) 42 v := (hk _ _ h.box (by simp)).trans h.box
  obtain ⟨es, clock, hmo⟩ := h.map.obj
  have hne3 : ∀ b, b = n0 → some b ≠ v.ownBlock := fun b e1 e => by
    obtain ⟨h1, _⟩ := h.queue.obj b e.symm
    have := h.lt
    omega
  have hmid : Mem n0 B t v' Q' V R P mn m (W'.setCell ⟨B + 6, 0, none⟩ v') := by
    have hs : ∀ (b : Nat), b ≠ B + 6 → (W'.setCell ⟨B + 6, 0, none⟩ v').heap[b]? = W'.heap[b]? := fun b hb => heap_set_other W' _ _ _ _ hb
    have h3 : ∀ (b : Nat) (cs : Array Value), W'.heap[b]? = some (Obj.cells cs 3 (0, 0)) → (W'.setCell ⟨B + 6, 0, none⟩ v').heap[b]? = W'.heap[b]? := fun b cs hc => hs b fun e => by
      subst e
      rw [show W'.heap[B + 6]? = _ from hbx] at hc
      simp at hc
    refine ⟨h.lt, ((hs _ (by omega)).trans (hk _ _ h.ways (by simp))).trans h.ways, ((hs _ (by omega)).trans (hk _ _ h.none_ (by simp))).trans h.none_, ((hs _ (by omega)).trans (hk _ _ h.mapBox (by simp))).trans h.mapBox, h.map.kept ((hs _ (by omega)).trans (hk _ _ hmo (by simp))), hbx.set v',
      ((hs _ (by have := h.lt; omega)).trans (hg.block _ h.two.lt (hne3 _ rfl))).trans h.two, hq.kept fun r hr => ?_, fun i hi hR => ?_, h.nils, fun i r hi hr => ?_⟩
    · obtain ⟨_, cur, hc⟩ := hq.obj r hr
      exact h3 _ _ hc
    · obtain ⟨⟨h1, h2⟩, h4⟩ := hrow i hi hR
      refine ⟨⟨h1, h2.imp id ?_⟩, h4⟩
      rintro ⟨g, cap, cur, e, hg', hc, r⟩
      exact ⟨g, cap, cur, e, hg', (h3 _ _ hc).trans hc, r⟩
    · rcases ho with ho | ⟨r', ho, hr'⟩
      · exact h.apart i r hi (ho ▸ hr)
      · rw [ho] at hr
        cases hr
        intro e
        by_cases hRi : R i
        · have := ((h.rows i hi hRi).1.lt r e).2
          omega
        · rw [h.nils i hi hRi] at e
          simp [Value.ownBlock] at e
  exact ⟨hmid, hbx⟩
end
end Go.Proofs.Ytckndnaohggmhaa
