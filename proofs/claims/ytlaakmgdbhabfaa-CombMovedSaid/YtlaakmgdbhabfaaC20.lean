/- Texts of one package, joined: WaysDef, Ways, Count, Hits, RefBits, RefPlaces, FitsAre. -/
import Derived.Test.YtlaakmgdbhabfaaC11
import Derived.Test.YtlaakmgdbhabfaaC19
import Derived.Maps.RangeWalk
/- ways: what is counted, and how it lies in memory. -/
namespace Go.Proofs.Ytlaakmgdbhabfaa
open Go.RowKit Go.Shelf Go.Maps
attribute [local irreducible] bitCells fitCells Z94 fitOf

/-- The greatest number that is told, and one. -/
abbrev CAP : Int := 1099511627777
/-- A row of counts behind its first k places were added to it from the row before. -/
def addTo (prev row : Nat → Int) (set : Nat) (a : Int) : Nat → Nat → Int
  | 0 => row
  | k + 1 => fun s => if s = k ||| set then min (addTo prev row set a k s + prev k * a) CAP else addTo prev row set a k s
/-- All rows behind one more set of marks, of which there are so many rows. -/
def keyStep (T : Nat) (S : Nat → Nat → Int) (p : Nat × Nat) : Nat → Nat → Int := fun n => if n = 0 then S 0 else addTo (S (n - 1)) (S n) p.1 (p.2 : Int) T
def ways0 : Nat → Nat → Int := fun n s => if n = 0 ∧ s = 0 then 1 else 0
def waysFold (T : Nat) (P : List (Nat × Nat)) : Nat → Nat → Int := P.foldl (keyStep T) ways0
theorem waysFold_snoc (T : Nat) (P : List (Nat × Nat)) (p : Nat × Nat) : waysFold T (P ++ [p]) = keyStep T (waysFold T P) p := by simp [waysFold]
/-- All counts lie between 0 and the greatest one. -/
def InCap (S : Nat → Nat → Int) : Prop := ∀ n s, 0 ≤ S n s ∧ S n s ≤ CAP
theorem addTo_cap {prev row : Nat → Int} {set : Nat} {a : Int} (ha : 0 ≤ a) (hp : ∀ s, 0 ≤ prev s ∧ prev s ≤ CAP) (hr : ∀ s, 0 ≤ row s ∧ row s ≤ CAP) : ∀ k s, 0 ≤ addTo prev row set a k s ∧ addTo prev row set a k s ≤ CAP
  | 0, s => hr s
  | k + 1, s => by
    have ih := addTo_cap (set := set) ha hp hr k s
    unfold addTo
    split
    · have h1 : 0 ≤ prev k * a := Int.mul_nonneg (hp k).1 ha
      exact ⟨by show 0 ≤ min _ CAP; unfold CAP at *; omega, Int.min_le_right _ _⟩
    · exact ih
theorem keyStep_cap {T : Nat} {S : Nat → Nat → Int} (h : InCap S) (p : Nat × Nat) : InCap (keyStep T S p) := fun n s => by
  unfold keyStep
  split
  · exact h 0 s
  · exact addTo_cap (Int.natCast_nonneg _) (fun s => h _ s) (fun s => h _ s) T s
theorem ways0_cap : InCap ways0 := fun n s => by unfold ways0 CAP; split <;> omega
theorem waysFold_cap (T : Nat) : ∀ P, InCap (waysFold T P) := by
  intro P
  have : ∀ (P : List (Nat × Nat)) (S : Nat → Nat → Int), InCap S → InCap (P.foldl (keyStep T) S) := by
    intro P
    induction P with
    | nil => intro S h; exact h
    | cons p P ih => intro S h; exact ih _ (keyStep_cap h p)
  exact this P _ ways0_cap

/-- The first K of R + 1 rows of T counts lie in memory. -/
structure WaysAt (W : World) (gc R T K : Nat) (G : Nat → Nat) (S : Nat → Nat → Int) : Prop where
  top : ∃ C : Array Value, W.heap[gc]? = some (.cells C 34 (0, 0)) ∧ C.size = R + 1 ∧ ∀ n, n < K → C[n]? = some (.slice (some ⟨G n, 0, none⟩) T T)
  rows : ∀ n, n < K → ∃ Y : Array Value, W.heap[G n]? = some (.cells Y 2 (0, 0)) ∧ Y.size = T ∧ ∀ s, s < T → Y[s]? = some (.int .i64 (S n s))
  inj : ∀ n m, n < K → m < K → G n = G m → n = m
theorem WaysAt.ext {W W' : World} {gc R T K : Nat} {G : Nat → Nat} {S : Nat → Nat → Int} (h : WaysAt W gc R T K G S) (e : Ext W W') : WaysAt W' gc R T K G S := by
  refine ⟨?_, fun n hn => ?_, h.inj⟩
  · obtain ⟨C, h1, h2⟩ := h.top
    exact ⟨C, row_ext h1 e, h2⟩
  · obtain ⟨Y, h1, h2⟩ := h.rows n hn
    exact ⟨Y, row_ext h1 e, h2⟩
theorem WaysAt.kept {W W' : World} {gc R T K : Nat} {G : Nat → Nat} {S : Nat → Nat → Int} (h : WaysAt W gc R T K G S) (hk : CellsKept W W') : WaysAt W' gc R T K G S := by
  refine ⟨?_, fun n hn => ?_, h.inj⟩
  · obtain ⟨C, h1, h2⟩ := h.top
    exact ⟨C, hk _ _ _ _ h1, h2⟩
  · obtain ⟨Y, h1, h2⟩ := h.rows n hn
    exact ⟨Y, hk _ _ _ _ h1, h2⟩
theorem WaysAt.congr {W : World} {gc R T K : Nat} {G : Nat → Nat} {S S' : Nat → Nat → Int} (h : WaysAt W gc R T K G S) (hS : ∀ n s, n < K → s < T → S' n s = S n s) : WaysAt W gc R T K G S' := by
  refine ⟨h.top, fun n hn => ?_, h.inj⟩
  obtain ⟨Y, h1, h2, h3⟩ := h.rows n hn
  exact ⟨Y, h1, h2, fun s hs => by rw [hS n s hn hs]; exact h3 s hs⟩
theorem WaysAt.slice {W : World} {gc R T K n : Nat} {G : Nat → Nat} {S : Nat → Nat → Int} (h : WaysAt W gc R T K G S) (hn : n < K) : W.cell? ⟨gc, n, none⟩ = some (.slice (some ⟨G n, 0, none⟩) T T) := by
  obtain ⟨C, h1, h2, h3⟩ := h.top
  exact (cell_of_row _ _ _ _ _ _ h1).trans (h3 n hn)
theorem WaysAt.get {W : World} {gc R T K n s : Nat} {G : Nat → Nat} {S : Nat → Nat → Int} (h : WaysAt W gc R T K G S) (hn : n < K) (hs : s < T) : W.cell? ⟨G n, s, none⟩ = some (.int .i64 (S n s)) ∧ W.frozen? ⟨G n, s, none⟩ = false := by
  obtain ⟨Y, h1, h2, h3⟩ := h.rows n hn
  exact ⟨(cell_of_row _ _ _ _ _ _ h1).trans (h3 s hs), by simp [World.frozen?, h1]⟩
theorem WaysAt.topCell {W : World} {gc R T K n : Nat} {G : Nat → Nat} {S : Nat → Nat → Int} (h : WaysAt W gc R T K G S) (hn : n ≤ R) : (∃ u, W.cell? ⟨gc, n, none⟩ = some u) ∧ W.frozen? ⟨gc, n, none⟩ = false := by
  obtain ⟨C, h1, h2, h3⟩ := h.top
  exact ⟨⟨C[n]'(by omega), (cell_of_row _ _ _ _ _ _ h1).trans (Array.getElem?_eq_getElem (by omega))⟩, by simp [World.frozen?, h1]⟩
/-- A count is stored. -/
theorem WaysAt.put {W : World} {gc R T K n s : Nat} {G : Nat → Nat} {S S' : Nat → Nat → Int} (h : WaysAt W gc R T K G S) (hn : n < K) (hs : s < T) (hS : ∀ m t, m < K → t < T → ¬ (m = n ∧ t = s) → S' m t = S m t) :
    WaysAt (W.setCell ⟨G n, s, none⟩ (.int .i64 (S' n s))) gc R T K G S' := by
  obtain ⟨Y, h1, h2, h3⟩ := h.rows n hn
  refine ⟨?_, fun m hm => ?_, h.inj⟩
  · obtain ⟨C, c1, c2⟩ := h.top
    exact ⟨C, by rw [heap_set_other _ _ _ _ _ (fun e => by rw [e, h1] at c1; cases c1)]; exact c1, c2⟩
  · by_cases e : m = n
    · subst e
      refine ⟨Y.setIfInBounds s (.int .i64 (S' m s)), row_setCell _ _ _ _ _ _ _ h1, by simp [h2], fun t ht => ?_⟩
      by_cases e2 : t = s
      · subst e2
        rw [Array.getElem?_setIfInBounds_self_of_lt (by omega)]
      · rw [Array.getElem?_setIfInBounds_ne (fun e' => e2 e'.symm), hS m t hm ht (fun e' => e2 e'.2)]
        exact h3 t ht
    · obtain ⟨Z, z1, z2, z3⟩ := h.rows m hm
      refine ⟨Z, by rw [heap_set_other _ _ _ _ _ (fun e' => e (h.inj m n hm hn e'))]; exact z1, z2, fun t ht => ?_⟩
      rw [hS m t hm ht (fun e' => e e'.1)]
      exact z3 t ht
/-- One more row is laid, and stored. -/
theorem WaysAt.more {W : World} {gc R T K : Nat} {G : Nat → Nat} {S : Nat → Nat → Int} (h : WaysAt W gc R T K G S) (hK : K ≤ R) (g : Nat) (Y : Array Value) (hg : W.heap[g]? = some (.cells Y 2 (0, 0))) (hY : Y.size = T) (hY0 : ∀ s, s < T → Y[s]? = some (.int .i64 (S K s)))
    (hnew : ∀ n, n < K → G n ≠ g) : WaysAt (W.setCell ⟨gc, K, none⟩ (.slice (some ⟨g, 0, none⟩) T T)) gc R T (K + 1) (fun n => if n = K then g else G n) S := by
  obtain ⟨C, c1, c2, c3⟩ := h.top
  have hne : ∀ b Z, W.heap[b]? = some (Obj.cells Z 2 (0, 0)) → b ≠ gc := fun b Z hb e => by rw [e, c1] at hb; cases hb
  refine ⟨⟨C.setIfInBounds K (.slice (some ⟨g, 0, none⟩) T T), row_setCell _ _ _ _ _ _ _ c1, by simp [c2], fun n hn => ?_⟩, fun n hn => ?_, fun n m hn hm e => ?_⟩
  · by_cases e : n = K
    · subst e
      rw [Array.getElem?_setIfInBounds_self_of_lt (by omega)]
      simp
    · rw [Array.getElem?_setIfInBounds_ne (fun e' => e e'.symm), if_neg e]
      exact c3 n (by omega)
  · by_cases e : n = K
    · subst e
      refine ⟨Y, ?_, hY, hY0⟩
      simp only [if_true]
      rw [heap_set_other _ _ _ _ _ (hne g Y hg)]
      exact hg
    · obtain ⟨Z, z1, z2, z3⟩ := h.rows n (by omega)
      refine ⟨Z, ?_, z2, z3⟩
      simp only [e, if_false]
      rw [heap_set_other _ _ _ _ _ (hne _ Z z1)]
      exact z1
  · by_cases e1 : n = K
    · by_cases e2 : m = K
      · omega
      · simp only [e1, if_true, e2, if_false] at e
        exact absurd e.symm (hnew m (by omega))
    · by_cases e2 : m = K
      · simp only [e1, if_false, e2, if_true] at e
        exact absurd e (hnew n (by omega))
      · simp only [e1, e2, if_false] at e
        exact h.inj n m (by omega) (by omega) e

/-- Each number below 4096 is that of some marks. -/
theorem setNo_of (y : Nat) (h : y < 4096) : setNo (fun i => y.testBit i) = y := by
  apply Nat.eq_of_testBit_eq
  intro i
  rw [setNo_bit]
  by_cases hi : i < 12
  · simp [hi]
  · have : y.testBit i = false := Nat.testBit_lt_two_pow (Nat.lt_of_lt_of_le h (show 2 ^ 12 ≤ 2 ^ i from Nat.pow_le_pow_right (by decide) (by omega)))
    simp [hi, this]
section
variable {ops : Array Oper} {rest : List Oper} {o : Oper} {a : Act} {w : World} {Q : Exit → Act → World → Prop}
/-- The step of the loop over the map. -/
theorem wpList_next92 (hg : o.guard = none) (it : Operand) (hop : o.op = Op.next it false) (b r n : Nat) (D : DataW Unit) (left : Lit → Bool) (cnt : Nat) (ys : List Nat) (hit : a.eval it = .pointer (some ⟨r, 0, none⟩)) (h : w.ranges Try.prog 92 (plainElem Try.prog 2) b r n D left cnt)
    (hl : ∀ kl, left kl = true → ∃ M, kl = klOf M) (hD : ∀ M, D.atKey (klOf M) (.lit (.int .i64 0)) = .lit (.int .i64 ((ys.count (setNo M) : Nat) : Int)))
    (hDone : (∀ kl, left kl = false) → wpList Try.prog ops Q rest (a.put o.dst (.tuple #[.bool false])) w)
    (hMore : ∀ (M : Nat → Bool) (w' : World) (cnt' : Nat), left (klOf M) = true → w'.ranges Try.prog 92 (plainElem Try.prog 2) b r n D (fun z => left z && !z.sameKey (klOf M)) cnt' → cnt' < cnt → w.grownBy w' (some r) → w'.heap.size = w.heap.size →
      (Instr.entry (.pointer (some ⟨r, 0, none⟩))).run Try.prog w' = .ok (.tuple #[.agg (bitCells M), .int .i64 ((ys.count (setNo M) : Nat) : Int)]) w' →
      wpList Try.prog ops Q rest (a.put o.dst (.tuple #[.bool true, .agg (bitCells M), .int .i64 ((ys.count (setNo M) : Nat) : Int)])) w') : wpList Try.prog ops Q (o :: rest) a w := by
  refine wpList_next_ranges w hg it hop 92 law92 (plainElem Try.prog 2) (fun v : Value => v) (Value.int .i64) (fun key kl _ => ⟨key, rfl⟩) (fun v y hv => by obtain ⟨c, rfl, _⟩ := plainElem_int_inv under2 hv; exact ⟨c, rfl⟩) b r n D left cnt hit h (fun _ h => hDone h) ?_
  intro x c kl y w' cnt' hkey hlk hv hat hrg hlt hgr hsz hen
  obtain ⟨M, rfl⟩ := hl kl hlk
  obtain rfl : x = .agg (bitCells M) := law92.inj hkey (key_bits M)
  obtain ⟨c', ec, hy, _⟩ := plainElem_int_inv under2 hv
  cases ec
  have h1 := hat (.lit (.int .i64 0))
  rw [hD M, hy] at h1
  cases h1
  exact hMore M w' cnt' hlk hrg hlt hgr hsz hen
end
end Go.Proofs.Ytlaakmgdbhabfaa

/- ways. -/
namespace Go.Proofs.Ytlaakmgdbhabfaa
open Go.RowKit Go.Shelf Go.Maps
attribute [local irreducible] bitCells fitCells Z94 fitOf

/-- The sets of marks of ys, each once, with how often. -/
def Keys (ys : List Nat) (P : List (Nat × Nat)) : Prop := (P.map (·.1)).Nodup ∧ (∀ y, y ∈ P.map (·.1) ↔ y ∈ ys) ∧ ∀ p, p ∈ P → p.2 = ys.count p.1
/-- Those of them that have come, while others are left. -/
structure KeysLeft (ys : List Nat) (left : Lit → Bool) (P : List (Nat × Nat)) : Prop where
  nodup : (P.map (·.1)).Nodup
  mem : ∀ p, p ∈ P → p.1 ∈ ys ∧ p.2 = ys.count p.1
  isLeft : ∀ M, left (klOf M) = true ↔ (setNo M ∈ ys ∧ setNo M ∉ P.map (·.1))
  all : ∀ kl, left kl = true → ∃ M, kl = klOf M
theorem KeysLeft.done {ys : List Nat} {left : Lit → Bool} {P : List (Nat × Nat)} (h : KeysLeft ys left P) (hys : ∀ y, y ∈ ys → y < 4096) (hl : ∀ kl, left kl = false) : Keys ys P := by
  refine ⟨h.nodup, fun y => ⟨fun hy => ?_, fun hy => ?_⟩, fun p hp => (h.mem p hp).2⟩
  · obtain ⟨p, hp, rfl⟩ := List.mem_map.1 hy
    exact (h.mem p hp).1
  · have hs := setNo_of y (hys y hy)
    have := (h.isLeft (fun i => y.testBit i))
    rw [hs, hl] at this
    refine Classical.byContradiction fun hn => ?_
    have h9 := this.2 ⟨hy, hn⟩
    cases h9
theorem KeysLeft.step {ys : List Nat} {left : Lit → Bool} {P : List (Nat × Nat)} (h : KeysLeft ys left P) {M : Nat → Bool} (hM : left (klOf M) = true) : KeysLeft ys (fun z => left z && !z.sameKey (klOf M)) (P ++ [(setNo M, ys.count (setNo M))]) := by
  obtain ⟨h1, h2⟩ := (h.isLeft M).1 hM
  refine ⟨?_, fun p hp => ?_, fun M' => ?_, fun kl hkl => h.all kl (by simp only [Bool.and_eq_true] at hkl; exact hkl.1)⟩
  · rw [List.map_append, List.nodup_append]
    refine ⟨h.nodup, by simp, fun a ha c hc e => ?_⟩
    simp at hc
    subst hc
    exact h2 (e ▸ ha)
  · rcases List.mem_append.1 hp with hp | hp
    · exact h.mem p hp
    · rw [List.mem_singleton.1 hp]; exact ⟨h1, rfl⟩
  · have hk : (klOf M').sameKey (klOf M) = decide (setNo M' = setNo M) := by
      by_cases e : klOf M' = klOf M
      · rw [decide_eq_true (setNo_cells.2 e), e]
        simp [klOf, Lit.sameKey]
      · rw [decide_eq_false (fun h => e (setNo_cells.1 h)), sameKey_ne e]
    rw [hk, Bool.and_eq_true, h.isLeft M']
    simp only [List.map_append, List.map_cons, List.map_nil, List.mem_append, List.mem_singleton, not_or, Bool.not_eq_true', decide_eq_false_iff_not]
    constructor
    · rintro ⟨⟨a, b⟩, c⟩; exact ⟨a, b, c⟩
    · rintro ⟨a, b, c⟩; exact ⟨⟨a, b⟩, c⟩
section
variable {W W' : World} {b r n : Nat} {D : DataW Unit} {left : Lit → Bool} {cnt : Nat}
theorem ranges_of (h : W.ranges Try.prog 92 (plainElem Try.prog 2) b r n D left cnt) (hb : W'.heap[b]? = W.heap[b]?) (hr : W'.heap[r]? = W.heap[r]?) : W'.ranges Try.prog 92 (plainElem Try.prog 2) b r n D left cnt := by
  obtain ⟨es, clock, since, seen, c0, h1, F, hs, hD, h2, rest⟩ := h
  exact ⟨es, clock, since, seen, c0, hb.trans h1, F, hs, hD, hr.trans h2, rest⟩
theorem ranges_blocks (h : W.ranges Try.prog 92 (plainElem Try.prog 2) b r n D left cnt) : (∀ cs t fr, W.heap[b]? ≠ some (.cells cs t fr)) ∧ ∀ cs t fr, W.heap[r]? ≠ some (.cells cs t fr) := by
  obtain ⟨es, clock, since, seen, c0, h1, F, hs, hD, h2, rest⟩ := h
  exact ⟨fun cs t fr e => (by rw [h1] at e; cases e), fun cs t fr e => (by rw [h2] at e; cases e)⟩
theorem ranges_ext (h : W.ranges Try.prog 92 (plainElem Try.prog 2) b r n D left cnt) (e : Ext W W') : W'.ranges Try.prog 92 (plainElem Try.prog 2) b r n D left cnt := ranges_of h (row_ext_eq e h.owns.lt) (row_ext_eq e h.lt)
theorem ranges_set (h : W.ranges Try.prog 92 (plainElem Try.prog 2) b r n D left cnt) {g s : Nat} {v : Value} {cs : Array Value} {t : TypeId} {fr : Nat × Nat} (hg : W.heap[g]? = some (.cells cs t fr)) : (W.setCell ⟨g, s, none⟩ v).ranges Try.prog 92 (plainElem Try.prog 2) b r n D left cnt := by
  obtain ⟨h1, h2⟩ := ranges_blocks h
  exact ranges_of h (heap_set_other _ _ _ _ _ (fun e => h1 _ _ _ (e ▸ hg))) (heap_set_other _ _ _ _ _ (fun e => h2 _ _ _ (e ▸ hg)))
theorem kept_grown (hg : W.grownBy W' (some r)) (hr : ∀ cs t fr, W.heap[r]? ≠ some (.cells cs t fr)) : CellsKept W W' := fun b cs t fr hb =>
  (hg.block b (Array.getElem?_eq_some_iff.1 hb).1 (fun e => by cases e; exact hr _ _ _ hb)).trans hb
end
abbrev zz92 : Array Value := #[.int .i64 0, .int .i64 0, .int .i64 0, .int .i64 0, .int .i64 0, .int .i64 0, .int .i64 0, .int .i64 0, .int .i64 0, .int .i64 0, .int .i64 0, .int .i64 0]
/-- The rows above k have been added to. -/
def partRows (T : Nat) (S : Nat → Nat → Int) (p : Nat × Nat) (k : Nat) : Nat → Nat → Int := fun m => if k < m then keyStep T S p m else S m
/-- .. and row k + 1 is under way. -/
def midRows (T : Nat) (S : Nat → Nat → Int) (p : Nat × Nat) (k j : Nat) : Nat → Nat → Int := fun m => if k + 1 < m then keyStep T S p m else if m = k + 1 then addTo (S k) (S (k + 1)) p.1 (p.2 : Int) j else S m
theorem part_zero (T : Nat) (S : Nat → Nat → Int) (p : Nat × Nat) : partRows T S p 0 = keyStep T S p := by
  funext m
  unfold partRows
  by_cases h : 0 < m
  · rw [if_pos h]
  · obtain rfl : m = 0 := by omega
    rw [if_neg h]
    simp [keyStep]
theorem mid_zero (T : Nat) (S : Nat → Nat → Int) (p : Nat × Nat) (k : Nat) : midRows T S p k 0 = partRows T S p (k + 1) := by
  funext m
  unfold midRows partRows
  by_cases h : k + 1 < m
  · rw [if_pos h, if_pos h]
  · rw [if_neg h, if_neg h]
    by_cases e : m = k + 1
    · rw [if_pos e, e]; rfl
    · rw [if_neg e]
theorem mid_full (T : Nat) (S : Nat → Nat → Int) (p : Nat × Nat) (k : Nat) : midRows T S p k T = partRows T S p k := by
  funext m
  unfold midRows partRows
  by_cases h : k + 1 < m
  · rw [if_pos h, if_pos (by omega)]
  · rw [if_neg h]
    by_cases e : m = k + 1
    · rw [if_pos e, if_pos (by omega), e]
      simp [keyStep]
    · rw [if_neg e, if_neg (by omega)]
theorem mid_prev (T : Nat) (S : Nat → Nat → Int) (p : Nat × Nat) (k j : Nat) : midRows T S p k j k = S k := by
  unfold midRows
  rw [if_neg (by omega), if_neg (by omega)]
theorem mid_here (T : Nat) (S : Nat → Nat → Int) (p : Nat × Nat) (k j : Nat) : midRows T S p k j (k + 1) = addTo (S k) (S (k + 1)) p.1 (p.2 : Int) j := by
  unfold midRows
  rw [if_neg (by omega), if_pos rfl]
theorem mid_new (T : Nat) (S : Nat → Nat → Int) (p : Nat × Nat) (k j : Nat) : midRows T S p k (j + 1) (k + 1) (j ||| p.1) = min (addTo (S k) (S (k + 1)) p.1 (p.2 : Int) j (j ||| p.1) + S k j * (p.2 : Int)) CAP := by
  rw [mid_here]
  exact if_pos rfl
theorem mid_same (T : Nat) (S : Nat → Nat → Int) (p : Nat × Nat) (k j m t : Nat) (h : ¬ (m = k + 1 ∧ t = j ||| p.1)) : midRows T S p k (j + 1) m t = midRows T S p k j m t := by
  unfold midRows
  by_cases h1 : k + 1 < m
  · rw [if_pos h1, if_pos h1]
  · rw [if_neg h1, if_neg h1]
    by_cases e : m = k + 1
    · rw [if_pos e, if_pos e]
      show (if t = j ||| p.1 then _ else _) = _
      rw [if_neg (fun h2 => h ⟨e, h2⟩)]
    · rw [if_neg e, if_neg e]

set_option maxRecDepth 100000 in
set_option maxHeartbeats 4000000 in
theorem ways_any {w : World} {pc b bm : Nat} {ys : List Nat} {A : Option Addr} {n c : Nat} {A' : Option Addr} {n' c' : Nat} {A2 : Option Addr} {k2 c2 : Nat} {cs ms : List (Int × Int)} (hC : ChoiceAt w pc b bm ys) (hO : IsOpen w b A n c A' n' c' A2 k2 c2 cs ms) (h0 : sheetErr cs ms = 0)
    (hys : ∀ y, y ∈ ys → y < 2 ^ n') (hyl : ys.length ≤ 1000) (R : Nat) (hR : R ≤ 4096) :
    Calls Try.prog 82 #[.pointer (some ⟨pc, 0, none⟩), .int .i64 (R : Int)] w fun e w' => Ext w w' ∧ ∃ P, Keys ys P ∧ e = .returned (.int .i64 (waysFold (2 ^ n') P R (2 ^ n' - 1))) := by
  have hbl := (Array.getElem?_eq_some_iff.1 hO.row).1
  have hpl := (Array.getElem?_eq_some_iff.1 hC.row).1
  have hn12 : n' ≤ 12 := by have := (sheet_ok h0).1; have := hO.sheet.nms; omega
  have HO := Lib.hid hO
  have HC := Lib.hid hC
  have HYS := Lib.hid (And.intro hys hyl)
  have hT := wrap_pow n' hn12
  have hT4 : 2 ^ n' ≤ 4096 := (Nat.pow_le_pow_right (by decide) hn12 : 2 ^ n' ≤ 2 ^ 12)
  have hT1 : 1 ≤ 2 ^ n' := Nat.one_le_two_pow
  have hT2 : ((2 : Int) ^ n') = ((2 ^ n' : Nat) : Int) := by simp
  obtain ⟨T, hTe⟩ : ∃ T, 2 ^ n' = T := ⟨_, rfl⟩
  rw [hTe] at hT hT4 hT1 hT2 ⊢
  have HTE := Lib.hid hTe
  have hmk145 : ∀ W : World, (Instr.makeSlice 145 (.int .i64 ((R : Int) + 1)) (.int .i64 ((R : Int) + 1))).run Try.prog W = .ok (.slice (some ⟨W.heap.size, 0, none⟩) (R + 1) (R + 1)) (W.alloc (.cells (madeCells #[.slice none 0 0] (R + 1)) 34)) := fun W => by
    have := run_make_row' (P := Try.prog) 145 34 (.slice none 0 0) 24 (by kernel_rfl) (by kernel_rfl) rfl .i64 .i64 (R + 1) (by omega) (by omega) W
    rw [show ((R + 1 : Nat) : Int) = (R : Int) + 1 from by omega] at this
    exact this
  have hmk34 : ∀ W : World, (Instr.makeSlice 34 (.int .i64 (T : Int)) (.int .i64 (T : Int))).run Try.prog W = .ok (.slice (some ⟨W.heap.size, 0, none⟩) T T) (W.alloc (.cells (madeCells #[.int .i64 0] T) 2)) := fun W =>
    run_make_row' (P := Try.prog) 34 2 (.int .i64 0) 8 (by kernel_rfl) (by kernel_rfl) rfl .i64 .i64 T (by omega) (by omega) W
  clear hTe hC hO h0 hys hyl
  go_enter Try.func82, Try.ntmps82
  go_wp2
  obtain ⟨w2, hw2⟩ : ∃ w2, w.alloc (.cells (madeCells #[.slice none 0 0] (R + 1)) 34) = w2 := ⟨_, rfl⟩
  have e2 : Ext w w2 := by rw [← hw2]; exact ext_alloc _ _
  have hWa : WaysAt w2 w.heap.size R T 0 (fun _ => 0) (fun _ _ => 0) := ⟨⟨_, by rw [← hw2]; exact row_last _ _ _ rfl, size_madeCells _ _, fun n h => absurd h (Nat.not_lt_zero _)⟩, fun n h => absurd h (Nat.not_lt_zero _), fun n m h => absurd h (Nat.not_lt_zero _)⟩
  rw [hw2]
  have HE2 := Lib.hid e2
  have HWA := Lib.hid hWa
  clear hw2 e2 hWa hmk145
  go_loopw [19] (fun i wr => ∃ k : Nat, k ≤ R + 1 ∧ i = .int .i64 k ∧ Hid (Ext w wr) ∧ Hid (∃ G, WaysAt wr w.heap.size R T k G (fun _ _ => 0) ∧ ∀ j, j < k → w.heap.size ≤ G j ∧ G j < wr.heap.size)) (fun i _ => R + 1 - (intOf i).toNat)
  case atStart => exact ⟨0, Nat.zero_le _, rfl, HE2, Lib.hid ⟨_, HWA.out, fun j h => absurd h (Nat.not_lt_zero _)⟩⟩
  case round =>
    obtain ⟨k, hk, rfl, hE, hG⟩ := hrel
    by_cases hlt : k < R + 1
    · have hltz : (k : Int) < (R : Int) + 1 := by omega
      obtain ⟨G, hWa, hGl⟩ := hG.out
      obtain ⟨q0, q1, q2⟩ := (HO.out.ext hE.out).cells
      have r0 : wr.cell? ⟨pc, 0, none⟩ = some (.pointer (some ⟨b, 0, none⟩)) := cell_of_row _ _ _ _ _ _ (HC.out.ext hE.out).row
      have e4 : Ext wr (wr.alloc (.cells (madeCells #[.int .i64 0] T) 2)) := ext_alloc _ _
      obtain ⟨⟨u5, c5⟩, f5⟩ := (hWa.ext e4).topCell (n := k) (by omega)
      have hm := (hWa.ext e4).more (by omega) wr.heap.size _ (row_last wr (.cells (madeCells #[.int .i64 0] T) 2) _ rfl) (size_madeCells _ _) (fun s hs => made_get _ _ _ hs) (fun j hj e => by have := hGl j hj; omega)
      have hws : w.heap.size ≤ wr.heap.size := hE.out.size
      have HMM := Lib.hid hm
      have HGL := Lib.hid hGl
      have HE4 := Lib.hid (hE.out.trans e4)
      clear hm hWa hGl e4 hG hE
      go_wp2
      go_roundw
      case measure => simp [intOf]; omega
      case rel =>
        refine ⟨k + 1, by omega, by go_num, Lib.hid (HE4.out.setCell (p := ⟨w.heap.size, k, none⟩) (Nat.le_refl _) _), Lib.hid ⟨_, HMM.out, fun j hj => ?_⟩⟩
        have h9 : (wr.alloc (.cells (madeCells #[.int .i64 0] T) 2)).heap.size = wr.heap.size + 1 := by simp
        show w.heap.size ≤ (if j = k then wr.heap.size else G j) ∧ (if j = k then wr.heap.size else G j) < (World.setCell _ _ _).heap.size
        rw [show (World.setCell (wr.alloc (.cells (madeCells #[.int .i64 0] T) 2)) ⟨w.heap.size, k, none⟩ (.slice (some ⟨wr.heap.size, 0, none⟩) T T)).heap.size = wr.heap.size + 1 from by simp [World.setCell]]
        split
        · omega
        · have := HGL.out j (by omega); omega
    · have hltz : ¬ (k : Int) < (R : Int) + 1 := by omega
      obtain rfl : k = R + 1 := by omega
      obtain ⟨G, hWa, hGl⟩ := hG.out
      have hsl := hWa.slice (n := 0) (by omega)
      obtain ⟨g00, f00⟩ := hWa.get (n := 0) (s := 0) (by omega) hT1
      have hput : WaysAt (wr.setCell ⟨G 0, 0, none⟩ (.int .i64 1)) w.heap.size R T (R + 1) G ways0 := hWa.put (n := 0) (s := 0) (S' := ways0) (by omega) hT1 (fun m t _ _ h => by unfold ways0; rw [if_neg h])
      have e3 : Ext w (wr.setCell ⟨G 0, 0, none⟩ (.int .i64 1)) := hE.out.setCell (hGl 0 (by omega)).1 _
      have hC3 := HC.out.ext e3
      have r2 : (wr.setCell ⟨G 0, 0, none⟩ (.int .i64 1)).cell? ⟨pc, 0, none⟩ = some (.pointer (some ⟨b, 0, none⟩)) := cell_of_row _ _ _ _ _ _ hC3.row
      have r3 : (wr.setCell ⟨G 0, 0, none⟩ (.int .i64 1)).cell? ⟨pc, 1, none⟩ = some (.map (some bm)) := cell_of_row _ _ _ _ _ _ hC3.row
      obtain ⟨nn, D, hnn, hown, hD, hDk⟩ := hC3.map
      have HPUT := Lib.hid hput
      have HE3 := Lib.hid e3
      have HD := Lib.hid (And.intro hD hDk)
      have HGL := Lib.hid (fun j (hj : j < R + 1) => (hGl j hj).1)
      clear hput e3 hC3 hD hDk hGl hWa hG hE hmk34 hT hT2
      go_wp2_with (first
        | (at_range; refine wpList_range_own _ rfl _ 136 rfl 92 2 law92 under136 _ bm nn _ rfl hown ?_; intro w4 hrg0 hg0 hs0)
        | go_in)
      have e4 : Ext w w4 := HE3.out.trans (ext_grow hg0)
      have hW4 : WaysAt w4 w.heap.size R T (R + 1) G ways0 := HPUT.out.ext (ext_grow hg0)
      have hrw : w.heap.size ≤ (wr.setCell ⟨G 0, 0, none⟩ (.int .i64 1)).heap.size := HE3.out.size
      have hze : (wr.setCell ⟨G 0, 0, none⟩ (.int .i64 1)).heap.size = wr.heap.size := by simp [World.setCell]
      rw [hze] at hrg0 hs0 hrw
      generalize hr : wr.heap.size = r at hrg0 hs0 hrw ⊢
      have HE4 := Lib.hid e4
      have HW4 := Lib.hid hW4
      have HRG := Lib.hid hrg0
      clear e4 hW4 hg0 hs0 hze hr HPUT HE3 r2 r3 hown hsl g00 f00 HE2 HWA hrg0 hlt hk
      go_loopw [8] (fun _ wr => ∃ (left : Lit → Bool) (cnt : Nat) (P : List (Nat × Nat)), wr.ranges Try.prog 92 (plainElem Try.prog 2) bm r nn D left cnt ∧ Hid (KeysLeft ys left P) ∧ Hid (WaysAt wr w.heap.size R T (R + 1) G (waysFold T P)) ∧ Hid (Ext w wr))
        (fun _ wr => wr.rangeLeft bm r)
      case atStart => exact ⟨_, _, [], HRG.out, Lib.hid ⟨by simp, fun p hp => (by cases hp), fun M => by simp [(HD.out.1 M).1], HD.out.2⟩, HW4, HE4⟩
      case round =>
        obtain ⟨left, cnt, P, hrg, hKL, hWP, hE⟩ := hrel
        clear HW4 HE4 HRG
        have hKM := hKL.out.all
        have hDM := fun M => (HD.out.1 M).2
        have HKM := Lib.hid hKM
        have HDM := Lib.hid hDM
        clear hKM hDM
        go_wp2_with (first
          | (at_next; refine wpList_next92 rfl _ rfl bm r nn D left cnt ys rfl hrg HKM.out HDM.out ?_ ?_)
          | go_in)
        · intro hl0
          have hK := hKL.out.done (fun y hy => Nat.lt_of_lt_of_le (HYS.out.1 y hy) (by rw [HTE.out]; exact hT4)) hl0
          have hs2 := hWP.out.slice (n := R) (by omega)
          obtain ⟨U, rfl⟩ : ∃ U, T = U + 1 := ⟨T - 1, by omega⟩
          obtain ⟨g2, f2⟩ := hWP.out.get (n := R) (s := U) (by omega) (by omega)
          have HK := Lib.hid hK
          obtain ⟨v, hv⟩ : ∃ v, waysFold (U + 1) P R U = v := ⟨_, rfl⟩
          rw [hv] at g2
          have HV := Lib.hid hv
          clear hK hKL hWP hrg hv HKM HDM hl0
          go_wp2_with (fail)
          go_quiet (fail)
          go_wp2
          go_ret
          exact ⟨bdrewN hE.out _, P, HK.out, by rw [← HV.out]; rfl⟩
        · intro M w5 cnt5 hlM hrg5 hlt5 hg5 hs5 hen
          obtain ⟨hb0, hr0⟩ := ranges_blocks hrg
          have hk5 : CellsKept wr w5 := kept_grown hg5 hr0
          have hW5 := hWP.out.kept hk5
          have e5 : Ext w w5 := Below.grown hE.out hg5 (hE.out.size) fun r' e => by cases e; exact hrw
          have hKn := hKL.out.step hlM
          obtain ⟨hin, hnot⟩ := (hKL.out.isLeft M).1 hlM
          have hset : setNo M < T := by rw [← HTE.out]; exact HYS.out.1 _ hin
          have hcnt : ys.count (setNo M) ≤ 1000 := Nat.le_trans List.count_le_length HYS.out.2
          have hrem : wr.rangeLeft bm r = cnt := hrg.left_eq
          have HREM := Lib.hid (And.intro hrem hlt5)
          have hsz : w.heap.size ≤ w5.heap.size := e5.size
          obtain ⟨w6, hw6⟩ : ∃ w6, (w5.alloc (.cells zz92 92)).setRow w5.heap.size (bitCells M) = w6 := ⟨_, rfl⟩
          have hz0 : (w5.alloc (.cells zz92 92)).heap[w5.heap.size]? = some (.cells zz92 92 (0, 0)) := row_last w5 _ _ rfl
          have hbx : w6.heap[w5.heap.size]? = some (.cells (bitCells M) 92 (0, 0)) := by rw [← hw6]; exact row_setRow _ _ _ _ _ _ hz0
          have e6 : Ext w5 w6 := by rw [← hw6]; exact below_setRow (ext_alloc w5 _) (Nat.le_refl _) _
          have hf92 := bitCells_size M
          have hone := bitCells_one M
          have hstb := set_any M w6
          have hW6 := hW5.ext e6
          have hR6 := ranges_ext hrg5 e6
          have e6w := e5.trans e6
          obtain ⟨st, hst⟩ : ∃ st, setNo M = st := ⟨_, rfl⟩
          obtain ⟨ct, hct⟩ : ∃ ct, ys.count st = ct := ⟨_, rfl⟩
          obtain ⟨f, hf⟩ : ∃ f, bitCells M = f := ⟨_, rfl⟩
          rw [hst] at hKn hset hcnt hstb hen
          rw [hct] at hKn hcnt hen
          rw [hf] at hbx hf92 hone hstb hen hw6
          have HKN := Lib.hid hKn
          have HW6 := Lib.hid hW6
          have HR6 := Lib.hid hR6
          have HE6 := Lib.hid e6w
          have HST := Lib.hid hst
          clear hKL hWP hE hrg hb0 hr0 hk5 hW5 e5 hKn hin hnot hrem hlM hrg5 hg5 e6 hW6 hR6 e6w hf hst hct HKM HDM hs5 hlt5
          go_wp2_with (first | (refine wpList_store92 (.tmp 7) (.tmp 49) rfl rfl w5.heap.size rfl f zz92 hf92 rfl hone rfl hz0 ?_; rw [hw6]) | refine wpList_load92 (.tmp 7) rfl rfl w5.heap.size rfl f hf92 hbx ?_ | (refine hstb.mono ?_; rintro e w7 ⟨rfl, e7⟩))
          have HW7 := Lib.hid (HW6.out.ext e7)
          have HR7 := Lib.hid (ranges_ext HR6.out e7)
          have HE7 := Lib.hid (HE6.out.trans e7)
          have hScap := waysFold_cap T P
          have hSn := waysFold_snoc T P (st, ct)
          obtain ⟨S, hS⟩ : ∃ S, waysFold T P = S := ⟨_, rfl⟩
          rw [hS] at HW7 HW6 hScap hSn
          have HSN := Lib.hid hSn
          have HCAP := Lib.hid hScap
          clear HW6 HR6 HE6 hS hSn hScap e7 hbx hz0 hone hf92 hstb hen hw6 hsz
          go_loopw [10] (fun i wr => ∃ k : Nat, k ≤ R ∧ i = .int .i64 k ∧ Hid (wr.ranges Try.prog 92 (plainElem Try.prog 2) bm r nn D (fun z => left z && !z.sameKey (klOf M)) cnt5) ∧ Hid (WaysAt wr w.heap.size R T (R + 1) G (partRows T S (st, ct) k)) ∧ Hid (Ext w wr)) (fun i _ => (intOf i).toNat)
          case atStart => 
            refine ⟨R, Nat.le_refl _, rfl, HR7, Lib.hid (HW7.out.congr (fun n s hn hs => ?_)), HE7⟩
            unfold partRows
            rw [if_neg (by omega)]
          case round =>
            obtain ⟨k, hk, rfl, hR8, hW8, hE8⟩ := hrel
            clear HW7 HR7 HE7
            by_cases hk0 : k = 0
            · subst hk0
              have hend := hW8.out
              rw [part_zero, ← HSN.out] at hend
              have HEND := Lib.hid hend
              clear hend hW8 HSN
              go_wp2
              exact ⟨⟨_, cnt5, P ++ [(st, ct)], hR8.out, HKN, HEND, hE8⟩, by rw [hR8.out.left_eq, HREM.out.1]; exact HREM.out.2⟩
            · obtain ⟨q, rfl⟩ : ∃ q, k = q + 1 := ⟨k - 1, by omega⟩
              have hpos : (0 : Int) < ((q + 1 : Nat) : Int) := by omega
              have hsl := hW8.out.slice (n := q) (by omega)
              go_wp2
              go_loopw [64] (fun i wr => ∃ j : Nat, j ≤ T ∧ i = .int .i64 j ∧ Hid (wr.ranges Try.prog 92 (plainElem Try.prog 2) bm r nn D (fun z => left z && !z.sameKey (klOf M)) cnt5) ∧ Hid (WaysAt wr w.heap.size R T (R + 1) G (midRows T S (st, ct) q j)) ∧ Hid (Ext w wr)) (fun i _ => T - (intOf i).toNat)
              case atStart => exact ⟨0, Nat.zero_le _, rfl, hR8, by rw [mid_zero]; exact hW8, hE8⟩
              case round =>
                obtain ⟨j, hj, rfl, hR9, hW9, hE9⟩ := hrel
                clear hsl hW8 hR8 hE8
                by_cases hlt : j < T
                · have hjl : (j : Int) < (T : Int) := by omega
                  obtain ⟨g3, f3⟩ := hW9.out.get (n := q) (s := j) (by omega) hlt
                  rw [mid_prev] at g3
                  have hsl2 := hW9.out.slice (n := q + 1) (by omega)
                  have hor : j ||| st < T := by rw [← HTE.out]; exact Nat.or_lt_two_pow (by rw [HTE.out]; exact hlt) (by rw [HTE.out]; exact hset)
                  have hbo := bits_or j st (by omega) (by omega)
                  obtain ⟨g4, f4⟩ := hW9.out.get (n := q + 1) (s := j ||| st) (by omega) hor
                  have hnew := mid_new T S (st, ct) q j
                  have hsame := mid_same T S (st, ct) q j
                  rw [mid_here] at g4
                  have hx := addTo_cap (prev := S q) (row := S (q + 1)) (set := st) (a := (ct : Int)) (Int.natCast_nonneg _) (HCAP.out q) (HCAP.out (q + 1)) j (j ||| st)
                  have hy := HCAP.out q j
                  have hput : ∀ v, v = midRows T S (st, ct) q (j + 1) (q + 1) (j ||| st) → WaysAt (wr.setCell ⟨G (q + 1), j ||| st, none⟩ (.int .i64 v)) w.heap.size R T (R + 1) G (midRows T S (st, ct) q (j + 1)) := fun v hv => by
                    subst hv
                    exact hW9.out.put (by omega) hor (fun m t _ _ hne => hsame m t hne)
                  dsimp only at hnew hput hsame
                  have hGq : w.heap.size ≤ G (q + 1) := HGL.out _ (by omega)
                  have hrow := hW9.out.rows (q + 1) (by omega)
                  generalize hjs : j ||| st = js at hor hbo g4 f4 hnew hx hput
                  generalize addTo (S q) (S (q + 1)) st (ct : Int) j js = x at g4 hnew hx
                  generalize S q j = y at g3 hnew hx hy
                  obtain ⟨p1, hp1⟩ : ∃ p1 : Int, y * (ct : Int) = p1 := ⟨_, rfl⟩
                  have hp0 : 0 ≤ p1 := by rw [← hp1]; exact Int.mul_nonneg hy.1 (Int.natCast_nonneg _)
                  have hp2 : p1 ≤ 1099511627777 * 1000 := by
                    rw [← hp1]
                    exact Int.mul_le_mul hy.2 (by omega) (Int.natCast_nonneg _) (by decide)
                  rw [hp1] at hnew
                  go_wp2
                  obtain ⟨Y, hY, _⟩ := hrow
                  have hw : wrap64 (x + p1) = x + p1 := by unfold wrap64; unfold CAP at hx; omega
                  refine ⟨⟨j + 1, by omega, by go_num, Lib.hid (ranges_set hR9.out hY), Lib.hid (hput _ (by rw [hw, hnew])), Lib.hid (hE9.out.setCell hGq _)⟩, ?_⟩
                  simp [intOf]
                  omega
                · have hjl : ¬ (j : Int) < (T : Int) := by omega
                  obtain rfl : j = T := by omega
                  have hfull := hW9.out
                  rw [mid_full] at hfull
                  have HFULL := Lib.hid hfull
                  clear hfull hW9
                  go_wp2
                  refine ⟨⟨q, by omega, rfl, hR9, HFULL, hE9⟩, ?_⟩
                  simp [intOf]
end Go.Proofs.Ytlaakmgdbhabfaa

/- Count. -/
namespace Go.Proofs.Ytlaakmgdbhabfaa
open Go.RowKit Go.Shelf
attribute [local irreducible] bitCells fitCells Z94 fitOf

theorem noOf_lt (cs ms : List (Int × Int)) (x : Nat × Int) : noOf cs ms x < 2 ^ ms.length := by
  refine Nat.lt_pow_two_of_testBit _ fun i hi => ?_
  unfold noOf
  rw [setNo_bit]
  have : hadB cs ms x.1 x.2 i = false := by
    refine Bool.eq_false_iff.2 fun h => ?_
    unfold hadB at h
    rw [Bool.and_eq_true] at h
    obtain ⟨h1, h2⟩ := h
    unfold hitsTo at h1
    unfold hadTo at h2
    rw [List.all_eq_true] at h1
    rw [List.any_eq_true] at h2
    obtain ⟨t, ht, h3⟩ := h2
    have h4 := h1 t ht
    simp at h3 h4
    omega
  rw [this]
  simp
/-- How many rows the best ones have. -/
def bestLen (cs ms : List (Int × Int)) : Nat := lenOf (tabOf cs ms (allNos cs ms) (2 ^ ms.length - 1))
/-- How many best rows there are, for the sets of marks in this order. -/
def wayNum (cs ms : List (Int × Int)) (P : List (Nat × Nat)) : Int := waysFold (2 ^ ms.length) P (bestLen cs ms) (2 ^ ms.length - 1)
def countAns (cs ms : List (Int × Int)) (P : List (Nat × Nat)) : Int × Int := if wholeErr cs ms = 0 then if 1099511627776 < wayNum cs ms P then (0, 4) else (wayNum cs ms P, 0) else (0, wholeErr cs ms)

set_option maxRecDepth 100000 in
set_option maxHeartbeats 2000000 in
theorem count_any {A : Option Addr} {n c : Nat} {A' : Option Addr} {n' c' : Nat} {cs ms : List (Int × Int)} {w : World} (hb : IsSheet w w.heap.size A n c A' n' c' cs ms) :
    Calls Try.prog 49 #[.agg #[.slice A n c, .slice A' n' c']] w fun e w' => Ext w w' ∧ ∃ P, (wholeErr cs ms = 0 → Keys (allNos cs ms) P) ∧ e = .returned (.tuple #[.int .i64 (countAns cs ms P).1, .int .i64 (countAns cs ms P).2]) := by
  have e0 : Ext w (w.alloc (.cells #[.slice A n c, .slice A' n' c'] 25)) := ext_alloc _ _
  have hop := openedWhole_any (hb.ext e0)
  have hnm := hb.nms
  have HE := Lib.hid e0
  have HN := Lib.hid hnm
  clear hb e0 hnm
  go_enter Try.func49, Try.ntmps49
  go_wp2_with fail
  refine hop.mono ?_
  rintro e w1 ⟨e1, ⟨h0, rfl⟩ | ⟨hw0, h0, b, A2, k, c2, rfl, hO⟩⟩
  · have HE1 := Lib.hid (HE.out.trans e1)
    have H0 := Lib.hid h0
    obtain ⟨r, hr⟩ : ∃ r, wholeErr cs ms = r := ⟨_, rfl⟩
    have hans : ∀ P, countAns cs ms P = (0, r) := fun P => by unfold countAns; rw [if_neg h0, hr]
    rw [hr] at h0
    rw [hr]
    have hne : (r == 0) = false := by simpa using h0
    have hne2 : (r != 0) = true := by simpa using h0
    have HA := Lib.hid hans
    clear e1 hop hr hans h0
    go_wp2
    go_ret2
    exact ⟨HE1.out, [], fun h => absurd h H0.out, by rw [HA.out]; rfl⟩
  · have HE1 := Lib.hid (HE.out.trans e1)
    have hch := choosing_any hO h0
    have HO1 := Lib.hid hO
    have H0 := Lib.hid (And.intro hw0 h0)
    clear e1 hop hO h0 hw0
    go_wp2_with fail
    refine hch.mono ?_
    rintro e w2 ⟨e2, pc, bm, rfl, hpc, hbm, hrow, hal⟩
    have hC : ChoiceAt w2 pc b bm (allNos cs ms) := ⟨hrow, hal⟩
    have HC2 := Lib.hid hC
    have HO2 := Lib.hid (HO1.out.ext e2)
    have HE2 := Lib.hid (HE1.out.trans e2)
    have hfw := fewest_any hC HO2.out H0.out.2
    clear e2 hpc hbm hrow hal hC hch HO1 HE1
    go_wp2_with fail
    refine hfw.mono ?_
    rintro e w3 ⟨e3, g, rfl, hg, hTab⟩
    have hn12 : n' ≤ 12 := by have := (sheet_ok H0.out.2).1; have := HN.out; omega
    have hT4 : 2 ^ n' ≤ 4096 := (Nat.pow_le_pow_right (by decide) hn12 : 2 ^ n' ≤ 2 ^ 12)
    have hT1 : 1 ≤ 2 ^ n' := Nat.one_le_two_pow
    obtain ⟨va, ca, hva⟩ := hTab.get (s := 2 ^ n' - 1) (by omega)
    obtain ⟨Aa, cca, rfl⟩ := hva.len
    have hbl : lenOf ((tabTo (noOf cs ms) (leftOf cs ms (allNos cs ms) (fitsOf cs ms)) (2 ^ n')).getD (2 ^ n' - 1) none) = bestLen cs ms := by unfold bestLen tabOf; rw [HN.out]
    rw [hbl] at ca
    have hle : bestLen cs ms ≤ 2 ^ n' - 1 := by unfold bestLen; rw [← HN.out]; exact tabOf_le
    have hwy := ways_any (HC2.out.ext e3) (HO2.out.ext e3) H0.out.2 (fun y hy => by
      obtain ⟨x, _, rfl⟩ := List.mem_map.1 hy
      rw [HN.out]
      exact noOf_lt cs ms x) (by unfold allNos; rw [List.length_map]; have := fits_few H0.out.2; omega) (bestLen cs ms) (by omega)
    have hwn : ∀ P, countAns cs ms P = if 1099511627776 < waysFold (2 ^ n') P (bestLen cs ms) (2 ^ n' - 1) then (0, 4) else (waysFold (2 ^ n') P (bestLen cs ms) (2 ^ n' - 1), 0) := fun P => by
      unfold countAns wayNum
      rw [if_pos H0.out.1, HN.out]
    have HE3 := Lib.hid (HE2.out.trans e3)
    have HWN := Lib.hid hwn
    obtain ⟨T, hT⟩ : ∃ T, 2 ^ n' = T := ⟨_, rfl⟩
    rw [hT] at ca hwy HWN hT4 hT1 ⊢
    obtain ⟨U, rfl⟩ : ∃ U, T = U + 1 := ⟨T - 1, by omega⟩
    rw [Nat.add_sub_cancel] at ca hwy
    generalize bestLen cs ms = R at ca hwy HWN
    clear hfw e3 hTab hbl hle hva hwn hT HC2 HO2 hg HE2
    go_wp2_with fail
    refine hwy.mono ?_
    rintro e w4 ⟨e4, P, hP, rfl⟩
    have hw := HWN.out P
    rw [show U + 1 - 1 = U from rfl] at hw
    obtain ⟨v, hv⟩ : ∃ v, waysFold (U + 1) P R U = v := ⟨_, rfl⟩
    rw [hv] at hw ⊢
    have HE4 := Lib.hid (HE3.out.trans e4)
    have HP := Lib.hid hP
    clear e4 hP hv hwy ca
    by_cases hgt : 1099511627776 < v
    · rw [if_pos hgt] at hw
      have HW := Lib.hid hw
      clear hw
      go_wp2
      go_ret2
      exact ⟨HE4.out, P, fun _ => HP.out, by rw [HW.out]; rfl⟩
    · rw [if_neg hgt] at hw
      have HW := Lib.hid hw
      clear hw
      go_wp2
      go_ret2
      exact ⟨HE4.out, P, fun _ => HP.out, by rw [HW.out]; rfl⟩
end Go.Proofs.Ytlaakmgdbhabfaa

/- Which mark a number lies in: one at most. -/
namespace Go.Proofs.Ytlaakmgdbhabfaa
open Go.RowKit Go.Shelf

theorem inMark_iff (v : Int) (r : Int × Int) : inMark v r = decide (r.1 ≤ v ∧ v ≤ r.2) := by
  unfold inMark inside
  simp
theorem marks_get : ∀ (ms : List (Int × Int)) (f : Int), marksOk f ms = true → ∀ j (hj : j < ms.length), f ≤ ms[j].1 ∧ ms[j].1 ≤ ms[j].2 ∧ ms[j].2 ≤ 500 ∧ ms[j].2 - ms[j].1 ≤ 3
  | [], _, _, j, hj => absurd hj (Nat.not_lt_zero _)
  | m :: ms, f, h, j, hj => by
    have hm := marksOk_at f (m :: ms) 0 (by simp)
    rw [List.drop_zero, h] at hm
    have h2 : _ := Bool.and_eq_true_iff.1 hm.symm
    obtain ⟨h3, h4⟩ := h2
    simp only [List.getElem_cons_zero, decide_eq_true_eq] at h3
    cases j with
    | zero => simp only [List.getElem_cons_zero]; omega
    | succ j =>
      have ih := marks_get ms (m.2 + 1) (by simpa using h4) j (by simpa using hj)
      simp only [List.getElem_cons_succ]
      omega
theorem marks_lt : ∀ (ms : List (Int × Int)) (f : Int), marksOk f ms = true → ∀ i j (hi : i < j) (hj : j < ms.length), (ms[i]'(by omega)).2 < ms[j].1
  | [], _, _, i, j, _, hj => absurd hj (Nat.not_lt_zero _)
  | m :: ms, f, h, i, j, hi, hj => by
    have hm := marksOk_at f (m :: ms) 0 (by simp)
    rw [List.drop_zero, h] at hm
    obtain ⟨_, h4⟩ := Bool.and_eq_true_iff.1 hm.symm
    have h4' : marksOk (m.2 + 1) ms = true := by simpa using h4
    cases j with
    | zero => omega
    | succ j =>
      simp only [List.getElem_cons_succ]
      cases i with
      | zero =>
        have := marks_get ms (m.2 + 1) h4' j (by simpa using hj)
        simp only [List.getElem_cons_zero]
        omega
      | succ i =>
        simp only [List.getElem_cons_succ]
        exact marks_lt ms _ h4' i j (by omega) (by simpa using hj)
theorem hit_unique {ms : List (Int × Int)} {f v : Int} (h : marksOk f ms = true) {j : Nat} (hj : j < ms.length) (hv : inMark v ms[j] = true) : hitOf ms v = j := by
  unfold hitOf
  rw [List.findIdx_eq hj]
  refine ⟨hv, fun i hi => ?_⟩
  have := marks_lt ms f h i j hi hj
  rw [inMark_iff] at hv ⊢
  simp only [decide_eq_true_eq, decide_eq_false_iff_not] at hv ⊢
  omega
/-- The last of the first i marks in which a number lies, or -1. -/
def lastTo (ms : List (Int × Int)) (v : Int) (i : Nat) : Int := if hitOf ms v < i then (hitOf ms v : Int) else -1
theorem lastTo_succ {ms : List (Int × Int)} {f v : Int} (h : marksOk f ms = true) {i : Nat} (hi : i < ms.length) : lastTo ms v (i + 1) = if ms[i].1 ≤ v ∧ v ≤ ms[i].2 then (i : Int) else lastTo ms v i := by
  unfold lastTo
  by_cases hv : ms[i].1 ≤ v ∧ v ≤ ms[i].2
  · have : hitOf ms v = i := hit_unique h hi (by rw [inMark_iff]; simpa using hv)
    rw [if_pos hv, this, if_pos (by omega)]
  · rw [if_neg hv]
    have hne : hitOf ms v ≠ i := fun e => by
      have h1 : hitOf ms v < ms.length := by omega
      have h2 := List.findIdx_getElem (xs := ms) (p := inMark v) (w := h1)
      rw [inMark_iff] at h2
      simp only [decide_eq_true_eq] at h2
      have h3 : ms[ms.findIdx (inMark v)]'h1 = ms[i] := by congr 1
      rw [h3] at h2
      exact hv h2
    by_cases hl : hitOf ms v < i
    · rw [if_pos hl, if_pos (by omega)]
    · rw [if_neg hl, if_neg (by omega)]
/-- The marks that are hit, by bits. -/
def orTo (ms : List (Int × Int)) (sp x : Int) : Nat → Nat
  | 0 => 0
  | t + 1 => orTo ms sp x t ||| 2 ^ hitOf ms (x + t * sp)
/-- What the specification's function Bits answers at a row of a valid sheet. -/
def bitsOf (cs ms : List (Int × Int)) (k : Nat) (x : Int) : Nat :=
  if x < 0 ∨ 500 < x then 0 else if hitsTo ms (cs.getD k (0, 0)).1 x (cs.getD k (0, 0)).2.toNat = true then orTo ms (cs.getD k (0, 0)).1 x (cs.getD k (0, 0)).2.toNat else 0
theorem orTo_bit {ms : List (Int × Int)} {sp x : Int} : ∀ t, hitsTo ms sp x t = true → ∀ i, (orTo ms sp x t).testBit i = hadTo ms sp x t i
  | 0, _, i => by simp [orTo, hadTo]
  | t + 1, h, i => by
    rw [hitsTo_succ, Bool.and_eq_true] at h
    rw [hadTo_succ, ← orTo_bit t h.1 i]
    show (orTo ms sp x t ||| 2 ^ hitOf ms (x + t * sp)).testBit i = _
    rw [Nat.testBit_or, Nat.testBit_two_pow]
theorem orTo_lt {ms : List (Int × Int)} {sp x : Int} : ∀ t, hitsTo ms sp x t = true → orTo ms sp x t < 2 ^ ms.length
  | 0, _ => Nat.two_pow_pos _
  | t + 1, h => by
    rw [hitsTo_succ, Bool.and_eq_true] at h
    refine Nat.or_lt_two_pow (orTo_lt t h.1) ?_
    exact Nat.pow_lt_pow_right (by decide) (by simpa using h.2)
/-- For a place in the bounds they are the marks that the program tells. -/
theorem bits_no {cs ms : List (Int × Int)} {k : Nat} {x : Int} (hm : ms.length ≤ 12) (hx : 0 ≤ x ∧ x ≤ 500) : bitsOf cs ms k x = noOf cs ms (k, x) := by
  unfold bitsOf
  rw [if_neg (by omega)]
  apply Nat.eq_of_testBit_eq
  intro i
  unfold noOf
  rw [setNo_bit]
  unfold hadB
  dsimp only
  by_cases h : hitsTo ms (cs.getD k (0, 0)).1 x (cs.getD k (0, 0)).2.toNat = true
  · rw [if_pos h, orTo_bit _ h, h, Bool.true_and]
    by_cases hi : i < 12
    · simp [hi]
    · have : hadTo ms (cs.getD k (0, 0)).1 x (cs.getD k (0, 0)).2.toNat i = false := by
        rw [← orTo_bit _ h]
        exact Nat.testBit_lt_two_pow (Nat.lt_of_lt_of_le (orTo_lt _ h) (Nat.pow_le_pow_right (by decide) (by omega)))
      rw [this, Bool.and_false]
  · rw [if_neg h, Bool.eq_false_iff.2 h, Bool.false_and, Bool.and_false]
    exact Nat.zero_testBit i
end Go.Proofs.Ytlaakmgdbhabfaa

/- Bits of the reference. -/
namespace Go.Proofs.Ytlaakmgdbhabfaa
open Go.RowKit Go.Shelf

theorem comb_bounds {cs ms : List (Int × Int)} (h0 : sheetErr cs ms = 0) {k : Nat} (hk : k < cs.length) : (1 ≤ cs[k].1 ∧ cs[k].1 ≤ 50) ∧ 2 ≤ cs[k].2 ∧ cs[k].2 ≤ 20 := by
  have h := (sheet_ok h0).2.1
  rw [List.all_eq_true] at h
  have h1 := h _ (List.getElem_mem hk)
  unfold combBad inside at h1
  simp at h1
  exact h1

set_option maxRecDepth 100000 in
set_option maxHeartbeats 4000000 in
theorem bits_any {A : Option Addr} {n c : Nat} {A' : Option Addr} {n' c' : Nat} {cs ms : List (Int × Int)} {w : World} (hb : IsSheet w w.heap.size A n c A' n' c' cs ms) (h0 : sheetErr cs ms = 0) (k : Nat) (hk : k < cs.length) (x : Int) :
    Calls Try.prog 59 #[.agg #[.slice A n c, .slice A' n' c'], .agg #[.int .i64 (k : Int), .int .i64 x]] w fun e w' => e = .returned (.int .i64 ((bitsOf cs ms k x : Nat) : Int)) ∧ Ext w w' := by
  have hm0 := (sheet_ok h0).2.2
  have hm12 := (sheet_ok h0).1.2
  obtain ⟨⟨s1, s2⟩, t1, t2⟩ := comb_bounds h0 hk
  have hX0 : SheetAt ((w.alloc (.cells #[.slice A n c, .slice A' n' c'] 25)).alloc (.cells #[.int .i64 (k : Int), .int .i64 x] 27)) w.heap.size A n c A' n' c' cs ms := (SheetAt.new hb).ext (ext_alloc _ _)
  have hE0 : Ext w ((w.alloc (.cells #[.slice A n c, .slice A' n' c'] 25)).alloc (.cells #[.int .i64 (k : Int), .int .i64 x] 27)) := (ext_alloc _ _).trans (ext_alloc _ _)
  have hr0 : ((w.alloc (.cells #[.slice A n c, .slice A' n' c'] 25)).alloc (.cells #[.int .i64 (k : Int), .int .i64 x] 27)).heap[w.heap.size + 1]? = some (.cells #[.int .i64 (k : Int), .int .i64 x] 27 (0, 0)) := row_last _ _ _ (by simp)
  have hnk : k < n := by rw [hb.ncs]; exact hk
  have hnms := hb.nms
  have hgd : cs.getD k (0, 0) = cs[k] := by simp [hk]
  obtain ⟨sp, te, hcs⟩ : ∃ sp te, cs[k] = (sp, te) := ⟨_, _, rfl⟩
  rw [hcs] at s1 s2 t1 t2 hgd
  obtain ⟨T, hT⟩ : ∃ T : Nat, te = (T : Int) := ⟨te.toNat, by omega⟩
  subst hT
  obtain ⟨ans, hans⟩ : ∃ ans, bitsOf cs ms k x = ans := ⟨_, rfl⟩
  rw [hans]
  unfold bitsOf at hans
  rw [hgd] at hans
  simp only [Int.toNat_natCast] at hans
  have HA := Lib.hid hans
  have HM0 := Lib.hid hm0
  have HGD := Lib.hid hgd
  have HN := Lib.hid (And.intro hnms hm12)
  have hkz : (k : Int) < (n : Int) := by omega
  clear hb hans hm0 hgd hcs hnms h0
  go_enter Try.func59, Try.ntmps59
  go_upto_region 1 with fail
  obtain ⟨w0, hw0⟩ : ∃ w0, (w.alloc (.cells #[.slice A n c, .slice A' n' c'] 25)).alloc (.cells #[.int .i64 (k : Int), .int .i64 x] 27) = w0 := ⟨_, rfl⟩
  rw [hw0] at hX0 hE0 hr0 ⊢
  obtain ⟨p, hp⟩ : ∃ p, w.heap.size = p := ⟨_, rfl⟩
  have HE0 := Lib.hid hE0
  rw [hp] at hX0 hr0 ⊢
  have HX0 := Lib.hid hX0
  obtain ⟨q0, q1⟩ := hX0.cells
  have y0 : w0.cell? ⟨p + 1, 0, none⟩ = some (.int .i64 (k : Int)) := cell_of_row _ _ _ _ _ _ hr0
  have y1 : w0.cell? ⟨p + 1, 1, none⟩ = some (.int .i64 x) := cell_of_row _ _ _ _ _ _ hr0
  have HR0 := Lib.hid hr0
  clear hw0 hE0 hp hX0 hr0
  by_cases x0 : x < 0
  · have ha := HA.out
    rw [if_pos (.inl x0)] at ha
    subst ha
    go_wp2
    go_ret
    exact ⟨rfl, HE0.out⟩
  · by_cases x5 : 500 < x
    · have ha := HA.out
      rw [if_pos (.inr x5)] at ha
      subst ha
      go_wp2
      go_ret
      exact ⟨rfl, HE0.out⟩
    · have ha := HA.out
      rw [if_neg (by omega)] at ha
      have HA1 := Lib.hid ha
      obtain ⟨b, off, rfl, hbl, d0, d1⟩ := held_pair HX0.out.sheet.hcs hk
      rw [HGD.out] at d0 d1
      have hr1 := row_last w0 (.cells #[.int .i64 sp, .int .i64 (T : Int)] 65) w0.heap.size rfl
      have e1 : Ext w0 (w0.alloc (.cells #[.int .i64 sp, .int .i64 (T : Int)] 65)) := ext_alloc _ _
      clear ha HA
      go_upto_region 4 with fail
      obtain ⟨w1, hw1⟩ : ∃ w1, w0.alloc (.cells #[.int .i64 sp, .int .i64 (T : Int)] 65) = w1 := ⟨_, rfl⟩
      rw [hw1] at hr1 e1 ⊢
      obtain ⟨g, hg⟩ : ∃ g, w0.heap.size = g := ⟨_, rfl⟩
      rw [hg] at hr1 ⊢
      have HE1 := Lib.hid (HE0.out.trans e1)
      have hX1 := HX0.out.ext e1
      obtain ⟨u0, u1⟩ := hX1.cells
      have hrr := row_ext HR0.out e1
      have z0 : w1.cell? ⟨p + 1, 0, none⟩ = some (.int .i64 (k : Int)) := cell_of_row _ _ _ _ _ _ hrr
      have z1 : w1.cell? ⟨p + 1, 1, none⟩ = some (.int .i64 x) := cell_of_row _ _ _ _ _ _ hrr
      have v0 : w1.cell? ⟨g, 0, none⟩ = some (.int .i64 sp) := cell_of_row _ _ _ _ _ _ hr1
      have v1 : w1.cell? ⟨g, 1, none⟩ = some (.int .i64 (T : Int)) := cell_of_row _ _ _ _ _ _ hr1
      have HX1 := Lib.hid hX1
      clear hw1 hg e1 hr1 hX1 hrr q0 q1 y0 y1 d0 d1 HR0 HX0 HGD
      go_wp2_with (fail)
      go_loopw [6, 7] (fun o i wr => wr = w1 ∧ ∃ t : Nat, t ≤ T ∧ i = .int .i64 t ∧ o = .int .i64 ((orTo ms sp x t : Nat) : Int) ∧ hitsTo ms sp x t = true) (fun _ i _ => T - (intOf i).toNat)
      case atStart => exact ⟨rfl, 0, Nat.zero_le _, rfl, rfl, rfl⟩
      case round =>
        obtain ⟨rfl, t, ht, rfl, rfl, hh⟩ := hrel
        have HH := Lib.hid hh
        clear hh
        by_cases hlt : t < T
        · have hltz : (t : Int) < (T : Int) := by omega
          obtain ⟨m, hm⟩ : ∃ m : Int, (t : Int) * sp = m := ⟨_, rfl⟩
          have hmb : 0 ≤ m ∧ m ≤ 1000 := by
            rw [← hm]
            exact ⟨Int.mul_nonneg (by omega) (by omega), by
              have := Int.mul_le_mul (a := (t : Int)) (b := sp) (c := 20) (d := 50) (by omega) s2 (by omega) (by decide)
              omega⟩
          obtain ⟨m0, m1⟩ := hmb
          obtain ⟨v, hv⟩ : ∃ v : Int, x + m = v := ⟨_, rfl⟩
          have hvb : 0 ≤ v ∧ v ≤ 1500 := by omega
          obtain ⟨vb0, vb1⟩ := hvb
          obtain ⟨o, ho⟩ : ∃ o, orTo ms sp x t = o := ⟨_, rfl⟩
          have hob : o < 4096 := by
            rw [← ho]
            exact Nat.lt_of_lt_of_le (orTo_lt t HH.out) (Nat.pow_le_pow_right (by decide) HN.out.2.2 : 2 ^ ms.length ≤ 2 ^ 12)
          have hosucc : orTo ms sp x (t + 1) = o ||| 2 ^ hitOf ms v := by rw [← ho, ← hv, ← hm]; rfl
          have hhsucc : hitsTo ms sp x (t + 1) = decide (hitOf ms v < ms.length) := by rw [hitsTo_succ, HH.out, Bool.true_and, hm, hv]
          have HOS := Lib.hid hosucc
          have HHS := Lib.hid hhsucc
          rw [ho]
          clear hosucc hhsucc ho
          go_wp2_with (fail)
          go_loopw [9, 10] (fun a i wr2 => wr2 = wr ∧ ∃ j : Nat, j ≤ n' ∧ i = .int .i64 j ∧ a = .int .i64 (lastTo ms v j)) (fun _ i _ => n' - (intOf i).toNat)
          case atStart => exact ⟨rfl, 0, Nat.zero_le _, rfl, rfl⟩
          case round =>
            obtain ⟨rfl, j, hj, rfl, rfl⟩ := hrel
            by_cases hjl : j < n'
            · have hjz : (j : Int) < (n' : Int) := by omega
              have hjm : j < ms.length := by have := HN.out.1; omega
              obtain ⟨b', off', rfl, hbl', d0, d1⟩ := held_pair HX1.out.sheet.hms hjm
              have hgd : ms.getD j (0, 0) = ms[j] := by simp [hjm]
              have hls := lastTo_succ (v := v) HM0.out hjm
              rw [hgd] at d0 d1
              obtain ⟨lo, hi, hlh⟩ : ∃ lo hi, ms[j] = (lo, hi) := ⟨_, _, rfl⟩
              rw [hlh] at hls d0 d1
              dsimp only at hls d0 d1
              clear hlh hgd
              by_cases c1 : lo ≤ v
              · by_cases c2 : v ≤ hi
                · rw [if_pos ⟨c1, c2⟩] at hls
                  have HLS := Lib.hid hls
                  clear hls
                  go_wp2
                  go_roundw
                  case measure => simp [intOf]; omega
                  case rel => exact ⟨trivial, j + 1, by omega, by go_num, by rw [HLS.out]⟩
                · rw [if_neg (by omega)] at hls
                  have HLS := Lib.hid hls
                  clear hls
                  go_wp2
                  go_roundw
                  case measure => simp [intOf]; omega
                  case rel => exact ⟨trivial, j + 1, by omega, by go_num, by rw [HLS.out]⟩
              · rw [if_neg (by omega)] at hls
                have HLS := Lib.hid hls
                clear hls
                go_wp2
                go_roundw
                case measure => simp [intOf]; omega
                case rel => exact ⟨trivial, j + 1, by omega, by go_num, by rw [HLS.out]⟩
            · have hjz : ¬ (j : Int) < (n' : Int) := by omega
              obtain rfl : j = n' := by omega
              have hos := HOS.out
              have hhs := HHS.out
              rw [← HN.out.1] at hhs
              by_cases hhit : hitOf ms v < j
              · have hl : lastTo ms v j = (hitOf ms v : Int) := if_pos hhit
                rw [decide_eq_true hhit] at hhs
                obtain ⟨hn, hhn⟩ : ∃ hn, hitOf ms v = hn := ⟨_, rfl⟩
                rw [hhn] at hl hos hhit
                have hn12 : hn < 12 := by have := HN.out; omega
                have hp12 : 2 ^ hn < 4096 := (Nat.pow_lt_pow_right (by decide) hn12 : 2 ^ hn < 2 ^ 12)
                have hbo := bits_or o (2 ^ hn) (by omega) (by omega)
                rw [hl]
                have HOS2 := Lib.hid hos
                have HHS2 := Lib.hid hhs
                have HBO := Lib.hid hbo
                clear hl hos hhs hhn hbo HOS HHS
                go_wp2
                refine ⟨⟨trivial, t + 1, by omega, by go_num, ?_, HHS2.out⟩, by simp [intOf]; omega⟩
                rw [HOS2.out, ← HBO.out]
                congr 2
                have e1 : (2 : Int) ^ hn = ((2 ^ hn : Nat) : Int) := by simp
                rw [e1]
                generalize (2 ^ hn : Nat) = z at hp12 ⊢
                unfold wrap64
                omega
              · have hl : lastTo ms v j = -1 := if_neg hhit
                rw [hl]
                rw [decide_eq_false hhit] at hhs
                have hf : hitsTo ms sp x T = false := hitsTo_false hhs (by omega)
                have ha := HA1.out
                rw [if_neg (by rw [hf]; decide)] at ha
                subst ha
                clear hl hos hhs hf HOS HHS
                go_wp2
                go_ret
                exact ⟨rfl, HE1.out⟩
        · have hltz : ¬ (t : Int) < (T : Int) := by omega
          obtain rfl : t = T := by omega
          have ha := HA1.out
          rw [if_pos HH.out] at ha
          subst ha
          go_wp2
          go_ret
          exact ⟨rfl, HE1.out⟩
end Go.Proofs.Ytlaakmgdbhabfaa

/- Places of the reference. -/
namespace Go.Proofs.Ytlaakmgdbhabfaa
open Go.RowKit Go.Shelf

/-- Where a comb fits, up to a number. -/
def fitB (cs ms : List (Int × Int)) (k : Nat) (i : Nat) : Bool := decide (bitsOf cs ms k (i : Int) ≠ 0)
def atsOf (cs ms : List (Int × Int)) (k : Nat) : List Int := numsTo (fitB cs ms k) 501
theorem nums_few (p : Nat → Bool) (k : Nat) : (numsTo p k).length ≤ k := by
  unfold numsTo
  rw [List.length_map]
  exact Nat.le_trans (List.length_filter_le _ _) (by simp)

end Go.Proofs.Ytlaakmgdbhabfaa

/- The rows that fit: as the program lists them, and as the specification does. -/
namespace Go.Proofs.Ytlaakmgdbhabfaa
open Go.RowKit Go.Shelf

theorem sorted_eq : ∀ (l1 l2 : List Int), l1.Pairwise (· < ·) → l2.Pairwise (· < ·) → (∀ x, x ∈ l1 ↔ x ∈ l2) → l1 = l2
  | [], [], _, _, _ => rfl
  | [], y :: l2, _, _, h => by have := (h y).2 (by simp); simp at this
  | x :: l1, [], _, _, h => by have := (h x).1 (by simp); simp at this
  | x :: l1, y :: l2, h1, h2, h => by
    obtain ⟨a1, a2⟩ := List.pairwise_cons.1 h1
    obtain ⟨b1, b2⟩ := List.pairwise_cons.1 h2
    have e : x = y := by
      have hx := (h x).1 (by simp)
      have hy := (h y).2 (by simp)
      rcases List.mem_cons.1 hx with e | hx
      · exact e
      · rcases List.mem_cons.1 hy with e | hy
        · exact e.symm
        · have := a1 y hy; have := b1 x hx; omega
    subst e
    congr 1
    refine sorted_eq l1 l2 a2 b2 fun z => ⟨fun hz => ?_, fun hz => ?_⟩
    · have := a1 z hz
      rcases List.mem_cons.1 ((h z).1 (by simp [hz])) with e | h3
      · omega
      · exact h3
    · have := b1 z hz
      rcases List.mem_cons.1 ((h z).2 (by simp [hz])) with e | h3
      · omega
      · exact h3
theorem nums_sorted (p : Nat → Bool) (k : Nat) : (numsTo p k).Pairwise (· < ·) := by
  unfold numsTo
  rw [List.pairwise_map]
  exact (List.pairwise_lt_range.imp (fun h => by omega)).sublist List.filter_sublist
theorem mem_nums (p : Nat → Bool) (k : Nat) (x : Int) : x ∈ numsTo p k ↔ ∃ i : Nat, i < k ∧ p i = true ∧ x = (i : Int) := by
  unfold numsTo
  simp only [List.mem_map, List.mem_filter, List.mem_range]
  constructor
  · rintro ⟨i, ⟨h1, h2⟩, rfl⟩; exact ⟨i, h1, h2, rfl⟩
  · rintro ⟨i, h1, h2, rfl⟩; exact ⟨i, ⟨h1, h2⟩, rfl⟩
theorem no_zero (cs ms : List (Int × Int)) (x : Nat × Int) : noOf cs ms x ≠ 0 ↔ nz (hadB cs ms x.1 x.2) = true := by
  unfold nz
  rw [List.any_eq_true]
  constructor
  · intro h
    obtain ⟨i, hi⟩ := Nat.exists_testBit_of_ne_zero h
    unfold noOf at hi
    rw [setNo_bit, Bool.and_eq_true, decide_eq_true_eq] at hi
    exact ⟨i, List.mem_range.2 hi.1, hi.2⟩
  · rintro ⟨i, hi, hb⟩ h
    have : (noOf cs ms x).testBit i = true := by
      unfold noOf
      rw [setNo_bit, hb, decide_eq_true (List.mem_range.1 hi)]
      rfl
    rw [h] at this
    simp at this
theorem fit_iff {cs ms : List (Int × Int)} (hm : ms.length ≤ 12) (k : Nat) (x : Int) : bitsOf cs ms k x ≠ 0 ↔ (0 ≤ x ∧ x ≤ 500) ∧ nz (hadB cs ms k x) = true := by
  by_cases hx : 0 ≤ x ∧ x ≤ 500
  · rw [bits_no hm hx, no_zero]
    exact ⟨fun h => ⟨hx, h⟩, fun h => h.2⟩
  · constructor
    · intro h
      exact absurd (if_pos (by omega)) h
    · intro h
      exact absurd h.1 hx
/-- The first tooth of a row that fits lies in a mark. -/
theorem first_tooth {cs ms : List (Int × Int)} {k : Nat} {x : Int} (ht : 1 ≤ (cs.getD k (0, 0)).2) (h : nz (hadB cs ms k x) = true) : ∃ j, ∃ hj : j < ms.length, ms[j].1 ≤ x ∧ x ≤ ms[j].2 := by
  unfold nz at h
  rw [List.any_eq_true] at h
  obtain ⟨i, _, hi⟩ := h
  unfold hadB at hi
  rw [Bool.and_eq_true] at hi
  have h1 := hi.1
  unfold hitsTo at h1
  rw [List.all_eq_true] at h1
  have h2 := h1 0 (List.mem_range.2 (by omega))
  simp only [decide_eq_true_eq] at h2
  have h3 : hitOf ms x < ms.length := by
    have e : x + ((0 : Nat) : Int) * (cs.getD k (0, 0)).1 = x := by simp
    rwa [e] at h2
  have h4 := List.findIdx_getElem (xs := ms) (p := inMark x) (w := h3)
  rw [inMark_iff, decide_eq_true_eq] at h4
  exact ⟨_, h3, h4⟩
theorem rows_sorted {ms : List (Int × Int)} (hm : marksOk 0 ms = true) (cs : List (Int × Int)) (k : Nat) : ((rowsUpto cs ms k ms.length).map (·.2)).Pairwise (· < ·) := by
  rw [List.pairwise_map]
  unfold rowsUpto
  rw [List.pairwise_flatMap]
  constructor
  · intro j hj
    unfold rowsIn
    rw [List.pairwise_filterMap]
    refine List.pairwise_lt_range.imp fun {a b} hab x hx y hy => ?_
    split at hx
    · split at hy
      · cases hx; cases hy; show (_ : Int) < _; omega
      · cases hy
    · cases hx
  · have : (List.range ms.length).Pairwise (fun a b => a < b ∧ b < ms.length) := by
      rw [List.pairwise_iff_getElem]
      intro i j hi hj hij
      simp at hi hj
      simp
      omega
    refine this.imp fun {a b} hab x hx y hy => ?_
    obtain ⟨hab, hb⟩ := hab
    have hl := marks_lt ms 0 hm a b hab hb
    have ga : ms.getD a (0, 0) = ms[a] := by simp [show a < ms.length by omega]
    have gb : ms.getD b (0, 0) = ms[b] := by simp [hb]
    rw [ga] at hx
    rw [gb] at hy
    unfold rowsIn at hx hy
    rw [List.mem_filterMap] at hx hy
    obtain ⟨d, hd, hx⟩ := hx
    obtain ⟨d', hd', hy⟩ := hy
    rw [List.mem_range] at hd hd'
    split at hx
    · split at hy
      · cases hx; cases hy; show (_ : Int) < _; dsimp only; omega
      · cases hy
    · cases hx
theorem mem_rows {cs ms : List (Int × Int)} (k : Nat) (x : Int) : x ∈ (rowsUpto cs ms k ms.length).map (·.2) ↔ (∃ j, ∃ hj : j < ms.length, ms[j].1 ≤ x ∧ x ≤ ms[j].2) ∧ nz (hadB cs ms k x) = true := by
  unfold rowsUpto rowsIn
  simp only [List.mem_map, List.mem_flatMap, List.mem_filterMap, List.mem_range]
  constructor
  · rintro ⟨r, ⟨j, hj, d, hd, h⟩, rfl⟩
    have gj : ms.getD j (0, 0) = ms[j] := by simp [hj]
    rw [gj] at hd h
    split at h
    · rename_i hn
      cases h
      exact ⟨⟨j, hj, by dsimp only; omega⟩, hn⟩
    · cases h
  · rintro ⟨⟨j, hj, h1, h2⟩, hn⟩
    have gj : ms.getD j (0, 0) = ms[j] := by simp [hj]
    refine ⟨(k, x), ⟨j, hj, (x - ms[j].1).toNat, by rw [gj]; omega, ?_⟩, rfl⟩
    rw [gj, show ms[j].1 + ((x - ms[j].1).toNat : Int) = x from by omega, if_pos hn]
theorem rows_are {cs ms : List (Int × Int)} (h0 : sheetErr cs ms = 0) {k : Nat} (hk : k < cs.length) : (rowsUpto cs ms k ms.length).map (·.2) = atsOf cs ms k := by
  obtain ⟨_, h12, hm⟩ := sheet_ok h0
  have h12 := (sheet_ok h0).1.2.2
  refine sorted_eq _ _ (rows_sorted hm cs k) (nums_sorted _ _) fun x => ?_
  unfold atsOf
  rw [mem_rows, mem_nums]
  have hte := (comb_bounds h0 hk).2.1
  have hgd : cs.getD k (0, 0) = cs[k] := by simp [hk]
  constructor
  · rintro ⟨⟨j, hj, h1, h2⟩, hn⟩
    have hb := marks_get ms 0 hm j hj
    refine ⟨x.toNat, by omega, ?_, by omega⟩
    unfold fitB
    rw [decide_eq_true_eq, show ((x.toNat : Nat) : Int) = x from by omega, fit_iff h12]
    exact ⟨by omega, hn⟩
  · rintro ⟨i, hi, hf, rfl⟩
    unfold fitB at hf
    rw [decide_eq_true_eq, fit_iff h12] at hf
    exact ⟨first_tooth (by rw [hgd]; omega) hf.2, hf.2⟩
theorem rows_fst (cs ms : List (Int × Int)) (k j : Nat) : ∀ r, r ∈ rowsUpto cs ms k j → r.1 = k := by
  intro r hr
  unfold rowsUpto rowsIn at hr
  simp only [List.mem_flatMap, List.mem_filterMap] at hr
  obtain ⟨_, _, _, _, h⟩ := hr
  split at h
  · cases h; rfl
  · cases h
theorem rows_pairs {cs ms : List (Int × Int)} (h0 : sheetErr cs ms = 0) {k : Nat} (hk : k < cs.length) : rowsUpto cs ms k ms.length = (atsOf cs ms k).map fun x => (k, x) := by
  rw [← rows_are h0 hk, List.map_map]
  conv => lhs; rw [← List.map_id (rowsUpto cs ms k ms.length)]
  apply List.map_congr_left
  intro r hr
  have := rows_fst _ _ _ _ r hr
  simp only [id, Function.comp]
  rw [← this]
/-- The numbers at which a comb fits, of the list of all rows that fit. -/
theorem places_are {cs ms : List (Int × Int)} (h0 : sheetErr cs ms = 0) {q : Nat} (hq : q < cs.length) : placesOf (q : Int) (fitsOf cs ms) = atsOf cs ms q := by
  have hrow : ∀ k, k ≤ cs.length → placesOf (q : Int) (fitsUpto cs ms k) = if q < k then atsOf cs ms q else [] := by
    intro k
    induction k with
    | zero => intro _; rfl
    | succ k ih =>
      intro hk
      have hu : fitsUpto cs ms (k + 1) = fitsUpto cs ms k ++ rowsUpto cs ms k ms.length := by unfold fitsUpto; rw [List.range_succ, List.flatMap_append]; simp
      unfold placesOf at ih ⊢
      rw [hu, List.filterMap_append, ih (by omega), rows_pairs h0 (by omega : k < cs.length), List.filterMap_map]
      by_cases e : k = q
      · subst e
        rw [if_neg (by omega), if_pos (by omega), List.nil_append]
        have hf : ((fun x : Nat × Int => if (x.1 : Int) = (k : Int) then some x.2 else none) ∘ fun x => (k, x)) = some := by
          funext x
          simp [Function.comp]
        rw [hf, List.filterMap_some]
      · have : (atsOf cs ms k).filterMap ((fun x : Nat × Int => if (x.1 : Int) = (q : Int) then some x.2 else none) ∘ fun x => (k, x)) = [] := by
          rw [List.filterMap_eq_nil_iff]
          intro x _
          simp only [Function.comp]
          rw [if_neg (by omega)]
        rw [this, List.append_nil]
        by_cases h2 : q < k
        · rw [if_pos h2, if_pos (by omega)]
        · rw [if_neg h2, if_neg (by omega)]
  have := hrow cs.length (Nat.le_refl _)
  rw [if_pos hq] at this
  exact this
end Go.Proofs.Ytlaakmgdbhabfaa
