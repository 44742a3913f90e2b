/- Texts of the package drop, joined: Way1, Way2, Way, Table, WayAns. -/
import Derived.Test.YtckndnaohggmhaaC17
import Derived.Sort.CutIn
/- way: the first one of the shortest ways. -/
namespace Go.Proofs.Ytckndnaohggmhaa
open Go.RowKit Go.Shelf
attribute [local go_sem] Oper.semAt_some
attribute [local irreducible] matCells

theorem wpIn_scope_wide {n : Nat} {P : Program} {c : Code} {Q : Exit → Act → World → Prop} {a : Act} {w : World} (h : c.wpIn Fence.wide n P (Exit.noGoto Q) a w) : (Code.scope c).wpIn Fence.wide n P Q a w := wpIn_wide.2 (wp_scope_straight (wpIn_wide.1 h))

theorem mem_start (n0 s t : Nat) (W : World) (two : Boxed W n0 3 (plc t)) :
    ∃ W3, (((((((W.alloc (.cells ([Value.slice none 0 0, .slice none 0 0, .slice none 0 0, .slice none 0 0, .slice none 0 0, .slice none 0 0, .slice none 0 0, .slice none 0 0, .slice none 0 0, .slice none 0 0, .slice none 0 0, .slice none 0 0].set s (.slice (some ⟨W.heap.size + 1 + 1, 0, none⟩) 1 1)).toArray 136)).alloc
      (.cells #[.slice none 0 0] 42)).alloc (.cells #[.int .i64 ((s : Int) - 2)] 3)).alloc (.map #[] 0)).alloc (.cells #[.map (some (W.heap.size + 1 + 1 + 1))] 137)).alloc (.cells #[.int .i64 ((s : Int) - 2)] 3)).alloc (.cells #[.slice (some ⟨W.heap.size + 1 + 1 + 1 + 1 + 1, 0, none⟩) 1 1] 42)) = W3 ∧
      Mem n0 W.heap.size t (.slice (some ⟨W.heap.size + 1 + 1 + 1 + 1 + 1, 0, none⟩) 1 1) [s] (putV (fun _ => .slice none 0 0) s (.slice (some ⟨W.heap.size + 1 + 1, 0, none⟩) 1 1)) (fun i => i = s) (fun _ => [s]) 0 (fun _ => none) W3 ∧ Below W.heap.size W W3 := by
  obtain ⟨cs, hcs⟩ : ∃ cs, ([Value.slice none 0 0, .slice none 0 0, .slice none 0 0, .slice none 0 0, .slice none 0 0, .slice none 0 0, .slice none 0 0, .slice none 0 0, .slice none 0 0, .slice none 0 0, .slice none 0 0, .slice none 0 0].set s (.slice (some ⟨W.heap.size + 1 + 1, 0, none⟩) 1 1)).toArray = cs := ⟨_, rfl⟩
  have e : cs = wayCells (putV (fun _ => .slice none 0 0) s (.slice (some ⟨W.heap.size + 1 + 1, 0, none⟩) 1 1)) := by
    rw [← wayCells_set, ← hcs]
    have : (wayCells fun _ => Value.slice none 0 0) = #[Value.slice none 0 0, .slice none 0 0, .slice none 0 0, .slice none 0 0, .slice none 0 0, .slice none 0 0, .slice none 0 0, .slice none 0 0, .slice none 0 0, .slice none 0 0, .slice none 0 0, .slice none 0 0] := rfl
    rw [this, List.setIfInBounds_toArray]
  rw [hcs]
  have z1 : (W.alloc (.cells cs 136)).heap.size = W.heap.size + 1 := by simp
  have z2 : ((W.alloc (.cells cs 136)).alloc (.cells #[.slice none 0 0] 42)).heap.size = W.heap.size + 2 := by simp
  obtain ⟨A, hA⟩ : ∃ A, ((W.alloc (.cells cs 136)).alloc (.cells #[.slice none 0 0] 42)) = A := ⟨_, rfl⟩
  have a0 : A.heap[W.heap.size]? = some (.cells cs 136 (0, 0)) := by rw [← hA]; exact row_alloc _ _ _ _ (World.alloc_heap_new W _)
  have a1 : Boxed A (W.heap.size + 1) 42 (.slice none 0 0) := by rw [← hA, ← z1]; exact Boxed.new _ _ _
  have aB : Below W.heap.size W A := by rw [← hA]; exact ((Below.refl _ W).alloc (Nat.le_refl _) _).alloc (by simp) _
  rw [hA] at z2 ⊢
  clear hA z1
  have r1 : (A.alloc (.cells #[.int .i64 ((s : Int) - 2)] 3)).ownsRow W.heap.size 3 1 (.slice (some ⟨W.heap.size + 1 + 1, 0, none⟩) 1 1) [s].length ([s].map plc) :=
    ⟨rfl, .inr ⟨A.heap.size, 1, _, by rw [z2]; rfl, by omega, World.alloc_heap_new A _, by simp, by unfold maxLen; omega, rfl, rfl⟩⟩
  obtain ⟨C, hC⟩ : ∃ C, A.alloc (.cells #[.int .i64 ((s : Int) - 2)] 3) = C := ⟨_, rfl⟩
  have zC : C.heap.size = W.heap.size + 3 := by rw [← hC]; simp [z2]
  have cB : Below A.heap.size A C := by rw [← hC]; exact (Below.refl _ A).alloc (Nat.le_refl _) _
  rw [hC] at r1 ⊢
  clear hC
  obtain ⟨D, hD⟩ : ∃ D, (C.alloc (.map #[] 0)).alloc (.cells #[.map (some (W.heap.size + 1 + 1 + 1))] 137) = D := ⟨_, rfl⟩
  have zD : D.heap.size = W.heap.size + 5 := by rw [← hD]; simp [zC]
  have d3 : PlMap D (W.heap.size + 3) 0 (fun _ => none) := by
    have := PlMap.new C
    rw [zC] at this
    refine this.kept ?_
    rw [← hD]
    exact Below.heap_alloc _ _ _ (by simp; omega)
  have d4 : Boxed D (W.heap.size + 4) 137 (.map (some (W.heap.size + 3))) := by
    have := Boxed.new (C.alloc (.map #[] 0)) 137 (.map (some (W.heap.size + 1 + 1 + 1)))
    rw [World.size_alloc, zC, hD] at this
    exact this
  have dB : Below C.heap.size C D := by rw [← hD]; exact ((Below.refl _ C).alloc (Nat.le_refl _) _).alloc (by simp) _
  rw [hD]
  clear hD
  obtain ⟨E, hE⟩ : ∃ E, (D.alloc (.cells #[.int .i64 ((s : Int) - 2)] 3)).alloc (.cells #[.slice (some ⟨W.heap.size + 1 + 1 + 1 + 1 + 1, 0, none⟩) 1 1] 42) = E := ⟨_, rfl⟩
  have q := (QueueAt.new D s (base := W.heap.size) (by omega)).kept (w' := E) (fun r hr => by
    simp [Value.ownBlock] at hr
    rw [← hE]
    exact Below.heap_alloc _ _ _ (by simp; omega))
  rw [zD] at q
  have e6 : Boxed E (W.heap.size + 6) 42 (.slice (some ⟨W.heap.size + 1 + 1 + 1 + 1 + 1, 0, none⟩) 1 1) := by
    have := Boxed.new (D.alloc (.cells #[.int .i64 ((s : Int) - 2)] 3)) 42 (.slice (some ⟨W.heap.size + 1 + 1 + 1 + 1 + 1, 0, none⟩) 1 1)
    rw [World.size_alloc, zD, hE] at this
    exact this
  have eB : Below D.heap.size D E := by rw [← hE]; exact ((Below.refl _ D).alloc (Nat.le_refl _) _).alloc (by simp) _
  rw [hE]
  clear hE
  have hn0 := two.lt
  have kA : ∀ (x : Nat), x < A.heap.size → E.heap[x]? = A.heap[x]? := fun x hx => ((eB.block x (by omega)).trans (dB.block x (by omega))).trans (cB.block x hx)
  have kC : ∀ (x : Nat), x < C.heap.size → E.heap[x]? = C.heap[x]? := fun x hx => (eB.block x (by omega)).trans (dB.block x hx)
  refine ⟨E, rfl, ⟨hn0, ?_, (kA _ (by omega)).trans a1, (eB.block _ (by omega)).trans d4, d3.kept (eB.block _ (by omega)), e6, ((kA _ (by omega)).trans (aB.block _ hn0)).trans two, q, fun i hi hR => ?_, fun i hi hR => by simp [putV, hR], fun i r hi hr => ?_⟩, aB.trans ((cB.trans (dB.trans (eB.mono (by omega)) |>.mono (by omega))).mono (by omega))⟩
  · rw [← e]
    exact (kA _ (by omega)).trans a0
  · subst hR
    refine ⟨?_, by simp⟩
    simp only [putV, if_true]
    obtain ⟨h1, h2⟩ := r1
    refine ⟨h1, h2.imp id ?_⟩
    rintro ⟨g, cap, cur, e1, hg, hc, r⟩
    exact ⟨g, cap, cur, e1, hg, (kC _ (Array.getElem?_eq_some_iff.1 hc).1).trans hc, r⟩
  · simp [Value.ownBlock] at hr
    subst hr
    unfold putV
    split <;> simp [Value.ownBlock]

theorem nodup_le : ∀ (n : Nat) (l : List Nat), l.Nodup → (∀ a, a ∈ l → a < n) → l.length ≤ n
  | 0, l, _, h => by
    cases l with
    | nil => simp
    | cons a l => exact absurd (h a (by simp)) (by omega)
  | n + 1, l, hn, h => by
    have ih := nodup_le n (l.erase n) (hn.erase n) fun a ha => by
      have := (hn.mem_erase_iff).1 ha
      have := h a this.2
      omega
    by_cases hm : n ∈ l
    · rw [List.length_erase_of_mem hm] at ih
      omega
    · rw [List.erase_of_not_mem hm] at ih
      omega

end Go.Proofs.Ytckndnaohggmhaa

/- way: the steps of the search, outside the walk. -/
namespace Go.Proofs.Ytckndnaohggmhaa
open Go.RowKit Go.Shelf

theorem run_tail (g off n cap : Nat) (hn : n + 1 ≤ cap) (w : World) : (Instr.slice 42 (.slice (some ⟨g, off, none⟩) (n + 1) cap) (some (.int .i64 1)) none none).run Try.prog w = .ok (.slice (some ⟨g, if cap = 1 then off else off + 1, none⟩) n (cap - 1)) w := by
  obtain ⟨i0, hi, hz0, hz1, hz2⟩ := info_parts info3
  by_cases h : cap = 1
  · subst h
    simp [Instr.slice, Instr.sliceBounds, Instr.sliceBound, run_underlying Try.underlying42, asIntOf, sizeOf, typeInfo, hi, Result.andThen]
    rw [if_pos (by omega)]
    simp
  · simp [Instr.slice, Instr.sliceBounds, Instr.sliceBound, run_underlying Try.underlying42, asIntOf, sizeOf, typeInfo, hi, hz1, h, Addr.add_lit, Result.andThen]
    rw [if_pos (by omega)]
    simp [h]

/-- The front is taken. -/
theorem QueueAt.tail {w : World} {base g off cap p : Nat} {xs : List Nat} (h : QueueAt w base (.slice (some ⟨g, off, none⟩) (xs.length + 1) cap) (p :: xs)) : QueueAt w base (.slice (some ⟨g, if cap = 1 then off else off + 1, none⟩) xs.length (cap - 1)) xs := by
  obtain ⟨g', off', cap', cur, e, h1, h2, h3, h4, h5, h6⟩ := h
  cases e
  simp at h3
  refine ⟨g, _, cap - 1, cur, rfl, h1, h2, by omega, by omega, by split <;> omega, fun j x hx => ?_⟩
  have hj := (List.getElem?_eq_some_iff.1 hx).1
  rw [if_neg (by omega), show off + 1 + j = off + (j + 1) from by omega]
  exact h6 (j + 1) x (by simpa using hx)

theorem map_plc (l : List Nat) : l.map plc = (l.map fun i : Nat => (i : Int) - 2).map (Value.int .i64) := by rw [List.map_map]; rfl
theorem keepsFrom_below {C : Nat} {W W' : World} (h : Below C W W') (hC : W.heap.size ≤ C) (B : Nat) : KeepsFrom B W W' := ⟨h.size, fun k _ _ hk _ => (h.block k (Nat.lt_of_lt_of_le (Array.getElem?_eq_some_iff.1 hk).1 hC)).trans hk⟩
theorem Mem.of_iff {n0 B t : Nat} {v : Value} {Q : List Nat} {V : Nat → Value} {R R' : Nat → Prop} {P : Nat → List Nat} {mn : Nat} {m : Nat → Option Nat} {W : World} (h : Mem n0 B t v Q V R P mn m W) (hR : ∀ i, R' i ↔ R i) : Mem n0 B t v Q V R' P mn m W :=
  ⟨h.lt, h.ways, h.none_, h.mapBox, h.map, h.box, h.two, h.queue, fun i hi hr => h.rows i hi ((hR i).1 hr), fun i hi hr => h.nils i hi fun e => hr ((hR i).2 e), h.apart⟩

/-- What the walk knows at a loop's head: the places F were found, k of them looked at; what lies in memory. -/
structure Head (H : Nat → Nat → Bool) (n0 B s t : Nat) (F : List Nat) (P : Nat → List Nat) (k : Nat) (v : Value) (V : Nat → Value) (mn : Nat) (m : Nat → Option Nat) (W : World) : Prop where
  mem : Mem n0 B t v (F.drop k) V (fun i => i ∈ F.take k ∨ i = s) P mn m W
  by_ : ∀ i, i ∈ F.drop k → i ≠ s → ∃ q, m i = some q ∧ q ∈ F.take k ∧ P i = P q ++ [i]
  none_ : ∀ i, i < 12 → (i ∉ F.drop k ∨ i = s) → m i = none
  few : mn ≤ F.length

/-- What does not hang on the order of the neighbours. -/
structure Find0 (s t : Nat) (F : List Nat) (k p : Nat) (pre : List Nat) : Prop where
  nodup : F.Nodup
  head : F[0]? = some s
  lt : ∀ j, j ∈ F → j < 12 ∧ j ≠ t
  at_ : F[k]? = some p
  done : ∀ j, j ∈ pre → j ∈ F
theorem Finding.to0 {H : Nat → Nat → Bool} {s t : Nat} {F : List Nat} {P : Nat → List Nat} {k p : Nat} {pre : List Nat} (h : Finding H s t F P k p pre) : Find0 s t F k p pre := ⟨h.nodup, h.head, h.lt, h.at_, h.done⟩
theorem Find0.old {s t : Nat} {F : List Nat} {k p : Nat} {pre : List Nat} (h : Find0 s t F k p pre) {j : Nat} (hj : j ∈ F) : Find0 s t F k p (pre ++ [j]) :=
  ⟨h.nodup, h.head, h.lt, h.at_, fun i hi => by
    rcases List.mem_append.1 hi with hi | hi
    · exact h.done i hi
    · rw [List.mem_singleton.1 hi]; exact hj⟩
theorem Find0.new {s t : Nat} {F : List Nat} {k p : Nat} {pre : List Nat} (h : Find0 s t F k p pre) {j : Nat} (hj : j < 12) (hjt : j ≠ t) (hn : j ∉ F) : Find0 s t (F ++ [j]) k p (pre ++ [j]) := by
  refine ⟨?_, ?_, fun i hi => ?_, ?_, fun i hi => ?_⟩
  · rw [List.nodup_append]
    exact ⟨h.nodup, by simp, fun a ha b hb => by simp at hb; subst hb; exact fun e => hn (e ▸ ha)⟩
  · rw [List.getElem?_append_left (List.getElem?_eq_some_iff.1 h.head).1]; exact h.head
  · rcases List.mem_append.1 hi with hi | hi
    · exact h.lt i hi
    · rw [List.mem_singleton.1 hi]; exact ⟨hj, hjt⟩
  · rw [List.getElem?_append_left (List.getElem?_eq_some_iff.1 h.at_).1]; exact h.at_
  · rcases List.mem_append.1 hi with hi | hi
    · exact List.mem_append_left _ (h.done i hi)
    · rw [List.mem_singleton.1 hi]; simp
def Inc (l : List Nat) : Prop := l.Pairwise (· < ·)
theorem Inc.front {l : List Nat} {x : Nat} (h : Inc (l ++ [x])) : Inc l ∧ ∀ i, i ∈ l → i < x := by
  have := List.pairwise_append.1 h
  exact ⟨this.1, fun i hi => this.2.2 i hi x (by simp)⟩
theorem bes_inc (H : Nat → Nat → Bool) (k : Nat) : ∀ j, j ≤ 12 → Inc ((bes H k j).map fun x => x.val.val) ∧ ∀ i, i ∈ ((bes H k j).map fun x => x.val.val) → i < j
  | 0, _ => ⟨by simp [bes, Inc], fun i hi => by simp [bes] at hi⟩
  | j + 1, hj => by
    obtain ⟨h1, h2⟩ := bes_inc H k j (by omega)
    rw [bes_step H k j (by omega)]
    by_cases h : H k j = true
    · rw [dif_pos h, List.map_append]
      refine ⟨List.pairwise_append.2 ⟨h1, by simp, fun a ha b hb => ?_⟩, fun i hi => ?_⟩
      · simp at hb
        subst hb
        exact h2 a ha
      · rcases List.mem_append.1 hi with hi | hi
        · have := h2 i hi; omega
        · simp at hi; omega
    · rw [dif_neg h, List.append_nil]
      exact ⟨h1, fun i hi => by have := h2 i hi; omega⟩
theorem bes_inc_prefix {H : Nat → Nat → Bool} {k : Nat} {pre : List (Beside H k)} (h : pre <+: bes H k 12) : Inc (pre.map fun x => x.val.val) := by
  obtain ⟨r, hr⟩ := h
  have := (bes_inc H k 12 (Nat.le_refl _)).1
  rw [← hr, List.map_append] at this
  exact (List.pairwise_append.1 this).1

section
variable {H : Nat → Nat → Bool} {n0 B s t k p : Nat} {F : List Nat} {P : Nat → List Nat} {v v' : Value} {V : Nat → Value} {mn : Nat} {m : Nat → Option Nat} {W W' : World}
theorem mem_take_succ (hp : F[k]? = some p) (i : Nat) : i ∈ F.take (k + 1) ↔ i = p ∨ i ∈ F.take k := by
  rw [List.take_add_one, hp]
  simp [or_comm]
theorem mem_drop_succ (hF : F.Nodup) (hp : F[k]? = some p) (i : Nat) : i ∈ F.drop (k + 1) ↔ i ∈ F.drop k ∧ i ≠ p := by
  have hlt := (List.getElem?_eq_some_iff.1 hp).1
  have hd : F.drop k = p :: F.drop (k + 1) := by
    rw [List.drop_eq_getElem_cons hlt, (List.getElem?_eq_some_iff.1 hp).2]
  have hn : (F.drop k).Nodup := hF.sublist (List.drop_sublist _ _)
  rw [hd] at hn ⊢
  have hnp := (List.nodup_cons.1 hn).1
  simp only [List.mem_cons]
  constructor
  · intro h
    exact ⟨.inr h, fun e => hnp (e ▸ h)⟩
  · rintro ⟨h1 | h1, h2⟩
    · exact absurd h1 h2
    · exact h1
theorem first_is (hF : Found H s t F P k) (hp : F[0]? = some p) : p = s := by
  have := hF.head
  rw [hp] at this
  exact Option.some.inj this
theorem later_not (hF : Found H s t F P k) (hp : F[k]? = some p) (hk : k ≠ 0) : p ≠ s := fun e => by
  have h2 := hF.head
  rw [e] at hp
  exact hk ((List.getElem?_inj (List.getElem?_eq_some_iff.1 hp).1 hF.nodup).1 (hp.trans h2.symm))
/-- The first place was looked at: nothing was to be laid. -/
theorem head_zero (hF : Found H s t F P 0) (hH : Head H n0 B s t F P 0 v V mn m W) (hp : F[0]? = some p) {rest : List Nat} (hr : F.drop (0 + 1) = rest) (hM : Mem n0 B t v' rest V (fun i => i ∈ F.take 0 ∨ i = s) P mn m W') : Head H n0 B s t F P (0 + 1) v' V mn m W' := by
  subst hr
  have e := first_is hF hp
  subst e
  refine ⟨hM.of_iff fun i => ?_, fun i hi hne => ?_, fun i hi h => ?_, hH.few⟩
  · rw [mem_take_succ hp i]
    simp
  · obtain ⟨q, h1, h2, h3⟩ := hH.by_ i (((mem_drop_succ hF.nodup hp i).1 hi).1) hne
    exact ⟨q, h1, (mem_take_succ hp q).2 (.inr h2), h3⟩
  · refine hH.none_ i hi ?_
    by_cases e : i = p
    · exact .inr e
    · rcases h with h | h
      · exact .inl fun h' => h ((mem_drop_succ hF.nodup hp i).2 ⟨h', e⟩)
      · exact absurd h e
/-- A later one: its way was laid, and it left the map. -/
theorem head_more (hF : Found H s t F P k) (hH : Head H n0 B s t F P k v V mn m W) (hp : F[k]? = some p) {u : Value} {rest : List Nat} (hr : F.drop (k + 1) = rest) (hM : Mem n0 B t v' rest (putV V p u) (fun i => i = p ∨ (i ∈ F.take k ∨ i = s)) P mn (putAt m p none) W') :
    Head H n0 B s t F P (k + 1) v' (putV V p u) mn (putAt m p none) W' := by
  subst hr
  refine ⟨hM.of_iff fun i => ?_, fun i hi hne => ?_, fun i hi h => ?_, hH.few⟩
  · rw [mem_take_succ hp i, or_assoc]
  · obtain ⟨h1, h2⟩ := (mem_drop_succ hF.nodup hp i).1 hi
    obtain ⟨q, h3, h4, h5⟩ := hH.by_ i h1 hne
    exact ⟨q, by rw [putAt_other m _ h2]; exact h3, (mem_take_succ hp q).2 (.inr h4), h5⟩
  · by_cases e : i = p
    · subst e
      exact putAt_same _ _ _
    · rw [putAt_other m _ e]
      refine hH.none_ i hi ?_
      rcases h with h | h
      · exact .inl fun h' => h ((mem_drop_succ hF.nodup hp i).2 ⟨h', e⟩)
      · exact .inr h
theorem Mem.of_ways {n0 B t : Nat} {Q : List Nat} {R : Nat → Prop} {P' : Nat → List Nat} (h : Mem n0 B t v Q V R P mn m W) (hP : ∀ i, R i → P' i = P i) : Mem n0 B t v Q V R P' mn m W :=
  ⟨h.lt, h.ways, h.none_, h.mapBox, h.map, h.box, h.two, h.queue, fun i hi hr => by rw [hP i hr]; exact h.rows i hi hr, h.nils, h.apart⟩
/-- A place was found. -/
theorem head_push {pre : List Nat} (hF : Find0 s t F k p pre) (hH : Head H n0 B s t F P (k + 1) v V mn m W) {j : Nat} (hj : j ∉ F) (hM : Mem n0 B t v' (F.drop (k + 1) ++ [j]) V (fun i => i ∈ F.take (k + 1) ∨ i = s) P (mn + 1) (putAt m j (some p)) W') :
    Head H n0 B s t (F ++ [j]) (putWay P j (P p ++ [j])) (k + 1) v' V (mn + 1) (putAt m j (some p)) W' := by
  have hkl : k + 1 ≤ F.length := (List.getElem?_eq_some_iff.1 hF.at_).1
  have hpF := List.mem_of_getElem? hF.at_
  have hsF := List.mem_of_getElem? hF.head
  have hne : ∀ i, i ∈ F → i ≠ j := fun i hi e => hj (e ▸ hi)
  have hP : ∀ i, i ∈ F → putWay P j (P p ++ [j]) i = P i := fun i hi => putWay_other P _ (hne i hi)
  have hd : (F ++ [j]).drop (k + 1) = F.drop (k + 1) ++ [j] := List.drop_append_of_le_length hkl
  have ht : (F ++ [j]).take (k + 1) = F.take (k + 1) := List.take_append_of_le_length hkl
  have hpt : p ∈ F.take (k + 1) := (mem_take_succ hF.at_ p).2 (.inl rfl)
  refine ⟨?_, fun i hi hne' => ?_, fun i hi h => ?_, ?_⟩
  · rw [hd, ht]
    exact hM.of_ways fun i hi => hP i (by
      rcases hi with hi | hi
      · exact List.mem_of_mem_take hi
      · rw [hi]; exact hsF)
  · rw [hd] at hi
    rw [ht]
    rcases List.mem_append.1 hi with hi | hi
    · have hiF := List.mem_of_mem_drop hi
      obtain ⟨q, h3, h4, h5⟩ := hH.by_ i hi hne'
      exact ⟨q, by rw [putAt_other m _ (hne i hiF)]; exact h3, h4, by rw [hP i hiF, hP q (List.mem_of_mem_take h4)]; exact h5⟩
    · rw [List.mem_singleton.1 hi]
      exact ⟨p, putAt_same _ _ _, hpt, by rw [putWay_same, hP p hpF]⟩
  · rw [hd] at h
    have hij : i ≠ j := by
      rcases h with h | h
      · intro e; exact h (by simp [e])
      · rw [h]; exact hne s hsF
    rw [putAt_other m _ hij]
    refine hH.none_ i hi ?_
    rcases h with h | h
    · exact .inl fun h' => h (by simp [h'])
    · exact .inr h
  · have := hH.few
    simp
    omega
/-- What the map and the table tell of a place that is asked for. -/
theorem asked_old (hH : Head H n0 B s t F P (k + 1) v V mn m W) {j : Nat} (hj12 : j < 12) (hj : j ∈ F) : (m j).isSome = true ∨ ((m j).isSome = false ∧ ∃ g c n, V j = .slice (some ⟨g, 0, none⟩) n c) := by
  by_cases hs : j ∈ F.take (k + 1) ∨ j = s
  · obtain ⟨⟨_, h2⟩, hne⟩ := hH.mem.rows j hj12 hs
    by_cases hm : (m j).isSome = true
    · exact .inl hm
    · refine .inr ⟨by simpa using hm, ?_⟩
      rcases h2 with ⟨_, e⟩ | ⟨g, c, _, e, _⟩
      · exact absurd (List.eq_nil_of_length_eq_zero e) hne
      · exact ⟨g, c, _, e⟩
  · have hjs : j ≠ s := fun e => hs (.inr e)
    have hjd : j ∈ F.drop (k + 1) := by
      have h1 := List.take_append_drop (k + 1) F
      rw [← h1] at hj
      rcases List.mem_append.1 hj with h | h
      · exact absurd (.inl h) hs
      · exact h
    obtain ⟨q, h3, _⟩ := hH.by_ j hjd hjs
    exact .inl (by rw [h3]; rfl)
theorem asked_new {pre : List Nat} (hF : Find0 s t F k p pre) (hH : Head H n0 B s t F P (k + 1) v V mn m W) {j : Nat} (hj12 : j < 12) (hj : j ∉ F) : m j = none ∧ V j = .slice none 0 0 :=
  ⟨hH.none_ j hj12 (.inl fun h => hj (List.mem_of_mem_drop h)), hH.mem.nils j hj12 fun h => hj (by
    rcases h with h | h
    · exact List.mem_of_mem_take h
    · rw [h]; exact List.mem_of_getElem? hF.head)⟩
end
theorem below_drew {C : Nat} {W W' : World} (h : Below C W.drew W') : Below C W W' := ⟨h.os, h.tape, h.output, h.size, h.block⟩
theorem made_some {base : Nat} {xs : List Int} {x : Int} {W : World} {v : Value} (h : MadeInts base (xs ++ [x]) W v) : ∃ g c, v = .slice (some ⟨g, 0, none⟩) (xs.length + 1) c ∧ base ≤ g := by
  rcases h.1.2 with ⟨_, e⟩ | ⟨g, c, _, e, hg, _⟩
  · simp at e
  · exact ⟨g, c, by rw [e]; simp, hg⟩
theorem key_pos {H : Nat → Nat → Bool} {s j : Nat} {l : List Nat} (h : PathTo H s l j) : 0 < key l := by
  cases h with
  | start => simp [key, keyR]
  | step _ _ _ _ => rw [key_snoc]; omega
/-- A way is no longer than there are places. -/
theorem path_len {H : Nat → Nat → Bool} {s t : Nat} {F : List Nat} {P : Nat → List Nat} {k : Nat} (hF : Found H s t F P k) : ∀ (b : Nat) (y : Nat), F[b]? = some y → (P y).length ≤ b + 1 := by
  intro b
  induction b using Nat.strongRecOn with
  | _ b ih =>
    intro y hy
    by_cases hb : b = 0
    · subst hb
      have e := hF.head
      rw [hy] at e
      cases e
      have h1 := hF.path _ (List.mem_of_getElem? hy)
      have h2 := hF.least _ (List.mem_of_getElem? hy) [s] .start
      generalize P s = l at h1 h2 ⊢
      cases h1 with
      | start => simp
      | step h3 _ _ _ =>
        have := key_pos h3
        rw [key_snoc] at h2
        simp [key, keyR] at h2 this
        omega
    · obtain ⟨a, x, ha, hx, e⟩ := hF.from_ b y (by omega) hy
      have hab : a < b := by
        rcases Nat.lt_trichotomy a b with h | h | h
        · exact h
        · rw [h, hy] at hx
          cases hx
          have := congrArg List.length e
          simp at this
        · have := hF.sorted b a y x h hy hx
          rw [e, key_snoc] at this
          omega
      have := ih a hab x hx
      rw [e]
      simp
      omega
theorem path_short {H : Nat → Nat → Bool} {s t : Nat} {F : List Nat} {P : Nat → List Nat} {k y : Nat} (hF : Found H s t F P k) (hFl : F.length ≤ 12) (hy : y ∈ F) : (P y).length ≤ 12 := by
  obtain ⟨b, hb⟩ := List.getElem?_of_mem hy
  have := path_len hF b y hb
  have := (List.getElem?_eq_some_iff.1 hb).1
  omega
theorem keepsFrom_mono {B B' : Nat} {W W' : World} (h : KeepsFrom B W W') (hB : B ≤ B') : KeepsFrom B' W W' := ⟨h.size, fun k o hk ho hc => h.same k o (Nat.le_trans hB hk) ho hc⟩

/-- An append to the queue, inside a fence. -/
theorem append_pl {F : Fence} {nF : Nat} (w : World) {ops : Array Oper} {rest : List Oper} {o : Oper} {a : Act} {Q : Exit → Act → World → Prop} (hg : o.guard = none) (s x : Operand)
    (hop : o.op = Op.call { callee := Callee.builtin Builtin.append, args := #[s, x], argTypes := #[42, 42] }) {base : Nat} {v : Value} {xs : List Nat} (j : Nat) (h : QueueAt w base v xs) (hs : a.eval s = v) (hx : xs.length ≤ 1000) (ad c : Nat)
    (hxe : a.eval x = .slice (some ⟨ad, 0, none⟩) 1 c) (hbs : base ≤ w.heap.size) (ha : w.cell? ⟨ad, 0, none⟩ = some (plc j))
    (hK : ∀ g off cap w', QueueAt w' base (.slice (some ⟨g, off, none⟩) (xs.length + 1) cap) (xs ++ [j]) → w.grownBy w' v.ownBlock → (v.ownBlock = some g ∨ w.heap.size ≤ g) → wpListIn F nF Try.prog ops Q rest (a.put o.dst (.slice (some ⟨g, off, none⟩) (xs.length + 1) cap)) w') :
    wpListIn F nF Try.prog ops Q (o :: rest) a w := by
  refine wpListIn_plain hg fun K hK' => ?_
  obtain ⟨v', w', hrun, r1, r2, r3⟩ := run_append_queue w o.type j h hx ad hbs ha c
  have r1' := r1
  obtain ⟨g, off, cap, cur, e, r⟩ := r1
  simp only [List.length_append, List.length_cons, List.length_nil, Nat.zero_add] at e
  subst e
  have r3' : v.ownBlock = some g ∨ w.heap.size ≤ g := by
    rcases r3 with h | ⟨q, h, hq⟩
    · exact .inl (by rw [← h]; rfl)
    · simp [Value.ownBlock] at h
      exact .inr (by omega)
  unfold Oper.wpIn
  refine ⟨?_, ?_⟩
  · simp [Oper.about, hop, resolve, Target.leads, Sem.run_pure]
  · rw [Oper.semAt_plain F _ _ (by rw [hop]; intro c hc'; cases hc')]
    simp [execOp, hop, resolve, invoke, builtin, hs, hxe, hrun, Result.andThen]
    exact hK' _ _ (hK g off cap w' r1' r2 r3')
/-- A way was found (the neighbours pre of p rise). -/
def Hit (H : Nat → Nat → Bool) (s t B : Nat) (pre : List Nat) (W : World) : Prop := ∃ l g c, (Inc pre → FirstWay H s t l) ∧ Boxed W (B + 1) 42 (.slice (some ⟨g, 0, none⟩) l.length c) ∧ B ≤ g ∧ (∀ (j x : Nat), l[j]? = some x → W.cell? ⟨g, j, none⟩ = some (plc x)) ∧ l.length ≤ 13 ∧ l.length ≤ c

/-- While the neighbours of p are looked at: pre already were. -/
structure InRound (H : Nat → Nat → Bool) (n0 B s t k p pb : Nat) (w1 : World) (pre : List Nat) (F : List Nat) (P : Nat → List Nat) (v : Value) (V : Nat → Value) (mn : Nat) (m : Nat → Option Nat) (W : World) : Prop where
  f0 : Find0 s t F k p pre
  full : Inc pre → Finding H s t F P k p pre
  short : (P p).length ≤ 12
  head : Head H n0 B s t F P (k + 1) v V mn m W
  apart : v.ownBlock ≠ some pb
  box : Boxed W pb 3 (.int .i64 ((p : Int) - 2))
  below : Below B w1 W
  keeps : KeepsFrom (B + 4) w1 W
section
variable {H : Nat → Nat → Bool} {n0 B s t k p pb : Nat} {w1 : World} {pre F : List Nat} {P : Nat → List Nat} {v : Value} {V : Nat → Value} {mn : Nat} {m : Nat → Option Nat} {W W' : World}
theorem Head.keep (h : Head H n0 B s t F P k v V mn m W) (hm : W'.heap[B + 3]? = W.heap[B + 3]?) (hk : ∀ (b : Nat) (cs : Array Value) (ty : TypeId) (fr : Nat × Nat), W.heap[b]? = some (Obj.cells cs ty fr) → W'.heap[b]? = W.heap[b]?) : Head H n0 B s t F P k v V mn m W' := ⟨h.mem.keep hm hk, h.by_, h.none_, h.few⟩
/-- The iterator's own blocks may turn. -/
theorem InRound.own (h : InRound H n0 B s t k p pb w1 pre F P v V mn m W) {C : Nat} (hC : w1.heap.size ≤ C) (hC3 : B + 3 < C) {row : Option Nat} (hg : W.grownBy W' row) (hr : ∀ r, row = some r → C ≤ r ∧ ∃ o : Obj, W.heap[r]? = some o ∧ o.isCells = false) : InRound H n0 B s t k p pb w1 pre F P v V mn m W' := by
  have hk : ∀ (b : Nat) (cs : Array Value) (ty : TypeId) (fr : Nat × Nat), W.heap[b]? = some (Obj.cells cs ty fr) → W'.heap[b]? = W.heap[b]? := fun b cs ty fr hc => hg.block b (Array.getElem?_eq_some_iff.1 hc).1 fun e => by
    obtain ⟨_, o, ho, hoc⟩ := hr b e.symm
    rw [hc] at ho
    cases ho
    cases hoc
  have hsz := h.head.mem.size
  refine ⟨h.f0, h.full, h.short, h.head.keep (hg.block _ (by omega) fun e => by have := (hr _ e.symm).1; omega) hk, h.apart, (hk _ _ _ _ h.box).trans h.box, h.below.grown hg (by omega) fun r e => by have := (hr r e).1; omega, ?_⟩
  refine ⟨Nat.le_trans h.keeps.size hg.size, fun j o hj ho hc => ?_⟩
  have h1 := h.keeps.same j o hj ho hc
  refine (hg.block j (Array.getElem?_eq_some_iff.1 h1).1 fun e => ?_).trans h1
  have := (hr _ e.symm).1
  have := (Array.getElem?_eq_some_iff.1 ho).1
  omega
theorem InRound.drew (h : InRound H n0 B s t k p pb w1 pre F P v V mn m W) : InRound H n0 B s t k p pb w1 pre F P v V mn m W.drew :=
  ⟨h.f0, h.full, h.short, h.head.keep rfl (fun _ _ _ _ _ => rfl), h.apart, h.box, h.below.drew, h.keeps.trans ((KeepsOthers.drew W).from _)⟩
theorem InRound.old (h : InRound H n0 B s t k p pb w1 pre F P v V mn m W) {j : Nat} (hj : j ∈ F) : InRound H n0 B s t k p pb w1 (pre ++ [j]) F P v V mn m W :=
  ⟨h.f0.old hj, fun hi => (h.full hi.front.1).old hj, h.short, h.head, h.apart, h.box, h.below, h.keeps⟩
theorem InRound.new (h : InRound H n0 B s t k p pb w1 pre F P v V mn m W) {j : Nat} (hj12 : j < 12) (hjt : j ≠ t) (hj : j ∉ F) (hH : H p j = true) {v' : Value} {Q : List Nat} (hQ : F.drop (k + 1) = Q) (hM : Mem n0 B t v' (Q ++ [j]) V (fun i => i ∈ F.take (k + 1) ∨ i = s) P (mn + 1) (putAt m j (some p)) W')
    (ha : v'.ownBlock ≠ some pb) (hb : Boxed W' pb 3 (.int .i64 ((p : Int) - 2))) (hB : Below B w1 W') (hK : KeepsFrom (B + 4) w1 W') : InRound H n0 B s t k p pb w1 (pre ++ [j]) (F ++ [j]) (putWay P j (P p ++ [j])) v' V (mn + 1) (putAt m j (some p)) W' := by
  subst hQ
  have hpj : p ≠ j := fun e => hj (e ▸ List.mem_of_getElem? h.f0.at_)
  exact ⟨h.f0.new hj12 hjt hj, fun hi => (h.full hi.front.1).new hj12 hjt hj hH hi.front.2, by rw [putWay_other P _ hpj]; exact h.short, head_push h.f0 h.head hj hM, ha, hb, hB, hK⟩
end
/-- The numbers of places. -/
abbrev nums (l : List Nat) : List Int := l.map fun i : Nat => (i : Int) - 2
theorem row_slice {W : World} {B : Nat} {u : Value} {l : List Nat} (h : W.ownsRow B 3 1 u l.length (l.map plc)) (hne : l ≠ []) :
    ∃ g c, u = .slice (some ⟨g, 0, none⟩) (nums l).length c ∧ g < W.heap.size ∧ (∀ (j : Nat) (x : Int), (nums l)[j]? = some x → W.cell? ⟨g, 0 + j, none⟩ = some (.int .i64 x)) ∧ (nums l).length ≤ c ∧ c ≤ maxLen := by
  rcases h.2 with ⟨_, e⟩ | ⟨gq, capq, cur', e, hg', hc', h1, h2, h3, h4⟩
  · exact absurd (List.eq_nil_of_length_eq_zero e) hne
  · refine ⟨gq, capq, by rw [List.length_map]; exact e, (Array.getElem?_eq_some_iff.1 hc').1, fun j x hx => ?_, by rw [List.length_map]; exact h1, h2⟩
    rw [Nat.zero_add]
    refine cells_at hc' ?_
    have hj : j < l.length := by
      have := (List.getElem?_eq_some_iff.1 hx).1
      simpa using this
    have h5 : (l.map plc)[j]? = some (.int .i64 x) := by rw [map_plc, List.getElem?_map, hx]; rfl
    rw [← h4, List.getElem?_take, if_pos (by omega)] at h5
    simpa using h5
theorem made_cells {base : Nat} {xs : List Int} {W : World} {g n c : Nat} (h : MadeInts base xs W (.slice (some ⟨g, 0, none⟩) n c)) : n = xs.length ∧ xs.length ≤ c ∧ ∀ (j : Nat) (x : Int), xs[j]? = some x → W.cell? ⟨g, j, none⟩ = some (.int .i64 x) := by
  have hc := h.1.cells (g := g) rfl
  refine ⟨?_, ?_, fun j x hx => ?_⟩
  · rcases h.1.2 with ⟨e, _⟩ | ⟨g', c', _, e, _⟩
    · cases e
    · cases e; rfl
  · rcases h.1.2 with ⟨e, _⟩ | ⟨g', c', _, e, _, _, h1, _⟩
    · cases e
    · cases e; exact h1
  · have := hc j (.int .i64 x) (by rw [List.getElem?_map, hx]; rfl)
    rw [Addr.add_lit, Nat.zero_add] at this
    exact this
/-- What the search leaves. -/
def Ended (H : Nat → Nat → Bool) (s t B : Nat) (sp : Option Addr) (l : List Nat) (c : Nat) (W : World) : Prop :=
  Boxed W (B + 1) 42 (.slice sp l.length c) ∧ ((l = [] ∧ ∀ m, ¬ PathTo H s m t) ∨ FirstWay H s t l) ∧ l.length ≤ 13 ∧ (0 < l.length → ∃ g, sp = some ⟨g, 0, none⟩ ∧ ∀ (j x : Nat), l[j]? = some x → W.cell? ⟨g, j, none⟩ = some (plc x))
theorem Hit.ended {H : Nat → Nat → Bool} {s t B : Nat} {pre : List Nat} {W : World} (h : Hit H s t B pre W) (hi : Inc pre) : ∃ sp l c, Ended H s t B sp l c W := by
  obtain ⟨l, g, c, h1, h2, h3, h4, h5, h6⟩ := h
  exact ⟨_, l, c, h2, .inr (h1 hi), h5, fun _ => ⟨g, rfl, h4⟩⟩
theorem ended_none {H : Nat → Nat → Bool} {s t B : Nat} {F : List Nat} {P : Nat → List Nat} {W : World} (hF : Found H s t F P F.length) (hb : Boxed W (B + 1) 42 (.slice none 0 0)) : ∃ sp l c, Ended H s t B sp l c W :=
  ⟨none, [], 0, hb, .inl ⟨rfl, fun m => hF.none m⟩, by simp, fun h => absurd h (by simp)⟩
/-- What way answers. -/
def WayPost (H : Nat → Nat → Bool) (s t : Nat) (w : World) (e : Ending) (w' : World) : Prop := Below w.heap.size w w' ∧
  ∃ A l c, e = .returned (.slice A l.length c) ∧ l.length ≤ c ∧ Held w' w'.heap.size 1 encI A (nums l) ∧ ((l = [] ∧ ∀ m, ¬ PathTo H s m t) ∨ FirstWay H s t l)
theorem held_plc {W : World} {g n : Nat} {l : List Nat} (h : W.heap[g]? = some (.cells (l.map plc).toArray 3 (0, 0))) (_ : n = 0) : Held W W.heap.size 1 encI (some ⟨g, 0, none⟩) (nums l) :=
  .inr ⟨g, 0, rfl, (Array.getElem?_eq_some_iff.1 h).1, fun j x hx i v hv => by
    match i, hv with
    | 0, hv =>
      simp [encI] at hv
      subst hv
      refine (cell_of_row _ _ _ _ _ _ h).trans ?_
      rw [List.getElem?_map, Option.map_eq_some_iff] at hx
      obtain ⟨y, hy, rfl⟩ := hx
      simp [hy, plc]⟩
theorem run_copy_way (w : World) (g : Nat) (sp : Option Addr) (l : List Nat) (cF : Nat) (cur : Array Value) (hc : w.heap[g]? = some (.cells cur 3 (0, 0))) (hcl : cur.size = l.length)
    (hs : 0 < l.length → ∃ g9, sp = some ⟨g9, 0, none⟩ ∧ ∀ (j x : Nat), l[j]? = some x → w.cell? ⟨g9, j, none⟩ = some (plc x)) :
    ∃ w6, (Builtin.copy_ #[42, 42] 3 #[.slice (some ⟨g, 0, none⟩) l.length l.length, .slice sp l.length cF]).run Try.prog w = .ok (.int .i64 l.length) w6 ∧ w6.heap[g]? = some (.cells (l.map plc).toArray 3 (0, 0)) ∧ w.grownBy w6 (some g) := by
  have hsz : (Try.prog.info? 3).map (·.size) = some 1 := by kernel_rfl
  by_cases h0 : l.length = 0
  · obtain rfl : l = [] := List.eq_nil_of_length_eq_zero h0
    refine ⟨w, run_copy_none (P := Try.prog) w 42 42 3 3 _ _ 0 0 0 cF Try.underlying42 hsz rfl, ?_, ⟨rfl, rfl, rfl, Nat.le_refl _, fun _ _ _ => rfl⟩⟩
    have : cur = #[] := Array.eq_empty_of_size_eq_zero (by simpa using hcl)
    rw [hc, this]
    rfl
  · obtain ⟨g9, rfl, hx⟩ := hs (by omega)
    have hrun := run_copy_row (P := Try.prog) w 42 42 3 3 g 0 l.length l.length ⟨g9, 0, none⟩ l.length cF cur 3 (l.map plc) Try.underlying42 hsz hc (by simp) (fun j v hv => by
      rw [List.getElem?_map, Option.map_eq_some_iff] at hv
      obtain ⟨y, hy, rfl⟩ := hv
      rw [Addr.add_lit, Nat.zero_add]
      exact hx j y hy) (by simp [hcl]) (fun v hv => by
      obtain ⟨y, _, rfl⟩ := List.mem_map.1 hv
      rfl)
    rw [List.length_map] at hrun
    refine ⟨_, hrun, ?_, ⟨rfl, rfl, rfl, by simp [World.setRow], fun k _ hk => setRow_other w g k _ (fun e => hk (by rw [e]))⟩⟩
    refine (setRow_heap w g _ _ 3 _ hc).trans ?_
    simp [hcl]
theorem Hit.own {H : Nat → Nat → Bool} {s t B : Nat} {pre : List Nat} {W W' : World} (h : Hit H s t B pre W) {row : Option Nat} (hg : W.grownBy W' row) (hr : ∀ r, row = some r → ∃ o : Obj, W.heap[r]? = some o ∧ o.isCells = false) : Hit H s t B pre W' := by
  obtain ⟨l, g, c, h1, h2, h3, h4, h5, h6⟩ := h
  exact ⟨l, g, c, h1, boxed_own _ _ (fun (_ : Unit) => _) () W W' row h2 hg hr, h3, fun j x hx => cell_kept (h4 j x hx) hg hr, h5, h6⟩
theorem keepsFrom_own {B C : Nat} {w1 W W' : World} (h : KeepsFrom B w1 W) (hC : w1.heap.size ≤ C) {row : Option Nat} (hg : W.grownBy W' row) (hr : ∀ r, row = some r → C ≤ r) : KeepsFrom B w1 W' :=
  ⟨Nat.le_trans h.size hg.size, fun j o hj ho hc => by
    have h1 := h.same j o hj ho hc
    refine (hg.block j (Array.getElem?_eq_some_iff.1 h1).1 fun e => ?_).trans h1
    have := hr _ e.symm
    have := (Array.getElem?_eq_some_iff.1 ho).1
    omega⟩
end Go.Proofs.Ytckndnaohggmhaa

/- way: the first one of the shortest ways, found breadth first. -/
namespace Go.Proofs.Ytckndnaohggmhaa
open Go.RowKit Go.Shelf
attribute [local go_sem] Oper.semAt_some
attribute [local irreducible] matCells wayCells

set_option maxRecDepth 100000 in
set_option maxHeartbeats 4000000 in
theorem way_go (H : Nat → Nat → Bool) (b s t : Nat) (hs : s < 12) (ht : t < 12) (hst : s ≠ t) (w : World) (hb : w.heap[b]? = some (.cells (matCells H) 135 (0, 0))) (h1 : noneB (H s) = false) (h2 : noneB (H t) = false) :
    Calls Try.prog 89 #[.pointer (some ⟨b, 0, none⟩), .int .i64 ((s : Int) - 2), .int .i64 ((t : Int) - 2)] w (WayPost H s t w) := by
  have hbl : b < w.heap.size := (Array.getElem?_eq_some_iff.1 hb).1
  refine (callsIn_wide (n := 12)).1 ?_
  refine callsIn_of_wp_marks Try.func89 rfl trivial ?_ rfl
  simp only [Try.ntmps89, List.size_toArray, List.length_cons, List.length_nil, Nat.reduceAdd, Nat.reduceSub, Array.replicate_succ, Array.replicate_zero, List.push_toArray, List.append_toArray, List.nil_append, List.cons_append]
  have c1 := lone_any b s hs H (w.alloc (.cells #[.int .i64 ((t : Int) - 2)] 3)) (row_alloc _ _ _ _ hb)
  rw [h1] at c1
  have c2 := fun (W : World) (hB : Below (w.heap.size + 1) (w.alloc (.cells #[.int .i64 ((t : Int) - 2)] 3)) W) => lone_any b t ht H W ((hB.block b (by omega)).trans (row_alloc _ _ _ _ hb))
  rw [h2] at c2
  have hz0 : (w.alloc (.cells #[.int .i64 ((t : Int) - 2)] 3)).heap.size = w.heap.size + 1 := by simp
  have hsz : (s : Int) < 12 := by omega
  rw [hz0] at c1
  have C2 := Lib.hid c2
  have HB := Lib.hid hb
  clear c2 hb
  gi_wp2
  refine wpIn_scope_wide ?_
  have hmm := @run_makeMap Try.prog
  gi_wp2_with (first | (refine ⟨trivial, ?_⟩; gi_at_call 117; (with_reducible refine (callsIn_wide.2 c1).mono ?_); rintro e W1 ⟨rfl, hB1⟩; have c3 := C2.out W1 hB1; have b5 : Boxed W1 w.heap.size 3 (.int .i64 ((t : Int) - 2)) := (hB1.block w.heap.size (by omega)).trans (Boxed.new w 3 _); have c5 := b5.cell) | (refine ⟨trivial, ?_⟩; gi_at_call 117; (with_reducible refine (callsIn_wide.2 c3).mono ?_); rintro e W2 ⟨rfl, hB2⟩; have hB := hB1.trans (hB2.mono (by have := hB1.size; omega)); have b5' := (hB2.block w.heap.size b5.lt).trans b5; clear hB1 hB2 b5 c5 c1 c3) | (refine ⟨trivial, ?_⟩; gi_at_call 95; refine (callsIn_wide.2 (at_pl s _ (by omega))).mono ?_; rintro e w' ⟨rfl, rfl⟩))

  clear C2 hmm
  refine wpIn_label ?_
  gi_wp2
  have hsz2 := hB.size
  rw [hz0] at hsz2
  obtain ⟨W3, hW3, hM3, hB3⟩ := mem_start w.heap.size s t W2 b5'
  rw [hW3]
  clear hW3
  have hbW : W3.heap[b]? = some (.cells (matCells H) 135 (0, 0)) := (hB3.block b (by omega)).trans ((hB.block b (by omega)).trans (row_alloc _ _ _ _ HB.out))
  have hB0 : Below w.heap.size w W3 := ((Below.refl _ w).alloc (Nat.le_refl _) _).trans ((hB.mono (by omega)).trans (hB3.mono (by omega)))
  have hmz := hM3.size
  clear hB hB3 b5' hz0 HB
  obtain ⟨B, hBW⟩ : ∃ B, W2.heap.size = B := ⟨_, rfl⟩
  rw [hBW] at hM3 hmz hsz2 ⊢
  clear hBW
  refine wpIn_loop_ghost_k (fun n a' w1 => ∃ (F : List Nat) (P : Nat → List Nat) (k : Nat) (v : Value) (V : Nat → Value) (mn : Nat) (m : Nat → Option Nat) (Ds : List Nat) (u1 u2 u3 u4 u11 u12 u13 u14 u15 u16 u17 u18 u19 u20 u21 u22 u23 u24 u25 u26 u27 u28 u29 u30 u31 u32 u33 u34 u35 u36 u37 u38 u39 u40 u41 u42 u43 u44 u45 u46 u47 u48 u49 u50 u51 u52 u53 u54 u55 u56 u57 u58 u59 u60 u61 u62 u63 u64 u65 u66 u67 u68 u69 u70 u71 u72 u73 u74 u75 u76 u77 u78 u79 u80 u81 u82 u83 u84 u85 u86 u87 u88 u89 u90 u91 u92 u93 u94 u95 u96 u97 u98 u99 u100 u101 : Value), (n = 12 - k ∧ Found H s t F P k ∧ Head H w.heap.size B s t F P k v V mn m w1 ∧ Ds.Nodup ∧ (∀ D, D ∈ Ds → W3.heap.size ≤ D ∧ w1.heap[D]? = some (.deferred (some []))) ∧ w1.heap[b]? = some (.cells (matCells H) 135 (0, 0)) ∧ Below w.heap.size w w1 ∧ W3.heap.size ≤ w1.heap.size) ∧
      a' = { tmps := List.toArray (Value.pointer (some ⟨b, 0, none⟩) :: u1 :: u2 :: u3 :: u4 :: Value.pointer (some ⟨w.heap.size, 0, none⟩) :: Value.slice none 0 0 :: Value.pointer (some ⟨B, 0, none⟩) :: Value.pointer (some ⟨B + 1, 0, none⟩) :: Value.pointer (some ⟨B + 4, 0, none⟩) :: Value.pointer (some ⟨B + 6, 0, none⟩) :: u11 :: u12 :: u13 :: u14 :: u15 :: u16 :: u17 :: u18 :: u19 :: u20 :: u21 :: u22 :: u23 :: u24 :: u25 :: u26 :: u27 :: u28 :: u29 :: u30 :: u31 :: u32 :: u33 :: u34 :: u35 :: u36 :: u37 :: u38 :: u39 :: u40 :: u41 :: u42 :: u43 :: u44 :: u45 :: u46 :: u47 :: u48 :: u49 :: u50 :: u51 :: u52 :: u53 :: u54 :: u55 :: u56 :: u57 :: u58 :: u59 :: u60 :: u61 :: u62 :: u63 :: u64 :: u65 :: u66 :: u67 :: u68 :: u69 :: u70 :: u71 :: u72 :: u73 :: u74 :: u75 :: u76 :: u77 :: u78 :: u79 :: u80 :: u81 :: u82 :: u83 :: u84 :: u85 :: u86 :: u87 :: u88 :: u89 :: u90 :: u91 :: u92 :: u93 :: u94 :: u95 :: u96 :: u97 :: u98 :: u99 :: u100 :: u101 :: List.nil), defers := Ds.map markOf }) 12 ?_ ?_
  · refine ⟨[s], fun _ => [s], 0, _, _, 0, _, [], _, _, _, _, _, _, _, _, _, _, _, _, _, _, _, _, _, _, _, _, _, _, _, _, _, _, _, _, _, _, _, _, _, _, _, _, _, _, _, _, _, _, _, _, _, _, _, _, _, _, _, _, _, _, _, _, _, _, _, _, _, _, _, _, _, _, _, _, _, _, _, _, _, _, _, _, _, _, _, _, _, _, _, _, _, _, _, _, _, _, _, _, _, _, _, ⟨rfl, Found.start hs hst, ⟨by simpa using hM3, fun i hi his => absurd (by simpa using hi) his, fun i _ _ => rfl, by simp⟩, List.nodup_nil, fun D hD => absurd hD (by simp), hbW, hB0, Nat.le_refl _⟩, rfl⟩
  · rintro n a' w1 ⟨F, P, k, v, V, mn, m, Ds, hall⟩ J K hJ hK
    obtain ⟨u1, hall⟩ := hall
    obtain ⟨u2, hall⟩ := hall
    obtain ⟨u3, hall⟩ := hall
    obtain ⟨u4, hall⟩ := hall
    obtain ⟨u11, hall⟩ := hall
    obtain ⟨u12, hall⟩ := hall
    obtain ⟨u13, hall⟩ := hall
    obtain ⟨u14, hall⟩ := hall
    obtain ⟨u15, hall⟩ := hall
    obtain ⟨u16, hall⟩ := hall
    obtain ⟨u17, hall⟩ := hall
    obtain ⟨u18, hall⟩ := hall
    obtain ⟨u19, hall⟩ := hall
    obtain ⟨u20, hall⟩ := hall
    obtain ⟨u21, hall⟩ := hall
    obtain ⟨u22, hall⟩ := hall
    obtain ⟨u23, hall⟩ := hall
    obtain ⟨u24, hall⟩ := hall
    obtain ⟨u25, hall⟩ := hall
    obtain ⟨u26, hall⟩ := hall
    obtain ⟨u27, hall⟩ := hall
    obtain ⟨u28, hall⟩ := hall
    obtain ⟨u29, hall⟩ := hall
    obtain ⟨u30, hall⟩ := hall
    obtain ⟨u31, hall⟩ := hall
    obtain ⟨u32, hall⟩ := hall
    obtain ⟨u33, hall⟩ := hall
    obtain ⟨u34, hall⟩ := hall
    obtain ⟨u35, hall⟩ := hall
    obtain ⟨u36, hall⟩ := hall
    obtain ⟨u37, hall⟩ := hall
    obtain ⟨u38, hall⟩ := hall
    obtain ⟨u39, hall⟩ := hall
    obtain ⟨u40, hall⟩ := hall
    obtain ⟨u41, hall⟩ := hall
    obtain ⟨u42, hall⟩ := hall
    obtain ⟨u43, hall⟩ := hall
    obtain ⟨u44, hall⟩ := hall
    obtain ⟨u45, hall⟩ := hall
    obtain ⟨u46, hall⟩ := hall
    obtain ⟨u47, hall⟩ := hall
    obtain ⟨u48, hall⟩ := hall
    obtain ⟨u49, hall⟩ := hall
    obtain ⟨u50, hall⟩ := hall
    obtain ⟨u51, hall⟩ := hall
    obtain ⟨u52, hall⟩ := hall
    obtain ⟨u53, hall⟩ := hall
    obtain ⟨u54, hall⟩ := hall
    obtain ⟨u55, hall⟩ := hall
    obtain ⟨u56, hall⟩ := hall
    obtain ⟨u57, hall⟩ := hall
    obtain ⟨u58, hall⟩ := hall
    obtain ⟨u59, hall⟩ := hall
    obtain ⟨u60, hall⟩ := hall
    obtain ⟨u61, hall⟩ := hall
    obtain ⟨u62, hall⟩ := hall
    obtain ⟨u63, hall⟩ := hall
    obtain ⟨u64, hall⟩ := hall
    obtain ⟨u65, hall⟩ := hall
    obtain ⟨u66, hall⟩ := hall
    obtain ⟨u67, hall⟩ := hall
    obtain ⟨u68, hall⟩ := hall
    obtain ⟨u69, hall⟩ := hall
    obtain ⟨u70, hall⟩ := hall
    obtain ⟨u71, hall⟩ := hall
    obtain ⟨u72, hall⟩ := hall
    obtain ⟨u73, hall⟩ := hall
    obtain ⟨u74, hall⟩ := hall
    obtain ⟨u75, hall⟩ := hall
    obtain ⟨u76, hall⟩ := hall
    obtain ⟨u77, hall⟩ := hall
    obtain ⟨u78, hall⟩ := hall
    obtain ⟨u79, hall⟩ := hall
    obtain ⟨u80, hall⟩ := hall
    obtain ⟨u81, hall⟩ := hall
    obtain ⟨u82, hall⟩ := hall
    obtain ⟨u83, hall⟩ := hall
    obtain ⟨u84, hall⟩ := hall
    obtain ⟨u85, hall⟩ := hall
    obtain ⟨u86, hall⟩ := hall
    obtain ⟨u87, hall⟩ := hall
    obtain ⟨u88, hall⟩ := hall
    obtain ⟨u89, hall⟩ := hall
    obtain ⟨u90, hall⟩ := hall
    obtain ⟨u91, hall⟩ := hall
    obtain ⟨u92, hall⟩ := hall
    obtain ⟨u93, hall⟩ := hall
    obtain ⟨u94, hall⟩ := hall
    obtain ⟨u95, hall⟩ := hall
    obtain ⟨u96, hall⟩ := hall
    obtain ⟨u97, hall⟩ := hall
    obtain ⟨u98, hall⟩ := hall
    obtain ⟨u99, hall⟩ := hall
    obtain ⟨u100, hall⟩ := hall
    obtain ⟨u101, hall⟩ := hall
    obtain ⟨⟨rfl, hF, hH, hnd, hDs, hbw, hBw, hSw⟩, rfl⟩ := hall
    clear hM3 hbW hB0
    have HDS := Lib.hid (And.intro hnd hDs)
    have HF := Lib.hid hF
    have HH := Lib.hid hH
    have HJ := Lib.hid hJ
    have HK := Lib.hid hK
    have HBW := Lib.hid hbw
    clear hnd hDs hJ hK hbw
    have hFl := nodup_le 12 F hF.nodup fun a ha => (hF.lt a ha).1
    have hkl := hF.le
    by_cases hlt : k < F.length
    · obtain ⟨p, hp⟩ : ∃ p, F[k]? = some p := ⟨_, List.getElem?_eq_getElem hlt⟩
      have HP := Lib.hid hp
      obtain ⟨rest, hrest⟩ : ∃ rest, F.drop (k + 1) = rest := ⟨_, rfl⟩
      have hdrop : F.drop k = p :: rest := by rw [← hrest]; exact List.drop_eq_getElem_cons hlt ▸ (by rw [List.getElem?_eq_getElem hlt] at hp; cases hp; rfl)
      have hM := hH.mem
      rw [hdrop] at hM
      obtain ⟨g, off, cap, cur, hv, hg1, hg2, hg3, hg4, hg5, hg6⟩ := hM.queue
      simp only [List.length_cons] at hv hg3
      have hp12 := (hF.lt p (List.mem_of_getElem? hp)).1
      subst hv
      obtain ⟨off', hoff⟩ : ∃ o, (if cap = 1 then off else off + 1) = o := ⟨_, rfl⟩
      have hsl := run_tail g off rest.length cap hg3
      have hq' := hM.queue.tail
      rw [hoff] at hsl hq'
      have c10 := hM.box.cell
      have f10 := hM.box.frozen
      have chd : w1.cell? ⟨g, off, none⟩ = some (.int .i64 ((p : Int) - 2)) := by
        have := cells_at hg2 (hg6 0 p rfl)
        rw [Nat.add_zero] at this
        exact this
      have hz1 := hM.size
      have hrl : rest.length + 1 ≤ F.length := by rw [← hrest, List.length_drop]; omega
      obtain ⟨WA, eWA, MA, bP, fA, kA⟩ : ∃ WA, ((w1.alloc (.cells #[.int .i64 ((p : Int) - 2)] 3)).setCell ⟨B + 6, 0, none⟩ (.slice (some ⟨g, off', none⟩) rest.length (cap - 1))) = WA ∧
          Mem w.heap.size B t (.slice (some ⟨g, off', none⟩) rest.length (cap - 1)) rest V (fun i => i ∈ List.take k F ∨ i = s) P mn m WA ∧ Boxed WA w1.heap.size 3 (.int .i64 ((p : Int) - 2)) ∧ Below B w1 WA ∧ KeepsFrom (B + 4) w1 WA :=
        ⟨_, rfl, (hM.alloc _).setBox (hq'.kept fun r hr => by
            have := (hq'.obj r hr).2
            obtain ⟨cur, hc⟩ := this
            exact Below.heap_alloc _ _ _ (Array.getElem?_eq_some_iff.1 hc).1) (fun i r hi hr => hM.apart i r hi hr), (heap_set_other _ _ _ _ _ (by omega)).trans (Boxed.new w1 3 _), ((Below.refl _ w1).alloc (by omega) _).setCell (p := ⟨B + 6, 0, none⟩) (by show B ≤ B + 6; omega) _, ((KeepsOthers.alloc w1 _).trans (KeepsOthers.setCell _ _ _)).from _⟩
      have hzA := MA.size
      have hgw : g < w1.heap.size := (Array.getElem?_eq_some_iff.1 hg2).1
      clear hg2 hg3 hg4 hg5 hg6 hM hq' hoff hH hF hp
      gi_upto_region 11 with fail
      clear eWA c10 f10 chd hsl
      have c9 := MA.mapBox.cell
      have cP := bP.cell
      gi_upto_if 48 with (gi_at_lookup; refine look_pl _ rfl _ _ rfl (B + 3) mn m rfl MA.map p hp12 rfl ?_; intro cf hcf)
      gi_cut [12, 13] from 34 (fun _ _ wc => ∃ (V' : Nat → Value) (m' : Nat → Option Nat), Head H w.heap.size B s t F P (k + 1) (.slice (some ⟨g, off', none⟩) rest.length (cap - 1)) V' mn m' wc ∧ Boxed wc w1.heap.size 3 (.int .i64 ((p : Int) - 2)) ∧ Below B w1 wc ∧ KeepsFrom (B + 4) w1 wc)
      case first =>
        by_cases hk0 : k = 0
        · subst hk0
          have hps := first_is HF.out HP.out
          have hmp : (m p).isSome = false := by rw [HH.out.none_ p hp12 (.inr hps)]; rfl
          rw [hmp]
          gi_wp2
          gi_meet
          case rel => exact ⟨V, m, head_zero HF.out HH.out HP.out hrest MA, bP, fA, kA⟩
        · have hps := later_not HF.out HP.out hk0
          obtain ⟨q, hmq, hq1, hPp⟩ := HH.out.by_ p (by rw [hdrop]; simp) hps
          have hcq := hcf q hmq
          subst hcq
          have hmp : (m p).isSome = true := by rw [hmq]; rfl
          rw [hmp]
          have hq12 := (HF.out.lt q (List.mem_of_mem_take hq1)).1
          obtain ⟨hrow, hne⟩ := MA.rows q hq12 (.inl hq1)
          obtain ⟨gq, capq, hVq, hgq, hxq, hcq⟩ : ∃ gq capq, V q = .slice (some ⟨gq, 0, none⟩) ((P q).map fun i : Nat => (i : Int) - 2).length capq ∧ gq < WA.heap.size ∧ (∀ (j : Nat) (x : Int), ((P q).map fun i : Nat => (i : Int) - 2)[j]? = some x → WA.cell? ⟨gq, 0 + j, none⟩ = some (.int .i64 x)) ∧ ((P q).map fun i : Nat => (i : Int) - 2).length ≤ capq ∧ capq ≤ maxLen := by
            rcases hrow.2 with ⟨_, e⟩ | ⟨gq, capq, cur', e, hg', hc', h1, h2, h3, h4⟩
            · exact absurd (List.eq_nil_of_length_eq_zero e) hne
            · refine ⟨gq, capq, by rw [List.length_map]; exact e, (Array.getElem?_eq_some_iff.1 hc').1, fun j x hx => ?_, by rw [List.length_map]; exact h1, h2⟩
              rw [Nat.zero_add]
              refine cells_at hc' ?_
              have hj : j < (P q).length := by
                have := (List.getElem?_eq_some_iff.1 hx).1
                simpa using this
              have h5 : ((P q).map plc)[j]? = some (.int .i64 x) := by rw [map_plc, List.getElem?_map, hx]; rfl
              rw [← h4, List.getElem?_take, if_pos (by omega)] at h5
              simpa using h5
          have hlq : (P q).length ≤ 12 := path_short HF.out hFl (List.mem_of_mem_take hq1)
          have hcl := longer_any gq 0 _ capq ((P q).map fun i : Nat => (i : Int) - 2) ((p : Int) - 2) WA.drew rfl (by rw [List.length_map]; omega) hcq.1 hcq.2 hgq hxq
          have hVlen : ((P q).map fun i : Nat => (i : Int) - 2).length = (P q).length := List.length_map _
          rw [← hVq] at hcl
          have hcw : WA.cell? ⟨B, q, none⟩ = some (V q) := (cell_of_row _ _ _ _ _ _ MA.ways).trans (wayCells_get V q hq12)
          have hmx : Try.prog.follows .mixedOrders = true := by kernel_rfl
          have hpz : (p : Int) < 12 := by omega
          have hqz : (q : Int) < 12 := by omega
          have HCL := Lib.hid hcl
          have HVQ := Lib.hid hVq
          clear hcl hVlen hVq hxq hcq hrow
          gi_wp2
          refine wpIn_wide.2 ?_
          refine wp_region_still_tail 7 hmx (by kernel_rfl) ?_
          clear hmx
          simp only [List.take_succ_cons, List.take_zero, List.drop_succ_cons, List.drop_zero]
          still_step
          still_call (at_pl p _ (by omega))
          still_step
          still_call (at_pl q _ (by omega))
          still_step
          still_step
          still_step
          refine wpStill_nil ?_
          have hMd := MA.drew
          have cPd := bP.cell
          go_wp2_with (go_at_call 118; refine HCL.out.mono ?_; rintro e w2 ⟨v2, rfl, hO2, hB2⟩; obtain ⟨g2, d2, hv2, hg2⟩ := made_some hO2; subst hv2; have M2 := hMd.below hB2 (Nat.le_refl _); have c7 := (cell_of_row _ _ _ _ _ _ M2.ways).trans (wayCells_get V p hp12); have f7 : w2.frozen? ⟨B, p, none⟩ = false := (by simp [World.frozen?, M2.ways]))
          have hgA : g < WA.heap.size := (Array.getElem?_eq_some_iff.1 (MA.queue.obj g rfl).2.choose_spec).1
          obtain ⟨WB, eWB, MB, bPB, fB, kB⟩ : ∃ WB, (w2.setCell ⟨B, p, none⟩ (.slice (some ⟨g2, 0, none⟩) ((P q).length + 1) d2)) = WB ∧
              Mem w.heap.size B t (.slice (some ⟨g, off', none⟩) rest.length (cap - 1)) rest (putV V p (.slice (some ⟨g2, 0, none⟩) ((P q).length + 1) d2)) (fun i => i = p ∨ (i ∈ List.take k F ∨ i = s)) P mn m WB ∧ Boxed WB w1.heap.size 3 (.int .i64 ((p : Int) - 2)) ∧ Below B w1 WB ∧ KeepsFrom (B + 4) w1 WB := by
            refine ⟨_, rfl, M2.setWay hp12 ?_ (by rw [hPp]; simp) (fun r hr => ?_) (fun _ => Iff.rfl), (heap_set_other _ _ _ _ _ (by omega)).trans ((hB2.block _ bP.lt).trans bP), (fA.trans ((below_drew hB2).mono (by have := MA.size; show B ≤ WA.heap.size; omega))).setCell (p := ⟨B, p, none⟩) (Nat.le_refl _) _, kA.trans ((keepsFrom_below (below_drew hB2) (Nat.le_refl _) _).trans ((KeepsOthers.setCell w2 _ _).from _))⟩
            · have h5 := owns_mono (base' := B) hO2.1 (by have := MA.size; show B ≤ WA.heap.size; omega)
              rw [hPp, map_plc, List.map_append, List.length_append]
              simpa using h5
            · simp [Value.ownBlock] at hr ⊢
              have : WA.heap.size ≤ g2 := hg2
              omega
          have c9B := MB.mapBox.cell
          have cPB := bPB.cell
          clear c7 f7 M2 hO2 hg2 hB2 hMd cPd hcw c9 cP
          gi_wp2_with (gi_at_delete; refine del_pl _ rfl _ _ rfl (B + 3) mn m rfl MB.map p hp12 rfl ?_; intro W5 hP5 hG5)
          gi_meet
          case rel => exact ⟨_, _, head_more HF.out HH.out HP.out hrest (MB.setMap hP5 hG5), bPB.kept hG5 (fun e => by have := Option.some.inj e; omega), fB.grown hG5 (by have := MB.size; omega) (fun r e => by have := Option.some.inj e; omega), kB.trans (KeepsFrom.of_grownBy hG5 fun r e => by have := Option.some.inj e; omega)⟩
      case rest =>
        obtain ⟨V', m', hH', bP', fP', kP'⟩ := hcut
        clear MA bP fA kA hzA c9 cP hcf HH
        have cP' := bP'.cell
        have hHs := hH'.mem.size
        have hwc := fP'.size
        have hbc : wc.heap[b]? = some (.cells (matCells H) 135 (0, 0)) := (fP'.block b (by omega)).trans HBW.out
        have hcall := beside_any_it b p wc
        gi_wp2_with (refine ⟨trivial, ?_⟩; gi_at_call 119; refine (callsIn_wide.2 hcall).mono ?_; rintro e w' ⟨rfl, rfl⟩)
        have z2 : ((wc.alloc (.cells #[.pointer (some ⟨b, 0, none⟩)] 108)).alloc (.cells #[.int .i64 ((p : Int) - 2)] 3)).heap.size = wc.heap.size + 2 := by simp
        have B3 : Boxed ((wc.alloc (.cells #[.pointer (some ⟨b, 0, none⟩)] 108)).alloc (.cells #[.int .i64 ((p : Int) - 2)] 3)) wc.heap.size 108 (.pointer (some ⟨b, 0, none⟩)) := (Boxed.new wc 108 _).alloc _
        have B4 : Boxed ((wc.alloc (.cells #[.pointer (some ⟨b, 0, none⟩)] 108)).alloc (.cells #[.int .i64 ((p : Int) - 2)] 3)) (wc.heap.size + 1) 3 (.int .i64 ((p : Int) - 2)) := row_last _ _ _ (by simp)
        have hB2 : Below wc.heap.size wc ((wc.alloc (.cells #[.pointer (some ⟨b, 0, none⟩)] 108)).alloc (.cells #[.int .i64 ((p : Int) - 2)] 3)) := ((Below.refl _ wc).alloc (Nat.le_refl _) _).alloc (by simp) _
        obtain ⟨WI, hWI⟩ : ∃ WI, ((wc.alloc (.cells #[.pointer (some ⟨b, 0, none⟩)] 108)).alloc (.cells #[.int .i64 ((p : Int) - 2)] 3)) = WI := ⟨_, rfl⟩
        rw [hWI] at z2 B3 B4 hB2 ⊢
        clear hWI hcall cP'
        have hbI : WI.heap[b]? = some (.cells (matCells H) 135 (0, 0)) := (hB2.block b (by omega)).trans hbc
        have hpF := List.mem_of_getElem? HP.out
        have hI0 : InRound H w.heap.size B s t k p w1.heap.size w1 [] F P (.slice (some ⟨g, off', none⟩) rest.length (cap - 1)) V' mn m' WI :=
          ⟨(HF.out.look HP.out).to0, fun _ => HF.out.look HP.out, path_short HF.out hFl hpF, hH'.keep (hB2.block _ (by omega)) (fun c _ _ _ hc => hB2.block c (Array.getElem?_eq_some_iff.1 hc).1), by simp [Value.ownBlock]; omega, (hB2.block _ bP'.lt).trans bP', fP'.trans (hB2.mono (by omega)), kP'.trans (keepsFrom_below hB2 (Nat.le_refl _) _)⟩
        clear hH' bP' fP' kP' hB2 hbc
        refine wpIn_rangeFunc_ownH rfl (by omega) (gf := 126) (lb := #[.pointer (some ⟨wc.heap.size, 0, none⟩), .pointer (some ⟨wc.heap.size + 1, 0, none⟩)]) rfl trivial enters126
          (beside_stops (12 - 1) (by omega) wc.heap.size (wc.heap.size + 1) b p hp12 H WI (by omega) (by omega) B3.cell B4.cell hbI) (fun _ _ => trivial) (fun _ _ _ _ _ _ _ _ => trivial) (Below.refl _ _) (fun _ => rfl)
          (fun pre W => ∃ (F' : List Nat) (P' : Nat → List Nat) (v' : Value) (V' : Nat → Value) (mn' : Nat) (m' : Nat → Option Nat), InRound H w.heap.size B s t k p w1.heap.size w1 (pre.map fun x => x.val.val) F' P' v' V' mn' m' W)
          (fun cd pre W => cd = .exit 0 ∧ Hit H s t B (pre.map fun x => x.val.val) W ∧ Below B w1 W ∧ KeepsFrom (B + 4) w1 W)
          (fun pre X Y row hs hg hr => by
            obtain ⟨F', P', v', V', mn', m', h⟩ := hs
            exact ⟨F', P', v', V', mn', m', h.own (by omega) (by omega) hg hr⟩)
          (fun cd pre X Y row hs hg hr => by
            obtain ⟨e, h1, h2, h3⟩ := hs
            have := h2.size
            exact ⟨e, h1.own hg (fun r e => (hr r e).2), h2.grown hg (by omega) (fun r e => by have := (hr r e).1; omega), keepsFrom_own h3 (by omega) hg (fun r e => (hr r e).1)⟩)
          ⟨F, P, _, V', mn, m', hI0⟩
          (fun x a' _ => a' = { tmps := List.toArray (Value.pointer (some ⟨b, 0, none⟩) :: u1 :: u2 :: u3 :: u4 :: Value.pointer (some ⟨w.heap.size, 0, none⟩) :: Value.slice none 0 0 :: Value.pointer (some ⟨B, 0, none⟩) :: Value.pointer (some ⟨B + 1, 0, none⟩) :: Value.pointer (some ⟨B + 4, 0, none⟩) :: Value.pointer (some ⟨B + 6, 0, none⟩) :: Value.pointer (some ⟨w1.heap.size, 0, none⟩) :: u12 :: u13 :: Value.int .i64 ((x.val.val : Int) - 2) :: u15 :: u16 :: u17 :: u18 :: u19 :: u20 :: u21 :: u22 :: u23 :: u24 :: u25 :: u26 :: u27 :: u28 :: u29 :: u30 :: u31 :: u32 :: u33 :: u34 :: u35 :: u36 :: u37 :: u38 :: u39 :: u40 :: u41 :: u42 :: u43 :: u44 :: u45 :: u46 :: u47 :: u48 :: u49 :: u50 :: u51 :: u52 :: u53 :: u54 :: u55 :: u56 :: u57 :: u58 :: u59 :: Value.pointer (some ⟨b, 0, none⟩) :: Value.int .i64 ((p : Int) - 2) :: Value.func (.func 126) #[] #[.pointer (some ⟨wc.heap.size, 0, none⟩), .pointer (some ⟨wc.heap.size + 1, 0, none⟩)] :: Value.int .i64 ((x.val.val : Int) - 2) :: u64 :: u65 :: u66 :: u67 :: u68 :: u69 :: u70 :: u71 :: u72 :: u73 :: u74 :: u75 :: u76 :: u77 :: u78 :: u79 :: u80 :: u81 :: u82 :: u83 :: u84 :: u85 :: u86 :: u87 :: u88 :: u89 :: u90 :: u91 :: u92 :: u93 :: u94 :: u95 :: u96 :: u97 :: u98 :: u99 :: u100 :: u101 :: List.nil), defers := [] })
          (fun _ _ _ _ _ _ hs _ _ => hs)
          ?assign ?body ?done ?stop
        case assign =>
          rintro l pre x W K hI hK
          gi_wp2
          exact hK _ _ (KeepsFrom.refl _ _) trivial hI rfl
        case body =>
          rintro l pre x a' W hl ⟨r, hr⟩ ⟨F', P', v', V', mn', m', hI⟩ rfl hlt2
          have hx := x.val.isLt
          have hxz : (x.val.val : Int) < 12 := by omega
          have hpz : (p : Int) < 12 := by omega
          have hM := hI.head.mem
          have c5 : W.cell? ⟨w.heap.size, 0, none⟩ = some (.int .i64 ((t : Int) - 2)) := hM.two.cell
          have c11 := hI.box.cell
          have hzM := hM.size
          have hW1 := hI.below.size
          have hmx : Try.prog.follows .mixedOrders = true := by kernel_rfl
          have hkl' : k + 1 ≤ F'.length := (List.getElem?_eq_some_iff.1 hI.f0.at_).1
          have hpT : p ∈ F'.take (k + 1) := (mem_take_succ hI.f0.at_ p).2 (.inl rfl)
          have hFl' := nodup_le 12 F' hI.f0.nodup fun a ha => (hI.f0.lt a ha).1
          by_cases hxt : x.val.val = t
          · have hxe : ((x.val.val : Int) - 2 == (t : Int) - 2) = true := by simp [hxt]
            obtain ⟨hrow, hne⟩ := hM.rows p hp12 (.inl hpT)
            obtain ⟨gq, capq, hVq, hgq, hxq, hcq⟩ := row_slice hrow hne
            have hlq := hI.short
            have hcl := longer_any gq 0 _ capq (nums (P' p)) ((t : Int) - 2) W.drew rfl (by rw [List.length_map]; omega) hcq.1 hcq.2 hgq hxq
            rw [← hVq] at hcl
            have hcw : W.cell? ⟨B, p, none⟩ = some (V' p) := (cell_of_row _ _ _ _ _ _ hM.ways).trans (wayCells_get V' p hp12)
            have HCL := Lib.hid hcl
            have HVQ := Lib.hid hVq
            have HXT := Lib.hid hxt
            clear hcl hVq hxq hcq hrow hxt
            gi_wp2
            refine round_still_tail 5 hmx (by kernel_rfl) (by kernel_rfl) ?_
            clear hmx
            simp only [List.take_succ_cons, List.take_zero, List.drop_succ_cons, List.drop_zero]
            still_step
            still_call (at_pl p _ (by omega))
            still_step
            still_step
            still_step
            refine wpStill_nil ?_
            go_wp2_with fail
            refine HCL.out.mono ?_
            rintro e w2 ⟨v2, rfl, hO2, hB2⟩
            obtain ⟨g2, d2, hv2, hg2⟩ := made_some hO2
            subst hv2
            have bF : Boxed w2 (B + 1) 42 (.slice none 0 0) := ((below_drew hB2).block (B + 1) (by show B + 1 < W.heap.size; omega)).trans hM.none_
            have c8 := bF.cell
            have f8 := bF.frozen
            go_wp2
            gi_wp2
            obtain ⟨_, hcl2, hcx⟩ := made_cells hO2
            have hg2' : W.heap.size ≤ g2 := hg2
            have kB : KeepsFrom (B + 4) W (w2.setCell ⟨B + 1, 0, none⟩ (.slice (some ⟨g2, 0, none⟩) ((P' p).length + 1) d2)) := (keepsFrom_below (below_drew hB2) (Nat.le_refl _) _).trans ((KeepsOthers.setCell w2 _ _).from _)
            refine ⟨keepsFrom_mono kB (by omega), ⟨rfl, ⟨P' p ++ [t], g2, d2, fun hi => ?_, ?_, by omega, fun j x' hx' => ?_, by simp; omega, by simpa using hcl2⟩, (hI.below.trans ((below_drew hB2).mono (by show B ≤ W.heap.size; omega))).setCell (p := ⟨B + 1, 0, none⟩) (by show B ≤ B + 1; omega) _, hI.keeps.trans kB⟩⟩
            · rw [List.map_append] at hi
              have hxp := x.property
              rw [HXT.out] at hxp
              exact (hI.full hi.front.1).hit ht hxp
            · rw [List.length_append]
              exact bF.set _
            · refine (World.cell?_of_block (heap_set_other w2 _ _ _ _ (by show g2 ≠ B + 1; omega))).trans (hcx j ((x' : Int) - 2) ?_)
              rw [show nums (P' p) ++ [(t : Int) - 2] = nums (P' p ++ [t]) from by simp [nums], List.getElem?_map, hx']
              rfl
          · have hxe : ((x.val.val : Int) - 2 == (t : Int) - 2) = false := by simp; omega
            have c9 := hM.mapBox.cell
            by_cases hxF : x.val.val ∈ F'
            · rcases asked_old hI.head hx hxF with hm | ⟨hm, gj, cj, nj, hVj⟩
              · gi_wp2_with (gi_at_lookup; refine look_pl _ rfl _ _ rfl (B + 3) mn' m' rfl hM.map x.val.val hx rfl ?_; rw [hm]; intro c2 _)
                refine ⟨trivial, ?_⟩
                gi_wp2
                exact ⟨KeepsFrom.refl _ _, trivial, F', P', v', V', mn', m', by rw [List.map_append]; exact hI.old hxF⟩
              · have hcw : W.cell? ⟨B, x.val.val, none⟩ = some (V' x.val.val) := (cell_of_row _ _ _ _ _ _ hM.ways).trans (wayCells_get V' _ hx)
                rw [hVj] at hcw
                have hen := fun W' : World => Lib.run_eql_slice_nil (P := Try.prog) W' 42 3 (some ⟨gj, 0, none⟩) nj cj 0 0 Try.underlying42
                gi_wp2_with (first | (gi_at_lookup; refine look_pl _ rfl _ _ rfl (B + 3) mn' m' rfl hM.map x.val.val hx rfl ?_; rw [hm]; intro c2 _) | (refine ⟨trivial, ?_⟩; gi_at_call 95; refine (CallsIn.inRound l (callsIn_wide.2 (at_pl x.val.val _ (by omega)))).mono ?_; rintro e w' ⟨rfl, rfl⟩))
                exact ⟨KeepsFrom.refl _ _, trivial, F', P', v', V', mn', m', by rw [List.map_append]; exact hI.old hxF⟩
            · obtain ⟨hmn, hVj⟩ := asked_new hI.f0 hI.head hx hxF
              have hm : (m' x.val.val).isSome = false := by rw [hmn]; rfl
              have hcw : W.cell? ⟨B, x.val.val, none⟩ = some (V' x.val.val) := (cell_of_row _ _ _ _ _ _ hM.ways).trans (wayCells_get V' _ hx)
              rw [hVj] at hcw
              have hen := fun W' : World => Lib.run_eql_slice_nil (P := Try.prog) W' 42 3 none 0 0 0 0 Try.underlying42
              have hmnl : mn' < maxLen := by have := hI.head.few; unfold maxLen; omega
              obtain ⟨Q', hQ'⟩ : ∃ Q', F'.drop (k + 1) = Q' := ⟨_, rfl⟩
              have hM' := hM
              rw [hQ'] at hM'
              have hQl : Q'.length ≤ 1000 := by rw [← hQ', List.length_drop]; omega
              have HQ := Lib.hid hQ'
              have HMN := Lib.hid hmn
              have HVJ := Lib.hid hVj
              have HXF := Lib.hid hxF
              clear hmn hVj hxF hM hQ'
              gi_wp2_with (first | (gi_at_lookup; refine look_pl _ rfl _ _ rfl (B + 3) mn' m' rfl hM'.map x.val.val hx rfl ?_; rw [hm]; intro c2 _) | (refine ⟨trivial, ?_⟩; gi_at_call 95; refine (CallsIn.inRound l (callsIn_wide.2 (at_pl x.val.val _ (by omega)))).mono ?_; rintro e w' ⟨rfl, hw'⟩; replace hw' := hw'.symm; subst hw') | (gi_at_mapUpdate; refine put_pl _ rfl _ _ _ rfl (B + 3) mn' hmnl m' rfl hM'.map x.val.val p hx hp12 rfl rfl ?_; intro W5 hP5 hG5; have M5 := hM'.setMap hP5 hG5; have c10 := M5.box.cell) | (gi_at_builtin; refine append_pl _ rfl _ _ rfl x.val.val (M5.alloc (.cells #[.int .i64 ((x.val.val : Int) - 2)] 3)).queue rfl hQl W5.heap.size 1 rfl (by have := M5.size; simp; omega) (Boxed.new W5 3 _).cell ?_; intro g3 o3 c3 W6 hq6 hg6 hor; have hpu := (M5.alloc (.cells #[.int .i64 ((x.val.val : Int) - 2)] 3)).push hg6 hq6 (hor.imp (fun h => by rw [h]; rfl) (fun h => ⟨g3, rfl, h⟩)); have c6 := hpu.2.cell; have f6 := hpu.2.frozen))
              have hz5 := M5.size
              have hz5' := hG5.size
              have h6a := World.size_alloc W5 (.cells #[.int .i64 ((x.val.val : Int) - 2)] 3)
              have hqo := (M5.alloc (.cells #[.int .i64 ((x.val.val : Int) - 2)] 3)).queue.obj
              have hb5 : Boxed (W5.alloc (.cells #[.int .i64 ((x.val.val : Int) - 2)] 3)) w1.heap.size 3 (.int .i64 ((p : Int) - 2)) := (hI.box.kept hG5 (fun e => by have := Option.some.inj e; omega)).alloc _
              have hb6 : Boxed W6 w1.heap.size 3 (.int .i64 ((p : Int) - 2)) := hb5.kept hg6 (fun e => hI.apart e.symm)
              have kB : KeepsFrom (B + 4) W (W6.setCell ⟨B + 6, 0, none⟩ (.slice (some ⟨g3, o3, none⟩) (Q'.length + 1) c3)) := (KeepsFrom.of_grownBy hG5 fun r e => by have := Option.some.inj e; omega).trans (((KeepsOthers.alloc W5 _).trans ((KeepsOthers.of_grownBy hg6 fun r o e ho => by
                obtain ⟨_, cur', hc'⟩ := hqo r e
                rw [hc'] at ho
                cases ho
                rfl).trans (KeepsOthers.setCell W6 _ _))).from _)
              have bB : Below B w1 (W6.setCell ⟨B + 6, 0, none⟩ (.slice (some ⟨g3, o3, none⟩) (Q'.length + 1) c3)) := (((hI.below.grown hG5 (by omega) (fun r e => by have := Option.some.inj e; omega)).alloc (by omega) _).grown hg6 (by omega) (fun r e => (hqo r e).1)).setCell (p := ⟨B + 6, 0, none⟩) (by show B ≤ B + 6; omega) _
              refine ⟨keepsFrom_mono kB (by omega), trivial, F' ++ [x.val.val], putWay P' x.val.val (P' p ++ [x.val.val]), .slice (some ⟨g3, o3, none⟩) (Q'.length + 1) c3, V', mn' + 1, putAt m' x.val.val (some p), ?_⟩
              rw [List.map_append]
              refine hI.new hx hxt HXF.out x.property HQ.out hpu.1 ?_ ((heap_set_other W6 _ _ _ _ (by omega)).trans hb6) bB (hI.keeps.trans kB)
              rcases hor with h | h
              · rw [show (Value.slice (some ⟨g3, o3, none⟩) (Q'.length + 1) c3).ownBlock = some g3 from rfl, ← h]
                exact hI.apart
              · simp [Value.ownBlock]
                omega
        case done =>
          rintro D zs W hD rfl ⟨F', P', v', V', mn', m', hI⟩ hKD
          have hfull := hI.full (bes_inc H p 12 (Nat.le_refl _)).1
          have hend := hfull.end fun j hj hHj => List.mem_map.2 ⟨⟨⟨j, hj⟩, hHj⟩, mem_bes H p _, rfl⟩
          have hW1 : ∀ E, E ∈ Ds → E < w1.heap.size := fun E hE => (Array.getElem?_eq_some_iff.1 (HDS.out.2 E hE).2).1
          have hbW := (hI.below.block b (by omega)).trans HBW.out
          have hBz := hI.below.size
          gi_wp2
          refine HK.out _ _ (Handed.intro (12 - (k + 1)) (by omega) (HJ.out _ _ _ ⟨F', P', k + 1, v', V', mn', m', D :: Ds, _, _, _, _, _, _, _, _, _, _, _, _, _, _, _, _, _, _, _, _, _, _, _, _, _, _, _, _, _, _, _, _, _, _, _, _, _, _, _, _, _, _, _, _, _, _, _, _, _, _, _, _, _, _, _, _, _, _, _, _, _, _, _, _, _, _, _, _, _, _, _, _, _, _, _, _, _, _, _, _, _, _, _, _, _, _, _, _, _, _, _, _, _, _, _, ⟨rfl, hend, hI.head, List.nodup_cons.2 ⟨fun e => by have := hW1 D e; omega, HDS.out.1⟩, fun E hE => ?_, hbW, hBw.trans (hI.below.mono (by omega)), by omega⟩, rfl⟩))
          rcases List.mem_cons.1 hE with rfl | hE
          · exact ⟨by omega, hKD⟩
          · have := HDS.out.2 E hE
            exact ⟨this.1, hI.keeps.same E _ (by omega) this.2 rfl⟩
        case stop =>
          rintro D cd pre W hD hsp ⟨rfl, hHit, hBW, hKW⟩ hKD
          obtain ⟨sp, l, cF, bF, hway, hl13, hsrc⟩ := hHit.ended (bes_inc_prefix hsp)
          have hW1 : ∀ E, E ∈ Ds → E < w1.heap.size := fun E hE => (Array.getElem?_eq_some_iff.1 (HDS.out.2 E hE).2).1
          have hMn : (D :: Ds).Nodup := List.nodup_cons.2 ⟨fun e => by have := hW1 D e; omega, HDS.out.1⟩
          have hMall : ∀ E, E ∈ D :: Ds → W3.heap.size ≤ E ∧ W.heap[E]? = some (.deferred (some [])) := fun E hE => by
            rcases List.mem_cons.1 hE with rfl | hE
            · exact ⟨by omega, hKD⟩
            · have := HDS.out.2 E hE
              exact ⟨this.1, hKW.same E _ (by omega) this.2 rfl⟩
          have hbW : Below w.heap.size w W := hBw.trans (hBW.mono (by omega))
          clear hHit hI0 hBW hKW hKD hsp hW1
          have c8 := bF.cell
          have HW := Lib.hid hway
          have HS := Lib.hid hsrc
          have HM := Lib.hid (And.intro hMn hMall)
          clear hway hsrc hMn hMall
          have hn0W := hbW.size
          have hlen1 : (l.length : Int) ≤ 13 := by omega
          obtain ⟨i0, hi, hz0, hz1, hz2⟩ := info_parts info3
          have HI := Lib.hid hi
          have HZ0 := Lib.hid hz0
          have HZ1 := Lib.hid hz1
          have HZ2 := Lib.hid hz2
          clear hi hz0 hz1 hz2
          gi_upto_region 23 with fail
          refine wpIn_wide.2 ?_
          go_wp2_with (refine wpList_make_full _ rfl _ _ 42 rfl W.heap.size 3 i0 (.int .i64 0) 1 Try.underlying42 HI.out HZ0.out HZ1.out .i64 .i64 _ _ l.length rfl rfl rfl rfl (by rw [HZ2.out]; omega) (by unfold maxLen; omega) (Nat.le_refl _) ?_; intro w5 hO5 hG5; have b85 := bF.kept hG5 (by simp); have c85 := b85.cell)
          gi_upto_region 24 with fail
          obtain ⟨cur5, hc5, hcl⟩ : ∃ cur : Array Value, w5.heap[W.heap.size]? = some (.cells cur 3 (0, 0)) ∧ cur.size = l.length := by
            rcases hO5.2 with ⟨e, _⟩ | ⟨g', cap', cur', e, _, hc', _, _, h3, _⟩
            · cases e
            · cases e
              exact ⟨cur', hc', by omega⟩
          have hb5 : Below w.heap.size w w5 := hbW.grown hG5 hn0W (fun r e => by cases e)
          have hM5 : ∀ E, E ∈ (D :: Ds) → E < W.heap.size ∧ W3.heap.size ≤ E ∧ w5.heap[E]? = some (.deferred (some [])) := fun E hE => by
            obtain ⟨h1, h2⟩ := HM.out.2 E hE
            have h3 := (Array.getElem?_eq_some_iff.1 h2).1
            exact ⟨h3, h1, (hG5.block E h3 (by simp)).trans h2⟩
          have hzW := (Array.getElem?_eq_some_iff.1 hc5).1
          have HC9 := Lib.hid (fun (g9 j : Nat) (u : Value) (h : W.cell? ⟨g9, j, none⟩ = some u) => (World.cell?_of_block (a := ⟨g9, j, none⟩) (hG5.block g9 (World.block_lt_of_cell? W _ h) (by simp))).trans h)
          clear hO5 hG5
          obtain ⟨w6, hcp, h6, hG6⟩ := run_copy_way w5 W.heap.size sp l cF cur5 hc5 hcl (fun h0 => by
            obtain ⟨g9, hg9, hc9⟩ := HS.out h0
            exact ⟨g9, hg9, fun j x hx => HC9.out g9 j _ (hc9 j x hx)⟩)
          have HG6 := Lib.hid (And.intro h6 (And.intro hG6 hM5))
          clear h6 hG6 hc5 hcl hM5
          gi_wp2
          obtain ⟨h6, hG6, hM5⟩ := HG6.out
          rw [Exit.noGoto_ret]
          refine leavesM_marks (D :: Ds) w6 HM.out.1 (fun E hE => ?_) (fun W' hs' => ?_)
          · obtain ⟨a1, a2, a3⟩ := hM5 E hE
            exact (hG6.block E (by omega) (fun e => by have := Option.some.inj e; omega)).trans a3
          · have hnot : W.heap.size ∉ (D :: Ds) := fun e => by
              have := (hM5 _ e).1
              omega
            have h7 := (hs'.block _ hnot).trans h6
            exact ⟨.slice (some ⟨W.heap.size, 0, none⟩) l.length l.length, by simp [results, Try.f89, go_sem], (hb5.grown hG6 (by omega) (fun r e => by have := Option.some.inj e; omega)).trans (hs'.below fun E hE => by have := (hM5 E hE).2.1; omega), _, l, _, rfl, Nat.le_refl _, held_plc h7 rfl, HW.out⟩
    · have hkF : k = F.length := by omega
      have hd0 : F.drop k = [] := List.drop_eq_nil_of_le (by omega)
      have hM := hH.mem
      rw [hd0] at hM
      obtain ⟨g, off, cap, cur, hv, hg1, hg2, hg3, hg4, hg5, hg6⟩ := hM.queue
      simp only [List.length_nil] at hv
      subst hv
      have hF' := hF
      rw [hkF] at hF'
      obtain ⟨sp, l, cF, bF, hway, hl13, hsrc⟩ := ended_none hF' hM.none_
      have c10 := hM.box.cell
      have hMn := HDS.out.1
      have hMall := HDS.out.2
      have hbW := hBw
      clear hg2 hg3 hg4 hg5 hg6 hM hH hF hF' hkF hd0
      have c8 := bF.cell
      have HW := Lib.hid hway
      have HS := Lib.hid hsrc
      have HM := Lib.hid (And.intro hMn hMall)
      clear hway hsrc hMn hMall
      have hn0W := hbW.size
      have hlen1 : (l.length : Int) ≤ 13 := by omega
      obtain ⟨i0, hi, hz0, hz1, hz2⟩ := info_parts info3
      have HI := Lib.hid hi
      have HZ0 := Lib.hid hz0
      have HZ1 := Lib.hid hz1
      have HZ2 := Lib.hid hz2
      clear hi hz0 hz1 hz2
      gi_upto_region 23 with fail
      refine wpIn_wide.2 ?_
      go_wp2_with (refine wpList_make_full _ rfl _ _ 42 rfl w1.heap.size 3 i0 (.int .i64 0) 1 Try.underlying42 HI.out HZ0.out HZ1.out .i64 .i64 _ _ l.length rfl rfl rfl rfl (by rw [HZ2.out]; omega) (by unfold maxLen; omega) (Nat.le_refl _) ?_; intro w5 hO5 hG5; have b85 := bF.kept hG5 (by simp); have c85 := b85.cell)
      gi_upto_region 24 with fail
      obtain ⟨cur5, hc5, hcl⟩ : ∃ cur : Array Value, w5.heap[w1.heap.size]? = some (.cells cur 3 (0, 0)) ∧ cur.size = l.length := by
        rcases hO5.2 with ⟨e, _⟩ | ⟨g', cap', cur', e, _, hc', _, _, h3, _⟩
        · cases e
        · cases e
          exact ⟨cur', hc', by omega⟩
      have hb5 : Below w.heap.size w w5 := hbW.grown hG5 hn0W (fun r e => by cases e)
      have hM5 : ∀ E, E ∈ Ds → E < w1.heap.size ∧ W3.heap.size ≤ E ∧ w5.heap[E]? = some (.deferred (some [])) := fun E hE => by
        obtain ⟨h1, h2⟩ := HM.out.2 E hE
        have h3 := (Array.getElem?_eq_some_iff.1 h2).1
        exact ⟨h3, h1, (hG5.block E h3 (by simp)).trans h2⟩
      have hzW := (Array.getElem?_eq_some_iff.1 hc5).1
      have HC9 := Lib.hid (fun (g9 j : Nat) (u : Value) (h : w1.cell? ⟨g9, j, none⟩ = some u) => (World.cell?_of_block (a := ⟨g9, j, none⟩) (hG5.block g9 (World.block_lt_of_cell? w1 _ h) (by simp))).trans h)
      clear hO5 hG5
      obtain ⟨w6, hcp, h6, hG6⟩ := run_copy_way w5 w1.heap.size sp l cF cur5 hc5 hcl (fun h0 => by
        obtain ⟨g9, hg9, hc9⟩ := HS.out h0
        exact ⟨g9, hg9, fun j x hx => HC9.out g9 j _ (hc9 j x hx)⟩)
      have HG6 := Lib.hid (And.intro h6 (And.intro hG6 hM5))
      clear h6 hG6 hc5 hcl hM5
      gi_wp2
      obtain ⟨h6, hG6, hM5⟩ := HG6.out
      rw [Exit.noGoto_ret]
      refine leavesM_marks (Ds) w6 HM.out.1 (fun E hE => ?_) (fun W' hs' => ?_)
      · obtain ⟨a1, a2, a3⟩ := hM5 E hE
        exact (hG6.block E (by omega) (fun e => by have := Option.some.inj e; omega)).trans a3
      · have hnot : w1.heap.size ∉ Ds := fun e => by
          have := (hM5 _ e).1
          omega
        have h7 := (hs'.block _ hnot).trans h6
        exact ⟨.slice (some ⟨w1.heap.size, 0, none⟩) l.length l.length, by simp [results, Try.f89, go_sem], (hb5.grown hG6 (by omega) (fun r e => by have := Option.some.inj e; omega)).trans (hs'.below fun E hE => by have := (hM5 E hE).2.1; omega), _, l, _, rfl, Nat.le_refl _, held_plc h7 rfl, HW.out⟩
end Go.Proofs.Ytckndnaohggmhaa

/- The table of what holds together, and what there is a way to, reckoned by how far it is to go. Plain mathematics: no program. -/
namespace Go.Proofs.Ytckndnaohggmhaa

section
variable {Wd : Int} {ss : List (Int × Int)} {ds : List (Int × Int × Int)} {sure : Bool}

theorem finRange_val (m : Nat) : (List.finRange m).map (·.val) = List.range m := by
  apply List.ext_getElem
  · simp
  · intro i h1 h2
    simp

theorem kindOf_comm (Wd : Int) (ss : List (Int × Int)) (sz : Nat → Int × Int) (a b : Int) : kindOf Wd ss sz a b = kindOf Wd ss sz b a := by
  unfold kindOf
  rw [meetB_comm Wd ss _ a b, meetB_comm Wd ss (fun i => (sz i).2) a b]

theorem tableOf_eq (i j : Nat) : tableOf Wd ss ds sure i j = (decide (i < ss.length + 2) && holdB Wd ss (sizes ds) (ss.length + 2) sure i j) := by
  unfold tableOf matOf
  rw [finRange_val]
  simp only [List.mem_range]
theorem tableOf_lt (i j : Nat) (h : tableOf Wd ss ds sure i j = true) : i < ss.length + 2 ∧ j < ss.length + 2 ∧ i ≠ j := by
  rw [tableOf_eq] at h
  simp only [holdB, Bool.and_eq_true, decide_eq_true_eq, Bool.not_eq_true', decide_eq_false_iff_not] at h
  exact ⟨h.1, h.2.1.1, h.2.1.2⟩
theorem tableOf_sym (i j : Nat) : tableOf Wd ss ds sure i j = tableOf Wd ss ds sure j i := by
  rw [tableOf_eq, tableOf_eq]
  unfold holdB
  rw [kindOf_comm Wd ss (sizes ds) ((i : Int) - 2) ((j : Int) - 2)]
  by_cases h1 : i < ss.length + 2 <;> by_cases h2 : j < ss.length + 2 <;> by_cases h3 : i = j <;> simp [h1, h2, h3, eq_comm] <;> simp_all
end

section
variable {H : Nat → Nat → Bool} {n k : Nat}
theorem Way.path {i : Nat} (hk : k < 12) (h : Way H k i) : ∃ l, PathTo H k l i := by
  induction h with
  | here => exact ⟨_, .start⟩
  | more hw hj hH ih =>
    obtain ⟨l, hl⟩ := ih
    exact ⟨_, .step hl (Way.lt hk hw) hj hH⟩
theorem PathTo.way {l : List Nat} {i : Nat} (h : PathTo H k l i) : Way H k i := by
  induction h with
  | start => exact .here
  | step _ _ hj hH ih => exact .more ih hj hH
theorem Way.symm (hs : ∀ i j, H i j = H j i) {i : Nat} (hk : k < 12) (h : Way H k i) : Way H i k := by
  induction h with
  | here => exact .here
  | more hw hj hH ih => exact Way.trans (.more .here (Way.lt hk hw) (by rw [hs]; exact hH)) ih

/-- What there is a way to, reckoned. -/
def goesC (H : Nat → Nat → Bool) (n k i : Nat) : Bool := decide (outs H n k (n - 1) i ≠ 0)
theorem goesB_goesC (h1 : 1 ≤ n) (hn : n ≤ 12) (hHn : ∀ i j, H i j = true → i < n ∧ j < n ∧ i ≠ j) (hs : ∀ i j, H i j = H j i) (hk : k < n) : goesB H k = goesC H n k := by
  funext i
  rw [Bool.eq_iff_iff, goesB_iff]
  simp only [goesC, decide_eq_true_eq]
  by_cases hi : i < n
  · constructor
    · intro h h0
      obtain ⟨l, hl⟩ := Way.path (by omega) (h.symm hs (by omega))
      exact wayOf_none h1 hHn h0 l hl
    · intro h
      have := (wayOf_first h1 hn hk hHn hi h).1.way
      exact this.symm hs (by omega)
  · constructor
    · intro h
      exfalso
      cases h with
      | here => exact hi hk
      | more _ _ hH => exact hi (hHn _ _ hH).2.1
    · intro h
      exfalso
      rcases outs_back _ _ h with ⟨e, _⟩ | ⟨j, hj, _, hH, _⟩
      · exact hi (e ▸ hk)
      · exact hi (hHn _ _ hH).1

/-- The groups, reckoned. -/
def groupsC (n : Nat) (sz : Nat → Int × Int) (H : Nat → Nat → Bool) : List (List Int) :=
  (List.finRange n).filterMap fun x => if thereB sz x.val && (List.range x.val).all (fun i => !goesC H n x.val i) then some (listTo (goesC H n x.val) 12) else none
theorem groupsOf_C (sz : Nat → Int × Int) (h1 : 1 ≤ n) (hn : n ≤ 12) (hHn : ∀ i j, H i j = true → i < n ∧ j < n ∧ i ≠ j) (hs : ∀ i j, H i j = H j i) : groupsOf sz H (List.finRange n) = groupsC n sz H := by
  unfold groupsOf groupsC
  congr 1
  funext x
  unfold groupOf leastB
  rw [goesB_goesC h1 hn hHn hs x.isLt]
end

theorem begins_eq {p : Nat → Bool} {n r r' : Nat} (h : Begins p n r) (h1 : r' ≤ n) (h2 : r' = n ∨ p r' = true) (h3 : r' = 0 ∨ p (r' - 1) = false) : r = r' := by
  obtain ⟨ha, hb, hc⟩ := h
  have l1 : r ≤ r' := by
    rcases h2 with h2 | h2
    · omega
    · exact Nat.le_of_not_lt fun hlt => by rw [hb r' hlt] at h2; cases h2
  have l2 : r' ≤ r := by
    rcases h3 with h3 | h3
    · omega
    · exact Nat.le_of_not_lt fun hlt => by rw [hc (r' - 1) (by omega) (by omega)] at h3; cases h3
  omega

/-- From a place with none beside it there is no way, and to it there is none. -/
theorem no_way_from {H : Nat → Nat → Bool} {s t : Nat} (hst : s ≠ t) (h : noneB (H s) = true) : ∀ m, ¬ PathTo H s m t := by
  intro m hm
  cases hm.toFrom with
  | stop => exact hst rfl
  | step _ _ hj hH =>
    have := List.all_eq_true.1 h _ (List.mem_range.2 hj)
    rw [hH] at this
    cases this
theorem no_way_to {H : Nat → Nat → Bool} {s t : Nat} (hs : ∀ i j, H i j = H j i) (hst : s ≠ t) (h : noneB (H t) = true) : ∀ m, ¬ PathTo H s m t := by
  intro m hm
  cases hm with
  | start => exact hst rfl
  | step _ hi _ hH =>
    have := List.all_eq_true.1 h _ (List.mem_range.2 hi)
    rw [hs, hH] at this
    cases this
end Go.Proofs.Ytckndnaohggmhaa

/- way at any two places, and Way. -/
namespace Go.Proofs.Ytckndnaohggmhaa
open Go.RowKit Go.Shelf
attribute [local irreducible] matCells

set_option maxHeartbeats 1000000 in
theorem way_lone (H : Nat → Nat → Bool) (b s t : Nat) (hs : s < 12) (ht : t < 12) (w : World) (hb : w.heap[b]? = some (.cells (matCells H) 135 (0, 0))) (h : noneB (H s) = true ∨ noneB (H t) = true) :
    Calls Try.prog 89 #[.pointer (some ⟨b, 0, none⟩), .int .i64 ((s : Int) - 2), .int .i64 ((t : Int) - 2)] w fun e w' => e = .returned (.slice none 0 0) ∧ Below w.heap.size w w' := by
  have hbl : b < w.heap.size := (Array.getElem?_eq_some_iff.1 hb).1
  have c1 := lone_any b s hs H (w.alloc (.cells #[.int .i64 ((t : Int) - 2)] 3)) (row_alloc _ _ _ _ hb)
  have c2 := fun (W : World) (hB : Below (w.heap.size + 1) (w.alloc (.cells #[.int .i64 ((t : Int) - 2)] 3)) W) => lone_any b t ht H W ((hB.block b (by omega)).trans (row_alloc _ _ _ _ hb))
  have hz0 : (w.alloc (.cells #[.int .i64 ((t : Int) - 2)] 3)).heap.size = w.heap.size + 1 := by simp
  rw [hz0] at c1
  have C2 := Lib.hid c2
  clear c2 hb
  cases h1 : noneB (H s) with
  | true =>
    rw [h1] at c1
    clear C2
    go_enter Try.func89, Try.ntmps89
    go_wp2
    refine wp_scope_straight ?_
    go_wp2_with (go_at_call 117; refine c1.mono ?_; rintro e W1 ⟨rfl, hB1⟩)
    rw [Exit.noGoto_ret]
    go_ret
    exact ⟨rfl, ((Below.refl _ w).alloc (Nat.le_refl _) _).trans (hB1.mono (by omega))⟩
  | false =>
    have h2 : noneB (H t) = true := by
      rcases h with h | h
      · rw [h1] at h; cases h
      · exact h
    rw [h1] at c1
    rw [h2] at C2
    go_enter Try.func89, Try.ntmps89
    go_wp2
    refine wp_scope_straight ?_
    go_wp2_with (first | (go_at_call 117; (with_reducible refine c1.mono ?_); rintro e W1 ⟨rfl, hB1⟩; have c3 := C2.out W1 hB1; have b5 : Boxed W1 w.heap.size 3 (.int .i64 ((t : Int) - 2)) := (hB1.block w.heap.size (by omega)).trans (Boxed.new w 3 _); have c5 := b5.cell; clear C2) | (go_at_call 117; (with_reducible refine c3.mono ?_); rintro e W2 ⟨rfl, hB2⟩))
    rw [Exit.noGoto_ret]
    go_ret
    exact ⟨rfl, ((Below.refl _ w).alloc (Nat.le_refl _) _).trans ((hB1.trans (hB2.mono (by have := hB1.size; omega))).mono (by omega))⟩

/-- What way answers at any two places of a table that is the same both ways. -/
theorem way_any (H : Nat → Nat → Bool) (b s t : Nat) (hs : s < 12) (ht : t < 12) (hst : s ≠ t) (hsym : ∀ i j, H i j = H j i) (w : World) (hb : w.heap[b]? = some (.cells (matCells H) 135 (0, 0))) :
    Calls Try.prog 89 #[.pointer (some ⟨b, 0, none⟩), .int .i64 ((s : Int) - 2), .int .i64 ((t : Int) - 2)] w (WayPost H s t w) := by
  cases h1 : noneB (H s) with
  | true =>
    refine (way_lone H b s t hs ht w hb (.inl h1)).mono ?_
    rintro e w' ⟨rfl, hB⟩
    exact ⟨hB, none, [], 0, rfl, Nat.le_refl _, .inl rfl, .inl ⟨rfl, no_way_from hst h1⟩⟩
  | false =>
    cases h2 : noneB (H t) with
    | true =>
      refine (way_lone H b s t hs ht w hb (.inr h2)).mono ?_
      rintro e w' ⟨rfl, hB⟩
      exact ⟨hB, none, [], 0, rfl, Nat.le_refl _, .inl rfl, .inl ⟨rfl, no_way_to hsym hst h2⟩⟩
    | false => exact way_go H b s t hs ht hst w hb h1 h2

section
variable {w : World} {Wd : Int} {A : Option Addr} {n c : Nat} {A' : Option Addr} {n' c' : Nat} {ss : List (Int × Int)} {ds : List (Int × Int × Int)}

/-- What Way answers: its error, or the way that is reckoned by how far it is to go. -/
def WayIs (Wd : Int) (ss : List (Int × Int)) (ds : List (Int × Int × Int)) (one two : Int) (sure : Bool) (w : World) (e : Ending) (w' : World) : Prop :=
  Below w.heap.size w w' ∧
  ((forErr Wd ss ds one two ≠ 0 ∧ e = .returned (.tuple #[.slice none 0 0, .int .i64 (forErr Wd ss ds one two)])) ∨
   (forErr Wd ss ds one two = 0 ∧ outs (tableOf Wd ss ds sure) (ss.length + 2) (two + 2).toNat (ss.length + 1) (one + 2).toNat = 0 ∧ e = .returned (.tuple #[.slice none 0 0, .int .i64 5])) ∨
   (forErr Wd ss ds one two = 0 ∧ outs (tableOf Wd ss ds sure) (ss.length + 2) (two + 2).toNat (ss.length + 1) (one + 2).toNat ≠ 0 ∧ ∃ A l c, e = .returned (.tuple #[.slice A l.length c, .int .i64 0]) ∧ l.length ≤ c ∧ Held w' w'.heap.size 1 encI A (nums l) ∧
     l = wayOf (tableOf Wd ss ds sure) (ss.length + 2) (one + 2).toNat (two + 2).toNat))

set_option maxRecDepth 100000 in
set_option maxHeartbeats 1000000 in
theorem bigWay_any (one two : Int) (sure : Bool) (hb : IsBath w w.heap.size A n c A' n' c' ss ds) :
    Calls Try.prog 29 #[.agg #[.int .i64 Wd, .slice A n c, .slice A' n' c'], .int .i64 one, .int .i64 two, .bool sure] w (WayIs Wd ss ds one two sure w) := by
  by_cases he : forErr Wd ss ds one two = 0
  · have c1 := openedFor_fine (w := w.alloc (.cells #[.int .i64 Wd, .slice A n c, .slice A' n' c'] 25)) one two ((hb.kept ((Below.refl _ w).alloc (Nat.le_refl _) _) (Nat.le_refl _)).wider (by simp)) he
    obtain ⟨h0, h1, h2, h3⟩ := forErr_ok he
    have HE := Lib.hid he
    obtain ⟨k1, hk1⟩ := Int.eq_ofNat_of_zero_le (show 0 ≤ one + 2 by omega)
    obtain ⟨k2, hk2⟩ := Int.eq_ofNat_of_zero_le (show 0 ≤ two + 2 by omega)
    obtain rfl : one = (k1 : Int) - 2 := by omega
    obtain rfl : two = (k2 : Int) - 2 := by omega
    have hn10 := (isSized_new hb h0 (Below.refl _ w)).few.1
    have hnn := hb.nss
    have hl1 : k1 < 12 := by omega
    have hl2 : k2 < 12 := by omega
    have hk12 : k1 ≠ k2 := fun e => h1 (by rw [e])
    have hk : ∀ w1, Below w.heap.size w w1 → _ := fun w1 hB => holding_any sure (isSized_new hb h0 hB)
    have hT1 : ∀ i j, tableOf Wd ss ds sure i j = true → i < ss.length + 2 ∧ j < ss.length + 2 ∧ i ≠ j := tableOf_lt
    have hT2 : ∀ i j, tableOf Wd ss ds sure i j = tableOf Wd ss ds sure j i := tableOf_sym
    have hk1n : k1 < ss.length + 2 := by omega
    have hk2n : k2 < ss.length + 2 := by omega
    have hsn : ss.length + 2 ≤ 12 := by omega
    obtain ⟨ans, hans⟩ : ∃ ans, WayIs Wd ss ds ((k1 : Int) - 2) ((k2 : Int) - 2) sure w = ans := ⟨_, rfl⟩
    have hansE : ∀ (e : Ending) (w' : World), Below w.heap.size w w' → outs (tableOf Wd ss ds sure) (ss.length + 2) k2 (ss.length + 1) k1 = 0 → e = .returned (.tuple #[.slice none 0 0, .int .i64 5]) → ans e w' := fun e w' a1 a2 a3 => by
      rw [← hans]
      refine ⟨a1, .inr (.inl ⟨HE.out, ?_, a3⟩)⟩
      rw [show ((k1 : Int) - 2 + 2).toNat = k1 from by omega, show ((k2 : Int) - 2 + 2).toNat = k2 from by omega]
      exact a2
    have hansW : ∀ (w' : World) (A : Option Addr) (l : List Nat) (c : Nat), Below w.heap.size w w' → outs (tableOf Wd ss ds sure) (ss.length + 2) k2 (ss.length + 1) k1 ≠ 0 → l.length ≤ c → Held w' w'.heap.size 1 encI A (nums l) →
        l = wayOf (tableOf Wd ss ds sure) (ss.length + 2) k1 k2 → ans (.returned (.tuple #[.slice A l.length c, .int .i64 0])) w' := fun w' A l c a1 a2 a3 a4 a5 => by
      rw [← hans]
      refine ⟨a1, .inr (.inr ⟨HE.out, ?_, A, l, c, rfl, a3, a4, ?_⟩)⟩
      · rw [show ((k1 : Int) - 2 + 2).toNat = k1 from by omega, show ((k2 : Int) - 2 + 2).toNat = k2 from by omega]
        exact a2
      · rw [show ((k1 : Int) - 2 + 2).toNat = k1 from by omega, show ((k2 : Int) - 2 + 2).toNat = k2 from by omega]
        exact a5
    rw [hans]
    obtain ⟨H, hH⟩ : ∃ H, tableOf Wd ss ds sure = H := ⟨_, rfl⟩
    have hH2 : matOf (holdB Wd ss (sizes ds) (n + 2) sure) (List.finRange (n + 2)) = H := by rw [← hH, hnn]; rfl
    rw [hH2] at hk
    rw [hH] at hansE hansW hT1 hT2
    obtain ⟨m, hm⟩ : ∃ m, ss.length + 1 = m := ⟨_, rfl⟩
    have hm2 : ss.length + 2 = m + 1 := by omega
    rw [hm2] at hansE hansW hT1 hk1n hk2n hsn
    rw [hm] at hansE hansW
    have HANSE := Lib.hid hansE
    have HANSW := Lib.hid hansW
    have HT1 := Lib.hid hT1
    have HT2 := Lib.hid hT2
    clear hnn hansE hansW hans hT1 hT2 hm hm2
    obtain ⟨cs, hcs⟩ : ∃ cs, sizedCells Wd A n c A' n' c' (sizes ds) = cs := ⟨_, rfl⟩
    have zc : cs.size = 23 := by rw [← hcs]; rfl
    have oc : cs.all (·.oneCell') = true := by rw [← hcs]; exact sizedCells_one _ _ _ _ _ _ _ _
    rw [hcs] at c1 hk
    have OC := Lib.hid oc
    have hk' : ∀ w1, Below w.heap.size w w1 → _ := hk
    clear hcs oc he h1 hH hH2 hk1 hk2
    go_enter Try.func29, Try.ntmps29
    go_wp2_with fail
    refine c1.mono ?_
    rintro e w1 ⟨rfl, hb1⟩
    have hB : Below w.heap.size w w1 := bstep ((Below.refl _ w).alloc (Nat.le_refl _) _) (by simp) hb1
    have hst := store_last w1 w1.heap.size rfl Z84 cs zc Z84_size OC.out
    have c2 := hk' w1 hB
    clear hk hk' hb1
    go_wp2_with (first | refine wpList_alloc84 rfl rfl ?_ | (go_at_call 88; refine c2.mono ?_; rintro e w2 ⟨b, rfl, hrow, hb2⟩; have c3 := way_any H b k1 k2 hl1 hl2 hk12 HT2.out w2 hrow))
    have hB2 : Below w.heap.size w w2 := bstep (hB.alloc hB.size _) (by have := hB.size; simp; omega) hb2
    clear hb2 c2 hst
    refine c3.mono ?_
    rintro e w3 ⟨hb3, A3, l, c4, rfl, hlc, hHeld, hor⟩
    have hB3 : Below w.heap.size w w3 := bstep hB2 hB2.size hb3
    have HH := Lib.hid (And.intro hlc hHeld)
    clear hb3 hB2 hlc hHeld c3
    by_cases hl0 : l.length = 0
    · have hl0z : (l.length : Int) = 0 := by omega
      have hl : l = [] := List.eq_nil_of_length_eq_zero hl0
      have hno : outs H (m + 1) k2 m k1 = 0 := by
        rcases hor with h | h
        · exact (none_wayOf (by omega) hsn hk2n HT1.out hk1n h.2).2
        · exfalso
          have := h.1
          rw [hl] at this
          cases this.toFrom
      subst hl
      have HN := Lib.hid hno
      clear hor hno hl0
      go_wp2
      exact HANSE.out _ _ hB3 HN.out rfl
    · have hl0z : ((l.length : Int) == 0) = false := by
        have : (l.length : Int) ≠ 0 := by omega
        simpa using this
      have hw : l = wayOf H (m + 1) k1 k2 ∧ outs H (m + 1) k2 m k1 ≠ 0 := by
        rcases hor with h | h
        · exact absurd (by rw [h.1]; rfl) hl0
        · exact found_wayOf (by omega) hsn hk2n HT1.out hk1n h
      have HW := Lib.hid hw
      clear hor hw hl0
      go_wp2
      exact HANSW.out _ _ _ _ hB3 HW.out.2 HH.out.1 HH.out.2 HW.out.1
  · have c1 := openedFor_err (w := w.alloc (.cells #[.int .i64 Wd, .slice A n c, .slice A' n' c'] 25)) one two ((hb.kept ((Below.refl _ w).alloc (Nat.le_refl _) _) (Nat.le_refl _)).wider (by simp)) he
    unfold WayIs
    generalize forErr Wd ss ds one two = r at he c1 ⊢
    have hne : (r == 0) = false := by simpa using he
    have hne2 : (r != 0) = true := by simpa using he
    have zz := Z84_size
    go_enter Try.func29, Try.ntmps29
    go_wp2_with fail
    refine c1.mono ?_
    rintro e w1 ⟨rfl, hb1⟩
    have hB : Below w.heap.size w w1 := bstep ((Below.refl _ w).alloc (Nat.le_refl _) _) (by simp) hb1
    have hst := store_last w1 w1.heap.size rfl Z84 Z84 Z84_size Z84_size Z84_one
    clear hb1
    go_wp2_with (first | refine wpList_alloc84 rfl rfl ?_)
    go_ret2
    exact ⟨hB.alloc hB.size _, .inl ⟨he, rfl⟩⟩
end
end Go.Proofs.Ytckndnaohggmhaa
