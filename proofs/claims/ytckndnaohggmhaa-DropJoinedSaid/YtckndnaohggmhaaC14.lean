/- Texts of the package drop, joined: Clear, Groups, Ints, Lists, Specs. -/
import Derived.Test.YtckndnaohggmhaaC13
import Derived.Test.YtckndnaohggmhaaC16
import Derived.Lib.SliceRun
import Derived.StillTail
/- clear of a row of marks; rows of lists. -/
namespace Go.Proofs.Ytckndnaohggmhaa
open Go.RowKit Go.Shelf
attribute [local irreducible] matCells markCells

theorem grownBy_setCells (b : Nat) : ∀ (vs : List Value) (o : Nat) (w : World), w.grownBy (w.setCells b o vs) (some b)
  | [], _, _w => ⟨rfl, rfl, rfl, Nat.le_refl _, fun _ _ _ => rfl⟩
  | v :: vs, o, w => grownBy_trans (grownBy_set (m := b) ⟨rfl, rfl, rfl, Nat.le_refl _, fun _ _ _ => rfl⟩ o v) (grownBy_setCells b vs (o + 1) (w.setCell ⟨b, o, none⟩ v))
theorem row_setCells (b : Nat) (t : TypeId) (fr : Nat × Nat) : ∀ (vs : List Value) (o : Nat) (w : World) (cs : Array Value), w.heap[b]? = some (.cells cs t fr) →
    ∃ cs', (w.setCells b o vs).heap[b]? = some (.cells cs' t fr) ∧ cs'.size = cs.size ∧ (∀ j, j < o → cs'[j]? = cs[j]?) ∧ ∀ j, j < vs.length → o + j < cs.size → cs'[o + j]? = vs[j]?
  | [], o, w, cs, h => ⟨cs, h, rfl, fun _ _ => rfl, fun j hj => absurd hj (by simp)⟩
  | v :: vs, o, w, cs, h => by
    obtain ⟨cs', h1, h2, h3, h4⟩ := row_setCells b t fr vs (o + 1) (w.setCell ⟨b, o, none⟩ v) _ (row_setCell w b o v _ _ _ h)
    refine ⟨cs', h1, by rw [h2]; simp, fun j hj => ?_, fun j hj hl => ?_⟩
    · rw [h3 j (by omega), Array.getElem?_setIfInBounds_ne (by omega)]
    · cases j with
      | zero =>
        rw [h3 (o + 0) (by omega), Nat.add_zero, Array.getElem?_setIfInBounds_self_of_lt (by omega)]
        rfl
      | succ j =>
        have := h4 j (by simpa using hj) (by simp; omega)
        rw [show o + (j + 1) = o + 1 + j from by omega, this]
        rfl
theorem row_cleared (w : World) (m : Nat) (M : Nat → Bool) (vs : List Value) (hvs : vs = List.replicate 12 (.bool false)) (h : w.heap[m]? = some (.cells (markCells M) 4 (0, 0))) :
    (w.setCells m 0 vs).heap[m]? = some (.cells (markCells noMarks) 4 (0, 0)) := by
  obtain ⟨cs', h1, h2, _, h4⟩ := row_setCells m 4 (0, 0) vs 0 w (markCells M) h
  have hl : vs.length = 12 := by rw [hvs, List.length_replicate]
  have e : cs' = markCells noMarks := by
    apply Array.ext_getElem?
    intro j
    by_cases hj : j < 12
    · have h5 := h4 j (by rw [hl]; exact hj) (by rw [markCells_size]; omega)
      rw [Nat.zero_add] at h5
      rw [h5, markCells_get noMarks j hj, hvs, List.getElem?_replicate, if_pos hj]
      unfold noMarks
      exact rfl
    · rw [Array.getElem?_eq_none (by rw [h2, markCells_size]; omega), Array.getElem?_eq_none (by rw [markCells_size]; omega)]
  rw [h1, e]
theorem clear12 (w : World) (m c ty : Nat) (M : Nat → Bool) (h : w.heap[m]? = some (.cells (markCells M) 4 (0, 0))) :
    (Builtin.clear_ #[117] ty #[.slice (some ⟨m, 0, none⟩) 12 c]).run Try.prog w = .ok (.tuple #[]) (w.setCells m 0 (List.replicate 12 (.bool false))) := by
  obtain ⟨i, hi, hz, hs, hb⟩ := info_parts info4
  refine Lib.run_clear_slice (P := Try.prog) w 117 4 ty (.bool false) Try.underlying117 (fun w => ?_) rfl rfl m 0 12 c (by decide) (fun j hj => ?_) (fun j hj => ?_)
  · unfold zeroValue
    simp [typeInfo, hi, hz]
  · rw [Nat.zero_add, (cell_of_row _ _ _ _ _ _ h), markCells_get M j hj]
    rfl
  · simp [World.frozen?, h]
theorem owns_row_kept {W W' : World} {row : Option Nat} {base : Nat} {e : TypeId} {size n : Nat} {v : Value} {xs : List Value} (h : W.ownsRow base e size v n xs) (hg : W.grownBy W' row)
    (hr : ∀ r, row = some r → ∃ o : Obj, W.heap[r]? = some o ∧ o.isCells = false) : W'.ownsRow base e size v n xs := by
  refine ⟨h.1, h.2.imp id ?_⟩
  rintro ⟨g, cap, cur, hv, hb, hrow, r⟩
  exact ⟨g, cap, cur, hv, hb, heap_kept hrow hg hr, r⟩
/-- .. and where the row that turns has elements of another type. -/
theorem owns_other {W W' : World} {r : Nat} {base : Nat} {e : TypeId} {size n : Nat} {v : Value} {xs : List Value} (h : W.ownsRow base e size v n xs) (hg : W.grownBy W' (some r)) {cs : Array Value} {t : TypeId} {fr : Nat × Nat}
    (hr : W.heap[r]? = some (.cells cs t fr)) (ht : t ≠ e) : W'.ownsRow base e size v n xs := by
  refine ⟨h.1, h.2.imp id ?_⟩
  rintro ⟨g, cap, cur, hv, hb, hrow, q⟩
  refine ⟨g, cap, cur, hv, hb, (hg.block g (Array.getElem?_eq_some_iff.1 hrow).1 (fun e' => ?_)).trans hrow, q⟩
  cases e'
  rw [hr] at hrow
  simp only [Option.some.injEq, Obj.cells.injEq] at hrow
  exact ht hrow.2.1
end Go.Proofs.Ytckndnaohggmhaa

/- Groups. -/
namespace Go.Proofs.Ytckndnaohggmhaa
open Go.RowKit Go.Shelf
attribute [local go_sem] Oper.semAt_some
attribute [local irreducible] matCells markCells

theorem wpListIn_alloc84 {F : Fence} {n : Nat} {ops : Array Oper} {rest : List Oper} {o : Oper} {a : Act} {w : World} {Q : Exit → Act → World → Prop} (hg : o.guard = none) (ho : o.op = .alloc 84) (h : wpListIn F n Try.prog ops Q rest (a.put o.dst (.pointer (some ⟨w.heap.size, 0, none⟩))) (w.alloc (.cells Z84 84))) : wpListIn F n Try.prog ops Q (o :: rest) a w := by
  refine wpListIn_plain hg fun K hK => ?_
  unfold Oper.wpIn
  refine ⟨by simp [Oper.about, ho], ?_⟩
  rw [Oper.semAt_plain F _ _ (by rw [ho]; intro c hc'; cases hc')]
  have hz := zero84 w
  have hn : (newVar 84 (.agg Z84)).run Try.prog w = .ok ⟨w.heap.size, 0, none⟩ (w.alloc (.cells Z84 84)) := by
    go_simp
  simp [execOp, ho, Instr.alloc, hz, hn]
  exact hK _ _ h

/-- The marked place that comes first. -/
theorem head_marked {M : Nat → Bool} {x : Nat} (hx : x < 12) (hM : M x = true) : ∃ i t, marked M = i :: t ∧ M i = true ∧ i ≤ x ∧ ∀ j, j < i → M j = false := by
  have hmem : x ∈ marked M := List.mem_filter.2 ⟨by simpa using hx, hM⟩
  have hs : (marked M).Pairwise (· < ·) := List.Pairwise.filter _ List.pairwise_lt_range
  cases hm : marked M with
  | nil => rw [hm] at hmem; cases hmem
  | cons i t =>
    rw [hm] at hmem hs
    have hi : i ∈ marked M := by rw [hm]; simp
    have hle : ∀ j, j ∈ i :: t → i ≤ j := fun j hj => by
      rcases List.mem_cons.1 hj with rfl | hj
      · exact Nat.le_refl _
      · exact Nat.le_of_lt ((List.pairwise_cons.1 hs).1 j hj)
    refine ⟨i, t, rfl, (List.mem_filter.1 hi).2, hle x hmem, fun j hj => ?_⟩
    cases hMj : M j with
    | false => rfl
    | true =>
      have : j ∈ marked M := List.mem_filter.2 ⟨by have := hle x hmem; simp; omega, hMj⟩
      rw [hm] at this
      have := hle j this
      omega

theorem listed_first {x : Nat} {M : Nat → Bool} {B : Nat} {W : World} {v : Value} (hx : x < 12) (hM : M x = true) (hO : MadeInts B (listTo M 12) W v) :
    ∃ (i : Nat) (k b off c : Nat), v = .slice (some ⟨b, off, none⟩) k c ∧ (0 : Int) < (k : Int) ∧ W.cell? ⟨b, off, none⟩ = some (.int .i64 ((i : Int) - 2)) ∧ i ≤ x ∧ M i = true ∧ ∀ j, j < i → M j = false := by
  obtain ⟨i, tl, hmk, hMi, hle, hlow⟩ := head_marked hx hM
  have hL : listTo M 12 = ((i : Int) - 2) :: tl.map (fun i : Nat => (i : Int) - 2) := by rw [listTo_marked, hmk]; rfl
  obtain ⟨A2, k2, rfl, _, hH⟩ := madeInts_held hO
  rcases hH with h | ⟨b, off, rfl, _, hc⟩
  · rw [hL] at h; cases h
  · refine ⟨i, _, b, off, k2, rfl, ?_, ?_, hle, hMi, hlow⟩
    · rw [hL]; simp only [List.length_cons]; omega
    · have := hc 0 ((i : Int) - 2) (by rw [hL]; rfl) 0 _ rfl
      simpa using this

/-- Whether a place belongs to a group: a wall, or a spot that is there. -/
def thereB (sz : Nat → Int × Int) (x : Nat) : Bool := decide (x < 2) || decide (0 < (sz (x - 2)).1)
/-- Whether a place is the first one of those to which there is a way from it. -/
noncomputable def leastB (H : Nat → Nat → Bool) (x : Nat) : Bool := (List.range x).all fun i => !goesB H x i
noncomputable def groupOf (sz : Nat → Int × Int) (H : Nat → Nat → Bool) (x : Nat) : Option (List Int) := if thereB sz x && leastB H x then some (listTo (goesB H x) 12) else none
noncomputable def groupsOf {m : Nat} (sz : Nat → Int × Int) (H : Nat → Nat → Bool) (pre : List (Fin m)) : List (List Int) := pre.filterMap fun x => groupOf sz H x.val
theorem groupsOf_step {m : Nat} (sz : Nat → Int × Int) (H : Nat → Nat → Bool) (pre : List (Fin m)) (x : Fin m) : groupsOf sz H (pre ++ [x]) = groupsOf sz H pre ++ (groupOf sz H x.val).toList := by
  unfold groupsOf
  rw [List.filterMap_append]
  cases h : groupOf sz H x.val <;> simp [h]

theorem least_is {H : Nat → Nat → Bool} {x i : Nat} {M : Nat → Bool} (hM : MarkedTo H x noMarks M) (hle : i ≤ x) (hMi : M i = true) (hlow : ∀ j, j < i → M j = false) : (leastB H x = true → i = x) ∧ (leastB H x = false → i ≠ x) := by
  have e := marked_reach hM
  constructor
  · intro h
    rcases Nat.lt_or_ge i x with hlt | hge
    · have := List.all_eq_true.1 h i (by simpa using hlt)
      rw [← e, hMi] at this
      simp at this
    · omega
  · intro h e2
    rw [leastB, List.all_eq_false] at h
    obtain ⟨j, hj, hne⟩ := h
    have := hlow j (by rw [e2]; simpa using hj)
    rw [← e, this] at hne
    simp at hne

theorem owns_opt {W W' : World} {row : Option Nat} {base : Nat} {e : TypeId} {size n : Nat} {v : Value} {xs : List Value} (h : W.ownsRow base e size v n xs) (hg : W.grownBy W' row)
    (hr : ∀ r, row = some r → ∃ cs t fr, W.heap[r]? = some (.cells cs t fr) ∧ t ≠ e) : W'.ownsRow base e size v n xs := by
  refine ⟨h.1, h.2.imp id ?_⟩
  rintro ⟨g, cap, cur, hv, hb, hrow, q⟩
  refine ⟨g, cap, cur, hv, hb, (hg.block g (Array.getElem?_eq_some_iff.1 hrow).1 (fun e' => ?_)).trans hrow, q⟩
  obtain ⟨cs, t, fr, h1, h2⟩ := hr g e'.symm
  rw [h1] at hrow
  simp only [Option.some.injEq, Obj.cells.injEq] at hrow
  exact h2 hrow.2.1
theorem own_block {W : World} {base : Nat} {e : TypeId} {size n : Nat} {v : Value} {xs : List Value} (h : W.ownsRow base e size v n xs) : ∀ r, v.ownBlock = some r → ∃ cs fr, W.heap[r]? = some (.cells cs e fr) := by
  intro r hr
  rcases h.2 with ⟨rfl, _⟩ | ⟨g, cap, cur, rfl, _, hrow, _⟩
  · simp [Value.ownBlock] at hr
  · simp [Value.ownBlock] at hr
    subst hr
    exact ⟨_, _, hrow⟩

/-- A slice of slices of ints that the call made. -/
structure GroupsAt (base : Nat) (gs : List (Value × List Int)) (W : World) (v : Value) : Prop where
  row : W.ownsRow base 42 1 v gs.length (gs.map (·.1))
  each : ∀ p, p ∈ gs → MadeInts base p.2 W p.1
  none : gs = [] → v = .slice none 0 0
theorem info42 : (Try.prog.info? 42).map (fun i => (i.zero, i.size, i.bytes)) = some (some (.slice none 0 0), 1, 24) := by kernel_rfl

section
variable {w : World} {Wd : Int} {A : Option Addr} {n c : Nat} {A' : Option Addr} {n' c' : Nat} {ss : List (Int × Int)} {ds : List (Int × Int × Int)}

def GroupsPost (Wd : Int) (ss : List (Int × Int)) (ds : List (Int × Int × Int)) (sure : Bool) (w : World) (e : Ending) (w' : World) : Prop :=
  Below w.heap.size w w' ∧
  ((bathErr Wd ss ds ≠ 0 ∧ e = .returned (.tuple #[.slice none 0 0, .int .i64 (bathErr Wd ss ds)])) ∨
   (bathErr Wd ss ds = 0 ∧ ∃ v gs, e = .returned (.tuple #[v, .int .i64 0]) ∧ GroupsAt w.heap.size gs w' v ∧ gs.map (·.2) = groupsOf (sizes ds) (tableOf Wd ss ds sure) (List.finRange (ss.length + 2))))

set_option maxRecDepth 100000 in
set_option maxHeartbeats 2000000 in
theorem groups_ok (sure : Bool) (hb : IsBath w w.heap.size A n c A' n' c' ss ds) (h0 : bathErr Wd ss ds = 0) :
    Calls Try.prog 36 #[.agg #[.int .i64 Wd, .slice A n c, .slice A' n' c'], .bool sure] w (GroupsPost Wd ss ds sure w) := by
  have c1 := opened_ok (w := w.alloc (.cells #[.int .i64 Wd, .slice A n c, .slice A' n' c'] 25)) ((hb.kept ((Below.refl _ w).alloc (Nat.le_refl _) _) (Nat.le_refl _)).wider (by simp)) h0
  have hn10 := (isSized_new hb h0 (Below.refl _ w)).few.1
  have hnn := hb.nss
  have hS : ∀ w1, Below w.heap.size w w1 → _ := fun w1 hB => isSized_new hb h0 hB
  obtain ⟨H, hH⟩ : ∃ H, tableOf Wd ss ds sure = H := ⟨_, rfl⟩
  have hH2 : matOf (holdB Wd ss (sizes ds) (n + 2) sure) (List.finRange (n + 2)) = H := by rw [← hH, hnn]; rfl
  obtain ⟨cs, hcs⟩ : ∃ cs, sizedCells Wd A n c A' n' c' (sizes ds) = cs := ⟨_, rfl⟩
  have zc : cs.size = 23 := by rw [← hcs]; rfl
  have oc : cs.all (·.oneCell') = true := by rw [← hcs]; exact sizedCells_one _ _ _ _ _ _ _ _
  rw [hcs] at c1 hS
  have OC := Lib.hid oc
  have HH := Lib.hid (And.intro hH (And.intro hH2 hnn))
  have hmk := make12
  clear hcs oc hH hH2 hnn
  refine (callsIn_wide (n := 12)).1 ?_
  refine callsIn_of_wp_marks Try.func36 rfl trivial ?_ rfl
  simp only [Try.ntmps36, List.size_toArray, List.length_cons, List.length_nil, Nat.reduceAdd, Nat.reduceSub, Array.replicate_succ, Array.replicate_zero, List.push_toArray, List.append_toArray, List.nil_append, List.cons_append]
  gi_wp2_with (first | refine wpListIn_alloc84 rfl rfl ?_ | (refine ⟨trivial, ?_⟩; gi_at_call 58; refine (callsIn_wide.2 c1).mono ?_; rintro e w1 ⟨rfl, hb1⟩; have hB : Below w.heap.size w w1 := bstep ((Below.refl _ w).alloc (Nat.le_refl _) _) (by simp) hb1; have hst := store_last w1 w1.heap.size rfl Z84 cs zc Z84_size OC.out; have hcH := holding_any sure (hS w1 hB); rw [HH.out.2.1] at hcH; clear hb1 c1) | (refine ⟨trivial, ?_⟩; gi_at_call 88; refine (callsIn_wide.2 hcH).mono ?_; rintro e w2 ⟨b, rfl, hbr, hb2⟩) | (refine ⟨trivial, ?_⟩; gi_at_call 101; refine (callsIn_wide.2 (places_any w1.heap.size _)).mono ?_; rintro e w' ⟨rfl, rfl⟩))
  have hBz := hB.size
  have hb2z := hb2.size
  rw [World.size_alloc] at hb2z
  have hS1 : IsSized (w1.alloc (.cells cs 84)) (w1.alloc (.cells cs 84)).heap.size w1.heap.size Wd A n c A' n' c' ss ds (sizes ds) := hS w1 hB
  have hS2 := (hS1.kept hb2 (Nat.le_refl _)).wider hb2.size
  have hB2 : Below w.heap.size w w2 := bstep (hB.alloc hB.size _) (by simp; omega) hb2
  have hbl := (Array.getElem?_eq_some_iff.1 hbr).1
  have k0 : Boxed (((((w2.alloc (.cells #[.pointer (some ⟨b, 0, none⟩)] 108)).alloc (.cells #[.slice none 0 0] 48)).alloc (.cells (markCells noMarks) 4)).alloc (.cells #[.slice (some ⟨w2.heap.size + 1 + 1, 0, none⟩) 12 12] 117)).alloc (.cells #[.pointer (some ⟨w1.heap.size, 0, none⟩)] 126)) w2.heap.size 108 (.pointer (some ⟨b, 0, none⟩)) := ((((Boxed.new w2 108 _).alloc _).alloc _).alloc _).alloc _
  have k1 : Boxed (((((w2.alloc (.cells #[.pointer (some ⟨b, 0, none⟩)] 108)).alloc (.cells #[.slice none 0 0] 48)).alloc (.cells (markCells noMarks) 4)).alloc (.cells #[.slice (some ⟨w2.heap.size + 1 + 1, 0, none⟩) 12 12] 117)).alloc (.cells #[.pointer (some ⟨w1.heap.size, 0, none⟩)] 126)) (w2.heap.size + 1) 48 (.slice none 0 0) := row_alloc _ _ _ _ (row_alloc _ _ _ _ (row_alloc _ _ _ _ (row_last _ _ _ (by simp))))
  have k2 : (((((w2.alloc (.cells #[.pointer (some ⟨b, 0, none⟩)] 108)).alloc (.cells #[.slice none 0 0] 48)).alloc (.cells (markCells noMarks) 4)).alloc (.cells #[.slice (some ⟨w2.heap.size + 1 + 1, 0, none⟩) 12 12] 117)).alloc (.cells #[.pointer (some ⟨w1.heap.size, 0, none⟩)] 126)).heap[w2.heap.size + 1 + 1]? = some (.cells (markCells noMarks) 4 (0, 0)) := row_alloc _ _ _ _ (row_alloc _ _ _ _ (row_last _ _ _ (by simp)))
  have k3 : Boxed (((((w2.alloc (.cells #[.pointer (some ⟨b, 0, none⟩)] 108)).alloc (.cells #[.slice none 0 0] 48)).alloc (.cells (markCells noMarks) 4)).alloc (.cells #[.slice (some ⟨w2.heap.size + 1 + 1, 0, none⟩) 12 12] 117)).alloc (.cells #[.pointer (some ⟨w1.heap.size, 0, none⟩)] 126)) (w2.heap.size + 1 + 1 + 1) 117 (.slice (some ⟨w2.heap.size + 1 + 1, 0, none⟩) 12 12) := row_alloc _ _ _ _ (row_last _ _ _ (by simp))
  have k4 : Boxed (((((w2.alloc (.cells #[.pointer (some ⟨b, 0, none⟩)] 108)).alloc (.cells #[.slice none 0 0] 48)).alloc (.cells (markCells noMarks) 4)).alloc (.cells #[.slice (some ⟨w2.heap.size + 1 + 1, 0, none⟩) 12 12] 117)).alloc (.cells #[.pointer (some ⟨w1.heap.size, 0, none⟩)] 126)) (w2.heap.size + 1 + 1 + 1 + 1) 126 (.pointer (some ⟨w1.heap.size, 0, none⟩)) := row_last _ _ _ (by simp)
  have kb : Below w2.heap.size w2 (((((w2.alloc (.cells #[.pointer (some ⟨b, 0, none⟩)] 108)).alloc (.cells #[.slice none 0 0] 48)).alloc (.cells (markCells noMarks) 4)).alloc (.cells #[.slice (some ⟨w2.heap.size + 1 + 1, 0, none⟩) 12 12] 117)).alloc (.cells #[.pointer (some ⟨w1.heap.size, 0, none⟩)] 126)) := (((((Below.refl _ w2).alloc (Nat.le_refl _) _).alloc (by simp) _).alloc (by simp; omega) _).alloc (by simp; omega) _).alloc (by simp; omega) _
  have kz : (((((w2.alloc (.cells #[.pointer (some ⟨b, 0, none⟩)] 108)).alloc (.cells #[.slice none 0 0] 48)).alloc (.cells (markCells noMarks) 4)).alloc (.cells #[.slice (some ⟨w2.heap.size + 1 + 1, 0, none⟩) 12 12] 117)).alloc (.cells #[.pointer (some ⟨w1.heap.size, 0, none⟩)] 126)).heap.size = w2.heap.size + 5 := by simp
  obtain ⟨W0, hW0⟩ : ∃ W0, (((((w2.alloc (.cells #[.pointer (some ⟨b, 0, none⟩)] 108)).alloc (.cells #[.slice none 0 0] 48)).alloc (.cells (markCells noMarks) 4)).alloc (.cells #[.slice (some ⟨w2.heap.size + 1 + 1, 0, none⟩) 12 12] 117)).alloc (.cells #[.pointer (some ⟨w1.heap.size, 0, none⟩)] 126)) = W0 := ⟨_, rfl⟩
  rw [hW0] at k0 k1 k2 k3 k4 kb kz ⊢
  clear hW0 hst hcH hb2 hS hS1 hB hmk
  have hS0 := (hS2.kept kb (Nat.le_refl _)).wider kb.size
  refine wpIn_rangeFunc_ownH rfl (by omega) (gf := 123) (lb := #[.pointer (some ⟨w2.heap.size + 1 + 1 + 1 + 1, 0, none⟩)]) rfl trivial enters123
    (places_stops (12 - 1) (by omega) (w2.heap.size + 1 + 1 + 1 + 1) w1.heap.size (fun b => b = w2.heap.size + 1 + 1 + 1 + 1 ∨ b = w1.heap.size) A n c hn10 (.inl rfl) (.inr rfl) W0 (fun b hb => by omega) k4.cell hS0.h1) keepsIn_t (keepsIn_b (fun b hb => by omega)) (Below.refl _ _) (fun _ => rfl)
    (fun pre W => (∃ (v : Value) (gs : List (Value × List Int)) (M : Nat → Bool), Boxed W (w2.heap.size + 1) 48 v ∧ W.heap[w2.heap.size + 1 + 1]? = some (.cells (markCells M) 4 (0, 0)) ∧ GroupsAt w2.heap.size gs W v ∧ gs.map (·.2) = groupsOf (sizes ds) H pre) ∧
      Boxed W w2.heap.size 108 (.pointer (some ⟨b, 0, none⟩)) ∧ Boxed W (w2.heap.size + 1 + 1 + 1) 117 (.slice (some ⟨w2.heap.size + 1 + 1, 0, none⟩) 12 12) ∧ Boxed W (w2.heap.size + 1 + 1 + 1 + 1) 126 (.pointer (some ⟨w1.heap.size, 0, none⟩)) ∧ Below w2.heap.size w2 W)
    (fun _ _ _ => False)
    (fun pre X Y row hs hg hr => by
      obtain ⟨⟨v, gs, M, h1, h2, h3, h4⟩, h5, h6, h7, h8⟩ := hs
      have hr' := fun r e => (hr r e).2
      exact ⟨⟨v, gs, M, boxed_own _ _ (fun (_ : Unit) => _) () X Y row h1 hg hr', heap_kept h2 hg hr', ⟨owns_row_kept h3.row hg hr', fun q hq => ⟨owns_row_kept (h3.each q hq).1 hg hr', (h3.each q hq).2⟩, h3.none⟩, h4⟩,
        boxed_own _ _ (fun (_ : Unit) => _) () X Y row h5 hg hr', boxed_own _ _ (fun (_ : Unit) => _) () X Y row h6 hg hr', boxed_own _ _ (fun (_ : Unit) => _) () X Y row h7 hg hr', h8.grown hg h8.size (fun r e => by have := (hr r e).1; omega)⟩)
    (fun _ _ _ _ _ hs _ _ => hs)
    ⟨⟨_, [], noMarks, k1, k2, ⟨World.ownsRow_nil _ _ _ _, fun q hq => absurd hq (by simp), fun _ => rfl⟩, rfl⟩, k0, k3, k4, kb⟩
    (fun x a' _ => a' = { tmps := #[.agg #[.int .i64 Wd, .slice A n c, .slice A' n' c'], .bool sure, .pointer (some ⟨w.heap.size, 0, none⟩), undef, .slice none 0 0, .int .i64 0, .pointer (some ⟨w1.heap.size, 0, none⟩), .int .i64 0, .pointer (some ⟨w2.heap.size, 0, none⟩), .pointer (some ⟨w2.heap.size + 1, 0, none⟩), .pointer (some ⟨w2.heap.size + 1 + 1 + 1, 0, none⟩), .int .i64 ((x.val : Int) - 2), undef, .tuple #[.agg cs, .int .i64 0], .agg #[.int .i64 Wd, .slice A n c, .slice A' n' c'], .tuple #[.agg cs, .int .i64 0], .agg cs, .int .i64 0, .int .i64 0, .bool false, undef, .bool sure, .pointer (some ⟨b, 0, none⟩), .slice (some ⟨w2.heap.size + 1 + 1, 0, none⟩) 12 12, .func (.func 123) #[] #[.pointer (some ⟨w2.heap.size + 1 + 1 + 1 + 1, 0, none⟩)], .int .i64 ((x.val : Int) - 2), undef, undef, undef, undef, undef, undef, undef, undef, undef, undef, undef, undef, undef, undef, undef, undef, undef, undef, undef, undef, undef, undef, undef, undef], defers := [] })
    (fun _ _ _ _ _ _ hs _ _ => hs)
    ?assign ?body ?done ?stop
  case assign =>
    rintro l pre x W K hI hK
    gi_wp2
    exact hK _ _ (KeepsFrom.refl _ _) (fun _ _ => rfl) hI rfl
  case body =>
    rintro l pre x a' W hl ⟨r, hr⟩ ⟨⟨v, gs, M, e1, e2, e3, e4⟩, e5, e6, e7, e8⟩ rfl hlt
    have hx := x.isLt
    have hx12 : x.val < 12 := by omega
    have hSW := (hS2.kept e8 (Nat.le_refl _)).wider e8.size
    have cSpot := isSpot_any ((x.val : Int) - 2) hSW
    have c1 := e1.cell
    have f1 := e1.frozen
    have c5 := e5.cell
    have c6 := e6.cell
    obtain ⟨W1, hW1⟩ : ∃ W1, W.setCells (w2.heap.size + 1 + 1) 0 (List.replicate 12 (.bool false)) = W1 := ⟨_, rfl⟩
    have hcl : ∀ ty, (Builtin.clear_ #[117] ty #[.slice (some ⟨w2.heap.size + 1 + 1, 0, none⟩) 12 12]).run Try.prog W = .ok (.tuple #[]) W1 := fun ty => by rw [← hW1]; exact clear12 W _ 12 ty M e2
    have r1 : W1.heap[w2.heap.size + 1 + 1]? = some (.cells (markCells noMarks) 4 (0, 0)) := by rw [← hW1]; exact row_cleared W _ M _ rfl e2
    have g1 : W.grownBy W1 (some (w2.heap.size + 1 + 1)) := by rw [← hW1]; exact grownBy_setCells _ _ _ _
    clear hW1
    have hbm : w2.heap.size + 1 + 1 ≠ b := by omega
    have hb1 : W1.heap[b]? = some (.cells (matCells H) 135 (0, 0)) := (g1.block b (by have := e8.size; omega) (fun e => by cases e; omega)).trans ((e8.block b hbl).trans hbr)
    have cM := mark_any H b (w2.heap.size + 1 + 1) 12 hbm 12 x.val noMarks W1 hx12 rfl (Nat.le_trans List.countP_le_length (by simp)) hb1 r1
    have q5 := e5.kept g1 (fun e => by have := Option.some.inj e; omega)
    have q6 := e6.kept g1 (fun e => by have := Option.some.inj e; omega)
    have q1 := e1.kept g1 (fun e => by have := Option.some.inj e; omega)
    obtain ⟨i42, hi, hz0, hz1, hz2⟩ := info_parts info42
    have HI := Lib.hid hi
    have HZ0 := Lib.hid hz0
    have HZ1 := Lib.hid hz1
    have HZ2 := Lib.hid hz2
    clear hi hz0 hz1 hz2
    have hgl : gs.length ≤ 12 := by
      have h1 : gs.length = (groupsOf (sizes ds) H pre).length := by rw [← e4, List.length_map]
      rw [h1]
      exact Nat.le_trans (List.length_filterMap_le _ _) (by omega)
    by_cases hwall : x.val < 2
    · have hsp : (decide (0 ≤ (x.val : Int) - 2) && decide ((x.val : Int) - 2 < (n : Int))) = false := by simp; omega
      rw [hsp] at cSpot
      have d5 := q5.cell
      have d6 := q6.cell
      cases hls : leastB H x.val with
      | true =>
        gi_wp2_with (first | (refine ⟨trivial, ?_⟩; gi_at_call 59; refine (CallsIn.inRound l (callsIn_wide.2 cSpot)).mono ?_; rintro e w' ⟨rfl, rfl⟩))
        refine ⟨trivial, ?_⟩
        gi_wp2_with (first | (refine ⟨trivial, ?_⟩; gi_at_call 97; refine (CallsIn.inRound l (callsIn_wide.2 cM)).mono ?_; rintro e W2 ⟨rfl, g2, M2, r2, hM2⟩; have p5 := q5.kept g2 (fun e => by have := Option.some.inj e; omega); have p6 := q6.kept g2 (fun e => by have := Option.some.inj e; omega); have p1 := q1.kept g2 (fun e => by have := Option.some.inj e; omega); have t6 := p6.cell; have cL := listed_any (w2.heap.size + 1 + 1) 12 M2 W2 r2) | (refine ⟨trivial, ?_⟩; gi_at_call 98; refine (CallsIn.inRound l (callsIn_wide.2 cL)).mono ?_; rintro e W3 ⟨v2, rfl, hO2, hb3⟩; obtain ⟨i0, k3, b2, off2, d2, hv2, hpos, hc2, hle, hMi, hlow⟩ := listed_first hx12 hM2.self hO2; subst hv2; have hli := least_is hM2 hle hMi hlow; have hii := hli.1 hls; subst hii; have z1 : Boxed W3 (w2.heap.size + 1) 48 v := (hb3.block _ p1.lt).trans p1; have y1 := z1.cell; have o3 := owns_below (owns_other (owns_other e3.row g1 e2 (by decide)) g2 r1 (by decide)) hb3) | (gi_at_builtin; refine wpListIn_append_own _ rfl (.tmp 45) (.tmp 47) 48 rfl w2.heap.size 42 i42 (.slice none 0 0) 1 24 Try.underlying48 HI.out HZ0.out HZ1.out HZ2.out rfl (by decide) v gs.length _ rfl (o3.alloc _) ⟨W3.heap.size, 0, none⟩ 1 1 [.slice (some ⟨b2, off2, none⟩) k3 d2] rfl rfl (cell_one_new _ _ _) (by simp [Value.oneCell']) (by have := hgl; unfold maxLen; omega) (by have := hgl; omega) (by have := hb3.size; have := g2.size; have := g1.size; have := e8.size; simp; omega) ?_; intro v' w4 hown' hg4 _; have ob := own_block (o3.alloc (.cells #[.slice (some ⟨b2, off2, none⟩) k3 d2] 42)); have u1 : Boxed w4 (w2.heap.size + 1) 48 v := (z1.alloc _).kept hg4 (Boxed.not_row (z1.alloc (.cells #[.slice (some ⟨b2, off2, none⟩) k3 d2] 42)) (by decide) (o3.alloc _)); have u2 := u1.cell; have u3 := u1.frozen; obtain ⟨g', cap', rfl⟩ := ownsRow_succ hown'))
        have gAll := grownBy_trans (grownBy_trans g1 g2) (⟨hb3.os, hb3.tape, hb3.output, hb3.size, fun i hi _ => hb3.block i hi⟩ : W2.grownBy W3 (some (w2.heap.size + 1 + 1)))
        have hml := (Array.getElem?_eq_some_iff.1 e2).1
        have hz8 := e8.size
        have hz7 := e7.lt
        have hz1 := z1.lt
        have p7 := (e7.kept g1 (fun e => by have := Option.some.inj e; omega)).kept g2 (fun e => by have := Option.some.inj e; omega)
        have hko := KeepsOthers.of_grownBy gAll (fun j o e ho => by cases e; rw [e2] at ho; cases ho; rfl)
        have hthere : thereB (sizes ds) x.val = true := by simp [thereB, hwall]
        have hso : groupOf (sizes ds) H x.val = some (listTo M2 12) := by rw [marked_reach hM2]; simp [groupOf, hls, hthere]
        have oA := o3.alloc (.cells #[.slice (some ⟨b2, off2, none⟩) k3 d2] 42)
        have hko4 := KeepsOthers.of_grownBy hg4 (fun j o e ho => by
          obtain ⟨cs', fr', h1⟩ := ob j e
          rw [h1] at ho
          cases ho
          rfl)
        have hkoS := ((hko.trans (KeepsOthers.alloc W3 (.cells #[.slice (some ⟨b2, off2, none⟩) k3 d2] 42))).trans hko4).trans (KeepsOthers.setCell w4 ⟨w2.heap.size + 1, 0, none⟩ (.slice (some ⟨g', 0, none⟩) (gs.length + 1) cap'))
        have hlt4 : ∀ r, v.ownBlock = some r → w2.heap.size ≤ r := fun r e => (o3.lt r e).1
        have gS := grownBy_set (m := w2.heap.size + 1) (⟨rfl, rfl, rfl, Nat.le_refl _, fun _ _ _ => rfl⟩ : w4.grownBy w4 (some (w2.heap.size + 1))) 0 (.slice (some ⟨g', 0, none⟩) (gs.length + 1) cap')
        have hBx : ∀ {q : Nat} {t : TypeId} {y : Value}, Boxed W3 q t y → t ≠ 42 → q ≠ w2.heap.size + 1 → Boxed (w4.setCell ⟨w2.heap.size + 1, 0, none⟩ (.slice (some ⟨g', 0, none⟩) (gs.length + 1) cap')) q t y := fun hq ht hne => (heap_set_other w4 _ _ _ _ hne).trans ((hq.alloc _).kept hg4 (Boxed.not_row (hq.alloc (.cells #[.slice (some ⟨b2, off2, none⟩) k3 d2] 42)) ht oA))
        have hOw : ∀ {B' : Nat} {k' : Nat} {y : Value} {ys : List Value}, W3.ownsRow B' 3 1 y k' ys → (w4.setCell ⟨w2.heap.size + 1, 0, none⟩ (.slice (some ⟨g', 0, none⟩) (gs.length + 1) cap')).ownsRow B' 3 1 y k' ys := fun h => owns_opt (owns_opt (h.alloc (.cells #[.slice (some ⟨b2, off2, none⟩) k3 d2] 42)) hg4 (fun r e => by
          obtain ⟨cs', fr', h1⟩ := ob r e
          exact ⟨cs', 42, fr', h1, by decide⟩)) gS (fun r e => by cases e; exact ⟨_, _, _, u1, by decide⟩)
        have hmW3 : W3.heap[w2.heap.size + 1 + 1]? = some (.cells (markCells M2) 4 (0, 0)) := (hb3.block _ (Array.getElem?_eq_some_iff.1 r2).1).trans r2
        have hmS : (w4.setCell ⟨w2.heap.size + 1, 0, none⟩ (.slice (some ⟨g', 0, none⟩) (gs.length + 1) cap')).heap[w2.heap.size + 1 + 1]? = some (.cells (markCells M2) 4 (0, 0)) := (heap_set_other w4 _ _ _ _ (by omega)).trans ((hg4.block _ (by have := (Array.getElem?_eq_some_iff.1 hmW3).1; simp; omega) (fun e => by
          obtain ⟨cs', fr', h1⟩ := ob _ e.symm
          rw [row_alloc _ _ _ _ hmW3] at h1
          simp only [Option.some.injEq, Obj.cells.injEq] at h1
          exact absurd h1.2.1 (by decide))).trans (row_alloc _ _ _ _ hmW3))
        have hBS : Below w2.heap.size w2 (w4.setCell ⟨w2.heap.size + 1, 0, none⟩ (.slice (some ⟨g', 0, none⟩) (gs.length + 1) cap')) := ((((e8.grown gAll e8.size (fun r e => by have := Option.some.inj e; omega)).alloc (by have := gAll.size; omega) _).grown hg4 (by have := gAll.size; simp; omega) (fun r e => hlt4 r e))).setCell (p := ⟨w2.heap.size + 1, 0, none⟩) (by show w2.heap.size ≤ w2.heap.size + 1; omega) _
        refine ⟨hkoS.from _, fun q hq => ?_, ⟨_, gs ++ [(.slice (some ⟨b2, off2, none⟩) k3 d2, listTo M2 12)], M2, u1.set _, hmS, ⟨?_, ?_, fun e => by simp at e⟩, ?_⟩, hBx ((hb3.block _ p5.lt).trans p5) (by decide) (by omega), hBx ((hb3.block _ p6.lt).trans p6) (by decide) (by omega), hBx ((hb3.block _ p7.lt).trans p7) (by decide) (by omega), hBS⟩
        · rcases hq with rfl | rfl
          · exact (hBx ((hb3.block _ p7.lt).trans p7) (by decide) (by omega)).trans e7.symm
          · exact (hBS.block _ (by omega)).trans (e8.block _ (by omega)).symm
        · rw [List.length_append, List.map_append]
          exact owns_opt hown' gS (fun r e => by cases e; exact ⟨_, _, _, u1, by decide⟩)
        · intro q hq
          rcases List.mem_append.1 hq with hq | hq
          · exact ⟨hOw (owns_below (owns_other (owns_other (e3.each q hq).1 g1 e2 (by decide)) g2 r1 (by decide)) hb3), (e3.each q hq).2⟩
          · rw [List.mem_singleton.1 hq]
            exact ⟨owns_mono (hOw hO2.1) (by have := g2.size; have := g1.size; omega), hO2.2⟩
        · rw [groupsOf_step, hso, List.map_append, e4]
          rfl
      | false =>
        gi_wp2_with (first | (refine ⟨trivial, ?_⟩; gi_at_call 59; refine (CallsIn.inRound l (callsIn_wide.2 cSpot)).mono ?_; rintro e w' ⟨rfl, rfl⟩))
        refine ⟨trivial, ?_⟩
        gi_wp2_with (first | (refine ⟨trivial, ?_⟩; gi_at_call 97; refine (CallsIn.inRound l (callsIn_wide.2 cM)).mono ?_; rintro e W2 ⟨rfl, g2, M2, r2, hM2⟩; have p5 := q5.kept g2 (fun e => by have := Option.some.inj e; omega); have p6 := q6.kept g2 (fun e => by have := Option.some.inj e; omega); have p1 := q1.kept g2 (fun e => by have := Option.some.inj e; omega); have t6 := p6.cell; have cL := listed_any (w2.heap.size + 1 + 1) 12 M2 W2 r2) | (refine ⟨trivial, ?_⟩; gi_at_call 98; refine (CallsIn.inRound l (callsIn_wide.2 cL)).mono ?_; rintro e W3 ⟨v2, rfl, hO2, hb3⟩; obtain ⟨i0, k3, b2, off2, d2, hv2, hpos, hc2, hle, hMi, hlow⟩ := listed_first hx12 hM2.self hO2; subst hv2; have hli := least_is hM2 hle hMi hlow; have hii : ((i0 : Int) - 2 == (x.val : Int) - 2) = false := (by have := hli.2 hls; simp; omega); have z1 : Boxed W3 (w2.heap.size + 1) 48 v := (hb3.block _ p1.lt).trans p1; have y1 := z1.cell; have o3 := owns_below (owns_other (owns_other e3.row g1 e2 (by decide)) g2 r1 (by decide)) hb3))
        have gAll := grownBy_trans (grownBy_trans g1 g2) (⟨hb3.os, hb3.tape, hb3.output, hb3.size, fun i hi _ => hb3.block i hi⟩ : W2.grownBy W3 (some (w2.heap.size + 1 + 1)))
        have hml := (Array.getElem?_eq_some_iff.1 e2).1
        have hz8 := e8.size
        have hz7 := e7.lt
        have p7 := (e7.kept g1 (fun e => by have := Option.some.inj e; omega)).kept g2 (fun e => by have := Option.some.inj e; omega)
        have hko := KeepsOthers.of_grownBy gAll (fun j o e ho => by cases e; rw [e2] at ho; cases ho; rfl)
        have hne : groupOf (sizes ds) H x.val = none := by simp [groupOf, hls]
        refine ⟨hko.from _, fun q hq => gAll.block q (by rcases hq with rfl | rfl <;> omega) (fun e => by have := Option.some.inj e; rcases hq with rfl | rfl <;> omega), ⟨v, gs, M2, z1, (hb3.block _ (Array.getElem?_eq_some_iff.1 r2).1).trans r2, ⟨o3, fun q hq => ⟨owns_below (owns_other (owns_other (e3.each q hq).1 g1 e2 (by decide)) g2 r1 (by decide)) hb3, (e3.each q hq).2⟩, e3.none⟩, ?_⟩, (hb3.block _ p5.lt).trans p5, (hb3.block _ p6.lt).trans p6, (hb3.block _ p7.lt).trans p7, e8.grown gAll e8.size (fun r e => by have := Option.some.inj e; omega)⟩
        rw [groupsOf_step, hne, e4]
        simp
    · have hsp : (decide (0 ≤ (x.val : Int) - 2) && decide ((x.val : Int) - 2 < (n : Int))) = true := by simp; omega
      rw [hsp] at cSpot
      have cThere := isThere_any (x.val - 2) (by omega) hSW
      rw [show ((x.val - 2 : Nat) : Int) = (x.val : Int) - 2 from by omega] at cThere
      have d5 := q5.cell
      have d6 := q6.cell
      by_cases hth : 0 < (sizes ds (x.val - 2)).1
      · rw [decide_eq_true hth] at cThere
        cases hls : leastB H x.val with
        | true =>
          gi_wp2_with (first | (refine ⟨trivial, ?_⟩; gi_at_call 59; refine (CallsIn.inRound l (callsIn_wide.2 cSpot)).mono ?_; rintro e w' ⟨rfl, rfl⟩) | (refine ⟨trivial, ?_⟩; gi_at_call 102; refine (CallsIn.inRound l (callsIn_wide.2 cThere)).mono ?_; rintro e w' ⟨rfl, rfl⟩) | (refine ⟨trivial, ?_⟩; gi_at_call 97; refine (CallsIn.inRound l (callsIn_wide.2 cM)).mono ?_; rintro e W2 ⟨rfl, g2, M2, r2, hM2⟩; have p5 := q5.kept g2 (fun e => by have := Option.some.inj e; omega); have p6 := q6.kept g2 (fun e => by have := Option.some.inj e; omega); have p1 := q1.kept g2 (fun e => by have := Option.some.inj e; omega); have t6 := p6.cell; have cL := listed_any (w2.heap.size + 1 + 1) 12 M2 W2 r2) | (refine ⟨trivial, ?_⟩; gi_at_call 98; refine (CallsIn.inRound l (callsIn_wide.2 cL)).mono ?_; rintro e W3 ⟨v2, rfl, hO2, hb3⟩; obtain ⟨i0, k3, b2, off2, d2, hv2, hpos, hc2, hle, hMi, hlow⟩ := listed_first hx12 hM2.self hO2; subst hv2; have hli := least_is hM2 hle hMi hlow; have hii := hli.1 hls; subst hii; have z1 : Boxed W3 (w2.heap.size + 1) 48 v := (hb3.block _ p1.lt).trans p1; have y1 := z1.cell; have o3 := owns_below (owns_other (owns_other e3.row g1 e2 (by decide)) g2 r1 (by decide)) hb3) | (gi_at_builtin; refine wpListIn_append_own _ rfl (.tmp 45) (.tmp 47) 48 rfl w2.heap.size 42 i42 (.slice none 0 0) 1 24 Try.underlying48 HI.out HZ0.out HZ1.out HZ2.out rfl (by decide) v gs.length _ rfl (o3.alloc _) ⟨W3.heap.size, 0, none⟩ 1 1 [.slice (some ⟨b2, off2, none⟩) k3 d2] rfl rfl (cell_one_new _ _ _) (by simp [Value.oneCell']) (by have := hgl; unfold maxLen; omega) (by have := hgl; omega) (by have := hb3.size; have := g2.size; have := g1.size; have := e8.size; simp; omega) ?_; intro v' w4 hown' hg4 _; have ob := own_block (o3.alloc (.cells #[.slice (some ⟨b2, off2, none⟩) k3 d2] 42)); have u1 : Boxed w4 (w2.heap.size + 1) 48 v := (z1.alloc _).kept hg4 (Boxed.not_row (z1.alloc (.cells #[.slice (some ⟨b2, off2, none⟩) k3 d2] 42)) (by decide) (o3.alloc _)); have u2 := u1.cell; have u3 := u1.frozen; obtain ⟨g', cap', rfl⟩ := ownsRow_succ hown'))
          have gAll := grownBy_trans (grownBy_trans g1 g2) (⟨hb3.os, hb3.tape, hb3.output, hb3.size, fun i hi _ => hb3.block i hi⟩ : W2.grownBy W3 (some (w2.heap.size + 1 + 1)))
          have hml := (Array.getElem?_eq_some_iff.1 e2).1
          have hz8 := e8.size
          have hz7 := e7.lt
          have hz1 := z1.lt
          have p7 := (e7.kept g1 (fun e => by have := Option.some.inj e; omega)).kept g2 (fun e => by have := Option.some.inj e; omega)
          have hko := KeepsOthers.of_grownBy gAll (fun j o e ho => by cases e; rw [e2] at ho; cases ho; rfl)
          have hthere : thereB (sizes ds) x.val = true := by simp [thereB, hth]
          have hso : groupOf (sizes ds) H x.val = some (listTo M2 12) := by rw [marked_reach hM2]; simp [groupOf, hls, hthere]
          have oA := o3.alloc (.cells #[.slice (some ⟨b2, off2, none⟩) k3 d2] 42)
          have hko4 := KeepsOthers.of_grownBy hg4 (fun j o e ho => by
            obtain ⟨cs', fr', h1⟩ := ob j e
            rw [h1] at ho
            cases ho
            rfl)
          have hkoS := ((hko.trans (KeepsOthers.alloc W3 (.cells #[.slice (some ⟨b2, off2, none⟩) k3 d2] 42))).trans hko4).trans (KeepsOthers.setCell w4 ⟨w2.heap.size + 1, 0, none⟩ (.slice (some ⟨g', 0, none⟩) (gs.length + 1) cap'))
          have hlt4 : ∀ r, v.ownBlock = some r → w2.heap.size ≤ r := fun r e => (o3.lt r e).1
          have gS := grownBy_set (m := w2.heap.size + 1) (⟨rfl, rfl, rfl, Nat.le_refl _, fun _ _ _ => rfl⟩ : w4.grownBy w4 (some (w2.heap.size + 1))) 0 (.slice (some ⟨g', 0, none⟩) (gs.length + 1) cap')
          have hBx : ∀ {q : Nat} {t : TypeId} {y : Value}, Boxed W3 q t y → t ≠ 42 → q ≠ w2.heap.size + 1 → Boxed (w4.setCell ⟨w2.heap.size + 1, 0, none⟩ (.slice (some ⟨g', 0, none⟩) (gs.length + 1) cap')) q t y := fun hq ht hne => (heap_set_other w4 _ _ _ _ hne).trans ((hq.alloc _).kept hg4 (Boxed.not_row (hq.alloc (.cells #[.slice (some ⟨b2, off2, none⟩) k3 d2] 42)) ht oA))
          have hOw : ∀ {B' : Nat} {k' : Nat} {y : Value} {ys : List Value}, W3.ownsRow B' 3 1 y k' ys → (w4.setCell ⟨w2.heap.size + 1, 0, none⟩ (.slice (some ⟨g', 0, none⟩) (gs.length + 1) cap')).ownsRow B' 3 1 y k' ys := fun h => owns_opt (owns_opt (h.alloc (.cells #[.slice (some ⟨b2, off2, none⟩) k3 d2] 42)) hg4 (fun r e => by
            obtain ⟨cs', fr', h1⟩ := ob r e
            exact ⟨cs', 42, fr', h1, by decide⟩)) gS (fun r e => by cases e; exact ⟨_, _, _, u1, by decide⟩)
          have hmW3 : W3.heap[w2.heap.size + 1 + 1]? = some (.cells (markCells M2) 4 (0, 0)) := (hb3.block _ (Array.getElem?_eq_some_iff.1 r2).1).trans r2
          have hmS : (w4.setCell ⟨w2.heap.size + 1, 0, none⟩ (.slice (some ⟨g', 0, none⟩) (gs.length + 1) cap')).heap[w2.heap.size + 1 + 1]? = some (.cells (markCells M2) 4 (0, 0)) := (heap_set_other w4 _ _ _ _ (by omega)).trans ((hg4.block _ (by have := (Array.getElem?_eq_some_iff.1 hmW3).1; simp; omega) (fun e => by
            obtain ⟨cs', fr', h1⟩ := ob _ e.symm
            rw [row_alloc _ _ _ _ hmW3] at h1
            simp only [Option.some.injEq, Obj.cells.injEq] at h1
            exact absurd h1.2.1 (by decide))).trans (row_alloc _ _ _ _ hmW3))
          have hBS : Below w2.heap.size w2 (w4.setCell ⟨w2.heap.size + 1, 0, none⟩ (.slice (some ⟨g', 0, none⟩) (gs.length + 1) cap')) := ((((e8.grown gAll e8.size (fun r e => by have := Option.some.inj e; omega)).alloc (by have := gAll.size; omega) _).grown hg4 (by have := gAll.size; simp; omega) (fun r e => hlt4 r e))).setCell (p := ⟨w2.heap.size + 1, 0, none⟩) (by show w2.heap.size ≤ w2.heap.size + 1; omega) _
          refine ⟨hkoS.from _, fun q hq => ?_, ⟨_, gs ++ [(.slice (some ⟨b2, off2, none⟩) k3 d2, listTo M2 12)], M2, u1.set _, hmS, ⟨?_, ?_, fun e => by simp at e⟩, ?_⟩, hBx ((hb3.block _ p5.lt).trans p5) (by decide) (by omega), hBx ((hb3.block _ p6.lt).trans p6) (by decide) (by omega), hBx ((hb3.block _ p7.lt).trans p7) (by decide) (by omega), hBS⟩
          · rcases hq with rfl | rfl
            · exact (hBx ((hb3.block _ p7.lt).trans p7) (by decide) (by omega)).trans e7.symm
            · exact (hBS.block _ (by omega)).trans (e8.block _ (by omega)).symm
          · rw [List.length_append, List.map_append]
            exact owns_opt hown' gS (fun r e => by cases e; exact ⟨_, _, _, u1, by decide⟩)
          · intro q hq
            rcases List.mem_append.1 hq with hq | hq
            · exact ⟨hOw (owns_below (owns_other (owns_other (e3.each q hq).1 g1 e2 (by decide)) g2 r1 (by decide)) hb3), (e3.each q hq).2⟩
            · rw [List.mem_singleton.1 hq]
              exact ⟨owns_mono (hOw hO2.1) (by have := g2.size; have := g1.size; omega), hO2.2⟩
          · rw [groupsOf_step, hso, List.map_append, e4]
            rfl
        | false =>
          gi_wp2_with (first | (refine ⟨trivial, ?_⟩; gi_at_call 59; refine (CallsIn.inRound l (callsIn_wide.2 cSpot)).mono ?_; rintro e w' ⟨rfl, rfl⟩) | (refine ⟨trivial, ?_⟩; gi_at_call 102; refine (CallsIn.inRound l (callsIn_wide.2 cThere)).mono ?_; rintro e w' ⟨rfl, rfl⟩) | (refine ⟨trivial, ?_⟩; gi_at_call 97; refine (CallsIn.inRound l (callsIn_wide.2 cM)).mono ?_; rintro e W2 ⟨rfl, g2, M2, r2, hM2⟩; have p5 := q5.kept g2 (fun e => by have := Option.some.inj e; omega); have p6 := q6.kept g2 (fun e => by have := Option.some.inj e; omega); have p1 := q1.kept g2 (fun e => by have := Option.some.inj e; omega); have t6 := p6.cell; have cL := listed_any (w2.heap.size + 1 + 1) 12 M2 W2 r2) | (refine ⟨trivial, ?_⟩; gi_at_call 98; refine (CallsIn.inRound l (callsIn_wide.2 cL)).mono ?_; rintro e W3 ⟨v2, rfl, hO2, hb3⟩; obtain ⟨i0, k3, b2, off2, d2, hv2, hpos, hc2, hle, hMi, hlow⟩ := listed_first hx12 hM2.self hO2; subst hv2; have hli := least_is hM2 hle hMi hlow; have hii : ((i0 : Int) - 2 == (x.val : Int) - 2) = false := (by have := hli.2 hls; simp; omega); have z1 : Boxed W3 (w2.heap.size + 1) 48 v := (hb3.block _ p1.lt).trans p1; have y1 := z1.cell; have o3 := owns_below (owns_other (owns_other e3.row g1 e2 (by decide)) g2 r1 (by decide)) hb3))
          have gAll := grownBy_trans (grownBy_trans g1 g2) (⟨hb3.os, hb3.tape, hb3.output, hb3.size, fun i hi _ => hb3.block i hi⟩ : W2.grownBy W3 (some (w2.heap.size + 1 + 1)))
          have hml := (Array.getElem?_eq_some_iff.1 e2).1
          have hz8 := e8.size
          have hz7 := e7.lt
          have p7 := (e7.kept g1 (fun e => by have := Option.some.inj e; omega)).kept g2 (fun e => by have := Option.some.inj e; omega)
          have hko := KeepsOthers.of_grownBy gAll (fun j o e ho => by cases e; rw [e2] at ho; cases ho; rfl)
          have hne : groupOf (sizes ds) H x.val = none := by simp [groupOf, hls]
          refine ⟨hko.from _, fun q hq => gAll.block q (by rcases hq with rfl | rfl <;> omega) (fun e => by have := Option.some.inj e; rcases hq with rfl | rfl <;> omega), ⟨v, gs, M2, z1, (hb3.block _ (Array.getElem?_eq_some_iff.1 r2).1).trans r2, ⟨o3, fun q hq => ⟨owns_below (owns_other (owns_other (e3.each q hq).1 g1 e2 (by decide)) g2 r1 (by decide)) hb3, (e3.each q hq).2⟩, e3.none⟩, ?_⟩, (hb3.block _ p5.lt).trans p5, (hb3.block _ p6.lt).trans p6, (hb3.block _ p7.lt).trans p7, e8.grown gAll e8.size (fun r e => by have := Option.some.inj e; omega)⟩
          rw [groupsOf_step, hne, e4]
          simp
      · rw [decide_eq_false hth] at cThere
        have hne : groupOf (sizes ds) H x.val = none := by
          have : thereB (sizes ds) x.val = false := by simp [thereB]; omega
          simp [groupOf, this]
        gi_wp2_with (first | (refine ⟨trivial, ?_⟩; gi_at_call 59; refine (CallsIn.inRound l (callsIn_wide.2 cSpot)).mono ?_; rintro e w' ⟨rfl, rfl⟩) | (refine ⟨trivial, ?_⟩; gi_at_call 102; refine (CallsIn.inRound l (callsIn_wide.2 cThere)).mono ?_; rintro e w' ⟨rfl, rfl⟩))
        refine ⟨KeepsFrom.refl _ _, fun _ _ => rfl, ⟨v, gs, M, e1, e2, e3, ?_⟩, e5, e6, e7, e8⟩
        rw [groupsOf_step, hne, e4]
        simp
  case done =>
    rintro D zs W hD rfl ⟨⟨v, gs, M, e1, e2, e3, e4⟩, e5, e6, e7, e8⟩ hK
    have c9 := e1.cell
    gi_wp2
    refine ⟨by simp, .inl ⟨_, _, rfl, run_takeDeferred hK, ?_⟩⟩
    have hg := grownBy_putObj' W D (.deferred none)
    have hr' : ∀ r, some D = some r → ∃ o : Obj, W.heap[r]? = some o ∧ o.isCells = false := fun r e => by cases e; exact ⟨_, hK, rfl⟩
    have hBW := e8.grown hg e8.size (fun r e => by cases e; omega)
    refine ⟨.tuple #[v, .int .i64 0], by simp [results, Try.f36, go_sem], hB2.trans (hBW.mono hB2.size), .inr ⟨h0, v, gs, rfl, ⟨owns_mono (owns_row_kept e3.row hg hr') hB2.size, fun q hq => ⟨owns_mono (owns_row_kept (e3.each q hq).1 hg hr') hB2.size, (e3.each q hq).2⟩, e3.none⟩, ?_⟩⟩
    rw [e4, HH.out.1, ← HH.out.2.2]
  case stop =>
    rintro D c pre W _ _ h _
    exact h.elim

set_option maxHeartbeats 1000000 in
theorem groups_any (sure : Bool) (hb : IsBath w w.heap.size A n c A' n' c' ss ds) :
    Calls Try.prog 36 #[.agg #[.int .i64 Wd, .slice A n c, .slice A' n' c'], .bool sure] w (GroupsPost Wd ss ds sure w) := by
  by_cases h0 : bathErr Wd ss ds = 0
  · exact groups_ok sure hb h0
  · have c1 := opened_bad (w := w.alloc (.cells #[.int .i64 Wd, .slice A n c, .slice A' n' c'] 25)) (Wd := Wd) (c := c) (c' := c') ((hb.kept ((Below.refl _ w).alloc (Nat.le_refl _) _) (Nat.le_refl _)).wider (by simp)) h0
    unfold GroupsPost
    generalize bathErr Wd ss ds = r at h0 c1 ⊢
    have hne : (r == 0) = false := by simpa using h0
    have hne2 : (r != 0) = true := by simpa using h0
    have zz := Z84_size
    refine (callsIn_wide (n := 12)).1 ?_
    refine callsIn_of_wp_marks Try.func36 rfl trivial ?_ rfl
    simp only [Try.ntmps36, List.size_toArray, List.length_cons, List.length_nil, Nat.reduceAdd, Nat.reduceSub, Array.replicate_succ, Array.replicate_zero, List.push_toArray, List.append_toArray, List.nil_append, List.cons_append]
    gi_wp2_with (first | refine wpListIn_alloc84 rfl rfl ?_ | (refine ⟨trivial, ?_⟩; gi_at_call 58; refine (callsIn_wide.2 c1).mono ?_; rintro e w1 ⟨rfl, hb1⟩; have hB : Below w.heap.size w w1 := bstep ((Below.refl _ w).alloc (Nat.le_refl _) _) (by simp) hb1; have hst := store_last w1 w1.heap.size rfl Z84 Z84 Z84_size Z84_size Z84_one; clear hb1 c1))
    exact ⟨.tuple #[.slice none 0 0, .int .i64 r], by simp [results, Try.f36, go_sem], hB.alloc hB.size _, .inl ⟨h0, rfl⟩⟩
end
end Go.Proofs.Ytckndnaohggmhaa

/- ints of the verifier's own Go text: whether two lists are equal. -/
namespace Go.Proofs.Ytckndnaohggmhaa
open Go.RowKit Go.Shelf

theorem held_get {w : World} {A : Option Addr} {xs : List Int} (hh : Held w w.heap.size 1 encI A xs) {W : World} (hB : Below w.heap.size w W) {k : Nat} (hk : k < xs.length) : ∃ b off, A = some ⟨b, off, none⟩ ∧ W.cell? ⟨b, off + k, none⟩ = some (.int .i64 xs[k]) := by
  rcases hh with h | ⟨b, off, rfl, hlt', hc⟩
  · simp [h] at hk
  · refine ⟨b, off, rfl, ?_⟩
    have h2 := (hB.cell (p := ⟨b, off + k * 1 + 0, none⟩) hlt').trans (hc k xs[k] (List.getElem?_eq_getElem hk) 0 _ rfl)
    simpa using h2

set_option maxHeartbeats 400000 in
theorem ints_quiet (A A' : Option Addr) (n c n' c' : Nat) (xs ys : List Int) (w : World) (hnn : n = xs.length) (hnn' : n' = ys.length)
    (hn : n ≤ 9223372036854775807) (hn' : n' ≤ 9223372036854775807) (hh : Held w w.heap.size 1 encI A xs) (hh' : Held w w.heap.size 1 encI A' ys) :
    Calls Try.prog 31 #[.slice A n c, .slice A' n' c'] w fun e w' => e = .returned (.bool (decide (xs = ys))) ∧ ∃ m, w' = w.drewN m := by
  have HN := Lib.hid (And.intro hnn hnn')
  clear hnn hnn'
  by_cases hl : n = n'
  · subst hl
    go_enter Try.func31, Try.ntmps31
    go_wp2
    go_loopw [4, 5] (fun _ i wr => ∃ k : Nat, k ≤ n ∧ i = .int .i64 k ∧ Hid (∃ m, wr = w.drewN m) ∧ Hid (∀ j, j < k → ∀ (h1 : j < xs.length) (h2 : j < ys.length), xs[j] = ys[j])) (fun _ i _ => n - (intOf i).toNat)
    case atStart => exact ⟨0, Nat.zero_le _, rfl, Lib.hid ⟨0, rfl⟩, Lib.hid (fun j hj => absurd hj (by omega))⟩
    case round =>
      obtain ⟨k, hk, rfl, hD, hA⟩ := hrel
      have hB : Hid (Below w.heap.size w wr) := Lib.hid (by obtain ⟨m, rfl⟩ := hD.out; exact bdrewN (Below.refl _ _) m)
      by_cases hlt : k < n
      · have hltz : (k : Int) < (n : Int) := by omega
        have hkx : k < xs.length := by rw [← HN.out.1]; exact hlt
        have hky : k < ys.length := by rw [← HN.out.2]; exact hlt
        obtain ⟨b, off, rfl, hc⟩ := held_get hh hB.out hkx
        obtain ⟨b', off', rfl, hc'⟩ := held_get hh' hB.out hky
        obtain ⟨x, hx⟩ : ∃ x, xs[k] = x := ⟨_, rfl⟩
        obtain ⟨y, hy⟩ : ∃ y, ys[k] = y := ⟨_, rfl⟩
        rw [hx] at hc
        rw [hy] at hc'
        have HXY := Lib.hid (And.intro hx hy)
        clear hx hy hh hh'
        by_cases hxy : x = y
        · have hxy2 : (x != y) = false := by simp [hxy]
          go_wp2
          go_quiet (fail)
          go_wp2
          go_roundw
          case measure => simp [intOf]; omega
          case rel =>
            refine ⟨k + 1, by omega, by go_num, Lib.hid (by obtain ⟨m, rfl⟩ := hD.out; exact ⟨m + nq, by rw [World.drewN_drewN]⟩), Lib.hid fun j hj h1 h2 => ?_⟩
            by_cases e : j = k
            · subst e
              rw [HXY.out.1, HXY.out.2, hxy]
            · exact hA.out j (by omega) h1 h2
        · have hxy2 : (x != y) = true := by simp [hxy]
          go_wp2
          go_quiet (fail)
          go_wp2
          go_ret
          refine ⟨ret_bool ?_, by obtain ⟨m, rfl⟩ := hD.out; exact ⟨m + nq, by rw [World.drewN_drewN]⟩⟩
          have : xs ≠ ys := fun e => by
            subst e
            exact hxy (HXY.out.1.symm.trans HXY.out.2)
          simp [this]
      · have hltz : ¬ (k : Int) < (n : Int) := by omega
        go_wp2
        go_ret
        refine ⟨ret_bool ?_, hD.out⟩
        have : xs = ys := List.ext_getElem (by rw [← HN.out.1, HN.out.2]) fun j h1 h2 => hA.out j (by have := HN.out.1; omega) h1 h2
        simp [this]
  · have hlz : ((n : Int) != (n' : Int)) = true := by simp; omega
    have hne : xs ≠ ys := fun e => hl (by rw [HN.out.1, HN.out.2, e])
    have HNE := Lib.hid hne
    clear hne hh hh'
    go_enter Try.func31, Try.ntmps31
    go_wp2
    go_ret
    exact ⟨ret_bool (by simp [HNE.out]), 0, rfl⟩

theorem ints_any (A A' : Option Addr) (n c n' c' : Nat) (xs ys : List Int) (w : World) (hnn : n = xs.length) (hnn' : n' = ys.length)
    (hn : n ≤ 9223372036854775807) (hn' : n' ≤ 9223372036854775807) (hh : Held w w.heap.size 1 encI A xs) (hh' : Held w w.heap.size 1 encI A' ys) :
    Calls Try.prog 31 #[.slice A n c, .slice A' n' c'] w fun e w' => e = .returned (.bool (decide (xs = ys))) ∧ Below w.heap.size w w' :=
  (ints_quiet A A' n c n' c' xs ys w hnn hnn' hn hn' hh hh').mono fun _ _ ⟨he, m, hm⟩ => ⟨he, hm ▸ bdrewN (Below.refl _ _) m⟩
end Go.Proofs.Ytckndnaohggmhaa

/- lists of the verifier's own Go text: whether two lists of lists are equal. -/
namespace Go.Proofs.Ytckndnaohggmhaa
open Go.RowKit Go.Shelf

/-- The slice at A holds slices that hold the lists xss, in blocks below B. -/
def HeldRows (w : World) (B : Nat) (A : Option Addr) (xss : List (List Int)) : Prop :=
  xss = [] ∨ ∃ b off, A = some ⟨b, off, none⟩ ∧ b < B ∧ ∀ j xs, xss[j]? = some xs → ∃ Aj cj, w.cell? ⟨b, off + j, none⟩ = some (.slice Aj xs.length cj) ∧ Held w B 1 encI Aj xs ∧ xs.length ≤ 9223372036854775807
theorem HeldRows.kept {w w' : World} {B C : Nat} {A : Option Addr} {xss : List (List Int)} (h : HeldRows w B A xss) (hb : Below C w w') (hB : B ≤ C) : HeldRows w' B A xss := by
  rcases h with h | ⟨b, off, rfl, hlt, hc⟩
  · exact .inl h
  · refine .inr ⟨b, off, rfl, hlt, fun j xs hj => ?_⟩
    obtain ⟨Aj, cj, h1, h2, h3⟩ := hc j xs hj
    exact ⟨Aj, cj, (hb.cell (p := ⟨b, off + j, none⟩) (by show b < C; omega)).trans h1, h2.kept hb hB, h3⟩
theorem HeldRows.wider {w : World} {B C : Nat} {A : Option Addr} {xss : List (List Int)} (h : HeldRows w B A xss) (hB : B ≤ C) : HeldRows w C A xss := by
  rcases h with h | ⟨b, off, rfl, hlt, hc⟩
  · exact .inl h
  · refine .inr ⟨b, off, rfl, by omega, fun j xs hj => ?_⟩
    obtain ⟨Aj, cj, h1, h2, h3⟩ := hc j xs hj
    exact ⟨Aj, cj, h1, h2.wider hB, h3⟩

theorem heldRows_get {w : World} {A : Option Addr} {xss : List (List Int)} (hh : HeldRows w w.heap.size A xss) {W : World} (hB : Below w.heap.size w W) {k : Nat} {xs : List Int} (hk : xss[k]? = some xs) :
    ∃ b off Aj cj, A = some ⟨b, off, none⟩ ∧ W.cell? ⟨b, off + k, none⟩ = some (.slice Aj xs.length cj) ∧ Held W W.heap.size 1 encI Aj xs ∧ xs.length ≤ 9223372036854775807 := by
  rcases hh.kept hB (Nat.le_refl _) with h | ⟨b, off, rfl, hlt', hc⟩
  · simp [h] at hk
  · obtain ⟨Aj, cj, h1, h2, h3⟩ := hc k xs hk
    exact ⟨b, off, Aj, cj, rfl, h1, h2.wider hB.size, h3⟩

set_option maxRecDepth 100000 in
set_option maxHeartbeats 400000 in
theorem lists_quiet (A A' : Option Addr) (n c n' c' : Nat) (xs ys : List (List Int)) (w : World) (hnn : n = xs.length) (hnn' : n' = ys.length)
    (hn : n ≤ 9223372036854775807) (hn' : n' ≤ 9223372036854775807) (hh : HeldRows w w.heap.size A xs) (hh' : HeldRows w w.heap.size A' ys) :
    Calls Try.prog 38 #[.slice A n c, .slice A' n' c'] w fun e w' => e = .returned (.bool (decide (xs = ys))) ∧ ∃ m, w' = w.drewN m := by
  have HN := Lib.hid (And.intro hnn hnn')
  clear hnn hnn'
  by_cases hl : n = n'
  · subst hl
    go_enter Try.func38, Try.ntmps38
    go_wp2
    go_loopw [4, 5] (fun _ i wr => ∃ k : Nat, k ≤ n ∧ i = .int .i64 k ∧ Hid (∃ m, wr = w.drewN m) ∧ Hid (∀ j, j < k → ∀ (h1 : j < xs.length) (h2 : j < ys.length), xs[j] = ys[j])) (fun _ i _ => n - (intOf i).toNat)
    case atStart => exact ⟨0, Nat.zero_le _, rfl, Lib.hid ⟨0, rfl⟩, Lib.hid (fun j hj => absurd hj (by omega))⟩
    case round =>
      obtain ⟨k, hk, rfl, hD, hA⟩ := hrel
      have hB : Hid (Below w.heap.size w wr) := Lib.hid (by obtain ⟨m, rfl⟩ := hD.out; exact bdrewN (Below.refl _ _) m)
      by_cases hlt : k < n
      · have hltz : (k : Int) < (n : Int) := by omega
        have hkx : k < xs.length := by rw [← HN.out.1]; exact hlt
        have hky : k < ys.length := by rw [← HN.out.2]; exact hlt
        obtain ⟨x, hx⟩ : ∃ x, xs[k] = x := ⟨_, rfl⟩
        obtain ⟨y, hy⟩ : ∃ y, ys[k] = y := ⟨_, rfl⟩
        obtain ⟨b, off, Ax, cx, rfl, hc, hX, hxl⟩ := heldRows_get hh hB.out (show xs[k]? = some x by rw [List.getElem?_eq_getElem hkx, hx])
        obtain ⟨b', off', Ay, cy, rfl, hc', hY, hyl⟩ := heldRows_get hh' hB.out (show ys[k]? = some y by rw [List.getElem?_eq_getElem hky, hy])
        have hcall := fun n0 => Calls.quiet_of (w := wr) (n := n0) (ints_quiet Ax Ay x.length cx y.length cy x y (wr.drewN n0) rfl rfl hxl hyl (hX.kept (bdrewN (Below.refl _ wr) n0) (Nat.le_refl _)) (hY.kept (bdrewN (Below.refl _ wr) n0) (Nat.le_refl _)))
        have HXY := Lib.hid (And.intro hx hy)
        clear hx hy hh hh' hX hY hxl hyl
        by_cases hxy : x = y
        · subst hxy
          rw [show decide (x = x) = true from by simp] at hcall
          go_wp2
          go_quiet (((go_at_call 31; exact hcall _)))
          go_wp2
          go_roundw
          case measure => simp [intOf]; omega
          case rel =>
            refine ⟨k + 1, by omega, by go_num, Lib.hid (by obtain ⟨m, rfl⟩ := hD.out; exact ⟨m + nq, by rw [World.drewN_drewN]⟩), Lib.hid fun j hj h1 h2 => ?_⟩
            by_cases e : j = k
            · subst e
              rw [HXY.out.1, HXY.out.2]
            · exact hA.out j (by omega) h1 h2
        · rw [show decide (x = y) = false from by simp [hxy]] at hcall
          go_wp2
          go_quiet (((go_at_call 31; exact hcall _)))
          go_wp2
          go_ret
          refine ⟨ret_bool ?_, by obtain ⟨m, rfl⟩ := hD.out; exact ⟨m + nq, by rw [World.drewN_drewN]⟩⟩
          have : xs ≠ ys := fun e => by
            subst e
            exact hxy (HXY.out.1.symm.trans HXY.out.2)
          simp [this]
      · have hltz : ¬ (k : Int) < (n : Int) := by omega
        go_wp2
        go_ret
        refine ⟨ret_bool ?_, hD.out⟩
        have : xs = ys := List.ext_getElem (by rw [← HN.out.1, HN.out.2]) fun j h1 h2 => hA.out j (by have := HN.out.1; omega) h1 h2
        simp [this]
  · have hlz : ((n : Int) != (n' : Int)) = true := by simp; omega
    have hne : xs ≠ ys := fun e => hl (by rw [HN.out.1, HN.out.2, e])
    have HNE := Lib.hid hne
    clear hne hh hh'
    go_enter Try.func38, Try.ntmps38
    go_wp2
    go_ret
    exact ⟨ret_bool (by simp [HNE.out]), 0, rfl⟩

theorem lists_any (A A' : Option Addr) (n c n' c' : Nat) (xs ys : List (List Int)) (w : World) (hnn : n = xs.length) (hnn' : n' = ys.length)
    (hn : n ≤ 9223372036854775807) (hn' : n' ≤ 9223372036854775807) (hh : HeldRows w w.heap.size A xs) (hh' : HeldRows w w.heap.size A' ys) :
    Calls Try.prog 38 #[.slice A n c, .slice A' n' c'] w fun e w' => e = .returned (.bool (decide (xs = ys))) ∧ Below w.heap.size w w' :=
  (lists_quiet A A' n c n' c' xs ys w hnn hnn' hn hn' hh hh').mono fun _ _ ⟨he, m, hm⟩ => ⟨he, hm ▸ bdrewN (Below.refl _ _) m⟩
end Go.Proofs.Ytckndnaohggmhaa

/- A region that draws its order, told by what each of its operations yields, in whatever order they are run: each may make memory, none turns what was there. Conditions: each operation has a slot of its own, and waits for earlier ones alone. -/
namespace Go.Proofs.Ytckndnaohggmhaa
open Go.RowKit

/-- The slot of the i-th operation. -/
def slot (ops : Array Oper) (i : Nat) : Tmp := ((ops[i]?).bind (·.dst)).getD 0
/-- Each operation has a slot of its own below n, and waits for earlier ones alone. -/
def slotsB (ops : Array Oper) (n : Nat) : Bool :=
  (List.range ops.size).all fun i => match ops[i]? with
    | some o => (match o.dst with | some d => decide (d < n) | none => false) && o.after.toList.all (fun e => decide (e.on < i)) && (match o.guard with | some g => decide (g.1 < i) | none => true) && (List.range i).all fun j => decide (slot ops j ≠ slot ops i)
    | none => false
theorem slotsB_spec {ops : Array Oper} {n : Nat} (h : slotsB ops n = true) :
    (∀ i o, ops[i]? = some o → o.dst = some (slot ops i) ∧ slot ops i < n ∧ (∀ e ∈ o.after, e.on < i) ∧ ∀ g, o.guard = some g → g.1 < i) ∧ ∀ i j, i < ops.size → j < ops.size → slot ops i = slot ops j → i = j := by
  have key : ∀ i o, ops[i]? = some o → (o.dst = some (slot ops i) ∧ slot ops i < n ∧ (∀ e ∈ o.after, e.on < i) ∧ ∀ g, o.guard = some g → g.1 < i) ∧ ∀ j, j < i → slot ops j ≠ slot ops i := by
    intro i o ho
    have h1 := List.all_eq_true.1 h i (List.mem_range.2 (Array.getElem?_eq_some_iff.1 ho).1)
    rw [ho] at h1
    simp only [Bool.and_eq_true, List.all_eq_true, decide_eq_true_eq, List.mem_range] at h1
    obtain ⟨⟨⟨h2, h3⟩, h5⟩, h4⟩ := h1
    cases hd : o.dst with
    | none => rw [hd] at h2; cases h2
    | some d =>
      rw [hd] at h2
      have hs : slot ops i = d := by simp [slot, ho, hd]
      rw [hs]
      refine ⟨⟨rfl, by simpa using h2, fun e he => h3 e (by simpa using he), fun g hg => by rw [hg] at h5; simpa using h5⟩, fun j hj => by rw [← hs]; exact h4 j hj⟩
  refine ⟨fun i o ho => (key i o ho).1, fun i j hi hj e => ?_⟩
  rcases Nat.lt_trichotomy i j with hl | hl | hl
  · exact absurd e ((key j _ (Array.getElem?_eq_getElem hj)).2 i hl)
  · exact hl
  · exact absurd e.symm ((key i _ (Array.getElem?_eq_getElem hi)).2 j hl)

theorem eval_put_same {a : Act} {d : Tmp} {v : Value} (h : d < a.tmps.size) : (a.put (some d) v).eval (.tmp d) = v := by
  simp [Act.put, Act.eval, h]
theorem eval_put_other {a : Act} {d t : Tmp} {v : Value} (h : t ≠ d) : (a.put (some d) v).eval (.tmp t) = a.eval (.tmp t) := by
  simp [Act.put, Act.eval, Array.getElem?_setIfInBounds_ne (Ne.symm h)]

section
variable {P : Program} {ops : Array Oper} {Q : Exit → Act → World → Prop}

structure SpecsAt (ops : Array Oper) (S : Nat → Value → World → Prop) (B : World → Prop) (a0 : Act) (listed : Array Bool) (a : Act) (W : World) : Prop where
  size : listed.size = ops.size
  tmps : a.tmps.size = a0.tmps.size
  defers : a.defers = a0.defers
  base : B W
  old : ∀ t, (∀ i, i < ops.size → slot ops i ≠ t) → a.eval (.tmp t) = a0.eval (.tmp t)
  got : ∀ i, i < ops.size → listed.getD i false = true → S i (a.eval (.tmp (slot ops i))) W

theorem getD_two {l : Array Bool} {i : Nat} (h : i < l.size) : l.getD i true = l.getD i false := by simp [h]

/-- An operation's guard holds if the slot of the one that it waits for says so. -/
theorem wanted_of {o : Oper} {a : Act} (hd : ∀ g, o.guard = some g → ∃ o', ops[g.1]? = some o' ∧ o'.dst = some (slot ops g.1)) (h : ∀ j b, o.guard = some (j, b) → a.eval (.tmp (slot ops j)) = .bool b) : Region.wanted o (yielded ops a.tmps) = true := by
  unfold Region.wanted
  cases hg : o.guard with
  | none => rfl
  | some g =>
    obtain ⟨j, b⟩ := g
    have h1 := h j b hg
    obtain ⟨o', ho, hd'⟩ := hd _ hg
    have h2 : a.tmps[slot ops j]? = some (.bool b) := by
      simp only [Act.eval, Array.getD_eq_getD_getElem?] at h1
      cases hx : a.tmps[slot ops j]? with
      | none => rw [hx] at h1; cases h1
      | some x => rw [hx] at h1; simp at h1; rw [h1]
    simp [yielded, ho, hd', h2]

theorem wp_region_specs {id : Nat} {a : Act} {w : World} (S : Nat → Value → World → Prop) (B : World → Prop) (hm : P.follows .mixedOrders = true) (hs : slotsB ops a.tmps.size = true)
    (hB0 : B { w with drawn := w.drawn + 1 }) (hBg : ∀ W W', B W → Below W.heap.size W W' → B W') (hSg : ∀ i v W W', S i v W → Below W.heap.size W W' → S i v W')
    (D : Nat → Tmp) (hD : ((List.range ops.size).all fun i => decide (slot ops i = D i)) = true)
    (step : ∀ (i : Nat) (o : Oper), ops[i]? = some o → ∀ (a' : Act) (W : World), B W → a'.tmps.size = a.tmps.size → (∀ t, ((List.range ops.size).all fun i => decide (D i ≠ t)) = true → a'.eval (.tmp t) = a.eval (.tmp t)) →
      (∀ j, (o.after.any fun e => decide (e.on = j) && Region.binds .any e) = true → S j (a'.eval (.tmp (D j))) W) →
      (∀ j b, o.guard = some (j, b) → a'.eval (.tmp (D j)) = .bool b) ∧ o.wp P a' W (fun a'' W' => ∃ v, a'' = a'.put o.dst v ∧ S i v W' ∧ Below W.heap.size W W') Q)
    (done : ∀ (a' : Act) (W : World), B W → a'.tmps.size = a.tmps.size → a'.defers = a.defers → (∀ t, ((List.range ops.size).all fun i => decide (D i ≠ t)) = true → a'.eval (.tmp t) = a.eval (.tmp t)) →
      (∀ i, i < ops.size → S i (a'.eval (.tmp (D i))) W) → Q .normal a' W) : (Code.region id ops true).wp P Q a w := by
  obtain ⟨hd, hap⟩ := slotsB_spec hs
  have hD' : ∀ i, i < ops.size → slot ops i = D i := fun i hi => by simpa using List.all_eq_true.1 hD i (List.mem_range.2 hi)
  have hoT : ∀ t, ((List.range ops.size).all fun i => decide (D i ≠ t)) = true → ∀ i, i < ops.size → slot ops i ≠ t := fun t ht i hi => by
    rw [hD' i hi]
    simpa using List.all_eq_true.1 ht i (List.mem_range.2 hi)
  refine wp_region_any hm ?_
  have end_ : ∀ (listed : Array Bool) (a' : Act) (W : World), SpecsAt ops S B a listed a' W → Region.ready .any ops listed = [] → Q .normal a' W := by
    intro listed a' W h hr
    have all : ∀ n i, i ≤ n → i < ops.size → listed.getD i false = true := by
      intro n
      induction n using Nat.strongRecOn with
      | _ n ih =>
        intro i hin hi
        cases hl : listed.getD i false with
        | true => rfl
        | false =>
          exfalso
          have : i ∈ Region.ready .any ops listed := mem_ready.2 ⟨by rw [getD_two (by rw [h.size]; exact hi), hl], _, Array.getElem?_eq_getElem hi, fun e he _ => by
            have := (hd i _ (Array.getElem?_eq_getElem hi)).2.2.1 e he
            exact ih e.on (by omega) e.on (Nat.le_refl _) (by omega)⟩
          rw [hr] at this
          cases this
    exact done a' W h.base h.tmps h.defers (fun t ht => h.old t (hoT t ht)) fun i hi => by rw [← hD' i hi]; exact h.got i hi (all i i (Nat.le_refl _) hi)
  have aux : ∀ (fuel : Nat) (listed : Array Bool) (a' : Act) (W : World), SpecsAt ops S B a listed a' W → (List.range ops.size).countP (fun i => !listed.getD i true) ≤ fuel → wpAny P .any ops Q fuel listed a' W := by
    intro fuel
    induction fuel with
    | zero =>
      intro listed a' W h hc
      have hr : Region.ready .any ops listed = [] := by
        refine List.eq_nil_iff_forall_not_mem.2 fun i hi => ?_
        obtain ⟨h1, o, ho, _⟩ := mem_ready.1 hi
        have h0 : (List.range ops.size).countP (fun i => !listed.getD i true) = 0 := by omega
        have := List.countP_eq_zero.1 h0 i (List.mem_range.2 (Array.getElem?_eq_some_iff.1 ho).1)
        rw [h1] at this
        exact this rfl
      exact ⟨hr, end_ listed a' W h hr⟩
    | succ fuel ih =>
      intro listed a' W h hc
      refine ⟨end_ listed a' W h, fun i hi => ?_⟩
      obtain ⟨h1, o, ho, haft⟩ := mem_ready.1 hi
      have hil := (Array.getElem?_eq_some_iff.1 ho).1
      obtain ⟨hg, hp⟩ := step i o ho a' W h.base h.tmps (fun t ht => h.old t (hoT t ht)) fun j hj => by
        obtain ⟨e, he, hb⟩ := Array.any_eq_true'.1 hj
        simp only [Bool.and_eq_true, decide_eq_true_eq] at hb
        obtain ⟨rfl, hb⟩ := hb
        have hlt : e.on < ops.size := by have := (hd i o ho).2.2.1 e he; omega
        rw [← hD' _ hlt]
        exact h.got e.on hlt (haft e he hb)
      have hw : Region.wanted o (yielded ops a'.tmps) = true := wanted_of (fun g hg => by
          have hlt : g.1 < ops.size := by have := (hd i o ho).2.2.2 g hg; omega
          exact ⟨_, Array.getElem?_eq_getElem hlt, (hd _ _ (Array.getElem?_eq_getElem hlt)).1⟩) fun j b hgb => by
        have hlt : j < ops.size := by have := (hd i o ho).2.2.2 _ hgb; simp at this; omega
        rw [hD' _ hlt]
        exact hg j b hgb
      unfold wpOp
      rw [ho]
      simp only [hw, if_true]
      refine .inl (Oper.wp_mono (fun a'' W' hh => ?_) hp)
      obtain ⟨v, rfl, hS, hb⟩ := hh
      rw [(hd i o ho).1]
      refine ih _ _ _ ⟨by simp [h.size], by simp [Act.put, h.tmps], h.defers, hBg _ _ h.base hb, fun t ht => ?_, fun j hj hl => ?_⟩ ?_
      · rw [eval_put_other (Ne.symm (ht i hil))]
        exact h.old t ht
      · by_cases e : i = j
        · subst e
          rw [eval_put_same (by rw [h.tmps]; exact (hd i o ho).2.1)]
          exact hS
        · rw [eval_put_other (fun e' => e (hap i j hil hj e'.symm))]
          rw [getD_set_ne false e] at hl
          exact hSg _ _ _ _ (h.got j hj hl) hb
      · have : (List.range ops.size).countP (fun k => !(listed.setIfInBounds i true).getD k true) < (List.range ops.size).countP (fun k => !listed.getD k true) := by
          refine countP_step _ _ i _ (fun y hy => ?_) (List.mem_range.2 hil) (by simp [h1]) ?_
          · by_cases e : i = y
            · subst e; simp [h1]
            · rw [getD_set_ne true e] at hy; exact hy
          · have : i < listed.size := by rw [h.size]; exact hil
            simp [this]
        omega
  exact aux ops.size _ a _ ⟨by simp, rfl, rfl, hB0, fun _ _ => rfl, fun i hi hl => by rw [getD_replicate_false] at hl; cases hl⟩ (by
    have := List.countP_le_length (p := fun i => !(Array.replicate ops.size false).getD i true) (l := List.range ops.size)
    simpa using this)
/-- An operation that yields a value. -/
theorem specs_value {o : Oper} {a : Act} {W W' : World} {v : Value} {R : Value → World → Prop} (hr : (execOp a.eval o).run P W = .ok (.value v) W') (hS : R v W') (hb : Below W.heap.size W W') :
    o.wp P a W (fun a'' W'' => ∃ v, a'' = a.put o.dst v ∧ R v W'' ∧ Below W.heap.size W W'') Q := by
  unfold Oper.wp
  rw [hr]
  exact ⟨v, rfl, hS, hb⟩
/-- An operation that calls. -/
theorem specs_call {o : Oper} {a : Act} {W : World} {f : FuncId} {args : Array Value} {R : Value → World → Prop} (hr : (execOp a.eval o).run P W = .ok (.enter f args) W)
    (hc : Calls P f args W fun e w' => ∃ v, e = .returned v ∧ R v w' ∧ Below W.heap.size W w') :
    o.wp P a W (fun a'' W'' => ∃ v, a'' = a.put o.dst v ∧ R v W'' ∧ Below W.heap.size W W'') Q := by
  unfold Oper.wp
  rw [hr]
  refine hc.mono ?_
  rintro e w' ⟨v, rfl, hR, hb⟩
  exact ⟨v, rfl, hR, hb⟩
end
end Go.Proofs.Ytckndnaohggmhaa
