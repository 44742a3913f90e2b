/- Texts of one package, joined: Laws, Orders, Book, EnterReg. -/
import Derived.Test.YtmlmnljbegcjcaaGreatD1
import Derived.Test.YtmlmnljbegcjcaaGreatD3
import Derived.BigQuiet
import Derived.Deep.QuietTactic
import Derived.Deep.LoopGhost
import Derived.Shelf.Abstract
import Derived.StillTail
import Derived.Laws.Rows
import Derived.Laws.Tables
import Derived.Deep.WholeRow
import Derived.Deep.AppendLies
import Derived.Deep.DrawnRows
import Derived.OwnWalk
import Derived.IntWalk
import Derived.Deep.CutRange
import Derived.StillTailTactics
/- Laws that know nothing of the package: memory that grows, rows, drawing regions. -/
namespace Go.Proofs.YtmlmnljbegcjcaaGreat
open Go.RowKit Go.Shelf

theorem countP_step {α : Type} (p q : α → Bool) (x : α) : ∀ l : List α, (∀ y, q y = true → p y = true) → x ∈ l → p x = true → q x = false → l.countP q < l.countP p
  | [], _, hx, _, _ => absurd hx (by simp)
  | y :: l, h, hx, hp, hq => by
    have hle : l.countP q ≤ l.countP p := List.countP_mono_left fun z _ => h z
    rw [List.countP_cons, List.countP_cons]
    rcases List.mem_cons.1 hx with e | hx'
    · subst e
      simp [hp, hq]
      omega
    · have := countP_step p q x l h hx' hp hq
      by_cases hy : q y = true
      · simp [hy, h y hy]; omega
      · simp [hy]; split <;> omega



/-- The slot of the i-th operation. -/
def slot (ops : Array Oper) (i : Nat) : Tmp := ((ops[i]?).bind (·.dst)).getD 0
/-- Each operation has a slot of its own below n, and waits for earlier ones alone. -/
def slotsB (ops : Array Oper) (n : Nat) : Bool :=
  (List.range ops.size).all fun i => match ops[i]? with
    | some o => (match o.dst with | some d => decide (d < n) | none => false) && o.after.toList.all (fun e => decide (e.on < i)) && (match o.guard with | some g => decide (g.1 < i) | none => true) && (List.range i).all fun j => decide (slot ops j ≠ slot ops i)
    | none => false
theorem slotsB_spec {ops : Array Oper} {n : Nat} (h : slotsB ops n = true) :
    (∀ i o, ops[i]? = some o → o.dst = some (slot ops i) ∧ slot ops i < n ∧ (∀ e ∈ o.after, e.on < i) ∧ ∀ g, o.guard = some g → g.1 < i) ∧ ∀ i j, i < ops.size → j < ops.size → slot ops i = slot ops j → i = j := by
  have key : ∀ i o, ops[i]? = some o → (o.dst = some (slot ops i) ∧ slot ops i < n ∧ (∀ e ∈ o.after, e.on < i) ∧ ∀ g, o.guard = some g → g.1 < i) ∧ ∀ j, j < i → slot ops j ≠ slot ops i := by
    intro i o ho
    have h1 := List.all_eq_true.1 h i (List.mem_range.2 (Array.getElem?_eq_some_iff.1 ho).1)
    rw [ho] at h1
    simp only [Bool.and_eq_true, List.all_eq_true, decide_eq_true_eq, List.mem_range] at h1
    obtain ⟨⟨⟨h2, h3⟩, h5⟩, h4⟩ := h1
    cases hd : o.dst with
    | none => rw [hd] at h2; cases h2
    | some d =>
      rw [hd] at h2
      have hs : slot ops i = d := by simp [slot, ho, hd]
      rw [hs]
      refine ⟨⟨rfl, by simpa using h2, fun e he => h3 e (by simpa using he), fun g hg => by rw [hg] at h5; simpa using h5⟩, fun j hj => by rw [← hs]; exact h4 j hj⟩
  refine ⟨fun i o ho => (key i o ho).1, fun i j hi hj e => ?_⟩
  rcases Nat.lt_trichotomy i j with hl | hl | hl
  · exact absurd e ((key j _ (Array.getElem?_eq_getElem hj)).2 i hl)
  · exact hl
  · exact absurd e.symm ((key i _ (Array.getElem?_eq_getElem hi)).2 j hl)

theorem eval_put_same {a : Act} {d : Tmp} {v : Value} (h : d < a.tmps.size) : (a.put (some d) v).eval (.tmp d) = v := by
  simp [Act.put, Act.eval, h]
theorem eval_put_other {a : Act} {d t : Tmp} {v : Value} (h : t ≠ d) : (a.put (some d) v).eval (.tmp t) = a.eval (.tmp t) := by
  simp [Act.put, Act.eval, Array.getElem?_setIfInBounds_ne (Ne.symm h)]

section
variable {P : Program} {ops : Array Oper} {Q : Exit → Act → World → Prop}

structure SpecsAt (ops : Array Oper) (S : Nat → Value → World → Prop) (B : World → Prop) (a0 : Act) (listed : Array Bool) (a : Act) (W : World) : Prop where
  size : listed.size = ops.size
  tmps : a.tmps.size = a0.tmps.size
  defers : a.defers = a0.defers
  base : B W
  old : ∀ t, (∀ i, i < ops.size → slot ops i ≠ t) → a.eval (.tmp t) = a0.eval (.tmp t)
  got : ∀ i, i < ops.size → listed.getD i false = true → S i (a.eval (.tmp (slot ops i))) W

theorem getD_two {l : Array Bool} {i : Nat} (h : i < l.size) : l.getD i true = l.getD i false := by simp [h]

/-- An operation's guard holds if the slot of the one that it waits for says so. -/
theorem wanted_of {o : Oper} {a : Act} (hd : ∀ g, o.guard = some g → ∃ o', ops[g.1]? = some o' ∧ o'.dst = some (slot ops g.1)) (h : ∀ j b, o.guard = some (j, b) → a.eval (.tmp (slot ops j)) = .bool b) : Region.wanted o (yielded ops a.tmps) = true := by
  unfold Region.wanted
  cases hg : o.guard with
  | none => rfl
  | some g =>
    obtain ⟨j, b⟩ := g
    have h1 := h j b hg
    obtain ⟨o', ho, hd'⟩ := hd _ hg
    have h2 : a.tmps[slot ops j]? = some (.bool b) := by
      simp only [Act.eval, Array.getD_eq_getD_getElem?] at h1
      cases hx : a.tmps[slot ops j]? with
      | none => rw [hx] at h1; cases h1
      | some x => rw [hx] at h1; simp at h1; rw [h1]
    simp [yielded, ho, hd', h2]

/-- An operation that yields a value. -/
theorem specs_value {o : Oper} {a : Act} {W W' : World} {v : Value} {R : Value → World → Prop} (hr : (execOp a.eval o).run P W = .ok (.value v) W') (hS : R v W') (hb : Below W.heap.size W W') :
    o.wp P a W (fun a'' W'' => ∃ v, a'' = a.put o.dst v ∧ R v W'' ∧ Below W.heap.size W W'') Q := by
  unfold Oper.wp
  rw [hr]
  exact ⟨v, rfl, hS, hb⟩
/-- An operation that calls. -/
theorem specs_call {o : Oper} {a : Act} {W : World} {f : FuncId} {args : Array Value} {R : Value → World → Prop} (hr : (execOp a.eval o).run P W = .ok (.enter f args) W)
    (hc : Calls P f args W fun e w' => ∃ v, e = .returned v ∧ R v w' ∧ Below W.heap.size W w') :
    o.wp P a W (fun a'' W'' => ∃ v, a'' = a.put o.dst v ∧ R v W'' ∧ Below W.heap.size W W'') Q := by
  unfold Oper.wp
  rw [hr]
  refine hc.mono ?_
  rintro e w' ⟨v, rfl, hR, hb⟩
  exact ⟨v, rfl, hR, hb⟩
end



/-- Each of the first m operations has a slot of its own below n, and waits for earlier ones alone. -/
def slotsTo (ops : Array Oper) (m n : Nat) : Bool :=
  decide (m ≤ ops.size) && (List.range m).all fun i => match ops[i]? with
    | some o => (match o.dst with | some d => decide (d < n) | none => false) && o.after.toList.all (fun e => decide (e.on < i)) && (match o.guard with | some g => decide (g.1 < i) | none => true) && (List.range i).all fun j => decide (slot ops j ≠ slot ops i)
    | none => false
/-- Each of the others waits for all before it. -/
def tailB (ops : Array Oper) (m : Nat) : Bool :=
  (List.range ops.size).all fun i => decide (i < m) || match ops[i]? with
    | some o => ((List.range i).all fun j => o.after.any fun e => decide (e.on = j) && Region.binds .any e) && o.after.toList.all fun e => decide (e.on < i)
    | none => false
theorem slotsTo_spec {ops : Array Oper} {m n : Nat} (h : slotsTo ops m n = true) : m ≤ ops.size ∧
    (∀ i o, i < m → ops[i]? = some o → o.dst = some (slot ops i) ∧ slot ops i < n ∧ (∀ e ∈ o.after, e.on < i) ∧ ∀ g, o.guard = some g → g.1 < i) ∧ ∀ i j, i < m → j < m → slot ops i = slot ops j → i = j := by
  simp only [slotsTo, Bool.and_eq_true, decide_eq_true_eq] at h
  obtain ⟨hm, h⟩ := h
  have key : ∀ i o, i < m → ops[i]? = some o → (o.dst = some (slot ops i) ∧ slot ops i < n ∧ (∀ e ∈ o.after, e.on < i) ∧ ∀ g, o.guard = some g → g.1 < i) ∧ ∀ j, j < i → slot ops j ≠ slot ops i := by
    intro i o him ho
    have h1 := List.all_eq_true.1 h i (List.mem_range.2 him)
    rw [ho] at h1
    simp only [Bool.and_eq_true, List.all_eq_true, decide_eq_true_eq, List.mem_range] at h1
    obtain ⟨⟨⟨h2, h3⟩, h5⟩, h4⟩ := h1
    cases hd : o.dst with
    | none => rw [hd] at h2; cases h2
    | some d =>
      rw [hd] at h2
      have hs : slot ops i = d := by simp [slot, ho, hd]
      rw [hs]
      refine ⟨⟨rfl, by simpa using h2, fun e he => h3 e (by simpa using he), fun g hg => by rw [hg] at h5; simpa using h5⟩, fun j hj => by rw [← hs]; exact h4 j hj⟩
  refine ⟨hm, fun i o hi ho => (key i o hi ho).1, fun i j hi hj e => ?_⟩
  rcases Nat.lt_trichotomy i j with hl | hl | hl
  · exact absurd e ((key j _ hj (Array.getElem?_eq_getElem (by omega))).2 i hl)
  · exact hl
  · exact absurd e.symm ((key i _ hi (Array.getElem?_eq_getElem (by omega))).2 j hl)
section
variable {P : Program} {ops : Array Oper} {Q : Exit → Act → World → Prop}

structure SpecsTo (ops : Array Oper) (m : Nat) (S : Nat → Value → World → Prop) (B : World → Prop) (a0 : Act) (listed : Array Bool) (a : Act) (W : World) : Prop where
  size : listed.size = ops.size
  tmps : a.tmps.size = a0.tmps.size
  defers : a.defers = a0.defers
  base : B W
  old : ∀ t, (∀ i, i < m → slot ops i ≠ t) → a.eval (.tmp t) = a0.eval (.tmp t)
  got : ∀ i, i < m → listed.getD i false = true → S i (a.eval (.tmp (slot ops i))) W
  tail : ∀ i, m ≤ i → i < ops.size → listed.getD i false = false

end



/-- Each of the first m operations has a slot of its own below n, and waits for earlier ones alone. -/
def slotsFr (ops : Array Oper) (m n : Nat) : Bool :=
  decide (m ≤ ops.size) && (List.range m).all fun i => match ops[i]? with
    | some o => (match o.dst with | some d => decide (d < n) | none => false) && o.after.toList.all (fun e => !Region.binds .any e || decide (e.on < i)) && (match o.guard with | some g => decide (g.1 < i) | none => true) && (List.range i).all fun j => decide (slot ops j ≠ slot ops i)
    | none => false
/-- Each of the others waits for all before it. -/
def tailF (ops : Array Oper) (m : Nat) : Bool :=
  (List.range ops.size).all fun i => decide (i < m) || match ops[i]? with
    | some o => ((List.range i).all fun j => o.after.any fun e => decide (e.on = j) && Region.binds .any e) && o.after.toList.all fun e => !Region.binds .any e || decide (e.on < i)
    | none => false
theorem slotsFr_spec {ops : Array Oper} {m n : Nat} (h : slotsFr ops m n = true) : m ≤ ops.size ∧
    (∀ i o, i < m → ops[i]? = some o → o.dst = some (slot ops i) ∧ slot ops i < n ∧ (∀ e ∈ o.after, Region.binds .any e = true → e.on < i) ∧ ∀ g, o.guard = some g → g.1 < i) ∧ ∀ i j, i < m → j < m → slot ops i = slot ops j → i = j := by
  simp only [slotsFr, Bool.and_eq_true, decide_eq_true_eq] at h
  obtain ⟨hm, h⟩ := h
  have key : ∀ i o, i < m → ops[i]? = some o → (o.dst = some (slot ops i) ∧ slot ops i < n ∧ (∀ e ∈ o.after, Region.binds .any e = true → e.on < i) ∧ ∀ g, o.guard = some g → g.1 < i) ∧ ∀ j, j < i → slot ops j ≠ slot ops i := by
    intro i o him ho
    have h1 := List.all_eq_true.1 h i (List.mem_range.2 him)
    rw [ho] at h1
    simp only [Bool.and_eq_true, List.all_eq_true, decide_eq_true_eq, List.mem_range] at h1
    obtain ⟨⟨⟨h2, h3⟩, h5⟩, h4⟩ := h1
    cases hd : o.dst with
    | none => rw [hd] at h2; cases h2
    | some d =>
      rw [hd] at h2
      have hs : slot ops i = d := by simp [slot, ho, hd]
      rw [hs]
      refine ⟨⟨rfl, by simpa using h2, fun e he hb => by have := h3 e (by simpa using he); rw [hb] at this; simpa using this, fun g hg => by rw [hg] at h5; simpa using h5⟩, fun j hj => by rw [← hs]; exact h4 j hj⟩
  refine ⟨hm, fun i o hi ho => (key i o hi ho).1, fun i j hi hj e => ?_⟩
  rcases Nat.lt_trichotomy i j with hl | hl | hl
  · exact absurd e ((key j _ hj (Array.getElem?_eq_getElem (by omega))).2 i hl)
  · exact hl
  · exact absurd e.symm ((key i _ hi (Array.getElem?_eq_getElem (by omega))).2 j hl)
theorem tailF_spec {ops : Array Oper} {m : Nat} (h : tailF ops m = true) (i : Nat) (o : Oper) (hi : m ≤ i) (ho : ops[i]? = some o) : (∀ j, j < i → ∃ e, e ∈ o.after ∧ e.on = j ∧ Region.binds .any e = true) ∧ ∀ e ∈ o.after, Region.binds .any e = true → e.on < i := by
  have h1 := List.all_eq_true.1 h i (List.mem_range.2 (Array.getElem?_eq_some_iff.1 ho).1)
  rw [ho] at h1
  simp only [Bool.or_eq_true, decide_eq_true_eq, Bool.and_eq_true, List.all_eq_true, List.mem_range] at h1
  rcases h1 with h1 | ⟨h1, h2⟩
  · omega
  · refine ⟨fun j hj => ?_, fun e he hb => by have := h2 e (by simpa using he); rw [hb] at this; simpa using this⟩
    obtain ⟨e, he, hb⟩ := Array.any_eq_true'.1 (h1 j hj)
    simp only [Bool.and_eq_true, decide_eq_true_eq] at hb
    exact ⟨e, he, hb⟩

section
variable {P : Program} {ops : Array Oper} {Q : Exit → Act → World → Prop}

theorem wpAny_tailF {m : Nat} (ht : tailF ops m = true) : ∀ (fuel k : Nat) (listed : Array Bool) (a : Act) (w : World), listed.size = ops.size → m ≤ k → k ≤ ops.size → ops.size - k ≤ fuel → (∀ j, j < k → listed.getD j false = true) →
    (∀ j, k ≤ j → j < ops.size → listed.getD j false = false) → wpList P ops Q (ops.toList.drop k) a w → wpAny P .any ops Q fuel listed a w := by
  intro fuel
  induction fuel with
  | zero =>
    intro k listed a w hsz hmk hk hf h1 h2 H
    obtain rfl : k = ops.size := by omega
    rw [List.drop_eq_nil_of_le (by simp)] at H
    refine wpAny_done (List.eq_nil_iff_forall_not_mem.2 fun i hi => ?_) H 0
    obtain ⟨g1, o, ho, _⟩ := mem_ready.1 hi
    have hil := (Array.getElem?_eq_some_iff.1 ho).1
    rw [getD_two (by rw [hsz]; exact hil), h1 i hil] at g1
    cases g1
  | succ fuel ih =>
    intro k listed a w hsz hmk hk hf h1 h2 H
    rcases Nat.lt_or_ge k ops.size with hlt | hge
    · have ho := Array.getElem?_eq_getElem hlt
      have hd : ops.toList.drop k = ops[k] :: ops.toList.drop (k + 1) := by
        rw [List.drop_eq_getElem_cons (by simpa using hlt)]
        simp
      rw [hd] at H
      have hkr : k ∈ Region.ready .any ops listed := mem_ready.2 ⟨by rw [getD_two (by rw [hsz]; exact hlt)]; exact h2 k (Nat.le_refl _) hlt, _, ho, fun e he hb => h1 _ ((tailF_spec ht k _ hmk ho).2 e he hb)⟩
      refine ⟨fun e => absurd (e ▸ hkr) (by simp), fun i hi => ?_⟩
      obtain ⟨g1, o, hoi, haft⟩ := mem_ready.1 hi
      have hil := (Array.getElem?_eq_some_iff.1 hoi).1
      have hik : i = k := by
        rcases Nat.lt_trichotomy i k with hl | hl | hl
        · rw [getD_two (by rw [hsz]; exact hil), h1 i hl] at g1
          cases g1
        · exact hl
        · obtain ⟨e, he, hon, hb⟩ := (tailF_spec ht i o (by omega) hoi).1 k hl
          have := haft e he hb
          rw [hon, h2 k (Nat.le_refl _) hlt] at this
          cases this
      subst hik
      have next : ∀ a' w', wpList P ops Q (ops.toList.drop (i + 1)) a' w' → wpAny P .any ops Q fuel (listed.setIfInBounds i true) a' w' := fun a' w' h => by
        refine ih (i + 1) _ a' w' (by simp [hsz]) (by omega) hlt (by omega) (fun j hj => ?_) (fun j hj hjl => ?_) h
        · by_cases e : i = j
          · subst e
            have : i < listed.size := by rw [hsz]; exact hlt
            simp [this]
          · rw [getD_set_ne false e]
            exact h1 j (by omega)
        · rw [getD_set_ne false (by omega)]
          exact h2 j (by omega) hjl
      unfold wpOp
      rw [ho]
      simp only [wpList] at H
      simp only []
      split
      · rename_i hw
        rw [if_pos hw] at H
        exact H.imp (Oper.wp_mono next) id
      · rename_i hw
        rw [if_neg hw] at H
        exact next _ _ H
    · obtain rfl : k = ops.size := by omega
      rw [List.drop_eq_nil_of_le (by simp)] at H
      refine wpAny_done (List.eq_nil_iff_forall_not_mem.2 fun i hi => ?_) H _
      obtain ⟨g1, o, ho, _⟩ := mem_ready.1 hi
      have hil := (Array.getElem?_eq_some_iff.1 ho).1
      rw [getD_two (by rw [hsz]; exact hil), h1 i hil] at g1
      cases g1

structure SpecsFr (ops : Array Oper) (m : Nat) (S : Nat → Value → World → Prop) (B : World → Prop) (a0 : Act) (listed : Array Bool) (a : Act) (W : World) : Prop where
  size : listed.size = ops.size
  tmps : a.tmps.size = a0.tmps.size
  defers : a.defers = a0.defers
  base : B W
  old : ∀ t, (∀ i, i < m → slot ops i ≠ t) → a.eval (.tmp t) = a0.eval (.tmp t)
  got : ∀ i, i < m → listed.getD i false = true → S i (a.eval (.tmp (slot ops i))) W
  tail : ∀ i, m ≤ i → i < ops.size → listed.getD i false = false

theorem wp_region_specs_free {id : Nat} {a : Act} {w : World} (m : Nat) (S : Nat → Value → World → Prop) (B : World → Prop) (hm : P.follows .mixedOrders = true) (hs : slotsFr ops m a.tmps.size = true) (ht : tailF ops m = true)
    (hB0 : B { w with drawn := w.drawn + 1 }) (hBg : ∀ W W', B W → Below W.heap.size W W' → B W') (hSg : ∀ i v W W', S i v W → Below W.heap.size W W' → S i v W')
    (D : Nat → Tmp) (hD : ((List.range m).all fun i => decide (slot ops i = D i)) = true)
    (step : ∀ (i : Nat) (o : Oper), i < m → ops[i]? = some o → ∀ (a' : Act) (W : World), B W → a'.tmps.size = a.tmps.size → (∀ t, ((List.range m).all fun i => decide (D i ≠ t)) = true → a'.eval (.tmp t) = a.eval (.tmp t)) →
      (∀ j, (o.after.any fun e => decide (e.on = j) && Region.binds .any e) = true → S j (a'.eval (.tmp (D j))) W) →
      (∀ j b, o.guard = some (j, b) → a'.eval (.tmp (D j)) = .bool b) ∧ o.wp P a' W (fun a'' W' => ∃ v, a'' = a'.put o.dst v ∧ S i v W' ∧ Below W.heap.size W W') Q)
    (done : ∀ (a' : Act) (W : World), B W → a'.tmps.size = a.tmps.size → a'.defers = a.defers → (∀ t, ((List.range m).all fun i => decide (D i ≠ t)) = true → a'.eval (.tmp t) = a.eval (.tmp t)) →
      (∀ i, i < m → S i (a'.eval (.tmp (D i))) W) → wpList P ops Q (ops.toList.drop m) a' W) : (Code.region id ops true).wp P Q a w := by
  obtain ⟨hmo, hd, hap⟩ := slotsFr_spec hs
  have hD' : ∀ i, i < m → slot ops i = D i := fun i hi => by simpa using List.all_eq_true.1 hD i (List.mem_range.2 hi)
  have hoT : ∀ t, ((List.range m).all fun i => decide (D i ≠ t)) = true → ∀ i, i < m → slot ops i ≠ t := fun t ht i hi => by
    rw [hD' i hi]
    simpa using List.all_eq_true.1 ht i (List.mem_range.2 hi)
  refine wp_region_any hm ?_
  have aux : ∀ (fuel : Nat) (listed : Array Bool) (a' : Act) (W : World), SpecsFr ops m S B a listed a' W → (List.range m).countP (fun i => !listed.getD i true) + (ops.size - m) ≤ fuel → wpAny P .any ops Q fuel listed a' W := by
    intro fuel
    induction fuel with
    | zero =>
      intro listed a' W h hc
      have h0 : (List.range m).countP (fun i => !listed.getD i true) = 0 := by omega
      have all : ∀ i, i < m → listed.getD i false = true := fun i hi => by
        have := List.countP_eq_zero.1 h0 i (List.mem_range.2 hi)
        rw [getD_two (by rw [h.size]; omega)] at this
        simpa using this
      exact wpAny_tailF ht 0 m listed a' W h.size (Nat.le_refl _) hmo (by omega) all h.tail (done a' W h.base h.tmps h.defers (fun t ht => h.old t (hoT t ht)) fun i hi => by rw [← hD' i hi]; exact h.got i hi (all i hi))
    | succ fuel ih =>
      intro listed a' W h hc
      by_cases hall : ∀ i, i < m → listed.getD i false = true
      · exact wpAny_tailF ht _ m listed a' W h.size (Nat.le_refl _) hmo (by omega) hall h.tail (done a' W h.base h.tmps h.defers (fun t ht => h.old t (hoT t ht)) fun i hi => by rw [← hD' i hi]; exact h.got i hi (hall i hi))
      · -- the least one that is not listed is ready
        have hne : Region.ready .any ops listed ≠ [] := by
          intro hr
          apply hall
          have all : ∀ n i, i ≤ n → i < m → listed.getD i false = true := by
            intro n
            induction n using Nat.strongRecOn with
            | _ n ih2 =>
              intro i hin hi
              cases hl : listed.getD i false with
              | true => rfl
              | false =>
                exfalso
                have hil : i < ops.size := by omega
                have : i ∈ Region.ready .any ops listed := mem_ready.2 ⟨by rw [getD_two (by rw [h.size]; exact hil), hl], _, Array.getElem?_eq_getElem hil, fun e he hb => by
                  have := (hd i _ hi (Array.getElem?_eq_getElem hil)).2.2.1 e he hb
                  exact ih2 e.on (by omega) e.on (Nat.le_refl _) (by omega)⟩
                rw [hr] at this
                cases this
          exact fun i hi => all i i (Nat.le_refl _) hi
        refine ⟨fun e => absurd e hne, fun i hi => ?_⟩
        obtain ⟨h1, o, ho, haft⟩ := mem_ready.1 hi
        have hil := (Array.getElem?_eq_some_iff.1 ho).1
        have him : i < m := by
          rcases Nat.lt_or_ge i m with hl | hl
          · exact hl
          · exfalso
            apply hall
            intro j hj
            obtain ⟨e, he, hon, hb⟩ := (tailF_spec ht i o hl ho).1 j (by omega)
            have := haft e he hb
            rw [hon] at this
            exact this
        obtain ⟨hg, hp⟩ := step i o him ho a' W h.base h.tmps (fun t ht => h.old t (hoT t ht)) fun j hj => by
          obtain ⟨e, he, hb⟩ := Array.any_eq_true'.1 hj
          simp only [Bool.and_eq_true, decide_eq_true_eq] at hb
          obtain ⟨rfl, hb⟩ := hb
          have hlt : e.on < m := by have := (hd i o him ho).2.2.1 e he hb; omega
          rw [← hD' _ hlt]
          exact h.got e.on hlt (haft e he hb)
        have hw : Region.wanted o (yielded ops a'.tmps) = true := wanted_of (fun g hg => by
            have hlt : g.1 < m := by have := (hd i o him ho).2.2.2 g hg; omega
            exact ⟨_, Array.getElem?_eq_getElem (by omega), (hd _ _ hlt (Array.getElem?_eq_getElem (by omega))).1⟩) fun j b hgb => by
          have hlt : j < m := by have := (hd i o him ho).2.2.2 _ hgb; simp at this; omega
          rw [hD' _ hlt]
          exact hg j b hgb
        unfold wpOp
        rw [ho]
        simp only [hw, if_true]
        refine .inl (Oper.wp_mono (fun a'' W' hh => ?_) hp)
        obtain ⟨v, rfl, hS, hb⟩ := hh
        rw [(hd i o him ho).1]
        refine ih _ _ _ ⟨by simp [h.size], by simp [Act.put, h.tmps], h.defers, hBg _ _ h.base hb, fun t ht => ?_, fun j hj hl => ?_, fun j hj hjl => ?_⟩ ?_
        · rw [eval_put_other (Ne.symm (ht i him))]
          exact h.old t ht
        · by_cases e : i = j
          · subst e
            rw [eval_put_same (by rw [h.tmps]; exact (hd i o him ho).2.1)]
            exact hS
          · rw [eval_put_other (fun e' => e (hap i j him hj e'.symm))]
            rw [getD_set_ne false e] at hl
            exact hSg _ _ _ _ (h.got j hj hl) hb
        · rw [getD_set_ne false (by omega)]
          exact h.tail j hj hjl
        · have : (List.range m).countP (fun k => !(listed.setIfInBounds i true).getD k true) < (List.range m).countP (fun k => !listed.getD k true) := by
            refine countP_step _ _ i _ (fun y hy => ?_) (List.mem_range.2 him) (by simp [h1]) ?_
            · by_cases e : i = y
              · subst e; simp [h1]
              · rw [getD_set_ne true e] at hy; exact hy
            · have : i < listed.size := by rw [h.size]; exact hil
              simp [this]
          omega
  exact aux ops.size _ a _ ⟨by simp, rfl, rfl, hB0, fun _ _ => rfl, fun i hi hl => (by rw [getD_replicate_false] at hl; cases hl), fun i _ _ => getD_replicate_false _ _⟩ (by
    have := List.countP_le_length (p := fun i => !(Array.replicate ops.size false).getD i true) (l := List.range m)
    simp only [List.length_range] at this
    omega)

/-- The slots of l get their values, one behind the other. -/
def puts (a : Act) (l : List (Tmp × Value)) : Act := l.foldl (fun a x => a.put (some x.1) x.2) a
theorem puts_size (l : List (Tmp × Value)) : ∀ a : Act, (puts a l).tmps.size = a.tmps.size ∧ (puts a l).defers = a.defers := by
  induction l with
  | nil => exact fun a => ⟨rfl, rfl⟩
  | cons x l ih => exact fun a => ⟨by rw [show puts a (x :: l) = puts (a.put (some x.1) x.2) l from rfl, (ih _).1]; simp [Act.put], (ih _).2⟩
theorem puts_eval (l : List (Tmp × Value)) : ∀ (a a' : Act), a'.tmps.size = a.tmps.size → (∀ x, x ∈ l → x.1 < a.tmps.size ∧ a'.eval (.tmp x.1) = x.2) → (∀ t, t ∉ l.map (·.1) → a'.eval (.tmp t) = a.eval (.tmp t)) → ∀ t, a'.eval (.tmp t) = (puts a l).eval (.tmp t) := by
  induction l with
  | nil => exact fun a a' _ _ h t => h t (by simp)
  | cons x l ih =>
    intro a a' hsz h1 h2 t
    refine ih (a.put (some x.1) x.2) a' (by simp [Act.put, hsz]) (fun y hy => ?_) (fun t ht => ?_) t
    · have := h1 y (List.mem_cons_of_mem _ hy)
      exact ⟨by simpa [Act.put] using this.1, this.2⟩
    · by_cases e : t = x.1
      · subst e
        have := h1 x List.mem_cons_self
        rw [eval_put_same this.1]
        exact this.2
      · rw [eval_put_other e]
        exact h2 t (by simp only [List.map_cons, List.mem_cons, not_or]; exact ⟨e, ht⟩)
/-- An activation whose slots all are known. -/
theorem act_puts {a a' : Act} {l : List (Tmp × Value)} (hsz : a'.tmps.size = a.tmps.size) (hdf : a'.defers = a.defers) (h1 : ∀ x, x ∈ l → x.1 < a.tmps.size ∧ a'.eval (.tmp x.1) = x.2) (h2 : ∀ t, t ∉ l.map (·.1) → a'.eval (.tmp t) = a.eval (.tmp t)) : a' = puts a l := by
  have he := puts_eval l a a' hsz h1 h2
  have hs := puts_size l a
  obtain ⟨tm, df⟩ := a'
  obtain ⟨tm2, df2, hp⟩ : ∃ tm2 df2, puts a l = ⟨tm2, df2⟩ := ⟨_, _, rfl⟩
  rw [hp] at he hs ⊢
  have hdf2 : df = df2 := hdf.trans hs.2.symm
  subst hdf2
  congr 1
  have hsz2 : tm.size = tm2.size := hsz.trans hs.1.symm
  refine Array.ext hsz2 fun i h1 h2 => ?_
  have := he i
  simpa [Act.eval, h1, h2] using this
end



/-- Each operation before the tail is waited for by a later one, or by the tail's first; each of the tail's waits for the one before it. -/
def tailS (ops : Array Oper) (m : Nat) : Bool :=
  ((List.range m).all fun j => (List.range (m + 1)).any fun k => decide (j < k) && Region.waitsFor .any ops k j) &&
  (List.range ops.size).all fun i => decide (i < m) || match ops[i]? with
    | some o => (decide (i = m) || Region.waitsFor .any ops i (i - 1)) && o.after.toList.all fun e => decide (e.on < i)
    | none => false
theorem tailS_spec {ops : Array Oper} {m : Nat} (h : tailS ops m = true) (i : Nat) (o : Oper) (hi : m ≤ i) (ho : ops[i]? = some o) : (m < i → ∃ e, e ∈ o.after ∧ e.on = i - 1 ∧ Region.binds .any e = true) ∧ ∀ e ∈ o.after, e.on < i := by
  simp only [tailS, Bool.and_eq_true] at h
  have h1 := List.all_eq_true.1 h.2 i (List.mem_range.2 (Array.getElem?_eq_some_iff.1 ho).1)
  rw [ho] at h1
  simp only [Bool.or_eq_true, decide_eq_true_eq, Bool.and_eq_true, List.all_eq_true] at h1
  rcases h1 with h1 | ⟨h1, h2⟩
  · omega
  · refine ⟨fun hlt => ?_, fun e he => h2 e (by simpa using he)⟩
    rcases h1 with h1 | h1
    · omega
    · obtain ⟨oj, hj, e, he, hb, hon⟩ := Region.waitsFor_spec h1
      rw [ho] at hj
      cases hj
      exact ⟨e, he, hon, hb⟩
theorem sink_spec {ops : Array Oper} {m : Nat} (h : tailS ops m = true) {listed : Array Bool} (hc : ∀ (k : Nat) (ok : Oper), k < m → ops[k]? = some ok → listed.getD k false = true → ∀ e ∈ ok.after, Region.binds .any e = true → listed.getD e.on false = true)
    (hm : ∀ (om : Oper), ops[m]? = some om → ∀ e ∈ om.after, Region.binds .any e = true → listed.getD e.on false = true) : ∀ (d j : Nat), m - j ≤ d → j < m → listed.getD j false = true := by
  simp only [tailS, Bool.and_eq_true] at h
  intro d
  induction d with
  | zero => intro j hd hj; omega
  | succ d ih =>
    intro j hd hj
    obtain ⟨k, hk, hk2⟩ := List.any_eq_true.1 (List.all_eq_true.1 h.1 j (List.mem_range.2 hj))
    simp only [Bool.and_eq_true, decide_eq_true_eq] at hk2
    have hkm := List.mem_range.1 hk
    obtain ⟨ok, hok, e, he, hb, hon⟩ := Region.waitsFor_spec hk2.2
    rw [← hon]
    by_cases e2 : k = m
    · subst e2
      exact hm ok hok e he hb
    · exact hc k ok (by omega) hok (ih k (by omega) (by omega)) e he hb

section
variable {P : Program} {ops : Array Oper} {Q : Exit → Act → World → Prop}

theorem wpAny_tailS {m : Nat} (ht : tailS ops m = true) : ∀ (fuel k : Nat) (listed : Array Bool) (a : Act) (w : World), listed.size = ops.size → m ≤ k → k ≤ ops.size → ops.size - k ≤ fuel → (∀ j, j < k → listed.getD j false = true) →
    (∀ j, k ≤ j → j < ops.size → listed.getD j false = false) → wpList P ops Q (ops.toList.drop k) a w → wpAny P .any ops Q fuel listed a w := by
  intro fuel
  induction fuel with
  | zero =>
    intro k listed a w hsz hmk hk hf h1 h2 H
    obtain rfl : k = ops.size := by omega
    rw [List.drop_eq_nil_of_le (by simp)] at H
    refine wpAny_done (List.eq_nil_iff_forall_not_mem.2 fun i hi => ?_) H 0
    obtain ⟨g1, o, ho, _⟩ := mem_ready.1 hi
    have hil := (Array.getElem?_eq_some_iff.1 ho).1
    rw [getD_two (by rw [hsz]; exact hil), h1 i hil] at g1
    cases g1
  | succ fuel ih =>
    intro k listed a w hsz hmk hk hf h1 h2 H
    rcases Nat.lt_or_ge k ops.size with hlt | hge
    · have ho := Array.getElem?_eq_getElem hlt
      have hd : ops.toList.drop k = ops[k] :: ops.toList.drop (k + 1) := by
        rw [List.drop_eq_getElem_cons (by simpa using hlt)]
        simp
      rw [hd] at H
      have hkr : k ∈ Region.ready .any ops listed := mem_ready.2 ⟨by rw [getD_two (by rw [hsz]; exact hlt)]; exact h2 k (Nat.le_refl _) hlt, _, ho, fun e he _ => h1 _ ((tailS_spec ht k _ hmk ho).2 e he)⟩
      refine ⟨fun e => absurd (e ▸ hkr) (by simp), fun i hi => ?_⟩
      obtain ⟨g1, o, hoi, haft⟩ := mem_ready.1 hi
      have hil := (Array.getElem?_eq_some_iff.1 hoi).1
      have hik : i = k := by
        rcases Nat.lt_trichotomy i k with hl | hl | hl
        · rw [getD_two (by rw [hsz]; exact hil), h1 i hl] at g1
          cases g1
        · exact hl
        · obtain ⟨e, he, hon, hb⟩ := (tailS_spec ht i o (by omega) hoi).1 (by omega)
          have := haft e he hb
          rw [hon, h2 (i - 1) (by omega) (by omega)] at this
          cases this
      subst hik
      have next : ∀ a' w', wpList P ops Q (ops.toList.drop (i + 1)) a' w' → wpAny P .any ops Q fuel (listed.setIfInBounds i true) a' w' := fun a' w' h => by
        refine ih (i + 1) _ a' w' (by simp [hsz]) (by omega) hlt (by omega) (fun j hj => ?_) (fun j hj hjl => ?_) h
        · by_cases e : i = j
          · subst e
            have : i < listed.size := by rw [hsz]; exact hlt
            simp [this]
          · rw [getD_set_ne false e]
            exact h1 j (by omega)
        · rw [getD_set_ne false (by omega)]
          exact h2 j (by omega) hjl
      unfold wpOp
      rw [ho]
      simp only [wpList] at H
      simp only []
      split
      · rename_i hw
        rw [if_pos hw] at H
        exact H.imp (Oper.wp_mono next) id
      · rename_i hw
        rw [if_neg hw] at H
        exact next _ _ H
    · obtain rfl : k = ops.size := by omega
      rw [List.drop_eq_nil_of_le (by simp)] at H
      refine wpAny_done (List.eq_nil_iff_forall_not_mem.2 fun i hi => ?_) H _
      obtain ⟨g1, o, ho, _⟩ := mem_ready.1 hi
      have hil := (Array.getElem?_eq_some_iff.1 ho).1
      rw [getD_two (by rw [hsz]; exact hil), h1 i hil] at g1
      cases g1

structure SpecsSi (ops : Array Oper) (m : Nat) (S : Nat → Value → World → Prop) (B : World → Prop) (a0 : Act) (listed : Array Bool) (a : Act) (W : World) : Prop where
  size : listed.size = ops.size
  tmps : a.tmps.size = a0.tmps.size
  defers : a.defers = a0.defers
  base : B W
  old : ∀ t, (∀ i, i < m → slot ops i ≠ t) → a.eval (.tmp t) = a0.eval (.tmp t)
  got : ∀ i, i < m → listed.getD i false = true → S i (a.eval (.tmp (slot ops i))) W
  tail : ∀ i, m ≤ i → i < ops.size → listed.getD i false = false
  closed : ∀ (k : Nat) (ok : Oper), k < m → ops[k]? = some ok → listed.getD k false = true → ∀ e ∈ ok.after, Region.binds .any e = true → listed.getD e.on false = true

theorem wp_region_specs_sink {id : Nat} {a : Act} {w : World} (m : Nat) (S : Nat → Value → World → Prop) (B : World → Prop) (hm : P.follows .mixedOrders = true) (hs : slotsTo ops m a.tmps.size = true) (ht : tailS ops m = true)
    (hB0 : B { w with drawn := w.drawn + 1 }) (hBg : ∀ W W', B W → Below W.heap.size W W' → B W') (hSg : ∀ i v W W', S i v W → Below W.heap.size W W' → S i v W')
    (D : Nat → Tmp) (hD : ((List.range m).all fun i => decide (slot ops i = D i)) = true)
    (step : ∀ (i : Nat) (o : Oper), i < m → ops[i]? = some o → ∀ (a' : Act) (W : World), B W → a'.tmps.size = a.tmps.size → (∀ t, ((List.range m).all fun i => decide (D i ≠ t)) = true → a'.eval (.tmp t) = a.eval (.tmp t)) →
      (∀ j, (o.after.any fun e => decide (e.on = j) && Region.binds .any e) = true → S j (a'.eval (.tmp (D j))) W) →
      (∀ j b, o.guard = some (j, b) → a'.eval (.tmp (D j)) = .bool b) ∧ o.wp P a' W (fun a'' W' => ∃ v, a'' = a'.put o.dst v ∧ S i v W' ∧ Below W.heap.size W W') Q)
    (done : ∀ (a' : Act) (W : World), B W → a'.tmps.size = a.tmps.size → a'.defers = a.defers → (∀ t, ((List.range m).all fun i => decide (D i ≠ t)) = true → a'.eval (.tmp t) = a.eval (.tmp t)) →
      (∀ i, i < m → S i (a'.eval (.tmp (D i))) W) → wpList P ops Q (ops.toList.drop m) a' W) : (Code.region id ops true).wp P Q a w := by
  obtain ⟨hmo, hd, hap⟩ := slotsTo_spec hs
  have hD' : ∀ i, i < m → slot ops i = D i := fun i hi => by simpa using List.all_eq_true.1 hD i (List.mem_range.2 hi)
  have hoT : ∀ t, ((List.range m).all fun i => decide (D i ≠ t)) = true → ∀ i, i < m → slot ops i ≠ t := fun t ht i hi => by
    rw [hD' i hi]
    simpa using List.all_eq_true.1 ht i (List.mem_range.2 hi)
  refine wp_region_any hm ?_
  have aux : ∀ (fuel : Nat) (listed : Array Bool) (a' : Act) (W : World), SpecsSi ops m S B a listed a' W → (List.range m).countP (fun i => !listed.getD i true) + (ops.size - m) ≤ fuel → wpAny P .any ops Q fuel listed a' W := by
    intro fuel
    induction fuel with
    | zero =>
      intro listed a' W h hc
      have h0 : (List.range m).countP (fun i => !listed.getD i true) = 0 := by omega
      have all : ∀ i, i < m → listed.getD i false = true := fun i hi => by
        have := List.countP_eq_zero.1 h0 i (List.mem_range.2 hi)
        rw [getD_two (by rw [h.size]; omega)] at this
        simpa using this
      exact wpAny_tailS ht 0 m listed a' W h.size (Nat.le_refl _) hmo (by omega) all h.tail (done a' W h.base h.tmps h.defers (fun t ht => h.old t (hoT t ht)) fun i hi => by rw [← hD' i hi]; exact h.got i hi (all i hi))
    | succ fuel ih =>
      intro listed a' W h hc
      by_cases hall : ∀ i, i < m → listed.getD i false = true
      · exact wpAny_tailS ht _ m listed a' W h.size (Nat.le_refl _) hmo (by omega) hall h.tail (done a' W h.base h.tmps h.defers (fun t ht => h.old t (hoT t ht)) fun i hi => by rw [← hD' i hi]; exact h.got i hi (hall i hi))
      · -- the least one that is not listed is ready
        have hne : Region.ready .any ops listed ≠ [] := by
          intro hr
          apply hall
          have all : ∀ n i, i ≤ n → i < m → listed.getD i false = true := by
            intro n
            induction n using Nat.strongRecOn with
            | _ n ih2 =>
              intro i hin hi
              cases hl : listed.getD i false with
              | true => rfl
              | false =>
                exfalso
                have hil : i < ops.size := by omega
                have : i ∈ Region.ready .any ops listed := mem_ready.2 ⟨by rw [getD_two (by rw [h.size]; exact hil), hl], _, Array.getElem?_eq_getElem hil, fun e he _ => by
                  have := (hd i _ hi (Array.getElem?_eq_getElem hil)).2.2.1 e he
                  exact ih2 e.on (by omega) e.on (Nat.le_refl _) (by omega)⟩
                rw [hr] at this
                cases this
          exact fun i hi => all i i (Nat.le_refl _) hi
        refine ⟨fun e => absurd e hne, fun i hi => ?_⟩
        obtain ⟨h1, o, ho, haft⟩ := mem_ready.1 hi
        have hil := (Array.getElem?_eq_some_iff.1 ho).1
        have him : i < m := by
          rcases Nat.lt_or_ge i m with hl | hl
          · exact hl
          · exfalso
            apply hall
            rcases Nat.lt_or_ge m i with hmi | hmi
            · obtain ⟨e, he, hon, hb⟩ := (tailS_spec ht i o hl ho).1 hmi
              have := haft e he hb
              rw [hon, h.tail (i - 1) (by omega) (by omega)] at this
              cases this
            · obtain rfl : i = m := by omega
              exact fun j hj => sink_spec ht h.closed (fun om hom e he hb => by rw [ho] at hom; cases hom; exact haft e he hb) _ j (Nat.le_refl _) hj
        obtain ⟨hg, hp⟩ := step i o him ho a' W h.base h.tmps (fun t ht => h.old t (hoT t ht)) fun j hj => by
          obtain ⟨e, he, hb⟩ := Array.any_eq_true'.1 hj
          simp only [Bool.and_eq_true, decide_eq_true_eq] at hb
          obtain ⟨rfl, hb⟩ := hb
          have hlt : e.on < m := by have := (hd i o him ho).2.2.1 e he; omega
          rw [← hD' _ hlt]
          exact h.got e.on hlt (haft e he hb)
        have hw : Region.wanted o (yielded ops a'.tmps) = true := wanted_of (fun g hg => by
            have hlt : g.1 < m := by have := (hd i o him ho).2.2.2 g hg; omega
            exact ⟨_, Array.getElem?_eq_getElem (by omega), (hd _ _ hlt (Array.getElem?_eq_getElem (by omega))).1⟩) fun j b hgb => by
          have hlt : j < m := by have := (hd i o him ho).2.2.2 _ hgb; simp at this; omega
          rw [hD' _ hlt]
          exact hg j b hgb
        unfold wpOp
        rw [ho]
        simp only [hw, if_true]
        refine .inl (Oper.wp_mono (fun a'' W' hh => ?_) hp)
        obtain ⟨v, rfl, hS, hb⟩ := hh
        rw [(hd i o him ho).1]
        refine ih _ _ _ ⟨by simp [h.size], by simp [Act.put, h.tmps], h.defers, hBg _ _ h.base hb, fun t ht => ?_, fun j hj hl => ?_, fun j hj hjl => ?_, fun k ok hk hok hl e he hb2 => ?_⟩ ?_
        · rw [eval_put_other (Ne.symm (ht i him))]
          exact h.old t ht
        · by_cases e : i = j
          · subst e
            rw [eval_put_same (by rw [h.tmps]; exact (hd i o him ho).2.1)]
            exact hS
          · rw [eval_put_other (fun e' => e (hap i j him hj e'.symm))]
            rw [getD_set_ne false e] at hl
            exact hSg _ _ _ _ (h.got j hj hl) hb
        · rw [getD_set_ne false (by omega)]
          exact h.tail j hj hjl
        · have up : ∀ j, listed.getD j false = true → (listed.setIfInBounds i true).getD j false = true := fun j hj => by
            by_cases e : i = j
            · subst e
              have : i < listed.size := by rw [h.size]; exact hil
              simp [this]
            · rw [getD_set_ne false e]; exact hj
          by_cases e2 : i = k
          · subst e2
            rw [ho] at hok
            cases hok
            exact up _ (haft e he hb2)
          · rw [getD_set_ne false e2] at hl
            exact up _ (h.closed k ok hk hok hl e he hb2)
        · have : (List.range m).countP (fun k => !(listed.setIfInBounds i true).getD k true) < (List.range m).countP (fun k => !listed.getD k true) := by
            refine countP_step _ _ i _ (fun y hy => ?_) (List.mem_range.2 him) (by simp [h1]) ?_
            · by_cases e : i = y
              · subst e; simp [h1]
              · rw [getD_set_ne true e] at hy; exact hy
            · have : i < listed.size := by rw [h.size]; exact hil
              simp [this]
          omega
  exact aux ops.size _ a _ ⟨by simp, rfl, rfl, hB0, fun _ _ => rfl, fun i hi hl => (by rw [getD_replicate_false] at hl; cases hl), fun i _ _ => getD_replicate_false _ _, fun k ok _ _ hl => (by rw [getD_replicate_false] at hl; cases hl)⟩ (by
    have := List.countP_le_length (p := fun i => !(Array.replicate ops.size false).getD i true) (l := List.range m)
    simp only [List.length_range] at this
    omega)
end



section
variable {P : Program} {ops : Array Oper} {Q : Exit → Act → World → Prop}
/-- An operation's guard fails if the slot of the one that it waits for says otherwise. -/
theorem unwanted_of {o : Oper} {a : Act} {j : Nat} {b : Bool} (hg : o.guard = some (j, b)) (hd : ∃ o', ops[j]? = some o' ∧ o'.dst = some (slot ops j)) (h : a.eval (.tmp (slot ops j)) ≠ .bool b) : Region.wanted o (yielded ops a.tmps) = false := by
  obtain ⟨o', ho, hd'⟩ := hd
  unfold Region.wanted
  rw [hg]
  simp only [yielded, ho, hd', Option.bind_some]
  simp only [Act.eval, Array.getD_eq_getD_getElem?] at h
  cases hx : a.tmps[slot ops j]? with
  | none => rfl
  | some x =>
    rw [hx] at h
    simp only [Option.getD_some] at h
    cases x <;> first | rfl | (rename_i c; cases c <;> cases b <;> first | rfl | exact absurd rfl h)
theorem wp_region_maybe {id : Nat} {a : Act} {w : World} (S : Nat → Value → World → Prop) (B : World → Prop) (hm : P.follows .mixedOrders = true) (hs : slotsB ops a.tmps.size = true)
    (hB0 : B { w with drawn := w.drawn + 1 }) (hBg : ∀ W W', B W → Below W.heap.size W W' → B W') (hSg : ∀ i v W W', S i v W → Below W.heap.size W W' → S i v W')
    (D : Nat → Tmp) (hD : ((List.range ops.size).all fun i => decide (slot ops i = D i)) = true)
    (step : ∀ (i : Nat) (o : Oper), ops[i]? = some o → ∀ (a' : Act) (W : World), B W → a'.tmps.size = a.tmps.size → (∀ t, ((List.range ops.size).all fun i => decide (D i ≠ t)) = true → a'.eval (.tmp t) = a.eval (.tmp t)) →
      (∀ j, (o.after.any fun e => decide (e.on = j) && Region.binds .any e) = true → S j (a'.eval (.tmp (D j))) W) →
      ((∀ j b, o.guard = some (j, b) → a'.eval (.tmp (D j)) = .bool b) ∧ o.wp P a' W (fun a'' W' => ∃ v, a'' = a'.put o.dst v ∧ S i v W' ∧ Below W.heap.size W W') Q) ∨
      ((∃ j b, o.guard = some (j, b) ∧ a'.eval (.tmp (D j)) ≠ .bool b) ∧ S i undef W))
    (done : ∀ (a' : Act) (W : World), B W → a'.tmps.size = a.tmps.size → a'.defers = a.defers → (∀ t, ((List.range ops.size).all fun i => decide (D i ≠ t)) = true → a'.eval (.tmp t) = a.eval (.tmp t)) →
      (∀ i, i < ops.size → S i (a'.eval (.tmp (D i))) W) → Q .normal a' W) : (Code.region id ops true).wp P Q a w := by
  obtain ⟨hd, hap⟩ := slotsB_spec hs
  have hD' : ∀ i, i < ops.size → slot ops i = D i := fun i hi => by simpa using List.all_eq_true.1 hD i (List.mem_range.2 hi)
  have hoT : ∀ t, ((List.range ops.size).all fun i => decide (D i ≠ t)) = true → ∀ i, i < ops.size → slot ops i ≠ t := fun t ht i hi => by
    rw [hD' i hi]
    simpa using List.all_eq_true.1 ht i (List.mem_range.2 hi)
  refine wp_region_any hm ?_
  have end_ : ∀ (listed : Array Bool) (a' : Act) (W : World), SpecsAt ops S B a listed a' W → Region.ready .any ops listed = [] → Q .normal a' W := by
    intro listed a' W h hr
    have all : ∀ n i, i ≤ n → i < ops.size → listed.getD i false = true := by
      intro n
      induction n using Nat.strongRecOn with
      | _ n ih =>
        intro i hin hi
        cases hl : listed.getD i false with
        | true => rfl
        | false =>
          exfalso
          have : i ∈ Region.ready .any ops listed := mem_ready.2 ⟨by rw [getD_two (by rw [h.size]; exact hi), hl], _, Array.getElem?_eq_getElem hi, fun e he _ => by
            have := (hd i _ (Array.getElem?_eq_getElem hi)).2.2.1 e he
            exact ih e.on (by omega) e.on (Nat.le_refl _) (by omega)⟩
          rw [hr] at this
          cases this
    exact done a' W h.base h.tmps h.defers (fun t ht => h.old t (hoT t ht)) fun i hi => by rw [← hD' i hi]; exact h.got i hi (all i i (Nat.le_refl _) hi)
  have aux : ∀ (fuel : Nat) (listed : Array Bool) (a' : Act) (W : World), SpecsAt ops S B a listed a' W → (List.range ops.size).countP (fun i => !listed.getD i true) ≤ fuel → wpAny P .any ops Q fuel listed a' W := by
    intro fuel
    induction fuel with
    | zero =>
      intro listed a' W h hc
      have hr : Region.ready .any ops listed = [] := by
        refine List.eq_nil_iff_forall_not_mem.2 fun i hi => ?_
        obtain ⟨h1, o, ho, _⟩ := mem_ready.1 hi
        have h0 : (List.range ops.size).countP (fun i => !listed.getD i true) = 0 := by omega
        have := List.countP_eq_zero.1 h0 i (List.mem_range.2 (Array.getElem?_eq_some_iff.1 ho).1)
        rw [h1] at this
        exact this rfl
      exact ⟨hr, end_ listed a' W h hr⟩
    | succ fuel ih =>
      intro listed a' W h hc
      refine ⟨end_ listed a' W h, fun i hi => ?_⟩
      obtain ⟨h1, o, ho, haft⟩ := mem_ready.1 hi
      have hil := (Array.getElem?_eq_some_iff.1 ho).1
      have hstep := step i o ho a' W h.base h.tmps (fun t ht => h.old t (hoT t ht)) fun j hj => by
        obtain ⟨e, he, hb⟩ := Array.any_eq_true'.1 hj
        simp only [Bool.and_eq_true, decide_eq_true_eq] at hb
        obtain ⟨rfl, hb⟩ := hb
        have hlt : e.on < ops.size := by have := (hd i o ho).2.2.1 e he; omega
        rw [← hD' _ hlt]
        exact h.got e.on hlt (haft e he hb)
      rcases hstep with ⟨hg, hp⟩ | ⟨hg, hp⟩
      · have hw : Region.wanted o (yielded ops a'.tmps) = true := wanted_of (fun g hg => by
            have hlt : g.1 < ops.size := by have := (hd i o ho).2.2.2 g hg; omega
            exact ⟨_, Array.getElem?_eq_getElem hlt, (hd _ _ (Array.getElem?_eq_getElem hlt)).1⟩) fun j b hgb => by
          have hlt : j < ops.size := by have := (hd i o ho).2.2.2 _ hgb; simp at this; omega
          rw [hD' _ hlt]
          exact hg j b hgb
        unfold wpOp
        rw [ho]
        simp only [hw, if_true]
        refine .inl (Oper.wp_mono (fun a'' W' hh => ?_) hp)
        obtain ⟨v, rfl, hS, hb⟩ := hh
        rw [(hd i o ho).1]
        refine ih _ _ _ ⟨by simp [h.size], by simp [Act.put, h.tmps], h.defers, hBg _ _ h.base hb, fun t ht => ?_, fun j hj hl => ?_⟩ ?_
        · rw [eval_put_other (Ne.symm (ht i hil))]
          exact h.old t ht
        · by_cases e : i = j
          · subst e
            rw [eval_put_same (by rw [h.tmps]; exact (hd i o ho).2.1)]
            exact hS
          · rw [eval_put_other (fun e' => e (hap i j hil hj e'.symm))]
            rw [getD_set_ne false e] at hl
            exact hSg _ _ _ _ (h.got j hj hl) hb
        · have : (List.range ops.size).countP (fun k => !(listed.setIfInBounds i true).getD k true) < (List.range ops.size).countP (fun k => !listed.getD k true) := by
            refine countP_step _ _ i _ (fun y hy => ?_) (List.mem_range.2 hil) (by simp [h1]) ?_
            · by_cases e : i = y
              · subst e; simp [h1]
              · rw [getD_set_ne true e] at hy; exact hy
            · have : i < listed.size := by rw [h.size]; exact hil
              simp [this]
          omega
      · have hw : Region.wanted o (yielded ops a'.tmps) = false := by
          obtain ⟨j, b, hgb, hne⟩ := hg
          have hlt : j < ops.size := by have := (hd i o ho).2.2.2 _ hgb; simp at this; omega
          exact unwanted_of hgb ⟨_, Array.getElem?_eq_getElem hlt, (hd _ _ (Array.getElem?_eq_getElem hlt)).1⟩ (by rw [hD' _ hlt]; exact hne)
        unfold wpOp
        rw [ho]
        simp only [hw, Bool.false_eq_true, if_false]
        have hb : Below W.heap.size W W := Below.refl _ W
        have hS := hp
        rw [(hd i o ho).1]
        refine ih _ _ _ ⟨by simp [h.size], by simp [Act.put, h.tmps], h.defers, hBg _ _ h.base hb, fun t ht => ?_, fun j hj hl => ?_⟩ ?_
        · rw [eval_put_other (Ne.symm (ht i hil))]
          exact h.old t ht
        · by_cases e : i = j
          · subst e
            rw [eval_put_same (by rw [h.tmps]; exact (hd i o ho).2.1)]
            exact hS
          · rw [eval_put_other (fun e' => e (hap i j hil hj e'.symm))]
            rw [getD_set_ne false e] at hl
            exact hSg _ _ _ _ (h.got j hj hl) hb
        · have : (List.range ops.size).countP (fun k => !(listed.setIfInBounds i true).getD k true) < (List.range ops.size).countP (fun k => !listed.getD k true) := by
            refine countP_step _ _ i _ (fun y hy => ?_) (List.mem_range.2 hil) (by simp [h1]) ?_
            · by_cases e : i = y
              · subst e; simp [h1]
              · rw [getD_set_ne true e] at hy; exact hy
            · have : i < listed.size := by rw [h.size]; exact hil
              simp [this]
          omega
  exact aux ops.size _ a _ ⟨by simp, rfl, rfl, hB0, fun _ _ => rfl, fun i hi hl => by rw [getD_replicate_false] at hl; cases hl⟩ (by
    have := List.countP_le_length (p := fun i => !(Array.replicate ops.size false).getD i true) (l := List.range ops.size)
    simpa using this)
end

/-- Memory has grown, nothing that was there has turned. -/
def Ext (W W' : World) : Prop := Below W.heap.size W W'

theorem Ext.trans {a b c : World} (h : Ext a b) (g : Ext b c) : Ext a c := Below.trans h (g.mono h.size)

theorem Ext.refl (a : World) : Ext a a := Below.refl _ a

theorem Held.ext {α : Type} {w w' : World} {k : Nat} {enc : α → List Value} {A : Option Addr} {xs : List α} (h : Held w w.heap.size k enc A xs) (e : Ext w w') : Held w' w'.heap.size k enc A xs := (h.kept e (Nat.le_refl _)).wider e.size

theorem row_ext {w w' : World} {g : Nat} {o : Obj} (h : w.heap[g]? = some o) (e : Ext w w') : w'.heap[g]? = some o := (Below.block e g (Array.getElem?_eq_some_iff.1 h).1).trans h

/-- The k-th region of a body. -/
def regionOf : Code → Nat → Option (Array Oper)
  | .region i ops _, k => if i = k then some ops else none
  | .seq a b, k => (regionOf a k).or (regionOf b k)
  | .cond _ a b, k => (regionOf a k).or (regionOf b k)
  | .block _ c, k => regionOf c k
  | .loop c, k => regionOf c k
  | .scope c, k => regionOf c k
  | _, _ => none

theorem op_at {ops : Array Oper} {i : Nat} {o : Oper} {α : Type} (ho : ops[i]? = some o) (f : Oper → α) {x : α} (h : (ops[i]?).map f = some x) : f o = x := by
  rw [ho] at h
  simpa using h

theorem ev {a : Act} {t : Tmp} {v : Value} (h : a.eval (.tmp t) = v) : a.tmps[t]?.getD undef = v := by simpa [Act.eval] using h

theorem bdrewN {B : Nat} {a w : World} (h : Below B a w) (k : Nat) : Below B a (w.drewN k) := h.trans ⟨rfl, rfl, rfl, Nat.le_refl _, fun _ _ => rfl⟩

theorem row_last (w : World) (o : Obj) (g : Nat) (hg : g = w.heap.size) : (w.alloc o).heap[g]? = some o := by subst hg; exact heap_alloc_last w o

theorem row_setCell (w : World) (g o : Nat) (v : Value) (cs : Array Value) (t : TypeId) (fr : Nat × Nat) (h : w.heap[g]? = some (.cells cs t fr)) : (w.setCell ⟨g, o, none⟩ v).heap[g]? = some (.cells (cs.setIfInBounds o v) t fr) := by
  simp [World.setCell, Array.getElem?_modify, h]

theorem row_alloc (w : World) (g : Nat) (ob o : Obj) (h : w.heap[g]? = some ob) : (w.alloc o).heap[g]? = some ob := by
  have hl : g < w.heap.size := (Array.getElem?_eq_some_iff.1 h).1
  show (w.heap.push o)[g]? = _
  rw [Array.getElem?_push, if_neg (by omega), h]

theorem below_setRow {B g : Nat} {v w : World} (h : Below B v w) (hg : B ≤ g) (cs : Array Value) : Below B v (w.setRow g cs) := by
  refine ⟨h.os, h.tape, h.output, by have := h.size; simpa [World.setRow] using this, fun k hk => ?_⟩
  rw [← h.block k hk]
  simp [World.setRow, Array.getElem?_modify]
  omega

theorem row_setRow (w : World) (g : Nat) (cs old : Array Value) (t : TypeId) (fr : Nat × Nat) (h : w.heap[g]? = some (.cells old t fr)) : (w.setRow g cs).heap[g]? = some (.cells cs t fr) := by
  simp [World.setRow, Array.getElem?_modify, h]

theorem ext_alloc (w : World) (o : Obj) : Ext w (w.alloc o) := (Below.refl _ w).alloc (Nat.le_refl _) _

theorem ext_drewN {w W : World} (h : Ext w W) (k : Nat) : Ext w (W.drewN k) := bdrewN h k

theorem ext_grow {W W' : World} (h : W.grownBy W' none) : Ext W W' := (Below.refl _ W).grown h (Nat.le_refl _) fun r e => by cases e

theorem own_block {W : World} {base : Nat} {e : TypeId} {size n : Nat} {v : Value} {xs : List Value} (h : W.ownsRow base e size v n xs) : ∀ r, v.ownBlock = some r → ∃ cs fr, W.heap[r]? = some (.cells cs e fr) := by
  intro r hr
  rcases h.2 with ⟨rfl, _⟩ | ⟨g, cap, cur, rfl, _, hrow, _⟩
  · simp [Value.ownBlock] at hr
  · simp [Value.ownBlock] at hr
    subst hr
    exact ⟨_, _, hrow⟩

theorem heap_set_other (W : World) (p o b : Nat) (v : Value) (hne : b ≠ p) : (W.setCell ⟨p, o, none⟩ v).heap[b]? = W.heap[b]? := by
  simp only [World.setCell]
  rw [Array.getElem?_modify, if_neg (fun e => hne e.symm)]

theorem all_ne_of {m : Nat} {D : Nat → Tmp} {l : List (Tmp × Value)} (hl : (List.range m).map D = l.map (·.1)) {t : Tmp} (ht : t ∉ l.map (·.1)) : ((List.range m).all fun i => decide (D i ≠ t)) = true := by
  rw [List.all_eq_true]
  intro i hi
  rw [← hl] at ht
  simp only [decide_eq_true_eq]
  intro e
  exact ht (e ▸ List.mem_map_of_mem hi)

theorem owns_ext {V Z : World} {base : Nat} {e : TypeId} {size n : Nat} {v : Value} {xs : List Value} (h : V.ownsRow base e size v n xs) (hE : Ext V Z) : Z.ownsRow base e size v n xs := by
  refine ⟨h.1, h.2.imp id ?_⟩
  rintro ⟨g, cap, cur, hv, hg, hc, r⟩
  exact ⟨g, cap, cur, hv, hg, row_ext hc hE, r⟩

theorem wpList_skip {P : Program} {ops : Array Oper} {Q : Exit → Act → World → Prop} {rest : List Oper} {o : Oper} {a : Act} {w w' : World} (hgd : o.guard = none) (hr : (execOp a.eval o).run P w = .ok .skip w')
    (h : wpList P ops Q rest (a.put o.dst undef) w') : wpList P ops Q (o :: rest) a w := by
  simp only [wpList]
  rw [if_pos (by simp [Region.wanted, hgd])]
  left
  unfold Oper.wp
  rw [hr]
  exact h

theorem own_stay {V V' : World} {base : Nat} {e : TypeId} {size n : Nat} {v : Value} {xs : List Value} (h : V.ownsRow base e size v n xs) (hs : ∀ g, v.ownBlock = some g → V'.heap[g]? = V.heap[g]?) : V'.ownsRow base e size v n xs := by
  refine ⟨h.1, h.2.imp id ?_⟩
  rintro ⟨g, cap, cur, rfl, hb, hrow, q⟩
  exact ⟨g, cap, cur, rfl, hb, (hs g rfl).trans hrow, q⟩

theorem flat_at2 {α : Type} (enc : α → List Value) (k : Nat) (hk : ∀ x, (enc x).length = k) : ∀ (ds : List α) (j : Nat) (x : α) (i : Nat) (v : Value), ds[j]? = some x → (enc x)[i]? = some v → (ds.flatMap enc)[j * k + i]? = some v
  | [], _, _, _, _, h, _ => by simp at h
  | d :: ds, 0, x, i, v, h, hi => by
    simp at h
    subst h
    rw [List.flatMap_cons, Nat.zero_mul, Nat.zero_add, List.getElem?_append_left (List.getElem?_eq_some_iff.1 hi).1]
    exact hi
  | d :: ds, j + 1, x, i, v, h, hi => by
    rw [List.flatMap_cons, List.getElem?_append_right (by rw [hk, Nat.succ_mul]; omega), hk, show (j + 1) * k + i - k = j * k + i from by rw [Nat.succ_mul]; omega]
    exact flat_at2 enc k hk ds j x i v (by simpa using h) hi

theorem own_held {α : Type} {W : World} {base k n c : Nat} {e : TypeId} {enc : α → List Value} (hk : ∀ x, (enc x).length = k) {A : Option Addr} {xs : List α} (hx : n = xs.length) (h : W.ownsRow base e k (.slice A n c) n (xs.flatMap enc)) : Held W W.heap.size k enc A xs ∧ n ≤ c := by
  rcases h.2 with ⟨h0, h1⟩ | ⟨g, cap, cur, h0, _, hg, h1, h2, h3, h4⟩
  · cases h0
    exact ⟨.inl (List.eq_nil_of_length_eq_zero hx.symm), Nat.le_refl _⟩
  · cases h0
    refine ⟨.inr ⟨g, 0, rfl, (Array.getElem?_eq_some_iff.1 hg).1, fun j x hj i v hi => ?_⟩, h1⟩
    have h5 := flat_at2 enc k hk xs j x i v hj hi
    refine (cell_of_row _ _ _ _ _ _ hg).trans ?_
    rw [← h4, List.getElem?_take] at h5
    split at h5
    · rw [Nat.zero_add]; simpa using h5
    · cases h5

section
variable {P : Program} {ops : Array Oper} {Q : Exit → Act → World → Prop}

/-- Each operation has a slot of its own, or, if it stores, none; none is guarded; each waits for earlier ones alone. -/
def memB (ops : Array Oper) (pure : Nat → Bool) (D : Nat → Tmp) (n : Nat) : Bool :=
  (List.range ops.size).all fun i => match ops[i]? with
    | some o => (match o.dst with | some d => decide (d = D i) && decide (d < n) | none => !pure i) && o.guard.isNone && (o.after.toList.all fun e => !Region.binds .any e || decide (e.on < i)) && (List.range ops.size).all fun j => decide (j = i) || decide (D j ≠ D i)
    | none => false
theorem memB_spec {pure : Nat → Bool} {D : Nat → Tmp} {n : Nat} (h : memB ops pure D n = true) {i : Nat} {o : Oper} (ho : ops[i]? = some o) :
    (pure i = true → o.dst = some (D i)) ∧ (o.dst = none ∨ (o.dst = some (D i) ∧ D i < n)) ∧ o.guard = none ∧ (∀ e ∈ o.after, Region.binds .any e = true → e.on < i) ∧ ∀ j, j < ops.size → j ≠ i → D j ≠ D i := by
  have h1 := List.all_eq_true.1 h i (List.mem_range.2 (Array.getElem?_eq_some_iff.1 ho).1)
  rw [ho] at h1
  simp only [Bool.and_eq_true, List.all_eq_true, Bool.or_eq_true, decide_eq_true_eq, Bool.not_eq_true', Option.isNone_iff_eq_none, List.mem_range] at h1
  obtain ⟨⟨⟨h1, h2⟩, h3⟩, h4⟩ := h1
  refine ⟨fun hp => ?_, ?_, h2, fun e he hb => ?_, fun j hj hne => ?_⟩
  · cases hd : o.dst with
    | none => rw [hd] at h1; simp [hp] at h1
    | some d => rw [hd] at h1; simp at h1; rw [h1.1]
  · cases hd : o.dst with
    | none => exact .inl rfl
    | some d => rw [hd] at h1; simp at h1; right; rw [← h1.1]; exact ⟨rfl, h1.2⟩
  · rcases h3 e (by simpa using he) with h | h
    · rw [hb] at h; cases h
    · exact h
  · rcases h4 j hj with h | h
    · exact absurd h hne
    · exact h

structure MemI (ops : Array Oper) (pure : Nat → Bool) (V : Nat → Value) (D : Nat → Tmp) (W0 : World) (Mem : (Nat → Bool) → Act → World → Prop) (a0 : Act) (listed : Array Bool) (a : Act) (W : World) : Prop where
  size : listed.size = ops.size
  tmps : a.tmps.size = a0.tmps.size
  defers : a.defers = a0.defers
  base : Ext W0 W
  old : ∀ t, (∀ i, i < ops.size → D i ≠ t) → a.eval (.tmp t) = a0.eval (.tmp t)
  got : ∀ i, i < ops.size → pure i = true → listed.getD i false = true → a.eval (.tmp (D i)) = V i
  mem : Mem (fun i => listed.getD i false) a W

theorem listed_set {l : Array Bool} {i : Nat} (h : i < l.size) : (fun j => (l.setIfInBounds i true).getD j false) = fun j => decide (j = i) || l.getD j false := by
  funext j
  by_cases e : i = j
  · subst e; simp [h]
  · rw [getD_set_ne false e, decide_eq_false (fun e' : j = i => e e'.symm)]
    rfl

theorem wp_region_mem {id : Nat} {a : Act} {w W0 : World} (pure : Nat → Bool) (V : Nat → Value) (D : Nat → Tmp) (Mem : (Nat → Bool) → Act → World → Prop) (hm : P.follows .mixedOrders = true) (hs : memB ops pure D a.tmps.size = true)
    (hB0 : Ext W0 { w with drawn := w.drawn + 1 }) (hM0 : Mem (fun _ => false) a { w with drawn := w.drawn + 1 })
    (stay : ∀ (L : Nat → Bool) (a' : Act) (W W' : World) (i : Nat) (v : Value), i < ops.size → pure i = true → Mem L a' W → Ext W0 W → Below W.heap.size W W' → a'.tmps.size = a.tmps.size → Mem (fun j => decide (j = i) || L j) (a'.put (some (D i)) v) W')
    (step : ∀ (i : Nat) (o : Oper), ops[i]? = some o → pure i = true → ∀ (a' : Act) (W : World), Ext W0 W → a'.tmps.size = a.tmps.size → (∀ t, ((List.range ops.size).all fun i => decide (D i ≠ t)) = true → a'.eval (.tmp t) = a.eval (.tmp t)) →
      (∀ j, (o.after.any fun e => decide (e.on = j) && Region.binds .any e) = true → pure j = true → a'.eval (.tmp (D j)) = V j) →
      o.wp P a' W (fun a'' W' => ∃ v, a'' = a'.put o.dst v ∧ v = V i ∧ Below W.heap.size W W') Q)
    (act : ∀ (i : Nat) (o : Oper), ops[i]? = some o → pure i = false → ∀ (L : Nat → Bool) (a' : Act) (W : World), Ext W0 W → a'.tmps.size = a.tmps.size → (∀ t, ((List.range ops.size).all fun i => decide (D i ≠ t)) = true → a'.eval (.tmp t) = a.eval (.tmp t)) →
      (∀ j, (o.after.any fun e => decide (e.on = j) && Region.binds .any e) = true → L j = true ∧ (pure j = true → a'.eval (.tmp (D j)) = V j)) → L i = false → Mem L a' W →
      o.wp P a' W (fun a'' W' => ∃ v, a'' = a'.put o.dst v ∧ Ext W0 W' ∧ Mem (fun j => decide (j = i) || L j) a'' W') Q)
    (done : ∀ (a' : Act) (W : World), Ext W0 W → a'.tmps.size = a.tmps.size → a'.defers = a.defers → (∀ t, ((List.range ops.size).all fun i => decide (D i ≠ t)) = true → a'.eval (.tmp t) = a.eval (.tmp t)) →
      (∀ i, i < ops.size → pure i = true → a'.eval (.tmp (D i)) = V i) → Mem (fun i => decide (i < ops.size)) a' W → Q .normal a' W) : (Code.region id ops true).wp P Q a w := by
  have hoT : ∀ t, ((List.range ops.size).all fun i => decide (D i ≠ t)) = true → ∀ i, i < ops.size → D i ≠ t := fun t ht i hi => by
    simpa using List.all_eq_true.1 ht i (List.mem_range.2 hi)
  refine wp_region_any hm ?_
  have aux : ∀ (fuel : Nat) (listed : Array Bool) (a' : Act) (W : World), MemI ops pure V D W0 Mem a listed a' W → (List.range ops.size).countP (fun i => !listed.getD i true) ≤ fuel → wpAny P .any ops Q fuel listed a' W := by
    intro fuel
    have fin : ∀ (listed : Array Bool) (a' : Act) (W : World), MemI ops pure V D W0 Mem a listed a' W → (∀ i, i < ops.size → listed.getD i false = true) → Q .normal a' W := by
      intro listed a' W h all
      refine done a' W h.base h.tmps h.defers (fun t ht => h.old t (hoT t ht)) (fun i hi hp => h.got i hi hp (all i hi)) ?_
      have e : (fun i => listed.getD i false) = fun i => decide (i < ops.size) := by
        funext i
        by_cases hi : i < ops.size
        · rw [all i hi]; simp [hi]
        · have : ¬ i < listed.size := by rw [h.size]; exact hi
          simp [this, hi]
      rw [← e]
      exact h.mem
    have stop : ∀ (listed : Array Bool), listed.size = ops.size → (∀ i, i < ops.size → listed.getD i false = true) → Region.ready .any ops listed = [] := by
      intro listed hsz all
      refine List.eq_nil_iff_forall_not_mem.2 fun i hi => ?_
      obtain ⟨g1, o, ho, _⟩ := mem_ready.1 hi
      have hil := (Array.getElem?_eq_some_iff.1 ho).1
      rw [getD_two (by rw [hsz]; exact hil), all i hil] at g1
      cases g1
    induction fuel with
    | zero =>
      intro listed a' W h hc
      have h0 : (List.range ops.size).countP (fun i => !listed.getD i true) = 0 := by omega
      have all : ∀ i, i < ops.size → listed.getD i false = true := fun i hi => by
        have := List.countP_eq_zero.1 h0 i (List.mem_range.2 hi)
        rw [getD_two (by rw [h.size]; omega)] at this
        simpa using this
      exact wpAny_done (stop listed h.size all) (fin listed a' W h all) 0
    | succ fuel ih =>
      intro listed a' W h hc
      by_cases hall : ∀ i, i < ops.size → listed.getD i false = true
      · exact wpAny_done (stop listed h.size hall) (fin listed a' W h hall) _
      · have hne : Region.ready .any ops listed ≠ [] := by
          intro hr
          apply hall
          have all : ∀ n i, i ≤ n → i < ops.size → listed.getD i false = true := by
            intro n
            induction n using Nat.strongRecOn with
            | _ n ih2 =>
              intro i hin hi
              cases hl : listed.getD i false with
              | true => rfl
              | false =>
                exfalso
                have : i ∈ Region.ready .any ops listed := mem_ready.2 ⟨by rw [getD_two (by rw [h.size]; exact hi), hl], _, Array.getElem?_eq_getElem hi, fun e he hb => by
                  have := (memB_spec hs (Array.getElem?_eq_getElem hi)).2.2.2.1 e he hb
                  exact ih2 e.on (by omega) e.on (Nat.le_refl _) (by omega)⟩
                rw [hr] at this
                cases this
          exact fun i hi => all i i (Nat.le_refl _) hi
        refine ⟨fun e => absurd e hne, fun i hi => ?_⟩
        obtain ⟨h1, o, ho, haft⟩ := mem_ready.1 hi
        have hil := (Array.getElem?_eq_some_iff.1 ho).1
        have hls : i < listed.size := by rw [h.size]; exact hil
        obtain ⟨hd1, hd2, hgd, _, hdist⟩ := memB_spec hs ho
        have haf : ∀ j, (o.after.any fun e => decide (e.on = j) && Region.binds .any e) = true → listed.getD j false = true := fun j hj => by
          obtain ⟨e, he, hb⟩ := Array.any_eq_true'.1 hj
          simp only [Bool.and_eq_true, decide_eq_true_eq] at hb
          obtain ⟨rfl, hb⟩ := hb
          exact haft e he hb
        have hlt : ∀ j, listed.getD j false = true → j < ops.size := fun j hj => by
          by_cases hj2 : j < listed.size
          · rw [← h.size]; exact hj2
          · simp [hj2] at hj
        have hw : Region.wanted o (yielded ops a'.tmps) = true := by simp [Region.wanted, hgd]
        have hli : listed.getD i false = false := by rwa [← getD_two hls]
        have hcount : (List.range ops.size).countP (fun k => !(listed.setIfInBounds i true).getD k true) < (List.range ops.size).countP (fun k => !listed.getD k true) := by
          refine countP_step _ _ i _ (fun y hy => ?_) (List.mem_range.2 hil) (by simp [h1]) ?_
          · by_cases e : i = y
            · subst e; simp [h1]
            · rw [getD_set_ne true e] at hy; exact hy
          · simp [hls]
        unfold wpOp
        rw [ho]
        simp only [hw, if_true]
        left
        have next : ∀ (v : Value) (W' : World), Ext W0 W' → Mem (fun j => decide (j = i) || listed.getD j false) (a'.put o.dst v) W' → (pure i = true → v = V i) → wpAny P .any ops Q fuel (listed.setIfInBounds i true) (a'.put o.dst v) W' := by
          intro v W' hE hM hv
          refine ih _ _ _ ⟨by simp [h.size], ?_, ?_, hE, fun t ht => ?_, fun j hj hp hl => ?_, by rw [listed_set hls]; exact hM⟩ (by omega)
          · rcases hd2 with e | e
            · rw [e]; exact h.tmps
            · rw [e.1]; simp [Act.put, h.tmps]
          · rcases hd2 with e | e
            · rw [e]; exact h.defers
            · rw [e.1]; exact h.defers
          · rcases hd2 with e | e
            · rw [e]; exact h.old t ht
            · rw [e.1, eval_put_other (Ne.symm (ht i hil))]
              exact h.old t ht
          · by_cases e : i = j
            · subst e
              have hlt2 : D i < a'.tmps.size := by
                rw [h.tmps]
                rcases hd2 with e | e
                · rw [hd1 hp] at e; cases e
                · exact e.2
              rw [hd1 hp, eval_put_same hlt2]
              exact hv hp
            · rw [getD_set_ne false e] at hl
              rcases hd2 with e2 | e2
              · rw [e2]; exact h.got j hj hp hl
              · rw [e2.1, eval_put_other (hdist j hj (fun e3 => e e3.symm))]
                exact h.got j hj hp hl
        cases hp : pure i with
        | true =>
          refine Oper.wp_mono (fun a'' W' hh => ?_) (step i o ho hp a' W h.base h.tmps (fun t ht => h.old t (hoT t ht)) fun j hj hpj => h.got j (hlt j (haf j hj)) hpj (haf j hj))
          obtain ⟨v, rfl, hv, hb⟩ := hh
          refine next v W' (h.base.trans hb) ?_ fun _ => hv
          rw [hd1 hp]
          exact stay _ a' W W' i v hil hp h.mem h.base hb h.tmps
        | false =>
          refine Oper.wp_mono (fun a'' W' hh => ?_) (act i o ho hp _ a' W h.base h.tmps (fun t ht => h.old t (hoT t ht)) (fun j hj => ⟨haf j hj, fun hpj => h.got j (hlt j (haf j hj)) hpj (haf j hj)⟩) hli h.mem)
          obtain ⟨v, rfl, hE, hM⟩ := hh
          exact next v W' hE hM fun e => by rw [hp] at e; cases e
  exact aux ops.size _ a _ ⟨by simp, rfl, rfl, hB0, fun _ _ => rfl, fun i hi _ hl => (by rw [getD_replicate_false] at hl; cases hl), by
      have e : (fun i => (Array.replicate ops.size false).getD i false) = fun _ => false := by
        funext i
        exact getD_replicate_false _ _
      rw [e]
      exact hM0⟩ (by
    have := List.countP_le_length (p := fun i => !(Array.replicate ops.size false).getD i true) (l := List.range ops.size)
    simpa using this)
end

end Go.Proofs.YtmlmnljbegcjcaaGreat

/- Orders that are read; CheckOrders; entries and books. -/
namespace Go.Proofs.YtmlmnljbegcjcaaGreat
open Go.RowKit Go.Shelf

theorem held_row {w : World} {g : Nat} {cs : Array Value} {t : TypeId} {fr : Nat × Nat} {xs : List Int} (h : w.heap[g]? = some (.cells cs t fr)) (hc : cs.toList = xs.map (.int .i64)) : Held w w.heap.size 1 encI (some ⟨g, 0, none⟩) xs :=
  .inr ⟨g, 0, rfl, (Array.getElem?_eq_some_iff.1 h).1, fun j x hx i v hv => by
    match i, hv with
    | 0, hv =>
      simp [encI] at hv
      subst hv
      refine (cell_of_row _ _ _ _ _ _ h).trans ?_
      rw [← Array.getElem?_toList, hc]
      simp [hx]⟩
/-- The cells of a flat row at an index. -/
theorem held_at {α : Type} {w : World} {B k : Nat} {enc : α → List Value} {A : Option Addr} {xs : List α} (h : Held w B k enc A xs) {j : Nat} (hj : j < xs.length) : ∃ b off, A = some ⟨b, off, none⟩ ∧ b < B ∧ ∀ i v, (enc xs[j])[i]? = some v → w.cell? ⟨b, off + j * k + i, none⟩ = some v := by
  rcases h with e | ⟨b, off, rfl, hb, hc⟩
  · rw [e] at hj; simp at hj
  · exact ⟨b, off, rfl, hb, fun i v hv => hc j _ (List.getElem?_eq_getElem hj) i v hv⟩

/-- Whether an order is as described. -/
def ordOk (o : Odr) : Bool := [o.lo, o.hi, o.young, o.old].all (inside 0 10000) && (decide (o.lo ≤ o.hi) && (decide (o.young ≤ o.old) && [o.worth].all (inside 0 100000)))
/-- What CheckOrders answers. -/
def ordersErr (os : List Odr) : Int := if 1 ≤ os.length ∧ os.length ≤ 14 then if os.all ordOk then 0 else 3 else 6
theorem ordOk_iff {o : Odr} : ordOk o = true ↔ (0 ≤ o.lo ∧ o.lo ≤ o.hi ∧ o.hi ≤ 10000) ∧ (0 ≤ o.young ∧ o.young ≤ o.old ∧ o.old ≤ 10000) ∧ 0 ≤ o.worth ∧ o.worth ≤ 100000 := by
  simp [ordOk, inside]
  omega
theorem orders_ok {os : List Odr} (h : ordersErr os = 0) : (1 ≤ os.length ∧ os.length ≤ 14) ∧ ∀ o, o ∈ os → ordOk o = true := by
  unfold ordersErr at h
  split at h
  · split at h
    · rename_i h1 h2
      exact ⟨h1, by simpa using h2⟩
    · cases h
  · cases h

set_option maxHeartbeats 1000000 in
theorem order60 (xs : List Odr) (w : World) : PredOn 60 #[] (fun x => .agg (encO x).toArray) ordOk xs w := fun W x hx hbw => by
  show Calls Tryz.prog 60 #[.agg #[.int .i64 x.lo, .int .i64 x.hi, .int .i64 x.young, .int .i64 x.old, .int .i64 x.worth]] W fun e w' => e = .returned (.bool (ordOk x)) ∧ Below W.heap.size W w'
  unfold ordOk
  obtain ⟨lo, hi, young, old, worth⟩ := x
  dsimp only
  generalize hq1 : [lo, hi, young, old].all (inside 0 10000) = q1
  generalize hq2 : [worth].all (inside 0 100000) = q2
  have H1 := Lib.hid hq1; clear hq1
  have H2 := Lib.hid hq2; clear hq2
  clear hx hbw
  go_enter Tryz.func60, Tryz.ntmps60
  go_wp2_with fail
  refine (within _ _ _ _ _ [lo, hi, young, old] _ rfl (by simp) (held_row (row_last _ _ _ (by simp)) rfl)).mono ?_
  rw [H1.out]
  rintro e w1 ⟨rfl, hb1⟩
  have hr : w1.heap[W.heap.size]? = some (.cells #[.int .i64 lo, .int .i64 hi, .int .i64 young, .int .i64 old, .int .i64 worth] 56 (0, 0)) := row_ext (row_alloc _ _ _ _ (row_last _ _ _ rfl)) hb1
  have hz1 : W.heap.size + 2 ≤ w1.heap.size := by have := hb1.size; simpa using this
  have hB1 : Below W.heap.size W w1 := bstep (((Below.refl _ W).alloc (Nat.le_refl _) _).alloc (by simp) _) (by simp; omega) hb1
  clear hb1
  have c0 : w1.cell? ⟨W.heap.size, 0, none⟩ = some (.int .i64 lo) := cell_of_row _ _ _ _ _ _ hr
  have c1 : w1.cell? ⟨W.heap.size, 1, none⟩ = some (.int .i64 hi) := cell_of_row _ _ _ _ _ _ hr
  have c2 : w1.cell? ⟨W.heap.size, 2, none⟩ = some (.int .i64 young) := cell_of_row _ _ _ _ _ _ hr
  have c3 : w1.cell? ⟨W.heap.size, 3, none⟩ = some (.int .i64 old) := cell_of_row _ _ _ _ _ _ hr
  have c4 : w1.cell? ⟨W.heap.size, 4, none⟩ = some (.int .i64 worth) := cell_of_row _ _ _ _ _ _ hr
  clear hr
  cases q1 with
  | false =>
    go_wp2
    go_ret
    exact ⟨rfl, hB1⟩
  | true =>
    by_cases h1 : lo ≤ hi
    · by_cases h2 : young ≤ old
      · go_wp2_with fail
        refine (within _ _ _ _ _ [worth] _ rfl (by simp) (held_row (row_last _ _ _ rfl) rfl)).mono ?_
        rw [H2.out]
        rintro e w2 ⟨rfl, hb2⟩
        go_wp2
        go_ret
        exact ⟨by simp [h1, h2], bstep (hB1.alloc hB1.size _) (by have := hB1.size; simp; omega) hb2⟩
      · go_wp2
        go_ret
        exact ⟨ret_bool (by simp; omega), hB1⟩
    · go_wp2
      go_ret
      exact ⟨ret_bool (by simp; omega), hB1⟩

/-- The orders that a slice holds. -/
structure IsOrders (w : World) (A : Option Addr) (n c : Nat) (os : List Odr) : Prop where
  len : n = os.length
  nle : n ≤ 9223372036854775807
  cap : n ≤ c
  held : Held w w.heap.size 5 encO A os
theorem IsOrders.ext {w w' : World} {A : Option Addr} {n c : Nat} {os : List Odr} (h : IsOrders w A n c os) (e : Ext w w') : IsOrders w' A n c os := ⟨h.len, h.nle, h.cap, h.held.ext e⟩

set_option maxHeartbeats 1000000 in
theorem checkOrders_any {A : Option Addr} {n c : Nat} {os : List Odr} {w : World} (h : IsOrders w A n c os) :
    Calls Tryz.prog 20 #[.slice A n c] w fun e w' => e = .returned (.int .i64 (ordersErr os)) ∧ Ext w w' := by
  have hs : ordersErr os = if 1 ≤ n ∧ n ≤ 14 then if os.all ordOk then 0 else 3 else 6 := by rw [h.len]; rfl
  obtain ⟨E, hE⟩ : ∃ E, ordersErr os = E := ⟨_, rfl⟩
  rw [hE] at hs ⊢
  have hq1 : [(n : Int)].all (inside 1 14) = decide (1 ≤ n ∧ n ≤ 14) := by rw [Bool.eq_iff_iff]; simp [inside]; omega
  have e60 : ∀ args w, (callFunc 60 args).run Tryz.prog w = .ok (.enter 60 args) w := enters_of Tryz.func60 (by kernel_rfl) rfl
  have k62 : ∀ W, Ext w W → Calls Tryz.prog 62 #[.slice A n c, .func (.func 60) #[] #[]] W fun e w' => e = .returned (.bool (os.all ordOk)) ∧ Below W.heap.size W w' := fun W hW => everyOdr 60 #[] e60 ordOk A n c os W h.len h.nle (h.ext hW).held (order60 os W)
  obtain ⟨q, hq⟩ : ∃ q, os.all ordOk = q := ⟨_, rfl⟩
  rw [hq] at k62 hs
  have HS := Lib.hid hs
  have H1 := Lib.hid hq1
  clear hs hq1 hE hq h
  go_enter Tryz.func20, Tryz.ntmps20
  go_wp2_with fail
  refine (within _ _ _ _ _ [(n : Int)] _ rfl (by simp) (held_row (row_last _ _ _ rfl) rfl)).mono ?_
  rw [H1.out]
  rintro e w1 ⟨rfl, hb1⟩
  have e1 : Ext w w1 := (ext_alloc _ _).trans hb1
  have HE := Lib.hid e1
  have k := k62 w1 e1
  clear hb1 k62 e1
  by_cases hn : 1 ≤ n ∧ n ≤ 14
  · rw [decide_eq_true hn]
    have hs := HS.out
    rw [if_pos hn] at hs
    have HS := Lib.hid hs
    clear hs hn
    go_wp2_with fail
    refine k.mono ?_
    rintro e w2 ⟨rfl, hb2⟩
    have HE := Lib.hid (HE.out.trans hb2)
    clear hb2 k
    cases q with
    | true =>
      go_wp2
      go_ret
      exact ⟨ret_num (by rw [HS.out]; rfl), HE.out⟩
    | false =>
      go_wp2
      go_ret
      exact ⟨ret_num (by rw [HS.out]; rfl), HE.out⟩
  · rw [decide_eq_false hn]
    have hs := HS.out
    rw [if_neg hn] at hs
    have HS := Lib.hid hs
    clear hs hn k
    go_wp2
    go_ret
    exact ⟨ret_num HS.out.symm, HE.out⟩
end Go.Proofs.YtmlmnljbegcjcaaGreat

/- Entries and books: an order with its births; opened. -/
namespace Go.Proofs.YtmlmnljbegcjcaaGreat
open Go.RowKit Go.Shelf

set_option maxHeartbeats 400000 in
theorem end104 (x y : Int) (w : World) : Calls Tryz.prog 104 #[.agg #[.int .i64 x, .int .i64 y]] w fun e w' => e = .returned (.int .i64 y) ∧ Ext w w' := by
  go_enter Tryz.func104, Tryz.ntmps104
  go_wp2
  go_ret
  exact ⟨rfl, ext_alloc _ _⟩
set_option maxHeartbeats 400000 in
theorem end105 (x y : Int) (w : World) : Calls Tryz.prog 105 #[.agg #[.int .i64 x, .int .i64 y]] w fun e w' => e = .returned (.int .i64 x) ∧ Ext w w' := by
  go_enter Tryz.func105, Tryz.ntmps105
  go_wp2
  go_ret
  exact ⟨rfl, ext_alloc _ _⟩
end Go.Proofs.YtmlmnljbegcjcaaGreat

/- entered: its closure's region and its own. -/
namespace Go.Proofs.YtmlmnljbegcjcaaGreat
open Go.RowKit Go.Shelf

/-- The slots of region 1 of function 103. -/
def en3D (i : Nat) : Tmp := if i = 0 then 4 else if i = 1 then 5 else if i = 2 then 6 else if i = 3 then 7 else if i = 4 then 8 else if i = 5 then 9 else if i = 6 then 10 else if i = 7 then 11 else if i = 8 then 12 else 3
/-- What each operation yields. -/
def en3S (q fn : Nat) (lo hi young old x y u : Int) (ix : Nat) (v : Value) (_W : World) : Prop :=
  match ix with
  | 0 => v = .func (.func fn) #[] #[]
  | 1 => v = .pointer (some ⟨q, 0, none⟩)
  | 2 => v = .agg #[.int .i64 lo, .int .i64 hi]
  | 3 => v = .int .i64 x
  | 4 => v = .func (.func fn) #[] #[]
  | 5 => v = .pointer (some ⟨q, 2, none⟩)
  | 6 => v = .agg #[.int .i64 young, .int .i64 old]
  | 7 => v = .int .i64 y
  | 8 => v = .int .i64 u
  | 9 => v = .int .i64 u
  | _ => True
noncomputable def en3Reg : Array Oper := (Tryz.f103.body.bind (regionOf · 1)).getD #[]
theorem en3S_ext {q fn : Nat} {lo hi young old x y u : Int} : ∀ (i : Nat) (v : Value) (W W' : World), en3S q fn lo hi young old x y u i v W → Below W.heap.size W W' → en3S q fn lo hi young old x y u i v W' := by
  intro i v W W' h e
  match i with
  | 0 => exact h
  | 1 => exact h
  | 2 => exact h
  | 3 => exact h
  | 4 => exact h
  | 5 => exact h
  | 6 => exact h
  | 7 => exact h
  | 8 => exact h
  | 9 => exact h
  | k + 10 => exact trivial
def en3Ok (q fn : Nat) (lo hi young old x y u : Int) (Q : Exit → Act → World → Prop) (a : Act) (W : World) (ix : Nat) (o : Oper) : Prop :=
  (∀ j b, o.guard = some (j, b) → a.eval (.tmp (en3D j)) = .bool b) ∧ o.wp Tryz.prog a W (fun a'' W' => ∃ v, a'' = a.put o.dst v ∧ en3S q fn lo hi young old x y u ix v W' ∧ Below W.heap.size W W') Q
section
variable {q fn : Nat} {lo hi young old x y u : Int} {Q : Exit → Act → World → Prop} {a : Act} {V W : World} {o : Oper}
set_option maxHeartbeats 1000000 in
theorem en3_op0 (o0 : a.eval (.tmp 0) = .func (.func fn) #[] #[]) (ho : en3Reg[0]? = some o) : en3Ok q fn lo hi young old x y u Q a W 0 o := by
  have hop := op_at ho (·.op) (x := Op.move (Operand.tmp 0)) (by kernel_rfl)
  have hgd := op_at ho (·.guard) (x := none) (by kernel_rfl)
  refine ⟨fun j b h => (by rw [hgd] at h; cases h), ?_⟩
  exact specs_value (R := fun v W => en3S q fn lo hi young old x y u 0 v W) (v := .func (.func fn) #[] #[]) (by simp [execOp, hop, go_sem, ev o0]) rfl (Ext.refl W)
set_option maxHeartbeats 1000000 in
theorem en3_op1 (o1 : a.eval (.tmp 1) = .pointer (some ⟨q, 0, none⟩)) (ho : en3Reg[1]? = some o) : en3Ok q fn lo hi young old x y u Q a W 1 o := by
  have hop := op_at ho (·.op) (x := Op.fieldAddr 56 (Operand.tmp 1) 0) (by kernel_rfl)
  have hgd := op_at ho (·.guard) (x := none) (by kernel_rfl)
  refine ⟨fun j b h => (by rw [hgd] at h; cases h), ?_⟩
  exact specs_value (R := fun v W => en3S q fn lo hi young old x y u 1 v W) (v := .pointer (some ⟨q, 0, none⟩)) (by simp [execOp, hop, go_sem, ev o1]) rfl (Ext.refl W)
set_option maxHeartbeats 1000000 in
theorem en3_op2 (c0 : ∀ W, Ext V W → W.cell? ⟨q, 0, none⟩ = some (.int .i64 lo)) (c1 : ∀ W, Ext V W → W.cell? ⟨q, 1, none⟩ = some (.int .i64 hi)) (hB : Ext V W) (haft : ∀ j, (o.after.any fun e => decide (e.on = j) && Region.binds .any e) = true → en3S q fn lo hi young old x y u j (a.eval (.tmp (en3D j))) W) (ho : en3Reg[2]? = some o) : en3Ok q fn lo hi young old x y u Q a W 2 o := by
  have hop := op_at ho (·.op) (x := Op.load 26 (Operand.tmp 5)) (by kernel_rfl)
  have hgd := op_at ho (·.guard) (x := none) (by kernel_rfl)
  have e1 : a.eval (.tmp 5) = .pointer (some ⟨q, 0, none⟩) := haft 1 (op_at ho (fun o => o.after.any fun e => decide (e.on = 1) && Region.binds .any e) (x := true) (by kernel_rfl))
  refine ⟨fun j b h => (by rw [hgd] at h; cases h), ?_⟩
  have c0' := c0 W hB
  have c1' := c1 W hB
  exact specs_value (R := fun v W => en3S q fn lo hi young old x y u 2 v W) (v := .agg #[.int .i64 lo, .int .i64 hi]) (by simp [execOp, hop, go_sem, ev e1, c0', c1']) rfl (Ext.refl W)
set_option maxHeartbeats 1000000 in
theorem en3_op3 (k1 : ∀ W, Ext V W → Calls Tryz.prog fn #[.agg #[.int .i64 lo, .int .i64 hi]] W fun e w' => e = .returned (.int .i64 x) ∧ Ext W w') (eg : ∀ args w, (callFunc fn args).run Tryz.prog w = .ok (.enter fn args) w) (hB : Ext V W) (haft : ∀ j, (o.after.any fun e => decide (e.on = j) && Region.binds .any e) = true → en3S q fn lo hi young old x y u j (a.eval (.tmp (en3D j))) W) (ho : en3Reg[3]? = some o) : en3Ok q fn lo hi young old x y u Q a W 3 o := by
  have hop := op_at ho (·.op) (x := Op.call { callee := Callee.value (Operand.tmp 4), args := #[Operand.tmp 6], argTypes := #[26] }) (by kernel_rfl)
  have hgd := op_at ho (·.guard) (x := none) (by kernel_rfl)
  have e0 : a.eval (.tmp 4) = .func (.func fn) #[] #[] := haft 0 (op_at ho (fun o => o.after.any fun e => decide (e.on = 0) && Region.binds .any e) (x := true) (by kernel_rfl))
  have e2 : a.eval (.tmp 6) = .agg #[.int .i64 lo, .int .i64 hi] := haft 2 (op_at ho (fun o => o.after.any fun e => decide (e.on = 2) && Region.binds .any e) (x := true) (by kernel_rfl))
  refine ⟨fun j b h => (by rw [hgd] at h; cases h), ?_⟩
  refine specs_call (R := fun v W => en3S q fn lo hi young old x y u 3 v W) (f := fn) (args := #[.agg #[.int .i64 lo, .int .i64 hi]]) (by simp [execOp, hop, go_sem, ev e0, ev e2, eg]) ((k1 W hB).mono ?_)
  rintro e w' ⟨rfl, h3⟩
  exact ⟨_, rfl, rfl, h3⟩
set_option maxHeartbeats 1000000 in
theorem en3_op4 (o0 : a.eval (.tmp 0) = .func (.func fn) #[] #[]) (ho : en3Reg[4]? = some o) : en3Ok q fn lo hi young old x y u Q a W 4 o := by
  have hop := op_at ho (·.op) (x := Op.move (Operand.tmp 0)) (by kernel_rfl)
  have hgd := op_at ho (·.guard) (x := none) (by kernel_rfl)
  refine ⟨fun j b h => (by rw [hgd] at h; cases h), ?_⟩
  exact specs_value (R := fun v W => en3S q fn lo hi young old x y u 4 v W) (v := .func (.func fn) #[] #[]) (by simp [execOp, hop, go_sem, ev o0]) rfl (Ext.refl W)
set_option maxHeartbeats 1000000 in
theorem en3_op5 (o1 : a.eval (.tmp 1) = .pointer (some ⟨q, 0, none⟩)) (ho : en3Reg[5]? = some o) : en3Ok q fn lo hi young old x y u Q a W 5 o := by
  have hop := op_at ho (·.op) (x := Op.fieldAddr 56 (Operand.tmp 1) 1) (by kernel_rfl)
  have hgd := op_at ho (·.guard) (x := none) (by kernel_rfl)
  refine ⟨fun j b h => (by rw [hgd] at h; cases h), ?_⟩
  exact specs_value (R := fun v W => en3S q fn lo hi young old x y u 5 v W) (v := .pointer (some ⟨q, 2, none⟩)) (by simp [execOp, hop, go_sem, ev o1]) rfl (Ext.refl W)
set_option maxHeartbeats 1000000 in
theorem en3_op6 (c2 : ∀ W, Ext V W → W.cell? ⟨q, 2, none⟩ = some (.int .i64 young)) (c3 : ∀ W, Ext V W → W.cell? ⟨q, 3, none⟩ = some (.int .i64 old)) (hB : Ext V W) (haft : ∀ j, (o.after.any fun e => decide (e.on = j) && Region.binds .any e) = true → en3S q fn lo hi young old x y u j (a.eval (.tmp (en3D j))) W) (ho : en3Reg[6]? = some o) : en3Ok q fn lo hi young old x y u Q a W 6 o := by
  have hop := op_at ho (·.op) (x := Op.load 26 (Operand.tmp 9)) (by kernel_rfl)
  have hgd := op_at ho (·.guard) (x := none) (by kernel_rfl)
  have e5 : a.eval (.tmp 9) = .pointer (some ⟨q, 2, none⟩) := haft 5 (op_at ho (fun o => o.after.any fun e => decide (e.on = 5) && Region.binds .any e) (x := true) (by kernel_rfl))
  refine ⟨fun j b h => (by rw [hgd] at h; cases h), ?_⟩
  have c2' := c2 W hB
  have c3' := c3 W hB
  exact specs_value (R := fun v W => en3S q fn lo hi young old x y u 6 v W) (v := .agg #[.int .i64 young, .int .i64 old]) (by simp [execOp, hop, go_sem, ev e5, c2', c3']) rfl (Ext.refl W)
set_option maxHeartbeats 1000000 in
theorem en3_op7 (k2 : ∀ W, Ext V W → Calls Tryz.prog fn #[.agg #[.int .i64 young, .int .i64 old]] W fun e w' => e = .returned (.int .i64 y) ∧ Ext W w') (eg : ∀ args w, (callFunc fn args).run Tryz.prog w = .ok (.enter fn args) w) (hB : Ext V W) (haft : ∀ j, (o.after.any fun e => decide (e.on = j) && Region.binds .any e) = true → en3S q fn lo hi young old x y u j (a.eval (.tmp (en3D j))) W) (ho : en3Reg[7]? = some o) : en3Ok q fn lo hi young old x y u Q a W 7 o := by
  have hop := op_at ho (·.op) (x := Op.call { callee := Callee.value (Operand.tmp 8), args := #[Operand.tmp 10], argTypes := #[26] }) (by kernel_rfl)
  have hgd := op_at ho (·.guard) (x := none) (by kernel_rfl)
  have e4 : a.eval (.tmp 8) = .func (.func fn) #[] #[] := haft 4 (op_at ho (fun o => o.after.any fun e => decide (e.on = 4) && Region.binds .any e) (x := true) (by kernel_rfl))
  have e6 : a.eval (.tmp 10) = .agg #[.int .i64 young, .int .i64 old] := haft 6 (op_at ho (fun o => o.after.any fun e => decide (e.on = 6) && Region.binds .any e) (x := true) (by kernel_rfl))
  refine ⟨fun j b h => (by rw [hgd] at h; cases h), ?_⟩
  refine specs_call (R := fun v W => en3S q fn lo hi young old x y u 7 v W) (f := fn) (args := #[.agg #[.int .i64 young, .int .i64 old]]) (by simp [execOp, hop, go_sem, ev e4, ev e6, eg]) ((k2 W hB).mono ?_)
  rintro e w' ⟨rfl, h3⟩
  exact ⟨_, rfl, rfl, h3⟩
set_option maxHeartbeats 1000000 in
theorem en3_op8 (wz : IntKind.i64.wrap (x - y) = u) (haft : ∀ j, (o.after.any fun e => decide (e.on = j) && Region.binds .any e) = true → en3S q fn lo hi young old x y u j (a.eval (.tmp (en3D j))) W) (ho : en3Reg[8]? = some o) : en3Ok q fn lo hi young old x y u Q a W 8 o := by
  have hop := op_at ho (·.op) (x := Op.binOp BinOp.sub 2 (Operand.tmp 7) (Operand.tmp 11) 2) (by kernel_rfl)
  have hgd := op_at ho (·.guard) (x := none) (by kernel_rfl)
  have e3 : a.eval (.tmp 7) = .int .i64 x := haft 3 (op_at ho (fun o => o.after.any fun e => decide (e.on = 3) && Region.binds .any e) (x := true) (by kernel_rfl))
  have e7 : a.eval (.tmp 11) = .int .i64 y := haft 7 (op_at ho (fun o => o.after.any fun e => decide (e.on = 7) && Region.binds .any e) (x := true) (by kernel_rfl))
  refine ⟨fun j b h => (by rw [hgd] at h; cases h), ?_⟩
  exact specs_value (R := fun v W => en3S q fn lo hi young old x y u 8 v W) (v := .int .i64 u) (by simp [execOp, hop, go_sem, ev e3, ev e7, wz]) rfl (Ext.refl W)
set_option maxHeartbeats 1000000 in
theorem en3_op9 (haft : ∀ j, (o.after.any fun e => decide (e.on = j) && Region.binds .any e) = true → en3S q fn lo hi young old x y u j (a.eval (.tmp (en3D j))) W) (ho : en3Reg[9]? = some o) : en3Ok q fn lo hi young old x y u Q a W 9 o := by
  have hop := op_at ho (·.op) (x := Op.assign (Operand.tmp 12)) (by kernel_rfl)
  have hgd := op_at ho (·.guard) (x := none) (by kernel_rfl)
  have e8 : a.eval (.tmp 12) = .int .i64 u := haft 8 (op_at ho (fun o => o.after.any fun e => decide (e.on = 8) && Region.binds .any e) (x := true) (by kernel_rfl))
  refine ⟨fun j b h => (by rw [hgd] at h; cases h), ?_⟩
  exact specs_value (R := fun v W => en3S q fn lo hi young old x y u 9 v W) (v := .int .i64 u) (by simp [execOp, hop, go_sem, ev e8]) rfl (Ext.refl W)
set_option maxRecDepth 100000 in
set_option maxHeartbeats 4000000 in
/-- Region 1 of function 103. -/
theorem en3_wp {id : Nat} (hlen : a.tmps.size = 13) (o0 : a.eval (.tmp 0) = .func (.func fn) #[] #[]) (o1 : a.eval (.tmp 1) = .pointer (some ⟨q, 0, none⟩)) (c0 : ∀ W, Ext V W → W.cell? ⟨q, 0, none⟩ = some (.int .i64 lo)) (c1 : ∀ W, Ext V W → W.cell? ⟨q, 1, none⟩ = some (.int .i64 hi)) (k1 : ∀ W, Ext V W → Calls Tryz.prog fn #[.agg #[.int .i64 lo, .int .i64 hi]] W fun e w' => e = .returned (.int .i64 x) ∧ Ext W w') (eg : ∀ args w, (callFunc fn args).run Tryz.prog w = .ok (.enter fn args) w) (c2 : ∀ W, Ext V W → W.cell? ⟨q, 2, none⟩ = some (.int .i64 young)) (c3 : ∀ W, Ext V W → W.cell? ⟨q, 3, none⟩ = some (.int .i64 old)) (k2 : ∀ W, Ext V W → Calls Tryz.prog fn #[.agg #[.int .i64 young, .int .i64 old]] W fun e w' => e = .returned (.int .i64 y) ∧ Ext W w') (wz : IntKind.i64.wrap (x - y) = u) (K : (∀ W, Ext V W → wpList Tryz.prog en3Reg Q (en3Reg.toList.drop 10) (puts a [(4, .func (.func fn) #[] #[]), (5, .pointer (some ⟨q, 0, none⟩)), (6, .agg #[.int .i64 lo, .int .i64 hi]), (7, .int .i64 x), (8, .func (.func fn) #[] #[]), (9, .pointer (some ⟨q, 2, none⟩)), (10, .agg #[.int .i64 young, .int .i64 old]), (11, .int .i64 y), (12, .int .i64 u), (3, .int .i64 u)]) W)) : (Code.region id en3Reg true).wp Tryz.prog Q a V := by
  refine wp_region_specs_free (ops := en3Reg) 10 (en3S q fn lo hi young old x y u) (Ext V) (by kernel_rfl) (by rw [hlen]; kernel_rfl) (by kernel_rfl) ⟨rfl, rfl, rfl, Nat.le_refl _, fun _ _ => rfl⟩ (fun _ _ h e => h.trans e) en3S_ext en3D (by kernel_rfl) ?_ ?_
  · intro i o hi ho a' W hB hsz hold haft
    match i, hi with
    | 0, _ => exact en3_op0 ((hold 0 (by kernel_rfl)).trans o0) ho
    | 1, _ => exact en3_op1 ((hold 1 (by kernel_rfl)).trans o1) ho
    | 2, _ => exact en3_op2 c0 c1 hB haft ho
    | 3, _ => exact en3_op3 k1 eg hB haft ho
    | 4, _ => exact en3_op4 ((hold 0 (by kernel_rfl)).trans o0) ho
    | 5, _ => exact en3_op5 ((hold 1 (by kernel_rfl)).trans o1) ho
    | 6, _ => exact en3_op6 c2 c3 hB haft ho
    | 7, _ => exact en3_op7 k2 eg hB haft ho
    | 8, _ => exact en3_op8 wz haft ho
    | 9, _ => exact en3_op9 haft ho
    | m + 10, h => exact absurd h (by omega)
  · intro a1 W hB hsz hdf hold hS
    have hall : ∀ zz, zz ∈ ([(4, .func (.func fn) #[] #[]), (5, .pointer (some ⟨q, 0, none⟩)), (6, .agg #[.int .i64 lo, .int .i64 hi]), (7, .int .i64 x), (8, .func (.func fn) #[] #[]), (9, .pointer (some ⟨q, 2, none⟩)), (10, .agg #[.int .i64 young, .int .i64 old]), (11, .int .i64 y), (12, .int .i64 u), (3, .int .i64 u)] : List (Tmp × Value)) → zz.1 < a.tmps.size ∧ a1.eval (.tmp zz.1) = zz.2 := by
      intro zz hz
      rw [hlen]
      simp only [List.mem_cons, List.not_mem_nil, or_false] at hz
      rcases hz with rfl | rfl | rfl | rfl | rfl | rfl | rfl | rfl | rfl | rfl
      · exact ⟨(show (4 : Nat) < 13 by omega), hS 0 (by omega)⟩
      · exact ⟨(show (5 : Nat) < 13 by omega), hS 1 (by omega)⟩
      · exact ⟨(show (6 : Nat) < 13 by omega), hS 2 (by omega)⟩
      · exact ⟨(show (7 : Nat) < 13 by omega), hS 3 (by omega)⟩
      · exact ⟨(show (8 : Nat) < 13 by omega), hS 4 (by omega)⟩
      · exact ⟨(show (9 : Nat) < 13 by omega), hS 5 (by omega)⟩
      · exact ⟨(show (10 : Nat) < 13 by omega), hS 6 (by omega)⟩
      · exact ⟨(show (11 : Nat) < 13 by omega), hS 7 (by omega)⟩
      · exact ⟨(show (12 : Nat) < 13 by omega), hS 8 (by omega)⟩
      · exact ⟨(show (3 : Nat) < 13 by omega), hS 9 (by omega)⟩
    have ha := act_puts hsz hdf hall (fun t ht => hold t (all_ne_of (l := [(4, .func (.func fn) #[] #[]), (5, .pointer (some ⟨q, 0, none⟩)), (6, .agg #[.int .i64 lo, .int .i64 hi]), (7, .int .i64 x), (8, .func (.func fn) #[] #[]), (9, .pointer (some ⟨q, 2, none⟩)), (10, .agg #[.int .i64 young, .int .i64 old]), (11, .int .i64 y), (12, .int .i64 u), (3, .int .i64 u)]) (by kernel_rfl) ht))
    rw [ha]
    exact K W  hB 
end

/-- The slots of region 2 of function 84. -/
def en2D (i : Nat) : Tmp := if i = 0 then 5 else if i = 1 then 6 else if i = 2 then 7 else if i = 3 then 8 else if i = 4 then 9 else if i = 5 then 10 else 11
/-- What each operation yields. -/
def en2S (q : Nat) (lo hi young old worth x y : Int) (ix : Nat) (v : Value) (_W : World) : Prop :=
  match ix with
  | 0 => v = .agg #[.int .i64 lo, .int .i64 hi, .int .i64 young, .int .i64 old, .int .i64 worth]
  | 1 => v = .func (.func 103) #[] #[.pointer (some ⟨q, 0, none⟩)]
  | 2 => v = .int .i64 x
  | 3 => v = .func (.func 103) #[] #[.pointer (some ⟨q, 0, none⟩)]
  | 4 => v = .int .i64 y
  | 5 => v = .agg #[.int .i64 x, .int .i64 y]
  | 6 => v = .agg #[.int .i64 lo, .int .i64 hi, .int .i64 young, .int .i64 old, .int .i64 worth, .int .i64 x, .int .i64 y]
  | _ => True
noncomputable def en2Reg : Array Oper := (Tryz.f84.body.bind (regionOf · 2)).getD #[]
theorem en2S_ext {q : Nat} {lo hi young old worth x y : Int} : ∀ (i : Nat) (v : Value) (W W' : World), en2S q lo hi young old worth x y i v W → Below W.heap.size W W' → en2S q lo hi young old worth x y i v W' := by
  intro i v W W' h e
  match i with
  | 0 => exact h
  | 1 => exact h
  | 2 => exact h
  | 3 => exact h
  | 4 => exact h
  | 5 => exact h
  | 6 => exact h
  | k + 7 => exact trivial
def en2Ok (q : Nat) (lo hi young old worth x y : Int) (Q : Exit → Act → World → Prop) (a : Act) (W : World) (ix : Nat) (o : Oper) : Prop :=
  (∀ j b, o.guard = some (j, b) → a.eval (.tmp (en2D j)) = .bool b) ∧ o.wp Tryz.prog a W (fun a'' W' => ∃ v, a'' = a.put o.dst v ∧ en2S q lo hi young old worth x y ix v W' ∧ Below W.heap.size W W') Q
section
variable {q : Nat} {lo hi young old worth x y : Int} {Q : Exit → Act → World → Prop} {a : Act} {V W : World} {o : Oper}
set_option maxHeartbeats 1000000 in
theorem en2_op0 (o1 : a.eval (.tmp 1) = .pointer (some ⟨q, 0, none⟩)) (c0 : ∀ W, Ext V W → W.cell? ⟨q, 0, none⟩ = some (.int .i64 lo)) (c1 : ∀ W, Ext V W → W.cell? ⟨q, 1, none⟩ = some (.int .i64 hi)) (c2 : ∀ W, Ext V W → W.cell? ⟨q, 2, none⟩ = some (.int .i64 young)) (c3 : ∀ W, Ext V W → W.cell? ⟨q, 3, none⟩ = some (.int .i64 old)) (c4 : ∀ W, Ext V W → W.cell? ⟨q, 4, none⟩ = some (.int .i64 worth)) (hB : Ext V W) (ho : en2Reg[0]? = some o) : en2Ok q lo hi young old worth x y Q a W 0 o := by
  have hop := op_at ho (·.op) (x := Op.load 56 (Operand.tmp 1)) (by kernel_rfl)
  have hgd := op_at ho (·.guard) (x := none) (by kernel_rfl)
  refine ⟨fun j b h => (by rw [hgd] at h; cases h), ?_⟩
  have c0' := c0 W hB
  have c1' := c1 W hB
  have c2' := c2 W hB
  have c3' := c3 W hB
  have c4' := c4 W hB
  exact specs_value (R := fun v W => en2S q lo hi young old worth x y 0 v W) (v := .agg #[.int .i64 lo, .int .i64 hi, .int .i64 young, .int .i64 old, .int .i64 worth]) (by simp [execOp, hop, go_sem, ev o1, c0', c1', c2', c3', c4']) rfl (Ext.refl W)
set_option maxHeartbeats 1000000 in
theorem en2_op1 (o3 : a.eval (.tmp 3) = .func (.func 103) #[] #[.pointer (some ⟨q, 0, none⟩)]) (ho : en2Reg[1]? = some o) : en2Ok q lo hi young old worth x y Q a W 1 o := by
  have hop := op_at ho (·.op) (x := Op.move (Operand.tmp 3)) (by kernel_rfl)
  have hgd := op_at ho (·.guard) (x := none) (by kernel_rfl)
  refine ⟨fun j b h => (by rw [hgd] at h; cases h), ?_⟩
  exact specs_value (R := fun v W => en2S q lo hi young old worth x y 1 v W) (v := .func (.func 103) #[] #[.pointer (some ⟨q, 0, none⟩)]) (by simp [execOp, hop, go_sem, ev o3]) rfl (Ext.refl W)
set_option maxHeartbeats 1000000 in
theorem en2_op2 (k1 : ∀ W, Ext V W → Calls Tryz.prog 103 #[.func (.func 104) #[] #[], .pointer (some ⟨q, 0, none⟩)] W fun e w' => e = .returned (.int .i64 x) ∧ Ext W w') (eg : ∀ args w, (callFunc 103 args).run Tryz.prog w = .ok (.enter 103 args) w) (hB : Ext V W) (haft : ∀ j, (o.after.any fun e => decide (e.on = j) && Region.binds .any e) = true → en2S q lo hi young old worth x y j (a.eval (.tmp (en2D j))) W) (ho : en2Reg[2]? = some o) : en2Ok q lo hi young old worth x y Q a W 2 o := by
  have hop := op_at ho (·.op) (x := Op.call { callee := Callee.value (Operand.tmp 6), args := #[Operand.func 104], argTypes := #[133] }) (by kernel_rfl)
  have hgd := op_at ho (·.guard) (x := none) (by kernel_rfl)
  have e1 : a.eval (.tmp 6) = .func (.func 103) #[] #[.pointer (some ⟨q, 0, none⟩)] := haft 1 (op_at ho (fun o => o.after.any fun e => decide (e.on = 1) && Region.binds .any e) (x := true) (by kernel_rfl))
  refine ⟨fun j b h => (by rw [hgd] at h; cases h), ?_⟩
  refine specs_call (R := fun v W => en2S q lo hi young old worth x y 2 v W) (f := 103) (args := #[.func (.func 104) #[] #[], .pointer (some ⟨q, 0, none⟩)]) (by simp [execOp, hop, go_sem, ev e1, eg]) ((k1 W hB).mono ?_)
  rintro e w' ⟨rfl, h3⟩
  exact ⟨_, rfl, rfl, h3⟩
set_option maxHeartbeats 1000000 in
theorem en2_op3 (o3 : a.eval (.tmp 3) = .func (.func 103) #[] #[.pointer (some ⟨q, 0, none⟩)]) (ho : en2Reg[3]? = some o) : en2Ok q lo hi young old worth x y Q a W 3 o := by
  have hop := op_at ho (·.op) (x := Op.move (Operand.tmp 3)) (by kernel_rfl)
  have hgd := op_at ho (·.guard) (x := none) (by kernel_rfl)
  refine ⟨fun j b h => (by rw [hgd] at h; cases h), ?_⟩
  exact specs_value (R := fun v W => en2S q lo hi young old worth x y 3 v W) (v := .func (.func 103) #[] #[.pointer (some ⟨q, 0, none⟩)]) (by simp [execOp, hop, go_sem, ev o3]) rfl (Ext.refl W)
set_option maxHeartbeats 1000000 in
theorem en2_op4 (k2 : ∀ W, Ext V W → Calls Tryz.prog 103 #[.func (.func 105) #[] #[], .pointer (some ⟨q, 0, none⟩)] W fun e w' => e = .returned (.int .i64 y) ∧ Ext W w') (eg : ∀ args w, (callFunc 103 args).run Tryz.prog w = .ok (.enter 103 args) w) (hB : Ext V W) (haft : ∀ j, (o.after.any fun e => decide (e.on = j) && Region.binds .any e) = true → en2S q lo hi young old worth x y j (a.eval (.tmp (en2D j))) W) (ho : en2Reg[4]? = some o) : en2Ok q lo hi young old worth x y Q a W 4 o := by
  have hop := op_at ho (·.op) (x := Op.call { callee := Callee.value (Operand.tmp 8), args := #[Operand.func 105], argTypes := #[133] }) (by kernel_rfl)
  have hgd := op_at ho (·.guard) (x := none) (by kernel_rfl)
  have e3 : a.eval (.tmp 8) = .func (.func 103) #[] #[.pointer (some ⟨q, 0, none⟩)] := haft 3 (op_at ho (fun o => o.after.any fun e => decide (e.on = 3) && Region.binds .any e) (x := true) (by kernel_rfl))
  refine ⟨fun j b h => (by rw [hgd] at h; cases h), ?_⟩
  refine specs_call (R := fun v W => en2S q lo hi young old worth x y 4 v W) (f := 103) (args := #[.func (.func 105) #[] #[], .pointer (some ⟨q, 0, none⟩)]) (by simp [execOp, hop, go_sem, ev e3, eg]) ((k2 W hB).mono ?_)
  rintro e w' ⟨rfl, h3⟩
  exact ⟨_, rfl, rfl, h3⟩
set_option maxHeartbeats 1000000 in
theorem en2_op5 (haft : ∀ j, (o.after.any fun e => decide (e.on = j) && Region.binds .any e) = true → en2S q lo hi young old worth x y j (a.eval (.tmp (en2D j))) W) (ho : en2Reg[5]? = some o) : en2Ok q lo hi young old worth x y Q a W 5 o := by
  have hop := op_at ho (·.op) (x := Op.build 26 #[(0, Operand.tmp 7), (1, Operand.tmp 9)]) (by kernel_rfl)
  have hgd := op_at ho (·.guard) (x := none) (by kernel_rfl)
  have e2 : a.eval (.tmp 7) = .int .i64 x := haft 2 (op_at ho (fun o => o.after.any fun e => decide (e.on = 2) && Region.binds .any e) (x := true) (by kernel_rfl))
  have e4 : a.eval (.tmp 9) = .int .i64 y := haft 4 (op_at ho (fun o => o.after.any fun e => decide (e.on = 4) && Region.binds .any e) (x := true) (by kernel_rfl))
  refine ⟨fun j b h => (by rw [hgd] at h; cases h), ?_⟩
  exact specs_value (R := fun v W => en2S q lo hi young old worth x y 5 v W) (v := .agg #[.int .i64 x, .int .i64 y]) (by simp [execOp, hop, go_sem, ev e2, ev e4]) rfl (Ext.refl W)
set_option maxHeartbeats 1000000 in
theorem en2_op6 (haft : ∀ j, (o.after.any fun e => decide (e.on = j) && Region.binds .any e) = true → en2S q lo hi young old worth x y j (a.eval (.tmp (en2D j))) W) (ho : en2Reg[6]? = some o) : en2Ok q lo hi young old worth x y Q a W 6 o := by
  have hop := op_at ho (·.op) (x := Op.build 80 #[(0, Operand.tmp 5), (1, Operand.tmp 10)]) (by kernel_rfl)
  have hgd := op_at ho (·.guard) (x := none) (by kernel_rfl)
  have e0 : a.eval (.tmp 5) = .agg #[.int .i64 lo, .int .i64 hi, .int .i64 young, .int .i64 old, .int .i64 worth] := haft 0 (op_at ho (fun o => o.after.any fun e => decide (e.on = 0) && Region.binds .any e) (x := true) (by kernel_rfl))
  have e5 : a.eval (.tmp 10) = .agg #[.int .i64 x, .int .i64 y] := haft 5 (op_at ho (fun o => o.after.any fun e => decide (e.on = 5) && Region.binds .any e) (x := true) (by kernel_rfl))
  refine ⟨fun j b h => (by rw [hgd] at h; cases h), ?_⟩
  exact specs_value (R := fun v W => en2S q lo hi young old worth x y 6 v W) (v := .agg #[.int .i64 lo, .int .i64 hi, .int .i64 young, .int .i64 old, .int .i64 worth, .int .i64 x, .int .i64 y]) (by simp [execOp, hop, go_sem, ev e0, ev e5]) rfl (Ext.refl W)
set_option maxRecDepth 100000 in
set_option maxHeartbeats 4000000 in
/-- Region 2 of function 84. -/
theorem en2_wp {id : Nat} (hlen : a.tmps.size = 12) (o1 : a.eval (.tmp 1) = .pointer (some ⟨q, 0, none⟩)) (o3 : a.eval (.tmp 3) = .func (.func 103) #[] #[.pointer (some ⟨q, 0, none⟩)]) (c0 : ∀ W, Ext V W → W.cell? ⟨q, 0, none⟩ = some (.int .i64 lo)) (c1 : ∀ W, Ext V W → W.cell? ⟨q, 1, none⟩ = some (.int .i64 hi)) (c2 : ∀ W, Ext V W → W.cell? ⟨q, 2, none⟩ = some (.int .i64 young)) (c3 : ∀ W, Ext V W → W.cell? ⟨q, 3, none⟩ = some (.int .i64 old)) (c4 : ∀ W, Ext V W → W.cell? ⟨q, 4, none⟩ = some (.int .i64 worth)) (k1 : ∀ W, Ext V W → Calls Tryz.prog 103 #[.func (.func 104) #[] #[], .pointer (some ⟨q, 0, none⟩)] W fun e w' => e = .returned (.int .i64 x) ∧ Ext W w') (eg : ∀ args w, (callFunc 103 args).run Tryz.prog w = .ok (.enter 103 args) w) (k2 : ∀ W, Ext V W → Calls Tryz.prog 103 #[.func (.func 105) #[] #[], .pointer (some ⟨q, 0, none⟩)] W fun e w' => e = .returned (.int .i64 y) ∧ Ext W w') (K : (∀ W, Ext V W → wpList Tryz.prog en2Reg Q (en2Reg.toList.drop 7) (puts a [(5, .agg #[.int .i64 lo, .int .i64 hi, .int .i64 young, .int .i64 old, .int .i64 worth]), (6, .func (.func 103) #[] #[.pointer (some ⟨q, 0, none⟩)]), (7, .int .i64 x), (8, .func (.func 103) #[] #[.pointer (some ⟨q, 0, none⟩)]), (9, .int .i64 y), (10, .agg #[.int .i64 x, .int .i64 y]), (11, .agg #[.int .i64 lo, .int .i64 hi, .int .i64 young, .int .i64 old, .int .i64 worth, .int .i64 x, .int .i64 y])]) W)) : (Code.region id en2Reg true).wp Tryz.prog Q a V := by
  refine wp_region_specs_sink (ops := en2Reg) 7 (en2S q lo hi young old worth x y) (Ext V) (by kernel_rfl) (by rw [hlen]; kernel_rfl) (by kernel_rfl) ⟨rfl, rfl, rfl, Nat.le_refl _, fun _ _ => rfl⟩ (fun _ _ h e => h.trans e) en2S_ext en2D (by kernel_rfl) ?_ ?_
  · intro i o hi ho a' W hB hsz hold haft
    match i, hi with
    | 0, _ => exact en2_op0 ((hold 1 (by kernel_rfl)).trans o1) c0 c1 c2 c3 c4 hB ho
    | 1, _ => exact en2_op1 ((hold 3 (by kernel_rfl)).trans o3) ho
    | 2, _ => exact en2_op2 k1 eg hB haft ho
    | 3, _ => exact en2_op3 ((hold 3 (by kernel_rfl)).trans o3) ho
    | 4, _ => exact en2_op4 k2 eg hB haft ho
    | 5, _ => exact en2_op5 haft ho
    | 6, _ => exact en2_op6 haft ho
    | m + 7, h => exact absurd h (by omega)
  · intro a1 W hB hsz hdf hold hS
    have hall : ∀ zz, zz ∈ ([(5, .agg #[.int .i64 lo, .int .i64 hi, .int .i64 young, .int .i64 old, .int .i64 worth]), (6, .func (.func 103) #[] #[.pointer (some ⟨q, 0, none⟩)]), (7, .int .i64 x), (8, .func (.func 103) #[] #[.pointer (some ⟨q, 0, none⟩)]), (9, .int .i64 y), (10, .agg #[.int .i64 x, .int .i64 y]), (11, .agg #[.int .i64 lo, .int .i64 hi, .int .i64 young, .int .i64 old, .int .i64 worth, .int .i64 x, .int .i64 y])] : List (Tmp × Value)) → zz.1 < a.tmps.size ∧ a1.eval (.tmp zz.1) = zz.2 := by
      intro zz hz
      rw [hlen]
      simp only [List.mem_cons, List.not_mem_nil, or_false] at hz
      rcases hz with rfl | rfl | rfl | rfl | rfl | rfl | rfl
      · exact ⟨(show (5 : Nat) < 12 by omega), hS 0 (by omega)⟩
      · exact ⟨(show (6 : Nat) < 12 by omega), hS 1 (by omega)⟩
      · exact ⟨(show (7 : Nat) < 12 by omega), hS 2 (by omega)⟩
      · exact ⟨(show (8 : Nat) < 12 by omega), hS 3 (by omega)⟩
      · exact ⟨(show (9 : Nat) < 12 by omega), hS 4 (by omega)⟩
      · exact ⟨(show (10 : Nat) < 12 by omega), hS 5 (by omega)⟩
      · exact ⟨(show (11 : Nat) < 12 by omega), hS 6 (by omega)⟩
    have ha := act_puts hsz hdf hall (fun t ht => hold t (all_ne_of (l := [(5, .agg #[.int .i64 lo, .int .i64 hi, .int .i64 young, .int .i64 old, .int .i64 worth]), (6, .func (.func 103) #[] #[.pointer (some ⟨q, 0, none⟩)]), (7, .int .i64 x), (8, .func (.func 103) #[] #[.pointer (some ⟨q, 0, none⟩)]), (9, .int .i64 y), (10, .agg #[.int .i64 x, .int .i64 y]), (11, .agg #[.int .i64 lo, .int .i64 hi, .int .i64 young, .int .i64 old, .int .i64 worth, .int .i64 x, .int .i64 y])]) (by kernel_rfl) ht))
    rw [ha]
    exact K W  hB 
end
end Go.Proofs.YtmlmnljbegcjcaaGreat
