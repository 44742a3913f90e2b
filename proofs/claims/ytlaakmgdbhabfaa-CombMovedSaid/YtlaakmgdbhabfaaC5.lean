/- Texts of one package, joined: Laws, Sheet. -/
import Derived.Test.YtlaakmgdbhabfaaC4
import Derived.StillTail
import Derived.Laws.Rows
import Derived.Laws.Tables
import Derived.Deep.WholeRow
import Derived.Deep.AppendLies
import Derived.Deep.DrawnRows
import Derived.OwnWalk
import Derived.IntWalk
import Derived.Deep.CutRange
import Derived.StillTailTactics
/- Laws that know nothing of the package: memory that grows, rows, drawing regions. -/
namespace Go.Proofs.Ytlaakmgdbhabfaa
open Go.RowKit Go.Shelf

theorem countP_step {α : Type} (p q : α → Bool) (x : α) : ∀ l : List α, (∀ y, q y = true → p y = true) → x ∈ l → p x = true → q x = false → l.countP q < l.countP p
  | [], _, hx, _, _ => absurd hx (by simp)
  | y :: l, h, hx, hp, hq => by
    have hle : l.countP q ≤ l.countP p := List.countP_mono_left fun z _ => h z
    rw [List.countP_cons, List.countP_cons]
    rcases List.mem_cons.1 hx with e | hx'
    · subst e
      simp [hp, hq]
      omega
    · have := countP_step p q x l h hx' hp hq
      by_cases hy : q y = true
      · simp [hy, h y hy]; omega
      · simp [hy]; split <;> omega



/-- The slot of the i-th operation. -/
def slot (ops : Array Oper) (i : Nat) : Tmp := ((ops[i]?).bind (·.dst)).getD 0
/-- Each operation has a slot of its own below n, and waits for earlier ones alone. -/
def slotsB (ops : Array Oper) (n : Nat) : Bool :=
  (List.range ops.size).all fun i => match ops[i]? with
    | some o => (match o.dst with | some d => decide (d < n) | none => false) && o.after.toList.all (fun e => decide (e.on < i)) && (match o.guard with | some g => decide (g.1 < i) | none => true) && (List.range i).all fun j => decide (slot ops j ≠ slot ops i)
    | none => false
theorem eval_put_same {a : Act} {d : Tmp} {v : Value} (h : d < a.tmps.size) : (a.put (some d) v).eval (.tmp d) = v := by
  simp [Act.put, Act.eval, h]
theorem eval_put_other {a : Act} {d t : Tmp} {v : Value} (h : t ≠ d) : (a.put (some d) v).eval (.tmp t) = a.eval (.tmp t) := by
  simp [Act.put, Act.eval, Array.getElem?_setIfInBounds_ne (Ne.symm h)]

section
variable {P : Program} {ops : Array Oper} {Q : Exit → Act → World → Prop}

structure SpecsAt (ops : Array Oper) (S : Nat → Value → World → Prop) (B : World → Prop) (a0 : Act) (listed : Array Bool) (a : Act) (W : World) : Prop where
  size : listed.size = ops.size
  tmps : a.tmps.size = a0.tmps.size
  defers : a.defers = a0.defers
  base : B W
  old : ∀ t, (∀ i, i < ops.size → slot ops i ≠ t) → a.eval (.tmp t) = a0.eval (.tmp t)
  got : ∀ i, i < ops.size → listed.getD i false = true → S i (a.eval (.tmp (slot ops i))) W

theorem getD_two {l : Array Bool} {i : Nat} (h : i < l.size) : l.getD i true = l.getD i false := by simp [h]

/-- An operation's guard holds if the slot of the one that it waits for says so. -/
theorem wanted_of {o : Oper} {a : Act} (hd : ∀ g, o.guard = some g → ∃ o', ops[g.1]? = some o' ∧ o'.dst = some (slot ops g.1)) (h : ∀ j b, o.guard = some (j, b) → a.eval (.tmp (slot ops j)) = .bool b) : Region.wanted o (yielded ops a.tmps) = true := by
  unfold Region.wanted
  cases hg : o.guard with
  | none => rfl
  | some g =>
    obtain ⟨j, b⟩ := g
    have h1 := h j b hg
    obtain ⟨o', ho, hd'⟩ := hd _ hg
    have h2 : a.tmps[slot ops j]? = some (.bool b) := by
      simp only [Act.eval, Array.getD_eq_getD_getElem?] at h1
      cases hx : a.tmps[slot ops j]? with
      | none => rw [hx] at h1; cases h1
      | some x => rw [hx] at h1; simp at h1; rw [h1]
    simp [yielded, ho, hd', h2]

/-- An operation that yields a value. -/
theorem specs_value {o : Oper} {a : Act} {W W' : World} {v : Value} {R : Value → World → Prop} (hr : (execOp a.eval o).run P W = .ok (.value v) W') (hS : R v W') (hb : Below W.heap.size W W') :
    o.wp P a W (fun a'' W'' => ∃ v, a'' = a.put o.dst v ∧ R v W'' ∧ Below W.heap.size W W'') Q := by
  unfold Oper.wp
  rw [hr]
  exact ⟨v, rfl, hS, hb⟩
/-- An operation that calls. -/
theorem specs_call {o : Oper} {a : Act} {W : World} {f : FuncId} {args : Array Value} {R : Value → World → Prop} (hr : (execOp a.eval o).run P W = .ok (.enter f args) W)
    (hc : Calls P f args W fun e w' => ∃ v, e = .returned v ∧ R v w' ∧ Below W.heap.size W w') :
    o.wp P a W (fun a'' W'' => ∃ v, a'' = a.put o.dst v ∧ R v W'' ∧ Below W.heap.size W W'') Q := by
  unfold Oper.wp
  rw [hr]
  refine hc.mono ?_
  rintro e w' ⟨v, rfl, hR, hb⟩
  exact ⟨v, rfl, hR, hb⟩
end



/-- Each of the first m operations has a slot of its own below n, and waits for earlier ones alone. -/
def slotsTo (ops : Array Oper) (m n : Nat) : Bool :=
  decide (m ≤ ops.size) && (List.range m).all fun i => match ops[i]? with
    | some o => (match o.dst with | some d => decide (d < n) | none => false) && o.after.toList.all (fun e => decide (e.on < i)) && (match o.guard with | some g => decide (g.1 < i) | none => true) && (List.range i).all fun j => decide (slot ops j ≠ slot ops i)
    | none => false
/-- Each of the others waits for all before it. -/
def tailB (ops : Array Oper) (m : Nat) : Bool :=
  (List.range ops.size).all fun i => decide (i < m) || match ops[i]? with
    | some o => ((List.range i).all fun j => o.after.any fun e => decide (e.on = j) && Region.binds .any e) && o.after.toList.all fun e => decide (e.on < i)
    | none => false
theorem slotsTo_spec {ops : Array Oper} {m n : Nat} (h : slotsTo ops m n = true) : m ≤ ops.size ∧
    (∀ i o, i < m → ops[i]? = some o → o.dst = some (slot ops i) ∧ slot ops i < n ∧ (∀ e ∈ o.after, e.on < i) ∧ ∀ g, o.guard = some g → g.1 < i) ∧ ∀ i j, i < m → j < m → slot ops i = slot ops j → i = j := by
  simp only [slotsTo, Bool.and_eq_true, decide_eq_true_eq] at h
  obtain ⟨hm, h⟩ := h
  have key : ∀ i o, i < m → ops[i]? = some o → (o.dst = some (slot ops i) ∧ slot ops i < n ∧ (∀ e ∈ o.after, e.on < i) ∧ ∀ g, o.guard = some g → g.1 < i) ∧ ∀ j, j < i → slot ops j ≠ slot ops i := by
    intro i o him ho
    have h1 := List.all_eq_true.1 h i (List.mem_range.2 him)
    rw [ho] at h1
    simp only [Bool.and_eq_true, List.all_eq_true, decide_eq_true_eq, List.mem_range] at h1
    obtain ⟨⟨⟨h2, h3⟩, h5⟩, h4⟩ := h1
    cases hd : o.dst with
    | none => rw [hd] at h2; cases h2
    | some d =>
      rw [hd] at h2
      have hs : slot ops i = d := by simp [slot, ho, hd]
      rw [hs]
      refine ⟨⟨rfl, by simpa using h2, fun e he => h3 e (by simpa using he), fun g hg => by rw [hg] at h5; simpa using h5⟩, fun j hj => by rw [← hs]; exact h4 j hj⟩
  refine ⟨hm, fun i o hi ho => (key i o hi ho).1, fun i j hi hj e => ?_⟩
  rcases Nat.lt_trichotomy i j with hl | hl | hl
  · exact absurd e ((key j _ hj (Array.getElem?_eq_getElem (by omega))).2 i hl)
  · exact hl
  · exact absurd e.symm ((key i _ hi (Array.getElem?_eq_getElem (by omega))).2 j hl)
section
variable {P : Program} {ops : Array Oper} {Q : Exit → Act → World → Prop}

structure SpecsTo (ops : Array Oper) (m : Nat) (S : Nat → Value → World → Prop) (B : World → Prop) (a0 : Act) (listed : Array Bool) (a : Act) (W : World) : Prop where
  size : listed.size = ops.size
  tmps : a.tmps.size = a0.tmps.size
  defers : a.defers = a0.defers
  base : B W
  old : ∀ t, (∀ i, i < m → slot ops i ≠ t) → a.eval (.tmp t) = a0.eval (.tmp t)
  got : ∀ i, i < m → listed.getD i false = true → S i (a.eval (.tmp (slot ops i))) W
  tail : ∀ i, m ≤ i → i < ops.size → listed.getD i false = false

end



/-- Each of the first m operations has a slot of its own below n, and waits for earlier ones alone. -/
def slotsFr (ops : Array Oper) (m n : Nat) : Bool :=
  decide (m ≤ ops.size) && (List.range m).all fun i => match ops[i]? with
    | some o => (match o.dst with | some d => decide (d < n) | none => false) && o.after.toList.all (fun e => !Region.binds .any e || decide (e.on < i)) && (match o.guard with | some g => decide (g.1 < i) | none => true) && (List.range i).all fun j => decide (slot ops j ≠ slot ops i)
    | none => false
/-- Each of the others waits for all before it. -/
def tailF (ops : Array Oper) (m : Nat) : Bool :=
  (List.range ops.size).all fun i => decide (i < m) || match ops[i]? with
    | some o => ((List.range i).all fun j => o.after.any fun e => decide (e.on = j) && Region.binds .any e) && o.after.toList.all fun e => !Region.binds .any e || decide (e.on < i)
    | none => false
theorem slotsFr_spec {ops : Array Oper} {m n : Nat} (h : slotsFr ops m n = true) : m ≤ ops.size ∧
    (∀ i o, i < m → ops[i]? = some o → o.dst = some (slot ops i) ∧ slot ops i < n ∧ (∀ e ∈ o.after, Region.binds .any e = true → e.on < i) ∧ ∀ g, o.guard = some g → g.1 < i) ∧ ∀ i j, i < m → j < m → slot ops i = slot ops j → i = j := by
  simp only [slotsFr, Bool.and_eq_true, decide_eq_true_eq] at h
  obtain ⟨hm, h⟩ := h
  have key : ∀ i o, i < m → ops[i]? = some o → (o.dst = some (slot ops i) ∧ slot ops i < n ∧ (∀ e ∈ o.after, Region.binds .any e = true → e.on < i) ∧ ∀ g, o.guard = some g → g.1 < i) ∧ ∀ j, j < i → slot ops j ≠ slot ops i := by
    intro i o him ho
    have h1 := List.all_eq_true.1 h i (List.mem_range.2 him)
    rw [ho] at h1
    simp only [Bool.and_eq_true, List.all_eq_true, decide_eq_true_eq, List.mem_range] at h1
    obtain ⟨⟨⟨h2, h3⟩, h5⟩, h4⟩ := h1
    cases hd : o.dst with
    | none => rw [hd] at h2; cases h2
    | some d =>
      rw [hd] at h2
      have hs : slot ops i = d := by simp [slot, ho, hd]
      rw [hs]
      refine ⟨⟨rfl, by simpa using h2, fun e he hb => by have := h3 e (by simpa using he); rw [hb] at this; simpa using this, fun g hg => by rw [hg] at h5; simpa using h5⟩, fun j hj => by rw [← hs]; exact h4 j hj⟩
  refine ⟨hm, fun i o hi ho => (key i o hi ho).1, fun i j hi hj e => ?_⟩
  rcases Nat.lt_trichotomy i j with hl | hl | hl
  · exact absurd e ((key j _ hj (Array.getElem?_eq_getElem (by omega))).2 i hl)
  · exact hl
  · exact absurd e.symm ((key i _ hi (Array.getElem?_eq_getElem (by omega))).2 j hl)
theorem tailF_spec {ops : Array Oper} {m : Nat} (h : tailF ops m = true) (i : Nat) (o : Oper) (hi : m ≤ i) (ho : ops[i]? = some o) : (∀ j, j < i → ∃ e, e ∈ o.after ∧ e.on = j ∧ Region.binds .any e = true) ∧ ∀ e ∈ o.after, Region.binds .any e = true → e.on < i := by
  have h1 := List.all_eq_true.1 h i (List.mem_range.2 (Array.getElem?_eq_some_iff.1 ho).1)
  rw [ho] at h1
  simp only [Bool.or_eq_true, decide_eq_true_eq, Bool.and_eq_true, List.all_eq_true, List.mem_range] at h1
  rcases h1 with h1 | ⟨h1, h2⟩
  · omega
  · refine ⟨fun j hj => ?_, fun e he hb => by have := h2 e (by simpa using he); rw [hb] at this; simpa using this⟩
    obtain ⟨e, he, hb⟩ := Array.any_eq_true'.1 (h1 j hj)
    simp only [Bool.and_eq_true, decide_eq_true_eq] at hb
    exact ⟨e, he, hb⟩

section
variable {P : Program} {ops : Array Oper} {Q : Exit → Act → World → Prop}

theorem wpAny_tailF {m : Nat} (ht : tailF ops m = true) : ∀ (fuel k : Nat) (listed : Array Bool) (a : Act) (w : World), listed.size = ops.size → m ≤ k → k ≤ ops.size → ops.size - k ≤ fuel → (∀ j, j < k → listed.getD j false = true) →
    (∀ j, k ≤ j → j < ops.size → listed.getD j false = false) → wpList P ops Q (ops.toList.drop k) a w → wpAny P .any ops Q fuel listed a w := by
  intro fuel
  induction fuel with
  | zero =>
    intro k listed a w hsz hmk hk hf h1 h2 H
    obtain rfl : k = ops.size := by omega
    rw [List.drop_eq_nil_of_le (by simp)] at H
    refine wpAny_done (List.eq_nil_iff_forall_not_mem.2 fun i hi => ?_) H 0
    obtain ⟨g1, o, ho, _⟩ := mem_ready.1 hi
    have hil := (Array.getElem?_eq_some_iff.1 ho).1
    rw [getD_two (by rw [hsz]; exact hil), h1 i hil] at g1
    cases g1
  | succ fuel ih =>
    intro k listed a w hsz hmk hk hf h1 h2 H
    rcases Nat.lt_or_ge k ops.size with hlt | hge
    · have ho := Array.getElem?_eq_getElem hlt
      have hd : ops.toList.drop k = ops[k] :: ops.toList.drop (k + 1) := by
        rw [List.drop_eq_getElem_cons (by simpa using hlt)]
        simp
      rw [hd] at H
      have hkr : k ∈ Region.ready .any ops listed := mem_ready.2 ⟨by rw [getD_two (by rw [hsz]; exact hlt)]; exact h2 k (Nat.le_refl _) hlt, _, ho, fun e he hb => h1 _ ((tailF_spec ht k _ hmk ho).2 e he hb)⟩
      refine ⟨fun e => absurd (e ▸ hkr) (by simp), fun i hi => ?_⟩
      obtain ⟨g1, o, hoi, haft⟩ := mem_ready.1 hi
      have hil := (Array.getElem?_eq_some_iff.1 hoi).1
      have hik : i = k := by
        rcases Nat.lt_trichotomy i k with hl | hl | hl
        · rw [getD_two (by rw [hsz]; exact hil), h1 i hl] at g1
          cases g1
        · exact hl
        · obtain ⟨e, he, hon, hb⟩ := (tailF_spec ht i o (by omega) hoi).1 k hl
          have := haft e he hb
          rw [hon, h2 k (Nat.le_refl _) hlt] at this
          cases this
      subst hik
      have next : ∀ a' w', wpList P ops Q (ops.toList.drop (i + 1)) a' w' → wpAny P .any ops Q fuel (listed.setIfInBounds i true) a' w' := fun a' w' h => by
        refine ih (i + 1) _ a' w' (by simp [hsz]) (by omega) hlt (by omega) (fun j hj => ?_) (fun j hj hjl => ?_) h
        · by_cases e : i = j
          · subst e
            have : i < listed.size := by rw [hsz]; exact hlt
            simp [this]
          · rw [getD_set_ne false e]
            exact h1 j (by omega)
        · rw [getD_set_ne false (by omega)]
          exact h2 j (by omega) hjl
      unfold wpOp
      rw [ho]
      simp only [wpList] at H
      simp only []
      split
      · rename_i hw
        rw [if_pos hw] at H
        exact H.imp (Oper.wp_mono next) id
      · rename_i hw
        rw [if_neg hw] at H
        exact next _ _ H
    · obtain rfl : k = ops.size := by omega
      rw [List.drop_eq_nil_of_le (by simp)] at H
      refine wpAny_done (List.eq_nil_iff_forall_not_mem.2 fun i hi => ?_) H _
      obtain ⟨g1, o, ho, _⟩ := mem_ready.1 hi
      have hil := (Array.getElem?_eq_some_iff.1 ho).1
      rw [getD_two (by rw [hsz]; exact hil), h1 i hil] at g1
      cases g1

structure SpecsFr (ops : Array Oper) (m : Nat) (S : Nat → Value → World → Prop) (B : World → Prop) (a0 : Act) (listed : Array Bool) (a : Act) (W : World) : Prop where
  size : listed.size = ops.size
  tmps : a.tmps.size = a0.tmps.size
  defers : a.defers = a0.defers
  base : B W
  old : ∀ t, (∀ i, i < m → slot ops i ≠ t) → a.eval (.tmp t) = a0.eval (.tmp t)
  got : ∀ i, i < m → listed.getD i false = true → S i (a.eval (.tmp (slot ops i))) W
  tail : ∀ i, m ≤ i → i < ops.size → listed.getD i false = false

theorem wp_region_specs_free {id : Nat} {a : Act} {w : World} (m : Nat) (S : Nat → Value → World → Prop) (B : World → Prop) (hm : P.follows .mixedOrders = true) (hs : slotsFr ops m a.tmps.size = true) (ht : tailF ops m = true)
    (hB0 : B { w with drawn := w.drawn + 1 }) (hBg : ∀ W W', B W → Below W.heap.size W W' → B W') (hSg : ∀ i v W W', S i v W → Below W.heap.size W W' → S i v W')
    (D : Nat → Tmp) (hD : ((List.range m).all fun i => decide (slot ops i = D i)) = true)
    (step : ∀ (i : Nat) (o : Oper), i < m → ops[i]? = some o → ∀ (a' : Act) (W : World), B W → a'.tmps.size = a.tmps.size → (∀ t, ((List.range m).all fun i => decide (D i ≠ t)) = true → a'.eval (.tmp t) = a.eval (.tmp t)) →
      (∀ j, (o.after.any fun e => decide (e.on = j) && Region.binds .any e) = true → S j (a'.eval (.tmp (D j))) W) →
      (∀ j b, o.guard = some (j, b) → a'.eval (.tmp (D j)) = .bool b) ∧ o.wp P a' W (fun a'' W' => ∃ v, a'' = a'.put o.dst v ∧ S i v W' ∧ Below W.heap.size W W') Q)
    (done : ∀ (a' : Act) (W : World), B W → a'.tmps.size = a.tmps.size → a'.defers = a.defers → (∀ t, ((List.range m).all fun i => decide (D i ≠ t)) = true → a'.eval (.tmp t) = a.eval (.tmp t)) →
      (∀ i, i < m → S i (a'.eval (.tmp (D i))) W) → wpList P ops Q (ops.toList.drop m) a' W) : (Code.region id ops true).wp P Q a w := by
  obtain ⟨hmo, hd, hap⟩ := slotsFr_spec hs
  have hD' : ∀ i, i < m → slot ops i = D i := fun i hi => by simpa using List.all_eq_true.1 hD i (List.mem_range.2 hi)
  have hoT : ∀ t, ((List.range m).all fun i => decide (D i ≠ t)) = true → ∀ i, i < m → slot ops i ≠ t := fun t ht i hi => by
    rw [hD' i hi]
    simpa using List.all_eq_true.1 ht i (List.mem_range.2 hi)
  refine wp_region_any hm ?_
  have aux : ∀ (fuel : Nat) (listed : Array Bool) (a' : Act) (W : World), SpecsFr ops m S B a listed a' W → (List.range m).countP (fun i => !listed.getD i true) + (ops.size - m) ≤ fuel → wpAny P .any ops Q fuel listed a' W := by
    intro fuel
    induction fuel with
    | zero =>
      intro listed a' W h hc
      have h0 : (List.range m).countP (fun i => !listed.getD i true) = 0 := by omega
      have all : ∀ i, i < m → listed.getD i false = true := fun i hi => by
        have := List.countP_eq_zero.1 h0 i (List.mem_range.2 hi)
        rw [getD_two (by rw [h.size]; omega)] at this
        simpa using this
      exact wpAny_tailF ht 0 m listed a' W h.size (Nat.le_refl _) hmo (by omega) all h.tail (done a' W h.base h.tmps h.defers (fun t ht => h.old t (hoT t ht)) fun i hi => by rw [← hD' i hi]; exact h.got i hi (all i hi))
    | succ fuel ih =>
      intro listed a' W h hc
      by_cases hall : ∀ i, i < m → listed.getD i false = true
      · exact wpAny_tailF ht _ m listed a' W h.size (Nat.le_refl _) hmo (by omega) hall h.tail (done a' W h.base h.tmps h.defers (fun t ht => h.old t (hoT t ht)) fun i hi => by rw [← hD' i hi]; exact h.got i hi (hall i hi))
      · -- the least one that is not listed is ready
        have hne : Region.ready .any ops listed ≠ [] := by
          intro hr
          apply hall
          have all : ∀ n i, i ≤ n → i < m → listed.getD i false = true := by
            intro n
            induction n using Nat.strongRecOn with
            | _ n ih2 =>
              intro i hin hi
              cases hl : listed.getD i false with
              | true => rfl
              | false =>
                exfalso
                have hil : i < ops.size := by omega
                have : i ∈ Region.ready .any ops listed := mem_ready.2 ⟨by rw [getD_two (by rw [h.size]; exact hil), hl], _, Array.getElem?_eq_getElem hil, fun e he hb => by
                  have := (hd i _ hi (Array.getElem?_eq_getElem hil)).2.2.1 e he hb
                  exact ih2 e.on (by omega) e.on (Nat.le_refl _) (by omega)⟩
                rw [hr] at this
                cases this
          exact fun i hi => all i i (Nat.le_refl _) hi
        refine ⟨fun e => absurd e hne, fun i hi => ?_⟩
        obtain ⟨h1, o, ho, haft⟩ := mem_ready.1 hi
        have hil := (Array.getElem?_eq_some_iff.1 ho).1
        have him : i < m := by
          rcases Nat.lt_or_ge i m with hl | hl
          · exact hl
          · exfalso
            apply hall
            intro j hj
            obtain ⟨e, he, hon, hb⟩ := (tailF_spec ht i o hl ho).1 j (by omega)
            have := haft e he hb
            rw [hon] at this
            exact this
        obtain ⟨hg, hp⟩ := step i o him ho a' W h.base h.tmps (fun t ht => h.old t (hoT t ht)) fun j hj => by
          obtain ⟨e, he, hb⟩ := Array.any_eq_true'.1 hj
          simp only [Bool.and_eq_true, decide_eq_true_eq] at hb
          obtain ⟨rfl, hb⟩ := hb
          have hlt : e.on < m := by have := (hd i o him ho).2.2.1 e he hb; omega
          rw [← hD' _ hlt]
          exact h.got e.on hlt (haft e he hb)
        have hw : Region.wanted o (yielded ops a'.tmps) = true := wanted_of (fun g hg => by
            have hlt : g.1 < m := by have := (hd i o him ho).2.2.2 g hg; omega
            exact ⟨_, Array.getElem?_eq_getElem (by omega), (hd _ _ hlt (Array.getElem?_eq_getElem (by omega))).1⟩) fun j b hgb => by
          have hlt : j < m := by have := (hd i o him ho).2.2.2 _ hgb; simp at this; omega
          rw [hD' _ hlt]
          exact hg j b hgb
        unfold wpOp
        rw [ho]
        simp only [hw, if_true]
        refine .inl (Oper.wp_mono (fun a'' W' hh => ?_) hp)
        obtain ⟨v, rfl, hS, hb⟩ := hh
        rw [(hd i o him ho).1]
        refine ih _ _ _ ⟨by simp [h.size], by simp [Act.put, h.tmps], h.defers, hBg _ _ h.base hb, fun t ht => ?_, fun j hj hl => ?_, fun j hj hjl => ?_⟩ ?_
        · rw [eval_put_other (Ne.symm (ht i him))]
          exact h.old t ht
        · by_cases e : i = j
          · subst e
            rw [eval_put_same (by rw [h.tmps]; exact (hd i o him ho).2.1)]
            exact hS
          · rw [eval_put_other (fun e' => e (hap i j him hj e'.symm))]
            rw [getD_set_ne false e] at hl
            exact hSg _ _ _ _ (h.got j hj hl) hb
        · rw [getD_set_ne false (by omega)]
          exact h.tail j hj hjl
        · have : (List.range m).countP (fun k => !(listed.setIfInBounds i true).getD k true) < (List.range m).countP (fun k => !listed.getD k true) := by
            refine countP_step _ _ i _ (fun y hy => ?_) (List.mem_range.2 him) (by simp [h1]) ?_
            · by_cases e : i = y
              · subst e; simp [h1]
              · rw [getD_set_ne true e] at hy; exact hy
            · have : i < listed.size := by rw [h.size]; exact hil
              simp [this]
          omega
  exact aux ops.size _ a _ ⟨by simp, rfl, rfl, hB0, fun _ _ => rfl, fun i hi hl => (by rw [getD_replicate_false] at hl; cases hl), fun i _ _ => getD_replicate_false _ _⟩ (by
    have := List.countP_le_length (p := fun i => !(Array.replicate ops.size false).getD i true) (l := List.range m)
    simp only [List.length_range] at this
    omega)

/-- The slots of l get their values, one behind the other. -/
def puts (a : Act) (l : List (Tmp × Value)) : Act := l.foldl (fun a x => a.put (some x.1) x.2) a
theorem puts_size (l : List (Tmp × Value)) : ∀ a : Act, (puts a l).tmps.size = a.tmps.size ∧ (puts a l).defers = a.defers := by
  induction l with
  | nil => exact fun a => ⟨rfl, rfl⟩
  | cons x l ih => exact fun a => ⟨by rw [show puts a (x :: l) = puts (a.put (some x.1) x.2) l from rfl, (ih _).1]; simp [Act.put], (ih _).2⟩
theorem puts_eval (l : List (Tmp × Value)) : ∀ (a a' : Act), a'.tmps.size = a.tmps.size → (∀ x, x ∈ l → x.1 < a.tmps.size ∧ a'.eval (.tmp x.1) = x.2) → (∀ t, t ∉ l.map (·.1) → a'.eval (.tmp t) = a.eval (.tmp t)) → ∀ t, a'.eval (.tmp t) = (puts a l).eval (.tmp t) := by
  induction l with
  | nil => exact fun a a' _ _ h t => h t (by simp)
  | cons x l ih =>
    intro a a' hsz h1 h2 t
    refine ih (a.put (some x.1) x.2) a' (by simp [Act.put, hsz]) (fun y hy => ?_) (fun t ht => ?_) t
    · have := h1 y (List.mem_cons_of_mem _ hy)
      exact ⟨by simpa [Act.put] using this.1, this.2⟩
    · by_cases e : t = x.1
      · subst e
        have := h1 x List.mem_cons_self
        rw [eval_put_same this.1]
        exact this.2
      · rw [eval_put_other e]
        exact h2 t (by simp only [List.map_cons, List.mem_cons, not_or]; exact ⟨e, ht⟩)
/-- An activation whose slots all are known. -/
theorem act_puts {a a' : Act} {l : List (Tmp × Value)} (hsz : a'.tmps.size = a.tmps.size) (hdf : a'.defers = a.defers) (h1 : ∀ x, x ∈ l → x.1 < a.tmps.size ∧ a'.eval (.tmp x.1) = x.2) (h2 : ∀ t, t ∉ l.map (·.1) → a'.eval (.tmp t) = a.eval (.tmp t)) : a' = puts a l := by
  have he := puts_eval l a a' hsz h1 h2
  have hs := puts_size l a
  obtain ⟨tm, df⟩ := a'
  obtain ⟨tm2, df2, hp⟩ : ∃ tm2 df2, puts a l = ⟨tm2, df2⟩ := ⟨_, _, rfl⟩
  rw [hp] at he hs ⊢
  have hdf2 : df = df2 := hdf.trans hs.2.symm
  subst hdf2
  congr 1
  have hsz2 : tm.size = tm2.size := hsz.trans hs.1.symm
  refine Array.ext hsz2 fun i h1 h2 => ?_
  have := he i
  simpa [Act.eval, h1, h2] using this
end



/-- Each operation before the tail is waited for by a later one, or by the tail's first; each of the tail's waits for the one before it. -/
def tailS (ops : Array Oper) (m : Nat) : Bool :=
  ((List.range m).all fun j => (List.range (m + 1)).any fun k => decide (j < k) && Region.waitsFor .any ops k j) &&
  (List.range ops.size).all fun i => decide (i < m) || match ops[i]? with
    | some o => (decide (i = m) || Region.waitsFor .any ops i (i - 1)) && o.after.toList.all fun e => decide (e.on < i)
    | none => false
theorem tailS_spec {ops : Array Oper} {m : Nat} (h : tailS ops m = true) (i : Nat) (o : Oper) (hi : m ≤ i) (ho : ops[i]? = some o) : (m < i → ∃ e, e ∈ o.after ∧ e.on = i - 1 ∧ Region.binds .any e = true) ∧ ∀ e ∈ o.after, e.on < i := by
  simp only [tailS, Bool.and_eq_true] at h
  have h1 := List.all_eq_true.1 h.2 i (List.mem_range.2 (Array.getElem?_eq_some_iff.1 ho).1)
  rw [ho] at h1
  simp only [Bool.or_eq_true, decide_eq_true_eq, Bool.and_eq_true, List.all_eq_true] at h1
  rcases h1 with h1 | ⟨h1, h2⟩
  · omega
  · refine ⟨fun hlt => ?_, fun e he => h2 e (by simpa using he)⟩
    rcases h1 with h1 | h1
    · omega
    · obtain ⟨oj, hj, e, he, hb, hon⟩ := Region.waitsFor_spec h1
      rw [ho] at hj
      cases hj
      exact ⟨e, he, hon, hb⟩
theorem sink_spec {ops : Array Oper} {m : Nat} (h : tailS ops m = true) {listed : Array Bool} (hc : ∀ (k : Nat) (ok : Oper), k < m → ops[k]? = some ok → listed.getD k false = true → ∀ e ∈ ok.after, Region.binds .any e = true → listed.getD e.on false = true)
    (hm : ∀ (om : Oper), ops[m]? = some om → ∀ e ∈ om.after, Region.binds .any e = true → listed.getD e.on false = true) : ∀ (d j : Nat), m - j ≤ d → j < m → listed.getD j false = true := by
  simp only [tailS, Bool.and_eq_true] at h
  intro d
  induction d with
  | zero => intro j hd hj; omega
  | succ d ih =>
    intro j hd hj
    obtain ⟨k, hk, hk2⟩ := List.any_eq_true.1 (List.all_eq_true.1 h.1 j (List.mem_range.2 hj))
    simp only [Bool.and_eq_true, decide_eq_true_eq] at hk2
    have hkm := List.mem_range.1 hk
    obtain ⟨ok, hok, e, he, hb, hon⟩ := Region.waitsFor_spec hk2.2
    rw [← hon]
    by_cases e2 : k = m
    · subst e2
      exact hm ok hok e he hb
    · exact hc k ok (by omega) hok (ih k (by omega) (by omega)) e he hb

section
variable {P : Program} {ops : Array Oper} {Q : Exit → Act → World → Prop}

theorem wpAny_tailS {m : Nat} (ht : tailS ops m = true) : ∀ (fuel k : Nat) (listed : Array Bool) (a : Act) (w : World), listed.size = ops.size → m ≤ k → k ≤ ops.size → ops.size - k ≤ fuel → (∀ j, j < k → listed.getD j false = true) →
    (∀ j, k ≤ j → j < ops.size → listed.getD j false = false) → wpList P ops Q (ops.toList.drop k) a w → wpAny P .any ops Q fuel listed a w := by
  intro fuel
  induction fuel with
  | zero =>
    intro k listed a w hsz hmk hk hf h1 h2 H
    obtain rfl : k = ops.size := by omega
    rw [List.drop_eq_nil_of_le (by simp)] at H
    refine wpAny_done (List.eq_nil_iff_forall_not_mem.2 fun i hi => ?_) H 0
    obtain ⟨g1, o, ho, _⟩ := mem_ready.1 hi
    have hil := (Array.getElem?_eq_some_iff.1 ho).1
    rw [getD_two (by rw [hsz]; exact hil), h1 i hil] at g1
    cases g1
  | succ fuel ih =>
    intro k listed a w hsz hmk hk hf h1 h2 H
    rcases Nat.lt_or_ge k ops.size with hlt | hge
    · have ho := Array.getElem?_eq_getElem hlt
      have hd : ops.toList.drop k = ops[k] :: ops.toList.drop (k + 1) := by
        rw [List.drop_eq_getElem_cons (by simpa using hlt)]
        simp
      rw [hd] at H
      have hkr : k ∈ Region.ready .any ops listed := mem_ready.2 ⟨by rw [getD_two (by rw [hsz]; exact hlt)]; exact h2 k (Nat.le_refl _) hlt, _, ho, fun e he _ => h1 _ ((tailS_spec ht k _ hmk ho).2 e he)⟩
      refine ⟨fun e => absurd (e ▸ hkr) (by simp), fun i hi => ?_⟩
      obtain ⟨g1, o, hoi, haft⟩ := mem_ready.1 hi
      have hil := (Array.getElem?_eq_some_iff.1 hoi).1
      have hik : i = k := by
        rcases Nat.lt_trichotomy i k with hl | hl | hl
        · rw [getD_two (by rw [hsz]; exact hil), h1 i hl] at g1
          cases g1
        · exact hl
        · obtain ⟨e, he, hon, hb⟩ := (tailS_spec ht i o (by omega) hoi).1 (by omega)
          have := haft e he hb
          rw [hon, h2 (i - 1) (by omega) (by omega)] at this
          cases this
      subst hik
      have next : ∀ a' w', wpList P ops Q (ops.toList.drop (i + 1)) a' w' → wpAny P .any ops Q fuel (listed.setIfInBounds i true) a' w' := fun a' w' h => by
        refine ih (i + 1) _ a' w' (by simp [hsz]) (by omega) hlt (by omega) (fun j hj => ?_) (fun j hj hjl => ?_) h
        · by_cases e : i = j
          · subst e
            have : i < listed.size := by rw [hsz]; exact hlt
            simp [this]
          · rw [getD_set_ne false e]
            exact h1 j (by omega)
        · rw [getD_set_ne false (by omega)]
          exact h2 j (by omega) hjl
      unfold wpOp
      rw [ho]
      simp only [wpList] at H
      simp only []
      split
      · rename_i hw
        rw [if_pos hw] at H
        exact H.imp (Oper.wp_mono next) id
      · rename_i hw
        rw [if_neg hw] at H
        exact next _ _ H
    · obtain rfl : k = ops.size := by omega
      rw [List.drop_eq_nil_of_le (by simp)] at H
      refine wpAny_done (List.eq_nil_iff_forall_not_mem.2 fun i hi => ?_) H _
      obtain ⟨g1, o, ho, _⟩ := mem_ready.1 hi
      have hil := (Array.getElem?_eq_some_iff.1 ho).1
      rw [getD_two (by rw [hsz]; exact hil), h1 i hil] at g1
      cases g1

structure SpecsSi (ops : Array Oper) (m : Nat) (S : Nat → Value → World → Prop) (B : World → Prop) (a0 : Act) (listed : Array Bool) (a : Act) (W : World) : Prop where
  size : listed.size = ops.size
  tmps : a.tmps.size = a0.tmps.size
  defers : a.defers = a0.defers
  base : B W
  old : ∀ t, (∀ i, i < m → slot ops i ≠ t) → a.eval (.tmp t) = a0.eval (.tmp t)
  got : ∀ i, i < m → listed.getD i false = true → S i (a.eval (.tmp (slot ops i))) W
  tail : ∀ i, m ≤ i → i < ops.size → listed.getD i false = false
  closed : ∀ (k : Nat) (ok : Oper), k < m → ops[k]? = some ok → listed.getD k false = true → ∀ e ∈ ok.after, Region.binds .any e = true → listed.getD e.on false = true

theorem wp_region_specs_sink {id : Nat} {a : Act} {w : World} (m : Nat) (S : Nat → Value → World → Prop) (B : World → Prop) (hm : P.follows .mixedOrders = true) (hs : slotsTo ops m a.tmps.size = true) (ht : tailS ops m = true)
    (hB0 : B { w with drawn := w.drawn + 1 }) (hBg : ∀ W W', B W → Below W.heap.size W W' → B W') (hSg : ∀ i v W W', S i v W → Below W.heap.size W W' → S i v W')
    (D : Nat → Tmp) (hD : ((List.range m).all fun i => decide (slot ops i = D i)) = true)
    (step : ∀ (i : Nat) (o : Oper), i < m → ops[i]? = some o → ∀ (a' : Act) (W : World), B W → a'.tmps.size = a.tmps.size → (∀ t, ((List.range m).all fun i => decide (D i ≠ t)) = true → a'.eval (.tmp t) = a.eval (.tmp t)) →
      (∀ j, (o.after.any fun e => decide (e.on = j) && Region.binds .any e) = true → S j (a'.eval (.tmp (D j))) W) →
      (∀ j b, o.guard = some (j, b) → a'.eval (.tmp (D j)) = .bool b) ∧ o.wp P a' W (fun a'' W' => ∃ v, a'' = a'.put o.dst v ∧ S i v W' ∧ Below W.heap.size W W') Q)
    (done : ∀ (a' : Act) (W : World), B W → a'.tmps.size = a.tmps.size → a'.defers = a.defers → (∀ t, ((List.range m).all fun i => decide (D i ≠ t)) = true → a'.eval (.tmp t) = a.eval (.tmp t)) →
      (∀ i, i < m → S i (a'.eval (.tmp (D i))) W) → wpList P ops Q (ops.toList.drop m) a' W) : (Code.region id ops true).wp P Q a w := by
  obtain ⟨hmo, hd, hap⟩ := slotsTo_spec hs
  have hD' : ∀ i, i < m → slot ops i = D i := fun i hi => by simpa using List.all_eq_true.1 hD i (List.mem_range.2 hi)
  have hoT : ∀ t, ((List.range m).all fun i => decide (D i ≠ t)) = true → ∀ i, i < m → slot ops i ≠ t := fun t ht i hi => by
    rw [hD' i hi]
    simpa using List.all_eq_true.1 ht i (List.mem_range.2 hi)
  refine wp_region_any hm ?_
  have aux : ∀ (fuel : Nat) (listed : Array Bool) (a' : Act) (W : World), SpecsSi ops m S B a listed a' W → (List.range m).countP (fun i => !listed.getD i true) + (ops.size - m) ≤ fuel → wpAny P .any ops Q fuel listed a' W := by
    intro fuel
    induction fuel with
    | zero =>
      intro listed a' W h hc
      have h0 : (List.range m).countP (fun i => !listed.getD i true) = 0 := by omega
      have all : ∀ i, i < m → listed.getD i false = true := fun i hi => by
        have := List.countP_eq_zero.1 h0 i (List.mem_range.2 hi)
        rw [getD_two (by rw [h.size]; omega)] at this
        simpa using this
      exact wpAny_tailS ht 0 m listed a' W h.size (Nat.le_refl _) hmo (by omega) all h.tail (done a' W h.base h.tmps h.defers (fun t ht => h.old t (hoT t ht)) fun i hi => by rw [← hD' i hi]; exact h.got i hi (all i hi))
    | succ fuel ih =>
      intro listed a' W h hc
      by_cases hall : ∀ i, i < m → listed.getD i false = true
      · exact wpAny_tailS ht _ m listed a' W h.size (Nat.le_refl _) hmo (by omega) hall h.tail (done a' W h.base h.tmps h.defers (fun t ht => h.old t (hoT t ht)) fun i hi => by rw [← hD' i hi]; exact h.got i hi (hall i hi))
      · -- the least one that is not listed is ready
        have hne : Region.ready .any ops listed ≠ [] := by
          intro hr
          apply hall
          have all : ∀ n i, i ≤ n → i < m → listed.getD i false = true := by
            intro n
            induction n using Nat.strongRecOn with
            | _ n ih2 =>
              intro i hin hi
              cases hl : listed.getD i false with
              | true => rfl
              | false =>
                exfalso
                have hil : i < ops.size := by omega
                have : i ∈ Region.ready .any ops listed := mem_ready.2 ⟨by rw [getD_two (by rw [h.size]; exact hil), hl], _, Array.getElem?_eq_getElem hil, fun e he _ => by
                  have := (hd i _ hi (Array.getElem?_eq_getElem hil)).2.2.1 e he
                  exact ih2 e.on (by omega) e.on (Nat.le_refl _) (by omega)⟩
                rw [hr] at this
                cases this
          exact fun i hi => all i i (Nat.le_refl _) hi
        refine ⟨fun e => absurd e hne, fun i hi => ?_⟩
        obtain ⟨h1, o, ho, haft⟩ := mem_ready.1 hi
        have hil := (Array.getElem?_eq_some_iff.1 ho).1
        have him : i < m := by
          rcases Nat.lt_or_ge i m with hl | hl
          · exact hl
          · exfalso
            apply hall
            rcases Nat.lt_or_ge m i with hmi | hmi
            · obtain ⟨e, he, hon, hb⟩ := (tailS_spec ht i o hl ho).1 hmi
              have := haft e he hb
              rw [hon, h.tail (i - 1) (by omega) (by omega)] at this
              cases this
            · obtain rfl : i = m := by omega
              exact fun j hj => sink_spec ht h.closed (fun om hom e he hb => by rw [ho] at hom; cases hom; exact haft e he hb) _ j (Nat.le_refl _) hj
        obtain ⟨hg, hp⟩ := step i o him ho a' W h.base h.tmps (fun t ht => h.old t (hoT t ht)) fun j hj => by
          obtain ⟨e, he, hb⟩ := Array.any_eq_true'.1 hj
          simp only [Bool.and_eq_true, decide_eq_true_eq] at hb
          obtain ⟨rfl, hb⟩ := hb
          have hlt : e.on < m := by have := (hd i o him ho).2.2.1 e he; omega
          rw [← hD' _ hlt]
          exact h.got e.on hlt (haft e he hb)
        have hw : Region.wanted o (yielded ops a'.tmps) = true := wanted_of (fun g hg => by
            have hlt : g.1 < m := by have := (hd i o him ho).2.2.2 g hg; omega
            exact ⟨_, Array.getElem?_eq_getElem (by omega), (hd _ _ hlt (Array.getElem?_eq_getElem (by omega))).1⟩) fun j b hgb => by
          have hlt : j < m := by have := (hd i o him ho).2.2.2 _ hgb; simp at this; omega
          rw [hD' _ hlt]
          exact hg j b hgb
        unfold wpOp
        rw [ho]
        simp only [hw, if_true]
        refine .inl (Oper.wp_mono (fun a'' W' hh => ?_) hp)
        obtain ⟨v, rfl, hS, hb⟩ := hh
        rw [(hd i o him ho).1]
        refine ih _ _ _ ⟨by simp [h.size], by simp [Act.put, h.tmps], h.defers, hBg _ _ h.base hb, fun t ht => ?_, fun j hj hl => ?_, fun j hj hjl => ?_, fun k ok hk hok hl e he hb2 => ?_⟩ ?_
        · rw [eval_put_other (Ne.symm (ht i him))]
          exact h.old t ht
        · by_cases e : i = j
          · subst e
            rw [eval_put_same (by rw [h.tmps]; exact (hd i o him ho).2.1)]
            exact hS
          · rw [eval_put_other (fun e' => e (hap i j him hj e'.symm))]
            rw [getD_set_ne false e] at hl
            exact hSg _ _ _ _ (h.got j hj hl) hb
        · rw [getD_set_ne false (by omega)]
          exact h.tail j hj hjl
        · have up : ∀ j, listed.getD j false = true → (listed.setIfInBounds i true).getD j false = true := fun j hj => by
            by_cases e : i = j
            · subst e
              have : i < listed.size := by rw [h.size]; exact hil
              simp [this]
            · rw [getD_set_ne false e]; exact hj
          by_cases e2 : i = k
          · subst e2
            rw [ho] at hok
            cases hok
            exact up _ (haft e he hb2)
          · rw [getD_set_ne false e2] at hl
            exact up _ (h.closed k ok hk hok hl e he hb2)
        · have : (List.range m).countP (fun k => !(listed.setIfInBounds i true).getD k true) < (List.range m).countP (fun k => !listed.getD k true) := by
            refine countP_step _ _ i _ (fun y hy => ?_) (List.mem_range.2 him) (by simp [h1]) ?_
            · by_cases e : i = y
              · subst e; simp [h1]
              · rw [getD_set_ne true e] at hy; exact hy
            · have : i < listed.size := by rw [h.size]; exact hil
              simp [this]
          omega
  exact aux ops.size _ a _ ⟨by simp, rfl, rfl, hB0, fun _ _ => rfl, fun i hi hl => (by rw [getD_replicate_false] at hl; cases hl), fun i _ _ => getD_replicate_false _ _, fun k ok _ _ hl => (by rw [getD_replicate_false] at hl; cases hl)⟩ (by
    have := List.countP_le_length (p := fun i => !(Array.replicate ops.size false).getD i true) (l := List.range m)
    simp only [List.length_range] at this
    omega)
end



section
variable {P : Program} {ops : Array Oper} {Q : Exit → Act → World → Prop}
end

/-- Memory has grown, nothing that was there has turned. -/
def Ext (W W' : World) : Prop := Below W.heap.size W W'

theorem Ext.trans {a b c : World} (h : Ext a b) (g : Ext b c) : Ext a c := Below.trans h (g.mono h.size)

theorem Ext.refl (a : World) : Ext a a := Below.refl _ a

theorem Held.ext {α : Type} {w w' : World} {k : Nat} {enc : α → List Value} {A : Option Addr} {xs : List α} (h : Held w w.heap.size k enc A xs) (e : Ext w w') : Held w' w'.heap.size k enc A xs := (h.kept e (Nat.le_refl _)).wider e.size

theorem row_ext {w w' : World} {g : Nat} {o : Obj} (h : w.heap[g]? = some o) (e : Ext w w') : w'.heap[g]? = some o := (Below.block e g (Array.getElem?_eq_some_iff.1 h).1).trans h

/-- The k-th region of a body. -/
def regionOf : Code → Nat → Option (Array Oper)
  | .region i ops _, k => if i = k then some ops else none
  | .seq a b, k => (regionOf a k).or (regionOf b k)
  | .cond _ a b, k => (regionOf a k).or (regionOf b k)
  | .block _ c, k => regionOf c k
  | .loop c, k => regionOf c k
  | .scope c, k => regionOf c k
  | _, _ => none

theorem op_at {ops : Array Oper} {i : Nat} {o : Oper} {α : Type} (ho : ops[i]? = some o) (f : Oper → α) {x : α} (h : (ops[i]?).map f = some x) : f o = x := by
  rw [ho] at h
  simpa using h

theorem ev {a : Act} {t : Tmp} {v : Value} (h : a.eval (.tmp t) = v) : a.tmps[t]?.getD undef = v := by simpa [Act.eval] using h

theorem bdrewN {B : Nat} {a w : World} (h : Below B a w) (k : Nat) : Below B a (w.drewN k) := h.trans ⟨rfl, rfl, rfl, Nat.le_refl _, fun _ _ => rfl⟩

theorem row_last (w : World) (o : Obj) (g : Nat) (hg : g = w.heap.size) : (w.alloc o).heap[g]? = some o := by subst hg; exact heap_alloc_last w o

theorem row_setCell (w : World) (g o : Nat) (v : Value) (cs : Array Value) (t : TypeId) (fr : Nat × Nat) (h : w.heap[g]? = some (.cells cs t fr)) : (w.setCell ⟨g, o, none⟩ v).heap[g]? = some (.cells (cs.setIfInBounds o v) t fr) := by
  simp [World.setCell, Array.getElem?_modify, h]

theorem row_alloc (w : World) (g : Nat) (ob o : Obj) (h : w.heap[g]? = some ob) : (w.alloc o).heap[g]? = some ob := by
  have hl : g < w.heap.size := (Array.getElem?_eq_some_iff.1 h).1
  show (w.heap.push o)[g]? = _
  rw [Array.getElem?_push, if_neg (by omega), h]

theorem below_setRow {B g : Nat} {v w : World} (h : Below B v w) (hg : B ≤ g) (cs : Array Value) : Below B v (w.setRow g cs) := by
  refine ⟨h.os, h.tape, h.output, by have := h.size; simpa [World.setRow] using this, fun k hk => ?_⟩
  rw [← h.block k hk]
  simp [World.setRow, Array.getElem?_modify]
  omega

theorem row_setRow (w : World) (g : Nat) (cs old : Array Value) (t : TypeId) (fr : Nat × Nat) (h : w.heap[g]? = some (.cells old t fr)) : (w.setRow g cs).heap[g]? = some (.cells cs t fr) := by
  simp [World.setRow, Array.getElem?_modify, h]

theorem ext_alloc (w : World) (o : Obj) : Ext w (w.alloc o) := (Below.refl _ w).alloc (Nat.le_refl _) _

theorem ext_grow {W W' : World} (h : W.grownBy W' none) : Ext W W' := (Below.refl _ W).grown h (Nat.le_refl _) fun r e => by cases e

theorem own_block {W : World} {base : Nat} {e : TypeId} {size n : Nat} {v : Value} {xs : List Value} (h : W.ownsRow base e size v n xs) : ∀ r, v.ownBlock = some r → ∃ cs fr, W.heap[r]? = some (.cells cs e fr) := by
  intro r hr
  rcases h.2 with ⟨rfl, _⟩ | ⟨g, cap, cur, rfl, _, hrow, _⟩
  · simp [Value.ownBlock] at hr
  · simp [Value.ownBlock] at hr
    subst hr
    exact ⟨_, _, hrow⟩

theorem heap_set_other (W : World) (p o b : Nat) (v : Value) (hne : b ≠ p) : (W.setCell ⟨p, o, none⟩ v).heap[b]? = W.heap[b]? := by
  simp only [World.setCell]
  rw [Array.getElem?_modify, if_neg (fun e => hne e.symm)]

theorem all_ne_of {m : Nat} {D : Nat → Tmp} {l : List (Tmp × Value)} (hl : (List.range m).map D = l.map (·.1)) {t : Tmp} (ht : t ∉ l.map (·.1)) : ((List.range m).all fun i => decide (D i ≠ t)) = true := by
  rw [List.all_eq_true]
  intro i hi
  rw [← hl] at ht
  simp only [decide_eq_true_eq]
  intro e
  exact ht (e ▸ List.mem_map_of_mem hi)

theorem owns_far {V Z : World} {base : Nat} {e : TypeId} {size n : Nat} {v : Value} {xs : List Value} (h : V.ownsRow base e size v n xs) (hz : ∀ k, base ≤ k → Z.heap[k]? = V.heap[k]?) : Z.ownsRow base e size v n xs := by
  refine ⟨h.1, h.2.imp id ?_⟩
  rintro ⟨g, cap, cur, hv, hg, hc, r⟩
  exact ⟨g, cap, cur, hv, hg, (hz g hg).trans hc, r⟩

theorem owns_ext {V Z : World} {base : Nat} {e : TypeId} {size n : Nat} {v : Value} {xs : List Value} (h : V.ownsRow base e size v n xs) (hE : Ext V Z) : Z.ownsRow base e size v n xs := by
  refine ⟨h.1, h.2.imp id ?_⟩
  rintro ⟨g, cap, cur, hv, hg, hc, r⟩
  exact ⟨g, cap, cur, hv, hg, row_ext hc hE, r⟩

theorem wpList_tail {P : Program} {ops : Array Oper} {Q : Exit → Act → World → Prop} {rest : List Oper} {o : Oper} {a : Act} {w : World} (hgd : o.guard = none)
    (h : if Region.wanted o (yielded ops a.tmps) = true then Oper.wp P o a w (fun a' w' => wpList P ops Q rest a' w') Q else True) : wpList P ops Q (o :: rest) a w := by
  have hw : Region.wanted o (yielded ops a.tmps) = true := by simp [Region.wanted, hgd]
  rw [if_pos hw] at h
  simp only [wpList]
  rw [if_pos hw]
  exact .inl h

theorem wpList_skip {P : Program} {ops : Array Oper} {Q : Exit → Act → World → Prop} {rest : List Oper} {o : Oper} {a : Act} {w w' : World} (hgd : o.guard = none) (hr : (execOp a.eval o).run P w = .ok .skip w')
    (h : wpList P ops Q rest (a.put o.dst undef) w') : wpList P ops Q (o :: rest) a w := by
  simp only [wpList]
  rw [if_pos (by simp [Region.wanted, hgd])]
  left
  unfold Oper.wp
  rw [hr]
  exact h

theorem own_stay {V V' : World} {base : Nat} {e : TypeId} {size n : Nat} {v : Value} {xs : List Value} (h : V.ownsRow base e size v n xs) (hs : ∀ g, v.ownBlock = some g → V'.heap[g]? = V.heap[g]?) : V'.ownsRow base e size v n xs := by
  refine ⟨h.1, h.2.imp id ?_⟩
  rintro ⟨g, cap, cur, rfl, hb, hrow, q⟩
  exact ⟨g, cap, cur, rfl, hb, (hs g rfl).trans hrow, q⟩

theorem flat_at2 {α : Type} (enc : α → List Value) (k : Nat) (hk : ∀ x, (enc x).length = k) : ∀ (ds : List α) (j : Nat) (x : α) (i : Nat) (v : Value), ds[j]? = some x → (enc x)[i]? = some v → (ds.flatMap enc)[j * k + i]? = some v
  | [], _, _, _, _, h, _ => by simp at h
  | d :: ds, 0, x, i, v, h, hi => by
    simp at h
    subst h
    rw [List.flatMap_cons, Nat.zero_mul, Nat.zero_add, List.getElem?_append_left (List.getElem?_eq_some_iff.1 hi).1]
    exact hi
  | d :: ds, j + 1, x, i, v, h, hi => by
    rw [List.flatMap_cons, List.getElem?_append_right (by rw [hk, Nat.succ_mul]; omega), hk, show (j + 1) * k + i - k = j * k + i from by rw [Nat.succ_mul]; omega]
    exact flat_at2 enc k hk ds j x i v (by simpa using h) hi

theorem own_held {α : Type} {W : World} {base k n c : Nat} {e : TypeId} {enc : α → List Value} (hk : ∀ x, (enc x).length = k) {A : Option Addr} {xs : List α} (hx : n = xs.length) (h : W.ownsRow base e k (.slice A n c) n (xs.flatMap enc)) : Held W W.heap.size k enc A xs ∧ n ≤ c := by
  rcases h.2 with ⟨h0, h1⟩ | ⟨g, cap, cur, h0, _, hg, h1, h2, h3, h4⟩
  · cases h0
    exact ⟨.inl (List.eq_nil_of_length_eq_zero hx.symm), Nat.le_refl _⟩
  · cases h0
    refine ⟨.inr ⟨g, 0, rfl, (Array.getElem?_eq_some_iff.1 hg).1, fun j x hj i v hi => ?_⟩, h1⟩
    have h5 := flat_at2 enc k hk xs j x i v hj hi
    refine (cell_of_row _ _ _ _ _ _ hg).trans ?_
    rw [← h4, List.getElem?_take] at h5
    split at h5
    · rw [Nat.zero_add]; simpa using h5
    · cases h5

section
variable {P : Program} {ops : Array Oper} {Q : Exit → Act → World → Prop}

/-- Each operation has a slot of its own, or, if it stores, none; none is guarded; each waits for earlier ones alone. -/
def memB (ops : Array Oper) (pure : Nat → Bool) (D : Nat → Tmp) (n : Nat) : Bool :=
  (List.range ops.size).all fun i => match ops[i]? with
    | some o => (match o.dst with | some d => decide (d = D i) && decide (d < n) | none => !pure i) && o.guard.isNone && (o.after.toList.all fun e => !Region.binds .any e || decide (e.on < i)) && (List.range ops.size).all fun j => decide (j = i) || decide (D j ≠ D i)
    | none => false
theorem memB_spec {pure : Nat → Bool} {D : Nat → Tmp} {n : Nat} (h : memB ops pure D n = true) {i : Nat} {o : Oper} (ho : ops[i]? = some o) :
    (pure i = true → o.dst = some (D i)) ∧ (o.dst = none ∨ (o.dst = some (D i) ∧ D i < n)) ∧ o.guard = none ∧ (∀ e ∈ o.after, Region.binds .any e = true → e.on < i) ∧ ∀ j, j < ops.size → j ≠ i → D j ≠ D i := by
  have h1 := List.all_eq_true.1 h i (List.mem_range.2 (Array.getElem?_eq_some_iff.1 ho).1)
  rw [ho] at h1
  simp only [Bool.and_eq_true, List.all_eq_true, Bool.or_eq_true, decide_eq_true_eq, Bool.not_eq_true', Option.isNone_iff_eq_none, List.mem_range] at h1
  obtain ⟨⟨⟨h1, h2⟩, h3⟩, h4⟩ := h1
  refine ⟨fun hp => ?_, ?_, h2, fun e he hb => ?_, fun j hj hne => ?_⟩
  · cases hd : o.dst with
    | none => rw [hd] at h1; simp [hp] at h1
    | some d => rw [hd] at h1; simp at h1; rw [h1.1]
  · cases hd : o.dst with
    | none => exact .inl rfl
    | some d => rw [hd] at h1; simp at h1; right; rw [← h1.1]; exact ⟨rfl, h1.2⟩
  · rcases h3 e (by simpa using he) with h | h
    · rw [hb] at h; cases h
    · exact h
  · rcases h4 j hj with h | h
    · exact absurd h hne
    · exact h

structure MemI (ops : Array Oper) (pure : Nat → Bool) (V : Nat → Value) (D : Nat → Tmp) (W0 : World) (Mem : (Nat → Bool) → Act → World → Prop) (a0 : Act) (listed : Array Bool) (a : Act) (W : World) : Prop where
  size : listed.size = ops.size
  tmps : a.tmps.size = a0.tmps.size
  defers : a.defers = a0.defers
  base : Ext W0 W
  old : ∀ t, (∀ i, i < ops.size → D i ≠ t) → a.eval (.tmp t) = a0.eval (.tmp t)
  got : ∀ i, i < ops.size → pure i = true → listed.getD i false = true → a.eval (.tmp (D i)) = V i
  mem : Mem (fun i => listed.getD i false) a W

theorem listed_set {l : Array Bool} {i : Nat} (h : i < l.size) : (fun j => (l.setIfInBounds i true).getD j false) = fun j => decide (j = i) || l.getD j false := by
  funext j
  by_cases e : i = j
  · subst e; simp [h]
  · rw [getD_set_ne false e, decide_eq_false (fun e' : j = i => e e'.symm)]
    rfl

theorem wp_region_mem {id : Nat} {a : Act} {w W0 : World} (pure : Nat → Bool) (V : Nat → Value) (D : Nat → Tmp) (Mem : (Nat → Bool) → Act → World → Prop) (hm : P.follows .mixedOrders = true) (hs : memB ops pure D a.tmps.size = true)
    (hB0 : Ext W0 { w with drawn := w.drawn + 1 }) (hM0 : Mem (fun _ => false) a { w with drawn := w.drawn + 1 })
    (stay : ∀ (L : Nat → Bool) (a' : Act) (W W' : World) (i : Nat) (v : Value), i < ops.size → pure i = true → Mem L a' W → Ext W0 W → Below W.heap.size W W' → a'.tmps.size = a.tmps.size → Mem (fun j => decide (j = i) || L j) (a'.put (some (D i)) v) W')
    (step : ∀ (i : Nat) (o : Oper), ops[i]? = some o → pure i = true → ∀ (a' : Act) (W : World), Ext W0 W → a'.tmps.size = a.tmps.size → (∀ t, ((List.range ops.size).all fun i => decide (D i ≠ t)) = true → a'.eval (.tmp t) = a.eval (.tmp t)) →
      (∀ j, (o.after.any fun e => decide (e.on = j) && Region.binds .any e) = true → pure j = true → a'.eval (.tmp (D j)) = V j) →
      o.wp P a' W (fun a'' W' => ∃ v, a'' = a'.put o.dst v ∧ v = V i ∧ Below W.heap.size W W') Q)
    (act : ∀ (i : Nat) (o : Oper), ops[i]? = some o → pure i = false → ∀ (L : Nat → Bool) (a' : Act) (W : World), Ext W0 W → a'.tmps.size = a.tmps.size → (∀ t, ((List.range ops.size).all fun i => decide (D i ≠ t)) = true → a'.eval (.tmp t) = a.eval (.tmp t)) →
      (∀ j, (o.after.any fun e => decide (e.on = j) && Region.binds .any e) = true → L j = true ∧ (pure j = true → a'.eval (.tmp (D j)) = V j)) → L i = false → Mem L a' W →
      o.wp P a' W (fun a'' W' => ∃ v, a'' = a'.put o.dst v ∧ Ext W0 W' ∧ Mem (fun j => decide (j = i) || L j) a'' W') Q)
    (done : ∀ (a' : Act) (W : World), Ext W0 W → a'.tmps.size = a.tmps.size → a'.defers = a.defers → (∀ t, ((List.range ops.size).all fun i => decide (D i ≠ t)) = true → a'.eval (.tmp t) = a.eval (.tmp t)) →
      (∀ i, i < ops.size → pure i = true → a'.eval (.tmp (D i)) = V i) → Mem (fun i => decide (i < ops.size)) a' W → Q .normal a' W) : (Code.region id ops true).wp P Q a w := by
  have hoT : ∀ t, ((List.range ops.size).all fun i => decide (D i ≠ t)) = true → ∀ i, i < ops.size → D i ≠ t := fun t ht i hi => by
    simpa using List.all_eq_true.1 ht i (List.mem_range.2 hi)
  refine wp_region_any hm ?_
  have aux : ∀ (fuel : Nat) (listed : Array Bool) (a' : Act) (W : World), MemI ops pure V D W0 Mem a listed a' W → (List.range ops.size).countP (fun i => !listed.getD i true) ≤ fuel → wpAny P .any ops Q fuel listed a' W := by
    intro fuel
    have fin : ∀ (listed : Array Bool) (a' : Act) (W : World), MemI ops pure V D W0 Mem a listed a' W → (∀ i, i < ops.size → listed.getD i false = true) → Q .normal a' W := by
      intro listed a' W h all
      refine done a' W h.base h.tmps h.defers (fun t ht => h.old t (hoT t ht)) (fun i hi hp => h.got i hi hp (all i hi)) ?_
      have e : (fun i => listed.getD i false) = fun i => decide (i < ops.size) := by
        funext i
        by_cases hi : i < ops.size
        · rw [all i hi]; simp [hi]
        · have : ¬ i < listed.size := by rw [h.size]; exact hi
          simp [this, hi]
      rw [← e]
      exact h.mem
    have stop : ∀ (listed : Array Bool), listed.size = ops.size → (∀ i, i < ops.size → listed.getD i false = true) → Region.ready .any ops listed = [] := by
      intro listed hsz all
      refine List.eq_nil_iff_forall_not_mem.2 fun i hi => ?_
      obtain ⟨g1, o, ho, _⟩ := mem_ready.1 hi
      have hil := (Array.getElem?_eq_some_iff.1 ho).1
      rw [getD_two (by rw [hsz]; exact hil), all i hil] at g1
      cases g1
    induction fuel with
    | zero =>
      intro listed a' W h hc
      have h0 : (List.range ops.size).countP (fun i => !listed.getD i true) = 0 := by omega
      have all : ∀ i, i < ops.size → listed.getD i false = true := fun i hi => by
        have := List.countP_eq_zero.1 h0 i (List.mem_range.2 hi)
        rw [getD_two (by rw [h.size]; omega)] at this
        simpa using this
      exact wpAny_done (stop listed h.size all) (fin listed a' W h all) 0
    | succ fuel ih =>
      intro listed a' W h hc
      by_cases hall : ∀ i, i < ops.size → listed.getD i false = true
      · exact wpAny_done (stop listed h.size hall) (fin listed a' W h hall) _
      · have hne : Region.ready .any ops listed ≠ [] := by
          intro hr
          apply hall
          have all : ∀ n i, i ≤ n → i < ops.size → listed.getD i false = true := by
            intro n
            induction n using Nat.strongRecOn with
            | _ n ih2 =>
              intro i hin hi
              cases hl : listed.getD i false with
              | true => rfl
              | false =>
                exfalso
                have : i ∈ Region.ready .any ops listed := mem_ready.2 ⟨by rw [getD_two (by rw [h.size]; exact hi), hl], _, Array.getElem?_eq_getElem hi, fun e he hb => by
                  have := (memB_spec hs (Array.getElem?_eq_getElem hi)).2.2.2.1 e he hb
                  exact ih2 e.on (by omega) e.on (Nat.le_refl _) (by omega)⟩
                rw [hr] at this
                cases this
          exact fun i hi => all i i (Nat.le_refl _) hi
        refine ⟨fun e => absurd e hne, fun i hi => ?_⟩
        obtain ⟨h1, o, ho, haft⟩ := mem_ready.1 hi
        have hil := (Array.getElem?_eq_some_iff.1 ho).1
        have hls : i < listed.size := by rw [h.size]; exact hil
        obtain ⟨hd1, hd2, hgd, _, hdist⟩ := memB_spec hs ho
        have haf : ∀ j, (o.after.any fun e => decide (e.on = j) && Region.binds .any e) = true → listed.getD j false = true := fun j hj => by
          obtain ⟨e, he, hb⟩ := Array.any_eq_true'.1 hj
          simp only [Bool.and_eq_true, decide_eq_true_eq] at hb
          obtain ⟨rfl, hb⟩ := hb
          exact haft e he hb
        have hlt : ∀ j, listed.getD j false = true → j < ops.size := fun j hj => by
          by_cases hj2 : j < listed.size
          · rw [← h.size]; exact hj2
          · simp [hj2] at hj
        have hw : Region.wanted o (yielded ops a'.tmps) = true := by simp [Region.wanted, hgd]
        have hli : listed.getD i false = false := by rwa [← getD_two hls]
        have hcount : (List.range ops.size).countP (fun k => !(listed.setIfInBounds i true).getD k true) < (List.range ops.size).countP (fun k => !listed.getD k true) := by
          refine countP_step _ _ i _ (fun y hy => ?_) (List.mem_range.2 hil) (by simp [h1]) ?_
          · by_cases e : i = y
            · subst e; simp [h1]
            · rw [getD_set_ne true e] at hy; exact hy
          · simp [hls]
        unfold wpOp
        rw [ho]
        simp only [hw, if_true]
        left
        have next : ∀ (v : Value) (W' : World), Ext W0 W' → Mem (fun j => decide (j = i) || listed.getD j false) (a'.put o.dst v) W' → (pure i = true → v = V i) → wpAny P .any ops Q fuel (listed.setIfInBounds i true) (a'.put o.dst v) W' := by
          intro v W' hE hM hv
          refine ih _ _ _ ⟨by simp [h.size], ?_, ?_, hE, fun t ht => ?_, fun j hj hp hl => ?_, by rw [listed_set hls]; exact hM⟩ (by omega)
          · rcases hd2 with e | e
            · rw [e]; exact h.tmps
            · rw [e.1]; simp [Act.put, h.tmps]
          · rcases hd2 with e | e
            · rw [e]; exact h.defers
            · rw [e.1]; exact h.defers
          · rcases hd2 with e | e
            · rw [e]; exact h.old t ht
            · rw [e.1, eval_put_other (Ne.symm (ht i hil))]
              exact h.old t ht
          · by_cases e : i = j
            · subst e
              have hlt2 : D i < a'.tmps.size := by
                rw [h.tmps]
                rcases hd2 with e | e
                · rw [hd1 hp] at e; cases e
                · exact e.2
              rw [hd1 hp, eval_put_same hlt2]
              exact hv hp
            · rw [getD_set_ne false e] at hl
              rcases hd2 with e2 | e2
              · rw [e2]; exact h.got j hj hp hl
              · rw [e2.1, eval_put_other (hdist j hj (fun e3 => e e3.symm))]
                exact h.got j hj hp hl
        cases hp : pure i with
        | true =>
          refine Oper.wp_mono (fun a'' W' hh => ?_) (step i o ho hp a' W h.base h.tmps (fun t ht => h.old t (hoT t ht)) fun j hj hpj => h.got j (hlt j (haf j hj)) hpj (haf j hj))
          obtain ⟨v, rfl, hv, hb⟩ := hh
          refine next v W' (h.base.trans hb) ?_ fun _ => hv
          rw [hd1 hp]
          exact stay _ a' W W' i v hil hp h.mem h.base hb h.tmps
        | false =>
          refine Oper.wp_mono (fun a'' W' hh => ?_) (act i o ho hp _ a' W h.base h.tmps (fun t ht => h.old t (hoT t ht)) (fun j hj => ⟨haf j hj, fun hpj => h.got j (hlt j (haf j hj)) hpj (haf j hj)⟩) hli h.mem)
          obtain ⟨v, rfl, hE, hM⟩ := hh
          exact next v W' hE hM fun e => by rw [hp] at e; cases e
  exact aux ops.size _ a _ ⟨by simp, rfl, rfl, hB0, fun _ _ => rfl, fun i hi _ hl => (by rw [getD_replicate_false] at hl; cases hl), by
      have e : (fun i => (Array.replicate ops.size false).getD i false) = fun _ => false := by
        funext i
        exact getD_replicate_false _ _
      rw [e]
      exact hM0⟩ (by
    have := List.countP_le_length (p := fun i => !(Array.replicate ops.size false).getD i true) (l := List.range ops.size)
    simpa using this)
end

theorem own_lt {W : World} {base : Nat} {e : TypeId} {size n : Nat} {v : Value} {xs : List Value} (h : W.ownsRow base e size v n xs) : ∀ r, v.ownBlock = some r → base ≤ r ∧ r < W.heap.size := by
  intro r hr
  rcases h.2 with ⟨rfl, _⟩ | ⟨g, cap, cur, rfl, hb, hrow, _⟩
  · simp [Value.ownBlock] at hr
  · simp [Value.ownBlock] at hr
    subst hr
    exact ⟨hb, (Array.getElem?_eq_some_iff.1 hrow).1⟩


end Go.Proofs.Ytlaakmgdbhabfaa

/- CheckSheet. -/
namespace Go.Proofs.Ytlaakmgdbhabfaa
open Go.RowKit Go.Shelf

/-- A variable that holds a sheet. -/
structure SheetAt (W : World) (p : Nat) (A : Option Addr) (n c : Nat) (A' : Option Addr) (n' c' : Nat) (cs ms : List (Int × Int)) : Prop where
  row : W.heap[p]? = some (.cells #[.slice A n c, .slice A' n' c'] 25 (0, 0))
  sheet : IsSheet W W.heap.size A n c A' n' c' cs ms
section
variable {w W W' : World} {p : Nat} {A : Option Addr} {n c : Nat} {A' : Option Addr} {n' c' : Nat} {cs ms : List (Int × Int)}
theorem SheetAt.ext (h : SheetAt W p A n c A' n' c' cs ms) (e : Ext W W') : SheetAt W' p A n c A' n' c' cs ms := ⟨row_ext h.row e, h.sheet.ext e⟩
theorem SheetAt.new (h : IsSheet w w.heap.size A n c A' n' c' cs ms) : SheetAt (w.alloc (.cells #[.slice A n c, .slice A' n' c'] 25)) w.heap.size A n c A' n' c' cs ms := ⟨row_last w _ _ rfl, h.ext (ext_alloc w _)⟩
theorem SheetAt.cells (h : SheetAt W p A n c A' n' c' cs ms) : W.cell? ⟨p, 0, none⟩ = some (.slice A n c) ∧ W.cell? ⟨p, 1, none⟩ = some (.slice A' n' c') := ⟨cell_of_row _ _ _ _ _ _ h.row, cell_of_row _ _ _ _ _ _ h.row⟩
end
theorem sheet_ok {cs ms : List (Int × Int)} (h : sheetErr cs ms = 0) : ((1 ≤ cs.length ∧ cs.length ≤ 8) ∧ 1 ≤ ms.length ∧ ms.length ≤ 12) ∧ cs.all (fun c => !combBad c) = true ∧ marksOk 0 ms = true := by
  unfold sheetErr at h
  split at h
  · split at h
    · split at h
      · exact ⟨by assumption, by assumption, by assumption⟩
      · cases h
    · cases h
  · cases h
theorem all_not {α : Type} (p : α → Bool) (xs : List α) : (xs.findIdx p < xs.length) = (xs.all (fun x => !p x) = false) := by
  rw [List.findIdx_lt_length]
  simp

/-- The slots of region 4 of function 23. -/
def cs4D (i : Nat) : Tmp := if i = 0 then 20 else if i = 1 then 21 else if i = 2 then 22 else if i = 3 then 23 else if i = 4 then 24 else if i = 5 then 25 else if i = 6 then 26 else if i = 7 then 27 else 19
/-- What each operation yields. -/
def cs4V (A : Option Addr) (n c : Nat) (p : Nat) (r : Nat) (ix : Nat) : Value :=
  match ix with
  | 0 => .pointer (some ⟨p, 0, none⟩)
  | 1 => .slice A n c
  | 2 => .func (.func 62) #[] #[]
  | 3 => .int .i64 (r : Int)
  | 4 => .pointer (some ⟨p, 0, none⟩)
  | 5 => .slice A n c
  | 6 => .int .i64 (n : Int)
  | 7 => .bool (decide (r < n))
  | _ => .bool (decide (r < n))
noncomputable def cs4Reg : Array Oper := (Try.f23.body.bind (regionOf · 4)).getD #[]
def cs4Ok (A : Option Addr) (n c : Nat) (p : Nat) (r : Nat) (Q : Exit → Act → World → Prop) (a : Act) (W : World) (ix : Nat) (o : Oper) : Prop :=
  (∀ j b, o.guard = some (j, b) → a.eval (.tmp (cs4D j)) = .bool b) ∧ o.wp Try.prog a W (fun a'' W' => ∃ v, a'' = a.put o.dst v ∧ v = cs4V A n c p r ix ∧ Below W.heap.size W W') Q
section
variable {A : Option Addr} {n c : Nat} {p : Nat} {r : Nat} {Q : Exit → Act → World → Prop} {a : Act} {V W : World} {o : Oper}
theorem cs4_op0 (o1 : a.eval (.tmp 1) = .pointer (some ⟨p, 0, none⟩)) (ho : cs4Reg[0]? = some o) : cs4Ok A n c p r Q a W 0 o := by
  have hop := op_at ho (·.op) (x := Op.fieldAddr 25 (Operand.tmp 1) 0) (by kernel_rfl)
  have hgd := op_at ho (·.guard) (x := none) (by kernel_rfl)
  refine ⟨fun j b h => (by rw [hgd] at h; cases h), ?_⟩
  exact specs_value (R := fun v _ => v = cs4V A n c p r 0) (v := .pointer (some ⟨p, 0, none⟩)) (by simp [execOp, hop, go_sem, ev o1]) rfl (Ext.refl W)
theorem cs4_op1 (q0 : ∀ W, Ext V W → W.cell? ⟨p, 0, none⟩ = some (.slice A n c)) (hB : Ext V W) (haft : ∀ j, (o.after.any fun e => decide (e.on = j) && Region.binds .any e) = true → a.eval (.tmp (cs4D j)) = cs4V A n c p r j) (ho : cs4Reg[1]? = some o) : cs4Ok A n c p r Q a W 1 o := by
  have hop := op_at ho (·.op) (x := Op.load 22 (Operand.tmp 20)) (by kernel_rfl)
  have hgd := op_at ho (·.guard) (x := none) (by kernel_rfl)
  have e0 : a.eval (.tmp 20) = .pointer (some ⟨p, 0, none⟩) := haft 0 (op_at ho (fun o => o.after.any fun e => decide (e.on = 0) && Region.binds .any e) (x := true) (by kernel_rfl))
  refine ⟨fun j b h => (by rw [hgd] at h; cases h), ?_⟩
  have q0' := q0 W hB
  exact specs_value (R := fun v _ => v = cs4V A n c p r 1) (v := .slice A n c) (by simp [execOp, hop, go_sem, ev e0, q0']) rfl (Ext.refl W)
theorem cs4_op2 (o3 : a.eval (.tmp 3) = .func (.func 62) #[] #[]) (ho : cs4Reg[2]? = some o) : cs4Ok A n c p r Q a W 2 o := by
  have hop := op_at ho (·.op) (x := Op.move (Operand.tmp 3)) (by kernel_rfl)
  have hgd := op_at ho (·.guard) (x := none) (by kernel_rfl)
  refine ⟨fun j b h => (by rw [hgd] at h; cases h), ?_⟩
  exact specs_value (R := fun v _ => v = cs4V A n c p r 2) (v := .func (.func 62) #[] #[]) (by simp [execOp, hop, go_sem, ev o3]) rfl (Ext.refl W)
theorem cs4_op3 (k64 : ∀ W, Ext V W → Calls Try.prog 64 #[.slice A n c, .func (.func 62) #[] #[]] W fun e w' => e = .returned (.int .i64 (r : Int)) ∧ Below W.heap.size W w') (hB : Ext V W) (haft : ∀ j, (o.after.any fun e => decide (e.on = j) && Region.binds .any e) = true → a.eval (.tmp (cs4D j)) = cs4V A n c p r j) (ho : cs4Reg[3]? = some o) : cs4Ok A n c p r Q a W 3 o := by
  have hop := op_at ho (·.op) (x := Op.call { callee := Callee.value (Operand.func 64), args := #[Operand.tmp 21, Operand.tmp 22], argTypes := #[22, 102] }) (by kernel_rfl)
  have hgd := op_at ho (·.guard) (x := none) (by kernel_rfl)
  have e1 : a.eval (.tmp 21) = .slice A n c := haft 1 (op_at ho (fun o => o.after.any fun e => decide (e.on = 1) && Region.binds .any e) (x := true) (by kernel_rfl))
  have e2 : a.eval (.tmp 22) = .func (.func 62) #[] #[] := haft 2 (op_at ho (fun o => o.after.any fun e => decide (e.on = 2) && Region.binds .any e) (x := true) (by kernel_rfl))
  refine ⟨fun j b h => (by rw [hgd] at h; cases h), ?_⟩
  exact specs_call (R := fun v _ => v = cs4V A n c p r 3) (f := 64) (args := #[.slice A n c, .func (.func 62) #[] #[]]) (by simp [execOp, hop, go_sem, ev e1, ev e2]) ((k64 W hB).mono fun e w' h => ⟨_, h.1, rfl, h.2⟩)
theorem cs4_op4 (o1 : a.eval (.tmp 1) = .pointer (some ⟨p, 0, none⟩)) (ho : cs4Reg[4]? = some o) : cs4Ok A n c p r Q a W 4 o := by
  have hop := op_at ho (·.op) (x := Op.fieldAddr 25 (Operand.tmp 1) 0) (by kernel_rfl)
  have hgd := op_at ho (·.guard) (x := none) (by kernel_rfl)
  refine ⟨fun j b h => (by rw [hgd] at h; cases h), ?_⟩
  exact specs_value (R := fun v _ => v = cs4V A n c p r 4) (v := .pointer (some ⟨p, 0, none⟩)) (by simp [execOp, hop, go_sem, ev o1]) rfl (Ext.refl W)
theorem cs4_op5 (q0 : ∀ W, Ext V W → W.cell? ⟨p, 0, none⟩ = some (.slice A n c)) (hB : Ext V W) (haft : ∀ j, (o.after.any fun e => decide (e.on = j) && Region.binds .any e) = true → a.eval (.tmp (cs4D j)) = cs4V A n c p r j) (ho : cs4Reg[5]? = some o) : cs4Ok A n c p r Q a W 5 o := by
  have hop := op_at ho (·.op) (x := Op.load 22 (Operand.tmp 24)) (by kernel_rfl)
  have hgd := op_at ho (·.guard) (x := none) (by kernel_rfl)
  have e4 : a.eval (.tmp 24) = .pointer (some ⟨p, 0, none⟩) := haft 4 (op_at ho (fun o => o.after.any fun e => decide (e.on = 4) && Region.binds .any e) (x := true) (by kernel_rfl))
  refine ⟨fun j b h => (by rw [hgd] at h; cases h), ?_⟩
  have q0' := q0 W hB
  exact specs_value (R := fun v _ => v = cs4V A n c p r 5) (v := .slice A n c) (by simp [execOp, hop, go_sem, ev e4, q0']) rfl (Ext.refl W)
theorem cs4_op6 (haft : ∀ j, (o.after.any fun e => decide (e.on = j) && Region.binds .any e) = true → a.eval (.tmp (cs4D j)) = cs4V A n c p r j) (ho : cs4Reg[6]? = some o) : cs4Ok A n c p r Q a W 6 o := by
  have hop := op_at ho (·.op) (x := Op.call { callee := Callee.builtin Builtin.len, args := #[Operand.tmp 25], argTypes := #[22] }) (by kernel_rfl)
  have hgd := op_at ho (·.guard) (x := none) (by kernel_rfl)
  have e5 : a.eval (.tmp 25) = .slice A n c := haft 5 (op_at ho (fun o => o.after.any fun e => decide (e.on = 5) && Region.binds .any e) (x := true) (by kernel_rfl))
  refine ⟨fun j b h => (by rw [hgd] at h; cases h), ?_⟩
  exact specs_value (R := fun v _ => v = cs4V A n c p r 6) (v := .int .i64 (n : Int)) (by simp [execOp, hop, go_sem, ev e5]) rfl (Ext.refl W)
theorem cs4_op7 (haft : ∀ j, (o.after.any fun e => decide (e.on = j) && Region.binds .any e) = true → a.eval (.tmp (cs4D j)) = cs4V A n c p r j) (ho : cs4Reg[7]? = some o) : cs4Ok A n c p r Q a W 7 o := by
  have hop := op_at ho (·.op) (x := Op.binOp BinOp.lss 3 (Operand.tmp 23) (Operand.tmp 26) 3) (by kernel_rfl)
  have hgd := op_at ho (·.guard) (x := none) (by kernel_rfl)
  have e3 : a.eval (.tmp 23) = .int .i64 (r : Int) := haft 3 (op_at ho (fun o => o.after.any fun e => decide (e.on = 3) && Region.binds .any e) (x := true) (by kernel_rfl))
  have e6 : a.eval (.tmp 26) = .int .i64 (n : Int) := haft 6 (op_at ho (fun o => o.after.any fun e => decide (e.on = 6) && Region.binds .any e) (x := true) (by kernel_rfl))
  refine ⟨fun j b h => (by rw [hgd] at h; cases h), ?_⟩
  exact specs_value (R := fun v _ => v = cs4V A n c p r 7) (v := .bool (decide (r < n))) (by simp [execOp, hop, go_sem, ev e3, ev e6]) rfl (Ext.refl W)
theorem cs4_op8 (haft : ∀ j, (o.after.any fun e => decide (e.on = j) && Region.binds .any e) = true → a.eval (.tmp (cs4D j)) = cs4V A n c p r j) (ho : cs4Reg[8]? = some o) : cs4Ok A n c p r Q a W 8 o := by
  have hop := op_at ho (·.op) (x := Op.assign (Operand.tmp 27)) (by kernel_rfl)
  have hgd := op_at ho (·.guard) (x := none) (by kernel_rfl)
  have e7 : a.eval (.tmp 27) = .bool (decide (r < n)) := haft 7 (op_at ho (fun o => o.after.any fun e => decide (e.on = 7) && Region.binds .any e) (x := true) (by kernel_rfl))
  refine ⟨fun j b h => (by rw [hgd] at h; cases h), ?_⟩
  exact specs_value (R := fun v _ => v = cs4V A n c p r 8) (v := .bool (decide (r < n))) (by simp [execOp, hop, go_sem, ev e7]) rfl (Ext.refl W)
set_option maxRecDepth 100000 in
set_option maxHeartbeats 4000000 in
/-- Region 4 of function 23. -/
theorem cs4_wp {id : Nat} (hlen : a.tmps.size = 33) (o1 : a.eval (.tmp 1) = .pointer (some ⟨p, 0, none⟩)) (o3 : a.eval (.tmp 3) = .func (.func 62) #[] #[]) (q0 : ∀ W, Ext V W → W.cell? ⟨p, 0, none⟩ = some (.slice A n c)) (k64 : ∀ W, Ext V W → Calls Try.prog 64 #[.slice A n c, .func (.func 62) #[] #[]] W fun e w' => e = .returned (.int .i64 (r : Int)) ∧ Below W.heap.size W w') (K : ∀ W, Ext V W → Q .normal (puts a [(20, .pointer (some ⟨p, 0, none⟩)), (21, .slice A n c), (22, .func (.func 62) #[] #[]), (23, .int .i64 (r : Int)), (24, .pointer (some ⟨p, 0, none⟩)), (25, .slice A n c), (26, .int .i64 (n : Int)), (27, .bool (decide (r < n))), (19, .bool (decide (r < n)))]) W) : (Code.region id cs4Reg true).wp Try.prog Q a V := by
  refine wp_region_specs_free (ops := cs4Reg) 9 (fun i v _ => v = cs4V A n c p r i) (Ext V) (by kernel_rfl) (by rw [hlen]; kernel_rfl) (by kernel_rfl) ⟨rfl, rfl, rfl, Nat.le_refl _, fun _ _ => rfl⟩ (fun _ _ h e => h.trans e) (fun _ _ _ _ h _ => h) cs4D (by kernel_rfl) ?_ ?_
  · intro i o hi ho a' W hB hsz hold haft
    match i, hi with
    | 0, _ => exact cs4_op0 ((hold 1 (by kernel_rfl)).trans o1) ho
    | 1, _ => exact cs4_op1 q0 hB haft ho
    | 2, _ => exact cs4_op2 ((hold 3 (by kernel_rfl)).trans o3) ho
    | 3, _ => exact cs4_op3 k64 hB haft ho
    | 4, _ => exact cs4_op4 ((hold 1 (by kernel_rfl)).trans o1) ho
    | 5, _ => exact cs4_op5 q0 hB haft ho
    | 6, _ => exact cs4_op6 haft ho
    | 7, _ => exact cs4_op7 haft ho
    | 8, _ => exact cs4_op8 haft ho
    | m + 9, h => exact absurd h (by omega)
  · intro a1 W hB hsz hdf hold hS
    have hall : ∀ z, z ∈ ([(20, .pointer (some ⟨p, 0, none⟩)), (21, .slice A n c), (22, .func (.func 62) #[] #[]), (23, .int .i64 (r : Int)), (24, .pointer (some ⟨p, 0, none⟩)), (25, .slice A n c), (26, .int .i64 (n : Int)), (27, .bool (decide (r < n))), (19, .bool (decide (r < n)))] : List (Tmp × Value)) → z.1 < a.tmps.size ∧ a1.eval (.tmp z.1) = z.2 := by
      intro z hz
      rw [hlen]
      simp only [List.mem_cons, List.not_mem_nil, or_false] at hz
      rcases hz with rfl | rfl | rfl | rfl | rfl | rfl | rfl | rfl | rfl
      · exact ⟨(show (20 : Nat) < 33 by omega), hS 0 (by omega)⟩
      · exact ⟨(show (21 : Nat) < 33 by omega), hS 1 (by omega)⟩
      · exact ⟨(show (22 : Nat) < 33 by omega), hS 2 (by omega)⟩
      · exact ⟨(show (23 : Nat) < 33 by omega), hS 3 (by omega)⟩
      · exact ⟨(show (24 : Nat) < 33 by omega), hS 4 (by omega)⟩
      · exact ⟨(show (25 : Nat) < 33 by omega), hS 5 (by omega)⟩
      · exact ⟨(show (26 : Nat) < 33 by omega), hS 6 (by omega)⟩
      · exact ⟨(show (27 : Nat) < 33 by omega), hS 7 (by omega)⟩
      · exact ⟨(show (19 : Nat) < 33 by omega), hS 8 (by omega)⟩
    have ha := act_puts hsz hdf hall (fun t ht => hold t (all_ne_of (l := [(20, .pointer (some ⟨p, 0, none⟩)), (21, .slice A n c), (22, .func (.func 62) #[] #[]), (23, .int .i64 (r : Int)), (24, .pointer (some ⟨p, 0, none⟩)), (25, .slice A n c), (26, .int .i64 (n : Int)), (27, .bool (decide (r < n))), (19, .bool (decide (r < n)))]) (by kernel_rfl) ht))
    have he : cs4Reg.toList.drop 9 = [] := List.drop_eq_nil_of_le (by rw [Array.length_toList]; exact Nat.le_of_eq (by kernel_rfl))
    rw [he, ha]
    exact K W hB
end

set_option maxRecDepth 100000 in
set_option maxHeartbeats 2000000 in
theorem checkSheet_any {A : Option Addr} {n c : Nat} {A' : Option Addr} {n' c' : Nat} {cs ms : List (Int × Int)} {w : World} (hb : IsSheet w w.heap.size A n c A' n' c' cs ms) :
    Calls Try.prog 23 #[.agg #[.slice A n c, .slice A' n' c']] w fun e w' => e = .returned (.int .i64 (sheetErr cs ms)) ∧ Below w.heap.size w w' := by
  have hX0 := SheetAt.new hb
  have hE0 : Ext w (w.alloc (.cells #[.slice A n c, .slice A' n' c'] 25)) := ext_alloc w _
  have HN := Lib.hid hb
  obtain ⟨ans, ha⟩ : ∃ ans, sheetErr cs ms = ans := ⟨_, rfl⟩
  have hs : sheetErr cs ms = if (1 ≤ n ∧ n ≤ 8) ∧ 1 ≤ n' ∧ n' ≤ 12 then if cs.all (fun c => !combBad c) then if marksOk 0 ms then 0 else 3 else 2 else 6 := by rw [hb.ncs, hb.nms]; rfl
  rw [ha] at hs ⊢
  have hq1 : [(n : Int)].all (inside 1 8) = decide (1 ≤ n ∧ n ≤ 8) := by rw [Bool.eq_iff_iff]; simp [inside]; omega
  have hq2 : [(n' : Int)].all (inside 1 12) = decide (1 ≤ n' ∧ n' ≤ 12) := by rw [Bool.eq_iff_iff]; simp [inside]; omega
  have e62 : ∀ args w, (callFunc 62 args).run Try.prog w = .ok (.enter 62 args) w := enters_of Try.func62 (by kernel_rfl) rfl
  have k64 : ∀ W, IsSheet W W.heap.size A n c A' n' c' cs ms → Calls Try.prog 64 #[.slice A n c, .func (.func 62) #[] #[]] W fun e w' => e = .returned (.int .i64 (cs.findIdx combBad : Nat)) ∧ Below W.heap.size W w' := fun W h => firstComb 62 #[] e62 combBad A n c cs W h.ncs h.nle h.hcs (wrongComb cs W)
  have hr : (cs.findIdx combBad < n) = (cs.all (fun c => !combBad c) = false) := by rw [hb.ncs]; exact all_not _ _
  obtain ⟨r, hrr⟩ : ∃ r, cs.findIdx combBad = r := ⟨_, rfl⟩
  rw [hrr] at k64 hr
  have HS := Lib.hid hs
  have HR := Lib.hid hr
  have H1 := Lib.hid hq1
  have H2 := Lib.hid hq2
  clear hs hr hrr ha hb hq1 hq2
  go_enter Try.func23, Try.ntmps23
  go_upto_region 2 with fail
  obtain ⟨w0, hw0⟩ : ∃ w0, w.alloc (.cells #[.slice A n c, .slice A' n' c'] 25) = w0 := ⟨_, rfl⟩
  rw [hw0] at hX0 hE0 ⊢
  obtain ⟨p, hp⟩ : ∃ p, w.heap.size = p := ⟨_, rfl⟩
  have HE0 := Lib.hid hE0
  rw [hp] at hX0 ⊢
  clear hw0 hE0
  obtain ⟨q0, q1⟩ := hX0.cells
  have HX0 := Lib.hid hX0
  have HPP := Lib.hid hp
  clear hX0 hp
  go_wp2_with fail
  refine (within _ _ _ _ _ [(n : Int)] _ rfl (by simp) (held1 (by simp) (by simp))).mono ?_
  rw [H1.out]
  rintro e w1 ⟨rfl, hb1⟩
  have e1 : Ext w0 w1 := bstep (ext_alloc w0 _) (by simp) hb1
  have hX1 := HX0.out.ext e1
  have HE1 := Lib.hid (HE0.out.trans e1)
  clear hb1 e1 q0 q1 HX0
  obtain ⟨q0, q1⟩ := hX1.cells
  by_cases hn1 : 1 ≤ n ∧ n ≤ 8
  · rw [decide_eq_true hn1]
    go_wp2_with fail
    refine (within _ _ _ _ _ [(n' : Int)] _ rfl (by simp) (held1 (by simp) (by simp))).mono ?_
    rw [H2.out]
    rintro e w2 ⟨rfl, hb2⟩
    have e2 : Ext w1 w2 := bstep (ext_alloc w1 _) (by simp) hb2
    have hX2 := hX1.ext e2
    have HE2 := Lib.hid (HE1.out.trans e2)
    clear hb2 e2 q0 q1 hX1
    obtain ⟨q0, q1⟩ := hX2.cells
    by_cases hn2 : 1 ≤ n' ∧ n' ≤ 12
    · rw [decide_eq_true hn2]
      have hs := HS.out
      rw [if_pos ⟨hn1, hn2⟩] at hs
      have HT := Lib.hid hs
      clear hs
      go_upto_region 4 with fail
      refine cs4_wp rfl rfl rfl (fun W h => cell_of_row _ _ _ _ _ _ (row_ext hX2.row h)) (fun W h => k64 W (hX2.sheet.ext h)) ?_
      intro w3 e3
      simp only [Exit.then, puts, List.foldl_cons, List.foldl_nil, Act.put, List.setIfInBounds_toArray, List.set_cons_succ, List.set_cons_zero]
      go_at_K
      have hX3 := hX2.ext e3
      have HE3 := Lib.hid (HE2.out.trans e3)
      clear e3 q0 q1 hX2 k64
      obtain ⟨q0, q1⟩ := hX3.cells
      by_cases hrn : r < n
      · rw [decide_eq_true hrn]
        have he := HT.out
        rw [if_neg (by rw [Eq.mp HR.out hrn]; simp)] at he
        subst he
        go_wp2
        go_ret
        exact ⟨rfl, HE3.out⟩
      · rw [decide_eq_false hrn]
        have hall : cs.all (fun c => !combBad c) = true := by
          cases hc : cs.all (fun c => !combBad c) with
          | true => rfl
          | false => exact absurd (Eq.mpr HR.out hc) hrn
        have he := HT.out
        rw [if_pos hall] at he
        have HU := Lib.hid he
        clear he hall
        have km := areMarks_any A' n' c' ms w3 HN.out.nms (by omega) hX3.sheet.hms
        go_wp2_with fail
        refine km.mono ?_
        obtain ⟨q, hq⟩ : ∃ q, marksOk 0 ms = q := ⟨_, rfl⟩
        rw [hq]
        have HQ := Lib.hid hq
        clear hq km
        rintro e w4 ⟨rfl, hb4⟩
        have HE4 := Lib.hid (HE3.out.trans hb4)
        clear hb4
        cases q with
        | false =>
          have he := HU.out
          rw [if_neg (by rw [HQ.out]; simp)] at he
          subst he
          go_wp2
          go_ret
          exact ⟨rfl, HE4.out⟩
        | true =>
          have he := HU.out
          rw [if_pos HQ.out] at he
          subst he
          go_wp2
          go_ret
          exact ⟨rfl, HE4.out⟩
    · rw [decide_eq_false hn2]
      have he := HS.out
      rw [if_neg (fun h => hn2 h.2)] at he
      subst he
      go_wp2
      go_ret
      exact ⟨rfl, HE2.out⟩
  · rw [decide_eq_false hn1]
    have he := HS.out
    rw [if_neg (fun h => hn1 h.1)] at he
    subst he
    go_wp2
    go_ret
    exact ⟨rfl, HE1.out⟩
end Go.Proofs.Ytlaakmgdbhabfaa
