/- Texts of the package drop, joined: LawSmall, SpecsTail. -/
import Derived.Test.YtckndnaohggmhaaC14
/- The small functions of the verifier's own Go text. -/
namespace Go.Proofs.Ytckndnaohggmhaa
open Go.RowKit Go.Shelf

set_option maxHeartbeats 400000 in
theorem great_any (Wd : Int) (A A' : Option Addr) (n c n' c' : Nat) (w : World) : Calls Try.prog 15 #[.agg #[.int .i64 Wd, .slice A n c, .slice A' n' c']] w fun e w' => e = .returned (.bool (decide (15 < n) || decide (50 < n'))) ∧ Below w.heap.size w w' := by
  by_cases h1 : (15 : Int) < n
  · go_enter Try.func15, Try.ntmps15
    go_wp2
    go_ret
    exact ⟨ret_bool (by simp; omega), (Below.refl _ _).alloc (Nat.le_refl _) _⟩
  · by_cases h2 : (50 : Int) < n'
    · go_enter Try.func15, Try.ntmps15
      go_wp2
      go_ret
      exact ⟨ret_bool (by simp; omega), (Below.refl _ _).alloc (Nat.le_refl _) _⟩
    · go_enter Try.func15, Try.ntmps15
      go_wp2
      go_ret
      exact ⟨ret_bool (by simp; omega), (Below.refl _ _).alloc (Nat.le_refl _) _⟩
end Go.Proofs.Ytckndnaohggmhaa

/- The same with a tail: the last operations of the region, which wait for all before them, are walked one behind the other, and may turn what was there. -/
namespace Go.Proofs.Ytckndnaohggmhaa
open Go.RowKit

/-- Each of the first m operations has a slot of its own below n, and waits for earlier ones alone. -/
def slotsTo (ops : Array Oper) (m n : Nat) : Bool :=
  decide (m ≤ ops.size) && (List.range m).all fun i => match ops[i]? with
    | some o => (match o.dst with | some d => decide (d < n) | none => false) && o.after.toList.all (fun e => decide (e.on < i)) && (match o.guard with | some g => decide (g.1 < i) | none => true) && (List.range i).all fun j => decide (slot ops j ≠ slot ops i)
    | none => false
/-- Each of the others waits for all before it. -/
def tailB (ops : Array Oper) (m : Nat) : Bool :=
  (List.range ops.size).all fun i => decide (i < m) || match ops[i]? with
    | some o => ((List.range i).all fun j => o.after.any fun e => decide (e.on = j) && Region.binds .any e) && o.after.toList.all fun e => decide (e.on < i)
    | none => false
theorem slotsTo_spec {ops : Array Oper} {m n : Nat} (h : slotsTo ops m n = true) : m ≤ ops.size ∧
    (∀ i o, i < m → ops[i]? = some o → o.dst = some (slot ops i) ∧ slot ops i < n ∧ (∀ e ∈ o.after, e.on < i) ∧ ∀ g, o.guard = some g → g.1 < i) ∧ ∀ i j, i < m → j < m → slot ops i = slot ops j → i = j := by
  simp only [slotsTo, Bool.and_eq_true, decide_eq_true_eq] at h
  obtain ⟨hm, h⟩ := h
  have key : ∀ i o, i < m → ops[i]? = some o → (o.dst = some (slot ops i) ∧ slot ops i < n ∧ (∀ e ∈ o.after, e.on < i) ∧ ∀ g, o.guard = some g → g.1 < i) ∧ ∀ j, j < i → slot ops j ≠ slot ops i := by
    intro i o him ho
    have h1 := List.all_eq_true.1 h i (List.mem_range.2 him)
    rw [ho] at h1
    simp only [Bool.and_eq_true, List.all_eq_true, decide_eq_true_eq, List.mem_range] at h1
    obtain ⟨⟨⟨h2, h3⟩, h5⟩, h4⟩ := h1
    cases hd : o.dst with
    | none => rw [hd] at h2; cases h2
    | some d =>
      rw [hd] at h2
      have hs : slot ops i = d := by simp [slot, ho, hd]
      rw [hs]
      refine ⟨⟨rfl, by simpa using h2, fun e he => h3 e (by simpa using he), fun g hg => by rw [hg] at h5; simpa using h5⟩, fun j hj => by rw [← hs]; exact h4 j hj⟩
  refine ⟨hm, fun i o hi ho => (key i o hi ho).1, fun i j hi hj e => ?_⟩
  rcases Nat.lt_trichotomy i j with hl | hl | hl
  · exact absurd e ((key j _ hj (Array.getElem?_eq_getElem (by omega))).2 i hl)
  · exact hl
  · exact absurd e.symm ((key i _ hi (Array.getElem?_eq_getElem (by omega))).2 j hl)
theorem tailB_spec {ops : Array Oper} {m : Nat} (h : tailB ops m = true) (i : Nat) (o : Oper) (hi : m ≤ i) (ho : ops[i]? = some o) : (∀ j, j < i → ∃ e, e ∈ o.after ∧ e.on = j ∧ Region.binds .any e = true) ∧ ∀ e ∈ o.after, e.on < i := by
  have h1 := List.all_eq_true.1 h i (List.mem_range.2 (Array.getElem?_eq_some_iff.1 ho).1)
  rw [ho] at h1
  simp only [Bool.or_eq_true, decide_eq_true_eq, Bool.and_eq_true, List.all_eq_true, List.mem_range] at h1
  rcases h1 with h1 | ⟨h1, h2⟩
  · omega
  · refine ⟨fun j hj => ?_, fun e he => h2 e (by simpa using he)⟩
    obtain ⟨e, he, hb⟩ := Array.any_eq_true'.1 (h1 j hj)
    simp only [Bool.and_eq_true, decide_eq_true_eq] at hb
    exact ⟨e, he, hb⟩

section
variable {P : Program} {ops : Array Oper} {Q : Exit → Act → World → Prop}

theorem wpAny_tail {m : Nat} (ht : tailB ops m = true) : ∀ (fuel k : Nat) (listed : Array Bool) (a : Act) (w : World), listed.size = ops.size → m ≤ k → k ≤ ops.size → ops.size - k ≤ fuel → (∀ j, j < k → listed.getD j false = true) →
    (∀ j, k ≤ j → j < ops.size → listed.getD j false = false) → wpList P ops Q (ops.toList.drop k) a w → wpAny P .any ops Q fuel listed a w := by
  intro fuel
  induction fuel with
  | zero =>
    intro k listed a w hsz hmk hk hf h1 h2 H
    obtain rfl : k = ops.size := by omega
    rw [List.drop_eq_nil_of_le (by simp)] at H
    refine wpAny_done (List.eq_nil_iff_forall_not_mem.2 fun i hi => ?_) H 0
    obtain ⟨g1, o, ho, _⟩ := mem_ready.1 hi
    have hil := (Array.getElem?_eq_some_iff.1 ho).1
    rw [getD_two (by rw [hsz]; exact hil), h1 i hil] at g1
    cases g1
  | succ fuel ih =>
    intro k listed a w hsz hmk hk hf h1 h2 H
    rcases Nat.lt_or_ge k ops.size with hlt | hge
    · have ho := Array.getElem?_eq_getElem hlt
      have hd : ops.toList.drop k = ops[k] :: ops.toList.drop (k + 1) := by
        rw [List.drop_eq_getElem_cons (by simpa using hlt)]
        simp
      rw [hd] at H
      have hkr : k ∈ Region.ready .any ops listed := mem_ready.2 ⟨by rw [getD_two (by rw [hsz]; exact hlt)]; exact h2 k (Nat.le_refl _) hlt, _, ho, fun e he _ => h1 _ ((tailB_spec ht k _ hmk ho).2 e he)⟩
      refine ⟨fun e => absurd (e ▸ hkr) (by simp), fun i hi => ?_⟩
      obtain ⟨g1, o, hoi, haft⟩ := mem_ready.1 hi
      have hil := (Array.getElem?_eq_some_iff.1 hoi).1
      have hik : i = k := by
        rcases Nat.lt_trichotomy i k with hl | hl | hl
        · rw [getD_two (by rw [hsz]; exact hil), h1 i hl] at g1
          cases g1
        · exact hl
        · obtain ⟨e, he, hon, hb⟩ := (tailB_spec ht i o (by omega) hoi).1 k hl
          have := haft e he hb
          rw [hon, h2 k (Nat.le_refl _) hlt] at this
          cases this
      subst hik
      have next : ∀ a' w', wpList P ops Q (ops.toList.drop (i + 1)) a' w' → wpAny P .any ops Q fuel (listed.setIfInBounds i true) a' w' := fun a' w' h => by
        refine ih (i + 1) _ a' w' (by simp [hsz]) (by omega) hlt (by omega) (fun j hj => ?_) (fun j hj hjl => ?_) h
        · by_cases e : i = j
          · subst e
            have : i < listed.size := by rw [hsz]; exact hlt
            simp [this]
          · rw [getD_set_ne false e]
            exact h1 j (by omega)
        · rw [getD_set_ne false (by omega)]
          exact h2 j (by omega) hjl
      unfold wpOp
      rw [ho]
      simp only [wpList] at H
      simp only []
      split
      · rename_i hw
        rw [if_pos hw] at H
        exact H.imp (Oper.wp_mono next) id
      · rename_i hw
        rw [if_neg hw] at H
        exact next _ _ H
    · obtain rfl : k = ops.size := by omega
      rw [List.drop_eq_nil_of_le (by simp)] at H
      refine wpAny_done (List.eq_nil_iff_forall_not_mem.2 fun i hi => ?_) H _
      obtain ⟨g1, o, ho, _⟩ := mem_ready.1 hi
      have hil := (Array.getElem?_eq_some_iff.1 ho).1
      rw [getD_two (by rw [hsz]; exact hil), h1 i hil] at g1
      cases g1

structure SpecsTo (ops : Array Oper) (m : Nat) (S : Nat → Value → World → Prop) (B : World → Prop) (a0 : Act) (listed : Array Bool) (a : Act) (W : World) : Prop where
  size : listed.size = ops.size
  tmps : a.tmps.size = a0.tmps.size
  defers : a.defers = a0.defers
  base : B W
  old : ∀ t, (∀ i, i < m → slot ops i ≠ t) → a.eval (.tmp t) = a0.eval (.tmp t)
  got : ∀ i, i < m → listed.getD i false = true → S i (a.eval (.tmp (slot ops i))) W
  tail : ∀ i, m ≤ i → i < ops.size → listed.getD i false = false

theorem wp_region_specs_tail {id : Nat} {a : Act} {w : World} (m : Nat) (S : Nat → Value → World → Prop) (B : World → Prop) (hm : P.follows .mixedOrders = true) (hs : slotsTo ops m a.tmps.size = true) (ht : tailB ops m = true)
    (hB0 : B { w with drawn := w.drawn + 1 }) (hBg : ∀ W W', B W → Below W.heap.size W W' → B W') (hSg : ∀ i v W W', S i v W → Below W.heap.size W W' → S i v W')
    (D : Nat → Tmp) (hD : ((List.range m).all fun i => decide (slot ops i = D i)) = true)
    (step : ∀ (i : Nat) (o : Oper), i < m → ops[i]? = some o → ∀ (a' : Act) (W : World), B W → a'.tmps.size = a.tmps.size → (∀ t, ((List.range m).all fun i => decide (D i ≠ t)) = true → a'.eval (.tmp t) = a.eval (.tmp t)) →
      (∀ j, (o.after.any fun e => decide (e.on = j) && Region.binds .any e) = true → S j (a'.eval (.tmp (D j))) W) →
      (∀ j b, o.guard = some (j, b) → a'.eval (.tmp (D j)) = .bool b) ∧ o.wp P a' W (fun a'' W' => ∃ v, a'' = a'.put o.dst v ∧ S i v W' ∧ Below W.heap.size W W') Q)
    (done : ∀ (a' : Act) (W : World), B W → a'.tmps.size = a.tmps.size → a'.defers = a.defers → (∀ t, ((List.range m).all fun i => decide (D i ≠ t)) = true → a'.eval (.tmp t) = a.eval (.tmp t)) →
      (∀ i, i < m → S i (a'.eval (.tmp (D i))) W) → wpList P ops Q (ops.toList.drop m) a' W) : (Code.region id ops true).wp P Q a w := by
  obtain ⟨hmo, hd, hap⟩ := slotsTo_spec hs
  have hD' : ∀ i, i < m → slot ops i = D i := fun i hi => by simpa using List.all_eq_true.1 hD i (List.mem_range.2 hi)
  have hoT : ∀ t, ((List.range m).all fun i => decide (D i ≠ t)) = true → ∀ i, i < m → slot ops i ≠ t := fun t ht i hi => by
    rw [hD' i hi]
    simpa using List.all_eq_true.1 ht i (List.mem_range.2 hi)
  refine wp_region_any hm ?_
  have aux : ∀ (fuel : Nat) (listed : Array Bool) (a' : Act) (W : World), SpecsTo ops m S B a listed a' W → (List.range m).countP (fun i => !listed.getD i true) + (ops.size - m) ≤ fuel → wpAny P .any ops Q fuel listed a' W := by
    intro fuel
    induction fuel with
    | zero =>
      intro listed a' W h hc
      have h0 : (List.range m).countP (fun i => !listed.getD i true) = 0 := by omega
      have all : ∀ i, i < m → listed.getD i false = true := fun i hi => by
        have := List.countP_eq_zero.1 h0 i (List.mem_range.2 hi)
        rw [getD_two (by rw [h.size]; omega)] at this
        simpa using this
      exact wpAny_tail ht 0 m listed a' W h.size (Nat.le_refl _) hmo (by omega) all h.tail (done a' W h.base h.tmps h.defers (fun t ht => h.old t (hoT t ht)) fun i hi => by rw [← hD' i hi]; exact h.got i hi (all i hi))
    | succ fuel ih =>
      intro listed a' W h hc
      by_cases hall : ∀ i, i < m → listed.getD i false = true
      · exact wpAny_tail ht _ m listed a' W h.size (Nat.le_refl _) hmo (by omega) hall h.tail (done a' W h.base h.tmps h.defers (fun t ht => h.old t (hoT t ht)) fun i hi => by rw [← hD' i hi]; exact h.got i hi (hall i hi))
      · -- the least one that is not listed is ready
        have hne : Region.ready .any ops listed ≠ [] := by
          intro hr
          apply hall
          have all : ∀ n i, i ≤ n → i < m → listed.getD i false = true := by
            intro n
            induction n using Nat.strongRecOn with
            | _ n ih2 =>
              intro i hin hi
              cases hl : listed.getD i false with
              | true => rfl
              | false =>
                exfalso
                have hil : i < ops.size := by omega
                have : i ∈ Region.ready .any ops listed := mem_ready.2 ⟨by rw [getD_two (by rw [h.size]; exact hil), hl], _, Array.getElem?_eq_getElem hil, fun e he _ => by
                  have := (hd i _ hi (Array.getElem?_eq_getElem hil)).2.2.1 e he
                  exact ih2 e.on (by omega) e.on (Nat.le_refl _) (by omega)⟩
                rw [hr] at this
                cases this
          exact fun i hi => all i i (Nat.le_refl _) hi
        refine ⟨fun e => absurd e hne, fun i hi => ?_⟩
        obtain ⟨h1, o, ho, haft⟩ := mem_ready.1 hi
        have hil := (Array.getElem?_eq_some_iff.1 ho).1
        have him : i < m := by
          rcases Nat.lt_or_ge i m with hl | hl
          · exact hl
          · exfalso
            apply hall
            intro j hj
            obtain ⟨e, he, hon, hb⟩ := (tailB_spec ht i o hl ho).1 j (by omega)
            have := haft e he hb
            rw [hon] at this
            exact this
        obtain ⟨hg, hp⟩ := step i o him ho a' W h.base h.tmps (fun t ht => h.old t (hoT t ht)) fun j hj => by
          obtain ⟨e, he, hb⟩ := Array.any_eq_true'.1 hj
          simp only [Bool.and_eq_true, decide_eq_true_eq] at hb
          obtain ⟨rfl, hb⟩ := hb
          have hlt : e.on < m := by have := (hd i o him ho).2.2.1 e he; omega
          rw [← hD' _ hlt]
          exact h.got e.on hlt (haft e he hb)
        have hw : Region.wanted o (yielded ops a'.tmps) = true := wanted_of (fun g hg => by
            have hlt : g.1 < m := by have := (hd i o him ho).2.2.2 g hg; omega
            exact ⟨_, Array.getElem?_eq_getElem (by omega), (hd _ _ hlt (Array.getElem?_eq_getElem (by omega))).1⟩) fun j b hgb => by
          have hlt : j < m := by have := (hd i o him ho).2.2.2 _ hgb; simp at this; omega
          rw [hD' _ hlt]
          exact hg j b hgb
        unfold wpOp
        rw [ho]
        simp only [hw, if_true]
        refine .inl (Oper.wp_mono (fun a'' W' hh => ?_) hp)
        obtain ⟨v, rfl, hS, hb⟩ := hh
        rw [(hd i o him ho).1]
        refine ih _ _ _ ⟨by simp [h.size], by simp [Act.put, h.tmps], h.defers, hBg _ _ h.base hb, fun t ht => ?_, fun j hj hl => ?_, fun j hj hjl => ?_⟩ ?_
        · rw [eval_put_other (Ne.symm (ht i him))]
          exact h.old t ht
        · by_cases e : i = j
          · subst e
            rw [eval_put_same (by rw [h.tmps]; exact (hd i o him ho).2.1)]
            exact hS
          · rw [eval_put_other (fun e' => e (hap i j him hj e'.symm))]
            rw [getD_set_ne false e] at hl
            exact hSg _ _ _ _ (h.got j hj hl) hb
        · rw [getD_set_ne false (by omega)]
          exact h.tail j hj hjl
        · have : (List.range m).countP (fun k => !(listed.setIfInBounds i true).getD k true) < (List.range m).countP (fun k => !listed.getD k true) := by
            refine countP_step _ _ i _ (fun y hy => ?_) (List.mem_range.2 him) (by simp [h1]) ?_
            · by_cases e : i = y
              · subst e; simp [h1]
              · rw [getD_set_ne true e] at hy; exact hy
            · have : i < listed.size := by rw [h.size]; exact hil
              simp [this]
          omega
  exact aux ops.size _ a _ ⟨by simp, rfl, rfl, hB0, fun _ _ => rfl, fun i hi hl => (by rw [getD_replicate_false] at hl; cases hl), fun i _ _ => getD_replicate_false _ _⟩ (by
    have := List.countP_le_length (p := fun i => !(Array.replicate ops.size false).getD i true) (l := List.range m)
    simp only [List.length_range] at this
    omega)
end
end Go.Proofs.Ytckndnaohggmhaa
