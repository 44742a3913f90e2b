/- Texts of the package drop, joined: SpecsMaybe. -/
import Derived.Test.YtckndnaohggmhaaC14
/- The same, where some operations are not wanted: their guards fail. -/
namespace Go.Proofs.Ytckndnaohggmhaa
open Go.RowKit

section
variable {P : Program} {ops : Array Oper} {Q : Exit → Act → World → Prop}
/-- An operation's guard fails if the slot of the one that it waits for says otherwise. -/
theorem unwanted_of {o : Oper} {a : Act} {j : Nat} {b : Bool} (hg : o.guard = some (j, b)) (hd : ∃ o', ops[j]? = some o' ∧ o'.dst = some (slot ops j)) (h : a.eval (.tmp (slot ops j)) ≠ .bool b) : Region.wanted o (yielded ops a.tmps) = false := by
  obtain ⟨o', ho, hd'⟩ := hd
  unfold Region.wanted
  rw [hg]
  simp only [yielded, ho, hd', Option.bind_some]
  simp only [Act.eval, Array.getD_eq_getD_getElem?] at h
  cases hx : a.tmps[slot ops j]? with
  | none => rfl
  | some x =>
    rw [hx] at h
    simp only [Option.getD_some] at h
    cases x <;> first | rfl | (rename_i c; cases c <;> cases b <;> first | rfl | exact absurd rfl h)
theorem wp_region_maybe {id : Nat} {a : Act} {w : World} (S : Nat → Value → World → Prop) (B : World → Prop) (hm : P.follows .mixedOrders = true) (hs : slotsB ops a.tmps.size = true)
    (hB0 : B { w with drawn := w.drawn + 1 }) (hBg : ∀ W W', B W → Below W.heap.size W W' → B W') (hSg : ∀ i v W W', S i v W → Below W.heap.size W W' → S i v W')
    (D : Nat → Tmp) (hD : ((List.range ops.size).all fun i => decide (slot ops i = D i)) = true)
    (step : ∀ (i : Nat) (o : Oper), ops[i]? = some o → ∀ (a' : Act) (W : World), B W → a'.tmps.size = a.tmps.size → (∀ t, ((List.range ops.size).all fun i => decide (D i ≠ t)) = true → a'.eval (.tmp t) = a.eval (.tmp t)) →
      (∀ j, (o.after.any fun e => decide (e.on = j) && Region.binds .any e) = true → S j (a'.eval (.tmp (D j))) W) →
      ((∀ j b, o.guard = some (j, b) → a'.eval (.tmp (D j)) = .bool b) ∧ o.wp P a' W (fun a'' W' => ∃ v, a'' = a'.put o.dst v ∧ S i v W' ∧ Below W.heap.size W W') Q) ∨
      ((∃ j b, o.guard = some (j, b) ∧ a'.eval (.tmp (D j)) ≠ .bool b) ∧ S i undef W))
    (done : ∀ (a' : Act) (W : World), B W → a'.tmps.size = a.tmps.size → a'.defers = a.defers → (∀ t, ((List.range ops.size).all fun i => decide (D i ≠ t)) = true → a'.eval (.tmp t) = a.eval (.tmp t)) →
      (∀ i, i < ops.size → S i (a'.eval (.tmp (D i))) W) → Q .normal a' W) : (Code.region id ops true).wp P Q a w := by
  obtain ⟨hd, hap⟩ := slotsB_spec hs
  have hD' : ∀ i, i < ops.size → slot ops i = D i := fun i hi => by simpa using List.all_eq_true.1 hD i (List.mem_range.2 hi)
  have hoT : ∀ t, ((List.range ops.size).all fun i => decide (D i ≠ t)) = true → ∀ i, i < ops.size → slot ops i ≠ t := fun t ht i hi => by
    rw [hD' i hi]
    simpa using List.all_eq_true.1 ht i (List.mem_range.2 hi)
  refine wp_region_any hm ?_
  have end_ : ∀ (listed : Array Bool) (a' : Act) (W : World), SpecsAt ops S B a listed a' W → Region.ready .any ops listed = [] → Q .normal a' W := by
    intro listed a' W h hr
    have all : ∀ n i, i ≤ n → i < ops.size → listed.getD i false = true := by
      intro n
      induction n using Nat.strongRecOn with
      | _ n ih =>
        intro i hin hi
        cases hl : listed.getD i false with
        | true => rfl
        | false =>
          exfalso
          have : i ∈ Region.ready .any ops listed := mem_ready.2 ⟨by rw [getD_two (by rw [h.size]; exact hi), hl], _, Array.getElem?_eq_getElem hi, fun e he _ => by
            have := (hd i _ (Array.getElem?_eq_getElem hi)).2.2.1 e he
            exact ih e.on (by omega) e.on (Nat.le_refl _) (by omega)⟩
          rw [hr] at this
          cases this
    exact done a' W h.base h.tmps h.defers (fun t ht => h.old t (hoT t ht)) fun i hi => by rw [← hD' i hi]; exact h.got i hi (all i i (Nat.le_refl _) hi)
  have aux : ∀ (fuel : Nat) (listed : Array Bool) (a' : Act) (W : World), SpecsAt ops S B a listed a' W → (List.range ops.size).countP (fun i => !listed.getD i true) ≤ fuel → wpAny P .any ops Q fuel listed a' W := by
    intro fuel
    induction fuel with
    | zero =>
      intro listed a' W h hc
      have hr : Region.ready .any ops listed = [] := by
        refine List.eq_nil_iff_forall_not_mem.2 fun i hi => ?_
        obtain ⟨h1, o, ho, _⟩ := mem_ready.1 hi
        have h0 : (List.range ops.size).countP (fun i => !listed.getD i true) = 0 := by omega
        have := List.countP_eq_zero.1 h0 i (List.mem_range.2 (Array.getElem?_eq_some_iff.1 ho).1)
        rw [h1] at this
        exact this rfl
      exact ⟨hr, end_ listed a' W h hr⟩
    | succ fuel ih =>
      intro listed a' W h hc
      refine ⟨end_ listed a' W h, fun i hi => ?_⟩
      obtain ⟨h1, o, ho, haft⟩ := mem_ready.1 hi
      have hil := (Array.getElem?_eq_some_iff.1 ho).1
      have hstep := step i o ho a' W h.base h.tmps (fun t ht => h.old t (hoT t ht)) fun j hj => by
        obtain ⟨e, he, hb⟩ := Array.any_eq_true'.1 hj
        simp only [Bool.and_eq_true, decide_eq_true_eq] at hb
        obtain ⟨rfl, hb⟩ := hb
        have hlt : e.on < ops.size := by have := (hd i o ho).2.2.1 e he; omega
        rw [← hD' _ hlt]
        exact h.got e.on hlt (haft e he hb)
      rcases hstep with ⟨hg, hp⟩ | ⟨hg, hp⟩
      · have hw : Region.wanted o (yielded ops a'.tmps) = true := wanted_of (fun g hg => by
            have hlt : g.1 < ops.size := by have := (hd i o ho).2.2.2 g hg; omega
            exact ⟨_, Array.getElem?_eq_getElem hlt, (hd _ _ (Array.getElem?_eq_getElem hlt)).1⟩) fun j b hgb => by
          have hlt : j < ops.size := by have := (hd i o ho).2.2.2 _ hgb; simp at this; omega
          rw [hD' _ hlt]
          exact hg j b hgb
        unfold wpOp
        rw [ho]
        simp only [hw, if_true]
        refine .inl (Oper.wp_mono (fun a'' W' hh => ?_) hp)
        obtain ⟨v, rfl, hS, hb⟩ := hh
        rw [(hd i o ho).1]
        refine ih _ _ _ ⟨by simp [h.size], by simp [Act.put, h.tmps], h.defers, hBg _ _ h.base hb, fun t ht => ?_, fun j hj hl => ?_⟩ ?_
        · rw [eval_put_other (Ne.symm (ht i hil))]
          exact h.old t ht
        · by_cases e : i = j
          · subst e
            rw [eval_put_same (by rw [h.tmps]; exact (hd i o ho).2.1)]
            exact hS
          · rw [eval_put_other (fun e' => e (hap i j hil hj e'.symm))]
            rw [getD_set_ne false e] at hl
            exact hSg _ _ _ _ (h.got j hj hl) hb
        · have : (List.range ops.size).countP (fun k => !(listed.setIfInBounds i true).getD k true) < (List.range ops.size).countP (fun k => !listed.getD k true) := by
            refine countP_step _ _ i _ (fun y hy => ?_) (List.mem_range.2 hil) (by simp [h1]) ?_
            · by_cases e : i = y
              · subst e; simp [h1]
              · rw [getD_set_ne true e] at hy; exact hy
            · have : i < listed.size := by rw [h.size]; exact hil
              simp [this]
          omega
      · have hw : Region.wanted o (yielded ops a'.tmps) = false := by
          obtain ⟨j, b, hgb, hne⟩ := hg
          have hlt : j < ops.size := by have := (hd i o ho).2.2.2 _ hgb; simp at this; omega
          exact unwanted_of hgb ⟨_, Array.getElem?_eq_getElem hlt, (hd _ _ (Array.getElem?_eq_getElem hlt)).1⟩ (by rw [hD' _ hlt]; exact hne)
        unfold wpOp
        rw [ho]
        simp only [hw, Bool.false_eq_true, if_false]
        have hb : Below W.heap.size W W := Below.refl _ W
        have hS := hp
        rw [(hd i o ho).1]
        refine ih _ _ _ ⟨by simp [h.size], by simp [Act.put, h.tmps], h.defers, hBg _ _ h.base hb, fun t ht => ?_, fun j hj hl => ?_⟩ ?_
        · rw [eval_put_other (Ne.symm (ht i hil))]
          exact h.old t ht
        · by_cases e : i = j
          · subst e
            rw [eval_put_same (by rw [h.tmps]; exact (hd i o ho).2.1)]
            exact hS
          · rw [eval_put_other (fun e' => e (hap i j hil hj e'.symm))]
            rw [getD_set_ne false e] at hl
            exact hSg _ _ _ _ (h.got j hj hl) hb
        · have : (List.range ops.size).countP (fun k => !(listed.setIfInBounds i true).getD k true) < (List.range ops.size).countP (fun k => !listed.getD k true) := by
            refine countP_step _ _ i _ (fun y hy => ?_) (List.mem_range.2 hil) (by simp [h1]) ?_
            · by_cases e : i = y
              · subst e; simp [h1]
              · rw [getD_set_ne true e] at hy; exact hy
            · have : i < listed.size := by rw [h.size]; exact hil
              simp [this]
          omega
  exact aux ops.size _ a _ ⟨by simp, rfl, rfl, hB0, fun _ _ => rfl, fun i hi hl => by rw [getD_replicate_false] at hl; cases hl⟩ (by
    have := List.countP_le_length (p := fun i => !(Array.replicate ops.size false).getD i true) (l := List.range ops.size)
    simpa using this)
end
end Go.Proofs.Ytckndnaohggmhaa
