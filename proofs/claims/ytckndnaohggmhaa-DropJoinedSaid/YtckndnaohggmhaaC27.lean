/- Texts of the package drop, joined: SpecsFree, RefPlace, TouchOps, TouchWalls, RefKind, RefTouch. -/
import Derived.Test.YtckndnaohggmhaaC23
import Derived.Deep.Cut
/- The same with a tail, where some operations bear edges that bind in other modes alone; and what an activation is when all of its slots are known. -/
namespace Go.Proofs.Ytckndnaohggmhaa
open Go.RowKit

/-- Each of the first m operations has a slot of its own below n, and waits for earlier ones alone. -/
def slotsFr (ops : Array Oper) (m n : Nat) : Bool :=
  decide (m ≤ ops.size) && (List.range m).all fun i => match ops[i]? with
    | some o => (match o.dst with | some d => decide (d < n) | none => false) && o.after.toList.all (fun e => !Region.binds .any e || decide (e.on < i)) && (match o.guard with | some g => decide (g.1 < i) | none => true) && (List.range i).all fun j => decide (slot ops j ≠ slot ops i)
    | none => false
/-- Each of the others waits for all before it. -/
def tailF (ops : Array Oper) (m : Nat) : Bool :=
  (List.range ops.size).all fun i => decide (i < m) || match ops[i]? with
    | some o => ((List.range i).all fun j => o.after.any fun e => decide (e.on = j) && Region.binds .any e) && o.after.toList.all fun e => !Region.binds .any e || decide (e.on < i)
    | none => false
theorem slotsFr_spec {ops : Array Oper} {m n : Nat} (h : slotsFr ops m n = true) : m ≤ ops.size ∧
    (∀ i o, i < m → ops[i]? = some o → o.dst = some (slot ops i) ∧ slot ops i < n ∧ (∀ e ∈ o.after, Region.binds .any e = true → e.on < i) ∧ ∀ g, o.guard = some g → g.1 < i) ∧ ∀ i j, i < m → j < m → slot ops i = slot ops j → i = j := by
  simp only [slotsFr, Bool.and_eq_true, decide_eq_true_eq] at h
  obtain ⟨hm, h⟩ := h
  have key : ∀ i o, i < m → ops[i]? = some o → (o.dst = some (slot ops i) ∧ slot ops i < n ∧ (∀ e ∈ o.after, Region.binds .any e = true → e.on < i) ∧ ∀ g, o.guard = some g → g.1 < i) ∧ ∀ j, j < i → slot ops j ≠ slot ops i := by
    intro i o him ho
    have h1 := List.all_eq_true.1 h i (List.mem_range.2 him)
    rw [ho] at h1
    simp only [Bool.and_eq_true, List.all_eq_true, decide_eq_true_eq, List.mem_range] at h1
    obtain ⟨⟨⟨h2, h3⟩, h5⟩, h4⟩ := h1
    cases hd : o.dst with
    | none => rw [hd] at h2; cases h2
    | some d =>
      rw [hd] at h2
      have hs : slot ops i = d := by simp [slot, ho, hd]
      rw [hs]
      refine ⟨⟨rfl, by simpa using h2, fun e he hb => by have := h3 e (by simpa using he); rw [hb] at this; simpa using this, fun g hg => by rw [hg] at h5; simpa using h5⟩, fun j hj => by rw [← hs]; exact h4 j hj⟩
  refine ⟨hm, fun i o hi ho => (key i o hi ho).1, fun i j hi hj e => ?_⟩
  rcases Nat.lt_trichotomy i j with hl | hl | hl
  · exact absurd e ((key j _ hj (Array.getElem?_eq_getElem (by omega))).2 i hl)
  · exact hl
  · exact absurd e.symm ((key i _ hi (Array.getElem?_eq_getElem (by omega))).2 j hl)
theorem tailF_spec {ops : Array Oper} {m : Nat} (h : tailF ops m = true) (i : Nat) (o : Oper) (hi : m ≤ i) (ho : ops[i]? = some o) : (∀ j, j < i → ∃ e, e ∈ o.after ∧ e.on = j ∧ Region.binds .any e = true) ∧ ∀ e ∈ o.after, Region.binds .any e = true → e.on < i := by
  have h1 := List.all_eq_true.1 h i (List.mem_range.2 (Array.getElem?_eq_some_iff.1 ho).1)
  rw [ho] at h1
  simp only [Bool.or_eq_true, decide_eq_true_eq, Bool.and_eq_true, List.all_eq_true, List.mem_range] at h1
  rcases h1 with h1 | ⟨h1, h2⟩
  · omega
  · refine ⟨fun j hj => ?_, fun e he hb => by have := h2 e (by simpa using he); rw [hb] at this; simpa using this⟩
    obtain ⟨e, he, hb⟩ := Array.any_eq_true'.1 (h1 j hj)
    simp only [Bool.and_eq_true, decide_eq_true_eq] at hb
    exact ⟨e, he, hb⟩

section
variable {P : Program} {ops : Array Oper} {Q : Exit → Act → World → Prop}

theorem wpAny_tailF {m : Nat} (ht : tailF ops m = true) : ∀ (fuel k : Nat) (listed : Array Bool) (a : Act) (w : World), listed.size = ops.size → m ≤ k → k ≤ ops.size → ops.size - k ≤ fuel → (∀ j, j < k → listed.getD j false = true) →
    (∀ j, k ≤ j → j < ops.size → listed.getD j false = false) → wpList P ops Q (ops.toList.drop k) a w → wpAny P .any ops Q fuel listed a w := by
  intro fuel
  induction fuel with
  | zero =>
    intro k listed a w hsz hmk hk hf h1 h2 H
    obtain rfl : k = ops.size := by omega
    rw [List.drop_eq_nil_of_le (by simp)] at H
    refine wpAny_done (List.eq_nil_iff_forall_not_mem.2 fun i hi => ?_) H 0
    obtain ⟨g1, o, ho, _⟩ := mem_ready.1 hi
    have hil := (Array.getElem?_eq_some_iff.1 ho).1
    rw [getD_two (by rw [hsz]; exact hil), h1 i hil] at g1
    cases g1
  | succ fuel ih =>
    intro k listed a w hsz hmk hk hf h1 h2 H
    rcases Nat.lt_or_ge k ops.size with hlt | hge
    · have ho := Array.getElem?_eq_getElem hlt
      have hd : ops.toList.drop k = ops[k] :: ops.toList.drop (k + 1) := by
        rw [List.drop_eq_getElem_cons (by simpa using hlt)]
        simp
      rw [hd] at H
      have hkr : k ∈ Region.ready .any ops listed := mem_ready.2 ⟨by rw [getD_two (by rw [hsz]; exact hlt)]; exact h2 k (Nat.le_refl _) hlt, _, ho, fun e he hb => h1 _ ((tailF_spec ht k _ hmk ho).2 e he hb)⟩
      refine ⟨fun e => absurd (e ▸ hkr) (by simp), fun i hi => ?_⟩
      obtain ⟨g1, o, hoi, haft⟩ := mem_ready.1 hi
      have hil := (Array.getElem?_eq_some_iff.1 hoi).1
      have hik : i = k := by
        rcases Nat.lt_trichotomy i k with hl | hl | hl
        · rw [getD_two (by rw [hsz]; exact hil), h1 i hl] at g1
          cases g1
        · exact hl
        · obtain ⟨e, he, hon, hb⟩ := (tailF_spec ht i o (by omega) hoi).1 k hl
          have := haft e he hb
          rw [hon, h2 k (Nat.le_refl _) hlt] at this
          cases this
      subst hik
      have next : ∀ a' w', wpList P ops Q (ops.toList.drop (i + 1)) a' w' → wpAny P .any ops Q fuel (listed.setIfInBounds i true) a' w' := fun a' w' h => by
        refine ih (i + 1) _ a' w' (by simp [hsz]) (by omega) hlt (by omega) (fun j hj => ?_) (fun j hj hjl => ?_) h
        · by_cases e : i = j
          · subst e
            have : i < listed.size := by rw [hsz]; exact hlt
            simp [this]
          · rw [getD_set_ne false e]
            exact h1 j (by omega)
        · rw [getD_set_ne false (by omega)]
          exact h2 j (by omega) hjl
      unfold wpOp
      rw [ho]
      simp only [wpList] at H
      simp only []
      split
      · rename_i hw
        rw [if_pos hw] at H
        exact H.imp (Oper.wp_mono next) id
      · rename_i hw
        rw [if_neg hw] at H
        exact next _ _ H
    · obtain rfl : k = ops.size := by omega
      rw [List.drop_eq_nil_of_le (by simp)] at H
      refine wpAny_done (List.eq_nil_iff_forall_not_mem.2 fun i hi => ?_) H _
      obtain ⟨g1, o, ho, _⟩ := mem_ready.1 hi
      have hil := (Array.getElem?_eq_some_iff.1 ho).1
      rw [getD_two (by rw [hsz]; exact hil), h1 i hil] at g1
      cases g1

structure SpecsFr (ops : Array Oper) (m : Nat) (S : Nat → Value → World → Prop) (B : World → Prop) (a0 : Act) (listed : Array Bool) (a : Act) (W : World) : Prop where
  size : listed.size = ops.size
  tmps : a.tmps.size = a0.tmps.size
  defers : a.defers = a0.defers
  base : B W
  old : ∀ t, (∀ i, i < m → slot ops i ≠ t) → a.eval (.tmp t) = a0.eval (.tmp t)
  got : ∀ i, i < m → listed.getD i false = true → S i (a.eval (.tmp (slot ops i))) W
  tail : ∀ i, m ≤ i → i < ops.size → listed.getD i false = false

theorem wp_region_specs_free {id : Nat} {a : Act} {w : World} (m : Nat) (S : Nat → Value → World → Prop) (B : World → Prop) (hm : P.follows .mixedOrders = true) (hs : slotsFr ops m a.tmps.size = true) (ht : tailF ops m = true)
    (hB0 : B { w with drawn := w.drawn + 1 }) (hBg : ∀ W W', B W → Below W.heap.size W W' → B W') (hSg : ∀ i v W W', S i v W → Below W.heap.size W W' → S i v W')
    (D : Nat → Tmp) (hD : ((List.range m).all fun i => decide (slot ops i = D i)) = true)
    (step : ∀ (i : Nat) (o : Oper), i < m → ops[i]? = some o → ∀ (a' : Act) (W : World), B W → a'.tmps.size = a.tmps.size → (∀ t, ((List.range m).all fun i => decide (D i ≠ t)) = true → a'.eval (.tmp t) = a.eval (.tmp t)) →
      (∀ j, (o.after.any fun e => decide (e.on = j) && Region.binds .any e) = true → S j (a'.eval (.tmp (D j))) W) →
      (∀ j b, o.guard = some (j, b) → a'.eval (.tmp (D j)) = .bool b) ∧ o.wp P a' W (fun a'' W' => ∃ v, a'' = a'.put o.dst v ∧ S i v W' ∧ Below W.heap.size W W') Q)
    (done : ∀ (a' : Act) (W : World), B W → a'.tmps.size = a.tmps.size → a'.defers = a.defers → (∀ t, ((List.range m).all fun i => decide (D i ≠ t)) = true → a'.eval (.tmp t) = a.eval (.tmp t)) →
      (∀ i, i < m → S i (a'.eval (.tmp (D i))) W) → wpList P ops Q (ops.toList.drop m) a' W) : (Code.region id ops true).wp P Q a w := by
  obtain ⟨hmo, hd, hap⟩ := slotsFr_spec hs
  have hD' : ∀ i, i < m → slot ops i = D i := fun i hi => by simpa using List.all_eq_true.1 hD i (List.mem_range.2 hi)
  have hoT : ∀ t, ((List.range m).all fun i => decide (D i ≠ t)) = true → ∀ i, i < m → slot ops i ≠ t := fun t ht i hi => by
    rw [hD' i hi]
    simpa using List.all_eq_true.1 ht i (List.mem_range.2 hi)
  refine wp_region_any hm ?_
  have aux : ∀ (fuel : Nat) (listed : Array Bool) (a' : Act) (W : World), SpecsFr ops m S B a listed a' W → (List.range m).countP (fun i => !listed.getD i true) + (ops.size - m) ≤ fuel → wpAny P .any ops Q fuel listed a' W := by
    intro fuel
    induction fuel with
    | zero =>
      intro listed a' W h hc
      have h0 : (List.range m).countP (fun i => !listed.getD i true) = 0 := by omega
      have all : ∀ i, i < m → listed.getD i false = true := fun i hi => by
        have := List.countP_eq_zero.1 h0 i (List.mem_range.2 hi)
        rw [getD_two (by rw [h.size]; omega)] at this
        simpa using this
      exact wpAny_tailF ht 0 m listed a' W h.size (Nat.le_refl _) hmo (by omega) all h.tail (done a' W h.base h.tmps h.defers (fun t ht => h.old t (hoT t ht)) fun i hi => by rw [← hD' i hi]; exact h.got i hi (all i hi))
    | succ fuel ih =>
      intro listed a' W h hc
      by_cases hall : ∀ i, i < m → listed.getD i false = true
      · exact wpAny_tailF ht _ m listed a' W h.size (Nat.le_refl _) hmo (by omega) hall h.tail (done a' W h.base h.tmps h.defers (fun t ht => h.old t (hoT t ht)) fun i hi => by rw [← hD' i hi]; exact h.got i hi (hall i hi))
      · -- the least one that is not listed is ready
        have hne : Region.ready .any ops listed ≠ [] := by
          intro hr
          apply hall
          have all : ∀ n i, i ≤ n → i < m → listed.getD i false = true := by
            intro n
            induction n using Nat.strongRecOn with
            | _ n ih2 =>
              intro i hin hi
              cases hl : listed.getD i false with
              | true => rfl
              | false =>
                exfalso
                have hil : i < ops.size := by omega
                have : i ∈ Region.ready .any ops listed := mem_ready.2 ⟨by rw [getD_two (by rw [h.size]; exact hil), hl], _, Array.getElem?_eq_getElem hil, fun e he hb => by
                  have := (hd i _ hi (Array.getElem?_eq_getElem hil)).2.2.1 e he hb
                  exact ih2 e.on (by omega) e.on (Nat.le_refl _) (by omega)⟩
                rw [hr] at this
                cases this
          exact fun i hi => all i i (Nat.le_refl _) hi
        refine ⟨fun e => absurd e hne, fun i hi => ?_⟩
        obtain ⟨h1, o, ho, haft⟩ := mem_ready.1 hi
        have hil := (Array.getElem?_eq_some_iff.1 ho).1
        have him : i < m := by
          rcases Nat.lt_or_ge i m with hl | hl
          · exact hl
          · exfalso
            apply hall
            intro j hj
            obtain ⟨e, he, hon, hb⟩ := (tailF_spec ht i o hl ho).1 j (by omega)
            have := haft e he hb
            rw [hon] at this
            exact this
        obtain ⟨hg, hp⟩ := step i o him ho a' W h.base h.tmps (fun t ht => h.old t (hoT t ht)) fun j hj => by
          obtain ⟨e, he, hb⟩ := Array.any_eq_true'.1 hj
          simp only [Bool.and_eq_true, decide_eq_true_eq] at hb
          obtain ⟨rfl, hb⟩ := hb
          have hlt : e.on < m := by have := (hd i o him ho).2.2.1 e he hb; omega
          rw [← hD' _ hlt]
          exact h.got e.on hlt (haft e he hb)
        have hw : Region.wanted o (yielded ops a'.tmps) = true := wanted_of (fun g hg => by
            have hlt : g.1 < m := by have := (hd i o him ho).2.2.2 g hg; omega
            exact ⟨_, Array.getElem?_eq_getElem (by omega), (hd _ _ hlt (Array.getElem?_eq_getElem (by omega))).1⟩) fun j b hgb => by
          have hlt : j < m := by have := (hd i o him ho).2.2.2 _ hgb; simp at this; omega
          rw [hD' _ hlt]
          exact hg j b hgb
        unfold wpOp
        rw [ho]
        simp only [hw, if_true]
        refine .inl (Oper.wp_mono (fun a'' W' hh => ?_) hp)
        obtain ⟨v, rfl, hS, hb⟩ := hh
        rw [(hd i o him ho).1]
        refine ih _ _ _ ⟨by simp [h.size], by simp [Act.put, h.tmps], h.defers, hBg _ _ h.base hb, fun t ht => ?_, fun j hj hl => ?_, fun j hj hjl => ?_⟩ ?_
        · rw [eval_put_other (Ne.symm (ht i him))]
          exact h.old t ht
        · by_cases e : i = j
          · subst e
            rw [eval_put_same (by rw [h.tmps]; exact (hd i o him ho).2.1)]
            exact hS
          · rw [eval_put_other (fun e' => e (hap i j him hj e'.symm))]
            rw [getD_set_ne false e] at hl
            exact hSg _ _ _ _ (h.got j hj hl) hb
        · rw [getD_set_ne false (by omega)]
          exact h.tail j hj hjl
        · have : (List.range m).countP (fun k => !(listed.setIfInBounds i true).getD k true) < (List.range m).countP (fun k => !listed.getD k true) := by
            refine countP_step _ _ i _ (fun y hy => ?_) (List.mem_range.2 him) (by simp [h1]) ?_
            · by_cases e : i = y
              · subst e; simp [h1]
              · rw [getD_set_ne true e] at hy; exact hy
            · have : i < listed.size := by rw [h.size]; exact hil
              simp [this]
          omega
  exact aux ops.size _ a _ ⟨by simp, rfl, rfl, hB0, fun _ _ => rfl, fun i hi hl => (by rw [getD_replicate_false] at hl; cases hl), fun i _ _ => getD_replicate_false _ _⟩ (by
    have := List.countP_le_length (p := fun i => !(Array.replicate ops.size false).getD i true) (l := List.range m)
    simp only [List.length_range] at this
    omega)

/-- The slots of l get their values, one behind the other. -/
def puts (a : Act) (l : List (Tmp × Value)) : Act := l.foldl (fun a x => a.put (some x.1) x.2) a
theorem puts_size (l : List (Tmp × Value)) : ∀ a : Act, (puts a l).tmps.size = a.tmps.size ∧ (puts a l).defers = a.defers := by
  induction l with
  | nil => exact fun a => ⟨rfl, rfl⟩
  | cons x l ih => exact fun a => ⟨by rw [show puts a (x :: l) = puts (a.put (some x.1) x.2) l from rfl, (ih _).1]; simp [Act.put], (ih _).2⟩
theorem puts_eval (l : List (Tmp × Value)) : ∀ (a a' : Act), a'.tmps.size = a.tmps.size → (∀ x, x ∈ l → x.1 < a.tmps.size ∧ a'.eval (.tmp x.1) = x.2) → (∀ t, t ∉ l.map (·.1) → a'.eval (.tmp t) = a.eval (.tmp t)) → ∀ t, a'.eval (.tmp t) = (puts a l).eval (.tmp t) := by
  induction l with
  | nil => exact fun a a' _ _ h t => h t (by simp)
  | cons x l ih =>
    intro a a' hsz h1 h2 t
    refine ih (a.put (some x.1) x.2) a' (by simp [Act.put, hsz]) (fun y hy => ?_) (fun t ht => ?_) t
    · have := h1 y (List.mem_cons_of_mem _ hy)
      exact ⟨by simpa [Act.put] using this.1, this.2⟩
    · by_cases e : t = x.1
      · subst e
        have := h1 x List.mem_cons_self
        rw [eval_put_same this.1]
        exact this.2
      · rw [eval_put_other e]
        exact h2 t (by simp only [List.map_cons, List.mem_cons, not_or]; exact ⟨e, ht⟩)
/-- An activation whose slots all are known. -/
theorem act_puts {a a' : Act} {l : List (Tmp × Value)} (hsz : a'.tmps.size = a.tmps.size) (hdf : a'.defers = a.defers) (h1 : ∀ x, x ∈ l → x.1 < a.tmps.size ∧ a'.eval (.tmp x.1) = x.2) (h2 : ∀ t, t ∉ l.map (·.1) → a'.eval (.tmp t) = a.eval (.tmp t)) : a' = puts a l := by
  have he := puts_eval l a a' hsz h1 h2
  have hs := puts_size l a
  obtain ⟨tm, df⟩ := a'
  obtain ⟨tm2, df2, hp⟩ : ∃ tm2 df2, puts a l = ⟨tm2, df2⟩ := ⟨_, _, rfl⟩
  rw [hp] at he hs ⊢
  have hdf2 : df = df2 := hdf.trans hs.2.symm
  subst hdf2
  congr 1
  have hsz2 : tm.size = tm2.size := hsz.trans hs.1.symm
  refine Array.ext hsz2 fun i h1 h2 => ?_
  have := he i
  simpa [Act.eval, h1, h2] using this
end
end Go.Proofs.Ytckndnaohggmhaa

/- The reference's IsPlace, Places, IsDrop, first. -/
namespace Go.Proofs.Ytckndnaohggmhaa
open Go.RowKit Go.Shelf

section
variable {w : World} {Wd : Int} {A : Option Addr} {n c : Nat} {A' : Option Addr} {n' c' : Nat} {ss : List (Int × Int)} {ds : List (Int × Int × Int)}

set_option maxHeartbeats 400000 in
theorem isPlace_ref (x : Int) (w : World) : Calls Try.prog 96 #[.agg #[.int .i64 Wd, .slice A n c, .slice A' n' c'], .int .i64 x] w fun e w' => e = .returned (.bool (decide (-2 ≤ x) && decide (x < (n : Int)))) ∧ Ext w w' := by
  by_cases h1 : x = -1
  · subst h1
    rw [show (decide ((-2 : Int) ≤ -1) && decide ((-1 : Int) < (n : Int))) = true from by simp; omega]
    go_enter Try.func96, Try.ntmps96
    go_wp2
    go_ret
    exact ⟨rfl, ext_alloc w _⟩
  · by_cases h2 : x = -2
    · subst h2
      rw [show (decide ((-2 : Int) ≤ -2) && decide ((-2 : Int) < (n : Int))) = true from by simp; omega]
      go_enter Try.func96, Try.ntmps96
      go_wp2
      go_ret
      exact ⟨rfl, ext_alloc w _⟩
    · have e1 : (x == -1) = false := by simp [h1]
      have e2 : (x == -2) = false := by simp [h2]
      have cS := isSpot_ref (Wd := Wd) (A := A) (n := n) (c := c) (A' := A') (n' := n') (c' := c') x (w.alloc (.cells #[.int .i64 Wd, .slice A n c, .slice A' n' c'] 25))
      rw [show (decide (0 ≤ x) && decide (x < (n : Int))) = (decide (-2 ≤ x) && decide (x < (n : Int))) from by
        by_cases h3 : 0 ≤ x
        · simp [h3]; omega
        · have : ¬ (-2 ≤ x) := by omega
          simp [h3, this]] at cS
      generalize (decide (-2 ≤ x) && decide (x < (n : Int))) = q at cS ⊢
      go_enter Try.func96, Try.ntmps96
      go_wp2_with (go_at_call 60; refine cS.mono ?_; rintro e w2 ⟨rfl, hb2⟩)
      go_ret
      exact ⟨rfl, (ext_alloc w _).trans hb2⟩

/-- Whether a number is a place of a bath with n spots. -/
def plB (n : Nat) (x : Int) : Bool := decide (-2 ≤ x) && decide (x < (n : Int))

set_option maxRecDepth 100000 in
set_option maxHeartbeats 1000000 in
theorem places_ref (one two : Int) (hb : IsBath w w.heap.size A n c A' n' c' ss ds) :
    Calls Try.prog 70 #[.agg #[.int .i64 Wd, .slice A n c, .slice A' n' c'], .int .i64 one, .int .i64 two] w fun e w' => e = .returned (.int .i64 (forErr Wd ss ds one two)) ∧ Ext w w' := by
  have cB : ∀ W : World, IsBath W W.heap.size A n c A' n' c' ss ds → _ := fun W h => checkBath_ref (Wd := Wd) h
  have hX0 : BathAt (w.alloc (.cells #[.int .i64 Wd, .slice A n c, .slice A' n' c'] 25)) w.heap.size Wd A n c A' n' c' ss ds := BathAt.new hb
  have hE0 : Ext w (w.alloc (.cells #[.int .i64 Wd, .slice A n c, .slice A' n' c'] 25)) := ext_alloc w _
  have hnn := hb.nss
  clear hb
  by_cases he : bathErr Wd ss ds = 0
  · rw [he] at cB
    have cP := fun (x : Int) (W : World) => isPlace_ref (Wd := Wd) (A := A) (n := n) (c := c) (A' := A') (n' := n') (c' := c') x W
    have hans : forErr Wd ss ds one two = if one ≠ two ∧ plB n one = true ∧ plB n two = true then 0 else 2 := by
      unfold forErr plB
      rw [if_pos he, hnn]
    obtain ⟨ans, hans2⟩ : ∃ ans, forErr Wd ss ds one two = ans := ⟨_, rfl⟩
    rw [hans2] at hans ⊢
    have HANS := Lib.hid hans
    have c1 := cP one
    have c2 := cP two
    change ∀ W, Calls Try.prog 96 _ W (fun e w' => e = .returned (.bool (plB n one)) ∧ Ext W w') at c1
    change ∀ W, Calls Try.prog 96 _ W (fun e w' => e = .returned (.bool (plB n two)) ∧ Ext W w') at c2
    clear cP hans hans2 hnn he
    cases p1 : plB n one with
    | false =>
      rw [p1] at c1
      obtain rfl : ans = 2 := by rw [HANS.out, p1]; simp
      clear p1
      go_enter Try.func70, Try.ntmps70
      go_wp2_with fail
      refine (cB _ hX0.bath).mono ?_
      rintro e w1 ⟨rfl, hb1⟩
      obtain ⟨q0, q1, q2⟩ := (hX0.ext hb1).cells
      have hE1 := Lib.hid (hE0.trans hb1)
      clear hX0 hE0 hb1
      go_wp2_with fail
      refine (c1 _).mono ?_
      rintro e w2 ⟨rfl, hb2⟩
      go_wp2
      go_ret
      exact ⟨rfl, hE1.out.trans hb2⟩
    | true =>
      rw [p1] at c1
      cases p2 : plB n two with
      | false =>
        rw [p2] at c2
        obtain rfl : ans = 2 := by rw [HANS.out, p2]; simp
        clear p1 p2
        go_enter Try.func70, Try.ntmps70
        go_wp2_with fail
        refine (cB _ hX0.bath).mono ?_
        rintro e w1 ⟨rfl, hb1⟩
        have hX1 := hX0.ext hb1
        obtain ⟨q0, q1, q2⟩ := hX1.cells
        have hE1 := Lib.hid (hE0.trans hb1)
        clear hX0 hE0 hb1
        go_wp2_with fail
        refine (c1 _).mono ?_
        rintro e w2 ⟨rfl, hb2⟩
        have hE2 := Lib.hid (hE1.out.trans hb2)
        clear q0 q1 q2
        obtain ⟨q0, q1, q2⟩ := (hX1.ext hb2).cells
        clear hX1 hE1 hb2
        go_wp2_with fail
        refine (c2 _).mono ?_
        rintro e w3 ⟨rfl, hb3⟩
        go_wp2
        go_ret
        exact ⟨rfl, hE2.out.trans hb3⟩
      | true =>
        rw [p2] at c2
        have HANS3 : Hid (ans = if one ≠ two then 0 else 2) := Lib.hid (by rw [HANS.out, p1, p2]; simp)
        clear HANS p1 p2
        by_cases h12 : one = two
        · obtain rfl : ans = 2 := by rw [HANS3.out]; simp [h12]
          have e12 : (one == two) = true := by simp [h12]
          clear h12
          go_enter Try.func70, Try.ntmps70
          go_wp2_with fail
          refine (cB _ hX0.bath).mono ?_
          rintro e w1 ⟨rfl, hb1⟩
          have hX1 := hX0.ext hb1
          obtain ⟨q0, q1, q2⟩ := hX1.cells
          have hE1 := Lib.hid (hE0.trans hb1)
          clear hX0 hE0 hb1
          go_wp2_with fail
          refine (c1 _).mono ?_
          rintro e w2 ⟨rfl, hb2⟩
          have hE2 := Lib.hid (hE1.out.trans hb2)
          clear q0 q1 q2
          obtain ⟨q0, q1, q2⟩ := (hX1.ext hb2).cells
          clear hX1 hE1 hb2
          go_wp2_with fail
          refine (c2 _).mono ?_
          rintro e w3 ⟨rfl, hb3⟩
          go_wp2
          go_ret
          exact ⟨rfl, hE2.out.trans hb3⟩
        · obtain rfl : ans = 0 := by rw [HANS3.out, if_pos h12]
          have e12 : (one == two) = false := by simp [h12]
          clear h12
          go_enter Try.func70, Try.ntmps70
          go_wp2_with fail
          refine (cB _ hX0.bath).mono ?_
          rintro e w1 ⟨rfl, hb1⟩
          have hX1 := hX0.ext hb1
          obtain ⟨q0, q1, q2⟩ := hX1.cells
          have hE1 := Lib.hid (hE0.trans hb1)
          clear hX0 hE0 hb1
          go_wp2_with fail
          refine (c1 _).mono ?_
          rintro e w2 ⟨rfl, hb2⟩
          have hE2 := Lib.hid (hE1.out.trans hb2)
          clear q0 q1 q2
          obtain ⟨q0, q1, q2⟩ := (hX1.ext hb2).cells
          clear hX1 hE1 hb2
          go_wp2_with fail
          refine (c2 _).mono ?_
          rintro e w3 ⟨rfl, hb3⟩
          go_wp2
          go_ret
          exact ⟨rfl, hE2.out.trans hb3⟩
  · clear hnn
    unfold forErr
    rw [if_neg he]
    generalize bathErr Wd ss ds = r at he cB ⊢
    have hne2 : (r != 0) = true := by simpa using he
    go_enter Try.func70, Try.ntmps70
    go_wp2_with fail
    refine (cB _ hX0.bath).mono ?_
    rintro e w1 ⟨rfl, hb1⟩
    have hX1 := hX0.ext hb1
    have hE1 := Lib.hid (hE0.trans hb1)
    clear hX0 hE0 hb1
    obtain ⟨q0, q1, q2⟩ := hX1.cells
    go_wp2_with fail
    refine (cB _ hX1.bath).mono ?_
    rintro e w2 ⟨rfl, hb2⟩
    go_wp2
    go_ret
    exact ⟨rfl, hE1.out.trans hb2⟩

set_option maxHeartbeats 400000 in
theorem isDrop_ref (x : Int) (w : World) : Calls Try.prog 74 #[.agg #[.int .i64 Wd, .slice A n c, .slice A' n' c'], .int .i64 x] w fun e w' => e = .returned (.bool (decide (0 ≤ x) && decide (x < (n' : Int)))) ∧ Ext w w' := by
  by_cases h1 : 0 ≤ x
  · by_cases h2 : x < (n' : Int)
    · go_enter Try.func74, Try.ntmps74
      go_wp2
      go_ret
      exact ⟨ret_bool (by simp [h1, h2]), ext_alloc w _⟩
    · go_enter Try.func74, Try.ntmps74
      go_wp2
      go_ret
      exact ⟨ret_bool (by simp [h2]), ext_alloc w _⟩
  · go_enter Try.func74, Try.ntmps74
    go_wp2
    go_ret
    exact ⟨ret_bool (by simp; omega), ext_alloc w _⟩

/-- Whether a drop is the first one on its spot. -/
def firstB (ds : List (Int × Int × Int)) (k : Nat) : Bool := (List.range k).all fun j => !decide ((ds.getD j (0, 0, 0)).1 = (ds.getD k (0, 0, 0)).1)

set_option maxRecDepth 100000 in
set_option maxHeartbeats 1000000 in
theorem first_ref (k : Nat) (hb : IsBath w w.heap.size A n c A' n' c' ss ds) (hk : k < n') :
    Calls Try.prog 75 #[.agg #[.int .i64 Wd, .slice A n c, .slice A' n' c'], .int .i64 (k : Int)] w fun e w' => e = .returned (.bool (firstB ds k)) ∧ Ext w w' := by
  have h0 := BathAt.new (Wd := Wd) hb
  have hkc : (k : Int) < 9223372036854775807 := by have := hb.nle'; omega
  have HNL := Lib.hid hb.nle'
  clear hb
  go_enter Try.func75, Try.ntmps75
  go_wp2
  obtain ⟨w0, hw0⟩ : ∃ w0, w.alloc (.cells #[.int .i64 Wd, .slice A n c, .slice A' n' c'] 25) = w0 := ⟨_, rfl⟩
  have e0 : Ext w w0 := by rw [← hw0]; exact ext_alloc w _
  rw [hw0] at h0 ⊢
  have E0 := Lib.hid e0
  have H0 := Lib.hid h0
  clear hw0 e0 h0
  go_loopw [5] (fun i wr => ∃ j : Nat, j ≤ k ∧ i = .int .i64 j ∧ Hid (Ext w0 wr) ∧ Hid (∀ m, m < j → (ds.getD m (0, 0, 0)).1 ≠ (ds.getD k (0, 0, 0)).1)) (fun i _ => k - (intOf i).toNat)
  case atStart => exact ⟨0, Nat.zero_le _, rfl, Lib.hid (Ext.refl _), Lib.hid (fun m hm => absurd hm (by omega))⟩
  case round =>
    obtain ⟨j, hj, rfl, hB, hN⟩ := hrel
    have hx := H0.out.ext hB.out
    obtain ⟨q0, q1, q2⟩ := hx.cells
    by_cases hlt : j < k
    · have hltz : (j : Int) < (k : Int) := by omega
      have hjn : (j : Int) < (n' : Int) := by omega
      have hkn : (k : Int) < (n' : Int) := by omega
      obtain ⟨b, off, rfl, d0, d1, d2⟩ := hx.drop (k := j) (by omega)
      obtain ⟨b', off', hbb, c0, c1, c2⟩ := hx.drop hk
      cases hbb
      obtain ⟨x, hxj⟩ : ∃ x, (ds.getD j (0, 0, 0)).1 = x := ⟨_, rfl⟩
      obtain ⟨y, hyk⟩ : ∃ y, (ds.getD k (0, 0, 0)).1 = y := ⟨_, rfl⟩
      rw [hxj] at d0
      rw [hyk] at c0
      have HXY := Lib.hid (And.intro hxj hyk)
      clear hx hxj hyk d1 d2 c1 c2
      by_cases hxy : x = y
      · subst hxy
        have hf : Hid (firstB ds k = false) := Lib.hid (by
          unfold firstB
          rw [List.all_eq_false]
          exact ⟨j, List.mem_range.2 hlt, by rw [HXY.out.1, HXY.out.2]; simp⟩)
        clear HXY
        go_wp2
        go_quiet (fail)
        go_wp2
        go_ret
        exact ⟨ret_bool hf.out.symm, E0.out.trans (ext_drewN hB.out _)⟩
      · have e1 : (x == y) = false := by simp [hxy]
        have hN1 : Hid (∀ m, m < j + 1 → (ds.getD m (0, 0, 0)).1 ≠ (ds.getD k (0, 0, 0)).1) := Lib.hid fun m hm => by
          by_cases e : m = j
          · subst e
            rw [HXY.out.1, HXY.out.2]
            exact hxy
          · exact hN.out m (by omega)
        clear HXY hxy hN
        go_wp2
        go_quiet (fail)
        go_wp2
        go_roundw
        case measure => simp [intOf]; omega
        case rel => exact ⟨j + 1, by omega, by go_num, Lib.hid (ext_drewN hB.out _), hN1⟩
    · have hltz : ¬ (j : Int) < (k : Int) := by omega
      have hf : Hid (firstB ds k = true) := Lib.hid (by
        unfold firstB
        rw [List.all_eq_true]
        intro m hm
        simpa using hN.out m (by have := List.mem_range.1 hm; omega))
      clear hx
      go_wp2
      go_ret
      exact ⟨ret_bool hf.out.symm, E0.out.trans hB.out⟩
end
end Go.Proofs.Ytckndnaohggmhaa

/- The reference's Touches: what the operations of its two statements `size, spot` yield. -/
namespace Go.Proofs.Ytckndnaohggmhaa
open Go.RowKit Go.Shelf

theorem all_ne_of {m : Nat} {D : Nat → Tmp} {l : List (Tmp × Value)} (hl : (List.range m).map D = l.map (·.1)) {t : Tmp} (ht : t ∉ l.map (·.1)) : ((List.range m).all fun i => decide (D i ≠ t)) = true := by
  rw [List.all_eq_true]
  intro i hi
  rw [← hl] at ht
  simp only [decide_eq_true_eq]
  intro e
  exact ht (e ▸ List.mem_map_of_mem hi)

/-- What each operation yields: a box at p, a truth, the spot i with its sum and place. -/
def sizeSpotS (Wd : Int) (b off n c : Nat) (A' : Option Addr) (n' c' : Nat) (T : Option Addr) (m cT : Nat) (i : Nat) (s X Y : Int) (p N0 : Nat) (k : Nat) (v : Value) (W : World) : Prop :=
  match k with
  | 0 => v = .agg #[.int .i64 Wd, .slice (some ⟨b, off, none⟩) n c, .slice A' n' c']
  | 1 => v = .slice T m cT
  | 2 => v = .int .i64 (i : Int)
  | 3 => v = .int .i64 s
  | 4 => v = .pointer (some ⟨p, 1, none⟩)
  | 5 => v = .slice (some ⟨b, off, none⟩) n c
  | 6 => v = .int .i64 (i : Int)
  | 7 => v = .pointer (some ⟨b, off + i * 2, none⟩)
  | 8 => v = .agg #[.int .i64 X, .int .i64 Y]
  | 9 => ∃ g, v = .pointer (some ⟨g, 0, none⟩) ∧ N0 ≤ g ∧ W.heap[g]? = some (.cells #[.int .i64 0, .int .i64 0] 74 (0, 0))
  | _ => v = .int .i64 s
theorem sizeSpotS_ext (Wd : Int) (b off n c : Nat) (A' : Option Addr) (n' c' : Nat) (T : Option Addr) (m cT : Nat) (i : Nat) (s X Y : Int) (p N0 : Nat) (k : Nat) (v : Value) (W W' : World) (h : sizeSpotS Wd b off n c A' n' c' T m cT i s X Y p N0 k v W) (e : Below W.heap.size W W') : sizeSpotS Wd b off n c A' n' c' T m cT i s X Y p N0 k v W' := by
  unfold sizeSpotS at h ⊢
  split at h <;> first | exact h | (obtain ⟨g, rfl, hn, hr⟩ := h; exact ⟨g, rfl, hn, row_ext hr e⟩)

noncomputable def touchReg5 : Array Oper := (Try.f46.body.bind (regionOf · 5)).getD #[]
def touchD5 (k : Nat) : Tmp := if k = 9 then 10 else if k = 10 then 9 else 24 + k
noncomputable def touchReg12 : Array Oper := (Try.f46.body.bind (regionOf · 12)).getD #[]
def touchD12 (k : Nat) : Tmp := if k = 9 then 12 else if k = 10 then 11 else 59 + k
section
variable {Wd : Int} {b off n c : Nat} {A' : Option Addr} {n' c' : Nat} {ss : List (Int × Int)} {ds : List (Int × Int × Int)} {T : Option Addr} {m cT i : Nat} {s X Y : Int} {p N0 : Nat} {ts : List Int} {Q : Exit → Act → World → Prop} {a : Act} {V W : World} {o : Oper}

theorem touch5_op0 (o4 : a.eval (.tmp 4) = .pointer (some ⟨p, 0, none⟩)) (hx : BathAt V p Wd (some ⟨b, off, none⟩) n c A' n' c' ss ds) (ho : touchReg5[0]? = some o) (hB : Ext V W) (_haft : ∀ j, (o.after.any fun e => decide (e.on = j) && Region.binds .any e) = true → sizeSpotS Wd b off n c A' n' c' T m cT i s X Y p N0 j (a.eval (.tmp (touchD5 j))) W) :
    (∀ j b, o.guard = some (j, b) → a.eval (.tmp (touchD5 j)) = .bool b) ∧ o.wp Try.prog a W (fun a'' W' => ∃ v, a'' = a.put o.dst v ∧ sizeSpotS Wd b off n c A' n' c' T m cT i s X Y p N0 0 v W' ∧ Below W.heap.size W W') Q := by
  have hop := op_at ho (·.op) (x := .load 25 (.tmp 4)) (by kernel_rfl)
  have hgd := op_at ho (·.guard) (x := none) (by kernel_rfl)
  refine ⟨fun j b h => (by rw [hgd] at h; cases h), ?_⟩
  obtain ⟨q0, q1, q2⟩ := (hx.ext hB).cells
  exact specs_value (R := sizeSpotS Wd b off n c A' n' c' T m cT i s X Y p N0 0) (v := .agg #[.int .i64 Wd, .slice (some ⟨b, off, none⟩) n c, .slice A' n' c']) (by simp [execOp, hop, go_sem, ev o4, q0, q1, q2]) rfl (Ext.refl W)
theorem touch5_op1 (o1 : a.eval (.tmp 1) = .slice T m cT) (ho : touchReg5[1]? = some o) (_hB : Ext V W) (_haft : ∀ j, (o.after.any fun e => decide (e.on = j) && Region.binds .any e) = true → sizeSpotS Wd b off n c A' n' c' T m cT i s X Y p N0 j (a.eval (.tmp (touchD5 j))) W) :
    (∀ j b, o.guard = some (j, b) → a.eval (.tmp (touchD5 j)) = .bool b) ∧ o.wp Try.prog a W (fun a'' W' => ∃ v, a'' = a.put o.dst v ∧ sizeSpotS Wd b off n c A' n' c' T m cT i s X Y p N0 1 v W' ∧ Below W.heap.size W W') Q := by
  have hop := op_at ho (·.op) (x := .move (.tmp 1)) (by kernel_rfl)
  have hgd := op_at ho (·.guard) (x := none) (by kernel_rfl)
  refine ⟨fun j b h => (by rw [hgd] at h; cases h), ?_⟩
  exact specs_value (R := sizeSpotS Wd b off n c A' n' c' T m cT i s X Y p N0 1) (v := .slice T m cT) (by simp [execOp, hop, go_sem, ev o1]) rfl (Ext.refl W)
theorem touch5_op2 (ov : a.eval (.tmp 2) = .int .i64 (i : Int)) (ho : touchReg5[2]? = some o) (_hB : Ext V W) (_haft : ∀ j, (o.after.any fun e => decide (e.on = j) && Region.binds .any e) = true → sizeSpotS Wd b off n c A' n' c' T m cT i s X Y p N0 j (a.eval (.tmp (touchD5 j))) W) :
    (∀ j b, o.guard = some (j, b) → a.eval (.tmp (touchD5 j)) = .bool b) ∧ o.wp Try.prog a W (fun a'' W' => ∃ v, a'' = a.put o.dst v ∧ sizeSpotS Wd b off n c A' n' c' T m cT i s X Y p N0 2 v W' ∧ Below W.heap.size W W') Q := by
  have hop := op_at ho (·.op) (x := .move (.tmp 2)) (by kernel_rfl)
  have hgd := op_at ho (·.guard) (x := none) (by kernel_rfl)
  refine ⟨fun j b h => (by rw [hgd] at h; cases h), ?_⟩
  exact specs_value (R := sizeSpotS Wd b off n c A' n' c' T m cT i s X Y p N0 2) (v := .int .i64 (i : Int)) (by simp [execOp, hop, go_sem, ev ov]) rfl (Ext.refl W)
theorem touch5_op3 (hx : BathAt V p Wd (some ⟨b, off, none⟩) n c A' n' c' ss ds) (h100 : n' ≤ 100) (hm : m = ts.length) (hmn : n' ≤ m) (hmm : m ≤ 9223372036854775807) (ht : Held V V.heap.size 1 encI T ts) (hbd : ∀ k, 0 ≤ ts.getD k 0 ∧ ts.getD k 0 ≤ 10000) (hsum : sumAt ds ts i n' = s) (ho : touchReg5[3]? = some o) (hB : Ext V W) (haft : ∀ j, (o.after.any fun e => decide (e.on = j) && Region.binds .any e) = true → sizeSpotS Wd b off n c A' n' c' T m cT i s X Y p N0 j (a.eval (.tmp (touchD5 j))) W) :
    (∀ j b, o.guard = some (j, b) → a.eval (.tmp (touchD5 j)) = .bool b) ∧ o.wp Try.prog a W (fun a'' W' => ∃ v, a'' = a.put o.dst v ∧ sizeSpotS Wd b off n c A' n' c' T m cT i s X Y p N0 3 v W' ∧ Below W.heap.size W W') Q := by
  have hop := op_at ho (·.op) (x := .call { callee := .value (.func 45), args := #[.tmp 24, .tmp 25, .tmp 26], argTypes := #[25, 55, 3] }) (by kernel_rfl)
  have hgd := op_at ho (·.guard) (x := none) (by kernel_rfl)
  refine ⟨fun j b h => (by rw [hgd] at h; cases h), ?_⟩
  have e0 : a.eval (.tmp 24) = .agg #[.int .i64 Wd, .slice (some ⟨b, off, none⟩) n c, .slice A' n' c'] := haft 0 (op_at ho (fun o => o.after.any fun e => decide (e.on = 0) && Region.binds .any e) (x := true) (by kernel_rfl))
  have e1 : a.eval (.tmp 25) = .slice T m cT := haft 1 (op_at ho (fun o => o.after.any fun e => decide (e.on = 1) && Region.binds .any e) (x := true) (by kernel_rfl))
  have e2 : a.eval (.tmp 26) = .int .i64 (i : Int) := haft 2 (op_at ho (fun o => o.after.any fun e => decide (e.on = 2) && Region.binds .any e) (x := true) (by kernel_rfl))
  have hX := hx.ext hB
  have hc := sizeOf_ref (Wd := Wd) T m cT ts (i : Int) hX.bath h100 hm hmn hmm (ht.ext hB) hbd
  rw [hsum] at hc
  exact specs_call (R := sizeSpotS Wd b off n c A' n' c' T m cT i s X Y p N0 3) (f := 45) (args := #[.agg #[.int .i64 Wd, .slice (some ⟨b, off, none⟩) n c, .slice A' n' c'], .slice T m cT, .int .i64 (i : Int)]) (by simp [execOp, hop, go_sem, ev e0, ev e1, ev e2]) (hc.mono fun e w' h => ⟨_, h.1, rfl, h.2⟩)
theorem touch5_op4 (o4 : a.eval (.tmp 4) = .pointer (some ⟨p, 0, none⟩)) (ho : touchReg5[4]? = some o) (_hB : Ext V W) (_haft : ∀ j, (o.after.any fun e => decide (e.on = j) && Region.binds .any e) = true → sizeSpotS Wd b off n c A' n' c' T m cT i s X Y p N0 j (a.eval (.tmp (touchD5 j))) W) :
    (∀ j b, o.guard = some (j, b) → a.eval (.tmp (touchD5 j)) = .bool b) ∧ o.wp Try.prog a W (fun a'' W' => ∃ v, a'' = a.put o.dst v ∧ sizeSpotS Wd b off n c A' n' c' T m cT i s X Y p N0 4 v W' ∧ Below W.heap.size W W') Q := by
  have hop := op_at ho (·.op) (x := .fieldAddr 25 (.tmp 4) 1) (by kernel_rfl)
  have hgd := op_at ho (·.guard) (x := none) (by kernel_rfl)
  refine ⟨fun j b h => (by rw [hgd] at h; cases h), ?_⟩
  exact specs_value (R := sizeSpotS Wd b off n c A' n' c' T m cT i s X Y p N0 4) (v := .pointer (some ⟨p, 1, none⟩)) (by simp [execOp, hop, go_sem, ev o4]) rfl (Ext.refl W)
theorem touch5_op5 (_o4 : a.eval (.tmp 4) = .pointer (some ⟨p, 0, none⟩)) (hx : BathAt V p Wd (some ⟨b, off, none⟩) n c A' n' c' ss ds) (ho : touchReg5[5]? = some o) (hB : Ext V W) (haft : ∀ j, (o.after.any fun e => decide (e.on = j) && Region.binds .any e) = true → sizeSpotS Wd b off n c A' n' c' T m cT i s X Y p N0 j (a.eval (.tmp (touchD5 j))) W) :
    (∀ j b, o.guard = some (j, b) → a.eval (.tmp (touchD5 j)) = .bool b) ∧ o.wp Try.prog a W (fun a'' W' => ∃ v, a'' = a.put o.dst v ∧ sizeSpotS Wd b off n c A' n' c' T m cT i s X Y p N0 5 v W' ∧ Below W.heap.size W W') Q := by
  have hop := op_at ho (·.op) (x := .load 22 (.tmp 28)) (by kernel_rfl)
  have hgd := op_at ho (·.guard) (x := none) (by kernel_rfl)
  refine ⟨fun j b h => (by rw [hgd] at h; cases h), ?_⟩
  obtain ⟨q0, q1, q2⟩ := (hx.ext hB).cells
  have e4 : a.eval (.tmp 28) = .pointer (some ⟨p, 1, none⟩) := haft 4 (op_at ho (fun o => o.after.any fun e => decide (e.on = 4) && Region.binds .any e) (x := true) (by kernel_rfl))
  exact specs_value (R := sizeSpotS Wd b off n c A' n' c' T m cT i s X Y p N0 5) (v := .slice (some ⟨b, off, none⟩) n c) (by simp [execOp, hop, go_sem, ev e4, q1]) rfl (Ext.refl W)
theorem touch5_op6 (ov : a.eval (.tmp 2) = .int .i64 (i : Int)) (ho : touchReg5[6]? = some o) (_hB : Ext V W) (_haft : ∀ j, (o.after.any fun e => decide (e.on = j) && Region.binds .any e) = true → sizeSpotS Wd b off n c A' n' c' T m cT i s X Y p N0 j (a.eval (.tmp (touchD5 j))) W) :
    (∀ j b, o.guard = some (j, b) → a.eval (.tmp (touchD5 j)) = .bool b) ∧ o.wp Try.prog a W (fun a'' W' => ∃ v, a'' = a.put o.dst v ∧ sizeSpotS Wd b off n c A' n' c' T m cT i s X Y p N0 6 v W' ∧ Below W.heap.size W W') Q := by
  have hop := op_at ho (·.op) (x := .move (.tmp 2)) (by kernel_rfl)
  have hgd := op_at ho (·.guard) (x := none) (by kernel_rfl)
  refine ⟨fun j b h => (by rw [hgd] at h; cases h), ?_⟩
  exact specs_value (R := sizeSpotS Wd b off n c A' n' c' T m cT i s X Y p N0 6) (v := .int .i64 (i : Int)) (by simp [execOp, hop, go_sem, ev ov]) rfl (Ext.refl W)
theorem touch5_op7 (hin : (i : Int) < (n : Int)) (ho : touchReg5[7]? = some o) (_hB : Ext V W) (haft : ∀ j, (o.after.any fun e => decide (e.on = j) && Region.binds .any e) = true → sizeSpotS Wd b off n c A' n' c' T m cT i s X Y p N0 j (a.eval (.tmp (touchD5 j))) W) :
    (∀ j b, o.guard = some (j, b) → a.eval (.tmp (touchD5 j)) = .bool b) ∧ o.wp Try.prog a W (fun a'' W' => ∃ v, a'' = a.put o.dst v ∧ sizeSpotS Wd b off n c A' n' c' T m cT i s X Y p N0 7 v W' ∧ Below W.heap.size W W') Q := by
  have hop := op_at ho (·.op) (x := .indexAddr 22 (.tmp 29) (.tmp 30)) (by kernel_rfl)
  have hgd := op_at ho (·.guard) (x := none) (by kernel_rfl)
  refine ⟨fun j b h => (by rw [hgd] at h; cases h), ?_⟩
  have e5 : a.eval (.tmp 29) = .slice (some ⟨b, off, none⟩) n c := haft 5 (op_at ho (fun o => o.after.any fun e => decide (e.on = 5) && Region.binds .any e) (x := true) (by kernel_rfl))
  have e6 : a.eval (.tmp 30) = .int .i64 (i : Int) := haft 6 (op_at ho (fun o => o.after.any fun e => decide (e.on = 6) && Region.binds .any e) (x := true) (by kernel_rfl))
  exact specs_value (R := sizeSpotS Wd b off n c A' n' c' T m cT i s X Y p N0 7) (v := .pointer (some ⟨b, off + i * 2, none⟩)) (by simp [execOp, hop, go_sem, ev e5, ev e6, hin]) rfl (Ext.refl W)
theorem touch5_op8 (hx : BathAt V p Wd (some ⟨b, off, none⟩) n c A' n' c' ss ds) (hin : i < n) (hXY : ss.getD i (0, 0) = (X, Y)) (ho : touchReg5[8]? = some o) (hB : Ext V W) (haft : ∀ j, (o.after.any fun e => decide (e.on = j) && Region.binds .any e) = true → sizeSpotS Wd b off n c A' n' c' T m cT i s X Y p N0 j (a.eval (.tmp (touchD5 j))) W) :
    (∀ j b, o.guard = some (j, b) → a.eval (.tmp (touchD5 j)) = .bool b) ∧ o.wp Try.prog a W (fun a'' W' => ∃ v, a'' = a.put o.dst v ∧ sizeSpotS Wd b off n c A' n' c' T m cT i s X Y p N0 8 v W' ∧ Below W.heap.size W W') Q := by
  have hop := op_at ho (·.op) (x := .load 74 (.tmp 31)) (by kernel_rfl)
  have hgd := op_at ho (·.guard) (x := none) (by kernel_rfl)
  refine ⟨fun j b h => (by rw [hgd] at h; cases h), ?_⟩
  have e7 : a.eval (.tmp 31) = .pointer (some ⟨b, off + i * 2, none⟩) := haft 7 (op_at ho (fun o => o.after.any fun e => decide (e.on = 7) && Region.binds .any e) (x := true) (by kernel_rfl))
  obtain ⟨b1, off1, hbb, d0, d1⟩ := (hx.ext hB).spot hin
  cases hbb
  rw [hXY] at d0 d1
  exact specs_value (R := sizeSpotS Wd b off n c A' n' c' T m cT i s X Y p N0 8) (v := .agg #[.int .i64 X, .int .i64 Y]) (by simp [execOp, hop, go_sem, ev e7, d0, d1]) rfl (Ext.refl W)
theorem touch5_op9 (hN : N0 ≤ V.heap.size) (ho : touchReg5[9]? = some o) (hB : Ext V W) (_haft : ∀ j, (o.after.any fun e => decide (e.on = j) && Region.binds .any e) = true → sizeSpotS Wd b off n c A' n' c' T m cT i s X Y p N0 j (a.eval (.tmp (touchD5 j))) W) :
    (∀ j b, o.guard = some (j, b) → a.eval (.tmp (touchD5 j)) = .bool b) ∧ o.wp Try.prog a W (fun a'' W' => ∃ v, a'' = a.put o.dst v ∧ sizeSpotS Wd b off n c A' n' c' T m cT i s X Y p N0 9 v W' ∧ Below W.heap.size W W') Q := by
  have hop := op_at ho (·.op) (x := .alloc 74) (by kernel_rfl)
  have hgd := op_at ho (·.guard) (x := none) (by kernel_rfl)
  refine ⟨fun j b h => (by rw [hgd] at h; cases h), ?_⟩
  exact specs_value (R := sizeSpotS Wd b off n c A' n' c' T m cT i s X Y p N0 9) (v := .pointer (some ⟨W.heap.size, 0, none⟩)) (W' := W.alloc (.cells #[.int .i64 0, .int .i64 0] 74)) (by simp [execOp, hop, go_sem]) ⟨_, rfl, Nat.le_trans hN hB.size, row_last W _ _ rfl⟩ (ext_alloc W _)
theorem touch5_op10 (ho : touchReg5[10]? = some o) (_hB : Ext V W) (haft : ∀ j, (o.after.any fun e => decide (e.on = j) && Region.binds .any e) = true → sizeSpotS Wd b off n c A' n' c' T m cT i s X Y p N0 j (a.eval (.tmp (touchD5 j))) W) :
    (∀ j b, o.guard = some (j, b) → a.eval (.tmp (touchD5 j)) = .bool b) ∧ o.wp Try.prog a W (fun a'' W' => ∃ v, a'' = a.put o.dst v ∧ sizeSpotS Wd b off n c A' n' c' T m cT i s X Y p N0 10 v W' ∧ Below W.heap.size W W') Q := by
  have hop := op_at ho (·.op) (x := .assign (.tmp 27)) (by kernel_rfl)
  have hgd := op_at ho (·.guard) (x := none) (by kernel_rfl)
  refine ⟨fun j b h => (by rw [hgd] at h; cases h), ?_⟩
  have e3 : a.eval (.tmp 27) = .int .i64 s := haft 3 (op_at ho (fun o => o.after.any fun e => decide (e.on = 3) && Region.binds .any e) (x := true) (by kernel_rfl))
  exact specs_value (R := sizeSpotS Wd b off n c A' n' c' T m cT i s X Y p N0 10) (v := .int .i64 s) (by simp [execOp, hop, go_sem, ev e3]) rfl (Ext.refl W)
theorem touch12_op0 (o4 : a.eval (.tmp 4) = .pointer (some ⟨p, 0, none⟩)) (hx : BathAt V p Wd (some ⟨b, off, none⟩) n c A' n' c' ss ds) (ho : touchReg12[0]? = some o) (hB : Ext V W) (_haft : ∀ j, (o.after.any fun e => decide (e.on = j) && Region.binds .any e) = true → sizeSpotS Wd b off n c A' n' c' T m cT i s X Y p N0 j (a.eval (.tmp (touchD12 j))) W) :
    (∀ j b, o.guard = some (j, b) → a.eval (.tmp (touchD12 j)) = .bool b) ∧ o.wp Try.prog a W (fun a'' W' => ∃ v, a'' = a.put o.dst v ∧ sizeSpotS Wd b off n c A' n' c' T m cT i s X Y p N0 0 v W' ∧ Below W.heap.size W W') Q := by
  have hop := op_at ho (·.op) (x := .load 25 (.tmp 4)) (by kernel_rfl)
  have hgd := op_at ho (·.guard) (x := none) (by kernel_rfl)
  refine ⟨fun j b h => (by rw [hgd] at h; cases h), ?_⟩
  obtain ⟨q0, q1, q2⟩ := (hx.ext hB).cells
  exact specs_value (R := sizeSpotS Wd b off n c A' n' c' T m cT i s X Y p N0 0) (v := .agg #[.int .i64 Wd, .slice (some ⟨b, off, none⟩) n c, .slice A' n' c']) (by simp [execOp, hop, go_sem, ev o4, q0, q1, q2]) rfl (Ext.refl W)
theorem touch12_op1 (o1 : a.eval (.tmp 1) = .slice T m cT) (ho : touchReg12[1]? = some o) (_hB : Ext V W) (_haft : ∀ j, (o.after.any fun e => decide (e.on = j) && Region.binds .any e) = true → sizeSpotS Wd b off n c A' n' c' T m cT i s X Y p N0 j (a.eval (.tmp (touchD12 j))) W) :
    (∀ j b, o.guard = some (j, b) → a.eval (.tmp (touchD12 j)) = .bool b) ∧ o.wp Try.prog a W (fun a'' W' => ∃ v, a'' = a.put o.dst v ∧ sizeSpotS Wd b off n c A' n' c' T m cT i s X Y p N0 1 v W' ∧ Below W.heap.size W W') Q := by
  have hop := op_at ho (·.op) (x := .move (.tmp 1)) (by kernel_rfl)
  have hgd := op_at ho (·.guard) (x := none) (by kernel_rfl)
  refine ⟨fun j b h => (by rw [hgd] at h; cases h), ?_⟩
  exact specs_value (R := sizeSpotS Wd b off n c A' n' c' T m cT i s X Y p N0 1) (v := .slice T m cT) (by simp [execOp, hop, go_sem, ev o1]) rfl (Ext.refl W)
theorem touch12_op2 (ov : a.eval (.tmp 3) = .int .i64 (i : Int)) (ho : touchReg12[2]? = some o) (_hB : Ext V W) (_haft : ∀ j, (o.after.any fun e => decide (e.on = j) && Region.binds .any e) = true → sizeSpotS Wd b off n c A' n' c' T m cT i s X Y p N0 j (a.eval (.tmp (touchD12 j))) W) :
    (∀ j b, o.guard = some (j, b) → a.eval (.tmp (touchD12 j)) = .bool b) ∧ o.wp Try.prog a W (fun a'' W' => ∃ v, a'' = a.put o.dst v ∧ sizeSpotS Wd b off n c A' n' c' T m cT i s X Y p N0 2 v W' ∧ Below W.heap.size W W') Q := by
  have hop := op_at ho (·.op) (x := .move (.tmp 3)) (by kernel_rfl)
  have hgd := op_at ho (·.guard) (x := none) (by kernel_rfl)
  refine ⟨fun j b h => (by rw [hgd] at h; cases h), ?_⟩
  exact specs_value (R := sizeSpotS Wd b off n c A' n' c' T m cT i s X Y p N0 2) (v := .int .i64 (i : Int)) (by simp [execOp, hop, go_sem, ev ov]) rfl (Ext.refl W)
theorem touch12_op3 (hx : BathAt V p Wd (some ⟨b, off, none⟩) n c A' n' c' ss ds) (h100 : n' ≤ 100) (hm : m = ts.length) (hmn : n' ≤ m) (hmm : m ≤ 9223372036854775807) (ht : Held V V.heap.size 1 encI T ts) (hbd : ∀ k, 0 ≤ ts.getD k 0 ∧ ts.getD k 0 ≤ 10000) (hsum : sumAt ds ts i n' = s) (ho : touchReg12[3]? = some o) (hB : Ext V W) (haft : ∀ j, (o.after.any fun e => decide (e.on = j) && Region.binds .any e) = true → sizeSpotS Wd b off n c A' n' c' T m cT i s X Y p N0 j (a.eval (.tmp (touchD12 j))) W) :
    (∀ j b, o.guard = some (j, b) → a.eval (.tmp (touchD12 j)) = .bool b) ∧ o.wp Try.prog a W (fun a'' W' => ∃ v, a'' = a.put o.dst v ∧ sizeSpotS Wd b off n c A' n' c' T m cT i s X Y p N0 3 v W' ∧ Below W.heap.size W W') Q := by
  have hop := op_at ho (·.op) (x := .call { callee := .value (.func 45), args := #[.tmp 59, .tmp 60, .tmp 61], argTypes := #[25, 55, 3] }) (by kernel_rfl)
  have hgd := op_at ho (·.guard) (x := none) (by kernel_rfl)
  refine ⟨fun j b h => (by rw [hgd] at h; cases h), ?_⟩
  have e0 : a.eval (.tmp 59) = .agg #[.int .i64 Wd, .slice (some ⟨b, off, none⟩) n c, .slice A' n' c'] := haft 0 (op_at ho (fun o => o.after.any fun e => decide (e.on = 0) && Region.binds .any e) (x := true) (by kernel_rfl))
  have e1 : a.eval (.tmp 60) = .slice T m cT := haft 1 (op_at ho (fun o => o.after.any fun e => decide (e.on = 1) && Region.binds .any e) (x := true) (by kernel_rfl))
  have e2 : a.eval (.tmp 61) = .int .i64 (i : Int) := haft 2 (op_at ho (fun o => o.after.any fun e => decide (e.on = 2) && Region.binds .any e) (x := true) (by kernel_rfl))
  have hX := hx.ext hB
  have hc := sizeOf_ref (Wd := Wd) T m cT ts (i : Int) hX.bath h100 hm hmn hmm (ht.ext hB) hbd
  rw [hsum] at hc
  exact specs_call (R := sizeSpotS Wd b off n c A' n' c' T m cT i s X Y p N0 3) (f := 45) (args := #[.agg #[.int .i64 Wd, .slice (some ⟨b, off, none⟩) n c, .slice A' n' c'], .slice T m cT, .int .i64 (i : Int)]) (by simp [execOp, hop, go_sem, ev e0, ev e1, ev e2]) (hc.mono fun e w' h => ⟨_, h.1, rfl, h.2⟩)
theorem touch12_op4 (o4 : a.eval (.tmp 4) = .pointer (some ⟨p, 0, none⟩)) (ho : touchReg12[4]? = some o) (_hB : Ext V W) (_haft : ∀ j, (o.after.any fun e => decide (e.on = j) && Region.binds .any e) = true → sizeSpotS Wd b off n c A' n' c' T m cT i s X Y p N0 j (a.eval (.tmp (touchD12 j))) W) :
    (∀ j b, o.guard = some (j, b) → a.eval (.tmp (touchD12 j)) = .bool b) ∧ o.wp Try.prog a W (fun a'' W' => ∃ v, a'' = a.put o.dst v ∧ sizeSpotS Wd b off n c A' n' c' T m cT i s X Y p N0 4 v W' ∧ Below W.heap.size W W') Q := by
  have hop := op_at ho (·.op) (x := .fieldAddr 25 (.tmp 4) 1) (by kernel_rfl)
  have hgd := op_at ho (·.guard) (x := none) (by kernel_rfl)
  refine ⟨fun j b h => (by rw [hgd] at h; cases h), ?_⟩
  exact specs_value (R := sizeSpotS Wd b off n c A' n' c' T m cT i s X Y p N0 4) (v := .pointer (some ⟨p, 1, none⟩)) (by simp [execOp, hop, go_sem, ev o4]) rfl (Ext.refl W)
theorem touch12_op5 (_o4 : a.eval (.tmp 4) = .pointer (some ⟨p, 0, none⟩)) (hx : BathAt V p Wd (some ⟨b, off, none⟩) n c A' n' c' ss ds) (ho : touchReg12[5]? = some o) (hB : Ext V W) (haft : ∀ j, (o.after.any fun e => decide (e.on = j) && Region.binds .any e) = true → sizeSpotS Wd b off n c A' n' c' T m cT i s X Y p N0 j (a.eval (.tmp (touchD12 j))) W) :
    (∀ j b, o.guard = some (j, b) → a.eval (.tmp (touchD12 j)) = .bool b) ∧ o.wp Try.prog a W (fun a'' W' => ∃ v, a'' = a.put o.dst v ∧ sizeSpotS Wd b off n c A' n' c' T m cT i s X Y p N0 5 v W' ∧ Below W.heap.size W W') Q := by
  have hop := op_at ho (·.op) (x := .load 22 (.tmp 63)) (by kernel_rfl)
  have hgd := op_at ho (·.guard) (x := none) (by kernel_rfl)
  refine ⟨fun j b h => (by rw [hgd] at h; cases h), ?_⟩
  obtain ⟨q0, q1, q2⟩ := (hx.ext hB).cells
  have e4 : a.eval (.tmp 63) = .pointer (some ⟨p, 1, none⟩) := haft 4 (op_at ho (fun o => o.after.any fun e => decide (e.on = 4) && Region.binds .any e) (x := true) (by kernel_rfl))
  exact specs_value (R := sizeSpotS Wd b off n c A' n' c' T m cT i s X Y p N0 5) (v := .slice (some ⟨b, off, none⟩) n c) (by simp [execOp, hop, go_sem, ev e4, q1]) rfl (Ext.refl W)
theorem touch12_op6 (ov : a.eval (.tmp 3) = .int .i64 (i : Int)) (ho : touchReg12[6]? = some o) (_hB : Ext V W) (_haft : ∀ j, (o.after.any fun e => decide (e.on = j) && Region.binds .any e) = true → sizeSpotS Wd b off n c A' n' c' T m cT i s X Y p N0 j (a.eval (.tmp (touchD12 j))) W) :
    (∀ j b, o.guard = some (j, b) → a.eval (.tmp (touchD12 j)) = .bool b) ∧ o.wp Try.prog a W (fun a'' W' => ∃ v, a'' = a.put o.dst v ∧ sizeSpotS Wd b off n c A' n' c' T m cT i s X Y p N0 6 v W' ∧ Below W.heap.size W W') Q := by
  have hop := op_at ho (·.op) (x := .move (.tmp 3)) (by kernel_rfl)
  have hgd := op_at ho (·.guard) (x := none) (by kernel_rfl)
  refine ⟨fun j b h => (by rw [hgd] at h; cases h), ?_⟩
  exact specs_value (R := sizeSpotS Wd b off n c A' n' c' T m cT i s X Y p N0 6) (v := .int .i64 (i : Int)) (by simp [execOp, hop, go_sem, ev ov]) rfl (Ext.refl W)
theorem touch12_op7 (hin : (i : Int) < (n : Int)) (ho : touchReg12[7]? = some o) (_hB : Ext V W) (haft : ∀ j, (o.after.any fun e => decide (e.on = j) && Region.binds .any e) = true → sizeSpotS Wd b off n c A' n' c' T m cT i s X Y p N0 j (a.eval (.tmp (touchD12 j))) W) :
    (∀ j b, o.guard = some (j, b) → a.eval (.tmp (touchD12 j)) = .bool b) ∧ o.wp Try.prog a W (fun a'' W' => ∃ v, a'' = a.put o.dst v ∧ sizeSpotS Wd b off n c A' n' c' T m cT i s X Y p N0 7 v W' ∧ Below W.heap.size W W') Q := by
  have hop := op_at ho (·.op) (x := .indexAddr 22 (.tmp 64) (.tmp 65)) (by kernel_rfl)
  have hgd := op_at ho (·.guard) (x := none) (by kernel_rfl)
  refine ⟨fun j b h => (by rw [hgd] at h; cases h), ?_⟩
  have e5 : a.eval (.tmp 64) = .slice (some ⟨b, off, none⟩) n c := haft 5 (op_at ho (fun o => o.after.any fun e => decide (e.on = 5) && Region.binds .any e) (x := true) (by kernel_rfl))
  have e6 : a.eval (.tmp 65) = .int .i64 (i : Int) := haft 6 (op_at ho (fun o => o.after.any fun e => decide (e.on = 6) && Region.binds .any e) (x := true) (by kernel_rfl))
  exact specs_value (R := sizeSpotS Wd b off n c A' n' c' T m cT i s X Y p N0 7) (v := .pointer (some ⟨b, off + i * 2, none⟩)) (by simp [execOp, hop, go_sem, ev e5, ev e6, hin]) rfl (Ext.refl W)
theorem touch12_op8 (hx : BathAt V p Wd (some ⟨b, off, none⟩) n c A' n' c' ss ds) (hin : i < n) (hXY : ss.getD i (0, 0) = (X, Y)) (ho : touchReg12[8]? = some o) (hB : Ext V W) (haft : ∀ j, (o.after.any fun e => decide (e.on = j) && Region.binds .any e) = true → sizeSpotS Wd b off n c A' n' c' T m cT i s X Y p N0 j (a.eval (.tmp (touchD12 j))) W) :
    (∀ j b, o.guard = some (j, b) → a.eval (.tmp (touchD12 j)) = .bool b) ∧ o.wp Try.prog a W (fun a'' W' => ∃ v, a'' = a.put o.dst v ∧ sizeSpotS Wd b off n c A' n' c' T m cT i s X Y p N0 8 v W' ∧ Below W.heap.size W W') Q := by
  have hop := op_at ho (·.op) (x := .load 74 (.tmp 66)) (by kernel_rfl)
  have hgd := op_at ho (·.guard) (x := none) (by kernel_rfl)
  refine ⟨fun j b h => (by rw [hgd] at h; cases h), ?_⟩
  have e7 : a.eval (.tmp 66) = .pointer (some ⟨b, off + i * 2, none⟩) := haft 7 (op_at ho (fun o => o.after.any fun e => decide (e.on = 7) && Region.binds .any e) (x := true) (by kernel_rfl))
  obtain ⟨b1, off1, hbb, d0, d1⟩ := (hx.ext hB).spot hin
  cases hbb
  rw [hXY] at d0 d1
  exact specs_value (R := sizeSpotS Wd b off n c A' n' c' T m cT i s X Y p N0 8) (v := .agg #[.int .i64 X, .int .i64 Y]) (by simp [execOp, hop, go_sem, ev e7, d0, d1]) rfl (Ext.refl W)
theorem touch12_op9 (hN : N0 ≤ V.heap.size) (ho : touchReg12[9]? = some o) (hB : Ext V W) (_haft : ∀ j, (o.after.any fun e => decide (e.on = j) && Region.binds .any e) = true → sizeSpotS Wd b off n c A' n' c' T m cT i s X Y p N0 j (a.eval (.tmp (touchD12 j))) W) :
    (∀ j b, o.guard = some (j, b) → a.eval (.tmp (touchD12 j)) = .bool b) ∧ o.wp Try.prog a W (fun a'' W' => ∃ v, a'' = a.put o.dst v ∧ sizeSpotS Wd b off n c A' n' c' T m cT i s X Y p N0 9 v W' ∧ Below W.heap.size W W') Q := by
  have hop := op_at ho (·.op) (x := .alloc 74) (by kernel_rfl)
  have hgd := op_at ho (·.guard) (x := none) (by kernel_rfl)
  refine ⟨fun j b h => (by rw [hgd] at h; cases h), ?_⟩
  exact specs_value (R := sizeSpotS Wd b off n c A' n' c' T m cT i s X Y p N0 9) (v := .pointer (some ⟨W.heap.size, 0, none⟩)) (W' := W.alloc (.cells #[.int .i64 0, .int .i64 0] 74)) (by simp [execOp, hop, go_sem]) ⟨_, rfl, Nat.le_trans hN hB.size, row_last W _ _ rfl⟩ (ext_alloc W _)
theorem touch12_op10 (ho : touchReg12[10]? = some o) (_hB : Ext V W) (haft : ∀ j, (o.after.any fun e => decide (e.on = j) && Region.binds .any e) = true → sizeSpotS Wd b off n c A' n' c' T m cT i s X Y p N0 j (a.eval (.tmp (touchD12 j))) W) :
    (∀ j b, o.guard = some (j, b) → a.eval (.tmp (touchD12 j)) = .bool b) ∧ o.wp Try.prog a W (fun a'' W' => ∃ v, a'' = a.put o.dst v ∧ sizeSpotS Wd b off n c A' n' c' T m cT i s X Y p N0 10 v W' ∧ Below W.heap.size W W') Q := by
  have hop := op_at ho (·.op) (x := .assign (.tmp 62)) (by kernel_rfl)
  have hgd := op_at ho (·.guard) (x := none) (by kernel_rfl)
  refine ⟨fun j b h => (by rw [hgd] at h; cases h), ?_⟩
  have e3 : a.eval (.tmp 62) = .int .i64 s := haft 3 (op_at ho (fun o => o.after.any fun e => decide (e.on = 3) && Region.binds .any e) (x := true) (by kernel_rfl))
  exact specs_value (R := sizeSpotS Wd b off n c A' n' c' T m cT i s X Y p N0 10) (v := .int .i64 s) (by simp [execOp, hop, go_sem, ev e3]) rfl (Ext.refl W)
end
end Go.Proofs.Ytckndnaohggmhaa

/- The reference's Touches: whether two places touch, in a truth. -/
namespace Go.Proofs.Ytckndnaohggmhaa
open Go.RowKit Go.Shelf

section
variable {w : World} {Wd : Int} {A : Option Addr} {n c : Nat} {A' : Option Addr} {n' c' : Nat} {ss : List (Int × Int)} {ds : List (Int × Int × Int)}

theorem spot_bd (h0 : Few Wd ss ds) {i : Nat} (hi : i < ss.length) {X Y : Int} (h : ss.getD i (0, 0) = (X, Y)) : 1 ≤ X ∧ X ≤ Wd - 1 ∧ 0 ≤ Y ∧ Y ≤ 1000 ∧ Wd ≤ 1000 := by
  have e : ss[i] = (X, Y) := by rw [← h]; simp [List.getElem?_eq_getElem hi]
  have h1 := List.all_eq_true.1 h0.spots ss[i] (List.getElem_mem hi)
  rw [e] at h1
  simp only [spotOk, inside, Bool.and_eq_true, decide_eq_true_eq, List.all_cons, List.all_nil] at h1
  have := h0.wide
  omega

set_option maxHeartbeats 400000 in
theorem touches_none (T : Option Addr) (m cT : Nat) (one two : Int) (h1 : one < 0) (h2 : two < 0) :
    Calls Try.prog 46 #[.agg #[.int .i64 Wd, .slice A n c, .slice A' n' c'], .slice T m cT, .int .i64 one, .int .i64 two] w fun e w' => e = .returned (.bool false) ∧ Ext w w' := by
  go_enter Try.func46, Try.ntmps46
  go_wp2
  go_ret
  exact ⟨rfl, ext_alloc w _⟩
theorem sq_comm (a b : Int) : (a - b) * (a - b) = (b - a) * (b - a) := by rw [← Int.neg_mul_neg]; simp [Int.neg_sub]
theorem reachB_comm (a c d : Int) : reachB a c d = reachB c a d := by
  unfold reachB
  by_cases h1 : a = 0 <;> by_cases h2 : c = 0 <;> simp [h1, h2]
  rw [show d - c - a = d - a - c from by omega, show 4 * c * a = 4 * a * c from by rw [Int.mul_assoc, Int.mul_comm c a, Int.mul_assoc]]

set_option maxRecDepth 100000 in
set_option maxHeartbeats 4000000 in
theorem touches_ns_l (T : Option Addr) (m cT : Nat) (ts : List Int) (h0 : Few Wd ss ds) (hb : IsBath w w.heap.size A n c A' n' c' ss ds) (hm : m = ts.length) (hmn : n' ≤ m) (hmm : m ≤ 9223372036854775807) (ht : Held w w.heap.size 1 encI T ts) (hbd : ∀ k, 0 ≤ ts.getD k 0 ∧ ts.getD k 0 ≤ 10000) (i : Nat) (hi : i < n) :
    Calls Try.prog 46 #[.agg #[.int .i64 Wd, .slice A n c, .slice A' n' c'], .slice T m cT, .int .i64 (i : Int), .int .i64 (-1)] w fun e w' => e = .returned (.bool (meetB Wd ss (fun j => sumAt ds ts j n') (-1) i)) ∧ Ext w w' := by
  have h100 : n' ≤ 100 := by have := h0.many.2; have := hb.nds; omega
  have hiN : i < n := hi
  have hin : (i : Int) < (n : Int) := by omega
  have hi0 : decide ((i : Int) < 0) = false := by simp
  have h00 := BathAt.new (Wd := Wd) hb
  obtain ⟨b, off, rfl, _, _⟩ := h00.spot hi
  obtain ⟨X, Y, hiXY⟩ : ∃ X Y, ss.getD i (0, 0) = (X, Y) := ⟨_, _, rfl⟩
  obtain ⟨bx1, bx2, by1, by2, bw⟩ := spot_bd h0 (by rw [← hb.nss]; exact hi) hiXY
  obtain ⟨s, hs⟩ : ∃ s, sumAt ds ts i n' = s := ⟨_, rfl⟩
  have hsb := sumAt_bd ds ts i hbd n'
  rw [hs] at hsb
  obtain ⟨bs1, bs2⟩ := hsb
  have bs3 : s ≤ 1000000 := by omega
  have hres : meetB Wd ss (fun j => sumAt ds ts j n') (-1) i = decide (X * X ≤ s) := by rw [meetB_left, hiXY]; simp only [hs]
  rw [hres]
  clear hres
  have bm := mul_bd (a := X) (b := X) (M := 1000) (N := 1000) (by omega) (by omega) (by omega) (by omega)
  have bm1 : 1 ≤ X * X := by have := Int.mul_le_mul (a := 1) (b := 1) (c := X) (d := X) (by omega) (by omega) (by omega) (by omega); omega
  obtain ⟨w0, hw0⟩ : ∃ w0, w.alloc (.cells #[.int .i64 Wd, .slice (some ⟨b, off, none⟩) n c, .slice A' n' c'] 25) = w0 := ⟨_, rfl⟩
  have e0 : Ext w w0 := by rw [← hw0]; exact ext_alloc w _
  rw [hw0] at h00
  have HW := Lib.hid hw0
  have HX := Lib.hid h00
  have HT := Lib.hid ht
  have HV5 := Lib.hid e0
  clear hw0 h00 ht e0 hb h0
  go_enter Try.func46, Try.ntmps46
  go_upto_region 5 with fail
  rw [HW.out]
  clear HW
  generalize w.heap.size = p0 at HX ⊢
  refine wp_region_specs_free (ops := touchReg5) 11 (sizeSpotS Wd b off n c A' n' c' T m cT i s X Y p0 w0.heap.size) (Ext w0) (by kernel_rfl) (by kernel_rfl) (by kernel_rfl) ⟨rfl, rfl, rfl, Nat.le_refl _, fun _ _ => rfl⟩ (fun _ _ h e => h.trans e) (sizeSpotS_ext Wd b off n c A' n' c' T m cT i s X Y p0 w0.heap.size) touchD5 (by kernel_rfl) ?_ ?_
  · intro k o hk ho a W hB hsz hold haft
    match k, hk with
    | 0, _ => exact touch5_op0 (hold 4 (by kernel_rfl)) HX.out ho hB haft
    | 1, _ => exact touch5_op1 (hold 1 (by kernel_rfl)) ho hB haft
    | 2, _ => exact touch5_op2 (hold 2 (by kernel_rfl)) ho hB haft
    | 3, _ => exact touch5_op3 HX.out h100 hm hmn hmm (HT.out.ext HV5.out) hbd hs ho hB haft
    | 4, _ => exact touch5_op4 (hold 4 (by kernel_rfl)) ho hB haft
    | 5, _ => exact touch5_op5 (hold 4 (by kernel_rfl)) HX.out ho hB haft
    | 6, _ => exact touch5_op6 (hold 2 (by kernel_rfl)) ho hB haft
    | 7, _ => exact touch5_op7 hin ho hB haft
    | 8, _ => exact touch5_op8 HX.out hiN hiXY ho hB haft
    | 9, _ => exact touch5_op9 (Nat.le_refl _) ho hB haft
    | 10, _ => exact touch5_op10  ho hB haft
    | k + 11, h => exact absurd h (by omega)
  · intro a W hB hsz hdf hold hS
    obtain ⟨g, e9, hN, hr⟩ : ∃ g, a.eval (.tmp 10) = .pointer (some ⟨g, 0, none⟩) ∧ w0.heap.size ≤ g ∧ W.heap[g]? = some (.cells #[.int .i64 0, .int .i64 0] 74 (0, 0)) := hS 9 (by omega)
    have hall : ∀ x, x ∈ ([(24, .agg #[.int .i64 Wd, .slice (some ⟨b, off, none⟩) n c, .slice A' n' c']), (25, .slice T m cT), (26, .int .i64 (i : Int)), (27, .int .i64 s), (28, .pointer (some ⟨p0, 1, none⟩)), (29, .slice (some ⟨b, off, none⟩) n c), (30, .int .i64 (i : Int)), (31, .pointer (some ⟨b, off + i * 2, none⟩)), (32, .agg #[.int .i64 X, .int .i64 Y]), (10, .pointer (some ⟨g, 0, none⟩)), (9, .int .i64 s)] : List (Tmp × Value)) → x.1 < 116 ∧ a.eval (.tmp x.1) = x.2 := by
      intro x hx
      simp only [List.mem_cons, List.not_mem_nil, or_false] at hx
      rcases hx with rfl | rfl | rfl | rfl | rfl | rfl | rfl | rfl | rfl | rfl | rfl
      · exact ⟨(show (24 : Nat) < 116 by omega), hS 0 (by omega)⟩
      · exact ⟨(show (25 : Nat) < 116 by omega), hS 1 (by omega)⟩
      · exact ⟨(show (26 : Nat) < 116 by omega), hS 2 (by omega)⟩
      · exact ⟨(show (27 : Nat) < 116 by omega), hS 3 (by omega)⟩
      · exact ⟨(show (28 : Nat) < 116 by omega), hS 4 (by omega)⟩
      · exact ⟨(show (29 : Nat) < 116 by omega), hS 5 (by omega)⟩
      · exact ⟨(show (30 : Nat) < 116 by omega), hS 6 (by omega)⟩
      · exact ⟨(show (31 : Nat) < 116 by omega), hS 7 (by omega)⟩
      · exact ⟨(show (32 : Nat) < 116 by omega), hS 8 (by omega)⟩
      · exact ⟨(show (10 : Nat) < 116 by omega), e9⟩
      · exact ⟨(show (9 : Nat) < 116 by omega), hS 10 (by omega)⟩
    have ha := act_puts hsz hdf hall (fun t ht => hold t (all_ne_of (l := [(24, .agg #[.int .i64 Wd, .slice (some ⟨b, off, none⟩) n c, .slice A' n' c']), (25, .slice T m cT), (26, .int .i64 (i : Int)), (27, .int .i64 s), (28, .pointer (some ⟨p0, 1, none⟩)), (29, .slice (some ⟨b, off, none⟩) n c), (30, .int .i64 (i : Int)), (31, .pointer (some ⟨b, off + i * 2, none⟩)), (32, .agg #[.int .i64 X, .int .i64 Y]), (10, .pointer (some ⟨g, 0, none⟩)), (9, .int .i64 s)]) (by kernel_rfl) ht))
    have e8 : a.eval (.tmp 32) = .agg #[.int .i64 X, .int .i64 Y] := hS 8 (by omega)
    clear hall hS hold hsz hdf
    obtain ⟨o11, hdr, h11⟩ := drop_one (ops := touchReg5) (k := 11) (by kernel_rfl)
    rw [hdr]
    refine wpList_store_row (op_at h11 (·.guard) (x := none) (by kernel_rfl)) 74 (.tmp 10) (.tmp 32) (op_at h11 (·.op) (by kernel_rfl)) g #[.int .i64 X, .int .i64 Y] e9 e8 74 _ hr (by kernel_rfl) rfl (by simp [Value.oneCell']) ?_
    rw [show o11.dst = none from op_at h11 (·.dst) (by kernel_rfl)]
    clear hdr h11
    obtain ⟨W5, hW, hg5, hE5⟩ : ∃ W', W.setRow g #[.int .i64 X, .int .i64 Y] = W' ∧ W'.heap[g]? = some (.cells #[.int .i64 X, .int .i64 Y] 74 (0, 0)) ∧ Ext w0 W' := ⟨_, rfl, row_setRow _ _ _ _ _ _ hr, below_setRow hB hN _⟩
    rw [hW]
    clear hW hr hN hB e8 e9
    show Exit.then _ _ _ a _
    rw [ha]
    clear ha
    simp only [Exit.then, puts, List.foldl_cons, List.foldl_nil, Act.put, List.setIfInBounds_toArray, List.set_cons_succ, List.set_cons_zero]
    go_at_K
    obtain ⟨q0, q1, q2⟩ := (HX.out.ext hE5).cells
    have g0 := cell_of_row _ _ 0 _ _ _ hg5
    have g1 := cell_of_row _ _ 1 _ _ _ hg5
    simp at g0 g1
    have HE := Lib.hid (HV5.out.trans hE5)
    clear HX HV5 HT hE5 hg5 hbd hs hiXY
    by_cases hz : s = 0
    · subst hz
      go_wp2
      go_ret
      exact ⟨ret_bool (by simp; omega), HE.out⟩
    · have hz2 : (s == 0) = false := by simp [hz]
      go_wp2
      go_ret
      exact ⟨ret_bool (by simp), HE.out⟩
set_option maxRecDepth 100000 in
set_option maxHeartbeats 4000000 in
theorem touches_ns_r (T : Option Addr) (m cT : Nat) (ts : List Int) (h0 : Few Wd ss ds) (hb : IsBath w w.heap.size A n c A' n' c' ss ds) (hm : m = ts.length) (hmn : n' ≤ m) (hmm : m ≤ 9223372036854775807) (ht : Held w w.heap.size 1 encI T ts) (hbd : ∀ k, 0 ≤ ts.getD k 0 ∧ ts.getD k 0 ≤ 10000) (i : Nat) (hi : i < n) :
    Calls Try.prog 46 #[.agg #[.int .i64 Wd, .slice A n c, .slice A' n' c'], .slice T m cT, .int .i64 (i : Int), .int .i64 (-2)] w fun e w' => e = .returned (.bool (meetB Wd ss (fun j => sumAt ds ts j n') (-2) i)) ∧ Ext w w' := by
  have h100 : n' ≤ 100 := by have := h0.many.2; have := hb.nds; omega
  have hiN : i < n := hi
  have hin : (i : Int) < (n : Int) := by omega
  have hi0 : decide ((i : Int) < 0) = false := by simp
  have h00 := BathAt.new (Wd := Wd) hb
  obtain ⟨b, off, rfl, _, _⟩ := h00.spot hi
  obtain ⟨X, Y, hiXY⟩ : ∃ X Y, ss.getD i (0, 0) = (X, Y) := ⟨_, _, rfl⟩
  obtain ⟨bx1, bx2, by1, by2, bw⟩ := spot_bd h0 (by rw [← hb.nss]; exact hi) hiXY
  obtain ⟨s, hs⟩ : ∃ s, sumAt ds ts i n' = s := ⟨_, rfl⟩
  have hsb := sumAt_bd ds ts i hbd n'
  rw [hs] at hsb
  obtain ⟨bs1, bs2⟩ := hsb
  have bs3 : s ≤ 1000000 := by omega
  have hres : meetB Wd ss (fun j => sumAt ds ts j n') (-2) i = decide ((Wd - X) * (Wd - X) ≤ s) := by rw [meetB_right, hiXY]; simp only [hs]
  rw [hres]
  clear hres
  have bm := mul_bd (a := (Wd - X)) (b := (Wd - X)) (M := 1000) (N := 1000) (by omega) (by omega) (by omega) (by omega)
  have bm1 : 1 ≤ (Wd - X) * (Wd - X) := by have := Int.mul_le_mul (a := 1) (b := 1) (c := (Wd - X)) (d := (Wd - X)) (by omega) (by omega) (by omega) (by omega); omega
  obtain ⟨w0, hw0⟩ : ∃ w0, w.alloc (.cells #[.int .i64 Wd, .slice (some ⟨b, off, none⟩) n c, .slice A' n' c'] 25) = w0 := ⟨_, rfl⟩
  have e0 : Ext w w0 := by rw [← hw0]; exact ext_alloc w _
  rw [hw0] at h00
  have HW := Lib.hid hw0
  have HX := Lib.hid h00
  have HT := Lib.hid ht
  have HV5 := Lib.hid e0
  clear hw0 h00 ht e0 hb h0
  go_enter Try.func46, Try.ntmps46
  go_upto_region 5 with fail
  rw [HW.out]
  clear HW
  generalize w.heap.size = p0 at HX ⊢
  refine wp_region_specs_free (ops := touchReg5) 11 (sizeSpotS Wd b off n c A' n' c' T m cT i s X Y p0 w0.heap.size) (Ext w0) (by kernel_rfl) (by kernel_rfl) (by kernel_rfl) ⟨rfl, rfl, rfl, Nat.le_refl _, fun _ _ => rfl⟩ (fun _ _ h e => h.trans e) (sizeSpotS_ext Wd b off n c A' n' c' T m cT i s X Y p0 w0.heap.size) touchD5 (by kernel_rfl) ?_ ?_
  · intro k o hk ho a W hB hsz hold haft
    match k, hk with
    | 0, _ => exact touch5_op0 (hold 4 (by kernel_rfl)) HX.out ho hB haft
    | 1, _ => exact touch5_op1 (hold 1 (by kernel_rfl)) ho hB haft
    | 2, _ => exact touch5_op2 (hold 2 (by kernel_rfl)) ho hB haft
    | 3, _ => exact touch5_op3 HX.out h100 hm hmn hmm (HT.out.ext HV5.out) hbd hs ho hB haft
    | 4, _ => exact touch5_op4 (hold 4 (by kernel_rfl)) ho hB haft
    | 5, _ => exact touch5_op5 (hold 4 (by kernel_rfl)) HX.out ho hB haft
    | 6, _ => exact touch5_op6 (hold 2 (by kernel_rfl)) ho hB haft
    | 7, _ => exact touch5_op7 hin ho hB haft
    | 8, _ => exact touch5_op8 HX.out hiN hiXY ho hB haft
    | 9, _ => exact touch5_op9 (Nat.le_refl _) ho hB haft
    | 10, _ => exact touch5_op10  ho hB haft
    | k + 11, h => exact absurd h (by omega)
  · intro a W hB hsz hdf hold hS
    obtain ⟨g, e9, hN, hr⟩ : ∃ g, a.eval (.tmp 10) = .pointer (some ⟨g, 0, none⟩) ∧ w0.heap.size ≤ g ∧ W.heap[g]? = some (.cells #[.int .i64 0, .int .i64 0] 74 (0, 0)) := hS 9 (by omega)
    have hall : ∀ x, x ∈ ([(24, .agg #[.int .i64 Wd, .slice (some ⟨b, off, none⟩) n c, .slice A' n' c']), (25, .slice T m cT), (26, .int .i64 (i : Int)), (27, .int .i64 s), (28, .pointer (some ⟨p0, 1, none⟩)), (29, .slice (some ⟨b, off, none⟩) n c), (30, .int .i64 (i : Int)), (31, .pointer (some ⟨b, off + i * 2, none⟩)), (32, .agg #[.int .i64 X, .int .i64 Y]), (10, .pointer (some ⟨g, 0, none⟩)), (9, .int .i64 s)] : List (Tmp × Value)) → x.1 < 116 ∧ a.eval (.tmp x.1) = x.2 := by
      intro x hx
      simp only [List.mem_cons, List.not_mem_nil, or_false] at hx
      rcases hx with rfl | rfl | rfl | rfl | rfl | rfl | rfl | rfl | rfl | rfl | rfl
      · exact ⟨(show (24 : Nat) < 116 by omega), hS 0 (by omega)⟩
      · exact ⟨(show (25 : Nat) < 116 by omega), hS 1 (by omega)⟩
      · exact ⟨(show (26 : Nat) < 116 by omega), hS 2 (by omega)⟩
      · exact ⟨(show (27 : Nat) < 116 by omega), hS 3 (by omega)⟩
      · exact ⟨(show (28 : Nat) < 116 by omega), hS 4 (by omega)⟩
      · exact ⟨(show (29 : Nat) < 116 by omega), hS 5 (by omega)⟩
      · exact ⟨(show (30 : Nat) < 116 by omega), hS 6 (by omega)⟩
      · exact ⟨(show (31 : Nat) < 116 by omega), hS 7 (by omega)⟩
      · exact ⟨(show (32 : Nat) < 116 by omega), hS 8 (by omega)⟩
      · exact ⟨(show (10 : Nat) < 116 by omega), e9⟩
      · exact ⟨(show (9 : Nat) < 116 by omega), hS 10 (by omega)⟩
    have ha := act_puts hsz hdf hall (fun t ht => hold t (all_ne_of (l := [(24, .agg #[.int .i64 Wd, .slice (some ⟨b, off, none⟩) n c, .slice A' n' c']), (25, .slice T m cT), (26, .int .i64 (i : Int)), (27, .int .i64 s), (28, .pointer (some ⟨p0, 1, none⟩)), (29, .slice (some ⟨b, off, none⟩) n c), (30, .int .i64 (i : Int)), (31, .pointer (some ⟨b, off + i * 2, none⟩)), (32, .agg #[.int .i64 X, .int .i64 Y]), (10, .pointer (some ⟨g, 0, none⟩)), (9, .int .i64 s)]) (by kernel_rfl) ht))
    have e8 : a.eval (.tmp 32) = .agg #[.int .i64 X, .int .i64 Y] := hS 8 (by omega)
    clear hall hS hold hsz hdf
    obtain ⟨o11, hdr, h11⟩ := drop_one (ops := touchReg5) (k := 11) (by kernel_rfl)
    rw [hdr]
    refine wpList_store_row (op_at h11 (·.guard) (x := none) (by kernel_rfl)) 74 (.tmp 10) (.tmp 32) (op_at h11 (·.op) (by kernel_rfl)) g #[.int .i64 X, .int .i64 Y] e9 e8 74 _ hr (by kernel_rfl) rfl (by simp [Value.oneCell']) ?_
    rw [show o11.dst = none from op_at h11 (·.dst) (by kernel_rfl)]
    clear hdr h11
    obtain ⟨W5, hW, hg5, hE5⟩ : ∃ W', W.setRow g #[.int .i64 X, .int .i64 Y] = W' ∧ W'.heap[g]? = some (.cells #[.int .i64 X, .int .i64 Y] 74 (0, 0)) ∧ Ext w0 W' := ⟨_, rfl, row_setRow _ _ _ _ _ _ hr, below_setRow hB hN _⟩
    rw [hW]
    clear hW hr hN hB e8 e9
    show Exit.then _ _ _ a _
    rw [ha]
    clear ha
    simp only [Exit.then, puts, List.foldl_cons, List.foldl_nil, Act.put, List.setIfInBounds_toArray, List.set_cons_succ, List.set_cons_zero]
    go_at_K
    obtain ⟨q0, q1, q2⟩ := (HX.out.ext hE5).cells
    have g0 := cell_of_row _ _ 0 _ _ _ hg5
    have g1 := cell_of_row _ _ 1 _ _ _ hg5
    simp at g0 g1
    have HE := Lib.hid (HV5.out.trans hE5)
    clear HX HV5 HT hE5 hg5 hbd hs hiXY
    by_cases hz : s = 0
    · subst hz
      go_wp2
      go_ret
      exact ⟨ret_bool (by simp; omega), HE.out⟩
    · have hz2 : (s == 0) = false := by simp [hz]
      go_wp2
      go_ret
      exact ⟨ret_bool (by simp), HE.out⟩
set_option maxRecDepth 100000 in
set_option maxHeartbeats 4000000 in
theorem touches_sw_l (T : Option Addr) (m cT : Nat) (ts : List Int) (h0 : Few Wd ss ds) (hb : IsBath w w.heap.size A n c A' n' c' ss ds) (hm : m = ts.length) (hmn : n' ≤ m) (hmm : m ≤ 9223372036854775807) (ht : Held w w.heap.size 1 encI T ts) (hbd : ∀ k, 0 ≤ ts.getD k 0 ∧ ts.getD k 0 ≤ 10000) (i : Nat) (hi : i < n) :
    Calls Try.prog 46 #[.agg #[.int .i64 Wd, .slice A n c, .slice A' n' c'], .slice T m cT, .int .i64 (-1), .int .i64 (i : Int)] w fun e w' => e = .returned (.bool (meetB Wd ss (fun j => sumAt ds ts j n') (-1) i)) ∧ Ext w w' := by
  have h100 : n' ≤ 100 := by have := h0.many.2; have := hb.nds; omega
  have hiN : i < n := hi
  have hin : (i : Int) < (n : Int) := by omega
  have hi0 : decide ((i : Int) < 0) = false := by simp
  have h00 := BathAt.new (Wd := Wd) hb
  obtain ⟨b, off, rfl, _, _⟩ := h00.spot hi
  obtain ⟨X, Y, hiXY⟩ : ∃ X Y, ss.getD i (0, 0) = (X, Y) := ⟨_, _, rfl⟩
  obtain ⟨bx1, bx2, by1, by2, bw⟩ := spot_bd h0 (by rw [← hb.nss]; exact hi) hiXY
  obtain ⟨s, hs⟩ : ∃ s, sumAt ds ts i n' = s := ⟨_, rfl⟩
  have hsb := sumAt_bd ds ts i hbd n'
  rw [hs] at hsb
  obtain ⟨bs1, bs2⟩ := hsb
  have bs3 : s ≤ 1000000 := by omega
  have hres : meetB Wd ss (fun j => sumAt ds ts j n') (-1) i = decide (X * X ≤ s) := by rw [meetB_left, hiXY]; simp only [hs]
  rw [hres]
  clear hres
  have bm := mul_bd (a := X) (b := X) (M := 1000) (N := 1000) (by omega) (by omega) (by omega) (by omega)
  have bm1 : 1 ≤ X * X := by have := Int.mul_le_mul (a := 1) (b := 1) (c := X) (d := X) (by omega) (by omega) (by omega) (by omega); omega
  obtain ⟨w0, hw0⟩ : ∃ w0, w.alloc (.cells #[.int .i64 Wd, .slice (some ⟨b, off, none⟩) n c, .slice A' n' c'] 25) = w0 := ⟨_, rfl⟩
  have e0 : Ext w w0 := by rw [← hw0]; exact ext_alloc w _
  rw [hw0] at h00
  have HW := Lib.hid hw0
  have HX := Lib.hid h00
  have HT := Lib.hid ht
  have HV5 := Lib.hid e0
  clear hw0 h00 ht e0 hb h0
  go_enter Try.func46, Try.ntmps46
  go_upto_region 5 with fail
  rw [HW.out]
  clear HW
  generalize w.heap.size = p0 at HX ⊢
  refine wp_region_specs_free (ops := touchReg5) 11 (sizeSpotS Wd b off n c A' n' c' T m cT i s X Y p0 w0.heap.size) (Ext w0) (by kernel_rfl) (by kernel_rfl) (by kernel_rfl) ⟨rfl, rfl, rfl, Nat.le_refl _, fun _ _ => rfl⟩ (fun _ _ h e => h.trans e) (sizeSpotS_ext Wd b off n c A' n' c' T m cT i s X Y p0 w0.heap.size) touchD5 (by kernel_rfl) ?_ ?_
  · intro k o hk ho a W hB hsz hold haft
    match k, hk with
    | 0, _ => exact touch5_op0 (hold 4 (by kernel_rfl)) HX.out ho hB haft
    | 1, _ => exact touch5_op1 (hold 1 (by kernel_rfl)) ho hB haft
    | 2, _ => exact touch5_op2 (hold 2 (by kernel_rfl)) ho hB haft
    | 3, _ => exact touch5_op3 HX.out h100 hm hmn hmm (HT.out.ext HV5.out) hbd hs ho hB haft
    | 4, _ => exact touch5_op4 (hold 4 (by kernel_rfl)) ho hB haft
    | 5, _ => exact touch5_op5 (hold 4 (by kernel_rfl)) HX.out ho hB haft
    | 6, _ => exact touch5_op6 (hold 2 (by kernel_rfl)) ho hB haft
    | 7, _ => exact touch5_op7 hin ho hB haft
    | 8, _ => exact touch5_op8 HX.out hiN hiXY ho hB haft
    | 9, _ => exact touch5_op9 (Nat.le_refl _) ho hB haft
    | 10, _ => exact touch5_op10  ho hB haft
    | k + 11, h => exact absurd h (by omega)
  · intro a W hB hsz hdf hold hS
    obtain ⟨g, e9, hN, hr⟩ : ∃ g, a.eval (.tmp 10) = .pointer (some ⟨g, 0, none⟩) ∧ w0.heap.size ≤ g ∧ W.heap[g]? = some (.cells #[.int .i64 0, .int .i64 0] 74 (0, 0)) := hS 9 (by omega)
    have hall : ∀ x, x ∈ ([(24, .agg #[.int .i64 Wd, .slice (some ⟨b, off, none⟩) n c, .slice A' n' c']), (25, .slice T m cT), (26, .int .i64 (i : Int)), (27, .int .i64 s), (28, .pointer (some ⟨p0, 1, none⟩)), (29, .slice (some ⟨b, off, none⟩) n c), (30, .int .i64 (i : Int)), (31, .pointer (some ⟨b, off + i * 2, none⟩)), (32, .agg #[.int .i64 X, .int .i64 Y]), (10, .pointer (some ⟨g, 0, none⟩)), (9, .int .i64 s)] : List (Tmp × Value)) → x.1 < 116 ∧ a.eval (.tmp x.1) = x.2 := by
      intro x hx
      simp only [List.mem_cons, List.not_mem_nil, or_false] at hx
      rcases hx with rfl | rfl | rfl | rfl | rfl | rfl | rfl | rfl | rfl | rfl | rfl
      · exact ⟨(show (24 : Nat) < 116 by omega), hS 0 (by omega)⟩
      · exact ⟨(show (25 : Nat) < 116 by omega), hS 1 (by omega)⟩
      · exact ⟨(show (26 : Nat) < 116 by omega), hS 2 (by omega)⟩
      · exact ⟨(show (27 : Nat) < 116 by omega), hS 3 (by omega)⟩
      · exact ⟨(show (28 : Nat) < 116 by omega), hS 4 (by omega)⟩
      · exact ⟨(show (29 : Nat) < 116 by omega), hS 5 (by omega)⟩
      · exact ⟨(show (30 : Nat) < 116 by omega), hS 6 (by omega)⟩
      · exact ⟨(show (31 : Nat) < 116 by omega), hS 7 (by omega)⟩
      · exact ⟨(show (32 : Nat) < 116 by omega), hS 8 (by omega)⟩
      · exact ⟨(show (10 : Nat) < 116 by omega), e9⟩
      · exact ⟨(show (9 : Nat) < 116 by omega), hS 10 (by omega)⟩
    have ha := act_puts hsz hdf hall (fun t ht => hold t (all_ne_of (l := [(24, .agg #[.int .i64 Wd, .slice (some ⟨b, off, none⟩) n c, .slice A' n' c']), (25, .slice T m cT), (26, .int .i64 (i : Int)), (27, .int .i64 s), (28, .pointer (some ⟨p0, 1, none⟩)), (29, .slice (some ⟨b, off, none⟩) n c), (30, .int .i64 (i : Int)), (31, .pointer (some ⟨b, off + i * 2, none⟩)), (32, .agg #[.int .i64 X, .int .i64 Y]), (10, .pointer (some ⟨g, 0, none⟩)), (9, .int .i64 s)]) (by kernel_rfl) ht))
    have e8 : a.eval (.tmp 32) = .agg #[.int .i64 X, .int .i64 Y] := hS 8 (by omega)
    clear hall hS hold hsz hdf
    obtain ⟨o11, hdr, h11⟩ := drop_one (ops := touchReg5) (k := 11) (by kernel_rfl)
    rw [hdr]
    refine wpList_store_row (op_at h11 (·.guard) (x := none) (by kernel_rfl)) 74 (.tmp 10) (.tmp 32) (op_at h11 (·.op) (by kernel_rfl)) g #[.int .i64 X, .int .i64 Y] e9 e8 74 _ hr (by kernel_rfl) rfl (by simp [Value.oneCell']) ?_
    rw [show o11.dst = none from op_at h11 (·.dst) (by kernel_rfl)]
    clear hdr h11
    obtain ⟨W5, hW, hg5, hE5⟩ : ∃ W', W.setRow g #[.int .i64 X, .int .i64 Y] = W' ∧ W'.heap[g]? = some (.cells #[.int .i64 X, .int .i64 Y] 74 (0, 0)) ∧ Ext w0 W' := ⟨_, rfl, row_setRow _ _ _ _ _ _ hr, below_setRow hB hN _⟩
    rw [hW]
    clear hW hr hN hB e8 e9
    show Exit.then _ _ _ a _
    rw [ha]
    clear ha
    simp only [Exit.then, puts, List.foldl_cons, List.foldl_nil, Act.put, List.setIfInBounds_toArray, List.set_cons_succ, List.set_cons_zero]
    go_at_K
    obtain ⟨q0, q1, q2⟩ := (HX.out.ext hE5).cells
    have g0 := cell_of_row _ _ 0 _ _ _ hg5
    have g1 := cell_of_row _ _ 1 _ _ _ hg5
    simp at g0 g1
    have HE := Lib.hid (HV5.out.trans hE5)
    clear HX HV5 HT hE5 hg5 hbd hs hiXY
    by_cases hz : s = 0
    · subst hz
      go_wp2
      go_ret
      exact ⟨ret_bool (by simp; omega), HE.out⟩
    · have hz2 : (s == 0) = false := by simp [hz]
      go_wp2
      go_ret
      exact ⟨ret_bool (by simp), HE.out⟩
set_option maxRecDepth 100000 in
set_option maxHeartbeats 4000000 in
theorem touches_sw_r (T : Option Addr) (m cT : Nat) (ts : List Int) (h0 : Few Wd ss ds) (hb : IsBath w w.heap.size A n c A' n' c' ss ds) (hm : m = ts.length) (hmn : n' ≤ m) (hmm : m ≤ 9223372036854775807) (ht : Held w w.heap.size 1 encI T ts) (hbd : ∀ k, 0 ≤ ts.getD k 0 ∧ ts.getD k 0 ≤ 10000) (i : Nat) (hi : i < n) :
    Calls Try.prog 46 #[.agg #[.int .i64 Wd, .slice A n c, .slice A' n' c'], .slice T m cT, .int .i64 (-2), .int .i64 (i : Int)] w fun e w' => e = .returned (.bool (meetB Wd ss (fun j => sumAt ds ts j n') (-2) i)) ∧ Ext w w' := by
  have h100 : n' ≤ 100 := by have := h0.many.2; have := hb.nds; omega
  have hiN : i < n := hi
  have hin : (i : Int) < (n : Int) := by omega
  have hi0 : decide ((i : Int) < 0) = false := by simp
  have h00 := BathAt.new (Wd := Wd) hb
  obtain ⟨b, off, rfl, _, _⟩ := h00.spot hi
  obtain ⟨X, Y, hiXY⟩ : ∃ X Y, ss.getD i (0, 0) = (X, Y) := ⟨_, _, rfl⟩
  obtain ⟨bx1, bx2, by1, by2, bw⟩ := spot_bd h0 (by rw [← hb.nss]; exact hi) hiXY
  obtain ⟨s, hs⟩ : ∃ s, sumAt ds ts i n' = s := ⟨_, rfl⟩
  have hsb := sumAt_bd ds ts i hbd n'
  rw [hs] at hsb
  obtain ⟨bs1, bs2⟩ := hsb
  have bs3 : s ≤ 1000000 := by omega
  have hres : meetB Wd ss (fun j => sumAt ds ts j n') (-2) i = decide ((Wd - X) * (Wd - X) ≤ s) := by rw [meetB_right, hiXY]; simp only [hs]
  rw [hres]
  clear hres
  have bm := mul_bd (a := (Wd - X)) (b := (Wd - X)) (M := 1000) (N := 1000) (by omega) (by omega) (by omega) (by omega)
  have bm1 : 1 ≤ (Wd - X) * (Wd - X) := by have := Int.mul_le_mul (a := 1) (b := 1) (c := (Wd - X)) (d := (Wd - X)) (by omega) (by omega) (by omega) (by omega); omega
  obtain ⟨w0, hw0⟩ : ∃ w0, w.alloc (.cells #[.int .i64 Wd, .slice (some ⟨b, off, none⟩) n c, .slice A' n' c'] 25) = w0 := ⟨_, rfl⟩
  have e0 : Ext w w0 := by rw [← hw0]; exact ext_alloc w _
  rw [hw0] at h00
  have HW := Lib.hid hw0
  have HX := Lib.hid h00
  have HT := Lib.hid ht
  have HV5 := Lib.hid e0
  clear hw0 h00 ht e0 hb h0
  go_enter Try.func46, Try.ntmps46
  go_upto_region 5 with fail
  rw [HW.out]
  clear HW
  generalize w.heap.size = p0 at HX ⊢
  refine wp_region_specs_free (ops := touchReg5) 11 (sizeSpotS Wd b off n c A' n' c' T m cT i s X Y p0 w0.heap.size) (Ext w0) (by kernel_rfl) (by kernel_rfl) (by kernel_rfl) ⟨rfl, rfl, rfl, Nat.le_refl _, fun _ _ => rfl⟩ (fun _ _ h e => h.trans e) (sizeSpotS_ext Wd b off n c A' n' c' T m cT i s X Y p0 w0.heap.size) touchD5 (by kernel_rfl) ?_ ?_
  · intro k o hk ho a W hB hsz hold haft
    match k, hk with
    | 0, _ => exact touch5_op0 (hold 4 (by kernel_rfl)) HX.out ho hB haft
    | 1, _ => exact touch5_op1 (hold 1 (by kernel_rfl)) ho hB haft
    | 2, _ => exact touch5_op2 (hold 2 (by kernel_rfl)) ho hB haft
    | 3, _ => exact touch5_op3 HX.out h100 hm hmn hmm (HT.out.ext HV5.out) hbd hs ho hB haft
    | 4, _ => exact touch5_op4 (hold 4 (by kernel_rfl)) ho hB haft
    | 5, _ => exact touch5_op5 (hold 4 (by kernel_rfl)) HX.out ho hB haft
    | 6, _ => exact touch5_op6 (hold 2 (by kernel_rfl)) ho hB haft
    | 7, _ => exact touch5_op7 hin ho hB haft
    | 8, _ => exact touch5_op8 HX.out hiN hiXY ho hB haft
    | 9, _ => exact touch5_op9 (Nat.le_refl _) ho hB haft
    | 10, _ => exact touch5_op10  ho hB haft
    | k + 11, h => exact absurd h (by omega)
  · intro a W hB hsz hdf hold hS
    obtain ⟨g, e9, hN, hr⟩ : ∃ g, a.eval (.tmp 10) = .pointer (some ⟨g, 0, none⟩) ∧ w0.heap.size ≤ g ∧ W.heap[g]? = some (.cells #[.int .i64 0, .int .i64 0] 74 (0, 0)) := hS 9 (by omega)
    have hall : ∀ x, x ∈ ([(24, .agg #[.int .i64 Wd, .slice (some ⟨b, off, none⟩) n c, .slice A' n' c']), (25, .slice T m cT), (26, .int .i64 (i : Int)), (27, .int .i64 s), (28, .pointer (some ⟨p0, 1, none⟩)), (29, .slice (some ⟨b, off, none⟩) n c), (30, .int .i64 (i : Int)), (31, .pointer (some ⟨b, off + i * 2, none⟩)), (32, .agg #[.int .i64 X, .int .i64 Y]), (10, .pointer (some ⟨g, 0, none⟩)), (9, .int .i64 s)] : List (Tmp × Value)) → x.1 < 116 ∧ a.eval (.tmp x.1) = x.2 := by
      intro x hx
      simp only [List.mem_cons, List.not_mem_nil, or_false] at hx
      rcases hx with rfl | rfl | rfl | rfl | rfl | rfl | rfl | rfl | rfl | rfl | rfl
      · exact ⟨(show (24 : Nat) < 116 by omega), hS 0 (by omega)⟩
      · exact ⟨(show (25 : Nat) < 116 by omega), hS 1 (by omega)⟩
      · exact ⟨(show (26 : Nat) < 116 by omega), hS 2 (by omega)⟩
      · exact ⟨(show (27 : Nat) < 116 by omega), hS 3 (by omega)⟩
      · exact ⟨(show (28 : Nat) < 116 by omega), hS 4 (by omega)⟩
      · exact ⟨(show (29 : Nat) < 116 by omega), hS 5 (by omega)⟩
      · exact ⟨(show (30 : Nat) < 116 by omega), hS 6 (by omega)⟩
      · exact ⟨(show (31 : Nat) < 116 by omega), hS 7 (by omega)⟩
      · exact ⟨(show (32 : Nat) < 116 by omega), hS 8 (by omega)⟩
      · exact ⟨(show (10 : Nat) < 116 by omega), e9⟩
      · exact ⟨(show (9 : Nat) < 116 by omega), hS 10 (by omega)⟩
    have ha := act_puts hsz hdf hall (fun t ht => hold t (all_ne_of (l := [(24, .agg #[.int .i64 Wd, .slice (some ⟨b, off, none⟩) n c, .slice A' n' c']), (25, .slice T m cT), (26, .int .i64 (i : Int)), (27, .int .i64 s), (28, .pointer (some ⟨p0, 1, none⟩)), (29, .slice (some ⟨b, off, none⟩) n c), (30, .int .i64 (i : Int)), (31, .pointer (some ⟨b, off + i * 2, none⟩)), (32, .agg #[.int .i64 X, .int .i64 Y]), (10, .pointer (some ⟨g, 0, none⟩)), (9, .int .i64 s)]) (by kernel_rfl) ht))
    have e8 : a.eval (.tmp 32) = .agg #[.int .i64 X, .int .i64 Y] := hS 8 (by omega)
    clear hall hS hold hsz hdf
    obtain ⟨o11, hdr, h11⟩ := drop_one (ops := touchReg5) (k := 11) (by kernel_rfl)
    rw [hdr]
    refine wpList_store_row (op_at h11 (·.guard) (x := none) (by kernel_rfl)) 74 (.tmp 10) (.tmp 32) (op_at h11 (·.op) (by kernel_rfl)) g #[.int .i64 X, .int .i64 Y] e9 e8 74 _ hr (by kernel_rfl) rfl (by simp [Value.oneCell']) ?_
    rw [show o11.dst = none from op_at h11 (·.dst) (by kernel_rfl)]
    clear hdr h11
    obtain ⟨W5, hW, hg5, hE5⟩ : ∃ W', W.setRow g #[.int .i64 X, .int .i64 Y] = W' ∧ W'.heap[g]? = some (.cells #[.int .i64 X, .int .i64 Y] 74 (0, 0)) ∧ Ext w0 W' := ⟨_, rfl, row_setRow _ _ _ _ _ _ hr, below_setRow hB hN _⟩
    rw [hW]
    clear hW hr hN hB e8 e9
    show Exit.then _ _ _ a _
    rw [ha]
    clear ha
    simp only [Exit.then, puts, List.foldl_cons, List.foldl_nil, Act.put, List.setIfInBounds_toArray, List.set_cons_succ, List.set_cons_zero]
    go_at_K
    obtain ⟨q0, q1, q2⟩ := (HX.out.ext hE5).cells
    have g0 := cell_of_row _ _ 0 _ _ _ hg5
    have g1 := cell_of_row _ _ 1 _ _ _ hg5
    simp at g0 g1
    have HE := Lib.hid (HV5.out.trans hE5)
    clear HX HV5 HT hE5 hg5 hbd hs hiXY
    by_cases hz : s = 0
    · subst hz
      go_wp2
      go_ret
      exact ⟨ret_bool (by simp; omega), HE.out⟩
    · have hz2 : (s == 0) = false := by simp [hz]
      go_wp2
      go_ret
      exact ⟨ret_bool (by simp), HE.out⟩
set_option maxRecDepth 100000 in
set_option maxHeartbeats 8000000 in
theorem touches_spots (T : Option Addr) (m cT : Nat) (ts : List Int) (h0 : Few Wd ss ds) (hb : IsBath w w.heap.size A n c A' n' c' ss ds) (hm : m = ts.length) (hmn : n' ≤ m) (hmm : m ≤ 9223372036854775807) (ht : Held w w.heap.size 1 encI T ts) (hbd : ∀ k, 0 ≤ ts.getD k 0 ∧ ts.getD k 0 ≤ 10000) (i j : Nat) (hi : i < n) (hj : j < n) :
    Calls Try.prog 46 #[.agg #[.int .i64 Wd, .slice A n c, .slice A' n' c'], .slice T m cT, .int .i64 (i : Int), .int .i64 (j : Int)] w fun e w' => e = .returned (.bool (reachB (sumAt ds ts i n') (sumAt ds ts j n') (((ss.getD i (0, 0)).1 - (ss.getD j (0, 0)).1) * ((ss.getD i (0, 0)).1 - (ss.getD j (0, 0)).1) + ((ss.getD i (0, 0)).2 - (ss.getD j (0, 0)).2) * ((ss.getD i (0, 0)).2 - (ss.getD j (0, 0)).2)))) ∧ Ext w w' := by
  have h100 : n' ≤ 100 := by have := h0.many.2; have := hb.nds; omega
  have hiN : i < n := hi
  have hin : (i : Int) < (n : Int) := by omega
  have hi0 : decide ((i : Int) < 0) = false := by simp
  have h00 := BathAt.new (Wd := Wd) hb
  obtain ⟨b, off, rfl, _, _⟩ := h00.spot hi
  obtain ⟨X, Y, hiXY⟩ : ∃ X Y, ss.getD i (0, 0) = (X, Y) := ⟨_, _, rfl⟩
  obtain ⟨bx1, bx2, by1, by2, bw⟩ := spot_bd h0 (by rw [← hb.nss]; exact hi) hiXY
  obtain ⟨s, hs⟩ : ∃ s, sumAt ds ts i n' = s := ⟨_, rfl⟩
  have hsb := sumAt_bd ds ts i hbd n'
  rw [hs] at hsb
  obtain ⟨bs1, bs2⟩ := hsb
  have bs3 : s ≤ 1000000 := by omega
  have hjN : j < n := hj
  have hjn : (j : Int) < (n : Int) := by omega
  have hj0 : decide ((j : Int) < 0) = false := by simp
  have hj1 : ((j : Int) == -1) = false := by simp
  have hj2 : ((j : Int) == -2) = false := by simp
  obtain ⟨X2, Y2, hjXY⟩ : ∃ X Y, ss.getD j (0, 0) = (X, Y) := ⟨_, _, rfl⟩
  obtain ⟨cx1, cx2, cy1, cy2, _⟩ := spot_bd h0 (by rw [← hb.nss]; exact hj) hjXY
  obtain ⟨s2, hs2⟩ : ∃ s, sumAt ds ts j n' = s := ⟨_, rfl⟩
  have hsb2 := sumAt_bd ds ts j hbd n'
  rw [hs2] at hsb2
  obtain ⟨cs1, cs2⟩ := hsb2
  have cs3 : s2 ≤ 1000000 := by omega
  rw [hs, hs2, hiXY, hjXY]
  have b1 : 0 ≤ (X - X2) * (X - X2) ∧ (X - X2) * (X - X2) ≤ 1000000 := by
    rcases Int.le_total X2 X with h | h
    · exact mul_bd (a := X - X2) (b := X - X2) (M := 1000) (N := 1000) (by omega) (by omega) (by omega) (by omega)
    · rw [show (X - X2) * (X - X2) = (X2 - X) * (X2 - X) from by rw [← Int.neg_mul_neg]; simp [Int.neg_sub]]
      exact mul_bd (a := X2 - X) (b := X2 - X) (M := 1000) (N := 1000) (by omega) (by omega) (by omega) (by omega)
  have b2 : 0 ≤ (Y - Y2) * (Y - Y2) ∧ (Y - Y2) * (Y - Y2) ≤ 1000000 := by
    rcases Int.le_total Y2 Y with h | h
    · exact mul_bd (a := Y - Y2) (b := Y - Y2) (M := 1000) (N := 1000) (by omega) (by omega) (by omega) (by omega)
    · rw [show (Y - Y2) * (Y - Y2) = (Y2 - Y) * (Y2 - Y) from by rw [← Int.neg_mul_neg]; simp [Int.neg_sub]]
      exact mul_bd (a := Y2 - Y) (b := Y2 - Y) (M := 1000) (N := 1000) (by omega) (by omega) (by omega) (by omega)
  obtain ⟨w0, hw0⟩ : ∃ w0, w.alloc (.cells #[.int .i64 Wd, .slice (some ⟨b, off, none⟩) n c, .slice A' n' c'] 25) = w0 := ⟨_, rfl⟩
  have e0 : Ext w w0 := by rw [← hw0]; exact ext_alloc w _
  rw [hw0] at h00
  have HW := Lib.hid hw0
  have HX := Lib.hid h00
  have HT := Lib.hid ht
  have HV5 := Lib.hid e0
  clear hw0 h00 ht e0 hb h0
  go_enter Try.func46, Try.ntmps46
  go_upto_region 5 with fail
  rw [HW.out]
  clear HW
  generalize w.heap.size = p0 at HX ⊢
  refine wp_region_specs_free (ops := touchReg5) 11 (sizeSpotS Wd b off n c A' n' c' T m cT i s X Y p0 w0.heap.size) (Ext w0) (by kernel_rfl) (by kernel_rfl) (by kernel_rfl) ⟨rfl, rfl, rfl, Nat.le_refl _, fun _ _ => rfl⟩ (fun _ _ h e => h.trans e) (sizeSpotS_ext Wd b off n c A' n' c' T m cT i s X Y p0 w0.heap.size) touchD5 (by kernel_rfl) ?_ ?_
  · intro k o hk ho a W hB hsz hold haft
    match k, hk with
    | 0, _ => exact touch5_op0 (hold 4 (by kernel_rfl)) HX.out ho hB haft
    | 1, _ => exact touch5_op1 (hold 1 (by kernel_rfl)) ho hB haft
    | 2, _ => exact touch5_op2 (hold 2 (by kernel_rfl)) ho hB haft
    | 3, _ => exact touch5_op3 HX.out h100 hm hmn hmm (HT.out.ext HV5.out) hbd hs ho hB haft
    | 4, _ => exact touch5_op4 (hold 4 (by kernel_rfl)) ho hB haft
    | 5, _ => exact touch5_op5 (hold 4 (by kernel_rfl)) HX.out ho hB haft
    | 6, _ => exact touch5_op6 (hold 2 (by kernel_rfl)) ho hB haft
    | 7, _ => exact touch5_op7 hin ho hB haft
    | 8, _ => exact touch5_op8 HX.out hiN hiXY ho hB haft
    | 9, _ => exact touch5_op9 (Nat.le_refl _) ho hB haft
    | 10, _ => exact touch5_op10  ho hB haft
    | k + 11, h => exact absurd h (by omega)
  · intro a W hB hsz hdf hold hS
    obtain ⟨g1, e9, hN, hr⟩ : ∃ g, a.eval (.tmp 10) = .pointer (some ⟨g, 0, none⟩) ∧ w0.heap.size ≤ g ∧ W.heap[g]? = some (.cells #[.int .i64 0, .int .i64 0] 74 (0, 0)) := hS 9 (by omega)
    have hall : ∀ x, x ∈ ([(24, .agg #[.int .i64 Wd, .slice (some ⟨b, off, none⟩) n c, .slice A' n' c']), (25, .slice T m cT), (26, .int .i64 (i : Int)), (27, .int .i64 s), (28, .pointer (some ⟨p0, 1, none⟩)), (29, .slice (some ⟨b, off, none⟩) n c), (30, .int .i64 (i : Int)), (31, .pointer (some ⟨b, off + i * 2, none⟩)), (32, .agg #[.int .i64 X, .int .i64 Y]), (10, .pointer (some ⟨g1, 0, none⟩)), (9, .int .i64 s)] : List (Tmp × Value)) → x.1 < 116 ∧ a.eval (.tmp x.1) = x.2 := by
      intro x hx
      simp only [List.mem_cons, List.not_mem_nil, or_false] at hx
      rcases hx with rfl | rfl | rfl | rfl | rfl | rfl | rfl | rfl | rfl | rfl | rfl
      · exact ⟨(show (24 : Nat) < 116 by omega), hS 0 (by omega)⟩
      · exact ⟨(show (25 : Nat) < 116 by omega), hS 1 (by omega)⟩
      · exact ⟨(show (26 : Nat) < 116 by omega), hS 2 (by omega)⟩
      · exact ⟨(show (27 : Nat) < 116 by omega), hS 3 (by omega)⟩
      · exact ⟨(show (28 : Nat) < 116 by omega), hS 4 (by omega)⟩
      · exact ⟨(show (29 : Nat) < 116 by omega), hS 5 (by omega)⟩
      · exact ⟨(show (30 : Nat) < 116 by omega), hS 6 (by omega)⟩
      · exact ⟨(show (31 : Nat) < 116 by omega), hS 7 (by omega)⟩
      · exact ⟨(show (32 : Nat) < 116 by omega), hS 8 (by omega)⟩
      · exact ⟨(show (10 : Nat) < 116 by omega), e9⟩
      · exact ⟨(show (9 : Nat) < 116 by omega), hS 10 (by omega)⟩
    have ha := act_puts hsz hdf hall (fun t ht => hold t (all_ne_of (l := [(24, .agg #[.int .i64 Wd, .slice (some ⟨b, off, none⟩) n c, .slice A' n' c']), (25, .slice T m cT), (26, .int .i64 (i : Int)), (27, .int .i64 s), (28, .pointer (some ⟨p0, 1, none⟩)), (29, .slice (some ⟨b, off, none⟩) n c), (30, .int .i64 (i : Int)), (31, .pointer (some ⟨b, off + i * 2, none⟩)), (32, .agg #[.int .i64 X, .int .i64 Y]), (10, .pointer (some ⟨g1, 0, none⟩)), (9, .int .i64 s)]) (by kernel_rfl) ht))
    have e8 : a.eval (.tmp 32) = .agg #[.int .i64 X, .int .i64 Y] := hS 8 (by omega)
    clear hall hS hold hsz hdf
    obtain ⟨o11, hdr, h11⟩ := drop_one (ops := touchReg5) (k := 11) (by kernel_rfl)
    rw [hdr]
    refine wpList_store_row (op_at h11 (·.guard) (x := none) (by kernel_rfl)) 74 (.tmp 10) (.tmp 32) (op_at h11 (·.op) (by kernel_rfl)) g1 #[.int .i64 X, .int .i64 Y] e9 e8 74 _ hr (by kernel_rfl) rfl (by simp [Value.oneCell']) ?_
    rw [show o11.dst = none from op_at h11 (·.dst) (by kernel_rfl)]
    clear hdr h11
    obtain ⟨W5, hW, hg5, hE5⟩ : ∃ W', W.setRow g1 #[.int .i64 X, .int .i64 Y] = W' ∧ W'.heap[g1]? = some (.cells #[.int .i64 X, .int .i64 Y] 74 (0, 0)) ∧ Ext w0 W' := ⟨_, rfl, row_setRow _ _ _ _ _ _ hr, below_setRow hB hN _⟩
    rw [hW]
    clear hW hr hN hB e8 e9
    show Exit.then _ _ _ a _
    rw [ha]
    clear ha
    simp only [Exit.then, puts, List.foldl_cons, List.foldl_nil, Act.put, List.setIfInBounds_toArray, List.set_cons_succ, List.set_cons_zero]
    go_at_K
    have HX12 := Lib.hid (HX.out.ext hE5)
    have HV12 := Lib.hid (HV5.out.trans hE5)
    have HG5 := Lib.hid hg5
    clear HX HV5 hE5 hg5 hs hiXY
    by_cases hz : s = 0
    · subst hz
      go_wp2
      go_ret
      exact ⟨ret_bool (by simp [reachB]), HV12.out⟩
    · have hz2 : (s == 0) = false := by simp [hz]
      go_upto_region 12 with fail
      refine wp_region_specs_free (ops := touchReg12) 11 (sizeSpotS Wd b off n c A' n' c' T m cT j s2 X2 Y2 p0 W5.heap.size) (Ext W5) (by kernel_rfl) (by kernel_rfl) (by kernel_rfl) ⟨rfl, rfl, rfl, Nat.le_refl _, fun _ _ => rfl⟩ (fun _ _ h e => h.trans e) (sizeSpotS_ext Wd b off n c A' n' c' T m cT j s2 X2 Y2 p0 W5.heap.size) touchD12 (by kernel_rfl) ?_ ?_
      · intro k o hk ho a W hB hsz hold haft
        match k, hk with
        | 0, _ => exact touch12_op0 (hold 4 (by kernel_rfl)) HX12.out ho hB haft
        | 1, _ => exact touch12_op1 (hold 1 (by kernel_rfl)) ho hB haft
        | 2, _ => exact touch12_op2 (hold 3 (by kernel_rfl)) ho hB haft
        | 3, _ => exact touch12_op3 HX12.out h100 hm hmn hmm (HT.out.ext HV12.out) hbd hs2 ho hB haft
        | 4, _ => exact touch12_op4 (hold 4 (by kernel_rfl)) ho hB haft
        | 5, _ => exact touch12_op5 (hold 4 (by kernel_rfl)) HX12.out ho hB haft
        | 6, _ => exact touch12_op6 (hold 3 (by kernel_rfl)) ho hB haft
        | 7, _ => exact touch12_op7 hjn ho hB haft
        | 8, _ => exact touch12_op8 HX12.out hjN hjXY ho hB haft
        | 9, _ => exact touch12_op9 (Nat.le_refl _) ho hB haft
        | 10, _ => exact touch12_op10  ho hB haft
        | k + 11, h => exact absurd h (by omega)
      · intro a W hB hsz hdf hold hS
        obtain ⟨g2, e9, hN, hr⟩ : ∃ g, a.eval (.tmp 12) = .pointer (some ⟨g, 0, none⟩) ∧ W5.heap.size ≤ g ∧ W.heap[g]? = some (.cells #[.int .i64 0, .int .i64 0] 74 (0, 0)) := hS 9 (by omega)
        have hall : ∀ x, x ∈ ([(59, .agg #[.int .i64 Wd, .slice (some ⟨b, off, none⟩) n c, .slice A' n' c']), (60, .slice T m cT), (61, .int .i64 (j : Int)), (62, .int .i64 s2), (63, .pointer (some ⟨p0, 1, none⟩)), (64, .slice (some ⟨b, off, none⟩) n c), (65, .int .i64 (j : Int)), (66, .pointer (some ⟨b, off + j * 2, none⟩)), (67, .agg #[.int .i64 X2, .int .i64 Y2]), (12, .pointer (some ⟨g2, 0, none⟩)), (11, .int .i64 s2)] : List (Tmp × Value)) → x.1 < 116 ∧ a.eval (.tmp x.1) = x.2 := by
          intro x hx
          simp only [List.mem_cons, List.not_mem_nil, or_false] at hx
          rcases hx with rfl | rfl | rfl | rfl | rfl | rfl | rfl | rfl | rfl | rfl | rfl
          · exact ⟨(show (59 : Nat) < 116 by omega), hS 0 (by omega)⟩
          · exact ⟨(show (60 : Nat) < 116 by omega), hS 1 (by omega)⟩
          · exact ⟨(show (61 : Nat) < 116 by omega), hS 2 (by omega)⟩
          · exact ⟨(show (62 : Nat) < 116 by omega), hS 3 (by omega)⟩
          · exact ⟨(show (63 : Nat) < 116 by omega), hS 4 (by omega)⟩
          · exact ⟨(show (64 : Nat) < 116 by omega), hS 5 (by omega)⟩
          · exact ⟨(show (65 : Nat) < 116 by omega), hS 6 (by omega)⟩
          · exact ⟨(show (66 : Nat) < 116 by omega), hS 7 (by omega)⟩
          · exact ⟨(show (67 : Nat) < 116 by omega), hS 8 (by omega)⟩
          · exact ⟨(show (12 : Nat) < 116 by omega), e9⟩
          · exact ⟨(show (11 : Nat) < 116 by omega), hS 10 (by omega)⟩
        have ha := act_puts hsz hdf hall (fun t ht => hold t (all_ne_of (l := [(59, .agg #[.int .i64 Wd, .slice (some ⟨b, off, none⟩) n c, .slice A' n' c']), (60, .slice T m cT), (61, .int .i64 (j : Int)), (62, .int .i64 s2), (63, .pointer (some ⟨p0, 1, none⟩)), (64, .slice (some ⟨b, off, none⟩) n c), (65, .int .i64 (j : Int)), (66, .pointer (some ⟨b, off + j * 2, none⟩)), (67, .agg #[.int .i64 X2, .int .i64 Y2]), (12, .pointer (some ⟨g2, 0, none⟩)), (11, .int .i64 s2)]) (by kernel_rfl) ht))
        have e8 : a.eval (.tmp 67) = .agg #[.int .i64 X2, .int .i64 Y2] := hS 8 (by omega)
        clear hall hS hold hsz hdf
        obtain ⟨o11, hdr, h11⟩ := drop_one (ops := touchReg12) (k := 11) (by kernel_rfl)
        rw [hdr]
        refine wpList_store_row (op_at h11 (·.guard) (x := none) (by kernel_rfl)) 74 (.tmp 12) (.tmp 67) (op_at h11 (·.op) (by kernel_rfl)) g2 #[.int .i64 X2, .int .i64 Y2] e9 e8 74 _ hr (by kernel_rfl) rfl (by simp [Value.oneCell']) ?_
        rw [show o11.dst = none from op_at h11 (·.dst) (by kernel_rfl)]
        clear hdr h11
        obtain ⟨W12, hW, hg12, hE12⟩ : ∃ W', W.setRow g2 #[.int .i64 X2, .int .i64 Y2] = W' ∧ W'.heap[g2]? = some (.cells #[.int .i64 X2, .int .i64 Y2] 74 (0, 0)) ∧ Ext W5 W' := ⟨_, rfl, row_setRow _ _ _ _ _ _ hr, below_setRow hB hN _⟩
        rw [hW]
        clear hW hr hN hB e8 e9
        show Exit.then _ _ _ a _
        rw [ha]
        clear ha
        simp only [Exit.then, puts, List.foldl_cons, List.foldl_nil, Act.put, List.setIfInBounds_toArray, List.set_cons_succ, List.set_cons_zero]
        go_at_K
        have hg5 := row_ext HG5.out hE12
        have f0 := cell_of_row _ _ 0 _ _ _ hg5
        have f1 := cell_of_row _ _ 1 _ _ _ hg5
        have f2 := cell_of_row _ _ 0 _ _ _ hg12
        have f3 := cell_of_row _ _ 1 _ _ _ hg12
        simp at f0 f1 f2 f3
        have HE := Lib.hid (HV12.out.trans hE12)
        clear HX12 HV12 HT HG5 hE12 hg12 hg5 hbd hs2 hjXY hi0 hj0 hj1 hj2
        by_cases hy : s2 = 0
        · subst hy
          go_wp2
          go_ret
          exact ⟨ret_bool (by simp [reachB]), HE.out⟩
        · have hy2 : (s2 == 0) = false := by simp [hy]
          obtain ⟨D, hD⟩ : ∃ D, (X - X2) * (X - X2) + (Y - Y2) * (Y - Y2) = D := ⟨_, rfl⟩
          have HD := Lib.hid hD
          have hD0 : 0 ≤ D ∧ D ≤ 2000000 := by omega
          obtain ⟨hD0, hD1⟩ := hD0
          by_cases hle : D ≤ s + s2
          · have hr : reachB s s2 D = true := by simp [reachB, hz, hy]; omega
            have HR := Lib.hid hr
            clear hr
            go_wp2
            go_ret
            exact ⟨ret_bool (by first | rw [HD.out, HR.out] | rw [HR.out]), HE.out⟩
          · have bq := mul_bd (a := D - s - s2) (b := D - s - s2) (M := 2000000) (N := 2000000) (by omega) (by omega) (by omega) (by omega)
            have bp := mul_bd (a := 4 * s) (b := s2) (M := 4000000) (N := 1000000) (by omega) (by omega) (by omega) (by omega)
            have hr : reachB s s2 D = decide ((D - s - s2) * (D - s - s2) ≤ 4 * s * s2) := by
              have h3 : ¬ (D - s - s2 ≤ 0) := by omega
              simp [reachB, hz, hy, h3]
            have HR := Lib.hid hr
            clear hr
            go_wp2
            go_ret
            exact ⟨ret_bool (by first | rw [HD.out, HR.out] | rw [HR.out]), HE.out⟩
end
end Go.Proofs.Ytckndnaohggmhaa

/- The reference's kind of two places. -/
namespace Go.Proofs.Ytckndnaohggmhaa
open Go.RowKit Go.Shelf

section
variable {w : World} {Wd : Int} {A : Option Addr} {n c : Nat} {A' : Option Addr} {n' c' : Nat} {ss : List (Int × Int)} {ds : List (Int × Int × Int)}

/-- Touches, at any two different places. -/
theorem touches_ref (T : Option Addr) (m cT : Nat) (ts : List Int) (h0 : Few Wd ss ds) (hb : IsBath w w.heap.size A n c A' n' c' ss ds) (hm : m = ts.length) (hmn : n' ≤ m) (hmm : m ≤ 9223372036854775807) (ht : Held w w.heap.size 1 encI T ts) (hbd : ∀ k, 0 ≤ ts.getD k 0 ∧ ts.getD k 0 ≤ 10000)
    (one two : Int) (h1 : -2 ≤ one) (h1' : one < n) (h2 : -2 ≤ two) (h2' : two < n) (hne : one ≠ two) :
    Calls Try.prog 46 #[.agg #[.int .i64 Wd, .slice A n c, .slice A' n' c'], .slice T m cT, .int .i64 one, .int .i64 two] w fun e w' => e = .returned (.bool (meetB Wd ss (fun j => sumAt ds ts j n') one two)) ∧ Ext w w' := by
  by_cases ha : one < 0
  · by_cases hb2 : two < 0
    · have hr : meetB Wd ss (fun j => sumAt ds ts j n') one two = false := by
        rcases Int.lt_or_gt_of_ne hne with h | h
        · exact meetB_walls _ _ _ _ _ h hb2
        · rw [meetB_comm]; exact meetB_walls _ _ _ _ _ h ha
      rw [hr]
      exact touches_none T m cT one two ha hb2
    · obtain ⟨i, rfl⟩ := Int.eq_ofNat_of_zero_le (show 0 ≤ two by omega)
      rcases (show one = -1 ∨ one = -2 by omega) with rfl | rfl
      · exact touches_sw_l T m cT ts h0 hb hm hmn hmm ht hbd i (by omega)
      · exact touches_sw_r T m cT ts h0 hb hm hmn hmm ht hbd i (by omega)
  · obtain ⟨i, rfl⟩ := Int.eq_ofNat_of_zero_le (show 0 ≤ one by omega)
    by_cases hb2 : two < 0
    · rw [meetB_comm]
      rcases (show two = -1 ∨ two = -2 by omega) with rfl | rfl
      · exact touches_ns_l T m cT ts h0 hb hm hmn hmm ht hbd i (by omega)
      · exact touches_ns_r T m cT ts h0 hb hm hmn hmm ht hbd i (by omega)
    · obtain ⟨j, rfl⟩ := Int.eq_ofNat_of_zero_le (show 0 ≤ two by omega)
      have hc := touches_spots T m cT ts h0 hb hm hmn hmm ht hbd i j (by omega) (by omega)
      rcases Int.lt_or_gt_of_ne hne with h | h
      · rw [meetB_spots _ _ _ _ _ (by omega)]
        exact hc
      · rw [meetB_comm, meetB_spots _ _ _ _ _ (by omega), reachB_comm]
        rw [sq_comm (ss.getD j (0, 0)).1 (ss.getD i (0, 0)).1, sq_comm (ss.getD j (0, 0)).2 (ss.getD i (0, 0)).2]
        exact hc

theorem meet_ends (high : Bool) (ds : List (Int × Int × Int)) (one two : Int) : meetB Wd ss (fun j => sumAt ds (ds.map (endOf high)) j ds.length) one two = meetB Wd ss (fun j => if high then (sizes ds j).2 else (sizes ds j).1) one two := by
  congr 1
  funext j
  exact sumAt_ends high ds j

/-- What each operation of kind's two tests yields. -/
def kindS (Wd : Int) (A : Option Addr) (n c : Nat) (A' : Option Addr) (n' c' : Nat) (xs : List Int) (one two : Int) (r : Bool) (k : Nat) (v : Value) (W : World) : Prop :=
  match k with
  | 2 => IntsAt xs v W
  | 3 => v = .int .i64 one
  | 4 => v = .int .i64 two
  | 5 => v = .bool r
  | _ => v = .agg #[.int .i64 Wd, .slice A n c, .slice A' n' c']
theorem kindS_ext (Wd : Int) (A : Option Addr) (n c : Nat) (A' : Option Addr) (n' c' : Nat) (xs : List Int) (one two : Int) (r : Bool) (k : Nat) (v : Value) (W W' : World) (h : kindS Wd A n c A' n' c' xs one two r k v W) (e : Below W.heap.size W W') : kindS Wd A n c A' n' c' xs one two r k v W' := by
  unfold kindS at h ⊢
  split at h <;> first | exact h | exact IntsAt.ext h e

noncomputable def kindReg1 : Array Oper := (Try.f71.body.bind (regionOf · 1)).getD #[]
noncomputable def kindReg3 : Array Oper := (Try.f71.body.bind (regionOf · 3)).getD #[]
end
section
variable {Wd : Int} {A : Option Addr} {n c : Nat} {A' : Option Addr} {n' c' : Nat} {ss : List (Int × Int)} {ds : List (Int × Int × Int)} {one two : Int} {r : Bool} {p : Nat} {Q : Exit → Act → World → Prop} {a : Act} {V W : World} {o : Oper}

theorem kind1_op0 (o3 : a.eval (.tmp 3) = .pointer (some ⟨p, 0, none⟩)) (hx : BathAt V p Wd A n c A' n' c' ss ds) (ho : kindReg1[0]? = some o) (hB : Ext V W) (_haft : ∀ j, (o.after.any fun e => decide (e.on = j) && Region.binds .any e) = true → kindS Wd A n c A' n' c' (ds.map (endOf false)) one two r j (a.eval (.tmp (7 + j))) W) :
    (∀ j b, o.guard = some (j, b) → a.eval (.tmp (7 + j)) = .bool b) ∧ o.wp Try.prog a W (fun a'' W' => ∃ v, a'' = a.put o.dst v ∧ kindS Wd A n c A' n' c' (ds.map (endOf false)) one two r 0 v W' ∧ Below W.heap.size W W') Q := by
  have hop := op_at ho (·.op) (x := .load 25 (.tmp 3)) (by kernel_rfl)
  have hgd := op_at ho (·.guard) (x := none) (by kernel_rfl)
  refine ⟨fun j b h => (by rw [hgd] at h; cases h), ?_⟩
  obtain ⟨q0, q1, q2⟩ := (hx.ext hB).cells
  exact specs_value (R := kindS Wd A n c A' n' c' (ds.map (endOf false)) one two r 0) (v := .agg #[.int .i64 Wd, .slice A n c, .slice A' n' c']) (by simp [execOp, hop, go_sem, ev o3, q0, q1, q2]) rfl (Ext.refl W)
theorem kind1_op1 (o3 : a.eval (.tmp 3) = .pointer (some ⟨p, 0, none⟩)) (hx : BathAt V p Wd A n c A' n' c' ss ds) (ho : kindReg1[1]? = some o) (hB : Ext V W) (_haft : ∀ j, (o.after.any fun e => decide (e.on = j) && Region.binds .any e) = true → kindS Wd A n c A' n' c' (ds.map (endOf false)) one two r j (a.eval (.tmp (7 + j))) W) :
    (∀ j b, o.guard = some (j, b) → a.eval (.tmp (7 + j)) = .bool b) ∧ o.wp Try.prog a W (fun a'' W' => ∃ v, a'' = a.put o.dst v ∧ kindS Wd A n c A' n' c' (ds.map (endOf false)) one two r 1 v W' ∧ Below W.heap.size W W') Q := by
  have hop := op_at ho (·.op) (x := .load 25 (.tmp 3)) (by kernel_rfl)
  have hgd := op_at ho (·.guard) (x := none) (by kernel_rfl)
  refine ⟨fun j b h => (by rw [hgd] at h; cases h), ?_⟩
  obtain ⟨q0, q1, q2⟩ := (hx.ext hB).cells
  exact specs_value (R := kindS Wd A n c A' n' c' (ds.map (endOf false)) one two r 1) (v := .agg #[.int .i64 Wd, .slice A n c, .slice A' n' c']) (by simp [execOp, hop, go_sem, ev o3, q0, q1, q2]) rfl (Ext.refl W)
theorem kind1_op2 (hx : BathAt V p Wd A n c A' n' c' ss ds) (h0 : Few Wd ss ds) (ho : kindReg1[2]? = some o) (hB : Ext V W) (haft : ∀ j, (o.after.any fun e => decide (e.on = j) && Region.binds .any e) = true → kindS Wd A n c A' n' c' (ds.map (endOf false)) one two r j (a.eval (.tmp (7 + j))) W) :
    (∀ j b, o.guard = some (j, b) → a.eval (.tmp (7 + j)) = .bool b) ∧ o.wp Try.prog a W (fun a'' W' => ∃ v, a'' = a.put o.dst v ∧ kindS Wd A n c A' n' c' (ds.map (endOf false)) one two r 2 v W' ∧ Below W.heap.size W W') Q := by
  have hop := op_at ho (·.op) (x := .call { callee := .value (.func 61), args := #[.tmp 8, .const (.bool false)], argTypes := #[25, 4] }) (by kernel_rfl)
  have hgd := op_at ho (·.guard) (x := none) (by kernel_rfl)
  refine ⟨fun j b h => (by rw [hgd] at h; cases h), ?_⟩
  have e1 : a.eval (.tmp 8) = .agg #[.int .i64 Wd, .slice A n c, .slice A' n' c'] := haft 1 (op_at ho (fun o => o.after.any fun e => decide (e.on = 1) && Region.binds .any e) (x := true) (by kernel_rfl))
  have hX := hx.ext hB
  have hc := ends_ref (Wd := Wd) false hX.bath (by have := h0.many.2; have := hX.bath.nds; omega)
  exact specs_call (R := kindS Wd A n c A' n' c' (ds.map (endOf false)) one two r 2) (f := 61) (args := #[.agg #[.int .i64 Wd, .slice A n c, .slice A' n' c'], .bool false]) (by simp [execOp, hop, go_sem, ev e1]) (hc.mono fun e w' h => by
    obtain ⟨v, rfl, hM, hE⟩ := h
    exact ⟨v, rfl, made64_held hM, hE⟩)
theorem kind1_op3 (o1 : a.eval (.tmp 1) = .int .i64 one) (ho : kindReg1[3]? = some o) (_hB : Ext V W) (_haft : ∀ j, (o.after.any fun e => decide (e.on = j) && Region.binds .any e) = true → kindS Wd A n c A' n' c' (ds.map (endOf false)) one two r j (a.eval (.tmp (7 + j))) W) :
    (∀ j b, o.guard = some (j, b) → a.eval (.tmp (7 + j)) = .bool b) ∧ o.wp Try.prog a W (fun a'' W' => ∃ v, a'' = a.put o.dst v ∧ kindS Wd A n c A' n' c' (ds.map (endOf false)) one two r 3 v W' ∧ Below W.heap.size W W') Q := by
  have hop := op_at ho (·.op) (x := .move (.tmp 1)) (by kernel_rfl)
  have hgd := op_at ho (·.guard) (x := none) (by kernel_rfl)
  refine ⟨fun j b h => (by rw [hgd] at h; cases h), ?_⟩
  exact specs_value (R := kindS Wd A n c A' n' c' (ds.map (endOf false)) one two r 3) (v := .int .i64 one) (by simp [execOp, hop, go_sem, ev o1]) rfl (Ext.refl W)
theorem kind1_op4 (o2 : a.eval (.tmp 2) = .int .i64 two) (ho : kindReg1[4]? = some o) (_hB : Ext V W) (_haft : ∀ j, (o.after.any fun e => decide (e.on = j) && Region.binds .any e) = true → kindS Wd A n c A' n' c' (ds.map (endOf false)) one two r j (a.eval (.tmp (7 + j))) W) :
    (∀ j b, o.guard = some (j, b) → a.eval (.tmp (7 + j)) = .bool b) ∧ o.wp Try.prog a W (fun a'' W' => ∃ v, a'' = a.put o.dst v ∧ kindS Wd A n c A' n' c' (ds.map (endOf false)) one two r 4 v W' ∧ Below W.heap.size W W') Q := by
  have hop := op_at ho (·.op) (x := .move (.tmp 2)) (by kernel_rfl)
  have hgd := op_at ho (·.guard) (x := none) (by kernel_rfl)
  refine ⟨fun j b h => (by rw [hgd] at h; cases h), ?_⟩
  exact specs_value (R := kindS Wd A n c A' n' c' (ds.map (endOf false)) one two r 4) (v := .int .i64 two) (by simp [execOp, hop, go_sem, ev o2]) rfl (Ext.refl W)
theorem kind1_op5 (hx : BathAt V p Wd A n c A' n' c' ss ds) (h0 : Few Wd ss ds) (h1 : -2 ≤ one) (h1' : one < n) (h2 : -2 ≤ two) (h2' : two < n) (hne : one ≠ two) (hr : meetB Wd ss (fun j => sumAt ds (ds.map (endOf false)) j n') one two = r) (ho : kindReg1[5]? = some o) (hB : Ext V W) (haft : ∀ j, (o.after.any fun e => decide (e.on = j) && Region.binds .any e) = true → kindS Wd A n c A' n' c' (ds.map (endOf false)) one two r j (a.eval (.tmp (7 + j))) W) :
    (∀ j b, o.guard = some (j, b) → a.eval (.tmp (7 + j)) = .bool b) ∧ o.wp Try.prog a W (fun a'' W' => ∃ v, a'' = a.put o.dst v ∧ kindS Wd A n c A' n' c' (ds.map (endOf false)) one two r 5 v W' ∧ Below W.heap.size W W') Q := by
  have hop := op_at ho (·.op) (x := .call { callee := .value (.func 46), args := #[.tmp 7, .tmp 9, .tmp 10, .tmp 11], argTypes := #[25, 55, 3, 3] }) (by kernel_rfl)
  have hgd := op_at ho (·.guard) (x := none) (by kernel_rfl)
  refine ⟨fun j b h => (by rw [hgd] at h; cases h), ?_⟩
  have e0 : a.eval (.tmp 7) = .agg #[.int .i64 Wd, .slice A n c, .slice A' n' c'] := haft 0 (op_at ho (fun o => o.after.any fun e => decide (e.on = 0) && Region.binds .any e) (x := true) (by kernel_rfl))
  obtain ⟨T, cT, e2, hT⟩ := haft 2 (op_at ho (fun o => o.after.any fun e => decide (e.on = 2) && Region.binds .any e) (x := true) (by kernel_rfl))
  rw [show 7 + 2 = 9 from rfl] at e2
  have e3 : a.eval (.tmp 10) = .int .i64 one := haft 3 (op_at ho (fun o => o.after.any fun e => decide (e.on = 3) && Region.binds .any e) (x := true) (by kernel_rfl))
  have e4 : a.eval (.tmp 11) = .int .i64 two := haft 4 (op_at ho (fun o => o.after.any fun e => decide (e.on = 4) && Region.binds .any e) (x := true) (by kernel_rfl))
  have hX := hx.ext hB
  have hc := touches_ref (Wd := Wd) T _ cT (ds.map (endOf false)) h0 hX.bath rfl (by rw [List.length_map, hX.bath.nds]; exact Nat.le_refl _) (by rw [List.length_map]; have := h0.many.2; omega) hT (ends_bd h0 false) one two h1 h1' h2 h2' hne
  rw [hr] at hc
  exact specs_call (R := kindS Wd A n c A' n' c' (ds.map (endOf false)) one two r 5) (f := 46) (args := #[.agg #[.int .i64 Wd, .slice A n c, .slice A' n' c'], .slice T (ds.map (endOf false)).length cT, .int .i64 one, .int .i64 two]) (by simp [execOp, hop, go_sem, ev e0, ev e2, ev e3, ev e4]) (hc.mono fun e w' h => ⟨_, h.1, rfl, h.2⟩)
theorem kind3_op0 (o3 : a.eval (.tmp 3) = .pointer (some ⟨p, 0, none⟩)) (hx : BathAt V p Wd A n c A' n' c' ss ds) (ho : kindReg3[0]? = some o) (hB : Ext V W) (_haft : ∀ j, (o.after.any fun e => decide (e.on = j) && Region.binds .any e) = true → kindS Wd A n c A' n' c' (ds.map (endOf true)) one two r j (a.eval (.tmp (13 + j))) W) :
    (∀ j b, o.guard = some (j, b) → a.eval (.tmp (13 + j)) = .bool b) ∧ o.wp Try.prog a W (fun a'' W' => ∃ v, a'' = a.put o.dst v ∧ kindS Wd A n c A' n' c' (ds.map (endOf true)) one two r 0 v W' ∧ Below W.heap.size W W') Q := by
  have hop := op_at ho (·.op) (x := .load 25 (.tmp 3)) (by kernel_rfl)
  have hgd := op_at ho (·.guard) (x := none) (by kernel_rfl)
  refine ⟨fun j b h => (by rw [hgd] at h; cases h), ?_⟩
  obtain ⟨q0, q1, q2⟩ := (hx.ext hB).cells
  exact specs_value (R := kindS Wd A n c A' n' c' (ds.map (endOf true)) one two r 0) (v := .agg #[.int .i64 Wd, .slice A n c, .slice A' n' c']) (by simp [execOp, hop, go_sem, ev o3, q0, q1, q2]) rfl (Ext.refl W)
theorem kind3_op1 (o3 : a.eval (.tmp 3) = .pointer (some ⟨p, 0, none⟩)) (hx : BathAt V p Wd A n c A' n' c' ss ds) (ho : kindReg3[1]? = some o) (hB : Ext V W) (_haft : ∀ j, (o.after.any fun e => decide (e.on = j) && Region.binds .any e) = true → kindS Wd A n c A' n' c' (ds.map (endOf true)) one two r j (a.eval (.tmp (13 + j))) W) :
    (∀ j b, o.guard = some (j, b) → a.eval (.tmp (13 + j)) = .bool b) ∧ o.wp Try.prog a W (fun a'' W' => ∃ v, a'' = a.put o.dst v ∧ kindS Wd A n c A' n' c' (ds.map (endOf true)) one two r 1 v W' ∧ Below W.heap.size W W') Q := by
  have hop := op_at ho (·.op) (x := .load 25 (.tmp 3)) (by kernel_rfl)
  have hgd := op_at ho (·.guard) (x := none) (by kernel_rfl)
  refine ⟨fun j b h => (by rw [hgd] at h; cases h), ?_⟩
  obtain ⟨q0, q1, q2⟩ := (hx.ext hB).cells
  exact specs_value (R := kindS Wd A n c A' n' c' (ds.map (endOf true)) one two r 1) (v := .agg #[.int .i64 Wd, .slice A n c, .slice A' n' c']) (by simp [execOp, hop, go_sem, ev o3, q0, q1, q2]) rfl (Ext.refl W)
theorem kind3_op2 (hx : BathAt V p Wd A n c A' n' c' ss ds) (h0 : Few Wd ss ds) (ho : kindReg3[2]? = some o) (hB : Ext V W) (haft : ∀ j, (o.after.any fun e => decide (e.on = j) && Region.binds .any e) = true → kindS Wd A n c A' n' c' (ds.map (endOf true)) one two r j (a.eval (.tmp (13 + j))) W) :
    (∀ j b, o.guard = some (j, b) → a.eval (.tmp (13 + j)) = .bool b) ∧ o.wp Try.prog a W (fun a'' W' => ∃ v, a'' = a.put o.dst v ∧ kindS Wd A n c A' n' c' (ds.map (endOf true)) one two r 2 v W' ∧ Below W.heap.size W W') Q := by
  have hop := op_at ho (·.op) (x := .call { callee := .value (.func 61), args := #[.tmp 14, .const (.bool true)], argTypes := #[25, 4] }) (by kernel_rfl)
  have hgd := op_at ho (·.guard) (x := none) (by kernel_rfl)
  refine ⟨fun j b h => (by rw [hgd] at h; cases h), ?_⟩
  have e1 : a.eval (.tmp 14) = .agg #[.int .i64 Wd, .slice A n c, .slice A' n' c'] := haft 1 (op_at ho (fun o => o.after.any fun e => decide (e.on = 1) && Region.binds .any e) (x := true) (by kernel_rfl))
  have hX := hx.ext hB
  have hc := ends_ref (Wd := Wd) true hX.bath (by have := h0.many.2; have := hX.bath.nds; omega)
  exact specs_call (R := kindS Wd A n c A' n' c' (ds.map (endOf true)) one two r 2) (f := 61) (args := #[.agg #[.int .i64 Wd, .slice A n c, .slice A' n' c'], .bool true]) (by simp [execOp, hop, go_sem, ev e1]) (hc.mono fun e w' h => by
    obtain ⟨v, rfl, hM, hE⟩ := h
    exact ⟨v, rfl, made64_held hM, hE⟩)
theorem kind3_op3 (o1 : a.eval (.tmp 1) = .int .i64 one) (ho : kindReg3[3]? = some o) (_hB : Ext V W) (_haft : ∀ j, (o.after.any fun e => decide (e.on = j) && Region.binds .any e) = true → kindS Wd A n c A' n' c' (ds.map (endOf true)) one two r j (a.eval (.tmp (13 + j))) W) :
    (∀ j b, o.guard = some (j, b) → a.eval (.tmp (13 + j)) = .bool b) ∧ o.wp Try.prog a W (fun a'' W' => ∃ v, a'' = a.put o.dst v ∧ kindS Wd A n c A' n' c' (ds.map (endOf true)) one two r 3 v W' ∧ Below W.heap.size W W') Q := by
  have hop := op_at ho (·.op) (x := .move (.tmp 1)) (by kernel_rfl)
  have hgd := op_at ho (·.guard) (x := none) (by kernel_rfl)
  refine ⟨fun j b h => (by rw [hgd] at h; cases h), ?_⟩
  exact specs_value (R := kindS Wd A n c A' n' c' (ds.map (endOf true)) one two r 3) (v := .int .i64 one) (by simp [execOp, hop, go_sem, ev o1]) rfl (Ext.refl W)
theorem kind3_op4 (o2 : a.eval (.tmp 2) = .int .i64 two) (ho : kindReg3[4]? = some o) (_hB : Ext V W) (_haft : ∀ j, (o.after.any fun e => decide (e.on = j) && Region.binds .any e) = true → kindS Wd A n c A' n' c' (ds.map (endOf true)) one two r j (a.eval (.tmp (13 + j))) W) :
    (∀ j b, o.guard = some (j, b) → a.eval (.tmp (13 + j)) = .bool b) ∧ o.wp Try.prog a W (fun a'' W' => ∃ v, a'' = a.put o.dst v ∧ kindS Wd A n c A' n' c' (ds.map (endOf true)) one two r 4 v W' ∧ Below W.heap.size W W') Q := by
  have hop := op_at ho (·.op) (x := .move (.tmp 2)) (by kernel_rfl)
  have hgd := op_at ho (·.guard) (x := none) (by kernel_rfl)
  refine ⟨fun j b h => (by rw [hgd] at h; cases h), ?_⟩
  exact specs_value (R := kindS Wd A n c A' n' c' (ds.map (endOf true)) one two r 4) (v := .int .i64 two) (by simp [execOp, hop, go_sem, ev o2]) rfl (Ext.refl W)
theorem kind3_op5 (hx : BathAt V p Wd A n c A' n' c' ss ds) (h0 : Few Wd ss ds) (h1 : -2 ≤ one) (h1' : one < n) (h2 : -2 ≤ two) (h2' : two < n) (hne : one ≠ two) (hr : meetB Wd ss (fun j => sumAt ds (ds.map (endOf true)) j n') one two = r) (ho : kindReg3[5]? = some o) (hB : Ext V W) (haft : ∀ j, (o.after.any fun e => decide (e.on = j) && Region.binds .any e) = true → kindS Wd A n c A' n' c' (ds.map (endOf true)) one two r j (a.eval (.tmp (13 + j))) W) :
    (∀ j b, o.guard = some (j, b) → a.eval (.tmp (13 + j)) = .bool b) ∧ o.wp Try.prog a W (fun a'' W' => ∃ v, a'' = a.put o.dst v ∧ kindS Wd A n c A' n' c' (ds.map (endOf true)) one two r 5 v W' ∧ Below W.heap.size W W') Q := by
  have hop := op_at ho (·.op) (x := .call { callee := .value (.func 46), args := #[.tmp 13, .tmp 15, .tmp 16, .tmp 17], argTypes := #[25, 55, 3, 3] }) (by kernel_rfl)
  have hgd := op_at ho (·.guard) (x := none) (by kernel_rfl)
  refine ⟨fun j b h => (by rw [hgd] at h; cases h), ?_⟩
  have e0 : a.eval (.tmp 13) = .agg #[.int .i64 Wd, .slice A n c, .slice A' n' c'] := haft 0 (op_at ho (fun o => o.after.any fun e => decide (e.on = 0) && Region.binds .any e) (x := true) (by kernel_rfl))
  obtain ⟨T, cT, e2, hT⟩ := haft 2 (op_at ho (fun o => o.after.any fun e => decide (e.on = 2) && Region.binds .any e) (x := true) (by kernel_rfl))
  rw [show 13 + 2 = 15 from rfl] at e2
  have e3 : a.eval (.tmp 16) = .int .i64 one := haft 3 (op_at ho (fun o => o.after.any fun e => decide (e.on = 3) && Region.binds .any e) (x := true) (by kernel_rfl))
  have e4 : a.eval (.tmp 17) = .int .i64 two := haft 4 (op_at ho (fun o => o.after.any fun e => decide (e.on = 4) && Region.binds .any e) (x := true) (by kernel_rfl))
  have hX := hx.ext hB
  have hc := touches_ref (Wd := Wd) T _ cT (ds.map (endOf true)) h0 hX.bath rfl (by rw [List.length_map, hX.bath.nds]; exact Nat.le_refl _) (by rw [List.length_map]; have := h0.many.2; omega) hT (ends_bd h0 true) one two h1 h1' h2 h2' hne
  rw [hr] at hc
  exact specs_call (R := kindS Wd A n c A' n' c' (ds.map (endOf true)) one two r 5) (f := 46) (args := #[.agg #[.int .i64 Wd, .slice A n c, .slice A' n' c'], .slice T (ds.map (endOf true)).length cT, .int .i64 one, .int .i64 two]) (by simp [execOp, hop, go_sem, ev e0, ev e2, ev e3, ev e4]) (hc.mono fun e w' h => ⟨_, h.1, rfl, h.2⟩)
end
end Go.Proofs.Ytckndnaohggmhaa

/- The reference's kind, Touch. -/
namespace Go.Proofs.Ytckndnaohggmhaa
open Go.RowKit Go.Shelf

section
variable {w : World} {Wd : Int} {A : Option Addr} {n c : Nat} {A' : Option Addr} {n' c' : Nat} {ss : List (Int × Int)} {ds : List (Int × Int × Int)}

set_option maxRecDepth 100000 in
set_option maxHeartbeats 4000000 in
theorem kind_ref (one two : Int) (h0 : Few Wd ss ds) (hb : IsBath w w.heap.size A n c A' n' c' ss ds) (h1 : -2 ≤ one) (h1' : one < n) (h2 : -2 ≤ two) (h2' : two < n) (hne : one ≠ two) :
    Calls Try.prog 71 #[.agg #[.int .i64 Wd, .slice A n c, .slice A' n' c'], .int .i64 one, .int .i64 two] w fun e w' => e = .returned (.int .i64 (kindOf Wd ss (sizes ds) one two)) ∧ Ext w w' := by
  obtain ⟨r1, hr1⟩ : ∃ r, meetB Wd ss (fun j => sumAt ds (ds.map (endOf false)) j n') one two = r := ⟨_, rfl⟩
  obtain ⟨r2, hr2⟩ : ∃ r, meetB Wd ss (fun j => sumAt ds (ds.map (endOf true)) j n') one two = r := ⟨_, rfl⟩
  have hans : kindOf Wd ss (sizes ds) one two = if r1 then 2 else if r2 then 1 else 0 := by
    have e1 := hr1
    have e2 := hr2
    rw [hb.nds, meet_ends] at e1 e2
    unfold kindOf
    simp only [Bool.false_eq_true, if_false, if_true] at e1 e2
    rw [e1, e2]
  rw [hans]
  clear hans
  have h00 := BathAt.new (Wd := Wd) hb
  obtain ⟨w0, hw0⟩ : ∃ w0, w.alloc (.cells #[.int .i64 Wd, .slice A n c, .slice A' n' c'] 25) = w0 := ⟨_, rfl⟩
  have e0 : Ext w w0 := by rw [← hw0]; exact ext_alloc w _
  rw [hw0] at h00
  have HW := Lib.hid hw0
  have HX := Lib.hid h00
  have HE := Lib.hid e0
  clear hw0 h00 e0 hb
  go_enter Try.func71, Try.ntmps71
  go_upto_region 1 with fail
  rw [HW.out]
  clear HW
  generalize w.heap.size = p0 at HX ⊢
  refine wp_region_specs (ops := kindReg1) (kindS Wd A n c A' n' c' (ds.map (endOf false)) one two r1) (Ext w0) (by kernel_rfl) (by kernel_rfl) ⟨rfl, rfl, rfl, Nat.le_refl _, fun _ _ => rfl⟩ (fun _ _ h e => h.trans e) (kindS_ext Wd A n c A' n' c' (ds.map (endOf false)) one two r1) (fun k => 7 + k) (by kernel_rfl) ?_ ?_
  · intro k o ho a W hB hsz hold haft
    have hk : k < 6 := (Array.getElem?_eq_some_iff.1 ho).1
    match k, hk with
    | 0, _ => exact kind1_op0 (hold 3 (by kernel_rfl)) HX.out ho hB haft
    | 1, _ => exact kind1_op1 (hold 3 (by kernel_rfl)) HX.out ho hB haft
    | 2, _ => exact kind1_op2 HX.out h0 ho hB haft
    | 3, _ => exact kind1_op3 (hold 1 (by kernel_rfl)) ho hB haft
    | 4, _ => exact kind1_op4 (hold 2 (by kernel_rfl)) ho hB haft
    | 5, _ => exact kind1_op5 HX.out h0 h1 h1' h2 h2' hne hr1 ho hB haft
    | k + 6, h => exact absurd h (by omega)
  · intro a W hB hsz hdf hold hS
    have hsize : 6 = kindReg1.size := by kernel_rfl
    obtain ⟨T, cT, e2, _⟩ : IntsAt (ds.map (endOf false)) (a.eval (.tmp 9)) W := hS 2 (by rw [← hsize]; omega)
    have hall : ∀ x, x ∈ ([(7, .agg #[.int .i64 Wd, .slice A n c, .slice A' n' c']), (8, .agg #[.int .i64 Wd, .slice A n c, .slice A' n' c']), (9, .slice T (ds.map (endOf false)).length cT), (10, .int .i64 one), (11, .int .i64 two), (12, .bool r1)] : List (Tmp × Value)) → x.1 < 19 ∧ a.eval (.tmp x.1) = x.2 := by
      intro x hx
      simp only [List.mem_cons, List.not_mem_nil, or_false] at hx
      rcases hx with rfl | rfl | rfl | rfl | rfl | rfl
      · exact ⟨(show (7 : Nat) < 19 by omega), hS 0 (by rw [← hsize]; omega)⟩
      · exact ⟨(show (8 : Nat) < 19 by omega), hS 1 (by rw [← hsize]; omega)⟩
      · exact ⟨(show (9 : Nat) < 19 by omega), e2⟩
      · exact ⟨(show (10 : Nat) < 19 by omega), hS 3 (by rw [← hsize]; omega)⟩
      · exact ⟨(show (11 : Nat) < 19 by omega), hS 4 (by rw [← hsize]; omega)⟩
      · exact ⟨(show (12 : Nat) < 19 by omega), hS 5 (by rw [← hsize]; omega)⟩
    have ha := act_puts hsz hdf hall (fun t ht => hold t (all_ne_of (l := [(7, .agg #[.int .i64 Wd, .slice A n c, .slice A' n' c']), (8, .agg #[.int .i64 Wd, .slice A n c, .slice A' n' c']), (9, .slice T (ds.map (endOf false)).length cT), (10, .int .i64 one), (11, .int .i64 two), (12, .bool r1)]) (by kernel_rfl) ht))
    clear hall hS hold hsz hdf e2 hsize
    rw [ha]
    clear ha
    simp only [Exit.then, puts, List.foldl_cons, List.foldl_nil, Act.put, List.setIfInBounds_toArray, List.set_cons_succ, List.set_cons_zero]
    go_at_K
    have HE2 := Lib.hid (HE.out.trans hB)
    have HX2 := Lib.hid (HX.out.ext hB)
    clear HX HE hB hr1
    cases r1 with
    | true =>
      go_wp2
      go_ret
      exact ⟨rfl, HE2.out⟩
    | false =>
      go_upto_region 3 with fail
      refine wp_region_specs (ops := kindReg3) (kindS Wd A n c A' n' c' (ds.map (endOf true)) one two r2) (Ext W) (by kernel_rfl) (by kernel_rfl) ⟨rfl, rfl, rfl, Nat.le_refl _, fun _ _ => rfl⟩ (fun _ _ h e => h.trans e) (kindS_ext Wd A n c A' n' c' (ds.map (endOf true)) one two r2) (fun k => 13 + k) (by kernel_rfl) ?_ ?_
      · intro k o ho a W2 hB hsz hold haft
        have hk : k < 6 := (Array.getElem?_eq_some_iff.1 ho).1
        match k, hk with
        | 0, _ => exact kind3_op0 (hold 3 (by kernel_rfl)) HX2.out ho hB haft
        | 1, _ => exact kind3_op1 (hold 3 (by kernel_rfl)) HX2.out ho hB haft
        | 2, _ => exact kind3_op2 HX2.out h0 ho hB haft
        | 3, _ => exact kind3_op3 (hold 1 (by kernel_rfl)) ho hB haft
        | 4, _ => exact kind3_op4 (hold 2 (by kernel_rfl)) ho hB haft
        | 5, _ => exact kind3_op5 HX2.out h0 h1 h1' h2 h2' hne hr2 ho hB haft
        | k + 6, h => exact absurd h (by omega)
      · intro a W2 hB hsz hdf hold hS
        have hsize : 6 = kindReg3.size := by kernel_rfl
        obtain ⟨T, cT, e2, _⟩ : IntsAt (ds.map (endOf true)) (a.eval (.tmp 15)) W2 := hS 2 (by rw [← hsize]; omega)
        have hall : ∀ x, x ∈ ([(13, .agg #[.int .i64 Wd, .slice A n c, .slice A' n' c']), (14, .agg #[.int .i64 Wd, .slice A n c, .slice A' n' c']), (15, .slice T (ds.map (endOf true)).length cT), (16, .int .i64 one), (17, .int .i64 two), (18, .bool r2)] : List (Tmp × Value)) → x.1 < 19 ∧ a.eval (.tmp x.1) = x.2 := by
          intro x hx
          simp only [List.mem_cons, List.not_mem_nil, or_false] at hx
          rcases hx with rfl | rfl | rfl | rfl | rfl | rfl
          · exact ⟨(show (13 : Nat) < 19 by omega), hS 0 (by rw [← hsize]; omega)⟩
          · exact ⟨(show (14 : Nat) < 19 by omega), hS 1 (by rw [← hsize]; omega)⟩
          · exact ⟨(show (15 : Nat) < 19 by omega), e2⟩
          · exact ⟨(show (16 : Nat) < 19 by omega), hS 3 (by rw [← hsize]; omega)⟩
          · exact ⟨(show (17 : Nat) < 19 by omega), hS 4 (by rw [← hsize]; omega)⟩
          · exact ⟨(show (18 : Nat) < 19 by omega), hS 5 (by rw [← hsize]; omega)⟩
        have ha := act_puts hsz hdf hall (fun t ht => hold t (all_ne_of (l := [(13, .agg #[.int .i64 Wd, .slice A n c, .slice A' n' c']), (14, .agg #[.int .i64 Wd, .slice A n c, .slice A' n' c']), (15, .slice T (ds.map (endOf true)).length cT), (16, .int .i64 one), (17, .int .i64 two), (18, .bool r2)]) (by kernel_rfl) ht))
        clear hall hS hold hsz hdf e2 hsize
        rw [ha]
        clear ha
        simp only [Exit.then, puts, List.foldl_cons, List.foldl_nil, Act.put, List.setIfInBounds_toArray, List.set_cons_succ, List.set_cons_zero]
        go_at_K
        have HE3 := Lib.hid (HE2.out.trans hB)
        clear HX2 HE2 hB hr2
        cases r2 with
        | true =>
          go_wp2
          go_ret
          exact ⟨rfl, HE3.out⟩
        | false =>
          go_wp2
          go_ret
          exact ⟨rfl, HE3.out⟩

set_option maxRecDepth 100000 in
set_option maxHeartbeats 1000000 in
theorem touch_ref (one two : Int) (hb : IsBath w w.heap.size A n c A' n' c' ss ds) :
    Calls Try.prog 22 #[.agg #[.int .i64 Wd, .slice A n c, .slice A' n' c'], .int .i64 one, .int .i64 two] w fun e w' => e = .returned (.tuple #[.int .i64 (touchAns Wd ss ds one two).1, .int .i64 (touchAns Wd ss ds one two).2]) ∧ Ext w w' := by
  have cP : ∀ W : World, IsBath W W.heap.size A n c A' n' c' ss ds → _ := fun W h => places_ref (Wd := Wd) one two h
  have hX0 : BathAt (w.alloc (.cells #[.int .i64 Wd, .slice A n c, .slice A' n' c'] 25)) w.heap.size Wd A n c A' n' c' ss ds := BathAt.new hb
  have hE0 : Ext w (w.alloc (.cells #[.int .i64 Wd, .slice A n c, .slice A' n' c'] 25)) := ext_alloc w _
  have hnn := hb.nss
  clear hb
  by_cases he : forErr Wd ss ds one two = 0
  · have ha : touchAns Wd ss ds one two = (kindOf Wd ss (sizes ds) one two, 0) := by unfold touchAns; rw [if_pos he]
    rw [ha]
    obtain ⟨g0, g1, g2, g3⟩ := forErr_ok he
    rw [he] at cP
    rw [← hnn] at g2 g3
    have cK : ∀ W : World, IsBath W W.heap.size A n c A' n' c' ss ds → _ := fun W h => kind_ref (Wd := Wd) one two (bath_few g0) h g2.1 g2.2 g3.1 g3.2 g1
    generalize kindOf Wd ss (sizes ds) one two = r at cK ⊢
    clear ha he g0 g1 g2 g3 hnn
    go_enter Try.func22, Try.ntmps22
    go_wp2_with fail
    refine (cP _ hX0.bath).mono ?_
    rintro e w1 ⟨rfl, hb1⟩
    have hX1 := hX0.ext hb1
    have hE1 := Lib.hid (hE0.trans hb1)
    clear hX0 hE0 hb1
    obtain ⟨q0, q1, q2⟩ := hX1.cells
    go_wp2_with fail
    refine (cK _ hX1.bath).mono ?_
    rintro e w2 ⟨rfl, hb2⟩
    go_wp2
    go_ret2
    exact ⟨rfl, hE1.out.trans hb2⟩
  · have ha : touchAns Wd ss ds one two = (0, forErr Wd ss ds one two) := by unfold touchAns; rw [if_neg he]
    rw [ha]
    generalize forErr Wd ss ds one two = r at he cP ⊢
    have hne2 : (r != 0) = true := by simpa using he
    clear ha hnn
    go_enter Try.func22, Try.ntmps22
    go_wp2_with fail
    refine (cP _ hX0.bath).mono ?_
    rintro e w1 ⟨rfl, hb1⟩
    have hX1 := hX0.ext hb1
    have hE1 := Lib.hid (hE0.trans hb1)
    clear hX0 hE0 hb1
    obtain ⟨q0, q1, q2⟩ := hX1.cells
    go_wp2_with fail
    refine (cP _ hX1.bath).mono ?_
    rintro e w2 ⟨rfl, hb2⟩
    go_wp2
    go_ret2
    exact ⟨rfl, hE1.out.trans hb2⟩
end
end Go.Proofs.Ytckndnaohggmhaa
