/- Texts of the package drop, joined: EitherPure. -/
import Derived.Test.YtckndnaohggmhaaC13
import Derived.Test.YtckndnaohggmhaaC18
import Derived.Test.YtckndnaohggmhaaC49
/- DropEither: either a way or a side; ways that are given; sides that are given: plain mathematics. -/
namespace Go.Proofs.Ytckndnaohggmhaa

section
variable {H : Nat → Nat → Bool} {n s t : Nat}

/-- What a way says of its steps. -/
structure StepsOf (H : Nat → Nat → Bool) (t : Nat) (l : List Nat) (i : Nat) : Prop where
  ne : 1 ≤ l.length
  first : l.getD 0 0 = i
  last : l.getD (l.length - 1) 0 = t
  hold : ∀ k, k + 1 < l.length → H (l.getD k 0) (l.getD (k + 1) 0) = true
theorem PathFrom.steps {l : List Nat} {i : Nat} (h : PathFrom H t l i) : StepsOf H t l i := by
  induction h with
  | stop => exact ⟨by simp, rfl, rfl, fun k hk => by simp at hk⟩
  | step h1 hi hj hij ih =>
    rename_i l i j
    refine ⟨by simp, rfl, ?_, fun k hk => ?_⟩
    · have := ih.ne
      rw [← ih.last]
      obtain ⟨d, hd⟩ : ∃ d, l.length = d + 1 := ⟨l.length - 1, by omega⟩
      simp [hd]
    · cases k with
      | zero => have := ih.first; simp at this ⊢; rw [this]; exact hij
      | succ k => have := ih.hold k (by simpa using hk); simpa using this
/-- .. and steps are a way. -/
theorem StepsOf.path (hlt : ∀ i j, H i j = true → i < 12 ∧ j < 12) : ∀ (l : List Nat) (i : Nat), StepsOf H t l i → PathFrom H t l i
  | [], i, h => by have := h.ne; simp at this
  | [a], i, h => by
    have h1 := h.first
    have h2 := h.last
    simp at h1 h2
    subst h1 h2
    exact .stop
  | a :: b :: l, i, h => by
    have h1 := h.first
    simp at h1
    subst h1
    have h2 := h.hold 0 (by simp)
    simp at h2
    refine .step (StepsOf.path hlt (b :: l) b ⟨by simp, rfl, by have := h.last; simpa using this, fun k hk => ?_⟩) (hlt _ _ h2).1 (hlt _ _ h2).2 h2
    have := h.hold (k + 1) (by simpa using hk)
    simpa using this
theorem PathFrom.back (hs : ∀ i j, H i j = H j i) {l : List Nat} {i : Nat} (h : PathFrom H s l i) : PathTo H s l.reverse i := by
  induction h with
  | stop => exact .start
  | step h1 hi hj hij ih =>
    rw [List.reverse_cons]
    exact .step ih hj hi (by rw [hs]; exact hij)

/-- A way that is as short as can be comes to each place once. -/
theorem short_nodup (h1 : 1 ≤ n) (hHn : ∀ i j, H i j = true → i < n ∧ j < n ∧ i ≠ j) : ∀ (l : List Nat) (i : Nat), PathFrom H t l i → l.length = outs H n t (n - 1) i → l.Nodup ∧ ∀ j, j ∈ l → outs H n t (n - 1) j ≤ l.length := by
  intro l i h
  induction h with
  | stop => intro _; exact ⟨by simp, fun j hj => by simp at hj; subst hj; rw [outs_t]; simp⟩
  | step hp hi hj hij ih =>
    rename_i l i j
    intro hl
    have hb := hHn _ _ hij
    have hp' := path_outs h1 hHn hp
    have hf := outs_full (t := t) h1 hb.1 hb.2.1 hb.2.2 hij hp'.1
    simp at hl
    have e : l.length = outs H n t (n - 1) j := by omega
    obtain ⟨a, b⟩ := ih e
    refine ⟨List.nodup_cons.2 ⟨fun hm => ?_, a⟩, fun x hx => ?_⟩
    · have := b i hm
      omega
    · rcases List.mem_cons.1 hx with rfl | hx
      · simp; omega
      · have := b x hx
        simp; omega
theorem wayOf_short (h1 : 1 ≤ n) (hn : n ≤ 12) (ht : t < n) (hHn : ∀ i j, H i j = true → i < n ∧ j < n ∧ i ≠ j) (hs : s < n) (h : outs H n t (n - 1) s ≠ 0) : PathFrom H t (wayOf H n s t) s ∧ (wayOf H n s t).length = outs H n t (n - 1) s ∧ (wayOf H n s t).Nodup := by
  obtain ⟨a, b, _⟩ := goFrom_first h1 hn ht hHn _ s hs h rfl
  exact ⟨a, b, (short_nodup h1 hHn _ _ a b).1⟩
theorem path_lt (hHn : ∀ i j, H i j = true → i < n ∧ j < n ∧ i ≠ j) (ht : t < n) {l : List Nat} {i : Nat} (h : PathFrom H t l i) : ∀ a, a ∈ l → a < n := by
  induction h with
  | stop => intro a ha; simp at ha; subst ha; exact ht
  | step _ _ _ hij ih => intro a ha; rcases List.mem_cons.1 ha with rfl | ha
                         · exact (hHn _ _ hij).1
                         · exact ih a ha

/-- Marks that nothing leads out of have whatever there is a way to. -/
theorem leads_way {M : Nat → Bool} (hl : leadsB H M = false) (hs : s < 12) (hM : M s = true) {i : Nat} (h : Way H s i) : M i = true := by
  induction h with
  | here => exact hM
  | more hw hj hH ih =>
    rename_i i j
    unfold leadsB at hl
    rw [List.any_eq_false] at hl
    have h1 := hl i (by unfold marked; rw [List.mem_filter]; exact ⟨List.mem_range.2 (Way.lt hs hw), ih⟩)
    rw [Bool.not_eq_true, List.any_eq_false] at h1
    have h2 := h1 j (List.mem_range.2 hj)
    simpa [hH] using h2
theorem leads_goes (_hs : s < 12) : leadsB H (goesB H s) = false := by
  unfold leadsB
  rw [List.any_eq_false]
  intro i hi
  unfold marked at hi
  rw [List.mem_filter] at hi
  rw [Bool.not_eq_true, List.any_eq_false]
  intro j hj
  have h1 := goesB_iff.1 hi.2
  cases hH : H i j with
  | false => simp
  | true =>
    have := goesB_iff.2 (Way.more h1 (List.mem_range.1 hj) hH)
    simp [this]
theorem leads_congr {M N : Nat → Bool} (h : ∀ i, i < 12 → M i = N i) : leadsB H M = leadsB H N := by
  unfold leadsB marked
  have e : (List.range 12).filter M = (List.range 12).filter N := List.filter_congr fun x hx => h x (List.mem_range.1 hx)
  rw [e]
  congr 1
  funext i
  rw [Bool.eq_iff_iff, List.any_eq_true, List.any_eq_true]
  constructor
  · rintro ⟨x, hx, hp⟩; exact ⟨x, hx, by rw [← h x (List.mem_range.1 hx)]; exact hp⟩
  · rintro ⟨x, hx, hp⟩; exact ⟨x, hx, by rw [h x (List.mem_range.1 hx)]; exact hp⟩
theorem mem_listTo2 {M : Nat → Bool} {k : Nat} {x : Int} : x ∈ listTo M k ↔ ∃ i, i < k ∧ M i = true ∧ x = (i : Int) - 2 := by
  unfold listTo
  rw [List.mem_filterMap]
  constructor
  · rintro ⟨i, hi, h⟩
    cases hM : M i with
    | false => simp [hM] at h
    | true => rw [hM] at h; simp at h; exact ⟨i, List.mem_range.1 hi, hM, by omega⟩
  · rintro ⟨i, hi, hM, rfl⟩
    exact ⟨i, List.mem_range.2 hi, by simp [hM]⟩
theorem listTo_sorted2 (M : Nat → Bool) : ∀ k, (listTo M k).Pairwise (· < ·)
  | 0 => by simp [listTo]
  | k + 1 => by
    rw [listTo_succ, List.pairwise_append]
    refine ⟨listTo_sorted2 M k, by split <;> simp, fun a ha b hb => ?_⟩
    obtain ⟨i, hi, _, rfl⟩ := mem_listTo2.1 ha
    split at hb
    · simp at hb; omega
    · simp at hb
end

section
variable {Wd : Int} {ss : List (Int × Int)} {ds : List (Int × Int × Int)} {one two : Int} {sure : Bool}

theorem tab_12 (h0 : bathErr Wd ss ds = 0) (i j : Nat) (h : tableOf Wd ss ds sure i j = true) : i < 12 ∧ j < 12 := by
  have := tableOf_lt i j h
  have := (bath_ok h0).2.1.1
  omega

/-- There is a way just if Way finds one. -/
theorem way_outs (he : forErr Wd ss ds one two = 0) : outs (tableOf Wd ss ds sure) (ss.length + 2) (two + 2).toNat (ss.length + 1) (one + 2).toNat ≠ 0 ↔ goesB (tableOf Wd ss ds sure) (one + 2).toNat (two + 2).toNat = true := by
  obtain ⟨h0, hne, h2, h3⟩ := forErr_ok he
  have hl := (bath_ok h0).2.1.1
  have h := goesB_goesC (n := ss.length + 2) (H := tableOf Wd ss ds sure) (k := (two + 2).toNat) (by omega) (by omega) tableOf_lt tableOf_sym (by omega)
  have h1 : goesB (tableOf Wd ss ds sure) (two + 2).toNat (one + 2).toNat = true ↔ goesB (tableOf Wd ss ds sure) (one + 2).toNat (two + 2).toNat = true := by
    rw [goesB_iff, goesB_iff]
    exact ⟨fun h => h.symm tableOf_sym (by omega), fun h => h.symm tableOf_sym (by omega)⟩
  rw [← h1, h]
  simp only [goesC, decide_eq_true_eq]
  rfl

/-- What is told of the way that Way answers. -/
theorem way_told (he : forErr Wd ss ds one two = 0) (ho : outs (tableOf Wd ss ds sure) (ss.length + 2) (two + 2).toNat (ss.length + 1) (one + 2).toNat ≠ 0) {l : List Nat} (hl : l = wayOf (tableOf Wd ss ds sure) (ss.length + 2) (one + 2).toNat (two + 2).toNat) :
    2 ≤ l.length ∧ l.length ≤ 12 ∧ l.length = outs (tableOf Wd ss ds sure) (ss.length + 2) (two + 2).toNat (ss.length + 1) (one + 2).toNat ∧ l.Nodup ∧ (∀ a, a ∈ l → a < ss.length + 2) ∧ StepsOf (tableOf Wd ss ds sure) (two + 2).toNat l (one + 2).toNat := by
  obtain ⟨h0, hne, h2, h3⟩ := forErr_ok he
  have hm := (bath_ok h0).2.1.1
  obtain ⟨a, b, c⟩ := wayOf_short (H := tableOf Wd ss ds sure) (n := ss.length + 2) (s := (one + 2).toNat) (t := (two + 2).toNat) (by omega) (by omega) (by omega) tableOf_lt (by omega) ho
  rw [← hl] at a b c
  have st := a.steps
  have ou := outs_le (H := tableOf Wd ss ds sure) (n := ss.length + 2) (t := (two + 2).toNat) (ss.length + 1) (one + 2).toNat
  have hb : l.length = outs (tableOf Wd ss ds sure) (ss.length + 2) (two + 2).toNat (ss.length + 1) (one + 2).toNat := b
  refine ⟨?_, by omega, hb, c, path_lt tableOf_lt (by omega) a, st⟩
  have := st.ne
  by_cases e : l.length = 1
  · exfalso
    have f1 := st.first
    have f2 := st.last
    rw [e] at f2
    rw [f1] at f2
    omega
  · omega

theorem nums_getD2 (l : List Nat) (k : Nat) (hk : k < l.length) (d : Int) : (nums l).getD k d = ((l.getD k 0 : Nat) : Int) - 2 := by
  simp [nums, List.getElem?_eq_getElem hk]
theorem nums_len2 (l : List Nat) : (nums l).length = l.length := by simp [nums]

theorem way_checks (he : forErr Wd ss ds one two = 0) {l : List Nat} (h2 : 2 ≤ l.length) (h12 : l.length ≤ 12) (hn : l.Nodup) (hlt : ∀ a, a ∈ l → a < ss.length + 2) (st : StepsOf (tableOf Wd ss ds sure) (two + 2).toNat l (one + 2).toNat) :
    checkWayAns Wd ss ds (nums l) sure = 0 := by
  unfold checkWayAns
  rw [if_pos (forErr_ok he).1, if_pos (by rw [nums_len2]; simp [inside]; omega), if_pos, if_pos, if_pos]
  · refine wayB_yes fun j hj => ?_
    rw [nums_len2] at hj
    rw [nums_getD2 _ _ (by omega), nums_getD2 _ _ hj]
    have := st.hold j hj
    rw [show ((l.getD j 0 : Nat) : Int) - 2 + 2 = (l.getD j 0 : Nat) from by omega, show ((l.getD (j + 1) 0 : Nat) : Int) - 2 + 2 = (l.getD (j + 1) 0 : Nat) from by omega, Int.toNat_natCast, Int.toNat_natCast]
    exact this
  · unfold nums
    exact List.Pairwise.map _ (fun a b h e => h (by omega)) hn
  · rw [List.all_eq_true]
    intro x hx
    simp only [nums, List.mem_map] at hx
    obtain ⟨a, ha, rfl⟩ := hx
    have := hlt a ha
    simp [placeB]
    omega
end
end Go.Proofs.Ytckndnaohggmhaa
