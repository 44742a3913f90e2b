/- Texts of the package drop, joined: JoinPure. -/
import Derived.Test.YtckndnaohggmhaaC62
import Derived.Test.YtckndnaohggmhaaC66
/- DropJoined: groups of an equivalence, as lists: plain mathematics. -/
namespace Go.Proofs.Ytckndnaohggmhaa

structure Eqv (W : Nat → Nat → Bool) (T : Nat → Bool) (m : Nat) : Prop where
  m12 : m ≤ 12
  refl : ∀ x, x < m → W x x = true
  symm : ∀ x y, x < m → W x y = true → W y x = true
  trans : ∀ x y z, x < m → W x y = true → W y z = true → W x z = true
  lt : ∀ x y, x < m → W x y = true → y < m
  there : ∀ x y, x < m → W x y = true → T x = true → T y = true
def repB (W : Nat → Nat → Bool) (T : Nat → Bool) (x : Nat) : Bool := T x && (List.range x).all fun i => !W x i
def gsTo (W : Nat → Nat → Bool) (T : Nat → Bool) (K : Nat) : List (List Int) := (List.range K).filterMap fun x => if repB W T x then some (listTo (W x) 12) else none

theorem gsTo_succ (W : Nat → Nat → Bool) (T : Nat → Bool) (K : Nat) : gsTo W T (K + 1) = gsTo W T K ++ if repB W T K then [listTo (W K) 12] else [] := by
  unfold gsTo
  rw [List.range_succ, List.filterMap_append]
  congr 1
  cases h : repB W T K <;> simp [h]
theorem mem_gsTo {W : Nat → Nat → Bool} {T : Nat → Bool} {K : Nat} {xs : List Int} : xs ∈ gsTo W T K ↔ ∃ x, x < K ∧ repB W T x = true ∧ xs = listTo (W x) 12 := by
  unfold gsTo
  rw [List.mem_filterMap]
  constructor
  · rintro ⟨x, hx, h⟩
    cases hr : repB W T x with
    | false => rw [hr] at h; simp at h
    | true => rw [hr] at h; simp at h; exact ⟨x, List.mem_range.1 hx, hr, h.symm⟩
  · rintro ⟨x, hx, hr, rfl⟩
    exact ⟨x, List.mem_range.2 hx, by simp [hr]⟩

/-- The first place of a list of marks. -/
theorem listTo_head {M : Nat → Bool} {x : Nat} (hx : M x = true) (hn : ∀ i, i < x → M i = false) : ∀ K, x < K → ∃ l, listTo M K = ((x : Int) - 2) :: l
  | 0, h => by omega
  | K + 1, h => by
    rw [listTo_succ]
    by_cases e : x = K
    · subst e
      have : listTo M x = [] := by
        refine List.eq_nil_iff_forall_not_mem.2 fun a ha => ?_
        obtain ⟨i, hi, hM, _⟩ := mem_listTo2.1 ha
        rw [hn i hi] at hM
        cases hM
      rw [this, hx]
      exact ⟨[], rfl⟩
    · obtain ⟨l, hl⟩ := listTo_head hx hn K (by omega)
      rw [hl]
      exact ⟨_, rfl⟩
theorem listTo_count (M : Nat → Bool) (K k : Nat) (hk : k < K) : (listTo M K).count ((k : Int) - 2) = if M k then 1 else 0 := by
  have key : ∀ l : List Int, l.Pairwise (· < ·) → l.count ((k : Int) - 2) ≤ 1 := fun l => by
    induction l with
    | nil => intro _; simp
    | cons a l ih =>
      intro hp
      rw [List.pairwise_cons] at hp
      rw [List.count_cons]
      by_cases e : a = (k : Int) - 2
      · have : l.count ((k : Int) - 2) = 0 := List.count_eq_zero_of_not_mem fun hm => by have := hp.1 _ hm; omega
        rw [this]
        split <;> omega
      · have := ih hp.2
        rw [if_neg (by simpa using e)]
        omega
  cases h : M k with
  | true =>
    have h1 := key _ (listTo_sorted2 M K)
    have h2 := List.count_pos_iff.2 (mem_listTo2.2 ⟨k, hk, h, rfl⟩)
    rw [if_pos rfl]
    omega
  | false =>
    refine List.count_eq_zero_of_not_mem fun hm => ?_
    obtain ⟨i, _, hM, e⟩ := mem_listTo2.1 hm
    obtain rfl : k = i := by omega
    rw [h] at hM
    cases hM

section
variable {W : Nat → Nat → Bool} {T : Nat → Bool} {m : Nat}
theorem rep_lead {x : Nat} (h : repB W T x = true) : T x = true ∧ ∀ i, i < x → W x i = false := by
  unfold repB at h
  rw [Bool.and_eq_true, List.all_eq_true] at h
  exact ⟨h.1, fun i hi => by have := h.2 i (List.mem_range.2 hi); simpa using this⟩

/-- The first place of a place's group. -/
def leadOf (W : Nat → Nat → Bool) (k : Nat) : Nat := (List.range 12).findIdx (W k)
theorem lead_is (e : Eqv W T m) {k : Nat} (hk : k < m) : leadOf W k < m ∧ W k (leadOf W k) = true ∧ ∀ i, i < leadOf W k → W k i = false := by
  have hlt : leadOf W k < (List.range 12).length := by
    unfold leadOf
    rw [List.findIdx_lt_length]
    exact ⟨k, by have := e.m12; exact List.mem_range.2 (by omega), e.refl k hk⟩
  have h1 : W k (leadOf W k) = true := by
    have := List.findIdx_getElem (w := hlt)
    have h2 : (List.range 12)[leadOf W k]'hlt = leadOf W k := List.getElem_range _
    exact (congrArg (W k) h2).symm.trans this
  refine ⟨e.lt k _ hk h1, h1, fun i hi => ?_⟩
  have := List.not_of_lt_findIdx (p := W k) (xs := List.range 12) (i := i) hi
  simpa using this
theorem rep_iff (e : Eqv W T m) {k K : Nat} (hk : k < m) (hK : K < m) : (repB W T K = true ∧ W K k = true) ↔ (T k = true ∧ K = leadOf W k) := by
  obtain ⟨h1, h2, h3⟩ := lead_is e hk
  constructor
  · rintro ⟨hr, hW⟩
    obtain ⟨hT, hn⟩ := rep_lead hr
    refine ⟨e.there K k hK hW hT, ?_⟩
    have hs := e.symm K k hK hW
    rcases Nat.lt_trichotomy K (leadOf W k) with hlt | he | hlt
    · rw [h3 K hlt] at hs; cases hs
    · exact he
    · have := e.trans K k _ hK hW h2
      rw [hn _ hlt] at this
      cases this
  · rintro ⟨hT, rfl⟩
    have hs := e.symm k _ hk h2
    refine ⟨?_, hs⟩
    unfold repB
    rw [Bool.and_eq_true, List.all_eq_true]
    refine ⟨e.there k _ hk h2 hT, fun i hi => ?_⟩
    have hi := List.mem_range.1 hi
    cases hW : W (leadOf W k) i with
    | false => rfl
    | true =>
      have := e.trans k _ i hk h2 hW
      rw [h3 i hi] at this
      cases this

/-- Each place that is there is in just one group. -/
theorem many_gs (e : Eqv W T m) {k : Nat} (hk : k < m) : ∀ K, K ≤ m → manyOf (gsTo W T K) ((k : Int) - 2) = if T k = true ∧ leadOf W k < K then 1 else 0
  | 0, _ => by simp [gsTo, manyOf]
  | K + 1, hK => by
    have ih := many_gs e hk K (by omega)
    have hr := rep_iff e hk (show K < m by omega)
    have hc := listTo_count (W K) 12 k (by have := e.m12; omega)
    rw [gsTo_succ]
    cases h : repB W T K with
    | false =>
      simp only [Bool.false_eq_true, if_false, List.append_nil]
      rw [ih]
      by_cases hT : T k = true
      · have : ¬ K = leadOf W k := fun he => by have := (hr.2 ⟨hT, he⟩).1; rw [h] at this; cases this
        by_cases hl : leadOf W k < K
        · rw [if_pos ⟨hT, hl⟩, if_pos ⟨hT, by omega⟩]
        · rw [if_neg (fun q => hl q.2), if_neg (fun q => by have := q.2; omega)]
      · rw [if_neg (fun q => hT q.1), if_neg (fun q => hT q.1)]
    | true =>
      simp only [if_true]
      rw [manyOf_snoc, ih, hc]
      cases hW : W K k with
      | true =>
        obtain ⟨hT, he⟩ := hr.1 ⟨h, hW⟩
        rw [if_neg (fun q => by have := q.2; omega), if_pos rfl, if_pos ⟨hT, by omega⟩]
      | false =>
        simp only [Bool.false_eq_true, if_false, Nat.add_zero]
        by_cases hT : T k = true
        · have : ¬ K = leadOf W k := fun he => by have := (hr.2 ⟨hT, he⟩).2; rw [hW] at this; cases this
          by_cases hl : leadOf W k < K
          · rw [if_pos ⟨hT, hl⟩, if_pos ⟨hT, by omega⟩]
          · rw [if_neg (fun q => hl q.2), if_neg (fun q => by have := q.2; omega)]
        · rw [if_neg (fun q => hT q.1), if_neg (fun q => hT q.1)]
theorem many_all (e : Eqv W T m) {k : Nat} (hk : k < m) : manyOf (gsTo W T m) ((k : Int) - 2) = if T k = true then 1 else 0 := by
  rw [many_gs e hk m (Nat.le_refl _)]
  have := (lead_is e hk).1
  by_cases hT : T k = true
  · rw [if_pos ⟨hT, this⟩, if_pos hT]
  · rw [if_neg (fun q => hT q.1), if_neg hT]

/-- Places with a way between them have the same group, others that are there have not. -/
theorem groupIx_same (e : Eqv W T m) {a b : Nat} (ha : a < m) (hb : b < m) (h : W a b = true) : groupIx (gsTo W T m) ((a : Int) - 2) = groupIx (gsTo W T m) ((b : Int) - 2) := by
  have hba := e.symm a b ha h
  have : ∀ xs, xs ∈ gsTo W T m → (((a : Int) - 2) ∈ xs ↔ ((b : Int) - 2) ∈ xs) := fun xs hx => by
    obtain ⟨x, hxm, _, rfl⟩ := mem_gsTo.1 hx
    have h12 := e.m12
    rw [mem_listTo2, mem_listTo2]
    constructor
    · rintro ⟨i, _, hM, he⟩
      obtain rfl : a = i := by omega
      exact ⟨b, by omega, e.trans x a b hxm hM h, rfl⟩
    · rintro ⟨i, _, hM, he⟩
      obtain rfl : b = i := by omega
      exact ⟨a, by omega, e.trans x b a hxm hM hba, rfl⟩
  have key : ∀ l : List (List Int), (∀ xs, xs ∈ l → (((a : Int) - 2) ∈ xs ↔ ((b : Int) - 2) ∈ xs)) → l.findIdx (fun xs => decide (((a : Int) - 2) ∈ xs)) = l.findIdx (fun xs => decide (((b : Int) - 2) ∈ xs)) := fun l => by
    induction l with
    | nil => intro _; rfl
    | cons x l ih =>
      intro hl
      rw [List.findIdx_cons, List.findIdx_cons, ih (fun xs hx => hl xs (List.mem_cons_of_mem _ hx)), show decide (((a : Int) - 2) ∈ x) = decide (((b : Int) - 2) ∈ x) from by rw [decide_eq_decide]; exact hl x (List.mem_cons_self ..)]
  unfold groupIx
  rw [key _ this]
theorem gs_has (e : Eqv W T m) {a : Nat} (ha : a < m) (hT : T a = true) : ∃ k : Nat, ∃ x, groupIx (gsTo W T m) ((a : Int) - 2) = (k : Int) ∧ (gsTo W T m)[k]? = some (listTo (W x) 12) ∧ x < m ∧ W x a = true := by
  obtain ⟨h1, h2, h3⟩ := lead_is e ha
  have hr := (rep_iff e ha h1).2 ⟨hT, rfl⟩
  have hm : listTo (W (leadOf W a)) 12 ∈ gsTo W T m := mem_gsTo.2 ⟨_, h1, hr.1, rfl⟩
  have hlt : (gsTo W T m).findIdx (fun xs => decide (((a : Int) - 2) ∈ xs)) < (gsTo W T m).length := by
    rw [List.findIdx_lt_length]
    exact ⟨_, hm, decide_eq_true (mem_listTo2.2 ⟨a, by have := e.m12; omega, hr.2, rfl⟩)⟩
  have hg := List.findIdx_getElem (w := hlt)
  have hmem := List.getElem_mem hlt
  obtain ⟨x, hx, _, he⟩ := mem_gsTo.1 hmem
  refine ⟨_, x, by unfold groupIx; rw [if_pos hlt], by rw [List.getElem?_eq_getElem hlt, he], hx, ?_⟩
  rw [he, decide_eq_true_eq, mem_listTo2] at hg
  obtain ⟨i, _, hM, hi⟩ := hg
  obtain rfl : a = i := by omega
  exact hM
theorem groupIx_iff (e : Eqv W T m) {a b : Nat} (ha : a < m) (hb : b < m) (hTa : T a = true) (hTb : T b = true) : groupIx (gsTo W T m) ((a : Int) - 2) = groupIx (gsTo W T m) ((b : Int) - 2) ↔ W a b = true := by
  refine ⟨fun h => ?_, groupIx_same e ha hb⟩
  obtain ⟨k, x, h1, h2, h3, h4⟩ := gs_has e ha hTa
  obtain ⟨k', x', h1', h2', h3', h4'⟩ := gs_has e hb hTb
  obtain rfl : k = k' := by rw [h1, h1'] at h; omega
  rw [h2] at h2'
  have he : listTo (W x) 12 = listTo (W x') 12 := Option.some.inj h2'
  have hm : ((b : Int) - 2) ∈ listTo (W x) 12 := by rw [he]; exact mem_listTo2.2 ⟨b, by have := e.m12; omega, h4', rfl⟩
  obtain ⟨i, _, hM, hi⟩ := mem_listTo2.1 hm
  obtain rfl : b = i := by omega
  exact e.trans a x b ha (e.symm x a h3 h4) hM

/-- The groups: each begins with its least place; these increase. -/
theorem gs_heads (e : Eqv W T m) : (gsTo W T m).Pairwise fun a b => a.getD 0 0 < b.getD 0 0 := by
  have key : ∀ K, K ≤ m → (gsTo W T K).Pairwise (fun a b => a.getD 0 0 < b.getD 0 0) := fun K => by
    induction K with
    | zero => intro _; simp [gsTo]
    | succ K ih =>
      intro hK
      rw [gsTo_succ, List.pairwise_append]
      refine ⟨ih (by omega), by split <;> simp, fun a ha b hb => ?_⟩
      obtain ⟨x, hx, hr, rfl⟩ := mem_gsTo.1 ha
      have h12 := e.m12
      obtain ⟨l, hl⟩ := listTo_head (e.refl x (by omega)) (rep_lead hr).2 12 (by omega)
      cases h : repB W T K with
      | false => rw [h] at hb; simp at hb
      | true =>
        rw [h] at hb
        simp at hb
        subst hb
        obtain ⟨l', hl'⟩ := listTo_head (e.refl K (by omega)) (rep_lead h).2 12 (by omega)
        rw [hl, hl']
        simp
        omega
  exact key m (Nat.le_refl _)
theorem gs_each (e : Eqv W T m) {i : Nat} {xs : List Int} (h : (gsTo W T m)[i]? = some xs) : ∃ x, x < m ∧ repB W T x = true ∧ xs = listTo (W x) 12 ∧ xs.getD 0 0 = (x : Int) - 2 ∧ 1 ≤ xs.length ∧ xs.length ≤ 12 := by
  obtain ⟨x, hx, hr, rfl⟩ := mem_gsTo.1 (List.mem_of_getElem? h)
  have h12 := e.m12
  obtain ⟨l, hl⟩ := listTo_head (e.refl x hx) (rep_lead hr).2 12 (by omega)
  refine ⟨x, hx, hr, rfl, by rw [hl]; rfl, by rw [hl]; simp, ?_⟩
  unfold listTo
  exact Nat.le_trans (List.length_filterMap_le _ _) (by simp)
theorem gs_len (e : Eqv W T m) : (gsTo W T m).length ≤ 12 := by
  have := List.length_filterMap_le (fun x => if repB W T x then some (listTo (W x) 12) else none) (List.range m)
  have h2 := e.m12
  unfold gsTo
  simp at this
  omega
end
end Go.Proofs.Ytckndnaohggmhaa
