/- Texts of the package drop, joined: MorePure. -/
import Derived.Test.YtckndnaohggmhaaC36
import Derived.Test.YtckndnaohggmhaaC55
/- DropMore: what one drop more, and a narrower spread, make of sizes, kinds and firsts: plain mathematics. -/
namespace Go.Proofs.Ytckndnaohggmhaa

theorem sizes_push (ds : List (Int × Int × Int)) (d : Int × Int × Int) (i : Nat) : sizes (ds ++ [d]) i = addTo i (sizes ds i) d := by
  unfold sizes
  rw [List.foldl_append]
  rfl

section
variable {Wd : Int} {ss : List (Int × Int)} {ds : List (Int × Int × Int)}

theorem kindOf_up (sz sz' : Nat → Int × Int) (h0 : ∀ i, 0 ≤ (sz i).1 ∧ 0 ≤ (sz i).2) (hle : ∀ i, (sz i).1 ≤ (sz' i).1 ∧ (sz i).2 ≤ (sz' i).2) (one two : Int) : kindOf Wd ss sz one two ≤ kindOf Wd ss sz' one two := by
  have h1 := meetB_mono Wd ss (fun i => (sz i).1) (fun i => (sz' i).1) (fun i => (h0 i).1) (fun i => (hle i).1) one two
  have h2 := meetB_mono Wd ss (fun i => (sz i).2) (fun i => (sz' i).2) (fun i => (h0 i).2) (fun i => (hle i).2) one two
  unfold kindOf
  cases ha : meetB Wd ss (fun i => (sz i).1) one two with
  | true => rw [h1 ha]; simp
  | false =>
    cases hb : meetB Wd ss (fun i => (sz i).2) one two with
    | true => rw [h2 hb]; simp; split <;> omega
    | false => simp; split <;> (try split) <;> omega

theorem sizes_up (hd : ∀ d ∈ ds, 1 ≤ d.2.1 ∧ d.2.1 ≤ d.2.2 ∧ d.2.2 ≤ 10000) (j k : Nat) (hjk : j ≤ k) (i : Nat) : (sizes (ds.take j) i).1 ≤ (sizes (ds.take k) i).1 ∧ (sizes (ds.take j) i).2 ≤ (sizes (ds.take k) i).2 := by
  induction k with
  | zero => obtain rfl : j = 0 := by omega
            exact ⟨Int.le_refl _, Int.le_refl _⟩
  | succ k ih =>
    by_cases e : j = k + 1
    · subst e; exact ⟨Int.le_refl _, Int.le_refl _⟩
    · have := ih (by omega)
      by_cases hk : k < ds.length
      · rw [sizes_snoc _ _ hk]
        have hb := hd _ (List.getElem_mem hk)
        unfold addTo
        split
        · simp; omega
        · exact this
      · rw [List.take_of_length_le (by omega : ds.length ≤ k + 1)]
        rw [List.take_of_length_le (by omega : ds.length ≤ k)] at this
        exact this

theorem sizes_lo (h0 : bathErr Wd ss ds = 0) (k i : Nat) : 0 ≤ (sizes (ds.take k) i).1 ∧ 0 ≤ (sizes (ds.take k) i).2 :=
  ⟨(sizes_bd' h0 k i).1.1, (sizes_bd' h0 k i).2.1⟩

theorem kindK_up (h0 : bathErr Wd ss ds = 0) (one two : Int) {j k : Nat} (hjk : j ≤ k) : kindK Wd ss ds one two j ≤ kindK Wd ss ds one two k :=
  kindOf_up _ _ (sizes_lo h0 j) (sizes_up (by have := drops_bd h0 ds.length; rwa [List.take_length] at this) j k hjk) one two
theorem kindK_all (one two : Int) {k : Nat} (h : ds.length ≤ k) : kindK Wd ss ds one two k = kindOf Wd ss (sizes ds) one two := by
  unfold kindK
  rw [List.take_of_length_le h]
theorem kindK_push (d : Int × Int × Int) (one two : Int) {k : Nat} (h : k ≤ ds.length) : kindK Wd ss (ds ++ [d]) one two k = kindK Wd ss ds one two k := by
  unfold kindK
  rw [List.take_append_of_le_length h]

theorem leastTo_has (p : Nat → Bool) (len : Nat) : ∃ L, leastTo p len L := by
  induction len with
  | zero =>
    cases h : p 0 with
    | true => exact ⟨0, .inr ⟨Nat.le_refl _, h⟩, fun m hm _ => by omega⟩
    | false => exact ⟨1, .inl rfl, fun m hm h1 => by obtain rfl : m = 0 := by omega
                                                     exact h⟩
  | succ len ih =>
    obtain ⟨L, h1, h2⟩ := ih
    rcases h1 with rfl | ⟨h1, h3⟩
    · cases h : p (len + 1) with
      | true => exact ⟨len + 1, .inr ⟨Nat.le_refl _, h⟩, fun m hm _ => h2 m hm (by omega)⟩
      | false => exact ⟨len + 2, .inl rfl, fun m hm h1 => by
          by_cases e : m = len + 1
          · subst e; exact h
          · exact h2 m (by omega) (by omega)⟩
    · exact ⟨L, .inr ⟨by omega, h3⟩, fun m hm _ => h2 m hm (by omega)⟩
theorem leastTo_more {p p' : Nat → Bool} {len len' L L' : Nat} (h : leastTo p len L) (h' : leastTo p' len' L') (hl : len ≤ len') (he : ∀ m, m ≤ len → p' m = p m) (hL : L ≤ len) : L' = L := by
  have hp : p L = true := by
    rcases h.1 with e | e
    · omega
    · exact e.2
  have hp' : p' L = true := by rw [he L hL, hp]
  rcases Nat.lt_trichotomy L L' with hlt | e | hlt
  · have := h'.2 L hlt (by omega)
    rw [hp'] at this
    cases this
  · exact e.symm
  · have h3 := h.2 L' hlt (by omega)
    rcases h'.1 with e | e
    · omega
    · rw [he L' (by omega), h3] at e
      cases e.2

/-- What First answers where the kind is not DropNever. -/
theorem first_some {one two : Int} (he : forErr Wd ss ds one two = 0) (hk : kindOf Wd ss (sizes ds) one two ≠ 0) :
    ∃ lo hi : Nat, firstAns Wd ss ds one two = (((lo : Int), (hi : Int)), 0) ∧ firstR Wd ss ds one two lo hi ∧ 1 ≤ lo ∧ lo ≤ hi ∧ lo ≤ ds.length ∧ hi ≤ ds.length + 1 ∧ (kindOf Wd ss (sizes ds) one two = 2 ↔ hi ≤ ds.length) := by
  obtain ⟨lo, h1⟩ := leastTo_has (fun k => decide (1 ≤ kindK Wd ss ds one two k)) ds.length
  obtain ⟨hi, h2⟩ := leastTo_has (fun k => decide (kindK Wd ss ds one two k = 2)) ds.length
  have hR : firstR Wd ss ds one two lo hi := ⟨h1, h2⟩
  have hz := kindK_zero he
  have hall := kindK_all (Wd := Wd) (ss := ss) (ds := ds) one two (Nat.le_refl _)
  have hb := kindOf_bd Wd ss (sizes ds) one two
  have hlo : lo ≤ ds.length := by
    rcases h1.1 with e | e
    · have := h1.2 ds.length (by omega) (Nat.le_refl _)
      rw [decide_eq_false_iff_not, hall] at this
      omega
    · exact e.1
  have hlo1 : 1 ≤ lo := by
    rcases h1.1 with e | e
    · omega
    · by_cases e0 : lo = 0
      · subst e0; have := e.2; rw [decide_eq_true_eq, hz] at this; omega
      · omega
  have hhi : hi ≤ ds.length + 1 := by rcases h2.1 with e | e <;> omega
  refine ⟨lo, hi, firstAns_of he hk hR, hR, hlo1, ?_, hlo, hhi, ?_⟩
  · rcases h2.1 with e | e
    · omega
    · by_cases hlt : hi < lo
      · have := h1.2 hi hlt e.1
        have h3 := e.2
        rw [decide_eq_false_iff_not] at this
        rw [decide_eq_true_eq] at h3
        omega
      · omega
  · constructor
    · intro h
      by_cases hlt : hi ≤ ds.length
      · exact hlt
      · have := h2.2 ds.length (by omega) (Nat.le_refl _)
        rw [decide_eq_false_iff_not, hall] at this
        exact absurd h this
    · intro h
      rcases h2.1 with e | e
      · omega
      · have h3 := e.2
        rw [decide_eq_true_eq] at h3
        have h4 := kindK_up (h0 := (forErr_ok he).1) one two e.1
        rw [hall, h3] at h4
        omega
theorem first_none {one two : Int} (he : forErr Wd ss ds one two = 0) (hk : kindOf Wd ss (sizes ds) one two = 0) : firstAns Wd ss ds one two = ((0, 0), 17) := by
  unfold firstAns
  rw [if_pos he, if_pos hk]

/-- One drop more: the kind, and First. -/
theorem more_kind {d : Int × Int × Int} (h1 : bathErr Wd ss (ds ++ [d]) = 0) (one two : Int) : kindOf Wd ss (sizes ds) one two ≤ kindOf Wd ss (sizes (ds ++ [d])) one two := by
  have := kindK_up (h0 := h1) one two (j := ds.length) (k := ds.length + 1) (by omega)
  rw [kindK_push d one two (Nat.le_refl _), kindK_all one two (Nat.le_refl _), kindK_all one two (by simp)] at this
  exact this
theorem forErr_push {d : Int × Int × Int} {one two : Int} (h1 : bathErr Wd ss (ds ++ [d]) = 0) (he : forErr Wd ss ds one two = 0) : forErr Wd ss (ds ++ [d]) one two = 0 := by
  obtain ⟨_, h2, h3, h4⟩ := forErr_ok he
  unfold forErr
  rw [if_pos h1, if_pos ⟨h2, by simp; omega, by simp; omega⟩]
theorem more_first {d : Int × Int × Int} {one two : Int} {lo hi : Nat} (he : forErr Wd ss ds one two = 0) (h1 : bathErr Wd ss (ds ++ [d]) = 0) (hk : kindOf Wd ss (sizes ds) one two ≠ 0) (hR : firstR Wd ss ds one two lo hi) (hlo : lo ≤ ds.length) :
    ∃ hi' : Nat, firstAns Wd ss (ds ++ [d]) one two = (((lo : Int), (hi' : Int)), 0) ∧ (hi ≤ ds.length → hi' = hi) := by
  have hk' : kindOf Wd ss (sizes (ds ++ [d])) one two ≠ 0 := by
    have := more_kind h1 one two
    have := kindOf_bd Wd ss (sizes ds) one two
    omega
  obtain ⟨lo', hi', e, hR', _⟩ := first_some (forErr_push h1 he) hk'
  have e1 : lo' = lo := leastTo_more hR.1 hR'.1 (by simp) (fun m hm => by simp only [kindK_push d one two hm]) hlo
  subst e1
  exact ⟨hi', e, fun h => leastTo_more hR.2 hR'.2 (by simp) (fun m hm => by simp only [kindK_push d one two hm]) h⟩

/-- A narrower spread. -/
theorem foldl_narrow (i : Nat) : ∀ (ds es : List (Int × Int × Int)) (p q : Int × Int), ds.length = es.length → (∀ j, j < ds.length → (ds.getD j (0, 0, 0)).1 = (es.getD j (0, 0, 0)).1 ∧ (ds.getD j (0, 0, 0)).2.1 ≤ (es.getD j (0, 0, 0)).2.1 ∧ (es.getD j (0, 0, 0)).2.2 ≤ (ds.getD j (0, 0, 0)).2.2) → p.1 ≤ q.1 → q.2 ≤ p.2 →
    (ds.foldl (addTo i) p).1 ≤ (es.foldl (addTo i) q).1 ∧ (es.foldl (addTo i) q).2 ≤ (ds.foldl (addTo i) p).2
  | [], [], p, q, _, _, h1, h2 => ⟨h1, h2⟩
  | [], _ :: _, _, _, h, _, _, _ => by simp at h
  | _ :: _, [], _, _, h, _, _, _ => by simp at h
  | d :: ds, e :: es, p, q, h, hj, h1, h2 => by
    have h0 := hj 0 (by simp)
    simp only [List.getD_cons_zero] at h0
    refine foldl_narrow i ds es (addTo i p d) (addTo i q e) (by simpa using h) (fun j hjl => by have := hj (j + 1) (by simp; omega); simpa using this) ?_ ?_
    · unfold addTo
      rw [h0.1]
      split
      · show p.1 + d.2.1 ≤ q.1 + e.2.1
        omega
      · exact h1
    · unfold addTo
      rw [h0.1]
      split
      · show q.2 + e.2.2 ≤ p.2 + d.2.2
        omega
      · exact h2
theorem set_getD {α : Type} (l : List α) (k : Nat) (x d : α) (hk : k < l.length) (j : Nat) : (l.set k x).getD j d = if j = k then x else l.getD j d := by
  simp only [List.getD_eq_getElem?_getD, List.getElem?_set]
  by_cases e : k = j
  · subst e; simp [hk]
  · rw [if_neg e, if_neg (fun h => e h.symm)]

theorem narrow_ok (h0 : bathErr Wd ss ds = 0) {k : Nat} (hk : k < ds.length) {lo hi : Int} (h1 : (ds.getD k (0, 0, 0)).2.1 ≤ lo) (h2 : lo ≤ hi) (h3 : hi ≤ (ds.getD k (0, 0, 0)).2.2) : bathErr Wd ss (ds.set k ((ds.getD k (0, 0, 0)).1, lo, hi)) = 0 := by
  obtain ⟨a, b, c, d, e⟩ := bath_ok h0
  have hd := drop_ok h0 (i := k) (s := ds.getD k (0, 0, 0)) (by simp [hk])
  obtain ⟨q, hq⟩ : ∃ q, ds.getD k (0, 0, 0) = q := ⟨_, rfl⟩
  rw [hq] at h1 h3 hd ⊢
  rw [bathErr_more a, if_pos ⟨b.1, by simp; omega⟩, if_pos c, if_pos d, if_pos]
  rw [List.all_eq_true] at e ⊢
  intro x hx
  rcases List.mem_or_eq_of_mem_set hx with h | h
  · exact e x h
  · subst h
    simp [dropOk, inside]
    omega
theorem narrow_kind (h0 : bathErr Wd ss ds = 0) {k : Nat} (hk : k < ds.length) {lo hi : Int} (h1 : (ds.getD k (0, 0, 0)).2.1 ≤ lo) (h2 : lo ≤ hi) (h3 : hi ≤ (ds.getD k (0, 0, 0)).2.2) (one two : Int) :
    kindOf Wd ss (sizes ds) one two = 1 ∨ kindOf Wd ss (sizes (ds.set k ((ds.getD k (0, 0, 0)).1, lo, hi))) one two = kindOf Wd ss (sizes ds) one two := by
  have hs := fun i => foldl_narrow i ds (ds.set k ((ds.getD k (0, 0, 0)).1, lo, hi)) (0, 0) (0, 0) (by simp) (fun j hj => by
    rw [set_getD _ _ _ _ hk]
    by_cases e : j = k
    · subst e; rw [if_pos rfl]; exact ⟨rfl, h1, h3⟩
    · rw [if_neg e]; exact ⟨rfl, Int.le_refl _, Int.le_refl _⟩) (Int.le_refl _) (Int.le_refl _)
  have n0 := narrow_ok h0 hk h1 h2 h3
  have z1 : ∀ i, 0 ≤ (sizes ds i).1 ∧ 0 ≤ (sizes ds i).2 := fun i => by have := sizes_lo h0 ds.length i; rwa [List.take_length] at this
  have z2 : ∀ i, 0 ≤ (sizes (ds.set k ((ds.getD k (0, 0, 0)).1, lo, hi)) i).1 ∧ 0 ≤ (sizes (ds.set k ((ds.getD k (0, 0, 0)).1, lo, hi)) i).2 := fun i => by have := sizes_lo n0 (ds.set k ((ds.getD k (0, 0, 0)).1, lo, hi)).length i; rwa [List.take_length] at this
  have z3 : ∀ i, (sizes (ds.set k ((ds.getD k (0, 0, 0)).1, lo, hi)) i).1 ≤ (sizes (ds.set k ((ds.getD k (0, 0, 0)).1, lo, hi)) i).2 := fun i => (sizes_bd _ (by have := drops_bd n0 (ds.set k ((ds.getD k (0, 0, 0)).1, lo, hi)).length; rwa [List.take_length] at this) i).2.1
  have m1 := meetB_mono Wd ss (fun i => (sizes ds i).1) (fun i => (sizes (ds.set k ((ds.getD k (0, 0, 0)).1, lo, hi)) i).1) (fun i => (z1 i).1) (fun i => (hs i).1) one two
  have m2 := meetB_mono Wd ss (fun i => (sizes (ds.set k ((ds.getD k (0, 0, 0)).1, lo, hi)) i).2) (fun i => (sizes ds i).2) (fun i => (z2 i).2) (fun i => (hs i).2) one two
  have m3 := meetB_mono Wd ss (fun i => (sizes (ds.set k ((ds.getD k (0, 0, 0)).1, lo, hi)) i).1) (fun i => (sizes (ds.set k ((ds.getD k (0, 0, 0)).1, lo, hi)) i).2) (fun i => (z2 i).1) z3 one two
  unfold kindOf
  generalize meetB Wd ss (fun i => (sizes ds i).1) one two = A at *
  generalize meetB Wd ss (fun i => (sizes ds i).2) one two = B at *
  generalize meetB Wd ss (fun i => (sizes (ds.set k ((ds.getD k (0, 0, 0)).1, lo, hi)) i).1) one two = C at *
  generalize meetB Wd ss (fun i => (sizes (ds.set k ((ds.getD k (0, 0, 0)).1, lo, hi)) i).2) one two = D at *
  cases A <;> cases B <;> cases C <;> cases D <;> simp_all
end
end Go.Proofs.Ytckndnaohggmhaa
