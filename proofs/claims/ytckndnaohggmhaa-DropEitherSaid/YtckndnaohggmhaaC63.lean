/- Texts of the package drop, joined: EitherTold. -/
import Derived.Test.YtckndnaohggmhaaC62
/- DropEither: given ways and sides against each other; what is sure is so in each truth: plain mathematics. -/
namespace Go.Proofs.Ytckndnaohggmhaa

section
variable {Wd : Int} {ss : List (Int × Int)} {ds : List (Int × Int × Int)} {one two : Int} {sure : Bool}

/-- What CheckWay accepts. -/
theorem checkWay_ok {xs : List Int} (h : checkWayAns Wd ss ds xs sure = 0) : 2 ≤ xs.length ∧ (∀ x, x ∈ xs → -2 ≤ x ∧ x < (ss.length : Int)) ∧ wayB (tableOf Wd ss ds sure) xs = true := by
  unfold checkWayAns at h
  split at h
  · split at h
    · split at h
      · split at h
        · split at h
          · rename_i h1 h2 h3 h4 h5
            simp [inside] at h2
            refine ⟨by omega, fun x hx => ?_, h5⟩
            have := List.all_eq_true.1 h3 x hx
            simpa [placeB] using this
          · omega
        · omega
      · omega
    · omega
  · contradiction
theorem steps_given {xs : List Int} (h : checkWayAns Wd ss ds xs sure = 0) (a b : Int) (ha : xs.getD 0 0 = a) (hb : xs.getD (xs.length - 1) 0 = b) : StepsOf (tableOf Wd ss ds sure) (b + 2).toNat (xs.map fun x => (x + 2).toNat) (a + 2).toNat := by
  obtain ⟨h2, h3, h4⟩ := checkWay_ok h
  have hg : ∀ k, k < xs.length → (xs.map fun x => (x + 2).toNat).getD k 0 = (xs.getD k 0 + 2).toNat := fun k hk => by simp [List.getElem?_eq_getElem hk]
  refine ⟨by simp; omega, ?_, ?_, fun k hk => ?_⟩
  · rw [hg 0 (by omega), ha]
  · rw [List.length_map, hg _ (by omega), hb]
  · rw [List.length_map] at hk
    rw [hg k (by omega), hg (k + 1) hk]
    unfold wayB at h4
    exact List.all_eq_true.1 h4 k (List.mem_range.2 (by omega))

/-- A given way from the one to the other, or back: Way finds one that is no longer. -/
theorem through_outs (he : forErr Wd ss ds one two = 0) {xs : List Int} (h : checkWayAns Wd ss ds xs sure = 0) (ht : (xs.getD 0 0 = one ∧ xs.getD (xs.length - 1) 0 = two) ∨ (xs.getD 0 0 = two ∧ xs.getD (xs.length - 1) 0 = one)) :
    outs (tableOf Wd ss ds sure) (ss.length + 2) (two + 2).toNat (ss.length + 1) (one + 2).toNat ≠ 0 ∧ outs (tableOf Wd ss ds sure) (ss.length + 2) (two + 2).toNat (ss.length + 1) (one + 2).toNat ≤ xs.length := by
  obtain ⟨h0, hne, h2, h3⟩ := forErr_ok he
  have key : ∀ l, PathFrom (tableOf Wd ss ds sure) (two + 2).toNat l (one + 2).toNat → l.length = xs.length → _ := fun l hl hlen => by
    have := path_outs (n := ss.length + 2) (by omega) tableOf_lt hl
    rw [hlen] at this
    exact this
  rcases ht with ⟨h4, h5⟩ | ⟨h4, h5⟩
  · exact key _ (StepsOf.path (tab_12 h0) _ _ (steps_given h one two h4 h5)) (by simp)
  · have := (StepsOf.path (tab_12 h0) _ _ (steps_given h two one h4 h5)).back tableOf_sym
    exact key _ this.toFrom (by simp)

/-- No side where there is a way. -/
theorem side_none (he : forErr Wd ss ds one two = 0) (hg : goesB (tableOf Wd ss ds sure) (one + 2).toNat (two + 2).toNat = true) (side : List Int) : checkSideAns Wd ss ds one two side sure ≠ 0 := by
  obtain ⟨h0, hne, h2, h3⟩ := forErr_ok he
  have hm := (bath_ok h0).2.1.1
  unfold checkSideAns
  rw [if_pos he]
  split
  · split
    · rename_i h4
      have := leads_way h4.2.2 (by omega) h4.1 (goesB_iff.1 hg)
      rw [h4.2.1] at this
      cases this
    · omega
  · omega
/-- What there is a way to is a side, where there is no way. -/
theorem side_some (he : forErr Wd ss ds one two = 0) (hg : goesB (tableOf Wd ss ds sure) (one + 2).toNat (two + 2).toNat = false) : checkSideAns Wd ss ds one two (listTo (goesB (tableOf Wd ss ds sure) (one + 2).toNat) 12) sure = 0 := by
  obtain ⟨h0, hne, h2, h3⟩ := forErr_ok he
  have hm := (bath_ok h0).2.1.1
  have hM : ∀ i, i < 12 → marksOf (listTo (goesB (tableOf Wd ss ds sure) (one + 2).toNat) 12) i = goesB (tableOf Wd ss ds sure) (one + 2).toNat i := fun i hi => by
    unfold marksOf
    cases hb : goesB (tableOf Wd ss ds sure) (one + 2).toNat i with
    | true => exact decide_eq_true (mem_listTo2.2 ⟨i, hi, hb, rfl⟩)
    | false =>
      refine decide_eq_false fun hh => ?_
      obtain ⟨j, _, hj, e⟩ := mem_listTo2.1 hh
      obtain rfl : i = j := by omega
      rw [hb] at hj
      cases hj
  unfold checkSideAns
  rw [if_pos he, if_pos, if_pos]
  · refine ⟨?_, ?_, ?_⟩
    · rw [hM _ (by omega)]; exact goesB_iff.2 .here
    · rw [hM _ (by omega)]; exact hg
    · rw [leads_congr hM]; exact leads_goes (by omega)
  · refine ⟨decide_eq_true (listTo_sorted2 _ 12), ?_⟩
    rw [List.all_eq_true]
    intro x hx
    obtain ⟨i, hi, hb, rfl⟩ := mem_listTo2.1 hx
    have : i < ss.length + 2 := by
      cases goesB_iff.1 hb with
      | here => omega
      | more _ _ hH => exact (tableOf_lt _ _ hH).2.1
    simp [placeB]
    omega

/-- What is sure is so in each truth. -/
theorem sure_truth {ts : List Int} (h0 : bathErr Wd ss ds = 0) (hb : Between ds ts) {i j : Nat} (h : tableOf Wd ss ds true i j = true) : meetB Wd ss (fun k => sumAt ds ts k ds.length) ((i : Int) - 2) ((j : Int) - 2) = true := by
  refine meet_low h0 hb _ _ ?_
  rw [tableOf_eq] at h
  simp only [holdB, Bool.and_eq_true, Bool.or_eq_true, decide_eq_true_eq, Bool.not_true, Bool.false_eq_true, and_false, or_false] at h
  have hk := h.2.2
  rw [kindOf_ends] at hk
  cases hm : meetB Wd ss (fun k => sumAt ds (ds.map (endOf false)) k ds.length) ((i : Int) - 2) ((j : Int) - 2) with
  | true => rfl
  | false =>
    rw [hm] at hk
    simp at hk
    split at hk <;> omega
end
end Go.Proofs.Ytckndnaohggmhaa
