/- Texts of one package, joined: CountTwo. -/
import Derived.Test.YtchmdkdiilaejaaC30
import Derived.Test.YtchmdkdiilaejaaC39
/- More than one list of best rows just if some row is in some of them alone. -/
namespace Go.Proofs.Ytchmdkdiilaejaa
open Go.RowKit Go.Shelf

theorem two_ways {α : Type} [DecidableEq α] (no : α → Nat) (A : Nat) : ∀ (xs : List α) (n h : Nat), xs.Nodup → (2 ≤ cw A (ones (xs.map no)) n h ↔ ∃ x, (∃ l : List α, l.Sublist xs ∧ l.length = n ∧ h ||| orL (l.map no) = A ∧ x ∈ l) ∧ ∃ l : List α, l.Sublist xs ∧ l.length = n ∧ h ||| orL (l.map no) = A ∧ ¬ x ∈ l)
  | [], n, h, _ => by
    constructor
    · intro hp
      exfalso
      have : cw A (ones (([] : List α).map no)) n h ≤ 1 := by
        show (if n = 0 ∧ h = A then 1 else 0) ≤ 1
        split <;> omega
      omega
    · rintro ⟨x, ⟨l, h1, _, _, h4⟩, _⟩
      have := List.eq_nil_of_sublist_nil h1
      subst this
      simp at h4
  | y :: xs, n, h, hn => by
    rw [List.nodup_cons] at hn
    have pos : ∀ n h, 0 < cw A (ones (xs.map no)) n h ↔ ∃ l : List α, l.Sublist xs ∧ l.length = n ∧ h ||| orL (l.map no) = A := fun n h => by
      rw [cw_pos]
      constructor
      · rintro ⟨q, q1, q2, q3⟩
        obtain ⟨r, hr, rfl⟩ := List.sublist_map_iff.1 q1
        exact ⟨r, hr, by simpa using q2, q3⟩
      · rintro ⟨r, r1, r2, r3⟩
        exact ⟨r.map no, r1.map _, by simpa using r2, r3⟩
    have orc : ∀ l : List α, h ||| orL ((y :: l).map no) = h ||| no y ||| orL (l.map no) := fun l => by
      show h ||| (no y ||| orL (l.map no)) = _
      rw [Nat.or_assoc]
    rw [List.map_cons, ones_cons]
    cases n with
    | zero =>
      rw [cw, two_ways no A xs 0 h hn.2]
      constructor
      · rintro ⟨x, ⟨l, _, l2, _, l4⟩, _⟩
        rw [List.eq_nil_of_length_eq_zero l2] at l4
        simp at l4
      · rintro ⟨x, ⟨l, _, l2, _, l4⟩, _⟩
        rw [List.eq_nil_of_length_eq_zero l2] at l4
        simp at l4
    | succ n =>
      rw [cw]
      dsimp only
      rw [Nat.one_mul]
      have ih1 := two_ways no A xs (n + 1) h hn.2
      have ih2 := two_ways no A xs n (h ||| no y) hn.2
      have p1 := pos (n + 1) h
      have p2 := pos n (h ||| no y)
      constructor
      · intro hp
        by_cases c1 : 0 < cw A (ones (xs.map no)) (n + 1) h
        · by_cases c2 : 0 < cw A (ones (xs.map no)) n (h ||| no y)
          · obtain ⟨l1, a1, a2, a3⟩ := p1.1 c1
            obtain ⟨l2, b1, b2, b3⟩ := p2.1 c2
            exact ⟨y, ⟨y :: l2, b1.cons_cons y, by simp [b2], by rw [orc]; exact b3, by simp⟩, l1, a1.trans (List.sublist_cons_self _ _), a2, a3, fun hm => hn.1 (a1.subset hm)⟩
          · obtain ⟨x, ⟨l1, a1, a2, a3, a4⟩, l2, b1, b2, b3, b4⟩ := ih1.1 (by omega)
            exact ⟨x, ⟨l1, a1.trans (List.sublist_cons_self _ _), a2, a3, a4⟩, l2, b1.trans (List.sublist_cons_self _ _), b2, b3, b4⟩
        · obtain ⟨x, ⟨l1, a1, a2, a3, a4⟩, l2, b1, b2, b3, b4⟩ := ih2.1 (by omega)
          refine ⟨x, ⟨y :: l1, a1.cons_cons y, by simp [a2], by rw [orc]; exact a3, by simp [a4]⟩, y :: l2, b1.cons_cons y, by simp [b2], by rw [orc]; exact b3, fun hm => ?_⟩
          rcases List.mem_cons.1 hm with e | hm
          · exact hn.1 (e ▸ a1.subset a4)
          · exact b4 hm
      · rintro ⟨x, ⟨l1, a1, a2, a3, a4⟩, l2, b1, b2, b3, b4⟩
        cases a1 with
        | cons _ a1 =>
          have c1 := p1.2 ⟨l1, a1, a2, a3⟩
          cases b1 with
          | cons _ b1 =>
            have := ih1.2 ⟨x, ⟨l1, a1, a2, a3, a4⟩, l2, b1, b2, b3, b4⟩
            omega
          | cons_cons _ b1 =>
            rename_i l2'
            have c2 := p2.2 ⟨l2', b1, by simpa using b2, by rw [← orc]; exact b3⟩
            omega
        | cons_cons _ a1 =>
          rename_i l1'
          have c2 := p2.2 ⟨l1', a1, by simpa using a2, by rw [← orc]; exact a3⟩
          cases b1 with
          | cons _ b1 =>
            have c1 := p1.2 ⟨l2, b1, b2, b3⟩
            omega
          | cons_cons _ b1 =>
            rename_i l2'
            have hxy : x ≠ y := fun e => b4 (by simp [e])
            have := ih2.2 ⟨x, ⟨l1', a1, by simpa using a2, by rw [← orc]; exact a3, (List.mem_cons.1 a4).resolve_left hxy⟩, l2', b1, by simpa using b2, by rw [← orc]; exact b3, fun hm => b4 (by simp [hm])⟩
            omega
/-- More than one list of best rows just if there is a row of the middle kind. -/
theorem may_two {cs ms : List (Int × Int)} (h : wholeErr cs ms = 0) : (∃ x, x ∈ fitsOf cs ms ∧ kindOf cs ms (allNos cs ms) x = 1) ↔ 2 ≤ wayCount cs ms (fitsOf cs ms) 0 (bestLen cs ms) := by
  have h0 := (best_is h).1
  unfold wayCount
  rw [two_ways (noOf cs ms) _ _ _ _ (fits_nodup h0)]
  have sub : ∀ r, BestL cs ms r → ∃ l : List Rw, l.Sublist (fitsOf cs ms) ∧ l.length = bestLen cs ms ∧ 0 ||| orL (l.map (noOf cs ms)) = 2 ^ ms.length - 1 ∧ ∀ x, x ∈ l ↔ x ∈ r := fun r hr => by
    have hnd := bestL_nodup h hr
    obtain ⟨r1, r2, r3⟩ := hr
    have hp := filter_perm (fits_nodup h0) hnd r1
    refine ⟨_, List.filter_sublist, hp.length_eq.trans r3, ?_, fun x => hp.mem_iff⟩
    rw [Nat.zero_or, cov_or]
    intro i hi
    obtain ⟨x, hx, hb⟩ := r2 i hi
    exact ⟨x, hp.mem_iff.2 hx, hb⟩
  constructor
  · rintro ⟨x, hx, hk⟩
    rcases kind_cases h hx with ⟨k, _⟩ | ⟨_, ⟨r1, hr1, hx1⟩, r2, hr2, hx2⟩ | ⟨k, _⟩
    · rw [k] at hk; cases hk
    · obtain ⟨l1, a1, a2, a3, a4⟩ := sub r1 hr1
      obtain ⟨l2, b1, b2, b3, b4⟩ := sub r2 hr2
      exact ⟨x, ⟨l1, a1, a2, a3, (a4 x).2 hx1⟩, l2, b1, b2, b3, fun hm => hx2 ((b4 x).1 hm)⟩
    · rw [k] at hk; cases hk
  · rintro ⟨x, ⟨l1, a1, a2, a3, a4⟩, l2, b1, b2, b3, b4⟩
    rw [Nat.zero_or, cov_or] at a3 b3
    have hx := a1.subset a4
    have g1 : BestL cs ms l1 := ⟨fun z hz => a1.subset hz, a3, a2⟩
    have g2 : BestL cs ms l2 := ⟨fun z hz => b1.subset hz, b3, b2⟩
    refine ⟨x, hx, ?_⟩
    rcases kind_cases h hx with ⟨_, k⟩ | ⟨k, _⟩ | ⟨_, k⟩
    · exact absurd a4 (k l1 g1)
    · exact k
    · exact absurd (k l2 g2) b4
theorem best_bestL {cs ms : List (Int × Int)} (h : wholeErr cs ms = 0) : BestL cs ms (bestRows cs ms) := by
  obtain ⟨h0, r, _, hl, hp, h1, h2, _, _⟩ := best_is h
  refine ⟨fun x hx => h1 x (hp.mem_iff.1 hx), fun i hi => ?_, by rw [hp.length_eq, hl]⟩
  obtain ⟨x, hx, hb⟩ := h2 i hi
  exact ⟨x, hp.mem_iff.2 hx, hb⟩
theorem wayCount_pos {cs ms : List (Int × Int)} (h : wholeErr cs ms = 0) : 1 ≤ wayCount cs ms (fitsOf cs ms) 0 (bestLen cs ms) := by
  obtain ⟨h0, r, ht, hl, _⟩ := best_is h
  have hmin := tab_is cs ms (two_pos ms.length)
  rw [ht] at hmin
  have := (few_way (fits_nodup h0) hmin).1
  rw [hl]
  exact this
/-- What Count answers: more than one, or too many to tell, just if a row is of the middle kind. -/
theorem count_says {cs ms : List (Int × Int)} (h : wholeErr cs ms = 0) {P : List (Nat × Nat)} (hK : Keys (allNos cs ms) P) {a f : Int} (he : countAns cs ms P = (a, f)) :
    (f = 0 ∧ 1 ≤ a ∨ f = 4) ∧ ((∃ x, x ∈ fitsOf cs ms ∧ kindOf cs ms (allNos cs ms) x = 1) ↔ (¬ f = 0 ∨ 1 < a)) := by
  have hw := wayNum_is h hK
  have hp := wayCount_pos h
  rw [may_two h]
  unfold countAns at he
  rw [if_pos h, hw] at he
  generalize wayCount cs ms (fitsOf cs ms) 0 (bestLen cs ms) = wc at he hp
  split at he
  · rename_i hgt
    cases he
    refine ⟨.inr rfl, fun _ => .inl (by decide), fun _ => ?_⟩
    unfold CAP at hgt
    omega
  · rename_i hgt
    cases he
    unfold CAP at hgt ⊢
    refine ⟨.inl ⟨rfl, by omega⟩, ?_⟩
    constructor
    · intro h2; right; omega
    · rintro (h2 | h2)
      · exact absurd rfl h2
      · omega
/-- The kind of a row that fits, as Kind answers. -/
theorem kind_fit {cs ms : List (Int × Int)} (h : wholeErr cs ms = 0) {x : Rw} (hx : x ∈ fitsOf cs ms) : kindAns cs ms (rwInt x) = (kindOf cs ms (allNos cs ms) x, 0) := by
  have h0 := (best_is h).1
  obtain ⟨m1, m2, m3, m4⟩ := fits_mem h0 hx
  have hf : fitFor cs ms (rwInt x) = some x := by
    have := fitFor_eq h0 m1 x.2
    rw [m3, if_neg m4] at this
    exact this
  have hst : strange cs.length (rwInt x) = false := by
    rw [strange_iff]
    unfold rwInt
    dsimp only
    omega
  have hl : (lostOf cs ms).length = 0 := by
    unfold wholeErr at h
    rw [if_pos h0] at h
    by_cases e : (lostOf cs ms).length = 0
    · exact e
    · rw [if_neg e] at h; cases h
  unfold kindAns
  rw [if_pos h0, hst, if_neg (by decide), if_pos hl, hf]
  rfl
end Go.Proofs.Ytchmdkdiilaejaa
