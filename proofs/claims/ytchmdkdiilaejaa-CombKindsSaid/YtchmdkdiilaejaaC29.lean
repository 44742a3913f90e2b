/- Texts of one package, joined: Cover, CoverSheet. -/
import Derived.Test.YtchmdkdiilaejaaC26
/- Fewest rows, in plain mathematics: what the table holds. -/
namespace Go.Proofs.Ytchmdkdiilaejaa
open Go.RowKit Go.Shelf

/-- Each of the marks s is had by one of the rows l. -/
def Cov (no : Rw → Nat) (l : List Rw) (s : Nat) : Prop := ∀ i, s.testBit i = true → ∃ x, x ∈ l ∧ (no x).testBit i = true
/-- o is a least list of rows of xs that has the marks s, or there is none. -/
def IsMin (no : Rw → Nat) (xs : List Rw) (s : Nat) (o : Option (List Rw)) : Prop :=
  match o with
  | none => ∀ l : List Rw, (∀ x, x ∈ l → x ∈ xs) → ¬ Cov no l s
  | some r => (∀ x, x ∈ r → x ∈ xs) ∧ Cov no r s ∧ ∀ l : List Rw, (∀ x, x ∈ l → x ∈ xs) → Cov no l s → r.length ≤ l.length
/-- What is held behind the rows that were looked at. -/
def AccOk (no : Rw → Nat) (xs : List Rw) (tab : List (Option (List Rw))) (s : Nat) (seen : List Rw) (acc : Option (List Rw)) : Prop :=
  match acc with
  | none => ∀ x, x ∈ seen → butNot s (no x) ≠ s → tab.getD (butNot s (no x)) none = none
  | some p => (∀ x, x ∈ p → x ∈ xs) ∧ Cov no p s ∧ ∀ x, x ∈ seen → butNot s (no x) ≠ s → ∀ q, tab.getD (butNot s (no x)) none = some q → p.length ≤ q.length + 1

theorem butNot_lt {a b : Nat} (h : butNot a b ≠ a) : butNot a b < a := by
  have := butNot_le a b
  omega
theorem butNot_ne {a b i : Nat} (h1 : a.testBit i = true) (h2 : b.testBit i = true) : butNot a b ≠ a := by
  intro e
  have : (butNot a b).testBit i = a.testBit i := by rw [e]
  rw [butNot_bit, h1, h2] at this
  cases this
theorem cov_snoc {no : Rw → Nat} {q : List Rw} {x : Rw} {s : Nat} (h : Cov no q (butNot s (no x))) : Cov no (q ++ [x]) s := by
  intro i hi
  cases hx : (no x).testBit i with
  | true => exact ⟨x, by simp, hx⟩
  | false =>
    obtain ⟨y, hy, hb⟩ := h i (by rw [butNot_bit, hi, hx]; rfl)
    exact ⟨y, List.mem_append_left _ hy, hb⟩
theorem cov_erase {no : Rw → Nat} {l : List Rw} {x : Rw} {s : Nat} (h : Cov no l s) : Cov no (l.erase x) (butNot s (no x)) := by
  intro i hi
  rw [butNot_bit] at hi
  simp only [Bool.and_eq_true, Bool.not_eq_true'] at hi
  obtain ⟨y, hy, hb⟩ := h i hi.1
  refine ⟨y, (List.mem_erase_of_ne fun e => ?_).2 hy, hb⟩
  rw [e, hi.2] at hb
  cases hb
theorem acc_step {no : Rw → Nat} {xs : List Rw} {tab : List (Option (List Rw))} {s : Nat} (htab : ∀ t, t < s → IsMin no xs t (tab.getD t none)) {seen : List Rw} {acc : Option (List Rw)} (h : AccOk no xs tab s seen acc) {x : Rw} (hx : x ∈ xs) :
    AccOk no xs tab s (seen ++ [x]) (pick acc (expOf tab s acc (butNot s (no x))) x) := by
  by_cases e : butNot s (no x) = s
  · have hsame : pick acc (expOf tab s acc (butNot s (no x))) x = acc := by
      unfold expOf
      rw [if_pos e]
      cases acc with
      | none => rfl
      | some p =>
        unfold pick
        simp
    rw [hsame]
    cases acc with
    | none =>
      intro y hy hne
      rcases List.mem_append.1 hy with hy | hy
      · exact h y hy hne
      · rw [List.mem_singleton.1 hy] at hne
        exact absurd e hne
    | some p =>
      refine ⟨h.1, h.2.1, fun y hy hne => ?_⟩
      rcases List.mem_append.1 hy with hy | hy
      · exact h.2.2 y hy hne
      · rw [List.mem_singleton.1 hy] at hne
        exact absurd e hne
  · have hexp : expOf tab s acc (butNot s (no x)) = tab.getD (butNot s (no x)) none := by unfold expOf; rw [if_neg e]
    have hm := htab _ (butNot_lt e)
    rw [hexp]
    cases hq : tab.getD (butNot s (no x)) none with
    | none =>
      have hsame : pick acc none x = acc := by cases acc <;> rfl
      rw [hsame]
      cases acc with
      | none =>
        intro y hy hne
        rcases List.mem_append.1 hy with hy | hy
        · exact h y hy hne
        · rw [List.mem_singleton.1 hy]; exact hq
      | some p =>
        refine ⟨h.1, h.2.1, fun y hy hne q hqq => ?_⟩
        rcases List.mem_append.1 hy with hy | hy
        · exact h.2.2 y hy hne q hqq
        · rw [List.mem_singleton.1 hy, hq] at hqq; cases hqq
    | some q =>
      rw [hq] at hm
      obtain ⟨m1, m2, m3⟩ := hm
      have new : AccOk no xs tab s (seen ++ [x]) (some (q ++ [x])) ∨ ∃ p, acc = some p ∧ p.length ≤ q.length + 1 := by
        cases acc with
        | none =>
          left
          refine ⟨fun y hy => ?_, cov_snoc m2, fun y hy hne q' hq' => ?_⟩
          · rcases List.mem_append.1 hy with hy | hy
            · exact m1 y hy
            · rw [List.mem_singleton.1 hy]; exact hx
          · rcases List.mem_append.1 hy with hy | hy
            · rw [h y hy hne] at hq'; cases hq'
            · rw [List.mem_singleton.1 hy, hq] at hq'
              cases hq'
              simp
        | some p =>
          by_cases hl : p.length ≤ q.length + 1
          · exact .inr ⟨p, rfl, hl⟩
          · left
            refine ⟨fun y hy => ?_, cov_snoc m2, fun y hy hne q' hq' => ?_⟩
            · rcases List.mem_append.1 hy with hy | hy
              · exact m1 y hy
              · rw [List.mem_singleton.1 hy]; exact hx
            · rcases List.mem_append.1 hy with hy | hy
              · have := h.2.2 y hy hne q' hq'
                simp
                omega
              · rw [List.mem_singleton.1 hy, hq] at hq'
                cases hq'
                simp
      cases acc with
      | none =>
        rcases new with hn | ⟨p, hp, _⟩
        · exact hn
        · cases hp
      | some p =>
        unfold pick
        by_cases hl : p.length ≤ q.length + 1
        · simp only [hl, if_true]
          refine ⟨h.1, h.2.1, fun y hy hne q' hq' => ?_⟩
          rcases List.mem_append.1 hy with hy | hy
          · exact h.2.2 y hy hne q' hq'
          · rw [List.mem_singleton.1 hy, hq] at hq'
            cases hq'
            exact hl
        · simp only [hl, if_false]
          rcases new with hn | ⟨p', hp, hl'⟩
          · exact hn
          · cases hp; exact absurd hl' hl
theorem acc_all {no : Rw → Nat} {xs : List Rw} {tab : List (Option (List Rw))} {s : Nat} (htab : ∀ t, t < s → IsMin no xs t (tab.getD t none)) : ∀ (rest seen : List Rw) (acc : Option (List Rw)), (∀ x, x ∈ rest → x ∈ xs) → AccOk no xs tab s seen acc →
    AccOk no xs tab s (seen ++ rest) (rest.foldl (fun acc x => pick acc (expOf tab s acc (butNot s (no x))) x) acc)
  | [], seen, acc, _, h => by simpa using h
  | x :: rest, seen, acc, hr, h => by
    have := acc_all htab rest (seen ++ [x]) _ (fun y hy => hr y (by simp [hy])) (acc_step htab h (hr x (by simp)))
    simpa using this
theorem tabAcc_min {no : Rw → Nat} {xs : List Rw} {tab : List (Option (List Rw))} {s : Nat} (htab : ∀ t, t < s → IsMin no xs t (tab.getD t none)) : IsMin no xs s (tabAcc no tab s xs (tabInit s)) := by
  by_cases h0 : s = 0
  · subst h0
    have hbn : ∀ b, butNot 0 b = 0 := fun b => by have := butNot_le 0 b; omega
    have : ∀ l : List Rw, l.foldl (fun acc x => pick acc (expOf tab 0 acc (butNot 0 (no x))) x) (some []) = some [] := by
      intro l
      induction l with
      | nil => rfl
      | cons x l ih =>
        rw [List.foldl_cons]
        have : pick (some []) (expOf tab 0 (some []) (butNot 0 (no x))) x = some [] := by
          unfold expOf
          rw [hbn, if_pos rfl]
          rfl
        rw [this]
        exact ih
    unfold tabAcc tabInit
    rw [if_pos rfl, this xs]
    exact ⟨fun x hx => by simp at hx, fun i hi => by simp at hi, fun l _ _ => by simp⟩
  · have h := acc_all htab xs [] (tabInit s) (fun x hx => hx) (by
      unfold tabInit
      rw [if_neg h0]
      intro x hx
      simp at hx)
    rw [List.nil_append] at h
    show IsMin no xs s (xs.foldl (fun acc x => pick acc (expOf tab s acc (butNot s (no x))) x) (tabInit s))
    generalize xs.foldl (fun acc x => pick acc (expOf tab s acc (butNot s (no x))) x) (tabInit s) = acc at h
    -- whatever has all marks has a row that has one of them
    have key : ∀ l : List Rw, (∀ x, x ∈ l → x ∈ xs) → Cov no l s → ∃ x, x ∈ xs ∧ butNot s (no x) ≠ s ∧ ∃ q, tab.getD (butNot s (no x)) none = some q ∧ q.length + 1 ≤ l.length := by
      intro l hl hc
      obtain ⟨i, hi⟩ := Nat.exists_testBit_of_ne_zero h0
      obtain ⟨x, hx, hb⟩ := hc i hi
      have hne := butNot_ne hi hb
      refine ⟨x, hl x hx, hne, ?_⟩
      have hm := htab _ (butNot_lt hne)
      cases hq : tab.getD (butNot s (no x)) none with
      | none =>
        rw [hq] at hm
        exact absurd (cov_erase hc) (hm (l.erase x) fun y hy => hl y (List.mem_of_mem_erase hy))
      | some q =>
        rw [hq] at hm
        have h1 := hm.2.2 (l.erase x) (fun y hy => hl y (List.mem_of_mem_erase hy)) (cov_erase hc)
        have h2 := List.length_erase_of_mem hx
        have h3 := List.length_pos_of_mem hx
        exact ⟨q, rfl, by omega⟩
    cases acc with
    | none =>
      intro l hl hc
      obtain ⟨x, hx, hne, q, hq, _⟩ := key l hl hc
      rw [h x hx hne] at hq
      cases hq
    | some p =>
      refine ⟨h.1, h.2.1, fun l hl hc => ?_⟩
      obtain ⟨x, hx, hne, q, hq, hle⟩ := key l hl hc
      have := h.2.2 x hx hne q hq
      omega
theorem tabTo_get (no : Rw → Nat) (xs : List Rw) : ∀ (K s : Nat), s < K → (tabTo no xs K).getD s none = tabAcc no (tabTo no xs s) s xs (tabInit s)
  | 0, s, h => absurd h (by omega)
  | K + 1, s, h => by
    rw [tabTo]
    by_cases e : s = K
    · subst e
      simp only [List.getD_eq_getElem?_getD]
      rw [List.getElem?_append_right (by rw [tabTo_len]; omega), tabTo_len]
      simp
    · rw [getD_low _ _ _ _ (by rw [tabTo_len]; omega)]
      exact tabTo_get no xs K s (by omega)
/-- The table holds, for each set of marks, a least list of rows that have them. -/
theorem tab_min (no : Rw → Nat) (xs : List Rw) {K s : Nat} (hs : s < K) : IsMin no xs s ((tabTo no xs K).getD s none) := by
  rw [tabTo_get no xs K s hs]
  clear hs K
  induction s using Nat.strongRecOn with
  | _ s ih =>
    refine tabAcc_min fun t ht => ?_
    rw [tabTo_get no xs s t ht]
    exact ih t ht
theorem min_nodup {no : Rw → Nat} {xs : List Rw} {s : Nat} {r : List Rw} (h : IsMin no xs s (some r)) : r.Nodup := by
  obtain ⟨h1, h2, h3⟩ := h
  rw [List.nodup_iff_pairwise_ne, List.pairwise_iff_getElem]
  intro i j hi hj hij e
  have := h3 (r.eraseIdx j) (fun x hx => h1 x (List.mem_of_mem_eraseIdx hx)) (fun k hk => by
    obtain ⟨x, hx, hb⟩ := h2 k hk
    refine ⟨x, ?_, hb⟩
    obtain ⟨n, hn, rfl⟩ := List.getElem_of_mem hx
    rw [List.mem_eraseIdx_iff_getElem]
    by_cases e2 : n = j
    · subst e2
      exact ⟨i, hi, by omega, e⟩
    · exact ⟨n, hn, e2, rfl⟩)
  rw [List.length_eraseIdx_of_lt hj] at this
  omega
end Go.Proofs.Ytchmdkdiilaejaa

/- Rows that explain a sheet, and marks that are apart, in plain mathematics. -/
namespace Go.Proofs.Ytchmdkdiilaejaa
open Go.RowKit Go.Shelf

theorem noOf_bit (cs ms : List (Int × Int)) (x : Rw) (i : Nat) : (noOf cs ms x).testBit i = (decide (i < 12) && hadB cs ms x.1 x.2 i) := by
  unfold noOf
  rw [setNo_bit]
theorem had_lt {cs ms : List (Int × Int)} {k : Nat} {x : Int} {i : Nat} (h : hadB cs ms k x i = true) : i < ms.length := by
  unfold hadB at h
  rw [Bool.and_eq_true] at h
  obtain ⟨h1, h2⟩ := h
  unfold hadTo at h2
  rw [List.any_eq_true] at h2
  obtain ⟨t, ht, he⟩ := h2
  unfold hitsTo at h1
  rw [List.all_eq_true] at h1
  have := h1 t ht
  simp only [decide_eq_true_eq] at this he
  omega
theorem all_bit (m i : Nat) : (2 ^ m - 1).testBit i = decide (i < m) := Nat.testBit_two_pow_sub_one m i
theorem cov_all {cs ms : List (Int × Int)} (h12 : ms.length ≤ 12) (l : List Rw) : Cov (noOf cs ms) l (2 ^ ms.length - 1) ↔ (numsTo (noneHas cs ms l) ms.length).length = 0 := by
  rw [nums_none]
  constructor
  · intro h i hi
    obtain ⟨x, hx, hb⟩ := h i (by rw [all_bit]; simpa using hi)
    unfold noneHas
    rw [noOf_bit, Bool.and_eq_true] at hb
    rw [Bool.eq_false_iff]
    intro hall
    rw [List.all_eq_true] at hall
    have := hall x hx
    rw [hb.2] at this
    cases this
  · intro h i hi
    rw [all_bit, decide_eq_true_eq] at hi
    have := h i hi
    unfold noneHas at this
    rw [List.all_eq_false] at this
    obtain ⟨x, hx, hb⟩ := this
    refine ⟨x, hx, ?_⟩
    rw [noOf_bit, Bool.and_eq_true, decide_eq_true_eq]
    refine ⟨by omega, ?_⟩
    cases h2 : hadB cs ms x.1 x.2 i with
    | true => rfl
    | false => rw [h2] at hb; exact absurd rfl hb
theorem left_all (cs ms : List (Int × Int)) : leftOf cs ms (allNos cs ms) (fitsOf cs ms) = fitsOf cs ms := by
  unfold leftOf
  rw [List.filter_eq_self]
  intro x hx
  rw [decide_eq_true_eq]
  exact List.mem_map_of_mem hx
theorem tab_is (cs ms : List (Int × Int)) {s : Nat} (hs : s < 2 ^ ms.length) : IsMin (noOf cs ms) (fitsOf cs ms) s (tabOf cs ms (allNos cs ms) s) := by
  unfold tabOf
  rw [left_all]
  exact tab_min _ _ hs
theorem two_pos (m : Nat) : 2 ^ m - 1 < 2 ^ m := by
  have := Nat.one_le_two_pow (n := m)
  omega
/-- What is known of a valid sheet of which no mark is lost: its best rows. -/
theorem best_is {cs ms : List (Int × Int)} (h : wholeErr cs ms = 0) : sheetErr cs ms = 0 ∧ ∃ r, tabOf cs ms (allNos cs ms) (2 ^ ms.length - 1) = some r ∧ bestLen cs ms = r.length ∧ (bestRows cs ms).Perm r ∧
    (∀ x, x ∈ r → x ∈ fitsOf cs ms) ∧ Cov (noOf cs ms) r (2 ^ ms.length - 1) ∧ r.Nodup ∧ ∀ l : List Rw, (∀ x, x ∈ l → x ∈ fitsOf cs ms) → Cov (noOf cs ms) l (2 ^ ms.length - 1) → r.length ≤ l.length := by
  unfold wholeErr at h
  split at h
  · rename_i h0
    have hm := (sheet_ok h0).1.2.2
    split at h
    · rename_i hl
      refine ⟨h0, ?_⟩
      have hc := (cov_all hm (fitsOf cs ms)).2 hl
      have ht := tab_is cs ms (two_pos ms.length)
      cases hr : tabOf cs ms (allNos cs ms) (2 ^ ms.length - 1) with
      | none =>
        rw [hr] at ht
        exact absurd hc (ht _ fun x hx => hx)
      | some r =>
        rw [hr] at ht
        have hnd := min_nodup ht
        obtain ⟨t1, t2, t3⟩ := ht
        refine ⟨r, rfl, by unfold bestLen lenOf; rw [hr], ?_, t1, t2, hnd, t3⟩
        unfold bestRows sortRw
        rw [hr]
        exact List.mergeSort_perm _ _
    · cases h
  · rename_i h0
    exact absurd h h0
/-- Each mark that is had is had by one row: as many rows as marks do. -/
theorem cov_few {no : Rw → Nat} {xs : List Rw} : ∀ (m : Nat), Cov no xs (2 ^ m - 1) → ∃ l : List Rw, (∀ x, x ∈ l → x ∈ xs) ∧ l.length = m ∧ Cov no l (2 ^ m - 1)
  | 0, _ => ⟨[], fun x hx => by simp at hx, rfl, fun i hi => by simp at hi⟩
  | m + 1, h => by
    obtain ⟨l, h1, h2, h3⟩ := cov_few m fun i hi => h i (by rw [all_bit, decide_eq_true_eq] at *; omega)
    obtain ⟨x, hx, hb⟩ := h m (by rw [all_bit, decide_eq_true_eq]; omega)
    refine ⟨x :: l, fun y hy => ?_, by simp [h2], fun i hi => ?_⟩
    · rcases List.mem_cons.1 hy with rfl | hy
      · exact hx
      · exact h1 y hy
    · rw [all_bit, decide_eq_true_eq] at hi
      by_cases e : i = m
      · subst e; exact ⟨x, by simp, hb⟩
      · obtain ⟨y, hy, hb⟩ := h3 i (by rw [all_bit, decide_eq_true_eq]; omega)
        exact ⟨y, by simp [hy], hb⟩
theorem best_few {cs ms : List (Int × Int)} (h : wholeErr cs ms = 0) : (bestRows cs ms).length ≤ ms.length := by
  obtain ⟨h0, r, _, _, hp, h1, h2, _, h3⟩ := best_is h
  rw [hp.length_eq]
  obtain ⟨l, l1, l2, l3⟩ := cov_few (no := noOf cs ms) (xs := fitsOf cs ms) ms.length fun i hi => by
    obtain ⟨x, hx, hb⟩ := h2 i hi
    exact ⟨x, h1 x hx, hb⟩
  have := h3 l l1 l3
  omega
/-- Rows that explain a sheet. -/
theorem rows_ok {cs ms ys : List (Int × Int)} (h0 : sheetErr cs ms = 0) : rowsErr cs ms ys = 0 ↔ ys.length ≤ 20 ∧ (∀ y, y ∈ ys → strange cs.length y = false) ∧ (∀ y, y ∈ ys → rwOf y ∈ fitsOf cs ms) ∧ ys.Nodup ∧ Cov (noOf cs ms) (ys.map rwOf) (2 ^ ms.length - 1) := by
  have hm := (sheet_ok h0).1.2.2
  unfold rowsErr
  rw [if_pos h0]
  constructor
  · intro h
    split at h
    · rename_i h1
      split at h
      · rename_i h2
        split at h
        · rename_i h3
          split at h
          · rename_i h4
            split at h
            · rename_i h5
              have hs : ∀ y, y ∈ ys → strange cs.length y = false := fun y hy => by
                rw [List.all_eq_true] at h2
                have := h2 y hy
                simpa using this
              have hb := (fitting_full h0 hs).1 h3
              rw [fitting_rw h0 fun y hy => ⟨hs y hy, hb y hy⟩] at h5
              refine ⟨h1, hs, fun y hy => ?_, h4, (cov_all hm _).2 h5⟩
              obtain ⟨s1, s2⟩ := (strange_iff _ _).1 (hs y hy)
              exact fits_has h0 (k := y.1.toNat) (by omega) (hb y hy)
            · cases h
          · cases h
        · cases h
      · cases h
    · cases h
  · rintro ⟨h1, hs, h3, h4, h5⟩
    have hb : ∀ y, y ∈ ys → bitsOf cs ms y.1.toNat y.2 ≠ 0 := fun y hy => by
      obtain ⟨_, _, m3, m4⟩ := fits_mem h0 (h3 y hy)
      unfold rwOf at m3 m4
      rw [m3]
      exact m4
    rw [if_pos h1, if_pos (by rw [List.all_eq_true]; intro y hy; rw [hs y hy]; rfl), if_pos ((fitting_full h0 hs).2 hb), if_pos h4, if_pos]
    rw [fitting_rw h0 fun y hy => ⟨hs y hy, hb y hy⟩]
    exact (cov_all hm _).1 h5
/-- A row as the statements have it. -/
def rwInt (x : Rw) : Int × Int := ((x.1 : Int), x.2)
theorem rwOf_int (x : Rw) : rwOf (rwInt x) = x := by unfold rwOf rwInt; simp
theorem best_ok {cs ms : List (Int × Int)} (h : wholeErr cs ms = 0) : rowsErr cs ms ((bestRows cs ms).map rwInt) = 0 := by
  obtain ⟨h0, r, _, _, hp, h1, h2, hnd, h3⟩ := best_is h
  have hm := (sheet_ok h0).1.2.2
  have hf := best_few h
  have hin : ∀ x, x ∈ bestRows cs ms → x ∈ fitsOf cs ms := fun x hx => h1 x (hp.mem_iff.1 hx)
  rw [rows_ok h0]
  refine ⟨by rw [List.length_map]; omega, fun y hy => ?_, fun y hy => ?_, ?_, ?_⟩
  · obtain ⟨x, hx, rfl⟩ := List.mem_map.1 hy
    rw [strange_iff]
    have := (fits_mem h0 (hin x hx)).1
    unfold rwInt
    dsimp only
    omega
  · obtain ⟨x, hx, rfl⟩ := List.mem_map.1 hy
    rw [rwOf_int]
    exact hin x hx
  · have hnd2 : (bestRows cs ms).Nodup := hp.nodup_iff.2 hnd
    rw [List.nodup_iff_pairwise_ne] at hnd2 ⊢
    rw [List.pairwise_map]
    refine hnd2.imp fun {a b} hab e => hab ?_
    rw [← rwOf_int a, ← rwOf_int b, e]
  · rw [List.map_map, show (rwOf ∘ rwInt) = id from funext rwOf_int, List.map_id]
    intro i hi
    obtain ⟨x, hx, hb⟩ := h2 i hi
    exact ⟨x, hp.mem_iff.2 hx, hb⟩
/-- Rows that explain a sheet are no fewer than the best ones, and no mark is lost then. -/
theorem rows_best {cs ms ys : List (Int × Int)} (h : rowsErr cs ms ys = 0) : wholeErr cs ms = 0 ∧ (bestRows cs ms).length ≤ ys.length := by
  by_cases h0 : sheetErr cs ms = 0
  · obtain ⟨h1, h2, h3, h4, h5⟩ := (rows_ok h0).1 h
    have hm := (sheet_ok h0).1.2.2
    have hin : ∀ x, x ∈ ys.map rwOf → x ∈ fitsOf cs ms := fun x hx => by
      obtain ⟨y, hy, rfl⟩ := List.mem_map.1 hx
      exact h3 y hy
    have hw : wholeErr cs ms = 0 := by
      unfold wholeErr
      rw [if_pos h0, if_pos]
      refine (cov_all hm _).1 fun i hi => ?_
      obtain ⟨x, hx, hb⟩ := h5 i hi
      exact ⟨x, hin x hx, hb⟩
    obtain ⟨_, r, _, _, hp, _, _, _, h9⟩ := best_is hw
    refine ⟨hw, ?_⟩
    rw [hp.length_eq]
    have := h9 _ hin h5
    simpa using this
  · unfold rowsErr at h
    rw [if_neg h0] at h
    exact absurd h h0

/-- Marks that are apart are no more than rows that have them all. -/
theorem apart_rows {cs ms : List (Int × Int)} {js : List Nat} (hn : js.Nodup) (hlt : ∀ j, j ∈ js → j < ms.length) (ha : apartB cs ms js = true) : ∀ {l : List Rw}, (∀ x, x ∈ l → x ∈ fitsOf cs ms) → (∀ j, j ∈ js → ∃ x, x ∈ l ∧ (noOf cs ms x).testBit j = true) → js.length ≤ l.length := by
  intro l
  induction l generalizing js with
  | nil =>
    intro _ h
    cases js with
    | nil => simp
    | cons j js => obtain ⟨x, hx, _⟩ := h j (by simp); simp at hx
  | cons x l ih =>
    intro hl h
    -- the marks that x does not have
    have hx := hl x (by simp)
    have hcr : ¬ 1 < (js.filter (hadB cs ms x.1 x.2)).length := by
      unfold apartB at ha
      rw [List.all_eq_true] at ha
      have := ha x hx
      unfold crowded at this
      simpa using this
    have hsub : (js.filter fun j => !hadB cs ms x.1 x.2 j).Sublist js := List.filter_sublist
    have := ih (js := js.filter fun j => !hadB cs ms x.1 x.2 j) (hn.sublist hsub) (fun j hj => hlt j (hsub.subset hj)) (by
      unfold apartB at ha ⊢
      rw [List.all_eq_true] at ha ⊢
      intro y hy
      have h1 := ha y hy
      unfold crowded at h1 ⊢
      have h2 := (hsub.filter (hadB cs ms y.1 y.2)).length_le
      simp only [Bool.not_eq_true', decide_eq_false_iff_not] at h1 ⊢
      omega) (fun y hy => hl y (by simp [hy])) (fun j hj => by
        rw [List.mem_filter] at hj
        obtain ⟨y, hy, hb⟩ := h j hj.1
        rcases List.mem_cons.1 hy with rfl | hy
        · rw [noOf_bit, Bool.and_eq_true] at hb
          rw [hb.2] at hj
          simp at hj
        · exact ⟨y, hy, hb⟩)
    have hsum : (js.filter (hadB cs ms x.1 x.2)).length + (js.filter fun j => !hadB cs ms x.1 x.2 j).length = js.length := by
      clear this hsub hcr ha hlt hn h hl ih
      induction js with
      | nil => rfl
      | cons j js ih =>
        rw [List.filter_cons, List.filter_cons]
        cases hadB cs ms x.1 x.2 j <;> simp <;> omega
    rw [List.length_cons]
    omega
theorem apart_best {cs ms : List (Int × Int)} (h : wholeErr cs ms = 0) {js : List Nat} (hn : js.Nodup) (hlt : ∀ j, j ∈ js → j < ms.length) (ha : apartB cs ms js = true) : js.length ≤ (bestRows cs ms).length := by
  obtain ⟨h0, r, _, _, hp, h1, h2, _, _⟩ := best_is h
  rw [hp.length_eq]
  exact apart_rows hn hlt ha h1 fun j hj => h2 j (by rw [all_bit, decide_eq_true_eq]; exact hlt j hj)

/-- All lists that grow. -/
theorem ls_sound (long n : Nat) : ∀ (f : Nat) (xs js : List Nat), f ≤ n → js ∈ lsOf long n f xs → js.length = long ∧ ∃ t, js = xs ++ t ∧ t.Pairwise (· < ·) ∧ ∀ x, x ∈ t → n - f ≤ x ∧ x < n
  | 0, xs, js, _, h => by simp [lsOf] at h
  | f + 1, xs, js, hf, h => by
    rw [lsOf_succ, List.mem_append] at h
    rcases h with h | h
    · unfold gOf at h
      split at h
      · rename_i hl
        rw [List.mem_singleton.1 h]
        refine ⟨hl, _, rfl, by simp, fun x hx => ?_⟩
        rw [List.mem_singleton.1 hx]
        omega
      · obtain ⟨h1, t, rfl, h2, h3⟩ := ls_sound long n f _ js (by omega) h
        refine ⟨h1, [n - (f + 1)] ++ t, by rw [List.append_assoc], ?_, fun x hx => ?_⟩
        · rw [List.singleton_append, List.pairwise_cons]
          exact ⟨fun y hy => by have := h3 y hy; omega, h2⟩
        · rw [List.singleton_append] at hx
          rcases List.mem_cons.1 hx with rfl | hx
          · omega
          · have := h3 x hx; omega
    · obtain ⟨h1, t, rfl, h2, h3⟩ := ls_sound long n f _ js (by omega) h
      exact ⟨h1, t, rfl, h2, fun x hx => by have := h3 x hx; omega⟩
theorem ls_full (long n : Nat) : ∀ (f : Nat) (xs t : List Nat), f ≤ n → t ≠ [] → t.Pairwise (· < ·) → (∀ x, x ∈ t → n - f ≤ x ∧ x < n) → (xs ++ t).length = long → xs ++ t ∈ lsOf long n f xs
  | 0, xs, t, _, h, _, h2, _ => by
    cases t with
    | nil => exact absurd rfl h
    | cons x t => have := h2 x (by simp); omega
  | f + 1, xs, t, hf, h, h1, h2, h3 => by
    cases t with
    | nil => exact absurd rfl h
    | cons x t =>
      obtain ⟨p1, p2⟩ := List.pairwise_cons.1 h1
      have hx := h2 x (by simp)
      rw [lsOf_succ, List.mem_append]
      by_cases e : x = n - (f + 1)
      · left
        subst e
        unfold gOf
        cases t with
        | nil =>
          rw [if_pos h3]
          simp
        | cons y t =>
          rw [if_neg (by simp at h3 ⊢; omega)]
          have := ls_full long n f (xs ++ [n - (f + 1)]) (y :: t) (by omega) (by simp) p2 (fun z hz => by
            have := p1 z hz
            have := h2 z (by simp only [List.mem_cons] at hz ⊢; exact .inr hz)
            omega) (by simpa using h3)
          simpa using this
      · right
        exact ls_full long n f xs (x :: t) (by omega) h h1 (fun z hz => by
          rcases List.mem_cons.1 hz with rfl | hz
          · omega
          · have := p1 z hz
            have := h2 z (by simp [hz])
            omega) h3
theorem g_sound {long n : Nat} {js : List Nat} (h : js ∈ gOf long n n []) : js.length = long ∧ js.Pairwise (· < ·) ∧ ∀ x, x ∈ js → x < n := by
  unfold gOf at h
  split at h
  · rename_i hl
    rw [List.mem_singleton.1 h]
    exact ⟨hl, by simp, fun x hx => by simp at hx⟩
  · obtain ⟨h1, t, rfl, h2, h3⟩ := ls_sound long n n [] js (Nat.le_refl _) h
    exact ⟨h1, by simpa using h2, fun x hx => (h3 x (by simpa using hx)).2⟩
theorem g_full {n : Nat} {js : List Nat} (h1 : js.Pairwise (· < ·)) (h2 : ∀ x, x ∈ js → x < n) : js ∈ gOf js.length n n [] := by
  unfold gOf
  cases js with
  | nil => simp
  | cons x t =>
    rw [if_neg (by simp)]
    exact ls_full _ n n [] (x :: t) (Nat.le_refl _) (by simp) h1 (fun y hy => ⟨by omega, h2 y hy⟩) rfl
theorem apart_nil (cs ms : List (Int × Int)) : apartB cs ms [] = true := by
  unfold apartB crowded
  simp
theorem apartTo_ok (cs ms : List (Int × Int)) : ∀ L, (apartTo cs ms L).Pairwise (· < ·) ∧ (∀ x, x ∈ apartTo cs ms L → x < ms.length) ∧ apartB cs ms (apartTo cs ms L) = true ∧ (apartTo cs ms L).length ≤ L
  | 0 => by
    unfold apartTo
    exact ⟨by simp, fun x hx => by simp at hx, apart_nil _ _, by simp⟩
  | L + 1 => by
    unfold apartTo
    split
    · rename_i js hf
      have h1 := List.find?_some hf
      obtain ⟨h2, h3, h4⟩ := g_sound (List.mem_of_find?_eq_some hf)
      exact ⟨h3, h4, h1, by omega⟩
    · obtain ⟨h1, h2, h3, h4⟩ := apartTo_ok cs ms L
      exact ⟨h1, h2, h3, by omega⟩
theorem sorted_in {n : Nat} : ∀ (k : Nat) (js : List Nat), js.Pairwise (· < ·) → (∀ x, x ∈ js → n - k ≤ x ∧ x < n) → k ≤ n → js.length ≤ k
  | 0, js, _, h, _ => by
    cases js with
    | nil => simp
    | cons x js => have := h x (by simp); omega
  | k + 1, js, h1, h2, hk => by
    cases js with
    | nil => simp
    | cons x js =>
      obtain ⟨p1, p2⟩ := List.pairwise_cons.1 h1
      have hx := h2 x (by simp)
      have := sorted_in (n := n) k js p2 (fun y hy => by have := p1 y hy; have := h2 y (by simp [hy]); omega) (by omega)
      simp
      omega
theorem sorted_short {n : Nat} {js : List Nat} (h1 : js.Pairwise (· < ·)) (h2 : ∀ x, x ∈ js → x < n) : js.length ≤ n :=
  sorted_in n js h1 (fun x hx => ⟨by omega, h2 x hx⟩) (Nat.le_refl _)
theorem apartTo_most (cs ms : List (Int × Int)) {js : List Nat} (h1 : js.Pairwise (· < ·)) (h2 : ∀ x, x ∈ js → x < ms.length) (ha : apartB cs ms js = true) : ∀ L, js.length ≤ L → js.length ≤ (apartTo cs ms L).length
  | 0, hL => by omega
  | L + 1, hL => by
    unfold apartTo
    split
    · rename_i ks hf
      rw [(g_sound (List.mem_of_find?_eq_some hf)).1]
      exact hL
    · rename_i hf
      by_cases e : js.length = L + 1
      · exfalso
        rw [List.find?_eq_none] at hf
        have := hf js (by rw [← e]; exact g_full h1 h2)
        exact this ha
      · exact apartTo_most cs ms h1 h2 ha L (by omega)
end Go.Proofs.Ytchmdkdiilaejaa
