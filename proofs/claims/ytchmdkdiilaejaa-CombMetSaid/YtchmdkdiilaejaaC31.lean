/- Texts of one package, joined: MetPure. -/
import Derived.Test.YtchmdkdiilaejaaC6
/- Two combs without ends: where they meet, in plain mathematics. -/
namespace Go.Proofs.Ytchmdkdiilaejaa
open Go.RowKit Go.Shelf

theorem bezout : ∀ (a b : Nat), ∃ x y : Int, (a : Int) * x + (b : Int) * y = (Nat.gcd a b : Int) := by
  intro a b
  induction a, b using Nat.gcd.induction with
  | H0 b => exact ⟨0, 1, by simp⟩
  | H1 a b ha ih =>
    obtain ⟨x, y, h⟩ := ih
    refine ⟨y - ((b / a : Nat) : Int) * x, x, ?_⟩
    rw [Nat.gcd_rec a b, ← h]
    have hb : (b : Int) = (a : Int) * ((b / a : Nat) : Int) + ((b % a : Nat) : Int) := by
      have := Nat.div_add_mod b a
      rw [← Int.natCast_mul, ← Int.natCast_add, this]
    have e1 : (a : Int) * (y - ((b / a : Nat) : Int) * x) + (b : Int) * x = a * y - (a : Int) * (((b / a : Nat) : Int) * x) + ((a : Int) * ((b / a : Nat) : Int) + ((b % a : Nat) : Int)) * x := by
      rw [Int.mul_sub, ← hb]
    rw [e1, Int.add_mul, Int.mul_assoc]
    omega

theorem meet_bounds {one two a o : Int} (h : meetIn one two a o = true) : ((1 ≤ one ∧ one ≤ 50) ∧ 1 ≤ two ∧ two ≤ 50) ∧ (0 ≤ a ∧ a ≤ 500) ∧ 0 ≤ o ∧ o ≤ 500 := by
  unfold meetIn at h
  simpa [inside, and_assoc] using h

/-- Two combs meet just if the difference is a multiple of what divides both. -/
theorem meet_some {one two a o : Int} (h1 : 1 ≤ one) (h2 : 1 ≤ two) : meetFirst one two a o < Int.lcm one two ↔ ((Int.gcd one two : Nat) : Int) ∣ a - o := by
  constructor
  · intro h
    unfold meetFirst at h
    have h3 : (List.range (Int.lcm one two)).findIdx (meetAt one two a o) < (List.range (Int.lcm one two)).length := by simpa using h
    have h4 := List.findIdx_getElem (w := h3)
    simp only [List.getElem_range] at h4
    generalize (List.range (Int.lcm one two)).findIdx (meetAt one two a o) = i at h4
    unfold meetAt at h4
    rw [Bool.and_eq_true, decide_eq_true_eq, decide_eq_true_eq] at h4
    have d1 := Int.dvd_trans (Int.gcd_dvd_left one two) (Int.dvd_of_emod_eq_zero h4.1)
    have d2 := Int.dvd_trans (Int.gcd_dvd_right one two) (Int.dvd_of_emod_eq_zero h4.2)
    have := Int.dvd_sub d2 d1
    rwa [show max a o + (i : Int) - o - (max a o + (i : Int) - a) = a - o from by omega] at this
  · rintro ⟨q, hq⟩
    obtain ⟨x, y, hxy⟩ := bezout one.toNat two.toNat
    have e1 : ((one.toNat : Nat) : Int) = one := Int.toNat_of_nonneg (by omega)
    have e2 : ((two.toNat : Nat) : Int) = two := Int.toNat_of_nonneg (by omega)
    have hg : Nat.gcd one.toNat two.toNat = Int.gcd one two := by
      unfold Int.gcd
      rw [show one.natAbs = one.toNat from by omega, show two.natAbs = two.toNat from by omega]
    rw [e1, e2, hg] at hxy
    have hL : 0 < Int.lcm one two := Int.lcm_pos (by omega) (by omega)
    obtain ⟨L, hLe⟩ : ∃ L, Int.lcm one two = L := ⟨_, rfl⟩
    have d1 : one ∣ (L : Int) := by rw [← hLe]; exact Int.dvd_lcm_left one two
    have d2 : two ∣ (L : Int) := by rw [← hLe]; exact Int.dvd_lcm_right one two
    unfold meetFirst
    rw [hLe] at hL ⊢
    -- n0 ≡ a mod one, n0 ≡ o mod two
    obtain ⟨n0, hn0⟩ : ∃ n0, n0 = a - one * (x * q) := ⟨_, rfl⟩
    have hn2 : n0 = o + two * (y * q) := by
      have : (one * x + two * y) * q = a - o := by rw [hxy, hq]
      rw [Int.add_mul, Int.mul_assoc, Int.mul_assoc] at this
      omega
    obtain ⟨M, hM⟩ : ∃ M, max a o = M := ⟨_, rfl⟩
    have hr0 := Int.emod_nonneg (n0 - M) (show (L : Int) ≠ 0 by omega)
    have hrL := Int.emod_lt_of_pos (n0 - M) (show (0 : Int) < L by omega)
    have hdm := Int.emod_add_mul_ediv (n0 - M) L
    obtain ⟨r, hr⟩ : ∃ r, (n0 - M) % (L : Int) = r := ⟨_, rfl⟩
    obtain ⟨k, hk⟩ : ∃ k, (n0 - M) / (L : Int) = k := ⟨_, rfl⟩
    rw [hr, hk] at hdm
    rw [hr] at hr0 hrL
    have hlt : r.toNat < L := by omega
    have hat : meetAt one two a o r.toNat = true := by
      unfold meetAt
      rw [Bool.and_eq_true, decide_eq_true_eq, decide_eq_true_eq, hM, Int.toNat_of_nonneg hr0]
      constructor
      · apply Int.emod_eq_zero_of_dvd
        have : M + r - a = (n0 - a) - (L : Int) * k := by omega
        rw [this]
        exact Int.dvd_sub ⟨-(x * q), by rw [hn0, Int.mul_neg]; omega⟩ (Int.dvd_trans d1 (Int.dvd_mul_right _ _))
      · apply Int.emod_eq_zero_of_dvd
        have : M + r - o = (n0 - o) - (L : Int) * k := by omega
        rw [this]
        exact Int.dvd_sub ⟨y * q, by rw [hn2]; omega⟩ (Int.dvd_trans d2 (Int.dvd_mul_right _ _))
    have : (List.range L).findIdx (meetAt one two a o) < (List.range L).length := List.findIdx_lt_length.2 ⟨r.toNat, List.mem_range.2 hlt, hat⟩
    simpa using this

theorem meet_far {one two : Int} (h1 : 1 ≤ one) (h2 : 1 ≤ two) : (Int.lcm one two : Int) = one / (Int.gcd one two : Int) * two := by
  obtain ⟨a, rfl⟩ := Int.eq_ofNat_of_zero_le (by omega : 0 ≤ one)
  obtain ⟨b, rfl⟩ := Int.eq_ofNat_of_zero_le (by omega : 0 ≤ two)
  have e1 : Int.lcm (a : Int) (b : Int) = Nat.lcm a b := rfl
  have e2 : Int.gcd (a : Int) (b : Int) = Nat.gcd a b := rfl
  rw [e1, e2]
  obtain ⟨q, hq⟩ := Nat.gcd_dvd_left a b
  have hg : 0 < Nat.gcd a b := Nat.gcd_pos_of_pos_left _ (by omega)
  have : Nat.lcm a b = a / Nat.gcd a b * b := by
    unfold Nat.lcm
    generalize Nat.gcd a b = g at hq hg
    rw [hq, Nat.mul_div_cancel_left _ hg, Nat.mul_assoc, Nat.mul_div_cancel_left _ hg]
  rw [this, Int.natCast_mul, Int.natCast_ediv]

/-- What is said of the place where two combs meet. -/
theorem meet_at {one two a o : Int} (h : meetFirst one two a o < Int.lcm one two) : (max a o + (meetFirst one two a o : Int) - a) % one = 0 ∧ (max a o + (meetFirst one two a o : Int) - o) % two = 0 := by
  unfold meetFirst at h ⊢
  have h3 : (List.range (Int.lcm one two)).findIdx (meetAt one two a o) < (List.range (Int.lcm one two)).length := by simpa using h
  have h4 := List.findIdx_getElem (w := h3)
  simp only [List.getElem_range] at h4
  generalize (List.range (Int.lcm one two)).findIdx (meetAt one two a o) = i at h4
  unfold meetAt at h4
  rw [Bool.and_eq_true, decide_eq_true_eq, decide_eq_true_eq] at h4
  exact h4
theorem meet_none {one two a o : Int} {k : Int} (h1 : max a o ≤ k) (h2 : k < max a o + (meetFirst one two a o : Int)) : ¬ ((k - a) % one = 0 ∧ (k - o) % two = 0) := by
  intro hh
  unfold meetFirst at h2
  obtain ⟨i, hi⟩ : ∃ i : Nat, k = max a o + i := ⟨(k - max a o).toNat, by omega⟩
  subst hi
  have hlt : i < (List.range (Int.lcm one two)).findIdx (meetAt one two a o) := by omega
  have hle := List.findIdx_le_length (xs := List.range (Int.lcm one two)) (p := meetAt one two a o)
  have := List.not_of_lt_findIdx hlt
  simp only [List.getElem_range] at this
  have h5 : meetAt one two a o i = true := by
    unfold meetAt
    rw [Bool.and_eq_true, decide_eq_true_eq, decide_eq_true_eq]
    exact hh
  rw [this] at h5
  cases h5
end Go.Proofs.Ytchmdkdiilaejaa
