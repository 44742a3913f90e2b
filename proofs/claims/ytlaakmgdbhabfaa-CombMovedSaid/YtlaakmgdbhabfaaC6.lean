/- Texts of one package, joined: Meet. -/
import Derived.Test.YtlaakmgdbhabfaaC4
import Derived.OwnWalk
/- Meet: where two combs meet, and how far on again. -/
namespace Go.Proofs.Ytlaakmgdbhabfaa
open Go.RowKit Go.Shelf

def meetIn (one two a o : Int) : Bool := [one, two].all (inside 1 50) && [a, o].all (inside 0 500)
def meetAt (one two a o : Int) (i : Nat) : Bool := decide ((max a o + i - a) % one = 0) && decide ((max a o + i - o) % two = 0)
/-- The first number from the greater one of both on at which both have a tooth, so many further on. -/
def meetFirst (one two a o : Int) : Nat := (List.range (Int.lcm one two)).findIdx (meetAt one two a o)
/-- What Meet answers. -/
def meetAns (one two a o : Int) : (Int × Int) × Int :=
  if meetIn one two a o = true then
    if meetFirst one two a o < Int.lcm one two then ((max a o + meetFirst one two a o, Int.lcm one two), 0) else ((0, 0), 5)
  else ((0, 0), 2)

theorem lcm_at {one two : Int} (h1 : 1 ≤ one) (h2 : 1 ≤ two) {j : Nat} (hj : 1 ≤ j) (hd : (one * j) % two = 0) (hl : ∀ i : Nat, 1 ≤ i → i < j → ¬ (one * i) % two = 0) : (Int.lcm one two : Int) = one * j := by
  obtain ⟨a, rfl⟩ := Int.eq_ofNat_of_zero_le (by omega : 0 ≤ one)
  obtain ⟨b, rfl⟩ := Int.eq_ofNat_of_zero_le (by omega : 0 ≤ two)
  have ha : 0 < a := by omega
  have hb : 0 < b := by omega
  have e1 : Int.lcm (a : Int) (b : Int) = Nat.lcm a b := rfl
  rw [e1]
  have hdn : b ∣ a * j := by
    have := Int.dvd_of_emod_eq_zero hd
    exact Int.natCast_dvd_natCast.1 (by simpa using this)
  have hle : Nat.lcm a b ∣ a * j := Nat.lcm_dvd (Nat.dvd_mul_right a j) hdn
  obtain ⟨q, hq⟩ := Nat.dvd_lcm_left a b
  have hq1 : 1 ≤ q := by
    rcases Nat.eq_zero_or_pos q with e | e
    · rw [e, Nat.mul_zero] at hq
      have := Nat.lcm_pos ha hb
      omega
    · exact e
  have hqj : ¬ q < j := fun h => hl q hq1 h (by
    have h3 : b ∣ a * q := by rw [← hq]; exact Nat.dvd_lcm_right a b
    have : ((b : Int)) ∣ (a : Int) * (q : Int) := by
      have := Int.natCast_dvd_natCast.2 h3
      simpa using this
    exact Int.emod_eq_zero_of_dvd this)
  have hle2 : a * q ≤ a * j := by rw [← hq]; exact Nat.le_of_dvd (Nat.mul_pos ha hj) hle
  have : q = j := by
    have := Nat.le_of_mul_le_mul_left hle2 ha
    omega
  rw [hq, this]
  simp
theorem mul_bd {a b M N : Int} (ha : 0 ≤ a) (ha' : a ≤ M) (hb : 0 ≤ b) (hb' : b ≤ N) : 0 ≤ a * b ∧ a * b ≤ M * N :=
  ⟨Int.mul_nonneg ha hb, Int.mul_le_mul ha' hb' hb (by omega)⟩

set_option maxRecDepth 100000 in
set_option maxHeartbeats 2000000 in
theorem meet_any (one two a o : Int) (w : World) :
    Calls Try.prog 34 #[.int .i64 one, .int .i64 two, .int .i64 a, .int .i64 o] w fun e w' => e = .returned (.tuple #[.int .i64 (meetAns one two a o).1.1, .int .i64 (meetAns one two a o).1.2, .int .i64 (meetAns one two a o).2]) ∧ Below w.heap.size w w' := by
  have hm : meetIn one two a o = ([one, two].all (inside 1 50) && [a, o].all (inside 0 500)) := rfl
  obtain ⟨ans, ha⟩ : ∃ ans, meetAns one two a o = ans := ⟨_, rfl⟩
  rw [ha]
  have HA := Lib.hid ha
  clear ha
  generalize hq1 : [one, two].all (inside 1 50) = q1 at hm
  generalize hq2 : [a, o].all (inside 0 500) = q2 at hm
  have H1 := Lib.hid hq1
  have H2 := Lib.hid hq2
  have HM := Lib.hid hm
  have b1 : q1 = true → (1 ≤ one ∧ one ≤ 50) ∧ 1 ≤ two ∧ two ≤ 50 := fun e => by rw [e] at hq1; simpa [inside] using hq1
  have b2 : q2 = true → (0 ≤ a ∧ a ≤ 500) ∧ 0 ≤ o ∧ o ≤ 500 := fun e => by rw [e] at hq2; simpa [inside] using hq2
  clear hq1 hq2 hm
  go_enter Try.func34, Try.ntmps34
  go_wp2_with fail
  refine (within _ _ _ _ _ [one, two] _ rfl (by simp) (held2 (by simp) (by simp) (by simp))).mono ?_
  rw [H1.out]
  rintro e w1 ⟨rfl, hb1⟩
  have hB1 : Below w.heap.size w w1 := bstep ((Below.refl _ w).alloc (Nat.le_refl _) _) (by simp) hb1
  clear hb1
  cases q1 with
  | false =>
    have he : ans = ((0, 0), 2) := by rw [← HA.out]; unfold meetAns; rw [HM.out]; rfl
    subst he
    go_wp2
    go_ret3
    exact ⟨rfl, hB1⟩
  | true =>
    obtain ⟨⟨a1, a2⟩, a3, a4⟩ := b1 rfl
    clear b1
    go_wp2_with fail
    refine (within _ _ _ _ _ [a, o] _ rfl (by simp) (held2 (by simp) (by simp) (by simp))).mono ?_
    rw [H2.out]
    rintro e w2 ⟨rfl, hb2⟩
    have hB2 : Below w.heap.size w w2 := bstep (hB1.alloc hB1.size _) (by have := hB1.size; simp; omega) hb2
    have HB2 := Lib.hid hB2
    clear hb2 hB1 hB2
    cases q2 with
    | false =>
      have he : ans = ((0, 0), 2) := by rw [← HA.out]; unfold meetAns; rw [HM.out]; rfl
      subst he
      go_wp2
      go_ret3
      exact ⟨rfl, HB2.out⟩
    | true =>
      obtain ⟨⟨c1, c2⟩, c3, c4⟩ := b2 rfl
      clear b2
      have h2z : ¬ two = 0 := by omega
      have h1z : ¬ one = 0 := by omega
      go_wp2
      go_loopw [11] (fun f wr => ∃ (j : Nat) (F : Int), f = .int .i64 F ∧ wr = w2 ∧ 1 ≤ F ∧ F ≤ 2500 ∧ Hid (1 ≤ j ∧ F = one * j ∧ ∀ i : Nat, 1 ≤ i → i < j → ¬ (one * i) % two = 0)) (fun f _ => (2600 - intOf f).toNat)
      case atStart => exact ⟨1, one, rfl, rfl, by omega, by omega, Lib.hid ⟨by omega, by simp, fun i h1 h2 => by omega⟩⟩
      case round =>
        obtain ⟨j, F, rfl, rfl, f1, f2, hF⟩ := hrel
        by_cases hd : F % two = 0
        · obtain ⟨j1, j2, j3⟩ := hF.out
          have hL : (Int.lcm one two : Int) = F := by rw [j2]; exact lcm_at a1 a3 j1 (by rw [← j2]; exact hd) j3
          obtain ⟨L, hLn⟩ : ∃ L : Nat, Int.lcm one two = L := ⟨_, rfl⟩
          rw [hLn] at hL
          have HL := Lib.hid hLn
          have hans : ans = if meetFirst one two a o < L then ((max a o + meetFirst one two a o, (L : Int)), 0) else ((0, 0), 5) := by
            rw [← HA.out]
            unfold meetAns
            rw [HM.out, hLn]
            rfl
          have hff : meetFirst one two a o = (List.range L).findIdx (meetAt one two a o) := by unfold meetFirst; rw [hLn]
          have hat : ∀ i : Nat, meetAt one two a o i = (decide ((max a o + i - a) % one = 0) && decide ((max a o + i - o) % two = 0)) := fun i => rfl
          obtain ⟨k0, hk0⟩ : ∃ k0, meetFirst one two a o = k0 := ⟨_, rfl⟩
          rw [hk0] at hans hff
          obtain ⟨p, hp⟩ : ∃ p, meetAt one two a o = p := ⟨_, rfl⟩
          rw [hp] at hff hat
          by_cases hoa : o ≤ a
          · have hmx : max a o = a := by omega
            rw [hmx] at hans hat
            have HAN := Lib.hid (And.intro hans (And.intro hff hat))
            clear hans hff hat hk0 hp hLn j1 j2 j3 hF
            subst hL
            go_wp2
            clear hd
            go_loopw [13] (fun i wq => ∃ k : Nat, i = .int .i64 (a + k) ∧ wq = wr ∧ k ≤ L ∧ Hid (∀ i : Nat, i < k → p i = false)) (fun i _ => (a + L - intOf i).toNat)
            case atStart => exact ⟨0, by simp, rfl, Nat.zero_le _, Lib.hid fun i h => by omega⟩
            case round =>
              obtain ⟨k, rfl, rfl, hk, hN⟩ := hrel
              by_cases hlt : k < L
              · have hltz : (k : Int) < (L : Int) := by omega
                have hpk := HAN.out.2.2 k
                rw [show a + (k : Int) - a = (k : Int) from by omega] at hpk
                have step : p k = false → ∀ i : Nat, i < k + 1 → p i = false := fun hh i hi => by
                  by_cases e : i = k
                  · subst e; exact hh
                  · exact hN.out i (by omega)
                have HS := Lib.hid step
                have ea : a + (k : Int) - a = (k : Int) := by omega
                clear step
                by_cases h1 : (k : Int) % one = 0
                · have h1b := h1; rw [← ea] at h1b
                  by_cases h2 : (a + (k : Int) - o) % two = 0
                  · skip
                    rw [h1, h2] at hpk
                    have hk0 : k0 = k := by
                      rw [HAN.out.2.1]
                      refine (List.findIdx_eq (by simpa using hlt)).2 ⟨by simpa using hpk, fun i hi => by simpa using hN.out i hi⟩
                    have he := HAN.out.1
                    rw [hk0, if_pos hlt] at he
                    subst he
                    clear hpk HS
                    go_wp2
                    go_ret3
                    exact ⟨rfl, HB2.out⟩
                  · skip
                    have HP := Lib.hid (show p k = false by rw [hpk]; simp [h2])
                    clear hpk
                    go_wp2
                    go_roundw
                    case measure => simp [intOf]; omega
                    case rel => exact ⟨k + 1, by go_num, trivial, by omega, Lib.hid (HS.out HP.out)⟩
                · have h1b := h1; rw [← ea] at h1b
                  have HP := Lib.hid (show p k = false by rw [hpk]; simp [h1])
                  clear hpk
                  go_wp2
                  go_roundw
                  case measure => simp [intOf]; omega
                  case rel => exact ⟨k + 1, by go_num, trivial, by omega, Lib.hid (HS.out HP.out)⟩
              · have hltz : ¬ (k : Int) < (L : Int) := by omega
                have hk0 : ¬ k0 < L := fun h => by
                  rw [HAN.out.2.1] at h
                  have h3 : (List.range L).findIdx p < (List.range L).length := by simpa using h
                  have h4 := List.findIdx_getElem (w := h3)
                  simp only [List.getElem_range] at h4
                  rw [hN.out _ (by omega)] at h4
                  cases h4
                have he := HAN.out.1
                rw [if_neg hk0] at he
                subst he
                clear hk0
                go_wp2
                go_ret3
                exact ⟨rfl, HB2.out⟩
          · have hmx : max a o = o := by omega
            have hoa2 : a < o := by omega
            rw [hmx] at hans hat
            have HAN := Lib.hid (And.intro hans (And.intro hff hat))
            clear hans hff hat hk0 hp hLn j1 j2 j3 hF
            subst hL
            go_wp2
            clear hd
            go_loopw [13] (fun i wq => ∃ k : Nat, i = .int .i64 (o + k) ∧ wq = wr ∧ k ≤ L ∧ Hid (∀ i : Nat, i < k → p i = false)) (fun i _ => (o + L - intOf i).toNat)
            case atStart => exact ⟨0, by simp, rfl, Nat.zero_le _, Lib.hid fun i h => by omega⟩
            case round =>
              obtain ⟨k, rfl, rfl, hk, hN⟩ := hrel
              by_cases hlt : k < L
              · have hltz : (k : Int) < (L : Int) := by omega
                have hpk := HAN.out.2.2 k
                rw [show o + (k : Int) - o = (k : Int) from by omega] at hpk
                have step : p k = false → ∀ i : Nat, i < k + 1 → p i = false := fun hh i hi => by
                  by_cases e : i = k
                  · subst e; exact hh
                  · exact hN.out i (by omega)
                have HS := Lib.hid step
                have ea : o + (k : Int) - o = (k : Int) := by omega
                clear step
                by_cases h1 : (o + (k : Int) - a) % one = 0
                · skip
                  by_cases h2 : (k : Int) % two = 0
                  · have h2b := h2; rw [← ea] at h2b
                    rw [h1, h2] at hpk
                    have hk0 : k0 = k := by
                      rw [HAN.out.2.1]
                      refine (List.findIdx_eq (by simpa using hlt)).2 ⟨by simpa using hpk, fun i hi => by simpa using hN.out i hi⟩
                    have he := HAN.out.1
                    rw [hk0, if_pos hlt] at he
                    subst he
                    clear hpk HS
                    go_wp2
                    go_ret3
                    exact ⟨rfl, HB2.out⟩
                  · have h2b := h2; rw [← ea] at h2b
                    have HP := Lib.hid (show p k = false by rw [hpk]; simp [h2])
                    clear hpk
                    go_wp2
                    go_roundw
                    case measure => simp [intOf]; omega
                    case rel => exact ⟨k + 1, by go_num, trivial, by omega, Lib.hid (HS.out HP.out)⟩
                · skip
                  have HP := Lib.hid (show p k = false by rw [hpk]; simp [h1])
                  clear hpk
                  go_wp2
                  go_roundw
                  case measure => simp [intOf]; omega
                  case rel => exact ⟨k + 1, by go_num, trivial, by omega, Lib.hid (HS.out HP.out)⟩
              · have hltz : ¬ (k : Int) < (L : Int) := by omega
                have hk0 : ¬ k0 < L := fun h => by
                  rw [HAN.out.2.1] at h
                  have h3 : (List.range L).findIdx p < (List.range L).length := by simpa using h
                  have h4 := List.findIdx_getElem (w := h3)
                  simp only [List.getElem_range] at h4
                  rw [hN.out _ (by omega)] at h4
                  cases h4
                have he := HAN.out.1
                rw [if_neg hk0] at he
                subst he
                clear hk0
                go_wp2
                go_ret3
                exact ⟨rfl, HB2.out⟩
        · have hF2 : F + one ≤ 2500 := by
            obtain ⟨j1, j2, j3⟩ := hF.out
            have hjt : (j : Int) < two := by
              by_cases h : (j : Int) < two
              · exact h
              · exfalso
                by_cases h2 : (j : Int) = two
                · exact hd (by rw [j2, h2]; exact Int.mul_emod_left _ _)
                · exact j3 two.toNat (by omega) (by omega) (by rw [Int.toNat_of_nonneg (by omega)]; exact Int.mul_emod_left _ _)
            have := mul_bd (a := one) (b := (j : Int) + 1) (M := 50) (N := 50) (by omega) (by omega) (by omega) (by omega)
            rw [Int.mul_add, Int.mul_one, ← j2] at this
            omega
          have HD := Lib.hid hd
          go_wp2
          go_roundw
          case measure => simp [intOf]; omega
          case rel =>
            obtain ⟨j1, j2, j3⟩ := hF.out
            refine ⟨j + 1, F + one, by go_num, trivial, by omega, by omega, Lib.hid ⟨by omega, by rw [j2]; simp [Int.mul_add], fun i h1 h2 => ?_⟩⟩
            by_cases e : i = j
            · subst e; rw [← j2]; exact HD.out
            · exact j3 i h1 (by omega)
end Go.Proofs.Ytlaakmgdbhabfaa
