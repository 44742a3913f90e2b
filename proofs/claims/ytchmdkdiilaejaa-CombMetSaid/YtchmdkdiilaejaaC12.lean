/- Texts of one package, joined: RefGcd, RefMeet. -/
import Derived.Test.YtchmdkdiilaejaaC11
import Derived.Test.YtchmdkdiilaejaaC31
/- Greatest of the reference. -/
namespace Go.Proofs.Ytchmdkdiilaejaa
open Go.RowKit Go.Shelf

set_option maxRecDepth 100000 in
set_option maxHeartbeats 1000000 in
theorem greatest_any (x y : Nat) (hx : x ≤ 1000) (hy : y ≤ 1000) (w : World) : Calls Try.prog 51 #[.int .i64 (x : Int), .int .i64 (y : Int)] w fun e w' => e = .returned (.int .i64 ((Nat.gcd x y : Nat) : Int)) ∧ ∃ m, w' = w.drewN m := by
  obtain ⟨G, hG⟩ : ∃ G, Nat.gcd x y = G := ⟨_, rfl⟩
  rw [hG]
  have HG := Lib.hid hG
  clear hG
  go_enter Try.func51, Try.ntmps51
  go_wp2
  go_loopw [0, 1] (fun a b wr => ∃ x y : Nat, a = .int .i64 (x : Int) ∧ b = .int .i64 (y : Int) ∧ x ≤ 1000 ∧ y ≤ 1000 ∧ Hid (Nat.gcd x y = G) ∧ Hid (∃ m, wr = w.drewN m)) (fun _ b _ => (intOf b).toNat)
  case atStart => exact ⟨x, y, rfl, rfl, hx, hy, HG, Lib.hid ⟨0, rfl⟩⟩
  case round =>
    clear hx hy HG
    obtain ⟨x, y, rfl, rfl, hx, hy, HG, HD⟩ := hrel
    by_cases h0 : y = 0
    · subst h0
      have hg := HG.out
      rw [Nat.gcd_zero_right] at hg
      subst hg
      go_wp2
      go_ret
      exact ⟨rfl, HD.out⟩
    · have hz : ((y : Int) != 0) = true := by simp; omega
      have hz2 : ((y : Int) == 0) = false := by simp; omega
      have hm : (x : Int).tmod (y : Int) = ((x % y : Nat) : Int) := by rw [Int.tmod_eq_emod_of_nonneg (by omega)]; simp
      have hlt := Nat.mod_lt x (show 0 < y by omega)
      have hg : Nat.gcd y (x % y) = G := by rw [← HG.out, Nat.gcd_comm x y, Nat.gcd_rec y x, Nat.gcd_comm]
      obtain ⟨r, hr⟩ : ∃ r, x % y = r := ⟨_, rfl⟩
      rw [hr] at hm hlt hg
      have hw : IntKind.i64.wrap (r : Int) = (r : Int) := IntWalk.i64_in _ (by omega)
      have hw2 : IntKind.i64.wrap ((x : Int).tmod (y : Int)) = (r : Int) := by rw [hm]; exact hw
      have HGG := Lib.hid hg
      clear hr hg
      go_wp2
      go_quiet (fail)
      go_wp2
      go_roundw
      case measure => simp [intOf]; omega
      case rel => exact ⟨y, r, rfl, by simp, hy, by omega, HGG, Lib.hid (by obtain ⟨m, rfl⟩ := HD.out; exact ⟨m + nq, by rw [World.drewN_drewN]⟩)⟩
end Go.Proofs.Ytchmdkdiilaejaa

/- Meet of the reference. -/
namespace Go.Proofs.Ytchmdkdiilaejaa
open Go.RowKit Go.Shelf

theorem meet_wrong {one two a o : Int} (h : one < 1 ∨ 50 < one ∨ two < 1 ∨ 50 < two ∨ a < 0 ∨ 500 < a ∨ o < 0 ∨ 500 < o) : meetAns one two a o = ((0, 0), 2) := by
  unfold meetAns
  rw [if_neg]
  intro hm
  have := meet_bounds hm
  omega
set_option maxRecDepth 100000 in
set_option maxHeartbeats 2000000 in
theorem refMeet_any (one two a o : Int) (w : World) :
    Calls Try.prog 35 #[.int .i64 one, .int .i64 two, .int .i64 a, .int .i64 o] w fun e w' => e = .returned (.tuple #[.int .i64 (meetAns one two a o).1.1, .int .i64 (meetAns one two a o).1.2, .int .i64 (meetAns one two a o).2]) ∧ Below w.heap.size w w' := by
  obtain ⟨ans, ha⟩ : ∃ ans, meetAns one two a o = ans := ⟨_, rfl⟩
  rw [ha]
  by_cases hbad : one < 1 ∨ 50 < one ∨ two < 1 ∨ 50 < two ∨ a < 0 ∨ 500 < a ∨ o < 0 ∨ 500 < o
  · have he := (ha.symm.trans (meet_wrong hbad))
    subst he
    clear ha
    by_cases h1 : one < 1
    · clear hbad
      go_enter Try.func35, Try.ntmps35
      go_wp2
      go_ret3
      exact ⟨rfl, Below.refl _ _⟩
    by_cases h2 : 50 < one
    · clear hbad
      go_enter Try.func35, Try.ntmps35
      go_wp2
      go_ret3
      exact ⟨rfl, Below.refl _ _⟩
    by_cases h3 : two < 1
    · clear hbad
      go_enter Try.func35, Try.ntmps35
      go_wp2
      go_ret3
      exact ⟨rfl, Below.refl _ _⟩
    by_cases h4 : 50 < two
    · clear hbad
      go_enter Try.func35, Try.ntmps35
      go_wp2
      go_ret3
      exact ⟨rfl, Below.refl _ _⟩
    by_cases h5 : a < 0
    · clear hbad
      go_enter Try.func35, Try.ntmps35
      go_wp2
      go_ret3
      exact ⟨rfl, Below.refl _ _⟩
    by_cases h6 : 500 < a
    · clear hbad
      go_enter Try.func35, Try.ntmps35
      go_wp2
      go_ret3
      exact ⟨rfl, Below.refl _ _⟩
    by_cases h7 : o < 0
    · clear hbad
      go_enter Try.func35, Try.ntmps35
      go_wp2
      go_ret3
      exact ⟨rfl, Below.refl _ _⟩
    by_cases h8 : 500 < o
    · clear hbad
      go_enter Try.func35, Try.ntmps35
      go_wp2
      go_ret3
      exact ⟨rfl, Below.refl _ _⟩
    exfalso
    omega
  · have hv : meetIn one two a o = true := by
      unfold meetIn
      simp [inside]
      omega
    have g1 : ¬ one < 1 := by omega
    have g2 : ¬ 50 < one := by omega
    have g3 : ¬ two < 1 := by omega
    have g4 : ¬ 50 < two := by omega
    have g5 : ¬ a < 0 := by omega
    have g6 : ¬ 500 < a := by omega
    have g7 : ¬ o < 0 := by omega
    have g8 : ¬ 500 < o := by omega
    clear hbad
    have hfar := meet_far (one := one) (two := two) (by omega) (by omega)
    obtain ⟨L, hLn⟩ : ∃ L : Nat, Int.lcm one two = L := ⟨_, rfl⟩
    have hL25 : L ≤ 2500 := by rw [← hLn]; exact lcm_le (by omega) (by omega)
    have hL1 : 1 ≤ L := by rw [← hLn]; exact Int.lcm_pos (by omega) (by omega)
    have hans : ans = if meetFirst one two a o < L then ((max a o + meetFirst one two a o, (L : Int)), 0) else ((0, 0), 5) := by
      rw [← ha]
      unfold meetAns
      rw [hv, hLn]
      rfl
    have hff : meetFirst one two a o = (List.range L).findIdx (meetAt one two a o) := by unfold meetFirst; rw [hLn]
    have hat : ∀ i : Nat, meetAt one two a o i = (decide ((max a o + i - a) % one = 0) && decide ((max a o + i - o) % two = 0)) := fun i => rfl
    rw [hLn] at hfar
    obtain ⟨x, rfl⟩ := Int.eq_ofNat_of_zero_le (by omega : 0 ≤ one)
    obtain ⟨y, rfl⟩ := Int.eq_ofNat_of_zero_le (by omega : 0 ≤ two)
    rw [show ((Int.gcd (x : Int) (y : Int) : Nat) : Int) = ((Nat.gcd x y : Nat) : Int) from rfl] at hfar
    have hgr := fun W : World => greatest_any x y (by omega) (by omega) W
    obtain ⟨g, hg⟩ : ∃ g, Nat.gcd x y = g := ⟨_, rfl⟩
    have hgx : g ∣ x := by rw [← hg]; exact Nat.gcd_dvd_left x y
    have hgp : 1 ≤ g := by rw [← hg]; exact Nat.gcd_pos_of_pos_left _ (by omega)
    rw [hg] at hfar hgr
    have hq0 := Int.ediv_nonneg (a := (x : Int)) (b := (g : Int)) (by omega) (by omega)
    have hq1 : (x : Int) / (g : Int) ≤ x := Int.ediv_le_self _ (by omega)
    obtain ⟨q, hqd⟩ : ∃ q, (x : Int) / (g : Int) = q := ⟨_, rfl⟩
    rw [hqd] at hfar hq0 hq1
    have hql : q * (y : Int) = (L : Int) := hfar.symm
    have hgz : ¬ (g : Int) = 0 := by omega
    have hz1 : ¬ (x : Int) = 0 := by omega
    have hz2 : ¬ (y : Int) = 0 := by omega
    clear hgx hg hfar ha hv hLn
    go_enter Try.func35, Try.ntmps35
    go_wp2_with fail
    refine (hgr _).mono ?_
    rintro e w1 ⟨rfl, hm⟩
    have HB := Lib.hid (show Below w.heap.size w w1 by obtain ⟨m, rfl⟩ := hm; exact ⟨rfl, rfl, rfl, Nat.le_refl _, fun _ _ => rfl⟩)
    clear hm hgr
    obtain ⟨k0, hk0⟩ : ∃ k0, meetFirst (x : Int) (y : Int) a o = k0 := ⟨_, rfl⟩
    rw [hk0] at hans hff
    obtain ⟨p, hp⟩ : ∃ p, meetAt (x : Int) (y : Int) a o = p := ⟨_, rfl⟩
    rw [hp] at hff hat
    by_cases hoa : o ≤ a
    · have hmx : max a o = a := by omega
      rw [hmx] at hans hat
      have HAN := Lib.hid (And.intro hans (And.intro hff hat))
      clear hans hff hat hk0 hp
      go_wp2
      clear hqd hql
      go_loopw [13] (fun i wq => ∃ k : Nat, i = .int .i64 (a + k) ∧ wq = w1 ∧ k ≤ L ∧ Hid (∀ i : Nat, i < k → p i = false)) (fun i _ => (a + L - intOf i).toNat)
      case atStart => exact ⟨0, by simp, rfl, Nat.zero_le _, Lib.hid fun i h => by omega⟩
      case round =>
        obtain ⟨k, rfl, rfl, hk, hN⟩ := hrel
        by_cases hlt : k < L
        · have hltz : (k : Int) < (L : Int) := by omega
          have hpk := HAN.out.2.2 k
          rw [show a + (k : Int) - a = (k : Int) from by omega] at hpk
          have step : p k = false → ∀ i : Nat, i < k + 1 → p i = false := fun hh i hi => by
            by_cases e : i = k
            · subst e; exact hh
            · exact hN.out i (by omega)
          have HS := Lib.hid step
          have ea : a + (k : Int) - a = (k : Int) := by omega
          clear step
          by_cases h1 : (k : Int) % (x : Int) = 0
          · have h1b := h1; rw [← ea] at h1b
            by_cases h2 : (a + (k : Int) - o) % (y : Int) = 0
            · skip
              rw [h1, h2] at hpk
              have hk0 : k0 = k := by
                rw [HAN.out.2.1]
                refine (List.findIdx_eq (by simpa using hlt)).2 ⟨by simpa using hpk, fun i hi => by simpa using hN.out i hi⟩
              have he := HAN.out.1
              rw [hk0, if_pos hlt] at he
              subst he
              clear hpk HS
              go_wp2
              go_ret3
              exact ⟨rfl, HB.out⟩
            · skip
              have HP := Lib.hid (show p k = false by rw [hpk]; simp [h2])
              clear hpk
              go_wp2
              go_roundw
              case measure => simp [intOf]; omega
              case rel => exact ⟨k + 1, by go_num, trivial, by omega, Lib.hid (HS.out HP.out)⟩
          · have h1b := h1; rw [← ea] at h1b
            have HP := Lib.hid (show p k = false by rw [hpk]; simp [h1])
            clear hpk
            go_wp2
            go_roundw
            case measure => simp [intOf]; omega
            case rel => exact ⟨k + 1, by go_num, trivial, by omega, Lib.hid (HS.out HP.out)⟩
        · have hltz : ¬ (k : Int) < (L : Int) := by omega
          have hk0 : ¬ k0 < L := fun h => by
            rw [HAN.out.2.1] at h
            have h3 : (List.range L).findIdx p < (List.range L).length := by simpa using h
            have h4 := List.findIdx_getElem (w := h3)
            simp only [List.getElem_range] at h4
            rw [hN.out _ (by omega)] at h4
            cases h4
          have he := HAN.out.1
          rw [if_neg hk0] at he
          subst he
          clear hk0
          go_wp2
          go_ret3
          exact ⟨rfl, HB.out⟩
    · have hmx : max a o = o := by omega
      have hoa2 : a < o := by omega
      rw [hmx] at hans hat
      have HAN := Lib.hid (And.intro hans (And.intro hff hat))
      clear hans hff hat hk0 hp
      go_wp2
      clear hqd hql
      go_loopw [13] (fun i wq => ∃ k : Nat, i = .int .i64 (o + k) ∧ wq = w1 ∧ k ≤ L ∧ Hid (∀ i : Nat, i < k → p i = false)) (fun i _ => (o + L - intOf i).toNat)
      case atStart => exact ⟨0, by simp, rfl, Nat.zero_le _, Lib.hid fun i h => by omega⟩
      case round =>
        obtain ⟨k, rfl, rfl, hk, hN⟩ := hrel
        by_cases hlt : k < L
        · have hltz : (k : Int) < (L : Int) := by omega
          have hpk := HAN.out.2.2 k
          rw [show o + (k : Int) - o = (k : Int) from by omega] at hpk
          have step : p k = false → ∀ i : Nat, i < k + 1 → p i = false := fun hh i hi => by
            by_cases e : i = k
            · subst e; exact hh
            · exact hN.out i (by omega)
          have HS := Lib.hid step
          have ea : o + (k : Int) - o = (k : Int) := by omega
          clear step
          by_cases h1 : (o + (k : Int) - a) % (x : Int) = 0
          · skip
            by_cases h2 : (k : Int) % (y : Int) = 0
            · have h2b := h2; rw [← ea] at h2b
              rw [h1, h2] at hpk
              have hk0 : k0 = k := by
                rw [HAN.out.2.1]
                refine (List.findIdx_eq (by simpa using hlt)).2 ⟨by simpa using hpk, fun i hi => by simpa using hN.out i hi⟩
              have he := HAN.out.1
              rw [hk0, if_pos hlt] at he
              subst he
              clear hpk HS
              go_wp2
              go_ret3
              exact ⟨rfl, HB.out⟩
            · have h2b := h2; rw [← ea] at h2b
              have HP := Lib.hid (show p k = false by rw [hpk]; simp [h2])
              clear hpk
              go_wp2
              go_roundw
              case measure => simp [intOf]; omega
              case rel => exact ⟨k + 1, by go_num, trivial, by omega, Lib.hid (HS.out HP.out)⟩
          · skip
            have HP := Lib.hid (show p k = false by rw [hpk]; simp [h1])
            clear hpk
            go_wp2
            go_roundw
            case measure => simp [intOf]; omega
            case rel => exact ⟨k + 1, by go_num, trivial, by omega, Lib.hid (HS.out HP.out)⟩
        · have hltz : ¬ (k : Int) < (L : Int) := by omega
          have hk0 : ¬ k0 < L := fun h => by
            rw [HAN.out.2.1] at h
            have h3 : (List.range L).findIdx p < (List.range L).length := by simpa using h
            have h4 := List.findIdx_getElem (w := h3)
            simp only [List.getElem_range] at h4
            rw [hN.out _ (by omega)] at h4
            cases h4
          have he := HAN.out.1
          rw [if_neg hk0] at he
          subst he
          clear hk0
          go_wp2
          go_ret3
          exact ⟨rfl, HB.out⟩
end Go.Proofs.Ytchmdkdiilaejaa
