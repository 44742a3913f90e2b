/- Texts of one package, joined: Met. -/
import Derived.Test.YtchmdkdiilaejaaC12
import Derived.Test.YtchmdkdiilaejaaC27
/- CombMet, walked. -/
namespace Go.Proofs.Ytchmdkdiilaejaa
open Go.RowKit Go.Shelf

set_option maxRecDepth 100000 in
set_option maxHeartbeats 4000000 in
theorem met_any (one two a o b : Int) (hb0 : 0 ≤ b) (hb1 : b ≤ 65535) (w : World) :
    Calls Try.prog 13 #[.int .i64 one, .int .i64 two, .int .i64 a, .int .i64 o, .int .u16 b] w fun e w' => e = .returned (.bool true) ∧ Ext w w' := by
  have hme := meet_any one two a o w
  have hrf := fun W : World => refMeet_any one two a o W
  by_cases hv : meetIn one two a o = true
  · obtain ⟨⟨⟨g1, g2⟩, g3, g4⟩, ⟨g5, g6⟩, g7, g8⟩ := meet_bounds hv
    have hfar := meet_far (one := one) (two := two) (by omega) (by omega)
    have hsome := meet_some (one := one) (two := two) (a := a) (o := o) (by omega) (by omega)
    have hat := fun h => meet_at (one := one) (two := two) (a := a) (o := o) h
    have hnone := fun (k : Int) h1 h2 => meet_none (one := one) (two := two) (a := a) (o := o) (k := k) h1 h2
    obtain ⟨L, hLn⟩ : ∃ L : Nat, Int.lcm one two = L := ⟨_, rfl⟩
    have hL25 : L ≤ 2500 := by rw [← hLn]; exact lcm_le (by omega) (by omega)
    have hL1 : 1 ≤ L := by rw [← hLn]; exact Int.lcm_pos (by omega) (by omega)
    have hans : meetAns one two a o = if meetFirst one two a o < L then ((max a o + meetFirst one two a o, (L : Int)), 0) else ((0, 0), 5) := by
      unfold meetAns
      rw [hv, hLn]
      rfl
    rw [hans] at hme
    rw [hLn] at hfar hsome hat
    clear hans hrf hv hLn
    obtain ⟨k0, hk0⟩ : ∃ k0, meetFirst one two a o = k0 := ⟨_, rfl⟩
    rw [hk0] at hme hsome hat hnone
    clear hk0
    obtain ⟨x, rfl⟩ := Int.eq_ofNat_of_zero_le (by omega : 0 ≤ one)
    obtain ⟨y, rfl⟩ := Int.eq_ofNat_of_zero_le (by omega : 0 ≤ two)
    rw [show ((Int.gcd (x : Int) (y : Int) : Nat) : Int) = ((Nat.gcd x y : Nat) : Int) from rfl] at hfar hsome
    have hgr := fun W : World => greatest_any x y (by omega) (by omega) W
    obtain ⟨g, hg⟩ : ∃ g, Nat.gcd x y = g := ⟨_, rfl⟩
    have hgp : 1 ≤ g := by rw [← hg]; exact Nat.gcd_pos_of_pos_left _ (by omega)
    rw [hg] at hfar hgr hsome
    have hq0 := Int.ediv_nonneg (a := (x : Int)) (b := (g : Int)) (by omega) (by omega)
    have hq1 : (x : Int) / (g : Int) ≤ x := Int.ediv_le_self _ (by omega)
    obtain ⟨q, hqd⟩ : ∃ q, (x : Int) / (g : Int) = q := ⟨_, rfl⟩
    rw [hqd] at hfar hq0 hq1
    have hql : q * (y : Int) = (L : Int) := hfar.symm
    have hgz : ¬ (g : Int) = 0 := by omega
    have hz1 : ¬ (x : Int) = 0 := by omega
    have hz2 : ¬ (y : Int) = 0 := by omega
    have i1 : ¬ (x : Int) < 1 := by omega
    have i2 : ¬ 50 < (x : Int) := by omega
    have i3 : ¬ (y : Int) < 1 := by omega
    have i4 : ¬ 50 < (y : Int) := by omega
    have i5 : ¬ a < 0 := by omega
    have i6 : ¬ 500 < a := by omega
    have i7 : ¬ o < 0 := by omega
    have i8 : ¬ 500 < o := by omega
    have htm : (a - o).tmod (g : Int) = 0 ↔ (g : Int) ∣ a - o := (Int.dvd_iff_tmod_eq_zero).symm
    clear hg hfar
    by_cases hlt : k0 < L
    · rw [if_pos hlt] at hme
      have hd := htm.2 (hsome.1 hlt)
      obtain ⟨hat1, hat2⟩ := hat hlt
      have HD := Lib.hid hd
      have HS := Lib.hid hnone
      clear htm hsome hat hnone hd
      have hlz : (k0 : Int) < (L : Int) := by omega
      by_cases hoa : o ≤ a
      · have hmx : max a o = a := by omega
        have HMX := Lib.hid hmx
        rw [hmx] at hme hat1 hat2
        clear hmx
        have c1 : (k0 : Int) % (x : Int) = 0 := by
          have := hat1
          rwa [show a + (k0 : Int) - a = (k0 : Int) from by omega] at this
        have hd : (a - o).tmod (g : Int) = 0 := HD.out
        have hd2 : 0 ≤ a - o → (a - o) % (g : Int) = 0 := fun h => by rw [← Int.tmod_eq_emod_of_nonneg h]; exact hd
        have hd3 := hd2 (by omega)
        clear hd2
        have t1 : ¬ a + (k0 : Int) < a := by omega
        have t2 : ¬ a + (L : Int) ≤ a + (k0 : Int) := by omega
        go_enter Try.func13, Try.ntmps13
        go_wp2_with fail
        refine hme.mono ?_
        rintro e w1 ⟨rfl, e1⟩
        have HE := Lib.hid (show Ext w w1 from e1)
        clear e1 hme
        dsimp only
        go_wp2_with fail
        refine (hgr _).mono ?_
        rintro e w2 ⟨rfl, hm⟩
        have HE := Lib.hid (HE.out.trans (show Ext w1 w2 by obtain ⟨m, rfl⟩ := hm; exact ⟨rfl, rfl, rfl, Nat.le_refl _, fun _ _ => rfl⟩))
        clear hm hgr
        by_cases hk : a + (k0 : Int) - 1 - b < a
        · go_wp2_with fail
          refine (works_any _).mono ?_
          rintro e w3 ⟨rfl, e3⟩
          have HE := Lib.hid (HE.out.trans e3)
          clear e3
          go_wp2
          go_ret
          exact ⟨rfl, HE.out⟩
        · have hnn := HS.out (a + (k0 : Int) - 1 - b) (by rw [HMX.out]; omega) (by rw [HMX.out]; omega)
          by_cases h1 : (a + (k0 : Int) - 1 - b - a) % (x : Int) = 0
          · have h2 : ¬ (a + (k0 : Int) - 1 - b - o) % (y : Int) = 0 := fun e => hnn ⟨h1, e⟩
            have H2 := Lib.hid h2
            clear hnn
            go_wp2_with fail
            refine (works_any _).mono ?_
            rintro e w3 ⟨rfl, e3⟩
            have HE := Lib.hid (HE.out.trans e3)
            clear e3
            go_wp2
            go_ret
            exact ⟨ret_bool (by have := H2.out; simp [this]), HE.out⟩
          · clear hnn
            go_wp2_with fail
            refine (works_any _).mono ?_
            rintro e w3 ⟨rfl, e3⟩
            have HE := Lib.hid (HE.out.trans e3)
            clear e3
            go_wp2
            go_ret
            exact ⟨rfl, HE.out⟩
      · have hao : a < o := by omega
        have hmx : max a o = o := by omega
        have HMX := Lib.hid hmx
        rw [hmx] at hme hat1 hat2
        clear hmx
        have c1 : (k0 : Int) % (y : Int) = 0 := by
          have := hat2
          rwa [show o + (k0 : Int) - o = (k0 : Int) from by omega] at this
        have hd : (a - o).tmod (g : Int) = 0 := HD.out
        have hd2 : 0 ≤ a - o → (a - o) % (g : Int) = 0 := fun h => by rw [← Int.tmod_eq_emod_of_nonneg h]; exact hd
        have hd3 : True := trivial
        clear hd2
        have t1 : ¬ o + (k0 : Int) < o := by omega
        have t2 : ¬ o + (L : Int) ≤ o + (k0 : Int) := by omega
        go_enter Try.func13, Try.ntmps13
        go_wp2_with fail
        refine hme.mono ?_
        rintro e w1 ⟨rfl, e1⟩
        have HE := Lib.hid (show Ext w w1 from e1)
        clear e1 hme
        dsimp only
        go_wp2_with fail
        refine (hgr _).mono ?_
        rintro e w2 ⟨rfl, hm⟩
        have HE := Lib.hid (HE.out.trans (show Ext w1 w2 by obtain ⟨m, rfl⟩ := hm; exact ⟨rfl, rfl, rfl, Nat.le_refl _, fun _ _ => rfl⟩))
        clear hm hgr
        by_cases hk : o + (k0 : Int) - 1 - b < o
        · go_wp2_with fail
          refine (works_any _).mono ?_
          rintro e w3 ⟨rfl, e3⟩
          have HE := Lib.hid (HE.out.trans e3)
          clear e3
          go_wp2
          go_ret
          exact ⟨rfl, HE.out⟩
        · have hnn := HS.out (o + (k0 : Int) - 1 - b) (by rw [HMX.out]; omega) (by rw [HMX.out]; omega)
          by_cases h1 : (o + (k0 : Int) - 1 - b - a) % (x : Int) = 0
          · have h2 : ¬ (o + (k0 : Int) - 1 - b - o) % (y : Int) = 0 := fun e => hnn ⟨h1, e⟩
            have H2 := Lib.hid h2
            clear hnn
            go_wp2_with fail
            refine (works_any _).mono ?_
            rintro e w3 ⟨rfl, e3⟩
            have HE := Lib.hid (HE.out.trans e3)
            clear e3
            go_wp2
            go_ret
            exact ⟨ret_bool (by have := H2.out; simp [this]), HE.out⟩
          · clear hnn
            go_wp2_with fail
            refine (works_any _).mono ?_
            rintro e w3 ⟨rfl, e3⟩
            have HE := Lib.hid (HE.out.trans e3)
            clear e3
            go_wp2
            go_ret
            exact ⟨rfl, HE.out⟩
    · rw [if_neg hlt] at hme
      have hd : ¬ (a - o).tmod (g : Int) = 0 := fun e => hlt (hsome.2 (htm.1 e))
      clear htm hsome hat hnone hlt
      go_enter Try.func13, Try.ntmps13
      go_wp2_with fail
      refine hme.mono ?_
      rintro e w1 ⟨rfl, e1⟩
      have HE := Lib.hid (show Ext w w1 from e1)
      clear e1 hme
      dsimp only
      have hd2 : 0 ≤ a - o → ¬ (a - o) % (g : Int) = 0 := fun h e => hd (by rw [Int.tmod_eq_emod_of_nonneg h]; exact e)
      by_cases hoa : o ≤ a
      · have hd3 := hd2 (by omega)
        have HD := Lib.hid hd
        have HD3 := Lib.hid hd3
        clear hd2
        go_wp2_with fail
        refine (hgr _).mono ?_
        rintro e w2 ⟨rfl, hm⟩
        have HE := Lib.hid (HE.out.trans (show Ext w1 w2 by obtain ⟨m, rfl⟩ := hm; exact ⟨rfl, rfl, rfl, Nat.le_refl _, fun _ _ => rfl⟩))
        clear hm hgr
        go_wp2_with fail
        refine (works_any _).mono ?_
        rintro e w3 ⟨rfl, e3⟩
        have HE := Lib.hid (HE.out.trans e3)
        clear e3
        go_wp2
        go_ret
        exact ⟨ret_bool (by have := HD.out; have := HD3.out; simp_all), HE.out⟩
      · have hd3 : True := trivial
        have HD := Lib.hid hd
        have HD3 := Lib.hid hd3
        clear hd2
        go_wp2_with fail
        refine (hgr _).mono ?_
        rintro e w2 ⟨rfl, hm⟩
        have HE := Lib.hid (HE.out.trans (show Ext w1 w2 by obtain ⟨m, rfl⟩ := hm; exact ⟨rfl, rfl, rfl, Nat.le_refl _, fun _ _ => rfl⟩))
        clear hm hgr
        go_wp2_with fail
        refine (works_any _).mono ?_
        rintro e w3 ⟨rfl, e3⟩
        have HE := Lib.hid (HE.out.trans e3)
        clear e3
        go_wp2
        go_ret
        exact ⟨ret_bool (by have := HD.out; have := HD3.out; simp_all), HE.out⟩
  · have hans : meetAns one two a o = ((0, 0), 2) := by
      unfold meetAns
      rw [if_neg hv]
    rw [hans] at hme hrf
    clear hans hv
    dsimp only at hme hrf
    go_enter Try.func13, Try.ntmps13
    go_wp2_with fail
    refine hme.mono ?_
    rintro e w1 ⟨rfl, e1⟩
    have HE := Lib.hid (show Ext w w1 from e1)
    clear e1 hme
    go_wp2_with fail
    refine (hrf _).mono ?_
    rintro e w2 ⟨rfl, e2⟩
    have HE := Lib.hid (HE.out.trans e2)
    clear e2 hrf
    go_wp2_with fail
    refine (works_any _).mono ?_
    rintro e w3 ⟨rfl, e3⟩
    have HE := Lib.hid (HE.out.trans e3)
    clear e3
    go_wp2
    go_ret
    exact ⟨rfl, HE.out⟩
end Go.Proofs.Ytchmdkdiilaejaa
