/- Texts of one package, joined: Proved. -/
import Derived.Test.YtchmdkdiilaejaaC39
/- CombProved, walked. -/
namespace Go.Proofs.Ytchmdkdiilaejaa
open Go.RowKit Go.Shelf
attribute [local irreducible] bitCells fitCells Z94 fitOf

set_option maxRecDepth 100000 in
set_option maxHeartbeats 8000000 in
theorem proved_any {A : Option Addr} {n c : Nat} {A' : Option Addr} {n' c' : Nat} {cs ms : List (Int × Int)} {w : World} (hb : IsSheet w w.heap.size A n c A' n' c' cs ms)
    (A1 : Option Addr) (k1 c1 : Nat) (ys : List (Int × Int)) (hk1 : k1 = ys.length) (hm1 : k1 ≤ 9223372036854775807) (hh1 : Held w w.heap.size 2 encS A1 ys)
    (A2 : Option Addr) (k2 c2 : Nat) (xs : List Int) (hk2 : k2 = xs.length) (hm2 : k2 ≤ 9223372036854775807) (hh2 : Held w w.heap.size 1 encI A2 xs) :
    Calls Try.prog 7 #[.agg #[.slice A n c, .slice A' n' c'], .slice A1 k1 c1, .slice A2 k2 c2] w fun e w' => e = .returned (.bool true) ∧ Ext w w' := by
  have hX0 := SheetAt.new hb
  have hE0 : Ext w (w.alloc (.cells #[.slice A n c, .slice A' n' c'] 25)) := ext_alloc w _
  have HN := Lib.hid (And.intro hb.nms (And.intro hk1 hk2))
  have H1 := Lib.hid ((hh1.kept hE0 (Nat.le_refl _)).wider hE0.size)
  have H2 := Lib.hid ((hh2.kept hE0 (Nat.le_refl _)).wider hE0.size)
  clear hb hk1 hk2 hh1 hh2
  go_enter Try.func7, Try.ntmps7
  go_upto_region 1 with fail
  obtain ⟨w0, hw0⟩ : ∃ w0, w.alloc (.cells #[.slice A n c, .slice A' n' c'] 25) = w0 := ⟨_, rfl⟩
  rw [hw0] at hX0 hE0 H1 H2
  rw [hw0]
  obtain ⟨p, hp⟩ : ∃ p, w.heap.size = p := ⟨_, rfl⟩
  have HE := Lib.hid hE0
  rw [hp] at hX0
  rw [hp]
  have HX := Lib.hid hX0
  clear hw0 hE0 hp hX0
  obtain ⟨q0, q1⟩ := HX.out.cells
  have h39 := fine_any HX.out.sheet
  by_cases h0 : sheetErr cs ms = 0
  · rw [decide_eq_true h0] at h39
    have HS := Lib.hid h0
    clear h0
    go_wp2_with (fail)
    refine h39.mono ?_
    rintro e w1 ⟨rfl, e1⟩
    have HE := Lib.hid (HE.out.trans e1)
    have HX := Lib.hid (HX.out.ext e1)
    have H1 := Lib.hid (Held.ext H1.out e1)
    have H2 := Lib.hid (Held.ext H2.out e1)
    clear e1 h39 q0 q1
    by_cases g1 : 30 < (k1 : Int)
    · go_wp2_with fail
      refine (works_any _).mono ?_
      rintro e w2 ⟨rfl, e2⟩
      have HE := Lib.hid (HE.out.trans e2)
      clear e2
      go_wp2
      go_ret
      exact ⟨rfl, HE.out⟩
    · by_cases g2 : 20 < (k2 : Int)
      · go_wp2_with fail
        refine (works_any _).mono ?_
        rintro e w2 ⟨rfl, e2⟩
        have HE := Lib.hid (HE.out.trans e2)
        clear e2
        go_wp2
        go_ret
        exact ⟨rfl, HE.out⟩
      · obtain ⟨q0, q1⟩ := HX.out.cells
        have h40 := best_any HX.out.sheet
        go_wp2_with fail
        refine h40.mono ?_
        intro e w2 hp2
        obtain ⟨e2, A3, m3, c3, rfl, hm3, hl3, hh3⟩ := post_best hp2
        have HE := Lib.hid (HE.out.trans e2)
        have HX := Lib.hid (HX.out.ext e2)
        have H1 := Lib.hid (Held.ext H1.out e2)
        have H2 := Lib.hid (Held.ext H2.out e2)
        have H3 := Lib.hid hh3
        have HM3 := Lib.hid (And.intro hm3 hl3)
        clear e2 h40 q0 q1 hp2 hh3 hm3 hl3 g1 g2
        obtain ⟨q0, q1⟩ := HX.out.cells
        have h28 := apart_any HX.out.sheet
        go_wp2_with fail
        refine h28.mono ?_
        intro e w3 hp2
        obtain ⟨e2, A4, m4, c4, rfl, hm4, hl4, hh4⟩ := post_apart HS.out hp2
        have HE := Lib.hid (HE.out.trans e2)
        have HX := Lib.hid (HX.out.ext e2)
        have H1 := Lib.hid (Held.ext H1.out e2)
        have H2 := Lib.hid (Held.ext H2.out e2)
        have H3 := Lib.hid (Held.ext H3.out e2)
        have H4 := Lib.hid hh4
        have HM4 := Lib.hid (And.intro hm4 hl4)
        clear e2 h28 q0 q1 hp2 hh4 hm4 hl4
        obtain ⟨G, hG⟩ : ∃ G, rowsErr cs ms ys = G := ⟨_, rfl⟩
        obtain ⟨K, hK⟩ : ∃ K, apartErr cs ms xs = K := ⟨_, rfl⟩
        have HG := Lib.hid hG
        have HK := Lib.hid hK
        clear hG hK
        go_upto_region 5 with fail
        refine pv5_wp (p := p) (A := A) (n := n) (c := c) (A' := A') (n' := n') (c' := c') (vr := .slice A1 k1 c1) (vm := .slice A2 k2 c2) (G := G) (HH := K) rfl rfl rfl rfl
          (fun W hW => (HX.out.ext hW).cells.1) (fun W hW => (HX.out.ext hW).cells.2)
          (fun W hW => by rw [← HG.out]; exact checkRows_any (HX.out.ext hW).sheet A1 k1 c1 ys HN.out.2.1 hm1 (Held.ext H1.out hW))
          (fun W hW => by rw [← HK.out]; exact checkApart_any (HX.out.ext hW).sheet A2 k2 c2 xs HN.out.2.2 hm2 (Held.ext H2.out hW)) ?_
        intro w4 v2 v5 e4 _ _
        have hdr : pv5Reg.toList.drop 8 = [] := List.drop_eq_nil_of_le (by rw [Array.length_toList]; exact Nat.le_of_eq (by kernel_rfl))
        rw [hdr]
        simp only [wpList, puts, List.foldl_cons, List.foldl_nil, Act.put, List.setIfInBounds_toArray, List.set_cons_succ, List.set_cons_zero]
        have HE := Lib.hid (HE.out.trans e4)
        have HX := Lib.hid (HX.out.ext e4)
        have H3 := Lib.hid (Held.ext H3.out e4)
        have H4 := Lib.hid (Held.ext H4.out e4)
        clear hdr e4 H1 H2
        have hap := apart_good HS.out
        have HM := Lib.hid (fun h => apart_most (cs := cs) (ms := ms) (xs := xs) h)
        have HF := Lib.hid (fun h => apart_few (cs := cs) (ms := ms) h)
        have hm49 : m4 ≤ 9223372036854775807 := by have := HM4.out.2; omega
        have hm4e := HM4.out.1
        obtain ⟨zs, has⟩ : ∃ zs, (apartTo cs ms ms.length).map (fun j : Nat => (j : Int)) = zs := ⟨_, rfl⟩
        rw [has] at H4 hap
        have hasl : m4 = zs.length := by rw [hm4e, ← has, List.length_map]
        have HAL := Lib.hid hasl
        have HAP := Lib.hid hap
        clear hm4e has hasl hap
        obtain ⟨q0, q1⟩ := HX.out.cells
        have h30 := checkApart_any HX.out.sheet A4 m4 c4 zs HAL.out hm49 H4.out
        rw [HAP.out] at h30
        go_wp2_with fail
        refine h30.mono ?_
        rintro e w5 ⟨rfl, e5⟩
        have HE := Lib.hid (HE.out.trans e5)
        have HX := Lib.hid (HX.out.ext e5)
        have H3 := Lib.hid (Held.ext H3.out e5)
        have H4 := Lib.hid (Held.ext H4.out e5)
        clear e5 h30 q0 q1
        obtain ⟨q0, q1⟩ := HX.out.cells
        have h31 := refApart_any HX.out.sheet A4 m4 c4 zs HAL.out hm49 H4.out
        rw [HAP.out] at h31
        go_wp2_with fail
        refine h31.mono ?_
        rintro e w6 ⟨rfl, e6⟩
        have HE := Lib.hid (HE.out.trans e6)
        have HX := Lib.hid (HX.out.ext e6)
        have H3 := Lib.hid (Held.ext H3.out e6)
        clear e6 h31 q0 q1 H4
        obtain ⟨q0, q1⟩ := HX.out.cells
        have hkm : K = 0 → ¬ (m4 : Int) < (k2 : Int) := fun h => by
          have h1 := HM.out (by rw [HK.out, h])
          have h2 := HM4.out.1
          have h3 := HN.out.2.2
          omega
        obtain ⟨er, her⟩ : ∃ er, wholeErr cs ms = er := ⟨_, rfl⟩
        have HW := Lib.hid her
        have hwc := whole_cases HS.out
        rw [her] at hwc
        have hm3 := HM3.out.1
        rw [her] at hm3 H3
        rw [her]
        have HM3' := Lib.hid hm3
        have HWC := Lib.hid hwc
        clear her hwc hm3
        -- what follows once the marks are seen
        have fin : K = 0 ∨ ¬ K = 0 := Classical.em _
        rcases fin with hk0 | hk0
        all_goals have HK0 := Lib.hid hk0
        · have hkm := hkm hk0
          subst hk0
          clear HK0
          rcases HWC.out with hw | hw
          · subst hw
            have hm3 := HM3'.out
            have h3 := H3.out
            rw [if_pos rfl] at hm3 h3
            have hl3 : m3 = (bestRows cs ms).length := by rw [hm3, List.length_map]
            have hbf := best_few HW.out
            have haf := HF.out HW.out
            have t1 : ¬ (m3 : Int) < (m4 : Int) := by have := HM4.out.1; omega
            have t2 : ¬ (n' : Int) < (m3 : Int) := by have := HN.out.1; omega
            have HG3 := Lib.hid (show G = 0 → ¬ (k1 : Int) < (m3 : Int) from fun h => by
              have h1 := (rows_best (cs := cs) (ms := ms) (ys := ys) (by rw [HG.out, h])).2
              have h2 := HN.out.2.1
              omega)
            have hm39 : m3 ≤ 9223372036854775807 := by have := HM3.out.2; omega
            have H3 := Lib.hid h3
            have HL3 := Lib.hid hm3
            have h41 := checkRows_any HX.out.sheet A3 m3 c3 _ HL3.out hm39 H3.out
            rw [best_ok HW.out] at h41
            clear hm3 h3 hl3 hbf haf
            go_wp2_with fail
            refine h41.mono ?_
            rintro e w7 ⟨rfl, e7⟩
            have HE := Lib.hid (HE.out.trans e7)
            have HX := Lib.hid (HX.out.ext e7)
            have H3 := Lib.hid (Held.ext H3.out e7)
            clear e7 h41 q0 q1
            obtain ⟨q0, q1⟩ := HX.out.cells
            have h42 := refCheck_any HX.out.sheet A3 m3 c3 _ HL3.out hm39 H3.out
            rw [best_ok HW.out] at h42
            go_wp2_with fail
            refine h42.mono ?_
            rintro e w8 ⟨rfl, e8⟩
            have HE := Lib.hid (HE.out.trans e8)
            have HX := Lib.hid (HX.out.ext e8)
            clear e8 h42 q0 q1 H3
            obtain ⟨q0, q1⟩ := HX.out.cells
            by_cases hg0 : G = 0
            · have t3 := HG3.out hg0
              have t4 : (m3 : Int) ≤ (k1 : Int) := by omega
              subst hg0
              go_wp2_with fail
              refine (works_any _).mono ?_
              rintro e w9 ⟨rfl, e9⟩
              have HE := Lib.hid (HE.out.trans e9)
              clear e9
              go_wp2
              go_ret
              exact ⟨rfl, HE.out⟩
            · have hgb : (G == 0) = false := by simpa using hg0
              go_wp2_with fail
              refine (works_any _).mono ?_
              rintro e w9 ⟨rfl, e9⟩
              have HE := Lib.hid (HE.out.trans e9)
              clear e9
              go_wp2
              go_ret
              exact ⟨rfl, HE.out⟩
          · subst hw
            have hm3 := HM3'.out
            rw [if_neg (by decide)] at hm3
            have hm30 : m3 = 0 := hm3
            subst hm30
            have hg0 : ¬ G = 0 := fun h => by
              have h1 := (rows_best (cs := cs) (ms := ms) (ys := ys) (by rw [HG.out, h])).1
              rw [HW.out] at h1
              cases h1
            have hgb : (G == 0) = false := by simpa using hg0
            clear hm3 H3
            have HG0 := Lib.hid hg0
            go_wp2_with fail
            refine (works_any _).mono ?_
            rintro e w9 ⟨rfl, e9⟩
            have HE := Lib.hid (HE.out.trans e9)
            clear e9
            go_wp2
            go_ret
            exact ⟨ret_bool (by have := HG0.out; simp [this]), HE.out⟩
        · have hk0b : (K == 0) = false := by simpa using hk0
          clear hkm
          rcases HWC.out with hw | hw
          · subst hw
            have hm3 := HM3'.out
            have h3 := H3.out
            rw [if_pos rfl] at hm3 h3
            have hl3 : m3 = (bestRows cs ms).length := by rw [hm3, List.length_map]
            have hbf := best_few HW.out
            have haf := HF.out HW.out
            have t1 : ¬ (m3 : Int) < (m4 : Int) := by have := HM4.out.1; omega
            have t2 : ¬ (n' : Int) < (m3 : Int) := by have := HN.out.1; omega
            have HG3 := Lib.hid (show G = 0 → ¬ (k1 : Int) < (m3 : Int) from fun h => by
              have h1 := (rows_best (cs := cs) (ms := ms) (ys := ys) (by rw [HG.out, h])).2
              have h2 := HN.out.2.1
              omega)
            have hm39 : m3 ≤ 9223372036854775807 := by have := HM3.out.2; omega
            have H3 := Lib.hid h3
            have HL3 := Lib.hid hm3
            have h41 := checkRows_any HX.out.sheet A3 m3 c3 _ HL3.out hm39 H3.out
            rw [best_ok HW.out] at h41
            clear hm3 h3 hl3 hbf haf
            go_wp2_with fail
            refine h41.mono ?_
            rintro e w7 ⟨rfl, e7⟩
            have HE := Lib.hid (HE.out.trans e7)
            have HX := Lib.hid (HX.out.ext e7)
            have H3 := Lib.hid (Held.ext H3.out e7)
            clear e7 h41 q0 q1
            obtain ⟨q0, q1⟩ := HX.out.cells
            have h42 := refCheck_any HX.out.sheet A3 m3 c3 _ HL3.out hm39 H3.out
            rw [best_ok HW.out] at h42
            go_wp2_with fail
            refine h42.mono ?_
            rintro e w8 ⟨rfl, e8⟩
            have HE := Lib.hid (HE.out.trans e8)
            have HX := Lib.hid (HX.out.ext e8)
            clear e8 h42 q0 q1 H3
            obtain ⟨q0, q1⟩ := HX.out.cells
            by_cases hg0 : G = 0
            · have t3 := HG3.out hg0
              have t4 : (m3 : Int) ≤ (k1 : Int) := by omega
              subst hg0
              go_wp2_with fail
              refine (works_any _).mono ?_
              rintro e w9 ⟨rfl, e9⟩
              have HE := Lib.hid (HE.out.trans e9)
              clear e9
              go_wp2
              go_ret
              exact ⟨rfl, HE.out⟩
            · have hgb : (G == 0) = false := by simpa using hg0
              go_wp2_with fail
              refine (works_any _).mono ?_
              rintro e w9 ⟨rfl, e9⟩
              have HE := Lib.hid (HE.out.trans e9)
              clear e9
              go_wp2
              go_ret
              exact ⟨rfl, HE.out⟩
          · subst hw
            have hm3 := HM3'.out
            rw [if_neg (by decide)] at hm3
            have hm30 : m3 = 0 := hm3
            subst hm30
            have hg0 : ¬ G = 0 := fun h => by
              have h1 := (rows_best (cs := cs) (ms := ms) (ys := ys) (by rw [HG.out, h])).1
              rw [HW.out] at h1
              cases h1
            have hgb : (G == 0) = false := by simpa using hg0
            clear hm3 H3
            have HG0 := Lib.hid hg0
            go_wp2_with fail
            refine (works_any _).mono ?_
            rintro e w9 ⟨rfl, e9⟩
            have HE := Lib.hid (HE.out.trans e9)
            clear e9
            go_wp2
            go_ret
            exact ⟨ret_bool (by have := HG0.out; simp [this]), HE.out⟩
  · rw [decide_eq_false h0] at h39
    clear h0
    go_wp2_with (fail)
    refine h39.mono ?_
    rintro e w1 ⟨rfl, e1⟩
    have HE := Lib.hid (HE.out.trans e1)
    clear e1 h39 q0 q1
    go_wp2_with fail
    refine (works_any _).mono ?_
    rintro e w2 ⟨rfl, e2⟩
    have HE := Lib.hid (HE.out.trans e2)
    clear e2
    go_wp2
    go_ret
    exact ⟨rfl, HE.out⟩
end Go.Proofs.Ytchmdkdiilaejaa
