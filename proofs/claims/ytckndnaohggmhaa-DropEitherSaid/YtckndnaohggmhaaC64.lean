/- Texts of the package drop, joined: DropEither. -/
import Derived.Test.YtckndnaohggmhaaC20
import Derived.Test.YtckndnaohggmhaaC27
import Derived.Test.YtckndnaohggmhaaC40
import Derived.Test.YtckndnaohggmhaaC45
import Derived.Test.YtckndnaohggmhaaC49
import Derived.Test.YtckndnaohggmhaaC63
import Derived.Deep.CutRange
import Derived.StillTailTactics
import Derived.IntWalk
/- DropEither: the walk. -/
namespace Go.Proofs.Ytckndnaohggmhaa
open Go.RowKit Go.Shelf

section
variable {w : World} {Wd : Int} {A : Option Addr} {n c : Nat} {A' : Option Addr} {n' c' : Nat} {ss : List (Int × Int)} {ds : List (Int × Int × Int)}

set_option maxRecDepth 100000 in
set_option maxHeartbeats 8000000 in
theorem dropEither_any (L : Option Addr) (m cL : Nat) (bs : List Int) (x y : Int) (LW : Option Addr) (kw cw : Nat) (xs : List Int) (LS : Option Addr) (ks cs : Nat) (ys : List Int) (sure : Bool) (hx : 0 ≤ x ∧ x ≤ 255) (hy : 0 ≤ y ∧ y ≤ 255) (hb : IsBath w w.heap.size A n c A' n' c' ss ds)
    (hm : m = bs.length) (hmm : m ≤ 9223372036854775807) (hL : Held w w.heap.size 1 encU L bs) (hbd : ∀ i, 0 ≤ bs.getD i 0 ∧ bs.getD i 0 ≤ 65535) (hkw : kw = xs.length) (hkwm : kw ≤ 9223372036854775807) (hW : Held w w.heap.size 1 encI LW xs) (hks : ks = ys.length) (hksm : ks ≤ 9223372036854775807) (hS : Held w w.heap.size 1 encI LS ys) :
    Calls Try.prog 9 #[.agg #[.int .i64 Wd, .slice A n c, .slice A' n' c'], .slice L m cL, .agg #[.int .u8 x, .int .u8 y], .slice LW kw cw, .slice LS ks cs, .bool sure] w fun e w' => e = .returned (.bool true) ∧ Ext w w' := by
  have hX0 : BathAt (w.alloc (.cells #[.int .i64 Wd, .slice A n c, .slice A' n' c'] 25)) w.heap.size Wd A n c A' n' c' ss ds := BathAt.new hb
  have hE0 : Ext w (w.alloc (.cells #[.int .i64 Wd, .slice A n c, .slice A' n' c'] 25)) := ext_alloc w _
  have HN := Lib.hid (And.intro hb.nss hb.nds)
  have HM := Lib.hid (And.intro hm (And.intro hkw hks))
  clear hm hkw hks
  go_enter Try.func9, Try.ntmps9
  go_upto_region 1 with fail
  obtain ⟨w0, hw0⟩ : ∃ w0, (w.alloc (.cells #[.int .i64 Wd, .slice A n c, .slice A' n' c'] 25)).alloc (.cells #[.int .u8 x, .int .u8 y] 54) = w0 := ⟨_, rfl⟩
  have r1 : w0.heap[w.heap.size + 1]? = some (.cells #[.int .u8 x, .int .u8 y] 54 (0, 0)) := by rw [← hw0]; exact row_last _ _ _ (by simp)
  have e3 : Ext (w.alloc (.cells #[.int .i64 Wd, .slice A n c, .slice A' n' c'] 25)) w0 := by rw [← hw0]; exact ext_alloc _ _
  have hx0 := hX0.ext e3
  have he0 := hE0.trans e3
  have HL := Lib.hid (hL.ext he0)
  have HW := Lib.hid (hW.ext he0)
  have HS := Lib.hid (hS.ext he0)
  rw [hw0]
  clear hX0 hE0 e3 hw0 hL hW hS
  obtain ⟨pp, hpp⟩ : ∃ pp, w.heap.size + 1 = pp := ⟨_, rfl⟩
  rw [hpp] at r1 ⊢
  obtain ⟨p, hp⟩ : ∃ p, w.heap.size = p := ⟨_, rfl⟩
  rw [hp] at hx0 ⊢
  have HP := Lib.hid r1
  have HE0 := Lib.hid he0
  have HX0 := Lib.hid hx0
  have HBD := Lib.hid hbd
  have cF := fine_any (Wd := Wd) hx0.bath
  clear hp hpp r1 he0 hb hbd
  obtain ⟨q0, q1, q2⟩ := hx0.cells
  cases hf : fineB Wd ss ds with
  | false =>
    rw [hf] at cF
    clear hf hx0 HX0
    go_wp2_with fail
    refine cF.mono ?_
    rintro e w1 ⟨rfl, e1⟩
    have HE := Lib.hid (HE0.out.trans e1)
    clear HE0 e1 cF q0 q1 q2
    go_wp2_with fail
    refine (works_any _).mono ?_
    rintro e v9 ⟨rfl, f9⟩
    go_wp2
    go_ret
    exact ⟨rfl, HE.out.trans f9⟩
  | true =>
    rw [hf] at cF
    have h0 : bathErr Wd ss ds = 0 := of_decide_eq_true hf
    clear hf hx0
    by_cases hm60 : 60 < m
    · have hz : (60 : Int) < (m : Int) := by omega
      clear h0 HX0
      go_wp2_with fail
      refine cF.mono ?_
      rintro e w1 ⟨rfl, e1⟩
      have HE := Lib.hid (HE0.out.trans e1)
      clear HE0 e1 cF q0 q1 q2
      go_wp2_with fail
      refine (works_any _).mono ?_
      rintro e v9 ⟨rfl, f9⟩
      go_wp2
      go_ret
      exact ⟨rfl, HE.out.trans f9⟩
    have hz1 : ¬ (60 : Int) < (m : Int) := by omega
    by_cases hw20 : 20 < kw
    · have hz : (20 : Int) < (kw : Int) := by omega
      clear h0 HX0
      go_wp2_with fail
      refine cF.mono ?_
      rintro e w1 ⟨rfl, e1⟩
      have HE := Lib.hid (HE0.out.trans e1)
      clear HE0 e1 cF q0 q1 q2
      go_wp2_with fail
      refine (works_any _).mono ?_
      rintro e v9 ⟨rfl, f9⟩
      go_wp2
      go_ret
      exact ⟨rfl, HE.out.trans f9⟩
    have hz2 : ¬ (20 : Int) < (kw : Int) := by omega
    by_cases hs20 : 20 < ks
    · have hz : (20 : Int) < (ks : Int) := by omega
      clear h0 HX0
      go_wp2_with fail
      refine cF.mono ?_
      rintro e w1 ⟨rfl, e1⟩
      have HE := Lib.hid (HE0.out.trans e1)
      clear HE0 e1 cF q0 q1 q2
      go_wp2_with fail
      refine (works_any _).mono ?_
      rintro e v9 ⟨rfl, f9⟩
      go_wp2
      go_ret
      exact ⟨rfl, HE.out.trans f9⟩
    have hz3 : ¬ (20 : Int) < (ks : Int) := by omega
    have hn10 : n ≤ 10 := by have := (bath_ok h0).2.1.1; have := HN.out; omega
    have hn40 : n' ≤ 40 := by have := (bath_ok h0).2.1.2; have := HN.out; omega
    have h1 := placeOf_bd n x
    have h2 := otherOf_bd n x y
    have hne := otherOf_ne n x y
    have c43 : ∀ W : World, IsBath W W.heap.size A n c A' n' c' ss ds → Calls Try.prog 43 #[.agg #[.int .i64 Wd, .slice A n c, .slice A' n' c'], .agg #[.int .u8 x, .int .u8 y]] W fun e w' => e = .returned (.tuple #[.int .i64 (placeOf n x), .int .i64 (otherOf n x y)]) ∧ Ext W w' := fun W hW => two_any x y hx hy hn10 hW
    obtain ⟨one, hone⟩ : ∃ one, placeOf n x = one := ⟨_, rfl⟩
    obtain ⟨two, htwo⟩ : ∃ two, otherOf n x y = two := ⟨_, rfl⟩
    rw [hone] at c43 h1 hne
    rw [htwo] at c43 h2 hne
    have he : forErr Wd ss ds one two = 0 := by
      have := HN.out.1
      unfold forErr
      rw [if_pos h0, if_pos ⟨hne, by simp; omega, by simp; omega⟩]
    have HH := Lib.hid (And.intro h0 he)
    obtain ⟨v3, hv3⟩ : ∃ v3, checkSideAns Wd ss ds one two ys sure = v3 := ⟨_, rfl⟩
    obtain ⟨v4, hv4⟩ : ∃ v4, checkWayAns Wd ss ds xs sure = v4 := ⟨_, rfl⟩
    have c39 : ∀ W : World, IsBath W W.heap.size A n c A' n' c' ss ds → Held W W.heap.size 1 encI LS ys → Calls Try.prog 39 #[.agg #[.int .i64 Wd, .slice A n c, .slice A' n' c'], .int .i64 one, .int .i64 two, .slice LS ks cs, .bool sure] W fun e w' => e = .returned (.int .i64 v3) ∧ Ext W w' := fun W hW hh => by
      have := checkSide_any (Wd := Wd) one two LS ks cs ys sure hW HM.out.2.2 (by omega) hh
      rw [hv3] at this
      exact this
    have c32 : ∀ W : World, IsBath W W.heap.size A n c A' n' c' ss ds → Held W W.heap.size 1 encI LW xs → Calls Try.prog 32 #[.agg #[.int .i64 Wd, .slice A n c, .slice A' n' c'], .slice LW kw cw, .bool sure] W fun e w' => e = .returned (.int .i64 v4) ∧ Ext W w' := fun W hW hh => by
      have := checkWay_any (Wd := Wd) LW kw cw xs sure hW HM.out.2.1 (by omega) hh
      rw [hv4] at this
      exact this
    have HV := Lib.hid (And.intro hv3 hv4)
    clear hv3 hv4 hone htwo h0 hne hm60 hw20 hs20 hmm hkwm hksm hx hy
    by_cases ho : outs (tableOf Wd ss ds sure) (ss.length + 2) (two + 2).toNat (ss.length + 1) (one + 2).toNat = 0
    · have hg : goesB (tableOf Wd ss ds sure) (one + 2).toNat (two + 2).toNat = false := by
        cases hgg : goesB (tableOf Wd ss ds sure) (one + 2).toNat (two + 2).toNat with
        | false => rfl
        | true => exact absurd ho ((way_outs he).2 hgg)
      have c29 : ∀ W : World, IsBath W W.heap.size A n c A' n' c' ss ds → Calls Try.prog 29 #[.agg #[.int .i64 Wd, .slice A n c, .slice A' n' c'], .int .i64 one, .int .i64 two, .bool sure] W fun e w' => e = .returned (.tuple #[.slice none 0 0, .int .i64 5]) ∧ Ext W w' := fun W hW => by
        refine (bigWay_any (Wd := Wd) one two sure hW).mono ?_
        rintro e w' ⟨hE, h | h | h⟩
        · exact absurd HH.out.2 h.1
        · exact ⟨h.2.2, hE⟩
        · exact absurd ho h.2.1
      obtain ⟨zs, hzs⟩ : ∃ zs, listTo (goesB (tableOf Wd ss ds sure) (one + 2).toNat) 12 = zs := ⟨_, rfl⟩
      obtain ⟨kz, hkz⟩ : ∃ kz, zs.length = kz := ⟨_, rfl⟩
      have hz12 : kz ≤ 12 := by
        rw [← hkz, ← hzs]
        unfold listTo
        exact Nat.le_trans (List.length_filterMap_le _ _) (by simp)
      have c34 : ∀ W : World, IsBath W W.heap.size A n c A' n' c' ss ds → Calls Try.prog 34 #[.agg #[.int .i64 Wd, .slice A n c, .slice A' n' c'], .int .i64 one, .int .i64 two, .bool sure] W fun e w' => ∃ az cz, e = .returned (.tuple #[.slice az kz cz, .int .i64 0]) ∧ Held w' w'.heap.size 1 encI az zs ∧ Ext W w' := fun W hW => by
        refine (side_any (Wd := Wd) one two sure hW).mono ?_
        intro e w' hp
        obtain ⟨hE, h | h | h⟩ := side_reach hp
        · exact absurd HH.out.2 h.1
        · rw [hg] at h; exact absurd h.2.1 (by simp)
        · obtain ⟨_, _, v, rfl, hM⟩ := h
          obtain ⟨az, cz, rfl, _, hh⟩ := madeInts_held hM
          rw [hzs] at hh ⊢
          rw [hkz]
          exact ⟨az, cz, rfl, hh, hE⟩
      have hs0 := side_some he hg
      rw [hzs] at hs0
      have HS0 := Lib.hid (And.intro hs0 (And.intro ho hkz))
      clear hs0 ho hg hzs hkz he
      go_wp2_with fail
      refine cF.mono ?_
      rintro e w1 ⟨rfl, e1⟩
      have hx1 := HX0.out.ext e1
      have g0 : w1.cell? ⟨pp, 0, none⟩ = some (.int .u8 x) := cell_of_row _ _ _ _ _ _ (row_ext HP.out e1)
      have g1 : w1.cell? ⟨pp, 1, none⟩ = some (.int .u8 y) := cell_of_row _ _ _ _ _ _ (row_ext HP.out e1)
      clear q0 q1 q2 cF
      obtain ⟨q0, q1, q2⟩ := hx1.cells
      go_wp2_with fail
      refine (c43 _ hx1.bath).mono ?_
      rintro e w2 ⟨rfl, e2⟩
      have hx2 := hx1.ext e2
      clear q0 q1 q2 c43 hx1 g0 g1
      obtain ⟨q0, q1, q2⟩ := hx2.cells
      go_wp2_with fail
      refine (c29 _ hx2.bath).mono ?_
      rintro e w3 ⟨rfl, e3⟩
      have hx3 := hx2.ext e3
      clear q0 q1 q2 c29 hx2
      obtain ⟨q0, q1, q2⟩ := hx3.cells
      go_wp2_with fail
      refine (c34 _ hx3.bath).mono ?_
      rintro e w4 ⟨az, cz, rfl, hZ4, e4⟩
      have hx4 := hx3.ext e4
      have e14 := ((e1.trans e2).trans e3).trans e4
      skip
      clear q0 q1 q2 c34 hx3 e1 e2
      obtain ⟨q0, q1, q2⟩ := hx4.cells
      go_wp2_with fail
      refine (c39 _ hx4.bath (HS.out.ext e14)).mono ?_
      rintro e w5 ⟨rfl, e5⟩
      have hx5 := hx4.ext e5
      have e15 := e14.trans e5
      have hZ5 := hZ4.ext e5
      clear q0 q1 q2 c39 hx4 e14 e3 e4
      obtain ⟨q0, q1, q2⟩ := hx5.cells
      go_wp2_with fail
      refine (c32 _ hx5.bath (HW.out.ext e15)).mono ?_
      rintro e w6 ⟨rfl, e6⟩
      have HX6 := Lib.hid (hx5.ext e6)
      have E6 := Lib.hid (e15.trans e6)
      have HZ := Lib.hid (hZ5.ext e6)
      clear hZ4 hZ5
      clear q0 q1 q2 c32 hx5 e15 e5 e6
      go_upto_region 8 with fail
      obtain ⟨X0, hX0⟩ : ∃ X0, xs.getD 0 0 = X0 := ⟨_, rfl⟩
      obtain ⟨X1, hX1⟩ : ∃ X1, xs.getD (xs.length - 1) 0 = X1 := ⟨_, rfl⟩
      obtain ⟨thr, hthr⟩ : ∃ thr, (decide (1 < kw) && decide (v4 = 0) && (((X0 == one) && (X1 == two)) || ((X0 == two) && (X1 == one)))) = thr := ⟨_, rfl⟩
      have HTH := Lib.hid hthr
      have HXX := Lib.hid (And.intro hX0 hX1)
      clear hthr hX0 hX1
      go_cut [21] from 75 to 115 (fun s21 wx => s21 = .bool thr ∧ wx = w6)
      case first =>
        by_cases k1 : 1 < kw
        · have k1z : (1 : Int) < (kw : Int) := by omega
          by_cases h4 : v4 = 0
          · subst h4
            obtain ⟨j, hj⟩ : ∃ j, kw = j + 1 := ⟨kw - 1, by omega⟩
            obtain ⟨bx, ox, rfl, c0, c1⟩ : ∃ bx ox, LW = some ⟨bx, ox, none⟩ ∧ w6.cell? ⟨bx, ox, none⟩ = some (.int .i64 X0) ∧ w6.cell? ⟨bx, ox + j, none⟩ = some (.int .i64 X1) := by
              have hxl : xs.length = j + 1 := by rw [← HM.out.2.1]; exact hj
              rcases HW.out.ext E6.out with e | ⟨b, off, rfl, _, hc⟩
              · rw [e] at hxl; simp at hxl
              · refine ⟨b, off, rfl, ?_, ?_⟩
                · have e := List.getElem?_eq_getElem (show 0 < xs.length by omega)
                  have h := hc 0 _ e 0 _ rfl
                  rw [← HXX.out.1]
                  simpa [List.getElem?_eq_getElem (show 0 < xs.length by omega)] using h
                · have e := List.getElem?_eq_getElem (show j < xs.length by omega)
                  have h := hc j _ e 0 _ rfl
                  rw [← HXX.out.2, hxl]
                  simpa [List.getElem?_eq_getElem (show j < xs.length by omega)] using h
            have i0 : (0 : Int) < (kw : Int) := by omega
            have i1 : IntKind.i64.wrap ((kw : Int) - 1) = (kw : Int) - 1 := IntWalk.i64_in _ (by omega)
            have i2 : (0 : Int) ≤ (kw : Int) - 1 := by omega
            have i3 : (kw : Int) - 1 < (kw : Int) := by omega
            have i4 : ((kw : Int) - 1).toNat = j := by omega
            obtain ⟨b1, hb1⟩ : ∃ b1, (X0 == one) = b1 := ⟨_, rfl⟩
            obtain ⟨b2, hb2⟩ : ∃ b2, (X1 == two) = b2 := ⟨_, rfl⟩
            obtain ⟨b3, hb3⟩ : ∃ b3, (X0 == two) = b3 := ⟨_, rfl⟩
            obtain ⟨b4, hb4⟩ : ∃ b4, (X1 == one) = b4 := ⟨_, rfl⟩
            have hth : (b1 && b2 || b3 && b4) = thr := by rw [← HTH.out, hb1, hb2, hb3, hb4]; simp [k1]
            have HTT := Lib.hid hth
            clear hth hj
            cases b1 <;> cases b2 <;> cases b3 <;> cases b4
            all_goals
              go_wp2
              go_meet
              case rel => exact ⟨by rw [← HTT.out]; rfl, rfl⟩
          · have h4e : (v4 == 0) = false := by simp [h4]
            go_wp2
            go_meet
            case rel => exact ⟨by rw [← HTH.out]; simp [h4], rfl⟩
        · have k1z : ¬ (1 : Int) < (kw : Int) := by omega
          go_wp2
          go_meet
          case rel => exact ⟨by rw [← HTH.out]; simp [k1], rfl⟩
      case rest =>
        obtain ⟨rfl, rfl⟩ := hcut
        obtain rfl : thr = false := by
          cases hb : thr with
          | false => rfl
          | true =>
            have h := HTH.out
            rw [hb] at h
            simp only [Bool.and_eq_true, Bool.or_eq_true, decide_eq_true_eq, beq_iff_eq] at h
            have := through_outs HH.out.2 (xs := xs) (sure := sure) (by rw [HV.out.2]; exact h.1.2) (by rw [HXX.out.1, HXX.out.2]; exact h.2)
            exact absurd HS0.out.2.1 this.1
        have cA : ∀ W : World, IsBath W W.heap.size A n c A' n' c' ss ds → Held W W.heap.size 1 encI az zs → Calls Try.prog 39 #[.agg #[.int .i64 Wd, .slice A n c, .slice A' n' c'], .int .i64 one, .int .i64 two, .slice az kz cz, .bool sure] W fun e w' => e = .returned (.int .i64 0) ∧ Ext W w' := fun W hW hh => by
          have := checkSide_any (Wd := Wd) one two az kz cz zs sure hW HS0.out.2.2.symm (by omega) hh
          rw [HS0.out.1] at this
          exact this
        have cB : ∀ W : World, IsBath W W.heap.size A n c A' n' c' ss ds → Held W W.heap.size 1 encI az zs → Calls Try.prog 40 #[.agg #[.int .i64 Wd, .slice A n c, .slice A' n' c'], .int .i64 one, .int .i64 two, .slice az kz cz, .bool sure] W fun e w' => e = .returned (.int .i64 0) ∧ Ext W w' := fun W hW hh => by
          have := checkSide_ref (Wd := Wd) one two az kz cz zs sure hW HS0.out.2.2.symm (by omega) hh
          rw [HS0.out.1] at this
          exact this
        obtain ⟨q0, q1, q2⟩ := HX6.out.cells
        go_wp2_with fail
        refine (cA _ HX6.out.bath HZ.out).mono ?_
        rintro e w7 ⟨rfl, e7⟩
        have hx7 := HX6.out.ext e7
        have hz7 := HZ.out.ext e7
        clear q0 q1 q2 cA
        obtain ⟨q0, q1, q2⟩ := hx7.cells
        go_wp2_with fail
        refine (cB _ hx7.bath hz7).mono ?_
        rintro e w8 ⟨rfl, e8⟩
        have HE := Lib.hid (HE0.out.trans (E6.out.trans (e7.trans e8)))
        clear q0 q1 q2 cB hx7 hz7 e7 e8
        go_wp2_with fail
        refine (works_any _).mono ?_
        rintro e v9 ⟨rfl, f9⟩
        go_wp2
        go_ret
        exact ⟨rfl, HE.out.trans f9⟩
    · have hg := (way_outs he).1 ho
      have c34 : ∀ W : World, IsBath W W.heap.size A n c A' n' c' ss ds → Calls Try.prog 34 #[.agg #[.int .i64 Wd, .slice A n c, .slice A' n' c'], .int .i64 one, .int .i64 two, .bool sure] W fun e w' => e = .returned (.tuple #[.slice none 0 0, .int .i64 11]) ∧ Ext W w' := fun W hW => by
        refine (side_any (Wd := Wd) one two sure hW).mono ?_
        intro e w' hp
        obtain ⟨hE, h | h | h⟩ := side_reach hp
        · exact absurd HH.out.2 h.1
        · exact ⟨h.2.2, hE⟩
        · rw [hg] at h; exact absurd h.2.1 (by simp)
      obtain ⟨l, hl⟩ : ∃ l, wayOf (tableOf Wd ss ds sure) (ss.length + 2) (one + 2).toNat (two + 2).toNat = l := ⟨_, rfl⟩
      obtain ⟨l2, l12, lo, lnd, llt, lst⟩ := way_told he ho hl.symm
      obtain ⟨lw, hlw⟩ : ∃ lw, l.length = lw := ⟨_, rfl⟩
      have c29 : ∀ W : World, IsBath W W.heap.size A n c A' n' c' ss ds → Calls Try.prog 29 #[.agg #[.int .i64 Wd, .slice A n c, .slice A' n' c'], .int .i64 one, .int .i64 two, .bool sure] W fun e w' => ∃ bw ow cW, e = .returned (.tuple #[.slice (some ⟨bw, ow, none⟩) lw cW, .int .i64 0]) ∧ Held w' w'.heap.size 1 encI (some ⟨bw, ow, none⟩) (nums l) ∧ Ext W w' := fun W hW => by
        refine (bigWay_any (Wd := Wd) one two sure hW).mono ?_
        rintro e w' ⟨hE, h | h | h⟩
        · exact absurd HH.out.2 h.1
        · exact absurd h.2.1 ho
        · obtain ⟨_, _, Aw, l', cW, rfl, _, hh, e'⟩ := h
          rw [hl] at e'
          subst e'
          rw [hlw]
          rcases hh with e | ⟨b, off, rfl, hlt, hc⟩
          · have := congrArg List.length e
            rw [nums_len2] at this
            simp only [List.length_nil] at this
            omega
          · exact ⟨b, off, cW, rfl, .inr ⟨b, off, rfl, hlt, hc⟩, hE⟩
      have hck := way_checks he l2 l12 lnd llt lst
      rw [hlw] at l2 l12 lo
      have hv30 : v3 ≠ 0 := by rw [← HV.out.1]; exact side_none he hg ys
      have HO := Lib.hid (And.intro lo (And.intro hck (And.intro llt (And.intro lst hlw))))
      clear hl lo hck llt lst lnd hlw hg ho he
      go_wp2_with fail
      refine cF.mono ?_
      rintro e w1 ⟨rfl, e1⟩
      have hx1 := HX0.out.ext e1
      have g0 : w1.cell? ⟨pp, 0, none⟩ = some (.int .u8 x) := cell_of_row _ _ _ _ _ _ (row_ext HP.out e1)
      have g1 : w1.cell? ⟨pp, 1, none⟩ = some (.int .u8 y) := cell_of_row _ _ _ _ _ _ (row_ext HP.out e1)
      clear q0 q1 q2 cF
      obtain ⟨q0, q1, q2⟩ := hx1.cells
      go_wp2_with fail
      refine (c43 _ hx1.bath).mono ?_
      rintro e w2 ⟨rfl, e2⟩
      have hx2 := hx1.ext e2
      clear q0 q1 q2 c43 hx1 g0 g1
      obtain ⟨q0, q1, q2⟩ := hx2.cells
      go_wp2_with fail
      refine (c29 _ hx2.bath).mono ?_
      rintro e w3 ⟨bw, ow, cW, rfl, hWay3, e3⟩
      have hx3 := hx2.ext e3
      clear q0 q1 q2 c29 hx2
      obtain ⟨q0, q1, q2⟩ := hx3.cells
      go_wp2_with fail
      refine (c34 _ hx3.bath).mono ?_
      rintro e w4 ⟨rfl, e4⟩
      have hx4 := hx3.ext e4
      have e14 := ((e1.trans e2).trans e3).trans e4
      have hWay4 := hWay3.ext e4
      clear q0 q1 q2 c34 hx3 e1 e2
      obtain ⟨q0, q1, q2⟩ := hx4.cells
      go_wp2_with fail
      refine (c39 _ hx4.bath (HS.out.ext e14)).mono ?_
      rintro e w5 ⟨rfl, e5⟩
      have hx5 := hx4.ext e5
      have e15 := e14.trans e5
      have hWay5 := hWay4.ext e5
      clear q0 q1 q2 c39 hx4 e14 e3 e4
      obtain ⟨q0, q1, q2⟩ := hx5.cells
      go_wp2_with fail
      refine (c32 _ hx5.bath (HW.out.ext e15)).mono ?_
      rintro e w6 ⟨rfl, e6⟩
      have HX6 := Lib.hid (hx5.ext e6)
      have E6 := Lib.hid (e15.trans e6)
      have HWAY := Lib.hid (hWay5.ext e6)
      clear hWay3 hWay4 hWay5
      clear q0 q1 q2 c32 hx5 e15 e5 e6
      go_upto_region 8 with fail
      obtain ⟨X0, hX0⟩ : ∃ X0, xs.getD 0 0 = X0 := ⟨_, rfl⟩
      obtain ⟨X1, hX1⟩ : ∃ X1, xs.getD (xs.length - 1) 0 = X1 := ⟨_, rfl⟩
      obtain ⟨thr, hthr⟩ : ∃ thr, (decide (1 < kw) && decide (v4 = 0) && (((X0 == one) && (X1 == two)) || ((X0 == two) && (X1 == one)))) = thr := ⟨_, rfl⟩
      have HTH := Lib.hid hthr
      have HXX := Lib.hid (And.intro hX0 hX1)
      clear hthr hX0 hX1
      go_cut [21] from 75 to 115 (fun s21 wx => s21 = .bool thr ∧ wx = w6)
      case first =>
        by_cases k1 : 1 < kw
        · have k1z : (1 : Int) < (kw : Int) := by omega
          by_cases h4 : v4 = 0
          · subst h4
            obtain ⟨j, hj⟩ : ∃ j, kw = j + 1 := ⟨kw - 1, by omega⟩
            obtain ⟨bx, ox, rfl, c0, c1⟩ : ∃ bx ox, LW = some ⟨bx, ox, none⟩ ∧ w6.cell? ⟨bx, ox, none⟩ = some (.int .i64 X0) ∧ w6.cell? ⟨bx, ox + j, none⟩ = some (.int .i64 X1) := by
              have hxl : xs.length = j + 1 := by rw [← HM.out.2.1]; exact hj
              rcases HW.out.ext E6.out with e | ⟨b, off, rfl, _, hc⟩
              · rw [e] at hxl; simp at hxl
              · refine ⟨b, off, rfl, ?_, ?_⟩
                · have e := List.getElem?_eq_getElem (show 0 < xs.length by omega)
                  have h := hc 0 _ e 0 _ rfl
                  rw [← HXX.out.1]
                  simpa [List.getElem?_eq_getElem (show 0 < xs.length by omega)] using h
                · have e := List.getElem?_eq_getElem (show j < xs.length by omega)
                  have h := hc j _ e 0 _ rfl
                  rw [← HXX.out.2, hxl]
                  simpa [List.getElem?_eq_getElem (show j < xs.length by omega)] using h
            have i0 : (0 : Int) < (kw : Int) := by omega
            have i1 : IntKind.i64.wrap ((kw : Int) - 1) = (kw : Int) - 1 := IntWalk.i64_in _ (by omega)
            have i2 : (0 : Int) ≤ (kw : Int) - 1 := by omega
            have i3 : (kw : Int) - 1 < (kw : Int) := by omega
            have i4 : ((kw : Int) - 1).toNat = j := by omega
            obtain ⟨b1, hb1⟩ : ∃ b1, (X0 == one) = b1 := ⟨_, rfl⟩
            obtain ⟨b2, hb2⟩ : ∃ b2, (X1 == two) = b2 := ⟨_, rfl⟩
            obtain ⟨b3, hb3⟩ : ∃ b3, (X0 == two) = b3 := ⟨_, rfl⟩
            obtain ⟨b4, hb4⟩ : ∃ b4, (X1 == one) = b4 := ⟨_, rfl⟩
            have hth : (b1 && b2 || b3 && b4) = thr := by rw [← HTH.out, hb1, hb2, hb3, hb4]; simp [k1]
            have HTT := Lib.hid hth
            clear hth hj
            cases b1 <;> cases b2 <;> cases b3 <;> cases b4
            all_goals
              go_wp2
              go_meet
              case rel => exact ⟨by rw [← HTT.out]; rfl, rfl⟩
          · have h4e : (v4 == 0) = false := by simp [h4]
            go_wp2
            go_meet
            case rel => exact ⟨by rw [← HTH.out]; simp [h4], rfl⟩
        · have k1z : ¬ (1 : Int) < (kw : Int) := by omega
          go_wp2
          go_meet
          case rel => exact ⟨by rw [← HTH.out]; simp [k1], rfl⟩
      case rest =>
        obtain ⟨rfl, rfl⟩ := hcut
        have cA : ∀ W : World, IsBath W W.heap.size A n c A' n' c' ss ds → Held W W.heap.size 1 encI (some ⟨bw, ow, none⟩) (nums l) → Calls Try.prog 32 #[.agg #[.int .i64 Wd, .slice A n c, .slice A' n' c'], .slice (some ⟨bw, ow, none⟩) lw cW, .bool sure] W fun e w' => e = .returned (.int .i64 0) ∧ Ext W w' := fun W hW hh => by
          have := checkWay_any (Wd := Wd) (some ⟨bw, ow, none⟩) lw cW (nums l) sure hW (by rw [nums_len2]; exact HO.out.2.2.2.2.symm) (by omega) hh
          rw [HO.out.2.1] at this
          exact this
        have cB : ∀ W : World, IsBath W W.heap.size A n c A' n' c' ss ds → Held W W.heap.size 1 encI (some ⟨bw, ow, none⟩) (nums l) → Calls Try.prog 33 #[.agg #[.int .i64 Wd, .slice A n c, .slice A' n' c'], .slice (some ⟨bw, ow, none⟩) lw cW, .bool sure] W fun e w' => e = .returned (.int .i64 0) ∧ Ext W w' := fun W hW hh => by
          have := checkWay_ref (Wd := Wd) (some ⟨bw, ow, none⟩) lw cW (nums l) sure hW (by rw [nums_len2]; exact HO.out.2.2.2.2.symm) (by omega) hh
          rw [HO.out.2.1] at this
          exact this
        have cC : ∀ W : World, Held W W.heap.size 1 encI (some ⟨bw, ow, none⟩) (nums l) → ∀ k, k < lw → W.cell? ⟨bw, ow + k, none⟩ = some (.int .i64 (((l.getD k 0 : Nat) : Int) - 2)) := fun W hh k hk => by
          have hkl : k < (nums l).length := by rw [nums_len2, HO.out.2.2.2.2]; exact hk
          rcases hh with e | ⟨b, off, e, _, hc⟩
          · rw [e] at hkl; simp at hkl
          · cases e
            have h := hc k _ (List.getElem?_eq_getElem hkl) 0 _ rfl
            have h2 := nums_getD2 l k (by rw [nums_len2] at hkl; exact hkl) 0
            rw [List.getD_eq_getElem?_getD, List.getElem?_eq_getElem hkl, Option.getD_some] at h2
            rw [h2, Nat.mul_one, Nat.add_zero] at h
            exact h
        have CC := Lib.hid cC
        clear cC
        have hv3e : (v3 == 0) = false := by simp [hv30]
        have hthl : thr = true → lw ≤ kw := fun hb => by
          have h := HTH.out
          rw [hb] at h
          simp only [Bool.and_eq_true, Bool.or_eq_true, decide_eq_true_eq, beq_iff_eq] at h
          have := through_outs HH.out.2 (xs := xs) (sure := sure) (by rw [HV.out.2]; exact h.1.2) (by rw [HXX.out.1, HXX.out.2]; exact h.2)
          have e1 := HO.out.1
          have e2 := HO.out.2.2.2.2
          have e3 := HM.out.2.1
          omega
        have HTL := Lib.hid hthl
        have hn1 := (forErr_ok HH.out.2).2.2
        have f0 : ((l.getD 0 0 : Nat) : Int) - 2 = one := by have := HO.out.2.2.2.1.first; rw [this]; omega
        have f1 : ((l.getD (lw - 1) 0 : Nat) : Int) - 2 = two := by have := HO.out.2.2.2.1.last; rw [HO.out.2.2.2.2] at this; rw [this]; omega
        have HF := Lib.hid (And.intro f0 f1)
        clear hthl f0 f1 hn1
        obtain ⟨q0, q1, q2⟩ := HX6.out.cells
        go_wp2_with fail
        refine (cA _ HX6.out.bath HWAY.out).mono ?_
        rintro e w7 ⟨rfl, e7⟩
        have hx7 := HX6.out.ext e7
        have hy7 := HWAY.out.ext e7
        clear q0 q1 q2 cA
        obtain ⟨q0, q1, q2⟩ := hx7.cells
        go_wp2_with fail
        refine (cB _ hx7.bath hy7).mono ?_
        rintro e w8 ⟨rfl, e8⟩
        have HX8 := Lib.hid (hx7.ext e8)
        have HY8 := Lib.hid (hy7.ext e8)
        have E8 := Lib.hid (E6.out.trans (e7.trans e8))
        clear q0 q1 q2 cB hx7 hy7 e7 e8
        obtain ⟨q0, q1, q2⟩ := HX8.out.cells
        obtain ⟨j, hj⟩ : ∃ j, lw = j + 1 := ⟨lw - 1, by omega⟩
        have d0 : w8.cell? ⟨bw, ow, none⟩ = some (.int .i64 one) := by rw [← HF.out.1]; exact CC.out w8 HY8.out 0 (by omega)
        have d1 : w8.cell? ⟨bw, ow + j, none⟩ = some (.int .i64 two) := by rw [← HF.out.2, show lw - 1 = j from by omega]; exact CC.out w8 HY8.out j (by omega)
        have i0 : (0 : Int) < (lw : Int) := by omega
        have i1 : IntKind.i64.wrap ((lw : Int) - 1) = (lw : Int) - 1 := IntWalk.i64_in _ (by omega)
        have i2 : (0 : Int) ≤ (lw : Int) - 1 := by omega
        have i3 : (lw : Int) - 1 < (lw : Int) := by omega
        have i4 : ((lw : Int) - 1).toNat = j := by omega
        clear hj
        have hbt : Between ds (truthTo bs ds n') := by rw [HN.out.2]; exact truth_between HH.out.1 bs
        obtain ⟨ts, hts⟩ : ∃ ts, truthTo bs ds n' = ts := ⟨_, rfl⟩
        rw [hts] at hbt
        obtain ⟨mt, hmt⟩ : ∃ mt, ts.length = mt := ⟨_, rfl⟩
        have hmn : mt = n' := by rw [← hmt, HN.out.2]; exact hbt.1
        have cT : ∀ W : World, Ext w0 W → IsBath W W.heap.size A n c A' n' c' ss ds → Calls Try.prog 42 #[.agg #[.int .i64 Wd, .slice A n c, .slice A' n' c'], .slice L m cL] W fun e w' => ∃ T cT, e = .returned (.slice T mt cT) ∧ Held w' w'.heap.size 1 encI T ts ∧ Ext W w' := fun W hE hW => by
          refine (truth_any (Wd := Wd) L m cL bs HH.out.1 hW HM.out.1 (by omega) (HL.out.ext hE) HBD.out).mono ?_
          rintro e w' ⟨v, rfl, hM, hE'⟩
          rw [hts] at hM
          obtain ⟨T, cT, rfl, hT⟩ := made64_held hM
          rw [hmt]
          exact ⟨T, cT, rfl, hT, hE'⟩
        have HBT := Lib.hid (And.intro hbt (And.intro hmt hmn))
        clear hbt hts hmt hmn
        have hlz : thr = true → ¬ (kw : Int) < (lw : Int) := fun hb => by have := HTL.out hb; omega
        cases thr with
        | false =>
          clear hlz
          go_wp2_with fail
          refine (cT _ E8.out HX8.out.bath).mono ?_
          rintro e w9 ⟨T, cT', rfl, hT9, e9⟩
          have HX9 := Lib.hid (HX8.out.ext e9)
          have HY9 := Lib.hid (HY8.out.ext e9)
          have HT9 := Lib.hid hT9
          have E9 := Lib.hid (E8.out.trans e9)
          clear cT d0 d1 q0 q1 q2 hT9 e9 i0 i1 i2 i3 i4 HX8 HY8 E8 HX6 E6 HWAY HTL HTH
          go_wp2
          go_loopw [23] (fun i wr => ∃ j : Nat, j + 1 ≤ lw ∧ i = .int .i64 ((j : Int) + 1) ∧ Hid (Ext w9 wr)) (fun i _ => lw - (intOf i).toNat)
          case atStart => exact ⟨0, by omega, rfl, Lib.hid (Ext.refl _)⟩
          case round =>
            obtain ⟨j, hj, rfl, hB⟩ := hrel
            by_cases hlt : j + 1 < lw
            · have hltz : (j : Int) + 1 < (lw : Int) := by omega
              cases sure with
              | false =>
                go_wp2_with fail
                refine (works_any _).mono ?_
                rintro e v9 ⟨rfl, f9⟩
                go_wp2
                go_ret
                exact ⟨rfl, HE0.out.trans (E9.out.trans (hB.out.trans f9))⟩
              | true =>
                go_upto_region 16 with fail
                have hxr := HX9.out.ext hB.out
                have hTr := HT9.out.ext hB.out
                have cj := CC.out wr (HY9.out.ext hB.out) j (by omega)
                have cj1 := CC.out wr (HY9.out.ext hB.out) (j + 1) hlt
                have hst := HO.out.2.2.2.1.hold j (by rw [HO.out.2.2.2.2]; exact hlt)
                obtain ⟨pa, hpa⟩ : ∃ pa, l.getD j 0 = pa := ⟨_, rfl⟩
                obtain ⟨pb, hpb⟩ : ∃ pb, l.getD (j + 1) 0 = pb := ⟨_, rfl⟩
                rw [hpa] at cj hst
                rw [hpb] at cj1 hst
                have ht := tableOf_lt _ _ hst
                have hst2 := sure_truth HH.out.1 HBT.out.1 hst
                rw [← HN.out.2] at hst2
                have ct : ∀ W : World, IsBath W W.heap.size A n c A' n' c' ss ds → Held W W.heap.size 1 encI T ts → Calls Try.prog 46 #[.agg #[.int .i64 Wd, .slice A n c, .slice A' n' c'], .slice T mt cT', .int .i64 ((pa : Int) - 2), .int .i64 ((pb : Int) - 2)] W fun e w' => e = .returned (.bool true) ∧ Ext W w' := fun W hW hh => by
                  have nn := HN.out.1
                  have mm := HBT.out.2.2
                  have := touches_ref T mt cT' ts (bath_few HH.out.1) hW HBT.out.2.1.symm (by omega) (by omega) hh (between_bd HH.out.1 HBT.out.1) ((pa : Int) - 2) ((pb : Int) - 2) (by omega) (by omega) (by omega) (by omega) (by omega)
                  rw [hst2] at this
                  exact this
                clear hpa hpb hst ht hst2
                obtain ⟨q0, q1, q2⟩ := hxr.cells
                have x1 : IntKind.i64.wrap ((j : Int) + 1 - 1) = (j : Int) := by rw [Int.add_sub_cancel]; exact IntWalk.i64_in _ (by omega)
                have x1' : IntKind.i64.wrap (j : Int) = (j : Int) := IntWalk.i64_in _ (by omega)
                have x2 : (0 : Int) ≤ (j : Int) + 1 := by omega
                have x3 : ((j : Int) + 1).toNat = j + 1 := by omega
                have x4 : (j : Int) < (lw : Int) := by omega
                go_still_tail 11, (by kernel_rfl)
                change wpList _ _ _ _ _ wr.drew
                obtain ⟨wq, hwq⟩ : ∃ wq, wr.drew = wq := ⟨_, rfl⟩
                have eq' : Ext wr wq := by rw [← hwq]; exact (Below.refl _ wr).drew
                rw [hwq]
                have hxq := hxr.ext eq'
                have hTq := hTr.ext eq'
                have HBq := Lib.hid (hB.out.trans eq')
                clear hwq hxr hTr eq' q0 q1 q2 cj cj1 x1 x1' x2 x3 x4
                go_wp2_with fail
                refine (ct _ hxq.bath hTq).mono ?_
                rintro e wz ⟨rfl, ez⟩
                have HB2 := Lib.hid (HBq.out.trans ez)
                clear ct hxq hTq HBq ez hB
                go_wp2
                go_roundw
                case measure => simp [intOf]; omega
                case rel => exact ⟨j + 1, by omega, by go_num, HB2⟩
            · have hltz : ¬ (j : Int) + 1 < (lw : Int) := by omega
              go_wp2_with fail
              refine (works_any _).mono ?_
              rintro e v9 ⟨rfl, f9⟩
              go_wp2
              go_ret
              exact ⟨rfl, HE0.out.trans (E9.out.trans (hB.out.trans f9))⟩
        | true =>
          have hlz2 := hlz rfl
          clear hlz
          go_wp2_with fail
          refine (cT _ E8.out HX8.out.bath).mono ?_
          rintro e w9 ⟨T, cT', rfl, hT9, e9⟩
          have HX9 := Lib.hid (HX8.out.ext e9)
          have HY9 := Lib.hid (HY8.out.ext e9)
          have HT9 := Lib.hid hT9
          have E9 := Lib.hid (E8.out.trans e9)
          clear cT d0 d1 q0 q1 q2 hT9 e9 i0 i1 i2 i3 i4 HX8 HY8 E8 HX6 E6 HWAY HTL HTH
          go_wp2
          go_loopw [23] (fun i wr => ∃ j : Nat, j + 1 ≤ lw ∧ i = .int .i64 ((j : Int) + 1) ∧ Hid (Ext w9 wr)) (fun i _ => lw - (intOf i).toNat)
          case atStart => exact ⟨0, by omega, rfl, Lib.hid (Ext.refl _)⟩
          case round =>
            obtain ⟨j, hj, rfl, hB⟩ := hrel
            by_cases hlt : j + 1 < lw
            · have hltz : (j : Int) + 1 < (lw : Int) := by omega
              cases sure with
              | false =>
                go_wp2_with fail
                refine (works_any _).mono ?_
                rintro e v9 ⟨rfl, f9⟩
                go_wp2
                go_ret
                exact ⟨rfl, HE0.out.trans (E9.out.trans (hB.out.trans f9))⟩
              | true =>
                go_upto_region 16 with fail
                have hxr := HX9.out.ext hB.out
                have hTr := HT9.out.ext hB.out
                have cj := CC.out wr (HY9.out.ext hB.out) j (by omega)
                have cj1 := CC.out wr (HY9.out.ext hB.out) (j + 1) hlt
                have hst := HO.out.2.2.2.1.hold j (by rw [HO.out.2.2.2.2]; exact hlt)
                obtain ⟨pa, hpa⟩ : ∃ pa, l.getD j 0 = pa := ⟨_, rfl⟩
                obtain ⟨pb, hpb⟩ : ∃ pb, l.getD (j + 1) 0 = pb := ⟨_, rfl⟩
                rw [hpa] at cj hst
                rw [hpb] at cj1 hst
                have ht := tableOf_lt _ _ hst
                have hst2 := sure_truth HH.out.1 HBT.out.1 hst
                rw [← HN.out.2] at hst2
                have ct : ∀ W : World, IsBath W W.heap.size A n c A' n' c' ss ds → Held W W.heap.size 1 encI T ts → Calls Try.prog 46 #[.agg #[.int .i64 Wd, .slice A n c, .slice A' n' c'], .slice T mt cT', .int .i64 ((pa : Int) - 2), .int .i64 ((pb : Int) - 2)] W fun e w' => e = .returned (.bool true) ∧ Ext W w' := fun W hW hh => by
                  have nn := HN.out.1
                  have mm := HBT.out.2.2
                  have := touches_ref T mt cT' ts (bath_few HH.out.1) hW HBT.out.2.1.symm (by omega) (by omega) hh (between_bd HH.out.1 HBT.out.1) ((pa : Int) - 2) ((pb : Int) - 2) (by omega) (by omega) (by omega) (by omega) (by omega)
                  rw [hst2] at this
                  exact this
                clear hpa hpb hst ht hst2
                obtain ⟨q0, q1, q2⟩ := hxr.cells
                have x1 : IntKind.i64.wrap ((j : Int) + 1 - 1) = (j : Int) := by rw [Int.add_sub_cancel]; exact IntWalk.i64_in _ (by omega)
                have x1' : IntKind.i64.wrap (j : Int) = (j : Int) := IntWalk.i64_in _ (by omega)
                have x2 : (0 : Int) ≤ (j : Int) + 1 := by omega
                have x3 : ((j : Int) + 1).toNat = j + 1 := by omega
                have x4 : (j : Int) < (lw : Int) := by omega
                go_still_tail 11, (by kernel_rfl)
                change wpList _ _ _ _ _ wr.drew
                obtain ⟨wq, hwq⟩ : ∃ wq, wr.drew = wq := ⟨_, rfl⟩
                have eq' : Ext wr wq := by rw [← hwq]; exact (Below.refl _ wr).drew
                rw [hwq]
                have hxq := hxr.ext eq'
                have hTq := hTr.ext eq'
                have HBq := Lib.hid (hB.out.trans eq')
                clear hwq hxr hTr eq' q0 q1 q2 cj cj1 x1 x1' x2 x3 x4
                go_wp2_with fail
                refine (ct _ hxq.bath hTq).mono ?_
                rintro e wz ⟨rfl, ez⟩
                have HB2 := Lib.hid (HBq.out.trans ez)
                clear ct hxq hTq HBq ez hB
                go_wp2
                go_roundw
                case measure => simp [intOf]; omega
                case rel => exact ⟨j + 1, by omega, by go_num, HB2⟩
            · have hltz : ¬ (j : Int) + 1 < (lw : Int) := by omega
              go_wp2_with fail
              refine (works_any _).mono ?_
              rintro e v9 ⟨rfl, f9⟩
              go_wp2
              go_ret
              exact ⟨rfl, HE0.out.trans (E9.out.trans (hB.out.trans f9))⟩
end
end Go.Proofs.Ytckndnaohggmhaa
