/- Texts of the package drop, joined: DropMore. -/
import Derived.Test.YtckndnaohggmhaaC49
import Derived.Test.YtckndnaohggmhaaC58
import Derived.Test.YtckndnaohggmhaaC59
import Derived.Deep.CutRange
import Derived.Laws.Tables
import Derived.StillTailTactics
/- DropMore: the walk. -/
namespace Go.Proofs.Ytckndnaohggmhaa
open Go.RowKit Go.Shelf

section
variable {w : World} {Wd : Int} {A : Option Addr} {n c : Nat} {A' : Option Addr} {n' c' : Nat} {ss : List (Int × Int)} {ds : List (Int × Int × Int)}

set_option maxRecDepth 100000 in
set_option maxHeartbeats 8000000 in
theorem dropMore_any (s dl dh u l0 l1 x y : Int) (hu : 0 ≤ u ∧ u ≤ 255) (hl0 : 0 ≤ l0 ∧ l0 ≤ 65535) (hl1 : 0 ≤ l1 ∧ l1 ≤ 65535) (hx : 0 ≤ x ∧ x ≤ 255) (hy : 0 ≤ y ∧ y ≤ 255) (hb : IsBath w w.heap.size A n c A' n' c' ss ds) :
    Calls Try.prog 10 #[.agg #[.int .i64 Wd, .slice A n c, .slice A' n' c'], .agg #[.int .i64 s, .int .i64 dl, .int .i64 dh], .int .u8 u, .agg #[.int .u16 l0, .int .u16 l1], .agg #[.int .u8 x, .int .u8 y]] w fun e w' => e = .returned (.bool true) ∧ Ext w w' := by
  have hX0 : BathAt (w.alloc (.cells #[.int .i64 Wd, .slice A n c, .slice A' n' c'] 25)) w.heap.size Wd A n c A' n' c' ss ds := BathAt.new hb
  have hE0 : Ext w (w.alloc (.cells #[.int .i64 Wd, .slice A n c, .slice A' n' c'] 25)) := ext_alloc w _
  have HN := Lib.hid (And.intro hb.nss hb.nds)
  go_enter Try.func10, Try.ntmps10
  go_upto_region 1 with fail
  obtain ⟨w0, hw0⟩ : ∃ w0, (((w.alloc (.cells #[.int .i64 Wd, .slice A n c, .slice A' n' c'] 25)).alloc (.cells #[.int .i64 s, .int .i64 dl, .int .i64 dh] 62)).alloc (.cells #[.int .u16 l0, .int .u16 l1] 67)).alloc (.cells #[.int .u8 x, .int .u8 y] 54) = w0 := ⟨_, rfl⟩
  have r3 : w0.heap[w.heap.size + 3]? = some (.cells #[.int .u8 x, .int .u8 y] 54 (0, 0)) := by rw [← hw0]; exact row_last _ _ _ (by simp)
  have r2 : w0.heap[w.heap.size + 2]? = some (.cells #[.int .u16 l0, .int .u16 l1] 67 (0, 0)) := by rw [← hw0]; exact row_ext (row_last _ _ _ (by simp)) (ext_alloc _ _)
  have r1 : w0.heap[w.heap.size + 1]? = some (.cells #[.int .i64 s, .int .i64 dl, .int .i64 dh] 62 (0, 0)) := by rw [← hw0]; exact row_ext (row_last _ _ _ (by simp)) ((ext_alloc _ _).trans (ext_alloc _ _))
  have e3 : Ext (w.alloc (.cells #[.int .i64 Wd, .slice A n c, .slice A' n' c'] 25)) w0 := by rw [← hw0]; exact ((ext_alloc _ _).trans (ext_alloc _ _)).trans (ext_alloc _ _)
  have hx0 := hX0.ext e3
  have he0 := hE0.trans e3
  rw [hw0]
  clear hX0 hE0 e3 hw0
  obtain ⟨p3, hp3⟩ : ∃ p3, w.heap.size + 3 = p3 := ⟨_, rfl⟩
  obtain ⟨p2, hp2⟩ : ∃ p2, w.heap.size + 2 = p2 := ⟨_, rfl⟩
  obtain ⟨p1, hp1⟩ : ∃ p1, w.heap.size + 1 = p1 := ⟨_, rfl⟩
  rw [hp3] at r3
  rw [hp2] at r2
  rw [hp1] at r1
  rw [show w.heap.size + 1 + 1 + 1 = p3 from hp3, show w.heap.size + 1 + 1 = p2 from hp2, hp1]
  obtain ⟨p, hp⟩ : ∃ p, w.heap.size = p := ⟨_, rfl⟩
  rw [hp] at hx0 ⊢
  have HP := Lib.hid (And.intro r1 (And.intro r2 r3))
  have HE0 := Lib.hid he0
  have cF := fine_any (Wd := Wd) hx0.bath
  clear hp hp1 hp2 hp3 r1 r2 r3 he0 hb
  cases hf : fineB Wd ss ds with
  | false =>
    rw [hf] at cF
    obtain ⟨q0, q1, q2⟩ := hx0.cells
    clear hf hx0
    go_wp2_with fail
    refine cF.mono ?_
    rintro e w1 ⟨rfl, e1⟩
    have HE := Lib.hid (HE0.out.trans e1)
    clear HE0 e1 cF q0 q1 q2
    go_wp2_with fail
    refine (works_any _).mono ?_
    rintro e v9 ⟨rfl, f9⟩
    go_wp2
    go_ret
    exact ⟨rfl, HE.out.trans f9⟩
  | true =>
    rw [hf] at cF
    have h0 : bathErr Wd ss ds = 0 := of_decide_eq_true hf
    clear hf
    have hn10 : n ≤ 10 := by have := (bath_ok h0).2.1.1; have := HN.out; omega
    have hn40 : n' ≤ 40 := by have := (bath_ok h0).2.1.2; have := HN.out; omega
    have h1 := placeOf_bd n x
    have h2 := otherOf_bd n x y
    have hne := otherOf_ne n x y
    have c43 : ∀ W : World, IsBath W W.heap.size A n c A' n' c' ss ds → Calls Try.prog 43 #[.agg #[.int .i64 Wd, .slice A n c, .slice A' n' c'], .agg #[.int .u8 x, .int .u8 y]] W fun e w' => e = .returned (.tuple #[.int .i64 (placeOf n x), .int .i64 (otherOf n x y)]) ∧ Ext W w' := fun W hW => two_any x y hx hy hn10 hW
    obtain ⟨one, hone⟩ : ∃ one, placeOf n x = one := ⟨_, rfl⟩
    obtain ⟨two, htwo⟩ : ∃ two, otherOf n x y = two := ⟨_, rfl⟩
    rw [hone] at c43 h1 hne
    rw [htwo] at c43 h2 hne
    have he : forErr Wd ss ds one two = 0 := by
      have := HN.out.1
      unfold forErr
      rw [if_pos h0, if_pos ⟨hne, by simp; omega, by simp; omega⟩]
    have c21 : ∀ W : World, IsBath W W.heap.size A n c A' n' c' ss ds → Calls Try.prog 21 #[.agg #[.int .i64 Wd, .slice A n c, .slice A' n' c'], .int .i64 one, .int .i64 two] W fun e w' => e = .returned (.tuple #[.int .i64 (kindOf Wd ss (sizes ds) one two), .int .i64 0]) ∧ Ext W w' := fun W hW => by
      have := touch_any (Wd := Wd) one two hW
      rw [touchAns_ok h0 hne (by have := HN.out.1; omega) (by have := HN.out.1; omega)] at this
      exact this
    have c25 : ∀ W : World, IsBath W W.heap.size A n c A' n' c' ss ds → _ := fun W hW => firstAns_prog (Wd := Wd) (w := W) one two hW
    have hkb := kindOf_bd Wd ss (sizes ds) one two
    obtain ⟨q0, q1, q2⟩ := hx0.cells
    have r3 := HP.out.2.2
    have g0 : w0.cell? ⟨p3, 0, none⟩ = some (.int .u8 x) := cell_of_row _ _ _ _ _ _ r3
    have g1 : w0.cell? ⟨p3, 1, none⟩ = some (.int .u8 y) := cell_of_row _ _ _ _ _ _ r3
    have HH := Lib.hid (And.intro h0 he)
    have HK := Lib.hid hkb
    obtain ⟨kk, hkk⟩ : ∃ kk, kindOf Wd ss (sizes ds) one two = kk := ⟨_, rfl⟩
    rw [hkk] at c21 HK
    have HKK := Lib.hid hkk
    clear r3 hone htwo hkb hkk h0 he hne
    go_wp2_with fail
    refine cF.mono ?_
    rintro e w1 ⟨rfl, e1⟩
    have hx1 := hx0.ext e1
    have g0 := (e1.cell (p := ⟨p3, 0, none⟩) (Array.getElem?_eq_some_iff.1 HP.out.2.2).1).trans g0
    have g1 := (e1.cell (p := ⟨p3, 1, none⟩) (Array.getElem?_eq_some_iff.1 HP.out.2.2).1).trans g1
    clear q0 q1 q2 cF hx0
    obtain ⟨q0, q1, q2⟩ := hx1.cells
    go_wp2_with fail
    refine (c43 _ hx1.bath).mono ?_
    rintro e w2 ⟨rfl, e2⟩
    have hx2 := hx1.ext e2
    clear q0 q1 q2 c43 hx1 g0 g1
    obtain ⟨q0, q1, q2⟩ := hx2.cells
    go_wp2_with fail
    refine (c21 _ hx2.bath).mono ?_
    rintro e w3 ⟨rfl, e3⟩
    have hx3 := hx2.ext e3
    have e13 := Lib.hid ((e1.trans e2).trans e3)
    clear q0 q1 q2 c21 hx2 e1 e2 e3
    obtain ⟨q0, q1, q2⟩ := hx3.cells
    by_cases hk0 : kk = 0
    · subst hk0
      have hfa := first_none HH.out.2 HKK.out
      rw [hfa] at c25
      clear hfa
      go_wp2_with fail
      refine (c25 _ hx3.bath).mono ?_
      rintro e w4 ⟨rfl, e4⟩
      have hx4 := hx3.ext e4
      have e14 := Lib.hid (e13.out.trans e4)
      clear q0 q1 q2 c25 hx3 e4 e13
      obtain ⟨q0, q1, q2⟩ := hx4.cells
      go_upto_region 6 with fail
      obtain ⟨w5, hw5⟩ : ∃ w5, w4.alloc (.cells #[.int .i64 0, .int .i64 0] 29) = w5 := ⟨_, rfl⟩
      have e5 : Ext w4 w5 := by rw [← hw5]; exact ext_alloc _ _
      have hrr : w5.heap[w4.heap.size]? = some (.cells #[.int .i64 0, .int .i64 0] 29 (0, 0)) := by rw [← hw5]; exact row_last _ _ _ rfl
      rw [hw5]
      obtain ⟨pr, hpr⟩ : ∃ pr, w4.heap.size = pr := ⟨_, rfl⟩
      rw [hpr] at hrr ⊢
      have hx5 := hx4.ext e5
      have rd := row_ext HP.out.1 (e14.out.trans e5)
      have e15 := Lib.hid (e14.out.trans e5)
      have d0 : w5.cell? ⟨p1, 0, none⟩ = some (.int .i64 s) := cell_of_row _ _ _ _ _ _ rd
      have d1 : w5.cell? ⟨p1, 1, none⟩ = some (.int .i64 dl) := cell_of_row _ _ _ _ _ _ rd
      have d2 : w5.cell? ⟨p1, 2, none⟩ = some (.int .i64 dh) := cell_of_row _ _ _ _ _ _ rd
      have m0 : w5.cell? ⟨pr, 0, none⟩ = some (.int .i64 0) := cell_of_row _ _ _ _ _ _ hrr
      have m1 : w5.cell? ⟨pr, 1, none⟩ = some (.int .i64 0) := cell_of_row _ _ _ _ _ _ hrr
      have HRR := Lib.hid hrr
      clear q0 q1 q2 hx4 e14 e5 hw5 hpr rd hrr
      obtain ⟨q0, q1, q2⟩ := hx5.cells
      go_wp2_with fail
      refine (with_any s dl dh hx5.bath (by omega)).mono ?_
      rintro e w6 ⟨g, cap, rfl, e6, hI⟩
      have hx6 := hx5.ext e6
      have e16 := Lib.hid (e15.out.trans e6)
      have HRR6 := Lib.hid (row_ext HRR.out e6)
      clear d0 d1 d2 m0 m1 q0 q1 q2 hx5 e15 e6 HRR
      obtain ⟨q0, q1, q2⟩ := hx6.cells
      go_upto_region 11 with fail
      obtain ⟨w7, hw7⟩ : ∃ w7, w6.alloc (.cells #[.int .i64 Wd, .slice A n c, .slice (some ⟨g, 0, none⟩) (n' + 1) cap] 25) = w7 := ⟨_, rfl⟩
      have e7 : Ext w6 w7 := by rw [← hw7]; exact ext_alloc _ _
      have hx7 : BathAt w7 w6.heap.size Wd A n c (some ⟨g, 0, none⟩) (n' + 1) cap ss (ds ++ [(s, dl, dh)]) := by rw [← hw7]; exact BathAt.new hI
      rw [hw7]
      obtain ⟨px, hpx⟩ : ∃ px, w6.heap.size = px := ⟨_, rfl⟩
      rw [hpx] at hx7 ⊢
      have hb7 := hx6.ext e7
      have e17 := e16.out.trans e7
      have hr7 := row_ext HRR6.out e7
      obtain ⟨q0, q1, q2⟩ := hx7.cells
      have cF := fine_any (Wd := Wd) hx7.bath
      obtain ⟨fx, hfx⟩ : ∃ fx, fineB Wd ss (ds ++ [(s, dl, dh)]) = fx := ⟨_, rfl⟩
      rw [hfx] at cF
      have HFX := Lib.hid hfx
      have HPX := Lib.hid hpx
      have HX6 := Lib.hid hx6
      have E06 := Lib.hid e16.out
      have E67 := Lib.hid e7
      clear hw7 hpx hfx hI hx6 e16 e7 HRR6
      go_wp2_with fail
      refine cF.mono ?_
      rintro e w8 ⟨rfl, e8⟩
      have HX8 := Lib.hid (hx7.ext e8)
      have HB8 := Lib.hid (hb7.ext e8)
      have E8 := Lib.hid (e17.trans e8)
      have E6 := Lib.hid (E67.out.trans e8)
      have HR8 := Lib.hid (row_ext hr7 e8)
      clear q0 q1 q2 cF hx7 hb7 e17 hr7 e8 E67
      go_upto_if 103 with fail
      go_cut [18, 19, 20, 21] from 102 to 154 (fun s18 s19 s20 s21 wx => Hid (Ext w8 wx))
      case first =>
        cases fx with
        | false =>
          go_wp2
          go_meet
          case rel => exact Lib.hid (Ext.refl _)
        | true =>
          have h1 : bathErr Wd ss (ds ++ [(s, dl, dh)]) = 0 := of_decide_eq_true HFX.out
          have hne := (forErr_ok HH.out.2).2.1
          have nn := HN.out.1
          have ct : ∀ W : World, IsBath W W.heap.size A n c (some ⟨g, 0, none⟩) (n' + 1) cap ss (ds ++ [(s, dl, dh)]) → Calls Try.prog 21 #[.agg #[.int .i64 Wd, .slice A n c, .slice (some ⟨g, 0, none⟩) (n' + 1) cap], .int .i64 one, .int .i64 two] W fun e w' => e = .returned (.tuple #[.int .i64 (kindOf Wd ss (sizes (ds ++ [(s, dl, dh)])) one two), .int .i64 0]) ∧ Ext W w' := fun W hW => by
            have := touch_any (Wd := Wd) one two hW
            rw [touchAns_ok h1 hne (by omega) (by omega)] at this
            exact this
          have cf : ∀ W : World, IsBath W W.heap.size A n c (some ⟨g, 0, none⟩) (n' + 1) cap ss (ds ++ [(s, dl, dh)]) → _ := fun W hW => firstAns_prog (Wd := Wd) (w := W) one two hW
          have hmk := more_kind h1 one two
          obtain ⟨mm, hmm⟩ : ∃ mm, kindOf Wd ss (sizes (ds ++ [(s, dl, dh)])) one two = mm := ⟨_, rfl⟩
          rw [hmm] at ct hmk
          rw [HKK.out] at hmk
          have hmk' : ¬ mm < 0 := by omega
          obtain ⟨⟨⟨fa, fb⟩, fg⟩, hfa⟩ : ∃ r, firstAns Wd ss (ds ++ [(s, dl, dh)]) one two = r := ⟨_, rfl⟩
          rw [hfa] at cf
          clear hfa hmm hmk h1 hne nn
          obtain ⟨q0, q1, q2⟩ := HX8.out.cells
          go_wp2_with fail
          refine (ct _ HX8.out.bath).mono ?_
          rintro e w9 ⟨rfl, e9⟩
          have hx9 := HX8.out.ext e9
          clear q0 q1 q2 ct
          obtain ⟨q0, q1, q2⟩ := hx9.cells
          go_wp2_with fail
          refine (cf _ hx9.bath).mono ?_
          rintro e w10 ⟨rfl, e10⟩
          have eA := e9.trans e10
          clear q0 q1 q2 cf hx9 e9 e10
          go_upto_region 14 with fail
          obtain ⟨w11, hw11⟩ : ∃ w11, w10.alloc (.cells #[.int .i64 fa, .int .i64 fb] 29) = w11 := ⟨_, rfl⟩
          have e11 : Ext w10 w11 := by rw [← hw11]; exact ext_alloc _ _
          have hss : w11.heap[w10.heap.size]? = some (.cells #[.int .i64 fa, .int .i64 fb] 29 (0, 0)) := by rw [← hw11]; exact row_last _ _ _ rfl
          rw [hw11]
          obtain ⟨ps, hps⟩ : ∃ ps, w10.heap.size = ps := ⟨_, rfl⟩
          rw [hps] at hss ⊢
          have eB := eA.trans e11
          have hrr := row_ext HR8.out eB
          obtain ⟨q0, q1, q2⟩ := (HB8.out.ext eB).cells
          have m0 : w11.cell? ⟨pr, 0, none⟩ = some (.int .i64 0) := cell_of_row _ _ _ _ _ _ hrr
          have m1 : w11.cell? ⟨pr, 1, none⟩ = some (.int .i64 0) := cell_of_row _ _ _ _ _ _ hrr
          have n0 : w11.cell? ⟨ps, 0, none⟩ = some (.int .i64 fa) := cell_of_row _ _ _ _ _ _ hss
          have n1 : w11.cell? ⟨ps, 1, none⟩ = some (.int .i64 fb) := cell_of_row _ _ _ _ _ _ hss
          have EB := Lib.hid eB
          clear hw11 hps hss hrr eA e11 eB
          go_wp2
          go_meet
          case rel => exact EB
      case rest =>
        obtain ⟨q0, q1, q2⟩ := (HB8.out.ext hcut.out).cells
        by_cases hn0 : n' = 0
        · have hz : (n' : Int) = 0 := by omega
          have HE := Lib.hid (HE0.out.trans (E8.out.trans hcut.out))
          clear hn0
          go_wp2_with fail
          refine (works_any _).mono ?_
          rintro e v9 ⟨rfl, f9⟩
          go_wp2
          go_ret
          exact ⟨rfl, HE.out.trans f9⟩
        · have hz : ¬ (n' : Int) = 0 := by omega
          have hp8 := row_ext HX8.out.row hcut.out
          obtain ⟨b, off, rfl, _⟩ := HX6.out.drop (k := 0) (by omega)
          have e6c := E6.out.trans hcut.out
          go_upto_region 19 with (refine wpList_store_row rfl 25 (.tmp 17) (.tmp 160) rfl px _ rfl rfl 25 _ hp8 (by kernel_rfl) rfl (by simp [Value.oneCell']) ?_)
          obtain ⟨wa, hwa⟩ : ∃ wa, wc.setRow px #[.int .i64 Wd, .slice A n c, .slice (some ⟨b, off, none⟩) n' c'] = wa := ⟨_, rfl⟩
          have ea : Ext w6 wa := by rw [← hwa]; exact below_setRow e6c (by rw [HPX.out]; exact Nat.le_refl _) _
          have hpa : wa.heap[px]? = some (.cells #[.int .i64 Wd, .slice A n c, .slice (some ⟨b, off, none⟩) n' c'] 25 (0, 0)) := by rw [← hwa]; exact row_setRow _ _ _ _ _ _ hp8
          rw [hwa]
          have EA := Lib.hid ea
          have HPA := Lib.hid hpa
          have hxa := HX6.out.ext ea
          clear hwa ea hpa e6c hp8 q0 q1 q2 hcut E6 E8 HX8 HB8 HR8
          have hpz : p < wa.heap.size := (Array.getElem?_eq_some_iff.1 hxa.row).1
          obtain ⟨q0, q1, q2⟩ := hxa.cells
          have hsrc := hxa.bath.hds.ext (ext_alloc wa (.cells #[] 62))
          have HXA := Lib.hid hxa
          clear hxa
          go_wp2_with (first | (at_builtin; refine wpList_append_all rfl 161 163 rfl wa.heap.size rfl rfl hsrc HN.out.2 (by omega) (by omega) ?_))
          intro ga capa wb hown hga hgrow
          have eb : Ext wa wb := (ext_alloc wa (.cells #[] 62)).trans (ext_grow hgrow)
          have hpb := row_ext HPA.out eb
          have cb2 : wb.cell? ⟨px, 2, none⟩ = some (.slice (some ⟨b, off, none⟩) n' c') := cell_of_row _ _ _ _ _ _ hpb
          have fb2 : wb.frozen? ⟨px, 2, none⟩ = false := by simp [World.frozen?, hpb]
          obtain ⟨cs, hdr, hgab, hcapa⟩ := dropRow_of hown
          have hgpx : ga ≠ px := by
            have := (Array.getElem?_eq_some_iff.1 HPA.out).1
            have := (ext_alloc wa (.cells #[] 62)).size
            omega
          have HDR := Lib.hid (And.intro hdr (And.intro hgpx hcapa))
          have EB := Lib.hid (EA.out.trans eb)
          have HPB := Lib.hid hpb
          have hga6 : w6.heap.size ≤ ga := by have := EA.out.size; have := (ext_alloc wa (.cells #[] 62)).size; omega
          clear hown hga hgrow eb hpb hdr hgab hcapa hgpx q0 q1 q2 hsrc HXA hpz EA HPA
          go_upto_region 20 with fail
          obtain ⟨wd, hwd⟩ : ∃ wd, wb.setCell ⟨px, 2, none⟩ (.slice (some ⟨ga, 0, none⟩) n' capa) = wd := ⟨_, rfl⟩
          have ed : Ext w6 wd := by rw [← hwd]; exact Below.setCell EB.out (show w6.heap.size ≤ px by rw [HPX.out]; exact Nat.le_refl _) _
          have hpd : wd.heap[px]? = some (.cells #[.int .i64 Wd, .slice A n c, .slice (some ⟨ga, 0, none⟩) n' capa] 25 (0, 0)) := by rw [← hwd]; exact row_setCell _ _ _ _ _ _ _ HPB.out
          have hdd : DropRow wd ga cs ds := by rw [← hwd]; exact HDR.out.1.other _ (fun e => HDR.out.2.1 e.symm)
          rw [hwd]
          have hxd := HX6.out.ext ed
          obtain ⟨q0, q1, q2⟩ := hxd.cells
          have cd2 : wd.cell? ⟨px, 2, none⟩ = some (.slice (some ⟨ga, 0, none⟩) n' capa) := cell_of_row _ _ _ _ _ _ hpd
          have hm1 := Int.emod_nonneg u (show (n' : Int) ≠ 0 by omega)
          have hm2 := Int.emod_lt_of_pos u (show 0 < (n' : Int) by omega)
          have hpos : (0 : Int) < (n' : Int) := by omega
          have hcp := HDR.out.2.2
          obtain ⟨hu1, hu2⟩ := hu
          have ED := Lib.hid ed
          have HPD := Lib.hid hpd
          have HDD := Lib.hid hdd
          clear cb2 fb2 hwd ed hpd hdd hxd EB HPB hn0
          go_quiet (fail)
          go_upto_region 21 with fail
          obtain ⟨we, hwe⟩ : ∃ we, wd.drewN nq = we := ⟨_, rfl⟩
          have ee : Ext wd we := by rw [← hwe]; exact ext_drewN (Ext.refl _) _
          rw [hwe]
          obtain ⟨k, hk⟩ : ∃ k, (u % (n' : Int)).toNat = k := ⟨_, rfl⟩
          have hkn : k < ds.length := by have := HN.out.2; omega
          rw [hk]
          have hde := HDD.out.ext ee
          obtain ⟨d0, d1, d2⟩ := hde.cell hkn
          have hdo := drop_ok HH.out.1 (i := k) (s := ds.getD k (0, 0, 0)) (by simp [hkn])
          obtain ⟨sp, L, H, hgd⟩ : ∃ sp L H, ds.getD k (0, 0, 0) = (sp, L, H) := ⟨_, _, _, rfl⟩
          rw [hgd] at d0 d1 d2 hdo
          have b1 : 1 ≤ L := hdo.2.1
          have b2 : L ≤ H := hdo.2.2.1
          have b3 : H ≤ 10000 := hdo.2.2.2
          have hle := row_ext HP.out.2.1 ((E06.out.trans ED.out).trans ee)
          have l0c : we.cell? ⟨p2, 0, none⟩ = some (.int .u16 l0) := cell_of_row _ _ _ _ _ _ hle
          have l1c : we.cell? ⟨p2, 1, none⟩ = some (.int .u16 l1) := cell_of_row _ _ _ _ _ _ hle
          have fe1 : we.frozen? ⟨ga, k * 3 + 1, none⟩ = false := by simp [World.frozen?, hde.row]
          have HGD := Lib.hid hgd
          have HDE := Lib.hid hde
          have HKN := Lib.hid hkn
          have HPE := Lib.hid (row_ext HPD.out ee)
          have EE := Lib.hid (ED.out.trans ee)
          obtain ⟨hl00, hl01⟩ := hl0
          obtain ⟨hl10, hl11⟩ := hl1
          clear q0 q1 q2 cd2 hm1 hm2 hpos hwe ee hk hkn hde hdo hgd hle HDD HPD ED
          go_still_tail 14, (by kernel_rfl)
          change wpList _ _ _ _ _ we.drew
          obtain ⟨wf, hwf⟩ : ∃ wf, we.drew = wf := ⟨_, rfl⟩
          have ef : Ext we wf := by rw [← hwf]; exact ext_drew we
          have hdf := HDE.out.ext ef
          have c1f : wf.cell? ⟨ga, k * 3 + 1, none⟩ = some (.int .i64 L) := (cell_of_row _ _ _ _ _ _ hdf.row).trans ((cell_of_row _ _ _ _ _ _ HDE.out.row).symm.trans d1)
          have f1f : wf.frozen? ⟨ga, k * 3 + 1, none⟩ = false := by simp [World.frozen?, hdf.row]
          rw [hwf]
          have HDF := Lib.hid hdf
          have HPF := Lib.hid (row_ext HPE.out ef)
          have EF := Lib.hid (EE.out.trans ef)
          clear hwf ef hdf HDE HPE EE d0 d1 d2 l0c l1c fe1
          go_upto_region 22 with fail
          obtain ⟨M, hM⟩ : ∃ M, min H (L + l0) = M := ⟨_, rfl⟩
          have M1 : L ≤ M := by omega
          have M2 : M ≤ H := by omega
          rw [hM]
          obtain ⟨wg, hwg⟩ : ∃ wg, wf.setCell ⟨ga, k * 3 + 1, none⟩ (.int .i64 M) = wg := ⟨_, rfl⟩
          have eg : Ext w6 wg := by rw [← hwg]; exact Below.setCell EF.out hga6 _
          have hdg := HDF.out.set1 HKN.out M
          rw [HGD.out, hwg] at hdg
          have hpg : wg.heap[px]? = some (.cells #[.int .i64 Wd, .slice A n c, .slice (some ⟨ga, 0, none⟩) n' capa] 25 (0, 0)) := by rw [← hwg]; exact (heap_set_other wf ga _ px _ (fun e => HDR.out.2.1 e.symm)).trans HPF.out
          rw [hwg]
          have hkn2 : k < (ds.set k (sp, M, H)).length := by rw [List.length_set]; exact HKN.out
          have hgd2 : (ds.set k (sp, M, H)).getD k (0, 0, 0) = (sp, M, H) := by rw [set_getD _ _ _ _ HKN.out, if_pos rfl]
          obtain ⟨d0, d1, d2⟩ := hdg.cell hkn2
          rw [hgd2] at d0 d1 d2
          have hle := row_ext HP.out.2.1 (E06.out.trans eg)
          have l0c : wg.cell? ⟨p2, 0, none⟩ = some (.int .u16 l0) := cell_of_row _ _ _ _ _ _ hle
          have l1c : wg.cell? ⟨p2, 1, none⟩ = some (.int .u16 l1) := cell_of_row _ _ _ _ _ _ hle
          have fe1 : wg.frozen? ⟨ga, k * 3 + 2, none⟩ = false := by simp [World.frozen?, hdg.row]
          have HDG := Lib.hid hdg
          have HPG := Lib.hid hpg
          have EG := Lib.hid eg
          have HG2 := Lib.hid (And.intro hkn2 hgd2)
          clear hM hwg eg hdg hpg hkn2 hgd2 hle c1f f1f HDF HPF EF
          go_still_tail 14, (by kernel_rfl)
          change wpList _ _ _ _ _ wg.drew
          obtain ⟨wh, hwh⟩ : ∃ wh, wg.drew = wh := ⟨_, rfl⟩
          have eh : Ext wg wh := by rw [← hwh]; exact ext_drew wg
          have hdh := HDG.out.ext eh
          have c1h : wh.cell? ⟨ga, k * 3 + 2, none⟩ = some (.int .i64 H) := (cell_of_row _ _ _ _ _ _ hdh.row).trans ((cell_of_row _ _ _ _ _ _ HDG.out.row).symm.trans d2)
          have f1h : wh.frozen? ⟨ga, k * 3 + 2, none⟩ = false := by simp [World.frozen?, hdh.row]
          rw [hwh]
          have HDH := Lib.hid hdh
          have HPH := Lib.hid (row_ext HPG.out eh)
          have EH := Lib.hid (EG.out.trans eh)
          clear hwh eh hdh HDG HPG EG d0 d1 d2 l0c l1c fe1
          go_upto_region 23 with fail
          obtain ⟨X, hX⟩ : ∃ X, max M (H - l1) = X := ⟨_, rfl⟩
          have X1 : M ≤ X := by omega
          have X2 : X ≤ H := by omega
          rw [hX]
          obtain ⟨wi, hwi⟩ : ∃ wi, wh.setCell ⟨ga, k * 3 + 1 + 1, none⟩ (.int .i64 X) = wi := ⟨_, rfl⟩
          have ei : Ext w6 wi := by rw [← hwi]; exact Below.setCell EH.out hga6 _
          have hdi := HDH.out.set2 HG2.out.1 X
          have hwi' : wh.setCell ⟨ga, k * 3 + 2, none⟩ (.int .i64 X) = wi := hwi
          rw [HG2.out.2, List.set_set, hwi'] at hdi
          have hpi : wi.heap[px]? = some (.cells #[.int .i64 Wd, .slice A n c, .slice (some ⟨ga, 0, none⟩) n' capa] 25 (0, 0)) := by rw [← hwi]; exact (heap_set_other wh ga _ px _ (fun e => HDR.out.2.1 e.symm)).trans HPH.out
          rw [hwi]
          have hbi := HX6.out.bath.ext ei
          have hbx : BathAt wi px Wd A n c (some ⟨ga, 0, none⟩) n' capa ss (ds.set k (sp, M, X)) := ⟨hpi, ⟨hbi.nss, by rw [List.length_set]; exact hbi.nds, hbi.nle, hbi.nle', hbi.cap, HDR.out.2.2, hbi.hss, hdi.held⟩⟩
          have hgd := HGD.out
          have ok := narrow_ok HH.out.1 HKN.out (lo := M) (hi := X) (by rw [hgd]; exact M1) X1 (by rw [hgd]; exact X2)
          have hkk := narrow_kind HH.out.1 HKN.out (lo := M) (hi := X) (by rw [hgd]; exact M1) X1 (by rw [hgd]; exact X2) one two
          rw [hgd] at ok hkk
          rw [HKK.out] at hkk
          have hne := (forErr_ok HH.out.2).2.1
          have nn := HN.out.1
          have ct : ∀ W : World, IsBath W W.heap.size A n c (some ⟨ga, 0, none⟩) n' capa ss (ds.set k (sp, M, X)) → Calls Try.prog 21 #[.agg #[.int .i64 Wd, .slice A n c, .slice (some ⟨ga, 0, none⟩) n' capa], .int .i64 one, .int .i64 two] W fun e w' => e = .returned (.tuple #[.int .i64 (kindOf Wd ss (sizes (ds.set k (sp, M, X))) one two), .int .i64 0]) ∧ Ext W w' := fun W hW => by
            have := touch_any (Wd := Wd) one two hW
            rw [touchAns_ok ok hne (by omega) (by omega)] at this
            exact this
          obtain ⟨nk, hnk⟩ : ∃ nk, kindOf Wd ss (sizes (ds.set k (sp, M, X))) one two = nk := ⟨_, rfl⟩
          rw [hnk] at ct hkk
          obtain rfl : nk = 0 := by omega
          have HE0i := Lib.hid (HE0.out.trans (E06.out.trans ei))
          have HBX := Lib.hid hbx
          clear hX hwi hwi' ei hdi hpi hbi hgd ok hne nn hnk hbx hkk X1 X2 M1 M2 HDH HPH EH HG2 HGD HKN HDR c1h f1h b1 b2 b3
          obtain ⟨q0, q1, q2⟩ := HBX.out.cells
          go_wp2_with fail
          refine (ct _ HBX.out.bath).mono ?_
          rintro e wj ⟨rfl, ej⟩
          have HE := Lib.hid (HE0i.out.trans ej)
          clear HE0i ej ct q0 q1 q2 HBX
          go_wp2_with fail
          refine (works_any _).mono ?_
          rintro e v9 ⟨rfl, f9⟩
          go_wp2
          go_ret
          exact ⟨rfl, HE.out.trans f9⟩
    · by_cases hk1 : kk = 1
      · subst hk1
        obtain ⟨lo, hi, hfa, hR, hlo1, hlohi, hlon, hhin, hk2⟩ := first_some HH.out.2 (by rw [HKK.out]; omega)
        rw [HKK.out] at hk2
        have HR := Lib.hid hR
        have hds := HN.out.2
        rw [← hds] at hlon hhin hk2
        have hhx : ¬ hi ≤ n' := fun h => by have := hk2.2 h; omega
        clear hR hk2 hds
        have HLN := Lib.hid (And.intro hlon hhx)
        have z1 : (1 : Int) ≤ (lo : Int) := by omega
        have z2 : (lo : Int) ≤ (hi : Int) := by omega
        have z3 : (hi : Int) ≤ (n' : Int) + 1 := by omega
        have z4 : ¬ (hi : Int) ≤ (n' : Int) := by omega
        clear hlo1 hlohi hlon hhin hhx
        rw [hfa] at c25
        clear hfa
        go_wp2_with fail
        refine (c25 _ hx3.bath).mono ?_
        rintro e w4 ⟨rfl, e4⟩
        have hx4 := hx3.ext e4
        have e14 := Lib.hid (e13.out.trans e4)
        clear q0 q1 q2 c25 hx3 e4 e13
        obtain ⟨q0, q1, q2⟩ := hx4.cells
        go_upto_region 6 with fail
        obtain ⟨w5, hw5⟩ : ∃ w5, w4.alloc (.cells #[.int .i64 (lo : Int), .int .i64 (hi : Int)] 29) = w5 := ⟨_, rfl⟩
        have e5 : Ext w4 w5 := by rw [← hw5]; exact ext_alloc _ _
        have hrr : w5.heap[w4.heap.size]? = some (.cells #[.int .i64 (lo : Int), .int .i64 (hi : Int)] 29 (0, 0)) := by rw [← hw5]; exact row_last _ _ _ rfl
        rw [hw5]
        obtain ⟨pr, hpr⟩ : ∃ pr, w4.heap.size = pr := ⟨_, rfl⟩
        rw [hpr] at hrr ⊢
        have hx5 := hx4.ext e5
        have rd := row_ext HP.out.1 (e14.out.trans e5)
        have e15 := Lib.hid (e14.out.trans e5)
        have d0 : w5.cell? ⟨p1, 0, none⟩ = some (.int .i64 s) := cell_of_row _ _ _ _ _ _ rd
        have d1 : w5.cell? ⟨p1, 1, none⟩ = some (.int .i64 dl) := cell_of_row _ _ _ _ _ _ rd
        have d2 : w5.cell? ⟨p1, 2, none⟩ = some (.int .i64 dh) := cell_of_row _ _ _ _ _ _ rd
        have m0 : w5.cell? ⟨pr, 0, none⟩ = some (.int .i64 (lo : Int)) := cell_of_row _ _ _ _ _ _ hrr
        have m1 : w5.cell? ⟨pr, 1, none⟩ = some (.int .i64 (hi : Int)) := cell_of_row _ _ _ _ _ _ hrr
        have HRR := Lib.hid hrr
        clear q0 q1 q2 hx4 e14 e5 hw5 hpr rd hrr
        obtain ⟨q0, q1, q2⟩ := hx5.cells
        go_wp2_with fail
        refine (with_any s dl dh hx5.bath (by omega)).mono ?_
        rintro e w6 ⟨g, cap, rfl, e6, hI⟩
        have hx6 := hx5.ext e6
        have e16 := Lib.hid (e15.out.trans e6)
        have HRR6 := Lib.hid (row_ext HRR.out e6)
        clear d0 d1 d2 m0 m1 q0 q1 q2 hx5 e15 e6 HRR
        obtain ⟨q0, q1, q2⟩ := hx6.cells
        go_upto_region 11 with fail
        obtain ⟨w7, hw7⟩ : ∃ w7, w6.alloc (.cells #[.int .i64 Wd, .slice A n c, .slice (some ⟨g, 0, none⟩) (n' + 1) cap] 25) = w7 := ⟨_, rfl⟩
        have e7 : Ext w6 w7 := by rw [← hw7]; exact ext_alloc _ _
        have hx7 : BathAt w7 w6.heap.size Wd A n c (some ⟨g, 0, none⟩) (n' + 1) cap ss (ds ++ [(s, dl, dh)]) := by rw [← hw7]; exact BathAt.new hI
        rw [hw7]
        obtain ⟨px, hpx⟩ : ∃ px, w6.heap.size = px := ⟨_, rfl⟩
        rw [hpx] at hx7 ⊢
        have hb7 := hx6.ext e7
        have e17 := e16.out.trans e7
        have hr7 := row_ext HRR6.out e7
        obtain ⟨q0, q1, q2⟩ := hx7.cells
        have cF := fine_any (Wd := Wd) hx7.bath
        obtain ⟨fx, hfx⟩ : ∃ fx, fineB Wd ss (ds ++ [(s, dl, dh)]) = fx := ⟨_, rfl⟩
        rw [hfx] at cF
        have HFX := Lib.hid hfx
        have HPX := Lib.hid hpx
        have HX6 := Lib.hid hx6
        have E06 := Lib.hid e16.out
        have E67 := Lib.hid e7
        clear hw7 hpx hfx hI hx6 e16 e7 HRR6
        go_wp2_with fail
        refine cF.mono ?_
        rintro e w8 ⟨rfl, e8⟩
        have HX8 := Lib.hid (hx7.ext e8)
        have HB8 := Lib.hid (hb7.ext e8)
        have E8 := Lib.hid (e17.trans e8)
        have E6 := Lib.hid (E67.out.trans e8)
        have HR8 := Lib.hid (row_ext hr7 e8)
        clear q0 q1 q2 cF hx7 hb7 e17 hr7 e8 E67
        go_upto_if 103 with fail
        go_cut [18, 19, 20, 21] from 102 to 154 (fun s18 s19 s20 s21 wx => Hid (Ext w8 wx))
        case first =>
          cases fx with
          | false =>
            go_wp2
            go_meet
            case rel => exact Lib.hid (Ext.refl _)
          | true =>
            have h1 : bathErr Wd ss (ds ++ [(s, dl, dh)]) = 0 := of_decide_eq_true HFX.out
            have hne := (forErr_ok HH.out.2).2.1
            have nn := HN.out.1
            have ct : ∀ W : World, IsBath W W.heap.size A n c (some ⟨g, 0, none⟩) (n' + 1) cap ss (ds ++ [(s, dl, dh)]) → Calls Try.prog 21 #[.agg #[.int .i64 Wd, .slice A n c, .slice (some ⟨g, 0, none⟩) (n' + 1) cap], .int .i64 one, .int .i64 two] W fun e w' => e = .returned (.tuple #[.int .i64 (kindOf Wd ss (sizes (ds ++ [(s, dl, dh)])) one two), .int .i64 0]) ∧ Ext W w' := fun W hW => by
              have := touch_any (Wd := Wd) one two hW
              rw [touchAns_ok h1 hne (by omega) (by omega)] at this
              exact this
            have cf : ∀ W : World, IsBath W W.heap.size A n c (some ⟨g, 0, none⟩) (n' + 1) cap ss (ds ++ [(s, dl, dh)]) → _ := fun W hW => firstAns_prog (Wd := Wd) (w := W) one two hW
            have hmk := more_kind h1 one two
            obtain ⟨mm, hmm⟩ : ∃ mm, kindOf Wd ss (sizes (ds ++ [(s, dl, dh)])) one two = mm := ⟨_, rfl⟩
            rw [hmm] at ct hmk
            rw [HKK.out] at hmk
            have hmk' : ¬ mm < 1 := by omega
            obtain ⟨hi', hfa, _⟩ := more_first HH.out.2 h1 (by rw [HKK.out]; omega) HR.out (by have := HLN.out.1; have := HN.out.2; omega)
            rw [hfa] at cf
            clear hfa hmm hmk h1 hne nn
            obtain ⟨q0, q1, q2⟩ := HX8.out.cells
            go_wp2_with fail
            refine (ct _ HX8.out.bath).mono ?_
            rintro e w9 ⟨rfl, e9⟩
            have hx9 := HX8.out.ext e9
            clear q0 q1 q2 ct
            obtain ⟨q0, q1, q2⟩ := hx9.cells
            go_wp2_with fail
            refine (cf _ hx9.bath).mono ?_
            rintro e w10 ⟨rfl, e10⟩
            have eA := e9.trans e10
            clear q0 q1 q2 cf hx9 e9 e10
            go_upto_region 14 with fail
            obtain ⟨w11, hw11⟩ : ∃ w11, w10.alloc (.cells #[.int .i64 (lo : Int), .int .i64 (hi' : Int)] 29) = w11 := ⟨_, rfl⟩
            have e11 : Ext w10 w11 := by rw [← hw11]; exact ext_alloc _ _
            have hss : w11.heap[w10.heap.size]? = some (.cells #[.int .i64 (lo : Int), .int .i64 (hi' : Int)] 29 (0, 0)) := by rw [← hw11]; exact row_last _ _ _ rfl
            rw [hw11]
            obtain ⟨ps, hps⟩ : ∃ ps, w10.heap.size = ps := ⟨_, rfl⟩
            rw [hps] at hss ⊢
            have eB := eA.trans e11
            have hrr := row_ext HR8.out eB
            obtain ⟨q0, q1, q2⟩ := (HB8.out.ext eB).cells
            have m0 : w11.cell? ⟨pr, 0, none⟩ = some (.int .i64 (lo : Int)) := cell_of_row _ _ _ _ _ _ hrr
            have m1 : w11.cell? ⟨pr, 1, none⟩ = some (.int .i64 (hi : Int)) := cell_of_row _ _ _ _ _ _ hrr
            have n0 : w11.cell? ⟨ps, 0, none⟩ = some (.int .i64 (lo : Int)) := cell_of_row _ _ _ _ _ _ hss
            have n1 : w11.cell? ⟨ps, 1, none⟩ = some (.int .i64 (hi' : Int)) := cell_of_row _ _ _ _ _ _ hss
            have EB := Lib.hid eB
            clear hw11 hps hss hrr eA e11 eB
            go_wp2
            go_meet
            case rel => exact EB
        case rest =>
          obtain ⟨q0, q1, q2⟩ := (HB8.out.ext hcut.out).cells
          by_cases hn0 : n' = 0
          · have := HLN.out.1
            omega
          · have hz : ¬ (n' : Int) = 0 := by omega
            have hp8 := row_ext HX8.out.row hcut.out
            obtain ⟨b, off, rfl, _⟩ := HX6.out.drop (k := 0) (by omega)
            have e6c := E6.out.trans hcut.out
            go_upto_region 19 with (refine wpList_store_row rfl 25 (.tmp 17) (.tmp 160) rfl px _ rfl rfl 25 _ hp8 (by kernel_rfl) rfl (by simp [Value.oneCell']) ?_)
            obtain ⟨wa, hwa⟩ : ∃ wa, wc.setRow px #[.int .i64 Wd, .slice A n c, .slice (some ⟨b, off, none⟩) n' c'] = wa := ⟨_, rfl⟩
            have ea : Ext w6 wa := by rw [← hwa]; exact below_setRow e6c (by rw [HPX.out]; exact Nat.le_refl _) _
            have hpa : wa.heap[px]? = some (.cells #[.int .i64 Wd, .slice A n c, .slice (some ⟨b, off, none⟩) n' c'] 25 (0, 0)) := by rw [← hwa]; exact row_setRow _ _ _ _ _ _ hp8
            rw [hwa]
            have EA := Lib.hid ea
            have HPA := Lib.hid hpa
            have hxa := HX6.out.ext ea
            clear hwa ea hpa e6c hp8 q0 q1 q2 hcut E6 E8 HX8 HB8 HR8
            have hpz : p < wa.heap.size := (Array.getElem?_eq_some_iff.1 hxa.row).1
            obtain ⟨q0, q1, q2⟩ := hxa.cells
            have hsrc := hxa.bath.hds.ext (ext_alloc wa (.cells #[] 62))
            have HXA := Lib.hid hxa
            clear hxa
            go_wp2_with (first | (at_builtin; refine wpList_append_all rfl 161 163 rfl wa.heap.size rfl rfl hsrc HN.out.2 (by omega) (by omega) ?_))
            intro ga capa wb hown hga hgrow
            have eb : Ext wa wb := (ext_alloc wa (.cells #[] 62)).trans (ext_grow hgrow)
            have hpb := row_ext HPA.out eb
            have cb2 : wb.cell? ⟨px, 2, none⟩ = some (.slice (some ⟨b, off, none⟩) n' c') := cell_of_row _ _ _ _ _ _ hpb
            have fb2 : wb.frozen? ⟨px, 2, none⟩ = false := by simp [World.frozen?, hpb]
            obtain ⟨cs, hdr, hgab, hcapa⟩ := dropRow_of hown
            have hgpx : ga ≠ px := by
              have := (Array.getElem?_eq_some_iff.1 HPA.out).1
              have := (ext_alloc wa (.cells #[] 62)).size
              omega
            have HDR := Lib.hid (And.intro hdr (And.intro hgpx hcapa))
            have EB := Lib.hid (EA.out.trans eb)
            have HPB := Lib.hid hpb
            have hga6 : w6.heap.size ≤ ga := by have := EA.out.size; have := (ext_alloc wa (.cells #[] 62)).size; omega
            clear hown hga hgrow eb hpb hdr hgab hcapa hgpx q0 q1 q2 hsrc HXA hpz EA HPA
            go_upto_region 20 with fail
            obtain ⟨wd, hwd⟩ : ∃ wd, wb.setCell ⟨px, 2, none⟩ (.slice (some ⟨ga, 0, none⟩) n' capa) = wd := ⟨_, rfl⟩
            have ed : Ext w6 wd := by rw [← hwd]; exact Below.setCell EB.out (show w6.heap.size ≤ px by rw [HPX.out]; exact Nat.le_refl _) _
            have hpd : wd.heap[px]? = some (.cells #[.int .i64 Wd, .slice A n c, .slice (some ⟨ga, 0, none⟩) n' capa] 25 (0, 0)) := by rw [← hwd]; exact row_setCell _ _ _ _ _ _ _ HPB.out
            have hdd : DropRow wd ga cs ds := by rw [← hwd]; exact HDR.out.1.other _ (fun e => HDR.out.2.1 e.symm)
            rw [hwd]
            have hxd := HX6.out.ext ed
            obtain ⟨q0, q1, q2⟩ := hxd.cells
            have cd2 : wd.cell? ⟨px, 2, none⟩ = some (.slice (some ⟨ga, 0, none⟩) n' capa) := cell_of_row _ _ _ _ _ _ hpd
            have hm1 := Int.emod_nonneg u (show (n' : Int) ≠ 0 by omega)
            have hm2 := Int.emod_lt_of_pos u (show 0 < (n' : Int) by omega)
            have hpos : (0 : Int) < (n' : Int) := by omega
            have hcp := HDR.out.2.2
            obtain ⟨hu1, hu2⟩ := hu
            have ED := Lib.hid ed
            have HPD := Lib.hid hpd
            have HDD := Lib.hid hdd
            clear cb2 fb2 hwd ed hpd hdd hxd EB HPB hn0
            go_quiet (fail)
            go_upto_region 21 with fail
            obtain ⟨we, hwe⟩ : ∃ we, wd.drewN nq = we := ⟨_, rfl⟩
            have ee : Ext wd we := by rw [← hwe]; exact ext_drewN (Ext.refl _) _
            rw [hwe]
            obtain ⟨k, hk⟩ : ∃ k, (u % (n' : Int)).toNat = k := ⟨_, rfl⟩
            have hkn : k < ds.length := by have := HN.out.2; omega
            rw [hk]
            have hde := HDD.out.ext ee
            obtain ⟨d0, d1, d2⟩ := hde.cell hkn
            have hdo := drop_ok HH.out.1 (i := k) (s := ds.getD k (0, 0, 0)) (by simp [hkn])
            obtain ⟨sp, L, H, hgd⟩ : ∃ sp L H, ds.getD k (0, 0, 0) = (sp, L, H) := ⟨_, _, _, rfl⟩
            rw [hgd] at d0 d1 d2 hdo
            have b1 : 1 ≤ L := hdo.2.1
            have b2 : L ≤ H := hdo.2.2.1
            have b3 : H ≤ 10000 := hdo.2.2.2
            have hle := row_ext HP.out.2.1 ((E06.out.trans ED.out).trans ee)
            have l0c : we.cell? ⟨p2, 0, none⟩ = some (.int .u16 l0) := cell_of_row _ _ _ _ _ _ hle
            have l1c : we.cell? ⟨p2, 1, none⟩ = some (.int .u16 l1) := cell_of_row _ _ _ _ _ _ hle
            have fe1 : we.frozen? ⟨ga, k * 3 + 1, none⟩ = false := by simp [World.frozen?, hde.row]
            have HGD := Lib.hid hgd
            have HDE := Lib.hid hde
            have HKN := Lib.hid hkn
            have HPE := Lib.hid (row_ext HPD.out ee)
            have EE := Lib.hid (ED.out.trans ee)
            obtain ⟨hl00, hl01⟩ := hl0
            obtain ⟨hl10, hl11⟩ := hl1
            clear q0 q1 q2 cd2 hm1 hm2 hpos hwe ee hk hkn hde hdo hgd hle HDD HPD ED
            go_still_tail 14, (by kernel_rfl)
            change wpList _ _ _ _ _ we.drew
            obtain ⟨wf, hwf⟩ : ∃ wf, we.drew = wf := ⟨_, rfl⟩
            have ef : Ext we wf := by rw [← hwf]; exact ext_drew we
            have hdf := HDE.out.ext ef
            have c1f : wf.cell? ⟨ga, k * 3 + 1, none⟩ = some (.int .i64 L) := (cell_of_row _ _ _ _ _ _ hdf.row).trans ((cell_of_row _ _ _ _ _ _ HDE.out.row).symm.trans d1)
            have f1f : wf.frozen? ⟨ga, k * 3 + 1, none⟩ = false := by simp [World.frozen?, hdf.row]
            rw [hwf]
            have HDF := Lib.hid hdf
            have HPF := Lib.hid (row_ext HPE.out ef)
            have EF := Lib.hid (EE.out.trans ef)
            clear hwf ef hdf HDE HPE EE d0 d1 d2 l0c l1c fe1
            go_upto_region 22 with fail
            obtain ⟨M, hM⟩ : ∃ M, min H (L + l0) = M := ⟨_, rfl⟩
            have M1 : L ≤ M := by omega
            have M2 : M ≤ H := by omega
            rw [hM]
            obtain ⟨wg, hwg⟩ : ∃ wg, wf.setCell ⟨ga, k * 3 + 1, none⟩ (.int .i64 M) = wg := ⟨_, rfl⟩
            have eg : Ext w6 wg := by rw [← hwg]; exact Below.setCell EF.out hga6 _
            have hdg := HDF.out.set1 HKN.out M
            rw [HGD.out, hwg] at hdg
            have hpg : wg.heap[px]? = some (.cells #[.int .i64 Wd, .slice A n c, .slice (some ⟨ga, 0, none⟩) n' capa] 25 (0, 0)) := by rw [← hwg]; exact (heap_set_other wf ga _ px _ (fun e => HDR.out.2.1 e.symm)).trans HPF.out
            rw [hwg]
            have hkn2 : k < (ds.set k (sp, M, H)).length := by rw [List.length_set]; exact HKN.out
            have hgd2 : (ds.set k (sp, M, H)).getD k (0, 0, 0) = (sp, M, H) := by rw [set_getD _ _ _ _ HKN.out, if_pos rfl]
            obtain ⟨d0, d1, d2⟩ := hdg.cell hkn2
            rw [hgd2] at d0 d1 d2
            have hle := row_ext HP.out.2.1 (E06.out.trans eg)
            have l0c : wg.cell? ⟨p2, 0, none⟩ = some (.int .u16 l0) := cell_of_row _ _ _ _ _ _ hle
            have l1c : wg.cell? ⟨p2, 1, none⟩ = some (.int .u16 l1) := cell_of_row _ _ _ _ _ _ hle
            have fe1 : wg.frozen? ⟨ga, k * 3 + 2, none⟩ = false := by simp [World.frozen?, hdg.row]
            have HDG := Lib.hid hdg
            have HPG := Lib.hid hpg
            have EG := Lib.hid eg
            have HG2 := Lib.hid (And.intro hkn2 hgd2)
            clear hM hwg eg hdg hpg hkn2 hgd2 hle c1f f1f HDF HPF EF
            go_still_tail 14, (by kernel_rfl)
            change wpList _ _ _ _ _ wg.drew
            obtain ⟨wh, hwh⟩ : ∃ wh, wg.drew = wh := ⟨_, rfl⟩
            have eh : Ext wg wh := by rw [← hwh]; exact ext_drew wg
            have hdh := HDG.out.ext eh
            have c1h : wh.cell? ⟨ga, k * 3 + 2, none⟩ = some (.int .i64 H) := (cell_of_row _ _ _ _ _ _ hdh.row).trans ((cell_of_row _ _ _ _ _ _ HDG.out.row).symm.trans d2)
            have f1h : wh.frozen? ⟨ga, k * 3 + 2, none⟩ = false := by simp [World.frozen?, hdh.row]
            rw [hwh]
            have HDH := Lib.hid hdh
            have HPH := Lib.hid (row_ext HPG.out eh)
            have EH := Lib.hid (EG.out.trans eh)
            clear hwh eh hdh HDG HPG EG d0 d1 d2 l0c l1c fe1
            go_upto_region 23 with fail
            obtain ⟨X, hX⟩ : ∃ X, max M (H - l1) = X := ⟨_, rfl⟩
            have X1 : M ≤ X := by omega
            have X2 : X ≤ H := by omega
            rw [hX]
            obtain ⟨wi, hwi⟩ : ∃ wi, wh.setCell ⟨ga, k * 3 + 1 + 1, none⟩ (.int .i64 X) = wi := ⟨_, rfl⟩
            have ei : Ext w6 wi := by rw [← hwi]; exact Below.setCell EH.out hga6 _
            have hdi := HDH.out.set2 HG2.out.1 X
            have hwi' : wh.setCell ⟨ga, k * 3 + 2, none⟩ (.int .i64 X) = wi := hwi
            rw [HG2.out.2, List.set_set, hwi'] at hdi
            have hpi : wi.heap[px]? = some (.cells #[.int .i64 Wd, .slice A n c, .slice (some ⟨ga, 0, none⟩) n' capa] 25 (0, 0)) := by rw [← hwi]; exact (heap_set_other wh ga _ px _ (fun e => HDR.out.2.1 e.symm)).trans HPH.out
            rw [hwi]
            have hbi := HX6.out.bath.ext ei
            have hbx : BathAt wi px Wd A n c (some ⟨ga, 0, none⟩) n' capa ss (ds.set k (sp, M, X)) := ⟨hpi, ⟨hbi.nss, by rw [List.length_set]; exact hbi.nds, hbi.nle, hbi.nle', hbi.cap, HDR.out.2.2, hbi.hss, hdi.held⟩⟩
            have hgd := HGD.out
            have ok := narrow_ok HH.out.1 HKN.out (lo := M) (hi := X) (by rw [hgd]; exact M1) X1 (by rw [hgd]; exact X2)
            have hkk := narrow_kind HH.out.1 HKN.out (lo := M) (hi := X) (by rw [hgd]; exact M1) X1 (by rw [hgd]; exact X2) one two
            rw [hgd] at ok hkk
            rw [HKK.out] at hkk
            have hne := (forErr_ok HH.out.2).2.1
            have nn := HN.out.1
            have ct : ∀ W : World, IsBath W W.heap.size A n c (some ⟨ga, 0, none⟩) n' capa ss (ds.set k (sp, M, X)) → Calls Try.prog 21 #[.agg #[.int .i64 Wd, .slice A n c, .slice (some ⟨ga, 0, none⟩) n' capa], .int .i64 one, .int .i64 two] W fun e w' => e = .returned (.tuple #[.int .i64 (kindOf Wd ss (sizes (ds.set k (sp, M, X))) one two), .int .i64 0]) ∧ Ext W w' := fun W hW => by
              have := touch_any (Wd := Wd) one two hW
              rw [touchAns_ok ok hne (by omega) (by omega)] at this
              exact this
            obtain ⟨nk, hnk⟩ : ∃ nk, kindOf Wd ss (sizes (ds.set k (sp, M, X))) one two = nk := ⟨_, rfl⟩
            rw [hnk] at ct hkk
            skip
            have HE0i := Lib.hid (HE0.out.trans (E06.out.trans ei))
            have HBX := Lib.hid hbx
            clear hX hwi hwi' ei hdi hpi hbi hgd ok hne nn hnk hbx hkk X1 X2 M1 M2 HDH HPH EH HG2 HGD HKN HDR c1h f1h b1 b2 b3
            obtain ⟨q0, q1, q2⟩ := HBX.out.cells
            go_wp2_with fail
            refine (ct _ HBX.out.bath).mono ?_
            rintro e wj ⟨rfl, ej⟩
            have HE := Lib.hid (HE0i.out.trans ej)
            clear HE0i ej ct q0 q1 q2 HBX
            go_wp2_with fail
            refine (works_any _).mono ?_
            rintro e v9 ⟨rfl, f9⟩
            go_wp2
            go_ret
            exact ⟨rfl, HE.out.trans f9⟩
      · obtain rfl : kk = 2 := by have := HK.out; omega
        obtain ⟨lo, hi, hfa, hR, hlo1, hlohi, hlon, hhin, hk2⟩ := first_some HH.out.2 (by rw [HKK.out]; omega)
        rw [HKK.out] at hk2
        have HR := Lib.hid hR
        have hds := HN.out.2
        rw [← hds] at hlon hhin hk2
        have hhx : hi ≤ n' := hk2.1 rfl
        clear hR hk2 hds
        have HLN := Lib.hid (And.intro hlon hhx)
        have z1 : (1 : Int) ≤ (lo : Int) := by omega
        have z2 : (lo : Int) ≤ (hi : Int) := by omega
        have z3 : (hi : Int) ≤ (n' : Int) + 1 := by omega
        have z4 : (hi : Int) ≤ (n' : Int) := by omega
        clear hlo1 hlohi hlon hhin hhx
        rw [hfa] at c25
        clear hfa
        go_wp2_with fail
        refine (c25 _ hx3.bath).mono ?_
        rintro e w4 ⟨rfl, e4⟩
        have hx4 := hx3.ext e4
        have e14 := Lib.hid (e13.out.trans e4)
        clear q0 q1 q2 c25 hx3 e4 e13
        obtain ⟨q0, q1, q2⟩ := hx4.cells
        go_upto_region 6 with fail
        obtain ⟨w5, hw5⟩ : ∃ w5, w4.alloc (.cells #[.int .i64 (lo : Int), .int .i64 (hi : Int)] 29) = w5 := ⟨_, rfl⟩
        have e5 : Ext w4 w5 := by rw [← hw5]; exact ext_alloc _ _
        have hrr : w5.heap[w4.heap.size]? = some (.cells #[.int .i64 (lo : Int), .int .i64 (hi : Int)] 29 (0, 0)) := by rw [← hw5]; exact row_last _ _ _ rfl
        rw [hw5]
        obtain ⟨pr, hpr⟩ : ∃ pr, w4.heap.size = pr := ⟨_, rfl⟩
        rw [hpr] at hrr ⊢
        have hx5 := hx4.ext e5
        have rd := row_ext HP.out.1 (e14.out.trans e5)
        have e15 := Lib.hid (e14.out.trans e5)
        have d0 : w5.cell? ⟨p1, 0, none⟩ = some (.int .i64 s) := cell_of_row _ _ _ _ _ _ rd
        have d1 : w5.cell? ⟨p1, 1, none⟩ = some (.int .i64 dl) := cell_of_row _ _ _ _ _ _ rd
        have d2 : w5.cell? ⟨p1, 2, none⟩ = some (.int .i64 dh) := cell_of_row _ _ _ _ _ _ rd
        have m0 : w5.cell? ⟨pr, 0, none⟩ = some (.int .i64 (lo : Int)) := cell_of_row _ _ _ _ _ _ hrr
        have m1 : w5.cell? ⟨pr, 1, none⟩ = some (.int .i64 (hi : Int)) := cell_of_row _ _ _ _ _ _ hrr
        have HRR := Lib.hid hrr
        clear q0 q1 q2 hx4 e14 e5 hw5 hpr rd hrr
        obtain ⟨q0, q1, q2⟩ := hx5.cells
        go_wp2_with fail
        refine (with_any s dl dh hx5.bath (by omega)).mono ?_
        rintro e w6 ⟨g, cap, rfl, e6, hI⟩
        have hx6 := hx5.ext e6
        have e16 := Lib.hid (e15.out.trans e6)
        have HRR6 := Lib.hid (row_ext HRR.out e6)
        clear d0 d1 d2 m0 m1 q0 q1 q2 hx5 e15 e6 HRR
        obtain ⟨q0, q1, q2⟩ := hx6.cells
        go_upto_region 11 with fail
        obtain ⟨w7, hw7⟩ : ∃ w7, w6.alloc (.cells #[.int .i64 Wd, .slice A n c, .slice (some ⟨g, 0, none⟩) (n' + 1) cap] 25) = w7 := ⟨_, rfl⟩
        have e7 : Ext w6 w7 := by rw [← hw7]; exact ext_alloc _ _
        have hx7 : BathAt w7 w6.heap.size Wd A n c (some ⟨g, 0, none⟩) (n' + 1) cap ss (ds ++ [(s, dl, dh)]) := by rw [← hw7]; exact BathAt.new hI
        rw [hw7]
        obtain ⟨px, hpx⟩ : ∃ px, w6.heap.size = px := ⟨_, rfl⟩
        rw [hpx] at hx7 ⊢
        have hb7 := hx6.ext e7
        have e17 := e16.out.trans e7
        have hr7 := row_ext HRR6.out e7
        obtain ⟨q0, q1, q2⟩ := hx7.cells
        have cF := fine_any (Wd := Wd) hx7.bath
        obtain ⟨fx, hfx⟩ : ∃ fx, fineB Wd ss (ds ++ [(s, dl, dh)]) = fx := ⟨_, rfl⟩
        rw [hfx] at cF
        have HFX := Lib.hid hfx
        have HPX := Lib.hid hpx
        have HX6 := Lib.hid hx6
        have E06 := Lib.hid e16.out
        have E67 := Lib.hid e7
        clear hw7 hpx hfx hI hx6 e16 e7 HRR6
        go_wp2_with fail
        refine cF.mono ?_
        rintro e w8 ⟨rfl, e8⟩
        have HX8 := Lib.hid (hx7.ext e8)
        have HB8 := Lib.hid (hb7.ext e8)
        have E8 := Lib.hid (e17.trans e8)
        have E6 := Lib.hid (E67.out.trans e8)
        have HR8 := Lib.hid (row_ext hr7 e8)
        clear q0 q1 q2 cF hx7 hb7 e17 hr7 e8 E67
        go_upto_if 103 with fail
        go_cut [18, 19, 20, 21] from 102 to 154 (fun s18 s19 s20 s21 wx => Hid (Ext w8 wx))
        case first =>
          cases fx with
          | false =>
            go_wp2
            go_meet
            case rel => exact Lib.hid (Ext.refl _)
          | true =>
            have h1 : bathErr Wd ss (ds ++ [(s, dl, dh)]) = 0 := of_decide_eq_true HFX.out
            have hne := (forErr_ok HH.out.2).2.1
            have nn := HN.out.1
            have ct : ∀ W : World, IsBath W W.heap.size A n c (some ⟨g, 0, none⟩) (n' + 1) cap ss (ds ++ [(s, dl, dh)]) → Calls Try.prog 21 #[.agg #[.int .i64 Wd, .slice A n c, .slice (some ⟨g, 0, none⟩) (n' + 1) cap], .int .i64 one, .int .i64 two] W fun e w' => e = .returned (.tuple #[.int .i64 (kindOf Wd ss (sizes (ds ++ [(s, dl, dh)])) one two), .int .i64 0]) ∧ Ext W w' := fun W hW => by
              have := touch_any (Wd := Wd) one two hW
              rw [touchAns_ok h1 hne (by omega) (by omega)] at this
              exact this
            have cf : ∀ W : World, IsBath W W.heap.size A n c (some ⟨g, 0, none⟩) (n' + 1) cap ss (ds ++ [(s, dl, dh)]) → _ := fun W hW => firstAns_prog (Wd := Wd) (w := W) one two hW
            have hmk := more_kind h1 one two
            obtain ⟨mm, hmm⟩ : ∃ mm, kindOf Wd ss (sizes (ds ++ [(s, dl, dh)])) one two = mm := ⟨_, rfl⟩
            rw [hmm] at ct hmk
            rw [HKK.out] at hmk
            have hmk' : ¬ mm < 2 := by omega
            obtain ⟨hi', hfa, hsame⟩ := more_first HH.out.2 h1 (by rw [HKK.out]; omega) HR.out (by have := HLN.out.1; have := HN.out.2; omega)
            obtain rfl : hi = hi' := (hsame (by have := HLN.out.2; have := HN.out.2; omega)).symm
            clear hsame
            rw [hfa] at cf
            clear hfa hmm hmk h1 hne nn
            obtain ⟨q0, q1, q2⟩ := HX8.out.cells
            go_wp2_with fail
            refine (ct _ HX8.out.bath).mono ?_
            rintro e w9 ⟨rfl, e9⟩
            have hx9 := HX8.out.ext e9
            clear q0 q1 q2 ct
            obtain ⟨q0, q1, q2⟩ := hx9.cells
            go_wp2_with fail
            refine (cf _ hx9.bath).mono ?_
            rintro e w10 ⟨rfl, e10⟩
            have eA := e9.trans e10
            clear q0 q1 q2 cf hx9 e9 e10
            go_upto_region 14 with fail
            obtain ⟨w11, hw11⟩ : ∃ w11, w10.alloc (.cells #[.int .i64 (lo : Int), .int .i64 (hi : Int)] 29) = w11 := ⟨_, rfl⟩
            have e11 : Ext w10 w11 := by rw [← hw11]; exact ext_alloc _ _
            have hss : w11.heap[w10.heap.size]? = some (.cells #[.int .i64 (lo : Int), .int .i64 (hi : Int)] 29 (0, 0)) := by rw [← hw11]; exact row_last _ _ _ rfl
            rw [hw11]
            obtain ⟨ps, hps⟩ : ∃ ps, w10.heap.size = ps := ⟨_, rfl⟩
            rw [hps] at hss ⊢
            have eB := eA.trans e11
            have hrr := row_ext HR8.out eB
            obtain ⟨q0, q1, q2⟩ := (HB8.out.ext eB).cells
            have m0 : w11.cell? ⟨pr, 0, none⟩ = some (.int .i64 (lo : Int)) := cell_of_row _ _ _ _ _ _ hrr
            have m1 : w11.cell? ⟨pr, 1, none⟩ = some (.int .i64 (hi : Int)) := cell_of_row _ _ _ _ _ _ hrr
            have n0 : w11.cell? ⟨ps, 0, none⟩ = some (.int .i64 (lo : Int)) := cell_of_row _ _ _ _ _ _ hss
            have n1 : w11.cell? ⟨ps, 1, none⟩ = some (.int .i64 (hi : Int)) := cell_of_row _ _ _ _ _ _ hss
            have EB := Lib.hid eB
            clear hw11 hps hss hrr eA e11 eB
            go_wp2
            go_meet
            case rel => exact EB
        case rest =>
          obtain ⟨q0, q1, q2⟩ := (HB8.out.ext hcut.out).cells
          by_cases hn0 : n' = 0
          · have := HLN.out.1
            omega
          · have hz : ¬ (n' : Int) = 0 := by omega
            have hp8 := row_ext HX8.out.row hcut.out
            obtain ⟨b, off, rfl, _⟩ := HX6.out.drop (k := 0) (by omega)
            have e6c := E6.out.trans hcut.out
            go_upto_region 19 with (refine wpList_store_row rfl 25 (.tmp 17) (.tmp 160) rfl px _ rfl rfl 25 _ hp8 (by kernel_rfl) rfl (by simp [Value.oneCell']) ?_)
            obtain ⟨wa, hwa⟩ : ∃ wa, wc.setRow px #[.int .i64 Wd, .slice A n c, .slice (some ⟨b, off, none⟩) n' c'] = wa := ⟨_, rfl⟩
            have ea : Ext w6 wa := by rw [← hwa]; exact below_setRow e6c (by rw [HPX.out]; exact Nat.le_refl _) _
            have hpa : wa.heap[px]? = some (.cells #[.int .i64 Wd, .slice A n c, .slice (some ⟨b, off, none⟩) n' c'] 25 (0, 0)) := by rw [← hwa]; exact row_setRow _ _ _ _ _ _ hp8
            rw [hwa]
            have EA := Lib.hid ea
            have HPA := Lib.hid hpa
            have hxa := HX6.out.ext ea
            clear hwa ea hpa e6c hp8 q0 q1 q2 hcut E6 E8 HX8 HB8 HR8
            have hpz : p < wa.heap.size := (Array.getElem?_eq_some_iff.1 hxa.row).1
            obtain ⟨q0, q1, q2⟩ := hxa.cells
            have hsrc := hxa.bath.hds.ext (ext_alloc wa (.cells #[] 62))
            have HXA := Lib.hid hxa
            clear hxa
            go_wp2_with (first | (at_builtin; refine wpList_append_all rfl 161 163 rfl wa.heap.size rfl rfl hsrc HN.out.2 (by omega) (by omega) ?_))
            intro ga capa wb hown hga hgrow
            have eb : Ext wa wb := (ext_alloc wa (.cells #[] 62)).trans (ext_grow hgrow)
            have hpb := row_ext HPA.out eb
            have cb2 : wb.cell? ⟨px, 2, none⟩ = some (.slice (some ⟨b, off, none⟩) n' c') := cell_of_row _ _ _ _ _ _ hpb
            have fb2 : wb.frozen? ⟨px, 2, none⟩ = false := by simp [World.frozen?, hpb]
            obtain ⟨cs, hdr, hgab, hcapa⟩ := dropRow_of hown
            have hgpx : ga ≠ px := by
              have := (Array.getElem?_eq_some_iff.1 HPA.out).1
              have := (ext_alloc wa (.cells #[] 62)).size
              omega
            have HDR := Lib.hid (And.intro hdr (And.intro hgpx hcapa))
            have EB := Lib.hid (EA.out.trans eb)
            have HPB := Lib.hid hpb
            have hga6 : w6.heap.size ≤ ga := by have := EA.out.size; have := (ext_alloc wa (.cells #[] 62)).size; omega
            clear hown hga hgrow eb hpb hdr hgab hcapa hgpx q0 q1 q2 hsrc HXA hpz EA HPA
            go_upto_region 20 with fail
            obtain ⟨wd, hwd⟩ : ∃ wd, wb.setCell ⟨px, 2, none⟩ (.slice (some ⟨ga, 0, none⟩) n' capa) = wd := ⟨_, rfl⟩
            have ed : Ext w6 wd := by rw [← hwd]; exact Below.setCell EB.out (show w6.heap.size ≤ px by rw [HPX.out]; exact Nat.le_refl _) _
            have hpd : wd.heap[px]? = some (.cells #[.int .i64 Wd, .slice A n c, .slice (some ⟨ga, 0, none⟩) n' capa] 25 (0, 0)) := by rw [← hwd]; exact row_setCell _ _ _ _ _ _ _ HPB.out
            have hdd : DropRow wd ga cs ds := by rw [← hwd]; exact HDR.out.1.other _ (fun e => HDR.out.2.1 e.symm)
            rw [hwd]
            have hxd := HX6.out.ext ed
            obtain ⟨q0, q1, q2⟩ := hxd.cells
            have cd2 : wd.cell? ⟨px, 2, none⟩ = some (.slice (some ⟨ga, 0, none⟩) n' capa) := cell_of_row _ _ _ _ _ _ hpd
            have hm1 := Int.emod_nonneg u (show (n' : Int) ≠ 0 by omega)
            have hm2 := Int.emod_lt_of_pos u (show 0 < (n' : Int) by omega)
            have hpos : (0 : Int) < (n' : Int) := by omega
            have hcp := HDR.out.2.2
            obtain ⟨hu1, hu2⟩ := hu
            have ED := Lib.hid ed
            have HPD := Lib.hid hpd
            have HDD := Lib.hid hdd
            clear cb2 fb2 hwd ed hpd hdd hxd EB HPB hn0
            go_quiet (fail)
            go_upto_region 21 with fail
            obtain ⟨we, hwe⟩ : ∃ we, wd.drewN nq = we := ⟨_, rfl⟩
            have ee : Ext wd we := by rw [← hwe]; exact ext_drewN (Ext.refl _) _
            rw [hwe]
            obtain ⟨k, hk⟩ : ∃ k, (u % (n' : Int)).toNat = k := ⟨_, rfl⟩
            have hkn : k < ds.length := by have := HN.out.2; omega
            rw [hk]
            have hde := HDD.out.ext ee
            obtain ⟨d0, d1, d2⟩ := hde.cell hkn
            have hdo := drop_ok HH.out.1 (i := k) (s := ds.getD k (0, 0, 0)) (by simp [hkn])
            obtain ⟨sp, L, H, hgd⟩ : ∃ sp L H, ds.getD k (0, 0, 0) = (sp, L, H) := ⟨_, _, _, rfl⟩
            rw [hgd] at d0 d1 d2 hdo
            have b1 : 1 ≤ L := hdo.2.1
            have b2 : L ≤ H := hdo.2.2.1
            have b3 : H ≤ 10000 := hdo.2.2.2
            have hle := row_ext HP.out.2.1 ((E06.out.trans ED.out).trans ee)
            have l0c : we.cell? ⟨p2, 0, none⟩ = some (.int .u16 l0) := cell_of_row _ _ _ _ _ _ hle
            have l1c : we.cell? ⟨p2, 1, none⟩ = some (.int .u16 l1) := cell_of_row _ _ _ _ _ _ hle
            have fe1 : we.frozen? ⟨ga, k * 3 + 1, none⟩ = false := by simp [World.frozen?, hde.row]
            have HGD := Lib.hid hgd
            have HDE := Lib.hid hde
            have HKN := Lib.hid hkn
            have HPE := Lib.hid (row_ext HPD.out ee)
            have EE := Lib.hid (ED.out.trans ee)
            obtain ⟨hl00, hl01⟩ := hl0
            obtain ⟨hl10, hl11⟩ := hl1
            clear q0 q1 q2 cd2 hm1 hm2 hpos hwe ee hk hkn hde hdo hgd hle HDD HPD ED
            go_still_tail 14, (by kernel_rfl)
            change wpList _ _ _ _ _ we.drew
            obtain ⟨wf, hwf⟩ : ∃ wf, we.drew = wf := ⟨_, rfl⟩
            have ef : Ext we wf := by rw [← hwf]; exact ext_drew we
            have hdf := HDE.out.ext ef
            have c1f : wf.cell? ⟨ga, k * 3 + 1, none⟩ = some (.int .i64 L) := (cell_of_row _ _ _ _ _ _ hdf.row).trans ((cell_of_row _ _ _ _ _ _ HDE.out.row).symm.trans d1)
            have f1f : wf.frozen? ⟨ga, k * 3 + 1, none⟩ = false := by simp [World.frozen?, hdf.row]
            rw [hwf]
            have HDF := Lib.hid hdf
            have HPF := Lib.hid (row_ext HPE.out ef)
            have EF := Lib.hid (EE.out.trans ef)
            clear hwf ef hdf HDE HPE EE d0 d1 d2 l0c l1c fe1
            go_upto_region 22 with fail
            obtain ⟨M, hM⟩ : ∃ M, min H (L + l0) = M := ⟨_, rfl⟩
            have M1 : L ≤ M := by omega
            have M2 : M ≤ H := by omega
            rw [hM]
            obtain ⟨wg, hwg⟩ : ∃ wg, wf.setCell ⟨ga, k * 3 + 1, none⟩ (.int .i64 M) = wg := ⟨_, rfl⟩
            have eg : Ext w6 wg := by rw [← hwg]; exact Below.setCell EF.out hga6 _
            have hdg := HDF.out.set1 HKN.out M
            rw [HGD.out, hwg] at hdg
            have hpg : wg.heap[px]? = some (.cells #[.int .i64 Wd, .slice A n c, .slice (some ⟨ga, 0, none⟩) n' capa] 25 (0, 0)) := by rw [← hwg]; exact (heap_set_other wf ga _ px _ (fun e => HDR.out.2.1 e.symm)).trans HPF.out
            rw [hwg]
            have hkn2 : k < (ds.set k (sp, M, H)).length := by rw [List.length_set]; exact HKN.out
            have hgd2 : (ds.set k (sp, M, H)).getD k (0, 0, 0) = (sp, M, H) := by rw [set_getD _ _ _ _ HKN.out, if_pos rfl]
            obtain ⟨d0, d1, d2⟩ := hdg.cell hkn2
            rw [hgd2] at d0 d1 d2
            have hle := row_ext HP.out.2.1 (E06.out.trans eg)
            have l0c : wg.cell? ⟨p2, 0, none⟩ = some (.int .u16 l0) := cell_of_row _ _ _ _ _ _ hle
            have l1c : wg.cell? ⟨p2, 1, none⟩ = some (.int .u16 l1) := cell_of_row _ _ _ _ _ _ hle
            have fe1 : wg.frozen? ⟨ga, k * 3 + 2, none⟩ = false := by simp [World.frozen?, hdg.row]
            have HDG := Lib.hid hdg
            have HPG := Lib.hid hpg
            have EG := Lib.hid eg
            have HG2 := Lib.hid (And.intro hkn2 hgd2)
            clear hM hwg eg hdg hpg hkn2 hgd2 hle c1f f1f HDF HPF EF
            go_still_tail 14, (by kernel_rfl)
            change wpList _ _ _ _ _ wg.drew
            obtain ⟨wh, hwh⟩ : ∃ wh, wg.drew = wh := ⟨_, rfl⟩
            have eh : Ext wg wh := by rw [← hwh]; exact ext_drew wg
            have hdh := HDG.out.ext eh
            have c1h : wh.cell? ⟨ga, k * 3 + 2, none⟩ = some (.int .i64 H) := (cell_of_row _ _ _ _ _ _ hdh.row).trans ((cell_of_row _ _ _ _ _ _ HDG.out.row).symm.trans d2)
            have f1h : wh.frozen? ⟨ga, k * 3 + 2, none⟩ = false := by simp [World.frozen?, hdh.row]
            rw [hwh]
            have HDH := Lib.hid hdh
            have HPH := Lib.hid (row_ext HPG.out eh)
            have EH := Lib.hid (EG.out.trans eh)
            clear hwh eh hdh HDG HPG EG d0 d1 d2 l0c l1c fe1
            go_upto_region 23 with fail
            obtain ⟨X, hX⟩ : ∃ X, max M (H - l1) = X := ⟨_, rfl⟩
            have X1 : M ≤ X := by omega
            have X2 : X ≤ H := by omega
            rw [hX]
            obtain ⟨wi, hwi⟩ : ∃ wi, wh.setCell ⟨ga, k * 3 + 1 + 1, none⟩ (.int .i64 X) = wi := ⟨_, rfl⟩
            have ei : Ext w6 wi := by rw [← hwi]; exact Below.setCell EH.out hga6 _
            have hdi := HDH.out.set2 HG2.out.1 X
            have hwi' : wh.setCell ⟨ga, k * 3 + 2, none⟩ (.int .i64 X) = wi := hwi
            rw [HG2.out.2, List.set_set, hwi'] at hdi
            have hpi : wi.heap[px]? = some (.cells #[.int .i64 Wd, .slice A n c, .slice (some ⟨ga, 0, none⟩) n' capa] 25 (0, 0)) := by rw [← hwi]; exact (heap_set_other wh ga _ px _ (fun e => HDR.out.2.1 e.symm)).trans HPH.out
            rw [hwi]
            have hbi := HX6.out.bath.ext ei
            have hbx : BathAt wi px Wd A n c (some ⟨ga, 0, none⟩) n' capa ss (ds.set k (sp, M, X)) := ⟨hpi, ⟨hbi.nss, by rw [List.length_set]; exact hbi.nds, hbi.nle, hbi.nle', hbi.cap, HDR.out.2.2, hbi.hss, hdi.held⟩⟩
            have hgd := HGD.out
            have ok := narrow_ok HH.out.1 HKN.out (lo := M) (hi := X) (by rw [hgd]; exact M1) X1 (by rw [hgd]; exact X2)
            have hkk := narrow_kind HH.out.1 HKN.out (lo := M) (hi := X) (by rw [hgd]; exact M1) X1 (by rw [hgd]; exact X2) one two
            rw [hgd] at ok hkk
            rw [HKK.out] at hkk
            have hne := (forErr_ok HH.out.2).2.1
            have nn := HN.out.1
            have ct : ∀ W : World, IsBath W W.heap.size A n c (some ⟨ga, 0, none⟩) n' capa ss (ds.set k (sp, M, X)) → Calls Try.prog 21 #[.agg #[.int .i64 Wd, .slice A n c, .slice (some ⟨ga, 0, none⟩) n' capa], .int .i64 one, .int .i64 two] W fun e w' => e = .returned (.tuple #[.int .i64 (kindOf Wd ss (sizes (ds.set k (sp, M, X))) one two), .int .i64 0]) ∧ Ext W w' := fun W hW => by
              have := touch_any (Wd := Wd) one two hW
              rw [touchAns_ok ok hne (by omega) (by omega)] at this
              exact this
            obtain ⟨nk, hnk⟩ : ∃ nk, kindOf Wd ss (sizes (ds.set k (sp, M, X))) one two = nk := ⟨_, rfl⟩
            rw [hnk] at ct hkk
            obtain rfl : nk = 2 := by omega
            have HE0i := Lib.hid (HE0.out.trans (E06.out.trans ei))
            have HBX := Lib.hid hbx
            clear hX hwi hwi' ei hdi hpi hbi hgd ok hne nn hnk hbx hkk X1 X2 M1 M2 HDH HPH EH HG2 HGD HKN HDR c1h f1h b1 b2 b3
            obtain ⟨q0, q1, q2⟩ := HBX.out.cells
            go_wp2_with fail
            refine (ct _ HBX.out.bath).mono ?_
            rintro e wj ⟨rfl, ej⟩
            have HE := Lib.hid (HE0i.out.trans ej)
            clear HE0i ej ct q0 q1 q2 HBX
            go_wp2_with fail
            refine (works_any _).mono ?_
            rintro e v9 ⟨rfl, f9⟩
            go_wp2
            go_ret
            exact ⟨rfl, HE.out.trans f9⟩
end
end Go.Proofs.Ytckndnaohggmhaa
