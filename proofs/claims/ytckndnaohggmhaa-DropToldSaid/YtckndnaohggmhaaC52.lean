/- Texts of the package drop, joined: DropTold. -/
import Derived.Test.YtckndnaohggmhaaC50
import Derived.Test.YtckndnaohggmhaaC51
import Derived.Deep.CutRange
/- DropTold: the walk. -/
namespace Go.Proofs.Ytckndnaohggmhaa
open Go.RowKit Go.Shelf

section
variable {w : World} {Wd : Int} {A : Option Addr} {n c : Nat} {A' : Option Addr} {n' c' : Nat} {ss : List (Int × Int)} {ds : List (Int × Int × Int)}

set_option maxRecDepth 100000 in
set_option maxHeartbeats 8000000 in
theorem dropTold_any (L : Option Addr) (m cL : Nat) (bs : List Int) (x y u v : Int) (hx : 0 ≤ x ∧ x ≤ 255) (hy : 0 ≤ y ∧ y ≤ 255) (hu : 0 ≤ u ∧ u ≤ 255) (hv : 0 ≤ v ∧ v ≤ 255) (hb : IsBath w w.heap.size A n c A' n' c' ss ds) (hm : m = bs.length) (hmm : m ≤ 9223372036854775807) (hL : Held w w.heap.size 1 encU L bs) (hbd : ∀ i, 0 ≤ bs.getD i 0 ∧ bs.getD i 0 ≤ 65535) :
    Calls Try.prog 8 #[.agg #[.int .i64 Wd, .slice A n c, .slice A' n' c'], .slice L m cL, .agg #[.int .u8 x, .int .u8 y], .agg #[.int .u8 u, .int .u8 v]] w fun e w' => e = .returned (.bool true) ∧ Ext w w' := by
  have hX0 : BathAt (w.alloc (.cells #[.int .i64 Wd, .slice A n c, .slice A' n' c'] 25)) w.heap.size Wd A n c A' n' c' ss ds := BathAt.new hb
  have hE0 : Ext w (w.alloc (.cells #[.int .i64 Wd, .slice A n c, .slice A' n' c'] 25)) := ext_alloc w _
  have HN := Lib.hid (And.intro hb.nss hb.nds)
  go_enter Try.func8, Try.ntmps8
  go_upto_region 1 with fail
  obtain ⟨w0, hw0⟩ : ∃ w0, ((w.alloc (.cells #[.int .i64 Wd, .slice A n c, .slice A' n' c'] 25)).alloc (.cells #[.int .u8 x, .int .u8 y] 54)).alloc (.cells #[.int .u8 u, .int .u8 v] 54) = w0 := ⟨_, rfl⟩
  have e1 := ext_alloc (w.alloc (.cells #[.int .i64 Wd, .slice A n c, .slice A' n' c'] 25)) (.cells #[.int .u8 x, .int .u8 y] 54)
  have e2 := ext_alloc ((w.alloc (.cells #[.int .i64 Wd, .slice A n c, .slice A' n' c'] 25)).alloc (.cells #[.int .u8 x, .int .u8 y] 54)) (.cells #[.int .u8 u, .int .u8 v] 54)
  have hrow : w0.heap[w.heap.size + 1]? = some (.cells #[.int .u8 x, .int .u8 y] 54 (0, 0)) := by
    have h1 : (((w.alloc (.cells #[.int .i64 Wd, .slice A n c, .slice A' n' c'] 25)).alloc (.cells #[.int .u8 x, .int .u8 y] 54)).alloc (.cells #[.int .u8 u, .int .u8 v] 54)).heap[w.heap.size + 1]? = some (.cells #[.int .u8 x, .int .u8 y] 54 (0, 0)) := row_ext (row_last _ _ _ (by simp)) e2
    rw [hw0] at h1
    exact h1
  have hrow2 : w0.heap[w.heap.size + 2]? = some (.cells #[.int .u8 u, .int .u8 v] 54 (0, 0)) := by
    rw [← hw0]
    exact row_last _ _ _ (by simp)
  have hx0 := (hX0.ext e1).ext e2
  have he0 := (hE0.trans e1).trans e2
  rw [hw0] at hx0 he0 ⊢
  clear hX0 hE0 e1 e2 hw0
  have HL := Lib.hid (hL.ext he0)
  have HE0 := Lib.hid he0
  have HX0 := Lib.hid hx0
  obtain ⟨pp, hpp⟩ : ∃ pp, w.heap.size + 1 = pp := ⟨_, rfl⟩
  obtain ⟨pd, hpd⟩ : ∃ pd, w.heap.size + 1 + 1 = pd := ⟨_, rfl⟩
  rw [show w.heap.size + 2 = pd from hpd] at hrow2
  rw [hpd]
  rw [hpp] at hrow ⊢
  obtain ⟨p, hp⟩ : ∃ p, w.heap.size = p := ⟨_, rfl⟩
  rw [hp] at HX0 ⊢
  have HP := Lib.hid (And.intro hrow hrow2)
  have HBD := Lib.hid hbd
  have HM := Lib.hid hm
  have hx1 := HX0.out
  have cF := fine_any (Wd := Wd) hx1.bath
  clear hp hpp hpd hrow hrow2 hbd hm hL hx0 he0 hb
  cases hf : fineB Wd ss ds with
  | false =>
    rw [hf] at cF
    obtain ⟨q0, q1, q2⟩ := hx1.cells
    clear hf hx1 HX0
    go_wp2_with fail
    refine cF.mono ?_
    rintro e w1 ⟨rfl, hb1⟩
    have hE1 := Lib.hid (HE0.out.trans hb1)
    clear HE0 hb1 cF q0 q1 q2
    go_wp2_with fail
    refine (works_any _).mono ?_
    rintro e w2 ⟨rfl, hb2⟩
    go_wp2
    go_ret
    exact ⟨rfl, hE1.out.trans hb2⟩
  | true =>
    rw [hf] at cF
    have h0 : bathErr Wd ss ds = 0 := of_decide_eq_true hf
    obtain ⟨q0, q1, q2⟩ := hx1.cells
    by_cases hm60 : 60 < m
    · have hmz : (60 : Int) < (m : Int) := by omega
      clear hf hx1 HX0 h0
      go_wp2_with fail
      refine cF.mono ?_
      rintro e w1 ⟨rfl, hb1⟩
      have hE1 := Lib.hid (HE0.out.trans hb1)
      clear HE0 hb1 cF q0 q1 q2
      go_wp2_with fail
      refine (works_any _).mono ?_
      rintro e w2 ⟨rfl, hb2⟩
      go_wp2
      go_ret
      exact ⟨rfl, hE1.out.trans hb2⟩
    · have hmz : ¬ (60 : Int) < (m : Int) := by omega
      obtain ⟨hn, hn'⟩ := HN.out
      have hn10 : n ≤ 10 := by have := (bath_ok h0).2.1.1; omega
      have hn40 : n' ≤ 40 := by have := (bath_ok h0).2.1.2; omega
      obtain ⟨ts, hts⟩ : ∃ ts, truthTo bs ds n' = ts := ⟨_, rfl⟩
      have hbt : Between ds ts := by rw [← hts, hn']; exact truth_between h0 bs
      obtain ⟨mt, hmt⟩ : ∃ mt, ts.length = mt := ⟨_, rfl⟩
      have hmt' : mt = n' := by rw [← hmt, hn']; exact hbt.1
      have cTr : ∀ W : World, Ext w0 W → IsBath W W.heap.size A n c A' n' c' ss ds → Calls Try.prog 42 #[.agg #[.int .i64 Wd, .slice A n c, .slice A' n' c'], .slice L m cL] W fun e w' => ∃ T cT, e = .returned (.slice T mt cT) ∧ Held w' w'.heap.size 1 encI T ts ∧ Ext W w' := fun W hE hW => by
        refine (truth_any L m cL bs h0 hW HM.out (by omega) (HL.out.ext hE) HBD.out).mono ?_
        rintro e w' ⟨v, rfl, hM, hE'⟩
        rw [hts] at hM
        obtain ⟨T, cT, rfl, hT⟩ := made64_held hM
        rw [hmt]
        exact ⟨T, cT, rfl, hT, hE'⟩
      have h1 := placeOf_bd n x
      have h2 := otherOf_bd n x y
      have hne := otherOf_ne n x y
      have c43 : ∀ W : World, IsBath W W.heap.size A n c A' n' c' ss ds → Calls Try.prog 43 #[.agg #[.int .i64 Wd, .slice A n c, .slice A' n' c'], .agg #[.int .u8 x, .int .u8 y]] W fun e w' => e = .returned (.tuple #[.int .i64 (placeOf n x), .int .i64 (otherOf n x y)]) ∧ Ext W w' := fun W hW => two_any x y hx hy hn10 hW
      obtain ⟨one, hone⟩ : ∃ one, placeOf n x = one := ⟨_, rfl⟩
      obtain ⟨two, htwo⟩ : ∃ two, otherOf n x y = two := ⟨_, rfl⟩
      rw [hone] at c43 h1 hne
      rw [htwo] at c43 h2 hne
      obtain ⟨kk, hkk⟩ : ∃ kk, kindOf Wd ss (sizes ds) one two = kk := ⟨_, rfl⟩
      have c21 : ∀ W : World, IsBath W W.heap.size A n c A' n' c' ss ds → Calls Try.prog 21 #[.agg #[.int .i64 Wd, .slice A n c, .slice A' n' c'], .int .i64 one, .int .i64 two] W fun e w' => e = .returned (.tuple #[.int .i64 kk, .int .i64 0]) ∧ Ext W w' := fun W hW => by
        have := touch_any (Wd := Wd) one two hW
        rw [touchAns_ok h0 hne (by omega) (by omega), hkk] at this
        exact this
      have c44 : ∀ (T : Option Addr) (cT : Nat) (W : World), Held W W.heap.size 1 encI T ts → IsBath W W.heap.size A n c A' n' c' ss ds → ∀ (one two kk : Int), -2 ≤ one ∧ one < n → -2 ≤ two ∧ two < n → one ≠ two → kindOf Wd ss (sizes ds) one two = kk → Calls Try.prog 44 #[.agg #[.int .i64 Wd, .slice A n c, .slice A' n' c'], .slice T mt cT, .int .i64 one, .int .i64 two, .int .i64 kk] W fun e w' => e = .returned (.bool true) ∧ Ext W w' := fun T cT W hT hW one two kk h1 h2 hne hk => told_any T mt cT ts one two kk h0 hW hmt.symm hbt hT h1.1 h1.2 h2.1 h2.2 hne hk
      have c17 : ∀ (i : Nat), i < n → ∀ W : World, IsBath W W.heap.size A n c A' n' c' ss ds → Calls Try.prog 17 #[.agg #[.int .i64 Wd, .slice A n c, .slice A' n' c'], .int .i64 (i : Int)] W fun e w' => e = .returned (.tuple #[.agg #[.int .i64 (sumAt ds (ds.map (endOf false)) i n'), .int .i64 (sumAt ds (ds.map (endOf true)) i n')], .int .i64 0]) ∧ Ext W w' := fun i hi W hW => by
        have := size_any (Wd := Wd) (i : Int) hW
        rw [sizeAns_ok h0 (show i < ss.length by omega)] at this
        have e1 : sumAt ds (ds.map (endOf false)) (i : Int) n' = (sizes ds i).1 := by rw [hn', sumAt_ends]; simp
        have e2 : sumAt ds (ds.map (endOf true)) (i : Int) n' = (sizes ds i).2 := by rw [hn', sumAt_ends]; simp
        rw [e1, e2]
        exact this
      have c45 : ∀ (i : Nat) (T : Option Addr) (cT : Nat) (W : World), Held W W.heap.size 1 encI T ts → IsBath W W.heap.size A n c A' n' c' ss ds → Calls Try.prog 45 #[.agg #[.int .i64 Wd, .slice A n c, .slice A' n' c'], .slice T mt cT, .int .i64 (i : Int)] W fun e w' => e = .returned (.int .i64 (sumAt ds ts i n')) ∧ Ext W w' := fun i T cT W hT hW => sizeOf_ref T mt cT ts (i : Int) hW (by omega) hmt.symm (by omega) (by omega) hT (between_bd h0 hbt)
      have hlo : ∀ i : Nat, sumAt ds (ds.map (endOf false)) i n' ≤ sumAt ds ts i n' := fun i => by rw [hn']; exact between_low hbt _
      have hhi : ∀ i : Nat, sumAt ds ts i n' ≤ sumAt ds (ds.map (endOf true)) i n' := fun i => by rw [hn']; exact between_high hbt _
      have C44 := Lib.hid c44
      have C17 := Lib.hid c17
      have C45 := Lib.hid c45
      have HLO := Lib.hid hlo
      have HHI := Lib.hid hhi
      have H0 := Lib.hid h0
      have HK := Lib.hid hkk
      have HNE := Lib.hid hne
      clear hf h0 hn hn' hts hbt hmt hmt' hone htwo hkk c44 c17 c45 hlo hhi hne hx1 hm60 hmm hx hy
      go_wp2_with fail
      refine cF.mono ?_
      rintro e w1 ⟨rfl, hE1⟩
      have hx := HX0.out.ext hE1
      clear q0 q1 q2 cF
      obtain ⟨q0, q1, q2⟩ := hx.cells
      go_wp2_with fail
      refine (cTr _ hE1 hx.bath).mono ?_
      rintro e w2 ⟨T, cT, rfl, hT, e2⟩
      have hE2 := hE1.trans e2
      replace hx := hx.ext e2
      have pr := row_ext HP.out.1 hE2
      have g0 : w2.cell? ⟨pp, 0, none⟩ = some (.int .u8 x) := cell_of_row _ _ _ _ _ _ pr
      have g1 : w2.cell? ⟨pp, 1, none⟩ = some (.int .u8 y) := cell_of_row _ _ _ _ _ _ pr
      clear q0 q1 q2 cTr hE1 e2 pr
      obtain ⟨q0, q1, q2⟩ := hx.cells
      go_wp2_with fail
      refine (c43 _ hx.bath).mono ?_
      rintro e w3 ⟨rfl, e3⟩
      replace hx := hx.ext e3
      replace hT := hT.ext e3
      have hE3 := hE2.trans e3
      clear q0 q1 q2 g0 g1 c43 e3 hE2
      obtain ⟨q0, q1, q2⟩ := hx.cells
      go_wp2_with fail
      refine (c21 _ hx.bath).mono ?_
      rintro e w4 ⟨rfl, e4⟩
      replace hx := hx.ext e4
      replace hT := hT.ext e4
      have hE4 := hE3.trans e4
      clear q0 q1 q2 c21 e4 hE3
      obtain ⟨q0, q1, q2⟩ := hx.cells
      have cT1 := C44.out T cT w4 hT hx.bath one two kk h1 h2 HNE.out HK.out
      go_wp2_with fail
      refine cT1.mono ?_
      rintro e w5 ⟨rfl, e5⟩
      have HX5 := Lib.hid (hx.ext e5)
      have HT5 := Lib.hid (hT.ext e5)
      have HE5 := Lib.hid (hE4.trans e5)
      clear q0 q1 q2 cT1 e5 hE4 hx hT HK HNE h1 h2 HX0 HL HBD HM
      go_wp2
      go_loopw [14] (fun i wr => ∃ k : Nat, k ≤ n ∧ i = .int .i64 (k : Int) ∧ Hid (Ext w5 wr)) (fun i _ => n - (intOf i).toNat)
      case atStart => exact ⟨0, Nat.zero_le _, rfl, Lib.hid (Ext.refl _)⟩
      case round =>
        obtain ⟨k, hk, rfl, hB⟩ := hrel
        have hx := HX5.out.ext hB.out
        obtain ⟨q0, q1, q2⟩ := hx.cells
        by_cases hlt : k < n
        · have hltz : (k : Int) < (n : Int) := by omega
          have hkb : (k : Int) ≤ 12 := by omega
          have cS := C17.out k hlt wr hx.bath
          have hl := HLO.out k
          have hh := HHI.out k
          have cZ := C45.out k T cT
          obtain ⟨lo, hlo⟩ : ∃ lo, sumAt ds (ds.map (endOf false)) (k : Int) n' = lo := ⟨_, rfl⟩
          obtain ⟨mi, hmi⟩ : ∃ mi, sumAt ds ts (k : Int) n' = mi := ⟨_, rfl⟩
          obtain ⟨hi, hhi⟩ : ∃ hi, sumAt ds (ds.map (endOf true)) (k : Int) n' = hi := ⟨_, rfl⟩
          rw [hlo, hhi] at cS
          rw [hlo, hmi] at hl
          rw [hhi, hmi] at hh
          rw [hmi] at cZ
          have hl' : ¬ mi < lo := by omega
          have hh' : ¬ hi < mi := by omega
          clear hlo hmi hhi hl hh
          go_wp2_with fail
          refine cS.mono ?_
          rintro e v1 ⟨rfl, f1⟩
          replace hx := hx.ext f1
          have hE := hB.out.trans f1
          clear q0 q1 q2 cS f1
          have hpl : p < v1.heap.size := (Array.getElem?_eq_some_iff.1 hx.row).1
          have hpn : p ≠ v1.heap.size := by omega
          obtain ⟨q0, q1, q2⟩ := hx.cells
          go_wp2_with fail
          obtain ⟨v2, hv2⟩ : ∃ v2, v1.alloc (.cells #[.int .i64 lo, .int .i64 hi] 29) = v2 := ⟨_, rfl⟩
          have f2 : Ext v1 v2 := by rw [← hv2]; exact ext_alloc v1 _
          have hr2 : v2.heap[v1.heap.size]? = some (.cells #[.int .i64 lo, .int .i64 hi] 29 (0, 0)) := by rw [← hv2]; exact row_last _ _ _ rfl
          rw [hv2]
          replace hE := hE.trans f2
          refine (cZ v2 (HT5.out.ext hE) (hx.ext f2).bath).mono ?_
          rintro e v3 ⟨rfl, f3⟩
          have hr3 := row_ext hr2 f3
          have r0 : v3.cell? ⟨v1.heap.size, 0, none⟩ = some (.int .i64 lo) := cell_of_row _ _ _ _ _ _ hr3
          have r1 : v3.cell? ⟨v1.heap.size, 1, none⟩ = some (.int .i64 hi) := cell_of_row _ _ _ _ _ _ hr3
          have HB3 := Lib.hid (hE.trans f3)
          clear hv2 f2 f3 hr2 hr3 hE hx q0 q1 q2 cZ hB hpl hpn
          go_wp2
          go_roundw
          case measure => simp [intOf]; omega
          case rel => exact ⟨k + 1, by omega, by go_num, HB3⟩
        · have hltz : ¬ (k : Int) < (n : Int) := by omega
          have HX6 := Lib.hid hx
          have HE6 := Lib.hid (HE5.out.trans hB.out)
          have HT6 := Lib.hid (HT5.out.ext hB.out)
          clear hx hB HX5 HE5 HT5 C17 C45 HLO HHI
          by_cases hn2 : n' < 2
          · have hn2z : (n' : Int) < 2 := by omega
            clear HP C44 HN H0 HX6 HT6
            go_wp2_with fail
            refine (works_any _).mono ?_
            rintro e v ⟨rfl, f⟩
            go_wp2
            go_ret
            exact ⟨rfl, HE0.out.trans (HE6.out.trans f)⟩
          · have hn2z : ¬ (n' : Int) < 2 := by omega
            obtain ⟨hu1, hu2⟩ := hu
            obtain ⟨hv1, hv2⟩ := hv
            have pr := row_ext HP.out.2 HE6.out
            have g0 : wr.cell? ⟨pd, 0, none⟩ = some (.int .u8 u) := cell_of_row _ _ _ _ _ _ pr
            have g1 : wr.cell? ⟨pd, 1, none⟩ = some (.int .u8 v) := cell_of_row _ _ _ _ _ _ pr
            have hn0 : ¬ n' = 0 := by omega
            have hn1 : ¬ (n' : Int) - 1 = 0 := by omega
            have hm1 := Int.emod_nonneg u (show (n' : Int) ≠ 0 by omega)
            have hm2 := Int.emod_lt_of_pos u (show 0 < (n' : Int) by omega)
            have hm3 := Int.emod_nonneg v (show (n' : Int) - 1 ≠ 0 by omega)
            have hm4 := Int.emod_lt_of_pos v (show 0 < (n' : Int) - 1 by omega)
            clear pr hn2
            go_upto_region 18 with fail
            obtain ⟨d, hd⟩ : ∃ d : Nat, u % (n' : Int) = d := ⟨(u % (n' : Int)).toNat, by omega⟩
            rw [hd] at hm1 hm2 ⊢
            obtain ⟨ve, hve⟩ : ∃ ve, v % ((n' : Int) - 1) = ve := ⟨_, rfl⟩
            rw [hve] at hm3 hm4
            have hm5 := Int.emod_nonneg ((d : Int) + 1 + ve) (show (n' : Int) ≠ 0 by omega)
            have hm6 := Int.emod_lt_of_pos ((d : Int) + 1 + ve) (show 0 < (n' : Int) by omega)
            have hdf : ((d : Int) + 1 + ve) % (n' : Int) ≠ d := by
              by_cases hs : (d : Int) + 1 + ve < (n' : Int)
              · rw [Int.emod_eq_of_lt (by omega) hs]; omega
              · rw [show (d : Int) + 1 + ve = ((d : Int) + 1 + ve - n') + n' from by omega, Int.add_emod_right, Int.emod_eq_of_lt (by omega) (by omega)]; omega
            go_quiet (fail)
            obtain ⟨f, hf⟩ : ∃ f : Nat, ((d : Int) + 1 + ve) % (n' : Int) = f := ⟨(((d : Int) + 1 + ve) % (n' : Int)).toNat, by omega⟩
            rw [hf] at hm6 hdf ⊢
            have hdn : d < n' := by omega
            have hfn : f < n' := by omega
            have hne : d ≠ f := by omega
            obtain ⟨w6, hw6⟩ : ∃ w6, wr.drewN nq = w6 := ⟨_, rfl⟩
            have e6 : Ext wr w6 := by rw [← hw6]; exact ext_drewN (Ext.refl _) _
            rw [hw6]
            have hx := HX6.out.ext e6
            have hE := HE6.out.trans e6
            have HT7 := Lib.hid (HT6.out.ext e6)
            clear hw6 e6 HX6 HE6 HT6 hd hve hf hm1 hm2 hm3 hm4 hm5 hm6 hdf hn1 g0 g1 q0 q1 q2 hlt hltz
            have hans := besideAns_ok (Wd := Wd) (ss := ss) (ds := ds) (k := d) (l := f) H0.out (by have := HN.out; omega) (by have := HN.out; omega) hne
            obtain ⟨mn, hmn'⟩ : ∃ mn, min d f = mn := ⟨_, rfl⟩
            obtain ⟨mx, hmx'⟩ : ∃ mx, max d f = mx := ⟨_, rfl⟩
            rw [hmn', hmx'] at hans
            have hmn : min (d : Int) (f : Int) = (mn : Int) := by omega
            have hmx : max (d : Int) (f : Int) = (mx : Int) := by omega
            have hmxn : mx < n' := by omega
            obtain ⟨kb, hkb⟩ : ∃ kb, besideR Wd ss ds mn mx d f = kb := ⟨_, rfl⟩
            have cBe := beside_any (Wd := Wd) (d : Int) (f : Int) hx.bath
            rw [hans, hkb] at cBe
            have HKB := Lib.hid hkb
            clear hans hkb hmn' hmx'
            obtain ⟨q0, q1, q2⟩ := hx.cells
            go_wp2_with fail
            refine cBe.mono ?_
            rintro e w7 ⟨rfl, e7⟩
            replace hx := hx.ext e7
            have HE8 := Lib.hid (hE.trans e7)
            have HT8 := Lib.hid (HT7.out.ext e7)
            clear hE e7 HT7 cBe q0 q1 q2
            obtain ⟨b, off, rfl, _⟩ := hx.drop hdn
            have HD := Lib.hid (fun (W : World) (h : Ext w7 W) (j : Nat) (hj : j < n') => (by
              obtain ⟨b', off', hbb, c0, _⟩ := (hx.ext h).drop hj
              cases hbb
              exact c0 : W.cell? ⟨b, off + j * 3, none⟩ = some (.int .i64 (spotAt ds j))))
            have HX8 := Lib.hid hx
            clear hx
            go_wp2
            go_loopw [21, 22, 23] (fun s21 s22 s23 wr => ∃ k : Nat, k ≤ n' ∧ s21 = .bool (betweenTo ds d mn mx k) ∧ s22 = .bool (firstsTo ds d f k) ∧ s23 = .int .i64 (k : Int) ∧ Hid (Ext w7 wr)) (fun _ _ i _ => n' - (intOf i).toNat)
            case atStart => exact ⟨0, Nat.zero_le _, rfl, rfl, rfl, Lib.hid (Ext.refl _)⟩
            case round =>
              obtain ⟨k, hk, rfl, rfl, rfl, hB⟩ := hrel
              have hx := HX8.out.ext hB.out
              obtain ⟨q0, q1, q2⟩ := hx.cells
              by_cases hlt : k < n'
              · have hltz : (k : Int) < (n' : Int) := by omega
                have hkb : (k : Int) ≤ 40 := by omega
                have cy := HD.out wr hB.out k hlt
                have cS := HD.out wr hB.out d hdn
                have cF := HD.out wr hB.out f hfn
                have hbs := betweenTo_succ ds d mn mx k
                have hfs := firstsTo_succ ds d f k
                obtain ⟨yy, hyy⟩ : ∃ yy, spotAt ds k = yy := ⟨_, rfl⟩
                obtain ⟨S, hS⟩ : ∃ S, spotAt ds d = S := ⟨_, rfl⟩
                obtain ⟨F, hF⟩ : ∃ F, spotAt ds f = F := ⟨_, rfl⟩
                rw [hyy] at cy
                rw [hS] at cS
                rw [hF] at cF
                rw [hyy, hS] at hbs
                rw [hyy, hS, hF] at hfs
                obtain ⟨bb, hbb⟩ : ∃ bb, betweenTo ds d mn mx k = bb := ⟨_, rfl⟩
                obtain ⟨ff, hff⟩ : ∃ ff, firstsTo ds d f k = ff := ⟨_, rfl⟩
                rw [hbb] at hbs ⊢
                rw [hff] at hfs ⊢
                have HBS := Lib.hid hbs
                have HFS := Lib.hid hfs
                have dz : (d : Int) < (n' : Int) := by omega
                have fz : (f : Int) < (n' : Int) := by omega
                have HYY := Lib.hid (And.intro hyy hF)
                clear hx hyy hS hF hbb hff hbs hfs
                by_cases hys : yy = S
                · subst hys
                  go_wp2
                  go_quiet (fail)
                  obtain ⟨w8, hw8⟩ : ∃ w8, wr.drewN nq = w8 := ⟨_, rfl⟩
                  have e8 : Ext wr w8 := by rw [← hw8]; exact ext_drewN (Ext.refl _) _
                  rw [hw8]
                  have HB8 := Lib.hid (hB.out.trans e8)
                  clear hw8 e8 hB q0 q1 q2 cy cS cF
                  go_upto_region 27 with fail
                  go_cut [21] from 148 to 165 (fun s21 wx => s21 = .bool (bb || (decide (mn < k) && decide (k < mx))) ∧ wx = w8)
                  case first =>
                    cases bb with
                    | true =>
                      go_wp2
                      go_meet
                      case rel => exact ⟨rfl, rfl⟩
                    | false =>
                      by_cases h1 : mn < k
                      · have h1z : (mn : Int) < (k : Int) := by omega
                        by_cases h2 : k < mx
                        · have h2z : (k : Int) < (mx : Int) := by omega
                          go_wp2
                          go_meet
                          case rel => exact ⟨by simp [h1, h2], rfl⟩
                        · have h2z : ¬ (k : Int) < (mx : Int) := by omega
                          go_wp2
                          go_meet
                          case rel => exact ⟨by simp [h2], rfl⟩
                      · have h1z : ¬ (mn : Int) < (k : Int) := by omega
                        go_wp2
                        go_meet
                        case rel => exact ⟨by simp [h1], rfl⟩
                  case rest =>
                    obtain ⟨rfl, rfl⟩ := hcut
                    obtain ⟨bb2, hbb2⟩ : ∃ bb2, (bb || (decide (mn < k) && decide (k < mx))) = bb2 := ⟨_, rfl⟩
                    have HB2 : Hid (betweenTo ds d mn mx (k + 1) = bb2) := Lib.hid (by rw [HBS.out, ← hbb2]; simp)
                    rw [hbb2]
                    have hx8 := HX8.out.ext HB8.out
                    obtain ⟨q0, q1, q2⟩ := hx8.cells
                    have cy := HD.out wc HB8.out k hlt
                    have cF := HD.out wc HB8.out f hfn
                    rw [HYY.out.1] at cy
                    rw [HYY.out.2] at cF
                    clear hbb2 HBS hx8
                    cases ff with
                    | false =>
                      go_wp2
                      go_quiet (fail)
                      obtain ⟨w9, hw9⟩ : ∃ w9, wc.drewN nq = w9 := ⟨_, rfl⟩
                      rw [hw9]
                      have e9 : Ext wc w9 := by rw [← hw9]; exact ext_drewN (Ext.refl _) _
                      have HB9 := Lib.hid (HB8.out.trans e9)
                      clear e9 hw9 q0 q1 q2 cy cF HB8
                      go_wp2
                      go_roundw
                      case measure => simp [intOf]; omega
                      case rel => exact ⟨k + 1, by omega, by rw [HB2.out], by rw [HFS.out]; simp, by go_num, HB9⟩
                    | true =>
                      by_cases hkd : k < d
                      · have hkdz : (k : Int) < (d : Int) := by omega
                        go_wp2
                        go_quiet (fail)
                        obtain ⟨w9, hw9⟩ : ∃ w9, wc.drewN nq = w9 := ⟨_, rfl⟩
                        rw [hw9]
                        have e9 : Ext wc w9 := by rw [← hw9]; exact ext_drewN (Ext.refl _) _
                        have HB9 := Lib.hid (HB8.out.trans e9)
                        clear e9 hw9 q0 q1 q2 cy cF HB8
                        go_wp2
                        go_roundw
                        case measure => simp [intOf]; omega
                        case rel => exact ⟨k + 1, by omega, by rw [HB2.out], by rw [HFS.out]; simp [hkd], by go_num, HB9⟩
                      · have hkdz : ¬ (k : Int) < (d : Int) := by omega
                        by_cases hyf : yy = F
                        · subst hyf
                          by_cases hkf : k < f
                          · have hkfz : (k : Int) < (f : Int) := by omega
                            go_wp2
                            go_quiet (fail)
                            obtain ⟨w9, hw9⟩ : ∃ w9, wc.drewN nq = w9 := ⟨_, rfl⟩
                            rw [hw9]
                            have e9 : Ext wc w9 := by rw [← hw9]; exact ext_drewN (Ext.refl _) _
                            have HB9 := Lib.hid (HB8.out.trans e9)
                            clear e9 hw9 q0 q1 q2 cy cF HB8
                            go_wp2
                            go_roundw
                            case measure => simp [intOf]; omega
                            case rel => exact ⟨k + 1, by omega, by rw [HB2.out], by rw [HFS.out]; simp [hkf], by go_num, HB9⟩
                          · have hkfz : ¬ (k : Int) < (f : Int) := by omega
                            go_wp2
                            go_quiet (fail)
                            obtain ⟨w9, hw9⟩ : ∃ w9, wc.drewN nq = w9 := ⟨_, rfl⟩
                            rw [hw9]
                            have e9 : Ext wc w9 := by rw [← hw9]; exact ext_drewN (Ext.refl _) _
                            have HB9 := Lib.hid (HB8.out.trans e9)
                            clear e9 hw9 q0 q1 q2 cy cF HB8
                            go_wp2
                            go_roundw
                            case measure => simp [intOf]; omega
                            case rel => exact ⟨k + 1, by omega, by rw [HB2.out], by rw [HFS.out]; simp [hkf, hkd], by go_num, HB9⟩
                        · have e2 : (yy == F) = false := by simp [hyf]
                          go_wp2
                          go_quiet (fail)
                          obtain ⟨w9, hw9⟩ : ∃ w9, wc.drewN nq = w9 := ⟨_, rfl⟩
                          rw [hw9]
                          have e9 : Ext wc w9 := by rw [← hw9]; exact ext_drewN (Ext.refl _) _
                          have HB9 := Lib.hid (HB8.out.trans e9)
                          clear e9 hw9 q0 q1 q2 cy cF HB8
                          go_wp2
                          go_roundw
                          case measure => simp [intOf]; omega
                          case rel => exact ⟨k + 1, by omega, by rw [HB2.out], by rw [HFS.out]; simp [hyf, hkd], by go_num, HB9⟩
                · have e1 : (yy == S) = false := by simp [hys]
                  go_wp2
                  go_quiet (fail)
                  obtain ⟨w8, hw8⟩ : ∃ w8, wr.drewN nq = w8 := ⟨_, rfl⟩
                  have e8 : Ext wr w8 := by rw [← hw8]; exact ext_drewN (Ext.refl _) _
                  rw [hw8]
                  have HB8 := Lib.hid (hB.out.trans e8)
                  clear hw8 e8 hB q0 q1 q2 cy cS cF
                  go_upto_region 27 with fail
                  go_cut [21] from 148 to 165 (fun s21 wx => s21 = .bool bb ∧ wx = w8)
                  case first =>
                    cases bb with
                    | true =>
                      go_wp2
                      go_meet
                      case rel => exact ⟨rfl, rfl⟩
                    | false =>
                      go_wp2
                      go_meet
                      case rel => exact ⟨rfl, rfl⟩
                  case rest =>
                    obtain ⟨rfl, rfl⟩ := hcut
                    obtain ⟨bb2, hbb2⟩ : ∃ bb2, (bb) = bb2 := ⟨_, rfl⟩
                    have HB2 : Hid (betweenTo ds d mn mx (k + 1) = bb2) := Lib.hid (by rw [HBS.out, ← hbb2]; simp [hys])
                    rw [hbb2]
                    have hx8 := HX8.out.ext HB8.out
                    obtain ⟨q0, q1, q2⟩ := hx8.cells
                    have cy := HD.out wc HB8.out k hlt
                    have cF := HD.out wc HB8.out f hfn
                    rw [HYY.out.1] at cy
                    rw [HYY.out.2] at cF
                    clear hbb2 HBS hx8
                    cases ff with
                    | false =>
                      go_wp2
                      go_quiet (fail)
                      obtain ⟨w9, hw9⟩ : ∃ w9, wc.drewN nq = w9 := ⟨_, rfl⟩
                      rw [hw9]
                      have e9 : Ext wc w9 := by rw [← hw9]; exact ext_drewN (Ext.refl _) _
                      have HB9 := Lib.hid (HB8.out.trans e9)
                      clear e9 hw9 q0 q1 q2 cy cF HB8
                      go_wp2
                      go_roundw
                      case measure => simp [intOf]; omega
                      case rel => exact ⟨k + 1, by omega, by rw [HB2.out], by rw [HFS.out]; simp, by go_num, HB9⟩
                    | true =>
                      by_cases hyf : yy = F
                      · subst hyf
                        by_cases hkf : k < f
                        · have hkfz : (k : Int) < (f : Int) := by omega
                          go_wp2
                          go_quiet (fail)
                          obtain ⟨w9, hw9⟩ : ∃ w9, wc.drewN nq = w9 := ⟨_, rfl⟩
                          rw [hw9]
                          have e9 : Ext wc w9 := by rw [← hw9]; exact ext_drewN (Ext.refl _) _
                          have HB9 := Lib.hid (HB8.out.trans e9)
                          clear e9 hw9 q0 q1 q2 cy cF HB8
                          go_wp2
                          go_roundw
                          case measure => simp [intOf]; omega
                          case rel => exact ⟨k + 1, by omega, by rw [HB2.out], by rw [HFS.out]; simp [hkf], by go_num, HB9⟩
                        · have hkfz : ¬ (k : Int) < (f : Int) := by omega
                          go_wp2
                          go_quiet (fail)
                          obtain ⟨w9, hw9⟩ : ∃ w9, wc.drewN nq = w9 := ⟨_, rfl⟩
                          rw [hw9]
                          have e9 : Ext wc w9 := by rw [← hw9]; exact ext_drewN (Ext.refl _) _
                          have HB9 := Lib.hid (HB8.out.trans e9)
                          clear e9 hw9 q0 q1 q2 cy cF HB8
                          go_wp2
                          go_roundw
                          case measure => simp [intOf]; omega
                          case rel => exact ⟨k + 1, by omega, by rw [HB2.out], by rw [HFS.out]; simp [hkf, hys], by go_num, HB9⟩
                      · have e2 : (yy == F) = false := by simp [hyf]
                        go_wp2
                        go_quiet (fail)
                        obtain ⟨w9, hw9⟩ : ∃ w9, wc.drewN nq = w9 := ⟨_, rfl⟩
                        rw [hw9]
                        have e9 : Ext wc w9 := by rw [← hw9]; exact ext_drewN (Ext.refl _) _
                        have HB9 := Lib.hid (HB8.out.trans e9)
                        clear e9 hw9 q0 q1 q2 cy cF HB8
                        go_wp2
                        go_roundw
                        case measure => simp [intOf]; omega
                        case rel => exact ⟨k + 1, by omega, by rw [HB2.out], by rw [HFS.out]; simp [hyf, hys], by go_num, HB9⟩
              · have hltz : ¬ (k : Int) < (n' : Int) := by omega
                have hend1 := betweenTo_end ds d mn mx k (by omega)
                have hend2 := firstsTo_end ds d f k (by omega) (by omega)
                have cS := HD.out wr hB.out d hdn
                have cF := HD.out wr hB.out f hfn
                have bS := spot_lt H0.out (show d < ds.length by have := HN.out; omega)
                have bF := spot_lt H0.out (show f < ds.length by have := HN.out; omega)
                have hkb := HKB.out
                unfold besideR at hkb
                obtain ⟨S, hS⟩ : ∃ S, spotAt ds d = S := ⟨_, rfl⟩
                obtain ⟨F, hF⟩ : ∃ F, spotAt ds f = F := ⟨_, rfl⟩
                obtain ⟨bb, hbb⟩ : ∃ bb, betweenTo ds d mn mx k = bb := ⟨_, rfl⟩
                obtain ⟨ff, hff⟩ : ∃ ff, firstsTo ds d f k = ff := ⟨_, rfl⟩
                rw [hS] at cS hkb hend1 bS
                rw [hF] at cF hkb bF
                rw [hbb] at hend1 ⊢
                rw [hff] at hend2 ⊢
                have hall : (List.range mx).all (fun i => !(decide (mn < i) && decide (spotAt ds i = S))) = !bb := by rw [hend1, Bool.not_not]
                rw [hall, ← hend2] at hkb
                rw [← HN.out.1] at bS bF
                have HKK := Lib.hid hkb
                have HSF := Lib.hid (And.intro hS.symm hF.symm)
                have dz : (d : Int) < (n' : Int) := by omega
                have fz : (f : Int) < (n' : Int) := by omega
                have hx := HX8.out.ext hB.out
                clear hkb hall hend1 hend2 hbb hff hS hF HKB hmn hmx hmxn hne hu1 hu2 hv1 hv2
                by_cases hSF : S = F
                · subst hSF
                  cases bb with
                  | true =>
                    obtain rfl : kb = 0 := by have := HKK.out; simpa using this.symm
                    clear HKK
                    go_wp2
                    go_quiet (fail)
                    obtain ⟨w9, hw9⟩ : ∃ w9, wr.drewN nq = w9 := ⟨_, rfl⟩
                    have e9 : Ext wr w9 := by rw [← hw9]; exact ext_drewN (Ext.refl _) _
                    rw [hw9]
                    have HE9 := Lib.hid (HE0.out.trans ((HE8.out.trans hB.out).trans e9))
                    clear hw9 e9 hB HE8 HE0 HX8 HT8 HD C44 HP q0 q1 q2 cS cF hx
                    go_wp2_with fail
                    refine (works_any _).mono ?_
                    rintro e v9 ⟨rfl, f9⟩
                    go_wp2
                    go_ret
                    exact ⟨rfl, HE9.out.trans f9⟩
                  | false =>
                    obtain rfl : kb = 2 := by have := HKK.out; simpa using this.symm
                    clear HKK
                    go_wp2
                    go_quiet (fail)
                    obtain ⟨w9, hw9⟩ : ∃ w9, wr.drewN nq = w9 := ⟨_, rfl⟩
                    have e9 : Ext wr w9 := by rw [← hw9]; exact ext_drewN (Ext.refl _) _
                    rw [hw9]
                    have HE9 := Lib.hid (HE0.out.trans ((HE8.out.trans hB.out).trans e9))
                    clear hw9 e9 hB HE8 HE0 HX8 HT8 HD C44 HP q0 q1 q2 cS cF hx
                    go_wp2_with fail
                    refine (works_any _).mono ?_
                    rintro e v9 ⟨rfl, f9⟩
                    go_wp2
                    go_ret
                    exact ⟨rfl, HE9.out.trans f9⟩
                · have e1 : (S == F) = false := by simp [hSF]
                  cases ff with
                  | false =>
                    obtain rfl : kb = 0 := by have := HKK.out; simpa [hSF] using this.symm
                    clear HKK
                    go_wp2
                    go_quiet (fail)
                    obtain ⟨w9, hw9⟩ : ∃ w9, wr.drewN nq = w9 := ⟨_, rfl⟩
                    have e9 : Ext wr w9 := by rw [← hw9]; exact ext_drewN (Ext.refl _) _
                    rw [hw9]
                    have HE9 := Lib.hid (HE0.out.trans ((HE8.out.trans hB.out).trans e9))
                    clear hw9 e9 hB HE8 HE0 HX8 HT8 HD C44 HP q0 q1 q2 cS cF hx
                    go_wp2_with fail
                    refine (works_any _).mono ?_
                    rintro e v9 ⟨rfl, f9⟩
                    go_wp2
                    go_ret
                    exact ⟨rfl, HE9.out.trans f9⟩
                  | true =>
                    have hkk : kindOf Wd ss (sizes ds) S F = kb := by have := HKK.out; simpa [hSF] using this
                    clear HKK
                    go_wp2
                    go_quiet (fail)
                    obtain ⟨w9, hw9⟩ : ∃ w9, wr.drewN nq = w9 := ⟨_, rfl⟩
                    have e9 : Ext wr w9 := by rw [← hw9]; exact ext_drewN (Ext.refl _) _
                    rw [hw9]
                    go_upto_region 33 with fail
                    have HX9 := Lib.hid (hx.ext e9)
                    have hT9 := HT8.out.ext (hB.out.trans e9)
                    have cTT : ∀ W, Ext w9 W → Calls Try.prog 44 #[.agg #[.int .i64 Wd, .slice A n c, .slice (some ⟨b, off, none⟩) n' c'], .slice T mt cT, .int .i64 S, .int .i64 F, .int .i64 kb] W fun e w' => e = .returned (.bool true) ∧ Below W.heap.size W w' := fun W h => C44.out T cT W (hT9.ext h) (HX9.out.ext h).bath S F kb (by omega) (by omega) hSF hkk
                    have cK : ∀ W, Ext w9 W → Calls Try.prog 16 #[] W fun e w' => e = .returned (.bool true) ∧ Below W.heap.size W w' := fun W _ => works_any W
                    have cd : ∀ W, Ext w9 W → W.cell? ⟨b, off + d * 3, none⟩ = some (.int .i64 S) := fun W h => by rw [HSF.out.1]; exact HD.out W ((hB.out.trans e9).trans h) d hdn
                    have cf : ∀ W, Ext w9 W → W.cell? ⟨b, off + f * 3, none⟩ = some (.int .i64 F) := fun W h => by rw [HSF.out.2]; exact HD.out W ((hB.out.trans e9).trans h) f hfn
                    have HE9 := Lib.hid (HE0.out.trans ((HE8.out.trans hB.out).trans e9))
                    clear hw9 e9 hB HE8 HE0 HX8 HT8 HD C44 HP q0 q1 q2 cS cF
                    refine wp_region_specs (ops := toldLReg) (fun i v _ => v = toldLV Wd A n c n' c' ss ds T p b off mt cT d f S F kb i) (Ext w9) (by kernel_rfl) (by kernel_rfl) ⟨rfl, rfl, rfl, Nat.le_refl _, fun _ _ => rfl⟩ (fun _ _ h e => h.trans e) (fun _ _ _ _ h _ => h) toldLD (by kernel_rfl) ?_ ?_
                    · intro i o ho a W hB hsz hold haft
                      have hi : i < 20 := (Array.getElem?_eq_some_iff.1 ho).1
                      have hx := HX9.out
                      match i, hi with
                      | 0, _ => exact toldL_op0 (hold 4 (by kernel_rfl)) hx hB ho
                      | 1, _ => exact toldL_op1 (hold 9 (by kernel_rfl)) ho
                      | 2, _ => exact toldL_op2 (hold 4 (by kernel_rfl)) ho
                      | 3, _ => exact toldL_op3 hx hB haft ho
                      | 4, _ => exact toldL_op4 (hold 18 (by kernel_rfl)) ho
                      | 5, _ => exact toldL_op5 hdn haft ho
                      | 6, _ => exact toldL_op6 haft ho
                      | 7, _ => exact toldL_op7 cd hB haft ho
                      | 8, _ => exact toldL_op8 (hold 4 (by kernel_rfl)) ho
                      | 9, _ => exact toldL_op9 hx hB haft ho
                      | 10, _ => exact toldL_op10 (hold 19 (by kernel_rfl)) ho
                      | 11, _ => exact toldL_op11 hfn haft ho
                      | 12, _ => exact toldL_op12 haft ho
                      | 13, _ => exact toldL_op13 cf hB haft ho
                      | 14, _ => exact toldL_op14 (hold 20 (by kernel_rfl)) ho
                      | 15, _ => exact toldL_op15 cTT hB haft ho
                      | 16, _ => exact toldL_op16 haft ho
                      | 17, _ => exact toldL_op17 cK hB haft ho
                      | 18, _ => exact toldL_op18 haft ho
                      | 19, _ => exact toldL_op19 haft ho
                      | i + 20, h => exact absurd h (by omega)
                    · intro a W hB hsz hdf hold hS
                      have e10 : a.eval (.tmp 8) = .bool true := hS 19 (show 19 < toldLReg.size from Nat.lt_of_lt_of_eq (by omega) (show 20 = toldLReg.size by kernel_rfl))
                      obtain ⟨tmps, dfs⟩ := a
                      obtain rfl : dfs = [] := hdf
                      simp only [Exit.then]
                      go_at_K
                      go_wp2
                      exact bodyPost_ret (results_tmp rfl _ _ _) rfl ⟨congrArg Ending.returned e10, HE9.out.trans hB⟩
end
end Go.Proofs.Ytckndnaohggmhaa
