/- Texts of the package drop, joined: DropJoined. -/
import Derived.Test.YtckndnaohggmhaaC20
import Derived.Test.YtckndnaohggmhaaC49
import Derived.Test.YtckndnaohggmhaaC68
import Derived.Deep.CutRange
import Derived.IntWalk
/- DropJoined: the walk. -/
namespace Go.Proofs.Ytckndnaohggmhaa
open Go.RowKit Go.Shelf

section
variable {w : World} {Wd : Int} {A : Option Addr} {n c : Nat} {A' : Option Addr} {n' c' : Nat} {ss : List (Int × Int)} {ds : List (Int × Int × Int)}

set_option maxRecDepth 100000 in
set_option maxHeartbeats 8000000 in
theorem dropJoined_any (x y : Int) (hx : 0 ≤ x ∧ x ≤ 255) (hy : 0 ≤ y ∧ y ≤ 255) (hb : IsBath w w.heap.size A n c A' n' c' ss ds) :
    Calls Try.prog 13 #[.agg #[.int .i64 Wd, .slice A n c, .slice A' n' c'], .agg #[.int .u8 x, .int .u8 y]] w fun e w' => e = .returned (.bool true) ∧ Ext w w' := by
  have hX0 : BathAt (w.alloc (.cells #[.int .i64 Wd, .slice A n c, .slice A' n' c'] 25)) w.heap.size Wd A n c A' n' c' ss ds := BathAt.new hb
  have hE0 : Ext w (w.alloc (.cells #[.int .i64 Wd, .slice A n c, .slice A' n' c'] 25)) := ext_alloc w _
  have HN := Lib.hid (And.intro hb.nss hb.nds)
  go_enter Try.func13, Try.ntmps13
  go_upto_region 1 with fail
  obtain ⟨w0, hw0⟩ : ∃ w0, (w.alloc (.cells #[.int .i64 Wd, .slice A n c, .slice A' n' c'] 25)).alloc (.cells #[.int .u8 x, .int .u8 y] 54) = w0 := ⟨_, rfl⟩
  have r1 : w0.heap[w.heap.size + 1]? = some (.cells #[.int .u8 x, .int .u8 y] 54 (0, 0)) := by rw [← hw0]; exact row_last _ _ _ (by simp)
  have e3 : Ext (w.alloc (.cells #[.int .i64 Wd, .slice A n c, .slice A' n' c'] 25)) w0 := by rw [← hw0]; exact ext_alloc _ _
  have hx0 := hX0.ext e3
  have he0 := hE0.trans e3
  rw [hw0]
  clear hX0 hE0 e3 hw0
  obtain ⟨pp, hpp⟩ : ∃ pp, w.heap.size + 1 = pp := ⟨_, rfl⟩
  rw [hpp] at r1 ⊢
  obtain ⟨p, hp⟩ : ∃ p, w.heap.size = p := ⟨_, rfl⟩
  rw [hp] at hx0 ⊢
  have HP := Lib.hid r1
  have HE0 := Lib.hid he0
  have HX0 := Lib.hid hx0
  have cF := fine_any (Wd := Wd) hx0.bath
  clear hp hpp r1 he0 hb
  obtain ⟨q0, q1, q2⟩ := hx0.cells
  cases hf : fineB Wd ss ds with
  | false =>
    rw [hf] at cF
    clear hf hx0 HX0
    go_wp2_with fail
    refine cF.mono ?_
    rintro e w1 ⟨rfl, e1⟩
    have HE := Lib.hid (HE0.out.trans e1)
    clear HE0 e1 cF q0 q1 q2
    go_wp2_with fail
    refine (works_any _).mono ?_
    rintro e v9 ⟨rfl, f9⟩
    go_wp2
    go_ret
    exact ⟨rfl, HE.out.trans f9⟩
  | true =>
    rw [hf] at cF
    have h0 : bathErr Wd ss ds = 0 := of_decide_eq_true hf
    clear hf hx0
    have hn10 : n ≤ 10 := by have := (bath_ok h0).2.1.1; have := HN.out; omega
    have hn40 : n' ≤ 40 := by have := (bath_ok h0).2.1.2; have := HN.out; omega
    have h1 := placeOf_bd n x
    have h2 := otherOf_bd n x y
    have hne := otherOf_ne n x y
    have c43 : ∀ W : World, IsBath W W.heap.size A n c A' n' c' ss ds → Calls Try.prog 43 #[.agg #[.int .i64 Wd, .slice A n c, .slice A' n' c'], .agg #[.int .u8 x, .int .u8 y]] W fun e w' => e = .returned (.tuple #[.int .i64 (placeOf n x), .int .i64 (otherOf n x y)]) ∧ Ext W w' := fun W hW => two_any x y hx hy hn10 hW
    obtain ⟨one, hone⟩ : ∃ one, placeOf n x = one := ⟨_, rfl⟩
    obtain ⟨two, htwo⟩ : ∃ two, otherOf n x y = two := ⟨_, rfl⟩
    rw [hone] at c43 h1 hne
    rw [htwo] at c43 h2 hne
    have he : forErr Wd ss ds one two = 0 := by
      have := HN.out.1
      unfold forErr
      rw [if_pos h0, if_pos ⟨hne, by simp; omega, by simp; omega⟩]
    have HH := Lib.hid (And.intro h0 he)
    have HEQ : Hid (∀ sure, Eqv (goesC (tableOf Wd ss ds sure) (ss.length + 2)) (thereB (sizes ds)) (ss.length + 2)) := Lib.hid (fun sure => bath_eqv h0)
    obtain ⟨gS, hgS⟩ : ∃ gS, (goesC (tableOf Wd ss ds true) (ss.length + 2)) (one + 2).toNat (two + 2).toNat = gS := ⟨_, rfl⟩
    obtain ⟨gP, hgP⟩ : ∃ gP, (goesC (tableOf Wd ss ds false) (ss.length + 2)) (one + 2).toNat (two + 2).toNat = gP := ⟨_, rfl⟩
    have HSP : Hid (gS = true → gP = true) := Lib.hid (fun h => by rw [← hgP]; exact goes_wider h0 (by have := HN.out.1; omega) (by rw [hgS]; exact h))
    have cW : ∀ (sure : Bool) (g : Bool), goesC (tableOf Wd ss ds sure) (ss.length + 2) (one + 2).toNat (two + 2).toNat = g → ∀ W : World, IsBath W W.heap.size A n c A' n' c' ss ds → Calls Try.prog 29 #[.agg #[.int .i64 Wd, .slice A n c, .slice A' n' c'], .int .i64 one, .int .i64 two, .bool sure] W fun e w' => ∃ v, e = .returned (.tuple #[v, .int .i64 (if g then 0 else 5)]) ∧ Ext W w' := fun sure g hg W hW => by
      refine (bigWay_any (Wd := Wd) one two sure hW).mono ?_
      rintro e w' ⟨hE, h | h | h⟩
      · exact absurd he h.1
      · have : g = false := by
          cases hb : g with
          | false => rfl
          | true => exact absurd h.2.1 ((outs_goes he).2 (by rw [hg, hb]))
        subst this
        exact ⟨_, h.2.2, hE⟩
      · have : g = true := by rw [← hg]; exact (outs_goes he).1 h.2.1
        subst this
        obtain ⟨_, _, Aw, l, cw, rfl, _⟩ := h
        exact ⟨_, rfl, hE⟩
    have cWS := cW true gS hgS
    have cWP := cW false gP hgP
    obtain ⟨fS, hfS⟩ : ∃ fS : Int, (if gS then 0 else 5) = fS := ⟨_, rfl⟩
    obtain ⟨fP, hfP⟩ : ∃ fP : Int, (if gP then 0 else 5) = fP := ⟨_, rfl⟩
    rw [hfS] at cWS
    rw [hfP] at cWP
    have cG : ∀ (sure : Bool) (GS : List (List Int)), gsTo (goesC (tableOf Wd ss ds sure) (ss.length + 2)) (thereB (sizes ds)) (ss.length + 2) = GS → ∀ W : World, IsBath W W.heap.size A n c A' n' c' ss ds → Calls Try.prog 36 #[.agg #[.int .i64 Wd, .slice A n c, .slice A' n' c'], .bool sure] W fun e w' => ∃ As cs, e = .returned (.tuple #[.slice As GS.length cs, .int .i64 0]) ∧ HeldRows w' w'.heap.size As GS ∧ Ext W w' := fun sure GS hG W hW => by
      have := groups_prog (Wd := Wd) sure hW
      have ha : groupsAns Wd ss ds sure = (GS, 0) := by unfold groupsAns; rw [if_neg (by simp [h0]), groups_gs, hG]
      rw [ha] at this
      exact this
    obtain ⟨GS, hGS⟩ : ∃ GS, gsTo (goesC (tableOf Wd ss ds true) (ss.length + 2)) (thereB (sizes ds)) (ss.length + 2) = GS := ⟨_, rfl⟩
    obtain ⟨GP, hGP⟩ : ∃ GP, gsTo (goesC (tableOf Wd ss ds false) (ss.length + 2)) (thereB (sizes ds)) (ss.length + 2) = GP := ⟨_, rfl⟩
    have cGS := cG true GS hGS
    have cGP := cG false GP hGP
    obtain ⟨ls, hls⟩ : ∃ ls, GS.length = ls := ⟨_, rfl⟩
    obtain ⟨lp, hlp⟩ : ∃ lp, GP.length = lp := ⟨_, rfl⟩
    rw [hls] at cGS
    rw [hlp] at cGP
    have hls12 : ls ≤ 12 := by rw [← hls, ← hGS]; exact gs_len (HEQ.out true)
    have hlp12 : lp ≤ 12 := by rw [← hlp, ← hGP]; exact gs_len (HEQ.out false)
    have HG := Lib.hid (And.intro hGS (And.intro hGP (And.intro hls hlp)))
    have HF := Lib.hid (And.intro hgS (And.intro hgP (And.intro hfS hfP)))
    clear h0 hne hone htwo he hgS hgP cW hfS hfP cG hGS hGP hls hlp hx hy
    go_wp2_with fail
    refine cF.mono ?_
    rintro e w1 ⟨rfl, e1⟩
    have hx1 := HX0.out.ext e1
    have g0 : w1.cell? ⟨pp, 0, none⟩ = some (.int .u8 x) := cell_of_row _ _ _ _ _ _ (row_ext HP.out e1)
    have g1 : w1.cell? ⟨pp, 1, none⟩ = some (.int .u8 y) := cell_of_row _ _ _ _ _ _ (row_ext HP.out e1)
    clear q0 q1 q2 cF HX0
    obtain ⟨q0, q1, q2⟩ := hx1.cells
    go_wp2_with fail
    refine (c43 _ hx1.bath).mono ?_
    rintro e w2 ⟨rfl, e2⟩
    have hx2 := hx1.ext e2
    clear q0 q1 q2 c43 hx1 g0 g1
    obtain ⟨q0, q1, q2⟩ := hx2.cells
    go_wp2_with fail
    refine (cGS _ hx2.bath).mono ?_
    rintro e w3 ⟨As, cs, rfl, hs3, e3⟩
    have hx3 := hx2.ext e3
    clear q0 q1 q2 cGS hx2
    obtain ⟨q0, q1, q2⟩ := hx3.cells
    go_wp2_with fail
    refine (cGP _ hx3.bath).mono ?_
    rintro e w4 ⟨Ap, cp, rfl, hp4, e4⟩
    have hx4 := hx3.ext e4
    clear q0 q1 q2 cGP hx3
    obtain ⟨q0, q1, q2⟩ := hx4.cells
    go_wp2_with fail
    refine (cWS _ hx4.bath).mono ?_
    rintro e w5 ⟨vS, rfl, e5⟩
    have hx5 := hx4.ext e5
    clear q0 q1 q2 cWS hx4
    obtain ⟨q0, q1, q2⟩ := hx5.cells
    go_wp2_with fail
    refine (cWP _ hx5.bath).mono ?_
    rintro e w6 ⟨vP, rfl, e6⟩
    have HX6 := Lib.hid (hx5.ext e6)
    have HS6 := Lib.hid (((hs3.ext e4).ext e5).ext e6)
    have HP6 := Lib.hid ((hp4.ext e5).ext e6)
    have E6 := Lib.hid (((((e1.trans e2).trans e3).trans e4).trans e5).trans e6)
    clear q0 q1 q2 cWP hx5 hs3 hp4 e1 e2 e3 e4 e5 e6
    go_upto_region 8 with fail
    go_cut [67] from 54 to 66 (fun s67 wx => s67 = .bool false ∧ wx = w6)
    case first =>
      cases hcS : gS with
      | true =>
        have hcP := HSP.out hcS
        obtain rfl : fS = 0 := by have := HF.out.2.2.1; rw [hcS] at this; exact this.symm
        obtain rfl : fP = 0 := by have := HF.out.2.2.2; rw [hcP] at this; exact this.symm
        clear hcS hcP
        go_wp2
        go_meet
        case rel => exact ⟨rfl, rfl⟩
      | false =>
        obtain rfl : fS = 5 := by have := HF.out.2.2.1; rw [hcS] at this; exact this.symm
        clear hcS
        go_wp2
        go_meet
        case rel => exact ⟨rfl, rfl⟩
    case rest =>
      obtain ⟨rfl, rfl⟩ := hcut
      have CMS : Hid (∀ q : Int, Calls Try.prog 53 #[.slice As ls cs, .int .i64 q] wc fun e w' => e = .returned (.int .i64 (manyOf (gsTo (goesC (tableOf Wd ss ds true) (ss.length + 2)) (thereB (sizes ds)) (ss.length + 2)) q : Nat)) ∧ w' = wc) := Lib.hid (fun q => many_any As ls cs _ q wc (by rw [HG.out.1]; exact HG.out.2.2.1.symm) (by omega) (fun xs hxs => by obtain ⟨i, hi⟩ := List.getElem?_of_mem hxs; obtain ⟨_, _, _, _, _, _, hl⟩ := gs_each (HEQ.out true) hi; omega) (by rw [HG.out.1]; exact HS6.out))
      have CMP : Hid (∀ q : Int, Calls Try.prog 53 #[.slice Ap lp cp, .int .i64 q] wc fun e w' => e = .returned (.int .i64 (manyOf (gsTo (goesC (tableOf Wd ss ds false) (ss.length + 2)) (thereB (sizes ds)) (ss.length + 2)) q : Nat)) ∧ w' = wc) := Lib.hid (fun q => many_any Ap lp cp _ q wc (by rw [HG.out.2.1]; exact HG.out.2.2.2.symm) (by omega) (fun xs hxs => by obtain ⟨i, hi⟩ := List.getElem?_of_mem hxs; obtain ⟨_, _, _, _, _, _, hl⟩ := gs_each (HEQ.out false) hi; omega) (by rw [HG.out.2.1]; exact HP6.out))
      obtain ⟨q0, q1, q2⟩ := HX6.out.cells
      go_wp2
      go_loop [15] (fun i => ∃ k : Nat, k ≤ n + 2 ∧ i = .int .i64 ((k : Int) - 2)) (fun i => n + 2 - (intOf i + 2).toNat)
      case atStart => exact ⟨0, Nat.zero_le _, rfl⟩
      case round =>
        obtain ⟨k, hk, rfl⟩ := hrel
        have hkb : (k : Int) ≤ 12 := by omega
        by_cases hlt : k < n + 2
        · have hltz : (k : Int) - 2 < (n : Int) := by omega
          obtain ⟨b0, hb0⟩ : ∃ b0, decide ((k : Int) - 2 < 0) = b0 := ⟨_, rfl⟩
          have hb0' := hb0
          go_wp2
          go_loop [16, 17] (fun t i => ∃ j : Nat, j ≤ n' ∧ i = .int .i64 j ∧ t = .bool (b0 || onTo ds ((k : Int) - 2) j)) (fun _ i => n' - (intOf i).toNat)
          case atStart => exact ⟨0, Nat.zero_le _, rfl, by simp [onTo]⟩
          case round =>
            obtain ⟨j, hj, rfl, rfl⟩ := hrel
            by_cases hlt2 : j < n'
            · have hltz2 : (j : Int) < (n' : Int) := by omega
              obtain ⟨bd, offd, rfl, d0, _, _⟩ := HX6.out.drop hlt2
              have hon := onTo_succ ds ((k : Int) - 2) (k := j) (by rw [← HN.out.2]; exact hlt2)
              obtain ⟨sv, hsv⟩ : ∃ sv, (ds.getD j (0, 0, 0)).1 = sv := ⟨_, rfl⟩
              rw [hsv] at d0 hon
              obtain ⟨ob, hob⟩ : ∃ ob, onTo ds ((k : Int) - 2) j = ob := ⟨_, rfl⟩
              rw [hob] at hon ⊢
              have HON := Lib.hid hon
              clear hon hsv hob
              obtain ⟨eb, heb⟩ : ∃ eb, (sv == (k : Int) - 2) = eb := ⟨_, rfl⟩
              have HEB : Hid (decide (sv = (k : Int) - 2) = eb) := Lib.hid (by rw [← heb]; rfl)
              cases b0 <;> cases ob <;> cases eb
              all_goals
                go_wp2
                go_round
                case measure => simp [intOf]; omega
                case rel => exact ⟨j + 1, by omega, by go_num, by rw [HON.out, HEB.out]; rfl⟩
            · have hltz2 : ¬ (j : Int) < (n' : Int) := by omega
              obtain rfl : j = n' := by omega
              have hth := there_on HH.out.1 (ss := ss) k
              rw [hb0', ← HN.out.2] at hth
              have hm1 := many_all (HEQ.out true) (k := k) (by have := HN.out.1; omega)
              have hm2 := many_all (HEQ.out false) (k := k) (by have := HN.out.1; omega)
              obtain ⟨T, hT⟩ : ∃ T, thereB (sizes ds) k = T := ⟨_, rfl⟩
              rw [hT] at hth hm1 hm2
              rw [← hth]
              have cS := CMS.out ((k : Int) - 2)
              have cP := CMP.out ((k : Int) - 2)
              rw [hm1] at cS
              rw [hm2] at cP
              clear hth hm1 hm2 hT hb0 hb0'
              cases T with
              | true =>
                rw [if_pos rfl] at cS cP
                go_wp2_with fail
                refine cS.mono ?_
                rintro e w' ⟨rfl, rfl⟩
                go_wp2_with fail
                refine cP.mono ?_
                rintro e w' ⟨rfl, rfl⟩
                go_wp2_with fail
                refine cP.mono ?_
                rintro e w' ⟨rfl, rfl⟩
                go_wp2_with fail
                refine cP.mono ?_
                rintro e w' ⟨rfl, rfl⟩
                go_wp2
                go_round
                case measure => simp [intOf]; omega
                case rel => exact ⟨k + 1, by omega, by go_num⟩
              | false =>
                rw [if_neg (by simp)] at cS cP
                go_wp2_with fail
                refine cS.mono ?_
                rintro e w' ⟨rfl, rfl⟩
                go_wp2_with fail
                refine cP.mono ?_
                rintro e w' ⟨rfl, rfl⟩
                go_wp2_with fail
                refine cP.mono ?_
                rintro e w' ⟨rfl, rfl⟩
                go_wp2_with fail
                refine cP.mono ?_
                rintro e w' ⟨rfl, rfl⟩
                go_wp2
                go_round
                case measure => simp [intOf]; omega
                case rel => exact ⟨k + 1, by omega, by go_num⟩
        · have hltz : ¬ (k : Int) - 2 < (n : Int) := by omega
          have cGI : ∀ (q : Int) (W : World), Ext wc W → Calls Try.prog 54 #[.slice Ap lp cp, .int .i64 q] W fun e w' => e = .returned (.int .i64 (groupIx GP q)) ∧ ∃ m, w' = W.drewN m := fun q W hW => (group_any Ap lp cp GP q W HG.out.2.2.2.symm (by omega) (HP6.out.ext hW)).mono fun _ _ h => ⟨h.1, 0, h.2⟩
          have CGI := Lib.hid cGI
          go_upto_region 20 with fail
          clear cGI q0 q1 q2
          go_wp2
          go_loopw [18] (fun i wr => ∃ i' : Nat, i' ≤ ls ∧ i = .int .i64 i' ∧ Hid (Ext wc wr)) (fun i _ => ls - (intOf i).toNat)
          case atStart => exact ⟨0, Nat.zero_le _, rfl, Lib.hid (Ext.refl _)⟩
          case round =>
            obtain ⟨i, hi, rfl, hB⟩ := hrel
            obtain ⟨wo, rfl⟩ : ∃ wo, wo = wr := ⟨_, rfl⟩
            by_cases hil : i < ls
            · have hilz : (i : Int) < (ls : Int) := by omega
              have hgl := HG.out.2.2.1
              obtain ⟨xs, hxs⟩ : ∃ xs, GS[i]? = some xs := ⟨_, List.getElem?_eq_getElem (by omega)⟩
              obtain ⟨a, ha, hra, hxa, hhd, hl1, hl12⟩ := gs_each (HEQ.out true) (i := i) (xs := xs) (by rw [HG.out.1]; exact hxs)
              obtain ⟨b, off, Aj, cj, rfl, hc, hH, _⟩ := heldRows_get HS6.out hB.out hxs
              obtain ⟨b2, off2, rfl, hc2⟩ : ∃ b2 off2, Aj = some ⟨b2, off2, none⟩ ∧ ∀ k, k < xs.length → wo.cell? ⟨b2, off2 + k, none⟩ = some (.int .i64 (xs.getD k 0)) := by
                rcases hH with e | ⟨b2, off2, rfl, _, hq⟩
                · rw [e] at hl1; simp at hl1
                · refine ⟨b2, off2, rfl, fun k hk => ?_⟩
                  have := hq k _ (List.getElem?_eq_getElem hk) 0 _ rfl
                  simpa [List.getElem?_eq_getElem hk] using this
              have hz0 := hc2 0 (by omega)
              obtain ⟨lx, hlx⟩ : ∃ lx, xs.length = lx := ⟨_, rfl⟩
              rw [hlx] at hc hl1 hl12
              have HXS := Lib.hid (And.intro hlx (And.intro hxs (And.intro hxa (And.intro hhd ha))))
              have HC2 := Lib.hid hc2
              obtain ⟨y0, hy0⟩ : ∃ y0, xs.getD 0 0 = y0 := ⟨_, rfl⟩
              rw [hy0, Nat.add_zero] at hz0
              have HY0 := Lib.hid hy0
              have z1 : ¬ (lx : Int) = 0 := by omega
              have z1b : ((lx : Int) == 0) = false := by rw [beq_eq_false_iff_ne]; omega
              have z2 : (0 : Int) < (lx : Int) := by omega
              clear hlx hxs hxa hhd ha hra hc2 hy0 hH
              by_cases hi0 : i = 0
              · have hiz : ¬ (0 : Int) < (i : Int) := by omega
                have hizb : decide ((0 : Int) < (i : Int)) = false := decide_eq_false hiz
                have hizn : decide (0 < i) = false := decide_eq_false (by omega)
                clear hi0
                go_wp2
                go_quiet (fail)
                go_wp2
                obtain ⟨wq, hwq⟩ : ∃ wq, wo.drewN nq = wq := ⟨_, rfl⟩
                rw [hwq]
                have HBq := Lib.hid (hB.out.trans (show Ext wo wq by rw [← hwq]; exact ext_drewN (Ext.refl _) _))
                clear hwq hB hc hz0 HC2
                go_loopw [19] (fun v wz => ∃ j : Nat, 1 ≤ j ∧ j ≤ lx ∧ v = .int .i64 j ∧ Hid (Ext wc wz)) (fun v _ => lx - (intOf v).toNat)
                case atStart => exact ⟨1, by omega, by omega, rfl, HBq⟩
                case round =>
                  obtain ⟨j, hj1, hj, rfl, hBz⟩ := hrel
                  obtain ⟨_, _, Az, cz, he, hcz, hHz, _⟩ := heldRows_get HS6.out hBz.out HXS.out.2.1
                  cases he
                  rw [HXS.out.1] at hcz
                  by_cases hjl : j < lx
                  · have hjlz : (j : Int) < (lx : Int) := by omega
                    obtain ⟨b4, off4, rfl, hc4⟩ : ∃ b4 off4, Az = some ⟨b4, off4, none⟩ ∧ ∀ k, k < xs.length → wr.cell? ⟨b4, off4 + k, none⟩ = some (.int .i64 (xs.getD k 0)) := by
                      rcases hHz with e | ⟨b4, off4, rfl, _, hq⟩
                      · have := HXS.out.1; rw [e] at this; simp at this; omega
                      · refine ⟨b4, off4, rfl, fun k hk => ?_⟩
                        have := hq k _ (List.getElem?_eq_getElem hk) 0 _ rfl
                        simpa [List.getElem?_eq_getElem hk] using this
                    have hlx := HXS.out.1
                    have cj := hc4 j (by omega)
                    have cj1 := hc4 (j - 1) (by omega)
                    have c0 := hc4 0 (by omega)
                    have hsrt : xs.getD (j - 1) 0 < xs.getD j 0 := by
                      have hp := listTo_sorted2 (goesC (tableOf Wd ss ds true) (ss.length + 2) a) 12
                      rw [← HXS.out.2.2.1, List.pairwise_iff_getElem] at hp
                      have := hp (j - 1) j (by omega) (by omega) (by omega)
                      simpa [List.getElem?_eq_getElem (show j - 1 < xs.length by omega), List.getElem?_eq_getElem (show j < xs.length by omega)] using this
                    have hgr : groupIx GP (xs.getD j 0) = groupIx GP (xs.getD 0 0) := by
                      have hm : xs.getD j 0 ∈ listTo (goesC (tableOf Wd ss ds true) (ss.length + 2) a) 12 := by
                        rw [← HXS.out.2.2.1, List.getD_eq_getElem?_getD, List.getElem?_eq_getElem (show j < xs.length by omega)]
                        exact List.getElem_mem _
                      obtain ⟨t, _, ht, e⟩ := mem_listTo2.1 hm
                      have ha := HXS.out.2.2.2.2
                      have htm := (HEQ.out true).lt a t ha ht
                      rw [e, HXS.out.2.2.2.1, ← HG.out.2.1]
                      exact (groupIx_same (HEQ.out false) ha htm (goes_wider HH.out.1 ha ht)).symm
                    rw [HY0.out] at c0 hgr
                    obtain ⟨yj, hyj⟩ : ∃ yj, xs.getD j 0 = yj := ⟨_, rfl⟩
                    obtain ⟨yk, hyk⟩ : ∃ yk, xs.getD (j - 1) 0 = yk := ⟨_, rfl⟩
                    rw [hyj] at cj hsrt hgr
                    rw [hyk] at cj1 hsrt
                    have so : decide (yj ≤ yk) = false := decide_eq_false (by omega)
                    obtain ⟨j', hj'⟩ : ∃ j', j = j' + 1 := ⟨j - 1, by omega⟩
                    rw [show j - 1 = j' from by omega] at cj1
                    have v1 : IntKind.i64.wrap ((j : Int) - 1) = (j : Int) - 1 := IntWalk.i64_in _ (by omega)
                    have v2 : (0 : Int) ≤ (j : Int) - 1 := by omega
                    have v3 : (j : Int) - 1 < (lx : Int) := by omega
                    have v4 : ((j : Int) - 1).toNat = j' := by omega
                    rw [Nat.add_zero] at c0
                    have qA := fun n0 => Calls.quiet_of (w := wr) (n := n0) (CGI.out yj (wr.drewN n0) (ext_drewN hBz.out n0))
                    have qB := fun n0 => Calls.quiet_of (w := wr) (n := n0) (CGI.out y0 (wr.drewN n0) (ext_drewN hBz.out n0))
                    rw [hgr] at qA
                    obtain ⟨gi, hgi⟩ : ∃ gi, groupIx GP y0 = gi := ⟨_, rfl⟩
                    rw [hgi] at qA qB
                    clear hgr hyj hyk hj' hgi hHz hc4 hsrt hlx
                    go_wp2
                    go_quiet (((go_at_call 54; first | (with_reducible exact qA _) | (with_reducible exact qB _))))
                    have HBy := Lib.hid (hBz.out.trans (show Ext wr (wr.drewN nq) from ext_drewN (Ext.refl _) _))
                    clear qA qB cj cj1 c0 hcz hBz
                    go_wp2
                    go_roundw
                    case measure => simp [intOf]; omega
                    case rel => exact ⟨j + 1, by omega, by omega, by go_num, HBy⟩
                  · have hjlz : ¬ (j : Int) < (lx : Int) := by omega
                    clear hHz
                    go_wp2
                    go_roundw
                    case measure => simp [intOf]; omega
                    case rel => exact ⟨i + 1, by omega, by go_num, hBz⟩
              · have hiz : (0 : Int) < (i : Int) := by omega
                obtain ⟨ys, hys⟩ : ∃ ys, GS[i - 1]? = some ys := ⟨_, List.getElem?_eq_getElem (by omega)⟩
                obtain ⟨a', ha', _, _, _, hl1', _⟩ := gs_each (HEQ.out true) (i := i - 1) (xs := ys) (by rw [HG.out.1]; exact hys)
                have hord : ys.getD 0 0 < xs.getD 0 0 := by
                  have hp := gs_heads (HEQ.out true)
                  rw [HG.out.1, List.pairwise_iff_getElem] at hp
                  have e1 := List.getElem?_eq_some_iff.1 hys
                  have e2 := List.getElem?_eq_some_iff.1 HXS.out.2.1
                  have := hp (i - 1) i e1.1 e2.1 (by omega)
                  rw [e1.2, e2.2] at this
                  exact this
                obtain ⟨_, _, Ay, cy, he, hcy, hHy, _⟩ := heldRows_get HS6.out hB.out hys
                cases he
                obtain ⟨b3, off3, rfl, hc3⟩ : ∃ b3 off3, Ay = some ⟨b3, off3, none⟩ ∧ wo.cell? ⟨b3, off3, none⟩ = some (.int .i64 (ys.getD 0 0)) := by
                  rcases hHy with e | ⟨b3, off3, rfl, _, hq⟩
                  · rw [e] at hl1'; simp at hl1'
                  · refine ⟨b3, off3, rfl, ?_⟩
                    have := hq 0 _ (List.getElem?_eq_getElem hl1') 0 _ rfl
                    simpa [List.getElem?_eq_getElem hl1'] using this
                obtain ⟨i', hi'⟩ : ∃ i', i = i' + 1 := ⟨i - 1, by omega⟩
                have hcy' : wo.cell? ⟨b, off + i', none⟩ = some (.slice (some ⟨b3, off3, none⟩) ys.length cy) := by rw [show i' = i - 1 from by omega]; exact hcy
                obtain ⟨u0, hu0⟩ : ∃ u0, ys.getD 0 0 = u0 := ⟨_, rfl⟩
                rw [hu0] at hc3 hord
                rw [HY0.out] at hord
                have ho : ¬ y0 ≤ u0 := by omega
                have hob : decide (y0 ≤ u0) = false := decide_eq_false ho
                have hizb : decide ((0 : Int) < (i : Int)) = true := decide_eq_true hiz
                have hizn : decide (0 < i) = true := decide_eq_true (by omega)
                obtain ⟨ly, hly⟩ : ∃ ly, ys.length = ly := ⟨_, rfl⟩
                rw [hly] at hcy' hl1'
                have w1 : IntKind.i64.wrap ((i : Int) - 1) = (i : Int) - 1 := IntWalk.i64_in _ (by omega)
                have w2 : (0 : Int) ≤ (i : Int) - 1 := by omega
                have w3 : (i : Int) - 1 < (ls : Int) := by omega
                have w4 : ((i : Int) - 1).toNat = i' := by omega
                have w5 : (0 : Int) < (ly : Int) := by omega
                clear hi0 hi' hu0 hly hys hHy hcy ha' hord
                go_wp2
                go_quiet (fail)
                go_wp2
                obtain ⟨wq, hwq⟩ : ∃ wq, wo.drewN nq = wq := ⟨_, rfl⟩
                rw [hwq]
                have HBq := Lib.hid (hB.out.trans (show Ext wo wq by rw [← hwq]; exact ext_drewN (Ext.refl _) _))
                clear hwq hB hc hz0 HC2
                go_loopw [19] (fun v wz => ∃ j : Nat, 1 ≤ j ∧ j ≤ lx ∧ v = .int .i64 j ∧ Hid (Ext wc wz)) (fun v _ => lx - (intOf v).toNat)
                case atStart => exact ⟨1, by omega, by omega, rfl, HBq⟩
                case round =>
                  obtain ⟨j, hj1, hj, rfl, hBz⟩ := hrel
                  obtain ⟨_, _, Az, cz, he, hcz, hHz, _⟩ := heldRows_get HS6.out hBz.out HXS.out.2.1
                  cases he
                  rw [HXS.out.1] at hcz
                  by_cases hjl : j < lx
                  · have hjlz : (j : Int) < (lx : Int) := by omega
                    obtain ⟨b4, off4, rfl, hc4⟩ : ∃ b4 off4, Az = some ⟨b4, off4, none⟩ ∧ ∀ k, k < xs.length → wr.cell? ⟨b4, off4 + k, none⟩ = some (.int .i64 (xs.getD k 0)) := by
                      rcases hHz with e | ⟨b4, off4, rfl, _, hq⟩
                      · have := HXS.out.1; rw [e] at this; simp at this; omega
                      · refine ⟨b4, off4, rfl, fun k hk => ?_⟩
                        have := hq k _ (List.getElem?_eq_getElem hk) 0 _ rfl
                        simpa [List.getElem?_eq_getElem hk] using this
                    have hlx := HXS.out.1
                    have cj := hc4 j (by omega)
                    have cj1 := hc4 (j - 1) (by omega)
                    have c0 := hc4 0 (by omega)
                    have hsrt : xs.getD (j - 1) 0 < xs.getD j 0 := by
                      have hp := listTo_sorted2 (goesC (tableOf Wd ss ds true) (ss.length + 2) a) 12
                      rw [← HXS.out.2.2.1, List.pairwise_iff_getElem] at hp
                      have := hp (j - 1) j (by omega) (by omega) (by omega)
                      simpa [List.getElem?_eq_getElem (show j - 1 < xs.length by omega), List.getElem?_eq_getElem (show j < xs.length by omega)] using this
                    have hgr : groupIx GP (xs.getD j 0) = groupIx GP (xs.getD 0 0) := by
                      have hm : xs.getD j 0 ∈ listTo (goesC (tableOf Wd ss ds true) (ss.length + 2) a) 12 := by
                        rw [← HXS.out.2.2.1, List.getD_eq_getElem?_getD, List.getElem?_eq_getElem (show j < xs.length by omega)]
                        exact List.getElem_mem _
                      obtain ⟨t, _, ht, e⟩ := mem_listTo2.1 hm
                      have ha := HXS.out.2.2.2.2
                      have htm := (HEQ.out true).lt a t ha ht
                      rw [e, HXS.out.2.2.2.1, ← HG.out.2.1]
                      exact (groupIx_same (HEQ.out false) ha htm (goes_wider HH.out.1 ha ht)).symm
                    rw [HY0.out] at c0 hgr
                    obtain ⟨yj, hyj⟩ : ∃ yj, xs.getD j 0 = yj := ⟨_, rfl⟩
                    obtain ⟨yk, hyk⟩ : ∃ yk, xs.getD (j - 1) 0 = yk := ⟨_, rfl⟩
                    rw [hyj] at cj hsrt hgr
                    rw [hyk] at cj1 hsrt
                    have so : decide (yj ≤ yk) = false := decide_eq_false (by omega)
                    obtain ⟨j', hj'⟩ : ∃ j', j = j' + 1 := ⟨j - 1, by omega⟩
                    rw [show j - 1 = j' from by omega] at cj1
                    have v1 : IntKind.i64.wrap ((j : Int) - 1) = (j : Int) - 1 := IntWalk.i64_in _ (by omega)
                    have v2 : (0 : Int) ≤ (j : Int) - 1 := by omega
                    have v3 : (j : Int) - 1 < (lx : Int) := by omega
                    have v4 : ((j : Int) - 1).toNat = j' := by omega
                    rw [Nat.add_zero] at c0
                    have qA := fun n0 => Calls.quiet_of (w := wr) (n := n0) (CGI.out yj (wr.drewN n0) (ext_drewN hBz.out n0))
                    have qB := fun n0 => Calls.quiet_of (w := wr) (n := n0) (CGI.out y0 (wr.drewN n0) (ext_drewN hBz.out n0))
                    rw [hgr] at qA
                    obtain ⟨gi, hgi⟩ : ∃ gi, groupIx GP y0 = gi := ⟨_, rfl⟩
                    rw [hgi] at qA qB
                    clear hgr hyj hyk hj' hgi hHz hc4 hsrt hlx
                    go_wp2
                    go_quiet (((go_at_call 54; first | (with_reducible exact qA _) | (with_reducible exact qB _))))
                    have HBy := Lib.hid (hBz.out.trans (show Ext wr (wr.drewN nq) from ext_drewN (Ext.refl _) _))
                    clear qA qB cj cj1 c0 hcz hBz
                    go_wp2
                    go_roundw
                    case measure => simp [intOf]; omega
                    case rel => exact ⟨j + 1, by omega, by omega, by go_num, HBy⟩
                  · have hjlz : ¬ (j : Int) < (lx : Int) := by omega
                    clear hHz
                    go_wp2
                    go_roundw
                    case measure => simp [intOf]; omega
                    case rel => exact ⟨i + 1, by omega, by go_num, hBz⟩
            · have hilz : ¬ (i : Int) < (ls : Int) := by omega
              have t1 : one = (((one + 2).toNat : Nat) : Int) - 2 := by omega
              have t2 : two = (((two + 2).toNat : Nat) : Int) - 2 := by omega
              have k1 : (one + 2).toNat < ss.length + 2 := by have := HN.out.1; omega
              have k2 : (two + 2).toNat < ss.length + 2 := by have := HN.out.1; omega
              have hHP := HP6.out.ext hB.out
              have hHS := HS6.out.ext hB.out
              have cM : ∀ q : Int, Calls Try.prog 53 #[.slice Ap lp cp, .int .i64 q] wo fun e w' => e = .returned (.int .i64 (manyOf GP q : Nat)) ∧ w' = wo := fun q => many_any Ap lp cp GP q wo HG.out.2.2.2.symm (by omega) (fun xs hxs => by obtain ⟨i, hi⟩ := List.getElem?_of_mem hxs; obtain ⟨_, _, _, _, _, _, hl⟩ := gs_each (HEQ.out false) (i := i) (xs := xs) (by rw [HG.out.2.1]; exact hi); omega) hHP
              have cI : ∀ q : Int, Calls Try.prog 54 #[.slice Ap lp cp, .int .i64 q] wo fun e w' => e = .returned (.int .i64 (groupIx GP q)) ∧ w' = wo := fun q => group_any Ap lp cp GP q wo HG.out.2.2.2.symm (by omega) hHP
              have cJ : ∀ q : Int, Calls Try.prog 54 #[.slice As ls cs, .int .i64 q] wo fun e w' => e = .returned (.int .i64 (groupIx GS q)) ∧ w' = wo := fun q => group_any As ls cs GS q wo HG.out.2.2.1.symm (by omega) hHS
              have m1 : manyOf GP one = if thereB (sizes ds) (one + 2).toNat = true then 1 else 0 := by have := many_all (HEQ.out false) k1; rw [← t1, HG.out.2.1] at this; exact this
              have m2 : manyOf GP two = if thereB (sizes ds) (two + 2).toNat = true then 1 else 0 := by have := many_all (HEQ.out false) k2; rw [← t2, HG.out.2.1] at this; exact this
              have cM1 := cM one
              have cM2 := cM two
              have cI1 := cI one
              have cI2 := cI two
              have cJ1 := cJ one
              have cJ2 := cJ two
              rw [m1] at cM1
              rw [m2] at cM2
              have HE := Lib.hid (HE0.out.trans (E6.out.trans hB.out))
              have hno : (thereB (sizes ds) (one + 2).toNat = false ∨ thereB (sizes ds) (two + 2).toNat = false) → gS = false ∧ gP = false := fun h => by
                refine ⟨?_, ?_⟩
                · rw [← HF.out.1]
                  cases hq : goesC (tableOf Wd ss ds true) (ss.length + 2) (one + 2).toNat (two + 2).toNat with
                  | false => rfl
                  | true => exact absurd (no_way (sure := true) HH.out.2 h) ((outs_goes HH.out.2).2 hq)
                · rw [← HF.out.2.1]
                  cases hq : goesC (tableOf Wd ss ds false) (ss.length + 2) (one + 2).toNat (two + 2).toNat with
                  | false => rfl
                  | true => exact absurd (no_way (sure := false) HH.out.2 h) ((outs_goes HH.out.2).2 hq)
              have xS : thereB (sizes ds) (one + 2).toNat = true → thereB (sizes ds) (two + 2).toNat = true → (groupIx GS one = groupIx GS two ↔ gS = true) := fun a b => by have := groupIx_iff (HEQ.out true) k1 k2 a b; rw [← t1, ← t2, HG.out.1, HF.out.1] at this; exact this
              have xP : thereB (sizes ds) (one + 2).toNat = true → thereB (sizes ds) (two + 2).toNat = true → (groupIx GP one = groupIx GP two ↔ gP = true) := fun a b => by have := groupIx_iff (HEQ.out false) k1 k2 a b; rw [← t1, ← t2, HG.out.2.1, HF.out.2.1] at this; exact this
              obtain ⟨T1, hT1⟩ : ∃ T1, thereB (sizes ds) (one + 2).toNat = T1 := ⟨_, rfl⟩
              obtain ⟨T2, hT2⟩ : ∃ T2, thereB (sizes ds) (two + 2).toNat = T2 := ⟨_, rfl⟩
              rw [hT1] at cM1 hno xS xP
              rw [hT2] at cM2 hno xS xP
              have f5 : ∀ {g : Bool} {f : Int}, (if g then (0 : Int) else 5) = f → g = false → f = 5 := fun h hg => by rw [hg] at h; exact h.symm
              have f0 : ∀ {g : Bool} {f : Int}, (if g then (0 : Int) else 5) = f → g = true → f = 0 := fun h hg => by rw [hg] at h; exact h.symm
              have HNO := Lib.hid hno
              have HXS := Lib.hid (And.intro xS xP)
              obtain ⟨iS, hiS⟩ : ∃ iS, groupIx GS one = iS := ⟨_, rfl⟩
              obtain ⟨jS, hjS⟩ : ∃ jS, groupIx GS two = jS := ⟨_, rfl⟩
              obtain ⟨iP, hiP⟩ : ∃ iP, groupIx GP one = iP := ⟨_, rfl⟩
              obtain ⟨jP, hjP⟩ : ∃ jP, groupIx GP two = jP := ⟨_, rfl⟩
              rw [hiS] at cJ1 xS
              rw [hjS] at cJ2 xS
              rw [hiP] at cI1 xP
              rw [hjP] at cI2 xP
              have HXX := Lib.hid (And.intro xS xP)
              clear t1 t2 k1 k2 hHP hHS cM cI cJ m1 m2 hno xS xP hT1 hT2 hiS hjS hiP hjP HXS hB
              go_upto_region 30 with fail
              cases T1 with
              | false =>
                obtain ⟨g1, g2⟩ := HNO.out (.inl rfl)
                obtain rfl : fS = 5 := f5 HF.out.2.2.1 g1
                obtain rfl : fP = 5 := f5 HF.out.2.2.2 g2
                rw [if_neg (by simp)] at cM1
                clear f5 f0 g1 g2
                go_wp2_with fail
                refine cM1.mono ?_
                rintro e w' ⟨rfl, rfl⟩
                go_wp2_with fail
                refine (works_any _).mono ?_
                rintro e v9 ⟨rfl, f9⟩
                go_wp2
                go_ret
                exact ⟨rfl, HE.out.trans f9⟩
              | true =>
                rw [if_pos rfl] at cM1
                cases T2 with
                | false =>
                  obtain ⟨g1, g2⟩ := HNO.out (.inr rfl)
                  obtain rfl : fS = 5 := f5 HF.out.2.2.1 g1
                  obtain rfl : fP = 5 := f5 HF.out.2.2.2 g2
                  rw [if_neg (by simp)] at cM2
                  clear f5 f0 g1 g2
                  go_wp2_with fail
                  refine cM1.mono ?_
                  rintro e w' ⟨rfl, rfl⟩
                  go_wp2_with fail
                  refine cM2.mono ?_
                  rintro e w' ⟨rfl, rfl⟩
                  go_wp2_with fail
                  refine (works_any _).mono ?_
                  rintro e v9 ⟨rfl, f9⟩
                  go_wp2
                  go_ret
                  exact ⟨rfl, HE.out.trans f9⟩
                | true =>
                  rw [if_pos rfl] at cM2
                  have HX2 := Lib.hid (And.intro (HXX.out.1 rfl rfl) (HXX.out.2 rfl rfl))
                  clear HXX HNO
                  go_wp2_with fail
                  refine cM1.mono ?_
                  rintro e w' ⟨rfl, rfl⟩
                  go_wp2_with fail
                  refine cM2.mono ?_
                  rintro e w' ⟨rfl, rfl⟩
                  cases hcS : gS with
                  | true =>
                    have hcP := HSP.out hcS
                    obtain rfl : fS = 0 := f0 HF.out.2.2.1 hcS
                    obtain rfl : fP = 0 := f0 HF.out.2.2.2 hcP
                    obtain rfl : iS = jS := HX2.out.1.2 hcS
                    obtain rfl : iP = jP := HX2.out.2.2 hcP
                    clear hcS hcP f5 f0
                    go_wp2_with fail
                    refine cJ1.mono ?_
                    rintro e w' ⟨rfl, rfl⟩
                    go_wp2_with fail
                    refine cJ2.mono ?_
                    rintro e w' ⟨rfl, rfl⟩
                    go_wp2_with fail
                    refine cI1.mono ?_
                    rintro e w' ⟨rfl, rfl⟩
                    go_wp2_with fail
                    refine cI2.mono ?_
                    rintro e w' ⟨rfl, rfl⟩
                    go_wp2_with fail
                    refine (works_any _).mono ?_
                    rintro e v9 ⟨rfl, f9⟩
                    go_wp2
                    go_ret
                    exact ⟨rfl, HE.out.trans f9⟩
                  | false =>
                    obtain rfl : fS = 5 := f5 HF.out.2.2.1 hcS
                    have n1 : (iS == jS) = false := by rw [beq_eq_false_iff_ne]; intro e; rw [HX2.out.1.1 e] at hcS; cases hcS
                    cases hcP : gP with
                    | true =>
                      obtain rfl : fP = 0 := f0 HF.out.2.2.2 hcP
                      obtain rfl : iP = jP := HX2.out.2.2 hcP
                      clear hcS hcP f5 f0
                      go_wp2_with fail
                      refine cJ1.mono ?_
                      rintro e w' ⟨rfl, rfl⟩
                      go_wp2_with fail
                      refine cJ2.mono ?_
                      rintro e w' ⟨rfl, rfl⟩
                      go_wp2_with fail
                      refine cI1.mono ?_
                      rintro e w' ⟨rfl, rfl⟩
                      go_wp2_with fail
                      refine cI2.mono ?_
                      rintro e w' ⟨rfl, rfl⟩
                      go_wp2_with fail
                      refine (works_any _).mono ?_
                      rintro e v9 ⟨rfl, f9⟩
                      go_wp2
                      go_ret
                      exact ⟨rfl, HE.out.trans f9⟩
                    | false =>
                      obtain rfl : fP = 5 := f5 HF.out.2.2.2 hcP
                      have n2 : (iP == jP) = false := by rw [beq_eq_false_iff_ne]; intro e; rw [HX2.out.2.1 e] at hcP; cases hcP
                      clear hcS hcP f5 f0
                      go_wp2_with fail
                      refine cJ1.mono ?_
                      rintro e w' ⟨rfl, rfl⟩
                      go_wp2_with fail
                      refine cJ2.mono ?_
                      rintro e w' ⟨rfl, rfl⟩
                      go_wp2_with fail
                      refine cI1.mono ?_
                      rintro e w' ⟨rfl, rfl⟩
                      go_wp2_with fail
                      refine cI2.mono ?_
                      rintro e w' ⟨rfl, rfl⟩
                      go_wp2_with fail
                      refine (works_any _).mono ?_
                      rintro e v9 ⟨rfl, f9⟩
                      go_wp2
                      go_ret
                      exact ⟨rfl, HE.out.trans f9⟩
end
end Go.Proofs.Ytckndnaohggmhaa
