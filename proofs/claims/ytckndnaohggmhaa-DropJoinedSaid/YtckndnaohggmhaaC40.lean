/- Texts of the package drop, joined: RefWay, RefCheckWay, DropWaysLast, DropWays. -/
import Derived.Test.YtckndnaohggmhaaC13
import Derived.Test.YtckndnaohggmhaaC15
import Derived.Test.YtckndnaohggmhaaC37
import Derived.Test.YtckndnaohggmhaaC38
import Derived.Deep.Cut
import Derived.StillTailTactics
import Derived.IntWalk
/- The reference's Way: the walk. -/
namespace Go.Proofs.Ytckndnaohggmhaa
open Go.RowKit Go.Shelf

section
variable {w : World} {Wd : Int} {A : Option Addr} {n c : Nat} {A' : Option Addr} {n' c' : Nat} {ss : List (Int × Int)} {ds : List (Int × Int × Int)}

set_option maxRecDepth 100000 in
set_option maxHeartbeats 4000000 in
theorem way_ref_ok (k1 k2 : Nat) (sure : Bool) (hb : IsBath w w.heap.size A n c A' n' c' ss ds) (he : forErr Wd ss ds ((k1 : Int) - 2) ((k2 : Int) - 2) = 0) :
    Calls Try.prog 30 #[.agg #[.int .i64 Wd, .slice A n c, .slice A' n' c'], .int .i64 ((k1 : Int) - 2), .int .i64 ((k2 : Int) - 2), .bool sure] w (WayIs Wd ss ds ((k1 : Int) - 2) ((k2 : Int) - 2) sure w) := by
  obtain ⟨h0, h1, h2, h3⟩ := forErr_ok he
  have hX0 : BathAt (w.alloc (.cells #[.int .i64 Wd, .slice A n c, .slice A' n' c'] 25)) w.heap.size Wd A n c A' n' c' ss ds := BathAt.new hb
  have hE0 : Ext w (w.alloc (.cells #[.int .i64 Wd, .slice A n c, .slice A' n' c'] 25)) := ext_alloc w _
  have hn10 : n ≤ 10 := by have := (bath_ok h0).2.1.1; have := hb.nss; omega
  have cP : ∀ W : World, IsBath W W.heap.size A n c A' n' c' ss ds → _ := fun W h => places_ref (Wd := Wd) ((k1 : Int) - 2) ((k2 : Int) - 2) h
  have cS : ∀ W : World, IsBath W W.heap.size A n c A' n' c' ss ds → _ := fun W h => steps_ref (Wd := Wd) k2 sure h0 h (by omega) ((k2 : Int) - 2) (by omega)
  have cH : ∀ i k : Nat, i < n + 2 → k < n + 2 → i ≠ k → ∀ W : World, IsBath W W.heap.size A n c A' n' c' ss ds → Calls Try.prog 91 #[.agg #[.int .i64 Wd, .slice A n c, .slice A' n' c'], .int .i64 ((i : Int) - 2), .int .i64 ((k : Int) - 2), .bool sure] W fun e w' => e = .returned (.bool (tableOf Wd ss ds sure i k)) ∧ Ext W w' := fun i k hi hk hik W h => by
    have := holds_ref (Wd := Wd) ((i : Int) - 2) ((k : Int) - 2) sure (bath_few h0) h (by omega) (by omega) (by omega) (by omega) (by omega)
    rw [table_holds (by rw [← hb.nss]; exact hi) (by rw [← hb.nss]; exact hk) hik] at this
    exact this
  rw [he] at cP
  have hansE : ∀ (e : Ending) (w' : World), Ext w w' → outs (tableOf Wd ss ds sure) (ss.length + 2) k2 (ss.length + 1) k1 = 0 → e = .returned (.tuple #[.slice none 0 0, .int .i64 5]) → WayIs Wd ss ds ((k1 : Int) - 2) ((k2 : Int) - 2) sure w e w' := fun e w' a1 a2 a3 => by
    refine ⟨a1, .inr (.inl ⟨he, ?_, a3⟩)⟩
    rw [show ((k1 : Int) - 2 + 2).toNat = k1 from by omega, show ((k2 : Int) - 2 + 2).toNat = k2 from by omega]
    exact a2
  have hansW : ∀ (w' : World) (v : Value), Ext w w' → outs (tableOf Wd ss ds sure) (ss.length + 2) k2 (ss.length + 1) k1 ≠ 0 → (∃ base, MadeInts base (nums (wayOf (tableOf Wd ss ds sure) (ss.length + 2) k1 k2)) w' v) → WayIs Wd ss ds ((k1 : Int) - 2) ((k2 : Int) - 2) sure w (.returned (.tuple #[v, .int .i64 0])) w' := fun w' v a1 a2 a3 => by
    obtain ⟨base, a3⟩ := a3
    obtain ⟨A2, c2, rfl, hc2, hH⟩ := madeInts_held a3
    refine ⟨a1, .inr (.inr ⟨he, ?_, A2, wayOf (tableOf Wd ss ds sure) (ss.length + 2) k1 k2, c2, ?_, ?_, hH, ?_⟩)⟩
    · rw [show ((k1 : Int) - 2 + 2).toNat = k1 from by omega, show ((k2 : Int) - 2 + 2).toNat = k2 from by omega]
      exact a2
    · rw [List.length_map]
    · rw [List.length_map] at hc2; exact hc2
    · rw [show ((k1 : Int) - 2 + 2).toNat = k1 from by omega, show ((k2 : Int) - 2 + 2).toNat = k2 from by omega]
  obtain ⟨ans, hans⟩ : ∃ ans, WayIs Wd ss ds ((k1 : Int) - 2) ((k2 : Int) - 2) sure w = ans := ⟨_, rfl⟩
  rw [hans] at hansE hansW ⊢
  obtain ⟨T, hT⟩ : ∃ T, tableOf Wd ss ds sure = T := ⟨_, rfl⟩
  rw [hT] at cH cS hansE hansW
  obtain ⟨m, hm⟩ : ∃ m, ss.length + 2 = m := ⟨_, rfl⟩
  have hm1 : ss.length + 1 = m - 1 := by omega
  have hmn : n + 2 = m := by have := hb.nss; omega
  rw [hm] at cS hansE hansW
  rw [hm1] at cS hansE hansW
  rw [hmn] at cH
  have hk1 : k1 < m := by omega
  have hk2 : k2 < m := by omega
  have HMN := Lib.hid (And.intro hmn hn10)
  have CH := Lib.hid cH
  have HANSE := Lib.hid hansE
  have HANSW := Lib.hid hansW
  clear hT hans hansE hansW hm hm1 h0 hb cH hmn he h1 h2 h3 hn10
  obtain ⟨i0, hi, hz0, hz1, hz2⟩ := info_parts info3
  have HI := Lib.hid hi
  have HZ0 := Lib.hid hz0
  have HZ1 := Lib.hid hz1
  have HZ2 := Lib.hid hz2
  clear hi hz0 hz1 hz2
  obtain ⟨O, hO⟩ : ∃ O, outs T m k2 (m - 1) = O := ⟨_, rfl⟩
  rw [hO] at cS
  have HO := Lib.hid hO
  clear hO
  have hk1z : (k1 : Int) < (m : Int) := by omega
  have hk1b : (k1 : Int) ≤ 12 := by have := HMN.out; omega
  have hk1e : (k1 : Int) - 2 + 2 = (k1 : Int) := by omega
  have HK1 := Lib.hid hk1e
  clear hk1e
  by_cases hz : O k1 = 0
  · have hno : outs T m k2 (m - 1) k1 = 0 := by rw [HO.out]; exact hz
    have HNO := Lib.hid hno
    have hr0 : ∀ (W : World) (g : Nat), W.heap[g]? = some (.cells (outCells O m) 3 (0, 0)) → W.cell? ⟨g, k1, none⟩ = some (.int .i64 0) := fun W g h => by
      have := (cell_of_row _ _ k1 _ _ _ h).trans (outCells_get _ hk1)
      rw [hz] at this
      exact this
    clear hz hno
    have hk1e := HK1.out
    go_enter Try.func30, Try.ntmps30
    go_wp2_with fail
    refine (cP _ hX0.bath).mono ?_
    rintro e w1 ⟨rfl, hb1⟩
    have hX1 := hX0.ext hb1
    have hE1 := hE0.trans hb1
    clear hX0 hE0 hb1
    obtain ⟨q0, q1, q2⟩ := hX1.cells
    go_wp2_with fail
    refine (cS _ hX1.bath).mono ?_
    rintro e w2 ⟨g, rfl, e2, hg, r2⟩
    have hc := hr0 _ _ r2
    have hE2 := Lib.hid (hE1.trans e2)
    clear hX1 hE1 e2 q0 q1 q2 cP cS r2 hr0
    go_wp2
    exact HANSE.out _ _ hE2.out HNO.out rfl
  · have hyes : outs T m k2 (m - 1) k1 ≠ 0 := by rw [HO.out]; exact hz
    have HYES := Lib.hid hyes
    have hr0 : ∀ (W : World) (g : Nat), W.heap[g]? = some (.cells (outCells O m) 3 (0, 0)) → W.cell? ⟨g, k1, none⟩ = some (.int .i64 (O k1)) := fun W g h => (cell_of_row _ _ k1 _ _ _ h).trans (outCells_get _ hk1)
    have hzz : (((O k1 : Nat) : Int) == 0) = false := by simp [hz]
    obtain ⟨x, hx⟩ : ∃ x : Int, ((O k1 : Nat) : Int) = x := ⟨_, rfl⟩
    rw [hx] at hzz hr0
    clear hz hyes hx
    have hk1e := HK1.out
    go_enter Try.func30, Try.ntmps30
    go_wp2_with fail
    refine (cP _ hX0.bath).mono ?_
    rintro e w1 ⟨rfl, hb1⟩
    have hX1 := hX0.ext hb1
    have hE1 := hE0.trans hb1
    clear hX0 hE0 hb1
    obtain ⟨q0, q1, q2⟩ := hX1.cells
    go_wp2_with fail
    refine (cS _ hX1.bath).mono ?_
    rintro e w2 ⟨g, rfl, e2, hg, r2⟩
    have hc := hr0 _ _ r2
    have HX2 := Lib.hid (hX1.ext e2)
    have hE2 := Lib.hid (hE1.trans e2)
    have R2 := Lib.hid r2
    clear hX1 hE1 e2 q0 q1 q2 cP cS r2 hr0 hg
    go_upto_region 7 with fail
    obtain ⟨w3, hw3, m3, e3⟩ : ∃ w3, w2.alloc (.cells #[.int .i64 ((k1 : Int) - 2)] 3) = w3 ∧ MadeInts w2.heap.size [(k1 : Int) - 2] w3 (.slice (some ⟨w2.heap.size, 0, none⟩) 1 1) ∧ Ext w2 w3 := ⟨_, rfl, made_one _ _ (Nat.le_refl _), ext_alloc _ _⟩
    rw [hw3]
    clear hw3 hc hk1e hzz
    generalize Value.slice (some ⟨w2.heap.size, 0, none⟩) 1 1 = v3 at m3 ⊢
    obtain ⟨B, hB⟩ : ∃ B, w2.heap.size = B := ⟨_, rfl⟩
    rw [hB] at m3
    have HB0 := Lib.hid hB
    have M3 := Lib.hid m3
    have E3 := Lib.hid e3
    clear hB m3 e3
    have eB := E3.out.size
    go_wp2
    go_loopw [11, 12, 13, 14] (fun v a _ _ wr => ∃ (pre : List Nat) (i : Nat), a = .int .i64 ((i : Int) - 2) ∧ Hid (OnWay T m k2 (wayOf T m k1 k2) pre i) ∧ Hid (Ext w2 wr) ∧ Hid (MadeInts B (nums (pre ++ [i])) wr v)) (fun _ a _ _ _ => O (intOf a + 2).toNat)
    case atStart => exact ⟨[], k1, rfl, Lib.hid (OnWay.start (by have := HMN.out; omega) hk1 HYES.out), E3, M3⟩
    case round =>
      obtain ⟨pre, i, rfl, hW, hB, hM⟩ := hrel
      have hi := hW.out.lt
      have hiz : (i : Int) < (m : Int) := by omega
      have hib : (i : Int) ≤ 12 := by have := HMN.out; omega
      by_cases hit : i = k2
      · have hitz : ((i : Int) - 2 != (k2 : Int) - 2) = false := by simp [hit]
        have hw := hW.out
        rw [hit] at hw
        have hm := hM.out
        rw [hit, ← hw.stop] at hm
        have hM2 := Lib.hid (Exists.intro B hm : ∃ base, MadeInts base _ wr _)
        clear hit hw hW hM hm
        go_wp2
        exact HANSW.out _ _ (hE2.out.trans hB.out) HYES.out hM2.out
      · have hitz : ((i : Int) - 2 != (k2 : Int) - 2) = true := by simp; omega
        obtain ⟨hm1, hm2, hm3⟩ := hW.out.more hit
        rw [HO.out] at hm1 hm2 hm3
        have HN1 := Lib.hid hm1
        have HN2 := Lib.hid hm2
        have HN3 := Lib.hid hm3
        clear hm1 hm2 hm3 hit
        obtain ⟨wo, rfl⟩ : ∃ wo : World, wo = wr := ⟨_, rfl⟩
        go_wp2
        go_loopw [13, 14] (fun x p wr => ∃ k : Nat, k ≤ m ∧ p = .int .i64 ((k : Int) - 2) ∧ x = .int .i64 (nextTo (nearP T O i) k) ∧ Hid (Ext wo wr)) (fun _ p _ => m - (intOf p + 2).toNat)
        case atStart => exact ⟨0, Nat.zero_le _, rfl, rfl, Lib.hid (Ext.refl _)⟩
        case round =>
          obtain ⟨k, hk, rfl, rfl, hC⟩ := hrel
          have hx := HX2.out.ext (hB.out.trans hC.out)
          obtain ⟨q0, q1, q2⟩ := hx.cells
          by_cases hlt : k < m
          · have hltz : (k : Int) - 2 < (n : Int) := by have := HMN.out; omega
            have hkz : (k : Int) < (m : Int) := by omega
            have hkb : (k : Int) ≤ 12 := by have := HMN.out; omega
            have hcK : wr.cell? ⟨g, k, none⟩ = some (.int .i64 (O k)) := (cell_of_row _ _ _ _ _ _ (row_ext R2.out (hB.out.trans hC.out))).trans (outCells_get _ hlt)
            have hcI : wr.cell? ⟨g, i, none⟩ = some (.int .i64 (O i)) := (cell_of_row _ _ _ _ _ _ (row_ext R2.out (hB.out.trans hC.out))).trans (outCells_get _ hi)
            obtain ⟨u, hu⟩ : ∃ u : Int, ((O k : Nat) : Int) = u := ⟨_, rfl⟩
            obtain ⟨v, hv⟩ : ∃ v : Int, ((O i : Nat) : Int) = v := ⟨_, rfl⟩
            have hOk : O k ≤ 13 := by rw [← HO.out]; have := outs_le (H := T) (n := m) (t := k2) (m - 1) k; have := HMN.out; omega
            have hOi : O i ≤ 13 := by rw [← HO.out]; have := outs_le (H := T) (n := m) (t := k2) (m - 1) i; have := HMN.out; omega
            have hu1 : 0 ≤ u := by omega
            have hu2 : u ≤ 13 := by omega
            have hv1 : 0 ≤ v := by omega
            have hv2 : v ≤ 13 := by omega
            rw [hu] at hcK
            rw [hv] at hcI
            have HU := Lib.hid hu
            have HV := Lib.hid hv
            have hnb := nextTo_bd (nearP T O i) k
            obtain ⟨nx, hnx⟩ : ∃ nx, nextTo (nearP T O i) k = nx := ⟨_, rfl⟩
            rw [hnx] at hnb ⊢
            obtain ⟨hnb1, hnb2⟩ := hnb
            have HNX := Lib.hid hnx
            have hke : (k : Int) - 2 + 2 = (k : Int) := by omega
            have hie : (i : Int) - 2 + 2 = (i : Int) := by omega
            clear hu hv hnx hOk hOi
            by_cases h3 : nx = -3
            · subst h3
              by_cases hki : k = i
              · have hkiz : ((k : Int) - 2 != (i : Int) - 2) = false := by simp [hki]
                have hN : Hid (nextTo (nearP T O i) (k + 1) = -3) := Lib.hid (by rw [nextTo_no (by simp [nearP, hki]), HNX.out])
                clear hki hx
                go_wp2
                go_quiet (fail)
                go_wp2
                go_roundw
                case measure => simp [intOf]; omega
                case rel => exact ⟨k + 1, by omega, by go_num, by rw [hN.out], Lib.hid (ext_drewN hC.out _)⟩
              · have hkiz : ((k : Int) - 2 != (i : Int) - 2) = true := by simp; omega
                by_cases huv : u = v - 1
                · have huvz : (u == v - 1) = true := by simp [huv]
                  by_cases hu0 : 0 < u
                  · have hP : Hid (nearP T O i k = T i k) := Lib.hid (by
                      have h1 : O k + 1 = O i := by have := HU.out; have := HV.out; omega
                      have h2 : O k ≠ 0 := by have := HU.out; omega
                      simp [nearP, hki, h1]; intro; omega)
                    have cC := fun W h => CH.out i k hi hlt (fun e => hki e.symm) W h
                    have HUV := Lib.hid huv
                    clear hki huv hx
                    cases hT : T i k with
                    | true =>
                      rw [hT] at cC
                      have hN : Hid (nextTo (nearP T O i) (k + 1) = (k : Int) - 2) := Lib.hid (nextTo_yes HNX.out (by rw [hP.out, hT]))
                      clear hT
                      have hwk : IntKind.i64.wrap (k : Int) = (k : Int) := IntWalk.i64_in _ (by omega)
                      have hwi : IntKind.i64.wrap (i : Int) = (i : Int) := IntWalk.i64_in _ (by omega)
                      have hwv : IntKind.i64.wrap (v - 1) = v - 1 := IntWalk.i64_in _ (by omega)
                      go_wp2
                      refine wp_region_still_tail 34 (by kernel_rfl) (by kernel_rfl) ?_
                      obtain ⟨wd, hwd, ed⟩ : ∃ wd : World, ({ wr with drawn := wr.drawn + 1 } : World) = wd ∧ Ext wr wd := ⟨_, rfl, (Below.refl _ wr).drew⟩
                      rw [hwd]
                      clear hwd
                      have hCd := hC.out.trans ed
                      clear hcK hcI q0 q1 q2
                      have hxd := HX2.out.ext (hB.out.trans hCd)
                      obtain ⟨q0, q1, q2⟩ := hxd.cells
                      have hcK : wd.cell? ⟨g, k, none⟩ = some (.int .i64 u) := by rw [← HU.out]; exact (cell_of_row _ _ _ _ _ _ (row_ext R2.out (hB.out.trans hCd))).trans (outCells_get _ hlt)
                      have hcI : wd.cell? ⟨g, i, none⟩ = some (.int .i64 v) := by rw [← HV.out]; exact (cell_of_row _ _ _ _ _ _ (row_ext R2.out (hB.out.trans hCd))).trans (outCells_get _ hi)
                      have HCd := Lib.hid hCd
                      have cD := cC wd hxd.bath
                      clear hxd hCd ed
                      simp only [List.take_succ_cons, List.take_zero, List.drop_succ_cons, List.drop_zero]
                      repeat still_step
                      refine wpStill_nil ?_
                      go_wp2_with fail
                      refine cD.mono ?_
                      rintro e w6 ⟨rfl, e6⟩
                      have hE6 := Lib.hid (HCd.out.trans e6)
                      clear e6 cD q0 q1 q2 hcK hcI
                      go_wp2
                      go_roundw
                      case measure => simp [intOf]; omega
                      case rel => exact ⟨k + 1, by omega, by go_num, by rw [hN.out], hE6⟩
                    | false =>
                      rw [hT] at cC
                      have hN : Hid (nextTo (nearP T O i) (k + 1) = -3) := Lib.hid (by rw [nextTo_no (by rw [hP.out, hT]), HNX.out])
                      clear hT
                      have hwk : IntKind.i64.wrap (k : Int) = (k : Int) := IntWalk.i64_in _ (by omega)
                      have hwi : IntKind.i64.wrap (i : Int) = (i : Int) := IntWalk.i64_in _ (by omega)
                      have hwv : IntKind.i64.wrap (v - 1) = v - 1 := IntWalk.i64_in _ (by omega)
                      go_wp2
                      refine wp_region_still_tail 34 (by kernel_rfl) (by kernel_rfl) ?_
                      obtain ⟨wd, hwd, ed⟩ : ∃ wd : World, ({ wr with drawn := wr.drawn + 1 } : World) = wd ∧ Ext wr wd := ⟨_, rfl, (Below.refl _ wr).drew⟩
                      rw [hwd]
                      clear hwd
                      have hCd := hC.out.trans ed
                      clear hcK hcI q0 q1 q2
                      have hxd := HX2.out.ext (hB.out.trans hCd)
                      obtain ⟨q0, q1, q2⟩ := hxd.cells
                      have hcK : wd.cell? ⟨g, k, none⟩ = some (.int .i64 u) := by rw [← HU.out]; exact (cell_of_row _ _ _ _ _ _ (row_ext R2.out (hB.out.trans hCd))).trans (outCells_get _ hlt)
                      have hcI : wd.cell? ⟨g, i, none⟩ = some (.int .i64 v) := by rw [← HV.out]; exact (cell_of_row _ _ _ _ _ _ (row_ext R2.out (hB.out.trans hCd))).trans (outCells_get _ hi)
                      have HCd := Lib.hid hCd
                      have cD := cC wd hxd.bath
                      clear hxd hCd ed
                      simp only [List.take_succ_cons, List.take_zero, List.drop_succ_cons, List.drop_zero]
                      repeat still_step
                      refine wpStill_nil ?_
                      go_wp2_with fail
                      refine cD.mono ?_
                      rintro e w6 ⟨rfl, e6⟩
                      have hE6 := Lib.hid (HCd.out.trans e6)
                      clear e6 cD q0 q1 q2 hcK hcI
                      go_wp2
                      go_roundw
                      case measure => simp [intOf]; omega
                      case rel => exact ⟨k + 1, by omega, by go_num, by rw [hN.out], hE6⟩
                  · have hu0z : decide (0 < u) = false := by simp [hu0]
                    have hN : Hid (nextTo (nearP T O i) (k + 1) = -3) := Lib.hid (by
                      have h2 : O k = 0 := by have := HU.out; omega
                      rw [nextTo_no (by simp [nearP, h2]), HNX.out])
                    have HUV := Lib.hid huv
                    clear hki huv hx
                    go_wp2
                    go_quiet (fail)
                    go_wp2
                    go_roundw
                    case measure => simp [intOf]; omega
                    case rel => exact ⟨k + 1, by omega, by go_num, by rw [hN.out], Lib.hid (ext_drewN hC.out _)⟩
                · have huvz : (u == v - 1) = false := by simp [huv]
                  have hN : Hid (nextTo (nearP T O i) (k + 1) = -3) := Lib.hid (by
                    have h1 : O k + 1 ≠ O i := by have := HU.out; have := HV.out; omega
                    rw [nextTo_no (by simp [nearP, h1]), HNX.out])
                  clear hki huv hx
                  go_wp2
                  go_quiet (fail)
                  go_wp2
                  go_roundw
                  case measure => simp [intOf]; omega
                  case rel => exact ⟨k + 1, by omega, by go_num, by rw [hN.out], Lib.hid (ext_drewN hC.out _)⟩
            · have h3z : (nx == -3) = false := by simp [h3]
              have hN : Hid (nextTo (nearP T O i) (k + 1) = nx) := Lib.hid (by rw [nextTo_found (by rw [HNX.out]; exact h3), HNX.out])
              clear h3 hx
              go_wp2
              go_quiet (fail)
              go_wp2
              go_roundw
              case measure => simp [intOf]; omega
              case rel => exact ⟨k + 1, by omega, by go_num, by rw [hN.out], Lib.hid (ext_drewN hC.out _)⟩
          · have hltz : ¬ (k : Int) - 2 < (n : Int) := by have := HMN.out; omega
            obtain rfl : k = m := by omega
            rw [HN1.out]
            clear hx
            obtain ⟨y, hy⟩ : ∃ y, nextOf T k O i = y := ⟨_, rfl⟩
            rw [hy] at HN2 HN3 ⊢
            have hyb : (y : Int) < 13 := by have := HN2.out.lt; have := HMN.out; omega
            have hO0 := (hM.out.ext hC.out).1
            have hL13 : (nums (pre ++ [i])).length ≤ 13 := by have := hW.out.long; simp; omega
            obtain ⟨L, hL⟩ : ∃ L, (nums (pre ++ [i])).length = L := ⟨_, rfl⟩
            rw [hL] at hO0 hL13
            have hO1 := Lib.hid hO0
            have HL := Lib.hid hL
            clear hL hO0
            have hE1 := Lib.hid (hB.out.trans hC.out)
            have hsz : B ≤ wr.heap.size := by have := HB0.out; have := hE1.out.size; omega
            clear hy hB hC hM hW
            go_wp2_with (first | (at_builtin; refine wpList_append_own _ rfl (.tmp 84) (.tmp 86) 42 rfl B 3 i0 (.int .i64 0) 1 8 Try.underlying42 HI.out HZ0.out HZ1.out HZ2.out rfl (by decide) _ L _ rfl (hO1.out.alloc _) ⟨wr.heap.size, 0, none⟩ 1 1 [.int .i64 ((y : Int) - 2)] rfl rfl (cell_one_new _ _ _) (one_cell' _) ?c3 ?c4 ?c5 ?_))
            case c3 => unfold maxLen; omega
            case c4 => omega
            case c5 => first | omega | (simp; omega)
            · intro v' w5 hown' hgrow _
              have hE5 : Hid (Ext w2 w5) := Lib.hid ((hE1.out.alloc hE1.out.size (.cells #[.int .i64 ((y : Int) - 2)] 3)).grown hgrow (by have := hE1.out.size; simp; omega) (fun b e => by have := (hO1.out.lt b e).1; have := HB0.out; omega))
              have hO5 : Hid (MadeInts B (nums (pre ++ [i] ++ [y])) w5 v') := Lib.hid ⟨by
                rw [nums_snoc (pre ++ [i]), List.length_append, List.map_append, HL.out]
                simpa using hown', fun e => by rw [nums_snoc] at e; simp at e⟩
              clear hown' hgrow hO1 hE1
              go_wp2
              go_roundw
              case measure =>
                show O ((y : Int) - 2 + 2).toNat < O ((i : Int) - 2 + 2).toNat
                rw [show ((y : Int) - 2 + 2).toNat = y from by omega, show ((i : Int) - 2 + 2).toNat = i from by omega]
                exact HN3.out
              case rel => exact ⟨pre ++ [i], y, rfl, Lib.hid HN2.out, hE5, hO5⟩
set_option maxRecDepth 100000 in
set_option maxHeartbeats 1000000 in
theorem way_ref (one two : Int) (sure : Bool) (hb : IsBath w w.heap.size A n c A' n' c' ss ds) :
    Calls Try.prog 30 #[.agg #[.int .i64 Wd, .slice A n c, .slice A' n' c'], .int .i64 one, .int .i64 two, .bool sure] w (WayIs Wd ss ds one two sure w) := by
  by_cases he : forErr Wd ss ds one two = 0
  · obtain ⟨_, _, h2, h3⟩ := forErr_ok he
    obtain ⟨k1, hk1⟩ := Int.eq_ofNat_of_zero_le (show 0 ≤ one + 2 by omega)
    obtain ⟨k2, hk2⟩ := Int.eq_ofNat_of_zero_le (show 0 ≤ two + 2 by omega)
    obtain rfl : one = (k1 : Int) - 2 := by omega
    obtain rfl : two = (k2 : Int) - 2 := by omega
    exact way_ref_ok k1 k2 sure hb he
  · have hX0 : BathAt (w.alloc (.cells #[.int .i64 Wd, .slice A n c, .slice A' n' c'] 25)) w.heap.size Wd A n c A' n' c' ss ds := BathAt.new hb
    have hE0 : Ext w (w.alloc (.cells #[.int .i64 Wd, .slice A n c, .slice A' n' c'] 25)) := ext_alloc w _
    have cP : ∀ W : World, IsBath W W.heap.size A n c A' n' c' ss ds → _ := fun W h => places_ref (Wd := Wd) one two h
    have hans : ∀ (w' : World), Ext w w' → WayIs Wd ss ds one two sure w (.returned (.tuple #[.slice none 0 0, .int .i64 (forErr Wd ss ds one two)])) w' := fun w' h => ⟨h, .inl ⟨he, rfl⟩⟩
    obtain ⟨ans, ha⟩ : ∃ ans, WayIs Wd ss ds one two sure w = ans := ⟨_, rfl⟩
    rw [ha] at hans ⊢
    generalize forErr Wd ss ds one two = r at he cP hans
    have hne2 : (r != 0) = true := by simpa using he
    have HANS := Lib.hid hans
    clear hb ha hans he
    go_enter Try.func30, Try.ntmps30
    go_wp2_with fail
    refine (cP _ hX0.bath).mono ?_
    rintro e w1 ⟨rfl, hb1⟩
    have hX1 := hX0.ext hb1
    have hE1 := Lib.hid (hE0.trans hb1)
    clear hX0 hE0 hb1
    obtain ⟨q0, q1, q2⟩ := hX1.cells
    go_wp2_with fail
    refine (cP _ hX1.bath).mono ?_
    rintro e w2 ⟨rfl, hb2⟩
    have hE2 := Lib.hid (hE1.out.trans hb2)
    clear hX1 hE1 hb2 q0 q1 q2 cP
    go_wp2
    exact HANS.out _ hE2.out
end
end Go.Proofs.Ytckndnaohggmhaa

/- The reference's CheckWay. -/
namespace Go.Proofs.Ytckndnaohggmhaa
open Go.RowKit Go.Shelf

theorem held_ext {w : World} {A : Option Addr} {xs : List Int} (hh : Held w w.heap.size 1 encI A xs) {W : World} (hB : Ext w W) {k : Nat} (hk : k < xs.length) : ∃ b off, A = some ⟨b, off, none⟩ ∧ W.cell? ⟨b, off + k, none⟩ = some (.int .i64 xs[k]) := held_get hh hB hk
theorem nodup_take_succ {xs : List Int} {k : Nat} (hk : k < xs.length) (h : (xs.take k).Nodup) (hn : ∀ j, (hj : j < k) → xs[k] ≠ xs[j]'(by omega)) : (xs.take (k + 1)).Nodup := by
  rw [List.take_succ_eq_append_getElem hk, List.nodup_append]
  refine ⟨h, by simp, fun a ha b hb => ?_⟩
  rw [List.mem_singleton] at hb
  subst hb
  obtain ⟨j, hj, e⟩ := List.getElem_of_mem ha
  rw [List.getElem_take] at e
  rw [List.length_take] at hj
  rw [← e]
  exact fun e2 => hn j (by omega) e2.symm
theorem all_take_succ {α : Type} (p : α → Bool) {xs : List α} {k : Nat} (hk : k < xs.length) (h : (xs.take k).all p = true) (hp : p xs[k] = true) : (xs.take (k + 1)).all p = true := by
  rw [List.take_succ_eq_append_getElem hk, List.all_append, h]
  simp [hp]
theorem all_no_at {α : Type} (p : α → Bool) {xs : List α} {k : Nat} (hk : k < xs.length) (hp : p xs[k] = false) : xs.all p = false := by
  rw [List.all_eq_false]
  exact ⟨xs[k], List.getElem_mem hk, by simp [hp]⟩

section
variable {w : World} {Wd : Int} {A : Option Addr} {n c : Nat} {A' : Option Addr} {n' c' : Nat} {ss : List (Int × Int)} {ds : List (Int × Int × Int)}

set_option maxRecDepth 100000 in
set_option maxHeartbeats 4000000 in
theorem checkWay_ref (L : Option Addr) (k d : Nat) (xs : List Int) (sure : Bool) (hb : IsBath w w.heap.size A n c A' n' c' ss ds) (hk : k = xs.length) (hkn : k ≤ 9223372036854775807) (hh : Held w w.heap.size 1 encI L xs) :
    Calls Try.prog 33 #[.agg #[.int .i64 Wd, .slice A n c, .slice A' n' c'], .slice L k d, .bool sure] w fun e w' => e = .returned (.int .i64 (checkWayAns Wd ss ds xs sure)) ∧ Ext w w' := by
  have hX0 : BathAt (w.alloc (.cells #[.int .i64 Wd, .slice A n c, .slice A' n' c'] 25)) w.heap.size Wd A n c A' n' c' ss ds := BathAt.new hb
  have hE0 : Ext w (w.alloc (.cells #[.int .i64 Wd, .slice A n c, .slice A' n' c'] 25)) := ext_alloc w _
  have cB : ∀ W : World, IsBath W W.heap.size A n c A' n' c' ss ds → _ := fun W h => checkBath_ref (Wd := Wd) h
  by_cases h0 : bathErr Wd ss ds = 0
  · rw [h0] at cB
    have hans : checkWayAns Wd ss ds xs sure = if inside 2 12 (k : Int) = true then if xs.all (placeB n) = true then if xs.Nodup then if wayB (tableOf Wd ss ds sure) xs = true then 0 else 17 else 15 else 2 else 6 := by
      unfold checkWayAns
      rw [if_pos h0, ← hb.nss, ← hk]
    have cH : ∀ x y : Int, placeB n x = true → placeB n y = true → x ≠ y → ∀ W : World, IsBath W W.heap.size A n c A' n' c' ss ds → Calls Try.prog 91 #[.agg #[.int .i64 Wd, .slice A n c, .slice A' n' c'], .int .i64 x, .int .i64 y, .bool sure] W fun e w' => e = .returned (.bool (tableOf Wd ss ds sure (x + 2).toNat (y + 2).toNat)) ∧ Ext W w' := fun x y hx hy hxy W h => by
      simp only [placeB, Bool.and_eq_true, decide_eq_true_eq] at hx hy
      have := holds_ref (Wd := Wd) x y sure (bath_few h0) h hx.1 hx.2 hy.1 hy.2 hxy
      have e := table_holds (Wd := Wd) (ss := ss) (ds := ds) (sure := sure) (i := (x + 2).toNat) (k := (y + 2).toNat) (by have := hb.nss; omega) (by have := hb.nss; omega) (by omega)
      rw [show (((x + 2).toNat : Nat) : Int) - 2 = x from by omega, show (((y + 2).toNat : Nat) : Int) - 2 = y from by omega] at e
      rw [e] at this
      exact this
    have cP : ∀ (x : Int) (W : World), Calls Try.prog 96 #[.agg #[.int .i64 Wd, .slice A n c, .slice A' n' c'], .int .i64 x] W fun e w' => e = .returned (.bool (placeB n x)) ∧ Ext W w' := fun x W => isPlace_ref (Wd := Wd) (A := A) (n := n) (c := c) (A' := A') (n' := n') (c' := c') x W
    obtain ⟨T, hT⟩ : ∃ T, tableOf Wd ss ds sure = T := ⟨_, rfl⟩
    rw [hT] at cH hans
    obtain ⟨ans, ha⟩ : ∃ ans, checkWayAns Wd ss ds xs sure = ans := ⟨_, rfl⟩
    rw [ha] at hans ⊢
    have HANS := Lib.hid hans
    have CH := Lib.hid cH
    have CP := Lib.hid cP
    have HK := Lib.hid hk
    have HH := Lib.hid hh
    clear hT ha hans cH cP hk hh hb h0
    by_cases hk2 : k < 2
    · have hk2z : (k : Int) < 2 := by omega
      obtain rfl : ans = 6 := by rw [HANS.out, if_neg (by simp [inside]; omega)]
      go_enter Try.func33, Try.ntmps33
      go_wp2_with fail
      refine (cB _ hX0.bath).mono ?_
      rintro e w1 ⟨rfl, hb1⟩
      have hE1 := Lib.hid (hE0.trans hb1)
      clear hX0 hE0 hb1 cB
      go_wp2
      go_ret
      exact ⟨rfl, hE1.out⟩
    by_cases hk12 : 12 < k
    · have hk2z : ¬ (k : Int) < 2 := by omega
      have hk12z : (12 : Int) < k := by omega
      obtain rfl : ans = 6 := by rw [HANS.out, if_neg (by simp [inside]; omega)]
      go_enter Try.func33, Try.ntmps33
      go_wp2_with fail
      refine (cB _ hX0.bath).mono ?_
      rintro e w1 ⟨rfl, hb1⟩
      have hE1 := Lib.hid (hE0.trans hb1)
      clear hX0 hE0 hb1 cB
      go_wp2
      go_ret
      exact ⟨rfl, hE1.out⟩
    have hk2z : ¬ (k : Int) < 2 := by omega
    have hk12z : ¬ (12 : Int) < k := by omega
    have HANS2 : Hid (ans = if xs.all (placeB n) = true then if xs.Nodup then if wayB T xs = true then 0 else 17 else 15 else 2) := Lib.hid (by rw [HANS.out, if_pos (by simp [inside]; omega)])
    clear HANS
    go_enter Try.func33, Try.ntmps33
    go_wp2_with fail
    refine (cB _ hX0.bath).mono ?_
    rintro e w1 ⟨rfl, hb1⟩
    have HX1 := Lib.hid (hX0.ext hb1)
    have HE1 := Lib.hid (hE0.trans hb1)
    clear hX0 hE0 hb1 cB
    go_wp2
    clear hk2z hk12z
    go_loopw [6, 7] (fun _ z wr => ∃ i : Nat, i ≤ k ∧ z = .int .i64 (i : Int) ∧ Hid (Ext w1 wr) ∧ Hid ((xs.take i).all (placeB n) = true)) (fun _ z _ => k - (intOf z).toNat)
    case atStart => exact ⟨0, Nat.zero_le _, rfl, Lib.hid (Ext.refl _), Lib.hid rfl⟩
    case round =>
      obtain ⟨i, hi, rfl, hB, hA⟩ := hrel
      by_cases hlt : i < k
      · have hltz : (i : Int) < (k : Int) := by omega
        have hil : i < xs.length := by rw [← HK.out]; exact hlt
        go_wp2
        refine wp_region_still_tail 5 (by kernel_rfl) (by kernel_rfl) ?_
        obtain ⟨wd, hwd, ed⟩ : ∃ wd : World, ({ wr with drawn := wr.drawn + 1 } : World) = wd ∧ Ext wr wd := ⟨_, rfl, (Below.refl _ wr).drew⟩
        rw [hwd]
        clear hwd
        have hBd := hB.out.trans ed
        obtain ⟨q0, q1, q2⟩ := (HX1.out.ext hBd).cells
        obtain ⟨b, off, rfl, hc⟩ := held_ext HH.out (HE1.out.trans hBd) hil
        obtain ⟨x, hx⟩ : ∃ x, xs[i] = x := ⟨_, rfl⟩
        rw [hx] at hc
        have HXI := Lib.hid hx
        have cC := CP.out x wd
        have HBd := Lib.hid hBd
        clear hx hBd ed hB
        simp only [List.take_succ_cons, List.take_zero, List.drop_succ_cons, List.drop_zero]
        repeat still_step
        refine wpStill_nil ?_
        cases hp : placeB n x with
        | true =>
          rw [hp] at cC
          have hA1 : Hid ((xs.take (i + 1)).all (placeB n) = true) := Lib.hid (all_take_succ _ hil hA.out (by rw [HXI.out]; exact hp))
          clear hp hA
          go_wp2_with fail
          refine cC.mono ?_
          rintro e w3 ⟨rfl, e3⟩
          have hE3 := Lib.hid (HBd.out.trans e3)
          clear e3 q0 q1 q2 hc cC
          go_wp2
          go_roundw
          case measure => simp [intOf]; omega
          case rel => exact ⟨i + 1, by omega, by go_num, hE3, hA1⟩
        | false =>
          rw [hp] at cC
          obtain rfl : ans = 2 := by rw [HANS2.out, if_neg (by rw [all_no_at (placeB n) hil (by rw [HXI.out]; exact hp)]; simp)]
          clear hp hA
          go_wp2_with fail
          refine cC.mono ?_
          rintro e w3 ⟨rfl, e3⟩
          have hE3 := Lib.hid (HE1.out.trans (HBd.out.trans e3))
          clear e3 q0 q1 q2 hc cC
          go_wp2
          go_ret
          exact ⟨rfl, hE3.out⟩
      · have hltz : ¬ (i : Int) < (k : Int) := by omega
        obtain rfl : i = k := by omega
        have hAll : xs.all (placeB n) = true := by
          have := hA.out
          rw [HK.out, List.take_length] at this
          exact this
        have HALL := Lib.hid hAll
        have HANS3 : Hid (ans = if xs.Nodup then if wayB T xs = true then 0 else 17 else 15) := Lib.hid (by rw [HANS2.out, if_pos hAll])
        clear hAll hA HANS2
        go_wp2
        have EB := hB
        clear hB hi hltz hlt
        go_loopw [6, 8, 9] (fun _ z _ wr => ∃ j : Nat, j ≤ i ∧ z = .int .i64 (j : Int) ∧ Hid (Ext w1 wr) ∧ Hid ((xs.take j).Nodup)) (fun _ z _ _ => i - (intOf z).toNat)
        case atStart => exact ⟨0, Nat.zero_le _, rfl, EB, Lib.hid List.nodup_nil⟩
        case round =>
          clear EB
          obtain ⟨j, hj, rfl, hB, hA⟩ := hrel
          by_cases hlt : j < i
          · have hltz : (j : Int) < (i : Int) := by omega
            have hjl : j < xs.length := by rw [← HK.out]; exact hlt
            go_wp2
            go_loopw [6, 9] (fun _ z wr => ∃ m : Nat, m ≤ j ∧ z = .int .i64 (m : Int) ∧ Hid (Ext w1 wr) ∧ Hid (∀ q, (hq : q < m) → (hl : q < xs.length) → xs[j] ≠ xs[q])) (fun _ z _ => j - (intOf z).toNat)
            case atStart => exact ⟨0, Nat.zero_le _, rfl, hB, Lib.hid (fun q hq => absurd hq (by omega))⟩
            case round =>
              clear hB
              obtain ⟨m, hm, rfl, hB, hN⟩ := hrel
              by_cases hmj : m < j
              · have hmjz : (m : Int) < (j : Int) := by omega
                have hmiz : (m : Int) < (i : Int) := by omega
                have hml : m < xs.length := by omega
                obtain ⟨b, off, rfl, hc⟩ := held_ext HH.out (HE1.out.trans hB.out) hjl
                obtain ⟨b', off', hbb, hc'⟩ := held_ext HH.out (HE1.out.trans hB.out) hml
                cases hbb
                obtain ⟨x, hx⟩ : ∃ x, xs[j] = x := ⟨_, rfl⟩
                obtain ⟨y, hy⟩ : ∃ y, xs[m] = y := ⟨_, rfl⟩
                rw [hx] at hc
                rw [hy] at hc'
                have HXY := Lib.hid (And.intro hx hy)
                clear hx hy
                by_cases hxy : x = y
                · have hxyz : (x == y) = true := by simp [hxy]
                  obtain rfl : ans = 15 := by
                    rw [HANS3.out, if_neg]
                    intro hnd
                    exact List.pairwise_iff_getElem.1 hnd m j hml hjl hmj (HXY.out.2.trans (hxy.symm.trans HXY.out.1.symm))
                  clear hxy
                  go_wp2
                  go_quiet (fail)
                  go_wp2
                  go_ret
                  exact ⟨rfl, HE1.out.trans (ext_drewN hB.out _)⟩
                · have hxyz : (x == y) = false := by simp [hxy]
                  have hN1 : Hid (∀ q, (hq : q < m + 1) → (hl : q < xs.length) → xs[j] ≠ xs[q]) := Lib.hid fun q hq hl => by
                    by_cases e : q = m
                    · subst e
                      rw [HXY.out.1, HXY.out.2]
                      exact hxy
                    · exact hN.out q (by omega) hl
                  clear hxy hN
                  go_wp2
                  go_quiet (fail)
                  go_wp2
                  go_roundw
                  case measure => simp [intOf]; omega
                  case rel => exact ⟨m + 1, by omega, by go_num, Lib.hid (ext_drewN hB.out _), hN1⟩
              · have hmjz : ¬ (m : Int) < (j : Int) := by omega
                obtain rfl : m = j := by omega
                have hA1 : Hid ((xs.take (m + 1)).Nodup) := Lib.hid (nodup_take_succ hjl hA.out fun q hq => hN.out q hq (by omega))
                clear hN hA
                go_wp2
                go_roundw
                case measure => simp [intOf]; omega
                case rel => exact ⟨m + 1, by omega, by go_num, hB, hA1⟩
          · have hltz : ¬ (j : Int) < (i : Int) := by omega
            have hND : xs.Nodup := by
              have := hA.out
              rw [show j = i from by omega, HK.out, List.take_length] at this
              exact this
            have HND := Lib.hid hND
            have HANS4 : Hid (ans = if wayB T xs = true then 0 else 17) := Lib.hid (by rw [HANS3.out, if_pos hND])
            clear hND hA HANS3
            go_wp2
            have EB := hB
            clear hB hltz hlt hj
            have hi2 : 2 ≤ i := by omega
            have hi12 : i ≤ 12 := by omega
            go_loopw [6, 10] (fun _ z wr => ∃ m : Nat, m + 1 ≤ i ∧ z = .int .i64 ((m : Int) + 1) ∧ Hid (Ext w1 wr) ∧ Hid (∀ q, q < m → T (xs.getD q 0 + 2).toNat (xs.getD (q + 1) 0 + 2).toNat = true)) (fun _ z _ => i - (intOf z).toNat)
            case atStart => exact ⟨0, by omega, rfl, EB, Lib.hid (fun q hq => absurd hq (by omega))⟩
            case round =>
              clear EB
              obtain ⟨m, hm, rfl, hB, hN⟩ := hrel
              by_cases hmi : m + 1 < i
              · have hmiz : (m : Int) + 1 < (i : Int) := by omega
                have hml : m < xs.length := by have := HK.out; omega
                have hml1 : m + 1 < xs.length := by have := HK.out; omega
                have hmz0 : (m : Int) < (i : Int) := by omega
                have hmb : (m : Int) ≤ 12 := by omega
                obtain ⟨x, hx⟩ : ∃ x, xs[m] = x := ⟨_, rfl⟩
                obtain ⟨y, hy⟩ : ∃ y, xs[m + 1] = y := ⟨_, rfl⟩
                have hpx : placeB n x = true := by rw [← hx]; exact List.all_eq_true.1 HALL.out _ (List.getElem_mem hml)
                have hpy : placeB n y = true := by rw [← hy]; exact List.all_eq_true.1 HALL.out _ (List.getElem_mem hml1)
                have hxy : x ≠ y := by
                  rw [← hx, ← hy]
                  exact List.pairwise_iff_getElem.1 HND.out m (m + 1) hml hml1 (by omega)
                have hg1 : xs.getD m 0 = x := by rw [← hx]; simp [List.getElem?_eq_getElem hml]
                have hg2 : xs.getD (m + 1) 0 = y := by rw [← hy]; simp [List.getElem?_eq_getElem hml1]
                have HG := Lib.hid (And.intro hg1 hg2)
                have cC := fun W h => CH.out x y hpx hpy hxy W h
                have hs1 : (m : Int) + 1 - 1 = (m : Int) := by omega
                have hw1 : IntKind.i64.wrap (m : Int) = (m : Int) := IntWalk.i64_in _ (by omega)
                have ht1 : ((m : Int) + 1).toNat = m + 1 := by omega
                have hm0 : (0 : Int) ≤ (m : Int) + 1 := by omega
                have hm1 : ¬ (m : Int) + 1 < 0 := by omega
                go_wp2
                refine wp_region_still_tail 11 (by kernel_rfl) (by kernel_rfl) ?_
                obtain ⟨wd, hwd, ed⟩ : ∃ wd : World, ({ wr with drawn := wr.drawn + 1 } : World) = wd ∧ Ext wr wd := ⟨_, rfl, (Below.refl _ wr).drew⟩
                rw [hwd]
                clear hwd
                have hBd := hB.out.trans ed
                have hxd := HX1.out.ext hBd
                obtain ⟨q0, q1, q2⟩ := hxd.cells
                obtain ⟨b, off, rfl, hc⟩ := held_ext HH.out (HE1.out.trans hBd) hml
                obtain ⟨b', off', hbb, hc'⟩ := held_ext HH.out (HE1.out.trans hBd) hml1
                cases hbb
                rw [hx] at hc
                rw [hy] at hc'
                have cD := cC wd hxd.bath
                have HBd := Lib.hid hBd
                clear hx hy hBd ed hB hxd cC hg1 hg2 hpx hpy hxy
                simp only [List.take_succ_cons, List.take_zero, List.drop_succ_cons, List.drop_zero]
                repeat still_step
                refine wpStill_nil ?_
                cases hT : T (x + 2).toNat (y + 2).toNat with
                | true =>
                  rw [hT] at cD
                  have hN1 : Hid (∀ q, q < m + 1 → T (xs.getD q 0 + 2).toNat (xs.getD (q + 1) 0 + 2).toNat = true) := Lib.hid fun q hq => by
                    by_cases e : q = m
                    · subst e
                      rw [HG.out.1, HG.out.2]
                      exact hT
                    · exact hN.out q (by omega)
                  clear hT hN
                  go_wp2_with fail
                  refine cD.mono ?_
                  rintro e w3 ⟨rfl, e3⟩
                  have hE3 := Lib.hid (HBd.out.trans e3)
                  clear e3 q0 q1 q2 hc hc' cD hs1 hw1 ht1
                  go_wp2
                  go_roundw
                  case measure => simp [intOf]; omega
                  case rel => exact ⟨m + 1, by omega, by go_num, hE3, hN1⟩
                | false =>
                  rw [hT] at cD
                  obtain rfl : ans = 17 := by
                    rw [HANS4.out, if_neg]
                    intro hw
                    have := List.all_eq_true.1 hw m (List.mem_range.2 (by omega))
                    rw [HG.out.1, HG.out.2, hT] at this
                    cases this
                  clear hT hN
                  go_wp2_with fail
                  refine cD.mono ?_
                  rintro e w3 ⟨rfl, e3⟩
                  have hE3 := Lib.hid (HE1.out.trans (HBd.out.trans e3))
                  clear e3 q0 q1 q2 hc hc' cD hs1 hw1 ht1
                  go_wp2
                  go_ret
                  exact ⟨rfl, hE3.out⟩
              · have hmiz : ¬ (m : Int) + 1 < (i : Int) := by omega
                obtain rfl : ans = 0 := by
                  rw [HANS4.out, if_pos (wayB_yes fun q hq => hN.out q (by have := HK.out; omega))]
                clear hN
                go_wp2
                go_ret
                exact ⟨rfl, HE1.out.trans hB.out⟩
  · have ha : checkWayAns Wd ss ds xs sure = bathErr Wd ss ds := by unfold checkWayAns; rw [if_neg h0]
    rw [ha]
    generalize bathErr Wd ss ds = r at h0 cB ⊢
    have hne2 : (r != 0) = true := by simpa using h0
    clear hb hh hk
    go_enter Try.func33, Try.ntmps33
    go_wp2_with fail
    refine (cB _ hX0.bath).mono ?_
    rintro e w1 ⟨rfl, hb1⟩
    have hX1 := hX0.ext hb1
    have hE1 := Lib.hid (hE0.trans hb1)
    clear hX0 hE0 hb1
    obtain ⟨q0, q1, q2⟩ := hX1.cells
    go_wp2_with fail
    refine (cB _ hX1.bath).mono ?_
    rintro e w2 ⟨rfl, hb2⟩
    go_wp2
    go_ret
    exact ⟨rfl, hE1.out.trans hb2⟩
end
end Go.Proofs.Ytckndnaohggmhaa

/- DropWays: what each operation of the last statement yields. -/
namespace Go.Proofs.Ytckndnaohggmhaa
open Go.RowKit Go.Shelf

/-- The slots. -/
def waysD (i : Nat) : Tmp := if i = 22 then 10 else 39 + i
/-- What each operation yields. -/
def waysV (Wd : Int) (A : Option Addr) (n c : Nat) (A' : Option Addr) (n' c' : Nat) (_ss : List (Int × Int)) (_ds : List (Int × Int × Int)) (A1 A2 L : Option Addr) (k1 a1 a2 k d _p : Nat) (er cw : Int) (sure : Bool) (ix : Nat) : Value :=
  match ix with
  | 0 => .slice A1 k1 a1
  | 1 => .slice A2 k1 a2
  | 4 => .int .i64 er
  | 5 => .int .i64 er
  | 9 => (.agg #[.int .i64 Wd, .slice A n c, .slice A' n' c'])
  | 10 => .slice L k d
  | 11 => .bool sure
  | 12 => .int .i64 cw
  | 13 => (.agg #[.int .i64 Wd, .slice A n c, .slice A' n' c'])
  | 14 => .slice L k d
  | 15 => .bool sure
  | 16 => .int .i64 cw
  | _ => .bool true
noncomputable def waysReg : Array Oper := (Try.f6.body.bind (regionOf · 5)).getD #[]
def waysOk (Wd : Int) (A : Option Addr) (n c : Nat) (A' : Option Addr) (n' c' : Nat) (ss : List (Int × Int)) (ds : List (Int × Int × Int)) (A1 A2 L : Option Addr) (k1 a1 a2 k d p : Nat) (er cw : Int) (sure : Bool) (Q : Exit → Act → World → Prop) (a : Act) (W : World) (ix : Nat) (o : Oper) : Prop :=
  (∀ j b, o.guard = some (j, b) → a.eval (.tmp (waysD j)) = .bool b) ∧ o.wp Try.prog a W (fun a'' W' => ∃ v, a'' = a.put o.dst v ∧ v = waysV Wd A n c A' n' c' ss ds A1 A2 L k1 a1 a2 k d p er cw sure ix ∧ Below W.heap.size W W') Q

section
variable {Wd : Int} {A : Option Addr} {n c : Nat} {A' : Option Addr} {n' c' : Nat} {ss : List (Int × Int)} {ds : List (Int × Int × Int)} {A1 A2 L : Option Addr} {k1 a1 a2 k d p : Nat} {er cw : Int} {sure : Bool} {Q : Exit → Act → World → Prop} {a : Act} {V W : World} {o : Oper}
theorem ways_op0 (o11 : a.eval (.tmp 11) = .slice A1 k1 a1) (ho : waysReg[0]? = some o) : waysOk Wd A n c A' n' c' ss ds A1 A2 L k1 a1 a2 k d p er cw sure Q a W 0 o := by
  have hop := op_at ho (·.op) (x := .move (.tmp 11)) (by kernel_rfl)
  have hgd := op_at ho (·.guard) (x := none) (by kernel_rfl)
  refine ⟨fun j b h => (by rw [hgd] at h; cases h), ?_⟩
  exact specs_value (R := fun v _ => v = waysV Wd A n c A' n' c' ss ds A1 A2 L k1 a1 a2 k d p er cw sure 0) (v := .slice A1 k1 a1) (by simp [execOp, hop, go_sem, ev o11]) rfl (Ext.refl W)
theorem ways_op1 (o13 : a.eval (.tmp 13) = .slice A2 k1 a2) (ho : waysReg[1]? = some o) : waysOk Wd A n c A' n' c' ss ds A1 A2 L k1 a1 a2 k d p er cw sure Q a W 1 o := by
  have hop := op_at ho (·.op) (x := .move (.tmp 13)) (by kernel_rfl)
  have hgd := op_at ho (·.guard) (x := none) (by kernel_rfl)
  refine ⟨fun j b h => (by rw [hgd] at h; cases h), ?_⟩
  exact specs_value (R := fun v _ => v = waysV Wd A n c A' n' c' ss ds A1 A2 L k1 a1 a2 k d p er cw sure 1) (v := .slice A2 k1 a2) (by simp [execOp, hop, go_sem, ev o13]) rfl (Ext.refl W)
theorem ways_op2 (cI : ∀ W, Ext V W → Calls Try.prog 31 #[.slice A1 k1 a1, .slice A2 k1 a2] W fun e w' => e = .returned (.bool true) ∧ Below W.heap.size W w') (hB : Ext V W) (haft : ∀ j, (o.after.any fun e => decide (e.on = j) && Region.binds .any e) = true → a.eval (.tmp (waysD j)) = waysV Wd A n c A' n' c' ss ds A1 A2 L k1 a1 a2 k d p er cw sure j) (ho : waysReg[2]? = some o) : waysOk Wd A n c A' n' c' ss ds A1 A2 L k1 a1 a2 k d p er cw sure Q a W 2 o := by
  have hop := op_at ho (·.op) (x := .call { callee := .value (.func 31), args := #[.tmp 39, .tmp 40], argTypes := #[42, 42] }) (by kernel_rfl)
  have hgd := op_at ho (·.guard) (x := none) (by kernel_rfl)
  have e0 : a.eval (.tmp 39) = .slice A1 k1 a1 := haft 0 (op_at ho (fun o => o.after.any fun e => decide (e.on = 0) && Region.binds .any e) (x := true) (by kernel_rfl))
  have e1 : a.eval (.tmp 40) = .slice A2 k1 a2 := haft 1 (op_at ho (fun o => o.after.any fun e => decide (e.on = 1) && Region.binds .any e) (x := true) (by kernel_rfl))
  refine ⟨fun j b h => (by rw [hgd] at h; cases h), ?_⟩
  exact specs_call (R := fun v _ => v = waysV Wd A n c A' n' c' ss ds A1 A2 L k1 a1 a2 k d p er cw sure 2) (f := 31) (args := #[.slice A1 k1 a1, .slice A2 k1 a2]) (by simp [execOp, hop, go_sem, ev e0, ev e1]) ((cI W hB).mono fun e w' h => ⟨_, h.1, rfl, h.2⟩)
theorem ways_op3 (haft : ∀ j, (o.after.any fun e => decide (e.on = j) && Region.binds .any e) = true → a.eval (.tmp (waysD j)) = waysV Wd A n c A' n' c' ss ds A1 A2 L k1 a1 a2 k d p er cw sure j) (ho : waysReg[3]? = some o) : waysOk Wd A n c A' n' c' ss ds A1 A2 L k1 a1 a2 k d p er cw sure Q a W 3 o := by
  have hop := op_at ho (·.op) (x := .move (.tmp 41)) (by kernel_rfl)
  have hgd := op_at ho (·.guard) (x := none) (by kernel_rfl)
  have e2 : a.eval (.tmp 41) = .bool true := haft 2 (op_at ho (fun o => o.after.any fun e => decide (e.on = 2) && Region.binds .any e) (x := true) (by kernel_rfl))
  refine ⟨fun j b h => (by rw [hgd] at h; cases h), ?_⟩
  exact specs_value (R := fun v _ => v = waysV Wd A n c A' n' c' ss ds A1 A2 L k1 a1 a2 k d p er cw sure 3) (v := .bool true) (by simp [execOp, hop, go_sem, ev e2]) rfl (Ext.refl W)
theorem ways_op4 (o12 : a.eval (.tmp 12) = .int .i64 er) (haft : ∀ j, (o.after.any fun e => decide (e.on = j) && Region.binds .any e) = true → a.eval (.tmp (waysD j)) = waysV Wd A n c A' n' c' ss ds A1 A2 L k1 a1 a2 k d p er cw sure j) (ho : waysReg[4]? = some o) : waysOk Wd A n c A' n' c' ss ds A1 A2 L k1 a1 a2 k d p er cw sure Q a W 4 o := by
  have hop := op_at ho (·.op) (x := .move (.tmp 12)) (by kernel_rfl)
  have hgd := op_at ho (·.guard) (x := some (3, true)) (by kernel_rfl)
  have e3 : a.eval (.tmp 42) = .bool true := haft 3 (op_at ho (fun o => o.after.any fun e => decide (e.on = 3) && Region.binds .any e) (x := true) (by kernel_rfl))
  refine ⟨fun j b h => (by rw [hgd] at h; cases h; exact e3), ?_⟩
  exact specs_value (R := fun v _ => v = waysV Wd A n c A' n' c' ss ds A1 A2 L k1 a1 a2 k d p er cw sure 4) (v := .int .i64 er) (by simp [execOp, hop, go_sem, ev o12]) rfl (Ext.refl W)
theorem ways_op5 (o14 : a.eval (.tmp 14) = .int .i64 er) (haft : ∀ j, (o.after.any fun e => decide (e.on = j) && Region.binds .any e) = true → a.eval (.tmp (waysD j)) = waysV Wd A n c A' n' c' ss ds A1 A2 L k1 a1 a2 k d p er cw sure j) (ho : waysReg[5]? = some o) : waysOk Wd A n c A' n' c' ss ds A1 A2 L k1 a1 a2 k d p er cw sure Q a W 5 o := by
  have hop := op_at ho (·.op) (x := .move (.tmp 14)) (by kernel_rfl)
  have hgd := op_at ho (·.guard) (x := some (3, true)) (by kernel_rfl)
  have e3 : a.eval (.tmp 42) = .bool true := haft 3 (op_at ho (fun o => o.after.any fun e => decide (e.on = 3) && Region.binds .any e) (x := true) (by kernel_rfl))
  refine ⟨fun j b h => (by rw [hgd] at h; cases h; exact e3), ?_⟩
  exact specs_value (R := fun v _ => v = waysV Wd A n c A' n' c' ss ds A1 A2 L k1 a1 a2 k d p er cw sure 5) (v := .int .i64 er) (by simp [execOp, hop, go_sem, ev o14]) rfl (Ext.refl W)
theorem ways_op6 (haft : ∀ j, (o.after.any fun e => decide (e.on = j) && Region.binds .any e) = true → a.eval (.tmp (waysD j)) = waysV Wd A n c A' n' c' ss ds A1 A2 L k1 a1 a2 k d p er cw sure j) (ho : waysReg[6]? = some o) : waysOk Wd A n c A' n' c' ss ds A1 A2 L k1 a1 a2 k d p er cw sure Q a W 6 o := by
  have hop := op_at ho (·.op) (x := .binOp .eql 30 (.tmp 43) (.tmp 44) 30) (by kernel_rfl)
  have hgd := op_at ho (·.guard) (x := some (3, true)) (by kernel_rfl)
  have e3 : a.eval (.tmp 42) = .bool true := haft 3 (op_at ho (fun o => o.after.any fun e => decide (e.on = 3) && Region.binds .any e) (x := true) (by kernel_rfl))
  have e4 : a.eval (.tmp 43) = .int .i64 er := haft 4 (op_at ho (fun o => o.after.any fun e => decide (e.on = 4) && Region.binds .any e) (x := true) (by kernel_rfl))
  have e5 : a.eval (.tmp 44) = .int .i64 er := haft 5 (op_at ho (fun o => o.after.any fun e => decide (e.on = 5) && Region.binds .any e) (x := true) (by kernel_rfl))
  refine ⟨fun j b h => (by rw [hgd] at h; cases h; exact e3), ?_⟩
  exact specs_value (R := fun v _ => v = waysV Wd A n c A' n' c' ss ds A1 A2 L k1 a1 a2 k d p er cw sure 6) (v := .bool true) (by simp [execOp, hop, go_sem, ev e4, ev e5]) rfl (Ext.refl W)
theorem ways_op7 (haft : ∀ j, (o.after.any fun e => decide (e.on = j) && Region.binds .any e) = true → a.eval (.tmp (waysD j)) = waysV Wd A n c A' n' c' ss ds A1 A2 L k1 a1 a2 k d p er cw sure j) (ho : waysReg[7]? = some o) : waysOk Wd A n c A' n' c' ss ds A1 A2 L k1 a1 a2 k d p er cw sure Q a W 7 o := by
  have hop := op_at ho (·.op) (x := .pick (.tmp 42) (.tmp 45) (.const (.bool false))) (by kernel_rfl)
  have hgd := op_at ho (·.guard) (x := none) (by kernel_rfl)
  have e3 : a.eval (.tmp 42) = .bool true := haft 3 (op_at ho (fun o => o.after.any fun e => decide (e.on = 3) && Region.binds .any e) (x := true) (by kernel_rfl))
  have e6 : a.eval (.tmp 45) = .bool true := haft 6 (op_at ho (fun o => o.after.any fun e => decide (e.on = 6) && Region.binds .any e) (x := true) (by kernel_rfl))
  refine ⟨fun j b h => (by rw [hgd] at h; cases h), ?_⟩
  exact specs_value (R := fun v _ => v = waysV Wd A n c A' n' c' ss ds A1 A2 L k1 a1 a2 k d p er cw sure 7) (v := .bool true) (by simp [execOp, hop, go_sem, ev e3, ev e6]) rfl (Ext.refl W)
theorem ways_op8 (haft : ∀ j, (o.after.any fun e => decide (e.on = j) && Region.binds .any e) = true → a.eval (.tmp (waysD j)) = waysV Wd A n c A' n' c' ss ds A1 A2 L k1 a1 a2 k d p er cw sure j) (ho : waysReg[8]? = some o) : waysOk Wd A n c A' n' c' ss ds A1 A2 L k1 a1 a2 k d p er cw sure Q a W 8 o := by
  have hop := op_at ho (·.op) (x := .move (.tmp 46)) (by kernel_rfl)
  have hgd := op_at ho (·.guard) (x := none) (by kernel_rfl)
  have e7 : a.eval (.tmp 46) = .bool true := haft 7 (op_at ho (fun o => o.after.any fun e => decide (e.on = 7) && Region.binds .any e) (x := true) (by kernel_rfl))
  refine ⟨fun j b h => (by rw [hgd] at h; cases h), ?_⟩
  exact specs_value (R := fun v _ => v = waysV Wd A n c A' n' c' ss ds A1 A2 L k1 a1 a2 k d p er cw sure 8) (v := .bool true) (by simp [execOp, hop, go_sem, ev e7]) rfl (Ext.refl W)
theorem ways_op9 (o5 : a.eval (.tmp 5) = .pointer (some ⟨p, 0, none⟩)) (hx : BathAt V p Wd A n c A' n' c' ss ds) (hB : Ext V W) (haft : ∀ j, (o.after.any fun e => decide (e.on = j) && Region.binds .any e) = true → a.eval (.tmp (waysD j)) = waysV Wd A n c A' n' c' ss ds A1 A2 L k1 a1 a2 k d p er cw sure j) (ho : waysReg[9]? = some o) : waysOk Wd A n c A' n' c' ss ds A1 A2 L k1 a1 a2 k d p er cw sure Q a W 9 o := by
  have hop := op_at ho (·.op) (x := .load 25 (.tmp 5)) (by kernel_rfl)
  have hgd := op_at ho (·.guard) (x := some (8, true)) (by kernel_rfl)
  have e8 : a.eval (.tmp 47) = .bool true := haft 8 (op_at ho (fun o => o.after.any fun e => decide (e.on = 8) && Region.binds .any e) (x := true) (by kernel_rfl))
  refine ⟨fun j b h => (by rw [hgd] at h; cases h; exact e8), ?_⟩
  obtain ⟨q0, q1, q2⟩ := (hx.ext hB).cells
  exact specs_value (R := fun v _ => v = waysV Wd A n c A' n' c' ss ds A1 A2 L k1 a1 a2 k d p er cw sure 9) (v := (.agg #[.int .i64 Wd, .slice A n c, .slice A' n' c'])) (by simp [execOp, hop, go_sem, ev o5, q0, q1, q2]) rfl (Ext.refl W)
theorem ways_op10 (o3 : a.eval (.tmp 3) = .slice L k d) (haft : ∀ j, (o.after.any fun e => decide (e.on = j) && Region.binds .any e) = true → a.eval (.tmp (waysD j)) = waysV Wd A n c A' n' c' ss ds A1 A2 L k1 a1 a2 k d p er cw sure j) (ho : waysReg[10]? = some o) : waysOk Wd A n c A' n' c' ss ds A1 A2 L k1 a1 a2 k d p er cw sure Q a W 10 o := by
  have hop := op_at ho (·.op) (x := .move (.tmp 3)) (by kernel_rfl)
  have hgd := op_at ho (·.guard) (x := some (8, true)) (by kernel_rfl)
  have e8 : a.eval (.tmp 47) = .bool true := haft 8 (op_at ho (fun o => o.after.any fun e => decide (e.on = 8) && Region.binds .any e) (x := true) (by kernel_rfl))
  refine ⟨fun j b h => (by rw [hgd] at h; cases h; exact e8), ?_⟩
  exact specs_value (R := fun v _ => v = waysV Wd A n c A' n' c' ss ds A1 A2 L k1 a1 a2 k d p er cw sure 10) (v := .slice L k d) (by simp [execOp, hop, go_sem, ev o3]) rfl (Ext.refl W)
theorem ways_op11 (o4 : a.eval (.tmp 4) = .bool sure) (haft : ∀ j, (o.after.any fun e => decide (e.on = j) && Region.binds .any e) = true → a.eval (.tmp (waysD j)) = waysV Wd A n c A' n' c' ss ds A1 A2 L k1 a1 a2 k d p er cw sure j) (ho : waysReg[11]? = some o) : waysOk Wd A n c A' n' c' ss ds A1 A2 L k1 a1 a2 k d p er cw sure Q a W 11 o := by
  have hop := op_at ho (·.op) (x := .move (.tmp 4)) (by kernel_rfl)
  have hgd := op_at ho (·.guard) (x := some (8, true)) (by kernel_rfl)
  have e8 : a.eval (.tmp 47) = .bool true := haft 8 (op_at ho (fun o => o.after.any fun e => decide (e.on = 8) && Region.binds .any e) (x := true) (by kernel_rfl))
  refine ⟨fun j b h => (by rw [hgd] at h; cases h; exact e8), ?_⟩
  exact specs_value (R := fun v _ => v = waysV Wd A n c A' n' c' ss ds A1 A2 L k1 a1 a2 k d p er cw sure 11) (v := .bool sure) (by simp [execOp, hop, go_sem, ev o4]) rfl (Ext.refl W)
theorem ways_op12 (cP : ∀ W, Ext V W → Calls Try.prog 32 #[(.agg #[.int .i64 Wd, .slice A n c, .slice A' n' c']), .slice L k d, .bool sure] W fun e w' => e = .returned (.int .i64 cw) ∧ Below W.heap.size W w') (hB : Ext V W) (haft : ∀ j, (o.after.any fun e => decide (e.on = j) && Region.binds .any e) = true → a.eval (.tmp (waysD j)) = waysV Wd A n c A' n' c' ss ds A1 A2 L k1 a1 a2 k d p er cw sure j) (ho : waysReg[12]? = some o) : waysOk Wd A n c A' n' c' ss ds A1 A2 L k1 a1 a2 k d p er cw sure Q a W 12 o := by
  have hop := op_at ho (·.op) (x := .call { callee := .value (.func 32), args := #[.tmp 48, .tmp 49, .tmp 50], argTypes := #[25, 42, 4] }) (by kernel_rfl)
  have hgd := op_at ho (·.guard) (x := some (8, true)) (by kernel_rfl)
  have e8 : a.eval (.tmp 47) = .bool true := haft 8 (op_at ho (fun o => o.after.any fun e => decide (e.on = 8) && Region.binds .any e) (x := true) (by kernel_rfl))
  have e9 : a.eval (.tmp 48) = (.agg #[.int .i64 Wd, .slice A n c, .slice A' n' c']) := haft 9 (op_at ho (fun o => o.after.any fun e => decide (e.on = 9) && Region.binds .any e) (x := true) (by kernel_rfl))
  have e10 : a.eval (.tmp 49) = .slice L k d := haft 10 (op_at ho (fun o => o.after.any fun e => decide (e.on = 10) && Region.binds .any e) (x := true) (by kernel_rfl))
  have e11 : a.eval (.tmp 50) = .bool sure := haft 11 (op_at ho (fun o => o.after.any fun e => decide (e.on = 11) && Region.binds .any e) (x := true) (by kernel_rfl))
  refine ⟨fun j b h => (by rw [hgd] at h; cases h; exact e8), ?_⟩
  exact specs_call (R := fun v _ => v = waysV Wd A n c A' n' c' ss ds A1 A2 L k1 a1 a2 k d p er cw sure 12) (f := 32) (args := #[(.agg #[.int .i64 Wd, .slice A n c, .slice A' n' c']), .slice L k d, .bool sure]) (by simp [execOp, hop, go_sem, ev e9, ev e10, ev e11]) ((cP W hB).mono fun e w' h => ⟨_, h.1, rfl, h.2⟩)
theorem ways_op13 (o5 : a.eval (.tmp 5) = .pointer (some ⟨p, 0, none⟩)) (hx : BathAt V p Wd A n c A' n' c' ss ds) (hB : Ext V W) (haft : ∀ j, (o.after.any fun e => decide (e.on = j) && Region.binds .any e) = true → a.eval (.tmp (waysD j)) = waysV Wd A n c A' n' c' ss ds A1 A2 L k1 a1 a2 k d p er cw sure j) (ho : waysReg[13]? = some o) : waysOk Wd A n c A' n' c' ss ds A1 A2 L k1 a1 a2 k d p er cw sure Q a W 13 o := by
  have hop := op_at ho (·.op) (x := .load 25 (.tmp 5)) (by kernel_rfl)
  have hgd := op_at ho (·.guard) (x := some (8, true)) (by kernel_rfl)
  have e8 : a.eval (.tmp 47) = .bool true := haft 8 (op_at ho (fun o => o.after.any fun e => decide (e.on = 8) && Region.binds .any e) (x := true) (by kernel_rfl))
  refine ⟨fun j b h => (by rw [hgd] at h; cases h; exact e8), ?_⟩
  obtain ⟨q0, q1, q2⟩ := (hx.ext hB).cells
  exact specs_value (R := fun v _ => v = waysV Wd A n c A' n' c' ss ds A1 A2 L k1 a1 a2 k d p er cw sure 13) (v := (.agg #[.int .i64 Wd, .slice A n c, .slice A' n' c'])) (by simp [execOp, hop, go_sem, ev o5, q0, q1, q2]) rfl (Ext.refl W)
theorem ways_op14 (o3 : a.eval (.tmp 3) = .slice L k d) (haft : ∀ j, (o.after.any fun e => decide (e.on = j) && Region.binds .any e) = true → a.eval (.tmp (waysD j)) = waysV Wd A n c A' n' c' ss ds A1 A2 L k1 a1 a2 k d p er cw sure j) (ho : waysReg[14]? = some o) : waysOk Wd A n c A' n' c' ss ds A1 A2 L k1 a1 a2 k d p er cw sure Q a W 14 o := by
  have hop := op_at ho (·.op) (x := .move (.tmp 3)) (by kernel_rfl)
  have hgd := op_at ho (·.guard) (x := some (8, true)) (by kernel_rfl)
  have e8 : a.eval (.tmp 47) = .bool true := haft 8 (op_at ho (fun o => o.after.any fun e => decide (e.on = 8) && Region.binds .any e) (x := true) (by kernel_rfl))
  refine ⟨fun j b h => (by rw [hgd] at h; cases h; exact e8), ?_⟩
  exact specs_value (R := fun v _ => v = waysV Wd A n c A' n' c' ss ds A1 A2 L k1 a1 a2 k d p er cw sure 14) (v := .slice L k d) (by simp [execOp, hop, go_sem, ev o3]) rfl (Ext.refl W)
theorem ways_op15 (o4 : a.eval (.tmp 4) = .bool sure) (haft : ∀ j, (o.after.any fun e => decide (e.on = j) && Region.binds .any e) = true → a.eval (.tmp (waysD j)) = waysV Wd A n c A' n' c' ss ds A1 A2 L k1 a1 a2 k d p er cw sure j) (ho : waysReg[15]? = some o) : waysOk Wd A n c A' n' c' ss ds A1 A2 L k1 a1 a2 k d p er cw sure Q a W 15 o := by
  have hop := op_at ho (·.op) (x := .move (.tmp 4)) (by kernel_rfl)
  have hgd := op_at ho (·.guard) (x := some (8, true)) (by kernel_rfl)
  have e8 : a.eval (.tmp 47) = .bool true := haft 8 (op_at ho (fun o => o.after.any fun e => decide (e.on = 8) && Region.binds .any e) (x := true) (by kernel_rfl))
  refine ⟨fun j b h => (by rw [hgd] at h; cases h; exact e8), ?_⟩
  exact specs_value (R := fun v _ => v = waysV Wd A n c A' n' c' ss ds A1 A2 L k1 a1 a2 k d p er cw sure 15) (v := .bool sure) (by simp [execOp, hop, go_sem, ev o4]) rfl (Ext.refl W)
theorem ways_op16 (cR : ∀ W, Ext V W → Calls Try.prog 33 #[(.agg #[.int .i64 Wd, .slice A n c, .slice A' n' c']), .slice L k d, .bool sure] W fun e w' => e = .returned (.int .i64 cw) ∧ Below W.heap.size W w') (hB : Ext V W) (haft : ∀ j, (o.after.any fun e => decide (e.on = j) && Region.binds .any e) = true → a.eval (.tmp (waysD j)) = waysV Wd A n c A' n' c' ss ds A1 A2 L k1 a1 a2 k d p er cw sure j) (ho : waysReg[16]? = some o) : waysOk Wd A n c A' n' c' ss ds A1 A2 L k1 a1 a2 k d p er cw sure Q a W 16 o := by
  have hop := op_at ho (·.op) (x := .call { callee := .value (.func 33), args := #[.tmp 52, .tmp 53, .tmp 54], argTypes := #[25, 42, 4] }) (by kernel_rfl)
  have hgd := op_at ho (·.guard) (x := some (8, true)) (by kernel_rfl)
  have e8 : a.eval (.tmp 47) = .bool true := haft 8 (op_at ho (fun o => o.after.any fun e => decide (e.on = 8) && Region.binds .any e) (x := true) (by kernel_rfl))
  have e13 : a.eval (.tmp 52) = (.agg #[.int .i64 Wd, .slice A n c, .slice A' n' c']) := haft 13 (op_at ho (fun o => o.after.any fun e => decide (e.on = 13) && Region.binds .any e) (x := true) (by kernel_rfl))
  have e14 : a.eval (.tmp 53) = .slice L k d := haft 14 (op_at ho (fun o => o.after.any fun e => decide (e.on = 14) && Region.binds .any e) (x := true) (by kernel_rfl))
  have e15 : a.eval (.tmp 54) = .bool sure := haft 15 (op_at ho (fun o => o.after.any fun e => decide (e.on = 15) && Region.binds .any e) (x := true) (by kernel_rfl))
  refine ⟨fun j b h => (by rw [hgd] at h; cases h; exact e8), ?_⟩
  exact specs_call (R := fun v _ => v = waysV Wd A n c A' n' c' ss ds A1 A2 L k1 a1 a2 k d p er cw sure 16) (f := 33) (args := #[(.agg #[.int .i64 Wd, .slice A n c, .slice A' n' c']), .slice L k d, .bool sure]) (by simp [execOp, hop, go_sem, ev e13, ev e14, ev e15]) ((cR W hB).mono fun e w' h => ⟨_, h.1, rfl, h.2⟩)
theorem ways_op17 (haft : ∀ j, (o.after.any fun e => decide (e.on = j) && Region.binds .any e) = true → a.eval (.tmp (waysD j)) = waysV Wd A n c A' n' c' ss ds A1 A2 L k1 a1 a2 k d p er cw sure j) (ho : waysReg[17]? = some o) : waysOk Wd A n c A' n' c' ss ds A1 A2 L k1 a1 a2 k d p er cw sure Q a W 17 o := by
  have hop := op_at ho (·.op) (x := .binOp .eql 30 (.tmp 51) (.tmp 55) 30) (by kernel_rfl)
  have hgd := op_at ho (·.guard) (x := some (8, true)) (by kernel_rfl)
  have e8 : a.eval (.tmp 47) = .bool true := haft 8 (op_at ho (fun o => o.after.any fun e => decide (e.on = 8) && Region.binds .any e) (x := true) (by kernel_rfl))
  have e12 : a.eval (.tmp 51) = .int .i64 cw := haft 12 (op_at ho (fun o => o.after.any fun e => decide (e.on = 12) && Region.binds .any e) (x := true) (by kernel_rfl))
  have e16 : a.eval (.tmp 55) = .int .i64 cw := haft 16 (op_at ho (fun o => o.after.any fun e => decide (e.on = 16) && Region.binds .any e) (x := true) (by kernel_rfl))
  refine ⟨fun j b h => (by rw [hgd] at h; cases h; exact e8), ?_⟩
  exact specs_value (R := fun v _ => v = waysV Wd A n c A' n' c' ss ds A1 A2 L k1 a1 a2 k d p er cw sure 17) (v := .bool true) (by simp [execOp, hop, go_sem, ev e12, ev e16]) rfl (Ext.refl W)
theorem ways_op18 (haft : ∀ j, (o.after.any fun e => decide (e.on = j) && Region.binds .any e) = true → a.eval (.tmp (waysD j)) = waysV Wd A n c A' n' c' ss ds A1 A2 L k1 a1 a2 k d p er cw sure j) (ho : waysReg[18]? = some o) : waysOk Wd A n c A' n' c' ss ds A1 A2 L k1 a1 a2 k d p er cw sure Q a W 18 o := by
  have hop := op_at ho (·.op) (x := .pick (.tmp 47) (.tmp 56) (.const (.bool false))) (by kernel_rfl)
  have hgd := op_at ho (·.guard) (x := none) (by kernel_rfl)
  have e8 : a.eval (.tmp 47) = .bool true := haft 8 (op_at ho (fun o => o.after.any fun e => decide (e.on = 8) && Region.binds .any e) (x := true) (by kernel_rfl))
  have e17 : a.eval (.tmp 56) = .bool true := haft 17 (op_at ho (fun o => o.after.any fun e => decide (e.on = 17) && Region.binds .any e) (x := true) (by kernel_rfl))
  refine ⟨fun j b h => (by rw [hgd] at h; cases h), ?_⟩
  exact specs_value (R := fun v _ => v = waysV Wd A n c A' n' c' ss ds A1 A2 L k1 a1 a2 k d p er cw sure 18) (v := .bool true) (by simp [execOp, hop, go_sem, ev e8, ev e17]) rfl (Ext.refl W)
theorem ways_op19 (haft : ∀ j, (o.after.any fun e => decide (e.on = j) && Region.binds .any e) = true → a.eval (.tmp (waysD j)) = waysV Wd A n c A' n' c' ss ds A1 A2 L k1 a1 a2 k d p er cw sure j) (ho : waysReg[19]? = some o) : waysOk Wd A n c A' n' c' ss ds A1 A2 L k1 a1 a2 k d p er cw sure Q a W 19 o := by
  have hop := op_at ho (·.op) (x := .move (.tmp 57)) (by kernel_rfl)
  have hgd := op_at ho (·.guard) (x := none) (by kernel_rfl)
  have e18 : a.eval (.tmp 57) = .bool true := haft 18 (op_at ho (fun o => o.after.any fun e => decide (e.on = 18) && Region.binds .any e) (x := true) (by kernel_rfl))
  refine ⟨fun j b h => (by rw [hgd] at h; cases h), ?_⟩
  exact specs_value (R := fun v _ => v = waysV Wd A n c A' n' c' ss ds A1 A2 L k1 a1 a2 k d p er cw sure 19) (v := .bool true) (by simp [execOp, hop, go_sem, ev e18]) rfl (Ext.refl W)
theorem ways_op20 (cK : ∀ W, Ext V W → Calls Try.prog 16 #[] W fun e w' => e = .returned (.bool true) ∧ Below W.heap.size W w') (hB : Ext V W) (haft : ∀ j, (o.after.any fun e => decide (e.on = j) && Region.binds .any e) = true → a.eval (.tmp (waysD j)) = waysV Wd A n c A' n' c' ss ds A1 A2 L k1 a1 a2 k d p er cw sure j) (ho : waysReg[20]? = some o) : waysOk Wd A n c A' n' c' ss ds A1 A2 L k1 a1 a2 k d p er cw sure Q a W 20 o := by
  have hop := op_at ho (·.op) (x := .call { callee := .value (.func 16), args := #[], argTypes := #[] }) (by kernel_rfl)
  have hgd := op_at ho (·.guard) (x := some (19, true)) (by kernel_rfl)
  have e19 : a.eval (.tmp 58) = .bool true := haft 19 (op_at ho (fun o => o.after.any fun e => decide (e.on = 19) && Region.binds .any e) (x := true) (by kernel_rfl))
  refine ⟨fun j b h => (by rw [hgd] at h; cases h; exact e19), ?_⟩
  exact specs_call (R := fun v _ => v = waysV Wd A n c A' n' c' ss ds A1 A2 L k1 a1 a2 k d p er cw sure 20) (f := 16) (args := #[]) (by simp [execOp, hop, go_sem]) ((cK W hB).mono fun e w' h => ⟨_, h.1, rfl, h.2⟩)
theorem ways_op21 (haft : ∀ j, (o.after.any fun e => decide (e.on = j) && Region.binds .any e) = true → a.eval (.tmp (waysD j)) = waysV Wd A n c A' n' c' ss ds A1 A2 L k1 a1 a2 k d p er cw sure j) (ho : waysReg[21]? = some o) : waysOk Wd A n c A' n' c' ss ds A1 A2 L k1 a1 a2 k d p er cw sure Q a W 21 o := by
  have hop := op_at ho (·.op) (x := .pick (.tmp 58) (.tmp 59) (.const (.bool false))) (by kernel_rfl)
  have hgd := op_at ho (·.guard) (x := none) (by kernel_rfl)
  have e19 : a.eval (.tmp 58) = .bool true := haft 19 (op_at ho (fun o => o.after.any fun e => decide (e.on = 19) && Region.binds .any e) (x := true) (by kernel_rfl))
  have e20 : a.eval (.tmp 59) = .bool true := haft 20 (op_at ho (fun o => o.after.any fun e => decide (e.on = 20) && Region.binds .any e) (x := true) (by kernel_rfl))
  refine ⟨fun j b h => (by rw [hgd] at h; cases h), ?_⟩
  exact specs_value (R := fun v _ => v = waysV Wd A n c A' n' c' ss ds A1 A2 L k1 a1 a2 k d p er cw sure 21) (v := .bool true) (by simp [execOp, hop, go_sem, ev e19, ev e20]) rfl (Ext.refl W)
theorem ways_op22 (haft : ∀ j, (o.after.any fun e => decide (e.on = j) && Region.binds .any e) = true → a.eval (.tmp (waysD j)) = waysV Wd A n c A' n' c' ss ds A1 A2 L k1 a1 a2 k d p er cw sure j) (ho : waysReg[22]? = some o) : waysOk Wd A n c A' n' c' ss ds A1 A2 L k1 a1 a2 k d p er cw sure Q a W 22 o := by
  have hop := op_at ho (·.op) (x := .assign (.tmp 60)) (by kernel_rfl)
  have hgd := op_at ho (·.guard) (x := none) (by kernel_rfl)
  have e21 : a.eval (.tmp 60) = .bool true := haft 21 (op_at ho (fun o => o.after.any fun e => decide (e.on = 21) && Region.binds .any e) (x := true) (by kernel_rfl))
  refine ⟨fun j b h => (by rw [hgd] at h; cases h), ?_⟩
  exact specs_value (R := fun v _ => v = waysV Wd A n c A' n' c' ss ds A1 A2 L k1 a1 a2 k d p er cw sure 22) (v := .bool true) (by simp [execOp, hop, go_sem, ev e21]) rfl (Ext.refl W)
end
end Go.Proofs.Ytckndnaohggmhaa

/- DropWays: the walk. -/
namespace Go.Proofs.Ytckndnaohggmhaa
open Go.RowKit Go.Shelf

theorem goFrom_len (H : Nat → Nat → Bool) (n : Nat) (out : Nat → Nat) : ∀ d i, (goFrom H n out d i).length = d
  | 0, _ => rfl
  | 1, _ => rfl
  | d + 2, i => by
    show (i :: goFrom H n out (d + 1) (nextOf H n out i)).length = d + 2
    rw [List.length_cons, goFrom_len H n out (d + 1)]

/-- What Way answers, as a list and an error. -/
def wayAns (Wd : Int) (ss : List (Int × Int)) (ds : List (Int × Int × Int)) (one two : Int) (sure : Bool) : List Int × Int :=
  if forErr Wd ss ds one two ≠ 0 then ([], forErr Wd ss ds one two)
  else if outs (tableOf Wd ss ds sure) (ss.length + 2) (two + 2).toNat (ss.length + 1) (one + 2).toNat = 0 then ([], 5)
  else (nums (wayOf (tableOf Wd ss ds sure) (ss.length + 2) (one + 2).toNat (two + 2).toNat), 0)

theorem wayAns_len (Wd : Int) (ss : List (Int × Int)) (ds : List (Int × Int × Int)) (one two : Int) (sure : Bool) (h : ss.length ≤ 10 ∨ forErr Wd ss ds one two ≠ 0) : (wayAns Wd ss ds one two sure).1.length ≤ 12 := by
  unfold wayAns
  split
  · simp
  · rename_i h1
    split
    · simp
    · simp only [List.length_map, wayOf, goFrom_len]
      have := outs_le (H := tableOf Wd ss ds sure) (n := ss.length + 2) (t := (two + 2).toNat) (ss.length + 2 - 1) (one + 2).toNat
      rcases h with h | h
      · omega
      · exact absurd h h1

def WayVal (Wd : Int) (ss : List (Int × Int)) (ds : List (Int × Int × Int)) (one two : Int) (sure : Bool) (w : World) (e : Ending) (w' : World) : Prop :=
  ∃ A c, e = .returned (.tuple #[.slice A (wayAns Wd ss ds one two sure).1.length c, .int .i64 (wayAns Wd ss ds one two sure).2]) ∧ Held w' w'.heap.size 1 encI A (wayAns Wd ss ds one two sure).1 ∧ Ext w w'
theorem wayIs_val {Wd : Int} {ss : List (Int × Int)} {ds : List (Int × Int × Int)} {one two : Int} {sure : Bool} {w w' : World} {e : Ending} (h : WayIs Wd ss ds one two sure w e w') : WayVal Wd ss ds one two sure w e w' := by
  obtain ⟨hE, h | h | h⟩ := h
  · have ha : wayAns Wd ss ds one two sure = ([], forErr Wd ss ds one two) := by unfold wayAns; rw [if_pos h.1]
    unfold WayVal
    rw [ha]
    exact ⟨none, 0, h.2, .inl rfl, hE⟩
  · have ha : wayAns Wd ss ds one two sure = ([], 5) := by unfold wayAns; rw [if_neg (by simp [h.1]), if_pos h.2.1]
    unfold WayVal
    rw [ha]
    exact ⟨none, 0, h.2.2, .inl rfl, hE⟩
  · obtain ⟨h1, h2, A, l, c, he, _, hH, rfl⟩ := h
    have ha : wayAns Wd ss ds one two sure = (nums (wayOf (tableOf Wd ss ds sure) (ss.length + 2) (one + 2).toNat (two + 2).toNat), 0) := by unfold wayAns; rw [if_neg (by simp [h1]), if_neg h2]
    unfold WayVal
    rw [ha]
    exact ⟨A, c, by rw [he, List.length_map], hH, hE⟩

section
variable {w : World} {Wd : Int} {A : Option Addr} {n c : Nat} {A' : Option Addr} {n' c' : Nat} {ss : List (Int × Int)} {ds : List (Int × Int × Int)}

set_option maxRecDepth 100000 in
set_option maxHeartbeats 4000000 in
theorem dropWays_any (one two : Int) (L : Option Addr) (k d : Nat) (xs : List Int) (sure : Bool) (hb : IsBath w w.heap.size A n c A' n' c' ss ds) (hk : k = xs.length) (hkn : k ≤ 9223372036854775807) (hh : Held w w.heap.size 1 encI L xs) :
    Calls Try.prog 6 #[.agg #[.int .i64 Wd, .slice A n c, .slice A' n' c'], .int .i64 one, .int .i64 two, .slice L k d, .bool sure] w fun e w' => e = .returned (.bool true) ∧ Ext w w' := by
  have hX0 : BathAt (w.alloc (.cells #[.int .i64 Wd, .slice A n c, .slice A' n' c'] 25)) w.heap.size Wd A n c A' n' c' ss ds := BathAt.new hb
  have hE0 : Ext w (w.alloc (.cells #[.int .i64 Wd, .slice A n c, .slice A' n' c'] 25)) := ext_alloc w _
  have cG := great_any Wd A A' n c n' c' (w.alloc (.cells #[.int .i64 Wd, .slice A n c, .slice A' n' c'] 25))
  cases hg : (decide (15 < n) || decide (50 < n')) with
  | true =>
    rw [hg] at cG
    clear hg hb hX0 hk hh
    go_enter Try.func6, Try.ntmps6
    go_wp2_with fail
    refine cG.mono ?_
    rintro e w1 ⟨rfl, hb1⟩
    have hE1 := Lib.hid (hE0.trans hb1)
    clear hE0 hb1 cG
    go_wp2_with fail
    refine (works_any _).mono ?_
    rintro e w2 ⟨rfl, hb2⟩
    go_wp2
    go_ret
    exact ⟨rfl, hE1.out.trans hb2⟩
  | false =>
    rw [hg] at cG
    by_cases hk20 : 20 < k
    · have hk20z : (20 : Int) < (k : Int) := by omega
      clear hg hb hX0 hk hh
      go_enter Try.func6, Try.ntmps6
      go_wp2_with fail
      refine cG.mono ?_
      rintro e w1 ⟨rfl, hb1⟩
      have hE1 := Lib.hid (hE0.trans hb1)
      clear hE0 hb1 cG
      go_wp2_with fail
      refine (works_any _).mono ?_
      rintro e w2 ⟨rfl, hb2⟩
      go_wp2
      go_ret
      exact ⟨rfl, hE1.out.trans hb2⟩
    · have hk20z : ¬ (20 : Int) < (k : Int) := by omega
      have hl12 : (wayAns Wd ss ds one two sure).1.length ≤ 12 := wayAns_len Wd ss ds one two sure (by
        by_cases he : forErr Wd ss ds one two = 0
        · exact .inl (bath_ok (forErr_ok he).1).2.1.1
        · exact .inr he)
      have c1 : ∀ W : World, IsBath W W.heap.size A n c A' n' c' ss ds → Calls Try.prog 29 #[.agg #[.int .i64 Wd, .slice A n c, .slice A' n' c'], .int .i64 one, .int .i64 two, .bool sure] W (WayVal Wd ss ds one two sure W) := fun W h => (bigWay_any (Wd := Wd) one two sure h).mono fun _ _ => wayIs_val
      have c2 : ∀ W : World, IsBath W W.heap.size A n c A' n' c' ss ds → Calls Try.prog 30 #[.agg #[.int .i64 Wd, .slice A n c, .slice A' n' c'], .int .i64 one, .int .i64 two, .bool sure] W (WayVal Wd ss ds one two sure W) := fun W h => (way_ref (Wd := Wd) one two sure h).mono fun _ _ => wayIs_val
      unfold WayVal at c1 c2
      obtain ⟨l, er, hr⟩ : ∃ l er, wayAns Wd ss ds one two sure = (l, er) := ⟨_, _, rfl⟩
      rw [hr] at c1 c2 hl12
      obtain ⟨kl, hkl⟩ : ∃ kl, l.length = kl := ⟨_, rfl⟩
      simp only [hkl] at c1 c2 hl12
      have HKL := Lib.hid hkl
      have HH := Lib.hid hh
      have HK := Lib.hid hk
      clear hg hb hr hkl hh hk
      go_enter Try.func6, Try.ntmps6
      go_wp2_with fail
      refine cG.mono ?_
      rintro e w1 ⟨rfl, hb1⟩
      have x := hX0.ext hb1
      have eW := hE0.trans hb1
      clear hE0 hb1 cG hX0
      obtain ⟨q0, q1, q2⟩ := x.cells
      go_wp2_with fail
      refine (c1 _ x.bath).mono ?_
      rintro e w2 ⟨A1, a1, rfl, hh1, eV⟩
      replace x := x.ext eV
      replace eW := eW.trans eV
      clear eV q0 q1 q2 c1
      obtain ⟨q0, q1, q2⟩ := x.cells
      go_wp2_with fail
      refine (c2 _ x.bath).mono ?_
      rintro e w3 ⟨A2, a2, rfl, hh2, eV⟩
      replace x := x.ext eV
      replace eW := eW.trans eV
      have hh1' := hh1.ext eV
      clear eV q0 q1 q2 c2 hh1
      go_upto_region 5 with fail
      have HX := Lib.hid x
      have HW := Lib.hid eW
      have H1 := Lib.hid hh1'
      have H2 := Lib.hid hh2
      have H3 := Lib.hid (HH.out.ext eW)
      clear x eW hh1' hh2
      generalize w.heap.size = p at HX ⊢
      obtain ⟨cw, hcw⟩ : ∃ cw, checkWayAns Wd ss ds xs sure = cw := ⟨_, rfl⟩
      have cI : ∀ W, Ext w3 W → Calls Try.prog 31 #[.slice A1 kl a1, .slice A2 kl a2] W fun e w' => e = .returned (.bool true) ∧ Below W.heap.size W w' := fun W h => by
        have := ints_any A1 A2 kl a1 kl a2 l l W HKL.out.symm HKL.out.symm (by omega) (by omega) (H1.out.ext h) (H2.out.ext h)
        rw [show decide (l = l) = true from by simp] at this
        exact this
      have cP : ∀ W, Ext w3 W → Calls Try.prog 32 #[.agg #[.int .i64 Wd, .slice A n c, .slice A' n' c'], .slice L k d, .bool sure] W fun e w' => e = .returned (.int .i64 cw) ∧ Below W.heap.size W w' := fun W h => by
        have := checkWay_any (Wd := Wd) L k d xs sure (HX.out.ext h).bath HK.out hkn (H3.out.ext h)
        rw [hcw] at this
        exact this
      have cR : ∀ W, Ext w3 W → Calls Try.prog 33 #[.agg #[.int .i64 Wd, .slice A n c, .slice A' n' c'], .slice L k d, .bool sure] W fun e w' => e = .returned (.int .i64 cw) ∧ Below W.heap.size W w' := fun W h => by
        have := checkWay_ref (Wd := Wd) L k d xs sure (HX.out.ext h).bath HK.out hkn (H3.out.ext h)
        rw [hcw] at this
        exact this
      have cK : ∀ W, Ext w3 W → Calls Try.prog 16 #[] W fun e w' => e = .returned (.bool true) ∧ Below W.heap.size W w' := fun W _ => works_any W
      refine wp_region_specs (ops := waysReg) (fun i v _ => v = waysV Wd A n c A' n' c' ss ds A1 A2 L kl a1 a2 k d p er cw sure i) (Ext w3) (by kernel_rfl) (by kernel_rfl) ⟨rfl, rfl, rfl, Nat.le_refl _, fun _ _ => rfl⟩ (fun _ _ h e => h.trans e) (fun _ _ _ _ h _ => h) waysD (by kernel_rfl) ?_ ?_
      · intro i o ho a W hB hsz hold haft
        have hi : i < 23 := (Array.getElem?_eq_some_iff.1 ho).1
        have hx := HX.out
        match i, hi with
        | 0, _ => exact ways_op0 (hold 11 (by kernel_rfl)) ho
        | 1, _ => exact ways_op1 (hold 13 (by kernel_rfl)) ho
        | 2, _ => exact ways_op2 cI hB haft ho
        | 3, _ => exact ways_op3 haft ho
        | 4, _ => exact ways_op4 (hold 12 (by kernel_rfl)) haft ho
        | 5, _ => exact ways_op5 (hold 14 (by kernel_rfl)) haft ho
        | 6, _ => exact ways_op6 haft ho
        | 7, _ => exact ways_op7 haft ho
        | 8, _ => exact ways_op8 haft ho
        | 9, _ => exact ways_op9 (hold 5 (by kernel_rfl)) hx hB haft ho
        | 10, _ => exact ways_op10 (hold 3 (by kernel_rfl)) haft ho
        | 11, _ => exact ways_op11 (hold 4 (by kernel_rfl)) haft ho
        | 12, _ => exact ways_op12 cP hB haft ho
        | 13, _ => exact ways_op13 (hold 5 (by kernel_rfl)) hx hB haft ho
        | 14, _ => exact ways_op14 (hold 3 (by kernel_rfl)) haft ho
        | 15, _ => exact ways_op15 (hold 4 (by kernel_rfl)) haft ho
        | 16, _ => exact ways_op16 cR hB haft ho
        | 17, _ => exact ways_op17 haft ho
        | 18, _ => exact ways_op18 haft ho
        | 19, _ => exact ways_op19 haft ho
        | 20, _ => exact ways_op20 cK hB haft ho
        | 21, _ => exact ways_op21 haft ho
        | 22, _ => exact ways_op22 haft ho
        | n + 23, h => exact absurd h (by omega)
      · intro a W hB hsz hdf hold hS
        have e10 : a.eval (.tmp 10) = .bool true := hS 22 (show 22 < waysReg.size from Nat.lt_of_lt_of_eq (by omega) (show 23 = waysReg.size by kernel_rfl))
        obtain ⟨tmps, dfs⟩ := a
        obtain rfl : dfs = [] := hdf
        simp only [Exit.then]
        go_at_K
        go_wp2
        exact bodyPost_ret (results_tmp rfl _ _ _) rfl ⟨congrArg Ending.returned e10, HW.out.trans hB⟩
end
end Go.Proofs.Ytckndnaohggmhaa
