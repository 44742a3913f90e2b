/- Texts of the package drop, joined: RefWay, RefCheckWay, DropWaysLast, DropWays, RefSide, RefGroupsOps, RefGroups, JoinTold. -/
import Derived.Test.YtgdpgdnhhjclcaaJo16
import Derived.Test.YtgdpgdnhhjclcaaJo17
import Derived.Test.YtgdpgdnhhjclcaaJo22
import Derived.Test.YtgdpgdnhhjclcaaJo23
import Derived.Deep.Cut
import Derived.StillTailTactics
import Derived.IntWalk
/- The reference's Way: the walk. -/
namespace Go.Proofs.Ytgdpgdnhhjclcaa
open Go.RowKit Go.Shelf

section
variable {w : World} {Wd : Int} {A : Option Addr} {n c : Nat} {A' : Option Addr} {n' c' : Nat} {ss : List (Int × Int)} {ds : List (Int × Int × Int)}

set_option maxRecDepth 100000 in
set_option maxHeartbeats 4000000 in
theorem way_ref_ok (k1 k2 : Nat) (sure : Bool) (hb : IsBath w w.heap.size A n c A' n' c' ss ds) (he : forErr Wd ss ds ((k1 : Int) - 2) ((k2 : Int) - 2) = 0) :
    Calls Try.prog 30 #[.agg #[.int .i64 Wd, .slice A n c, .slice A' n' c'], .int .i64 ((k1 : Int) - 2), .int .i64 ((k2 : Int) - 2), .bool sure] w (WayIs Wd ss ds ((k1 : Int) - 2) ((k2 : Int) - 2) sure w) := by
  obtain ⟨h0, h1, h2, h3⟩ := forErr_ok he
  have hX0 : BathAt (w.alloc (.cells #[.int .i64 Wd, .slice A n c, .slice A' n' c'] 25)) w.heap.size Wd A n c A' n' c' ss ds := BathAt.new hb
  have hE0 : Ext w (w.alloc (.cells #[.int .i64 Wd, .slice A n c, .slice A' n' c'] 25)) := ext_alloc w _
  have hn10 : n ≤ 10 := by have := (bath_ok h0).2.1.1; have := hb.nss; omega
  have cP : ∀ W : World, IsBath W W.heap.size A n c A' n' c' ss ds → _ := fun W h => places_ref (Wd := Wd) ((k1 : Int) - 2) ((k2 : Int) - 2) h
  have cS : ∀ W : World, IsBath W W.heap.size A n c A' n' c' ss ds → _ := fun W h => steps_ref (Wd := Wd) k2 sure h0 h (by omega) ((k2 : Int) - 2) (by omega)
  have cH : ∀ i k : Nat, i < n + 2 → k < n + 2 → i ≠ k → ∀ W : World, IsBath W W.heap.size A n c A' n' c' ss ds → Calls Try.prog 91 #[.agg #[.int .i64 Wd, .slice A n c, .slice A' n' c'], .int .i64 ((i : Int) - 2), .int .i64 ((k : Int) - 2), .bool sure] W fun e w' => e = .returned (.bool (tableOf Wd ss ds sure i k)) ∧ Ext W w' := fun i k hi hk hik W h => by
    have := holds_ref (Wd := Wd) ((i : Int) - 2) ((k : Int) - 2) sure (bath_few h0) h (by omega) (by omega) (by omega) (by omega) (by omega)
    rw [table_holds (by rw [← hb.nss]; exact hi) (by rw [← hb.nss]; exact hk) hik] at this
    exact this
  rw [he] at cP
  have hansE : ∀ (e : Ending) (w' : World), Ext w w' → outs (tableOf Wd ss ds sure) (ss.length + 2) k2 (ss.length + 1) k1 = 0 → e = .returned (.tuple #[.slice none 0 0, .int .i64 5]) → WayIs Wd ss ds ((k1 : Int) - 2) ((k2 : Int) - 2) sure w e w' := fun e w' a1 a2 a3 => by
    refine ⟨a1, .inr (.inl ⟨he, ?_, a3⟩)⟩
    rw [show ((k1 : Int) - 2 + 2).toNat = k1 from by omega, show ((k2 : Int) - 2 + 2).toNat = k2 from by omega]
    exact a2
  have hansW : ∀ (w' : World) (v : Value), Ext w w' → outs (tableOf Wd ss ds sure) (ss.length + 2) k2 (ss.length + 1) k1 ≠ 0 → (∃ base, MadeInts base (nums (wayOf (tableOf Wd ss ds sure) (ss.length + 2) k1 k2)) w' v) → WayIs Wd ss ds ((k1 : Int) - 2) ((k2 : Int) - 2) sure w (.returned (.tuple #[v, .int .i64 0])) w' := fun w' v a1 a2 a3 => by
    obtain ⟨base, a3⟩ := a3
    obtain ⟨A2, c2, rfl, hc2, hH⟩ := madeInts_held a3
    refine ⟨a1, .inr (.inr ⟨he, ?_, A2, wayOf (tableOf Wd ss ds sure) (ss.length + 2) k1 k2, c2, ?_, ?_, hH, ?_⟩)⟩
    · rw [show ((k1 : Int) - 2 + 2).toNat = k1 from by omega, show ((k2 : Int) - 2 + 2).toNat = k2 from by omega]
      exact a2
    · rw [List.length_map]
    · rw [List.length_map] at hc2; exact hc2
    · rw [show ((k1 : Int) - 2 + 2).toNat = k1 from by omega, show ((k2 : Int) - 2 + 2).toNat = k2 from by omega]
  obtain ⟨ans, hans⟩ : ∃ ans, WayIs Wd ss ds ((k1 : Int) - 2) ((k2 : Int) - 2) sure w = ans := ⟨_, rfl⟩
  rw [hans] at hansE hansW ⊢
  obtain ⟨T, hT⟩ : ∃ T, tableOf Wd ss ds sure = T := ⟨_, rfl⟩
  rw [hT] at cH cS hansE hansW
  obtain ⟨m, hm⟩ : ∃ m, ss.length + 2 = m := ⟨_, rfl⟩
  have hm1 : ss.length + 1 = m - 1 := by omega
  have hmn : n + 2 = m := by have := hb.nss; omega
  rw [hm] at cS hansE hansW
  rw [hm1] at cS hansE hansW
  rw [hmn] at cH
  have hk1 : k1 < m := by omega
  have hk2 : k2 < m := by omega
  have HMN := Lib.hid (And.intro hmn hn10)
  have CH := Lib.hid cH
  have HANSE := Lib.hid hansE
  have HANSW := Lib.hid hansW
  clear hT hans hansE hansW hm hm1 h0 hb cH hmn he h1 h2 h3 hn10
  obtain ⟨i0, hi, hz0, hz1, hz2⟩ := info_parts info3
  have HI := Lib.hid hi
  have HZ0 := Lib.hid hz0
  have HZ1 := Lib.hid hz1
  have HZ2 := Lib.hid hz2
  clear hi hz0 hz1 hz2
  obtain ⟨O, hO⟩ : ∃ O, outs T m k2 (m - 1) = O := ⟨_, rfl⟩
  rw [hO] at cS
  have HO := Lib.hid hO
  clear hO
  have hk1z : (k1 : Int) < (m : Int) := by omega
  have hk1b : (k1 : Int) ≤ 12 := by have := HMN.out; omega
  have hk1e : (k1 : Int) - 2 + 2 = (k1 : Int) := by omega
  have HK1 := Lib.hid hk1e
  clear hk1e
  by_cases hz : O k1 = 0
  · have hno : outs T m k2 (m - 1) k1 = 0 := by rw [HO.out]; exact hz
    have HNO := Lib.hid hno
    have hr0 : ∀ (W : World) (g : Nat), W.heap[g]? = some (.cells (outCells O m) 3 (0, 0)) → W.cell? ⟨g, k1, none⟩ = some (.int .i64 0) := fun W g h => by
      have := (cell_of_row _ _ k1 _ _ _ h).trans (outCells_get _ hk1)
      rw [hz] at this
      exact this
    clear hz hno
    have hk1e := HK1.out
    go_enter Try.func30, Try.ntmps30
    go_wp2_with fail
    refine (cP _ hX0.bath).mono ?_
    rintro e w1 ⟨rfl, hb1⟩
    have hX1 := hX0.ext hb1
    have hE1 := hE0.trans hb1
    clear hX0 hE0 hb1
    obtain ⟨q0, q1, q2⟩ := hX1.cells
    go_wp2_with fail
    refine (cS _ hX1.bath).mono ?_
    rintro e w2 ⟨g, rfl, e2, hg, r2⟩
    have hc := hr0 _ _ r2
    have hE2 := Lib.hid (hE1.trans e2)
    clear hX1 hE1 e2 q0 q1 q2 cP cS r2 hr0
    go_wp2
    exact HANSE.out _ _ hE2.out HNO.out rfl
  · have hyes : outs T m k2 (m - 1) k1 ≠ 0 := by rw [HO.out]; exact hz
    have HYES := Lib.hid hyes
    have hr0 : ∀ (W : World) (g : Nat), W.heap[g]? = some (.cells (outCells O m) 3 (0, 0)) → W.cell? ⟨g, k1, none⟩ = some (.int .i64 (O k1)) := fun W g h => (cell_of_row _ _ k1 _ _ _ h).trans (outCells_get _ hk1)
    have hzz : (((O k1 : Nat) : Int) == 0) = false := by simp [hz]
    obtain ⟨x, hx⟩ : ∃ x : Int, ((O k1 : Nat) : Int) = x := ⟨_, rfl⟩
    rw [hx] at hzz hr0
    clear hz hyes hx
    have hk1e := HK1.out
    go_enter Try.func30, Try.ntmps30
    go_wp2_with fail
    refine (cP _ hX0.bath).mono ?_
    rintro e w1 ⟨rfl, hb1⟩
    have hX1 := hX0.ext hb1
    have hE1 := hE0.trans hb1
    clear hX0 hE0 hb1
    obtain ⟨q0, q1, q2⟩ := hX1.cells
    go_wp2_with fail
    refine (cS _ hX1.bath).mono ?_
    rintro e w2 ⟨g, rfl, e2, hg, r2⟩
    have hc := hr0 _ _ r2
    have HX2 := Lib.hid (hX1.ext e2)
    have hE2 := Lib.hid (hE1.trans e2)
    have R2 := Lib.hid r2
    clear hX1 hE1 e2 q0 q1 q2 cP cS r2 hr0 hg
    go_upto_region 7 with fail
    obtain ⟨w3, hw3, m3, e3⟩ : ∃ w3, w2.alloc (.cells #[.int .i64 ((k1 : Int) - 2)] 3) = w3 ∧ MadeInts w2.heap.size [(k1 : Int) - 2] w3 (.slice (some ⟨w2.heap.size, 0, none⟩) 1 1) ∧ Ext w2 w3 := ⟨_, rfl, made_one _ _ (Nat.le_refl _), ext_alloc _ _⟩
    rw [hw3]
    clear hw3 hc hk1e hzz
    generalize Value.slice (some ⟨w2.heap.size, 0, none⟩) 1 1 = v3 at m3 ⊢
    obtain ⟨B, hB⟩ : ∃ B, w2.heap.size = B := ⟨_, rfl⟩
    rw [hB] at m3
    have HB0 := Lib.hid hB
    have M3 := Lib.hid m3
    have E3 := Lib.hid e3
    clear hB m3 e3
    have eB := E3.out.size
    go_wp2
    go_loopw [11, 12, 13, 14] (fun v a _ _ wr => ∃ (pre : List Nat) (i : Nat), a = .int .i64 ((i : Int) - 2) ∧ Hid (OnWay T m k2 (wayOf T m k1 k2) pre i) ∧ Hid (Ext w2 wr) ∧ Hid (MadeInts B (nums (pre ++ [i])) wr v)) (fun _ a _ _ _ => O (intOf a + 2).toNat)
    case atStart => exact ⟨[], k1, rfl, Lib.hid (OnWay.start (by have := HMN.out; omega) hk1 HYES.out), E3, M3⟩
    case round =>
      obtain ⟨pre, i, rfl, hW, hB, hM⟩ := hrel
      have hi := hW.out.lt
      have hiz : (i : Int) < (m : Int) := by omega
      have hib : (i : Int) ≤ 12 := by have := HMN.out; omega
      by_cases hit : i = k2
      · have hitz : ((i : Int) - 2 != (k2 : Int) - 2) = false := by simp [hit]
        have hw := hW.out
        rw [hit] at hw
        have hm := hM.out
        rw [hit, ← hw.stop] at hm
        have hM2 := Lib.hid (Exists.intro B hm : ∃ base, MadeInts base _ wr _)
        clear hit hw hW hM hm
        go_wp2
        exact HANSW.out _ _ (hE2.out.trans hB.out) HYES.out hM2.out
      · have hitz : ((i : Int) - 2 != (k2 : Int) - 2) = true := by simp; omega
        obtain ⟨hm1, hm2, hm3⟩ := hW.out.more hit
        rw [HO.out] at hm1 hm2 hm3
        have HN1 := Lib.hid hm1
        have HN2 := Lib.hid hm2
        have HN3 := Lib.hid hm3
        clear hm1 hm2 hm3 hit
        obtain ⟨wo, rfl⟩ : ∃ wo : World, wo = wr := ⟨_, rfl⟩
        go_wp2
        go_loopw [13, 14] (fun x p wr => ∃ k : Nat, k ≤ m ∧ p = .int .i64 ((k : Int) - 2) ∧ x = .int .i64 (nextTo (nearP T O i) k) ∧ Hid (Ext wo wr)) (fun _ p _ => m - (intOf p + 2).toNat)
        case atStart => exact ⟨0, Nat.zero_le _, rfl, rfl, Lib.hid (Ext.refl _)⟩
        case round =>
          obtain ⟨k, hk, rfl, rfl, hC⟩ := hrel
          have hx := HX2.out.ext (hB.out.trans hC.out)
          obtain ⟨q0, q1, q2⟩ := hx.cells
          by_cases hlt : k < m
          · have hltz : (k : Int) - 2 < (n : Int) := by have := HMN.out; omega
            have hkz : (k : Int) < (m : Int) := by omega
            have hkb : (k : Int) ≤ 12 := by have := HMN.out; omega
            have hcK : wr.cell? ⟨g, k, none⟩ = some (.int .i64 (O k)) := (cell_of_row _ _ _ _ _ _ (row_ext R2.out (hB.out.trans hC.out))).trans (outCells_get _ hlt)
            have hcI : wr.cell? ⟨g, i, none⟩ = some (.int .i64 (O i)) := (cell_of_row _ _ _ _ _ _ (row_ext R2.out (hB.out.trans hC.out))).trans (outCells_get _ hi)
            obtain ⟨u, hu⟩ : ∃ u : Int, ((O k : Nat) : Int) = u := ⟨_, rfl⟩
            obtain ⟨v, hv⟩ : ∃ v : Int, ((O i : Nat) : Int) = v := ⟨_, rfl⟩
            have hOk : O k ≤ 13 := by rw [← HO.out]; have := outs_le (H := T) (n := m) (t := k2) (m - 1) k; have := HMN.out; omega
            have hOi : O i ≤ 13 := by rw [← HO.out]; have := outs_le (H := T) (n := m) (t := k2) (m - 1) i; have := HMN.out; omega
            have hu1 : 0 ≤ u := by omega
            have hu2 : u ≤ 13 := by omega
            have hv1 : 0 ≤ v := by omega
            have hv2 : v ≤ 13 := by omega
            rw [hu] at hcK
            rw [hv] at hcI
            have HU := Lib.hid hu
            have HV := Lib.hid hv
            have hnb := nextTo_bd (nearP T O i) k
            obtain ⟨nx, hnx⟩ : ∃ nx, nextTo (nearP T O i) k = nx := ⟨_, rfl⟩
            rw [hnx] at hnb ⊢
            obtain ⟨hnb1, hnb2⟩ := hnb
            have HNX := Lib.hid hnx
            have hke : (k : Int) - 2 + 2 = (k : Int) := by omega
            have hie : (i : Int) - 2 + 2 = (i : Int) := by omega
            clear hu hv hnx hOk hOi
            by_cases h3 : nx = -3
            · subst h3
              by_cases hki : k = i
              · have hkiz : ((k : Int) - 2 != (i : Int) - 2) = false := by simp [hki]
                have hN : Hid (nextTo (nearP T O i) (k + 1) = -3) := Lib.hid (by rw [nextTo_no (by simp [nearP, hki]), HNX.out])
                clear hki hx
                go_wp2
                go_quiet (fail)
                go_wp2
                go_roundw
                case measure => simp [intOf]; omega
                case rel => exact ⟨k + 1, by omega, by go_num, by rw [hN.out], Lib.hid (ext_drewN hC.out _)⟩
              · have hkiz : ((k : Int) - 2 != (i : Int) - 2) = true := by simp; omega
                by_cases huv : u = v - 1
                · have huvz : (u == v - 1) = true := by simp [huv]
                  by_cases hu0 : 0 < u
                  · have hP : Hid (nearP T O i k = T i k) := Lib.hid (by
                      have h1 : O k + 1 = O i := by have := HU.out; have := HV.out; omega
                      have h2 : O k ≠ 0 := by have := HU.out; omega
                      simp [nearP, hki, h1]; intro; omega)
                    have cC := fun W h => CH.out i k hi hlt (fun e => hki e.symm) W h
                    have HUV := Lib.hid huv
                    clear hki huv hx
                    cases hT : T i k with
                    | true =>
                      rw [hT] at cC
                      have hN : Hid (nextTo (nearP T O i) (k + 1) = (k : Int) - 2) := Lib.hid (nextTo_yes HNX.out (by rw [hP.out, hT]))
                      clear hT
                      have hwk : IntKind.i64.wrap (k : Int) = (k : Int) := IntWalk.i64_in _ (by omega)
                      have hwi : IntKind.i64.wrap (i : Int) = (i : Int) := IntWalk.i64_in _ (by omega)
                      have hwv : IntKind.i64.wrap (v - 1) = v - 1 := IntWalk.i64_in _ (by omega)
                      go_wp2
                      refine wp_region_still_tail 34 (by kernel_rfl) (by kernel_rfl) ?_
                      obtain ⟨wd, hwd, ed⟩ : ∃ wd : World, ({ wr with drawn := wr.drawn + 1 } : World) = wd ∧ Ext wr wd := ⟨_, rfl, (Below.refl _ wr).drew⟩
                      rw [hwd]
                      clear hwd
                      have hCd := hC.out.trans ed
                      clear hcK hcI q0 q1 q2
                      have hxd := HX2.out.ext (hB.out.trans hCd)
                      obtain ⟨q0, q1, q2⟩ := hxd.cells
                      have hcK : wd.cell? ⟨g, k, none⟩ = some (.int .i64 u) := by rw [← HU.out]; exact (cell_of_row _ _ _ _ _ _ (row_ext R2.out (hB.out.trans hCd))).trans (outCells_get _ hlt)
                      have hcI : wd.cell? ⟨g, i, none⟩ = some (.int .i64 v) := by rw [← HV.out]; exact (cell_of_row _ _ _ _ _ _ (row_ext R2.out (hB.out.trans hCd))).trans (outCells_get _ hi)
                      have HCd := Lib.hid hCd
                      have cD := cC wd hxd.bath
                      clear hxd hCd ed
                      simp only [List.take_succ_cons, List.take_zero, List.drop_succ_cons, List.drop_zero]
                      repeat still_step
                      refine wpStill_nil ?_
                      go_wp2_with fail
                      refine cD.mono ?_
                      rintro e w6 ⟨rfl, e6⟩
                      have hE6 := Lib.hid (HCd.out.trans e6)
                      clear e6 cD q0 q1 q2 hcK hcI
                      go_wp2
                      go_roundw
                      case measure => simp [intOf]; omega
                      case rel => exact ⟨k + 1, by omega, by go_num, by rw [hN.out], hE6⟩
                    | false =>
                      rw [hT] at cC
                      have hN : Hid (nextTo (nearP T O i) (k + 1) = -3) := Lib.hid (by rw [nextTo_no (by rw [hP.out, hT]), HNX.out])
                      clear hT
                      have hwk : IntKind.i64.wrap (k : Int) = (k : Int) := IntWalk.i64_in _ (by omega)
                      have hwi : IntKind.i64.wrap (i : Int) = (i : Int) := IntWalk.i64_in _ (by omega)
                      have hwv : IntKind.i64.wrap (v - 1) = v - 1 := IntWalk.i64_in _ (by omega)
                      go_wp2
                      refine wp_region_still_tail 34 (by kernel_rfl) (by kernel_rfl) ?_
                      obtain ⟨wd, hwd, ed⟩ : ∃ wd : World, ({ wr with drawn := wr.drawn + 1 } : World) = wd ∧ Ext wr wd := ⟨_, rfl, (Below.refl _ wr).drew⟩
                      rw [hwd]
                      clear hwd
                      have hCd := hC.out.trans ed
                      clear hcK hcI q0 q1 q2
                      have hxd := HX2.out.ext (hB.out.trans hCd)
                      obtain ⟨q0, q1, q2⟩ := hxd.cells
                      have hcK : wd.cell? ⟨g, k, none⟩ = some (.int .i64 u) := by rw [← HU.out]; exact (cell_of_row _ _ _ _ _ _ (row_ext R2.out (hB.out.trans hCd))).trans (outCells_get _ hlt)
                      have hcI : wd.cell? ⟨g, i, none⟩ = some (.int .i64 v) := by rw [← HV.out]; exact (cell_of_row _ _ _ _ _ _ (row_ext R2.out (hB.out.trans hCd))).trans (outCells_get _ hi)
                      have HCd := Lib.hid hCd
                      have cD := cC wd hxd.bath
                      clear hxd hCd ed
                      simp only [List.take_succ_cons, List.take_zero, List.drop_succ_cons, List.drop_zero]
                      repeat still_step
                      refine wpStill_nil ?_
                      go_wp2_with fail
                      refine cD.mono ?_
                      rintro e w6 ⟨rfl, e6⟩
                      have hE6 := Lib.hid (HCd.out.trans e6)
                      clear e6 cD q0 q1 q2 hcK hcI
                      go_wp2
                      go_roundw
                      case measure => simp [intOf]; omega
                      case rel => exact ⟨k + 1, by omega, by go_num, by rw [hN.out], hE6⟩
                  · have hu0z : decide (0 < u) = false := by simp [hu0]
                    have hN : Hid (nextTo (nearP T O i) (k + 1) = -3) := Lib.hid (by
                      have h2 : O k = 0 := by have := HU.out; omega
                      rw [nextTo_no (by simp [nearP, h2]), HNX.out])
                    have HUV := Lib.hid huv
                    clear hki huv hx
                    go_wp2
                    go_quiet (fail)
                    go_wp2
                    go_roundw
                    case measure => simp [intOf]; omega
                    case rel => exact ⟨k + 1, by omega, by go_num, by rw [hN.out], Lib.hid (ext_drewN hC.out _)⟩
                · have huvz : (u == v - 1) = false := by simp [huv]
                  have hN : Hid (nextTo (nearP T O i) (k + 1) = -3) := Lib.hid (by
                    have h1 : O k + 1 ≠ O i := by have := HU.out; have := HV.out; omega
                    rw [nextTo_no (by simp [nearP, h1]), HNX.out])
                  clear hki huv hx
                  go_wp2
                  go_quiet (fail)
                  go_wp2
                  go_roundw
                  case measure => simp [intOf]; omega
                  case rel => exact ⟨k + 1, by omega, by go_num, by rw [hN.out], Lib.hid (ext_drewN hC.out _)⟩
            · have h3z : (nx == -3) = false := by simp [h3]
              have hN : Hid (nextTo (nearP T O i) (k + 1) = nx) := Lib.hid (by rw [nextTo_found (by rw [HNX.out]; exact h3), HNX.out])
              clear h3 hx
              go_wp2
              go_quiet (fail)
              go_wp2
              go_roundw
              case measure => simp [intOf]; omega
              case rel => exact ⟨k + 1, by omega, by go_num, by rw [hN.out], Lib.hid (ext_drewN hC.out _)⟩
          · have hltz : ¬ (k : Int) - 2 < (n : Int) := by have := HMN.out; omega
            obtain rfl : k = m := by omega
            rw [HN1.out]
            clear hx
            obtain ⟨y, hy⟩ : ∃ y, nextOf T k O i = y := ⟨_, rfl⟩
            rw [hy] at HN2 HN3 ⊢
            have hyb : (y : Int) < 13 := by have := HN2.out.lt; have := HMN.out; omega
            have hO0 := (hM.out.ext hC.out).1
            have hL13 : (nums (pre ++ [i])).length ≤ 13 := by have := hW.out.long; simp; omega
            obtain ⟨L, hL⟩ : ∃ L, (nums (pre ++ [i])).length = L := ⟨_, rfl⟩
            rw [hL] at hO0 hL13
            have hO1 := Lib.hid hO0
            have HL := Lib.hid hL
            clear hL hO0
            have hE1 := Lib.hid (hB.out.trans hC.out)
            have hsz : B ≤ wr.heap.size := by have := HB0.out; have := hE1.out.size; omega
            clear hy hB hC hM hW
            go_wp2_with (first | (at_builtin; refine wpList_append_own _ rfl (.tmp 84) (.tmp 86) 42 rfl B 3 i0 (.int .i64 0) 1 8 Try.underlying42 HI.out HZ0.out HZ1.out HZ2.out rfl (by decide) _ L _ rfl (hO1.out.alloc _) ⟨wr.heap.size, 0, none⟩ 1 1 [.int .i64 ((y : Int) - 2)] rfl rfl (cell_one_new _ _ _) (one_cell' _) ?c3 ?c4 ?c5 ?_))
            case c3 => unfold maxLen; omega
            case c4 => omega
            case c5 => first | omega | (simp; omega)
            · intro v' w5 hown' hgrow _
              have hE5 : Hid (Ext w2 w5) := Lib.hid ((hE1.out.alloc hE1.out.size (.cells #[.int .i64 ((y : Int) - 2)] 3)).grown hgrow (by have := hE1.out.size; simp; omega) (fun b e => by have := (hO1.out.lt b e).1; have := HB0.out; omega))
              have hO5 : Hid (MadeInts B (nums (pre ++ [i] ++ [y])) w5 v') := Lib.hid ⟨by
                rw [nums_snoc (pre ++ [i]), List.length_append, List.map_append, HL.out]
                simpa using hown', fun e => by rw [nums_snoc] at e; simp at e⟩
              clear hown' hgrow hO1 hE1
              go_wp2
              go_roundw
              case measure =>
                show O ((y : Int) - 2 + 2).toNat < O ((i : Int) - 2 + 2).toNat
                rw [show ((y : Int) - 2 + 2).toNat = y from by omega, show ((i : Int) - 2 + 2).toNat = i from by omega]
                exact HN3.out
              case rel => exact ⟨pre ++ [i], y, rfl, Lib.hid HN2.out, hE5, hO5⟩
set_option maxRecDepth 100000 in
set_option maxHeartbeats 1000000 in
theorem way_ref (one two : Int) (sure : Bool) (hb : IsBath w w.heap.size A n c A' n' c' ss ds) :
    Calls Try.prog 30 #[.agg #[.int .i64 Wd, .slice A n c, .slice A' n' c'], .int .i64 one, .int .i64 two, .bool sure] w (WayIs Wd ss ds one two sure w) := by
  by_cases he : forErr Wd ss ds one two = 0
  · obtain ⟨_, _, h2, h3⟩ := forErr_ok he
    obtain ⟨k1, hk1⟩ := Int.eq_ofNat_of_zero_le (show 0 ≤ one + 2 by omega)
    obtain ⟨k2, hk2⟩ := Int.eq_ofNat_of_zero_le (show 0 ≤ two + 2 by omega)
    obtain rfl : one = (k1 : Int) - 2 := by omega
    obtain rfl : two = (k2 : Int) - 2 := by omega
    exact way_ref_ok k1 k2 sure hb he
  · have hX0 : BathAt (w.alloc (.cells #[.int .i64 Wd, .slice A n c, .slice A' n' c'] 25)) w.heap.size Wd A n c A' n' c' ss ds := BathAt.new hb
    have hE0 : Ext w (w.alloc (.cells #[.int .i64 Wd, .slice A n c, .slice A' n' c'] 25)) := ext_alloc w _
    have cP : ∀ W : World, IsBath W W.heap.size A n c A' n' c' ss ds → _ := fun W h => places_ref (Wd := Wd) one two h
    have hans : ∀ (w' : World), Ext w w' → WayIs Wd ss ds one two sure w (.returned (.tuple #[.slice none 0 0, .int .i64 (forErr Wd ss ds one two)])) w' := fun w' h => ⟨h, .inl ⟨he, rfl⟩⟩
    obtain ⟨ans, ha⟩ : ∃ ans, WayIs Wd ss ds one two sure w = ans := ⟨_, rfl⟩
    rw [ha] at hans ⊢
    generalize forErr Wd ss ds one two = r at he cP hans
    have hne2 : (r != 0) = true := by simpa using he
    have HANS := Lib.hid hans
    clear hb ha hans he
    go_enter Try.func30, Try.ntmps30
    go_wp2_with fail
    refine (cP _ hX0.bath).mono ?_
    rintro e w1 ⟨rfl, hb1⟩
    have hX1 := hX0.ext hb1
    have hE1 := Lib.hid (hE0.trans hb1)
    clear hX0 hE0 hb1
    obtain ⟨q0, q1, q2⟩ := hX1.cells
    go_wp2_with fail
    refine (cP _ hX1.bath).mono ?_
    rintro e w2 ⟨rfl, hb2⟩
    have hE2 := Lib.hid (hE1.out.trans hb2)
    clear hX1 hE1 hb2 q0 q1 q2 cP
    go_wp2
    exact HANS.out _ hE2.out
end
end Go.Proofs.Ytgdpgdnhhjclcaa

/- The reference's CheckWay. -/
namespace Go.Proofs.Ytgdpgdnhhjclcaa
open Go.RowKit Go.Shelf

theorem held_ext {w : World} {A : Option Addr} {xs : List Int} (hh : Held w w.heap.size 1 encI A xs) {W : World} (hB : Ext w W) {k : Nat} (hk : k < xs.length) : ∃ b off, A = some ⟨b, off, none⟩ ∧ W.cell? ⟨b, off + k, none⟩ = some (.int .i64 xs[k]) := held_get hh hB hk
theorem nodup_take_succ {xs : List Int} {k : Nat} (hk : k < xs.length) (h : (xs.take k).Nodup) (hn : ∀ j, (hj : j < k) → xs[k] ≠ xs[j]'(by omega)) : (xs.take (k + 1)).Nodup := by
  rw [List.take_succ_eq_append_getElem hk, List.nodup_append]
  refine ⟨h, by simp, fun a ha b hb => ?_⟩
  rw [List.mem_singleton] at hb
  subst hb
  obtain ⟨j, hj, e⟩ := List.getElem_of_mem ha
  rw [List.getElem_take] at e
  rw [List.length_take] at hj
  rw [← e]
  exact fun e2 => hn j (by omega) e2.symm
theorem all_take_succ {α : Type} (p : α → Bool) {xs : List α} {k : Nat} (hk : k < xs.length) (h : (xs.take k).all p = true) (hp : p xs[k] = true) : (xs.take (k + 1)).all p = true := by
  rw [List.take_succ_eq_append_getElem hk, List.all_append, h]
  simp [hp]
theorem all_no_at {α : Type} (p : α → Bool) {xs : List α} {k : Nat} (hk : k < xs.length) (hp : p xs[k] = false) : xs.all p = false := by
  rw [List.all_eq_false]
  exact ⟨xs[k], List.getElem_mem hk, by simp [hp]⟩

section
variable {w : World} {Wd : Int} {A : Option Addr} {n c : Nat} {A' : Option Addr} {n' c' : Nat} {ss : List (Int × Int)} {ds : List (Int × Int × Int)}

set_option maxRecDepth 100000 in
set_option maxHeartbeats 4000000 in
theorem checkWay_ref (L : Option Addr) (k d : Nat) (xs : List Int) (sure : Bool) (hb : IsBath w w.heap.size A n c A' n' c' ss ds) (hk : k = xs.length) (hkn : k ≤ 9223372036854775807) (hh : Held w w.heap.size 1 encI L xs) :
    Calls Try.prog 33 #[.agg #[.int .i64 Wd, .slice A n c, .slice A' n' c'], .slice L k d, .bool sure] w fun e w' => e = .returned (.int .i64 (checkWayAns Wd ss ds xs sure)) ∧ Ext w w' := by
  have hX0 : BathAt (w.alloc (.cells #[.int .i64 Wd, .slice A n c, .slice A' n' c'] 25)) w.heap.size Wd A n c A' n' c' ss ds := BathAt.new hb
  have hE0 : Ext w (w.alloc (.cells #[.int .i64 Wd, .slice A n c, .slice A' n' c'] 25)) := ext_alloc w _
  have cB : ∀ W : World, IsBath W W.heap.size A n c A' n' c' ss ds → _ := fun W h => checkBath_ref (Wd := Wd) h
  by_cases h0 : bathErr Wd ss ds = 0
  · rw [h0] at cB
    have hans : checkWayAns Wd ss ds xs sure = if inside 2 12 (k : Int) = true then if xs.all (placeB n) = true then if xs.Nodup then if wayB (tableOf Wd ss ds sure) xs = true then 0 else 17 else 15 else 2 else 6 := by
      unfold checkWayAns
      rw [if_pos h0, ← hb.nss, ← hk]
    have cH : ∀ x y : Int, placeB n x = true → placeB n y = true → x ≠ y → ∀ W : World, IsBath W W.heap.size A n c A' n' c' ss ds → Calls Try.prog 91 #[.agg #[.int .i64 Wd, .slice A n c, .slice A' n' c'], .int .i64 x, .int .i64 y, .bool sure] W fun e w' => e = .returned (.bool (tableOf Wd ss ds sure (x + 2).toNat (y + 2).toNat)) ∧ Ext W w' := fun x y hx hy hxy W h => by
      simp only [placeB, Bool.and_eq_true, decide_eq_true_eq] at hx hy
      have := holds_ref (Wd := Wd) x y sure (bath_few h0) h hx.1 hx.2 hy.1 hy.2 hxy
      have e := table_holds (Wd := Wd) (ss := ss) (ds := ds) (sure := sure) (i := (x + 2).toNat) (k := (y + 2).toNat) (by have := hb.nss; omega) (by have := hb.nss; omega) (by omega)
      rw [show (((x + 2).toNat : Nat) : Int) - 2 = x from by omega, show (((y + 2).toNat : Nat) : Int) - 2 = y from by omega] at e
      rw [e] at this
      exact this
    have cP : ∀ (x : Int) (W : World), Calls Try.prog 96 #[.agg #[.int .i64 Wd, .slice A n c, .slice A' n' c'], .int .i64 x] W fun e w' => e = .returned (.bool (placeB n x)) ∧ Ext W w' := fun x W => isPlace_ref (Wd := Wd) (A := A) (n := n) (c := c) (A' := A') (n' := n') (c' := c') x W
    obtain ⟨T, hT⟩ : ∃ T, tableOf Wd ss ds sure = T := ⟨_, rfl⟩
    rw [hT] at cH hans
    obtain ⟨ans, ha⟩ : ∃ ans, checkWayAns Wd ss ds xs sure = ans := ⟨_, rfl⟩
    rw [ha] at hans ⊢
    have HANS := Lib.hid hans
    have CH := Lib.hid cH
    have CP := Lib.hid cP
    have HK := Lib.hid hk
    have HH := Lib.hid hh
    clear hT ha hans cH cP hk hh hb h0
    by_cases hk2 : k < 2
    · have hk2z : (k : Int) < 2 := by omega
      obtain rfl : ans = 6 := by rw [HANS.out, if_neg (by simp [inside]; omega)]
      go_enter Try.func33, Try.ntmps33
      go_wp2_with fail
      refine (cB _ hX0.bath).mono ?_
      rintro e w1 ⟨rfl, hb1⟩
      have hE1 := Lib.hid (hE0.trans hb1)
      clear hX0 hE0 hb1 cB
      go_wp2
      go_ret
      exact ⟨rfl, hE1.out⟩
    by_cases hk12 : 12 < k
    · have hk2z : ¬ (k : Int) < 2 := by omega
      have hk12z : (12 : Int) < k := by omega
      obtain rfl : ans = 6 := by rw [HANS.out, if_neg (by simp [inside]; omega)]
      go_enter Try.func33, Try.ntmps33
      go_wp2_with fail
      refine (cB _ hX0.bath).mono ?_
      rintro e w1 ⟨rfl, hb1⟩
      have hE1 := Lib.hid (hE0.trans hb1)
      clear hX0 hE0 hb1 cB
      go_wp2
      go_ret
      exact ⟨rfl, hE1.out⟩
    have hk2z : ¬ (k : Int) < 2 := by omega
    have hk12z : ¬ (12 : Int) < k := by omega
    have HANS2 : Hid (ans = if xs.all (placeB n) = true then if xs.Nodup then if wayB T xs = true then 0 else 17 else 15 else 2) := Lib.hid (by rw [HANS.out, if_pos (by simp [inside]; omega)])
    clear HANS
    go_enter Try.func33, Try.ntmps33
    go_wp2_with fail
    refine (cB _ hX0.bath).mono ?_
    rintro e w1 ⟨rfl, hb1⟩
    have HX1 := Lib.hid (hX0.ext hb1)
    have HE1 := Lib.hid (hE0.trans hb1)
    clear hX0 hE0 hb1 cB
    go_wp2
    clear hk2z hk12z
    go_loopw [6, 7] (fun _ z wr => ∃ i : Nat, i ≤ k ∧ z = .int .i64 (i : Int) ∧ Hid (Ext w1 wr) ∧ Hid ((xs.take i).all (placeB n) = true)) (fun _ z _ => k - (intOf z).toNat)
    case atStart => exact ⟨0, Nat.zero_le _, rfl, Lib.hid (Ext.refl _), Lib.hid rfl⟩
    case round =>
      obtain ⟨i, hi, rfl, hB, hA⟩ := hrel
      by_cases hlt : i < k
      · have hltz : (i : Int) < (k : Int) := by omega
        have hil : i < xs.length := by rw [← HK.out]; exact hlt
        go_wp2
        refine wp_region_still_tail 5 (by kernel_rfl) (by kernel_rfl) ?_
        obtain ⟨wd, hwd, ed⟩ : ∃ wd : World, ({ wr with drawn := wr.drawn + 1 } : World) = wd ∧ Ext wr wd := ⟨_, rfl, (Below.refl _ wr).drew⟩
        rw [hwd]
        clear hwd
        have hBd := hB.out.trans ed
        obtain ⟨q0, q1, q2⟩ := (HX1.out.ext hBd).cells
        obtain ⟨b, off, rfl, hc⟩ := held_ext HH.out (HE1.out.trans hBd) hil
        obtain ⟨x, hx⟩ : ∃ x, xs[i] = x := ⟨_, rfl⟩
        rw [hx] at hc
        have HXI := Lib.hid hx
        have cC := CP.out x wd
        have HBd := Lib.hid hBd
        clear hx hBd ed hB
        simp only [List.take_succ_cons, List.take_zero, List.drop_succ_cons, List.drop_zero]
        repeat still_step
        refine wpStill_nil ?_
        cases hp : placeB n x with
        | true =>
          rw [hp] at cC
          have hA1 : Hid ((xs.take (i + 1)).all (placeB n) = true) := Lib.hid (all_take_succ _ hil hA.out (by rw [HXI.out]; exact hp))
          clear hp hA
          go_wp2_with fail
          refine cC.mono ?_
          rintro e w3 ⟨rfl, e3⟩
          have hE3 := Lib.hid (HBd.out.trans e3)
          clear e3 q0 q1 q2 hc cC
          go_wp2
          go_roundw
          case measure => simp [intOf]; omega
          case rel => exact ⟨i + 1, by omega, by go_num, hE3, hA1⟩
        | false =>
          rw [hp] at cC
          obtain rfl : ans = 2 := by rw [HANS2.out, if_neg (by rw [all_no_at (placeB n) hil (by rw [HXI.out]; exact hp)]; simp)]
          clear hp hA
          go_wp2_with fail
          refine cC.mono ?_
          rintro e w3 ⟨rfl, e3⟩
          have hE3 := Lib.hid (HE1.out.trans (HBd.out.trans e3))
          clear e3 q0 q1 q2 hc cC
          go_wp2
          go_ret
          exact ⟨rfl, hE3.out⟩
      · have hltz : ¬ (i : Int) < (k : Int) := by omega
        obtain rfl : i = k := by omega
        have hAll : xs.all (placeB n) = true := by
          have := hA.out
          rw [HK.out, List.take_length] at this
          exact this
        have HALL := Lib.hid hAll
        have HANS3 : Hid (ans = if xs.Nodup then if wayB T xs = true then 0 else 17 else 15) := Lib.hid (by rw [HANS2.out, if_pos hAll])
        clear hAll hA HANS2
        go_wp2
        have EB := hB
        clear hB hi hltz hlt
        go_loopw [6, 8, 9] (fun _ z _ wr => ∃ j : Nat, j ≤ i ∧ z = .int .i64 (j : Int) ∧ Hid (Ext w1 wr) ∧ Hid ((xs.take j).Nodup)) (fun _ z _ _ => i - (intOf z).toNat)
        case atStart => exact ⟨0, Nat.zero_le _, rfl, EB, Lib.hid List.nodup_nil⟩
        case round =>
          clear EB
          obtain ⟨j, hj, rfl, hB, hA⟩ := hrel
          by_cases hlt : j < i
          · have hltz : (j : Int) < (i : Int) := by omega
            have hjl : j < xs.length := by rw [← HK.out]; exact hlt
            go_wp2
            go_loopw [6, 9] (fun _ z wr => ∃ m : Nat, m ≤ j ∧ z = .int .i64 (m : Int) ∧ Hid (Ext w1 wr) ∧ Hid (∀ q, (hq : q < m) → (hl : q < xs.length) → xs[j] ≠ xs[q])) (fun _ z _ => j - (intOf z).toNat)
            case atStart => exact ⟨0, Nat.zero_le _, rfl, hB, Lib.hid (fun q hq => absurd hq (by omega))⟩
            case round =>
              clear hB
              obtain ⟨m, hm, rfl, hB, hN⟩ := hrel
              by_cases hmj : m < j
              · have hmjz : (m : Int) < (j : Int) := by omega
                have hmiz : (m : Int) < (i : Int) := by omega
                have hml : m < xs.length := by omega
                obtain ⟨b, off, rfl, hc⟩ := held_ext HH.out (HE1.out.trans hB.out) hjl
                obtain ⟨b', off', hbb, hc'⟩ := held_ext HH.out (HE1.out.trans hB.out) hml
                cases hbb
                obtain ⟨x, hx⟩ : ∃ x, xs[j] = x := ⟨_, rfl⟩
                obtain ⟨y, hy⟩ : ∃ y, xs[m] = y := ⟨_, rfl⟩
                rw [hx] at hc
                rw [hy] at hc'
                have HXY := Lib.hid (And.intro hx hy)
                clear hx hy
                by_cases hxy : x = y
                · have hxyz : (x == y) = true := by simp [hxy]
                  obtain rfl : ans = 15 := by
                    rw [HANS3.out, if_neg]
                    intro hnd
                    exact List.pairwise_iff_getElem.1 hnd m j hml hjl hmj (HXY.out.2.trans (hxy.symm.trans HXY.out.1.symm))
                  clear hxy
                  go_wp2
                  go_quiet (fail)
                  go_wp2
                  go_ret
                  exact ⟨rfl, HE1.out.trans (ext_drewN hB.out _)⟩
                · have hxyz : (x == y) = false := by simp [hxy]
                  have hN1 : Hid (∀ q, (hq : q < m + 1) → (hl : q < xs.length) → xs[j] ≠ xs[q]) := Lib.hid fun q hq hl => by
                    by_cases e : q = m
                    · subst e
                      rw [HXY.out.1, HXY.out.2]
                      exact hxy
                    · exact hN.out q (by omega) hl
                  clear hxy hN
                  go_wp2
                  go_quiet (fail)
                  go_wp2
                  go_roundw
                  case measure => simp [intOf]; omega
                  case rel => exact ⟨m + 1, by omega, by go_num, Lib.hid (ext_drewN hB.out _), hN1⟩
              · have hmjz : ¬ (m : Int) < (j : Int) := by omega
                obtain rfl : m = j := by omega
                have hA1 : Hid ((xs.take (m + 1)).Nodup) := Lib.hid (nodup_take_succ hjl hA.out fun q hq => hN.out q hq (by omega))
                clear hN hA
                go_wp2
                go_roundw
                case measure => simp [intOf]; omega
                case rel => exact ⟨m + 1, by omega, by go_num, hB, hA1⟩
          · have hltz : ¬ (j : Int) < (i : Int) := by omega
            have hND : xs.Nodup := by
              have := hA.out
              rw [show j = i from by omega, HK.out, List.take_length] at this
              exact this
            have HND := Lib.hid hND
            have HANS4 : Hid (ans = if wayB T xs = true then 0 else 17) := Lib.hid (by rw [HANS3.out, if_pos hND])
            clear hND hA HANS3
            go_wp2
            have EB := hB
            clear hB hltz hlt hj
            have hi2 : 2 ≤ i := by omega
            have hi12 : i ≤ 12 := by omega
            go_loopw [6, 10] (fun _ z wr => ∃ m : Nat, m + 1 ≤ i ∧ z = .int .i64 ((m : Int) + 1) ∧ Hid (Ext w1 wr) ∧ Hid (∀ q, q < m → T (xs.getD q 0 + 2).toNat (xs.getD (q + 1) 0 + 2).toNat = true)) (fun _ z _ => i - (intOf z).toNat)
            case atStart => exact ⟨0, by omega, rfl, EB, Lib.hid (fun q hq => absurd hq (by omega))⟩
            case round =>
              clear EB
              obtain ⟨m, hm, rfl, hB, hN⟩ := hrel
              by_cases hmi : m + 1 < i
              · have hmiz : (m : Int) + 1 < (i : Int) := by omega
                have hml : m < xs.length := by have := HK.out; omega
                have hml1 : m + 1 < xs.length := by have := HK.out; omega
                have hmz0 : (m : Int) < (i : Int) := by omega
                have hmb : (m : Int) ≤ 12 := by omega
                obtain ⟨x, hx⟩ : ∃ x, xs[m] = x := ⟨_, rfl⟩
                obtain ⟨y, hy⟩ : ∃ y, xs[m + 1] = y := ⟨_, rfl⟩
                have hpx : placeB n x = true := by rw [← hx]; exact List.all_eq_true.1 HALL.out _ (List.getElem_mem hml)
                have hpy : placeB n y = true := by rw [← hy]; exact List.all_eq_true.1 HALL.out _ (List.getElem_mem hml1)
                have hxy : x ≠ y := by
                  rw [← hx, ← hy]
                  exact List.pairwise_iff_getElem.1 HND.out m (m + 1) hml hml1 (by omega)
                have hg1 : xs.getD m 0 = x := by rw [← hx]; simp [List.getElem?_eq_getElem hml]
                have hg2 : xs.getD (m + 1) 0 = y := by rw [← hy]; simp [List.getElem?_eq_getElem hml1]
                have HG := Lib.hid (And.intro hg1 hg2)
                have cC := fun W h => CH.out x y hpx hpy hxy W h
                have hs1 : (m : Int) + 1 - 1 = (m : Int) := by omega
                have hw1 : IntKind.i64.wrap (m : Int) = (m : Int) := IntWalk.i64_in _ (by omega)
                have ht1 : ((m : Int) + 1).toNat = m + 1 := by omega
                have hm0 : (0 : Int) ≤ (m : Int) + 1 := by omega
                have hm1 : ¬ (m : Int) + 1 < 0 := by omega
                go_wp2
                refine wp_region_still_tail 11 (by kernel_rfl) (by kernel_rfl) ?_
                obtain ⟨wd, hwd, ed⟩ : ∃ wd : World, ({ wr with drawn := wr.drawn + 1 } : World) = wd ∧ Ext wr wd := ⟨_, rfl, (Below.refl _ wr).drew⟩
                rw [hwd]
                clear hwd
                have hBd := hB.out.trans ed
                have hxd := HX1.out.ext hBd
                obtain ⟨q0, q1, q2⟩ := hxd.cells
                obtain ⟨b, off, rfl, hc⟩ := held_ext HH.out (HE1.out.trans hBd) hml
                obtain ⟨b', off', hbb, hc'⟩ := held_ext HH.out (HE1.out.trans hBd) hml1
                cases hbb
                rw [hx] at hc
                rw [hy] at hc'
                have cD := cC wd hxd.bath
                have HBd := Lib.hid hBd
                clear hx hy hBd ed hB hxd cC hg1 hg2 hpx hpy hxy
                simp only [List.take_succ_cons, List.take_zero, List.drop_succ_cons, List.drop_zero]
                repeat still_step
                refine wpStill_nil ?_
                cases hT : T (x + 2).toNat (y + 2).toNat with
                | true =>
                  rw [hT] at cD
                  have hN1 : Hid (∀ q, q < m + 1 → T (xs.getD q 0 + 2).toNat (xs.getD (q + 1) 0 + 2).toNat = true) := Lib.hid fun q hq => by
                    by_cases e : q = m
                    · subst e
                      rw [HG.out.1, HG.out.2]
                      exact hT
                    · exact hN.out q (by omega)
                  clear hT hN
                  go_wp2_with fail
                  refine cD.mono ?_
                  rintro e w3 ⟨rfl, e3⟩
                  have hE3 := Lib.hid (HBd.out.trans e3)
                  clear e3 q0 q1 q2 hc hc' cD hs1 hw1 ht1
                  go_wp2
                  go_roundw
                  case measure => simp [intOf]; omega
                  case rel => exact ⟨m + 1, by omega, by go_num, hE3, hN1⟩
                | false =>
                  rw [hT] at cD
                  obtain rfl : ans = 17 := by
                    rw [HANS4.out, if_neg]
                    intro hw
                    have := List.all_eq_true.1 hw m (List.mem_range.2 (by omega))
                    rw [HG.out.1, HG.out.2, hT] at this
                    cases this
                  clear hT hN
                  go_wp2_with fail
                  refine cD.mono ?_
                  rintro e w3 ⟨rfl, e3⟩
                  have hE3 := Lib.hid (HE1.out.trans (HBd.out.trans e3))
                  clear e3 q0 q1 q2 hc hc' cD hs1 hw1 ht1
                  go_wp2
                  go_ret
                  exact ⟨rfl, hE3.out⟩
              · have hmiz : ¬ (m : Int) + 1 < (i : Int) := by omega
                obtain rfl : ans = 0 := by
                  rw [HANS4.out, if_pos (wayB_yes fun q hq => hN.out q (by have := HK.out; omega))]
                clear hN
                go_wp2
                go_ret
                exact ⟨rfl, HE1.out.trans hB.out⟩
  · have ha : checkWayAns Wd ss ds xs sure = bathErr Wd ss ds := by unfold checkWayAns; rw [if_neg h0]
    rw [ha]
    generalize bathErr Wd ss ds = r at h0 cB ⊢
    have hne2 : (r != 0) = true := by simpa using h0
    clear hb hh hk
    go_enter Try.func33, Try.ntmps33
    go_wp2_with fail
    refine (cB _ hX0.bath).mono ?_
    rintro e w1 ⟨rfl, hb1⟩
    have hX1 := hX0.ext hb1
    have hE1 := Lib.hid (hE0.trans hb1)
    clear hX0 hE0 hb1
    obtain ⟨q0, q1, q2⟩ := hX1.cells
    go_wp2_with fail
    refine (cB _ hX1.bath).mono ?_
    rintro e w2 ⟨rfl, hb2⟩
    go_wp2
    go_ret
    exact ⟨rfl, hE1.out.trans hb2⟩
end
end Go.Proofs.Ytgdpgdnhhjclcaa

/- DropWays: what each operation of the last statement yields. -/
namespace Go.Proofs.Ytgdpgdnhhjclcaa
open Go.RowKit Go.Shelf

/-- The slots. -/
def waysD (i : Nat) : Tmp := if i = 22 then 10 else 39 + i
/-- What each operation yields. -/
def waysV (Wd : Int) (A : Option Addr) (n c : Nat) (A' : Option Addr) (n' c' : Nat) (ss : List (Int × Int)) (ds : List (Int × Int × Int)) (A1 A2 L : Option Addr) (k1 a1 a2 k d p : Nat) (er cw : Int) (sure : Bool) (ix : Nat) : Value :=
  match ix with
  | 0 => .slice A1 k1 a1
  | 1 => .slice A2 k1 a2
  | 4 => .int .i64 er
  | 5 => .int .i64 er
  | 9 => (.agg #[.int .i64 Wd, .slice A n c, .slice A' n' c'])
  | 10 => .slice L k d
  | 11 => .bool sure
  | 12 => .int .i64 cw
  | 13 => (.agg #[.int .i64 Wd, .slice A n c, .slice A' n' c'])
  | 14 => .slice L k d
  | 15 => .bool sure
  | 16 => .int .i64 cw
  | _ => .bool true
noncomputable def waysReg : Array Oper := (Try.f6.body.bind (regionOf · 5)).getD #[]
def waysOk (Wd : Int) (A : Option Addr) (n c : Nat) (A' : Option Addr) (n' c' : Nat) (ss : List (Int × Int)) (ds : List (Int × Int × Int)) (A1 A2 L : Option Addr) (k1 a1 a2 k d p : Nat) (er cw : Int) (sure : Bool) (Q : Exit → Act → World → Prop) (a : Act) (W : World) (ix : Nat) (o : Oper) : Prop :=
  (∀ j b, o.guard = some (j, b) → a.eval (.tmp (waysD j)) = .bool b) ∧ o.wp Try.prog a W (fun a'' W' => ∃ v, a'' = a.put o.dst v ∧ v = waysV Wd A n c A' n' c' ss ds A1 A2 L k1 a1 a2 k d p er cw sure ix ∧ Below W.heap.size W W') Q

section
variable {Wd : Int} {A : Option Addr} {n c : Nat} {A' : Option Addr} {n' c' : Nat} {ss : List (Int × Int)} {ds : List (Int × Int × Int)} {A1 A2 L : Option Addr} {k1 a1 a2 k d p : Nat} {er cw : Int} {sure : Bool} {Q : Exit → Act → World → Prop} {a : Act} {V W : World} {o : Oper}
theorem ways_op0 (o11 : a.eval (.tmp 11) = .slice A1 k1 a1) (ho : waysReg[0]? = some o) : waysOk Wd A n c A' n' c' ss ds A1 A2 L k1 a1 a2 k d p er cw sure Q a W 0 o := by
  have hop := op_at ho (·.op) (x := .move (.tmp 11)) (by kernel_rfl)
  have hgd := op_at ho (·.guard) (x := none) (by kernel_rfl)
  refine ⟨fun j b h => (by rw [hgd] at h; cases h), ?_⟩
  exact specs_value (R := fun v _ => v = waysV Wd A n c A' n' c' ss ds A1 A2 L k1 a1 a2 k d p er cw sure 0) (v := .slice A1 k1 a1) (by simp [execOp, hop, go_sem, ev o11]) rfl (Ext.refl W)
theorem ways_op1 (o13 : a.eval (.tmp 13) = .slice A2 k1 a2) (ho : waysReg[1]? = some o) : waysOk Wd A n c A' n' c' ss ds A1 A2 L k1 a1 a2 k d p er cw sure Q a W 1 o := by
  have hop := op_at ho (·.op) (x := .move (.tmp 13)) (by kernel_rfl)
  have hgd := op_at ho (·.guard) (x := none) (by kernel_rfl)
  refine ⟨fun j b h => (by rw [hgd] at h; cases h), ?_⟩
  exact specs_value (R := fun v _ => v = waysV Wd A n c A' n' c' ss ds A1 A2 L k1 a1 a2 k d p er cw sure 1) (v := .slice A2 k1 a2) (by simp [execOp, hop, go_sem, ev o13]) rfl (Ext.refl W)
theorem ways_op2 (cI : ∀ W, Ext V W → Calls Try.prog 31 #[.slice A1 k1 a1, .slice A2 k1 a2] W fun e w' => e = .returned (.bool true) ∧ Below W.heap.size W w') (hB : Ext V W) (haft : ∀ j, (o.after.any fun e => decide (e.on = j) && Region.binds .any e) = true → a.eval (.tmp (waysD j)) = waysV Wd A n c A' n' c' ss ds A1 A2 L k1 a1 a2 k d p er cw sure j) (ho : waysReg[2]? = some o) : waysOk Wd A n c A' n' c' ss ds A1 A2 L k1 a1 a2 k d p er cw sure Q a W 2 o := by
  have hop := op_at ho (·.op) (x := .call { callee := .value (.func 31), args := #[.tmp 39, .tmp 40], argTypes := #[42, 42] }) (by kernel_rfl)
  have hgd := op_at ho (·.guard) (x := none) (by kernel_rfl)
  have e0 : a.eval (.tmp 39) = .slice A1 k1 a1 := haft 0 (op_at ho (fun o => o.after.any fun e => decide (e.on = 0) && Region.binds .any e) (x := true) (by kernel_rfl))
  have e1 : a.eval (.tmp 40) = .slice A2 k1 a2 := haft 1 (op_at ho (fun o => o.after.any fun e => decide (e.on = 1) && Region.binds .any e) (x := true) (by kernel_rfl))
  refine ⟨fun j b h => (by rw [hgd] at h; cases h), ?_⟩
  exact specs_call (R := fun v _ => v = waysV Wd A n c A' n' c' ss ds A1 A2 L k1 a1 a2 k d p er cw sure 2) (f := 31) (args := #[.slice A1 k1 a1, .slice A2 k1 a2]) (by simp [execOp, hop, go_sem, ev e0, ev e1]) ((cI W hB).mono fun e w' h => ⟨_, h.1, rfl, h.2⟩)
theorem ways_op3 (haft : ∀ j, (o.after.any fun e => decide (e.on = j) && Region.binds .any e) = true → a.eval (.tmp (waysD j)) = waysV Wd A n c A' n' c' ss ds A1 A2 L k1 a1 a2 k d p er cw sure j) (ho : waysReg[3]? = some o) : waysOk Wd A n c A' n' c' ss ds A1 A2 L k1 a1 a2 k d p er cw sure Q a W 3 o := by
  have hop := op_at ho (·.op) (x := .move (.tmp 41)) (by kernel_rfl)
  have hgd := op_at ho (·.guard) (x := none) (by kernel_rfl)
  have e2 : a.eval (.tmp 41) = .bool true := haft 2 (op_at ho (fun o => o.after.any fun e => decide (e.on = 2) && Region.binds .any e) (x := true) (by kernel_rfl))
  refine ⟨fun j b h => (by rw [hgd] at h; cases h), ?_⟩
  exact specs_value (R := fun v _ => v = waysV Wd A n c A' n' c' ss ds A1 A2 L k1 a1 a2 k d p er cw sure 3) (v := .bool true) (by simp [execOp, hop, go_sem, ev e2]) rfl (Ext.refl W)
theorem ways_op4 (o12 : a.eval (.tmp 12) = .int .i64 er) (haft : ∀ j, (o.after.any fun e => decide (e.on = j) && Region.binds .any e) = true → a.eval (.tmp (waysD j)) = waysV Wd A n c A' n' c' ss ds A1 A2 L k1 a1 a2 k d p er cw sure j) (ho : waysReg[4]? = some o) : waysOk Wd A n c A' n' c' ss ds A1 A2 L k1 a1 a2 k d p er cw sure Q a W 4 o := by
  have hop := op_at ho (·.op) (x := .move (.tmp 12)) (by kernel_rfl)
  have hgd := op_at ho (·.guard) (x := some (3, true)) (by kernel_rfl)
  have e3 : a.eval (.tmp 42) = .bool true := haft 3 (op_at ho (fun o => o.after.any fun e => decide (e.on = 3) && Region.binds .any e) (x := true) (by kernel_rfl))
  refine ⟨fun j b h => (by rw [hgd] at h; cases h; exact e3), ?_⟩
  exact specs_value (R := fun v _ => v = waysV Wd A n c A' n' c' ss ds A1 A2 L k1 a1 a2 k d p er cw sure 4) (v := .int .i64 er) (by simp [execOp, hop, go_sem, ev o12]) rfl (Ext.refl W)
theorem ways_op5 (o14 : a.eval (.tmp 14) = .int .i64 er) (haft : ∀ j, (o.after.any fun e => decide (e.on = j) && Region.binds .any e) = true → a.eval (.tmp (waysD j)) = waysV Wd A n c A' n' c' ss ds A1 A2 L k1 a1 a2 k d p er cw sure j) (ho : waysReg[5]? = some o) : waysOk Wd A n c A' n' c' ss ds A1 A2 L k1 a1 a2 k d p er cw sure Q a W 5 o := by
  have hop := op_at ho (·.op) (x := .move (.tmp 14)) (by kernel_rfl)
  have hgd := op_at ho (·.guard) (x := some (3, true)) (by kernel_rfl)
  have e3 : a.eval (.tmp 42) = .bool true := haft 3 (op_at ho (fun o => o.after.any fun e => decide (e.on = 3) && Region.binds .any e) (x := true) (by kernel_rfl))
  refine ⟨fun j b h => (by rw [hgd] at h; cases h; exact e3), ?_⟩
  exact specs_value (R := fun v _ => v = waysV Wd A n c A' n' c' ss ds A1 A2 L k1 a1 a2 k d p er cw sure 5) (v := .int .i64 er) (by simp [execOp, hop, go_sem, ev o14]) rfl (Ext.refl W)
theorem ways_op6 (haft : ∀ j, (o.after.any fun e => decide (e.on = j) && Region.binds .any e) = true → a.eval (.tmp (waysD j)) = waysV Wd A n c A' n' c' ss ds A1 A2 L k1 a1 a2 k d p er cw sure j) (ho : waysReg[6]? = some o) : waysOk Wd A n c A' n' c' ss ds A1 A2 L k1 a1 a2 k d p er cw sure Q a W 6 o := by
  have hop := op_at ho (·.op) (x := .binOp .eql 30 (.tmp 43) (.tmp 44) 30) (by kernel_rfl)
  have hgd := op_at ho (·.guard) (x := some (3, true)) (by kernel_rfl)
  have e3 : a.eval (.tmp 42) = .bool true := haft 3 (op_at ho (fun o => o.after.any fun e => decide (e.on = 3) && Region.binds .any e) (x := true) (by kernel_rfl))
  have e4 : a.eval (.tmp 43) = .int .i64 er := haft 4 (op_at ho (fun o => o.after.any fun e => decide (e.on = 4) && Region.binds .any e) (x := true) (by kernel_rfl))
  have e5 : a.eval (.tmp 44) = .int .i64 er := haft 5 (op_at ho (fun o => o.after.any fun e => decide (e.on = 5) && Region.binds .any e) (x := true) (by kernel_rfl))
  refine ⟨fun j b h => (by rw [hgd] at h; cases h; exact e3), ?_⟩
  exact specs_value (R := fun v _ => v = waysV Wd A n c A' n' c' ss ds A1 A2 L k1 a1 a2 k d p er cw sure 6) (v := .bool true) (by simp [execOp, hop, go_sem, ev e4, ev e5]) rfl (Ext.refl W)
theorem ways_op7 (haft : ∀ j, (o.after.any fun e => decide (e.on = j) && Region.binds .any e) = true → a.eval (.tmp (waysD j)) = waysV Wd A n c A' n' c' ss ds A1 A2 L k1 a1 a2 k d p er cw sure j) (ho : waysReg[7]? = some o) : waysOk Wd A n c A' n' c' ss ds A1 A2 L k1 a1 a2 k d p er cw sure Q a W 7 o := by
  have hop := op_at ho (·.op) (x := .pick (.tmp 42) (.tmp 45) (.const (.bool false))) (by kernel_rfl)
  have hgd := op_at ho (·.guard) (x := none) (by kernel_rfl)
  have e3 : a.eval (.tmp 42) = .bool true := haft 3 (op_at ho (fun o => o.after.any fun e => decide (e.on = 3) && Region.binds .any e) (x := true) (by kernel_rfl))
  have e6 : a.eval (.tmp 45) = .bool true := haft 6 (op_at ho (fun o => o.after.any fun e => decide (e.on = 6) && Region.binds .any e) (x := true) (by kernel_rfl))
  refine ⟨fun j b h => (by rw [hgd] at h; cases h), ?_⟩
  exact specs_value (R := fun v _ => v = waysV Wd A n c A' n' c' ss ds A1 A2 L k1 a1 a2 k d p er cw sure 7) (v := .bool true) (by simp [execOp, hop, go_sem, ev e3, ev e6]) rfl (Ext.refl W)
theorem ways_op8 (haft : ∀ j, (o.after.any fun e => decide (e.on = j) && Region.binds .any e) = true → a.eval (.tmp (waysD j)) = waysV Wd A n c A' n' c' ss ds A1 A2 L k1 a1 a2 k d p er cw sure j) (ho : waysReg[8]? = some o) : waysOk Wd A n c A' n' c' ss ds A1 A2 L k1 a1 a2 k d p er cw sure Q a W 8 o := by
  have hop := op_at ho (·.op) (x := .move (.tmp 46)) (by kernel_rfl)
  have hgd := op_at ho (·.guard) (x := none) (by kernel_rfl)
  have e7 : a.eval (.tmp 46) = .bool true := haft 7 (op_at ho (fun o => o.after.any fun e => decide (e.on = 7) && Region.binds .any e) (x := true) (by kernel_rfl))
  refine ⟨fun j b h => (by rw [hgd] at h; cases h), ?_⟩
  exact specs_value (R := fun v _ => v = waysV Wd A n c A' n' c' ss ds A1 A2 L k1 a1 a2 k d p er cw sure 8) (v := .bool true) (by simp [execOp, hop, go_sem, ev e7]) rfl (Ext.refl W)
theorem ways_op9 (o5 : a.eval (.tmp 5) = .pointer (some ⟨p, 0, none⟩)) (hx : BathAt V p Wd A n c A' n' c' ss ds) (hB : Ext V W) (haft : ∀ j, (o.after.any fun e => decide (e.on = j) && Region.binds .any e) = true → a.eval (.tmp (waysD j)) = waysV Wd A n c A' n' c' ss ds A1 A2 L k1 a1 a2 k d p er cw sure j) (ho : waysReg[9]? = some o) : waysOk Wd A n c A' n' c' ss ds A1 A2 L k1 a1 a2 k d p er cw sure Q a W 9 o := by
  have hop := op_at ho (·.op) (x := .load 25 (.tmp 5)) (by kernel_rfl)
  have hgd := op_at ho (·.guard) (x := some (8, true)) (by kernel_rfl)
  have e8 : a.eval (.tmp 47) = .bool true := haft 8 (op_at ho (fun o => o.after.any fun e => decide (e.on = 8) && Region.binds .any e) (x := true) (by kernel_rfl))
  refine ⟨fun j b h => (by rw [hgd] at h; cases h; exact e8), ?_⟩
  obtain ⟨q0, q1, q2⟩ := (hx.ext hB).cells
  exact specs_value (R := fun v _ => v = waysV Wd A n c A' n' c' ss ds A1 A2 L k1 a1 a2 k d p er cw sure 9) (v := (.agg #[.int .i64 Wd, .slice A n c, .slice A' n' c'])) (by simp [execOp, hop, go_sem, ev o5, q0, q1, q2]) rfl (Ext.refl W)
theorem ways_op10 (o3 : a.eval (.tmp 3) = .slice L k d) (haft : ∀ j, (o.after.any fun e => decide (e.on = j) && Region.binds .any e) = true → a.eval (.tmp (waysD j)) = waysV Wd A n c A' n' c' ss ds A1 A2 L k1 a1 a2 k d p er cw sure j) (ho : waysReg[10]? = some o) : waysOk Wd A n c A' n' c' ss ds A1 A2 L k1 a1 a2 k d p er cw sure Q a W 10 o := by
  have hop := op_at ho (·.op) (x := .move (.tmp 3)) (by kernel_rfl)
  have hgd := op_at ho (·.guard) (x := some (8, true)) (by kernel_rfl)
  have e8 : a.eval (.tmp 47) = .bool true := haft 8 (op_at ho (fun o => o.after.any fun e => decide (e.on = 8) && Region.binds .any e) (x := true) (by kernel_rfl))
  refine ⟨fun j b h => (by rw [hgd] at h; cases h; exact e8), ?_⟩
  exact specs_value (R := fun v _ => v = waysV Wd A n c A' n' c' ss ds A1 A2 L k1 a1 a2 k d p er cw sure 10) (v := .slice L k d) (by simp [execOp, hop, go_sem, ev o3]) rfl (Ext.refl W)
theorem ways_op11 (o4 : a.eval (.tmp 4) = .bool sure) (haft : ∀ j, (o.after.any fun e => decide (e.on = j) && Region.binds .any e) = true → a.eval (.tmp (waysD j)) = waysV Wd A n c A' n' c' ss ds A1 A2 L k1 a1 a2 k d p er cw sure j) (ho : waysReg[11]? = some o) : waysOk Wd A n c A' n' c' ss ds A1 A2 L k1 a1 a2 k d p er cw sure Q a W 11 o := by
  have hop := op_at ho (·.op) (x := .move (.tmp 4)) (by kernel_rfl)
  have hgd := op_at ho (·.guard) (x := some (8, true)) (by kernel_rfl)
  have e8 : a.eval (.tmp 47) = .bool true := haft 8 (op_at ho (fun o => o.after.any fun e => decide (e.on = 8) && Region.binds .any e) (x := true) (by kernel_rfl))
  refine ⟨fun j b h => (by rw [hgd] at h; cases h; exact e8), ?_⟩
  exact specs_value (R := fun v _ => v = waysV Wd A n c A' n' c' ss ds A1 A2 L k1 a1 a2 k d p er cw sure 11) (v := .bool sure) (by simp [execOp, hop, go_sem, ev o4]) rfl (Ext.refl W)
theorem ways_op12 (cP : ∀ W, Ext V W → Calls Try.prog 32 #[(.agg #[.int .i64 Wd, .slice A n c, .slice A' n' c']), .slice L k d, .bool sure] W fun e w' => e = .returned (.int .i64 cw) ∧ Below W.heap.size W w') (hB : Ext V W) (haft : ∀ j, (o.after.any fun e => decide (e.on = j) && Region.binds .any e) = true → a.eval (.tmp (waysD j)) = waysV Wd A n c A' n' c' ss ds A1 A2 L k1 a1 a2 k d p er cw sure j) (ho : waysReg[12]? = some o) : waysOk Wd A n c A' n' c' ss ds A1 A2 L k1 a1 a2 k d p er cw sure Q a W 12 o := by
  have hop := op_at ho (·.op) (x := .call { callee := .value (.func 32), args := #[.tmp 48, .tmp 49, .tmp 50], argTypes := #[25, 42, 4] }) (by kernel_rfl)
  have hgd := op_at ho (·.guard) (x := some (8, true)) (by kernel_rfl)
  have e8 : a.eval (.tmp 47) = .bool true := haft 8 (op_at ho (fun o => o.after.any fun e => decide (e.on = 8) && Region.binds .any e) (x := true) (by kernel_rfl))
  have e9 : a.eval (.tmp 48) = (.agg #[.int .i64 Wd, .slice A n c, .slice A' n' c']) := haft 9 (op_at ho (fun o => o.after.any fun e => decide (e.on = 9) && Region.binds .any e) (x := true) (by kernel_rfl))
  have e10 : a.eval (.tmp 49) = .slice L k d := haft 10 (op_at ho (fun o => o.after.any fun e => decide (e.on = 10) && Region.binds .any e) (x := true) (by kernel_rfl))
  have e11 : a.eval (.tmp 50) = .bool sure := haft 11 (op_at ho (fun o => o.after.any fun e => decide (e.on = 11) && Region.binds .any e) (x := true) (by kernel_rfl))
  refine ⟨fun j b h => (by rw [hgd] at h; cases h; exact e8), ?_⟩
  exact specs_call (R := fun v _ => v = waysV Wd A n c A' n' c' ss ds A1 A2 L k1 a1 a2 k d p er cw sure 12) (f := 32) (args := #[(.agg #[.int .i64 Wd, .slice A n c, .slice A' n' c']), .slice L k d, .bool sure]) (by simp [execOp, hop, go_sem, ev e9, ev e10, ev e11]) ((cP W hB).mono fun e w' h => ⟨_, h.1, rfl, h.2⟩)
theorem ways_op13 (o5 : a.eval (.tmp 5) = .pointer (some ⟨p, 0, none⟩)) (hx : BathAt V p Wd A n c A' n' c' ss ds) (hB : Ext V W) (haft : ∀ j, (o.after.any fun e => decide (e.on = j) && Region.binds .any e) = true → a.eval (.tmp (waysD j)) = waysV Wd A n c A' n' c' ss ds A1 A2 L k1 a1 a2 k d p er cw sure j) (ho : waysReg[13]? = some o) : waysOk Wd A n c A' n' c' ss ds A1 A2 L k1 a1 a2 k d p er cw sure Q a W 13 o := by
  have hop := op_at ho (·.op) (x := .load 25 (.tmp 5)) (by kernel_rfl)
  have hgd := op_at ho (·.guard) (x := some (8, true)) (by kernel_rfl)
  have e8 : a.eval (.tmp 47) = .bool true := haft 8 (op_at ho (fun o => o.after.any fun e => decide (e.on = 8) && Region.binds .any e) (x := true) (by kernel_rfl))
  refine ⟨fun j b h => (by rw [hgd] at h; cases h; exact e8), ?_⟩
  obtain ⟨q0, q1, q2⟩ := (hx.ext hB).cells
  exact specs_value (R := fun v _ => v = waysV Wd A n c A' n' c' ss ds A1 A2 L k1 a1 a2 k d p er cw sure 13) (v := (.agg #[.int .i64 Wd, .slice A n c, .slice A' n' c'])) (by simp [execOp, hop, go_sem, ev o5, q0, q1, q2]) rfl (Ext.refl W)
theorem ways_op14 (o3 : a.eval (.tmp 3) = .slice L k d) (haft : ∀ j, (o.after.any fun e => decide (e.on = j) && Region.binds .any e) = true → a.eval (.tmp (waysD j)) = waysV Wd A n c A' n' c' ss ds A1 A2 L k1 a1 a2 k d p er cw sure j) (ho : waysReg[14]? = some o) : waysOk Wd A n c A' n' c' ss ds A1 A2 L k1 a1 a2 k d p er cw sure Q a W 14 o := by
  have hop := op_at ho (·.op) (x := .move (.tmp 3)) (by kernel_rfl)
  have hgd := op_at ho (·.guard) (x := some (8, true)) (by kernel_rfl)
  have e8 : a.eval (.tmp 47) = .bool true := haft 8 (op_at ho (fun o => o.after.any fun e => decide (e.on = 8) && Region.binds .any e) (x := true) (by kernel_rfl))
  refine ⟨fun j b h => (by rw [hgd] at h; cases h; exact e8), ?_⟩
  exact specs_value (R := fun v _ => v = waysV Wd A n c A' n' c' ss ds A1 A2 L k1 a1 a2 k d p er cw sure 14) (v := .slice L k d) (by simp [execOp, hop, go_sem, ev o3]) rfl (Ext.refl W)
theorem ways_op15 (o4 : a.eval (.tmp 4) = .bool sure) (haft : ∀ j, (o.after.any fun e => decide (e.on = j) && Region.binds .any e) = true → a.eval (.tmp (waysD j)) = waysV Wd A n c A' n' c' ss ds A1 A2 L k1 a1 a2 k d p er cw sure j) (ho : waysReg[15]? = some o) : waysOk Wd A n c A' n' c' ss ds A1 A2 L k1 a1 a2 k d p er cw sure Q a W 15 o := by
  have hop := op_at ho (·.op) (x := .move (.tmp 4)) (by kernel_rfl)
  have hgd := op_at ho (·.guard) (x := some (8, true)) (by kernel_rfl)
  have e8 : a.eval (.tmp 47) = .bool true := haft 8 (op_at ho (fun o => o.after.any fun e => decide (e.on = 8) && Region.binds .any e) (x := true) (by kernel_rfl))
  refine ⟨fun j b h => (by rw [hgd] at h; cases h; exact e8), ?_⟩
  exact specs_value (R := fun v _ => v = waysV Wd A n c A' n' c' ss ds A1 A2 L k1 a1 a2 k d p er cw sure 15) (v := .bool sure) (by simp [execOp, hop, go_sem, ev o4]) rfl (Ext.refl W)
theorem ways_op16 (cR : ∀ W, Ext V W → Calls Try.prog 33 #[(.agg #[.int .i64 Wd, .slice A n c, .slice A' n' c']), .slice L k d, .bool sure] W fun e w' => e = .returned (.int .i64 cw) ∧ Below W.heap.size W w') (hB : Ext V W) (haft : ∀ j, (o.after.any fun e => decide (e.on = j) && Region.binds .any e) = true → a.eval (.tmp (waysD j)) = waysV Wd A n c A' n' c' ss ds A1 A2 L k1 a1 a2 k d p er cw sure j) (ho : waysReg[16]? = some o) : waysOk Wd A n c A' n' c' ss ds A1 A2 L k1 a1 a2 k d p er cw sure Q a W 16 o := by
  have hop := op_at ho (·.op) (x := .call { callee := .value (.func 33), args := #[.tmp 52, .tmp 53, .tmp 54], argTypes := #[25, 42, 4] }) (by kernel_rfl)
  have hgd := op_at ho (·.guard) (x := some (8, true)) (by kernel_rfl)
  have e8 : a.eval (.tmp 47) = .bool true := haft 8 (op_at ho (fun o => o.after.any fun e => decide (e.on = 8) && Region.binds .any e) (x := true) (by kernel_rfl))
  have e13 : a.eval (.tmp 52) = (.agg #[.int .i64 Wd, .slice A n c, .slice A' n' c']) := haft 13 (op_at ho (fun o => o.after.any fun e => decide (e.on = 13) && Region.binds .any e) (x := true) (by kernel_rfl))
  have e14 : a.eval (.tmp 53) = .slice L k d := haft 14 (op_at ho (fun o => o.after.any fun e => decide (e.on = 14) && Region.binds .any e) (x := true) (by kernel_rfl))
  have e15 : a.eval (.tmp 54) = .bool sure := haft 15 (op_at ho (fun o => o.after.any fun e => decide (e.on = 15) && Region.binds .any e) (x := true) (by kernel_rfl))
  refine ⟨fun j b h => (by rw [hgd] at h; cases h; exact e8), ?_⟩
  exact specs_call (R := fun v _ => v = waysV Wd A n c A' n' c' ss ds A1 A2 L k1 a1 a2 k d p er cw sure 16) (f := 33) (args := #[(.agg #[.int .i64 Wd, .slice A n c, .slice A' n' c']), .slice L k d, .bool sure]) (by simp [execOp, hop, go_sem, ev e13, ev e14, ev e15]) ((cR W hB).mono fun e w' h => ⟨_, h.1, rfl, h.2⟩)
theorem ways_op17 (haft : ∀ j, (o.after.any fun e => decide (e.on = j) && Region.binds .any e) = true → a.eval (.tmp (waysD j)) = waysV Wd A n c A' n' c' ss ds A1 A2 L k1 a1 a2 k d p er cw sure j) (ho : waysReg[17]? = some o) : waysOk Wd A n c A' n' c' ss ds A1 A2 L k1 a1 a2 k d p er cw sure Q a W 17 o := by
  have hop := op_at ho (·.op) (x := .binOp .eql 30 (.tmp 51) (.tmp 55) 30) (by kernel_rfl)
  have hgd := op_at ho (·.guard) (x := some (8, true)) (by kernel_rfl)
  have e8 : a.eval (.tmp 47) = .bool true := haft 8 (op_at ho (fun o => o.after.any fun e => decide (e.on = 8) && Region.binds .any e) (x := true) (by kernel_rfl))
  have e12 : a.eval (.tmp 51) = .int .i64 cw := haft 12 (op_at ho (fun o => o.after.any fun e => decide (e.on = 12) && Region.binds .any e) (x := true) (by kernel_rfl))
  have e16 : a.eval (.tmp 55) = .int .i64 cw := haft 16 (op_at ho (fun o => o.after.any fun e => decide (e.on = 16) && Region.binds .any e) (x := true) (by kernel_rfl))
  refine ⟨fun j b h => (by rw [hgd] at h; cases h; exact e8), ?_⟩
  exact specs_value (R := fun v _ => v = waysV Wd A n c A' n' c' ss ds A1 A2 L k1 a1 a2 k d p er cw sure 17) (v := .bool true) (by simp [execOp, hop, go_sem, ev e12, ev e16]) rfl (Ext.refl W)
theorem ways_op18 (haft : ∀ j, (o.after.any fun e => decide (e.on = j) && Region.binds .any e) = true → a.eval (.tmp (waysD j)) = waysV Wd A n c A' n' c' ss ds A1 A2 L k1 a1 a2 k d p er cw sure j) (ho : waysReg[18]? = some o) : waysOk Wd A n c A' n' c' ss ds A1 A2 L k1 a1 a2 k d p er cw sure Q a W 18 o := by
  have hop := op_at ho (·.op) (x := .pick (.tmp 47) (.tmp 56) (.const (.bool false))) (by kernel_rfl)
  have hgd := op_at ho (·.guard) (x := none) (by kernel_rfl)
  have e8 : a.eval (.tmp 47) = .bool true := haft 8 (op_at ho (fun o => o.after.any fun e => decide (e.on = 8) && Region.binds .any e) (x := true) (by kernel_rfl))
  have e17 : a.eval (.tmp 56) = .bool true := haft 17 (op_at ho (fun o => o.after.any fun e => decide (e.on = 17) && Region.binds .any e) (x := true) (by kernel_rfl))
  refine ⟨fun j b h => (by rw [hgd] at h; cases h), ?_⟩
  exact specs_value (R := fun v _ => v = waysV Wd A n c A' n' c' ss ds A1 A2 L k1 a1 a2 k d p er cw sure 18) (v := .bool true) (by simp [execOp, hop, go_sem, ev e8, ev e17]) rfl (Ext.refl W)
theorem ways_op19 (haft : ∀ j, (o.after.any fun e => decide (e.on = j) && Region.binds .any e) = true → a.eval (.tmp (waysD j)) = waysV Wd A n c A' n' c' ss ds A1 A2 L k1 a1 a2 k d p er cw sure j) (ho : waysReg[19]? = some o) : waysOk Wd A n c A' n' c' ss ds A1 A2 L k1 a1 a2 k d p er cw sure Q a W 19 o := by
  have hop := op_at ho (·.op) (x := .move (.tmp 57)) (by kernel_rfl)
  have hgd := op_at ho (·.guard) (x := none) (by kernel_rfl)
  have e18 : a.eval (.tmp 57) = .bool true := haft 18 (op_at ho (fun o => o.after.any fun e => decide (e.on = 18) && Region.binds .any e) (x := true) (by kernel_rfl))
  refine ⟨fun j b h => (by rw [hgd] at h; cases h), ?_⟩
  exact specs_value (R := fun v _ => v = waysV Wd A n c A' n' c' ss ds A1 A2 L k1 a1 a2 k d p er cw sure 19) (v := .bool true) (by simp [execOp, hop, go_sem, ev e18]) rfl (Ext.refl W)
theorem ways_op20 (cK : ∀ W, Ext V W → Calls Try.prog 16 #[] W fun e w' => e = .returned (.bool true) ∧ Below W.heap.size W w') (hB : Ext V W) (haft : ∀ j, (o.after.any fun e => decide (e.on = j) && Region.binds .any e) = true → a.eval (.tmp (waysD j)) = waysV Wd A n c A' n' c' ss ds A1 A2 L k1 a1 a2 k d p er cw sure j) (ho : waysReg[20]? = some o) : waysOk Wd A n c A' n' c' ss ds A1 A2 L k1 a1 a2 k d p er cw sure Q a W 20 o := by
  have hop := op_at ho (·.op) (x := .call { callee := .value (.func 16), args := #[], argTypes := #[] }) (by kernel_rfl)
  have hgd := op_at ho (·.guard) (x := some (19, true)) (by kernel_rfl)
  have e19 : a.eval (.tmp 58) = .bool true := haft 19 (op_at ho (fun o => o.after.any fun e => decide (e.on = 19) && Region.binds .any e) (x := true) (by kernel_rfl))
  refine ⟨fun j b h => (by rw [hgd] at h; cases h; exact e19), ?_⟩
  exact specs_call (R := fun v _ => v = waysV Wd A n c A' n' c' ss ds A1 A2 L k1 a1 a2 k d p er cw sure 20) (f := 16) (args := #[]) (by simp [execOp, hop, go_sem]) ((cK W hB).mono fun e w' h => ⟨_, h.1, rfl, h.2⟩)
theorem ways_op21 (haft : ∀ j, (o.after.any fun e => decide (e.on = j) && Region.binds .any e) = true → a.eval (.tmp (waysD j)) = waysV Wd A n c A' n' c' ss ds A1 A2 L k1 a1 a2 k d p er cw sure j) (ho : waysReg[21]? = some o) : waysOk Wd A n c A' n' c' ss ds A1 A2 L k1 a1 a2 k d p er cw sure Q a W 21 o := by
  have hop := op_at ho (·.op) (x := .pick (.tmp 58) (.tmp 59) (.const (.bool false))) (by kernel_rfl)
  have hgd := op_at ho (·.guard) (x := none) (by kernel_rfl)
  have e19 : a.eval (.tmp 58) = .bool true := haft 19 (op_at ho (fun o => o.after.any fun e => decide (e.on = 19) && Region.binds .any e) (x := true) (by kernel_rfl))
  have e20 : a.eval (.tmp 59) = .bool true := haft 20 (op_at ho (fun o => o.after.any fun e => decide (e.on = 20) && Region.binds .any e) (x := true) (by kernel_rfl))
  refine ⟨fun j b h => (by rw [hgd] at h; cases h), ?_⟩
  exact specs_value (R := fun v _ => v = waysV Wd A n c A' n' c' ss ds A1 A2 L k1 a1 a2 k d p er cw sure 21) (v := .bool true) (by simp [execOp, hop, go_sem, ev e19, ev e20]) rfl (Ext.refl W)
theorem ways_op22 (haft : ∀ j, (o.after.any fun e => decide (e.on = j) && Region.binds .any e) = true → a.eval (.tmp (waysD j)) = waysV Wd A n c A' n' c' ss ds A1 A2 L k1 a1 a2 k d p er cw sure j) (ho : waysReg[22]? = some o) : waysOk Wd A n c A' n' c' ss ds A1 A2 L k1 a1 a2 k d p er cw sure Q a W 22 o := by
  have hop := op_at ho (·.op) (x := .assign (.tmp 60)) (by kernel_rfl)
  have hgd := op_at ho (·.guard) (x := none) (by kernel_rfl)
  have e21 : a.eval (.tmp 60) = .bool true := haft 21 (op_at ho (fun o => o.after.any fun e => decide (e.on = 21) && Region.binds .any e) (x := true) (by kernel_rfl))
  refine ⟨fun j b h => (by rw [hgd] at h; cases h), ?_⟩
  exact specs_value (R := fun v _ => v = waysV Wd A n c A' n' c' ss ds A1 A2 L k1 a1 a2 k d p er cw sure 22) (v := .bool true) (by simp [execOp, hop, go_sem, ev e21]) rfl (Ext.refl W)
end
end Go.Proofs.Ytgdpgdnhhjclcaa

/- DropWays: the walk. -/
namespace Go.Proofs.Ytgdpgdnhhjclcaa
open Go.RowKit Go.Shelf

theorem goFrom_len (H : Nat → Nat → Bool) (n : Nat) (out : Nat → Nat) : ∀ d i, (goFrom H n out d i).length = d
  | 0, _ => rfl
  | 1, _ => rfl
  | d + 2, i => by
    show (i :: goFrom H n out (d + 1) (nextOf H n out i)).length = d + 2
    rw [List.length_cons, goFrom_len H n out (d + 1)]

/-- What Way answers, as a list and an error. -/
def wayAns (Wd : Int) (ss : List (Int × Int)) (ds : List (Int × Int × Int)) (one two : Int) (sure : Bool) : List Int × Int :=
  if forErr Wd ss ds one two ≠ 0 then ([], forErr Wd ss ds one two)
  else if outs (tableOf Wd ss ds sure) (ss.length + 2) (two + 2).toNat (ss.length + 1) (one + 2).toNat = 0 then ([], 5)
  else (nums (wayOf (tableOf Wd ss ds sure) (ss.length + 2) (one + 2).toNat (two + 2).toNat), 0)

theorem wayAns_len (Wd : Int) (ss : List (Int × Int)) (ds : List (Int × Int × Int)) (one two : Int) (sure : Bool) (h : ss.length ≤ 10 ∨ forErr Wd ss ds one two ≠ 0) : (wayAns Wd ss ds one two sure).1.length ≤ 12 := by
  unfold wayAns
  split
  · simp
  · rename_i h1
    split
    · simp
    · simp only [List.length_map, wayOf, goFrom_len]
      have := outs_le (H := tableOf Wd ss ds sure) (n := ss.length + 2) (t := (two + 2).toNat) (ss.length + 2 - 1) (one + 2).toNat
      rcases h with h | h
      · omega
      · exact absurd h h1

def WayVal (Wd : Int) (ss : List (Int × Int)) (ds : List (Int × Int × Int)) (one two : Int) (sure : Bool) (w : World) (e : Ending) (w' : World) : Prop :=
  ∃ A c, e = .returned (.tuple #[.slice A (wayAns Wd ss ds one two sure).1.length c, .int .i64 (wayAns Wd ss ds one two sure).2]) ∧ Held w' w'.heap.size 1 encI A (wayAns Wd ss ds one two sure).1 ∧ Ext w w'
theorem wayIs_val {Wd : Int} {ss : List (Int × Int)} {ds : List (Int × Int × Int)} {one two : Int} {sure : Bool} {w w' : World} {e : Ending} (h : WayIs Wd ss ds one two sure w e w') : WayVal Wd ss ds one two sure w e w' := by
  obtain ⟨hE, h | h | h⟩ := h
  · have ha : wayAns Wd ss ds one two sure = ([], forErr Wd ss ds one two) := by unfold wayAns; rw [if_pos h.1]
    unfold WayVal
    rw [ha]
    exact ⟨none, 0, h.2, .inl rfl, hE⟩
  · have ha : wayAns Wd ss ds one two sure = ([], 5) := by unfold wayAns; rw [if_neg (by simp [h.1]), if_pos h.2.1]
    unfold WayVal
    rw [ha]
    exact ⟨none, 0, h.2.2, .inl rfl, hE⟩
  · obtain ⟨h1, h2, A, l, c, he, _, hH, rfl⟩ := h
    have ha : wayAns Wd ss ds one two sure = (nums (wayOf (tableOf Wd ss ds sure) (ss.length + 2) (one + 2).toNat (two + 2).toNat), 0) := by unfold wayAns; rw [if_neg (by simp [h1]), if_neg h2]
    unfold WayVal
    rw [ha]
    exact ⟨A, c, by rw [he, List.length_map], hH, hE⟩

section
variable {w : World} {Wd : Int} {A : Option Addr} {n c : Nat} {A' : Option Addr} {n' c' : Nat} {ss : List (Int × Int)} {ds : List (Int × Int × Int)}

set_option maxRecDepth 100000 in
set_option maxHeartbeats 4000000 in
theorem dropWays_any (one two : Int) (L : Option Addr) (k d : Nat) (xs : List Int) (sure : Bool) (hb : IsBath w w.heap.size A n c A' n' c' ss ds) (hk : k = xs.length) (hkn : k ≤ 9223372036854775807) (hh : Held w w.heap.size 1 encI L xs) :
    Calls Try.prog 6 #[.agg #[.int .i64 Wd, .slice A n c, .slice A' n' c'], .int .i64 one, .int .i64 two, .slice L k d, .bool sure] w fun e w' => e = .returned (.bool true) ∧ Ext w w' := by
  have hX0 : BathAt (w.alloc (.cells #[.int .i64 Wd, .slice A n c, .slice A' n' c'] 25)) w.heap.size Wd A n c A' n' c' ss ds := BathAt.new hb
  have hE0 : Ext w (w.alloc (.cells #[.int .i64 Wd, .slice A n c, .slice A' n' c'] 25)) := ext_alloc w _
  have cG := great_any Wd A A' n c n' c' (w.alloc (.cells #[.int .i64 Wd, .slice A n c, .slice A' n' c'] 25))
  cases hg : (decide (15 < n) || decide (50 < n')) with
  | true =>
    rw [hg] at cG
    clear hg hb hX0 hk hh
    go_enter Try.func6, Try.ntmps6
    go_wp2_with fail
    refine cG.mono ?_
    rintro e w1 ⟨rfl, hb1⟩
    have hE1 := Lib.hid (hE0.trans hb1)
    clear hE0 hb1 cG
    go_wp2_with fail
    refine (works_any _).mono ?_
    rintro e w2 ⟨rfl, hb2⟩
    go_wp2
    go_ret
    exact ⟨rfl, hE1.out.trans hb2⟩
  | false =>
    rw [hg] at cG
    by_cases hk20 : 20 < k
    · have hk20z : (20 : Int) < (k : Int) := by omega
      clear hg hb hX0 hk hh
      go_enter Try.func6, Try.ntmps6
      go_wp2_with fail
      refine cG.mono ?_
      rintro e w1 ⟨rfl, hb1⟩
      have hE1 := Lib.hid (hE0.trans hb1)
      clear hE0 hb1 cG
      go_wp2_with fail
      refine (works_any _).mono ?_
      rintro e w2 ⟨rfl, hb2⟩
      go_wp2
      go_ret
      exact ⟨rfl, hE1.out.trans hb2⟩
    · have hk20z : ¬ (20 : Int) < (k : Int) := by omega
      have hl12 : (wayAns Wd ss ds one two sure).1.length ≤ 12 := wayAns_len Wd ss ds one two sure (by
        by_cases he : forErr Wd ss ds one two = 0
        · exact .inl (bath_ok (forErr_ok he).1).2.1.1
        · exact .inr he)
      have c1 : ∀ W : World, IsBath W W.heap.size A n c A' n' c' ss ds → Calls Try.prog 29 #[.agg #[.int .i64 Wd, .slice A n c, .slice A' n' c'], .int .i64 one, .int .i64 two, .bool sure] W (WayVal Wd ss ds one two sure W) := fun W h => (bigWay_any (Wd := Wd) one two sure h).mono fun _ _ => wayIs_val
      have c2 : ∀ W : World, IsBath W W.heap.size A n c A' n' c' ss ds → Calls Try.prog 30 #[.agg #[.int .i64 Wd, .slice A n c, .slice A' n' c'], .int .i64 one, .int .i64 two, .bool sure] W (WayVal Wd ss ds one two sure W) := fun W h => (way_ref (Wd := Wd) one two sure h).mono fun _ _ => wayIs_val
      unfold WayVal at c1 c2
      obtain ⟨l, er, hr⟩ : ∃ l er, wayAns Wd ss ds one two sure = (l, er) := ⟨_, _, rfl⟩
      rw [hr] at c1 c2 hl12
      obtain ⟨kl, hkl⟩ : ∃ kl, l.length = kl := ⟨_, rfl⟩
      simp only [hkl] at c1 c2 hl12
      have HKL := Lib.hid hkl
      have HH := Lib.hid hh
      have HK := Lib.hid hk
      clear hg hb hr hkl hh hk
      go_enter Try.func6, Try.ntmps6
      go_wp2_with fail
      refine cG.mono ?_
      rintro e w1 ⟨rfl, hb1⟩
      have x := hX0.ext hb1
      have eW := hE0.trans hb1
      clear hE0 hb1 cG hX0
      obtain ⟨q0, q1, q2⟩ := x.cells
      go_wp2_with fail
      refine (c1 _ x.bath).mono ?_
      rintro e w2 ⟨A1, a1, rfl, hh1, eV⟩
      replace x := x.ext eV
      replace eW := eW.trans eV
      clear eV q0 q1 q2 c1
      obtain ⟨q0, q1, q2⟩ := x.cells
      go_wp2_with fail
      refine (c2 _ x.bath).mono ?_
      rintro e w3 ⟨A2, a2, rfl, hh2, eV⟩
      replace x := x.ext eV
      replace eW := eW.trans eV
      have hh1' := hh1.ext eV
      clear eV q0 q1 q2 c2 hh1
      go_upto_region 5 with fail
      have HX := Lib.hid x
      have HW := Lib.hid eW
      have H1 := Lib.hid hh1'
      have H2 := Lib.hid hh2
      have H3 := Lib.hid (HH.out.ext eW)
      clear x eW hh1' hh2
      generalize w.heap.size = p at HX ⊢
      obtain ⟨cw, hcw⟩ : ∃ cw, checkWayAns Wd ss ds xs sure = cw := ⟨_, rfl⟩
      have cI : ∀ W, Ext w3 W → Calls Try.prog 31 #[.slice A1 kl a1, .slice A2 kl a2] W fun e w' => e = .returned (.bool true) ∧ Below W.heap.size W w' := fun W h => by
        have := ints_any A1 A2 kl a1 kl a2 l l W HKL.out.symm HKL.out.symm (by omega) (by omega) (H1.out.ext h) (H2.out.ext h)
        rw [show decide (l = l) = true from by simp] at this
        exact this
      have cP : ∀ W, Ext w3 W → Calls Try.prog 32 #[.agg #[.int .i64 Wd, .slice A n c, .slice A' n' c'], .slice L k d, .bool sure] W fun e w' => e = .returned (.int .i64 cw) ∧ Below W.heap.size W w' := fun W h => by
        have := checkWay_any (Wd := Wd) L k d xs sure (HX.out.ext h).bath HK.out hkn (H3.out.ext h)
        rw [hcw] at this
        exact this
      have cR : ∀ W, Ext w3 W → Calls Try.prog 33 #[.agg #[.int .i64 Wd, .slice A n c, .slice A' n' c'], .slice L k d, .bool sure] W fun e w' => e = .returned (.int .i64 cw) ∧ Below W.heap.size W w' := fun W h => by
        have := checkWay_ref (Wd := Wd) L k d xs sure (HX.out.ext h).bath HK.out hkn (H3.out.ext h)
        rw [hcw] at this
        exact this
      have cK : ∀ W, Ext w3 W → Calls Try.prog 16 #[] W fun e w' => e = .returned (.bool true) ∧ Below W.heap.size W w' := fun W _ => works_any W
      refine wp_region_specs (ops := waysReg) (fun i v _ => v = waysV Wd A n c A' n' c' ss ds A1 A2 L kl a1 a2 k d p er cw sure i) (Ext w3) (by kernel_rfl) (by kernel_rfl) ⟨rfl, rfl, rfl, Nat.le_refl _, fun _ _ => rfl⟩ (fun _ _ h e => h.trans e) (fun _ _ _ _ h _ => h) waysD (by kernel_rfl) ?_ ?_
      · intro i o ho a W hB hsz hold haft
        have hi : i < 23 := (Array.getElem?_eq_some_iff.1 ho).1
        have hx := HX.out
        match i, hi with
        | 0, _ => exact ways_op0 (hold 11 (by kernel_rfl)) ho
        | 1, _ => exact ways_op1 (hold 13 (by kernel_rfl)) ho
        | 2, _ => exact ways_op2 cI hB haft ho
        | 3, _ => exact ways_op3 haft ho
        | 4, _ => exact ways_op4 (hold 12 (by kernel_rfl)) haft ho
        | 5, _ => exact ways_op5 (hold 14 (by kernel_rfl)) haft ho
        | 6, _ => exact ways_op6 haft ho
        | 7, _ => exact ways_op7 haft ho
        | 8, _ => exact ways_op8 haft ho
        | 9, _ => exact ways_op9 (hold 5 (by kernel_rfl)) hx hB haft ho
        | 10, _ => exact ways_op10 (hold 3 (by kernel_rfl)) haft ho
        | 11, _ => exact ways_op11 (hold 4 (by kernel_rfl)) haft ho
        | 12, _ => exact ways_op12 cP hB haft ho
        | 13, _ => exact ways_op13 (hold 5 (by kernel_rfl)) hx hB haft ho
        | 14, _ => exact ways_op14 (hold 3 (by kernel_rfl)) haft ho
        | 15, _ => exact ways_op15 (hold 4 (by kernel_rfl)) haft ho
        | 16, _ => exact ways_op16 cR hB haft ho
        | 17, _ => exact ways_op17 haft ho
        | 18, _ => exact ways_op18 haft ho
        | 19, _ => exact ways_op19 haft ho
        | 20, _ => exact ways_op20 cK hB haft ho
        | 21, _ => exact ways_op21 haft ho
        | 22, _ => exact ways_op22 haft ho
        | n + 23, h => exact absurd h (by omega)
      · intro a W hB hsz hdf hold hS
        have e10 : a.eval (.tmp 10) = .bool true := hS 22 (show 22 < waysReg.size from Nat.lt_of_lt_of_eq (by omega) (show 23 = waysReg.size by kernel_rfl))
        obtain ⟨tmps, dfs⟩ := a
        obtain rfl : dfs = [] := hdf
        simp only [Exit.then]
        go_at_K
        go_wp2
        exact bodyPost_ret (results_tmp rfl _ _ _) rfl ⟨congrArg Ending.returned e10, HW.out.trans hB⟩
end
end Go.Proofs.Ytgdpgdnhhjclcaa

/- The reference's Side; what Side answers, as a list and an error. -/
namespace Go.Proofs.Ytgdpgdnhhjclcaa
open Go.RowKit Go.Shelf

theorem goesC_beyond {H : Nat → Nat → Bool} {n k : Nat} (hHn : ∀ i j, H i j = true → i < n ∧ j < n ∧ i ≠ j) (hk : k < n) (i : Nat) (hi : n ≤ i) : goesC H n k i = false := by
  unfold goesC
  rw [decide_eq_false_iff_not]
  intro h
  rcases outs_back _ _ h with ⟨e, _⟩ | ⟨j, _, _, hH, _⟩
  · omega
  · exact absurd (hHn _ _ hH).1 (by omega)
theorem listTo_beyond {M : Nat → Bool} {m : Nat} (hM : ∀ i, m ≤ i → M i = false) : ∀ d, listTo M (m + d) = listTo M m
  | 0 => rfl
  | d + 1 => by
    rw [← Nat.add_assoc, listTo_succ, hM _ (by omega), listTo_beyond hM d]
    simp
theorem mem_listTo {M : Nat → Bool} {m k : Nat} : ((k : Int) - 2) ∈ listTo M m ↔ k < m ∧ M k = true := by
  unfold listTo
  rw [List.mem_filterMap]
  constructor
  · rintro ⟨i, hi, h⟩
    by_cases hM : M i = true
    · rw [if_pos hM] at h
      simp only [Option.some.injEq] at h
      obtain rfl : i = k := by omega
      exact ⟨List.mem_range.1 hi, hM⟩
    · rw [if_neg hM] at h; cases h
  · rintro ⟨h1, h2⟩
    exact ⟨k, List.mem_range.2 h1, by rw [if_pos h2]⟩

/-- What Side answers. -/
def sideAns (Wd : Int) (ss : List (Int × Int)) (ds : List (Int × Int × Int)) (one two : Int) (sure : Bool) : List Int × Int :=
  if forErr Wd ss ds one two ≠ 0 then ([], forErr Wd ss ds one two)
  else if goesC (tableOf Wd ss ds sure) (ss.length + 2) (one + 2).toNat (two + 2).toNat = true then ([], 11)
  else (listTo (goesC (tableOf Wd ss ds sure) (ss.length + 2) (one + 2).toNat) (ss.length + 2), 0)
theorem sideAns_len (Wd : Int) (ss : List (Int × Int)) (ds : List (Int × Int × Int)) (one two : Int) (sure : Bool) (h : ss.length ≤ 10 ∨ forErr Wd ss ds one two ≠ 0) : (sideAns Wd ss ds one two sure).1.length ≤ 12 := by
  unfold sideAns
  split
  · simp
  · rename_i h1
    split
    · simp
    · rcases h with h | h
      · exact Nat.le_trans (listTo_length _ _) (by omega)
      · exact absurd h h1
/-- A list and an error, the list in memory. -/
def ListVal (ans : List Int × Int) (w : World) (e : Ending) (w' : World) : Prop :=
  ∃ A c, e = .returned (.tuple #[.slice A ans.1.length c, .int .i64 ans.2]) ∧ Held w' w'.heap.size 1 encI A ans.1 ∧ Ext w w'
theorem listVal_made {ans : List Int × Int} {w w' : World} {v : Value} {base : Nat} (h : MadeInts base ans.1 w' v) (hE : Ext w w') : ListVal ans w (.returned (.tuple #[v, .int .i64 ans.2])) w' := by
  obtain ⟨A2, c2, rfl, _, hH⟩ := madeInts_held h
  exact ⟨A2, c2, rfl, hH, hE⟩

section
variable {w : World} {Wd : Int} {A : Option Addr} {n c : Nat} {A' : Option Addr} {n' c' : Nat} {ss : List (Int × Int)} {ds : List (Int × Int × Int)}

theorem side_prog (one two : Int) (sure : Bool) (hb : IsBath w w.heap.size A n c A' n' c' ss ds) :
    Calls Try.prog 34 #[.agg #[.int .i64 Wd, .slice A n c, .slice A' n' c'], .int .i64 one, .int .i64 two, .bool sure] w (ListVal (sideAns Wd ss ds one two sure) w) := by
  refine (side_any (Wd := Wd) one two sure hb).mono ?_
  rintro e w' ⟨hE, h | h⟩
  · have ha : sideAns Wd ss ds one two sure = ([], forErr Wd ss ds one two) := by unfold sideAns; rw [if_pos h.1]
    rw [ha]
    exact ⟨none, 0, h.2, .inl rfl, hE⟩
  · obtain ⟨he, M, hM, hor⟩ := h
    obtain ⟨h0, h1, h2, h3⟩ := forErr_ok he
    have hn10 := (bath_ok h0).2.1.1
    have eM := marked_reach hM
    have hT := goesB_goesC (H := tableOf Wd ss ds sure) (n := ss.length + 2) (k := (one + 2).toNat) (by omega) (by omega) tableOf_lt tableOf_sym (by omega)
    rw [hT] at eM
    rw [eM] at hor
    rcases hor with ⟨h4, h5⟩ | ⟨h4, v, h5, h6⟩
    · have ha : sideAns Wd ss ds one two sure = ([], 11) := by unfold sideAns; rw [if_neg (by simp [he]), if_pos h4]
      rw [ha]
      exact ⟨none, 0, h5, .inl rfl, hE⟩
    · have ha : sideAns Wd ss ds one two sure = (listTo (goesC (tableOf Wd ss ds sure) (ss.length + 2) (one + 2).toNat) (ss.length + 2), 0) := by unfold sideAns; rw [if_neg (by simp [he]), if_neg (by simp [h4])]
      have hl := listTo_beyond (M := goesC (tableOf Wd ss ds sure) (ss.length + 2) (one + 2).toNat) (m := ss.length + 2) (goesC_beyond tableOf_lt (by omega)) (12 - (ss.length + 2))
      rw [show ss.length + 2 + (12 - (ss.length + 2)) = 12 from by omega] at hl
      rw [hl] at h6
      rw [ha, h5]
      exact listVal_made (ans := (listTo (goesC (tableOf Wd ss ds sure) (ss.length + 2) (one + 2).toNat) (ss.length + 2), 0)) h6 hE

set_option maxRecDepth 100000 in
set_option maxHeartbeats 2000000 in
theorem side_ref (one two : Int) (sure : Bool) (hb : IsBath w w.heap.size A n c A' n' c' ss ds) :
    Calls Try.prog 35 #[.agg #[.int .i64 Wd, .slice A n c, .slice A' n' c'], .int .i64 one, .int .i64 two, .bool sure] w (ListVal (sideAns Wd ss ds one two sure) w) := by
  have hX0 : BathAt (w.alloc (.cells #[.int .i64 Wd, .slice A n c, .slice A' n' c'] 25)) w.heap.size Wd A n c A' n' c' ss ds := BathAt.new hb
  have hE0 : Ext w (w.alloc (.cells #[.int .i64 Wd, .slice A n c, .slice A' n' c'] 25)) := ext_alloc w _
  have cP : ∀ W : World, IsBath W W.heap.size A n c A' n' c' ss ds → _ := fun W h => places_ref (Wd := Wd) one two h
  by_cases he : forErr Wd ss ds one two = 0
  · obtain ⟨h0, h1, h2, h3⟩ := forErr_ok he
    have hn10 := (bath_ok h0).2.1.1
    obtain ⟨k1, hk1⟩ := Int.eq_ofNat_of_zero_le (show 0 ≤ one + 2 by omega)
    obtain ⟨k2, hk2⟩ := Int.eq_ofNat_of_zero_le (show 0 ≤ two + 2 by omega)
    have cJ : ∀ W : World, IsBath W W.heap.size A n c A' n' c' ss ds → _ := fun W h => joined_ref (Wd := Wd) k1 sure h0 h (by omega) one (by omega)
    rw [he] at cP
    have e1 : (one + 2).toNat = k1 := by omega
    have e2 : (two + 2).toNat = k2 := by omega
    have hans : sideAns Wd ss ds one two sure = if goesC (tableOf Wd ss ds sure) (ss.length + 2) k1 k2 = true then ([], 11) else (listTo (goesC (tableOf Wd ss ds sure) (ss.length + 2) k1) (ss.length + 2), 0) := by
      unfold sideAns
      rw [if_neg (by simp [he]), e1, e2]
    have hmem : two ∈ listTo (goesC (tableOf Wd ss ds sure) (ss.length + 2) k1) (ss.length + 2) ↔ goesC (tableOf Wd ss ds sure) (ss.length + 2) k1 k2 = true := by
      rw [show two = (k2 : Int) - 2 from by omega, mem_listTo]
      exact ⟨fun h => h.2, fun h => ⟨by omega, h⟩⟩
    have hlen : (listTo (goesC (tableOf Wd ss ds sure) (ss.length + 2) k1) (ss.length + 2)).length ≤ 12 := Nat.le_trans (listTo_length _ _) (by omega)
    obtain ⟨l, hl⟩ : ∃ l, listTo (goesC (tableOf Wd ss ds sure) (ss.length + 2) k1) (ss.length + 2) = l := ⟨_, rfl⟩
    rw [hl] at hans hmem hlen cJ
    obtain ⟨ans, ha⟩ : ∃ ans, sideAns Wd ss ds one two sure = ans := ⟨_, rfl⟩
    rw [ha] at hans ⊢
    have HLEN := Lib.hid hlen
    cases hg : goesC (tableOf Wd ss ds sure) (ss.length + 2) k1 k2 with
    | true =>
      rw [hg] at hans hmem
      have hin : decide (two ∈ l) = true := by simp [hmem]
      have HIN := Lib.hid hin
      obtain rfl : ans = ([], 11) := by rw [hans]; rfl
      clear hg hans hmem ha hl e1 e2 hk1 hk2 h1 h2 h3 h0 he hlen hin hb hn10
      go_enter Try.func35, Try.ntmps35
      go_wp2_with fail
      refine (cP _ hX0.bath).mono ?_
      rintro e w1 ⟨rfl, hb1⟩
      have hX1 := hX0.ext hb1
      have hE1 := hE0.trans hb1
      clear hX0 hE0 hb1
      obtain ⟨q0, q1, q2⟩ := hX1.cells
      go_wp2_with fail
      refine (cJ _ hX1.bath).mono ?_
      rintro e w2 ⟨v, rfl, hO, hb2⟩
      obtain ⟨A2, c2, rfl, hc2, hH⟩ := madeInts_held hO
      have hE2 := Lib.hid (hE1.trans hb2)
      have cI := in_ref A2 l.length c2 l two w2 rfl (by have := HLEN.out; omega) hH
      rw [HIN.out] at cI
      clear hX1 hE1 hb2 q0 q1 q2 cP cJ hO hH hc2
      go_wp2_with (go_at_call 100; refine cI.mono ?_; rintro e w3 ⟨rfl, rfl⟩)
      go_ret2
      exact ⟨none, 0, rfl, .inl rfl, hE2.out⟩
    | false =>
      rw [hg] at hans hmem
      have hin : decide (two ∈ l) = false := by simp [hmem]
      have HIN := Lib.hid hin
      obtain rfl : ans = (l, 0) := by rw [hans]; rfl
      clear hg hans hmem ha hl e1 e2 hk1 hk2 h1 h2 h3 h0 he hlen hin hb hn10
      go_enter Try.func35, Try.ntmps35
      go_wp2_with fail
      refine (cP _ hX0.bath).mono ?_
      rintro e w1 ⟨rfl, hb1⟩
      have hX1 := hX0.ext hb1
      have hE1 := hE0.trans hb1
      clear hX0 hE0 hb1
      obtain ⟨q0, q1, q2⟩ := hX1.cells
      go_wp2_with fail
      refine (cJ _ hX1.bath).mono ?_
      rintro e w2 ⟨v, rfl, hO, hb2⟩
      obtain ⟨A2, c2, rfl, hc2, hH⟩ := madeInts_held hO
      have hE2 := Lib.hid (hE1.trans hb2)
      have HH := Lib.hid hH
      have cI := in_ref A2 l.length c2 l two w2 rfl (by have := HLEN.out; omega) hH
      rw [HIN.out] at cI
      clear hX1 hE1 hb2 q0 q1 q2 cP cJ hO hH hc2
      go_wp2_with (go_at_call 100; refine cI.mono ?_; rintro e w3 ⟨rfl, rfl⟩)
      go_ret2
      exact ⟨A2, c2, rfl, HH.out, hE2.out⟩
  · have ha : sideAns Wd ss ds one two sure = ([], forErr Wd ss ds one two) := by unfold sideAns; rw [if_pos he]
    rw [ha]
    generalize forErr Wd ss ds one two = r at he cP ⊢
    have hne2 : (r != 0) = true := by simpa using he
    clear hb ha he
    go_enter Try.func35, Try.ntmps35
    go_wp2_with fail
    refine (cP _ hX0.bath).mono ?_
    rintro e w1 ⟨rfl, hb1⟩
    have hX1 := hX0.ext hb1
    have hE1 := Lib.hid (hE0.trans hb1)
    clear hX0 hE0 hb1
    obtain ⟨q0, q1, q2⟩ := hX1.cells
    go_wp2_with fail
    refine (cP _ hX1.bath).mono ?_
    rintro e w2 ⟨rfl, hb2⟩
    have hE2 := Lib.hid (hE1.out.trans hb2)
    clear hX1 hE1 hb2 q0 q1 q2 cP
    go_wp2
    go_ret2
    exact ⟨none, 0, rfl, .inl rfl, hE2.out⟩
end
end Go.Proofs.Ytgdpgdnhhjclcaa

/- The reference's Groups: what each operation of its test yields. -/
namespace Go.Proofs.Ytgdpgdnhhjclcaa
open Go.RowKit Go.Shelf

def grS (Wd : Int) (A : Option Addr) (n c : Nat) (A' : Option Addr) (n' c' : Nat) (ds : List (Int × Int × Int)) (i : Nat) (z : Int) (k : Nat) (v : Value) (W : World) : Prop :=
  match k with
  | 0 => v = .int .i64 (i : Int)
  | 1 => v = .bool true
  | 2 => v = .bool true
  | 3 => v = (.agg #[.int .i64 Wd, .slice A n c, .slice A' n' c'] : Value)
  | 4 => v = (.agg #[.int .i64 Wd, .slice A n c, .slice A' n' c'] : Value)
  | 5 => IntsAt (ds.map (endOf false)) v W
  | 6 => v = .int .i64 (i : Int)
  | 7 => v = .int .i64 z
  | _ => v = .bool (z == 0)
theorem grS_ext (Wd : Int) (A : Option Addr) (n c : Nat) (A' : Option Addr) (n' c' : Nat) (ds : List (Int × Int × Int)) (i : Nat) (z : Int) (k : Nat) (v : Value) (W W' : World) (h : grS Wd A n c A' n' c' ds i z k v W) (e : Below W.heap.size W W') : grS Wd A n c A' n' c' ds i z k v W' := by
  unfold grS at h ⊢
  split at h <;> first | exact h | exact IntsAt.ext h e
noncomputable def grReg : Array Oper := (Try.f37.body.bind (regionOf · 7)).getD #[]
def GrOk (Wd : Int) (A : Option Addr) (n c : Nat) (A' : Option Addr) (n' c' : Nat) (ds : List (Int × Int × Int)) (i : Nat) (z : Int) (Q : Exit → Act → World → Prop) (a : Act) (W : World) (k : Nat) (o : Oper) : Prop :=
  (∀ j b, o.guard = some (j, b) → a.eval (.tmp (21 + j)) = .bool b) ∧ o.wp Try.prog a W (fun a'' W' => ∃ v, a'' = a.put o.dst v ∧ grS Wd A n c A' n' c' ds i z k v W' ∧ Below W.heap.size W W') Q

section
variable {Wd : Int} {A : Option Addr} {n c : Nat} {A' : Option Addr} {n' c' : Nat} {ss : List (Int × Int)} {ds : List (Int × Int × Int)} {i p : Nat} {z : Int} {Q : Exit → Act → World → Prop} {a : Act} {V W : World} {o : Oper}
theorem gr_op0 (o7 : a.eval (.tmp 7) = .int .i64 (i : Int)) (ho : grReg[0]? = some o) : GrOk Wd A n c A' n' c' ds i z Q a W 0 o := by
  have hop := op_at ho (·.op) (x := .move (.tmp 7)) (by kernel_rfl)
  have hgd := op_at ho (·.guard) (x := none) (by kernel_rfl)
  refine ⟨fun j b h => (by rw [hgd] at h; cases h), ?_⟩
  exact specs_value (R := grS Wd A n c A' n' c' ds i z 0) (v := .int .i64 (i : Int)) (by simp [execOp, hop, go_sem, ev o7]) rfl (Ext.refl W)
theorem gr_op1 (haft : ∀ j, (o.after.any fun e => decide (e.on = j) && Region.binds .any e) = true → grS Wd A n c A' n' c' ds i z j (a.eval (.tmp (21 + j))) W) (ho : grReg[1]? = some o) : GrOk Wd A n c A' n' c' ds i z Q a W 1 o := by
  have hop := op_at ho (·.op) (x := .binOp .geq 3 (.tmp 21) (.const (.int .i64 0)) 3) (by kernel_rfl)
  have hgd := op_at ho (·.guard) (x := none) (by kernel_rfl)
  have e0 : a.eval (.tmp 21) = .int .i64 (i : Int) := haft 0 (op_at ho (fun o => o.after.any fun e => decide (e.on = 0) && Region.binds .any e) (x := true) (by kernel_rfl))
  refine ⟨fun j b h => (by rw [hgd] at h; cases h), ?_⟩
  exact specs_value (R := grS Wd A n c A' n' c' ds i z 1) (v := .bool true) (by simp [execOp, hop, go_sem, ev e0]) rfl (Ext.refl W)
theorem gr_op2 (haft : ∀ j, (o.after.any fun e => decide (e.on = j) && Region.binds .any e) = true → grS Wd A n c A' n' c' ds i z j (a.eval (.tmp (21 + j))) W) (ho : grReg[2]? = some o) : GrOk Wd A n c A' n' c' ds i z Q a W 2 o := by
  have hop := op_at ho (·.op) (x := .move (.tmp 22)) (by kernel_rfl)
  have hgd := op_at ho (·.guard) (x := none) (by kernel_rfl)
  have e1 : a.eval (.tmp 22) = .bool true := haft 1 (op_at ho (fun o => o.after.any fun e => decide (e.on = 1) && Region.binds .any e) (x := true) (by kernel_rfl))
  refine ⟨fun j b h => (by rw [hgd] at h; cases h), ?_⟩
  exact specs_value (R := grS Wd A n c A' n' c' ds i z 2) (v := .bool true) (by simp [execOp, hop, go_sem, ev e1]) rfl (Ext.refl W)
theorem gr_op3 (o2 : a.eval (.tmp 2) = .pointer (some ⟨p, 0, none⟩)) (hx : BathAt V p Wd A n c A' n' c' ss ds) (hB : Ext V W) (haft : ∀ j, (o.after.any fun e => decide (e.on = j) && Region.binds .any e) = true → grS Wd A n c A' n' c' ds i z j (a.eval (.tmp (21 + j))) W) (ho : grReg[3]? = some o) : GrOk Wd A n c A' n' c' ds i z Q a W 3 o := by
  have hop := op_at ho (·.op) (x := .load 25 (.tmp 2)) (by kernel_rfl)
  have hgd := op_at ho (·.guard) (x := some (2, true)) (by kernel_rfl)
  have e2 : a.eval (.tmp 23) = .bool true := haft 2 (op_at ho (fun o => o.after.any fun e => decide (e.on = 2) && Region.binds .any e) (x := true) (by kernel_rfl))
  refine ⟨fun j b h => (by rw [hgd] at h; cases h; exact e2), ?_⟩
  obtain ⟨q0, q1, q2⟩ := (hx.ext hB).cells
  exact specs_value (R := grS Wd A n c A' n' c' ds i z 3) (v := (.agg #[.int .i64 Wd, .slice A n c, .slice A' n' c'] : Value)) (by simp [execOp, hop, go_sem, ev o2, q0, q1, q2]) rfl (Ext.refl W)
theorem gr_op4 (o2 : a.eval (.tmp 2) = .pointer (some ⟨p, 0, none⟩)) (hx : BathAt V p Wd A n c A' n' c' ss ds) (hB : Ext V W) (haft : ∀ j, (o.after.any fun e => decide (e.on = j) && Region.binds .any e) = true → grS Wd A n c A' n' c' ds i z j (a.eval (.tmp (21 + j))) W) (ho : grReg[4]? = some o) : GrOk Wd A n c A' n' c' ds i z Q a W 4 o := by
  have hop := op_at ho (·.op) (x := .load 25 (.tmp 2)) (by kernel_rfl)
  have hgd := op_at ho (·.guard) (x := some (2, true)) (by kernel_rfl)
  have e2 : a.eval (.tmp 23) = .bool true := haft 2 (op_at ho (fun o => o.after.any fun e => decide (e.on = 2) && Region.binds .any e) (x := true) (by kernel_rfl))
  refine ⟨fun j b h => (by rw [hgd] at h; cases h; exact e2), ?_⟩
  obtain ⟨q0, q1, q2⟩ := (hx.ext hB).cells
  exact specs_value (R := grS Wd A n c A' n' c' ds i z 4) (v := (.agg #[.int .i64 Wd, .slice A n c, .slice A' n' c'] : Value)) (by simp [execOp, hop, go_sem, ev o2, q0, q1, q2]) rfl (Ext.refl W)
theorem gr_op5 (h0 : Few Wd ss ds) (hx : BathAt V p Wd A n c A' n' c' ss ds) (hB : Ext V W) (haft : ∀ j, (o.after.any fun e => decide (e.on = j) && Region.binds .any e) = true → grS Wd A n c A' n' c' ds i z j (a.eval (.tmp (21 + j))) W) (ho : grReg[5]? = some o) : GrOk Wd A n c A' n' c' ds i z Q a W 5 o := by
  have hop := op_at ho (·.op) (x := .call { callee := .value (.func 61), args := #[.tmp 25, .const (.bool false)], argTypes := #[25, 4] }) (by kernel_rfl)
  have hgd := op_at ho (·.guard) (x := some (2, true)) (by kernel_rfl)
  have e2 : a.eval (.tmp 23) = .bool true := haft 2 (op_at ho (fun o => o.after.any fun e => decide (e.on = 2) && Region.binds .any e) (x := true) (by kernel_rfl))
  have e4 : a.eval (.tmp 25) = (.agg #[.int .i64 Wd, .slice A n c, .slice A' n' c'] : Value) := haft 4 (op_at ho (fun o => o.after.any fun e => decide (e.on = 4) && Region.binds .any e) (x := true) (by kernel_rfl))
  refine ⟨fun j b h => (by rw [hgd] at h; cases h; exact e2), ?_⟩
  have hX := hx.ext hB
  have hc := ends_ref (Wd := Wd) false hX.bath (by have := h0.many.2; have := hX.bath.nds; omega)
  exact specs_call (R := grS Wd A n c A' n' c' ds i z 5) (f := 61) (args := #[(.agg #[.int .i64 Wd, .slice A n c, .slice A' n' c'] : Value), .bool false]) (by simp [execOp, hop, go_sem, ev e4]) (hc.mono fun e w' h => by
    obtain ⟨v, rfl, hM, hE⟩ := h
    exact ⟨v, rfl, made64_held hM, hE⟩)
theorem gr_op6 (o7 : a.eval (.tmp 7) = .int .i64 (i : Int)) (haft : ∀ j, (o.after.any fun e => decide (e.on = j) && Region.binds .any e) = true → grS Wd A n c A' n' c' ds i z j (a.eval (.tmp (21 + j))) W) (ho : grReg[6]? = some o) : GrOk Wd A n c A' n' c' ds i z Q a W 6 o := by
  have hop := op_at ho (·.op) (x := .move (.tmp 7)) (by kernel_rfl)
  have hgd := op_at ho (·.guard) (x := some (2, true)) (by kernel_rfl)
  have e2 : a.eval (.tmp 23) = .bool true := haft 2 (op_at ho (fun o => o.after.any fun e => decide (e.on = 2) && Region.binds .any e) (x := true) (by kernel_rfl))
  refine ⟨fun j b h => (by rw [hgd] at h; cases h; exact e2), ?_⟩
  exact specs_value (R := grS Wd A n c A' n' c' ds i z 6) (v := .int .i64 (i : Int)) (by simp [execOp, hop, go_sem, ev o7]) rfl (Ext.refl W)
theorem gr_op7 (h0 : Few Wd ss ds) (hz : (sizes ds i).1 = z) (hx : BathAt V p Wd A n c A' n' c' ss ds) (hB : Ext V W) (haft : ∀ j, (o.after.any fun e => decide (e.on = j) && Region.binds .any e) = true → grS Wd A n c A' n' c' ds i z j (a.eval (.tmp (21 + j))) W) (ho : grReg[7]? = some o) : GrOk Wd A n c A' n' c' ds i z Q a W 7 o := by
  have hop := op_at ho (·.op) (x := .call { callee := .value (.func 45), args := #[.tmp 24, .tmp 26, .tmp 27], argTypes := #[25, 55, 3] }) (by kernel_rfl)
  have hgd := op_at ho (·.guard) (x := some (2, true)) (by kernel_rfl)
  have e2 : a.eval (.tmp 23) = .bool true := haft 2 (op_at ho (fun o => o.after.any fun e => decide (e.on = 2) && Region.binds .any e) (x := true) (by kernel_rfl))
  have e3 : a.eval (.tmp 24) = (.agg #[.int .i64 Wd, .slice A n c, .slice A' n' c'] : Value) := haft 3 (op_at ho (fun o => o.after.any fun e => decide (e.on = 3) && Region.binds .any e) (x := true) (by kernel_rfl))
  obtain ⟨T, cT, e5, hT⟩ := haft 5 (op_at ho (fun o => o.after.any fun e => decide (e.on = 5) && Region.binds .any e) (x := true) (by kernel_rfl))
  rw [show 21 + 5 = 26 from rfl] at e5
  have e6 : a.eval (.tmp 27) = .int .i64 (i : Int) := haft 6 (op_at ho (fun o => o.after.any fun e => decide (e.on = 6) && Region.binds .any e) (x := true) (by kernel_rfl))
  refine ⟨fun j b h => (by rw [hgd] at h; cases h; exact e2), ?_⟩
  have hX := hx.ext hB
  have hc := sizeOf_ref (Wd := Wd) T _ cT (ds.map (endOf false)) (i : Int) hX.bath (by have := h0.many.2; have := hX.bath.nds; omega) rfl (by rw [List.length_map, hX.bath.nds]; exact Nat.le_refl _) (by rw [List.length_map]; have := h0.many.2; omega) hT (ends_bd h0 false)
  rw [hX.bath.nds, sumAt_ends] at hc
  simp only [Bool.false_eq_true, if_false, hz] at hc
  exact specs_call (R := grS Wd A n c A' n' c' ds i z 7) (f := 45) (args := #[(.agg #[.int .i64 Wd, .slice A n c, .slice A' n' c'] : Value), .slice T (ds.map (endOf false)).length cT, .int .i64 (i : Int)]) (by simp [execOp, hop, go_sem, ev e3, ev e5, ev e6]) (by rw [hX.bath.nds]; exact hc.mono fun e w' h => ⟨_, h.1, rfl, h.2⟩)
theorem gr_op8 (haft : ∀ j, (o.after.any fun e => decide (e.on = j) && Region.binds .any e) = true → grS Wd A n c A' n' c' ds i z j (a.eval (.tmp (21 + j))) W) (ho : grReg[8]? = some o) : GrOk Wd A n c A' n' c' ds i z Q a W 8 o := by
  have hop := op_at ho (·.op) (x := .binOp .eql 2 (.tmp 28) (.const (.int .i64 0)) 2) (by kernel_rfl)
  have hgd := op_at ho (·.guard) (x := some (2, true)) (by kernel_rfl)
  have e2 : a.eval (.tmp 23) = .bool true := haft 2 (op_at ho (fun o => o.after.any fun e => decide (e.on = 2) && Region.binds .any e) (x := true) (by kernel_rfl))
  have e7 : a.eval (.tmp 28) = .int .i64 z := haft 7 (op_at ho (fun o => o.after.any fun e => decide (e.on = 7) && Region.binds .any e) (x := true) (by kernel_rfl))
  refine ⟨fun j b h => (by rw [hgd] at h; cases h; exact e2), ?_⟩
  exact specs_value (R := grS Wd A n c A' n' c' ds i z 8) (v := .bool (z == 0)) (by simp [execOp, hop, go_sem, ev e7]) rfl (Ext.refl W)
theorem gr_op9 (haft : ∀ j, (o.after.any fun e => decide (e.on = j) && Region.binds .any e) = true → grS Wd A n c A' n' c' ds i z j (a.eval (.tmp (21 + j))) W) (ho : grReg[9]? = some o) : GrOk Wd A n c A' n' c' ds i z Q a W 9 o := by
  have hop := op_at ho (·.op) (x := .pick (.tmp 23) (.tmp 29) (.const (.bool false))) (by kernel_rfl)
  have hgd := op_at ho (·.guard) (x := none) (by kernel_rfl)
  have e2 : a.eval (.tmp 23) = .bool true := haft 2 (op_at ho (fun o => o.after.any fun e => decide (e.on = 2) && Region.binds .any e) (x := true) (by kernel_rfl))
  have e8 : a.eval (.tmp 29) = .bool (z == 0) := haft 8 (op_at ho (fun o => o.after.any fun e => decide (e.on = 8) && Region.binds .any e) (x := true) (by kernel_rfl))
  refine ⟨fun j b h => (by rw [hgd] at h; cases h), ?_⟩
  exact specs_value (R := grS Wd A n c A' n' c' ds i z 9) (v := .bool (z == 0)) (by simp [execOp, hop, go_sem, ev e2, ev e8]) rfl (Ext.refl W)
end
end Go.Proofs.Ytgdpgdnhhjclcaa

/- The reference's Groups: the walk; what Groups answers, as a list of lists and an error. -/
namespace Go.Proofs.Ytgdpgdnhhjclcaa
open Go.RowKit Go.Shelf

/-- The group that begins with a place. -/
def groupC (n : Nat) (sz : Nat → Int × Int) (H : Nat → Nat → Bool) (x : Nat) : Option (List Int) := if thereB sz x && (List.range x).all (fun i => !goesC H n x i) then some (listTo (goesC H n x) 12) else none
def groupsTo (n : Nat) (sz : Nat → Int × Int) (H : Nat → Nat → Bool) (k : Nat) : List (List Int) := (List.range k).filterMap (groupC n sz H)
theorem groupsC_to (n : Nat) (sz : Nat → Int × Int) (H : Nat → Nat → Bool) : groupsC n sz H = groupsTo n sz H n := by
  unfold groupsC groupsTo
  rw [← finRange_val, List.filterMap_map]
  rfl
theorem groupsTo_succ (n : Nat) (sz : Nat → Int × Int) (H : Nat → Nat → Bool) (k : Nat) : groupsTo n sz H (k + 1) = groupsTo n sz H k ++ (groupC n sz H k).toList := by
  unfold groupsTo
  rw [List.range_succ, List.filterMap_append]
  cases h : groupC n sz H k <;> simp [h]
theorem groupsTo_len (n : Nat) (sz : Nat → Int × Int) (H : Nat → Nat → Bool) (k : Nat) : (groupsTo n sz H k).length ≤ k := by
  unfold groupsTo
  exact Nat.le_trans (List.length_filterMap_le _ _) (by simp)
theorem groupsTo_each {n : Nat} {sz : Nat → Int × Int} {H : Nat → Nat → Bool} {k : Nat} {l : List Int} (h : l ∈ groupsTo n sz H k) : l.length ≤ 12 := by
  obtain ⟨x, _, hx⟩ := List.mem_filterMap.1 h
  unfold groupC at hx
  split at hx
  · simp only [Option.some.injEq] at hx
    rw [← hx]
    exact listTo_length _ _
  · cases hx

/-- What Groups answers. -/
def groupsAns (Wd : Int) (ss : List (Int × Int)) (ds : List (Int × Int × Int)) (sure : Bool) : List (List Int) × Int :=
  if bathErr Wd ss ds ≠ 0 then ([], bathErr Wd ss ds) else (groupsTo (ss.length + 2) (sizes ds) (tableOf Wd ss ds sure) (ss.length + 2), 0)
/-- A list of lists and an error, the lists in memory. -/
def RowsVal (ans : List (List Int) × Int) (w : World) (e : Ending) (w' : World) : Prop :=
  ∃ A c, e = .returned (.tuple #[.slice A ans.1.length c, .int .i64 ans.2]) ∧ HeldRows w' w'.heap.size A ans.1 ∧ Ext w w'

theorem groupsAt_held {base : Nat} {gs : List (Value × List Int)} {W : World} {v : Value} {xss : List (List Int)} (h : GroupsAt base gs W v) (hg : gs.map (·.2) = xss) (hl : ∀ xs, xs ∈ xss → xs.length ≤ 9223372036854775807) : ∃ A c, v = .slice A xss.length c ∧ HeldRows W W.heap.size A xss := by
  have hlen : gs.length = xss.length := by rw [← hg, List.length_map]
  rcases h.row.2 with ⟨rfl, h0⟩ | ⟨g, cap, cur, rfl, _, hrow, hcap, _, hsz, htake⟩
  · have hx0 : xss = [] := List.eq_nil_of_length_eq_zero (by omega)
    subst hx0
    exact ⟨none, 0, rfl, .inl rfl⟩
  · refine ⟨some ⟨g, 0, none⟩, cap, by rw [hlen], .inr ⟨g, 0, rfl, (Array.getElem?_eq_some_iff.1 hrow).1, fun j xs hj => ?_⟩⟩
    rw [← hg, List.getElem?_map, Option.map_eq_some_iff] at hj
    obtain ⟨q, hq, rfl⟩ := hj
    have hmem := List.mem_of_getElem? hq
    obtain ⟨Aj, cj, hv, _, hH⟩ := madeInts_held (h.each q hmem)
    refine ⟨Aj, cj, ?_, hH, hl _ (by rw [← hg]; exact List.mem_map.2 ⟨q, hmem, rfl⟩)⟩
    refine (cell_of_row _ _ _ _ _ _ hrow).trans ?_
    have h1 : (gs.map (·.1))[j]? = some q.1 := by rw [List.getElem?_map, hq]; rfl
    rw [← htake, List.getElem?_take] at h1
    split at h1
    · rw [Nat.zero_add, ← hv]; simpa using h1
    · cases h1

section
variable {w : World} {Wd : Int} {A : Option Addr} {n c : Nat} {A' : Option Addr} {n' c' : Nat} {ss : List (Int × Int)} {ds : List (Int × Int × Int)}

theorem groups_prog (sure : Bool) (hb : IsBath w w.heap.size A n c A' n' c' ss ds) :
    Calls Try.prog 36 #[.agg #[.int .i64 Wd, .slice A n c, .slice A' n' c'], .bool sure] w (RowsVal (groupsAns Wd ss ds sure) w) := by
  refine (groups_any (Wd := Wd) sure hb).mono ?_
  rintro e w' ⟨hE, h | h⟩
  · have ha : groupsAns Wd ss ds sure = ([], bathErr Wd ss ds) := by unfold groupsAns; rw [if_pos h.1]
    rw [ha]
    exact ⟨none, 0, h.2, .inl rfl, hE⟩
  · obtain ⟨h0, v, gs, rfl, hG, hg⟩ := h
    have ha : groupsAns Wd ss ds sure = (groupsTo (ss.length + 2) (sizes ds) (tableOf Wd ss ds sure) (ss.length + 2), 0) := by unfold groupsAns; rw [if_neg (by simp [h0])]
    have hn10 := (bath_ok h0).2.1.1
    rw [groupsOf_C _ (by omega) (by omega) tableOf_lt tableOf_sym, groupsC_to] at hg
    obtain ⟨A2, c2, rfl, hH⟩ := groupsAt_held hG hg (fun xs hx => Nat.le_trans (groupsTo_each hx) (by omega))
    rw [ha]
    exact ⟨A2, c2, rfl, hH, hE⟩

theorem GroupsAt.ext {base : Nat} {gs : List (Value × List Int)} {W W' : World} {v : Value} (h : GroupsAt base gs W v) (e : Ext W W') : GroupsAt base gs W' v :=
  ⟨owns_below h.row e, fun q hq => ⟨owns_below (h.each q hq).1 e, (h.each q hq).2⟩, h.none⟩

set_option maxRecDepth 100000 in
set_option maxHeartbeats 2000000 in
theorem groups_ref (sure : Bool) (hb : IsBath w w.heap.size A n c A' n' c' ss ds) :
    Calls Try.prog 37 #[.agg #[.int .i64 Wd, .slice A n c, .slice A' n' c'], .bool sure] w (RowsVal (groupsAns Wd ss ds sure) w) := by
  have hX0 : BathAt (w.alloc (.cells #[.int .i64 Wd, .slice A n c, .slice A' n' c'] 25)) w.heap.size Wd A n c A' n' c' ss ds := BathAt.new hb
  have hE0 : Ext w (w.alloc (.cells #[.int .i64 Wd, .slice A n c, .slice A' n' c'] 25)) := ext_alloc w _
  have cB : ∀ W : World, IsBath W W.heap.size A n c A' n' c' ss ds → _ := fun W h => checkBath_ref (Wd := Wd) h
  by_cases h0 : bathErr Wd ss ds = 0
  · rw [h0] at cB
    have hn10 : n ≤ 10 := by have := (bath_ok h0).2.1.1; have := hb.nss; omega
    have hans : groupsAns Wd ss ds sure = (groupsTo (ss.length + 2) (sizes ds) (tableOf Wd ss ds sure) (ss.length + 2), 0) := by unfold groupsAns; rw [if_neg (by simp [h0])]
    have hsz : ∀ i, 0 ≤ (sizes ds i).1 := fun m => by have := sizes_bd' h0 ds.length m; rw [List.take_length] at this; omega
    obtain ⟨m, hm⟩ : ∃ m, ss.length + 2 = m := ⟨_, rfl⟩
    have hmn : n + 2 = m := by have := hb.nss; omega
    have hTl : ∀ i j, tableOf Wd ss ds sure i j = true → i < m ∧ j < m ∧ i ≠ j := fun i j h => by have := tableOf_lt i j h; rw [hm] at this; exact this
    have cJ : ∀ x : Nat, x < m → ∀ W : World, IsBath W W.heap.size A n c A' n' c' ss ds → Calls Try.prog 99 #[.agg #[.int .i64 Wd, .slice A n c, .slice A' n' c'], .int .i64 ((x : Int) - 2), .bool sure] W (ListPost (listTo (goesC (tableOf Wd ss ds sure) m x) 12) W) := fun x hx W h => by
      have := joined_ref (Wd := Wd) x sure h0 h (by omega) ((x : Int) - 2) (by omega)
      rw [hm] at this
      have hl := listTo_beyond (M := goesC (tableOf Wd ss ds sure) m x) (m := m) (goesC_beyond hTl hx) (12 - m)
      rw [show m + (12 - m) = 12 from by omega] at hl
      rw [hl]
      exact this
    obtain ⟨T, hT⟩ : ∃ T, tableOf Wd ss ds sure = T := ⟨_, rfl⟩
    rw [hT] at cJ hans
    rw [hm] at hans
    rw [hans]
    have hself : ∀ x, goesC T m x x = true := fun x => by unfold goesC; rw [outs_t]; rfl
    obtain ⟨i42, hi, hz0, hz1, hz2⟩ := info_parts info42
    have HI := Lib.hid hi
    have HZ0 := Lib.hid hz0
    have HZ1 := Lib.hid hz1
    have HZ2 := Lib.hid hz2
    have HF := Lib.hid (bath_few h0)
    have CJ := Lib.hid cJ
    have HSZ := Lib.hid hsz
    have HSELF := Lib.hid hself
    have HMN := Lib.hid (And.intro hmn hn10)
    clear hi hz0 hz1 hz2 hT hans hm hmn hTl cJ hsz hself h0 hb hn10
    go_enter Try.func37, Try.ntmps37
    go_wp2_with fail
    refine (cB _ hX0.bath).mono ?_
    rintro e w1 ⟨rfl, hb1⟩
    have HX1 := Lib.hid (hX0.ext hb1)
    have HE1 := Lib.hid (hE0.trans hb1)
    clear hX0 hE0 hb1 cB
    go_wp2
    obtain ⟨p, hp⟩ : ∃ p, w.heap.size = p := ⟨_, rfl⟩
    rw [hp] at HX1 ⊢
    clear hp
    go_loopw [6, 7, 8] (fun v z _ wr => ∃ (x : Nat) (gs : List (Value × List Int)), x ≤ m ∧ z = .int .i64 ((x : Int) - 2) ∧ Hid (Ext w1 wr) ∧ Hid (GroupsAt w1.heap.size gs wr v) ∧ Hid (gs.map (·.2) = groupsTo m (sizes ds) T x)) (fun _ z _ _ => m - (intOf z + 2).toNat)
    case atStart => exact ⟨0, [], Nat.zero_le _, rfl, Lib.hid (Ext.refl _), Lib.hid ⟨World.ownsRow_nil _ _ _ _, fun q hq => absurd hq (by simp), fun _ => rfl⟩, Lib.hid rfl⟩
    case round =>
      obtain ⟨x, gs, hx, rfl, hB, hG, hg⟩ := hrel
      have hxw := HX1.out.ext hB.out
      obtain ⟨q0, q1, q2⟩ := hxw.cells
      by_cases hlt : x < m
      · have hltz : (x : Int) - 2 < (n : Int) := by have := HMN.out; omega
        have hxb : (x : Int) ≤ 12 := by have := HMN.out; omega
        have hx12 : x < 12 := by have := HMN.out; omega
        by_cases hx2 : x < 2
        · have hx2z : decide (0 ≤ (x : Int) - 2) = false := by simp; omega
          have hx2y : decide ((2 : Int) ≤ (x : Int)) = false := by simp; omega
          have hx2w : decide (2 ≤ x) = false := by simp; omega
          have HTHERE : Hid (thereB (sizes ds) x = true) := Lib.hid (by simp [thereB, hx2])
          clear hxw
          go_wp2
          go_quiet (fail)
          clear hx2z hx2y hx2w
          obtain ⟨wc, hwc, hC⟩ : ∃ wc, wr.drewN nq = wc ∧ Ext wr wc := ⟨_, rfl, bdrewN (Below.refl _ _) _⟩
          rw [hwc]
          clear hwc
          have hwcz : w1.heap.size ≤ wc.heap.size := by have := hB.out.size; have := hC.size; omega
          have hxc := HX1.out.ext (hB.out.trans hC)
          clear q0 q1 q2
          obtain ⟨q0, q1, q2⟩ := hxc.cells
          have hGc := hG.out.ext hC
          have cJ := CJ.out x hlt wc hxc.bath
          have HC := Lib.hid hC
          clear hC hG hxc
          go_wp2_with fail
          refine cJ.mono ?_
          rintro e w2 ⟨v2, rfl, hO2, e2⟩
          obtain ⟨i1, k3, b2, off2, d2, hv2, hpos, hc2, hle, hMi, hlow⟩ := listed_first (x := x) hx12 (HSELF.out x) hO2
          subst hv2
          have hG2 := hGc.ext e2
          have HE2 := Lib.hid ((hB.out.trans HC.out).trans e2)
          clear hGc e2 q0 q1 q2 cJ hB HC
          by_cases hix : i1 = x
          · subst hix
            have hii : ((i1 : Int) - 2 == (i1 : Int) - 2) = true := by simp
            have hsome : groupC m (sizes ds) T i1 = some (listTo (goesC T m i1) 12) := by
              unfold groupC
              rw [HTHERE.out, if_pos]
              simp only [Bool.true_and, List.all_eq_true, List.mem_range]
              intro j hj
              simp [hlow j hj]
            have hgl : gs.length ≤ 12 := by
              have h1 : gs.length = (groupsTo m (sizes ds) T i1).length := by rw [← hg.out, List.length_map]
              have := groupsTo_len m (sizes ds) T i1
              omega
            have hlist : Hid ((gs ++ [(Value.slice (some ⟨b2, off2, none⟩) k3 d2, listTo (goesC T m i1) 12)]).map (·.2) = groupsTo m (sizes ds) T (i1 + 1)) := Lib.hid (by
              rw [groupsTo_succ, hsome, List.map_append, hg.out]
              rfl)
            have hO3 := hO2
            have HG2 := Lib.hid hG2
            have HO3 := Lib.hid hO3
            have hbase : w1.heap.size ≤ w2.heap.size := HE2.out.size
            obtain ⟨gl, hgle⟩ : ∃ gl, gs.length = gl := ⟨_, rfl⟩
            have hrow := hG2.row
            rw [hgle] at hgl hrow
            have HROW := Lib.hid hrow
            have HGLE := Lib.hid hgle
            have HWC := Lib.hid hwcz
            clear hsome hlow hMi hle hg hG2 hO2 hO3 hgle hrow hwcz
            go_wp2_with (first | (at_builtin; refine wpList_append_own _ rfl (.tmp 40) (.tmp 42) 48 rfl w1.heap.size 42 i42 (.slice none 0 0) 1 24 Try.underlying48 HI.out HZ0.out HZ1.out HZ2.out rfl (by decide) _ gl _ rfl (HROW.out.alloc _) ⟨w2.heap.size, 0, none⟩ 1 1 [.slice (some ⟨b2, off2, none⟩) k3 d2] rfl rfl (cell_one_new _ _ _) (by simp [Value.oneCell']) ?c3 ?c4 ?c5 ?_))
            case c3 => unfold maxLen; omega
            case c4 => omega
            case c5 => first | omega | (simp; omega)
            · intro v' w4 hown' hg4 _
              have ob := own_block (HROW.out.alloc (.cells #[.slice (some ⟨b2, off2, none⟩) k3 d2] 42))
              have hE4 : Hid (Ext w1 w4) := Lib.hid ((HE2.out.alloc hbase (.cells #[.slice (some ⟨b2, off2, none⟩) k3 d2] 42)).grown hg4 (by simp; omega) (fun r e => (HROW.out.lt r e).1))
              have hG4 : Hid (GroupsAt w1.heap.size (gs ++ [(Value.slice (some ⟨b2, off2, none⟩) k3 d2, listTo (goesC T m i1) 12)]) w4 v') := Lib.hid ⟨by
                  rw [List.length_append, List.map_append, HGLE.out]
                  simpa using hown', fun q hq => by
                  rcases List.mem_append.1 hq with hq | hq
                  · exact ⟨owns_opt ((HG2.out.each q hq).1.alloc (.cells #[.slice (some ⟨b2, off2, none⟩) k3 d2] 42)) hg4 (fun r e => by
                      obtain ⟨cs', fr', h1⟩ := ob r e
                      exact ⟨cs', 42, fr', h1, by decide⟩), (HG2.out.each q hq).2⟩
                  · rw [List.mem_singleton.1 hq]
                    exact ⟨owns_mono (owns_opt (HO3.out.1.alloc (.cells #[.slice (some ⟨b2, off2, none⟩) k3 d2] 42)) hg4 (fun r e => by
                      obtain ⟨cs', fr', h1⟩ := ob r e
                      exact ⟨cs', 42, fr', h1, by decide⟩)) HWC.out, HO3.out.2⟩, fun e => by simp at e⟩
              clear hown' hg4 ob
              go_wp2
              go_roundw
              case measure => simp [intOf]; omega
              case rel => exact ⟨i1 + 1, _, by omega, by go_num, hE4, hG4, hlist⟩
          · have hii : ((i1 : Int) - 2 == (x : Int) - 2) = false := by simp; omega
            have hnone : groupC m (sizes ds) T x = none := by
              unfold groupC
              rw [if_neg]
              intro h
              simp only [Bool.and_eq_true, List.all_eq_true, List.mem_range] at h
              have := h.2 i1 (by omega)
              rw [hMi] at this
              cases this
            have hg2 : Hid (gs.map (·.2) = groupsTo m (sizes ds) T (x + 1)) := Lib.hid (by rw [groupsTo_succ, hnone, hg.out]; simp)
            have HG2 := Lib.hid hG2
            clear hnone hlow hMi hle hg hG2 hO2 hix hwcz
            go_wp2
            go_roundw
            case measure => simp [intOf]; omega
            case rel => exact ⟨x + 1, gs, by omega, by go_num, HE2, HG2, hg2⟩
        · obtain ⟨i, hxi'⟩ : ∃ i, x = i + 2 := ⟨x - 2, by omega⟩
          have hxi : (x : Int) - 2 = (i : Int) := by omega
          obtain ⟨z, hzi⟩ : ∃ z, (sizes ds i).1 = z := ⟨_, rfl⟩
          have HZI := Lib.hid hzi
          have HXW := Lib.hid hxw
          clear hzi hxw
          go_wp2
          clear q0 q1 q2
          rw [hxi]
          refine wp_region_specs (ops := grReg) (grS Wd A n c A' n' c' ds i z) (Ext wr) (by kernel_rfl) (by kernel_rfl) ⟨rfl, rfl, rfl, Nat.le_refl _, fun _ _ => rfl⟩ (fun _ _ h e => h.trans e) (grS_ext Wd A n c A' n' c' ds i z) (fun k => 21 + k) (by kernel_rfl) ?_ ?_
          · intro k o ho a W hB hsz hold haft
            have hk : k < 10 := (Array.getElem?_eq_some_iff.1 ho).1
            have hx := HXW.out
            match k, hk with
            | 0, _ => exact gr_op0 (hold 7 (by kernel_rfl)) ho
            | 1, _ => exact gr_op1 haft ho
            | 2, _ => exact gr_op2 haft ho
            | 3, _ => exact gr_op3 (hold 2 (by kernel_rfl)) hx hB haft ho
            | 4, _ => exact gr_op4 (hold 2 (by kernel_rfl)) hx hB haft ho
            | 5, _ => exact gr_op5 HF.out hx hB haft ho
            | 6, _ => exact gr_op6 (hold 7 (by kernel_rfl)) haft ho
            | 7, _ => exact gr_op7 HF.out HZI.out hx hB haft ho
            | 8, _ => exact gr_op8 haft ho
            | 9, _ => exact gr_op9 haft ho
            | k + 10, h => exact absurd h (by omega)
          · intro a wc hC hsz hdf hold hS
            have hsize : 10 = grReg.size := by kernel_rfl
            obtain ⟨T5, c5, e5, _⟩ : IntsAt (ds.map (endOf false)) (a.eval (.tmp 26)) wc := hS 5 (by rw [← hsize]; omega)
            have hall : ∀ zz, zz ∈ ([(21, .int .i64 (i : Int)), (22, .bool true), (23, .bool true), (24, (.agg #[.int .i64 Wd, .slice A n c, .slice A' n' c'] : Value)), (25, (.agg #[.int .i64 Wd, .slice A n c, .slice A' n' c'] : Value)), (26, .slice T5 (ds.map (endOf false)).length c5), (27, .int .i64 (i : Int)), (28, .int .i64 z), (29, .bool (z == 0)), (30, .bool (z == 0))] : List (Tmp × Value)) → zz.1 < 45 ∧ a.eval (.tmp zz.1) = zz.2 := by
              intro zz hzz
              simp only [List.mem_cons, List.not_mem_nil, or_false] at hzz
              rcases hzz with rfl | rfl | rfl | rfl | rfl | rfl | rfl | rfl | rfl | rfl
              · exact ⟨(show (21 : Nat) < 45 by omega), hS 0 (by rw [← hsize]; omega)⟩
              · exact ⟨(show (22 : Nat) < 45 by omega), hS 1 (by rw [← hsize]; omega)⟩
              · exact ⟨(show (23 : Nat) < 45 by omega), hS 2 (by rw [← hsize]; omega)⟩
              · exact ⟨(show (24 : Nat) < 45 by omega), hS 3 (by rw [← hsize]; omega)⟩
              · exact ⟨(show (25 : Nat) < 45 by omega), hS 4 (by rw [← hsize]; omega)⟩
              · exact ⟨(show (26 : Nat) < 45 by omega), e5⟩
              · exact ⟨(show (27 : Nat) < 45 by omega), hS 6 (by rw [← hsize]; omega)⟩
              · exact ⟨(show (28 : Nat) < 45 by omega), hS 7 (by rw [← hsize]; omega)⟩
              · exact ⟨(show (29 : Nat) < 45 by omega), hS 8 (by rw [← hsize]; omega)⟩
              · exact ⟨(show (30 : Nat) < 45 by omega), hS 9 (by rw [← hsize]; omega)⟩
            have ha := act_puts hsz hdf hall (fun t ht => hold t (all_ne_of (l := [(21, .int .i64 (i : Int)), (22, .bool true), (23, .bool true), (24, (.agg #[.int .i64 Wd, .slice A n c, .slice A' n' c'] : Value)), (25, (.agg #[.int .i64 Wd, .slice A n c, .slice A' n' c'] : Value)), (26, .slice T5 (ds.map (endOf false)).length c5), (27, .int .i64 (i : Int)), (28, .int .i64 z), (29, .bool (z == 0)), (30, .bool (z == 0))]) (by kernel_rfl) ht))
            clear hall hS hold hsz hdf e5 hsize
            rw [ha]
            clear ha
            simp only [Exit.then, puts, List.foldl_cons, List.foldl_nil, Act.put, List.setIfInBounds_toArray, List.set_cons_succ, List.set_cons_zero]
            go_at_K
            by_cases hz0 : z = 0
            · have hzz : (z == 0) = true := by simp [hz0]
              have hnone : groupC m (sizes ds) T x = none := by
                unfold groupC
                rw [if_neg]
                intro h
                simp only [Bool.and_eq_true, thereB, Bool.or_eq_true, decide_eq_true_eq] at h
                rcases h.1 with h1 | h1
                · omega
                · rw [show x - 2 = i from by omega, HZI.out] at h1
                  omega
              have hg2 : Hid (gs.map (·.2) = groupsTo m (sizes ds) T (x + 1)) := Lib.hid (by rw [groupsTo_succ, hnone, hg.out]; simp)
              have hG2 := Lib.hid (hG.out.ext hC)
              have hE2 := Lib.hid (hB.out.trans hC)
              have HXI := Lib.hid hxi
              have hib : (i : Int) ≤ 12 := by omega
              rw [hzz]
              clear hnone hg hG hB hC hz0 hzz hxi hxi' hx2
              go_wp2
              go_roundw
              case measure => simp [intOf]; have := HXI.out; omega
              case rel => exact ⟨x + 1, gs, by omega, by rw [show ((x + 1 : Nat) : Int) - 2 = (i : Int) + 1 from by have := HXI.out; omega], hE2, hG2, hg2⟩
            · have hzz : (z == 0) = false := by simp [hz0]
              have hwcz : w1.heap.size ≤ wc.heap.size := by have := hB.out.size; have := hC.size; omega
              have HTHERE : Hid (thereB (sizes ds) x = true) := Lib.hid (by
                have := HSZ.out i
                rw [HZI.out] at this
                unfold thereB
                rw [show x - 2 = i from by omega, HZI.out]
                simp
                omega)
              rw [hzz, ← hxi]
              clear hz0 hzz hxi hxi' hx2
              have hxc := HX1.out.ext (hB.out.trans hC)
              obtain ⟨q0, q1, q2⟩ := hxc.cells
              have hGc := hG.out.ext hC
              have cJ := CJ.out x hlt wc hxc.bath
              have HC := Lib.hid hC
              clear hC hG hxc
              go_wp2_with fail
              refine cJ.mono ?_
              rintro e w2 ⟨v2, rfl, hO2, e2⟩
              obtain ⟨i1, k3, b2, off2, d2, hv2, hpos, hc2, hle, hMi, hlow⟩ := listed_first (x := x) hx12 (HSELF.out x) hO2
              subst hv2
              have hG2 := hGc.ext e2
              have HE2 := Lib.hid ((hB.out.trans HC.out).trans e2)
              clear hGc e2 q0 q1 q2 cJ hB HC
              by_cases hix : i1 = x
              · subst hix
                have hii : ((i1 : Int) - 2 == (i1 : Int) - 2) = true := by simp
                have hsome : groupC m (sizes ds) T i1 = some (listTo (goesC T m i1) 12) := by
                  unfold groupC
                  rw [HTHERE.out, if_pos]
                  simp only [Bool.true_and, List.all_eq_true, List.mem_range]
                  intro j hj
                  simp [hlow j hj]
                have hgl : gs.length ≤ 12 := by
                  have h1 : gs.length = (groupsTo m (sizes ds) T i1).length := by rw [← hg.out, List.length_map]
                  have := groupsTo_len m (sizes ds) T i1
                  omega
                have hlist : Hid ((gs ++ [(Value.slice (some ⟨b2, off2, none⟩) k3 d2, listTo (goesC T m i1) 12)]).map (·.2) = groupsTo m (sizes ds) T (i1 + 1)) := Lib.hid (by
                  rw [groupsTo_succ, hsome, List.map_append, hg.out]
                  rfl)
                have hO3 := hO2
                have HG2 := Lib.hid hG2
                have HO3 := Lib.hid hO3
                have hbase : w1.heap.size ≤ w2.heap.size := HE2.out.size
                obtain ⟨gl, hgle⟩ : ∃ gl, gs.length = gl := ⟨_, rfl⟩
                have hrow := hG2.row
                rw [hgle] at hgl hrow
                have HROW := Lib.hid hrow
                have HGLE := Lib.hid hgle
                have HWC := Lib.hid hwcz
                clear hsome hlow hMi hle hg hG2 hO2 hO3 hgle hrow hwcz
                go_wp2_with (first | (at_builtin; refine wpList_append_own _ rfl (.tmp 40) (.tmp 42) 48 rfl w1.heap.size 42 i42 (.slice none 0 0) 1 24 Try.underlying48 HI.out HZ0.out HZ1.out HZ2.out rfl (by decide) _ gl _ rfl (HROW.out.alloc _) ⟨w2.heap.size, 0, none⟩ 1 1 [.slice (some ⟨b2, off2, none⟩) k3 d2] rfl rfl (cell_one_new _ _ _) (by simp [Value.oneCell']) ?c3 ?c4 ?c5 ?_))
                case c3 => unfold maxLen; omega
                case c4 => omega
                case c5 => first | omega | (simp; omega)
                · intro v' w4 hown' hg4 _
                  have ob := own_block (HROW.out.alloc (.cells #[.slice (some ⟨b2, off2, none⟩) k3 d2] 42))
                  have hE4 : Hid (Ext w1 w4) := Lib.hid ((HE2.out.alloc hbase (.cells #[.slice (some ⟨b2, off2, none⟩) k3 d2] 42)).grown hg4 (by simp; omega) (fun r e => (HROW.out.lt r e).1))
                  have hG4 : Hid (GroupsAt w1.heap.size (gs ++ [(Value.slice (some ⟨b2, off2, none⟩) k3 d2, listTo (goesC T m i1) 12)]) w4 v') := Lib.hid ⟨by
                      rw [List.length_append, List.map_append, HGLE.out]
                      simpa using hown', fun q hq => by
                      rcases List.mem_append.1 hq with hq | hq
                      · exact ⟨owns_opt ((HG2.out.each q hq).1.alloc (.cells #[.slice (some ⟨b2, off2, none⟩) k3 d2] 42)) hg4 (fun r e => by
                          obtain ⟨cs', fr', h1⟩ := ob r e
                          exact ⟨cs', 42, fr', h1, by decide⟩), (HG2.out.each q hq).2⟩
                      · rw [List.mem_singleton.1 hq]
                        exact ⟨owns_mono (owns_opt (HO3.out.1.alloc (.cells #[.slice (some ⟨b2, off2, none⟩) k3 d2] 42)) hg4 (fun r e => by
                          obtain ⟨cs', fr', h1⟩ := ob r e
                          exact ⟨cs', 42, fr', h1, by decide⟩)) HWC.out, HO3.out.2⟩, fun e => by simp at e⟩
                  clear hown' hg4 ob
                  go_wp2
                  go_roundw
                  case measure => simp [intOf]; omega
                  case rel => exact ⟨i1 + 1, _, by omega, by go_num, hE4, hG4, hlist⟩
              · have hii : ((i1 : Int) - 2 == (x : Int) - 2) = false := by simp; omega
                have hnone : groupC m (sizes ds) T x = none := by
                  unfold groupC
                  rw [if_neg]
                  intro h
                  simp only [Bool.and_eq_true, List.all_eq_true, List.mem_range] at h
                  have := h.2 i1 (by omega)
                  rw [hMi] at this
                  cases this
                have hg2 : Hid (gs.map (·.2) = groupsTo m (sizes ds) T (x + 1)) := Lib.hid (by rw [groupsTo_succ, hnone, hg.out]; simp)
                have HG2 := Lib.hid hG2
                clear hnone hlow hMi hle hg hG2 hO2 hix hwcz
                go_wp2
                go_roundw
                case measure => simp [intOf]; omega
                case rel => exact ⟨x + 1, gs, by omega, by go_num, HE2, HG2, hg2⟩
      · have hltz : ¬ (x : Int) - 2 < (n : Int) := by have := HMN.out; omega
        obtain rfl : x = m := by omega
        obtain ⟨A2, c2, hv, hH⟩ := groupsAt_held hG.out hg.out (fun xs hx => Nat.le_trans (groupsTo_each hx) (by omega))
        subst hv
        have HH := Lib.hid hH
        clear hH hG hg hxw
        go_wp2
        go_ret2
        exact ⟨A2, c2, rfl, HH.out, HE1.out.trans hB.out⟩
  · have ha : groupsAns Wd ss ds sure = ([], bathErr Wd ss ds) := by unfold groupsAns; rw [if_pos h0]
    rw [ha]
    generalize bathErr Wd ss ds = r at h0 cB ⊢
    have hne2 : (r != 0) = true := by simpa using h0
    clear hb ha h0
    go_enter Try.func37, Try.ntmps37
    go_wp2_with fail
    refine (cB _ hX0.bath).mono ?_
    rintro e w1 ⟨rfl, hb1⟩
    have hX1 := hX0.ext hb1
    have hE1 := Lib.hid (hE0.trans hb1)
    clear hX0 hE0 hb1
    obtain ⟨q0, q1, q2⟩ := hX1.cells
    go_wp2_with fail
    refine (cB _ hX1.bath).mono ?_
    rintro e w2 ⟨rfl, hb2⟩
    have hE2 := Lib.hid (hE1.out.trans hb2)
    clear hX1 hE1 hb2 q0 q1 q2 cB
    go_wp2
    go_ret2
    exact ⟨none, 0, rfl, .inl rfl, hE2.out⟩
end
end Go.Proofs.Ytgdpgdnhhjclcaa

/- DropJoined: the groups of a bath: plain mathematics. -/
namespace Go.Proofs.Ytgdpgdnhhjclcaa

section
variable {Wd : Int} {ss : List (Int × Int)} {ds : List (Int × Int × Int)} {sure : Bool}

/-- Whether one of the first drops is on a spot. -/
def onTo (ds : List (Int × Int × Int)) (v : Int) (k : Nat) : Bool := (ds.take k).any fun d => decide (d.1 = v)
theorem onTo_succ (ds : List (Int × Int × Int)) (v : Int) {k : Nat} (hk : k < ds.length) : onTo ds v (k + 1) = (onTo ds v k || decide ((ds.getD k (0, 0, 0)).1 = v)) := by
  unfold onTo
  rw [List.take_succ_eq_append_getElem hk, List.any_append]
  simp [List.getElem?_eq_getElem hk]
theorem sizes_on (hd : ∀ d ∈ ds, 1 ≤ d.2.1 ∧ d.2.1 ≤ d.2.2 ∧ d.2.2 ≤ 10000) (i : Nat) : ∀ k, k ≤ ds.length → (onTo ds i k = true → 1 ≤ (sizes (ds.take k) i).1) ∧ (onTo ds i k = false → sizes (ds.take k) i = (0, 0))
  | 0, _ => by simp [onTo, sizes]
  | k + 1, hk => by
    obtain ⟨h1, h2⟩ := sizes_on hd i k (by omega)
    have hkl : k < ds.length := by omega
    have hb := hd _ (List.getElem_mem hkl)
    have hp := sizes_bd (ds.take k) (fun d hm => hd d (List.mem_of_mem_take hm)) i
    rw [onTo_succ ds _ hkl, sizes_snoc _ _ hkl]
    have e : ds.getD k (0, 0, 0) = ds[k] := by simp [List.getElem?_eq_getElem hkl]
    rw [e]
    unfold addTo
    by_cases hs : ds[k].1 = (i : Int)
    · rw [if_pos hs]
      simp [hs]
      omega
    · rw [if_neg hs]
      simp only [hs, decide_false, Bool.or_false]
      exact ⟨h1, h2⟩
/-- A spot is there just if a drop is on it. -/
theorem there_on (h0 : bathErr Wd ss ds = 0) (x : Nat) : thereB (sizes ds) x = (decide ((x : Int) - 2 < 0) || onTo ds ((x : Int) - 2) ds.length) := by
  unfold thereB
  by_cases hx : x < 2
  · have h1 : (x : Int) - 2 < 0 := by omega
    simp [hx, h1]
  · have h1 : ¬ (x : Int) - 2 < 0 := by omega
    obtain ⟨i, rfl⟩ : ∃ i, x = i + 2 := ⟨x - 2, by omega⟩
    have e : ((i + 2 : Nat) : Int) - 2 = (i : Int) := by omega
    have := sizes_on (by have := drops_bd h0 ds.length; rwa [List.take_length] at this) i ds.length (Nat.le_refl _)
    rw [List.take_length] at this
    rw [e, show i + 2 - 2 = i from by omega]
    have h3 : ¬ (i : Int) < 0 := by omega
    cases ho : onTo ds i ds.length with
    | true => have := this.1 ho; simp [hx, h3]; omega
    | false => have := this.2 ho; rw [this]; simp [hx, h3]

theorem meet_there (h0 : bathErr Wd ss ds = 0) (sel : Nat → Int) (one two : Int) (h1 : -2 ≤ one) (h1' : one < (ss.length : Int)) (h2 : -2 ≤ two) (h2' : two < (ss.length : Int)) (hm : meetB Wd ss sel one two = true) : (one < 0 ∨ 0 < sel one.toNat ∨ sel one.toNat < 0) ∧ (two < 0 ∨ 0 < sel two.toNat ∨ sel two.toNat < 0) := by
  have key : ∀ a b : Int, min a b = a → max a b = b → -2 ≤ a → b < (ss.length : Int) → meetB Wd ss sel a b = true → (a < 0 ∨ 0 < sel a.toNat ∨ sel a.toNat < 0) ∧ (b < 0 ∨ 0 < sel b.toNat ∨ sel b.toNat < 0) := by
    intro a b hmin hmax ha hb hm
    unfold meetB at hm
    rw [hmin, hmax] at hm
    split at hm
    · cases hm
    · rename_i hb0
      split at hm
      · rename_i ha0
        refine ⟨.inl ha0, ?_⟩
        obtain ⟨X, Y, hXY⟩ : ∃ X Y, ss.getD b.toNat (0, 0) = (X, Y) := ⟨_, _, rfl⟩
        have hbd := spot_bd (bath_few h0) (i := b.toNat) (by omega) hXY
        rw [hXY, decide_eq_true_eq] at hm
        simp only [] at hm
        split at hm
        · have := Int.mul_le_mul (a := 1) (b := 1) (c := X) (d := X) (by omega) (by omega) (by omega) (by omega)
          omega
        · have := Int.mul_le_mul (a := 1) (b := 1) (c := Wd - X) (d := Wd - X) (by omega) (by omega) (by omega) (by omega)
          omega
      · rename_i ha0
        unfold reachB at hm
        split at hm
        · cases hm
        · rename_i hz
          omega
  rcases Int.le_total one two with h | h
  · exact key one two (by omega) (by omega) h1 h2' hm
  · rw [meetB_comm] at hm
    exact (key two one (by omega) (by omega) h2 h1' hm).symm

theorem hold_there (h0 : bathErr Wd ss ds = 0) {i j : Nat} (h : tableOf Wd ss ds sure i j = true) : thereB (sizes ds) i = true ∧ thereB (sizes ds) j = true := by
  have hl := tableOf_lt i j h
  have hk : kindOf Wd ss (sizes ds) ((i : Int) - 2) ((j : Int) - 2) ≠ 0 := by
    rw [tableOf_eq] at h
    simp only [holdB, Bool.and_eq_true, Bool.or_eq_true, decide_eq_true_eq] at h
    have := h.2.2
    omega
  have hd : ∀ d ∈ ds, 1 ≤ d.2.1 ∧ d.2.1 ≤ d.2.2 ∧ d.2.2 ≤ 10000 := by have := drops_bd h0 ds.length; rwa [List.take_length] at this
  have hm : meetB Wd ss (fun i => (sizes ds i).2) ((i : Int) - 2) ((j : Int) - 2) = true := by
    cases hq : meetB Wd ss (fun i => (sizes ds i).2) ((i : Int) - 2) ((j : Int) - 2) with
    | true => rfl
    | false =>
      exfalso
      refine hk ((kindOf_zero Wd ss (sizes ds) _ _).2 ⟨?_, hq⟩)
      cases hp : meetB Wd ss (fun i => (sizes ds i).1) ((i : Int) - 2) ((j : Int) - 2) with
      | false => rfl
      | true =>
        rw [meetB_mono Wd ss _ (fun i => (sizes ds i).2) (fun i => (sizes_bd ds hd i).1) (fun i => (sizes_bd ds hd i).2.1) _ _ hp] at hq
        cases hq
  obtain ⟨a, b⟩ := meet_there h0 _ _ _ (by omega) (by omega) (by omega) (by omega) hm
  have key : ∀ x : Nat, ((x : Int) - 2 < 0 ∨ 0 < (sizes ds ((x : Int) - 2).toNat).2 ∨ (sizes ds ((x : Int) - 2).toNat).2 < 0) → thereB (sizes ds) x = true := fun x hx => by
    unfold thereB
    by_cases hx2 : x < 2
    · simp [hx2]
    · have e : ((x : Int) - 2).toNat = x - 2 := by omega
      rw [e] at hx
      have hs := sizes_on hd (x - 2) ds.length (Nat.le_refl _)
      rw [List.take_length] at hs
      cases ho : onTo ds ((x - 2 : Nat) : Int) ds.length with
      | true => have := hs.1 ho; simp; omega
      | false => have := hs.2 ho; rw [this] at hx; simp at hx; omega
  exact ⟨key i a, key j b⟩

theorem bath_eqv (h0 : bathErr Wd ss ds = 0) : Eqv (goesC (tableOf Wd ss ds sure) (ss.length + 2)) (thereB (sizes ds)) (ss.length + 2) := by
  have hl := (bath_ok h0).2.1.1
  have hg : ∀ x, x < ss.length + 2 → ∀ y, goesC (tableOf Wd ss ds sure) (ss.length + 2) x y = true ↔ Way (tableOf Wd ss ds sure) x y := fun x hx y => by
    rw [← goesB_goesC (n := ss.length + 2) (H := tableOf Wd ss ds sure) (k := x) (by omega) (by omega) tableOf_lt tableOf_sym hx, goesB_iff]
  have lt : ∀ x y, x < ss.length + 2 → Way (tableOf Wd ss ds sure) x y → y < ss.length + 2 := fun x y hx hw => by
    cases hw with
    | here => exact hx
    | more _ _ hH => exact (tableOf_lt _ _ hH).2.1
  refine ⟨by omega, fun x hx => (hg x hx x).2 .here, fun x y hx h => ?_, fun x y z hx h h' => ?_, fun x y hx h => lt x y hx ((hg x hx y).1 h), fun x y hx h hT => ?_⟩
  · have hw := (hg x hx y).1 h
    exact (hg y (lt x y hx hw) x).2 (hw.symm tableOf_sym (by omega))
  · have hw := (hg x hx y).1 h
    exact (hg x hx z).2 (hw.trans ((hg y (lt x y hx hw) z).1 h'))
  · cases (hg x hx y).1 h with
    | here => exact hT
    | more _ _ hH => exact (hold_there h0 hH).2
theorem groups_gs : groupsTo (ss.length + 2) (sizes ds) (tableOf Wd ss ds sure) (ss.length + 2) = gsTo (goesC (tableOf Wd ss ds sure) (ss.length + 2)) (thereB (sizes ds)) (ss.length + 2) := rfl

theorem way_wider {x y : Nat} (h : Way (tableOf Wd ss ds true) x y) : Way (tableOf Wd ss ds false) x y := by
  induction h with
  | here => exact .here
  | more _ hj hH ih =>
    refine .more ih hj ?_
    rw [tableOf_eq] at hH ⊢
    simp only [holdB, Bool.and_eq_true, Bool.or_eq_true, decide_eq_true_eq, Bool.not_true, Bool.false_eq_true, and_false, or_false, Bool.not_false, and_true] at hH ⊢
    exact ⟨hH.1, hH.2.1, .inl hH.2.2⟩
theorem goes_wider (h0 : bathErr Wd ss ds = 0) {x y : Nat} (hx : x < ss.length + 2) (h : goesC (tableOf Wd ss ds true) (ss.length + 2) x y = true) : goesC (tableOf Wd ss ds false) (ss.length + 2) x y = true := by
  have hl := (bath_ok h0).2.1.1
  rw [← goesB_goesC (n := ss.length + 2) (k := x) (by omega) (by omega) tableOf_lt tableOf_sym hx, goesB_iff] at h ⊢
  exact way_wider h
/-- Way finds one just if both places have one group. -/
theorem outs_goes {one two : Int} (he : forErr Wd ss ds one two = 0) : outs (tableOf Wd ss ds sure) (ss.length + 2) (two + 2).toNat (ss.length + 1) (one + 2).toNat ≠ 0 ↔ goesC (tableOf Wd ss ds sure) (ss.length + 2) (one + 2).toNat (two + 2).toNat = true := by
  obtain ⟨h0, hne, h2, h3⟩ := forErr_ok he
  have hl := (bath_ok h0).2.1.1
  rw [way_outs he, goesB_goesC (n := ss.length + 2) (H := tableOf Wd ss ds sure) (k := (one + 2).toNat) (by omega) (by omega) tableOf_lt tableOf_sym (by omega)]
theorem no_way {one two : Int} (he : forErr Wd ss ds one two = 0) (h : thereB (sizes ds) (one + 2).toNat = false ∨ thereB (sizes ds) (two + 2).toNat = false) : outs (tableOf Wd ss ds sure) (ss.length + 2) (two + 2).toNat (ss.length + 1) (one + 2).toNat = 0 := by
  obtain ⟨h0, hne, h2, h3⟩ := forErr_ok he
  refine Decidable.byContradiction fun ho => ?_
  have hg := (way_outs he).1 ho
  rw [goesB_iff] at hg
  have hlast : ∀ s t : Nat, s ≠ t → Way (tableOf Wd ss ds sure) s t → thereB (sizes ds) t = true := fun s t hst hw => by
    cases hw with
    | here => exact absurd rfl hst
    | more _ _ hH => exact (hold_there h0 hH).2
  have hl := (bath_ok h0).2.1.1
  have a1 := hlast _ _ (by omega) hg
  have a2 := hlast _ _ (by omega) (hg.symm tableOf_sym (by omega))
  rcases h with h | h
  · rw [h] at a2; cases a2
  · rw [h] at a1; cases a1
end
end Go.Proofs.Ytgdpgdnhhjclcaa
