/- Texts of one package, joined: Prices80. -/
import Derived.Test.YtmlmnljbegcjcaaGreatD10
import Derived.Laws.MakeOwn
import Derived.Laws.OwnMore
/- prices: the walk. -/
namespace Go.Proofs.YtmlmnljbegcjcaaGreat
open Go.RowKit Go.Shelf
attribute [local irreducible] bitCells

theorem run_make36 (n : Nat) (hn : n ≤ 4096) (w : World) : (Instr.makeSlice 36 (.int .i64 (n : Int)) (.int .i64 (n : Int))).run Tryz.prog w = .ok (.slice (some ⟨w.heap.size, 0, none⟩) n n) (w.alloc (.cells (madeCells #[.int .i64 0] (n * 1)) 2)) := by
  obtain ⟨i0, hi, hz0, hz1, hz2⟩ := info_parts info2
  have := run_makeSlice (P := Tryz.prog) w 36 2 i0 _ Tryz.underlying36 hi hz0 .i64 .i64 (n : Int) (n : Int) (by omega) (Int.le_refl _) (by rw [hz1]; simp; omega) (by rw [hz2]; omega) (by omega)
  simp only [Int.toNat_natCast, hz1] at this
  exact this
def cellsI (ps : List Int) : Array Value := (ps.map (Value.int .i64)).toArray
theorem cellsI_set (ps : List Int) (k : Nat) (v : Int) : (cellsI ps).setIfInBounds k (.int .i64 v) = cellsI (ps.set k v) := by
  unfold cellsI
  rw [List.setIfInBounds_toArray, List.map_set]
theorem cellsI_get (ps : List Int) {k : Nat} (hk : k < ps.length) : (cellsI ps)[k]? = some (.int .i64 ps[k]) := by simp [cellsI, hk]
theorem price0_zero (os : List Odr) : cellsI (price0 os 0) = madeCells #[.int .i64 0] (os.length * 1) := by
  apply Array.toList_inj.1
  rw [toList_madeCells_one, Nat.mul_one]
  unfold cellsI price0
  apply List.ext_getElem (by simp)
  intro i h1 h2
  simp
theorem price0_has {os : List Odr} {k : Nat} (h : hasB (oAt os k) = true) : price0 os (k + 1) = price0 os k := by
  unfold price0
  refine List.map_congr_left fun i _ => ?_
  by_cases e : i = k
  · subst e; simp [h]
  · have : (i < k + 1) = (i < k) := by rw [eq_iff_iff]; omega
    simp [this]
theorem price0_set {os : List Odr} {k : Nat} (_hk : k < os.length) (h : hasB (oAt os k) = false) : (price0 os k).set k (oAt os k).worth = price0 os (k + 1) := by
  apply List.ext_getElem (by simp [price0])
  intro i h1 h2
  rw [List.getElem_set]
  by_cases e : k = i
  · subst e; simp [price0, h]
  · have : (i < k + 1) = (i < k) := by rw [eq_iff_iff]; omega
    simp [price0, e, this]
theorem mark0_has {os : List Odr} {k : Nat} (h : hasB (oAt os k) = true) : mark0 os (k + 1) = mark0 os k := by
  funext i
  unfold mark0
  by_cases e : i = k
  · subst e; simp [h]
  · have : decide (i < k + 1) = decide (i < k) := by rw [decide_eq_decide]; omega
    rw [this]
theorem bits_set (M : Nat → Bool) (k : Nat) : (bitCells M).setIfInBounds k (.bool true) = bitCells (fun i => M i || oneBit k i) := by
  apply Array.ext_getElem?
  intro i
  by_cases hi : i < 14
  · rw [bitCells_get _ i hi, Array.getElem?_setIfInBounds]
    by_cases e : k = i
    · subst e
      rw [if_pos rfl, if_pos (by rw [bitCells_size]; exact hi)]
      simp [oneBit]
    · rw [if_neg e, bitCells_get _ i hi]
      simp [oneBit, show ¬ i = k from fun h => e h.symm]
  · rw [Array.getElem?_eq_none (by simp [bitCells_size]; omega), Array.getElem?_eq_none (by rw [bitCells_size]; omega)]
theorem mark0_set {os : List Odr} {k : Nat} (hk : k < os.length) (h : hasB (oAt os k) = false) : bitCells (fun i => mark0 os k i || oneBit k i) = bitCells (mark0 os (k + 1)) := by
  congr 1
  funext i
  unfold mark0 oneBit
  by_cases e : i = k
  · subst e; simp [h, hk]
  · have : decide (i < k + 1) = decide (i < k) := by rw [decide_eq_decide]; omega
    simp [e, this]
/-- How many of the first n marks are off. -/
def offs (M : Nat → Bool) (n : Nat) : Nat := (List.range n).countP fun i => !M i
theorem offs_less {M : Nat → Bool} {n k : Nat} (hk : k < n) (h : M k = false) : offs (fun i => M i || oneBit k i) n < offs M n :=
  countP_step _ _ k _ (fun i hi => by cases e : M i <;> simp [e] at hi ⊢) (List.mem_range.2 hk) (by simp [h]) (by simp [oneBit])
def offAt (W : World) (p : Nat) : Nat := (List.range 14).countP fun i => match W.cell? ⟨p, i, none⟩ with
  | some (.bool false) => true
  | _ => false
theorem offAt_is {W : World} {p : Nat} {M : Nat → Bool} (h : W.heap[p]? = some (.cells (bitCells M) 83 (0, 0))) : offAt W p = offs M 14 := by
  unfold offAt offs
  refine List.countP_congr fun i hi => ?_
  rw [(cell_of_row _ _ i _ _ _ h).trans (bitCells_get M i (List.mem_range.1 hi))]
  cases M i <;> simp
theorem pricesGo_none {os : List Odr} {y : Int} {M : Nat → Bool} {ps : List Int} (h : nextOf os M = none) : ∀ f, pricesGo os y f M ps = ps
  | 0 => rfl
  | f + 1 => by unfold pricesGo; rw [h]

set_option maxRecDepth 100000 in
set_option maxHeartbeats 4000000 in
theorem prices_any {A : Option Addr} {c : Nat} {os : List Odr} {w : World} (hb : IsBook w A c os) (y : Int) (hy0 : 0 ≤ y) (hy1 : y ≤ 10000000) :
    Calls Tryz.prog 80 #[.slice A os.length c, .int .i64 y] w fun e w' => Ext w w' ∧ ∃ g, e = .returned (.slice (some ⟨g, 0, none⟩) os.length os.length) ∧ w.heap.size ≤ g ∧ w'.heap[g]? = some (.cells (cellsI (pricesB os y)) 2 (0, 0)) := by
  have HB := Lib.hid hb
  have h14 := hb.few.2
  have hmk : ∀ W : World, (Instr.makeSlice 36 (.int .i64 (os.length : Int)) (.int .i64 (os.length : Int))).run Tryz.prog W = .ok (.slice (some ⟨W.heap.size, 0, none⟩) os.length os.length) (W.alloc (.cells (cellsI (price0 os 0)) 2)) := fun W => by rw [price0_zero]; exact run_make36 _ (by omega) W
  have hwo : ∀ i, i < os.length → 0 ≤ (oAt os i).worth ∧ (oAt os i).worth ≤ 100000 := fun i hi => (ordOk_iff.1 ((orders_ok hb.ok).2 _ (oAt_mem hi))).2.2
  have hp0 := prices_start (os := os) (fun i hi => (hwo i hi).1) hy0
  have HP0 := Lib.hid hp0
  have HWO := Lib.hid hwo
  have HPB := Lib.hid (show pricesGo os y os.length (mark0 os os.length) (price0 os os.length) = pricesB os y from rfl)
  clear hb hp0 hwo
  go_enter Tryz.func80, Tryz.ntmps80
  go_upto_region 3 with (refine wpList_alloc83 rfl rfl ?_)
  obtain ⟨g, hg⟩ : ∃ g, w.heap.size = g := ⟨_, rfl⟩
  have hz : (w.alloc (.cells (cellsI (price0 os 0)) 2)).heap.size = g + 1 := by simp [hg]
  rw [hz, hg]
  obtain ⟨w2, hw2⟩ : ∃ w2, (w.alloc (.cells (cellsI (price0 os 0)) 2)).alloc (.cells (bitCells noBits) 83) = w2 := ⟨_, rfl⟩
  have e2 : Ext w w2 := by rw [← hw2]; exact (ext_alloc _ _).trans (ext_alloc _ _)
  have rg : w2.heap[g]? = some (.cells (cellsI (price0 os 0)) 2 (0, 0)) := by rw [← hw2]; exact row_alloc _ _ _ _ (row_last _ _ _ hg.symm)
  have r6 : w2.heap[g + 1]? = some (.cells (bitCells noBits) 83 (0, 0)) := by rw [← hw2]; exact row_last _ _ _ hz.symm
  rw [hw2]
  have HG := Lib.hid (show w.heap.size ≤ g from Nat.le_of_eq hg)
  have HE2 := Lib.hid e2
  have HRG := Lib.hid rg
  have HR6 := Lib.hid r6
  simp only [Act.put, List.setIfInBounds_toArray, List.set_cons_succ, List.set_cons_zero]
  clear hw2 hz hg e2 rg r6 hmk
  go_wp2
  go_loopw [16] (fun i wr => ∃ k : Nat, k ≤ os.length ∧ i = .int .i64 k ∧ Hid (Ext w wr) ∧ Hid (wr.heap[g]? = some (.cells (cellsI (price0 os k)) 2 (0, 0))) ∧ Hid (wr.heap[g + 1]? = some (.cells (bitCells (mark0 os k)) 83 (0, 0)))) (fun i _ => os.length - (intOf i).toNat)
  case atStart => exact ⟨0, Nat.zero_le _, rfl, HE2, HRG, Lib.hid (by rw [show mark0 os 0 = noBits from by funext i; simp [mark0, noBits]]; exact HR6.out)⟩
  case round =>
    obtain ⟨k, hk, rfl, hE, hG, hR⟩ := hrel
    clear HE2 HRG HR6
    by_cases hlt : k < os.length
    · have hltz : (k : Int) < (os.length : Int) := by omega
      have hk14 : k < 14 := by omega
      have hk14z : (k : Int) < 14 := by omega
      obtain ⟨b, off, rfl, hbl, c0, c1, c2, c3, c4, c5, c6⟩ := (HB.out.ext hE.out).at hlt
      have hoat := oAt_get hlt
      have hps := fun h => price0_set (os := os) hlt h
      have hms := fun h => mark0_set (os := os) hlt h
      have hph := fun h => price0_has (os := os) (k := k) h
      have hmh := fun h => mark0_has (os := os) (k := k) h
      rw [hoat] at hps hms hph hmh
      obtain ⟨o, ho⟩ : ∃ o, os[k] = o := ⟨_, rfl⟩
      rw [ho] at c0 c1 c2 c3 c4 c5 c6 hps hms hph hmh
      have hpl : k < (price0 os k).length := by simp [price0]; exact hlt
      have cg : wr.cell? ⟨g, k, none⟩ = some (.int .i64 (price0 os k)[k]) := (cell_of_row _ _ _ _ _ _ hG.out).trans (cellsI_get _ hpl)
      have c9 : wr.cell? ⟨g + 1, k, none⟩ = some (.bool (mark0 os k k)) := (cell_of_row _ _ _ _ _ _ hR.out).trans (bitCells_get _ _ hk14)
      have fg : wr.frozen? ⟨g, k, none⟩ = false := by simp [World.frozen?, hG.out]
      have f9 : wr.frozen? ⟨g + 1, k, none⟩ = false := by simp [World.frozen?, hR.out]
      have hgl : g + 1 < wr.heap.size := (Array.getElem?_eq_some_iff.1 hR.out).1
      have hgl2 : g < wr.heap.size := by omega
      have h54 := fun W => hasBirths_any o W
      obtain ⟨q, hq⟩ : ∃ q, hasB o = q := ⟨_, rfl⟩
      simp only [hq] at h54 hps hms hph hmh
      have HS := Lib.hid (And.intro hps (And.intro hms (And.intro hph hmh)))
      clear hq ho hoat hps hms hph hmh
      go_upto_region 6 with fail
      obtain ⟨w5, hw5⟩ : ∃ w5, wr.alloc (.cells #[.int .i64 o.lo, .int .i64 o.hi, .int .i64 o.young, .int .i64 o.old, .int .i64 o.worth, .int .i64 (bLo o), .int .i64 (bHi o)] 80) = w5 := ⟨_, rfl⟩
      obtain ⟨p5, hp5⟩ : ∃ p5, wr.heap.size = p5 := ⟨_, rfl⟩
      have e5 : Ext wr w5 := by rw [← hw5]; exact ext_alloc _ _
      have r5 : w5.heap[p5]? = some (.cells #[.int .i64 o.lo, .int .i64 o.hi, .int .i64 o.young, .int .i64 o.old, .int .i64 o.worth, .int .i64 (bLo o), .int .i64 (bHi o)] 80 (0, 0)) := by rw [← hw5]; exact row_last _ _ _ hp5.symm
      rw [hw5, hp5]
      have d0 : w5.cell? ⟨p5, 0, none⟩ = some (.int .i64 o.lo) := cell_of_row _ _ _ _ _ _ r5
      have d1 : w5.cell? ⟨p5, 1, none⟩ = some (.int .i64 o.hi) := cell_of_row _ _ _ _ _ _ r5
      have d2 : w5.cell? ⟨p5, 2, none⟩ = some (.int .i64 o.young) := cell_of_row _ _ _ _ _ _ r5
      have d3 : w5.cell? ⟨p5, 3, none⟩ = some (.int .i64 o.old) := cell_of_row _ _ _ _ _ _ r5
      have d4 : w5.cell? ⟨p5, 4, none⟩ = some (.int .i64 o.worth) := cell_of_row _ _ _ _ _ _ r5
      have d5 : w5.cell? ⟨p5, 5, none⟩ = some (.int .i64 (bLo o)) := cell_of_row _ _ _ _ _ _ r5
      have d6 : w5.cell? ⟨p5, 6, none⟩ = some (.int .i64 (bHi o)) := cell_of_row _ _ _ _ _ _ r5
      have HE5 := Lib.hid e5
      have HR5 := Lib.hid r5
      clear hw5 hp5 e5 r5 c0 c1 c2 c3 c4 c5 c6 cg c9 fg f9 hgl hgl2
      have h54' := h54 w5
      clear h54
      cases q with
      | true =>
        go_wp2_with (refine h54'.mono ?_; rintro e w6 ⟨rfl, e6⟩; have HE6 := Lib.hid (Ext.trans HE5.out (show Ext w5 w6 from e6)); clear e6 h54' d0 d1 d2 d3 d4 d5 d6)
        go_roundw
        case measure => simp [intOf]; omega
        case rel => exact ⟨k + 1, by omega, by go_num, Lib.hid (hE.out.trans HE6.out), Lib.hid (by rw [HS.out.2.2.1 trivial]; exact row_ext hG.out HE6.out), Lib.hid (by rw [HS.out.2.2.2 trivial]; exact row_ext hR.out HE6.out)⟩
      | false =>
        go_wp2_with (refine h54'.mono ?_; rintro e w6 ⟨rfl, e6⟩; have HE6 := Lib.hid (Ext.trans HE5.out (show Ext w5 w6 from e6)); have hG6 := row_ext hG.out HE6.out; have hR6 := row_ext hR.out HE6.out; have HG6 := Lib.hid hG6; have HR6 := Lib.hid hR6; have d4' : w6.cell? ⟨p5, 4, none⟩ = some (.int .i64 o.worth) := cell_of_row _ _ _ _ _ _ (row_ext HR5.out (show Ext w5 w6 from e6)); have cg : w6.cell? ⟨g, k, none⟩ = some (.int .i64 (price0 os k)[k]) := (cell_of_row _ _ _ _ _ _ hG6).trans (cellsI_get _ hpl); have c9 : w6.cell? ⟨g + 1, k, none⟩ = some (.bool (mark0 os k k)) := (cell_of_row _ _ _ _ _ _ hR6).trans (bitCells_get _ _ hk14); have fg : w6.frozen? ⟨g, k, none⟩ = false := (by simp [World.frozen?, hG6]); have f9 : w6.frozen? ⟨g + 1, k, none⟩ = false := (by simp [World.frozen?, hR6]); clear e6 h54' d0 d1 d2 d3 d4 d5 d6 hG6 hR6)
        go_roundw
        case measure => simp [intOf]; omega
        case rel =>
          refine ⟨k + 1, by omega, by go_num, Lib.hid (set_kept (set_kept (hE.out.trans HE6.out) HG.out) (by have := HG.out; omega)), Lib.hid ?_, Lib.hid ?_⟩
          · rw [heap_set_other _ _ _ _ _ (by omega), ← HS.out.1 trivial, ← cellsI_set]
            exact row_setCell _ _ _ _ _ _ _ HG6.out
          · rw [← HS.out.2.1 trivial, ← bits_set]
            exact row_setCell _ _ _ _ _ _ _ ((heap_set_other _ _ _ _ _ (by omega)).trans HR6.out)
    · have hltz : ¬ (k : Int) < (os.length : Int) := by omega
      obtain rfl : k = os.length := by omega
      have h92 := next_any (HB.out.ext hE.out) (mark0 os os.length)
      rw [nextAns_is] at h92
      have HH92 := Lib.hid (fun W (hW : Ext w W) M => (nextAns_is (nextOf os M)) ▸ next_any (HB.out.ext hW) M)
      go_wp2_with (first | refine wpList_load83 (.tmp 6) rfl rfl (g + 1) rfl (bitCells (mark0 os os.length)) (bitCells_size _) hR.out ?_ | (refine h92.mono ?_; rintro e w3 ⟨rfl, e3⟩; have HE3 := Lib.hid (hE.out.trans e3); have HG3 := Lib.hid (row_ext hG.out e3); have HR3 := Lib.hid (row_ext hR.out e3); clear e3 h92 hE hG hR))
      go_loopw [9, 10] (fun v9 v10 wr => ∃ (M : Nat → Bool) (ps : List Int) (f : Nat), v9 = .int .i64 (nxK (nextOf os M)) ∧ v10 = .bool (nextOf os M).isSome ∧ Hid (PricesAt os y M ps ∧ offs M os.length ≤ f ∧ pricesGo os y f M ps = pricesB os y) ∧ Hid (Ext w wr) ∧ Hid (wr.heap[g]? = some (.cells (cellsI ps) 2 (0, 0))) ∧ Hid (wr.heap[g + 1]? = some (.cells (bitCells M) 83 (0, 0)))) (fun _ _ wr => offAt wr (g + 1))
      case atStart => exact ⟨mark0 os os.length, price0 os os.length, os.length, rfl, rfl, Lib.hid ⟨HP0.out, Nat.le_trans List.countP_le_length (by simp), HPB.out⟩, HE3, HG3, HR3⟩
      case round =>
        obtain ⟨M, ps, f, rfl, rfl, hP, hE, hG, hR⟩ := hrel
        clear HE3 HG3 HR3
        have hoff := offAt_is hR.out
        cases hnx : nextOf os M with
        | none =>
          have hps : ps = pricesB os y := by rw [← hP.out.2.2, pricesGo_none hnx]
          have hG2 := hG.out
          rw [hps] at hG2
          have HG2 := Lib.hid hG2
          clear hps hG2 hnx hP hoff
          go_wp2
          go_ret
          exact ⟨hE.out, g, rfl, HG.out, HG2.out⟩
        | some j =>
          obtain ⟨hPA, hof, hgo⟩ := hP.out
          obtain ⟨hj, hMj, _⟩ := next_some hPA.has hnx
          have hless := offs_less (n := os.length) hj hMj
          have hless14 := offs_less (n := 14) (show j < 14 by omega) hMj
          obtain ⟨f', rfl⟩ : ∃ f', f = f' + 1 := ⟨f - 1, by omega⟩
          have hst := hPA.step (fun i hi => (HWO.out i hi).1) h14 hj hMj
          have hgo' : pricesGo os y f' (fun i => M i || oneBit j i) (ps.set j (leftB os j y ps)) = pricesB os y := by
            rw [← hgo]
            conv => rhs; unfold pricesGo
            rw [hnx]
          have hfair := hPA.fair (fun i hi => (HWO.out i hi).2)
          have hpn : ps.length = os.length := hPA.len
          have hjz : (j : Int) < (os.length : Int) := by omega
          have hj14z : (j : Int) < 14 := by omega
          have hheld : Held wr wr.heap.size 1 encI (some ⟨g, 0, none⟩) ps := held_row hG.out (by simp [cellsI])
          have h101 := left_any (HB.out.ext hE.out) j hj y (by omega) hy1 (some ⟨g, 0, none⟩) os.length os.length ps hpn.symm hpn hfair hheld
          obtain ⟨z, hz⟩ : ∃ z, leftB os j y ps = z := ⟨_, rfl⟩
          rw [hz] at hst hgo' h101
          have hjp : j < ps.length := by omega
          have HN := Lib.hid (And.intro hst (And.intro (show offs (fun i => M i || oneBit j i) os.length ≤ f' by omega) hgo'))
          have HL14 := Lib.hid hless14
          have HOFF := Lib.hid hoff
          clear hz hst hgo' hgo hPA hof hfair hheld hless hless14 hnx hP hoff hpn hMj
          rw [show nxK (some j) = (j : Int) from rfl]
          go_wp2_with (first | (refine h101.mono ?_; rintro e w5 ⟨rfl, e5⟩; have HE5 := Lib.hid (hE.out.trans e5); have hG5 := row_ext hG.out e5; have hR5 := row_ext hR.out e5; have HG5 := Lib.hid hG5; have HR5 := Lib.hid hR5; have cg : w5.cell? ⟨g, j, none⟩ = some (.int .i64 ps[j]) := (cell_of_row _ _ _ _ _ _ hG5).trans (cellsI_get _ hjp); have c9 : w5.cell? ⟨g + 1, j, none⟩ = some (.bool (M j)) := (cell_of_row _ _ _ _ _ _ hR5).trans (bitCells_get _ _ (by omega)); have fg : w5.frozen? ⟨g, j, none⟩ = false := (by simp [World.frozen?, hG5]); have f9 : w5.frozen? ⟨g + 1, j, none⟩ = false := (by simp [World.frozen?, hR5]); have HEX := Lib.hid (set_kept (set_kept HE5.out HG.out : Ext w (w5.setCell ⟨g, j, none⟩ (.int .i64 z))) (Nat.le_succ_of_le HG.out) : Ext w ((w5.setCell ⟨g, j, none⟩ (.int .i64 z)).setCell ⟨g + 1, j, none⟩ (.bool true))); have HGX := Lib.hid (show ((w5.setCell ⟨g, j, none⟩ (.int .i64 z)).setCell ⟨g + 1, j, none⟩ (.bool true)).heap[g]? = some (.cells (cellsI (ps.set j z)) 2 (0, 0)) from (heap_set_other _ _ _ _ _ (by omega)).trans (by rw [← cellsI_set]; exact row_setCell _ _ _ _ _ _ _ hG5)); have HRX := Lib.hid (show ((w5.setCell ⟨g, j, none⟩ (.int .i64 z)).setCell ⟨g + 1, j, none⟩ (.bool true)).heap[g + 1]? = some (.cells (bitCells fun i => M i || oneBit j i) 83 (0, 0)) from by rw [← bits_set]; exact row_setCell _ _ _ _ _ _ _ ((heap_set_other _ _ _ _ _ (by omega)).trans hR5)); have h92 := HH92.out _ HEX.out (fun i => M i || oneBit j i); clear e5 h101 hG5 hR5) | refine wpList_load83 (.tmp 6) rfl rfl (g + 1) rfl (bitCells fun i => M i || oneBit j i) (bitCells_size _) HRX.out ?_ | (refine h92.mono ?_; rintro e w7 ⟨rfl, e7⟩; have HE7 := Lib.hid (HEX.out.trans e7); have HG7 := Lib.hid (row_ext HGX.out e7); have HR7 := Lib.hid (row_ext HRX.out e7); clear e7 h92))
          go_roundw
          case measure =>
            rw [offAt_is HR7.out, HOFF.out]
            exact HL14.out
          case rel => exact ⟨fun i => M i || oneBit j i, ps.set j z, f', rfl, rfl, HN, HE7, HG7, HR7⟩
end Go.Proofs.YtmlmnljbegcjcaaGreat
