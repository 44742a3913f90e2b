/- Texts of one package, joined: RowsIt. -/
import Derived.Test.YtlaakmgdbhabfaaC8
import Derived.Sort.CutIn
/- rows: the walk of its iterator. -/
namespace Go.Proofs.Ytlaakmgdbhabfaa
open Go.RowKit Go.Shelf
attribute [local go_sem] Oper.semAt_some
attribute [local irreducible] bitCells

section
variable {A : Option Addr} {n c : Nat} {A' : Option Addr} {n' c' : Nat} {cs ms : List (Int × Int)}
theorem marks_at {ms : List (Int × Int)} : ∀ {f : Int} (_ : 0 ≤ f) (_ : marksOk f ms = true) {j : Nat} (_ : j < ms.length), 0 ≤ (ms.getD j (0, 0)).1 ∧ (ms.getD j (0, 0)).1 ≤ (ms.getD j (0, 0)).2 ∧ (ms.getD j (0, 0)).2 ≤ 500 ∧ (ms.getD j (0, 0)).2 - (ms.getD j (0, 0)).1 ≤ 3 := by
  induction ms with
  | nil => intro f _ _ j hj; simp at hj
  | cons m ms ih =>
    intro f hf h j hj
    have h1 : ([m.1, m.2].all (inside f 500) && ([m.2 - m.1].all (inside 0 3) && marksOk (m.2 + 1) ms)) = true := h
    simp [inside] at h1
    match j, hj with
    | 0, _ => simp; omega
    | j + 1, hj => simpa using ih (f := m.2 + 1) (by omega) (by simpa using h1.2.2) (j := j) (by simpa using hj)

set_option maxRecDepth 100000 in
set_option maxHeartbeats 4000000 in
theorem rows1_in (N : Nat) (hn : 1 ≤ N) (l P n₀ : Nat) (J Jx : List (Nat × Int) → World → Prop) (h0 : sheetErr cs ms = 0)
    (hY : ∀ pre x W, J pre W → pre.length < (fitsOf cs ms).length → YieldAt Fence.wide (N - 1) Try.prog l #[.agg (fitCells x.1 x.2 (hadB cs ms x.1 x.2))] W fun e W' =>
      (e = .returned (.bool true) ∧ J (pre ++ [x]) W' ∧ KeepsVars n₀ W W') ∨ (e = .returned (.bool false) ∧ Jx (pre ++ [x]) W'))
    (W : World) (hP : P < n₀) (hn₀ : n₀ ≤ W.heap.size) (hrow : W.heap[P]? = some (.cells #[.slice A n c, .slice A' n' c'] 25 (0, 0))) (hb : IsSheet W n₀ A n c A' n' c' cs ms)
    (hab : ∀ s X X', J s X → Ext X X' → J s X') (hJ0 : J [] W) :
    CallsIn Fence.wide N Try.prog 106 #[.func (.yield l) #[] #[], .pointer (some ⟨P, 0, none⟩)] W fun e W' => (∃ v, e = .returned v) ∧
      ((∃ ys, ys = fitsOf cs ms ∧ J ys W') ∨ (∃ pre, pre <+: fitsOf cs ms ∧ Jx pre W')) := by
  have HN := Lib.hid hb
  have hn8 : n ≤ 8 := by have := (sheet_ok h0).1; have := hb.ncs; omega
  have hn12 : n' ≤ 12 := by have := (sheet_ok h0).1; have := hb.nms; omega
  have HM := Lib.hid (fun (j : Nat) (hj : j < ms.length) => marks_at (f := 0) (Int.le_refl 0) (sheet_ok h0).2.2 hj)
  have HH0 := Lib.hid h0
  have HAB := Lib.hid hab
  have hsh : ∀ W', KeepsVars n₀ W W' → n₀ ≤ W'.heap.size ∧ SheetAt W' P A n c A' n' c' cs ms := fun W' hk =>
    ⟨Nat.le_trans hn₀ hk.1.size, (hk.1.block P hP).trans hrow, (hb.kept hk.1 (Nat.le_refl _)).wider (Nat.le_trans hn₀ hk.1.size)⟩
  have HSH := Lib.hid hsh
  obtain ⟨q0, q1⟩ := (hsh W ⟨Below.refl _ _, fun _ _ _ h _ _ => h⟩).2.cells
  clear hb h0 hab hsh hrow
  refine callsIn_of_wp Try.func106 rfl trivial ?_ rfl
  simp only [Try.ntmps106, List.size_toArray, List.length_cons, List.length_nil, Nat.reduceAdd, Nat.reduceSub, Array.replicate_succ, Array.replicate_zero, List.push_toArray, List.append_toArray, List.nil_append, List.cons_append]
  gi_wp2
  gi_loopw [12] (fun i wr => ∃ k : Nat, k ≤ n ∧ i = .int .i64 k ∧ J (fitsUpto cs ms k) wr ∧ Hid (KeepsVars n₀ W wr)) (fun i _ => n - (intOf i).toNat)
  case atStart => exact ⟨0, Nat.zero_le _, rfl, hJ0, Lib.hid ⟨Below.refl _ _, fun _ _ _ h _ _ => h⟩⟩
  case round =>
    obtain ⟨k, hk, rfl, hJk, hK⟩ := hrel
    clear q0 q1
    obtain ⟨hsz, hS⟩ := HSH.out wr hK.out
    obtain ⟨q0, q1⟩ := hS.cells
    by_cases hlt : k < n
    · have hltz : (k : Int) < (n : Int) := by omega
      gi_wp2
      gi_loopw [18] (fun i wq => ∃ j : Nat, j ≤ n' ∧ i = .int .i64 j ∧ J (fitsUpto cs ms k ++ rowsUpto cs ms k j) wq ∧ Hid (KeepsVars n₀ W wq)) (fun i _ => n' - (intOf i).toNat)
      case atStart => exact ⟨0, Nat.zero_le _, rfl, by rw [show rowsUpto cs ms k 0 = [] from rfl, List.append_nil]; exact hJk, hK⟩
      case round =>
        obtain ⟨j, hj, rfl, hJj, hK2⟩ := hrel
        clear q0 q1 hS hsz hK hJk
        obtain ⟨hsz, hS⟩ := HSH.out wr hK2.out
        by_cases hjt : j < n'
        · have hjz : (j : Int) < (n' : Int) := by omega
          have hjl : j < ms.length := by have := HN.out.nms; omega
          obtain ⟨b, off, hA', hbl, d0, d1⟩ := held_pair hS.sheet.hms hjl
          obtain ⟨lo, hi, hs⟩ : ∃ lo hi, ms.getD j (0, 0) = (lo, hi) := ⟨_, _, rfl⟩
          have hm := HM.out j hjl
          rw [hs] at d0 d1 hm
          simp only at d0 d1 hm
          obtain ⟨m1, m2, m3, m4⟩ := hm
          obtain ⟨L, hL⟩ : ∃ L : Nat, hi = lo + L := ⟨(hi - lo).toNat, by omega⟩
          have HS := Lib.hid hs
          have HL := Lib.hid hL
          clear hL
          subst hA'
          gi_wp2
          obtain ⟨wm, hwm⟩ : ∃ wm, wr.alloc (.cells #[.int .i64 lo, .int .i64 hi] 75) = wm := ⟨_, rfl⟩
          have em : Ext wr wm := by rw [← hwm]; exact ext_alloc _ _
          have hpm : wm.heap[wr.heap.size]? = some (.cells #[.int .i64 lo, .int .i64 hi] 75 (0, 0)) := by rw [← hwm]; exact row_last _ _ _ rfl
          rw [hwm]
          obtain ⟨pm, hpme⟩ : ∃ pm, wr.heap.size = pm := ⟨_, rfl⟩
          rw [hpme] at hpm ⊢
          have hJm := HAB.out _ _ _ hJj em
          have hKm := Lib.hid (keepsVars_t hK2.out (keepsVars_ext em hsz))
          clear hwm hpme em hJj hK2 hS hsz d0 d1 hs
          gi_loopw [6] (fun i wr => ∃ t : Nat, t ≤ L + 1 ∧ i = .int .i64 (lo + t) ∧ J (rowsAt cs ms k j t) wr ∧ Hid (KeepsVars n₀ W wr ∧ wr.heap[pm]? = some (.cells #[.int .i64 lo, .int .i64 hi] 75 (0, 0)))) (fun i _ => (lo + L + 1 - intOf i).toNat)
          case atStart => exact ⟨0, by omega, by simp, by rw [show rowsAt cs ms k j 0 = fitsUpto cs ms k ++ rowsUpto cs ms k j from by unfold rowsAt; rw [show rowsIn cs ms k (ms.getD j (0, 0)) 0 = [] from rfl, List.append_nil]]; exact hJm, Lib.hid ⟨hKm.out, hpm⟩⟩
          case round =>
            obtain ⟨t, ht, rfl, hJt, hKt⟩ := hrel
            clear hpm hJm hKm
            have g1 : wr.cell? ⟨pm, 1, none⟩ = some (.int .i64 hi) := cell_of_row _ _ _ _ _ _ hKt.out.2
            by_cases htl : t ≤ L
            · have htz : lo + (t : Int) ≤ hi := by have := HL.out; omega
              obtain ⟨hsz, hS⟩ := HSH.out wr hKt.out.1
              obtain ⟨x, hxe⟩ : ∃ x, lo + (t : Int) = x := ⟨_, rfl⟩
              have hx : 0 ≤ x ∧ x ≤ 500 := by omega
              have hra := rowsIn_succ cs ms k (ms.getD j (0, 0)) t
              rw [HS.out] at hra
              simp only at hra
              rw [hxe] at hra
              have hcon := had_any k x HH0.out hlt hx (hS.sheet.ext (ext_alloc wr (.cells #[.int .i64 k, .int .i64 x] 27)))
              obtain ⟨M, hM⟩ : ∃ M, hadB cs ms k x = M := ⟨_, rfl⟩
              rw [hM] at hcon hra
              have HR := Lib.hid hra
              have HMM := Lib.hid hM
              have HXE := Lib.hid hxe
              rw [hxe] at htz ⊢
              obtain ⟨q0, q1⟩ := hS.cells
              have hPl : P < wr.heap.size := by omega
              have hne : P ≠ wr.heap.size := by omega
              clear hra hM hxe hS
              gi_upto_region 10 with fail
              refine wpIn_wide.2 ?_
              have hr1 : (wr.alloc (.cells #[.int .i64 k, .int .i64 x] 27)).heap[wr.heap.size]? = some (.cells #[.int .i64 k, .int .i64 x] 27 (0, 0)) := row_last _ _ _ rfl
              obtain ⟨wg, hwg⟩ : ∃ wg, wr.alloc (.cells #[.int .i64 k, .int .i64 x] 27) = wg := ⟨_, rfl⟩
              have eg : Ext wr wg := by rw [← hwg]; exact ext_alloc _ _
              rw [hwg] at hcon hr1 ⊢
              obtain ⟨pr, hpr⟩ : ∃ pr, wr.heap.size = pr := ⟨_, rfl⟩
              rw [hpr] at hr1 ⊢
              obtain ⟨q0, q1⟩ := (HSH.out wg (keepsVars_t hKt.out.1 (keepsVars_ext eg hsz))).2.cells
              have r0 : wg.cell? ⟨pr, 0, none⟩ = some (.int .i64 k) := cell_of_row _ _ _ _ _ _ hr1
              have r1 : wg.cell? ⟨pr, 1, none⟩ = some (.int .i64 x) := cell_of_row _ _ _ _ _ _ hr1
              clear hwg hpr
              go_wp2_with (first | refine wpList_alloc92 rfl rfl ?_ | (refine hcon.mono ?_; rintro e wh ⟨rfl, eh⟩) | refine wpList_store92 (.tmp 8) (.tmp 35) rfl rfl wh.heap.size rfl (bitCells M) (bitCells noBits) (bitCells_size _) (bitCells_size _) (bitCells_one _) rfl (row_last _ _ _ rfl) ?_)
              obtain ⟨wz, hwz⟩ : ∃ wz, (wh.alloc (.cells (bitCells noBits) 92)).setRow wh.heap.size (bitCells M) = wz := ⟨_, rfl⟩
              have ez : Ext wg wz := by
                rw [← hwz]
                exact below_setRow (Ext.trans eh (ext_alloc _ _)) eh.size _
              have hrm : wz.heap[wh.heap.size]? = some (.cells (bitCells M) 92 (0, 0)) := by rw [← hwz]; exact row_setRow _ _ _ _ _ _ (row_last _ _ _ rfl)
              rw [hwz]
              obtain ⟨pz, hpz⟩ : ∃ pz, wh.heap.size = pz := ⟨_, rfl⟩
              rw [hpz] at hrm ⊢
              have r0 : wz.cell? ⟨pr, 0, none⟩ = some (.int .i64 k) := cell_of_row _ _ _ _ _ _ (row_ext hr1 ez)
              have r1 : wz.cell? ⟨pr, 1, none⟩ = some (.int .i64 x) := cell_of_row _ _ _ _ _ _ (row_ext hr1 ez)
              have hKz : KeepsVars n₀ wr wz := keepsVars_ext (eg.trans ez) hsz
              have hJz := HAB.out _ _ _ hJt (eg.trans ez)
              have hKW := keepsVars_t hKt.out.1 hKz
              have hpmz := hKz.2 pm _ 75 hKt.out.2 (by decide) (by decide)
              have c0 := cells92 hrm 0 (by omega)
              have c1 := cells92 hrm 1 (by omega)
              have c2 := cells92 hrm 2 (by omega)
              have c3 := cells92 hrm 3 (by omega)
              have c4 := cells92 hrm 4 (by omega)
              have c5 := cells92 hrm 5 (by omega)
              have c6 := cells92 hrm 6 (by omega)
              have c7 := cells92 hrm 7 (by omega)
              have c8 := cells92 hrm 8 (by omega)
              have c9 := cells92 hrm 9 (by omega)
              have c10 := cells92 hrm 10 (by omega)
              have c11 := cells92 hrm 11 (by omega)
              have hnq := eq92 M wz
              have HKZ := Lib.hid (And.intro hKW hpmz)
              clear hwz hpz hrm hr1 eh ez eg hJt hKt hKz hKW hpmz
              have hst : rowsAt cs ms k j (t + 1) = rowsAt cs ms k j t ++ (if nz M = true then [(k, x)] else []) := by
                unfold rowsAt
                rw [HS.out, HR.out, List.append_assoc, List.append_assoc]
              cases hnz : nz M with
              | false =>
                rw [hnz] at hnq hst
                rw [if_neg (by simp), List.append_nil] at hst
                have HST := Lib.hid hst
                clear hst hnz HR
                gi_wp2
                refine ⟨fun _ _ => trivial, ?_⟩
                gi_wp2
                go_roundw
                case measure => simp [intOf]; have := HL.out; have := HXE.out; omega
                case rel => exact ⟨t + 1, by omega, by have := HXE.out; go_num, by rw [HST.out]; exact hJz, Lib.hid HKZ.out⟩
              | true =>
                rw [hnz] at hnq hst
                rw [if_pos rfl] at hst
                have hpre : rowsAt cs ms k j (t + 1) <+: fitsOf cs ms := rowsAt_pre (by have := HN.out.ncs; omega) (by have := HN.out.nms; omega) (by rw [HS.out]; have := HL.out; omega)
                have hlen : (rowsAt cs ms k j t).length < (fitsOf cs ms).length := by
                  have := hpre.length_le
                  rw [hst] at this
                  simp at this
                  omega
                obtain ⟨fn, tmps, assign, body, hy, hR⟩ := hY (rowsAt cs ms k j t) (k, x) wz hJz hlen
                dsimp only at hy
                rw [HMM.out, litFit] at hy
                have HST := Lib.hid hst
                have HPRE := Lib.hid hpre
                clear hst hnz HR hpre hlen
                gi_wp2
                refine hR.mono ?_
                rintro e W3 (⟨rfl, hJ3, hk3⟩ | ⟨rfl, hJx3⟩)
                · have HK3 := Lib.hid (And.intro (keepsVars_t HKZ.out.1 hk3) (hk3.2 pm _ 75 HKZ.out.2 (by decide) (by decide)))
                  clear hk3
                  gi_wp2
                  go_roundw
                  case measure => simp [intOf]; have := HL.out; have := HXE.out; omega
                  case rel => exact ⟨t + 1, by omega, by have := HXE.out; go_num, by rw [HST.out]; exact hJ3, HK3⟩
                · gi_wp2
                  refine bodyPost_ret (results_none rfl _ _ _) rfl ?_
                  exact ⟨⟨_, rfl⟩, .inr ⟨_, by rw [← HST.out]; exact HPRE.out, hJx3⟩⟩

            · have htz : ¬ lo + (t : Int) ≤ hi := by have := HL.out; omega
              obtain rfl : t = L + 1 := by have := HL.out; omega
              have hJn : J (fitsUpto cs ms k ++ rowsUpto cs ms k (j + 1)) wr := by
                rw [rowsUpto_succ, HS.out, show (hi - lo + 1).toNat = L + 1 from by have := HL.out; omega]
                have := hJt
                unfold rowsAt at this
                rw [HS.out] at this
                exact this
              gi_wp2
              go_roundw
              case measure => simp [intOf]; omega
              case rel => exact ⟨j + 1, by omega, by go_num, hJn, Lib.hid hKt.out.1⟩
        · have hjz : ¬ (j : Int) < (n' : Int) := by omega
          obtain rfl : n' = j := by omega
          have hJn : J (fitsUpto cs ms (k + 1)) wr := by rw [fitsUpto_succ, ← HN.out.nms]; exact hJj
          gi_wp2
          go_roundw
          case measure => simp [intOf]; omega
          case rel => exact ⟨k + 1, by omega, by go_num, hJn, hK2⟩
    · have hltz : ¬ (k : Int) < (n : Int) := by omega
      obtain rfl : n = k := by omega
      gi_wp2
      go_end0
      refine ⟨⟨_, rfl⟩, .inl ?_⟩
      unfold fitsOf
      rw [← HN.out.ncs]
      exact hJk
end
end Go.Proofs.Ytlaakmgdbhabfaa
