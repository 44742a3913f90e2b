/- Texts of one package, joined: RefSpaces, SpT, SpEq. -/
import Derived.Test.YtchmdkdiilaejaaC11
import Derived.StillTailTactics
import Derived.Laws.StructEq
/- Spaces of the reference. -/
namespace Go.Proofs.Ytchmdkdiilaejaa
open Go.RowKit Go.Shelf

set_option maxRecDepth 100000 in
set_option maxHeartbeats 4000000 in
theorem refSpaces_any (A : Option Addr) (n c : Nat) (ms : List (Int × Int)) (w : World) (hn : n = ms.length) (hn9 : n ≤ 9223372036854775807) (hh : Held w w.heap.size 2 encS A ms) :
    Calls Try.prog 37 #[.slice A n c] w fun e w' => Ext w w' ∧ ((spacesErr ms ≠ 0 ∧ e = .returned (.tuple #[.slice none 0 0, .int .i64 (spacesErr ms)])) ∨ (spacesErr ms = 0 ∧ ∃ v, e = .returned (.tuple #[v, .int .i64 0]) ∧ MadeSpaces w.heap.size (spacesTo ms 50) w' v)) := by
  have hs : spacesErr ms = if 2 ≤ n ∧ n ≤ 12 then if marksOk 0 ms = true then 0 else 3 else 6 := by rw [hn]; rfl
  obtain ⟨ans, hans⟩ : ∃ ans, spacesErr ms = ans := ⟨_, rfl⟩
  rw [hans] at hs ⊢
  have HS := Lib.hid hs
  have HH := Lib.hid hh
  have HN := Lib.hid hn
  clear hs hans hh hn
  by_cases hn12 : 2 ≤ n ∧ n ≤ 12
  · have hs := HS.out
    rw [if_pos hn12] at hs
    have HS1 := Lib.hid hs
    have hm66 := refMarks_any A n c ms w HN.out (by omega) HH.out
    have hn2 : ¬ (n : Int) < 2 := by omega
    have hn13 : ¬ 12 < (n : Int) := by omega
    clear hs
    cases hmk : marksOk 0 ms with
    | false =>
      have hs := HS1.out
      rw [if_neg (by rw [hmk]; decide)] at hs
      subst hs
      rw [hmk, if_neg (by decide)] at hm66
      go_enter Try.func37, Try.ntmps37
      go_wp2_with fail
      refine hm66.mono ?_
      rintro e w2 ⟨rfl, e2⟩
      have HE2 := Lib.hid e2
      clear e2 hm66
      go_wp2
      go_ret2
      exact ⟨HE2.out, .inl ⟨by decide, rfl⟩⟩
    | true =>
      have hs := HS1.out
      rw [if_pos hmk] at hs
      subst hs
      rw [hmk, if_pos rfl] at hm66
      go_enter Try.func37, Try.ntmps37
      go_wp2_with fail
      refine hm66.mono ?_
      rintro e w2 ⟨rfl, e2⟩
      have HE2 := Lib.hid e2
      clear e2 hm66 hn2 hn13
      obtain ⟨i82, hi, hz0, hz1, hz2⟩ := info_parts info82
      have HI := Lib.hid (And.intro hi (And.intro hz0 (And.intro hz1 hz2)))
      have HM := Lib.hid (fun (j : Nat) (hj : j < ms.length) => marks_at (f := 0) (Int.le_refl 0) hmk hj)
      clear hmk hi hz0 hz1 hz2 HS1
      go_wp2
      go_loopw [4, 5] (fun v s wr => ∃ k : Nat, k ≤ 50 ∧ s = .int .i64 ((k : Int) + 1) ∧ Hid (Ext w2 wr) ∧ Hid (MadeSpaces w2.heap.size (spacesTo ms k) wr v)) (fun _ s _ => (51 - intOf s).toNat)
      case atStart => exact ⟨0, by omega, rfl, Lib.hid (Ext.refl _), Lib.hid ⟨World.ownsRow_nil _ _ _ _, fun _ => rfl⟩⟩
      case round =>
        obtain ⟨k, hk, rfl, hB, hO⟩ := hrel
        by_cases hlt : k < 50
        · have hltz : (k : Int) + 1 ≤ 50 := by omega
          have hn0 : 0 < ms.length := by have := HN.out; omega
          have eW := HE2.out.trans hB.out
          obtain ⟨b, off, rfl, hbl, d0, d1⟩ := held_pair ((HH.out.kept eW (Nat.le_refl _)).wider eW.size) hn0
          have hHW : Held wr wr.heap.size 2 encS (some ⟨b, off, none⟩) ms := (HH.out.kept eW (Nat.le_refl _)).wider eW.size
          have HHW := Lib.hid hHW
          simp only [Nat.zero_mul, Nat.add_zero] at d0 d1
          obtain ⟨m0, hm0⟩ : ∃ m0, ms.getD 0 (0, 0) = m0 := ⟨_, rfl⟩
          rw [hm0] at d0 d1
          have H0 := Lib.hid hm0
          have hn0z : 0 < n := by omega
          clear eW hm0 hHW
          go_wp2
          have hrow : (wr.alloc (.cells #[.int .i64 m0.1, .int .i64 m0.2] 75)).heap[wr.heap.size]? = some (.cells #[.int .i64 m0.1, .int .i64 m0.2] 75 (0, 0)) := row_last _ _ _ rfl
          have hE0 : Ext wr (wr.alloc (.cells #[.int .i64 m0.1, .int .i64 m0.2] 75)) := ext_alloc _ _
          obtain ⟨wm, hwm⟩ : ∃ wm, wr.alloc (.cells #[.int .i64 m0.1, .int .i64 m0.2] 75) = wm := ⟨_, rfl⟩
          rw [hwm] at hrow hE0 ⊢
          clear hwm d0 d1
          obtain ⟨W0, hW0⟩ : ∃ W0 : World, W0 = wr := ⟨_, rfl⟩
          have hpW : W0.heap.size ≤ wr.heap.size := by rw [hW0]; exact Nat.le_refl _
          rw [← hW0] at hE0 hB hO HHW
          obtain ⟨p, hp⟩ : ∃ p, wr.heap.size = p := ⟨_, rfl⟩
          rw [hp] at hrow hpW ⊢
          clear hW0 hp
          have HE0 := Lib.hid hE0
          have HROW := Lib.hid hrow
          clear hE0 hrow
          go_loopw [7] (fun i wq => ∃ j : Nat, j ≤ n ∧ i = .int .i64 j ∧ Hid (Ext W0 wq) ∧ Hid (p < wq.heap.size ∧ wq.heap[p]? = some (.cells #[.int .i64 (spaceTo ms ((k : Int) + 1) j).1, .int .i64 (spaceTo ms ((k : Int) + 1) j).2] 75 (0, 0)))) (fun i _ => n - (intOf i).toNat)
          case atStart =>
            refine ⟨0, Nat.zero_le _, rfl, HE0, Lib.hid ⟨(Array.getElem?_eq_some_iff.1 HROW.out).1, ?_⟩⟩
            rw [show spaceTo ms ((k : Int) + 1) 0 = m0 from H0.out]
            exact HROW.out
          case round =>
            obtain ⟨j, hj, rfl, hE, hR⟩ := hrel
            by_cases hjt : j < n
            · have hjz : (j : Int) < (n : Int) := by omega
              have hjl : j < ms.length := by have := HN.out; omega
              obtain ⟨b', off', hA', hbl', d0, d1⟩ := held_pair ((HHW.out.kept hE.out (Nat.le_refl _)).wider hE.out.size) hjl
              obtain ⟨rfl, rfl⟩ : b = b' ∧ off = off' := by cases hA'; exact ⟨rfl, rfl⟩
              have hm := HM.out j hjl
              have hsu := spaceTo_succ ms ((k : Int) + 1) j
              obtain ⟨ml, mh, hmj⟩ : ∃ ml mh, ms.getD j (0, 0) = (ml, mh) := ⟨_, _, rfl⟩
              rw [hmj] at d0 d1 hm hsu
              simp only at d0 d1 hm hsu
              have hb1 : (j : Int) * ((k : Int) + 1) ≤ 12 * 50 := Int.mul_le_mul (by omega) hltz (by omega) (by omega)
              have hb0 : 0 ≤ (j : Int) * ((k : Int) + 1) := Int.mul_nonneg (by omega) (by omega)
              obtain ⟨back, hback⟩ : ∃ back, (j : Int) * ((k : Int) + 1) = back := ⟨_, rfl⟩
              rw [hback] at hb1 hb0 hsu
              have hw0 : IntKind.i64.wrap ((j : Int) * ((k : Int) + 1)) = back := by rw [hback]; exact IntWalk.i64_in _ (by omega)
              have hw1 : IntKind.i64.wrap (ml - back) = ml - back := IntWalk.i64_in _ (by omega)
              have hw2 : IntKind.i64.wrap (mh - back) = mh - back := IntWalk.i64_in _ (by omega)
              obtain ⟨lo, hi, hlh⟩ : ∃ lo hi, spaceTo ms ((k : Int) + 1) j = (lo, hi) := ⟨_, _, rfl⟩
              have hR2 := hR.out.2
              rw [hlh] at hR2 hsu
              simp only at hR2 hsu
              have hpz := hR.out.1
              have HSU := Lib.hid hsu
              have HR2 := Lib.hid hR2
              have HMJ := Lib.hid hmj
              have c0 : wr.cell? ⟨p, 0, none⟩ = some (.int .i64 lo) := cell_of_row _ _ _ _ _ _ hR2
              clear hsu hmj hA' hback hlh hR2 hR d1
              go_upto_region 13 with fail
              go_still_tail 12, (by kernel_rfl)
              change wpList _ _ _ _ _ wr.drew
              have hr1 : wr.drew.heap[p]? = some (.cells #[.int .i64 lo, .int .i64 hi] 75 (0, 0)) := HR2.out
              have ed : Ext W0 wr.drew := hE.out.trans (ext_drew wr)
              obtain ⟨wd, hwd⟩ : ∃ wd, wr.drew = wd := ⟨_, rfl⟩
              rw [hwd] at hr1 ed
              rw [hwd]
              have c0d : wd.cell? ⟨p, 0, none⟩ = some (.int .i64 lo) := cell_of_row _ _ _ _ _ _ hr1
              have f0d : wd.frozen? ⟨p, 0, none⟩ = false := by simp [World.frozen?, hr1]
              have HR1 := Lib.hid hr1
              have ED := Lib.hid ed
              clear hwd hr1 ed c0 d0
              go_upto_region 14 with fail
              obtain ⟨lo', hlo'⟩ : ∃ x, max lo (ml - back) = x := ⟨_, rfl⟩
              try rw [hlo']
              obtain ⟨we, hwe⟩ : ∃ we, wd.setCell ⟨p, 0, none⟩ (.int .i64 lo') = we := ⟨_, rfl⟩
              try rw [hwe]
              have hre : we.heap[p]? = some (.cells #[.int .i64 lo', .int .i64 hi] 75 (0, 0)) := by
                rw [← hwe]
                exact row_setCell _ _ _ _ _ _ _ HR1.out
              have ee : Ext W0 we := by rw [← hwe]; exact ED.out.setCell hpW _
              obtain ⟨b2, off2, hA2, hbl2, d0, d1⟩ := held_pair ((HHW.out.kept ee (Nat.le_refl _)).wider ee.size) hjl
              obtain ⟨rfl, rfl⟩ : b = b2 ∧ off = off2 := by cases hA2; exact ⟨rfl, rfl⟩
              rw [HMJ.out] at d0 d1
              simp only at d0 d1
              have c1 : we.cell? ⟨p, 1, none⟩ = some (.int .i64 hi) := cell_of_row _ _ _ _ _ _ hre
              have HRE := Lib.hid hre
              have EE := Lib.hid ee
              have HLO := Lib.hid hlo'
              clear hwe hre ee hlo' hA2 c0d f0d d0 ED HR1
              go_still_tail 12, (by kernel_rfl)
              change wpList _ _ _ _ _ we.drew
              have hr1 : we.drew.heap[p]? = some (.cells #[.int .i64 lo', .int .i64 hi] 75 (0, 0)) := HRE.out
              have ed : Ext W0 we.drew := EE.out.trans (ext_drew we)
              obtain ⟨wf, hwf⟩ : ∃ wf, we.drew = wf := ⟨_, rfl⟩
              rw [hwf] at hr1 ed
              rw [hwf]
              have c1d : wf.cell? ⟨p, 1, none⟩ = some (.int .i64 hi) := cell_of_row _ _ _ _ _ _ hr1
              have f1d : wf.frozen? ⟨p, 1, none⟩ = false := by simp [World.frozen?, hr1]
              have HR1 := Lib.hid hr1
              have ED := Lib.hid ed
              clear hwf hr1 ed c1 d1
              go_wp2
              obtain ⟨hi', hhi'⟩ : ∃ x, min hi (mh - back) = x := ⟨_, rfl⟩
              try rw [hhi']
              obtain ⟨wg, hwg⟩ : ∃ wg, wf.setCell ⟨p, 1, none⟩ (.int .i64 hi') = wg := ⟨_, rfl⟩
              try rw [hwg]
              have hrg : wg.heap[p]? = some (.cells #[.int .i64 lo', .int .i64 hi'] 75 (0, 0)) := by
                rw [← hwg]
                exact row_setCell _ _ _ _ _ _ _ HR1.out
              have eg : Ext W0 wg := by rw [← hwg]; exact ED.out.setCell hpW _
              have HE3 := Lib.hid eg
              have H3 := Lib.hid (And.intro (Array.getElem?_eq_some_iff.1 hrg).1 hrg)
              have HHI := Lib.hid hhi'
              clear hwg hrg eg hhi' c1d f1d
              go_roundw
              case measure => simp [intOf]; omega
              case rel => exact ⟨j + 1, by omega, by go_num, HE3, Lib.hid ⟨H3.out.1, by rw [HSU.out, HLO.out, HHI.out]; exact H3.out.2⟩⟩
            · have hjz : ¬ (j : Int) < (n : Int) := by omega
              obtain rfl : j = n := by omega
              have hsu := spacesTo_succ ms k
              have hl := spacesTo_len ms k
              have hso : spaceOf ms k = if (spaceTo ms ((k : Int) + 1) j).1 ≤ (spaceTo ms ((k : Int) + 1) j).2 then some ((k : Int) + 1, (spaceTo ms ((k : Int) + 1) j).1, (spaceTo ms ((k : Int) + 1) j).2) else none := by rw [HN.out]; rfl
              obtain ⟨lo, hi, hlh⟩ : ∃ lo hi, spaceTo ms ((k : Int) + 1) j = (lo, hi) := ⟨_, _, rfl⟩
              have hR2 := hR.out.2
              rw [hlh] at hR2 hso
              simp only at hR2 hso
              have c0 : wr.cell? ⟨p, 0, none⟩ = some (.int .i64 lo) := cell_of_row _ _ _ _ _ _ hR2
              have c1 : wr.cell? ⟨p, 1, none⟩ = some (.int .i64 hi) := cell_of_row _ _ _ _ _ _ hR2
              have hO1 := hO.out.ext hE.out
              have hE1 := hB.out.trans hE.out
              have hz1 := hE1.size
              clear hR hR2 hlh
              by_cases hle : lo ≤ hi
              · rw [if_pos hle] at hso
                have HSU : Hid (spacesTo ms (k + 1) = spacesTo ms k ++ [((k : Int) + 1, lo, hi)]) := Lib.hid (by rw [hsu, hso]; rfl)
                have oA := hO1.1.alloc (.cells #[.int .i64 ((k : Int) + 1), .int .i64 lo, .int .i64 hi] 82)
                have hcn := cells_new wr #[.int .i64 ((k : Int) + 1), .int .i64 lo, .int .i64 hi] 82
                clear hsu hso
                go_wp2_with (first | (at_builtin; refine wpList_append_own _ rfl (.tmp 63) (.tmp 67) 49 rfl w2.heap.size 82 i82 (.agg #[.int .i64 0, .int .i64 0, .int .i64 0]) 3 24 ?_ ?_ ?_ ?_ ?_ ?_ ?_ u4 _ ((spacesTo ms k).flatMap encD) rfl oA ⟨wr.heap.size, 0, none⟩ 1 1 [.int .i64 ((k : Int) + 1), .int .i64 lo, .int .i64 hi] rfl ?_ ?_ ?_ ?_ ?_ ?_ ?_; exact Try.underlying49; exact HI.out.1; exact HI.out.2.1; exact HI.out.2.2.1; exact HI.out.2.2.2; rfl; decide; rfl; exact hcn; (intro u hu; simp at hu; rcases hu with rfl | rfl | rfl <;> rfl); (unfold maxLen; omega); omega; (simp; omega); intro v' w4 hown' hg4 _; have HW := Lib.hid hown'; have hE4 := Lib.hid (((hE1.alloc hz1 (.cells #[.int .i64 ((k : Int) + 1), .int .i64 lo, .int .i64 hi] 82)).grown hg4 (by simp; omega) (fun b e => (oA.lt b e).1)) : Ext w2 w4); clear hown' hg4 oA hO1))
                go_roundw
                case measure => simp [intOf]; omega
                case rel =>
                  refine ⟨k + 1, by omega, by go_num, hE4, Lib.hid ⟨?_, fun e => by rw [HSU.out] at e; simp at e⟩⟩
                  rw [HSU.out, List.length_append, List.flatMap_append]
                  exact HW.out
              · rw [if_neg hle] at hso
                have HSU : Hid (spacesTo ms (k + 1) = spacesTo ms k) := Lib.hid (by rw [hsu, hso]; simp)
                have HO1 := Lib.hid hO1
                have HE1' := Lib.hid hE1
                clear hsu hso hO1 hE1
                go_wp2
                go_roundw
                case measure => simp [intOf]; omega
                case rel => exact ⟨k + 1, by omega, by go_num, HE1', by rw [HSU.out]; exact HO1⟩
        · have hltz : ¬ (k : Int) + 1 ≤ 50 := by omega
          obtain rfl : k = 50 := by omega
          obtain ⟨A5, c5, hv⟩ := owns_slice hO.out.1
          subst hv
          go_wp2
          go_ret2
          exact ⟨HE2.out.trans hB.out, _, rfl, hO.out.mono HE2.out.size⟩
  · have hs := HS.out
    rw [if_neg hn12] at hs
    subst hs
    by_cases hn2 : (n : Int) < 2
    · go_enter Try.func37, Try.ntmps37
      go_wp2
      go_ret2
      first | exact ⟨Ext.refl _, .inl ⟨by decide, rfl⟩⟩ | exact ⟨Ext.refl _, rfl⟩
    · have hn13 : 12 < (n : Int) := by omega
      go_enter Try.func37, Try.ntmps37
      go_wp2
      go_ret2
      first | exact ⟨Ext.refl _, .inl ⟨by decide, rfl⟩⟩ | exact ⟨Ext.refl _, rfl⟩
end Go.Proofs.Ytchmdkdiilaejaa

/- Two spaces that are compared. -/
namespace Go.Proofs.Ytchmdkdiilaejaa
open Go.RowKit Go.Shelf
theorem neSp (x0 x1 x2 y0 y1 y2 : Int) (w : World) : (binOp .neq 82 (.agg #[.int .i64 x0, .int .i64 x1, .int .i64 x2]) (.agg #[.int .i64 y0, .int .i64 y1, .int .i64 y2])).run Try.prog w = .ok (.bool (!decide (x0 = y0 ∧ x1 = y1 ∧ x2 = y2))) w := by
  have u2 := Try.underlying2
  have a2 := Try.isAgg2
  have z2 := Try.sizeOf2
  have hS : Try.prog.underlying 82 = some (.struct (Try.prog.fieldsOf 82)) := by kernel_rfl
  have hp : Try.prog.stoodInHeld 82 = false := by kernel_rfl
  have hS2 : Try.prog.underlying 75 = some (.struct (Try.prog.fieldsOf 75)) := by kernel_rfl
  have hp2 : Try.prog.stoodInHeld 75 = false := by kernel_rfl
  rw [run_neq_struct, show (10000 : Nat) = 9999 + 1 from rfl, run_equalIn_agg w 9999 82 _ _ hS hp]
  have z75 : Try.prog.cellsOf 75 = 2 := by kernel_rfl
  have z2' : Try.prog.cellsOf 2 = 1 := by kernel_rfl
  have i1 : ∀ a b : Int, (Op.equalIn 9999 2 (.int .i64 a) (.int .i64 b)).run Try.prog w = .ok (a == b) w := fun a b => run_equalIn_int w 9998 2 .i64 .i64 a b u2
  have i2 : (Op.equalIn 9999 75 (.agg #[.int .i64 x1, .int .i64 x2]) (.agg #[.int .i64 y1, .int .i64 y2])).run Try.prog w = .ok ((x1 == y1) && (x2 == y2)) w := by
    rw [show (9999 : Nat) = 9998 + 1 from rfl, run_equalIn_agg w 9998 75 _ _ hS2 hp2]
    simp only [Program.fieldsOf, Try.underlying75]
    go_simp
    by_cases h1 : x1 = y1 <;> by_cases h2 : x2 = y2 <;> simp [h1, h2]
  have a75 : ∀ w : World, (isAgg 75).run Try.prog w = .ok true w := fun w => by kernel_rfl
  have s75 : ∀ w : World, (sizeOf 75).run Try.prog w = .ok 2 w := fun w => by kernel_rfl
  have e : (Op.eqFields 9999 #[.int .i64 x0, .int .i64 x1, .int .i64 x2] #[.int .i64 y0, .int .i64 y1, .int .i64 y2] (Try.prog.fieldsOf 82).toList).run Try.prog w = .ok ((x0 == y0) && ((x1 == y1) && (x2 == y2))) w := by
    clear hS2 hp2 hS hp
    simp only [Program.fieldsOf, Try.underlying82]
    simp only [Op.eqFields]
    rw [if_pos (by decide), if_pos (by decide)]
    simp only [Sem.run_bind]
    have q0 : ∀ (a b c : Int) (w : World), (part 2 #[.int .i64 a, .int .i64 b, .int .i64 c] 0).run Try.prog w = .ok (.int .i64 a) w := fun a b c w => by
      unfold part
      go_simp
    have q1 : ∀ (a b c : Int) (w : World), (part 75 #[.int .i64 a, .int .i64 b, .int .i64 c] 1).run Try.prog w = .ok (.agg #[.int .i64 b, .int .i64 c]) w := fun a b c w => by
      unfold part
      go_simp
    rw [q0, Result.andThen_ok, q0, Result.andThen_ok, i1, Result.andThen_ok]
    by_cases h0 : x0 = y0
    · have h0b : (x0 == y0) = true := by simpa using h0
      rw [h0b]
      simp only [Bool.not_true, Bool.false_eq_true, if_false, Sem.run_bind]
      rw [q1, Result.andThen_ok, q1, Result.andThen_ok, i2, Result.andThen_ok]
      cases (x1 == y1 && x2 == y2) <;> simp
    · have h0b : (x0 == y0) = false := by simpa using h0
      rw [h0b]
      simp
  rw [e]
  by_cases h0 : x0 = y0 <;> by_cases h1 : x1 = y1 <;> by_cases h2 : x2 = y2 <;> simp [h0, h1, h2]
end Go.Proofs.Ytchmdkdiilaejaa

/- spaces of the statements: whether two lists are equal. -/
namespace Go.Proofs.Ytchmdkdiilaejaa
open Go.RowKit Go.Shelf

theorem held_three {w : World} {A : Option Addr} {xs : List (Int × Int × Int)} (hh : Held w w.heap.size 3 encD A xs) {W : World} (hB : Below w.heap.size w W) {k : Nat} (hk : k < xs.length) : ∃ b off, A = some ⟨b, off, none⟩ ∧ W.cell? ⟨b, off + k * 3, none⟩ = some (.int .i64 xs[k].1) ∧ W.cell? ⟨b, off + k * 3 + 1, none⟩ = some (.int .i64 xs[k].2.1) ∧ W.cell? ⟨b, off + k * 3 + 2, none⟩ = some (.int .i64 xs[k].2.2) := by
  rcases hh with h | ⟨b, off, rfl, hlt', hc⟩
  · simp [h] at hk
  · refine ⟨b, off, rfl, ?_, ?_, ?_⟩
    · exact (hB.cell (p := ⟨b, off + k * 3 + 0, none⟩) hlt').trans (hc k xs[k] (List.getElem?_eq_getElem hk) 0 _ rfl)
    · exact (hB.cell (p := ⟨b, off + k * 3 + 1, none⟩) hlt').trans (hc k xs[k] (List.getElem?_eq_getElem hk) 1 _ rfl)
    · exact (hB.cell (p := ⟨b, off + k * 3 + 2, none⟩) hlt').trans (hc k xs[k] (List.getElem?_eq_getElem hk) 2 _ rfl)

set_option maxHeartbeats 2000000 in
theorem speq_quiet (A A' : Option Addr) (n c n' c' : Nat) (xs ys : List (Int × Int × Int)) (w : World) (hnn : n = xs.length) (hnn' : n' = ys.length)
    (hn : n ≤ 9223372036854775807) (hn' : n' ≤ 9223372036854775807) (hh : Held w w.heap.size 3 encD A xs) (hh' : Held w w.heap.size 3 encD A' ys) :
    Calls Try.prog 38 #[.slice A n c, .slice A' n' c'] w fun e w' => e = .returned (.bool (decide (xs = ys))) ∧ ∃ m, w' = w.drewN m := by
  have HN := Lib.hid (And.intro hnn hnn')
  clear hnn hnn'
  by_cases hl : n = n'
  · subst hl
    go_enter Try.func38, Try.ntmps38
    go_wp2
    go_loopw [4, 5] (fun _ i wr => ∃ k : Nat, k ≤ n ∧ i = .int .i64 k ∧ Hid (∃ m, wr = w.drewN m) ∧ Hid (∀ j, j < k → ∀ (h1 : j < xs.length) (h2 : j < ys.length), xs[j] = ys[j])) (fun _ i _ => n - (intOf i).toNat)
    case atStart => exact ⟨0, Nat.zero_le _, rfl, Lib.hid ⟨0, rfl⟩, Lib.hid (fun j hj => absurd hj (by omega))⟩
    case round =>
      obtain ⟨k, hk, rfl, hD, hA⟩ := hrel
      have hB : Hid (Below w.heap.size w wr) := Lib.hid (by obtain ⟨m, rfl⟩ := hD.out; exact bdrewN (Below.refl _ _) m)
      by_cases hlt : k < n
      · have hltz : (k : Int) < (n : Int) := by omega
        have hkx : k < xs.length := by rw [← HN.out.1]; exact hlt
        have hky : k < ys.length := by rw [← HN.out.2]; exact hlt
        obtain ⟨b, off, rfl, hc, hc1, hc2⟩ := held_three hh hB.out hkx
        obtain ⟨b', off', rfl, hc', hc1', hc2'⟩ := held_three hh' hB.out hky
        obtain ⟨x0, x1, x2, hx⟩ : ∃ x0 x1 x2, xs[k] = (x0, x1, x2) := ⟨_, _, _, rfl⟩
        obtain ⟨y0, y1, y2, hy⟩ : ∃ y0 y1 y2, ys[k] = (y0, y1, y2) := ⟨_, _, _, rfl⟩
        rw [hx] at hc hc1 hc2
        rw [hy] at hc' hc1' hc2'
        simp only at hc hc1 hc2 hc' hc1' hc2'
        have HXY := Lib.hid (And.intro hx hy)
        clear hx hy hh hh'
        by_cases hxy : x0 = y0 ∧ x1 = y1 ∧ x2 = y2
        · obtain ⟨rfl, rfl, rfl⟩ := hxy
          have hne := neSp x0 x1 x2 x0 x1 x2
          rw [decide_eq_true ⟨rfl, rfl, rfl⟩] at hne
          go_wp2
          go_quiet (fail)
          go_wp2
          go_roundw
          case measure => simp [intOf]; omega
          case rel =>
            refine ⟨k + 1, by omega, by go_num, Lib.hid (by obtain ⟨m, rfl⟩ := hD.out; exact ⟨m + nq, by rw [World.drewN_drewN]⟩), Lib.hid fun j hj h1 h2 => ?_⟩
            by_cases e : j = k
            · subst e
              rw [HXY.out.1, HXY.out.2]
            · exact hA.out j (by omega) h1 h2
        · have HXN := Lib.hid hxy
          have hne := neSp x0 x1 x2 y0 y1 y2
          rw [decide_eq_false hxy] at hne
          clear hxy
          go_wp2
          go_quiet (fail)
          go_wp2
          go_ret
          refine ⟨ret_bool ?_, by obtain ⟨m, rfl⟩ := hD.out; exact ⟨m + nq, by rw [World.drewN_drewN]⟩⟩
          have : xs ≠ ys := fun e => by
            subst e
            have := HXY.out.1.symm.trans HXY.out.2
            simp only [Prod.mk.injEq] at this
            exact HXN.out this
          simp [this]
      · have hltz : ¬ (k : Int) < (n : Int) := by omega
        go_wp2
        go_ret
        refine ⟨ret_bool ?_, hD.out⟩
        have : xs = ys := List.ext_getElem (by rw [← HN.out.1, HN.out.2]) fun j h1 h2 => hA.out j (by have := HN.out.1; omega) h1 h2
        simp [this]
  · have hlz : ((n : Int) != (n' : Int)) = true := by simp; omega
    have hne : xs ≠ ys := fun e => hl (by rw [HN.out.1, HN.out.2, e])
    have HNE := Lib.hid hne
    clear hne hh hh'
    go_enter Try.func38, Try.ntmps38
    go_wp2
    go_ret
    exact ⟨ret_bool (by simp [HNE.out]), 0, rfl⟩

theorem speq_any (A A' : Option Addr) (n c n' c' : Nat) (xs ys : List (Int × Int × Int)) (w : World) (hnn : n = xs.length) (hnn' : n' = ys.length)
    (hn : n ≤ 9223372036854775807) (hn' : n' ≤ 9223372036854775807) (hh : Held w w.heap.size 3 encD A xs) (hh' : Held w w.heap.size 3 encD A' ys) :
    Calls Try.prog 38 #[.slice A n c, .slice A' n' c'] w fun e w' => e = .returned (.bool (decide (xs = ys))) ∧ Below w.heap.size w w' :=
  (speq_quiet A A' n c n' c' xs ys w hnn hnn' hn hn' hh hh').mono fun _ _ ⟨he, m, hm⟩ => ⟨he, hm ▸ bdrewN (Below.refl _ _) m⟩
end Go.Proofs.Ytchmdkdiilaejaa
