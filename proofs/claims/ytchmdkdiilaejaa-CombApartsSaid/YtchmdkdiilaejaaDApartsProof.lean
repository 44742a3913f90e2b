/-
  CombAparts: for every sheet and all marks, which marks are apart, and the longest list of such, are what the reference says, or the error. No conditions.
-/
import Derived.Test.YtchmdkdiilaejaaD26
import Derived.Test.YtchmdkdiilaejaaD27
import Derived.Test.YtchmdkdiilaejaaRows
namespace Go.Proofs.Ytchmdkdiilaejaa
open Go.ChangeShapes Go.WideShapes Go.ChangeAt Go.RowKit

theorem aparts_own : ownKnob Try.prog.godebug = none := by kernel_rfl

set_option maxRecDepth 100000 in
theorem aparts_lifted (os : Os) (started : os.Started) (H : Type) (enc : TypeId × Value → H) :
    ReturnsInHanded {} Try.checked os 4 .any (Rows.combApartsSpec.pre6 enc Try.prog Try.f4 Rows.combApartsRow.domain false) (Rows.combApartsSpec.post enc Try.prog Try.f4 false true false false) := by
  refine returnsInHanded_of_change (C := Try.checked) aparts_own started (by kernel_rfl) Try.func4
    (ChangeSpec.witness6 (enc := enc) (C := Try.checked) false ⟨#[], #[.agg #[.slice none 0 0, .slice none 0 0], .slice none 0 0], []⟩ 8 (by kernel_rfl) (by kernel_rfl) (by kernel_rfl) (by kernel_rfl)) ?_
  intro W base args ds gs before hval0 hW hcnd _
  have hval : ∀ (j : Nat) t v, Try.f4.params[j]? = some t → args[j]? = some v → Value.okWide Try.prog W .any base t v := hval0
  have hW' := hW
  obtain ⟨p, q, hA0, hV, rfl, hfz, hnd⟩ := hW
  have hA : DataW.TrodAll enc Try.prog W 0 (fun _ => true) true Try.f4.params.toList args.toList ds p := hA0
  rw [Try.params4] at hA hval
  obtain ⟨v0, v1, d0, d1, p0, p1, rfl, rfl, rfl, h0, h1⟩ := trodAll_two hA
  obtain ⟨rfl, rfl⟩ := trodVars_none hV
  have hlt0 : ∀ x ∈ p0, x.block < W.heap.size := fun x hx => hW'.lt x (by simp [hx])
  have hlt1 : ∀ x ∈ p1, x.block < W.heap.size := fun x hx => hW'.lt x (by simp [hx])
  obtain ⟨A, n, c, A', n', c', cs, ms, rfl, hb⟩ := open_sheet (hval 0 25 v0 rfl rfl) h0
  obtain ⟨L1, k1, c1, xs1, rfl, hk1, hm1, hc1, hh1⟩ := open_marks (hval 1 30 v1 rfl rfl) h1
  clear hA0 hval0
  simp only [List.append_nil] at hW'
  refine (aparts_any hb L1 k1 c1 xs1 hk1 hm1 hh1).mono fun e W' ⟨he, hbl⟩ => ?_
  subst he
  have r0 := Below.trod (show laidOutB Try.prog = true by kernel_rfl) (show Try.prog.readableRec 25 = true by kernel_rfl) (show 25 < Try.prog.types.size from of_decide_eq_true (by kernel_rfl)) h0 hbl hlt0
  have r1 := Below.trod (show laidOutB Try.prog = true by kernel_rfl) (show Try.prog.readableRec 30 = true by kernel_rfl) (show 30 < Try.prog.types.size from of_decide_eq_true (by kernel_rfl)) h1 hbl hlt1
  exact ⟨_, rfl, _, _, _, [], p0 ++ (p1 ++ ([])), [], hW', trodAll_mk1 (shut_bool Try.underlying4 _), trodAll_cons_mk r0 (trodAll_cons_mk r1 trodAll_mk0), rfl, Below.frame hbl _, fun h => by cases h⟩

theorem comb_aparts : Rows.CombApartsSaid :=
  OpenClaim.holds_of_wide 4 Try.f4 rfl rfl rfl rfl rfl rfl rfl ⟨rfl, rfl, rfl, rfl, rfl⟩ rfl rfl rfl rfl rfl (by kernel_rfl) Try.func4 (by kernel_rfl)
    (of_decide_eq_true (by kernel_rfl)) (by unfold Func.isWrapper; first | (rw [if_pos (by decide +kernel)]; kernel_rfl) | (rw [if_neg (by decide +kernel)]; exact ⟨rfl, rfl⟩))
    (fun os started H enc _ => aparts_lifted os started H enc)
end Go.Proofs.Ytchmdkdiilaejaa
