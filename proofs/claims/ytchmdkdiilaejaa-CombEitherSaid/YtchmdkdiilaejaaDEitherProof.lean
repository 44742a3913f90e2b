/-
  CombEither: for every sheet, all rows and each At, either a mark is lost and no rows explain the sheet, or some do; each place of a comb is one at which a row fits, and no other one is; a lost mark is had by none of them. No conditions.
-/
import Derived.Test.YtchmdkdiilaejaaD26
import Derived.Test.YtchmdkdiilaejaaD29
import Derived.Test.YtchmdkdiilaejaaRows
namespace Go.Proofs.Ytchmdkdiilaejaa
open Go.ChangeShapes Go.WideShapes Go.ChangeAt Go.RowKit

theorem either_own : ownKnob Try.prog.godebug = none := by kernel_rfl

set_option maxRecDepth 100000 in
theorem either_lifted (os : Os) (started : os.Started) (H : Type) (enc : TypeId × Value → H) :
    ReturnsInHanded {} Try.checked os 8 .any (Rows.combEitherSpec.pre6 enc Try.prog Try.f8 Rows.combEitherRow.domain false) (Rows.combEitherSpec.post enc Try.prog Try.f8 false true false false) := by
  refine returnsInHanded_of_change (C := Try.checked) either_own started (by kernel_rfl) Try.func8
    (ChangeSpec.witness6 (enc := enc) (C := Try.checked) false ⟨#[], #[.agg #[.slice none 0 0, .slice none 0 0], .slice none 0 0, .int .i64 0], []⟩ 8 (by kernel_rfl) (by kernel_rfl) (by kernel_rfl) (by kernel_rfl)) ?_
  intro W base args ds gs before hval0 hW hcnd _
  have hval : ∀ (j : Nat) t v, Try.f8.params[j]? = some t → args[j]? = some v → Value.okWide Try.prog W .any base t v := hval0
  have hW' := hW
  obtain ⟨p, q, hA0, hV, rfl, hfz, hnd⟩ := hW
  have hA : DataW.TrodAll enc Try.prog W 0 (fun _ => true) true Try.f8.params.toList args.toList ds p := hA0
  rw [Try.params8] at hA hval
  obtain ⟨v0, v1, v2, d0, d1, d2, p0, p1, p2, rfl, rfl, rfl, h0, h1, h2⟩ := trodAll_three hA
  obtain ⟨rfl, rfl⟩ := trodVars_none hV
  have hlt0 : ∀ x ∈ p0, x.block < W.heap.size := fun x hx => hW'.lt x (by simp [hx])
  have hlt1 : ∀ x ∈ p1, x.block < W.heap.size := fun x hx => hW'.lt x (by simp [hx])
  obtain ⟨A, n, c, A', n', c', cs, ms, rfl, hb⟩ := open_sheet (hval 0 25 v0 rfl rfl) h0
  obtain ⟨L1, k1, c1, xs1, rfl, hk1, hm1, hc1, hh1⟩ := open_rows (hval 1 54 v1 rfl rfl) h1
  obtain ⟨y2, rfl, rfl, rfl, w2⟩ := open_int Try.underlying2 (hval 2 2 v2 rfl rfl) h2
  clear hA0 hval0
  simp only [List.append_nil] at hW'
  refine (either_any hb L1 k1 c1 xs1 hk1 hm1 hh1 y2).mono fun e W' ⟨he, hbl⟩ => ?_
  subst he
  have r0 := Below.trod (show laidOutB Try.prog = true by kernel_rfl) (show Try.prog.readableRec 25 = true by kernel_rfl) (show 25 < Try.prog.types.size from of_decide_eq_true (by kernel_rfl)) h0 hbl hlt0
  have r1 := Below.trod (show laidOutB Try.prog = true by kernel_rfl) (show Try.prog.readableRec 54 = true by kernel_rfl) (show 54 < Try.prog.types.size from of_decide_eq_true (by kernel_rfl)) h1 hbl hlt1
  exact ⟨_, rfl, _, _, _, [], p0 ++ (p1 ++ ([] ++ ([]))), [], hW', trodAll_mk1 (shut_bool Try.underlying4 _), trodAll_cons_mk r0 (trodAll_cons_mk r1 (trodAll_cons_mk (shut_int Try.underlying2 w2) trodAll_mk0)), rfl, Below.frame hbl _, fun h => by cases h⟩

theorem comb_either : Rows.CombEitherSaid :=
  OpenClaim.holds_of_wide 8 Try.f8 rfl rfl rfl rfl rfl rfl rfl ⟨rfl, rfl, rfl, rfl, rfl⟩ rfl rfl rfl rfl rfl (by kernel_rfl) Try.func8 (by kernel_rfl)
    (of_decide_eq_true (by kernel_rfl)) (by unfold Func.isWrapper; first | (rw [if_pos (by decide +kernel)]; kernel_rfl) | (rw [if_neg (by decide +kernel)]; exact ⟨rfl, rfl⟩))
    (fun os started H enc _ => either_lifted os started H enc)
end Go.Proofs.Ytchmdkdiilaejaa
