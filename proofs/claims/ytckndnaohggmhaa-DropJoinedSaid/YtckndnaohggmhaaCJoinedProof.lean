/-
  DropJoined: for every bath and any pair of numbers of 8 bits, surely joined places are possibly joined, the groups have each place that is there just once, and two places have one group just if there is a way; the arguments read afterwards as they did. No conditions.
-/
import Derived.Test.YtckndnaohggmhaaC53
import Derived.Test.YtckndnaohggmhaaC69
import Derived.Test.YtckndnaohggmhaaRows
namespace Go.Proofs.Ytckndnaohggmhaa
open Go.ChangeShapes Go.WideShapes Go.ChangeAt Go.RowKit

theorem joinedP_own : ownKnob Try.prog.godebug = none := by kernel_rfl

set_option maxRecDepth 100000 in
theorem joinedP_lifted (os : Os) (started : os.Started) (H : Type) (enc : TypeId × Value → H) :
    ReturnsInHanded {} Try.checked os 13 .any (Rows.dropJoinedSpec.pre6 enc Try.prog Try.f13 Rows.dropJoinedRow.domain false) (Rows.dropJoinedSpec.post enc Try.prog Try.f13 false true false false) := by
  refine returnsInHanded_of_change (C := Try.checked) joinedP_own started (by kernel_rfl) Try.func13
    (ChangeSpec.witness6 (enc := enc) (C := Try.checked) false ⟨#[], #[.agg #[.int .i64 0, .slice none 0 0, .slice none 0 0], .agg #[.int .u8 0, .int .u8 0]], []⟩ 8 (by kernel_rfl) (by kernel_rfl) (by kernel_rfl) (by kernel_rfl)) ?_
  intro W base args ds gs before hval0 hW hcnd _
  have hval : ∀ (j : Nat) t v, Try.f13.params[j]? = some t → args[j]? = some v → Value.okWide Try.prog W .any base t v := hval0
  have hW' := hW
  obtain ⟨p, q, hA0, hV, rfl, hfz, hnd⟩ := hW
  have hA : DataW.TrodAll enc Try.prog W 0 (fun _ => true) true Try.f13.params.toList args.toList ds p := hA0
  rw [Try.params13] at hA hval
  obtain ⟨v0, v1, d0, d1, p0, p1, rfl, rfl, rfl, h0, h1⟩ := trodAll_two hA
  obtain ⟨rfl, rfl⟩ := trodVars_none hV
  have hlt : ∀ x ∈ p0 ++ p1, x.block < W.heap.size := fun x hx => hW'.lt x (by simpa using hx)
  obtain ⟨Wd, A, n, c, A', n', c', ss, ds, rfl, hb⟩ := open_bath (hval 0 25 v0 rfl rfl) h0
  have h1' := h1
  obtain ⟨x, y, rfl, rfl, rfl, wx, wy⟩ := open_pair (hval 1 54 v1 rfl rfl) h1
  clear hA0 hval0
  simp only [List.append_nil] at hW'
  refine (dropJoined_any x y (bounds_u8' wx) (bounds_u8' wy) hb).mono fun e W' ⟨he, hbl⟩ => ?_
  subst he
  have r0 := Below.trod (show laidOutB Try.prog = true by kernel_rfl) (show Try.prog.readableRec 25 = true by kernel_rfl) (show 25 < Try.prog.types.size from of_decide_eq_true (by kernel_rfl)) h0 hbl (fun x hx => hlt x (by simp [hx]))
  exact ⟨_, rfl, _, _, _, [], p0 ++ ([] ++ []), [], hW', trodAll_mk1 (shut_bool Try.underlying4 _), trodAll_cons_mk r0 (trodAll_cons_mk (shut_pair wx wy) trodAll_mk0), rfl, Below.frame hbl _, fun h => by cases h⟩

/-- Which baths are valid, and how large a spot can be. -/
theorem drop_joined : Rows.DropJoinedSaid :=
  OpenClaim.holds_of_wide 13 Try.f13 rfl rfl rfl rfl rfl rfl rfl ⟨rfl, rfl, rfl, rfl, rfl⟩ rfl rfl rfl rfl rfl (by kernel_rfl) Try.func13 (by kernel_rfl)
    (of_decide_eq_true (by kernel_rfl)) (by unfold Func.isWrapper; first | (rw [if_pos (by decide +kernel)]; kernel_rfl) | (rw [if_neg (by decide +kernel)]; exact ⟨rfl, rfl⟩))
    (fun os started H enc _ => joinedP_lifted os started H enc)
end Go.Proofs.Ytckndnaohggmhaa
