import Derived.Test.YtmlmnljbegcjcaaGreatRows
import Derived.Test.YtmlmnljbegcjcaaGreatC13
import Derived.Test.YtmlmnljbegcjcaaGreatCE1
/-
  BathBests: for all orders and births, which baths do all orders, what they are worth, the fewest baths, and which orders cost a bath, are what the reference says, or the error. No conditions.
-/
namespace Go.Proofs.YtmlmnljbegcjcaaGreat
section
open Go.ChangeShapes Go.WideShapes Go.ChangeAt Go.RowKit

theorem bests_own : ownKnob Tryz.prog.godebug = none := by kernel_rfl

set_option maxRecDepth 100000 in
theorem bests_lifted (os : Os) (started : os.Started) (H : Type) (enc : TypeId × Value → H) :
    ReturnsInHanded {} Tryz.checked os 4 .any (Rows.bathBestsSpec.pre6 enc Tryz.prog Tryz.f4 Rows.bathBestsRow.domain false) (Rows.bathBestsSpec.post enc Tryz.prog Tryz.f4 false true false false) := by
  refine returnsInHanded_of_change (C := Tryz.checked) bests_own started (by kernel_rfl) Tryz.func4
    (ChangeSpec.witness6 (enc := enc) (C := Tryz.checked) false ⟨#[], #[.slice none 0 0, .slice none 0 0], []⟩ 8 (by kernel_rfl) (by kernel_rfl) (by kernel_rfl) (by kernel_rfl)) ?_
  intro W base args ds gs before hval0 hW hcnd _
  have hval : ∀ (j : Nat) t v, Tryz.f4.params[j]? = some t → args[j]? = some v → Value.okWide Tryz.prog W .any base t v := hval0
  have hW' := hW
  obtain ⟨p, q, hA0, hV, rfl, hfz, hnd⟩ := hW
  have hA : DataW.TrodAll enc Tryz.prog W 0 (fun _ => true) true Tryz.f4.params.toList args.toList ds p := hA0
  rw [Tryz.params4] at hA hval
  obtain ⟨v0, v1, d0, d1, p0, p1, rfl, rfl, rfl, h0, h1⟩ := trodAll_two hA
  obtain ⟨rfl, rfl⟩ := trodVars_none hV
  have hlt0 : ∀ x ∈ p0, x.block < W.heap.size := fun x hx => hW'.lt x (by simp [hx])
  have hlt1 : ∀ x ∈ p1, x.block < W.heap.size := fun x hx => hW'.lt x (by simp [hx])
  obtain ⟨A, n, c, os0, rfl, hb⟩ := open_orders (hval 0 22 v0 rfl rfl) h0
  obtain ⟨L1, k1, c1, xs1, rfl, hk1, hm1, hc1, hh1⟩ := open_nums Tryz.underlying36 Tryz.underlying2 (by kernel_rfl) (hval 1 36 v1 rfl rfl) h1
  clear hA0 hval0
  simp only [List.append_nil] at hW'
  refine (bestsLaw_any hb L1 k1 c1 xs1 hk1 hm1 hh1).mono fun e W' ⟨he, hbl⟩ => ?_
  subst he
  have r0 := Below.trod (show laidOutB Tryz.prog = true by kernel_rfl) (show Tryz.prog.readableRec 22 = true by kernel_rfl) (show 22 < Tryz.prog.types.size from of_decide_eq_true (by kernel_rfl)) h0 hbl hlt0
  have r1 := Below.trod (show laidOutB Tryz.prog = true by kernel_rfl) (show Tryz.prog.readableRec 36 = true by kernel_rfl) (show 36 < Tryz.prog.types.size from of_decide_eq_true (by kernel_rfl)) h1 hbl hlt1
  exact ⟨_, rfl, _, _, _, [], p0 ++ (p1 ++ ([])), [], hW', trodAll_mk1 (shut_bool Tryz.underlying4 _), trodAll_cons_mk r0 (trodAll_cons_mk r1 trodAll_mk0), rfl, Below.frame hbl _, fun h => by cases h⟩

theorem bath_bests : Rows.BathBestsSaid :=
  OpenClaim.holds_of_wide 4 Tryz.f4 rfl rfl rfl rfl rfl rfl rfl ⟨rfl, rfl, rfl, rfl, rfl⟩ rfl rfl rfl rfl rfl (by kernel_rfl) Tryz.func4 (by kernel_rfl)
    (of_decide_eq_true (by kernel_rfl)) (by unfold Func.isWrapper; first | (rw [if_pos (by decide +kernel)]; kernel_rfl) | (rw [if_neg (by decide +kernel)]; exact ⟨rfl, rfl⟩))
    (fun os started H enc _ => bests_lifted os started H enc)
end
end Go.Proofs.YtmlmnljbegcjcaaGreat

