/-
  DropEither: for every bath, any list of numbers of 16 bits, any pair of numbers of 8 bits, any two lists and either sureness, there is either a way from the one place to the other one, or a side of the one from the other one, not both; the arguments read afterwards as they did. No conditions.
-/
import Derived.Test.YtckndnaohggmhaaC53
import Derived.Test.YtckndnaohggmhaaC64
import Derived.Test.YtckndnaohggmhaaRows
namespace Go.Proofs.Ytckndnaohggmhaa
open Go.ChangeShapes Go.WideShapes Go.ChangeAt Go.RowKit

section
variable {H : Type} {enc : TypeId × Value → H} {w : World} {base : Nat} {held : Bool}
theorem trodAll_six {P : Program} {spare : Nat → Bool} {t t' t2 t3 t4 t5 : TypeId} {args : Array Value} {ds : List (DataW H)} {ps : List MemPlace} (h : DataW.TrodAll enc P w base spare held [t, t', t2, t3, t4, t5] args.toList ds ps) :
    ∃ v v' v2 v3 v4 v5 d d' d2 d3 d4 d5 p p' p2 p3 p4 p5, args = #[v, v', v2, v3, v4, v5] ∧ ds = [d, d', d2, d3, d4, d5] ∧ ps = p ++ (p' ++ (p2 ++ (p3 ++ (p4 ++ p5)))) ∧ DataW.Trod enc P w base spare held t v d p ∧ DataW.Trod enc P w base spare held t' v' d' p' ∧ DataW.Trod enc P w base spare held t2 v2 d2 p2 ∧ DataW.Trod enc P w base spare held t3 v3 d3 p3 ∧ DataW.Trod enc P w base spare held t4 v4 d4 p4 ∧ DataW.Trod enc P w base spare held t5 v5 d5 p5 := by
  obtain ⟨v, vs, d, ds', p, q, hargs, rfl, rfl, hd, hr⟩ := trodAll_cons h
  obtain ⟨v', vs', d', ds'', p', q', rfl, rfl, rfl, hd', hr'⟩ := trodAll_cons hr
  obtain ⟨v2, vs2, d2, ds2, p2, q2, rfl, rfl, rfl, hd2, hr2⟩ := trodAll_cons hr'
  obtain ⟨v3, vs3, d3, ds3, p3, q3, rfl, rfl, rfl, hd3, hr3⟩ := trodAll_cons hr2
  obtain ⟨v4, vs4, d4, ds4, p4, q4, rfl, rfl, rfl, hd4, hr4⟩ := trodAll_cons hr3
  obtain ⟨v5, vs5, d5, ds5, p5, q5, rfl, rfl, rfl, hd5, hr5⟩ := trodAll_cons hr4
  obtain ⟨rfl, rfl, rfl⟩ := trodAll_nil hr5
  exact ⟨v, v', v2, v3, v4, v5, d, d', d2, d3, d4, d5, p, p', p2, p3, p4, p5, by cases args; simp_all, rfl, by simp, hd, hd', hd2, hd3, hd4, hd5⟩
end

theorem either_own : ownKnob Try.prog.godebug = none := by kernel_rfl

set_option maxRecDepth 100000 in
theorem either_lifted (os : Os) (started : os.Started) (H : Type) (enc : TypeId × Value → H) :
    ReturnsInHanded {} Try.checked os 9 .any (Rows.dropEitherSpec.pre6 enc Try.prog Try.f9 Rows.dropEitherRow.domain false) (Rows.dropEitherSpec.post enc Try.prog Try.f9 false true false false) := by
  refine returnsInHanded_of_change (C := Try.checked) either_own started (by kernel_rfl) Try.func9
    (ChangeSpec.witness6 (enc := enc) (C := Try.checked) false ⟨#[], #[.agg #[.int .i64 0, .slice none 0 0, .slice none 0 0], .slice none 0 0, .agg #[.int .u8 0, .int .u8 0], .slice none 0 0, .slice none 0 0, .bool false], []⟩ 8 (by kernel_rfl) (by kernel_rfl) (by kernel_rfl) (by kernel_rfl)) ?_
  intro W base args ds gs before hval0 hW hcnd _
  have hval : ∀ (j : Nat) t v, Try.f9.params[j]? = some t → args[j]? = some v → Value.okWide Try.prog W .any base t v := hval0
  have hW' := hW
  obtain ⟨p, q, hA0, hV, rfl, hfz, hnd⟩ := hW
  have hA : DataW.TrodAll enc Try.prog W 0 (fun _ => true) true Try.f9.params.toList args.toList ds p := hA0
  rw [Try.params9] at hA hval
  obtain ⟨v0, v1, v2, v3, v4, v5, d0, d1, d2, d3, d4, d5, p0, p1, p2, p3, p4, p5, rfl, rfl, rfl, h0, h1, h2, h3, h4, h5⟩ := trodAll_six hA
  obtain ⟨rfl, rfl⟩ := trodVars_none hV
  have hlt : ∀ x ∈ p0, x.block < W.heap.size := fun x hx => hW'.lt x (by simp [hx])
  have hlt1 : ∀ x ∈ p1, x.block < W.heap.size := fun x hx => hW'.lt x (by simp [hx])
  have hlt3 : ∀ x ∈ p3, x.block < W.heap.size := fun x hx => hW'.lt x (by simp [hx])
  have hlt4 : ∀ x ∈ p4, x.block < W.heap.size := fun x hx => hW'.lt x (by simp [hx])
  obtain ⟨Wd, A, n, c, A', n', c', ss, ds, rfl, hb⟩ := open_bath (hval 0 25 v0 rfl rfl) h0
  obtain ⟨L, m, cL, bs, rfl, hm, hmm, hL, hbd⟩ := open_u16s (hval 1 53 v1 rfl rfl) h1
  obtain ⟨x, y, rfl, rfl, rfl, wx, wy⟩ := open_pair (hval 2 54 v2 rfl rfl) h2
  obtain ⟨LW, kw, cw, xs, rfl, hk, hkn, hh⟩ := open_list (hval 3 42 v3 rfl rfl) h3
  obtain ⟨LS, ks, cs, ys, rfl, hk', hkn', hh'⟩ := open_list (hval 4 42 v4 rfl rfl) h4
  obtain ⟨sure, rfl, rfl, rfl⟩ := open_bool Try.underlying4 (hval 5 4 v5 rfl rfl) h5
  clear hA0 hval0
  simp only [List.append_nil, List.nil_append] at hW'
  refine (dropEither_any L m cL bs x y LW kw cw xs LS ks cs ys sure (bounds_u8' wx) (bounds_u8' wy) hb hm hmm hL hbd hk hkn hh hk' hkn' hh').mono fun e W' ⟨he, hbl⟩ => ?_
  subst he
  have r0 := Below.trod (show laidOutB Try.prog = true by kernel_rfl) (show Try.prog.readableRec 25 = true by kernel_rfl) (show 25 < Try.prog.types.size from of_decide_eq_true (by kernel_rfl)) h0 hbl hlt
  have r1 := Below.trod (show laidOutB Try.prog = true by kernel_rfl) (show Try.prog.readableRec 53 = true by kernel_rfl) (show 53 < Try.prog.types.size from of_decide_eq_true (by kernel_rfl)) h1 hbl hlt1
  have r3 := Below.trod (show laidOutB Try.prog = true by kernel_rfl) (show Try.prog.readableRec 42 = true by kernel_rfl) (show 42 < Try.prog.types.size from of_decide_eq_true (by kernel_rfl)) h3 hbl hlt3
  have r4 := Below.trod (show laidOutB Try.prog = true by kernel_rfl) (show Try.prog.readableRec 42 = true by kernel_rfl) (show 42 < Try.prog.types.size from of_decide_eq_true (by kernel_rfl)) h4 hbl hlt4
  exact ⟨_, rfl, _, _, _, [], p0 ++ (p1 ++ ([] ++ (p3 ++ (p4 ++ ([] ++ []))))), [], hW', trodAll_mk1 (shut_bool Try.underlying4 _), trodAll_cons_mk r0 (trodAll_cons_mk r1 (trodAll_cons_mk (shut_pair wx wy) (trodAll_cons_mk r3 (trodAll_cons_mk r4 (trodAll_cons_mk (shut_bool Try.underlying4 _) trodAll_mk0))))), rfl, Below.frame hbl _, fun h => by cases h⟩

/-- Either a way or a side. -/
theorem drop_either : Rows.DropEitherSaid :=
  OpenClaim.holds_of_wide 9 Try.f9 rfl rfl rfl rfl rfl rfl rfl ⟨rfl, rfl, rfl, rfl, rfl⟩ rfl rfl rfl rfl rfl (by kernel_rfl) Try.func9 (by kernel_rfl)
    (of_decide_eq_true (by kernel_rfl)) (by unfold Func.isWrapper; first | (rw [if_pos (by decide +kernel)]; kernel_rfl) | (rw [if_neg (by decide +kernel)]; exact ⟨rfl, rfl⟩))
    (fun os started H enc _ => either_lifted os started H enc)
end Go.Proofs.Ytckndnaohggmhaa
