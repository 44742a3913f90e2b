/-
  DropMore: for every bath, one more drop of any kind, and any numbers, no kind becomes less and no touch comes later with one drop more, and no sure kind changes with a narrower spread; the arguments read afterwards as they did. No conditions.
-/
import Derived.Test.YtckndnaohggmhaaC53
import Derived.Test.YtckndnaohggmhaaC60
import Derived.Test.YtckndnaohggmhaaRows
namespace Go.Proofs.Ytckndnaohggmhaa
open Go.ChangeShapes Go.WideShapes Go.ChangeAt Go.RowKit Go.Deep Go.Joins

section
variable {H : Type} {enc : TypeId × Value → H} {w : World} {base : Nat} {held : Bool}

set_option maxRecDepth 100000 in
theorem open_drop {r : Reach} {b0 : Nat} {v : Value} {d : DataW H} {p : List MemPlace} (hv : Value.okWide Try.prog w r b0 62 v) (h : DataW.Trod enc Try.prog w base (fun _ => true) held 62 v d p) :
    ∃ s lo hi, v = .agg #[.int .i64 s, .int .i64 lo, .int .i64 hi] := by
  obtain ⟨cs, rfl, hsz, _⟩ : ∃ cs, v = .agg cs ∧ cs.size = Try.prog.cellsOf 62 ∧ Row.okWide Try.prog w r b0 62 cs := by
    simpa [Value.okWide, Try.underlying62] using hv
  obtain ⟨fuel, hf⟩ := h
  obtain ⟨z, hz⟩ := drop_of_trod hf
  obtain ⟨l⟩ := cs
  have e : l = encD z := hz
  exact ⟨z.1, z.2.1, z.2.2, by rw [e]; rfl⟩

set_option maxRecDepth 100000 in
theorem open_pair16 {r : Reach} {b0 : Nat} {v : Value} {d : DataW H} {p : List MemPlace} (hv : Value.okWide Try.prog w r b0 67 v) (h : DataW.Trod enc Try.prog w base (fun _ => true) held 67 v d p) :
    ∃ x y, v = .agg #[.int .u16 x, .int .u16 y] ∧ (0 ≤ x ∧ x ≤ 65535) ∧ 0 ≤ y ∧ y ≤ 65535 := by
  obtain ⟨cs, rfl, hsz, _⟩ : ∃ cs, v = .agg cs ∧ cs.size = Try.prog.cellsOf 67 ∧ Row.okWide Try.prog w r b0 67 cs := by
    simpa [Value.okWide, Try.underlying67] using hv
  rw [show Try.prog.cellsOf 67 = 2 from by kernel_rfl] at hsz
  obtain ⟨l⟩ := cs
  obtain ⟨c0, c1, rfl⟩ := list2 l hsz
  obtain ⟨fuel, hf⟩ := h
  obtain ⟨xs, m, _, hx, _, hl, hel⟩ := DataW.trod_array Try.underlying67 hf
  obtain ⟨y0, y1, rfl⟩ := list2 xs hl
  have h0 := hel 0 (by omega)
  have h1 := hel 1 (by omega)
  simp only [show Try.prog.cellsOf 66 = 1 from by kernel_rfl, Nat.zero_mul, Nat.one_mul, Value.cells, List.drop_zero, List.take_succ_cons, List.take_zero, List.drop_succ_cons, List.getElem?_cons_zero, List.getElem?_cons_succ] at h0 h1
  obtain ⟨x, ex, rfl, wx⟩ := DataW.trod_int Try.underlying66 h0
  obtain ⟨y, ey, rfl, wy⟩ := DataW.trod_int Try.underlying66 h1
  simp only [List.cons.injEq, and_true] at ex ey
  subst ex ey
  exact ⟨x, y, rfl, bounds_u16' wx, bounds_u16' wy⟩
end

theorem more_own : ownKnob Try.prog.godebug = none := by kernel_rfl

set_option maxRecDepth 100000 in
theorem more_lifted (os : Os) (started : os.Started) (H : Type) (enc : TypeId × Value → H) :
    ReturnsInHanded {} Try.checked os 10 .any (Rows.dropMoreSpec.pre6 enc Try.prog Try.f10 Rows.dropMoreRow.domain false) (Rows.dropMoreSpec.post enc Try.prog Try.f10 false true false false) := by
  refine returnsInHanded_of_change (C := Try.checked) more_own started (by kernel_rfl) Try.func10
    (ChangeSpec.witness6 (enc := enc) (C := Try.checked) false ⟨#[], #[.agg #[.int .i64 0, .slice none 0 0, .slice none 0 0], .agg #[.int .i64 0, .int .i64 0, .int .i64 0], .int .u8 0, .agg #[.int .u16 0, .int .u16 0], .agg #[.int .u8 0, .int .u8 0]], []⟩ 8 (by kernel_rfl) (by kernel_rfl) (by kernel_rfl) (by kernel_rfl)) ?_
  intro W base args ds gs before hval0 hW hcnd _
  have hval : ∀ (j : Nat) t v, Try.f10.params[j]? = some t → args[j]? = some v → Value.okWide Try.prog W .any base t v := hval0
  have hW' := hW
  obtain ⟨p, q, hA0, hV, rfl, hfz, hnd⟩ := hW
  have hA : DataW.TrodAll enc Try.prog W 0 (fun _ => true) true Try.f10.params.toList args.toList ds p := hA0
  rw [Try.params10] at hA hval
  obtain ⟨v0, v1, v2, v3, v4, d0, d1, d2, d3, d4, p0, p1, p2, p3, p4, rfl, rfl, rfl, h0, h1, h2, h3, h4⟩ := trodAll_five hA
  obtain ⟨rfl, rfl⟩ := trodVars_none hV
  have hlt : ∀ x ∈ p0, x.block < W.heap.size := fun x hx => hW'.lt x (by simp [hx])
  have hlt1 : ∀ x ∈ p1, x.block < W.heap.size := fun x hx => hW'.lt x (by simp [hx])
  have hlt3 : ∀ x ∈ p3, x.block < W.heap.size := fun x hx => hW'.lt x (by simp [hx])
  obtain ⟨Wd, A, n, c, A', n', c', ss, ds, rfl, hb⟩ := open_bath (hval 0 25 v0 rfl rfl) h0
  obtain ⟨s, dl, dh, rfl⟩ := open_drop (hval 1 62 v1 rfl rfl) h1
  obtain ⟨u, rfl, rfl, rfl, wu⟩ := open_int Try.underlying5 (hval 2 5 v2 rfl rfl) h2
  obtain ⟨l0, l1, rfl, bl0, bl1⟩ := open_pair16 (hval 3 67 v3 rfl rfl) h3
  obtain ⟨x, y, rfl, rfl, rfl, wx, wy⟩ := open_pair (hval 4 54 v4 rfl rfl) h4
  clear hA0 hval0
  simp only [List.append_nil] at hW'
  refine (dropMore_any s dl dh u l0 l1 x y (bounds_u8' wu) bl0 bl1 (bounds_u8' wx) (bounds_u8' wy) hb).mono fun e W' ⟨he, hbl⟩ => ?_
  subst he
  have r0 := Below.trod (show laidOutB Try.prog = true by kernel_rfl) (show Try.prog.readableRec 25 = true by kernel_rfl) (show 25 < Try.prog.types.size from of_decide_eq_true (by kernel_rfl)) h0 hbl hlt
  have r1 := Below.trod (show laidOutB Try.prog = true by kernel_rfl) (show Try.prog.readableRec 62 = true by kernel_rfl) (show 62 < Try.prog.types.size from of_decide_eq_true (by kernel_rfl)) h1 hbl hlt1
  have r3 := Below.trod (show laidOutB Try.prog = true by kernel_rfl) (show Try.prog.readableRec 67 = true by kernel_rfl) (show 67 < Try.prog.types.size from of_decide_eq_true (by kernel_rfl)) h3 hbl hlt3
  exact ⟨_, rfl, _, _, _, [], p0 ++ (p1 ++ ([] ++ (p3 ++ ([] ++ [])))), [], hW', trodAll_mk1 (shut_bool Try.underlying4 _), trodAll_cons_mk r0 (trodAll_cons_mk r1 (trodAll_cons_mk (shut_int Try.underlying5 wu) (trodAll_cons_mk r3 (trodAll_cons_mk (shut_pair wx wy) trodAll_mk0)))), rfl, Below.frame hbl _, fun h => by cases h⟩

/-- One drop more, and a narrower spread. -/
theorem drop_more : Rows.DropMoreSaid :=
  OpenClaim.holds_of_wide 10 Try.f10 rfl rfl rfl rfl rfl rfl rfl ⟨rfl, rfl, rfl, rfl, rfl⟩ rfl rfl rfl rfl rfl (by kernel_rfl) Try.func10 (by kernel_rfl)
    (of_decide_eq_true (by kernel_rfl)) (by unfold Func.isWrapper; first | (rw [if_pos (by decide +kernel)]; kernel_rfl) | (rw [if_neg (by decide +kernel)]; exact ⟨rfl, rfl⟩))
    (fun os started H enc _ => more_lifted os started H enc)
end Go.Proofs.Ytckndnaohggmhaa
