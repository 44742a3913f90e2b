/- Texts of the package drop, joined: RefWith, RefWithWalk, RefRoomPure, RefRoom. -/
import Derived.Test.YtckndnaohggmhaaC27
import Derived.Test.YtckndnaohggmhaaC31
import Derived.Test.YtckndnaohggmhaaC32
import Derived.Test.YtckndnaohggmhaaC35
import Derived.Deep.RegionHeld3
import Derived.Deep.AppendLies
import Derived.Deep.DrawnRows
import Derived.Deep.Cut
/- The reference's With: a bath with one more drop: its two appends, each as one step of a region that draws. -/
namespace Go.Proofs.Ytckndnaohggmhaa
open Go.RowKit Go.Shelf
attribute [local go_sem ↓] Go.wp_at_zero Go.wp_at_succ

theorem info62b : (Try.prog.info? 62).map (fun i => (i.zero, i.size, i.bytes)) = some (some (.agg #[.int .i64 0, .int .i64 0, .int .i64 0]), 3, 24) := by kernel_rfl

theorem flat_get : ∀ (ds : List (Int × Int × Int)) (j : Nat), (ds.flatMap encD)[j]? = (ds[j / 3]?).bind fun x => (encD x)[j % 3]? := by
  intro ds
  induction ds with
  | nil => intro j; simp
  | cons x ds ih =>
    intro j
    rw [List.flatMap_cons]
    have hl : (encD x).length = 3 := rfl
    rcases Nat.lt_or_ge j 3 with h | h
    · rw [List.getElem?_append_left (by omega)]
      have h1 : j / 3 = 0 := by omega
      have h2 : j % 3 = j := by omega
      rw [h1, h2]
      rfl
    · rw [List.getElem?_append_right (by omega), hl, ih]
      have h1 : j / 3 = (j - 3) / 3 + 1 := by omega
      have h2 : j % 3 = (j - 3) % 3 := by omega
      rw [h1, h2]
      rfl
theorem flat_len (ds : List (Int × Int × Int)) : (ds.flatMap encD).length = ds.length * 3 := by
  induction ds with
  | nil => rfl
  | cons x ds ih => rw [List.flatMap_cons, List.length_append, ih, List.length_cons]; show 3 + _ = _; omega
theorem flat_one (ds : List (Int × Int × Int)) : ∀ u ∈ ds.flatMap encD, u.oneCell' = true := by
  intro u hu
  obtain ⟨x, _, hx⟩ := List.mem_flatMap.1 hu
  simp [encD] at hx
  rcases hx with rfl | rfl | rfl <;> rfl
theorem held_flat {W : World} {B b off : Nat} {ds : List (Int × Int × Int)} (h : Held W B 3 encD (some ⟨b, off, none⟩) ds) : ∀ j u, (ds.flatMap encD)[j]? = some u → W.cell? ((⟨b, off, none⟩ : Addr).add j) = some u := by
  intro j u hu
  rw [flat_get, Option.bind_eq_some_iff] at hu
  obtain ⟨x, hx, hi⟩ := hu
  rcases h with rfl | ⟨b', off', e, _, hc⟩
  · simp at hx
  · cases e
    rw [Addr.add_lit]
    have := hc _ _ hx _ _ hi
    rw [show off + j / 3 * 3 + j % 3 = off + j from by omega] at this
    exact this
theorem held_of_owns {W : World} {base g n cap : Nat} {ds : List (Int × Int × Int)} (h : W.ownsRow base 62 3 (.slice (some ⟨g, 0, none⟩) n cap) n (ds.flatMap encD)) : Held W W.heap.size 3 encD (some ⟨g, 0, none⟩) ds ∧ n ≤ cap := by
  rcases h.2 with ⟨e, _⟩ | ⟨g', cap', cur, e, _, hg, h1, h2, h3, h4⟩
  · cases e
  · cases e
    refine ⟨.inr ⟨g, 0, rfl, (Array.getElem?_eq_some_iff.1 hg).1, fun j x hx i v hi => ?_⟩, h1⟩
    have hi3 : i < 3 := (List.getElem?_eq_some_iff.1 hi).1
    have h5 : (ds.flatMap encD)[j * 3 + i]? = some v := by
      rw [flat_get, show (j * 3 + i) / 3 = j from by omega, show (j * 3 + i) % 3 = i from by omega, hx]
      exact hi
    refine (cell_of_row _ _ _ _ _ _ hg).trans ?_
    rw [← h4, List.getElem?_take] at h5
    split at h5
    · rw [Nat.zero_add]; simpa using h5
    · cases h5

theorem ext_grow {W W' : World} (h : W.grownBy W' none) : Ext W W' := (Below.refl _ W).grown h (Nat.le_refl _) fun r e => by cases e
theorem ext_drew (W : World) : Ext W W.drew := (Below.refl _ W).drew
theorem step_with1 {w0 W : World} {ops : Array Oper} {o : Oper} {a : Act} {K : Act → World → Prop} {Q : Exit → Act → World → Prop} {E : Prop} {b off n' c' : Nat} {ds : List (Int × Int × Int)} (hgd : o.guard = none)
    (ho : o.op = .call { callee := .builtin .append, args := #[.tmp 5, .tmp 7], argTypes := #[23, 23] }) (g : Nat) (hs : a.eval (.tmp 5) = .slice (some ⟨g, 0, none⟩) 0 0) (hx : a.eval (.tmp 7) = .slice (some ⟨b, off, none⟩) n' c')
    (hE : Ext w0 W) (hsrc : Held w0 w0.heap.size 3 encD (some ⟨b, off, none⟩) ds) (hn : n' = ds.length) (hpos : 0 < n') (h40 : n' ≤ 1000)
    (h : ∀ g1 cap W', W'.ownsRow w0.heap.size 62 3 (.slice (some ⟨g1, 0, none⟩) n' cap) n' (ds.flatMap encD) → W.heap.size ≤ g1 → W.grownBy W' none → K (a.put o.dst (.slice (some ⟨g1, 0, none⟩) n' cap)) W') :
    if Region.wanted o (yielded ops a.tmps) = true then Oper.wp Try.prog o a W K Q else E := by
  have hw : Region.wanted o (yielded ops a.tmps) = true := by simp [Region.wanted, hgd]
  rw [if_pos hw]
  obtain ⟨i0, hi0, hz0, hz1, hz2⟩ := info_parts info62b
  obtain ⟨v', W', hr, h2, h3⟩ := run_append_arg_grows (P := Try.prog) (w := W) 23 o.type 62 i0 _ 3 24 Try.underlying23 hi0 hz0 hz1 hz2 rfl (by omega) ⟨g, 0, none⟩ 0 0 [] rfl (fun j u hu => by simp at hu) ⟨b, off, none⟩ n' c' (ds.flatMap encD) (by rw [flat_len, hn])
    (held_flat (hsrc.ext hE)) (by omega) (by unfold maxLen; omega) (by omega)
  rw [Nat.zero_add, List.nil_append] at h2
  have h2' := h2
  obtain ⟨g1, cap, rfl, hg1, _⟩ := h2'.form hpos
  unfold Oper.wp execOp
  simp only [ho, resolve, invoke, builtin, Sem.run_bind, Sem.run_pure, Result.andThen_ok, List.map_toArray, List.map_cons, List.map_nil, hs, hx, hr]
  exact h g1 cap W' (owns_mono h2 hE.size) hg1 h3

theorem step_with2 {w0 W1 V : World} {ops : Array Oper} {o : Oper} {a : Act} {K : Act → World → Prop} {Q : Exit → Act → World → Prop} {E : Prop} {n' cap1 g1 : Nat} {ds : List (Int × Int × Int)} {s lo hi : Int} (hgd : o.guard = none)
    (ho : o.op = .call { callee := .builtin .append, args := #[.tmp 8, .tmp 10], argTypes := #[23, 23] }) (g2 : Nat) (hs : a.eval (.tmp 8) = .slice (some ⟨g1, 0, none⟩) n' cap1) (hx : a.eval (.tmp 10) = .slice (some ⟨g2, 0, none⟩) 1 1)
    (hown : W1.ownsRow w0.heap.size 62 3 (.slice (some ⟨g1, 0, none⟩) n' cap1) n' (ds.flatMap encD)) (hE1 : Ext W1 V) (hE : Ext w0 V) (hnews : V.heap[g2]? = some (.cells #[.int .i64 s, .int .i64 lo, .int .i64 hi] 62 (0, 0))) (hg1 : w0.heap.size ≤ g1) (h40 : n' ≤ 1000)
    (h : ∀ g3 cap3 V', V'.ownsRow w0.heap.size 62 3 (.slice (some ⟨g3, 0, none⟩) (n' + 1) cap3) (n' + 1) ((ds ++ [(s, lo, hi)]).flatMap encD) → Ext w0 V' → K (a.put o.dst (.slice (some ⟨g3, 0, none⟩) (n' + 1) cap3)) V') :
    if Region.wanted o (yielded ops a.tmps) = true then Oper.wp Try.prog o a V K Q else E := by
  obtain ⟨i0, hi0, hz0, hz1, hz2⟩ := info_parts info62b
  have hownV : V.ownsRow w0.heap.size 62 3 (.slice (some ⟨g1, 0, none⟩) n' cap1) n' (ds.flatMap encD) := by
    refine ⟨hown.1, hown.2.imp id ?_⟩
    rintro ⟨g, cap, cur, hv, hg, hc, r⟩
    exact ⟨g, cap, cur, hv, hg, row_ext hc hE1, r⟩
  have e1 : (ds ++ [(s, lo, hi)]).flatMap encD = ds.flatMap encD ++ [.int .i64 s, .int .i64 lo, .int .i64 hi] := by rw [List.flatMap_append]; rfl
  rw [e1] at h
  refine step_append_lies V hgd (.tmp 8) (.tmp 10) 23 ho w0.heap.size 62 i0 _ 3 24 Try.underlying23 hi0 hz0 hz1 hz2 rfl (by omega) _ n' (ds.flatMap encD) hs hownV ⟨g2, 0, none⟩ 1 1 [.int .i64 s, .int .i64 lo, .int .i64 hi] hx rfl (World.news_of_block hnews) (by simp [Value.oneCell']) (by omega) (by unfold maxLen; omega) (by omega) hE.size V.heap.size rfl ?_
  intro g3 cap3 V' h2 h3 _ _
  exact h g3 cap3 V' h2 (hE.grown h3 hE.size fun r e => by cases e; exact hg1)
end Go.Proofs.Ytckndnaohggmhaa

/- The reference's With: a bath with one more drop. -/
namespace Go.Proofs.Ytckndnaohggmhaa
open Go.RowKit Go.Shelf
attribute [local go_sem ↓] Go.wp_at_zero Go.wp_at_succ

theorem owns_far {V Z : World} {base : Nat} {e : TypeId} {size n : Nat} {v : Value} {xs : List Value} (h : V.ownsRow base e size v n xs) (hz : ∀ k, base ≤ k → Z.heap[k]? = V.heap[k]?) : Z.ownsRow base e size v n xs := by
  refine ⟨h.1, h.2.imp id ?_⟩
  rintro ⟨g, cap, cur, hv, hg, hc, r⟩
  exact ⟨g, cap, cur, hv, hg, (hz g hg).trans hc, r⟩
theorem owns_ext {V Z : World} {base : Nat} {e : TypeId} {size n : Nat} {v : Value} {xs : List Value} (h : V.ownsRow base e size v n xs) (hE : Ext V Z) : Z.ownsRow base e size v n xs := by
  refine ⟨h.1, h.2.imp id ?_⟩
  rintro ⟨g, cap, cur, hv, hg, hc, r⟩
  exact ⟨g, cap, cur, hv, hg, row_ext hc hE, r⟩

theorem run_append_nothing (W : World) (ty : TypeId) (g : Nat) (A' : Option Addr) (c' : Nat) : (Builtin.append_ #[23, 23] ty #[.slice (some ⟨g, 0, none⟩) 0 0, .slice A' 0 c']).run Try.prog W = .ok (.slice (some ⟨g, 0, none⟩) 0 0) W := by
  obtain ⟨i0, hi0, hz0, hz1, hz2⟩ := info_parts info62b
  cases A' with
  | none => simp [Builtin.append_, run_underlying Try.underlying23, sizeOf, typeInfo, hi0, Builtin.lenOf, Builtin.firstCells, storeCells, go_sem]
  | some a =>
    have := run_append_room_cells (P := Try.prog) (w := W) 23 ty 62 i0 Try.underlying23 hi0 g 0 0 0 a 0 c' [] (by simp) (fun j u hu => by simp at hu) (fun u hu => by simp at hu) (by omega) (fun j hj => by simp at hj) (fun j hj => by simp at hj)
    exact this
theorem step_with0 {w0 V : World} {ops : Array Oper} {o : Oper} {a : Act} {K : Act → World → Prop} {Q : Exit → Act → World → Prop} {E : Prop} {A' : Option Addr} {c' : Nat} (hgd : o.guard = none)
    (ho : o.op = .call { callee := .builtin .append, args := #[.tmp 5, .tmp 7], argTypes := #[23, 23] }) (g : Nat) (hs : a.eval (.tmp 5) = .slice (some ⟨g, 0, none⟩) 0 0) (hx : a.eval (.tmp 7) = .slice A' 0 c')
    (hrow : V.heap[g]? = some (.cells #[] 62 (0, 0))) (hg : w0.heap.size ≤ g)
    (h : ∀ g1 w1, w1.ownsRow w0.heap.size 62 3 (.slice (some ⟨g1, 0, none⟩) 0 0) 0 (([] : List (Int × Int × Int)).flatMap encD) → w0.heap.size ≤ g1 → V.grownBy w1 none → K (a.put o.dst (.slice (some ⟨g1, 0, none⟩) 0 0)) w1) :
    if Region.wanted o (yielded ops a.tmps) = true then Oper.wp Try.prog o a V K Q else E := by
  have hw : Region.wanted o (yielded ops a.tmps) = true := by simp [Region.wanted, hgd]
  rw [if_pos hw]
  unfold Oper.wp execOp
  simp only [ho, resolve, invoke, builtin, Sem.run_bind, Sem.run_pure, Result.andThen_ok, List.map_toArray, List.map_cons, List.map_nil, hs, hx, run_append_nothing]
  exact h g V ⟨rfl, .inr ⟨g, 0, #[], rfl, hg, hrow, Nat.le_refl _, Nat.zero_le _, rfl, rfl⟩⟩ hg ⟨rfl, rfl, rfl, Nat.le_refl _, fun _ _ _ => rfl⟩
theorem wpList_tail {P : Program} {ops : Array Oper} {Q : Exit → Act → World → Prop} {rest : List Oper} {o : Oper} {a : Act} {w : World} (hgd : o.guard = none)
    (h : if Region.wanted o (yielded ops a.tmps) = true then Oper.wp P o a w (fun a' w' => wpList P ops Q rest a' w') Q else True) : wpList P ops Q (o :: rest) a w := by
  have hw : Region.wanted o (yielded ops a.tmps) = true := by simp [Region.wanted, hgd]
  rw [if_pos hw] at h
  simp only [wpList]
  rw [if_pos hw]
  exact .inl h

theorem wpList_skip {P : Program} {ops : Array Oper} {Q : Exit → Act → World → Prop} {rest : List Oper} {o : Oper} {a : Act} {w w' : World} (hgd : o.guard = none) (hr : (execOp a.eval o).run P w = .ok .skip w')
    (h : wpList P ops Q rest (a.put o.dst undef) w') : wpList P ops Q (o :: rest) a w := by
  simp only [wpList]
  rw [if_pos (by simp [Region.wanted, hgd])]
  left
  unfold Oper.wp
  rw [hr]
  exact h

/-- What each operation of With's statement yields. -/
def withS (W0 : World) (p : Nat) (A' : Option Addr) (n' c' : Nat) (ds : List (Int × Int × Int)) (s lo hi : Int) (k : Nat) (v : Value) (W : World) : Prop :=
  match k with
  | 0 => ∃ g, v = .slice (some ⟨g, 0, none⟩) 0 0 ∧ W0.heap.size ≤ g ∧ W.heap[g]? = some (.cells #[] 62 (0, 0))
  | 1 => v = .pointer (some ⟨p, 2, none⟩)
  | 2 => v = .slice A' n' c'
  | 3 => ∃ g cap, v = .slice (some ⟨g, 0, none⟩) n' cap ∧ W0.heap.size ≤ g ∧ W.ownsRow W0.heap.size 62 3 (.slice (some ⟨g, 0, none⟩) n' cap) n' (ds.flatMap encD)
  | 4 => v = .agg #[.int .i64 s, .int .i64 lo, .int .i64 hi]
  | _ => ∃ g, v = .slice (some ⟨g, 0, none⟩) 1 1 ∧ W.heap[g]? = some (.cells #[.int .i64 s, .int .i64 lo, .int .i64 hi] 62 (0, 0))
theorem withS_ext (W0 : World) (p : Nat) (A' : Option Addr) (n' c' : Nat) (ds : List (Int × Int × Int)) (s lo hi : Int) (k : Nat) (v : Value) (W W' : World) (h : withS W0 p A' n' c' ds s lo hi k v W) (e : Below W.heap.size W W') : withS W0 p A' n' c' ds s lo hi k v W' := by
  unfold withS at h ⊢
  split at h
  · obtain ⟨g, h1, h2, h3⟩ := h
    exact ⟨g, h1, h2, row_ext h3 e⟩
  · exact h
  · exact h
  · obtain ⟨g, cap, h1, h2, h3⟩ := h
    exact ⟨g, cap, h1, h2, owns_ext h3 e⟩
  · exact h
  · obtain ⟨g, h1, h2⟩ := h
    exact ⟨g, h1, row_ext h2 e⟩
noncomputable def withReg : Array Oper := (Try.f47.body.bind (regionOf · 1)).getD #[]

section
variable {w : World} {Wd : Int} {A : Option Addr} {n c : Nat} {A' : Option Addr} {n' c' : Nat} {ss : List (Int × Int)} {ds : List (Int × Int × Int)} {s lo hi : Int}

section
variable {W0 W : World} {p : Nat} {Q : Exit → Act → World → Prop} {a : Act} {o : Oper}
def WithOk (W0 : World) (p : Nat) (A' : Option Addr) (n' c' : Nat) (ds : List (Int × Int × Int)) (s lo hi : Int) (Q : Exit → Act → World → Prop) (a : Act) (W : World) (k : Nat) (o : Oper) : Prop :=
  (∀ j b, o.guard = some (j, b) → a.eval (.tmp (5 + j)) = .bool b) ∧ o.wp Try.prog a W (fun a'' W' => ∃ v, a'' = a.put o.dst v ∧ withS W0 p A' n' c' ds s lo hi k v W' ∧ Below W.heap.size W W') Q
theorem with_op0 (ho : withReg[0]? = some o) (hB : Ext W0 W) : WithOk W0 p A' n' c' ds s lo hi Q a W 0 o := by
  have hop := op_at ho (·.op) (x := .buildSlice 23 0 #[]) (by kernel_rfl)
  have hgd := op_at ho (·.guard) (x := none) (by kernel_rfl)
  refine ⟨fun j b h => (by rw [hgd] at h; cases h), ?_⟩
  exact specs_value (R := withS W0 p A' n' c' ds s lo hi 0) (v := .slice (some ⟨W.heap.size, 0, none⟩) 0 0) (W' := W.alloc (.cells #[] 62)) (by simp [execOp, hop, go_sem]) ⟨_, rfl, hB.size, row_last _ _ _ rfl⟩ ((Below.refl _ W).alloc (Nat.le_refl _) _)
theorem with_op1 (o2 : a.eval (.tmp 2) = .pointer (some ⟨p, 0, none⟩)) (ho : withReg[1]? = some o) : WithOk W0 p A' n' c' ds s lo hi Q a W 1 o := by
  have hop := op_at ho (·.op) (x := .fieldAddr 25 (.tmp 2) 2) (by kernel_rfl)
  have hgd := op_at ho (·.guard) (x := none) (by kernel_rfl)
  refine ⟨fun j b h => (by rw [hgd] at h; cases h), ?_⟩
  exact specs_value (R := withS W0 p A' n' c' ds s lo hi 1) (v := .pointer (some ⟨p, 2, none⟩)) (by simp [execOp, hop, go_sem, ev o2]) rfl (Ext.refl W)
theorem with_op2 (hr : W0.heap[p]? = some (.cells #[.int .i64 Wd, .slice A n c, .slice A' n' c'] 25 (0, 0))) (ho : withReg[2]? = some o) (hB : Ext W0 W)
    (haft : ∀ j, (o.after.any fun e => decide (e.on = j) && Region.binds .any e) = true → withS W0 p A' n' c' ds s lo hi j (a.eval (.tmp (5 + j))) W) : WithOk W0 p A' n' c' ds s lo hi Q a W 2 o := by
  have hop := op_at ho (·.op) (x := .load 23 (.tmp 6)) (by kernel_rfl)
  have hgd := op_at ho (·.guard) (x := none) (by kernel_rfl)
  refine ⟨fun j b h => (by rw [hgd] at h; cases h), ?_⟩
  have e1 : a.eval (.tmp 6) = .pointer (some ⟨p, 2, none⟩) := haft 1 (op_at ho (fun o => o.after.any fun e => decide (e.on = 1) && Region.binds .any e) (x := true) (by kernel_rfl))
  have hc : W.cell? ⟨p, 2, none⟩ = some (.slice A' n' c') := cell_of_row _ _ _ _ _ _ (row_ext hr hB)
  exact specs_value (R := withS W0 p A' n' c' ds s lo hi 2) (v := .slice A' n' c') (by simp [execOp, hop, go_sem, ev e1, hc]) rfl (Ext.refl W)
theorem with_op3 (hsrc : Held W0 W0.heap.size 3 encD A' ds) (hn : n' = ds.length) (h40 : n' ≤ 1000) (ho : withReg[3]? = some o) (hB : Ext W0 W)
    (haft : ∀ j, (o.after.any fun e => decide (e.on = j) && Region.binds .any e) = true → withS W0 p A' n' c' ds s lo hi j (a.eval (.tmp (5 + j))) W) : WithOk W0 p A' n' c' ds s lo hi Q a W 3 o := by
  have hop := op_at ho (·.op) (x := .call { callee := .builtin .append, args := #[.tmp 5, .tmp 7], argTypes := #[23, 23] }) (by kernel_rfl)
  have hgd := op_at ho (·.guard) (x := none) (by kernel_rfl)
  refine ⟨fun j b h => (by rw [hgd] at h; cases h), ?_⟩
  obtain ⟨g, e0, hg, hrow⟩ : ∃ g, a.eval (.tmp 5) = .slice (some ⟨g, 0, none⟩) 0 0 ∧ W0.heap.size ≤ g ∧ W.heap[g]? = some (.cells #[] 62 (0, 0)) := haft 0 (op_at ho (fun o => o.after.any fun e => decide (e.on = 0) && Region.binds .any e) (x := true) (by kernel_rfl))
  have e2 : a.eval (.tmp 7) = .slice A' n' c' := haft 2 (op_at ho (fun o => o.after.any fun e => decide (e.on = 2) && Region.binds .any e) (x := true) (by kernel_rfl))
  have hw : Region.wanted o (yielded withReg a.tmps) = true := by simp [Region.wanted, hgd]
  by_cases h0 : n' = 0
  · subst h0
    obtain rfl : ds = [] := List.eq_nil_of_length_eq_zero hn.symm
    have := step_with0 (w0 := W0) (V := W) (ops := withReg) (E := True) (Q := Q) (K := fun a'' W' => ∃ v, a'' = a.put o.dst v ∧ withS W0 p A' 0 c' [] s lo hi 3 v W' ∧ Below W.heap.size W W') hgd hop g e0 e2 hrow hg
      (fun g1 w1 h1 h2 h3 => ⟨_, rfl, ⟨g1, 0, rfl, h2, h1⟩, ext_grow h3⟩)
    rw [if_pos hw] at this
    exact this
  · rcases hsrc with e | ⟨b, off, rfl, hlt, hc⟩
    · exact absurd (by rw [hn, e]; rfl) h0
    · have := step_with1 (w0 := W0) (W := W) (ops := withReg) (E := True) (Q := Q) (K := fun a'' W' => ∃ v, a'' = a.put o.dst v ∧ withS W0 p (some ⟨b, off, none⟩) n' c' ds s lo hi 3 v W' ∧ Below W.heap.size W W') hgd hop g e0 e2 hB (.inr ⟨b, off, rfl, hlt, hc⟩) hn (by omega) h40
        (fun g1 cap w1 h1 h2 h3 => ⟨_, rfl, ⟨g1, cap, rfl, Nat.le_trans hB.size h2, h1⟩, ext_grow h3⟩)
      rw [if_pos hw] at this
      exact this
theorem with_op4 (o3 : a.eval (.tmp 3) = .pointer (some ⟨p + 1, 0, none⟩)) (hr : W0.heap[p + 1]? = some (.cells #[.int .i64 s, .int .i64 lo, .int .i64 hi] 62 (0, 0))) (ho : withReg[4]? = some o) (hB : Ext W0 W) : WithOk W0 p A' n' c' ds s lo hi Q a W 4 o := by
  have hop := op_at ho (·.op) (x := .load 62 (.tmp 3)) (by kernel_rfl)
  have hgd := op_at ho (·.guard) (x := none) (by kernel_rfl)
  refine ⟨fun j b h => (by rw [hgd] at h; cases h), ?_⟩
  have h0 : W.cell? ⟨p + 1, 0, none⟩ = some (.int .i64 s) := cell_of_row _ _ _ _ _ _ (row_ext hr hB)
  have h1 : W.cell? ⟨p + 1, 1, none⟩ = some (.int .i64 lo) := cell_of_row _ _ _ _ _ _ (row_ext hr hB)
  have h2 : W.cell? ⟨p + 1, 2, none⟩ = some (.int .i64 hi) := cell_of_row _ _ _ _ _ _ (row_ext hr hB)
  exact specs_value (R := withS W0 p A' n' c' ds s lo hi 4) (v := .agg #[.int .i64 s, .int .i64 lo, .int .i64 hi]) (by simp [execOp, hop, go_sem, ev o3, h0, h1, h2]) rfl (Ext.refl W)
theorem with_op5 (ho : withReg[5]? = some o)
    (haft : ∀ j, (o.after.any fun e => decide (e.on = j) && Region.binds .any e) = true → withS W0 p A' n' c' ds s lo hi j (a.eval (.tmp (5 + j))) W) : WithOk W0 p A' n' c' ds s lo hi Q a W 5 o := by
  have hop := op_at ho (·.op) (x := .buildSlice 23 1 #[(0, .tmp 9)]) (by kernel_rfl)
  have hgd := op_at ho (·.guard) (x := none) (by kernel_rfl)
  refine ⟨fun j b h => (by rw [hgd] at h; cases h), ?_⟩
  have e4 : a.eval (.tmp 9) = .agg #[.int .i64 s, .int .i64 lo, .int .i64 hi] := haft 4 (op_at ho (fun o => o.after.any fun e => decide (e.on = 4) && Region.binds .any e) (x := true) (by kernel_rfl))
  exact specs_value (R := withS W0 p A' n' c' ds s lo hi 5) (v := .slice (some ⟨W.heap.size, 0, none⟩) 1 1) (W' := W.alloc (.cells #[.int .i64 s, .int .i64 lo, .int .i64 hi] 62)) (by simp [execOp, hop, go_sem, ev e4]) ⟨_, rfl, row_last _ _ _ rfl⟩ ((Below.refl _ W).alloc (Nat.le_refl _) _)
end

/-- A bath with one drop more, in memory that has grown. -/
def WithPost (Wd : Int) (A : Option Addr) (n c : Nat) (n' : Nat) (ss : List (Int × Int)) (ds : List (Int × Int × Int)) (d : Int × Int × Int) (w : World) (e : Ending) (w' : World) : Prop :=
  ∃ g cap, e = .returned (.agg #[.int .i64 Wd, .slice A n c, .slice (some ⟨g, 0, none⟩) (n' + 1) cap]) ∧ Ext w w' ∧ IsBath w' w'.heap.size A n c (some ⟨g, 0, none⟩) (n' + 1) cap ss (ds ++ [d])

set_option maxRecDepth 100000 in
set_option maxHeartbeats 4000000 in
theorem with_any (s lo hi : Int) (hb : IsBath w w.heap.size A n c A' n' c' ss ds) (h40 : n' ≤ 1000) :
    Calls Try.prog 47 #[.agg #[.int .i64 Wd, .slice A n c, .slice A' n' c'], .agg #[.int .i64 s, .int .i64 lo, .int .i64 hi]] w (WithPost Wd A n c n' ss ds (s, lo, hi) w) := by
  go_enter Try.func47, Try.ntmps47
  go_wp2_with fail
  obtain ⟨W, hW⟩ : ∃ W, ((w.alloc (.cells #[.int .i64 Wd, .slice A n c, .slice A' n' c'] 25)).alloc (.cells #[.int .i64 s, .int .i64 lo, .int .i64 hi] 62)).alloc (.cells #[.int .i64 0, .slice none 0 0, .slice none 0 0] 25) = W := ⟨_, rfl⟩
  have hE : Ext w W := by rw [← hW]; exact ((ext_alloc _ _).trans (ext_alloc _ _)).trans (ext_alloc _ _)
  have hr0 : W.heap[w.heap.size]? = some (.cells #[.int .i64 Wd, .slice A n c, .slice A' n' c'] 25 (0, 0)) := by rw [← hW]; exact row_alloc _ _ _ _ (row_alloc _ _ _ _ (row_last _ _ _ rfl))
  have hr1 : W.heap[w.heap.size + 1]? = some (.cells #[.int .i64 s, .int .i64 lo, .int .i64 hi] 62 (0, 0)) := by rw [← hW]; exact row_alloc _ _ _ _ (row_last _ _ _ (by simp))
  have hr2 : W.heap[w.heap.size + 2]? = some (.cells #[.int .i64 0, .slice none 0 0, .slice none 0 0] 25 (0, 0)) := by rw [← hW]; exact row_last _ _ _ (by simp)
  have hz : w.heap.size + 3 ≤ W.heap.size := by rw [← hW]; simp
  rw [hW]
  clear hW
  have hsrc : Held W W.heap.size 3 encD A' ds := hb.hds.ext hE
  refine wp_region_specs_sink (ops := withReg) 6 (withS W w.heap.size A' n' c' ds s lo hi) (Ext W) (by kernel_rfl) (by kernel_rfl) (by kernel_rfl) ⟨rfl, rfl, rfl, Nat.le_refl _, fun _ _ => rfl⟩ (fun _ _ h e => h.trans e) (withS_ext W w.heap.size A' n' c' ds s lo hi) (fun k => 5 + k) (by kernel_rfl) ?_ ?_
  · intro k o hk ho a V hB hsz hold haft
    match k, hk with
    | 0, _ => exact with_op0 ho hB
    | 1, _ => exact with_op1 (hold 2 (by kernel_rfl)) ho
    | 2, _ => exact with_op2 hr0 ho hB haft
    | 3, _ => exact with_op3 hsrc hb.nds h40 ho hB haft
    | 4, _ => exact with_op4 (hold 3 (by kernel_rfl)) hr1 ho hB
    | 5, _ => exact with_op5 ho haft
    | m + 6, h => exact absurd h (by omega)
  · intro a V hB hsz hdf hold hS
    obtain ⟨g1, cap1, e3, hg1, hown⟩ : ∃ g cap, a.eval (.tmp 8) = .slice (some ⟨g, 0, none⟩) n' cap ∧ W.heap.size ≤ g ∧ V.ownsRow W.heap.size 62 3 (.slice (some ⟨g, 0, none⟩) n' cap) n' (ds.flatMap encD) := hS 3 (by omega)
    obtain ⟨g2, e5, hnew⟩ : ∃ g, a.eval (.tmp 10) = .slice (some ⟨g, 0, none⟩) 1 1 ∧ V.heap[g]? = some (.cells #[.int .i64 s, .int .i64 lo, .int .i64 hi] 62 (0, 0)) := hS 5 (by omega)
    have e2 : a.eval (.tmp 2) = .pointer (some ⟨w.heap.size, 0, none⟩) := (hold 2 (by kernel_rfl)).trans rfl
    have e4 : a.eval (.tmp 4) = .pointer (some ⟨w.heap.size + 2, 0, none⟩) := (hold 4 (by kernel_rfl)).trans rfl
    have hlen : a.tmps.size = 14 := hsz
    obtain ⟨o6, o7, o8, hdr, h6, h7, h8⟩ : ∃ o6 o7 o8, withReg.toList.drop 6 = [o6, o7, o8] ∧ withReg[6]? = some o6 ∧ withReg[7]? = some o7 ∧ withReg[8]? = some o8 := by
      have hs : withReg.size = 9 := by kernel_rfl
      refine ⟨withReg[6], withReg[7], withReg[8], ?_, Array.getElem?_eq_getElem _, Array.getElem?_eq_getElem _, Array.getElem?_eq_getElem _⟩
      rw [List.drop_eq_getElem_cons (by simp [hs]), List.drop_eq_getElem_cons (by simp [hs]), List.drop_eq_getElem_cons (by simp [hs]), List.drop_eq_nil_of_le (by simp [hs])]
      simp
    rw [hdr]
    refine wpList_tail (op_at h6 (·.guard) (x := none) (by kernel_rfl)) (step_with2 (w0 := W) (W1 := V) (E := True) (op_at h6 (·.guard) (x := none) (by kernel_rfl)) (op_at h6 (·.op) (by kernel_rfl)) g2 e3 e5 hown (Ext.refl V) hB hnew hg1 h40 ?_)
    intro g3 cap3 V3 hown3 hE3
    rw [show o6.dst = some 11 from op_at h6 (·.dst) (by kernel_rfl)]
    obtain ⟨a6, ha6⟩ : ∃ a6, a.put (some 11) (.slice (some ⟨g3, 0, none⟩) (n' + 1) cap3) = a6 := ⟨_, rfl⟩
    have e2b : a6.eval (.tmp 2) = .pointer (some ⟨w.heap.size, 0, none⟩) := by rw [← ha6]; exact (eval_put_other (by decide)).trans e2
    have e11a : a6.eval (.tmp 11) = .slice (some ⟨g3, 0, none⟩) (n' + 1) cap3 := by rw [← ha6]; exact eval_put_same (d := 11) (by rw [hlen]; decide)
    have hlen6 : a6.tmps.size = 14 := by rw [← ha6]; simp [Act.put, hlen]
    rw [ha6]
    refine wpList_value (v := .pointer (some ⟨w.heap.size, 2, none⟩)) (w' := V3) (op_at h7 (·.guard) (x := none) (by kernel_rfl)) (by simp [execOp, show o7.op = .fieldAddr 25 (.tmp 2) 2 from op_at h7 (·.op) (by kernel_rfl), go_sem, ev e2b]) ?_
    rw [show o7.dst = some 12 from op_at h7 (·.dst) (by kernel_rfl)]
    obtain ⟨a7, ha7⟩ : ∃ a7, a6.put (some 12) (.pointer (some ⟨w.heap.size, 2, none⟩)) = a7 := ⟨_, rfl⟩
    have e11 : a7.eval (.tmp 11) = .slice (some ⟨g3, 0, none⟩) (n' + 1) cap3 := by rw [← ha7]; exact (eval_put_other (by decide)).trans e11a
    have e12 : a7.eval (.tmp 12) = .pointer (some ⟨w.heap.size, 2, none⟩) := by rw [← ha7]; exact eval_put_same (d := 12) (by rw [hlen6]; decide)
    rw [ha7]
    have hrA := row_ext hr0 hE3
    have fz : V3.frozen? ⟨w.heap.size, 2, none⟩ = false := by simp [World.frozen?, hrA]
    have hcA : V3.cell? ⟨w.heap.size, 2, none⟩ = some (.slice A' n' c') := cell_of_row _ _ _ _ _ _ hrA
    refine wpList_skip (w' := V3.setCell ⟨w.heap.size, 2, none⟩ (.slice (some ⟨g3, 0, none⟩) (n' + 1) cap3)) (op_at h8 (·.guard) (x := none) (by kernel_rfl)) (by simp [execOp, show o8.op = .store 23 (.tmp 12) (.tmp 11) from op_at h8 (·.op) (by kernel_rfl), go_sem, ev e11, ev e12, fz, hcA]) ?_
    rw [show o8.dst = none from op_at h8 (·.dst) (by kernel_rfl), ← ha7, ← ha6]
    obtain ⟨g0, e0, _⟩ : ∃ g, a.eval (.tmp 5) = .slice (some ⟨g, 0, none⟩) 0 0 ∧ W.heap.size ≤ g ∧ V.heap[g]? = some (.cells #[] 62 (0, 0)) := hS 0 (by omega)
    have hall : ∀ x, x ∈ ([(5, .slice (some ⟨g0, 0, none⟩) 0 0), (6, .pointer (some ⟨w.heap.size, 2, none⟩)), (7, .slice A' n' c'), (8, .slice (some ⟨g1, 0, none⟩) n' cap1), (9, .agg #[.int .i64 s, .int .i64 lo, .int .i64 hi]), (10, .slice (some ⟨g2, 0, none⟩) 1 1)] : List (Tmp × Value)) → x.1 < 14 ∧ a.eval (.tmp x.1) = x.2 := by
      intro x hx
      simp only [List.mem_cons, List.not_mem_nil, or_false] at hx
      rcases hx with rfl | rfl | rfl | rfl | rfl | rfl
      · exact ⟨(show (5 : Nat) < 14 by omega), e0⟩
      · exact ⟨(show (6 : Nat) < 14 by omega), hS 1 (by omega)⟩
      · exact ⟨(show (7 : Nat) < 14 by omega), hS 2 (by omega)⟩
      · exact ⟨(show (8 : Nat) < 14 by omega), e3⟩
      · exact ⟨(show (9 : Nat) < 14 by omega), hS 4 (by omega)⟩
      · exact ⟨(show (10 : Nat) < 14 by omega), e5⟩
    have ha := act_puts hsz hdf hall (fun t ht => hold t (all_ne_of (l := [(5, .slice (some ⟨g0, 0, none⟩) 0 0), (6, .pointer (some ⟨w.heap.size, 2, none⟩)), (7, .slice A' n' c'), (8, .slice (some ⟨g1, 0, none⟩) n' cap1), (9, .agg #[.int .i64 s, .int .i64 lo, .int .i64 hi]), (10, .slice (some ⟨g2, 0, none⟩) 1 1)]) (by kernel_rfl) ht))
    have hrB : (V3.setCell ⟨w.heap.size, 2, none⟩ (.slice (some ⟨g3, 0, none⟩) (n' + 1) cap3)).heap[w.heap.size]? = some (.cells #[.int .i64 Wd, .slice A n c, .slice (some ⟨g3, 0, none⟩) (n' + 1) cap3] 25 (0, 0)) := by simp [World.setCell, Array.getElem?_modify, hrA]
    have hrC : (V3.setCell ⟨w.heap.size, 2, none⟩ (.slice (some ⟨g3, 0, none⟩) (n' + 1) cap3)).heap[w.heap.size + 2]? = some (.cells #[.int .i64 0, .slice none 0 0, .slice none 0 0] 25 (0, 0)) := by simp [World.setCell, Array.getElem?_modify, row_ext hr2 hE3]
    have hEY : Below w.heap.size w (V3.setCell ⟨w.heap.size, 2, none⟩ (.slice (some ⟨g3, 0, none⟩) (n' + 1) cap3)) := Below.setCell (hE.trans hE3) (p := ⟨w.heap.size, 2, none⟩) (Nat.le_refl _) _
    have hoY : (V3.setCell ⟨w.heap.size, 2, none⟩ (.slice (some ⟨g3, 0, none⟩) (n' + 1) cap3)).ownsRow W.heap.size 62 3 (.slice (some ⟨g3, 0, none⟩) (n' + 1) cap3) (n' + 1) ((ds ++ [(s, lo, hi)]).flatMap encD) := owns_far hown3 fun k hk => by
      simp only [World.setCell, Array.getElem?_modify]
      rw [if_neg (by omega)]
    obtain ⟨Y, hY⟩ : ∃ Y, V3.setCell ⟨w.heap.size, 2, none⟩ (.slice (some ⟨g3, 0, none⟩) (n' + 1) cap3) = Y := ⟨_, rfl⟩
    rw [hY] at hrB hrC hEY hoY ⊢
    have y0 := cell_of_row _ _ 0 _ _ _ hrB
    have y1 := cell_of_row _ _ 1 _ _ _ hrB
    have y2 := cell_of_row _ _ 2 _ _ _ hrB
    simp at y0 y1 y2
    clear hY hown hown3 hr0 hr1 hr2 hall hS hold hsz hdf e0 e2 e3 e4 e5 e2b e11a e11 e12 ha6 ha7 hlen6 hrA fz hcA hnew hE3 hB hsrc
    rw [ha]
    clear ha hlen
    simp only [wpList, Exit.then, puts, List.foldl_cons, List.foldl_nil, Act.put, List.setIfInBounds_toArray, List.set_cons_succ, List.set_cons_zero]
    go_at_K
    go_wp2_with (refine wpList_store_row rfl 25 (.tmp 4) (.tmp 13) rfl (w.heap.size + 2) _ rfl rfl 25 _ hrC (by kernel_rfl) rfl (by simp [Value.oneCell']) ?_)
    refine bodyPost_ret (v := .agg #[.int .i64 Wd, .slice A n c, .slice (some ⟨g3, 0, none⟩) (n' + 1) cap3]) (results_row 25 rfl _ _ (w.heap.size + 2) _ rfl (run_loadVar_row (P := Try.prog) _ _ 25 25 _ (0, 0) _ (row_setRow _ _ _ _ _ _ hrC) Try.underlying25 rfl (by kernel_rfl))) rfl ⟨g3, cap3, rfl, below_setRow hEY (by omega) _, ?_⟩
    have hZ := held_of_owns (owns_far hoY (Z := Y.setRow (w.heap.size + 2) #[.int .i64 Wd, .slice A n c, .slice (some ⟨g3, 0, none⟩) (n' + 1) cap3]) fun k hk => by
      simp only [World.setRow, Array.getElem?_modify]
      rw [if_neg (by omega)])
    have hEZ : Ext w (Y.setRow (w.heap.size + 2) #[.int .i64 Wd, .slice A n c, .slice (some ⟨g3, 0, none⟩) (n' + 1) cap3]) := below_setRow hEY (by omega) _
    exact ⟨hb.nss, by rw [List.length_append, ← hb.nds]; rfl, hb.nle, by omega, hb.cap, hZ.2, hb.hss.ext hEZ, hZ.1⟩
end
end Go.Proofs.Ytckndnaohggmhaa

/- The reference's Room: where one more drop begins to be too much; a bath with one drop more. -/
namespace Go.Proofs.Ytckndnaohggmhaa
open Go.RowKit Go.Shelf

theorem sizes_add (ds : List (Int × Int × Int)) (s : Nat) (k : Int) : sizes (ds ++ [((s : Int), k, k)]) = plus (sizes ds) s k := by
  funext m
  unfold sizes plus
  rw [List.foldl_append]
  show addTo m _ _ = _
  unfold addTo
  by_cases h : m = s
  · subst h; simp
  · have : ¬ ((s : Int) = m) := by omega
    simp [h, this]

theorem few_add {Wd : Int} {ss : List (Int × Int)} {ds : List (Int × Int × Int)} (h : bathErr Wd ss ds = 0) (s : Nat) (k : Int) (hs : s < ss.length) (h1 : 1 ≤ k) (h2 : k ≤ 10000) : Few Wd ss (ds ++ [((s : Int), k, k)]) := by
  obtain ⟨a, b, c, _, d⟩ := bath_ok h
  refine ⟨a, ⟨b.1, by simp; omega⟩, c, ?_⟩
  rw [List.all_append, d]
  simp [dropOk, inside]
  omega

theorem begins_of {p : Nat → Bool} {n r : Nat} (hm : ∀ a b, a ≤ b → b < n → p a = true → p b = true) (h1 : r ≤ n) (h2 : r = 0 ∨ p (r - 1) = false) (h3 : r = n ∨ p r = true) : Begins p n r := by
  refine ⟨h1, fun k hk => ?_, fun k hk hn => ?_⟩
  · rcases h2 with h2 | h2
    · omega
    · cases hp : p k with
      | false => rfl
      | true => rw [hm k (r - 1) (by omega) (by omega) hp] at h2; cases h2
  · rcases h3 with h3 | h3
    · omega
    · exact hm r k hk hn h3

theorem begins_first {p : Nat → Bool} {n r : Nat} (h : Begins p n r) : r = (List.range n).findIdx p := by
  obtain ⟨h1, h2, h3⟩ := h
  rcases Nat.lt_or_ge r n with hlt | hge
  · symm
    exact findIdx_hit p (List.range n) r (by simpa using hlt) (fun j hj => by simpa using h2 j hj) (by simpa using h3 r (Nat.le_refl _) hlt)
  · have e : r = n := by omega
    subst e
    have := findIdx_miss p (List.range r) (fun j hj => by simpa using h2 j (by simpa using hj))
    rw [this]
    simp

/-- What Room answers. -/
def roomAns (Wd : Int) (ss : List (Int × Int)) (ds : List (Int × Int × Int)) (spot : Int) : Int × Int :=
  if bathErr Wd ss ds = 0 then
    if (decide (0 ≤ spot) && decide (spot < (ss.length : Int))) = true then
      if freeB Wd ss (sizes ds) ss.length spot = true then ((((List.range 10000).findIdx (tooFar Wd ss (sizes ds) ss.length spot.toNat) : Nat) : Int), 0) else (0, 10)
    else (0, 2)
  else (0, bathErr Wd ss ds)

theorem roomIs_ans {Wd : Int} {ss : List (Int × Int)} {ds : List (Int × Int × Int)} {spot : Int} {e : Ending} (h : RoomIs Wd ss ds spot e) : e = .returned (.tuple #[.int .i64 (roomAns Wd ss ds spot).1, .int .i64 (roomAns Wd ss ds spot).2]) := by
  unfold RoomIs at h
  unfold roomAns
  split at h
  · rename_i h1
    rw [if_pos h1]
    split at h
    · rename_i h2
      rw [if_pos h2]
      split at h
      · rename_i h3
        rw [if_pos h3]
        obtain ⟨r, rfl, hr⟩ := h
        rw [begins_first hr]
      · rename_i h3
        rw [if_neg h3]
        exact h
    · rename_i h2
      rw [if_neg h2]
      exact h
  · rename_i h1
    rw [if_neg h1]
    exact h

section
variable {w : World} {Wd : Int} {A : Option Addr} {n c : Nat} {A' : Option Addr} {n' c' : Nat} {ss : List (Int × Int)} {ds : List (Int × Int × Int)}

theorem room_prog (spot : Int) (hb : IsBath w w.heap.size A n c A' n' c' ss ds) :
    Calls Try.prog 27 #[.agg #[.int .i64 Wd, .slice A n c, .slice A' n' c'], .int .i64 spot] w fun e w' => e = .returned (.tuple #[.int .i64 (roomAns Wd ss ds spot).1, .int .i64 (roomAns Wd ss ds spot).2]) ∧ Ext w w' := by
  refine (room_any (Wd := Wd) spot hb).mono ?_
  rintro e w' ⟨h, hB⟩
  exact ⟨roomIs_ans h, hB⟩

end
end Go.Proofs.Ytckndnaohggmhaa

/- The reference's Room: the walk. -/
namespace Go.Proofs.Ytckndnaohggmhaa
open Go.RowKit Go.Shelf

section
variable {w : World} {Wd : Int} {A : Option Addr} {n c : Nat} {A' : Option Addr} {n' c' : Nat} {ss : List (Int × Int)} {ds : List (Int × Int × Int)}

/-- What the halving has found: g is not too much, b is. -/
def Halved (T : Nat → Bool) (g b : Nat) : Prop := g < b ∧ b ≤ 10001 ∧ (g = 0 ∨ T (g - 1) = false) ∧ (b = 10001 ∨ T (b - 1) = true)

theorem room_of {s : Nat} (he : bathErr Wd ss ds = 0) (hs : s < ss.length) (hf : freeB Wd ss (sizes ds) ss.length (s : Int) = true) {g : Nat} (h : Halved (tooFar Wd ss (sizes ds) ss.length s) g (g + 1)) : roomAns Wd ss ds (s : Int) = ((g : Int), 0) := by
  have hbd0 : ∀ m, 0 ≤ (sizes ds m).1 ∧ 0 ≤ (sizes ds m).2 := fun m => by have := sizes_bd' he ds.length m; rw [List.take_length] at this; omega
  have hB : Begins (tooFar Wd ss (sizes ds) ss.length s) 10000 g := begins_of (fun a b hab _ => tooFar_mono Wd ss (sizes ds) ss.length s hbd0 a b hab) (by have := h.2.1; omega) h.2.2.1 (by
    rcases h.2.2.2 with h | h
    · exact .inl (by omega)
    · exact .inr (by simpa using h))
  unfold roomAns
  rw [if_pos he, if_pos (by simp; omega), if_pos hf, Int.toNat_natCast, ← begins_first hB]

set_option maxRecDepth 100000 in
set_option maxHeartbeats 2000000 in
theorem room_ref (x : Int) (hb : IsBath w w.heap.size A n c A' n' c' ss ds) :
    Calls Try.prog 28 #[.agg #[.int .i64 Wd, .slice A n c, .slice A' n' c'], .int .i64 x] w fun e w' => e = .returned (.tuple #[.int .i64 (roomAns Wd ss ds x).1, .int .i64 (roomAns Wd ss ds x).2]) ∧ Ext w w' := by
  have cB : ∀ W : World, IsBath W W.heap.size A n c A' n' c' ss ds → _ := fun W h => checkBath_ref (Wd := Wd) h
  have hX0 : BathAt (w.alloc (.cells #[.int .i64 Wd, .slice A n c, .slice A' n' c'] 25)) w.heap.size Wd A n c A' n' c' ss ds := BathAt.new hb
  have hE0 : Ext w (w.alloc (.cells #[.int .i64 Wd, .slice A n c, .slice A' n' c'] 25)) := ext_alloc w _
  have hnn := hb.nss
  by_cases he : bathErr Wd ss ds = 0
  · have hn40 : n' ≤ 40 := by have := (bath_ok he).2.1.2; have := hb.nds; omega
    rw [he] at cB
    by_cases hsp : 0 ≤ x ∧ x < (n : Int)
    · obtain ⟨i, rfl⟩ := Int.eq_ofNat_of_zero_le hsp.1
      have cS := fun W : World => isSpot_ref (Wd := Wd) (A := A) (n := n) (c := c) (A' := A') (n' := n') (c' := c') (i : Int) W
      rw [show (decide (0 ≤ (i : Int)) && decide ((i : Int) < (n : Int))) = true from by simpa using hsp] at cS
      have hi : i < n := by omega
      have hsd : (decide (0 ≤ (i : Int)) && decide ((i : Int) < (ss.length : Int))) = true := by rw [← hnn]; simpa using hsp
      have cA : ∀ W : World, IsBath W W.heap.size A n c A' n' c' ss ds → _ := fun W h => alone_ref (Wd := Wd) i (bath_few he) h hi
      cases hf : freeB Wd ss (sizes ds) n (i : Int) with
      | false =>
        have ha : roomAns Wd ss ds (i : Int) = (0, 10) := by
          unfold roomAns
          rw [if_pos he, if_pos hsd, if_neg (by rw [← hnn, hf]; simp)]
        rw [ha]
        rw [hf] at cA
        clear ha hf hsd hsp hi he hnn hb
        go_enter Try.func28, Try.ntmps28
        go_wp2_with fail
        refine (cB _ hX0.bath).mono ?_
        rintro e w1 ⟨rfl, hb1⟩
        have hX1 := hX0.ext hb1
        have hE1 := hE0.trans hb1
        clear hX0 hE0 hb1
        obtain ⟨q0, q1, q2⟩ := hX1.cells
        go_wp2_with fail
        refine (cS _).mono ?_
        rintro e w2 ⟨rfl, hb2⟩
        have hX2 := hX1.ext hb2
        have hE2 := Lib.hid (hE1.trans hb2)
        clear hX1 hE1 hb2 q0 q1 q2 cB cS
        obtain ⟨q0, q1, q2⟩ := hX2.cells
        go_wp2_with fail
        refine (cA _ hX2.bath).mono ?_
        rintro e w3 ⟨rfl, hb3⟩
        go_wp2
        go_ret2
        exact ⟨rfl, hE2.out.trans hb3⟩
      | true =>
        have hroom : ∀ g, Halved (tooFar Wd ss (sizes ds) n i) g (g + 1) → roomAns Wd ss ds (i : Int) = ((g : Int), 0) := fun g h => room_of he (by omega) (by rw [← hnn]; exact hf) (by rw [← hnn]; exact h)
        have cF : ∀ (k : Nat), 1 ≤ k → k ≤ 10000 → ∀ (W : World) (A2 : Option Addr) (m cap : Nat), IsBath W W.heap.size A n c A2 m cap ss (ds ++ [((i : Int), (k : Int), (k : Int))]) → Calls Try.prog 48 #[.agg #[.int .i64 Wd, .slice A n c, .slice A2 m cap], .int .i64 (i : Int)] W fun e w' => e = .returned (.bool (!tooFar Wd ss (sizes ds) n i (k - 1))) ∧ Ext W w' := fun k h1 h2 W A2 m cap h => by
          have := alone_ref (Wd := Wd) i (few_add he i (k : Int) (by omega) (by omega) (by omega)) h hi
          rw [sizes_add] at this
          unfold tooFar
          rw [show (((k - 1 : Nat) : Int) + 1) = (k : Int) from by omega, Bool.not_not]
          exact this
        have cW : ∀ (k : Int) (W : World), IsBath W W.heap.size A n c A' n' c' ss ds → _ := fun k W h => with_any (Wd := Wd) (i : Int) k k h (by omega)
        obtain ⟨ans, hans⟩ : ∃ ans, roomAns Wd ss ds (i : Int) = ans := ⟨_, rfl⟩
        rw [hans] at hroom ⊢
        rw [hf] at cA
        obtain ⟨T, hT⟩ : ∃ T, tooFar Wd ss (sizes ds) n i = T := ⟨_, rfl⟩
        rw [hT] at hroom cF
        have CF := Lib.hid cF
        have CW := Lib.hid cW
        have HROOM := Lib.hid hroom
        clear hans hf hsd hsp hi he hnn hb hT cF cW hroom
        go_enter Try.func28, Try.ntmps28
        go_wp2_with fail
        refine (cB _ hX0.bath).mono ?_
        rintro e w1 ⟨rfl, hb1⟩
        have hX1 := hX0.ext hb1
        have hE1 := hE0.trans hb1
        clear hX0 hE0 hb1
        obtain ⟨q0, q1, q2⟩ := hX1.cells
        go_wp2_with fail
        refine (cS _).mono ?_
        rintro e w2 ⟨rfl, hb2⟩
        have hX2 := hX1.ext hb2
        have hE2 := hE1.trans hb2
        clear hX1 hE1 hb2 q0 q1 q2 cB cS
        obtain ⟨q0, q1, q2⟩ := hX2.cells
        go_wp2_with fail
        refine (cA _ hX2.bath).mono ?_
        rintro e w3 ⟨rfl, hb3⟩
        have HX3 := Lib.hid (hX2.ext hb3)
        have hE3 := Lib.hid (hE2.trans hb3)
        clear hX2 hE2 hb3 q0 q1 q2 cA
        go_wp2
        go_loopw [6, 7, 8] (fun i j _ wr => ∃ a b : Nat, i = .int .i64 a ∧ j = .int .i64 b ∧ Hid (Halved T a b) ∧ Hid (Ext w3 wr)) (fun i j _ _ => (intOf j).toNat - (intOf i).toNat)
        case atStart => exact ⟨0, 10001, rfl, rfl, Lib.hid ⟨by omega, by omega, .inl rfl, .inl rfl⟩, Lib.hid (Ext.refl _)⟩
        case round =>
          obtain ⟨a, b, rfl, rfl, hH, hB⟩ := hrel
          have hab := hH.out.1
          have hb1 := hH.out.2.1
          have hx := HX3.out.ext hB.out
          obtain ⟨q0, q1, q2⟩ := hx.cells
          by_cases hlt : a + 1 < b
          · have hltz : (a : Int) + 1 < b := by omega
            obtain ⟨k, hk⟩ : ∃ k, (a + b) / 2 = k := ⟨_, rfl⟩
            have h1 : a < k := by omega
            have h2 : k < b := by omega
            have hz : ((a : Int) + b) / 2 = k := by omega
            have c1 := CW.out (k : Int) wr hx.bath
            have c2 := fun (W : World) A2 m cap h => CF.out k (by omega) (by omega) W A2 m cap h
            have HZ := Lib.hid hz
            clear hk hz
            cases hq : T (k - 1) with
            | true =>
              rw [hq] at c2
              have HQ : Hid (Halved T a k) := Lib.hid ⟨h1, by omega, hH.out.2.2.1, .inr hq⟩
              clear hq
              have hz := HZ.out
              go_wp2_with fail
              refine c1.mono ?_
              rintro e w4 ⟨g, cap, rfl, e4, b4⟩
              clear hx q0 q1 q2 c1
              go_wp2_with fail
              refine (c2 _ _ _ _ b4).mono ?_
              rintro e w5 ⟨rfl, e5⟩
              have HE := Lib.hid (hB.out.trans (e4.trans e5))
              clear e4 e5 b4 c2
              go_wp2
              go_roundw
              case measure => simp [intOf]; omega
              case rel => exact ⟨a, k, rfl, rfl, HQ, HE⟩
            | false =>
              rw [hq] at c2
              have HQ : Hid (Halved T k b) := Lib.hid ⟨h2, by omega, .inr hq, hH.out.2.2.2⟩
              clear hq
              have hz := HZ.out
              go_wp2_with fail
              refine c1.mono ?_
              rintro e w4 ⟨g, cap, rfl, e4, b4⟩
              clear hx q0 q1 q2 c1
              go_wp2_with fail
              refine (c2 _ _ _ _ b4).mono ?_
              rintro e w5 ⟨rfl, e5⟩
              have HE := Lib.hid (hB.out.trans (e4.trans e5))
              clear e4 e5 b4 c2
              go_wp2
              go_roundw
              case measure => simp [intOf]; omega
              case rel => exact ⟨k, b, rfl, rfl, HQ, HE⟩
          · have hltz : ¬ (a : Int) + 1 < b := by omega
            obtain rfl : b = a + 1 := by omega
            have ha := HROOM.out a hH.out
            subst ha
            clear hx q0 q1 q2
            go_wp2
            go_ret2
            exact ⟨rfl, hE3.out.trans hB.out⟩
    · have ha : roomAns Wd ss ds x = (0, 2) := by
        unfold roomAns
        rw [if_pos he, if_neg (by rw [← hnn]; simpa using hsp)]
      rw [ha]
      have cS := fun W : World => isSpot_ref (Wd := Wd) (A := A) (n := n) (c := c) (A' := A') (n' := n') (c' := c') x W
      rw [show (decide (0 ≤ x) && decide (x < (n : Int))) = false from by simp; omega] at cS
      clear ha hsp he hnn hb
      go_enter Try.func28, Try.ntmps28
      go_wp2_with fail
      refine (cB _ hX0.bath).mono ?_
      rintro e w1 ⟨rfl, hb1⟩
      have hX1 := hX0.ext hb1
      have hE1 := Lib.hid (hE0.trans hb1)
      clear hX0 hE0 hb1
      obtain ⟨q0, q1, q2⟩ := hX1.cells
      go_wp2_with fail
      refine (cS _).mono ?_
      rintro e w2 ⟨rfl, hb2⟩
      go_wp2
      go_ret2
      exact ⟨rfl, hE1.out.trans hb2⟩
  · have ha : roomAns Wd ss ds x = (0, bathErr Wd ss ds) := by unfold roomAns; rw [if_neg he]
    rw [ha]
    generalize bathErr Wd ss ds = r at he cB ⊢
    have hne2 : (r != 0) = true := by simpa using he
    clear ha hnn hb
    go_enter Try.func28, Try.ntmps28
    go_wp2_with fail
    refine (cB _ hX0.bath).mono ?_
    rintro e w1 ⟨rfl, hb1⟩
    have hX1 := hX0.ext hb1
    have hE1 := Lib.hid (hE0.trans hb1)
    clear hX0 hE0 hb1
    obtain ⟨q0, q1, q2⟩ := hX1.cells
    go_wp2_with fail
    refine (cB _ hX1.bath).mono ?_
    rintro e w2 ⟨rfl, hb2⟩
    go_wp2
    go_ret2
    exact ⟨rfl, hE1.out.trans hb2⟩
end
end Go.Proofs.Ytckndnaohggmhaa
