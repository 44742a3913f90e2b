import Derived.Test.YtmlmnljbegcjcaaGreatC17
import Derived.ArgAppend
/- The reference's Without: the list without one order, laid anew. -/
namespace Go.Proofs.YtmlmnljbegcjcaaGreat
section
open Go.RowKit Go.Shelf
attribute [local irreducible] bitCells

theorem wpList_more {P : Program} {ops : Array Oper} {Q : Exit → Act → World → Prop} {rest : List Oper} {o : Oper} {a : Act} {w w' : World} {v : Value} (hgd : o.guard = none) (hr : (execOp a.eval o).run P w = .ok (.value v) w')
    (h : wpList P ops Q rest (a.put o.dst v) w') : wpList P ops Q (o :: rest) a w := by
  simp only [wpList]
  rw [if_pos (by simp [Region.wanted, hgd])]
  left
  unfold Oper.wp
  rw [hr]
  exact h
theorem info56c : (Tryz.prog.info? 56).map (fun i => (i.zero, i.size, i.bytes)) = some (some (.agg #[.int .i64 0, .int .i64 0, .int .i64 0, .int .i64 0, .int .i64 0]), 5, 40) := by kernel_rfl
theorem u22c : Tryz.prog.underlying 22 = some (.slice 56) := by kernel_rfl
theorem u22d : Tryz.prog.underlying 22 = some (.slice (Tryz.prog.elem 22)) := by kernel_rfl
theorem e22 : Tryz.prog.elem 22 = 56 := by kernel_rfl
theorem run_slice22h (w : World) (b o n c k : Nat) (hk : k ≤ c) :
    (Instr.sliceAt 22 (.slice (some ⟨b, o, none⟩) n c) none (some (.int .i64 (k : Int))) none).run Tryz.prog w = .ok (.slice (some ⟨b, o, none⟩) k c) w := by
  obtain ⟨i, hi, hz, hs, hb⟩ := info_parts info56c
  rw [run_sliceAt_slice _ _ _ _ _ _ u22d, run_slice_h _ _ _ _ _ u22d _ _ (by omega) (by omega), e22]
  simp [sizeOf, typeInfo, hi, hs, Result.andThen, sliced, Addr.add_lit]
theorem run_slice22l (w : World) (b o n c k : Nat) (hk : k ≤ n) (hc : n ≤ c) :
    ∃ o2, (k < n → o2 = o + k * 5) ∧ (Instr.sliceAt 22 (.slice (some ⟨b, o, none⟩) n c) (some (.int .i64 (k : Int))) none none).run Tryz.prog w = .ok (.slice (some ⟨b, o2, none⟩) (n - k) (c - k)) w := by
  obtain ⟨i, hi, hz, hs, hb⟩ := info_parts info56c
  rw [run_sliceAt_slice _ _ _ _ _ _ u22d, run_slice_l _ _ _ _ _ u22d _ _ (by omega) (by omega), e22]
  by_cases h : c = k
  · exact ⟨o, fun h2 => by omega, by simp [sizeOf, typeInfo, hi, hs, Result.andThen, sliced, h]⟩
  · exact ⟨o + k * 5, fun _ => rfl, by simp [sizeOf, typeInfo, hi, hs, Result.andThen, sliced, h, Addr.add_lit]⟩
theorem run_append_none22 (W : World) (ty : TypeId) (g n cap : Nat) (a : Addr) (c' : Nat) (hn : n ≤ cap) : (Builtin.append_ #[22, 22] ty #[.slice (some ⟨g, 0, none⟩) n cap, .slice (some a) 0 c']).run Tryz.prog W = .ok (.slice (some ⟨g, 0, none⟩) n cap) W := by
  obtain ⟨i0, hi0, hz0, hz1, hz2⟩ := info_parts info56c
  have := run_append_room_cells (P := Tryz.prog) (w := W) 22 ty 56 i0 u22c hi0 g 0 n cap a 0 c' [] (by simp) (fun j u hu => by simp at hu) (fun u hu => by simp at hu) (by omega) (fun j hj => by simp at hj) (fun j hj => by simp at hj)
  exact this
theorem flatO_get : ∀ (ds : List Odr) (j : Nat), (ds.flatMap encO)[j]? = (ds[j / 5]?).bind fun x => (encO x)[j % 5]? := by
  intro ds
  induction ds with
  | nil => intro j; simp
  | cons x ds ih =>
    intro j
    have hl : (encO x).length = 5 := rfl
    rw [List.flatMap_cons]
    by_cases h : j < 5
    · rw [List.getElem?_append_left (by omega), Nat.div_eq_of_lt h, Nat.mod_eq_of_lt h]
      rfl
    · rw [List.getElem?_append_right (by omega), hl, ih]
      have h1 : j / 5 = (j - 5) / 5 + 1 := by omega
      have h2 : j % 5 = (j - 5) % 5 := by omega
      rw [h1, h2]
      rfl
theorem flatO_len (ds : List Odr) : (ds.flatMap encO).length = ds.length * 5 := by
  induction ds with
  | nil => rfl
  | cons x ds ih => rw [List.flatMap_cons, List.length_append, ih, List.length_cons]; show 5 + _ = _; omega
theorem heldO_flat {W : World} {b off : Nat} {ds : List Odr} (h : ∀ j x, ds[j]? = some x → ∀ i v, (encO x)[i]? = some v → W.cell? ⟨b, off + j * 5 + i, none⟩ = some v) : ∀ j u, (ds.flatMap encO)[j]? = some u → W.cell? ((⟨b, off, none⟩ : Addr).add j) = some u := by
  intro j u hu
  rw [flatO_get, Option.bind_eq_some_iff] at hu
  obtain ⟨x, hx, hu⟩ := hu
  have := h (j / 5) x hx (j % 5) u hu
  rw [Addr.add_lit, show off + j = off + j / 5 * 5 + j % 5 from by omega]
  exact this
theorem takeO_cells {W : World} {b off : Nat} {ds : List Odr} (h : ∀ j u, (ds.flatMap encO)[j]? = some u → W.cell? ((⟨b, off, none⟩ : Addr).add j) = some u) (k : Nat) : ∀ j u, ((ds.take k).flatMap encO)[j]? = some u → W.cell? ((⟨b, off, none⟩ : Addr).add j) = some u := by
  intro j u hu
  refine h j u ?_
  rw [flatO_get] at hu ⊢
  rw [List.getElem?_take] at hu
  split at hu
  · exact hu
  · simp at hu
theorem dropO_cells {W : World} {b off : Nat} {ds : List Odr} (h : ∀ j u, (ds.flatMap encO)[j]? = some u → W.cell? ((⟨b, off, none⟩ : Addr).add j) = some u) (k : Nat) : ∀ j u, ((ds.drop k).flatMap encO)[j]? = some u → W.cell? ((⟨b, off + k * 5, none⟩ : Addr).add j) = some u := by
  intro j u hu
  have := h (k * 5 + j) u (by
    rw [flatO_get] at hu ⊢
    rw [List.getElem?_drop] at hu
    rw [show (k * 5 + j) / 5 = k + j / 5 from by omega, show (k * 5 + j) % 5 = j % 5 from by omega]
    exact hu)
  rw [Addr.add_lit] at this ⊢
  rw [Nat.add_assoc]
  exact this
def wo1D (i : Nat) : Tmp := if i = 0 then 5 else if i = 1 then 6 else if i = 2 then 7 else if i = 3 then 8 else if i = 4 then 9 else if i = 5 then 10 else if i = 6 then 11 else if i = 7 then 12 else 13
def wo1S (b1 o1 n c kk B : Nat) (ms : List Odr) (ix : Nat) (v : Value) (W : World) : Prop :=
  match ix with
  | 0 => ∃ g, v = .slice (some ⟨g, 0, none⟩) 0 0 ∧ B ≤ g ∧ W.heap[g]? = some (.cells #[] 56 (0, 0))
  | 1 => v = .slice (some ⟨b1, o1, none⟩) n c
  | 2 => v = .int .i64 (kk : Int)
  | 3 => v = .slice (some ⟨b1, o1, none⟩) kk c
  | 4 => ∃ g cap, v = .slice (some ⟨g, 0, none⟩) kk cap ∧ B ≤ g ∧ W.ownsRow B 56 5 v kk ((ms.take kk).flatMap encO)
  | 5 => v = .slice (some ⟨b1, o1, none⟩) n c
  | 6 => v = .int .i64 (kk : Int)
  | 7 => v = .int .i64 ((kk + 1 : Nat) : Int)
  | 8 => ∃ o2, v = .slice (some ⟨b1, o2, none⟩) (n - (kk + 1)) (c - (kk + 1)) ∧ (kk + 1 < n → o2 = o1 + (kk + 1) * 5)
  | _ => True
noncomputable def wo1Reg : Array Oper := (Tryz.f47.body.bind (regionOf · 1)).getD #[]
theorem wo1S_ext {b1 o1 n c kk B : Nat} {ms : List Odr} : ∀ (i : Nat) (v : Value) (W W' : World), wo1S b1 o1 n c kk B ms i v W → Below W.heap.size W W' → wo1S b1 o1 n c kk B ms i v W' := by
  intro i v W W' h e
  match i with
  | 0 => (obtain ⟨h1, h2, h3, h4⟩ := h; exact ⟨h1, h2, h3, row_ext h4 e⟩)
  | 1 => exact h
  | 2 => exact h
  | 3 => exact h
  | 4 => (obtain ⟨h1, h2, h3, h4, h5⟩ := h; exact ⟨h1, h2, h3, h4, owns_ext h5 e⟩)
  | 5 => exact h
  | 6 => exact h
  | 7 => exact h
  | 8 => exact h
  | k + 9 => exact trivial
def wo1Ok (b1 o1 n c kk B : Nat) (ms : List Odr) (Q : Exit → Act → World → Prop) (a : Act) (W : World) (ix : Nat) (o : Oper) : Prop :=
  (∀ j b, o.guard = some (j, b) → a.eval (.tmp (wo1D j)) = .bool b) ∧ o.wp Tryz.prog a W (fun a'' W' => ∃ v, a'' = a.put o.dst v ∧ wo1S b1 o1 n c kk B ms ix v W' ∧ Below W.heap.size W W') Q
section
variable {b1 o1 n c kk B : Nat} {ms : List Odr} {Q : Exit → Act → World → Prop} {a : Act} {V W : World} {o : Oper}
set_option maxHeartbeats 1000000 in
theorem wo1_op0 (hVB : B ≤ V.heap.size) (hB : Ext V W) (ho : wo1Reg[0]? = some o) : wo1Ok b1 o1 n c kk B ms Q a W 0 o := by
  have hop := op_at ho (·.op) (x := Op.buildSlice 22 0 #[]) (by kernel_rfl)
  have hgd := op_at ho (·.guard) (x := none) (by kernel_rfl)
  refine ⟨fun j b h => (by rw [hgd] at h; cases h), ?_⟩
  exact specs_value (R := fun v W => wo1S b1 o1 n c kk B ms 0 v W) (v := .slice (some ⟨W.heap.size, 0, none⟩) 0 0) (W' := W.alloc (.cells #[] 56)) (by simp [execOp, hop, go_sem]) ⟨_, rfl, Nat.le_trans hVB hB.size, row_last _ _ _ rfl⟩ (ext_alloc _ _)
set_option maxHeartbeats 1000000 in
theorem wo1_op1 (o0 : a.eval (.tmp 0) = .slice (some ⟨b1, o1, none⟩) n c) (ho : wo1Reg[1]? = some o) : wo1Ok b1 o1 n c kk B ms Q a W 1 o := by
  have hop := op_at ho (·.op) (x := Op.move (Operand.tmp 0)) (by kernel_rfl)
  have hgd := op_at ho (·.guard) (x := none) (by kernel_rfl)
  refine ⟨fun j b h => (by rw [hgd] at h; cases h), ?_⟩
  exact specs_value (R := fun v W => wo1S b1 o1 n c kk B ms 1 v W) (v := .slice (some ⟨b1, o1, none⟩) n c) (by simp [execOp, hop, go_sem, ev o0]) rfl (Ext.refl W)
set_option maxHeartbeats 1000000 in
theorem wo1_op2 (oo1 : a.eval (.tmp 1) = .int .i64 (kk : Int)) (ho : wo1Reg[2]? = some o) : wo1Ok b1 o1 n c kk B ms Q a W 2 o := by
  have hop := op_at ho (·.op) (x := Op.move (Operand.tmp 1)) (by kernel_rfl)
  have hgd := op_at ho (·.guard) (x := none) (by kernel_rfl)
  refine ⟨fun j b h => (by rw [hgd] at h; cases h), ?_⟩
  exact specs_value (R := fun v W => wo1S b1 o1 n c kk B ms 2 v W) (v := .int .i64 (kk : Int)) (by simp [execOp, hop, go_sem, ev oo1]) rfl (Ext.refl W)
set_option maxHeartbeats 1000000 in
theorem wo1_op3 (hkn : kk < n) (hnc : n ≤ c) (haft : ∀ j, (o.after.any fun e => decide (e.on = j) && Region.binds .any e) = true → wo1S b1 o1 n c kk B ms j (a.eval (.tmp (wo1D j))) W) (ho : wo1Reg[3]? = some o) : wo1Ok b1 o1 n c kk B ms Q a W 3 o := by
  have hop := op_at ho (·.op) (x := Op.slice 22 (Operand.tmp 6) none (some (Operand.tmp 7)) none) (by kernel_rfl)
  have hgd := op_at ho (·.guard) (x := none) (by kernel_rfl)
  have e1 : a.eval (.tmp 6) = .slice (some ⟨b1, o1, none⟩) n c := haft 1 (op_at ho (fun o => o.after.any fun e => decide (e.on = 1) && Region.binds .any e) (x := true) (by kernel_rfl))
  have e2 : a.eval (.tmp 7) = .int .i64 (kk : Int) := haft 2 (op_at ho (fun o => o.after.any fun e => decide (e.on = 2) && Region.binds .any e) (x := true) (by kernel_rfl))
  refine ⟨fun j b h => (by rw [hgd] at h; cases h), ?_⟩
  have hs4 := run_slice22h W b1 o1 n c kk (by omega)
  exact specs_value (R := fun v W => wo1S b1 o1 n c kk B ms 3 v W) (v := .slice (some ⟨b1, o1, none⟩) kk c) (by simp [execOp, hop, e1, e2, hs4, Result.andThen]) rfl (Ext.refl W)
set_option maxHeartbeats 1000000 in
theorem wo1_op4 (hn : n = ms.length) (hkn : kk < n) (hn9 : n ≤ 5000) (hVB : B ≤ V.heap.size) (hq : ∀ W, Ext V W → ∀ j u, (ms.flatMap encO)[j]? = some u → W.cell? ((⟨b1, o1, none⟩ : Addr).add j) = some u) (hB : Ext V W) (haft : ∀ j, (o.after.any fun e => decide (e.on = j) && Region.binds .any e) = true → wo1S b1 o1 n c kk B ms j (a.eval (.tmp (wo1D j))) W) (ho : wo1Reg[4]? = some o) : wo1Ok b1 o1 n c kk B ms Q a W 4 o := by
  have hop := op_at ho (·.op) (x := Op.call { callee := Callee.builtin Builtin.append, args := #[Operand.tmp 5, Operand.tmp 8], argTypes := #[22, 22] }) (by kernel_rfl)
  have hgd := op_at ho (·.guard) (x := none) (by kernel_rfl)
  have e0 : wo1S b1 o1 n c kk B ms 0 (a.eval (.tmp 5)) W := haft 0 (op_at ho (fun o => o.after.any fun e => decide (e.on = 0) && Region.binds .any e) (x := true) (by kernel_rfl))
  have e3 : a.eval (.tmp 8) = .slice (some ⟨b1, o1, none⟩) kk c := haft 3 (op_at ho (fun o => o.after.any fun e => decide (e.on = 3) && Region.binds .any e) (x := true) (by kernel_rfl))
  refine ⟨fun j b h => (by rw [hgd] at h; cases h), ?_⟩
  obtain ⟨g, e0v, hBg, e0r⟩ := e0
  obtain ⟨i0, hi, hz0, hz1, hz2⟩ := info_parts info56c
  by_cases hk0 : kk = 0
  · subst hk0
    exact specs_value (R := fun v W => wo1S b1 o1 n c 0 B ms 4 v W) (v := .slice (some ⟨g, 0, none⟩) 0 0) (W' := W) (by simp [execOp, hop, resolve, invoke, builtin, e0v, e3, run_append_none22, Result.andThen]) ⟨g, 0, rfl, hBg, ⟨rfl, .inr ⟨g, 0, #[], rfl, hBg, e0r, Nat.le_refl _, Nat.zero_le _, rfl, rfl⟩⟩⟩ (Ext.refl W)
  · obtain ⟨v', w', hrun, r1, r2⟩ := run_append_arg_grows (P := Tryz.prog) W 22 o.type 56 i0 (.agg #[.int .i64 0, .int .i64 0, .int .i64 0, .int .i64 0, .int .i64 0]) 5 40 u22c hi hz0 hz1 hz2 rfl (by decide) ⟨g, 0, none⟩ 0 0 [] rfl (fun j u hu => by simp at hu) ⟨b1, o1, none⟩ kk c ((ms.take kk).flatMap encO) (by rw [flatO_len, List.length_take, ← hn, Nat.min_eq_left (by omega)]) (takeO_cells (hq W hB) kk) (by omega) (by unfold maxLen; omega) (by omega)
    rw [Nat.zero_add, List.nil_append] at r1
    have r1' := r1
    obtain ⟨g1, cap, hv', hg1, _⟩ := r1'.form (by omega)
    exact specs_value (R := fun v W => wo1S b1 o1 n c kk B ms 4 v W) (v := v') (W' := w') (by simp [execOp, hop, resolve, invoke, builtin, e0v, e3, hrun, Result.andThen]) ⟨g1, cap, hv', Nat.le_trans (Nat.le_trans hVB hB.size) hg1, owns_mono r1 (Nat.le_trans hVB hB.size)⟩ ((Below.refl W.heap.size W).grown r2 (Nat.le_refl _) (fun k e => by cases e))
set_option maxHeartbeats 1000000 in
theorem wo1_op5 (o0 : a.eval (.tmp 0) = .slice (some ⟨b1, o1, none⟩) n c) (ho : wo1Reg[5]? = some o) : wo1Ok b1 o1 n c kk B ms Q a W 5 o := by
  have hop := op_at ho (·.op) (x := Op.move (Operand.tmp 0)) (by kernel_rfl)
  have hgd := op_at ho (·.guard) (x := none) (by kernel_rfl)
  refine ⟨fun j b h => (by rw [hgd] at h; cases h), ?_⟩
  exact specs_value (R := fun v W => wo1S b1 o1 n c kk B ms 5 v W) (v := .slice (some ⟨b1, o1, none⟩) n c) (by simp [execOp, hop, go_sem, ev o0]) rfl (Ext.refl W)
set_option maxHeartbeats 1000000 in
theorem wo1_op6 (oo1 : a.eval (.tmp 1) = .int .i64 (kk : Int)) (ho : wo1Reg[6]? = some o) : wo1Ok b1 o1 n c kk B ms Q a W 6 o := by
  have hop := op_at ho (·.op) (x := Op.move (Operand.tmp 1)) (by kernel_rfl)
  have hgd := op_at ho (·.guard) (x := none) (by kernel_rfl)
  refine ⟨fun j b h => (by rw [hgd] at h; cases h), ?_⟩
  exact specs_value (R := fun v W => wo1S b1 o1 n c kk B ms 6 v W) (v := .int .i64 (kk : Int)) (by simp [execOp, hop, go_sem, ev oo1]) rfl (Ext.refl W)
set_option maxHeartbeats 1000000 in
theorem wo1_op7 (hw : IntKind.i64.wrap ((kk : Int) + 1) = ((kk + 1 : Nat) : Int)) (haft : ∀ j, (o.after.any fun e => decide (e.on = j) && Region.binds .any e) = true → wo1S b1 o1 n c kk B ms j (a.eval (.tmp (wo1D j))) W) (ho : wo1Reg[7]? = some o) : wo1Ok b1 o1 n c kk B ms Q a W 7 o := by
  have hop := op_at ho (·.op) (x := Op.binOp BinOp.add 3 (Operand.tmp 11) (Operand.const (Value.int IntKind.i64 1)) 3) (by kernel_rfl)
  have hgd := op_at ho (·.guard) (x := none) (by kernel_rfl)
  have e6 : a.eval (.tmp 11) = .int .i64 (kk : Int) := haft 6 (op_at ho (fun o => o.after.any fun e => decide (e.on = 6) && Region.binds .any e) (x := true) (by kernel_rfl))
  refine ⟨fun j b h => (by rw [hgd] at h; cases h), ?_⟩
  exact specs_value (R := fun v W => wo1S b1 o1 n c kk B ms 7 v W) (v := .int .i64 ((kk + 1 : Nat) : Int)) (by simp [execOp, hop, go_sem, ev e6, hw]) rfl (Ext.refl W)
set_option maxHeartbeats 1000000 in
theorem wo1_op8 (hkn : kk < n) (hnc : n ≤ c) (haft : ∀ j, (o.after.any fun e => decide (e.on = j) && Region.binds .any e) = true → wo1S b1 o1 n c kk B ms j (a.eval (.tmp (wo1D j))) W) (ho : wo1Reg[8]? = some o) : wo1Ok b1 o1 n c kk B ms Q a W 8 o := by
  have hop := op_at ho (·.op) (x := Op.slice 22 (Operand.tmp 10) (some (Operand.tmp 12)) none none) (by kernel_rfl)
  have hgd := op_at ho (·.guard) (x := none) (by kernel_rfl)
  have e5 : a.eval (.tmp 10) = .slice (some ⟨b1, o1, none⟩) n c := haft 5 (op_at ho (fun o => o.after.any fun e => decide (e.on = 5) && Region.binds .any e) (x := true) (by kernel_rfl))
  have e7 : a.eval (.tmp 12) = .int .i64 ((kk + 1 : Nat) : Int) := haft 7 (op_at ho (fun o => o.after.any fun e => decide (e.on = 7) && Region.binds .any e) (x := true) (by kernel_rfl))
  refine ⟨fun j b h => (by rw [hgd] at h; cases h), ?_⟩
  obtain ⟨o2, ho2, hr2⟩ := run_slice22l W b1 o1 n c (kk + 1) (by omega) hnc
  rw [show ((kk + 1 : Nat) : Int) = (kk : Int) + 1 from by omega] at hr2
  exact specs_value (R := fun v W => wo1S b1 o1 n c kk B ms 8 v W) (v := .slice (some ⟨b1, o2, none⟩) (n - (kk + 1)) (c - (kk + 1))) (W' := W) (by simp [execOp, hop, e5, e7, hr2, Result.andThen]) ⟨o2, rfl, ho2⟩ (Ext.refl W)
set_option maxRecDepth 100000 in
set_option maxHeartbeats 4000000 in
theorem wo1_wp {id : Nat} (hlen : a.tmps.size = 15) (o0 : a.eval (.tmp 0) = .slice (some ⟨b1, o1, none⟩) n c) (oo1 : a.eval (.tmp 1) = .int .i64 (kk : Int)) (hVB : B ≤ V.heap.size) (hkn : kk < n) (hnc : n ≤ c) (hn : n = ms.length) (hn9 : n ≤ 5000) (hq : ∀ W, Ext V W → ∀ j u, (ms.flatMap encO)[j]? = some u → W.cell? ((⟨b1, o1, none⟩ : Addr).add j) = some u) (hw : IntKind.i64.wrap ((kk : Int) + 1) = ((kk + 1 : Nat) : Int)) (K : (∀ W v0 v4 v8, Ext V W → wo1S b1 o1 n c kk B ms 0 v0 W → wo1S b1 o1 n c kk B ms 4 v4 W → wo1S b1 o1 n c kk B ms 8 v8 W → wpList Tryz.prog wo1Reg Q (wo1Reg.toList.drop 9) (puts a [(5, v0), (6, .slice (some ⟨b1, o1, none⟩) n c), (7, .int .i64 (kk : Int)), (8, .slice (some ⟨b1, o1, none⟩) kk c), (9, v4), (10, .slice (some ⟨b1, o1, none⟩) n c), (11, .int .i64 (kk : Int)), (12, .int .i64 ((kk + 1 : Nat) : Int)), (13, v8)]) W)) : (Code.region id wo1Reg true).wp Tryz.prog Q a V := by
  refine wp_region_specs_sink (ops := wo1Reg) 9 (wo1S b1 o1 n c kk B ms) (Ext V) (by kernel_rfl) (by rw [hlen]; kernel_rfl) (by kernel_rfl) ⟨rfl, rfl, rfl, Nat.le_refl _, fun _ _ => rfl⟩ (fun _ _ h e => h.trans e) wo1S_ext wo1D (by kernel_rfl) ?_ ?_
  · intro i o hi ho a' W hB hsz hold haft
    match i, hi with
    | 0, _ => exact wo1_op0 hVB hB ho
    | 1, _ => exact wo1_op1 ((hold 0 (by kernel_rfl)).trans o0) ho
    | 2, _ => exact wo1_op2 ((hold 1 (by kernel_rfl)).trans oo1) ho
    | 3, _ => exact wo1_op3 hkn hnc haft ho
    | 4, _ => exact wo1_op4 hn hkn hn9 hVB hq hB haft ho
    | 5, _ => exact wo1_op5 ((hold 0 (by kernel_rfl)).trans o0) ho
    | 6, _ => exact wo1_op6 ((hold 1 (by kernel_rfl)).trans oo1) ho
    | 7, _ => exact wo1_op7 hw haft ho
    | 8, _ => exact wo1_op8 hkn hnc haft ho
    | m + 9, h => exact absurd h (by omega)
  · intro a1 W hB hsz hdf hold hS
    obtain ⟨v0, g0⟩ : ∃ v, v = a1.eval (.tmp 5) := ⟨_, rfl⟩
    obtain ⟨v4, g4⟩ : ∃ v, v = a1.eval (.tmp 9) := ⟨_, rfl⟩
    obtain ⟨v8, g8⟩ : ∃ v, v = a1.eval (.tmp 13) := ⟨_, rfl⟩
    have hall : ∀ z, z ∈ ([(5, v0), (6, .slice (some ⟨b1, o1, none⟩) n c), (7, .int .i64 (kk : Int)), (8, .slice (some ⟨b1, o1, none⟩) kk c), (9, v4), (10, .slice (some ⟨b1, o1, none⟩) n c), (11, .int .i64 (kk : Int)), (12, .int .i64 ((kk + 1 : Nat) : Int)), (13, v8)] : List (Tmp × Value)) → z.1 < a.tmps.size ∧ a1.eval (.tmp z.1) = z.2 := by
      intro z hz
      rw [hlen]
      simp only [List.mem_cons, List.not_mem_nil, or_false] at hz
      rcases hz with rfl | rfl | rfl | rfl | rfl | rfl | rfl | rfl | rfl
      · exact ⟨(show (5 : Nat) < 15 by omega), g0.symm⟩
      · exact ⟨(show (6 : Nat) < 15 by omega), hS 1 (by omega)⟩
      · exact ⟨(show (7 : Nat) < 15 by omega), hS 2 (by omega)⟩
      · exact ⟨(show (8 : Nat) < 15 by omega), hS 3 (by omega)⟩
      · exact ⟨(show (9 : Nat) < 15 by omega), g4.symm⟩
      · exact ⟨(show (10 : Nat) < 15 by omega), hS 5 (by omega)⟩
      · exact ⟨(show (11 : Nat) < 15 by omega), hS 6 (by omega)⟩
      · exact ⟨(show (12 : Nat) < 15 by omega), hS 7 (by omega)⟩
      · exact ⟨(show (13 : Nat) < 15 by omega), g8.symm⟩
    have ha := act_puts hsz hdf hall (fun t ht => hold t (all_ne_of (l := [(5, v0), (6, .slice (some ⟨b1, o1, none⟩) n c), (7, .int .i64 (kk : Int)), (8, .slice (some ⟨b1, o1, none⟩) kk c), (9, v4), (10, .slice (some ⟨b1, o1, none⟩) n c), (11, .int .i64 (kk : Int)), (12, .int .i64 ((kk + 1 : Nat) : Int)), (13, v8)]) (by kernel_rfl) ht))
    rw [ha]
    exact K W v0 v4 v8 hB (by rw [g0]; exact hS 0 (by omega)) (by rw [g4]; exact hS 4 (by omega)) (by rw [g8]; exact hS 8 (by omega))
end

set_option maxRecDepth 100000 in
set_option maxHeartbeats 2000000 in
theorem wo1_tail {a : Act} {V : World} {Q : Exit → Act → World → Prop} {B n cap1 g1 kk b1 o2 c2 : Nat} {ms : List Odr} (h15 : a.tmps.size = 15)
    (e9 : a.eval (.tmp 9) = .slice (some ⟨g1, 0, none⟩) kk cap1) (e13 : a.eval (.tmp 13) = .slice (some ⟨b1, o2, none⟩) (n - (kk + 1)) c2)
    (hown : V.ownsRow B 56 5 (.slice (some ⟨g1, 0, none⟩) kk cap1) kk ((ms.take kk).flatMap encO)) (hg1 : B ≤ g1) (hBV : B ≤ V.heap.size) (hkn : kk < n) (hn : n = ms.length)
    (hq : kk + 1 < n → ∀ j u, ((ms.drop (kk + 1)).flatMap encO)[j]? = some u → V.cell? ((⟨b1, o2, none⟩ : Addr).add j) = some u) (hn9 : n ≤ 5000)
    (K : ∀ g3 cap3 W, W.ownsRow B 56 5 (.slice (some ⟨g3, 0, none⟩) (n - 1) cap3) (n - 1) ((ms.eraseIdx kk).flatMap encO) → Below B V W →
      Q .normal ((a.put (some 14) (.slice (some ⟨g3, 0, none⟩) (n - 1) cap3)).put (some 4) (.slice (some ⟨g3, 0, none⟩) (n - 1) cap3)) W) : wpList Tryz.prog wo1Reg Q (wo1Reg.toList.drop 9) a V := by
  obtain ⟨o6, o7, hdr, h6, h7⟩ : ∃ o6 o7, wo1Reg.toList.drop 9 = [o6, o7] ∧ wo1Reg[9]? = some o6 ∧ wo1Reg[10]? = some o7 := by
    have hs : wo1Reg.size = 11 := by kernel_rfl
    refine ⟨wo1Reg[9], wo1Reg[10], ?_, Array.getElem?_eq_getElem _, Array.getElem?_eq_getElem _⟩
    rw [List.drop_eq_getElem_cons (by simp [hs]), List.drop_eq_getElem_cons (by simp [hs]), List.drop_eq_nil_of_le (by simp [hs])]
    simp
  rw [hdr]
  obtain ⟨i0, hi0, hz0, hz1, hz2⟩ := info_parts info56c
  have hop6 := op_at h6 (·.op) (x := Op.call { callee := Callee.builtin Builtin.append, args := #[Operand.tmp 9, Operand.tmp 13], argTypes := #[22, 22] }) (by kernel_rfl)
  have hg6 := op_at h6 (·.guard) (x := none) (by kernel_rfl)
  have hd6 := op_at h6 (·.dst) (x := some 14) (by kernel_rfl)
  have e1 : (ms.eraseIdx kk).flatMap encO = (ms.take kk).flatMap encO ++ (ms.drop (kk + 1)).flatMap encO := by rw [List.eraseIdx_eq_take_drop_succ, List.flatMap_append]
  have rest : ∀ g3 cap3 V3, V3.ownsRow B 56 5 (.slice (some ⟨g3, 0, none⟩) (n - 1) cap3) (n - 1) ((ms.eraseIdx kk).flatMap encO) → Below B V V3 → wpList Tryz.prog wo1Reg Q [o7] (a.put (some 14) (.slice (some ⟨g3, 0, none⟩) (n - 1) cap3)) V3 := by
    intro g3 cap3 V3 hown3 hE3
    have K3 := K g3 cap3 V3 hown3 hE3
    obtain ⟨a6, ha6⟩ : ∃ a6, a.put (some 14) (.slice (some ⟨g3, 0, none⟩) (n - 1) cap3) = a6 := ⟨_, rfl⟩
    have e14 : a6.eval (.tmp 14) = .slice (some ⟨g3, 0, none⟩) (n - 1) cap3 := by rw [← ha6]; exact eval_put_same (d := 14) (by rw [h15]; decide)
    rw [ha6] at K3
    rw [ha6]
    refine wpList_one (v := .slice (some ⟨g3, 0, none⟩) (n - 1) cap3) (op_at h7 (·.guard) (x := none) (by kernel_rfl)) (by simp [execOp, show o7.op = .assign (.tmp 14) from op_at h7 (·.op) (by kernel_rfl), go_sem, ev e14]) ?_
    rw [show o7.dst = some 4 from op_at h7 (·.dst) (by kernel_rfl)]
    exact K3
  by_cases hlast : n - (kk + 1) = 0
  · have hnk : n - 1 = kk := by omega
    have hdrop : ms.drop (kk + 1) = [] := List.drop_eq_nil_of_le (by omega)
    rw [hdrop, List.flatMap_nil, List.append_nil] at e1
    have r := rest g1 cap1 V (by rw [e1, hnk]; exact hown) (Below.refl B V)
    rw [hnk] at r
    rw [hlast] at e13
    have hcap := (own_held (enc := encO) (xs := ms.take kk) (fun _ => rfl) (by rw [List.length_take]; omega) hown).2
    refine wpList_more (v := .slice (some ⟨g1, 0, none⟩) kk cap1) (w' := V) hg6 (by simp [execOp, hop6, resolve, invoke, builtin, e9, e13, run_append_none22 _ _ _ _ _ _ _ hcap, Result.andThen]) ?_
    rw [hd6]
    exact r
  · have hm : kk + (n - (kk + 1)) = n - 1 := by omega
    have hlen : ((ms.drop (kk + 1)).flatMap encO).length = (n - (kk + 1)) * 5 := by rw [flatO_len, List.length_drop, hn]
    refine wpList_tail hg6 (step_append_lies V hg6 (.tmp 9) (.tmp 13) 22 hop6 B 56 i0 _ 5 40 u22c hi0 hz0 hz1 hz2 rfl (by omega) _ kk ((ms.take kk).flatMap encO) e9 hown ⟨b1, o2, none⟩ (n - (kk + 1)) c2 ((ms.drop (kk + 1)).flatMap encO) e13 hlen (hq (by omega)) (fun u hu => ?_) (by omega) (by unfold maxLen; omega) (by omega) hBV V.heap.size rfl ?_)
    · obtain ⟨x, _, hx⟩ := List.mem_flatMap.1 hu
      simp [encO] at hx
      rcases hx with rfl | rfl | rfl | rfl | rfl <;> rfl
    · intro g3 cap3 V3 hown3 hgr _ _
      rw [hm, ← e1] at hown3
      have r := rest g3 cap3 V3 hown3 ((Below.refl B V).grown hgr hBV fun r e => by cases e; exact hg1)
      rw [hm, hd6]
      exact r

set_option maxRecDepth 100000 in
set_option maxHeartbeats 2000000 in
/-- The reference's Without (func 47). -/
theorem without_any {A : Option Addr} {n c : Nat} {os : List Odr} {w : World} (h : IsOrders w A n c os) (k : Nat) (hk : k < os.length) (h5 : os.length ≤ 5000) :
    Calls Tryz.prog 47 #[.slice A n c, .int .i64 (k : Int)] w fun e w' => Ext w w' ∧ ∃ A' c', e = .returned (.slice A' (os.eraseIdx k).length c') ∧ IsOrders w' A' (os.eraseIdx k).length c' (os.eraseIdx k) := by
  have hn := h.len
  have hel : (os.eraseIdx k).length = n - 1 := by rw [List.length_eraseIdx_of_lt hk, hn]
  rw [hel]
  have hcap := h.cap
  obtain ⟨b, off, rfl, hb, -⟩ := held_at h.held hk
  have hcells : ∀ W, Ext w W → ∀ j u, (os.flatMap encO)[j]? = some u → W.cell? ((⟨b, off, none⟩ : Addr).add j) = some u := fun W hW => by
    rcases h.held with e | ⟨b', off', e, _, hc⟩
    · rw [e] at hk; simp at hk
    · cases e
      exact heldO_flat fun j x hx i v hv => (Below.cell hW (p := ⟨b, off + j * 5 + i, none⟩) hb).trans (hc j x hx i v hv)
  have hwr : IntKind.i64.wrap ((k : Int) + 1) = ((k + 1 : Nat) : Int) := by rw [IntWalk.i64_in _ (by omega)]; omega
  have HC := Lib.hid hcells
  clear hcells hb
  go_enter Tryz.func47, Tryz.ntmps47
  go_upto_region 1 with fail
  refine wo1_wp (b1 := b) (o1 := off) (n := n) (c := c) (kk := k) (B := w.heap.size) (ms := os) rfl rfl rfl (Nat.le_refl _) (by omega) hcap hn (by omega) HC.out hwr ?_
  rintro W v0 v4 v8 e1 - ⟨g4, cap4, rfl, hg4, hown⟩ ⟨o2, rfl, ho2⟩
  simp only [puts, List.foldl_cons, List.foldl_nil, Act.put, List.setIfInBounds_toArray, List.set_cons_succ, List.set_cons_zero]
  refine wo1_tail (n := n) (g1 := g4) (cap1 := cap4) (kk := k) (b1 := b) (o2 := o2) (c2 := c - (k + 1)) (B := w.heap.size) (ms := os) rfl rfl rfl hown hg4 e1.size (by omega) hn (fun hlt => by rw [ho2 hlt]; exact dropO_cells (HC.out W e1) (k + 1)) (by omega) ?_
  intro g3 cap3 W3 hown3 hB3
  have hfin := own_held (enc := encO) (xs := os.eraseIdx k) (fun _ => rfl) hel.symm hown3
  have HF := Lib.hid (show IsOrders W3 (some ⟨g3, 0, none⟩) (n - 1) cap3 (os.eraseIdx k) from ⟨hel.symm, by omega, hfin.2, hfin.1⟩)
  have HE := Lib.hid (show Ext w W3 from Below.trans (show Below w.heap.size w W from e1) hB3)
  clear hfin hown3 hB3 hown e1
  simp only [Act.put, List.setIfInBounds_toArray, List.set_cons_succ, List.set_cons_zero]
  go_wp2
  go_ret
  exact ⟨HE.out, _, _, rfl, HF.out⟩
end
end Go.Proofs.YtmlmnljbegcjcaaGreat

/- The reference: best, for any few orders that are valid one by one. -/
namespace Go.Proofs.YtmlmnljbegcjcaaGreat
section
open Go.RowKit Go.Shelf

set_option maxRecDepth 100000 in
set_option maxHeartbeats 4000000 in
theorem best67_of {A : Option Addr} {n c : Nat} {os : List Odr} {w : World} (h : IsOrders w A n c os) (hok : os.length ≤ 14 ∧ ∀ o, o ∈ os → ordOk o = true) (hW : Whole os) :
    Calls Tryz.prog 67 #[.slice A n c] w fun e w' => Ext w w' ∧ ∃ A' c', e = .returned (.slice A' (fewB os).length c') ∧ Made w.heap.size 2 (fewB os) w' A' c' := by
  have H56 := Lib.hid (fun W (hX : Ext w W) k hkl => birthsOf_any (h.ext hX) hok.2 k hkl)
  have H72 := Lib.hid (fun W (hX : Ext w W) A' n' c' bs hn' hm' hh k hkl => done72_any (h.ext hX) hok.2 A' n' c' bs hn' hm' hh k hkl)
  have HN := Lib.hid h.len
  have HW := Lib.hid hW
  have h14 : n ≤ 14 := by have := h.len; omega
  have hfl : (fewB os).length ≤ os.length := stab_len _ _
  have hfl14 : (fewB os).length ≤ 14 := by omega
  have hf1 := run_field26_1
  obtain ⟨ANS, hANS⟩ : ∃ ANS, fewB os = ANS := ⟨_, rfl⟩
  have HANS := Lib.hid hANS
  rw [hANS] at hfl14 ⊢
  clear h hok hW hfl hANS
  go_enter Tryz.func67, Tryz.ntmps67
  go_wp2
  go_loopw [3] (fun v wr => ∃ l : List Int, l ++ fewB (restOf os l) = ANS ∧ Hid (Ext w wr) ∧ Hid (∃ A c, v = .slice A l.length c ∧ Made w.heap.size 2 l wr A c)) (fun v _ => ANS.length + 1 - lenOf v)
  case atStart => exact ⟨[], by rw [restOf_nil, HANS.out]; rfl, Lib.hid (Ext.refl _), Lib.hid ⟨none, 0, rfl, World.ownsRow_nil _ _ _ _⟩⟩
  case round =>
    obtain ⟨l, hl, hE, hO⟩ := hrel
    obtain ⟨A3, c3, rfl, hM⟩ := hO.out
    have HM := Lib.hid hM
    have HL := Lib.hid hl
    have hll : l.length ≤ ANS.length := by rw [← hl]; simp
    clear hO hM hl
    go_wp2
    go_loopw [4, 5, 6] (fun nx fd i wq => ∃ (k : Nat) (x : Int) (b : Bool), k ≤ n ∧ i = .int .i64 k ∧ nx = .int .i64 x ∧ fd = .bool b ∧ Hid (NextTo os l k x b) ∧ Hid (Ext w wq) ∧ Hid (Made w.heap.size 2 l wq A3 c3)) (fun _ _ i _ => n - (intOf i).toNat)
    case atStart => exact ⟨0, 0, false, Nat.zero_le _, rfl, rfl, rfl, Lib.hid (.inl ⟨rfl, rfl, fun j _ h => absurd h (by omega)⟩), hE, HM⟩
    case round =>
      obtain ⟨k, x, b, hk, rfl, rfl, rfl, hNx, hX, hMq⟩ := hrel
      clear HM hE
      by_cases hlt : k < n
      · have hltz : (k : Int) < (n : Int) := by omega
        have hkl : k < os.length := by rw [← HN.out]; exact hlt
        have h72 := H72.out wr hX.out A3 l.length c3 l rfl (by omega) hMq.out.held.1 k hkl
        have hst := next_step hkl hNx.out
        have h56 := fun W hW => H56.out W hW k hkl
        obtain ⟨lo, hlo⟩ : ∃ lo, bLo os[k] = lo := ⟨_, rfl⟩
        obtain ⟨y, hy⟩ : ∃ y, bHi os[k] = y := ⟨_, rfl⟩
        obtain ⟨m, hm⟩ : ∃ m, madeB l os[k] = m := ⟨_, rfl⟩
        simp only [hlo, hy] at h56
        rw [hm] at h72
        rw [hy, hm] at hst
        have HST := Lib.hid hst
        have H56' := Lib.hid h56
        clear hst hlo hy hm h56
        cases m with
        | true =>
          go_wp2_with (refine h72.mono ?_; rintro e w2 ⟨rfl, e2⟩; have HE2 := Lib.hid (hX.out.trans e2); have HM2 := Lib.hid (hMq.out.ext e2); clear e2 h72)
          go_roundw
          case measure => simp [intOf]; omega
          case rel => exact ⟨k + 1, x, b, by omega, by go_num, rfl, rfl, Lib.hid (by have := HST.out; rw [if_neg (by simp), if_neg (by simp)] at this; exact this), HE2, HM2⟩
        | false =>
          cases b with
          | false =>
            go_wp2_with fail
            refine h72.mono ?_
            rintro e w2 ⟨rfl, e2⟩
            have HE2 := Lib.hid (hX.out.trans e2)
            have HM2 := Lib.hid (hMq.out.ext e2)
            have h56 := H56'.out w2 HE2.out
            clear e2 h72
            go_wp2_with fail
            refine h56.mono ?_
            rintro e w3 ⟨rfl, e3⟩
            have HE3 := Lib.hid (HE2.out.trans e3)
            have HM3 := Lib.hid (HM2.out.ext e3)
            clear e3 h56
            go_wp2
            go_roundw
            case measure => simp [intOf]; omega
            case rel => exact ⟨k + 1, y, true, by omega, by go_num, rfl, rfl, Lib.hid (by have := HST.out; rw [if_pos (by simp), if_pos (by simp)] at this; exact this), HE3, HM3⟩
          | true =>
            by_cases hc : y < x
            · go_wp2_with fail
              refine h72.mono ?_
              rintro e w2 ⟨rfl, e2⟩
              have HE2 := Lib.hid (hX.out.trans e2)
              have HM2 := Lib.hid (hMq.out.ext e2)
              have h56 := H56'.out w2 HE2.out
              clear e2 h72
              go_wp2_with fail
              refine h56.mono ?_
              rintro e w3 ⟨rfl, e3⟩
              have HE3 := Lib.hid (HE2.out.trans e3)
              have HM3 := Lib.hid (HM2.out.ext e3)
              have h56 := H56'.out w3 HE3.out
              clear e3
              go_wp2_with fail
              refine h56.mono ?_
              rintro e w4 ⟨rfl, e4⟩
              have HE4 := Lib.hid (HE3.out.trans e4)
              have HM4 := Lib.hid (HM3.out.ext e4)
              clear e4 h56
              have HC := Lib.hid hc
              go_wp2
              go_roundw
              case measure => simp [intOf]; omega
              case rel => exact ⟨k + 1, y, true, by omega, by go_num, rfl, rfl, Lib.hid (by have := HST.out; rw [if_pos (by simp [HC.out]), if_pos (by simp [HC.out])] at this; exact this), HE4, HM4⟩
            · go_wp2_with fail
              refine h72.mono ?_
              rintro e w2 ⟨rfl, e2⟩
              have HE2 := Lib.hid (hX.out.trans e2)
              have HM2 := Lib.hid (hMq.out.ext e2)
              have h56 := H56'.out w2 HE2.out
              clear e2 h72
              go_wp2_with fail
              refine h56.mono ?_
              rintro e w3 ⟨rfl, e3⟩
              have HE3 := Lib.hid (HE2.out.trans e3)
              have HM3 := Lib.hid (HM2.out.ext e3)
              clear e3 h56
              have HC := Lib.hid hc
              go_wp2
              go_roundw
              case measure => simp [intOf]; omega
              case rel => exact ⟨k + 1, x, true, by omega, by go_num, rfl, rfl, Lib.hid (by have := HST.out; rw [if_neg (by simp; have := HC.out; omega), if_neg (by simp; have := HC.out; omega)] at this; exact this), HE3, HM3⟩
      · have hltz : ¬ (k : Int) < (n : Int) := by omega
        obtain rfl : k = n := by omega
        have hne := hNx.out
        rw [HN.out] at hne
        have hen := next_end hne
        clear hne hNx
        cases b with
        | false =>
          have hr : restOf os l = [] := by
            rcases hen with ⟨_, h⟩ | ⟨h, _⟩
            · exact h
            · cases h
          have hla : l = ANS := by
            have := HL.out
            rw [hr, fewB_nil, List.append_nil] at this
            exact this
          subst hla
          clear hen hr
          go_wp2
          go_ret
          exact ⟨hX.out, A3, c3, rfl, hMq.out⟩
        | true =>
          have hr : minHi (restOf os l) = some x := by
            rcases hen with ⟨h, _⟩ | ⟨_, h⟩
            · cases h
            · exact h
          have hfs : fewB (restOf os l) = x :: fewB ((restOf os l).filter fun o => !doneB x o) := fewB_step (fun o ho => HW.out o (List.mem_filter.1 ho).1) hr
          have hln : (l ++ [x]) ++ fewB (restOf os (l ++ [x])) = ANS := by
            have := HL.out
            rw [hfs] at this
            rw [restOf_snoc, List.append_assoc]
            exact this
          have HLN := Lib.hid hln
          have hlt2 : l.length < ANS.length := by
            rw [← hln]; simp
          have HOA := Lib.hid (hMq.out.alloc (.cells #[.int .i64 x] 2))
          have hwz : w.heap.size ≤ wr.heap.size := hX.out.size
          clear hen hr hfs hln
          go_wp2_with (at_builtin; refine wpList_app1 rfl 37 39 36 2 rfl Tryz.underlying36 _ 1 8 info2 rfl (by decide) (by decide) w.heap.size l.length _ _ rfl HOA.out wr.heap.size [.int .i64 x] rfl rfl (row_last _ _ _ rfl) (encI_one _) (by omega) (by simp; omega) ?_; intro A9 c9 w3 hown hB3 _; have HW3 := Lib.hid hown; have HE3 := Lib.hid (Below.trans (hX.out.trans (ext_alloc _ _)) hB3 : Ext w w3); clear hown hB3)
          go_roundw
          case measure => simp [lenOf]; omega
          case rel =>
            refine ⟨l ++ [x], HLN.out, HE3, Lib.hid ⟨A9, c9, by simp, ?_⟩⟩
            unfold Made
            rw [List.length_append, List.map_append]
            exact HW3.out
end
end Go.Proofs.YtmlmnljbegcjcaaGreat

/- The reference's Costs. -/
namespace Go.Proofs.YtmlmnljbegcjcaaGreat
section
open Go.RowKit Go.Shelf
attribute [local irreducible] bitCells

theorem whole_erase {os : List Odr} (h : Whole os) (k : Nat) : Whole (os.eraseIdx k) := fun _ ho => h _ (List.mem_of_mem_eraseIdx ho)
theorem costB_is {os : List Odr} (h : Whole os) (k : Nat) : costB os k = decide ((fewB (os.eraseIdx k)).length < (fewB os).length) := by
  have h1 : (dueI os noBits).length = (fewB os).length := by
    rw [dueI_dues, List.length_map, ← dues_few h, List.length_map]
  have h2 : (dueI os (oneBit k)).length = (fewB (os.eraseIdx k)).length := by
    unfold dueI
    rw [List.length_map, ← List.length_map (f := fun k => bHi (oAt os k)), due_stab _ _ (fun i hi _ => h _ (oAt_mem hi)), show undone os (oneBit k) = os.eraseIdx k from undone_one os k]
    unfold fewB
    rw [stab_fuel (whole_erase h k) os.length (os.eraseIdx k).length (by rw [List.length_eraseIdx]; split <;> omega) (Nat.le_refl _)]
  unfold costB
  rw [h1, h2]

set_option maxRecDepth 100000 in
set_option maxHeartbeats 4000000 in
theorem refCosts_any {A : Option Addr} {n c : Nat} {os : List Odr} {w : World} (h : IsOrders w A n c os) :
    Calls Tryz.prog 26 #[.slice A n c] w (IntsPost 3 (costsAns os) (wholeErr os) w) := by
  have H21 := Lib.hid (fun W (hW : Ext w W) => refCheck_any (h.ext hW))
  have H66 := Lib.hid (fun hk W (hW : Ext w W) => refSome_any (h.ext hW) hk)
  have H67 := Lib.hid (fun hk hWh W (hW : Ext w W) => best67_any (h.ext hW) hk hWh)
  have H47 := Lib.hid (fun k hk h5 W (hW : Ext w W) => without_any (h.ext hW) k hk h5)
  have h0 := H21.out w (Ext.refl w)
  have HN := Lib.hid h.len
  by_cases he : ordersErr os = 0
  · rw [he] at h0
    by_cases hs : os.all hasB = true
    · have hwe : wholeErr os = 0 := by unfold wholeErr; rw [if_pos he, if_pos hs]
      have hWh : Whole os := fun o ho => List.all_eq_true.1 hs o ho
      have hbb : costsAns os = numsTo (costB os) os.length := by unfold costsAns; rw [if_pos hwe]; rfl
      rw [hwe, hbb]
      have HE := Lib.hid (And.intro he (And.intro hs hWh))
      have hok := orders_ok he
      have h14 := hok.1.2
      have HOK := Lib.hid hok
      have HCB := Lib.hid (fun k => costB_is hWh k)
      obtain ⟨N, hN⟩ : ∃ N, (fewB os).length = N := ⟨_, rfl⟩
      have HNF := Lib.hid hN
      clear he hs hwe hWh hbb h hok hN
      go_enter Tryz.func26, Tryz.ntmps26
      go_wp2_with fail
      refine h0.mono ?_
      rintro e w1 ⟨rfl, e1⟩
      have HE1 := Lib.hid e1
      have h66 := H66.out HE.out.1 w1 e1
      rw [HE.out.2.1] at h66
      clear e1 h0
      go_wp2_with fail
      refine h66.mono ?_
      rintro e w2 ⟨rfl, e2⟩
      have HE2 := Lib.hid (HE1.out.trans e2)
      clear e2 h66
      go_wp2
      go_loopw [4, 5] (fun v i wr => ∃ k : Nat, k ≤ os.length ∧ i = .int .i64 k ∧ Hid (Ext w wr) ∧ Hid (∃ A c, v = .slice A (numsTo (costB os) k).length c ∧ Made w.heap.size 3 (numsTo (costB os) k) wr A c)) (fun _ i _ => os.length - (intOf i).toNat)
      case atStart => exact ⟨0, Nat.zero_le _, rfl, HE2, Lib.hid ⟨none, 0, rfl, World.ownsRow_nil _ _ _ _⟩⟩
      case round =>
        obtain ⟨k, hk, rfl, hX, hO⟩ := hrel
        obtain ⟨A6, c6, rfl, hM6⟩ := hO.out
        by_cases hlt : k < os.length
        · have hltz : (k : Int) < (n : Int) := by have := HN.out; omega
          have hs := numsTo_succ (costB os) k
          have hll := numsTo_len (costB os) k
          have HM6 := Lib.hid hM6
          obtain ⟨l, hl⟩ : ∃ l, numsTo (costB os) k = l := ⟨_, rfl⟩
          rw [hl] at hs hll HM6
          rw [hl]
          have HS := Lib.hid hs
          have hck := HCB.out k
          rw [HNF.out] at hck
          have h47 := H47.out k hlt (by omega) wr hX.out
          have hel : (os.eraseIdx k).length ≤ 14 := by rw [List.length_eraseIdx]; split <;> omega
          have HEO := Lib.hid (And.intro hel (And.intro (fun o (ho : o ∈ os.eraseIdx k) => HOK.out.2 o (List.mem_of_mem_eraseIdx ho)) (whole_erase HE.out.2.2 k)))
          obtain ⟨os2, hos2⟩ : ∃ os2, os.eraseIdx k = os2 := ⟨_, rfl⟩
          rw [hos2] at hck h47 HEO
          obtain ⟨N2, hN2⟩ : ∃ N2, (fewB os2).length = N2 := ⟨_, rfl⟩
          rw [hN2] at hck
          have HN2 := Lib.hid hN2
          clear hl hs hM6 hO hos2 hN2 hel
          go_wp2_with fail
          refine h47.mono ?_
          rintro e w3 ⟨e3, A3, c3, rfl, hI3⟩
          have h67 := best67_of hI3 ⟨HEO.out.1, HEO.out.2.1⟩ HEO.out.2.2
          rw [HN2.out] at h67
          replace hX := Lib.hid (hX.out.trans e3)
          replace HM6 := Lib.hid (owns_ext HM6.out e3)
          clear h47 e3 hI3
          go_wp2_with fail
          refine h67.mono ?_
          rintro e w4 ⟨e4, A4, c4, rfl, _⟩
          replace hX := Lib.hid (hX.out.trans e4)
          replace HM6 := Lib.hid (owns_ext HM6.out e4)
          have h67b := H67.out HE.out.1 HE.out.2.2 w4 hX.out
          rw [HNF.out] at h67b
          clear h67 e4
          by_cases hc : N2 < N
          · have hcz : (N2 : Int) < (N : Int) := by omega
            rw [decide_eq_true hc] at hck
            have HCK := Lib.hid hck
            clear hck
            go_wp2_with fail
            refine h67b.mono ?_
            rintro e w5 ⟨e5, A5, c5, rfl, _⟩
            have HE5 := Lib.hid (hX.out.trans e5)
            have HM5 := Lib.hid (owns_ext HM6.out e5)
            have hz5 : w.heap.size ≤ w5.heap.size := HE5.out.size
            have HOA := Lib.hid (HM5.out.alloc (.cells #[.int .i64 (k : Int)] 3))
            clear e5 h67b
            go_wp2_with (at_builtin; refine wpList_app1 rfl 29 31 30 3 rfl Tryz.underlying30 _ 1 8 info3 rfl (by decide) (by decide) w.heap.size l.length _ _ rfl HOA.out w5.heap.size [.int .i64 (k : Int)] rfl rfl (row_last _ _ _ rfl) (encI_one _) (by omega) (by simp; omega) ?_; intro A9 c9 w6 hown hB4 _; have HW4 := Lib.hid hown; have HE4 := Lib.hid (Below.trans (HE5.out.trans (ext_alloc _ _)) hB4 : Ext w w6); clear hown hB4)
            go_roundw
            case measure => simp [intOf]; omega
            case rel =>
              have hs := HS.out
              rw [if_pos HCK.out] at hs
              refine ⟨k + 1, by omega, by go_num, HE4, Lib.hid ⟨A9, c9, by rw [hs]; simp, ?_⟩⟩
              unfold Made
              rw [hs, List.length_append, List.map_append]
              exact HW4.out
          · have hcz : ¬ (N2 : Int) < (N : Int) := by omega
            rw [decide_eq_false hc] at hck
            have HCK := Lib.hid hck
            clear hck
            go_wp2_with (refine h67b.mono ?_; rintro e w5 ⟨e5, A5, c5, rfl, _⟩; have HE5 := Lib.hid (hX.out.trans e5); have HM5 := Lib.hid (owns_ext HM6.out e5); clear e5 h67b)
            go_roundw
            case measure => simp [intOf]; omega
            case rel =>
              have hs := HS.out
              rw [if_neg (by rw [HCK.out]; decide), List.append_nil] at hs
              exact ⟨k + 1, by omega, by go_num, HE5, Lib.hid ⟨A6, c6, by rw [hs], by rw [hs]; exact HM5.out⟩⟩
        · have hltz : ¬ (k : Int) < (n : Int) := by have := HN.out; omega
          obtain rfl : k = os.length := by omega
          have HM6 := Lib.hid hM6
          clear hM6 hO
          go_wp2
          go_ret2
          exact ints_made hX.out HM6.out (Ext.refl w)
    · have hsf : os.all hasB = false := by simpa using hs
      have hwe : wholeErr os = 22 := by unfold wholeErr; rw [if_pos he, if_neg hs]
      have hbb : costsAns os = [] := by unfold costsAns; rw [if_neg (by rw [hwe]; decide)]
      rw [hwe, hbb]
      have HE := Lib.hid (And.intro he hsf)
      clear he hs hwe hbb h hsf
      go_enter Tryz.func26, Tryz.ntmps26
      go_wp2_with fail
      refine h0.mono ?_
      rintro e w1 ⟨rfl, e1⟩
      have HE1 := Lib.hid e1
      have h66 := H66.out HE.out.1 w1 e1
      rw [HE.out.2] at h66
      clear e1 h0
      go_wp2_with fail
      refine h66.mono ?_
      rintro e w2 ⟨rfl, e2⟩
      have HE2 := Lib.hid (HE1.out.trans e2)
      clear e2 h66
      go_wp2
      go_ret2
      exact ints_none 3 _ HE2.out
  · have hwe : wholeErr os = ordersErr os := by unfold wholeErr; rw [if_neg he]
    have hbb : costsAns os = [] := by unfold costsAns; rw [if_neg (by rw [hwe]; exact he)]
    rw [hwe, hbb]
    obtain ⟨E, hE⟩ : ∃ E, ordersErr os = E := ⟨_, rfl⟩
    rw [hE] at he h0
    rw [hE]
    have heb : (E != 0) = true := by simp [he]
    have HEE := Lib.hid hE
    clear hwe hbb h hE
    go_enter Tryz.func26, Tryz.ntmps26
    go_wp2_with fail
    refine h0.mono ?_
    rintro e w1 ⟨rfl, e1⟩
    have HE1 := Lib.hid e1
    have h1 := H21.out w1 e1
    rw [HEE.out] at h1
    clear e1 h0
    go_wp2_with fail
    refine h1.mono ?_
    rintro e w2 ⟨rfl, e2⟩
    have HE2 := Lib.hid (HE1.out.trans e2)
    clear e2 h1
    go_wp2
    go_ret2
    exact ints_none 3 _ HE2.out
end
end Go.Proofs.YtmlmnljbegcjcaaGreat

/- BathBests: the walk. -/
namespace Go.Proofs.YtmlmnljbegcjcaaGreat
section
open Go.RowKit Go.Shelf
attribute [local irreducible] bitCells

set_option maxRecDepth 100000 in
set_option maxHeartbeats 8000000 in
theorem bestsLaw_any {A : Option Addr} {n c : Nat} {os : List Odr} {w : World} (h : IsOrders w A n c os) (A' : Option Addr) (n' c' : Nat) (bs : List Int) (hn' : n' = bs.length) (hm' : n' ≤ 9223372036854775807) (hh : Held w w.heap.size 1 encI A' bs) :
    Calls Tryz.prog 4 #[.slice A n c, .slice A' n' c'] w fun e w' => e = .returned (.bool true) ∧ Ext w w' := by
  have h14 := great_any A n c w
  by_cases hg : 20 < n
  · rw [decide_eq_true hg] at h14
    have h15 := works_any w
    clear hg
    go_enter Tryz.func4, Tryz.ntmps4
    go_wp2_with fail
    refine h14.mono ?_
    rintro e w1 ⟨rfl, rfl⟩
    clear h14
    go_wp2_with fail
    refine h15.mono ?_
    rintro e w2 ⟨rfl, e2⟩
    have HE := Lib.hid e2
    clear h15 e2
    go_wp2
    go_ret
    exact ⟨rfl, HE.out⟩
  · rw [decide_eq_false hg] at h14
    by_cases hg2 : 20 < n'
    · have h15 := works_any w
      have hgz : (20 : Int) < (n' : Int) := by omega
      clear hg hg2
      go_enter Tryz.func4, Tryz.ntmps4
      go_wp2_with fail
      refine h14.mono ?_
      rintro e w1 ⟨rfl, rfl⟩
      clear h14
      go_wp2_with fail
      refine h15.mono ?_
      rintro e w2 ⟨rfl, e2⟩
      have HE := Lib.hid e2
      clear h15 e2
      go_wp2
      go_ret
      exact ⟨rfl, HE.out⟩
    · have hgz : ¬ (20 : Int) < (n' : Int) := by omega
      have H := Lib.hid h
      have HH := Lib.hid hh
      have HM := Lib.hid (And.intro hn' hm')
      have hbl : (bestB os).length ≤ 9223372036854775807 := by
        unfold bestB
        split
        · rename_i h0
          have h1 := (orders_ok (whole_ok h0).1).1
          have h2 := stab_len os.length os
          show (stab os.length os).length ≤ _
          omega
        · simp
      have hcl : (costsAns os).length ≤ 9223372036854775807 := by
        unfold costsAns
        split
        · rename_i h0
          have h1 := (orders_ok (whole_ok h0).1).1
          have h2 := numsTo_len (costB os) os.length
          show (numsTo (costB os) os.length).length ≤ _
          omega
        · simp
      clear hg hg2 h hh hn' hm'
      obtain ⟨E, hE⟩ : ∃ E, wholeErr os = E := ⟨_, rfl⟩
      obtain ⟨bl, hb⟩ : ∃ bl, bestB os = bl := ⟨_, rfl⟩
      obtain ⟨cl, hc⟩ : ∃ cl, costsAns os = cl := ⟨_, rfl⟩
      obtain ⟨wx, hwx⟩ : ∃ wx, worthAns os bs = wx := ⟨_, rfl⟩
      obtain ⟨we, hwe⟩ : ∃ we, withErr os bs = we := ⟨_, rfl⟩
      obtain ⟨ce, hce⟩ : ∃ ce, checkBathsErr os bs = ce := ⟨_, rfl⟩
      rw [hb] at hbl
      rw [hc] at hcl
      have HN := Lib.hid (And.intro hE (And.intro hb (And.intro hc (And.intro hwx (And.intro hwe hce)))))
      have HL := Lib.hid (And.intro hbl hcl)
      clear hE hb hc hwx hwe hce hbl hcl
      go_enter Tryz.func4, Tryz.ntmps4
      go_wp2_with fail
      refine h14.mono ?_
      rintro e w1 ⟨rfl, rfl⟩
      clear h14
      have h1 := best_any H.out
      rw [HN.out.1, HN.out.2.1] at h1
      go_wp2_with fail
      refine h1.mono ?_
      rintro e w2 ⟨e2, Aa, ca, rfl, ha, _⟩
      have HX := Lib.hid e2
      have HA := Lib.hid ha
      clear h1 e2 ha
      have h1 := refBest_any (H.out.ext HX.out)
      rw [HN.out.1, HN.out.2.1] at h1
      go_wp2_with fail
      refine h1.mono ?_
      rintro e w3 ⟨e3, Ab, cb, rfl, hb, _⟩
      replace HX := Lib.hid (HX.out.trans e3)
      replace HA := Lib.hid (HA.out.ext e3)
      have HB := Lib.hid hb
      clear h1 e3 hb
      have h1 := costs_any (H.out.ext HX.out)
      rw [HN.out.1, HN.out.2.2.1] at h1
      go_wp2_with fail
      refine h1.mono ?_
      rintro e w4 ⟨e4, Ac, cc, rfl, hc, _⟩
      replace HX := Lib.hid (HX.out.trans e4)
      replace HA := Lib.hid (HA.out.ext e4)
      replace HB := Lib.hid (HB.out.ext e4)
      have HC := Lib.hid hc
      clear h1 e4 hc
      have h1 := refCosts_any (H.out.ext HX.out)
      rw [HN.out.1, HN.out.2.2.1] at h1
      go_wp2_with fail
      refine h1.mono ?_
      rintro e w5 ⟨e5, Ad, cd, rfl, hd, _⟩
      replace HX := Lib.hid (HX.out.trans e5)
      replace HA := Lib.hid (HA.out.ext e5)
      replace HB := Lib.hid (HB.out.ext e5)
      replace HC := Lib.hid (HC.out.ext e5)
      have HD := Lib.hid hd
      clear h1 e5 hd
      have h1 := worth27_any (H.out.ext HX.out) A' n' c' bs HM.out.1 HM.out.2 (HH.out.ext HX.out)
      rw [HN.out.2.2.2.1, HN.out.2.2.2.2.1] at h1
      go_wp2_with fail
      refine h1.mono ?_
      rintro e w6 ⟨rfl, e6⟩
      replace HX := Lib.hid (HX.out.trans e6)
      replace HA := Lib.hid (HA.out.ext e6)
      replace HB := Lib.hid (HB.out.ext e6)
      replace HC := Lib.hid (HC.out.ext e6)
      replace HD := Lib.hid (HD.out.ext e6)
      clear h1 e6
      have h1 := refWorth_any (H.out.ext HX.out) A' n' c' bs HM.out.1 HM.out.2 (HH.out.ext HX.out)
      rw [HN.out.2.2.2.1, HN.out.2.2.2.2.1] at h1
      go_wp2_with fail
      refine h1.mono ?_
      rintro e w7 ⟨rfl, e7⟩
      replace HX := Lib.hid (HX.out.trans e7)
      replace HA := Lib.hid (HA.out.ext e7)
      replace HB := Lib.hid (HB.out.ext e7)
      replace HC := Lib.hid (HC.out.ext e7)
      replace HD := Lib.hid (HD.out.ext e7)
      clear h1 e7
      have h1 := checkBaths_any (H.out.ext HX.out) A' n' c' bs HM.out.1 HM.out.2 (HH.out.ext HX.out)
      rw [HN.out.2.2.2.2.2] at h1
      go_wp2_with fail
      refine h1.mono ?_
      rintro e w8 ⟨rfl, e8⟩
      replace HX := Lib.hid (HX.out.trans e8)
      replace HA := Lib.hid (HA.out.ext e8)
      replace HB := Lib.hid (HB.out.ext e8)
      replace HC := Lib.hid (HC.out.ext e8)
      replace HD := Lib.hid (HD.out.ext e8)
      clear h1 e8
      have h1 := refCheckBaths_any (H.out.ext HX.out) A' n' c' bs HM.out.1 HM.out.2 (HH.out.ext HX.out)
      rw [HN.out.2.2.2.2.2] at h1
      go_wp2_with fail
      refine h1.mono ?_
      rintro e w9 ⟨rfl, e9⟩
      replace HX := Lib.hid (HX.out.trans e9)
      replace HA := Lib.hid (HA.out.ext e9)
      replace HB := Lib.hid (HB.out.ext e9)
      replace HC := Lib.hid (HC.out.ext e9)
      replace HD := Lib.hid (HD.out.ext e9)
      clear h1 e9
      have h1 := longs_any Aa Ab bl.length ca bl.length cb bl bl w9 rfl rfl HL.out.1 HL.out.1 HA.out HB.out
      rw [decide_eq_true rfl] at h1
      go_wp2_with fail
      refine h1.mono ?_
      rintro e w10 ⟨rfl, e10⟩
      have e0 : Ext w9 w10 := e10
      replace HX := Lib.hid (HX.out.trans e0)
      replace HC := Lib.hid (HC.out.ext e0)
      replace HD := Lib.hid (HD.out.ext e0)
      clear h1 e10 e0
      have h1 := ints_any Ac Ad cl.length cc cl.length cd cl cl w10 rfl rfl HL.out.2 HL.out.2 HC.out HD.out
      rw [decide_eq_true rfl] at h1
      go_wp2_with fail
      refine h1.mono ?_
      rintro e w11 ⟨rfl, e11⟩
      have e0 : Ext w10 w11 := e11
      replace HX := Lib.hid (HX.out.trans e0)
      have h15 := works_any w11
      clear h1 e11 e0
      go_wp2_with fail
      refine h15.mono ?_
      rintro e w12 ⟨rfl, e12⟩
      have HE := Lib.hid (HX.out.trans e12)
      clear h15 e12
      go_wp2
      go_ret
      exact ⟨rfl, HE.out⟩
end
end Go.Proofs.YtmlmnljbegcjcaaGreat

