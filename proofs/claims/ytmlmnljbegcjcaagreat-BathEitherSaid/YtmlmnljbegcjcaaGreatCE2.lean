import Derived.Test.YtmlmnljbegcjcaaGreatC17
import Derived.ArgAppend
/- The reference's Without: the list without one order, laid anew. -/
namespace Go.Proofs.YtmlmnljbegcjcaaGreat
section
open Go.RowKit Go.Shelf
attribute [local irreducible] bitCells

theorem wpList_more {P : Program} {ops : Array Oper} {Q : Exit → Act → World → Prop} {rest : List Oper} {o : Oper} {a : Act} {w w' : World} {v : Value} (hgd : o.guard = none) (hr : (execOp a.eval o).run P w = .ok (.value v) w')
    (h : wpList P ops Q rest (a.put o.dst v) w') : wpList P ops Q (o :: rest) a w := by
  simp only [wpList]
  rw [if_pos (by simp [Region.wanted, hgd])]
  left
  unfold Oper.wp
  rw [hr]
  exact h
theorem info56c : (Tryz.prog.info? 56).map (fun i => (i.zero, i.size, i.bytes)) = some (some (.agg #[.int .i64 0, .int .i64 0, .int .i64 0, .int .i64 0, .int .i64 0]), 5, 40) := by kernel_rfl
theorem u22c : Tryz.prog.underlying 22 = some (.slice 56) := by kernel_rfl
theorem u22d : Tryz.prog.underlying 22 = some (.slice (Tryz.prog.elem 22)) := by kernel_rfl
theorem e22 : Tryz.prog.elem 22 = 56 := by kernel_rfl
theorem run_slice22h (w : World) (b o n c k : Nat) (hk : k ≤ c) :
    (Instr.sliceAt 22 (.slice (some ⟨b, o, none⟩) n c) none (some (.int .i64 (k : Int))) none).run Tryz.prog w = .ok (.slice (some ⟨b, o, none⟩) k c) w := by
  obtain ⟨i, hi, hz, hs, hb⟩ := info_parts info56c
  rw [run_sliceAt_slice _ _ _ _ _ _ u22d, run_slice_h _ _ _ _ _ u22d _ _ (by omega) (by omega), e22]
  simp [sizeOf, typeInfo, hi, hs, Result.andThen, sliced, Addr.add_lit]
theorem run_slice22l (w : World) (b o n c k : Nat) (hk : k ≤ n) (hc : n ≤ c) :
    ∃ o2, (k < n → o2 = o + k * 5) ∧ (Instr.sliceAt 22 (.slice (some ⟨b, o, none⟩) n c) (some (.int .i64 (k : Int))) none none).run Tryz.prog w = .ok (.slice (some ⟨b, o2, none⟩) (n - k) (c - k)) w := by
  obtain ⟨i, hi, hz, hs, hb⟩ := info_parts info56c
  rw [run_sliceAt_slice _ _ _ _ _ _ u22d, run_slice_l _ _ _ _ _ u22d _ _ (by omega) (by omega), e22]
  by_cases h : c = k
  · exact ⟨o, fun h2 => by omega, by simp [sizeOf, typeInfo, hi, hs, Result.andThen, sliced, h]⟩
  · exact ⟨o + k * 5, fun _ => rfl, by simp [sizeOf, typeInfo, hi, hs, Result.andThen, sliced, h, Addr.add_lit]⟩
theorem run_append_none22 (W : World) (ty : TypeId) (g n cap : Nat) (a : Addr) (c' : Nat) (hn : n ≤ cap) : (Builtin.append_ #[22, 22] ty #[.slice (some ⟨g, 0, none⟩) n cap, .slice (some a) 0 c']).run Tryz.prog W = .ok (.slice (some ⟨g, 0, none⟩) n cap) W := by
  obtain ⟨i0, hi0, hz0, hz1, hz2⟩ := info_parts info56c
  have := run_append_room_cells (P := Tryz.prog) (w := W) 22 ty 56 i0 u22c hi0 g 0 n cap a 0 c' [] (by simp) (fun j u hu => by simp at hu) (fun u hu => by simp at hu) (by omega) (fun j hj => by simp at hj) (fun j hj => by simp at hj)
  exact this
theorem flatO_get : ∀ (ds : List Odr) (j : Nat), (ds.flatMap encO)[j]? = (ds[j / 5]?).bind fun x => (encO x)[j % 5]? := by
  intro ds
  induction ds with
  | nil => intro j; simp
  | cons x ds ih =>
    intro j
    have hl : (encO x).length = 5 := rfl
    rw [List.flatMap_cons]
    by_cases h : j < 5
    · rw [List.getElem?_append_left (by omega), Nat.div_eq_of_lt h, Nat.mod_eq_of_lt h]
      rfl
    · rw [List.getElem?_append_right (by omega), hl, ih]
      have h1 : j / 5 = (j - 5) / 5 + 1 := by omega
      have h2 : j % 5 = (j - 5) % 5 := by omega
      rw [h1, h2]
      rfl
theorem flatO_len (ds : List Odr) : (ds.flatMap encO).length = ds.length * 5 := by
  induction ds with
  | nil => rfl
  | cons x ds ih => rw [List.flatMap_cons, List.length_append, ih, List.length_cons]; show 5 + _ = _; omega
theorem heldO_flat {W : World} {b off : Nat} {ds : List Odr} (h : ∀ j x, ds[j]? = some x → ∀ i v, (encO x)[i]? = some v → W.cell? ⟨b, off + j * 5 + i, none⟩ = some v) : ∀ j u, (ds.flatMap encO)[j]? = some u → W.cell? ((⟨b, off, none⟩ : Addr).add j) = some u := by
  intro j u hu
  rw [flatO_get, Option.bind_eq_some_iff] at hu
  obtain ⟨x, hx, hu⟩ := hu
  have := h (j / 5) x hx (j % 5) u hu
  rw [Addr.add_lit, show off + j = off + j / 5 * 5 + j % 5 from by omega]
  exact this
theorem takeO_cells {W : World} {b off : Nat} {ds : List Odr} (h : ∀ j u, (ds.flatMap encO)[j]? = some u → W.cell? ((⟨b, off, none⟩ : Addr).add j) = some u) (k : Nat) : ∀ j u, ((ds.take k).flatMap encO)[j]? = some u → W.cell? ((⟨b, off, none⟩ : Addr).add j) = some u := by
  intro j u hu
  refine h j u ?_
  rw [flatO_get] at hu ⊢
  rw [List.getElem?_take] at hu
  split at hu
  · exact hu
  · simp at hu
theorem dropO_cells {W : World} {b off : Nat} {ds : List Odr} (h : ∀ j u, (ds.flatMap encO)[j]? = some u → W.cell? ((⟨b, off, none⟩ : Addr).add j) = some u) (k : Nat) : ∀ j u, ((ds.drop k).flatMap encO)[j]? = some u → W.cell? ((⟨b, off + k * 5, none⟩ : Addr).add j) = some u := by
  intro j u hu
  have := h (k * 5 + j) u (by
    rw [flatO_get] at hu ⊢
    rw [List.getElem?_drop] at hu
    rw [show (k * 5 + j) / 5 = k + j / 5 from by omega, show (k * 5 + j) % 5 = j % 5 from by omega]
    exact hu)
  rw [Addr.add_lit] at this ⊢
  rw [Nat.add_assoc]
  exact this
def wo1D (i : Nat) : Tmp := if i = 0 then 5 else if i = 1 then 6 else if i = 2 then 7 else if i = 3 then 8 else if i = 4 then 9 else if i = 5 then 10 else if i = 6 then 11 else if i = 7 then 12 else 13
def wo1S (b1 o1 n c kk B : Nat) (ms : List Odr) (ix : Nat) (v : Value) (W : World) : Prop :=
  match ix with
  | 0 => ∃ g, v = .slice (some ⟨g, 0, none⟩) 0 0 ∧ B ≤ g ∧ W.heap[g]? = some (.cells #[] 56 (0, 0))
  | 1 => v = .slice (some ⟨b1, o1, none⟩) n c
  | 2 => v = .int .i64 (kk : Int)
  | 3 => v = .slice (some ⟨b1, o1, none⟩) kk c
  | 4 => ∃ g cap, v = .slice (some ⟨g, 0, none⟩) kk cap ∧ B ≤ g ∧ W.ownsRow B 56 5 v kk ((ms.take kk).flatMap encO)
  | 5 => v = .slice (some ⟨b1, o1, none⟩) n c
  | 6 => v = .int .i64 (kk : Int)
  | 7 => v = .int .i64 ((kk + 1 : Nat) : Int)
  | 8 => ∃ o2, v = .slice (some ⟨b1, o2, none⟩) (n - (kk + 1)) (c - (kk + 1)) ∧ (kk + 1 < n → o2 = o1 + (kk + 1) * 5)
  | _ => True
noncomputable def wo1Reg : Array Oper := (Tryz.f47.body.bind (regionOf · 1)).getD #[]
theorem wo1S_ext {b1 o1 n c kk B : Nat} {ms : List Odr} : ∀ (i : Nat) (v : Value) (W W' : World), wo1S b1 o1 n c kk B ms i v W → Below W.heap.size W W' → wo1S b1 o1 n c kk B ms i v W' := by
  intro i v W W' h e
  match i with
  | 0 => (obtain ⟨h1, h2, h3, h4⟩ := h; exact ⟨h1, h2, h3, row_ext h4 e⟩)
  | 1 => exact h
  | 2 => exact h
  | 3 => exact h
  | 4 => (obtain ⟨h1, h2, h3, h4, h5⟩ := h; exact ⟨h1, h2, h3, h4, owns_ext h5 e⟩)
  | 5 => exact h
  | 6 => exact h
  | 7 => exact h
  | 8 => exact h
  | k + 9 => exact trivial
def wo1Ok (b1 o1 n c kk B : Nat) (ms : List Odr) (Q : Exit → Act → World → Prop) (a : Act) (W : World) (ix : Nat) (o : Oper) : Prop :=
  (∀ j b, o.guard = some (j, b) → a.eval (.tmp (wo1D j)) = .bool b) ∧ o.wp Tryz.prog a W (fun a'' W' => ∃ v, a'' = a.put o.dst v ∧ wo1S b1 o1 n c kk B ms ix v W' ∧ Below W.heap.size W W') Q
section
variable {b1 o1 n c kk B : Nat} {ms : List Odr} {Q : Exit → Act → World → Prop} {a : Act} {V W : World} {o : Oper}
set_option maxHeartbeats 1000000 in
theorem wo1_op0 (hVB : B ≤ V.heap.size) (hB : Ext V W) (ho : wo1Reg[0]? = some o) : wo1Ok b1 o1 n c kk B ms Q a W 0 o := by
  have hop := op_at ho (·.op) (x := Op.buildSlice 22 0 #[]) (by kernel_rfl)
  have hgd := op_at ho (·.guard) (x := none) (by kernel_rfl)
  refine ⟨fun j b h => (by rw [hgd] at h; cases h), ?_⟩
  exact specs_value (R := fun v W => wo1S b1 o1 n c kk B ms 0 v W) (v := .slice (some ⟨W.heap.size, 0, none⟩) 0 0) (W' := W.alloc (.cells #[] 56)) (by simp [execOp, hop, go_sem]) ⟨_, rfl, Nat.le_trans hVB hB.size, row_last _ _ _ rfl⟩ (ext_alloc _ _)
set_option maxHeartbeats 1000000 in
theorem wo1_op1 (o0 : a.eval (.tmp 0) = .slice (some ⟨b1, o1, none⟩) n c) (ho : wo1Reg[1]? = some o) : wo1Ok b1 o1 n c kk B ms Q a W 1 o := by
  have hop := op_at ho (·.op) (x := Op.move (Operand.tmp 0)) (by kernel_rfl)
  have hgd := op_at ho (·.guard) (x := none) (by kernel_rfl)
  refine ⟨fun j b h => (by rw [hgd] at h; cases h), ?_⟩
  exact specs_value (R := fun v W => wo1S b1 o1 n c kk B ms 1 v W) (v := .slice (some ⟨b1, o1, none⟩) n c) (by simp [execOp, hop, go_sem, ev o0]) rfl (Ext.refl W)
set_option maxHeartbeats 1000000 in
theorem wo1_op2 (oo1 : a.eval (.tmp 1) = .int .i64 (kk : Int)) (ho : wo1Reg[2]? = some o) : wo1Ok b1 o1 n c kk B ms Q a W 2 o := by
  have hop := op_at ho (·.op) (x := Op.move (Operand.tmp 1)) (by kernel_rfl)
  have hgd := op_at ho (·.guard) (x := none) (by kernel_rfl)
  refine ⟨fun j b h => (by rw [hgd] at h; cases h), ?_⟩
  exact specs_value (R := fun v W => wo1S b1 o1 n c kk B ms 2 v W) (v := .int .i64 (kk : Int)) (by simp [execOp, hop, go_sem, ev oo1]) rfl (Ext.refl W)
set_option maxHeartbeats 1000000 in
theorem wo1_op3 (hkn : kk < n) (hnc : n ≤ c) (haft : ∀ j, (o.after.any fun e => decide (e.on = j) && Region.binds .any e) = true → wo1S b1 o1 n c kk B ms j (a.eval (.tmp (wo1D j))) W) (ho : wo1Reg[3]? = some o) : wo1Ok b1 o1 n c kk B ms Q a W 3 o := by
  have hop := op_at ho (·.op) (x := Op.slice 22 (Operand.tmp 6) none (some (Operand.tmp 7)) none) (by kernel_rfl)
  have hgd := op_at ho (·.guard) (x := none) (by kernel_rfl)
  have e1 : a.eval (.tmp 6) = .slice (some ⟨b1, o1, none⟩) n c := haft 1 (op_at ho (fun o => o.after.any fun e => decide (e.on = 1) && Region.binds .any e) (x := true) (by kernel_rfl))
  have e2 : a.eval (.tmp 7) = .int .i64 (kk : Int) := haft 2 (op_at ho (fun o => o.after.any fun e => decide (e.on = 2) && Region.binds .any e) (x := true) (by kernel_rfl))
  refine ⟨fun j b h => (by rw [hgd] at h; cases h), ?_⟩
  have hs4 := run_slice22h W b1 o1 n c kk (by omega)
  exact specs_value (R := fun v W => wo1S b1 o1 n c kk B ms 3 v W) (v := .slice (some ⟨b1, o1, none⟩) kk c) (by simp [execOp, hop, e1, e2, hs4, Result.andThen]) rfl (Ext.refl W)
set_option maxHeartbeats 1000000 in
theorem wo1_op4 (hn : n = ms.length) (hkn : kk < n) (hn9 : n ≤ 5000) (hVB : B ≤ V.heap.size) (hq : ∀ W, Ext V W → ∀ j u, (ms.flatMap encO)[j]? = some u → W.cell? ((⟨b1, o1, none⟩ : Addr).add j) = some u) (hB : Ext V W) (haft : ∀ j, (o.after.any fun e => decide (e.on = j) && Region.binds .any e) = true → wo1S b1 o1 n c kk B ms j (a.eval (.tmp (wo1D j))) W) (ho : wo1Reg[4]? = some o) : wo1Ok b1 o1 n c kk B ms Q a W 4 o := by
  have hop := op_at ho (·.op) (x := Op.call { callee := Callee.builtin Builtin.append, args := #[Operand.tmp 5, Operand.tmp 8], argTypes := #[22, 22] }) (by kernel_rfl)
  have hgd := op_at ho (·.guard) (x := none) (by kernel_rfl)
  have e0 : wo1S b1 o1 n c kk B ms 0 (a.eval (.tmp 5)) W := haft 0 (op_at ho (fun o => o.after.any fun e => decide (e.on = 0) && Region.binds .any e) (x := true) (by kernel_rfl))
  have e3 : a.eval (.tmp 8) = .slice (some ⟨b1, o1, none⟩) kk c := haft 3 (op_at ho (fun o => o.after.any fun e => decide (e.on = 3) && Region.binds .any e) (x := true) (by kernel_rfl))
  refine ⟨fun j b h => (by rw [hgd] at h; cases h), ?_⟩
  obtain ⟨g, e0v, hBg, e0r⟩ := e0
  obtain ⟨i0, hi, hz0, hz1, hz2⟩ := info_parts info56c
  by_cases hk0 : kk = 0
  · subst hk0
    exact specs_value (R := fun v W => wo1S b1 o1 n c 0 B ms 4 v W) (v := .slice (some ⟨g, 0, none⟩) 0 0) (W' := W) (by simp [execOp, hop, resolve, invoke, builtin, e0v, e3, run_append_none22, Result.andThen]) ⟨g, 0, rfl, hBg, ⟨rfl, .inr ⟨g, 0, #[], rfl, hBg, e0r, Nat.le_refl _, Nat.zero_le _, rfl, rfl⟩⟩⟩ (Ext.refl W)
  · obtain ⟨v', w', hrun, r1, r2⟩ := run_append_arg_grows (P := Tryz.prog) W 22 o.type 56 i0 (.agg #[.int .i64 0, .int .i64 0, .int .i64 0, .int .i64 0, .int .i64 0]) 5 40 u22c hi hz0 hz1 hz2 rfl (by decide) ⟨g, 0, none⟩ 0 0 [] rfl (fun j u hu => by simp at hu) ⟨b1, o1, none⟩ kk c ((ms.take kk).flatMap encO) (by rw [flatO_len, List.length_take, ← hn, Nat.min_eq_left (by omega)]) (takeO_cells (hq W hB) kk) (by omega) (by unfold maxLen; omega) (by omega)
    rw [Nat.zero_add, List.nil_append] at r1
    have r1' := r1
    obtain ⟨g1, cap, hv', hg1, _⟩ := r1'.form (by omega)
    exact specs_value (R := fun v W => wo1S b1 o1 n c kk B ms 4 v W) (v := v') (W' := w') (by simp [execOp, hop, resolve, invoke, builtin, e0v, e3, hrun, Result.andThen]) ⟨g1, cap, hv', Nat.le_trans (Nat.le_trans hVB hB.size) hg1, owns_mono r1 (Nat.le_trans hVB hB.size)⟩ ((Below.refl W.heap.size W).grown r2 (Nat.le_refl _) (fun k e => by cases e))
set_option maxHeartbeats 1000000 in
theorem wo1_op5 (o0 : a.eval (.tmp 0) = .slice (some ⟨b1, o1, none⟩) n c) (ho : wo1Reg[5]? = some o) : wo1Ok b1 o1 n c kk B ms Q a W 5 o := by
  have hop := op_at ho (·.op) (x := Op.move (Operand.tmp 0)) (by kernel_rfl)
  have hgd := op_at ho (·.guard) (x := none) (by kernel_rfl)
  refine ⟨fun j b h => (by rw [hgd] at h; cases h), ?_⟩
  exact specs_value (R := fun v W => wo1S b1 o1 n c kk B ms 5 v W) (v := .slice (some ⟨b1, o1, none⟩) n c) (by simp [execOp, hop, go_sem, ev o0]) rfl (Ext.refl W)
set_option maxHeartbeats 1000000 in
theorem wo1_op6 (oo1 : a.eval (.tmp 1) = .int .i64 (kk : Int)) (ho : wo1Reg[6]? = some o) : wo1Ok b1 o1 n c kk B ms Q a W 6 o := by
  have hop := op_at ho (·.op) (x := Op.move (Operand.tmp 1)) (by kernel_rfl)
  have hgd := op_at ho (·.guard) (x := none) (by kernel_rfl)
  refine ⟨fun j b h => (by rw [hgd] at h; cases h), ?_⟩
  exact specs_value (R := fun v W => wo1S b1 o1 n c kk B ms 6 v W) (v := .int .i64 (kk : Int)) (by simp [execOp, hop, go_sem, ev oo1]) rfl (Ext.refl W)
set_option maxHeartbeats 1000000 in
theorem wo1_op7 (hw : IntKind.i64.wrap ((kk : Int) + 1) = ((kk + 1 : Nat) : Int)) (haft : ∀ j, (o.after.any fun e => decide (e.on = j) && Region.binds .any e) = true → wo1S b1 o1 n c kk B ms j (a.eval (.tmp (wo1D j))) W) (ho : wo1Reg[7]? = some o) : wo1Ok b1 o1 n c kk B ms Q a W 7 o := by
  have hop := op_at ho (·.op) (x := Op.binOp BinOp.add 3 (Operand.tmp 11) (Operand.const (Value.int IntKind.i64 1)) 3) (by kernel_rfl)
  have hgd := op_at ho (·.guard) (x := none) (by kernel_rfl)
  have e6 : a.eval (.tmp 11) = .int .i64 (kk : Int) := haft 6 (op_at ho (fun o => o.after.any fun e => decide (e.on = 6) && Region.binds .any e) (x := true) (by kernel_rfl))
  refine ⟨fun j b h => (by rw [hgd] at h; cases h), ?_⟩
  exact specs_value (R := fun v W => wo1S b1 o1 n c kk B ms 7 v W) (v := .int .i64 ((kk + 1 : Nat) : Int)) (by simp [execOp, hop, go_sem, ev e6, hw]) rfl (Ext.refl W)
set_option maxHeartbeats 1000000 in
theorem wo1_op8 (hkn : kk < n) (hnc : n ≤ c) (haft : ∀ j, (o.after.any fun e => decide (e.on = j) && Region.binds .any e) = true → wo1S b1 o1 n c kk B ms j (a.eval (.tmp (wo1D j))) W) (ho : wo1Reg[8]? = some o) : wo1Ok b1 o1 n c kk B ms Q a W 8 o := by
  have hop := op_at ho (·.op) (x := Op.slice 22 (Operand.tmp 10) (some (Operand.tmp 12)) none none) (by kernel_rfl)
  have hgd := op_at ho (·.guard) (x := none) (by kernel_rfl)
  have e5 : a.eval (.tmp 10) = .slice (some ⟨b1, o1, none⟩) n c := haft 5 (op_at ho (fun o => o.after.any fun e => decide (e.on = 5) && Region.binds .any e) (x := true) (by kernel_rfl))
  have e7 : a.eval (.tmp 12) = .int .i64 ((kk + 1 : Nat) : Int) := haft 7 (op_at ho (fun o => o.after.any fun e => decide (e.on = 7) && Region.binds .any e) (x := true) (by kernel_rfl))
  refine ⟨fun j b h => (by rw [hgd] at h; cases h), ?_⟩
  obtain ⟨o2, ho2, hr2⟩ := run_slice22l W b1 o1 n c (kk + 1) (by omega) hnc
  rw [show ((kk + 1 : Nat) : Int) = (kk : Int) + 1 from by omega] at hr2
  exact specs_value (R := fun v W => wo1S b1 o1 n c kk B ms 8 v W) (v := .slice (some ⟨b1, o2, none⟩) (n - (kk + 1)) (c - (kk + 1))) (W' := W) (by simp [execOp, hop, e5, e7, hr2, Result.andThen]) ⟨o2, rfl, ho2⟩ (Ext.refl W)
set_option maxRecDepth 100000 in
set_option maxHeartbeats 4000000 in
theorem wo1_wp {id : Nat} (hlen : a.tmps.size = 15) (o0 : a.eval (.tmp 0) = .slice (some ⟨b1, o1, none⟩) n c) (oo1 : a.eval (.tmp 1) = .int .i64 (kk : Int)) (hVB : B ≤ V.heap.size) (hkn : kk < n) (hnc : n ≤ c) (hn : n = ms.length) (hn9 : n ≤ 5000) (hq : ∀ W, Ext V W → ∀ j u, (ms.flatMap encO)[j]? = some u → W.cell? ((⟨b1, o1, none⟩ : Addr).add j) = some u) (hw : IntKind.i64.wrap ((kk : Int) + 1) = ((kk + 1 : Nat) : Int)) (K : (∀ W v0 v4 v8, Ext V W → wo1S b1 o1 n c kk B ms 0 v0 W → wo1S b1 o1 n c kk B ms 4 v4 W → wo1S b1 o1 n c kk B ms 8 v8 W → wpList Tryz.prog wo1Reg Q (wo1Reg.toList.drop 9) (puts a [(5, v0), (6, .slice (some ⟨b1, o1, none⟩) n c), (7, .int .i64 (kk : Int)), (8, .slice (some ⟨b1, o1, none⟩) kk c), (9, v4), (10, .slice (some ⟨b1, o1, none⟩) n c), (11, .int .i64 (kk : Int)), (12, .int .i64 ((kk + 1 : Nat) : Int)), (13, v8)]) W)) : (Code.region id wo1Reg true).wp Tryz.prog Q a V := by
  refine wp_region_specs_sink (ops := wo1Reg) 9 (wo1S b1 o1 n c kk B ms) (Ext V) (by kernel_rfl) (by rw [hlen]; kernel_rfl) (by kernel_rfl) ⟨rfl, rfl, rfl, Nat.le_refl _, fun _ _ => rfl⟩ (fun _ _ h e => h.trans e) wo1S_ext wo1D (by kernel_rfl) ?_ ?_
  · intro i o hi ho a' W hB hsz hold haft
    match i, hi with
    | 0, _ => exact wo1_op0 hVB hB ho
    | 1, _ => exact wo1_op1 ((hold 0 (by kernel_rfl)).trans o0) ho
    | 2, _ => exact wo1_op2 ((hold 1 (by kernel_rfl)).trans oo1) ho
    | 3, _ => exact wo1_op3 hkn hnc haft ho
    | 4, _ => exact wo1_op4 hn hkn hn9 hVB hq hB haft ho
    | 5, _ => exact wo1_op5 ((hold 0 (by kernel_rfl)).trans o0) ho
    | 6, _ => exact wo1_op6 ((hold 1 (by kernel_rfl)).trans oo1) ho
    | 7, _ => exact wo1_op7 hw haft ho
    | 8, _ => exact wo1_op8 hkn hnc haft ho
    | m + 9, h => exact absurd h (by omega)
  · intro a1 W hB hsz hdf hold hS
    obtain ⟨v0, g0⟩ : ∃ v, v = a1.eval (.tmp 5) := ⟨_, rfl⟩
    obtain ⟨v4, g4⟩ : ∃ v, v = a1.eval (.tmp 9) := ⟨_, rfl⟩
    obtain ⟨v8, g8⟩ : ∃ v, v = a1.eval (.tmp 13) := ⟨_, rfl⟩
    have hall : ∀ z, z ∈ ([(5, v0), (6, .slice (some ⟨b1, o1, none⟩) n c), (7, .int .i64 (kk : Int)), (8, .slice (some ⟨b1, o1, none⟩) kk c), (9, v4), (10, .slice (some ⟨b1, o1, none⟩) n c), (11, .int .i64 (kk : Int)), (12, .int .i64 ((kk + 1 : Nat) : Int)), (13, v8)] : List (Tmp × Value)) → z.1 < a.tmps.size ∧ a1.eval (.tmp z.1) = z.2 := by
      intro z hz
      rw [hlen]
      simp only [List.mem_cons, List.not_mem_nil, or_false] at hz
      rcases hz with rfl | rfl | rfl | rfl | rfl | rfl | rfl | rfl | rfl
      · exact ⟨(show (5 : Nat) < 15 by omega), g0.symm⟩
      · exact ⟨(show (6 : Nat) < 15 by omega), hS 1 (by omega)⟩
      · exact ⟨(show (7 : Nat) < 15 by omega), hS 2 (by omega)⟩
      · exact ⟨(show (8 : Nat) < 15 by omega), hS 3 (by omega)⟩
      · exact ⟨(show (9 : Nat) < 15 by omega), g4.symm⟩
      · exact ⟨(show (10 : Nat) < 15 by omega), hS 5 (by omega)⟩
      · exact ⟨(show (11 : Nat) < 15 by omega), hS 6 (by omega)⟩
      · exact ⟨(show (12 : Nat) < 15 by omega), hS 7 (by omega)⟩
      · exact ⟨(show (13 : Nat) < 15 by omega), g8.symm⟩
    have ha := act_puts hsz hdf hall (fun t ht => hold t (all_ne_of (l := [(5, v0), (6, .slice (some ⟨b1, o1, none⟩) n c), (7, .int .i64 (kk : Int)), (8, .slice (some ⟨b1, o1, none⟩) kk c), (9, v4), (10, .slice (some ⟨b1, o1, none⟩) n c), (11, .int .i64 (kk : Int)), (12, .int .i64 ((kk + 1 : Nat) : Int)), (13, v8)]) (by kernel_rfl) ht))
    rw [ha]
    exact K W v0 v4 v8 hB (by rw [g0]; exact hS 0 (by omega)) (by rw [g4]; exact hS 4 (by omega)) (by rw [g8]; exact hS 8 (by omega))
end

set_option maxRecDepth 100000 in
set_option maxHeartbeats 2000000 in
theorem wo1_tail {a : Act} {V : World} {Q : Exit → Act → World → Prop} {B n cap1 g1 kk b1 o2 c2 : Nat} {ms : List Odr} (h15 : a.tmps.size = 15)
    (e9 : a.eval (.tmp 9) = .slice (some ⟨g1, 0, none⟩) kk cap1) (e13 : a.eval (.tmp 13) = .slice (some ⟨b1, o2, none⟩) (n - (kk + 1)) c2)
    (hown : V.ownsRow B 56 5 (.slice (some ⟨g1, 0, none⟩) kk cap1) kk ((ms.take kk).flatMap encO)) (hg1 : B ≤ g1) (hBV : B ≤ V.heap.size) (hkn : kk < n) (hn : n = ms.length)
    (hq : kk + 1 < n → ∀ j u, ((ms.drop (kk + 1)).flatMap encO)[j]? = some u → V.cell? ((⟨b1, o2, none⟩ : Addr).add j) = some u) (hn9 : n ≤ 5000)
    (K : ∀ g3 cap3 W, W.ownsRow B 56 5 (.slice (some ⟨g3, 0, none⟩) (n - 1) cap3) (n - 1) ((ms.eraseIdx kk).flatMap encO) → Below B V W →
      Q .normal ((a.put (some 14) (.slice (some ⟨g3, 0, none⟩) (n - 1) cap3)).put (some 4) (.slice (some ⟨g3, 0, none⟩) (n - 1) cap3)) W) : wpList Tryz.prog wo1Reg Q (wo1Reg.toList.drop 9) a V := by
  obtain ⟨o6, o7, hdr, h6, h7⟩ : ∃ o6 o7, wo1Reg.toList.drop 9 = [o6, o7] ∧ wo1Reg[9]? = some o6 ∧ wo1Reg[10]? = some o7 := by
    have hs : wo1Reg.size = 11 := by kernel_rfl
    refine ⟨wo1Reg[9], wo1Reg[10], ?_, Array.getElem?_eq_getElem _, Array.getElem?_eq_getElem _⟩
    rw [List.drop_eq_getElem_cons (by simp [hs]), List.drop_eq_getElem_cons (by simp [hs]), List.drop_eq_nil_of_le (by simp [hs])]
    simp
  rw [hdr]
  obtain ⟨i0, hi0, hz0, hz1, hz2⟩ := info_parts info56c
  have hop6 := op_at h6 (·.op) (x := Op.call { callee := Callee.builtin Builtin.append, args := #[Operand.tmp 9, Operand.tmp 13], argTypes := #[22, 22] }) (by kernel_rfl)
  have hg6 := op_at h6 (·.guard) (x := none) (by kernel_rfl)
  have hd6 := op_at h6 (·.dst) (x := some 14) (by kernel_rfl)
  have e1 : (ms.eraseIdx kk).flatMap encO = (ms.take kk).flatMap encO ++ (ms.drop (kk + 1)).flatMap encO := by rw [List.eraseIdx_eq_take_drop_succ, List.flatMap_append]
  have rest : ∀ g3 cap3 V3, V3.ownsRow B 56 5 (.slice (some ⟨g3, 0, none⟩) (n - 1) cap3) (n - 1) ((ms.eraseIdx kk).flatMap encO) → Below B V V3 → wpList Tryz.prog wo1Reg Q [o7] (a.put (some 14) (.slice (some ⟨g3, 0, none⟩) (n - 1) cap3)) V3 := by
    intro g3 cap3 V3 hown3 hE3
    have K3 := K g3 cap3 V3 hown3 hE3
    obtain ⟨a6, ha6⟩ : ∃ a6, a.put (some 14) (.slice (some ⟨g3, 0, none⟩) (n - 1) cap3) = a6 := ⟨_, rfl⟩
    have e14 : a6.eval (.tmp 14) = .slice (some ⟨g3, 0, none⟩) (n - 1) cap3 := by rw [← ha6]; exact eval_put_same (d := 14) (by rw [h15]; decide)
    rw [ha6] at K3
    rw [ha6]
    refine wpList_one (v := .slice (some ⟨g3, 0, none⟩) (n - 1) cap3) (op_at h7 (·.guard) (x := none) (by kernel_rfl)) (by simp [execOp, show o7.op = .assign (.tmp 14) from op_at h7 (·.op) (by kernel_rfl), go_sem, ev e14]) ?_
    rw [show o7.dst = some 4 from op_at h7 (·.dst) (by kernel_rfl)]
    exact K3
  by_cases hlast : n - (kk + 1) = 0
  · have hnk : n - 1 = kk := by omega
    have hdrop : ms.drop (kk + 1) = [] := List.drop_eq_nil_of_le (by omega)
    rw [hdrop, List.flatMap_nil, List.append_nil] at e1
    have r := rest g1 cap1 V (by rw [e1, hnk]; exact hown) (Below.refl B V)
    rw [hnk] at r
    rw [hlast] at e13
    have hcap := (own_held (enc := encO) (xs := ms.take kk) (fun _ => rfl) (by rw [List.length_take]; omega) hown).2
    refine wpList_more (v := .slice (some ⟨g1, 0, none⟩) kk cap1) (w' := V) hg6 (by simp [execOp, hop6, resolve, invoke, builtin, e9, e13, run_append_none22 _ _ _ _ _ _ _ hcap, Result.andThen]) ?_
    rw [hd6]
    exact r
  · have hm : kk + (n - (kk + 1)) = n - 1 := by omega
    have hlen : ((ms.drop (kk + 1)).flatMap encO).length = (n - (kk + 1)) * 5 := by rw [flatO_len, List.length_drop, hn]
    refine wpList_tail hg6 (step_append_lies V hg6 (.tmp 9) (.tmp 13) 22 hop6 B 56 i0 _ 5 40 u22c hi0 hz0 hz1 hz2 rfl (by omega) _ kk ((ms.take kk).flatMap encO) e9 hown ⟨b1, o2, none⟩ (n - (kk + 1)) c2 ((ms.drop (kk + 1)).flatMap encO) e13 hlen (hq (by omega)) (fun u hu => ?_) (by omega) (by unfold maxLen; omega) (by omega) hBV V.heap.size rfl ?_)
    · obtain ⟨x, _, hx⟩ := List.mem_flatMap.1 hu
      simp [encO] at hx
      rcases hx with rfl | rfl | rfl | rfl | rfl <;> rfl
    · intro g3 cap3 V3 hown3 hgr _ _
      rw [hm, ← e1] at hown3
      have r := rest g3 cap3 V3 hown3 ((Below.refl B V).grown hgr hBV fun r e => by cases e; exact hg1)
      rw [hm, hd6]
      exact r

set_option maxRecDepth 100000 in
set_option maxHeartbeats 2000000 in
/-- The reference's Without (func 47). -/
theorem without_any {A : Option Addr} {n c : Nat} {os : List Odr} {w : World} (h : IsOrders w A n c os) (k : Nat) (hk : k < os.length) (h5 : os.length ≤ 5000) :
    Calls Tryz.prog 47 #[.slice A n c, .int .i64 (k : Int)] w fun e w' => Ext w w' ∧ ∃ A' c', e = .returned (.slice A' (os.eraseIdx k).length c') ∧ IsOrders w' A' (os.eraseIdx k).length c' (os.eraseIdx k) := by
  have hn := h.len
  have hel : (os.eraseIdx k).length = n - 1 := by rw [List.length_eraseIdx_of_lt hk, hn]
  rw [hel]
  have hcap := h.cap
  obtain ⟨b, off, rfl, hb, -⟩ := held_at h.held hk
  have hcells : ∀ W, Ext w W → ∀ j u, (os.flatMap encO)[j]? = some u → W.cell? ((⟨b, off, none⟩ : Addr).add j) = some u := fun W hW => by
    rcases h.held with e | ⟨b', off', e, _, hc⟩
    · rw [e] at hk; simp at hk
    · cases e
      exact heldO_flat fun j x hx i v hv => (Below.cell hW (p := ⟨b, off + j * 5 + i, none⟩) hb).trans (hc j x hx i v hv)
  have hwr : IntKind.i64.wrap ((k : Int) + 1) = ((k + 1 : Nat) : Int) := by rw [IntWalk.i64_in _ (by omega)]; omega
  have HC := Lib.hid hcells
  clear hcells hb
  go_enter Tryz.func47, Tryz.ntmps47
  go_upto_region 1 with fail
  refine wo1_wp (b1 := b) (o1 := off) (n := n) (c := c) (kk := k) (B := w.heap.size) (ms := os) rfl rfl rfl (Nat.le_refl _) (by omega) hcap hn (by omega) HC.out hwr ?_
  rintro W v0 v4 v8 e1 - ⟨g4, cap4, rfl, hg4, hown⟩ ⟨o2, rfl, ho2⟩
  simp only [puts, List.foldl_cons, List.foldl_nil, Act.put, List.setIfInBounds_toArray, List.set_cons_succ, List.set_cons_zero]
  refine wo1_tail (n := n) (g1 := g4) (cap1 := cap4) (kk := k) (b1 := b) (o2 := o2) (c2 := c - (k + 1)) (B := w.heap.size) (ms := os) rfl rfl rfl hown hg4 e1.size (by omega) hn (fun hlt => by rw [ho2 hlt]; exact dropO_cells (HC.out W e1) (k + 1)) (by omega) ?_
  intro g3 cap3 W3 hown3 hB3
  have hfin := own_held (enc := encO) (xs := os.eraseIdx k) (fun _ => rfl) hel.symm hown3
  have HF := Lib.hid (show IsOrders W3 (some ⟨g3, 0, none⟩) (n - 1) cap3 (os.eraseIdx k) from ⟨hel.symm, by omega, hfin.2, hfin.1⟩)
  have HE := Lib.hid (show Ext w W3 from Below.trans (show Below w.heap.size w W from e1) hB3)
  clear hfin hown3 hB3 hown e1
  simp only [Act.put, List.setIfInBounds_toArray, List.set_cons_succ, List.set_cons_zero]
  go_wp2
  go_ret
  exact ⟨HE.out, _, _, rfl, HF.out⟩
end
end Go.Proofs.YtmlmnljbegcjcaaGreat

/- BathEither: the facts; fewest. -/
namespace Go.Proofs.YtmlmnljbegcjcaaGreat
section
open Go.RowKit Go.Shelf
attribute [local irreducible] bitCells

theorem nums_mem (M : Nat → Bool) (k : Nat) : ∀ t, (k : Int) ∈ numsTo M t ↔ k < t ∧ M k = true
  | 0 => by simp [numsTo]
  | t + 1 => by
    rw [numsTo_succ, List.mem_append, nums_mem M k t]
    by_cases h : M t = true
    · rw [if_pos h, List.mem_singleton]
      constructor
      · rintro (⟨h1, h2⟩ | h1)
        · exact ⟨by omega, h2⟩
        · obtain rfl : k = t := by omega
          exact ⟨by omega, h⟩
      · rintro ⟨h1, h2⟩
        by_cases e : k = t
        · exact .inr (by rw [e])
        · exact .inl ⟨by omega, h2⟩
    · rw [if_neg h]
      constructor
      · rintro (⟨h1, h2⟩ | h1)
        · exact ⟨by omega, h2⟩
        · cases h1
      · rintro ⟨h1, h2⟩
        refine .inl ⟨?_, h2⟩
        by_cases e : k = t
        · subst e; exact absurd h2 h
        · omega
theorem does_mem {os : List Odr} (h0 : ordersErr os = 0) {k : Nat} (hk : k < os.length) (x : Int) : decide ((k : Int) ∈ doesOf os x) = doneB x os[k] := by
  have h14 := (orders_ok h0).1.2
  rw [Bool.eq_iff_iff, decide_eq_true_eq]
  unfold doesOf
  rw [if_pos h0, nums_mem, does_at, decide_eq_true hk, Bool.true_and, oAt_get hk]
  exact ⟨fun h => h.2, fun h => ⟨by omega, h⟩⟩
theorem born_at {os : List Odr} (h0 : ordersErr os = 0) {k : Nat} (hk : k < os.length) : birthsAns os (k : Int) = if hasB os[k] = true then ((bLo os[k], bHi os[k]), 0) else ((0, 0), 22) := by
  unfold birthsAns
  rw [if_pos h0, if_pos ⟨by omega, by omega⟩, Int.toNat_natCast, oAt_get hk]
theorem does_few (os : List Odr) (x : Int) : (doesOf os x).length ≤ 14 := by
  unfold doesOf
  split
  · exact numsTo_len _ _
  · simp
theorem whole_less {os : List Odr} (h : Whole os) (k : Nat) : Whole (os.eraseIdx k) := fun _ ho => h _ (List.mem_of_mem_eraseIdx ho)
theorem costB_less {os : List Odr} (h : Whole os) (k : Nat) : costB os k = decide ((fewB (os.eraseIdx k)).length < (fewB os).length) := by
  have h1 : (dueI os noBits).length = (fewB os).length := by
    rw [dueI_dues, List.length_map, ← dues_few h, List.length_map]
  have h2 : (dueI os (oneBit k)).length = (fewB (os.eraseIdx k)).length := by
    unfold dueI
    rw [List.length_map, ← List.length_map (f := fun k => bHi (oAt os k)), due_stab _ _ (fun i hi _ => h _ (oAt_mem hi)), show undone os (oneBit k) = os.eraseIdx k from undone_one os k]
    unfold fewB
    rw [stab_fuel (whole_less h k) os.length (os.eraseIdx k).length (by rw [List.length_eraseIdx]; split <;> omega) (Nat.le_refl _)]
  unfold costB
  rw [h1, h2]
/-- One more birth, in its place. -/
theorem put_sorted (x : Int) : ∀ bs : List Int, bs.Pairwise (· < ·) → ∃ cs : List Int, cs.Pairwise (· < ·) ∧ cs.length ≤ bs.length + 1 ∧ x ∈ cs ∧ (∀ y, y ∈ bs → y ∈ cs) ∧ ∀ y, y ∈ cs → y = x ∨ y ∈ bs
  | [], _ => ⟨[x], List.pairwise_singleton _ _, Nat.le_refl _, by simp, fun y h => (nomatch h), fun y h => .inl (by simpa using h)⟩
  | b :: bs, h => by
    rcases Int.lt_trichotomy x b with hx | hx | hx
    · refine ⟨x :: b :: bs, List.pairwise_cons.2 ⟨fun y hy => ?_, h⟩, Nat.le_refl _, by simp, fun y hy => List.mem_cons_of_mem _ hy, fun y hy => List.mem_cons.1 hy⟩
      rcases List.mem_cons.1 hy with rfl | hy
      · exact hx
      · have := List.rel_of_pairwise_cons h hy; omega
    · exact ⟨b :: bs, h, Nat.le_succ _, by simp [hx], fun y hy => hy, fun y hy => .inr hy⟩
    · obtain ⟨cs, h1, h2, h3, h4, h5⟩ := put_sorted x bs h.of_cons
      refine ⟨b :: cs, List.pairwise_cons.2 ⟨fun y hy => ?_, h1⟩, by simp only [List.length_cons]; omega, List.mem_cons_of_mem _ h3, fun y hy => ?_, fun y hy => ?_⟩
      · rcases h5 y hy with rfl | hy
        · exact hx
        · exact List.rel_of_pairwise_cons h hy
      · rcases List.mem_cons.1 hy with rfl | hy
        · simp
        · exact List.mem_cons_of_mem _ (h4 y hy)
      · rcases List.mem_cons.1 hy with rfl | hy
        · exact .inr (by simp)
        · exact (h5 y hy).imp id (List.mem_cons_of_mem _)
theorem few_less_le {os : List Odr} (hW : Whole os) (k : Nat) : (fewB (os.eraseIdx k)).length ≤ (fewB os).length :=
  fewB_few (whole_less hW k) (fewB_sorted os hW).1 fun o ho => fewB_covers os hW o (List.mem_of_mem_eraseIdx ho)
theorem few_less_ge {os : List Odr} (hW : Whole os) {k : Nat} (hk : k < os.length) : (fewB os).length ≤ (fewB (os.eraseIdx k)).length + 1 := by
  obtain ⟨cs, h1, h2, h3, h4, _⟩ := put_sorted (bHi os[k]) _ (fewB_sorted _ (whole_less hW k)).1
  refine Nat.le_trans (fewB_few hW h1 fun o ho => ?_) h2
  have hsp : o ∈ os.eraseIdx k ∨ o = os[k] := by
    have he : os = os.take k ++ os[k] :: os.drop (k + 1) := by rw [← List.drop_eq_getElem_cons hk, List.take_append_drop]
    rw [List.eraseIdx_eq_take_drop_succ]
    rw [he] at ho
    rcases List.mem_append.1 ho with ho | ho
    · exact .inl (List.mem_append_left _ ho)
    · rcases List.mem_cons.1 ho with ho | ho
      · exact .inr ho
      · exact .inl (List.mem_append_right _ ho)
  rcases hsp with ho | rfl
  · obtain ⟨x, hx, hd⟩ := fewB_covers _ (whole_less hW k) o ho
    exact ⟨x, h4 x hx, hd⟩
  · refine ⟨_, h3, doneB_iff.2 ⟨?_, Int.le_refl _⟩⟩
    have := hW _ (List.getElem_mem hk)
    unfold hasB at this
    simpa using this

/-- What fewest answers. -/
def fewN (os : List Odr) : Int := if wholeErr os = 22 then 100 else ((bestB os).length : Int)
def fewOk (os : List Odr) : Bool := decide (wholeErr os = 22 ∨ wholeErr os = 0)
set_option maxRecDepth 100000 in
set_option maxHeartbeats 2000000 in
theorem fewest_any {A : Option Addr} {n c : Nat} {os : List Odr} {w : World} (h : IsOrders w A n c os) :
    Calls Tryz.prog 46 #[.slice A n c] w fun e w' => Ext w w' ∧ e = .returned (.tuple #[.int .i64 (fewN os), .bool (fewOk os)]) := by
  have h1 := best_any h
  have hb22 : wholeErr os = 22 → (bestB os).length = 0 := fun h => by unfold bestB; rw [if_neg (by rw [h]; decide)]; rfl
  obtain ⟨E, hE⟩ : ∃ E, wholeErr os = E := ⟨_, rfl⟩
  obtain ⟨bl, hbl⟩ : ∃ bl, bestB os = bl := ⟨_, rfl⟩
  unfold fewN fewOk
  rw [hE, hbl] at h1 hb22
  rw [hE, hbl]
  clear hE hbl h
  by_cases h22 : E = 22
  · subst h22
    have hz := hb22 rfl
    clear hb22
    go_enter Tryz.func46, Tryz.ntmps46
    go_wp2_with fail
    refine h1.mono ?_
    rintro e w1 ⟨e1, A1, c1, rfl, _⟩
    have HX := Lib.hid e1
    clear h1 e1
    rw [hz]
    go_wp2
    go_ret2
    exact ⟨HX.out, rfl⟩
  · have hne : (E == 22) = false := by simp [h22]
    clear hb22
    go_enter Tryz.func46, Tryz.ntmps46
    go_wp2_with fail
    refine h1.mono ?_
    rintro e w1 ⟨e1, A1, c1, rfl, _⟩
    have HX := Lib.hid e1
    clear h1 e1
    go_wp2
    go_ret2
    exact ⟨HX.out, rfl⟩
end
end Go.Proofs.YtmlmnljbegcjcaaGreat

/- BathEither: the walk. -/
namespace Go.Proofs.YtmlmnljbegcjcaaGreat
section
open Go.RowKit Go.Shelf
attribute [local irreducible] bitCells

theorem take_all_succ {os : List Odr} {k : Nat} (hk : k < os.length) : (os.take (k + 1)).all hasB = ((os.take k).all hasB && hasB os[k]) := by
  rw [List.take_add_one, List.all_append, List.getElem?_eq_getElem hk]
  simp
theorem take_any_succ {bl : List Int} {o : Odr} {k : Nat} (hk : k < bl.length) : ((bl.take (k + 1)).any fun b => doneB b o) = (((bl.take k).any fun b => doneB b o) || doneB bl[k] o) := by
  rw [List.take_add_one, List.any_append, List.getElem?_eq_getElem hk]
  simp

set_option maxRecDepth 100000 in
set_option maxHeartbeats 8000000 in
theorem eitherNot_any {A : Option Addr} {n c : Nat} {os : List Odr} {w : World} (h : IsOrders w A n c os) (hno : ordersErr os ≠ 0 ∨ n < 2) (y1 : Int) :
    Calls Tryz.prog 10 #[.slice A n c, .int .u8 y1] w fun e w' => e = .returned (.bool true) ∧ Ext w w' := by
  by_cases h0 : ordersErr os = 0
  · have hf : Calls Tryz.prog 41 #[.slice A n c] w fun e w' => e = .returned (.bool true) ∧ Ext w w' := decide_eq_true h0 ▸ fine_any h
    have hn2 : n < 2 := hno.resolve_left (fun h => h h0)
    have hnz : (n : Int) < 2 := by omega
    clear h h0 hno hn2
    go_enter Tryz.func10, Tryz.ntmps10
    go_wp2_with fail
    refine hf.mono ?_
    rintro e w1 ⟨rfl, e1⟩
    have HE := Lib.hid e1
    have h15 := works_any w1
    clear hf e1
    go_wp2_with fail
    refine h15.mono ?_
    rintro e w2 ⟨rfl, e2⟩
    have HE2 := Lib.hid (HE.out.trans e2)
    clear h15 e2
    go_wp2
    go_ret
    exact ⟨rfl, HE2.out⟩
  · have hf : Calls Tryz.prog 41 #[.slice A n c] w fun e w' => e = .returned (.bool false) ∧ Ext w w' := decide_eq_false h0 ▸ fine_any h
    clear h h0 hno
    go_enter Tryz.func10, Tryz.ntmps10
    go_wp2_with fail
    refine hf.mono ?_
    rintro e w1 ⟨rfl, e1⟩
    have HE := Lib.hid e1
    have h15 := works_any w1
    clear hf e1
    go_wp2_with fail
    refine h15.mono ?_
    rintro e w2 ⟨rfl, e2⟩
    have HE2 := Lib.hid (HE.out.trans e2)
    clear h15 e2
    go_wp2
    go_ret
    exact ⟨rfl, HE2.out⟩

set_option maxRecDepth 100000 in
set_option maxHeartbeats 8000000 in
theorem eitherLaw_any {A : Option Addr} {n c : Nat} {os : List Odr} {w : World} (h : IsOrders w A n c os) (y1 : Int) (h11 : 0 ≤ y1) (h12 : y1 ≤ 255) :
    Calls Tryz.prog 10 #[.slice A n c, .int .u8 y1] w fun e w' => e = .returned (.bool true) ∧ Ext w w' := by
  by_cases hno : ordersErr os ≠ 0 ∨ n < 2
  · exact eitherNot_any h hno y1
  have h0 : ordersErr os = 0 := Decidable.byContradiction fun h => hno (.inl h)
  have hn2 : 2 ≤ n := Nat.le_of_not_lt fun h => hno (.inr h)
  obtain ⟨u, rfl⟩ : ∃ u : Nat, y1 = (u : Int) := ⟨y1.toNat, by omega⟩
  have hn := h.len
  have hok := orders_ok h0
  have hn14 : n ≤ 14 := by rw [hn]; exact hok.1.2
  have hf : Calls Tryz.prog 41 #[.slice A n c] w fun e w' => e = .returned (.bool true) ∧ Ext w w' := decide_eq_true h0 ▸ fine_any h
  have hnz : ¬ (n : Int) < 2 := by omega
  have H := Lib.hid h
  have HZ := Lib.hid (And.intro h0 (And.intro hn (And.intro hn2 hn14)))
  have HU := Lib.hid (show u ≤ 255 by omega)
  clear hno h h0 hn hn2 hok h11 h12
  go_enter Tryz.func10, Tryz.ntmps10
  go_wp2_with fail
  refine hf.mono ?_
  rintro e w1 ⟨rfl, e1⟩
  have HX := Lib.hid e1
  clear hf e1
  go_wp2
  go_loopw [5, 6] (fun s i wr => ∃ k : Nat, k ≤ n ∧ i = .int .i64 k ∧ s = .bool ((os.take k).all hasB) ∧ Hid (Ext w wr)) (fun _ i _ => n - (intOf i).toNat)
  case atStart => exact ⟨0, Nat.zero_le _, rfl, rfl, HX⟩
  case round =>
    obtain ⟨k, hk, rfl, rfl, hE⟩ := hrel
    by_cases hlt : k < n
    · have hltz : (k : Int) < (n : Int) := by omega
      have hkl : k < os.length := by rw [← HZ.out.2.1]; exact hlt
      have hba := born_at HZ.out.1 hkl
      have hts := take_all_succ hkl
      have h1 := births_any (H.out.ext hE.out) (k : Int)
      rw [hba] at h1
      obtain ⟨b, hb⟩ : ∃ b, (os.take k).all hasB = b := ⟨_, rfl⟩
      rw [hb] at hts ⊢
      obtain ⟨q, hq⟩ : ∃ q, hasB os[k] = q := ⟨_, rfl⟩
      rw [hq] at hts h1
      have HTS := Lib.hid hts
      obtain ⟨lo, hlo⟩ : ∃ lo, bLo os[k] = lo := ⟨_, rfl⟩
      obtain ⟨hi, hhi⟩ : ∃ hi, bHi os[k] = hi := ⟨_, rfl⟩
      rw [hlo, hhi] at h1
      clear hba hts hb hq hlo hhi
      cases q with
      | true =>
        rw [if_pos rfl] at h1
        cases b with
        | true =>
          go_wp2_with fail
          refine h1.mono ?_
          rintro e wa ⟨rfl, ea⟩
          have HEa := Lib.hid (hE.out.trans ea)
          clear h1 ea
          go_wp2
          go_roundw
          case measure => simp [intOf]; omega
          case rel => exact ⟨k + 1, by omega, by go_num, by rw [HTS.out]; rfl, Lib.hid (HEa.out.trans (ext_alloc _ _))⟩
        | false =>
          go_wp2_with fail
          refine h1.mono ?_
          rintro e wa ⟨rfl, ea⟩
          have HEa := Lib.hid (hE.out.trans ea)
          clear h1 ea
          go_wp2
          go_roundw
          case measure => simp [intOf]; omega
          case rel => exact ⟨k + 1, by omega, by go_num, by rw [HTS.out]; rfl, Lib.hid (HEa.out.trans (ext_alloc _ _))⟩
      | false =>
        rw [if_neg (by decide)] at h1
        cases b with
        | true =>
          go_wp2_with fail
          refine h1.mono ?_
          rintro e wa ⟨rfl, ea⟩
          have HEa := Lib.hid (hE.out.trans ea)
          clear h1 ea
          go_wp2
          go_roundw
          case measure => simp [intOf]; omega
          case rel => exact ⟨k + 1, by omega, by go_num, by rw [HTS.out]; rfl, Lib.hid (HEa.out.trans (ext_alloc _ _))⟩
        | false =>
          go_wp2_with fail
          refine h1.mono ?_
          rintro e wa ⟨rfl, ea⟩
          have HEa := Lib.hid (hE.out.trans ea)
          clear h1 ea
          go_wp2
          go_roundw
          case measure => simp [intOf]; omega
          case rel => exact ⟨k + 1, by omega, by go_num, by rw [HTS.out]; rfl, Lib.hid (HEa.out.trans (ext_alloc _ _))⟩
    · have hltz : ¬ (k : Int) < (n : Int) := by omega
      obtain rfl : k = n := by omega
      replace HX := hE
      have hta : (os.take k).all hasB = os.all hasB := by rw [HZ.out.2.1, List.take_length]
      have h1 := best_any (H.out.ext HX.out)
      rw [hta]
      clear hta hE hlt hk
      cases hs : os.all hasB with
      | false =>
        have hwe : wholeErr os = 22 := by unfold wholeErr; rw [if_pos HZ.out.1, if_neg (by rw [hs]; decide)]
        have HWE := Lib.hid hwe
        rw [hwe] at h1
        clear hwe hs
        go_wp2_with fail
        refine h1.mono ?_
        rintro e w2 ⟨e2, A2, c2, rfl, _⟩
        replace HX := Lib.hid (HX.out.trans e2)
        have h1 := costs_any (H.out.ext HX.out)
        rw [HWE.out] at h1
        clear e2
        go_wp2_with fail
        refine h1.mono ?_
        rintro e w3 ⟨e3, A3, c3, rfl, _⟩
        replace HX := Lib.hid (HX.out.trans e3)
        have h15 := works_any w3
        clear h1 e3
        go_wp2_with fail
        refine h15.mono ?_
        rintro e w4 ⟨rfl, e4⟩
        have HE := Lib.hid (HX.out.trans e4)
        clear h15 e4
        go_wp2
        go_ret
        exact ⟨rfl, HE.out⟩
      | true =>
        have hW : Whole os := fun o ho => List.all_eq_true.1 hs o ho
        have hwe : wholeErr os = 0 := by unfold wholeErr; rw [if_pos HZ.out.1, if_pos hs]
        have hbe : bestB os = fewB os := by unfold bestB; rw [if_pos hwe]
        have hce : costsAns os = costsI os := by unfold costsAns; rw [if_pos hwe]
        have HWE := Lib.hid (And.intro hwe (And.intro hce hW))
        rw [hwe, hbe] at h1
        clear hwe hbe hce hs
        have hbl : (fewB os).length ≤ 14 := by have h2 := stab_len os.length os; have h3 := HZ.out; show (stab os.length os).length ≤ _; omega
        have hcl : (costsI os).length ≤ 14 := by have h2 := numsTo_len (costB os) os.length; have h3 := HZ.out; show (numsTo (costB os) os.length).length ≤ _; omega
        obtain ⟨bl, hbq⟩ : ∃ bl, fewB os = bl := ⟨_, rfl⟩
        have HBQ := Lib.hid hbq
        rw [hbq] at h1 hbl
        have HBL := Lib.hid hbl
        have HCL := Lib.hid hcl
        clear hbq hbl hcl hW
        go_wp2_with fail
        refine h1.mono ?_
        rintro e w2 ⟨e2, A2, c2, rfl, hh2, _⟩
        replace HX := Lib.hid (HX.out.trans e2)
        have HB := Lib.hid hh2
        clear h1 e2 hh2
        have h1 := costs_any (H.out.ext HX.out)
        rw [HWE.out.1, HWE.out.2.1] at h1
        go_wp2_with fail
        refine h1.mono ?_
        rintro e w3 ⟨e3, A3, c3, rfl, hh3, _⟩
        replace HX := Lib.hid (HX.out.trans e3)
        replace HB := Lib.hid (HB.out.ext e3)
        have HC := Lib.hid hh3
        clear h1 e3 hh3
        -- the order
        obtain ⟨kk, hkk⟩ : ∃ kk, u % k = kk := ⟨_, rfl⟩
        have hk0 : kk < k := by rw [← hkk]; exact Nat.mod_lt _ (by have := HZ.out; omega)
        have hn0 : ¬ (k : Int) = 0 := by have := HZ.out; omega
        have hn0' : ¬ k = 0 := by have := HZ.out; omega
        have hmod : (u : Int).tmod (k : Int) = (kk : Int) := by rw [← Int.ofNat_tmod, hkk]
        have hcu : IntKind.i64.wrap (u : Int) = (u : Int) := IntWalk.i64_in _ (by have := HU.out; omega)
        have HKK := Lib.hid hk0
        clear hkk hk0
        have h1 := without_any (H.out.ext HX.out) kk (by rw [← HZ.out.2.1]; exact HKK.out) (by have := HZ.out; omega)
        go_wp2_with fail
        refine h1.mono ?_
        rintro e w4 ⟨e4, A4, c4, rfl, hh4⟩
        replace HX := Lib.hid (HX.out.trans e4)
        replace HB := Lib.hid (HB.out.ext e4)
        replace HC := Lib.hid (HC.out.ext e4)
        clear h1 e4
        have h1 := fewest_any hh4
        have hkl : kk < os.length := by rw [← HZ.out.2.1]; exact HKK.out
        have hle := List.length_eraseIdx_of_lt hkl
        have hoe : ordersErr (os.eraseIdx kk) = 0 := by
          have h2 := (orders_ok HZ.out.1).2
          have h3 := HZ.out
          unfold ordersErr
          rw [if_pos (by omega), if_pos (List.all_eq_true.2 fun o ho => h2 o (List.mem_of_mem_eraseIdx ho))]
        have hwe : wholeErr (os.eraseIdx kk) = 0 := by
          unfold wholeErr
          rw [if_pos hoe, if_pos (List.all_eq_true.2 fun o ho => whole_less HWE.out.2.2 kk o ho)]
        have hfn : fewN (os.eraseIdx kk) = ((fewB (os.eraseIdx kk)).length : Int) := by
          unfold fewN bestB
          rw [if_neg (by rw [hwe]; decide), if_pos hwe]
        have hfo : fewOk (os.eraseIdx kk) = true := by unfold fewOk; rw [hwe]; decide
        have hcb := costB_less HWE.out.2.2 kk
        have hl1 := few_less_le HWE.out.2.2 kk
        have hl2 := few_less_ge HWE.out.2.2 hkl
        have hcm : decide ((kk : Int) ∈ costsI os) = costB os kk := by
          rw [Bool.eq_iff_iff, decide_eq_true_eq]
          show (kk : Int) ∈ numsTo (costB os) os.length ↔ _
          rw [nums_mem]
          exact ⟨fun h => h.2, fun h => ⟨hkl, h⟩⟩
        rw [hfn, hfo] at h1
        rw [HBQ.out] at hcb hl1 hl2
        obtain ⟨N2, hN2⟩ : ∃ N2, (fewB (os.eraseIdx kk)).length = N2 := ⟨_, rfl⟩
        rw [hN2] at h1 hcb hl1 hl2
        rw [hcb] at hcm
        clear hh4 hle hoe hwe hfn hfo hcb hN2
        go_wp2_with fail
        refine h1.mono ?_
        rintro e w5 ⟨e5, rfl⟩
        replace HX := Lib.hid (HX.out.trans e5)
        replace HB := Lib.hid (HB.out.ext e5)
        replace HC := Lib.hid (HC.out.ext e5)
        clear h1 e5
        have hg1 : ¬ (bl.length : Int) < (N2 : Int) := by omega
        have hw1 : IntKind.i64.wrap ((bl.length : Int) - 1) = (bl.length : Int) - 1 := IntWalk.i64_in _ (by have := HBL.out; omega)
        have hg2 : ¬ (N2 : Int) < (bl.length : Int) - 1 := by omega
        have h42 := in_any A3 (costsI os).length c3 (costsI os) (kk : Int) w5 rfl (by have := HCL.out; omega) HC.out
        rw [hcm] at h42
        have hdz : decide ((N2 : Int) < (bl.length : Int)) = decide (N2 < bl.length) := by simp
        rw [← hdz] at h42
        clear hl1 hl2 hcm hkl hdz
        go_wp2_with fail
        refine h42.mono ?_
        rintro e w6 ⟨rfl, rfl⟩
        clear h42
        go_wp2
        clear hg1 hg2 hw1
        generalize decide (bl.length < N2) = q1
        generalize decide ((N2 : Int) < (bl.length : Int) - 1) = q2
        go_loopw [16] (fun i wr => ∃ j : Nat, j ≤ k ∧ i = .int .i64 j ∧ Hid (Ext w6 wr)) (fun i _ => k - (intOf i).toNat)
        case atStart => exact ⟨0, Nat.zero_le _, rfl, Lib.hid (Ext.refl _)⟩
        case round =>
          obtain ⟨j, hj, rfl, hE⟩ := hrel
          by_cases hlt : j < k
          · have hltz : (j : Int) < (k : Int) := by omega
            have hjl : j < os.length := by rw [← HZ.out.2.1]; exact hlt
            have hdm : ∀ x, decide ((j : Int) ∈ doesOf os x) = doneB x os[j] := fun x => does_mem HZ.out.1 hjl x
            have hcv : (bl.any fun b => doneB b os[j]) = true := by
              obtain ⟨x, hx, hd⟩ := fewB_covers os HWE.out.2.2 os[j] (List.getElem_mem hjl)
              rw [HBQ.out] at hx
              exact List.any_eq_true.2 ⟨x, hx, hd⟩
            obtain ⟨o, ho⟩ : ∃ o, os[j] = o := ⟨_, rfl⟩
            rw [ho] at hcv
            simp only [ho] at hdm
            have HDM := Lib.hid hdm
            have HCV := Lib.hid hcv
            clear hdm hcv ho hjl
            go_wp2
            go_loopw [17, 18] (fun d i wq => ∃ m : Nat, m ≤ bl.length ∧ i = .int .i64 m ∧ d = .bool ((bl.take m).any fun b => doneB b o) ∧ Hid (Ext w6 wq)) (fun _ i _ => bl.length - (intOf i).toNat)
            case atStart => exact ⟨0, Nat.zero_le _, rfl, rfl, hE⟩
            case round =>
              obtain ⟨m, hm, rfl, rfl, hE3⟩ := hrel
              by_cases hlm : m < bl.length
              · have hlmz : (m : Int) < (bl.length : Int) := by omega
                have hb14 : bl.length ≤ 14 := HBL.out
                obtain ⟨b2, of2, rfl, hcx⟩ := int_get (HB.out.ext hE3.out) hlm
                have hts := take_any_succ (o := o) hlm
                obtain ⟨x, hx⟩ : ∃ x, bl[m] = x := ⟨_, rfl⟩
                rw [hx] at hcx hts
                obtain ⟨d, hd⟩ : ∃ d, ((bl.take m).any fun b => doneB b o) = d := ⟨_, rfl⟩
                rw [hd] at hts ⊢
                have HTS := Lib.hid hts
                have h1 := does18_any (H.out.ext (HX.out.trans hE3.out)) x
                rw [HZ.out.1] at h1
                clear hts hd hx
                cases d with
                | true =>
                  go_wp2_with fail
                  refine h1.mono ?_
                  rintro e w7 ⟨e7, A7, c7, rfl, hh7, _⟩
                  have HE7 := Lib.hid (hE3.out.trans e7)
                  clear h1 e7 hh7 hcx
                  go_wp2
                  go_roundw
                  case measure => simp [intOf]; omega
                  case rel => exact ⟨m + 1, by omega, by go_num, by rw [HTS.out]; rfl, HE7⟩
                | false =>
                  go_wp2_with fail
                  refine h1.mono ?_
                  rintro e w7 ⟨e7, A7, c7, rfl, hh7, _⟩
                  have HE7 := Lib.hid (hE3.out.trans e7)
                  have h42 := in_any A7 (doesOf os x).length c7 (doesOf os x) (j : Int) w7 rfl (by have := does_few os x; omega) hh7
                  rw [HDM.out x] at h42
                  clear h1 e7 hh7 hcx
                  go_wp2_with fail
                  refine h42.mono ?_
                  rintro e w8 ⟨rfl, rfl⟩
                  clear h42
                  go_wp2
                  go_roundw
                  case measure => simp [intOf]; omega
                  case rel => exact ⟨m + 1, by omega, by go_num, by rw [HTS.out]; simp, HE7⟩
              · have hlmz : ¬ (m : Int) < (bl.length : Int) := by omega
                obtain rfl : m = bl.length := by omega
                have hta : ((bl.take bl.length).any fun b => doneB b o) = true := by rw [List.take_length]; exact HCV.out
                rw [hta]
                clear hta
                go_wp2
                go_roundw
                case measure => simp [intOf]; omega
                case rel => exact ⟨j + 1, by omega, by go_num, hE3⟩
          · have hltz : ¬ (j : Int) < (k : Int) := by omega
            replace HX := Lib.hid (HX.out.trans hE.out)
            have h15 := works_any wr
            go_wp2_with fail
            refine h15.mono ?_
            rintro e w9 ⟨rfl, e9⟩
            have HE := Lib.hid (HX.out.trans e9)
            clear h15 e9
            go_wp2
            go_ret
            exact ⟨rfl, HE.out⟩
end
end Go.Proofs.YtmlmnljbegcjcaaGreat

