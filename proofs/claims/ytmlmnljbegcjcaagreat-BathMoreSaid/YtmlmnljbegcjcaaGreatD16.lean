/- Texts of one package, joined: WorksReg, Works. -/
import Derived.Test.YtmlmnljbegcjcaaGreatD9
import Derived.Test.YtmlmnljbegcjcaaGreatD12
import Derived.Test.YtmlmnljbegcjcaaGreatD15
import Derived.Laws.StructEq
/- Works' last region. -/
namespace Go.Proofs.YtmlmnljbegcjcaaGreat
open Go.RowKit Go.Shelf
attribute [local irreducible] bitCells

theorem held_lit (w : World) (l : List Int) (t : TypeId) : Held (w.alloc (.cells (cellsI l) t)) (w.alloc (.cells (cellsI l) t)).heap.size 1 encI (some ⟨w.heap.size, 0, none⟩) l := by
  refine .inr ⟨w.heap.size, 0, rfl, by simp, fun j x hj i v hi => ?_⟩
  have hjl := (List.getElem?_eq_some_iff.1 hj).1
  have hr : (w.alloc (.cells (cellsI l) t)).heap[w.heap.size]? = some (.cells (cellsI l) t (0, 0)) := row_last _ _ _ rfl
  match i, hi with
  | 0, hi =>
    cases hi
    rw [Nat.zero_add, Nat.add_zero, Nat.mul_one, cell_of_row _ _ _ _ _ _ hr, cellsI_get _ hjl]
    rw [List.getElem?_eq_getElem hjl] at hj
    rw [Option.some.inj hj]
theorem eqRange (x0 x1 y0 y1 : Int) (w : World) : (binOp .eql 26 (.agg #[.int .i64 x0, .int .i64 x1]) (.agg #[.int .i64 y0, .int .i64 y1])).run Tryz.prog w = .ok (.bool (decide (x0 = y0 ∧ x1 = y1))) w := by
  have hS : Tryz.prog.underlying 26 = some (.struct (Tryz.prog.fieldsOf 26)) := by kernel_rfl
  have hp : Tryz.prog.stoodInHeld 26 = false := by kernel_rfl
  have u2 := Tryz.underlying2
  rw [run_eql_struct, show (10000 : Nat) = 9999 + 1 from rfl, run_equalIn_agg w 9999 26 _ _ hS hp]
  simp only [Program.fieldsOf, Tryz.underlying26]
  go_simp
  by_cases h1 : x0 = y0 <;> by_cases h2 : x1 = y1 <;> simp [h1, h2]
theorem run_b30_0_1_3 (w : World) : (Instr.buildSlice 30 3 #[(0, .int .i64 0), (1, .int .i64 1), (2, .int .i64 3)]).run Tryz.prog w = .ok (.slice (some ⟨w.heap.size, 0, none⟩) 3 3) (w.alloc (.cells (cellsI [0, 1, 3]) 3)) := by
  have hf : Tryz.prog.builtSlice 3 3 [(0, .int .i64 0), (1, .int .i64 1), (2, .int .i64 3)] = some #[.int .i64 0, .int .i64 1, .int .i64 3] := by kernel_rfl
  unfold Program.builtSlice at hf
  obtain ⟨i, hi, hz⟩ := Option.map_eq_some_iff.1 info3
  simp only [Prod.mk.injEq] at hz
  simp only [hi, hz.1] at hf
  rw [if_neg (by simp [hz.2.1])] at hf
  exact run_buildSlice (P := Tryz.prog) w 30 3 3 #[(0, .int .i64 0), (1, .int .i64 1), (2, .int .i64 3)] #[.int .i64 0, .int .i64 1, .int .i64 3] i _ Tryz.underlying30 hi hz.1 (by simp [hz.2.1]) (by simp [hz.2.1]) hf
theorem op_b30_0_1_3 {a : Act} {W : World} {o : Oper} (hop : o.op = .buildSlice 30 3 #[(0, .const (.int .i64 0)), (1, .const (.int .i64 1)), (2, .const (.int .i64 3))]) :
    (execOp a.eval o).run Tryz.prog W = .ok (.value (.slice (some ⟨W.heap.size, 0, none⟩) 3 3)) (W.alloc (.cells (cellsI [0, 1, 3]) 3)) := by
  have h := run_b30_0_1_3 W
  simp only [execOp, hop, List.map_toArray, List.map_cons, List.map_nil, Act.eval, Sem.run_bind, h]
  rfl
theorem run_b36_80_150 (w : World) : (Instr.buildSlice 36 2 #[(0, .int .i64 80), (1, .int .i64 150)]).run Tryz.prog w = .ok (.slice (some ⟨w.heap.size, 0, none⟩) 2 2) (w.alloc (.cells (cellsI [80, 150]) 2)) := by
  have hf : Tryz.prog.builtSlice 2 2 [(0, .int .i64 80), (1, .int .i64 150)] = some #[.int .i64 80, .int .i64 150] := by kernel_rfl
  unfold Program.builtSlice at hf
  obtain ⟨i, hi, hz⟩ := Option.map_eq_some_iff.1 info2
  simp only [Prod.mk.injEq] at hz
  simp only [hi, hz.1] at hf
  rw [if_neg (by simp [hz.2.1])] at hf
  exact run_buildSlice (P := Tryz.prog) w 36 2 2 #[(0, .int .i64 80), (1, .int .i64 150)] #[.int .i64 80, .int .i64 150] i _ Tryz.underlying36 hi hz.1 (by simp [hz.2.1]) (by simp [hz.2.1]) hf
theorem op_b36_80_150 {a : Act} {W : World} {o : Oper} (hop : o.op = .buildSlice 36 2 #[(0, .const (.int .i64 80)), (1, .const (.int .i64 150))]) :
    (execOp a.eval o).run Tryz.prog W = .ok (.value (.slice (some ⟨W.heap.size, 0, none⟩) 2 2)) (W.alloc (.cells (cellsI [80, 150]) 2)) := by
  have h := run_b36_80_150 W
  simp only [execOp, hop, List.map_toArray, List.map_cons, List.map_nil, Act.eval, Sem.run_bind, h]
  rfl
theorem run_b30_2 (w : World) : (Instr.buildSlice 30 1 #[(0, .int .i64 2)]).run Tryz.prog w = .ok (.slice (some ⟨w.heap.size, 0, none⟩) 1 1) (w.alloc (.cells (cellsI [2]) 3)) := by
  have hf : Tryz.prog.builtSlice 3 1 [(0, .int .i64 2)] = some #[.int .i64 2] := by kernel_rfl
  unfold Program.builtSlice at hf
  obtain ⟨i, hi, hz⟩ := Option.map_eq_some_iff.1 info3
  simp only [Prod.mk.injEq] at hz
  simp only [hi, hz.1] at hf
  rw [if_neg (by simp [hz.2.1])] at hf
  exact run_buildSlice (P := Tryz.prog) w 30 3 1 #[(0, .int .i64 2)] #[.int .i64 2] i _ Tryz.underlying30 hi hz.1 (by simp [hz.2.1]) (by simp [hz.2.1]) hf
theorem op_b30_2 {a : Act} {W : World} {o : Oper} (hop : o.op = .buildSlice 30 1 #[(0, .const (.int .i64 2))]) :
    (execOp a.eval o).run Tryz.prog W = .ok (.value (.slice (some ⟨W.heap.size, 0, none⟩) 1 1)) (W.alloc (.cells (cellsI [2]) 3)) := by
  have h := run_b30_2 W
  simp only [execOp, hop, List.map_toArray, List.map_cons, List.map_nil, Act.eval, Sem.run_bind, h]
  rfl
/-- The slots of region 19 of function 15. -/
def wk19D (i : Nat) : Tmp := if i = 0 then 167 else if i = 1 then 168 else if i = 2 then 169 else if i = 3 then 170 else if i = 4 then 171 else if i = 5 then 172 else if i = 6 then 173 else if i = 7 then 174 else if i = 8 then 175 else if i = 9 then 176 else if i = 10 then 177 else if i = 11 then 178 else if i = 12 then 179 else if i = 13 then 180 else if i = 14 then 181 else if i = 15 then 182 else if i = 16 then 183 else if i = 17 then 184 else if i = 18 then 185 else if i = 19 then 186 else if i = 20 then 187 else if i = 21 then 188 else if i = 22 then 189 else if i = 23 then 190 else if i = 24 then 191 else if i = 25 then 192 else if i = 26 then 193 else if i = 27 then 194 else if i = 28 then 195 else if i = 29 then 196 else if i = 30 then 197 else if i = 31 then 198 else if i = 32 then 199 else if i = 33 then 200 else if i = 34 then 201 else if i = 35 then 202 else if i = 36 then 203 else if i = 37 then 204 else if i = 38 then 205 else if i = 39 then 206 else if i = 40 then 207 else if i = 41 then 208 else if i = 42 then 209 else if i = 43 then 210 else if i = 44 then 211 else if i = 45 then 212 else if i = 46 then 213 else if i = 47 then 214 else if i = 48 then 215 else if i = 49 then 216 else if i = 50 then 217 else if i = 51 then 218 else if i = 52 then 219 else if i = 53 then 220 else if i = 54 then 221 else if i = 55 then 222 else if i = 56 then 223 else if i = 57 then 224 else if i = 58 then 225 else if i = 59 then 226 else 0
/-- What each operation yields. -/
def wk19S (gA _p3 cd cx cy ck cm : Nat) (Ad Ax Ay Ac Am : Option Addr) (ix : Nat) (v : Value) (W : World) : Prop :=
  match ix with
  | 0 => v = .int .i64 0
  | 1 => v = .bool true
  | 2 => v = .bool true
  | 3 => v = .int .i64 14
  | 4 => v = .bool true
  | 5 => v = .bool true
  | 6 => v = .bool true
  | 7 => v = .agg #[.int .i64 50, .int .i64 80]
  | 8 => v = .agg #[.int .i64 50, .int .i64 80]
  | 9 => v = .bool true
  | 10 => v = .bool true
  | 11 => v = .bool true
  | 12 => v = .slice Ad 3 cd
  | 13 => ∃ g, v = .slice (some ⟨g, 0, none⟩) 3 3 ∧ Held W W.heap.size 1 encI (some ⟨g, 0, none⟩) [0, 1, 3]
  | 14 => v = .bool true
  | 15 => v = .bool true
  | 16 => v = .bool true
  | 17 => v = .slice Ax 2 cx
  | 18 => ∃ g, v = .slice (some ⟨g, 0, none⟩) 2 2 ∧ Held W W.heap.size 1 encI (some ⟨g, 0, none⟩) [80, 150]
  | 19 => v = .bool true
  | 20 => v = .bool true
  | 21 => v = .bool true
  | 22 => v = .slice Ay 2 cy
  | 23 => v = .int .i64 2
  | 24 => v = .bool true
  | 25 => v = .bool true
  | 26 => v = .bool true
  | 27 => v = .slice (some ⟨gA, 0, none⟩) 4 4
  | 28 => v = .slice Ay 2 cy
  | 29 => v = .int .i64 0
  | 30 => v = .bool true
  | 31 => v = .bool true
  | 32 => v = .bool true
  | 33 => v = .slice Ac 1 ck
  | 34 => ∃ g, v = .slice (some ⟨g, 0, none⟩) 1 1 ∧ Held W W.heap.size 1 encI (some ⟨g, 0, none⟩) [2]
  | 35 => v = .bool true
  | 36 => v = .bool true
  | 37 => v = .bool true
  | 38 => v = .int .i64 4
  | 39 => v = .bool true
  | 40 => v = .bool true
  | 41 => v = .bool true
  | 42 => v = .int .i64 14
  | 43 => v = .bool true
  | 44 => v = .bool true
  | 45 => v = .bool true
  | 46 => v = .slice Am 1 cm
  | 47 => v = .int .i64 1
  | 48 => v = .bool true
  | 49 => v = .bool true
  | 50 => v = .bool true
  | 51 => v = .slice (some ⟨gA, 0, none⟩) 4 4
  | 52 => v = .slice Am 1 cm
  | 53 => v = .int .i64 14
  | 54 => v = .bool true
  | 55 => v = .bool true
  | 56 => v = .bool true
  | 57 => v = .int .i64 14
  | 58 => v = .bool true
  | 59 => v = .bool true
  | 60 => v = .bool true
  | _ => True
noncomputable def wk19Reg : Array Oper := (Tryz.f15.body.bind (regionOf · 19)).getD #[]
theorem wk19S_ext {gA p3 cd cx cy ck cm : Nat} {Ad Ax Ay Ac Am : Option Addr} : ∀ (i : Nat) (v : Value) (W W' : World), wk19S gA p3 cd cx cy ck cm Ad Ax Ay Ac Am i v W → Below W.heap.size W W' → wk19S gA p3 cd cx cy ck cm Ad Ax Ay Ac Am i v W' := by
  intro i v W W' h e
  match i with
  | 0 => exact h
  | 1 => exact h
  | 2 => exact h
  | 3 => exact h
  | 4 => exact h
  | 5 => exact h
  | 6 => exact h
  | 7 => exact h
  | 8 => exact h
  | 9 => exact h
  | 10 => exact h
  | 11 => exact h
  | 12 => exact h
  | 13 => (obtain ⟨g, h1, h2⟩ := h; exact ⟨g, h1, h2.ext e⟩)
  | 14 => exact h
  | 15 => exact h
  | 16 => exact h
  | 17 => exact h
  | 18 => (obtain ⟨g, h1, h2⟩ := h; exact ⟨g, h1, h2.ext e⟩)
  | 19 => exact h
  | 20 => exact h
  | 21 => exact h
  | 22 => exact h
  | 23 => exact h
  | 24 => exact h
  | 25 => exact h
  | 26 => exact h
  | 27 => exact h
  | 28 => exact h
  | 29 => exact h
  | 30 => exact h
  | 31 => exact h
  | 32 => exact h
  | 33 => exact h
  | 34 => (obtain ⟨g, h1, h2⟩ := h; exact ⟨g, h1, h2.ext e⟩)
  | 35 => exact h
  | 36 => exact h
  | 37 => exact h
  | 38 => exact h
  | 39 => exact h
  | 40 => exact h
  | 41 => exact h
  | 42 => exact h
  | 43 => exact h
  | 44 => exact h
  | 45 => exact h
  | 46 => exact h
  | 47 => exact h
  | 48 => exact h
  | 49 => exact h
  | 50 => exact h
  | 51 => exact h
  | 52 => exact h
  | 53 => exact h
  | 54 => exact h
  | 55 => exact h
  | 56 => exact h
  | 57 => exact h
  | 58 => exact h
  | 59 => exact h
  | 60 => exact h
  | k + 61 => exact trivial
def wk19Ok (gA p3 cd cx cy ck cm : Nat) (Ad Ax Ay Ac Am : Option Addr) (Q : Exit → Act → World → Prop) (a : Act) (W : World) (ix : Nat) (o : Oper) : Prop :=
  (∀ j b, o.guard = some (j, b) → a.eval (.tmp (wk19D j)) = .bool b) ∧ o.wp Tryz.prog a W (fun a'' W' => ∃ v, a'' = a.put o.dst v ∧ wk19S gA p3 cd cx cy ck cm Ad Ax Ay Ac Am ix v W' ∧ Below W.heap.size W W') Q
section
variable {gA p3 cd cx cy ck cm : Nat} {Ad Ax Ay Ac Am : Option Addr} {Q : Exit → Act → World → Prop} {a : Act} {V W : World} {o : Oper}
set_option maxHeartbeats 1000000 in
theorem wk19_op0 (o32 : a.eval (.tmp 32) = .int .i64 0) (ho : wk19Reg[0]? = some o) : wk19Ok gA p3 cd cx cy ck cm Ad Ax Ay Ac Am Q a W 0 o := by
  have hop := op_at ho (·.op) (x := Op.move (Operand.tmp 32)) (by kernel_rfl)
  have hgd := op_at ho (·.guard) (x := none) (by kernel_rfl)
  refine ⟨fun j b h => (by rw [hgd] at h; cases h), ?_⟩
  exact specs_value (R := fun v W => wk19S gA p3 cd cx cy ck cm Ad Ax Ay Ac Am 0 v W) (v := .int .i64 0) (by simp [execOp, hop, go_sem, ev o32]) rfl (Ext.refl W)
set_option maxHeartbeats 1000000 in
theorem wk19_op1 (haft : ∀ j, (o.after.any fun e => decide (e.on = j) && Region.binds .any e) = true → wk19S gA p3 cd cx cy ck cm Ad Ax Ay Ac Am j (a.eval (.tmp (wk19D j))) W) (ho : wk19Reg[1]? = some o) : wk19Ok gA p3 cd cx cy ck cm Ad Ax Ay Ac Am Q a W 1 o := by
  have hop := op_at ho (·.op) (x := Op.binOp BinOp.eql 27 (Operand.tmp 167) (Operand.const (Value.int IntKind.i64 0)) 27) (by kernel_rfl)
  have hgd := op_at ho (·.guard) (x := none) (by kernel_rfl)
  have e0 : a.eval (.tmp 167) = .int .i64 0 := haft 0 (op_at ho (fun o => o.after.any fun e => decide (e.on = 0) && Region.binds .any e) (x := true) (by kernel_rfl))
  refine ⟨fun j b h => (by rw [hgd] at h; cases h), ?_⟩
  exact specs_value (R := fun v W => wk19S gA p3 cd cx cy ck cm Ad Ax Ay Ac Am 1 v W) (v := .bool true) (by simp [execOp, hop, go_sem, ev e0]) rfl (Ext.refl W)
set_option maxHeartbeats 1000000 in
theorem wk19_op2 (haft : ∀ j, (o.after.any fun e => decide (e.on = j) && Region.binds .any e) = true → wk19S gA p3 cd cx cy ck cm Ad Ax Ay Ac Am j (a.eval (.tmp (wk19D j))) W) (ho : wk19Reg[2]? = some o) : wk19Ok gA p3 cd cx cy ck cm Ad Ax Ay Ac Am Q a W 2 o := by
  have hop := op_at ho (·.op) (x := Op.move (Operand.tmp 168)) (by kernel_rfl)
  have hgd := op_at ho (·.guard) (x := none) (by kernel_rfl)
  have e1 : a.eval (.tmp 168) = .bool true := haft 1 (op_at ho (fun o => o.after.any fun e => decide (e.on = 1) && Region.binds .any e) (x := true) (by kernel_rfl))
  refine ⟨fun j b h => (by rw [hgd] at h; cases h), ?_⟩
  exact specs_value (R := fun v W => wk19S gA p3 cd cx cy ck cm Ad Ax Ay Ac Am 2 v W) (v := .bool true) (by simp [execOp, hop, go_sem, ev e1]) rfl (Ext.refl W)
set_option maxHeartbeats 1000000 in
theorem wk19_op3 (o31 : a.eval (.tmp 31) = .int .i64 14) (haft : ∀ j, (o.after.any fun e => decide (e.on = j) && Region.binds .any e) = true → wk19S gA p3 cd cx cy ck cm Ad Ax Ay Ac Am j (a.eval (.tmp (wk19D j))) W) (ho : wk19Reg[3]? = some o) : wk19Ok gA p3 cd cx cy ck cm Ad Ax Ay Ac Am Q a W 3 o := by
  have hop := op_at ho (·.op) (x := Op.move (Operand.tmp 31)) (by kernel_rfl)
  have hgd := op_at ho (·.guard) (x := some (2, true)) (by kernel_rfl)
  have e2 : a.eval (.tmp 169) = .bool true := haft 2 (op_at ho (fun o => o.after.any fun e => decide (e.on = 2) && Region.binds .any e) (x := true) (by kernel_rfl))
  refine ⟨fun j b h => (by rw [hgd] at h; cases h; exact e2), ?_⟩
  exact specs_value (R := fun v W => wk19S gA p3 cd cx cy ck cm Ad Ax Ay Ac Am 3 v W) (v := .int .i64 14) (by simp [execOp, hop, go_sem, ev o31]) rfl (Ext.refl W)
set_option maxHeartbeats 1000000 in
theorem wk19_op4 (haft : ∀ j, (o.after.any fun e => decide (e.on = j) && Region.binds .any e) = true → wk19S gA p3 cd cx cy ck cm Ad Ax Ay Ac Am j (a.eval (.tmp (wk19D j))) W) (ho : wk19Reg[4]? = some o) : wk19Ok gA p3 cd cx cy ck cm Ad Ax Ay Ac Am Q a W 4 o := by
  have hop := op_at ho (·.op) (x := Op.binOp BinOp.eql 2 (Operand.tmp 170) (Operand.const (Value.int IntKind.i64 14)) 2) (by kernel_rfl)
  have hgd := op_at ho (·.guard) (x := some (2, true)) (by kernel_rfl)
  have e2 : a.eval (.tmp 169) = .bool true := haft 2 (op_at ho (fun o => o.after.any fun e => decide (e.on = 2) && Region.binds .any e) (x := true) (by kernel_rfl))
  have e3 : a.eval (.tmp 170) = .int .i64 14 := haft 3 (op_at ho (fun o => o.after.any fun e => decide (e.on = 3) && Region.binds .any e) (x := true) (by kernel_rfl))
  refine ⟨fun j b h => (by rw [hgd] at h; cases h; exact e2), ?_⟩
  exact specs_value (R := fun v W => wk19S gA p3 cd cx cy ck cm Ad Ax Ay Ac Am 4 v W) (v := .bool true) (by simp [execOp, hop, go_sem, ev e3]) rfl (Ext.refl W)
set_option maxHeartbeats 1000000 in
theorem wk19_op5 (haft : ∀ j, (o.after.any fun e => decide (e.on = j) && Region.binds .any e) = true → wk19S gA p3 cd cx cy ck cm Ad Ax Ay Ac Am j (a.eval (.tmp (wk19D j))) W) (ho : wk19Reg[5]? = some o) : wk19Ok gA p3 cd cx cy ck cm Ad Ax Ay Ac Am Q a W 5 o := by
  have hop := op_at ho (·.op) (x := Op.pick (Operand.tmp 169) (Operand.tmp 171) (Operand.const (Value.bool false))) (by kernel_rfl)
  have hgd := op_at ho (·.guard) (x := none) (by kernel_rfl)
  have e2 : a.eval (.tmp 169) = .bool true := haft 2 (op_at ho (fun o => o.after.any fun e => decide (e.on = 2) && Region.binds .any e) (x := true) (by kernel_rfl))
  have e4 : a.eval (.tmp 171) = .bool true := haft 4 (op_at ho (fun o => o.after.any fun e => decide (e.on = 4) && Region.binds .any e) (x := true) (by kernel_rfl))
  refine ⟨fun j b h => (by rw [hgd] at h; cases h), ?_⟩
  exact specs_value (R := fun v W => wk19S gA p3 cd cx cy ck cm Ad Ax Ay Ac Am 5 v W) (v := .bool true) (by simp [execOp, hop, go_sem, ev e2, ev e4]) rfl (Ext.refl W)
set_option maxHeartbeats 1000000 in
theorem wk19_op6 (haft : ∀ j, (o.after.any fun e => decide (e.on = j) && Region.binds .any e) = true → wk19S gA p3 cd cx cy ck cm Ad Ax Ay Ac Am j (a.eval (.tmp (wk19D j))) W) (ho : wk19Reg[6]? = some o) : wk19Ok gA p3 cd cx cy ck cm Ad Ax Ay Ac Am Q a W 6 o := by
  have hop := op_at ho (·.op) (x := Op.move (Operand.tmp 172)) (by kernel_rfl)
  have hgd := op_at ho (·.guard) (x := none) (by kernel_rfl)
  have e5 : a.eval (.tmp 172) = .bool true := haft 5 (op_at ho (fun o => o.after.any fun e => decide (e.on = 5) && Region.binds .any e) (x := true) (by kernel_rfl))
  refine ⟨fun j b h => (by rw [hgd] at h; cases h), ?_⟩
  exact specs_value (R := fun v W => wk19S gA p3 cd cx cy ck cm Ad Ax Ay Ac Am 6 v W) (v := .bool true) (by simp [execOp, hop, go_sem, ev e5]) rfl (Ext.refl W)
set_option maxHeartbeats 1000000 in
theorem wk19_op7 (o3 : a.eval (.tmp 3) = .pointer (some ⟨p3, 0, none⟩)) (d0 : ∀ W, Ext V W → W.cell? ⟨p3, 0, none⟩ = some (.int .i64 50)) (d1 : ∀ W, Ext V W → W.cell? ⟨p3, 1, none⟩ = some (.int .i64 80)) (hB : Ext V W) (haft : ∀ j, (o.after.any fun e => decide (e.on = j) && Region.binds .any e) = true → wk19S gA p3 cd cx cy ck cm Ad Ax Ay Ac Am j (a.eval (.tmp (wk19D j))) W) (ho : wk19Reg[7]? = some o) : wk19Ok gA p3 cd cx cy ck cm Ad Ax Ay Ac Am Q a W 7 o := by
  have hop := op_at ho (·.op) (x := Op.load 26 (Operand.tmp 3)) (by kernel_rfl)
  have hgd := op_at ho (·.guard) (x := some (6, true)) (by kernel_rfl)
  have e6 : a.eval (.tmp 173) = .bool true := haft 6 (op_at ho (fun o => o.after.any fun e => decide (e.on = 6) && Region.binds .any e) (x := true) (by kernel_rfl))
  refine ⟨fun j b h => (by rw [hgd] at h; cases h; exact e6), ?_⟩
  have d0' := d0 W hB
  have d1' := d1 W hB
  exact specs_value (R := fun v W => wk19S gA p3 cd cx cy ck cm Ad Ax Ay Ac Am 7 v W) (v := .agg #[.int .i64 50, .int .i64 80]) (by simp [execOp, hop, go_sem, ev o3, d0', d1']) rfl (Ext.refl W)
set_option maxHeartbeats 1000000 in
theorem wk19_op8 (k8 : ∀ W, Ext V W → Calls Tryz.prog 48 #[.int .i64 50, .int .i64 80] W fun e w' => e = .returned (.agg #[.int .i64 50, .int .i64 80]) ∧ Ext W w') (hB : Ext V W) (haft : ∀ j, (o.after.any fun e => decide (e.on = j) && Region.binds .any e) = true → wk19S gA p3 cd cx cy ck cm Ad Ax Ay Ac Am j (a.eval (.tmp (wk19D j))) W) (ho : wk19Reg[8]? = some o) : wk19Ok gA p3 cd cx cy ck cm Ad Ax Ay Ac Am Q a W 8 o := by
  have hop := op_at ho (·.op) (x := Op.call { callee := Callee.value (Operand.func 48), args := #[Operand.const (Value.int IntKind.i64 50), Operand.const (Value.int IntKind.i64 80)], argTypes := #[2, 2] }) (by kernel_rfl)
  have hgd := op_at ho (·.guard) (x := some (6, true)) (by kernel_rfl)
  have e6 : a.eval (.tmp 173) = .bool true := haft 6 (op_at ho (fun o => o.after.any fun e => decide (e.on = 6) && Region.binds .any e) (x := true) (by kernel_rfl))
  refine ⟨fun j b h => (by rw [hgd] at h; cases h; exact e6), ?_⟩
  refine specs_call (R := fun v W => wk19S gA p3 cd cx cy ck cm Ad Ax Ay Ac Am 8 v W) (f := 48) (args := #[.int .i64 50, .int .i64 80]) (by simp [execOp, hop, go_sem]) ((k8 W hB).mono ?_)
  rintro e w' ⟨rfl, h3⟩
  exact ⟨_, rfl, rfl, h3⟩
set_option maxHeartbeats 1000000 in
theorem wk19_op9 (haft : ∀ j, (o.after.any fun e => decide (e.on = j) && Region.binds .any e) = true → wk19S gA p3 cd cx cy ck cm Ad Ax Ay Ac Am j (a.eval (.tmp (wk19D j))) W) (ho : wk19Reg[9]? = some o) : wk19Ok gA p3 cd cx cy ck cm Ad Ax Ay Ac Am Q a W 9 o := by
  have hop := op_at ho (·.op) (x := Op.binOp BinOp.eql 26 (Operand.tmp 174) (Operand.tmp 175) 26) (by kernel_rfl)
  have hgd := op_at ho (·.guard) (x := some (6, true)) (by kernel_rfl)
  have e6 : a.eval (.tmp 173) = .bool true := haft 6 (op_at ho (fun o => o.after.any fun e => decide (e.on = 6) && Region.binds .any e) (x := true) (by kernel_rfl))
  have e7 : a.eval (.tmp 174) = .agg #[.int .i64 50, .int .i64 80] := haft 7 (op_at ho (fun o => o.after.any fun e => decide (e.on = 7) && Region.binds .any e) (x := true) (by kernel_rfl))
  have e8 : a.eval (.tmp 175) = .agg #[.int .i64 50, .int .i64 80] := haft 8 (op_at ho (fun o => o.after.any fun e => decide (e.on = 8) && Region.binds .any e) (x := true) (by kernel_rfl))
  refine ⟨fun j b h => (by rw [hgd] at h; cases h; exact e6), ?_⟩
  exact specs_value (R := fun v W => wk19S gA p3 cd cx cy ck cm Ad Ax Ay Ac Am 9 v W) (v := .bool true) (by simp [execOp, hop, go_sem, ev e7, ev e8, eqRange]) rfl (Ext.refl W)
set_option maxHeartbeats 1000000 in
theorem wk19_op10 (haft : ∀ j, (o.after.any fun e => decide (e.on = j) && Region.binds .any e) = true → wk19S gA p3 cd cx cy ck cm Ad Ax Ay Ac Am j (a.eval (.tmp (wk19D j))) W) (ho : wk19Reg[10]? = some o) : wk19Ok gA p3 cd cx cy ck cm Ad Ax Ay Ac Am Q a W 10 o := by
  have hop := op_at ho (·.op) (x := Op.pick (Operand.tmp 173) (Operand.tmp 176) (Operand.const (Value.bool false))) (by kernel_rfl)
  have hgd := op_at ho (·.guard) (x := none) (by kernel_rfl)
  have e6 : a.eval (.tmp 173) = .bool true := haft 6 (op_at ho (fun o => o.after.any fun e => decide (e.on = 6) && Region.binds .any e) (x := true) (by kernel_rfl))
  have e9 : a.eval (.tmp 176) = .bool true := haft 9 (op_at ho (fun o => o.after.any fun e => decide (e.on = 9) && Region.binds .any e) (x := true) (by kernel_rfl))
  refine ⟨fun j b h => (by rw [hgd] at h; cases h), ?_⟩
  exact specs_value (R := fun v W => wk19S gA p3 cd cx cy ck cm Ad Ax Ay Ac Am 10 v W) (v := .bool true) (by simp [execOp, hop, go_sem, ev e6, ev e9]) rfl (Ext.refl W)
set_option maxHeartbeats 1000000 in
theorem wk19_op11 (haft : ∀ j, (o.after.any fun e => decide (e.on = j) && Region.binds .any e) = true → wk19S gA p3 cd cx cy ck cm Ad Ax Ay Ac Am j (a.eval (.tmp (wk19D j))) W) (ho : wk19Reg[11]? = some o) : wk19Ok gA p3 cd cx cy ck cm Ad Ax Ay Ac Am Q a W 11 o := by
  have hop := op_at ho (·.op) (x := Op.move (Operand.tmp 177)) (by kernel_rfl)
  have hgd := op_at ho (·.guard) (x := none) (by kernel_rfl)
  have e10 : a.eval (.tmp 177) = .bool true := haft 10 (op_at ho (fun o => o.after.any fun e => decide (e.on = 10) && Region.binds .any e) (x := true) (by kernel_rfl))
  refine ⟨fun j b h => (by rw [hgd] at h; cases h), ?_⟩
  exact specs_value (R := fun v W => wk19S gA p3 cd cx cy ck cm Ad Ax Ay Ac Am 11 v W) (v := .bool true) (by simp [execOp, hop, go_sem, ev e10]) rfl (Ext.refl W)
set_option maxHeartbeats 1000000 in
theorem wk19_op12 (o7 : a.eval (.tmp 7) = .slice Ad 3 cd) (haft : ∀ j, (o.after.any fun e => decide (e.on = j) && Region.binds .any e) = true → wk19S gA p3 cd cx cy ck cm Ad Ax Ay Ac Am j (a.eval (.tmp (wk19D j))) W) (ho : wk19Reg[12]? = some o) : wk19Ok gA p3 cd cx cy ck cm Ad Ax Ay Ac Am Q a W 12 o := by
  have hop := op_at ho (·.op) (x := Op.move (Operand.tmp 7)) (by kernel_rfl)
  have hgd := op_at ho (·.guard) (x := some (11, true)) (by kernel_rfl)
  have e11 : a.eval (.tmp 178) = .bool true := haft 11 (op_at ho (fun o => o.after.any fun e => decide (e.on = 11) && Region.binds .any e) (x := true) (by kernel_rfl))
  refine ⟨fun j b h => (by rw [hgd] at h; cases h; exact e11), ?_⟩
  exact specs_value (R := fun v W => wk19S gA p3 cd cx cy ck cm Ad Ax Ay Ac Am 12 v W) (v := .slice Ad 3 cd) (by simp [execOp, hop, go_sem, ev o7]) rfl (Ext.refl W)
set_option maxHeartbeats 1000000 in
theorem wk19_op13 (haft : ∀ j, (o.after.any fun e => decide (e.on = j) && Region.binds .any e) = true → wk19S gA p3 cd cx cy ck cm Ad Ax Ay Ac Am j (a.eval (.tmp (wk19D j))) W) (ho : wk19Reg[13]? = some o) : wk19Ok gA p3 cd cx cy ck cm Ad Ax Ay Ac Am Q a W 13 o := by
  have hop := op_at ho (·.op) (x := Op.buildSlice 30 3 #[(0, Operand.const (Value.int IntKind.i64 0)), (1, Operand.const (Value.int IntKind.i64 1)), (2, Operand.const (Value.int IntKind.i64 3))]) (by kernel_rfl)
  have hgd := op_at ho (·.guard) (x := some (11, true)) (by kernel_rfl)
  have e11 : a.eval (.tmp 178) = .bool true := haft 11 (op_at ho (fun o => o.after.any fun e => decide (e.on = 11) && Region.binds .any e) (x := true) (by kernel_rfl))
  refine ⟨fun j b h => (by rw [hgd] at h; cases h; exact e11), ?_⟩
  exact specs_value (R := fun v W => wk19S gA p3 cd cx cy ck cm Ad Ax Ay Ac Am 13 v W) (v := .slice (some ⟨W.heap.size, 0, none⟩) 3 3) (W' := W.alloc (.cells (cellsI [0, 1, 3]) 3)) (op_b30_0_1_3 hop) ⟨_, rfl, held_lit _ _ _⟩ (ext_alloc _ _)
set_option maxHeartbeats 1000000 in
theorem wk19_op14 (hd : Held V V.heap.size 1 encI Ad [0, 1, 3]) (hB : Ext V W) (haft : ∀ j, (o.after.any fun e => decide (e.on = j) && Region.binds .any e) = true → wk19S gA p3 cd cx cy ck cm Ad Ax Ay Ac Am j (a.eval (.tmp (wk19D j))) W) (ho : wk19Reg[14]? = some o) : wk19Ok gA p3 cd cx cy ck cm Ad Ax Ay Ac Am Q a W 14 o := by
  have hop := op_at ho (·.op) (x := Op.call { callee := Callee.value (Operand.func 22), args := #[Operand.tmp 179, Operand.tmp 180], argTypes := #[30, 30] }) (by kernel_rfl)
  have hgd := op_at ho (·.guard) (x := some (11, true)) (by kernel_rfl)
  have e11 : a.eval (.tmp 178) = .bool true := haft 11 (op_at ho (fun o => o.after.any fun e => decide (e.on = 11) && Region.binds .any e) (x := true) (by kernel_rfl))
  have e12 : a.eval (.tmp 179) = .slice Ad 3 cd := haft 12 (op_at ho (fun o => o.after.any fun e => decide (e.on = 12) && Region.binds .any e) (x := true) (by kernel_rfl))
  have e13 : wk19S gA p3 cd cx cy ck cm Ad Ax Ay Ac Am 13 (a.eval (.tmp 180)) W := haft 13 (op_at ho (fun o => o.after.any fun e => decide (e.on = 13) && Region.binds .any e) (x := true) (by kernel_rfl))
  refine ⟨fun j b h => (by rw [hgd] at h; cases h; exact e11), ?_⟩
  obtain ⟨g, eg, hg⟩ := e13
  refine specs_call (R := fun v W => wk19S gA p3 cd cx cy ck cm Ad Ax Ay Ac Am 14 v W) (f := 22) (args := #[.slice Ad 3 cd, .slice (some ⟨g, 0, none⟩) 3 3]) (by simp [execOp, hop, go_sem, ev e12, ev eg]) ((ints_any _ _ _ _ _ _ [0, 1, 3] [0, 1, 3] W rfl rfl (by decide) (by decide) (hd.ext hB) hg).mono ?_)
  rintro e w' ⟨rfl, h3⟩
  exact ⟨_, rfl, by simp [wk19S], h3⟩
set_option maxHeartbeats 1000000 in
theorem wk19_op15 (haft : ∀ j, (o.after.any fun e => decide (e.on = j) && Region.binds .any e) = true → wk19S gA p3 cd cx cy ck cm Ad Ax Ay Ac Am j (a.eval (.tmp (wk19D j))) W) (ho : wk19Reg[15]? = some o) : wk19Ok gA p3 cd cx cy ck cm Ad Ax Ay Ac Am Q a W 15 o := by
  have hop := op_at ho (·.op) (x := Op.pick (Operand.tmp 178) (Operand.tmp 181) (Operand.const (Value.bool false))) (by kernel_rfl)
  have hgd := op_at ho (·.guard) (x := none) (by kernel_rfl)
  have e11 : a.eval (.tmp 178) = .bool true := haft 11 (op_at ho (fun o => o.after.any fun e => decide (e.on = 11) && Region.binds .any e) (x := true) (by kernel_rfl))
  have e14 : a.eval (.tmp 181) = .bool true := haft 14 (op_at ho (fun o => o.after.any fun e => decide (e.on = 14) && Region.binds .any e) (x := true) (by kernel_rfl))
  refine ⟨fun j b h => (by rw [hgd] at h; cases h), ?_⟩
  exact specs_value (R := fun v W => wk19S gA p3 cd cx cy ck cm Ad Ax Ay Ac Am 15 v W) (v := .bool true) (by simp [execOp, hop, go_sem, ev e11, ev e14]) rfl (Ext.refl W)
set_option maxHeartbeats 1000000 in
theorem wk19_op16 (haft : ∀ j, (o.after.any fun e => decide (e.on = j) && Region.binds .any e) = true → wk19S gA p3 cd cx cy ck cm Ad Ax Ay Ac Am j (a.eval (.tmp (wk19D j))) W) (ho : wk19Reg[16]? = some o) : wk19Ok gA p3 cd cx cy ck cm Ad Ax Ay Ac Am Q a W 16 o := by
  have hop := op_at ho (·.op) (x := Op.move (Operand.tmp 182)) (by kernel_rfl)
  have hgd := op_at ho (·.guard) (x := none) (by kernel_rfl)
  have e15 : a.eval (.tmp 182) = .bool true := haft 15 (op_at ho (fun o => o.after.any fun e => decide (e.on = 15) && Region.binds .any e) (x := true) (by kernel_rfl))
  refine ⟨fun j b h => (by rw [hgd] at h; cases h), ?_⟩
  exact specs_value (R := fun v W => wk19S gA p3 cd cx cy ck cm Ad Ax Ay Ac Am 16 v W) (v := .bool true) (by simp [execOp, hop, go_sem, ev e15]) rfl (Ext.refl W)
set_option maxHeartbeats 1000000 in
theorem wk19_op17 (o9 : a.eval (.tmp 9) = .slice Ax 2 cx) (haft : ∀ j, (o.after.any fun e => decide (e.on = j) && Region.binds .any e) = true → wk19S gA p3 cd cx cy ck cm Ad Ax Ay Ac Am j (a.eval (.tmp (wk19D j))) W) (ho : wk19Reg[17]? = some o) : wk19Ok gA p3 cd cx cy ck cm Ad Ax Ay Ac Am Q a W 17 o := by
  have hop := op_at ho (·.op) (x := Op.move (Operand.tmp 9)) (by kernel_rfl)
  have hgd := op_at ho (·.guard) (x := some (16, true)) (by kernel_rfl)
  have e16 : a.eval (.tmp 183) = .bool true := haft 16 (op_at ho (fun o => o.after.any fun e => decide (e.on = 16) && Region.binds .any e) (x := true) (by kernel_rfl))
  refine ⟨fun j b h => (by rw [hgd] at h; cases h; exact e16), ?_⟩
  exact specs_value (R := fun v W => wk19S gA p3 cd cx cy ck cm Ad Ax Ay Ac Am 17 v W) (v := .slice Ax 2 cx) (by simp [execOp, hop, go_sem, ev o9]) rfl (Ext.refl W)
set_option maxHeartbeats 1000000 in
theorem wk19_op18 (haft : ∀ j, (o.after.any fun e => decide (e.on = j) && Region.binds .any e) = true → wk19S gA p3 cd cx cy ck cm Ad Ax Ay Ac Am j (a.eval (.tmp (wk19D j))) W) (ho : wk19Reg[18]? = some o) : wk19Ok gA p3 cd cx cy ck cm Ad Ax Ay Ac Am Q a W 18 o := by
  have hop := op_at ho (·.op) (x := Op.buildSlice 36 2 #[(0, Operand.const (Value.int IntKind.i64 80)), (1, Operand.const (Value.int IntKind.i64 150))]) (by kernel_rfl)
  have hgd := op_at ho (·.guard) (x := some (16, true)) (by kernel_rfl)
  have e16 : a.eval (.tmp 183) = .bool true := haft 16 (op_at ho (fun o => o.after.any fun e => decide (e.on = 16) && Region.binds .any e) (x := true) (by kernel_rfl))
  refine ⟨fun j b h => (by rw [hgd] at h; cases h; exact e16), ?_⟩
  exact specs_value (R := fun v W => wk19S gA p3 cd cx cy ck cm Ad Ax Ay Ac Am 18 v W) (v := .slice (some ⟨W.heap.size, 0, none⟩) 2 2) (W' := W.alloc (.cells (cellsI [80, 150]) 2)) (op_b36_80_150 hop) ⟨_, rfl, held_lit _ _ _⟩ (ext_alloc _ _)
set_option maxHeartbeats 1000000 in
theorem wk19_op19 (hx : Held V V.heap.size 1 encI Ax [80, 150]) (hB : Ext V W) (haft : ∀ j, (o.after.any fun e => decide (e.on = j) && Region.binds .any e) = true → wk19S gA p3 cd cx cy ck cm Ad Ax Ay Ac Am j (a.eval (.tmp (wk19D j))) W) (ho : wk19Reg[19]? = some o) : wk19Ok gA p3 cd cx cy ck cm Ad Ax Ay Ac Am Q a W 19 o := by
  have hop := op_at ho (·.op) (x := Op.call { callee := Callee.value (Operand.func 31), args := #[Operand.tmp 184, Operand.tmp 185], argTypes := #[36, 36] }) (by kernel_rfl)
  have hgd := op_at ho (·.guard) (x := some (16, true)) (by kernel_rfl)
  have e16 : a.eval (.tmp 183) = .bool true := haft 16 (op_at ho (fun o => o.after.any fun e => decide (e.on = 16) && Region.binds .any e) (x := true) (by kernel_rfl))
  have e17 : a.eval (.tmp 184) = .slice Ax 2 cx := haft 17 (op_at ho (fun o => o.after.any fun e => decide (e.on = 17) && Region.binds .any e) (x := true) (by kernel_rfl))
  have e18 : wk19S gA p3 cd cx cy ck cm Ad Ax Ay Ac Am 18 (a.eval (.tmp 185)) W := haft 18 (op_at ho (fun o => o.after.any fun e => decide (e.on = 18) && Region.binds .any e) (x := true) (by kernel_rfl))
  refine ⟨fun j b h => (by rw [hgd] at h; cases h; exact e16), ?_⟩
  obtain ⟨g, eg, hg⟩ := e18
  refine specs_call (R := fun v W => wk19S gA p3 cd cx cy ck cm Ad Ax Ay Ac Am 19 v W) (f := 31) (args := #[.slice Ax 2 cx, .slice (some ⟨g, 0, none⟩) 2 2]) (by simp [execOp, hop, go_sem, ev e17, ev eg]) ((longs_any _ _ _ _ _ _ [80, 150] [80, 150] W rfl rfl (by decide) (by decide) (hx.ext hB) hg).mono ?_)
  rintro e w' ⟨rfl, h3⟩
  exact ⟨_, rfl, by simp [wk19S], h3⟩
set_option maxHeartbeats 1000000 in
theorem wk19_op20 (haft : ∀ j, (o.after.any fun e => decide (e.on = j) && Region.binds .any e) = true → wk19S gA p3 cd cx cy ck cm Ad Ax Ay Ac Am j (a.eval (.tmp (wk19D j))) W) (ho : wk19Reg[20]? = some o) : wk19Ok gA p3 cd cx cy ck cm Ad Ax Ay Ac Am Q a W 20 o := by
  have hop := op_at ho (·.op) (x := Op.pick (Operand.tmp 183) (Operand.tmp 186) (Operand.const (Value.bool false))) (by kernel_rfl)
  have hgd := op_at ho (·.guard) (x := none) (by kernel_rfl)
  have e16 : a.eval (.tmp 183) = .bool true := haft 16 (op_at ho (fun o => o.after.any fun e => decide (e.on = 16) && Region.binds .any e) (x := true) (by kernel_rfl))
  have e19 : a.eval (.tmp 186) = .bool true := haft 19 (op_at ho (fun o => o.after.any fun e => decide (e.on = 19) && Region.binds .any e) (x := true) (by kernel_rfl))
  refine ⟨fun j b h => (by rw [hgd] at h; cases h), ?_⟩
  exact specs_value (R := fun v W => wk19S gA p3 cd cx cy ck cm Ad Ax Ay Ac Am 20 v W) (v := .bool true) (by simp [execOp, hop, go_sem, ev e16, ev e19]) rfl (Ext.refl W)
set_option maxHeartbeats 1000000 in
theorem wk19_op21 (haft : ∀ j, (o.after.any fun e => decide (e.on = j) && Region.binds .any e) = true → wk19S gA p3 cd cx cy ck cm Ad Ax Ay Ac Am j (a.eval (.tmp (wk19D j))) W) (ho : wk19Reg[21]? = some o) : wk19Ok gA p3 cd cx cy ck cm Ad Ax Ay Ac Am Q a W 21 o := by
  have hop := op_at ho (·.op) (x := Op.move (Operand.tmp 187)) (by kernel_rfl)
  have hgd := op_at ho (·.guard) (x := none) (by kernel_rfl)
  have e20 : a.eval (.tmp 187) = .bool true := haft 20 (op_at ho (fun o => o.after.any fun e => decide (e.on = 20) && Region.binds .any e) (x := true) (by kernel_rfl))
  refine ⟨fun j b h => (by rw [hgd] at h; cases h), ?_⟩
  exact specs_value (R := fun v W => wk19S gA p3 cd cx cy ck cm Ad Ax Ay Ac Am 21 v W) (v := .bool true) (by simp [execOp, hop, go_sem, ev e20]) rfl (Ext.refl W)
set_option maxHeartbeats 1000000 in
theorem wk19_op22 (o15 : a.eval (.tmp 15) = .slice Ay 2 cy) (haft : ∀ j, (o.after.any fun e => decide (e.on = j) && Region.binds .any e) = true → wk19S gA p3 cd cx cy ck cm Ad Ax Ay Ac Am j (a.eval (.tmp (wk19D j))) W) (ho : wk19Reg[22]? = some o) : wk19Ok gA p3 cd cx cy ck cm Ad Ax Ay Ac Am Q a W 22 o := by
  have hop := op_at ho (·.op) (x := Op.move (Operand.tmp 15)) (by kernel_rfl)
  have hgd := op_at ho (·.guard) (x := some (21, true)) (by kernel_rfl)
  have e21 : a.eval (.tmp 188) = .bool true := haft 21 (op_at ho (fun o => o.after.any fun e => decide (e.on = 21) && Region.binds .any e) (x := true) (by kernel_rfl))
  refine ⟨fun j b h => (by rw [hgd] at h; cases h; exact e21), ?_⟩
  exact specs_value (R := fun v W => wk19S gA p3 cd cx cy ck cm Ad Ax Ay Ac Am 22 v W) (v := .slice Ay 2 cy) (by simp [execOp, hop, go_sem, ev o15]) rfl (Ext.refl W)
set_option maxHeartbeats 1000000 in
theorem wk19_op23 (haft : ∀ j, (o.after.any fun e => decide (e.on = j) && Region.binds .any e) = true → wk19S gA p3 cd cx cy ck cm Ad Ax Ay Ac Am j (a.eval (.tmp (wk19D j))) W) (ho : wk19Reg[23]? = some o) : wk19Ok gA p3 cd cx cy ck cm Ad Ax Ay Ac Am Q a W 23 o := by
  have hop := op_at ho (·.op) (x := Op.call { callee := Callee.builtin Builtin.len, args := #[Operand.tmp 189], argTypes := #[30] }) (by kernel_rfl)
  have hgd := op_at ho (·.guard) (x := some (21, true)) (by kernel_rfl)
  have e21 : a.eval (.tmp 188) = .bool true := haft 21 (op_at ho (fun o => o.after.any fun e => decide (e.on = 21) && Region.binds .any e) (x := true) (by kernel_rfl))
  have e22 : a.eval (.tmp 189) = .slice Ay 2 cy := haft 22 (op_at ho (fun o => o.after.any fun e => decide (e.on = 22) && Region.binds .any e) (x := true) (by kernel_rfl))
  refine ⟨fun j b h => (by rw [hgd] at h; cases h; exact e21), ?_⟩
  exact specs_value (R := fun v W => wk19S gA p3 cd cx cy ck cm Ad Ax Ay Ac Am 23 v W) (v := .int .i64 2) (by simp [execOp, hop, go_sem, ev e22]) rfl (Ext.refl W)
set_option maxHeartbeats 1000000 in
theorem wk19_op24 (haft : ∀ j, (o.after.any fun e => decide (e.on = j) && Region.binds .any e) = true → wk19S gA p3 cd cx cy ck cm Ad Ax Ay Ac Am j (a.eval (.tmp (wk19D j))) W) (ho : wk19Reg[24]? = some o) : wk19Ok gA p3 cd cx cy ck cm Ad Ax Ay Ac Am Q a W 24 o := by
  have hop := op_at ho (·.op) (x := Op.binOp BinOp.eql 3 (Operand.tmp 190) (Operand.const (Value.int IntKind.i64 2)) 3) (by kernel_rfl)
  have hgd := op_at ho (·.guard) (x := some (21, true)) (by kernel_rfl)
  have e21 : a.eval (.tmp 188) = .bool true := haft 21 (op_at ho (fun o => o.after.any fun e => decide (e.on = 21) && Region.binds .any e) (x := true) (by kernel_rfl))
  have e23 : a.eval (.tmp 190) = .int .i64 2 := haft 23 (op_at ho (fun o => o.after.any fun e => decide (e.on = 23) && Region.binds .any e) (x := true) (by kernel_rfl))
  refine ⟨fun j b h => (by rw [hgd] at h; cases h; exact e21), ?_⟩
  exact specs_value (R := fun v W => wk19S gA p3 cd cx cy ck cm Ad Ax Ay Ac Am 24 v W) (v := .bool true) (by simp [execOp, hop, go_sem, ev e23]) rfl (Ext.refl W)
set_option maxHeartbeats 1000000 in
theorem wk19_op25 (haft : ∀ j, (o.after.any fun e => decide (e.on = j) && Region.binds .any e) = true → wk19S gA p3 cd cx cy ck cm Ad Ax Ay Ac Am j (a.eval (.tmp (wk19D j))) W) (ho : wk19Reg[25]? = some o) : wk19Ok gA p3 cd cx cy ck cm Ad Ax Ay Ac Am Q a W 25 o := by
  have hop := op_at ho (·.op) (x := Op.pick (Operand.tmp 188) (Operand.tmp 191) (Operand.const (Value.bool false))) (by kernel_rfl)
  have hgd := op_at ho (·.guard) (x := none) (by kernel_rfl)
  have e21 : a.eval (.tmp 188) = .bool true := haft 21 (op_at ho (fun o => o.after.any fun e => decide (e.on = 21) && Region.binds .any e) (x := true) (by kernel_rfl))
  have e24 : a.eval (.tmp 191) = .bool true := haft 24 (op_at ho (fun o => o.after.any fun e => decide (e.on = 24) && Region.binds .any e) (x := true) (by kernel_rfl))
  refine ⟨fun j b h => (by rw [hgd] at h; cases h), ?_⟩
  exact specs_value (R := fun v W => wk19S gA p3 cd cx cy ck cm Ad Ax Ay Ac Am 25 v W) (v := .bool true) (by simp [execOp, hop, go_sem, ev e21, ev e24]) rfl (Ext.refl W)
set_option maxHeartbeats 1000000 in
theorem wk19_op26 (haft : ∀ j, (o.after.any fun e => decide (e.on = j) && Region.binds .any e) = true → wk19S gA p3 cd cx cy ck cm Ad Ax Ay Ac Am j (a.eval (.tmp (wk19D j))) W) (ho : wk19Reg[26]? = some o) : wk19Ok gA p3 cd cx cy ck cm Ad Ax Ay Ac Am Q a W 26 o := by
  have hop := op_at ho (·.op) (x := Op.move (Operand.tmp 192)) (by kernel_rfl)
  have hgd := op_at ho (·.guard) (x := none) (by kernel_rfl)
  have e25 : a.eval (.tmp 192) = .bool true := haft 25 (op_at ho (fun o => o.after.any fun e => decide (e.on = 25) && Region.binds .any e) (x := true) (by kernel_rfl))
  refine ⟨fun j b h => (by rw [hgd] at h; cases h), ?_⟩
  exact specs_value (R := fun v W => wk19S gA p3 cd cx cy ck cm Ad Ax Ay Ac Am 26 v W) (v := .bool true) (by simp [execOp, hop, go_sem, ev e25]) rfl (Ext.refl W)
set_option maxHeartbeats 1000000 in
theorem wk19_op27 (o1 : a.eval (.tmp 1) = .slice (some ⟨gA, 0, none⟩) 4 4) (haft : ∀ j, (o.after.any fun e => decide (e.on = j) && Region.binds .any e) = true → wk19S gA p3 cd cx cy ck cm Ad Ax Ay Ac Am j (a.eval (.tmp (wk19D j))) W) (ho : wk19Reg[27]? = some o) : wk19Ok gA p3 cd cx cy ck cm Ad Ax Ay Ac Am Q a W 27 o := by
  have hop := op_at ho (·.op) (x := Op.move (Operand.tmp 1)) (by kernel_rfl)
  have hgd := op_at ho (·.guard) (x := some (26, true)) (by kernel_rfl)
  have e26 : a.eval (.tmp 193) = .bool true := haft 26 (op_at ho (fun o => o.after.any fun e => decide (e.on = 26) && Region.binds .any e) (x := true) (by kernel_rfl))
  refine ⟨fun j b h => (by rw [hgd] at h; cases h; exact e26), ?_⟩
  exact specs_value (R := fun v W => wk19S gA p3 cd cx cy ck cm Ad Ax Ay Ac Am 27 v W) (v := .slice (some ⟨gA, 0, none⟩) 4 4) (by simp [execOp, hop, go_sem, ev o1]) rfl (Ext.refl W)
set_option maxHeartbeats 1000000 in
theorem wk19_op28 (o15 : a.eval (.tmp 15) = .slice Ay 2 cy) (haft : ∀ j, (o.after.any fun e => decide (e.on = j) && Region.binds .any e) = true → wk19S gA p3 cd cx cy ck cm Ad Ax Ay Ac Am j (a.eval (.tmp (wk19D j))) W) (ho : wk19Reg[28]? = some o) : wk19Ok gA p3 cd cx cy ck cm Ad Ax Ay Ac Am Q a W 28 o := by
  have hop := op_at ho (·.op) (x := Op.move (Operand.tmp 15)) (by kernel_rfl)
  have hgd := op_at ho (·.guard) (x := some (26, true)) (by kernel_rfl)
  have e26 : a.eval (.tmp 193) = .bool true := haft 26 (op_at ho (fun o => o.after.any fun e => decide (e.on = 26) && Region.binds .any e) (x := true) (by kernel_rfl))
  refine ⟨fun j b h => (by rw [hgd] at h; cases h; exact e26), ?_⟩
  exact specs_value (R := fun v W => wk19S gA p3 cd cx cy ck cm Ad Ax Ay Ac Am 28 v W) (v := .slice Ay 2 cy) (by simp [execOp, hop, go_sem, ev o15]) rfl (Ext.refl W)
set_option maxHeartbeats 1000000 in
theorem wk19_op29 (k29 : ∀ W, Ext V W → Calls Tryz.prog 34 #[.slice (some ⟨gA, 0, none⟩) 4 4, .slice Ay 2 cy] W fun e w' => e = .returned (.int .i64 0) ∧ Ext W w') (hB : Ext V W) (haft : ∀ j, (o.after.any fun e => decide (e.on = j) && Region.binds .any e) = true → wk19S gA p3 cd cx cy ck cm Ad Ax Ay Ac Am j (a.eval (.tmp (wk19D j))) W) (ho : wk19Reg[29]? = some o) : wk19Ok gA p3 cd cx cy ck cm Ad Ax Ay Ac Am Q a W 29 o := by
  have hop := op_at ho (·.op) (x := Op.call { callee := Callee.value (Operand.func 34), args := #[Operand.tmp 194, Operand.tmp 195], argTypes := #[22, 30] }) (by kernel_rfl)
  have hgd := op_at ho (·.guard) (x := some (26, true)) (by kernel_rfl)
  have e26 : a.eval (.tmp 193) = .bool true := haft 26 (op_at ho (fun o => o.after.any fun e => decide (e.on = 26) && Region.binds .any e) (x := true) (by kernel_rfl))
  have e27 : a.eval (.tmp 194) = .slice (some ⟨gA, 0, none⟩) 4 4 := haft 27 (op_at ho (fun o => o.after.any fun e => decide (e.on = 27) && Region.binds .any e) (x := true) (by kernel_rfl))
  have e28 : a.eval (.tmp 195) = .slice Ay 2 cy := haft 28 (op_at ho (fun o => o.after.any fun e => decide (e.on = 28) && Region.binds .any e) (x := true) (by kernel_rfl))
  refine ⟨fun j b h => (by rw [hgd] at h; cases h; exact e26), ?_⟩
  refine specs_call (R := fun v W => wk19S gA p3 cd cx cy ck cm Ad Ax Ay Ac Am 29 v W) (f := 34) (args := #[.slice (some ⟨gA, 0, none⟩) 4 4, .slice Ay 2 cy]) (by simp [execOp, hop, go_sem, ev e27, ev e28]) ((k29 W hB).mono ?_)
  rintro e w' ⟨rfl, h3⟩
  exact ⟨_, rfl, rfl, h3⟩
set_option maxHeartbeats 1000000 in
theorem wk19_op30 (haft : ∀ j, (o.after.any fun e => decide (e.on = j) && Region.binds .any e) = true → wk19S gA p3 cd cx cy ck cm Ad Ax Ay Ac Am j (a.eval (.tmp (wk19D j))) W) (ho : wk19Reg[30]? = some o) : wk19Ok gA p3 cd cx cy ck cm Ad Ax Ay Ac Am Q a W 30 o := by
  have hop := op_at ho (·.op) (x := Op.binOp BinOp.eql 27 (Operand.tmp 196) (Operand.const (Value.int IntKind.i64 0)) 27) (by kernel_rfl)
  have hgd := op_at ho (·.guard) (x := some (26, true)) (by kernel_rfl)
  have e26 : a.eval (.tmp 193) = .bool true := haft 26 (op_at ho (fun o => o.after.any fun e => decide (e.on = 26) && Region.binds .any e) (x := true) (by kernel_rfl))
  have e29 : a.eval (.tmp 196) = .int .i64 0 := haft 29 (op_at ho (fun o => o.after.any fun e => decide (e.on = 29) && Region.binds .any e) (x := true) (by kernel_rfl))
  refine ⟨fun j b h => (by rw [hgd] at h; cases h; exact e26), ?_⟩
  exact specs_value (R := fun v W => wk19S gA p3 cd cx cy ck cm Ad Ax Ay Ac Am 30 v W) (v := .bool true) (by simp [execOp, hop, go_sem, ev e29]) rfl (Ext.refl W)
set_option maxHeartbeats 1000000 in
theorem wk19_op31 (haft : ∀ j, (o.after.any fun e => decide (e.on = j) && Region.binds .any e) = true → wk19S gA p3 cd cx cy ck cm Ad Ax Ay Ac Am j (a.eval (.tmp (wk19D j))) W) (ho : wk19Reg[31]? = some o) : wk19Ok gA p3 cd cx cy ck cm Ad Ax Ay Ac Am Q a W 31 o := by
  have hop := op_at ho (·.op) (x := Op.pick (Operand.tmp 193) (Operand.tmp 197) (Operand.const (Value.bool false))) (by kernel_rfl)
  have hgd := op_at ho (·.guard) (x := none) (by kernel_rfl)
  have e26 : a.eval (.tmp 193) = .bool true := haft 26 (op_at ho (fun o => o.after.any fun e => decide (e.on = 26) && Region.binds .any e) (x := true) (by kernel_rfl))
  have e30 : a.eval (.tmp 197) = .bool true := haft 30 (op_at ho (fun o => o.after.any fun e => decide (e.on = 30) && Region.binds .any e) (x := true) (by kernel_rfl))
  refine ⟨fun j b h => (by rw [hgd] at h; cases h), ?_⟩
  exact specs_value (R := fun v W => wk19S gA p3 cd cx cy ck cm Ad Ax Ay Ac Am 31 v W) (v := .bool true) (by simp [execOp, hop, go_sem, ev e26, ev e30]) rfl (Ext.refl W)
set_option maxHeartbeats 1000000 in
theorem wk19_op32 (haft : ∀ j, (o.after.any fun e => decide (e.on = j) && Region.binds .any e) = true → wk19S gA p3 cd cx cy ck cm Ad Ax Ay Ac Am j (a.eval (.tmp (wk19D j))) W) (ho : wk19Reg[32]? = some o) : wk19Ok gA p3 cd cx cy ck cm Ad Ax Ay Ac Am Q a W 32 o := by
  have hop := op_at ho (·.op) (x := Op.move (Operand.tmp 198)) (by kernel_rfl)
  have hgd := op_at ho (·.guard) (x := none) (by kernel_rfl)
  have e31 : a.eval (.tmp 198) = .bool true := haft 31 (op_at ho (fun o => o.after.any fun e => decide (e.on = 31) && Region.binds .any e) (x := true) (by kernel_rfl))
  refine ⟨fun j b h => (by rw [hgd] at h; cases h), ?_⟩
  exact specs_value (R := fun v W => wk19S gA p3 cd cx cy ck cm Ad Ax Ay Ac Am 32 v W) (v := .bool true) (by simp [execOp, hop, go_sem, ev e31]) rfl (Ext.refl W)
set_option maxHeartbeats 1000000 in
theorem wk19_op33 (o17 : a.eval (.tmp 17) = .slice Ac 1 ck) (haft : ∀ j, (o.after.any fun e => decide (e.on = j) && Region.binds .any e) = true → wk19S gA p3 cd cx cy ck cm Ad Ax Ay Ac Am j (a.eval (.tmp (wk19D j))) W) (ho : wk19Reg[33]? = some o) : wk19Ok gA p3 cd cx cy ck cm Ad Ax Ay Ac Am Q a W 33 o := by
  have hop := op_at ho (·.op) (x := Op.move (Operand.tmp 17)) (by kernel_rfl)
  have hgd := op_at ho (·.guard) (x := some (32, true)) (by kernel_rfl)
  have e32 : a.eval (.tmp 199) = .bool true := haft 32 (op_at ho (fun o => o.after.any fun e => decide (e.on = 32) && Region.binds .any e) (x := true) (by kernel_rfl))
  refine ⟨fun j b h => (by rw [hgd] at h; cases h; exact e32), ?_⟩
  exact specs_value (R := fun v W => wk19S gA p3 cd cx cy ck cm Ad Ax Ay Ac Am 33 v W) (v := .slice Ac 1 ck) (by simp [execOp, hop, go_sem, ev o17]) rfl (Ext.refl W)
set_option maxHeartbeats 1000000 in
theorem wk19_op34 (haft : ∀ j, (o.after.any fun e => decide (e.on = j) && Region.binds .any e) = true → wk19S gA p3 cd cx cy ck cm Ad Ax Ay Ac Am j (a.eval (.tmp (wk19D j))) W) (ho : wk19Reg[34]? = some o) : wk19Ok gA p3 cd cx cy ck cm Ad Ax Ay Ac Am Q a W 34 o := by
  have hop := op_at ho (·.op) (x := Op.buildSlice 30 1 #[(0, Operand.const (Value.int IntKind.i64 2))]) (by kernel_rfl)
  have hgd := op_at ho (·.guard) (x := some (32, true)) (by kernel_rfl)
  have e32 : a.eval (.tmp 199) = .bool true := haft 32 (op_at ho (fun o => o.after.any fun e => decide (e.on = 32) && Region.binds .any e) (x := true) (by kernel_rfl))
  refine ⟨fun j b h => (by rw [hgd] at h; cases h; exact e32), ?_⟩
  exact specs_value (R := fun v W => wk19S gA p3 cd cx cy ck cm Ad Ax Ay Ac Am 34 v W) (v := .slice (some ⟨W.heap.size, 0, none⟩) 1 1) (W' := W.alloc (.cells (cellsI [2]) 3)) (op_b30_2 hop) ⟨_, rfl, held_lit _ _ _⟩ (ext_alloc _ _)
set_option maxHeartbeats 1000000 in
theorem wk19_op35 (hc : Held V V.heap.size 1 encI Ac [2]) (hB : Ext V W) (haft : ∀ j, (o.after.any fun e => decide (e.on = j) && Region.binds .any e) = true → wk19S gA p3 cd cx cy ck cm Ad Ax Ay Ac Am j (a.eval (.tmp (wk19D j))) W) (ho : wk19Reg[35]? = some o) : wk19Ok gA p3 cd cx cy ck cm Ad Ax Ay Ac Am Q a W 35 o := by
  have hop := op_at ho (·.op) (x := Op.call { callee := Callee.value (Operand.func 22), args := #[Operand.tmp 200, Operand.tmp 201], argTypes := #[30, 30] }) (by kernel_rfl)
  have hgd := op_at ho (·.guard) (x := some (32, true)) (by kernel_rfl)
  have e32 : a.eval (.tmp 199) = .bool true := haft 32 (op_at ho (fun o => o.after.any fun e => decide (e.on = 32) && Region.binds .any e) (x := true) (by kernel_rfl))
  have e33 : a.eval (.tmp 200) = .slice Ac 1 ck := haft 33 (op_at ho (fun o => o.after.any fun e => decide (e.on = 33) && Region.binds .any e) (x := true) (by kernel_rfl))
  have e34 : wk19S gA p3 cd cx cy ck cm Ad Ax Ay Ac Am 34 (a.eval (.tmp 201)) W := haft 34 (op_at ho (fun o => o.after.any fun e => decide (e.on = 34) && Region.binds .any e) (x := true) (by kernel_rfl))
  refine ⟨fun j b h => (by rw [hgd] at h; cases h; exact e32), ?_⟩
  obtain ⟨g, eg, hg⟩ := e34
  refine specs_call (R := fun v W => wk19S gA p3 cd cx cy ck cm Ad Ax Ay Ac Am 35 v W) (f := 22) (args := #[.slice Ac 1 ck, .slice (some ⟨g, 0, none⟩) 1 1]) (by simp [execOp, hop, go_sem, ev e33, ev eg]) ((ints_any _ _ _ _ _ _ [2] [2] W rfl rfl (by decide) (by decide) (hc.ext hB) hg).mono ?_)
  rintro e w' ⟨rfl, h3⟩
  exact ⟨_, rfl, by simp [wk19S], h3⟩
set_option maxHeartbeats 1000000 in
theorem wk19_op36 (haft : ∀ j, (o.after.any fun e => decide (e.on = j) && Region.binds .any e) = true → wk19S gA p3 cd cx cy ck cm Ad Ax Ay Ac Am j (a.eval (.tmp (wk19D j))) W) (ho : wk19Reg[36]? = some o) : wk19Ok gA p3 cd cx cy ck cm Ad Ax Ay Ac Am Q a W 36 o := by
  have hop := op_at ho (·.op) (x := Op.pick (Operand.tmp 199) (Operand.tmp 202) (Operand.const (Value.bool false))) (by kernel_rfl)
  have hgd := op_at ho (·.guard) (x := none) (by kernel_rfl)
  have e32 : a.eval (.tmp 199) = .bool true := haft 32 (op_at ho (fun o => o.after.any fun e => decide (e.on = 32) && Region.binds .any e) (x := true) (by kernel_rfl))
  have e35 : a.eval (.tmp 202) = .bool true := haft 35 (op_at ho (fun o => o.after.any fun e => decide (e.on = 35) && Region.binds .any e) (x := true) (by kernel_rfl))
  refine ⟨fun j b h => (by rw [hgd] at h; cases h), ?_⟩
  exact specs_value (R := fun v W => wk19S gA p3 cd cx cy ck cm Ad Ax Ay Ac Am 36 v W) (v := .bool true) (by simp [execOp, hop, go_sem, ev e32, ev e35]) rfl (Ext.refl W)
set_option maxHeartbeats 1000000 in
theorem wk19_op37 (haft : ∀ j, (o.after.any fun e => decide (e.on = j) && Region.binds .any e) = true → wk19S gA p3 cd cx cy ck cm Ad Ax Ay Ac Am j (a.eval (.tmp (wk19D j))) W) (ho : wk19Reg[37]? = some o) : wk19Ok gA p3 cd cx cy ck cm Ad Ax Ay Ac Am Q a W 37 o := by
  have hop := op_at ho (·.op) (x := Op.move (Operand.tmp 203)) (by kernel_rfl)
  have hgd := op_at ho (·.guard) (x := none) (by kernel_rfl)
  have e36 : a.eval (.tmp 203) = .bool true := haft 36 (op_at ho (fun o => o.after.any fun e => decide (e.on = 36) && Region.binds .any e) (x := true) (by kernel_rfl))
  refine ⟨fun j b h => (by rw [hgd] at h; cases h), ?_⟩
  exact specs_value (R := fun v W => wk19S gA p3 cd cx cy ck cm Ad Ax Ay Ac Am 37 v W) (v := .bool true) (by simp [execOp, hop, go_sem, ev e36]) rfl (Ext.refl W)
set_option maxHeartbeats 1000000 in
theorem wk19_op38 (o19 : a.eval (.tmp 19) = .int .i64 4) (haft : ∀ j, (o.after.any fun e => decide (e.on = j) && Region.binds .any e) = true → wk19S gA p3 cd cx cy ck cm Ad Ax Ay Ac Am j (a.eval (.tmp (wk19D j))) W) (ho : wk19Reg[38]? = some o) : wk19Ok gA p3 cd cx cy ck cm Ad Ax Ay Ac Am Q a W 38 o := by
  have hop := op_at ho (·.op) (x := Op.move (Operand.tmp 19)) (by kernel_rfl)
  have hgd := op_at ho (·.guard) (x := some (37, true)) (by kernel_rfl)
  have e37 : a.eval (.tmp 204) = .bool true := haft 37 (op_at ho (fun o => o.after.any fun e => decide (e.on = 37) && Region.binds .any e) (x := true) (by kernel_rfl))
  refine ⟨fun j b h => (by rw [hgd] at h; cases h; exact e37), ?_⟩
  exact specs_value (R := fun v W => wk19S gA p3 cd cx cy ck cm Ad Ax Ay Ac Am 38 v W) (v := .int .i64 4) (by simp [execOp, hop, go_sem, ev o19]) rfl (Ext.refl W)
set_option maxHeartbeats 1000000 in
theorem wk19_op39 (haft : ∀ j, (o.after.any fun e => decide (e.on = j) && Region.binds .any e) = true → wk19S gA p3 cd cx cy ck cm Ad Ax Ay Ac Am j (a.eval (.tmp (wk19D j))) W) (ho : wk19Reg[39]? = some o) : wk19Ok gA p3 cd cx cy ck cm Ad Ax Ay Ac Am Q a W 39 o := by
  have hop := op_at ho (·.op) (x := Op.binOp BinOp.eql 2 (Operand.tmp 205) (Operand.const (Value.int IntKind.i64 4)) 2) (by kernel_rfl)
  have hgd := op_at ho (·.guard) (x := some (37, true)) (by kernel_rfl)
  have e37 : a.eval (.tmp 204) = .bool true := haft 37 (op_at ho (fun o => o.after.any fun e => decide (e.on = 37) && Region.binds .any e) (x := true) (by kernel_rfl))
  have e38 : a.eval (.tmp 205) = .int .i64 4 := haft 38 (op_at ho (fun o => o.after.any fun e => decide (e.on = 38) && Region.binds .any e) (x := true) (by kernel_rfl))
  refine ⟨fun j b h => (by rw [hgd] at h; cases h; exact e37), ?_⟩
  exact specs_value (R := fun v W => wk19S gA p3 cd cx cy ck cm Ad Ax Ay Ac Am 39 v W) (v := .bool true) (by simp [execOp, hop, go_sem, ev e38]) rfl (Ext.refl W)
set_option maxHeartbeats 1000000 in
theorem wk19_op40 (haft : ∀ j, (o.after.any fun e => decide (e.on = j) && Region.binds .any e) = true → wk19S gA p3 cd cx cy ck cm Ad Ax Ay Ac Am j (a.eval (.tmp (wk19D j))) W) (ho : wk19Reg[40]? = some o) : wk19Ok gA p3 cd cx cy ck cm Ad Ax Ay Ac Am Q a W 40 o := by
  have hop := op_at ho (·.op) (x := Op.pick (Operand.tmp 204) (Operand.tmp 206) (Operand.const (Value.bool false))) (by kernel_rfl)
  have hgd := op_at ho (·.guard) (x := none) (by kernel_rfl)
  have e37 : a.eval (.tmp 204) = .bool true := haft 37 (op_at ho (fun o => o.after.any fun e => decide (e.on = 37) && Region.binds .any e) (x := true) (by kernel_rfl))
  have e39 : a.eval (.tmp 206) = .bool true := haft 39 (op_at ho (fun o => o.after.any fun e => decide (e.on = 39) && Region.binds .any e) (x := true) (by kernel_rfl))
  refine ⟨fun j b h => (by rw [hgd] at h; cases h), ?_⟩
  exact specs_value (R := fun v W => wk19S gA p3 cd cx cy ck cm Ad Ax Ay Ac Am 40 v W) (v := .bool true) (by simp [execOp, hop, go_sem, ev e37, ev e39]) rfl (Ext.refl W)
set_option maxHeartbeats 1000000 in
theorem wk19_op41 (haft : ∀ j, (o.after.any fun e => decide (e.on = j) && Region.binds .any e) = true → wk19S gA p3 cd cx cy ck cm Ad Ax Ay Ac Am j (a.eval (.tmp (wk19D j))) W) (ho : wk19Reg[41]? = some o) : wk19Ok gA p3 cd cx cy ck cm Ad Ax Ay Ac Am Q a W 41 o := by
  have hop := op_at ho (·.op) (x := Op.move (Operand.tmp 207)) (by kernel_rfl)
  have hgd := op_at ho (·.guard) (x := none) (by kernel_rfl)
  have e40 : a.eval (.tmp 207) = .bool true := haft 40 (op_at ho (fun o => o.after.any fun e => decide (e.on = 40) && Region.binds .any e) (x := true) (by kernel_rfl))
  refine ⟨fun j b h => (by rw [hgd] at h; cases h), ?_⟩
  exact specs_value (R := fun v W => wk19S gA p3 cd cx cy ck cm Ad Ax Ay Ac Am 41 v W) (v := .bool true) (by simp [execOp, hop, go_sem, ev e40]) rfl (Ext.refl W)
set_option maxHeartbeats 1000000 in
theorem wk19_op42 (o21 : a.eval (.tmp 21) = .int .i64 14) (haft : ∀ j, (o.after.any fun e => decide (e.on = j) && Region.binds .any e) = true → wk19S gA p3 cd cx cy ck cm Ad Ax Ay Ac Am j (a.eval (.tmp (wk19D j))) W) (ho : wk19Reg[42]? = some o) : wk19Ok gA p3 cd cx cy ck cm Ad Ax Ay Ac Am Q a W 42 o := by
  have hop := op_at ho (·.op) (x := Op.move (Operand.tmp 21)) (by kernel_rfl)
  have hgd := op_at ho (·.guard) (x := some (41, true)) (by kernel_rfl)
  have e41 : a.eval (.tmp 208) = .bool true := haft 41 (op_at ho (fun o => o.after.any fun e => decide (e.on = 41) && Region.binds .any e) (x := true) (by kernel_rfl))
  refine ⟨fun j b h => (by rw [hgd] at h; cases h; exact e41), ?_⟩
  exact specs_value (R := fun v W => wk19S gA p3 cd cx cy ck cm Ad Ax Ay Ac Am 42 v W) (v := .int .i64 14) (by simp [execOp, hop, go_sem, ev o21]) rfl (Ext.refl W)
set_option maxHeartbeats 1000000 in
theorem wk19_op43 (haft : ∀ j, (o.after.any fun e => decide (e.on = j) && Region.binds .any e) = true → wk19S gA p3 cd cx cy ck cm Ad Ax Ay Ac Am j (a.eval (.tmp (wk19D j))) W) (ho : wk19Reg[43]? = some o) : wk19Ok gA p3 cd cx cy ck cm Ad Ax Ay Ac Am Q a W 43 o := by
  have hop := op_at ho (·.op) (x := Op.binOp BinOp.eql 2 (Operand.tmp 209) (Operand.const (Value.int IntKind.i64 14)) 2) (by kernel_rfl)
  have hgd := op_at ho (·.guard) (x := some (41, true)) (by kernel_rfl)
  have e41 : a.eval (.tmp 208) = .bool true := haft 41 (op_at ho (fun o => o.after.any fun e => decide (e.on = 41) && Region.binds .any e) (x := true) (by kernel_rfl))
  have e42 : a.eval (.tmp 209) = .int .i64 14 := haft 42 (op_at ho (fun o => o.after.any fun e => decide (e.on = 42) && Region.binds .any e) (x := true) (by kernel_rfl))
  refine ⟨fun j b h => (by rw [hgd] at h; cases h; exact e41), ?_⟩
  exact specs_value (R := fun v W => wk19S gA p3 cd cx cy ck cm Ad Ax Ay Ac Am 43 v W) (v := .bool true) (by simp [execOp, hop, go_sem, ev e42]) rfl (Ext.refl W)
set_option maxHeartbeats 1000000 in
theorem wk19_op44 (haft : ∀ j, (o.after.any fun e => decide (e.on = j) && Region.binds .any e) = true → wk19S gA p3 cd cx cy ck cm Ad Ax Ay Ac Am j (a.eval (.tmp (wk19D j))) W) (ho : wk19Reg[44]? = some o) : wk19Ok gA p3 cd cx cy ck cm Ad Ax Ay Ac Am Q a W 44 o := by
  have hop := op_at ho (·.op) (x := Op.pick (Operand.tmp 208) (Operand.tmp 210) (Operand.const (Value.bool false))) (by kernel_rfl)
  have hgd := op_at ho (·.guard) (x := none) (by kernel_rfl)
  have e41 : a.eval (.tmp 208) = .bool true := haft 41 (op_at ho (fun o => o.after.any fun e => decide (e.on = 41) && Region.binds .any e) (x := true) (by kernel_rfl))
  have e43 : a.eval (.tmp 210) = .bool true := haft 43 (op_at ho (fun o => o.after.any fun e => decide (e.on = 43) && Region.binds .any e) (x := true) (by kernel_rfl))
  refine ⟨fun j b h => (by rw [hgd] at h; cases h), ?_⟩
  exact specs_value (R := fun v W => wk19S gA p3 cd cx cy ck cm Ad Ax Ay Ac Am 44 v W) (v := .bool true) (by simp [execOp, hop, go_sem, ev e41, ev e43]) rfl (Ext.refl W)
set_option maxHeartbeats 1000000 in
theorem wk19_op45 (haft : ∀ j, (o.after.any fun e => decide (e.on = j) && Region.binds .any e) = true → wk19S gA p3 cd cx cy ck cm Ad Ax Ay Ac Am j (a.eval (.tmp (wk19D j))) W) (ho : wk19Reg[45]? = some o) : wk19Ok gA p3 cd cx cy ck cm Ad Ax Ay Ac Am Q a W 45 o := by
  have hop := op_at ho (·.op) (x := Op.move (Operand.tmp 211)) (by kernel_rfl)
  have hgd := op_at ho (·.guard) (x := none) (by kernel_rfl)
  have e44 : a.eval (.tmp 211) = .bool true := haft 44 (op_at ho (fun o => o.after.any fun e => decide (e.on = 44) && Region.binds .any e) (x := true) (by kernel_rfl))
  refine ⟨fun j b h => (by rw [hgd] at h; cases h), ?_⟩
  exact specs_value (R := fun v W => wk19S gA p3 cd cx cy ck cm Ad Ax Ay Ac Am 45 v W) (v := .bool true) (by simp [execOp, hop, go_sem, ev e44]) rfl (Ext.refl W)
set_option maxHeartbeats 1000000 in
theorem wk19_op46 (o22 : a.eval (.tmp 22) = .slice Am 1 cm) (haft : ∀ j, (o.after.any fun e => decide (e.on = j) && Region.binds .any e) = true → wk19S gA p3 cd cx cy ck cm Ad Ax Ay Ac Am j (a.eval (.tmp (wk19D j))) W) (ho : wk19Reg[46]? = some o) : wk19Ok gA p3 cd cx cy ck cm Ad Ax Ay Ac Am Q a W 46 o := by
  have hop := op_at ho (·.op) (x := Op.move (Operand.tmp 22)) (by kernel_rfl)
  have hgd := op_at ho (·.guard) (x := some (45, true)) (by kernel_rfl)
  have e45 : a.eval (.tmp 212) = .bool true := haft 45 (op_at ho (fun o => o.after.any fun e => decide (e.on = 45) && Region.binds .any e) (x := true) (by kernel_rfl))
  refine ⟨fun j b h => (by rw [hgd] at h; cases h; exact e45), ?_⟩
  exact specs_value (R := fun v W => wk19S gA p3 cd cx cy ck cm Ad Ax Ay Ac Am 46 v W) (v := .slice Am 1 cm) (by simp [execOp, hop, go_sem, ev o22]) rfl (Ext.refl W)
set_option maxHeartbeats 1000000 in
theorem wk19_op47 (haft : ∀ j, (o.after.any fun e => decide (e.on = j) && Region.binds .any e) = true → wk19S gA p3 cd cx cy ck cm Ad Ax Ay Ac Am j (a.eval (.tmp (wk19D j))) W) (ho : wk19Reg[47]? = some o) : wk19Ok gA p3 cd cx cy ck cm Ad Ax Ay Ac Am Q a W 47 o := by
  have hop := op_at ho (·.op) (x := Op.call { callee := Callee.builtin Builtin.len, args := #[Operand.tmp 213], argTypes := #[36] }) (by kernel_rfl)
  have hgd := op_at ho (·.guard) (x := some (45, true)) (by kernel_rfl)
  have e45 : a.eval (.tmp 212) = .bool true := haft 45 (op_at ho (fun o => o.after.any fun e => decide (e.on = 45) && Region.binds .any e) (x := true) (by kernel_rfl))
  have e46 : a.eval (.tmp 213) = .slice Am 1 cm := haft 46 (op_at ho (fun o => o.after.any fun e => decide (e.on = 46) && Region.binds .any e) (x := true) (by kernel_rfl))
  refine ⟨fun j b h => (by rw [hgd] at h; cases h; exact e45), ?_⟩
  exact specs_value (R := fun v W => wk19S gA p3 cd cx cy ck cm Ad Ax Ay Ac Am 47 v W) (v := .int .i64 1) (by simp [execOp, hop, go_sem, ev e46]) rfl (Ext.refl W)
set_option maxHeartbeats 1000000 in
theorem wk19_op48 (haft : ∀ j, (o.after.any fun e => decide (e.on = j) && Region.binds .any e) = true → wk19S gA p3 cd cx cy ck cm Ad Ax Ay Ac Am j (a.eval (.tmp (wk19D j))) W) (ho : wk19Reg[48]? = some o) : wk19Ok gA p3 cd cx cy ck cm Ad Ax Ay Ac Am Q a W 48 o := by
  have hop := op_at ho (·.op) (x := Op.binOp BinOp.eql 3 (Operand.tmp 214) (Operand.const (Value.int IntKind.i64 1)) 3) (by kernel_rfl)
  have hgd := op_at ho (·.guard) (x := some (45, true)) (by kernel_rfl)
  have e45 : a.eval (.tmp 212) = .bool true := haft 45 (op_at ho (fun o => o.after.any fun e => decide (e.on = 45) && Region.binds .any e) (x := true) (by kernel_rfl))
  have e47 : a.eval (.tmp 214) = .int .i64 1 := haft 47 (op_at ho (fun o => o.after.any fun e => decide (e.on = 47) && Region.binds .any e) (x := true) (by kernel_rfl))
  refine ⟨fun j b h => (by rw [hgd] at h; cases h; exact e45), ?_⟩
  exact specs_value (R := fun v W => wk19S gA p3 cd cx cy ck cm Ad Ax Ay Ac Am 48 v W) (v := .bool true) (by simp [execOp, hop, go_sem, ev e47]) rfl (Ext.refl W)
set_option maxHeartbeats 1000000 in
theorem wk19_op49 (haft : ∀ j, (o.after.any fun e => decide (e.on = j) && Region.binds .any e) = true → wk19S gA p3 cd cx cy ck cm Ad Ax Ay Ac Am j (a.eval (.tmp (wk19D j))) W) (ho : wk19Reg[49]? = some o) : wk19Ok gA p3 cd cx cy ck cm Ad Ax Ay Ac Am Q a W 49 o := by
  have hop := op_at ho (·.op) (x := Op.pick (Operand.tmp 212) (Operand.tmp 215) (Operand.const (Value.bool false))) (by kernel_rfl)
  have hgd := op_at ho (·.guard) (x := none) (by kernel_rfl)
  have e45 : a.eval (.tmp 212) = .bool true := haft 45 (op_at ho (fun o => o.after.any fun e => decide (e.on = 45) && Region.binds .any e) (x := true) (by kernel_rfl))
  have e48 : a.eval (.tmp 215) = .bool true := haft 48 (op_at ho (fun o => o.after.any fun e => decide (e.on = 48) && Region.binds .any e) (x := true) (by kernel_rfl))
  refine ⟨fun j b h => (by rw [hgd] at h; cases h), ?_⟩
  exact specs_value (R := fun v W => wk19S gA p3 cd cx cy ck cm Ad Ax Ay Ac Am 49 v W) (v := .bool true) (by simp [execOp, hop, go_sem, ev e45, ev e48]) rfl (Ext.refl W)
set_option maxHeartbeats 1000000 in
theorem wk19_op50 (haft : ∀ j, (o.after.any fun e => decide (e.on = j) && Region.binds .any e) = true → wk19S gA p3 cd cx cy ck cm Ad Ax Ay Ac Am j (a.eval (.tmp (wk19D j))) W) (ho : wk19Reg[50]? = some o) : wk19Ok gA p3 cd cx cy ck cm Ad Ax Ay Ac Am Q a W 50 o := by
  have hop := op_at ho (·.op) (x := Op.move (Operand.tmp 216)) (by kernel_rfl)
  have hgd := op_at ho (·.guard) (x := none) (by kernel_rfl)
  have e49 : a.eval (.tmp 216) = .bool true := haft 49 (op_at ho (fun o => o.after.any fun e => decide (e.on = 49) && Region.binds .any e) (x := true) (by kernel_rfl))
  refine ⟨fun j b h => (by rw [hgd] at h; cases h), ?_⟩
  exact specs_value (R := fun v W => wk19S gA p3 cd cx cy ck cm Ad Ax Ay Ac Am 50 v W) (v := .bool true) (by simp [execOp, hop, go_sem, ev e49]) rfl (Ext.refl W)
set_option maxHeartbeats 1000000 in
theorem wk19_op51 (o1 : a.eval (.tmp 1) = .slice (some ⟨gA, 0, none⟩) 4 4) (haft : ∀ j, (o.after.any fun e => decide (e.on = j) && Region.binds .any e) = true → wk19S gA p3 cd cx cy ck cm Ad Ax Ay Ac Am j (a.eval (.tmp (wk19D j))) W) (ho : wk19Reg[51]? = some o) : wk19Ok gA p3 cd cx cy ck cm Ad Ax Ay Ac Am Q a W 51 o := by
  have hop := op_at ho (·.op) (x := Op.move (Operand.tmp 1)) (by kernel_rfl)
  have hgd := op_at ho (·.guard) (x := some (50, true)) (by kernel_rfl)
  have e50 : a.eval (.tmp 217) = .bool true := haft 50 (op_at ho (fun o => o.after.any fun e => decide (e.on = 50) && Region.binds .any e) (x := true) (by kernel_rfl))
  refine ⟨fun j b h => (by rw [hgd] at h; cases h; exact e50), ?_⟩
  exact specs_value (R := fun v W => wk19S gA p3 cd cx cy ck cm Ad Ax Ay Ac Am 51 v W) (v := .slice (some ⟨gA, 0, none⟩) 4 4) (by simp [execOp, hop, go_sem, ev o1]) rfl (Ext.refl W)
set_option maxHeartbeats 1000000 in
theorem wk19_op52 (o22 : a.eval (.tmp 22) = .slice Am 1 cm) (haft : ∀ j, (o.after.any fun e => decide (e.on = j) && Region.binds .any e) = true → wk19S gA p3 cd cx cy ck cm Ad Ax Ay Ac Am j (a.eval (.tmp (wk19D j))) W) (ho : wk19Reg[52]? = some o) : wk19Ok gA p3 cd cx cy ck cm Ad Ax Ay Ac Am Q a W 52 o := by
  have hop := op_at ho (·.op) (x := Op.move (Operand.tmp 22)) (by kernel_rfl)
  have hgd := op_at ho (·.guard) (x := some (50, true)) (by kernel_rfl)
  have e50 : a.eval (.tmp 217) = .bool true := haft 50 (op_at ho (fun o => o.after.any fun e => decide (e.on = 50) && Region.binds .any e) (x := true) (by kernel_rfl))
  refine ⟨fun j b h => (by rw [hgd] at h; cases h; exact e50), ?_⟩
  exact specs_value (R := fun v W => wk19S gA p3 cd cx cy ck cm Ad Ax Ay Ac Am 52 v W) (v := .slice Am 1 cm) (by simp [execOp, hop, go_sem, ev o22]) rfl (Ext.refl W)
set_option maxHeartbeats 1000000 in
theorem wk19_op53 (k53 : ∀ W, Ext V W → Calls Tryz.prog 39 #[.slice (some ⟨gA, 0, none⟩) 4 4, .slice Am 1 cm] W fun e w' => e = .returned (.int .i64 14) ∧ Ext W w') (hB : Ext V W) (haft : ∀ j, (o.after.any fun e => decide (e.on = j) && Region.binds .any e) = true → wk19S gA p3 cd cx cy ck cm Ad Ax Ay Ac Am j (a.eval (.tmp (wk19D j))) W) (ho : wk19Reg[53]? = some o) : wk19Ok gA p3 cd cx cy ck cm Ad Ax Ay Ac Am Q a W 53 o := by
  have hop := op_at ho (·.op) (x := Op.call { callee := Callee.value (Operand.func 39), args := #[Operand.tmp 218, Operand.tmp 219], argTypes := #[22, 36] }) (by kernel_rfl)
  have hgd := op_at ho (·.guard) (x := some (50, true)) (by kernel_rfl)
  have e50 : a.eval (.tmp 217) = .bool true := haft 50 (op_at ho (fun o => o.after.any fun e => decide (e.on = 50) && Region.binds .any e) (x := true) (by kernel_rfl))
  have e51 : a.eval (.tmp 218) = .slice (some ⟨gA, 0, none⟩) 4 4 := haft 51 (op_at ho (fun o => o.after.any fun e => decide (e.on = 51) && Region.binds .any e) (x := true) (by kernel_rfl))
  have e52 : a.eval (.tmp 219) = .slice Am 1 cm := haft 52 (op_at ho (fun o => o.after.any fun e => decide (e.on = 52) && Region.binds .any e) (x := true) (by kernel_rfl))
  refine ⟨fun j b h => (by rw [hgd] at h; cases h; exact e50), ?_⟩
  refine specs_call (R := fun v W => wk19S gA p3 cd cx cy ck cm Ad Ax Ay Ac Am 53 v W) (f := 39) (args := #[.slice (some ⟨gA, 0, none⟩) 4 4, .slice Am 1 cm]) (by simp [execOp, hop, go_sem, ev e51, ev e52]) ((k53 W hB).mono ?_)
  rintro e w' ⟨rfl, h3⟩
  exact ⟨_, rfl, rfl, h3⟩
set_option maxHeartbeats 1000000 in
theorem wk19_op54 (haft : ∀ j, (o.after.any fun e => decide (e.on = j) && Region.binds .any e) = true → wk19S gA p3 cd cx cy ck cm Ad Ax Ay Ac Am j (a.eval (.tmp (wk19D j))) W) (ho : wk19Reg[54]? = some o) : wk19Ok gA p3 cd cx cy ck cm Ad Ax Ay Ac Am Q a W 54 o := by
  have hop := op_at ho (·.op) (x := Op.binOp BinOp.eql 2 (Operand.tmp 220) (Operand.const (Value.int IntKind.i64 14)) 2) (by kernel_rfl)
  have hgd := op_at ho (·.guard) (x := some (50, true)) (by kernel_rfl)
  have e50 : a.eval (.tmp 217) = .bool true := haft 50 (op_at ho (fun o => o.after.any fun e => decide (e.on = 50) && Region.binds .any e) (x := true) (by kernel_rfl))
  have e53 : a.eval (.tmp 220) = .int .i64 14 := haft 53 (op_at ho (fun o => o.after.any fun e => decide (e.on = 53) && Region.binds .any e) (x := true) (by kernel_rfl))
  refine ⟨fun j b h => (by rw [hgd] at h; cases h; exact e50), ?_⟩
  exact specs_value (R := fun v W => wk19S gA p3 cd cx cy ck cm Ad Ax Ay Ac Am 54 v W) (v := .bool true) (by simp [execOp, hop, go_sem, ev e53]) rfl (Ext.refl W)
set_option maxHeartbeats 1000000 in
theorem wk19_op55 (haft : ∀ j, (o.after.any fun e => decide (e.on = j) && Region.binds .any e) = true → wk19S gA p3 cd cx cy ck cm Ad Ax Ay Ac Am j (a.eval (.tmp (wk19D j))) W) (ho : wk19Reg[55]? = some o) : wk19Ok gA p3 cd cx cy ck cm Ad Ax Ay Ac Am Q a W 55 o := by
  have hop := op_at ho (·.op) (x := Op.pick (Operand.tmp 217) (Operand.tmp 221) (Operand.const (Value.bool false))) (by kernel_rfl)
  have hgd := op_at ho (·.guard) (x := none) (by kernel_rfl)
  have e50 : a.eval (.tmp 217) = .bool true := haft 50 (op_at ho (fun o => o.after.any fun e => decide (e.on = 50) && Region.binds .any e) (x := true) (by kernel_rfl))
  have e54 : a.eval (.tmp 221) = .bool true := haft 54 (op_at ho (fun o => o.after.any fun e => decide (e.on = 54) && Region.binds .any e) (x := true) (by kernel_rfl))
  refine ⟨fun j b h => (by rw [hgd] at h; cases h), ?_⟩
  exact specs_value (R := fun v W => wk19S gA p3 cd cx cy ck cm Ad Ax Ay Ac Am 55 v W) (v := .bool true) (by simp [execOp, hop, go_sem, ev e50, ev e54]) rfl (Ext.refl W)
set_option maxHeartbeats 1000000 in
theorem wk19_op56 (haft : ∀ j, (o.after.any fun e => decide (e.on = j) && Region.binds .any e) = true → wk19S gA p3 cd cx cy ck cm Ad Ax Ay Ac Am j (a.eval (.tmp (wk19D j))) W) (ho : wk19Reg[56]? = some o) : wk19Ok gA p3 cd cx cy ck cm Ad Ax Ay Ac Am Q a W 56 o := by
  have hop := op_at ho (·.op) (x := Op.move (Operand.tmp 222)) (by kernel_rfl)
  have hgd := op_at ho (·.guard) (x := none) (by kernel_rfl)
  have e55 : a.eval (.tmp 222) = .bool true := haft 55 (op_at ho (fun o => o.after.any fun e => decide (e.on = 55) && Region.binds .any e) (x := true) (by kernel_rfl))
  refine ⟨fun j b h => (by rw [hgd] at h; cases h), ?_⟩
  exact specs_value (R := fun v W => wk19S gA p3 cd cx cy ck cm Ad Ax Ay Ac Am 56 v W) (v := .bool true) (by simp [execOp, hop, go_sem, ev e55]) rfl (Ext.refl W)
set_option maxHeartbeats 1000000 in
theorem wk19_op57 (o24 : a.eval (.tmp 24) = .int .i64 14) (haft : ∀ j, (o.after.any fun e => decide (e.on = j) && Region.binds .any e) = true → wk19S gA p3 cd cx cy ck cm Ad Ax Ay Ac Am j (a.eval (.tmp (wk19D j))) W) (ho : wk19Reg[57]? = some o) : wk19Ok gA p3 cd cx cy ck cm Ad Ax Ay Ac Am Q a W 57 o := by
  have hop := op_at ho (·.op) (x := Op.move (Operand.tmp 24)) (by kernel_rfl)
  have hgd := op_at ho (·.guard) (x := some (56, true)) (by kernel_rfl)
  have e56 : a.eval (.tmp 223) = .bool true := haft 56 (op_at ho (fun o => o.after.any fun e => decide (e.on = 56) && Region.binds .any e) (x := true) (by kernel_rfl))
  refine ⟨fun j b h => (by rw [hgd] at h; cases h; exact e56), ?_⟩
  exact specs_value (R := fun v W => wk19S gA p3 cd cx cy ck cm Ad Ax Ay Ac Am 57 v W) (v := .int .i64 14) (by simp [execOp, hop, go_sem, ev o24]) rfl (Ext.refl W)
set_option maxHeartbeats 1000000 in
theorem wk19_op58 (haft : ∀ j, (o.after.any fun e => decide (e.on = j) && Region.binds .any e) = true → wk19S gA p3 cd cx cy ck cm Ad Ax Ay Ac Am j (a.eval (.tmp (wk19D j))) W) (ho : wk19Reg[58]? = some o) : wk19Ok gA p3 cd cx cy ck cm Ad Ax Ay Ac Am Q a W 58 o := by
  have hop := op_at ho (·.op) (x := Op.binOp BinOp.eql 2 (Operand.tmp 224) (Operand.const (Value.int IntKind.i64 14)) 2) (by kernel_rfl)
  have hgd := op_at ho (·.guard) (x := some (56, true)) (by kernel_rfl)
  have e56 : a.eval (.tmp 223) = .bool true := haft 56 (op_at ho (fun o => o.after.any fun e => decide (e.on = 56) && Region.binds .any e) (x := true) (by kernel_rfl))
  have e57 : a.eval (.tmp 224) = .int .i64 14 := haft 57 (op_at ho (fun o => o.after.any fun e => decide (e.on = 57) && Region.binds .any e) (x := true) (by kernel_rfl))
  refine ⟨fun j b h => (by rw [hgd] at h; cases h; exact e56), ?_⟩
  exact specs_value (R := fun v W => wk19S gA p3 cd cx cy ck cm Ad Ax Ay Ac Am 58 v W) (v := .bool true) (by simp [execOp, hop, go_sem, ev e57]) rfl (Ext.refl W)
set_option maxHeartbeats 1000000 in
theorem wk19_op59 (haft : ∀ j, (o.after.any fun e => decide (e.on = j) && Region.binds .any e) = true → wk19S gA p3 cd cx cy ck cm Ad Ax Ay Ac Am j (a.eval (.tmp (wk19D j))) W) (ho : wk19Reg[59]? = some o) : wk19Ok gA p3 cd cx cy ck cm Ad Ax Ay Ac Am Q a W 59 o := by
  have hop := op_at ho (·.op) (x := Op.pick (Operand.tmp 223) (Operand.tmp 225) (Operand.const (Value.bool false))) (by kernel_rfl)
  have hgd := op_at ho (·.guard) (x := none) (by kernel_rfl)
  have e56 : a.eval (.tmp 223) = .bool true := haft 56 (op_at ho (fun o => o.after.any fun e => decide (e.on = 56) && Region.binds .any e) (x := true) (by kernel_rfl))
  have e58 : a.eval (.tmp 225) = .bool true := haft 58 (op_at ho (fun o => o.after.any fun e => decide (e.on = 58) && Region.binds .any e) (x := true) (by kernel_rfl))
  refine ⟨fun j b h => (by rw [hgd] at h; cases h), ?_⟩
  exact specs_value (R := fun v W => wk19S gA p3 cd cx cy ck cm Ad Ax Ay Ac Am 59 v W) (v := .bool true) (by simp [execOp, hop, go_sem, ev e56, ev e58]) rfl (Ext.refl W)
set_option maxHeartbeats 1000000 in
theorem wk19_op60 (haft : ∀ j, (o.after.any fun e => decide (e.on = j) && Region.binds .any e) = true → wk19S gA p3 cd cx cy ck cm Ad Ax Ay Ac Am j (a.eval (.tmp (wk19D j))) W) (ho : wk19Reg[60]? = some o) : wk19Ok gA p3 cd cx cy ck cm Ad Ax Ay Ac Am Q a W 60 o := by
  have hop := op_at ho (·.op) (x := Op.assign (Operand.tmp 226)) (by kernel_rfl)
  have hgd := op_at ho (·.guard) (x := none) (by kernel_rfl)
  have e59 : a.eval (.tmp 226) = .bool true := haft 59 (op_at ho (fun o => o.after.any fun e => decide (e.on = 59) && Region.binds .any e) (x := true) (by kernel_rfl))
  refine ⟨fun j b h => (by rw [hgd] at h; cases h), ?_⟩
  exact specs_value (R := fun v W => wk19S gA p3 cd cx cy ck cm Ad Ax Ay Ac Am 60 v W) (v := .bool true) (by simp [execOp, hop, go_sem, ev e59]) rfl (Ext.refl W)
set_option maxRecDepth 100000 in
set_option maxHeartbeats 4000000 in
/-- Region 19 of function 15. -/
theorem wk19_wp {id : Nat} (hlen : a.tmps.size = 227) (o1 : a.eval (.tmp 1) = .slice (some ⟨gA, 0, none⟩) 4 4) (o3 : a.eval (.tmp 3) = .pointer (some ⟨p3, 0, none⟩)) (o7 : a.eval (.tmp 7) = .slice Ad 3 cd) (o9 : a.eval (.tmp 9) = .slice Ax 2 cx) (o15 : a.eval (.tmp 15) = .slice Ay 2 cy) (o17 : a.eval (.tmp 17) = .slice Ac 1 ck) (o19 : a.eval (.tmp 19) = .int .i64 4) (o21 : a.eval (.tmp 21) = .int .i64 14) (o22 : a.eval (.tmp 22) = .slice Am 1 cm) (o24 : a.eval (.tmp 24) = .int .i64 14) (o31 : a.eval (.tmp 31) = .int .i64 14) (o32 : a.eval (.tmp 32) = .int .i64 0) (d0 : ∀ W, Ext V W → W.cell? ⟨p3, 0, none⟩ = some (.int .i64 50)) (d1 : ∀ W, Ext V W → W.cell? ⟨p3, 1, none⟩ = some (.int .i64 80)) (k8 : ∀ W, Ext V W → Calls Tryz.prog 48 #[.int .i64 50, .int .i64 80] W fun e w' => e = .returned (.agg #[.int .i64 50, .int .i64 80]) ∧ Ext W w') (hd : Held V V.heap.size 1 encI Ad [0, 1, 3]) (hx : Held V V.heap.size 1 encI Ax [80, 150]) (k29 : ∀ W, Ext V W → Calls Tryz.prog 34 #[.slice (some ⟨gA, 0, none⟩) 4 4, .slice Ay 2 cy] W fun e w' => e = .returned (.int .i64 0) ∧ Ext W w') (hc : Held V V.heap.size 1 encI Ac [2]) (k53 : ∀ W, Ext V W → Calls Tryz.prog 39 #[.slice (some ⟨gA, 0, none⟩) 4 4, .slice Am 1 cm] W fun e w' => e = .returned (.int .i64 14) ∧ Ext W w') (K : (∀ W v13 v18 v34, Ext V W → wk19S gA p3 cd cx cy ck cm Ad Ax Ay Ac Am 13 v13 W → wk19S gA p3 cd cx cy ck cm Ad Ax Ay Ac Am 18 v18 W → wk19S gA p3 cd cx cy ck cm Ad Ax Ay Ac Am 34 v34 W → wpList Tryz.prog wk19Reg Q (wk19Reg.toList.drop 61) (puts a [(167, .int .i64 0), (168, .bool true), (169, .bool true), (170, .int .i64 14), (171, .bool true), (172, .bool true), (173, .bool true), (174, .agg #[.int .i64 50, .int .i64 80]), (175, .agg #[.int .i64 50, .int .i64 80]), (176, .bool true), (177, .bool true), (178, .bool true), (179, .slice Ad 3 cd), (180, v13), (181, .bool true), (182, .bool true), (183, .bool true), (184, .slice Ax 2 cx), (185, v18), (186, .bool true), (187, .bool true), (188, .bool true), (189, .slice Ay 2 cy), (190, .int .i64 2), (191, .bool true), (192, .bool true), (193, .bool true), (194, .slice (some ⟨gA, 0, none⟩) 4 4), (195, .slice Ay 2 cy), (196, .int .i64 0), (197, .bool true), (198, .bool true), (199, .bool true), (200, .slice Ac 1 ck), (201, v34), (202, .bool true), (203, .bool true), (204, .bool true), (205, .int .i64 4), (206, .bool true), (207, .bool true), (208, .bool true), (209, .int .i64 14), (210, .bool true), (211, .bool true), (212, .bool true), (213, .slice Am 1 cm), (214, .int .i64 1), (215, .bool true), (216, .bool true), (217, .bool true), (218, .slice (some ⟨gA, 0, none⟩) 4 4), (219, .slice Am 1 cm), (220, .int .i64 14), (221, .bool true), (222, .bool true), (223, .bool true), (224, .int .i64 14), (225, .bool true), (226, .bool true), (0, .bool true)]) W)) : (Code.region id wk19Reg true).wp Tryz.prog Q a V := by
  refine wp_region_specs_free (ops := wk19Reg) 61 (wk19S gA p3 cd cx cy ck cm Ad Ax Ay Ac Am) (Ext V) (by kernel_rfl) (by rw [hlen]; kernel_rfl) (by kernel_rfl) ⟨rfl, rfl, rfl, Nat.le_refl _, fun _ _ => rfl⟩ (fun _ _ h e => h.trans e) wk19S_ext wk19D (by kernel_rfl) ?_ ?_
  · intro i o hi ho a' W hB hsz hold haft
    match i, hi with
    | 0, _ => exact wk19_op0 ((hold 32 (by kernel_rfl)).trans o32) ho
    | 1, _ => exact wk19_op1 haft ho
    | 2, _ => exact wk19_op2 haft ho
    | 3, _ => exact wk19_op3 ((hold 31 (by kernel_rfl)).trans o31) haft ho
    | 4, _ => exact wk19_op4 haft ho
    | 5, _ => exact wk19_op5 haft ho
    | 6, _ => exact wk19_op6 haft ho
    | 7, _ => exact wk19_op7 ((hold 3 (by kernel_rfl)).trans o3) d0 d1 hB haft ho
    | 8, _ => exact wk19_op8 k8 hB haft ho
    | 9, _ => exact wk19_op9 haft ho
    | 10, _ => exact wk19_op10 haft ho
    | 11, _ => exact wk19_op11 haft ho
    | 12, _ => exact wk19_op12 ((hold 7 (by kernel_rfl)).trans o7) haft ho
    | 13, _ => exact wk19_op13 haft ho
    | 14, _ => exact wk19_op14 hd hB haft ho
    | 15, _ => exact wk19_op15 haft ho
    | 16, _ => exact wk19_op16 haft ho
    | 17, _ => exact wk19_op17 ((hold 9 (by kernel_rfl)).trans o9) haft ho
    | 18, _ => exact wk19_op18 haft ho
    | 19, _ => exact wk19_op19 hx hB haft ho
    | 20, _ => exact wk19_op20 haft ho
    | 21, _ => exact wk19_op21 haft ho
    | 22, _ => exact wk19_op22 ((hold 15 (by kernel_rfl)).trans o15) haft ho
    | 23, _ => exact wk19_op23 haft ho
    | 24, _ => exact wk19_op24 haft ho
    | 25, _ => exact wk19_op25 haft ho
    | 26, _ => exact wk19_op26 haft ho
    | 27, _ => exact wk19_op27 ((hold 1 (by kernel_rfl)).trans o1) haft ho
    | 28, _ => exact wk19_op28 ((hold 15 (by kernel_rfl)).trans o15) haft ho
    | 29, _ => exact wk19_op29 k29 hB haft ho
    | 30, _ => exact wk19_op30 haft ho
    | 31, _ => exact wk19_op31 haft ho
    | 32, _ => exact wk19_op32 haft ho
    | 33, _ => exact wk19_op33 ((hold 17 (by kernel_rfl)).trans o17) haft ho
    | 34, _ => exact wk19_op34 haft ho
    | 35, _ => exact wk19_op35 hc hB haft ho
    | 36, _ => exact wk19_op36 haft ho
    | 37, _ => exact wk19_op37 haft ho
    | 38, _ => exact wk19_op38 ((hold 19 (by kernel_rfl)).trans o19) haft ho
    | 39, _ => exact wk19_op39 haft ho
    | 40, _ => exact wk19_op40 haft ho
    | 41, _ => exact wk19_op41 haft ho
    | 42, _ => exact wk19_op42 ((hold 21 (by kernel_rfl)).trans o21) haft ho
    | 43, _ => exact wk19_op43 haft ho
    | 44, _ => exact wk19_op44 haft ho
    | 45, _ => exact wk19_op45 haft ho
    | 46, _ => exact wk19_op46 ((hold 22 (by kernel_rfl)).trans o22) haft ho
    | 47, _ => exact wk19_op47 haft ho
    | 48, _ => exact wk19_op48 haft ho
    | 49, _ => exact wk19_op49 haft ho
    | 50, _ => exact wk19_op50 haft ho
    | 51, _ => exact wk19_op51 ((hold 1 (by kernel_rfl)).trans o1) haft ho
    | 52, _ => exact wk19_op52 ((hold 22 (by kernel_rfl)).trans o22) haft ho
    | 53, _ => exact wk19_op53 k53 hB haft ho
    | 54, _ => exact wk19_op54 haft ho
    | 55, _ => exact wk19_op55 haft ho
    | 56, _ => exact wk19_op56 haft ho
    | 57, _ => exact wk19_op57 ((hold 24 (by kernel_rfl)).trans o24) haft ho
    | 58, _ => exact wk19_op58 haft ho
    | 59, _ => exact wk19_op59 haft ho
    | 60, _ => exact wk19_op60 haft ho
    | m + 61, h => exact absurd h (by omega)
  · intro a1 W hB hsz hdf hold hS
    obtain ⟨v13, g13⟩ : ∃ v, v = a1.eval (.tmp 180) := ⟨_, rfl⟩
    obtain ⟨v18, g18⟩ : ∃ v, v = a1.eval (.tmp 185) := ⟨_, rfl⟩
    obtain ⟨v34, g34⟩ : ∃ v, v = a1.eval (.tmp 201) := ⟨_, rfl⟩
    have hall : ∀ zz, zz ∈ ([(167, .int .i64 0), (168, .bool true), (169, .bool true), (170, .int .i64 14), (171, .bool true), (172, .bool true), (173, .bool true), (174, .agg #[.int .i64 50, .int .i64 80]), (175, .agg #[.int .i64 50, .int .i64 80]), (176, .bool true), (177, .bool true), (178, .bool true), (179, .slice Ad 3 cd), (180, v13), (181, .bool true), (182, .bool true), (183, .bool true), (184, .slice Ax 2 cx), (185, v18), (186, .bool true), (187, .bool true), (188, .bool true), (189, .slice Ay 2 cy), (190, .int .i64 2), (191, .bool true), (192, .bool true), (193, .bool true), (194, .slice (some ⟨gA, 0, none⟩) 4 4), (195, .slice Ay 2 cy), (196, .int .i64 0), (197, .bool true), (198, .bool true), (199, .bool true), (200, .slice Ac 1 ck), (201, v34), (202, .bool true), (203, .bool true), (204, .bool true), (205, .int .i64 4), (206, .bool true), (207, .bool true), (208, .bool true), (209, .int .i64 14), (210, .bool true), (211, .bool true), (212, .bool true), (213, .slice Am 1 cm), (214, .int .i64 1), (215, .bool true), (216, .bool true), (217, .bool true), (218, .slice (some ⟨gA, 0, none⟩) 4 4), (219, .slice Am 1 cm), (220, .int .i64 14), (221, .bool true), (222, .bool true), (223, .bool true), (224, .int .i64 14), (225, .bool true), (226, .bool true), (0, .bool true)] : List (Tmp × Value)) → zz.1 < a.tmps.size ∧ a1.eval (.tmp zz.1) = zz.2 := by
      intro zz hz
      rw [hlen]
      simp only [List.mem_cons, List.not_mem_nil, or_false] at hz
      rcases hz with rfl | rfl | rfl | rfl | rfl | rfl | rfl | rfl | rfl | rfl | rfl | rfl | rfl | rfl | rfl | rfl | rfl | rfl | rfl | rfl | rfl | rfl | rfl | rfl | rfl | rfl | rfl | rfl | rfl | rfl | rfl | rfl | rfl | rfl | rfl | rfl | rfl | rfl | rfl | rfl | rfl | rfl | rfl | rfl | rfl | rfl | rfl | rfl | rfl | rfl | rfl | rfl | rfl | rfl | rfl | rfl | rfl | rfl | rfl | rfl | rfl
      · exact ⟨(show (167 : Nat) < 227 by omega), hS 0 (by omega)⟩
      · exact ⟨(show (168 : Nat) < 227 by omega), hS 1 (by omega)⟩
      · exact ⟨(show (169 : Nat) < 227 by omega), hS 2 (by omega)⟩
      · exact ⟨(show (170 : Nat) < 227 by omega), hS 3 (by omega)⟩
      · exact ⟨(show (171 : Nat) < 227 by omega), hS 4 (by omega)⟩
      · exact ⟨(show (172 : Nat) < 227 by omega), hS 5 (by omega)⟩
      · exact ⟨(show (173 : Nat) < 227 by omega), hS 6 (by omega)⟩
      · exact ⟨(show (174 : Nat) < 227 by omega), hS 7 (by omega)⟩
      · exact ⟨(show (175 : Nat) < 227 by omega), hS 8 (by omega)⟩
      · exact ⟨(show (176 : Nat) < 227 by omega), hS 9 (by omega)⟩
      · exact ⟨(show (177 : Nat) < 227 by omega), hS 10 (by omega)⟩
      · exact ⟨(show (178 : Nat) < 227 by omega), hS 11 (by omega)⟩
      · exact ⟨(show (179 : Nat) < 227 by omega), hS 12 (by omega)⟩
      · exact ⟨(show (180 : Nat) < 227 by omega), g13.symm⟩
      · exact ⟨(show (181 : Nat) < 227 by omega), hS 14 (by omega)⟩
      · exact ⟨(show (182 : Nat) < 227 by omega), hS 15 (by omega)⟩
      · exact ⟨(show (183 : Nat) < 227 by omega), hS 16 (by omega)⟩
      · exact ⟨(show (184 : Nat) < 227 by omega), hS 17 (by omega)⟩
      · exact ⟨(show (185 : Nat) < 227 by omega), g18.symm⟩
      · exact ⟨(show (186 : Nat) < 227 by omega), hS 19 (by omega)⟩
      · exact ⟨(show (187 : Nat) < 227 by omega), hS 20 (by omega)⟩
      · exact ⟨(show (188 : Nat) < 227 by omega), hS 21 (by omega)⟩
      · exact ⟨(show (189 : Nat) < 227 by omega), hS 22 (by omega)⟩
      · exact ⟨(show (190 : Nat) < 227 by omega), hS 23 (by omega)⟩
      · exact ⟨(show (191 : Nat) < 227 by omega), hS 24 (by omega)⟩
      · exact ⟨(show (192 : Nat) < 227 by omega), hS 25 (by omega)⟩
      · exact ⟨(show (193 : Nat) < 227 by omega), hS 26 (by omega)⟩
      · exact ⟨(show (194 : Nat) < 227 by omega), hS 27 (by omega)⟩
      · exact ⟨(show (195 : Nat) < 227 by omega), hS 28 (by omega)⟩
      · exact ⟨(show (196 : Nat) < 227 by omega), hS 29 (by omega)⟩
      · exact ⟨(show (197 : Nat) < 227 by omega), hS 30 (by omega)⟩
      · exact ⟨(show (198 : Nat) < 227 by omega), hS 31 (by omega)⟩
      · exact ⟨(show (199 : Nat) < 227 by omega), hS 32 (by omega)⟩
      · exact ⟨(show (200 : Nat) < 227 by omega), hS 33 (by omega)⟩
      · exact ⟨(show (201 : Nat) < 227 by omega), g34.symm⟩
      · exact ⟨(show (202 : Nat) < 227 by omega), hS 35 (by omega)⟩
      · exact ⟨(show (203 : Nat) < 227 by omega), hS 36 (by omega)⟩
      · exact ⟨(show (204 : Nat) < 227 by omega), hS 37 (by omega)⟩
      · exact ⟨(show (205 : Nat) < 227 by omega), hS 38 (by omega)⟩
      · exact ⟨(show (206 : Nat) < 227 by omega), hS 39 (by omega)⟩
      · exact ⟨(show (207 : Nat) < 227 by omega), hS 40 (by omega)⟩
      · exact ⟨(show (208 : Nat) < 227 by omega), hS 41 (by omega)⟩
      · exact ⟨(show (209 : Nat) < 227 by omega), hS 42 (by omega)⟩
      · exact ⟨(show (210 : Nat) < 227 by omega), hS 43 (by omega)⟩
      · exact ⟨(show (211 : Nat) < 227 by omega), hS 44 (by omega)⟩
      · exact ⟨(show (212 : Nat) < 227 by omega), hS 45 (by omega)⟩
      · exact ⟨(show (213 : Nat) < 227 by omega), hS 46 (by omega)⟩
      · exact ⟨(show (214 : Nat) < 227 by omega), hS 47 (by omega)⟩
      · exact ⟨(show (215 : Nat) < 227 by omega), hS 48 (by omega)⟩
      · exact ⟨(show (216 : Nat) < 227 by omega), hS 49 (by omega)⟩
      · exact ⟨(show (217 : Nat) < 227 by omega), hS 50 (by omega)⟩
      · exact ⟨(show (218 : Nat) < 227 by omega), hS 51 (by omega)⟩
      · exact ⟨(show (219 : Nat) < 227 by omega), hS 52 (by omega)⟩
      · exact ⟨(show (220 : Nat) < 227 by omega), hS 53 (by omega)⟩
      · exact ⟨(show (221 : Nat) < 227 by omega), hS 54 (by omega)⟩
      · exact ⟨(show (222 : Nat) < 227 by omega), hS 55 (by omega)⟩
      · exact ⟨(show (223 : Nat) < 227 by omega), hS 56 (by omega)⟩
      · exact ⟨(show (224 : Nat) < 227 by omega), hS 57 (by omega)⟩
      · exact ⟨(show (225 : Nat) < 227 by omega), hS 58 (by omega)⟩
      · exact ⟨(show (226 : Nat) < 227 by omega), hS 59 (by omega)⟩
      · exact ⟨(show (0 : Nat) < 227 by omega), hS 60 (by omega)⟩
    have ha := act_puts hsz hdf hall (fun t ht => hold t (all_ne_of (l := [(167, .int .i64 0), (168, .bool true), (169, .bool true), (170, .int .i64 14), (171, .bool true), (172, .bool true), (173, .bool true), (174, .agg #[.int .i64 50, .int .i64 80]), (175, .agg #[.int .i64 50, .int .i64 80]), (176, .bool true), (177, .bool true), (178, .bool true), (179, .slice Ad 3 cd), (180, v13), (181, .bool true), (182, .bool true), (183, .bool true), (184, .slice Ax 2 cx), (185, v18), (186, .bool true), (187, .bool true), (188, .bool true), (189, .slice Ay 2 cy), (190, .int .i64 2), (191, .bool true), (192, .bool true), (193, .bool true), (194, .slice (some ⟨gA, 0, none⟩) 4 4), (195, .slice Ay 2 cy), (196, .int .i64 0), (197, .bool true), (198, .bool true), (199, .bool true), (200, .slice Ac 1 ck), (201, v34), (202, .bool true), (203, .bool true), (204, .bool true), (205, .int .i64 4), (206, .bool true), (207, .bool true), (208, .bool true), (209, .int .i64 14), (210, .bool true), (211, .bool true), (212, .bool true), (213, .slice Am 1 cm), (214, .int .i64 1), (215, .bool true), (216, .bool true), (217, .bool true), (218, .slice (some ⟨gA, 0, none⟩) 4 4), (219, .slice Am 1 cm), (220, .int .i64 14), (221, .bool true), (222, .bool true), (223, .bool true), (224, .int .i64 14), (225, .bool true), (226, .bool true), (0, .bool true)]) (by kernel_rfl) ht))
    rw [ha]
    exact K W v13 v18 v34 hB (by rw [g13]; exact hS 13 (by omega)) (by rw [g18]; exact hS 18 (by omega)) (by rw [g34]; exact hS 34 (by omega))
end
end Go.Proofs.YtmlmnljbegcjcaaGreat

/- Works: the examples of the chapter. -/
namespace Go.Proofs.YtmlmnljbegcjcaaGreat
open Go.RowKit Go.Shelf
attribute [local irreducible] bitCells

theorem x1 : birthsAns exA 0 = ((50, 80), 0) := by kernel_rfl
theorem x2 : birthsAns exB 3 = ((0, 0), 22) := by kernel_rfl
theorem x3 : doesOf exA 80 = [0, 1, 3] := by kernel_rfl
theorem x4 : ordersErr exA = 0 := by kernel_rfl
theorem x5 : bestB exA = [80, 150] := by kernel_rfl
theorem x6 : wholeErr exB = 22 := by kernel_rfl
theorem x6b : wholeErr exA = 0 := by kernel_rfl
theorem x6c : bestB exB = [] := by kernel_rfl
theorem x7 : checkBathsErr exA [80] = 22 := by kernel_rfl
theorem x8 : checkApartErr exA [0, 3] = 14 := by kernel_rfl
theorem x9 : (apartB exA).length = 2 := (apart_len x6b).trans (by rw [x5]; rfl)
theorem x10 : costsAns exA = [2] := by kernel_rfl
theorem x11 : withErr exA [150] = 0 := by kernel_rfl
theorem x12 : worthAns exA [150] = 4 := by kernel_rfl
theorem x13 : forErr exA ((1 : Nat) : Int) = 0 := by kernel_rfl
theorem x14 : (mostOf exA 1).2 = 14 := by kernel_rfl
theorem x15 : (mostOf exA 1).1.length = 1 := by kernel_rfl
theorem x16 : worthOf exA (mostOf exA 1).1 = 14 := by kernel_rfl
theorem x17 : pricesErr exA 1 4 [0, 0, 4, 4] = 0 := by kernel_rfl
theorem x18 : pricesAns exA 1 4 [0, 0, 4, 4] = 14 := by kernel_rfl
theorem x19 : pricesErr exA 1 13 [5, 3, 4, 6] = 14 := by kernel_rfl
theorem x19b : pricesAns exA 1 13 [5, 3, 4, 6] = 0 := by kernel_rfl
theorem x20 : stepOf exA 1 = 4 := by kernel_rfl
theorem x21 : pricesErr exA 1 4 (pricesB exA 4) = 0 := by kernel_rfl
theorem x22 : pricesAns exA 1 4 (pricesB exA 4) = 14 := by kernel_rfl
theorem x23 : checkApartErr exA (apartB exA) = 0 := apart_is x6b
theorem x24 : (pricesB exA 4).length = 4 := by kernel_rfl
theorem PlanV.held {W : World} {v : Value} {bs : List Int} (h : PlanV W v bs) : ∃ A c, v = .slice A bs.length c ∧ Held W W.heap.size 1 encI A bs := by
  rcases h with ⟨rfl, rfl⟩ | ⟨b, off, c, h1, h2, h3, h4, h5⟩
  · exact ⟨none, 0, rfl, .inl rfl⟩
  · refine ⟨_, c, h1, .inr ⟨b, off, rfl, h2, fun j x hj i v hi => ?_⟩⟩
    match i, hi with
    | 0, hi => cases hi; rw [Nat.mul_one, Nat.add_zero]; exact h5 j x hj
theorem cells_held {W : World} {g : Nat} {ps : List Int} (h : W.heap[g]? = some (.cells (cellsI ps) 2 (0, 0))) : Held W W.heap.size 1 encI (some ⟨g, 0, none⟩) ps := by
  refine .inr ⟨g, 0, rfl, (Array.getElem?_eq_some_iff.1 h).1, fun j x hj i v hi => ?_⟩
  have hjl := (List.getElem?_eq_some_iff.1 hj).1
  match i, hi with
  | 0, hi =>
    cases hi
    rw [Nat.zero_add, Nat.add_zero, Nat.mul_one, cell_of_row _ _ _ _ _ _ h, cellsI_get _ hjl]
    rw [List.getElem?_eq_getElem hjl] at hj
    rw [Option.some.inj hj]

set_option maxRecDepth 100000 in
set_option maxHeartbeats 8000000 in
theorem works_any (w : World) : Calls Tryz.prog 15 #[] w fun e w' => e = .returned (.bool true) ∧ Ext w w' := by
  have h50 := orders50_any w
  go_enter Tryz.func15, Tryz.ntmps15
  go_wp2_with fail
  refine h50.mono ?_
  rintro e w1 ⟨gA, rfl, _, hgA, e1⟩
  have h51 := none51_any w1
  have HE1 := Lib.hid e1
  have HGA := Lib.hid hgA
  clear h50 e1 hgA
  go_wp2_with fail
  refine h51.mono ?_
  rintro e w2 ⟨gB, rfl, _, hgB, e2⟩
  have HA := Lib.hid (orders_row (row_ext HGA.out e2) (by decide))
  have HB := Lib.hid (orders_row hgB (by decide))
  have HE2 := Lib.hid (HE1.out.trans e2)
  have h1 := births_any HA.out 0
  rw [x1] at h1
  clear h51 e2 hgB
  go_wp2_with fail
  refine h1.mono ?_
  rintro e w3 ⟨rfl, e3⟩
  have HX3 := Lib.hid e3
  clear h1 e3
  go_upto_region 3 with fail
  obtain ⟨p3, hp3⟩ : ∃ p3, w3.heap.size = p3 := ⟨_, rfl⟩
  obtain ⟨w4, hw4⟩ : ∃ w4, w3.alloc (.cells #[.int .i64 50, .int .i64 80] 26) = w4 := ⟨_, rfl⟩
  have e4 : Ext w3 w4 := by rw [← hw4]; exact ext_alloc _ _
  have HR3 := Lib.hid (show w4.heap[p3]? = some (.cells #[.int .i64 50, .int .i64 80] 26 (0, 0)) from by rw [← hw4]; exact row_last _ _ _ hp3.symm)
  rw [hw4, hp3]
  have HX := Lib.hid (HX3.out.trans e4)
  clear hw4 hp3 e4
  have h1 := births_any (HB.out.ext HX.out) 3
  rw [x2] at h1
  go_wp2_with fail
  refine h1.mono ?_
  rintro e w5 ⟨rfl, e5⟩
  replace HX := Lib.hid (HX.out.trans e5)
  have HR3 := Lib.hid (row_ext HR3.out e5)
  clear h1 e5
  go_upto_region 4 with fail
  obtain ⟨w6, hw6⟩ : ∃ w6, w5.alloc (.cells #[.int .i64 0, .int .i64 0] 26) = w6 := ⟨_, rfl⟩
  have e6 : Ext w5 w6 := by rw [← hw6]; exact ext_alloc _ _
  rw [hw6]
  replace HX := Lib.hid (HX.out.trans e6)
  have HR3 := Lib.hid (row_ext HR3.out e6)
  clear hw6 e6
  have h1 := does18_any (HA.out.ext HX.out) 80
  rw [x3, x4] at h1
  go_wp2_with fail
  refine h1.mono ?_
  rintro e w7 ⟨e7, Ad, cd, rfl, hd, _⟩
  replace HX := Lib.hid (HX.out.trans e7)
  have HR3 := Lib.hid (row_ext HR3.out e7)
  have HD := Lib.hid hd
  clear h1 e7 hd
  have h1 := best_any (HA.out.ext HX.out)
  rw [x5, x6b] at h1
  go_wp2_with fail
  refine h1.mono ?_
  rintro e w8 ⟨e8, Ax, cx, rfl, hx, _⟩
  replace HX := Lib.hid (HX.out.trans e8)
  have HR3 := Lib.hid (row_ext HR3.out e8)
  have HD := Lib.hid (HD.out.ext e8)
  have HBX := Lib.hid hx
  clear h1 e8 hx
  have h1 := best_any (HB.out.ext HX.out)
  rw [x6c, x6] at h1
  go_wp2_with fail
  refine h1.mono ?_
  rintro e w9 ⟨e9, Az, cz, rfl, _, _⟩
  replace HX := Lib.hid (HX.out.trans e9)
  have HR3 := Lib.hid (row_ext HR3.out e9)
  have HD := Lib.hid (HD.out.ext e9)
  have HBX := Lib.hid (HBX.out.ext e9)
  clear h1 e9
  have w10e : Ext w9 (w9.alloc (.cells (cellsI [80]) 2)) := ext_alloc _ _
  have h1 := checkBaths_any (HA.out.ext (HX.out.trans w10e)) (some ⟨w9.heap.size, 0, none⟩) 1 1 [80] rfl (by decide) (held_lit _ _ _)
  rw [x7] at h1
  go_wp2_with fail
  refine h1.mono ?_
  rintro e w11 ⟨rfl, w11e⟩
  replace w10e := w10e.trans w11e
  replace HX := Lib.hid (HX.out.trans w10e)
  have HR3 := Lib.hid (row_ext HR3.out w10e)
  have HD := Lib.hid (HD.out.ext w10e)
  have HBX := Lib.hid (HBX.out.ext w10e)
  clear h1 w10e w11e
  have w12e : Ext w11 (w11.alloc (.cells (cellsI [0, 3]) 3)) := ext_alloc _ _
  have h1 := checkApart_any (HA.out.ext (HX.out.trans w12e)) (some ⟨w11.heap.size, 0, none⟩) 2 2 [0, 3] rfl (by decide) (held_lit _ _ _)
  rw [x8] at h1
  go_wp2_with fail
  refine h1.mono ?_
  rintro e w13 ⟨rfl, w13e⟩
  replace w12e := w12e.trans w13e
  replace HX := Lib.hid (HX.out.trans w12e)
  have HR3 := Lib.hid (row_ext HR3.out w12e)
  have HD := Lib.hid (HD.out.ext w12e)
  have HBX := Lib.hid (HBX.out.ext w12e)
  clear h1 w12e w13e
  have h1 := apart_any (HA.out.ext HX.out)
  rw [x6b] at h1
  go_wp2_with fail
  refine h1.mono ?_
  rintro e w14 ⟨e14, Ay, cy, rfl, hy, _⟩
  rw [x9]
  replace HX := Lib.hid (HX.out.trans e14)
  have HR3 := Lib.hid (row_ext HR3.out e14)
  have HD := Lib.hid (HD.out.ext e14)
  have HBX := Lib.hid (HBX.out.ext e14)
  have HY := Lib.hid hy
  clear h1 e14 hy
  have h1 := costs_any (HA.out.ext HX.out)
  rw [x10, x6b] at h1
  go_wp2_with fail
  refine h1.mono ?_
  rintro e w15 ⟨e15, Ac, ck, rfl, hc, _⟩
  replace HX := Lib.hid (HX.out.trans e15)
  have HR3 := Lib.hid (row_ext HR3.out e15)
  have HD := Lib.hid (HD.out.ext e15)
  have HBX := Lib.hid (HBX.out.ext e15)
  have HY := Lib.hid (HY.out.ext e15)
  have HC := Lib.hid hc
  clear h1 e15 hc
  have w16e : Ext w15 (w15.alloc (.cells (cellsI [150]) 2)) := ext_alloc _ _
  have h1 := worth27_any (HA.out.ext (HX.out.trans w16e)) (some ⟨w15.heap.size, 0, none⟩) 1 1 [150] rfl (by decide) (held_lit _ _ _)
  rw [x12, x11] at h1
  go_wp2_with fail
  refine h1.mono ?_
  rintro e w17 ⟨rfl, w17e⟩
  replace w16e := w16e.trans w17e
  replace HX := Lib.hid (HX.out.trans w16e)
  have HR3 := Lib.hid (row_ext HR3.out w16e)
  have HD := Lib.hid (HD.out.ext w16e)
  have HBX := Lib.hid (HBX.out.ext w16e)
  have HY := Lib.hid (HY.out.ext w16e)
  have HC := Lib.hid (HC.out.ext w16e)
  clear h1 w16e w17e
  have h1 := most36_ok (HA.out.ext HX.out) 1 (by decide) x13
  rw [x14] at h1
  go_wp2_with fail
  refine h1.mono ?_
  rintro e w18 ⟨e18, vm, rfl, hvm⟩
  obtain ⟨Am, cm, rfl, hm⟩ := hvm.held
  rw [x15]
  replace HX := Lib.hid (HX.out.trans e18)
  have HR3 := Lib.hid (row_ext HR3.out e18)
  have HD := Lib.hid (HD.out.ext e18)
  have HBX := Lib.hid (HBX.out.ext e18)
  have HY := Lib.hid (HY.out.ext e18)
  have HC := Lib.hid (HC.out.ext e18)
  have HM := Lib.hid hm
  clear h1 e18 hvm hm
  have w19e : Ext w18 (w18.alloc (.cells (cellsI [0, 0, 4, 4]) 2)) := ext_alloc _ _
  have h1 := checkPrices_any (HA.out.ext (HX.out.trans w19e)) 1 4 (some ⟨w18.heap.size, 0, none⟩) 4 4 [0, 0, 4, 4] rfl (by decide) (held_lit _ _ _)
  rw [x18, x17] at h1
  go_wp2_with fail
  refine h1.mono ?_
  rintro e w20 ⟨rfl, w20e⟩
  replace w19e := w19e.trans w20e
  replace HX := Lib.hid (HX.out.trans w19e)
  have HR3 := Lib.hid (row_ext HR3.out w19e)
  have HD := Lib.hid (HD.out.ext w19e)
  have HBX := Lib.hid (HBX.out.ext w19e)
  have HY := Lib.hid (HY.out.ext w19e)
  have HC := Lib.hid (HC.out.ext w19e)
  have HM := Lib.hid (HM.out.ext w19e)
  clear h1 w19e w20e
  have w21e : Ext w20 (w20.alloc (.cells (cellsI [5, 3, 4, 6]) 2)) := ext_alloc _ _
  have h1 := checkPrices_any (HA.out.ext (HX.out.trans w21e)) 1 13 (some ⟨w20.heap.size, 0, none⟩) 4 4 [5, 3, 4, 6] rfl (by decide) (held_lit _ _ _)
  rw [x19b, x19] at h1
  go_wp2_with fail
  refine h1.mono ?_
  rintro e w22 ⟨rfl, w22e⟩
  replace w21e := w21e.trans w22e
  replace HX := Lib.hid (HX.out.trans w21e)
  have HR3 := Lib.hid (row_ext HR3.out w21e)
  have HD := Lib.hid (HD.out.ext w21e)
  have HBX := Lib.hid (HBX.out.ext w21e)
  have HY := Lib.hid (HY.out.ext w21e)
  have HC := Lib.hid (HC.out.ext w21e)
  have HM := Lib.hid (HM.out.ext w21e)
  clear h1 w21e w22e
  have h1 := prices43_ok (HA.out.ext HX.out) 1 (by decide) x13
  rw [x20] at h1
  go_wp2_with fail
  refine h1.mono ?_
  rintro e w23 ⟨e23, gp, rfl, hgp⟩
  replace HX := Lib.hid (HX.out.trans e23)
  have HR3 := Lib.hid (row_ext HR3.out e23)
  have HD := Lib.hid (HD.out.ext e23)
  have HBX := Lib.hid (HBX.out.ext e23)
  have HY := Lib.hid (HY.out.ext e23)
  have HC := Lib.hid (HC.out.ext e23)
  have HM := Lib.hid (HM.out.ext e23)
  have hpr := refPrices_any (HA.out.ext HX.out) 1 4 (some ⟨gp, 0, none⟩) 4 4 (pricesB exA 4) x24.symm (cells_held hgp)
  rw [x22, x21] at hpr
  have HPR := Lib.hid hpr
  clear h1 e23 hgp hpr
  go_upto_region 18 with fail
  have h1 := HPR.out
  go_wp2_with fail
  refine h1.mono ?_
  rintro e w24 ⟨rfl, e24⟩
  replace HX := Lib.hid (HX.out.trans e24)
  have HR3 := Lib.hid (row_ext HR3.out e24)
  have HD := Lib.hid (HD.out.ext e24)
  have HBX := Lib.hid (HBX.out.ext e24)
  have HY := Lib.hid (HY.out.ext e24)
  have HC := Lib.hid (HC.out.ext e24)
  have HM := Lib.hid (HM.out.ext e24)
  clear h1 e24 HPR
  go_upto_region 19 with fail
  have hk29 := fun W (hW : Ext w24 W) => refApart_any (HA.out.ext (HX.out.trans hW)) Ay 2 cy (apartB exA) x9.symm (by decide) (HY.out.ext hW)
  have hk53 := fun W (hW : Ext w24 W) => worthOf_any (HA.out.ext (HX.out.trans hW)) x4 Am 1 cm (mostOf exA 1).1 x15.symm (by decide) (HM.out.ext hW)
  rw [x23] at hk29
  rw [x16] at hk53
  refine wk19_wp (gA := gA) (p3 := p3) (cd := cd) (cx := cx) (cy := cy) (ck := ck) (cm := cm) (Ad := Ad) (Ax := Ax) (Ay := Ay) (Ac := Ac) (Am := Am) rfl rfl rfl rfl rfl rfl rfl rfl rfl rfl rfl rfl rfl (fun W hW => cell_of_row _ _ 0 _ _ _ (row_ext HR3.out hW)) (fun W hW => cell_of_row _ _ 1 _ _ _ (row_ext HR3.out hW)) (fun W _ => rg_any 50 80 W) HD.out HBX.out hk29 HC.out hk53 ?_
  intro W25 v13 v18 v34 e25 _ _ _
  have hs : wk19Reg.size = 61 := by kernel_rfl
  have hdr : wk19Reg.toList.drop 61 = [] := List.drop_eq_nil_of_le (by simp [hs])
  rw [hdr]
  simp only [puts, List.foldl_cons, List.foldl_nil, Act.put, List.setIfInBounds_toArray, List.set_cons_succ, List.set_cons_zero]
  have HE := Lib.hid (HE2.out.trans (HX.out.trans e25))
  clear hs hdr e25 hk29 hk53
  go_wp2
  go_ret
  exact ⟨rfl, HE.out⟩
end Go.Proofs.YtmlmnljbegcjcaaGreat
