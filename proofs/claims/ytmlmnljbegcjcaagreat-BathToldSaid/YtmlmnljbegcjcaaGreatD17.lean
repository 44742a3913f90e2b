/- Texts of one package, joined: ToldReg, ToldLaw. -/
import Derived.Test.YtmlmnljbegcjcaaGreatD16
/- BathTold: its regions. -/
namespace Go.Proofs.YtmlmnljbegcjcaaGreat
open Go.RowKit Go.Shelf

/-- The slots of region 13 of function 7. -/
def td13D (i : Nat) : Tmp := if i = 0 then 77 else if i = 1 then 78 else if i = 2 then 79 else if i = 3 then 80 else if i = 4 then 81 else if i = 5 then 82 else if i = 6 then 83 else if i = 7 then 84 else if i = 8 then 85 else if i = 9 then 86 else if i = 10 then 87 else if i = 11 then 88 else if i = 12 then 89 else if i = 13 then 90 else if i = 14 then 91 else 17
/-- What each operation yields. -/
def td13S (p10 : Nat) (lo hi2 mi s1 s2 s3 s4 : Int) (ix : Nat) (v : Value) (_W : World) : Prop :=
  match ix with
  | 0 => v = .pointer (some ⟨p10, 0, none⟩)
  | 1 => v = .pointer (some ⟨p10, 0, none⟩)
  | 2 => v = .int .i64 lo
  | 3 => v = .int .u16 mi
  | 4 => v = .int .i64 mi
  | 5 => v = .pointer (some ⟨p10, 0, none⟩)
  | 6 => v = .pointer (some ⟨p10, 1, none⟩)
  | 7 => v = .int .i64 hi2
  | 8 => v = .pointer (some ⟨p10, 0, none⟩)
  | 9 => v = .pointer (some ⟨p10, 0, none⟩)
  | 10 => v = .int .i64 lo
  | 11 => v = .int .i64 s1
  | 12 => v = .int .i64 s2
  | 13 => v = .int .i64 s3
  | 14 => v = .int .i64 s4
  | 15 => v = .int .i64 s4
  | _ => True
noncomputable def td13Reg : Array Oper := (Tryz.f7.body.bind (regionOf · 13)).getD #[]
theorem td13S_ext {p10 : Nat} {lo hi2 mi s1 s2 s3 s4 : Int} : ∀ (i : Nat) (v : Value) (W W' : World), td13S p10 lo hi2 mi s1 s2 s3 s4 i v W → Below W.heap.size W W' → td13S p10 lo hi2 mi s1 s2 s3 s4 i v W' := by
  intro i v W W' h e
  match i with
  | 0 => exact h
  | 1 => exact h
  | 2 => exact h
  | 3 => exact h
  | 4 => exact h
  | 5 => exact h
  | 6 => exact h
  | 7 => exact h
  | 8 => exact h
  | 9 => exact h
  | 10 => exact h
  | 11 => exact h
  | 12 => exact h
  | 13 => exact h
  | 14 => exact h
  | 15 => exact h
  | k + 16 => exact trivial
def td13Ok (p10 : Nat) (lo hi2 mi s1 s2 s3 s4 : Int) (Q : Exit → Act → World → Prop) (a : Act) (W : World) (ix : Nat) (o : Oper) : Prop :=
  (∀ j b, o.guard = some (j, b) → a.eval (.tmp (td13D j)) = .bool b) ∧ o.wp Tryz.prog a W (fun a'' W' => ∃ v, a'' = a.put o.dst v ∧ td13S p10 lo hi2 mi s1 s2 s3 s4 ix v W' ∧ Below W.heap.size W W') Q
section
variable {p10 : Nat} {lo hi2 mi s1 s2 s3 s4 : Int} {Q : Exit → Act → World → Prop} {a : Act} {V W : World} {o : Oper}
set_option maxHeartbeats 1000000 in
theorem td13_op0 (o10 : a.eval (.tmp 10) = .pointer (some ⟨p10, 0, none⟩)) (ho : td13Reg[0]? = some o) : td13Ok p10 lo hi2 mi s1 s2 s3 s4 Q a W 0 o := by
  have hop := op_at ho (·.op) (x := Op.fieldAddr 56 (Operand.tmp 10) 0) (by kernel_rfl)
  have hgd := op_at ho (·.guard) (x := none) (by kernel_rfl)
  refine ⟨fun j b h => (by rw [hgd] at h; cases h), ?_⟩
  exact specs_value (R := fun v W => td13S p10 lo hi2 mi s1 s2 s3 s4 0 v W) (v := .pointer (some ⟨p10, 0, none⟩)) (by simp [execOp, hop, go_sem, ev o10]) rfl (Ext.refl W)
set_option maxHeartbeats 1000000 in
theorem td13_op1 (haft : ∀ j, (o.after.any fun e => decide (e.on = j) && Region.binds .any e) = true → td13S p10 lo hi2 mi s1 s2 s3 s4 j (a.eval (.tmp (td13D j))) W) (ho : td13Reg[1]? = some o) : td13Ok p10 lo hi2 mi s1 s2 s3 s4 Q a W 1 o := by
  have hop := op_at ho (·.op) (x := Op.fieldAddr 26 (Operand.tmp 77) 0) (by kernel_rfl)
  have hgd := op_at ho (·.guard) (x := none) (by kernel_rfl)
  have e0 : a.eval (.tmp 77) = .pointer (some ⟨p10, 0, none⟩) := haft 0 (op_at ho (fun o => o.after.any fun e => decide (e.on = 0) && Region.binds .any e) (x := true) (by kernel_rfl))
  refine ⟨fun j b h => (by rw [hgd] at h; cases h), ?_⟩
  exact specs_value (R := fun v W => td13S p10 lo hi2 mi s1 s2 s3 s4 1 v W) (v := .pointer (some ⟨p10, 0, none⟩)) (by simp [execOp, hop, go_sem, ev e0]) rfl (Ext.refl W)
set_option maxHeartbeats 1000000 in
theorem td13_op2 (c0 : ∀ W, Ext V W → W.cell? ⟨p10, 0, none⟩ = some (.int .i64 lo)) (hB : Ext V W) (haft : ∀ j, (o.after.any fun e => decide (e.on = j) && Region.binds .any e) = true → td13S p10 lo hi2 mi s1 s2 s3 s4 j (a.eval (.tmp (td13D j))) W) (ho : td13Reg[2]? = some o) : td13Ok p10 lo hi2 mi s1 s2 s3 s4 Q a W 2 o := by
  have hop := op_at ho (·.op) (x := Op.load 2 (Operand.tmp 78)) (by kernel_rfl)
  have hgd := op_at ho (·.guard) (x := none) (by kernel_rfl)
  have e1 : a.eval (.tmp 78) = .pointer (some ⟨p10, 0, none⟩) := haft 1 (op_at ho (fun o => o.after.any fun e => decide (e.on = 1) && Region.binds .any e) (x := true) (by kernel_rfl))
  refine ⟨fun j b h => (by rw [hgd] at h; cases h), ?_⟩
  have c0' := c0 W hB
  exact specs_value (R := fun v W => td13S p10 lo hi2 mi s1 s2 s3 s4 2 v W) (v := .int .i64 lo) (by simp [execOp, hop, go_sem, ev e1, c0']) rfl (Ext.refl W)
set_option maxHeartbeats 1000000 in
theorem td13_op3 (o3 : a.eval (.tmp 3) = .int .u16 mi) (ho : td13Reg[3]? = some o) : td13Ok p10 lo hi2 mi s1 s2 s3 s4 Q a W 3 o := by
  have hop := op_at ho (·.op) (x := Op.move (Operand.tmp 3)) (by kernel_rfl)
  have hgd := op_at ho (·.guard) (x := none) (by kernel_rfl)
  refine ⟨fun j b h => (by rw [hgd] at h; cases h), ?_⟩
  exact specs_value (R := fun v W => td13S p10 lo hi2 mi s1 s2 s3 s4 3 v W) (v := .int .u16 mi) (by simp [execOp, hop, go_sem, ev o3]) rfl (Ext.refl W)
set_option maxHeartbeats 1000000 in
theorem td13_op4 (cv : IntKind.i64.wrap mi = mi) (haft : ∀ j, (o.after.any fun e => decide (e.on = j) && Region.binds .any e) = true → td13S p10 lo hi2 mi s1 s2 s3 s4 j (a.eval (.tmp (td13D j))) W) (ho : td13Reg[4]? = some o) : td13Ok p10 lo hi2 mi s1 s2 s3 s4 Q a W 4 o := by
  have hop := op_at ho (·.op) (x := Op.convert 54 2 (Operand.tmp 80)) (by kernel_rfl)
  have hgd := op_at ho (·.guard) (x := none) (by kernel_rfl)
  have e3 : a.eval (.tmp 80) = .int .u16 mi := haft 3 (op_at ho (fun o => o.after.any fun e => decide (e.on = 3) && Region.binds .any e) (x := true) (by kernel_rfl))
  refine ⟨fun j b h => (by rw [hgd] at h; cases h), ?_⟩
  exact specs_value (R := fun v W => td13S p10 lo hi2 mi s1 s2 s3 s4 4 v W) (v := .int .i64 mi) (by simp [execOp, hop, go_sem, ev e3, cv]) rfl (Ext.refl W)
set_option maxHeartbeats 1000000 in
theorem td13_op5 (o10 : a.eval (.tmp 10) = .pointer (some ⟨p10, 0, none⟩)) (ho : td13Reg[5]? = some o) : td13Ok p10 lo hi2 mi s1 s2 s3 s4 Q a W 5 o := by
  have hop := op_at ho (·.op) (x := Op.fieldAddr 56 (Operand.tmp 10) 0) (by kernel_rfl)
  have hgd := op_at ho (·.guard) (x := none) (by kernel_rfl)
  refine ⟨fun j b h => (by rw [hgd] at h; cases h), ?_⟩
  exact specs_value (R := fun v W => td13S p10 lo hi2 mi s1 s2 s3 s4 5 v W) (v := .pointer (some ⟨p10, 0, none⟩)) (by simp [execOp, hop, go_sem, ev o10]) rfl (Ext.refl W)
set_option maxHeartbeats 1000000 in
theorem td13_op6 (haft : ∀ j, (o.after.any fun e => decide (e.on = j) && Region.binds .any e) = true → td13S p10 lo hi2 mi s1 s2 s3 s4 j (a.eval (.tmp (td13D j))) W) (ho : td13Reg[6]? = some o) : td13Ok p10 lo hi2 mi s1 s2 s3 s4 Q a W 6 o := by
  have hop := op_at ho (·.op) (x := Op.fieldAddr 26 (Operand.tmp 82) 1) (by kernel_rfl)
  have hgd := op_at ho (·.guard) (x := none) (by kernel_rfl)
  have e5 : a.eval (.tmp 82) = .pointer (some ⟨p10, 0, none⟩) := haft 5 (op_at ho (fun o => o.after.any fun e => decide (e.on = 5) && Region.binds .any e) (x := true) (by kernel_rfl))
  refine ⟨fun j b h => (by rw [hgd] at h; cases h), ?_⟩
  exact specs_value (R := fun v W => td13S p10 lo hi2 mi s1 s2 s3 s4 6 v W) (v := .pointer (some ⟨p10, 1, none⟩)) (by simp [execOp, hop, go_sem, ev e5]) rfl (Ext.refl W)
set_option maxHeartbeats 1000000 in
theorem td13_op7 (c1 : ∀ W, Ext V W → W.cell? ⟨p10, 1, none⟩ = some (.int .i64 hi2)) (hB : Ext V W) (haft : ∀ j, (o.after.any fun e => decide (e.on = j) && Region.binds .any e) = true → td13S p10 lo hi2 mi s1 s2 s3 s4 j (a.eval (.tmp (td13D j))) W) (ho : td13Reg[7]? = some o) : td13Ok p10 lo hi2 mi s1 s2 s3 s4 Q a W 7 o := by
  have hop := op_at ho (·.op) (x := Op.load 2 (Operand.tmp 83)) (by kernel_rfl)
  have hgd := op_at ho (·.guard) (x := none) (by kernel_rfl)
  have e6 : a.eval (.tmp 83) = .pointer (some ⟨p10, 1, none⟩) := haft 6 (op_at ho (fun o => o.after.any fun e => decide (e.on = 6) && Region.binds .any e) (x := true) (by kernel_rfl))
  refine ⟨fun j b h => (by rw [hgd] at h; cases h), ?_⟩
  have c1' := c1 W hB
  exact specs_value (R := fun v W => td13S p10 lo hi2 mi s1 s2 s3 s4 7 v W) (v := .int .i64 hi2) (by simp [execOp, hop, go_sem, ev e6, c1']) rfl (Ext.refl W)
set_option maxHeartbeats 1000000 in
theorem td13_op8 (o10 : a.eval (.tmp 10) = .pointer (some ⟨p10, 0, none⟩)) (ho : td13Reg[8]? = some o) : td13Ok p10 lo hi2 mi s1 s2 s3 s4 Q a W 8 o := by
  have hop := op_at ho (·.op) (x := Op.fieldAddr 56 (Operand.tmp 10) 0) (by kernel_rfl)
  have hgd := op_at ho (·.guard) (x := none) (by kernel_rfl)
  refine ⟨fun j b h => (by rw [hgd] at h; cases h), ?_⟩
  exact specs_value (R := fun v W => td13S p10 lo hi2 mi s1 s2 s3 s4 8 v W) (v := .pointer (some ⟨p10, 0, none⟩)) (by simp [execOp, hop, go_sem, ev o10]) rfl (Ext.refl W)
set_option maxHeartbeats 1000000 in
theorem td13_op9 (haft : ∀ j, (o.after.any fun e => decide (e.on = j) && Region.binds .any e) = true → td13S p10 lo hi2 mi s1 s2 s3 s4 j (a.eval (.tmp (td13D j))) W) (ho : td13Reg[9]? = some o) : td13Ok p10 lo hi2 mi s1 s2 s3 s4 Q a W 9 o := by
  have hop := op_at ho (·.op) (x := Op.fieldAddr 26 (Operand.tmp 85) 0) (by kernel_rfl)
  have hgd := op_at ho (·.guard) (x := none) (by kernel_rfl)
  have e8 : a.eval (.tmp 85) = .pointer (some ⟨p10, 0, none⟩) := haft 8 (op_at ho (fun o => o.after.any fun e => decide (e.on = 8) && Region.binds .any e) (x := true) (by kernel_rfl))
  refine ⟨fun j b h => (by rw [hgd] at h; cases h), ?_⟩
  exact specs_value (R := fun v W => td13S p10 lo hi2 mi s1 s2 s3 s4 9 v W) (v := .pointer (some ⟨p10, 0, none⟩)) (by simp [execOp, hop, go_sem, ev e8]) rfl (Ext.refl W)
set_option maxHeartbeats 1000000 in
theorem td13_op10 (c0 : ∀ W, Ext V W → W.cell? ⟨p10, 0, none⟩ = some (.int .i64 lo)) (hB : Ext V W) (haft : ∀ j, (o.after.any fun e => decide (e.on = j) && Region.binds .any e) = true → td13S p10 lo hi2 mi s1 s2 s3 s4 j (a.eval (.tmp (td13D j))) W) (ho : td13Reg[10]? = some o) : td13Ok p10 lo hi2 mi s1 s2 s3 s4 Q a W 10 o := by
  have hop := op_at ho (·.op) (x := Op.load 2 (Operand.tmp 86)) (by kernel_rfl)
  have hgd := op_at ho (·.guard) (x := none) (by kernel_rfl)
  have e9 : a.eval (.tmp 86) = .pointer (some ⟨p10, 0, none⟩) := haft 9 (op_at ho (fun o => o.after.any fun e => decide (e.on = 9) && Region.binds .any e) (x := true) (by kernel_rfl))
  refine ⟨fun j b h => (by rw [hgd] at h; cases h), ?_⟩
  have c0' := c0 W hB
  exact specs_value (R := fun v W => td13S p10 lo hi2 mi s1 s2 s3 s4 10 v W) (v := .int .i64 lo) (by simp [execOp, hop, go_sem, ev e9, c0']) rfl (Ext.refl W)
set_option maxHeartbeats 1000000 in
theorem td13_op11 (w1 : IntKind.i64.wrap (hi2 - lo) = s1) (haft : ∀ j, (o.after.any fun e => decide (e.on = j) && Region.binds .any e) = true → td13S p10 lo hi2 mi s1 s2 s3 s4 j (a.eval (.tmp (td13D j))) W) (ho : td13Reg[11]? = some o) : td13Ok p10 lo hi2 mi s1 s2 s3 s4 Q a W 11 o := by
  have hop := op_at ho (·.op) (x := Op.binOp BinOp.sub 2 (Operand.tmp 84) (Operand.tmp 87) 2) (by kernel_rfl)
  have hgd := op_at ho (·.guard) (x := none) (by kernel_rfl)
  have e7 : a.eval (.tmp 84) = .int .i64 hi2 := haft 7 (op_at ho (fun o => o.after.any fun e => decide (e.on = 7) && Region.binds .any e) (x := true) (by kernel_rfl))
  have e10 : a.eval (.tmp 87) = .int .i64 lo := haft 10 (op_at ho (fun o => o.after.any fun e => decide (e.on = 10) && Region.binds .any e) (x := true) (by kernel_rfl))
  refine ⟨fun j b h => (by rw [hgd] at h; cases h), ?_⟩
  exact specs_value (R := fun v W => td13S p10 lo hi2 mi s1 s2 s3 s4 11 v W) (v := .int .i64 s1) (by simp [execOp, hop, go_sem, ev e7, ev e10, w1]) rfl (Ext.refl W)
set_option maxHeartbeats 1000000 in
theorem td13_op12 (w2 : IntKind.i64.wrap (s1 + 1) = s2) (haft : ∀ j, (o.after.any fun e => decide (e.on = j) && Region.binds .any e) = true → td13S p10 lo hi2 mi s1 s2 s3 s4 j (a.eval (.tmp (td13D j))) W) (ho : td13Reg[12]? = some o) : td13Ok p10 lo hi2 mi s1 s2 s3 s4 Q a W 12 o := by
  have hop := op_at ho (·.op) (x := Op.binOp BinOp.add 2 (Operand.tmp 88) (Operand.const (Value.int IntKind.i64 1)) 2) (by kernel_rfl)
  have hgd := op_at ho (·.guard) (x := none) (by kernel_rfl)
  have e11 : a.eval (.tmp 88) = .int .i64 s1 := haft 11 (op_at ho (fun o => o.after.any fun e => decide (e.on = 11) && Region.binds .any e) (x := true) (by kernel_rfl))
  refine ⟨fun j b h => (by rw [hgd] at h; cases h), ?_⟩
  exact specs_value (R := fun v W => td13S p10 lo hi2 mi s1 s2 s3 s4 12 v W) (v := .int .i64 s2) (by simp [execOp, hop, go_sem, ev e11, w2]) rfl (Ext.refl W)
set_option maxHeartbeats 1000000 in
theorem td13_op13 (h0 : ¬ s2 = 0) (w3 : mi.tmod s2 = s3) (haft : ∀ j, (o.after.any fun e => decide (e.on = j) && Region.binds .any e) = true → td13S p10 lo hi2 mi s1 s2 s3 s4 j (a.eval (.tmp (td13D j))) W) (ho : td13Reg[13]? = some o) : td13Ok p10 lo hi2 mi s1 s2 s3 s4 Q a W 13 o := by
  have hop := op_at ho (·.op) (x := Op.binOp BinOp.rem 2 (Operand.tmp 81) (Operand.tmp 89) 2) (by kernel_rfl)
  have hgd := op_at ho (·.guard) (x := none) (by kernel_rfl)
  have e4 : a.eval (.tmp 81) = .int .i64 mi := haft 4 (op_at ho (fun o => o.after.any fun e => decide (e.on = 4) && Region.binds .any e) (x := true) (by kernel_rfl))
  have e12 : a.eval (.tmp 89) = .int .i64 s2 := haft 12 (op_at ho (fun o => o.after.any fun e => decide (e.on = 12) && Region.binds .any e) (x := true) (by kernel_rfl))
  refine ⟨fun j b h => (by rw [hgd] at h; cases h), ?_⟩
  exact specs_value (R := fun v W => td13S p10 lo hi2 mi s1 s2 s3 s4 13 v W) (v := .int .i64 s3) (by simp [execOp, hop, go_sem, ev e4, ev e12, h0, w3]) rfl (Ext.refl W)
set_option maxHeartbeats 1000000 in
theorem td13_op14 (w4 : IntKind.i64.wrap (lo + s3) = s4) (haft : ∀ j, (o.after.any fun e => decide (e.on = j) && Region.binds .any e) = true → td13S p10 lo hi2 mi s1 s2 s3 s4 j (a.eval (.tmp (td13D j))) W) (ho : td13Reg[14]? = some o) : td13Ok p10 lo hi2 mi s1 s2 s3 s4 Q a W 14 o := by
  have hop := op_at ho (·.op) (x := Op.binOp BinOp.add 2 (Operand.tmp 79) (Operand.tmp 90) 2) (by kernel_rfl)
  have hgd := op_at ho (·.guard) (x := none) (by kernel_rfl)
  have e2 : a.eval (.tmp 79) = .int .i64 lo := haft 2 (op_at ho (fun o => o.after.any fun e => decide (e.on = 2) && Region.binds .any e) (x := true) (by kernel_rfl))
  have e13 : a.eval (.tmp 90) = .int .i64 s3 := haft 13 (op_at ho (fun o => o.after.any fun e => decide (e.on = 13) && Region.binds .any e) (x := true) (by kernel_rfl))
  refine ⟨fun j b h => (by rw [hgd] at h; cases h), ?_⟩
  exact specs_value (R := fun v W => td13S p10 lo hi2 mi s1 s2 s3 s4 14 v W) (v := .int .i64 s4) (by simp [execOp, hop, go_sem, ev e2, ev e13, w4]) rfl (Ext.refl W)
set_option maxHeartbeats 1000000 in
theorem td13_op15 (haft : ∀ j, (o.after.any fun e => decide (e.on = j) && Region.binds .any e) = true → td13S p10 lo hi2 mi s1 s2 s3 s4 j (a.eval (.tmp (td13D j))) W) (ho : td13Reg[15]? = some o) : td13Ok p10 lo hi2 mi s1 s2 s3 s4 Q a W 15 o := by
  have hop := op_at ho (·.op) (x := Op.assign (Operand.tmp 91)) (by kernel_rfl)
  have hgd := op_at ho (·.guard) (x := none) (by kernel_rfl)
  have e14 : a.eval (.tmp 91) = .int .i64 s4 := haft 14 (op_at ho (fun o => o.after.any fun e => decide (e.on = 14) && Region.binds .any e) (x := true) (by kernel_rfl))
  refine ⟨fun j b h => (by rw [hgd] at h; cases h), ?_⟩
  exact specs_value (R := fun v W => td13S p10 lo hi2 mi s1 s2 s3 s4 15 v W) (v := .int .i64 s4) (by simp [execOp, hop, go_sem, ev e14]) rfl (Ext.refl W)
set_option maxRecDepth 100000 in
set_option maxHeartbeats 4000000 in
/-- Region 13 of function 7. -/
theorem td13_wp {id : Nat} (hlen : a.tmps.size = 137) (o3 : a.eval (.tmp 3) = .int .u16 mi) (o10 : a.eval (.tmp 10) = .pointer (some ⟨p10, 0, none⟩)) (c0 : ∀ W, Ext V W → W.cell? ⟨p10, 0, none⟩ = some (.int .i64 lo)) (cv : IntKind.i64.wrap mi = mi) (c1 : ∀ W, Ext V W → W.cell? ⟨p10, 1, none⟩ = some (.int .i64 hi2)) (w1 : IntKind.i64.wrap (hi2 - lo) = s1) (w2 : IntKind.i64.wrap (s1 + 1) = s2) (h0 : ¬ s2 = 0) (w3 : mi.tmod s2 = s3) (w4 : IntKind.i64.wrap (lo + s3) = s4) (K : (∀ W, Ext V W → wpList Tryz.prog td13Reg Q (td13Reg.toList.drop 16) (puts a [(77, .pointer (some ⟨p10, 0, none⟩)), (78, .pointer (some ⟨p10, 0, none⟩)), (79, .int .i64 lo), (80, .int .u16 mi), (81, .int .i64 mi), (82, .pointer (some ⟨p10, 0, none⟩)), (83, .pointer (some ⟨p10, 1, none⟩)), (84, .int .i64 hi2), (85, .pointer (some ⟨p10, 0, none⟩)), (86, .pointer (some ⟨p10, 0, none⟩)), (87, .int .i64 lo), (88, .int .i64 s1), (89, .int .i64 s2), (90, .int .i64 s3), (91, .int .i64 s4), (17, .int .i64 s4)]) W)) : (Code.region id td13Reg true).wp Tryz.prog Q a V := by
  refine wp_region_specs_free (ops := td13Reg) 16 (td13S p10 lo hi2 mi s1 s2 s3 s4) (Ext V) (by kernel_rfl) (by rw [hlen]; kernel_rfl) (by kernel_rfl) ⟨rfl, rfl, rfl, Nat.le_refl _, fun _ _ => rfl⟩ (fun _ _ h e => h.trans e) td13S_ext td13D (by kernel_rfl) ?_ ?_
  · intro i o hi ho a' W hB hsz hold haft
    match i, hi with
    | 0, _ => exact td13_op0 ((hold 10 (by kernel_rfl)).trans o10) ho
    | 1, _ => exact td13_op1 haft ho
    | 2, _ => exact td13_op2 c0 hB haft ho
    | 3, _ => exact td13_op3 ((hold 3 (by kernel_rfl)).trans o3) ho
    | 4, _ => exact td13_op4 cv haft ho
    | 5, _ => exact td13_op5 ((hold 10 (by kernel_rfl)).trans o10) ho
    | 6, _ => exact td13_op6 haft ho
    | 7, _ => exact td13_op7 c1 hB haft ho
    | 8, _ => exact td13_op8 ((hold 10 (by kernel_rfl)).trans o10) ho
    | 9, _ => exact td13_op9 haft ho
    | 10, _ => exact td13_op10 c0 hB haft ho
    | 11, _ => exact td13_op11 w1 haft ho
    | 12, _ => exact td13_op12 w2 haft ho
    | 13, _ => exact td13_op13 h0 w3 haft ho
    | 14, _ => exact td13_op14 w4 haft ho
    | 15, _ => exact td13_op15 haft ho
    | m + 16, h => exact absurd h (by omega)
  · intro a1 W hB hsz hdf hold hS
    have hall : ∀ zz, zz ∈ ([(77, .pointer (some ⟨p10, 0, none⟩)), (78, .pointer (some ⟨p10, 0, none⟩)), (79, .int .i64 lo), (80, .int .u16 mi), (81, .int .i64 mi), (82, .pointer (some ⟨p10, 0, none⟩)), (83, .pointer (some ⟨p10, 1, none⟩)), (84, .int .i64 hi2), (85, .pointer (some ⟨p10, 0, none⟩)), (86, .pointer (some ⟨p10, 0, none⟩)), (87, .int .i64 lo), (88, .int .i64 s1), (89, .int .i64 s2), (90, .int .i64 s3), (91, .int .i64 s4), (17, .int .i64 s4)] : List (Tmp × Value)) → zz.1 < a.tmps.size ∧ a1.eval (.tmp zz.1) = zz.2 := by
      intro zz hz
      rw [hlen]
      simp only [List.mem_cons, List.not_mem_nil, or_false] at hz
      rcases hz with rfl | rfl | rfl | rfl | rfl | rfl | rfl | rfl | rfl | rfl | rfl | rfl | rfl | rfl | rfl | rfl
      · exact ⟨(show (77 : Nat) < 137 by omega), hS 0 (by omega)⟩
      · exact ⟨(show (78 : Nat) < 137 by omega), hS 1 (by omega)⟩
      · exact ⟨(show (79 : Nat) < 137 by omega), hS 2 (by omega)⟩
      · exact ⟨(show (80 : Nat) < 137 by omega), hS 3 (by omega)⟩
      · exact ⟨(show (81 : Nat) < 137 by omega), hS 4 (by omega)⟩
      · exact ⟨(show (82 : Nat) < 137 by omega), hS 5 (by omega)⟩
      · exact ⟨(show (83 : Nat) < 137 by omega), hS 6 (by omega)⟩
      · exact ⟨(show (84 : Nat) < 137 by omega), hS 7 (by omega)⟩
      · exact ⟨(show (85 : Nat) < 137 by omega), hS 8 (by omega)⟩
      · exact ⟨(show (86 : Nat) < 137 by omega), hS 9 (by omega)⟩
      · exact ⟨(show (87 : Nat) < 137 by omega), hS 10 (by omega)⟩
      · exact ⟨(show (88 : Nat) < 137 by omega), hS 11 (by omega)⟩
      · exact ⟨(show (89 : Nat) < 137 by omega), hS 12 (by omega)⟩
      · exact ⟨(show (90 : Nat) < 137 by omega), hS 13 (by omega)⟩
      · exact ⟨(show (91 : Nat) < 137 by omega), hS 14 (by omega)⟩
      · exact ⟨(show (17 : Nat) < 137 by omega), hS 15 (by omega)⟩
    have ha := act_puts hsz hdf hall (fun t ht => hold t (all_ne_of (l := [(77, .pointer (some ⟨p10, 0, none⟩)), (78, .pointer (some ⟨p10, 0, none⟩)), (79, .int .i64 lo), (80, .int .u16 mi), (81, .int .i64 mi), (82, .pointer (some ⟨p10, 0, none⟩)), (83, .pointer (some ⟨p10, 1, none⟩)), (84, .int .i64 hi2), (85, .pointer (some ⟨p10, 0, none⟩)), (86, .pointer (some ⟨p10, 0, none⟩)), (87, .int .i64 lo), (88, .int .i64 s1), (89, .int .i64 s2), (90, .int .i64 s3), (91, .int .i64 s4), (17, .int .i64 s4)]) (by kernel_rfl) ht))
    rw [ha]
    exact K W  hB 
end

/-- The slots of region 17 of function 7. -/
def td17D (i : Nat) : Tmp := if i = 0 then 110 else if i = 1 then 111 else if i = 2 then 112 else if i = 3 then 113 else if i = 4 then 114 else if i = 5 then 115 else if i = 6 then 116 else if i = 7 then 117 else if i = 8 then 118 else if i = 9 then 119 else if i = 10 then 19 else 20
/-- What each operation yields. -/
def td17S (p10 : Nat) (lo hi2 b s1 s2 : Int) (ix : Nat) (v : Value) (_W : World) : Prop :=
  match ix with
  | 0 => v = .pointer (some ⟨p10, 0, none⟩)
  | 1 => v = .pointer (some ⟨p10, 0, none⟩)
  | 2 => v = .int .i64 lo
  | 3 => v = .int .i64 b
  | 4 => v = .int .i64 s1
  | 5 => v = .pointer (some ⟨p10, 0, none⟩)
  | 6 => v = .pointer (some ⟨p10, 1, none⟩)
  | 7 => v = .int .i64 hi2
  | 8 => v = .int .i64 b
  | 9 => v = .int .i64 s2
  | 10 => v = .int .i64 s1
  | 11 => v = .int .i64 s2
  | _ => True
noncomputable def td17Reg : Array Oper := (Tryz.f7.body.bind (regionOf · 17)).getD #[]
theorem td17S_ext {p10 : Nat} {lo hi2 b s1 s2 : Int} : ∀ (i : Nat) (v : Value) (W W' : World), td17S p10 lo hi2 b s1 s2 i v W → Below W.heap.size W W' → td17S p10 lo hi2 b s1 s2 i v W' := by
  intro i v W W' h e
  match i with
  | 0 => exact h
  | 1 => exact h
  | 2 => exact h
  | 3 => exact h
  | 4 => exact h
  | 5 => exact h
  | 6 => exact h
  | 7 => exact h
  | 8 => exact h
  | 9 => exact h
  | 10 => exact h
  | 11 => exact h
  | k + 12 => exact trivial
def td17Ok (p10 : Nat) (lo hi2 b s1 s2 : Int) (Q : Exit → Act → World → Prop) (a : Act) (W : World) (ix : Nat) (o : Oper) : Prop :=
  (∀ j b, o.guard = some (j, b) → a.eval (.tmp (td17D j)) = .bool b) ∧ o.wp Tryz.prog a W (fun a'' W' => ∃ v, a'' = a.put o.dst v ∧ td17S p10 lo hi2 b s1 s2 ix v W' ∧ Below W.heap.size W W') Q
section
variable {p10 : Nat} {lo hi2 b s1 s2 : Int} {Q : Exit → Act → World → Prop} {a : Act} {V W : World} {o : Oper}
set_option maxHeartbeats 1000000 in
theorem td17_op0 (o10 : a.eval (.tmp 10) = .pointer (some ⟨p10, 0, none⟩)) (ho : td17Reg[0]? = some o) : td17Ok p10 lo hi2 b s1 s2 Q a W 0 o := by
  have hop := op_at ho (·.op) (x := Op.fieldAddr 56 (Operand.tmp 10) 0) (by kernel_rfl)
  have hgd := op_at ho (·.guard) (x := none) (by kernel_rfl)
  refine ⟨fun j b h => (by rw [hgd] at h; cases h), ?_⟩
  exact specs_value (R := fun v W => td17S p10 lo hi2 b s1 s2 0 v W) (v := .pointer (some ⟨p10, 0, none⟩)) (by simp [execOp, hop, go_sem, ev o10]) rfl (Ext.refl W)
set_option maxHeartbeats 1000000 in
theorem td17_op1 (haft : ∀ j, (o.after.any fun e => decide (e.on = j) && Region.binds .any e) = true → td17S p10 lo hi2 b s1 s2 j (a.eval (.tmp (td17D j))) W) (ho : td17Reg[1]? = some o) : td17Ok p10 lo hi2 b s1 s2 Q a W 1 o := by
  have hop := op_at ho (·.op) (x := Op.fieldAddr 26 (Operand.tmp 110) 0) (by kernel_rfl)
  have hgd := op_at ho (·.guard) (x := none) (by kernel_rfl)
  have e0 : a.eval (.tmp 110) = .pointer (some ⟨p10, 0, none⟩) := haft 0 (op_at ho (fun o => o.after.any fun e => decide (e.on = 0) && Region.binds .any e) (x := true) (by kernel_rfl))
  refine ⟨fun j b h => (by rw [hgd] at h; cases h), ?_⟩
  exact specs_value (R := fun v W => td17S p10 lo hi2 b s1 s2 1 v W) (v := .pointer (some ⟨p10, 0, none⟩)) (by simp [execOp, hop, go_sem, ev e0]) rfl (Ext.refl W)
set_option maxHeartbeats 1000000 in
theorem td17_op2 (c0 : ∀ W, Ext V W → W.cell? ⟨p10, 0, none⟩ = some (.int .i64 lo)) (hB : Ext V W) (haft : ∀ j, (o.after.any fun e => decide (e.on = j) && Region.binds .any e) = true → td17S p10 lo hi2 b s1 s2 j (a.eval (.tmp (td17D j))) W) (ho : td17Reg[2]? = some o) : td17Ok p10 lo hi2 b s1 s2 Q a W 2 o := by
  have hop := op_at ho (·.op) (x := Op.load 2 (Operand.tmp 111)) (by kernel_rfl)
  have hgd := op_at ho (·.guard) (x := none) (by kernel_rfl)
  have e1 : a.eval (.tmp 111) = .pointer (some ⟨p10, 0, none⟩) := haft 1 (op_at ho (fun o => o.after.any fun e => decide (e.on = 1) && Region.binds .any e) (x := true) (by kernel_rfl))
  refine ⟨fun j b h => (by rw [hgd] at h; cases h), ?_⟩
  have c0' := c0 W hB
  exact specs_value (R := fun v W => td17S p10 lo hi2 b s1 s2 2 v W) (v := .int .i64 lo) (by simp [execOp, hop, go_sem, ev e1, c0']) rfl (Ext.refl W)
set_option maxHeartbeats 1000000 in
theorem td17_op3 (o11 : a.eval (.tmp 11) = .int .i64 b) (ho : td17Reg[3]? = some o) : td17Ok p10 lo hi2 b s1 s2 Q a W 3 o := by
  have hop := op_at ho (·.op) (x := Op.move (Operand.tmp 11)) (by kernel_rfl)
  have hgd := op_at ho (·.guard) (x := none) (by kernel_rfl)
  refine ⟨fun j b h => (by rw [hgd] at h; cases h), ?_⟩
  exact specs_value (R := fun v W => td17S p10 lo hi2 b s1 s2 3 v W) (v := .int .i64 b) (by simp [execOp, hop, go_sem, ev o11]) rfl (Ext.refl W)
set_option maxHeartbeats 1000000 in
theorem td17_op4 (w1 : IntKind.i64.wrap (lo - b) = s1) (haft : ∀ j, (o.after.any fun e => decide (e.on = j) && Region.binds .any e) = true → td17S p10 lo hi2 b s1 s2 j (a.eval (.tmp (td17D j))) W) (ho : td17Reg[4]? = some o) : td17Ok p10 lo hi2 b s1 s2 Q a W 4 o := by
  have hop := op_at ho (·.op) (x := Op.binOp BinOp.sub 2 (Operand.tmp 112) (Operand.tmp 113) 2) (by kernel_rfl)
  have hgd := op_at ho (·.guard) (x := none) (by kernel_rfl)
  have e2 : a.eval (.tmp 112) = .int .i64 lo := haft 2 (op_at ho (fun o => o.after.any fun e => decide (e.on = 2) && Region.binds .any e) (x := true) (by kernel_rfl))
  have e3 : a.eval (.tmp 113) = .int .i64 b := haft 3 (op_at ho (fun o => o.after.any fun e => decide (e.on = 3) && Region.binds .any e) (x := true) (by kernel_rfl))
  refine ⟨fun j b h => (by rw [hgd] at h; cases h), ?_⟩
  exact specs_value (R := fun v W => td17S p10 lo hi2 b s1 s2 4 v W) (v := .int .i64 s1) (by simp [execOp, hop, go_sem, ev e2, ev e3, w1]) rfl (Ext.refl W)
set_option maxHeartbeats 1000000 in
theorem td17_op5 (o10 : a.eval (.tmp 10) = .pointer (some ⟨p10, 0, none⟩)) (ho : td17Reg[5]? = some o) : td17Ok p10 lo hi2 b s1 s2 Q a W 5 o := by
  have hop := op_at ho (·.op) (x := Op.fieldAddr 56 (Operand.tmp 10) 0) (by kernel_rfl)
  have hgd := op_at ho (·.guard) (x := none) (by kernel_rfl)
  refine ⟨fun j b h => (by rw [hgd] at h; cases h), ?_⟩
  exact specs_value (R := fun v W => td17S p10 lo hi2 b s1 s2 5 v W) (v := .pointer (some ⟨p10, 0, none⟩)) (by simp [execOp, hop, go_sem, ev o10]) rfl (Ext.refl W)
set_option maxHeartbeats 1000000 in
theorem td17_op6 (haft : ∀ j, (o.after.any fun e => decide (e.on = j) && Region.binds .any e) = true → td17S p10 lo hi2 b s1 s2 j (a.eval (.tmp (td17D j))) W) (ho : td17Reg[6]? = some o) : td17Ok p10 lo hi2 b s1 s2 Q a W 6 o := by
  have hop := op_at ho (·.op) (x := Op.fieldAddr 26 (Operand.tmp 115) 1) (by kernel_rfl)
  have hgd := op_at ho (·.guard) (x := none) (by kernel_rfl)
  have e5 : a.eval (.tmp 115) = .pointer (some ⟨p10, 0, none⟩) := haft 5 (op_at ho (fun o => o.after.any fun e => decide (e.on = 5) && Region.binds .any e) (x := true) (by kernel_rfl))
  refine ⟨fun j b h => (by rw [hgd] at h; cases h), ?_⟩
  exact specs_value (R := fun v W => td17S p10 lo hi2 b s1 s2 6 v W) (v := .pointer (some ⟨p10, 1, none⟩)) (by simp [execOp, hop, go_sem, ev e5]) rfl (Ext.refl W)
set_option maxHeartbeats 1000000 in
theorem td17_op7 (c1 : ∀ W, Ext V W → W.cell? ⟨p10, 1, none⟩ = some (.int .i64 hi2)) (hB : Ext V W) (haft : ∀ j, (o.after.any fun e => decide (e.on = j) && Region.binds .any e) = true → td17S p10 lo hi2 b s1 s2 j (a.eval (.tmp (td17D j))) W) (ho : td17Reg[7]? = some o) : td17Ok p10 lo hi2 b s1 s2 Q a W 7 o := by
  have hop := op_at ho (·.op) (x := Op.load 2 (Operand.tmp 116)) (by kernel_rfl)
  have hgd := op_at ho (·.guard) (x := none) (by kernel_rfl)
  have e6 : a.eval (.tmp 116) = .pointer (some ⟨p10, 1, none⟩) := haft 6 (op_at ho (fun o => o.after.any fun e => decide (e.on = 6) && Region.binds .any e) (x := true) (by kernel_rfl))
  refine ⟨fun j b h => (by rw [hgd] at h; cases h), ?_⟩
  have c1' := c1 W hB
  exact specs_value (R := fun v W => td17S p10 lo hi2 b s1 s2 7 v W) (v := .int .i64 hi2) (by simp [execOp, hop, go_sem, ev e6, c1']) rfl (Ext.refl W)
set_option maxHeartbeats 1000000 in
theorem td17_op8 (o11 : a.eval (.tmp 11) = .int .i64 b) (ho : td17Reg[8]? = some o) : td17Ok p10 lo hi2 b s1 s2 Q a W 8 o := by
  have hop := op_at ho (·.op) (x := Op.move (Operand.tmp 11)) (by kernel_rfl)
  have hgd := op_at ho (·.guard) (x := none) (by kernel_rfl)
  refine ⟨fun j b h => (by rw [hgd] at h; cases h), ?_⟩
  exact specs_value (R := fun v W => td17S p10 lo hi2 b s1 s2 8 v W) (v := .int .i64 b) (by simp [execOp, hop, go_sem, ev o11]) rfl (Ext.refl W)
set_option maxHeartbeats 1000000 in
theorem td17_op9 (w2 : IntKind.i64.wrap (hi2 - b) = s2) (haft : ∀ j, (o.after.any fun e => decide (e.on = j) && Region.binds .any e) = true → td17S p10 lo hi2 b s1 s2 j (a.eval (.tmp (td17D j))) W) (ho : td17Reg[9]? = some o) : td17Ok p10 lo hi2 b s1 s2 Q a W 9 o := by
  have hop := op_at ho (·.op) (x := Op.binOp BinOp.sub 2 (Operand.tmp 117) (Operand.tmp 118) 2) (by kernel_rfl)
  have hgd := op_at ho (·.guard) (x := none) (by kernel_rfl)
  have e7 : a.eval (.tmp 117) = .int .i64 hi2 := haft 7 (op_at ho (fun o => o.after.any fun e => decide (e.on = 7) && Region.binds .any e) (x := true) (by kernel_rfl))
  have e8 : a.eval (.tmp 118) = .int .i64 b := haft 8 (op_at ho (fun o => o.after.any fun e => decide (e.on = 8) && Region.binds .any e) (x := true) (by kernel_rfl))
  refine ⟨fun j b h => (by rw [hgd] at h; cases h), ?_⟩
  exact specs_value (R := fun v W => td17S p10 lo hi2 b s1 s2 9 v W) (v := .int .i64 s2) (by simp [execOp, hop, go_sem, ev e7, ev e8, w2]) rfl (Ext.refl W)
set_option maxHeartbeats 1000000 in
theorem td17_op10 (haft : ∀ j, (o.after.any fun e => decide (e.on = j) && Region.binds .any e) = true → td17S p10 lo hi2 b s1 s2 j (a.eval (.tmp (td17D j))) W) (ho : td17Reg[10]? = some o) : td17Ok p10 lo hi2 b s1 s2 Q a W 10 o := by
  have hop := op_at ho (·.op) (x := Op.assign (Operand.tmp 114)) (by kernel_rfl)
  have hgd := op_at ho (·.guard) (x := none) (by kernel_rfl)
  have e4 : a.eval (.tmp 114) = .int .i64 s1 := haft 4 (op_at ho (fun o => o.after.any fun e => decide (e.on = 4) && Region.binds .any e) (x := true) (by kernel_rfl))
  refine ⟨fun j b h => (by rw [hgd] at h; cases h), ?_⟩
  exact specs_value (R := fun v W => td17S p10 lo hi2 b s1 s2 10 v W) (v := .int .i64 s1) (by simp [execOp, hop, go_sem, ev e4]) rfl (Ext.refl W)
set_option maxHeartbeats 1000000 in
theorem td17_op11 (haft : ∀ j, (o.after.any fun e => decide (e.on = j) && Region.binds .any e) = true → td17S p10 lo hi2 b s1 s2 j (a.eval (.tmp (td17D j))) W) (ho : td17Reg[11]? = some o) : td17Ok p10 lo hi2 b s1 s2 Q a W 11 o := by
  have hop := op_at ho (·.op) (x := Op.assign (Operand.tmp 119)) (by kernel_rfl)
  have hgd := op_at ho (·.guard) (x := none) (by kernel_rfl)
  have e9 : a.eval (.tmp 119) = .int .i64 s2 := haft 9 (op_at ho (fun o => o.after.any fun e => decide (e.on = 9) && Region.binds .any e) (x := true) (by kernel_rfl))
  refine ⟨fun j b h => (by rw [hgd] at h; cases h), ?_⟩
  exact specs_value (R := fun v W => td17S p10 lo hi2 b s1 s2 11 v W) (v := .int .i64 s2) (by simp [execOp, hop, go_sem, ev e9]) rfl (Ext.refl W)
set_option maxRecDepth 100000 in
set_option maxHeartbeats 4000000 in
/-- Region 17 of function 7. -/
theorem td17_wp {id : Nat} (hlen : a.tmps.size = 137) (o10 : a.eval (.tmp 10) = .pointer (some ⟨p10, 0, none⟩)) (o11 : a.eval (.tmp 11) = .int .i64 b) (c0 : ∀ W, Ext V W → W.cell? ⟨p10, 0, none⟩ = some (.int .i64 lo)) (w1 : IntKind.i64.wrap (lo - b) = s1) (c1 : ∀ W, Ext V W → W.cell? ⟨p10, 1, none⟩ = some (.int .i64 hi2)) (w2 : IntKind.i64.wrap (hi2 - b) = s2) (K : (∀ W, Ext V W → wpList Tryz.prog td17Reg Q (td17Reg.toList.drop 12) (puts a [(110, .pointer (some ⟨p10, 0, none⟩)), (111, .pointer (some ⟨p10, 0, none⟩)), (112, .int .i64 lo), (113, .int .i64 b), (114, .int .i64 s1), (115, .pointer (some ⟨p10, 0, none⟩)), (116, .pointer (some ⟨p10, 1, none⟩)), (117, .int .i64 hi2), (118, .int .i64 b), (119, .int .i64 s2), (19, .int .i64 s1), (20, .int .i64 s2)]) W)) : (Code.region id td17Reg true).wp Tryz.prog Q a V := by
  refine wp_region_specs_free (ops := td17Reg) 12 (td17S p10 lo hi2 b s1 s2) (Ext V) (by kernel_rfl) (by rw [hlen]; kernel_rfl) (by kernel_rfl) ⟨rfl, rfl, rfl, Nat.le_refl _, fun _ _ => rfl⟩ (fun _ _ h e => h.trans e) td17S_ext td17D (by kernel_rfl) ?_ ?_
  · intro i o hi ho a' W hB hsz hold haft
    match i, hi with
    | 0, _ => exact td17_op0 ((hold 10 (by kernel_rfl)).trans o10) ho
    | 1, _ => exact td17_op1 haft ho
    | 2, _ => exact td17_op2 c0 hB haft ho
    | 3, _ => exact td17_op3 ((hold 11 (by kernel_rfl)).trans o11) ho
    | 4, _ => exact td17_op4 w1 haft ho
    | 5, _ => exact td17_op5 ((hold 10 (by kernel_rfl)).trans o10) ho
    | 6, _ => exact td17_op6 haft ho
    | 7, _ => exact td17_op7 c1 hB haft ho
    | 8, _ => exact td17_op8 ((hold 11 (by kernel_rfl)).trans o11) ho
    | 9, _ => exact td17_op9 w2 haft ho
    | 10, _ => exact td17_op10 haft ho
    | 11, _ => exact td17_op11 haft ho
    | m + 12, h => exact absurd h (by omega)
  · intro a1 W hB hsz hdf hold hS
    have hall : ∀ zz, zz ∈ ([(110, .pointer (some ⟨p10, 0, none⟩)), (111, .pointer (some ⟨p10, 0, none⟩)), (112, .int .i64 lo), (113, .int .i64 b), (114, .int .i64 s1), (115, .pointer (some ⟨p10, 0, none⟩)), (116, .pointer (some ⟨p10, 1, none⟩)), (117, .int .i64 hi2), (118, .int .i64 b), (119, .int .i64 s2), (19, .int .i64 s1), (20, .int .i64 s2)] : List (Tmp × Value)) → zz.1 < a.tmps.size ∧ a1.eval (.tmp zz.1) = zz.2 := by
      intro zz hz
      rw [hlen]
      simp only [List.mem_cons, List.not_mem_nil, or_false] at hz
      rcases hz with rfl | rfl | rfl | rfl | rfl | rfl | rfl | rfl | rfl | rfl | rfl | rfl
      · exact ⟨(show (110 : Nat) < 137 by omega), hS 0 (by omega)⟩
      · exact ⟨(show (111 : Nat) < 137 by omega), hS 1 (by omega)⟩
      · exact ⟨(show (112 : Nat) < 137 by omega), hS 2 (by omega)⟩
      · exact ⟨(show (113 : Nat) < 137 by omega), hS 3 (by omega)⟩
      · exact ⟨(show (114 : Nat) < 137 by omega), hS 4 (by omega)⟩
      · exact ⟨(show (115 : Nat) < 137 by omega), hS 5 (by omega)⟩
      · exact ⟨(show (116 : Nat) < 137 by omega), hS 6 (by omega)⟩
      · exact ⟨(show (117 : Nat) < 137 by omega), hS 7 (by omega)⟩
      · exact ⟨(show (118 : Nat) < 137 by omega), hS 8 (by omega)⟩
      · exact ⟨(show (119 : Nat) < 137 by omega), hS 9 (by omega)⟩
      · exact ⟨(show (19 : Nat) < 137 by omega), hS 10 (by omega)⟩
      · exact ⟨(show (20 : Nat) < 137 by omega), hS 11 (by omega)⟩
    have ha := act_puts hsz hdf hall (fun t ht => hold t (all_ne_of (l := [(110, .pointer (some ⟨p10, 0, none⟩)), (111, .pointer (some ⟨p10, 0, none⟩)), (112, .int .i64 lo), (113, .int .i64 b), (114, .int .i64 s1), (115, .pointer (some ⟨p10, 0, none⟩)), (116, .pointer (some ⟨p10, 1, none⟩)), (117, .int .i64 hi2), (118, .int .i64 b), (119, .int .i64 s2), (19, .int .i64 s1), (20, .int .i64 s2)]) (by kernel_rfl) ht))
    rw [ha]
    exact K W  hB 
end
end Go.Proofs.YtmlmnljbegcjcaaGreat

/- BathTold: the walk. -/
namespace Go.Proofs.YtmlmnljbegcjcaaGreat
open Go.RowKit Go.Shelf
attribute [local irreducible] bitCells

theorem mem_nums (M : Nat → Bool) (k : Nat) : ∀ t, (k : Int) ∈ numsTo M t ↔ k < t ∧ M k = true
  | 0 => by simp [numsTo]
  | t + 1 => by
    rw [numsTo_succ, List.mem_append, mem_nums M k t]
    by_cases h : M t = true
    · rw [if_pos h, List.mem_singleton]
      constructor
      · rintro (⟨h1, h2⟩ | h1)
        · exact ⟨by omega, h2⟩
        · obtain rfl : k = t := by omega
          exact ⟨by omega, h⟩
      · rintro ⟨h1, h2⟩
        by_cases e : k = t
        · exact .inr (by rw [e])
        · exact .inl ⟨by omega, h2⟩
    · rw [if_neg h]
      constructor
      · rintro (⟨h1, h2⟩ | h1)
        · exact ⟨by omega, h2⟩
        · cases h1
      · rintro ⟨h1, h2⟩
        refine .inl ⟨?_, h2⟩
        by_cases e : k = t
        · subst e; exact absurd h2 h
        · omega
theorem mem_does {os : List Odr} (h0 : ordersErr os = 0) {k : Nat} (hk : k < os.length) (x : Int) : (k : Int) ∈ doesOf os x ↔ doneB x os[k] = true := by
  have h14 := (orders_ok h0).1.2
  unfold doesOf
  rw [if_pos h0, mem_nums, does_at, decide_eq_true hk, Bool.true_and, oAt_get hk]
  exact ⟨fun h => h.2, fun h => ⟨by omega, h⟩⟩
theorem births_at {os : List Odr} (h0 : ordersErr os = 0) {k : Nat} (hk : k < os.length) : birthsAns os (k : Int) = if hasB os[k] = true then ((bLo os[k], bHi os[k]), 0) else ((0, 0), 22) := by
  unfold birthsAns
  rw [if_pos h0, if_pos ⟨by omega, by omega⟩, Int.toNat_natCast, oAt_get hk]
theorem does_short (os : List Odr) (x : Int) : (doesOf os x).length ≤ 14 := by
  unfold doesOf
  split
  · exact numsTo_len _ _
  · simp

set_option maxRecDepth 100000 in
set_option maxHeartbeats 8000000 in
theorem toldNot_any {A : Option Addr} {n c : Nat} {os : List Odr} {w : World} (h : IsOrders w A n c os) (h0 : ordersErr os ≠ 0) (y1 y2 y3 : Int) :
    Calls Tryz.prog 7 #[.slice A n c, .int .u8 y1, .int .i32 y2, .int .u16 y3] w fun e w' => e = .returned (.bool true) ∧ Ext w w' := by
  have hf : Calls Tryz.prog 41 #[.slice A n c] w fun e w' => e = .returned (.bool false) ∧ Ext w w' := decide_eq_false h0 ▸ fine_any h
  clear h h0
  go_enter Tryz.func7, Tryz.ntmps7
  go_wp2_with fail
  refine hf.mono ?_
  rintro e w1 ⟨rfl, e1⟩
  have HE := Lib.hid e1
  have h15 := works_any w1
  clear hf e1
  go_wp2_with fail
  refine h15.mono ?_
  rintro e w2 ⟨rfl, e2⟩
  have HE2 := Lib.hid (HE.out.trans e2)
  clear h15 e2
  go_wp2
  go_ret
  exact ⟨rfl, HE2.out⟩
set_option maxRecDepth 100000 in
set_option maxHeartbeats 8000000 in
theorem told1_any {A : Option Addr} {n c : Nat} {os : List Odr} {w : World} (h : IsOrders w A n c os) (h0 : ordersErr os = 0) (k u : Nat) (hk : k < os.length) (hu : u % n = k) (b : Int) (mi : Nat) (hu1 : u ≤ 255) (hb1 : -2147483648 ≤ b) (hb2 : b ≤ 2147483647) (hm1 : mi ≤ 65535) (hd : doneB b os[k] = true) :
    Calls Tryz.prog 7 #[.slice A n c, .int .u8 (u : Int), .int .i32 b, .int .u16 (mi : Int)] w fun e w' => e = .returned (.bool true) ∧ Ext w w' := by
  have hf : Calls Tryz.prog 41 #[.slice A n c] w fun e w' => e = .returned (.bool true) ∧ Ext w w' := decide_eq_true h0 ▸ fine_any h
  have hmd := mem_does h0 hk b
  have hba := births_at h0 hk
  have hds := does_short os b
  have hok := ordOk_iff.1 ((orders_ok h0).2 _ (List.getElem_mem hk))
  have hn14 : n ≤ 14 := by have := h.len; have := (orders_ok h0).1; omega
  have hnk : k < n := by rw [h.len]; exact hk
  have hce := fun W (hW : Ext w W) => (h.ext hW).at hk
  have hn0 : ¬ (n : Int) = 0 := by omega
  have hn0' : ¬ n = 0 := by omega
  have hmod : (u : Int).tmod (n : Int) = (k : Int) := by rw [← Int.ofNat_tmod, hu]
  have hkz : (k : Int) < (n : Int) := by omega
  have hcu : IntKind.i64.wrap (u : Int) = (u : Int) := IntWalk.i64_in _ (by omega)
  have hcb : IntKind.i64.wrap b = b := IntWalk.i64_in _ (by omega)
  have hcm : IntKind.i64.wrap (mi : Int) = (mi : Int) := IntWalk.i64_in _ (by omega)
  obtain ⟨o, ho⟩ : ∃ o, os[k] = o := ⟨_, rfl⟩
  simp only [ho] at hce
  rw [ho] at hmd hba hok
  have hmt : decide ((k : Int) ∈ doesOf os b) = true := decide_eq_true (hmd.2 (ho ▸ hd))
  have hdn := doneB_iff.1 (ho ▸ hd : doneB b o = true)
  rw [if_pos (show hasB o = true from by unfold hasB; rw [decide_eq_true_eq]; omega)] at hba
  obtain ⟨ol, oh, oy, oo, ow⟩ := o
  simp only [bLo, bHi] at *
  have hw1 : IntKind.i64.wrap (oh - ol) = oh - ol := IntWalk.i64_in _ (by omega)
  have hw2 : IntKind.i64.wrap (oh - ol + 1) = oh - ol + 1 := IntWalk.i64_in _ (by omega)
  have hw0 : ¬ oh - ol + 1 = 0 := by omega
  have hr1 : 0 ≤ (mi : Int).tmod (oh - ol + 1) := Int.tmod_nonneg _ (by omega)
  have hr2 : (mi : Int).tmod (oh - ol + 1) < oh - ol + 1 := Int.tmod_lt_of_pos _ (by omega)
  obtain ⟨rm, hrm⟩ : ∃ rm, (mi : Int).tmod (oh - ol + 1) = rm := ⟨_, rfl⟩
  rw [hrm] at hr1 hr2
  have hw4 : IntKind.i64.wrap (ol + rm) = ol + rm := IntWalk.i64_in _ (by omega)
  have hw5 : IntKind.i64.wrap (ol + rm - b) = ol + rm - b := IntWalk.i64_in _ (by omega)
  have hw6 : IntKind.i64.wrap (ol - b) = ol - b := IntWalk.i64_in _ (by omega)
  have hw7 : IntKind.i64.wrap (oh - b) = oh - b := IntWalk.i64_in _ (by omega)
  have H := Lib.hid h
  have HCE := Lib.hid hce
  have HW := Lib.hid (And.intro hw1 (And.intro hw2 (And.intro hw0 (And.intro hrm (And.intro hw4 (And.intro hcm (And.intro hw6 hw7)))))))
  have HV := Lib.hid (And.intro hba (And.intro hmd (And.intro hds h0)))
  have hq1 : oh - oo ≤ b := hdn.1
  have hq2 : b ≤ ol - oy := hdn.2
  have hq3 : ¬ ol + rm - b < oy := by omega
  have hq4 : ¬ oo < ol + rm - b := by omega
  have hq5 : oy ≤ ol - b := by omega
  have hq6 : oh - b ≤ oo := by omega
  clear hdn hd
  clear h hce hw1 hw2 hw0 hrm hw4 hcm hw6 hw7 hba hmd hds h0 hok ho hnk hn14 hu hu1 hm1 hr1 hr2
  obtain ⟨s1, hs1⟩ : ∃ s1, ol - b = s1 := ⟨_, rfl⟩
  obtain ⟨s2, hs2⟩ : ∃ s2, oh - b = s2 := ⟨_, rfl⟩
  obtain ⟨da, hda⟩ : ∃ da, doesOf os b = da := ⟨_, rfl⟩
  have HDA := Lib.hid hda
  simp only [hs1, hs2] at hq5 hq6
  have HS := Lib.hid (And.intro hs1 hs2)
  clear hs1 hs2
  go_enter Tryz.func7, Tryz.ntmps7
  go_wp2_with fail
  refine hf.mono ?_
  rintro e w1 ⟨rfl, e1⟩
  have HX := Lib.hid e1
  obtain ⟨b0, off, rfl, hbl, c0, c1, c2, c3, c4⟩ := HCE.out w1 e1
  clear hf e1
  go_upto_region 5 with fail
  obtain ⟨p10, hp10⟩ : ∃ p10, w1.heap.size = p10 := ⟨_, rfl⟩
  obtain ⟨w2, hw2'⟩ : ∃ w2, w1.alloc (.cells #[.int .i64 ol, .int .i64 oh, .int .i64 oy, .int .i64 oo, .int .i64 ow] 56) = w2 := ⟨_, rfl⟩
  have e2 : Ext w1 w2 := by rw [← hw2']; exact ext_alloc _ _
  have R10 := Lib.hid (show w2.heap[p10]? = some (.cells #[.int .i64 ol, .int .i64 oh, .int .i64 oy, .int .i64 oo, .int .i64 ow] 56 (0, 0)) from by rw [← hw2']; exact row_last _ _ _ hp10.symm)
  rw [hw2', hp10]
  replace HX := Lib.hid (HX.out.trans e2)
  clear hw2' hp10 e2 c0 c1 c2 c3 c4 hbl
  have h1 := births_any (H.out.ext HX.out) (k : Int)
  rw [HV.out.1] at h1
  go_wp2_with fail
  refine h1.mono ?_
  rintro e w3 ⟨rfl, e3⟩
  clear h1
  go_upto_region 7 with fail
  obtain ⟨p12, hp12⟩ : ∃ p12, w3.heap.size = p12 := ⟨_, rfl⟩
  obtain ⟨w4, hw4'⟩ : ∃ w4, w3.alloc (.cells #[.int .i64 (oh - oo), .int .i64 (ol - oy)] 26) = w4 := ⟨_, rfl⟩
  have e4 : Ext w3 w4 := by rw [← hw4']; exact ext_alloc _ _
  have R12 := Lib.hid (show w4.heap[p12]? = some (.cells #[.int .i64 (oh - oo), .int .i64 (ol - oy)] 26 (0, 0)) from by rw [← hw4']; exact row_last _ _ _ hp12.symm)
  rw [hw4', hp12]
  replace HX := Lib.hid (HX.out.trans (e3.trans e4))
  replace R10 := Lib.hid (row_ext R10.out (e3.trans e4))
  clear hw4' hp12 e3 e4
  have h1 := does18_any (H.out.ext HX.out) b
  rw [HDA.out, HV.out.2.2.2] at h1
  go_wp2_with fail
  refine h1.mono ?_
  rintro e w5 ⟨e5, Ad, cd, rfl, hd5, _, _⟩
  replace HX := Lib.hid (HX.out.trans e5)
  replace R10 := Lib.hid (row_ext R10.out e5)
  replace R12 := Lib.hid (row_ext R12.out e5)
  have hin := in_any Ad da.length cd da (k : Int) w5 rfl (by have := HV.out.2.2.1; rw [HDA.out] at this; omega) hd5
  rw [← HDA.out, hmt, HDA.out] at hin
  clear h1 e5 hd5 hmt
  have g0 : w5.cell? ⟨p12, 0, none⟩ = some (.int .i64 (oh - oo)) := cell_of_row _ _ _ _ _ _ R12.out
  have g1 : w5.cell? ⟨p12, 1, none⟩ = some (.int .i64 (ol - oy)) := cell_of_row _ _ _ _ _ _ R12.out
  go_wp2_with fail
  refine hin.mono ?_
  rintro e w6 ⟨rfl, rfl⟩
  clear hin hda
  go_upto_region 13 with fail
  refine td13_wp (p10 := p10) (lo := ol) (hi2 := oh) (mi := (mi : Int)) (s1 := oh - ol) (s2 := oh - ol + 1) (s3 := rm) (s4 := ol + rm) rfl rfl rfl (fun W hW => cell_of_row _ _ 0 _ _ _ (row_ext R10.out hW)) HW.out.2.2.2.2.2.1 (fun W hW => cell_of_row _ _ 1 _ _ _ (row_ext R10.out hW)) HW.out.1 HW.out.2.1 HW.out.2.2.1 HW.out.2.2.2.1 HW.out.2.2.2.2.1 ?_
  intro W7 e7
  have hs13 : td13Reg.size = 16 := by kernel_rfl
  have hdr : td13Reg.toList.drop 16 = [] := List.drop_eq_nil_of_le (by simp [hs13])
  rw [hdr]
  simp only [puts, List.foldl_cons, List.foldl_nil, Act.put, List.setIfInBounds_toArray, List.set_cons_succ, List.set_cons_zero]
  replace HX := Lib.hid (HX.out.trans e7)
  replace R10 := Lib.hid (row_ext R10.out e7)
  clear e7 hs13 hdr g0 g1 R12
  have g2 : W7.cell? ⟨p10, 2, none⟩ = some (.int .i64 oy) := cell_of_row _ _ _ _ _ _ R10.out
  have g3 : W7.cell? ⟨p10, 3, none⟩ = some (.int .i64 oo) := cell_of_row _ _ _ _ _ _ R10.out
  go_upto_region 17 with fail
  refine td17_wp (p10 := p10) (lo := ol) (hi2 := oh) (b := b) (s1 := s1) (s2 := s2) rfl rfl rfl (fun W hW => cell_of_row _ _ 0 _ _ _ (row_ext R10.out hW)) (by rw [← HS.out.1]; exact HW.out.2.2.2.2.2.2.1) (fun W hW => cell_of_row _ _ 1 _ _ _ (row_ext R10.out hW)) (by rw [← HS.out.2]; exact HW.out.2.2.2.2.2.2.2) ?_
  intro W8 e8
  have hs17 : td17Reg.size = 12 := by kernel_rfl
  have hdr : td17Reg.toList.drop 12 = [] := List.drop_eq_nil_of_le (by simp [hs17])
  rw [hdr]
  simp only [puts, List.foldl_cons, List.foldl_nil, Act.put, List.setIfInBounds_toArray, List.set_cons_succ, List.set_cons_zero]
  replace HX := Lib.hid (HX.out.trans e8)
  replace R10 := Lib.hid (row_ext R10.out e8)
  clear e8 hs17 hdr g2 g3
  have g2 : W8.cell? ⟨p10, 2, none⟩ = some (.int .i64 oy) := cell_of_row _ _ _ _ _ _ R10.out
  have g3 : W8.cell? ⟨p10, 3, none⟩ = some (.int .i64 oo) := cell_of_row _ _ _ _ _ _ R10.out
  have h15 := works_any W8
  go_wp2_with fail
  refine h15.mono ?_
  rintro e w9 ⟨rfl, e9⟩
  have HE := Lib.hid (HX.out.trans e9)
  clear h15 e9 g2 g3
  go_wp2
  go_ret
  exact ⟨by first | rfl | (simp; omega), HE.out⟩
set_option maxRecDepth 100000 in
set_option maxHeartbeats 8000000 in
theorem told2_any {A : Option Addr} {n c : Nat} {os : List Odr} {w : World} (h : IsOrders w A n c os) (h0 : ordersErr os = 0) (k u : Nat) (hk : k < os.length) (hu : u % n = k) (b : Int) (mi : Nat) (hu1 : u ≤ 255) (hb1 : -2147483648 ≤ b) (hb2 : b ≤ 2147483647) (hm1 : mi ≤ 65535) (hd : doneB b os[k] = false) (hhs : hasB os[k] = true) (hsub : bHi os[k] < b) :
    Calls Tryz.prog 7 #[.slice A n c, .int .u8 (u : Int), .int .i32 b, .int .u16 (mi : Int)] w fun e w' => e = .returned (.bool true) ∧ Ext w w' := by
  have hf : Calls Tryz.prog 41 #[.slice A n c] w fun e w' => e = .returned (.bool true) ∧ Ext w w' := decide_eq_true h0 ▸ fine_any h
  have hmd := mem_does h0 hk b
  have hba := births_at h0 hk
  have hds := does_short os b
  have hok := ordOk_iff.1 ((orders_ok h0).2 _ (List.getElem_mem hk))
  have hn14 : n ≤ 14 := by have := h.len; have := (orders_ok h0).1; omega
  have hnk : k < n := by rw [h.len]; exact hk
  have hce := fun W (hW : Ext w W) => (h.ext hW).at hk
  have hn0 : ¬ (n : Int) = 0 := by omega
  have hn0' : ¬ n = 0 := by omega
  have hmod : (u : Int).tmod (n : Int) = (k : Int) := by rw [← Int.ofNat_tmod, hu]
  have hkz : (k : Int) < (n : Int) := by omega
  have hcu : IntKind.i64.wrap (u : Int) = (u : Int) := IntWalk.i64_in _ (by omega)
  have hcb : IntKind.i64.wrap b = b := IntWalk.i64_in _ (by omega)
  have hcm : IntKind.i64.wrap (mi : Int) = (mi : Int) := IntWalk.i64_in _ (by omega)
  obtain ⟨o, ho⟩ : ∃ o, os[k] = o := ⟨_, rfl⟩
  simp only [ho] at hce
  rw [ho] at hmd hba hok
  have hmt : decide ((k : Int) ∈ doesOf os b) = false := decide_eq_false fun h => by
    have := hmd.1 h
    rw [← ho, hd] at this
    cases this
  rw [ho] at hsub hhs
  have hdn : ¬ (bLo o ≤ b ∧ b ≤ bHi o) := fun h => by
    have := doneB_iff.2 h
    rw [← ho, hd] at this
    cases this
  rw [if_pos hhs] at hba
  have hhb : bLo o ≤ bHi o := by unfold hasB at hhs; rwa [decide_eq_true_eq] at hhs
  obtain ⟨ol, oh, oy, oo, ow⟩ := o
  simp only [bLo, bHi] at *
  have hw1 : IntKind.i64.wrap (oh - ol) = oh - ol := IntWalk.i64_in _ (by omega)
  have hw2 : IntKind.i64.wrap (oh - ol + 1) = oh - ol + 1 := IntWalk.i64_in _ (by omega)
  have hw0 : ¬ oh - ol + 1 = 0 := by omega
  have hr1 : 0 ≤ (mi : Int).tmod (oh - ol + 1) := Int.tmod_nonneg _ (by omega)
  have hr2 : (mi : Int).tmod (oh - ol + 1) < oh - ol + 1 := Int.tmod_lt_of_pos _ (by omega)
  obtain ⟨rm, hrm⟩ : ∃ rm, (mi : Int).tmod (oh - ol + 1) = rm := ⟨_, rfl⟩
  rw [hrm] at hr1 hr2
  have hw4 : IntKind.i64.wrap (ol + rm) = ol + rm := IntWalk.i64_in _ (by omega)
  have hw5 : IntKind.i64.wrap (ol + rm - b) = ol + rm - b := IntWalk.i64_in _ (by omega)
  have hw6 : IntKind.i64.wrap (ol - b) = ol - b := IntWalk.i64_in _ (by omega)
  have hw7 : IntKind.i64.wrap (oh - b) = oh - b := IntWalk.i64_in _ (by omega)
  have H := Lib.hid h
  have HCE := Lib.hid hce
  have HW := Lib.hid (And.intro hw1 (And.intro hw2 (And.intro hw0 (And.intro hrm (And.intro hw4 (And.intro hcm (And.intro hw6 hw7)))))))
  have HV := Lib.hid (And.intro hba (And.intro hmd (And.intro hds h0)))
  have hq1 : oh - oo ≤ b := by omega
  have hq2 : ¬ b ≤ ol - oy := by omega
  have hq5 : ¬ oy ≤ ol - b := by omega
  clear hdn hd hhb hsub hhs
  clear h hce hw1 hw2 hw0 hrm hw4 hcm hw6 hw7 hba hmd hds h0 hok ho hnk hn14 hu hu1 hm1 hr1 hr2
  obtain ⟨s1, hs1⟩ : ∃ s1, ol - b = s1 := ⟨_, rfl⟩
  obtain ⟨s2, hs2⟩ : ∃ s2, oh - b = s2 := ⟨_, rfl⟩
  obtain ⟨da, hda⟩ : ∃ da, doesOf os b = da := ⟨_, rfl⟩
  have HDA := Lib.hid hda
  simp only [hs1] at hq5
  have HS := Lib.hid (And.intro hs1 hs2)
  clear hs1 hs2
  go_enter Tryz.func7, Tryz.ntmps7
  go_wp2_with fail
  refine hf.mono ?_
  rintro e w1 ⟨rfl, e1⟩
  have HX := Lib.hid e1
  obtain ⟨b0, off, rfl, hbl, c0, c1, c2, c3, c4⟩ := HCE.out w1 e1
  clear hf e1
  go_upto_region 5 with fail
  obtain ⟨p10, hp10⟩ : ∃ p10, w1.heap.size = p10 := ⟨_, rfl⟩
  obtain ⟨w2, hw2'⟩ : ∃ w2, w1.alloc (.cells #[.int .i64 ol, .int .i64 oh, .int .i64 oy, .int .i64 oo, .int .i64 ow] 56) = w2 := ⟨_, rfl⟩
  have e2 : Ext w1 w2 := by rw [← hw2']; exact ext_alloc _ _
  have R10 := Lib.hid (show w2.heap[p10]? = some (.cells #[.int .i64 ol, .int .i64 oh, .int .i64 oy, .int .i64 oo, .int .i64 ow] 56 (0, 0)) from by rw [← hw2']; exact row_last _ _ _ hp10.symm)
  rw [hw2', hp10]
  replace HX := Lib.hid (HX.out.trans e2)
  clear hw2' hp10 e2 c0 c1 c2 c3 c4 hbl
  have h1 := births_any (H.out.ext HX.out) (k : Int)
  rw [HV.out.1] at h1
  go_wp2_with fail
  refine h1.mono ?_
  rintro e w3 ⟨rfl, e3⟩
  clear h1
  go_upto_region 7 with fail
  obtain ⟨p12, hp12⟩ : ∃ p12, w3.heap.size = p12 := ⟨_, rfl⟩
  obtain ⟨w4, hw4'⟩ : ∃ w4, w3.alloc (.cells #[.int .i64 (oh - oo), .int .i64 (ol - oy)] 26) = w4 := ⟨_, rfl⟩
  have e4 : Ext w3 w4 := by rw [← hw4']; exact ext_alloc _ _
  have R12 := Lib.hid (show w4.heap[p12]? = some (.cells #[.int .i64 (oh - oo), .int .i64 (ol - oy)] 26 (0, 0)) from by rw [← hw4']; exact row_last _ _ _ hp12.symm)
  rw [hw4', hp12]
  replace HX := Lib.hid (HX.out.trans (e3.trans e4))
  replace R10 := Lib.hid (row_ext R10.out (e3.trans e4))
  clear hw4' hp12 e3 e4
  have h1 := does18_any (H.out.ext HX.out) b
  rw [HDA.out, HV.out.2.2.2] at h1
  go_wp2_with fail
  refine h1.mono ?_
  rintro e w5 ⟨e5, Ad, cd, rfl, hd5, _, _⟩
  replace HX := Lib.hid (HX.out.trans e5)
  replace R10 := Lib.hid (row_ext R10.out e5)
  replace R12 := Lib.hid (row_ext R12.out e5)
  have hin := in_any Ad da.length cd da (k : Int) w5 rfl (by have := HV.out.2.2.1; rw [HDA.out] at this; omega) hd5
  rw [← HDA.out, hmt, HDA.out] at hin
  clear h1 e5 hd5 hmt
  have g0 : w5.cell? ⟨p12, 0, none⟩ = some (.int .i64 (oh - oo)) := cell_of_row _ _ _ _ _ _ R12.out
  have g1 : w5.cell? ⟨p12, 1, none⟩ = some (.int .i64 (ol - oy)) := cell_of_row _ _ _ _ _ _ R12.out
  go_wp2_with fail
  refine hin.mono ?_
  rintro e w6 ⟨rfl, rfl⟩
  clear hin hda
  go_upto_region 13 with fail
  refine td13_wp (p10 := p10) (lo := ol) (hi2 := oh) (mi := (mi : Int)) (s1 := oh - ol) (s2 := oh - ol + 1) (s3 := rm) (s4 := ol + rm) rfl rfl rfl (fun W hW => cell_of_row _ _ 0 _ _ _ (row_ext R10.out hW)) HW.out.2.2.2.2.2.1 (fun W hW => cell_of_row _ _ 1 _ _ _ (row_ext R10.out hW)) HW.out.1 HW.out.2.1 HW.out.2.2.1 HW.out.2.2.2.1 HW.out.2.2.2.2.1 ?_
  intro W7 e7
  have hs13 : td13Reg.size = 16 := by kernel_rfl
  have hdr : td13Reg.toList.drop 16 = [] := List.drop_eq_nil_of_le (by simp [hs13])
  rw [hdr]
  simp only [puts, List.foldl_cons, List.foldl_nil, Act.put, List.setIfInBounds_toArray, List.set_cons_succ, List.set_cons_zero]
  replace HX := Lib.hid (HX.out.trans e7)
  replace R10 := Lib.hid (row_ext R10.out e7)
  clear e7 hs13 hdr g0 g1 R12
  have g2 : W7.cell? ⟨p10, 2, none⟩ = some (.int .i64 oy) := cell_of_row _ _ _ _ _ _ R10.out
  have g3 : W7.cell? ⟨p10, 3, none⟩ = some (.int .i64 oo) := cell_of_row _ _ _ _ _ _ R10.out
  go_upto_region 17 with fail
  refine td17_wp (p10 := p10) (lo := ol) (hi2 := oh) (b := b) (s1 := s1) (s2 := s2) rfl rfl rfl (fun W hW => cell_of_row _ _ 0 _ _ _ (row_ext R10.out hW)) (by rw [← HS.out.1]; exact HW.out.2.2.2.2.2.2.1) (fun W hW => cell_of_row _ _ 1 _ _ _ (row_ext R10.out hW)) (by rw [← HS.out.2]; exact HW.out.2.2.2.2.2.2.2) ?_
  intro W8 e8
  have hs17 : td17Reg.size = 12 := by kernel_rfl
  have hdr : td17Reg.toList.drop 12 = [] := List.drop_eq_nil_of_le (by simp [hs17])
  rw [hdr]
  simp only [puts, List.foldl_cons, List.foldl_nil, Act.put, List.setIfInBounds_toArray, List.set_cons_succ, List.set_cons_zero]
  replace HX := Lib.hid (HX.out.trans e8)
  replace R10 := Lib.hid (row_ext R10.out e8)
  clear e8 hs17 hdr g2 g3
  have g2 : W8.cell? ⟨p10, 2, none⟩ = some (.int .i64 oy) := cell_of_row _ _ _ _ _ _ R10.out
  have g3 : W8.cell? ⟨p10, 3, none⟩ = some (.int .i64 oo) := cell_of_row _ _ _ _ _ _ R10.out
  have h15 := works_any W8
  go_wp2_with fail
  refine h15.mono ?_
  rintro e w9 ⟨rfl, e9⟩
  have HE := Lib.hid (HX.out.trans e9)
  clear h15 e9 g2 g3
  go_wp2
  go_ret
  exact ⟨by first | rfl | (simp; omega), HE.out⟩
set_option maxRecDepth 100000 in
set_option maxHeartbeats 8000000 in
theorem told3_any {A : Option Addr} {n c : Nat} {os : List Odr} {w : World} (h : IsOrders w A n c os) (h0 : ordersErr os = 0) (k u : Nat) (hk : k < os.length) (hu : u % n = k) (b : Int) (mi : Nat) (hu1 : u ≤ 255) (hb1 : -2147483648 ≤ b) (hb2 : b ≤ 2147483647) (hm1 : mi ≤ 65535) (hd : doneB b os[k] = false) (hhs : hasB os[k] = true) (hsub : ¬ bHi os[k] < b) :
    Calls Tryz.prog 7 #[.slice A n c, .int .u8 (u : Int), .int .i32 b, .int .u16 (mi : Int)] w fun e w' => e = .returned (.bool true) ∧ Ext w w' := by
  have hf : Calls Tryz.prog 41 #[.slice A n c] w fun e w' => e = .returned (.bool true) ∧ Ext w w' := decide_eq_true h0 ▸ fine_any h
  have hmd := mem_does h0 hk b
  have hba := births_at h0 hk
  have hds := does_short os b
  have hok := ordOk_iff.1 ((orders_ok h0).2 _ (List.getElem_mem hk))
  have hn14 : n ≤ 14 := by have := h.len; have := (orders_ok h0).1; omega
  have hnk : k < n := by rw [h.len]; exact hk
  have hce := fun W (hW : Ext w W) => (h.ext hW).at hk
  have hn0 : ¬ (n : Int) = 0 := by omega
  have hn0' : ¬ n = 0 := by omega
  have hmod : (u : Int).tmod (n : Int) = (k : Int) := by rw [← Int.ofNat_tmod, hu]
  have hkz : (k : Int) < (n : Int) := by omega
  have hcu : IntKind.i64.wrap (u : Int) = (u : Int) := IntWalk.i64_in _ (by omega)
  have hcb : IntKind.i64.wrap b = b := IntWalk.i64_in _ (by omega)
  have hcm : IntKind.i64.wrap (mi : Int) = (mi : Int) := IntWalk.i64_in _ (by omega)
  obtain ⟨o, ho⟩ : ∃ o, os[k] = o := ⟨_, rfl⟩
  simp only [ho] at hce
  rw [ho] at hmd hba hok
  have hmt : decide ((k : Int) ∈ doesOf os b) = false := decide_eq_false fun h => by
    have := hmd.1 h
    rw [← ho, hd] at this
    cases this
  rw [ho] at hsub hhs
  have hdn : ¬ (bLo o ≤ b ∧ b ≤ bHi o) := fun h => by
    have := doneB_iff.2 h
    rw [← ho, hd] at this
    cases this
  rw [if_pos hhs] at hba
  have hhb : bLo o ≤ bHi o := by unfold hasB at hhs; rwa [decide_eq_true_eq] at hhs
  obtain ⟨ol, oh, oy, oo, ow⟩ := o
  simp only [bLo, bHi] at *
  have hw1 : IntKind.i64.wrap (oh - ol) = oh - ol := IntWalk.i64_in _ (by omega)
  have hw2 : IntKind.i64.wrap (oh - ol + 1) = oh - ol + 1 := IntWalk.i64_in _ (by omega)
  have hw0 : ¬ oh - ol + 1 = 0 := by omega
  have hr1 : 0 ≤ (mi : Int).tmod (oh - ol + 1) := Int.tmod_nonneg _ (by omega)
  have hr2 : (mi : Int).tmod (oh - ol + 1) < oh - ol + 1 := Int.tmod_lt_of_pos _ (by omega)
  obtain ⟨rm, hrm⟩ : ∃ rm, (mi : Int).tmod (oh - ol + 1) = rm := ⟨_, rfl⟩
  rw [hrm] at hr1 hr2
  have hw4 : IntKind.i64.wrap (ol + rm) = ol + rm := IntWalk.i64_in _ (by omega)
  have hw5 : IntKind.i64.wrap (ol + rm - b) = ol + rm - b := IntWalk.i64_in _ (by omega)
  have hw6 : IntKind.i64.wrap (ol - b) = ol - b := IntWalk.i64_in _ (by omega)
  have hw7 : IntKind.i64.wrap (oh - b) = oh - b := IntWalk.i64_in _ (by omega)
  have H := Lib.hid h
  have HCE := Lib.hid hce
  have HW := Lib.hid (And.intro hw1 (And.intro hw2 (And.intro hw0 (And.intro hrm (And.intro hw4 (And.intro hcm (And.intro hw6 hw7)))))))
  have HV := Lib.hid (And.intro hba (And.intro hmd (And.intro hds h0)))
  have hq1 : ¬ oh - oo ≤ b := by omega
  have hq5 : oy ≤ ol - b := by omega
  have hq6 : ¬ oh - b ≤ oo := by omega
  clear hdn hd hhb hsub hhs
  clear h hce hw1 hw2 hw0 hrm hw4 hcm hw6 hw7 hba hmd hds h0 hok ho hnk hn14 hu hu1 hm1 hr1 hr2
  obtain ⟨s1, hs1⟩ : ∃ s1, ol - b = s1 := ⟨_, rfl⟩
  obtain ⟨s2, hs2⟩ : ∃ s2, oh - b = s2 := ⟨_, rfl⟩
  obtain ⟨da, hda⟩ : ∃ da, doesOf os b = da := ⟨_, rfl⟩
  have HDA := Lib.hid hda
  simp only [hs1, hs2] at hq5 hq6
  have HS := Lib.hid (And.intro hs1 hs2)
  clear hs1 hs2
  go_enter Tryz.func7, Tryz.ntmps7
  go_wp2_with fail
  refine hf.mono ?_
  rintro e w1 ⟨rfl, e1⟩
  have HX := Lib.hid e1
  obtain ⟨b0, off, rfl, hbl, c0, c1, c2, c3, c4⟩ := HCE.out w1 e1
  clear hf e1
  go_upto_region 5 with fail
  obtain ⟨p10, hp10⟩ : ∃ p10, w1.heap.size = p10 := ⟨_, rfl⟩
  obtain ⟨w2, hw2'⟩ : ∃ w2, w1.alloc (.cells #[.int .i64 ol, .int .i64 oh, .int .i64 oy, .int .i64 oo, .int .i64 ow] 56) = w2 := ⟨_, rfl⟩
  have e2 : Ext w1 w2 := by rw [← hw2']; exact ext_alloc _ _
  have R10 := Lib.hid (show w2.heap[p10]? = some (.cells #[.int .i64 ol, .int .i64 oh, .int .i64 oy, .int .i64 oo, .int .i64 ow] 56 (0, 0)) from by rw [← hw2']; exact row_last _ _ _ hp10.symm)
  rw [hw2', hp10]
  replace HX := Lib.hid (HX.out.trans e2)
  clear hw2' hp10 e2 c0 c1 c2 c3 c4 hbl
  have h1 := births_any (H.out.ext HX.out) (k : Int)
  rw [HV.out.1] at h1
  go_wp2_with fail
  refine h1.mono ?_
  rintro e w3 ⟨rfl, e3⟩
  clear h1
  go_upto_region 7 with fail
  obtain ⟨p12, hp12⟩ : ∃ p12, w3.heap.size = p12 := ⟨_, rfl⟩
  obtain ⟨w4, hw4'⟩ : ∃ w4, w3.alloc (.cells #[.int .i64 (oh - oo), .int .i64 (ol - oy)] 26) = w4 := ⟨_, rfl⟩
  have e4 : Ext w3 w4 := by rw [← hw4']; exact ext_alloc _ _
  have R12 := Lib.hid (show w4.heap[p12]? = some (.cells #[.int .i64 (oh - oo), .int .i64 (ol - oy)] 26 (0, 0)) from by rw [← hw4']; exact row_last _ _ _ hp12.symm)
  rw [hw4', hp12]
  replace HX := Lib.hid (HX.out.trans (e3.trans e4))
  replace R10 := Lib.hid (row_ext R10.out (e3.trans e4))
  clear hw4' hp12 e3 e4
  have h1 := does18_any (H.out.ext HX.out) b
  rw [HDA.out, HV.out.2.2.2] at h1
  go_wp2_with fail
  refine h1.mono ?_
  rintro e w5 ⟨e5, Ad, cd, rfl, hd5, _, _⟩
  replace HX := Lib.hid (HX.out.trans e5)
  replace R10 := Lib.hid (row_ext R10.out e5)
  replace R12 := Lib.hid (row_ext R12.out e5)
  have hin := in_any Ad da.length cd da (k : Int) w5 rfl (by have := HV.out.2.2.1; rw [HDA.out] at this; omega) hd5
  rw [← HDA.out, hmt, HDA.out] at hin
  clear h1 e5 hd5 hmt
  have g0 : w5.cell? ⟨p12, 0, none⟩ = some (.int .i64 (oh - oo)) := cell_of_row _ _ _ _ _ _ R12.out
  have g1 : w5.cell? ⟨p12, 1, none⟩ = some (.int .i64 (ol - oy)) := cell_of_row _ _ _ _ _ _ R12.out
  go_wp2_with fail
  refine hin.mono ?_
  rintro e w6 ⟨rfl, rfl⟩
  clear hin hda
  go_upto_region 13 with fail
  refine td13_wp (p10 := p10) (lo := ol) (hi2 := oh) (mi := (mi : Int)) (s1 := oh - ol) (s2 := oh - ol + 1) (s3 := rm) (s4 := ol + rm) rfl rfl rfl (fun W hW => cell_of_row _ _ 0 _ _ _ (row_ext R10.out hW)) HW.out.2.2.2.2.2.1 (fun W hW => cell_of_row _ _ 1 _ _ _ (row_ext R10.out hW)) HW.out.1 HW.out.2.1 HW.out.2.2.1 HW.out.2.2.2.1 HW.out.2.2.2.2.1 ?_
  intro W7 e7
  have hs13 : td13Reg.size = 16 := by kernel_rfl
  have hdr : td13Reg.toList.drop 16 = [] := List.drop_eq_nil_of_le (by simp [hs13])
  rw [hdr]
  simp only [puts, List.foldl_cons, List.foldl_nil, Act.put, List.setIfInBounds_toArray, List.set_cons_succ, List.set_cons_zero]
  replace HX := Lib.hid (HX.out.trans e7)
  replace R10 := Lib.hid (row_ext R10.out e7)
  clear e7 hs13 hdr g0 g1 R12
  have g2 : W7.cell? ⟨p10, 2, none⟩ = some (.int .i64 oy) := cell_of_row _ _ _ _ _ _ R10.out
  have g3 : W7.cell? ⟨p10, 3, none⟩ = some (.int .i64 oo) := cell_of_row _ _ _ _ _ _ R10.out
  go_upto_region 17 with fail
  refine td17_wp (p10 := p10) (lo := ol) (hi2 := oh) (b := b) (s1 := s1) (s2 := s2) rfl rfl rfl (fun W hW => cell_of_row _ _ 0 _ _ _ (row_ext R10.out hW)) (by rw [← HS.out.1]; exact HW.out.2.2.2.2.2.2.1) (fun W hW => cell_of_row _ _ 1 _ _ _ (row_ext R10.out hW)) (by rw [← HS.out.2]; exact HW.out.2.2.2.2.2.2.2) ?_
  intro W8 e8
  have hs17 : td17Reg.size = 12 := by kernel_rfl
  have hdr : td17Reg.toList.drop 12 = [] := List.drop_eq_nil_of_le (by simp [hs17])
  rw [hdr]
  simp only [puts, List.foldl_cons, List.foldl_nil, Act.put, List.setIfInBounds_toArray, List.set_cons_succ, List.set_cons_zero]
  replace HX := Lib.hid (HX.out.trans e8)
  replace R10 := Lib.hid (row_ext R10.out e8)
  clear e8 hs17 hdr g2 g3
  have g2 : W8.cell? ⟨p10, 2, none⟩ = some (.int .i64 oy) := cell_of_row _ _ _ _ _ _ R10.out
  have g3 : W8.cell? ⟨p10, 3, none⟩ = some (.int .i64 oo) := cell_of_row _ _ _ _ _ _ R10.out
  have h15 := works_any W8
  go_wp2_with fail
  refine h15.mono ?_
  rintro e w9 ⟨rfl, e9⟩
  have HE := Lib.hid (HX.out.trans e9)
  clear h15 e9 g2 g3
  go_wp2
  go_ret
  exact ⟨by first | rfl | (simp; omega), HE.out⟩
set_option maxRecDepth 100000 in
set_option maxHeartbeats 8000000 in
theorem told4_any {A : Option Addr} {n c : Nat} {os : List Odr} {w : World} (h : IsOrders w A n c os) (h0 : ordersErr os = 0) (k u : Nat) (hk : k < os.length) (hu : u % n = k) (b : Int) (mi : Nat) (hu1 : u ≤ 255) (hb1 : -2147483648 ≤ b) (hb2 : b ≤ 2147483647) (hm1 : mi ≤ 65535) (hd : doneB b os[k] = false) (hhs : hasB os[k] = false) (hsub : bHi os[k] < b) :
    Calls Tryz.prog 7 #[.slice A n c, .int .u8 (u : Int), .int .i32 b, .int .u16 (mi : Int)] w fun e w' => e = .returned (.bool true) ∧ Ext w w' := by
  have hf : Calls Tryz.prog 41 #[.slice A n c] w fun e w' => e = .returned (.bool true) ∧ Ext w w' := decide_eq_true h0 ▸ fine_any h
  have hmd := mem_does h0 hk b
  have hba := births_at h0 hk
  have hds := does_short os b
  have hok := ordOk_iff.1 ((orders_ok h0).2 _ (List.getElem_mem hk))
  have hn14 : n ≤ 14 := by have := h.len; have := (orders_ok h0).1; omega
  have hnk : k < n := by rw [h.len]; exact hk
  have hce := fun W (hW : Ext w W) => (h.ext hW).at hk
  have hn0 : ¬ (n : Int) = 0 := by omega
  have hn0' : ¬ n = 0 := by omega
  have hmod : (u : Int).tmod (n : Int) = (k : Int) := by rw [← Int.ofNat_tmod, hu]
  have hkz : (k : Int) < (n : Int) := by omega
  have hcu : IntKind.i64.wrap (u : Int) = (u : Int) := IntWalk.i64_in _ (by omega)
  have hcb : IntKind.i64.wrap b = b := IntWalk.i64_in _ (by omega)
  have hcm : IntKind.i64.wrap (mi : Int) = (mi : Int) := IntWalk.i64_in _ (by omega)
  obtain ⟨o, ho⟩ : ∃ o, os[k] = o := ⟨_, rfl⟩
  simp only [ho] at hce
  rw [ho] at hmd hba hok
  have hmt : decide ((k : Int) ∈ doesOf os b) = false := decide_eq_false fun h => by
    have := hmd.1 h
    rw [← ho, hd] at this
    cases this
  rw [ho] at hsub hhs
  have hdn : ¬ (bLo o ≤ b ∧ b ≤ bHi o) := fun h => by
    have := doneB_iff.2 h
    rw [← ho, hd] at this
    cases this
  rw [if_neg (by rw [hhs]; decide)] at hba
  have hhb : ¬ bLo o ≤ bHi o := by unfold hasB at hhs; rwa [decide_eq_false_iff_not] at hhs
  obtain ⟨ol, oh, oy, oo, ow⟩ := o
  simp only [bLo, bHi] at *
  have hw1 : IntKind.i64.wrap (oh - ol) = oh - ol := IntWalk.i64_in _ (by omega)
  have hw2 : IntKind.i64.wrap (oh - ol + 1) = oh - ol + 1 := IntWalk.i64_in _ (by omega)
  have hw0 : ¬ oh - ol + 1 = 0 := by omega
  have hr1 : 0 ≤ (mi : Int).tmod (oh - ol + 1) := Int.tmod_nonneg _ (by omega)
  have hr2 : (mi : Int).tmod (oh - ol + 1) < oh - ol + 1 := Int.tmod_lt_of_pos _ (by omega)
  obtain ⟨rm, hrm⟩ : ∃ rm, (mi : Int).tmod (oh - ol + 1) = rm := ⟨_, rfl⟩
  rw [hrm] at hr1 hr2
  have hw4 : IntKind.i64.wrap (ol + rm) = ol + rm := IntWalk.i64_in _ (by omega)
  have hw5 : IntKind.i64.wrap (ol + rm - b) = ol + rm - b := IntWalk.i64_in _ (by omega)
  have hw6 : IntKind.i64.wrap (ol - b) = ol - b := IntWalk.i64_in _ (by omega)
  have hw7 : IntKind.i64.wrap (oh - b) = oh - b := IntWalk.i64_in _ (by omega)
  have H := Lib.hid h
  have HCE := Lib.hid hce
  have HW := Lib.hid (And.intro hw1 (And.intro hw2 (And.intro hw0 (And.intro hrm (And.intro hw4 (And.intro hcm (And.intro hw6 hw7)))))))
  have HV := Lib.hid (And.intro hba (And.intro hmd (And.intro hds h0)))
  have hq5 : ¬ oy ≤ ol - b := by omega
  clear hdn hd hhb hsub hhs
  clear h hce hw1 hw2 hw0 hrm hw4 hcm hw6 hw7 hba hmd hds h0 hok ho hnk hn14 hu hu1 hm1 hr1 hr2
  obtain ⟨s1, hs1⟩ : ∃ s1, ol - b = s1 := ⟨_, rfl⟩
  obtain ⟨s2, hs2⟩ : ∃ s2, oh - b = s2 := ⟨_, rfl⟩
  obtain ⟨da, hda⟩ : ∃ da, doesOf os b = da := ⟨_, rfl⟩
  have HDA := Lib.hid hda
  simp only [hs1] at hq5
  have HS := Lib.hid (And.intro hs1 hs2)
  clear hs1 hs2
  go_enter Tryz.func7, Tryz.ntmps7
  go_wp2_with fail
  refine hf.mono ?_
  rintro e w1 ⟨rfl, e1⟩
  have HX := Lib.hid e1
  obtain ⟨b0, off, rfl, hbl, c0, c1, c2, c3, c4⟩ := HCE.out w1 e1
  clear hf e1
  go_upto_region 5 with fail
  obtain ⟨p10, hp10⟩ : ∃ p10, w1.heap.size = p10 := ⟨_, rfl⟩
  obtain ⟨w2, hw2'⟩ : ∃ w2, w1.alloc (.cells #[.int .i64 ol, .int .i64 oh, .int .i64 oy, .int .i64 oo, .int .i64 ow] 56) = w2 := ⟨_, rfl⟩
  have e2 : Ext w1 w2 := by rw [← hw2']; exact ext_alloc _ _
  have R10 := Lib.hid (show w2.heap[p10]? = some (.cells #[.int .i64 ol, .int .i64 oh, .int .i64 oy, .int .i64 oo, .int .i64 ow] 56 (0, 0)) from by rw [← hw2']; exact row_last _ _ _ hp10.symm)
  rw [hw2', hp10]
  replace HX := Lib.hid (HX.out.trans e2)
  clear hw2' hp10 e2 c0 c1 c2 c3 c4 hbl
  have h1 := births_any (H.out.ext HX.out) (k : Int)
  rw [HV.out.1] at h1
  go_wp2_with fail
  refine h1.mono ?_
  rintro e w3 ⟨rfl, e3⟩
  clear h1
  go_upto_region 7 with fail
  obtain ⟨p12, hp12⟩ : ∃ p12, w3.heap.size = p12 := ⟨_, rfl⟩
  obtain ⟨w4, hw4'⟩ : ∃ w4, w3.alloc (.cells #[.int .i64 0, .int .i64 0] 26) = w4 := ⟨_, rfl⟩
  have e4 : Ext w3 w4 := by rw [← hw4']; exact ext_alloc _ _
  have R12 := Lib.hid (show w4.heap[p12]? = some (.cells #[.int .i64 0, .int .i64 0] 26 (0, 0)) from by rw [← hw4']; exact row_last _ _ _ hp12.symm)
  rw [hw4', hp12]
  replace HX := Lib.hid (HX.out.trans (e3.trans e4))
  replace R10 := Lib.hid (row_ext R10.out (e3.trans e4))
  clear hw4' hp12 e3 e4
  have h1 := does18_any (H.out.ext HX.out) b
  rw [HDA.out, HV.out.2.2.2] at h1
  go_wp2_with fail
  refine h1.mono ?_
  rintro e w5 ⟨e5, Ad, cd, rfl, hd5, _, _⟩
  replace HX := Lib.hid (HX.out.trans e5)
  replace R10 := Lib.hid (row_ext R10.out e5)
  replace R12 := Lib.hid (row_ext R12.out e5)
  have hin := in_any Ad da.length cd da (k : Int) w5 rfl (by have := HV.out.2.2.1; rw [HDA.out] at this; omega) hd5
  rw [← HDA.out, hmt, HDA.out] at hin
  clear h1 e5 hd5 hmt
  have g0 : w5.cell? ⟨p12, 0, none⟩ = some (.int .i64 0) := cell_of_row _ _ _ _ _ _ R12.out
  have g1 : w5.cell? ⟨p12, 1, none⟩ = some (.int .i64 0) := cell_of_row _ _ _ _ _ _ R12.out
  go_wp2_with fail
  refine hin.mono ?_
  rintro e w6 ⟨rfl, rfl⟩
  clear hin hda
  go_upto_region 13 with fail
  refine td13_wp (p10 := p10) (lo := ol) (hi2 := oh) (mi := (mi : Int)) (s1 := oh - ol) (s2 := oh - ol + 1) (s3 := rm) (s4 := ol + rm) rfl rfl rfl (fun W hW => cell_of_row _ _ 0 _ _ _ (row_ext R10.out hW)) HW.out.2.2.2.2.2.1 (fun W hW => cell_of_row _ _ 1 _ _ _ (row_ext R10.out hW)) HW.out.1 HW.out.2.1 HW.out.2.2.1 HW.out.2.2.2.1 HW.out.2.2.2.2.1 ?_
  intro W7 e7
  have hs13 : td13Reg.size = 16 := by kernel_rfl
  have hdr : td13Reg.toList.drop 16 = [] := List.drop_eq_nil_of_le (by simp [hs13])
  rw [hdr]
  simp only [puts, List.foldl_cons, List.foldl_nil, Act.put, List.setIfInBounds_toArray, List.set_cons_succ, List.set_cons_zero]
  replace HX := Lib.hid (HX.out.trans e7)
  replace R10 := Lib.hid (row_ext R10.out e7)
  clear e7 hs13 hdr g0 g1 R12
  have g2 : W7.cell? ⟨p10, 2, none⟩ = some (.int .i64 oy) := cell_of_row _ _ _ _ _ _ R10.out
  have g3 : W7.cell? ⟨p10, 3, none⟩ = some (.int .i64 oo) := cell_of_row _ _ _ _ _ _ R10.out
  go_upto_region 17 with fail
  refine td17_wp (p10 := p10) (lo := ol) (hi2 := oh) (b := b) (s1 := s1) (s2 := s2) rfl rfl rfl (fun W hW => cell_of_row _ _ 0 _ _ _ (row_ext R10.out hW)) (by rw [← HS.out.1]; exact HW.out.2.2.2.2.2.2.1) (fun W hW => cell_of_row _ _ 1 _ _ _ (row_ext R10.out hW)) (by rw [← HS.out.2]; exact HW.out.2.2.2.2.2.2.2) ?_
  intro W8 e8
  have hs17 : td17Reg.size = 12 := by kernel_rfl
  have hdr : td17Reg.toList.drop 12 = [] := List.drop_eq_nil_of_le (by simp [hs17])
  rw [hdr]
  simp only [puts, List.foldl_cons, List.foldl_nil, Act.put, List.setIfInBounds_toArray, List.set_cons_succ, List.set_cons_zero]
  replace HX := Lib.hid (HX.out.trans e8)
  replace R10 := Lib.hid (row_ext R10.out e8)
  clear e8 hs17 hdr g2 g3
  have g2 : W8.cell? ⟨p10, 2, none⟩ = some (.int .i64 oy) := cell_of_row _ _ _ _ _ _ R10.out
  have g3 : W8.cell? ⟨p10, 3, none⟩ = some (.int .i64 oo) := cell_of_row _ _ _ _ _ _ R10.out
  have h15 := works_any W8
  go_wp2_with fail
  refine h15.mono ?_
  rintro e w9 ⟨rfl, e9⟩
  have HE := Lib.hid (HX.out.trans e9)
  clear h15 e9 g2 g3
  go_wp2
  go_ret
  exact ⟨by first | rfl | (simp; omega), HE.out⟩
set_option maxRecDepth 100000 in
set_option maxHeartbeats 8000000 in
theorem told5_any {A : Option Addr} {n c : Nat} {os : List Odr} {w : World} (h : IsOrders w A n c os) (h0 : ordersErr os = 0) (k u : Nat) (hk : k < os.length) (hu : u % n = k) (b : Int) (mi : Nat) (hu1 : u ≤ 255) (hb1 : -2147483648 ≤ b) (hb2 : b ≤ 2147483647) (hm1 : mi ≤ 65535) (hd : doneB b os[k] = false) (hhs : hasB os[k] = false) (hsub : ¬ bHi os[k] < b) :
    Calls Tryz.prog 7 #[.slice A n c, .int .u8 (u : Int), .int .i32 b, .int .u16 (mi : Int)] w fun e w' => e = .returned (.bool true) ∧ Ext w w' := by
  have hf : Calls Tryz.prog 41 #[.slice A n c] w fun e w' => e = .returned (.bool true) ∧ Ext w w' := decide_eq_true h0 ▸ fine_any h
  have hmd := mem_does h0 hk b
  have hba := births_at h0 hk
  have hds := does_short os b
  have hok := ordOk_iff.1 ((orders_ok h0).2 _ (List.getElem_mem hk))
  have hn14 : n ≤ 14 := by have := h.len; have := (orders_ok h0).1; omega
  have hnk : k < n := by rw [h.len]; exact hk
  have hce := fun W (hW : Ext w W) => (h.ext hW).at hk
  have hn0 : ¬ (n : Int) = 0 := by omega
  have hn0' : ¬ n = 0 := by omega
  have hmod : (u : Int).tmod (n : Int) = (k : Int) := by rw [← Int.ofNat_tmod, hu]
  have hkz : (k : Int) < (n : Int) := by omega
  have hcu : IntKind.i64.wrap (u : Int) = (u : Int) := IntWalk.i64_in _ (by omega)
  have hcb : IntKind.i64.wrap b = b := IntWalk.i64_in _ (by omega)
  have hcm : IntKind.i64.wrap (mi : Int) = (mi : Int) := IntWalk.i64_in _ (by omega)
  obtain ⟨o, ho⟩ : ∃ o, os[k] = o := ⟨_, rfl⟩
  simp only [ho] at hce
  rw [ho] at hmd hba hok
  have hmt : decide ((k : Int) ∈ doesOf os b) = false := decide_eq_false fun h => by
    have := hmd.1 h
    rw [← ho, hd] at this
    cases this
  rw [ho] at hsub hhs
  have hdn : ¬ (bLo o ≤ b ∧ b ≤ bHi o) := fun h => by
    have := doneB_iff.2 h
    rw [← ho, hd] at this
    cases this
  rw [if_neg (by rw [hhs]; decide)] at hba
  have hhb : ¬ bLo o ≤ bHi o := by unfold hasB at hhs; rwa [decide_eq_false_iff_not] at hhs
  obtain ⟨ol, oh, oy, oo, ow⟩ := o
  simp only [bLo, bHi] at *
  have hw1 : IntKind.i64.wrap (oh - ol) = oh - ol := IntWalk.i64_in _ (by omega)
  have hw2 : IntKind.i64.wrap (oh - ol + 1) = oh - ol + 1 := IntWalk.i64_in _ (by omega)
  have hw0 : ¬ oh - ol + 1 = 0 := by omega
  have hr1 : 0 ≤ (mi : Int).tmod (oh - ol + 1) := Int.tmod_nonneg _ (by omega)
  have hr2 : (mi : Int).tmod (oh - ol + 1) < oh - ol + 1 := Int.tmod_lt_of_pos _ (by omega)
  obtain ⟨rm, hrm⟩ : ∃ rm, (mi : Int).tmod (oh - ol + 1) = rm := ⟨_, rfl⟩
  rw [hrm] at hr1 hr2
  have hw4 : IntKind.i64.wrap (ol + rm) = ol + rm := IntWalk.i64_in _ (by omega)
  have hw5 : IntKind.i64.wrap (ol + rm - b) = ol + rm - b := IntWalk.i64_in _ (by omega)
  have hw6 : IntKind.i64.wrap (ol - b) = ol - b := IntWalk.i64_in _ (by omega)
  have hw7 : IntKind.i64.wrap (oh - b) = oh - b := IntWalk.i64_in _ (by omega)
  have H := Lib.hid h
  have HCE := Lib.hid hce
  have HW := Lib.hid (And.intro hw1 (And.intro hw2 (And.intro hw0 (And.intro hrm (And.intro hw4 (And.intro hcm (And.intro hw6 hw7)))))))
  have HV := Lib.hid (And.intro hba (And.intro hmd (And.intro hds h0)))
  have hq5 : oy ≤ ol - b := by omega
  have hq6 : ¬ oh - b ≤ oo := by omega
  clear hdn hd hhb hsub hhs
  clear h hce hw1 hw2 hw0 hrm hw4 hcm hw6 hw7 hba hmd hds h0 hok ho hnk hn14 hu hu1 hm1 hr1 hr2
  obtain ⟨s1, hs1⟩ : ∃ s1, ol - b = s1 := ⟨_, rfl⟩
  obtain ⟨s2, hs2⟩ : ∃ s2, oh - b = s2 := ⟨_, rfl⟩
  obtain ⟨da, hda⟩ : ∃ da, doesOf os b = da := ⟨_, rfl⟩
  have HDA := Lib.hid hda
  simp only [hs1, hs2] at hq5 hq6
  have HS := Lib.hid (And.intro hs1 hs2)
  clear hs1 hs2
  go_enter Tryz.func7, Tryz.ntmps7
  go_wp2_with fail
  refine hf.mono ?_
  rintro e w1 ⟨rfl, e1⟩
  have HX := Lib.hid e1
  obtain ⟨b0, off, rfl, hbl, c0, c1, c2, c3, c4⟩ := HCE.out w1 e1
  clear hf e1
  go_upto_region 5 with fail
  obtain ⟨p10, hp10⟩ : ∃ p10, w1.heap.size = p10 := ⟨_, rfl⟩
  obtain ⟨w2, hw2'⟩ : ∃ w2, w1.alloc (.cells #[.int .i64 ol, .int .i64 oh, .int .i64 oy, .int .i64 oo, .int .i64 ow] 56) = w2 := ⟨_, rfl⟩
  have e2 : Ext w1 w2 := by rw [← hw2']; exact ext_alloc _ _
  have R10 := Lib.hid (show w2.heap[p10]? = some (.cells #[.int .i64 ol, .int .i64 oh, .int .i64 oy, .int .i64 oo, .int .i64 ow] 56 (0, 0)) from by rw [← hw2']; exact row_last _ _ _ hp10.symm)
  rw [hw2', hp10]
  replace HX := Lib.hid (HX.out.trans e2)
  clear hw2' hp10 e2 c0 c1 c2 c3 c4 hbl
  have h1 := births_any (H.out.ext HX.out) (k : Int)
  rw [HV.out.1] at h1
  go_wp2_with fail
  refine h1.mono ?_
  rintro e w3 ⟨rfl, e3⟩
  clear h1
  go_upto_region 7 with fail
  obtain ⟨p12, hp12⟩ : ∃ p12, w3.heap.size = p12 := ⟨_, rfl⟩
  obtain ⟨w4, hw4'⟩ : ∃ w4, w3.alloc (.cells #[.int .i64 0, .int .i64 0] 26) = w4 := ⟨_, rfl⟩
  have e4 : Ext w3 w4 := by rw [← hw4']; exact ext_alloc _ _
  have R12 := Lib.hid (show w4.heap[p12]? = some (.cells #[.int .i64 0, .int .i64 0] 26 (0, 0)) from by rw [← hw4']; exact row_last _ _ _ hp12.symm)
  rw [hw4', hp12]
  replace HX := Lib.hid (HX.out.trans (e3.trans e4))
  replace R10 := Lib.hid (row_ext R10.out (e3.trans e4))
  clear hw4' hp12 e3 e4
  have h1 := does18_any (H.out.ext HX.out) b
  rw [HDA.out, HV.out.2.2.2] at h1
  go_wp2_with fail
  refine h1.mono ?_
  rintro e w5 ⟨e5, Ad, cd, rfl, hd5, _, _⟩
  replace HX := Lib.hid (HX.out.trans e5)
  replace R10 := Lib.hid (row_ext R10.out e5)
  replace R12 := Lib.hid (row_ext R12.out e5)
  have hin := in_any Ad da.length cd da (k : Int) w5 rfl (by have := HV.out.2.2.1; rw [HDA.out] at this; omega) hd5
  rw [← HDA.out, hmt, HDA.out] at hin
  clear h1 e5 hd5 hmt
  have g0 : w5.cell? ⟨p12, 0, none⟩ = some (.int .i64 0) := cell_of_row _ _ _ _ _ _ R12.out
  have g1 : w5.cell? ⟨p12, 1, none⟩ = some (.int .i64 0) := cell_of_row _ _ _ _ _ _ R12.out
  go_wp2_with fail
  refine hin.mono ?_
  rintro e w6 ⟨rfl, rfl⟩
  clear hin hda
  go_upto_region 13 with fail
  refine td13_wp (p10 := p10) (lo := ol) (hi2 := oh) (mi := (mi : Int)) (s1 := oh - ol) (s2 := oh - ol + 1) (s3 := rm) (s4 := ol + rm) rfl rfl rfl (fun W hW => cell_of_row _ _ 0 _ _ _ (row_ext R10.out hW)) HW.out.2.2.2.2.2.1 (fun W hW => cell_of_row _ _ 1 _ _ _ (row_ext R10.out hW)) HW.out.1 HW.out.2.1 HW.out.2.2.1 HW.out.2.2.2.1 HW.out.2.2.2.2.1 ?_
  intro W7 e7
  have hs13 : td13Reg.size = 16 := by kernel_rfl
  have hdr : td13Reg.toList.drop 16 = [] := List.drop_eq_nil_of_le (by simp [hs13])
  rw [hdr]
  simp only [puts, List.foldl_cons, List.foldl_nil, Act.put, List.setIfInBounds_toArray, List.set_cons_succ, List.set_cons_zero]
  replace HX := Lib.hid (HX.out.trans e7)
  replace R10 := Lib.hid (row_ext R10.out e7)
  clear e7 hs13 hdr g0 g1 R12
  have g2 : W7.cell? ⟨p10, 2, none⟩ = some (.int .i64 oy) := cell_of_row _ _ _ _ _ _ R10.out
  have g3 : W7.cell? ⟨p10, 3, none⟩ = some (.int .i64 oo) := cell_of_row _ _ _ _ _ _ R10.out
  go_upto_region 17 with fail
  refine td17_wp (p10 := p10) (lo := ol) (hi2 := oh) (b := b) (s1 := s1) (s2 := s2) rfl rfl rfl (fun W hW => cell_of_row _ _ 0 _ _ _ (row_ext R10.out hW)) (by rw [← HS.out.1]; exact HW.out.2.2.2.2.2.2.1) (fun W hW => cell_of_row _ _ 1 _ _ _ (row_ext R10.out hW)) (by rw [← HS.out.2]; exact HW.out.2.2.2.2.2.2.2) ?_
  intro W8 e8
  have hs17 : td17Reg.size = 12 := by kernel_rfl
  have hdr : td17Reg.toList.drop 12 = [] := List.drop_eq_nil_of_le (by simp [hs17])
  rw [hdr]
  simp only [puts, List.foldl_cons, List.foldl_nil, Act.put, List.setIfInBounds_toArray, List.set_cons_succ, List.set_cons_zero]
  replace HX := Lib.hid (HX.out.trans e8)
  replace R10 := Lib.hid (row_ext R10.out e8)
  clear e8 hs17 hdr g2 g3
  have g2 : W8.cell? ⟨p10, 2, none⟩ = some (.int .i64 oy) := cell_of_row _ _ _ _ _ _ R10.out
  have g3 : W8.cell? ⟨p10, 3, none⟩ = some (.int .i64 oo) := cell_of_row _ _ _ _ _ _ R10.out
  have h15 := works_any W8
  go_wp2_with fail
  refine h15.mono ?_
  rintro e w9 ⟨rfl, e9⟩
  have HE := Lib.hid (HX.out.trans e9)
  clear h15 e9 g2 g3
  go_wp2
  go_ret
  exact ⟨by first | rfl | (simp; omega), HE.out⟩
theorem toldLaw_any {A : Option Addr} {n c : Nat} {os : List Odr} {w : World} (h : IsOrders w A n c os) (y1 y2 y3 : Int) (h11 : 0 ≤ y1) (h12 : y1 ≤ 255) (h21 : -2147483648 ≤ y2) (h22 : y2 ≤ 2147483647) (h31 : 0 ≤ y3) (h32 : y3 ≤ 65535) :
    Calls Tryz.prog 7 #[.slice A n c, .int .u8 y1, .int .i32 y2, .int .u16 y3] w fun e w' => e = .returned (.bool true) ∧ Ext w w' := by
  by_cases h0 : ordersErr os = 0
  · obtain ⟨u, rfl⟩ : ∃ u : Nat, y1 = (u : Int) := ⟨y1.toNat, by omega⟩
    obtain ⟨mi, rfl⟩ : ∃ mi : Nat, y3 = (mi : Int) := ⟨y3.toNat, by omega⟩
    have hl := (orders_ok h0).1
    have hn := h.len
    have hk : u % n < os.length := by rw [← hn]; exact Nat.mod_lt _ (by omega)
    cases hd : doneB y2 (os[u % n]'hk) with
    | true => exact told1_any h h0 (u % n) u hk rfl y2 mi (by omega) h21 h22 (by omega) hd
    | false =>
      cases hhs : hasB (os[u % n]'hk) with
      | true =>
        by_cases hsub : bHi (os[u % n]'hk) < y2
        · exact told2_any h h0 (u % n) u hk rfl y2 mi (by omega) h21 h22 (by omega) hd hhs hsub
        · exact told3_any h h0 (u % n) u hk rfl y2 mi (by omega) h21 h22 (by omega) hd hhs hsub
      | false =>
        by_cases hsub : bHi (os[u % n]'hk) < y2
        · exact told4_any h h0 (u % n) u hk rfl y2 mi (by omega) h21 h22 (by omega) hd hhs hsub
        · exact told5_any h h0 (u % n) u hk rfl y2 mi (by omega) h21 h22 (by omega) hd hhs hsub
  · exact toldNot_any h h0 y1 y2 y3
end Go.Proofs.YtmlmnljbegcjcaaGreat
