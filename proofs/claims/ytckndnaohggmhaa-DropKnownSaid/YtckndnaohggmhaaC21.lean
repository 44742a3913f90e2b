/- Texts of the package drop, joined: KnownLast, Known. -/
import Derived.Test.YtckndnaohggmhaaC20
import Derived.Deep.Cut
/- KnownLast: what each of the operations of the last statement yields. -/
namespace Go.Proofs.Ytckndnaohggmhaa
open Go.RowKit Go.Shelf

/-- The slots. -/
def knownD (i : Nat) : Tmp := if i = 87 then 0 else 75 + i
theorem known_rows81 {W : World} {g l79 l80 : Nat} (h : W.heap[g]? = some (.cells #[.slice (some ⟨l79, 0, none⟩) 1 1, .slice (some ⟨l80, 0, none⟩) 4 4] 42 (0, 0))) (h79 : Held W W.heap.size 1 encI (some ⟨l79, 0, none⟩) [-2]) (h80 : Held W W.heap.size 1 encI (some ⟨l80, 0, none⟩) [-1, 0, 1, 2]) : HeldRows W W.heap.size (some ⟨g, 0, none⟩) [[-2], [-1, 0, 1, 2]] :=
  .inr ⟨g, 0, rfl, (Array.getElem?_eq_some_iff.1 h).1, fun j xs hj => by
    match j, hj with
    | 0, hj => cases hj; exact ⟨_, _, cell_of_row _ _ _ _ _ _ h, h79, by simp⟩
    | 1, hj => cases hj; exact ⟨_, _, cell_of_row _ _ _ _ _ _ h, h80, by simp⟩⟩
/-- What each operation yields. -/
def knownS (B1 : Option Addr) (c1 : Nat) (B3 : Option Addr) (c3 : Nat) (i : Nat) (v : Value) (W : World) : Prop :=
  match i with
  | 0 => v = .int .i64 0
  | 3 => v = .int .i64 0
  | 7 => v = .int .i64 0
  | 11 => v = .int .i64 0
  | 15 => v = .int .i64 0
  | 19 => v = .int .i64 0
  | 23 => v = .int .i64 0
  | 27 => v = .int .i64 0
  | 31 => v = .int .i64 0
  | 35 => v = .int .i64 0
  | 39 => v = .agg #[.int .i64 0, .int .i64 0]
  | 40 => v = .agg #[.int .i64 0, .int .i64 0]
  | 44 => v = .int .i64 1
  | 48 => v = .int .i64 0
  | 52 => v = .int .i64 0
  | 56 => v = .int .i64 1
  | 60 => v = .agg #[.int .i64 4, .int .i64 5]
  | 61 => v = .agg #[.int .i64 4, .int .i64 5]
  | 65 => v = .int .i64 255
  | 69 => v = .int .i64 299
  | 73 => v = .slice B1 4 c1
  | 74 => Lit [-1, 0, 1, 2] v W
  | 78 => v = .slice B3 2 c3
  | 79 => Lit [-2] v W
  | 80 => Lit [-1, 0, 1, 2] v W
  | 81 => ∃ g, v = .slice (some ⟨g, 0, none⟩) 2 2 ∧ HeldRows W W.heap.size (some ⟨g, 0, none⟩) [[-2], [-1, 0, 1, 2]]
  | _ => v = .bool true
theorem knownS_ext (B1 : Option Addr) (c1 : Nat) (B3 : Option Addr) (c3 : Nat) (i : Nat) (v : Value) (W W' : World) (h : knownS B1 c1 B3 c3 i v W) (e : Below W.heap.size W W') : knownS B1 c1 B3 c3 i v W' := by
  unfold knownS at h ⊢
  split at h <;> first | exact h | exact Lit.ext h e | (obtain ⟨g, rfl, hh⟩ := h; exact ⟨g, rfl, hh.ext e⟩)
noncomputable def knownReg : Array Oper := (Try.f14.body.bind (regionOf · 12)).getD #[]
def knownOk (B1 : Option Addr) (c1 : Nat) (B3 : Option Addr) (c3 : Nat) (Q : Exit → Act → World → Prop) (a : Act) (W : World) (i : Nat) (o : Oper) : Prop :=
  (∀ j b, o.guard = some (j, b) → a.eval (.tmp (knownD j)) = .bool b) ∧ o.wp Try.prog a W (fun a'' W' => ∃ v, a'' = a.put o.dst v ∧ knownS B1 c1 B3 c3 i v W' ∧ Below W.heap.size W W') Q

section
variable {B1 B3 : Option Addr} {c1 c3 p3 p4 : Nat} {Q : Exit → Act → World → Prop} {a : Act} {V W : World} {o : Oper}
theorem known_op0 (o4 : a.eval (.tmp 4) = .int .i64 0) (ho : knownReg[0]? = some o) (_hB : Ext V W) (_haft : ∀ j, (o.after.any fun e => decide (e.on = j) && Region.binds .any e) = true → knownS B1 c1 B3 c3 j (a.eval (.tmp (knownD j))) W) : knownOk B1 c1 B3 c3 Q a W 0 o := by
  have hop := op_at ho (·.op) (x := .move (.tmp 4)) (by kernel_rfl)
  have hgd := op_at ho (·.guard) (x := none) (by kernel_rfl)
  refine ⟨fun j b h => (by rw [hgd] at h; cases h), ?_⟩
  exact specs_value (R := knownS B1 c1 B3 c3 0) (v := .int .i64 0) (by simp [execOp, hop, go_sem, ev o4]) rfl (Ext.refl W)
theorem known_op1 (ho : knownReg[1]? = some o) (_hB : Ext V W) (haft : ∀ j, (o.after.any fun e => decide (e.on = j) && Region.binds .any e) = true → knownS B1 c1 B3 c3 j (a.eval (.tmp (knownD j))) W) : knownOk B1 c1 B3 c3 Q a W 1 o := by
  have hop := op_at ho (·.op) (x := .binOp .eql 30 (.tmp 75) (.const (.int .i64 0)) 30) (by kernel_rfl)
  have hgd := op_at ho (·.guard) (x := none) (by kernel_rfl)
  have e0 : a.eval (.tmp 75) = .int .i64 0 := haft 0 (op_at ho (fun o => o.after.any fun e => decide (e.on = 0) && Region.binds .any e) (x := true) (by kernel_rfl))
  refine ⟨fun j b h => (by rw [hgd] at h; cases h), ?_⟩
  exact specs_value (R := knownS B1 c1 B3 c3 1) (v := .bool true) (by simp [execOp, hop, go_sem, ev e0]) rfl (Ext.refl W)
theorem known_op2 (ho : knownReg[2]? = some o) (_hB : Ext V W) (haft : ∀ j, (o.after.any fun e => decide (e.on = j) && Region.binds .any e) = true → knownS B1 c1 B3 c3 j (a.eval (.tmp (knownD j))) W) : knownOk B1 c1 B3 c3 Q a W 2 o := by
  have hop := op_at ho (·.op) (x := .move (.tmp 76)) (by kernel_rfl)
  have hgd := op_at ho (·.guard) (x := none) (by kernel_rfl)
  have e1 : a.eval (.tmp 76) = .bool true := haft 1 (op_at ho (fun o => o.after.any fun e => decide (e.on = 1) && Region.binds .any e) (x := true) (by kernel_rfl))
  refine ⟨fun j b h => (by rw [hgd] at h; cases h), ?_⟩
  exact specs_value (R := knownS B1 c1 B3 c3 2) (v := .bool true) (by simp [execOp, hop, go_sem, ev e1]) rfl (Ext.refl W)
theorem known_op3 (o6 : a.eval (.tmp 6) = .int .i64 0) (ho : knownReg[3]? = some o) (_hB : Ext V W) (haft : ∀ j, (o.after.any fun e => decide (e.on = j) && Region.binds .any e) = true → knownS B1 c1 B3 c3 j (a.eval (.tmp (knownD j))) W) : knownOk B1 c1 B3 c3 Q a W 3 o := by
  have hop := op_at ho (·.op) (x := .move (.tmp 6)) (by kernel_rfl)
  have hgd := op_at ho (·.guard) (x := some (2, true)) (by kernel_rfl)
  have e2 : a.eval (.tmp 77) = .bool true := haft 2 (op_at ho (fun o => o.after.any fun e => decide (e.on = 2) && Region.binds .any e) (x := true) (by kernel_rfl))
  refine ⟨fun j b h => (by rw [hgd] at h; cases h; exact e2), ?_⟩
  exact specs_value (R := knownS B1 c1 B3 c3 3) (v := .int .i64 0) (by simp [execOp, hop, go_sem, ev o6]) rfl (Ext.refl W)
theorem known_op4 (ho : knownReg[4]? = some o) (_hB : Ext V W) (haft : ∀ j, (o.after.any fun e => decide (e.on = j) && Region.binds .any e) = true → knownS B1 c1 B3 c3 j (a.eval (.tmp (knownD j))) W) : knownOk B1 c1 B3 c3 Q a W 4 o := by
  have hop := op_at ho (·.op) (x := .binOp .eql 30 (.tmp 78) (.const (.int .i64 0)) 30) (by kernel_rfl)
  have hgd := op_at ho (·.guard) (x := some (2, true)) (by kernel_rfl)
  have e3 : a.eval (.tmp 78) = .int .i64 0 := haft 3 (op_at ho (fun o => o.after.any fun e => decide (e.on = 3) && Region.binds .any e) (x := true) (by kernel_rfl))
  have e2 : a.eval (.tmp 77) = .bool true := haft 2 (op_at ho (fun o => o.after.any fun e => decide (e.on = 2) && Region.binds .any e) (x := true) (by kernel_rfl))
  refine ⟨fun j b h => (by rw [hgd] at h; cases h; exact e2), ?_⟩
  exact specs_value (R := knownS B1 c1 B3 c3 4) (v := .bool true) (by simp [execOp, hop, go_sem, ev e3]) rfl (Ext.refl W)
theorem known_op5 (ho : knownReg[5]? = some o) (_hB : Ext V W) (haft : ∀ j, (o.after.any fun e => decide (e.on = j) && Region.binds .any e) = true → knownS B1 c1 B3 c3 j (a.eval (.tmp (knownD j))) W) : knownOk B1 c1 B3 c3 Q a W 5 o := by
  have hop := op_at ho (·.op) (x := .pick (.tmp 77) (.tmp 79) (.const (.bool false))) (by kernel_rfl)
  have hgd := op_at ho (·.guard) (x := none) (by kernel_rfl)
  have e2 : a.eval (.tmp 77) = .bool true := haft 2 (op_at ho (fun o => o.after.any fun e => decide (e.on = 2) && Region.binds .any e) (x := true) (by kernel_rfl))
  have e4 : a.eval (.tmp 79) = .bool true := haft 4 (op_at ho (fun o => o.after.any fun e => decide (e.on = 4) && Region.binds .any e) (x := true) (by kernel_rfl))
  refine ⟨fun j b h => (by rw [hgd] at h; cases h), ?_⟩
  exact specs_value (R := knownS B1 c1 B3 c3 5) (v := .bool true) (by simp [execOp, hop, go_sem, ev e2, ev e4]) rfl (Ext.refl W)
theorem known_op6 (ho : knownReg[6]? = some o) (_hB : Ext V W) (haft : ∀ j, (o.after.any fun e => decide (e.on = j) && Region.binds .any e) = true → knownS B1 c1 B3 c3 j (a.eval (.tmp (knownD j))) W) : knownOk B1 c1 B3 c3 Q a W 6 o := by
  have hop := op_at ho (·.op) (x := .move (.tmp 80)) (by kernel_rfl)
  have hgd := op_at ho (·.guard) (x := none) (by kernel_rfl)
  have e5 : a.eval (.tmp 80) = .bool true := haft 5 (op_at ho (fun o => o.after.any fun e => decide (e.on = 5) && Region.binds .any e) (x := true) (by kernel_rfl))
  refine ⟨fun j b h => (by rw [hgd] at h; cases h), ?_⟩
  exact specs_value (R := knownS B1 c1 B3 c3 6) (v := .bool true) (by simp [execOp, hop, go_sem, ev e5]) rfl (Ext.refl W)
theorem known_op7 (o8 : a.eval (.tmp 8) = .int .i64 0) (ho : knownReg[7]? = some o) (_hB : Ext V W) (haft : ∀ j, (o.after.any fun e => decide (e.on = j) && Region.binds .any e) = true → knownS B1 c1 B3 c3 j (a.eval (.tmp (knownD j))) W) : knownOk B1 c1 B3 c3 Q a W 7 o := by
  have hop := op_at ho (·.op) (x := .move (.tmp 8)) (by kernel_rfl)
  have hgd := op_at ho (·.guard) (x := some (6, true)) (by kernel_rfl)
  have e6 : a.eval (.tmp 81) = .bool true := haft 6 (op_at ho (fun o => o.after.any fun e => decide (e.on = 6) && Region.binds .any e) (x := true) (by kernel_rfl))
  refine ⟨fun j b h => (by rw [hgd] at h; cases h; exact e6), ?_⟩
  exact specs_value (R := knownS B1 c1 B3 c3 7) (v := .int .i64 0) (by simp [execOp, hop, go_sem, ev o8]) rfl (Ext.refl W)
theorem known_op8 (ho : knownReg[8]? = some o) (_hB : Ext V W) (haft : ∀ j, (o.after.any fun e => decide (e.on = j) && Region.binds .any e) = true → knownS B1 c1 B3 c3 j (a.eval (.tmp (knownD j))) W) : knownOk B1 c1 B3 c3 Q a W 8 o := by
  have hop := op_at ho (·.op) (x := .binOp .eql 30 (.tmp 82) (.const (.int .i64 0)) 30) (by kernel_rfl)
  have hgd := op_at ho (·.guard) (x := some (6, true)) (by kernel_rfl)
  have e7 : a.eval (.tmp 82) = .int .i64 0 := haft 7 (op_at ho (fun o => o.after.any fun e => decide (e.on = 7) && Region.binds .any e) (x := true) (by kernel_rfl))
  have e6 : a.eval (.tmp 81) = .bool true := haft 6 (op_at ho (fun o => o.after.any fun e => decide (e.on = 6) && Region.binds .any e) (x := true) (by kernel_rfl))
  refine ⟨fun j b h => (by rw [hgd] at h; cases h; exact e6), ?_⟩
  exact specs_value (R := knownS B1 c1 B3 c3 8) (v := .bool true) (by simp [execOp, hop, go_sem, ev e7]) rfl (Ext.refl W)
theorem known_op9 (ho : knownReg[9]? = some o) (_hB : Ext V W) (haft : ∀ j, (o.after.any fun e => decide (e.on = j) && Region.binds .any e) = true → knownS B1 c1 B3 c3 j (a.eval (.tmp (knownD j))) W) : knownOk B1 c1 B3 c3 Q a W 9 o := by
  have hop := op_at ho (·.op) (x := .pick (.tmp 81) (.tmp 83) (.const (.bool false))) (by kernel_rfl)
  have hgd := op_at ho (·.guard) (x := none) (by kernel_rfl)
  have e6 : a.eval (.tmp 81) = .bool true := haft 6 (op_at ho (fun o => o.after.any fun e => decide (e.on = 6) && Region.binds .any e) (x := true) (by kernel_rfl))
  have e8 : a.eval (.tmp 83) = .bool true := haft 8 (op_at ho (fun o => o.after.any fun e => decide (e.on = 8) && Region.binds .any e) (x := true) (by kernel_rfl))
  refine ⟨fun j b h => (by rw [hgd] at h; cases h), ?_⟩
  exact specs_value (R := knownS B1 c1 B3 c3 9) (v := .bool true) (by simp [execOp, hop, go_sem, ev e6, ev e8]) rfl (Ext.refl W)
theorem known_op10 (ho : knownReg[10]? = some o) (_hB : Ext V W) (haft : ∀ j, (o.after.any fun e => decide (e.on = j) && Region.binds .any e) = true → knownS B1 c1 B3 c3 j (a.eval (.tmp (knownD j))) W) : knownOk B1 c1 B3 c3 Q a W 10 o := by
  have hop := op_at ho (·.op) (x := .move (.tmp 84)) (by kernel_rfl)
  have hgd := op_at ho (·.guard) (x := none) (by kernel_rfl)
  have e9 : a.eval (.tmp 84) = .bool true := haft 9 (op_at ho (fun o => o.after.any fun e => decide (e.on = 9) && Region.binds .any e) (x := true) (by kernel_rfl))
  refine ⟨fun j b h => (by rw [hgd] at h; cases h), ?_⟩
  exact specs_value (R := knownS B1 c1 B3 c3 10) (v := .bool true) (by simp [execOp, hop, go_sem, ev e9]) rfl (Ext.refl W)
theorem known_op11 (o10 : a.eval (.tmp 10) = .int .i64 0) (ho : knownReg[11]? = some o) (_hB : Ext V W) (haft : ∀ j, (o.after.any fun e => decide (e.on = j) && Region.binds .any e) = true → knownS B1 c1 B3 c3 j (a.eval (.tmp (knownD j))) W) : knownOk B1 c1 B3 c3 Q a W 11 o := by
  have hop := op_at ho (·.op) (x := .move (.tmp 10)) (by kernel_rfl)
  have hgd := op_at ho (·.guard) (x := some (10, true)) (by kernel_rfl)
  have e10 : a.eval (.tmp 85) = .bool true := haft 10 (op_at ho (fun o => o.after.any fun e => decide (e.on = 10) && Region.binds .any e) (x := true) (by kernel_rfl))
  refine ⟨fun j b h => (by rw [hgd] at h; cases h; exact e10), ?_⟩
  exact specs_value (R := knownS B1 c1 B3 c3 11) (v := .int .i64 0) (by simp [execOp, hop, go_sem, ev o10]) rfl (Ext.refl W)
theorem known_op12 (ho : knownReg[12]? = some o) (_hB : Ext V W) (haft : ∀ j, (o.after.any fun e => decide (e.on = j) && Region.binds .any e) = true → knownS B1 c1 B3 c3 j (a.eval (.tmp (knownD j))) W) : knownOk B1 c1 B3 c3 Q a W 12 o := by
  have hop := op_at ho (·.op) (x := .binOp .eql 30 (.tmp 86) (.const (.int .i64 0)) 30) (by kernel_rfl)
  have hgd := op_at ho (·.guard) (x := some (10, true)) (by kernel_rfl)
  have e11 : a.eval (.tmp 86) = .int .i64 0 := haft 11 (op_at ho (fun o => o.after.any fun e => decide (e.on = 11) && Region.binds .any e) (x := true) (by kernel_rfl))
  have e10 : a.eval (.tmp 85) = .bool true := haft 10 (op_at ho (fun o => o.after.any fun e => decide (e.on = 10) && Region.binds .any e) (x := true) (by kernel_rfl))
  refine ⟨fun j b h => (by rw [hgd] at h; cases h; exact e10), ?_⟩
  exact specs_value (R := knownS B1 c1 B3 c3 12) (v := .bool true) (by simp [execOp, hop, go_sem, ev e11]) rfl (Ext.refl W)
theorem known_op13 (ho : knownReg[13]? = some o) (_hB : Ext V W) (haft : ∀ j, (o.after.any fun e => decide (e.on = j) && Region.binds .any e) = true → knownS B1 c1 B3 c3 j (a.eval (.tmp (knownD j))) W) : knownOk B1 c1 B3 c3 Q a W 13 o := by
  have hop := op_at ho (·.op) (x := .pick (.tmp 85) (.tmp 87) (.const (.bool false))) (by kernel_rfl)
  have hgd := op_at ho (·.guard) (x := none) (by kernel_rfl)
  have e10 : a.eval (.tmp 85) = .bool true := haft 10 (op_at ho (fun o => o.after.any fun e => decide (e.on = 10) && Region.binds .any e) (x := true) (by kernel_rfl))
  have e12 : a.eval (.tmp 87) = .bool true := haft 12 (op_at ho (fun o => o.after.any fun e => decide (e.on = 12) && Region.binds .any e) (x := true) (by kernel_rfl))
  refine ⟨fun j b h => (by rw [hgd] at h; cases h), ?_⟩
  exact specs_value (R := knownS B1 c1 B3 c3 13) (v := .bool true) (by simp [execOp, hop, go_sem, ev e10, ev e12]) rfl (Ext.refl W)
theorem known_op14 (ho : knownReg[14]? = some o) (_hB : Ext V W) (haft : ∀ j, (o.after.any fun e => decide (e.on = j) && Region.binds .any e) = true → knownS B1 c1 B3 c3 j (a.eval (.tmp (knownD j))) W) : knownOk B1 c1 B3 c3 Q a W 14 o := by
  have hop := op_at ho (·.op) (x := .move (.tmp 88)) (by kernel_rfl)
  have hgd := op_at ho (·.guard) (x := none) (by kernel_rfl)
  have e13 : a.eval (.tmp 88) = .bool true := haft 13 (op_at ho (fun o => o.after.any fun e => decide (e.on = 13) && Region.binds .any e) (x := true) (by kernel_rfl))
  refine ⟨fun j b h => (by rw [hgd] at h; cases h), ?_⟩
  exact specs_value (R := knownS B1 c1 B3 c3 14) (v := .bool true) (by simp [execOp, hop, go_sem, ev e13]) rfl (Ext.refl W)
theorem known_op15 (o12 : a.eval (.tmp 12) = .int .i64 0) (ho : knownReg[15]? = some o) (_hB : Ext V W) (haft : ∀ j, (o.after.any fun e => decide (e.on = j) && Region.binds .any e) = true → knownS B1 c1 B3 c3 j (a.eval (.tmp (knownD j))) W) : knownOk B1 c1 B3 c3 Q a W 15 o := by
  have hop := op_at ho (·.op) (x := .move (.tmp 12)) (by kernel_rfl)
  have hgd := op_at ho (·.guard) (x := some (14, true)) (by kernel_rfl)
  have e14 : a.eval (.tmp 89) = .bool true := haft 14 (op_at ho (fun o => o.after.any fun e => decide (e.on = 14) && Region.binds .any e) (x := true) (by kernel_rfl))
  refine ⟨fun j b h => (by rw [hgd] at h; cases h; exact e14), ?_⟩
  exact specs_value (R := knownS B1 c1 B3 c3 15) (v := .int .i64 0) (by simp [execOp, hop, go_sem, ev o12]) rfl (Ext.refl W)
theorem known_op16 (ho : knownReg[16]? = some o) (_hB : Ext V W) (haft : ∀ j, (o.after.any fun e => decide (e.on = j) && Region.binds .any e) = true → knownS B1 c1 B3 c3 j (a.eval (.tmp (knownD j))) W) : knownOk B1 c1 B3 c3 Q a W 16 o := by
  have hop := op_at ho (·.op) (x := .binOp .eql 30 (.tmp 90) (.const (.int .i64 0)) 30) (by kernel_rfl)
  have hgd := op_at ho (·.guard) (x := some (14, true)) (by kernel_rfl)
  have e15 : a.eval (.tmp 90) = .int .i64 0 := haft 15 (op_at ho (fun o => o.after.any fun e => decide (e.on = 15) && Region.binds .any e) (x := true) (by kernel_rfl))
  have e14 : a.eval (.tmp 89) = .bool true := haft 14 (op_at ho (fun o => o.after.any fun e => decide (e.on = 14) && Region.binds .any e) (x := true) (by kernel_rfl))
  refine ⟨fun j b h => (by rw [hgd] at h; cases h; exact e14), ?_⟩
  exact specs_value (R := knownS B1 c1 B3 c3 16) (v := .bool true) (by simp [execOp, hop, go_sem, ev e15]) rfl (Ext.refl W)
theorem known_op17 (ho : knownReg[17]? = some o) (_hB : Ext V W) (haft : ∀ j, (o.after.any fun e => decide (e.on = j) && Region.binds .any e) = true → knownS B1 c1 B3 c3 j (a.eval (.tmp (knownD j))) W) : knownOk B1 c1 B3 c3 Q a W 17 o := by
  have hop := op_at ho (·.op) (x := .pick (.tmp 89) (.tmp 91) (.const (.bool false))) (by kernel_rfl)
  have hgd := op_at ho (·.guard) (x := none) (by kernel_rfl)
  have e14 : a.eval (.tmp 89) = .bool true := haft 14 (op_at ho (fun o => o.after.any fun e => decide (e.on = 14) && Region.binds .any e) (x := true) (by kernel_rfl))
  have e16 : a.eval (.tmp 91) = .bool true := haft 16 (op_at ho (fun o => o.after.any fun e => decide (e.on = 16) && Region.binds .any e) (x := true) (by kernel_rfl))
  refine ⟨fun j b h => (by rw [hgd] at h; cases h), ?_⟩
  exact specs_value (R := knownS B1 c1 B3 c3 17) (v := .bool true) (by simp [execOp, hop, go_sem, ev e14, ev e16]) rfl (Ext.refl W)
theorem known_op18 (ho : knownReg[18]? = some o) (_hB : Ext V W) (haft : ∀ j, (o.after.any fun e => decide (e.on = j) && Region.binds .any e) = true → knownS B1 c1 B3 c3 j (a.eval (.tmp (knownD j))) W) : knownOk B1 c1 B3 c3 Q a W 18 o := by
  have hop := op_at ho (·.op) (x := .move (.tmp 92)) (by kernel_rfl)
  have hgd := op_at ho (·.guard) (x := none) (by kernel_rfl)
  have e17 : a.eval (.tmp 92) = .bool true := haft 17 (op_at ho (fun o => o.after.any fun e => decide (e.on = 17) && Region.binds .any e) (x := true) (by kernel_rfl))
  refine ⟨fun j b h => (by rw [hgd] at h; cases h), ?_⟩
  exact specs_value (R := knownS B1 c1 B3 c3 18) (v := .bool true) (by simp [execOp, hop, go_sem, ev e17]) rfl (Ext.refl W)
theorem known_op19 (o14 : a.eval (.tmp 14) = .int .i64 0) (ho : knownReg[19]? = some o) (_hB : Ext V W) (haft : ∀ j, (o.after.any fun e => decide (e.on = j) && Region.binds .any e) = true → knownS B1 c1 B3 c3 j (a.eval (.tmp (knownD j))) W) : knownOk B1 c1 B3 c3 Q a W 19 o := by
  have hop := op_at ho (·.op) (x := .move (.tmp 14)) (by kernel_rfl)
  have hgd := op_at ho (·.guard) (x := some (18, true)) (by kernel_rfl)
  have e18 : a.eval (.tmp 93) = .bool true := haft 18 (op_at ho (fun o => o.after.any fun e => decide (e.on = 18) && Region.binds .any e) (x := true) (by kernel_rfl))
  refine ⟨fun j b h => (by rw [hgd] at h; cases h; exact e18), ?_⟩
  exact specs_value (R := knownS B1 c1 B3 c3 19) (v := .int .i64 0) (by simp [execOp, hop, go_sem, ev o14]) rfl (Ext.refl W)
theorem known_op20 (ho : knownReg[20]? = some o) (_hB : Ext V W) (haft : ∀ j, (o.after.any fun e => decide (e.on = j) && Region.binds .any e) = true → knownS B1 c1 B3 c3 j (a.eval (.tmp (knownD j))) W) : knownOk B1 c1 B3 c3 Q a W 20 o := by
  have hop := op_at ho (·.op) (x := .binOp .eql 30 (.tmp 94) (.const (.int .i64 0)) 30) (by kernel_rfl)
  have hgd := op_at ho (·.guard) (x := some (18, true)) (by kernel_rfl)
  have e19 : a.eval (.tmp 94) = .int .i64 0 := haft 19 (op_at ho (fun o => o.after.any fun e => decide (e.on = 19) && Region.binds .any e) (x := true) (by kernel_rfl))
  have e18 : a.eval (.tmp 93) = .bool true := haft 18 (op_at ho (fun o => o.after.any fun e => decide (e.on = 18) && Region.binds .any e) (x := true) (by kernel_rfl))
  refine ⟨fun j b h => (by rw [hgd] at h; cases h; exact e18), ?_⟩
  exact specs_value (R := knownS B1 c1 B3 c3 20) (v := .bool true) (by simp [execOp, hop, go_sem, ev e19]) rfl (Ext.refl W)
theorem known_op21 (ho : knownReg[21]? = some o) (_hB : Ext V W) (haft : ∀ j, (o.after.any fun e => decide (e.on = j) && Region.binds .any e) = true → knownS B1 c1 B3 c3 j (a.eval (.tmp (knownD j))) W) : knownOk B1 c1 B3 c3 Q a W 21 o := by
  have hop := op_at ho (·.op) (x := .pick (.tmp 93) (.tmp 95) (.const (.bool false))) (by kernel_rfl)
  have hgd := op_at ho (·.guard) (x := none) (by kernel_rfl)
  have e18 : a.eval (.tmp 93) = .bool true := haft 18 (op_at ho (fun o => o.after.any fun e => decide (e.on = 18) && Region.binds .any e) (x := true) (by kernel_rfl))
  have e20 : a.eval (.tmp 95) = .bool true := haft 20 (op_at ho (fun o => o.after.any fun e => decide (e.on = 20) && Region.binds .any e) (x := true) (by kernel_rfl))
  refine ⟨fun j b h => (by rw [hgd] at h; cases h), ?_⟩
  exact specs_value (R := knownS B1 c1 B3 c3 21) (v := .bool true) (by simp [execOp, hop, go_sem, ev e18, ev e20]) rfl (Ext.refl W)
theorem known_op22 (ho : knownReg[22]? = some o) (_hB : Ext V W) (haft : ∀ j, (o.after.any fun e => decide (e.on = j) && Region.binds .any e) = true → knownS B1 c1 B3 c3 j (a.eval (.tmp (knownD j))) W) : knownOk B1 c1 B3 c3 Q a W 22 o := by
  have hop := op_at ho (·.op) (x := .move (.tmp 96)) (by kernel_rfl)
  have hgd := op_at ho (·.guard) (x := none) (by kernel_rfl)
  have e21 : a.eval (.tmp 96) = .bool true := haft 21 (op_at ho (fun o => o.after.any fun e => decide (e.on = 21) && Region.binds .any e) (x := true) (by kernel_rfl))
  refine ⟨fun j b h => (by rw [hgd] at h; cases h), ?_⟩
  exact specs_value (R := knownS B1 c1 B3 c3 22) (v := .bool true) (by simp [execOp, hop, go_sem, ev e21]) rfl (Ext.refl W)
theorem known_op23 (o16 : a.eval (.tmp 16) = .int .i64 0) (ho : knownReg[23]? = some o) (_hB : Ext V W) (haft : ∀ j, (o.after.any fun e => decide (e.on = j) && Region.binds .any e) = true → knownS B1 c1 B3 c3 j (a.eval (.tmp (knownD j))) W) : knownOk B1 c1 B3 c3 Q a W 23 o := by
  have hop := op_at ho (·.op) (x := .move (.tmp 16)) (by kernel_rfl)
  have hgd := op_at ho (·.guard) (x := some (22, true)) (by kernel_rfl)
  have e22 : a.eval (.tmp 97) = .bool true := haft 22 (op_at ho (fun o => o.after.any fun e => decide (e.on = 22) && Region.binds .any e) (x := true) (by kernel_rfl))
  refine ⟨fun j b h => (by rw [hgd] at h; cases h; exact e22), ?_⟩
  exact specs_value (R := knownS B1 c1 B3 c3 23) (v := .int .i64 0) (by simp [execOp, hop, go_sem, ev o16]) rfl (Ext.refl W)
theorem known_op24 (ho : knownReg[24]? = some o) (_hB : Ext V W) (haft : ∀ j, (o.after.any fun e => decide (e.on = j) && Region.binds .any e) = true → knownS B1 c1 B3 c3 j (a.eval (.tmp (knownD j))) W) : knownOk B1 c1 B3 c3 Q a W 24 o := by
  have hop := op_at ho (·.op) (x := .binOp .eql 30 (.tmp 98) (.const (.int .i64 0)) 30) (by kernel_rfl)
  have hgd := op_at ho (·.guard) (x := some (22, true)) (by kernel_rfl)
  have e23 : a.eval (.tmp 98) = .int .i64 0 := haft 23 (op_at ho (fun o => o.after.any fun e => decide (e.on = 23) && Region.binds .any e) (x := true) (by kernel_rfl))
  have e22 : a.eval (.tmp 97) = .bool true := haft 22 (op_at ho (fun o => o.after.any fun e => decide (e.on = 22) && Region.binds .any e) (x := true) (by kernel_rfl))
  refine ⟨fun j b h => (by rw [hgd] at h; cases h; exact e22), ?_⟩
  exact specs_value (R := knownS B1 c1 B3 c3 24) (v := .bool true) (by simp [execOp, hop, go_sem, ev e23]) rfl (Ext.refl W)
theorem known_op25 (ho : knownReg[25]? = some o) (_hB : Ext V W) (haft : ∀ j, (o.after.any fun e => decide (e.on = j) && Region.binds .any e) = true → knownS B1 c1 B3 c3 j (a.eval (.tmp (knownD j))) W) : knownOk B1 c1 B3 c3 Q a W 25 o := by
  have hop := op_at ho (·.op) (x := .pick (.tmp 97) (.tmp 99) (.const (.bool false))) (by kernel_rfl)
  have hgd := op_at ho (·.guard) (x := none) (by kernel_rfl)
  have e22 : a.eval (.tmp 97) = .bool true := haft 22 (op_at ho (fun o => o.after.any fun e => decide (e.on = 22) && Region.binds .any e) (x := true) (by kernel_rfl))
  have e24 : a.eval (.tmp 99) = .bool true := haft 24 (op_at ho (fun o => o.after.any fun e => decide (e.on = 24) && Region.binds .any e) (x := true) (by kernel_rfl))
  refine ⟨fun j b h => (by rw [hgd] at h; cases h), ?_⟩
  exact specs_value (R := knownS B1 c1 B3 c3 25) (v := .bool true) (by simp [execOp, hop, go_sem, ev e22, ev e24]) rfl (Ext.refl W)
theorem known_op26 (ho : knownReg[26]? = some o) (_hB : Ext V W) (haft : ∀ j, (o.after.any fun e => decide (e.on = j) && Region.binds .any e) = true → knownS B1 c1 B3 c3 j (a.eval (.tmp (knownD j))) W) : knownOk B1 c1 B3 c3 Q a W 26 o := by
  have hop := op_at ho (·.op) (x := .move (.tmp 100)) (by kernel_rfl)
  have hgd := op_at ho (·.guard) (x := none) (by kernel_rfl)
  have e25 : a.eval (.tmp 100) = .bool true := haft 25 (op_at ho (fun o => o.after.any fun e => decide (e.on = 25) && Region.binds .any e) (x := true) (by kernel_rfl))
  refine ⟨fun j b h => (by rw [hgd] at h; cases h), ?_⟩
  exact specs_value (R := knownS B1 c1 B3 c3 26) (v := .bool true) (by simp [execOp, hop, go_sem, ev e25]) rfl (Ext.refl W)
theorem known_op27 (o18 : a.eval (.tmp 18) = .int .i64 0) (ho : knownReg[27]? = some o) (_hB : Ext V W) (haft : ∀ j, (o.after.any fun e => decide (e.on = j) && Region.binds .any e) = true → knownS B1 c1 B3 c3 j (a.eval (.tmp (knownD j))) W) : knownOk B1 c1 B3 c3 Q a W 27 o := by
  have hop := op_at ho (·.op) (x := .move (.tmp 18)) (by kernel_rfl)
  have hgd := op_at ho (·.guard) (x := some (26, true)) (by kernel_rfl)
  have e26 : a.eval (.tmp 101) = .bool true := haft 26 (op_at ho (fun o => o.after.any fun e => decide (e.on = 26) && Region.binds .any e) (x := true) (by kernel_rfl))
  refine ⟨fun j b h => (by rw [hgd] at h; cases h; exact e26), ?_⟩
  exact specs_value (R := knownS B1 c1 B3 c3 27) (v := .int .i64 0) (by simp [execOp, hop, go_sem, ev o18]) rfl (Ext.refl W)
theorem known_op28 (ho : knownReg[28]? = some o) (_hB : Ext V W) (haft : ∀ j, (o.after.any fun e => decide (e.on = j) && Region.binds .any e) = true → knownS B1 c1 B3 c3 j (a.eval (.tmp (knownD j))) W) : knownOk B1 c1 B3 c3 Q a W 28 o := by
  have hop := op_at ho (·.op) (x := .binOp .eql 30 (.tmp 102) (.const (.int .i64 0)) 30) (by kernel_rfl)
  have hgd := op_at ho (·.guard) (x := some (26, true)) (by kernel_rfl)
  have e27 : a.eval (.tmp 102) = .int .i64 0 := haft 27 (op_at ho (fun o => o.after.any fun e => decide (e.on = 27) && Region.binds .any e) (x := true) (by kernel_rfl))
  have e26 : a.eval (.tmp 101) = .bool true := haft 26 (op_at ho (fun o => o.after.any fun e => decide (e.on = 26) && Region.binds .any e) (x := true) (by kernel_rfl))
  refine ⟨fun j b h => (by rw [hgd] at h; cases h; exact e26), ?_⟩
  exact specs_value (R := knownS B1 c1 B3 c3 28) (v := .bool true) (by simp [execOp, hop, go_sem, ev e27]) rfl (Ext.refl W)
theorem known_op29 (ho : knownReg[29]? = some o) (_hB : Ext V W) (haft : ∀ j, (o.after.any fun e => decide (e.on = j) && Region.binds .any e) = true → knownS B1 c1 B3 c3 j (a.eval (.tmp (knownD j))) W) : knownOk B1 c1 B3 c3 Q a W 29 o := by
  have hop := op_at ho (·.op) (x := .pick (.tmp 101) (.tmp 103) (.const (.bool false))) (by kernel_rfl)
  have hgd := op_at ho (·.guard) (x := none) (by kernel_rfl)
  have e26 : a.eval (.tmp 101) = .bool true := haft 26 (op_at ho (fun o => o.after.any fun e => decide (e.on = 26) && Region.binds .any e) (x := true) (by kernel_rfl))
  have e28 : a.eval (.tmp 103) = .bool true := haft 28 (op_at ho (fun o => o.after.any fun e => decide (e.on = 28) && Region.binds .any e) (x := true) (by kernel_rfl))
  refine ⟨fun j b h => (by rw [hgd] at h; cases h), ?_⟩
  exact specs_value (R := knownS B1 c1 B3 c3 29) (v := .bool true) (by simp [execOp, hop, go_sem, ev e26, ev e28]) rfl (Ext.refl W)
theorem known_op30 (ho : knownReg[30]? = some o) (_hB : Ext V W) (haft : ∀ j, (o.after.any fun e => decide (e.on = j) && Region.binds .any e) = true → knownS B1 c1 B3 c3 j (a.eval (.tmp (knownD j))) W) : knownOk B1 c1 B3 c3 Q a W 30 o := by
  have hop := op_at ho (·.op) (x := .move (.tmp 104)) (by kernel_rfl)
  have hgd := op_at ho (·.guard) (x := none) (by kernel_rfl)
  have e29 : a.eval (.tmp 104) = .bool true := haft 29 (op_at ho (fun o => o.after.any fun e => decide (e.on = 29) && Region.binds .any e) (x := true) (by kernel_rfl))
  refine ⟨fun j b h => (by rw [hgd] at h; cases h), ?_⟩
  exact specs_value (R := knownS B1 c1 B3 c3 30) (v := .bool true) (by simp [execOp, hop, go_sem, ev e29]) rfl (Ext.refl W)
theorem known_op31 (o20 : a.eval (.tmp 20) = .int .i64 0) (ho : knownReg[31]? = some o) (_hB : Ext V W) (haft : ∀ j, (o.after.any fun e => decide (e.on = j) && Region.binds .any e) = true → knownS B1 c1 B3 c3 j (a.eval (.tmp (knownD j))) W) : knownOk B1 c1 B3 c3 Q a W 31 o := by
  have hop := op_at ho (·.op) (x := .move (.tmp 20)) (by kernel_rfl)
  have hgd := op_at ho (·.guard) (x := some (30, true)) (by kernel_rfl)
  have e30 : a.eval (.tmp 105) = .bool true := haft 30 (op_at ho (fun o => o.after.any fun e => decide (e.on = 30) && Region.binds .any e) (x := true) (by kernel_rfl))
  refine ⟨fun j b h => (by rw [hgd] at h; cases h; exact e30), ?_⟩
  exact specs_value (R := knownS B1 c1 B3 c3 31) (v := .int .i64 0) (by simp [execOp, hop, go_sem, ev o20]) rfl (Ext.refl W)
theorem known_op32 (ho : knownReg[32]? = some o) (_hB : Ext V W) (haft : ∀ j, (o.after.any fun e => decide (e.on = j) && Region.binds .any e) = true → knownS B1 c1 B3 c3 j (a.eval (.tmp (knownD j))) W) : knownOk B1 c1 B3 c3 Q a W 32 o := by
  have hop := op_at ho (·.op) (x := .binOp .eql 30 (.tmp 106) (.const (.int .i64 0)) 30) (by kernel_rfl)
  have hgd := op_at ho (·.guard) (x := some (30, true)) (by kernel_rfl)
  have e31 : a.eval (.tmp 106) = .int .i64 0 := haft 31 (op_at ho (fun o => o.after.any fun e => decide (e.on = 31) && Region.binds .any e) (x := true) (by kernel_rfl))
  have e30 : a.eval (.tmp 105) = .bool true := haft 30 (op_at ho (fun o => o.after.any fun e => decide (e.on = 30) && Region.binds .any e) (x := true) (by kernel_rfl))
  refine ⟨fun j b h => (by rw [hgd] at h; cases h; exact e30), ?_⟩
  exact specs_value (R := knownS B1 c1 B3 c3 32) (v := .bool true) (by simp [execOp, hop, go_sem, ev e31]) rfl (Ext.refl W)
theorem known_op33 (ho : knownReg[33]? = some o) (_hB : Ext V W) (haft : ∀ j, (o.after.any fun e => decide (e.on = j) && Region.binds .any e) = true → knownS B1 c1 B3 c3 j (a.eval (.tmp (knownD j))) W) : knownOk B1 c1 B3 c3 Q a W 33 o := by
  have hop := op_at ho (·.op) (x := .pick (.tmp 105) (.tmp 107) (.const (.bool false))) (by kernel_rfl)
  have hgd := op_at ho (·.guard) (x := none) (by kernel_rfl)
  have e30 : a.eval (.tmp 105) = .bool true := haft 30 (op_at ho (fun o => o.after.any fun e => decide (e.on = 30) && Region.binds .any e) (x := true) (by kernel_rfl))
  have e32 : a.eval (.tmp 107) = .bool true := haft 32 (op_at ho (fun o => o.after.any fun e => decide (e.on = 32) && Region.binds .any e) (x := true) (by kernel_rfl))
  refine ⟨fun j b h => (by rw [hgd] at h; cases h), ?_⟩
  exact specs_value (R := knownS B1 c1 B3 c3 33) (v := .bool true) (by simp [execOp, hop, go_sem, ev e30, ev e32]) rfl (Ext.refl W)
theorem known_op34 (ho : knownReg[34]? = some o) (_hB : Ext V W) (haft : ∀ j, (o.after.any fun e => decide (e.on = j) && Region.binds .any e) = true → knownS B1 c1 B3 c3 j (a.eval (.tmp (knownD j))) W) : knownOk B1 c1 B3 c3 Q a W 34 o := by
  have hop := op_at ho (·.op) (x := .move (.tmp 108)) (by kernel_rfl)
  have hgd := op_at ho (·.guard) (x := none) (by kernel_rfl)
  have e33 : a.eval (.tmp 108) = .bool true := haft 33 (op_at ho (fun o => o.after.any fun e => decide (e.on = 33) && Region.binds .any e) (x := true) (by kernel_rfl))
  refine ⟨fun j b h => (by rw [hgd] at h; cases h), ?_⟩
  exact specs_value (R := knownS B1 c1 B3 c3 34) (v := .bool true) (by simp [execOp, hop, go_sem, ev e33]) rfl (Ext.refl W)
theorem known_op35 (o22 : a.eval (.tmp 22) = .int .i64 0) (ho : knownReg[35]? = some o) (_hB : Ext V W) (haft : ∀ j, (o.after.any fun e => decide (e.on = j) && Region.binds .any e) = true → knownS B1 c1 B3 c3 j (a.eval (.tmp (knownD j))) W) : knownOk B1 c1 B3 c3 Q a W 35 o := by
  have hop := op_at ho (·.op) (x := .move (.tmp 22)) (by kernel_rfl)
  have hgd := op_at ho (·.guard) (x := some (34, true)) (by kernel_rfl)
  have e34 : a.eval (.tmp 109) = .bool true := haft 34 (op_at ho (fun o => o.after.any fun e => decide (e.on = 34) && Region.binds .any e) (x := true) (by kernel_rfl))
  refine ⟨fun j b h => (by rw [hgd] at h; cases h; exact e34), ?_⟩
  exact specs_value (R := knownS B1 c1 B3 c3 35) (v := .int .i64 0) (by simp [execOp, hop, go_sem, ev o22]) rfl (Ext.refl W)
theorem known_op36 (ho : knownReg[36]? = some o) (_hB : Ext V W) (haft : ∀ j, (o.after.any fun e => decide (e.on = j) && Region.binds .any e) = true → knownS B1 c1 B3 c3 j (a.eval (.tmp (knownD j))) W) : knownOk B1 c1 B3 c3 Q a W 36 o := by
  have hop := op_at ho (·.op) (x := .binOp .eql 30 (.tmp 110) (.const (.int .i64 0)) 30) (by kernel_rfl)
  have hgd := op_at ho (·.guard) (x := some (34, true)) (by kernel_rfl)
  have e35 : a.eval (.tmp 110) = .int .i64 0 := haft 35 (op_at ho (fun o => o.after.any fun e => decide (e.on = 35) && Region.binds .any e) (x := true) (by kernel_rfl))
  have e34 : a.eval (.tmp 109) = .bool true := haft 34 (op_at ho (fun o => o.after.any fun e => decide (e.on = 34) && Region.binds .any e) (x := true) (by kernel_rfl))
  refine ⟨fun j b h => (by rw [hgd] at h; cases h; exact e34), ?_⟩
  exact specs_value (R := knownS B1 c1 B3 c3 36) (v := .bool true) (by simp [execOp, hop, go_sem, ev e35]) rfl (Ext.refl W)
theorem known_op37 (ho : knownReg[37]? = some o) (_hB : Ext V W) (haft : ∀ j, (o.after.any fun e => decide (e.on = j) && Region.binds .any e) = true → knownS B1 c1 B3 c3 j (a.eval (.tmp (knownD j))) W) : knownOk B1 c1 B3 c3 Q a W 37 o := by
  have hop := op_at ho (·.op) (x := .pick (.tmp 109) (.tmp 111) (.const (.bool false))) (by kernel_rfl)
  have hgd := op_at ho (·.guard) (x := none) (by kernel_rfl)
  have e34 : a.eval (.tmp 109) = .bool true := haft 34 (op_at ho (fun o => o.after.any fun e => decide (e.on = 34) && Region.binds .any e) (x := true) (by kernel_rfl))
  have e36 : a.eval (.tmp 111) = .bool true := haft 36 (op_at ho (fun o => o.after.any fun e => decide (e.on = 36) && Region.binds .any e) (x := true) (by kernel_rfl))
  refine ⟨fun j b h => (by rw [hgd] at h; cases h), ?_⟩
  exact specs_value (R := knownS B1 c1 B3 c3 37) (v := .bool true) (by simp [execOp, hop, go_sem, ev e34, ev e36]) rfl (Ext.refl W)
theorem known_op38 (ho : knownReg[38]? = some o) (_hB : Ext V W) (haft : ∀ j, (o.after.any fun e => decide (e.on = j) && Region.binds .any e) = true → knownS B1 c1 B3 c3 j (a.eval (.tmp (knownD j))) W) : knownOk B1 c1 B3 c3 Q a W 38 o := by
  have hop := op_at ho (·.op) (x := .move (.tmp 112)) (by kernel_rfl)
  have hgd := op_at ho (·.guard) (x := none) (by kernel_rfl)
  have e37 : a.eval (.tmp 112) = .bool true := haft 37 (op_at ho (fun o => o.after.any fun e => decide (e.on = 37) && Region.binds .any e) (x := true) (by kernel_rfl))
  refine ⟨fun j b h => (by rw [hgd] at h; cases h), ?_⟩
  exact specs_value (R := knownS B1 c1 B3 c3 38) (v := .bool true) (by simp [execOp, hop, go_sem, ev e37]) rfl (Ext.refl W)
theorem known_op39 (o3 : a.eval (.tmp 3) = .pointer (some ⟨p3, 0, none⟩)) (r_p3 : V.heap[p3]? = some (.cells #[.int .i64 0, .int .i64 0] 29 (0, 0))) (ho : knownReg[39]? = some o) (hB : Ext V W) (haft : ∀ j, (o.after.any fun e => decide (e.on = j) && Region.binds .any e) = true → knownS B1 c1 B3 c3 j (a.eval (.tmp (knownD j))) W) : knownOk B1 c1 B3 c3 Q a W 39 o := by
  have hop := op_at ho (·.op) (x := .load 29 (.tmp 3)) (by kernel_rfl)
  have hgd := op_at ho (·.guard) (x := some (38, true)) (by kernel_rfl)
  have e38 : a.eval (.tmp 113) = .bool true := haft 38 (op_at ho (fun o => o.after.any fun e => decide (e.on = 38) && Region.binds .any e) (x := true) (by kernel_rfl))
  refine ⟨fun j b h => (by rw [hgd] at h; cases h; exact e38), ?_⟩
  have hl0 : W.cell? ⟨p3, 0, none⟩ = some (.int .i64 0) := cell_of_row _ _ 0 _ _ _ (row_ext r_p3 hB)
  have hl1 : W.cell? ⟨p3, 1, none⟩ = some (.int .i64 0) := cell_of_row _ _ 1 _ _ _ (row_ext r_p3 hB)
  exact specs_value (R := knownS B1 c1 B3 c3 39) (v := .agg #[.int .i64 0, .int .i64 0]) (by simp [execOp, hop, go_sem, ev o3, hl0, hl1]) rfl (Ext.refl W)
theorem known_op40 (ho : knownReg[40]? = some o) (_hB : Ext V W) (haft : ∀ j, (o.after.any fun e => decide (e.on = j) && Region.binds .any e) = true → knownS B1 c1 B3 c3 j (a.eval (.tmp (knownD j))) W) : knownOk B1 c1 B3 c3 Q a W 40 o := by
  have hop := op_at ho (·.op) (x := .call { callee := .value (.func 57), args := #[.const (.int .i64 0), .const (.int .i64 0)], argTypes := #[2, 2] }) (by kernel_rfl)
  have hgd := op_at ho (·.guard) (x := some (38, true)) (by kernel_rfl)
  have e38 : a.eval (.tmp 113) = .bool true := haft 38 (op_at ho (fun o => o.after.any fun e => decide (e.on = 38) && Region.binds .any e) (x := true) (by kernel_rfl))
  refine ⟨fun j b h => (by rw [hgd] at h; cases h; exact e38), ?_⟩
  exact specs_call (R := knownS B1 c1 B3 c3 40) (f := 57) (args := #[.int .i64 0, .int .i64 0]) (by simp [execOp, hop, go_sem]) ((rg_any 0 0 W).mono fun e w' h => ⟨_, h.1, rfl, h.2⟩)
theorem known_op41 (ho : knownReg[41]? = some o) (_hB : Ext V W) (haft : ∀ j, (o.after.any fun e => decide (e.on = j) && Region.binds .any e) = true → knownS B1 c1 B3 c3 j (a.eval (.tmp (knownD j))) W) : knownOk B1 c1 B3 c3 Q a W 41 o := by
  have hop := op_at ho (·.op) (x := .binOp .eql 29 (.tmp 114) (.tmp 115) 29) (by kernel_rfl)
  have hgd := op_at ho (·.guard) (x := some (38, true)) (by kernel_rfl)
  have e39 : a.eval (.tmp 114) = .agg #[.int .i64 0, .int .i64 0] := haft 39 (op_at ho (fun o => o.after.any fun e => decide (e.on = 39) && Region.binds .any e) (x := true) (by kernel_rfl))
  have e40 : a.eval (.tmp 115) = .agg #[.int .i64 0, .int .i64 0] := haft 40 (op_at ho (fun o => o.after.any fun e => decide (e.on = 40) && Region.binds .any e) (x := true) (by kernel_rfl))
  have e38 : a.eval (.tmp 113) = .bool true := haft 38 (op_at ho (fun o => o.after.any fun e => decide (e.on = 38) && Region.binds .any e) (x := true) (by kernel_rfl))
  refine ⟨fun j b h => (by rw [hgd] at h; cases h; exact e38), ?_⟩
  exact specs_value (R := knownS B1 c1 B3 c3 41) (v := .bool true) (by simp [execOp, hop, go_sem, ev e39, ev e40]) rfl (Ext.refl W)
theorem known_op42 (ho : knownReg[42]? = some o) (_hB : Ext V W) (haft : ∀ j, (o.after.any fun e => decide (e.on = j) && Region.binds .any e) = true → knownS B1 c1 B3 c3 j (a.eval (.tmp (knownD j))) W) : knownOk B1 c1 B3 c3 Q a W 42 o := by
  have hop := op_at ho (·.op) (x := .pick (.tmp 113) (.tmp 116) (.const (.bool false))) (by kernel_rfl)
  have hgd := op_at ho (·.guard) (x := none) (by kernel_rfl)
  have e38 : a.eval (.tmp 113) = .bool true := haft 38 (op_at ho (fun o => o.after.any fun e => decide (e.on = 38) && Region.binds .any e) (x := true) (by kernel_rfl))
  have e41 : a.eval (.tmp 116) = .bool true := haft 41 (op_at ho (fun o => o.after.any fun e => decide (e.on = 41) && Region.binds .any e) (x := true) (by kernel_rfl))
  refine ⟨fun j b h => (by rw [hgd] at h; cases h), ?_⟩
  exact specs_value (R := knownS B1 c1 B3 c3 42) (v := .bool true) (by simp [execOp, hop, go_sem, ev e38, ev e41]) rfl (Ext.refl W)
theorem known_op43 (ho : knownReg[43]? = some o) (_hB : Ext V W) (haft : ∀ j, (o.after.any fun e => decide (e.on = j) && Region.binds .any e) = true → knownS B1 c1 B3 c3 j (a.eval (.tmp (knownD j))) W) : knownOk B1 c1 B3 c3 Q a W 43 o := by
  have hop := op_at ho (·.op) (x := .move (.tmp 117)) (by kernel_rfl)
  have hgd := op_at ho (·.guard) (x := none) (by kernel_rfl)
  have e42 : a.eval (.tmp 117) = .bool true := haft 42 (op_at ho (fun o => o.after.any fun e => decide (e.on = 42) && Region.binds .any e) (x := true) (by kernel_rfl))
  refine ⟨fun j b h => (by rw [hgd] at h; cases h), ?_⟩
  exact specs_value (R := knownS B1 c1 B3 c3 43) (v := .bool true) (by simp [execOp, hop, go_sem, ev e42]) rfl (Ext.refl W)
theorem known_op44 (o5 : a.eval (.tmp 5) = .int .i64 1) (ho : knownReg[44]? = some o) (_hB : Ext V W) (haft : ∀ j, (o.after.any fun e => decide (e.on = j) && Region.binds .any e) = true → knownS B1 c1 B3 c3 j (a.eval (.tmp (knownD j))) W) : knownOk B1 c1 B3 c3 Q a W 44 o := by
  have hop := op_at ho (·.op) (x := .move (.tmp 5)) (by kernel_rfl)
  have hgd := op_at ho (·.guard) (x := some (43, true)) (by kernel_rfl)
  have e43 : a.eval (.tmp 118) = .bool true := haft 43 (op_at ho (fun o => o.after.any fun e => decide (e.on = 43) && Region.binds .any e) (x := true) (by kernel_rfl))
  refine ⟨fun j b h => (by rw [hgd] at h; cases h; exact e43), ?_⟩
  exact specs_value (R := knownS B1 c1 B3 c3 44) (v := .int .i64 1) (by simp [execOp, hop, go_sem, ev o5]) rfl (Ext.refl W)
theorem known_op45 (ho : knownReg[45]? = some o) (_hB : Ext V W) (haft : ∀ j, (o.after.any fun e => decide (e.on = j) && Region.binds .any e) = true → knownS B1 c1 B3 c3 j (a.eval (.tmp (knownD j))) W) : knownOk B1 c1 B3 c3 Q a W 45 o := by
  have hop := op_at ho (·.op) (x := .binOp .eql 3 (.tmp 119) (.const (.int .i64 1)) 3) (by kernel_rfl)
  have hgd := op_at ho (·.guard) (x := some (43, true)) (by kernel_rfl)
  have e44 : a.eval (.tmp 119) = .int .i64 1 := haft 44 (op_at ho (fun o => o.after.any fun e => decide (e.on = 44) && Region.binds .any e) (x := true) (by kernel_rfl))
  have e43 : a.eval (.tmp 118) = .bool true := haft 43 (op_at ho (fun o => o.after.any fun e => decide (e.on = 43) && Region.binds .any e) (x := true) (by kernel_rfl))
  refine ⟨fun j b h => (by rw [hgd] at h; cases h; exact e43), ?_⟩
  exact specs_value (R := knownS B1 c1 B3 c3 45) (v := .bool true) (by simp [execOp, hop, go_sem, ev e44]) rfl (Ext.refl W)
theorem known_op46 (ho : knownReg[46]? = some o) (_hB : Ext V W) (haft : ∀ j, (o.after.any fun e => decide (e.on = j) && Region.binds .any e) = true → knownS B1 c1 B3 c3 j (a.eval (.tmp (knownD j))) W) : knownOk B1 c1 B3 c3 Q a W 46 o := by
  have hop := op_at ho (·.op) (x := .pick (.tmp 118) (.tmp 120) (.const (.bool false))) (by kernel_rfl)
  have hgd := op_at ho (·.guard) (x := none) (by kernel_rfl)
  have e43 : a.eval (.tmp 118) = .bool true := haft 43 (op_at ho (fun o => o.after.any fun e => decide (e.on = 43) && Region.binds .any e) (x := true) (by kernel_rfl))
  have e45 : a.eval (.tmp 120) = .bool true := haft 45 (op_at ho (fun o => o.after.any fun e => decide (e.on = 45) && Region.binds .any e) (x := true) (by kernel_rfl))
  refine ⟨fun j b h => (by rw [hgd] at h; cases h), ?_⟩
  exact specs_value (R := knownS B1 c1 B3 c3 46) (v := .bool true) (by simp [execOp, hop, go_sem, ev e43, ev e45]) rfl (Ext.refl W)
theorem known_op47 (ho : knownReg[47]? = some o) (_hB : Ext V W) (haft : ∀ j, (o.after.any fun e => decide (e.on = j) && Region.binds .any e) = true → knownS B1 c1 B3 c3 j (a.eval (.tmp (knownD j))) W) : knownOk B1 c1 B3 c3 Q a W 47 o := by
  have hop := op_at ho (·.op) (x := .move (.tmp 121)) (by kernel_rfl)
  have hgd := op_at ho (·.guard) (x := none) (by kernel_rfl)
  have e46 : a.eval (.tmp 121) = .bool true := haft 46 (op_at ho (fun o => o.after.any fun e => decide (e.on = 46) && Region.binds .any e) (x := true) (by kernel_rfl))
  refine ⟨fun j b h => (by rw [hgd] at h; cases h), ?_⟩
  exact specs_value (R := knownS B1 c1 B3 c3 47) (v := .bool true) (by simp [execOp, hop, go_sem, ev e46]) rfl (Ext.refl W)
theorem known_op48 (o7 : a.eval (.tmp 7) = .int .i64 0) (ho : knownReg[48]? = some o) (_hB : Ext V W) (haft : ∀ j, (o.after.any fun e => decide (e.on = j) && Region.binds .any e) = true → knownS B1 c1 B3 c3 j (a.eval (.tmp (knownD j))) W) : knownOk B1 c1 B3 c3 Q a W 48 o := by
  have hop := op_at ho (·.op) (x := .move (.tmp 7)) (by kernel_rfl)
  have hgd := op_at ho (·.guard) (x := some (47, true)) (by kernel_rfl)
  have e47 : a.eval (.tmp 122) = .bool true := haft 47 (op_at ho (fun o => o.after.any fun e => decide (e.on = 47) && Region.binds .any e) (x := true) (by kernel_rfl))
  refine ⟨fun j b h => (by rw [hgd] at h; cases h; exact e47), ?_⟩
  exact specs_value (R := knownS B1 c1 B3 c3 48) (v := .int .i64 0) (by simp [execOp, hop, go_sem, ev o7]) rfl (Ext.refl W)
theorem known_op49 (ho : knownReg[49]? = some o) (_hB : Ext V W) (haft : ∀ j, (o.after.any fun e => decide (e.on = j) && Region.binds .any e) = true → knownS B1 c1 B3 c3 j (a.eval (.tmp (knownD j))) W) : knownOk B1 c1 B3 c3 Q a W 49 o := by
  have hop := op_at ho (·.op) (x := .binOp .eql 3 (.tmp 123) (.const (.int .i64 0)) 3) (by kernel_rfl)
  have hgd := op_at ho (·.guard) (x := some (47, true)) (by kernel_rfl)
  have e48 : a.eval (.tmp 123) = .int .i64 0 := haft 48 (op_at ho (fun o => o.after.any fun e => decide (e.on = 48) && Region.binds .any e) (x := true) (by kernel_rfl))
  have e47 : a.eval (.tmp 122) = .bool true := haft 47 (op_at ho (fun o => o.after.any fun e => decide (e.on = 47) && Region.binds .any e) (x := true) (by kernel_rfl))
  refine ⟨fun j b h => (by rw [hgd] at h; cases h; exact e47), ?_⟩
  exact specs_value (R := knownS B1 c1 B3 c3 49) (v := .bool true) (by simp [execOp, hop, go_sem, ev e48]) rfl (Ext.refl W)
theorem known_op50 (ho : knownReg[50]? = some o) (_hB : Ext V W) (haft : ∀ j, (o.after.any fun e => decide (e.on = j) && Region.binds .any e) = true → knownS B1 c1 B3 c3 j (a.eval (.tmp (knownD j))) W) : knownOk B1 c1 B3 c3 Q a W 50 o := by
  have hop := op_at ho (·.op) (x := .pick (.tmp 122) (.tmp 124) (.const (.bool false))) (by kernel_rfl)
  have hgd := op_at ho (·.guard) (x := none) (by kernel_rfl)
  have e47 : a.eval (.tmp 122) = .bool true := haft 47 (op_at ho (fun o => o.after.any fun e => decide (e.on = 47) && Region.binds .any e) (x := true) (by kernel_rfl))
  have e49 : a.eval (.tmp 124) = .bool true := haft 49 (op_at ho (fun o => o.after.any fun e => decide (e.on = 49) && Region.binds .any e) (x := true) (by kernel_rfl))
  refine ⟨fun j b h => (by rw [hgd] at h; cases h), ?_⟩
  exact specs_value (R := knownS B1 c1 B3 c3 50) (v := .bool true) (by simp [execOp, hop, go_sem, ev e47, ev e49]) rfl (Ext.refl W)
theorem known_op51 (ho : knownReg[51]? = some o) (_hB : Ext V W) (haft : ∀ j, (o.after.any fun e => decide (e.on = j) && Region.binds .any e) = true → knownS B1 c1 B3 c3 j (a.eval (.tmp (knownD j))) W) : knownOk B1 c1 B3 c3 Q a W 51 o := by
  have hop := op_at ho (·.op) (x := .move (.tmp 125)) (by kernel_rfl)
  have hgd := op_at ho (·.guard) (x := none) (by kernel_rfl)
  have e50 : a.eval (.tmp 125) = .bool true := haft 50 (op_at ho (fun o => o.after.any fun e => decide (e.on = 50) && Region.binds .any e) (x := true) (by kernel_rfl))
  refine ⟨fun j b h => (by rw [hgd] at h; cases h), ?_⟩
  exact specs_value (R := knownS B1 c1 B3 c3 51) (v := .bool true) (by simp [execOp, hop, go_sem, ev e50]) rfl (Ext.refl W)
theorem known_op52 (o9 : a.eval (.tmp 9) = .int .i64 0) (ho : knownReg[52]? = some o) (_hB : Ext V W) (haft : ∀ j, (o.after.any fun e => decide (e.on = j) && Region.binds .any e) = true → knownS B1 c1 B3 c3 j (a.eval (.tmp (knownD j))) W) : knownOk B1 c1 B3 c3 Q a W 52 o := by
  have hop := op_at ho (·.op) (x := .move (.tmp 9)) (by kernel_rfl)
  have hgd := op_at ho (·.guard) (x := some (51, true)) (by kernel_rfl)
  have e51 : a.eval (.tmp 126) = .bool true := haft 51 (op_at ho (fun o => o.after.any fun e => decide (e.on = 51) && Region.binds .any e) (x := true) (by kernel_rfl))
  refine ⟨fun j b h => (by rw [hgd] at h; cases h; exact e51), ?_⟩
  exact specs_value (R := knownS B1 c1 B3 c3 52) (v := .int .i64 0) (by simp [execOp, hop, go_sem, ev o9]) rfl (Ext.refl W)
theorem known_op53 (ho : knownReg[53]? = some o) (_hB : Ext V W) (haft : ∀ j, (o.after.any fun e => decide (e.on = j) && Region.binds .any e) = true → knownS B1 c1 B3 c3 j (a.eval (.tmp (knownD j))) W) : knownOk B1 c1 B3 c3 Q a W 53 o := by
  have hop := op_at ho (·.op) (x := .binOp .eql 3 (.tmp 127) (.const (.int .i64 0)) 3) (by kernel_rfl)
  have hgd := op_at ho (·.guard) (x := some (51, true)) (by kernel_rfl)
  have e52 : a.eval (.tmp 127) = .int .i64 0 := haft 52 (op_at ho (fun o => o.after.any fun e => decide (e.on = 52) && Region.binds .any e) (x := true) (by kernel_rfl))
  have e51 : a.eval (.tmp 126) = .bool true := haft 51 (op_at ho (fun o => o.after.any fun e => decide (e.on = 51) && Region.binds .any e) (x := true) (by kernel_rfl))
  refine ⟨fun j b h => (by rw [hgd] at h; cases h; exact e51), ?_⟩
  exact specs_value (R := knownS B1 c1 B3 c3 53) (v := .bool true) (by simp [execOp, hop, go_sem, ev e52]) rfl (Ext.refl W)
theorem known_op54 (ho : knownReg[54]? = some o) (_hB : Ext V W) (haft : ∀ j, (o.after.any fun e => decide (e.on = j) && Region.binds .any e) = true → knownS B1 c1 B3 c3 j (a.eval (.tmp (knownD j))) W) : knownOk B1 c1 B3 c3 Q a W 54 o := by
  have hop := op_at ho (·.op) (x := .pick (.tmp 126) (.tmp 128) (.const (.bool false))) (by kernel_rfl)
  have hgd := op_at ho (·.guard) (x := none) (by kernel_rfl)
  have e51 : a.eval (.tmp 126) = .bool true := haft 51 (op_at ho (fun o => o.after.any fun e => decide (e.on = 51) && Region.binds .any e) (x := true) (by kernel_rfl))
  have e53 : a.eval (.tmp 128) = .bool true := haft 53 (op_at ho (fun o => o.after.any fun e => decide (e.on = 53) && Region.binds .any e) (x := true) (by kernel_rfl))
  refine ⟨fun j b h => (by rw [hgd] at h; cases h), ?_⟩
  exact specs_value (R := knownS B1 c1 B3 c3 54) (v := .bool true) (by simp [execOp, hop, go_sem, ev e51, ev e53]) rfl (Ext.refl W)
theorem known_op55 (ho : knownReg[55]? = some o) (_hB : Ext V W) (haft : ∀ j, (o.after.any fun e => decide (e.on = j) && Region.binds .any e) = true → knownS B1 c1 B3 c3 j (a.eval (.tmp (knownD j))) W) : knownOk B1 c1 B3 c3 Q a W 55 o := by
  have hop := op_at ho (·.op) (x := .move (.tmp 129)) (by kernel_rfl)
  have hgd := op_at ho (·.guard) (x := none) (by kernel_rfl)
  have e54 : a.eval (.tmp 129) = .bool true := haft 54 (op_at ho (fun o => o.after.any fun e => decide (e.on = 54) && Region.binds .any e) (x := true) (by kernel_rfl))
  refine ⟨fun j b h => (by rw [hgd] at h; cases h), ?_⟩
  exact specs_value (R := knownS B1 c1 B3 c3 55) (v := .bool true) (by simp [execOp, hop, go_sem, ev e54]) rfl (Ext.refl W)
theorem known_op56 (o11 : a.eval (.tmp 11) = .int .i64 1) (ho : knownReg[56]? = some o) (_hB : Ext V W) (haft : ∀ j, (o.after.any fun e => decide (e.on = j) && Region.binds .any e) = true → knownS B1 c1 B3 c3 j (a.eval (.tmp (knownD j))) W) : knownOk B1 c1 B3 c3 Q a W 56 o := by
  have hop := op_at ho (·.op) (x := .move (.tmp 11)) (by kernel_rfl)
  have hgd := op_at ho (·.guard) (x := some (55, true)) (by kernel_rfl)
  have e55 : a.eval (.tmp 130) = .bool true := haft 55 (op_at ho (fun o => o.after.any fun e => decide (e.on = 55) && Region.binds .any e) (x := true) (by kernel_rfl))
  refine ⟨fun j b h => (by rw [hgd] at h; cases h; exact e55), ?_⟩
  exact specs_value (R := knownS B1 c1 B3 c3 56) (v := .int .i64 1) (by simp [execOp, hop, go_sem, ev o11]) rfl (Ext.refl W)
theorem known_op57 (ho : knownReg[57]? = some o) (_hB : Ext V W) (haft : ∀ j, (o.after.any fun e => decide (e.on = j) && Region.binds .any e) = true → knownS B1 c1 B3 c3 j (a.eval (.tmp (knownD j))) W) : knownOk B1 c1 B3 c3 Q a W 57 o := by
  have hop := op_at ho (·.op) (x := .binOp .eql 3 (.tmp 131) (.const (.int .i64 1)) 3) (by kernel_rfl)
  have hgd := op_at ho (·.guard) (x := some (55, true)) (by kernel_rfl)
  have e56 : a.eval (.tmp 131) = .int .i64 1 := haft 56 (op_at ho (fun o => o.after.any fun e => decide (e.on = 56) && Region.binds .any e) (x := true) (by kernel_rfl))
  have e55 : a.eval (.tmp 130) = .bool true := haft 55 (op_at ho (fun o => o.after.any fun e => decide (e.on = 55) && Region.binds .any e) (x := true) (by kernel_rfl))
  refine ⟨fun j b h => (by rw [hgd] at h; cases h; exact e55), ?_⟩
  exact specs_value (R := knownS B1 c1 B3 c3 57) (v := .bool true) (by simp [execOp, hop, go_sem, ev e56]) rfl (Ext.refl W)
theorem known_op58 (ho : knownReg[58]? = some o) (_hB : Ext V W) (haft : ∀ j, (o.after.any fun e => decide (e.on = j) && Region.binds .any e) = true → knownS B1 c1 B3 c3 j (a.eval (.tmp (knownD j))) W) : knownOk B1 c1 B3 c3 Q a W 58 o := by
  have hop := op_at ho (·.op) (x := .pick (.tmp 130) (.tmp 132) (.const (.bool false))) (by kernel_rfl)
  have hgd := op_at ho (·.guard) (x := none) (by kernel_rfl)
  have e55 : a.eval (.tmp 130) = .bool true := haft 55 (op_at ho (fun o => o.after.any fun e => decide (e.on = 55) && Region.binds .any e) (x := true) (by kernel_rfl))
  have e57 : a.eval (.tmp 132) = .bool true := haft 57 (op_at ho (fun o => o.after.any fun e => decide (e.on = 57) && Region.binds .any e) (x := true) (by kernel_rfl))
  refine ⟨fun j b h => (by rw [hgd] at h; cases h), ?_⟩
  exact specs_value (R := knownS B1 c1 B3 c3 58) (v := .bool true) (by simp [execOp, hop, go_sem, ev e55, ev e57]) rfl (Ext.refl W)
theorem known_op59 (ho : knownReg[59]? = some o) (_hB : Ext V W) (haft : ∀ j, (o.after.any fun e => decide (e.on = j) && Region.binds .any e) = true → knownS B1 c1 B3 c3 j (a.eval (.tmp (knownD j))) W) : knownOk B1 c1 B3 c3 Q a W 59 o := by
  have hop := op_at ho (·.op) (x := .move (.tmp 133)) (by kernel_rfl)
  have hgd := op_at ho (·.guard) (x := none) (by kernel_rfl)
  have e58 : a.eval (.tmp 133) = .bool true := haft 58 (op_at ho (fun o => o.after.any fun e => decide (e.on = 58) && Region.binds .any e) (x := true) (by kernel_rfl))
  refine ⟨fun j b h => (by rw [hgd] at h; cases h), ?_⟩
  exact specs_value (R := knownS B1 c1 B3 c3 59) (v := .bool true) (by simp [execOp, hop, go_sem, ev e58]) rfl (Ext.refl W)
theorem known_op60 (o13 : a.eval (.tmp 13) = .pointer (some ⟨p4, 0, none⟩)) (r_p4 : V.heap[p4]? = some (.cells #[.int .i64 4, .int .i64 5] 29 (0, 0))) (ho : knownReg[60]? = some o) (hB : Ext V W) (haft : ∀ j, (o.after.any fun e => decide (e.on = j) && Region.binds .any e) = true → knownS B1 c1 B3 c3 j (a.eval (.tmp (knownD j))) W) : knownOk B1 c1 B3 c3 Q a W 60 o := by
  have hop := op_at ho (·.op) (x := .load 29 (.tmp 13)) (by kernel_rfl)
  have hgd := op_at ho (·.guard) (x := some (59, true)) (by kernel_rfl)
  have e59 : a.eval (.tmp 134) = .bool true := haft 59 (op_at ho (fun o => o.after.any fun e => decide (e.on = 59) && Region.binds .any e) (x := true) (by kernel_rfl))
  refine ⟨fun j b h => (by rw [hgd] at h; cases h; exact e59), ?_⟩
  have hl0 : W.cell? ⟨p4, 0, none⟩ = some (.int .i64 4) := cell_of_row _ _ 0 _ _ _ (row_ext r_p4 hB)
  have hl1 : W.cell? ⟨p4, 1, none⟩ = some (.int .i64 5) := cell_of_row _ _ 1 _ _ _ (row_ext r_p4 hB)
  exact specs_value (R := knownS B1 c1 B3 c3 60) (v := .agg #[.int .i64 4, .int .i64 5]) (by simp [execOp, hop, go_sem, ev o13, hl0, hl1]) rfl (Ext.refl W)
theorem known_op61 (ho : knownReg[61]? = some o) (_hB : Ext V W) (haft : ∀ j, (o.after.any fun e => decide (e.on = j) && Region.binds .any e) = true → knownS B1 c1 B3 c3 j (a.eval (.tmp (knownD j))) W) : knownOk B1 c1 B3 c3 Q a W 61 o := by
  have hop := op_at ho (·.op) (x := .call { callee := .value (.func 57), args := #[.const (.int .i64 4), .const (.int .i64 5)], argTypes := #[2, 2] }) (by kernel_rfl)
  have hgd := op_at ho (·.guard) (x := some (59, true)) (by kernel_rfl)
  have e59 : a.eval (.tmp 134) = .bool true := haft 59 (op_at ho (fun o => o.after.any fun e => decide (e.on = 59) && Region.binds .any e) (x := true) (by kernel_rfl))
  refine ⟨fun j b h => (by rw [hgd] at h; cases h; exact e59), ?_⟩
  exact specs_call (R := knownS B1 c1 B3 c3 61) (f := 57) (args := #[.int .i64 4, .int .i64 5]) (by simp [execOp, hop, go_sem]) ((rg_any 4 5 W).mono fun e w' h => ⟨_, h.1, rfl, h.2⟩)
theorem known_op62 (ho : knownReg[62]? = some o) (_hB : Ext V W) (haft : ∀ j, (o.after.any fun e => decide (e.on = j) && Region.binds .any e) = true → knownS B1 c1 B3 c3 j (a.eval (.tmp (knownD j))) W) : knownOk B1 c1 B3 c3 Q a W 62 o := by
  have hop := op_at ho (·.op) (x := .binOp .eql 29 (.tmp 135) (.tmp 136) 29) (by kernel_rfl)
  have hgd := op_at ho (·.guard) (x := some (59, true)) (by kernel_rfl)
  have e60 : a.eval (.tmp 135) = .agg #[.int .i64 4, .int .i64 5] := haft 60 (op_at ho (fun o => o.after.any fun e => decide (e.on = 60) && Region.binds .any e) (x := true) (by kernel_rfl))
  have e61 : a.eval (.tmp 136) = .agg #[.int .i64 4, .int .i64 5] := haft 61 (op_at ho (fun o => o.after.any fun e => decide (e.on = 61) && Region.binds .any e) (x := true) (by kernel_rfl))
  have e59 : a.eval (.tmp 134) = .bool true := haft 59 (op_at ho (fun o => o.after.any fun e => decide (e.on = 59) && Region.binds .any e) (x := true) (by kernel_rfl))
  refine ⟨fun j b h => (by rw [hgd] at h; cases h; exact e59), ?_⟩
  exact specs_value (R := knownS B1 c1 B3 c3 62) (v := .bool true) (by simp [execOp, hop, go_sem, ev e60, ev e61]) rfl (Ext.refl W)
theorem known_op63 (ho : knownReg[63]? = some o) (_hB : Ext V W) (haft : ∀ j, (o.after.any fun e => decide (e.on = j) && Region.binds .any e) = true → knownS B1 c1 B3 c3 j (a.eval (.tmp (knownD j))) W) : knownOk B1 c1 B3 c3 Q a W 63 o := by
  have hop := op_at ho (·.op) (x := .pick (.tmp 134) (.tmp 137) (.const (.bool false))) (by kernel_rfl)
  have hgd := op_at ho (·.guard) (x := none) (by kernel_rfl)
  have e59 : a.eval (.tmp 134) = .bool true := haft 59 (op_at ho (fun o => o.after.any fun e => decide (e.on = 59) && Region.binds .any e) (x := true) (by kernel_rfl))
  have e62 : a.eval (.tmp 137) = .bool true := haft 62 (op_at ho (fun o => o.after.any fun e => decide (e.on = 62) && Region.binds .any e) (x := true) (by kernel_rfl))
  refine ⟨fun j b h => (by rw [hgd] at h; cases h), ?_⟩
  exact specs_value (R := knownS B1 c1 B3 c3 63) (v := .bool true) (by simp [execOp, hop, go_sem, ev e59, ev e62]) rfl (Ext.refl W)
theorem known_op64 (ho : knownReg[64]? = some o) (_hB : Ext V W) (haft : ∀ j, (o.after.any fun e => decide (e.on = j) && Region.binds .any e) = true → knownS B1 c1 B3 c3 j (a.eval (.tmp (knownD j))) W) : knownOk B1 c1 B3 c3 Q a W 64 o := by
  have hop := op_at ho (·.op) (x := .move (.tmp 138)) (by kernel_rfl)
  have hgd := op_at ho (·.guard) (x := none) (by kernel_rfl)
  have e63 : a.eval (.tmp 138) = .bool true := haft 63 (op_at ho (fun o => o.after.any fun e => decide (e.on = 63) && Region.binds .any e) (x := true) (by kernel_rfl))
  refine ⟨fun j b h => (by rw [hgd] at h; cases h), ?_⟩
  exact specs_value (R := knownS B1 c1 B3 c3 64) (v := .bool true) (by simp [execOp, hop, go_sem, ev e63]) rfl (Ext.refl W)
theorem known_op65 (o15 : a.eval (.tmp 15) = .int .i64 255) (ho : knownReg[65]? = some o) (_hB : Ext V W) (haft : ∀ j, (o.after.any fun e => decide (e.on = j) && Region.binds .any e) = true → knownS B1 c1 B3 c3 j (a.eval (.tmp (knownD j))) W) : knownOk B1 c1 B3 c3 Q a W 65 o := by
  have hop := op_at ho (·.op) (x := .move (.tmp 15)) (by kernel_rfl)
  have hgd := op_at ho (·.guard) (x := some (64, true)) (by kernel_rfl)
  have e64 : a.eval (.tmp 139) = .bool true := haft 64 (op_at ho (fun o => o.after.any fun e => decide (e.on = 64) && Region.binds .any e) (x := true) (by kernel_rfl))
  refine ⟨fun j b h => (by rw [hgd] at h; cases h; exact e64), ?_⟩
  exact specs_value (R := knownS B1 c1 B3 c3 65) (v := .int .i64 255) (by simp [execOp, hop, go_sem, ev o15]) rfl (Ext.refl W)
theorem known_op66 (ho : knownReg[66]? = some o) (_hB : Ext V W) (haft : ∀ j, (o.after.any fun e => decide (e.on = j) && Region.binds .any e) = true → knownS B1 c1 B3 c3 j (a.eval (.tmp (knownD j))) W) : knownOk B1 c1 B3 c3 Q a W 66 o := by
  have hop := op_at ho (·.op) (x := .binOp .eql 2 (.tmp 140) (.const (.int .i64 255)) 2) (by kernel_rfl)
  have hgd := op_at ho (·.guard) (x := some (64, true)) (by kernel_rfl)
  have e65 : a.eval (.tmp 140) = .int .i64 255 := haft 65 (op_at ho (fun o => o.after.any fun e => decide (e.on = 65) && Region.binds .any e) (x := true) (by kernel_rfl))
  have e64 : a.eval (.tmp 139) = .bool true := haft 64 (op_at ho (fun o => o.after.any fun e => decide (e.on = 64) && Region.binds .any e) (x := true) (by kernel_rfl))
  refine ⟨fun j b h => (by rw [hgd] at h; cases h; exact e64), ?_⟩
  exact specs_value (R := knownS B1 c1 B3 c3 66) (v := .bool true) (by simp [execOp, hop, go_sem, ev e65]) rfl (Ext.refl W)
theorem known_op67 (ho : knownReg[67]? = some o) (_hB : Ext V W) (haft : ∀ j, (o.after.any fun e => decide (e.on = j) && Region.binds .any e) = true → knownS B1 c1 B3 c3 j (a.eval (.tmp (knownD j))) W) : knownOk B1 c1 B3 c3 Q a W 67 o := by
  have hop := op_at ho (·.op) (x := .pick (.tmp 139) (.tmp 141) (.const (.bool false))) (by kernel_rfl)
  have hgd := op_at ho (·.guard) (x := none) (by kernel_rfl)
  have e64 : a.eval (.tmp 139) = .bool true := haft 64 (op_at ho (fun o => o.after.any fun e => decide (e.on = 64) && Region.binds .any e) (x := true) (by kernel_rfl))
  have e66 : a.eval (.tmp 141) = .bool true := haft 66 (op_at ho (fun o => o.after.any fun e => decide (e.on = 66) && Region.binds .any e) (x := true) (by kernel_rfl))
  refine ⟨fun j b h => (by rw [hgd] at h; cases h), ?_⟩
  exact specs_value (R := knownS B1 c1 B3 c3 67) (v := .bool true) (by simp [execOp, hop, go_sem, ev e64, ev e66]) rfl (Ext.refl W)
theorem known_op68 (ho : knownReg[68]? = some o) (_hB : Ext V W) (haft : ∀ j, (o.after.any fun e => decide (e.on = j) && Region.binds .any e) = true → knownS B1 c1 B3 c3 j (a.eval (.tmp (knownD j))) W) : knownOk B1 c1 B3 c3 Q a W 68 o := by
  have hop := op_at ho (·.op) (x := .move (.tmp 142)) (by kernel_rfl)
  have hgd := op_at ho (·.guard) (x := none) (by kernel_rfl)
  have e67 : a.eval (.tmp 142) = .bool true := haft 67 (op_at ho (fun o => o.after.any fun e => decide (e.on = 67) && Region.binds .any e) (x := true) (by kernel_rfl))
  refine ⟨fun j b h => (by rw [hgd] at h; cases h), ?_⟩
  exact specs_value (R := knownS B1 c1 B3 c3 68) (v := .bool true) (by simp [execOp, hop, go_sem, ev e67]) rfl (Ext.refl W)
theorem known_op69 (o17 : a.eval (.tmp 17) = .int .i64 299) (ho : knownReg[69]? = some o) (_hB : Ext V W) (haft : ∀ j, (o.after.any fun e => decide (e.on = j) && Region.binds .any e) = true → knownS B1 c1 B3 c3 j (a.eval (.tmp (knownD j))) W) : knownOk B1 c1 B3 c3 Q a W 69 o := by
  have hop := op_at ho (·.op) (x := .move (.tmp 17)) (by kernel_rfl)
  have hgd := op_at ho (·.guard) (x := some (68, true)) (by kernel_rfl)
  have e68 : a.eval (.tmp 143) = .bool true := haft 68 (op_at ho (fun o => o.after.any fun e => decide (e.on = 68) && Region.binds .any e) (x := true) (by kernel_rfl))
  refine ⟨fun j b h => (by rw [hgd] at h; cases h; exact e68), ?_⟩
  exact specs_value (R := knownS B1 c1 B3 c3 69) (v := .int .i64 299) (by simp [execOp, hop, go_sem, ev o17]) rfl (Ext.refl W)
theorem known_op70 (ho : knownReg[70]? = some o) (_hB : Ext V W) (haft : ∀ j, (o.after.any fun e => decide (e.on = j) && Region.binds .any e) = true → knownS B1 c1 B3 c3 j (a.eval (.tmp (knownD j))) W) : knownOk B1 c1 B3 c3 Q a W 70 o := by
  have hop := op_at ho (·.op) (x := .binOp .eql 2 (.tmp 144) (.const (.int .i64 299)) 2) (by kernel_rfl)
  have hgd := op_at ho (·.guard) (x := some (68, true)) (by kernel_rfl)
  have e69 : a.eval (.tmp 144) = .int .i64 299 := haft 69 (op_at ho (fun o => o.after.any fun e => decide (e.on = 69) && Region.binds .any e) (x := true) (by kernel_rfl))
  have e68 : a.eval (.tmp 143) = .bool true := haft 68 (op_at ho (fun o => o.after.any fun e => decide (e.on = 68) && Region.binds .any e) (x := true) (by kernel_rfl))
  refine ⟨fun j b h => (by rw [hgd] at h; cases h; exact e68), ?_⟩
  exact specs_value (R := knownS B1 c1 B3 c3 70) (v := .bool true) (by simp [execOp, hop, go_sem, ev e69]) rfl (Ext.refl W)
theorem known_op71 (ho : knownReg[71]? = some o) (_hB : Ext V W) (haft : ∀ j, (o.after.any fun e => decide (e.on = j) && Region.binds .any e) = true → knownS B1 c1 B3 c3 j (a.eval (.tmp (knownD j))) W) : knownOk B1 c1 B3 c3 Q a W 71 o := by
  have hop := op_at ho (·.op) (x := .pick (.tmp 143) (.tmp 145) (.const (.bool false))) (by kernel_rfl)
  have hgd := op_at ho (·.guard) (x := none) (by kernel_rfl)
  have e68 : a.eval (.tmp 143) = .bool true := haft 68 (op_at ho (fun o => o.after.any fun e => decide (e.on = 68) && Region.binds .any e) (x := true) (by kernel_rfl))
  have e70 : a.eval (.tmp 145) = .bool true := haft 70 (op_at ho (fun o => o.after.any fun e => decide (e.on = 70) && Region.binds .any e) (x := true) (by kernel_rfl))
  refine ⟨fun j b h => (by rw [hgd] at h; cases h), ?_⟩
  exact specs_value (R := knownS B1 c1 B3 c3 71) (v := .bool true) (by simp [execOp, hop, go_sem, ev e68, ev e70]) rfl (Ext.refl W)
theorem known_op72 (ho : knownReg[72]? = some o) (_hB : Ext V W) (haft : ∀ j, (o.after.any fun e => decide (e.on = j) && Region.binds .any e) = true → knownS B1 c1 B3 c3 j (a.eval (.tmp (knownD j))) W) : knownOk B1 c1 B3 c3 Q a W 72 o := by
  have hop := op_at ho (·.op) (x := .move (.tmp 146)) (by kernel_rfl)
  have hgd := op_at ho (·.guard) (x := none) (by kernel_rfl)
  have e71 : a.eval (.tmp 146) = .bool true := haft 71 (op_at ho (fun o => o.after.any fun e => decide (e.on = 71) && Region.binds .any e) (x := true) (by kernel_rfl))
  refine ⟨fun j b h => (by rw [hgd] at h; cases h), ?_⟩
  exact specs_value (R := knownS B1 c1 B3 c3 72) (v := .bool true) (by simp [execOp, hop, go_sem, ev e71]) rfl (Ext.refl W)
theorem known_op73 (o19 : a.eval (.tmp 19) = .slice B1 4 c1) (ho : knownReg[73]? = some o) (_hB : Ext V W) (haft : ∀ j, (o.after.any fun e => decide (e.on = j) && Region.binds .any e) = true → knownS B1 c1 B3 c3 j (a.eval (.tmp (knownD j))) W) : knownOk B1 c1 B3 c3 Q a W 73 o := by
  have hop := op_at ho (·.op) (x := .move (.tmp 19)) (by kernel_rfl)
  have hgd := op_at ho (·.guard) (x := some (72, true)) (by kernel_rfl)
  have e72 : a.eval (.tmp 147) = .bool true := haft 72 (op_at ho (fun o => o.after.any fun e => decide (e.on = 72) && Region.binds .any e) (x := true) (by kernel_rfl))
  refine ⟨fun j b h => (by rw [hgd] at h; cases h; exact e72), ?_⟩
  exact specs_value (R := knownS B1 c1 B3 c3 73) (v := .slice B1 4 c1) (by simp [execOp, hop, go_sem, ev o19]) rfl (Ext.refl W)
theorem known_op74 (ho : knownReg[74]? = some o) (_hB : Ext V W) (haft : ∀ j, (o.after.any fun e => decide (e.on = j) && Region.binds .any e) = true → knownS B1 c1 B3 c3 j (a.eval (.tmp (knownD j))) W) : knownOk B1 c1 B3 c3 Q a W 74 o := by
  have hop := op_at ho (·.op) (x := .buildSlice 42 4 #[(0, .const (.int .i64 (-1))), (1, .const (.int .i64 0)), (2, .const (.int .i64 1)), (3, .const (.int .i64 2))]) (by kernel_rfl)
  have hgd := op_at ho (·.guard) (x := some (72, true)) (by kernel_rfl)
  have e72 : a.eval (.tmp 147) = .bool true := haft 72 (op_at ho (fun o => o.after.any fun e => decide (e.on = 72) && Region.binds .any e) (x := true) (by kernel_rfl))
  refine ⟨fun j b h => (by rw [hgd] at h; cases h; exact e72), ?_⟩
  have hx := held_ints [-1, 0, 1, 2] (row_last W (.cells #[.int .i64 (-1), .int .i64 0, .int .i64 1, .int .i64 2] 3) _ rfl) rfl
  exact specs_value (R := knownS B1 c1 B3 c3 74) (v := .slice (some ⟨W.heap.size, 0, none⟩) 4 4) (W' := W.alloc (.cells #[.int .i64 (-1), .int .i64 0, .int .i64 1, .int .i64 2] 3)) (by simp [execOp, hop, go_sem]) ⟨_, rfl, hx⟩ ((Below.refl _ W).alloc (Nat.le_refl _) _)
theorem known_op75 (hx : Held V V.heap.size 1 encI B1 [-1, 0, 1, 2]) (ho : knownReg[75]? = some o) (hB : Ext V W) (haft : ∀ j, (o.after.any fun e => decide (e.on = j) && Region.binds .any e) = true → knownS B1 c1 B3 c3 j (a.eval (.tmp (knownD j))) W) : knownOk B1 c1 B3 c3 Q a W 75 o := by
  have hop := op_at ho (·.op) (x := .call { callee := .value (.func 31), args := #[.tmp 148, .tmp 149], argTypes := #[42, 42] }) (by kernel_rfl)
  have hgd := op_at ho (·.guard) (x := some (72, true)) (by kernel_rfl)
  have e73 : a.eval (.tmp 148) = .slice B1 4 c1 := haft 73 (op_at ho (fun o => o.after.any fun e => decide (e.on = 73) && Region.binds .any e) (x := true) (by kernel_rfl))
  obtain ⟨l74, e74, h74⟩ := haft 74 (op_at ho (fun o => o.after.any fun e => decide (e.on = 74) && Region.binds .any e) (x := true) (by kernel_rfl))
  rw [show knownD 74 = 149 from rfl] at e74
  have e72 : a.eval (.tmp 147) = .bool true := haft 72 (op_at ho (fun o => o.after.any fun e => decide (e.on = 72) && Region.binds .any e) (x := true) (by kernel_rfl))
  refine ⟨fun j b h => (by rw [hgd] at h; cases h; exact e72), ?_⟩
  have hc := ints_any B1 (some ⟨l74, 0, none⟩) 4 c1 4 4 [-1, 0, 1, 2] [-1, 0, 1, 2] W rfl rfl (by omega) (by omega) (hx.ext hB) h74
  exact specs_call (R := knownS B1 c1 B3 c3 75) (f := 31) (args := #[.slice B1 4 c1, .slice (some ⟨l74, 0, none⟩) 4 4]) (by simp [execOp, hop, go_sem, ev e73, ev e74]) (hc.mono fun e w' h => ⟨_, h.1, by simp [knownS], h.2⟩)
theorem known_op76 (ho : knownReg[76]? = some o) (_hB : Ext V W) (haft : ∀ j, (o.after.any fun e => decide (e.on = j) && Region.binds .any e) = true → knownS B1 c1 B3 c3 j (a.eval (.tmp (knownD j))) W) : knownOk B1 c1 B3 c3 Q a W 76 o := by
  have hop := op_at ho (·.op) (x := .pick (.tmp 147) (.tmp 150) (.const (.bool false))) (by kernel_rfl)
  have hgd := op_at ho (·.guard) (x := none) (by kernel_rfl)
  have e72 : a.eval (.tmp 147) = .bool true := haft 72 (op_at ho (fun o => o.after.any fun e => decide (e.on = 72) && Region.binds .any e) (x := true) (by kernel_rfl))
  have e75 : a.eval (.tmp 150) = .bool true := haft 75 (op_at ho (fun o => o.after.any fun e => decide (e.on = 75) && Region.binds .any e) (x := true) (by kernel_rfl))
  refine ⟨fun j b h => (by rw [hgd] at h; cases h), ?_⟩
  exact specs_value (R := knownS B1 c1 B3 c3 76) (v := .bool true) (by simp [execOp, hop, go_sem, ev e72, ev e75]) rfl (Ext.refl W)
theorem known_op77 (ho : knownReg[77]? = some o) (_hB : Ext V W) (haft : ∀ j, (o.after.any fun e => decide (e.on = j) && Region.binds .any e) = true → knownS B1 c1 B3 c3 j (a.eval (.tmp (knownD j))) W) : knownOk B1 c1 B3 c3 Q a W 77 o := by
  have hop := op_at ho (·.op) (x := .move (.tmp 151)) (by kernel_rfl)
  have hgd := op_at ho (·.guard) (x := none) (by kernel_rfl)
  have e76 : a.eval (.tmp 151) = .bool true := haft 76 (op_at ho (fun o => o.after.any fun e => decide (e.on = 76) && Region.binds .any e) (x := true) (by kernel_rfl))
  refine ⟨fun j b h => (by rw [hgd] at h; cases h), ?_⟩
  exact specs_value (R := knownS B1 c1 B3 c3 77) (v := .bool true) (by simp [execOp, hop, go_sem, ev e76]) rfl (Ext.refl W)
theorem known_op78 (o21 : a.eval (.tmp 21) = .slice B3 2 c3) (ho : knownReg[78]? = some o) (_hB : Ext V W) (haft : ∀ j, (o.after.any fun e => decide (e.on = j) && Region.binds .any e) = true → knownS B1 c1 B3 c3 j (a.eval (.tmp (knownD j))) W) : knownOk B1 c1 B3 c3 Q a W 78 o := by
  have hop := op_at ho (·.op) (x := .move (.tmp 21)) (by kernel_rfl)
  have hgd := op_at ho (·.guard) (x := some (77, true)) (by kernel_rfl)
  have e77 : a.eval (.tmp 152) = .bool true := haft 77 (op_at ho (fun o => o.after.any fun e => decide (e.on = 77) && Region.binds .any e) (x := true) (by kernel_rfl))
  refine ⟨fun j b h => (by rw [hgd] at h; cases h; exact e77), ?_⟩
  exact specs_value (R := knownS B1 c1 B3 c3 78) (v := .slice B3 2 c3) (by simp [execOp, hop, go_sem, ev o21]) rfl (Ext.refl W)
theorem known_op79 (ho : knownReg[79]? = some o) (_hB : Ext V W) (haft : ∀ j, (o.after.any fun e => decide (e.on = j) && Region.binds .any e) = true → knownS B1 c1 B3 c3 j (a.eval (.tmp (knownD j))) W) : knownOk B1 c1 B3 c3 Q a W 79 o := by
  have hop := op_at ho (·.op) (x := .buildSlice 42 1 #[(0, .const (.int .i64 (-2)))]) (by kernel_rfl)
  have hgd := op_at ho (·.guard) (x := some (77, true)) (by kernel_rfl)
  have e77 : a.eval (.tmp 152) = .bool true := haft 77 (op_at ho (fun o => o.after.any fun e => decide (e.on = 77) && Region.binds .any e) (x := true) (by kernel_rfl))
  refine ⟨fun j b h => (by rw [hgd] at h; cases h; exact e77), ?_⟩
  have hx := held_ints [-2] (row_last W (.cells #[.int .i64 (-2)] 3) _ rfl) rfl
  exact specs_value (R := knownS B1 c1 B3 c3 79) (v := .slice (some ⟨W.heap.size, 0, none⟩) 1 1) (W' := W.alloc (.cells #[.int .i64 (-2)] 3)) (by simp [execOp, hop, go_sem]) ⟨_, rfl, hx⟩ ((Below.refl _ W).alloc (Nat.le_refl _) _)
theorem known_op80 (ho : knownReg[80]? = some o) (_hB : Ext V W) (haft : ∀ j, (o.after.any fun e => decide (e.on = j) && Region.binds .any e) = true → knownS B1 c1 B3 c3 j (a.eval (.tmp (knownD j))) W) : knownOk B1 c1 B3 c3 Q a W 80 o := by
  have hop := op_at ho (·.op) (x := .buildSlice 42 4 #[(0, .const (.int .i64 (-1))), (1, .const (.int .i64 0)), (2, .const (.int .i64 1)), (3, .const (.int .i64 2))]) (by kernel_rfl)
  have hgd := op_at ho (·.guard) (x := some (77, true)) (by kernel_rfl)
  have e77 : a.eval (.tmp 152) = .bool true := haft 77 (op_at ho (fun o => o.after.any fun e => decide (e.on = 77) && Region.binds .any e) (x := true) (by kernel_rfl))
  refine ⟨fun j b h => (by rw [hgd] at h; cases h; exact e77), ?_⟩
  have hx := held_ints [-1, 0, 1, 2] (row_last W (.cells #[.int .i64 (-1), .int .i64 0, .int .i64 1, .int .i64 2] 3) _ rfl) rfl
  exact specs_value (R := knownS B1 c1 B3 c3 80) (v := .slice (some ⟨W.heap.size, 0, none⟩) 4 4) (W' := W.alloc (.cells #[.int .i64 (-1), .int .i64 0, .int .i64 1, .int .i64 2] 3)) (by simp [execOp, hop, go_sem]) ⟨_, rfl, hx⟩ ((Below.refl _ W).alloc (Nat.le_refl _) _)
theorem known_op81 (ho : knownReg[81]? = some o) (_hB : Ext V W) (haft : ∀ j, (o.after.any fun e => decide (e.on = j) && Region.binds .any e) = true → knownS B1 c1 B3 c3 j (a.eval (.tmp (knownD j))) W) : knownOk B1 c1 B3 c3 Q a W 81 o := by
  have hop := op_at ho (·.op) (x := .buildSlice 48 2 #[(0, .tmp 154), (1, .tmp 155)]) (by kernel_rfl)
  have hgd := op_at ho (·.guard) (x := some (77, true)) (by kernel_rfl)
  obtain ⟨l79, e79, h79⟩ := haft 79 (op_at ho (fun o => o.after.any fun e => decide (e.on = 79) && Region.binds .any e) (x := true) (by kernel_rfl))
  rw [show knownD 79 = 154 from rfl] at e79
  obtain ⟨l80, e80, h80⟩ := haft 80 (op_at ho (fun o => o.after.any fun e => decide (e.on = 80) && Region.binds .any e) (x := true) (by kernel_rfl))
  rw [show knownD 80 = 155 from rfl] at e80
  have e77 : a.eval (.tmp 152) = .bool true := haft 77 (op_at ho (fun o => o.after.any fun e => decide (e.on = 77) && Region.binds .any e) (x := true) (by kernel_rfl))
  refine ⟨fun j b h => (by rw [hgd] at h; cases h; exact e77), ?_⟩
  have hb0 : Ext W (W.alloc (.cells #[.slice (some ⟨l79, 0, none⟩) 1 1, .slice (some ⟨l80, 0, none⟩) 4 4] 42)) := (Below.refl _ W).alloc (Nat.le_refl _) _
  have hr := row_last W (.cells #[.slice (some ⟨l79, 0, none⟩) 1 1, .slice (some ⟨l80, 0, none⟩) 4 4] 42) _ rfl
  exact specs_value (R := knownS B1 c1 B3 c3 81) (v := .slice (some ⟨W.heap.size, 0, none⟩) 2 2) (W' := W.alloc (.cells #[.slice (some ⟨l79, 0, none⟩) 1 1, .slice (some ⟨l80, 0, none⟩) 4 4] 42)) (by simp [execOp, hop, go_sem, ev e79, ev e80]) ⟨_, rfl, known_rows81 hr (h79.ext hb0) (h80.ext hb0)⟩ hb0
theorem known_op82 (hg : HeldRows V V.heap.size B3 [[-2], [-1, 0, 1, 2]]) (ho : knownReg[82]? = some o) (hB : Ext V W) (haft : ∀ j, (o.after.any fun e => decide (e.on = j) && Region.binds .any e) = true → knownS B1 c1 B3 c3 j (a.eval (.tmp (knownD j))) W) : knownOk B1 c1 B3 c3 Q a W 82 o := by
  have hop := op_at ho (·.op) (x := .call { callee := .value (.func 38), args := #[.tmp 153, .tmp 156], argTypes := #[48, 48] }) (by kernel_rfl)
  have hgd := op_at ho (·.guard) (x := some (77, true)) (by kernel_rfl)
  have e78 : a.eval (.tmp 153) = .slice B3 2 c3 := haft 78 (op_at ho (fun o => o.after.any fun e => decide (e.on = 78) && Region.binds .any e) (x := true) (by kernel_rfl))
  obtain ⟨l81, e81, h81⟩ := haft 81 (op_at ho (fun o => o.after.any fun e => decide (e.on = 81) && Region.binds .any e) (x := true) (by kernel_rfl))
  rw [show knownD 81 = 156 from rfl] at e81
  have e77 : a.eval (.tmp 152) = .bool true := haft 77 (op_at ho (fun o => o.after.any fun e => decide (e.on = 77) && Region.binds .any e) (x := true) (by kernel_rfl))
  refine ⟨fun j b h => (by rw [hgd] at h; cases h; exact e77), ?_⟩
  have hc := lists_any B3 (some ⟨l81, 0, none⟩) 2 c3 2 2 [[-2], [-1, 0, 1, 2]] [[-2], [-1, 0, 1, 2]] W rfl rfl (by omega) (by omega) (hg.ext hB) h81
  exact specs_call (R := knownS B1 c1 B3 c3 82) (f := 38) (args := #[.slice B3 2 c3, .slice (some ⟨l81, 0, none⟩) 2 2]) (by simp [execOp, hop, go_sem, ev e78, ev e81]) (hc.mono fun e w' h => ⟨_, h.1, by simp [knownS], h.2⟩)
theorem known_op83 (ho : knownReg[83]? = some o) (_hB : Ext V W) (haft : ∀ j, (o.after.any fun e => decide (e.on = j) && Region.binds .any e) = true → knownS B1 c1 B3 c3 j (a.eval (.tmp (knownD j))) W) : knownOk B1 c1 B3 c3 Q a W 83 o := by
  have hop := op_at ho (·.op) (x := .pick (.tmp 152) (.tmp 157) (.const (.bool false))) (by kernel_rfl)
  have hgd := op_at ho (·.guard) (x := none) (by kernel_rfl)
  have e77 : a.eval (.tmp 152) = .bool true := haft 77 (op_at ho (fun o => o.after.any fun e => decide (e.on = 77) && Region.binds .any e) (x := true) (by kernel_rfl))
  have e82 : a.eval (.tmp 157) = .bool true := haft 82 (op_at ho (fun o => o.after.any fun e => decide (e.on = 82) && Region.binds .any e) (x := true) (by kernel_rfl))
  refine ⟨fun j b h => (by rw [hgd] at h; cases h), ?_⟩
  exact specs_value (R := knownS B1 c1 B3 c3 83) (v := .bool true) (by simp [execOp, hop, go_sem, ev e77, ev e82]) rfl (Ext.refl W)
theorem known_op84 (ho : knownReg[84]? = some o) (_hB : Ext V W) (haft : ∀ j, (o.after.any fun e => decide (e.on = j) && Region.binds .any e) = true → knownS B1 c1 B3 c3 j (a.eval (.tmp (knownD j))) W) : knownOk B1 c1 B3 c3 Q a W 84 o := by
  have hop := op_at ho (·.op) (x := .move (.tmp 158)) (by kernel_rfl)
  have hgd := op_at ho (·.guard) (x := none) (by kernel_rfl)
  have e83 : a.eval (.tmp 158) = .bool true := haft 83 (op_at ho (fun o => o.after.any fun e => decide (e.on = 83) && Region.binds .any e) (x := true) (by kernel_rfl))
  refine ⟨fun j b h => (by rw [hgd] at h; cases h), ?_⟩
  exact specs_value (R := knownS B1 c1 B3 c3 84) (v := .bool true) (by simp [execOp, hop, go_sem, ev e83]) rfl (Ext.refl W)
theorem known_op85 (ho : knownReg[85]? = some o) (_hB : Ext V W) (haft : ∀ j, (o.after.any fun e => decide (e.on = j) && Region.binds .any e) = true → knownS B1 c1 B3 c3 j (a.eval (.tmp (knownD j))) W) : knownOk B1 c1 B3 c3 Q a W 85 o := by
  have hop := op_at ho (·.op) (x := .call { callee := .value (.func 16), args := #[], argTypes := #[] }) (by kernel_rfl)
  have hgd := op_at ho (·.guard) (x := some (84, true)) (by kernel_rfl)
  have e84 : a.eval (.tmp 159) = .bool true := haft 84 (op_at ho (fun o => o.after.any fun e => decide (e.on = 84) && Region.binds .any e) (x := true) (by kernel_rfl))
  refine ⟨fun j b h => (by rw [hgd] at h; cases h; exact e84), ?_⟩
  exact specs_call (R := knownS B1 c1 B3 c3 85) (f := 16) (args := #[]) (by simp [execOp, hop, go_sem]) ((works_any W).mono fun e w' h => ⟨_, h.1, rfl, h.2⟩)
theorem known_op86 (ho : knownReg[86]? = some o) (_hB : Ext V W) (haft : ∀ j, (o.after.any fun e => decide (e.on = j) && Region.binds .any e) = true → knownS B1 c1 B3 c3 j (a.eval (.tmp (knownD j))) W) : knownOk B1 c1 B3 c3 Q a W 86 o := by
  have hop := op_at ho (·.op) (x := .pick (.tmp 159) (.tmp 160) (.const (.bool false))) (by kernel_rfl)
  have hgd := op_at ho (·.guard) (x := none) (by kernel_rfl)
  have e84 : a.eval (.tmp 159) = .bool true := haft 84 (op_at ho (fun o => o.after.any fun e => decide (e.on = 84) && Region.binds .any e) (x := true) (by kernel_rfl))
  have e85 : a.eval (.tmp 160) = .bool true := haft 85 (op_at ho (fun o => o.after.any fun e => decide (e.on = 85) && Region.binds .any e) (x := true) (by kernel_rfl))
  refine ⟨fun j b h => (by rw [hgd] at h; cases h), ?_⟩
  exact specs_value (R := knownS B1 c1 B3 c3 86) (v := .bool true) (by simp [execOp, hop, go_sem, ev e84, ev e85]) rfl (Ext.refl W)
theorem known_op87 (ho : knownReg[87]? = some o) (_hB : Ext V W) (haft : ∀ j, (o.after.any fun e => decide (e.on = j) && Region.binds .any e) = true → knownS B1 c1 B3 c3 j (a.eval (.tmp (knownD j))) W) : knownOk B1 c1 B3 c3 Q a W 87 o := by
  have hop := op_at ho (·.op) (x := .assign (.tmp 161)) (by kernel_rfl)
  have hgd := op_at ho (·.guard) (x := none) (by kernel_rfl)
  have e86 : a.eval (.tmp 161) = .bool true := haft 86 (op_at ho (fun o => o.after.any fun e => decide (e.on = 86) && Region.binds .any e) (x := true) (by kernel_rfl))
  refine ⟨fun j b h => (by rw [hgd] at h; cases h), ?_⟩
  exact specs_value (R := knownS B1 c1 B3 c3 87) (v := .bool true) (by simp [execOp, hop, go_sem, ev e86]) rfl (Ext.refl W)
end
end Go.Proofs.Ytckndnaohggmhaa

/- DropKnown: the walk. -/
namespace Go.Proofs.Ytckndnaohggmhaa
open Go.RowKit Go.Shelf

set_option maxRecDepth 100000 in
set_option maxHeartbeats 4000000 in
theorem known_any (w : World) : Calls Try.prog 14 #[] w fun e w' => e = .returned (.bool true) ∧ Ext w w' := by
  go_enter Try.func14, Try.ntmps14
  go_wp2_with fail
  refine (bath_any _).mono ?_
  rintro e w1 ⟨hb1, g1, g1', rfl, hI1⟩
  go_wp2_with fail
  refine (few_any _).mono ?_
  rintro e w2 ⟨hb2, g2, g2', rfl, hI2⟩
  go_upto_region 2 with fail
  obtain ⟨W0, hW, x1, x2, eW⟩ : ∃ W, ((w2.alloc (.cells #[.int .i64 100, .slice (some ⟨g1, 0, none⟩) 3 3, .slice (some ⟨g1', 0, none⟩) 4 4] 25)).alloc (.cells #[.int .i64 100, .slice (some ⟨g2, 0, none⟩) 3 3, .slice (some ⟨g2', 0, none⟩) 2 2] 25)) = W ∧
      ExAt W w2.heap.size (some ⟨g1, 0, none⟩) (some ⟨g1', 0, none⟩) 4 exB ∧ ExAt W (w2.heap.size + 1) (some ⟨g2, 0, none⟩) (some ⟨g2', 0, none⟩) 2 exC ∧ Ext w W := by
    have e2 : Ext w2 ((w2.alloc (.cells #[.int .i64 100, .slice (some ⟨g1, 0, none⟩) 3 3, .slice (some ⟨g1', 0, none⟩) 4 4] 25)).alloc (.cells #[.int .i64 100, .slice (some ⟨g2, 0, none⟩) 3 3, .slice (some ⟨g2', 0, none⟩) 2 2] 25)) :=
      ((Below.refl _ w2).alloc (Nat.le_refl _) _).alloc (by simp) _
    refine ⟨_, rfl, ⟨row_alloc _ _ _ _ (row_last _ _ _ rfl), ?_⟩, ⟨row_last _ _ _ (by simp), ?_⟩, ?_⟩
    · exact (hI1.kept (Ext.trans hb2 e2) (Nat.le_refl _)).wider (Ext.trans hb2 e2).size
    · exact (hI2.kept e2 (Nat.le_refl _)).wider e2.size
    · exact Ext.trans hb1 (Ext.trans hb2 e2)
  rw [hW]
  clear hW hI1 hI2 hb1 hb2
  generalize w2.heap.size + 1 = p2 at x2 ⊢
  generalize w2.heap.size = p1 at x1 ⊢
  obtain ⟨q0, q1, q2⟩ := ex_cells x2
  have c0 := exc_sizeC x2.bath
  go_upto_region 3 with (go_at_call 17; refine c0.mono ?_; rintro e V1 ⟨rfl, eV⟩)
  clear q0 q1 q2 c0
  replace x1 := x1.ext eV
  replace x2 := x2.ext eV
  replace eW := eW.trans eV
  clear eV
  obtain ⟨W1, hW, r_p3, eV⟩ : ∃ W, V1.alloc (.cells #[.int .i64 0, .int .i64 0] 29) = W ∧ W.heap[V1.heap.size]? = some (.cells #[.int .i64 0, .int .i64 0] 29 (0, 0)) ∧ Ext V1 W := ⟨_, rfl, row_last _ _ _ rfl, (Below.refl _ V1).alloc (Nat.le_refl _) _⟩
  rw [hW]
  replace x1 := x1.ext eV
  replace x2 := x2.ext eV
  replace eW := eW.trans eV
  clear hW eV
  generalize V1.heap.size = p3 at r_p3 ⊢
  obtain ⟨q0, q1, q2⟩ := ex_cells x1
  have c0 := exc_touch (-1) 0 1 ex_touch2 x1.bath
  go_upto_region 4 with (go_at_call 21; refine c0.mono ?_; rintro e V2 ⟨rfl, eV⟩)
  clear q0 q1 q2 c0
  replace x1 := x1.ext eV
  replace x2 := x2.ext eV
  replace r_p3 := row_ext r_p3 eV
  replace eW := eW.trans eV
  clear eV
  obtain ⟨q0, q1, q2⟩ := ex_cells x1
  have c0 := exc_touch 2 (-2) 0 ex_touch3 x1.bath
  go_upto_region 5 with (go_at_call 21; refine c0.mono ?_; rintro e V3 ⟨rfl, eV⟩)
  clear q0 q1 q2 c0
  replace x1 := x1.ext eV
  replace x2 := x2.ext eV
  replace r_p3 := row_ext r_p3 eV
  replace eW := eW.trans eV
  clear eV
  obtain ⟨q0, q1, q2⟩ := ex_cells x1
  have c0 := exc_beside 2 1 0 ex_beside2 x1.bath
  go_upto_region 6 with (go_at_call 23; refine c0.mono ?_; rintro e V4 ⟨rfl, eV⟩)
  clear q0 q1 q2 c0
  replace x1 := x1.ext eV
  replace x2 := x2.ext eV
  replace r_p3 := row_ext r_p3 eV
  replace eW := eW.trans eV
  clear eV
  obtain ⟨q0, q1, q2⟩ := ex_cells x1
  have c0 := exc_beside 1 3 1 ex_beside3 x1.bath
  go_upto_region 7 with (go_at_call 23; refine c0.mono ?_; rintro e V5 ⟨rfl, eV⟩)
  clear q0 q1 q2 c0
  replace x1 := x1.ext eV
  replace x2 := x2.ext eV
  replace r_p3 := row_ext r_p3 eV
  replace eW := eW.trans eV
  clear eV
  obtain ⟨q0, q1, q2⟩ := ex_cells x1
  have c0 := exc_first 1 2 4 5 0 (by kernel_rfl) ex_first3 x1.bath
  go_upto_region 8 with (go_at_call 25; refine c0.mono ?_; rintro e V6 ⟨rfl, eV⟩)
  clear q0 q1 q2 c0
  replace x1 := x1.ext eV
  replace x2 := x2.ext eV
  replace r_p3 := row_ext r_p3 eV
  replace eW := eW.trans eV
  clear eV
  obtain ⟨W6, hW, r_p4, eV⟩ : ∃ W, V6.alloc (.cells #[.int .i64 4, .int .i64 5] 29) = W ∧ W.heap[V6.heap.size]? = some (.cells #[.int .i64 4, .int .i64 5] 29 (0, 0)) ∧ Ext V6 W := ⟨_, rfl, row_last _ _ _ rfl, (Below.refl _ V6).alloc (Nat.le_refl _) _⟩
  rw [hW]
  replace x1 := x1.ext eV
  replace x2 := x2.ext eV
  replace r_p3 := row_ext r_p3 eV
  replace eW := eW.trans eV
  clear hW eV
  generalize V6.heap.size = p4 at r_p4 ⊢
  obtain ⟨q0, q1, q2⟩ := ex_cells x2
  have c0 := exc_room 0 255 (by kernel_rfl) ex_free0 (fun r h => by rw [ex_room0 h]; rfl) x2.bath
  go_upto_region 9 with (go_at_call 27; refine c0.mono ?_; rintro e V7 ⟨rfl, eV⟩)
  clear q0 q1 q2 c0
  replace x1 := x1.ext eV
  replace x2 := x2.ext eV
  replace r_p3 := row_ext r_p3 eV
  replace r_p4 := row_ext r_p4 eV
  replace eW := eW.trans eV
  clear eV
  obtain ⟨q0, q1, q2⟩ := ex_cells x2
  have c0 := exc_room 2 299 (by kernel_rfl) ex_free2 (fun r h => by rw [ex_room2 h]; rfl) x2.bath
  go_upto_region 10 with (go_at_call 27; refine c0.mono ?_; rintro e V8 ⟨rfl, eV⟩)
  clear q0 q1 q2 c0
  replace x1 := x1.ext eV
  replace x2 := x2.ext eV
  replace r_p3 := row_ext r_p3 eV
  replace r_p4 := row_ext r_p4 eV
  replace eW := eW.trans eV
  clear eV
  obtain ⟨q0, q1, q2⟩ := ex_cells x1
  have c0 := exc_side false (-2) [-1, 0, 1, 2] (by simp) ex_for0R ex_goes3 ex_list3 x1.bath
  go_upto_region 11 with (go_at_call 34; refine c0.mono ?_; rintro e V9 ⟨⟨B1, c1, rfl, hx⟩, eV⟩)
  clear q0 q1 q2 c0
  replace x1 := x1.ext eV
  replace x2 := x2.ext eV
  replace r_p3 := row_ext r_p3 eV
  replace r_p4 := row_ext r_p4 eV
  replace eW := eW.trans eV
  clear eV
  obtain ⟨q0, q1, q2⟩ := ex_cells x1
  have c0 := exc_groups false [[-2], [-1, 0, 1, 2]] (by simp) (by simp) (by simp) ex_groups0 x1.bath
  go_upto_region 12 with (go_at_call 36; refine c0.mono ?_; rintro e V10 ⟨⟨B3, c3, rfl, hg⟩, eV⟩)
  clear q0 q1 q2 c0
  replace x1 := x1.ext eV
  replace x2 := x2.ext eV
  replace r_p3 := row_ext r_p3 eV
  replace r_p4 := row_ext r_p4 eV
  replace hx := hx.ext eV
  replace eW := eW.trans eV
  clear eV
  clear x1 x2
  have HW := Lib.hid eW
  refine wp_region_specs (ops := knownReg) (knownS B1 c1 B3 c3) (Ext V10) (by kernel_rfl) (by kernel_rfl) ⟨rfl, rfl, rfl, Nat.le_refl _, fun _ _ => rfl⟩ (fun _ _ h e => h.trans e) (knownS_ext B1 c1 B3 c3) knownD (by kernel_rfl) ?_ ?_
  · intro i o ho a W hB hsz hold haft
    have hi : i < 88 := (Array.getElem?_eq_some_iff.1 ho).1
    match i, hi with
    | 0, _ => exact known_op0 (hold 4 (by kernel_rfl)) ho hB haft
    | 1, _ => exact known_op1 ho hB haft
    | 2, _ => exact known_op2 ho hB haft
    | 3, _ => exact known_op3 (hold 6 (by kernel_rfl)) ho hB haft
    | 4, _ => exact known_op4 ho hB haft
    | 5, _ => exact known_op5 ho hB haft
    | 6, _ => exact known_op6 ho hB haft
    | 7, _ => exact known_op7 (hold 8 (by kernel_rfl)) ho hB haft
    | 8, _ => exact known_op8 ho hB haft
    | 9, _ => exact known_op9 ho hB haft
    | 10, _ => exact known_op10 ho hB haft
    | 11, _ => exact known_op11 (hold 10 (by kernel_rfl)) ho hB haft
    | 12, _ => exact known_op12 ho hB haft
    | 13, _ => exact known_op13 ho hB haft
    | 14, _ => exact known_op14 ho hB haft
    | 15, _ => exact known_op15 (hold 12 (by kernel_rfl)) ho hB haft
    | 16, _ => exact known_op16 ho hB haft
    | 17, _ => exact known_op17 ho hB haft
    | 18, _ => exact known_op18 ho hB haft
    | 19, _ => exact known_op19 (hold 14 (by kernel_rfl)) ho hB haft
    | 20, _ => exact known_op20 ho hB haft
    | 21, _ => exact known_op21 ho hB haft
    | 22, _ => exact known_op22 ho hB haft
    | 23, _ => exact known_op23 (hold 16 (by kernel_rfl)) ho hB haft
    | 24, _ => exact known_op24 ho hB haft
    | 25, _ => exact known_op25 ho hB haft
    | 26, _ => exact known_op26 ho hB haft
    | 27, _ => exact known_op27 (hold 18 (by kernel_rfl)) ho hB haft
    | 28, _ => exact known_op28 ho hB haft
    | 29, _ => exact known_op29 ho hB haft
    | 30, _ => exact known_op30 ho hB haft
    | 31, _ => exact known_op31 (hold 20 (by kernel_rfl)) ho hB haft
    | 32, _ => exact known_op32 ho hB haft
    | 33, _ => exact known_op33 ho hB haft
    | 34, _ => exact known_op34 ho hB haft
    | 35, _ => exact known_op35 (hold 22 (by kernel_rfl)) ho hB haft
    | 36, _ => exact known_op36 ho hB haft
    | 37, _ => exact known_op37 ho hB haft
    | 38, _ => exact known_op38 ho hB haft
    | 39, _ => exact known_op39 (hold 3 (by kernel_rfl)) r_p3 ho hB haft
    | 40, _ => exact known_op40 ho hB haft
    | 41, _ => exact known_op41 ho hB haft
    | 42, _ => exact known_op42 ho hB haft
    | 43, _ => exact known_op43 ho hB haft
    | 44, _ => exact known_op44 (hold 5 (by kernel_rfl)) ho hB haft
    | 45, _ => exact known_op45 ho hB haft
    | 46, _ => exact known_op46 ho hB haft
    | 47, _ => exact known_op47 ho hB haft
    | 48, _ => exact known_op48 (hold 7 (by kernel_rfl)) ho hB haft
    | 49, _ => exact known_op49 ho hB haft
    | 50, _ => exact known_op50 ho hB haft
    | 51, _ => exact known_op51 ho hB haft
    | 52, _ => exact known_op52 (hold 9 (by kernel_rfl)) ho hB haft
    | 53, _ => exact known_op53 ho hB haft
    | 54, _ => exact known_op54 ho hB haft
    | 55, _ => exact known_op55 ho hB haft
    | 56, _ => exact known_op56 (hold 11 (by kernel_rfl)) ho hB haft
    | 57, _ => exact known_op57 ho hB haft
    | 58, _ => exact known_op58 ho hB haft
    | 59, _ => exact known_op59 ho hB haft
    | 60, _ => exact known_op60 (hold 13 (by kernel_rfl)) r_p4 ho hB haft
    | 61, _ => exact known_op61 ho hB haft
    | 62, _ => exact known_op62 ho hB haft
    | 63, _ => exact known_op63 ho hB haft
    | 64, _ => exact known_op64 ho hB haft
    | 65, _ => exact known_op65 (hold 15 (by kernel_rfl)) ho hB haft
    | 66, _ => exact known_op66 ho hB haft
    | 67, _ => exact known_op67 ho hB haft
    | 68, _ => exact known_op68 ho hB haft
    | 69, _ => exact known_op69 (hold 17 (by kernel_rfl)) ho hB haft
    | 70, _ => exact known_op70 ho hB haft
    | 71, _ => exact known_op71 ho hB haft
    | 72, _ => exact known_op72 ho hB haft
    | 73, _ => exact known_op73 (hold 19 (by kernel_rfl)) ho hB haft
    | 74, _ => exact known_op74 ho hB haft
    | 75, _ => exact known_op75 hx ho hB haft
    | 76, _ => exact known_op76 ho hB haft
    | 77, _ => exact known_op77 ho hB haft
    | 78, _ => exact known_op78 (hold 21 (by kernel_rfl)) ho hB haft
    | 79, _ => exact known_op79 ho hB haft
    | 80, _ => exact known_op80 ho hB haft
    | 81, _ => exact known_op81 ho hB haft
    | 82, _ => exact known_op82 hg ho hB haft
    | 83, _ => exact known_op83 ho hB haft
    | 84, _ => exact known_op84 ho hB haft
    | 85, _ => exact known_op85 ho hB haft
    | 86, _ => exact known_op86 ho hB haft
    | 87, _ => exact known_op87 ho hB haft
    | n + 88, h => exact absurd h (by omega)
  · intro a W hB hsz hdf hold hS
    have e39 : a.eval (.tmp 0) = .bool true := hS 87 (show 87 < knownReg.size from Nat.lt_of_lt_of_eq (by omega) (show 88 = knownReg.size by kernel_rfl))
    obtain ⟨tmps, dfs⟩ := a
    obtain rfl : dfs = [] := hdf
    simp only [Exit.then]
    go_at_K
    go_wp2
    exact bodyPost_ret (results_tmp rfl _ _ _) rfl ⟨congrArg Ending.returned e39, HW.out.trans hB⟩
end Go.Proofs.Ytckndnaohggmhaa
