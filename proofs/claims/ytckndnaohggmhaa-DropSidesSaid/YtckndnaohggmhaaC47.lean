/- Texts of the package drop, joined: DropSidesLast, DropSides. -/
import Derived.Test.YtckndnaohggmhaaC15
import Derived.Test.YtckndnaohggmhaaC45
import Derived.Test.YtckndnaohggmhaaC46
import Derived.Deep.Cut
/- DropSides: what each operation of the last statement yields. -/
namespace Go.Proofs.Ytckndnaohggmhaa
open Go.RowKit Go.Shelf

/-- The slots. -/
def sidesD (i : Nat) : Tmp := if i = 36 then 10 else 55 + i
/-- What each operation yields. -/
def sidesV (Wd : Int) (A : Option Addr) (n c : Nat) (A' : Option Addr) (n' c' : Nat) (_ss : List (Int × Int)) (_ds : List (Int × Int × Int)) (A1 A2 B1 B2 L : Option Addr) (k1 a1 a2 k2 b1 b2 k d _p : Nat) (er eg cw one two : Int) (sure : Bool) (ix : Nat) : Value :=
  match ix with
  | 0 => .slice A1 k1 a1
  | 1 => .slice A2 k1 a2
  | 4 => .int .i64 er
  | 5 => .int .i64 er
  | 9 => .slice B1 k2 b1
  | 10 => .slice B2 k2 b2
  | 14 => .int .i64 eg
  | 15 => .int .i64 eg
  | 19 => (.agg #[.int .i64 Wd, .slice A n c, .slice A' n' c'])
  | 20 => .int .i64 one
  | 21 => .int .i64 two
  | 22 => .slice L k d
  | 23 => .bool sure
  | 24 => .int .i64 cw
  | 25 => (.agg #[.int .i64 Wd, .slice A n c, .slice A' n' c'])
  | 26 => .int .i64 one
  | 27 => .int .i64 two
  | 28 => .slice L k d
  | 29 => .bool sure
  | 30 => .int .i64 cw
  | _ => .bool true
noncomputable def sidesReg : Array Oper := (Try.f7.body.bind (regionOf · 7)).getD #[]
def sidesOk (Wd : Int) (A : Option Addr) (n c : Nat) (A' : Option Addr) (n' c' : Nat) (ss : List (Int × Int)) (ds : List (Int × Int × Int)) (A1 A2 B1 B2 L : Option Addr) (k1 a1 a2 k2 b1 b2 k d p : Nat) (er eg cw one two : Int) (sure : Bool) (Q : Exit → Act → World → Prop) (a : Act) (W : World) (ix : Nat) (o : Oper) : Prop :=
  (∀ j b, o.guard = some (j, b) → a.eval (.tmp (sidesD j)) = .bool b) ∧ o.wp Try.prog a W (fun a'' W' => ∃ v, a'' = a.put o.dst v ∧ v = sidesV Wd A n c A' n' c' ss ds A1 A2 B1 B2 L k1 a1 a2 k2 b1 b2 k d p er eg cw one two sure ix ∧ Below W.heap.size W W') Q

section
variable {Wd : Int} {A : Option Addr} {n c : Nat} {A' : Option Addr} {n' c' : Nat} {ss : List (Int × Int)} {ds : List (Int × Int × Int)} {A1 A2 B1 B2 L : Option Addr} {k1 a1 a2 k2 b1 b2 k d p : Nat} {er eg cw one two : Int} {sure : Bool} {Q : Exit → Act → World → Prop} {a : Act} {V W : World} {o : Oper}
theorem sides_op0 (o11 : a.eval (.tmp 11) = .slice A1 k1 a1) (ho : sidesReg[0]? = some o) : sidesOk Wd A n c A' n' c' ss ds A1 A2 B1 B2 L k1 a1 a2 k2 b1 b2 k d p er eg cw one two sure Q a W 0 o := by
  have hop := op_at ho (·.op) (x := .move (.tmp 11)) (by kernel_rfl)
  have hgd := op_at ho (·.guard) (x := none) (by kernel_rfl)
  refine ⟨fun j b h => (by rw [hgd] at h; cases h), ?_⟩
  exact specs_value (R := fun v _ => v = sidesV Wd A n c A' n' c' ss ds A1 A2 B1 B2 L k1 a1 a2 k2 b1 b2 k d p er eg cw one two sure 0) (v := .slice A1 k1 a1) (by simp [execOp, hop, go_sem, ev o11]) rfl (Ext.refl W)
theorem sides_op1 (o13 : a.eval (.tmp 13) = .slice A2 k1 a2) (ho : sidesReg[1]? = some o) : sidesOk Wd A n c A' n' c' ss ds A1 A2 B1 B2 L k1 a1 a2 k2 b1 b2 k d p er eg cw one two sure Q a W 1 o := by
  have hop := op_at ho (·.op) (x := .move (.tmp 13)) (by kernel_rfl)
  have hgd := op_at ho (·.guard) (x := none) (by kernel_rfl)
  refine ⟨fun j b h => (by rw [hgd] at h; cases h), ?_⟩
  exact specs_value (R := fun v _ => v = sidesV Wd A n c A' n' c' ss ds A1 A2 B1 B2 L k1 a1 a2 k2 b1 b2 k d p er eg cw one two sure 1) (v := .slice A2 k1 a2) (by simp [execOp, hop, go_sem, ev o13]) rfl (Ext.refl W)
theorem sides_op2 (cI : ∀ W, Ext V W → Calls Try.prog 31 #[.slice A1 k1 a1, .slice A2 k1 a2] W fun e w' => e = .returned (.bool true) ∧ Below W.heap.size W w') (hB : Ext V W) (haft : ∀ j, (o.after.any fun e => decide (e.on = j) && Region.binds .any e) = true → a.eval (.tmp (sidesD j)) = sidesV Wd A n c A' n' c' ss ds A1 A2 B1 B2 L k1 a1 a2 k2 b1 b2 k d p er eg cw one two sure j) (ho : sidesReg[2]? = some o) : sidesOk Wd A n c A' n' c' ss ds A1 A2 B1 B2 L k1 a1 a2 k2 b1 b2 k d p er eg cw one two sure Q a W 2 o := by
  have hop := op_at ho (·.op) (x := .call { callee := .value (.func 31), args := #[.tmp 55, .tmp 56], argTypes := #[42, 42] }) (by kernel_rfl)
  have hgd := op_at ho (·.guard) (x := none) (by kernel_rfl)
  have e0 : a.eval (.tmp 55) = .slice A1 k1 a1 := haft 0 (op_at ho (fun o => o.after.any fun e => decide (e.on = 0) && Region.binds .any e) (x := true) (by kernel_rfl))
  have e1 : a.eval (.tmp 56) = .slice A2 k1 a2 := haft 1 (op_at ho (fun o => o.after.any fun e => decide (e.on = 1) && Region.binds .any e) (x := true) (by kernel_rfl))
  refine ⟨fun j b h => (by rw [hgd] at h; cases h), ?_⟩
  exact specs_call (R := fun v _ => v = sidesV Wd A n c A' n' c' ss ds A1 A2 B1 B2 L k1 a1 a2 k2 b1 b2 k d p er eg cw one two sure 2) (f := 31) (args := #[.slice A1 k1 a1, .slice A2 k1 a2]) (by simp [execOp, hop, go_sem, ev e0, ev e1]) ((cI W hB).mono fun e w' h => ⟨_, h.1, rfl, h.2⟩)
theorem sides_op3 (haft : ∀ j, (o.after.any fun e => decide (e.on = j) && Region.binds .any e) = true → a.eval (.tmp (sidesD j)) = sidesV Wd A n c A' n' c' ss ds A1 A2 B1 B2 L k1 a1 a2 k2 b1 b2 k d p er eg cw one two sure j) (ho : sidesReg[3]? = some o) : sidesOk Wd A n c A' n' c' ss ds A1 A2 B1 B2 L k1 a1 a2 k2 b1 b2 k d p er eg cw one two sure Q a W 3 o := by
  have hop := op_at ho (·.op) (x := .move (.tmp 57)) (by kernel_rfl)
  have hgd := op_at ho (·.guard) (x := none) (by kernel_rfl)
  have e2 : a.eval (.tmp 57) = .bool true := haft 2 (op_at ho (fun o => o.after.any fun e => decide (e.on = 2) && Region.binds .any e) (x := true) (by kernel_rfl))
  refine ⟨fun j b h => (by rw [hgd] at h; cases h), ?_⟩
  exact specs_value (R := fun v _ => v = sidesV Wd A n c A' n' c' ss ds A1 A2 B1 B2 L k1 a1 a2 k2 b1 b2 k d p er eg cw one two sure 3) (v := .bool true) (by simp [execOp, hop, go_sem, ev e2]) rfl (Ext.refl W)
theorem sides_op4 (o12 : a.eval (.tmp 12) = .int .i64 er) (haft : ∀ j, (o.after.any fun e => decide (e.on = j) && Region.binds .any e) = true → a.eval (.tmp (sidesD j)) = sidesV Wd A n c A' n' c' ss ds A1 A2 B1 B2 L k1 a1 a2 k2 b1 b2 k d p er eg cw one two sure j) (ho : sidesReg[4]? = some o) : sidesOk Wd A n c A' n' c' ss ds A1 A2 B1 B2 L k1 a1 a2 k2 b1 b2 k d p er eg cw one two sure Q a W 4 o := by
  have hop := op_at ho (·.op) (x := .move (.tmp 12)) (by kernel_rfl)
  have hgd := op_at ho (·.guard) (x := some (3, true)) (by kernel_rfl)
  have e3 : a.eval (.tmp 58) = .bool true := haft 3 (op_at ho (fun o => o.after.any fun e => decide (e.on = 3) && Region.binds .any e) (x := true) (by kernel_rfl))
  refine ⟨fun j b h => (by rw [hgd] at h; cases h; exact e3), ?_⟩
  exact specs_value (R := fun v _ => v = sidesV Wd A n c A' n' c' ss ds A1 A2 B1 B2 L k1 a1 a2 k2 b1 b2 k d p er eg cw one two sure 4) (v := .int .i64 er) (by simp [execOp, hop, go_sem, ev o12]) rfl (Ext.refl W)
theorem sides_op5 (o14 : a.eval (.tmp 14) = .int .i64 er) (haft : ∀ j, (o.after.any fun e => decide (e.on = j) && Region.binds .any e) = true → a.eval (.tmp (sidesD j)) = sidesV Wd A n c A' n' c' ss ds A1 A2 B1 B2 L k1 a1 a2 k2 b1 b2 k d p er eg cw one two sure j) (ho : sidesReg[5]? = some o) : sidesOk Wd A n c A' n' c' ss ds A1 A2 B1 B2 L k1 a1 a2 k2 b1 b2 k d p er eg cw one two sure Q a W 5 o := by
  have hop := op_at ho (·.op) (x := .move (.tmp 14)) (by kernel_rfl)
  have hgd := op_at ho (·.guard) (x := some (3, true)) (by kernel_rfl)
  have e3 : a.eval (.tmp 58) = .bool true := haft 3 (op_at ho (fun o => o.after.any fun e => decide (e.on = 3) && Region.binds .any e) (x := true) (by kernel_rfl))
  refine ⟨fun j b h => (by rw [hgd] at h; cases h; exact e3), ?_⟩
  exact specs_value (R := fun v _ => v = sidesV Wd A n c A' n' c' ss ds A1 A2 B1 B2 L k1 a1 a2 k2 b1 b2 k d p er eg cw one two sure 5) (v := .int .i64 er) (by simp [execOp, hop, go_sem, ev o14]) rfl (Ext.refl W)
theorem sides_op6 (haft : ∀ j, (o.after.any fun e => decide (e.on = j) && Region.binds .any e) = true → a.eval (.tmp (sidesD j)) = sidesV Wd A n c A' n' c' ss ds A1 A2 B1 B2 L k1 a1 a2 k2 b1 b2 k d p er eg cw one two sure j) (ho : sidesReg[6]? = some o) : sidesOk Wd A n c A' n' c' ss ds A1 A2 B1 B2 L k1 a1 a2 k2 b1 b2 k d p er eg cw one two sure Q a W 6 o := by
  have hop := op_at ho (·.op) (x := .binOp .eql 30 (.tmp 59) (.tmp 60) 30) (by kernel_rfl)
  have hgd := op_at ho (·.guard) (x := some (3, true)) (by kernel_rfl)
  have e3 : a.eval (.tmp 58) = .bool true := haft 3 (op_at ho (fun o => o.after.any fun e => decide (e.on = 3) && Region.binds .any e) (x := true) (by kernel_rfl))
  have e4 : a.eval (.tmp 59) = .int .i64 er := haft 4 (op_at ho (fun o => o.after.any fun e => decide (e.on = 4) && Region.binds .any e) (x := true) (by kernel_rfl))
  have e5 : a.eval (.tmp 60) = .int .i64 er := haft 5 (op_at ho (fun o => o.after.any fun e => decide (e.on = 5) && Region.binds .any e) (x := true) (by kernel_rfl))
  refine ⟨fun j b h => (by rw [hgd] at h; cases h; exact e3), ?_⟩
  exact specs_value (R := fun v _ => v = sidesV Wd A n c A' n' c' ss ds A1 A2 B1 B2 L k1 a1 a2 k2 b1 b2 k d p er eg cw one two sure 6) (v := .bool true) (by simp [execOp, hop, go_sem, ev e4, ev e5]) rfl (Ext.refl W)
theorem sides_op7 (haft : ∀ j, (o.after.any fun e => decide (e.on = j) && Region.binds .any e) = true → a.eval (.tmp (sidesD j)) = sidesV Wd A n c A' n' c' ss ds A1 A2 B1 B2 L k1 a1 a2 k2 b1 b2 k d p er eg cw one two sure j) (ho : sidesReg[7]? = some o) : sidesOk Wd A n c A' n' c' ss ds A1 A2 B1 B2 L k1 a1 a2 k2 b1 b2 k d p er eg cw one two sure Q a W 7 o := by
  have hop := op_at ho (·.op) (x := .pick (.tmp 58) (.tmp 61) (.const (.bool false))) (by kernel_rfl)
  have hgd := op_at ho (·.guard) (x := none) (by kernel_rfl)
  have e3 : a.eval (.tmp 58) = .bool true := haft 3 (op_at ho (fun o => o.after.any fun e => decide (e.on = 3) && Region.binds .any e) (x := true) (by kernel_rfl))
  have e6 : a.eval (.tmp 61) = .bool true := haft 6 (op_at ho (fun o => o.after.any fun e => decide (e.on = 6) && Region.binds .any e) (x := true) (by kernel_rfl))
  refine ⟨fun j b h => (by rw [hgd] at h; cases h), ?_⟩
  exact specs_value (R := fun v _ => v = sidesV Wd A n c A' n' c' ss ds A1 A2 B1 B2 L k1 a1 a2 k2 b1 b2 k d p er eg cw one two sure 7) (v := .bool true) (by simp [execOp, hop, go_sem, ev e3, ev e6]) rfl (Ext.refl W)
theorem sides_op8 (haft : ∀ j, (o.after.any fun e => decide (e.on = j) && Region.binds .any e) = true → a.eval (.tmp (sidesD j)) = sidesV Wd A n c A' n' c' ss ds A1 A2 B1 B2 L k1 a1 a2 k2 b1 b2 k d p er eg cw one two sure j) (ho : sidesReg[8]? = some o) : sidesOk Wd A n c A' n' c' ss ds A1 A2 B1 B2 L k1 a1 a2 k2 b1 b2 k d p er eg cw one two sure Q a W 8 o := by
  have hop := op_at ho (·.op) (x := .move (.tmp 62)) (by kernel_rfl)
  have hgd := op_at ho (·.guard) (x := none) (by kernel_rfl)
  have e7 : a.eval (.tmp 62) = .bool true := haft 7 (op_at ho (fun o => o.after.any fun e => decide (e.on = 7) && Region.binds .any e) (x := true) (by kernel_rfl))
  refine ⟨fun j b h => (by rw [hgd] at h; cases h), ?_⟩
  exact specs_value (R := fun v _ => v = sidesV Wd A n c A' n' c' ss ds A1 A2 B1 B2 L k1 a1 a2 k2 b1 b2 k d p er eg cw one two sure 8) (v := .bool true) (by simp [execOp, hop, go_sem, ev e7]) rfl (Ext.refl W)
theorem sides_op9 (o15 : a.eval (.tmp 15) = .slice B1 k2 b1) (haft : ∀ j, (o.after.any fun e => decide (e.on = j) && Region.binds .any e) = true → a.eval (.tmp (sidesD j)) = sidesV Wd A n c A' n' c' ss ds A1 A2 B1 B2 L k1 a1 a2 k2 b1 b2 k d p er eg cw one two sure j) (ho : sidesReg[9]? = some o) : sidesOk Wd A n c A' n' c' ss ds A1 A2 B1 B2 L k1 a1 a2 k2 b1 b2 k d p er eg cw one two sure Q a W 9 o := by
  have hop := op_at ho (·.op) (x := .move (.tmp 15)) (by kernel_rfl)
  have hgd := op_at ho (·.guard) (x := some (8, true)) (by kernel_rfl)
  have e8 : a.eval (.tmp 63) = .bool true := haft 8 (op_at ho (fun o => o.after.any fun e => decide (e.on = 8) && Region.binds .any e) (x := true) (by kernel_rfl))
  refine ⟨fun j b h => (by rw [hgd] at h; cases h; exact e8), ?_⟩
  exact specs_value (R := fun v _ => v = sidesV Wd A n c A' n' c' ss ds A1 A2 B1 B2 L k1 a1 a2 k2 b1 b2 k d p er eg cw one two sure 9) (v := .slice B1 k2 b1) (by simp [execOp, hop, go_sem, ev o15]) rfl (Ext.refl W)
theorem sides_op10 (o17 : a.eval (.tmp 17) = .slice B2 k2 b2) (haft : ∀ j, (o.after.any fun e => decide (e.on = j) && Region.binds .any e) = true → a.eval (.tmp (sidesD j)) = sidesV Wd A n c A' n' c' ss ds A1 A2 B1 B2 L k1 a1 a2 k2 b1 b2 k d p er eg cw one two sure j) (ho : sidesReg[10]? = some o) : sidesOk Wd A n c A' n' c' ss ds A1 A2 B1 B2 L k1 a1 a2 k2 b1 b2 k d p er eg cw one two sure Q a W 10 o := by
  have hop := op_at ho (·.op) (x := .move (.tmp 17)) (by kernel_rfl)
  have hgd := op_at ho (·.guard) (x := some (8, true)) (by kernel_rfl)
  have e8 : a.eval (.tmp 63) = .bool true := haft 8 (op_at ho (fun o => o.after.any fun e => decide (e.on = 8) && Region.binds .any e) (x := true) (by kernel_rfl))
  refine ⟨fun j b h => (by rw [hgd] at h; cases h; exact e8), ?_⟩
  exact specs_value (R := fun v _ => v = sidesV Wd A n c A' n' c' ss ds A1 A2 B1 B2 L k1 a1 a2 k2 b1 b2 k d p er eg cw one two sure 10) (v := .slice B2 k2 b2) (by simp [execOp, hop, go_sem, ev o17]) rfl (Ext.refl W)
theorem sides_op11 (cL : ∀ W, Ext V W → Calls Try.prog 38 #[.slice B1 k2 b1, .slice B2 k2 b2] W fun e w' => e = .returned (.bool true) ∧ Below W.heap.size W w') (hB : Ext V W) (haft : ∀ j, (o.after.any fun e => decide (e.on = j) && Region.binds .any e) = true → a.eval (.tmp (sidesD j)) = sidesV Wd A n c A' n' c' ss ds A1 A2 B1 B2 L k1 a1 a2 k2 b1 b2 k d p er eg cw one two sure j) (ho : sidesReg[11]? = some o) : sidesOk Wd A n c A' n' c' ss ds A1 A2 B1 B2 L k1 a1 a2 k2 b1 b2 k d p er eg cw one two sure Q a W 11 o := by
  have hop := op_at ho (·.op) (x := .call { callee := .value (.func 38), args := #[.tmp 64, .tmp 65], argTypes := #[48, 48] }) (by kernel_rfl)
  have hgd := op_at ho (·.guard) (x := some (8, true)) (by kernel_rfl)
  have e8 : a.eval (.tmp 63) = .bool true := haft 8 (op_at ho (fun o => o.after.any fun e => decide (e.on = 8) && Region.binds .any e) (x := true) (by kernel_rfl))
  have e9 : a.eval (.tmp 64) = .slice B1 k2 b1 := haft 9 (op_at ho (fun o => o.after.any fun e => decide (e.on = 9) && Region.binds .any e) (x := true) (by kernel_rfl))
  have e10 : a.eval (.tmp 65) = .slice B2 k2 b2 := haft 10 (op_at ho (fun o => o.after.any fun e => decide (e.on = 10) && Region.binds .any e) (x := true) (by kernel_rfl))
  refine ⟨fun j b h => (by rw [hgd] at h; cases h; exact e8), ?_⟩
  exact specs_call (R := fun v _ => v = sidesV Wd A n c A' n' c' ss ds A1 A2 B1 B2 L k1 a1 a2 k2 b1 b2 k d p er eg cw one two sure 11) (f := 38) (args := #[.slice B1 k2 b1, .slice B2 k2 b2]) (by simp [execOp, hop, go_sem, ev e9, ev e10]) ((cL W hB).mono fun e w' h => ⟨_, h.1, rfl, h.2⟩)
theorem sides_op12 (haft : ∀ j, (o.after.any fun e => decide (e.on = j) && Region.binds .any e) = true → a.eval (.tmp (sidesD j)) = sidesV Wd A n c A' n' c' ss ds A1 A2 B1 B2 L k1 a1 a2 k2 b1 b2 k d p er eg cw one two sure j) (ho : sidesReg[12]? = some o) : sidesOk Wd A n c A' n' c' ss ds A1 A2 B1 B2 L k1 a1 a2 k2 b1 b2 k d p er eg cw one two sure Q a W 12 o := by
  have hop := op_at ho (·.op) (x := .pick (.tmp 63) (.tmp 66) (.const (.bool false))) (by kernel_rfl)
  have hgd := op_at ho (·.guard) (x := none) (by kernel_rfl)
  have e8 : a.eval (.tmp 63) = .bool true := haft 8 (op_at ho (fun o => o.after.any fun e => decide (e.on = 8) && Region.binds .any e) (x := true) (by kernel_rfl))
  have e11 : a.eval (.tmp 66) = .bool true := haft 11 (op_at ho (fun o => o.after.any fun e => decide (e.on = 11) && Region.binds .any e) (x := true) (by kernel_rfl))
  refine ⟨fun j b h => (by rw [hgd] at h; cases h), ?_⟩
  exact specs_value (R := fun v _ => v = sidesV Wd A n c A' n' c' ss ds A1 A2 B1 B2 L k1 a1 a2 k2 b1 b2 k d p er eg cw one two sure 12) (v := .bool true) (by simp [execOp, hop, go_sem, ev e8, ev e11]) rfl (Ext.refl W)
theorem sides_op13 (haft : ∀ j, (o.after.any fun e => decide (e.on = j) && Region.binds .any e) = true → a.eval (.tmp (sidesD j)) = sidesV Wd A n c A' n' c' ss ds A1 A2 B1 B2 L k1 a1 a2 k2 b1 b2 k d p er eg cw one two sure j) (ho : sidesReg[13]? = some o) : sidesOk Wd A n c A' n' c' ss ds A1 A2 B1 B2 L k1 a1 a2 k2 b1 b2 k d p er eg cw one two sure Q a W 13 o := by
  have hop := op_at ho (·.op) (x := .move (.tmp 67)) (by kernel_rfl)
  have hgd := op_at ho (·.guard) (x := none) (by kernel_rfl)
  have e12 : a.eval (.tmp 67) = .bool true := haft 12 (op_at ho (fun o => o.after.any fun e => decide (e.on = 12) && Region.binds .any e) (x := true) (by kernel_rfl))
  refine ⟨fun j b h => (by rw [hgd] at h; cases h), ?_⟩
  exact specs_value (R := fun v _ => v = sidesV Wd A n c A' n' c' ss ds A1 A2 B1 B2 L k1 a1 a2 k2 b1 b2 k d p er eg cw one two sure 13) (v := .bool true) (by simp [execOp, hop, go_sem, ev e12]) rfl (Ext.refl W)
theorem sides_op14 (o16 : a.eval (.tmp 16) = .int .i64 eg) (haft : ∀ j, (o.after.any fun e => decide (e.on = j) && Region.binds .any e) = true → a.eval (.tmp (sidesD j)) = sidesV Wd A n c A' n' c' ss ds A1 A2 B1 B2 L k1 a1 a2 k2 b1 b2 k d p er eg cw one two sure j) (ho : sidesReg[14]? = some o) : sidesOk Wd A n c A' n' c' ss ds A1 A2 B1 B2 L k1 a1 a2 k2 b1 b2 k d p er eg cw one two sure Q a W 14 o := by
  have hop := op_at ho (·.op) (x := .move (.tmp 16)) (by kernel_rfl)
  have hgd := op_at ho (·.guard) (x := some (13, true)) (by kernel_rfl)
  have e13 : a.eval (.tmp 68) = .bool true := haft 13 (op_at ho (fun o => o.after.any fun e => decide (e.on = 13) && Region.binds .any e) (x := true) (by kernel_rfl))
  refine ⟨fun j b h => (by rw [hgd] at h; cases h; exact e13), ?_⟩
  exact specs_value (R := fun v _ => v = sidesV Wd A n c A' n' c' ss ds A1 A2 B1 B2 L k1 a1 a2 k2 b1 b2 k d p er eg cw one two sure 14) (v := .int .i64 eg) (by simp [execOp, hop, go_sem, ev o16]) rfl (Ext.refl W)
theorem sides_op15 (o18 : a.eval (.tmp 18) = .int .i64 eg) (haft : ∀ j, (o.after.any fun e => decide (e.on = j) && Region.binds .any e) = true → a.eval (.tmp (sidesD j)) = sidesV Wd A n c A' n' c' ss ds A1 A2 B1 B2 L k1 a1 a2 k2 b1 b2 k d p er eg cw one two sure j) (ho : sidesReg[15]? = some o) : sidesOk Wd A n c A' n' c' ss ds A1 A2 B1 B2 L k1 a1 a2 k2 b1 b2 k d p er eg cw one two sure Q a W 15 o := by
  have hop := op_at ho (·.op) (x := .move (.tmp 18)) (by kernel_rfl)
  have hgd := op_at ho (·.guard) (x := some (13, true)) (by kernel_rfl)
  have e13 : a.eval (.tmp 68) = .bool true := haft 13 (op_at ho (fun o => o.after.any fun e => decide (e.on = 13) && Region.binds .any e) (x := true) (by kernel_rfl))
  refine ⟨fun j b h => (by rw [hgd] at h; cases h; exact e13), ?_⟩
  exact specs_value (R := fun v _ => v = sidesV Wd A n c A' n' c' ss ds A1 A2 B1 B2 L k1 a1 a2 k2 b1 b2 k d p er eg cw one two sure 15) (v := .int .i64 eg) (by simp [execOp, hop, go_sem, ev o18]) rfl (Ext.refl W)
theorem sides_op16 (haft : ∀ j, (o.after.any fun e => decide (e.on = j) && Region.binds .any e) = true → a.eval (.tmp (sidesD j)) = sidesV Wd A n c A' n' c' ss ds A1 A2 B1 B2 L k1 a1 a2 k2 b1 b2 k d p er eg cw one two sure j) (ho : sidesReg[16]? = some o) : sidesOk Wd A n c A' n' c' ss ds A1 A2 B1 B2 L k1 a1 a2 k2 b1 b2 k d p er eg cw one two sure Q a W 16 o := by
  have hop := op_at ho (·.op) (x := .binOp .eql 30 (.tmp 69) (.tmp 70) 30) (by kernel_rfl)
  have hgd := op_at ho (·.guard) (x := some (13, true)) (by kernel_rfl)
  have e13 : a.eval (.tmp 68) = .bool true := haft 13 (op_at ho (fun o => o.after.any fun e => decide (e.on = 13) && Region.binds .any e) (x := true) (by kernel_rfl))
  have e14 : a.eval (.tmp 69) = .int .i64 eg := haft 14 (op_at ho (fun o => o.after.any fun e => decide (e.on = 14) && Region.binds .any e) (x := true) (by kernel_rfl))
  have e15 : a.eval (.tmp 70) = .int .i64 eg := haft 15 (op_at ho (fun o => o.after.any fun e => decide (e.on = 15) && Region.binds .any e) (x := true) (by kernel_rfl))
  refine ⟨fun j b h => (by rw [hgd] at h; cases h; exact e13), ?_⟩
  exact specs_value (R := fun v _ => v = sidesV Wd A n c A' n' c' ss ds A1 A2 B1 B2 L k1 a1 a2 k2 b1 b2 k d p er eg cw one two sure 16) (v := .bool true) (by simp [execOp, hop, go_sem, ev e14, ev e15]) rfl (Ext.refl W)
theorem sides_op17 (haft : ∀ j, (o.after.any fun e => decide (e.on = j) && Region.binds .any e) = true → a.eval (.tmp (sidesD j)) = sidesV Wd A n c A' n' c' ss ds A1 A2 B1 B2 L k1 a1 a2 k2 b1 b2 k d p er eg cw one two sure j) (ho : sidesReg[17]? = some o) : sidesOk Wd A n c A' n' c' ss ds A1 A2 B1 B2 L k1 a1 a2 k2 b1 b2 k d p er eg cw one two sure Q a W 17 o := by
  have hop := op_at ho (·.op) (x := .pick (.tmp 68) (.tmp 71) (.const (.bool false))) (by kernel_rfl)
  have hgd := op_at ho (·.guard) (x := none) (by kernel_rfl)
  have e13 : a.eval (.tmp 68) = .bool true := haft 13 (op_at ho (fun o => o.after.any fun e => decide (e.on = 13) && Region.binds .any e) (x := true) (by kernel_rfl))
  have e16 : a.eval (.tmp 71) = .bool true := haft 16 (op_at ho (fun o => o.after.any fun e => decide (e.on = 16) && Region.binds .any e) (x := true) (by kernel_rfl))
  refine ⟨fun j b h => (by rw [hgd] at h; cases h), ?_⟩
  exact specs_value (R := fun v _ => v = sidesV Wd A n c A' n' c' ss ds A1 A2 B1 B2 L k1 a1 a2 k2 b1 b2 k d p er eg cw one two sure 17) (v := .bool true) (by simp [execOp, hop, go_sem, ev e13, ev e16]) rfl (Ext.refl W)
theorem sides_op18 (haft : ∀ j, (o.after.any fun e => decide (e.on = j) && Region.binds .any e) = true → a.eval (.tmp (sidesD j)) = sidesV Wd A n c A' n' c' ss ds A1 A2 B1 B2 L k1 a1 a2 k2 b1 b2 k d p er eg cw one two sure j) (ho : sidesReg[18]? = some o) : sidesOk Wd A n c A' n' c' ss ds A1 A2 B1 B2 L k1 a1 a2 k2 b1 b2 k d p er eg cw one two sure Q a W 18 o := by
  have hop := op_at ho (·.op) (x := .move (.tmp 72)) (by kernel_rfl)
  have hgd := op_at ho (·.guard) (x := none) (by kernel_rfl)
  have e17 : a.eval (.tmp 72) = .bool true := haft 17 (op_at ho (fun o => o.after.any fun e => decide (e.on = 17) && Region.binds .any e) (x := true) (by kernel_rfl))
  refine ⟨fun j b h => (by rw [hgd] at h; cases h), ?_⟩
  exact specs_value (R := fun v _ => v = sidesV Wd A n c A' n' c' ss ds A1 A2 B1 B2 L k1 a1 a2 k2 b1 b2 k d p er eg cw one two sure 18) (v := .bool true) (by simp [execOp, hop, go_sem, ev e17]) rfl (Ext.refl W)
theorem sides_op19 (o5 : a.eval (.tmp 5) = .pointer (some ⟨p, 0, none⟩)) (hx : BathAt V p Wd A n c A' n' c' ss ds) (hB : Ext V W) (haft : ∀ j, (o.after.any fun e => decide (e.on = j) && Region.binds .any e) = true → a.eval (.tmp (sidesD j)) = sidesV Wd A n c A' n' c' ss ds A1 A2 B1 B2 L k1 a1 a2 k2 b1 b2 k d p er eg cw one two sure j) (ho : sidesReg[19]? = some o) : sidesOk Wd A n c A' n' c' ss ds A1 A2 B1 B2 L k1 a1 a2 k2 b1 b2 k d p er eg cw one two sure Q a W 19 o := by
  have hop := op_at ho (·.op) (x := .load 25 (.tmp 5)) (by kernel_rfl)
  have hgd := op_at ho (·.guard) (x := some (18, true)) (by kernel_rfl)
  have e18 : a.eval (.tmp 73) = .bool true := haft 18 (op_at ho (fun o => o.after.any fun e => decide (e.on = 18) && Region.binds .any e) (x := true) (by kernel_rfl))
  refine ⟨fun j b h => (by rw [hgd] at h; cases h; exact e18), ?_⟩
  obtain ⟨q0, q1, q2⟩ := (hx.ext hB).cells
  exact specs_value (R := fun v _ => v = sidesV Wd A n c A' n' c' ss ds A1 A2 B1 B2 L k1 a1 a2 k2 b1 b2 k d p er eg cw one two sure 19) (v := (.agg #[.int .i64 Wd, .slice A n c, .slice A' n' c'])) (by simp [execOp, hop, go_sem, ev o5, q0, q1, q2]) rfl (Ext.refl W)
theorem sides_op20 (o1 : a.eval (.tmp 1) = .int .i64 one) (haft : ∀ j, (o.after.any fun e => decide (e.on = j) && Region.binds .any e) = true → a.eval (.tmp (sidesD j)) = sidesV Wd A n c A' n' c' ss ds A1 A2 B1 B2 L k1 a1 a2 k2 b1 b2 k d p er eg cw one two sure j) (ho : sidesReg[20]? = some o) : sidesOk Wd A n c A' n' c' ss ds A1 A2 B1 B2 L k1 a1 a2 k2 b1 b2 k d p er eg cw one two sure Q a W 20 o := by
  have hop := op_at ho (·.op) (x := .move (.tmp 1)) (by kernel_rfl)
  have hgd := op_at ho (·.guard) (x := some (18, true)) (by kernel_rfl)
  have e18 : a.eval (.tmp 73) = .bool true := haft 18 (op_at ho (fun o => o.after.any fun e => decide (e.on = 18) && Region.binds .any e) (x := true) (by kernel_rfl))
  refine ⟨fun j b h => (by rw [hgd] at h; cases h; exact e18), ?_⟩
  exact specs_value (R := fun v _ => v = sidesV Wd A n c A' n' c' ss ds A1 A2 B1 B2 L k1 a1 a2 k2 b1 b2 k d p er eg cw one two sure 20) (v := .int .i64 one) (by simp [execOp, hop, go_sem, ev o1]) rfl (Ext.refl W)
theorem sides_op21 (o2 : a.eval (.tmp 2) = .int .i64 two) (haft : ∀ j, (o.after.any fun e => decide (e.on = j) && Region.binds .any e) = true → a.eval (.tmp (sidesD j)) = sidesV Wd A n c A' n' c' ss ds A1 A2 B1 B2 L k1 a1 a2 k2 b1 b2 k d p er eg cw one two sure j) (ho : sidesReg[21]? = some o) : sidesOk Wd A n c A' n' c' ss ds A1 A2 B1 B2 L k1 a1 a2 k2 b1 b2 k d p er eg cw one two sure Q a W 21 o := by
  have hop := op_at ho (·.op) (x := .move (.tmp 2)) (by kernel_rfl)
  have hgd := op_at ho (·.guard) (x := some (18, true)) (by kernel_rfl)
  have e18 : a.eval (.tmp 73) = .bool true := haft 18 (op_at ho (fun o => o.after.any fun e => decide (e.on = 18) && Region.binds .any e) (x := true) (by kernel_rfl))
  refine ⟨fun j b h => (by rw [hgd] at h; cases h; exact e18), ?_⟩
  exact specs_value (R := fun v _ => v = sidesV Wd A n c A' n' c' ss ds A1 A2 B1 B2 L k1 a1 a2 k2 b1 b2 k d p er eg cw one two sure 21) (v := .int .i64 two) (by simp [execOp, hop, go_sem, ev o2]) rfl (Ext.refl W)
theorem sides_op22 (o3 : a.eval (.tmp 3) = .slice L k d) (haft : ∀ j, (o.after.any fun e => decide (e.on = j) && Region.binds .any e) = true → a.eval (.tmp (sidesD j)) = sidesV Wd A n c A' n' c' ss ds A1 A2 B1 B2 L k1 a1 a2 k2 b1 b2 k d p er eg cw one two sure j) (ho : sidesReg[22]? = some o) : sidesOk Wd A n c A' n' c' ss ds A1 A2 B1 B2 L k1 a1 a2 k2 b1 b2 k d p er eg cw one two sure Q a W 22 o := by
  have hop := op_at ho (·.op) (x := .move (.tmp 3)) (by kernel_rfl)
  have hgd := op_at ho (·.guard) (x := some (18, true)) (by kernel_rfl)
  have e18 : a.eval (.tmp 73) = .bool true := haft 18 (op_at ho (fun o => o.after.any fun e => decide (e.on = 18) && Region.binds .any e) (x := true) (by kernel_rfl))
  refine ⟨fun j b h => (by rw [hgd] at h; cases h; exact e18), ?_⟩
  exact specs_value (R := fun v _ => v = sidesV Wd A n c A' n' c' ss ds A1 A2 B1 B2 L k1 a1 a2 k2 b1 b2 k d p er eg cw one two sure 22) (v := .slice L k d) (by simp [execOp, hop, go_sem, ev o3]) rfl (Ext.refl W)
theorem sides_op23 (o4 : a.eval (.tmp 4) = .bool sure) (haft : ∀ j, (o.after.any fun e => decide (e.on = j) && Region.binds .any e) = true → a.eval (.tmp (sidesD j)) = sidesV Wd A n c A' n' c' ss ds A1 A2 B1 B2 L k1 a1 a2 k2 b1 b2 k d p er eg cw one two sure j) (ho : sidesReg[23]? = some o) : sidesOk Wd A n c A' n' c' ss ds A1 A2 B1 B2 L k1 a1 a2 k2 b1 b2 k d p er eg cw one two sure Q a W 23 o := by
  have hop := op_at ho (·.op) (x := .move (.tmp 4)) (by kernel_rfl)
  have hgd := op_at ho (·.guard) (x := some (18, true)) (by kernel_rfl)
  have e18 : a.eval (.tmp 73) = .bool true := haft 18 (op_at ho (fun o => o.after.any fun e => decide (e.on = 18) && Region.binds .any e) (x := true) (by kernel_rfl))
  refine ⟨fun j b h => (by rw [hgd] at h; cases h; exact e18), ?_⟩
  exact specs_value (R := fun v _ => v = sidesV Wd A n c A' n' c' ss ds A1 A2 B1 B2 L k1 a1 a2 k2 b1 b2 k d p er eg cw one two sure 23) (v := .bool sure) (by simp [execOp, hop, go_sem, ev o4]) rfl (Ext.refl W)
theorem sides_op24 (cP : ∀ W, Ext V W → Calls Try.prog 39 #[(.agg #[.int .i64 Wd, .slice A n c, .slice A' n' c']), .int .i64 one, .int .i64 two, .slice L k d, .bool sure] W fun e w' => e = .returned (.int .i64 cw) ∧ Below W.heap.size W w') (hB : Ext V W) (haft : ∀ j, (o.after.any fun e => decide (e.on = j) && Region.binds .any e) = true → a.eval (.tmp (sidesD j)) = sidesV Wd A n c A' n' c' ss ds A1 A2 B1 B2 L k1 a1 a2 k2 b1 b2 k d p er eg cw one two sure j) (ho : sidesReg[24]? = some o) : sidesOk Wd A n c A' n' c' ss ds A1 A2 B1 B2 L k1 a1 a2 k2 b1 b2 k d p er eg cw one two sure Q a W 24 o := by
  have hop := op_at ho (·.op) (x := .call { callee := .value (.func 39), args := #[.tmp 74, .tmp 75, .tmp 76, .tmp 77, .tmp 78], argTypes := #[25, 3, 3, 42, 4] }) (by kernel_rfl)
  have hgd := op_at ho (·.guard) (x := some (18, true)) (by kernel_rfl)
  have e18 : a.eval (.tmp 73) = .bool true := haft 18 (op_at ho (fun o => o.after.any fun e => decide (e.on = 18) && Region.binds .any e) (x := true) (by kernel_rfl))
  have e19 : a.eval (.tmp 74) = (.agg #[.int .i64 Wd, .slice A n c, .slice A' n' c']) := haft 19 (op_at ho (fun o => o.after.any fun e => decide (e.on = 19) && Region.binds .any e) (x := true) (by kernel_rfl))
  have e20 : a.eval (.tmp 75) = .int .i64 one := haft 20 (op_at ho (fun o => o.after.any fun e => decide (e.on = 20) && Region.binds .any e) (x := true) (by kernel_rfl))
  have e21 : a.eval (.tmp 76) = .int .i64 two := haft 21 (op_at ho (fun o => o.after.any fun e => decide (e.on = 21) && Region.binds .any e) (x := true) (by kernel_rfl))
  have e22 : a.eval (.tmp 77) = .slice L k d := haft 22 (op_at ho (fun o => o.after.any fun e => decide (e.on = 22) && Region.binds .any e) (x := true) (by kernel_rfl))
  have e23 : a.eval (.tmp 78) = .bool sure := haft 23 (op_at ho (fun o => o.after.any fun e => decide (e.on = 23) && Region.binds .any e) (x := true) (by kernel_rfl))
  refine ⟨fun j b h => (by rw [hgd] at h; cases h; exact e18), ?_⟩
  exact specs_call (R := fun v _ => v = sidesV Wd A n c A' n' c' ss ds A1 A2 B1 B2 L k1 a1 a2 k2 b1 b2 k d p er eg cw one two sure 24) (f := 39) (args := #[(.agg #[.int .i64 Wd, .slice A n c, .slice A' n' c']), .int .i64 one, .int .i64 two, .slice L k d, .bool sure]) (by simp [execOp, hop, go_sem, ev e19, ev e20, ev e21, ev e22, ev e23]) ((cP W hB).mono fun e w' h => ⟨_, h.1, rfl, h.2⟩)
theorem sides_op25 (o5 : a.eval (.tmp 5) = .pointer (some ⟨p, 0, none⟩)) (hx : BathAt V p Wd A n c A' n' c' ss ds) (hB : Ext V W) (haft : ∀ j, (o.after.any fun e => decide (e.on = j) && Region.binds .any e) = true → a.eval (.tmp (sidesD j)) = sidesV Wd A n c A' n' c' ss ds A1 A2 B1 B2 L k1 a1 a2 k2 b1 b2 k d p er eg cw one two sure j) (ho : sidesReg[25]? = some o) : sidesOk Wd A n c A' n' c' ss ds A1 A2 B1 B2 L k1 a1 a2 k2 b1 b2 k d p er eg cw one two sure Q a W 25 o := by
  have hop := op_at ho (·.op) (x := .load 25 (.tmp 5)) (by kernel_rfl)
  have hgd := op_at ho (·.guard) (x := some (18, true)) (by kernel_rfl)
  have e18 : a.eval (.tmp 73) = .bool true := haft 18 (op_at ho (fun o => o.after.any fun e => decide (e.on = 18) && Region.binds .any e) (x := true) (by kernel_rfl))
  refine ⟨fun j b h => (by rw [hgd] at h; cases h; exact e18), ?_⟩
  obtain ⟨q0, q1, q2⟩ := (hx.ext hB).cells
  exact specs_value (R := fun v _ => v = sidesV Wd A n c A' n' c' ss ds A1 A2 B1 B2 L k1 a1 a2 k2 b1 b2 k d p er eg cw one two sure 25) (v := (.agg #[.int .i64 Wd, .slice A n c, .slice A' n' c'])) (by simp [execOp, hop, go_sem, ev o5, q0, q1, q2]) rfl (Ext.refl W)
theorem sides_op26 (o1 : a.eval (.tmp 1) = .int .i64 one) (haft : ∀ j, (o.after.any fun e => decide (e.on = j) && Region.binds .any e) = true → a.eval (.tmp (sidesD j)) = sidesV Wd A n c A' n' c' ss ds A1 A2 B1 B2 L k1 a1 a2 k2 b1 b2 k d p er eg cw one two sure j) (ho : sidesReg[26]? = some o) : sidesOk Wd A n c A' n' c' ss ds A1 A2 B1 B2 L k1 a1 a2 k2 b1 b2 k d p er eg cw one two sure Q a W 26 o := by
  have hop := op_at ho (·.op) (x := .move (.tmp 1)) (by kernel_rfl)
  have hgd := op_at ho (·.guard) (x := some (18, true)) (by kernel_rfl)
  have e18 : a.eval (.tmp 73) = .bool true := haft 18 (op_at ho (fun o => o.after.any fun e => decide (e.on = 18) && Region.binds .any e) (x := true) (by kernel_rfl))
  refine ⟨fun j b h => (by rw [hgd] at h; cases h; exact e18), ?_⟩
  exact specs_value (R := fun v _ => v = sidesV Wd A n c A' n' c' ss ds A1 A2 B1 B2 L k1 a1 a2 k2 b1 b2 k d p er eg cw one two sure 26) (v := .int .i64 one) (by simp [execOp, hop, go_sem, ev o1]) rfl (Ext.refl W)
theorem sides_op27 (o2 : a.eval (.tmp 2) = .int .i64 two) (haft : ∀ j, (o.after.any fun e => decide (e.on = j) && Region.binds .any e) = true → a.eval (.tmp (sidesD j)) = sidesV Wd A n c A' n' c' ss ds A1 A2 B1 B2 L k1 a1 a2 k2 b1 b2 k d p er eg cw one two sure j) (ho : sidesReg[27]? = some o) : sidesOk Wd A n c A' n' c' ss ds A1 A2 B1 B2 L k1 a1 a2 k2 b1 b2 k d p er eg cw one two sure Q a W 27 o := by
  have hop := op_at ho (·.op) (x := .move (.tmp 2)) (by kernel_rfl)
  have hgd := op_at ho (·.guard) (x := some (18, true)) (by kernel_rfl)
  have e18 : a.eval (.tmp 73) = .bool true := haft 18 (op_at ho (fun o => o.after.any fun e => decide (e.on = 18) && Region.binds .any e) (x := true) (by kernel_rfl))
  refine ⟨fun j b h => (by rw [hgd] at h; cases h; exact e18), ?_⟩
  exact specs_value (R := fun v _ => v = sidesV Wd A n c A' n' c' ss ds A1 A2 B1 B2 L k1 a1 a2 k2 b1 b2 k d p er eg cw one two sure 27) (v := .int .i64 two) (by simp [execOp, hop, go_sem, ev o2]) rfl (Ext.refl W)
theorem sides_op28 (o3 : a.eval (.tmp 3) = .slice L k d) (haft : ∀ j, (o.after.any fun e => decide (e.on = j) && Region.binds .any e) = true → a.eval (.tmp (sidesD j)) = sidesV Wd A n c A' n' c' ss ds A1 A2 B1 B2 L k1 a1 a2 k2 b1 b2 k d p er eg cw one two sure j) (ho : sidesReg[28]? = some o) : sidesOk Wd A n c A' n' c' ss ds A1 A2 B1 B2 L k1 a1 a2 k2 b1 b2 k d p er eg cw one two sure Q a W 28 o := by
  have hop := op_at ho (·.op) (x := .move (.tmp 3)) (by kernel_rfl)
  have hgd := op_at ho (·.guard) (x := some (18, true)) (by kernel_rfl)
  have e18 : a.eval (.tmp 73) = .bool true := haft 18 (op_at ho (fun o => o.after.any fun e => decide (e.on = 18) && Region.binds .any e) (x := true) (by kernel_rfl))
  refine ⟨fun j b h => (by rw [hgd] at h; cases h; exact e18), ?_⟩
  exact specs_value (R := fun v _ => v = sidesV Wd A n c A' n' c' ss ds A1 A2 B1 B2 L k1 a1 a2 k2 b1 b2 k d p er eg cw one two sure 28) (v := .slice L k d) (by simp [execOp, hop, go_sem, ev o3]) rfl (Ext.refl W)
theorem sides_op29 (o4 : a.eval (.tmp 4) = .bool sure) (haft : ∀ j, (o.after.any fun e => decide (e.on = j) && Region.binds .any e) = true → a.eval (.tmp (sidesD j)) = sidesV Wd A n c A' n' c' ss ds A1 A2 B1 B2 L k1 a1 a2 k2 b1 b2 k d p er eg cw one two sure j) (ho : sidesReg[29]? = some o) : sidesOk Wd A n c A' n' c' ss ds A1 A2 B1 B2 L k1 a1 a2 k2 b1 b2 k d p er eg cw one two sure Q a W 29 o := by
  have hop := op_at ho (·.op) (x := .move (.tmp 4)) (by kernel_rfl)
  have hgd := op_at ho (·.guard) (x := some (18, true)) (by kernel_rfl)
  have e18 : a.eval (.tmp 73) = .bool true := haft 18 (op_at ho (fun o => o.after.any fun e => decide (e.on = 18) && Region.binds .any e) (x := true) (by kernel_rfl))
  refine ⟨fun j b h => (by rw [hgd] at h; cases h; exact e18), ?_⟩
  exact specs_value (R := fun v _ => v = sidesV Wd A n c A' n' c' ss ds A1 A2 B1 B2 L k1 a1 a2 k2 b1 b2 k d p er eg cw one two sure 29) (v := .bool sure) (by simp [execOp, hop, go_sem, ev o4]) rfl (Ext.refl W)
theorem sides_op30 (cR : ∀ W, Ext V W → Calls Try.prog 40 #[(.agg #[.int .i64 Wd, .slice A n c, .slice A' n' c']), .int .i64 one, .int .i64 two, .slice L k d, .bool sure] W fun e w' => e = .returned (.int .i64 cw) ∧ Below W.heap.size W w') (hB : Ext V W) (haft : ∀ j, (o.after.any fun e => decide (e.on = j) && Region.binds .any e) = true → a.eval (.tmp (sidesD j)) = sidesV Wd A n c A' n' c' ss ds A1 A2 B1 B2 L k1 a1 a2 k2 b1 b2 k d p er eg cw one two sure j) (ho : sidesReg[30]? = some o) : sidesOk Wd A n c A' n' c' ss ds A1 A2 B1 B2 L k1 a1 a2 k2 b1 b2 k d p er eg cw one two sure Q a W 30 o := by
  have hop := op_at ho (·.op) (x := .call { callee := .value (.func 40), args := #[.tmp 80, .tmp 81, .tmp 82, .tmp 83, .tmp 84], argTypes := #[25, 3, 3, 42, 4] }) (by kernel_rfl)
  have hgd := op_at ho (·.guard) (x := some (18, true)) (by kernel_rfl)
  have e18 : a.eval (.tmp 73) = .bool true := haft 18 (op_at ho (fun o => o.after.any fun e => decide (e.on = 18) && Region.binds .any e) (x := true) (by kernel_rfl))
  have e25 : a.eval (.tmp 80) = (.agg #[.int .i64 Wd, .slice A n c, .slice A' n' c']) := haft 25 (op_at ho (fun o => o.after.any fun e => decide (e.on = 25) && Region.binds .any e) (x := true) (by kernel_rfl))
  have e26 : a.eval (.tmp 81) = .int .i64 one := haft 26 (op_at ho (fun o => o.after.any fun e => decide (e.on = 26) && Region.binds .any e) (x := true) (by kernel_rfl))
  have e27 : a.eval (.tmp 82) = .int .i64 two := haft 27 (op_at ho (fun o => o.after.any fun e => decide (e.on = 27) && Region.binds .any e) (x := true) (by kernel_rfl))
  have e28 : a.eval (.tmp 83) = .slice L k d := haft 28 (op_at ho (fun o => o.after.any fun e => decide (e.on = 28) && Region.binds .any e) (x := true) (by kernel_rfl))
  have e29 : a.eval (.tmp 84) = .bool sure := haft 29 (op_at ho (fun o => o.after.any fun e => decide (e.on = 29) && Region.binds .any e) (x := true) (by kernel_rfl))
  refine ⟨fun j b h => (by rw [hgd] at h; cases h; exact e18), ?_⟩
  exact specs_call (R := fun v _ => v = sidesV Wd A n c A' n' c' ss ds A1 A2 B1 B2 L k1 a1 a2 k2 b1 b2 k d p er eg cw one two sure 30) (f := 40) (args := #[(.agg #[.int .i64 Wd, .slice A n c, .slice A' n' c']), .int .i64 one, .int .i64 two, .slice L k d, .bool sure]) (by simp [execOp, hop, go_sem, ev e25, ev e26, ev e27, ev e28, ev e29]) ((cR W hB).mono fun e w' h => ⟨_, h.1, rfl, h.2⟩)
theorem sides_op31 (haft : ∀ j, (o.after.any fun e => decide (e.on = j) && Region.binds .any e) = true → a.eval (.tmp (sidesD j)) = sidesV Wd A n c A' n' c' ss ds A1 A2 B1 B2 L k1 a1 a2 k2 b1 b2 k d p er eg cw one two sure j) (ho : sidesReg[31]? = some o) : sidesOk Wd A n c A' n' c' ss ds A1 A2 B1 B2 L k1 a1 a2 k2 b1 b2 k d p er eg cw one two sure Q a W 31 o := by
  have hop := op_at ho (·.op) (x := .binOp .eql 30 (.tmp 79) (.tmp 85) 30) (by kernel_rfl)
  have hgd := op_at ho (·.guard) (x := some (18, true)) (by kernel_rfl)
  have e18 : a.eval (.tmp 73) = .bool true := haft 18 (op_at ho (fun o => o.after.any fun e => decide (e.on = 18) && Region.binds .any e) (x := true) (by kernel_rfl))
  have e24 : a.eval (.tmp 79) = .int .i64 cw := haft 24 (op_at ho (fun o => o.after.any fun e => decide (e.on = 24) && Region.binds .any e) (x := true) (by kernel_rfl))
  have e30 : a.eval (.tmp 85) = .int .i64 cw := haft 30 (op_at ho (fun o => o.after.any fun e => decide (e.on = 30) && Region.binds .any e) (x := true) (by kernel_rfl))
  refine ⟨fun j b h => (by rw [hgd] at h; cases h; exact e18), ?_⟩
  exact specs_value (R := fun v _ => v = sidesV Wd A n c A' n' c' ss ds A1 A2 B1 B2 L k1 a1 a2 k2 b1 b2 k d p er eg cw one two sure 31) (v := .bool true) (by simp [execOp, hop, go_sem, ev e24, ev e30]) rfl (Ext.refl W)
theorem sides_op32 (haft : ∀ j, (o.after.any fun e => decide (e.on = j) && Region.binds .any e) = true → a.eval (.tmp (sidesD j)) = sidesV Wd A n c A' n' c' ss ds A1 A2 B1 B2 L k1 a1 a2 k2 b1 b2 k d p er eg cw one two sure j) (ho : sidesReg[32]? = some o) : sidesOk Wd A n c A' n' c' ss ds A1 A2 B1 B2 L k1 a1 a2 k2 b1 b2 k d p er eg cw one two sure Q a W 32 o := by
  have hop := op_at ho (·.op) (x := .pick (.tmp 73) (.tmp 86) (.const (.bool false))) (by kernel_rfl)
  have hgd := op_at ho (·.guard) (x := none) (by kernel_rfl)
  have e18 : a.eval (.tmp 73) = .bool true := haft 18 (op_at ho (fun o => o.after.any fun e => decide (e.on = 18) && Region.binds .any e) (x := true) (by kernel_rfl))
  have e31 : a.eval (.tmp 86) = .bool true := haft 31 (op_at ho (fun o => o.after.any fun e => decide (e.on = 31) && Region.binds .any e) (x := true) (by kernel_rfl))
  refine ⟨fun j b h => (by rw [hgd] at h; cases h), ?_⟩
  exact specs_value (R := fun v _ => v = sidesV Wd A n c A' n' c' ss ds A1 A2 B1 B2 L k1 a1 a2 k2 b1 b2 k d p er eg cw one two sure 32) (v := .bool true) (by simp [execOp, hop, go_sem, ev e18, ev e31]) rfl (Ext.refl W)
theorem sides_op33 (haft : ∀ j, (o.after.any fun e => decide (e.on = j) && Region.binds .any e) = true → a.eval (.tmp (sidesD j)) = sidesV Wd A n c A' n' c' ss ds A1 A2 B1 B2 L k1 a1 a2 k2 b1 b2 k d p er eg cw one two sure j) (ho : sidesReg[33]? = some o) : sidesOk Wd A n c A' n' c' ss ds A1 A2 B1 B2 L k1 a1 a2 k2 b1 b2 k d p er eg cw one two sure Q a W 33 o := by
  have hop := op_at ho (·.op) (x := .move (.tmp 87)) (by kernel_rfl)
  have hgd := op_at ho (·.guard) (x := none) (by kernel_rfl)
  have e32 : a.eval (.tmp 87) = .bool true := haft 32 (op_at ho (fun o => o.after.any fun e => decide (e.on = 32) && Region.binds .any e) (x := true) (by kernel_rfl))
  refine ⟨fun j b h => (by rw [hgd] at h; cases h), ?_⟩
  exact specs_value (R := fun v _ => v = sidesV Wd A n c A' n' c' ss ds A1 A2 B1 B2 L k1 a1 a2 k2 b1 b2 k d p er eg cw one two sure 33) (v := .bool true) (by simp [execOp, hop, go_sem, ev e32]) rfl (Ext.refl W)
theorem sides_op34 (cK : ∀ W, Ext V W → Calls Try.prog 16 #[] W fun e w' => e = .returned (.bool true) ∧ Below W.heap.size W w') (hB : Ext V W) (haft : ∀ j, (o.after.any fun e => decide (e.on = j) && Region.binds .any e) = true → a.eval (.tmp (sidesD j)) = sidesV Wd A n c A' n' c' ss ds A1 A2 B1 B2 L k1 a1 a2 k2 b1 b2 k d p er eg cw one two sure j) (ho : sidesReg[34]? = some o) : sidesOk Wd A n c A' n' c' ss ds A1 A2 B1 B2 L k1 a1 a2 k2 b1 b2 k d p er eg cw one two sure Q a W 34 o := by
  have hop := op_at ho (·.op) (x := .call { callee := .value (.func 16), args := #[], argTypes := #[] }) (by kernel_rfl)
  have hgd := op_at ho (·.guard) (x := some (33, true)) (by kernel_rfl)
  have e33 : a.eval (.tmp 88) = .bool true := haft 33 (op_at ho (fun o => o.after.any fun e => decide (e.on = 33) && Region.binds .any e) (x := true) (by kernel_rfl))
  refine ⟨fun j b h => (by rw [hgd] at h; cases h; exact e33), ?_⟩
  exact specs_call (R := fun v _ => v = sidesV Wd A n c A' n' c' ss ds A1 A2 B1 B2 L k1 a1 a2 k2 b1 b2 k d p er eg cw one two sure 34) (f := 16) (args := #[]) (by simp [execOp, hop, go_sem]) ((cK W hB).mono fun e w' h => ⟨_, h.1, rfl, h.2⟩)
theorem sides_op35 (haft : ∀ j, (o.after.any fun e => decide (e.on = j) && Region.binds .any e) = true → a.eval (.tmp (sidesD j)) = sidesV Wd A n c A' n' c' ss ds A1 A2 B1 B2 L k1 a1 a2 k2 b1 b2 k d p er eg cw one two sure j) (ho : sidesReg[35]? = some o) : sidesOk Wd A n c A' n' c' ss ds A1 A2 B1 B2 L k1 a1 a2 k2 b1 b2 k d p er eg cw one two sure Q a W 35 o := by
  have hop := op_at ho (·.op) (x := .pick (.tmp 88) (.tmp 89) (.const (.bool false))) (by kernel_rfl)
  have hgd := op_at ho (·.guard) (x := none) (by kernel_rfl)
  have e33 : a.eval (.tmp 88) = .bool true := haft 33 (op_at ho (fun o => o.after.any fun e => decide (e.on = 33) && Region.binds .any e) (x := true) (by kernel_rfl))
  have e34 : a.eval (.tmp 89) = .bool true := haft 34 (op_at ho (fun o => o.after.any fun e => decide (e.on = 34) && Region.binds .any e) (x := true) (by kernel_rfl))
  refine ⟨fun j b h => (by rw [hgd] at h; cases h), ?_⟩
  exact specs_value (R := fun v _ => v = sidesV Wd A n c A' n' c' ss ds A1 A2 B1 B2 L k1 a1 a2 k2 b1 b2 k d p er eg cw one two sure 35) (v := .bool true) (by simp [execOp, hop, go_sem, ev e33, ev e34]) rfl (Ext.refl W)
theorem sides_op36 (haft : ∀ j, (o.after.any fun e => decide (e.on = j) && Region.binds .any e) = true → a.eval (.tmp (sidesD j)) = sidesV Wd A n c A' n' c' ss ds A1 A2 B1 B2 L k1 a1 a2 k2 b1 b2 k d p er eg cw one two sure j) (ho : sidesReg[36]? = some o) : sidesOk Wd A n c A' n' c' ss ds A1 A2 B1 B2 L k1 a1 a2 k2 b1 b2 k d p er eg cw one two sure Q a W 36 o := by
  have hop := op_at ho (·.op) (x := .assign (.tmp 90)) (by kernel_rfl)
  have hgd := op_at ho (·.guard) (x := none) (by kernel_rfl)
  have e35 : a.eval (.tmp 90) = .bool true := haft 35 (op_at ho (fun o => o.after.any fun e => decide (e.on = 35) && Region.binds .any e) (x := true) (by kernel_rfl))
  refine ⟨fun j b h => (by rw [hgd] at h; cases h), ?_⟩
  exact specs_value (R := fun v _ => v = sidesV Wd A n c A' n' c' ss ds A1 A2 B1 B2 L k1 a1 a2 k2 b1 b2 k d p er eg cw one two sure 36) (v := .bool true) (by simp [execOp, hop, go_sem, ev e35]) rfl (Ext.refl W)
end
end Go.Proofs.Ytckndnaohggmhaa

/- DropSides: the walk. -/
namespace Go.Proofs.Ytckndnaohggmhaa
open Go.RowKit Go.Shelf

theorem groupsAns_len (Wd : Int) (ss : List (Int × Int)) (ds : List (Int × Int × Int)) (sure : Bool) : (groupsAns Wd ss ds sure).1.length ≤ 12 := by
  unfold groupsAns
  split
  · simp
  · rename_i h
    have h0 : bathErr Wd ss ds = 0 := by simpa using h
    have := (bath_ok h0).2.1.1
    exact Nat.le_trans (groupsTo_len _ _ _ _) (by omega)

section
variable {w : World} {Wd : Int} {A : Option Addr} {n c : Nat} {A' : Option Addr} {n' c' : Nat} {ss : List (Int × Int)} {ds : List (Int × Int × Int)}

set_option maxRecDepth 100000 in
set_option maxHeartbeats 4000000 in
theorem dropSides_any (one two : Int) (L : Option Addr) (k d : Nat) (xs : List Int) (sure : Bool) (hb : IsBath w w.heap.size A n c A' n' c' ss ds) (hk : k = xs.length) (hkn : k ≤ 9223372036854775807) (hh : Held w w.heap.size 1 encI L xs) :
    Calls Try.prog 7 #[.agg #[.int .i64 Wd, .slice A n c, .slice A' n' c'], .int .i64 one, .int .i64 two, .slice L k d, .bool sure] w fun e w' => e = .returned (.bool true) ∧ Ext w w' := by
  have hX0 : BathAt (w.alloc (.cells #[.int .i64 Wd, .slice A n c, .slice A' n' c'] 25)) w.heap.size Wd A n c A' n' c' ss ds := BathAt.new hb
  have hE0 : Ext w (w.alloc (.cells #[.int .i64 Wd, .slice A n c, .slice A' n' c'] 25)) := ext_alloc w _
  have cG := great_any Wd A A' n c n' c' (w.alloc (.cells #[.int .i64 Wd, .slice A n c, .slice A' n' c'] 25))
  cases hg : (decide (15 < n) || decide (50 < n')) with
  | true =>
    rw [hg] at cG
    clear hg hb hX0 hk hh
    go_enter Try.func7, Try.ntmps7
    go_wp2_with fail
    refine cG.mono ?_
    rintro e w1 ⟨rfl, hb1⟩
    have hE1 := Lib.hid (hE0.trans hb1)
    clear hE0 hb1 cG
    go_wp2_with fail
    refine (works_any _).mono ?_
    rintro e w2 ⟨rfl, hb2⟩
    go_wp2
    go_ret
    exact ⟨rfl, hE1.out.trans hb2⟩
  | false =>
    rw [hg] at cG
    by_cases hk20 : 20 < k
    · have hk20z : (20 : Int) < (k : Int) := by omega
      clear hg hb hX0 hk hh
      go_enter Try.func7, Try.ntmps7
      go_wp2_with fail
      refine cG.mono ?_
      rintro e w1 ⟨rfl, hb1⟩
      have hE1 := Lib.hid (hE0.trans hb1)
      clear hE0 hb1 cG
      go_wp2_with fail
      refine (works_any _).mono ?_
      rintro e w2 ⟨rfl, hb2⟩
      go_wp2
      go_ret
      exact ⟨rfl, hE1.out.trans hb2⟩
    · have hk20z : ¬ (20 : Int) < (k : Int) := by omega
      have hl12 : (sideAns Wd ss ds one two sure).1.length ≤ 12 := sideAns_len Wd ss ds one two sure (by
        by_cases he : forErr Wd ss ds one two = 0
        · exact .inl (bath_ok (forErr_ok he).1).2.1.1
        · exact .inr he)
      have hg12 := groupsAns_len Wd ss ds sure
      have c1 : ∀ W : World, IsBath W W.heap.size A n c A' n' c' ss ds → Calls Try.prog 34 #[.agg #[.int .i64 Wd, .slice A n c, .slice A' n' c'], .int .i64 one, .int .i64 two, .bool sure] W (ListVal (sideAns Wd ss ds one two sure) W) := fun W h => side_prog (Wd := Wd) one two sure h
      have c2 : ∀ W : World, IsBath W W.heap.size A n c A' n' c' ss ds → Calls Try.prog 35 #[.agg #[.int .i64 Wd, .slice A n c, .slice A' n' c'], .int .i64 one, .int .i64 two, .bool sure] W (ListVal (sideAns Wd ss ds one two sure) W) := fun W h => side_ref (Wd := Wd) one two sure h
      have c3 : ∀ W : World, IsBath W W.heap.size A n c A' n' c' ss ds → Calls Try.prog 36 #[.agg #[.int .i64 Wd, .slice A n c, .slice A' n' c'], .bool sure] W (RowsVal (groupsAns Wd ss ds sure) W) := fun W h => groups_prog (Wd := Wd) sure h
      have c4 : ∀ W : World, IsBath W W.heap.size A n c A' n' c' ss ds → Calls Try.prog 37 #[.agg #[.int .i64 Wd, .slice A n c, .slice A' n' c'], .bool sure] W (RowsVal (groupsAns Wd ss ds sure) W) := fun W h => groups_ref (Wd := Wd) sure h
      unfold ListVal at c1 c2
      unfold RowsVal at c3 c4
      obtain ⟨l, er, hr⟩ : ∃ l er, sideAns Wd ss ds one two sure = (l, er) := ⟨_, _, rfl⟩
      obtain ⟨gs, eg, hr'⟩ : ∃ gs eg, groupsAns Wd ss ds sure = (gs, eg) := ⟨_, _, rfl⟩
      rw [hr] at c1 c2 hl12
      rw [hr'] at c3 c4 hg12
      obtain ⟨kl, hkl⟩ : ∃ kl, l.length = kl := ⟨_, rfl⟩
      obtain ⟨kg, hkg⟩ : ∃ kg, gs.length = kg := ⟨_, rfl⟩
      simp only [hkl] at c1 c2 hl12
      simp only [hkg] at c3 c4 hg12
      have HKL := Lib.hid hkl
      have HKG := Lib.hid hkg
      have HH := Lib.hid hh
      have HK := Lib.hid hk
      clear hg hb hr hr' hkl hkg hh hk
      go_enter Try.func7, Try.ntmps7
      go_wp2_with fail
      refine cG.mono ?_
      rintro e w1 ⟨rfl, hb1⟩
      have x := hX0.ext hb1
      have eW := hE0.trans hb1
      clear hE0 hb1 cG hX0
      obtain ⟨q0, q1, q2⟩ := x.cells
      go_wp2_with fail
      refine (c1 _ x.bath).mono ?_
      rintro e w2 ⟨A1, a1, rfl, hh1, eV⟩
      replace x := x.ext eV
      replace eW := eW.trans eV
      clear eV q0 q1 q2 c1
      obtain ⟨q0, q1, q2⟩ := x.cells
      go_wp2_with fail
      refine (c2 _ x.bath).mono ?_
      rintro e w3 ⟨A2, a2, rfl, hh2, eV⟩
      replace x := x.ext eV
      replace eW := eW.trans eV
      replace hh1 := hh1.ext eV
      clear eV q0 q1 q2 c2
      obtain ⟨q0, q1, q2⟩ := x.cells
      go_wp2_with fail
      refine (c3 _ x.bath).mono ?_
      rintro e w4 ⟨B1, b1, rfl, hg1, eV⟩
      replace x := x.ext eV
      replace eW := eW.trans eV
      replace hh1 := hh1.ext eV
      replace hh2 := hh2.ext eV
      clear eV q0 q1 q2 c3
      obtain ⟨q0, q1, q2⟩ := x.cells
      go_wp2_with fail
      refine (c4 _ x.bath).mono ?_
      rintro e w5 ⟨B2, b2, rfl, hg2, eV⟩
      replace x := x.ext eV
      replace eW := eW.trans eV
      replace hh1 := hh1.ext eV
      replace hh2 := hh2.ext eV
      replace hg1 := hg1.ext eV
      clear eV q0 q1 q2 c4
      go_upto_region 7 with fail
      have HX := Lib.hid x
      have HW := Lib.hid eW
      have H1 := Lib.hid hh1
      have H2 := Lib.hid hh2
      have G1 := Lib.hid hg1
      have G2 := Lib.hid hg2
      have H3 := Lib.hid (HH.out.ext eW)
      clear x eW hh1 hh2 hg1 hg2
      generalize w.heap.size = p at HX ⊢
      obtain ⟨cw, hcw⟩ : ∃ cw, checkSideAns Wd ss ds one two xs sure = cw := ⟨_, rfl⟩
      have cI : ∀ W, Ext w5 W → Calls Try.prog 31 #[.slice A1 kl a1, .slice A2 kl a2] W fun e w' => e = .returned (.bool true) ∧ Below W.heap.size W w' := fun W h => by
        have := ints_any A1 A2 kl a1 kl a2 l l W HKL.out.symm HKL.out.symm (by omega) (by omega) (H1.out.ext h) (H2.out.ext h)
        rw [show decide (l = l) = true from by simp] at this
        exact this
      have cL : ∀ W, Ext w5 W → Calls Try.prog 38 #[.slice B1 kg b1, .slice B2 kg b2] W fun e w' => e = .returned (.bool true) ∧ Below W.heap.size W w' := fun W h => by
        have := lists_any B1 B2 kg b1 kg b2 gs gs W HKG.out.symm HKG.out.symm (by omega) (by omega) (G1.out.ext h) (G2.out.ext h)
        rw [show decide (gs = gs) = true from by simp] at this
        exact this
      have cP : ∀ W, Ext w5 W → Calls Try.prog 39 #[.agg #[.int .i64 Wd, .slice A n c, .slice A' n' c'], .int .i64 one, .int .i64 two, .slice L k d, .bool sure] W fun e w' => e = .returned (.int .i64 cw) ∧ Below W.heap.size W w' := fun W h => by
        have := checkSide_any (Wd := Wd) one two L k d xs sure (HX.out.ext h).bath HK.out hkn (H3.out.ext h)
        rw [hcw] at this
        exact this
      have cR : ∀ W, Ext w5 W → Calls Try.prog 40 #[.agg #[.int .i64 Wd, .slice A n c, .slice A' n' c'], .int .i64 one, .int .i64 two, .slice L k d, .bool sure] W fun e w' => e = .returned (.int .i64 cw) ∧ Below W.heap.size W w' := fun W h => by
        have := checkSide_ref (Wd := Wd) one two L k d xs sure (HX.out.ext h).bath HK.out hkn (H3.out.ext h)
        rw [hcw] at this
        exact this
      have cK : ∀ W, Ext w5 W → Calls Try.prog 16 #[] W fun e w' => e = .returned (.bool true) ∧ Below W.heap.size W w' := fun W _ => works_any W
      refine wp_region_specs (ops := sidesReg) (fun i v _ => v = sidesV Wd A n c A' n' c' ss ds A1 A2 B1 B2 L kl a1 a2 kg b1 b2 k d p er eg cw one two sure i) (Ext w5) (by kernel_rfl) (by kernel_rfl) ⟨rfl, rfl, rfl, Nat.le_refl _, fun _ _ => rfl⟩ (fun _ _ h e => h.trans e) (fun _ _ _ _ h _ => h) sidesD (by kernel_rfl) ?_ ?_
      · intro i o ho a W hB hsz hold haft
        have hi : i < 37 := (Array.getElem?_eq_some_iff.1 ho).1
        have hx := HX.out
        match i, hi with
        | 0, _ => exact sides_op0 (hold 11 (by kernel_rfl)) ho
        | 1, _ => exact sides_op1 (hold 13 (by kernel_rfl)) ho
        | 2, _ => exact sides_op2 cI hB haft ho
        | 3, _ => exact sides_op3 haft ho
        | 4, _ => exact sides_op4 (hold 12 (by kernel_rfl)) haft ho
        | 5, _ => exact sides_op5 (hold 14 (by kernel_rfl)) haft ho
        | 6, _ => exact sides_op6 haft ho
        | 7, _ => exact sides_op7 haft ho
        | 8, _ => exact sides_op8 haft ho
        | 9, _ => exact sides_op9 (hold 15 (by kernel_rfl)) haft ho
        | 10, _ => exact sides_op10 (hold 17 (by kernel_rfl)) haft ho
        | 11, _ => exact sides_op11 cL hB haft ho
        | 12, _ => exact sides_op12 haft ho
        | 13, _ => exact sides_op13 haft ho
        | 14, _ => exact sides_op14 (hold 16 (by kernel_rfl)) haft ho
        | 15, _ => exact sides_op15 (hold 18 (by kernel_rfl)) haft ho
        | 16, _ => exact sides_op16 haft ho
        | 17, _ => exact sides_op17 haft ho
        | 18, _ => exact sides_op18 haft ho
        | 19, _ => exact sides_op19 (hold 5 (by kernel_rfl)) hx hB haft ho
        | 20, _ => exact sides_op20 (hold 1 (by kernel_rfl)) haft ho
        | 21, _ => exact sides_op21 (hold 2 (by kernel_rfl)) haft ho
        | 22, _ => exact sides_op22 (hold 3 (by kernel_rfl)) haft ho
        | 23, _ => exact sides_op23 (hold 4 (by kernel_rfl)) haft ho
        | 24, _ => exact sides_op24 cP hB haft ho
        | 25, _ => exact sides_op25 (hold 5 (by kernel_rfl)) hx hB haft ho
        | 26, _ => exact sides_op26 (hold 1 (by kernel_rfl)) haft ho
        | 27, _ => exact sides_op27 (hold 2 (by kernel_rfl)) haft ho
        | 28, _ => exact sides_op28 (hold 3 (by kernel_rfl)) haft ho
        | 29, _ => exact sides_op29 (hold 4 (by kernel_rfl)) haft ho
        | 30, _ => exact sides_op30 cR hB haft ho
        | 31, _ => exact sides_op31 haft ho
        | 32, _ => exact sides_op32 haft ho
        | 33, _ => exact sides_op33 haft ho
        | 34, _ => exact sides_op34 cK hB haft ho
        | 35, _ => exact sides_op35 haft ho
        | 36, _ => exact sides_op36 haft ho
        | n + 37, h => exact absurd h (by omega)
      · intro a W hB hsz hdf hold hS
        have e10 : a.eval (.tmp 10) = .bool true := hS 36 (show 36 < sidesReg.size from Nat.lt_of_lt_of_eq (by omega) (show 37 = sidesReg.size by kernel_rfl))
        obtain ⟨tmps, dfs⟩ := a
        obtain rfl : dfs = [] := hdf
        simp only [Exit.then]
        go_at_K
        go_wp2
        exact bodyPost_ret (results_tmp rfl _ _ _) rfl ⟨congrArg Ending.returned e10, HW.out.trans hB⟩
end
end Go.Proofs.Ytckndnaohggmhaa
