/- Texts of the package drop, joined: DropBathsLast, DropBaths. -/
import Derived.Test.YtckndnaohggmhaaC15
import Derived.Test.YtckndnaohggmhaaC23
import Derived.Deep.Cut
/- DropBathsLast: what each of the operations of the last statement yields. -/
namespace Go.Proofs.Ytckndnaohggmhaa
open Go.RowKit Go.Shelf

/-- The slots. -/
def bathsD (i : Nat) : Tmp := if i = 18 then 4 else 24 + i
/-- What each operation yields. -/
def bathsS (Wd : Int) (A : Option Addr) (n c : Nat) (A' : Option Addr) (n' c' : Nat) (ss : List (Int × Int)) (ds : List (Int × Int × Int)) (lo hi er : Int) (i : Nat) (v : Value) (_W : World) : Prop :=
  match i with
  | 0 => v = (.agg #[.int .i64 Wd, .slice A n c, .slice A' n' c'] : Value)
  | 1 => v = .int .i64 (bathErr Wd ss ds)
  | 2 => v = (.agg #[.int .i64 Wd, .slice A n c, .slice A' n' c'] : Value)
  | 3 => v = .int .i64 (bathErr Wd ss ds)
  | 6 => v = .agg #[.int .i64 lo, .int .i64 hi]
  | 7 => v = .agg #[.int .i64 lo, .int .i64 hi]
  | 11 => v = .int .i64 er
  | 12 => v = .int .i64 er
  | _ => v = .bool true
theorem bathsS_ext (Wd : Int) (A : Option Addr) (n c : Nat) (A' : Option Addr) (n' c' : Nat) (ss : List (Int × Int)) (ds : List (Int × Int × Int)) (lo hi er : Int) (i : Nat) (v : Value) (W W' : World) (h : bathsS Wd A n c A' n' c' ss ds lo hi er i v W) (_e : Below W.heap.size W W') : bathsS Wd A n c A' n' c' ss ds lo hi er i v W' := by
  unfold bathsS at h ⊢
  split at h <;> first | exact h | exact Lit.ext h e | (obtain ⟨g, rfl, hh⟩ := h; exact ⟨g, rfl, hh.ext e⟩)
noncomputable def bathsReg : Array Oper := (Try.f3.body.bind (regionOf · 5)).getD #[]
def bathsOk (Wd : Int) (A : Option Addr) (n c : Nat) (A' : Option Addr) (n' c' : Nat) (ss : List (Int × Int)) (ds : List (Int × Int × Int)) (lo hi er : Int) (Q : Exit → Act → World → Prop) (a : Act) (W : World) (i : Nat) (o : Oper) : Prop :=
  (∀ j b, o.guard = some (j, b) → a.eval (.tmp (bathsD j)) = .bool b) ∧ o.wp Try.prog a W (fun a'' W' => ∃ v, a'' = a.put o.dst v ∧ bathsS Wd A n c A' n' c' ss ds lo hi er i v W' ∧ Below W.heap.size W W') Q

section
variable {Wd : Int} {A : Option Addr} {n c : Nat} {A' : Option Addr} {n' c' : Nat} {ss : List (Int × Int)} {ds : List (Int × Int × Int)} {lo hi er : Int} {p2 p5 p7 : Nat} {Q : Exit → Act → World → Prop} {a : Act} {V W : World} {o : Oper}
theorem baths_op0 (o2 : a.eval (.tmp 2) = .pointer (some ⟨p2, 0, none⟩)) (x_p2 : BathAt V p2 Wd A n c A' n' c' ss ds) (ho : bathsReg[0]? = some o) (hB : Ext V W) (_haft : ∀ j, (o.after.any fun e => decide (e.on = j) && Region.binds .any e) = true → bathsS Wd A n c A' n' c' ss ds lo hi er j (a.eval (.tmp (bathsD j))) W) : bathsOk Wd A n c A' n' c' ss ds lo hi er Q a W 0 o := by
  have hop := op_at ho (·.op) (x := .load 25 (.tmp 2)) (by kernel_rfl)
  have hgd := op_at ho (·.guard) (x := none) (by kernel_rfl)
  refine ⟨fun j b h => (by rw [hgd] at h; cases h), ?_⟩
  obtain ⟨q0, q1, q2⟩ := (x_p2.ext hB).cells
  exact specs_value (R := bathsS Wd A n c A' n' c' ss ds lo hi er 0) (v := (.agg #[.int .i64 Wd, .slice A n c, .slice A' n' c'] : Value)) (by simp [execOp, hop, go_sem, ev o2, q0, q1, q2]) rfl (Ext.refl W)
theorem baths_op1 (x_p2 : BathAt V p2 Wd A n c A' n' c' ss ds) (ho : bathsReg[1]? = some o) (hB : Ext V W) (haft : ∀ j, (o.after.any fun e => decide (e.on = j) && Region.binds .any e) = true → bathsS Wd A n c A' n' c' ss ds lo hi er j (a.eval (.tmp (bathsD j))) W) : bathsOk Wd A n c A' n' c' ss ds lo hi er Q a W 1 o := by
  have hop := op_at ho (·.op) (x := .call { callee := .value (.func 19), args := #[.tmp 24], argTypes := #[25] }) (by kernel_rfl)
  have hgd := op_at ho (·.guard) (x := none) (by kernel_rfl)
  have e0 : a.eval (.tmp 24) = (.agg #[.int .i64 Wd, .slice A n c, .slice A' n' c'] : Value) := haft 0 (op_at ho (fun o => o.after.any fun e => decide (e.on = 0) && Region.binds .any e) (x := true) (by kernel_rfl))
  refine ⟨fun j b h => (by rw [hgd] at h; cases h), ?_⟩
  exact specs_call (R := bathsS Wd A n c A' n' c' ss ds lo hi er 1) (f := 19) (args := #[(.agg #[.int .i64 Wd, .slice A n c, .slice A' n' c'] : Value)]) (by simp [execOp, hop, go_sem, ev e0]) ((checkBath Wd A n c A' n' c' ss ds W (x_p2.ext hB).bath).mono fun e w' h => ⟨_, h.1, rfl, h.2⟩)
theorem baths_op2 (o2 : a.eval (.tmp 2) = .pointer (some ⟨p2, 0, none⟩)) (x_p2 : BathAt V p2 Wd A n c A' n' c' ss ds) (ho : bathsReg[2]? = some o) (hB : Ext V W) (_haft : ∀ j, (o.after.any fun e => decide (e.on = j) && Region.binds .any e) = true → bathsS Wd A n c A' n' c' ss ds lo hi er j (a.eval (.tmp (bathsD j))) W) : bathsOk Wd A n c A' n' c' ss ds lo hi er Q a W 2 o := by
  have hop := op_at ho (·.op) (x := .load 25 (.tmp 2)) (by kernel_rfl)
  have hgd := op_at ho (·.guard) (x := none) (by kernel_rfl)
  refine ⟨fun j b h => (by rw [hgd] at h; cases h), ?_⟩
  obtain ⟨q0, q1, q2⟩ := (x_p2.ext hB).cells
  exact specs_value (R := bathsS Wd A n c A' n' c' ss ds lo hi er 2) (v := (.agg #[.int .i64 Wd, .slice A n c, .slice A' n' c'] : Value)) (by simp [execOp, hop, go_sem, ev o2, q0, q1, q2]) rfl (Ext.refl W)
theorem baths_op3 (x_p2 : BathAt V p2 Wd A n c A' n' c' ss ds) (ho : bathsReg[3]? = some o) (hB : Ext V W) (haft : ∀ j, (o.after.any fun e => decide (e.on = j) && Region.binds .any e) = true → bathsS Wd A n c A' n' c' ss ds lo hi er j (a.eval (.tmp (bathsD j))) W) : bathsOk Wd A n c A' n' c' ss ds lo hi er Q a W 3 o := by
  have hop := op_at ho (·.op) (x := .call { callee := .value (.func 20), args := #[.tmp 26], argTypes := #[25] }) (by kernel_rfl)
  have hgd := op_at ho (·.guard) (x := none) (by kernel_rfl)
  have e2 : a.eval (.tmp 26) = (.agg #[.int .i64 Wd, .slice A n c, .slice A' n' c'] : Value) := haft 2 (op_at ho (fun o => o.after.any fun e => decide (e.on = 2) && Region.binds .any e) (x := true) (by kernel_rfl))
  refine ⟨fun j b h => (by rw [hgd] at h; cases h), ?_⟩
  exact specs_call (R := bathsS Wd A n c A' n' c' ss ds lo hi er 3) (f := 20) (args := #[(.agg #[.int .i64 Wd, .slice A n c, .slice A' n' c'] : Value)]) (by simp [execOp, hop, go_sem, ev e2]) ((checkBath_ref (Wd := Wd) (x_p2.ext hB).bath).mono fun e w' h => ⟨_, h.1, rfl, h.2⟩)
theorem baths_op4 (ho : bathsReg[4]? = some o) (_hB : Ext V W) (haft : ∀ j, (o.after.any fun e => decide (e.on = j) && Region.binds .any e) = true → bathsS Wd A n c A' n' c' ss ds lo hi er j (a.eval (.tmp (bathsD j))) W) : bathsOk Wd A n c A' n' c' ss ds lo hi er Q a W 4 o := by
  have hop := op_at ho (·.op) (x := .binOp .eql 30 (.tmp 25) (.tmp 27) 30) (by kernel_rfl)
  have hgd := op_at ho (·.guard) (x := none) (by kernel_rfl)
  have e1 : a.eval (.tmp 25) = .int .i64 (bathErr Wd ss ds) := haft 1 (op_at ho (fun o => o.after.any fun e => decide (e.on = 1) && Region.binds .any e) (x := true) (by kernel_rfl))
  have e3 : a.eval (.tmp 27) = .int .i64 (bathErr Wd ss ds) := haft 3 (op_at ho (fun o => o.after.any fun e => decide (e.on = 3) && Region.binds .any e) (x := true) (by kernel_rfl))
  refine ⟨fun j b h => (by rw [hgd] at h; cases h), ?_⟩
  exact specs_value (R := bathsS Wd A n c A' n' c' ss ds lo hi er 4) (v := .bool true) (by simp [execOp, hop, go_sem, ev e1, ev e3]) rfl (Ext.refl W)
theorem baths_op5 (ho : bathsReg[5]? = some o) (_hB : Ext V W) (haft : ∀ j, (o.after.any fun e => decide (e.on = j) && Region.binds .any e) = true → bathsS Wd A n c A' n' c' ss ds lo hi er j (a.eval (.tmp (bathsD j))) W) : bathsOk Wd A n c A' n' c' ss ds lo hi er Q a W 5 o := by
  have hop := op_at ho (·.op) (x := .move (.tmp 28)) (by kernel_rfl)
  have hgd := op_at ho (·.guard) (x := none) (by kernel_rfl)
  have e4 : a.eval (.tmp 28) = .bool true := haft 4 (op_at ho (fun o => o.after.any fun e => decide (e.on = 4) && Region.binds .any e) (x := true) (by kernel_rfl))
  refine ⟨fun j b h => (by rw [hgd] at h; cases h), ?_⟩
  exact specs_value (R := bathsS Wd A n c A' n' c' ss ds lo hi er 5) (v := .bool true) (by simp [execOp, hop, go_sem, ev e4]) rfl (Ext.refl W)
theorem baths_op6 (o5 : a.eval (.tmp 5) = .pointer (some ⟨p5, 0, none⟩)) (r_p5 : V.heap[p5]? = some (.cells #[.int .i64 lo, .int .i64 hi] 29 (0, 0))) (ho : bathsReg[6]? = some o) (hB : Ext V W) (haft : ∀ j, (o.after.any fun e => decide (e.on = j) && Region.binds .any e) = true → bathsS Wd A n c A' n' c' ss ds lo hi er j (a.eval (.tmp (bathsD j))) W) : bathsOk Wd A n c A' n' c' ss ds lo hi er Q a W 6 o := by
  have hop := op_at ho (·.op) (x := .load 29 (.tmp 5)) (by kernel_rfl)
  have hgd := op_at ho (·.guard) (x := some (5, true)) (by kernel_rfl)
  have e5 : a.eval (.tmp 29) = .bool true := haft 5 (op_at ho (fun o => o.after.any fun e => decide (e.on = 5) && Region.binds .any e) (x := true) (by kernel_rfl))
  refine ⟨fun j b h => (by rw [hgd] at h; cases h; exact e5), ?_⟩
  have hl0 : W.cell? ⟨p5, 0, none⟩ = some (.int .i64 lo) := cell_of_row _ _ 0 _ _ _ (row_ext r_p5 hB)
  have hl1 : W.cell? ⟨p5, 1, none⟩ = some (.int .i64 hi) := cell_of_row _ _ 1 _ _ _ (row_ext r_p5 hB)
  exact specs_value (R := bathsS Wd A n c A' n' c' ss ds lo hi er 6) (v := .agg #[.int .i64 lo, .int .i64 hi]) (by simp [execOp, hop, go_sem, ev o5, hl0, hl1]) rfl (Ext.refl W)
theorem baths_op7 (o7 : a.eval (.tmp 7) = .pointer (some ⟨p7, 0, none⟩)) (r_p7 : V.heap[p7]? = some (.cells #[.int .i64 lo, .int .i64 hi] 29 (0, 0))) (ho : bathsReg[7]? = some o) (hB : Ext V W) (haft : ∀ j, (o.after.any fun e => decide (e.on = j) && Region.binds .any e) = true → bathsS Wd A n c A' n' c' ss ds lo hi er j (a.eval (.tmp (bathsD j))) W) : bathsOk Wd A n c A' n' c' ss ds lo hi er Q a W 7 o := by
  have hop := op_at ho (·.op) (x := .load 29 (.tmp 7)) (by kernel_rfl)
  have hgd := op_at ho (·.guard) (x := some (5, true)) (by kernel_rfl)
  have e5 : a.eval (.tmp 29) = .bool true := haft 5 (op_at ho (fun o => o.after.any fun e => decide (e.on = 5) && Region.binds .any e) (x := true) (by kernel_rfl))
  refine ⟨fun j b h => (by rw [hgd] at h; cases h; exact e5), ?_⟩
  have hl0 : W.cell? ⟨p7, 0, none⟩ = some (.int .i64 lo) := cell_of_row _ _ 0 _ _ _ (row_ext r_p7 hB)
  have hl1 : W.cell? ⟨p7, 1, none⟩ = some (.int .i64 hi) := cell_of_row _ _ 1 _ _ _ (row_ext r_p7 hB)
  exact specs_value (R := bathsS Wd A n c A' n' c' ss ds lo hi er 7) (v := .agg #[.int .i64 lo, .int .i64 hi]) (by simp [execOp, hop, go_sem, ev o7, hl0, hl1]) rfl (Ext.refl W)
theorem baths_op8 (ho : bathsReg[8]? = some o) (_hB : Ext V W) (haft : ∀ j, (o.after.any fun e => decide (e.on = j) && Region.binds .any e) = true → bathsS Wd A n c A' n' c' ss ds lo hi er j (a.eval (.tmp (bathsD j))) W) : bathsOk Wd A n c A' n' c' ss ds lo hi er Q a W 8 o := by
  have hop := op_at ho (·.op) (x := .binOp .eql 29 (.tmp 30) (.tmp 31) 29) (by kernel_rfl)
  have hgd := op_at ho (·.guard) (x := some (5, true)) (by kernel_rfl)
  have e6 : a.eval (.tmp 30) = .agg #[.int .i64 lo, .int .i64 hi] := haft 6 (op_at ho (fun o => o.after.any fun e => decide (e.on = 6) && Region.binds .any e) (x := true) (by kernel_rfl))
  have e7 : a.eval (.tmp 31) = .agg #[.int .i64 lo, .int .i64 hi] := haft 7 (op_at ho (fun o => o.after.any fun e => decide (e.on = 7) && Region.binds .any e) (x := true) (by kernel_rfl))
  have e5 : a.eval (.tmp 29) = .bool true := haft 5 (op_at ho (fun o => o.after.any fun e => decide (e.on = 5) && Region.binds .any e) (x := true) (by kernel_rfl))
  refine ⟨fun j b h => (by rw [hgd] at h; cases h; exact e5), ?_⟩
  exact specs_value (R := bathsS Wd A n c A' n' c' ss ds lo hi er 8) (v := .bool true) (by simp [execOp, hop, go_sem, ev e6, ev e7]) rfl (Ext.refl W)
theorem baths_op9 (ho : bathsReg[9]? = some o) (_hB : Ext V W) (haft : ∀ j, (o.after.any fun e => decide (e.on = j) && Region.binds .any e) = true → bathsS Wd A n c A' n' c' ss ds lo hi er j (a.eval (.tmp (bathsD j))) W) : bathsOk Wd A n c A' n' c' ss ds lo hi er Q a W 9 o := by
  have hop := op_at ho (·.op) (x := .pick (.tmp 29) (.tmp 32) (.const (.bool false))) (by kernel_rfl)
  have hgd := op_at ho (·.guard) (x := none) (by kernel_rfl)
  have e5 : a.eval (.tmp 29) = .bool true := haft 5 (op_at ho (fun o => o.after.any fun e => decide (e.on = 5) && Region.binds .any e) (x := true) (by kernel_rfl))
  have e8 : a.eval (.tmp 32) = .bool true := haft 8 (op_at ho (fun o => o.after.any fun e => decide (e.on = 8) && Region.binds .any e) (x := true) (by kernel_rfl))
  refine ⟨fun j b h => (by rw [hgd] at h; cases h), ?_⟩
  exact specs_value (R := bathsS Wd A n c A' n' c' ss ds lo hi er 9) (v := .bool true) (by simp [execOp, hop, go_sem, ev e5, ev e8]) rfl (Ext.refl W)
theorem baths_op10 (ho : bathsReg[10]? = some o) (_hB : Ext V W) (haft : ∀ j, (o.after.any fun e => decide (e.on = j) && Region.binds .any e) = true → bathsS Wd A n c A' n' c' ss ds lo hi er j (a.eval (.tmp (bathsD j))) W) : bathsOk Wd A n c A' n' c' ss ds lo hi er Q a W 10 o := by
  have hop := op_at ho (·.op) (x := .move (.tmp 33)) (by kernel_rfl)
  have hgd := op_at ho (·.guard) (x := none) (by kernel_rfl)
  have e9 : a.eval (.tmp 33) = .bool true := haft 9 (op_at ho (fun o => o.after.any fun e => decide (e.on = 9) && Region.binds .any e) (x := true) (by kernel_rfl))
  refine ⟨fun j b h => (by rw [hgd] at h; cases h), ?_⟩
  exact specs_value (R := bathsS Wd A n c A' n' c' ss ds lo hi er 10) (v := .bool true) (by simp [execOp, hop, go_sem, ev e9]) rfl (Ext.refl W)
theorem baths_op11 (o6 : a.eval (.tmp 6) = .int .i64 er) (ho : bathsReg[11]? = some o) (_hB : Ext V W) (haft : ∀ j, (o.after.any fun e => decide (e.on = j) && Region.binds .any e) = true → bathsS Wd A n c A' n' c' ss ds lo hi er j (a.eval (.tmp (bathsD j))) W) : bathsOk Wd A n c A' n' c' ss ds lo hi er Q a W 11 o := by
  have hop := op_at ho (·.op) (x := .move (.tmp 6)) (by kernel_rfl)
  have hgd := op_at ho (·.guard) (x := some (10, true)) (by kernel_rfl)
  have e10 : a.eval (.tmp 34) = .bool true := haft 10 (op_at ho (fun o => o.after.any fun e => decide (e.on = 10) && Region.binds .any e) (x := true) (by kernel_rfl))
  refine ⟨fun j b h => (by rw [hgd] at h; cases h; exact e10), ?_⟩
  exact specs_value (R := bathsS Wd A n c A' n' c' ss ds lo hi er 11) (v := .int .i64 er) (by simp [execOp, hop, go_sem, ev o6]) rfl (Ext.refl W)
theorem baths_op12 (o8 : a.eval (.tmp 8) = .int .i64 er) (ho : bathsReg[12]? = some o) (_hB : Ext V W) (haft : ∀ j, (o.after.any fun e => decide (e.on = j) && Region.binds .any e) = true → bathsS Wd A n c A' n' c' ss ds lo hi er j (a.eval (.tmp (bathsD j))) W) : bathsOk Wd A n c A' n' c' ss ds lo hi er Q a W 12 o := by
  have hop := op_at ho (·.op) (x := .move (.tmp 8)) (by kernel_rfl)
  have hgd := op_at ho (·.guard) (x := some (10, true)) (by kernel_rfl)
  have e10 : a.eval (.tmp 34) = .bool true := haft 10 (op_at ho (fun o => o.after.any fun e => decide (e.on = 10) && Region.binds .any e) (x := true) (by kernel_rfl))
  refine ⟨fun j b h => (by rw [hgd] at h; cases h; exact e10), ?_⟩
  exact specs_value (R := bathsS Wd A n c A' n' c' ss ds lo hi er 12) (v := .int .i64 er) (by simp [execOp, hop, go_sem, ev o8]) rfl (Ext.refl W)
theorem baths_op13 (ho : bathsReg[13]? = some o) (_hB : Ext V W) (haft : ∀ j, (o.after.any fun e => decide (e.on = j) && Region.binds .any e) = true → bathsS Wd A n c A' n' c' ss ds lo hi er j (a.eval (.tmp (bathsD j))) W) : bathsOk Wd A n c A' n' c' ss ds lo hi er Q a W 13 o := by
  have hop := op_at ho (·.op) (x := .binOp .eql 30 (.tmp 35) (.tmp 36) 30) (by kernel_rfl)
  have hgd := op_at ho (·.guard) (x := some (10, true)) (by kernel_rfl)
  have e11 : a.eval (.tmp 35) = .int .i64 er := haft 11 (op_at ho (fun o => o.after.any fun e => decide (e.on = 11) && Region.binds .any e) (x := true) (by kernel_rfl))
  have e12 : a.eval (.tmp 36) = .int .i64 er := haft 12 (op_at ho (fun o => o.after.any fun e => decide (e.on = 12) && Region.binds .any e) (x := true) (by kernel_rfl))
  have e10 : a.eval (.tmp 34) = .bool true := haft 10 (op_at ho (fun o => o.after.any fun e => decide (e.on = 10) && Region.binds .any e) (x := true) (by kernel_rfl))
  refine ⟨fun j b h => (by rw [hgd] at h; cases h; exact e10), ?_⟩
  exact specs_value (R := bathsS Wd A n c A' n' c' ss ds lo hi er 13) (v := .bool true) (by simp [execOp, hop, go_sem, ev e11, ev e12]) rfl (Ext.refl W)
theorem baths_op14 (ho : bathsReg[14]? = some o) (_hB : Ext V W) (haft : ∀ j, (o.after.any fun e => decide (e.on = j) && Region.binds .any e) = true → bathsS Wd A n c A' n' c' ss ds lo hi er j (a.eval (.tmp (bathsD j))) W) : bathsOk Wd A n c A' n' c' ss ds lo hi er Q a W 14 o := by
  have hop := op_at ho (·.op) (x := .pick (.tmp 34) (.tmp 37) (.const (.bool false))) (by kernel_rfl)
  have hgd := op_at ho (·.guard) (x := none) (by kernel_rfl)
  have e10 : a.eval (.tmp 34) = .bool true := haft 10 (op_at ho (fun o => o.after.any fun e => decide (e.on = 10) && Region.binds .any e) (x := true) (by kernel_rfl))
  have e13 : a.eval (.tmp 37) = .bool true := haft 13 (op_at ho (fun o => o.after.any fun e => decide (e.on = 13) && Region.binds .any e) (x := true) (by kernel_rfl))
  refine ⟨fun j b h => (by rw [hgd] at h; cases h), ?_⟩
  exact specs_value (R := bathsS Wd A n c A' n' c' ss ds lo hi er 14) (v := .bool true) (by simp [execOp, hop, go_sem, ev e10, ev e13]) rfl (Ext.refl W)
theorem baths_op15 (ho : bathsReg[15]? = some o) (_hB : Ext V W) (haft : ∀ j, (o.after.any fun e => decide (e.on = j) && Region.binds .any e) = true → bathsS Wd A n c A' n' c' ss ds lo hi er j (a.eval (.tmp (bathsD j))) W) : bathsOk Wd A n c A' n' c' ss ds lo hi er Q a W 15 o := by
  have hop := op_at ho (·.op) (x := .move (.tmp 38)) (by kernel_rfl)
  have hgd := op_at ho (·.guard) (x := none) (by kernel_rfl)
  have e14 : a.eval (.tmp 38) = .bool true := haft 14 (op_at ho (fun o => o.after.any fun e => decide (e.on = 14) && Region.binds .any e) (x := true) (by kernel_rfl))
  refine ⟨fun j b h => (by rw [hgd] at h; cases h), ?_⟩
  exact specs_value (R := bathsS Wd A n c A' n' c' ss ds lo hi er 15) (v := .bool true) (by simp [execOp, hop, go_sem, ev e14]) rfl (Ext.refl W)
theorem baths_op16 (ho : bathsReg[16]? = some o) (_hB : Ext V W) (haft : ∀ j, (o.after.any fun e => decide (e.on = j) && Region.binds .any e) = true → bathsS Wd A n c A' n' c' ss ds lo hi er j (a.eval (.tmp (bathsD j))) W) : bathsOk Wd A n c A' n' c' ss ds lo hi er Q a W 16 o := by
  have hop := op_at ho (·.op) (x := .call { callee := .value (.func 16), args := #[], argTypes := #[] }) (by kernel_rfl)
  have hgd := op_at ho (·.guard) (x := some (15, true)) (by kernel_rfl)
  have e15 : a.eval (.tmp 39) = .bool true := haft 15 (op_at ho (fun o => o.after.any fun e => decide (e.on = 15) && Region.binds .any e) (x := true) (by kernel_rfl))
  refine ⟨fun j b h => (by rw [hgd] at h; cases h; exact e15), ?_⟩
  exact specs_call (R := bathsS Wd A n c A' n' c' ss ds lo hi er 16) (f := 16) (args := #[]) (by simp [execOp, hop, go_sem]) ((works_any W).mono fun e w' h => ⟨_, h.1, rfl, h.2⟩)
theorem baths_op17 (ho : bathsReg[17]? = some o) (_hB : Ext V W) (haft : ∀ j, (o.after.any fun e => decide (e.on = j) && Region.binds .any e) = true → bathsS Wd A n c A' n' c' ss ds lo hi er j (a.eval (.tmp (bathsD j))) W) : bathsOk Wd A n c A' n' c' ss ds lo hi er Q a W 17 o := by
  have hop := op_at ho (·.op) (x := .pick (.tmp 39) (.tmp 40) (.const (.bool false))) (by kernel_rfl)
  have hgd := op_at ho (·.guard) (x := none) (by kernel_rfl)
  have e15 : a.eval (.tmp 39) = .bool true := haft 15 (op_at ho (fun o => o.after.any fun e => decide (e.on = 15) && Region.binds .any e) (x := true) (by kernel_rfl))
  have e16 : a.eval (.tmp 40) = .bool true := haft 16 (op_at ho (fun o => o.after.any fun e => decide (e.on = 16) && Region.binds .any e) (x := true) (by kernel_rfl))
  refine ⟨fun j b h => (by rw [hgd] at h; cases h), ?_⟩
  exact specs_value (R := bathsS Wd A n c A' n' c' ss ds lo hi er 17) (v := .bool true) (by simp [execOp, hop, go_sem, ev e15, ev e16]) rfl (Ext.refl W)
theorem baths_op18 (ho : bathsReg[18]? = some o) (_hB : Ext V W) (haft : ∀ j, (o.after.any fun e => decide (e.on = j) && Region.binds .any e) = true → bathsS Wd A n c A' n' c' ss ds lo hi er j (a.eval (.tmp (bathsD j))) W) : bathsOk Wd A n c A' n' c' ss ds lo hi er Q a W 18 o := by
  have hop := op_at ho (·.op) (x := .assign (.tmp 41)) (by kernel_rfl)
  have hgd := op_at ho (·.guard) (x := none) (by kernel_rfl)
  have e17 : a.eval (.tmp 41) = .bool true := haft 17 (op_at ho (fun o => o.after.any fun e => decide (e.on = 17) && Region.binds .any e) (x := true) (by kernel_rfl))
  refine ⟨fun j b h => (by rw [hgd] at h; cases h), ?_⟩
  exact specs_value (R := bathsS Wd A n c A' n' c' ss ds lo hi er 18) (v := .bool true) (by simp [execOp, hop, go_sem, ev e17]) rfl (Ext.refl W)
end
end Go.Proofs.Ytckndnaohggmhaa

/- DropBaths: the walk. -/
namespace Go.Proofs.Ytckndnaohggmhaa
open Go.RowKit Go.Shelf

section
variable {w : World} {Wd : Int} {A : Option Addr} {n c : Nat} {A' : Option Addr} {n' c' : Nat} {ss : List (Int × Int)} {ds : List (Int × Int × Int)}

set_option maxRecDepth 100000 in
set_option maxHeartbeats 2000000 in
theorem dropBaths_any (x : Int) (hb : IsBath w w.heap.size A n c A' n' c' ss ds) :
    Calls Try.prog 3 #[.agg #[.int .i64 Wd, .slice A n c, .slice A' n' c'], .int .i64 x] w fun e w' => e = .returned (.bool true) ∧ Ext w w' := by
  have hX0 : BathAt (w.alloc (.cells #[.int .i64 Wd, .slice A n c, .slice A' n' c'] 25)) w.heap.size Wd A n c A' n' c' ss ds := BathAt.new hb
  have hE0 : Ext w (w.alloc (.cells #[.int .i64 Wd, .slice A n c, .slice A' n' c'] 25)) := ext_alloc w _
  have cG := great_any Wd A A' n c n' c' (w.alloc (.cells #[.int .i64 Wd, .slice A n c, .slice A' n' c'] 25))
  cases hg : (decide (15 < n) || decide (50 < n')) with
  | true =>
    rw [hg] at cG
    clear hg hb hX0
    go_enter Try.func3, Try.ntmps3
    go_wp2_with fail
    refine cG.mono ?_
    rintro e w1 ⟨rfl, hb1⟩
    have hE1 := Lib.hid (hE0.trans hb1)
    clear hE0 hb1 cG
    go_wp2_with fail
    refine (works_any _).mono ?_
    rintro e w2 ⟨rfl, hb2⟩
    go_wp2
    go_ret
    exact ⟨rfl, hE1.out.trans hb2⟩
  | false =>
    rw [hg] at cG
    obtain ⟨lo, hi, er, hr⟩ : ∃ lo hi er, sizeAns Wd ss ds x = ((lo, hi), er) := ⟨_, _, _, rfl⟩
    have cP : ∀ W : World, IsBath W W.heap.size A n c A' n' c' ss ds → Calls Try.prog 17 #[.agg #[.int .i64 Wd, .slice A n c, .slice A' n' c'], .int .i64 x] W fun e w' => e = .returned (.tuple #[.agg #[.int .i64 lo, .int .i64 hi], .int .i64 er]) ∧ Ext W w' := fun W h => by
      have := size_any (Wd := Wd) x h
      rw [hr] at this
      exact this
    have cR : ∀ W : World, IsBath W W.heap.size A n c A' n' c' ss ds → Calls Try.prog 18 #[.agg #[.int .i64 Wd, .slice A n c, .slice A' n' c'], .int .i64 x] W fun e w' => e = .returned (.tuple #[.agg #[.int .i64 lo, .int .i64 hi], .int .i64 er]) ∧ Ext W w' := fun W h => by
      have := size_ref (Wd := Wd) x h
      rw [hr] at this
      exact this
    clear hg hb hr
    go_enter Try.func3, Try.ntmps3
    go_wp2_with fail
    refine cG.mono ?_
    rintro e w1 ⟨rfl, hb1⟩
    have x_p2 := hX0.ext hb1
    have eW := hE0.trans hb1
    clear hE0 hb1 cG hX0
    obtain ⟨q0, q1, q2⟩ := x_p2.cells
    go_wp2_with fail
    refine (cP _ x_p2.bath).mono ?_
    rintro e w2 ⟨rfl, eV⟩
    replace x_p2 := x_p2.ext eV
    replace eW := eW.trans eV
    clear eV q0 q1 q2 cP
    go_upto_region 4 with fail
    obtain ⟨w3, hW, r_p5, eV⟩ : ∃ W, w2.alloc (.cells #[.int .i64 lo, .int .i64 hi] 29) = W ∧ W.heap[w2.heap.size]? = some (.cells #[.int .i64 lo, .int .i64 hi] 29 (0, 0)) ∧ Ext w2 W := ⟨_, rfl, row_last _ _ _ rfl, ext_alloc _ _⟩
    rw [hW]
    replace x_p2 := x_p2.ext eV
    replace eW := eW.trans eV
    clear hW eV
    generalize w2.heap.size = p5 at r_p5 ⊢
    obtain ⟨q0, q1, q2⟩ := x_p2.cells
    go_wp2_with fail
    refine (cR _ x_p2.bath).mono ?_
    rintro e w4 ⟨rfl, eV⟩
    replace x_p2 := x_p2.ext eV
    replace eW := eW.trans eV
    replace r_p5 := row_ext r_p5 eV
    clear eV q0 q1 q2 cR
    go_upto_region 5 with fail
    obtain ⟨w5, hW, r_p7, eV⟩ : ∃ W, w4.alloc (.cells #[.int .i64 lo, .int .i64 hi] 29) = W ∧ W.heap[w4.heap.size]? = some (.cells #[.int .i64 lo, .int .i64 hi] 29 (0, 0)) ∧ Ext w4 W := ⟨_, rfl, row_last _ _ _ rfl, ext_alloc _ _⟩
    rw [hW]
    replace x_p2 := x_p2.ext eV
    replace eW := eW.trans eV
    replace r_p5 := row_ext r_p5 eV
    clear hW eV
    generalize w4.heap.size = p7 at r_p7 ⊢
    have HW := Lib.hid eW
    generalize w.heap.size = p2 at x_p2 ⊢
    refine wp_region_specs (ops := bathsReg) (bathsS Wd A n c A' n' c' ss ds lo hi er) (Ext w5) (by kernel_rfl) (by kernel_rfl) ⟨rfl, rfl, rfl, Nat.le_refl _, fun _ _ => rfl⟩ (fun _ _ h e => h.trans e) (bathsS_ext Wd A n c A' n' c' ss ds lo hi er) bathsD (by kernel_rfl) ?_ ?_
    · intro i o ho a W hB hsz hold haft
      have hi : i < 19 := (Array.getElem?_eq_some_iff.1 ho).1
      match i, hi with
      | 0, _ => exact baths_op0 (hold 2 (by kernel_rfl)) x_p2 ho hB haft
      | 1, _ => exact baths_op1 x_p2 ho hB haft
      | 2, _ => exact baths_op2 (hold 2 (by kernel_rfl)) x_p2 ho hB haft
      | 3, _ => exact baths_op3 x_p2 ho hB haft
      | 4, _ => exact baths_op4 ho hB haft
      | 5, _ => exact baths_op5 ho hB haft
      | 6, _ => exact baths_op6 (hold 5 (by kernel_rfl)) r_p5 ho hB haft
      | 7, _ => exact baths_op7 (hold 7 (by kernel_rfl)) r_p7 ho hB haft
      | 8, _ => exact baths_op8 ho hB haft
      | 9, _ => exact baths_op9 ho hB haft
      | 10, _ => exact baths_op10 ho hB haft
      | 11, _ => exact baths_op11 (hold 6 (by kernel_rfl)) ho hB haft
      | 12, _ => exact baths_op12 (hold 8 (by kernel_rfl)) ho hB haft
      | 13, _ => exact baths_op13 ho hB haft
      | 14, _ => exact baths_op14 ho hB haft
      | 15, _ => exact baths_op15 ho hB haft
      | 16, _ => exact baths_op16 ho hB haft
      | 17, _ => exact baths_op17 ho hB haft
      | 18, _ => exact baths_op18 ho hB haft
      | n + 19, h => exact absurd h (by omega)
    · intro a W hB hsz hdf hold hS
      have e39 : a.eval (.tmp 4) = .bool true := hS 18 (show 18 < bathsReg.size from Nat.lt_of_lt_of_eq (by omega) (show 19 = bathsReg.size by kernel_rfl))
      obtain ⟨tmps, dfs⟩ := a
      obtain rfl : dfs = [] := hdf
      simp only [Exit.then]
      go_at_K
      go_wp2
      exact bodyPost_ret (results_tmp rfl _ _ _) rfl ⟨congrArg Ending.returned e39, HW.out.trans hB⟩
end
end Go.Proofs.Ytckndnaohggmhaa
