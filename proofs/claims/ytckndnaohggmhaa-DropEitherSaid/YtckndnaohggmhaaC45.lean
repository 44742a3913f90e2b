/- Texts of the package drop, joined: CheckSideOps, RefCheckSide. -/
import Derived.Test.YtckndnaohggmhaaC40
import Derived.Test.YtckndnaohggmhaaC43
import Derived.Test.YtckndnaohggmhaaC44
import Derived.Deep.Cut
import Derived.StillTailTactics
import Derived.StillTactics
import Derived.IntWalk
/- CheckSide of the reference: what each operation of its first test yields: no place; the first one; a later one. -/
namespace Go.Proofs.Ytckndnaohggmhaa
open Go.RowKit Go.Shelf

/-- The slots. -/
def csAD (i : Nat) : Tmp := 29 + i
/-- What each operation yields. -/
def csAV (Wd : Int) (A : Option Addr) (n c : Nat) (A' : Option Addr) (n' c' : Nat) (_ss : List (Int × Int)) (_ds : List (Int × Int × Int)) (b off k d i _p : Nat) (x _y : Int) (ix : Nat) : Value :=
  match ix with
  | 0 => (.agg #[.int .i64 Wd, .slice A n c, .slice A' n' c'])
  | 1 => .slice (some ⟨b, off, none⟩) k d
  | 2 => .int .i64 (i : Int)
  | 3 => .pointer (some ⟨b, off + i, none⟩)
  | 4 => .int .i64 x
  | 5 => .bool false
  | 8 => undef
  | 9 => undef
  | 10 => undef
  | 11 => undef
  | 12 => undef
  | 13 => undef
  | 14 => undef
  | 15 => undef
  | 16 => undef
  | 17 => undef
  | 18 => undef
  | 19 => undef
  | 20 => undef
  | 21 => undef
  | _ => .bool true
noncomputable def csAReg : Array Oper := (Try.f40.body.bind (regionOf · 6)).getD #[]
def csAOk (Wd : Int) (A : Option Addr) (n c : Nat) (A' : Option Addr) (n' c' : Nat) (ss : List (Int × Int)) (ds : List (Int × Int × Int)) (b off k d i p : Nat) (x y : Int) (Q : Exit → Act → World → Prop) (a : Act) (W : World) (ix : Nat) (o : Oper) : Prop :=
  ((∀ j b, o.guard = some (j, b) → a.eval (.tmp (csAD j)) = .bool b) ∧ o.wp Try.prog a W (fun a'' W' => ∃ v, a'' = a.put o.dst v ∧ v = csAV Wd A n c A' n' c' ss ds b off k d i p x y ix ∧ Below W.heap.size W W') Q) ∨ ((∃ j b, o.guard = some (j, b) ∧ a.eval (.tmp (csAD j)) ≠ .bool b) ∧ undef = csAV Wd A n c A' n' c' ss ds b off k d i p x y ix)

section
variable {Wd : Int} {A : Option Addr} {n c : Nat} {A' : Option Addr} {n' c' : Nat} {ss : List (Int × Int)} {ds : List (Int × Int × Int)} {b off k d i p : Nat} {x y : Int} {Q : Exit → Act → World → Prop} {a : Act} {V W : World} {o : Oper}
theorem csA_op0 (o5 : a.eval (.tmp 5) = .pointer (some ⟨p, 0, none⟩)) (hx : BathAt V p Wd A n c A' n' c' ss ds) (hB : Ext V W) (ho : csAReg[0]? = some o) : csAOk Wd A n c A' n' c' ss ds b off k d i p x y Q a W 0 o := by
  have hop := op_at ho (·.op) (x := .load 25 (.tmp 5)) (by kernel_rfl)
  have hgd := op_at ho (·.guard) (x := none) (by kernel_rfl)
  left
  refine ⟨fun j b h => (by rw [hgd] at h; cases h), ?_⟩
  obtain ⟨q0, q1, q2⟩ := (hx.ext hB).cells
  exact specs_value (R := fun v _ => v = csAV Wd A n c A' n' c' ss ds b off k d i p x y 0) (v := (.agg #[.int .i64 Wd, .slice A n c, .slice A' n' c'])) (by simp [execOp, hop, go_sem, ev o5, q0, q1, q2]) rfl (Ext.refl W)
theorem csA_op1 (o3 : a.eval (.tmp 3) = .slice (some ⟨b, off, none⟩) k d) (ho : csAReg[1]? = some o) : csAOk Wd A n c A' n' c' ss ds b off k d i p x y Q a W 1 o := by
  have hop := op_at ho (·.op) (x := .move (.tmp 3)) (by kernel_rfl)
  have hgd := op_at ho (·.guard) (x := none) (by kernel_rfl)
  left
  refine ⟨fun j b h => (by rw [hgd] at h; cases h), ?_⟩
  exact specs_value (R := fun v _ => v = csAV Wd A n c A' n' c' ss ds b off k d i p x y 1) (v := .slice (some ⟨b, off, none⟩) k d) (by simp [execOp, hop, go_sem, ev o3]) rfl (Ext.refl W)
theorem csA_op2 (o11 : a.eval (.tmp 11) = .int .i64 (i : Int)) (ho : csAReg[2]? = some o) : csAOk Wd A n c A' n' c' ss ds b off k d i p x y Q a W 2 o := by
  have hop := op_at ho (·.op) (x := .move (.tmp 11)) (by kernel_rfl)
  have hgd := op_at ho (·.guard) (x := none) (by kernel_rfl)
  left
  refine ⟨fun j b h => (by rw [hgd] at h; cases h), ?_⟩
  exact specs_value (R := fun v _ => v = csAV Wd A n c A' n' c' ss ds b off k d i p x y 2) (v := .int .i64 (i : Int)) (by simp [execOp, hop, go_sem, ev o11]) rfl (Ext.refl W)
theorem csA_op3 (hik : i < k) (haft : ∀ j, (o.after.any fun e => decide (e.on = j) && Region.binds .any e) = true → a.eval (.tmp (csAD j)) = csAV Wd A n c A' n' c' ss ds b off k d i p x y j) (ho : csAReg[3]? = some o) : csAOk Wd A n c A' n' c' ss ds b off k d i p x y Q a W 3 o := by
  have hop := op_at ho (·.op) (x := .indexAddr 42 (.tmp 30) (.tmp 31)) (by kernel_rfl)
  have hgd := op_at ho (·.guard) (x := none) (by kernel_rfl)
  have e1 : a.eval (.tmp 30) = .slice (some ⟨b, off, none⟩) k d := haft 1 (op_at ho (fun o => o.after.any fun e => decide (e.on = 1) && Region.binds .any e) (x := true) (by kernel_rfl))
  have e2 : a.eval (.tmp 31) = .int .i64 (i : Int) := haft 2 (op_at ho (fun o => o.after.any fun e => decide (e.on = 2) && Region.binds .any e) (x := true) (by kernel_rfl))
  left
  refine ⟨fun j b h => (by rw [hgd] at h; cases h), ?_⟩
  exact specs_value (R := fun v _ => v = csAV Wd A n c A' n' c' ss ds b off k d i p x y 3) (v := .pointer (some ⟨b, off + i, none⟩)) (by simp [execOp, hop, go_sem, ev e1, ev e2, hik]) rfl (Ext.refl W)
theorem csA_op4 (hcx : ∀ W, Ext V W → W.cell? ⟨b, off + i, none⟩ = some (.int .i64 x)) (hB : Ext V W) (haft : ∀ j, (o.after.any fun e => decide (e.on = j) && Region.binds .any e) = true → a.eval (.tmp (csAD j)) = csAV Wd A n c A' n' c' ss ds b off k d i p x y j) (ho : csAReg[4]? = some o) : csAOk Wd A n c A' n' c' ss ds b off k d i p x y Q a W 4 o := by
  have hop := op_at ho (·.op) (x := .load 3 (.tmp 32)) (by kernel_rfl)
  have hgd := op_at ho (·.guard) (x := none) (by kernel_rfl)
  have e3 : a.eval (.tmp 32) = .pointer (some ⟨b, off + i, none⟩) := haft 3 (op_at ho (fun o => o.after.any fun e => decide (e.on = 3) && Region.binds .any e) (x := true) (by kernel_rfl))
  left
  refine ⟨fun j b h => (by rw [hgd] at h; cases h), ?_⟩
  have hcx' := hcx W hB
  exact specs_value (R := fun v _ => v = csAV Wd A n c A' n' c' ss ds b off k d i p x y 4) (v := .int .i64 x) (by simp [execOp, hop, go_sem, ev e3, hcx']) rfl (Ext.refl W)
theorem csA_op5 (cP : ∀ W, Ext V W → Calls Try.prog 96 #[(.agg #[.int .i64 Wd, .slice A n c, .slice A' n' c']), .int .i64 x] W fun e w' => e = .returned (.bool false) ∧ Below W.heap.size W w') (hB : Ext V W) (haft : ∀ j, (o.after.any fun e => decide (e.on = j) && Region.binds .any e) = true → a.eval (.tmp (csAD j)) = csAV Wd A n c A' n' c' ss ds b off k d i p x y j) (ho : csAReg[5]? = some o) : csAOk Wd A n c A' n' c' ss ds b off k d i p x y Q a W 5 o := by
  have hop := op_at ho (·.op) (x := .call { callee := .value (.func 96), args := #[.tmp 29, .tmp 33], argTypes := #[25, 3] }) (by kernel_rfl)
  have hgd := op_at ho (·.guard) (x := none) (by kernel_rfl)
  have e0 : a.eval (.tmp 29) = (.agg #[.int .i64 Wd, .slice A n c, .slice A' n' c']) := haft 0 (op_at ho (fun o => o.after.any fun e => decide (e.on = 0) && Region.binds .any e) (x := true) (by kernel_rfl))
  have e4 : a.eval (.tmp 33) = .int .i64 x := haft 4 (op_at ho (fun o => o.after.any fun e => decide (e.on = 4) && Region.binds .any e) (x := true) (by kernel_rfl))
  left
  refine ⟨fun j b h => (by rw [hgd] at h; cases h), ?_⟩
  exact specs_call (R := fun v _ => v = csAV Wd A n c A' n' c' ss ds b off k d i p x y 5) (f := 96) (args := #[(.agg #[.int .i64 Wd, .slice A n c, .slice A' n' c']), .int .i64 x]) (by simp [execOp, hop, go_sem, ev e0, ev e4]) ((cP W hB).mono fun e w' h => ⟨_, h.1, rfl, h.2⟩)
theorem csA_op6 (haft : ∀ j, (o.after.any fun e => decide (e.on = j) && Region.binds .any e) = true → a.eval (.tmp (csAD j)) = csAV Wd A n c A' n' c' ss ds b off k d i p x y j) (ho : csAReg[6]? = some o) : csAOk Wd A n c A' n' c' ss ds b off k d i p x y Q a W 6 o := by
  have hop := op_at ho (·.op) (x := .unOp .not 4 (.tmp 34)) (by kernel_rfl)
  have hgd := op_at ho (·.guard) (x := none) (by kernel_rfl)
  have e5 : a.eval (.tmp 34) = .bool false := haft 5 (op_at ho (fun o => o.after.any fun e => decide (e.on = 5) && Region.binds .any e) (x := true) (by kernel_rfl))
  left
  refine ⟨fun j b h => (by rw [hgd] at h; cases h), ?_⟩
  exact specs_value (R := fun v _ => v = csAV Wd A n c A' n' c' ss ds b off k d i p x y 6) (v := .bool true) (by simp [execOp, hop, go_sem, ev e5]) rfl (Ext.refl W)
theorem csA_op7 (haft : ∀ j, (o.after.any fun e => decide (e.on = j) && Region.binds .any e) = true → a.eval (.tmp (csAD j)) = csAV Wd A n c A' n' c' ss ds b off k d i p x y j) (ho : csAReg[7]? = some o) : csAOk Wd A n c A' n' c' ss ds b off k d i p x y Q a W 7 o := by
  have hop := op_at ho (·.op) (x := .move (.tmp 35)) (by kernel_rfl)
  have hgd := op_at ho (·.guard) (x := none) (by kernel_rfl)
  have e6 : a.eval (.tmp 35) = .bool true := haft 6 (op_at ho (fun o => o.after.any fun e => decide (e.on = 6) && Region.binds .any e) (x := true) (by kernel_rfl))
  left
  refine ⟨fun j b h => (by rw [hgd] at h; cases h), ?_⟩
  exact specs_value (R := fun v _ => v = csAV Wd A n c A' n' c' ss ds b off k d i p x y 7) (v := .bool true) (by simp [execOp, hop, go_sem, ev e6]) rfl (Ext.refl W)
theorem csA_op8 (haft : ∀ j, (o.after.any fun e => decide (e.on = j) && Region.binds .any e) = true → a.eval (.tmp (csAD j)) = csAV Wd A n c A' n' c' ss ds b off k d i p x y j) (ho : csAReg[8]? = some o) : csAOk Wd A n c A' n' c' ss ds b off k d i p x y Q a W 8 o := by
  have hgd := op_at ho (·.guard) (x := some (7, false)) (by kernel_rfl)
  have e7 : a.eval (.tmp 36) = .bool true := haft 7 (op_at ho (fun o => o.after.any fun e => decide (e.on = 7) && Region.binds .any e) (x := true) (by kernel_rfl))
  exact .inr ⟨⟨_, _, hgd, by rw [show csAD 7 = 36 from rfl, e7]; simp⟩, rfl⟩
theorem csA_op9 (haft : ∀ j, (o.after.any fun e => decide (e.on = j) && Region.binds .any e) = true → a.eval (.tmp (csAD j)) = csAV Wd A n c A' n' c' ss ds b off k d i p x y j) (ho : csAReg[9]? = some o) : csAOk Wd A n c A' n' c' ss ds b off k d i p x y Q a W 9 o := by
  have hgd := op_at ho (·.guard) (x := some (7, false)) (by kernel_rfl)
  have e7 : a.eval (.tmp 36) = .bool true := haft 7 (op_at ho (fun o => o.after.any fun e => decide (e.on = 7) && Region.binds .any e) (x := true) (by kernel_rfl))
  exact .inr ⟨⟨_, _, hgd, by rw [show csAD 7 = 36 from rfl, e7]; simp⟩, rfl⟩
theorem csA_op10 (haft : ∀ j, (o.after.any fun e => decide (e.on = j) && Region.binds .any e) = true → a.eval (.tmp (csAD j)) = csAV Wd A n c A' n' c' ss ds b off k d i p x y j) (ho : csAReg[10]? = some o) : csAOk Wd A n c A' n' c' ss ds b off k d i p x y Q a W 10 o := by
  have hgd := op_at ho (·.guard) (x := some (7, false)) (by kernel_rfl)
  have e7 : a.eval (.tmp 36) = .bool true := haft 7 (op_at ho (fun o => o.after.any fun e => decide (e.on = 7) && Region.binds .any e) (x := true) (by kernel_rfl))
  exact .inr ⟨⟨_, _, hgd, by rw [show csAD 7 = 36 from rfl, e7]; simp⟩, rfl⟩
theorem csA_op11 (haft : ∀ j, (o.after.any fun e => decide (e.on = j) && Region.binds .any e) = true → a.eval (.tmp (csAD j)) = csAV Wd A n c A' n' c' ss ds b off k d i p x y j) (ho : csAReg[11]? = some o) : csAOk Wd A n c A' n' c' ss ds b off k d i p x y Q a W 11 o := by
  have hgd := op_at ho (·.guard) (x := some (10, true)) (by kernel_rfl)
  have e10 : a.eval (.tmp 39) = undef := haft 10 (op_at ho (fun o => o.after.any fun e => decide (e.on = 10) && Region.binds .any e) (x := true) (by kernel_rfl))
  exact .inr ⟨⟨_, _, hgd, by rw [show csAD 10 = 39 from rfl, e10]; simp [undef]⟩, rfl⟩
theorem csA_op12 (haft : ∀ j, (o.after.any fun e => decide (e.on = j) && Region.binds .any e) = true → a.eval (.tmp (csAD j)) = csAV Wd A n c A' n' c' ss ds b off k d i p x y j) (ho : csAReg[12]? = some o) : csAOk Wd A n c A' n' c' ss ds b off k d i p x y Q a W 12 o := by
  have hgd := op_at ho (·.guard) (x := some (10, true)) (by kernel_rfl)
  have e10 : a.eval (.tmp 39) = undef := haft 10 (op_at ho (fun o => o.after.any fun e => decide (e.on = 10) && Region.binds .any e) (x := true) (by kernel_rfl))
  exact .inr ⟨⟨_, _, hgd, by rw [show csAD 10 = 39 from rfl, e10]; simp [undef]⟩, rfl⟩
theorem csA_op13 (haft : ∀ j, (o.after.any fun e => decide (e.on = j) && Region.binds .any e) = true → a.eval (.tmp (csAD j)) = csAV Wd A n c A' n' c' ss ds b off k d i p x y j) (ho : csAReg[13]? = some o) : csAOk Wd A n c A' n' c' ss ds b off k d i p x y Q a W 13 o := by
  have hgd := op_at ho (·.guard) (x := some (10, true)) (by kernel_rfl)
  have e10 : a.eval (.tmp 39) = undef := haft 10 (op_at ho (fun o => o.after.any fun e => decide (e.on = 10) && Region.binds .any e) (x := true) (by kernel_rfl))
  exact .inr ⟨⟨_, _, hgd, by rw [show csAD 10 = 39 from rfl, e10]; simp [undef]⟩, rfl⟩
theorem csA_op14 (haft : ∀ j, (o.after.any fun e => decide (e.on = j) && Region.binds .any e) = true → a.eval (.tmp (csAD j)) = csAV Wd A n c A' n' c' ss ds b off k d i p x y j) (ho : csAReg[14]? = some o) : csAOk Wd A n c A' n' c' ss ds b off k d i p x y Q a W 14 o := by
  have hgd := op_at ho (·.guard) (x := some (10, true)) (by kernel_rfl)
  have e10 : a.eval (.tmp 39) = undef := haft 10 (op_at ho (fun o => o.after.any fun e => decide (e.on = 10) && Region.binds .any e) (x := true) (by kernel_rfl))
  exact .inr ⟨⟨_, _, hgd, by rw [show csAD 10 = 39 from rfl, e10]; simp [undef]⟩, rfl⟩
theorem csA_op15 (haft : ∀ j, (o.after.any fun e => decide (e.on = j) && Region.binds .any e) = true → a.eval (.tmp (csAD j)) = csAV Wd A n c A' n' c' ss ds b off k d i p x y j) (ho : csAReg[15]? = some o) : csAOk Wd A n c A' n' c' ss ds b off k d i p x y Q a W 15 o := by
  have hgd := op_at ho (·.guard) (x := some (10, true)) (by kernel_rfl)
  have e10 : a.eval (.tmp 39) = undef := haft 10 (op_at ho (fun o => o.after.any fun e => decide (e.on = 10) && Region.binds .any e) (x := true) (by kernel_rfl))
  exact .inr ⟨⟨_, _, hgd, by rw [show csAD 10 = 39 from rfl, e10]; simp [undef]⟩, rfl⟩
theorem csA_op16 (haft : ∀ j, (o.after.any fun e => decide (e.on = j) && Region.binds .any e) = true → a.eval (.tmp (csAD j)) = csAV Wd A n c A' n' c' ss ds b off k d i p x y j) (ho : csAReg[16]? = some o) : csAOk Wd A n c A' n' c' ss ds b off k d i p x y Q a W 16 o := by
  have hgd := op_at ho (·.guard) (x := some (10, true)) (by kernel_rfl)
  have e10 : a.eval (.tmp 39) = undef := haft 10 (op_at ho (fun o => o.after.any fun e => decide (e.on = 10) && Region.binds .any e) (x := true) (by kernel_rfl))
  exact .inr ⟨⟨_, _, hgd, by rw [show csAD 10 = 39 from rfl, e10]; simp [undef]⟩, rfl⟩
theorem csA_op17 (haft : ∀ j, (o.after.any fun e => decide (e.on = j) && Region.binds .any e) = true → a.eval (.tmp (csAD j)) = csAV Wd A n c A' n' c' ss ds b off k d i p x y j) (ho : csAReg[17]? = some o) : csAOk Wd A n c A' n' c' ss ds b off k d i p x y Q a W 17 o := by
  have hgd := op_at ho (·.guard) (x := some (10, true)) (by kernel_rfl)
  have e10 : a.eval (.tmp 39) = undef := haft 10 (op_at ho (fun o => o.after.any fun e => decide (e.on = 10) && Region.binds .any e) (x := true) (by kernel_rfl))
  exact .inr ⟨⟨_, _, hgd, by rw [show csAD 10 = 39 from rfl, e10]; simp [undef]⟩, rfl⟩
theorem csA_op18 (haft : ∀ j, (o.after.any fun e => decide (e.on = j) && Region.binds .any e) = true → a.eval (.tmp (csAD j)) = csAV Wd A n c A' n' c' ss ds b off k d i p x y j) (ho : csAReg[18]? = some o) : csAOk Wd A n c A' n' c' ss ds b off k d i p x y Q a W 18 o := by
  have hgd := op_at ho (·.guard) (x := some (10, true)) (by kernel_rfl)
  have e10 : a.eval (.tmp 39) = undef := haft 10 (op_at ho (fun o => o.after.any fun e => decide (e.on = 10) && Region.binds .any e) (x := true) (by kernel_rfl))
  exact .inr ⟨⟨_, _, hgd, by rw [show csAD 10 = 39 from rfl, e10]; simp [undef]⟩, rfl⟩
theorem csA_op19 (haft : ∀ j, (o.after.any fun e => decide (e.on = j) && Region.binds .any e) = true → a.eval (.tmp (csAD j)) = csAV Wd A n c A' n' c' ss ds b off k d i p x y j) (ho : csAReg[19]? = some o) : csAOk Wd A n c A' n' c' ss ds b off k d i p x y Q a W 19 o := by
  have hgd := op_at ho (·.guard) (x := some (10, true)) (by kernel_rfl)
  have e10 : a.eval (.tmp 39) = undef := haft 10 (op_at ho (fun o => o.after.any fun e => decide (e.on = 10) && Region.binds .any e) (x := true) (by kernel_rfl))
  exact .inr ⟨⟨_, _, hgd, by rw [show csAD 10 = 39 from rfl, e10]; simp [undef]⟩, rfl⟩
theorem csA_op20 (haft : ∀ j, (o.after.any fun e => decide (e.on = j) && Region.binds .any e) = true → a.eval (.tmp (csAD j)) = csAV Wd A n c A' n' c' ss ds b off k d i p x y j) (ho : csAReg[20]? = some o) : csAOk Wd A n c A' n' c' ss ds b off k d i p x y Q a W 20 o := by
  have hgd := op_at ho (·.guard) (x := some (10, true)) (by kernel_rfl)
  have e10 : a.eval (.tmp 39) = undef := haft 10 (op_at ho (fun o => o.after.any fun e => decide (e.on = 10) && Region.binds .any e) (x := true) (by kernel_rfl))
  exact .inr ⟨⟨_, _, hgd, by rw [show csAD 10 = 39 from rfl, e10]; simp [undef]⟩, rfl⟩
theorem csA_op21 (haft : ∀ j, (o.after.any fun e => decide (e.on = j) && Region.binds .any e) = true → a.eval (.tmp (csAD j)) = csAV Wd A n c A' n' c' ss ds b off k d i p x y j) (ho : csAReg[21]? = some o) : csAOk Wd A n c A' n' c' ss ds b off k d i p x y Q a W 21 o := by
  have hgd := op_at ho (·.guard) (x := some (7, false)) (by kernel_rfl)
  have e7 : a.eval (.tmp 36) = .bool true := haft 7 (op_at ho (fun o => o.after.any fun e => decide (e.on = 7) && Region.binds .any e) (x := true) (by kernel_rfl))
  exact .inr ⟨⟨_, _, hgd, by rw [show csAD 7 = 36 from rfl, e7]; simp⟩, rfl⟩
theorem csA_op22 (haft : ∀ j, (o.after.any fun e => decide (e.on = j) && Region.binds .any e) = true → a.eval (.tmp (csAD j)) = csAV Wd A n c A' n' c' ss ds b off k d i p x y j) (ho : csAReg[22]? = some o) : csAOk Wd A n c A' n' c' ss ds b off k d i p x y Q a W 22 o := by
  have hop := op_at ho (·.op) (x := .pick (.tmp 36) (.const (.bool true)) (.tmp 50)) (by kernel_rfl)
  have hgd := op_at ho (·.guard) (x := none) (by kernel_rfl)
  have e7 : a.eval (.tmp 36) = .bool true := haft 7 (op_at ho (fun o => o.after.any fun e => decide (e.on = 7) && Region.binds .any e) (x := true) (by kernel_rfl))
  left
  refine ⟨fun j b h => (by rw [hgd] at h; cases h), ?_⟩
  exact specs_value (R := fun v _ => v = csAV Wd A n c A' n' c' ss ds b off k d i p x y 22) (v := .bool true) (by simp [execOp, hop, go_sem, ev e7]) rfl (Ext.refl W)
end

/-- The slots. -/
def csBD (i : Nat) : Tmp := 29 + i
/-- What each operation yields. -/
def csBV (Wd : Int) (A : Option Addr) (n c : Nat) (A' : Option Addr) (n' c' : Nat) (_ss : List (Int × Int)) (_ds : List (Int × Int × Int)) (b off k d i _p : Nat) (x _y : Int) (ix : Nat) : Value :=
  match ix with
  | 0 => (.agg #[.int .i64 Wd, .slice A n c, .slice A' n' c'])
  | 1 => .slice (some ⟨b, off, none⟩) k d
  | 2 => .int .i64 (i : Int)
  | 3 => .pointer (some ⟨b, off + i, none⟩)
  | 4 => .int .i64 x
  | 6 => .bool false
  | 7 => .bool false
  | 8 => .int .i64 (i : Int)
  | 9 => .bool false
  | 10 => .bool false
  | 11 => undef
  | 12 => undef
  | 13 => undef
  | 14 => undef
  | 15 => undef
  | 16 => undef
  | 17 => undef
  | 18 => undef
  | 19 => undef
  | 20 => undef
  | 21 => .bool false
  | 22 => .bool false
  | _ => .bool true
noncomputable def csBReg : Array Oper := (Try.f40.body.bind (regionOf · 6)).getD #[]
def csBOk (Wd : Int) (A : Option Addr) (n c : Nat) (A' : Option Addr) (n' c' : Nat) (ss : List (Int × Int)) (ds : List (Int × Int × Int)) (b off k d i p : Nat) (x y : Int) (Q : Exit → Act → World → Prop) (a : Act) (W : World) (ix : Nat) (o : Oper) : Prop :=
  ((∀ j b, o.guard = some (j, b) → a.eval (.tmp (csBD j)) = .bool b) ∧ o.wp Try.prog a W (fun a'' W' => ∃ v, a'' = a.put o.dst v ∧ v = csBV Wd A n c A' n' c' ss ds b off k d i p x y ix ∧ Below W.heap.size W W') Q) ∨ ((∃ j b, o.guard = some (j, b) ∧ a.eval (.tmp (csBD j)) ≠ .bool b) ∧ undef = csBV Wd A n c A' n' c' ss ds b off k d i p x y ix)

section
variable {Wd : Int} {A : Option Addr} {n c : Nat} {A' : Option Addr} {n' c' : Nat} {ss : List (Int × Int)} {ds : List (Int × Int × Int)} {b off k d i p : Nat} {x y : Int} {Q : Exit → Act → World → Prop} {a : Act} {V W : World} {o : Oper}
theorem csB_op0 (o5 : a.eval (.tmp 5) = .pointer (some ⟨p, 0, none⟩)) (hx : BathAt V p Wd A n c A' n' c' ss ds) (hB : Ext V W) (ho : csBReg[0]? = some o) : csBOk Wd A n c A' n' c' ss ds b off k d i p x y Q a W 0 o := by
  have hop := op_at ho (·.op) (x := .load 25 (.tmp 5)) (by kernel_rfl)
  have hgd := op_at ho (·.guard) (x := none) (by kernel_rfl)
  left
  refine ⟨fun j b h => (by rw [hgd] at h; cases h), ?_⟩
  obtain ⟨q0, q1, q2⟩ := (hx.ext hB).cells
  exact specs_value (R := fun v _ => v = csBV Wd A n c A' n' c' ss ds b off k d i p x y 0) (v := (.agg #[.int .i64 Wd, .slice A n c, .slice A' n' c'])) (by simp [execOp, hop, go_sem, ev o5, q0, q1, q2]) rfl (Ext.refl W)
theorem csB_op1 (o3 : a.eval (.tmp 3) = .slice (some ⟨b, off, none⟩) k d) (ho : csBReg[1]? = some o) : csBOk Wd A n c A' n' c' ss ds b off k d i p x y Q a W 1 o := by
  have hop := op_at ho (·.op) (x := .move (.tmp 3)) (by kernel_rfl)
  have hgd := op_at ho (·.guard) (x := none) (by kernel_rfl)
  left
  refine ⟨fun j b h => (by rw [hgd] at h; cases h), ?_⟩
  exact specs_value (R := fun v _ => v = csBV Wd A n c A' n' c' ss ds b off k d i p x y 1) (v := .slice (some ⟨b, off, none⟩) k d) (by simp [execOp, hop, go_sem, ev o3]) rfl (Ext.refl W)
theorem csB_op2 (o11 : a.eval (.tmp 11) = .int .i64 (i : Int)) (ho : csBReg[2]? = some o) : csBOk Wd A n c A' n' c' ss ds b off k d i p x y Q a W 2 o := by
  have hop := op_at ho (·.op) (x := .move (.tmp 11)) (by kernel_rfl)
  have hgd := op_at ho (·.guard) (x := none) (by kernel_rfl)
  left
  refine ⟨fun j b h => (by rw [hgd] at h; cases h), ?_⟩
  exact specs_value (R := fun v _ => v = csBV Wd A n c A' n' c' ss ds b off k d i p x y 2) (v := .int .i64 (i : Int)) (by simp [execOp, hop, go_sem, ev o11]) rfl (Ext.refl W)
theorem csB_op3 (hik : i < k) (haft : ∀ j, (o.after.any fun e => decide (e.on = j) && Region.binds .any e) = true → a.eval (.tmp (csBD j)) = csBV Wd A n c A' n' c' ss ds b off k d i p x y j) (ho : csBReg[3]? = some o) : csBOk Wd A n c A' n' c' ss ds b off k d i p x y Q a W 3 o := by
  have hop := op_at ho (·.op) (x := .indexAddr 42 (.tmp 30) (.tmp 31)) (by kernel_rfl)
  have hgd := op_at ho (·.guard) (x := none) (by kernel_rfl)
  have e1 : a.eval (.tmp 30) = .slice (some ⟨b, off, none⟩) k d := haft 1 (op_at ho (fun o => o.after.any fun e => decide (e.on = 1) && Region.binds .any e) (x := true) (by kernel_rfl))
  have e2 : a.eval (.tmp 31) = .int .i64 (i : Int) := haft 2 (op_at ho (fun o => o.after.any fun e => decide (e.on = 2) && Region.binds .any e) (x := true) (by kernel_rfl))
  left
  refine ⟨fun j b h => (by rw [hgd] at h; cases h), ?_⟩
  exact specs_value (R := fun v _ => v = csBV Wd A n c A' n' c' ss ds b off k d i p x y 3) (v := .pointer (some ⟨b, off + i, none⟩)) (by simp [execOp, hop, go_sem, ev e1, ev e2, hik]) rfl (Ext.refl W)
theorem csB_op4 (hcx : ∀ W, Ext V W → W.cell? ⟨b, off + i, none⟩ = some (.int .i64 x)) (hB : Ext V W) (haft : ∀ j, (o.after.any fun e => decide (e.on = j) && Region.binds .any e) = true → a.eval (.tmp (csBD j)) = csBV Wd A n c A' n' c' ss ds b off k d i p x y j) (ho : csBReg[4]? = some o) : csBOk Wd A n c A' n' c' ss ds b off k d i p x y Q a W 4 o := by
  have hop := op_at ho (·.op) (x := .load 3 (.tmp 32)) (by kernel_rfl)
  have hgd := op_at ho (·.guard) (x := none) (by kernel_rfl)
  have e3 : a.eval (.tmp 32) = .pointer (some ⟨b, off + i, none⟩) := haft 3 (op_at ho (fun o => o.after.any fun e => decide (e.on = 3) && Region.binds .any e) (x := true) (by kernel_rfl))
  left
  refine ⟨fun j b h => (by rw [hgd] at h; cases h), ?_⟩
  have hcx' := hcx W hB
  exact specs_value (R := fun v _ => v = csBV Wd A n c A' n' c' ss ds b off k d i p x y 4) (v := .int .i64 x) (by simp [execOp, hop, go_sem, ev e3, hcx']) rfl (Ext.refl W)
theorem csB_op5 (cP : ∀ W, Ext V W → Calls Try.prog 96 #[(.agg #[.int .i64 Wd, .slice A n c, .slice A' n' c']), .int .i64 x] W fun e w' => e = .returned (.bool true) ∧ Below W.heap.size W w') (hB : Ext V W) (haft : ∀ j, (o.after.any fun e => decide (e.on = j) && Region.binds .any e) = true → a.eval (.tmp (csBD j)) = csBV Wd A n c A' n' c' ss ds b off k d i p x y j) (ho : csBReg[5]? = some o) : csBOk Wd A n c A' n' c' ss ds b off k d i p x y Q a W 5 o := by
  have hop := op_at ho (·.op) (x := .call { callee := .value (.func 96), args := #[.tmp 29, .tmp 33], argTypes := #[25, 3] }) (by kernel_rfl)
  have hgd := op_at ho (·.guard) (x := none) (by kernel_rfl)
  have e0 : a.eval (.tmp 29) = (.agg #[.int .i64 Wd, .slice A n c, .slice A' n' c']) := haft 0 (op_at ho (fun o => o.after.any fun e => decide (e.on = 0) && Region.binds .any e) (x := true) (by kernel_rfl))
  have e4 : a.eval (.tmp 33) = .int .i64 x := haft 4 (op_at ho (fun o => o.after.any fun e => decide (e.on = 4) && Region.binds .any e) (x := true) (by kernel_rfl))
  left
  refine ⟨fun j b h => (by rw [hgd] at h; cases h), ?_⟩
  exact specs_call (R := fun v _ => v = csBV Wd A n c A' n' c' ss ds b off k d i p x y 5) (f := 96) (args := #[(.agg #[.int .i64 Wd, .slice A n c, .slice A' n' c']), .int .i64 x]) (by simp [execOp, hop, go_sem, ev e0, ev e4]) ((cP W hB).mono fun e w' h => ⟨_, h.1, rfl, h.2⟩)
theorem csB_op6 (haft : ∀ j, (o.after.any fun e => decide (e.on = j) && Region.binds .any e) = true → a.eval (.tmp (csBD j)) = csBV Wd A n c A' n' c' ss ds b off k d i p x y j) (ho : csBReg[6]? = some o) : csBOk Wd A n c A' n' c' ss ds b off k d i p x y Q a W 6 o := by
  have hop := op_at ho (·.op) (x := .unOp .not 4 (.tmp 34)) (by kernel_rfl)
  have hgd := op_at ho (·.guard) (x := none) (by kernel_rfl)
  have e5 : a.eval (.tmp 34) = .bool true := haft 5 (op_at ho (fun o => o.after.any fun e => decide (e.on = 5) && Region.binds .any e) (x := true) (by kernel_rfl))
  left
  refine ⟨fun j b h => (by rw [hgd] at h; cases h), ?_⟩
  exact specs_value (R := fun v _ => v = csBV Wd A n c A' n' c' ss ds b off k d i p x y 6) (v := .bool false) (by simp [execOp, hop, go_sem, ev e5]) rfl (Ext.refl W)
theorem csB_op7 (haft : ∀ j, (o.after.any fun e => decide (e.on = j) && Region.binds .any e) = true → a.eval (.tmp (csBD j)) = csBV Wd A n c A' n' c' ss ds b off k d i p x y j) (ho : csBReg[7]? = some o) : csBOk Wd A n c A' n' c' ss ds b off k d i p x y Q a W 7 o := by
  have hop := op_at ho (·.op) (x := .move (.tmp 35)) (by kernel_rfl)
  have hgd := op_at ho (·.guard) (x := none) (by kernel_rfl)
  have e6 : a.eval (.tmp 35) = .bool false := haft 6 (op_at ho (fun o => o.after.any fun e => decide (e.on = 6) && Region.binds .any e) (x := true) (by kernel_rfl))
  left
  refine ⟨fun j b h => (by rw [hgd] at h; cases h), ?_⟩
  exact specs_value (R := fun v _ => v = csBV Wd A n c A' n' c' ss ds b off k d i p x y 7) (v := .bool false) (by simp [execOp, hop, go_sem, ev e6]) rfl (Ext.refl W)
theorem csB_op8 (o11 : a.eval (.tmp 11) = .int .i64 (i : Int)) (haft : ∀ j, (o.after.any fun e => decide (e.on = j) && Region.binds .any e) = true → a.eval (.tmp (csBD j)) = csBV Wd A n c A' n' c' ss ds b off k d i p x y j) (ho : csBReg[8]? = some o) : csBOk Wd A n c A' n' c' ss ds b off k d i p x y Q a W 8 o := by
  have hop := op_at ho (·.op) (x := .move (.tmp 11)) (by kernel_rfl)
  have hgd := op_at ho (·.guard) (x := some (7, false)) (by kernel_rfl)
  have e7 : a.eval (.tmp 36) = .bool false := haft 7 (op_at ho (fun o => o.after.any fun e => decide (e.on = 7) && Region.binds .any e) (x := true) (by kernel_rfl))
  left
  refine ⟨fun j b h => (by rw [hgd] at h; cases h; exact e7), ?_⟩
  exact specs_value (R := fun v _ => v = csBV Wd A n c A' n' c' ss ds b off k d i p x y 8) (v := .int .i64 (i : Int)) (by simp [execOp, hop, go_sem, ev o11]) rfl (Ext.refl W)
theorem csB_op9 (hi0 : i = 0) (haft : ∀ j, (o.after.any fun e => decide (e.on = j) && Region.binds .any e) = true → a.eval (.tmp (csBD j)) = csBV Wd A n c A' n' c' ss ds b off k d i p x y j) (ho : csBReg[9]? = some o) : csBOk Wd A n c A' n' c' ss ds b off k d i p x y Q a W 9 o := by
  have hop := op_at ho (·.op) (x := .binOp .gtr 3 (.tmp 37) (.const (.int .i64 0)) 3) (by kernel_rfl)
  have hgd := op_at ho (·.guard) (x := some (7, false)) (by kernel_rfl)
  have e7 : a.eval (.tmp 36) = .bool false := haft 7 (op_at ho (fun o => o.after.any fun e => decide (e.on = 7) && Region.binds .any e) (x := true) (by kernel_rfl))
  have e8 : a.eval (.tmp 37) = .int .i64 (i : Int) := haft 8 (op_at ho (fun o => o.after.any fun e => decide (e.on = 8) && Region.binds .any e) (x := true) (by kernel_rfl))
  left
  refine ⟨fun j b h => (by rw [hgd] at h; cases h; exact e7), ?_⟩
  exact specs_value (R := fun v _ => v = csBV Wd A n c A' n' c' ss ds b off k d i p x y 9) (v := .bool false) (by simp [execOp, hop, go_sem, ev e8, hi0]) rfl (Ext.refl W)
theorem csB_op10 (haft : ∀ j, (o.after.any fun e => decide (e.on = j) && Region.binds .any e) = true → a.eval (.tmp (csBD j)) = csBV Wd A n c A' n' c' ss ds b off k d i p x y j) (ho : csBReg[10]? = some o) : csBOk Wd A n c A' n' c' ss ds b off k d i p x y Q a W 10 o := by
  have hop := op_at ho (·.op) (x := .move (.tmp 38)) (by kernel_rfl)
  have hgd := op_at ho (·.guard) (x := some (7, false)) (by kernel_rfl)
  have e7 : a.eval (.tmp 36) = .bool false := haft 7 (op_at ho (fun o => o.after.any fun e => decide (e.on = 7) && Region.binds .any e) (x := true) (by kernel_rfl))
  have e9 : a.eval (.tmp 38) = .bool false := haft 9 (op_at ho (fun o => o.after.any fun e => decide (e.on = 9) && Region.binds .any e) (x := true) (by kernel_rfl))
  left
  refine ⟨fun j b h => (by rw [hgd] at h; cases h; exact e7), ?_⟩
  exact specs_value (R := fun v _ => v = csBV Wd A n c A' n' c' ss ds b off k d i p x y 10) (v := .bool false) (by simp [execOp, hop, go_sem, ev e9]) rfl (Ext.refl W)
theorem csB_op11 (haft : ∀ j, (o.after.any fun e => decide (e.on = j) && Region.binds .any e) = true → a.eval (.tmp (csBD j)) = csBV Wd A n c A' n' c' ss ds b off k d i p x y j) (ho : csBReg[11]? = some o) : csBOk Wd A n c A' n' c' ss ds b off k d i p x y Q a W 11 o := by
  have hgd := op_at ho (·.guard) (x := some (10, true)) (by kernel_rfl)
  have e10 : a.eval (.tmp 39) = .bool false := haft 10 (op_at ho (fun o => o.after.any fun e => decide (e.on = 10) && Region.binds .any e) (x := true) (by kernel_rfl))
  exact .inr ⟨⟨_, _, hgd, by rw [show csBD 10 = 39 from rfl, e10]; simp⟩, rfl⟩
theorem csB_op12 (haft : ∀ j, (o.after.any fun e => decide (e.on = j) && Region.binds .any e) = true → a.eval (.tmp (csBD j)) = csBV Wd A n c A' n' c' ss ds b off k d i p x y j) (ho : csBReg[12]? = some o) : csBOk Wd A n c A' n' c' ss ds b off k d i p x y Q a W 12 o := by
  have hgd := op_at ho (·.guard) (x := some (10, true)) (by kernel_rfl)
  have e10 : a.eval (.tmp 39) = .bool false := haft 10 (op_at ho (fun o => o.after.any fun e => decide (e.on = 10) && Region.binds .any e) (x := true) (by kernel_rfl))
  exact .inr ⟨⟨_, _, hgd, by rw [show csBD 10 = 39 from rfl, e10]; simp⟩, rfl⟩
theorem csB_op13 (haft : ∀ j, (o.after.any fun e => decide (e.on = j) && Region.binds .any e) = true → a.eval (.tmp (csBD j)) = csBV Wd A n c A' n' c' ss ds b off k d i p x y j) (ho : csBReg[13]? = some o) : csBOk Wd A n c A' n' c' ss ds b off k d i p x y Q a W 13 o := by
  have hgd := op_at ho (·.guard) (x := some (10, true)) (by kernel_rfl)
  have e10 : a.eval (.tmp 39) = .bool false := haft 10 (op_at ho (fun o => o.after.any fun e => decide (e.on = 10) && Region.binds .any e) (x := true) (by kernel_rfl))
  exact .inr ⟨⟨_, _, hgd, by rw [show csBD 10 = 39 from rfl, e10]; simp⟩, rfl⟩
theorem csB_op14 (haft : ∀ j, (o.after.any fun e => decide (e.on = j) && Region.binds .any e) = true → a.eval (.tmp (csBD j)) = csBV Wd A n c A' n' c' ss ds b off k d i p x y j) (ho : csBReg[14]? = some o) : csBOk Wd A n c A' n' c' ss ds b off k d i p x y Q a W 14 o := by
  have hgd := op_at ho (·.guard) (x := some (10, true)) (by kernel_rfl)
  have e10 : a.eval (.tmp 39) = .bool false := haft 10 (op_at ho (fun o => o.after.any fun e => decide (e.on = 10) && Region.binds .any e) (x := true) (by kernel_rfl))
  exact .inr ⟨⟨_, _, hgd, by rw [show csBD 10 = 39 from rfl, e10]; simp⟩, rfl⟩
theorem csB_op15 (haft : ∀ j, (o.after.any fun e => decide (e.on = j) && Region.binds .any e) = true → a.eval (.tmp (csBD j)) = csBV Wd A n c A' n' c' ss ds b off k d i p x y j) (ho : csBReg[15]? = some o) : csBOk Wd A n c A' n' c' ss ds b off k d i p x y Q a W 15 o := by
  have hgd := op_at ho (·.guard) (x := some (10, true)) (by kernel_rfl)
  have e10 : a.eval (.tmp 39) = .bool false := haft 10 (op_at ho (fun o => o.after.any fun e => decide (e.on = 10) && Region.binds .any e) (x := true) (by kernel_rfl))
  exact .inr ⟨⟨_, _, hgd, by rw [show csBD 10 = 39 from rfl, e10]; simp⟩, rfl⟩
theorem csB_op16 (haft : ∀ j, (o.after.any fun e => decide (e.on = j) && Region.binds .any e) = true → a.eval (.tmp (csBD j)) = csBV Wd A n c A' n' c' ss ds b off k d i p x y j) (ho : csBReg[16]? = some o) : csBOk Wd A n c A' n' c' ss ds b off k d i p x y Q a W 16 o := by
  have hgd := op_at ho (·.guard) (x := some (10, true)) (by kernel_rfl)
  have e10 : a.eval (.tmp 39) = .bool false := haft 10 (op_at ho (fun o => o.after.any fun e => decide (e.on = 10) && Region.binds .any e) (x := true) (by kernel_rfl))
  exact .inr ⟨⟨_, _, hgd, by rw [show csBD 10 = 39 from rfl, e10]; simp⟩, rfl⟩
theorem csB_op17 (haft : ∀ j, (o.after.any fun e => decide (e.on = j) && Region.binds .any e) = true → a.eval (.tmp (csBD j)) = csBV Wd A n c A' n' c' ss ds b off k d i p x y j) (ho : csBReg[17]? = some o) : csBOk Wd A n c A' n' c' ss ds b off k d i p x y Q a W 17 o := by
  have hgd := op_at ho (·.guard) (x := some (10, true)) (by kernel_rfl)
  have e10 : a.eval (.tmp 39) = .bool false := haft 10 (op_at ho (fun o => o.after.any fun e => decide (e.on = 10) && Region.binds .any e) (x := true) (by kernel_rfl))
  exact .inr ⟨⟨_, _, hgd, by rw [show csBD 10 = 39 from rfl, e10]; simp⟩, rfl⟩
theorem csB_op18 (haft : ∀ j, (o.after.any fun e => decide (e.on = j) && Region.binds .any e) = true → a.eval (.tmp (csBD j)) = csBV Wd A n c A' n' c' ss ds b off k d i p x y j) (ho : csBReg[18]? = some o) : csBOk Wd A n c A' n' c' ss ds b off k d i p x y Q a W 18 o := by
  have hgd := op_at ho (·.guard) (x := some (10, true)) (by kernel_rfl)
  have e10 : a.eval (.tmp 39) = .bool false := haft 10 (op_at ho (fun o => o.after.any fun e => decide (e.on = 10) && Region.binds .any e) (x := true) (by kernel_rfl))
  exact .inr ⟨⟨_, _, hgd, by rw [show csBD 10 = 39 from rfl, e10]; simp⟩, rfl⟩
theorem csB_op19 (haft : ∀ j, (o.after.any fun e => decide (e.on = j) && Region.binds .any e) = true → a.eval (.tmp (csBD j)) = csBV Wd A n c A' n' c' ss ds b off k d i p x y j) (ho : csBReg[19]? = some o) : csBOk Wd A n c A' n' c' ss ds b off k d i p x y Q a W 19 o := by
  have hgd := op_at ho (·.guard) (x := some (10, true)) (by kernel_rfl)
  have e10 : a.eval (.tmp 39) = .bool false := haft 10 (op_at ho (fun o => o.after.any fun e => decide (e.on = 10) && Region.binds .any e) (x := true) (by kernel_rfl))
  exact .inr ⟨⟨_, _, hgd, by rw [show csBD 10 = 39 from rfl, e10]; simp⟩, rfl⟩
theorem csB_op20 (haft : ∀ j, (o.after.any fun e => decide (e.on = j) && Region.binds .any e) = true → a.eval (.tmp (csBD j)) = csBV Wd A n c A' n' c' ss ds b off k d i p x y j) (ho : csBReg[20]? = some o) : csBOk Wd A n c A' n' c' ss ds b off k d i p x y Q a W 20 o := by
  have hgd := op_at ho (·.guard) (x := some (10, true)) (by kernel_rfl)
  have e10 : a.eval (.tmp 39) = .bool false := haft 10 (op_at ho (fun o => o.after.any fun e => decide (e.on = 10) && Region.binds .any e) (x := true) (by kernel_rfl))
  exact .inr ⟨⟨_, _, hgd, by rw [show csBD 10 = 39 from rfl, e10]; simp⟩, rfl⟩
theorem csB_op21 (haft : ∀ j, (o.after.any fun e => decide (e.on = j) && Region.binds .any e) = true → a.eval (.tmp (csBD j)) = csBV Wd A n c A' n' c' ss ds b off k d i p x y j) (ho : csBReg[21]? = some o) : csBOk Wd A n c A' n' c' ss ds b off k d i p x y Q a W 21 o := by
  have hop := op_at ho (·.op) (x := .pick (.tmp 39) (.tmp 49) (.const (.bool false))) (by kernel_rfl)
  have hgd := op_at ho (·.guard) (x := some (7, false)) (by kernel_rfl)
  have e7 : a.eval (.tmp 36) = .bool false := haft 7 (op_at ho (fun o => o.after.any fun e => decide (e.on = 7) && Region.binds .any e) (x := true) (by kernel_rfl))
  have e10 : a.eval (.tmp 39) = .bool false := haft 10 (op_at ho (fun o => o.after.any fun e => decide (e.on = 10) && Region.binds .any e) (x := true) (by kernel_rfl))
  left
  refine ⟨fun j b h => (by rw [hgd] at h; cases h; exact e7), ?_⟩
  exact specs_value (R := fun v _ => v = csBV Wd A n c A' n' c' ss ds b off k d i p x y 21) (v := .bool false) (by simp [execOp, hop, go_sem, ev e10]) rfl (Ext.refl W)
theorem csB_op22 (haft : ∀ j, (o.after.any fun e => decide (e.on = j) && Region.binds .any e) = true → a.eval (.tmp (csBD j)) = csBV Wd A n c A' n' c' ss ds b off k d i p x y j) (ho : csBReg[22]? = some o) : csBOk Wd A n c A' n' c' ss ds b off k d i p x y Q a W 22 o := by
  have hop := op_at ho (·.op) (x := .pick (.tmp 36) (.const (.bool true)) (.tmp 50)) (by kernel_rfl)
  have hgd := op_at ho (·.guard) (x := none) (by kernel_rfl)
  have e7 : a.eval (.tmp 36) = .bool false := haft 7 (op_at ho (fun o => o.after.any fun e => decide (e.on = 7) && Region.binds .any e) (x := true) (by kernel_rfl))
  have e21 : a.eval (.tmp 50) = .bool false := haft 21 (op_at ho (fun o => o.after.any fun e => decide (e.on = 21) && Region.binds .any e) (x := true) (by kernel_rfl))
  left
  refine ⟨fun j b h => (by rw [hgd] at h; cases h), ?_⟩
  exact specs_value (R := fun v _ => v = csBV Wd A n c A' n' c' ss ds b off k d i p x y 22) (v := .bool false) (by simp [execOp, hop, go_sem, ev e7, ev e21]) rfl (Ext.refl W)
end

/-- The slots. -/
def csCD (i : Nat) : Tmp := 29 + i
/-- What each operation yields. -/
def csCV (Wd : Int) (A : Option Addr) (n c : Nat) (A' : Option Addr) (n' c' : Nat) (_ss : List (Int × Int)) (_ds : List (Int × Int × Int)) (b off k d i _p : Nat) (x y : Int) (ix : Nat) : Value :=
  match ix with
  | 0 => (.agg #[.int .i64 Wd, .slice A n c, .slice A' n' c'])
  | 1 => .slice (some ⟨b, off, none⟩) k d
  | 2 => .int .i64 (i : Int)
  | 3 => .pointer (some ⟨b, off + i, none⟩)
  | 4 => .int .i64 x
  | 6 => .bool false
  | 7 => .bool false
  | 8 => .int .i64 (i : Int)
  | 11 => .slice (some ⟨b, off, none⟩) k d
  | 12 => .int .i64 (i : Int)
  | 13 => .pointer (some ⟨b, off + i, none⟩)
  | 14 => .int .i64 x
  | 15 => .slice (some ⟨b, off, none⟩) k d
  | 16 => .int .i64 (i : Int)
  | 17 => .int .i64 ((i : Int) - 1)
  | 18 => .pointer (some ⟨b, off + (i - 1), none⟩)
  | 19 => .int .i64 y
  | 20 => .bool (decide (x ≤ y))
  | 21 => .bool (decide (x ≤ y))
  | 22 => .bool (decide (x ≤ y))
  | _ => .bool true
noncomputable def csCReg : Array Oper := (Try.f40.body.bind (regionOf · 6)).getD #[]
def csCOk (Wd : Int) (A : Option Addr) (n c : Nat) (A' : Option Addr) (n' c' : Nat) (ss : List (Int × Int)) (ds : List (Int × Int × Int)) (b off k d i p : Nat) (x y : Int) (Q : Exit → Act → World → Prop) (a : Act) (W : World) (ix : Nat) (o : Oper) : Prop :=
  ((∀ j b, o.guard = some (j, b) → a.eval (.tmp (csCD j)) = .bool b) ∧ o.wp Try.prog a W (fun a'' W' => ∃ v, a'' = a.put o.dst v ∧ v = csCV Wd A n c A' n' c' ss ds b off k d i p x y ix ∧ Below W.heap.size W W') Q) ∨ ((∃ j b, o.guard = some (j, b) ∧ a.eval (.tmp (csCD j)) ≠ .bool b) ∧ undef = csCV Wd A n c A' n' c' ss ds b off k d i p x y ix)

section
variable {Wd : Int} {A : Option Addr} {n c : Nat} {A' : Option Addr} {n' c' : Nat} {ss : List (Int × Int)} {ds : List (Int × Int × Int)} {b off k d i p : Nat} {x y : Int} {Q : Exit → Act → World → Prop} {a : Act} {V W : World} {o : Oper}
theorem csC_op0 (o5 : a.eval (.tmp 5) = .pointer (some ⟨p, 0, none⟩)) (hx : BathAt V p Wd A n c A' n' c' ss ds) (hB : Ext V W) (ho : csCReg[0]? = some o) : csCOk Wd A n c A' n' c' ss ds b off k d i p x y Q a W 0 o := by
  have hop := op_at ho (·.op) (x := .load 25 (.tmp 5)) (by kernel_rfl)
  have hgd := op_at ho (·.guard) (x := none) (by kernel_rfl)
  left
  refine ⟨fun j b h => (by rw [hgd] at h; cases h), ?_⟩
  obtain ⟨q0, q1, q2⟩ := (hx.ext hB).cells
  exact specs_value (R := fun v _ => v = csCV Wd A n c A' n' c' ss ds b off k d i p x y 0) (v := (.agg #[.int .i64 Wd, .slice A n c, .slice A' n' c'])) (by simp [execOp, hop, go_sem, ev o5, q0, q1, q2]) rfl (Ext.refl W)
theorem csC_op1 (o3 : a.eval (.tmp 3) = .slice (some ⟨b, off, none⟩) k d) (ho : csCReg[1]? = some o) : csCOk Wd A n c A' n' c' ss ds b off k d i p x y Q a W 1 o := by
  have hop := op_at ho (·.op) (x := .move (.tmp 3)) (by kernel_rfl)
  have hgd := op_at ho (·.guard) (x := none) (by kernel_rfl)
  left
  refine ⟨fun j b h => (by rw [hgd] at h; cases h), ?_⟩
  exact specs_value (R := fun v _ => v = csCV Wd A n c A' n' c' ss ds b off k d i p x y 1) (v := .slice (some ⟨b, off, none⟩) k d) (by simp [execOp, hop, go_sem, ev o3]) rfl (Ext.refl W)
theorem csC_op2 (o11 : a.eval (.tmp 11) = .int .i64 (i : Int)) (ho : csCReg[2]? = some o) : csCOk Wd A n c A' n' c' ss ds b off k d i p x y Q a W 2 o := by
  have hop := op_at ho (·.op) (x := .move (.tmp 11)) (by kernel_rfl)
  have hgd := op_at ho (·.guard) (x := none) (by kernel_rfl)
  left
  refine ⟨fun j b h => (by rw [hgd] at h; cases h), ?_⟩
  exact specs_value (R := fun v _ => v = csCV Wd A n c A' n' c' ss ds b off k d i p x y 2) (v := .int .i64 (i : Int)) (by simp [execOp, hop, go_sem, ev o11]) rfl (Ext.refl W)
theorem csC_op3 (hik : i < k) (haft : ∀ j, (o.after.any fun e => decide (e.on = j) && Region.binds .any e) = true → a.eval (.tmp (csCD j)) = csCV Wd A n c A' n' c' ss ds b off k d i p x y j) (ho : csCReg[3]? = some o) : csCOk Wd A n c A' n' c' ss ds b off k d i p x y Q a W 3 o := by
  have hop := op_at ho (·.op) (x := .indexAddr 42 (.tmp 30) (.tmp 31)) (by kernel_rfl)
  have hgd := op_at ho (·.guard) (x := none) (by kernel_rfl)
  have e1 : a.eval (.tmp 30) = .slice (some ⟨b, off, none⟩) k d := haft 1 (op_at ho (fun o => o.after.any fun e => decide (e.on = 1) && Region.binds .any e) (x := true) (by kernel_rfl))
  have e2 : a.eval (.tmp 31) = .int .i64 (i : Int) := haft 2 (op_at ho (fun o => o.after.any fun e => decide (e.on = 2) && Region.binds .any e) (x := true) (by kernel_rfl))
  left
  refine ⟨fun j b h => (by rw [hgd] at h; cases h), ?_⟩
  exact specs_value (R := fun v _ => v = csCV Wd A n c A' n' c' ss ds b off k d i p x y 3) (v := .pointer (some ⟨b, off + i, none⟩)) (by simp [execOp, hop, go_sem, ev e1, ev e2, hik]) rfl (Ext.refl W)
theorem csC_op4 (hcx : ∀ W, Ext V W → W.cell? ⟨b, off + i, none⟩ = some (.int .i64 x)) (hB : Ext V W) (haft : ∀ j, (o.after.any fun e => decide (e.on = j) && Region.binds .any e) = true → a.eval (.tmp (csCD j)) = csCV Wd A n c A' n' c' ss ds b off k d i p x y j) (ho : csCReg[4]? = some o) : csCOk Wd A n c A' n' c' ss ds b off k d i p x y Q a W 4 o := by
  have hop := op_at ho (·.op) (x := .load 3 (.tmp 32)) (by kernel_rfl)
  have hgd := op_at ho (·.guard) (x := none) (by kernel_rfl)
  have e3 : a.eval (.tmp 32) = .pointer (some ⟨b, off + i, none⟩) := haft 3 (op_at ho (fun o => o.after.any fun e => decide (e.on = 3) && Region.binds .any e) (x := true) (by kernel_rfl))
  left
  refine ⟨fun j b h => (by rw [hgd] at h; cases h), ?_⟩
  have hcx' := hcx W hB
  exact specs_value (R := fun v _ => v = csCV Wd A n c A' n' c' ss ds b off k d i p x y 4) (v := .int .i64 x) (by simp [execOp, hop, go_sem, ev e3, hcx']) rfl (Ext.refl W)
theorem csC_op5 (cP : ∀ W, Ext V W → Calls Try.prog 96 #[(.agg #[.int .i64 Wd, .slice A n c, .slice A' n' c']), .int .i64 x] W fun e w' => e = .returned (.bool true) ∧ Below W.heap.size W w') (hB : Ext V W) (haft : ∀ j, (o.after.any fun e => decide (e.on = j) && Region.binds .any e) = true → a.eval (.tmp (csCD j)) = csCV Wd A n c A' n' c' ss ds b off k d i p x y j) (ho : csCReg[5]? = some o) : csCOk Wd A n c A' n' c' ss ds b off k d i p x y Q a W 5 o := by
  have hop := op_at ho (·.op) (x := .call { callee := .value (.func 96), args := #[.tmp 29, .tmp 33], argTypes := #[25, 3] }) (by kernel_rfl)
  have hgd := op_at ho (·.guard) (x := none) (by kernel_rfl)
  have e0 : a.eval (.tmp 29) = (.agg #[.int .i64 Wd, .slice A n c, .slice A' n' c']) := haft 0 (op_at ho (fun o => o.after.any fun e => decide (e.on = 0) && Region.binds .any e) (x := true) (by kernel_rfl))
  have e4 : a.eval (.tmp 33) = .int .i64 x := haft 4 (op_at ho (fun o => o.after.any fun e => decide (e.on = 4) && Region.binds .any e) (x := true) (by kernel_rfl))
  left
  refine ⟨fun j b h => (by rw [hgd] at h; cases h), ?_⟩
  exact specs_call (R := fun v _ => v = csCV Wd A n c A' n' c' ss ds b off k d i p x y 5) (f := 96) (args := #[(.agg #[.int .i64 Wd, .slice A n c, .slice A' n' c']), .int .i64 x]) (by simp [execOp, hop, go_sem, ev e0, ev e4]) ((cP W hB).mono fun e w' h => ⟨_, h.1, rfl, h.2⟩)
theorem csC_op6 (haft : ∀ j, (o.after.any fun e => decide (e.on = j) && Region.binds .any e) = true → a.eval (.tmp (csCD j)) = csCV Wd A n c A' n' c' ss ds b off k d i p x y j) (ho : csCReg[6]? = some o) : csCOk Wd A n c A' n' c' ss ds b off k d i p x y Q a W 6 o := by
  have hop := op_at ho (·.op) (x := .unOp .not 4 (.tmp 34)) (by kernel_rfl)
  have hgd := op_at ho (·.guard) (x := none) (by kernel_rfl)
  have e5 : a.eval (.tmp 34) = .bool true := haft 5 (op_at ho (fun o => o.after.any fun e => decide (e.on = 5) && Region.binds .any e) (x := true) (by kernel_rfl))
  left
  refine ⟨fun j b h => (by rw [hgd] at h; cases h), ?_⟩
  exact specs_value (R := fun v _ => v = csCV Wd A n c A' n' c' ss ds b off k d i p x y 6) (v := .bool false) (by simp [execOp, hop, go_sem, ev e5]) rfl (Ext.refl W)
theorem csC_op7 (haft : ∀ j, (o.after.any fun e => decide (e.on = j) && Region.binds .any e) = true → a.eval (.tmp (csCD j)) = csCV Wd A n c A' n' c' ss ds b off k d i p x y j) (ho : csCReg[7]? = some o) : csCOk Wd A n c A' n' c' ss ds b off k d i p x y Q a W 7 o := by
  have hop := op_at ho (·.op) (x := .move (.tmp 35)) (by kernel_rfl)
  have hgd := op_at ho (·.guard) (x := none) (by kernel_rfl)
  have e6 : a.eval (.tmp 35) = .bool false := haft 6 (op_at ho (fun o => o.after.any fun e => decide (e.on = 6) && Region.binds .any e) (x := true) (by kernel_rfl))
  left
  refine ⟨fun j b h => (by rw [hgd] at h; cases h), ?_⟩
  exact specs_value (R := fun v _ => v = csCV Wd A n c A' n' c' ss ds b off k d i p x y 7) (v := .bool false) (by simp [execOp, hop, go_sem, ev e6]) rfl (Ext.refl W)
theorem csC_op8 (o11 : a.eval (.tmp 11) = .int .i64 (i : Int)) (haft : ∀ j, (o.after.any fun e => decide (e.on = j) && Region.binds .any e) = true → a.eval (.tmp (csCD j)) = csCV Wd A n c A' n' c' ss ds b off k d i p x y j) (ho : csCReg[8]? = some o) : csCOk Wd A n c A' n' c' ss ds b off k d i p x y Q a W 8 o := by
  have hop := op_at ho (·.op) (x := .move (.tmp 11)) (by kernel_rfl)
  have hgd := op_at ho (·.guard) (x := some (7, false)) (by kernel_rfl)
  have e7 : a.eval (.tmp 36) = .bool false := haft 7 (op_at ho (fun o => o.after.any fun e => decide (e.on = 7) && Region.binds .any e) (x := true) (by kernel_rfl))
  left
  refine ⟨fun j b h => (by rw [hgd] at h; cases h; exact e7), ?_⟩
  exact specs_value (R := fun v _ => v = csCV Wd A n c A' n' c' ss ds b off k d i p x y 8) (v := .int .i64 (i : Int)) (by simp [execOp, hop, go_sem, ev o11]) rfl (Ext.refl W)
theorem csC_op9 (hi0 : 0 < i) (haft : ∀ j, (o.after.any fun e => decide (e.on = j) && Region.binds .any e) = true → a.eval (.tmp (csCD j)) = csCV Wd A n c A' n' c' ss ds b off k d i p x y j) (ho : csCReg[9]? = some o) : csCOk Wd A n c A' n' c' ss ds b off k d i p x y Q a W 9 o := by
  have hop := op_at ho (·.op) (x := .binOp .gtr 3 (.tmp 37) (.const (.int .i64 0)) 3) (by kernel_rfl)
  have hgd := op_at ho (·.guard) (x := some (7, false)) (by kernel_rfl)
  have e7 : a.eval (.tmp 36) = .bool false := haft 7 (op_at ho (fun o => o.after.any fun e => decide (e.on = 7) && Region.binds .any e) (x := true) (by kernel_rfl))
  have e8 : a.eval (.tmp 37) = .int .i64 (i : Int) := haft 8 (op_at ho (fun o => o.after.any fun e => decide (e.on = 8) && Region.binds .any e) (x := true) (by kernel_rfl))
  left
  refine ⟨fun j b h => (by rw [hgd] at h; cases h; exact e7), ?_⟩
  exact specs_value (R := fun v _ => v = csCV Wd A n c A' n' c' ss ds b off k d i p x y 9) (v := .bool true) (by simp [execOp, hop, go_sem, ev e8, hi0]) rfl (Ext.refl W)
theorem csC_op10 (haft : ∀ j, (o.after.any fun e => decide (e.on = j) && Region.binds .any e) = true → a.eval (.tmp (csCD j)) = csCV Wd A n c A' n' c' ss ds b off k d i p x y j) (ho : csCReg[10]? = some o) : csCOk Wd A n c A' n' c' ss ds b off k d i p x y Q a W 10 o := by
  have hop := op_at ho (·.op) (x := .move (.tmp 38)) (by kernel_rfl)
  have hgd := op_at ho (·.guard) (x := some (7, false)) (by kernel_rfl)
  have e7 : a.eval (.tmp 36) = .bool false := haft 7 (op_at ho (fun o => o.after.any fun e => decide (e.on = 7) && Region.binds .any e) (x := true) (by kernel_rfl))
  have e9 : a.eval (.tmp 38) = .bool true := haft 9 (op_at ho (fun o => o.after.any fun e => decide (e.on = 9) && Region.binds .any e) (x := true) (by kernel_rfl))
  left
  refine ⟨fun j b h => (by rw [hgd] at h; cases h; exact e7), ?_⟩
  exact specs_value (R := fun v _ => v = csCV Wd A n c A' n' c' ss ds b off k d i p x y 10) (v := .bool true) (by simp [execOp, hop, go_sem, ev e9]) rfl (Ext.refl W)
theorem csC_op11 (o3 : a.eval (.tmp 3) = .slice (some ⟨b, off, none⟩) k d) (haft : ∀ j, (o.after.any fun e => decide (e.on = j) && Region.binds .any e) = true → a.eval (.tmp (csCD j)) = csCV Wd A n c A' n' c' ss ds b off k d i p x y j) (ho : csCReg[11]? = some o) : csCOk Wd A n c A' n' c' ss ds b off k d i p x y Q a W 11 o := by
  have hop := op_at ho (·.op) (x := .move (.tmp 3)) (by kernel_rfl)
  have hgd := op_at ho (·.guard) (x := some (10, true)) (by kernel_rfl)
  have e10 : a.eval (.tmp 39) = .bool true := haft 10 (op_at ho (fun o => o.after.any fun e => decide (e.on = 10) && Region.binds .any e) (x := true) (by kernel_rfl))
  left
  refine ⟨fun j b h => (by rw [hgd] at h; cases h; exact e10), ?_⟩
  exact specs_value (R := fun v _ => v = csCV Wd A n c A' n' c' ss ds b off k d i p x y 11) (v := .slice (some ⟨b, off, none⟩) k d) (by simp [execOp, hop, go_sem, ev o3]) rfl (Ext.refl W)
theorem csC_op12 (o11 : a.eval (.tmp 11) = .int .i64 (i : Int)) (haft : ∀ j, (o.after.any fun e => decide (e.on = j) && Region.binds .any e) = true → a.eval (.tmp (csCD j)) = csCV Wd A n c A' n' c' ss ds b off k d i p x y j) (ho : csCReg[12]? = some o) : csCOk Wd A n c A' n' c' ss ds b off k d i p x y Q a W 12 o := by
  have hop := op_at ho (·.op) (x := .move (.tmp 11)) (by kernel_rfl)
  have hgd := op_at ho (·.guard) (x := some (10, true)) (by kernel_rfl)
  have e10 : a.eval (.tmp 39) = .bool true := haft 10 (op_at ho (fun o => o.after.any fun e => decide (e.on = 10) && Region.binds .any e) (x := true) (by kernel_rfl))
  left
  refine ⟨fun j b h => (by rw [hgd] at h; cases h; exact e10), ?_⟩
  exact specs_value (R := fun v _ => v = csCV Wd A n c A' n' c' ss ds b off k d i p x y 12) (v := .int .i64 (i : Int)) (by simp [execOp, hop, go_sem, ev o11]) rfl (Ext.refl W)
theorem csC_op13 (hik : i < k) (haft : ∀ j, (o.after.any fun e => decide (e.on = j) && Region.binds .any e) = true → a.eval (.tmp (csCD j)) = csCV Wd A n c A' n' c' ss ds b off k d i p x y j) (ho : csCReg[13]? = some o) : csCOk Wd A n c A' n' c' ss ds b off k d i p x y Q a W 13 o := by
  have hop := op_at ho (·.op) (x := .indexAddr 42 (.tmp 40) (.tmp 41)) (by kernel_rfl)
  have hgd := op_at ho (·.guard) (x := some (10, true)) (by kernel_rfl)
  have e10 : a.eval (.tmp 39) = .bool true := haft 10 (op_at ho (fun o => o.after.any fun e => decide (e.on = 10) && Region.binds .any e) (x := true) (by kernel_rfl))
  have e11 : a.eval (.tmp 40) = .slice (some ⟨b, off, none⟩) k d := haft 11 (op_at ho (fun o => o.after.any fun e => decide (e.on = 11) && Region.binds .any e) (x := true) (by kernel_rfl))
  have e12 : a.eval (.tmp 41) = .int .i64 (i : Int) := haft 12 (op_at ho (fun o => o.after.any fun e => decide (e.on = 12) && Region.binds .any e) (x := true) (by kernel_rfl))
  left
  refine ⟨fun j b h => (by rw [hgd] at h; cases h; exact e10), ?_⟩
  exact specs_value (R := fun v _ => v = csCV Wd A n c A' n' c' ss ds b off k d i p x y 13) (v := .pointer (some ⟨b, off + i, none⟩)) (by simp [execOp, hop, go_sem, ev e11, ev e12, hik]) rfl (Ext.refl W)
theorem csC_op14 (hcx : ∀ W, Ext V W → W.cell? ⟨b, off + i, none⟩ = some (.int .i64 x)) (hB : Ext V W) (haft : ∀ j, (o.after.any fun e => decide (e.on = j) && Region.binds .any e) = true → a.eval (.tmp (csCD j)) = csCV Wd A n c A' n' c' ss ds b off k d i p x y j) (ho : csCReg[14]? = some o) : csCOk Wd A n c A' n' c' ss ds b off k d i p x y Q a W 14 o := by
  have hop := op_at ho (·.op) (x := .load 3 (.tmp 42)) (by kernel_rfl)
  have hgd := op_at ho (·.guard) (x := some (10, true)) (by kernel_rfl)
  have e10 : a.eval (.tmp 39) = .bool true := haft 10 (op_at ho (fun o => o.after.any fun e => decide (e.on = 10) && Region.binds .any e) (x := true) (by kernel_rfl))
  have e13 : a.eval (.tmp 42) = .pointer (some ⟨b, off + i, none⟩) := haft 13 (op_at ho (fun o => o.after.any fun e => decide (e.on = 13) && Region.binds .any e) (x := true) (by kernel_rfl))
  left
  refine ⟨fun j b h => (by rw [hgd] at h; cases h; exact e10), ?_⟩
  have hcx' := hcx W hB
  exact specs_value (R := fun v _ => v = csCV Wd A n c A' n' c' ss ds b off k d i p x y 14) (v := .int .i64 x) (by simp [execOp, hop, go_sem, ev e13, hcx']) rfl (Ext.refl W)
theorem csC_op15 (o3 : a.eval (.tmp 3) = .slice (some ⟨b, off, none⟩) k d) (haft : ∀ j, (o.after.any fun e => decide (e.on = j) && Region.binds .any e) = true → a.eval (.tmp (csCD j)) = csCV Wd A n c A' n' c' ss ds b off k d i p x y j) (ho : csCReg[15]? = some o) : csCOk Wd A n c A' n' c' ss ds b off k d i p x y Q a W 15 o := by
  have hop := op_at ho (·.op) (x := .move (.tmp 3)) (by kernel_rfl)
  have hgd := op_at ho (·.guard) (x := some (10, true)) (by kernel_rfl)
  have e10 : a.eval (.tmp 39) = .bool true := haft 10 (op_at ho (fun o => o.after.any fun e => decide (e.on = 10) && Region.binds .any e) (x := true) (by kernel_rfl))
  left
  refine ⟨fun j b h => (by rw [hgd] at h; cases h; exact e10), ?_⟩
  exact specs_value (R := fun v _ => v = csCV Wd A n c A' n' c' ss ds b off k d i p x y 15) (v := .slice (some ⟨b, off, none⟩) k d) (by simp [execOp, hop, go_sem, ev o3]) rfl (Ext.refl W)
theorem csC_op16 (o11 : a.eval (.tmp 11) = .int .i64 (i : Int)) (haft : ∀ j, (o.after.any fun e => decide (e.on = j) && Region.binds .any e) = true → a.eval (.tmp (csCD j)) = csCV Wd A n c A' n' c' ss ds b off k d i p x y j) (ho : csCReg[16]? = some o) : csCOk Wd A n c A' n' c' ss ds b off k d i p x y Q a W 16 o := by
  have hop := op_at ho (·.op) (x := .move (.tmp 11)) (by kernel_rfl)
  have hgd := op_at ho (·.guard) (x := some (10, true)) (by kernel_rfl)
  have e10 : a.eval (.tmp 39) = .bool true := haft 10 (op_at ho (fun o => o.after.any fun e => decide (e.on = 10) && Region.binds .any e) (x := true) (by kernel_rfl))
  left
  refine ⟨fun j b h => (by rw [hgd] at h; cases h; exact e10), ?_⟩
  exact specs_value (R := fun v _ => v = csCV Wd A n c A' n' c' ss ds b off k d i p x y 16) (v := .int .i64 (i : Int)) (by simp [execOp, hop, go_sem, ev o11]) rfl (Ext.refl W)
theorem csC_op17 (hwr : IntKind.i64.wrap ((i : Int) - 1) = (i : Int) - 1) (haft : ∀ j, (o.after.any fun e => decide (e.on = j) && Region.binds .any e) = true → a.eval (.tmp (csCD j)) = csCV Wd A n c A' n' c' ss ds b off k d i p x y j) (ho : csCReg[17]? = some o) : csCOk Wd A n c A' n' c' ss ds b off k d i p x y Q a W 17 o := by
  have hop := op_at ho (·.op) (x := .binOp .sub 3 (.tmp 45) (.const (.int .i64 1)) 3) (by kernel_rfl)
  have hgd := op_at ho (·.guard) (x := some (10, true)) (by kernel_rfl)
  have e10 : a.eval (.tmp 39) = .bool true := haft 10 (op_at ho (fun o => o.after.any fun e => decide (e.on = 10) && Region.binds .any e) (x := true) (by kernel_rfl))
  have e16 : a.eval (.tmp 45) = .int .i64 (i : Int) := haft 16 (op_at ho (fun o => o.after.any fun e => decide (e.on = 16) && Region.binds .any e) (x := true) (by kernel_rfl))
  left
  refine ⟨fun j b h => (by rw [hgd] at h; cases h; exact e10), ?_⟩
  exact specs_value (R := fun v _ => v = csCV Wd A n c A' n' c' ss ds b off k d i p x y 17) (v := .int .i64 ((i : Int) - 1)) (by simp [execOp, hop, go_sem, ev e16, hwr]) rfl (Ext.refl W)
theorem csC_op18 (_h01 : (0 : Int) ≤ (i : Int) - 1) (h11 : ¬ (i : Int) < 1) (hl1 : (i : Int) - 1 < (k : Int)) (htn : ((i : Int) - 1).toNat = i - 1) (haft : ∀ j, (o.after.any fun e => decide (e.on = j) && Region.binds .any e) = true → a.eval (.tmp (csCD j)) = csCV Wd A n c A' n' c' ss ds b off k d i p x y j) (ho : csCReg[18]? = some o) : csCOk Wd A n c A' n' c' ss ds b off k d i p x y Q a W 18 o := by
  have hop := op_at ho (·.op) (x := .indexAddr 42 (.tmp 44) (.tmp 46)) (by kernel_rfl)
  have hgd := op_at ho (·.guard) (x := some (10, true)) (by kernel_rfl)
  have e10 : a.eval (.tmp 39) = .bool true := haft 10 (op_at ho (fun o => o.after.any fun e => decide (e.on = 10) && Region.binds .any e) (x := true) (by kernel_rfl))
  have e15 : a.eval (.tmp 44) = .slice (some ⟨b, off, none⟩) k d := haft 15 (op_at ho (fun o => o.after.any fun e => decide (e.on = 15) && Region.binds .any e) (x := true) (by kernel_rfl))
  have e17 : a.eval (.tmp 46) = .int .i64 ((i : Int) - 1) := haft 17 (op_at ho (fun o => o.after.any fun e => decide (e.on = 17) && Region.binds .any e) (x := true) (by kernel_rfl))
  left
  refine ⟨fun j b h => (by rw [hgd] at h; cases h; exact e10), ?_⟩
  exact specs_value (R := fun v _ => v = csCV Wd A n c A' n' c' ss ds b off k d i p x y 18) (v := .pointer (some ⟨b, off + (i - 1), none⟩)) (by simp [execOp, hop, go_sem, ev e15, ev e17, h11, hl1, htn]) rfl (Ext.refl W)
theorem csC_op19 (hcy : ∀ W, Ext V W → W.cell? ⟨b, off + (i - 1), none⟩ = some (.int .i64 y)) (hB : Ext V W) (haft : ∀ j, (o.after.any fun e => decide (e.on = j) && Region.binds .any e) = true → a.eval (.tmp (csCD j)) = csCV Wd A n c A' n' c' ss ds b off k d i p x y j) (ho : csCReg[19]? = some o) : csCOk Wd A n c A' n' c' ss ds b off k d i p x y Q a W 19 o := by
  have hop := op_at ho (·.op) (x := .load 3 (.tmp 47)) (by kernel_rfl)
  have hgd := op_at ho (·.guard) (x := some (10, true)) (by kernel_rfl)
  have e10 : a.eval (.tmp 39) = .bool true := haft 10 (op_at ho (fun o => o.after.any fun e => decide (e.on = 10) && Region.binds .any e) (x := true) (by kernel_rfl))
  have e18 : a.eval (.tmp 47) = .pointer (some ⟨b, off + (i - 1), none⟩) := haft 18 (op_at ho (fun o => o.after.any fun e => decide (e.on = 18) && Region.binds .any e) (x := true) (by kernel_rfl))
  left
  refine ⟨fun j b h => (by rw [hgd] at h; cases h; exact e10), ?_⟩
  have hcy' := hcy W hB
  exact specs_value (R := fun v _ => v = csCV Wd A n c A' n' c' ss ds b off k d i p x y 19) (v := .int .i64 y) (by simp [execOp, hop, go_sem, ev e18, hcy']) rfl (Ext.refl W)
theorem csC_op20 (haft : ∀ j, (o.after.any fun e => decide (e.on = j) && Region.binds .any e) = true → a.eval (.tmp (csCD j)) = csCV Wd A n c A' n' c' ss ds b off k d i p x y j) (ho : csCReg[20]? = some o) : csCOk Wd A n c A' n' c' ss ds b off k d i p x y Q a W 20 o := by
  have hop := op_at ho (·.op) (x := .binOp .leq 3 (.tmp 43) (.tmp 48) 3) (by kernel_rfl)
  have hgd := op_at ho (·.guard) (x := some (10, true)) (by kernel_rfl)
  have e10 : a.eval (.tmp 39) = .bool true := haft 10 (op_at ho (fun o => o.after.any fun e => decide (e.on = 10) && Region.binds .any e) (x := true) (by kernel_rfl))
  have e14 : a.eval (.tmp 43) = .int .i64 x := haft 14 (op_at ho (fun o => o.after.any fun e => decide (e.on = 14) && Region.binds .any e) (x := true) (by kernel_rfl))
  have e19 : a.eval (.tmp 48) = .int .i64 y := haft 19 (op_at ho (fun o => o.after.any fun e => decide (e.on = 19) && Region.binds .any e) (x := true) (by kernel_rfl))
  left
  refine ⟨fun j b h => (by rw [hgd] at h; cases h; exact e10), ?_⟩
  exact specs_value (R := fun v _ => v = csCV Wd A n c A' n' c' ss ds b off k d i p x y 20) (v := .bool (decide (x ≤ y))) (by simp [execOp, hop, go_sem, ev e14, ev e19]) rfl (Ext.refl W)
theorem csC_op21 (haft : ∀ j, (o.after.any fun e => decide (e.on = j) && Region.binds .any e) = true → a.eval (.tmp (csCD j)) = csCV Wd A n c A' n' c' ss ds b off k d i p x y j) (ho : csCReg[21]? = some o) : csCOk Wd A n c A' n' c' ss ds b off k d i p x y Q a W 21 o := by
  have hop := op_at ho (·.op) (x := .pick (.tmp 39) (.tmp 49) (.const (.bool false))) (by kernel_rfl)
  have hgd := op_at ho (·.guard) (x := some (7, false)) (by kernel_rfl)
  have e7 : a.eval (.tmp 36) = .bool false := haft 7 (op_at ho (fun o => o.after.any fun e => decide (e.on = 7) && Region.binds .any e) (x := true) (by kernel_rfl))
  have e10 : a.eval (.tmp 39) = .bool true := haft 10 (op_at ho (fun o => o.after.any fun e => decide (e.on = 10) && Region.binds .any e) (x := true) (by kernel_rfl))
  have e20 : a.eval (.tmp 49) = .bool (decide (x ≤ y)) := haft 20 (op_at ho (fun o => o.after.any fun e => decide (e.on = 20) && Region.binds .any e) (x := true) (by kernel_rfl))
  left
  refine ⟨fun j b h => (by rw [hgd] at h; cases h; exact e7), ?_⟩
  exact specs_value (R := fun v _ => v = csCV Wd A n c A' n' c' ss ds b off k d i p x y 21) (v := .bool (decide (x ≤ y))) (by simp [execOp, hop, go_sem, ev e10, ev e20]) rfl (Ext.refl W)
theorem csC_op22 (haft : ∀ j, (o.after.any fun e => decide (e.on = j) && Region.binds .any e) = true → a.eval (.tmp (csCD j)) = csCV Wd A n c A' n' c' ss ds b off k d i p x y j) (ho : csCReg[22]? = some o) : csCOk Wd A n c A' n' c' ss ds b off k d i p x y Q a W 22 o := by
  have hop := op_at ho (·.op) (x := .pick (.tmp 36) (.const (.bool true)) (.tmp 50)) (by kernel_rfl)
  have hgd := op_at ho (·.guard) (x := none) (by kernel_rfl)
  have e7 : a.eval (.tmp 36) = .bool false := haft 7 (op_at ho (fun o => o.after.any fun e => decide (e.on = 7) && Region.binds .any e) (x := true) (by kernel_rfl))
  have e21 : a.eval (.tmp 50) = .bool (decide (x ≤ y)) := haft 21 (op_at ho (fun o => o.after.any fun e => decide (e.on = 21) && Region.binds .any e) (x := true) (by kernel_rfl))
  left
  refine ⟨fun j b h => (by rw [hgd] at h; cases h), ?_⟩
  exact specs_value (R := fun v _ => v = csCV Wd A n c A' n' c' ss ds b off k d i p x y 22) (v := .bool (decide (x ≤ y))) (by simp [execOp, hop, go_sem, ev e7, ev e21]) rfl (Ext.refl W)
end
end Go.Proofs.Ytckndnaohggmhaa

/- The reference's CheckSide: the walk. -/
namespace Go.Proofs.Ytckndnaohggmhaa
open Go.RowKit Go.Shelf

theorem rising_take_succ {xs : List Int} {i : Nat} (hi : i < xs.length) (h : (xs.take i).Pairwise (· < ·)) (hl : ∀ h0 : 0 < i, xs[i - 1]'(by omega) < xs[i]) : (xs.take (i + 1)).Pairwise (· < ·) := by
  rw [List.take_succ_eq_append_getElem hi, List.pairwise_append]
  refine ⟨h, by simp, fun a ha b hb => ?_⟩
  rw [List.mem_singleton] at hb
  subst hb
  obtain ⟨j, hj, e⟩ := List.getElem_of_mem ha
  rw [List.length_take] at hj
  have e2 : xs[j]'(by omega) = a := by rw [← e, List.getElem_take]
  have h0 : 0 < i := by omega
  have hlast := hl h0
  by_cases hji : j = i - 1
  · subst hji
    rw [← e2]
    exact hlast
  · have := List.pairwise_iff_getElem.1 h j (i - 1) (by rw [List.length_take]; omega) (by rw [List.length_take]; omega) (by omega)
    rw [List.getElem_take, List.getElem_take] at this
    rw [← e2]
    exact Int.lt_trans this hlast
theorem leads_yes {T : Nat → Nat → Bool} {M : Nat → Bool} {i j : Nat} (hi : i < 12) (hj : j < 12) (h1 : M i = true) (h2 : M j = false) (h3 : T i j = true) : leadsB T M = true := by
  unfold leadsB
  rw [List.any_eq_true]
  refine ⟨i, List.mem_filter.2 ⟨List.mem_range.2 hi, h1⟩, ?_⟩
  rw [List.any_eq_true]
  exact ⟨j, List.mem_range.2 hj, by simp [h2, h3]⟩
theorem leads_no {T : Nat → Nat → Bool} {M : Nat → Bool} (h : ∀ i j, i < 12 → j < 12 → M i = true → M j = false → T i j = false) : leadsB T M = false := by
  unfold leadsB
  rw [List.any_eq_false]
  intro i hi
  obtain ⟨hi1, hi2⟩ := List.mem_filter.1 hi
  simp only [Bool.not_eq_true]
  rw [List.any_eq_false]
  intro j hj
  cases hM : M j with
  | true => simp
  | false => simp [h i j (List.mem_range.1 hi1) (List.mem_range.1 hj) hi2 hM]

section
variable {w : World} {Wd : Int} {A : Option Addr} {n c : Nat} {A' : Option Addr} {n' c' : Nat} {ss : List (Int × Int)} {ds : List (Int × Int × Int)}

set_option maxRecDepth 100000 in
set_option maxHeartbeats 8000000 in
theorem checkSide_ref (one two : Int) (L : Option Addr) (k d : Nat) (xs : List Int) (sure : Bool) (hb : IsBath w w.heap.size A n c A' n' c' ss ds) (hk : k = xs.length) (hkn : k ≤ 9223372036854775807) (hh : Held w w.heap.size 1 encI L xs) :
    Calls Try.prog 40 #[.agg #[.int .i64 Wd, .slice A n c, .slice A' n' c'], .int .i64 one, .int .i64 two, .slice L k d, .bool sure] w fun e w' => e = .returned (.int .i64 (checkSideAns Wd ss ds one two xs sure)) ∧ Ext w w' := by
  have hX0 : BathAt (w.alloc (.cells #[.int .i64 Wd, .slice A n c, .slice A' n' c'] 25)) w.heap.size Wd A n c A' n' c' ss ds := BathAt.new hb
  have hE0 : Ext w (w.alloc (.cells #[.int .i64 Wd, .slice A n c, .slice A' n' c'] 25)) := ext_alloc w _
  have cP : ∀ W : World, IsBath W W.heap.size A n c A' n' c' ss ds → _ := fun W h => places_ref (Wd := Wd) one two h
  by_cases he : forErr Wd ss ds one two = 0
  · obtain ⟨h0, h1, h2, h3⟩ := forErr_ok he
    have hn10 : n ≤ 10 := by have := (bath_ok h0).2.1.1; have := hb.nss; omega
    rw [he] at cP
    have hm1 : marksOf xs (one + 2).toNat = decide (one ∈ xs) := by unfold marksOf; rw [show (((one + 2).toNat : Nat) : Int) - 2 = one from by omega]
    have hm2 : marksOf xs (two + 2).toNat = decide (two ∈ xs) := by unfold marksOf; rw [show (((two + 2).toNat : Nat) : Int) - 2 = two from by omega]
    have hans : checkSideAns Wd ss ds one two xs sure = if decide (xs.Pairwise (· < ·)) = true ∧ xs.all (placeB n) = true then if decide (one ∈ xs) = true ∧ decide (two ∈ xs) = false ∧ leadsB (tableOf Wd ss ds sure) (marksOf xs) = false then 0 else 14 else 3 := by
      unfold checkSideAns
      rw [if_pos he, hm1, hm2, ← hb.nss]
    have cH : ∀ (x : Int) (q : Nat), placeB n x = true → q < n + 2 → x ≠ (q : Int) - 2 → ∀ W : World, IsBath W W.heap.size A n c A' n' c' ss ds → Calls Try.prog 91 #[.agg #[.int .i64 Wd, .slice A n c, .slice A' n' c'], .int .i64 x, .int .i64 ((q : Int) - 2), .bool sure] W fun e w' => e = .returned (.bool (tableOf Wd ss ds sure (x + 2).toNat q)) ∧ Ext W w' := fun x q hx hq hxy W h => by
      simp only [placeB, Bool.and_eq_true, decide_eq_true_eq] at hx
      have := holds_ref (Wd := Wd) x ((q : Int) - 2) sure (bath_few h0) h hx.1 hx.2 (by omega) (by omega) hxy
      have e := table_holds (Wd := Wd) (ss := ss) (ds := ds) (sure := sure) (i := (x + 2).toNat) (k := q) (by have := hb.nss; omega) (by have := hb.nss; omega) (by omega)
      rw [show (((x + 2).toNat : Nat) : Int) - 2 = x from by omega] at e
      rw [e] at this
      exact this
    have hTl : ∀ i j, tableOf Wd ss ds sure i j = true → i < n + 2 ∧ j < n + 2 ∧ i ≠ j := fun i j h => by have := tableOf_lt i j h; rw [← hb.nss] at this; exact this
    have cQ : ∀ (x : Int) (W : World), Calls Try.prog 96 #[.agg #[.int .i64 Wd, .slice A n c, .slice A' n' c'], .int .i64 x] W fun e w' => e = .returned (.bool (placeB n x)) ∧ Ext W w' := fun x W => isPlace_ref (Wd := Wd) (A := A) (n := n) (c := c) (A' := A') (n' := n') (c' := c') x W
    obtain ⟨T, hT⟩ : ∃ T, tableOf Wd ss ds sure = T := ⟨_, rfl⟩
    rw [hT] at cH hans hTl
    obtain ⟨ans, ha⟩ : ∃ ans, checkSideAns Wd ss ds one two xs sure = ans := ⟨_, rfl⟩
    rw [ha] at hans ⊢
    have HANS := Lib.hid hans
    have CH := Lib.hid cH
    have CQ := Lib.hid cQ
    have HTL := Lib.hid hTl
    have HK := Lib.hid hk
    have HH := Lib.hid hh
    have HN10 := Lib.hid hn10
    clear hT ha hans cH cQ hTl hk hh hb h0 h1 h2 h3 he hm1 hm2 hn10
    go_enter Try.func40, Try.ntmps40
    go_wp2_with fail
    refine (cP _ hX0.bath).mono ?_
    rintro e w1 ⟨rfl, hb1⟩
    have HX1 := Lib.hid (hX0.ext hb1)
    have HE1 := Lib.hid (hE0.trans hb1)
    clear hX0 hE0 hb1 cP
    go_wp2
    obtain ⟨p, hp⟩ : ∃ p, w.heap.size = p := ⟨_, rfl⟩
    rw [hp] at HX1 ⊢
    have HP := Lib.hid hp
    clear hp
    go_loopw [10, 11] (fun _ z wr => ∃ i0 : Nat, i0 ≤ k ∧ z = .int .i64 (i0 : Int) ∧ Hid (Ext w1 wr) ∧ Hid ((xs.take i0).Pairwise (· < ·)) ∧ Hid ((xs.take i0).all (placeB n) = true)) (fun _ z _ => k - (intOf z).toNat)
    case atStart => exact ⟨0, Nat.zero_le _, rfl, Lib.hid (Ext.refl _), Lib.hid List.Pairwise.nil, Lib.hid rfl⟩
    case round =>
      obtain ⟨i0, hi0, rfl, hB, hR, hA⟩ := hrel
      by_cases hlt : i0 < k
      · have hltz : (i0 : Int) < (k : Int) := by omega
        have hil : i0 < xs.length := by rw [← HK.out]; exact hlt
        obtain ⟨b, off, rfl, _⟩ := held_ext HH.out (HE1.out.trans hB.out) hil
        obtain ⟨x, hx0⟩ : ∃ x, xs[i0] = x := ⟨_, rfl⟩
        have hcx : ∀ W, Ext wr W → W.cell? ⟨b, off + i0, none⟩ = some (.int .i64 x) := fun W h => by
          obtain ⟨b', off', e, hc⟩ := held_ext HH.out (HE1.out.trans (hB.out.trans h)) hil
          cases e
          rw [hx0] at hc
          exact hc
        have hx := HX1.out.ext hB.out
        have cP0 := fun W => CQ.out x W
        have HX0 := Lib.hid hx0
        have HXW := Lib.hid hx
        have HCX := Lib.hid hcx
        clear hx0 hx hcx
        cases hpl : placeB n x with
        | false =>
          rw [hpl] at cP0
          obtain rfl : ans = 3 := by rw [HANS.out, if_neg (fun h => by rw [all_no_at (placeB n) hil (by rw [HX0.out]; exact hpl)] at h; exact absurd h.2 (by simp))]
          have hik := hlt
          have y := x
          clear hpl hR hA
          go_wp2
          have hx := HXW.out
          have hcx := HCX.out
          have cP : ∀ W, Ext wr W → Calls Try.prog 96 #[(.agg #[.int .i64 Wd, .slice A n c, .slice A' n' c']), .int .i64 x] W fun e w' => e = .returned (.bool false) ∧ Below W.heap.size W w' := fun W _ => cP0 W
          refine wp_region_maybe (ops := csAReg) (fun i v _ => v = csAV Wd A n c A' n' c' ss ds b off k d i0 p x y i) (Ext wr) (by kernel_rfl) (by kernel_rfl) ⟨rfl, rfl, rfl, Nat.le_refl _, fun _ _ => rfl⟩ (fun _ _ h e => h.trans e) (fun _ _ _ _ h _ => h) csAD (by kernel_rfl) ?_ ?_
          · intro i o ho a W hB hsz hold haft
            have hi : i < 23 := (Array.getElem?_eq_some_iff.1 ho).1
            match i, hi with
            | 0, _ => exact csA_op0 (hold 5 (by kernel_rfl)) hx hB ho
            | 1, _ => exact csA_op1 (hold 3 (by kernel_rfl)) ho
            | 2, _ => exact csA_op2 (hold 11 (by kernel_rfl)) ho
            | 3, _ => exact csA_op3 hik haft ho
            | 4, _ => exact csA_op4 hcx hB haft ho
            | 5, _ => exact csA_op5 cP hB haft ho
            | 6, _ => exact csA_op6 haft ho
            | 7, _ => exact csA_op7 haft ho
            | 8, _ => exact csA_op8 haft ho
            | 9, _ => exact csA_op9 haft ho
            | 10, _ => exact csA_op10 haft ho
            | 11, _ => exact csA_op11 haft ho
            | 12, _ => exact csA_op12 haft ho
            | 13, _ => exact csA_op13 haft ho
            | 14, _ => exact csA_op14 haft ho
            | 15, _ => exact csA_op15 haft ho
            | 16, _ => exact csA_op16 haft ho
            | 17, _ => exact csA_op17 haft ho
            | 18, _ => exact csA_op18 haft ho
            | 19, _ => exact csA_op19 haft ho
            | 20, _ => exact csA_op20 haft ho
            | 21, _ => exact csA_op21 haft ho
            | 22, _ => exact csA_op22 haft ho
            | n + 23, h => exact absurd h (by omega)
          · intro a W hBW hsz hdf hold hS
            have hsize : 23 = csAReg.size := by kernel_rfl
            have hall : ∀ zz, zz ∈ ([(29, (.agg #[.int .i64 Wd, .slice A n c, .slice A' n' c'])), (30, .slice (some ⟨b, off, none⟩) k d), (31, .int .i64 (i0 : Int)), (32, .pointer (some ⟨b, off + i0, none⟩)), (33, .int .i64 x), (34, .bool false), (35, .bool true), (36, .bool true), (37, undef), (38, undef), (39, undef), (40, undef), (41, undef), (42, undef), (43, undef), (44, undef), (45, undef), (46, undef), (47, undef), (48, undef), (49, undef), (50, undef), (51, .bool true)] : List (Tmp × Value)) → zz.1 < 88 ∧ a.eval (.tmp zz.1) = zz.2 := by
              intro zz hzz
              simp only [List.mem_cons, List.not_mem_nil, or_false] at hzz
              rcases hzz with rfl | rfl | rfl | rfl | rfl | rfl | rfl | rfl | rfl | rfl | rfl | rfl | rfl | rfl | rfl | rfl | rfl | rfl | rfl | rfl | rfl | rfl | rfl
              · exact ⟨(show (29 : Nat) < 88 by omega), hS 0 (by rw [← hsize]; omega)⟩
              · exact ⟨(show (30 : Nat) < 88 by omega), hS 1 (by rw [← hsize]; omega)⟩
              · exact ⟨(show (31 : Nat) < 88 by omega), hS 2 (by rw [← hsize]; omega)⟩
              · exact ⟨(show (32 : Nat) < 88 by omega), hS 3 (by rw [← hsize]; omega)⟩
              · exact ⟨(show (33 : Nat) < 88 by omega), hS 4 (by rw [← hsize]; omega)⟩
              · exact ⟨(show (34 : Nat) < 88 by omega), hS 5 (by rw [← hsize]; omega)⟩
              · exact ⟨(show (35 : Nat) < 88 by omega), hS 6 (by rw [← hsize]; omega)⟩
              · exact ⟨(show (36 : Nat) < 88 by omega), hS 7 (by rw [← hsize]; omega)⟩
              · exact ⟨(show (37 : Nat) < 88 by omega), hS 8 (by rw [← hsize]; omega)⟩
              · exact ⟨(show (38 : Nat) < 88 by omega), hS 9 (by rw [← hsize]; omega)⟩
              · exact ⟨(show (39 : Nat) < 88 by omega), hS 10 (by rw [← hsize]; omega)⟩
              · exact ⟨(show (40 : Nat) < 88 by omega), hS 11 (by rw [← hsize]; omega)⟩
              · exact ⟨(show (41 : Nat) < 88 by omega), hS 12 (by rw [← hsize]; omega)⟩
              · exact ⟨(show (42 : Nat) < 88 by omega), hS 13 (by rw [← hsize]; omega)⟩
              · exact ⟨(show (43 : Nat) < 88 by omega), hS 14 (by rw [← hsize]; omega)⟩
              · exact ⟨(show (44 : Nat) < 88 by omega), hS 15 (by rw [← hsize]; omega)⟩
              · exact ⟨(show (45 : Nat) < 88 by omega), hS 16 (by rw [← hsize]; omega)⟩
              · exact ⟨(show (46 : Nat) < 88 by omega), hS 17 (by rw [← hsize]; omega)⟩
              · exact ⟨(show (47 : Nat) < 88 by omega), hS 18 (by rw [← hsize]; omega)⟩
              · exact ⟨(show (48 : Nat) < 88 by omega), hS 19 (by rw [← hsize]; omega)⟩
              · exact ⟨(show (49 : Nat) < 88 by omega), hS 20 (by rw [← hsize]; omega)⟩
              · exact ⟨(show (50 : Nat) < 88 by omega), hS 21 (by rw [← hsize]; omega)⟩
              · exact ⟨(show (51 : Nat) < 88 by omega), hS 22 (by rw [← hsize]; omega)⟩
            have ha := act_puts hsz hdf hall (fun t ht => hold t (all_ne_of (l := [(29, (.agg #[.int .i64 Wd, .slice A n c, .slice A' n' c'])), (30, .slice (some ⟨b, off, none⟩) k d), (31, .int .i64 (i0 : Int)), (32, .pointer (some ⟨b, off + i0, none⟩)), (33, .int .i64 x), (34, .bool false), (35, .bool true), (36, .bool true), (37, undef), (38, undef), (39, undef), (40, undef), (41, undef), (42, undef), (43, undef), (44, undef), (45, undef), (46, undef), (47, undef), (48, undef), (49, undef), (50, undef), (51, .bool true)]) (by kernel_rfl) ht))
            clear hall hS hold hsz hdf hsize
            rw [ha]
            clear ha
            simp only [Exit.then, puts, List.foldl_cons, List.foldl_nil, Act.put, List.setIfInBounds_toArray, List.set_cons_succ, List.set_cons_zero]
            go_at_K
            go_wp2
            go_ret
            exact ⟨rfl, HE1.out.trans (hB.out.trans hBW)⟩
        | true =>
          rw [hpl] at cP0
          have hA1 : Hid ((xs.take (i0 + 1)).all (placeB n) = true) := Lib.hid (all_take_succ _ hil hA.out (by rw [HX0.out]; exact hpl))
          clear hpl hA
          have hik := hlt
          by_cases hi00 : i0 = 0
          · have hR1 : Hid ((xs.take (i0 + 1)).Pairwise (· < ·)) := Lib.hid (rising_take_succ hil hR.out (fun h => absurd hi00 (by omega)))
            have hi0z := hi00
            have HI0 := Lib.hid hi00
            have y := x
            clear hR hi00 hi0z
            go_wp2
            have hx := HXW.out
            have hcx := HCX.out
            have hi0 := HI0.out
            have cP : ∀ W, Ext wr W → Calls Try.prog 96 #[(.agg #[.int .i64 Wd, .slice A n c, .slice A' n' c']), .int .i64 x] W fun e w' => e = .returned (.bool true) ∧ Below W.heap.size W w' := fun W _ => cP0 W
            refine wp_region_maybe (ops := csBReg) (fun i v _ => v = csBV Wd A n c A' n' c' ss ds b off k d i0 p x y i) (Ext wr) (by kernel_rfl) (by kernel_rfl) ⟨rfl, rfl, rfl, Nat.le_refl _, fun _ _ => rfl⟩ (fun _ _ h e => h.trans e) (fun _ _ _ _ h _ => h) csBD (by kernel_rfl) ?_ ?_
            · intro i o ho a W hB hsz hold haft
              have hi : i < 23 := (Array.getElem?_eq_some_iff.1 ho).1
              match i, hi with
              | 0, _ => exact csB_op0 (hold 5 (by kernel_rfl)) hx hB ho
              | 1, _ => exact csB_op1 (hold 3 (by kernel_rfl)) ho
              | 2, _ => exact csB_op2 (hold 11 (by kernel_rfl)) ho
              | 3, _ => exact csB_op3 hik haft ho
              | 4, _ => exact csB_op4 hcx hB haft ho
              | 5, _ => exact csB_op5 cP hB haft ho
              | 6, _ => exact csB_op6 haft ho
              | 7, _ => exact csB_op7 haft ho
              | 8, _ => exact csB_op8 (hold 11 (by kernel_rfl)) haft ho
              | 9, _ => exact csB_op9 hi0 haft ho
              | 10, _ => exact csB_op10 haft ho
              | 11, _ => exact csB_op11 haft ho
              | 12, _ => exact csB_op12 haft ho
              | 13, _ => exact csB_op13 haft ho
              | 14, _ => exact csB_op14 haft ho
              | 15, _ => exact csB_op15 haft ho
              | 16, _ => exact csB_op16 haft ho
              | 17, _ => exact csB_op17 haft ho
              | 18, _ => exact csB_op18 haft ho
              | 19, _ => exact csB_op19 haft ho
              | 20, _ => exact csB_op20 haft ho
              | 21, _ => exact csB_op21 haft ho
              | 22, _ => exact csB_op22 haft ho
              | n + 23, h => exact absurd h (by omega)
            · intro a W hBW hsz hdf hold hS
              have hsize : 23 = csBReg.size := by kernel_rfl
              have hall : ∀ zz, zz ∈ ([(29, (.agg #[.int .i64 Wd, .slice A n c, .slice A' n' c'])), (30, .slice (some ⟨b, off, none⟩) k d), (31, .int .i64 (i0 : Int)), (32, .pointer (some ⟨b, off + i0, none⟩)), (33, .int .i64 x), (34, .bool true), (35, .bool false), (36, .bool false), (37, .int .i64 (i0 : Int)), (38, .bool false), (39, .bool false), (40, undef), (41, undef), (42, undef), (43, undef), (44, undef), (45, undef), (46, undef), (47, undef), (48, undef), (49, undef), (50, .bool false), (51, .bool false)] : List (Tmp × Value)) → zz.1 < 88 ∧ a.eval (.tmp zz.1) = zz.2 := by
                intro zz hzz
                simp only [List.mem_cons, List.not_mem_nil, or_false] at hzz
                rcases hzz with rfl | rfl | rfl | rfl | rfl | rfl | rfl | rfl | rfl | rfl | rfl | rfl | rfl | rfl | rfl | rfl | rfl | rfl | rfl | rfl | rfl | rfl | rfl
                · exact ⟨(show (29 : Nat) < 88 by omega), hS 0 (by rw [← hsize]; omega)⟩
                · exact ⟨(show (30 : Nat) < 88 by omega), hS 1 (by rw [← hsize]; omega)⟩
                · exact ⟨(show (31 : Nat) < 88 by omega), hS 2 (by rw [← hsize]; omega)⟩
                · exact ⟨(show (32 : Nat) < 88 by omega), hS 3 (by rw [← hsize]; omega)⟩
                · exact ⟨(show (33 : Nat) < 88 by omega), hS 4 (by rw [← hsize]; omega)⟩
                · exact ⟨(show (34 : Nat) < 88 by omega), hS 5 (by rw [← hsize]; omega)⟩
                · exact ⟨(show (35 : Nat) < 88 by omega), hS 6 (by rw [← hsize]; omega)⟩
                · exact ⟨(show (36 : Nat) < 88 by omega), hS 7 (by rw [← hsize]; omega)⟩
                · exact ⟨(show (37 : Nat) < 88 by omega), hS 8 (by rw [← hsize]; omega)⟩
                · exact ⟨(show (38 : Nat) < 88 by omega), hS 9 (by rw [← hsize]; omega)⟩
                · exact ⟨(show (39 : Nat) < 88 by omega), hS 10 (by rw [← hsize]; omega)⟩
                · exact ⟨(show (40 : Nat) < 88 by omega), hS 11 (by rw [← hsize]; omega)⟩
                · exact ⟨(show (41 : Nat) < 88 by omega), hS 12 (by rw [← hsize]; omega)⟩
                · exact ⟨(show (42 : Nat) < 88 by omega), hS 13 (by rw [← hsize]; omega)⟩
                · exact ⟨(show (43 : Nat) < 88 by omega), hS 14 (by rw [← hsize]; omega)⟩
                · exact ⟨(show (44 : Nat) < 88 by omega), hS 15 (by rw [← hsize]; omega)⟩
                · exact ⟨(show (45 : Nat) < 88 by omega), hS 16 (by rw [← hsize]; omega)⟩
                · exact ⟨(show (46 : Nat) < 88 by omega), hS 17 (by rw [← hsize]; omega)⟩
                · exact ⟨(show (47 : Nat) < 88 by omega), hS 18 (by rw [← hsize]; omega)⟩
                · exact ⟨(show (48 : Nat) < 88 by omega), hS 19 (by rw [← hsize]; omega)⟩
                · exact ⟨(show (49 : Nat) < 88 by omega), hS 20 (by rw [← hsize]; omega)⟩
                · exact ⟨(show (50 : Nat) < 88 by omega), hS 21 (by rw [← hsize]; omega)⟩
                · exact ⟨(show (51 : Nat) < 88 by omega), hS 22 (by rw [← hsize]; omega)⟩
              have ha := act_puts hsz hdf hall (fun t ht => hold t (all_ne_of (l := [(29, (.agg #[.int .i64 Wd, .slice A n c, .slice A' n' c'])), (30, .slice (some ⟨b, off, none⟩) k d), (31, .int .i64 (i0 : Int)), (32, .pointer (some ⟨b, off + i0, none⟩)), (33, .int .i64 x), (34, .bool true), (35, .bool false), (36, .bool false), (37, .int .i64 (i0 : Int)), (38, .bool false), (39, .bool false), (40, undef), (41, undef), (42, undef), (43, undef), (44, undef), (45, undef), (46, undef), (47, undef), (48, undef), (49, undef), (50, .bool false), (51, .bool false)]) (by kernel_rfl) ht))
              clear hall hS hold hsz hdf hsize
              rw [ha]
              clear ha
              simp only [Exit.then, puts, List.foldl_cons, List.foldl_nil, Act.put, List.setIfInBounds_toArray, List.set_cons_succ, List.set_cons_zero]
              go_at_K
              have hE2 := Lib.hid (hB.out.trans hBW)
              clear hBW hx hcx cP hi0
              go_wp2
              go_roundw
              case measure => simp [intOf]; omega
              case rel => exact ⟨i0 + 1, by omega, by go_num, hE2, hR1, hA1⟩
          · have hi0p : 0 < i0 := by omega
            obtain ⟨y, hy0⟩ : ∃ y, xs[i0 - 1]'(by omega) = y := ⟨_, rfl⟩
            have hcy : ∀ W, Ext wr W → W.cell? ⟨b, off + (i0 - 1), none⟩ = some (.int .i64 y) := fun W h => by
              obtain ⟨b', off', e, hc⟩ := held_ext HH.out (HE1.out.trans (hB.out.trans h)) (show i0 - 1 < xs.length by omega)
              cases e
              rw [hy0] at hc
              exact hc
            have hikn : i0 ≤ 9223372036854775807 := by omega
            have HY0 := Lib.hid hy0
            have HCY := Lib.hid hcy
            have hans3 : y < x ∨ ans = 3 := by
              by_cases hyx : y < x
              · exact .inl hyx
              · right
                rw [HANS.out, if_neg]
                intro h
                have := List.pairwise_iff_getElem.1 (of_decide_eq_true h.1) (i0 - 1) i0 (by omega) hil (by omega)
                rw [hy0, HX0.out] at this
                exact hyx this
            have hR1 : Hid (y < x → (xs.take (i0 + 1)).Pairwise (· < ·)) := Lib.hid fun hyx => rising_take_succ hil hR.out (fun _ => by rw [hy0, HX0.out]; exact hyx)
            have HANS3 := Lib.hid hans3
            clear hi00 hy0 hcy hR hans3
            go_wp2
            have hx := HXW.out
            have hcx := HCX.out
            have hcy := HCY.out
            have hi0 := hi0p
            have hwr : IntKind.i64.wrap ((i0 : Int) - 1) = (i0 : Int) - 1 := IntWalk.i64_in _ (by omega)
            have h01 : (0 : Int) ≤ (i0 : Int) - 1 := by omega
            have h11 : ¬ (i0 : Int) < 1 := by omega
            have hl1 : (i0 : Int) - 1 < (k : Int) := by omega
            have htn : ((i0 : Int) - 1).toNat = i0 - 1 := by omega
            have cP : ∀ W, Ext wr W → Calls Try.prog 96 #[(.agg #[.int .i64 Wd, .slice A n c, .slice A' n' c']), .int .i64 x] W fun e w' => e = .returned (.bool true) ∧ Below W.heap.size W w' := fun W _ => cP0 W
            refine wp_region_maybe (ops := csCReg) (fun i v _ => v = csCV Wd A n c A' n' c' ss ds b off k d i0 p x y i) (Ext wr) (by kernel_rfl) (by kernel_rfl) ⟨rfl, rfl, rfl, Nat.le_refl _, fun _ _ => rfl⟩ (fun _ _ h e => h.trans e) (fun _ _ _ _ h _ => h) csCD (by kernel_rfl) ?_ ?_
            · intro i o ho a W hB hsz hold haft
              have hi : i < 23 := (Array.getElem?_eq_some_iff.1 ho).1
              match i, hi with
              | 0, _ => exact csC_op0 (hold 5 (by kernel_rfl)) hx hB ho
              | 1, _ => exact csC_op1 (hold 3 (by kernel_rfl)) ho
              | 2, _ => exact csC_op2 (hold 11 (by kernel_rfl)) ho
              | 3, _ => exact csC_op3 hik haft ho
              | 4, _ => exact csC_op4 hcx hB haft ho
              | 5, _ => exact csC_op5 cP hB haft ho
              | 6, _ => exact csC_op6 haft ho
              | 7, _ => exact csC_op7 haft ho
              | 8, _ => exact csC_op8 (hold 11 (by kernel_rfl)) haft ho
              | 9, _ => exact csC_op9 hi0 haft ho
              | 10, _ => exact csC_op10 haft ho
              | 11, _ => exact csC_op11 (hold 3 (by kernel_rfl)) haft ho
              | 12, _ => exact csC_op12 (hold 11 (by kernel_rfl)) haft ho
              | 13, _ => exact csC_op13 hik haft ho
              | 14, _ => exact csC_op14 hcx hB haft ho
              | 15, _ => exact csC_op15 (hold 3 (by kernel_rfl)) haft ho
              | 16, _ => exact csC_op16 (hold 11 (by kernel_rfl)) haft ho
              | 17, _ => exact csC_op17 hwr haft ho
              | 18, _ => exact csC_op18 h01 h11 hl1 htn haft ho
              | 19, _ => exact csC_op19 hcy hB haft ho
              | 20, _ => exact csC_op20 haft ho
              | 21, _ => exact csC_op21 haft ho
              | 22, _ => exact csC_op22 haft ho
              | n + 23, h => exact absurd h (by omega)
            · intro a W hBW hsz hdf hold hS
              have hsize : 23 = csCReg.size := by kernel_rfl
              have hall : ∀ zz, zz ∈ ([(29, (.agg #[.int .i64 Wd, .slice A n c, .slice A' n' c'])), (30, .slice (some ⟨b, off, none⟩) k d), (31, .int .i64 (i0 : Int)), (32, .pointer (some ⟨b, off + i0, none⟩)), (33, .int .i64 x), (34, .bool true), (35, .bool false), (36, .bool false), (37, .int .i64 (i0 : Int)), (38, .bool true), (39, .bool true), (40, .slice (some ⟨b, off, none⟩) k d), (41, .int .i64 (i0 : Int)), (42, .pointer (some ⟨b, off + i0, none⟩)), (43, .int .i64 x), (44, .slice (some ⟨b, off, none⟩) k d), (45, .int .i64 (i0 : Int)), (46, .int .i64 ((i0 : Int) - 1)), (47, .pointer (some ⟨b, off + (i0 - 1), none⟩)), (48, .int .i64 y), (49, .bool (decide (x ≤ y))), (50, .bool (decide (x ≤ y))), (51, .bool (decide (x ≤ y)))] : List (Tmp × Value)) → zz.1 < 88 ∧ a.eval (.tmp zz.1) = zz.2 := by
                intro zz hzz
                simp only [List.mem_cons, List.not_mem_nil, or_false] at hzz
                rcases hzz with rfl | rfl | rfl | rfl | rfl | rfl | rfl | rfl | rfl | rfl | rfl | rfl | rfl | rfl | rfl | rfl | rfl | rfl | rfl | rfl | rfl | rfl | rfl
                · exact ⟨(show (29 : Nat) < 88 by omega), hS 0 (by rw [← hsize]; omega)⟩
                · exact ⟨(show (30 : Nat) < 88 by omega), hS 1 (by rw [← hsize]; omega)⟩
                · exact ⟨(show (31 : Nat) < 88 by omega), hS 2 (by rw [← hsize]; omega)⟩
                · exact ⟨(show (32 : Nat) < 88 by omega), hS 3 (by rw [← hsize]; omega)⟩
                · exact ⟨(show (33 : Nat) < 88 by omega), hS 4 (by rw [← hsize]; omega)⟩
                · exact ⟨(show (34 : Nat) < 88 by omega), hS 5 (by rw [← hsize]; omega)⟩
                · exact ⟨(show (35 : Nat) < 88 by omega), hS 6 (by rw [← hsize]; omega)⟩
                · exact ⟨(show (36 : Nat) < 88 by omega), hS 7 (by rw [← hsize]; omega)⟩
                · exact ⟨(show (37 : Nat) < 88 by omega), hS 8 (by rw [← hsize]; omega)⟩
                · exact ⟨(show (38 : Nat) < 88 by omega), hS 9 (by rw [← hsize]; omega)⟩
                · exact ⟨(show (39 : Nat) < 88 by omega), hS 10 (by rw [← hsize]; omega)⟩
                · exact ⟨(show (40 : Nat) < 88 by omega), hS 11 (by rw [← hsize]; omega)⟩
                · exact ⟨(show (41 : Nat) < 88 by omega), hS 12 (by rw [← hsize]; omega)⟩
                · exact ⟨(show (42 : Nat) < 88 by omega), hS 13 (by rw [← hsize]; omega)⟩
                · exact ⟨(show (43 : Nat) < 88 by omega), hS 14 (by rw [← hsize]; omega)⟩
                · exact ⟨(show (44 : Nat) < 88 by omega), hS 15 (by rw [← hsize]; omega)⟩
                · exact ⟨(show (45 : Nat) < 88 by omega), hS 16 (by rw [← hsize]; omega)⟩
                · exact ⟨(show (46 : Nat) < 88 by omega), hS 17 (by rw [← hsize]; omega)⟩
                · exact ⟨(show (47 : Nat) < 88 by omega), hS 18 (by rw [← hsize]; omega)⟩
                · exact ⟨(show (48 : Nat) < 88 by omega), hS 19 (by rw [← hsize]; omega)⟩
                · exact ⟨(show (49 : Nat) < 88 by omega), hS 20 (by rw [← hsize]; omega)⟩
                · exact ⟨(show (50 : Nat) < 88 by omega), hS 21 (by rw [← hsize]; omega)⟩
                · exact ⟨(show (51 : Nat) < 88 by omega), hS 22 (by rw [← hsize]; omega)⟩
              have ha := act_puts hsz hdf hall (fun t ht => hold t (all_ne_of (l := [(29, (.agg #[.int .i64 Wd, .slice A n c, .slice A' n' c'])), (30, .slice (some ⟨b, off, none⟩) k d), (31, .int .i64 (i0 : Int)), (32, .pointer (some ⟨b, off + i0, none⟩)), (33, .int .i64 x), (34, .bool true), (35, .bool false), (36, .bool false), (37, .int .i64 (i0 : Int)), (38, .bool true), (39, .bool true), (40, .slice (some ⟨b, off, none⟩) k d), (41, .int .i64 (i0 : Int)), (42, .pointer (some ⟨b, off + i0, none⟩)), (43, .int .i64 x), (44, .slice (some ⟨b, off, none⟩) k d), (45, .int .i64 (i0 : Int)), (46, .int .i64 ((i0 : Int) - 1)), (47, .pointer (some ⟨b, off + (i0 - 1), none⟩)), (48, .int .i64 y), (49, .bool (decide (x ≤ y))), (50, .bool (decide (x ≤ y))), (51, .bool (decide (x ≤ y)))]) (by kernel_rfl) ht))
              clear hall hS hold hsz hdf hsize
              rw [ha]
              clear ha
              simp only [Exit.then, puts, List.foldl_cons, List.foldl_nil, Act.put, List.setIfInBounds_toArray, List.set_cons_succ, List.set_cons_zero]
              go_at_K
              have hE2 := Lib.hid (hB.out.trans hBW)
              clear hBW hx hcx hcy cP hi0 hwr h01 h11 hl1 htn
              by_cases hyx : y < x
              · have hd : decide (x ≤ y) = false := by simp; omega
                have HR2 := Lib.hid (hR1.out hyx)
                rw [hd]
                clear hyx hd
                go_wp2
                go_roundw
                case measure => simp [intOf]; omega
                case rel => exact ⟨i0 + 1, by omega, by go_num, hE2, HR2, hA1⟩
              · have hd : decide (x ≤ y) = true := by simp; omega
                obtain rfl : ans = 3 := HANS3.out.resolve_left hyx
                rw [hd]
                clear hyx hd
                go_wp2
                go_ret
                exact ⟨rfl, HE1.out.trans hE2.out⟩
      · have hltz : ¬ (i0 : Int) < (k : Int) := by omega
        obtain rfl : i0 = k := by omega
        have hRis : xs.Pairwise (· < ·) := by
          have := hR.out
          rw [HK.out, List.take_length] at this
          exact this
        have hAll : xs.all (placeB n) = true := by
          have := hA.out
          rw [HK.out, List.take_length] at this
          exact this
        have HALL := Lib.hid hAll
        have HANS4 : Hid (ans = if decide (one ∈ xs) = true ∧ decide (two ∈ xs) = false ∧ leadsB T (marksOf xs) = false then 0 else 14) := Lib.hid (by rw [HANS.out, if_pos ⟨by simpa using hRis, hAll⟩])
        have cI := fun (z : Int) (W : World) (h : Ext w1 W) => in_ref L i0 d xs z W HK.out hkn (HH.out.ext (HE1.out.trans h))
        have CI := Lib.hid cI
        have c1 := cI one wr hB.out
        have c2 := cI two wr hB.out
        clear hRis hAll hA hR HANS cI
        cases h1 : decide (one ∈ xs) with
        | false =>
          rw [h1] at c1
          obtain rfl : ans = 14 := by rw [HANS4.out, if_neg (fun h => by rw [h1] at h; exact absurd h.1 (by simp))]
          clear h1 c2
          go_wp2_with (go_at_call 100; refine c1.mono ?_; rintro e w2 ⟨rfl, rfl⟩)
          go_ret
          exact ⟨rfl, HE1.out.trans hB.out⟩
        | true =>
          rw [h1] at c1
          cases h2 : decide (two ∈ xs) with
          | true =>
            rw [h2] at c2
            obtain rfl : ans = 14 := by rw [HANS4.out, if_neg (fun h => by rw [h2] at h; exact absurd h.2.1 (by simp))]
            clear h1 h2
            go_wp2_with (first | (go_at_call 100; (with_reducible refine c1.mono ?_); rintro e w2 ⟨rfl, rfl⟩) | (go_at_call 100; (with_reducible refine c2.mono ?_); rintro e w2 ⟨rfl, rfl⟩))
            go_ret
            exact ⟨rfl, HE1.out.trans hB.out⟩
          | false =>
            rw [h2] at c2
            have HANS5 : Hid (ans = if leadsB T (marksOf xs) = false then 0 else 14) := Lib.hid (by rw [HANS4.out, h1, h2]; simp)
            clear h1 h2 HANS4
            obtain ⟨m, hm⟩ : ∃ m, n + 2 = m := ⟨_, rfl⟩
            have HM := Lib.hid hm
            have EB := hB
            clear hm
            go_wp2_with (first | (go_at_call 100; (with_reducible refine c1.mono ?_); rintro e w2 ⟨rfl, rfl⟩) | (go_at_call 100; (with_reducible refine c2.mono ?_); rintro e w2 ⟨rfl, rfl⟩))
            clear c1 c2 hB hltz hlt hi0
            go_loopw [10, 12, 13] (fun _ z _ wr => ∃ q : Nat, q ≤ i0 ∧ z = .int .i64 (q : Int) ∧ Hid (Ext w1 wr) ∧ Hid (∀ j, j < q → ∀ p', p' < m → marksOf xs p' = true ∨ T (xs.getD j 0 + 2).toNat p' = false)) (fun _ z _ _ => i0 - (intOf z).toNat)
            case atStart => exact ⟨0, Nat.zero_le _, rfl, EB, Lib.hid (fun j hj => absurd hj (by omega))⟩
            case round =>
              clear EB
              obtain ⟨q, hq, rfl, hB, hN⟩ := hrel
              by_cases hlt : q < i0
              · have hltz : (q : Int) < (i0 : Int) := by omega
                have hql : q < xs.length := by rw [← HK.out]; exact hlt
                obtain ⟨x, hx0⟩ : ∃ x, xs[q] = x := ⟨_, rfl⟩
                have hpx : placeB n x = true := by rw [← hx0]; exact List.all_eq_true.1 HALL.out _ (List.getElem_mem hql)
                have hgx : xs.getD q 0 = x := by rw [← hx0]; simp [List.getElem?_eq_getElem hql]
                have HX0 := Lib.hid (And.intro hx0 (And.intro hpx hgx))
                clear hx0 hpx hgx
                go_wp2
                go_loopw [10, 13] (fun _ z wr => ∃ r : Nat, r ≤ m ∧ z = .int .i64 ((r : Int) - 2) ∧ Hid (Ext w1 wr) ∧ Hid (∀ p', p' < r → marksOf xs p' = true ∨ T (x + 2).toNat p' = false)) (fun _ z _ => m - (intOf z + 2).toNat)
                case atStart => exact ⟨0, Nat.zero_le _, rfl, hB, Lib.hid (fun j hj => absurd hj (by omega))⟩
                case round =>
                  clear hB
                  obtain ⟨r, hr, rfl, hB, hS⟩ := hrel
                  have hxw := HX1.out.ext hB.out
                  obtain ⟨q0, q1, q2⟩ := hxw.cells
                  by_cases hrm : r < m
                  · have hrz : (r : Int) - 2 < (n : Int) := by have := HM.out; omega
                    have hrb : (r : Int) ≤ 12 := by have := HM.out; have := HN10.out; omega
                    have hmk : marksOf xs r = decide (((r : Int) - 2) ∈ xs) := rfl
                    have cI := fun (W : World) (h : Ext wr W) => CI.out ((r : Int) - 2) W (hB.out.trans h)
                    cases hin : decide (((r : Int) - 2) ∈ xs) with
                    | true =>
                      rw [hin] at cI
                      have hS1 : Hid (∀ p', p' < r + 1 → marksOf xs p' = true ∨ T (x + 2).toNat p' = false) := Lib.hid fun p' hp' => by
                        by_cases e : p' = r
                        · subst e
                          exact .inl (hmk.trans hin)
                        · exact hS.out p' (by omega)
                      clear hin hmk hS hxw
                      go_wp2
                      go_quiet (((go_at_call 100; exact Calls.quiet_of_same (cI _ (bdrewN (Below.refl _ _) _)))))
                      go_wp2
                      go_roundw
                      case measure => simp [intOf]; omega
                      case rel => exact ⟨r + 1, by omega, by go_num, Lib.hid (ext_drewN hB.out _), hS1⟩
                    | false =>
                      rw [hin] at cI
                      have hne : x ≠ (r : Int) - 2 := fun e => by
                        have : x ∈ xs := by rw [← HX0.out.1]; exact List.getElem_mem hql
                        rw [e] at this
                        rw [decide_eq_false_iff_not] at hin
                        exact hin this
                      have cH := fun W h => CH.out x r HX0.out.2.1 (by rw [HM.out]; exact hrm) hne W h
                      have HMK := Lib.hid (hmk.trans hin)
                      clear hin hmk hne hxw
                      go_wp2
                      refine wp_region_still_tail 12 (by kernel_rfl) (by kernel_rfl) ?_
                      obtain ⟨wd, hwd, ed⟩ : ∃ wd : World, ({ wr with drawn := wr.drawn + 1 } : World) = wd ∧ Ext wr wd := ⟨_, rfl, (Below.refl _ wr).drew⟩
                      rw [hwd]
                      clear hwd q0 q1 q2
                      have hBd := hB.out.trans ed
                      have hxd := HX1.out.ext hBd
                      obtain ⟨q0, q1, q2⟩ := hxd.cells
                      obtain ⟨b, off, rfl, hc⟩ := held_ext HH.out (HE1.out.trans hBd) hql
                      rw [HX0.out.1] at hc
                      have cD := cH wd hxd.bath
                      have cE := cI wd ed
                      have HBd := Lib.hid hBd
                      clear hBd ed hB hxd cH cI
                      simp only [List.take_succ_cons, List.take_zero, List.drop_succ_cons, List.drop_zero]
                      repeat still_step
                      still_call cE
                      repeat still_step
                      refine wpStill_nil ?_
                      cases hT : T (x + 2).toNat r with
                      | true =>
                        rw [hT] at cD
                        obtain rfl : ans = 14 := by
                          rw [HANS5.out, if_neg]
                          have h1 : marksOf xs (x + 2).toNat = true := by
                            have hpx := HX0.out.2.1
                            simp only [placeB, Bool.and_eq_true, decide_eq_true_eq] at hpx
                            unfold marksOf
                            rw [show (((x + 2).toNat : Nat) : Int) - 2 = x from by omega, decide_eq_true_eq, ← HX0.out.1]
                            exact List.getElem_mem hql
                          have h2 := HTL.out _ _ hT
                          rw [leads_yes (by have := HN10.out; omega) (by have := HN10.out; omega) h1 HMK.out hT]
                          simp
                        clear hT hS
                        go_wp2_with fail
                        refine cD.mono ?_
                        rintro e w3 ⟨rfl, e3⟩
                        have hE3 := Lib.hid (HE1.out.trans (HBd.out.trans e3))
                        clear e3 q0 q1 q2 hc cD cE
                        go_wp2
                        go_ret
                        exact ⟨rfl, hE3.out⟩
                      | false =>
                        rw [hT] at cD
                        have hS1 : Hid (∀ p', p' < r + 1 → marksOf xs p' = true ∨ T (x + 2).toNat p' = false) := Lib.hid fun p' hp' => by
                          by_cases e : p' = r
                          · subst e
                            exact .inr hT
                          · exact hS.out p' (by omega)
                        clear hT hS
                        go_wp2_with fail
                        refine cD.mono ?_
                        rintro e w3 ⟨rfl, e3⟩
                        have hE3 := Lib.hid (HBd.out.trans e3)
                        clear e3 q0 q1 q2 hc cD cE
                        go_wp2
                        go_roundw
                        case measure => simp [intOf]; omega
                        case rel => exact ⟨r + 1, by omega, by go_num, hE3, hS1⟩
                  · have hrz : ¬ (r : Int) - 2 < (n : Int) := by have := HM.out; omega
                    obtain rfl : r = m := by omega
                    have hN1 : Hid (∀ j, j < q + 1 → ∀ p', p' < r → marksOf xs p' = true ∨ T (xs.getD j 0 + 2).toNat p' = false) := Lib.hid fun j hj p' hp' => by
                      by_cases e : j = q
                      · subst e
                        rw [HX0.out.2.2]
                        exact hS.out p' hp'
                      · exact hN.out j (by omega) p' hp'
                    clear hS hN hxw
                    go_wp2
                    go_roundw
                    case measure => simp [intOf]; omega
                    case rel => exact ⟨q + 1, by omega, by go_num, hB, hN1⟩
              · have hltz : ¬ (q : Int) < (i0 : Int) := by omega
                obtain rfl : ans = 0 := by
                  rw [HANS5.out, if_pos]
                  refine leads_no fun i j hi hj hM1 hM2 => ?_
                  cases hTT : T i j with
                  | false => rfl
                  | true =>
                    exfalso
                    have h2 := HTL.out _ _ hTT
                    unfold marksOf at hM1
                    rw [decide_eq_true_eq] at hM1
                    obtain ⟨u, hu, hux⟩ := List.getElem_of_mem hM1
                    have h3 := hN.out u (by have := HK.out; omega) j (by rw [← HM.out]; exact h2.2.1)
                    have hg : xs.getD u 0 = (i : Int) - 2 := by rw [← hux]; simp [List.getElem?_eq_getElem hu]
                    rw [hg, show ((i : Int) - 2 + 2).toNat = i from by omega, hTT, hM2] at h3
                    rcases h3 with h3 | h3 <;> cases h3
                clear hN
                go_wp2
                go_ret
                exact ⟨rfl, HE1.out.trans hB.out⟩
  · have ha : checkSideAns Wd ss ds one two xs sure = forErr Wd ss ds one two := by unfold checkSideAns; rw [if_neg he]
    rw [ha]
    generalize forErr Wd ss ds one two = r at he cP ⊢
    have hne2 : (r != 0) = true := by simpa using he
    clear hb hh hk ha he
    go_enter Try.func40, Try.ntmps40
    go_wp2_with fail
    refine (cP _ hX0.bath).mono ?_
    rintro e w1 ⟨rfl, hb1⟩
    have hX1 := hX0.ext hb1
    have hE1 := Lib.hid (hE0.trans hb1)
    clear hX0 hE0 hb1
    obtain ⟨q0, q1, q2⟩ := hX1.cells
    go_wp2_with fail
    refine (cP _ hX1.bath).mono ?_
    rintro e w2 ⟨rfl, hb2⟩
    go_wp2
    go_ret
    exact ⟨rfl, hE1.out.trans hb2⟩
end
end Go.Proofs.Ytckndnaohggmhaa
