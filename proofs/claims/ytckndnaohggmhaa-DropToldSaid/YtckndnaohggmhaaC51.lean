/- Texts of the package drop, joined: DropToldLast. -/
import Derived.Test.YtckndnaohggmhaaC49
/- DropTold: what each operation of the last statement yields. -/
namespace Go.Proofs.Ytckndnaohggmhaa
open Go.RowKit Go.Shelf

/-- The slots. -/
def toldLD (i : Nat) : Tmp := if i = 19 then 8 else 231 + i
/-- What each operation yields. -/
def toldLV (Wd : Int) (A : Option Addr) (n c : Nat) (n' c' : Nat) (_ss : List (Int × Int)) (_ds : List (Int × Int × Int)) (L : Option Addr) (p b off m cL d f : Nat) (sd sf kk : Int) (ix : Nat) : Value :=
  match ix with
  | 0 => (.agg #[.int .i64 Wd, .slice A n c, .slice (some ⟨b, off, none⟩) n' c'])
  | 1 => .slice L m cL
  | 2 => .pointer (some ⟨p, 2, none⟩)
  | 3 => .slice (some ⟨b, off, none⟩) n' c'
  | 4 => .int .i64 (d : Int)
  | 5 => .pointer (some ⟨b, off + d * 3, none⟩)
  | 6 => .pointer (some ⟨b, off + d * 3, none⟩)
  | 7 => .int .i64 sd
  | 8 => .pointer (some ⟨p, 2, none⟩)
  | 9 => .slice (some ⟨b, off, none⟩) n' c'
  | 10 => .int .i64 (f : Int)
  | 11 => .pointer (some ⟨b, off + f * 3, none⟩)
  | 12 => .pointer (some ⟨b, off + f * 3, none⟩)
  | 13 => .int .i64 sf
  | 14 => .int .i64 kk
  | _ => .bool true
noncomputable def toldLReg : Array Oper := (Try.f8.body.bind (regionOf · 33)).getD #[]
def toldLOk (Wd : Int) (A : Option Addr) (n c : Nat) (n' c' : Nat) (ss : List (Int × Int)) (ds : List (Int × Int × Int)) (L : Option Addr) (p b off m cL d f : Nat) (sd sf kk : Int) (Q : Exit → Act → World → Prop) (a : Act) (W : World) (ix : Nat) (o : Oper) : Prop :=
  (∀ j b, o.guard = some (j, b) → a.eval (.tmp (toldLD j)) = .bool b) ∧ o.wp Try.prog a W (fun a'' W' => ∃ v, a'' = a.put o.dst v ∧ v = toldLV Wd A n c n' c' ss ds L p b off m cL d f sd sf kk ix ∧ Below W.heap.size W W') Q

section
variable {Wd : Int} {A : Option Addr} {n c : Nat} {n' c' : Nat} {ss : List (Int × Int)} {ds : List (Int × Int × Int)} {L : Option Addr} {p b off m cL d f : Nat} {sd sf kk : Int} {Q : Exit → Act → World → Prop} {a : Act} {V W : World} {o : Oper}
theorem toldL_op0 (o4 : a.eval (.tmp 4) = .pointer (some ⟨p, 0, none⟩)) (hx : BathAt V p Wd A n c (some ⟨b, off, none⟩) n' c' ss ds) (hB : Ext V W) (ho : toldLReg[0]? = some o) : toldLOk Wd A n c n' c' ss ds L p b off m cL d f sd sf kk Q a W 0 o := by
  have hop := op_at ho (·.op) (x := .load 25 (.tmp 4)) (by kernel_rfl)
  have hgd := op_at ho (·.guard) (x := none) (by kernel_rfl)
  refine ⟨fun j b h => (by rw [hgd] at h; cases h), ?_⟩
  obtain ⟨q0, q1, q2⟩ := (hx.ext hB).cells
  exact specs_value (R := fun v _ => v = toldLV Wd A n c n' c' ss ds L p b off m cL d f sd sf kk 0) (v := (.agg #[.int .i64 Wd, .slice A n c, .slice (some ⟨b, off, none⟩) n' c'])) (by simp [execOp, hop, go_sem, ev o4, q0, q1, q2]) rfl (Ext.refl W)
theorem toldL_op1 (o9 : a.eval (.tmp 9) = .slice L m cL) (ho : toldLReg[1]? = some o) : toldLOk Wd A n c n' c' ss ds L p b off m cL d f sd sf kk Q a W 1 o := by
  have hop := op_at ho (·.op) (x := .move (.tmp 9)) (by kernel_rfl)
  have hgd := op_at ho (·.guard) (x := none) (by kernel_rfl)
  refine ⟨fun j b h => (by rw [hgd] at h; cases h), ?_⟩
  exact specs_value (R := fun v _ => v = toldLV Wd A n c n' c' ss ds L p b off m cL d f sd sf kk 1) (v := .slice L m cL) (by simp [execOp, hop, go_sem, ev o9]) rfl (Ext.refl W)
theorem toldL_op2 (o4 : a.eval (.tmp 4) = .pointer (some ⟨p, 0, none⟩)) (ho : toldLReg[2]? = some o) : toldLOk Wd A n c n' c' ss ds L p b off m cL d f sd sf kk Q a W 2 o := by
  have hop := op_at ho (·.op) (x := .fieldAddr 25 (.tmp 4) 2) (by kernel_rfl)
  have hgd := op_at ho (·.guard) (x := none) (by kernel_rfl)
  refine ⟨fun j b h => (by rw [hgd] at h; cases h), ?_⟩
  exact specs_value (R := fun v _ => v = toldLV Wd A n c n' c' ss ds L p b off m cL d f sd sf kk 2) (v := .pointer (some ⟨p, 2, none⟩)) (by simp [execOp, hop, go_sem, ev o4]) rfl (Ext.refl W)
theorem toldL_op3 (hx : BathAt V p Wd A n c (some ⟨b, off, none⟩) n' c' ss ds) (hB : Ext V W) (haft : ∀ j, (o.after.any fun e => decide (e.on = j) && Region.binds .any e) = true → a.eval (.tmp (toldLD j)) = toldLV Wd A n c n' c' ss ds L p b off m cL d f sd sf kk j) (ho : toldLReg[3]? = some o) : toldLOk Wd A n c n' c' ss ds L p b off m cL d f sd sf kk Q a W 3 o := by
  have hop := op_at ho (·.op) (x := .load 23 (.tmp 233)) (by kernel_rfl)
  have hgd := op_at ho (·.guard) (x := none) (by kernel_rfl)
  have e2 : a.eval (.tmp 233) = .pointer (some ⟨p, 2, none⟩) := haft 2 (op_at ho (fun o => o.after.any fun e => decide (e.on = 2) && Region.binds .any e) (x := true) (by kernel_rfl))
  refine ⟨fun j b h => (by rw [hgd] at h; cases h), ?_⟩
  obtain ⟨q0, q1, q2⟩ := (hx.ext hB).cells
  exact specs_value (R := fun v _ => v = toldLV Wd A n c n' c' ss ds L p b off m cL d f sd sf kk 3) (v := .slice (some ⟨b, off, none⟩) n' c') (by simp [execOp, hop, go_sem, ev e2, q2]) rfl (Ext.refl W)
theorem toldL_op4 (o18 : a.eval (.tmp 18) = .int .i64 (d : Int)) (ho : toldLReg[4]? = some o) : toldLOk Wd A n c n' c' ss ds L p b off m cL d f sd sf kk Q a W 4 o := by
  have hop := op_at ho (·.op) (x := .move (.tmp 18)) (by kernel_rfl)
  have hgd := op_at ho (·.guard) (x := none) (by kernel_rfl)
  refine ⟨fun j b h => (by rw [hgd] at h; cases h), ?_⟩
  exact specs_value (R := fun v _ => v = toldLV Wd A n c n' c' ss ds L p b off m cL d f sd sf kk 4) (v := .int .i64 (d : Int)) (by simp [execOp, hop, go_sem, ev o18]) rfl (Ext.refl W)
theorem toldL_op5 (hd : d < n') (haft : ∀ j, (o.after.any fun e => decide (e.on = j) && Region.binds .any e) = true → a.eval (.tmp (toldLD j)) = toldLV Wd A n c n' c' ss ds L p b off m cL d f sd sf kk j) (ho : toldLReg[5]? = some o) : toldLOk Wd A n c n' c' ss ds L p b off m cL d f sd sf kk Q a W 5 o := by
  have hop := op_at ho (·.op) (x := .indexAddr 23 (.tmp 234) (.tmp 235)) (by kernel_rfl)
  have hgd := op_at ho (·.guard) (x := none) (by kernel_rfl)
  have e3 : a.eval (.tmp 234) = .slice (some ⟨b, off, none⟩) n' c' := haft 3 (op_at ho (fun o => o.after.any fun e => decide (e.on = 3) && Region.binds .any e) (x := true) (by kernel_rfl))
  have e4 : a.eval (.tmp 235) = .int .i64 (d : Int) := haft 4 (op_at ho (fun o => o.after.any fun e => decide (e.on = 4) && Region.binds .any e) (x := true) (by kernel_rfl))
  refine ⟨fun j b h => (by rw [hgd] at h; cases h), ?_⟩
  exact specs_value (R := fun v _ => v = toldLV Wd A n c n' c' ss ds L p b off m cL d f sd sf kk 5) (v := .pointer (some ⟨b, off + d * 3, none⟩)) (by simp [execOp, hop, go_sem, ev e3, ev e4, hd]) rfl (Ext.refl W)
theorem toldL_op6 (haft : ∀ j, (o.after.any fun e => decide (e.on = j) && Region.binds .any e) = true → a.eval (.tmp (toldLD j)) = toldLV Wd A n c n' c' ss ds L p b off m cL d f sd sf kk j) (ho : toldLReg[6]? = some o) : toldLOk Wd A n c n' c' ss ds L p b off m cL d f sd sf kk Q a W 6 o := by
  have hop := op_at ho (·.op) (x := .fieldAddr 62 (.tmp 236) 0) (by kernel_rfl)
  have hgd := op_at ho (·.guard) (x := none) (by kernel_rfl)
  have e5 : a.eval (.tmp 236) = .pointer (some ⟨b, off + d * 3, none⟩) := haft 5 (op_at ho (fun o => o.after.any fun e => decide (e.on = 5) && Region.binds .any e) (x := true) (by kernel_rfl))
  refine ⟨fun j b h => (by rw [hgd] at h; cases h), ?_⟩
  exact specs_value (R := fun v _ => v = toldLV Wd A n c n' c' ss ds L p b off m cL d f sd sf kk 6) (v := .pointer (some ⟨b, off + d * 3, none⟩)) (by simp [execOp, hop, go_sem, ev e5]) rfl (Ext.refl W)
theorem toldL_op7 (cd : ∀ W, Ext V W → W.cell? ⟨b, off + d * 3, none⟩ = some (.int .i64 sd)) (hB : Ext V W) (haft : ∀ j, (o.after.any fun e => decide (e.on = j) && Region.binds .any e) = true → a.eval (.tmp (toldLD j)) = toldLV Wd A n c n' c' ss ds L p b off m cL d f sd sf kk j) (ho : toldLReg[7]? = some o) : toldLOk Wd A n c n' c' ss ds L p b off m cL d f sd sf kk Q a W 7 o := by
  have hop := op_at ho (·.op) (x := .load 3 (.tmp 237)) (by kernel_rfl)
  have hgd := op_at ho (·.guard) (x := none) (by kernel_rfl)
  have e6 : a.eval (.tmp 237) = .pointer (some ⟨b, off + d * 3, none⟩) := haft 6 (op_at ho (fun o => o.after.any fun e => decide (e.on = 6) && Region.binds .any e) (x := true) (by kernel_rfl))
  refine ⟨fun j b h => (by rw [hgd] at h; cases h), ?_⟩
  have cd' := cd W hB
  exact specs_value (R := fun v _ => v = toldLV Wd A n c n' c' ss ds L p b off m cL d f sd sf kk 7) (v := .int .i64 sd) (by simp [execOp, hop, go_sem, ev e6, cd']) rfl (Ext.refl W)
theorem toldL_op8 (o4 : a.eval (.tmp 4) = .pointer (some ⟨p, 0, none⟩)) (ho : toldLReg[8]? = some o) : toldLOk Wd A n c n' c' ss ds L p b off m cL d f sd sf kk Q a W 8 o := by
  have hop := op_at ho (·.op) (x := .fieldAddr 25 (.tmp 4) 2) (by kernel_rfl)
  have hgd := op_at ho (·.guard) (x := none) (by kernel_rfl)
  refine ⟨fun j b h => (by rw [hgd] at h; cases h), ?_⟩
  exact specs_value (R := fun v _ => v = toldLV Wd A n c n' c' ss ds L p b off m cL d f sd sf kk 8) (v := .pointer (some ⟨p, 2, none⟩)) (by simp [execOp, hop, go_sem, ev o4]) rfl (Ext.refl W)
theorem toldL_op9 (hx : BathAt V p Wd A n c (some ⟨b, off, none⟩) n' c' ss ds) (hB : Ext V W) (haft : ∀ j, (o.after.any fun e => decide (e.on = j) && Region.binds .any e) = true → a.eval (.tmp (toldLD j)) = toldLV Wd A n c n' c' ss ds L p b off m cL d f sd sf kk j) (ho : toldLReg[9]? = some o) : toldLOk Wd A n c n' c' ss ds L p b off m cL d f sd sf kk Q a W 9 o := by
  have hop := op_at ho (·.op) (x := .load 23 (.tmp 239)) (by kernel_rfl)
  have hgd := op_at ho (·.guard) (x := none) (by kernel_rfl)
  have e8 : a.eval (.tmp 239) = .pointer (some ⟨p, 2, none⟩) := haft 8 (op_at ho (fun o => o.after.any fun e => decide (e.on = 8) && Region.binds .any e) (x := true) (by kernel_rfl))
  refine ⟨fun j b h => (by rw [hgd] at h; cases h), ?_⟩
  obtain ⟨q0, q1, q2⟩ := (hx.ext hB).cells
  exact specs_value (R := fun v _ => v = toldLV Wd A n c n' c' ss ds L p b off m cL d f sd sf kk 9) (v := .slice (some ⟨b, off, none⟩) n' c') (by simp [execOp, hop, go_sem, ev e8, q2]) rfl (Ext.refl W)
theorem toldL_op10 (o19 : a.eval (.tmp 19) = .int .i64 (f : Int)) (ho : toldLReg[10]? = some o) : toldLOk Wd A n c n' c' ss ds L p b off m cL d f sd sf kk Q a W 10 o := by
  have hop := op_at ho (·.op) (x := .move (.tmp 19)) (by kernel_rfl)
  have hgd := op_at ho (·.guard) (x := none) (by kernel_rfl)
  refine ⟨fun j b h => (by rw [hgd] at h; cases h), ?_⟩
  exact specs_value (R := fun v _ => v = toldLV Wd A n c n' c' ss ds L p b off m cL d f sd sf kk 10) (v := .int .i64 (f : Int)) (by simp [execOp, hop, go_sem, ev o19]) rfl (Ext.refl W)
theorem toldL_op11 (hf : f < n') (haft : ∀ j, (o.after.any fun e => decide (e.on = j) && Region.binds .any e) = true → a.eval (.tmp (toldLD j)) = toldLV Wd A n c n' c' ss ds L p b off m cL d f sd sf kk j) (ho : toldLReg[11]? = some o) : toldLOk Wd A n c n' c' ss ds L p b off m cL d f sd sf kk Q a W 11 o := by
  have hop := op_at ho (·.op) (x := .indexAddr 23 (.tmp 240) (.tmp 241)) (by kernel_rfl)
  have hgd := op_at ho (·.guard) (x := none) (by kernel_rfl)
  have e9 : a.eval (.tmp 240) = .slice (some ⟨b, off, none⟩) n' c' := haft 9 (op_at ho (fun o => o.after.any fun e => decide (e.on = 9) && Region.binds .any e) (x := true) (by kernel_rfl))
  have e10 : a.eval (.tmp 241) = .int .i64 (f : Int) := haft 10 (op_at ho (fun o => o.after.any fun e => decide (e.on = 10) && Region.binds .any e) (x := true) (by kernel_rfl))
  refine ⟨fun j b h => (by rw [hgd] at h; cases h), ?_⟩
  exact specs_value (R := fun v _ => v = toldLV Wd A n c n' c' ss ds L p b off m cL d f sd sf kk 11) (v := .pointer (some ⟨b, off + f * 3, none⟩)) (by simp [execOp, hop, go_sem, ev e9, ev e10, hf]) rfl (Ext.refl W)
theorem toldL_op12 (haft : ∀ j, (o.after.any fun e => decide (e.on = j) && Region.binds .any e) = true → a.eval (.tmp (toldLD j)) = toldLV Wd A n c n' c' ss ds L p b off m cL d f sd sf kk j) (ho : toldLReg[12]? = some o) : toldLOk Wd A n c n' c' ss ds L p b off m cL d f sd sf kk Q a W 12 o := by
  have hop := op_at ho (·.op) (x := .fieldAddr 62 (.tmp 242) 0) (by kernel_rfl)
  have hgd := op_at ho (·.guard) (x := none) (by kernel_rfl)
  have e11 : a.eval (.tmp 242) = .pointer (some ⟨b, off + f * 3, none⟩) := haft 11 (op_at ho (fun o => o.after.any fun e => decide (e.on = 11) && Region.binds .any e) (x := true) (by kernel_rfl))
  refine ⟨fun j b h => (by rw [hgd] at h; cases h), ?_⟩
  exact specs_value (R := fun v _ => v = toldLV Wd A n c n' c' ss ds L p b off m cL d f sd sf kk 12) (v := .pointer (some ⟨b, off + f * 3, none⟩)) (by simp [execOp, hop, go_sem, ev e11]) rfl (Ext.refl W)
theorem toldL_op13 (cf : ∀ W, Ext V W → W.cell? ⟨b, off + f * 3, none⟩ = some (.int .i64 sf)) (hB : Ext V W) (haft : ∀ j, (o.after.any fun e => decide (e.on = j) && Region.binds .any e) = true → a.eval (.tmp (toldLD j)) = toldLV Wd A n c n' c' ss ds L p b off m cL d f sd sf kk j) (ho : toldLReg[13]? = some o) : toldLOk Wd A n c n' c' ss ds L p b off m cL d f sd sf kk Q a W 13 o := by
  have hop := op_at ho (·.op) (x := .load 3 (.tmp 243)) (by kernel_rfl)
  have hgd := op_at ho (·.guard) (x := none) (by kernel_rfl)
  have e12 : a.eval (.tmp 243) = .pointer (some ⟨b, off + f * 3, none⟩) := haft 12 (op_at ho (fun o => o.after.any fun e => decide (e.on = 12) && Region.binds .any e) (x := true) (by kernel_rfl))
  refine ⟨fun j b h => (by rw [hgd] at h; cases h), ?_⟩
  have cf' := cf W hB
  exact specs_value (R := fun v _ => v = toldLV Wd A n c n' c' ss ds L p b off m cL d f sd sf kk 13) (v := .int .i64 sf) (by simp [execOp, hop, go_sem, ev e12, cf']) rfl (Ext.refl W)
theorem toldL_op14 (o20 : a.eval (.tmp 20) = .int .i64 kk) (ho : toldLReg[14]? = some o) : toldLOk Wd A n c n' c' ss ds L p b off m cL d f sd sf kk Q a W 14 o := by
  have hop := op_at ho (·.op) (x := .move (.tmp 20)) (by kernel_rfl)
  have hgd := op_at ho (·.guard) (x := none) (by kernel_rfl)
  refine ⟨fun j b h => (by rw [hgd] at h; cases h), ?_⟩
  exact specs_value (R := fun v _ => v = toldLV Wd A n c n' c' ss ds L p b off m cL d f sd sf kk 14) (v := .int .i64 kk) (by simp [execOp, hop, go_sem, ev o20]) rfl (Ext.refl W)
theorem toldL_op15 (cT : ∀ W, Ext V W → Calls Try.prog 44 #[(.agg #[.int .i64 Wd, .slice A n c, .slice (some ⟨b, off, none⟩) n' c']), .slice L m cL, .int .i64 sd, .int .i64 sf, .int .i64 kk] W fun e w' => e = .returned (.bool true) ∧ Below W.heap.size W w') (hB : Ext V W) (haft : ∀ j, (o.after.any fun e => decide (e.on = j) && Region.binds .any e) = true → a.eval (.tmp (toldLD j)) = toldLV Wd A n c n' c' ss ds L p b off m cL d f sd sf kk j) (ho : toldLReg[15]? = some o) : toldLOk Wd A n c n' c' ss ds L p b off m cL d f sd sf kk Q a W 15 o := by
  have hop := op_at ho (·.op) (x := .call { callee := .value (.func 44), args := #[.tmp 231, .tmp 232, .tmp 238, .tmp 244, .tmp 245], argTypes := #[25, 55, 3, 3, 3] }) (by kernel_rfl)
  have hgd := op_at ho (·.guard) (x := none) (by kernel_rfl)
  have e0 : a.eval (.tmp 231) = (.agg #[.int .i64 Wd, .slice A n c, .slice (some ⟨b, off, none⟩) n' c']) := haft 0 (op_at ho (fun o => o.after.any fun e => decide (e.on = 0) && Region.binds .any e) (x := true) (by kernel_rfl))
  have e1 : a.eval (.tmp 232) = .slice L m cL := haft 1 (op_at ho (fun o => o.after.any fun e => decide (e.on = 1) && Region.binds .any e) (x := true) (by kernel_rfl))
  have e7 : a.eval (.tmp 238) = .int .i64 sd := haft 7 (op_at ho (fun o => o.after.any fun e => decide (e.on = 7) && Region.binds .any e) (x := true) (by kernel_rfl))
  have e13 : a.eval (.tmp 244) = .int .i64 sf := haft 13 (op_at ho (fun o => o.after.any fun e => decide (e.on = 13) && Region.binds .any e) (x := true) (by kernel_rfl))
  have e14 : a.eval (.tmp 245) = .int .i64 kk := haft 14 (op_at ho (fun o => o.after.any fun e => decide (e.on = 14) && Region.binds .any e) (x := true) (by kernel_rfl))
  refine ⟨fun j b h => (by rw [hgd] at h; cases h), ?_⟩
  exact specs_call (R := fun v _ => v = toldLV Wd A n c n' c' ss ds L p b off m cL d f sd sf kk 15) (f := 44) (args := #[(.agg #[.int .i64 Wd, .slice A n c, .slice (some ⟨b, off, none⟩) n' c']), .slice L m cL, .int .i64 sd, .int .i64 sf, .int .i64 kk]) (by simp [execOp, hop, go_sem, ev e0, ev e1, ev e7, ev e13, ev e14]) ((cT W hB).mono fun e w' h => ⟨_, h.1, rfl, h.2⟩)
theorem toldL_op16 (haft : ∀ j, (o.after.any fun e => decide (e.on = j) && Region.binds .any e) = true → a.eval (.tmp (toldLD j)) = toldLV Wd A n c n' c' ss ds L p b off m cL d f sd sf kk j) (ho : toldLReg[16]? = some o) : toldLOk Wd A n c n' c' ss ds L p b off m cL d f sd sf kk Q a W 16 o := by
  have hop := op_at ho (·.op) (x := .move (.tmp 246)) (by kernel_rfl)
  have hgd := op_at ho (·.guard) (x := none) (by kernel_rfl)
  have e15 : a.eval (.tmp 246) = .bool true := haft 15 (op_at ho (fun o => o.after.any fun e => decide (e.on = 15) && Region.binds .any e) (x := true) (by kernel_rfl))
  refine ⟨fun j b h => (by rw [hgd] at h; cases h), ?_⟩
  exact specs_value (R := fun v _ => v = toldLV Wd A n c n' c' ss ds L p b off m cL d f sd sf kk 16) (v := .bool true) (by simp [execOp, hop, go_sem, ev e15]) rfl (Ext.refl W)
theorem toldL_op17 (cK : ∀ W, Ext V W → Calls Try.prog 16 #[] W fun e w' => e = .returned (.bool true) ∧ Below W.heap.size W w') (hB : Ext V W) (haft : ∀ j, (o.after.any fun e => decide (e.on = j) && Region.binds .any e) = true → a.eval (.tmp (toldLD j)) = toldLV Wd A n c n' c' ss ds L p b off m cL d f sd sf kk j) (ho : toldLReg[17]? = some o) : toldLOk Wd A n c n' c' ss ds L p b off m cL d f sd sf kk Q a W 17 o := by
  have hop := op_at ho (·.op) (x := .call { callee := .value (.func 16), args := #[], argTypes := #[] }) (by kernel_rfl)
  have hgd := op_at ho (·.guard) (x := some (16, true)) (by kernel_rfl)
  have e16 : a.eval (.tmp 247) = .bool true := haft 16 (op_at ho (fun o => o.after.any fun e => decide (e.on = 16) && Region.binds .any e) (x := true) (by kernel_rfl))
  refine ⟨fun j b h => (by rw [hgd] at h; cases h; exact e16), ?_⟩
  exact specs_call (R := fun v _ => v = toldLV Wd A n c n' c' ss ds L p b off m cL d f sd sf kk 17) (f := 16) (args := #[]) (by simp [execOp, hop, go_sem]) ((cK W hB).mono fun e w' h => ⟨_, h.1, rfl, h.2⟩)
theorem toldL_op18 (haft : ∀ j, (o.after.any fun e => decide (e.on = j) && Region.binds .any e) = true → a.eval (.tmp (toldLD j)) = toldLV Wd A n c n' c' ss ds L p b off m cL d f sd sf kk j) (ho : toldLReg[18]? = some o) : toldLOk Wd A n c n' c' ss ds L p b off m cL d f sd sf kk Q a W 18 o := by
  have hop := op_at ho (·.op) (x := .pick (.tmp 247) (.tmp 248) (.const (.bool false))) (by kernel_rfl)
  have hgd := op_at ho (·.guard) (x := none) (by kernel_rfl)
  have e16 : a.eval (.tmp 247) = .bool true := haft 16 (op_at ho (fun o => o.after.any fun e => decide (e.on = 16) && Region.binds .any e) (x := true) (by kernel_rfl))
  have e17 : a.eval (.tmp 248) = .bool true := haft 17 (op_at ho (fun o => o.after.any fun e => decide (e.on = 17) && Region.binds .any e) (x := true) (by kernel_rfl))
  refine ⟨fun j b h => (by rw [hgd] at h; cases h), ?_⟩
  exact specs_value (R := fun v _ => v = toldLV Wd A n c n' c' ss ds L p b off m cL d f sd sf kk 18) (v := .bool true) (by simp [execOp, hop, go_sem, ev e16, ev e17]) rfl (Ext.refl W)
theorem toldL_op19 (haft : ∀ j, (o.after.any fun e => decide (e.on = j) && Region.binds .any e) = true → a.eval (.tmp (toldLD j)) = toldLV Wd A n c n' c' ss ds L p b off m cL d f sd sf kk j) (ho : toldLReg[19]? = some o) : toldLOk Wd A n c n' c' ss ds L p b off m cL d f sd sf kk Q a W 19 o := by
  have hop := op_at ho (·.op) (x := .assign (.tmp 249)) (by kernel_rfl)
  have hgd := op_at ho (·.guard) (x := none) (by kernel_rfl)
  have e18 : a.eval (.tmp 249) = .bool true := haft 18 (op_at ho (fun o => o.after.any fun e => decide (e.on = 18) && Region.binds .any e) (x := true) (by kernel_rfl))
  refine ⟨fun j b h => (by rw [hgd] at h; cases h), ?_⟩
  exact specs_value (R := fun v _ => v = toldLV Wd A n c n' c' ss ds L p b off m cL d f sd sf kk 19) (v := .bool true) (by simp [execOp, hop, go_sem, ev e18]) rfl (Ext.refl W)
end
end Go.Proofs.Ytckndnaohggmhaa
