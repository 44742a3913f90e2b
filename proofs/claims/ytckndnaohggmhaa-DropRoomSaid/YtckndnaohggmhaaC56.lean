/- Texts of the package drop, joined: DropRoomOps, DropRoom. -/
import Derived.Test.YtckndnaohggmhaaC55
import Derived.Deep.Cut
import Derived.Laws.Tables
/- DropRoom: what each operation of its two drawing regions yields. -/
namespace Go.Proofs.Ytckndnaohggmhaa
open Go.RowKit Go.Shelf

def roomAD (k : Nat) : Tmp := if k = 6 then 10 else 71 + k
def roomAS (Wd : Int) (A : Option Addr) (n c : Nat) (A' : Option Addr) (n' c' : Nat) (ss : List (Int × Int)) (ds : List (Int × Int × Int)) (s : Nat) (mm : Int) (b0 : Nat) (k : Nat) (v : Value) (W : World) : Prop :=
  match k with
  | 0 => v = (.agg #[.int .i64 Wd, .slice A n c, .slice A' n' c'] : Value)
  | 1 => v = .int .i64 (s : Int)
  | 2 => v = .int .i64 mm
  | 3 => v = .int .i64 mm
  | 4 => v = .agg #[.int .i64 (s : Int), .int .i64 mm, .int .i64 mm]
  | 5 => ∃ g cap, v = .agg #[.int .i64 Wd, .slice A n c, .slice (some ⟨g, 0, none⟩) (n' + 1) cap] ∧ IsBath W W.heap.size A n c (some ⟨g, 0, none⟩) (n' + 1) cap ss (ds ++ [((s : Int), mm, mm)])
  | _ => ∃ g, v = .pointer (some ⟨g, 0, none⟩) ∧ b0 ≤ g ∧ W.heap[g]? = some (.cells #[.int .i64 0, .slice none 0 0, .slice none 0 0] 25 (0, 0))
theorem roomAS_ext (Wd : Int) (A : Option Addr) (n c : Nat) (A' : Option Addr) (n' c' : Nat) (ss : List (Int × Int)) (ds : List (Int × Int × Int)) (s : Nat) (mm : Int) (b0 : Nat) (k : Nat) (v : Value) (W W' : World) (h : roomAS Wd A n c A' n' c' ss ds s mm b0 k v W) (e : Below W.heap.size W W') : roomAS Wd A n c A' n' c' ss ds s mm b0 k v W' := by
  unfold roomAS at h ⊢
  split at h <;> first | exact h | (obtain ⟨g, cap, h1, h2⟩ := h; exact ⟨g, cap, h1, h2.ext e⟩) | (obtain ⟨g, h1, h2, h3⟩ := h; exact ⟨g, h1, h2, row_ext h3 e⟩)
noncomputable def roomAReg : Array Oper := (Try.f11.body.bind (regionOf · 10)).getD #[]
def roomAOk (Wd : Int) (A : Option Addr) (n c : Nat) (A' : Option Addr) (n' c' : Nat) (ss : List (Int × Int)) (ds : List (Int × Int × Int)) (s : Nat) (mm : Int) (b0 : Nat) (Q : Exit → Act → World → Prop) (a : Act) (W : World) (k : Nat) (o : Oper) : Prop :=
  (∀ j b, o.guard = some (j, b) → a.eval (.tmp (roomAD j)) = .bool b) ∧ o.wp Try.prog a W (fun a'' W' => ∃ v, a'' = a.put o.dst v ∧ roomAS Wd A n c A' n' c' ss ds s mm b0 k v W' ∧ Below W.heap.size W W') Q

def roomBD (k : Nat) : Tmp := if k = 12 then 6 else 89 + k
def roomBS (Wd : Int) (A : Option Addr) (n c : Nat) (A' : Option Addr) (n' c' : Nat) (ss : List (Int × Int)) (ds : List (Int × Int × Int)) (s : Nat) (mm : Int) (_b0 : Nat) (k : Nat) (v : Value) (W : World) : Prop :=
  match k with
  | 0 => v = (.agg #[.int .i64 Wd, .slice A n c, .slice A' n' c'] : Value)
  | 1 => v = .int .i64 (s : Int)
  | 2 => v = .int .i64 mm
  | 3 => v = .int .i64 mm
  | 4 => v = .agg #[.int .i64 (s : Int), .int .i64 mm, .int .i64 mm]
  | 5 => ∃ g cap, v = .agg #[.int .i64 Wd, .slice A n c, .slice (some ⟨g, 0, none⟩) (n' + 1) cap] ∧ IsBath W W.heap.size A n c (some ⟨g, 0, none⟩) (n' + 1) cap ss (ds ++ [((s : Int), mm, mm)])
  | 6 => v = .int .i64 (s : Int)
  | 7 => v = .bool false
  | _ => v = .bool true
theorem roomBS_ext (Wd : Int) (A : Option Addr) (n c : Nat) (A' : Option Addr) (n' c' : Nat) (ss : List (Int × Int)) (ds : List (Int × Int × Int)) (s : Nat) (mm : Int) (b0 : Nat) (k : Nat) (v : Value) (W W' : World) (h : roomBS Wd A n c A' n' c' ss ds s mm b0 k v W) (e : Below W.heap.size W W') : roomBS Wd A n c A' n' c' ss ds s mm b0 k v W' := by
  unfold roomBS at h ⊢
  split at h <;> first | exact h | (obtain ⟨g, cap, h1, h2⟩ := h; exact ⟨g, cap, h1, h2.ext e⟩) | (obtain ⟨g, h1, h2, h3⟩ := h; exact ⟨g, h1, h2, row_ext h3 e⟩)
noncomputable def roomBReg : Array Oper := (Try.f11.body.bind (regionOf · 16)).getD #[]
def roomBOk (Wd : Int) (A : Option Addr) (n c : Nat) (A' : Option Addr) (n' c' : Nat) (ss : List (Int × Int)) (ds : List (Int × Int × Int)) (s : Nat) (mm : Int) (b0 : Nat) (Q : Exit → Act → World → Prop) (a : Act) (W : World) (k : Nat) (o : Oper) : Prop :=
  (∀ j b, o.guard = some (j, b) → a.eval (.tmp (roomBD j)) = .bool b) ∧ o.wp Try.prog a W (fun a'' W' => ∃ v, a'' = a.put o.dst v ∧ roomBS Wd A n c A' n' c' ss ds s mm b0 k v W' ∧ Below W.heap.size W W') Q

section
variable {Wd : Int} {A : Option Addr} {n c : Nat} {A' : Option Addr} {n' c' : Nat} {ss : List (Int × Int)} {ds : List (Int × Int × Int)} {s p b0 : Nat} {mm : Int} {Q : Exit → Act → World → Prop} {a : Act} {V W : World} {o : Oper}
theorem roomA_op0 (o3 : a.eval (.tmp 3) = .pointer (some ⟨p, 0, none⟩)) (hx : BathAt V p Wd A n c A' n' c' ss ds) (hB : Ext V W) (ho : roomAReg[0]? = some o) : roomAOk Wd A n c A' n' c' ss ds s mm b0 Q a W 0 o := by
  have hop := op_at ho (·.op) (x := .load 25 (.tmp 3)) (by kernel_rfl)
  have hgd := op_at ho (·.guard) (x := none) (by kernel_rfl)
  refine ⟨fun j b h => (by rw [hgd] at h; cases h), ?_⟩
  obtain ⟨q0, q1, q2⟩ := (hx.ext hB).cells
  exact specs_value (R := roomAS Wd A n c A' n' c' ss ds s mm b0 0) (v := (.agg #[.int .i64 Wd, .slice A n c, .slice A' n' c'] : Value)) (by simp [execOp, hop, go_sem, ev o3, q0, q1, q2]) rfl (Ext.refl W)
theorem roomA_op1 (o7 : a.eval (.tmp 7) = .int .i64 (s : Int)) (ho : roomAReg[1]? = some o) : roomAOk Wd A n c A' n' c' ss ds s mm b0 Q a W 1 o := by
  have hop := op_at ho (·.op) (x := .move (.tmp 7)) (by kernel_rfl)
  have hgd := op_at ho (·.guard) (x := none) (by kernel_rfl)
  refine ⟨fun j b h => (by rw [hgd] at h; cases h), ?_⟩
  exact specs_value (R := roomAS Wd A n c A' n' c' ss ds s mm b0 1) (v := .int .i64 (s : Int)) (by simp [execOp, hop, go_sem, ev o7]) rfl (Ext.refl W)
theorem roomA_op2 (o8 : a.eval (.tmp 8) = .int .i64 mm) (ho : roomAReg[2]? = some o) : roomAOk Wd A n c A' n' c' ss ds s mm b0 Q a W 2 o := by
  have hop := op_at ho (·.op) (x := .move (.tmp 8)) (by kernel_rfl)
  have hgd := op_at ho (·.guard) (x := none) (by kernel_rfl)
  refine ⟨fun j b h => (by rw [hgd] at h; cases h), ?_⟩
  exact specs_value (R := roomAS Wd A n c A' n' c' ss ds s mm b0 2) (v := .int .i64 mm) (by simp [execOp, hop, go_sem, ev o8]) rfl (Ext.refl W)
theorem roomA_op3 (o8 : a.eval (.tmp 8) = .int .i64 mm) (ho : roomAReg[3]? = some o) : roomAOk Wd A n c A' n' c' ss ds s mm b0 Q a W 3 o := by
  have hop := op_at ho (·.op) (x := .move (.tmp 8)) (by kernel_rfl)
  have hgd := op_at ho (·.guard) (x := none) (by kernel_rfl)
  refine ⟨fun j b h => (by rw [hgd] at h; cases h), ?_⟩
  exact specs_value (R := roomAS Wd A n c A' n' c' ss ds s mm b0 3) (v := .int .i64 mm) (by simp [execOp, hop, go_sem, ev o8]) rfl (Ext.refl W)
theorem roomA_op4 (haft : ∀ j, (o.after.any fun e => decide (e.on = j) && Region.binds .any e) = true → roomAS Wd A n c A' n' c' ss ds s mm b0 j (a.eval (.tmp (roomAD j))) W) (ho : roomAReg[4]? = some o) : roomAOk Wd A n c A' n' c' ss ds s mm b0 Q a W 4 o := by
  have hop := op_at ho (·.op) (x := .call { callee := .value (.func 49), args := #[.tmp 72, .tmp 73, .tmp 74], argTypes := #[3, 2, 2] }) (by kernel_rfl)
  have hgd := op_at ho (·.guard) (x := none) (by kernel_rfl)
  have e1 : a.eval (.tmp 72) = .int .i64 (s : Int) := haft 1 (op_at ho (fun o => o.after.any fun e => decide (e.on = 1) && Region.binds .any e) (x := true) (by kernel_rfl))
  have e2 : a.eval (.tmp 73) = .int .i64 mm := haft 2 (op_at ho (fun o => o.after.any fun e => decide (e.on = 2) && Region.binds .any e) (x := true) (by kernel_rfl))
  have e3 : a.eval (.tmp 74) = .int .i64 mm := haft 3 (op_at ho (fun o => o.after.any fun e => decide (e.on = 3) && Region.binds .any e) (x := true) (by kernel_rfl))
  refine ⟨fun j b h => (by rw [hgd] at h; cases h), ?_⟩
  exact specs_call (R := roomAS Wd A n c A' n' c' ss ds s mm b0 4) (f := 49) (args := #[.int .i64 (s : Int), .int .i64 mm, .int .i64 mm]) (by simp [execOp, hop, go_sem, ev e1, ev e2, ev e3]) ((on_any _ _ _ _).mono fun e w' h => ⟨_, h.1, rfl, h.2⟩)
theorem roomA_op5 (hx : BathAt V p Wd A n c A' n' c' ss ds) (h40 : n' ≤ 1000) (hB : Ext V W) (haft : ∀ j, (o.after.any fun e => decide (e.on = j) && Region.binds .any e) = true → roomAS Wd A n c A' n' c' ss ds s mm b0 j (a.eval (.tmp (roomAD j))) W) (ho : roomAReg[5]? = some o) : roomAOk Wd A n c A' n' c' ss ds s mm b0 Q a W 5 o := by
  have hop := op_at ho (·.op) (x := .call { callee := .value (.func 47), args := #[.tmp 71, .tmp 75], argTypes := #[25, 62] }) (by kernel_rfl)
  have hgd := op_at ho (·.guard) (x := none) (by kernel_rfl)
  have e0 : a.eval (.tmp 71) = (.agg #[.int .i64 Wd, .slice A n c, .slice A' n' c'] : Value) := haft 0 (op_at ho (fun o => o.after.any fun e => decide (e.on = 0) && Region.binds .any e) (x := true) (by kernel_rfl))
  have e4 : a.eval (.tmp 75) = (.agg #[.int .i64 (s : Int), .int .i64 mm, .int .i64 mm] : Value) := haft 4 (op_at ho (fun o => o.after.any fun e => decide (e.on = 4) && Region.binds .any e) (x := true) (by kernel_rfl))
  refine ⟨fun j b h => (by rw [hgd] at h; cases h), ?_⟩
  have hc := with_any (Wd := Wd) (s : Int) mm mm (hx.ext hB).bath h40
  exact specs_call (R := roomAS Wd A n c A' n' c' ss ds s mm b0 5) (f := 47) (args := #[(.agg #[.int .i64 Wd, .slice A n c, .slice A' n' c'] : Value), .agg #[.int .i64 (s : Int), .int .i64 mm, .int .i64 mm]]) (by simp [execOp, hop, go_sem, ev e0, ev e4]) (hc.mono fun e w' h => by
    obtain ⟨g, cap, rfl, hE, hI⟩ := h
    exact ⟨_, rfl, ⟨g, cap, rfl, hI⟩, hE⟩)
theorem roomA_op6 (hb0 : b0 ≤ V.heap.size) (hB : Ext V W) (ho : roomAReg[6]? = some o) : roomAOk Wd A n c A' n' c' ss ds s mm b0 Q a W 6 o := by
  have hop := op_at ho (·.op) (x := .alloc 25) (by kernel_rfl)
  have hgd := op_at ho (·.guard) (x := none) (by kernel_rfl)
  refine ⟨fun j b h => (by rw [hgd] at h; cases h), ?_⟩
  have hz := hB.size
  exact specs_value (R := roomAS Wd A n c A' n' c' ss ds s mm b0 6) (v := .pointer (some ⟨W.heap.size, 0, none⟩)) (W' := W.alloc (.cells #[.int .i64 0, .slice none 0 0, .slice none 0 0] 25)) (by simp [execOp, hop, go_sem]) ⟨_, rfl, by omega, row_last _ _ _ rfl⟩ (ext_alloc W _)
theorem roomB_op0 (o3 : a.eval (.tmp 3) = .pointer (some ⟨p, 0, none⟩)) (hx : BathAt V p Wd A n c A' n' c' ss ds) (hB : Ext V W) (ho : roomBReg[0]? = some o) : roomBOk Wd A n c A' n' c' ss ds s mm b0 Q a W 0 o := by
  have hop := op_at ho (·.op) (x := .load 25 (.tmp 3)) (by kernel_rfl)
  have hgd := op_at ho (·.guard) (x := none) (by kernel_rfl)
  refine ⟨fun j b h => (by rw [hgd] at h; cases h), ?_⟩
  obtain ⟨q0, q1, q2⟩ := (hx.ext hB).cells
  exact specs_value (R := roomBS Wd A n c A' n' c' ss ds s mm b0 0) (v := (.agg #[.int .i64 Wd, .slice A n c, .slice A' n' c'] : Value)) (by simp [execOp, hop, go_sem, ev o3, q0, q1, q2]) rfl (Ext.refl W)
theorem roomB_op1 (o7 : a.eval (.tmp 7) = .int .i64 (s : Int)) (ho : roomBReg[1]? = some o) : roomBOk Wd A n c A' n' c' ss ds s mm b0 Q a W 1 o := by
  have hop := op_at ho (·.op) (x := .move (.tmp 7)) (by kernel_rfl)
  have hgd := op_at ho (·.guard) (x := none) (by kernel_rfl)
  refine ⟨fun j b h => (by rw [hgd] at h; cases h), ?_⟩
  exact specs_value (R := roomBS Wd A n c A' n' c' ss ds s mm b0 1) (v := .int .i64 (s : Int)) (by simp [execOp, hop, go_sem, ev o7]) rfl (Ext.refl W)
theorem roomB_op2 (o11 : a.eval (.tmp 11) = .int .i64 mm) (ho : roomBReg[2]? = some o) : roomBOk Wd A n c A' n' c' ss ds s mm b0 Q a W 2 o := by
  have hop := op_at ho (·.op) (x := .move (.tmp 11)) (by kernel_rfl)
  have hgd := op_at ho (·.guard) (x := none) (by kernel_rfl)
  refine ⟨fun j b h => (by rw [hgd] at h; cases h), ?_⟩
  exact specs_value (R := roomBS Wd A n c A' n' c' ss ds s mm b0 2) (v := .int .i64 mm) (by simp [execOp, hop, go_sem, ev o11]) rfl (Ext.refl W)
theorem roomB_op3 (o11 : a.eval (.tmp 11) = .int .i64 mm) (ho : roomBReg[3]? = some o) : roomBOk Wd A n c A' n' c' ss ds s mm b0 Q a W 3 o := by
  have hop := op_at ho (·.op) (x := .move (.tmp 11)) (by kernel_rfl)
  have hgd := op_at ho (·.guard) (x := none) (by kernel_rfl)
  refine ⟨fun j b h => (by rw [hgd] at h; cases h), ?_⟩
  exact specs_value (R := roomBS Wd A n c A' n' c' ss ds s mm b0 3) (v := .int .i64 mm) (by simp [execOp, hop, go_sem, ev o11]) rfl (Ext.refl W)
theorem roomB_op4 (haft : ∀ j, (o.after.any fun e => decide (e.on = j) && Region.binds .any e) = true → roomBS Wd A n c A' n' c' ss ds s mm b0 j (a.eval (.tmp (roomBD j))) W) (ho : roomBReg[4]? = some o) : roomBOk Wd A n c A' n' c' ss ds s mm b0 Q a W 4 o := by
  have hop := op_at ho (·.op) (x := .call { callee := .value (.func 49), args := #[.tmp 90, .tmp 91, .tmp 92], argTypes := #[3, 2, 2] }) (by kernel_rfl)
  have hgd := op_at ho (·.guard) (x := none) (by kernel_rfl)
  have e1 : a.eval (.tmp 90) = .int .i64 (s : Int) := haft 1 (op_at ho (fun o => o.after.any fun e => decide (e.on = 1) && Region.binds .any e) (x := true) (by kernel_rfl))
  have e2 : a.eval (.tmp 91) = .int .i64 mm := haft 2 (op_at ho (fun o => o.after.any fun e => decide (e.on = 2) && Region.binds .any e) (x := true) (by kernel_rfl))
  have e3 : a.eval (.tmp 92) = .int .i64 mm := haft 3 (op_at ho (fun o => o.after.any fun e => decide (e.on = 3) && Region.binds .any e) (x := true) (by kernel_rfl))
  refine ⟨fun j b h => (by rw [hgd] at h; cases h), ?_⟩
  exact specs_call (R := roomBS Wd A n c A' n' c' ss ds s mm b0 4) (f := 49) (args := #[.int .i64 (s : Int), .int .i64 mm, .int .i64 mm]) (by simp [execOp, hop, go_sem, ev e1, ev e2, ev e3]) ((on_any _ _ _ _).mono fun e w' h => ⟨_, h.1, rfl, h.2⟩)
theorem roomB_op5 (hx : BathAt V p Wd A n c A' n' c' ss ds) (h40 : n' ≤ 1000) (hB : Ext V W) (haft : ∀ j, (o.after.any fun e => decide (e.on = j) && Region.binds .any e) = true → roomBS Wd A n c A' n' c' ss ds s mm b0 j (a.eval (.tmp (roomBD j))) W) (ho : roomBReg[5]? = some o) : roomBOk Wd A n c A' n' c' ss ds s mm b0 Q a W 5 o := by
  have hop := op_at ho (·.op) (x := .call { callee := .value (.func 47), args := #[.tmp 89, .tmp 93], argTypes := #[25, 62] }) (by kernel_rfl)
  have hgd := op_at ho (·.guard) (x := none) (by kernel_rfl)
  have e0 : a.eval (.tmp 89) = (.agg #[.int .i64 Wd, .slice A n c, .slice A' n' c'] : Value) := haft 0 (op_at ho (fun o => o.after.any fun e => decide (e.on = 0) && Region.binds .any e) (x := true) (by kernel_rfl))
  have e4 : a.eval (.tmp 93) = (.agg #[.int .i64 (s : Int), .int .i64 mm, .int .i64 mm] : Value) := haft 4 (op_at ho (fun o => o.after.any fun e => decide (e.on = 4) && Region.binds .any e) (x := true) (by kernel_rfl))
  refine ⟨fun j b h => (by rw [hgd] at h; cases h), ?_⟩
  have hc := with_any (Wd := Wd) (s : Int) mm mm (hx.ext hB).bath h40
  exact specs_call (R := roomBS Wd A n c A' n' c' ss ds s mm b0 5) (f := 47) (args := #[(.agg #[.int .i64 Wd, .slice A n c, .slice A' n' c'] : Value), .agg #[.int .i64 (s : Int), .int .i64 mm, .int .i64 mm]]) (by simp [execOp, hop, go_sem, ev e0, ev e4]) (hc.mono fun e w' h => by
    obtain ⟨g, cap, rfl, hE, hI⟩ := h
    exact ⟨_, rfl, ⟨g, cap, rfl, hI⟩, hE⟩)
theorem roomB_op6 (o7 : a.eval (.tmp 7) = .int .i64 (s : Int)) (ho : roomBReg[6]? = some o) : roomBOk Wd A n c A' n' c' ss ds s mm b0 Q a W 6 o := by
  have hop := op_at ho (·.op) (x := .move (.tmp 7)) (by kernel_rfl)
  have hgd := op_at ho (·.guard) (x := none) (by kernel_rfl)
  refine ⟨fun j b h => (by rw [hgd] at h; cases h), ?_⟩
  exact specs_value (R := roomBS Wd A n c A' n' c' ss ds s mm b0 6) (v := .int .i64 (s : Int)) (by simp [execOp, hop, go_sem, ev o7]) rfl (Ext.refl W)
theorem roomB_op7 (hs : s < n) (hfew : Few Wd ss (ds ++ [((s : Int), mm, mm)])) (hfull : freeB Wd ss (sizes (ds ++ [((s : Int), mm, mm)])) n (s : Int) = false) (haft : ∀ j, (o.after.any fun e => decide (e.on = j) && Region.binds .any e) = true → roomBS Wd A n c A' n' c' ss ds s mm b0 j (a.eval (.tmp (roomBD j))) W) (ho : roomBReg[7]? = some o) : roomBOk Wd A n c A' n' c' ss ds s mm b0 Q a W 7 o := by
  have hop := op_at ho (·.op) (x := .call { callee := .value (.func 48), args := #[.tmp 94, .tmp 95], argTypes := #[25, 3] }) (by kernel_rfl)
  have hgd := op_at ho (·.guard) (x := none) (by kernel_rfl)
  have e6 : a.eval (.tmp 95) = .int .i64 (s : Int) := haft 6 (op_at ho (fun o => o.after.any fun e => decide (e.on = 6) && Region.binds .any e) (x := true) (by kernel_rfl))
  obtain ⟨g, cap, e5, hG⟩ := haft 5 (op_at ho (fun o => o.after.any fun e => decide (e.on = 5) && Region.binds .any e) (x := true) (by kernel_rfl))
  rw [show roomBD 5 = 94 from rfl] at e5
  refine ⟨fun j b h => (by rw [hgd] at h; cases h), ?_⟩
  have hc := alone_ref (Wd := Wd) s hfew hG hs
  rw [hfull] at hc
  exact specs_call (R := roomBS Wd A n c A' n' c' ss ds s mm b0 7) (f := 48) (args := #[.agg #[.int .i64 Wd, .slice A n c, .slice (some ⟨g, 0, none⟩) (n' + 1) cap], .int .i64 (s : Int)]) (by simp [execOp, hop, go_sem, ev e5, ev e6]) (hc.mono fun e w' h => ⟨_, h.1, rfl, h.2⟩)
theorem roomB_op8 (haft : ∀ j, (o.after.any fun e => decide (e.on = j) && Region.binds .any e) = true → roomBS Wd A n c A' n' c' ss ds s mm b0 j (a.eval (.tmp (roomBD j))) W) (ho : roomBReg[8]? = some o) : roomBOk Wd A n c A' n' c' ss ds s mm b0 Q a W 8 o := by
  have hop := op_at ho (·.op) (x := .unOp .not 4 (.tmp 96)) (by kernel_rfl)
  have hgd := op_at ho (·.guard) (x := none) (by kernel_rfl)
  have e7 : a.eval (.tmp 96) = .bool false := haft 7 (op_at ho (fun o => o.after.any fun e => decide (e.on = 7) && Region.binds .any e) (x := true) (by kernel_rfl))
  refine ⟨fun j b h => (by rw [hgd] at h; cases h), ?_⟩
  exact specs_value (R := roomBS Wd A n c A' n' c' ss ds s mm b0 8) (v := .bool true) (by simp [execOp, hop, go_sem, ev e7]) rfl (Ext.refl W)
theorem roomB_op9 (haft : ∀ j, (o.after.any fun e => decide (e.on = j) && Region.binds .any e) = true → roomBS Wd A n c A' n' c' ss ds s mm b0 j (a.eval (.tmp (roomBD j))) W) (ho : roomBReg[9]? = some o) : roomBOk Wd A n c A' n' c' ss ds s mm b0 Q a W 9 o := by
  have hop := op_at ho (·.op) (x := .move (.tmp 97)) (by kernel_rfl)
  have hgd := op_at ho (·.guard) (x := none) (by kernel_rfl)
  have e8 : a.eval (.tmp 97) = .bool true := haft 8 (op_at ho (fun o => o.after.any fun e => decide (e.on = 8) && Region.binds .any e) (x := true) (by kernel_rfl))
  refine ⟨fun j b h => (by rw [hgd] at h; cases h), ?_⟩
  exact specs_value (R := roomBS Wd A n c A' n' c' ss ds s mm b0 9) (v := .bool true) (by simp [execOp, hop, go_sem, ev e8]) rfl (Ext.refl W)
theorem roomB_op10 (haft : ∀ j, (o.after.any fun e => decide (e.on = j) && Region.binds .any e) = true → roomBS Wd A n c A' n' c' ss ds s mm b0 j (a.eval (.tmp (roomBD j))) W) (ho : roomBReg[10]? = some o) : roomBOk Wd A n c A' n' c' ss ds s mm b0 Q a W 10 o := by
  have hop := op_at ho (·.op) (x := .call { callee := .value (.func 16), args := #[], argTypes := #[] }) (by kernel_rfl)
  have hgd := op_at ho (·.guard) (x := some (9, true)) (by kernel_rfl)
  have e9 : a.eval (.tmp 98) = .bool true := haft 9 (op_at ho (fun o => o.after.any fun e => decide (e.on = 9) && Region.binds .any e) (x := true) (by kernel_rfl))
  refine ⟨fun j b h => (by rw [hgd] at h; cases h; exact e9), ?_⟩
  exact specs_call (R := roomBS Wd A n c A' n' c' ss ds s mm b0 10) (f := 16) (args := #[]) (by simp [execOp, hop, go_sem]) ((works_any W).mono fun e w' h => ⟨_, h.1, rfl, h.2⟩)
theorem roomB_op11 (haft : ∀ j, (o.after.any fun e => decide (e.on = j) && Region.binds .any e) = true → roomBS Wd A n c A' n' c' ss ds s mm b0 j (a.eval (.tmp (roomBD j))) W) (ho : roomBReg[11]? = some o) : roomBOk Wd A n c A' n' c' ss ds s mm b0 Q a W 11 o := by
  have hop := op_at ho (·.op) (x := .pick (.tmp 98) (.tmp 99) (.const (.bool false))) (by kernel_rfl)
  have hgd := op_at ho (·.guard) (x := none) (by kernel_rfl)
  have e9 : a.eval (.tmp 98) = .bool true := haft 9 (op_at ho (fun o => o.after.any fun e => decide (e.on = 9) && Region.binds .any e) (x := true) (by kernel_rfl))
  have e10 : a.eval (.tmp 99) = .bool true := haft 10 (op_at ho (fun o => o.after.any fun e => decide (e.on = 10) && Region.binds .any e) (x := true) (by kernel_rfl))
  refine ⟨fun j b h => (by rw [hgd] at h; cases h), ?_⟩
  exact specs_value (R := roomBS Wd A n c A' n' c' ss ds s mm b0 11) (v := .bool true) (by simp [execOp, hop, go_sem, ev e9, ev e10]) rfl (Ext.refl W)
theorem roomB_op12 (haft : ∀ j, (o.after.any fun e => decide (e.on = j) && Region.binds .any e) = true → roomBS Wd A n c A' n' c' ss ds s mm b0 j (a.eval (.tmp (roomBD j))) W) (ho : roomBReg[12]? = some o) : roomBOk Wd A n c A' n' c' ss ds s mm b0 Q a W 12 o := by
  have hop := op_at ho (·.op) (x := .assign (.tmp 100)) (by kernel_rfl)
  have hgd := op_at ho (·.guard) (x := none) (by kernel_rfl)
  have e11 : a.eval (.tmp 100) = .bool true := haft 11 (op_at ho (fun o => o.after.any fun e => decide (e.on = 11) && Region.binds .any e) (x := true) (by kernel_rfl))
  refine ⟨fun j b h => (by rw [hgd] at h; cases h), ?_⟩
  exact specs_value (R := roomBS Wd A n c A' n' c' ss ds s mm b0 12) (v := .bool true) (by simp [execOp, hop, go_sem, ev e11]) rfl (Ext.refl W)
end
end Go.Proofs.Ytckndnaohggmhaa

/- DropRoom: the walk. -/
namespace Go.Proofs.Ytckndnaohggmhaa
open Go.RowKit Go.Shelf

section
variable {w : World} {Wd : Int} {A : Option Addr} {n c : Nat} {A' : Option Addr} {n' c' : Nat} {ss : List (Int × Int)} {ds : List (Int × Int × Int)}

set_option maxRecDepth 100000 in
set_option maxHeartbeats 4000000 in
theorem dropRoom_any (u v : Int) (hu : 0 ≤ u ∧ u ≤ 255) (hv : 0 ≤ v ∧ v ≤ 65535) (hb : IsBath w w.heap.size A n c A' n' c' ss ds) :
    Calls Try.prog 11 #[.agg #[.int .i64 Wd, .slice A n c, .slice A' n' c'], .int .u8 u, .int .u16 v] w fun e w' => e = .returned (.bool true) ∧ Ext w w' := by
  have hX0 : BathAt (w.alloc (.cells #[.int .i64 Wd, .slice A n c, .slice A' n' c'] 25)) w.heap.size Wd A n c A' n' c' ss ds := BathAt.new hb
  have hE0 : Ext w (w.alloc (.cells #[.int .i64 Wd, .slice A n c, .slice A' n' c'] 25)) := ext_alloc w _
  have HN := Lib.hid (And.intro hb.nss hb.nds)
  go_enter Try.func11, Try.ntmps11
  go_upto_region 1 with fail
  obtain ⟨w0, hw0⟩ : ∃ w0, w.alloc (.cells #[.int .i64 Wd, .slice A n c, .slice A' n' c'] 25) = w0 := ⟨_, rfl⟩
  rw [hw0] at hX0 hE0 ⊢
  obtain ⟨p, hp⟩ : ∃ p, w.heap.size = p := ⟨_, rfl⟩
  rw [hp] at hX0 ⊢
  have hpz := hE0.size
  clear hw0 hp hb
  have cF := fine_any (Wd := Wd) hX0.bath
  cases hf : fineB Wd ss ds with
  | false =>
    rw [hf] at cF
    obtain ⟨q0, q1, q2⟩ := hX0.cells
    clear hf hX0
    go_wp2_with fail
    refine cF.mono ?_
    rintro e w1 ⟨rfl, e1⟩
    have HE := Lib.hid (hE0.trans e1)
    clear hE0 e1 cF q0 q1 q2
    go_wp2_with fail
    refine (works_any _).mono ?_
    rintro e v9 ⟨rfl, f9⟩
    go_wp2
    go_ret
    exact ⟨rfl, HE.out.trans f9⟩
  | true =>
    rw [hf] at cF
    have h0 : bathErr Wd ss ds = 0 := of_decide_eq_true hf
    clear hf
    obtain ⟨q0, q1, q2⟩ := hX0.cells
    obtain ⟨hu1, hu2⟩ := hu
    obtain ⟨hv1, hv2⟩ := hv
    by_cases hn0 : n = 0
    · subst hn0
      go_wp2_with fail
      refine cF.mono ?_
      rintro e w1 ⟨rfl, e1⟩
      have HE := Lib.hid (hE0.trans e1)
      obtain ⟨q0, q1, q2⟩ := (hX0.ext e1).cells
      clear hX0 hE0 e1 cF h0
      go_wp2_with fail
      refine (works_any _).mono ?_
      rintro e v9 ⟨rfl, f9⟩
      go_wp2
      go_ret
      exact ⟨rfl, HE.out.trans f9⟩
    · have hm1 := Int.emod_nonneg u (show (n : Int) ≠ 0 by omega)
      have hm2 := Int.emod_lt_of_pos u (show 0 < (n : Int) by omega)
      have H0 := Lib.hid h0
      have hn10 : n ≤ 10 := by have := (bath_ok h0).2.1.1; have := HN.out; omega
      have hn40 : n' ≤ 40 := by have := (bath_ok h0).2.1.2; have := HN.out; omega
      go_wp2_with fail
      refine cF.mono ?_
      rintro e w1 ⟨rfl, e1⟩
      have hx := hX0.ext e1
      have hE := hE0.trans e1
      clear hX0 hE0 e1 cF q0 q1 q2 h0
      obtain ⟨q0, q1, q2⟩ := hx.cells
      go_upto_region 4 with fail
      obtain ⟨s, hs'⟩ : ∃ s : Nat, u % (n : Int) = s := ⟨(u % (n : Int)).toNat, by omega⟩
      rw [hs'] at hm1 hm2 ⊢
      have hs : s < n := by omega
      have hsl : s < ss.length := by have := HN.out; omega
      clear hs' hm1 hm2 hu1 hu2
      have cR := room_prog (Wd := Wd) (s : Int) hx.bath
      have cA := fun (W : World) (h : IsBath W W.heap.size A n c A' n' c' ss ds) => alone_ref (Wd := Wd) s (bath_few H0.out) h hs
      cases hfr : freeB Wd ss (sizes ds) n (s : Int) with
      | false =>
        rw [hfr] at cA
        have hra := room_none (Wd := Wd) H0.out hsl (by rw [← HN.out.1]; exact hfr)
        rw [hra] at cR
        clear hra hfr
        go_wp2_with fail
        refine cR.mono ?_
        rintro e w2 ⟨rfl, e2⟩
        replace hx := hx.ext e2
        replace hE := hE.trans e2
        clear q0 q1 q2 e2 cR
        obtain ⟨q0, q1, q2⟩ := hx.cells
        go_wp2_with fail
        refine (cA _ hx.bath).mono ?_
        rintro e w3 ⟨rfl, e3⟩
        have HE := Lib.hid (hE.trans e3)
        clear q0 q1 q2 e3 cA hx hE
        go_wp2_with fail
        refine (works_any _).mono ?_
        rintro e v9 ⟨rfl, f9⟩
        go_wp2
        go_ret
        exact ⟨rfl, HE.out.trans f9⟩
      | true =>
        rw [hfr] at cA
        obtain ⟨rr, hra, hr1, hr2, hro, hmo⟩ := room_told (Wd := Wd) H0.out hsl (by rw [← HN.out.1]; exact hfr)
        rw [← HN.out.1] at hro hmo
        rw [hra] at cR
        have HMO := Lib.hid hmo
        have HFEW0 := Lib.hid (fun (m : Int) (h1 : 1 ≤ m) (h2 : m ≤ 10000) => few_add H0.out s m hsl h1 h2)
        have HRO := Lib.hid hro
        have HFINE := Lib.hid (fun (m : Int) (h1 : 1 ≤ m) (h2 : m ≤ 10000) (h3 : ds.length < 40) => fine_add H0.out s m hsl h1 h2 h3)
        clear hra hfr hro hmo H0
        go_wp2_with fail
        refine cR.mono ?_
        rintro e w2 ⟨rfl, e2⟩
        replace hx := hx.ext e2
        replace hE := hE.trans e2
        clear q0 q1 q2 e2 cR
        obtain ⟨q0, q1, q2⟩ := hx.cells
        have hrn : ¬ rr < 0 := by omega
        have hrm : ¬ 10000 < rr := by omega
        have h1000 : n' ≤ 1000 := by omega
        go_wp2_with fail
        refine (cA _ hx.bath).mono ?_
        rintro e w3 ⟨rfl, e3⟩
        have HXT := Lib.hid (hx.ext e3)
        have HE := Lib.hid (hE.trans e3)
        clear q0 q1 q2 e3 cA hx hE
        by_cases hr0 : 0 < rr
        · by_cases h40 : n' < 40
          · have h40z : (n' : Int) < 40 := by omega
            obtain ⟨q0, q1, q2⟩ := HXT.out.cells
            go_wp2_with fail
            have HX := HXT
            have HB0 : w3.heap.size ≤ w3.heap.size := Nat.le_refl _
            have hfree := HRO.out (by omega)
            have hfine := HFINE.out rr (by omega) (by omega) (by have := HN.out; omega)
            clear HRO HFINE q0 q1 q2
            refine wp_region_specs_free (ops := roomAReg) 7 (roomAS Wd A n c A' n' c' ss ds s rr w3.heap.size) (Ext w3) (by kernel_rfl) (by kernel_rfl) (by kernel_rfl) ⟨rfl, rfl, rfl, Nat.le_refl _, fun _ _ => rfl⟩ (fun _ _ h e => h.trans e) (roomAS_ext Wd A n c A' n' c' ss ds s rr w3.heap.size) roomAD (by kernel_rfl) ?_ ?_
            · intro i o hi ho a W hB hsz hold haft
              match i, hi with
              | 0, _ => exact roomA_op0 (hold 3 (by kernel_rfl)) HX.out hB ho
              | 1, _ => exact roomA_op1 (hold 7 (by kernel_rfl)) ho
              | 2, _ => exact roomA_op2 (hold 8 (by kernel_rfl)) ho
              | 3, _ => exact roomA_op3 (hold 8 (by kernel_rfl)) ho
              | 4, _ => exact roomA_op4 haft ho
              | 5, _ => exact roomA_op5 HX.out h1000 hB haft ho
              | 6, _ => exact roomA_op6 HB0 hB ho
              | i + 7, h => exact absurd h (by omega)
            · intro a W hB hsz hdf hold hS
              obtain ⟨g3, cap3, e5, hI⟩ : ∃ g cap, a.eval (.tmp 76) = .agg #[.int .i64 Wd, .slice A n c, .slice (some ⟨g, 0, none⟩) (n' + 1) cap] ∧ IsBath W W.heap.size A n c (some ⟨g, 0, none⟩) (n' + 1) cap ss (ds ++ [((s : Int), rr, rr)]) := hS 5 (by omega)
              obtain ⟨gx, e6, hgx, hrow⟩ : ∃ g, a.eval (.tmp 10) = .pointer (some ⟨g, 0, none⟩) ∧ w3.heap.size ≤ g ∧ W.heap[g]? = some (.cells #[.int .i64 0, .slice none 0 0, .slice none 0 0] 25 (0, 0)) := hS 6 (by omega)
              have hne : ∀ a : Addr, some (⟨g3, 0, none⟩ : Addr) = some a → a.block ≠ gx := fun a ha => by
                cases ha
                intro e
                have e' : g3 = gx := e
                subst e'
                rcases hI.hds with h | ⟨b, off, hbo, _, hc⟩
                · simp at h
                · cases hbo
                  obtain ⟨z, hz⟩ : ∃ z, (ds ++ [((s : Int), rr, rr)])[0]? = some z := ⟨_, List.getElem?_eq_getElem (by simp)⟩
                  have h1 := hc 0 z hz 1 _ rfl
                  have h2 : W.cell? ⟨g3, 1, none⟩ = some (.slice none 0 0) := cell_of_row _ _ _ _ _ _ hrow
                  simp only [Nat.zero_mul, Nat.zero_add] at h1
                  rw [h2] at h1
                  cases h1
              have hneA : ∀ a : Addr, A = some a → a.block ≠ gx := fun a ha => by
                rcases HXT.out.bath.hss with h | ⟨b, off, hbo, hlt, _⟩
                · have := HN.out.1; rw [h] at this; simp at this; omega
                · rw [hbo] at ha
                  cases ha
                  show b ≠ gx
                  omega
              obtain ⟨o7, hdr, h7⟩ := drop_one (ops := roomAReg) (k := 7) (by kernel_rfl)
              rw [hdr]
              refine wpList_store_row (op_at h7 (·.guard) (x := none) (by kernel_rfl)) 25 (.tmp 10) (.tmp 76) (op_at h7 (·.op) (by kernel_rfl)) gx #[.int .i64 Wd, .slice A n c, .slice (some ⟨g3, 0, none⟩) (n' + 1) cap3] e6 e5 25 _ hrow (by kernel_rfl) rfl (by simp [Value.oneCell']) ?_
              have hrowT := row_setRow W gx #[.int .i64 Wd, .slice A n c, .slice (some ⟨g3, 0, none⟩) (n' + 1) cap3] _ _ _ hrow
              have hIT := hI.setRow gx #[.int .i64 Wd, .slice A n c, .slice (some ⟨g3, 0, none⟩) (n' + 1) cap3] hneA hne
              have eT : Ext w3 (W.setRow gx #[.int .i64 Wd, .slice A n c, .slice (some ⟨g3, 0, none⟩) (n' + 1) cap3]) := below_setRow hB hgx _
              obtain ⟨wt, hwt⟩ : ∃ wt, W.setRow gx #[.int .i64 Wd, .slice A n c, .slice (some ⟨g3, 0, none⟩) (n' + 1) cap3] = wt := ⟨_, rfl⟩
              rw [hwt] at hrowT hIT eT ⊢
              have hxx : BathAt wt gx Wd A n c (some ⟨g3, 0, none⟩) (n' + 1) cap3 ss (ds ++ [((s : Int), rr, rr)]) := ⟨hrowT, hIT⟩
              rw [show o7.dst = none from op_at h7 (·.dst) (by kernel_rfl)]
              have hall : ∀ x, x ∈ ([(71, .agg #[.int .i64 Wd, .slice A n c, .slice A' n' c']), (72, .int .i64 (s : Int)), (73, .int .i64 rr), (74, .int .i64 rr), (75, .agg #[.int .i64 (s : Int), .int .i64 rr, .int .i64 rr]), (76, .agg #[.int .i64 Wd, .slice A n c, .slice (some ⟨g3, 0, none⟩) (n' + 1) cap3]), (10, .pointer (some ⟨gx, 0, none⟩))] : List (Tmp × Value)) → x.1 < 101 ∧ a.eval (.tmp x.1) = x.2 := by
                intro x hx
                simp only [List.mem_cons, List.not_mem_nil, or_false] at hx
                rcases hx with rfl | rfl | rfl | rfl | rfl | rfl | rfl
                · exact ⟨(show (71 : Nat) < 101 by omega), hS 0 (by omega)⟩
                · exact ⟨(show (72 : Nat) < 101 by omega), hS 1 (by omega)⟩
                · exact ⟨(show (73 : Nat) < 101 by omega), hS 2 (by omega)⟩
                · exact ⟨(show (74 : Nat) < 101 by omega), hS 3 (by omega)⟩
                · exact ⟨(show (75 : Nat) < 101 by omega), hS 4 (by omega)⟩
                · exact ⟨(show (76 : Nat) < 101 by omega), e5⟩
                · exact ⟨(show (10 : Nat) < 101 by omega), e6⟩
              have ha := act_puts hsz hdf hall (fun t ht => hold t (all_ne_of (l := [(71, .agg #[.int .i64 Wd, .slice A n c, .slice A' n' c']), (72, .int .i64 (s : Int)), (73, .int .i64 rr), (74, .int .i64 rr), (75, .agg #[.int .i64 (s : Int), .int .i64 rr, .int .i64 rr]), (76, .agg #[.int .i64 Wd, .slice A n c, .slice (some ⟨g3, 0, none⟩) (n' + 1) cap3]), (10, .pointer (some ⟨gx, 0, none⟩))]) (by kernel_rfl) ht))
              have cL := alone_law s hfine hxx.bath hs hfree
              have HXT2 := Lib.hid (HXT.out.ext eT)
              have HE2 := Lib.hid (HE.out.trans eT)
              clear hall hS hold hsz hdf e5 e6 hrow hrowT hI hIT hwt hne hneA hB eT hfine hfree HXT HE HX HB0 hdr h7
              rw [ha]
              clear ha
              simp only [wpList, Exit.then, puts, List.foldl_cons, List.foldl_nil, Act.put, List.setIfInBounds_toArray, List.set_cons_succ, List.set_cons_zero]
              go_at_K
              obtain ⟨r0, r1, r2⟩ := hxx.cells
              go_wp2_with fail
              refine cL.mono ?_
              rintro e w4 ⟨rfl, e4⟩
              have HXT := Lib.hid (HXT2.out.ext e4)
              have HE := Lib.hid (HE2.out.trans e4)
              clear HXT2 HE2 e4 cL r0 r1 r2 hxx
              obtain ⟨q0, q1, q2⟩ := HXT.out.cells
              by_cases hm : 10000 < rr + 1 + v
              · clear HMO HFEW0
                go_wp2_with fail
                refine (works_any _).mono ?_
                rintro e v9 ⟨rfl, f9⟩
                go_wp2
                go_ret
                exact ⟨rfl, HE.out.trans f9⟩
              · have HFULL : Hid (freeB Wd ss (sizes (ds ++ [((s : Int), rr + 1 + v, rr + 1 + v)])) n (s : Int) = false) := Lib.hid (HMO.out (rr + 1 + v) (by omega) (by omega))
                have HFEW := Lib.hid (HFEW0.out (rr + 1 + v) (by omega) (by omega))
                clear HMO HFEW0
                go_wp2_with fail
                obtain ⟨mm, hmm⟩ : ∃ mm, rr + 1 + v = mm := ⟨_, rfl⟩
                rw [hmm] at HFULL HFEW ⊢
                clear hmm q0 q1 q2
                have HX := HXT
                refine wp_region_specs (ops := roomBReg) (roomBS Wd A n c A' n' c' ss ds s mm 0) (Ext w4) (by kernel_rfl) (by kernel_rfl) ⟨rfl, rfl, rfl, Nat.le_refl _, fun _ _ => rfl⟩ (fun _ _ h e => h.trans e) (roomBS_ext Wd A n c A' n' c' ss ds s mm 0) roomBD (by kernel_rfl) ?_ ?_
                · intro i o ho a W hB hsz hold haft
                  have hi : i < 13 := (Array.getElem?_eq_some_iff.1 ho).1
                  match i, hi with
                  | 0, _ => exact roomB_op0 (hold 3 (by kernel_rfl)) HX.out hB ho
                  | 1, _ => exact roomB_op1 (hold 7 (by kernel_rfl)) ho
                  | 2, _ => exact roomB_op2 (hold 11 (by kernel_rfl)) ho
                  | 3, _ => exact roomB_op3 (hold 11 (by kernel_rfl)) ho
                  | 4, _ => exact roomB_op4 haft ho
                  | 5, _ => exact roomB_op5 HX.out h1000 hB haft ho
                  | 6, _ => exact roomB_op6 (hold 7 (by kernel_rfl)) ho
                  | 7, _ => exact roomB_op7 hs HFEW.out HFULL.out haft ho
                  | 8, _ => exact roomB_op8 haft ho
                  | 9, _ => exact roomB_op9 haft ho
                  | 10, _ => exact roomB_op10 haft ho
                  | 11, _ => exact roomB_op11 haft ho
                  | 12, _ => exact roomB_op12 haft ho
                  | i + 13, h => exact absurd h (by omega)
                · intro a W hB hsz hdf hold hS
                  have e10 : a.eval (.tmp 6) = .bool true := hS 12 (show 12 < roomBReg.size from Nat.lt_of_lt_of_eq (by omega) (show 13 = roomBReg.size by kernel_rfl))
                  obtain ⟨tmps, dfs⟩ := a
                  obtain rfl : dfs = [] := hdf
                  simp only [Exit.then]
                  go_at_K
                  go_wp2
                  exact bodyPost_ret (results_tmp rfl _ _ _) rfl ⟨congrArg Ending.returned e10, HE.out.trans hB⟩
          · have h40z : ¬ (n' : Int) < 40 := by omega
            clear HRO HFINE
            obtain ⟨q0, q1, q2⟩ := HXT.out.cells
            by_cases hm : 10000 < rr + 1 + v
            · clear HMO HFEW0
              go_wp2_with fail
              refine (works_any _).mono ?_
              rintro e v9 ⟨rfl, f9⟩
              go_wp2
              go_ret
              exact ⟨rfl, HE.out.trans f9⟩
            · have HFULL : Hid (freeB Wd ss (sizes (ds ++ [((s : Int), rr + 1 + v, rr + 1 + v)])) n (s : Int) = false) := Lib.hid (HMO.out (rr + 1 + v) (by omega) (by omega))
              have HFEW := Lib.hid (HFEW0.out (rr + 1 + v) (by omega) (by omega))
              clear HMO HFEW0
              go_wp2_with fail
              obtain ⟨mm, hmm⟩ : ∃ mm, rr + 1 + v = mm := ⟨_, rfl⟩
              rw [hmm] at HFULL HFEW ⊢
              clear hmm q0 q1 q2
              have HX := HXT
              refine wp_region_specs (ops := roomBReg) (roomBS Wd A n c A' n' c' ss ds s mm 0) (Ext w3) (by kernel_rfl) (by kernel_rfl) ⟨rfl, rfl, rfl, Nat.le_refl _, fun _ _ => rfl⟩ (fun _ _ h e => h.trans e) (roomBS_ext Wd A n c A' n' c' ss ds s mm 0) roomBD (by kernel_rfl) ?_ ?_
              · intro i o ho a W hB hsz hold haft
                have hi : i < 13 := (Array.getElem?_eq_some_iff.1 ho).1
                match i, hi with
                | 0, _ => exact roomB_op0 (hold 3 (by kernel_rfl)) HX.out hB ho
                | 1, _ => exact roomB_op1 (hold 7 (by kernel_rfl)) ho
                | 2, _ => exact roomB_op2 (hold 11 (by kernel_rfl)) ho
                | 3, _ => exact roomB_op3 (hold 11 (by kernel_rfl)) ho
                | 4, _ => exact roomB_op4 haft ho
                | 5, _ => exact roomB_op5 HX.out h1000 hB haft ho
                | 6, _ => exact roomB_op6 (hold 7 (by kernel_rfl)) ho
                | 7, _ => exact roomB_op7 hs HFEW.out HFULL.out haft ho
                | 8, _ => exact roomB_op8 haft ho
                | 9, _ => exact roomB_op9 haft ho
                | 10, _ => exact roomB_op10 haft ho
                | 11, _ => exact roomB_op11 haft ho
                | 12, _ => exact roomB_op12 haft ho
                | i + 13, h => exact absurd h (by omega)
              · intro a W hB hsz hdf hold hS
                have e10 : a.eval (.tmp 6) = .bool true := hS 12 (show 12 < roomBReg.size from Nat.lt_of_lt_of_eq (by omega) (show 13 = roomBReg.size by kernel_rfl))
                obtain ⟨tmps, dfs⟩ := a
                obtain rfl : dfs = [] := hdf
                simp only [Exit.then]
                go_at_K
                go_wp2
                exact bodyPost_ret (results_tmp rfl _ _ _) rfl ⟨congrArg Ending.returned e10, HE.out.trans hB⟩
        · clear HRO HFINE
          obtain ⟨q0, q1, q2⟩ := HXT.out.cells
          by_cases hm : 10000 < rr + 1 + v
          · clear HMO HFEW0
            go_wp2_with fail
            refine (works_any _).mono ?_
            rintro e v9 ⟨rfl, f9⟩
            go_wp2
            go_ret
            exact ⟨rfl, HE.out.trans f9⟩
          · have HFULL : Hid (freeB Wd ss (sizes (ds ++ [((s : Int), rr + 1 + v, rr + 1 + v)])) n (s : Int) = false) := Lib.hid (HMO.out (rr + 1 + v) (by omega) (by omega))
            have HFEW := Lib.hid (HFEW0.out (rr + 1 + v) (by omega) (by omega))
            clear HMO HFEW0
            go_wp2_with fail
            obtain ⟨mm, hmm⟩ : ∃ mm, rr + 1 + v = mm := ⟨_, rfl⟩
            rw [hmm] at HFULL HFEW ⊢
            clear hmm q0 q1 q2
            have HX := HXT
            refine wp_region_specs (ops := roomBReg) (roomBS Wd A n c A' n' c' ss ds s mm 0) (Ext w3) (by kernel_rfl) (by kernel_rfl) ⟨rfl, rfl, rfl, Nat.le_refl _, fun _ _ => rfl⟩ (fun _ _ h e => h.trans e) (roomBS_ext Wd A n c A' n' c' ss ds s mm 0) roomBD (by kernel_rfl) ?_ ?_
            · intro i o ho a W hB hsz hold haft
              have hi : i < 13 := (Array.getElem?_eq_some_iff.1 ho).1
              match i, hi with
              | 0, _ => exact roomB_op0 (hold 3 (by kernel_rfl)) HX.out hB ho
              | 1, _ => exact roomB_op1 (hold 7 (by kernel_rfl)) ho
              | 2, _ => exact roomB_op2 (hold 11 (by kernel_rfl)) ho
              | 3, _ => exact roomB_op3 (hold 11 (by kernel_rfl)) ho
              | 4, _ => exact roomB_op4 haft ho
              | 5, _ => exact roomB_op5 HX.out h1000 hB haft ho
              | 6, _ => exact roomB_op6 (hold 7 (by kernel_rfl)) ho
              | 7, _ => exact roomB_op7 hs HFEW.out HFULL.out haft ho
              | 8, _ => exact roomB_op8 haft ho
              | 9, _ => exact roomB_op9 haft ho
              | 10, _ => exact roomB_op10 haft ho
              | 11, _ => exact roomB_op11 haft ho
              | 12, _ => exact roomB_op12 haft ho
              | i + 13, h => exact absurd h (by omega)
            · intro a W hB hsz hdf hold hS
              have e10 : a.eval (.tmp 6) = .bool true := hS 12 (show 12 < roomBReg.size from Nat.lt_of_lt_of_eq (by omega) (show 13 = roomBReg.size by kernel_rfl))
              obtain ⟨tmps, dfs⟩ := a
              obtain rfl : dfs = [] := hdf
              simp only [Exit.then]
              go_at_K
              go_wp2
              exact bodyPost_ret (results_tmp rfl _ _ _) rfl ⟨congrArg Ending.returned e10, HE.out.trans hB⟩
end
end Go.Proofs.Ytckndnaohggmhaa
