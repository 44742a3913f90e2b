/- Texts of one package, joined: CountedReg, Counted. -/
import Derived.Test.YtchmdkdiilaejaaC42
/- CombCounted: its region with a call. -/
namespace Go.Proofs.Ytchmdkdiilaejaa
open Go.RowKit Go.Shelf
attribute [local irreducible] bitCells fitCells Z94 fitOf

/-- The slots of region 14 of function 11. -/
def co14D (i : Nat) : Tmp := if i = 0 then 71 else if i = 1 then 72 else if i = 2 then 73 else if i = 3 then 74 else if i = 4 then 75 else if i = 5 then 76 else if i = 6 then 70 else if i = 7 then 77 else if i = 8 then 78 else if i = 9 then 10 else 11
/-- What each operation yields. -/
def co14S (_p : Nat) (A : Option Addr) (n c : Nat) (A' : Option Addr) (n' c' g ln cl jj kk : Nat) (x kd : Int) (ix : Nat) (v : Value) (_W : World) : Prop :=
  match ix with
  | 0 => v = .agg #[.slice A n c, .slice A' n' c']
  | 1 => v = .slice (some ⟨g, 0, none⟩) ln cl
  | 2 => v = .int .i64 (jj : Int)
  | 3 => v = .pointer (some ⟨g, jj * 2, none⟩)
  | 4 => v = .agg #[.int .i64 (kk : Int), .int .i64 x]
  | 5 => v = .tuple #[.int .i64 kd, .int .i64 0]
  | 6 => v = .tuple #[.int .i64 kd, .int .i64 0]
  | 7 => v = .int .i64 kd
  | 8 => v = .int .i64 0
  | 9 => v = .int .i64 kd
  | 10 => v = .int .i64 0
  | _ => True
noncomputable def co14Reg : Array Oper := (Try.f11.body.bind (regionOf · 14)).getD #[]
theorem co14S_ext {p : Nat} {A : Option Addr} {n c : Nat} {A' : Option Addr} {n' c' g ln cl jj kk : Nat} {x kd : Int} : ∀ (i : Nat) (v : Value) (W W' : World), co14S p A n c A' n' c' g ln cl jj kk x kd i v W → Below W.heap.size W W' → co14S p A n c A' n' c' g ln cl jj kk x kd i v W' := by
  intro i v W W' h e
  match i with
  | 0 => exact h
  | 1 => exact h
  | 2 => exact h
  | 3 => exact h
  | 4 => exact h
  | 5 => exact h
  | 6 => exact h
  | 7 => exact h
  | 8 => exact h
  | 9 => exact h
  | 10 => exact h
  | k + 11 => exact trivial
def co14Ok (p : Nat) (A : Option Addr) (n c : Nat) (A' : Option Addr) (n' c' g ln cl jj kk : Nat) (x kd : Int) (Q : Exit → Act → World → Prop) (a : Act) (W : World) (ix : Nat) (o : Oper) : Prop :=
  (∀ j b, o.guard = some (j, b) → a.eval (.tmp (co14D j)) = .bool b) ∧ o.wp Try.prog a W (fun a'' W' => ∃ v, a'' = a.put o.dst v ∧ co14S p A n c A' n' c' g ln cl jj kk x kd ix v W' ∧ Below W.heap.size W W') Q
section
variable {p : Nat} {A : Option Addr} {n c : Nat} {A' : Option Addr} {n' c' g ln cl jj kk : Nat} {x kd : Int} {Q : Exit → Act → World → Prop} {a : Act} {V W : World} {o : Oper}
set_option maxHeartbeats 1000000 in
theorem co14_op0 (o1 : a.eval (.tmp 1) = .pointer (some ⟨p, 0, none⟩)) (q0 : ∀ W, Ext V W → W.cell? ⟨p, 0, none⟩ = some (.slice A n c)) (q1 : ∀ W, Ext V W → W.cell? ⟨p, 1, none⟩ = some (.slice A' n' c')) (hB : Ext V W) (ho : co14Reg[0]? = some o) : co14Ok p A n c A' n' c' g ln cl jj kk x kd Q a W 0 o := by
  have hop := op_at ho (·.op) (x := Op.load 25 (Operand.tmp 1)) (by kernel_rfl)
  have hgd := op_at ho (·.guard) (x := none) (by kernel_rfl)
  refine ⟨fun j b h => (by rw [hgd] at h; cases h), ?_⟩
  have q0' := q0 W hB
  have q1' := q1 W hB
  exact specs_value (R := fun v W => co14S p A n c A' n' c' g ln cl jj kk x kd 0 v W) (v := .agg #[.slice A n c, .slice A' n' c']) (by simp [execOp, hop, go_sem, ev o1, q0', q1']) rfl (Ext.refl W)
set_option maxHeartbeats 1000000 in
theorem co14_op1 (o3 : a.eval (.tmp 3) = .slice (some ⟨g, 0, none⟩) ln cl) (ho : co14Reg[1]? = some o) : co14Ok p A n c A' n' c' g ln cl jj kk x kd Q a W 1 o := by
  have hop := op_at ho (·.op) (x := Op.move (Operand.tmp 3)) (by kernel_rfl)
  have hgd := op_at ho (·.guard) (x := none) (by kernel_rfl)
  refine ⟨fun j b h => (by rw [hgd] at h; cases h), ?_⟩
  exact specs_value (R := fun v W => co14S p A n c A' n' c' g ln cl jj kk x kd 1 v W) (v := .slice (some ⟨g, 0, none⟩) ln cl) (by simp [execOp, hop, go_sem, ev o3]) rfl (Ext.refl W)
set_option maxHeartbeats 1000000 in
theorem co14_op2 (o9 : a.eval (.tmp 9) = .int .i64 (jj : Int)) (ho : co14Reg[2]? = some o) : co14Ok p A n c A' n' c' g ln cl jj kk x kd Q a W 2 o := by
  have hop := op_at ho (·.op) (x := Op.move (Operand.tmp 9)) (by kernel_rfl)
  have hgd := op_at ho (·.guard) (x := none) (by kernel_rfl)
  refine ⟨fun j b h => (by rw [hgd] at h; cases h), ?_⟩
  exact specs_value (R := fun v W => co14S p A n c A' n' c' g ln cl jj kk x kd 2 v W) (v := .int .i64 (jj : Int)) (by simp [execOp, hop, go_sem, ev o9]) rfl (Ext.refl W)
set_option maxHeartbeats 1000000 in
theorem co14_op3 (hj : jj < ln) (haft : ∀ j, (o.after.any fun e => decide (e.on = j) && Region.binds .any e) = true → co14S p A n c A' n' c' g ln cl jj kk x kd j (a.eval (.tmp (co14D j))) W) (ho : co14Reg[3]? = some o) : co14Ok p A n c A' n' c' g ln cl jj kk x kd Q a W 3 o := by
  have hop := op_at ho (·.op) (x := Op.indexAddr 54 (Operand.tmp 72) (Operand.tmp 73)) (by kernel_rfl)
  have hgd := op_at ho (·.guard) (x := none) (by kernel_rfl)
  have e1 : a.eval (.tmp 72) = .slice (some ⟨g, 0, none⟩) ln cl := haft 1 (op_at ho (fun o => o.after.any fun e => decide (e.on = 1) && Region.binds .any e) (x := true) (by kernel_rfl))
  have e2 : a.eval (.tmp 73) = .int .i64 (jj : Int) := haft 2 (op_at ho (fun o => o.after.any fun e => decide (e.on = 2) && Region.binds .any e) (x := true) (by kernel_rfl))
  refine ⟨fun j b h => (by rw [hgd] at h; cases h), ?_⟩
  have hjz : (jj : Int) < (ln : Int) := by omega
  exact specs_value (R := fun v W => co14S p A n c A' n' c' g ln cl jj kk x kd 3 v W) (v := .pointer (some ⟨g, jj * 2, none⟩)) (by simp [execOp, hop, go_sem, ev e1, ev e2, hjz]) rfl (Ext.refl W)
set_option maxHeartbeats 1000000 in
theorem co14_op4 (c0 : ∀ W, Ext V W → W.cell? ⟨g, jj * 2, none⟩ = some (.int .i64 (kk : Int))) (c1 : ∀ W, Ext V W → W.cell? ⟨g, jj * 2 + 1, none⟩ = some (.int .i64 x)) (hB : Ext V W) (haft : ∀ j, (o.after.any fun e => decide (e.on = j) && Region.binds .any e) = true → co14S p A n c A' n' c' g ln cl jj kk x kd j (a.eval (.tmp (co14D j))) W) (ho : co14Reg[4]? = some o) : co14Ok p A n c A' n' c' g ln cl jj kk x kd Q a W 4 o := by
  have hop := op_at ho (·.op) (x := Op.load 27 (Operand.tmp 74)) (by kernel_rfl)
  have hgd := op_at ho (·.guard) (x := none) (by kernel_rfl)
  have e3 : a.eval (.tmp 74) = .pointer (some ⟨g, jj * 2, none⟩) := haft 3 (op_at ho (fun o => o.after.any fun e => decide (e.on = 3) && Region.binds .any e) (x := true) (by kernel_rfl))
  refine ⟨fun j b h => (by rw [hgd] at h; cases h), ?_⟩
  have c0' := c0 W hB
  have c1' := c1 W hB
  exact specs_value (R := fun v W => co14S p A n c A' n' c' g ln cl jj kk x kd 4 v W) (v := .agg #[.int .i64 (kk : Int), .int .i64 x]) (by simp [execOp, hop, go_sem, ev e3, c0', c1']) rfl (Ext.refl W)
set_option maxHeartbeats 1000000 in
theorem co14_op5 (hcall : ∀ W, Ext V W → Calls Try.prog 32 #[.agg #[.slice A n c, .slice A' n' c'], .agg #[.int .i64 (kk : Int), .int .i64 x]] W fun e w' => e = .returned (.tuple #[.int .i64 kd, .int .i64 0]) ∧ Ext W w') (hB : Ext V W) (haft : ∀ j, (o.after.any fun e => decide (e.on = j) && Region.binds .any e) = true → co14S p A n c A' n' c' g ln cl jj kk x kd j (a.eval (.tmp (co14D j))) W) (ho : co14Reg[5]? = some o) : co14Ok p A n c A' n' c' g ln cl jj kk x kd Q a W 5 o := by
  have hop := op_at ho (·.op) (x := Op.call { callee := Callee.value (Operand.func 32), args := #[Operand.tmp 71, Operand.tmp 75], argTypes := #[25, 27] }) (by kernel_rfl)
  have hgd := op_at ho (·.guard) (x := none) (by kernel_rfl)
  have e0 : a.eval (.tmp 71) = .agg #[.slice A n c, .slice A' n' c'] := haft 0 (op_at ho (fun o => o.after.any fun e => decide (e.on = 0) && Region.binds .any e) (x := true) (by kernel_rfl))
  have e4 : a.eval (.tmp 75) = .agg #[.int .i64 (kk : Int), .int .i64 x] := haft 4 (op_at ho (fun o => o.after.any fun e => decide (e.on = 4) && Region.binds .any e) (x := true) (by kernel_rfl))
  refine ⟨fun j b h => (by rw [hgd] at h; cases h), ?_⟩
  refine specs_call (R := fun v W => co14S p A n c A' n' c' g ln cl jj kk x kd 5 v W) (f := 32) (args := #[.agg #[.slice A n c, .slice A' n' c'], .agg #[.int .i64 (kk : Int), .int .i64 x]]) (by simp [execOp, hop, go_sem, ev e0, ev e4]) ((hcall W hB).mono ?_)
  rintro e w' ⟨rfl, h3⟩
  exact ⟨_, rfl, rfl, h3⟩
set_option maxHeartbeats 1000000 in
theorem co14_op6 (haft : ∀ j, (o.after.any fun e => decide (e.on = j) && Region.binds .any e) = true → co14S p A n c A' n' c' g ln cl jj kk x kd j (a.eval (.tmp (co14D j))) W) (ho : co14Reg[6]? = some o) : co14Ok p A n c A' n' c' g ln cl jj kk x kd Q a W 6 o := by
  have hop := op_at ho (·.op) (x := Op.move (Operand.tmp 76)) (by kernel_rfl)
  have hgd := op_at ho (·.guard) (x := none) (by kernel_rfl)
  have e5 : co14S p A n c A' n' c' g ln cl jj kk x kd 5 (a.eval (.tmp 76)) W := haft 5 (op_at ho (fun o => o.after.any fun e => decide (e.on = 5) && Region.binds .any e) (x := true) (by kernel_rfl))
  refine ⟨fun j b h => (by rw [hgd] at h; cases h), ?_⟩
  have e5' : a.eval (.tmp 76) = .tuple #[.int .i64 kd, .int .i64 0] := e5
  exact specs_value (R := fun v W => co14S p A n c A' n' c' g ln cl jj kk x kd 6 v W) (v := .tuple #[.int .i64 kd, .int .i64 0]) (by simp [execOp, hop, go_sem, ev e5']) rfl (Ext.refl W)
set_option maxHeartbeats 1000000 in
theorem co14_op7 (haft : ∀ j, (o.after.any fun e => decide (e.on = j) && Region.binds .any e) = true → co14S p A n c A' n' c' g ln cl jj kk x kd j (a.eval (.tmp (co14D j))) W) (ho : co14Reg[7]? = some o) : co14Ok p A n c A' n' c' g ln cl jj kk x kd Q a W 7 o := by
  have hop := op_at ho (·.op) (x := Op.extract (Operand.tmp 70) 0) (by kernel_rfl)
  have hgd := op_at ho (·.guard) (x := none) (by kernel_rfl)
  have e6 : a.eval (.tmp 70) = .tuple #[.int .i64 kd, .int .i64 0] := haft 6 (op_at ho (fun o => o.after.any fun e => decide (e.on = 6) && Region.binds .any e) (x := true) (by kernel_rfl))
  refine ⟨fun j b h => (by rw [hgd] at h; cases h), ?_⟩
  exact specs_value (R := fun v W => co14S p A n c A' n' c' g ln cl jj kk x kd 7 v W) (v := .int .i64 kd) (by simp [execOp, hop, go_sem, ev e6]) rfl (Ext.refl W)
set_option maxHeartbeats 1000000 in
theorem co14_op8 (haft : ∀ j, (o.after.any fun e => decide (e.on = j) && Region.binds .any e) = true → co14S p A n c A' n' c' g ln cl jj kk x kd j (a.eval (.tmp (co14D j))) W) (ho : co14Reg[8]? = some o) : co14Ok p A n c A' n' c' g ln cl jj kk x kd Q a W 8 o := by
  have hop := op_at ho (·.op) (x := Op.extract (Operand.tmp 70) 1) (by kernel_rfl)
  have hgd := op_at ho (·.guard) (x := none) (by kernel_rfl)
  have e6 : a.eval (.tmp 70) = .tuple #[.int .i64 kd, .int .i64 0] := haft 6 (op_at ho (fun o => o.after.any fun e => decide (e.on = 6) && Region.binds .any e) (x := true) (by kernel_rfl))
  refine ⟨fun j b h => (by rw [hgd] at h; cases h), ?_⟩
  exact specs_value (R := fun v W => co14S p A n c A' n' c' g ln cl jj kk x kd 8 v W) (v := .int .i64 0) (by simp [execOp, hop, go_sem, ev e6]) rfl (Ext.refl W)
set_option maxHeartbeats 1000000 in
theorem co14_op9 (haft : ∀ j, (o.after.any fun e => decide (e.on = j) && Region.binds .any e) = true → co14S p A n c A' n' c' g ln cl jj kk x kd j (a.eval (.tmp (co14D j))) W) (ho : co14Reg[9]? = some o) : co14Ok p A n c A' n' c' g ln cl jj kk x kd Q a W 9 o := by
  have hop := op_at ho (·.op) (x := Op.assign (Operand.tmp 77)) (by kernel_rfl)
  have hgd := op_at ho (·.guard) (x := none) (by kernel_rfl)
  have e7 : a.eval (.tmp 77) = .int .i64 kd := haft 7 (op_at ho (fun o => o.after.any fun e => decide (e.on = 7) && Region.binds .any e) (x := true) (by kernel_rfl))
  refine ⟨fun j b h => (by rw [hgd] at h; cases h), ?_⟩
  exact specs_value (R := fun v W => co14S p A n c A' n' c' g ln cl jj kk x kd 9 v W) (v := .int .i64 kd) (by simp [execOp, hop, go_sem, ev e7]) rfl (Ext.refl W)
set_option maxHeartbeats 1000000 in
theorem co14_op10 (haft : ∀ j, (o.after.any fun e => decide (e.on = j) && Region.binds .any e) = true → co14S p A n c A' n' c' g ln cl jj kk x kd j (a.eval (.tmp (co14D j))) W) (ho : co14Reg[10]? = some o) : co14Ok p A n c A' n' c' g ln cl jj kk x kd Q a W 10 o := by
  have hop := op_at ho (·.op) (x := Op.assign (Operand.tmp 78)) (by kernel_rfl)
  have hgd := op_at ho (·.guard) (x := none) (by kernel_rfl)
  have e8 : a.eval (.tmp 78) = .int .i64 0 := haft 8 (op_at ho (fun o => o.after.any fun e => decide (e.on = 8) && Region.binds .any e) (x := true) (by kernel_rfl))
  refine ⟨fun j b h => (by rw [hgd] at h; cases h), ?_⟩
  exact specs_value (R := fun v W => co14S p A n c A' n' c' g ln cl jj kk x kd 10 v W) (v := .int .i64 0) (by simp [execOp, hop, go_sem, ev e8]) rfl (Ext.refl W)
set_option maxRecDepth 100000 in
set_option maxHeartbeats 4000000 in
/-- Region 14 of function 11. -/
theorem co14_wp {id : Nat} (hlen : a.tmps.size = 138) (o1 : a.eval (.tmp 1) = .pointer (some ⟨p, 0, none⟩)) (o3 : a.eval (.tmp 3) = .slice (some ⟨g, 0, none⟩) ln cl) (o9 : a.eval (.tmp 9) = .int .i64 (jj : Int)) (q0 : ∀ W, Ext V W → W.cell? ⟨p, 0, none⟩ = some (.slice A n c)) (q1 : ∀ W, Ext V W → W.cell? ⟨p, 1, none⟩ = some (.slice A' n' c')) (hj : jj < ln) (c0 : ∀ W, Ext V W → W.cell? ⟨g, jj * 2, none⟩ = some (.int .i64 (kk : Int))) (c1 : ∀ W, Ext V W → W.cell? ⟨g, jj * 2 + 1, none⟩ = some (.int .i64 x)) (hcall : ∀ W, Ext V W → Calls Try.prog 32 #[.agg #[.slice A n c, .slice A' n' c'], .agg #[.int .i64 (kk : Int), .int .i64 x]] W fun e w' => e = .returned (.tuple #[.int .i64 kd, .int .i64 0]) ∧ Ext W w') (K : (∀ W v5, Ext V W → co14S p A n c A' n' c' g ln cl jj kk x kd 5 v5 W → wpList Try.prog co14Reg Q (co14Reg.toList.drop 11) (puts a [(71, .agg #[.slice A n c, .slice A' n' c']), (72, .slice (some ⟨g, 0, none⟩) ln cl), (73, .int .i64 (jj : Int)), (74, .pointer (some ⟨g, jj * 2, none⟩)), (75, .agg #[.int .i64 (kk : Int), .int .i64 x]), (76, v5), (70, .tuple #[.int .i64 kd, .int .i64 0]), (77, .int .i64 kd), (78, .int .i64 0), (10, .int .i64 kd), (11, .int .i64 0)]) W)) : (Code.region id co14Reg true).wp Try.prog Q a V := by
  refine wp_region_specs_free (ops := co14Reg) 11 (co14S p A n c A' n' c' g ln cl jj kk x kd) (Ext V) (by kernel_rfl) (by rw [hlen]; kernel_rfl) (by kernel_rfl) ⟨rfl, rfl, rfl, Nat.le_refl _, fun _ _ => rfl⟩ (fun _ _ h e => h.trans e) co14S_ext co14D (by kernel_rfl) ?_ ?_
  · intro i o hi ho a' W hB hsz hold haft
    match i, hi with
    | 0, _ => exact co14_op0 ((hold 1 (by kernel_rfl)).trans o1) q0 q1 hB ho
    | 1, _ => exact co14_op1 ((hold 3 (by kernel_rfl)).trans o3) ho
    | 2, _ => exact co14_op2 ((hold 9 (by kernel_rfl)).trans o9) ho
    | 3, _ => exact co14_op3 hj haft ho
    | 4, _ => exact co14_op4 c0 c1 hB haft ho
    | 5, _ => exact co14_op5 hcall hB haft ho
    | 6, _ => exact co14_op6 haft ho
    | 7, _ => exact co14_op7 haft ho
    | 8, _ => exact co14_op8 haft ho
    | 9, _ => exact co14_op9 haft ho
    | 10, _ => exact co14_op10 haft ho
    | m + 11, h => exact absurd h (by omega)
  · intro a1 W hB hsz hdf hold hS
    obtain ⟨v5, g5⟩ : ∃ v, v = a1.eval (.tmp 76) := ⟨_, rfl⟩
    have hall : ∀ z, z ∈ ([(71, .agg #[.slice A n c, .slice A' n' c']), (72, .slice (some ⟨g, 0, none⟩) ln cl), (73, .int .i64 (jj : Int)), (74, .pointer (some ⟨g, jj * 2, none⟩)), (75, .agg #[.int .i64 (kk : Int), .int .i64 x]), (76, v5), (70, .tuple #[.int .i64 kd, .int .i64 0]), (77, .int .i64 kd), (78, .int .i64 0), (10, .int .i64 kd), (11, .int .i64 0)] : List (Tmp × Value)) → z.1 < a.tmps.size ∧ a1.eval (.tmp z.1) = z.2 := by
      intro z hz
      rw [hlen]
      simp only [List.mem_cons, List.not_mem_nil, or_false] at hz
      rcases hz with rfl | rfl | rfl | rfl | rfl | rfl | rfl | rfl | rfl | rfl | rfl
      · exact ⟨(show (71 : Nat) < 138 by omega), hS 0 (by omega)⟩
      · exact ⟨(show (72 : Nat) < 138 by omega), hS 1 (by omega)⟩
      · exact ⟨(show (73 : Nat) < 138 by omega), hS 2 (by omega)⟩
      · exact ⟨(show (74 : Nat) < 138 by omega), hS 3 (by omega)⟩
      · exact ⟨(show (75 : Nat) < 138 by omega), hS 4 (by omega)⟩
      · exact ⟨(show (76 : Nat) < 138 by omega), g5.symm⟩
      · exact ⟨(show (70 : Nat) < 138 by omega), hS 6 (by omega)⟩
      · exact ⟨(show (77 : Nat) < 138 by omega), hS 7 (by omega)⟩
      · exact ⟨(show (78 : Nat) < 138 by omega), hS 8 (by omega)⟩
      · exact ⟨(show (10 : Nat) < 138 by omega), hS 9 (by omega)⟩
      · exact ⟨(show (11 : Nat) < 138 by omega), hS 10 (by omega)⟩
    have ha := act_puts hsz hdf hall (fun t ht => hold t (all_ne_of (l := [(71, .agg #[.slice A n c, .slice A' n' c']), (72, .slice (some ⟨g, 0, none⟩) ln cl), (73, .int .i64 (jj : Int)), (74, .pointer (some ⟨g, jj * 2, none⟩)), (75, .agg #[.int .i64 (kk : Int), .int .i64 x]), (76, v5), (70, .tuple #[.int .i64 kd, .int .i64 0]), (77, .int .i64 kd), (78, .int .i64 0), (10, .int .i64 kd), (11, .int .i64 0)]) (by kernel_rfl) ht))
    rw [ha]
    exact K W v5 hB (by rw [g5]; exact hS 5 (by omega))
end
end Go.Proofs.Ytchmdkdiilaejaa

/- CombCounted, walked. -/
namespace Go.Proofs.Ytchmdkdiilaejaa
open Go.RowKit Go.Shelf
attribute [local irreducible] bitCells fitCells Z94 fitOf

set_option maxRecDepth 100000 in
set_option maxHeartbeats 8000000 in
theorem counted_any {A : Option Addr} {n c : Nat} {A' : Option Addr} {n' c' : Nat} {cs ms : List (Int × Int)} {w : World} (hb : IsSheet w w.heap.size A n c A' n' c' cs ms) :
    Calls Try.prog 11 #[.agg #[.slice A n c, .slice A' n' c']] w fun e w' => e = .returned (.bool true) ∧ Ext w w' := by
  have hX0 := SheetAt.new hb
  have hE0 : Ext w (w.alloc (.cells #[.slice A n c, .slice A' n' c'] 25)) := ext_alloc w _
  clear hb
  go_enter Try.func11, Try.ntmps11
  go_upto_region 1 with fail
  obtain ⟨w0, hw0⟩ : ∃ w0, w.alloc (.cells #[.slice A n c, .slice A' n' c'] 25) = w0 := ⟨_, rfl⟩
  rw [hw0] at hX0 hE0
  rw [hw0]
  obtain ⟨p, hp⟩ : ∃ p, w.heap.size = p := ⟨_, rfl⟩
  have HE := Lib.hid hE0
  rw [hp] at hX0
  rw [hp]
  have HX := Lib.hid hX0
  clear hw0 hE0 hp hX0
  obtain ⟨q0, q1⟩ := HX.out.cells
  have h39 := fine_any HX.out.sheet
  by_cases h0 : sheetErr cs ms = 0
  · rw [decide_eq_true h0] at h39
    have HS := Lib.hid h0
    clear h0
    go_wp2_with (fail)
    refine h39.mono ?_
    rintro e w1 ⟨rfl, e1⟩
    have HE := Lib.hid (HE.out.trans e1)
    have HX := Lib.hid (HX.out.ext e1)
    clear e1 h39 q0 q1
    obtain ⟨q0, q1⟩ := HX.out.cells
    have h48 := refRows_any HX.out.sheet HS.out
    go_wp2_with fail
    refine h48.mono ?_
    rintro e w2 ⟨v, rfl, e2, hv⟩
    obtain ⟨A5, c5, hv2⟩ := owns_slice hv
    subst hv2
    have HX := Lib.hid (HX.out.ext e2)
    have HE := Lib.hid (HE.out.trans e2)
    have hfew := fits_few HS.out
    obtain ⟨ls, hls⟩ : ∃ ls, fitsOf cs ms = ls := ⟨_, rfl⟩
    rw [hls] at hv hfew
    rw [hls]
    have HLS := Lib.hid hls
    have HV := Lib.hid hv
    clear e2 h48 hv hls q0 q1
    obtain ⟨q0, q1⟩ := HX.out.cells
    have h40 := best_any HX.out.sheet
    go_wp2_with fail
    refine h40.mono ?_
    intro e w3 hp2
    obtain ⟨e2, A3, m3, c3, rfl, hm3, hl3, hh3⟩ := post_best hp2
    have HE := Lib.hid (HE.out.trans e2)
    have HX := Lib.hid (HX.out.ext e2)
    have HV := Lib.hid (owns_ext HV.out e2)
    have H3 := Lib.hid hh3
    have HM3 := Lib.hid (And.intro hm3 hl3)
    clear e2 h40 q0 q1 hp2 hh3 hm3 hl3
    obtain ⟨q0, q1⟩ := HX.out.cells
    have h49 := count_any HX.out.sheet
    go_wp2_with fail
    refine h49.mono ?_
    rintro e w4 ⟨e2, P, hK, rfl⟩
    have HE := Lib.hid (HE.out.trans e2)
    have HX := Lib.hid (HX.out.ext e2)
    have HV := Lib.hid (owns_ext HV.out e2)
    have H3 := Lib.hid (Held.ext H3.out e2)
    obtain ⟨a, f, haf⟩ : ∃ a f, countAns cs ms P = (a, f) := ⟨_, _, rfl⟩
    rw [haf]
    dsimp only
    have HAF := Lib.hid haf
    have HK := Lib.hid hK
    clear e2 h49 haf hK q0 q1
    rcases whole_cases HS.out with hw | hw
    · have HW := Lib.hid hw
      have hm3 := HM3.out.1
      have h3 := H3.out
      rw [if_pos hw] at hm3 h3
      rw [hw]
      have H3 := Lib.hid h3
      have HM := Lib.hid (And.intro hm3 HM3.out.2)
      obtain ⟨hs1, hs2⟩ := count_says hw (HK.out hw) HAF.out
      have HS2 := Lib.hid hs2
      clear hw hm3 h3 hs2 HM3
      by_cases hbig : 40 < (ls.length : Int)
      · go_wp2_with fail
        refine (works_any _).mono ?_
        rintro e w9 ⟨rfl, e9⟩
        have HE := Lib.hid (HE.out.trans e9)
        clear e9
        go_wp2
        go_ret
        exact ⟨rfl, HE.out⟩
      · have hf1 : ¬ (¬ f = 0 ∧ ¬ f = 4) := by rcases hs1 with ⟨h1, _⟩ | h1 <;> omega
        have ha1 : f = 0 → ¬ a < 1 := fun h => by rcases hs1 with ⟨_, h1⟩ | h1 <;> omega
        have HA1 := Lib.hid ha1
        -- the loop over the rows
        have main : ∀ fv : Int, f = fv → (fv = 0 ∨ fv = 4) → True := fun _ _ _ => trivial
        clear main
        obtain ⟨b0, hb0⟩ : ∃ b0 : Bool, decide (¬ f = 0 ∨ 1 < a) = b0 := ⟨_, rfl⟩
        have HB0 := Lib.hid hb0
        clear hb0 ha1
        rcases (show f = 0 ∨ f = 4 by rcases hs1 with ⟨h1, _⟩ | h1 <;> omega) with hf | hf
        all_goals
          subst hf
          have ha1 := HA1.out
          clear hs1 hf1
          first | (have ha2 := ha1 rfl; clear ha1) | clear ha1
          go_wp2_with fail
          go_loopw [8, 9] (fun s i wr => ∃ (j : Nat) (sb : Bool), j ≤ ls.length ∧ i = .int .i64 j ∧ s = .bool sb ∧ Hid (Ext w4 wr) ∧ Hid (sb = true ↔ ∃ t, ∃ ht : t < ls.length, t < j ∧ kindOf cs ms (allNos cs ms) ls[t] = 1)) (fun _ i _ => ls.length - (intOf i).toNat)
          case atStart => exact ⟨0, false, Nat.zero_le _, rfl, rfl, Lib.hid (Ext.refl _), Lib.hid ⟨fun h => (by cases h), fun ⟨t, _, h, _⟩ => absurd h (by omega)⟩⟩
          case round =>
            obtain ⟨j, sb, hj, rfl, rfl, hE, hD⟩ := hrel
            by_cases hjl : j < ls.length
            · have hjz : (j : Int) < (ls.length : Int) := by omega
              obtain ⟨g, rfl, hg, c0, c1⟩ := pair_at (owns_ext HV.out hE.out) hjl
              have hmem : ls[j] ∈ fitsOf cs ms := by rw [HLS.out]; exact List.getElem_mem hjl
              have hka := kind_fit HW.out hmem
              have hkc := kind_cases HW.out hmem
              have hbb := best_bestL HW.out
              have h32 := fun (W : World) (hW : Ext wr W) => kind2_any ((HX.out.ext hE.out).ext hW).sheet (rwInt ls[j])
              rw [hka] at h32
              obtain ⟨x1, x2, hx⟩ : ∃ x1 x2, ls[j] = (x1, x2) := ⟨_, _, rfl⟩
              have hin : ((x1 : Int), x2) ∈ (bestRows cs ms).map rwInt ↔ ls[j] ∈ bestRows cs ms := by
                rw [hx, List.mem_map]
                constructor
                · rintro ⟨y, hy, he⟩
                  have := rwOf_int y
                  rw [he] at this
                  rw [show ((x1, x2) : Rw) = rwOf ((x1 : Int), x2) from (rwOf_int (x1, x2)).symm, this]
                  exact hy
                · intro hy
                  exact ⟨_, hy, rfl⟩
              obtain ⟨kd, hkd⟩ : ∃ kd, kindOf cs ms (allNos cs ms) ls[j] = kd := ⟨_, rfl⟩
              rw [hkd] at hkc h32
              have hk3 : (kd = 0 ∧ ¬ ls[j] ∈ bestRows cs ms) ∨ kd = 1 ∨ (kd = 2 ∧ ls[j] ∈ bestRows cs ms) := by
                rcases hkc with ⟨k1, k2⟩ | ⟨k1, _⟩ | ⟨k1, k2⟩
                · exact .inl ⟨k1, k2 _ hbb⟩
                · exact .inr (.inl k1)
                · exact .inr (.inr ⟨k1, k2 _ hbb⟩)
              rw [← hin] at hk3
              obtain ⟨bs, hbs⟩ : ∃ bs, (bestRows cs ms).map rwInt = bs := ⟨_, rfl⟩
              rw [hbs] at hk3
              have hbsl := HM.out.1
              rw [hbs] at hbsl
              have h3e := Held.ext H3.out hE.out
              rw [hbs] at h3e
              rw [hx] at c0 c1 h32
              dsimp only at c0 c1 h32
              have hX3 := HX.out.ext hE.out
              have H32 := Lib.hid h32
              have HK3 := Lib.hid hk3
              have HKD := Lib.hid hkd
              have HBL := Lib.hid hbsl
              have H3E := Lib.hid h3e
              have c0' : ∀ W, Ext wr W → W.cell? ⟨g, j * 2, none⟩ = some (.int .i64 (x1 : Int)) := fun W hW => (hW.cell (p := ⟨g, j * 2, none⟩) hg).trans c0
              have c1' : ∀ W, Ext wr W → W.cell? ⟨g, j * 2 + 1, none⟩ = some (.int .i64 x2) := fun W hW => (hW.cell (p := ⟨g, j * 2 + 1, none⟩) hg).trans c1
              have HC0 := Lib.hid c0'
              have HC1 := Lib.hid c1'
              clear hka hkc hbb h32 hin hkd hk3 hbs hbsl h3e hmem c0' c1' c0 c1
              go_upto_region 14 with fail
              refine co14_wp (p := p) (A := A) (n := n) (c := c) (A' := A') (n' := n') (c' := c') (g := g) (ln := ls.length) (cl := c5) (jj := j) (kk := x1) (x := x2) (kd := kd) rfl rfl rfl rfl
                (fun W hW => (hX3.ext hW).cells.1) (fun W hW => (hX3.ext hW).cells.2) hjl (fun W hW => HC0.out W hW) (fun W hW => HC1.out W hW) (fun W hW => H32.out W hW) ?_
              intro W v5 hW _
              have hdr : co14Reg.toList.drop 11 = [] := List.drop_eq_nil_of_le (by rw [Array.length_toList]; exact Nat.le_of_eq (by kernel_rfl))
              rw [hdr]
              simp only [wpList, puts, List.foldl_cons, List.foldl_nil, Act.put, List.setIfInBounds_toArray, List.set_cons_succ, List.set_cons_zero]
              have HWE := Lib.hid (hE.out.trans hW)
              have HC0 := Lib.hid (fun W2 (h : Ext W W2) => HC0.out W2 (hW.trans h))
              have HC1 := Lib.hid (fun W2 (h : Ext W W2) => HC1.out W2 (hW.trans h))
              have H3E := Lib.hid (Held.ext H3E.out hW)
              clear hX3 hW hE hdr
              have hm12 := HM.out.2
              go_wp2_with fail
              go_loopw [12, 13] (fun h i wq => ∃ (t : Nat) (hbv : Bool), t ≤ m3 ∧ i = .int .i64 t ∧ h = .bool hbv ∧ Hid (Ext W wq) ∧ Hid (hbv = true ↔ ∃ u, ∃ hu : u < bs.length, u < t ∧ bs[u] = ((x1 : Int), x2))) (fun _ i _ => m3 - (intOf i).toNat)
              case atStart => exact ⟨0, false, Nat.zero_le _, rfl, rfl, Lib.hid (Ext.refl _), Lib.hid ⟨fun h => (by cases h), fun ⟨u, _, h, _⟩ => absurd h (by omega)⟩⟩
              case round =>
                obtain ⟨t, hbv, ht, rfl, rfl, hE, hH⟩ := hrel
                by_cases htl : t < m3
                · have htz : (t : Int) < (m3 : Int) := by omega
                  have htb : t < bs.length := by rw [← HBL.out]; exact htl
                  obtain ⟨gb, ob, rfl, hgb, d0, d1⟩ := held_pair (Held.ext H3E.out hE.out) htb
                  have hgd : bs.getD t (0, 0) = bs[t] := by simp [htb]
                  obtain ⟨y1, y2, hy⟩ : ∃ y1 y2, bs[t] = (y1, y2) := ⟨_, _, rfl⟩
                  rw [hgd, hy] at d0 d1
                  dsimp only at d0 d1
                  have c0 := HC0.out _ hE.out
                  have c1 := HC1.out _ hE.out
                  have he := eqRow (y1, y2) ((x1 : Int), x2)
                  dsimp only at he
                  have HY := Lib.hid hy
                  clear hgd hy
                  cases hbv with
                  | true =>
                    go_upto_region 19 with fail
                    go_quiet (fail)
                    go_wp2
                    go_roundw
                    case measure => simp [intOf]; omega
                    case rel =>
                      refine ⟨t + 1, true, by omega, by go_num, rfl, Lib.hid (bdrewN hE.out _), Lib.hid ⟨fun _ => ?_, fun _ => rfl⟩⟩
                      obtain ⟨u, hu, h1, h2⟩ := hH.out.1 rfl
                      exact ⟨u, hu, by omega, h2⟩
                  | false =>
                    by_cases hxy : ((y1, y2) : Int × Int) = ((x1 : Int), x2)
                    · rw [decide_eq_true hxy] at he
                      have HXY := Lib.hid hxy
                      clear hxy
                      go_upto_region 19 with fail
                      go_quiet (fail)
                      go_wp2
                      go_roundw
                      case measure => simp [intOf]; omega
                      case rel =>
                        refine ⟨t + 1, true, by omega, by go_num, rfl, Lib.hid (bdrewN hE.out _), Lib.hid ⟨fun _ => ⟨t, htb, by omega, by rw [HY.out, HXY.out]⟩, fun _ => rfl⟩⟩
                    · rw [decide_eq_false hxy] at he
                      have HXY := Lib.hid hxy
                      clear hxy
                      go_upto_region 19 with fail
                      go_quiet (fail)
                      go_wp2
                      go_roundw
                      case measure => simp [intOf]; omega
                      case rel =>
                        refine ⟨t + 1, false, by omega, by go_num, rfl, Lib.hid (bdrewN hE.out _), Lib.hid ⟨fun h => (by cases h), fun ⟨u, hu, h1, h2⟩ => ?_⟩⟩
                        by_cases e : u = t
                        · subst e
                          rw [HY.out] at h2
                          exact absurd h2 HXY.out
                        · exact hH.out.2 ⟨u, hu, by omega, h2⟩
                · have htz : ¬ (t : Int) < (m3 : Int) := by omega
                  obtain rfl : t = m3 := by omega
                  have hmb : hbv = true ↔ ((x1 : Int), x2) ∈ bs := by
                    rw [hH.out]
                    constructor
                    · rintro ⟨u, hu, _, h2⟩
                      rw [← h2]
                      exact List.getElem_mem hu
                    · intro h
                      obtain ⟨u, hu, h2⟩ := List.getElem_of_mem h
                      exact ⟨u, hu, by rw [HBL.out]; exact hu, h2⟩
                  have hnext : (sb || decide (kd = 1)) = true ↔ ∃ t, ∃ ht : t < ls.length, t < j + 1 ∧ kindOf cs ms (allNos cs ms) ls[t] = 1 := by
                    rw [Bool.or_eq_true, decide_eq_true_eq, hD.out]
                    constructor
                    · rintro (⟨t, ht, h1, h2⟩ | h)
                      · exact ⟨t, ht, by omega, h2⟩
                      · exact ⟨j, hjl, by omega, by rw [HKD.out]; exact h⟩
                    · rintro ⟨t, ht, h1, h2⟩
                      by_cases e : t = j
                      · subst e
                        rw [HKD.out] at h2
                        exact .inr h2
                      · exact .inl ⟨t, ht, by omega, h2⟩
                  have HNX := Lib.hid hnext
                  have HE9 := Lib.hid (HWE.out.trans hE.out)
                  have hk := HK3.out
                  rw [← hmb] at hk
                  clear hmb hnext hE hH
                  rcases hk with ⟨rfl, hk⟩ | rfl | ⟨rfl, hk⟩
                  · have hbf : hbv = false := by cases hbv; rfl; exact absurd rfl hk
                    subst hbf
                    clear hk
                    cases sb with
                    | true =>
                      go_wp2
                      go_roundw
                      case measure => simp [intOf]; omega
                      case rel => exact ⟨j + 1, true, by omega, by go_num, rfl, HE9, Lib.hid (by have := HNX.out; simpa using this)⟩
                    | false =>
                      go_wp2
                      go_roundw
                      case measure => simp [intOf]; omega
                      case rel => exact ⟨j + 1, false, by omega, by go_num, rfl, HE9, Lib.hid (by have := HNX.out; simpa using this)⟩
                  · cases sb with
                    | true =>
                      go_wp2
                      go_roundw
                      case measure => simp [intOf]; omega
                      case rel => exact ⟨j + 1, true, by omega, by go_num, rfl, HE9, Lib.hid (by have := HNX.out; simpa using this)⟩
                    | false =>
                      go_wp2
                      go_roundw
                      case measure => simp [intOf]; omega
                      case rel => exact ⟨j + 1, true, by omega, by go_num, rfl, HE9, Lib.hid (by have := HNX.out; simpa using this)⟩
                  · subst hk
                    cases sb with
                    | true =>
                      go_wp2
                      go_roundw
                      case measure => simp [intOf]; omega
                      case rel => exact ⟨j + 1, true, by omega, by go_num, rfl, HE9, Lib.hid (by have := HNX.out; simpa using this)⟩
                    | false =>
                      go_wp2
                      go_roundw
                      case measure => simp [intOf]; omega
                      case rel => exact ⟨j + 1, false, by omega, by go_num, rfl, HE9, Lib.hid (by have := HNX.out; simpa using this)⟩
            · have hjz : ¬ (j : Int) < (ls.length : Int) := by omega
              obtain rfl : j = ls.length := by omega
              have hsb : sb = b0 := by
                rw [← HB0.out, Bool.eq_iff_iff, decide_eq_true_eq, ← HS2.out, hD.out]
                constructor
                · rintro ⟨t, ht, _, h2⟩
                  exact ⟨_, by rw [HLS.out]; exact List.getElem_mem ht, h2⟩
                · rintro ⟨x, hx, h2⟩
                  rw [HLS.out] at hx
                  obtain ⟨t, ht, rfl⟩ := List.getElem_of_mem hx
                  exact ⟨t, ht, ht, h2⟩
              subst hsb
              have HE := Lib.hid (HE.out.trans hE.out)
              have hb0 := HB0.out
              clear hE hD
              by_cases h1a : 1 < a
              · have hsb2 : sb = true := by rw [← hb0]; simp [h1a]
                subst hsb2
                clear hb0
                go_wp2_with fail
                refine (works_any _).mono ?_
                rintro e w9 ⟨rfl, e9⟩
                have HE := Lib.hid (HE.out.trans e9)
                clear e9
                go_wp2
                go_ret
                exact ⟨rfl, HE.out⟩
              · have hsb2 : sb = decide (¬ (0 : Int) = 0) ∨ sb = true := by rw [← hb0]; simp [h1a]
                cases sb with
                | true =>
                  first
                  | (exfalso; simp [h1a] at hb0; done)
                  | (clear hb0 hsb2
                     go_wp2_with fail
                     refine (works_any _).mono ?_
                     rintro e w9 ⟨rfl, e9⟩
                     have HE := Lib.hid (HE.out.trans e9)
                     clear e9
                     go_wp2
                     go_ret
                     exact ⟨rfl, HE.out⟩)
                | false =>
                  first
                  | (exfalso; simp [h1a] at hb0; done)
                  | (clear hb0 hsb2
                     go_wp2_with fail
                     refine (works_any _).mono ?_
                     rintro e w9 ⟨rfl, e9⟩
                     have HE := Lib.hid (HE.out.trans e9)
                     clear e9
                     go_wp2
                     go_ret
                     exact ⟨rfl, HE.out⟩)
    · rw [hw]
      have hf19 : f = 19 := by
        have := HAF.out
        unfold countAns at this
        rw [if_neg (by rw [hw]; decide), hw] at this
        cases this
        rfl
      subst hf19
      go_wp2_with fail
      refine (works_any _).mono ?_
      rintro e w9 ⟨rfl, e9⟩
      have HE := Lib.hid (HE.out.trans e9)
      clear e9
      go_wp2
      go_ret
      exact ⟨rfl, HE.out⟩
  · rw [decide_eq_false h0] at h39
    clear h0
    go_wp2_with (fail)
    refine h39.mono ?_
    rintro e w1 ⟨rfl, e1⟩
    have HE := Lib.hid (HE.out.trans e1)
    clear e1 h39 q0 q1
    go_wp2_with fail
    refine (works_any _).mono ?_
    rintro e w9 ⟨rfl, e9⟩
    have HE := Lib.hid (HE.out.trans e9)
    clear e9
    go_wp2
    go_ret
    exact ⟨rfl, HE.out⟩
end Go.Proofs.Ytchmdkdiilaejaa
