/- Texts of one package, joined: KnownReg, KnownAll. -/
import Derived.Test.YtchmdkdiilaejaaC26
import Derived.Test.YtchmdkdiilaejaaC33
/- CombKnown: the regions of its calls. -/
namespace Go.Proofs.Ytchmdkdiilaejaa
open Go.RowKit Go.Shelf
attribute [local irreducible] bitCells fitCells Z94 fitOf

/-- The slots of region 2 of function 14. -/
def kk2D (i : Nat) : Tmp := if i = 0 then 17 else if i = 1 then 18 else if i = 2 then 19 else if i = 3 then 16 else if i = 4 then 20 else if i = 5 then 21 else if i = 6 then 2 else 3
/-- What each operation yields. -/
def kk2S (_p gg hq : Nat) (ix : Nat) (v : Value) (W : World) : Prop :=
  match ix with
  | 0 => v = shV gg hq
  | 1 => v = .agg #[.int .i64 1, .int .i64 21]
  | 2 => ∃ lv, v = .tuple #[lv, .int .i64 0] ∧ MadeInts 0 [2, 4] W lv
  | 3 => ∃ lv, v = .tuple #[lv, .int .i64 0] ∧ MadeInts 0 [2, 4] W lv
  | 4 => MadeInts 0 [2, 4] W v
  | 5 => v = .int .i64 0
  | 6 => MadeInts 0 [2, 4] W v
  | 7 => v = .int .i64 0
  | _ => True
noncomputable def kk2Reg : Array Oper := (Try.f14.body.bind (regionOf · 2)).getD #[]
theorem kk2S_ext {p gg hq : Nat} : ∀ (i : Nat) (v : Value) (W W' : World), kk2S p gg hq i v W → Below W.heap.size W W' → kk2S p gg hq i v W' := by
  intro i v W W' h e
  match i with
  | 0 => exact h
  | 1 => exact h
  | 2 => (obtain ⟨lv, h1, h2⟩ := h; exact ⟨lv, h1, h2.ext e⟩)
  | 3 => (obtain ⟨lv, h1, h2⟩ := h; exact ⟨lv, h1, h2.ext e⟩)
  | 4 => exact MadeInts.ext h e
  | 5 => exact h
  | 6 => exact MadeInts.ext h e
  | 7 => exact h
  | k + 8 => exact trivial
def kk2Ok (p gg hq : Nat) (Q : Exit → Act → World → Prop) (a : Act) (W : World) (ix : Nat) (o : Oper) : Prop :=
  (∀ j b, o.guard = some (j, b) → a.eval (.tmp (kk2D j)) = .bool b) ∧ o.wp Try.prog a W (fun a'' W' => ∃ v, a'' = a.put o.dst v ∧ kk2S p gg hq ix v W' ∧ Below W.heap.size W W') Q
section
variable {p gg hq : Nat} {Q : Exit → Act → World → Prop} {a : Act} {V W : World} {o : Oper}
set_option maxHeartbeats 1000000 in
theorem kk2_op0 (o1 : a.eval (.tmp 1) = .pointer (some ⟨p, 0, none⟩)) (q0 : ∀ W, Ext V W → W.cell? ⟨p, 0, none⟩ = some (.slice (some ⟨gg, 0, none⟩) 2 2)) (q1 : ∀ W, Ext V W → W.cell? ⟨p, 1, none⟩ = some (.slice (some ⟨hq, 0, none⟩) 5 5)) (hB : Ext V W) (ho : kk2Reg[0]? = some o) : kk2Ok p gg hq Q a W 0 o := by
  have hop := op_at ho (·.op) (x := Op.load 25 (Operand.tmp 1)) (by kernel_rfl)
  have hgd := op_at ho (·.guard) (x := none) (by kernel_rfl)
  refine ⟨fun j b h => (by rw [hgd] at h; cases h), ?_⟩
  have q0' := q0 W hB
  have q1' := q1 W hB
  exact specs_value (R := fun v W => kk2S p gg hq 0 v W) (v := shV gg hq) (by simp [execOp, hop, go_sem, ev o1, q0', q1', shV]) rfl (Ext.refl W)
set_option maxHeartbeats 1000000 in
theorem kk2_op1 (hB : Ext V W) (ho : kk2Reg[1]? = some o) : kk2Ok p gg hq Q a W 1 o := by
  have hop := op_at ho (·.op) (x := Op.call { callee := Callee.value (Operand.func 43), args := #[Operand.const (Value.int IntKind.i64 1), Operand.const (Value.int IntKind.i64 21)], argTypes := #[3, 2] }) (by kernel_rfl)
  have hgd := op_at ho (·.guard) (x := none) (by kernel_rfl)
  refine ⟨fun j b h => (by rw [hgd] at h; cases h), ?_⟩
  have hB' := hB
  refine specs_call (R := fun v W => kk2S p gg hq 1 v W) (f := 43) (args := #[.int .i64 1, .int .i64 21]) (by simp [execOp, hop, go_sem]) ((row_any 1 21 W).mono ?_)
  rintro e w' ⟨rfl, h3⟩
  exact ⟨_, rfl, rfl, h3⟩
set_option maxHeartbeats 1000000 in
theorem kk2_op2 (hcall : ∀ W, Ext V W → Calls Try.prog 17 #[shV gg hq, .agg #[.int .i64 1, .int .i64 21]] W fun e w' => ∃ v, e = .returned v ∧ (∃ lv, v = .tuple #[lv, .int .i64 0] ∧ MadeInts 0 [2, 4] w' lv) ∧ Ext W w') (hB : Ext V W) (haft : ∀ j, (o.after.any fun e => decide (e.on = j) && Region.binds .any e) = true → kk2S p gg hq j (a.eval (.tmp (kk2D j))) W) (ho : kk2Reg[2]? = some o) : kk2Ok p gg hq Q a W 2 o := by
  have hop := op_at ho (·.op) (x := Op.call { callee := Callee.value (Operand.func 17), args := #[Operand.tmp 17, Operand.tmp 18], argTypes := #[25, 27] }) (by kernel_rfl)
  have hgd := op_at ho (·.guard) (x := none) (by kernel_rfl)
  have e0 : a.eval (.tmp 17) = shV gg hq := haft 0 (op_at ho (fun o => o.after.any fun e => decide (e.on = 0) && Region.binds .any e) (x := true) (by kernel_rfl))
  have e1 : kk2S p gg hq 1 (a.eval (.tmp 18)) W := haft 1 (op_at ho (fun o => o.after.any fun e => decide (e.on = 1) && Region.binds .any e) (x := true) (by kernel_rfl))
  refine ⟨fun j b h => (by rw [hgd] at h; cases h), ?_⟩
  have eR : a.eval (.tmp 18) = .agg #[.int .i64 1, .int .i64 21] := e1
  refine specs_call (R := fun v W => kk2S p gg hq 2 v W) (f := 17) (args := #[shV gg hq, .agg #[.int .i64 1, .int .i64 21]]) (by simp [execOp, hop, go_sem, ev e0, ev eR]) ((hcall W hB).mono ?_)
  rintro e w' ⟨v, h1, h2, h3⟩
  exact ⟨v, h1, h2, h3⟩
set_option maxHeartbeats 1000000 in
theorem kk2_op3 (haft : ∀ j, (o.after.any fun e => decide (e.on = j) && Region.binds .any e) = true → kk2S p gg hq j (a.eval (.tmp (kk2D j))) W) (ho : kk2Reg[3]? = some o) : kk2Ok p gg hq Q a W 3 o := by
  have hop := op_at ho (·.op) (x := Op.move (Operand.tmp 19)) (by kernel_rfl)
  have hgd := op_at ho (·.guard) (x := none) (by kernel_rfl)
  have e2 : kk2S p gg hq 2 (a.eval (.tmp 19)) W := haft 2 (op_at ho (fun o => o.after.any fun e => decide (e.on = 2) && Region.binds .any e) (x := true) (by kernel_rfl))
  refine ⟨fun j b h => (by rw [hgd] at h; cases h), ?_⟩
  exact specs_value (R := fun v W => kk2S p gg hq 3 v W) (v := a.eval (.tmp 19)) (by simp [execOp, hop, go_sem]) e2 (Ext.refl W)
set_option maxHeartbeats 1000000 in
theorem kk2_op4 (haft : ∀ j, (o.after.any fun e => decide (e.on = j) && Region.binds .any e) = true → kk2S p gg hq j (a.eval (.tmp (kk2D j))) W) (ho : kk2Reg[4]? = some o) : kk2Ok p gg hq Q a W 4 o := by
  have hop := op_at ho (·.op) (x := Op.extract (Operand.tmp 16) 0) (by kernel_rfl)
  have hgd := op_at ho (·.guard) (x := none) (by kernel_rfl)
  have e3 : kk2S p gg hq 3 (a.eval (.tmp 16)) W := haft 3 (op_at ho (fun o => o.after.any fun e => decide (e.on = 3) && Region.binds .any e) (x := true) (by kernel_rfl))
  refine ⟨fun j b h => (by rw [hgd] at h; cases h), ?_⟩
  obtain ⟨lv, hv, hM⟩ := e3
  exact specs_value (R := fun v W => kk2S p gg hq 4 v W) (v := lv) (by simp [execOp, hop, go_sem, ev hv]) hM (Ext.refl W)
set_option maxHeartbeats 1000000 in
theorem kk2_op5 (haft : ∀ j, (o.after.any fun e => decide (e.on = j) && Region.binds .any e) = true → kk2S p gg hq j (a.eval (.tmp (kk2D j))) W) (ho : kk2Reg[5]? = some o) : kk2Ok p gg hq Q a W 5 o := by
  have hop := op_at ho (·.op) (x := Op.extract (Operand.tmp 16) 1) (by kernel_rfl)
  have hgd := op_at ho (·.guard) (x := none) (by kernel_rfl)
  have e3 : kk2S p gg hq 3 (a.eval (.tmp 16)) W := haft 3 (op_at ho (fun o => o.after.any fun e => decide (e.on = 3) && Region.binds .any e) (x := true) (by kernel_rfl))
  refine ⟨fun j b h => (by rw [hgd] at h; cases h), ?_⟩
  obtain ⟨lv, hv, hM⟩ := e3
  exact specs_value (R := fun v W => kk2S p gg hq 5 v W) (v := .int .i64 0) (by simp [execOp, hop, go_sem, ev hv]) rfl (Ext.refl W)
set_option maxHeartbeats 1000000 in
theorem kk2_op6 (haft : ∀ j, (o.after.any fun e => decide (e.on = j) && Region.binds .any e) = true → kk2S p gg hq j (a.eval (.tmp (kk2D j))) W) (ho : kk2Reg[6]? = some o) : kk2Ok p gg hq Q a W 6 o := by
  have hop := op_at ho (·.op) (x := Op.assign (Operand.tmp 20)) (by kernel_rfl)
  have hgd := op_at ho (·.guard) (x := none) (by kernel_rfl)
  have e4 : kk2S p gg hq 4 (a.eval (.tmp 20)) W := haft 4 (op_at ho (fun o => o.after.any fun e => decide (e.on = 4) && Region.binds .any e) (x := true) (by kernel_rfl))
  refine ⟨fun j b h => (by rw [hgd] at h; cases h), ?_⟩
  exact specs_value (R := fun v W => kk2S p gg hq 6 v W) (v := a.eval (.tmp 20)) (by simp [execOp, hop, go_sem]) e4 (Ext.refl W)
set_option maxHeartbeats 1000000 in
theorem kk2_op7 (haft : ∀ j, (o.after.any fun e => decide (e.on = j) && Region.binds .any e) = true → kk2S p gg hq j (a.eval (.tmp (kk2D j))) W) (ho : kk2Reg[7]? = some o) : kk2Ok p gg hq Q a W 7 o := by
  have hop := op_at ho (·.op) (x := Op.assign (Operand.tmp 21)) (by kernel_rfl)
  have hgd := op_at ho (·.guard) (x := none) (by kernel_rfl)
  have e5 : a.eval (.tmp 21) = .int .i64 0 := haft 5 (op_at ho (fun o => o.after.any fun e => decide (e.on = 5) && Region.binds .any e) (x := true) (by kernel_rfl))
  refine ⟨fun j b h => (by rw [hgd] at h; cases h), ?_⟩
  exact specs_value (R := fun v W => kk2S p gg hq 7 v W) (v := .int .i64 0) (by simp [execOp, hop, go_sem, ev e5]) rfl (Ext.refl W)
set_option maxRecDepth 100000 in
set_option maxHeartbeats 4000000 in
/-- Region 2 of function 14. -/
theorem kk2_wp {id : Nat} (hlen : a.tmps.size = 121) (o1 : a.eval (.tmp 1) = .pointer (some ⟨p, 0, none⟩)) (q0 : ∀ W, Ext V W → W.cell? ⟨p, 0, none⟩ = some (.slice (some ⟨gg, 0, none⟩) 2 2)) (q1 : ∀ W, Ext V W → W.cell? ⟨p, 1, none⟩ = some (.slice (some ⟨hq, 0, none⟩) 5 5)) (hcall : ∀ W, Ext V W → Calls Try.prog 17 #[shV gg hq, .agg #[.int .i64 1, .int .i64 21]] W fun e w' => ∃ v, e = .returned v ∧ (∃ lv, v = .tuple #[lv, .int .i64 0] ∧ MadeInts 0 [2, 4] w' lv) ∧ Ext W w') (K : (∀ W v1 v2 v3 v4 v6, Ext V W → kk2S p gg hq 1 v1 W → kk2S p gg hq 2 v2 W → kk2S p gg hq 3 v3 W → kk2S p gg hq 4 v4 W → kk2S p gg hq 6 v6 W → wpList Try.prog kk2Reg Q (kk2Reg.toList.drop 8) (puts a [(17, shV gg hq), (18, v1), (19, v2), (16, v3), (20, v4), (21, .int .i64 0), (2, v6), (3, .int .i64 0)]) W)) : (Code.region id kk2Reg true).wp Try.prog Q a V := by
  refine wp_region_specs_free (ops := kk2Reg) 8 (kk2S p gg hq) (Ext V) (by kernel_rfl) (by rw [hlen]; kernel_rfl) (by kernel_rfl) ⟨rfl, rfl, rfl, Nat.le_refl _, fun _ _ => rfl⟩ (fun _ _ h e => h.trans e) kk2S_ext kk2D (by kernel_rfl) ?_ ?_
  · intro i o hi ho a' W hB hsz hold haft
    match i, hi with
    | 0, _ => exact kk2_op0 ((hold 1 (by kernel_rfl)).trans o1) q0 q1 hB ho
    | 1, _ => exact kk2_op1 hB ho
    | 2, _ => exact kk2_op2 hcall hB haft ho
    | 3, _ => exact kk2_op3 haft ho
    | 4, _ => exact kk2_op4 haft ho
    | 5, _ => exact kk2_op5 haft ho
    | 6, _ => exact kk2_op6 haft ho
    | 7, _ => exact kk2_op7 haft ho
    | m + 8, h => exact absurd h (by omega)
  · intro a1 W hB hsz hdf hold hS
    obtain ⟨v1, g1⟩ : ∃ v, v = a1.eval (.tmp 18) := ⟨_, rfl⟩
    obtain ⟨v2, g2⟩ : ∃ v, v = a1.eval (.tmp 19) := ⟨_, rfl⟩
    obtain ⟨v3, g3⟩ : ∃ v, v = a1.eval (.tmp 16) := ⟨_, rfl⟩
    obtain ⟨v4, g4⟩ : ∃ v, v = a1.eval (.tmp 20) := ⟨_, rfl⟩
    obtain ⟨v6, g6⟩ : ∃ v, v = a1.eval (.tmp 2) := ⟨_, rfl⟩
    have hall : ∀ z, z ∈ ([(17, shV gg hq), (18, v1), (19, v2), (16, v3), (20, v4), (21, .int .i64 0), (2, v6), (3, .int .i64 0)] : List (Tmp × Value)) → z.1 < a.tmps.size ∧ a1.eval (.tmp z.1) = z.2 := by
      intro z hz
      rw [hlen]
      simp only [List.mem_cons, List.not_mem_nil, or_false] at hz
      rcases hz with rfl | rfl | rfl | rfl | rfl | rfl | rfl | rfl
      · exact ⟨(show (17 : Nat) < 121 by omega), hS 0 (by omega)⟩
      · exact ⟨(show (18 : Nat) < 121 by omega), g1.symm⟩
      · exact ⟨(show (19 : Nat) < 121 by omega), g2.symm⟩
      · exact ⟨(show (16 : Nat) < 121 by omega), g3.symm⟩
      · exact ⟨(show (20 : Nat) < 121 by omega), g4.symm⟩
      · exact ⟨(show (21 : Nat) < 121 by omega), hS 5 (by omega)⟩
      · exact ⟨(show (2 : Nat) < 121 by omega), g6.symm⟩
      · exact ⟨(show (3 : Nat) < 121 by omega), hS 7 (by omega)⟩
    have ha := act_puts hsz hdf hall (fun t ht => hold t (all_ne_of (l := [(17, shV gg hq), (18, v1), (19, v2), (16, v3), (20, v4), (21, .int .i64 0), (2, v6), (3, .int .i64 0)]) (by kernel_rfl) ht))
    rw [ha]
    exact K W v1 v2 v3 v4 v6 hB (by rw [g1]; exact hS 1 (by omega)) (by rw [g2]; exact hS 2 (by omega)) (by rw [g3]; exact hS 3 (by omega)) (by rw [g4]; exact hS 4 (by omega)) (by rw [g6]; exact hS 6 (by omega))
end

/-- The slots of region 7 of function 14. -/
def kk7D (i : Nat) : Tmp := if i = 0 then 41 else if i = 1 then 42 else if i = 2 then 43 else if i = 3 then 40 else if i = 4 then 44 else if i = 5 then 45 else if i = 6 then 10 else 11
/-- What each operation yields. -/
def kk7S (_p gg hq : Nat) (ix : Nat) (v : Value) (_W : World) : Prop :=
  match ix with
  | 0 => v = shV gg hq
  | 1 => v = .agg #[.int .i64 0, .int .i64 7]
  | 2 => v = .tuple #[.int .i64 0, .int .i64 0]
  | 3 => v = .tuple #[.int .i64 0, .int .i64 0]
  | 4 => v = .int .i64 0
  | 5 => v = .int .i64 0
  | 6 => v = .int .i64 0
  | 7 => v = .int .i64 0
  | _ => True
noncomputable def kk7Reg : Array Oper := (Try.f14.body.bind (regionOf · 7)).getD #[]
theorem kk7S_ext {p gg hq : Nat} : ∀ (i : Nat) (v : Value) (W W' : World), kk7S p gg hq i v W → Below W.heap.size W W' → kk7S p gg hq i v W' := by
  intro i v W W' h e
  match i with
  | 0 => exact h
  | 1 => exact h
  | 2 => exact h
  | 3 => exact h
  | 4 => exact h
  | 5 => exact h
  | 6 => exact h
  | 7 => exact h
  | k + 8 => exact trivial
def kk7Ok (p gg hq : Nat) (Q : Exit → Act → World → Prop) (a : Act) (W : World) (ix : Nat) (o : Oper) : Prop :=
  (∀ j b, o.guard = some (j, b) → a.eval (.tmp (kk7D j)) = .bool b) ∧ o.wp Try.prog a W (fun a'' W' => ∃ v, a'' = a.put o.dst v ∧ kk7S p gg hq ix v W' ∧ Below W.heap.size W W') Q
section
variable {p gg hq : Nat} {Q : Exit → Act → World → Prop} {a : Act} {V W : World} {o : Oper}
set_option maxHeartbeats 1000000 in
theorem kk7_op0 (o1 : a.eval (.tmp 1) = .pointer (some ⟨p, 0, none⟩)) (q0 : ∀ W, Ext V W → W.cell? ⟨p, 0, none⟩ = some (.slice (some ⟨gg, 0, none⟩) 2 2)) (q1 : ∀ W, Ext V W → W.cell? ⟨p, 1, none⟩ = some (.slice (some ⟨hq, 0, none⟩) 5 5)) (hB : Ext V W) (ho : kk7Reg[0]? = some o) : kk7Ok p gg hq Q a W 0 o := by
  have hop := op_at ho (·.op) (x := Op.load 25 (Operand.tmp 1)) (by kernel_rfl)
  have hgd := op_at ho (·.guard) (x := none) (by kernel_rfl)
  refine ⟨fun j b h => (by rw [hgd] at h; cases h), ?_⟩
  have q0' := q0 W hB
  have q1' := q1 W hB
  exact specs_value (R := fun v W => kk7S p gg hq 0 v W) (v := shV gg hq) (by simp [execOp, hop, go_sem, ev o1, q0', q1', shV]) rfl (Ext.refl W)
set_option maxHeartbeats 1000000 in
theorem kk7_op1 (hB : Ext V W) (ho : kk7Reg[1]? = some o) : kk7Ok p gg hq Q a W 1 o := by
  have hop := op_at ho (·.op) (x := Op.call { callee := Callee.value (Operand.func 43), args := #[Operand.const (Value.int IntKind.i64 0), Operand.const (Value.int IntKind.i64 7)], argTypes := #[3, 2] }) (by kernel_rfl)
  have hgd := op_at ho (·.guard) (x := none) (by kernel_rfl)
  refine ⟨fun j b h => (by rw [hgd] at h; cases h), ?_⟩
  have hB' := hB
  refine specs_call (R := fun v W => kk7S p gg hq 1 v W) (f := 43) (args := #[.int .i64 0, .int .i64 7]) (by simp [execOp, hop, go_sem]) ((row_any 0 7 W).mono ?_)
  rintro e w' ⟨rfl, h3⟩
  exact ⟨_, rfl, rfl, h3⟩
set_option maxHeartbeats 1000000 in
theorem kk7_op2 (hcall : ∀ W, Ext V W → Calls Try.prog 32 #[shV gg hq, .agg #[.int .i64 0, .int .i64 7]] W fun e w' => ∃ v, e = .returned v ∧ (v = .tuple #[.int .i64 0, .int .i64 0]) ∧ Ext W w') (hB : Ext V W) (haft : ∀ j, (o.after.any fun e => decide (e.on = j) && Region.binds .any e) = true → kk7S p gg hq j (a.eval (.tmp (kk7D j))) W) (ho : kk7Reg[2]? = some o) : kk7Ok p gg hq Q a W 2 o := by
  have hop := op_at ho (·.op) (x := Op.call { callee := Callee.value (Operand.func 32), args := #[Operand.tmp 41, Operand.tmp 42], argTypes := #[25, 27] }) (by kernel_rfl)
  have hgd := op_at ho (·.guard) (x := none) (by kernel_rfl)
  have e0 : a.eval (.tmp 41) = shV gg hq := haft 0 (op_at ho (fun o => o.after.any fun e => decide (e.on = 0) && Region.binds .any e) (x := true) (by kernel_rfl))
  have e1 : kk7S p gg hq 1 (a.eval (.tmp 42)) W := haft 1 (op_at ho (fun o => o.after.any fun e => decide (e.on = 1) && Region.binds .any e) (x := true) (by kernel_rfl))
  refine ⟨fun j b h => (by rw [hgd] at h; cases h), ?_⟩
  have eR : a.eval (.tmp 42) = .agg #[.int .i64 0, .int .i64 7] := e1
  refine specs_call (R := fun v W => kk7S p gg hq 2 v W) (f := 32) (args := #[shV gg hq, .agg #[.int .i64 0, .int .i64 7]]) (by simp [execOp, hop, go_sem, ev e0, ev eR]) ((hcall W hB).mono ?_)
  rintro e w' ⟨v, h1, h2, h3⟩
  exact ⟨v, h1, h2, h3⟩
set_option maxHeartbeats 1000000 in
theorem kk7_op3 (haft : ∀ j, (o.after.any fun e => decide (e.on = j) && Region.binds .any e) = true → kk7S p gg hq j (a.eval (.tmp (kk7D j))) W) (ho : kk7Reg[3]? = some o) : kk7Ok p gg hq Q a W 3 o := by
  have hop := op_at ho (·.op) (x := Op.move (Operand.tmp 43)) (by kernel_rfl)
  have hgd := op_at ho (·.guard) (x := none) (by kernel_rfl)
  have e2 : kk7S p gg hq 2 (a.eval (.tmp 43)) W := haft 2 (op_at ho (fun o => o.after.any fun e => decide (e.on = 2) && Region.binds .any e) (x := true) (by kernel_rfl))
  refine ⟨fun j b h => (by rw [hgd] at h; cases h), ?_⟩
  have eR : a.eval (.tmp 43) = .tuple #[.int .i64 0, .int .i64 0] := e2
  exact specs_value (R := fun v W => kk7S p gg hq 3 v W) (v := .tuple #[.int .i64 0, .int .i64 0]) (by simp [execOp, hop, go_sem, ev eR]) rfl (Ext.refl W)
set_option maxHeartbeats 1000000 in
theorem kk7_op4 (haft : ∀ j, (o.after.any fun e => decide (e.on = j) && Region.binds .any e) = true → kk7S p gg hq j (a.eval (.tmp (kk7D j))) W) (ho : kk7Reg[4]? = some o) : kk7Ok p gg hq Q a W 4 o := by
  have hop := op_at ho (·.op) (x := Op.extract (Operand.tmp 40) 0) (by kernel_rfl)
  have hgd := op_at ho (·.guard) (x := none) (by kernel_rfl)
  have e3 : a.eval (.tmp 40) = .tuple #[.int .i64 0, .int .i64 0] := haft 3 (op_at ho (fun o => o.after.any fun e => decide (e.on = 3) && Region.binds .any e) (x := true) (by kernel_rfl))
  refine ⟨fun j b h => (by rw [hgd] at h; cases h), ?_⟩
  exact specs_value (R := fun v W => kk7S p gg hq 4 v W) (v := .int .i64 0) (by simp [execOp, hop, go_sem, ev e3]) rfl (Ext.refl W)
set_option maxHeartbeats 1000000 in
theorem kk7_op5 (haft : ∀ j, (o.after.any fun e => decide (e.on = j) && Region.binds .any e) = true → kk7S p gg hq j (a.eval (.tmp (kk7D j))) W) (ho : kk7Reg[5]? = some o) : kk7Ok p gg hq Q a W 5 o := by
  have hop := op_at ho (·.op) (x := Op.extract (Operand.tmp 40) 1) (by kernel_rfl)
  have hgd := op_at ho (·.guard) (x := none) (by kernel_rfl)
  have e3 : a.eval (.tmp 40) = .tuple #[.int .i64 0, .int .i64 0] := haft 3 (op_at ho (fun o => o.after.any fun e => decide (e.on = 3) && Region.binds .any e) (x := true) (by kernel_rfl))
  refine ⟨fun j b h => (by rw [hgd] at h; cases h), ?_⟩
  exact specs_value (R := fun v W => kk7S p gg hq 5 v W) (v := .int .i64 0) (by simp [execOp, hop, go_sem, ev e3]) rfl (Ext.refl W)
set_option maxHeartbeats 1000000 in
theorem kk7_op6 (haft : ∀ j, (o.after.any fun e => decide (e.on = j) && Region.binds .any e) = true → kk7S p gg hq j (a.eval (.tmp (kk7D j))) W) (ho : kk7Reg[6]? = some o) : kk7Ok p gg hq Q a W 6 o := by
  have hop := op_at ho (·.op) (x := Op.assign (Operand.tmp 44)) (by kernel_rfl)
  have hgd := op_at ho (·.guard) (x := none) (by kernel_rfl)
  have e4 : a.eval (.tmp 44) = .int .i64 0 := haft 4 (op_at ho (fun o => o.after.any fun e => decide (e.on = 4) && Region.binds .any e) (x := true) (by kernel_rfl))
  refine ⟨fun j b h => (by rw [hgd] at h; cases h), ?_⟩
  exact specs_value (R := fun v W => kk7S p gg hq 6 v W) (v := .int .i64 0) (by simp [execOp, hop, go_sem, ev e4]) rfl (Ext.refl W)
set_option maxHeartbeats 1000000 in
theorem kk7_op7 (haft : ∀ j, (o.after.any fun e => decide (e.on = j) && Region.binds .any e) = true → kk7S p gg hq j (a.eval (.tmp (kk7D j))) W) (ho : kk7Reg[7]? = some o) : kk7Ok p gg hq Q a W 7 o := by
  have hop := op_at ho (·.op) (x := Op.assign (Operand.tmp 45)) (by kernel_rfl)
  have hgd := op_at ho (·.guard) (x := none) (by kernel_rfl)
  have e5 : a.eval (.tmp 45) = .int .i64 0 := haft 5 (op_at ho (fun o => o.after.any fun e => decide (e.on = 5) && Region.binds .any e) (x := true) (by kernel_rfl))
  refine ⟨fun j b h => (by rw [hgd] at h; cases h), ?_⟩
  exact specs_value (R := fun v W => kk7S p gg hq 7 v W) (v := .int .i64 0) (by simp [execOp, hop, go_sem, ev e5]) rfl (Ext.refl W)
set_option maxRecDepth 100000 in
set_option maxHeartbeats 4000000 in
/-- Region 7 of function 14. -/
theorem kk7_wp {id : Nat} (hlen : a.tmps.size = 121) (o1 : a.eval (.tmp 1) = .pointer (some ⟨p, 0, none⟩)) (q0 : ∀ W, Ext V W → W.cell? ⟨p, 0, none⟩ = some (.slice (some ⟨gg, 0, none⟩) 2 2)) (q1 : ∀ W, Ext V W → W.cell? ⟨p, 1, none⟩ = some (.slice (some ⟨hq, 0, none⟩) 5 5)) (hcall : ∀ W, Ext V W → Calls Try.prog 32 #[shV gg hq, .agg #[.int .i64 0, .int .i64 7]] W fun e w' => ∃ v, e = .returned v ∧ (v = .tuple #[.int .i64 0, .int .i64 0]) ∧ Ext W w') (K : (∀ W v1 v2, Ext V W → kk7S p gg hq 1 v1 W → kk7S p gg hq 2 v2 W → wpList Try.prog kk7Reg Q (kk7Reg.toList.drop 8) (puts a [(41, shV gg hq), (42, v1), (43, v2), (40, .tuple #[.int .i64 0, .int .i64 0]), (44, .int .i64 0), (45, .int .i64 0), (10, .int .i64 0), (11, .int .i64 0)]) W)) : (Code.region id kk7Reg true).wp Try.prog Q a V := by
  refine wp_region_specs_free (ops := kk7Reg) 8 (kk7S p gg hq) (Ext V) (by kernel_rfl) (by rw [hlen]; kernel_rfl) (by kernel_rfl) ⟨rfl, rfl, rfl, Nat.le_refl _, fun _ _ => rfl⟩ (fun _ _ h e => h.trans e) kk7S_ext kk7D (by kernel_rfl) ?_ ?_
  · intro i o hi ho a' W hB hsz hold haft
    match i, hi with
    | 0, _ => exact kk7_op0 ((hold 1 (by kernel_rfl)).trans o1) q0 q1 hB ho
    | 1, _ => exact kk7_op1 hB ho
    | 2, _ => exact kk7_op2 hcall hB haft ho
    | 3, _ => exact kk7_op3 haft ho
    | 4, _ => exact kk7_op4 haft ho
    | 5, _ => exact kk7_op5 haft ho
    | 6, _ => exact kk7_op6 haft ho
    | 7, _ => exact kk7_op7 haft ho
    | m + 8, h => exact absurd h (by omega)
  · intro a1 W hB hsz hdf hold hS
    obtain ⟨v1, g1⟩ : ∃ v, v = a1.eval (.tmp 42) := ⟨_, rfl⟩
    obtain ⟨v2, g2⟩ : ∃ v, v = a1.eval (.tmp 43) := ⟨_, rfl⟩
    have hall : ∀ z, z ∈ ([(41, shV gg hq), (42, v1), (43, v2), (40, .tuple #[.int .i64 0, .int .i64 0]), (44, .int .i64 0), (45, .int .i64 0), (10, .int .i64 0), (11, .int .i64 0)] : List (Tmp × Value)) → z.1 < a.tmps.size ∧ a1.eval (.tmp z.1) = z.2 := by
      intro z hz
      rw [hlen]
      simp only [List.mem_cons, List.not_mem_nil, or_false] at hz
      rcases hz with rfl | rfl | rfl | rfl | rfl | rfl | rfl | rfl
      · exact ⟨(show (41 : Nat) < 121 by omega), hS 0 (by omega)⟩
      · exact ⟨(show (42 : Nat) < 121 by omega), g1.symm⟩
      · exact ⟨(show (43 : Nat) < 121 by omega), g2.symm⟩
      · exact ⟨(show (40 : Nat) < 121 by omega), hS 3 (by omega)⟩
      · exact ⟨(show (44 : Nat) < 121 by omega), hS 4 (by omega)⟩
      · exact ⟨(show (45 : Nat) < 121 by omega), hS 5 (by omega)⟩
      · exact ⟨(show (10 : Nat) < 121 by omega), hS 6 (by omega)⟩
      · exact ⟨(show (11 : Nat) < 121 by omega), hS 7 (by omega)⟩
    have ha := act_puts hsz hdf hall (fun t ht => hold t (all_ne_of (l := [(41, shV gg hq), (42, v1), (43, v2), (40, .tuple #[.int .i64 0, .int .i64 0]), (44, .int .i64 0), (45, .int .i64 0), (10, .int .i64 0), (11, .int .i64 0)]) (by kernel_rfl) ht))
    rw [ha]
    exact K W v1 v2 hB (by rw [g1]; exact hS 1 (by omega)) (by rw [g2]; exact hS 2 (by omega))
end

/-- The slots of region 5 of function 14. -/
def kk5D (i : Nat) : Tmp := if i = 0 then 32 else if i = 1 then 33 else if i = 2 then 34 else if i = 3 then 35 else if i = 4 then 36 else 8
/-- What each operation yields. -/
def kk5S (_p gg hq : Nat) (ix : Nat) (v : Value) (W : World) : Prop :=
  match ix with
  | 0 => v = shV gg hq
  | 1 => v = .agg #[.int .i64 0, .int .i64 5]
  | 2 => v = .agg #[.int .i64 1, .int .i64 20]
  | 3 => ∃ b, v = .slice (some ⟨b, 0, none⟩) 2 2 ∧ W.heap[b]? = some (.cells #[.int .i64 0, .int .i64 5, .int .i64 1, .int .i64 20] 27 (0, 0))
  | 4 => v = .int .i64 0
  | 5 => v = .int .i64 0
  | _ => True
noncomputable def kk5Reg : Array Oper := (Try.f14.body.bind (regionOf · 5)).getD #[]
theorem kk5S_ext {p gg hq : Nat} : ∀ (i : Nat) (v : Value) (W W' : World), kk5S p gg hq i v W → Below W.heap.size W W' → kk5S p gg hq i v W' := by
  intro i v W W' h e
  match i with
  | 0 => exact h
  | 1 => exact h
  | 2 => exact h
  | 3 => (obtain ⟨b, h1, h2⟩ := h; exact ⟨b, h1, row_ext h2 e⟩)
  | 4 => exact h
  | 5 => exact h
  | k + 6 => exact trivial
def kk5Ok (p gg hq : Nat) (Q : Exit → Act → World → Prop) (a : Act) (W : World) (ix : Nat) (o : Oper) : Prop :=
  (∀ j b, o.guard = some (j, b) → a.eval (.tmp (kk5D j)) = .bool b) ∧ o.wp Try.prog a W (fun a'' W' => ∃ v, a'' = a.put o.dst v ∧ kk5S p gg hq ix v W' ∧ Below W.heap.size W W') Q
section
variable {p gg hq : Nat} {Q : Exit → Act → World → Prop} {a : Act} {V W : World} {o : Oper}
set_option maxHeartbeats 1000000 in
theorem kk5_op0 (o1 : a.eval (.tmp 1) = .pointer (some ⟨p, 0, none⟩)) (q0 : ∀ W, Ext V W → W.cell? ⟨p, 0, none⟩ = some (.slice (some ⟨gg, 0, none⟩) 2 2)) (q1 : ∀ W, Ext V W → W.cell? ⟨p, 1, none⟩ = some (.slice (some ⟨hq, 0, none⟩) 5 5)) (hB : Ext V W) (ho : kk5Reg[0]? = some o) : kk5Ok p gg hq Q a W 0 o := by
  have hop := op_at ho (·.op) (x := Op.load 25 (Operand.tmp 1)) (by kernel_rfl)
  have hgd := op_at ho (·.guard) (x := none) (by kernel_rfl)
  refine ⟨fun j b h => (by rw [hgd] at h; cases h), ?_⟩
  have q0' := q0 W hB
  have q1' := q1 W hB
  exact specs_value (R := fun v W => kk5S p gg hq 0 v W) (v := shV gg hq) (by simp [execOp, hop, go_sem, ev o1, q0', q1', shV]) rfl (Ext.refl W)
set_option maxHeartbeats 1000000 in
theorem kk5_op1 (hB : Ext V W) (ho : kk5Reg[1]? = some o) : kk5Ok p gg hq Q a W 1 o := by
  have hop := op_at ho (·.op) (x := Op.call { callee := Callee.value (Operand.func 43), args := #[Operand.const (Value.int IntKind.i64 0), Operand.const (Value.int IntKind.i64 5)], argTypes := #[3, 2] }) (by kernel_rfl)
  have hgd := op_at ho (·.guard) (x := none) (by kernel_rfl)
  refine ⟨fun j b h => (by rw [hgd] at h; cases h), ?_⟩
  have hB' := hB
  refine specs_call (R := fun v W => kk5S p gg hq 1 v W) (f := 43) (args := #[.int .i64 0, .int .i64 5]) (by simp [execOp, hop, go_sem]) ((row_any 0 5 W).mono ?_)
  rintro e w' ⟨rfl, h3⟩
  exact ⟨_, rfl, rfl, h3⟩
set_option maxHeartbeats 1000000 in
theorem kk5_op2 (hB : Ext V W) (ho : kk5Reg[2]? = some o) : kk5Ok p gg hq Q a W 2 o := by
  have hop := op_at ho (·.op) (x := Op.call { callee := Callee.value (Operand.func 43), args := #[Operand.const (Value.int IntKind.i64 1), Operand.const (Value.int IntKind.i64 20)], argTypes := #[3, 2] }) (by kernel_rfl)
  have hgd := op_at ho (·.guard) (x := none) (by kernel_rfl)
  refine ⟨fun j b h => (by rw [hgd] at h; cases h), ?_⟩
  have hB' := hB
  refine specs_call (R := fun v W => kk5S p gg hq 2 v W) (f := 43) (args := #[.int .i64 1, .int .i64 20]) (by simp [execOp, hop, go_sem]) ((row_any 1 20 W).mono ?_)
  rintro e w' ⟨rfl, h3⟩
  exact ⟨_, rfl, rfl, h3⟩
set_option maxHeartbeats 1000000 in
theorem kk5_op3 (haft : ∀ j, (o.after.any fun e => decide (e.on = j) && Region.binds .any e) = true → kk5S p gg hq j (a.eval (.tmp (kk5D j))) W) (ho : kk5Reg[3]? = some o) : kk5Ok p gg hq Q a W 3 o := by
  have hop := op_at ho (·.op) (x := Op.buildSlice 54 2 #[(0, Operand.tmp 33), (1, Operand.tmp 34)]) (by kernel_rfl)
  have hgd := op_at ho (·.guard) (x := none) (by kernel_rfl)
  have e1 : kk5S p gg hq 1 (a.eval (.tmp 33)) W := haft 1 (op_at ho (fun o => o.after.any fun e => decide (e.on = 1) && Region.binds .any e) (x := true) (by kernel_rfl))
  have e2 : kk5S p gg hq 2 (a.eval (.tmp 34)) W := haft 2 (op_at ho (fun o => o.after.any fun e => decide (e.on = 2) && Region.binds .any e) (x := true) (by kernel_rfl))
  refine ⟨fun j b h => (by rw [hgd] at h; cases h), ?_⟩
  have eA : a.eval (.tmp 33) = .agg #[.int .i64 0, .int .i64 5] := e1
  have eC : a.eval (.tmp 34) = .agg #[.int .i64 1, .int .i64 20] := e2
  exact specs_value (R := fun v W => kk5S p gg hq 3 v W) (v := .slice (some ⟨W.heap.size, 0, none⟩) 2 2) (W' := W.alloc (.cells #[.int .i64 0, .int .i64 5, .int .i64 1, .int .i64 20] 27)) (by simp [execOp, hop, go_sem, ev eA, ev eC]) ⟨_, rfl, row_last _ _ _ rfl⟩ (ext_alloc _ _)
set_option maxHeartbeats 1000000 in
theorem kk5_op4 (hcall : ∀ W b, Ext V W → W.heap[b]? = some (.cells #[.int .i64 0, .int .i64 5, .int .i64 1, .int .i64 20] 27 (0, 0)) → Calls Try.prog 41 #[shV gg hq, .slice (some ⟨b, 0, none⟩) 2 2] W fun e w' => e = .returned (.int .i64 0) ∧ Ext W w') (hB : Ext V W) (haft : ∀ j, (o.after.any fun e => decide (e.on = j) && Region.binds .any e) = true → kk5S p gg hq j (a.eval (.tmp (kk5D j))) W) (ho : kk5Reg[4]? = some o) : kk5Ok p gg hq Q a W 4 o := by
  have hop := op_at ho (·.op) (x := Op.call { callee := Callee.value (Operand.func 41), args := #[Operand.tmp 32, Operand.tmp 35], argTypes := #[25, 54] }) (by kernel_rfl)
  have hgd := op_at ho (·.guard) (x := none) (by kernel_rfl)
  have e0 : a.eval (.tmp 32) = shV gg hq := haft 0 (op_at ho (fun o => o.after.any fun e => decide (e.on = 0) && Region.binds .any e) (x := true) (by kernel_rfl))
  have e3 : kk5S p gg hq 3 (a.eval (.tmp 35)) W := haft 3 (op_at ho (fun o => o.after.any fun e => decide (e.on = 3) && Region.binds .any e) (x := true) (by kernel_rfl))
  refine ⟨fun j b h => (by rw [hgd] at h; cases h), ?_⟩
  have hB' := hB
  obtain ⟨b, hv, hr⟩ := e3
  refine specs_call (R := fun v W => kk5S p gg hq 4 v W) (f := 41) (args := #[shV gg hq, .slice (some ⟨b, 0, none⟩) 2 2]) (by simp [execOp, hop, go_sem, ev e0, ev hv]) ((hcall W b hB hr).mono ?_)
  rintro e w' ⟨rfl, h3⟩
  exact ⟨_, rfl, rfl, h3⟩
set_option maxHeartbeats 1000000 in
theorem kk5_op5 (haft : ∀ j, (o.after.any fun e => decide (e.on = j) && Region.binds .any e) = true → kk5S p gg hq j (a.eval (.tmp (kk5D j))) W) (ho : kk5Reg[5]? = some o) : kk5Ok p gg hq Q a W 5 o := by
  have hop := op_at ho (·.op) (x := Op.assign (Operand.tmp 36)) (by kernel_rfl)
  have hgd := op_at ho (·.guard) (x := none) (by kernel_rfl)
  have e4 : kk5S p gg hq 4 (a.eval (.tmp 36)) W := haft 4 (op_at ho (fun o => o.after.any fun e => decide (e.on = 4) && Region.binds .any e) (x := true) (by kernel_rfl))
  refine ⟨fun j b h => (by rw [hgd] at h; cases h), ?_⟩
  have eR : a.eval (.tmp 36) = .int .i64 0 := e4
  exact specs_value (R := fun v W => kk5S p gg hq 5 v W) (v := .int .i64 0) (by simp [execOp, hop, go_sem, ev eR]) rfl (Ext.refl W)
set_option maxRecDepth 100000 in
set_option maxHeartbeats 4000000 in
/-- Region 5 of function 14. -/
theorem kk5_wp {id : Nat} (hlen : a.tmps.size = 121) (o1 : a.eval (.tmp 1) = .pointer (some ⟨p, 0, none⟩)) (q0 : ∀ W, Ext V W → W.cell? ⟨p, 0, none⟩ = some (.slice (some ⟨gg, 0, none⟩) 2 2)) (q1 : ∀ W, Ext V W → W.cell? ⟨p, 1, none⟩ = some (.slice (some ⟨hq, 0, none⟩) 5 5)) (hcall : ∀ W b, Ext V W → W.heap[b]? = some (.cells #[.int .i64 0, .int .i64 5, .int .i64 1, .int .i64 20] 27 (0, 0)) → Calls Try.prog 41 #[shV gg hq, .slice (some ⟨b, 0, none⟩) 2 2] W fun e w' => e = .returned (.int .i64 0) ∧ Ext W w') (K : (∀ W v1 v2 v3 v4, Ext V W → kk5S p gg hq 1 v1 W → kk5S p gg hq 2 v2 W → kk5S p gg hq 3 v3 W → kk5S p gg hq 4 v4 W → wpList Try.prog kk5Reg Q (kk5Reg.toList.drop 6) (puts a [(32, shV gg hq), (33, v1), (34, v2), (35, v3), (36, v4), (8, .int .i64 0)]) W)) : (Code.region id kk5Reg true).wp Try.prog Q a V := by
  refine wp_region_specs_free (ops := kk5Reg) 6 (kk5S p gg hq) (Ext V) (by kernel_rfl) (by rw [hlen]; kernel_rfl) (by kernel_rfl) ⟨rfl, rfl, rfl, Nat.le_refl _, fun _ _ => rfl⟩ (fun _ _ h e => h.trans e) kk5S_ext kk5D (by kernel_rfl) ?_ ?_
  · intro i o hi ho a' W hB hsz hold haft
    match i, hi with
    | 0, _ => exact kk5_op0 ((hold 1 (by kernel_rfl)).trans o1) q0 q1 hB ho
    | 1, _ => exact kk5_op1 hB ho
    | 2, _ => exact kk5_op2 hB ho
    | 3, _ => exact kk5_op3 haft ho
    | 4, _ => exact kk5_op4 hcall hB haft ho
    | 5, _ => exact kk5_op5 haft ho
    | m + 6, h => exact absurd h (by omega)
  · intro a1 W hB hsz hdf hold hS
    obtain ⟨v1, g1⟩ : ∃ v, v = a1.eval (.tmp 33) := ⟨_, rfl⟩
    obtain ⟨v2, g2⟩ : ∃ v, v = a1.eval (.tmp 34) := ⟨_, rfl⟩
    obtain ⟨v3, g3⟩ : ∃ v, v = a1.eval (.tmp 35) := ⟨_, rfl⟩
    obtain ⟨v4, g4⟩ : ∃ v, v = a1.eval (.tmp 36) := ⟨_, rfl⟩
    have hall : ∀ z, z ∈ ([(32, shV gg hq), (33, v1), (34, v2), (35, v3), (36, v4), (8, .int .i64 0)] : List (Tmp × Value)) → z.1 < a.tmps.size ∧ a1.eval (.tmp z.1) = z.2 := by
      intro z hz
      rw [hlen]
      simp only [List.mem_cons, List.not_mem_nil, or_false] at hz
      rcases hz with rfl | rfl | rfl | rfl | rfl | rfl
      · exact ⟨(show (32 : Nat) < 121 by omega), hS 0 (by omega)⟩
      · exact ⟨(show (33 : Nat) < 121 by omega), g1.symm⟩
      · exact ⟨(show (34 : Nat) < 121 by omega), g2.symm⟩
      · exact ⟨(show (35 : Nat) < 121 by omega), g3.symm⟩
      · exact ⟨(show (36 : Nat) < 121 by omega), g4.symm⟩
      · exact ⟨(show (8 : Nat) < 121 by omega), hS 5 (by omega)⟩
    have ha := act_puts hsz hdf hall (fun t ht => hold t (all_ne_of (l := [(32, shV gg hq), (33, v1), (34, v2), (35, v3), (36, v4), (8, .int .i64 0)]) (by kernel_rfl) ht))
    rw [ha]
    exact K W v1 v2 v3 v4 hB (by rw [g1]; exact hS 1 (by omega)) (by rw [g2]; exact hS 2 (by omega)) (by rw [g3]; exact hS 3 (by omega)) (by rw [g4]; exact hS 4 (by omega))
end

theorem kFit21 : fitFor SC SM (1, 21) = some (1, 21) := by unfold fitFor; rw [kFits]; kernel_rfl
theorem kHas21 : hasOf SC SM (1, 21) = [2, 4] ∧ hasErr SC SM (1, 21) = 0 := by
  constructor
  · unfold hasOf; rw [kFit21]; kernel_rfl
  · unfold hasErr
    rw [if_pos kSheet, if_neg (by decide), kFit21, if_neg (by simp)]
theorem kPlaces0 : placesOf 0 (fitsOf SC SM) = [5, 15] ∧ placesErr SC SM 0 = 0 := by
  constructor
  · rw [kFits]; kernel_rfl
  · unfold placesErr
    rw [if_pos kSheet, if_neg (by decide)]
theorem kApart12 : apartErr SC SM [1, 2] = 0 := by
  unfold apartErr
  rw [if_pos kSheet, if_pos (by decide), if_pos]
  rw [apartB_fits kFits]
  decide
theorem kKind7 : kindAns SC SM (0, 7) = (0, 0) := by
  have h : fitFor SC SM (0, 7) = none := by unfold fitFor; rw [kFits]; kernel_rfl
  unfold kindAns
  rw [if_pos kSheet, if_neg (by decide), kLost, h]
  rfl
abbrev spK : List (Int × Int × Int) := [(7, 3, 3), (8, 2, 3), (9, 1, 3), (10, 0, 3), (11, 0, 2), (12, 0, 1), (13, 0, 0)]
theorem kSpaces2 : spacesTo [(0, 3), (10, 13)] 50 = spK ∧ spacesErr [(0, 3), (10, 13)] = 0 := ⟨by kernel_rfl, by decide⟩
theorem flatD_at : ∀ (r : List (Int × Int × Int)) (j : Nat), (r.flatMap encD)[j]? = (r[j / 3]?).bind fun x => (encD x)[j % 3]?
  | [], j => by simp
  | x :: r, 0 => by simp [encD]
  | x :: r, 1 => by simp [encD]
  | x :: r, 2 => by simp [encD]
  | x :: r, j + 3 => by
    rw [List.flatMap_cons, show (j + 3) / 3 = j / 3 + 1 from by omega, show (j + 3) % 3 = j % 3 from by omega, List.getElem?_cons_succ, ← flatD_at r j]
    simp [encD]
theorem held_rowD {w : World} {g : Nat} {t : TypeId} {cs : Array Value} {xs : List (Int × Int × Int)} (hg : w.heap[g]? = some (.cells cs t (0, 0))) (hcs : cs.toList = xs.flatMap encD) : Held w w.heap.size 3 encD (some ⟨g, 0, none⟩) xs := by
  refine .inr ⟨g, 0, rfl, (Array.getElem?_eq_some_iff.1 hg).1, fun j x hx i v hv => ?_⟩
  have hi : i < 3 := by have := (List.getElem?_eq_some_iff.1 hv).1; simpa [encD] using this
  refine (cell_of_row _ _ _ _ _ _ hg).trans ?_
  rw [← Array.getElem?_toList, hcs, flatD_at, show (0 + j * 3 + i) / 3 = j from by omega, show (0 + j * 3 + i) % 3 = i from by omega, hx]
  exact hv
end Go.Proofs.Ytchmdkdiilaejaa

/- CombKnown, walked. -/
namespace Go.Proofs.Ytchmdkdiilaejaa
open Go.RowKit Go.Shelf
attribute [local irreducible] bitCells fitCells Z94 fitOf

set_option maxRecDepth 100000 in
set_option maxHeartbeats 8000000 in
theorem known_any (w : World) : Calls Try.prog 14 #[] w fun e w' => e = .returned (.bool true) ∧ Ext w w' := by
  have hs1 := sheet_any w
  go_enter Try.func14, Try.ntmps14
  go_wp2_with (fail)
  refine hs1.mono ?_
  rintro e w1 ⟨g, h, rfl, e1, hg, hh, r1, r2⟩
  clear hs1
  have eA : Ext w1 (w1.alloc (.cells #[.slice (some ⟨g, 0, none⟩) 2 2, .slice (some ⟨h, 0, none⟩) 5 5] 25)) := ext_alloc _ _
  have hp : (w1.alloc (.cells #[.slice (some ⟨g, 0, none⟩) 2 2, .slice (some ⟨h, 0, none⟩) 5 5] 25)).heap[w1.heap.size]? = some (.cells #[.slice (some ⟨g, 0, none⟩) 2 2, .slice (some ⟨h, 0, none⟩) 5 5] 25 (0, 0)) := row_last _ _ _ rfl
  have hS : SheetAt (w1.alloc (.cells #[.slice (some ⟨g, 0, none⟩) 2 2, .slice (some ⟨h, 0, none⟩) 5 5] 25)) w1.heap.size (some ⟨g, 0, none⟩) 2 2 (some ⟨h, 0, none⟩) 5 5 SC SM := ⟨hp, sheet_is (row_ext r1 eA) (row_ext r2 eA)⟩
  have hE : Ext w (w1.alloc (.cells #[.slice (some ⟨g, 0, none⟩) 2 2, .slice (some ⟨h, 0, none⟩) 5 5] 25)) := e1.trans eA
  have HS := Lib.hid hS
  have HE := Lib.hid hE
  clear hS hE hp eA r1 r2 e1 hg hh
  go_upto_region 2 with fail
  obtain ⟨p, hpe⟩ : ∃ p, w1.heap.size = p := ⟨_, rfl⟩
  obtain ⟨w2, hw2⟩ : ∃ w2, w1.alloc (.cells #[.slice (some ⟨g, 0, none⟩) 2 2, .slice (some ⟨h, 0, none⟩) 5 5] 25) = w2 := ⟨_, rfl⟩
  rw [hw2, hpe] at HS
  rw [hw2] at HE
  rw [hw2, hpe]
  clear hw2 hpe
  refine kk2_wp (p := p) (gg := g) (hq := h) rfl rfl (fun W hW => (HS.out.ext hW).cells.1) (fun W hW => (HS.out.ext hW).cells.2) (fun W hW => (has2_any (HS.out.ext hW).sheet (1, 21)).mono ?_) ?_
  · rintro e w' ⟨hx, ⟨hne, _⟩ | ⟨_, v, rfl, hM⟩⟩
    · exact absurd kHas21.2 hne
    · rw [kHas21.1] at hM
      exact ⟨_, rfl, ⟨v, rfl, hM.mono (Nat.zero_le _)⟩, hx⟩
  intro w3 v1 v2 v3 v4 v6 e3 i1 i2 i3 i4 i6
  have hdr : kk2Reg.toList.drop 8 = [] := List.drop_eq_nil_of_le (by rw [Array.length_toList]; exact Nat.le_of_eq (by kernel_rfl))
  rw [hdr]
  simp only [wpList, puts, List.foldl_cons, List.foldl_nil, Act.put, List.setIfInBounds_toArray, List.set_cons_succ, List.set_cons_zero]
  clear hdr
  obtain ⟨A3, c3, rfl⟩ := made_slice (show MadeInts 0 [2, 4] w3 v6 from i6)
  have H3 := Lib.hid (ints_held (show MadeInts 0 [2, 4] w3 _ from i6) rfl)
  have HS := Lib.hid (HS.out.ext e3)
  have HE := Lib.hid (HE.out.trans e3)
  clear i1 i2 i3 i4 i6 e3
  obtain ⟨s0, s1⟩ := HS.out.cells
  have hc := places_any HS.out.sheet 0
  go_wp2_with (fail)
  refine hc.mono ?_
  rintro e w4 ⟨e4, ⟨hne, _⟩ | ⟨_, v, rfl, hM⟩⟩
  · exact absurd kPlaces0.2 hne
  rw [kPlaces0.1] at hM
  obtain ⟨A4, c4, rfl⟩ := made_slice2 hM
  have H4n := longs_held hM rfl
  have HS := Lib.hid (HS.out.ext e4)
  have HE := Lib.hid (HE.out.trans e4)
  have H3 := Lib.hid (Held.ext H3.out e4)
  clear s0 s1 e4 hc
  have H4 := Lib.hid H4n
  clear H4n hM
  obtain ⟨s0, s1⟩ := HS.out.cells
  have hc := lost_any HS.out.sheet
  go_wp2_with (fail)
  refine hc.mono ?_
  rintro e w5 ⟨e5, ⟨hne, _⟩ | ⟨_, v, rfl, hM⟩⟩
  · exact absurd kSheet hne
  rw [kLost] at hM
  obtain ⟨A5, c5, rfl⟩ := made_slice hM
  have HS := Lib.hid (HS.out.ext e5)
  have HE := Lib.hid (HE.out.trans e5)
  have H3 := Lib.hid (Held.ext H3.out e5)
  have H4 := Lib.hid (Held.ext H4.out e5)
  clear s0 s1 e5 hc
  clear hM
  go_upto_region 5 with fail
  refine kk5_wp (p := p) (gg := g) (hq := h) rfl rfl (fun W hW => (HS.out.ext hW).cells.1) (fun W hW => (HS.out.ext hW).cells.2) (fun W b hW hb => (checkRows_any (HS.out.ext hW).sheet (some ⟨b, 0, none⟩) 2 2 [(0, 5), (1, 20)] rfl (by decide) (held_row hb rfl)).mono ?_) ?_
  · rintro e w' ⟨rfl, hx⟩
    rw [kRowsB]
    exact ⟨rfl, hx⟩
  intro w6 v1 v2 v3 v4 e6 i1 i2 i3 i4
  have hdr : kk5Reg.toList.drop 6 = [] := List.drop_eq_nil_of_le (by rw [Array.length_toList]; exact Nat.le_of_eq (by kernel_rfl))
  rw [hdr]
  simp only [wpList, puts, List.foldl_cons, List.foldl_nil, Act.put, List.setIfInBounds_toArray, List.set_cons_succ, List.set_cons_zero]
  clear hdr
  have HS := Lib.hid (HS.out.ext e6)
  have HE := Lib.hid (HE.out.trans e6)
  have H3 := Lib.hid (Held.ext H3.out e6)
  have H4 := Lib.hid (Held.ext H4.out e6)
  clear i1 i2 i3 i4 e6
  obtain ⟨s0, s1⟩ := HS.out.cells
  have hr9 : (w6.alloc (.cells #[.int .i64 1, .int .i64 2] 3)).heap[w6.heap.size]? = some (.cells #[.int .i64 1, .int .i64 2] 3 (0, 0)) := row_last _ _ _ rfl
  have h30 := checkApart_any (HS.out.ext (ext_alloc w6 (.cells #[.int .i64 1, .int .i64 2] 3))).sheet (some ⟨w6.heap.size, 0, none⟩) 2 2 [1, 2] rfl (by decide) (held_nums_row hr9 rfl)
  clear hr9
  go_wp2_with (fail)
  refine h30.mono ?_
  rintro e w7 ⟨rfl, e7'⟩
  rw [kApart12]
  have e7 := (ext_alloc w6 (.cells #[.int .i64 1, .int .i64 2] 3)).trans e7'
  have HS := Lib.hid (HS.out.ext e7)
  have HE := Lib.hid (HE.out.trans e7)
  have H3 := Lib.hid (Held.ext H3.out e7)
  have H4 := Lib.hid (Held.ext H4.out e7)
  clear s0 s1 e7 e7' h30
  go_upto_region 7 with fail
  refine kk7_wp (p := p) (gg := g) (hq := h) rfl rfl (fun W hW => (HS.out.ext hW).cells.1) (fun W hW => (HS.out.ext hW).cells.2) (fun W hW => (kind2_any (HS.out.ext hW).sheet (0, 7)).mono ?_) ?_
  · rintro e w' ⟨rfl, hx⟩
    rw [kKind7]
    exact ⟨_, rfl, rfl, hx⟩
  intro w8 v1 v2 e8 i1 i2
  have hdr : kk7Reg.toList.drop 8 = [] := List.drop_eq_nil_of_le (by rw [Array.length_toList]; exact Nat.le_of_eq (by kernel_rfl))
  rw [hdr]
  simp only [wpList, puts, List.foldl_cons, List.foldl_nil, Act.put, List.setIfInBounds_toArray, List.set_cons_succ, List.set_cons_zero]
  clear hdr
  have HS := Lib.hid (HS.out.ext e8)
  have HE := Lib.hid (HE.out.trans e8)
  have H3 := Lib.hid (Held.ext H3.out e8)
  have H4 := Lib.hid (Held.ext H4.out e8)
  clear i1 i2 e8
  have hc := rg_any 0 3 w8
  go_wp2_with (fail)
  refine hc.mono ?_
  rintro e w9 ⟨rfl, e9⟩
  have HS := Lib.hid (HS.out.ext e9)
  have HE := Lib.hid (HE.out.trans e9)
  have H3 := Lib.hid (Held.ext H3.out e9)
  have H4 := Lib.hid (Held.ext H4.out e9)
  clear e9 hc
  have hc := rg_any 10 13 w9
  go_wp2_with (fail)
  refine hc.mono ?_
  rintro e w10 ⟨rfl, e10⟩
  have HS := Lib.hid (HS.out.ext e10)
  have HE := Lib.hid (HE.out.trans e10)
  have H3 := Lib.hid (Held.ext H3.out e10)
  have H4 := Lib.hid (Held.ext H4.out e10)
  clear e10 hc
  have hr9 : (w10.alloc (.cells #[.int .i64 0, .int .i64 3, .int .i64 10, .int .i64 13] 75)).heap[w10.heap.size]? = some (.cells #[.int .i64 0, .int .i64 3, .int .i64 10, .int .i64 13] 75 (0, 0)) := row_last _ _ _ rfl
  have h36 := spaces_any (some ⟨w10.heap.size, 0, none⟩) 2 2 [(0, 3), (10, 13)] (w10.alloc (.cells #[.int .i64 0, .int .i64 3, .int .i64 10, .int .i64 13] 75)) rfl (by decide) (held_row hr9 rfl)
  clear hr9
  go_wp2_with (fail)
  refine h36.mono ?_
  rintro e w11 ⟨e11', ⟨hne, _⟩ | ⟨_, v, rfl, hM⟩⟩
  · exact absurd kSpaces2.2 hne
  rw [kSpaces2.1] at hM
  have e11 := (ext_alloc w10 (.cells #[.int .i64 0, .int .i64 3, .int .i64 10, .int .i64 13] 75)).trans e11'
  obtain ⟨A6, c6, hv⟩ := owns_slice hM.1
  subst hv
  have H6n := sp_held hM rfl
  have HS := Lib.hid (HS.out.ext e11)
  have HE := Lib.hid (HE.out.trans e11)
  have H3 := Lib.hid (Held.ext H3.out e11)
  have H4 := Lib.hid (Held.ext H4.out e11)
  have H6 := Lib.hid H6n
  clear H6n hM e11 e11' h36
  have hc := rg_any 3 3 w11
  go_wp2_with (fail)
  refine hc.mono ?_
  rintro e w12 ⟨rfl, e12⟩
  have HS := Lib.hid (HS.out.ext e12)
  have HE := Lib.hid (HE.out.trans e12)
  have H3 := Lib.hid (Held.ext H3.out e12)
  have H4 := Lib.hid (Held.ext H4.out e12)
  have H6 := Lib.hid (Held.ext H6.out e12)
  clear e12 hc
  have hc := rg_any 2 3 w12
  go_wp2_with (fail)
  refine hc.mono ?_
  rintro e w13 ⟨rfl, e13⟩
  have HS := Lib.hid (HS.out.ext e13)
  have HE := Lib.hid (HE.out.trans e13)
  have H3 := Lib.hid (Held.ext H3.out e13)
  have H4 := Lib.hid (Held.ext H4.out e13)
  have H6 := Lib.hid (Held.ext H6.out e13)
  clear e13 hc
  have hc := rg_any 1 3 w13
  go_wp2_with (fail)
  refine hc.mono ?_
  rintro e w14 ⟨rfl, e14⟩
  have HS := Lib.hid (HS.out.ext e14)
  have HE := Lib.hid (HE.out.trans e14)
  have H3 := Lib.hid (Held.ext H3.out e14)
  have H4 := Lib.hid (Held.ext H4.out e14)
  have H6 := Lib.hid (Held.ext H6.out e14)
  clear e14 hc
  have hc := rg_any 0 3 w14
  go_wp2_with (fail)
  refine hc.mono ?_
  rintro e w15 ⟨rfl, e15⟩
  have HS := Lib.hid (HS.out.ext e15)
  have HE := Lib.hid (HE.out.trans e15)
  have H3 := Lib.hid (Held.ext H3.out e15)
  have H4 := Lib.hid (Held.ext H4.out e15)
  have H6 := Lib.hid (Held.ext H6.out e15)
  clear e15 hc
  have hc := rg_any 0 2 w15
  go_wp2_with (fail)
  refine hc.mono ?_
  rintro e w16 ⟨rfl, e16⟩
  have HS := Lib.hid (HS.out.ext e16)
  have HE := Lib.hid (HE.out.trans e16)
  have H3 := Lib.hid (Held.ext H3.out e16)
  have H4 := Lib.hid (Held.ext H4.out e16)
  have H6 := Lib.hid (Held.ext H6.out e16)
  clear e16 hc
  have hc := rg_any 0 1 w16
  go_wp2_with (fail)
  refine hc.mono ?_
  rintro e w17 ⟨rfl, e17⟩
  have HS := Lib.hid (HS.out.ext e17)
  have HE := Lib.hid (HE.out.trans e17)
  have H3 := Lib.hid (Held.ext H3.out e17)
  have H4 := Lib.hid (Held.ext H4.out e17)
  have H6 := Lib.hid (Held.ext H6.out e17)
  clear e17 hc
  have hc := rg_any 0 0 w17
  go_wp2_with (fail)
  refine hc.mono ?_
  rintro e w18 ⟨rfl, e18⟩
  have HS := Lib.hid (HS.out.ext e18)
  have HE := Lib.hid (HE.out.trans e18)
  have H3 := Lib.hid (Held.ext H3.out e18)
  have H4 := Lib.hid (Held.ext H4.out e18)
  have H6 := Lib.hid (Held.ext H6.out e18)
  clear e18 hc
  have hr82 : (w18.alloc (.cells #[.int .i64 7, .int .i64 3, .int .i64 3, .int .i64 8, .int .i64 2, .int .i64 3, .int .i64 9, .int .i64 1, .int .i64 3, .int .i64 10, .int .i64 0, .int .i64 3, .int .i64 11, .int .i64 0, .int .i64 2, .int .i64 12, .int .i64 0, .int .i64 1, .int .i64 13, .int .i64 0, .int .i64 0] 82)).heap[w18.heap.size]? = some (.cells #[.int .i64 7, .int .i64 3, .int .i64 3, .int .i64 8, .int .i64 2, .int .i64 3, .int .i64 9, .int .i64 1, .int .i64 3, .int .i64 10, .int .i64 0, .int .i64 3, .int .i64 11, .int .i64 0, .int .i64 2, .int .i64 12, .int .i64 0, .int .i64 1, .int .i64 13, .int .i64 0, .int .i64 0] 82 (0, 0)) := row_last _ _ _ rfl
  have e82 := ext_alloc w18 (.cells #[.int .i64 7, .int .i64 3, .int .i64 3, .int .i64 8, .int .i64 2, .int .i64 3, .int .i64 9, .int .i64 1, .int .i64 3, .int .i64 10, .int .i64 0, .int .i64 3, .int .i64 11, .int .i64 0, .int .i64 2, .int .i64 12, .int .i64 0, .int .i64 1, .int .i64 13, .int .i64 0, .int .i64 0] 82)
  have HW := Lib.hid (held_rowD (xs := spK) hr82 rfl)
  have HS := Lib.hid (HS.out.ext e82)
  have HE := Lib.hid (HE.out.trans e82)
  have H3 := Lib.hid (Held.ext H3.out e82)
  have H4 := Lib.hid (Held.ext H4.out e82)
  have H6 := Lib.hid (Held.ext H6.out e82)
  obtain ⟨q8, hq8⟩ : ∃ q, w18.heap.size = q := ⟨_, rfl⟩
  obtain ⟨w19, hw19⟩ : ∃ W, w18.alloc (.cells #[.int .i64 7, .int .i64 3, .int .i64 3, .int .i64 8, .int .i64 2, .int .i64 3, .int .i64 9, .int .i64 1, .int .i64 3, .int .i64 10, .int .i64 0, .int .i64 3, .int .i64 11, .int .i64 0, .int .i64 2, .int .i64 12, .int .i64 0, .int .i64 1, .int .i64 13, .int .i64 0, .int .i64 0] 82) = W := ⟨_, rfl⟩
  rw [hw19, hq8] at HW
  rw [hw19] at HS HE H3 H4 H6
  clear hr82 e82
  go_upto_region 10 with fail
  try simp only [hw19, hq8]
  clear hw19 hq8
  have hrx : (w19.alloc (.cells #[.int .i64 2, .int .i64 4] 3)).heap[w19.heap.size]? = some (.cells #[.int .i64 2, .int .i64 4] 3 (0, 0)) := row_last _ _ _ rfl
  have ex := ext_alloc w19 (.cells #[.int .i64 2, .int .i64 4] 3)
  have hc := ints_any A3 (some ⟨w19.heap.size, 0, none⟩) 2 c3 2 2 [2, 4] [2, 4] (w19.alloc (.cells #[.int .i64 2, .int .i64 4] 3)) rfl rfl (by decide) (by decide) (Held.ext H3.out ex) (held_nums_row hrx rfl)
  rw [decide_eq_true rfl] at hc
  clear hrx
  go_wp2_with (fail)
  refine hc.mono ?_
  rintro e w20 ⟨rfl, e20'⟩
  have e20 := ex.trans e20'
  have HS := Lib.hid (HS.out.ext e20)
  have HE := Lib.hid (HE.out.trans e20)
  have H3 := Lib.hid (Held.ext H3.out e20)
  have H4 := Lib.hid (Held.ext H4.out e20)
  have H6 := Lib.hid (Held.ext H6.out e20)
  have HW := Lib.hid (Held.ext HW.out e20)
  clear e20 e20' ex hc
  have hrx : (w20.alloc (.cells #[.int .i64 5, .int .i64 15] 2)).heap[w20.heap.size]? = some (.cells #[.int .i64 5, .int .i64 15] 2 (0, 0)) := row_last _ _ _ rfl
  have ex := ext_alloc w20 (.cells #[.int .i64 5, .int .i64 15] 2)
  have hc := longs_any A4 (some ⟨w20.heap.size, 0, none⟩) 2 c4 2 2 [5, 15] [5, 15] (w20.alloc (.cells #[.int .i64 5, .int .i64 15] 2)) rfl rfl (by decide) (by decide) (Held.ext H4.out ex) (held_nums_row hrx rfl)
  rw [decide_eq_true rfl] at hc
  clear hrx
  go_wp2_with (fail)
  refine hc.mono ?_
  rintro e w21 ⟨rfl, e21'⟩
  have e21 := ex.trans e21'
  have HS := Lib.hid (HS.out.ext e21)
  have HE := Lib.hid (HE.out.trans e21)
  have H3 := Lib.hid (Held.ext H3.out e21)
  have H4 := Lib.hid (Held.ext H4.out e21)
  have H6 := Lib.hid (Held.ext H6.out e21)
  have HW := Lib.hid (Held.ext HW.out e21)
  clear e21 e21' ex hc
  have hc := speq_any A6 (some ⟨q8, 0, none⟩) 7 c6 7 7 spK spK w21 rfl rfl (by decide) (by decide) H6.out HW.out
  rw [decide_eq_true rfl] at hc
  go_wp2_with (fail)
  refine hc.mono ?_
  rintro e w22 ⟨rfl, e22⟩
  have HE := Lib.hid (HE.out.trans e22)
  clear e22 hc
  go_wp2_with fail
  refine (works_any _).mono ?_
  rintro e w23 ⟨rfl, e23⟩
  have HE := Lib.hid (HE.out.trans e23)
  clear e23
  go_wp2
  go_ret
  exact ⟨rfl, HE.out⟩
end Go.Proofs.Ytchmdkdiilaejaa
