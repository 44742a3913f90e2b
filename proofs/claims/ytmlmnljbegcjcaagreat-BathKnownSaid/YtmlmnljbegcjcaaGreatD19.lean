/- Texts of one package, joined: KnownLaw. -/
import Derived.Test.YtmlmnljbegcjcaaGreatD16
/- BathKnown: its region, and the walk. -/
namespace Go.Proofs.YtmlmnljbegcjcaaGreat
open Go.RowKit Go.Shelf
attribute [local irreducible] bitCells

theorem neRange (x0 x1 : Int) (w : World) : (binOp .neq 26 (.agg #[.int .i64 x0, .int .i64 x1]) (.agg #[.int .i64 x0, .int .i64 x1])).run Tryz.prog w = .ok (.bool false) w := by
  have hS : Tryz.prog.underlying 26 = some (.struct (Tryz.prog.fieldsOf 26)) := by kernel_rfl
  have hp : Tryz.prog.stoodInHeld 26 = false := by kernel_rfl
  have u2 := Tryz.underlying2
  rw [run_neq_struct, show (10000 : Nat) = 9999 + 1 from rfl, run_equalIn_agg w 9999 26 _ _ hS hp]
  simp only [Program.fieldsOf, Tryz.underlying26]
  go_simp

/-- The slots of region 8 of function 13. -/
def kn8D (i : Nat) : Tmp := if i = 0 then 39 else if i = 1 then 40 else if i = 2 then 41 else if i = 3 then 42 else if i = 4 then 43 else if i = 5 then 44 else if i = 6 then 45 else if i = 7 then 46 else if i = 8 then 47 else 48
noncomputable def kn8Reg : Array Oper := (Tryz.f13.body.bind (regionOf · 8)).getD #[]
theorem kn8_size : kn8Reg.size = 10 := by kernel_rfl
/-- What each operation yields. -/
def kn8S (_p6 gw kk : Nat) (x y : Int) (ix : Nat) (v : Value) (_ : World) : Prop :=
  match ix with
  | 0 => v = .int .i64 0
  | 1 => v = .bool false
  | 2 => v = .bool false
  | 3 => v = .agg #[.int .i64 x, .int .i64 y]
  | 4 => v = .slice (some ⟨gw, 0, none⟩) 4 4
  | 5 => v = .int .i64 (kk : Int)
  | 6 => v = .pointer (some ⟨gw, kk * 2, none⟩)
  | 7 => v = .agg #[.int .i64 x, .int .i64 y]
  | 8 => v = .bool false
  | 9 => v = .bool false
  | _ => True
def kn8Ok (p6 gw kk : Nat) (x y : Int) (Q : Exit → Act → World → Prop) (a : Act) (W : World) (ix : Nat) (o : Oper) : Prop :=
  ((∀ j b, o.guard = some (j, b) → a.eval (.tmp (kn8D j)) = .bool b) ∧ o.wp Tryz.prog a W (fun a'' W' => ∃ v, a'' = a.put o.dst v ∧ kn8S p6 gw kk x y ix v W' ∧ Below W.heap.size W W') Q) ∨ ((∃ j b, o.guard = some (j, b) ∧ a.eval (.tmp (kn8D j)) ≠ .bool b) ∧ kn8S p6 gw kk x y ix undef W)
section
variable {p6 gw kk : Nat} {x y : Int} {Q : Exit → Act → World → Prop} {a : Act} {V W : World} {o : Oper}
set_option maxHeartbeats 1000000 in
theorem kn8_op0 (o7 : a.eval (.tmp 7) = .int .i64 0) (ho : kn8Reg[0]? = some o) : kn8Ok p6 gw kk x y Q a W 0 o := by
  have hop := op_at ho (·.op) (x := Op.move (Operand.tmp 7)) (by kernel_rfl)
  have hgd := op_at ho (·.guard) (x := none) (by kernel_rfl)
  refine .inl ⟨fun j b h => (by rw [hgd] at h; cases h), ?_⟩
  exact specs_value (R := fun v W => kn8S p6 gw kk x y 0 v W) (v := .int .i64 0) (by simp [execOp, hop, go_sem, ev o7]) rfl (Ext.refl W)
set_option maxHeartbeats 1000000 in
theorem kn8_op1 (haft : ∀ j, (o.after.any fun e => decide (e.on = j) && Region.binds .any e) = true → kn8S p6 gw kk x y j (a.eval (.tmp (kn8D j))) W) (ho : kn8Reg[1]? = some o) : kn8Ok p6 gw kk x y Q a W 1 o := by
  have hop := op_at ho (·.op) (x := Op.binOp BinOp.neq 27 (Operand.tmp 39) (Operand.const (Value.int IntKind.i64 0)) 27) (by kernel_rfl)
  have hgd := op_at ho (·.guard) (x := none) (by kernel_rfl)
  have e0 : a.eval (.tmp 39) = .int .i64 0 := haft 0 (op_at ho (fun o => o.after.any fun e => decide (e.on = 0) && Region.binds .any e) (x := true) (by kernel_rfl))
  refine .inl ⟨fun j b h => (by rw [hgd] at h; cases h), ?_⟩
  exact specs_value (R := fun v W => kn8S p6 gw kk x y 1 v W) (v := .bool false) (by simp [execOp, hop, go_sem, ev e0]) rfl (Ext.refl W)
set_option maxHeartbeats 1000000 in
theorem kn8_op2 (haft : ∀ j, (o.after.any fun e => decide (e.on = j) && Region.binds .any e) = true → kn8S p6 gw kk x y j (a.eval (.tmp (kn8D j))) W) (ho : kn8Reg[2]? = some o) : kn8Ok p6 gw kk x y Q a W 2 o := by
  have hop := op_at ho (·.op) (x := Op.move (Operand.tmp 40)) (by kernel_rfl)
  have hgd := op_at ho (·.guard) (x := none) (by kernel_rfl)
  have e1 : a.eval (.tmp 40) = .bool false := haft 1 (op_at ho (fun o => o.after.any fun e => decide (e.on = 1) && Region.binds .any e) (x := true) (by kernel_rfl))
  refine .inl ⟨fun j b h => (by rw [hgd] at h; cases h), ?_⟩
  exact specs_value (R := fun v W => kn8S p6 gw kk x y 2 v W) (v := .bool false) (by simp [execOp, hop, go_sem, ev e1]) rfl (Ext.refl W)
set_option maxHeartbeats 1000000 in
theorem kn8_op3 (o6 : a.eval (.tmp 6) = .pointer (some ⟨p6, 0, none⟩)) (c0 : ∀ W, Ext V W → W.cell? ⟨p6, 0, none⟩ = some (.int .i64 x)) (c1 : ∀ W, Ext V W → W.cell? ⟨p6, 1, none⟩ = some (.int .i64 y)) (hB : Ext V W) (haft : ∀ j, (o.after.any fun e => decide (e.on = j) && Region.binds .any e) = true → kn8S p6 gw kk x y j (a.eval (.tmp (kn8D j))) W) (ho : kn8Reg[3]? = some o) : kn8Ok p6 gw kk x y Q a W 3 o := by
  have hop := op_at ho (·.op) (x := Op.load 26 (Operand.tmp 6)) (by kernel_rfl)
  have hgd := op_at ho (·.guard) (x := some (2, false)) (by kernel_rfl)
  have e2 : a.eval (.tmp 41) = .bool false := haft 2 (op_at ho (fun o => o.after.any fun e => decide (e.on = 2) && Region.binds .any e) (x := true) (by kernel_rfl))
  refine .inl ⟨fun j b h => (by rw [hgd] at h; cases h; exact e2), ?_⟩
  have c0' := c0 W hB
  have c1' := c1 W hB
  exact specs_value (R := fun v W => kn8S p6 gw kk x y 3 v W) (v := .agg #[.int .i64 x, .int .i64 y]) (by simp [execOp, hop, go_sem, ev o6, c0', c1']) rfl (Ext.refl W)
set_option maxHeartbeats 1000000 in
theorem kn8_op4 (o3 : a.eval (.tmp 3) = .slice (some ⟨gw, 0, none⟩) 4 4) (haft : ∀ j, (o.after.any fun e => decide (e.on = j) && Region.binds .any e) = true → kn8S p6 gw kk x y j (a.eval (.tmp (kn8D j))) W) (ho : kn8Reg[4]? = some o) : kn8Ok p6 gw kk x y Q a W 4 o := by
  have hop := op_at ho (·.op) (x := Op.move (Operand.tmp 3)) (by kernel_rfl)
  have hgd := op_at ho (·.guard) (x := some (2, false)) (by kernel_rfl)
  have e2 : a.eval (.tmp 41) = .bool false := haft 2 (op_at ho (fun o => o.after.any fun e => decide (e.on = 2) && Region.binds .any e) (x := true) (by kernel_rfl))
  refine .inl ⟨fun j b h => (by rw [hgd] at h; cases h; exact e2), ?_⟩
  exact specs_value (R := fun v W => kn8S p6 gw kk x y 4 v W) (v := .slice (some ⟨gw, 0, none⟩) 4 4) (by simp [execOp, hop, go_sem, ev o3]) rfl (Ext.refl W)
set_option maxHeartbeats 1000000 in
theorem kn8_op5 (o5 : a.eval (.tmp 5) = .int .i64 (kk : Int)) (haft : ∀ j, (o.after.any fun e => decide (e.on = j) && Region.binds .any e) = true → kn8S p6 gw kk x y j (a.eval (.tmp (kn8D j))) W) (ho : kn8Reg[5]? = some o) : kn8Ok p6 gw kk x y Q a W 5 o := by
  have hop := op_at ho (·.op) (x := Op.move (Operand.tmp 5)) (by kernel_rfl)
  have hgd := op_at ho (·.guard) (x := some (2, false)) (by kernel_rfl)
  have e2 : a.eval (.tmp 41) = .bool false := haft 2 (op_at ho (fun o => o.after.any fun e => decide (e.on = 2) && Region.binds .any e) (x := true) (by kernel_rfl))
  refine .inl ⟨fun j b h => (by rw [hgd] at h; cases h; exact e2), ?_⟩
  exact specs_value (R := fun v W => kn8S p6 gw kk x y 5 v W) (v := .int .i64 (kk : Int)) (by simp [execOp, hop, go_sem, ev o5]) rfl (Ext.refl W)
set_option maxHeartbeats 1000000 in
theorem kn8_op6 (h4 : kk < 4) (haft : ∀ j, (o.after.any fun e => decide (e.on = j) && Region.binds .any e) = true → kn8S p6 gw kk x y j (a.eval (.tmp (kn8D j))) W) (ho : kn8Reg[6]? = some o) : kn8Ok p6 gw kk x y Q a W 6 o := by
  have hop := op_at ho (·.op) (x := Op.indexAddr 73 (Operand.tmp 43) (Operand.tmp 44)) (by kernel_rfl)
  have hgd := op_at ho (·.guard) (x := some (2, false)) (by kernel_rfl)
  have e2 : a.eval (.tmp 41) = .bool false := haft 2 (op_at ho (fun o => o.after.any fun e => decide (e.on = 2) && Region.binds .any e) (x := true) (by kernel_rfl))
  have e4 : a.eval (.tmp 43) = .slice (some ⟨gw, 0, none⟩) 4 4 := haft 4 (op_at ho (fun o => o.after.any fun e => decide (e.on = 4) && Region.binds .any e) (x := true) (by kernel_rfl))
  have e5 : a.eval (.tmp 44) = .int .i64 (kk : Int) := haft 5 (op_at ho (fun o => o.after.any fun e => decide (e.on = 5) && Region.binds .any e) (x := true) (by kernel_rfl))
  refine .inl ⟨fun j b h => (by rw [hgd] at h; cases h; exact e2), ?_⟩
  have h4z : (kk : Int) < 4 := by omega
  exact specs_value (R := fun v W => kn8S p6 gw kk x y 6 v W) (v := .pointer (some ⟨gw, kk * 2, none⟩)) (by simp [execOp, hop, go_sem, ev e4, ev e5, h4z]) rfl (Ext.refl W)
set_option maxHeartbeats 1000000 in
theorem kn8_op7 (d0 : ∀ W, Ext V W → W.cell? ⟨gw, kk * 2, none⟩ = some (.int .i64 x)) (d1 : ∀ W, Ext V W → W.cell? ⟨gw, kk * 2 + 1, none⟩ = some (.int .i64 y)) (hB : Ext V W) (haft : ∀ j, (o.after.any fun e => decide (e.on = j) && Region.binds .any e) = true → kn8S p6 gw kk x y j (a.eval (.tmp (kn8D j))) W) (ho : kn8Reg[7]? = some o) : kn8Ok p6 gw kk x y Q a W 7 o := by
  have hop := op_at ho (·.op) (x := Op.load 26 (Operand.tmp 45)) (by kernel_rfl)
  have hgd := op_at ho (·.guard) (x := some (2, false)) (by kernel_rfl)
  have e2 : a.eval (.tmp 41) = .bool false := haft 2 (op_at ho (fun o => o.after.any fun e => decide (e.on = 2) && Region.binds .any e) (x := true) (by kernel_rfl))
  have e6 : a.eval (.tmp 45) = .pointer (some ⟨gw, kk * 2, none⟩) := haft 6 (op_at ho (fun o => o.after.any fun e => decide (e.on = 6) && Region.binds .any e) (x := true) (by kernel_rfl))
  refine .inl ⟨fun j b h => (by rw [hgd] at h; cases h; exact e2), ?_⟩
  have d0' := d0 W hB
  have d1' := d1 W hB
  exact specs_value (R := fun v W => kn8S p6 gw kk x y 7 v W) (v := .agg #[.int .i64 x, .int .i64 y]) (by simp [execOp, hop, go_sem, ev e6, d0', d1']) rfl (Ext.refl W)
set_option maxHeartbeats 1000000 in
theorem kn8_op8 (haft : ∀ j, (o.after.any fun e => decide (e.on = j) && Region.binds .any e) = true → kn8S p6 gw kk x y j (a.eval (.tmp (kn8D j))) W) (ho : kn8Reg[8]? = some o) : kn8Ok p6 gw kk x y Q a W 8 o := by
  have hop := op_at ho (·.op) (x := Op.binOp BinOp.neq 26 (Operand.tmp 42) (Operand.tmp 46) 26) (by kernel_rfl)
  have hgd := op_at ho (·.guard) (x := some (2, false)) (by kernel_rfl)
  have e2 : a.eval (.tmp 41) = .bool false := haft 2 (op_at ho (fun o => o.after.any fun e => decide (e.on = 2) && Region.binds .any e) (x := true) (by kernel_rfl))
  have e3 : a.eval (.tmp 42) = .agg #[.int .i64 x, .int .i64 y] := haft 3 (op_at ho (fun o => o.after.any fun e => decide (e.on = 3) && Region.binds .any e) (x := true) (by kernel_rfl))
  have e7 : a.eval (.tmp 46) = .agg #[.int .i64 x, .int .i64 y] := haft 7 (op_at ho (fun o => o.after.any fun e => decide (e.on = 7) && Region.binds .any e) (x := true) (by kernel_rfl))
  refine .inl ⟨fun j b h => (by rw [hgd] at h; cases h; exact e2), ?_⟩
  exact specs_value (R := fun v W => kn8S p6 gw kk x y 8 v W) (v := .bool false) (by simp [execOp, hop, go_sem, ev e3, ev e7, neRange]) rfl (Ext.refl W)
set_option maxHeartbeats 1000000 in
theorem kn8_op9 (haft : ∀ j, (o.after.any fun e => decide (e.on = j) && Region.binds .any e) = true → kn8S p6 gw kk x y j (a.eval (.tmp (kn8D j))) W) (ho : kn8Reg[9]? = some o) : kn8Ok p6 gw kk x y Q a W 9 o := by
  have hop := op_at ho (·.op) (x := Op.pick (Operand.tmp 41) (Operand.const (Value.bool true)) (Operand.tmp 47)) (by kernel_rfl)
  have hgd := op_at ho (·.guard) (x := none) (by kernel_rfl)
  have e2 : a.eval (.tmp 41) = .bool false := haft 2 (op_at ho (fun o => o.after.any fun e => decide (e.on = 2) && Region.binds .any e) (x := true) (by kernel_rfl))
  have e8 : a.eval (.tmp 47) = .bool false := haft 8 (op_at ho (fun o => o.after.any fun e => decide (e.on = 8) && Region.binds .any e) (x := true) (by kernel_rfl))
  refine .inl ⟨fun j b h => (by rw [hgd] at h; cases h), ?_⟩
  exact specs_value (R := fun v W => kn8S p6 gw kk x y 9 v W) (v := .bool false) (by simp [execOp, hop, go_sem, ev e2, ev e8]) rfl (Ext.refl W)
set_option maxRecDepth 100000 in
set_option maxHeartbeats 4000000 in
/-- Region 8 of function 13, one way through it. -/
theorem kn8_wp {id : Nat} (hlen : a.tmps.size = 127) (o3 : a.eval (.tmp 3) = .slice (some ⟨gw, 0, none⟩) 4 4) (o5 : a.eval (.tmp 5) = .int .i64 (kk : Int)) (o6 : a.eval (.tmp 6) = .pointer (some ⟨p6, 0, none⟩)) (o7 : a.eval (.tmp 7) = .int .i64 0) (c0 : ∀ W, Ext V W → W.cell? ⟨p6, 0, none⟩ = some (.int .i64 x)) (c1 : ∀ W, Ext V W → W.cell? ⟨p6, 1, none⟩ = some (.int .i64 y)) (h4 : kk < 4) (d0 : ∀ W, Ext V W → W.cell? ⟨gw, kk * 2, none⟩ = some (.int .i64 x)) (d1 : ∀ W, Ext V W → W.cell? ⟨gw, kk * 2 + 1, none⟩ = some (.int .i64 y)) (K : ∀ W, Ext V W → Q .normal (puts a [(39, .int .i64 0), (40, .bool false), (41, .bool false), (42, .agg #[.int .i64 x, .int .i64 y]), (43, .slice (some ⟨gw, 0, none⟩) 4 4), (44, .int .i64 (kk : Int)), (45, .pointer (some ⟨gw, kk * 2, none⟩)), (46, .agg #[.int .i64 x, .int .i64 y]), (47, .bool false), (48, .bool false)]) W) : (Code.region id kn8Reg true).wp Tryz.prog Q a V := by
  refine wp_region_maybe (ops := kn8Reg) (kn8S p6 gw kk x y) (Ext V) (by kernel_rfl) (by rw [hlen]; kernel_rfl) ⟨rfl, rfl, rfl, Nat.le_refl _, fun _ _ => rfl⟩ (fun _ _ h e => h.trans e) (fun _ _ _ _ h _ => h) kn8D (by kernel_rfl) ?_ ?_
  · intro i o ho a' W hB hsz hold haft
    have hi : i < 10 := by
      have h1 := (Array.getElem?_eq_some_iff.1 ho).1
      have h2 := kn8_size
      omega
    match i, hi with
    | 0, _ => exact kn8_op0 ((hold 7 (by kernel_rfl)).trans o7) ho
    | 1, _ => exact kn8_op1 haft ho
    | 2, _ => exact kn8_op2 haft ho
    | 3, _ => exact kn8_op3 ((hold 6 (by kernel_rfl)).trans o6) c0 c1 hB haft ho
    | 4, _ => exact kn8_op4 ((hold 3 (by kernel_rfl)).trans o3) haft ho
    | 5, _ => exact kn8_op5 ((hold 5 (by kernel_rfl)).trans o5) haft ho
    | 6, _ => exact kn8_op6 h4 haft ho
    | 7, _ => exact kn8_op7 d0 d1 hB haft ho
    | 8, _ => exact kn8_op8 haft ho
    | 9, _ => exact kn8_op9 haft ho
    | m + 10, h => exact absurd h (by omega)
  · intro a1 W hB hsz hdf hold hS
    have hs2 := kn8_size
    have hall : ∀ zz, zz ∈ ([(39, .int .i64 0), (40, .bool false), (41, .bool false), (42, .agg #[.int .i64 x, .int .i64 y]), (43, .slice (some ⟨gw, 0, none⟩) 4 4), (44, .int .i64 (kk : Int)), (45, .pointer (some ⟨gw, kk * 2, none⟩)), (46, .agg #[.int .i64 x, .int .i64 y]), (47, .bool false), (48, .bool false)] : List (Tmp × Value)) → zz.1 < a.tmps.size ∧ a1.eval (.tmp zz.1) = zz.2 := by
      intro zz hz
      rw [hlen]
      simp only [List.mem_cons, List.not_mem_nil, or_false] at hz
      rcases hz with rfl | rfl | rfl | rfl | rfl | rfl | rfl | rfl | rfl | rfl
      · exact ⟨(show (39 : Nat) < 127 by omega), hS 0 (by omega)⟩
      · exact ⟨(show (40 : Nat) < 127 by omega), hS 1 (by omega)⟩
      · exact ⟨(show (41 : Nat) < 127 by omega), hS 2 (by omega)⟩
      · exact ⟨(show (42 : Nat) < 127 by omega), hS 3 (by omega)⟩
      · exact ⟨(show (43 : Nat) < 127 by omega), hS 4 (by omega)⟩
      · exact ⟨(show (44 : Nat) < 127 by omega), hS 5 (by omega)⟩
      · exact ⟨(show (45 : Nat) < 127 by omega), hS 6 (by omega)⟩
      · exact ⟨(show (46 : Nat) < 127 by omega), hS 7 (by omega)⟩
      · exact ⟨(show (47 : Nat) < 127 by omega), hS 8 (by omega)⟩
      · exact ⟨(show (48 : Nat) < 127 by omega), hS 9 (by omega)⟩
    have ha := act_puts hsz hdf hall (fun t ht => hold t (by rw [hs2]; exact all_ne_of (l := [(39, .int .i64 0), (40, .bool false), (41, .bool false), (42, .agg #[.int .i64 x, .int .i64 y]), (43, .slice (some ⟨gw, 0, none⟩) 4 4), (44, .int .i64 (kk : Int)), (45, .pointer (some ⟨gw, kk * 2, none⟩)), (46, .agg #[.int .i64 x, .int .i64 y]), (47, .bool false), (48, .bool false)]) (by kernel_rfl) ht))
    rw [ha]
    exact K W hB
end

def wantL (k : Nat) : Int × Int := if k = 0 then (50, 80) else if k = 1 then (60, 80) else if k = 2 then (110, 150) else (80, 105)
def mostL (k : Nat) : Int := if k = 0 then 0 else if k = 1 then 14 else 18
theorem want_is (k : Nat) (h : k < 4) : birthsAns exA (k : Int) = (wantL k, 0) := by
  match k, h with
  | 0, _ =>
    show _ = _
    kernel_rfl
  | 1, _ =>
    show _ = _
    kernel_rfl
  | 2, _ =>
    show _ = _
    kernel_rfl
  | 3, _ =>
    show _ = _
    kernel_rfl
theorem most_are (k : Nat) (h : k < 3) : (mostOf exA k).2 = mostL k := by
  match k, h with
  | 0, _ =>
    show _ = _
    kernel_rfl
  | 1, _ =>
    show _ = _
    kernel_rfl
  | 2, _ =>
    show _ = _
    kernel_rfl
theorem for_are (k : Nat) (h : k < 3) : forErr exA (k : Int) = 0 := by
  match k, h with
  | 0, _ =>
    show _ = _
    kernel_rfl
  | 1, _ =>
    show _ = _
    kernel_rfl
  | 2, _ =>
    show _ = _
    kernel_rfl
theorem z1 : doesOf exA 81 = [3] := by kernel_rfl
theorem z2 : checkBathsErr exA [80, 150] = 0 := by kernel_rfl
theorem z3 : checkApartErr exA [0, 2] = 0 := by kernel_rfl
theorem z4 : (mostOf exB 1).2 = 8 := by kernel_rfl
theorem z5 : forErr exB ((1 : Nat) : Int) = 0 := by kernel_rfl
theorem z6 : pricesErr exA 1 14 [5, 3, 4, 6] = 0 := by kernel_rfl
theorem z7 : pricesAns exA 1 14 [5, 3, 4, 6] = 14 := by kernel_rfl
def wantC : Array Value := #[.int .i64 50, .int .i64 80, .int .i64 60, .int .i64 80, .int .i64 110, .int .i64 150, .int .i64 80, .int .i64 105]
theorem wantC_at (k : Nat) (h : k < 4) : wantC[k * 2]? = some (.int .i64 (wantL k).1) ∧ wantC[k * 2 + 1]? = some (.int .i64 (wantL k).2) := by
  match k, h with
  | 0, _ => exact ⟨rfl, rfl⟩
  | 1, _ => exact ⟨rfl, rfl⟩
  | 2, _ => exact ⟨rfl, rfl⟩
  | 3, _ => exact ⟨rfl, rfl⟩
theorem mostC_at (k : Nat) (h : k < 3) : (#[.int .i64 0, .int .i64 14, .int .i64 18] : Array Value)[k]? = some (.int .i64 (mostL k)) := by
  match k, h with
  | 0, _ => rfl
  | 1, _ => rfl
  | 2, _ => rfl
set_option maxRecDepth 100000 in
set_option maxHeartbeats 8000000 in
theorem knownLaw_any (w : World) : Calls Tryz.prog 13 #[] w fun e w' => e = .returned (.bool true) ∧ Ext w w' := by
  have h50 := orders50_any w
  go_enter Tryz.func13, Tryz.ntmps13
  go_wp2_with fail
  refine h50.mono ?_
  rintro e w1 ⟨gA, rfl, _, hgA, e1⟩
  have h51 := none51_any w1
  have HE1 := Lib.hid e1
  have HGA := Lib.hid hgA
  clear h50 e1 hgA
  go_wp2_with fail
  refine h51.mono ?_
  rintro e w2 ⟨gB, rfl, _, hgB, e2⟩
  have HA := Lib.hid (orders_row (row_ext HGA.out e2) (by decide))
  have HB := Lib.hid (orders_row hgB (by decide))
  have HE2 := Lib.hid (HE1.out.trans e2)
  clear h51 e2 hgB
  have h1 := rg_any 50 80 w2
  go_wp2_with fail
  refine h1.mono ?_
  rintro e w3 ⟨rfl, e3⟩
  have HX := Lib.hid e3
  have h1 := rg_any 60 80 w3
  clear e3
  go_wp2_with fail
  refine h1.mono ?_
  rintro e w4 ⟨rfl, e4⟩
  replace HX := Lib.hid (HX.out.trans e4)
  have h1 := rg_any 110 150 w4
  clear e4
  go_wp2_with fail
  refine h1.mono ?_
  rintro e w5 ⟨rfl, e5⟩
  replace HX := Lib.hid (HX.out.trans e5)
  have h1 := rg_any 80 105 w5
  clear e5
  go_wp2_with fail
  refine h1.mono ?_
  rintro e w6 ⟨rfl, e6⟩
  replace HX := Lib.hid (HX.out.trans e6)
  clear e6 h1
  go_upto_region 4 with fail
  obtain ⟨gw, hgw⟩ : ∃ gw, w6.heap.size = gw := ⟨_, rfl⟩
  obtain ⟨w7, hw7⟩ : ∃ w7, w6.alloc (.cells #[.int .i64 50, .int .i64 80, .int .i64 60, .int .i64 80, .int .i64 110, .int .i64 150, .int .i64 80, .int .i64 105] 26) = w7 := ⟨_, rfl⟩
  rw [hw7, hgw]
  have e7 : Ext w6 w7 := by rw [← hw7]; exact ext_alloc _ _
  have r7 : w7.heap[gw]? = some (.cells wantC 26 (0, 0)) := by rw [← hw7]; exact row_last _ _ _ hgw.symm
  have hz7 : w7.heap.size = gw + 1 := by rw [← hw7, ← hgw]; exact Array.size_push _
  obtain ⟨gm, hgm⟩ : ∃ gm, gw + 1 = gm := ⟨_, rfl⟩
  rw [hgm] at hz7
  obtain ⟨w8, hw8⟩ : ∃ w8, w7.alloc (.cells #[.int .i64 0, .int .i64 14, .int .i64 18] 2) = w8 := ⟨_, rfl⟩
  rw [hw8]
  rw [hgm]
  have e8 : Ext w7 w8 := by rw [← hw8]; exact ext_alloc _ _
  have r8 : w8.heap[gm]? = some (.cells #[.int .i64 0, .int .i64 14, .int .i64 18] 2 (0, 0)) := by rw [← hw8]; exact row_last _ _ _ hz7.symm
  have HW := Lib.hid (row_ext r7 e8)
  have HM := Lib.hid r8
  replace HX := Lib.hid (HX.out.trans (e7.trans e8))
  replace HA := Lib.hid (HA.out.ext HX.out)
  replace HB := Lib.hid (HB.out.ext HX.out)
  replace HE2 := Lib.hid (HE2.out.trans HX.out)
  clear r7 r8 e7 e8 HX hw7 hw8 hz7 hgm hgw HGA HE1
  go_wp2
  go_loopw [5] (fun i wr => ∃ k : Nat, k ≤ 4 ∧ i = .int .i64 k ∧ Hid (Ext w8 wr)) (fun i _ => 4 - (intOf i).toNat)
  case atStart => exact ⟨0, Nat.zero_le _, rfl, Lib.hid (Ext.refl _)⟩
  case round =>
    obtain ⟨k, hk, rfl, hEx⟩ := hrel
    by_cases hlt : k < 4
    · have hltz : (k : Int) < 4 := by omega
      have h1 := births_any (HA.out.ext hEx.out) (k : Int)
      rw [want_is k hlt] at h1
      have hwc := wantC_at k hlt
      obtain ⟨x, hx⟩ : ∃ x, (wantL k).1 = x := ⟨_, rfl⟩
      obtain ⟨y, hy⟩ : ∃ y, (wantL k).2 = y := ⟨_, rfl⟩
      rw [show wantL k = (x, y) from by rw [← hx, ← hy]] at h1
      rw [hx, hy] at hwc
      have HWC := Lib.hid hwc
      clear hx hy hwc
      go_wp2_with fail
      refine h1.mono ?_
      rintro e wa ⟨rfl, ea⟩
      clear h1
      go_upto_region 8 with fail
      obtain ⟨p6, hp6⟩ : ∃ p6, wa.heap.size = p6 := ⟨_, rfl⟩
      obtain ⟨wb, hwb⟩ : ∃ wb, wa.alloc (.cells #[.int .i64 x, .int .i64 y] 26) = wb := ⟨_, rfl⟩
      have eb : Ext wa wb := by rw [← hwb]; exact ext_alloc _ _
      have R6 := Lib.hid (show wb.heap[p6]? = some (.cells #[.int .i64 x, .int .i64 y] 26 (0, 0)) from by rw [← hwb]; exact row_last _ _ _ hp6.symm)
      rw [hwb, hp6]
      have HXb := Lib.hid (hEx.out.trans (ea.trans eb))
      clear hwb hp6 ea eb
      refine kn8_wp (p6 := p6) (gw := gw) (kk := k) (x := x) (y := y) rfl rfl rfl rfl rfl (fun W hW => cell_of_row _ _ 0 _ _ _ (row_ext R6.out hW)) (fun W hW => cell_of_row _ _ 1 _ _ _ (row_ext R6.out hW)) hlt (fun W hW => (cell_of_row W gw (k * 2) _ _ _ (row_ext (row_ext HW.out HXb.out) hW)).trans HWC.out.1) (fun W hW => (cell_of_row W gw (k * 2 + 1) _ _ _ (row_ext (row_ext HW.out HXb.out) hW)).trans HWC.out.2) ?_
      intro W1 e1
      have HE1 := Lib.hid (HXb.out.trans e1)
      simp only [puts, List.foldl_cons, List.foldl_nil, Act.put, List.setIfInBounds_toArray, List.set_cons_succ, List.set_cons_zero]
      clear e1
      go_wp2
      go_roundw
      case measure => simp [intOf]; omega
      case rel => exact ⟨k + 1, by omega, by go_num, HE1⟩
    · have hltz : ¬ (k : Int) < 4 := by omega
      clear hlt
      replace HX := Lib.hid hEx.out
      go_wp2
      go_loopw [8] (fun i wq => ∃ k : Nat, k ≤ 3 ∧ i = .int .i64 k ∧ Hid (Ext wr wq)) (fun i _ => 3 - (intOf i).toNat)
      case atStart => exact ⟨0, Nat.zero_le _, rfl, Lib.hid (Ext.refl _)⟩
      case round =>
        obtain ⟨j, hj, rfl, hEq⟩ := hrel
        by_cases hlt : j < 3
        · have hltz3 : (j : Int) < 3 := by omega
          have h1 := most36_ok (HA.out.ext (HX.out.trans hEq.out)) j (by omega) (for_are j hlt)
          rw [most_are j hlt] at h1
          have hmc := mostC_at j hlt
          obtain ⟨z, hz⟩ : ∃ z, mostL j = z := ⟨_, rfl⟩
          rw [hz] at h1 hmc
          have HMC := Lib.hid hmc
          clear hz hmc
          go_wp2_with fail
          refine h1.mono ?_
          rintro e wa ⟨ea, v, rfl, hv⟩
          obtain ⟨Am, cm, rfl, hm⟩ := hv.held
          have HXb := Lib.hid (hEq.out.trans ea)
          clear h1 hv hm ea
          have d0 : wa.cell? ⟨gm, j, none⟩ = some (.int .i64 z) := (cell_of_row wa gm j _ _ _ (row_ext HM.out (HX.out.trans HXb.out))).trans HMC.out
          go_wp2
          go_roundw
          case measure => simp [intOf]; omega
          case rel => exact ⟨j + 1, by omega, by go_num, HXb⟩
        · have hltz3 : ¬ (j : Int) < 3 := by omega
          clear hlt
          replace HX := Lib.hid (HX.out.trans hEq.out)
          have h1 := does18_any (HA.out.ext HX.out) 81
          rw [z1, show ordersErr exA = 0 from (by kernel_rfl)] at h1
          go_wp2_with fail
          refine h1.mono ?_
          rintro e wa ⟨ea, Ad, cd, rfl, hd, hdc, _⟩
          replace HX := Lib.hid (HX.out.trans ea)
          have HD := Lib.hid hd
          clear h1 hd hdc ea
          have eb : Ext wa (wa.alloc (.cells (cellsI [80, 150]) 2)) := ext_alloc _ _
          have h1 := checkBaths_any (HA.out.ext (HX.out.trans eb)) (some ⟨wa.heap.size, 0, none⟩) 2 2 [80, 150] rfl (by decide) (held_lit _ _ _)
          rw [z2] at h1
          go_wp2_with fail
          refine h1.mono ?_
          rintro e wb ⟨rfl, eb2⟩
          replace HX := Lib.hid (HX.out.trans (eb.trans eb2))
          replace HD := Lib.hid (HD.out.ext (eb.trans eb2))
          clear h1 eb eb2
          have ec : Ext wb (wb.alloc (.cells (cellsI [0, 2]) 3)) := ext_alloc _ _
          have h1 := checkApart_any (HA.out.ext (HX.out.trans ec)) (some ⟨wb.heap.size, 0, none⟩) 2 2 [0, 2] rfl (by decide) (held_lit _ _ _)
          rw [z3] at h1
          go_wp2_with fail
          refine h1.mono ?_
          rintro e wc ⟨rfl, ec2⟩
          replace HX := Lib.hid (HX.out.trans (ec.trans ec2))
          replace HD := Lib.hid (HD.out.ext (ec.trans ec2))
          clear h1 ec ec2
          have h1 := most36_ok (HB.out.ext HX.out) 1 (by decide) z5
          rw [z4] at h1
          go_wp2_with fail
          refine h1.mono ?_
          rintro e wd ⟨ed, v, rfl, hv⟩
          obtain ⟨Am, cm, rfl, hm⟩ := hv.held
          replace HX := Lib.hid (HX.out.trans ed)
          replace HD := Lib.hid (HD.out.ext ed)
          clear h1 ed hv hm
          have ef : Ext wd (wd.alloc (.cells (cellsI [5, 3, 4, 6]) 2)) := ext_alloc _ _
          have h1 := checkPrices_any (HA.out.ext (HX.out.trans ef)) 1 14 (some ⟨wd.heap.size, 0, none⟩) 4 4 [5, 3, 4, 6] rfl (by decide) (held_lit _ _ _)
          rw [z7, z6] at h1
          go_wp2_with fail
          refine h1.mono ?_
          rintro e we ⟨rfl, ef2⟩
          replace HX := Lib.hid (HX.out.trans (ef.trans ef2))
          replace HD := Lib.hid (HD.out.ext (ef.trans ef2))
          clear h1 ef ef2
          have eg : Ext we (we.alloc (.cells (cellsI [3]) 3)) := ext_alloc _ _
          have h1 := ints_any Ad (some ⟨we.heap.size, 0, none⟩) 1 cd 1 1 [3] [3] _ rfl rfl (by decide) (by decide) (HD.out.ext eg) (held_lit we [3] 3)
          rw [decide_eq_true rfl] at h1
          go_wp2_with fail
          refine h1.mono ?_
          rintro e wf ⟨rfl, ef⟩
          have e0 : Ext (we.alloc (.cells (cellsI [3]) 3)) wf := ef
          replace HX := Lib.hid (HX.out.trans (eg.trans e0))
          have h15 := works_any wf
          clear h1 ef e0 eg
          go_wp2_with fail
          refine h15.mono ?_
          rintro e wg ⟨rfl, eh⟩
          have HE := Lib.hid (HE2.out.trans (HX.out.trans eh))
          clear h15 eh
          go_wp2
          go_ret
          exact ⟨rfl, HE.out⟩
end Go.Proofs.YtmlmnljbegcjcaaGreat
