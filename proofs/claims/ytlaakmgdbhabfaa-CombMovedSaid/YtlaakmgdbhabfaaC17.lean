/- Texts of one package, joined: FewReg. -/
import Derived.Test.YtlaakmgdbhabfaaC16
import Derived.ArgAppend
/- fewest: the region that lays a longer list of rows. -/
namespace Go.Proofs.Ytlaakmgdbhabfaa
open Go.RowKit Go.Shelf
attribute [local irreducible] bitCells fitCells Z94 fitOf

def encRw (x : Rw) : List Value := [.int .i64 (x.1 : Int), .int .i64 x.2]
theorem info27c : (Try.prog.info? 27).map (fun i => (i.zero, i.size, i.bytes)) = some (some (.agg #[.int .i64 0, .int .i64 0]), 2, 16) := by kernel_rfl
theorem run_slice54 (w : World) (ad : Addr) (k c : Nat) (hk : k ≤ c) (hp : ad.add 0 = ad) :
    (Instr.sliceAt 54 (.slice (some ad) k c) none (some (.int .i64 (k : Int))) (some (.int .i64 (k : Int)))).run Try.prog w = .ok (.slice (some ad) k k) w := by
  obtain ⟨i, hi, hz, hs, hb⟩ := info_parts info27c
  have hu : Try.prog.underlying 54 = some (.slice (Try.prog.elem 54)) := by kernel_rfl
  have he : Try.prog.elem 54 = 27 := by kernel_rfl
  rw [run_sliceAt_slice _ _ _ _ _ _ hu, run_slice_hm _ _ _ _ _ hu _ _ _ _ (by omega) (Int.le_refl _) (by omega), he]
  simp [sizeOf, typeInfo, hi, hs, Result.andThen, sliced, hp]
theorem run_build54 (w : World) (x y : Int) : (Instr.buildSlice 54 1 #[(0, .agg #[.int .i64 x, .int .i64 y])]).run Try.prog w = .ok (.slice (some ⟨w.heap.size, 0, none⟩) 1 1) (w.alloc (.cells #[.int .i64 x, .int .i64 y] 27)) := by
  have hf : Try.prog.builtSlice 27 1 [(0, .agg #[.int .i64 x, .int .i64 y])] = some #[.int .i64 x, .int .i64 y] := by kernel_rfl
  have hu : Try.prog.underlying 54 = some (.slice 27) := by kernel_rfl
  unfold Program.builtSlice at hf
  obtain ⟨i, hi, hz⟩ := Option.map_eq_some_iff.1 info27c
  simp only [Prod.mk.injEq] at hz
  simp only [hi, hz.1] at hf
  rw [if_neg (by simp [hz.2.1])] at hf
  exact run_buildSlice (P := Try.prog) w 54 27 1 #[(0, .agg #[.int .i64 x, .int .i64 y])] #[.int .i64 x, .int .i64 y] i _ hu hi hz.1 (by simp [hz.2.1]) (by simp [hz.2.1]) hf
theorem flat_rw (r : List Rw) : ∀ j u, (r.flatMap encRw)[j]? = some u → ∃ k x, r[k]? = some x ∧ ((j = k * 2 ∧ u = .int .i64 (x.1 : Int)) ∨ (j = k * 2 + 1 ∧ u = .int .i64 x.2)) := by
  induction r with
  | nil => intro j u h; simp at h
  | cons a r ih =>
    intro j u h
    rw [List.flatMap_cons] at h
    match j with
    | 0 => simp [encRw] at h; exact ⟨0, a, rfl, .inl ⟨rfl, h.symm⟩⟩
    | 1 => simp [encRw] at h; exact ⟨0, a, rfl, .inr ⟨rfl, h.symm⟩⟩
    | j + 2 =>
      simp [encRw] at h
      obtain ⟨k, x, h1, h2⟩ := ih j u h
      refine ⟨k + 1, x, by simpa using h1, ?_⟩
      rcases h2 with ⟨h2, h3⟩ | ⟨h2, h3⟩
      · exact .inl ⟨by omega, h3⟩
      · exact .inr ⟨by omega, h3⟩
theorem flat_rw_len (r : List Rw) : (r.flatMap encRw).length = r.length * 2 := by induction r <;> simp_all [encRw]; omega

/-- The slots of region 18 of function 75. -/
def fw18D (i : Nat) : Tmp := if i = 0 then 86 else if i = 1 then 87 else if i = 2 then 88 else if i = 3 then 89 else if i = 4 then 90 else if i = 5 then 91 else if i = 6 then 92 else if i = 7 then 93 else if i = 8 then 94 else if i = 9 then 95 else if i = 10 then 96 else 97
/-- What each operation yields. -/
def fw18S (g T s b1 o1 k c pf : Nat) (q : List Rw) (x : Rw) (ix : Nat) (v : Value) (W : World) : Prop :=
  match ix with
  | 0 => v = .slice (some ⟨g, 0, none⟩) T T
  | 1 => v = .int .i64 (s : Int)
  | 2 => v = .slice (some ⟨b1, o1, none⟩) k c
  | 3 => v = .slice (some ⟨b1, o1, none⟩) k c
  | 4 => v = .int .i64 (k : Int)
  | 5 => v = .slice (some ⟨b1, o1, none⟩) k c
  | 6 => v = .int .i64 (k : Int)
  | 7 => v = .slice (some ⟨b1, o1, none⟩) k k
  | 8 => v = .pointer (some ⟨pf, 0, none⟩)
  | 9 => v = .agg #[.int .i64 (x.1 : Int), .int .i64 x.2]
  | 10 => ∃ h, v = .slice (some ⟨h, 0, none⟩) 1 1 ∧ W.heap[h]? = some (.cells #[.int .i64 (x.1 : Int), .int .i64 x.2] 27 (0, 0))
  | 11 => W.ownsRow 0 27 2 v (q ++ [x]).length ((q ++ [x]).flatMap encRw)
  | _ => True
noncomputable def fw18Reg : Array Oper := (Try.f75.body.bind (regionOf · 18)).getD #[]
theorem fw18S_ext {g T s b1 o1 k c pf : Nat} {q : List Rw} {x : Rw} : ∀ (i : Nat) (v : Value) (W W' : World), fw18S g T s b1 o1 k c pf q x i v W → Below W.heap.size W W' → fw18S g T s b1 o1 k c pf q x i v W' := by
  intro i v W W' h e
  match i with
  | 0 => exact h
  | 1 => exact h
  | 2 => exact h
  | 3 => exact h
  | 4 => exact h
  | 5 => exact h
  | 6 => exact h
  | 7 => exact h
  | 8 => exact h
  | 9 => exact h
  | 10 => (obtain ⟨h1, h2, h3⟩ := h; exact ⟨h1, h2, row_ext h3 e⟩)
  | 11 => exact owns_ext h e
  | k + 12 => exact trivial
def fw18Ok (g T s b1 o1 k c pf : Nat) (q : List Rw) (x : Rw) (Q : Exit → Act → World → Prop) (a : Act) (W : World) (ix : Nat) (o : Oper) : Prop :=
  (∀ j b, o.guard = some (j, b) → a.eval (.tmp (fw18D j)) = .bool b) ∧ o.wp Try.prog a W (fun a'' W' => ∃ v, a'' = a.put o.dst v ∧ fw18S g T s b1 o1 k c pf q x ix v W' ∧ Below W.heap.size W W') Q
section
variable {g T s b1 o1 k c pf : Nat} {q : List Rw} {x : Rw} {Q : Exit → Act → World → Prop} {a : Act} {V W : World} {o : Oper}
set_option maxHeartbeats 1000000 in
theorem fw18_op0 (o7 : a.eval (.tmp 7) = .slice (some ⟨g, 0, none⟩) T T) (ho : fw18Reg[0]? = some o) : fw18Ok g T s b1 o1 k c pf q x Q a W 0 o := by
  have hop := op_at ho (·.op) (x := Op.move (Operand.tmp 7)) (by kernel_rfl)
  have hgd := op_at ho (·.guard) (x := none) (by kernel_rfl)
  refine ⟨fun j b h => (by rw [hgd] at h; cases h), ?_⟩
  exact specs_value (R := fun v W => fw18S g T s b1 o1 k c pf q x 0 v W) (v := .slice (some ⟨g, 0, none⟩) T T) (by simp [execOp, hop, go_sem, ev o7]) rfl (Ext.refl W)
set_option maxHeartbeats 1000000 in
theorem fw18_op1 (o8 : a.eval (.tmp 8) = .int .i64 (s : Int)) (ho : fw18Reg[1]? = some o) : fw18Ok g T s b1 o1 k c pf q x Q a W 1 o := by
  have hop := op_at ho (·.op) (x := Op.move (Operand.tmp 8)) (by kernel_rfl)
  have hgd := op_at ho (·.guard) (x := none) (by kernel_rfl)
  refine ⟨fun j b h => (by rw [hgd] at h; cases h), ?_⟩
  exact specs_value (R := fun v W => fw18S g T s b1 o1 k c pf q x 1 v W) (v := .int .i64 (s : Int)) (by simp [execOp, hop, go_sem, ev o8]) rfl (Ext.refl W)
set_option maxHeartbeats 1000000 in
theorem fw18_op2 (o11 : a.eval (.tmp 11) = .slice (some ⟨b1, o1, none⟩) k c) (ho : fw18Reg[2]? = some o) : fw18Ok g T s b1 o1 k c pf q x Q a W 2 o := by
  have hop := op_at ho (·.op) (x := Op.move (Operand.tmp 11)) (by kernel_rfl)
  have hgd := op_at ho (·.guard) (x := none) (by kernel_rfl)
  refine ⟨fun j b h => (by rw [hgd] at h; cases h), ?_⟩
  exact specs_value (R := fun v W => fw18S g T s b1 o1 k c pf q x 2 v W) (v := .slice (some ⟨b1, o1, none⟩) k c) (by simp [execOp, hop, go_sem, ev o11]) rfl (Ext.refl W)
set_option maxHeartbeats 1000000 in
theorem fw18_op3 (o11 : a.eval (.tmp 11) = .slice (some ⟨b1, o1, none⟩) k c) (ho : fw18Reg[3]? = some o) : fw18Ok g T s b1 o1 k c pf q x Q a W 3 o := by
  have hop := op_at ho (·.op) (x := Op.move (Operand.tmp 11)) (by kernel_rfl)
  have hgd := op_at ho (·.guard) (x := none) (by kernel_rfl)
  refine ⟨fun j b h => (by rw [hgd] at h; cases h), ?_⟩
  exact specs_value (R := fun v W => fw18S g T s b1 o1 k c pf q x 3 v W) (v := .slice (some ⟨b1, o1, none⟩) k c) (by simp [execOp, hop, go_sem, ev o11]) rfl (Ext.refl W)
set_option maxHeartbeats 1000000 in
theorem fw18_op4 (haft : ∀ j, (o.after.any fun e => decide (e.on = j) && Region.binds .any e) = true → fw18S g T s b1 o1 k c pf q x j (a.eval (.tmp (fw18D j))) W) (ho : fw18Reg[4]? = some o) : fw18Ok g T s b1 o1 k c pf q x Q a W 4 o := by
  have hop := op_at ho (·.op) (x := Op.call { callee := Callee.builtin Builtin.len, args := #[Operand.tmp 89], argTypes := #[54] }) (by kernel_rfl)
  have hgd := op_at ho (·.guard) (x := none) (by kernel_rfl)
  have e3 : a.eval (.tmp 89) = .slice (some ⟨b1, o1, none⟩) k c := haft 3 (op_at ho (fun o => o.after.any fun e => decide (e.on = 3) && Region.binds .any e) (x := true) (by kernel_rfl))
  refine ⟨fun j b h => (by rw [hgd] at h; cases h), ?_⟩
  exact specs_value (R := fun v W => fw18S g T s b1 o1 k c pf q x 4 v W) (v := .int .i64 (k : Int)) (by simp [execOp, hop, go_sem, ev e3]) rfl (Ext.refl W)
set_option maxHeartbeats 1000000 in
theorem fw18_op5 (o11 : a.eval (.tmp 11) = .slice (some ⟨b1, o1, none⟩) k c) (ho : fw18Reg[5]? = some o) : fw18Ok g T s b1 o1 k c pf q x Q a W 5 o := by
  have hop := op_at ho (·.op) (x := Op.move (Operand.tmp 11)) (by kernel_rfl)
  have hgd := op_at ho (·.guard) (x := none) (by kernel_rfl)
  refine ⟨fun j b h => (by rw [hgd] at h; cases h), ?_⟩
  exact specs_value (R := fun v W => fw18S g T s b1 o1 k c pf q x 5 v W) (v := .slice (some ⟨b1, o1, none⟩) k c) (by simp [execOp, hop, go_sem, ev o11]) rfl (Ext.refl W)
set_option maxHeartbeats 1000000 in
theorem fw18_op6 (haft : ∀ j, (o.after.any fun e => decide (e.on = j) && Region.binds .any e) = true → fw18S g T s b1 o1 k c pf q x j (a.eval (.tmp (fw18D j))) W) (ho : fw18Reg[6]? = some o) : fw18Ok g T s b1 o1 k c pf q x Q a W 6 o := by
  have hop := op_at ho (·.op) (x := Op.call { callee := Callee.builtin Builtin.len, args := #[Operand.tmp 91], argTypes := #[54] }) (by kernel_rfl)
  have hgd := op_at ho (·.guard) (x := none) (by kernel_rfl)
  have e5 : a.eval (.tmp 91) = .slice (some ⟨b1, o1, none⟩) k c := haft 5 (op_at ho (fun o => o.after.any fun e => decide (e.on = 5) && Region.binds .any e) (x := true) (by kernel_rfl))
  refine ⟨fun j b h => (by rw [hgd] at h; cases h), ?_⟩
  exact specs_value (R := fun v W => fw18S g T s b1 o1 k c pf q x 6 v W) (v := .int .i64 (k : Int)) (by simp [execOp, hop, go_sem, ev e5]) rfl (Ext.refl W)
set_option maxHeartbeats 1000000 in
theorem fw18_op7 (hsl : ∀ W, (Instr.sliceAt 54 (.slice (some ⟨b1, o1, none⟩) k c) none (some (.int .i64 (k : Int))) (some (.int .i64 (k : Int)))).run Try.prog W = .ok (.slice (some ⟨b1, o1, none⟩) k k) W) (haft : ∀ j, (o.after.any fun e => decide (e.on = j) && Region.binds .any e) = true → fw18S g T s b1 o1 k c pf q x j (a.eval (.tmp (fw18D j))) W) (ho : fw18Reg[7]? = some o) : fw18Ok g T s b1 o1 k c pf q x Q a W 7 o := by
  have hop := op_at ho (·.op) (x := Op.slice 54 (Operand.tmp 88) none (some (Operand.tmp 90)) (some (Operand.tmp 92))) (by kernel_rfl)
  have hgd := op_at ho (·.guard) (x := none) (by kernel_rfl)
  have e2 : a.eval (.tmp 88) = .slice (some ⟨b1, o1, none⟩) k c := haft 2 (op_at ho (fun o => o.after.any fun e => decide (e.on = 2) && Region.binds .any e) (x := true) (by kernel_rfl))
  have e4 : a.eval (.tmp 90) = .int .i64 (k : Int) := haft 4 (op_at ho (fun o => o.after.any fun e => decide (e.on = 4) && Region.binds .any e) (x := true) (by kernel_rfl))
  have e6 : a.eval (.tmp 92) = .int .i64 (k : Int) := haft 6 (op_at ho (fun o => o.after.any fun e => decide (e.on = 6) && Region.binds .any e) (x := true) (by kernel_rfl))
  refine ⟨fun j b h => (by rw [hgd] at h; cases h), ?_⟩
  have hsl' := hsl W
  exact specs_value (R := fun v W => fw18S g T s b1 o1 k c pf q x 7 v W) (v := .slice (some ⟨b1, o1, none⟩) k k) (by simp [execOp, hop, go_sem, ev e2, ev e4, ev e6, hsl']) rfl (Ext.refl W)
set_option maxHeartbeats 1000000 in
theorem fw18_op8 (o10 : a.eval (.tmp 10) = .pointer (some ⟨pf, 0, none⟩)) (ho : fw18Reg[8]? = some o) : fw18Ok g T s b1 o1 k c pf q x Q a W 8 o := by
  have hop := op_at ho (·.op) (x := Op.fieldAddr 94 (Operand.tmp 10) 0) (by kernel_rfl)
  have hgd := op_at ho (·.guard) (x := none) (by kernel_rfl)
  refine ⟨fun j b h => (by rw [hgd] at h; cases h), ?_⟩
  exact specs_value (R := fun v W => fw18S g T s b1 o1 k c pf q x 8 v W) (v := .pointer (some ⟨pf, 0, none⟩)) (by simp [execOp, hop, go_sem, ev o10]) rfl (Ext.refl W)
set_option maxHeartbeats 1000000 in
theorem fw18_op9 (hx0 : ∀ W, Ext V W → W.cell? ⟨pf, 0, none⟩ = some (.int .i64 (x.1 : Int))) (hx1 : ∀ W, Ext V W → W.cell? ⟨pf, 1, none⟩ = some (.int .i64 x.2)) (hB : Ext V W) (haft : ∀ j, (o.after.any fun e => decide (e.on = j) && Region.binds .any e) = true → fw18S g T s b1 o1 k c pf q x j (a.eval (.tmp (fw18D j))) W) (ho : fw18Reg[9]? = some o) : fw18Ok g T s b1 o1 k c pf q x Q a W 9 o := by
  have hop := op_at ho (·.op) (x := Op.load 27 (Operand.tmp 94)) (by kernel_rfl)
  have hgd := op_at ho (·.guard) (x := none) (by kernel_rfl)
  have e8 : a.eval (.tmp 94) = .pointer (some ⟨pf, 0, none⟩) := haft 8 (op_at ho (fun o => o.after.any fun e => decide (e.on = 8) && Region.binds .any e) (x := true) (by kernel_rfl))
  refine ⟨fun j b h => (by rw [hgd] at h; cases h), ?_⟩
  have hx0' := hx0 W hB
  have hx1' := hx1 W hB
  exact specs_value (R := fun v W => fw18S g T s b1 o1 k c pf q x 9 v W) (v := .agg #[.int .i64 (x.1 : Int), .int .i64 x.2]) (by simp [execOp, hop, go_sem, ev e8, hx0', hx1']) rfl (Ext.refl W)
set_option maxHeartbeats 1000000 in
theorem fw18_op10 (haft : ∀ j, (o.after.any fun e => decide (e.on = j) && Region.binds .any e) = true → fw18S g T s b1 o1 k c pf q x j (a.eval (.tmp (fw18D j))) W) (ho : fw18Reg[10]? = some o) : fw18Ok g T s b1 o1 k c pf q x Q a W 10 o := by
  have hop := op_at ho (·.op) (x := Op.buildSlice 54 1 #[(0, Operand.tmp 95)]) (by kernel_rfl)
  have hgd := op_at ho (·.guard) (x := none) (by kernel_rfl)
  have e9 : a.eval (.tmp 95) = .agg #[.int .i64 (x.1 : Int), .int .i64 x.2] := haft 9 (op_at ho (fun o => o.after.any fun e => decide (e.on = 9) && Region.binds .any e) (x := true) (by kernel_rfl))
  refine ⟨fun j b h => (by rw [hgd] at h; cases h), ?_⟩
  exact specs_value (R := fun v W => fw18S g T s b1 o1 k c pf q x 10 v W) (v := .slice (some ⟨W.heap.size, 0, none⟩) 1 1) (W' := W.alloc (.cells #[.int .i64 (x.1 : Int), .int .i64 x.2] 27)) (by simp [execOp, hop, e9, run_build54, Result.andThen]) ⟨_, rfl, row_last _ _ _ rfl⟩ (ext_alloc _ _)
set_option maxHeartbeats 1000000 in
theorem fw18_op11 (hk : k = q.length) (hk12 : k ≤ 5000) (hq : ∀ W, Ext V W → ∀ j y, q[j]? = some y → W.cell? ⟨b1, o1 + j * 2, none⟩ = some (.int .i64 (y.1 : Int)) ∧ W.cell? ⟨b1, o1 + (j * 2 + 1), none⟩ = some (.int .i64 y.2)) (hB : Ext V W) (haft : ∀ j, (o.after.any fun e => decide (e.on = j) && Region.binds .any e) = true → fw18S g T s b1 o1 k c pf q x j (a.eval (.tmp (fw18D j))) W) (ho : fw18Reg[11]? = some o) : fw18Ok g T s b1 o1 k c pf q x Q a W 11 o := by
  have hop := op_at ho (·.op) (x := Op.call { callee := Callee.builtin Builtin.append, args := #[Operand.tmp 93, Operand.tmp 96], argTypes := #[54, 54] }) (by kernel_rfl)
  have hgd := op_at ho (·.guard) (x := none) (by kernel_rfl)
  have e7 : a.eval (.tmp 93) = .slice (some ⟨b1, o1, none⟩) k k := haft 7 (op_at ho (fun o => o.after.any fun e => decide (e.on = 7) && Region.binds .any e) (x := true) (by kernel_rfl))
  have e10 : fw18S g T s b1 o1 k c pf q x 10 (a.eval (.tmp 96)) W := haft 10 (op_at ho (fun o => o.after.any fun e => decide (e.on = 10) && Region.binds .any e) (x := true) (by kernel_rfl))
  refine ⟨fun j b h => (by rw [hgd] at h; cases h), ?_⟩
  obtain ⟨h, e10v, e10r⟩ := e10
  obtain ⟨i0, hi, hz0, hz1, hz2⟩ := info_parts info27c
  have hnews : ∀ j u, ([.int .i64 (x.1 : Int), .int .i64 x.2] : List Value)[j]? = some u → W.cell? ((⟨h, 0, none⟩ : Addr).add j) = some u := World.news_of_block e10r
  have hcells : (q ++ [x]).flatMap encRw = q.flatMap encRw ++ [.int .i64 (x.1 : Int), .int .i64 x.2] := by rw [List.flatMap_append]; rfl
  have hle : (q ++ [x]).length = k + 1 := by simp [hk]
  have hu : Try.prog.underlying 54 = some (.slice 27) := by kernel_rfl
  have hlo : (q.flatMap encRw).length = k * 2 := by rw [flat_rw_len, hk]
  have holds : ∀ j u, (q.flatMap encRw)[j]? = some u → W.cell? ((⟨b1, o1, none⟩ : Addr).add j) = some u := by
    intro j u hj
    rw [Addr.add_lit]
    obtain ⟨r, y, h1, h2⟩ := flat_rw q j u hj
    have h3 := hq W hB r y h1
    rcases h2 with ⟨rfl, rfl⟩ | ⟨rfl, rfl⟩
    · exact h3.1
    · exact h3.2
  obtain ⟨v', w', hrun, r1, r2⟩ := run_append_arg_grows (P := Try.prog) W 54 o.type 27 i0 (.agg #[.int .i64 0, .int .i64 0]) 2 16 hu hi hz0 hz1 hz2 rfl (by decide) ⟨b1, o1, none⟩ k k (q.flatMap encRw) hlo holds ⟨h, 0, none⟩ 1 1 [.int .i64 (x.1 : Int), .int .i64 x.2] rfl hnews (by omega) (by unfold maxLen; omega) (by omega)
  exact specs_value (R := fun v W => fw18S g T s b1 o1 k c pf q x 11 v W) (v := v') (W' := w') (by simp [execOp, hop, resolve, invoke, builtin, e7, e10v, hrun, Result.andThen]) (by show World.ownsRow _ 0 27 2 v' (q ++ [x]).length ((q ++ [x]).flatMap encRw); rw [hle, hcells]; exact owns_mono r1 (Nat.zero_le _)) ((Below.refl W.heap.size W).grown r2 (Nat.le_refl _) (fun k e => by cases e))
set_option maxRecDepth 100000 in
set_option maxHeartbeats 4000000 in
/-- Region 18 of function 75. -/
theorem fw18_wp {id : Nat} (hlen : a.tmps.size = 102) (o7 : a.eval (.tmp 7) = .slice (some ⟨g, 0, none⟩) T T) (o8 : a.eval (.tmp 8) = .int .i64 (s : Int)) (o10 : a.eval (.tmp 10) = .pointer (some ⟨pf, 0, none⟩)) (o11 : a.eval (.tmp 11) = .slice (some ⟨b1, o1, none⟩) k c) (hsl : ∀ W, (Instr.sliceAt 54 (.slice (some ⟨b1, o1, none⟩) k c) none (some (.int .i64 (k : Int))) (some (.int .i64 (k : Int)))).run Try.prog W = .ok (.slice (some ⟨b1, o1, none⟩) k k) W) (hx0 : ∀ W, Ext V W → W.cell? ⟨pf, 0, none⟩ = some (.int .i64 (x.1 : Int))) (hx1 : ∀ W, Ext V W → W.cell? ⟨pf, 1, none⟩ = some (.int .i64 x.2)) (hk : k = q.length) (hk12 : k ≤ 5000) (hq : ∀ W, Ext V W → ∀ j y, q[j]? = some y → W.cell? ⟨b1, o1 + j * 2, none⟩ = some (.int .i64 (y.1 : Int)) ∧ W.cell? ⟨b1, o1 + (j * 2 + 1), none⟩ = some (.int .i64 y.2)) (K : (∀ W v10 v11, Ext V W → fw18S g T s b1 o1 k c pf q x 10 v10 W → fw18S g T s b1 o1 k c pf q x 11 v11 W → wpList Try.prog fw18Reg Q (fw18Reg.toList.drop 12) (puts a [(86, .slice (some ⟨g, 0, none⟩) T T), (87, .int .i64 (s : Int)), (88, .slice (some ⟨b1, o1, none⟩) k c), (89, .slice (some ⟨b1, o1, none⟩) k c), (90, .int .i64 (k : Int)), (91, .slice (some ⟨b1, o1, none⟩) k c), (92, .int .i64 (k : Int)), (93, .slice (some ⟨b1, o1, none⟩) k k), (94, .pointer (some ⟨pf, 0, none⟩)), (95, .agg #[.int .i64 (x.1 : Int), .int .i64 x.2]), (96, v10), (97, v11)]) W)) : (Code.region id fw18Reg true).wp Try.prog Q a V := by
  refine wp_region_specs_sink (ops := fw18Reg) 12 (fw18S g T s b1 o1 k c pf q x) (Ext V) (by kernel_rfl) (by rw [hlen]; kernel_rfl) (by kernel_rfl) ⟨rfl, rfl, rfl, Nat.le_refl _, fun _ _ => rfl⟩ (fun _ _ h e => h.trans e) fw18S_ext fw18D (by kernel_rfl) ?_ ?_
  · intro i o hi ho a' W hB hsz hold haft
    match i, hi with
    | 0, _ => exact fw18_op0 ((hold 7 (by kernel_rfl)).trans o7) ho
    | 1, _ => exact fw18_op1 ((hold 8 (by kernel_rfl)).trans o8) ho
    | 2, _ => exact fw18_op2 ((hold 11 (by kernel_rfl)).trans o11) ho
    | 3, _ => exact fw18_op3 ((hold 11 (by kernel_rfl)).trans o11) ho
    | 4, _ => exact fw18_op4 haft ho
    | 5, _ => exact fw18_op5 ((hold 11 (by kernel_rfl)).trans o11) ho
    | 6, _ => exact fw18_op6 haft ho
    | 7, _ => exact fw18_op7 hsl haft ho
    | 8, _ => exact fw18_op8 ((hold 10 (by kernel_rfl)).trans o10) ho
    | 9, _ => exact fw18_op9 hx0 hx1 hB haft ho
    | 10, _ => exact fw18_op10 haft ho
    | 11, _ => exact fw18_op11 hk hk12 hq hB haft ho
    | m + 12, h => exact absurd h (by omega)
  · intro a1 W hB hsz hdf hold hS
    obtain ⟨v10, g10⟩ : ∃ v, v = a1.eval (.tmp 96) := ⟨_, rfl⟩
    obtain ⟨v11, g11⟩ : ∃ v, v = a1.eval (.tmp 97) := ⟨_, rfl⟩
    have hall : ∀ z, z ∈ ([(86, .slice (some ⟨g, 0, none⟩) T T), (87, .int .i64 (s : Int)), (88, .slice (some ⟨b1, o1, none⟩) k c), (89, .slice (some ⟨b1, o1, none⟩) k c), (90, .int .i64 (k : Int)), (91, .slice (some ⟨b1, o1, none⟩) k c), (92, .int .i64 (k : Int)), (93, .slice (some ⟨b1, o1, none⟩) k k), (94, .pointer (some ⟨pf, 0, none⟩)), (95, .agg #[.int .i64 (x.1 : Int), .int .i64 x.2]), (96, v10), (97, v11)] : List (Tmp × Value)) → z.1 < a.tmps.size ∧ a1.eval (.tmp z.1) = z.2 := by
      intro z hz
      rw [hlen]
      simp only [List.mem_cons, List.not_mem_nil, or_false] at hz
      rcases hz with rfl | rfl | rfl | rfl | rfl | rfl | rfl | rfl | rfl | rfl | rfl | rfl
      · exact ⟨(show (86 : Nat) < 102 by omega), hS 0 (by omega)⟩
      · exact ⟨(show (87 : Nat) < 102 by omega), hS 1 (by omega)⟩
      · exact ⟨(show (88 : Nat) < 102 by omega), hS 2 (by omega)⟩
      · exact ⟨(show (89 : Nat) < 102 by omega), hS 3 (by omega)⟩
      · exact ⟨(show (90 : Nat) < 102 by omega), hS 4 (by omega)⟩
      · exact ⟨(show (91 : Nat) < 102 by omega), hS 5 (by omega)⟩
      · exact ⟨(show (92 : Nat) < 102 by omega), hS 6 (by omega)⟩
      · exact ⟨(show (93 : Nat) < 102 by omega), hS 7 (by omega)⟩
      · exact ⟨(show (94 : Nat) < 102 by omega), hS 8 (by omega)⟩
      · exact ⟨(show (95 : Nat) < 102 by omega), hS 9 (by omega)⟩
      · exact ⟨(show (96 : Nat) < 102 by omega), g10.symm⟩
      · exact ⟨(show (97 : Nat) < 102 by omega), g11.symm⟩
    have ha := act_puts hsz hdf hall (fun t ht => hold t (all_ne_of (l := [(86, .slice (some ⟨g, 0, none⟩) T T), (87, .int .i64 (s : Int)), (88, .slice (some ⟨b1, o1, none⟩) k c), (89, .slice (some ⟨b1, o1, none⟩) k c), (90, .int .i64 (k : Int)), (91, .slice (some ⟨b1, o1, none⟩) k c), (92, .int .i64 (k : Int)), (93, .slice (some ⟨b1, o1, none⟩) k k), (94, .pointer (some ⟨pf, 0, none⟩)), (95, .agg #[.int .i64 (x.1 : Int), .int .i64 x.2]), (96, v10), (97, v11)]) (by kernel_rfl) ht))
    rw [ha]
    exact K W v10 v11 hB (by rw [g10]; exact hS 10 (by omega)) (by rw [g11]; exact hS 11 (by omega))
end
end Go.Proofs.Ytlaakmgdbhabfaa
