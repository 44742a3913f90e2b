/- Texts of one package, joined: Grow, GrowIt. -/
import Derived.Test.YtlaakmgdbhabfaaC10
import Derived.Test.YtlaakmgdbhabfaaC11
import Derived.ArgAppend
import Derived.Sort.CutIn
/- lists: the list that grows, and the lists that come of it. -/
namespace Go.Proofs.Ytlaakmgdbhabfaa
open Go.RowKit Go.Shelf
attribute [local irreducible] bitCells fitCells Z94 fitOf

/-- All strictly increasing lists of so many numbers below n that begin with xs and go on with numbers from n - f on. -/
def lsOf (long n : Nat) : Nat → List Nat → List (List Nat)
  | 0, _ => []
  | f + 1, xs => (if (xs ++ [n - (f + 1)]).length = long then [xs ++ [n - (f + 1)]] else lsOf long n f (xs ++ [n - (f + 1)])) ++ lsOf long n f xs
def gOf (long n f : Nat) (xs : List Nat) : List (List Nat) := if xs.length = long then [xs] else lsOf long n f xs
theorem lsOf_succ (long n f : Nat) (xs : List Nat) : lsOf long n (f + 1) xs = gOf long n f (xs ++ [n - (f + 1)]) ++ lsOf long n f xs := rfl
/-- The slice v holds js. -/
def LsAt (js : List Nat) (v : Value) (W : World) : Prop := ∃ A c, v = .slice A js.length c ∧ js.length ≤ c ∧ (A = none → c = 0) ∧ Held W W.heap.size 1 encN A js
def numCells (js : List Nat) : List Value := js.map fun (j : Nat) => .int .i64 (j : Int)
theorem LsAt.of_own {W : World} {base : Nat} {js : List Nat} {v : Value} (h : W.ownsRow base 3 1 v js.length (numCells js)) : LsAt js v W := by
  have hfl : numCells js = js.flatMap encN := by unfold numCells; clear h; induction js <;> simp_all [encN]
  rw [hfl] at h
  rcases h.2 with ⟨h0, h1⟩ | ⟨g, cap, cur, h0, _, hg, h1, h2, h3, h4⟩
  · exact ⟨none, 0, by rw [h0, h1], by omega, fun _ => rfl, .inl (List.eq_nil_of_length_eq_zero h1)⟩
  · subst h0
    have := own_held (enc := encN) (n := js.length) (fun x => rfl) rfl h
    exact ⟨_, cap, rfl, h1, fun e => (by cases e), this.1⟩
theorem run_slice30 (w : World) (A : Option Addr) (k c : Nat) (hk : k ≤ c) (hA : k = 0 ∨ ∃ b off, A = some ⟨b, off, none⟩) :
    (Instr.sliceAt 30 (.slice A k c) none (some (.int .i64 (k : Int))) (some (.int .i64 (k : Int)))).run Try.prog w = .ok (.slice A k k) w := by
  obtain ⟨i, hi, hz, hs, hb⟩ := info_parts info3
  have hu : Try.prog.underlying 30 = some (.slice (Try.prog.elem 30)) := by kernel_rfl
  have he : Try.prog.elem 30 = 3 := by kernel_rfl
  rw [run_sliceAt_slice _ _ _ _ _ _ hu, run_slice_hm _ _ _ _ _ hu _ _ _ _ (by omega) (Int.le_refl _) (by omega), he]
  rcases hA with rfl | ⟨b, off, rfl⟩ <;> simp [sizeOf, typeInfo, hi, hs, Result.andThen, sliced, Addr.add_lit]
theorem run_build30 (w : World) (x : Int) : (Instr.buildSlice 30 1 #[(0, .int .i64 x)]).run Try.prog w = .ok (.slice (some ⟨w.heap.size, 0, none⟩) 1 1) (w.alloc (.cells #[.int .i64 x] 3)) := by
  have hf : Try.prog.builtSlice 3 1 [(0, .int .i64 x)] = some #[.int .i64 x] := by kernel_rfl
  have hu : Try.prog.underlying 30 = some (.slice 3) := by kernel_rfl
  unfold Program.builtSlice at hf
  obtain ⟨i, hi, hz⟩ := Option.map_eq_some_iff.1 info3
  simp only [Prod.mk.injEq] at hz
  simp only [hi, hz.1] at hf
  rw [if_neg (by simp [hz.2.1])] at hf
  exact run_buildSlice (P := Try.prog) w 30 3 1 #[(0, .int .i64 x)] #[.int .i64 x] i _ hu hi hz.1 (by simp [hz.2.1]) (by simp [hz.2.1]) hf

/-- The slots of region 6 of function 95. -/
def ls6D (i : Nat) : Tmp := if i = 0 then 28 else if i = 1 then 29 else if i = 2 then 30 else if i = 3 then 31 else if i = 4 then 32 else if i = 5 then 33 else if i = 6 then 34 else if i = 7 then 35 else if i = 8 then 36 else if i = 9 then 37 else if i = 10 then 38 else 39
/-- What each operation yields. -/
def ls6S (p2 p3 p4 p5 : Nat) (A : Option Addr) (k c m : Nat) (js : List Nat) (ix : Nat) (v : Value) (W : World) : Prop :=
  match ix with
  | 0 => v = .func (.func 95) #[] #[.pointer (some ⟨p2, 0, none⟩), .pointer (some ⟨p3, 0, none⟩), .pointer (some ⟨p4, 0, none⟩), .pointer (some ⟨p5, 0, none⟩)]
  | 1 => v = .slice A k c
  | 2 => v = .slice A k c
  | 3 => v = .int .i64 (k : Int)
  | 4 => v = .slice A k c
  | 5 => v = .int .i64 (k : Int)
  | 6 => v = .slice A k k
  | 7 => v = .int .i64 (m : Int)
  | 8 => ∃ g, v = .slice (some ⟨g, 0, none⟩) 1 1 ∧ W.heap[g]? = some (.cells #[.int .i64 (m : Int)] 3 (0, 0))
  | 9 => W.ownsRow 0 3 1 v (js ++ [m]).length (numCells (js ++ [m]))
  | 10 => v = .int .i64 (m : Int)
  | 11 => v = .int .i64 ((m + 1 : Nat) : Int)
  | _ => True
noncomputable def ls6Reg : Array Oper := (Try.f95.body.bind (regionOf · 6)).getD #[]
theorem ls6S_ext {p2 p3 p4 p5 : Nat} {A : Option Addr} {k c m : Nat} {js : List Nat} : ∀ (i : Nat) (v : Value) (W W' : World), ls6S p2 p3 p4 p5 A k c m js i v W → Below W.heap.size W W' → ls6S p2 p3 p4 p5 A k c m js i v W' := by
  intro i v W W' h e
  match i with
  | 0 => exact h
  | 1 => exact h
  | 2 => exact h
  | 3 => exact h
  | 4 => exact h
  | 5 => exact h
  | 6 => exact h
  | 7 => exact h
  | 8 => (obtain ⟨g, h1, h2⟩ := h; exact ⟨g, h1, row_ext h2 e⟩)
  | 9 => exact owns_ext h e
  | 10 => exact h
  | 11 => exact h
  | k + 12 => exact trivial
def ls6Ok (p2 p3 p4 p5 : Nat) (A : Option Addr) (k c m : Nat) (js : List Nat) (Q : Exit → Act → World → Prop) (a : Act) (W : World) (ix : Nat) (o : Oper) : Prop :=
  (∀ j b, o.guard = some (j, b) → a.eval (.tmp (ls6D j)) = .bool b) ∧ o.wp Try.prog a W (fun a'' W' => ∃ v, a'' = a.put o.dst v ∧ ls6S p2 p3 p4 p5 A k c m js ix v W' ∧ Below W.heap.size W W') Q
section
variable {p2 p3 p4 p5 : Nat} {A : Option Addr} {k c m : Nat} {js : List Nat} {Q : Exit → Act → World → Prop} {a : Act} {V W : World} {o : Oper}
set_option maxHeartbeats 1000000 in
theorem ls6_op0 (o5 : a.eval (.tmp 5) = .pointer (some ⟨p5, 0, none⟩)) (q5 : ∀ W, Ext V W → W.cell? ⟨p5, 0, none⟩ = some (.func (.func 95) #[] #[.pointer (some ⟨p2, 0, none⟩), .pointer (some ⟨p3, 0, none⟩), .pointer (some ⟨p4, 0, none⟩), .pointer (some ⟨p5, 0, none⟩)])) (hB : Ext V W) (ho : ls6Reg[0]? = some o) : ls6Ok p2 p3 p4 p5 A k c m js Q a W 0 o := by
  have hop := op_at ho (·.op) (x := Op.load 61 (Operand.tmp 5)) (by kernel_rfl)
  have hgd := op_at ho (·.guard) (x := none) (by kernel_rfl)
  refine ⟨fun j b h => (by rw [hgd] at h; cases h), ?_⟩
  have q5' := q5 W hB
  exact specs_value (R := fun v W => ls6S p2 p3 p4 p5 A k c m js 0 v W) (v := .func (.func 95) #[] #[.pointer (some ⟨p2, 0, none⟩), .pointer (some ⟨p3, 0, none⟩), .pointer (some ⟨p4, 0, none⟩), .pointer (some ⟨p5, 0, none⟩)]) (by simp [execOp, hop, go_sem, ev o5, q5']) rfl (Ext.refl W)
set_option maxHeartbeats 1000000 in
theorem ls6_op1 (o0 : a.eval (.tmp 0) = .slice A k c) (ho : ls6Reg[1]? = some o) : ls6Ok p2 p3 p4 p5 A k c m js Q a W 1 o := by
  have hop := op_at ho (·.op) (x := Op.move (Operand.tmp 0)) (by kernel_rfl)
  have hgd := op_at ho (·.guard) (x := none) (by kernel_rfl)
  refine ⟨fun j b h => (by rw [hgd] at h; cases h), ?_⟩
  exact specs_value (R := fun v W => ls6S p2 p3 p4 p5 A k c m js 1 v W) (v := .slice A k c) (by simp [execOp, hop, go_sem, ev o0]) rfl (Ext.refl W)
set_option maxHeartbeats 1000000 in
theorem ls6_op2 (o0 : a.eval (.tmp 0) = .slice A k c) (ho : ls6Reg[2]? = some o) : ls6Ok p2 p3 p4 p5 A k c m js Q a W 2 o := by
  have hop := op_at ho (·.op) (x := Op.move (Operand.tmp 0)) (by kernel_rfl)
  have hgd := op_at ho (·.guard) (x := none) (by kernel_rfl)
  refine ⟨fun j b h => (by rw [hgd] at h; cases h), ?_⟩
  exact specs_value (R := fun v W => ls6S p2 p3 p4 p5 A k c m js 2 v W) (v := .slice A k c) (by simp [execOp, hop, go_sem, ev o0]) rfl (Ext.refl W)
set_option maxHeartbeats 1000000 in
theorem ls6_op3 (haft : ∀ j, (o.after.any fun e => decide (e.on = j) && Region.binds .any e) = true → ls6S p2 p3 p4 p5 A k c m js j (a.eval (.tmp (ls6D j))) W) (ho : ls6Reg[3]? = some o) : ls6Ok p2 p3 p4 p5 A k c m js Q a W 3 o := by
  have hop := op_at ho (·.op) (x := Op.call { callee := Callee.builtin Builtin.len, args := #[Operand.tmp 30], argTypes := #[30] }) (by kernel_rfl)
  have hgd := op_at ho (·.guard) (x := none) (by kernel_rfl)
  have e2 : a.eval (.tmp 30) = .slice A k c := haft 2 (op_at ho (fun o => o.after.any fun e => decide (e.on = 2) && Region.binds .any e) (x := true) (by kernel_rfl))
  refine ⟨fun j b h => (by rw [hgd] at h; cases h), ?_⟩
  exact specs_value (R := fun v W => ls6S p2 p3 p4 p5 A k c m js 3 v W) (v := .int .i64 (k : Int)) (by simp [execOp, hop, go_sem, ev e2]) rfl (Ext.refl W)
set_option maxHeartbeats 1000000 in
theorem ls6_op4 (o0 : a.eval (.tmp 0) = .slice A k c) (ho : ls6Reg[4]? = some o) : ls6Ok p2 p3 p4 p5 A k c m js Q a W 4 o := by
  have hop := op_at ho (·.op) (x := Op.move (Operand.tmp 0)) (by kernel_rfl)
  have hgd := op_at ho (·.guard) (x := none) (by kernel_rfl)
  refine ⟨fun j b h => (by rw [hgd] at h; cases h), ?_⟩
  exact specs_value (R := fun v W => ls6S p2 p3 p4 p5 A k c m js 4 v W) (v := .slice A k c) (by simp [execOp, hop, go_sem, ev o0]) rfl (Ext.refl W)
set_option maxHeartbeats 1000000 in
theorem ls6_op5 (haft : ∀ j, (o.after.any fun e => decide (e.on = j) && Region.binds .any e) = true → ls6S p2 p3 p4 p5 A k c m js j (a.eval (.tmp (ls6D j))) W) (ho : ls6Reg[5]? = some o) : ls6Ok p2 p3 p4 p5 A k c m js Q a W 5 o := by
  have hop := op_at ho (·.op) (x := Op.call { callee := Callee.builtin Builtin.len, args := #[Operand.tmp 32], argTypes := #[30] }) (by kernel_rfl)
  have hgd := op_at ho (·.guard) (x := none) (by kernel_rfl)
  have e4 : a.eval (.tmp 32) = .slice A k c := haft 4 (op_at ho (fun o => o.after.any fun e => decide (e.on = 4) && Region.binds .any e) (x := true) (by kernel_rfl))
  refine ⟨fun j b h => (by rw [hgd] at h; cases h), ?_⟩
  exact specs_value (R := fun v W => ls6S p2 p3 p4 p5 A k c m js 5 v W) (v := .int .i64 (k : Int)) (by simp [execOp, hop, go_sem, ev e4]) rfl (Ext.refl W)
set_option maxHeartbeats 1000000 in
theorem ls6_op6 (hsl : ∀ W, (Instr.sliceAt 30 (.slice A k c) none (some (.int .i64 (k : Int))) (some (.int .i64 (k : Int)))).run Try.prog W = .ok (.slice A k k) W) (haft : ∀ j, (o.after.any fun e => decide (e.on = j) && Region.binds .any e) = true → ls6S p2 p3 p4 p5 A k c m js j (a.eval (.tmp (ls6D j))) W) (ho : ls6Reg[6]? = some o) : ls6Ok p2 p3 p4 p5 A k c m js Q a W 6 o := by
  have hop := op_at ho (·.op) (x := Op.slice 30 (Operand.tmp 29) none (some (Operand.tmp 31)) (some (Operand.tmp 33))) (by kernel_rfl)
  have hgd := op_at ho (·.guard) (x := none) (by kernel_rfl)
  have e1 : a.eval (.tmp 29) = .slice A k c := haft 1 (op_at ho (fun o => o.after.any fun e => decide (e.on = 1) && Region.binds .any e) (x := true) (by kernel_rfl))
  have e3 : a.eval (.tmp 31) = .int .i64 (k : Int) := haft 3 (op_at ho (fun o => o.after.any fun e => decide (e.on = 3) && Region.binds .any e) (x := true) (by kernel_rfl))
  have e5 : a.eval (.tmp 33) = .int .i64 (k : Int) := haft 5 (op_at ho (fun o => o.after.any fun e => decide (e.on = 5) && Region.binds .any e) (x := true) (by kernel_rfl))
  refine ⟨fun j b h => (by rw [hgd] at h; cases h), ?_⟩
  have hsl' := hsl W
  exact specs_value (R := fun v W => ls6S p2 p3 p4 p5 A k c m js 6 v W) (v := .slice A k k) (by simp [execOp, hop, go_sem, ev e1, ev e3, ev e5, hsl']) rfl (Ext.refl W)
set_option maxHeartbeats 1000000 in
theorem ls6_op7 (o9 : a.eval (.tmp 9) = .int .i64 (m : Int)) (ho : ls6Reg[7]? = some o) : ls6Ok p2 p3 p4 p5 A k c m js Q a W 7 o := by
  have hop := op_at ho (·.op) (x := Op.move (Operand.tmp 9)) (by kernel_rfl)
  have hgd := op_at ho (·.guard) (x := none) (by kernel_rfl)
  refine ⟨fun j b h => (by rw [hgd] at h; cases h), ?_⟩
  exact specs_value (R := fun v W => ls6S p2 p3 p4 p5 A k c m js 7 v W) (v := .int .i64 (m : Int)) (by simp [execOp, hop, go_sem, ev o9]) rfl (Ext.refl W)
set_option maxHeartbeats 1000000 in
theorem ls6_op8 (haft : ∀ j, (o.after.any fun e => decide (e.on = j) && Region.binds .any e) = true → ls6S p2 p3 p4 p5 A k c m js j (a.eval (.tmp (ls6D j))) W) (ho : ls6Reg[8]? = some o) : ls6Ok p2 p3 p4 p5 A k c m js Q a W 8 o := by
  have hop := op_at ho (·.op) (x := Op.buildSlice 30 1 #[(0, Operand.tmp 35)]) (by kernel_rfl)
  have hgd := op_at ho (·.guard) (x := none) (by kernel_rfl)
  have e7 : a.eval (.tmp 35) = .int .i64 (m : Int) := haft 7 (op_at ho (fun o => o.after.any fun e => decide (e.on = 7) && Region.binds .any e) (x := true) (by kernel_rfl))
  refine ⟨fun j b h => (by rw [hgd] at h; cases h), ?_⟩
  exact specs_value (R := fun v W => ls6S p2 p3 p4 p5 A k c m js 8 v W) (v := .slice (some ⟨W.heap.size, 0, none⟩) 1 1) (W' := W.alloc (.cells #[.int .i64 (m : Int)] 3)) (by simp [execOp, hop, e7, run_build30, Result.andThen]) ⟨_, rfl, row_last _ _ _ rfl⟩ (ext_alloc _ _)
set_option maxHeartbeats 1000000 in
theorem ls6_op9 (hk : k = js.length) (hk12 : k ≤ 12) (hA0 : A = none → k = 0) (hh : ∀ W, Ext V W → Held W W.heap.size 1 encN A js) (hB : Ext V W) (haft : ∀ j, (o.after.any fun e => decide (e.on = j) && Region.binds .any e) = true → ls6S p2 p3 p4 p5 A k c m js j (a.eval (.tmp (ls6D j))) W) (ho : ls6Reg[9]? = some o) : ls6Ok p2 p3 p4 p5 A k c m js Q a W 9 o := by
  have hop := op_at ho (·.op) (x := Op.call { callee := Callee.builtin Builtin.append, args := #[Operand.tmp 34, Operand.tmp 36], argTypes := #[30, 30] }) (by kernel_rfl)
  have hgd := op_at ho (·.guard) (x := none) (by kernel_rfl)
  have e6 : a.eval (.tmp 34) = .slice A k k := haft 6 (op_at ho (fun o => o.after.any fun e => decide (e.on = 6) && Region.binds .any e) (x := true) (by kernel_rfl))
  have e8 : ls6S p2 p3 p4 p5 A k c m js 8 (a.eval (.tmp 36)) W := haft 8 (op_at ho (fun o => o.after.any fun e => decide (e.on = 8) && Region.binds .any e) (x := true) (by kernel_rfl))
  refine ⟨fun j b h => (by rw [hgd] at h; cases h), ?_⟩
  obtain ⟨g, e8v, e8r⟩ := e8
  obtain ⟨i0, hi, hz0, hz1, hz2⟩ := info_parts info3
  have hnews : ∀ j u, ([.int .i64 (m : Int)] : List Value)[j]? = some u → W.cell? ((⟨g, 0, none⟩ : Addr).add j) = some u := World.news_of_block e8r
  have h1c : ∀ u ∈ ([.int .i64 (m : Int)] : List Value), u.oneCell' = true := one_cell' _
  have hcells : numCells (js ++ [m]) = numCells js ++ [.int .i64 (m : Int)] := by simp [numCells]
  have hle : (js ++ [m]).length = k + 1 := by simp [hk]
  have hu : Try.prog.underlying 30 = some (.slice 3) := by kernel_rfl
  have hh' := hh W hB
  have hlo : (numCells js).length = k * 1 := by simp [numCells, hk]
  cases hA : A with
  | none =>
    have hk0 := hA0 hA
    obtain rfl : js = [] := List.eq_nil_of_length_eq_zero (by omega)
    subst hA hk0
    obtain ⟨v', w', hrun, r1, r2, _⟩ := run_append_own (P := Try.prog) W W.heap.size 30 o.type 3 i0 (.int .i64 0) 1 8 hu hi hz0 hz1 hz2 rfl (by decide) (.slice none 0 0) 0 [] (World.ownsRow_nil _ _ _ _) ⟨g, 0, none⟩ 1 1 [.int .i64 (m : Int)] rfl hnews h1c (by unfold maxLen; omega) (by omega) (Nat.le_refl _)
    exact specs_value (R := fun v W => ls6S p2 p3 p4 p5 none 0 c m [] 9 v W) (v := v') (W' := w') (by simp [execOp, hop, resolve, invoke, builtin, e6, e8v, hrun, Result.andThen]) (owns_mono r1 (Nat.zero_le _)) ((Below.refl W.heap.size W).grown r2 (Nat.le_refl _) (fun k e => by cases e))
  | some ad =>
    subst hA
    have holds : ∀ j u, (numCells js)[j]? = some u → W.cell? (ad.add j) = some u := by
      intro j u hj
      rcases hh' with rfl | ⟨b, off, e, _, hc⟩
      · simp [numCells] at hj
      · cases e
        unfold numCells at hj
        rw [List.getElem?_map] at hj
        obtain ⟨x, hx, rfl⟩ := Option.map_eq_some_iff.1 hj
        have := hc j x hx 0 _ rfl
        rw [Addr.add_lit]
        simpa using this
    obtain ⟨v', w', hrun, r1, r2⟩ := run_append_arg_grows (P := Try.prog) W 30 o.type 3 i0 (.int .i64 0) 1 8 hu hi hz0 hz1 hz2 rfl (by decide) ad k k (numCells js) hlo holds ⟨g, 0, none⟩ 1 1 [.int .i64 (m : Int)] rfl hnews (by omega) (by unfold maxLen; omega) (by omega)
    exact specs_value (R := fun v W => ls6S p2 p3 p4 p5 (some ad) k c m js 9 v W) (v := v') (W' := w') (by simp [execOp, hop, resolve, invoke, builtin, e6, e8v, hrun, Result.andThen]) (by show World.ownsRow _ 0 3 1 v' (js ++ [m]).length (numCells (js ++ [m])); rw [hle, hcells]; exact owns_mono r1 (Nat.zero_le _)) ((Below.refl W.heap.size W).grown r2 (Nat.le_refl _) (fun k e => by cases e))
set_option maxHeartbeats 1000000 in
theorem ls6_op10 (o9 : a.eval (.tmp 9) = .int .i64 (m : Int)) (ho : ls6Reg[10]? = some o) : ls6Ok p2 p3 p4 p5 A k c m js Q a W 10 o := by
  have hop := op_at ho (·.op) (x := Op.move (Operand.tmp 9)) (by kernel_rfl)
  have hgd := op_at ho (·.guard) (x := none) (by kernel_rfl)
  refine ⟨fun j b h => (by rw [hgd] at h; cases h), ?_⟩
  exact specs_value (R := fun v W => ls6S p2 p3 p4 p5 A k c m js 10 v W) (v := .int .i64 (m : Int)) (by simp [execOp, hop, go_sem, ev o9]) rfl (Ext.refl W)
set_option maxHeartbeats 1000000 in
theorem ls6_op11 (hm : m < 12) (haft : ∀ j, (o.after.any fun e => decide (e.on = j) && Region.binds .any e) = true → ls6S p2 p3 p4 p5 A k c m js j (a.eval (.tmp (ls6D j))) W) (ho : ls6Reg[11]? = some o) : ls6Ok p2 p3 p4 p5 A k c m js Q a W 11 o := by
  have hop := op_at ho (·.op) (x := Op.binOp BinOp.add 3 (Operand.tmp 38) (Operand.const (Value.int IntKind.i64 1)) 3) (by kernel_rfl)
  have hgd := op_at ho (·.guard) (x := none) (by kernel_rfl)
  have e10 : a.eval (.tmp 38) = .int .i64 (m : Int) := haft 10 (op_at ho (fun o => o.after.any fun e => decide (e.on = 10) && Region.binds .any e) (x := true) (by kernel_rfl))
  refine ⟨fun j b h => (by rw [hgd] at h; cases h), ?_⟩
  have hw : IntKind.i64.wrap ((m : Int) + 1) = ((m + 1 : Nat) : Int) := by rw [IntWalk.i64_in _ (by omega)]; omega
  exact specs_value (R := fun v W => ls6S p2 p3 p4 p5 A k c m js 11 v W) (v := .int .i64 ((m + 1 : Nat) : Int)) (by simp [execOp, hop, go_sem, ev e10, hw]) rfl (Ext.refl W)
set_option maxRecDepth 100000 in
set_option maxHeartbeats 4000000 in
/-- Region 6 of function 95. -/
theorem ls6_wp {id : Nat} (hlen : a.tmps.size = 42) (o0 : a.eval (.tmp 0) = .slice A k c) (o5 : a.eval (.tmp 5) = .pointer (some ⟨p5, 0, none⟩)) (o9 : a.eval (.tmp 9) = .int .i64 (m : Int)) (q5 : ∀ W, Ext V W → W.cell? ⟨p5, 0, none⟩ = some (.func (.func 95) #[] #[.pointer (some ⟨p2, 0, none⟩), .pointer (some ⟨p3, 0, none⟩), .pointer (some ⟨p4, 0, none⟩), .pointer (some ⟨p5, 0, none⟩)])) (hsl : ∀ W, (Instr.sliceAt 30 (.slice A k c) none (some (.int .i64 (k : Int))) (some (.int .i64 (k : Int)))).run Try.prog W = .ok (.slice A k k) W) (hk : k = js.length) (hk12 : k ≤ 12) (hA0 : A = none → k = 0) (hh : ∀ W, Ext V W → Held W W.heap.size 1 encN A js) (hm : m < 12) (K : (∀ W v8 v9, Ext V W → ls6S p2 p3 p4 p5 A k c m js 8 v8 W → ls6S p2 p3 p4 p5 A k c m js 9 v9 W → wpList Try.prog ls6Reg Q (ls6Reg.toList.drop 12) (puts a [(28, .func (.func 95) #[] #[.pointer (some ⟨p2, 0, none⟩), .pointer (some ⟨p3, 0, none⟩), .pointer (some ⟨p4, 0, none⟩), .pointer (some ⟨p5, 0, none⟩)]), (29, .slice A k c), (30, .slice A k c), (31, .int .i64 (k : Int)), (32, .slice A k c), (33, .int .i64 (k : Int)), (34, .slice A k k), (35, .int .i64 (m : Int)), (36, v8), (37, v9), (38, .int .i64 (m : Int)), (39, .int .i64 ((m + 1 : Nat) : Int))]) W)) : (Code.region id ls6Reg true).wp Try.prog Q a V := by
  refine wp_region_specs_sink (ops := ls6Reg) 12 (ls6S p2 p3 p4 p5 A k c m js) (Ext V) (by kernel_rfl) (by rw [hlen]; kernel_rfl) (by kernel_rfl) ⟨rfl, rfl, rfl, Nat.le_refl _, fun _ _ => rfl⟩ (fun _ _ h e => h.trans e) ls6S_ext ls6D (by kernel_rfl) ?_ ?_
  · intro i o hi ho a' W hB hsz hold haft
    match i, hi with
    | 0, _ => exact ls6_op0 ((hold 5 (by kernel_rfl)).trans o5) q5 hB ho
    | 1, _ => exact ls6_op1 ((hold 0 (by kernel_rfl)).trans o0) ho
    | 2, _ => exact ls6_op2 ((hold 0 (by kernel_rfl)).trans o0) ho
    | 3, _ => exact ls6_op3 haft ho
    | 4, _ => exact ls6_op4 ((hold 0 (by kernel_rfl)).trans o0) ho
    | 5, _ => exact ls6_op5 haft ho
    | 6, _ => exact ls6_op6 hsl haft ho
    | 7, _ => exact ls6_op7 ((hold 9 (by kernel_rfl)).trans o9) ho
    | 8, _ => exact ls6_op8 haft ho
    | 9, _ => exact ls6_op9 hk hk12 hA0 hh hB haft ho
    | 10, _ => exact ls6_op10 ((hold 9 (by kernel_rfl)).trans o9) ho
    | 11, _ => exact ls6_op11 hm haft ho
    | m + 12, h => exact absurd h (by omega)
  · intro a1 W hB hsz hdf hold hS
    obtain ⟨v8, g8⟩ : ∃ v, v = a1.eval (.tmp 36) := ⟨_, rfl⟩
    obtain ⟨v9, g9⟩ : ∃ v, v = a1.eval (.tmp 37) := ⟨_, rfl⟩
    have hall : ∀ z, z ∈ ([(28, .func (.func 95) #[] #[.pointer (some ⟨p2, 0, none⟩), .pointer (some ⟨p3, 0, none⟩), .pointer (some ⟨p4, 0, none⟩), .pointer (some ⟨p5, 0, none⟩)]), (29, .slice A k c), (30, .slice A k c), (31, .int .i64 (k : Int)), (32, .slice A k c), (33, .int .i64 (k : Int)), (34, .slice A k k), (35, .int .i64 (m : Int)), (36, v8), (37, v9), (38, .int .i64 (m : Int)), (39, .int .i64 ((m + 1 : Nat) : Int))] : List (Tmp × Value)) → z.1 < a.tmps.size ∧ a1.eval (.tmp z.1) = z.2 := by
      intro z hz
      rw [hlen]
      simp only [List.mem_cons, List.not_mem_nil, or_false] at hz
      rcases hz with rfl | rfl | rfl | rfl | rfl | rfl | rfl | rfl | rfl | rfl | rfl | rfl
      · exact ⟨(show (28 : Nat) < 42 by omega), hS 0 (by omega)⟩
      · exact ⟨(show (29 : Nat) < 42 by omega), hS 1 (by omega)⟩
      · exact ⟨(show (30 : Nat) < 42 by omega), hS 2 (by omega)⟩
      · exact ⟨(show (31 : Nat) < 42 by omega), hS 3 (by omega)⟩
      · exact ⟨(show (32 : Nat) < 42 by omega), hS 4 (by omega)⟩
      · exact ⟨(show (33 : Nat) < 42 by omega), hS 5 (by omega)⟩
      · exact ⟨(show (34 : Nat) < 42 by omega), hS 6 (by omega)⟩
      · exact ⟨(show (35 : Nat) < 42 by omega), hS 7 (by omega)⟩
      · exact ⟨(show (36 : Nat) < 42 by omega), g8.symm⟩
      · exact ⟨(show (37 : Nat) < 42 by omega), g9.symm⟩
      · exact ⟨(show (38 : Nat) < 42 by omega), hS 10 (by omega)⟩
      · exact ⟨(show (39 : Nat) < 42 by omega), hS 11 (by omega)⟩
    have ha := act_puts hsz hdf hall (fun t ht => hold t (all_ne_of (l := [(28, .func (.func 95) #[] #[.pointer (some ⟨p2, 0, none⟩), .pointer (some ⟨p3, 0, none⟩), .pointer (some ⟨p4, 0, none⟩), .pointer (some ⟨p5, 0, none⟩)]), (29, .slice A k c), (30, .slice A k c), (31, .int .i64 (k : Int)), (32, .slice A k c), (33, .int .i64 (k : Int)), (34, .slice A k k), (35, .int .i64 (m : Int)), (36, v8), (37, v9), (38, .int .i64 (m : Int)), (39, .int .i64 ((m + 1 : Nat) : Int))]) (by kernel_rfl) ht))
    rw [ha]
    exact K W v8 v9 hB (by rw [g8]; exact hS 8 (by omega)) (by rw [g9]; exact hS 9 (by omega))
end
end Go.Proofs.Ytlaakmgdbhabfaa

/- lists: the function that grows a list, and the iterator. -/
namespace Go.Proofs.Ytlaakmgdbhabfaa
open Go.RowKit Go.Shelf
attribute [local go_sem] Oper.semAt_some
attribute [local irreducible] bitCells fitCells Z94 fitOf

theorem ls6_tail {a : Act} {W : World} {Q : Exit → Act → World → Prop} {cap : Array Value} {v : Value} {x : Int} {R : Bool → World → Prop} (e28 : a.eval (.tmp 28) = .func (.func 95) #[] cap) (e37 : a.eval (.tmp 37) = v) (e39 : a.eval (.tmp 39) = .int .i64 x)
    (h40 : 40 < a.tmps.size) (hc : Calls Try.prog 95 (#[v, .int .i64 x] ++ cap) W fun e w' => ∃ b, e = .returned (.bool b) ∧ R b w')
    (K : ∀ b w', R b w' → Q .normal ((a.put (some 40) (.bool b)).put (some 41) (.bool (!b))) w') : wpList Try.prog ls6Reg Q (ls6Reg.toList.drop 12) a W := by
  obtain ⟨o1, o2, hdr, h1, h2⟩ : ∃ o1 o2, ls6Reg.toList.drop 12 = [o1, o2] ∧ ls6Reg[12]? = some o1 ∧ ls6Reg[13]? = some o2 := by
    have hs : ls6Reg.size = 14 := by kernel_rfl
    refine ⟨ls6Reg[12], ls6Reg[13], ?_, by simp, by simp⟩
    rw [List.drop_eq_getElem_cons (by simp [hs]), List.drop_eq_getElem_cons (by simp [hs]), List.drop_eq_nil_of_le (by simp [hs])]
    simp
  rw [hdr]
  have hop1 := op_at h1 (·.op) (x := Op.call { callee := Callee.value (Operand.tmp 28), args := #[Operand.tmp 37, Operand.tmp 39], argTypes := #[30, 3] }) (by kernel_rfl)
  have hg1 := op_at h1 (·.guard) (x := none) (by kernel_rfl)
  have hd1 := op_at h1 (·.dst) (x := some 40) (by kernel_rfl)
  have hop2 := op_at h2 (·.op) (x := Op.unOp UnOp.not 4 (Operand.tmp 40)) (by kernel_rfl)
  have hg2 := op_at h2 (·.guard) (x := none) (by kernel_rfl)
  have hd2 := op_at h2 (·.dst) (x := some 41) (by kernel_rfl)
  simp only [wpList]
  rw [if_pos (by simp [Region.wanted, hg1])]
  left
  have hr : (execOp a.eval o1).run Try.prog W = .ok (.enter 95 (#[v, .int .i64 x] ++ cap)) W := by simp [execOp, hop1, go_sem, ev e28, ev e37, ev e39]
  unfold Oper.wp
  rw [hr]
  refine hc.mono ?_
  rintro e w' ⟨b, rfl, hR⟩
  dsimp only
  rw [if_pos (by simp [Region.wanted, hg2])]
  left
  obtain ⟨a1, ha1⟩ : ∃ a1, a.put o1.dst (.bool b) = a1 := ⟨_, rfl⟩
  have e40 : a1.eval (.tmp 40) = .bool b := by rw [← ha1, hd1]; simp [Act.put, Act.eval, h40]
  rw [ha1]
  have hr2 : (execOp a1.eval o2).run Try.prog w' = .ok (.value (.bool (!b))) w' := by simp [execOp, hop2, go_sem, ev e40]
  rw [hr2]
  show Q .normal (a1.put o2.dst (.bool (!b))) w'
  rw [hd2, ← ha1, hd1]
  exact K b w' hR

/-- What the function that grows a list finds in memory. -/
structure LsMem (W : World) (l p2 p3 p4 p5 b long : Nat) (A : Option Addr) (n c : Nat) (A' : Option Addr) (n' c' : Nat) (A2 : Option Addr) (k2 c2 : Nat) : Prop where
  long : W.heap[p2]? = some (.cells #[.int .i64 (long : Int)] 3 (0, 0))
  yield : W.heap[p3]? = some (.cells #[.func (.yield l) #[] #[]] 109 (0, 0))
  sheet : W.heap[p4]? = some (.cells #[.pointer (some ⟨b, 0, none⟩)] 83 (0, 0))
  grow : W.heap[p5]? = some (.cells #[.func (.func 95) #[] #[.pointer (some ⟨p2, 0, none⟩), .pointer (some ⟨p3, 0, none⟩), .pointer (some ⟨p4, 0, none⟩), .pointer (some ⟨p5, 0, none⟩)]] 61 (0, 0))
  row : W.heap[b]? = some (.cells #[.slice A n c, .slice A' n' c', .slice A2 k2 c2] 98 (0, 0))
theorem LsMem.keep {W W' : World} {l p2 p3 p4 p5 b long : Nat} {A : Option Addr} {n c : Nat} {A' : Option Addr} {n' c' : Nat} {A2 : Option Addr} {k2 c2 : Nat} (h : LsMem W l p2 p3 p4 p5 b long A n c A' n' c' A2 k2 c2)
    (hk : ∀ (b : Nat) (cs : Array Value) (t : TypeId) (fr : Nat × Nat), W.heap[b]? = some (Obj.cells cs t fr) → W'.heap[b]? = some (Obj.cells cs t fr)) : LsMem W' l p2 p3 p4 p5 b long A n c A' n' c' A2 k2 c2 :=
  ⟨hk _ _ _ _ h.long, hk _ _ _ _ h.yield, hk _ _ _ _ h.sheet, hk _ _ _ _ h.grow, hk _ _ _ _ h.row⟩

section
variable {l p2 p3 p4 p5 b long : Nat} {A : Option Addr} {n c : Nat} {A' : Option Addr} {n' c' : Nat} {A2 : Option Addr} {k2 c2 : Nat}
/-- The cells that hold js stay if all cells do. -/
theorem LsAt.keep {js : List Nat} {v : Value} {W W' : World} (h : LsAt js v W) (hz : W.heap.size ≤ W'.heap.size)
    (hk : ∀ (b : Nat) (cs : Array Value) (t : TypeId) (fr : Nat × Nat), W.heap[b]? = some (Obj.cells cs t fr) → W'.heap[b]? = some (Obj.cells cs t fr)) : LsAt js v W' := by
  obtain ⟨A, c, h1, h2, h3, h4⟩ := h
  refine ⟨A, c, h1, h2, h3, ?_⟩
  rcases h4 with h4 | ⟨b, off, rfl, hb, hc⟩
  · exact .inl h4
  · refine .inr ⟨b, off, rfl, by omega, fun j x hx i v hv => ?_⟩
    have h5 := hc j x hx i v hv
    obtain ⟨cs, t, fr, h6⟩ : ∃ cs t fr, W.heap[b]? = some (.cells cs t fr) := by
      simp only [World.cell?] at h5
      cases h7 : W.heap[b]? with
      | none => rw [h7] at h5; simp at h5
      | some o => cases o <;> first | exact ⟨_, _, _, rfl⟩ | (rw [h7] at h5; simp at h5)
    have h8 := hk _ _ _ _ h6
    simp only [World.cell?, h6] at h5
    simp only [World.cell?, h8]
    exact h5

set_option maxRecDepth 100000 in
set_option maxHeartbeats 4000000 in
theorem grow_any (N n₀ : Nat) (hN : 1 ≤ N) (h12 : n' ≤ 12) (all : List (List Nat)) (J Jx : List (List Nat) → World → Prop) (hJe : ∀ s X X', J s X → Ext X X' → J s X')
    (hY : ∀ pre js v W1, J pre W1 → (pre ++ [js]) <+: all → LsAt js v W1 → YieldAt Fence.wide (N - 1) Try.prog l #[v] W1 fun e W' =>
      (e = .returned (.bool true) ∧ J (pre ++ [js]) W' ∧ KeepsCells n₀ W1 W') ∨ (e = .returned (.bool false) ∧ Jx (pre ++ [js]) W')) :
    ∀ (f : Nat) (pre : List (List Nat)) (js : List Nat) (v : Value) (W : World), LsMem W l p2 p3 p4 p5 b long A n c A' n' c' A2 k2 c2 → n₀ ≤ W.heap.size → f ≤ n' → js.length + f ≤ n' → J pre W → (pre ++ gOf long n' f js) <+: all → LsAt js v W →
      Calls Try.prog 95 #[v, .int .i64 ((n' - f : Nat) : Int), .pointer (some ⟨p2, 0, none⟩), .pointer (some ⟨p3, 0, none⟩), .pointer (some ⟨p4, 0, none⟩), .pointer (some ⟨p5, 0, none⟩)] W fun e W' =>
        (e = .returned (.bool true) ∧ J (pre ++ gOf long n' f js) W' ∧ KeepsCells n₀ W W') ∨ (e = .returned (.bool false) ∧ ∃ q, q <+: all ∧ Jx q W') := by
  intro f
  induction f using Nat.strongRecOn with
  | ind f ih =>
  intro pre js v W hM hn0 hf hlen hJ hall hv
  obtain ⟨Av, cv, rfl, hc1, hc2, hheld⟩ := id hv
  have q2 : W.cell? ⟨p2, 0, none⟩ = some (.int .i64 (long : Int)) := cell_of_row _ _ _ _ _ _ hM.long
  have HM := Lib.hid hM
  have HV := Lib.hid hv
  have HIH := Lib.hid ih
  have HA := Lib.hid hall
  have HH := Lib.hid hheld
  have HC := Lib.hid (And.intro hc1 hc2)
  obtain ⟨k, hk⟩ : ∃ k, js.length = k := ⟨_, rfl⟩
  rw [hk] at hlen ⊢
  have HK := Lib.hid hk
  clear hM hv ih hall hheld hc1 hc2 hk
  refine (callsIn_wide (n := N)).1 ?_
  refine callsIn_of_wp Try.func95 rfl trivial ?_ rfl
  simp only [Try.ntmps95, List.size_toArray, List.length_cons, List.length_nil, Nat.reduceAdd, Nat.reduceSub, Array.replicate_succ, Array.replicate_zero, List.push_toArray, List.append_toArray, List.nil_append, List.cons_append]
  by_cases hkl : k = long
  · have hg : gOf long n' f js = [js] := by unfold gOf; rw [if_pos (by rw [HK.out]; exact hkl)]
    have hkz : ((k : Int) == (long : Int)) = true := by simp [hkl]
    have hA := HA.out
    rw [hg] at hA ⊢
    obtain ⟨fn, tmps, assign, body, hy, hR⟩ := hY pre js _ W hJ hA HV.out
    have q3 : W.cell? ⟨p3, 0, none⟩ = some (.func (.yield l) #[] #[]) := cell_of_row _ _ _ _ _ _ HM.out.yield
    rw [HK.out] at hy
    have HHA := Lib.hid hA
    clear hg hkl hA
    gi_wp2
    refine hR.mono ?_
    rintro e W3 (⟨rfl, hJ3, hk3⟩ | ⟨rfl, hJx3⟩)
    · have HK3 := Lib.hid hk3
      clear hk3
      gi_wp2
      go_ret
      exact .inl ⟨rfl, hJ3, HK3.out⟩
    · gi_wp2
      go_ret
      exact .inr ⟨rfl, _, HHA.out, hJx3⟩
  · have hkz : ((k : Int) == (long : Int)) = false := by simp; omega
    have hg : gOf long n' f js = lsOf long n' f js := by unfold gOf; rw [if_neg (by rw [HK.out]; exact hkl)]
    rw [hg]
    have HG := Lib.hid hg
    clear hg hkl
    gi_wp2
    gi_loopw [9] (fun i wr => ∃ g : Nat, g ≤ f ∧ i = .int .i64 ((n' - g : Nat) : Int) ∧ ∃ q, J q wr ∧ Hid (q ++ lsOf long n' g js = pre ++ lsOf long n' f js) ∧ Hid (KeepsCells n₀ W wr)) (fun i _ => n' - (intOf i).toNat)
    case atStart => exact ⟨f, Nat.le_refl _, rfl, pre, hJ, Lib.hid rfl, Lib.hid ⟨Below.refl _ _, fun _ _ _ _ h => h⟩⟩
    case round =>
      clear hJ q2
      obtain ⟨g, hgf, rfl, q, hJq, hq, hK⟩ := hrel
      have hM := HM.out.keep hK.out.2
      have hsz := hK.out.1.size
      have q4 : wr.cell? ⟨p4, 0, none⟩ = some (.pointer (some ⟨b, 0, none⟩)) := cell_of_row _ _ _ _ _ _ hM.sheet
      have qb : wr.cell? ⟨b, 1, none⟩ = some (.slice A' n' c') := cell_of_row _ _ _ _ _ _ hM.row
      have HMM := Lib.hid hM
      clear hM
      by_cases hg0 : g = 0
      · subst hg0
        have hz : ¬ ((n' - 0 : Nat) : Int) < (n' : Int) := by omega
        gi_wp2
        go_ret
        refine .inl ⟨rfl, ?_, hK.out⟩
        have := hq.out
        rw [show lsOf long n' 0 js = [] from rfl, List.append_nil] at this
        rw [← this]
        exact hJq
      · obtain ⟨h, rfl⟩ : ∃ h, g = h + 1 := ⟨g - 1, by omega⟩
        obtain ⟨m, hm⟩ : ∃ m, n' - (h + 1) = m := ⟨_, rfl⟩
        have hmh : n' - h = m + 1 := by omega
        have hmn : m < n' := by omega
        have hz : (m : Int) < (n' : Int) := by omega
        have hpr := hq.out
        rw [lsOf_succ, hm, ← List.append_assoc] at hpr
        have HPR := Lib.hid hpr
        rw [hm]
        have HE := Lib.hid hm
        clear hpr hm hq hg0
        gi_upto_region 6 with fail
        refine wpIn_wide.2 ?_
        have hKK := HK.out
        have hkA : k = 0 ∨ ∃ b off, Av = some ⟨b, off, none⟩ := by
          rcases HH.out with h | ⟨b, off, h, _⟩
          · exact .inl (by rw [← hKK, h]; rfl)
          · exact .inr ⟨b, off, h⟩
        have hle : k ≤ cv := by rw [← hKK]; exact HC.out.1
        have hA0 : Av = none → k = 0 := fun e => by have := HC.out.2 e; omega
        have hhE : ∀ Z, Ext wr Z → Held Z Z.heap.size 1 encN Av js := fun Z hZ => by
          obtain ⟨A9, c9, e9, _, _, h9⟩ := ((HV.out.keep hsz hK.out.2).keep (W' := Z) hZ.size (fun _ _ _ _ h => row_ext h hZ))
          cases e9
          exact h9
        have hq5 : ∀ Z, Ext wr Z → Z.cell? ⟨p5, 0, none⟩ = some (.func (.func 95) #[] #[.pointer (some ⟨p2, 0, none⟩), .pointer (some ⟨p3, 0, none⟩), .pointer (some ⟨p4, 0, none⟩), .pointer (some ⟨p5, 0, none⟩)]) := fun Z hZ => cell_of_row _ _ _ _ _ _ (row_ext HMM.out.grow hZ)
        refine ls6_wp (A := Av) (k := k) (c := cv) (m := m) (js := js) rfl rfl rfl rfl hq5 (fun Z => run_slice30 Z Av k cv hle hkA) hKK.symm (by omega) hA0 hhE (by omega) ?_
        intro W2 v8 v9 hE h8 h9
        have hv9 : LsAt (js ++ [m]) v9 W2 := LsAt.of_own h9
        have hcall := HIH.out h (by omega) q (js ++ [m]) v9 W2 (HMM.out.keep fun _ _ _ _ h => row_ext h hE) (by have := hE.size; omega) (by omega) (by simp; omega) (hJe _ _ _ hJq hE)
          (by
            have h1 := HA.out
            have h2 := HG.out
            rw [h2, ← HPR.out] at h1
            exact (List.prefix_append _ _).trans h1) hv9
        rw [hmh] at hcall
        simp only [puts, List.foldl_cons, List.foldl_nil, Act.put, List.setIfInBounds_toArray, List.set_cons_succ, List.set_cons_zero]
        refine ls6_tail (R := fun b w' => (b = true ∧ J (q ++ gOf long n' h (js ++ [m])) w' ∧ KeepsCells n₀ W2 w') ∨ (b = false ∧ ∃ q, q <+: all ∧ Jx q w')) (v := v9) (x := ((m + 1 : Nat) : Int)) (cap := #[.pointer (some ⟨p2, 0, none⟩), .pointer (some ⟨p3, 0, none⟩), .pointer (some ⟨p4, 0, none⟩), .pointer (some ⟨p5, 0, none⟩)]) rfl rfl rfl (by simp) (hcall.mono ?_) ?_
        · rintro e w' (⟨rfl, h1, h2⟩ | ⟨rfl, h1⟩)
          · exact ⟨true, rfl, .inl ⟨rfl, h1, h2⟩⟩
          · exact ⟨false, rfl, .inr ⟨rfl, h1⟩⟩
        · intro bo w' hR
          have HRR := Lib.hid hR
          have HKW := Lib.hid (KeepsCells.trans hK.out (KeepsCells.ext (n₀ := n₀) hE (by omega)))
          have hmw : ((m + 1 : Nat) : Int) = (m : Int) + 1 := by omega
          clear hR hcall hv9 h8 h9 hq5 hhE hA0 hle hkA hKK hK
          simp only [Exit.then, Act.put, List.setIfInBounds_toArray, List.set_cons_succ, List.set_cons_zero]
          cases bo with
          | true =>
            obtain ⟨_, h1, h2⟩ := HRR.out.resolve_right (fun h => by cases h.1)
            have H2 := Lib.hid (HKW.out.trans h2)
            clear h2
            gi_wp2
            go_roundw
            case measure => simp [intOf]; omega
            case rel => exact ⟨h, by omega, by go_num, _, h1, HPR, H2⟩
          | false =>
            obtain ⟨_, h1⟩ := HRR.out.resolve_left (fun h => by cases h.1)
            have H1 := Lib.hid h1
            clear h1
            gi_wp2
            go_ret
            exact .inr ⟨rfl, H1.out⟩
end
end Go.Proofs.Ytlaakmgdbhabfaa
