/- Texts of one package, joined: CountsReg, Counts, Few72, RKindReg, RKind, Kinds. -/
import Derived.Test.YtchmdkdiilaejaaC21
import Derived.Test.YtchmdkdiilaejaaC42
/- counts of the reference: how its sums lie in memory; its region with a call. -/
namespace Go.Proofs.Ytchmdkdiilaejaa
open Go.RowKit Go.Shelf
attribute [local irreducible] bitCells fitCells Z94 fitOf

/-- R + 1 rows of T sums lie in one block, one behind the other. -/
def FlatAt (W : World) (g T R : Nat) (S : Nat → Nat → Int) : Prop := ∃ C : Array Value, W.heap[g]? = some (.cells C 2 (0, 0)) ∧ C.size = (R + 1) * T ∧ ∀ n s, n ≤ R → s < T → C[n * T + s]? = some (.int .i64 (S n s))
theorem flat_idx {T n s m t : Nat} (hs : s < T) (ht : t < T) (h : n * T + s = m * T + t) : n = m ∧ s = t := by
  have h1 : (n * T + s) / T = n := by rw [Nat.mul_comm, Nat.mul_add_div (by omega), Nat.div_eq_of_lt hs]; omega
  have h2 : (m * T + t) / T = m := by rw [Nat.mul_comm, Nat.mul_add_div (by omega), Nat.div_eq_of_lt ht]; omega
  have : n = m := by rw [← h1, ← h2, h]
  subst this
  exact ⟨rfl, by omega⟩
theorem flat_lt {T R n s : Nat} (hn : n ≤ R) (hs : s < T) : n * T + s < (R + 1) * T := by
  have : n * T ≤ R * T := Nat.mul_le_mul_right T hn
  rw [Nat.add_mul]
  omega
theorem FlatAt.ext {W W' : World} {g T R : Nat} {S : Nat → Nat → Int} (h : FlatAt W g T R S) (e : Ext W W') : FlatAt W' g T R S := by
  obtain ⟨C, h1, h2⟩ := h
  exact ⟨C, row_ext h1 e, h2⟩
theorem FlatAt.congr {W : World} {g T R : Nat} {S S' : Nat → Nat → Int} (h : FlatAt W g T R S) (hS : ∀ n s, n ≤ R → s < T → S' n s = S n s) : FlatAt W g T R S' := by
  obtain ⟨C, h1, h2, h3⟩ := h
  exact ⟨C, h1, h2, fun n s hn hs => by rw [hS n s hn hs]; exact h3 n s hn hs⟩
theorem FlatAt.get {W : World} {g T R n s : Nat} {S : Nat → Nat → Int} (h : FlatAt W g T R S) (hn : n ≤ R) (hs : s < T) : W.cell? ⟨g, n * T + s, none⟩ = some (.int .i64 (S n s)) ∧ W.frozen? ⟨g, n * T + s, none⟩ = false := by
  obtain ⟨C, h1, h2, h3⟩ := h
  exact ⟨(cell_of_row _ _ _ _ _ _ h1).trans (h3 n s hn hs), by simp [World.frozen?, h1]⟩
theorem FlatAt.put {W : World} {g T R n s : Nat} {S S' : Nat → Nat → Int} (h : FlatAt W g T R S) (hn : n ≤ R) (hs : s < T) (hS : ∀ m t, ¬ (m = n ∧ t = s) → S' m t = S m t) : FlatAt (W.setCell ⟨g, n * T + s, none⟩ (.int .i64 (S' n s))) g T R S' := by
  obtain ⟨C, h1, h2, h3⟩ := h
  refine ⟨C.setIfInBounds (n * T + s) (.int .i64 (S' n s)), row_setCell _ _ _ _ _ _ _ h1, by simp [h2], fun m t hm ht => ?_⟩
  by_cases e : m = n ∧ t = s
  · obtain ⟨rfl, rfl⟩ := e
    rw [Array.getElem?_setIfInBounds_self_of_lt (by rw [h2]; exact flat_lt hn hs)]
  · rw [Array.getElem?_setIfInBounds_ne (fun e' => e ((flat_idx hs ht e').imp Eq.symm Eq.symm)), hS m t e]
    exact h3 m t hm ht
theorem FlatAt.new (W : World) (T R : Nat) : FlatAt (W.alloc (.cells (madeCells #[.int .i64 0] ((R + 1) * T)) 2)) W.heap.size T R (fun _ _ => 0) :=
  ⟨_, row_last _ _ _ rfl, size_madeCells _ _, fun _ _ hn hs => made_get _ _ _ (flat_lt hn hs)⟩
/-- The sums behind the first rows of a list. -/
def rwFold (cs ms : List (Int × Int)) (l : List Rw) (h : Nat) : Nat → Nat → Int := (l.map fun x => (noOf cs ms x, 1)).foldl (keyStep (2 ^ ms.length)) (fun n s => if n = 0 ∧ s = h then 1 else 0)
theorem rwFold_snoc (cs ms : List (Int × Int)) (l : List Rw) (x : Rw) (h : Nat) : rwFold cs ms (l ++ [x]) h = keyStep (2 ^ ms.length) (rwFold cs ms l h) (noOf cs ms x, 1) := by
  unfold rwFold
  rw [List.map_append, List.foldl_append]
  rfl
theorem start_cap (h : Nat) : InCap (fun n s => if n = 0 ∧ s = h then 1 else 0) := fun n s => by
  dsimp only
  unfold CAP
  split <;> omega
theorem rwFold_cap (cs ms : List (Int × Int)) (h : Nat) (l : List Rw) : InCap (rwFold cs ms l h) := by
  have : ∀ (P : List (Nat × Nat)) (S : Nat → Nat → Int), InCap S → InCap (P.foldl (keyStep (2 ^ ms.length)) S) := by
    intro P
    induction P with
    | nil => intro S h; exact h
    | cons p P ih => intro S h; exact ih _ (keyStep_cap h p)
  exact this _ _ (start_cap h)

/-- The slots of region 7 of function 73. -/
def ct7D (i : Nat) : Tmp := if i = 0 then 38 else if i = 1 then 39 else if i = 2 then 40 else if i = 3 then 41 else if i = 4 then 42 else if i = 5 then 43 else 11
/-- What each operation yields. -/
def ct7S (_p : Nat) (A : Option Addr) (n c : Nat) (A' : Option Addr) (n' c' g of ln cl jj kk bt : Nat) (x : Int) (ix : Nat) (v : Value) (_W : World) : Prop :=
  match ix with
  | 0 => v = .agg #[.slice A n c, .slice A' n' c']
  | 1 => v = .slice (some ⟨g, of, none⟩) ln cl
  | 2 => v = .int .i64 (jj : Int)
  | 3 => v = .pointer (some ⟨g, of + jj * 2, none⟩)
  | 4 => v = .agg #[.int .i64 (kk : Int), .int .i64 x]
  | 5 => v = .int .i64 (bt : Int)
  | 6 => v = .int .i64 (bt : Int)
  | _ => True
noncomputable def ct7Reg : Array Oper := (Try.f73.body.bind (regionOf · 7)).getD #[]
theorem ct7S_ext {p : Nat} {A : Option Addr} {n c : Nat} {A' : Option Addr} {n' c' g of ln cl jj kk bt : Nat} {x : Int} : ∀ (i : Nat) (v : Value) (W W' : World), ct7S p A n c A' n' c' g of ln cl jj kk bt x i v W → Below W.heap.size W W' → ct7S p A n c A' n' c' g of ln cl jj kk bt x i v W' := by
  intro i v W W' h e
  match i with
  | 0 => exact h
  | 1 => exact h
  | 2 => exact h
  | 3 => exact h
  | 4 => exact h
  | 5 => exact h
  | 6 => exact h
  | k + 7 => exact trivial
def ct7Ok (p : Nat) (A : Option Addr) (n c : Nat) (A' : Option Addr) (n' c' g of ln cl jj kk bt : Nat) (x : Int) (Q : Exit → Act → World → Prop) (a : Act) (W : World) (ix : Nat) (o : Oper) : Prop :=
  (∀ j b, o.guard = some (j, b) → a.eval (.tmp (ct7D j)) = .bool b) ∧ o.wp Try.prog a W (fun a'' W' => ∃ v, a'' = a.put o.dst v ∧ ct7S p A n c A' n' c' g of ln cl jj kk bt x ix v W' ∧ Below W.heap.size W W') Q
section
variable {p : Nat} {A : Option Addr} {n c : Nat} {A' : Option Addr} {n' c' g of ln cl jj kk bt : Nat} {x : Int} {Q : Exit → Act → World → Prop} {a : Act} {V W : World} {o : Oper}
set_option maxHeartbeats 1000000 in
theorem ct7_op0 (o3 : a.eval (.tmp 3) = .pointer (some ⟨p, 0, none⟩)) (q0 : ∀ W, Ext V W → W.cell? ⟨p, 0, none⟩ = some (.slice A n c)) (q1 : ∀ W, Ext V W → W.cell? ⟨p, 1, none⟩ = some (.slice A' n' c')) (hB : Ext V W) (ho : ct7Reg[0]? = some o) : ct7Ok p A n c A' n' c' g of ln cl jj kk bt x Q a W 0 o := by
  have hop := op_at ho (·.op) (x := Op.load 25 (Operand.tmp 3)) (by kernel_rfl)
  have hgd := op_at ho (·.guard) (x := none) (by kernel_rfl)
  refine ⟨fun j b h => (by rw [hgd] at h; cases h), ?_⟩
  have q0' := q0 W hB
  have q1' := q1 W hB
  exact specs_value (R := fun v W => ct7S p A n c A' n' c' g of ln cl jj kk bt x 0 v W) (v := .agg #[.slice A n c, .slice A' n' c']) (by simp [execOp, hop, go_sem, ev o3, q0', q1']) rfl (Ext.refl W)
set_option maxHeartbeats 1000000 in
theorem ct7_op1 (o1 : a.eval (.tmp 1) = .slice (some ⟨g, of, none⟩) ln cl) (ho : ct7Reg[1]? = some o) : ct7Ok p A n c A' n' c' g of ln cl jj kk bt x Q a W 1 o := by
  have hop := op_at ho (·.op) (x := Op.move (Operand.tmp 1)) (by kernel_rfl)
  have hgd := op_at ho (·.guard) (x := none) (by kernel_rfl)
  refine ⟨fun j b h => (by rw [hgd] at h; cases h), ?_⟩
  exact specs_value (R := fun v W => ct7S p A n c A' n' c' g of ln cl jj kk bt x 1 v W) (v := .slice (some ⟨g, of, none⟩) ln cl) (by simp [execOp, hop, go_sem, ev o1]) rfl (Ext.refl W)
set_option maxHeartbeats 1000000 in
theorem ct7_op2 (o10 : a.eval (.tmp 10) = .int .i64 (jj : Int)) (ho : ct7Reg[2]? = some o) : ct7Ok p A n c A' n' c' g of ln cl jj kk bt x Q a W 2 o := by
  have hop := op_at ho (·.op) (x := Op.move (Operand.tmp 10)) (by kernel_rfl)
  have hgd := op_at ho (·.guard) (x := none) (by kernel_rfl)
  refine ⟨fun j b h => (by rw [hgd] at h; cases h), ?_⟩
  exact specs_value (R := fun v W => ct7S p A n c A' n' c' g of ln cl jj kk bt x 2 v W) (v := .int .i64 (jj : Int)) (by simp [execOp, hop, go_sem, ev o10]) rfl (Ext.refl W)
set_option maxHeartbeats 1000000 in
theorem ct7_op3 (hj : jj < ln) (haft : ∀ j, (o.after.any fun e => decide (e.on = j) && Region.binds .any e) = true → ct7S p A n c A' n' c' g of ln cl jj kk bt x j (a.eval (.tmp (ct7D j))) W) (ho : ct7Reg[3]? = some o) : ct7Ok p A n c A' n' c' g of ln cl jj kk bt x Q a W 3 o := by
  have hop := op_at ho (·.op) (x := Op.indexAddr 54 (Operand.tmp 39) (Operand.tmp 40)) (by kernel_rfl)
  have hgd := op_at ho (·.guard) (x := none) (by kernel_rfl)
  have e1 : a.eval (.tmp 39) = .slice (some ⟨g, of, none⟩) ln cl := haft 1 (op_at ho (fun o => o.after.any fun e => decide (e.on = 1) && Region.binds .any e) (x := true) (by kernel_rfl))
  have e2 : a.eval (.tmp 40) = .int .i64 (jj : Int) := haft 2 (op_at ho (fun o => o.after.any fun e => decide (e.on = 2) && Region.binds .any e) (x := true) (by kernel_rfl))
  refine ⟨fun j b h => (by rw [hgd] at h; cases h), ?_⟩
  have hjz : (jj : Int) < (ln : Int) := by omega
  exact specs_value (R := fun v W => ct7S p A n c A' n' c' g of ln cl jj kk bt x 3 v W) (v := .pointer (some ⟨g, of + jj * 2, none⟩)) (by simp [execOp, hop, go_sem, ev e1, ev e2, hjz]) rfl (Ext.refl W)
set_option maxHeartbeats 1000000 in
theorem ct7_op4 (c0 : ∀ W, Ext V W → W.cell? ⟨g, of + jj * 2, none⟩ = some (.int .i64 (kk : Int))) (c1 : ∀ W, Ext V W → W.cell? ⟨g, of + jj * 2 + 1, none⟩ = some (.int .i64 x)) (hB : Ext V W) (haft : ∀ j, (o.after.any fun e => decide (e.on = j) && Region.binds .any e) = true → ct7S p A n c A' n' c' g of ln cl jj kk bt x j (a.eval (.tmp (ct7D j))) W) (ho : ct7Reg[4]? = some o) : ct7Ok p A n c A' n' c' g of ln cl jj kk bt x Q a W 4 o := by
  have hop := op_at ho (·.op) (x := Op.load 27 (Operand.tmp 41)) (by kernel_rfl)
  have hgd := op_at ho (·.guard) (x := none) (by kernel_rfl)
  have e3 : a.eval (.tmp 41) = .pointer (some ⟨g, of + jj * 2, none⟩) := haft 3 (op_at ho (fun o => o.after.any fun e => decide (e.on = 3) && Region.binds .any e) (x := true) (by kernel_rfl))
  refine ⟨fun j b h => (by rw [hgd] at h; cases h), ?_⟩
  have c0' := c0 W hB
  have c1' := c1 W hB
  exact specs_value (R := fun v W => ct7S p A n c A' n' c' g of ln cl jj kk bt x 4 v W) (v := .agg #[.int .i64 (kk : Int), .int .i64 x]) (by simp [execOp, hop, go_sem, ev e3, c0', c1']) rfl (Ext.refl W)
set_option maxHeartbeats 1000000 in
theorem ct7_op5 (hcall : ∀ W, Ext V W → Calls Try.prog 59 #[.agg #[.slice A n c, .slice A' n' c'], .agg #[.int .i64 (kk : Int), .int .i64 x]] W fun e w' => e = .returned (.int .i64 (bt : Int)) ∧ Ext W w') (hB : Ext V W) (haft : ∀ j, (o.after.any fun e => decide (e.on = j) && Region.binds .any e) = true → ct7S p A n c A' n' c' g of ln cl jj kk bt x j (a.eval (.tmp (ct7D j))) W) (ho : ct7Reg[5]? = some o) : ct7Ok p A n c A' n' c' g of ln cl jj kk bt x Q a W 5 o := by
  have hop := op_at ho (·.op) (x := Op.call { callee := Callee.value (Operand.func 59), args := #[Operand.tmp 38, Operand.tmp 42], argTypes := #[25, 27] }) (by kernel_rfl)
  have hgd := op_at ho (·.guard) (x := none) (by kernel_rfl)
  have e0 : a.eval (.tmp 38) = .agg #[.slice A n c, .slice A' n' c'] := haft 0 (op_at ho (fun o => o.after.any fun e => decide (e.on = 0) && Region.binds .any e) (x := true) (by kernel_rfl))
  have e4 : a.eval (.tmp 42) = .agg #[.int .i64 (kk : Int), .int .i64 x] := haft 4 (op_at ho (fun o => o.after.any fun e => decide (e.on = 4) && Region.binds .any e) (x := true) (by kernel_rfl))
  refine ⟨fun j b h => (by rw [hgd] at h; cases h), ?_⟩
  refine specs_call (R := fun v W => ct7S p A n c A' n' c' g of ln cl jj kk bt x 5 v W) (f := 59) (args := #[.agg #[.slice A n c, .slice A' n' c'], .agg #[.int .i64 (kk : Int), .int .i64 x]]) (by simp [execOp, hop, go_sem, ev e0, ev e4]) ((hcall W hB).mono ?_)
  rintro e w' ⟨rfl, h3⟩
  exact ⟨_, rfl, rfl, h3⟩
set_option maxHeartbeats 1000000 in
theorem ct7_op6 (haft : ∀ j, (o.after.any fun e => decide (e.on = j) && Region.binds .any e) = true → ct7S p A n c A' n' c' g of ln cl jj kk bt x j (a.eval (.tmp (ct7D j))) W) (ho : ct7Reg[6]? = some o) : ct7Ok p A n c A' n' c' g of ln cl jj kk bt x Q a W 6 o := by
  have hop := op_at ho (·.op) (x := Op.assign (Operand.tmp 43)) (by kernel_rfl)
  have hgd := op_at ho (·.guard) (x := none) (by kernel_rfl)
  have e5 : ct7S p A n c A' n' c' g of ln cl jj kk bt x 5 (a.eval (.tmp 43)) W := haft 5 (op_at ho (fun o => o.after.any fun e => decide (e.on = 5) && Region.binds .any e) (x := true) (by kernel_rfl))
  refine ⟨fun j b h => (by rw [hgd] at h; cases h), ?_⟩
  have e5' : a.eval (.tmp 43) = .int .i64 (bt : Int) := e5
  exact specs_value (R := fun v W => ct7S p A n c A' n' c' g of ln cl jj kk bt x 6 v W) (v := .int .i64 (bt : Int)) (by simp [execOp, hop, go_sem, ev e5']) rfl (Ext.refl W)
set_option maxRecDepth 100000 in
set_option maxHeartbeats 4000000 in
/-- Region 7 of function 73. -/
theorem ct7_wp {id : Nat} (hlen : a.tmps.size = 98) (o1 : a.eval (.tmp 1) = .slice (some ⟨g, of, none⟩) ln cl) (o3 : a.eval (.tmp 3) = .pointer (some ⟨p, 0, none⟩)) (o10 : a.eval (.tmp 10) = .int .i64 (jj : Int)) (q0 : ∀ W, Ext V W → W.cell? ⟨p, 0, none⟩ = some (.slice A n c)) (q1 : ∀ W, Ext V W → W.cell? ⟨p, 1, none⟩ = some (.slice A' n' c')) (hj : jj < ln) (c0 : ∀ W, Ext V W → W.cell? ⟨g, of + jj * 2, none⟩ = some (.int .i64 (kk : Int))) (c1 : ∀ W, Ext V W → W.cell? ⟨g, of + jj * 2 + 1, none⟩ = some (.int .i64 x)) (hcall : ∀ W, Ext V W → Calls Try.prog 59 #[.agg #[.slice A n c, .slice A' n' c'], .agg #[.int .i64 (kk : Int), .int .i64 x]] W fun e w' => e = .returned (.int .i64 (bt : Int)) ∧ Ext W w') (K : (∀ W v5, Ext V W → ct7S p A n c A' n' c' g of ln cl jj kk bt x 5 v5 W → wpList Try.prog ct7Reg Q (ct7Reg.toList.drop 7) (puts a [(38, .agg #[.slice A n c, .slice A' n' c']), (39, .slice (some ⟨g, of, none⟩) ln cl), (40, .int .i64 (jj : Int)), (41, .pointer (some ⟨g, of + jj * 2, none⟩)), (42, .agg #[.int .i64 (kk : Int), .int .i64 x]), (43, v5), (11, .int .i64 (bt : Int))]) W)) : (Code.region id ct7Reg true).wp Try.prog Q a V := by
  refine wp_region_specs_free (ops := ct7Reg) 7 (ct7S p A n c A' n' c' g of ln cl jj kk bt x) (Ext V) (by kernel_rfl) (by rw [hlen]; kernel_rfl) (by kernel_rfl) ⟨rfl, rfl, rfl, Nat.le_refl _, fun _ _ => rfl⟩ (fun _ _ h e => h.trans e) ct7S_ext ct7D (by kernel_rfl) ?_ ?_
  · intro i o hi ho a' W hB hsz hold haft
    match i, hi with
    | 0, _ => exact ct7_op0 ((hold 3 (by kernel_rfl)).trans o3) q0 q1 hB ho
    | 1, _ => exact ct7_op1 ((hold 1 (by kernel_rfl)).trans o1) ho
    | 2, _ => exact ct7_op2 ((hold 10 (by kernel_rfl)).trans o10) ho
    | 3, _ => exact ct7_op3 hj haft ho
    | 4, _ => exact ct7_op4 c0 c1 hB haft ho
    | 5, _ => exact ct7_op5 hcall hB haft ho
    | 6, _ => exact ct7_op6 haft ho
    | m + 7, h => exact absurd h (by omega)
  · intro a1 W hB hsz hdf hold hS
    obtain ⟨v5, g5⟩ : ∃ v, v = a1.eval (.tmp 43) := ⟨_, rfl⟩
    have hall : ∀ z, z ∈ ([(38, .agg #[.slice A n c, .slice A' n' c']), (39, .slice (some ⟨g, of, none⟩) ln cl), (40, .int .i64 (jj : Int)), (41, .pointer (some ⟨g, of + jj * 2, none⟩)), (42, .agg #[.int .i64 (kk : Int), .int .i64 x]), (43, v5), (11, .int .i64 (bt : Int))] : List (Tmp × Value)) → z.1 < a.tmps.size ∧ a1.eval (.tmp z.1) = z.2 := by
      intro z hz
      rw [hlen]
      simp only [List.mem_cons, List.not_mem_nil, or_false] at hz
      rcases hz with rfl | rfl | rfl | rfl | rfl | rfl | rfl
      · exact ⟨(show (38 : Nat) < 98 by omega), hS 0 (by omega)⟩
      · exact ⟨(show (39 : Nat) < 98 by omega), hS 1 (by omega)⟩
      · exact ⟨(show (40 : Nat) < 98 by omega), hS 2 (by omega)⟩
      · exact ⟨(show (41 : Nat) < 98 by omega), hS 3 (by omega)⟩
      · exact ⟨(show (42 : Nat) < 98 by omega), hS 4 (by omega)⟩
      · exact ⟨(show (43 : Nat) < 98 by omega), g5.symm⟩
      · exact ⟨(show (11 : Nat) < 98 by omega), hS 6 (by omega)⟩
    have ha := act_puts hsz hdf hall (fun t ht => hold t (all_ne_of (l := [(38, .agg #[.slice A n c, .slice A' n' c']), (39, .slice (some ⟨g, of, none⟩) ln cl), (40, .int .i64 (jj : Int)), (41, .pointer (some ⟨g, of + jj * 2, none⟩)), (42, .agg #[.int .i64 (kk : Int), .int .i64 x]), (43, v5), (11, .int .i64 (bt : Int))]) (by kernel_rfl) ht))
    rw [ha]
    exact K W v5 hB (by rw [g5]; exact hS 5 (by omega))
end
end Go.Proofs.Ytchmdkdiilaejaa

/- counts of the reference, walked. -/
namespace Go.Proofs.Ytchmdkdiilaejaa
open Go.RowKit Go.Shelf
attribute [local irreducible] bitCells fitCells Z94 fitOf

set_option maxRecDepth 100000 in
set_option maxHeartbeats 8000000 in
theorem counts_any {A : Option Addr} {n c : Nat} {A' : Option Addr} {n' c' : Nat} {cs ms : List (Int × Int)} {w : World} (hb : IsSheet w w.heap.size A n c A' n' c' cs ms) (h0 : sheetErr cs ms = 0)
    (A5 : Option Addr) (k5 c5 : Nat) (l : List Rw) (hk5 : k5 = l.length) (hm5 : k5 ≤ 9223372036854775807) (hl : ∀ x, x ∈ l → x ∈ fitsOf cs ms) (hh : Held w w.heap.size 2 encS A5 (l.map rwInt)) (h : Nat) (hlt : h < 2 ^ n') :
    Calls Try.prog 73 #[.agg #[.slice A n c, .slice A' n' c'], .slice A5 k5 c5, .int .i64 (h : Int)] w fun e w' => ∃ v, e = .returned v ∧ Ext w w' ∧ MadeLongs w.heap.size ((List.range (n' + 1)).map (refWays cs ms l h)) w' v := by
  obtain ⟨LL, hLL⟩ : ∃ LL, (List.range (n' + 1)).map (refWays cs ms l h) = LL := ⟨_, rfl⟩
  rw [hLL]
  have HLL := Lib.hid hLL
  clear hLL
  obtain ⟨i0, hi, hz0, hz1, hz2⟩ := info_parts info2
  have HI := Lib.hid (And.intro hi (And.intro hz0 (And.intro hz1 hz2)))
  clear hi hz0 hz1 hz2
  have hX0 := SheetAt.new hb
  have hE0 : Ext w (w.alloc (.cells #[.slice A n c, .slice A' n' c'] 25)) := ext_alloc w _
  have hn12 : n' ≤ 12 := by have := (sheet_ok h0).1; have := hb.nms; omega
  have HN := Lib.hid (And.intro hb.nms hk5)
  have H0 := Lib.hid h0
  have HL := Lib.hid hl
  have HH := Lib.hid ((hh.kept hE0 (Nat.le_refl _)).wider hE0.size)
  have hT := wrap_pow n' hn12
  have hT4 : 2 ^ n' ≤ 4096 := (Nat.pow_le_pow_right (by decide) hn12 : 2 ^ n' ≤ 2 ^ 12)
  have hT1 : 1 ≤ 2 ^ n' := Nat.one_le_two_pow
  have hT2 : ((2 : Int) ^ n') = ((2 ^ n' : Nat) : Int) := by simp
  obtain ⟨T, hTe⟩ : ∃ T, 2 ^ n' = T := ⟨_, rfl⟩
  rw [hTe] at hT hT4 hT1 hT2 hlt
  have HTE := Lib.hid hTe
  obtain ⟨M, hM⟩ : ∃ M, (n' + 1) * T = M := ⟨_, rfl⟩
  have hM4 : M ≤ 13 * 4096 := by rw [← hM]; exact Nat.mul_le_mul (by omega) hT4
  have hMi : ((n' : Int) + 1) * (T : Int) = (M : Int) := by rw [← hM]; simp
  have hMw : IntKind.i64.wrap (((n' : Int) + 1) * (T : Int)) = (M : Int) := by rw [hMi]; exact IntWalk.i64_in _ (by omega)
  have hmk34 : ∀ W : World, (Instr.makeSlice 34 (.int .i64 (M : Int)) (.int .i64 (M : Int))).run Try.prog W = .ok (.slice (some ⟨W.heap.size, 0, none⟩) M M) (W.alloc (.cells (madeCells #[.int .i64 0] M) 2)) := fun W =>
    run_make_row' (P := Try.prog) 34 2 (.int .i64 0) 8 (by kernel_rfl) (by kernel_rfl) rfl .i64 .i64 M (by omega) (by omega) W
  have HM := Lib.hid hM
  clear hTe hb hk5 h0 hl hh hM
  go_enter Try.func73, Try.ntmps73
  go_upto_region 1 with fail
  obtain ⟨w0, hw0⟩ : ∃ w0, w.alloc (.cells #[.slice A n c, .slice A' n' c'] 25) = w0 := ⟨_, rfl⟩
  rw [hw0] at hX0 hE0 HH
  rw [hw0]
  obtain ⟨p, hp⟩ : ∃ p, w.heap.size = p := ⟨_, rfl⟩
  have HE := Lib.hid hE0
  have HP := Lib.hid hp
  rw [hp] at hX0
  rw [hp]
  have HX := Lib.hid hX0
  clear hw0 hE0 hp hX0
  obtain ⟨q0, q1⟩ := HX.out.cells
  go_quiet (fail)
  obtain ⟨w1, hw1⟩ : ∃ w1, w0.drewN nq = w1 := ⟨_, rfl⟩
  have e1 : Ext w0 w1 := by rw [← hw1]; exact bdrewN (Ext.refl _) _
  rw [hw1]
  have HX := Lib.hid (HX.out.ext e1)
  have HE := Lib.hid (HE.out.trans e1)
  have HH := Lib.hid (Held.ext HH.out e1)
  clear hw1 e1 q0 q1 hT hT2
  have eA : Ext w1 (w1.alloc (.cells (madeCells #[.int .i64 0] M) 2)) := ext_alloc _ _
  have hfl : FlatAt (w1.alloc (.cells (madeCells #[.int .i64 0] M) 2)) w1.heap.size T n' (fun _ _ => 0) := by
    have := FlatAt.new w1 T n'
    rw [HM.out] at this
    exact this
  have hM1 : T ≤ M := by rw [← HM.out]; exact Nat.le_mul_of_pos_left T (by omega)
  have hhM : h < M := by omega
  have hhz : (h : Int) < (M : Int) := by omega
  obtain ⟨ch, fh⟩ := hfl.get (n := 0) (s := h) (by omega) hlt
  have hput : FlatAt ((w1.alloc (.cells (madeCells #[.int .i64 0] M) 2)).setCell ⟨w1.heap.size, 0 * T + h, none⟩ (.int .i64 1)) w1.heap.size T n' (rwFold cs ms [] h) := by
    have := hfl.put (n := 0) (s := h) (S' := rwFold cs ms [] h) (by omega) hlt (fun m t hne => by
      show (if m = 0 ∧ t = h then (1 : Int) else 0) = 0
      rw [if_neg hne])
    have h1 : rwFold cs ms [] h 0 h = 1 := by
      show (if 0 = 0 ∧ h = h then (1 : Int) else 0) = 1
      rw [if_pos ⟨rfl, rfl⟩]
    rw [h1] at this
    exact this
  rw [Nat.zero_mul, Nat.zero_add] at ch fh hput
  have ep : Ext w1 ((w1.alloc (.cells (madeCells #[.int .i64 0] M) 2)).setCell ⟨w1.heap.size, h, none⟩ (.int .i64 1)) := eA.setCell (Nat.le_refl _) _
  obtain ⟨gw, hgw⟩ : ∃ gw, w1.heap.size = gw := ⟨_, rfl⟩
  obtain ⟨wA, hwA⟩ : ∃ W, w1.alloc (.cells (madeCells #[.int .i64 0] M) 2) = W := ⟨_, rfl⟩
  rw [hwA, hgw] at ch fh hput ep
  have HPUT := Lib.hid hput
  have HB := Lib.hid ep
  have HG := Lib.hid hgw
  clear hfl eA hput ep
  go_wp2
  try simp only [hwA, hgw]
  obtain ⟨w3, hw3⟩ : ∃ w3, wA.setCell ⟨gw, h, none⟩ (.int .i64 1) = w3 := ⟨_, rfl⟩
  rw [hw3] at HPUT HB
  try rw [hw3]
  clear hwA hgw ch fh hmk34 hMi hMw hw3
  have HSZ := Lib.hid (show w1.heap.size ≤ gw from Nat.le_of_eq HG.out)
  go_loopw [10] (fun i wr => ∃ j : Nat, j ≤ k5 ∧ i = .int .i64 j ∧ Hid (Ext w1 wr) ∧ Hid (FlatAt wr gw T n' (rwFold cs ms (l.take j) h))) (fun i _ => k5 - (intOf i).toNat)
  case atStart => exact ⟨0, Nat.zero_le _, rfl, HB, HPUT⟩
  case round =>
    obtain ⟨j, hj, rfl, hE, hF⟩ := hrel
    by_cases hjl : j < k5
    · have hjz : (j : Int) < (k5 : Int) := by omega
      have hjx : j < l.length := by have := HN.out.2; omega
      obtain ⟨b, off, rfl, hbl, d0, d1⟩ := held_pair (Held.ext HH.out hE.out) (k := j) (by rw [List.length_map]; exact hjx)
      have hgd : (l.map rwInt).getD j (0, 0) = rwInt l[j] := by simp [hjx]
      have hmem : l[j] ∈ fitsOf cs ms := HL.out _ (List.getElem_mem hjx)
      obtain ⟨m1, m2, m3, m4⟩ := fits_mem H0.out hmem
      have hns := no_under cs ms l[j]
      have h59 := fun (W : World) (hW : Ext wr W) => bits_any ((HX.out.ext hE.out).ext hW).sheet H0.out l[j].1 m1 l[j].2
      rw [m3] at h59
      have hsu : rwFold cs ms (l.take (j + 1)) h = keyStep T (rwFold cs ms (l.take j) h) (noOf cs ms l[j], 1) := by
        rw [List.take_succ_eq_append_getElem hjx, rwFold_snoc, ← HN.out.1, HTE.out]
      rw [← HN.out.1, HTE.out] at hns
      obtain ⟨x1, x2, hx⟩ : ∃ x1 x2, l[j] = (x1, x2) := ⟨_, _, rfl⟩
      rw [hgd] at d0 d1
      generalize noOf cs ms l[j] = bt at h59 hsu hns
      rw [hx] at d0 d1 h59
      unfold rwInt at d0 d1
      dsimp only at d0 d1 h59
      have hcap := rwFold_cap cs ms h (l.take j)
      obtain ⟨S, hS⟩ : ∃ S, rwFold cs ms (l.take j) h = S := ⟨_, rfl⟩
      rw [hS] at hsu hF hcap
      have hX3 := HX.out.ext hE.out
      have H59 := Lib.hid h59
      have HSU := Lib.hid hsu
      have HC := Lib.hid hcap
      clear hS hsu h59 m1 m2 m3 m4 hmem hgd hx hcap
      go_upto_region 7 with fail
      refine ct7_wp (p := p) (A := A) (n := n) (c := c) (A' := A') (n' := n') (c' := c') (g := b) (of := off) (ln := k5) (cl := c5) (jj := j) (kk := x1) (bt := bt) (x := x2) rfl rfl rfl rfl
        (fun W hW => (hX3.ext hW).cells.1) (fun W hW => (hX3.ext hW).cells.2) hjl (fun W hW => (hW.cell (p := ⟨b, off + j * 2, none⟩) hbl).trans d0) (fun W hW => (hW.cell (p := ⟨b, off + j * 2 + 1, none⟩) hbl).trans d1) (fun W hW => H59.out W hW) ?_
      intro W v5 hW _
      have hdr : ct7Reg.toList.drop 7 = [] := List.drop_eq_nil_of_le (by rw [Array.length_toList]; exact Nat.le_of_eq (by kernel_rfl))
      rw [hdr]
      simp only [wpList, puts, List.foldl_cons, List.foldl_nil, Act.put, List.setIfInBounds_toArray, List.set_cons_succ, List.set_cons_zero]
      have HWE := Lib.hid (hE.out.trans hW)
      have HWF := Lib.hid (hF.out.ext hW)
      clear hX3 hW hE hdr hF d0 d1 hbl
      go_wp2
      go_loopw [12] (fun v wq => ∃ k : Nat, k ≤ n' ∧ v = .int .i64 ((k : Int) - 1) ∧ Hid (Ext w1 wq) ∧ Hid (FlatAt wq gw T n' (partRows T S (bt, 1) k))) (fun v _ => (intOf v + 1).toNat)
      case atStart =>
        refine ⟨n', Nat.le_refl _, rfl, HWE, Lib.hid (HWF.out.congr fun m t hm _ => ?_)⟩
        unfold partRows
        rw [if_neg (by omega)]
      case round =>
        obtain ⟨k, hk, rfl, hE, hF⟩ := hrel
        cases k with
        | zero =>
          have hend := hF.out
          rw [part_zero, ← HSU.out] at hend
          have HEND := Lib.hid hend
          clear hend hF
          go_wp2
          go_roundw
          case measure => simp [intOf]; omega
          case rel => exact ⟨j + 1, by omega, by go_num, hE, HEND⟩
        | succ q =>
          rw [show ((q + 1 : Nat) : Int) - 1 = (q : Int) from by omega]
          have hq0 : (0 : Int) ≤ (q : Int) := by omega
          go_wp2
          go_loopw [13] (fun i wq => ∃ t : Nat, t ≤ T ∧ i = .int .i64 t ∧ Hid (Ext w1 wq) ∧ Hid (FlatAt wq gw T n' (midRows T S (bt, 1) q t))) (fun i _ => T - (intOf i).toNat)
          case atStart => exact ⟨0, Nat.zero_le _, rfl, hE, by rw [mid_zero]; exact hF⟩
          case round =>
            obtain ⟨t, ht, rfl, hE2, hF2⟩ := hrel
            by_cases htl : t < T
            · have htz : (t : Int) < (T : Int) := by omega
              have hor : t ||| bt < T := by rw [← HTE.out]; exact Nat.or_lt_two_pow (by rw [HTE.out]; exact htl) (by rw [HTE.out]; exact hns)
              have hbo := bits_or t bt (by omega) (by omega)
              obtain ⟨g3, f3⟩ := hF2.out.get (n := q) (s := t) (by omega) htl
              rw [mid_prev] at g3
              obtain ⟨g4, f4⟩ := hF2.out.get (n := q + 1) (s := t ||| bt) (by omega) hor
              rw [mid_here] at g4
              have hx := addTo_cap (prev := S q) (row := S (q + 1)) (set := bt) (a := ((1 : Nat) : Int)) (Int.natCast_nonneg _) (HC.out q) (HC.out (q + 1)) t (t ||| bt)
              have hy := HC.out q t
              have hput := hF2.out.put (n := q + 1) (s := t ||| bt) (S' := midRows T S (bt, 1) q (t + 1)) (by omega) hor (fun m u hne => mid_same T S (bt, 1) q t m u hne)
              rw [mid_new T S (bt, 1) q t] at hput
              dsimp only at hput
              have hi1 := flat_lt (T := T) (R := n') (n := q + 1) (s := t ||| bt) (by omega) hor
              have hi0 := flat_lt (T := T) (R := n') (n := q) (s := t) (by omega) htl
              rw [HM.out] at hi1 hi0
              generalize t ||| bt = ts at hor hbo g4 f4 hx hput hi1
              generalize addTo (S q) (S (q + 1)) bt ((1 : Nat) : Int) t ts = x at g4 hx hput
              generalize S q t = y at g3 hy hput
              obtain ⟨a1, ha1⟩ : ∃ a1, (q + 1) * T = a1 := ⟨_, rfl⟩
              obtain ⟨a0, ha0⟩ : ∃ a0, q * T = a0 := ⟨_, rfl⟩
              have hm1 : ((q : Int) + 1) * (T : Int) = (a1 : Int) := by rw [← ha1]; simp
              have hm0 : (q : Int) * (T : Int) = (a0 : Int) := by rw [← ha0]; simp
              rw [ha1] at g4 f4 hput hi1
              rw [ha0] at g3 f3 hi0
              have hw1 : IntKind.i64.wrap (((q : Int) + 1) * (T : Int)) = (a1 : Int) := by rw [hm1]; exact IntWalk.i64_in _ (by omega)
              have hw0 : IntKind.i64.wrap ((q : Int) * (T : Int)) = (a0 : Int) := by rw [hm0]; exact IntWalk.i64_in _ (by omega)
              obtain ⟨ix, hix⟩ : ∃ ix, a1 + ts = ix := ⟨_, rfl⟩
              obtain ⟨iy, hiy⟩ : ∃ iy, a0 + t = iy := ⟨_, rfl⟩
              rw [hix] at g4 f4 hput hi1
              rw [hiy] at g3 f3 hi0
              have hs1 : (a1 : Int) + (ts : Int) = (ix : Int) := by omega
              have hs0 : (a0 : Int) + (t : Int) = (iy : Int) := by omega
              have hz1 : (ix : Int) < (M : Int) := by omega
              have hz0 : (iy : Int) < (M : Int) := by omega
              obtain ⟨v, hv⟩ : ∃ v, min (1099511627777 : Int) (x + y) = v := ⟨_, rfl⟩
              have hvv : min (x + y * ((1 : Nat) : Int)) CAP = v := by rw [← hv]; unfold CAP; omega
              rw [hvv] at hput
              have hxy : IntKind.i64.wrap (x + y) = x + y := IntWalk.i64_in _ (by unfold CAP at hx hy; omega)
              have hgw : gw < wr.heap.size := by
                obtain ⟨C, hC, _⟩ := hF2.out
                exact (Array.getElem?_eq_some_iff.1 hC).1
              have hwa : IntKind.i64.wrap ((a0 : Int) + (t : Int)) = (iy : Int) := by rw [hs0]; exact IntWalk.i64_in _ (by omega)
              have hwb : IntKind.i64.wrap (iy : Int) = (iy : Int) := IntWalk.i64_in _ (by omega)
              have HPUT := Lib.hid hput
              have HV := Lib.hid hv
              clear hput hvv hv ha1 ha0 hix hiy hm1 hm0 hx hy
              go_upto_region 15 with fail
              go_still_tail 16, (by kernel_rfl)
              change wpList _ _ _ _ _ wr.drew
              have e4 : Ext wr wr.drew := ext_drew wr
              have cwd : wr.drew.cell? ⟨gw, ix, none⟩ = some (.int .i64 x) := (e4.cell (p := ⟨gw, ix, none⟩) hgw).trans g4
              have fwd : wr.drew.frozen? ⟨gw, ix, none⟩ = false := f4
              have HPUT := Lib.hid (show FlatAt (wr.drew.setCell ⟨gw, ix, none⟩ (.int .i64 v)) gw T n' (midRows T S (bt, 1) q (t + 1)) from HPUT.out)
              have HE5 := Lib.hid ((hE2.out.trans e4).setCell (p := ⟨gw, ix, none⟩) HSZ.out (.int .i64 v))
              obtain ⟨wd, hwd⟩ : ∃ wd, wr.drew = wd := ⟨_, rfl⟩
              rw [hwd] at cwd fwd HPUT HE5
              rw [hwd]
              clear hwd e4 g3 g4 f3 f4
              go_wp2
              try rw [HV.out]
              obtain ⟨wg, hwg⟩ : ∃ wg, wd.setCell ⟨gw, ix, none⟩ (.int .i64 v) = wg := ⟨_, rfl⟩
              rw [hwg] at HPUT HE5
              try rw [hwg]
              clear hwg cwd fwd
              go_roundw
              case measure => simp [intOf]; omega
              case rel => exact ⟨t + 1, by omega, by go_num, HE5, HPUT⟩
            · have htz : ¬ (t : Int) < (T : Int) := by omega
              obtain rfl : t = T := by omega
              have hfull := hF2.out
              rw [mid_full] at hfull
              have HFULL := Lib.hid hfull
              clear hfull hF2
              go_wp2
              go_roundw
              case measure => simp [intOf]
              case rel => exact ⟨q, by omega, by go_num, hE2, HFULL⟩
    · have hjz : ¬ (j : Int) < (k5 : Int) := by omega
      obtain rfl : j = k5 := by omega
      have hfl := hF.out
      rw [show l.take j = l from List.take_of_length_le (by have := HN.out.2; omega)] at hfl
      have hrw : ∀ k, refWays cs ms l h k = rwFold cs ms l h k (T - 1) := fun k => by
        rw [show T = 2 ^ ms.length from by rw [← HN.out.1]; exact HTE.out.symm]
        rfl
      obtain ⟨S, hS⟩ : ∃ S, rwFold cs ms l h = S := ⟨_, rfl⟩
      rw [hS] at hfl
      simp only [hS] at hrw
      have HRW := Lib.hid hrw
      have HFL := Lib.hid hfl
      have HEB := Lib.hid (HE.out.trans hE.out)
      rename World => wB
      clear hS hfl hrw hF hE HPUT HB
      go_wp2
      go_loopw [15, 16] (fun v i wq => ∃ k : Nat, k ≤ n' + 1 ∧ i = .int .i64 k ∧ Hid (Ext wB wq) ∧ Hid (MadeLongs wB.heap.size ((List.range k).map (refWays cs ms l h)) wq v)) (fun _ i _ => n' + 1 - (intOf i).toNat)
      case atStart => exact ⟨0, Nat.zero_le _, rfl, Lib.hid (Ext.refl _), Lib.hid ⟨World.ownsRow_nil _ _ _ _, fun _ => rfl⟩⟩
      case round =>
        obtain ⟨k, hk, rfl, hB, hO⟩ := hrel
        by_cases hkn : k ≤ n'
        · have hkz : (k : Int) ≤ (n' : Int) := by omega
          have hO1 := hO.out
          have hE1 := hB.out
          have hz1 := hE1.size
          have hsz := hE1.size
          obtain ⟨g3, f3⟩ := (HFL.out.ext hE1).get (n := k) (s := T - 1) hkn (by omega)
          have hi1 := flat_lt (T := T) (R := n') (n := k) (s := T - 1) hkn (by omega)
          rw [HM.out] at hi1
          obtain ⟨a2, ha2⟩ : ∃ a2, k * T = a2 := ⟨_, rfl⟩
          have hm2 : (k : Int) * (T : Int) = (a2 : Int) := by rw [← ha2]; simp
          have hw2 : IntKind.i64.wrap ((k : Int) * (T : Int)) = (a2 : Int) := by rw [hm2]; exact IntWalk.i64_in _ (by omega)
          rw [ha2] at g3 hi1
          obtain ⟨ix, hix⟩ : ∃ ix, a2 + (T - 1) = ix := ⟨_, rfl⟩
          rw [hix] at g3 hi1
          have hs2 : (a2 : Int) + (T : Int) - 1 = (ix : Int) := by omega
          have hz2 : (ix : Int) < (M : Int) := by omega
          obtain ⟨x, hx⟩ : ∃ x, S k (T - 1) = x := ⟨_, rfl⟩
          rw [hx] at g3
          have hsu : (List.range (k + 1)).map (refWays cs ms l h) = (List.range k).map (refWays cs ms l h) ++ [x] := by
            rw [List.range_succ, List.map_append, List.map_singleton, HRW.out, hx]
          have hln : ((List.range k).map (refWays cs ms l h)).length = k := by simp
          have HS := Lib.hid hsu
          have HLN := Lib.hid hln
          have oA := hO1.1.alloc (.cells #[.int .i64 x] 2)
          clear hsu ha2 hix hm2 hx hln f3 hO hB
          go_wp2_with (first | (at_builtin; refine wpList_append_own _ rfl (.tmp 85) (.tmp 95) 34 rfl wB.heap.size 2 i0 (.int .i64 0) 1 8 ?_ ?_ ?_ ?_ ?_ ?_ ?_ u15 _ (((List.range k).map (refWays cs ms l h)).map (Value.int .i64)) rfl oA ⟨wr.heap.size, 0, none⟩ 1 1 [.int .i64 x] rfl ?_ ?_ ?_ ?_ ?_ ?_ ?_; exact Try.underlying34; exact HI.out.1; exact HI.out.2.1; exact HI.out.2.2.1; exact HI.out.2.2.2; rfl; decide; rfl; exact cell_one_new _ _ _; exact one_cell' _; (rw [HLN.out]; unfold maxLen; omega); (rw [HLN.out]; omega); (simp at hz1 ⊢; omega); intro v' w5 hown' hg4 _; have HW := Lib.hid hown'; have hE4 := Lib.hid (((hE1.alloc hsz (.cells #[.int .i64 x] 2)).grown hg4 (by simp at hsz ⊢; omega) (fun b e => (oA.lt b e).1)) : Ext wB w5); clear hown' hg4 oA hO1))
          go_roundw
          case measure => simp [intOf]; omega
          case rel =>
            refine ⟨k + 1, by omega, by go_num, hE4, Lib.hid ⟨?_, fun e => by rw [HS.out] at e; simp at e⟩⟩
            rw [HS.out, List.length_append, List.map_append]
            exact HW.out
        · have hkz : ¬ (k : Int) ≤ (n' : Int) := by omega
          obtain rfl : k = n' + 1 := by omega
          have ho1 := hO.out.mono HEB.out.size
          obtain ⟨A9, c9, hv⟩ := owns_slice hO.out.1
          rw [show ((List.range (n' + 1)).map (refWays cs ms l h)).length = n' + 1 from by simp] at hv
          subst hv
          rw [HLL.out] at ho1
          have HO1 := Lib.hid ho1
          have HE9 := Lib.hid (HEB.out.trans hB.out)
          clear hO hB ho1
          go_wp2
          go_ret
          exact ⟨_, rfl, HE9.out, HO1.out⟩
end Go.Proofs.Ytchmdkdiilaejaa

/- Fewest of the reference. -/
namespace Go.Proofs.Ytchmdkdiilaejaa
open Go.RowKit Go.Shelf
attribute [local irreducible] bitCells fitCells Z94 fitOf

theorem refFew_at {cs ms : List (Int × Int)} {l : List Rw} {k : Nat} (h1 : 1 ≤ k) (hm : k ≤ ms.length) (hp : 0 < refWays cs ms l 0 k) (hn : ∀ t, 1 ≤ t → t < k → ¬ 0 < refWays cs ms l 0 t) : refFew cs ms l = (k, refWays cs ms l 0 k) := by
  have hf : (List.range ms.length).find? (fun n => decide (0 < refWays cs ms l 0 (n + 1))) = some (k - 1) := by
    rw [List.find?_eq_some_iff_append]
    refine ⟨by rw [show k - 1 + 1 = k from by omega, decide_eq_true hp], List.range (k - 1), (List.range (ms.length - k)).map (· + k), ?_, fun n hnn => ?_⟩
    · have : ms.length = (k - 1 + 1) + (ms.length - k) := by omega
      conv => lhs; rw [this, List.range_add, List.range_succ]
      rw [List.append_assoc]
      congr 1
      rw [List.singleton_append]
      congr 1
      exact List.map_congr_left fun n _ => by omega
    · rw [List.mem_range] at hnn
      rw [decide_eq_false (hn (n + 1) (by omega) (by omega))]
      rfl
  unfold refFew
  rw [hf]
  dsimp only
  rw [show k - 1 + 1 = k from by omega]
theorem refFew_no {cs ms : List (Int × Int)} {l : List Rw} (hn : ∀ t, 1 ≤ t → t < ms.length + 1 → ¬ 0 < refWays cs ms l 0 t) : refFew cs ms l = (0, 0) := by
  have hf : (List.range ms.length).find? (fun n => decide (0 < refWays cs ms l 0 (n + 1))) = none := by
    rw [List.find?_eq_none]
    intro n hnn hd
    rw [List.mem_range] at hnn
    exact hn (n + 1) (by omega) (by omega) (of_decide_eq_true hd)
  unfold refFew
  rw [hf]

set_option maxRecDepth 100000 in
set_option maxHeartbeats 4000000 in
theorem few72_any {A : Option Addr} {n c : Nat} {A' : Option Addr} {n' c' : Nat} {cs ms : List (Int × Int)} {w : World} (hb : IsSheet w w.heap.size A n c A' n' c' cs ms) (h0 : sheetErr cs ms = 0)
    (A5 : Option Addr) (k5 c5 : Nat) (l : List Rw) (hk5 : k5 = l.length) (hm5 : k5 ≤ 9223372036854775807) (hl : ∀ x, x ∈ l → x ∈ fitsOf cs ms) (hh : Held w w.heap.size 2 encS A5 (l.map rwInt)) :
    Calls Try.prog 72 #[.agg #[.slice A n c, .slice A' n' c'], .slice A5 k5 c5] w fun e w' => e = .returned (.tuple #[.int .i64 ((refFew cs ms l).1 : Int), .int .i64 (refFew cs ms l).2]) ∧ Ext w w' := by
  obtain ⟨r1, r2, hr⟩ : ∃ r1 r2, refFew cs ms l = (r1, r2) := ⟨_, _, rfl⟩
  rw [hr]
  have HR := Lib.hid hr
  have hX0 := SheetAt.new hb
  have hE0 : Ext w (w.alloc (.cells #[.slice A n c, .slice A' n' c'] 25)) := ext_alloc w _
  have hn12 : n' ≤ 12 := by have := (sheet_ok h0).1; have := hb.nms; omega
  have h73 := counts_any hX0.sheet h0 A5 k5 c5 l hk5 hm5 hl ((hh.kept hE0 (Nat.le_refl _)).wider hE0.size) 0 (Nat.two_pow_pos _)
  have HN := Lib.hid hb.nms
  have HX := Lib.hid hX0
  have HE := Lib.hid hE0
  clear hb hk5 h0 hl hh hr hX0 hE0
  obtain ⟨q0, q1⟩ := HX.out.cells
  dsimp only
  go_enter Try.func72, Try.ntmps72
  go_wp2_with fail
  refine h73.mono ?_
  rintro e w1 ⟨v, rfl, e1, hM⟩
  have HE := Lib.hid (HE.out.trans e1)
  obtain ⟨A9, c9, hv⟩ := owns_slice hM.1
  rw [show ((List.range (n' + 1)).map (refWays cs ms l 0)).length = n' + 1 from by simp] at hv
  subst hv
  have HM := Lib.hid hM
  clear e1 hM h73 q0 q1 HX
  go_wp2
  go_loopw [7] (fun i wr => ∃ k : Nat, 1 ≤ k ∧ k ≤ n' + 1 ∧ i = .int .i64 k ∧ Hid (Ext w1 wr) ∧ Hid (∀ t, 1 ≤ t → t < k → ¬ 0 < refWays cs ms l 0 t)) (fun i _ => n' + 1 - (intOf i).toNat)
  case atStart => exact ⟨1, Nat.le_refl _, by omega, rfl, Lib.hid (Ext.refl _), Lib.hid fun t h1 h2 => absurd h1 (by omega)⟩
  case round =>
    obtain ⟨k, hk1, hk, rfl, hE, hD⟩ := hrel
    by_cases hlt : k < n' + 1
    · have hlz : (k : Int) < (n' : Int) + 1 := by omega
      have hlz2 : (k : Int) < ((n' + 1 : Nat) : Int) := by omega
      have hkl : k < ((List.range (n' + 1)).map (refWays cs ms l 0)).length := by simpa using hlt
      have hO := owns_ext HM.out.1 hE.out
      rw [show ((List.range (n' + 1)).map (refWays cs ms l 0)).length = n' + 1 from by simp] at hO
      obtain ⟨g, rfl, hg, hc⟩ : ∃ g, A9 = some ⟨g, 0, none⟩ ∧ g < wr.heap.size ∧ wr.cell? ⟨g, k, none⟩ = some (.int .i64 (refWays cs ms l 0 k)) := by
        rcases hO.2 with ⟨h1, _⟩ | ⟨g, cap, cur, h1, _, hg, _, _, _, h4⟩
        · cases h1
        · have hg1 : (Value.slice A9 (n' + 1) c9) = .slice (some ⟨g, 0, none⟩) (n' + 1) cap := h1
          cases hg1
          refine ⟨g, rfl, (Array.getElem?_eq_some_iff.1 hg).1, (cell_of_row _ _ _ _ _ _ hg).trans ?_⟩
          have hu : (((List.range (n' + 1)).map (refWays cs ms l 0)).map (Value.int .i64))[k]? = some (.int .i64 (refWays cs ms l 0 k)) := by
            simp [hlt]
          rw [← h4, List.getElem?_take] at hu
          split at hu
          · rw [← Array.getElem?_toList]; exact hu
          · cases hu
      obtain ⟨x, hx⟩ : ∃ x, refWays cs ms l 0 k = x := ⟨_, rfl⟩
      rw [hx] at hc
      have HXX := Lib.hid hx
      clear hx hO hkl
      by_cases hpos : 0 < x
      · have hans := refFew_at (cs := cs) (ms := ms) (l := l) hk1 (by have := HN.out; omega) (by rw [HXX.out]; exact hpos) hD.out
        rw [HR.out, HXX.out] at hans
        cases hans
        go_wp2
        go_quiet (fail)
        go_wp2
        go_ret2
        exact ⟨rfl, bdrewN (HE.out.trans hE.out) _⟩
      · go_wp2
        go_roundw
        case measure => simp [intOf]; omega
        case rel =>
          refine ⟨k + 1, by omega, by omega, by go_num, hE, Lib.hid fun t h1 h2 => ?_⟩
          by_cases e : t = k
          · subst e; rw [HXX.out]; exact hpos
          · exact hD.out t h1 (by omega)
    · have hlz : ¬ (k : Int) < (n' : Int) + 1 := by omega
      have hlz2 : ¬ (k : Int) < ((n' + 1 : Nat) : Int) := by omega
      obtain rfl : k = n' + 1 := by omega
      have hans := refFew_no (cs := cs) (ms := ms) (l := l) (by rw [← HN.out]; exact hD.out)
      rw [HR.out] at hans
      cases hans
      go_wp2
      go_ret2
      exact ⟨rfl, HE.out.trans hE.out⟩
end Go.Proofs.Ytchmdkdiilaejaa

/- Kind of the reference: its region with two calls. -/
namespace Go.Proofs.Ytchmdkdiilaejaa
open Go.RowKit Go.Shelf
attribute [local irreducible] bitCells fitCells Z94 fitOf

theorem neqRow (x y : Int × Int) (w : World) : (binOp .neq 27 (.agg #[.int .i64 x.1, .int .i64 x.2]) (.agg #[.int .i64 y.1, .int .i64 y.2])).run Try.prog w = .ok (.bool (!decide (x = y))) w := by
  have u2 := Try.underlying2
  have a2 := Try.isAgg2
  have z2 := Try.sizeOf2
  have hS : Try.prog.underlying 27 = some (.struct (Try.prog.fieldsOf 27)) := by kernel_rfl
  have hp : Try.prog.stoodInHeld 27 = false := by kernel_rfl
  rw [run_neq_struct, show (10000 : Nat) = 9999 + 1 from rfl, run_equalIn_agg w 9999 27 _ _ hS hp]
  simp only [Program.fieldsOf, Try.underlying27]
  go_simp
  obtain ⟨x1, x2⟩ := x
  obtain ⟨y1, y2⟩ := y
  by_cases h1 : x1 = y1 <;> by_cases h2 : x2 = y2 <;> simp [h1, h2]

/-- The slots of region 20 of function 33. -/
def rk20D (i : Nat) : Tmp := if i = 0 then 67 else if i = 1 then 68 else if i = 2 then 69 else if i = 3 then 70 else if i = 4 then 71 else if i = 5 then 72 else if i = 6 then 73 else if i = 7 then 74 else if i = 8 then 75 else if i = 9 then 76 else 77
/-- What each operation yields. -/
def rk20S (_p _pr : Nat) (A : Option Addr) (n c : Nat) (A' : Option Addr) (n' c' : Nat) (vr : Value) (y1 y2 N : Int) (bt iq ln : Nat) (yy : Int) (cb : Bool) (ix : Nat) (v : Value) (W : World) : Prop :=
  match ix with
  | 0 => v = .agg #[.slice A n c, .slice A' n' c']
  | 1 => v = vr
  | 2 => v = .agg #[.slice A n c, .slice A' n' c']
  | 3 => v = .agg #[.int .i64 y1, .int .i64 y2]
  | 4 => v = .int .i64 (bt : Int)
  | 5 => ∃ g9 c9, v = .slice (some ⟨g9, 0, none⟩) ln c9 ∧ g9 < W.heap.size ∧ W.cell? ⟨g9, iq, none⟩ = some (.int .i64 yy)
  | 6 => v = .int .i64 N
  | 7 => v = .int .i64 (iq : Int)
  | 8 => ∃ g9, v = .pointer (some ⟨g9, iq, none⟩) ∧ g9 < W.heap.size ∧ W.cell? ⟨g9, iq, none⟩ = some (.int .i64 yy)
  | 9 => v = .int .i64 yy
  | 10 => v = .bool cb
  | _ => True
noncomputable def rk20Reg : Array Oper := (Try.f33.body.bind (regionOf · 20)).getD #[]
theorem rk20S_ext {p pr : Nat} {A : Option Addr} {n c : Nat} {A' : Option Addr} {n' c' : Nat} {vr : Value} {y1 y2 N : Int} {bt iq ln : Nat} {yy : Int} {cb : Bool} : ∀ (i : Nat) (v : Value) (W W' : World), rk20S p pr A n c A' n' c' vr y1 y2 N bt iq ln yy cb i v W → Below W.heap.size W W' → rk20S p pr A n c A' n' c' vr y1 y2 N bt iq ln yy cb i v W' := by
  intro i v W W' h e
  match i with
  | 0 => exact h
  | 1 => exact h
  | 2 => exact h
  | 3 => exact h
  | 4 => exact h
  | 5 => (obtain ⟨g9, c9, h1, h2, h3⟩ := h; exact ⟨g9, c9, h1, Nat.lt_of_lt_of_le h2 e.size, (e.cell (p := ⟨g9, iq, none⟩) h2).trans h3⟩)
  | 6 => exact h
  | 7 => exact h
  | 8 => (obtain ⟨g9, h1, h2, h3⟩ := h; exact ⟨g9, h1, Nat.lt_of_lt_of_le h2 e.size, (e.cell (p := ⟨g9, iq, none⟩) h2).trans h3⟩)
  | 9 => exact h
  | 10 => exact h
  | k + 11 => exact trivial
def rk20Ok (p pr : Nat) (A : Option Addr) (n c : Nat) (A' : Option Addr) (n' c' : Nat) (vr : Value) (y1 y2 N : Int) (bt iq ln : Nat) (yy : Int) (cb : Bool) (Q : Exit → Act → World → Prop) (a : Act) (W : World) (ix : Nat) (o : Oper) : Prop :=
  (∀ j b, o.guard = some (j, b) → a.eval (.tmp (rk20D j)) = .bool b) ∧ o.wp Try.prog a W (fun a'' W' => ∃ v, a'' = a.put o.dst v ∧ rk20S p pr A n c A' n' c' vr y1 y2 N bt iq ln yy cb ix v W' ∧ Below W.heap.size W W') Q
section
variable {p pr : Nat} {A : Option Addr} {n c : Nat} {A' : Option Addr} {n' c' : Nat} {vr : Value} {y1 y2 N : Int} {bt iq ln : Nat} {yy : Int} {cb : Bool} {Q : Exit → Act → World → Prop} {a : Act} {V W : World} {o : Oper}
set_option maxHeartbeats 1000000 in
theorem rk20_op0 (o2 : a.eval (.tmp 2) = .pointer (some ⟨p, 0, none⟩)) (q0 : ∀ W, Ext V W → W.cell? ⟨p, 0, none⟩ = some (.slice A n c)) (q1 : ∀ W, Ext V W → W.cell? ⟨p, 1, none⟩ = some (.slice A' n' c')) (hB : Ext V W) (ho : rk20Reg[0]? = some o) : rk20Ok p pr A n c A' n' c' vr y1 y2 N bt iq ln yy cb Q a W 0 o := by
  have hop := op_at ho (·.op) (x := Op.load 25 (Operand.tmp 2)) (by kernel_rfl)
  have hgd := op_at ho (·.guard) (x := none) (by kernel_rfl)
  refine ⟨fun j b h => (by rw [hgd] at h; cases h), ?_⟩
  have q0' := q0 W hB
  have q1' := q1 W hB
  exact specs_value (R := fun v W => rk20S p pr A n c A' n' c' vr y1 y2 N bt iq ln yy cb 0 v W) (v := .agg #[.slice A n c, .slice A' n' c']) (by simp [execOp, hop, go_sem, ev o2, q0', q1']) rfl (Ext.refl W)
set_option maxHeartbeats 1000000 in
theorem rk20_op1 (o7 : a.eval (.tmp 7) = vr) (ho : rk20Reg[1]? = some o) : rk20Ok p pr A n c A' n' c' vr y1 y2 N bt iq ln yy cb Q a W 1 o := by
  have hop := op_at ho (·.op) (x := Op.move (Operand.tmp 7)) (by kernel_rfl)
  have hgd := op_at ho (·.guard) (x := none) (by kernel_rfl)
  refine ⟨fun j b h => (by rw [hgd] at h; cases h), ?_⟩
  exact specs_value (R := fun v W => rk20S p pr A n c A' n' c' vr y1 y2 N bt iq ln yy cb 1 v W) (v := vr) (by simp [execOp, hop, go_sem, ev o7]) rfl (Ext.refl W)
set_option maxHeartbeats 1000000 in
theorem rk20_op2 (o2 : a.eval (.tmp 2) = .pointer (some ⟨p, 0, none⟩)) (q0 : ∀ W, Ext V W → W.cell? ⟨p, 0, none⟩ = some (.slice A n c)) (q1 : ∀ W, Ext V W → W.cell? ⟨p, 1, none⟩ = some (.slice A' n' c')) (hB : Ext V W) (ho : rk20Reg[2]? = some o) : rk20Ok p pr A n c A' n' c' vr y1 y2 N bt iq ln yy cb Q a W 2 o := by
  have hop := op_at ho (·.op) (x := Op.load 25 (Operand.tmp 2)) (by kernel_rfl)
  have hgd := op_at ho (·.guard) (x := none) (by kernel_rfl)
  refine ⟨fun j b h => (by rw [hgd] at h; cases h), ?_⟩
  have q0' := q0 W hB
  have q1' := q1 W hB
  exact specs_value (R := fun v W => rk20S p pr A n c A' n' c' vr y1 y2 N bt iq ln yy cb 2 v W) (v := .agg #[.slice A n c, .slice A' n' c']) (by simp [execOp, hop, go_sem, ev o2, q0', q1']) rfl (Ext.refl W)
set_option maxHeartbeats 1000000 in
theorem rk20_op3 (o3 : a.eval (.tmp 3) = .pointer (some ⟨pr, 0, none⟩)) (x0 : ∀ W, Ext V W → W.cell? ⟨pr, 0, none⟩ = some (.int .i64 y1)) (x1 : ∀ W, Ext V W → W.cell? ⟨pr, 1, none⟩ = some (.int .i64 y2)) (hB : Ext V W) (ho : rk20Reg[3]? = some o) : rk20Ok p pr A n c A' n' c' vr y1 y2 N bt iq ln yy cb Q a W 3 o := by
  have hop := op_at ho (·.op) (x := Op.load 27 (Operand.tmp 3)) (by kernel_rfl)
  have hgd := op_at ho (·.guard) (x := none) (by kernel_rfl)
  refine ⟨fun j b h => (by rw [hgd] at h; cases h), ?_⟩
  have x0' := x0 W hB
  have x1' := x1 W hB
  exact specs_value (R := fun v W => rk20S p pr A n c A' n' c' vr y1 y2 N bt iq ln yy cb 3 v W) (v := .agg #[.int .i64 y1, .int .i64 y2]) (by simp [execOp, hop, go_sem, ev o3, x0', x1']) rfl (Ext.refl W)
set_option maxHeartbeats 1000000 in
theorem rk20_op4 (hcall : ∀ W, Ext V W → Calls Try.prog 59 #[.agg #[.slice A n c, .slice A' n' c'], .agg #[.int .i64 y1, .int .i64 y2]] W fun e w' => e = .returned (.int .i64 (bt : Int)) ∧ Ext W w') (hB : Ext V W) (haft : ∀ j, (o.after.any fun e => decide (e.on = j) && Region.binds .any e) = true → rk20S p pr A n c A' n' c' vr y1 y2 N bt iq ln yy cb j (a.eval (.tmp (rk20D j))) W) (ho : rk20Reg[4]? = some o) : rk20Ok p pr A n c A' n' c' vr y1 y2 N bt iq ln yy cb Q a W 4 o := by
  have hop := op_at ho (·.op) (x := Op.call { callee := Callee.value (Operand.func 59), args := #[Operand.tmp 69, Operand.tmp 70], argTypes := #[25, 27] }) (by kernel_rfl)
  have hgd := op_at ho (·.guard) (x := none) (by kernel_rfl)
  have e2 : a.eval (.tmp 69) = .agg #[.slice A n c, .slice A' n' c'] := haft 2 (op_at ho (fun o => o.after.any fun e => decide (e.on = 2) && Region.binds .any e) (x := true) (by kernel_rfl))
  have e3 : a.eval (.tmp 70) = .agg #[.int .i64 y1, .int .i64 y2] := haft 3 (op_at ho (fun o => o.after.any fun e => decide (e.on = 3) && Region.binds .any e) (x := true) (by kernel_rfl))
  refine ⟨fun j b h => (by rw [hgd] at h; cases h), ?_⟩
  refine specs_call (R := fun v W => rk20S p pr A n c A' n' c' vr y1 y2 N bt iq ln yy cb 4 v W) (f := 59) (args := #[.agg #[.slice A n c, .slice A' n' c'], .agg #[.int .i64 y1, .int .i64 y2]]) (by simp [execOp, hop, go_sem, ev e2, ev e3]) ((hcall W hB).mono ?_)
  rintro e w' ⟨rfl, h3⟩
  exact ⟨_, rfl, rfl, h3⟩
set_option maxHeartbeats 1000000 in
theorem rk20_op5 (hcnt : ∀ W, Ext V W → Calls Try.prog 73 #[.agg #[.slice A n c, .slice A' n' c'], vr, .int .i64 (bt : Int)] W fun e w' => ∃ g9 c9, e = .returned (.slice (some ⟨g9, 0, none⟩) ln c9) ∧ g9 < w'.heap.size ∧ w'.cell? ⟨g9, iq, none⟩ = some (.int .i64 yy) ∧ Ext W w') (hB : Ext V W) (haft : ∀ j, (o.after.any fun e => decide (e.on = j) && Region.binds .any e) = true → rk20S p pr A n c A' n' c' vr y1 y2 N bt iq ln yy cb j (a.eval (.tmp (rk20D j))) W) (ho : rk20Reg[5]? = some o) : rk20Ok p pr A n c A' n' c' vr y1 y2 N bt iq ln yy cb Q a W 5 o := by
  have hop := op_at ho (·.op) (x := Op.call { callee := Callee.value (Operand.func 73), args := #[Operand.tmp 67, Operand.tmp 68, Operand.tmp 71], argTypes := #[25, 54, 3] }) (by kernel_rfl)
  have hgd := op_at ho (·.guard) (x := none) (by kernel_rfl)
  have e0 : a.eval (.tmp 67) = .agg #[.slice A n c, .slice A' n' c'] := haft 0 (op_at ho (fun o => o.after.any fun e => decide (e.on = 0) && Region.binds .any e) (x := true) (by kernel_rfl))
  have e1 : a.eval (.tmp 68) = vr := haft 1 (op_at ho (fun o => o.after.any fun e => decide (e.on = 1) && Region.binds .any e) (x := true) (by kernel_rfl))
  have e4 : rk20S p pr A n c A' n' c' vr y1 y2 N bt iq ln yy cb 4 (a.eval (.tmp 71)) W := haft 4 (op_at ho (fun o => o.after.any fun e => decide (e.on = 4) && Region.binds .any e) (x := true) (by kernel_rfl))
  refine ⟨fun j b h => (by rw [hgd] at h; cases h), ?_⟩
  have eB : a.eval (.tmp 71) = .int .i64 (bt : Int) := e4
  refine specs_call (R := fun v W => rk20S p pr A n c A' n' c' vr y1 y2 N bt iq ln yy cb 5 v W) (f := 73) (args := #[.agg #[.slice A n c, .slice A' n' c'], vr, .int .i64 (bt : Int)]) (by simp [execOp, hop, go_sem, ev e0, ev e1, ev eB]) ((hcnt W hB).mono ?_)
  rintro e w' ⟨g9, c9, rfl, h1, h2, h3⟩
  exact ⟨_, rfl, ⟨g9, c9, rfl, h1, h2⟩, h3⟩
set_option maxHeartbeats 1000000 in
theorem rk20_op6 (o9 : a.eval (.tmp 9) = .int .i64 N) (ho : rk20Reg[6]? = some o) : rk20Ok p pr A n c A' n' c' vr y1 y2 N bt iq ln yy cb Q a W 6 o := by
  have hop := op_at ho (·.op) (x := Op.move (Operand.tmp 9)) (by kernel_rfl)
  have hgd := op_at ho (·.guard) (x := none) (by kernel_rfl)
  refine ⟨fun j b h => (by rw [hgd] at h; cases h), ?_⟩
  exact specs_value (R := fun v W => rk20S p pr A n c A' n' c' vr y1 y2 N bt iq ln yy cb 6 v W) (v := .int .i64 N) (by simp [execOp, hop, go_sem, ev o9]) rfl (Ext.refl W)
set_option maxHeartbeats 1000000 in
theorem rk20_op7 (hN : IntKind.i64.wrap (N - 1) = (iq : Int)) (haft : ∀ j, (o.after.any fun e => decide (e.on = j) && Region.binds .any e) = true → rk20S p pr A n c A' n' c' vr y1 y2 N bt iq ln yy cb j (a.eval (.tmp (rk20D j))) W) (ho : rk20Reg[7]? = some o) : rk20Ok p pr A n c A' n' c' vr y1 y2 N bt iq ln yy cb Q a W 7 o := by
  have hop := op_at ho (·.op) (x := Op.binOp BinOp.sub 3 (Operand.tmp 73) (Operand.const (Value.int IntKind.i64 1)) 3) (by kernel_rfl)
  have hgd := op_at ho (·.guard) (x := none) (by kernel_rfl)
  have e6 : a.eval (.tmp 73) = .int .i64 N := haft 6 (op_at ho (fun o => o.after.any fun e => decide (e.on = 6) && Region.binds .any e) (x := true) (by kernel_rfl))
  refine ⟨fun j b h => (by rw [hgd] at h; cases h), ?_⟩
  exact specs_value (R := fun v W => rk20S p pr A n c A' n' c' vr y1 y2 N bt iq ln yy cb 7 v W) (v := .int .i64 (iq : Int)) (by simp [execOp, hop, go_sem, ev e6, hN]) rfl (Ext.refl W)
set_option maxHeartbeats 1000000 in
theorem rk20_op8 (hil : iq < ln) (haft : ∀ j, (o.after.any fun e => decide (e.on = j) && Region.binds .any e) = true → rk20S p pr A n c A' n' c' vr y1 y2 N bt iq ln yy cb j (a.eval (.tmp (rk20D j))) W) (ho : rk20Reg[8]? = some o) : rk20Ok p pr A n c A' n' c' vr y1 y2 N bt iq ln yy cb Q a W 8 o := by
  have hop := op_at ho (·.op) (x := Op.indexAddr 34 (Operand.tmp 72) (Operand.tmp 74)) (by kernel_rfl)
  have hgd := op_at ho (·.guard) (x := none) (by kernel_rfl)
  have e5 : rk20S p pr A n c A' n' c' vr y1 y2 N bt iq ln yy cb 5 (a.eval (.tmp 72)) W := haft 5 (op_at ho (fun o => o.after.any fun e => decide (e.on = 5) && Region.binds .any e) (x := true) (by kernel_rfl))
  have e7 : a.eval (.tmp 74) = .int .i64 (iq : Int) := haft 7 (op_at ho (fun o => o.after.any fun e => decide (e.on = 7) && Region.binds .any e) (x := true) (by kernel_rfl))
  refine ⟨fun j b h => (by rw [hgd] at h; cases h), ?_⟩
  obtain ⟨g9, c9, hv, h1, h2⟩ := e5
  have hiz : (iq : Int) < (ln : Int) := by omega
  exact specs_value (R := fun v W => rk20S p pr A n c A' n' c' vr y1 y2 N bt iq ln yy cb 8 v W) (v := .pointer (some ⟨g9, iq, none⟩)) (by simp [execOp, hop, go_sem, ev hv, ev e7, hiz]) ⟨g9, rfl, h1, h2⟩ (Ext.refl W)
set_option maxHeartbeats 1000000 in
theorem rk20_op9 (haft : ∀ j, (o.after.any fun e => decide (e.on = j) && Region.binds .any e) = true → rk20S p pr A n c A' n' c' vr y1 y2 N bt iq ln yy cb j (a.eval (.tmp (rk20D j))) W) (ho : rk20Reg[9]? = some o) : rk20Ok p pr A n c A' n' c' vr y1 y2 N bt iq ln yy cb Q a W 9 o := by
  have hop := op_at ho (·.op) (x := Op.load 2 (Operand.tmp 75)) (by kernel_rfl)
  have hgd := op_at ho (·.guard) (x := none) (by kernel_rfl)
  have e8 : rk20S p pr A n c A' n' c' vr y1 y2 N bt iq ln yy cb 8 (a.eval (.tmp 75)) W := haft 8 (op_at ho (fun o => o.after.any fun e => decide (e.on = 8) && Region.binds .any e) (x := true) (by kernel_rfl))
  refine ⟨fun j b h => (by rw [hgd] at h; cases h), ?_⟩
  obtain ⟨g9, hv, h1, h2⟩ := e8
  exact specs_value (R := fun v W => rk20S p pr A n c A' n' c' vr y1 y2 N bt iq ln yy cb 9 v W) (v := .int .i64 yy) (by simp [execOp, hop, go_sem, ev hv, h2]) rfl (Ext.refl W)
set_option maxHeartbeats 1000000 in
theorem rk20_op10 (hcb : decide ((0 : Int) < yy) = cb) (haft : ∀ j, (o.after.any fun e => decide (e.on = j) && Region.binds .any e) = true → rk20S p pr A n c A' n' c' vr y1 y2 N bt iq ln yy cb j (a.eval (.tmp (rk20D j))) W) (ho : rk20Reg[10]? = some o) : rk20Ok p pr A n c A' n' c' vr y1 y2 N bt iq ln yy cb Q a W 10 o := by
  have hop := op_at ho (·.op) (x := Op.binOp BinOp.gtr 2 (Operand.tmp 76) (Operand.const (Value.int IntKind.i64 0)) 2) (by kernel_rfl)
  have hgd := op_at ho (·.guard) (x := none) (by kernel_rfl)
  have e9 : a.eval (.tmp 76) = .int .i64 yy := haft 9 (op_at ho (fun o => o.after.any fun e => decide (e.on = 9) && Region.binds .any e) (x := true) (by kernel_rfl))
  refine ⟨fun j b h => (by rw [hgd] at h; cases h), ?_⟩
  exact specs_value (R := fun v W => rk20S p pr A n c A' n' c' vr y1 y2 N bt iq ln yy cb 10 v W) (v := .bool cb) (by simp [execOp, hop, go_sem, ev e9, ← hcb]) rfl (Ext.refl W)
set_option maxRecDepth 100000 in
set_option maxHeartbeats 4000000 in
/-- Region 20 of function 33. -/
theorem rk20_wp {id : Nat} (hlen : a.tmps.size = 78) (o2 : a.eval (.tmp 2) = .pointer (some ⟨p, 0, none⟩)) (o3 : a.eval (.tmp 3) = .pointer (some ⟨pr, 0, none⟩)) (o7 : a.eval (.tmp 7) = vr) (o9 : a.eval (.tmp 9) = .int .i64 N) (q0 : ∀ W, Ext V W → W.cell? ⟨p, 0, none⟩ = some (.slice A n c)) (q1 : ∀ W, Ext V W → W.cell? ⟨p, 1, none⟩ = some (.slice A' n' c')) (x0 : ∀ W, Ext V W → W.cell? ⟨pr, 0, none⟩ = some (.int .i64 y1)) (x1 : ∀ W, Ext V W → W.cell? ⟨pr, 1, none⟩ = some (.int .i64 y2)) (hcall : ∀ W, Ext V W → Calls Try.prog 59 #[.agg #[.slice A n c, .slice A' n' c'], .agg #[.int .i64 y1, .int .i64 y2]] W fun e w' => e = .returned (.int .i64 (bt : Int)) ∧ Ext W w') (hcnt : ∀ W, Ext V W → Calls Try.prog 73 #[.agg #[.slice A n c, .slice A' n' c'], vr, .int .i64 (bt : Int)] W fun e w' => ∃ g9 c9, e = .returned (.slice (some ⟨g9, 0, none⟩) ln c9) ∧ g9 < w'.heap.size ∧ w'.cell? ⟨g9, iq, none⟩ = some (.int .i64 yy) ∧ Ext W w') (hN : IntKind.i64.wrap (N - 1) = (iq : Int)) (hil : iq < ln) (hcb : decide ((0 : Int) < yy) = cb) (K : (∀ W v4 v5 v8, Ext V W → rk20S p pr A n c A' n' c' vr y1 y2 N bt iq ln yy cb 4 v4 W → rk20S p pr A n c A' n' c' vr y1 y2 N bt iq ln yy cb 5 v5 W → rk20S p pr A n c A' n' c' vr y1 y2 N bt iq ln yy cb 8 v8 W → wpList Try.prog rk20Reg Q (rk20Reg.toList.drop 11) (puts a [(67, .agg #[.slice A n c, .slice A' n' c']), (68, vr), (69, .agg #[.slice A n c, .slice A' n' c']), (70, .agg #[.int .i64 y1, .int .i64 y2]), (71, v4), (72, v5), (73, .int .i64 N), (74, .int .i64 (iq : Int)), (75, v8), (76, .int .i64 yy), (77, .bool cb)]) W)) : (Code.region id rk20Reg true).wp Try.prog Q a V := by
  refine wp_region_specs_free (ops := rk20Reg) 11 (rk20S p pr A n c A' n' c' vr y1 y2 N bt iq ln yy cb) (Ext V) (by kernel_rfl) (by rw [hlen]; kernel_rfl) (by kernel_rfl) ⟨rfl, rfl, rfl, Nat.le_refl _, fun _ _ => rfl⟩ (fun _ _ h e => h.trans e) rk20S_ext rk20D (by kernel_rfl) ?_ ?_
  · intro i o hi ho a' W hB hsz hold haft
    match i, hi with
    | 0, _ => exact rk20_op0 ((hold 2 (by kernel_rfl)).trans o2) q0 q1 hB ho
    | 1, _ => exact rk20_op1 ((hold 7 (by kernel_rfl)).trans o7) ho
    | 2, _ => exact rk20_op2 ((hold 2 (by kernel_rfl)).trans o2) q0 q1 hB ho
    | 3, _ => exact rk20_op3 ((hold 3 (by kernel_rfl)).trans o3) x0 x1 hB ho
    | 4, _ => exact rk20_op4 hcall hB haft ho
    | 5, _ => exact rk20_op5 hcnt hB haft ho
    | 6, _ => exact rk20_op6 ((hold 9 (by kernel_rfl)).trans o9) ho
    | 7, _ => exact rk20_op7 hN haft ho
    | 8, _ => exact rk20_op8 hil haft ho
    | 9, _ => exact rk20_op9 haft ho
    | 10, _ => exact rk20_op10 hcb haft ho
    | m + 11, h => exact absurd h (by omega)
  · intro a1 W hB hsz hdf hold hS
    obtain ⟨v4, g4⟩ : ∃ v, v = a1.eval (.tmp 71) := ⟨_, rfl⟩
    obtain ⟨v5, g5⟩ : ∃ v, v = a1.eval (.tmp 72) := ⟨_, rfl⟩
    obtain ⟨v8, g8⟩ : ∃ v, v = a1.eval (.tmp 75) := ⟨_, rfl⟩
    have hall : ∀ z, z ∈ ([(67, .agg #[.slice A n c, .slice A' n' c']), (68, vr), (69, .agg #[.slice A n c, .slice A' n' c']), (70, .agg #[.int .i64 y1, .int .i64 y2]), (71, v4), (72, v5), (73, .int .i64 N), (74, .int .i64 (iq : Int)), (75, v8), (76, .int .i64 yy), (77, .bool cb)] : List (Tmp × Value)) → z.1 < a.tmps.size ∧ a1.eval (.tmp z.1) = z.2 := by
      intro z hz
      rw [hlen]
      simp only [List.mem_cons, List.not_mem_nil, or_false] at hz
      rcases hz with rfl | rfl | rfl | rfl | rfl | rfl | rfl | rfl | rfl | rfl | rfl
      · exact ⟨(show (67 : Nat) < 78 by omega), hS 0 (by omega)⟩
      · exact ⟨(show (68 : Nat) < 78 by omega), hS 1 (by omega)⟩
      · exact ⟨(show (69 : Nat) < 78 by omega), hS 2 (by omega)⟩
      · exact ⟨(show (70 : Nat) < 78 by omega), hS 3 (by omega)⟩
      · exact ⟨(show (71 : Nat) < 78 by omega), g4.symm⟩
      · exact ⟨(show (72 : Nat) < 78 by omega), g5.symm⟩
      · exact ⟨(show (73 : Nat) < 78 by omega), hS 6 (by omega)⟩
      · exact ⟨(show (74 : Nat) < 78 by omega), hS 7 (by omega)⟩
      · exact ⟨(show (75 : Nat) < 78 by omega), g8.symm⟩
      · exact ⟨(show (76 : Nat) < 78 by omega), hS 9 (by omega)⟩
      · exact ⟨(show (77 : Nat) < 78 by omega), hS 10 (by omega)⟩
    have ha := act_puts hsz hdf hall (fun t ht => hold t (all_ne_of (l := [(67, .agg #[.slice A n c, .slice A' n' c']), (68, vr), (69, .agg #[.slice A n c, .slice A' n' c']), (70, .agg #[.int .i64 y1, .int .i64 y2]), (71, v4), (72, v5), (73, .int .i64 N), (74, .int .i64 (iq : Int)), (75, v8), (76, .int .i64 yy), (77, .bool cb)]) (by kernel_rfl) ht))
    rw [ha]
    exact K W v4 v5 v8 hB (by rw [g4]; exact hS 4 (by omega)) (by rw [g5]; exact hS 5 (by omega)) (by rw [g8]; exact hS 8 (by omega))
end
end Go.Proofs.Ytchmdkdiilaejaa

/- Kind of the reference, walked. -/
namespace Go.Proofs.Ytchmdkdiilaejaa
open Go.RowKit Go.Shelf
attribute [local irreducible] bitCells fitCells Z94 fitOf

theorem held_own27 {W : World} {base : Nat} {A : Option Addr} {k c : Nat} {r : List Rw} (h : W.ownsRow base 27 2 (.slice A k c) k (r.flatMap encRw)) (hk : k = r.length) : Held W W.heap.size 2 encS A (r.map rwInt) := by
  rw [flat_rwInt] at h
  exact (own_held (enc := encS) (fun _ => rfl) (by rw [List.length_map]; exact hk) h).1
theorem rest_snoc {x : Rw} {l : List Rw} {j : Nat} (hj : j < l.length) : (l.take (j + 1)).filter (fun y => decide (y ≠ x)) = (l.take j).filter (fun y => decide (y ≠ x)) ++ if l[j] = x then [] else [l[j]] := by
  rw [List.take_succ_eq_append_getElem hj, List.filter_append]
  congr 1
  by_cases e : l[j] = x
  · simp [e]
  · simp [e]

set_option maxRecDepth 100000 in
set_option maxHeartbeats 8000000 in
theorem rkind_any {A : Option Addr} {n c : Nat} {A' : Option Addr} {n' c' : Nat} {cs ms : List (Int × Int)} {w : World} (hb : IsSheet w w.heap.size A n c A' n' c' cs ms) (y1 y2 : Int) :
    Calls Try.prog 33 #[.agg #[.slice A n c, .slice A' n' c'], .agg #[.int .i64 y1, .int .i64 y2]] w fun e w' => e = .returned (.tuple #[.int .i64 (kindAns cs ms (y1, y2)).1, .int .i64 (kindAns cs ms (y1, y2)).2]) ∧ Ext w w' := by
  obtain ⟨i27, hi, hz0, hz1, hz2⟩ := info_parts info27c
  have HI := Lib.hid (And.intro hi (And.intro hz0 (And.intro hz1 hz2)))
  clear hi hz0 hz1 hz2
  obtain ⟨a1, a2, hans⟩ : ∃ a1 a2, kindAns cs ms (y1, y2) = (a1, a2) := ⟨_, _, rfl⟩
  rw [hans]
  have HA := Lib.hid hans
  have hX0 : SheetAt ((w.alloc (.cells #[.slice A n c, .slice A' n' c'] 25)).alloc (.cells #[.int .i64 y1, .int .i64 y2] 27)) w.heap.size A n c A' n' c' cs ms := (SheetAt.new hb).ext (ext_alloc _ _)
  have hE0 : Ext w ((w.alloc (.cells #[.slice A n c, .slice A' n' c'] 25)).alloc (.cells #[.int .i64 y1, .int .i64 y2] 27)) := (ext_alloc _ _).trans (ext_alloc _ _)
  have hr0 : ((w.alloc (.cells #[.slice A n c, .slice A' n' c'] 25)).alloc (.cells #[.int .i64 y1, .int .i64 y2] 27)).heap[w.heap.size + 1]? = some (.cells #[.int .i64 y1, .int .i64 y2] 27 (0, 0)) := row_last _ _ _ (by simp)
  have HN := Lib.hid (And.intro hb.ncs hb.nms)
  clear hb hans
  dsimp only
  go_enter Try.func33, Try.ntmps33
  go_upto_region 1 with fail
  obtain ⟨w0, hw0⟩ : ∃ w0, (w.alloc (.cells #[.slice A n c, .slice A' n' c'] 25)).alloc (.cells #[.int .i64 y1, .int .i64 y2] 27) = w0 := ⟨_, rfl⟩
  rw [hw0] at hX0 hE0 hr0
  rw [hw0]
  obtain ⟨p, hp⟩ : ∃ p, w.heap.size = p := ⟨_, rfl⟩
  rw [hp] at hX0 hr0
  rw [hp]
  have HX := Lib.hid hX0
  have HE := Lib.hid hE0
  have HR := Lib.hid hr0
  clear hw0 hp hX0 hE0 hr0
  obtain ⟨q0, q1⟩ := HX.out.cells
  have h24 := refSheet_any HX.out.sheet
  obtain ⟨r, hr⟩ : ∃ r, sheetErr cs ms = r := ⟨_, rfl⟩
  have HS := Lib.hid hr
  rw [hr] at h24
  clear hr
  go_wp2_with fail
  refine h24.mono ?_
  rintro e w1 ⟨rfl, e1⟩
  have HX := Lib.hid (HX.out.ext e1)
  have HE := Lib.hid (HE.out.trans e1)
  have HR := Lib.hid (row_ext HR.out e1)
  clear e1 h24 q0 q1
  obtain ⟨q0, q1⟩ := HX.out.cells
  by_cases h0 : r = 0
  · subst h0
    have h0 := HS.out
    have x0 : w1.cell? ⟨p + 1, 0, none⟩ = some (.int .i64 y1) := cell_of_row _ _ _ _ _ _ HR.out
    have h58 := isComb_any (A := A) (n := n) (c := c) (A' := A') (n' := n') (c' := c') y1 w1
    have hans := HA.out
    unfold kindAns at hans
    rw [if_pos h0, ← HN.out.1, show strange n (y1, y2) = strange n (y1, 0) from rfl] at hans
    have HA := Lib.hid hans
    clear hans h0
    go_wp2_with fail
    refine h58.mono ?_
    rintro e w2 ⟨rfl, e2⟩
    have HX := Lib.hid (HX.out.ext e2)
    have HE := Lib.hid (HE.out.trans e2)
    have HR := Lib.hid (row_ext HR.out e2)
    clear e2 h58 q0 q1 x0
    cases hst : strange n (y1, 0) with
    | true =>
      have hans := HA.out
      rw [hst, if_pos rfl] at hans
      cases hans
      clear hst
      go_wp2
      go_ret2
      exact ⟨rfl, HE.out⟩
    | false =>
      have hans := HA.out
      rw [hst, if_neg (by decide)] at hans
      obtain ⟨s1, s2⟩ := (strange_iff _ _).1 hst
      dsimp only at s1 s2
      obtain ⟨k, rfl⟩ := Int.eq_ofNat_of_zero_le s1
      have hkl : k < cs.length := by have := HN.out.1; omega
      have HA := Lib.hid hans
      clear hans hst s1 s2
      obtain ⟨q0, q1⟩ := HX.out.cells
      have h61 := refLostIn_any HX.out.sheet HS.out
      go_wp2_with fail
      refine h61.mono ?_
      rintro e w3 ⟨v, rfl, e3, hM⟩
      obtain ⟨A5, c5, hv⟩ := owns_slice hM.1
      subst hv
      have HX := Lib.hid (HX.out.ext e3)
      have HE := Lib.hid (HE.out.trans e3)
      have HR := Lib.hid (row_ext HR.out e3)
      clear e3 h61 q0 q1 hM
      obtain ⟨ll, hll⟩ : ∃ ll, (lostOf cs ms).length = ll := ⟨_, rfl⟩
      rw [hll]
      have HLL := Lib.hid hll
      clear hll
      by_cases hl0 : ll = 0
      · subst hl0
        have hans := HA.out
        rw [if_pos HLL.out, fitFor_eq HS.out hkl] at hans
        have hw : wholeErr cs ms = 0 := by
          unfold wholeErr
          rw [if_pos HS.out, if_pos HLL.out]
        have HA := Lib.hid hans
        have HW := Lib.hid hw
        clear hans hw
        obtain ⟨q0, q1⟩ := HX.out.cells
        have x0 : w3.cell? ⟨p + 1, 0, none⟩ = some (.int .i64 (k : Int)) := cell_of_row _ _ _ _ _ _ HR.out
        have x1 : w3.cell? ⟨p + 1, 1, none⟩ = some (.int .i64 y2) := cell_of_row _ _ _ _ _ _ HR.out
        have h59 := bits_any HX.out.sheet HS.out k hkl y2
        obtain ⟨bt, hbt⟩ : ∃ bt, bitsOf cs ms k y2 = bt := ⟨_, rfl⟩
        rw [hbt] at h59
        have HBT := Lib.hid hbt
        clear hbt
        go_wp2_with fail
        refine h59.mono ?_
        rintro e w4 ⟨rfl, e4⟩
        have HX := Lib.hid (HX.out.ext e4)
        have HE := Lib.hid (HE.out.trans e4)
        have HR := Lib.hid (row_ext HR.out e4)
        clear e4 h59 q0 q1 x0 x1
        by_cases hb0 : bt = 0
        · subst hb0
          have hans := HA.out
          rw [if_pos HBT.out] at hans
          cases hans
          go_wp2
          go_ret2
          exact ⟨rfl, HE.out⟩
        · have hbz : ((bt : Int) == 0) = false := by simpa using hb0
          have hmem : ((k, y2) : Rw) ∈ fitsOf cs ms := fits_has HS.out hkl (by rw [HBT.out]; exact hb0)
          have hans := HA.out
          rw [if_neg (by rw [HBT.out]; exact hb0)] at hans
          have ha2 : a1 = refKind cs ms (k, y2) ∧ a2 = 0 := by
            rw [refKind_is HW.out hmem]
            have h1 : (kindOf cs ms (allNos cs ms) (k, y2), (0 : Int)) = (a1, a2) := hans
            cases h1
            exact ⟨rfl, rfl⟩
          obtain ⟨ha1, rfl⟩ := ha2
          have HA := Lib.hid ha1
          have HMM := Lib.hid hmem
          clear hans ha1 hb0 hmem
          obtain ⟨q0, q1⟩ := HX.out.cells
          have h48 := refRows_any HX.out.sheet HS.out
          go_wp2_with fail
          refine h48.mono ?_
          rintro e w5 ⟨v, rfl, e5, hv⟩
          obtain ⟨A6, c6, hv2⟩ := owns_slice hv
          subst hv2
          have HX := Lib.hid (HX.out.ext e5)
          have HE := Lib.hid (HE.out.trans e5)
          have HR := Lib.hid (row_ext HR.out e5)
          have hfew := fits_few HS.out
          obtain ⟨ls, hls⟩ : ∃ ls, fitsOf cs ms = ls := ⟨_, rfl⟩
          rw [hls] at hv hfew
          rw [hls]
          have HLS := Lib.hid hls
          have HV := Lib.hid hv
          clear e5 h48 hv hls q0 q1
          go_wp2_with fail
          go_loopw [7, 8] (fun v i wr => ∃ j : Nat, j ≤ ls.length ∧ i = .int .i64 j ∧ Hid (Ext w5 wr) ∧ Hid (wr.ownsRow w5.heap.size 27 2 v ((ls.take j).filter fun z => decide (z ≠ (k, y2))).length (((ls.take j).filter fun z => decide (z ≠ (k, y2))).flatMap encRw))) (fun _ i _ => ls.length - (intOf i).toNat)
          case atStart => exact ⟨0, Nat.zero_le _, rfl, Lib.hid (Ext.refl _), Lib.hid (World.ownsRow_nil _ _ _ _)⟩
          case round =>
            obtain ⟨j, hj, rfl, hE, hO⟩ := hrel
            by_cases hjl : j < ls.length
            · have hjz : (j : Int) < (ls.length : Int) := by omega
              obtain ⟨g, rfl, hg, c0, c1⟩ := pair_at (owns_ext HV.out hE.out) hjl
              have hsn := rest_snoc (x := (k, y2)) hjl
              obtain ⟨x1, x2, hx⟩ : ∃ x1 x2, ls[j] = (x1, x2) := ⟨_, _, rfl⟩
              rw [hx] at c0 c1 hsn
              dsimp only at c0 c1
              have r0 : wr.cell? ⟨p + 1, 0, none⟩ = some (.int .i64 (k : Int)) := cell_of_row _ _ _ _ _ _ (row_ext HR.out hE.out)
              have r1 : wr.cell? ⟨p + 1, 1, none⟩ = some (.int .i64 y2) := cell_of_row _ _ _ _ _ _ (row_ext HR.out hE.out)
              have hne := neqRow ((x1 : Int), x2) ((k : Int), y2)
              dsimp only at hne
              have hiff : (((x1 : Int), x2) = ((k : Int), y2)) ↔ ((x1, x2) : Rw) = (k, y2) := by
                simp only [Prod.mk.injEq]
                omega
              have hrl : ((ls.take j).filter fun z => decide (z ≠ (k, y2))).length ≤ 384 := by
                have h1 := (List.filter_sublist (l := ls.take j) (p := fun z => decide (z ≠ (k, y2)))).length_le
                rw [List.length_take] at h1
                omega
              obtain ⟨rs, hrs⟩ : ∃ rs, (ls.take j).filter (fun z => decide (z ≠ (k, y2))) = rs := ⟨_, rfl⟩
              rw [hrs] at hsn hO hrl
              by_cases hxy : ((x1, x2) : Rw) = (k, y2)
              · rw [decide_eq_true (hiff.2 hxy)] at hne
                rw [if_pos hxy, List.append_nil] at hsn
                have HSN := Lib.hid hsn
                clear hsn hiff hxy hrs hx
                go_upto_region 14 with fail
                go_quiet (fail)
                go_wp2
                go_roundw
                case measure => simp [intOf]; omega
                case rel => exact ⟨j + 1, by omega, by go_num, Lib.hid (bdrewN hE.out _), by rw [HSN.out]; exact Lib.hid (owns_ext hO.out (bdrewN (Ext.refl _) _))⟩
              · rw [decide_eq_false (fun e => hxy (hiff.1 e))] at hne
                rw [if_neg hxy] at hsn
                have HSN := Lib.hid hsn
                clear hsn hiff hxy hrs hx
                go_upto_region 14 with fail
                go_quiet (fail)
                have edr : Ext wr (wr.drewN nq) := bdrewN (Ext.refl _) _
                have c0 := (edr.cell (p := ⟨g, j * 2, none⟩) hg).trans c0
                have c1 := (edr.cell (p := ⟨g, j * 2 + 1, none⟩) hg).trans c1
                have hO2 := owns_ext hO.out edr
                have hE2 := hE.out.trans edr
                obtain ⟨wd, hwd⟩ : ∃ wd, wr.drewN nq = wd := ⟨_, rfl⟩
                rw [hwd] at c0 c1 hO2 hE2
                rw [hwd]
                have oA := hO2.alloc (.cells #[.int .i64 (x1 : Int), .int .i64 x2] 27)
                have hcn := cells_new wd #[.int .i64 (x1 : Int), .int .i64 x2] 27
                have hz1 := hE2.size
                have hone : ∀ u ∈ [Value.int .i64 (x1 : Int), .int .i64 x2], u.oneCell' = true := by
                  intro u hu
                  simp at hu
                  rcases hu with rfl | rfl <;> rfl
                clear hwd edr r0 r1 hne hO hE
                go_wp2_with (first | (at_builtin; refine wpList_append_own _ rfl (.tmp 45) (.tmp 50) 54 rfl w5.heap.size 27 i27 (.agg #[.int .i64 0, .int .i64 0]) 2 16 ?_ ?_ ?_ ?_ ?_ ?_ ?_ u7 _ (rs.flatMap encRw) rfl oA ⟨wd.heap.size, 0, none⟩ 1 1 [.int .i64 (x1 : Int), .int .i64 x2] rfl ?_ ?_ ?_ ?_ ?_ ?_ ?_; exact Try.underlying54; exact HI.out.1; exact HI.out.2.1; exact HI.out.2.2.1; exact HI.out.2.2.2; rfl; decide; rfl; exact hcn; exact hone; (unfold maxLen; omega); omega; (simp; omega); intro v' w6 hown' hg5 _; have HWW := Lib.hid hown'; have hE6 := Lib.hid (((hE2.alloc hz1 (.cells #[.int .i64 (x1 : Int), .int .i64 x2] 27)).grown hg5 (by simp; omega) (fun b e => (oA.lt b e).1)) : Ext w5 w6); clear hown' hg5 oA))
                go_roundw
                case measure => simp [intOf]; omega
                case rel =>
                  refine ⟨j + 1, by omega, by go_num, hE6, Lib.hid ?_⟩
                  rw [HSN.out, flat_snoc, List.length_append]
                  exact HWW.out
            · have hjz : ¬ (j : Int) < (ls.length : Int) := by omega
              obtain rfl : j = ls.length := by omega
              have hO2 := hO.out
              rw [List.take_length] at hO2
              obtain ⟨rs, hrs⟩ : ∃ rs, ls.filter (fun z => decide (z ≠ (k, y2))) = rs := ⟨_, rfl⟩
              rw [hrs] at hO2
              obtain ⟨A7, c7, hv⟩ := owns_slice hO2
              subst hv
              have hrin : ∀ z, z ∈ rs → z ∈ fitsOf cs ms := fun z hz => by
                rw [← hrs] at hz
                rw [HLS.out]
                exact List.filter_sublist.subset hz
              have hrl : rs.length ≤ 384 := by
                rw [← hrs]
                have h1 := (List.filter_sublist (l := ls) (p := fun z => decide (z ≠ (k, y2)))).length_le
                omega
              have HX := Lib.hid (HX.out.ext hE.out)
              have HE := Lib.hid (HE.out.trans hE.out)
              have HR := Lib.hid (row_ext HR.out hE.out)
              have HF := Lib.hid (held_own27 (owns_ext HV.out hE.out) rfl)
              have HG := Lib.hid (held_own27 hO2 rfl)
              have HRS := Lib.hid hrs
              have HRI := Lib.hid hrin
              clear hE hO hO2 hrs hrin
              obtain ⟨q0, q1⟩ := HX.out.cells
              have h72 := few72_any HX.out.sheet HS.out A6 ls.length c6 ls rfl (by omega) (fun z hz => by rw [HLS.out]; exact hz) HF.out
              have hkd := HA.out
              unfold refKind at hkd
              dsimp only at hkd
              rw [HLS.out, HRS.out] at hkd
              have hff := refFew_fits HW.out
              rw [HLS.out] at hff
              rw [hff] at h72 hkd
              dsimp only at h72 hkd
              have hbp := best_pos HW.out
              have hbf := best_few HW.out
              have hbl : (bestRows cs ms).length = bestLen cs ms := (best_bestL HW.out).2.2
              obtain ⟨B, hB⟩ : ∃ B, bestLen cs ms = B := ⟨_, rfl⟩
              rw [hB] at h72 hkd hbp hbl
              rw [hbl, ← HN.out.2] at hbf
              obtain ⟨wc, hwc⟩ : ∃ wc, min (wayCount cs ms ls 0 B : Int) CAP = wc := ⟨_, rfl⟩
              rw [hwc] at h72
              have HKD := Lib.hid hkd
              clear hff hB hwc hbl hkd
              go_wp2_with fail
              refine h72.mono ?_
              rintro e w6 ⟨rfl, e6⟩
              have HX := Lib.hid (HX.out.ext e6)
              have HE := Lib.hid (HE.out.trans e6)
              have HR := Lib.hid (row_ext HR.out e6)
              have HG := Lib.hid (Held.ext HG.out e6)
              clear e6 h72 q0 q1 HF
              obtain ⟨q0, q1⟩ := HX.out.cells
              have h72 := few72_any HX.out.sheet HS.out A7 rs.length c7 rs rfl (by omega) HRI.out HG.out
              obtain ⟨m1, m2, hmm⟩ : ∃ m1 m2, refFew cs ms rs = (m1, m2) := ⟨_, _, rfl⟩
              rw [hmm] at h72
              dsimp only at h72
              have hkd := HKD.out
              rw [hmm] at hkd
              dsimp only at hkd
              have HKD := Lib.hid hkd
              clear hmm hkd
              go_wp2_with fail
              refine h72.mono ?_
              rintro e w7 ⟨rfl, e7⟩
              have HX := Lib.hid (HX.out.ext e7)
              have HE := Lib.hid (HE.out.trans e7)
              have HR := Lib.hid (row_ext HR.out e7)
              have HG := Lib.hid (Held.ext HG.out e7)
              clear e7 h72 q0 q1
              by_cases hmn : m1 = B
              · have hmz : ((m1 : Int) != (B : Int)) = false := by simp [hmn]
                have hkd := HKD.out
                rw [if_neg (fun h => h hmn)] at hkd
                obtain ⟨yy, hyy⟩ : ∃ yy, refWays cs ms rs (noOf cs ms (k, y2)) (B - 1) = yy := ⟨_, rfl⟩
                rw [hyy] at hkd
                obtain ⟨_, _, m3, _⟩ := fits_mem HS.out HMM.out
                dsimp only at m3
                have hno : noOf cs ms (k, y2) = bt := by rw [← m3]; exact HBT.out
                rw [hno] at hyy
                have hnlt : bt < 2 ^ n' := by
                  have := no_under cs ms (k, y2)
                  rw [hno, ← HN.out.2] at this
                  exact this
                have hcnt : ∀ W, Ext w7 W → Calls Try.prog 73 #[.agg #[.slice A n c, .slice A' n' c'], .slice A7 rs.length c7, .int .i64 (bt : Int)] W fun e w' => ∃ g9 c9, e = .returned (.slice (some ⟨g9, 0, none⟩) (n' + 1) c9) ∧ g9 < w'.heap.size ∧ w'.cell? ⟨g9, B - 1, none⟩ = some (.int .i64 yy) ∧ Ext W w' := fun W hW =>
                  (counts_any (HX.out.ext hW).sheet HS.out A7 rs.length c7 rs rfl (by omega) HRI.out (Held.ext HG.out hW) bt hnlt).mono fun e w' ⟨v, he, hw, hM⟩ => by
                    obtain ⟨A9, c9, hv⟩ := owns_slice hM.1
                    rw [show ((List.range (n' + 1)).map (refWays cs ms rs bt)).length = n' + 1 from by simp] at hv
                    subst hv
                    have hM1 := hM.1
                    rw [show ((List.range (n' + 1)).map (refWays cs ms rs bt)).length = n' + 1 from by simp] at hM1
                    obtain ⟨g, rfl, hg, hc⟩ := long_at hM1 (i := B - 1) (by simp; omega)
                    refine ⟨g, c9, he, hg, ?_, hw⟩
                    rw [hc]
                    simp [hyy]
                have h59 : ∀ W, Ext w7 W → Calls Try.prog 59 #[.agg #[.slice A n c, .slice A' n' c'], .agg #[.int .i64 (k : Int), .int .i64 y2]] W fun e w' => e = .returned (.int .i64 (bt : Int)) ∧ Ext W w' := fun W hW => by
                  have := bits_any (HX.out.ext hW).sheet HS.out k hkl y2
                  rw [HBT.out] at this
                  exact this
                have HKD := Lib.hid hkd
                have H59 := Lib.hid h59
                have HCN := Lib.hid hcnt
                have hn12 : n' ≤ 12 := by have := (sheet_ok HS.out).1; have := HN.out.2; omega
                have hBw : IntKind.i64.wrap ((B : Int) - 1) = ((B - 1 : Nat) : Int) := by rw [show (B : Int) - 1 = ((B - 1 : Nat) : Int) from by omega]; exact IntWalk.i64_in _ (by omega)
                clear hkd h59 hcnt hyy hno m3
                go_upto_region 20 with fail
                refine rk20_wp (p := p) (pr := p + 1) (A := A) (n := n) (c := c) (A' := A') (n' := n') (c' := c') (vr := .slice A7 rs.length c7) (y1 := (k : Int)) (y2 := y2) (N := (B : Int)) (bt := bt) (iq := B - 1) (ln := n' + 1) (yy := yy) (cb := decide ((0 : Int) < yy)) rfl rfl rfl rfl rfl
                  (fun W hW => (HX.out.ext hW).cells.1) (fun W hW => (HX.out.ext hW).cells.2) (fun W hW => cell_of_row _ _ _ _ _ _ (row_ext HR.out hW)) (fun W hW => cell_of_row _ _ _ _ _ _ (row_ext HR.out hW)) (fun W hW => H59.out W hW) (fun W hW => HCN.out W hW) hBw (by omega) rfl ?_
                intro W v4 v5 v8 hW _ _ _
                have hdr : rk20Reg.toList.drop 11 = [] := List.drop_eq_nil_of_le (by rw [Array.length_toList]; exact Nat.le_of_eq (by kernel_rfl))
                rw [hdr]
                simp only [wpList, puts, List.foldl_cons, List.foldl_nil, Act.put, List.setIfInBounds_toArray, List.set_cons_succ, List.set_cons_zero]
                have HE := Lib.hid (HE.out.trans hW)
                clear hdr hW
                by_cases hy0 : 0 < yy
                · have hkd := HKD.out
                  rw [if_pos hy0] at hkd
                  subst hkd
                  rw [decide_eq_true hy0]
                  go_wp2
                  go_ret2
                  exact ⟨rfl, HE.out⟩
                · have hkd := HKD.out
                  rw [if_neg hy0] at hkd
                  subst hkd
                  rw [decide_eq_false hy0]
                  go_wp2
                  go_ret2
                  exact ⟨rfl, HE.out⟩
              · have hmz : ((m1 : Int) != (B : Int)) = true := by simp; omega
                have hkd := HKD.out
                rw [if_pos hmn] at hkd
                subst hkd
                go_wp2
                go_ret2
                exact ⟨rfl, HE.out⟩
      · have hlz : (0 : Int) < (ll : Int) := by omega
        have hans := HA.out
        rw [if_neg (by rw [HLL.out]; exact hl0)] at hans
        cases hans
        go_wp2
        go_ret2
        exact ⟨rfl, HE.out⟩
  · have hne : (r == 0) = false := by simpa using h0
    have hans := HA.out
    unfold kindAns at hans
    rw [if_neg (by rw [HS.out]; exact h0), HS.out] at hans
    cases hans
    have h24 := refSheet_any HX.out.sheet
    rw [HS.out] at h24
    go_wp2_with fail
    refine h24.mono ?_
    rintro e w2 ⟨rfl, e2⟩
    have HE := Lib.hid (HE.out.trans e2)
    clear e2 h24
    go_wp2
    go_ret2
    exact ⟨rfl, HE.out⟩
end Go.Proofs.Ytchmdkdiilaejaa

/- CombKinds, walked. -/
namespace Go.Proofs.Ytchmdkdiilaejaa
open Go.RowKit Go.Shelf
attribute [local irreducible] bitCells fitCells Z94 fitOf

set_option maxRecDepth 100000 in
set_option maxHeartbeats 8000000 in
theorem kinds_any {A : Option Addr} {n c : Nat} {A' : Option Addr} {n' c' : Nat} {cs ms : List (Int × Int)} {w : World} (hb : IsSheet w w.heap.size A n c A' n' c' cs ms) (y1 y2 : Int) :
    Calls Try.prog 5 #[.agg #[.slice A n c, .slice A' n' c'], .agg #[.int .i64 y1, .int .i64 y2]] w fun e w' => e = .returned (.bool true) ∧ Ext w w' := by
  have hX0 : SheetAt ((w.alloc (.cells #[.slice A n c, .slice A' n' c'] 25)).alloc (.cells #[.int .i64 y1, .int .i64 y2] 27)) w.heap.size A n c A' n' c' cs ms := (SheetAt.new hb).ext (ext_alloc _ _)
  have hE0 : Ext w ((w.alloc (.cells #[.slice A n c, .slice A' n' c'] 25)).alloc (.cells #[.int .i64 y1, .int .i64 y2] 27)) := (ext_alloc _ _).trans (ext_alloc _ _)
  have hr0 : ((w.alloc (.cells #[.slice A n c, .slice A' n' c'] 25)).alloc (.cells #[.int .i64 y1, .int .i64 y2] 27)).heap[w.heap.size + 1]? = some (.cells #[.int .i64 y1, .int .i64 y2] 27 (0, 0)) := row_last _ _ _ (by simp)
  clear hb
  go_enter Try.func5, Try.ntmps5
  go_upto_region 1 with fail
  obtain ⟨w0, hw0⟩ : ∃ w0, (w.alloc (.cells #[.slice A n c, .slice A' n' c'] 25)).alloc (.cells #[.int .i64 y1, .int .i64 y2] 27) = w0 := ⟨_, rfl⟩
  rw [hw0] at hX0 hE0 hr0
  rw [hw0]
  obtain ⟨p, hp⟩ : ∃ p, w.heap.size = p := ⟨_, rfl⟩
  rw [hp] at hX0 hr0
  rw [hp]
  have HX := Lib.hid hX0
  have HE := Lib.hid hE0
  have HR := Lib.hid hr0
  clear hw0 hp hX0 hE0 hr0
  obtain ⟨q0, q1⟩ := HX.out.cells
  have h15 := great_any A A' n c n' c' w0
  obtain ⟨gr, hgr⟩ : ∃ gr, (decide (12 < n) || decide (18 < n')) = gr := ⟨_, rfl⟩
  rw [hgr] at h15
  clear hgr
  go_wp2_with fail
  refine h15.mono ?_
  rintro e w1 ⟨rfl, e1⟩
  have e1 : Ext w0 w1 := e1
  have HX := Lib.hid (HX.out.ext e1)
  have HE := Lib.hid (HE.out.trans e1)
  have HR := Lib.hid (row_ext HR.out e1)
  clear e1 h15 q0 q1
  cases gr with
  | true =>
    go_wp2_with fail
    refine (works_any _).mono ?_
    rintro e w2 ⟨rfl, e2⟩
    have HE := Lib.hid (HE.out.trans e2)
    clear e2
    go_wp2
    go_ret
    exact ⟨rfl, HE.out⟩
  | false =>
    obtain ⟨q0, q1⟩ := HX.out.cells
    have h27 := wide_any HX.out.sheet
    obtain ⟨wd, hwd⟩ : ∃ wd, wideB cs ms = wd := ⟨_, rfl⟩
    rw [hwd] at h27
    clear hwd
    go_wp2_with fail
    refine h27.mono ?_
    rintro e w2 ⟨rfl, e2⟩
    have HX := Lib.hid (HX.out.ext e2)
    have HE := Lib.hid (HE.out.trans e2)
    have HR := Lib.hid (row_ext HR.out e2)
    clear e2 h27 q0 q1
    cases wd with
    | true =>
      go_wp2_with fail
      refine (works_any _).mono ?_
      rintro e w3 ⟨rfl, e3⟩
      have HE := Lib.hid (HE.out.trans e3)
      clear e3
      go_wp2
      go_ret
      exact ⟨rfl, HE.out⟩
    | false =>
      obtain ⟨a1, a2, hans⟩ : ∃ a1 a2, kindAns cs ms (y1, y2) = (a1, a2) := ⟨_, _, rfl⟩
      have HA := Lib.hid hans
      clear hans
      obtain ⟨q0, q1⟩ := HX.out.cells
      have x0 : w2.cell? ⟨p + 1, 0, none⟩ = some (.int .i64 y1) := cell_of_row _ _ _ _ _ _ HR.out
      have x1 : w2.cell? ⟨p + 1, 1, none⟩ = some (.int .i64 y2) := cell_of_row _ _ _ _ _ _ HR.out
      have h32 := kind2_any HX.out.sheet (y1, y2)
      rw [HA.out] at h32
      dsimp only at h32
      go_wp2_with fail
      refine h32.mono ?_
      rintro e w3 ⟨rfl, e3⟩
      have HX := Lib.hid (HX.out.ext e3)
      have HE := Lib.hid (HE.out.trans e3)
      have HR := Lib.hid (row_ext HR.out e3)
      clear e3 h32 q0 q1 x0 x1
      obtain ⟨q0, q1⟩ := HX.out.cells
      have x0 : w3.cell? ⟨p + 1, 0, none⟩ = some (.int .i64 y1) := cell_of_row _ _ _ _ _ _ HR.out
      have x1 : w3.cell? ⟨p + 1, 1, none⟩ = some (.int .i64 y2) := cell_of_row _ _ _ _ _ _ HR.out
      have h33 := rkind_any HX.out.sheet y1 y2
      rw [HA.out] at h33
      dsimp only at h33
      go_wp2_with fail
      refine h33.mono ?_
      rintro e w4 ⟨rfl, e4⟩
      have HE := Lib.hid (HE.out.trans e4)
      clear e4 h33 q0 q1 x0 x1
      go_wp2_with fail
      refine (works_any _).mono ?_
      rintro e w5 ⟨rfl, e5⟩
      have HE := Lib.hid (HE.out.trans e5)
      clear e5
      go_wp2
      go_ret
      exact ⟨rfl, HE.out⟩
end Go.Proofs.Ytchmdkdiilaejaa
