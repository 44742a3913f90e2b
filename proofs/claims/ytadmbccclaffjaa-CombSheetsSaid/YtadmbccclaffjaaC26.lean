/- Texts of one package, joined: OpenSheet, SheetsReg, Sheets. -/
import Derived.Test.YtadmbccclaffjaaC25
import Derived.ProofKit
import Derived.OpenShut
import Derived.Lib.SmallJoins
import Derived.Deep.Slices
/- A sheet, and a row, that come in as arguments: what their values are. -/
namespace Go.Proofs.Ytadmbccclaffjaa
open Go.ChangeShapes Go.WideShapes Go.ChangeAt Go.RowKit Go.Deep Go.Joins

section
variable {H : Type} {enc : TypeId × Value → H} {w : World} {base : Nat} {held : Bool}

theorem held_of_slice {α : Type} [Inhabited α] {k : Nat} {el : α → List Value} {t e : TypeId} {fuel : Nat} {cs : List Value} {x : DataW H × List MemPlace} (ht : Try.prog.underlying t = some (.slice e)) (hk : Try.prog.cellsOf e = k) (hk0 : 0 < k)
    (one : ∀ (m : Nat) (cs' : List Value) (y : DataW H × List MemPlace), DataW.trod enc Try.prog w base (fun _ => true) held m e cs' = some y → ∃ z : α, cs' = el z)
    (h : DataW.trod enc Try.prog w base (fun _ => true) held fuel t cs = some x) :
    ∃ A n c, ∃ xs : List α, cs = [.slice A n c] ∧ n = xs.length ∧ n ≤ c ∧ c ≤ maxLen ∧ Held w w.heap.size k el A xs := by
  rcases open_slice ht h with ⟨rfl, _⟩ | ⟨a, len, cap, m, n, D, Pl, rfl, _, hl, hm, hmm, _, hx⟩
  · exact ⟨none, 0, 0, [], rfl, rfl, Nat.le_refl _, Nat.zero_le _, .inl rfl⟩
  · simp only [if_true] at hmm
    rw [hk] at hx
    obtain ⟨z, hz⟩ := choose_lt (n := len) (p := fun i z => w.cells? base (a.add (i * k)) k = some (el z)) (fun i hi => by
      obtain ⟨cs', h1, h2⟩ := hx i (by omega)
      obtain ⟨z, rfl⟩ := one _ _ _ h2
      exact ⟨z, h1⟩)
    refine ⟨some a, len, cap, (List.range len).map z, rfl, by simp, hl, hm, ?_⟩
    by_cases h0 : len = 0
    · left
      subst h0
      rfl
    · right
      obtain ⟨b, off, spot⟩ := a
      obtain ⟨_, hlen0, hc0⟩ := World.cells?_some (hz 0 (by omega))
      have hfirst := hc0 0 hk0
      obtain ⟨v0, hv0⟩ : ∃ v0, (el (z 0))[0]? = some v0 := ⟨_, List.getElem?_eq_getElem (by omega)⟩
      rw [hv0] at hfirst
      have hspot : spot = none := by simpa [Addr.add] using World.cell?_spot hfirst
      subst hspot
      refine ⟨b, off, rfl, ?_, fun j x hj i v hi => ?_⟩
      · have := World.block_lt_of_cell? w _ hfirst
        simpa [Addr.add] using this
      · rw [List.getElem?_map, Option.map_eq_some_iff] at hj
        obtain ⟨j', hj', rfl⟩ := hj
        obtain ⟨hjl, hj'⟩ := List.getElem?_eq_some_iff.1 hj'
        simp only [List.getElem_range] at hj'
        subst hj'
        rw [List.length_range] at hjl
        obtain ⟨_, hlenj, hcj⟩ := World.cells?_some (hz j hjl)
        have hik : i < k := by
          have := (List.getElem?_eq_some_iff.1 hi).1
          omega
        have := hcj i hik
        rw [hi] at this
        rw [Addr.add_lit, Addr.add_lit] at this
        exact this

set_option maxRecDepth 100000 in
theorem kind_of_trod {m : Nat} {cs' : List Value} {y : DataW H × List MemPlace} {spare : Nat → Bool} (h : DataW.trod enc Try.prog w base spare held m 65 cs' = some y) : ∃ z : Int × Int, cs' = encS z := by
  obtain ⟨y0, y1, n, _, hl, h0, h1⟩ := trod_struct2 Try.underlying65 h
  rw [show Try.prog.cellsOf 65 = 2 from by kernel_rfl] at hl
  match cs', hl with
  | [c0, c1], _ =>
    simp only [show Try.prog.cellsOf 2 = 1 from by kernel_rfl, show Try.prog.cellsOf 3 = 1 from by kernel_rfl, List.drop_zero, List.take_succ_cons, List.take_zero, List.drop_succ_cons] at h0 h1
    obtain ⟨a, ha, _, _⟩ := DataW.trod_int Try.underlying2 h0
    obtain ⟨b, hb, _, _⟩ := DataW.trod_int Try.underlying3 h1
    simp only [List.cons.injEq, and_true] at ha hb
    subst ha hb
    exact ⟨(a, b), rfl⟩
set_option maxRecDepth 100000 in
theorem range_of_trod {m : Nat} {cs' : List Value} {y : DataW H × List MemPlace} {spare : Nat → Bool} (h : DataW.trod enc Try.prog w base spare held m 75 cs' = some y) : ∃ z : Int × Int, cs' = encS z := by
  obtain ⟨y0, y1, n, _, hl, h0, h1⟩ := trod_struct2 Try.underlying75 h
  rw [show Try.prog.cellsOf 75 = 2 from by kernel_rfl] at hl
  match cs', hl with
  | [c0, c1], _ =>
    simp only [show Try.prog.cellsOf 2 = 1 from by kernel_rfl, List.drop_zero, List.take_succ_cons, List.take_zero, List.drop_succ_cons] at h0 h1
    obtain ⟨a, ha, _, _⟩ := DataW.trod_int Try.underlying2 h0
    obtain ⟨b, hb, _, _⟩ := DataW.trod_int Try.underlying2 h1
    simp only [List.cons.injEq, and_true] at ha hb
    subst ha hb
    exact ⟨(a, b), rfl⟩
set_option maxRecDepth 100000 in
theorem open_sheet {r : Reach} {b0 : Nat} {v : Value} {d : DataW H} {p : List MemPlace} (hv : Value.okWide Try.prog w r b0 25 v) (h : DataW.Trod enc Try.prog w base (fun _ => true) held 25 v d p) :
    ∃ A n c A' n' c' cs ms, v = .agg #[.slice A n c, .slice A' n' c'] ∧ IsSheet w w.heap.size A n c A' n' c' cs ms := by
  obtain ⟨c1, c2, y1, y2, m, rfl, _, _, h1, h2⟩ := open_agg2 Try.underlying25 (by kernel_rfl) (by kernel_rfl) hv h
  obtain ⟨A, n, c, cs, hA, hn, hc, hcm, hh⟩ := held_of_slice (el := encS) (k := 2) Try.underlying22 (by kernel_rfl) (by omega) (fun _ _ _ h => kind_of_trod h) h1
  obtain ⟨A', n', c', ms, hA', hn', hc', hcm', hh'⟩ := held_of_slice (el := encS) (k := 2) Try.underlying23 (by kernel_rfl) (by omega) (fun _ _ _ h => range_of_trod h) h2
  simp only [List.cons.injEq, and_true] at hA hA'
  subst hA hA'
  have hm : maxLen ≤ 9223372036854775807 := by unfold maxLen; omega
  exact ⟨A, n, c, A', n', c', cs, ms, rfl, hn, hn', by omega, by omega, hc, hc', hh, hh'⟩
set_option maxRecDepth 100000 in
theorem open_row {r : Reach} {b0 : Nat} {v : Value} {d : DataW H} {p : List MemPlace} (hv : Value.okWide Try.prog w r b0 27 v) (h : DataW.Trod enc Try.prog w base (fun _ => true) held 27 v d p) :
    ∃ y1 y2, v = .agg #[.int .i64 y1, .int .i64 y2] := by
  obtain ⟨c1, c2, y1, y2, m, rfl, _, _, h1, h2⟩ := open_agg2 Try.underlying27 (by kernel_rfl) (by kernel_rfl) hv h
  obtain ⟨a, ha, _, _⟩ := DataW.trod_int Try.underlying3 h1
  obtain ⟨b, hb, _, _⟩ := DataW.trod_int Try.underlying2 h2
  simp only [List.cons.injEq, and_true] at ha hb
  subst ha hb
  exact ⟨a, b, rfl⟩
end
end Go.Proofs.Ytadmbccclaffjaa

/- CombSheets: its last region. -/
namespace Go.Proofs.Ytadmbccclaffjaa
open Go.RowKit Go.Shelf
attribute [local irreducible] bitCells fitCells Z94 fitOf

/-- The slots of region 9 of function 3. -/
def cs9D (i : Nat) : Tmp := if i = 0 then 56 else if i = 1 then 57 else if i = 2 then 58 else if i = 3 then 59 else if i = 4 then 60 else if i = 5 then 61 else if i = 6 then 62 else if i = 7 then 63 else if i = 8 then 64 else if i = 9 then 65 else if i = 10 then 66 else if i = 11 then 67 else if i = 12 then 68 else if i = 13 then 69 else if i = 14 then 70 else if i = 15 then 71 else if i = 16 then 72 else if i = 17 then 73 else if i = 18 then 74 else if i = 19 then 75 else if i = 20 then 76 else if i = 21 then 77 else if i = 22 then 78 else if i = 23 then 79 else if i = 24 then 80 else if i = 25 then 81 else if i = 26 then 82 else if i = 27 then 83 else if i = 28 then 84 else if i = 29 then 85 else if i = 30 then 86 else if i = 31 then 87 else if i = 32 then 88 else if i = 33 then 89 else if i = 34 then 90 else if i = 35 then 91 else if i = 36 then 92 else if i = 37 then 93 else 6
/-- What each operation yields. -/
def cs9S (_p : Nat) (A : Option Addr) (n c : Nat) (A' : Option Addr) (n' c' : Nat) (va vb vc vd vx vy : Value) (ER E1 E2 E3 : Int) (ix : Nat) (v : Value) (_W : World) : Prop :=
  match ix with
  | 0 => v = .agg #[.slice A n c, .slice A' n' c']
  | 1 => v = .int .i64 ER
  | 2 => v = .agg #[.slice A n c, .slice A' n' c']
  | 3 => v = .int .i64 ER
  | 4 => v = .bool true
  | 5 => v = .bool true
  | 6 => v = va
  | 7 => v = vb
  | 8 => v = .bool true
  | 9 => v = .bool true
  | 10 => v = .bool true
  | 11 => v = .int .i64 E1
  | 12 => v = .int .i64 E1
  | 13 => v = .bool true
  | 14 => v = .bool true
  | 15 => v = .bool true
  | 16 => v = vc
  | 17 => v = vd
  | 18 => v = .bool true
  | 19 => v = .bool true
  | 20 => v = .bool true
  | 21 => v = .int .i64 E2
  | 22 => v = .int .i64 E2
  | 23 => v = .bool true
  | 24 => v = .bool true
  | 25 => v = .bool true
  | 26 => v = vx
  | 27 => v = vy
  | 28 => v = .bool true
  | 29 => v = .bool true
  | 30 => v = .bool true
  | 31 => v = .int .i64 E3
  | 32 => v = .int .i64 E3
  | 33 => v = .bool true
  | 34 => v = .bool true
  | 35 => v = .bool true
  | 36 => v = .bool true
  | 37 => v = .bool true
  | 38 => v = .bool true
  | _ => True
noncomputable def cs9Reg : Array Oper := (Try.f3.body.bind (regionOf · 9)).getD #[]
theorem cs9S_ext {p : Nat} {A : Option Addr} {n c : Nat} {A' : Option Addr} {n' c' : Nat} {va vb vc vd vx vy : Value} {ER E1 E2 E3 : Int} : ∀ (i : Nat) (v : Value) (W W' : World), cs9S p A n c A' n' c' va vb vc vd vx vy ER E1 E2 E3 i v W → Below W.heap.size W W' → cs9S p A n c A' n' c' va vb vc vd vx vy ER E1 E2 E3 i v W' := by
  intro i v W W' h e
  match i with
  | 0 => exact h
  | 1 => exact h
  | 2 => exact h
  | 3 => exact h
  | 4 => exact h
  | 5 => exact h
  | 6 => exact h
  | 7 => exact h
  | 8 => exact h
  | 9 => exact h
  | 10 => exact h
  | 11 => exact h
  | 12 => exact h
  | 13 => exact h
  | 14 => exact h
  | 15 => exact h
  | 16 => exact h
  | 17 => exact h
  | 18 => exact h
  | 19 => exact h
  | 20 => exact h
  | 21 => exact h
  | 22 => exact h
  | 23 => exact h
  | 24 => exact h
  | 25 => exact h
  | 26 => exact h
  | 27 => exact h
  | 28 => exact h
  | 29 => exact h
  | 30 => exact h
  | 31 => exact h
  | 32 => exact h
  | 33 => exact h
  | 34 => exact h
  | 35 => exact h
  | 36 => exact h
  | 37 => exact h
  | 38 => exact h
  | k + 39 => exact trivial
def cs9Ok (p : Nat) (A : Option Addr) (n c : Nat) (A' : Option Addr) (n' c' : Nat) (va vb vc vd vx vy : Value) (ER E1 E2 E3 : Int) (Q : Exit → Act → World → Prop) (a : Act) (W : World) (ix : Nat) (o : Oper) : Prop :=
  (∀ j b, o.guard = some (j, b) → a.eval (.tmp (cs9D j)) = .bool b) ∧ o.wp Try.prog a W (fun a'' W' => ∃ v, a'' = a.put o.dst v ∧ cs9S p A n c A' n' c' va vb vc vd vx vy ER E1 E2 E3 ix v W' ∧ Below W.heap.size W W') Q
section
variable {p : Nat} {A : Option Addr} {n c : Nat} {A' : Option Addr} {n' c' : Nat} {va vb vc vd vx vy : Value} {ER E1 E2 E3 : Int} {Q : Exit → Act → World → Prop} {a : Act} {V W : World} {o : Oper}
set_option maxHeartbeats 1000000 in
theorem cs9_op0 (o3 : a.eval (.tmp 3) = .pointer (some ⟨p, 0, none⟩)) (q0 : ∀ W, Ext V W → W.cell? ⟨p, 0, none⟩ = some (.slice A n c)) (q1 : ∀ W, Ext V W → W.cell? ⟨p, 1, none⟩ = some (.slice A' n' c')) (hB : Ext V W) (ho : cs9Reg[0]? = some o) : cs9Ok p A n c A' n' c' va vb vc vd vx vy ER E1 E2 E3 Q a W 0 o := by
  have hop := op_at ho (·.op) (x := Op.load 25 (Operand.tmp 3)) (by kernel_rfl)
  have hgd := op_at ho (·.guard) (x := none) (by kernel_rfl)
  refine ⟨fun j b h => (by rw [hgd] at h; cases h), ?_⟩
  have q0' := q0 W hB
  have q1' := q1 W hB
  exact specs_value (R := fun v W => cs9S p A n c A' n' c' va vb vc vd vx vy ER E1 E2 E3 0 v W) (v := .agg #[.slice A n c, .slice A' n' c']) (by simp [execOp, hop, go_sem, ev o3, q0', q1']) rfl (Ext.refl W)
set_option maxHeartbeats 1000000 in
theorem cs9_op1 (h23 : ∀ W, Ext V W → Calls Try.prog 23 #[.agg #[.slice A n c, .slice A' n' c']] W fun e w' => e = .returned (.int .i64 ER) ∧ Ext W w') (hB : Ext V W) (haft : ∀ j, (o.after.any fun e => decide (e.on = j) && Region.binds .any e) = true → cs9S p A n c A' n' c' va vb vc vd vx vy ER E1 E2 E3 j (a.eval (.tmp (cs9D j))) W) (ho : cs9Reg[1]? = some o) : cs9Ok p A n c A' n' c' va vb vc vd vx vy ER E1 E2 E3 Q a W 1 o := by
  have hop := op_at ho (·.op) (x := Op.call { callee := Callee.value (Operand.func 23), args := #[Operand.tmp 56], argTypes := #[25] }) (by kernel_rfl)
  have hgd := op_at ho (·.guard) (x := none) (by kernel_rfl)
  have e0 : a.eval (.tmp 56) = .agg #[.slice A n c, .slice A' n' c'] := haft 0 (op_at ho (fun o => o.after.any fun e => decide (e.on = 0) && Region.binds .any e) (x := true) (by kernel_rfl))
  refine ⟨fun j b h => (by rw [hgd] at h; cases h), ?_⟩
  refine specs_call (R := fun v W => cs9S p A n c A' n' c' va vb vc vd vx vy ER E1 E2 E3 1 v W) (f := 23) (args := #[.agg #[.slice A n c, .slice A' n' c']]) (by simp [execOp, hop, go_sem, ev e0]) ((h23 W hB).mono ?_)
  rintro e w' ⟨rfl, h3⟩
  exact ⟨_, rfl, rfl, h3⟩
set_option maxHeartbeats 1000000 in
theorem cs9_op2 (o3 : a.eval (.tmp 3) = .pointer (some ⟨p, 0, none⟩)) (q0 : ∀ W, Ext V W → W.cell? ⟨p, 0, none⟩ = some (.slice A n c)) (q1 : ∀ W, Ext V W → W.cell? ⟨p, 1, none⟩ = some (.slice A' n' c')) (hB : Ext V W) (ho : cs9Reg[2]? = some o) : cs9Ok p A n c A' n' c' va vb vc vd vx vy ER E1 E2 E3 Q a W 2 o := by
  have hop := op_at ho (·.op) (x := Op.load 25 (Operand.tmp 3)) (by kernel_rfl)
  have hgd := op_at ho (·.guard) (x := none) (by kernel_rfl)
  refine ⟨fun j b h => (by rw [hgd] at h; cases h), ?_⟩
  have q0' := q0 W hB
  have q1' := q1 W hB
  exact specs_value (R := fun v W => cs9S p A n c A' n' c' va vb vc vd vx vy ER E1 E2 E3 2 v W) (v := .agg #[.slice A n c, .slice A' n' c']) (by simp [execOp, hop, go_sem, ev o3, q0', q1']) rfl (Ext.refl W)
set_option maxHeartbeats 1000000 in
theorem cs9_op3 (h24 : ∀ W, Ext V W → Calls Try.prog 24 #[.agg #[.slice A n c, .slice A' n' c']] W fun e w' => e = .returned (.int .i64 ER) ∧ Ext W w') (hB : Ext V W) (haft : ∀ j, (o.after.any fun e => decide (e.on = j) && Region.binds .any e) = true → cs9S p A n c A' n' c' va vb vc vd vx vy ER E1 E2 E3 j (a.eval (.tmp (cs9D j))) W) (ho : cs9Reg[3]? = some o) : cs9Ok p A n c A' n' c' va vb vc vd vx vy ER E1 E2 E3 Q a W 3 o := by
  have hop := op_at ho (·.op) (x := Op.call { callee := Callee.value (Operand.func 24), args := #[Operand.tmp 58], argTypes := #[25] }) (by kernel_rfl)
  have hgd := op_at ho (·.guard) (x := none) (by kernel_rfl)
  have e2 : a.eval (.tmp 58) = .agg #[.slice A n c, .slice A' n' c'] := haft 2 (op_at ho (fun o => o.after.any fun e => decide (e.on = 2) && Region.binds .any e) (x := true) (by kernel_rfl))
  refine ⟨fun j b h => (by rw [hgd] at h; cases h), ?_⟩
  refine specs_call (R := fun v W => cs9S p A n c A' n' c' va vb vc vd vx vy ER E1 E2 E3 3 v W) (f := 24) (args := #[.agg #[.slice A n c, .slice A' n' c']]) (by simp [execOp, hop, go_sem, ev e2]) ((h24 W hB).mono ?_)
  rintro e w' ⟨rfl, h3⟩
  exact ⟨_, rfl, rfl, h3⟩
set_option maxHeartbeats 1000000 in
theorem cs9_op4 (haft : ∀ j, (o.after.any fun e => decide (e.on = j) && Region.binds .any e) = true → cs9S p A n c A' n' c' va vb vc vd vx vy ER E1 E2 E3 j (a.eval (.tmp (cs9D j))) W) (ho : cs9Reg[4]? = some o) : cs9Ok p A n c A' n' c' va vb vc vd vx vy ER E1 E2 E3 Q a W 4 o := by
  have hop := op_at ho (·.op) (x := Op.binOp BinOp.eql 31 (Operand.tmp 57) (Operand.tmp 59) 31) (by kernel_rfl)
  have hgd := op_at ho (·.guard) (x := none) (by kernel_rfl)
  have e1 : cs9S p A n c A' n' c' va vb vc vd vx vy ER E1 E2 E3 1 (a.eval (.tmp 57)) W := haft 1 (op_at ho (fun o => o.after.any fun e => decide (e.on = 1) && Region.binds .any e) (x := true) (by kernel_rfl))
  have e3 : cs9S p A n c A' n' c' va vb vc vd vx vy ER E1 E2 E3 3 (a.eval (.tmp 59)) W := haft 3 (op_at ho (fun o => o.after.any fun e => decide (e.on = 3) && Region.binds .any e) (x := true) (by kernel_rfl))
  refine ⟨fun j b h => (by rw [hgd] at h; cases h), ?_⟩
  have eR : a.eval (.tmp 57) = .int .i64 ER := e1
  have eQ : a.eval (.tmp 59) = .int .i64 ER := e3
  exact specs_value (R := fun v W => cs9S p A n c A' n' c' va vb vc vd vx vy ER E1 E2 E3 4 v W) (v := .bool true) (by simp [execOp, hop, go_sem, ev eR, ev eQ]) rfl (Ext.refl W)
set_option maxHeartbeats 1000000 in
theorem cs9_op5 (haft : ∀ j, (o.after.any fun e => decide (e.on = j) && Region.binds .any e) = true → cs9S p A n c A' n' c' va vb vc vd vx vy ER E1 E2 E3 j (a.eval (.tmp (cs9D j))) W) (ho : cs9Reg[5]? = some o) : cs9Ok p A n c A' n' c' va vb vc vd vx vy ER E1 E2 E3 Q a W 5 o := by
  have hop := op_at ho (·.op) (x := Op.move (Operand.tmp 60)) (by kernel_rfl)
  have hgd := op_at ho (·.guard) (x := none) (by kernel_rfl)
  have e4 : a.eval (.tmp 60) = .bool true := haft 4 (op_at ho (fun o => o.after.any fun e => decide (e.on = 4) && Region.binds .any e) (x := true) (by kernel_rfl))
  refine ⟨fun j b h => (by rw [hgd] at h; cases h), ?_⟩
  exact specs_value (R := fun v W => cs9S p A n c A' n' c' va vb vc vd vx vy ER E1 E2 E3 5 v W) (v := .bool true) (by simp [execOp, hop, go_sem, ev e4]) rfl (Ext.refl W)
set_option maxHeartbeats 1000000 in
theorem cs9_op6 (o7 : a.eval (.tmp 7) = va) (haft : ∀ j, (o.after.any fun e => decide (e.on = j) && Region.binds .any e) = true → cs9S p A n c A' n' c' va vb vc vd vx vy ER E1 E2 E3 j (a.eval (.tmp (cs9D j))) W) (ho : cs9Reg[6]? = some o) : cs9Ok p A n c A' n' c' va vb vc vd vx vy ER E1 E2 E3 Q a W 6 o := by
  have hop := op_at ho (·.op) (x := Op.move (Operand.tmp 7)) (by kernel_rfl)
  have hgd := op_at ho (·.guard) (x := some (5, true)) (by kernel_rfl)
  have e5 : a.eval (.tmp 61) = .bool true := haft 5 (op_at ho (fun o => o.after.any fun e => decide (e.on = 5) && Region.binds .any e) (x := true) (by kernel_rfl))
  refine ⟨fun j b h => (by rw [hgd] at h; cases h; exact e5), ?_⟩
  exact specs_value (R := fun v W => cs9S p A n c A' n' c' va vb vc vd vx vy ER E1 E2 E3 6 v W) (v := va) (by simp [execOp, hop, go_sem, ev o7]) rfl (Ext.refl W)
set_option maxHeartbeats 1000000 in
theorem cs9_op7 (o9 : a.eval (.tmp 9) = vb) (haft : ∀ j, (o.after.any fun e => decide (e.on = j) && Region.binds .any e) = true → cs9S p A n c A' n' c' va vb vc vd vx vy ER E1 E2 E3 j (a.eval (.tmp (cs9D j))) W) (ho : cs9Reg[7]? = some o) : cs9Ok p A n c A' n' c' va vb vc vd vx vy ER E1 E2 E3 Q a W 7 o := by
  have hop := op_at ho (·.op) (x := Op.move (Operand.tmp 9)) (by kernel_rfl)
  have hgd := op_at ho (·.guard) (x := some (5, true)) (by kernel_rfl)
  have e5 : a.eval (.tmp 61) = .bool true := haft 5 (op_at ho (fun o => o.after.any fun e => decide (e.on = 5) && Region.binds .any e) (x := true) (by kernel_rfl))
  refine ⟨fun j b h => (by rw [hgd] at h; cases h; exact e5), ?_⟩
  exact specs_value (R := fun v W => cs9S p A n c A' n' c' va vb vc vd vx vy ER E1 E2 E3 7 v W) (v := vb) (by simp [execOp, hop, go_sem, ev o9]) rfl (Ext.refl W)
set_option maxHeartbeats 1000000 in
theorem cs9_op8 (hi1 : ∀ W, Ext V W → Calls Try.prog 25 #[va, vb] W fun e w' => e = .returned (.bool true) ∧ Ext W w') (hB : Ext V W) (haft : ∀ j, (o.after.any fun e => decide (e.on = j) && Region.binds .any e) = true → cs9S p A n c A' n' c' va vb vc vd vx vy ER E1 E2 E3 j (a.eval (.tmp (cs9D j))) W) (ho : cs9Reg[8]? = some o) : cs9Ok p A n c A' n' c' va vb vc vd vx vy ER E1 E2 E3 Q a W 8 o := by
  have hop := op_at ho (·.op) (x := Op.call { callee := Callee.value (Operand.func 25), args := #[Operand.tmp 62, Operand.tmp 63], argTypes := #[30, 30] }) (by kernel_rfl)
  have hgd := op_at ho (·.guard) (x := some (5, true)) (by kernel_rfl)
  have e5 : a.eval (.tmp 61) = .bool true := haft 5 (op_at ho (fun o => o.after.any fun e => decide (e.on = 5) && Region.binds .any e) (x := true) (by kernel_rfl))
  have e6 : a.eval (.tmp 62) = va := haft 6 (op_at ho (fun o => o.after.any fun e => decide (e.on = 6) && Region.binds .any e) (x := true) (by kernel_rfl))
  have e7 : a.eval (.tmp 63) = vb := haft 7 (op_at ho (fun o => o.after.any fun e => decide (e.on = 7) && Region.binds .any e) (x := true) (by kernel_rfl))
  refine ⟨fun j b h => (by rw [hgd] at h; cases h; exact e5), ?_⟩
  refine specs_call (R := fun v W => cs9S p A n c A' n' c' va vb vc vd vx vy ER E1 E2 E3 8 v W) (f := 25) (args := #[va, vb]) (by simp [execOp, hop, go_sem, ev e6, ev e7]) ((hi1 W hB).mono ?_)
  rintro e w' ⟨rfl, h3⟩
  exact ⟨_, rfl, rfl, h3⟩
set_option maxHeartbeats 1000000 in
theorem cs9_op9 (haft : ∀ j, (o.after.any fun e => decide (e.on = j) && Region.binds .any e) = true → cs9S p A n c A' n' c' va vb vc vd vx vy ER E1 E2 E3 j (a.eval (.tmp (cs9D j))) W) (ho : cs9Reg[9]? = some o) : cs9Ok p A n c A' n' c' va vb vc vd vx vy ER E1 E2 E3 Q a W 9 o := by
  have hop := op_at ho (·.op) (x := Op.pick (Operand.tmp 61) (Operand.tmp 64) (Operand.const (Value.bool false))) (by kernel_rfl)
  have hgd := op_at ho (·.guard) (x := none) (by kernel_rfl)
  have e5 : a.eval (.tmp 61) = .bool true := haft 5 (op_at ho (fun o => o.after.any fun e => decide (e.on = 5) && Region.binds .any e) (x := true) (by kernel_rfl))
  have e8 : cs9S p A n c A' n' c' va vb vc vd vx vy ER E1 E2 E3 8 (a.eval (.tmp 64)) W := haft 8 (op_at ho (fun o => o.after.any fun e => decide (e.on = 8) && Region.binds .any e) (x := true) (by kernel_rfl))
  refine ⟨fun j b h => (by rw [hgd] at h; cases h), ?_⟩
  have eR : a.eval (.tmp 64) = .bool true := e8
  exact specs_value (R := fun v W => cs9S p A n c A' n' c' va vb vc vd vx vy ER E1 E2 E3 9 v W) (v := .bool true) (by simp [execOp, hop, go_sem, ev e5, ev eR]) rfl (Ext.refl W)
set_option maxHeartbeats 1000000 in
theorem cs9_op10 (haft : ∀ j, (o.after.any fun e => decide (e.on = j) && Region.binds .any e) = true → cs9S p A n c A' n' c' va vb vc vd vx vy ER E1 E2 E3 j (a.eval (.tmp (cs9D j))) W) (ho : cs9Reg[10]? = some o) : cs9Ok p A n c A' n' c' va vb vc vd vx vy ER E1 E2 E3 Q a W 10 o := by
  have hop := op_at ho (·.op) (x := Op.move (Operand.tmp 65)) (by kernel_rfl)
  have hgd := op_at ho (·.guard) (x := none) (by kernel_rfl)
  have e9 : a.eval (.tmp 65) = .bool true := haft 9 (op_at ho (fun o => o.after.any fun e => decide (e.on = 9) && Region.binds .any e) (x := true) (by kernel_rfl))
  refine ⟨fun j b h => (by rw [hgd] at h; cases h), ?_⟩
  exact specs_value (R := fun v W => cs9S p A n c A' n' c' va vb vc vd vx vy ER E1 E2 E3 10 v W) (v := .bool true) (by simp [execOp, hop, go_sem, ev e9]) rfl (Ext.refl W)
set_option maxHeartbeats 1000000 in
theorem cs9_op11 (o8 : a.eval (.tmp 8) = .int .i64 E1) (haft : ∀ j, (o.after.any fun e => decide (e.on = j) && Region.binds .any e) = true → cs9S p A n c A' n' c' va vb vc vd vx vy ER E1 E2 E3 j (a.eval (.tmp (cs9D j))) W) (ho : cs9Reg[11]? = some o) : cs9Ok p A n c A' n' c' va vb vc vd vx vy ER E1 E2 E3 Q a W 11 o := by
  have hop := op_at ho (·.op) (x := Op.move (Operand.tmp 8)) (by kernel_rfl)
  have hgd := op_at ho (·.guard) (x := some (10, true)) (by kernel_rfl)
  have e10 : a.eval (.tmp 66) = .bool true := haft 10 (op_at ho (fun o => o.after.any fun e => decide (e.on = 10) && Region.binds .any e) (x := true) (by kernel_rfl))
  refine ⟨fun j b h => (by rw [hgd] at h; cases h; exact e10), ?_⟩
  exact specs_value (R := fun v W => cs9S p A n c A' n' c' va vb vc vd vx vy ER E1 E2 E3 11 v W) (v := .int .i64 E1) (by simp [execOp, hop, go_sem, ev o8]) rfl (Ext.refl W)
set_option maxHeartbeats 1000000 in
theorem cs9_op12 (o10 : a.eval (.tmp 10) = .int .i64 E1) (haft : ∀ j, (o.after.any fun e => decide (e.on = j) && Region.binds .any e) = true → cs9S p A n c A' n' c' va vb vc vd vx vy ER E1 E2 E3 j (a.eval (.tmp (cs9D j))) W) (ho : cs9Reg[12]? = some o) : cs9Ok p A n c A' n' c' va vb vc vd vx vy ER E1 E2 E3 Q a W 12 o := by
  have hop := op_at ho (·.op) (x := Op.move (Operand.tmp 10)) (by kernel_rfl)
  have hgd := op_at ho (·.guard) (x := some (10, true)) (by kernel_rfl)
  have e10 : a.eval (.tmp 66) = .bool true := haft 10 (op_at ho (fun o => o.after.any fun e => decide (e.on = 10) && Region.binds .any e) (x := true) (by kernel_rfl))
  refine ⟨fun j b h => (by rw [hgd] at h; cases h; exact e10), ?_⟩
  exact specs_value (R := fun v W => cs9S p A n c A' n' c' va vb vc vd vx vy ER E1 E2 E3 12 v W) (v := .int .i64 E1) (by simp [execOp, hop, go_sem, ev o10]) rfl (Ext.refl W)
set_option maxHeartbeats 1000000 in
theorem cs9_op13 (haft : ∀ j, (o.after.any fun e => decide (e.on = j) && Region.binds .any e) = true → cs9S p A n c A' n' c' va vb vc vd vx vy ER E1 E2 E3 j (a.eval (.tmp (cs9D j))) W) (ho : cs9Reg[13]? = some o) : cs9Ok p A n c A' n' c' va vb vc vd vx vy ER E1 E2 E3 Q a W 13 o := by
  have hop := op_at ho (·.op) (x := Op.binOp BinOp.eql 31 (Operand.tmp 67) (Operand.tmp 68) 31) (by kernel_rfl)
  have hgd := op_at ho (·.guard) (x := some (10, true)) (by kernel_rfl)
  have e10 : a.eval (.tmp 66) = .bool true := haft 10 (op_at ho (fun o => o.after.any fun e => decide (e.on = 10) && Region.binds .any e) (x := true) (by kernel_rfl))
  have e11 : a.eval (.tmp 67) = .int .i64 E1 := haft 11 (op_at ho (fun o => o.after.any fun e => decide (e.on = 11) && Region.binds .any e) (x := true) (by kernel_rfl))
  have e12 : a.eval (.tmp 68) = .int .i64 E1 := haft 12 (op_at ho (fun o => o.after.any fun e => decide (e.on = 12) && Region.binds .any e) (x := true) (by kernel_rfl))
  refine ⟨fun j b h => (by rw [hgd] at h; cases h; exact e10), ?_⟩
  exact specs_value (R := fun v W => cs9S p A n c A' n' c' va vb vc vd vx vy ER E1 E2 E3 13 v W) (v := .bool true) (by simp [execOp, hop, go_sem, ev e11, ev e12]) rfl (Ext.refl W)
set_option maxHeartbeats 1000000 in
theorem cs9_op14 (haft : ∀ j, (o.after.any fun e => decide (e.on = j) && Region.binds .any e) = true → cs9S p A n c A' n' c' va vb vc vd vx vy ER E1 E2 E3 j (a.eval (.tmp (cs9D j))) W) (ho : cs9Reg[14]? = some o) : cs9Ok p A n c A' n' c' va vb vc vd vx vy ER E1 E2 E3 Q a W 14 o := by
  have hop := op_at ho (·.op) (x := Op.pick (Operand.tmp 66) (Operand.tmp 69) (Operand.const (Value.bool false))) (by kernel_rfl)
  have hgd := op_at ho (·.guard) (x := none) (by kernel_rfl)
  have e10 : a.eval (.tmp 66) = .bool true := haft 10 (op_at ho (fun o => o.after.any fun e => decide (e.on = 10) && Region.binds .any e) (x := true) (by kernel_rfl))
  have e13 : a.eval (.tmp 69) = .bool true := haft 13 (op_at ho (fun o => o.after.any fun e => decide (e.on = 13) && Region.binds .any e) (x := true) (by kernel_rfl))
  refine ⟨fun j b h => (by rw [hgd] at h; cases h), ?_⟩
  exact specs_value (R := fun v W => cs9S p A n c A' n' c' va vb vc vd vx vy ER E1 E2 E3 14 v W) (v := .bool true) (by simp [execOp, hop, go_sem, ev e10, ev e13]) rfl (Ext.refl W)
set_option maxHeartbeats 1000000 in
theorem cs9_op15 (haft : ∀ j, (o.after.any fun e => decide (e.on = j) && Region.binds .any e) = true → cs9S p A n c A' n' c' va vb vc vd vx vy ER E1 E2 E3 j (a.eval (.tmp (cs9D j))) W) (ho : cs9Reg[15]? = some o) : cs9Ok p A n c A' n' c' va vb vc vd vx vy ER E1 E2 E3 Q a W 15 o := by
  have hop := op_at ho (·.op) (x := Op.move (Operand.tmp 70)) (by kernel_rfl)
  have hgd := op_at ho (·.guard) (x := none) (by kernel_rfl)
  have e14 : a.eval (.tmp 70) = .bool true := haft 14 (op_at ho (fun o => o.after.any fun e => decide (e.on = 14) && Region.binds .any e) (x := true) (by kernel_rfl))
  refine ⟨fun j b h => (by rw [hgd] at h; cases h), ?_⟩
  exact specs_value (R := fun v W => cs9S p A n c A' n' c' va vb vc vd vx vy ER E1 E2 E3 15 v W) (v := .bool true) (by simp [execOp, hop, go_sem, ev e14]) rfl (Ext.refl W)
set_option maxHeartbeats 1000000 in
theorem cs9_op16 (o11 : a.eval (.tmp 11) = vc) (haft : ∀ j, (o.after.any fun e => decide (e.on = j) && Region.binds .any e) = true → cs9S p A n c A' n' c' va vb vc vd vx vy ER E1 E2 E3 j (a.eval (.tmp (cs9D j))) W) (ho : cs9Reg[16]? = some o) : cs9Ok p A n c A' n' c' va vb vc vd vx vy ER E1 E2 E3 Q a W 16 o := by
  have hop := op_at ho (·.op) (x := Op.move (Operand.tmp 11)) (by kernel_rfl)
  have hgd := op_at ho (·.guard) (x := some (15, true)) (by kernel_rfl)
  have e15 : a.eval (.tmp 71) = .bool true := haft 15 (op_at ho (fun o => o.after.any fun e => decide (e.on = 15) && Region.binds .any e) (x := true) (by kernel_rfl))
  refine ⟨fun j b h => (by rw [hgd] at h; cases h; exact e15), ?_⟩
  exact specs_value (R := fun v W => cs9S p A n c A' n' c' va vb vc vd vx vy ER E1 E2 E3 16 v W) (v := vc) (by simp [execOp, hop, go_sem, ev o11]) rfl (Ext.refl W)
set_option maxHeartbeats 1000000 in
theorem cs9_op17 (o13 : a.eval (.tmp 13) = vd) (haft : ∀ j, (o.after.any fun e => decide (e.on = j) && Region.binds .any e) = true → cs9S p A n c A' n' c' va vb vc vd vx vy ER E1 E2 E3 j (a.eval (.tmp (cs9D j))) W) (ho : cs9Reg[17]? = some o) : cs9Ok p A n c A' n' c' va vb vc vd vx vy ER E1 E2 E3 Q a W 17 o := by
  have hop := op_at ho (·.op) (x := Op.move (Operand.tmp 13)) (by kernel_rfl)
  have hgd := op_at ho (·.guard) (x := some (15, true)) (by kernel_rfl)
  have e15 : a.eval (.tmp 71) = .bool true := haft 15 (op_at ho (fun o => o.after.any fun e => decide (e.on = 15) && Region.binds .any e) (x := true) (by kernel_rfl))
  refine ⟨fun j b h => (by rw [hgd] at h; cases h; exact e15), ?_⟩
  exact specs_value (R := fun v W => cs9S p A n c A' n' c' va vb vc vd vx vy ER E1 E2 E3 17 v W) (v := vd) (by simp [execOp, hop, go_sem, ev o13]) rfl (Ext.refl W)
set_option maxHeartbeats 1000000 in
theorem cs9_op18 (hl1 : ∀ W, Ext V W → Calls Try.prog 26 #[vc, vd] W fun e w' => e = .returned (.bool true) ∧ Ext W w') (hB : Ext V W) (haft : ∀ j, (o.after.any fun e => decide (e.on = j) && Region.binds .any e) = true → cs9S p A n c A' n' c' va vb vc vd vx vy ER E1 E2 E3 j (a.eval (.tmp (cs9D j))) W) (ho : cs9Reg[18]? = some o) : cs9Ok p A n c A' n' c' va vb vc vd vx vy ER E1 E2 E3 Q a W 18 o := by
  have hop := op_at ho (·.op) (x := Op.call { callee := Callee.value (Operand.func 26), args := #[Operand.tmp 72, Operand.tmp 73], argTypes := #[34, 34] }) (by kernel_rfl)
  have hgd := op_at ho (·.guard) (x := some (15, true)) (by kernel_rfl)
  have e15 : a.eval (.tmp 71) = .bool true := haft 15 (op_at ho (fun o => o.after.any fun e => decide (e.on = 15) && Region.binds .any e) (x := true) (by kernel_rfl))
  have e16 : a.eval (.tmp 72) = vc := haft 16 (op_at ho (fun o => o.after.any fun e => decide (e.on = 16) && Region.binds .any e) (x := true) (by kernel_rfl))
  have e17 : a.eval (.tmp 73) = vd := haft 17 (op_at ho (fun o => o.after.any fun e => decide (e.on = 17) && Region.binds .any e) (x := true) (by kernel_rfl))
  refine ⟨fun j b h => (by rw [hgd] at h; cases h; exact e15), ?_⟩
  refine specs_call (R := fun v W => cs9S p A n c A' n' c' va vb vc vd vx vy ER E1 E2 E3 18 v W) (f := 26) (args := #[vc, vd]) (by simp [execOp, hop, go_sem, ev e16, ev e17]) ((hl1 W hB).mono ?_)
  rintro e w' ⟨rfl, h3⟩
  exact ⟨_, rfl, rfl, h3⟩
set_option maxHeartbeats 1000000 in
theorem cs9_op19 (haft : ∀ j, (o.after.any fun e => decide (e.on = j) && Region.binds .any e) = true → cs9S p A n c A' n' c' va vb vc vd vx vy ER E1 E2 E3 j (a.eval (.tmp (cs9D j))) W) (ho : cs9Reg[19]? = some o) : cs9Ok p A n c A' n' c' va vb vc vd vx vy ER E1 E2 E3 Q a W 19 o := by
  have hop := op_at ho (·.op) (x := Op.pick (Operand.tmp 71) (Operand.tmp 74) (Operand.const (Value.bool false))) (by kernel_rfl)
  have hgd := op_at ho (·.guard) (x := none) (by kernel_rfl)
  have e15 : a.eval (.tmp 71) = .bool true := haft 15 (op_at ho (fun o => o.after.any fun e => decide (e.on = 15) && Region.binds .any e) (x := true) (by kernel_rfl))
  have e18 : cs9S p A n c A' n' c' va vb vc vd vx vy ER E1 E2 E3 18 (a.eval (.tmp 74)) W := haft 18 (op_at ho (fun o => o.after.any fun e => decide (e.on = 18) && Region.binds .any e) (x := true) (by kernel_rfl))
  refine ⟨fun j b h => (by rw [hgd] at h; cases h), ?_⟩
  have eR : a.eval (.tmp 74) = .bool true := e18
  exact specs_value (R := fun v W => cs9S p A n c A' n' c' va vb vc vd vx vy ER E1 E2 E3 19 v W) (v := .bool true) (by simp [execOp, hop, go_sem, ev e15, ev eR]) rfl (Ext.refl W)
set_option maxHeartbeats 1000000 in
theorem cs9_op20 (haft : ∀ j, (o.after.any fun e => decide (e.on = j) && Region.binds .any e) = true → cs9S p A n c A' n' c' va vb vc vd vx vy ER E1 E2 E3 j (a.eval (.tmp (cs9D j))) W) (ho : cs9Reg[20]? = some o) : cs9Ok p A n c A' n' c' va vb vc vd vx vy ER E1 E2 E3 Q a W 20 o := by
  have hop := op_at ho (·.op) (x := Op.move (Operand.tmp 75)) (by kernel_rfl)
  have hgd := op_at ho (·.guard) (x := none) (by kernel_rfl)
  have e19 : a.eval (.tmp 75) = .bool true := haft 19 (op_at ho (fun o => o.after.any fun e => decide (e.on = 19) && Region.binds .any e) (x := true) (by kernel_rfl))
  refine ⟨fun j b h => (by rw [hgd] at h; cases h), ?_⟩
  exact specs_value (R := fun v W => cs9S p A n c A' n' c' va vb vc vd vx vy ER E1 E2 E3 20 v W) (v := .bool true) (by simp [execOp, hop, go_sem, ev e19]) rfl (Ext.refl W)
set_option maxHeartbeats 1000000 in
theorem cs9_op21 (o12 : a.eval (.tmp 12) = .int .i64 E2) (haft : ∀ j, (o.after.any fun e => decide (e.on = j) && Region.binds .any e) = true → cs9S p A n c A' n' c' va vb vc vd vx vy ER E1 E2 E3 j (a.eval (.tmp (cs9D j))) W) (ho : cs9Reg[21]? = some o) : cs9Ok p A n c A' n' c' va vb vc vd vx vy ER E1 E2 E3 Q a W 21 o := by
  have hop := op_at ho (·.op) (x := Op.move (Operand.tmp 12)) (by kernel_rfl)
  have hgd := op_at ho (·.guard) (x := some (20, true)) (by kernel_rfl)
  have e20 : a.eval (.tmp 76) = .bool true := haft 20 (op_at ho (fun o => o.after.any fun e => decide (e.on = 20) && Region.binds .any e) (x := true) (by kernel_rfl))
  refine ⟨fun j b h => (by rw [hgd] at h; cases h; exact e20), ?_⟩
  exact specs_value (R := fun v W => cs9S p A n c A' n' c' va vb vc vd vx vy ER E1 E2 E3 21 v W) (v := .int .i64 E2) (by simp [execOp, hop, go_sem, ev o12]) rfl (Ext.refl W)
set_option maxHeartbeats 1000000 in
theorem cs9_op22 (o14 : a.eval (.tmp 14) = .int .i64 E2) (haft : ∀ j, (o.after.any fun e => decide (e.on = j) && Region.binds .any e) = true → cs9S p A n c A' n' c' va vb vc vd vx vy ER E1 E2 E3 j (a.eval (.tmp (cs9D j))) W) (ho : cs9Reg[22]? = some o) : cs9Ok p A n c A' n' c' va vb vc vd vx vy ER E1 E2 E3 Q a W 22 o := by
  have hop := op_at ho (·.op) (x := Op.move (Operand.tmp 14)) (by kernel_rfl)
  have hgd := op_at ho (·.guard) (x := some (20, true)) (by kernel_rfl)
  have e20 : a.eval (.tmp 76) = .bool true := haft 20 (op_at ho (fun o => o.after.any fun e => decide (e.on = 20) && Region.binds .any e) (x := true) (by kernel_rfl))
  refine ⟨fun j b h => (by rw [hgd] at h; cases h; exact e20), ?_⟩
  exact specs_value (R := fun v W => cs9S p A n c A' n' c' va vb vc vd vx vy ER E1 E2 E3 22 v W) (v := .int .i64 E2) (by simp [execOp, hop, go_sem, ev o14]) rfl (Ext.refl W)
set_option maxHeartbeats 1000000 in
theorem cs9_op23 (haft : ∀ j, (o.after.any fun e => decide (e.on = j) && Region.binds .any e) = true → cs9S p A n c A' n' c' va vb vc vd vx vy ER E1 E2 E3 j (a.eval (.tmp (cs9D j))) W) (ho : cs9Reg[23]? = some o) : cs9Ok p A n c A' n' c' va vb vc vd vx vy ER E1 E2 E3 Q a W 23 o := by
  have hop := op_at ho (·.op) (x := Op.binOp BinOp.eql 31 (Operand.tmp 77) (Operand.tmp 78) 31) (by kernel_rfl)
  have hgd := op_at ho (·.guard) (x := some (20, true)) (by kernel_rfl)
  have e20 : a.eval (.tmp 76) = .bool true := haft 20 (op_at ho (fun o => o.after.any fun e => decide (e.on = 20) && Region.binds .any e) (x := true) (by kernel_rfl))
  have e21 : a.eval (.tmp 77) = .int .i64 E2 := haft 21 (op_at ho (fun o => o.after.any fun e => decide (e.on = 21) && Region.binds .any e) (x := true) (by kernel_rfl))
  have e22 : a.eval (.tmp 78) = .int .i64 E2 := haft 22 (op_at ho (fun o => o.after.any fun e => decide (e.on = 22) && Region.binds .any e) (x := true) (by kernel_rfl))
  refine ⟨fun j b h => (by rw [hgd] at h; cases h; exact e20), ?_⟩
  exact specs_value (R := fun v W => cs9S p A n c A' n' c' va vb vc vd vx vy ER E1 E2 E3 23 v W) (v := .bool true) (by simp [execOp, hop, go_sem, ev e21, ev e22]) rfl (Ext.refl W)
set_option maxHeartbeats 1000000 in
theorem cs9_op24 (haft : ∀ j, (o.after.any fun e => decide (e.on = j) && Region.binds .any e) = true → cs9S p A n c A' n' c' va vb vc vd vx vy ER E1 E2 E3 j (a.eval (.tmp (cs9D j))) W) (ho : cs9Reg[24]? = some o) : cs9Ok p A n c A' n' c' va vb vc vd vx vy ER E1 E2 E3 Q a W 24 o := by
  have hop := op_at ho (·.op) (x := Op.pick (Operand.tmp 76) (Operand.tmp 79) (Operand.const (Value.bool false))) (by kernel_rfl)
  have hgd := op_at ho (·.guard) (x := none) (by kernel_rfl)
  have e20 : a.eval (.tmp 76) = .bool true := haft 20 (op_at ho (fun o => o.after.any fun e => decide (e.on = 20) && Region.binds .any e) (x := true) (by kernel_rfl))
  have e23 : a.eval (.tmp 79) = .bool true := haft 23 (op_at ho (fun o => o.after.any fun e => decide (e.on = 23) && Region.binds .any e) (x := true) (by kernel_rfl))
  refine ⟨fun j b h => (by rw [hgd] at h; cases h), ?_⟩
  exact specs_value (R := fun v W => cs9S p A n c A' n' c' va vb vc vd vx vy ER E1 E2 E3 24 v W) (v := .bool true) (by simp [execOp, hop, go_sem, ev e20, ev e23]) rfl (Ext.refl W)
set_option maxHeartbeats 1000000 in
theorem cs9_op25 (haft : ∀ j, (o.after.any fun e => decide (e.on = j) && Region.binds .any e) = true → cs9S p A n c A' n' c' va vb vc vd vx vy ER E1 E2 E3 j (a.eval (.tmp (cs9D j))) W) (ho : cs9Reg[25]? = some o) : cs9Ok p A n c A' n' c' va vb vc vd vx vy ER E1 E2 E3 Q a W 25 o := by
  have hop := op_at ho (·.op) (x := Op.move (Operand.tmp 80)) (by kernel_rfl)
  have hgd := op_at ho (·.guard) (x := none) (by kernel_rfl)
  have e24 : a.eval (.tmp 80) = .bool true := haft 24 (op_at ho (fun o => o.after.any fun e => decide (e.on = 24) && Region.binds .any e) (x := true) (by kernel_rfl))
  refine ⟨fun j b h => (by rw [hgd] at h; cases h), ?_⟩
  exact specs_value (R := fun v W => cs9S p A n c A' n' c' va vb vc vd vx vy ER E1 E2 E3 25 v W) (v := .bool true) (by simp [execOp, hop, go_sem, ev e24]) rfl (Ext.refl W)
set_option maxHeartbeats 1000000 in
theorem cs9_op26 (o15 : a.eval (.tmp 15) = vx) (haft : ∀ j, (o.after.any fun e => decide (e.on = j) && Region.binds .any e) = true → cs9S p A n c A' n' c' va vb vc vd vx vy ER E1 E2 E3 j (a.eval (.tmp (cs9D j))) W) (ho : cs9Reg[26]? = some o) : cs9Ok p A n c A' n' c' va vb vc vd vx vy ER E1 E2 E3 Q a W 26 o := by
  have hop := op_at ho (·.op) (x := Op.move (Operand.tmp 15)) (by kernel_rfl)
  have hgd := op_at ho (·.guard) (x := some (25, true)) (by kernel_rfl)
  have e25 : a.eval (.tmp 81) = .bool true := haft 25 (op_at ho (fun o => o.after.any fun e => decide (e.on = 25) && Region.binds .any e) (x := true) (by kernel_rfl))
  refine ⟨fun j b h => (by rw [hgd] at h; cases h; exact e25), ?_⟩
  exact specs_value (R := fun v W => cs9S p A n c A' n' c' va vb vc vd vx vy ER E1 E2 E3 26 v W) (v := vx) (by simp [execOp, hop, go_sem, ev o15]) rfl (Ext.refl W)
set_option maxHeartbeats 1000000 in
theorem cs9_op27 (o17 : a.eval (.tmp 17) = vy) (haft : ∀ j, (o.after.any fun e => decide (e.on = j) && Region.binds .any e) = true → cs9S p A n c A' n' c' va vb vc vd vx vy ER E1 E2 E3 j (a.eval (.tmp (cs9D j))) W) (ho : cs9Reg[27]? = some o) : cs9Ok p A n c A' n' c' va vb vc vd vx vy ER E1 E2 E3 Q a W 27 o := by
  have hop := op_at ho (·.op) (x := Op.move (Operand.tmp 17)) (by kernel_rfl)
  have hgd := op_at ho (·.guard) (x := some (25, true)) (by kernel_rfl)
  have e25 : a.eval (.tmp 81) = .bool true := haft 25 (op_at ho (fun o => o.after.any fun e => decide (e.on = 25) && Region.binds .any e) (x := true) (by kernel_rfl))
  refine ⟨fun j b h => (by rw [hgd] at h; cases h; exact e25), ?_⟩
  exact specs_value (R := fun v W => cs9S p A n c A' n' c' va vb vc vd vx vy ER E1 E2 E3 27 v W) (v := vy) (by simp [execOp, hop, go_sem, ev o17]) rfl (Ext.refl W)
set_option maxHeartbeats 1000000 in
theorem cs9_op28 (hi2 : ∀ W, Ext V W → Calls Try.prog 25 #[vx, vy] W fun e w' => e = .returned (.bool true) ∧ Ext W w') (hB : Ext V W) (haft : ∀ j, (o.after.any fun e => decide (e.on = j) && Region.binds .any e) = true → cs9S p A n c A' n' c' va vb vc vd vx vy ER E1 E2 E3 j (a.eval (.tmp (cs9D j))) W) (ho : cs9Reg[28]? = some o) : cs9Ok p A n c A' n' c' va vb vc vd vx vy ER E1 E2 E3 Q a W 28 o := by
  have hop := op_at ho (·.op) (x := Op.call { callee := Callee.value (Operand.func 25), args := #[Operand.tmp 82, Operand.tmp 83], argTypes := #[30, 30] }) (by kernel_rfl)
  have hgd := op_at ho (·.guard) (x := some (25, true)) (by kernel_rfl)
  have e25 : a.eval (.tmp 81) = .bool true := haft 25 (op_at ho (fun o => o.after.any fun e => decide (e.on = 25) && Region.binds .any e) (x := true) (by kernel_rfl))
  have e26 : a.eval (.tmp 82) = vx := haft 26 (op_at ho (fun o => o.after.any fun e => decide (e.on = 26) && Region.binds .any e) (x := true) (by kernel_rfl))
  have e27 : a.eval (.tmp 83) = vy := haft 27 (op_at ho (fun o => o.after.any fun e => decide (e.on = 27) && Region.binds .any e) (x := true) (by kernel_rfl))
  refine ⟨fun j b h => (by rw [hgd] at h; cases h; exact e25), ?_⟩
  refine specs_call (R := fun v W => cs9S p A n c A' n' c' va vb vc vd vx vy ER E1 E2 E3 28 v W) (f := 25) (args := #[vx, vy]) (by simp [execOp, hop, go_sem, ev e26, ev e27]) ((hi2 W hB).mono ?_)
  rintro e w' ⟨rfl, h3⟩
  exact ⟨_, rfl, rfl, h3⟩
set_option maxHeartbeats 1000000 in
theorem cs9_op29 (haft : ∀ j, (o.after.any fun e => decide (e.on = j) && Region.binds .any e) = true → cs9S p A n c A' n' c' va vb vc vd vx vy ER E1 E2 E3 j (a.eval (.tmp (cs9D j))) W) (ho : cs9Reg[29]? = some o) : cs9Ok p A n c A' n' c' va vb vc vd vx vy ER E1 E2 E3 Q a W 29 o := by
  have hop := op_at ho (·.op) (x := Op.pick (Operand.tmp 81) (Operand.tmp 84) (Operand.const (Value.bool false))) (by kernel_rfl)
  have hgd := op_at ho (·.guard) (x := none) (by kernel_rfl)
  have e25 : a.eval (.tmp 81) = .bool true := haft 25 (op_at ho (fun o => o.after.any fun e => decide (e.on = 25) && Region.binds .any e) (x := true) (by kernel_rfl))
  have e28 : cs9S p A n c A' n' c' va vb vc vd vx vy ER E1 E2 E3 28 (a.eval (.tmp 84)) W := haft 28 (op_at ho (fun o => o.after.any fun e => decide (e.on = 28) && Region.binds .any e) (x := true) (by kernel_rfl))
  refine ⟨fun j b h => (by rw [hgd] at h; cases h), ?_⟩
  have eR : a.eval (.tmp 84) = .bool true := e28
  exact specs_value (R := fun v W => cs9S p A n c A' n' c' va vb vc vd vx vy ER E1 E2 E3 29 v W) (v := .bool true) (by simp [execOp, hop, go_sem, ev e25, ev eR]) rfl (Ext.refl W)
set_option maxHeartbeats 1000000 in
theorem cs9_op30 (haft : ∀ j, (o.after.any fun e => decide (e.on = j) && Region.binds .any e) = true → cs9S p A n c A' n' c' va vb vc vd vx vy ER E1 E2 E3 j (a.eval (.tmp (cs9D j))) W) (ho : cs9Reg[30]? = some o) : cs9Ok p A n c A' n' c' va vb vc vd vx vy ER E1 E2 E3 Q a W 30 o := by
  have hop := op_at ho (·.op) (x := Op.move (Operand.tmp 85)) (by kernel_rfl)
  have hgd := op_at ho (·.guard) (x := none) (by kernel_rfl)
  have e29 : a.eval (.tmp 85) = .bool true := haft 29 (op_at ho (fun o => o.after.any fun e => decide (e.on = 29) && Region.binds .any e) (x := true) (by kernel_rfl))
  refine ⟨fun j b h => (by rw [hgd] at h; cases h), ?_⟩
  exact specs_value (R := fun v W => cs9S p A n c A' n' c' va vb vc vd vx vy ER E1 E2 E3 30 v W) (v := .bool true) (by simp [execOp, hop, go_sem, ev e29]) rfl (Ext.refl W)
set_option maxHeartbeats 1000000 in
theorem cs9_op31 (o16 : a.eval (.tmp 16) = .int .i64 E3) (haft : ∀ j, (o.after.any fun e => decide (e.on = j) && Region.binds .any e) = true → cs9S p A n c A' n' c' va vb vc vd vx vy ER E1 E2 E3 j (a.eval (.tmp (cs9D j))) W) (ho : cs9Reg[31]? = some o) : cs9Ok p A n c A' n' c' va vb vc vd vx vy ER E1 E2 E3 Q a W 31 o := by
  have hop := op_at ho (·.op) (x := Op.move (Operand.tmp 16)) (by kernel_rfl)
  have hgd := op_at ho (·.guard) (x := some (30, true)) (by kernel_rfl)
  have e30 : a.eval (.tmp 86) = .bool true := haft 30 (op_at ho (fun o => o.after.any fun e => decide (e.on = 30) && Region.binds .any e) (x := true) (by kernel_rfl))
  refine ⟨fun j b h => (by rw [hgd] at h; cases h; exact e30), ?_⟩
  exact specs_value (R := fun v W => cs9S p A n c A' n' c' va vb vc vd vx vy ER E1 E2 E3 31 v W) (v := .int .i64 E3) (by simp [execOp, hop, go_sem, ev o16]) rfl (Ext.refl W)
set_option maxHeartbeats 1000000 in
theorem cs9_op32 (o18 : a.eval (.tmp 18) = .int .i64 E3) (haft : ∀ j, (o.after.any fun e => decide (e.on = j) && Region.binds .any e) = true → cs9S p A n c A' n' c' va vb vc vd vx vy ER E1 E2 E3 j (a.eval (.tmp (cs9D j))) W) (ho : cs9Reg[32]? = some o) : cs9Ok p A n c A' n' c' va vb vc vd vx vy ER E1 E2 E3 Q a W 32 o := by
  have hop := op_at ho (·.op) (x := Op.move (Operand.tmp 18)) (by kernel_rfl)
  have hgd := op_at ho (·.guard) (x := some (30, true)) (by kernel_rfl)
  have e30 : a.eval (.tmp 86) = .bool true := haft 30 (op_at ho (fun o => o.after.any fun e => decide (e.on = 30) && Region.binds .any e) (x := true) (by kernel_rfl))
  refine ⟨fun j b h => (by rw [hgd] at h; cases h; exact e30), ?_⟩
  exact specs_value (R := fun v W => cs9S p A n c A' n' c' va vb vc vd vx vy ER E1 E2 E3 32 v W) (v := .int .i64 E3) (by simp [execOp, hop, go_sem, ev o18]) rfl (Ext.refl W)
set_option maxHeartbeats 1000000 in
theorem cs9_op33 (haft : ∀ j, (o.after.any fun e => decide (e.on = j) && Region.binds .any e) = true → cs9S p A n c A' n' c' va vb vc vd vx vy ER E1 E2 E3 j (a.eval (.tmp (cs9D j))) W) (ho : cs9Reg[33]? = some o) : cs9Ok p A n c A' n' c' va vb vc vd vx vy ER E1 E2 E3 Q a W 33 o := by
  have hop := op_at ho (·.op) (x := Op.binOp BinOp.eql 31 (Operand.tmp 87) (Operand.tmp 88) 31) (by kernel_rfl)
  have hgd := op_at ho (·.guard) (x := some (30, true)) (by kernel_rfl)
  have e30 : a.eval (.tmp 86) = .bool true := haft 30 (op_at ho (fun o => o.after.any fun e => decide (e.on = 30) && Region.binds .any e) (x := true) (by kernel_rfl))
  have e31 : a.eval (.tmp 87) = .int .i64 E3 := haft 31 (op_at ho (fun o => o.after.any fun e => decide (e.on = 31) && Region.binds .any e) (x := true) (by kernel_rfl))
  have e32 : a.eval (.tmp 88) = .int .i64 E3 := haft 32 (op_at ho (fun o => o.after.any fun e => decide (e.on = 32) && Region.binds .any e) (x := true) (by kernel_rfl))
  refine ⟨fun j b h => (by rw [hgd] at h; cases h; exact e30), ?_⟩
  exact specs_value (R := fun v W => cs9S p A n c A' n' c' va vb vc vd vx vy ER E1 E2 E3 33 v W) (v := .bool true) (by simp [execOp, hop, go_sem, ev e31, ev e32]) rfl (Ext.refl W)
set_option maxHeartbeats 1000000 in
theorem cs9_op34 (haft : ∀ j, (o.after.any fun e => decide (e.on = j) && Region.binds .any e) = true → cs9S p A n c A' n' c' va vb vc vd vx vy ER E1 E2 E3 j (a.eval (.tmp (cs9D j))) W) (ho : cs9Reg[34]? = some o) : cs9Ok p A n c A' n' c' va vb vc vd vx vy ER E1 E2 E3 Q a W 34 o := by
  have hop := op_at ho (·.op) (x := Op.pick (Operand.tmp 86) (Operand.tmp 89) (Operand.const (Value.bool false))) (by kernel_rfl)
  have hgd := op_at ho (·.guard) (x := none) (by kernel_rfl)
  have e30 : a.eval (.tmp 86) = .bool true := haft 30 (op_at ho (fun o => o.after.any fun e => decide (e.on = 30) && Region.binds .any e) (x := true) (by kernel_rfl))
  have e33 : a.eval (.tmp 89) = .bool true := haft 33 (op_at ho (fun o => o.after.any fun e => decide (e.on = 33) && Region.binds .any e) (x := true) (by kernel_rfl))
  refine ⟨fun j b h => (by rw [hgd] at h; cases h), ?_⟩
  exact specs_value (R := fun v W => cs9S p A n c A' n' c' va vb vc vd vx vy ER E1 E2 E3 34 v W) (v := .bool true) (by simp [execOp, hop, go_sem, ev e30, ev e33]) rfl (Ext.refl W)
set_option maxHeartbeats 1000000 in
theorem cs9_op35 (haft : ∀ j, (o.after.any fun e => decide (e.on = j) && Region.binds .any e) = true → cs9S p A n c A' n' c' va vb vc vd vx vy ER E1 E2 E3 j (a.eval (.tmp (cs9D j))) W) (ho : cs9Reg[35]? = some o) : cs9Ok p A n c A' n' c' va vb vc vd vx vy ER E1 E2 E3 Q a W 35 o := by
  have hop := op_at ho (·.op) (x := Op.move (Operand.tmp 90)) (by kernel_rfl)
  have hgd := op_at ho (·.guard) (x := none) (by kernel_rfl)
  have e34 : a.eval (.tmp 90) = .bool true := haft 34 (op_at ho (fun o => o.after.any fun e => decide (e.on = 34) && Region.binds .any e) (x := true) (by kernel_rfl))
  refine ⟨fun j b h => (by rw [hgd] at h; cases h), ?_⟩
  exact specs_value (R := fun v W => cs9S p A n c A' n' c' va vb vc vd vx vy ER E1 E2 E3 35 v W) (v := .bool true) (by simp [execOp, hop, go_sem, ev e34]) rfl (Ext.refl W)
set_option maxHeartbeats 1000000 in
theorem cs9_op36 (hw1 : ∀ W, Ext V W → Calls Try.prog 16 #[] W fun e w' => e = .returned (.bool true) ∧ Ext W w') (hB : Ext V W) (haft : ∀ j, (o.after.any fun e => decide (e.on = j) && Region.binds .any e) = true → cs9S p A n c A' n' c' va vb vc vd vx vy ER E1 E2 E3 j (a.eval (.tmp (cs9D j))) W) (ho : cs9Reg[36]? = some o) : cs9Ok p A n c A' n' c' va vb vc vd vx vy ER E1 E2 E3 Q a W 36 o := by
  have hop := op_at ho (·.op) (x := Op.call { callee := Callee.value (Operand.func 16), args := #[], argTypes := #[] }) (by kernel_rfl)
  have hgd := op_at ho (·.guard) (x := some (35, true)) (by kernel_rfl)
  have e35 : a.eval (.tmp 91) = .bool true := haft 35 (op_at ho (fun o => o.after.any fun e => decide (e.on = 35) && Region.binds .any e) (x := true) (by kernel_rfl))
  refine ⟨fun j b h => (by rw [hgd] at h; cases h; exact e35), ?_⟩
  refine specs_call (R := fun v W => cs9S p A n c A' n' c' va vb vc vd vx vy ER E1 E2 E3 36 v W) (f := 16) (args := #[]) (by simp [execOp, hop, go_sem]) ((hw1 W hB).mono ?_)
  rintro e w' ⟨rfl, h3⟩
  exact ⟨_, rfl, rfl, h3⟩
set_option maxHeartbeats 1000000 in
theorem cs9_op37 (haft : ∀ j, (o.after.any fun e => decide (e.on = j) && Region.binds .any e) = true → cs9S p A n c A' n' c' va vb vc vd vx vy ER E1 E2 E3 j (a.eval (.tmp (cs9D j))) W) (ho : cs9Reg[37]? = some o) : cs9Ok p A n c A' n' c' va vb vc vd vx vy ER E1 E2 E3 Q a W 37 o := by
  have hop := op_at ho (·.op) (x := Op.pick (Operand.tmp 91) (Operand.tmp 92) (Operand.const (Value.bool false))) (by kernel_rfl)
  have hgd := op_at ho (·.guard) (x := none) (by kernel_rfl)
  have e35 : a.eval (.tmp 91) = .bool true := haft 35 (op_at ho (fun o => o.after.any fun e => decide (e.on = 35) && Region.binds .any e) (x := true) (by kernel_rfl))
  have e36 : cs9S p A n c A' n' c' va vb vc vd vx vy ER E1 E2 E3 36 (a.eval (.tmp 92)) W := haft 36 (op_at ho (fun o => o.after.any fun e => decide (e.on = 36) && Region.binds .any e) (x := true) (by kernel_rfl))
  refine ⟨fun j b h => (by rw [hgd] at h; cases h), ?_⟩
  have eR : a.eval (.tmp 92) = .bool true := e36
  exact specs_value (R := fun v W => cs9S p A n c A' n' c' va vb vc vd vx vy ER E1 E2 E3 37 v W) (v := .bool true) (by simp [execOp, hop, go_sem, ev e35, ev eR]) rfl (Ext.refl W)
set_option maxHeartbeats 1000000 in
theorem cs9_op38 (haft : ∀ j, (o.after.any fun e => decide (e.on = j) && Region.binds .any e) = true → cs9S p A n c A' n' c' va vb vc vd vx vy ER E1 E2 E3 j (a.eval (.tmp (cs9D j))) W) (ho : cs9Reg[38]? = some o) : cs9Ok p A n c A' n' c' va vb vc vd vx vy ER E1 E2 E3 Q a W 38 o := by
  have hop := op_at ho (·.op) (x := Op.assign (Operand.tmp 93)) (by kernel_rfl)
  have hgd := op_at ho (·.guard) (x := none) (by kernel_rfl)
  have e37 : a.eval (.tmp 93) = .bool true := haft 37 (op_at ho (fun o => o.after.any fun e => decide (e.on = 37) && Region.binds .any e) (x := true) (by kernel_rfl))
  refine ⟨fun j b h => (by rw [hgd] at h; cases h), ?_⟩
  exact specs_value (R := fun v W => cs9S p A n c A' n' c' va vb vc vd vx vy ER E1 E2 E3 38 v W) (v := .bool true) (by simp [execOp, hop, go_sem, ev e37]) rfl (Ext.refl W)
set_option maxRecDepth 100000 in
set_option maxHeartbeats 4000000 in
/-- Region 9 of function 3. -/
theorem cs9_wp {id : Nat} (hlen : a.tmps.size = 94) (o3 : a.eval (.tmp 3) = .pointer (some ⟨p, 0, none⟩)) (o7 : a.eval (.tmp 7) = va) (o8 : a.eval (.tmp 8) = .int .i64 E1) (o9 : a.eval (.tmp 9) = vb) (o10 : a.eval (.tmp 10) = .int .i64 E1) (o11 : a.eval (.tmp 11) = vc) (o12 : a.eval (.tmp 12) = .int .i64 E2) (o13 : a.eval (.tmp 13) = vd) (o14 : a.eval (.tmp 14) = .int .i64 E2) (o15 : a.eval (.tmp 15) = vx) (o16 : a.eval (.tmp 16) = .int .i64 E3) (o17 : a.eval (.tmp 17) = vy) (o18 : a.eval (.tmp 18) = .int .i64 E3) (q0 : ∀ W, Ext V W → W.cell? ⟨p, 0, none⟩ = some (.slice A n c)) (q1 : ∀ W, Ext V W → W.cell? ⟨p, 1, none⟩ = some (.slice A' n' c')) (h23 : ∀ W, Ext V W → Calls Try.prog 23 #[.agg #[.slice A n c, .slice A' n' c']] W fun e w' => e = .returned (.int .i64 ER) ∧ Ext W w') (h24 : ∀ W, Ext V W → Calls Try.prog 24 #[.agg #[.slice A n c, .slice A' n' c']] W fun e w' => e = .returned (.int .i64 ER) ∧ Ext W w') (hi1 : ∀ W, Ext V W → Calls Try.prog 25 #[va, vb] W fun e w' => e = .returned (.bool true) ∧ Ext W w') (hl1 : ∀ W, Ext V W → Calls Try.prog 26 #[vc, vd] W fun e w' => e = .returned (.bool true) ∧ Ext W w') (hi2 : ∀ W, Ext V W → Calls Try.prog 25 #[vx, vy] W fun e w' => e = .returned (.bool true) ∧ Ext W w') (hw1 : ∀ W, Ext V W → Calls Try.prog 16 #[] W fun e w' => e = .returned (.bool true) ∧ Ext W w') (K : (∀ W v1 v3 v8 v18 v28 v36, Ext V W → cs9S p A n c A' n' c' va vb vc vd vx vy ER E1 E2 E3 1 v1 W → cs9S p A n c A' n' c' va vb vc vd vx vy ER E1 E2 E3 3 v3 W → cs9S p A n c A' n' c' va vb vc vd vx vy ER E1 E2 E3 8 v8 W → cs9S p A n c A' n' c' va vb vc vd vx vy ER E1 E2 E3 18 v18 W → cs9S p A n c A' n' c' va vb vc vd vx vy ER E1 E2 E3 28 v28 W → cs9S p A n c A' n' c' va vb vc vd vx vy ER E1 E2 E3 36 v36 W → wpList Try.prog cs9Reg Q (cs9Reg.toList.drop 39) (puts a [(56, .agg #[.slice A n c, .slice A' n' c']), (57, v1), (58, .agg #[.slice A n c, .slice A' n' c']), (59, v3), (60, .bool true), (61, .bool true), (62, va), (63, vb), (64, v8), (65, .bool true), (66, .bool true), (67, .int .i64 E1), (68, .int .i64 E1), (69, .bool true), (70, .bool true), (71, .bool true), (72, vc), (73, vd), (74, v18), (75, .bool true), (76, .bool true), (77, .int .i64 E2), (78, .int .i64 E2), (79, .bool true), (80, .bool true), (81, .bool true), (82, vx), (83, vy), (84, v28), (85, .bool true), (86, .bool true), (87, .int .i64 E3), (88, .int .i64 E3), (89, .bool true), (90, .bool true), (91, .bool true), (92, v36), (93, .bool true), (6, .bool true)]) W)) : (Code.region id cs9Reg true).wp Try.prog Q a V := by
  refine wp_region_specs_free (ops := cs9Reg) 39 (cs9S p A n c A' n' c' va vb vc vd vx vy ER E1 E2 E3) (Ext V) (by kernel_rfl) (by rw [hlen]; kernel_rfl) (by kernel_rfl) ⟨rfl, rfl, rfl, Nat.le_refl _, fun _ _ => rfl⟩ (fun _ _ h e => h.trans e) cs9S_ext cs9D (by kernel_rfl) ?_ ?_
  · intro i o hi ho a' W hB hsz hold haft
    match i, hi with
    | 0, _ => exact cs9_op0 ((hold 3 (by kernel_rfl)).trans o3) q0 q1 hB ho
    | 1, _ => exact cs9_op1 h23 hB haft ho
    | 2, _ => exact cs9_op2 ((hold 3 (by kernel_rfl)).trans o3) q0 q1 hB ho
    | 3, _ => exact cs9_op3 h24 hB haft ho
    | 4, _ => exact cs9_op4 haft ho
    | 5, _ => exact cs9_op5 haft ho
    | 6, _ => exact cs9_op6 ((hold 7 (by kernel_rfl)).trans o7) haft ho
    | 7, _ => exact cs9_op7 ((hold 9 (by kernel_rfl)).trans o9) haft ho
    | 8, _ => exact cs9_op8 hi1 hB haft ho
    | 9, _ => exact cs9_op9 haft ho
    | 10, _ => exact cs9_op10 haft ho
    | 11, _ => exact cs9_op11 ((hold 8 (by kernel_rfl)).trans o8) haft ho
    | 12, _ => exact cs9_op12 ((hold 10 (by kernel_rfl)).trans o10) haft ho
    | 13, _ => exact cs9_op13 haft ho
    | 14, _ => exact cs9_op14 haft ho
    | 15, _ => exact cs9_op15 haft ho
    | 16, _ => exact cs9_op16 ((hold 11 (by kernel_rfl)).trans o11) haft ho
    | 17, _ => exact cs9_op17 ((hold 13 (by kernel_rfl)).trans o13) haft ho
    | 18, _ => exact cs9_op18 hl1 hB haft ho
    | 19, _ => exact cs9_op19 haft ho
    | 20, _ => exact cs9_op20 haft ho
    | 21, _ => exact cs9_op21 ((hold 12 (by kernel_rfl)).trans o12) haft ho
    | 22, _ => exact cs9_op22 ((hold 14 (by kernel_rfl)).trans o14) haft ho
    | 23, _ => exact cs9_op23 haft ho
    | 24, _ => exact cs9_op24 haft ho
    | 25, _ => exact cs9_op25 haft ho
    | 26, _ => exact cs9_op26 ((hold 15 (by kernel_rfl)).trans o15) haft ho
    | 27, _ => exact cs9_op27 ((hold 17 (by kernel_rfl)).trans o17) haft ho
    | 28, _ => exact cs9_op28 hi2 hB haft ho
    | 29, _ => exact cs9_op29 haft ho
    | 30, _ => exact cs9_op30 haft ho
    | 31, _ => exact cs9_op31 ((hold 16 (by kernel_rfl)).trans o16) haft ho
    | 32, _ => exact cs9_op32 ((hold 18 (by kernel_rfl)).trans o18) haft ho
    | 33, _ => exact cs9_op33 haft ho
    | 34, _ => exact cs9_op34 haft ho
    | 35, _ => exact cs9_op35 haft ho
    | 36, _ => exact cs9_op36 hw1 hB haft ho
    | 37, _ => exact cs9_op37 haft ho
    | 38, _ => exact cs9_op38 haft ho
    | m + 39, h => exact absurd h (by omega)
  · intro a1 W hB hsz hdf hold hS
    obtain ⟨v1, g1⟩ : ∃ v, v = a1.eval (.tmp 57) := ⟨_, rfl⟩
    obtain ⟨v3, g3⟩ : ∃ v, v = a1.eval (.tmp 59) := ⟨_, rfl⟩
    obtain ⟨v8, g8⟩ : ∃ v, v = a1.eval (.tmp 64) := ⟨_, rfl⟩
    obtain ⟨v18, g18⟩ : ∃ v, v = a1.eval (.tmp 74) := ⟨_, rfl⟩
    obtain ⟨v28, g28⟩ : ∃ v, v = a1.eval (.tmp 84) := ⟨_, rfl⟩
    obtain ⟨v36, g36⟩ : ∃ v, v = a1.eval (.tmp 92) := ⟨_, rfl⟩
    have hall : ∀ z, z ∈ ([(56, .agg #[.slice A n c, .slice A' n' c']), (57, v1), (58, .agg #[.slice A n c, .slice A' n' c']), (59, v3), (60, .bool true), (61, .bool true), (62, va), (63, vb), (64, v8), (65, .bool true), (66, .bool true), (67, .int .i64 E1), (68, .int .i64 E1), (69, .bool true), (70, .bool true), (71, .bool true), (72, vc), (73, vd), (74, v18), (75, .bool true), (76, .bool true), (77, .int .i64 E2), (78, .int .i64 E2), (79, .bool true), (80, .bool true), (81, .bool true), (82, vx), (83, vy), (84, v28), (85, .bool true), (86, .bool true), (87, .int .i64 E3), (88, .int .i64 E3), (89, .bool true), (90, .bool true), (91, .bool true), (92, v36), (93, .bool true), (6, .bool true)] : List (Tmp × Value)) → z.1 < a.tmps.size ∧ a1.eval (.tmp z.1) = z.2 := by
      intro z hz
      rw [hlen]
      simp only [List.mem_cons, List.not_mem_nil, or_false] at hz
      rcases hz with rfl | rfl | rfl | rfl | rfl | rfl | rfl | rfl | rfl | rfl | rfl | rfl | rfl | rfl | rfl | rfl | rfl | rfl | rfl | rfl | rfl | rfl | rfl | rfl | rfl | rfl | rfl | rfl | rfl | rfl | rfl | rfl | rfl | rfl | rfl | rfl | rfl | rfl | rfl
      · exact ⟨(show (56 : Nat) < 94 by omega), hS 0 (by omega)⟩
      · exact ⟨(show (57 : Nat) < 94 by omega), g1.symm⟩
      · exact ⟨(show (58 : Nat) < 94 by omega), hS 2 (by omega)⟩
      · exact ⟨(show (59 : Nat) < 94 by omega), g3.symm⟩
      · exact ⟨(show (60 : Nat) < 94 by omega), hS 4 (by omega)⟩
      · exact ⟨(show (61 : Nat) < 94 by omega), hS 5 (by omega)⟩
      · exact ⟨(show (62 : Nat) < 94 by omega), hS 6 (by omega)⟩
      · exact ⟨(show (63 : Nat) < 94 by omega), hS 7 (by omega)⟩
      · exact ⟨(show (64 : Nat) < 94 by omega), g8.symm⟩
      · exact ⟨(show (65 : Nat) < 94 by omega), hS 9 (by omega)⟩
      · exact ⟨(show (66 : Nat) < 94 by omega), hS 10 (by omega)⟩
      · exact ⟨(show (67 : Nat) < 94 by omega), hS 11 (by omega)⟩
      · exact ⟨(show (68 : Nat) < 94 by omega), hS 12 (by omega)⟩
      · exact ⟨(show (69 : Nat) < 94 by omega), hS 13 (by omega)⟩
      · exact ⟨(show (70 : Nat) < 94 by omega), hS 14 (by omega)⟩
      · exact ⟨(show (71 : Nat) < 94 by omega), hS 15 (by omega)⟩
      · exact ⟨(show (72 : Nat) < 94 by omega), hS 16 (by omega)⟩
      · exact ⟨(show (73 : Nat) < 94 by omega), hS 17 (by omega)⟩
      · exact ⟨(show (74 : Nat) < 94 by omega), g18.symm⟩
      · exact ⟨(show (75 : Nat) < 94 by omega), hS 19 (by omega)⟩
      · exact ⟨(show (76 : Nat) < 94 by omega), hS 20 (by omega)⟩
      · exact ⟨(show (77 : Nat) < 94 by omega), hS 21 (by omega)⟩
      · exact ⟨(show (78 : Nat) < 94 by omega), hS 22 (by omega)⟩
      · exact ⟨(show (79 : Nat) < 94 by omega), hS 23 (by omega)⟩
      · exact ⟨(show (80 : Nat) < 94 by omega), hS 24 (by omega)⟩
      · exact ⟨(show (81 : Nat) < 94 by omega), hS 25 (by omega)⟩
      · exact ⟨(show (82 : Nat) < 94 by omega), hS 26 (by omega)⟩
      · exact ⟨(show (83 : Nat) < 94 by omega), hS 27 (by omega)⟩
      · exact ⟨(show (84 : Nat) < 94 by omega), g28.symm⟩
      · exact ⟨(show (85 : Nat) < 94 by omega), hS 29 (by omega)⟩
      · exact ⟨(show (86 : Nat) < 94 by omega), hS 30 (by omega)⟩
      · exact ⟨(show (87 : Nat) < 94 by omega), hS 31 (by omega)⟩
      · exact ⟨(show (88 : Nat) < 94 by omega), hS 32 (by omega)⟩
      · exact ⟨(show (89 : Nat) < 94 by omega), hS 33 (by omega)⟩
      · exact ⟨(show (90 : Nat) < 94 by omega), hS 34 (by omega)⟩
      · exact ⟨(show (91 : Nat) < 94 by omega), hS 35 (by omega)⟩
      · exact ⟨(show (92 : Nat) < 94 by omega), g36.symm⟩
      · exact ⟨(show (93 : Nat) < 94 by omega), hS 37 (by omega)⟩
      · exact ⟨(show (6 : Nat) < 94 by omega), hS 38 (by omega)⟩
    have ha := act_puts hsz hdf hall (fun t ht => hold t (all_ne_of (l := [(56, .agg #[.slice A n c, .slice A' n' c']), (57, v1), (58, .agg #[.slice A n c, .slice A' n' c']), (59, v3), (60, .bool true), (61, .bool true), (62, va), (63, vb), (64, v8), (65, .bool true), (66, .bool true), (67, .int .i64 E1), (68, .int .i64 E1), (69, .bool true), (70, .bool true), (71, .bool true), (72, vc), (73, vd), (74, v18), (75, .bool true), (76, .bool true), (77, .int .i64 E2), (78, .int .i64 E2), (79, .bool true), (80, .bool true), (81, .bool true), (82, vx), (83, vy), (84, v28), (85, .bool true), (86, .bool true), (87, .int .i64 E3), (88, .int .i64 E3), (89, .bool true), (90, .bool true), (91, .bool true), (92, v36), (93, .bool true), (6, .bool true)]) (by kernel_rfl) ht))
    rw [ha]
    exact K W v1 v3 v8 v18 v28 v36 hB (by rw [g1]; exact hS 1 (by omega)) (by rw [g3]; exact hS 3 (by omega)) (by rw [g8]; exact hS 8 (by omega)) (by rw [g18]; exact hS 18 (by omega)) (by rw [g28]; exact hS 28 (by omega)) (by rw [g36]; exact hS 36 (by omega))
end
end Go.Proofs.Ytadmbccclaffjaa

/- CombSheets, walked. -/
namespace Go.Proofs.Ytadmbccclaffjaa
open Go.RowKit Go.Shelf
attribute [local irreducible] bitCells fitCells Z94 fitOf

theorem owns_bound {W : World} {base : Nat} {e : TypeId} {size n : Nat} {v : Value} {xs : List Value} (h : W.ownsRow base e size v n xs) : n ≤ 9223372036854775807 := by
  rcases h.2 with ⟨_, h1⟩ | ⟨_, cap, _, _, _, _, h1, h2, _⟩
  · omega
  · unfold maxLen at h2; omega
theorem post_ints {cs ms : List (Int × Int)} {err : Int} {xs : List Int} {w w' : World} {e : Ending} (h : SheetPost cs ms err (fun B w' v => MadeInts B xs w' v) w e w') :
    Ext w w' ∧ ∃ A m c, e = .returned (.tuple #[.slice A m c, .int .i64 err]) ∧ m = (if err = 0 then xs else []).length ∧ m ≤ 9223372036854775807 ∧ Held w' w'.heap.size 1 encI A (if err = 0 then xs else []) := by
  obtain ⟨hE, ⟨hne, rfl⟩ | ⟨h0, v, rfl, hM⟩⟩ := h
  · rw [if_neg hne]
    exact ⟨hE, none, 0, 0, rfl, rfl, by omega, .inl rfl⟩
  · subst h0
    rw [if_pos rfl]
    obtain ⟨A, c, rfl⟩ := made_slice hM
    exact ⟨hE, A, _, c, rfl, rfl, owns_bound hM.1, ints_held hM rfl⟩
theorem post_longs {cs ms : List (Int × Int)} {err : Int} {xs : List Int} {w w' : World} {e : Ending} (h : SheetPost cs ms err (fun B w' v => MadeLongs B xs w' v) w e w') :
    Ext w w' ∧ ∃ A m c, e = .returned (.tuple #[.slice A m c, .int .i64 err]) ∧ m = (if err = 0 then xs else []).length ∧ m ≤ 9223372036854775807 ∧ Held w' w'.heap.size 1 encI A (if err = 0 then xs else []) := by
  obtain ⟨hE, ⟨hne, rfl⟩ | ⟨h0, v, rfl, hM⟩⟩ := h
  · rw [if_neg hne]
    exact ⟨hE, none, 0, 0, rfl, rfl, by omega, .inl rfl⟩
  · subst h0
    rw [if_pos rfl]
    obtain ⟨A, c, rfl⟩ := made_slice2 hM
    exact ⟨hE, A, _, c, rfl, rfl, owns_bound hM.1, longs_held hM rfl⟩
theorem places_same {cs ms : List (Int × Int)} {q : Int} : (if placesErr cs ms q = 0 then placesOf q (fitsOf cs ms) else []) = if placesErr cs ms q = 0 then atsOf cs ms q.toNat else [] := by
  by_cases h : placesErr cs ms q = 0
  · rw [if_pos h, if_pos h]
    unfold placesErr at h
    by_cases h0 : sheetErr cs ms = 0
    · rw [if_pos h0] at h
      cases hs : strange cs.length (q, 0) with
      | true => rw [hs, if_pos rfl] at h; cases h
      | false =>
        obtain ⟨h1, h2⟩ := (strange_iff _ _).1 hs
        have := places_are (cs := cs) (ms := ms) h0 (q := q.toNat) (by dsimp only at h1 h2; omega)
        rwa [show ((q.toNat : Nat) : Int) = q from by dsimp only at h1; omega] at this
    · rw [if_neg h0] at h
      exact absurd h h0
  · rw [if_neg h, if_neg h]

set_option maxRecDepth 100000 in
set_option maxHeartbeats 8000000 in
theorem combSheets_any {A : Option Addr} {n c : Nat} {A' : Option Addr} {n' c' : Nat} {cs ms : List (Int × Int)} {w : World} (hb : IsSheet w w.heap.size A n c A' n' c' cs ms) (y1 y2 q : Int) :
    Calls Try.prog 3 #[.agg #[.slice A n c, .slice A' n' c'], .agg #[.int .i64 y1, .int .i64 y2], .int .i64 q] w fun e w' => e = .returned (.bool true) ∧ Ext w w' := by
  have hX0 : SheetAt ((w.alloc (.cells #[.slice A n c, .slice A' n' c'] 25)).alloc (.cells #[.int .i64 y1, .int .i64 y2] 27)) w.heap.size A n c A' n' c' cs ms := (SheetAt.new hb).ext (ext_alloc _ _)
  have hE0 : Ext w ((w.alloc (.cells #[.slice A n c, .slice A' n' c'] 25)).alloc (.cells #[.int .i64 y1, .int .i64 y2] 27)) := (ext_alloc _ _).trans (ext_alloc _ _)
  have hr0 : ((w.alloc (.cells #[.slice A n c, .slice A' n' c'] 25)).alloc (.cells #[.int .i64 y1, .int .i64 y2] 27)).heap[w.heap.size + 1]? = some (.cells #[.int .i64 y1, .int .i64 y2] 27 (0, 0)) := row_last _ _ _ (by simp)
  clear hb
  go_enter Try.func3, Try.ntmps3
  go_upto_region 1 with fail
  obtain ⟨w0, hw0⟩ : ∃ w0, (w.alloc (.cells #[.slice A n c, .slice A' n' c'] 25)).alloc (.cells #[.int .i64 y1, .int .i64 y2] 27) = w0 := ⟨_, rfl⟩
  rw [hw0] at hX0 hE0 hr0 ⊢
  obtain ⟨p, hp⟩ : ∃ p, w.heap.size = p := ⟨_, rfl⟩
  rw [hp] at hX0 hr0 ⊢
  have HS := Lib.hid hX0
  have HR := Lib.hid hr0
  have HE := Lib.hid hE0
  obtain ⟨q0, q1⟩ := hX0.cells
  have h15 := great_any A A' n c n' c' w0
  clear hw0 hE0 hp hX0 hr0
  go_wp2_with (fail)
  refine h15.mono ?_
  rintro e w1 ⟨rfl, e1⟩
  have e1 : Ext w0 w1 := e1
  have HS := Lib.hid (HS.out.ext e1)
  have HR := Lib.hid (row_ext HR.out e1)
  have HE := Lib.hid (HE.out.trans e1)
  clear q0 q1 h15 e1
  obtain ⟨gr, hgr⟩ : ∃ gr, (decide (12 < n) || decide (18 < n')) = gr := ⟨_, rfl⟩
  rw [hgr]
  clear hgr
  cases gr with
  | true =>
    go_wp2_with (fail)
    refine (works_any w1).mono ?_
    rintro e w2 ⟨rfl, e2⟩
    have HE := Lib.hid (HE.out.trans e2)
    clear e2
    go_wp2
    go_ret
    exact ⟨rfl, HE.out⟩
  | false =>
    obtain ⟨s0, s1⟩ := HS.out.cells
    have x0 : w1.cell? ⟨p + 1, 0, none⟩ = some (.int .i64 y1) := cell_of_row _ _ _ _ _ _ HR.out
    have x1 : w1.cell? ⟨p + 1, 1, none⟩ = some (.int .i64 y2) := cell_of_row _ _ _ _ _ _ HR.out
    have h := has2_any HS.out.sheet (y1, y2)
    dsimp only at h
    go_wp2_with (fail)
    refine h.mono ?_
    intro e w2 hp2
    obtain ⟨e2, Aa, ma, ca, rfl, hma, hba, hha⟩ := post_ints hp2
    have HS := Lib.hid (HS.out.ext e2)
    have HR := Lib.hid (row_ext HR.out e2)
    have HE := Lib.hid (HE.out.trans e2)
    clear s0 s1 x0 x1 h hp2
    obtain ⟨s0, s1⟩ := HS.out.cells
    have x0 : w2.cell? ⟨p + 1, 0, none⟩ = some (.int .i64 y1) := cell_of_row _ _ _ _ _ _ HR.out
    have x1 : w2.cell? ⟨p + 1, 1, none⟩ = some (.int .i64 y2) := cell_of_row _ _ _ _ _ _ HR.out
    have h := refHas_any HS.out.sheet y1 y2
    have HMa := Lib.hid (And.intro hma hba)
    have HHa := Lib.hid hha
    clear hma hba hha e2
    go_wp2_with (fail)
    refine h.mono ?_
    intro e w3 hp2
    obtain ⟨e2, Ab, mb, cb, rfl, hma, hba, hha⟩ := post_ints hp2
    have HS := Lib.hid (HS.out.ext e2)
    have HE := Lib.hid (HE.out.trans e2)
    have HHa := Lib.hid (Held.ext HHa.out e2)
    have HMb := Lib.hid (And.intro hma hba)
    have HHb := Lib.hid hha
    clear s0 s1 x0 x1 h hp2 hma hba hha e2 HR
    obtain ⟨s0, s1⟩ := HS.out.cells
    have h := places_any HS.out.sheet q
    go_wp2_with (fail)
    refine h.mono ?_
    intro e w4 hp2
    obtain ⟨e2, Ac, mc, cc, rfl, hma, hba, hha⟩ := post_longs hp2
    have HS := Lib.hid (HS.out.ext e2)
    have HE := Lib.hid (HE.out.trans e2)
    have HHa := Lib.hid (Held.ext HHa.out e2)
    have HHb := Lib.hid (Held.ext HHb.out e2)
    rw [places_same] at hma hha
    have HMc := Lib.hid (And.intro hma hba)
    have HHc := Lib.hid hha
    clear s0 s1 h hp2 hma hba hha e2
    obtain ⟨s0, s1⟩ := HS.out.cells
    have h := refPlaces_any HS.out.sheet q
    go_wp2_with (fail)
    refine h.mono ?_
    intro e w5 hp2
    obtain ⟨e2, Ad, md, cd, rfl, hma, hba, hha⟩ := post_longs hp2
    have HS := Lib.hid (HS.out.ext e2)
    have HE := Lib.hid (HE.out.trans e2)
    have HHa := Lib.hid (Held.ext HHa.out e2)
    have HHb := Lib.hid (Held.ext HHb.out e2)
    have HHc := Lib.hid (Held.ext HHc.out e2)
    have HMd := Lib.hid (And.intro hma hba)
    have HHd := Lib.hid hha
    clear s0 s1 h hp2 hma hba hha e2
    obtain ⟨s0, s1⟩ := HS.out.cells
    have h := lost_any HS.out.sheet
    go_wp2_with (fail)
    refine h.mono ?_
    intro e w6 hp2
    obtain ⟨e2, Ax, mx, cx, rfl, hma, hba, hha⟩ := post_ints hp2
    have HS := Lib.hid (HS.out.ext e2)
    have HE := Lib.hid (HE.out.trans e2)
    have HHa := Lib.hid (Held.ext HHa.out e2)
    have HHb := Lib.hid (Held.ext HHb.out e2)
    have HHc := Lib.hid (Held.ext HHc.out e2)
    have HHd := Lib.hid (Held.ext HHd.out e2)
    have HMx := Lib.hid (And.intro hma hba)
    have HHx := Lib.hid hha
    clear s0 s1 h hp2 hma hba hha e2
    obtain ⟨s0, s1⟩ := HS.out.cells
    have h := refLost_any HS.out.sheet
    go_wp2_with (fail)
    refine h.mono ?_
    intro e w7 hp2
    obtain ⟨e2, Ay, my, cy, rfl, hma, hba, hha⟩ := post_ints hp2
    have HS := Lib.hid (HS.out.ext e2)
    have HE := Lib.hid (HE.out.trans e2)
    have HHa := Lib.hid (Held.ext HHa.out e2)
    have HHb := Lib.hid (Held.ext HHb.out e2)
    have HHc := Lib.hid (Held.ext HHc.out e2)
    have HHd := Lib.hid (Held.ext HHd.out e2)
    have HHx := Lib.hid (Held.ext HHx.out e2)
    have HMy := Lib.hid (And.intro hma hba)
    have HHy := Lib.hid hha
    clear s0 s1 h hp2 hma hba hha e2
    go_upto_region 9 with fail
    refine cs9_wp (p := p) (A := A) (n := n) (c := c) (A' := A') (n' := n') (c' := c') (va := .slice Aa ma ca) (vb := .slice Ab mb cb) (vc := .slice Ac mc cc) (vd := .slice Ad md cd) (vx := .slice Ax mx cx) (vy := .slice Ay my cy) (ER := sheetErr cs ms) (E1 := hasErr cs ms (y1, y2)) (E2 := placesErr cs ms q) (E3 := sheetErr cs ms)
      rfl rfl rfl rfl rfl rfl rfl rfl rfl rfl rfl rfl rfl rfl
      (fun W hW => (HS.out.ext hW).cells.1) (fun W hW => (HS.out.ext hW).cells.2) (fun W hW => checkSheet_any (HS.out.ext hW).sheet) (fun W hW => refSheet_any (HS.out.ext hW).sheet)
      (fun W hW => (ints_any Aa Ab ma ca mb cb _ _ W HMa.out.1 HMb.out.1 HMa.out.2 HMb.out.2 (Held.ext HHa.out hW) (Held.ext HHb.out hW)).mono ?_)
      (fun W hW => (longs_any Ac Ad mc cc md cd _ _ W HMc.out.1 HMd.out.1 HMc.out.2 HMd.out.2 (Held.ext HHc.out hW) (Held.ext HHd.out hW)).mono ?_)
      (fun W hW => (ints_any Ax Ay mx cx my cy _ _ W HMx.out.1 HMy.out.1 HMx.out.2 HMy.out.2 (Held.ext HHx.out hW) (Held.ext HHy.out hW)).mono ?_)
      (fun W hW => works_any W) ?_
    · rintro e w' ⟨rfl, hx⟩
      exact ⟨by rw [decide_eq_true rfl], hx⟩
    · rintro e w' ⟨rfl, hx⟩
      exact ⟨by rw [decide_eq_true rfl], hx⟩
    · rintro e w' ⟨rfl, hx⟩
      exact ⟨by rw [decide_eq_true rfl], hx⟩
    intro w8 v1 v3 v8 v18 v28 v36 e8 _ _ _ _ _ _
    have hdr : cs9Reg.toList.drop 39 = [] := List.drop_eq_nil_of_le (by rw [Array.length_toList]; exact Nat.le_of_eq (by kernel_rfl))
    rw [hdr]
    simp only [wpList, puts, List.foldl_cons, List.foldl_nil, Act.put, List.setIfInBounds_toArray, List.set_cons_succ, List.set_cons_zero]
    have HF := Lib.hid (HE.out.trans e8)
    clear hdr e8
    go_wp2
    go_ret
    exact ⟨rfl, HF.out⟩
end Go.Proofs.Ytadmbccclaffjaa
