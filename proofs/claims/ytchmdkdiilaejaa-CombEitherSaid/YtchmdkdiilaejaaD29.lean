/- Texts of one package, joined: EitherReg, Either. -/
import Derived.Test.YtchmdkdiilaejaaD26
/- CombEither: its regions with calls; plain mathematics of it. -/
namespace Go.Proofs.Ytchmdkdiilaejaa
open Go.RowKit Go.Shelf
attribute [local irreducible] bitCells fitCells Z94 fitOf

theorem whole_lost {cs ms : List (Int × Int)} (h0 : sheetErr cs ms = 0) : wholeErr cs ms = 0 ↔ (lostOf cs ms).length = 0 := by
  unfold wholeErr
  rw [if_pos h0]
  by_cases h : (lostOf cs ms).length = 0
  · simp [h]
  · simp [h]
theorem has_err {cs ms : List (Int × Int)} (h0 : sheetErr cs ms = 0) {k : Nat} (hk : k < cs.length) (x : Int) : hasErr cs ms ((k : Int), x) = if x ∈ atsOf cs ms k then 0 else 19 := by
  have hst : strange cs.length ((k : Int), x) = false := by
    rw [strange_iff]
    dsimp only
    omega
  unfold hasErr
  rw [if_pos h0, hst, if_neg (by decide), fitFor_eq h0 hk x]
  have hm : x ∈ atsOf cs ms k ↔ bitsOf cs ms k x ≠ 0 := by
    unfold atsOf
    rw [mem_nums]
    constructor
    · rintro ⟨i, _, hf, rfl⟩
      unfold fitB at hf
      exact of_decide_eq_true hf
    · intro hb
      obtain ⟨_, m2, _⟩ := fits_mem h0 (fits_has h0 hk hb)
      dsimp only at m2
      refine ⟨x.toNat, by omega, ?_, by omega⟩
      unfold fitB
      rw [decide_eq_true_eq, show ((x.toNat : Nat) : Int) = x from by omega]
      exact hb
  by_cases hb : bitsOf cs ms k x = 0
  · rw [if_pos hb, if_pos rfl, if_neg (fun h => hm.1 h hb)]
  · rw [if_neg hb, if_neg (by simp), if_pos (hm.2 hb)]
theorem ats_fit {cs ms : List (Int × Int)} (h0 : sheetErr cs ms = 0) {k : Nat} (hk : k < cs.length) {x : Int} (hx : x ∈ atsOf cs ms k) : ((k, x) : Rw) ∈ fitsOf cs ms ∧ hasOf cs ms ((k : Int), x) = numsTo (hadB cs ms k x) ms.length := by
  have he := has_err h0 hk x
  rw [if_pos hx] at he
  have hb : bitsOf cs ms k x ≠ 0 := by
    unfold atsOf at hx
    rw [mem_nums] at hx
    obtain ⟨i, _, hf, rfl⟩ := hx
    unfold fitB at hf
    exact of_decide_eq_true hf
  refine ⟨fits_has h0 hk hb, ?_⟩
  unfold hasOf
  rw [fitFor_eq h0 hk x, if_neg hb]
  rfl
theorem has_some {cs ms : List (Int × Int)} (h0 : sheetErr cs ms = 0) {k : Nat} {x : Int} (hx : ((k, x) : Rw) ∈ fitsOf cs ms) : 1 ≤ (numsTo (hadB cs ms k x) ms.length).length := by
  obtain ⟨_, _, _, m4⟩ := fits_mem h0 hx
  obtain ⟨i, hi⟩ := Nat.exists_testBit_of_ne_zero m4
  rw [noOf_bit, Bool.and_eq_true] at hi
  have : (i : Int) ∈ numsTo (hadB cs ms k x) ms.length := (mem_nums _ _ _).2 ⟨i, had_lt hi.2, hi.2, rfl⟩
  exact List.length_pos_of_mem this
/-- A mark that a row has is not lost. -/
theorem had_not_lost {cs ms : List (Int × Int)} {k : Nat} {x : Int} (hx : ((k, x) : Rw) ∈ fitsOf cs ms) {v : Int} (hv : v ∈ numsTo (hadB cs ms k x) ms.length) : 0 ≤ v ∧ v < (ms.length : Int) ∧ ¬ v ∈ lostOf cs ms := by
  obtain ⟨i, hi, hh, rfl⟩ := (mem_nums _ _ _).1 hv
  refine ⟨by omega, by omega, fun hl => ?_⟩
  unfold lostOf at hl
  obtain ⟨j, _, hn, hj⟩ := (mem_nums _ _ _).1 hl
  have : i = j := by omega
  subst this
  unfold noneHas at hn
  rw [List.all_eq_true] at hn
  have := hn _ hx
  dsimp only at this
  rw [hh] at this
  cases this
/-- The marks of a row, as bits. -/
theorem had_bits {cs ms : List (Int × Int)} (h12 : ms.length ≤ 12) (k : Nat) (x : Int) : marksNo ((numsTo (hadB cs ms k x) ms.length).map Int.toNat) = noOf cs ms (k, x) := by
  apply Nat.eq_of_testBit_eq
  intro i
  rw [marksNo_bit, noOf_bit, Bool.eq_iff_iff, decide_eq_true_eq, Bool.and_eq_true, decide_eq_true_eq]
  constructor
  · intro h
    obtain ⟨v, hv, rfl⟩ := List.mem_map.1 h
    obtain ⟨j, hj, hh, rfl⟩ := (mem_nums _ _ _).1 hv
    rw [Int.toNat_natCast]
    exact ⟨by omega, hh⟩
  · rintro ⟨h1, h2⟩
    exact List.mem_map.2 ⟨(i : Int), (mem_nums _ _ _).2 ⟨i, had_lt h2, h2, rfl⟩, by simp⟩
theorem marksNo_or (a : Nat) : ∀ (l : List Nat), l.foldl (fun a j => a ||| 2 ^ j) a = a ||| marksNo l := by
  intro l
  apply Nat.eq_of_testBit_eq
  intro i
  rw [Nat.testBit_or, marksNo_bit]
  have key : ∀ (js : List Nat) (a : Nat), (js.foldl (fun a j => a ||| 2 ^ j) a).testBit i = (a.testBit i || decide (i ∈ js)) := by
    intro js
    induction js with
    | nil => intro a; simp
    | cons j js ih =>
      intro a
      rw [List.foldl_cons, ih, Nat.testBit_or, Nat.testBit_two_pow]
      by_cases e : j = i
      · subst e; simp
      · have e2 : ¬ i = j := fun h => e h.symm
        simp [e, e2]
  exact key l a
/-- All marks: those that are had, and those that are lost. -/
theorem had_lost {cs ms : List (Int × Int)} (h0 : sheetErr cs ms = 0) : (numsTo (fun i => (orNos cs ms (fitsOf cs ms)).testBit i) 12).length + (lostOf cs ms).length = ms.length := by
  have h12 := (sheet_ok h0).1.2.2
  have h1 : numsTo (fun i => (orNos cs ms (fitsOf cs ms)).testBit i) 12 = numsTo (fun i => !noneHas cs ms (fitsOf cs ms) i) ms.length := by
    refine sorted_eq _ _ (nums_sorted _ _) (nums_sorted _ _) fun x => ?_
    rw [mem_nums, mem_nums]
    have hb : ∀ i, (orNos cs ms (fitsOf cs ms)).testBit i = true ↔ i < 12 ∧ noneHas cs ms (fitsOf cs ms) i = false := fun i => by
      rw [or_bit, List.any_eq_true]
      unfold noneHas
      rw [List.all_eq_false]
      constructor
      · rintro ⟨y, hy, hbb⟩
        rw [noOf_bit, Bool.and_eq_true, decide_eq_true_eq] at hbb
        exact ⟨hbb.1, y, hy, by rw [hbb.2]; decide⟩
      · rintro ⟨hi, y, hy, hbb⟩
        refine ⟨y, hy, ?_⟩
        rw [noOf_bit, decide_eq_true hi, Bool.true_and]
        cases h : hadB cs ms y.1 y.2 i with
        | true => rfl
        | false => rw [h] at hbb; exact absurd rfl hbb
    constructor
    · rintro ⟨i, _, h, rfl⟩
      obtain ⟨h2, h3⟩ := (hb i).1 h
      refine ⟨i, ?_, by rw [h3]; rfl, rfl⟩
      unfold noneHas at h3
      rw [List.all_eq_false] at h3
      obtain ⟨y, _, hbb⟩ := h3
      cases h : hadB cs ms y.1 y.2 i with
      | true => exact had_lt h
      | false => rw [h] at hbb; exact absurd rfl hbb
    · rintro ⟨i, hi, h, rfl⟩
      refine ⟨i, by omega, (hb i).2 ⟨by omega, by simpa using h⟩, rfl⟩
  rw [h1]
  unfold lostOf numsTo
  rw [List.length_map, List.length_map]
  have key : ∀ (l : List Nat) (q : Nat → Bool), (l.filter fun i => !q i).length + (l.filter q).length = l.length := by
    intro l q
    induction l with
    | nil => rfl
    | cons a l ih =>
      rw [List.filter_cons, List.filter_cons]
      cases q a <;> simp <;> omega
  rw [key, List.length_range]

/-- The slots of region 12 of function 8. -/
def ei12D (i : Nat) : Tmp := if i = 0 then 83 else if i = 1 then 84 else if i = 2 then 85 else if i = 3 then 86 else if i = 4 then 87 else if i = 5 then 82 else if i = 6 then 88 else if i = 7 then 89 else if i = 8 then 15 else 16
/-- What each operation yields. -/
def ei12S (_p : Nat) (A : Option Addr) (n c : Nat) (A' : Option Addr) (n' c' kk mm : Nat) (x er : Int) (hs : List Int) (ix : Nat) (v : Value) (W : World) : Prop :=
  match ix with
  | 0 => v = .agg #[.slice A n c, .slice A' n' c']
  | 1 => v = .int .i64 (kk : Int)
  | 2 => v = .int .i64 x
  | 3 => v = .agg #[.int .i64 (kk : Int), .int .i64 x]
  | 4 => ∃ A9 c9, v = .tuple #[.slice A9 mm c9, .int .i64 er] ∧ Held W W.heap.size 1 encI A9 hs
  | 5 => ∃ A9 c9, v = .tuple #[.slice A9 mm c9, .int .i64 er] ∧ Held W W.heap.size 1 encI A9 hs
  | 6 => ∃ A9 c9, v = .slice A9 mm c9 ∧ Held W W.heap.size 1 encI A9 hs
  | 7 => v = .int .i64 er
  | 8 => ∃ A9 c9, v = .slice A9 mm c9 ∧ Held W W.heap.size 1 encI A9 hs
  | 9 => v = .int .i64 er
  | _ => True
noncomputable def ei12Reg : Array Oper := (Try.f8.body.bind (regionOf · 12)).getD #[]
theorem ei12S_ext {p : Nat} {A : Option Addr} {n c : Nat} {A' : Option Addr} {n' c' kk mm : Nat} {x er : Int} {hs : List Int} : ∀ (i : Nat) (v : Value) (W W' : World), ei12S p A n c A' n' c' kk mm x er hs i v W → Below W.heap.size W W' → ei12S p A n c A' n' c' kk mm x er hs i v W' := by
  intro i v W W' h e
  match i with
  | 0 => exact h
  | 1 => exact h
  | 2 => exact h
  | 3 => exact h
  | 4 => (obtain ⟨A9, c9, h1, h2⟩ := h; exact ⟨A9, c9, h1, Held.ext h2 e⟩)
  | 5 => (obtain ⟨A9, c9, h1, h2⟩ := h; exact ⟨A9, c9, h1, Held.ext h2 e⟩)
  | 6 => (obtain ⟨A9, c9, h1, h2⟩ := h; exact ⟨A9, c9, h1, Held.ext h2 e⟩)
  | 7 => exact h
  | 8 => (obtain ⟨A9, c9, h1, h2⟩ := h; exact ⟨A9, c9, h1, Held.ext h2 e⟩)
  | 9 => exact h
  | k + 10 => exact trivial
def ei12Ok (p : Nat) (A : Option Addr) (n c : Nat) (A' : Option Addr) (n' c' kk mm : Nat) (x er : Int) (hs : List Int) (Q : Exit → Act → World → Prop) (a : Act) (W : World) (ix : Nat) (o : Oper) : Prop :=
  (∀ j b, o.guard = some (j, b) → a.eval (.tmp (ei12D j)) = .bool b) ∧ o.wp Try.prog a W (fun a'' W' => ∃ v, a'' = a.put o.dst v ∧ ei12S p A n c A' n' c' kk mm x er hs ix v W' ∧ Below W.heap.size W W') Q
section
variable {p : Nat} {A : Option Addr} {n c : Nat} {A' : Option Addr} {n' c' kk mm : Nat} {x er : Int} {hs : List Int} {Q : Exit → Act → World → Prop} {a : Act} {V W : World} {o : Oper}
set_option maxHeartbeats 1000000 in
theorem ei12_op0 (o3 : a.eval (.tmp 3) = .pointer (some ⟨p, 0, none⟩)) (q0 : ∀ W, Ext V W → W.cell? ⟨p, 0, none⟩ = some (.slice A n c)) (q1 : ∀ W, Ext V W → W.cell? ⟨p, 1, none⟩ = some (.slice A' n' c')) (hB : Ext V W) (ho : ei12Reg[0]? = some o) : ei12Ok p A n c A' n' c' kk mm x er hs Q a W 0 o := by
  have hop := op_at ho (·.op) (x := Op.load 25 (Operand.tmp 3)) (by kernel_rfl)
  have hgd := op_at ho (·.guard) (x := none) (by kernel_rfl)
  refine ⟨fun j b h => (by rw [hgd] at h; cases h), ?_⟩
  have q0' := q0 W hB
  have q1' := q1 W hB
  exact specs_value (R := fun v W => ei12S p A n c A' n' c' kk mm x er hs 0 v W) (v := .agg #[.slice A n c, .slice A' n' c']) (by simp [execOp, hop, go_sem, ev o3, q0', q1']) rfl (Ext.refl W)
set_option maxHeartbeats 1000000 in
theorem ei12_op1 (o12 : a.eval (.tmp 12) = .int .i64 (kk : Int)) (ho : ei12Reg[1]? = some o) : ei12Ok p A n c A' n' c' kk mm x er hs Q a W 1 o := by
  have hop := op_at ho (·.op) (x := Op.move (Operand.tmp 12)) (by kernel_rfl)
  have hgd := op_at ho (·.guard) (x := none) (by kernel_rfl)
  refine ⟨fun j b h => (by rw [hgd] at h; cases h), ?_⟩
  exact specs_value (R := fun v W => ei12S p A n c A' n' c' kk mm x er hs 1 v W) (v := .int .i64 (kk : Int)) (by simp [execOp, hop, go_sem, ev o12]) rfl (Ext.refl W)
set_option maxHeartbeats 1000000 in
theorem ei12_op2 (o2 : a.eval (.tmp 2) = .int .i64 x) (ho : ei12Reg[2]? = some o) : ei12Ok p A n c A' n' c' kk mm x er hs Q a W 2 o := by
  have hop := op_at ho (·.op) (x := Op.move (Operand.tmp 2)) (by kernel_rfl)
  have hgd := op_at ho (·.guard) (x := none) (by kernel_rfl)
  refine ⟨fun j b h => (by rw [hgd] at h; cases h), ?_⟩
  exact specs_value (R := fun v W => ei12S p A n c A' n' c' kk mm x er hs 2 v W) (v := .int .i64 x) (by simp [execOp, hop, go_sem, ev o2]) rfl (Ext.refl W)
set_option maxHeartbeats 1000000 in
theorem ei12_op3 (haft : ∀ j, (o.after.any fun e => decide (e.on = j) && Region.binds .any e) = true → ei12S p A n c A' n' c' kk mm x er hs j (a.eval (.tmp (ei12D j))) W) (ho : ei12Reg[3]? = some o) : ei12Ok p A n c A' n' c' kk mm x er hs Q a W 3 o := by
  have hop := op_at ho (·.op) (x := Op.call { callee := Callee.value (Operand.func 43), args := #[Operand.tmp 84, Operand.tmp 85], argTypes := #[3, 2] }) (by kernel_rfl)
  have hgd := op_at ho (·.guard) (x := none) (by kernel_rfl)
  have e1 : a.eval (.tmp 84) = .int .i64 (kk : Int) := haft 1 (op_at ho (fun o => o.after.any fun e => decide (e.on = 1) && Region.binds .any e) (x := true) (by kernel_rfl))
  have e2 : a.eval (.tmp 85) = .int .i64 x := haft 2 (op_at ho (fun o => o.after.any fun e => decide (e.on = 2) && Region.binds .any e) (x := true) (by kernel_rfl))
  refine ⟨fun j b h => (by rw [hgd] at h; cases h), ?_⟩
  refine specs_call (R := fun v W => ei12S p A n c A' n' c' kk mm x er hs 3 v W) (f := 43) (args := #[.int .i64 (kk : Int), .int .i64 x]) (by simp [execOp, hop, go_sem, ev e1, ev e2]) ((row_any (kk : Int) x W).mono ?_)
  rintro e w' ⟨rfl, h3⟩
  exact ⟨_, rfl, rfl, h3⟩
set_option maxHeartbeats 1000000 in
theorem ei12_op4 (hcall : ∀ W, Ext V W → Calls Try.prog 17 #[.agg #[.slice A n c, .slice A' n' c'], .agg #[.int .i64 (kk : Int), .int .i64 x]] W fun e w' => ∃ A9 c9, e = .returned (.tuple #[.slice A9 mm c9, .int .i64 er]) ∧ Held w' w'.heap.size 1 encI A9 hs ∧ Ext W w') (hB : Ext V W) (haft : ∀ j, (o.after.any fun e => decide (e.on = j) && Region.binds .any e) = true → ei12S p A n c A' n' c' kk mm x er hs j (a.eval (.tmp (ei12D j))) W) (ho : ei12Reg[4]? = some o) : ei12Ok p A n c A' n' c' kk mm x er hs Q a W 4 o := by
  have hop := op_at ho (·.op) (x := Op.call { callee := Callee.value (Operand.func 17), args := #[Operand.tmp 83, Operand.tmp 86], argTypes := #[25, 27] }) (by kernel_rfl)
  have hgd := op_at ho (·.guard) (x := none) (by kernel_rfl)
  have e0 : a.eval (.tmp 83) = .agg #[.slice A n c, .slice A' n' c'] := haft 0 (op_at ho (fun o => o.after.any fun e => decide (e.on = 0) && Region.binds .any e) (x := true) (by kernel_rfl))
  have e3 : ei12S p A n c A' n' c' kk mm x er hs 3 (a.eval (.tmp 86)) W := haft 3 (op_at ho (fun o => o.after.any fun e => decide (e.on = 3) && Region.binds .any e) (x := true) (by kernel_rfl))
  refine ⟨fun j b h => (by rw [hgd] at h; cases h), ?_⟩
  have eR : a.eval (.tmp 86) = .agg #[.int .i64 (kk : Int), .int .i64 x] := e3
  refine specs_call (R := fun v W => ei12S p A n c A' n' c' kk mm x er hs 4 v W) (f := 17) (args := #[.agg #[.slice A n c, .slice A' n' c'], .agg #[.int .i64 (kk : Int), .int .i64 x]]) (by simp [execOp, hop, go_sem, ev e0, ev eR]) ((hcall W hB).mono ?_)
  rintro e w' ⟨A9, c9, rfl, h1, h3⟩
  exact ⟨_, rfl, ⟨A9, c9, rfl, h1⟩, h3⟩
set_option maxHeartbeats 1000000 in
theorem ei12_op5 (haft : ∀ j, (o.after.any fun e => decide (e.on = j) && Region.binds .any e) = true → ei12S p A n c A' n' c' kk mm x er hs j (a.eval (.tmp (ei12D j))) W) (ho : ei12Reg[5]? = some o) : ei12Ok p A n c A' n' c' kk mm x er hs Q a W 5 o := by
  have hop := op_at ho (·.op) (x := Op.move (Operand.tmp 87)) (by kernel_rfl)
  have hgd := op_at ho (·.guard) (x := none) (by kernel_rfl)
  have e4 : ei12S p A n c A' n' c' kk mm x er hs 4 (a.eval (.tmp 87)) W := haft 4 (op_at ho (fun o => o.after.any fun e => decide (e.on = 4) && Region.binds .any e) (x := true) (by kernel_rfl))
  refine ⟨fun j b h => (by rw [hgd] at h; cases h), ?_⟩
  exact specs_value (R := fun v W => ei12S p A n c A' n' c' kk mm x er hs 5 v W) (v := a.eval (.tmp 87)) (by simp [execOp, hop, go_sem]) e4 (Ext.refl W)
set_option maxHeartbeats 1000000 in
theorem ei12_op6 (haft : ∀ j, (o.after.any fun e => decide (e.on = j) && Region.binds .any e) = true → ei12S p A n c A' n' c' kk mm x er hs j (a.eval (.tmp (ei12D j))) W) (ho : ei12Reg[6]? = some o) : ei12Ok p A n c A' n' c' kk mm x er hs Q a W 6 o := by
  have hop := op_at ho (·.op) (x := Op.extract (Operand.tmp 82) 0) (by kernel_rfl)
  have hgd := op_at ho (·.guard) (x := none) (by kernel_rfl)
  have e5 : ei12S p A n c A' n' c' kk mm x er hs 5 (a.eval (.tmp 82)) W := haft 5 (op_at ho (fun o => o.after.any fun e => decide (e.on = 5) && Region.binds .any e) (x := true) (by kernel_rfl))
  refine ⟨fun j b h => (by rw [hgd] at h; cases h), ?_⟩
  obtain ⟨A9, c9, hv, h1⟩ := e5
  exact specs_value (R := fun v W => ei12S p A n c A' n' c' kk mm x er hs 6 v W) (v := .slice A9 mm c9) (by simp [execOp, hop, go_sem, ev hv]) ⟨A9, c9, rfl, h1⟩ (Ext.refl W)
set_option maxHeartbeats 1000000 in
theorem ei12_op7 (haft : ∀ j, (o.after.any fun e => decide (e.on = j) && Region.binds .any e) = true → ei12S p A n c A' n' c' kk mm x er hs j (a.eval (.tmp (ei12D j))) W) (ho : ei12Reg[7]? = some o) : ei12Ok p A n c A' n' c' kk mm x er hs Q a W 7 o := by
  have hop := op_at ho (·.op) (x := Op.extract (Operand.tmp 82) 1) (by kernel_rfl)
  have hgd := op_at ho (·.guard) (x := none) (by kernel_rfl)
  have e5 : ei12S p A n c A' n' c' kk mm x er hs 5 (a.eval (.tmp 82)) W := haft 5 (op_at ho (fun o => o.after.any fun e => decide (e.on = 5) && Region.binds .any e) (x := true) (by kernel_rfl))
  refine ⟨fun j b h => (by rw [hgd] at h; cases h), ?_⟩
  obtain ⟨A9, c9, hv, h1⟩ := e5
  exact specs_value (R := fun v W => ei12S p A n c A' n' c' kk mm x er hs 7 v W) (v := .int .i64 er) (by simp [execOp, hop, go_sem, ev hv]) rfl (Ext.refl W)
set_option maxHeartbeats 1000000 in
theorem ei12_op8 (haft : ∀ j, (o.after.any fun e => decide (e.on = j) && Region.binds .any e) = true → ei12S p A n c A' n' c' kk mm x er hs j (a.eval (.tmp (ei12D j))) W) (ho : ei12Reg[8]? = some o) : ei12Ok p A n c A' n' c' kk mm x er hs Q a W 8 o := by
  have hop := op_at ho (·.op) (x := Op.assign (Operand.tmp 88)) (by kernel_rfl)
  have hgd := op_at ho (·.guard) (x := none) (by kernel_rfl)
  have e6 : ei12S p A n c A' n' c' kk mm x er hs 6 (a.eval (.tmp 88)) W := haft 6 (op_at ho (fun o => o.after.any fun e => decide (e.on = 6) && Region.binds .any e) (x := true) (by kernel_rfl))
  refine ⟨fun j b h => (by rw [hgd] at h; cases h), ?_⟩
  exact specs_value (R := fun v W => ei12S p A n c A' n' c' kk mm x er hs 8 v W) (v := a.eval (.tmp 88)) (by simp [execOp, hop, go_sem]) e6 (Ext.refl W)
set_option maxHeartbeats 1000000 in
theorem ei12_op9 (haft : ∀ j, (o.after.any fun e => decide (e.on = j) && Region.binds .any e) = true → ei12S p A n c A' n' c' kk mm x er hs j (a.eval (.tmp (ei12D j))) W) (ho : ei12Reg[9]? = some o) : ei12Ok p A n c A' n' c' kk mm x er hs Q a W 9 o := by
  have hop := op_at ho (·.op) (x := Op.assign (Operand.tmp 89)) (by kernel_rfl)
  have hgd := op_at ho (·.guard) (x := none) (by kernel_rfl)
  have e7 : a.eval (.tmp 89) = .int .i64 er := haft 7 (op_at ho (fun o => o.after.any fun e => decide (e.on = 7) && Region.binds .any e) (x := true) (by kernel_rfl))
  refine ⟨fun j b h => (by rw [hgd] at h; cases h), ?_⟩
  exact specs_value (R := fun v W => ei12S p A n c A' n' c' kk mm x er hs 9 v W) (v := .int .i64 er) (by simp [execOp, hop, go_sem, ev e7]) rfl (Ext.refl W)
set_option maxRecDepth 100000 in
set_option maxHeartbeats 4000000 in
/-- Region 12 of function 8. -/
theorem ei12_wp {id : Nat} (hlen : a.tmps.size = 197) (o2 : a.eval (.tmp 2) = .int .i64 x) (o3 : a.eval (.tmp 3) = .pointer (some ⟨p, 0, none⟩)) (o12 : a.eval (.tmp 12) = .int .i64 (kk : Int)) (q0 : ∀ W, Ext V W → W.cell? ⟨p, 0, none⟩ = some (.slice A n c)) (q1 : ∀ W, Ext V W → W.cell? ⟨p, 1, none⟩ = some (.slice A' n' c')) (hcall : ∀ W, Ext V W → Calls Try.prog 17 #[.agg #[.slice A n c, .slice A' n' c'], .agg #[.int .i64 (kk : Int), .int .i64 x]] W fun e w' => ∃ A9 c9, e = .returned (.tuple #[.slice A9 mm c9, .int .i64 er]) ∧ Held w' w'.heap.size 1 encI A9 hs ∧ Ext W w') (K : (∀ W v3 v4 v5 v6 v8, Ext V W → ei12S p A n c A' n' c' kk mm x er hs 3 v3 W → ei12S p A n c A' n' c' kk mm x er hs 4 v4 W → ei12S p A n c A' n' c' kk mm x er hs 5 v5 W → ei12S p A n c A' n' c' kk mm x er hs 6 v6 W → ei12S p A n c A' n' c' kk mm x er hs 8 v8 W → wpList Try.prog ei12Reg Q (ei12Reg.toList.drop 10) (puts a [(83, .agg #[.slice A n c, .slice A' n' c']), (84, .int .i64 (kk : Int)), (85, .int .i64 x), (86, v3), (87, v4), (82, v5), (88, v6), (89, .int .i64 er), (15, v8), (16, .int .i64 er)]) W)) : (Code.region id ei12Reg true).wp Try.prog Q a V := by
  refine wp_region_specs_free (ops := ei12Reg) 10 (ei12S p A n c A' n' c' kk mm x er hs) (Ext V) (by kernel_rfl) (by rw [hlen]; kernel_rfl) (by kernel_rfl) ⟨rfl, rfl, rfl, Nat.le_refl _, fun _ _ => rfl⟩ (fun _ _ h e => h.trans e) ei12S_ext ei12D (by kernel_rfl) ?_ ?_
  · intro i o hi ho a' W hB hsz hold haft
    match i, hi with
    | 0, _ => exact ei12_op0 ((hold 3 (by kernel_rfl)).trans o3) q0 q1 hB ho
    | 1, _ => exact ei12_op1 ((hold 12 (by kernel_rfl)).trans o12) ho
    | 2, _ => exact ei12_op2 ((hold 2 (by kernel_rfl)).trans o2) ho
    | 3, _ => exact ei12_op3 haft ho
    | 4, _ => exact ei12_op4 hcall hB haft ho
    | 5, _ => exact ei12_op5 haft ho
    | 6, _ => exact ei12_op6 haft ho
    | 7, _ => exact ei12_op7 haft ho
    | 8, _ => exact ei12_op8 haft ho
    | 9, _ => exact ei12_op9 haft ho
    | m + 10, h => exact absurd h (by omega)
  · intro a1 W hB hsz hdf hold hS
    obtain ⟨v3, g3⟩ : ∃ v, v = a1.eval (.tmp 86) := ⟨_, rfl⟩
    obtain ⟨v4, g4⟩ : ∃ v, v = a1.eval (.tmp 87) := ⟨_, rfl⟩
    obtain ⟨v5, g5⟩ : ∃ v, v = a1.eval (.tmp 82) := ⟨_, rfl⟩
    obtain ⟨v6, g6⟩ : ∃ v, v = a1.eval (.tmp 88) := ⟨_, rfl⟩
    obtain ⟨v8, g8⟩ : ∃ v, v = a1.eval (.tmp 15) := ⟨_, rfl⟩
    have hall : ∀ z, z ∈ ([(83, .agg #[.slice A n c, .slice A' n' c']), (84, .int .i64 (kk : Int)), (85, .int .i64 x), (86, v3), (87, v4), (82, v5), (88, v6), (89, .int .i64 er), (15, v8), (16, .int .i64 er)] : List (Tmp × Value)) → z.1 < a.tmps.size ∧ a1.eval (.tmp z.1) = z.2 := by
      intro z hz
      rw [hlen]
      simp only [List.mem_cons, List.not_mem_nil, or_false] at hz
      rcases hz with rfl | rfl | rfl | rfl | rfl | rfl | rfl | rfl | rfl | rfl
      · exact ⟨(show (83 : Nat) < 197 by omega), hS 0 (by omega)⟩
      · exact ⟨(show (84 : Nat) < 197 by omega), hS 1 (by omega)⟩
      · exact ⟨(show (85 : Nat) < 197 by omega), hS 2 (by omega)⟩
      · exact ⟨(show (86 : Nat) < 197 by omega), g3.symm⟩
      · exact ⟨(show (87 : Nat) < 197 by omega), g4.symm⟩
      · exact ⟨(show (82 : Nat) < 197 by omega), g5.symm⟩
      · exact ⟨(show (88 : Nat) < 197 by omega), g6.symm⟩
      · exact ⟨(show (89 : Nat) < 197 by omega), hS 7 (by omega)⟩
      · exact ⟨(show (15 : Nat) < 197 by omega), g8.symm⟩
      · exact ⟨(show (16 : Nat) < 197 by omega), hS 9 (by omega)⟩
    have ha := act_puts hsz hdf hall (fun t ht => hold t (all_ne_of (l := [(83, .agg #[.slice A n c, .slice A' n' c']), (84, .int .i64 (kk : Int)), (85, .int .i64 x), (86, v3), (87, v4), (82, v5), (88, v6), (89, .int .i64 er), (15, v8), (16, .int .i64 er)]) (by kernel_rfl) ht))
    rw [ha]
    exact K W v3 v4 v5 v6 v8 hB (by rw [g3]; exact hS 3 (by omega)) (by rw [g4]; exact hS 4 (by omega)) (by rw [g5]; exact hS 5 (by omega)) (by rw [g6]; exact hS 6 (by omega)) (by rw [g8]; exact hS 8 (by omega))
end

/-- The slots of region 18 of function 8. -/
def ei18D (i : Nat) : Tmp := if i = 0 then 115 else if i = 1 then 116 else if i = 2 then 117 else if i = 3 then 118 else if i = 4 then 119 else if i = 5 then 120 else if i = 6 then 121 else if i = 7 then 122 else if i = 8 then 114 else if i = 9 then 123 else if i = 10 then 124 else if i = 11 then 18 else 19
/-- What each operation yields. -/
def ei18S (_p : Nat) (A : Option Addr) (n c : Nat) (A' : Option Addr) (n' c' kk mm g of ln cl jj : Nat) (x er : Int) (hs : List Int) (ix : Nat) (v : Value) (W : World) : Prop :=
  match ix with
  | 0 => v = .agg #[.slice A n c, .slice A' n' c']
  | 1 => v = .int .i64 (kk : Int)
  | 2 => v = .slice (some ⟨g, of, none⟩) ln cl
  | 3 => v = .int .i64 (jj : Int)
  | 4 => v = .pointer (some ⟨g, of + jj, none⟩)
  | 5 => v = .int .i64 x
  | 6 => v = .agg #[.int .i64 (kk : Int), .int .i64 x]
  | 7 => ∃ A9 c9, v = .tuple #[.slice A9 mm c9, .int .i64 er] ∧ Held W W.heap.size 1 encI A9 hs
  | 8 => ∃ A9 c9, v = .tuple #[.slice A9 mm c9, .int .i64 er] ∧ Held W W.heap.size 1 encI A9 hs
  | 9 => ∃ A9 c9, v = .slice A9 mm c9 ∧ Held W W.heap.size 1 encI A9 hs
  | 10 => v = .int .i64 er
  | 11 => ∃ A9 c9, v = .slice A9 mm c9 ∧ Held W W.heap.size 1 encI A9 hs
  | 12 => v = .int .i64 er
  | _ => True
noncomputable def ei18Reg : Array Oper := (Try.f8.body.bind (regionOf · 18)).getD #[]
theorem ei18S_ext {p : Nat} {A : Option Addr} {n c : Nat} {A' : Option Addr} {n' c' kk mm g of ln cl jj : Nat} {x er : Int} {hs : List Int} : ∀ (i : Nat) (v : Value) (W W' : World), ei18S p A n c A' n' c' kk mm g of ln cl jj x er hs i v W → Below W.heap.size W W' → ei18S p A n c A' n' c' kk mm g of ln cl jj x er hs i v W' := by
  intro i v W W' h e
  match i with
  | 0 => exact h
  | 1 => exact h
  | 2 => exact h
  | 3 => exact h
  | 4 => exact h
  | 5 => exact h
  | 6 => exact h
  | 7 => (obtain ⟨A9, c9, h1, h2⟩ := h; exact ⟨A9, c9, h1, Held.ext h2 e⟩)
  | 8 => (obtain ⟨A9, c9, h1, h2⟩ := h; exact ⟨A9, c9, h1, Held.ext h2 e⟩)
  | 9 => (obtain ⟨A9, c9, h1, h2⟩ := h; exact ⟨A9, c9, h1, Held.ext h2 e⟩)
  | 10 => exact h
  | 11 => (obtain ⟨A9, c9, h1, h2⟩ := h; exact ⟨A9, c9, h1, Held.ext h2 e⟩)
  | 12 => exact h
  | k + 13 => exact trivial
def ei18Ok (p : Nat) (A : Option Addr) (n c : Nat) (A' : Option Addr) (n' c' kk mm g of ln cl jj : Nat) (x er : Int) (hs : List Int) (Q : Exit → Act → World → Prop) (a : Act) (W : World) (ix : Nat) (o : Oper) : Prop :=
  (∀ j b, o.guard = some (j, b) → a.eval (.tmp (ei18D j)) = .bool b) ∧ o.wp Try.prog a W (fun a'' W' => ∃ v, a'' = a.put o.dst v ∧ ei18S p A n c A' n' c' kk mm g of ln cl jj x er hs ix v W' ∧ Below W.heap.size W W') Q
section
variable {p : Nat} {A : Option Addr} {n c : Nat} {A' : Option Addr} {n' c' kk mm g of ln cl jj : Nat} {x er : Int} {hs : List Int} {Q : Exit → Act → World → Prop} {a : Act} {V W : World} {o : Oper}
set_option maxHeartbeats 1000000 in
theorem ei18_op0 (o3 : a.eval (.tmp 3) = .pointer (some ⟨p, 0, none⟩)) (q0 : ∀ W, Ext V W → W.cell? ⟨p, 0, none⟩ = some (.slice A n c)) (q1 : ∀ W, Ext V W → W.cell? ⟨p, 1, none⟩ = some (.slice A' n' c')) (hB : Ext V W) (ho : ei18Reg[0]? = some o) : ei18Ok p A n c A' n' c' kk mm g of ln cl jj x er hs Q a W 0 o := by
  have hop := op_at ho (·.op) (x := Op.load 25 (Operand.tmp 3)) (by kernel_rfl)
  have hgd := op_at ho (·.guard) (x := none) (by kernel_rfl)
  refine ⟨fun j b h => (by rw [hgd] at h; cases h), ?_⟩
  have q0' := q0 W hB
  have q1' := q1 W hB
  exact specs_value (R := fun v W => ei18S p A n c A' n' c' kk mm g of ln cl jj x er hs 0 v W) (v := .agg #[.slice A n c, .slice A' n' c']) (by simp [execOp, hop, go_sem, ev o3, q0', q1']) rfl (Ext.refl W)
set_option maxHeartbeats 1000000 in
theorem ei18_op1 (o12 : a.eval (.tmp 12) = .int .i64 (kk : Int)) (ho : ei18Reg[1]? = some o) : ei18Ok p A n c A' n' c' kk mm g of ln cl jj x er hs Q a W 1 o := by
  have hop := op_at ho (·.op) (x := Op.move (Operand.tmp 12)) (by kernel_rfl)
  have hgd := op_at ho (·.guard) (x := none) (by kernel_rfl)
  refine ⟨fun j b h => (by rw [hgd] at h; cases h), ?_⟩
  exact specs_value (R := fun v W => ei18S p A n c A' n' c' kk mm g of ln cl jj x er hs 1 v W) (v := .int .i64 (kk : Int)) (by simp [execOp, hop, go_sem, ev o12]) rfl (Ext.refl W)
set_option maxHeartbeats 1000000 in
theorem ei18_op2 (o13 : a.eval (.tmp 13) = .slice (some ⟨g, of, none⟩) ln cl) (ho : ei18Reg[2]? = some o) : ei18Ok p A n c A' n' c' kk mm g of ln cl jj x er hs Q a W 2 o := by
  have hop := op_at ho (·.op) (x := Op.move (Operand.tmp 13)) (by kernel_rfl)
  have hgd := op_at ho (·.guard) (x := none) (by kernel_rfl)
  refine ⟨fun j b h => (by rw [hgd] at h; cases h), ?_⟩
  exact specs_value (R := fun v W => ei18S p A n c A' n' c' kk mm g of ln cl jj x er hs 2 v W) (v := .slice (some ⟨g, of, none⟩) ln cl) (by simp [execOp, hop, go_sem, ev o13]) rfl (Ext.refl W)
set_option maxHeartbeats 1000000 in
theorem ei18_op3 (o17 : a.eval (.tmp 17) = .int .i64 (jj : Int)) (ho : ei18Reg[3]? = some o) : ei18Ok p A n c A' n' c' kk mm g of ln cl jj x er hs Q a W 3 o := by
  have hop := op_at ho (·.op) (x := Op.move (Operand.tmp 17)) (by kernel_rfl)
  have hgd := op_at ho (·.guard) (x := none) (by kernel_rfl)
  refine ⟨fun j b h => (by rw [hgd] at h; cases h), ?_⟩
  exact specs_value (R := fun v W => ei18S p A n c A' n' c' kk mm g of ln cl jj x er hs 3 v W) (v := .int .i64 (jj : Int)) (by simp [execOp, hop, go_sem, ev o17]) rfl (Ext.refl W)
set_option maxHeartbeats 1000000 in
theorem ei18_op4 (hj : jj < ln) (haft : ∀ j, (o.after.any fun e => decide (e.on = j) && Region.binds .any e) = true → ei18S p A n c A' n' c' kk mm g of ln cl jj x er hs j (a.eval (.tmp (ei18D j))) W) (ho : ei18Reg[4]? = some o) : ei18Ok p A n c A' n' c' kk mm g of ln cl jj x er hs Q a W 4 o := by
  have hop := op_at ho (·.op) (x := Op.indexAddr 34 (Operand.tmp 117) (Operand.tmp 118)) (by kernel_rfl)
  have hgd := op_at ho (·.guard) (x := none) (by kernel_rfl)
  have e2 : a.eval (.tmp 117) = .slice (some ⟨g, of, none⟩) ln cl := haft 2 (op_at ho (fun o => o.after.any fun e => decide (e.on = 2) && Region.binds .any e) (x := true) (by kernel_rfl))
  have e3 : a.eval (.tmp 118) = .int .i64 (jj : Int) := haft 3 (op_at ho (fun o => o.after.any fun e => decide (e.on = 3) && Region.binds .any e) (x := true) (by kernel_rfl))
  refine ⟨fun j b h => (by rw [hgd] at h; cases h), ?_⟩
  have hjz : (jj : Int) < (ln : Int) := by omega
  exact specs_value (R := fun v W => ei18S p A n c A' n' c' kk mm g of ln cl jj x er hs 4 v W) (v := .pointer (some ⟨g, of + jj, none⟩)) (by simp [execOp, hop, go_sem, ev e2, ev e3, hjz]) rfl (Ext.refl W)
set_option maxHeartbeats 1000000 in
theorem ei18_op5 (c0 : ∀ W, Ext V W → W.cell? ⟨g, of + jj, none⟩ = some (.int .i64 x)) (hB : Ext V W) (haft : ∀ j, (o.after.any fun e => decide (e.on = j) && Region.binds .any e) = true → ei18S p A n c A' n' c' kk mm g of ln cl jj x er hs j (a.eval (.tmp (ei18D j))) W) (ho : ei18Reg[5]? = some o) : ei18Ok p A n c A' n' c' kk mm g of ln cl jj x er hs Q a W 5 o := by
  have hop := op_at ho (·.op) (x := Op.load 2 (Operand.tmp 119)) (by kernel_rfl)
  have hgd := op_at ho (·.guard) (x := none) (by kernel_rfl)
  have e4 : a.eval (.tmp 119) = .pointer (some ⟨g, of + jj, none⟩) := haft 4 (op_at ho (fun o => o.after.any fun e => decide (e.on = 4) && Region.binds .any e) (x := true) (by kernel_rfl))
  refine ⟨fun j b h => (by rw [hgd] at h; cases h), ?_⟩
  have c0' := c0 W hB
  exact specs_value (R := fun v W => ei18S p A n c A' n' c' kk mm g of ln cl jj x er hs 5 v W) (v := .int .i64 x) (by simp [execOp, hop, go_sem, ev e4, c0']) rfl (Ext.refl W)
set_option maxHeartbeats 1000000 in
theorem ei18_op6 (haft : ∀ j, (o.after.any fun e => decide (e.on = j) && Region.binds .any e) = true → ei18S p A n c A' n' c' kk mm g of ln cl jj x er hs j (a.eval (.tmp (ei18D j))) W) (ho : ei18Reg[6]? = some o) : ei18Ok p A n c A' n' c' kk mm g of ln cl jj x er hs Q a W 6 o := by
  have hop := op_at ho (·.op) (x := Op.call { callee := Callee.value (Operand.func 43), args := #[Operand.tmp 116, Operand.tmp 120], argTypes := #[3, 2] }) (by kernel_rfl)
  have hgd := op_at ho (·.guard) (x := none) (by kernel_rfl)
  have e1 : a.eval (.tmp 116) = .int .i64 (kk : Int) := haft 1 (op_at ho (fun o => o.after.any fun e => decide (e.on = 1) && Region.binds .any e) (x := true) (by kernel_rfl))
  have e5 : a.eval (.tmp 120) = .int .i64 x := haft 5 (op_at ho (fun o => o.after.any fun e => decide (e.on = 5) && Region.binds .any e) (x := true) (by kernel_rfl))
  refine ⟨fun j b h => (by rw [hgd] at h; cases h), ?_⟩
  refine specs_call (R := fun v W => ei18S p A n c A' n' c' kk mm g of ln cl jj x er hs 6 v W) (f := 43) (args := #[.int .i64 (kk : Int), .int .i64 x]) (by simp [execOp, hop, go_sem, ev e1, ev e5]) ((row_any (kk : Int) x W).mono ?_)
  rintro e w' ⟨rfl, h3⟩
  exact ⟨_, rfl, rfl, h3⟩
set_option maxHeartbeats 1000000 in
theorem ei18_op7 (hcall : ∀ W, Ext V W → Calls Try.prog 17 #[.agg #[.slice A n c, .slice A' n' c'], .agg #[.int .i64 (kk : Int), .int .i64 x]] W fun e w' => ∃ A9 c9, e = .returned (.tuple #[.slice A9 mm c9, .int .i64 er]) ∧ Held w' w'.heap.size 1 encI A9 hs ∧ Ext W w') (hB : Ext V W) (haft : ∀ j, (o.after.any fun e => decide (e.on = j) && Region.binds .any e) = true → ei18S p A n c A' n' c' kk mm g of ln cl jj x er hs j (a.eval (.tmp (ei18D j))) W) (ho : ei18Reg[7]? = some o) : ei18Ok p A n c A' n' c' kk mm g of ln cl jj x er hs Q a W 7 o := by
  have hop := op_at ho (·.op) (x := Op.call { callee := Callee.value (Operand.func 17), args := #[Operand.tmp 115, Operand.tmp 121], argTypes := #[25, 27] }) (by kernel_rfl)
  have hgd := op_at ho (·.guard) (x := none) (by kernel_rfl)
  have e0 : a.eval (.tmp 115) = .agg #[.slice A n c, .slice A' n' c'] := haft 0 (op_at ho (fun o => o.after.any fun e => decide (e.on = 0) && Region.binds .any e) (x := true) (by kernel_rfl))
  have e6 : ei18S p A n c A' n' c' kk mm g of ln cl jj x er hs 6 (a.eval (.tmp 121)) W := haft 6 (op_at ho (fun o => o.after.any fun e => decide (e.on = 6) && Region.binds .any e) (x := true) (by kernel_rfl))
  refine ⟨fun j b h => (by rw [hgd] at h; cases h), ?_⟩
  have eR : a.eval (.tmp 121) = .agg #[.int .i64 (kk : Int), .int .i64 x] := e6
  refine specs_call (R := fun v W => ei18S p A n c A' n' c' kk mm g of ln cl jj x er hs 7 v W) (f := 17) (args := #[.agg #[.slice A n c, .slice A' n' c'], .agg #[.int .i64 (kk : Int), .int .i64 x]]) (by simp [execOp, hop, go_sem, ev e0, ev eR]) ((hcall W hB).mono ?_)
  rintro e w' ⟨A9, c9, rfl, h1, h3⟩
  exact ⟨_, rfl, ⟨A9, c9, rfl, h1⟩, h3⟩
set_option maxHeartbeats 1000000 in
theorem ei18_op8 (haft : ∀ j, (o.after.any fun e => decide (e.on = j) && Region.binds .any e) = true → ei18S p A n c A' n' c' kk mm g of ln cl jj x er hs j (a.eval (.tmp (ei18D j))) W) (ho : ei18Reg[8]? = some o) : ei18Ok p A n c A' n' c' kk mm g of ln cl jj x er hs Q a W 8 o := by
  have hop := op_at ho (·.op) (x := Op.move (Operand.tmp 122)) (by kernel_rfl)
  have hgd := op_at ho (·.guard) (x := none) (by kernel_rfl)
  have e7 : ei18S p A n c A' n' c' kk mm g of ln cl jj x er hs 7 (a.eval (.tmp 122)) W := haft 7 (op_at ho (fun o => o.after.any fun e => decide (e.on = 7) && Region.binds .any e) (x := true) (by kernel_rfl))
  refine ⟨fun j b h => (by rw [hgd] at h; cases h), ?_⟩
  exact specs_value (R := fun v W => ei18S p A n c A' n' c' kk mm g of ln cl jj x er hs 8 v W) (v := a.eval (.tmp 122)) (by simp [execOp, hop, go_sem]) e7 (Ext.refl W)
set_option maxHeartbeats 1000000 in
theorem ei18_op9 (haft : ∀ j, (o.after.any fun e => decide (e.on = j) && Region.binds .any e) = true → ei18S p A n c A' n' c' kk mm g of ln cl jj x er hs j (a.eval (.tmp (ei18D j))) W) (ho : ei18Reg[9]? = some o) : ei18Ok p A n c A' n' c' kk mm g of ln cl jj x er hs Q a W 9 o := by
  have hop := op_at ho (·.op) (x := Op.extract (Operand.tmp 114) 0) (by kernel_rfl)
  have hgd := op_at ho (·.guard) (x := none) (by kernel_rfl)
  have e8 : ei18S p A n c A' n' c' kk mm g of ln cl jj x er hs 8 (a.eval (.tmp 114)) W := haft 8 (op_at ho (fun o => o.after.any fun e => decide (e.on = 8) && Region.binds .any e) (x := true) (by kernel_rfl))
  refine ⟨fun j b h => (by rw [hgd] at h; cases h), ?_⟩
  obtain ⟨A9, c9, hv, h1⟩ := e8
  exact specs_value (R := fun v W => ei18S p A n c A' n' c' kk mm g of ln cl jj x er hs 9 v W) (v := .slice A9 mm c9) (by simp [execOp, hop, go_sem, ev hv]) ⟨A9, c9, rfl, h1⟩ (Ext.refl W)
set_option maxHeartbeats 1000000 in
theorem ei18_op10 (haft : ∀ j, (o.after.any fun e => decide (e.on = j) && Region.binds .any e) = true → ei18S p A n c A' n' c' kk mm g of ln cl jj x er hs j (a.eval (.tmp (ei18D j))) W) (ho : ei18Reg[10]? = some o) : ei18Ok p A n c A' n' c' kk mm g of ln cl jj x er hs Q a W 10 o := by
  have hop := op_at ho (·.op) (x := Op.extract (Operand.tmp 114) 1) (by kernel_rfl)
  have hgd := op_at ho (·.guard) (x := none) (by kernel_rfl)
  have e8 : ei18S p A n c A' n' c' kk mm g of ln cl jj x er hs 8 (a.eval (.tmp 114)) W := haft 8 (op_at ho (fun o => o.after.any fun e => decide (e.on = 8) && Region.binds .any e) (x := true) (by kernel_rfl))
  refine ⟨fun j b h => (by rw [hgd] at h; cases h), ?_⟩
  obtain ⟨A9, c9, hv, h1⟩ := e8
  exact specs_value (R := fun v W => ei18S p A n c A' n' c' kk mm g of ln cl jj x er hs 10 v W) (v := .int .i64 er) (by simp [execOp, hop, go_sem, ev hv]) rfl (Ext.refl W)
set_option maxHeartbeats 1000000 in
theorem ei18_op11 (haft : ∀ j, (o.after.any fun e => decide (e.on = j) && Region.binds .any e) = true → ei18S p A n c A' n' c' kk mm g of ln cl jj x er hs j (a.eval (.tmp (ei18D j))) W) (ho : ei18Reg[11]? = some o) : ei18Ok p A n c A' n' c' kk mm g of ln cl jj x er hs Q a W 11 o := by
  have hop := op_at ho (·.op) (x := Op.assign (Operand.tmp 123)) (by kernel_rfl)
  have hgd := op_at ho (·.guard) (x := none) (by kernel_rfl)
  have e9 : ei18S p A n c A' n' c' kk mm g of ln cl jj x er hs 9 (a.eval (.tmp 123)) W := haft 9 (op_at ho (fun o => o.after.any fun e => decide (e.on = 9) && Region.binds .any e) (x := true) (by kernel_rfl))
  refine ⟨fun j b h => (by rw [hgd] at h; cases h), ?_⟩
  exact specs_value (R := fun v W => ei18S p A n c A' n' c' kk mm g of ln cl jj x er hs 11 v W) (v := a.eval (.tmp 123)) (by simp [execOp, hop, go_sem]) e9 (Ext.refl W)
set_option maxHeartbeats 1000000 in
theorem ei18_op12 (haft : ∀ j, (o.after.any fun e => decide (e.on = j) && Region.binds .any e) = true → ei18S p A n c A' n' c' kk mm g of ln cl jj x er hs j (a.eval (.tmp (ei18D j))) W) (ho : ei18Reg[12]? = some o) : ei18Ok p A n c A' n' c' kk mm g of ln cl jj x er hs Q a W 12 o := by
  have hop := op_at ho (·.op) (x := Op.assign (Operand.tmp 124)) (by kernel_rfl)
  have hgd := op_at ho (·.guard) (x := none) (by kernel_rfl)
  have e10 : a.eval (.tmp 124) = .int .i64 er := haft 10 (op_at ho (fun o => o.after.any fun e => decide (e.on = 10) && Region.binds .any e) (x := true) (by kernel_rfl))
  refine ⟨fun j b h => (by rw [hgd] at h; cases h), ?_⟩
  exact specs_value (R := fun v W => ei18S p A n c A' n' c' kk mm g of ln cl jj x er hs 12 v W) (v := .int .i64 er) (by simp [execOp, hop, go_sem, ev e10]) rfl (Ext.refl W)
set_option maxRecDepth 100000 in
set_option maxHeartbeats 4000000 in
/-- Region 18 of function 8. -/
theorem ei18_wp {id : Nat} (hlen : a.tmps.size = 197) (o3 : a.eval (.tmp 3) = .pointer (some ⟨p, 0, none⟩)) (o12 : a.eval (.tmp 12) = .int .i64 (kk : Int)) (o13 : a.eval (.tmp 13) = .slice (some ⟨g, of, none⟩) ln cl) (o17 : a.eval (.tmp 17) = .int .i64 (jj : Int)) (q0 : ∀ W, Ext V W → W.cell? ⟨p, 0, none⟩ = some (.slice A n c)) (q1 : ∀ W, Ext V W → W.cell? ⟨p, 1, none⟩ = some (.slice A' n' c')) (hj : jj < ln) (c0 : ∀ W, Ext V W → W.cell? ⟨g, of + jj, none⟩ = some (.int .i64 x)) (hcall : ∀ W, Ext V W → Calls Try.prog 17 #[.agg #[.slice A n c, .slice A' n' c'], .agg #[.int .i64 (kk : Int), .int .i64 x]] W fun e w' => ∃ A9 c9, e = .returned (.tuple #[.slice A9 mm c9, .int .i64 er]) ∧ Held w' w'.heap.size 1 encI A9 hs ∧ Ext W w') (K : (∀ W v6 v7 v8 v9 v11, Ext V W → ei18S p A n c A' n' c' kk mm g of ln cl jj x er hs 6 v6 W → ei18S p A n c A' n' c' kk mm g of ln cl jj x er hs 7 v7 W → ei18S p A n c A' n' c' kk mm g of ln cl jj x er hs 8 v8 W → ei18S p A n c A' n' c' kk mm g of ln cl jj x er hs 9 v9 W → ei18S p A n c A' n' c' kk mm g of ln cl jj x er hs 11 v11 W → wpList Try.prog ei18Reg Q (ei18Reg.toList.drop 13) (puts a [(115, .agg #[.slice A n c, .slice A' n' c']), (116, .int .i64 (kk : Int)), (117, .slice (some ⟨g, of, none⟩) ln cl), (118, .int .i64 (jj : Int)), (119, .pointer (some ⟨g, of + jj, none⟩)), (120, .int .i64 x), (121, v6), (122, v7), (114, v8), (123, v9), (124, .int .i64 er), (18, v11), (19, .int .i64 er)]) W)) : (Code.region id ei18Reg true).wp Try.prog Q a V := by
  refine wp_region_specs_free (ops := ei18Reg) 13 (ei18S p A n c A' n' c' kk mm g of ln cl jj x er hs) (Ext V) (by kernel_rfl) (by rw [hlen]; kernel_rfl) (by kernel_rfl) ⟨rfl, rfl, rfl, Nat.le_refl _, fun _ _ => rfl⟩ (fun _ _ h e => h.trans e) ei18S_ext ei18D (by kernel_rfl) ?_ ?_
  · intro i o hi ho a' W hB hsz hold haft
    match i, hi with
    | 0, _ => exact ei18_op0 ((hold 3 (by kernel_rfl)).trans o3) q0 q1 hB ho
    | 1, _ => exact ei18_op1 ((hold 12 (by kernel_rfl)).trans o12) ho
    | 2, _ => exact ei18_op2 ((hold 13 (by kernel_rfl)).trans o13) ho
    | 3, _ => exact ei18_op3 ((hold 17 (by kernel_rfl)).trans o17) ho
    | 4, _ => exact ei18_op4 hj haft ho
    | 5, _ => exact ei18_op5 c0 hB haft ho
    | 6, _ => exact ei18_op6 haft ho
    | 7, _ => exact ei18_op7 hcall hB haft ho
    | 8, _ => exact ei18_op8 haft ho
    | 9, _ => exact ei18_op9 haft ho
    | 10, _ => exact ei18_op10 haft ho
    | 11, _ => exact ei18_op11 haft ho
    | 12, _ => exact ei18_op12 haft ho
    | m + 13, h => exact absurd h (by omega)
  · intro a1 W hB hsz hdf hold hS
    obtain ⟨v6, g6⟩ : ∃ v, v = a1.eval (.tmp 121) := ⟨_, rfl⟩
    obtain ⟨v7, g7⟩ : ∃ v, v = a1.eval (.tmp 122) := ⟨_, rfl⟩
    obtain ⟨v8, g8⟩ : ∃ v, v = a1.eval (.tmp 114) := ⟨_, rfl⟩
    obtain ⟨v9, g9⟩ : ∃ v, v = a1.eval (.tmp 123) := ⟨_, rfl⟩
    obtain ⟨v11, g11⟩ : ∃ v, v = a1.eval (.tmp 18) := ⟨_, rfl⟩
    have hall : ∀ z, z ∈ ([(115, .agg #[.slice A n c, .slice A' n' c']), (116, .int .i64 (kk : Int)), (117, .slice (some ⟨g, of, none⟩) ln cl), (118, .int .i64 (jj : Int)), (119, .pointer (some ⟨g, of + jj, none⟩)), (120, .int .i64 x), (121, v6), (122, v7), (114, v8), (123, v9), (124, .int .i64 er), (18, v11), (19, .int .i64 er)] : List (Tmp × Value)) → z.1 < a.tmps.size ∧ a1.eval (.tmp z.1) = z.2 := by
      intro z hz
      rw [hlen]
      simp only [List.mem_cons, List.not_mem_nil, or_false] at hz
      rcases hz with rfl | rfl | rfl | rfl | rfl | rfl | rfl | rfl | rfl | rfl | rfl | rfl | rfl
      · exact ⟨(show (115 : Nat) < 197 by omega), hS 0 (by omega)⟩
      · exact ⟨(show (116 : Nat) < 197 by omega), hS 1 (by omega)⟩
      · exact ⟨(show (117 : Nat) < 197 by omega), hS 2 (by omega)⟩
      · exact ⟨(show (118 : Nat) < 197 by omega), hS 3 (by omega)⟩
      · exact ⟨(show (119 : Nat) < 197 by omega), hS 4 (by omega)⟩
      · exact ⟨(show (120 : Nat) < 197 by omega), hS 5 (by omega)⟩
      · exact ⟨(show (121 : Nat) < 197 by omega), g6.symm⟩
      · exact ⟨(show (122 : Nat) < 197 by omega), g7.symm⟩
      · exact ⟨(show (114 : Nat) < 197 by omega), g8.symm⟩
      · exact ⟨(show (123 : Nat) < 197 by omega), g9.symm⟩
      · exact ⟨(show (124 : Nat) < 197 by omega), hS 10 (by omega)⟩
      · exact ⟨(show (18 : Nat) < 197 by omega), g11.symm⟩
      · exact ⟨(show (19 : Nat) < 197 by omega), hS 12 (by omega)⟩
    have ha := act_puts hsz hdf hall (fun t ht => hold t (all_ne_of (l := [(115, .agg #[.slice A n c, .slice A' n' c']), (116, .int .i64 (kk : Int)), (117, .slice (some ⟨g, of, none⟩) ln cl), (118, .int .i64 (jj : Int)), (119, .pointer (some ⟨g, of + jj, none⟩)), (120, .int .i64 x), (121, v6), (122, v7), (114, v8), (123, v9), (124, .int .i64 er), (18, v11), (19, .int .i64 er)]) (by kernel_rfl) ht))
    rw [ha]
    exact K W v6 v7 v8 v9 v11 hB (by rw [g6]; exact hS 6 (by omega)) (by rw [g7]; exact hS 7 (by omega)) (by rw [g8]; exact hS 8 (by omega)) (by rw [g9]; exact hS 9 (by omega)) (by rw [g11]; exact hS 11 (by omega))
end

/-- The slots of region 24 of function 8. -/
def ei24D (i : Nat) : Tmp := if i = 0 then 154 else if i = 1 then 155 else if i = 2 then 156 else if i = 3 then 157 else if i = 4 then 158 else if i = 5 then 159 else if i = 6 then 160 else if i = 7 then 161 else if i = 8 then 162 else if i = 9 then 163 else if i = 10 then 164 else if i = 11 then 165 else if i = 12 then 166 else if i = 13 then 167 else if i = 14 then 168 else if i = 15 then 169 else if i = 16 then 170 else if i = 17 then 171 else if i = 18 then 172 else if i = 19 then 173 else if i = 20 then 174 else if i = 21 then 175 else 176
/-- What each operation yields. -/
def ei24S (p : Nat) (A' : Option Addr) (n' c' g of ln cl jj : Nat) (vl : Value) (x : Int) (ix : Nat) (v : Value) (_W : World) : Prop :=
  match ix with
  | 0 => v = .slice (some ⟨g, of, none⟩) ln cl
  | 1 => v = .int .i64 (jj : Int)
  | 2 => v = .pointer (some ⟨g, of + jj, none⟩)
  | 3 => v = .int .i64 x
  | 4 => v = .bool false
  | 5 => v = .bool false
  | 6 => v = .slice (some ⟨g, of, none⟩) ln cl
  | 7 => v = .int .i64 (jj : Int)
  | 8 => v = .pointer (some ⟨g, of + jj, none⟩)
  | 9 => v = .int .i64 x
  | 10 => v = .pointer (some ⟨p, 1, none⟩)
  | 11 => v = .slice A' n' c'
  | 12 => v = .int .i64 (n' : Int)
  | 13 => v = .bool false
  | 14 => v = .bool false
  | 15 => v = .bool false
  | 16 => v = vl
  | 17 => v = .slice (some ⟨g, of, none⟩) ln cl
  | 18 => v = .int .i64 (jj : Int)
  | 19 => v = .pointer (some ⟨g, of + jj, none⟩)
  | 20 => v = .int .i64 x
  | 21 => v = .bool false
  | 22 => v = .bool false
  | _ => True
noncomputable def ei24Reg : Array Oper := (Try.f8.body.bind (regionOf · 24)).getD #[]
theorem ei24S_ext {p : Nat} {A' : Option Addr} {n' c' g of ln cl jj : Nat} {vl : Value} {x : Int} : ∀ (i : Nat) (v : Value) (W W' : World), ei24S p A' n' c' g of ln cl jj vl x i v W → Below W.heap.size W W' → ei24S p A' n' c' g of ln cl jj vl x i v W' := by
  intro i v W W' h e
  match i with
  | 0 => exact h
  | 1 => exact h
  | 2 => exact h
  | 3 => exact h
  | 4 => exact h
  | 5 => exact h
  | 6 => exact h
  | 7 => exact h
  | 8 => exact h
  | 9 => exact h
  | 10 => exact h
  | 11 => exact h
  | 12 => exact h
  | 13 => exact h
  | 14 => exact h
  | 15 => exact h
  | 16 => exact h
  | 17 => exact h
  | 18 => exact h
  | 19 => exact h
  | 20 => exact h
  | 21 => exact h
  | 22 => exact h
  | k + 23 => exact trivial
def ei24Ok (p : Nat) (A' : Option Addr) (n' c' g of ln cl jj : Nat) (vl : Value) (x : Int) (Q : Exit → Act → World → Prop) (a : Act) (W : World) (ix : Nat) (o : Oper) : Prop :=
  (∀ j b, o.guard = some (j, b) → a.eval (.tmp (ei24D j)) = .bool b) ∧ o.wp Try.prog a W (fun a'' W' => ∃ v, a'' = a.put o.dst v ∧ ei24S p A' n' c' g of ln cl jj vl x ix v W' ∧ Below W.heap.size W W') Q
section
variable {p : Nat} {A' : Option Addr} {n' c' g of ln cl jj : Nat} {vl : Value} {x : Int} {Q : Exit → Act → World → Prop} {a : Act} {V W : World} {o : Oper}
set_option maxHeartbeats 1000000 in
theorem ei24_op0 (o18 : a.eval (.tmp 18) = .slice (some ⟨g, of, none⟩) ln cl) (ho : ei24Reg[0]? = some o) : ei24Ok p A' n' c' g of ln cl jj vl x Q a W 0 o := by
  have hop := op_at ho (·.op) (x := Op.move (Operand.tmp 18)) (by kernel_rfl)
  have hgd := op_at ho (·.guard) (x := none) (by kernel_rfl)
  refine ⟨fun j b h => (by rw [hgd] at h; cases h), ?_⟩
  exact specs_value (R := fun v W => ei24S p A' n' c' g of ln cl jj vl x 0 v W) (v := .slice (some ⟨g, of, none⟩) ln cl) (by simp [execOp, hop, go_sem, ev o18]) rfl (Ext.refl W)
set_option maxHeartbeats 1000000 in
theorem ei24_op1 (o20 : a.eval (.tmp 20) = .int .i64 (jj : Int)) (ho : ei24Reg[1]? = some o) : ei24Ok p A' n' c' g of ln cl jj vl x Q a W 1 o := by
  have hop := op_at ho (·.op) (x := Op.move (Operand.tmp 20)) (by kernel_rfl)
  have hgd := op_at ho (·.guard) (x := none) (by kernel_rfl)
  refine ⟨fun j b h => (by rw [hgd] at h; cases h), ?_⟩
  exact specs_value (R := fun v W => ei24S p A' n' c' g of ln cl jj vl x 1 v W) (v := .int .i64 (jj : Int)) (by simp [execOp, hop, go_sem, ev o20]) rfl (Ext.refl W)
set_option maxHeartbeats 1000000 in
theorem ei24_op2 (hj : jj < ln) (haft : ∀ j, (o.after.any fun e => decide (e.on = j) && Region.binds .any e) = true → ei24S p A' n' c' g of ln cl jj vl x j (a.eval (.tmp (ei24D j))) W) (ho : ei24Reg[2]? = some o) : ei24Ok p A' n' c' g of ln cl jj vl x Q a W 2 o := by
  have hop := op_at ho (·.op) (x := Op.indexAddr 30 (Operand.tmp 154) (Operand.tmp 155)) (by kernel_rfl)
  have hgd := op_at ho (·.guard) (x := none) (by kernel_rfl)
  have e0 : a.eval (.tmp 154) = .slice (some ⟨g, of, none⟩) ln cl := haft 0 (op_at ho (fun o => o.after.any fun e => decide (e.on = 0) && Region.binds .any e) (x := true) (by kernel_rfl))
  have e1 : a.eval (.tmp 155) = .int .i64 (jj : Int) := haft 1 (op_at ho (fun o => o.after.any fun e => decide (e.on = 1) && Region.binds .any e) (x := true) (by kernel_rfl))
  refine ⟨fun j b h => (by rw [hgd] at h; cases h), ?_⟩
  have hjz : (jj : Int) < (ln : Int) := by omega
  exact specs_value (R := fun v W => ei24S p A' n' c' g of ln cl jj vl x 2 v W) (v := .pointer (some ⟨g, of + jj, none⟩)) (by simp [execOp, hop, go_sem, ev e0, ev e1, hjz]) rfl (Ext.refl W)
set_option maxHeartbeats 1000000 in
theorem ei24_op3 (c0 : ∀ W, Ext V W → W.cell? ⟨g, of + jj, none⟩ = some (.int .i64 x)) (hB : Ext V W) (haft : ∀ j, (o.after.any fun e => decide (e.on = j) && Region.binds .any e) = true → ei24S p A' n' c' g of ln cl jj vl x j (a.eval (.tmp (ei24D j))) W) (ho : ei24Reg[3]? = some o) : ei24Ok p A' n' c' g of ln cl jj vl x Q a W 3 o := by
  have hop := op_at ho (·.op) (x := Op.load 3 (Operand.tmp 156)) (by kernel_rfl)
  have hgd := op_at ho (·.guard) (x := none) (by kernel_rfl)
  have e2 : a.eval (.tmp 156) = .pointer (some ⟨g, of + jj, none⟩) := haft 2 (op_at ho (fun o => o.after.any fun e => decide (e.on = 2) && Region.binds .any e) (x := true) (by kernel_rfl))
  refine ⟨fun j b h => (by rw [hgd] at h; cases h), ?_⟩
  have c0' := c0 W hB
  exact specs_value (R := fun v W => ei24S p A' n' c' g of ln cl jj vl x 3 v W) (v := .int .i64 x) (by simp [execOp, hop, go_sem, ev e2, c0']) rfl (Ext.refl W)
set_option maxHeartbeats 1000000 in
theorem ei24_op4 (hx0 : ¬ x < 0) (haft : ∀ j, (o.after.any fun e => decide (e.on = j) && Region.binds .any e) = true → ei24S p A' n' c' g of ln cl jj vl x j (a.eval (.tmp (ei24D j))) W) (ho : ei24Reg[4]? = some o) : ei24Ok p A' n' c' g of ln cl jj vl x Q a W 4 o := by
  have hop := op_at ho (·.op) (x := Op.binOp BinOp.lss 3 (Operand.tmp 157) (Operand.const (Value.int IntKind.i64 0)) 3) (by kernel_rfl)
  have hgd := op_at ho (·.guard) (x := none) (by kernel_rfl)
  have e3 : a.eval (.tmp 157) = .int .i64 x := haft 3 (op_at ho (fun o => o.after.any fun e => decide (e.on = 3) && Region.binds .any e) (x := true) (by kernel_rfl))
  refine ⟨fun j b h => (by rw [hgd] at h; cases h), ?_⟩
  exact specs_value (R := fun v W => ei24S p A' n' c' g of ln cl jj vl x 4 v W) (v := .bool false) (by simp [execOp, hop, go_sem, ev e3, hx0]) rfl (Ext.refl W)
set_option maxHeartbeats 1000000 in
theorem ei24_op5 (haft : ∀ j, (o.after.any fun e => decide (e.on = j) && Region.binds .any e) = true → ei24S p A' n' c' g of ln cl jj vl x j (a.eval (.tmp (ei24D j))) W) (ho : ei24Reg[5]? = some o) : ei24Ok p A' n' c' g of ln cl jj vl x Q a W 5 o := by
  have hop := op_at ho (·.op) (x := Op.move (Operand.tmp 158)) (by kernel_rfl)
  have hgd := op_at ho (·.guard) (x := none) (by kernel_rfl)
  have e4 : a.eval (.tmp 158) = .bool false := haft 4 (op_at ho (fun o => o.after.any fun e => decide (e.on = 4) && Region.binds .any e) (x := true) (by kernel_rfl))
  refine ⟨fun j b h => (by rw [hgd] at h; cases h), ?_⟩
  exact specs_value (R := fun v W => ei24S p A' n' c' g of ln cl jj vl x 5 v W) (v := .bool false) (by simp [execOp, hop, go_sem, ev e4]) rfl (Ext.refl W)
set_option maxHeartbeats 1000000 in
theorem ei24_op6 (o18 : a.eval (.tmp 18) = .slice (some ⟨g, of, none⟩) ln cl) (haft : ∀ j, (o.after.any fun e => decide (e.on = j) && Region.binds .any e) = true → ei24S p A' n' c' g of ln cl jj vl x j (a.eval (.tmp (ei24D j))) W) (ho : ei24Reg[6]? = some o) : ei24Ok p A' n' c' g of ln cl jj vl x Q a W 6 o := by
  have hop := op_at ho (·.op) (x := Op.move (Operand.tmp 18)) (by kernel_rfl)
  have hgd := op_at ho (·.guard) (x := some (5, false)) (by kernel_rfl)
  have e5 : a.eval (.tmp 159) = .bool false := haft 5 (op_at ho (fun o => o.after.any fun e => decide (e.on = 5) && Region.binds .any e) (x := true) (by kernel_rfl))
  refine ⟨fun j b h => (by rw [hgd] at h; cases h; exact e5), ?_⟩
  exact specs_value (R := fun v W => ei24S p A' n' c' g of ln cl jj vl x 6 v W) (v := .slice (some ⟨g, of, none⟩) ln cl) (by simp [execOp, hop, go_sem, ev o18]) rfl (Ext.refl W)
set_option maxHeartbeats 1000000 in
theorem ei24_op7 (o20 : a.eval (.tmp 20) = .int .i64 (jj : Int)) (haft : ∀ j, (o.after.any fun e => decide (e.on = j) && Region.binds .any e) = true → ei24S p A' n' c' g of ln cl jj vl x j (a.eval (.tmp (ei24D j))) W) (ho : ei24Reg[7]? = some o) : ei24Ok p A' n' c' g of ln cl jj vl x Q a W 7 o := by
  have hop := op_at ho (·.op) (x := Op.move (Operand.tmp 20)) (by kernel_rfl)
  have hgd := op_at ho (·.guard) (x := some (5, false)) (by kernel_rfl)
  have e5 : a.eval (.tmp 159) = .bool false := haft 5 (op_at ho (fun o => o.after.any fun e => decide (e.on = 5) && Region.binds .any e) (x := true) (by kernel_rfl))
  refine ⟨fun j b h => (by rw [hgd] at h; cases h; exact e5), ?_⟩
  exact specs_value (R := fun v W => ei24S p A' n' c' g of ln cl jj vl x 7 v W) (v := .int .i64 (jj : Int)) (by simp [execOp, hop, go_sem, ev o20]) rfl (Ext.refl W)
set_option maxHeartbeats 1000000 in
theorem ei24_op8 (hj : jj < ln) (haft : ∀ j, (o.after.any fun e => decide (e.on = j) && Region.binds .any e) = true → ei24S p A' n' c' g of ln cl jj vl x j (a.eval (.tmp (ei24D j))) W) (ho : ei24Reg[8]? = some o) : ei24Ok p A' n' c' g of ln cl jj vl x Q a W 8 o := by
  have hop := op_at ho (·.op) (x := Op.indexAddr 30 (Operand.tmp 160) (Operand.tmp 161)) (by kernel_rfl)
  have hgd := op_at ho (·.guard) (x := some (5, false)) (by kernel_rfl)
  have e5 : a.eval (.tmp 159) = .bool false := haft 5 (op_at ho (fun o => o.after.any fun e => decide (e.on = 5) && Region.binds .any e) (x := true) (by kernel_rfl))
  have e6 : a.eval (.tmp 160) = .slice (some ⟨g, of, none⟩) ln cl := haft 6 (op_at ho (fun o => o.after.any fun e => decide (e.on = 6) && Region.binds .any e) (x := true) (by kernel_rfl))
  have e7 : a.eval (.tmp 161) = .int .i64 (jj : Int) := haft 7 (op_at ho (fun o => o.after.any fun e => decide (e.on = 7) && Region.binds .any e) (x := true) (by kernel_rfl))
  refine ⟨fun j b h => (by rw [hgd] at h; cases h; exact e5), ?_⟩
  have hjz : (jj : Int) < (ln : Int) := by omega
  exact specs_value (R := fun v W => ei24S p A' n' c' g of ln cl jj vl x 8 v W) (v := .pointer (some ⟨g, of + jj, none⟩)) (by simp [execOp, hop, go_sem, ev e6, ev e7, hjz]) rfl (Ext.refl W)
set_option maxHeartbeats 1000000 in
theorem ei24_op9 (c0 : ∀ W, Ext V W → W.cell? ⟨g, of + jj, none⟩ = some (.int .i64 x)) (hB : Ext V W) (haft : ∀ j, (o.after.any fun e => decide (e.on = j) && Region.binds .any e) = true → ei24S p A' n' c' g of ln cl jj vl x j (a.eval (.tmp (ei24D j))) W) (ho : ei24Reg[9]? = some o) : ei24Ok p A' n' c' g of ln cl jj vl x Q a W 9 o := by
  have hop := op_at ho (·.op) (x := Op.load 3 (Operand.tmp 162)) (by kernel_rfl)
  have hgd := op_at ho (·.guard) (x := some (5, false)) (by kernel_rfl)
  have e5 : a.eval (.tmp 159) = .bool false := haft 5 (op_at ho (fun o => o.after.any fun e => decide (e.on = 5) && Region.binds .any e) (x := true) (by kernel_rfl))
  have e8 : a.eval (.tmp 162) = .pointer (some ⟨g, of + jj, none⟩) := haft 8 (op_at ho (fun o => o.after.any fun e => decide (e.on = 8) && Region.binds .any e) (x := true) (by kernel_rfl))
  refine ⟨fun j b h => (by rw [hgd] at h; cases h; exact e5), ?_⟩
  have c0' := c0 W hB
  exact specs_value (R := fun v W => ei24S p A' n' c' g of ln cl jj vl x 9 v W) (v := .int .i64 x) (by simp [execOp, hop, go_sem, ev e8, c0']) rfl (Ext.refl W)
set_option maxHeartbeats 1000000 in
theorem ei24_op10 (o3 : a.eval (.tmp 3) = .pointer (some ⟨p, 0, none⟩)) (haft : ∀ j, (o.after.any fun e => decide (e.on = j) && Region.binds .any e) = true → ei24S p A' n' c' g of ln cl jj vl x j (a.eval (.tmp (ei24D j))) W) (ho : ei24Reg[10]? = some o) : ei24Ok p A' n' c' g of ln cl jj vl x Q a W 10 o := by
  have hop := op_at ho (·.op) (x := Op.fieldAddr 25 (Operand.tmp 3) 1) (by kernel_rfl)
  have hgd := op_at ho (·.guard) (x := some (5, false)) (by kernel_rfl)
  have e5 : a.eval (.tmp 159) = .bool false := haft 5 (op_at ho (fun o => o.after.any fun e => decide (e.on = 5) && Region.binds .any e) (x := true) (by kernel_rfl))
  refine ⟨fun j b h => (by rw [hgd] at h; cases h; exact e5), ?_⟩
  exact specs_value (R := fun v W => ei24S p A' n' c' g of ln cl jj vl x 10 v W) (v := .pointer (some ⟨p, 1, none⟩)) (by simp [execOp, hop, go_sem, ev o3]) rfl (Ext.refl W)
set_option maxHeartbeats 1000000 in
theorem ei24_op11 (q1 : ∀ W, Ext V W → W.cell? ⟨p, 1, none⟩ = some (.slice A' n' c')) (hB : Ext V W) (haft : ∀ j, (o.after.any fun e => decide (e.on = j) && Region.binds .any e) = true → ei24S p A' n' c' g of ln cl jj vl x j (a.eval (.tmp (ei24D j))) W) (ho : ei24Reg[11]? = some o) : ei24Ok p A' n' c' g of ln cl jj vl x Q a W 11 o := by
  have hop := op_at ho (·.op) (x := Op.load 23 (Operand.tmp 164)) (by kernel_rfl)
  have hgd := op_at ho (·.guard) (x := some (5, false)) (by kernel_rfl)
  have e5 : a.eval (.tmp 159) = .bool false := haft 5 (op_at ho (fun o => o.after.any fun e => decide (e.on = 5) && Region.binds .any e) (x := true) (by kernel_rfl))
  have e10 : a.eval (.tmp 164) = .pointer (some ⟨p, 1, none⟩) := haft 10 (op_at ho (fun o => o.after.any fun e => decide (e.on = 10) && Region.binds .any e) (x := true) (by kernel_rfl))
  refine ⟨fun j b h => (by rw [hgd] at h; cases h; exact e5), ?_⟩
  have q1' := q1 W hB
  exact specs_value (R := fun v W => ei24S p A' n' c' g of ln cl jj vl x 11 v W) (v := .slice A' n' c') (by simp [execOp, hop, go_sem, ev e10, q1']) rfl (Ext.refl W)
set_option maxHeartbeats 1000000 in
theorem ei24_op12 (haft : ∀ j, (o.after.any fun e => decide (e.on = j) && Region.binds .any e) = true → ei24S p A' n' c' g of ln cl jj vl x j (a.eval (.tmp (ei24D j))) W) (ho : ei24Reg[12]? = some o) : ei24Ok p A' n' c' g of ln cl jj vl x Q a W 12 o := by
  have hop := op_at ho (·.op) (x := Op.call { callee := Callee.builtin Builtin.len, args := #[Operand.tmp 165], argTypes := #[23] }) (by kernel_rfl)
  have hgd := op_at ho (·.guard) (x := some (5, false)) (by kernel_rfl)
  have e5 : a.eval (.tmp 159) = .bool false := haft 5 (op_at ho (fun o => o.after.any fun e => decide (e.on = 5) && Region.binds .any e) (x := true) (by kernel_rfl))
  have e11 : a.eval (.tmp 165) = .slice A' n' c' := haft 11 (op_at ho (fun o => o.after.any fun e => decide (e.on = 11) && Region.binds .any e) (x := true) (by kernel_rfl))
  refine ⟨fun j b h => (by rw [hgd] at h; cases h; exact e5), ?_⟩
  exact specs_value (R := fun v W => ei24S p A' n' c' g of ln cl jj vl x 12 v W) (v := .int .i64 (n' : Int)) (by simp [execOp, hop, go_sem, ev e11]) rfl (Ext.refl W)
set_option maxHeartbeats 1000000 in
theorem ei24_op13 (hx1 : ¬ (n' : Int) ≤ x) (haft : ∀ j, (o.after.any fun e => decide (e.on = j) && Region.binds .any e) = true → ei24S p A' n' c' g of ln cl jj vl x j (a.eval (.tmp (ei24D j))) W) (ho : ei24Reg[13]? = some o) : ei24Ok p A' n' c' g of ln cl jj vl x Q a W 13 o := by
  have hop := op_at ho (·.op) (x := Op.binOp BinOp.geq 3 (Operand.tmp 163) (Operand.tmp 166) 3) (by kernel_rfl)
  have hgd := op_at ho (·.guard) (x := some (5, false)) (by kernel_rfl)
  have e5 : a.eval (.tmp 159) = .bool false := haft 5 (op_at ho (fun o => o.after.any fun e => decide (e.on = 5) && Region.binds .any e) (x := true) (by kernel_rfl))
  have e9 : a.eval (.tmp 163) = .int .i64 x := haft 9 (op_at ho (fun o => o.after.any fun e => decide (e.on = 9) && Region.binds .any e) (x := true) (by kernel_rfl))
  have e12 : a.eval (.tmp 166) = .int .i64 (n' : Int) := haft 12 (op_at ho (fun o => o.after.any fun e => decide (e.on = 12) && Region.binds .any e) (x := true) (by kernel_rfl))
  refine ⟨fun j b h => (by rw [hgd] at h; cases h; exact e5), ?_⟩
  exact specs_value (R := fun v W => ei24S p A' n' c' g of ln cl jj vl x 13 v W) (v := .bool false) (by simp [execOp, hop, go_sem, ev e9, ev e12, hx1]) rfl (Ext.refl W)
set_option maxHeartbeats 1000000 in
theorem ei24_op14 (haft : ∀ j, (o.after.any fun e => decide (e.on = j) && Region.binds .any e) = true → ei24S p A' n' c' g of ln cl jj vl x j (a.eval (.tmp (ei24D j))) W) (ho : ei24Reg[14]? = some o) : ei24Ok p A' n' c' g of ln cl jj vl x Q a W 14 o := by
  have hop := op_at ho (·.op) (x := Op.pick (Operand.tmp 159) (Operand.const (Value.bool true)) (Operand.tmp 167)) (by kernel_rfl)
  have hgd := op_at ho (·.guard) (x := none) (by kernel_rfl)
  have e5 : a.eval (.tmp 159) = .bool false := haft 5 (op_at ho (fun o => o.after.any fun e => decide (e.on = 5) && Region.binds .any e) (x := true) (by kernel_rfl))
  have e13 : a.eval (.tmp 167) = .bool false := haft 13 (op_at ho (fun o => o.after.any fun e => decide (e.on = 13) && Region.binds .any e) (x := true) (by kernel_rfl))
  refine ⟨fun j b h => (by rw [hgd] at h; cases h), ?_⟩
  exact specs_value (R := fun v W => ei24S p A' n' c' g of ln cl jj vl x 14 v W) (v := .bool false) (by simp [execOp, hop, go_sem, ev e5, ev e13]) rfl (Ext.refl W)
set_option maxHeartbeats 1000000 in
theorem ei24_op15 (haft : ∀ j, (o.after.any fun e => decide (e.on = j) && Region.binds .any e) = true → ei24S p A' n' c' g of ln cl jj vl x j (a.eval (.tmp (ei24D j))) W) (ho : ei24Reg[15]? = some o) : ei24Ok p A' n' c' g of ln cl jj vl x Q a W 15 o := by
  have hop := op_at ho (·.op) (x := Op.move (Operand.tmp 168)) (by kernel_rfl)
  have hgd := op_at ho (·.guard) (x := none) (by kernel_rfl)
  have e14 : a.eval (.tmp 168) = .bool false := haft 14 (op_at ho (fun o => o.after.any fun e => decide (e.on = 14) && Region.binds .any e) (x := true) (by kernel_rfl))
  refine ⟨fun j b h => (by rw [hgd] at h; cases h), ?_⟩
  exact specs_value (R := fun v W => ei24S p A' n' c' g of ln cl jj vl x 15 v W) (v := .bool false) (by simp [execOp, hop, go_sem, ev e14]) rfl (Ext.refl W)
set_option maxHeartbeats 1000000 in
theorem ei24_op16 (o7 : a.eval (.tmp 7) = vl) (haft : ∀ j, (o.after.any fun e => decide (e.on = j) && Region.binds .any e) = true → ei24S p A' n' c' g of ln cl jj vl x j (a.eval (.tmp (ei24D j))) W) (ho : ei24Reg[16]? = some o) : ei24Ok p A' n' c' g of ln cl jj vl x Q a W 16 o := by
  have hop := op_at ho (·.op) (x := Op.move (Operand.tmp 7)) (by kernel_rfl)
  have hgd := op_at ho (·.guard) (x := some (15, false)) (by kernel_rfl)
  have e15 : a.eval (.tmp 169) = .bool false := haft 15 (op_at ho (fun o => o.after.any fun e => decide (e.on = 15) && Region.binds .any e) (x := true) (by kernel_rfl))
  refine ⟨fun j b h => (by rw [hgd] at h; cases h; exact e15), ?_⟩
  exact specs_value (R := fun v W => ei24S p A' n' c' g of ln cl jj vl x 16 v W) (v := vl) (by simp [execOp, hop, go_sem, ev o7]) rfl (Ext.refl W)
set_option maxHeartbeats 1000000 in
theorem ei24_op17 (o18 : a.eval (.tmp 18) = .slice (some ⟨g, of, none⟩) ln cl) (haft : ∀ j, (o.after.any fun e => decide (e.on = j) && Region.binds .any e) = true → ei24S p A' n' c' g of ln cl jj vl x j (a.eval (.tmp (ei24D j))) W) (ho : ei24Reg[17]? = some o) : ei24Ok p A' n' c' g of ln cl jj vl x Q a W 17 o := by
  have hop := op_at ho (·.op) (x := Op.move (Operand.tmp 18)) (by kernel_rfl)
  have hgd := op_at ho (·.guard) (x := some (15, false)) (by kernel_rfl)
  have e15 : a.eval (.tmp 169) = .bool false := haft 15 (op_at ho (fun o => o.after.any fun e => decide (e.on = 15) && Region.binds .any e) (x := true) (by kernel_rfl))
  refine ⟨fun j b h => (by rw [hgd] at h; cases h; exact e15), ?_⟩
  exact specs_value (R := fun v W => ei24S p A' n' c' g of ln cl jj vl x 17 v W) (v := .slice (some ⟨g, of, none⟩) ln cl) (by simp [execOp, hop, go_sem, ev o18]) rfl (Ext.refl W)
set_option maxHeartbeats 1000000 in
theorem ei24_op18 (o20 : a.eval (.tmp 20) = .int .i64 (jj : Int)) (haft : ∀ j, (o.after.any fun e => decide (e.on = j) && Region.binds .any e) = true → ei24S p A' n' c' g of ln cl jj vl x j (a.eval (.tmp (ei24D j))) W) (ho : ei24Reg[18]? = some o) : ei24Ok p A' n' c' g of ln cl jj vl x Q a W 18 o := by
  have hop := op_at ho (·.op) (x := Op.move (Operand.tmp 20)) (by kernel_rfl)
  have hgd := op_at ho (·.guard) (x := some (15, false)) (by kernel_rfl)
  have e15 : a.eval (.tmp 169) = .bool false := haft 15 (op_at ho (fun o => o.after.any fun e => decide (e.on = 15) && Region.binds .any e) (x := true) (by kernel_rfl))
  refine ⟨fun j b h => (by rw [hgd] at h; cases h; exact e15), ?_⟩
  exact specs_value (R := fun v W => ei24S p A' n' c' g of ln cl jj vl x 18 v W) (v := .int .i64 (jj : Int)) (by simp [execOp, hop, go_sem, ev o20]) rfl (Ext.refl W)
set_option maxHeartbeats 1000000 in
theorem ei24_op19 (hj : jj < ln) (haft : ∀ j, (o.after.any fun e => decide (e.on = j) && Region.binds .any e) = true → ei24S p A' n' c' g of ln cl jj vl x j (a.eval (.tmp (ei24D j))) W) (ho : ei24Reg[19]? = some o) : ei24Ok p A' n' c' g of ln cl jj vl x Q a W 19 o := by
  have hop := op_at ho (·.op) (x := Op.indexAddr 30 (Operand.tmp 171) (Operand.tmp 172)) (by kernel_rfl)
  have hgd := op_at ho (·.guard) (x := some (15, false)) (by kernel_rfl)
  have e15 : a.eval (.tmp 169) = .bool false := haft 15 (op_at ho (fun o => o.after.any fun e => decide (e.on = 15) && Region.binds .any e) (x := true) (by kernel_rfl))
  have e17 : a.eval (.tmp 171) = .slice (some ⟨g, of, none⟩) ln cl := haft 17 (op_at ho (fun o => o.after.any fun e => decide (e.on = 17) && Region.binds .any e) (x := true) (by kernel_rfl))
  have e18 : a.eval (.tmp 172) = .int .i64 (jj : Int) := haft 18 (op_at ho (fun o => o.after.any fun e => decide (e.on = 18) && Region.binds .any e) (x := true) (by kernel_rfl))
  refine ⟨fun j b h => (by rw [hgd] at h; cases h; exact e15), ?_⟩
  have hjz : (jj : Int) < (ln : Int) := by omega
  exact specs_value (R := fun v W => ei24S p A' n' c' g of ln cl jj vl x 19 v W) (v := .pointer (some ⟨g, of + jj, none⟩)) (by simp [execOp, hop, go_sem, ev e17, ev e18, hjz]) rfl (Ext.refl W)
set_option maxHeartbeats 1000000 in
theorem ei24_op20 (c0 : ∀ W, Ext V W → W.cell? ⟨g, of + jj, none⟩ = some (.int .i64 x)) (hB : Ext V W) (haft : ∀ j, (o.after.any fun e => decide (e.on = j) && Region.binds .any e) = true → ei24S p A' n' c' g of ln cl jj vl x j (a.eval (.tmp (ei24D j))) W) (ho : ei24Reg[20]? = some o) : ei24Ok p A' n' c' g of ln cl jj vl x Q a W 20 o := by
  have hop := op_at ho (·.op) (x := Op.load 3 (Operand.tmp 173)) (by kernel_rfl)
  have hgd := op_at ho (·.guard) (x := some (15, false)) (by kernel_rfl)
  have e15 : a.eval (.tmp 169) = .bool false := haft 15 (op_at ho (fun o => o.after.any fun e => decide (e.on = 15) && Region.binds .any e) (x := true) (by kernel_rfl))
  have e19 : a.eval (.tmp 173) = .pointer (some ⟨g, of + jj, none⟩) := haft 19 (op_at ho (fun o => o.after.any fun e => decide (e.on = 19) && Region.binds .any e) (x := true) (by kernel_rfl))
  refine ⟨fun j b h => (by rw [hgd] at h; cases h; exact e15), ?_⟩
  have c0' := c0 W hB
  exact specs_value (R := fun v W => ei24S p A' n' c' g of ln cl jj vl x 20 v W) (v := .int .i64 x) (by simp [execOp, hop, go_sem, ev e19, c0']) rfl (Ext.refl W)
set_option maxHeartbeats 1000000 in
theorem ei24_op21 (hin : ∀ W, Ext V W → Calls Try.prog 45 #[vl, .int .i64 x] W fun e w' => e = .returned (.bool false) ∧ Ext W w') (hB : Ext V W) (haft : ∀ j, (o.after.any fun e => decide (e.on = j) && Region.binds .any e) = true → ei24S p A' n' c' g of ln cl jj vl x j (a.eval (.tmp (ei24D j))) W) (ho : ei24Reg[21]? = some o) : ei24Ok p A' n' c' g of ln cl jj vl x Q a W 21 o := by
  have hop := op_at ho (·.op) (x := Op.call { callee := Callee.value (Operand.func 45), args := #[Operand.tmp 170, Operand.tmp 174], argTypes := #[30, 3] }) (by kernel_rfl)
  have hgd := op_at ho (·.guard) (x := some (15, false)) (by kernel_rfl)
  have e15 : a.eval (.tmp 169) = .bool false := haft 15 (op_at ho (fun o => o.after.any fun e => decide (e.on = 15) && Region.binds .any e) (x := true) (by kernel_rfl))
  have e16 : a.eval (.tmp 170) = vl := haft 16 (op_at ho (fun o => o.after.any fun e => decide (e.on = 16) && Region.binds .any e) (x := true) (by kernel_rfl))
  have e20 : a.eval (.tmp 174) = .int .i64 x := haft 20 (op_at ho (fun o => o.after.any fun e => decide (e.on = 20) && Region.binds .any e) (x := true) (by kernel_rfl))
  refine ⟨fun j b h => (by rw [hgd] at h; cases h; exact e15), ?_⟩
  refine specs_call (R := fun v W => ei24S p A' n' c' g of ln cl jj vl x 21 v W) (f := 45) (args := #[vl, .int .i64 x]) (by simp [execOp, hop, go_sem, ev e16, ev e20]) ((hin W hB).mono ?_)
  rintro e w' ⟨rfl, h3⟩
  exact ⟨_, rfl, rfl, h3⟩
set_option maxHeartbeats 1000000 in
theorem ei24_op22 (haft : ∀ j, (o.after.any fun e => decide (e.on = j) && Region.binds .any e) = true → ei24S p A' n' c' g of ln cl jj vl x j (a.eval (.tmp (ei24D j))) W) (ho : ei24Reg[22]? = some o) : ei24Ok p A' n' c' g of ln cl jj vl x Q a W 22 o := by
  have hop := op_at ho (·.op) (x := Op.pick (Operand.tmp 169) (Operand.const (Value.bool true)) (Operand.tmp 175)) (by kernel_rfl)
  have hgd := op_at ho (·.guard) (x := none) (by kernel_rfl)
  have e15 : a.eval (.tmp 169) = .bool false := haft 15 (op_at ho (fun o => o.after.any fun e => decide (e.on = 15) && Region.binds .any e) (x := true) (by kernel_rfl))
  have e21 : ei24S p A' n' c' g of ln cl jj vl x 21 (a.eval (.tmp 175)) W := haft 21 (op_at ho (fun o => o.after.any fun e => decide (e.on = 21) && Region.binds .any e) (x := true) (by kernel_rfl))
  refine ⟨fun j b h => (by rw [hgd] at h; cases h), ?_⟩
  have eR : a.eval (.tmp 175) = .bool false := e21
  exact specs_value (R := fun v W => ei24S p A' n' c' g of ln cl jj vl x 22 v W) (v := .bool false) (by simp [execOp, hop, go_sem, ev e15, ev eR]) rfl (Ext.refl W)
set_option maxRecDepth 100000 in
set_option maxHeartbeats 4000000 in
/-- Region 24 of function 8. -/
theorem ei24_wp {id : Nat} (hlen : a.tmps.size = 197) (o3 : a.eval (.tmp 3) = .pointer (some ⟨p, 0, none⟩)) (o7 : a.eval (.tmp 7) = vl) (o18 : a.eval (.tmp 18) = .slice (some ⟨g, of, none⟩) ln cl) (o20 : a.eval (.tmp 20) = .int .i64 (jj : Int)) (hj : jj < ln) (c0 : ∀ W, Ext V W → W.cell? ⟨g, of + jj, none⟩ = some (.int .i64 x)) (hx0 : ¬ x < 0) (q1 : ∀ W, Ext V W → W.cell? ⟨p, 1, none⟩ = some (.slice A' n' c')) (hx1 : ¬ (n' : Int) ≤ x) (hin : ∀ W, Ext V W → Calls Try.prog 45 #[vl, .int .i64 x] W fun e w' => e = .returned (.bool false) ∧ Ext W w') (K : (∀ W v21, Ext V W → ei24S p A' n' c' g of ln cl jj vl x 21 v21 W → wpList Try.prog ei24Reg Q (ei24Reg.toList.drop 23) (puts a [(154, .slice (some ⟨g, of, none⟩) ln cl), (155, .int .i64 (jj : Int)), (156, .pointer (some ⟨g, of + jj, none⟩)), (157, .int .i64 x), (158, .bool false), (159, .bool false), (160, .slice (some ⟨g, of, none⟩) ln cl), (161, .int .i64 (jj : Int)), (162, .pointer (some ⟨g, of + jj, none⟩)), (163, .int .i64 x), (164, .pointer (some ⟨p, 1, none⟩)), (165, .slice A' n' c'), (166, .int .i64 (n' : Int)), (167, .bool false), (168, .bool false), (169, .bool false), (170, vl), (171, .slice (some ⟨g, of, none⟩) ln cl), (172, .int .i64 (jj : Int)), (173, .pointer (some ⟨g, of + jj, none⟩)), (174, .int .i64 x), (175, v21), (176, .bool false)]) W)) : (Code.region id ei24Reg true).wp Try.prog Q a V := by
  refine wp_region_specs_free (ops := ei24Reg) 23 (ei24S p A' n' c' g of ln cl jj vl x) (Ext V) (by kernel_rfl) (by rw [hlen]; kernel_rfl) (by kernel_rfl) ⟨rfl, rfl, rfl, Nat.le_refl _, fun _ _ => rfl⟩ (fun _ _ h e => h.trans e) ei24S_ext ei24D (by kernel_rfl) ?_ ?_
  · intro i o hi ho a' W hB hsz hold haft
    match i, hi with
    | 0, _ => exact ei24_op0 ((hold 18 (by kernel_rfl)).trans o18) ho
    | 1, _ => exact ei24_op1 ((hold 20 (by kernel_rfl)).trans o20) ho
    | 2, _ => exact ei24_op2 hj haft ho
    | 3, _ => exact ei24_op3 c0 hB haft ho
    | 4, _ => exact ei24_op4 hx0 haft ho
    | 5, _ => exact ei24_op5 haft ho
    | 6, _ => exact ei24_op6 ((hold 18 (by kernel_rfl)).trans o18) haft ho
    | 7, _ => exact ei24_op7 ((hold 20 (by kernel_rfl)).trans o20) haft ho
    | 8, _ => exact ei24_op8 hj haft ho
    | 9, _ => exact ei24_op9 c0 hB haft ho
    | 10, _ => exact ei24_op10 ((hold 3 (by kernel_rfl)).trans o3) haft ho
    | 11, _ => exact ei24_op11 q1 hB haft ho
    | 12, _ => exact ei24_op12 haft ho
    | 13, _ => exact ei24_op13 hx1 haft ho
    | 14, _ => exact ei24_op14 haft ho
    | 15, _ => exact ei24_op15 haft ho
    | 16, _ => exact ei24_op16 ((hold 7 (by kernel_rfl)).trans o7) haft ho
    | 17, _ => exact ei24_op17 ((hold 18 (by kernel_rfl)).trans o18) haft ho
    | 18, _ => exact ei24_op18 ((hold 20 (by kernel_rfl)).trans o20) haft ho
    | 19, _ => exact ei24_op19 hj haft ho
    | 20, _ => exact ei24_op20 c0 hB haft ho
    | 21, _ => exact ei24_op21 hin hB haft ho
    | 22, _ => exact ei24_op22 haft ho
    | m + 23, h => exact absurd h (by omega)
  · intro a1 W hB hsz hdf hold hS
    obtain ⟨v21, g21⟩ : ∃ v, v = a1.eval (.tmp 175) := ⟨_, rfl⟩
    have hall : ∀ z, z ∈ ([(154, .slice (some ⟨g, of, none⟩) ln cl), (155, .int .i64 (jj : Int)), (156, .pointer (some ⟨g, of + jj, none⟩)), (157, .int .i64 x), (158, .bool false), (159, .bool false), (160, .slice (some ⟨g, of, none⟩) ln cl), (161, .int .i64 (jj : Int)), (162, .pointer (some ⟨g, of + jj, none⟩)), (163, .int .i64 x), (164, .pointer (some ⟨p, 1, none⟩)), (165, .slice A' n' c'), (166, .int .i64 (n' : Int)), (167, .bool false), (168, .bool false), (169, .bool false), (170, vl), (171, .slice (some ⟨g, of, none⟩) ln cl), (172, .int .i64 (jj : Int)), (173, .pointer (some ⟨g, of + jj, none⟩)), (174, .int .i64 x), (175, v21), (176, .bool false)] : List (Tmp × Value)) → z.1 < a.tmps.size ∧ a1.eval (.tmp z.1) = z.2 := by
      intro z hz
      rw [hlen]
      simp only [List.mem_cons, List.not_mem_nil, or_false] at hz
      rcases hz with rfl | rfl | rfl | rfl | rfl | rfl | rfl | rfl | rfl | rfl | rfl | rfl | rfl | rfl | rfl | rfl | rfl | rfl | rfl | rfl | rfl | rfl | rfl
      · exact ⟨(show (154 : Nat) < 197 by omega), hS 0 (by omega)⟩
      · exact ⟨(show (155 : Nat) < 197 by omega), hS 1 (by omega)⟩
      · exact ⟨(show (156 : Nat) < 197 by omega), hS 2 (by omega)⟩
      · exact ⟨(show (157 : Nat) < 197 by omega), hS 3 (by omega)⟩
      · exact ⟨(show (158 : Nat) < 197 by omega), hS 4 (by omega)⟩
      · exact ⟨(show (159 : Nat) < 197 by omega), hS 5 (by omega)⟩
      · exact ⟨(show (160 : Nat) < 197 by omega), hS 6 (by omega)⟩
      · exact ⟨(show (161 : Nat) < 197 by omega), hS 7 (by omega)⟩
      · exact ⟨(show (162 : Nat) < 197 by omega), hS 8 (by omega)⟩
      · exact ⟨(show (163 : Nat) < 197 by omega), hS 9 (by omega)⟩
      · exact ⟨(show (164 : Nat) < 197 by omega), hS 10 (by omega)⟩
      · exact ⟨(show (165 : Nat) < 197 by omega), hS 11 (by omega)⟩
      · exact ⟨(show (166 : Nat) < 197 by omega), hS 12 (by omega)⟩
      · exact ⟨(show (167 : Nat) < 197 by omega), hS 13 (by omega)⟩
      · exact ⟨(show (168 : Nat) < 197 by omega), hS 14 (by omega)⟩
      · exact ⟨(show (169 : Nat) < 197 by omega), hS 15 (by omega)⟩
      · exact ⟨(show (170 : Nat) < 197 by omega), hS 16 (by omega)⟩
      · exact ⟨(show (171 : Nat) < 197 by omega), hS 17 (by omega)⟩
      · exact ⟨(show (172 : Nat) < 197 by omega), hS 18 (by omega)⟩
      · exact ⟨(show (173 : Nat) < 197 by omega), hS 19 (by omega)⟩
      · exact ⟨(show (174 : Nat) < 197 by omega), hS 20 (by omega)⟩
      · exact ⟨(show (175 : Nat) < 197 by omega), g21.symm⟩
      · exact ⟨(show (176 : Nat) < 197 by omega), hS 22 (by omega)⟩
    have ha := act_puts hsz hdf hall (fun t ht => hold t (all_ne_of (l := [(154, .slice (some ⟨g, of, none⟩) ln cl), (155, .int .i64 (jj : Int)), (156, .pointer (some ⟨g, of + jj, none⟩)), (157, .int .i64 x), (158, .bool false), (159, .bool false), (160, .slice (some ⟨g, of, none⟩) ln cl), (161, .int .i64 (jj : Int)), (162, .pointer (some ⟨g, of + jj, none⟩)), (163, .int .i64 x), (164, .pointer (some ⟨p, 1, none⟩)), (165, .slice A' n' c'), (166, .int .i64 (n' : Int)), (167, .bool false), (168, .bool false), (169, .bool false), (170, vl), (171, .slice (some ⟨g, of, none⟩) ln cl), (172, .int .i64 (jj : Int)), (173, .pointer (some ⟨g, of + jj, none⟩)), (174, .int .i64 x), (175, v21), (176, .bool false)]) (by kernel_rfl) ht))
    rw [ha]
    exact K W v21 hB (by rw [g21]; exact hS 21 (by omega))
end

/-- The slots of region 27 of function 8. -/
def ei27D (i : Nat) : Tmp := if i = 0 then 184 else if i = 1 then 185 else if i = 2 then 186 else if i = 3 then 187 else if i = 4 then 188 else if i = 5 then 189 else if i = 6 then 190 else if i = 7 then 191 else if i = 8 then 192 else if i = 9 then 193 else if i = 10 then 194 else if i = 11 then 195 else if i = 12 then 196 else 6
/-- What each operation yields. -/
def ei27S (p : Nat) (A' : Option Addr) (n' c' hd cn ll : Nat) (Al : Option Addr) (cl : Nat) (ix : Nat) (v : Value) (_W : World) : Prop :=
  match ix with
  | 0 => v = .int .i64 (hd : Int)
  | 1 => ∃ A9 c9, v = .slice A9 cn c9
  | 2 => v = .int .i64 (cn : Int)
  | 3 => v = .slice Al ll cl
  | 4 => v = .int .i64 (ll : Int)
  | 5 => v = .int .i64 (n' : Int)
  | 6 => v = .pointer (some ⟨p, 1, none⟩)
  | 7 => v = .slice A' n' c'
  | 8 => v = .int .i64 (n' : Int)
  | 9 => v = .bool true
  | 10 => v = .bool true
  | 11 => v = .bool true
  | 12 => v = .bool true
  | 13 => v = .bool true
  | _ => True
noncomputable def ei27Reg : Array Oper := (Try.f8.body.bind (regionOf · 27)).getD #[]
theorem ei27S_ext {p : Nat} {A' : Option Addr} {n' c' hd cn ll : Nat} {Al : Option Addr} {cl : Nat} : ∀ (i : Nat) (v : Value) (W W' : World), ei27S p A' n' c' hd cn ll Al cl i v W → Below W.heap.size W W' → ei27S p A' n' c' hd cn ll Al cl i v W' := by
  intro i v W W' h e
  match i with
  | 0 => exact h
  | 1 => exact h
  | 2 => exact h
  | 3 => exact h
  | 4 => exact h
  | 5 => exact h
  | 6 => exact h
  | 7 => exact h
  | 8 => exact h
  | 9 => exact h
  | 10 => exact h
  | 11 => exact h
  | 12 => exact h
  | 13 => exact h
  | k + 14 => exact trivial
def ei27Ok (p : Nat) (A' : Option Addr) (n' c' hd cn ll : Nat) (Al : Option Addr) (cl : Nat) (Q : Exit → Act → World → Prop) (a : Act) (W : World) (ix : Nat) (o : Oper) : Prop :=
  (∀ j b, o.guard = some (j, b) → a.eval (.tmp (ei27D j)) = .bool b) ∧ o.wp Try.prog a W (fun a'' W' => ∃ v, a'' = a.put o.dst v ∧ ei27S p A' n' c' hd cn ll Al cl ix v W' ∧ Below W.heap.size W W') Q
section
variable {p : Nat} {A' : Option Addr} {n' c' hd cn ll : Nat} {Al : Option Addr} {cl : Nat} {Q : Exit → Act → World → Prop} {a : Act} {V W : World} {o : Oper}
set_option maxHeartbeats 1000000 in
theorem ei27_op0 (o11 : a.eval (.tmp 11) = .int .i64 (hd : Int)) (ho : ei27Reg[0]? = some o) : ei27Ok p A' n' c' hd cn ll Al cl Q a W 0 o := by
  have hop := op_at ho (·.op) (x := Op.move (Operand.tmp 11)) (by kernel_rfl)
  have hgd := op_at ho (·.guard) (x := none) (by kernel_rfl)
  refine ⟨fun j b h => (by rw [hgd] at h; cases h), ?_⟩
  exact specs_value (R := fun v W => ei27S p A' n' c' hd cn ll Al cl 0 v W) (v := .int .i64 (hd : Int)) (by simp [execOp, hop, go_sem, ev o11]) rfl (Ext.refl W)
set_option maxHeartbeats 1000000 in
theorem ei27_op1 (hlist : ∀ W, Ext V W → Calls Try.prog 46 #[.int .i64 (hd : Int)] W fun e w' => ∃ A9 c9, e = .returned (.slice A9 cn c9) ∧ Ext W w') (hB : Ext V W) (haft : ∀ j, (o.after.any fun e => decide (e.on = j) && Region.binds .any e) = true → ei27S p A' n' c' hd cn ll Al cl j (a.eval (.tmp (ei27D j))) W) (ho : ei27Reg[1]? = some o) : ei27Ok p A' n' c' hd cn ll Al cl Q a W 1 o := by
  have hop := op_at ho (·.op) (x := Op.call { callee := Callee.value (Operand.func 46), args := #[Operand.tmp 184], argTypes := #[3] }) (by kernel_rfl)
  have hgd := op_at ho (·.guard) (x := none) (by kernel_rfl)
  have e0 : a.eval (.tmp 184) = .int .i64 (hd : Int) := haft 0 (op_at ho (fun o => o.after.any fun e => decide (e.on = 0) && Region.binds .any e) (x := true) (by kernel_rfl))
  refine ⟨fun j b h => (by rw [hgd] at h; cases h), ?_⟩
  refine specs_call (R := fun v W => ei27S p A' n' c' hd cn ll Al cl 1 v W) (f := 46) (args := #[.int .i64 (hd : Int)]) (by simp [execOp, hop, go_sem, ev e0]) ((hlist W hB).mono ?_)
  rintro e w' ⟨A9, c9, rfl, h3⟩
  exact ⟨_, rfl, ⟨A9, c9, rfl⟩, h3⟩
set_option maxHeartbeats 1000000 in
theorem ei27_op2 (haft : ∀ j, (o.after.any fun e => decide (e.on = j) && Region.binds .any e) = true → ei27S p A' n' c' hd cn ll Al cl j (a.eval (.tmp (ei27D j))) W) (ho : ei27Reg[2]? = some o) : ei27Ok p A' n' c' hd cn ll Al cl Q a W 2 o := by
  have hop := op_at ho (·.op) (x := Op.call { callee := Callee.builtin Builtin.len, args := #[Operand.tmp 185], argTypes := #[30] }) (by kernel_rfl)
  have hgd := op_at ho (·.guard) (x := none) (by kernel_rfl)
  have e1 : ei27S p A' n' c' hd cn ll Al cl 1 (a.eval (.tmp 185)) W := haft 1 (op_at ho (fun o => o.after.any fun e => decide (e.on = 1) && Region.binds .any e) (x := true) (by kernel_rfl))
  refine ⟨fun j b h => (by rw [hgd] at h; cases h), ?_⟩
  obtain ⟨A9, c9, hv⟩ := e1
  exact specs_value (R := fun v W => ei27S p A' n' c' hd cn ll Al cl 2 v W) (v := .int .i64 (cn : Int)) (by simp [execOp, hop, go_sem, ev hv]) rfl (Ext.refl W)
set_option maxHeartbeats 1000000 in
theorem ei27_op3 (o7 : a.eval (.tmp 7) = .slice Al ll cl) (ho : ei27Reg[3]? = some o) : ei27Ok p A' n' c' hd cn ll Al cl Q a W 3 o := by
  have hop := op_at ho (·.op) (x := Op.move (Operand.tmp 7)) (by kernel_rfl)
  have hgd := op_at ho (·.guard) (x := none) (by kernel_rfl)
  refine ⟨fun j b h => (by rw [hgd] at h; cases h), ?_⟩
  exact specs_value (R := fun v W => ei27S p A' n' c' hd cn ll Al cl 3 v W) (v := .slice Al ll cl) (by simp [execOp, hop, go_sem, ev o7]) rfl (Ext.refl W)
set_option maxHeartbeats 1000000 in
theorem ei27_op4 (haft : ∀ j, (o.after.any fun e => decide (e.on = j) && Region.binds .any e) = true → ei27S p A' n' c' hd cn ll Al cl j (a.eval (.tmp (ei27D j))) W) (ho : ei27Reg[4]? = some o) : ei27Ok p A' n' c' hd cn ll Al cl Q a W 4 o := by
  have hop := op_at ho (·.op) (x := Op.call { callee := Callee.builtin Builtin.len, args := #[Operand.tmp 187], argTypes := #[30] }) (by kernel_rfl)
  have hgd := op_at ho (·.guard) (x := none) (by kernel_rfl)
  have e3 : a.eval (.tmp 187) = .slice Al ll cl := haft 3 (op_at ho (fun o => o.after.any fun e => decide (e.on = 3) && Region.binds .any e) (x := true) (by kernel_rfl))
  refine ⟨fun j b h => (by rw [hgd] at h; cases h), ?_⟩
  exact specs_value (R := fun v W => ei27S p A' n' c' hd cn ll Al cl 4 v W) (v := .int .i64 (ll : Int)) (by simp [execOp, hop, go_sem, ev e3]) rfl (Ext.refl W)
set_option maxHeartbeats 1000000 in
theorem ei27_op5 (hsum : IntKind.i64.wrap ((cn : Int) + (ll : Int)) = (n' : Int)) (haft : ∀ j, (o.after.any fun e => decide (e.on = j) && Region.binds .any e) = true → ei27S p A' n' c' hd cn ll Al cl j (a.eval (.tmp (ei27D j))) W) (ho : ei27Reg[5]? = some o) : ei27Ok p A' n' c' hd cn ll Al cl Q a W 5 o := by
  have hop := op_at ho (·.op) (x := Op.binOp BinOp.add 3 (Operand.tmp 186) (Operand.tmp 188) 3) (by kernel_rfl)
  have hgd := op_at ho (·.guard) (x := none) (by kernel_rfl)
  have e2 : a.eval (.tmp 186) = .int .i64 (cn : Int) := haft 2 (op_at ho (fun o => o.after.any fun e => decide (e.on = 2) && Region.binds .any e) (x := true) (by kernel_rfl))
  have e4 : a.eval (.tmp 188) = .int .i64 (ll : Int) := haft 4 (op_at ho (fun o => o.after.any fun e => decide (e.on = 4) && Region.binds .any e) (x := true) (by kernel_rfl))
  refine ⟨fun j b h => (by rw [hgd] at h; cases h), ?_⟩
  exact specs_value (R := fun v W => ei27S p A' n' c' hd cn ll Al cl 5 v W) (v := .int .i64 (n' : Int)) (by simp [execOp, hop, go_sem, ev e2, ev e4, hsum]) rfl (Ext.refl W)
set_option maxHeartbeats 1000000 in
theorem ei27_op6 (o3 : a.eval (.tmp 3) = .pointer (some ⟨p, 0, none⟩)) (ho : ei27Reg[6]? = some o) : ei27Ok p A' n' c' hd cn ll Al cl Q a W 6 o := by
  have hop := op_at ho (·.op) (x := Op.fieldAddr 25 (Operand.tmp 3) 1) (by kernel_rfl)
  have hgd := op_at ho (·.guard) (x := none) (by kernel_rfl)
  refine ⟨fun j b h => (by rw [hgd] at h; cases h), ?_⟩
  exact specs_value (R := fun v W => ei27S p A' n' c' hd cn ll Al cl 6 v W) (v := .pointer (some ⟨p, 1, none⟩)) (by simp [execOp, hop, go_sem, ev o3]) rfl (Ext.refl W)
set_option maxHeartbeats 1000000 in
theorem ei27_op7 (q1 : ∀ W, Ext V W → W.cell? ⟨p, 1, none⟩ = some (.slice A' n' c')) (hB : Ext V W) (haft : ∀ j, (o.after.any fun e => decide (e.on = j) && Region.binds .any e) = true → ei27S p A' n' c' hd cn ll Al cl j (a.eval (.tmp (ei27D j))) W) (ho : ei27Reg[7]? = some o) : ei27Ok p A' n' c' hd cn ll Al cl Q a W 7 o := by
  have hop := op_at ho (·.op) (x := Op.load 23 (Operand.tmp 190)) (by kernel_rfl)
  have hgd := op_at ho (·.guard) (x := none) (by kernel_rfl)
  have e6 : a.eval (.tmp 190) = .pointer (some ⟨p, 1, none⟩) := haft 6 (op_at ho (fun o => o.after.any fun e => decide (e.on = 6) && Region.binds .any e) (x := true) (by kernel_rfl))
  refine ⟨fun j b h => (by rw [hgd] at h; cases h), ?_⟩
  have q1' := q1 W hB
  exact specs_value (R := fun v W => ei27S p A' n' c' hd cn ll Al cl 7 v W) (v := .slice A' n' c') (by simp [execOp, hop, go_sem, ev e6, q1']) rfl (Ext.refl W)
set_option maxHeartbeats 1000000 in
theorem ei27_op8 (haft : ∀ j, (o.after.any fun e => decide (e.on = j) && Region.binds .any e) = true → ei27S p A' n' c' hd cn ll Al cl j (a.eval (.tmp (ei27D j))) W) (ho : ei27Reg[8]? = some o) : ei27Ok p A' n' c' hd cn ll Al cl Q a W 8 o := by
  have hop := op_at ho (·.op) (x := Op.call { callee := Callee.builtin Builtin.len, args := #[Operand.tmp 191], argTypes := #[23] }) (by kernel_rfl)
  have hgd := op_at ho (·.guard) (x := none) (by kernel_rfl)
  have e7 : a.eval (.tmp 191) = .slice A' n' c' := haft 7 (op_at ho (fun o => o.after.any fun e => decide (e.on = 7) && Region.binds .any e) (x := true) (by kernel_rfl))
  refine ⟨fun j b h => (by rw [hgd] at h; cases h), ?_⟩
  exact specs_value (R := fun v W => ei27S p A' n' c' hd cn ll Al cl 8 v W) (v := .int .i64 (n' : Int)) (by simp [execOp, hop, go_sem, ev e7]) rfl (Ext.refl W)
set_option maxHeartbeats 1000000 in
theorem ei27_op9 (haft : ∀ j, (o.after.any fun e => decide (e.on = j) && Region.binds .any e) = true → ei27S p A' n' c' hd cn ll Al cl j (a.eval (.tmp (ei27D j))) W) (ho : ei27Reg[9]? = some o) : ei27Ok p A' n' c' hd cn ll Al cl Q a W 9 o := by
  have hop := op_at ho (·.op) (x := Op.binOp BinOp.eql 3 (Operand.tmp 189) (Operand.tmp 192) 3) (by kernel_rfl)
  have hgd := op_at ho (·.guard) (x := none) (by kernel_rfl)
  have e5 : a.eval (.tmp 189) = .int .i64 (n' : Int) := haft 5 (op_at ho (fun o => o.after.any fun e => decide (e.on = 5) && Region.binds .any e) (x := true) (by kernel_rfl))
  have e8 : a.eval (.tmp 192) = .int .i64 (n' : Int) := haft 8 (op_at ho (fun o => o.after.any fun e => decide (e.on = 8) && Region.binds .any e) (x := true) (by kernel_rfl))
  refine ⟨fun j b h => (by rw [hgd] at h; cases h), ?_⟩
  exact specs_value (R := fun v W => ei27S p A' n' c' hd cn ll Al cl 9 v W) (v := .bool true) (by simp [execOp, hop, go_sem, ev e5, ev e8]) rfl (Ext.refl W)
set_option maxHeartbeats 1000000 in
theorem ei27_op10 (haft : ∀ j, (o.after.any fun e => decide (e.on = j) && Region.binds .any e) = true → ei27S p A' n' c' hd cn ll Al cl j (a.eval (.tmp (ei27D j))) W) (ho : ei27Reg[10]? = some o) : ei27Ok p A' n' c' hd cn ll Al cl Q a W 10 o := by
  have hop := op_at ho (·.op) (x := Op.move (Operand.tmp 193)) (by kernel_rfl)
  have hgd := op_at ho (·.guard) (x := none) (by kernel_rfl)
  have e9 : a.eval (.tmp 193) = .bool true := haft 9 (op_at ho (fun o => o.after.any fun e => decide (e.on = 9) && Region.binds .any e) (x := true) (by kernel_rfl))
  refine ⟨fun j b h => (by rw [hgd] at h; cases h), ?_⟩
  exact specs_value (R := fun v W => ei27S p A' n' c' hd cn ll Al cl 10 v W) (v := .bool true) (by simp [execOp, hop, go_sem, ev e9]) rfl (Ext.refl W)
set_option maxHeartbeats 1000000 in
theorem ei27_op11 (hw1 : ∀ W, Ext V W → Calls Try.prog 16 #[] W fun e w' => e = .returned (.bool true) ∧ Ext W w') (hB : Ext V W) (haft : ∀ j, (o.after.any fun e => decide (e.on = j) && Region.binds .any e) = true → ei27S p A' n' c' hd cn ll Al cl j (a.eval (.tmp (ei27D j))) W) (ho : ei27Reg[11]? = some o) : ei27Ok p A' n' c' hd cn ll Al cl Q a W 11 o := by
  have hop := op_at ho (·.op) (x := Op.call { callee := Callee.value (Operand.func 16), args := #[], argTypes := #[] }) (by kernel_rfl)
  have hgd := op_at ho (·.guard) (x := some (10, true)) (by kernel_rfl)
  have e10 : a.eval (.tmp 194) = .bool true := haft 10 (op_at ho (fun o => o.after.any fun e => decide (e.on = 10) && Region.binds .any e) (x := true) (by kernel_rfl))
  refine ⟨fun j b h => (by rw [hgd] at h; cases h; exact e10), ?_⟩
  refine specs_call (R := fun v W => ei27S p A' n' c' hd cn ll Al cl 11 v W) (f := 16) (args := #[]) (by simp [execOp, hop, go_sem]) ((hw1 W hB).mono ?_)
  rintro e w' ⟨rfl, h3⟩
  exact ⟨_, rfl, rfl, h3⟩
set_option maxHeartbeats 1000000 in
theorem ei27_op12 (haft : ∀ j, (o.after.any fun e => decide (e.on = j) && Region.binds .any e) = true → ei27S p A' n' c' hd cn ll Al cl j (a.eval (.tmp (ei27D j))) W) (ho : ei27Reg[12]? = some o) : ei27Ok p A' n' c' hd cn ll Al cl Q a W 12 o := by
  have hop := op_at ho (·.op) (x := Op.pick (Operand.tmp 194) (Operand.tmp 195) (Operand.const (Value.bool false))) (by kernel_rfl)
  have hgd := op_at ho (·.guard) (x := none) (by kernel_rfl)
  have e10 : a.eval (.tmp 194) = .bool true := haft 10 (op_at ho (fun o => o.after.any fun e => decide (e.on = 10) && Region.binds .any e) (x := true) (by kernel_rfl))
  have e11 : ei27S p A' n' c' hd cn ll Al cl 11 (a.eval (.tmp 195)) W := haft 11 (op_at ho (fun o => o.after.any fun e => decide (e.on = 11) && Region.binds .any e) (x := true) (by kernel_rfl))
  refine ⟨fun j b h => (by rw [hgd] at h; cases h), ?_⟩
  have eR : a.eval (.tmp 195) = .bool true := e11
  exact specs_value (R := fun v W => ei27S p A' n' c' hd cn ll Al cl 12 v W) (v := .bool true) (by simp [execOp, hop, go_sem, ev e10, ev eR]) rfl (Ext.refl W)
set_option maxHeartbeats 1000000 in
theorem ei27_op13 (haft : ∀ j, (o.after.any fun e => decide (e.on = j) && Region.binds .any e) = true → ei27S p A' n' c' hd cn ll Al cl j (a.eval (.tmp (ei27D j))) W) (ho : ei27Reg[13]? = some o) : ei27Ok p A' n' c' hd cn ll Al cl Q a W 13 o := by
  have hop := op_at ho (·.op) (x := Op.assign (Operand.tmp 196)) (by kernel_rfl)
  have hgd := op_at ho (·.guard) (x := none) (by kernel_rfl)
  have e12 : a.eval (.tmp 196) = .bool true := haft 12 (op_at ho (fun o => o.after.any fun e => decide (e.on = 12) && Region.binds .any e) (x := true) (by kernel_rfl))
  refine ⟨fun j b h => (by rw [hgd] at h; cases h), ?_⟩
  exact specs_value (R := fun v W => ei27S p A' n' c' hd cn ll Al cl 13 v W) (v := .bool true) (by simp [execOp, hop, go_sem, ev e12]) rfl (Ext.refl W)
set_option maxRecDepth 100000 in
set_option maxHeartbeats 4000000 in
/-- Region 27 of function 8. -/
theorem ei27_wp {id : Nat} (hlen : a.tmps.size = 197) (o3 : a.eval (.tmp 3) = .pointer (some ⟨p, 0, none⟩)) (o7 : a.eval (.tmp 7) = .slice Al ll cl) (o11 : a.eval (.tmp 11) = .int .i64 (hd : Int)) (hlist : ∀ W, Ext V W → Calls Try.prog 46 #[.int .i64 (hd : Int)] W fun e w' => ∃ A9 c9, e = .returned (.slice A9 cn c9) ∧ Ext W w') (hsum : IntKind.i64.wrap ((cn : Int) + (ll : Int)) = (n' : Int)) (q1 : ∀ W, Ext V W → W.cell? ⟨p, 1, none⟩ = some (.slice A' n' c')) (hw1 : ∀ W, Ext V W → Calls Try.prog 16 #[] W fun e w' => e = .returned (.bool true) ∧ Ext W w') (K : (∀ W v1 v11, Ext V W → ei27S p A' n' c' hd cn ll Al cl 1 v1 W → ei27S p A' n' c' hd cn ll Al cl 11 v11 W → wpList Try.prog ei27Reg Q (ei27Reg.toList.drop 14) (puts a [(184, .int .i64 (hd : Int)), (185, v1), (186, .int .i64 (cn : Int)), (187, .slice Al ll cl), (188, .int .i64 (ll : Int)), (189, .int .i64 (n' : Int)), (190, .pointer (some ⟨p, 1, none⟩)), (191, .slice A' n' c'), (192, .int .i64 (n' : Int)), (193, .bool true), (194, .bool true), (195, v11), (196, .bool true), (6, .bool true)]) W)) : (Code.region id ei27Reg true).wp Try.prog Q a V := by
  refine wp_region_specs_free (ops := ei27Reg) 14 (ei27S p A' n' c' hd cn ll Al cl) (Ext V) (by kernel_rfl) (by rw [hlen]; kernel_rfl) (by kernel_rfl) ⟨rfl, rfl, rfl, Nat.le_refl _, fun _ _ => rfl⟩ (fun _ _ h e => h.trans e) ei27S_ext ei27D (by kernel_rfl) ?_ ?_
  · intro i o hi ho a' W hB hsz hold haft
    match i, hi with
    | 0, _ => exact ei27_op0 ((hold 11 (by kernel_rfl)).trans o11) ho
    | 1, _ => exact ei27_op1 hlist hB haft ho
    | 2, _ => exact ei27_op2 haft ho
    | 3, _ => exact ei27_op3 ((hold 7 (by kernel_rfl)).trans o7) ho
    | 4, _ => exact ei27_op4 haft ho
    | 5, _ => exact ei27_op5 hsum haft ho
    | 6, _ => exact ei27_op6 ((hold 3 (by kernel_rfl)).trans o3) ho
    | 7, _ => exact ei27_op7 q1 hB haft ho
    | 8, _ => exact ei27_op8 haft ho
    | 9, _ => exact ei27_op9 haft ho
    | 10, _ => exact ei27_op10 haft ho
    | 11, _ => exact ei27_op11 hw1 hB haft ho
    | 12, _ => exact ei27_op12 haft ho
    | 13, _ => exact ei27_op13 haft ho
    | m + 14, h => exact absurd h (by omega)
  · intro a1 W hB hsz hdf hold hS
    obtain ⟨v1, g1⟩ : ∃ v, v = a1.eval (.tmp 185) := ⟨_, rfl⟩
    obtain ⟨v11, g11⟩ : ∃ v, v = a1.eval (.tmp 195) := ⟨_, rfl⟩
    have hall : ∀ z, z ∈ ([(184, .int .i64 (hd : Int)), (185, v1), (186, .int .i64 (cn : Int)), (187, .slice Al ll cl), (188, .int .i64 (ll : Int)), (189, .int .i64 (n' : Int)), (190, .pointer (some ⟨p, 1, none⟩)), (191, .slice A' n' c'), (192, .int .i64 (n' : Int)), (193, .bool true), (194, .bool true), (195, v11), (196, .bool true), (6, .bool true)] : List (Tmp × Value)) → z.1 < a.tmps.size ∧ a1.eval (.tmp z.1) = z.2 := by
      intro z hz
      rw [hlen]
      simp only [List.mem_cons, List.not_mem_nil, or_false] at hz
      rcases hz with rfl | rfl | rfl | rfl | rfl | rfl | rfl | rfl | rfl | rfl | rfl | rfl | rfl | rfl
      · exact ⟨(show (184 : Nat) < 197 by omega), hS 0 (by omega)⟩
      · exact ⟨(show (185 : Nat) < 197 by omega), g1.symm⟩
      · exact ⟨(show (186 : Nat) < 197 by omega), hS 2 (by omega)⟩
      · exact ⟨(show (187 : Nat) < 197 by omega), hS 3 (by omega)⟩
      · exact ⟨(show (188 : Nat) < 197 by omega), hS 4 (by omega)⟩
      · exact ⟨(show (189 : Nat) < 197 by omega), hS 5 (by omega)⟩
      · exact ⟨(show (190 : Nat) < 197 by omega), hS 6 (by omega)⟩
      · exact ⟨(show (191 : Nat) < 197 by omega), hS 7 (by omega)⟩
      · exact ⟨(show (192 : Nat) < 197 by omega), hS 8 (by omega)⟩
      · exact ⟨(show (193 : Nat) < 197 by omega), hS 9 (by omega)⟩
      · exact ⟨(show (194 : Nat) < 197 by omega), hS 10 (by omega)⟩
      · exact ⟨(show (195 : Nat) < 197 by omega), g11.symm⟩
      · exact ⟨(show (196 : Nat) < 197 by omega), hS 12 (by omega)⟩
      · exact ⟨(show (6 : Nat) < 197 by omega), hS 13 (by omega)⟩
    have ha := act_puts hsz hdf hall (fun t ht => hold t (all_ne_of (l := [(184, .int .i64 (hd : Int)), (185, v1), (186, .int .i64 (cn : Int)), (187, .slice Al ll cl), (188, .int .i64 (ll : Int)), (189, .int .i64 (n' : Int)), (190, .pointer (some ⟨p, 1, none⟩)), (191, .slice A' n' c'), (192, .int .i64 (n' : Int)), (193, .bool true), (194, .bool true), (195, v11), (196, .bool true), (6, .bool true)]) (by kernel_rfl) ht))
    rw [ha]
    exact K W v1 v11 hB (by rw [g1]; exact hS 1 (by omega)) (by rw [g11]; exact hS 11 (by omega))
end
end Go.Proofs.Ytchmdkdiilaejaa

/- CombEither, walked. -/
namespace Go.Proofs.Ytchmdkdiilaejaa
open Go.RowKit Go.Shelf
attribute [local irreducible] bitCells fitCells Z94 fitOf

theorem orNos_append (cs ms : List (Int × Int)) (l l2 : List Rw) : orNos cs ms (l ++ l2) = orNos cs ms l ||| orNos cs ms l2 := by
  apply Nat.eq_of_testBit_eq
  intro i
  rw [Nat.testBit_or, or_bit, or_bit, or_bit, List.any_append]

theorem num_get2 {w : World} {A : Option Addr} {xs : List Int} (hh : Held w w.heap.size 1 encI A xs) {k : Nat} (hk : k < xs.length) : ∃ b off, A = some ⟨b, off, none⟩ ∧ b < w.heap.size ∧ ∀ j (hj : j < xs.length), w.cell? ⟨b, off + j, none⟩ = some (.int .i64 xs[j]) := by
  rcases hh with h | ⟨b, off, rfl, hlt', hc⟩
  · simp [h] at hk
  · refine ⟨b, off, rfl, hlt', fun j hj => ?_⟩
    have h2 := hc j xs[j] (List.getElem?_eq_getElem hj) 0 _ rfl
    simpa using h2

set_option maxRecDepth 100000 in
set_option maxHeartbeats 8000000 in
theorem either_any {A : Option Addr} {n c : Nat} {A' : Option Addr} {n' c' : Nat} {cs ms : List (Int × Int)} {w : World} (hb : IsSheet w w.heap.size A n c A' n' c' cs ms)
    (A1 : Option Addr) (k1 c1 : Nat) (ys : List (Int × Int)) (hk1 : k1 = ys.length) (hm1 : k1 ≤ 9223372036854775807) (hh1 : Held w w.heap.size 2 encS A1 ys) (at0 : Int) :
    Calls Try.prog 8 #[.agg #[.slice A n c, .slice A' n' c'], .slice A1 k1 c1, .int .i64 at0] w fun e w' => e = .returned (.bool true) ∧ Ext w w' := by
  have hX0 := SheetAt.new hb
  have hE0 : Ext w (w.alloc (.cells #[.slice A n c, .slice A' n' c'] 25)) := ext_alloc w _
  have HN := Lib.hid (And.intro hb.ncs (And.intro hb.nms hk1))
  have H1 := Lib.hid ((hh1.kept hE0 (Nat.le_refl _)).wider hE0.size)
  clear hb hk1 hh1
  go_enter Try.func8, Try.ntmps8
  go_upto_region 1 with fail
  obtain ⟨w0, hw0⟩ : ∃ w0, w.alloc (.cells #[.slice A n c, .slice A' n' c'] 25) = w0 := ⟨_, rfl⟩
  rw [hw0] at hX0 hE0 H1
  rw [hw0]
  obtain ⟨p, hp⟩ : ∃ p, w.heap.size = p := ⟨_, rfl⟩
  have HE := Lib.hid hE0
  rw [hp] at hX0
  rw [hp]
  have HX := Lib.hid hX0
  clear hw0 hE0 hp hX0
  obtain ⟨q0, q1⟩ := HX.out.cells
  have h39 := fine_any HX.out.sheet
  by_cases h0 : sheetErr cs ms = 0
  · rw [decide_eq_true h0] at h39
    have HS := Lib.hid h0
    clear h0
    go_wp2_with (fail)
    refine h39.mono ?_
    rintro e w1 ⟨rfl, e1⟩
    have HE := Lib.hid (HE.out.trans e1)
    have HX := Lib.hid (HX.out.ext e1)
    have H1 := Lib.hid (Held.ext H1.out e1)
    clear e1 h39 q0 q1
    by_cases g1 : 30 < (k1 : Int)
    · go_wp2_with fail
      refine (works_any _).mono ?_
      rintro e w2 ⟨rfl, e2⟩
      have HE := Lib.hid (HE.out.trans e2)
      clear e2
      go_wp2
      go_ret
      exact ⟨rfl, HE.out⟩
    · obtain ⟨q0, q1⟩ := HX.out.cells
      have hsm := sheet_ok HS.out
      have hn12 : n' ≤ 12 := by have := HN.out.2.1; have := hsm.1; omega
      have hn8 : n ≤ 8 := by have := HN.out.1; have := hsm.1; omega
      have h21 := lost_any HX.out.sheet
      clear hsm
      go_wp2_with fail
      refine h21.mono ?_
      intro e w2 hp2
      obtain ⟨e2, A3, m3, c3, rfl, hm3, hl3, hh3⟩ := post_ints hp2
      rw [if_pos HS.out] at hm3 hh3
      rw [HS.out]
      have HE := Lib.hid (HE.out.trans e2)
      have HX := Lib.hid (HX.out.ext e2)
      have H1 := Lib.hid (Held.ext H1.out e2)
      have H3 := Lib.hid hh3
      have HM3 := Lib.hid (And.intro hm3 hl3)
      clear e2 h21 q0 q1 hp2 hh3 hm3 hl3 g1
      obtain ⟨q0, q1⟩ := HX.out.cells
      have h40 := best_any HX.out.sheet
      go_wp2_with fail
      refine h40.mono ?_
      intro e w3 hp2
      obtain ⟨e2, A4, m4, c4, rfl, -, -, -⟩ := post_best hp2
      have HE := Lib.hid (HE.out.trans e2)
      have HX := Lib.hid (HX.out.ext e2)
      have H1 := Lib.hid (Held.ext H1.out e2)
      have H3 := Lib.hid (Held.ext H3.out e2)
      clear e2 h40 q0 q1 hp2
      have hwl := whole_lost HS.out
      rw [← HM3.out.1] at hwl
      -- what is left is the same in both cases
      have main : ∀ (W : World), Ext w3 W → True := fun _ _ => trivial
      clear main
      rcases whole_cases HS.out with hw | hw
      all_goals
        have HW := Lib.hid hw
        rw [hw]
      · have hm30 : m3 = 0 := hwl.1 hw
        clear hwl hw
        subst hm30
        go_wp2
        rename World => wB
        clear H1
        go_loopw [11, 12] (fun o i wr => ∃ k : Nat, k ≤ n ∧ i = .int .i64 k ∧ o = .int .i64 ((orNos cs ms (fitsUpto cs ms k) : Nat) : Int) ∧ Hid (Ext wB wr)) (fun _ i _ => n - (intOf i).toNat)
        case atStart => exact ⟨0, Nat.zero_le _, rfl, rfl, Lib.hid (Ext.refl _)⟩
        case round =>
          obtain ⟨k, hk, rfl, rfl, hE⟩ := hrel
          have HXr := Lib.hid (HX.out.ext hE.out)
          obtain ⟨q0, q1⟩ := HXr.out.cells
          by_cases hkn : k < n
          · have hkz : (k : Int) < (n : Int) := by omega
            have hkl : k < cs.length := by have := HN.out.1; omega
            have hpe : placesErr cs ms (k : Int) = 0 := by
              unfold placesErr
              rw [if_pos HS.out, if_neg]
              unfold strange
              simp
              omega
            have h19 := places_any HXr.out.sheet (k : Int)
            go_wp2_with fail
            refine h19.mono ?_
            intro e w4 hp2
            obtain ⟨e4, A5, m5, c5, rfl, hm5, hl5, hh5⟩ := post_longs hp2
            rw [hpe, if_pos rfl, places_are HS.out hkl] at hm5 hh5
            rw [hpe]
            have hal := ats_few cs ms k
            have hfu := fits_succ cs ms k
            rw [rows_pairs HS.out hkl] at hfu
            have hhe := has_err HS.out hkl
            have hfit := fun x hx => ats_fit (cs := cs) (ms := ms) HS.out hkl (x := x) hx
            have hsrt := nums_sorted (fitB cs ms k) 501
            rw [show numsTo (fitB cs ms k) 501 = atsOf cs ms k from rfl] at hsrt
            obtain ⟨xs, hxs⟩ : ∃ xs, atsOf cs ms k = xs := ⟨_, rfl⟩
            rw [hxs] at hm5 hh5 hal hfu hfit hsrt
            simp only [hxs] at hhe
            have HXr := Lib.hid (HXr.out.ext e4)
            have HE4 := Lib.hid (hE.out.trans e4)
            have H5 := Lib.hid hh5
            have HM5 := Lib.hid hm5
            have HFU := Lib.hid hfu
            have HHE := Lib.hid hhe
            have HFIT := Lib.hid hfit
            have HSRT := Lib.hid hsrt
            clear e4 h19 hp2 hh5 hm5 hfu hhe hfit hsrt hxs hpe q0 q1 hE
            -- Has(s, Row(c, at))
            have h17 : ∀ W, Ext w4 W → Calls Try.prog 17 #[.agg #[.slice A n c, .slice A' n' c'], .agg #[.int .i64 (k : Int), .int .i64 at0]] W fun e w' => ∃ A9 c9, e = .returned (.tuple #[.slice A9 (if hasErr cs ms ((k : Int), at0) = 0 then hasOf cs ms ((k : Int), at0) else []).length c9, .int .i64 (hasErr cs ms ((k : Int), at0))]) ∧ Held w' w'.heap.size 1 encI A9 (if hasErr cs ms ((k : Int), at0) = 0 then hasOf cs ms ((k : Int), at0) else []) ∧ Ext W w' := fun W hW =>
              (has2_any (HXr.out.ext hW).sheet ((k : Int), at0)).mono fun e w' hp2 => by
                obtain ⟨e5, A9, m9, c9, he, hm9, _, hh9⟩ := post_ints hp2
                rw [hm9] at he
                exact ⟨A9, c9, he, hh9, e5⟩
            have hee := HHE.out at0
            rw [hee] at h17
            obtain ⟨er, her⟩ : ∃ er, (if at0 ∈ xs then (0 : Int) else 19) = er := ⟨_, rfl⟩
            rw [her] at h17
            obtain ⟨hs, hhs⟩ : ∃ hs, (if er = 0 then hasOf cs ms ((k : Int), at0) else []) = hs := ⟨_, rfl⟩
            rw [hhs] at h17
            have H17 := Lib.hid h17
            have HER := Lib.hid her
            clear h17 hee hhs her
            go_upto_region 12 with fail
            refine ei12_wp (p := p) (A := A) (n := n) (c := c) (A' := A') (n' := n') (c' := c') (kk := k) (mm := hs.length) (x := at0) (er := er) (hs := hs) rfl rfl rfl rfl
              (fun W hW => (HXr.out.ext hW).cells.1) (fun W hW => (HXr.out.ext hW).cells.2) (fun W hW => H17.out W hW) ?_
            intro w5 v3 v4 v5 v6 v8 e5 _ _ _ _ i8
            obtain ⟨A9, c9, rfl, _⟩ : ∃ A9 c9, v8 = .slice A9 hs.length c9 ∧ Held w5 w5.heap.size 1 encI A9 hs := i8
            have hdr : ei12Reg.toList.drop 10 = [] := List.drop_eq_nil_of_le (by rw [Array.length_toList]; exact Nat.le_of_eq (by kernel_rfl))
            rw [hdr]
            simp only [wpList, puts, List.foldl_cons, List.foldl_nil, Act.put, List.setIfInBounds_toArray, List.set_cons_succ, List.set_cons_zero]
            have HXr := Lib.hid (HXr.out.ext e5)
            have HE4 := Lib.hid (HE4.out.trans e5)
            have H5 := Lib.hid (Held.ext H5.out e5)
            clear hdr e5
            have h44 := inLongs_any A5 m5 c5 xs at0 w5 HM5.out hl5 H5.out
            have hin2 : (er = 0 ∧ decide (at0 ∈ xs) = true) ∨ (er = 19 ∧ decide (at0 ∈ xs) = false) := by
              have := HER.out
              by_cases h : at0 ∈ xs
              · rw [if_pos h] at this
                exact .inl ⟨this.symm, decide_eq_true h⟩
              · rw [if_neg h] at this
                exact .inr ⟨this.symm, decide_eq_false h⟩
            obtain ⟨ib, hib⟩ : ∃ ib, decide (at0 ∈ xs) = ib := ⟨_, rfl⟩
            rw [hib] at h44 hin2
            clear hib
            rcases hin2 with ⟨rfl, rfl⟩ | ⟨rfl, rfl⟩
            all_goals
              go_wp2_with fail
              refine h44.mono ?_
              rintro e w6 ⟨rfl, e6⟩
              have e6 : Ext w5 w6 := e6
              have HXr := Lib.hid (HXr.out.ext e6)
              have HE4 := Lib.hid (HE4.out.trans e6)
              have H5 := Lib.hid (Held.ext H5.out e6)
              clear e6 h44
              go_wp2
              go_loopw [11, 17] (fun o i wr => ∃ j : Nat, j ≤ m5 ∧ i = .int .i64 j ∧ o = .int .i64 ((orNos cs ms (fitsUpto cs ms k ++ (xs.take j).map fun x => (k, x)) : Nat) : Int) ∧ Hid (Ext w6 wr)) (fun _ i _ => m5 - (intOf i).toNat)
              case atStart => exact ⟨0, Nat.zero_le _, rfl, by simp, Lib.hid (Ext.refl _)⟩
              case round =>
                obtain ⟨j, hj, rfl, rfl, hE⟩ := hrel
                have HXq := Lib.hid (HXr.out.ext hE.out)
                by_cases hjm : j < m5
                · have hjz : (j : Int) < (m5 : Int) := by omega
                  have hjx : j < xs.length := by rw [← HM5.out]; exact hjm
                  obtain ⟨b, off, rfl, hbl, hc⟩ := num_get2 (Held.ext H5.out hE.out) hjx
                  have d0 := hc j hjx
                  have hprev : ∀ q, j = q + 1 → ∃ (hq : q < xs.length), wr.cell? ⟨b, off + q, none⟩ = some (.int .i64 xs[q]) ∧ xs[q] < xs[j] := fun q hq => ⟨by omega, hc q (by omega), List.pairwise_iff_getElem.1 HSRT.out q j (by omega) hjx (by omega)⟩
                  have hmx : xs[j] ∈ xs := List.getElem_mem hjx
                  obtain ⟨hff, hho⟩ := HFIT.out _ hmx
                  have hh1 := has_some HS.out hff
                  have hbits := had_bits (cs := cs) (ms := ms) (sheet_ok HS.out).1.2.2 k xs[j]
                  have hnl := fun v hv => had_not_lost (cs := cs) (ms := ms) hff (v := v) hv
                  have hee2 := HHE.out xs[j]
                  rw [if_pos hmx] at hee2
                  have hsu : orNos cs ms (fitsUpto cs ms k ++ (xs.take (j + 1)).map fun x => (k, x)) = orNos cs ms (fitsUpto cs ms k ++ (xs.take j).map fun x => (k, x)) ||| noOf cs ms (k, xs[j]) := by
                    rw [List.take_succ_eq_append_getElem hjx, List.map_append, ← List.append_assoc]
                    exact or_snoc _ _ _ _
                  have hzl := or_lt cs ms (fitsUpto cs ms k ++ (xs.take j).map fun x => (k, x))
                  have hhl : (numsTo (hadB cs ms k xs[j]) ms.length).length ≤ 12 := by
                    have h1 := nums_few (hadB cs ms k xs[j]) ms.length
                    have h2 := (sheet_ok HS.out).1.2.2
                    omega
                  obtain ⟨x, hx⟩ : ∃ x, xs[j] = x := ⟨_, rfl⟩
                  rw [hx] at d0 hho hh1 hbits hnl hee2 hsu hhl
                  simp only [hx] at hprev
                  have h17 : ∀ W, Ext wr W → Calls Try.prog 17 #[.agg #[.slice A n c, .slice A' n' c'], .agg #[.int .i64 (k : Int), .int .i64 x]] W fun e w' => ∃ A9 c9, e = .returned (.tuple #[.slice A9 (numsTo (hadB cs ms k x) ms.length).length c9, .int .i64 0]) ∧ Held w' w'.heap.size 1 encI A9 (numsTo (hadB cs ms k x) ms.length) ∧ Ext W w' := fun W hW =>
                    (has2_any (HXq.out.ext hW).sheet ((k : Int), x)).mono fun e w' hp2 => by
                      obtain ⟨e5, A9, m9, c9, he, hm9, _, hh9⟩ := post_ints hp2
                      rw [hee2, if_pos rfl, hho] at hm9 hh9
                      rw [hee2, hm9] at he
                      exact ⟨A9, c9, he, hh9, e5⟩
                  obtain ⟨hs2, hhs2⟩ : ∃ hs2, numsTo (hadB cs ms k x) ms.length = hs2 := ⟨_, rfl⟩
                  simp only [hhs2] at h17 hnl
                  rw [hhs2] at hh1 hbits hhl
                  have hz4 : orNos cs ms (fitsUpto cs ms k ++ (xs.take j).map fun x => (k, x)) < 4096 := Nat.lt_of_lt_of_le hzl (Nat.pow_le_pow_right (by decide) (sheet_ok HS.out).1.2.2 : 2 ^ ms.length ≤ 2 ^ 12)
                  obtain ⟨z, hz⟩ : ∃ z, orNos cs ms (fitsUpto cs ms k ++ (xs.take j).map fun x => (k, x)) = z := ⟨_, rfl⟩
                  rw [hz] at hsu hz4
                  rw [hz]
                  have H17 := Lib.hid h17
                  have HNL := Lib.hid hnl
                  have HBT := Lib.hid hbits
                  have HSU := Lib.hid hsu
                  have HPV := Lib.hid (fun q (hq : j = q + 1) => (hprev q hq))
                  have HD0 := Lib.hid (fun W (hW : Ext wr W) => (hW.cell (p := ⟨b, off + j, none⟩) hbl).trans d0)
                  have HBL := Lib.hid hbl
                  have hm5b : m5 ≤ 501 := by rw [HM5.out]; exact hal
                  clear hff hho hbits hnl hee2 hsu hzl hx h17 hhs2 hz hprev d0 hmx hc
                  go_upto_region 18 with fail
                  refine ei18_wp (p := p) (A := A) (n := n) (c := c) (A' := A') (n' := n') (c' := c') (kk := k) (mm := hs2.length) (g := b) (of := off) (ln := m5) (cl := c5) (jj := j) (x := x) (er := 0) (hs := hs2) rfl rfl rfl rfl rfl
                    (fun W hW => (HXq.out.ext hW).cells.1) (fun W hW => (HXq.out.ext hW).cells.2) hjm (fun W hW => HD0.out W hW) (fun W hW => H17.out W hW) ?_
                  intro w8 v6 v7 v8 v9 v11 e8 _ _ _ _ i11
                  obtain ⟨A9, c9, rfl, hh9⟩ : ∃ A9 c9, v11 = .slice A9 hs2.length c9 ∧ Held w8 w8.heap.size 1 encI A9 hs2 := i11
                  have hdr : ei18Reg.toList.drop 13 = [] := List.drop_eq_nil_of_le (by rw [Array.length_toList]; exact Nat.le_of_eq (by kernel_rfl))
                  rw [hdr]
                  simp only [wpList, puts, List.foldl_cons, List.foldl_nil, Act.put, List.setIfInBounds_toArray, List.set_cons_succ, List.set_cons_zero]
                  have d0 := HD0.out w8 e8
                  have HXq := Lib.hid (HXq.out.ext e8)
                  have HE8 := Lib.hid (hE.out.trans e8)
                  have HW8 := Lib.hid e8
                  have H9 := Lib.hid hh9
                  have hlz : ((hs2.length : Int) == 0) = false := by
                    have hne : ¬ (hs2.length : Int) = 0 := by omega
                    simpa using hne
                  clear hdr e8 hh9 hE
                  have hcase : j = 0 ∨ ∃ q, j = q + 1 := by
                    cases j with
                    | zero => exact .inl rfl
                    | succ q => exact .inr ⟨q, rfl⟩
                  rcases hcase with hj0 | ⟨q, hq⟩
                  all_goals
                    first
                    | (have hjq : ¬ (0 : Int) < (j : Int) := by omega
                       have hjn : ¬ 0 < j := by omega
                       have hjd : decide (0 < j) = false := decide_eq_false hjn
                       clear hj0)
                    | (obtain ⟨hql, y0, hyx⟩ := HPV.out q hq
                       have y1 := (HW8.out.cell (p := ⟨b, off + q, none⟩) HBL.out).trans y0
                       obtain ⟨y, hy⟩ : ∃ y, xs[q] = y := ⟨_, rfl⟩
                       rw [hy] at y1 hyx
                       have hyn : ¬ x ≤ y := by omega
                       have w1 : IntKind.i64.wrap ((j : Int) - 1) = (q : Int) := by rw [show ((j : Int) - 1) = (q : Int) from by omega]; exact IntWalk.i64_in _ (by omega)
                       have hqz : (0 : Int) < (j : Int) := by omega
                       have hjn : 0 < j := by omega
                       have hjd : decide (0 < j) = true := decide_eq_true hjn
                       have hqn : (q : Int) < (m5 : Int) := by omega
                       have hqn2 : q < m5 := by omega
                       have w4 : (j : Int) - 1 = (q : Int) := by omega
                       clear y0 hy hq hyx)
                    go_upto_region 19 with fail
                    go_quiet (fail)
                    obtain ⟨w9, hw9⟩ : ∃ w9, w8.drewN nq = w9 := ⟨_, rfl⟩
                    have e9 : Ext w8 w9 := by rw [← hw9]; exact bdrewN (Ext.refl _) _
                    rw [hw9]
                    have HXq := Lib.hid (HXq.out.ext e9)
                    have HE9 := Lib.hid (HE8.out.trans e9)
                    have H9 := Lib.hid (Held.ext H9.out e9)
                    have H3q := Lib.hid (Held.ext H3.out ((HE4.out.trans HE8.out).trans e9))
                    clear hw9 e9 d0
                    go_wp2
                    go_loopw [11, 20] (fun o i wq => ∃ t : Nat, t ≤ hs2.length ∧ i = .int .i64 t ∧ o = .int .i64 ((z ||| marksNo ((hs2.take t).map Int.toNat) : Nat) : Int) ∧ Hid (Ext w9 wq)) (fun _ i _ => hs2.length - (intOf i).toNat)
                    case atStart => exact ⟨0, Nat.zero_le _, rfl, by simp [marksNo], Lib.hid (Ext.refl _)⟩
                    case round =>
                      obtain ⟨t, ht, rfl, rfl, hE⟩ := hrel
                      by_cases htl : t < hs2.length
                      · have htz : (t : Int) < (hs2.length : Int) := by omega
                        obtain ⟨b2, off2, rfl, hbl2, hc2⟩ := num_get2 (Held.ext H9.out hE.out) htl
                        have e0 := hc2 t htl
                        have hvm := HNL.out hs2[t] (List.getElem_mem htl)
                        have hst : (hs2.take (t + 1)).map Int.toNat = (hs2.take t).map Int.toNat ++ [hs2[t].toNat] := by
                          rw [List.take_succ_eq_append_getElem htl, List.map_append]
                          rfl
                        have hma : ∀ i, i ∈ (hs2.take t).map Int.toNat → i < 12 := fun i hi => by
                          obtain ⟨u, hu, rfl⟩ := List.mem_map.1 hi
                          have h1 := HNL.out u (List.mem_of_mem_take hu)
                          have h2 := HN.out.2.1
                          omega
                        have hm4 := marksNo_lt hma
                        have hsn := marksNo_snoc ((hs2.take t).map Int.toNat) hs2[t].toNat
                        rw [← hst] at hsn
                        obtain ⟨v, hv⟩ : ∃ v, hs2[t] = v := ⟨_, rfl⟩
                        rw [hv] at e0 hvm hsn
                        obtain ⟨hv0, hv1, hvl⟩ := hvm
                        obtain ⟨vn, hvn⟩ : ∃ vn : Nat, v = (vn : Int) := ⟨v.toNat, by omega⟩
                        subst hvn
                        rw [Int.toNat_natCast] at hsn
                        rw [← HN.out.2.1] at hv1
                        have hx12 : vn < 12 := by omega
                        have hp12 : 2 ^ vn < 4096 := (Nat.pow_lt_pow_right (by decide) hx12 : 2 ^ vn < 2 ^ 12)
                        have hr4 : z ||| marksNo ((hs2.take t).map Int.toNat) < 4096 := Nat.or_lt_two_pow (n := 12) hz4 hm4
                        have hnew : z ||| marksNo ((hs2.take (t + 1)).map Int.toNat) = (z ||| marksNo ((hs2.take t).map Int.toNat)) ||| 2 ^ vn := by rw [hsn, Nat.or_assoc]
                        generalize z ||| marksNo ((hs2.take t).map Int.toNat) = o at hnew hr4 ⊢
                        have hbo := bits_or o (2 ^ vn) (by omega) (by omega)
                        have hwp := wrap_pow vn (by omega)
                        have hin : ∀ W, Ext wr W → Calls Try.prog 45 #[.slice A3 0 c3, .int .i64 (vn : Int)] W fun e w' => e = .returned (.bool false) ∧ Ext W w' := fun W hW => by
                          have := in_any A3 0 c3 (lostOf cs ms) (vn : Int) W HM3.out.1 (by have := HM3.out.2; omega) (Held.ext H3q.out (hE.out.trans hW))
                          rw [decide_eq_false hvl] at this
                          exact this
                        have g0 : ¬ (vn : Int) < 0 := by omega
                        have g1 : ¬ (n' : Int) ≤ (vn : Int) := by omega
                        have HIN := Lib.hid hin
                        have HC2 := Lib.hid (fun W (hW : Ext wr W) => (hW.cell (p := ⟨b2, off2 + t, none⟩) hbl2).trans e0)
                        have HBO := Lib.hid hbo
                        have HNW := Lib.hid hnew
                        have HWP := Lib.hid hwp
                        have HXs := Lib.hid (HXq.out.ext hE.out)
                        clear hsn hst hma hm4 hv hnew hbo hwp hin hv0 hv1 hvl e0 hbl2 hc2
                        go_upto_region 24 with fail
                        refine ei24_wp (p := p) (A' := A') (n' := n') (c' := c') (g := b2) (of := off2) (ln := hs2.length) (cl := c9) (jj := t) (vl := .slice A3 0 c3) (x := (vn : Int)) rfl rfl rfl rfl rfl
                          htl (fun W hW => HC2.out W hW) g0 (fun W hW => (HXs.out.ext hW).cells.2) g1 (fun W hW => HIN.out W hW) ?_
                        intro w10 v21 e10 _
                        have hdr : ei24Reg.toList.drop 23 = [] := List.drop_eq_nil_of_le (by rw [Array.length_toList]; exact Nat.le_of_eq (by kernel_rfl))
                        rw [hdr]
                        simp only [wpList, puts, List.foldl_cons, List.foldl_nil, Act.put, List.setIfInBounds_toArray, List.set_cons_succ, List.set_cons_zero]
                        have e0 := HC2.out w10 e10
                        have HE10 := Lib.hid (hE.out.trans e10)
                        clear hdr e10 hE g0 g1
                        go_wp2
                        go_roundw
                        case measure => simp [intOf]; omega
                        case rel =>
                          refine ⟨t + 1, by omega, by go_num, ?_, HE10⟩
                          rw [HNW.out, ← HBO.out]
                          congr 2
                      · have htz : ¬ (t : Int) < (hs2.length : Int) := by omega
                        obtain rfl : t = hs2.length := by omega
                        have hend : z ||| marksNo ((hs2.take hs2.length).map Int.toNat) = orNos cs ms (fitsUpto cs ms k ++ (xs.take (j + 1)).map fun x => (k, x)) := by
                          rw [List.take_length, HBT.out, HSU.out]
                        rw [hend]
                        have HEN := Lib.hid (HE9.out.trans hE.out)
                        clear hend hE
                        go_wp2
                        go_roundw
                        case measure => simp [intOf]; omega
                        case rel => exact ⟨j + 1, by omega, by go_num, rfl, HEN⟩
                · have hjz : ¬ (j : Int) < (m5 : Int) := by omega
                  obtain rfl : j = m5 := by omega
                  have hfull : fitsUpto cs ms k ++ (xs.take j).map (fun x => (k, x)) = fitsUpto cs ms (k + 1) := by
                    rw [List.take_of_length_le (by rw [HM5.out]; exact Nat.le_refl _)]
                    exact HFU.out.symm
                  have HE9 := Lib.hid (HE4.out.trans hE.out)
                  have HFL := Lib.hid hfull
                  clear hfull hE
                  rw [HFL.out]
                  go_wp2
                  go_roundw
                  case measure => simp [intOf]; omega
                  case rel => exact ⟨k + 1, by omega, by go_num, rfl, HE9⟩
          · have hkz : ¬ (k : Int) < (n : Int) := by omega
            obtain rfl : k = n := by omega
            have hfo : fitsUpto cs ms k = fitsOf cs ms := by
              unfold fitsOf
              rw [← HN.out.1]
            rw [hfo]
            have hsum := had_lost HS.out
            have hol := or_lt cs ms (fitsOf cs ms)
            have ho4 : orNos cs ms (fitsOf cs ms) < 4096 := Nat.lt_of_lt_of_le hol (Nat.pow_le_pow_right (by decide) (sheet_ok HS.out).1.2.2 : 2 ^ ms.length ≤ 2 ^ 12)
            generalize orNos cs ms (fitsOf cs ms) = hd at hsum ho4 ⊢
            obtain ⟨cn, hcn⟩ : ∃ cn, (numsTo (fun i => hd.testBit i) 12).length = cn := ⟨_, rfl⟩
            have hlist : ∀ W, Ext wr W → Calls Try.prog 46 #[.int .i64 (hd : Int)] W fun e w' => ∃ A9 c9, e = .returned (.slice A9 cn c9) ∧ Ext W w' := fun W _ => (list_any hd ho4 W).mono fun e w' ⟨v, he, hw, hM⟩ => by
              obtain ⟨A9, c9, rfl⟩ := made_slice hM
              rw [hcn] at he
              exact ⟨A9, c9, he, hw⟩
            rw [hcn, ← HN.out.2.1, ← HM3.out.1] at hsum
            have hw2 : IntKind.i64.wrap ((cn : Int) + ((0 : Nat) : Int)) = (n' : Int) := by
              rw [show (cn : Int) + ((0 : Nat) : Int) = (n' : Int) from by omega]
              exact IntWalk.i64_in _ (by omega)
            have HLS := Lib.hid hlist
            have HEE := Lib.hid (HE.out.trans hE.out)
            clear hfo hol hcn hlist hsum hE
            go_upto_region 27 with fail
            refine ei27_wp (p := p) (A' := A') (n' := n') (c' := c') (hd := hd) (cn := cn) (ll := 0) (Al := A3) (cl := c3) rfl rfl rfl rfl
              (fun W hW => HLS.out W hW) hw2 (fun W hW => (HXr.out.ext hW).cells.2) (fun W _ => works_any W) ?_
            intro w8 v1 v11 e8 _ _
            have hdr : ei27Reg.toList.drop 14 = [] := List.drop_eq_nil_of_le (by rw [Array.length_toList]; exact Nat.le_of_eq (by kernel_rfl))
            rw [hdr]
            simp only [wpList, puts, List.foldl_cons, List.foldl_nil, Act.put, List.setIfInBounds_toArray, List.set_cons_succ, List.set_cons_zero]
            have HF := Lib.hid (HEE.out.trans e8)
            clear hdr e8
            go_wp2
            go_ret
            exact ⟨rfl, HF.out⟩
      · have hm30 : ¬ m3 = 0 := fun h => by
          have := hwl.2 h
          rw [hw] at this
          cases this
        clear hwl hw
        have hmz : ((m3 : Int) == 0) = false := by simp; omega
        have hmz2 : (0 : Int) < (m3 : Int) := by omega
        obtain ⟨q0, q1⟩ := HX.out.cells
        obtain ⟨G, hG⟩ : ∃ G, rowsErr cs ms ys = G := ⟨_, rfl⟩
        have hg0 : ¬ G = 0 := fun h => by
          have h1 := (rows_best (cs := cs) (ms := ms) (ys := ys) (by rw [hG, h])).1
          rw [HW.out] at h1
          cases h1
        have hgb : (G == 0) = false := by simpa using hg0
        have h41 := checkRows_any HX.out.sheet A1 k1 c1 ys HN.out.2.2 hm1 H1.out
        rw [hG] at h41
        clear hG hg0 hm30
        go_wp2_with fail
        refine h41.mono ?_
        rintro e w3' ⟨rfl, e2⟩
        have HE := Lib.hid (HE.out.trans e2)
        have HX := Lib.hid (HX.out.ext e2)
        have H3 := Lib.hid (Held.ext H3.out e2)
        clear e2 h41 q0 q1
        go_wp2
        rename World => wB
        clear H1
        go_loopw [11, 12] (fun o i wr => ∃ k : Nat, k ≤ n ∧ i = .int .i64 k ∧ o = .int .i64 ((orNos cs ms (fitsUpto cs ms k) : Nat) : Int) ∧ Hid (Ext wB wr)) (fun _ i _ => n - (intOf i).toNat)
        case atStart => exact ⟨0, Nat.zero_le _, rfl, rfl, Lib.hid (Ext.refl _)⟩
        case round =>
          obtain ⟨k, hk, rfl, rfl, hE⟩ := hrel
          have HXr := Lib.hid (HX.out.ext hE.out)
          obtain ⟨q0, q1⟩ := HXr.out.cells
          by_cases hkn : k < n
          · have hkz : (k : Int) < (n : Int) := by omega
            have hkl : k < cs.length := by have := HN.out.1; omega
            have hpe : placesErr cs ms (k : Int) = 0 := by
              unfold placesErr
              rw [if_pos HS.out, if_neg]
              unfold strange
              simp
              omega
            have h19 := places_any HXr.out.sheet (k : Int)
            go_wp2_with fail
            refine h19.mono ?_
            intro e w4 hp2
            obtain ⟨e4, A5, m5, c5, rfl, hm5, hl5, hh5⟩ := post_longs hp2
            rw [hpe, if_pos rfl, places_are HS.out hkl] at hm5 hh5
            rw [hpe]
            have hal := ats_few cs ms k
            have hfu := fits_succ cs ms k
            rw [rows_pairs HS.out hkl] at hfu
            have hhe := has_err HS.out hkl
            have hfit := fun x hx => ats_fit (cs := cs) (ms := ms) HS.out hkl (x := x) hx
            have hsrt := nums_sorted (fitB cs ms k) 501
            rw [show numsTo (fitB cs ms k) 501 = atsOf cs ms k from rfl] at hsrt
            obtain ⟨xs, hxs⟩ : ∃ xs, atsOf cs ms k = xs := ⟨_, rfl⟩
            rw [hxs] at hm5 hh5 hal hfu hfit hsrt
            simp only [hxs] at hhe
            have HXr := Lib.hid (HXr.out.ext e4)
            have HE4 := Lib.hid (hE.out.trans e4)
            have H5 := Lib.hid hh5
            have HM5 := Lib.hid hm5
            have HFU := Lib.hid hfu
            have HHE := Lib.hid hhe
            have HFIT := Lib.hid hfit
            have HSRT := Lib.hid hsrt
            clear e4 h19 hp2 hh5 hm5 hfu hhe hfit hsrt hxs hpe q0 q1 hE
            -- Has(s, Row(c, at))
            have h17 : ∀ W, Ext w4 W → Calls Try.prog 17 #[.agg #[.slice A n c, .slice A' n' c'], .agg #[.int .i64 (k : Int), .int .i64 at0]] W fun e w' => ∃ A9 c9, e = .returned (.tuple #[.slice A9 (if hasErr cs ms ((k : Int), at0) = 0 then hasOf cs ms ((k : Int), at0) else []).length c9, .int .i64 (hasErr cs ms ((k : Int), at0))]) ∧ Held w' w'.heap.size 1 encI A9 (if hasErr cs ms ((k : Int), at0) = 0 then hasOf cs ms ((k : Int), at0) else []) ∧ Ext W w' := fun W hW =>
              (has2_any (HXr.out.ext hW).sheet ((k : Int), at0)).mono fun e w' hp2 => by
                obtain ⟨e5, A9, m9, c9, he, hm9, _, hh9⟩ := post_ints hp2
                rw [hm9] at he
                exact ⟨A9, c9, he, hh9, e5⟩
            have hee := HHE.out at0
            rw [hee] at h17
            obtain ⟨er, her⟩ : ∃ er, (if at0 ∈ xs then (0 : Int) else 19) = er := ⟨_, rfl⟩
            rw [her] at h17
            obtain ⟨hs, hhs⟩ : ∃ hs, (if er = 0 then hasOf cs ms ((k : Int), at0) else []) = hs := ⟨_, rfl⟩
            rw [hhs] at h17
            have H17 := Lib.hid h17
            have HER := Lib.hid her
            clear h17 hee hhs her
            go_upto_region 12 with fail
            refine ei12_wp (p := p) (A := A) (n := n) (c := c) (A' := A') (n' := n') (c' := c') (kk := k) (mm := hs.length) (x := at0) (er := er) (hs := hs) rfl rfl rfl rfl
              (fun W hW => (HXr.out.ext hW).cells.1) (fun W hW => (HXr.out.ext hW).cells.2) (fun W hW => H17.out W hW) ?_
            intro w5 v3 v4 v5 v6 v8 e5 _ _ _ _ i8
            obtain ⟨A9, c9, rfl, _⟩ : ∃ A9 c9, v8 = .slice A9 hs.length c9 ∧ Held w5 w5.heap.size 1 encI A9 hs := i8
            have hdr : ei12Reg.toList.drop 10 = [] := List.drop_eq_nil_of_le (by rw [Array.length_toList]; exact Nat.le_of_eq (by kernel_rfl))
            rw [hdr]
            simp only [wpList, puts, List.foldl_cons, List.foldl_nil, Act.put, List.setIfInBounds_toArray, List.set_cons_succ, List.set_cons_zero]
            have HXr := Lib.hid (HXr.out.ext e5)
            have HE4 := Lib.hid (HE4.out.trans e5)
            have H5 := Lib.hid (Held.ext H5.out e5)
            clear hdr e5
            have h44 := inLongs_any A5 m5 c5 xs at0 w5 HM5.out hl5 H5.out
            have hin2 : (er = 0 ∧ decide (at0 ∈ xs) = true) ∨ (er = 19 ∧ decide (at0 ∈ xs) = false) := by
              have := HER.out
              by_cases h : at0 ∈ xs
              · rw [if_pos h] at this
                exact .inl ⟨this.symm, decide_eq_true h⟩
              · rw [if_neg h] at this
                exact .inr ⟨this.symm, decide_eq_false h⟩
            obtain ⟨ib, hib⟩ : ∃ ib, decide (at0 ∈ xs) = ib := ⟨_, rfl⟩
            rw [hib] at h44 hin2
            clear hib
            rcases hin2 with ⟨rfl, rfl⟩ | ⟨rfl, rfl⟩
            all_goals
              go_wp2_with fail
              refine h44.mono ?_
              rintro e w6 ⟨rfl, e6⟩
              have e6 : Ext w5 w6 := e6
              have HXr := Lib.hid (HXr.out.ext e6)
              have HE4 := Lib.hid (HE4.out.trans e6)
              have H5 := Lib.hid (Held.ext H5.out e6)
              clear e6 h44
              go_wp2
              go_loopw [11, 17] (fun o i wr => ∃ j : Nat, j ≤ m5 ∧ i = .int .i64 j ∧ o = .int .i64 ((orNos cs ms (fitsUpto cs ms k ++ (xs.take j).map fun x => (k, x)) : Nat) : Int) ∧ Hid (Ext w6 wr)) (fun _ i _ => m5 - (intOf i).toNat)
              case atStart => exact ⟨0, Nat.zero_le _, rfl, by simp, Lib.hid (Ext.refl _)⟩
              case round =>
                obtain ⟨j, hj, rfl, rfl, hE⟩ := hrel
                have HXq := Lib.hid (HXr.out.ext hE.out)
                by_cases hjm : j < m5
                · have hjz : (j : Int) < (m5 : Int) := by omega
                  have hjx : j < xs.length := by rw [← HM5.out]; exact hjm
                  obtain ⟨b, off, rfl, hbl, hc⟩ := num_get2 (Held.ext H5.out hE.out) hjx
                  have d0 := hc j hjx
                  have hprev : ∀ q, j = q + 1 → ∃ (hq : q < xs.length), wr.cell? ⟨b, off + q, none⟩ = some (.int .i64 xs[q]) ∧ xs[q] < xs[j] := fun q hq => ⟨by omega, hc q (by omega), List.pairwise_iff_getElem.1 HSRT.out q j (by omega) hjx (by omega)⟩
                  have hmx : xs[j] ∈ xs := List.getElem_mem hjx
                  obtain ⟨hff, hho⟩ := HFIT.out _ hmx
                  have hh1 := has_some HS.out hff
                  have hbits := had_bits (cs := cs) (ms := ms) (sheet_ok HS.out).1.2.2 k xs[j]
                  have hnl := fun v hv => had_not_lost (cs := cs) (ms := ms) hff (v := v) hv
                  have hee2 := HHE.out xs[j]
                  rw [if_pos hmx] at hee2
                  have hsu : orNos cs ms (fitsUpto cs ms k ++ (xs.take (j + 1)).map fun x => (k, x)) = orNos cs ms (fitsUpto cs ms k ++ (xs.take j).map fun x => (k, x)) ||| noOf cs ms (k, xs[j]) := by
                    rw [List.take_succ_eq_append_getElem hjx, List.map_append, ← List.append_assoc]
                    exact or_snoc _ _ _ _
                  have hzl := or_lt cs ms (fitsUpto cs ms k ++ (xs.take j).map fun x => (k, x))
                  have hhl : (numsTo (hadB cs ms k xs[j]) ms.length).length ≤ 12 := by
                    have h1 := nums_few (hadB cs ms k xs[j]) ms.length
                    have h2 := (sheet_ok HS.out).1.2.2
                    omega
                  obtain ⟨x, hx⟩ : ∃ x, xs[j] = x := ⟨_, rfl⟩
                  rw [hx] at d0 hho hh1 hbits hnl hee2 hsu hhl
                  simp only [hx] at hprev
                  have h17 : ∀ W, Ext wr W → Calls Try.prog 17 #[.agg #[.slice A n c, .slice A' n' c'], .agg #[.int .i64 (k : Int), .int .i64 x]] W fun e w' => ∃ A9 c9, e = .returned (.tuple #[.slice A9 (numsTo (hadB cs ms k x) ms.length).length c9, .int .i64 0]) ∧ Held w' w'.heap.size 1 encI A9 (numsTo (hadB cs ms k x) ms.length) ∧ Ext W w' := fun W hW =>
                    (has2_any (HXq.out.ext hW).sheet ((k : Int), x)).mono fun e w' hp2 => by
                      obtain ⟨e5, A9, m9, c9, he, hm9, _, hh9⟩ := post_ints hp2
                      rw [hee2, if_pos rfl, hho] at hm9 hh9
                      rw [hee2, hm9] at he
                      exact ⟨A9, c9, he, hh9, e5⟩
                  obtain ⟨hs2, hhs2⟩ : ∃ hs2, numsTo (hadB cs ms k x) ms.length = hs2 := ⟨_, rfl⟩
                  simp only [hhs2] at h17 hnl
                  rw [hhs2] at hh1 hbits hhl
                  have hz4 : orNos cs ms (fitsUpto cs ms k ++ (xs.take j).map fun x => (k, x)) < 4096 := Nat.lt_of_lt_of_le hzl (Nat.pow_le_pow_right (by decide) (sheet_ok HS.out).1.2.2 : 2 ^ ms.length ≤ 2 ^ 12)
                  obtain ⟨z, hz⟩ : ∃ z, orNos cs ms (fitsUpto cs ms k ++ (xs.take j).map fun x => (k, x)) = z := ⟨_, rfl⟩
                  rw [hz] at hsu hz4
                  rw [hz]
                  have H17 := Lib.hid h17
                  have HNL := Lib.hid hnl
                  have HBT := Lib.hid hbits
                  have HSU := Lib.hid hsu
                  have HPV := Lib.hid (fun q (hq : j = q + 1) => (hprev q hq))
                  have HD0 := Lib.hid (fun W (hW : Ext wr W) => (hW.cell (p := ⟨b, off + j, none⟩) hbl).trans d0)
                  have HBL := Lib.hid hbl
                  have hm5b : m5 ≤ 501 := by rw [HM5.out]; exact hal
                  clear hff hho hbits hnl hee2 hsu hzl hx h17 hhs2 hz hprev d0 hmx hc
                  go_upto_region 18 with fail
                  refine ei18_wp (p := p) (A := A) (n := n) (c := c) (A' := A') (n' := n') (c' := c') (kk := k) (mm := hs2.length) (g := b) (of := off) (ln := m5) (cl := c5) (jj := j) (x := x) (er := 0) (hs := hs2) rfl rfl rfl rfl rfl
                    (fun W hW => (HXq.out.ext hW).cells.1) (fun W hW => (HXq.out.ext hW).cells.2) hjm (fun W hW => HD0.out W hW) (fun W hW => H17.out W hW) ?_
                  intro w8 v6 v7 v8 v9 v11 e8 _ _ _ _ i11
                  obtain ⟨A9, c9, rfl, hh9⟩ : ∃ A9 c9, v11 = .slice A9 hs2.length c9 ∧ Held w8 w8.heap.size 1 encI A9 hs2 := i11
                  have hdr : ei18Reg.toList.drop 13 = [] := List.drop_eq_nil_of_le (by rw [Array.length_toList]; exact Nat.le_of_eq (by kernel_rfl))
                  rw [hdr]
                  simp only [wpList, puts, List.foldl_cons, List.foldl_nil, Act.put, List.setIfInBounds_toArray, List.set_cons_succ, List.set_cons_zero]
                  have d0 := HD0.out w8 e8
                  have HXq := Lib.hid (HXq.out.ext e8)
                  have HE8 := Lib.hid (hE.out.trans e8)
                  have HW8 := Lib.hid e8
                  have H9 := Lib.hid hh9
                  have hlz : ((hs2.length : Int) == 0) = false := by
                    have hne : ¬ (hs2.length : Int) = 0 := by omega
                    simpa using hne
                  clear hdr e8 hh9 hE
                  have hcase : j = 0 ∨ ∃ q, j = q + 1 := by
                    cases j with
                    | zero => exact .inl rfl
                    | succ q => exact .inr ⟨q, rfl⟩
                  rcases hcase with hj0 | ⟨q, hq⟩
                  all_goals
                    first
                    | (have hjq : ¬ (0 : Int) < (j : Int) := by omega
                       have hjn : ¬ 0 < j := by omega
                       have hjd : decide (0 < j) = false := decide_eq_false hjn
                       clear hj0)
                    | (obtain ⟨hql, y0, hyx⟩ := HPV.out q hq
                       have y1 := (HW8.out.cell (p := ⟨b, off + q, none⟩) HBL.out).trans y0
                       obtain ⟨y, hy⟩ : ∃ y, xs[q] = y := ⟨_, rfl⟩
                       rw [hy] at y1 hyx
                       have hyn : ¬ x ≤ y := by omega
                       have w1 : IntKind.i64.wrap ((j : Int) - 1) = (q : Int) := by rw [show ((j : Int) - 1) = (q : Int) from by omega]; exact IntWalk.i64_in _ (by omega)
                       have hqz : (0 : Int) < (j : Int) := by omega
                       have hjn : 0 < j := by omega
                       have hjd : decide (0 < j) = true := decide_eq_true hjn
                       have hqn : (q : Int) < (m5 : Int) := by omega
                       have hqn2 : q < m5 := by omega
                       have w4 : (j : Int) - 1 = (q : Int) := by omega
                       clear y0 hy hq hyx)
                    go_upto_region 19 with fail
                    go_quiet (fail)
                    obtain ⟨w9, hw9⟩ : ∃ w9, w8.drewN nq = w9 := ⟨_, rfl⟩
                    have e9 : Ext w8 w9 := by rw [← hw9]; exact bdrewN (Ext.refl _) _
                    rw [hw9]
                    have HXq := Lib.hid (HXq.out.ext e9)
                    have HE9 := Lib.hid (HE8.out.trans e9)
                    have H9 := Lib.hid (Held.ext H9.out e9)
                    have H3q := Lib.hid (Held.ext H3.out ((HE4.out.trans HE8.out).trans e9))
                    clear hw9 e9 d0
                    go_wp2
                    go_loopw [11, 20] (fun o i wq => ∃ t : Nat, t ≤ hs2.length ∧ i = .int .i64 t ∧ o = .int .i64 ((z ||| marksNo ((hs2.take t).map Int.toNat) : Nat) : Int) ∧ Hid (Ext w9 wq)) (fun _ i _ => hs2.length - (intOf i).toNat)
                    case atStart => exact ⟨0, Nat.zero_le _, rfl, by simp [marksNo], Lib.hid (Ext.refl _)⟩
                    case round =>
                      obtain ⟨t, ht, rfl, rfl, hE⟩ := hrel
                      by_cases htl : t < hs2.length
                      · have htz : (t : Int) < (hs2.length : Int) := by omega
                        obtain ⟨b2, off2, rfl, hbl2, hc2⟩ := num_get2 (Held.ext H9.out hE.out) htl
                        have e0 := hc2 t htl
                        have hvm := HNL.out hs2[t] (List.getElem_mem htl)
                        have hst : (hs2.take (t + 1)).map Int.toNat = (hs2.take t).map Int.toNat ++ [hs2[t].toNat] := by
                          rw [List.take_succ_eq_append_getElem htl, List.map_append]
                          rfl
                        have hma : ∀ i, i ∈ (hs2.take t).map Int.toNat → i < 12 := fun i hi => by
                          obtain ⟨u, hu, rfl⟩ := List.mem_map.1 hi
                          have h1 := HNL.out u (List.mem_of_mem_take hu)
                          have h2 := HN.out.2.1
                          omega
                        have hm4 := marksNo_lt hma
                        have hsn := marksNo_snoc ((hs2.take t).map Int.toNat) hs2[t].toNat
                        rw [← hst] at hsn
                        obtain ⟨v, hv⟩ : ∃ v, hs2[t] = v := ⟨_, rfl⟩
                        rw [hv] at e0 hvm hsn
                        obtain ⟨hv0, hv1, hvl⟩ := hvm
                        obtain ⟨vn, hvn⟩ : ∃ vn : Nat, v = (vn : Int) := ⟨v.toNat, by omega⟩
                        subst hvn
                        rw [Int.toNat_natCast] at hsn
                        rw [← HN.out.2.1] at hv1
                        have hx12 : vn < 12 := by omega
                        have hp12 : 2 ^ vn < 4096 := (Nat.pow_lt_pow_right (by decide) hx12 : 2 ^ vn < 2 ^ 12)
                        have hr4 : z ||| marksNo ((hs2.take t).map Int.toNat) < 4096 := Nat.or_lt_two_pow (n := 12) hz4 hm4
                        have hnew : z ||| marksNo ((hs2.take (t + 1)).map Int.toNat) = (z ||| marksNo ((hs2.take t).map Int.toNat)) ||| 2 ^ vn := by rw [hsn, Nat.or_assoc]
                        generalize z ||| marksNo ((hs2.take t).map Int.toNat) = o at hnew hr4 ⊢
                        have hbo := bits_or o (2 ^ vn) (by omega) (by omega)
                        have hwp := wrap_pow vn (by omega)
                        have hin : ∀ W, Ext wr W → Calls Try.prog 45 #[.slice A3 m3 c3, .int .i64 (vn : Int)] W fun e w' => e = .returned (.bool false) ∧ Ext W w' := fun W hW => by
                          have := in_any A3 m3 c3 (lostOf cs ms) (vn : Int) W HM3.out.1 (by have := HM3.out.2; omega) (Held.ext H3q.out (hE.out.trans hW))
                          rw [decide_eq_false hvl] at this
                          exact this
                        have g0 : ¬ (vn : Int) < 0 := by omega
                        have g1 : ¬ (n' : Int) ≤ (vn : Int) := by omega
                        have HIN := Lib.hid hin
                        have HC2 := Lib.hid (fun W (hW : Ext wr W) => (hW.cell (p := ⟨b2, off2 + t, none⟩) hbl2).trans e0)
                        have HBO := Lib.hid hbo
                        have HNW := Lib.hid hnew
                        have HWP := Lib.hid hwp
                        have HXs := Lib.hid (HXq.out.ext hE.out)
                        clear hsn hst hma hm4 hv hnew hbo hwp hin hv0 hv1 hvl e0 hbl2 hc2
                        go_upto_region 24 with fail
                        refine ei24_wp (p := p) (A' := A') (n' := n') (c' := c') (g := b2) (of := off2) (ln := hs2.length) (cl := c9) (jj := t) (vl := .slice A3 m3 c3) (x := (vn : Int)) rfl rfl rfl rfl rfl
                          htl (fun W hW => HC2.out W hW) g0 (fun W hW => (HXs.out.ext hW).cells.2) g1 (fun W hW => HIN.out W hW) ?_
                        intro w10 v21 e10 _
                        have hdr : ei24Reg.toList.drop 23 = [] := List.drop_eq_nil_of_le (by rw [Array.length_toList]; exact Nat.le_of_eq (by kernel_rfl))
                        rw [hdr]
                        simp only [wpList, puts, List.foldl_cons, List.foldl_nil, Act.put, List.setIfInBounds_toArray, List.set_cons_succ, List.set_cons_zero]
                        have e0 := HC2.out w10 e10
                        have HE10 := Lib.hid (hE.out.trans e10)
                        clear hdr e10 hE g0 g1
                        go_wp2
                        go_roundw
                        case measure => simp [intOf]; omega
                        case rel =>
                          refine ⟨t + 1, by omega, by go_num, ?_, HE10⟩
                          rw [HNW.out, ← HBO.out]
                          congr 2
                      · have htz : ¬ (t : Int) < (hs2.length : Int) := by omega
                        obtain rfl : t = hs2.length := by omega
                        have hend : z ||| marksNo ((hs2.take hs2.length).map Int.toNat) = orNos cs ms (fitsUpto cs ms k ++ (xs.take (j + 1)).map fun x => (k, x)) := by
                          rw [List.take_length, HBT.out, HSU.out]
                        rw [hend]
                        have HEN := Lib.hid (HE9.out.trans hE.out)
                        clear hend hE
                        go_wp2
                        go_roundw
                        case measure => simp [intOf]; omega
                        case rel => exact ⟨j + 1, by omega, by go_num, rfl, HEN⟩
                · have hjz : ¬ (j : Int) < (m5 : Int) := by omega
                  obtain rfl : j = m5 := by omega
                  have hfull : fitsUpto cs ms k ++ (xs.take j).map (fun x => (k, x)) = fitsUpto cs ms (k + 1) := by
                    rw [List.take_of_length_le (by rw [HM5.out]; exact Nat.le_refl _)]
                    exact HFU.out.symm
                  have HE9 := Lib.hid (HE4.out.trans hE.out)
                  have HFL := Lib.hid hfull
                  clear hfull hE
                  rw [HFL.out]
                  go_wp2
                  go_roundw
                  case measure => simp [intOf]; omega
                  case rel => exact ⟨k + 1, by omega, by go_num, rfl, HE9⟩
          · have hkz : ¬ (k : Int) < (n : Int) := by omega
            obtain rfl : k = n := by omega
            have hfo : fitsUpto cs ms k = fitsOf cs ms := by
              unfold fitsOf
              rw [← HN.out.1]
            rw [hfo]
            have hsum := had_lost HS.out
            have hol := or_lt cs ms (fitsOf cs ms)
            have ho4 : orNos cs ms (fitsOf cs ms) < 4096 := Nat.lt_of_lt_of_le hol (Nat.pow_le_pow_right (by decide) (sheet_ok HS.out).1.2.2 : 2 ^ ms.length ≤ 2 ^ 12)
            generalize orNos cs ms (fitsOf cs ms) = hd at hsum ho4 ⊢
            obtain ⟨cn, hcn⟩ : ∃ cn, (numsTo (fun i => hd.testBit i) 12).length = cn := ⟨_, rfl⟩
            have hlist : ∀ W, Ext wr W → Calls Try.prog 46 #[.int .i64 (hd : Int)] W fun e w' => ∃ A9 c9, e = .returned (.slice A9 cn c9) ∧ Ext W w' := fun W _ => (list_any hd ho4 W).mono fun e w' ⟨v, he, hw, hM⟩ => by
              obtain ⟨A9, c9, rfl⟩ := made_slice hM
              rw [hcn] at he
              exact ⟨A9, c9, he, hw⟩
            rw [hcn, ← HN.out.2.1, ← HM3.out.1] at hsum
            have hw2 : IntKind.i64.wrap ((cn : Int) + ((m3 : Nat) : Int)) = (n' : Int) := by
              rw [show (cn : Int) + ((m3 : Nat) : Int) = (n' : Int) from by omega]
              exact IntWalk.i64_in _ (by omega)
            have HLS := Lib.hid hlist
            have HEE := Lib.hid (HE.out.trans hE.out)
            clear hfo hol hcn hlist hsum hE
            go_upto_region 27 with fail
            refine ei27_wp (p := p) (A' := A') (n' := n') (c' := c') (hd := hd) (cn := cn) (ll := m3) (Al := A3) (cl := c3) rfl rfl rfl rfl
              (fun W hW => HLS.out W hW) hw2 (fun W hW => (HXr.out.ext hW).cells.2) (fun W _ => works_any W) ?_
            intro w8 v1 v11 e8 _ _
            have hdr : ei27Reg.toList.drop 14 = [] := List.drop_eq_nil_of_le (by rw [Array.length_toList]; exact Nat.le_of_eq (by kernel_rfl))
            rw [hdr]
            simp only [wpList, puts, List.foldl_cons, List.foldl_nil, Act.put, List.setIfInBounds_toArray, List.set_cons_succ, List.set_cons_zero]
            have HF := Lib.hid (HEE.out.trans e8)
            clear hdr e8
            go_wp2
            go_ret
            exact ⟨rfl, HF.out⟩
  · rw [decide_eq_false h0] at h39
    clear h0
    go_wp2_with (fail)
    refine h39.mono ?_
    rintro e w1 ⟨rfl, e1⟩
    have HE := Lib.hid (HE.out.trans e1)
    clear e1 h39 q0 q1
    go_wp2_with fail
    refine (works_any _).mono ?_
    rintro e w2 ⟨rfl, e2⟩
    have HE := Lib.hid (HE.out.trans e2)
    clear e2
    go_wp2
    go_ret
    exact ⟨rfl, HE.out⟩
end Go.Proofs.Ytchmdkdiilaejaa
