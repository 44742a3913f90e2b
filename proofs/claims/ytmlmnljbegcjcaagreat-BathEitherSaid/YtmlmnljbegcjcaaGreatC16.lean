/- Texts of one package, joined: RightLo, RefPricesReg. -/
import Derived.Test.YtmlmnljbegcjcaaGreatC10
import Derived.Test.YtmlmnljbegcjcaaGreatC12
/- Prices are right just if they are at the first births of orders. -/
namespace Go.Proofs.YtmlmnljbegcjcaaGreat
open Go.RowKit Go.Shelf

theorem does_at {os : List Odr} {x : Int} {i : Nat} : doesB os [x] i = (decide (i < os.length) && doneB x (oAt os i)) := by
  by_cases h : i < os.length
  · rw [does_iff h, decide_eq_true h, Bool.true_and]
  · simp [doesB, h]
theorem tog_more {os : List Odr} {ps : List Int} (hp : ∀ i, 0 ≤ ps.getD i 0) {x x' : Int} (h : ∀ o, o ∈ os → doneB x o = true → doneB x' o = true) : ∀ k, togTo os x ps k ≤ togTo os x' ps k
  | 0 => by simp [togTo]
  | k + 1 => by
    have ih := tog_more hp h k
    rw [togTo_succ, togTo_succ, does_at, does_at]
    have hpk := hp k
    generalize ps.getD k 0 = pk at hpk ⊢
    by_cases hk : k < os.length
    · rw [decide_eq_true hk, Bool.true_and, Bool.true_and]
      cases hd : doneB x (oAt os k)
      · simp only [Bool.false_eq_true, if_false]
        split <;> omega
      · rw [h _ (oAt_mem hk) hd]; simp; omega
    · rw [decide_eq_false hk]; simp; omega
theorem tog_len {os : List Odr} {ps : List Int} {x : Int} : ∀ d, togTo os x ps (os.length + d) = togTo os x ps os.length
  | 0 => rfl
  | d + 1 => by
    rw [← Nat.add_assoc, togTo_succ, does_at, tog_len d, decide_eq_false (by omega)]
    simp
theorem tog_is {os : List Odr} (hl : os.length ≤ 14) {ps : List Int} {x : Int} : togB os x ps = togTo os x ps os.length := by
  unfold togB
  rw [show (14 : Nat) = os.length + (14 - os.length) from by omega, tog_len]
theorem tog_zero {os : List Odr} {ps : List Int} {x : Int} (h : ∀ o, o ∈ os → doneB x o = false) : ∀ k, togTo os x ps k = 0
  | 0 => by simp [togTo, sumI]
  | k + 1 => by
    rw [togTo_succ, does_at, tog_zero h k]
    by_cases hk : k < os.length
    · rw [h _ (oAt_mem hk)]; simp
    · rw [decide_eq_false hk]; simp
theorem max_lo : ∀ (l : List Odr), l ≠ [] → ∃ o, o ∈ l ∧ ∀ z, z ∈ l → bLo z ≤ bLo o
  | [], h => absurd rfl h
  | [o], _ => ⟨o, by simp, fun z hz => by rw [List.mem_singleton.1 hz]; exact Int.le_refl _⟩
  | o :: p :: l, _ => by
    obtain ⟨q, hq, h⟩ := max_lo (p :: l) (by simp)
    by_cases hc : bLo q ≤ bLo o
    · exact ⟨o, by simp, fun z hz => by
        rcases List.mem_cons.1 hz with rfl | hz
        · exact Int.le_refl _
        · exact Int.le_trans (h z hz) hc⟩
    · exact ⟨q, List.mem_cons_of_mem _ hq, fun z hz => by
        rcases List.mem_cons.1 hz with rfl | hz
        · omega
        · exact h z hz⟩
theorem right_lo {os : List Odr} (hl : os.length ≤ 14) {ps : List Int} (hp : ∀ i, 0 ≤ ps.getD i 0) {y : Int} (hy : 0 ≤ y) : rightB os y ps = true ↔ ∀ i, i < os.length → togTo os (bLo (oAt os i)) ps os.length ≤ y := by
  unfold rightB
  rw [List.all_eq_true]
  simp only [decide_eq_true_eq, tog_is hl]
  constructor
  · intro h i hi
    by_cases hd : ∃ o, o ∈ os ∧ doneB (bLo (oAt os i)) o = true
    · obtain ⟨e, he, h2⟩ := to_ends hd
      exact Int.le_trans (tog_more hp h2 _) (h e he)
    · rw [tog_zero (fun o ho => by
        cases hc : doneB (bLo (oAt os i)) o
        · rfl
        · exact absurd ⟨o, ho, hc⟩ hd)]
      exact hy
  · intro h x hx
    obtain ⟨_, o1, ho1, hd1⟩ := mem_ends.1 hx
    obtain ⟨o, ho, hm⟩ := max_lo (os.filter fun o => doneB x o) (List.ne_nil_of_mem (List.mem_filter.2 ⟨ho1, hd1⟩))
    obtain ⟨ho2, ho3⟩ := List.mem_filter.1 ho
    obtain ⟨i, hi, rfl⟩ := List.getElem_of_mem ho2
    have h2 := h i hi
    rw [oAt_get hi] at h2
    refine Int.le_trans (tog_more hp (fun z hz hd => ?_) _) h2
    have h3 := hm z (List.mem_filter.2 ⟨hz, hd⟩)
    rw [doneB_iff] at hd ho3 ⊢
    omega
end Go.Proofs.YtmlmnljbegcjcaaGreat

/- The reference: CheckPrices' regions. -/
namespace Go.Proofs.YtmlmnljbegcjcaaGreat
open Go.RowKit Go.Shelf

/-- The slots of region 10 of function 45. -/
def cpD (i : Nat) : Tmp := if i = 0 then 39 else if i = 1 then 40 else if i = 2 then 41 else if i = 3 then 42 else if i = 4 then 43 else if i = 5 then 44 else if i = 6 then 45 else if i = 7 then 46 else if i = 8 then 47 else if i = 9 then 48 else if i = 10 then 49 else if i = 11 then 50 else if i = 12 then 51 else if i = 13 then 52 else if i = 14 then 53 else if i = 15 then 54 else 55
noncomputable def cpReg : Array Oper := (Tryz.f45.body.bind (regionOf · 10)).getD #[]
theorem cp_size : cpReg.size = 17 := by kernel_rfl
/-- What each operation yields. -/
def cpAS (b off np cp kk : Nat) (x : Int) (ix : Nat) (v : Value) (_ : World) : Prop :=
  match ix with
  | 0 => v = .slice (some ⟨b, off, none⟩) np cp
  | 1 => v = .int .i64 (kk : Int)
  | 2 => v = .pointer (some ⟨b, off + kk, none⟩)
  | 3 => v = .int .i64 x
  | 4 => v = .bool true
  | 5 => v = .bool true
  | 6 => v = undef
  | 7 => v = undef
  | 8 => v = undef
  | 9 => v = undef
  | 10 => v = undef
  | 11 => v = undef
  | 12 => v = undef
  | 13 => v = undef
  | 14 => v = undef
  | 15 => v = undef
  | 16 => v = .bool true
  | _ => True
def cpAOk (b off np cp kk : Nat) (x : Int) (Q : Exit → Act → World → Prop) (a : Act) (W : World) (ix : Nat) (o : Oper) : Prop :=
  ((∀ j b, o.guard = some (j, b) → a.eval (.tmp (cpD j)) = .bool b) ∧ o.wp Tryz.prog a W (fun a'' W' => ∃ v, a'' = a.put o.dst v ∧ cpAS b off np cp kk x ix v W' ∧ Below W.heap.size W W') Q) ∨ ((∃ j b, o.guard = some (j, b) ∧ a.eval (.tmp (cpD j)) ≠ .bool b) ∧ cpAS b off np cp kk x ix undef W)
section
variable {b off np cp kk : Nat} {x : Int} {Q : Exit → Act → World → Prop} {a : Act} {V W : World} {o : Oper}
set_option maxHeartbeats 1000000 in
theorem cpA_op0 (o3 : a.eval (.tmp 3) = .slice (some ⟨b, off, none⟩) np cp) (ho : cpReg[0]? = some o) : cpAOk b off np cp kk x Q a W 0 o := by
  have hop := op_at ho (·.op) (x := Op.move (Operand.tmp 3)) (by kernel_rfl)
  have hgd := op_at ho (·.guard) (x := none) (by kernel_rfl)
  refine .inl ⟨fun j b h => (by rw [hgd] at h; cases h), ?_⟩
  exact specs_value (R := fun v W => cpAS b off np cp kk x 0 v W) (v := .slice (some ⟨b, off, none⟩) np cp) (by simp [execOp, hop, go_sem, ev o3]) rfl (Ext.refl W)
set_option maxHeartbeats 1000000 in
theorem cpA_op1 (o10 : a.eval (.tmp 10) = .int .i64 (kk : Int)) (ho : cpReg[1]? = some o) : cpAOk b off np cp kk x Q a W 1 o := by
  have hop := op_at ho (·.op) (x := Op.move (Operand.tmp 10)) (by kernel_rfl)
  have hgd := op_at ho (·.guard) (x := none) (by kernel_rfl)
  refine .inl ⟨fun j b h => (by rw [hgd] at h; cases h), ?_⟩
  exact specs_value (R := fun v W => cpAS b off np cp kk x 1 v W) (v := .int .i64 (kk : Int)) (by simp [execOp, hop, go_sem, ev o10]) rfl (Ext.refl W)
set_option maxHeartbeats 1000000 in
theorem cpA_op2 (hlp : (kk : Int) < (np : Int)) (haft : ∀ j, (o.after.any fun e => decide (e.on = j) && Region.binds .any e) = true → cpAS b off np cp kk x j (a.eval (.tmp (cpD j))) W) (ho : cpReg[2]? = some o) : cpAOk b off np cp kk x Q a W 2 o := by
  have hop := op_at ho (·.op) (x := Op.indexAddr 36 (Operand.tmp 39) (Operand.tmp 40)) (by kernel_rfl)
  have hgd := op_at ho (·.guard) (x := none) (by kernel_rfl)
  have e0 : a.eval (.tmp 39) = .slice (some ⟨b, off, none⟩) np cp := haft 0 (op_at ho (fun o => o.after.any fun e => decide (e.on = 0) && Region.binds .any e) (x := true) (by kernel_rfl))
  have e1 : a.eval (.tmp 40) = .int .i64 (kk : Int) := haft 1 (op_at ho (fun o => o.after.any fun e => decide (e.on = 1) && Region.binds .any e) (x := true) (by kernel_rfl))
  refine .inl ⟨fun j b h => (by rw [hgd] at h; cases h), ?_⟩
  exact specs_value (R := fun v W => cpAS b off np cp kk x 2 v W) (v := .pointer (some ⟨b, off + kk, none⟩)) (by simp [execOp, hop, go_sem, ev e0, ev e1, hlp]) rfl (Ext.refl W)
set_option maxHeartbeats 1000000 in
theorem cpA_op3 (cx : ∀ W, Ext V W → W.cell? ⟨b, off + kk, none⟩ = some (.int .i64 x)) (hB : Ext V W) (haft : ∀ j, (o.after.any fun e => decide (e.on = j) && Region.binds .any e) = true → cpAS b off np cp kk x j (a.eval (.tmp (cpD j))) W) (ho : cpReg[3]? = some o) : cpAOk b off np cp kk x Q a W 3 o := by
  have hop := op_at ho (·.op) (x := Op.load 2 (Operand.tmp 41)) (by kernel_rfl)
  have hgd := op_at ho (·.guard) (x := none) (by kernel_rfl)
  have e2 : a.eval (.tmp 41) = .pointer (some ⟨b, off + kk, none⟩) := haft 2 (op_at ho (fun o => o.after.any fun e => decide (e.on = 2) && Region.binds .any e) (x := true) (by kernel_rfl))
  refine .inl ⟨fun j b h => (by rw [hgd] at h; cases h), ?_⟩
  have cx' := cx W hB
  exact specs_value (R := fun v W => cpAS b off np cp kk x 3 v W) (v := .int .i64 x) (by simp [execOp, hop, go_sem, ev e2, cx']) rfl (Ext.refl W)
set_option maxHeartbeats 1000000 in
theorem cpA_op4 (h1 : x < 0) (haft : ∀ j, (o.after.any fun e => decide (e.on = j) && Region.binds .any e) = true → cpAS b off np cp kk x j (a.eval (.tmp (cpD j))) W) (ho : cpReg[4]? = some o) : cpAOk b off np cp kk x Q a W 4 o := by
  have hop := op_at ho (·.op) (x := Op.binOp BinOp.lss 2 (Operand.tmp 42) (Operand.const (Value.int IntKind.i64 0)) 2) (by kernel_rfl)
  have hgd := op_at ho (·.guard) (x := none) (by kernel_rfl)
  have e3 : a.eval (.tmp 42) = .int .i64 x := haft 3 (op_at ho (fun o => o.after.any fun e => decide (e.on = 3) && Region.binds .any e) (x := true) (by kernel_rfl))
  refine .inl ⟨fun j b h => (by rw [hgd] at h; cases h), ?_⟩
  exact specs_value (R := fun v W => cpAS b off np cp kk x 4 v W) (v := .bool true) (by simp [execOp, hop, go_sem, ev e3, h1]) rfl (Ext.refl W)
set_option maxHeartbeats 1000000 in
theorem cpA_op5 (haft : ∀ j, (o.after.any fun e => decide (e.on = j) && Region.binds .any e) = true → cpAS b off np cp kk x j (a.eval (.tmp (cpD j))) W) (ho : cpReg[5]? = some o) : cpAOk b off np cp kk x Q a W 5 o := by
  have hop := op_at ho (·.op) (x := Op.move (Operand.tmp 43)) (by kernel_rfl)
  have hgd := op_at ho (·.guard) (x := none) (by kernel_rfl)
  have e4 : a.eval (.tmp 43) = .bool true := haft 4 (op_at ho (fun o => o.after.any fun e => decide (e.on = 4) && Region.binds .any e) (x := true) (by kernel_rfl))
  refine .inl ⟨fun j b h => (by rw [hgd] at h; cases h), ?_⟩
  exact specs_value (R := fun v W => cpAS b off np cp kk x 5 v W) (v := .bool true) (by simp [execOp, hop, go_sem, ev e4]) rfl (Ext.refl W)
set_option maxHeartbeats 1000000 in
theorem cpA_op6 (haft : ∀ j, (o.after.any fun e => decide (e.on = j) && Region.binds .any e) = true → cpAS b off np cp kk x j (a.eval (.tmp (cpD j))) W) (ho : cpReg[6]? = some o) : cpAOk b off np cp kk x Q a W 6 o := by
  have hgd := op_at ho (·.guard) (x := some (5, false)) (by kernel_rfl)
  have e5 : a.eval (.tmp 44) = .bool true := haft 5 (op_at ho (fun o => o.after.any fun e => decide (e.on = 5) && Region.binds .any e) (x := true) (by kernel_rfl))
  exact .inr ⟨⟨5, false, hgd, fun h => by
    have h2 := e5.symm.trans (show a.eval (.tmp 44) = .bool false from h)
    simp at h2⟩, rfl⟩
set_option maxHeartbeats 1000000 in
theorem cpA_op7 (haft : ∀ j, (o.after.any fun e => decide (e.on = j) && Region.binds .any e) = true → cpAS b off np cp kk x j (a.eval (.tmp (cpD j))) W) (ho : cpReg[7]? = some o) : cpAOk b off np cp kk x Q a W 7 o := by
  have hgd := op_at ho (·.guard) (x := some (5, false)) (by kernel_rfl)
  have e5 : a.eval (.tmp 44) = .bool true := haft 5 (op_at ho (fun o => o.after.any fun e => decide (e.on = 5) && Region.binds .any e) (x := true) (by kernel_rfl))
  exact .inr ⟨⟨5, false, hgd, fun h => by
    have h2 := e5.symm.trans (show a.eval (.tmp 44) = .bool false from h)
    simp at h2⟩, rfl⟩
set_option maxHeartbeats 1000000 in
theorem cpA_op8 (haft : ∀ j, (o.after.any fun e => decide (e.on = j) && Region.binds .any e) = true → cpAS b off np cp kk x j (a.eval (.tmp (cpD j))) W) (ho : cpReg[8]? = some o) : cpAOk b off np cp kk x Q a W 8 o := by
  have hgd := op_at ho (·.guard) (x := some (5, false)) (by kernel_rfl)
  have e5 : a.eval (.tmp 44) = .bool true := haft 5 (op_at ho (fun o => o.after.any fun e => decide (e.on = 5) && Region.binds .any e) (x := true) (by kernel_rfl))
  exact .inr ⟨⟨5, false, hgd, fun h => by
    have h2 := e5.symm.trans (show a.eval (.tmp 44) = .bool false from h)
    simp at h2⟩, rfl⟩
set_option maxHeartbeats 1000000 in
theorem cpA_op9 (haft : ∀ j, (o.after.any fun e => decide (e.on = j) && Region.binds .any e) = true → cpAS b off np cp kk x j (a.eval (.tmp (cpD j))) W) (ho : cpReg[9]? = some o) : cpAOk b off np cp kk x Q a W 9 o := by
  have hgd := op_at ho (·.guard) (x := some (5, false)) (by kernel_rfl)
  have e5 : a.eval (.tmp 44) = .bool true := haft 5 (op_at ho (fun o => o.after.any fun e => decide (e.on = 5) && Region.binds .any e) (x := true) (by kernel_rfl))
  exact .inr ⟨⟨5, false, hgd, fun h => by
    have h2 := e5.symm.trans (show a.eval (.tmp 44) = .bool false from h)
    simp at h2⟩, rfl⟩
set_option maxHeartbeats 1000000 in
theorem cpA_op10 (haft : ∀ j, (o.after.any fun e => decide (e.on = j) && Region.binds .any e) = true → cpAS b off np cp kk x j (a.eval (.tmp (cpD j))) W) (ho : cpReg[10]? = some o) : cpAOk b off np cp kk x Q a W 10 o := by
  have hgd := op_at ho (·.guard) (x := some (5, false)) (by kernel_rfl)
  have e5 : a.eval (.tmp 44) = .bool true := haft 5 (op_at ho (fun o => o.after.any fun e => decide (e.on = 5) && Region.binds .any e) (x := true) (by kernel_rfl))
  exact .inr ⟨⟨5, false, hgd, fun h => by
    have h2 := e5.symm.trans (show a.eval (.tmp 44) = .bool false from h)
    simp at h2⟩, rfl⟩
set_option maxHeartbeats 1000000 in
theorem cpA_op11 (haft : ∀ j, (o.after.any fun e => decide (e.on = j) && Region.binds .any e) = true → cpAS b off np cp kk x j (a.eval (.tmp (cpD j))) W) (ho : cpReg[11]? = some o) : cpAOk b off np cp kk x Q a W 11 o := by
  have hgd := op_at ho (·.guard) (x := some (5, false)) (by kernel_rfl)
  have e5 : a.eval (.tmp 44) = .bool true := haft 5 (op_at ho (fun o => o.after.any fun e => decide (e.on = 5) && Region.binds .any e) (x := true) (by kernel_rfl))
  exact .inr ⟨⟨5, false, hgd, fun h => by
    have h2 := e5.symm.trans (show a.eval (.tmp 44) = .bool false from h)
    simp at h2⟩, rfl⟩
set_option maxHeartbeats 1000000 in
theorem cpA_op12 (haft : ∀ j, (o.after.any fun e => decide (e.on = j) && Region.binds .any e) = true → cpAS b off np cp kk x j (a.eval (.tmp (cpD j))) W) (ho : cpReg[12]? = some o) : cpAOk b off np cp kk x Q a W 12 o := by
  have hgd := op_at ho (·.guard) (x := some (5, false)) (by kernel_rfl)
  have e5 : a.eval (.tmp 44) = .bool true := haft 5 (op_at ho (fun o => o.after.any fun e => decide (e.on = 5) && Region.binds .any e) (x := true) (by kernel_rfl))
  exact .inr ⟨⟨5, false, hgd, fun h => by
    have h2 := e5.symm.trans (show a.eval (.tmp 44) = .bool false from h)
    simp at h2⟩, rfl⟩
set_option maxHeartbeats 1000000 in
theorem cpA_op13 (haft : ∀ j, (o.after.any fun e => decide (e.on = j) && Region.binds .any e) = true → cpAS b off np cp kk x j (a.eval (.tmp (cpD j))) W) (ho : cpReg[13]? = some o) : cpAOk b off np cp kk x Q a W 13 o := by
  have hgd := op_at ho (·.guard) (x := some (5, false)) (by kernel_rfl)
  have e5 : a.eval (.tmp 44) = .bool true := haft 5 (op_at ho (fun o => o.after.any fun e => decide (e.on = 5) && Region.binds .any e) (x := true) (by kernel_rfl))
  exact .inr ⟨⟨5, false, hgd, fun h => by
    have h2 := e5.symm.trans (show a.eval (.tmp 44) = .bool false from h)
    simp at h2⟩, rfl⟩
set_option maxHeartbeats 1000000 in
theorem cpA_op14 (haft : ∀ j, (o.after.any fun e => decide (e.on = j) && Region.binds .any e) = true → cpAS b off np cp kk x j (a.eval (.tmp (cpD j))) W) (ho : cpReg[14]? = some o) : cpAOk b off np cp kk x Q a W 14 o := by
  have hgd := op_at ho (·.guard) (x := some (5, false)) (by kernel_rfl)
  have e5 : a.eval (.tmp 44) = .bool true := haft 5 (op_at ho (fun o => o.after.any fun e => decide (e.on = 5) && Region.binds .any e) (x := true) (by kernel_rfl))
  exact .inr ⟨⟨5, false, hgd, fun h => by
    have h2 := e5.symm.trans (show a.eval (.tmp 44) = .bool false from h)
    simp at h2⟩, rfl⟩
set_option maxHeartbeats 1000000 in
theorem cpA_op15 (haft : ∀ j, (o.after.any fun e => decide (e.on = j) && Region.binds .any e) = true → cpAS b off np cp kk x j (a.eval (.tmp (cpD j))) W) (ho : cpReg[15]? = some o) : cpAOk b off np cp kk x Q a W 15 o := by
  have hgd := op_at ho (·.guard) (x := some (5, false)) (by kernel_rfl)
  have e5 : a.eval (.tmp 44) = .bool true := haft 5 (op_at ho (fun o => o.after.any fun e => decide (e.on = 5) && Region.binds .any e) (x := true) (by kernel_rfl))
  exact .inr ⟨⟨5, false, hgd, fun h => by
    have h2 := e5.symm.trans (show a.eval (.tmp 44) = .bool false from h)
    simp at h2⟩, rfl⟩
set_option maxHeartbeats 1000000 in
theorem cpA_op16 (haft : ∀ j, (o.after.any fun e => decide (e.on = j) && Region.binds .any e) = true → cpAS b off np cp kk x j (a.eval (.tmp (cpD j))) W) (ho : cpReg[16]? = some o) : cpAOk b off np cp kk x Q a W 16 o := by
  have hop := op_at ho (·.op) (x := Op.pick (Operand.tmp 44) (Operand.const (Value.bool true)) (Operand.tmp 54)) (by kernel_rfl)
  have hgd := op_at ho (·.guard) (x := none) (by kernel_rfl)
  have e5 : a.eval (.tmp 44) = .bool true := haft 5 (op_at ho (fun o => o.after.any fun e => decide (e.on = 5) && Region.binds .any e) (x := true) (by kernel_rfl))
  refine .inl ⟨fun j b h => (by rw [hgd] at h; cases h), ?_⟩
  exact specs_value (R := fun v W => cpAS b off np cp kk x 16 v W) (v := .bool true) (by simp [execOp, hop, go_sem, ev e5]) rfl (Ext.refl W)
set_option maxRecDepth 100000 in
set_option maxHeartbeats 4000000 in
/-- Region 10 of function 45, one way through it. -/
theorem cpA_wp {id : Nat} (hlen : a.tmps.size = 100) (o3 : a.eval (.tmp 3) = .slice (some ⟨b, off, none⟩) np cp) (o10 : a.eval (.tmp 10) = .int .i64 (kk : Int)) (hlp : (kk : Int) < (np : Int)) (cx : ∀ W, Ext V W → W.cell? ⟨b, off + kk, none⟩ = some (.int .i64 x)) (h1 : x < 0) (K : ∀ W, Ext V W → Q .normal (puts a [(39, .slice (some ⟨b, off, none⟩) np cp), (40, .int .i64 (kk : Int)), (41, .pointer (some ⟨b, off + kk, none⟩)), (42, .int .i64 x), (43, .bool true), (44, .bool true), (45, undef), (46, undef), (47, undef), (48, undef), (49, undef), (50, undef), (51, undef), (52, undef), (53, undef), (54, undef), (55, .bool true)]) W) : (Code.region id cpReg true).wp Tryz.prog Q a V := by
  refine wp_region_maybe (ops := cpReg) (cpAS b off np cp kk x) (Ext V) (by kernel_rfl) (by rw [hlen]; kernel_rfl) ⟨rfl, rfl, rfl, Nat.le_refl _, fun _ _ => rfl⟩ (fun _ _ h e => h.trans e) (fun _ _ _ _ h _ => h) cpD (by kernel_rfl) ?_ ?_
  · intro i o ho a' W hB hsz hold haft
    have hi : i < 17 := by
      have h1 := (Array.getElem?_eq_some_iff.1 ho).1
      have h2 := cp_size
      omega
    match i, hi with
    | 0, _ => exact cpA_op0 ((hold 3 (by kernel_rfl)).trans o3) ho
    | 1, _ => exact cpA_op1 ((hold 10 (by kernel_rfl)).trans o10) ho
    | 2, _ => exact cpA_op2 hlp haft ho
    | 3, _ => exact cpA_op3 cx hB haft ho
    | 4, _ => exact cpA_op4 h1 haft ho
    | 5, _ => exact cpA_op5 haft ho
    | 6, _ => exact cpA_op6 haft ho
    | 7, _ => exact cpA_op7 haft ho
    | 8, _ => exact cpA_op8 haft ho
    | 9, _ => exact cpA_op9 haft ho
    | 10, _ => exact cpA_op10 haft ho
    | 11, _ => exact cpA_op11 haft ho
    | 12, _ => exact cpA_op12 haft ho
    | 13, _ => exact cpA_op13 haft ho
    | 14, _ => exact cpA_op14 haft ho
    | 15, _ => exact cpA_op15 haft ho
    | 16, _ => exact cpA_op16 haft ho
    | m + 17, h => exact absurd h (by omega)
  · intro a1 W hB hsz hdf hold hS
    have hs2 := cp_size
    have hall : ∀ zz, zz ∈ ([(39, .slice (some ⟨b, off, none⟩) np cp), (40, .int .i64 (kk : Int)), (41, .pointer (some ⟨b, off + kk, none⟩)), (42, .int .i64 x), (43, .bool true), (44, .bool true), (45, undef), (46, undef), (47, undef), (48, undef), (49, undef), (50, undef), (51, undef), (52, undef), (53, undef), (54, undef), (55, .bool true)] : List (Tmp × Value)) → zz.1 < a.tmps.size ∧ a1.eval (.tmp zz.1) = zz.2 := by
      intro zz hz
      rw [hlen]
      simp only [List.mem_cons, List.not_mem_nil, or_false] at hz
      rcases hz with rfl | rfl | rfl | rfl | rfl | rfl | rfl | rfl | rfl | rfl | rfl | rfl | rfl | rfl | rfl | rfl | rfl
      · exact ⟨(show (39 : Nat) < 100 by omega), hS 0 (by omega)⟩
      · exact ⟨(show (40 : Nat) < 100 by omega), hS 1 (by omega)⟩
      · exact ⟨(show (41 : Nat) < 100 by omega), hS 2 (by omega)⟩
      · exact ⟨(show (42 : Nat) < 100 by omega), hS 3 (by omega)⟩
      · exact ⟨(show (43 : Nat) < 100 by omega), hS 4 (by omega)⟩
      · exact ⟨(show (44 : Nat) < 100 by omega), hS 5 (by omega)⟩
      · exact ⟨(show (45 : Nat) < 100 by omega), hS 6 (by omega)⟩
      · exact ⟨(show (46 : Nat) < 100 by omega), hS 7 (by omega)⟩
      · exact ⟨(show (47 : Nat) < 100 by omega), hS 8 (by omega)⟩
      · exact ⟨(show (48 : Nat) < 100 by omega), hS 9 (by omega)⟩
      · exact ⟨(show (49 : Nat) < 100 by omega), hS 10 (by omega)⟩
      · exact ⟨(show (50 : Nat) < 100 by omega), hS 11 (by omega)⟩
      · exact ⟨(show (51 : Nat) < 100 by omega), hS 12 (by omega)⟩
      · exact ⟨(show (52 : Nat) < 100 by omega), hS 13 (by omega)⟩
      · exact ⟨(show (53 : Nat) < 100 by omega), hS 14 (by omega)⟩
      · exact ⟨(show (54 : Nat) < 100 by omega), hS 15 (by omega)⟩
      · exact ⟨(show (55 : Nat) < 100 by omega), hS 16 (by omega)⟩
    have ha := act_puts hsz hdf hall (fun t ht => hold t (by rw [hs2]; exact all_ne_of (l := [(39, .slice (some ⟨b, off, none⟩) np cp), (40, .int .i64 (kk : Int)), (41, .pointer (some ⟨b, off + kk, none⟩)), (42, .int .i64 x), (43, .bool true), (44, .bool true), (45, undef), (46, undef), (47, undef), (48, undef), (49, undef), (50, undef), (51, undef), (52, undef), (53, undef), (54, undef), (55, .bool true)]) (by kernel_rfl) ht))
    rw [ha]
    exact K W hB
end
/-- What each operation yields. -/
def cpBS (b off np cp bo oo nn cc kk : Nat) (x y : Int) (ix : Nat) (v : Value) (_ : World) : Prop :=
  match ix with
  | 0 => v = .slice (some ⟨b, off, none⟩) np cp
  | 1 => v = .int .i64 (kk : Int)
  | 2 => v = .pointer (some ⟨b, off + kk, none⟩)
  | 3 => v = .int .i64 x
  | 4 => v = .bool false
  | 5 => v = .bool false
  | 6 => v = .slice (some ⟨b, off, none⟩) np cp
  | 7 => v = .int .i64 (kk : Int)
  | 8 => v = .pointer (some ⟨b, off + kk, none⟩)
  | 9 => v = .int .i64 x
  | 10 => v = .slice (some ⟨bo, oo, none⟩) nn cc
  | 11 => v = .int .i64 (kk : Int)
  | 12 => v = .pointer (some ⟨bo, oo + kk * 5, none⟩)
  | 13 => v = .pointer (some ⟨bo, oo + kk * 5 + 4, none⟩)
  | 14 => v = .int .i64 y
  | 15 => v = .bool (decide (y < x))
  | 16 => v = .bool (decide (y < x))
  | _ => True
def cpBOk (b off np cp bo oo nn cc kk : Nat) (x y : Int) (Q : Exit → Act → World → Prop) (a : Act) (W : World) (ix : Nat) (o : Oper) : Prop :=
  ((∀ j b, o.guard = some (j, b) → a.eval (.tmp (cpD j)) = .bool b) ∧ o.wp Tryz.prog a W (fun a'' W' => ∃ v, a'' = a.put o.dst v ∧ cpBS b off np cp bo oo nn cc kk x y ix v W' ∧ Below W.heap.size W W') Q) ∨ ((∃ j b, o.guard = some (j, b) ∧ a.eval (.tmp (cpD j)) ≠ .bool b) ∧ cpBS b off np cp bo oo nn cc kk x y ix undef W)
section
variable {b off np cp bo oo nn cc kk : Nat} {x y : Int} {Q : Exit → Act → World → Prop} {a : Act} {V W : World} {o : Oper}
set_option maxHeartbeats 1000000 in
theorem cpB_op0 (o3 : a.eval (.tmp 3) = .slice (some ⟨b, off, none⟩) np cp) (ho : cpReg[0]? = some o) : cpBOk b off np cp bo oo nn cc kk x y Q a W 0 o := by
  have hop := op_at ho (·.op) (x := Op.move (Operand.tmp 3)) (by kernel_rfl)
  have hgd := op_at ho (·.guard) (x := none) (by kernel_rfl)
  refine .inl ⟨fun j b h => (by rw [hgd] at h; cases h), ?_⟩
  exact specs_value (R := fun v W => cpBS b off np cp bo oo nn cc kk x y 0 v W) (v := .slice (some ⟨b, off, none⟩) np cp) (by simp [execOp, hop, go_sem, ev o3]) rfl (Ext.refl W)
set_option maxHeartbeats 1000000 in
theorem cpB_op1 (o10 : a.eval (.tmp 10) = .int .i64 (kk : Int)) (ho : cpReg[1]? = some o) : cpBOk b off np cp bo oo nn cc kk x y Q a W 1 o := by
  have hop := op_at ho (·.op) (x := Op.move (Operand.tmp 10)) (by kernel_rfl)
  have hgd := op_at ho (·.guard) (x := none) (by kernel_rfl)
  refine .inl ⟨fun j b h => (by rw [hgd] at h; cases h), ?_⟩
  exact specs_value (R := fun v W => cpBS b off np cp bo oo nn cc kk x y 1 v W) (v := .int .i64 (kk : Int)) (by simp [execOp, hop, go_sem, ev o10]) rfl (Ext.refl W)
set_option maxHeartbeats 1000000 in
theorem cpB_op2 (hlp : (kk : Int) < (np : Int)) (haft : ∀ j, (o.after.any fun e => decide (e.on = j) && Region.binds .any e) = true → cpBS b off np cp bo oo nn cc kk x y j (a.eval (.tmp (cpD j))) W) (ho : cpReg[2]? = some o) : cpBOk b off np cp bo oo nn cc kk x y Q a W 2 o := by
  have hop := op_at ho (·.op) (x := Op.indexAddr 36 (Operand.tmp 39) (Operand.tmp 40)) (by kernel_rfl)
  have hgd := op_at ho (·.guard) (x := none) (by kernel_rfl)
  have e0 : a.eval (.tmp 39) = .slice (some ⟨b, off, none⟩) np cp := haft 0 (op_at ho (fun o => o.after.any fun e => decide (e.on = 0) && Region.binds .any e) (x := true) (by kernel_rfl))
  have e1 : a.eval (.tmp 40) = .int .i64 (kk : Int) := haft 1 (op_at ho (fun o => o.after.any fun e => decide (e.on = 1) && Region.binds .any e) (x := true) (by kernel_rfl))
  refine .inl ⟨fun j b h => (by rw [hgd] at h; cases h), ?_⟩
  exact specs_value (R := fun v W => cpBS b off np cp bo oo nn cc kk x y 2 v W) (v := .pointer (some ⟨b, off + kk, none⟩)) (by simp [execOp, hop, go_sem, ev e0, ev e1, hlp]) rfl (Ext.refl W)
set_option maxHeartbeats 1000000 in
theorem cpB_op3 (cx : ∀ W, Ext V W → W.cell? ⟨b, off + kk, none⟩ = some (.int .i64 x)) (hB : Ext V W) (haft : ∀ j, (o.after.any fun e => decide (e.on = j) && Region.binds .any e) = true → cpBS b off np cp bo oo nn cc kk x y j (a.eval (.tmp (cpD j))) W) (ho : cpReg[3]? = some o) : cpBOk b off np cp bo oo nn cc kk x y Q a W 3 o := by
  have hop := op_at ho (·.op) (x := Op.load 2 (Operand.tmp 41)) (by kernel_rfl)
  have hgd := op_at ho (·.guard) (x := none) (by kernel_rfl)
  have e2 : a.eval (.tmp 41) = .pointer (some ⟨b, off + kk, none⟩) := haft 2 (op_at ho (fun o => o.after.any fun e => decide (e.on = 2) && Region.binds .any e) (x := true) (by kernel_rfl))
  refine .inl ⟨fun j b h => (by rw [hgd] at h; cases h), ?_⟩
  have cx' := cx W hB
  exact specs_value (R := fun v W => cpBS b off np cp bo oo nn cc kk x y 3 v W) (v := .int .i64 x) (by simp [execOp, hop, go_sem, ev e2, cx']) rfl (Ext.refl W)
set_option maxHeartbeats 1000000 in
theorem cpB_op4 (h1 : ¬ x < 0) (haft : ∀ j, (o.after.any fun e => decide (e.on = j) && Region.binds .any e) = true → cpBS b off np cp bo oo nn cc kk x y j (a.eval (.tmp (cpD j))) W) (ho : cpReg[4]? = some o) : cpBOk b off np cp bo oo nn cc kk x y Q a W 4 o := by
  have hop := op_at ho (·.op) (x := Op.binOp BinOp.lss 2 (Operand.tmp 42) (Operand.const (Value.int IntKind.i64 0)) 2) (by kernel_rfl)
  have hgd := op_at ho (·.guard) (x := none) (by kernel_rfl)
  have e3 : a.eval (.tmp 42) = .int .i64 x := haft 3 (op_at ho (fun o => o.after.any fun e => decide (e.on = 3) && Region.binds .any e) (x := true) (by kernel_rfl))
  refine .inl ⟨fun j b h => (by rw [hgd] at h; cases h), ?_⟩
  exact specs_value (R := fun v W => cpBS b off np cp bo oo nn cc kk x y 4 v W) (v := .bool false) (by simp [execOp, hop, go_sem, ev e3, h1]) rfl (Ext.refl W)
set_option maxHeartbeats 1000000 in
theorem cpB_op5 (haft : ∀ j, (o.after.any fun e => decide (e.on = j) && Region.binds .any e) = true → cpBS b off np cp bo oo nn cc kk x y j (a.eval (.tmp (cpD j))) W) (ho : cpReg[5]? = some o) : cpBOk b off np cp bo oo nn cc kk x y Q a W 5 o := by
  have hop := op_at ho (·.op) (x := Op.move (Operand.tmp 43)) (by kernel_rfl)
  have hgd := op_at ho (·.guard) (x := none) (by kernel_rfl)
  have e4 : a.eval (.tmp 43) = .bool false := haft 4 (op_at ho (fun o => o.after.any fun e => decide (e.on = 4) && Region.binds .any e) (x := true) (by kernel_rfl))
  refine .inl ⟨fun j b h => (by rw [hgd] at h; cases h), ?_⟩
  exact specs_value (R := fun v W => cpBS b off np cp bo oo nn cc kk x y 5 v W) (v := .bool false) (by simp [execOp, hop, go_sem, ev e4]) rfl (Ext.refl W)
set_option maxHeartbeats 1000000 in
theorem cpB_op6 (o3 : a.eval (.tmp 3) = .slice (some ⟨b, off, none⟩) np cp) (haft : ∀ j, (o.after.any fun e => decide (e.on = j) && Region.binds .any e) = true → cpBS b off np cp bo oo nn cc kk x y j (a.eval (.tmp (cpD j))) W) (ho : cpReg[6]? = some o) : cpBOk b off np cp bo oo nn cc kk x y Q a W 6 o := by
  have hop := op_at ho (·.op) (x := Op.move (Operand.tmp 3)) (by kernel_rfl)
  have hgd := op_at ho (·.guard) (x := some (5, false)) (by kernel_rfl)
  have e5 : a.eval (.tmp 44) = .bool false := haft 5 (op_at ho (fun o => o.after.any fun e => decide (e.on = 5) && Region.binds .any e) (x := true) (by kernel_rfl))
  refine .inl ⟨fun j b h => (by rw [hgd] at h; cases h; exact e5), ?_⟩
  exact specs_value (R := fun v W => cpBS b off np cp bo oo nn cc kk x y 6 v W) (v := .slice (some ⟨b, off, none⟩) np cp) (by simp [execOp, hop, go_sem, ev o3]) rfl (Ext.refl W)
set_option maxHeartbeats 1000000 in
theorem cpB_op7 (o10 : a.eval (.tmp 10) = .int .i64 (kk : Int)) (haft : ∀ j, (o.after.any fun e => decide (e.on = j) && Region.binds .any e) = true → cpBS b off np cp bo oo nn cc kk x y j (a.eval (.tmp (cpD j))) W) (ho : cpReg[7]? = some o) : cpBOk b off np cp bo oo nn cc kk x y Q a W 7 o := by
  have hop := op_at ho (·.op) (x := Op.move (Operand.tmp 10)) (by kernel_rfl)
  have hgd := op_at ho (·.guard) (x := some (5, false)) (by kernel_rfl)
  have e5 : a.eval (.tmp 44) = .bool false := haft 5 (op_at ho (fun o => o.after.any fun e => decide (e.on = 5) && Region.binds .any e) (x := true) (by kernel_rfl))
  refine .inl ⟨fun j b h => (by rw [hgd] at h; cases h; exact e5), ?_⟩
  exact specs_value (R := fun v W => cpBS b off np cp bo oo nn cc kk x y 7 v W) (v := .int .i64 (kk : Int)) (by simp [execOp, hop, go_sem, ev o10]) rfl (Ext.refl W)
set_option maxHeartbeats 1000000 in
theorem cpB_op8 (hlp : (kk : Int) < (np : Int)) (haft : ∀ j, (o.after.any fun e => decide (e.on = j) && Region.binds .any e) = true → cpBS b off np cp bo oo nn cc kk x y j (a.eval (.tmp (cpD j))) W) (ho : cpReg[8]? = some o) : cpBOk b off np cp bo oo nn cc kk x y Q a W 8 o := by
  have hop := op_at ho (·.op) (x := Op.indexAddr 36 (Operand.tmp 45) (Operand.tmp 46)) (by kernel_rfl)
  have hgd := op_at ho (·.guard) (x := some (5, false)) (by kernel_rfl)
  have e5 : a.eval (.tmp 44) = .bool false := haft 5 (op_at ho (fun o => o.after.any fun e => decide (e.on = 5) && Region.binds .any e) (x := true) (by kernel_rfl))
  have e6 : a.eval (.tmp 45) = .slice (some ⟨b, off, none⟩) np cp := haft 6 (op_at ho (fun o => o.after.any fun e => decide (e.on = 6) && Region.binds .any e) (x := true) (by kernel_rfl))
  have e7 : a.eval (.tmp 46) = .int .i64 (kk : Int) := haft 7 (op_at ho (fun o => o.after.any fun e => decide (e.on = 7) && Region.binds .any e) (x := true) (by kernel_rfl))
  refine .inl ⟨fun j b h => (by rw [hgd] at h; cases h; exact e5), ?_⟩
  exact specs_value (R := fun v W => cpBS b off np cp bo oo nn cc kk x y 8 v W) (v := .pointer (some ⟨b, off + kk, none⟩)) (by simp [execOp, hop, go_sem, ev e6, ev e7, hlp]) rfl (Ext.refl W)
set_option maxHeartbeats 1000000 in
theorem cpB_op9 (cx : ∀ W, Ext V W → W.cell? ⟨b, off + kk, none⟩ = some (.int .i64 x)) (hB : Ext V W) (haft : ∀ j, (o.after.any fun e => decide (e.on = j) && Region.binds .any e) = true → cpBS b off np cp bo oo nn cc kk x y j (a.eval (.tmp (cpD j))) W) (ho : cpReg[9]? = some o) : cpBOk b off np cp bo oo nn cc kk x y Q a W 9 o := by
  have hop := op_at ho (·.op) (x := Op.load 2 (Operand.tmp 47)) (by kernel_rfl)
  have hgd := op_at ho (·.guard) (x := some (5, false)) (by kernel_rfl)
  have e5 : a.eval (.tmp 44) = .bool false := haft 5 (op_at ho (fun o => o.after.any fun e => decide (e.on = 5) && Region.binds .any e) (x := true) (by kernel_rfl))
  have e8 : a.eval (.tmp 47) = .pointer (some ⟨b, off + kk, none⟩) := haft 8 (op_at ho (fun o => o.after.any fun e => decide (e.on = 8) && Region.binds .any e) (x := true) (by kernel_rfl))
  refine .inl ⟨fun j b h => (by rw [hgd] at h; cases h; exact e5), ?_⟩
  have cx' := cx W hB
  exact specs_value (R := fun v W => cpBS b off np cp bo oo nn cc kk x y 9 v W) (v := .int .i64 x) (by simp [execOp, hop, go_sem, ev e8, cx']) rfl (Ext.refl W)
set_option maxHeartbeats 1000000 in
theorem cpB_op10 (o0 : a.eval (.tmp 0) = .slice (some ⟨bo, oo, none⟩) nn cc) (haft : ∀ j, (o.after.any fun e => decide (e.on = j) && Region.binds .any e) = true → cpBS b off np cp bo oo nn cc kk x y j (a.eval (.tmp (cpD j))) W) (ho : cpReg[10]? = some o) : cpBOk b off np cp bo oo nn cc kk x y Q a W 10 o := by
  have hop := op_at ho (·.op) (x := Op.move (Operand.tmp 0)) (by kernel_rfl)
  have hgd := op_at ho (·.guard) (x := some (5, false)) (by kernel_rfl)
  have e5 : a.eval (.tmp 44) = .bool false := haft 5 (op_at ho (fun o => o.after.any fun e => decide (e.on = 5) && Region.binds .any e) (x := true) (by kernel_rfl))
  refine .inl ⟨fun j b h => (by rw [hgd] at h; cases h; exact e5), ?_⟩
  exact specs_value (R := fun v W => cpBS b off np cp bo oo nn cc kk x y 10 v W) (v := .slice (some ⟨bo, oo, none⟩) nn cc) (by simp [execOp, hop, go_sem, ev o0]) rfl (Ext.refl W)
set_option maxHeartbeats 1000000 in
theorem cpB_op11 (o10 : a.eval (.tmp 10) = .int .i64 (kk : Int)) (haft : ∀ j, (o.after.any fun e => decide (e.on = j) && Region.binds .any e) = true → cpBS b off np cp bo oo nn cc kk x y j (a.eval (.tmp (cpD j))) W) (ho : cpReg[11]? = some o) : cpBOk b off np cp bo oo nn cc kk x y Q a W 11 o := by
  have hop := op_at ho (·.op) (x := Op.move (Operand.tmp 10)) (by kernel_rfl)
  have hgd := op_at ho (·.guard) (x := some (5, false)) (by kernel_rfl)
  have e5 : a.eval (.tmp 44) = .bool false := haft 5 (op_at ho (fun o => o.after.any fun e => decide (e.on = 5) && Region.binds .any e) (x := true) (by kernel_rfl))
  refine .inl ⟨fun j b h => (by rw [hgd] at h; cases h; exact e5), ?_⟩
  exact specs_value (R := fun v W => cpBS b off np cp bo oo nn cc kk x y 11 v W) (v := .int .i64 (kk : Int)) (by simp [execOp, hop, go_sem, ev o10]) rfl (Ext.refl W)
set_option maxHeartbeats 1000000 in
theorem cpB_op12 (hlt : (kk : Int) < (nn : Int)) (haft : ∀ j, (o.after.any fun e => decide (e.on = j) && Region.binds .any e) = true → cpBS b off np cp bo oo nn cc kk x y j (a.eval (.tmp (cpD j))) W) (ho : cpReg[12]? = some o) : cpBOk b off np cp bo oo nn cc kk x y Q a W 12 o := by
  have hop := op_at ho (·.op) (x := Op.indexAddr 22 (Operand.tmp 49) (Operand.tmp 50)) (by kernel_rfl)
  have hgd := op_at ho (·.guard) (x := some (5, false)) (by kernel_rfl)
  have e5 : a.eval (.tmp 44) = .bool false := haft 5 (op_at ho (fun o => o.after.any fun e => decide (e.on = 5) && Region.binds .any e) (x := true) (by kernel_rfl))
  have e10 : a.eval (.tmp 49) = .slice (some ⟨bo, oo, none⟩) nn cc := haft 10 (op_at ho (fun o => o.after.any fun e => decide (e.on = 10) && Region.binds .any e) (x := true) (by kernel_rfl))
  have e11 : a.eval (.tmp 50) = .int .i64 (kk : Int) := haft 11 (op_at ho (fun o => o.after.any fun e => decide (e.on = 11) && Region.binds .any e) (x := true) (by kernel_rfl))
  refine .inl ⟨fun j b h => (by rw [hgd] at h; cases h; exact e5), ?_⟩
  exact specs_value (R := fun v W => cpBS b off np cp bo oo nn cc kk x y 12 v W) (v := .pointer (some ⟨bo, oo + kk * 5, none⟩)) (by simp [execOp, hop, go_sem, ev e10, ev e11, hlt]) rfl (Ext.refl W)
set_option maxHeartbeats 1000000 in
theorem cpB_op13 (haft : ∀ j, (o.after.any fun e => decide (e.on = j) && Region.binds .any e) = true → cpBS b off np cp bo oo nn cc kk x y j (a.eval (.tmp (cpD j))) W) (ho : cpReg[13]? = some o) : cpBOk b off np cp bo oo nn cc kk x y Q a W 13 o := by
  have hop := op_at ho (·.op) (x := Op.fieldAddr 56 (Operand.tmp 51) 2) (by kernel_rfl)
  have hgd := op_at ho (·.guard) (x := some (5, false)) (by kernel_rfl)
  have e5 : a.eval (.tmp 44) = .bool false := haft 5 (op_at ho (fun o => o.after.any fun e => decide (e.on = 5) && Region.binds .any e) (x := true) (by kernel_rfl))
  have e12 : a.eval (.tmp 51) = .pointer (some ⟨bo, oo + kk * 5, none⟩) := haft 12 (op_at ho (fun o => o.after.any fun e => decide (e.on = 12) && Region.binds .any e) (x := true) (by kernel_rfl))
  refine .inl ⟨fun j b h => (by rw [hgd] at h; cases h; exact e5), ?_⟩
  exact specs_value (R := fun v W => cpBS b off np cp bo oo nn cc kk x y 13 v W) (v := .pointer (some ⟨bo, oo + kk * 5 + 4, none⟩)) (by simp [execOp, hop, go_sem, ev e12]) rfl (Ext.refl W)
set_option maxHeartbeats 1000000 in
theorem cpB_op14 (cw : ∀ W, Ext V W → W.cell? ⟨bo, oo + kk * 5 + 4, none⟩ = some (.int .i64 y)) (hB : Ext V W) (haft : ∀ j, (o.after.any fun e => decide (e.on = j) && Region.binds .any e) = true → cpBS b off np cp bo oo nn cc kk x y j (a.eval (.tmp (cpD j))) W) (ho : cpReg[14]? = some o) : cpBOk b off np cp bo oo nn cc kk x y Q a W 14 o := by
  have hop := op_at ho (·.op) (x := Op.load 2 (Operand.tmp 52)) (by kernel_rfl)
  have hgd := op_at ho (·.guard) (x := some (5, false)) (by kernel_rfl)
  have e5 : a.eval (.tmp 44) = .bool false := haft 5 (op_at ho (fun o => o.after.any fun e => decide (e.on = 5) && Region.binds .any e) (x := true) (by kernel_rfl))
  have e13 : a.eval (.tmp 52) = .pointer (some ⟨bo, oo + kk * 5 + 4, none⟩) := haft 13 (op_at ho (fun o => o.after.any fun e => decide (e.on = 13) && Region.binds .any e) (x := true) (by kernel_rfl))
  refine .inl ⟨fun j b h => (by rw [hgd] at h; cases h; exact e5), ?_⟩
  have cw' := cw W hB
  exact specs_value (R := fun v W => cpBS b off np cp bo oo nn cc kk x y 14 v W) (v := .int .i64 y) (by simp [execOp, hop, go_sem, ev e13, cw']) rfl (Ext.refl W)
set_option maxHeartbeats 1000000 in
theorem cpB_op15 (haft : ∀ j, (o.after.any fun e => decide (e.on = j) && Region.binds .any e) = true → cpBS b off np cp bo oo nn cc kk x y j (a.eval (.tmp (cpD j))) W) (ho : cpReg[15]? = some o) : cpBOk b off np cp bo oo nn cc kk x y Q a W 15 o := by
  have hop := op_at ho (·.op) (x := Op.binOp BinOp.gtr 2 (Operand.tmp 48) (Operand.tmp 53) 2) (by kernel_rfl)
  have hgd := op_at ho (·.guard) (x := some (5, false)) (by kernel_rfl)
  have e5 : a.eval (.tmp 44) = .bool false := haft 5 (op_at ho (fun o => o.after.any fun e => decide (e.on = 5) && Region.binds .any e) (x := true) (by kernel_rfl))
  have e9 : a.eval (.tmp 48) = .int .i64 x := haft 9 (op_at ho (fun o => o.after.any fun e => decide (e.on = 9) && Region.binds .any e) (x := true) (by kernel_rfl))
  have e14 : a.eval (.tmp 53) = .int .i64 y := haft 14 (op_at ho (fun o => o.after.any fun e => decide (e.on = 14) && Region.binds .any e) (x := true) (by kernel_rfl))
  refine .inl ⟨fun j b h => (by rw [hgd] at h; cases h; exact e5), ?_⟩
  exact specs_value (R := fun v W => cpBS b off np cp bo oo nn cc kk x y 15 v W) (v := .bool (decide (y < x))) (by simp [execOp, hop, go_sem, ev e9, ev e14]) rfl (Ext.refl W)
set_option maxHeartbeats 1000000 in
theorem cpB_op16 (haft : ∀ j, (o.after.any fun e => decide (e.on = j) && Region.binds .any e) = true → cpBS b off np cp bo oo nn cc kk x y j (a.eval (.tmp (cpD j))) W) (ho : cpReg[16]? = some o) : cpBOk b off np cp bo oo nn cc kk x y Q a W 16 o := by
  have hop := op_at ho (·.op) (x := Op.pick (Operand.tmp 44) (Operand.const (Value.bool true)) (Operand.tmp 54)) (by kernel_rfl)
  have hgd := op_at ho (·.guard) (x := none) (by kernel_rfl)
  have e5 : a.eval (.tmp 44) = .bool false := haft 5 (op_at ho (fun o => o.after.any fun e => decide (e.on = 5) && Region.binds .any e) (x := true) (by kernel_rfl))
  have e15 : a.eval (.tmp 54) = .bool (decide (y < x)) := haft 15 (op_at ho (fun o => o.after.any fun e => decide (e.on = 15) && Region.binds .any e) (x := true) (by kernel_rfl))
  refine .inl ⟨fun j b h => (by rw [hgd] at h; cases h), ?_⟩
  exact specs_value (R := fun v W => cpBS b off np cp bo oo nn cc kk x y 16 v W) (v := .bool (decide (y < x))) (by simp [execOp, hop, go_sem, ev e5, ev e15]) rfl (Ext.refl W)
set_option maxRecDepth 100000 in
set_option maxHeartbeats 4000000 in
/-- Region 10 of function 45, one way through it. -/
theorem cpB_wp {id : Nat} (hlen : a.tmps.size = 100) (o0 : a.eval (.tmp 0) = .slice (some ⟨bo, oo, none⟩) nn cc) (o3 : a.eval (.tmp 3) = .slice (some ⟨b, off, none⟩) np cp) (o10 : a.eval (.tmp 10) = .int .i64 (kk : Int)) (hlp : (kk : Int) < (np : Int)) (cx : ∀ W, Ext V W → W.cell? ⟨b, off + kk, none⟩ = some (.int .i64 x)) (h1 : ¬ x < 0) (hlt : (kk : Int) < (nn : Int)) (cw : ∀ W, Ext V W → W.cell? ⟨bo, oo + kk * 5 + 4, none⟩ = some (.int .i64 y)) (K : ∀ W, Ext V W → Q .normal (puts a [(39, .slice (some ⟨b, off, none⟩) np cp), (40, .int .i64 (kk : Int)), (41, .pointer (some ⟨b, off + kk, none⟩)), (42, .int .i64 x), (43, .bool false), (44, .bool false), (45, .slice (some ⟨b, off, none⟩) np cp), (46, .int .i64 (kk : Int)), (47, .pointer (some ⟨b, off + kk, none⟩)), (48, .int .i64 x), (49, .slice (some ⟨bo, oo, none⟩) nn cc), (50, .int .i64 (kk : Int)), (51, .pointer (some ⟨bo, oo + kk * 5, none⟩)), (52, .pointer (some ⟨bo, oo + kk * 5 + 4, none⟩)), (53, .int .i64 y), (54, .bool (decide (y < x))), (55, .bool (decide (y < x)))]) W) : (Code.region id cpReg true).wp Tryz.prog Q a V := by
  refine wp_region_maybe (ops := cpReg) (cpBS b off np cp bo oo nn cc kk x y) (Ext V) (by kernel_rfl) (by rw [hlen]; kernel_rfl) ⟨rfl, rfl, rfl, Nat.le_refl _, fun _ _ => rfl⟩ (fun _ _ h e => h.trans e) (fun _ _ _ _ h _ => h) cpD (by kernel_rfl) ?_ ?_
  · intro i o ho a' W hB hsz hold haft
    have hi : i < 17 := by
      have h1 := (Array.getElem?_eq_some_iff.1 ho).1
      have h2 := cp_size
      omega
    match i, hi with
    | 0, _ => exact cpB_op0 ((hold 3 (by kernel_rfl)).trans o3) ho
    | 1, _ => exact cpB_op1 ((hold 10 (by kernel_rfl)).trans o10) ho
    | 2, _ => exact cpB_op2 hlp haft ho
    | 3, _ => exact cpB_op3 cx hB haft ho
    | 4, _ => exact cpB_op4 h1 haft ho
    | 5, _ => exact cpB_op5 haft ho
    | 6, _ => exact cpB_op6 ((hold 3 (by kernel_rfl)).trans o3) haft ho
    | 7, _ => exact cpB_op7 ((hold 10 (by kernel_rfl)).trans o10) haft ho
    | 8, _ => exact cpB_op8 hlp haft ho
    | 9, _ => exact cpB_op9 cx hB haft ho
    | 10, _ => exact cpB_op10 ((hold 0 (by kernel_rfl)).trans o0) haft ho
    | 11, _ => exact cpB_op11 ((hold 10 (by kernel_rfl)).trans o10) haft ho
    | 12, _ => exact cpB_op12 hlt haft ho
    | 13, _ => exact cpB_op13 haft ho
    | 14, _ => exact cpB_op14 cw hB haft ho
    | 15, _ => exact cpB_op15 haft ho
    | 16, _ => exact cpB_op16 haft ho
    | m + 17, h => exact absurd h (by omega)
  · intro a1 W hB hsz hdf hold hS
    have hs2 := cp_size
    have hall : ∀ zz, zz ∈ ([(39, .slice (some ⟨b, off, none⟩) np cp), (40, .int .i64 (kk : Int)), (41, .pointer (some ⟨b, off + kk, none⟩)), (42, .int .i64 x), (43, .bool false), (44, .bool false), (45, .slice (some ⟨b, off, none⟩) np cp), (46, .int .i64 (kk : Int)), (47, .pointer (some ⟨b, off + kk, none⟩)), (48, .int .i64 x), (49, .slice (some ⟨bo, oo, none⟩) nn cc), (50, .int .i64 (kk : Int)), (51, .pointer (some ⟨bo, oo + kk * 5, none⟩)), (52, .pointer (some ⟨bo, oo + kk * 5 + 4, none⟩)), (53, .int .i64 y), (54, .bool (decide (y < x))), (55, .bool (decide (y < x)))] : List (Tmp × Value)) → zz.1 < a.tmps.size ∧ a1.eval (.tmp zz.1) = zz.2 := by
      intro zz hz
      rw [hlen]
      simp only [List.mem_cons, List.not_mem_nil, or_false] at hz
      rcases hz with rfl | rfl | rfl | rfl | rfl | rfl | rfl | rfl | rfl | rfl | rfl | rfl | rfl | rfl | rfl | rfl | rfl
      · exact ⟨(show (39 : Nat) < 100 by omega), hS 0 (by omega)⟩
      · exact ⟨(show (40 : Nat) < 100 by omega), hS 1 (by omega)⟩
      · exact ⟨(show (41 : Nat) < 100 by omega), hS 2 (by omega)⟩
      · exact ⟨(show (42 : Nat) < 100 by omega), hS 3 (by omega)⟩
      · exact ⟨(show (43 : Nat) < 100 by omega), hS 4 (by omega)⟩
      · exact ⟨(show (44 : Nat) < 100 by omega), hS 5 (by omega)⟩
      · exact ⟨(show (45 : Nat) < 100 by omega), hS 6 (by omega)⟩
      · exact ⟨(show (46 : Nat) < 100 by omega), hS 7 (by omega)⟩
      · exact ⟨(show (47 : Nat) < 100 by omega), hS 8 (by omega)⟩
      · exact ⟨(show (48 : Nat) < 100 by omega), hS 9 (by omega)⟩
      · exact ⟨(show (49 : Nat) < 100 by omega), hS 10 (by omega)⟩
      · exact ⟨(show (50 : Nat) < 100 by omega), hS 11 (by omega)⟩
      · exact ⟨(show (51 : Nat) < 100 by omega), hS 12 (by omega)⟩
      · exact ⟨(show (52 : Nat) < 100 by omega), hS 13 (by omega)⟩
      · exact ⟨(show (53 : Nat) < 100 by omega), hS 14 (by omega)⟩
      · exact ⟨(show (54 : Nat) < 100 by omega), hS 15 (by omega)⟩
      · exact ⟨(show (55 : Nat) < 100 by omega), hS 16 (by omega)⟩
    have ha := act_puts hsz hdf hall (fun t ht => hold t (by rw [hs2]; exact all_ne_of (l := [(39, .slice (some ⟨b, off, none⟩) np cp), (40, .int .i64 (kk : Int)), (41, .pointer (some ⟨b, off + kk, none⟩)), (42, .int .i64 x), (43, .bool false), (44, .bool false), (45, .slice (some ⟨b, off, none⟩) np cp), (46, .int .i64 (kk : Int)), (47, .pointer (some ⟨b, off + kk, none⟩)), (48, .int .i64 x), (49, .slice (some ⟨bo, oo, none⟩) nn cc), (50, .int .i64 (kk : Int)), (51, .pointer (some ⟨bo, oo + kk * 5, none⟩)), (52, .pointer (some ⟨bo, oo + kk * 5 + 4, none⟩)), (53, .int .i64 y), (54, .bool (decide (y < x))), (55, .bool (decide (y < x)))]) (by kernel_rfl) ht))
    rw [ha]
    exact K W hB
end

/-- The slots of region 16 of function 45. -/
def cp16D (i : Nat) : Tmp := if i = 0 then 65 else if i = 1 then 66 else if i = 2 then 67 else if i = 3 then 68 else if i = 4 then 69 else if i = 5 then 70 else if i = 6 then 71 else if i = 7 then 72 else if i = 8 then 73 else if i = 9 then 74 else if i = 10 then 75 else 76
/-- What each operation yields. -/
def cp16S (b off np cp bo oo nn cc kk : Nat) (x y s t u : Int) (ix : Nat) (v : Value) (_W : World) : Prop :=
  match ix with
  | 0 => v = .int .i64 s
  | 1 => v = .slice (some ⟨bo, oo, none⟩) nn cc
  | 2 => v = .int .i64 (kk : Int)
  | 3 => v = .pointer (some ⟨bo, oo + kk * 5, none⟩)
  | 4 => v = .pointer (some ⟨bo, oo + kk * 5 + 4, none⟩)
  | 5 => v = .int .i64 y
  | 6 => v = .slice (some ⟨b, off, none⟩) np cp
  | 7 => v = .int .i64 (kk : Int)
  | 8 => v = .pointer (some ⟨b, off + kk, none⟩)
  | 9 => v = .int .i64 x
  | 10 => v = .int .i64 u
  | 11 => v = .int .i64 t
  | _ => True
noncomputable def cp16Reg : Array Oper := (Tryz.f45.body.bind (regionOf · 16)).getD #[]
theorem cp16S_ext {b off np cp bo oo nn cc kk : Nat} {x y s t u : Int} : ∀ (i : Nat) (v : Value) (W W' : World), cp16S b off np cp bo oo nn cc kk x y s t u i v W → Below W.heap.size W W' → cp16S b off np cp bo oo nn cc kk x y s t u i v W' := by
  intro i v W W' h e
  match i with
  | 0 => exact h
  | 1 => exact h
  | 2 => exact h
  | 3 => exact h
  | 4 => exact h
  | 5 => exact h
  | 6 => exact h
  | 7 => exact h
  | 8 => exact h
  | 9 => exact h
  | 10 => exact h
  | 11 => exact h
  | k + 12 => exact trivial
def cp16Ok (b off np cp bo oo nn cc kk : Nat) (x y s t u : Int) (Q : Exit → Act → World → Prop) (a : Act) (W : World) (ix : Nat) (o : Oper) : Prop :=
  (∀ j b, o.guard = some (j, b) → a.eval (.tmp (cp16D j)) = .bool b) ∧ o.wp Tryz.prog a W (fun a'' W' => ∃ v, a'' = a.put o.dst v ∧ cp16S b off np cp bo oo nn cc kk x y s t u ix v W' ∧ Below W.heap.size W W') Q
section
variable {b off np cp bo oo nn cc kk : Nat} {x y s t u : Int} {Q : Exit → Act → World → Prop} {a : Act} {V W : World} {o : Oper}
set_option maxHeartbeats 1000000 in
theorem cp16_op0 (o11 : a.eval (.tmp 11) = .int .i64 s) (ho : cp16Reg[0]? = some o) : cp16Ok b off np cp bo oo nn cc kk x y s t u Q a W 0 o := by
  have hop := op_at ho (·.op) (x := Op.move (Operand.tmp 11)) (by kernel_rfl)
  have hgd := op_at ho (·.guard) (x := none) (by kernel_rfl)
  refine ⟨fun j b h => (by rw [hgd] at h; cases h), ?_⟩
  exact specs_value (R := fun v W => cp16S b off np cp bo oo nn cc kk x y s t u 0 v W) (v := .int .i64 s) (by simp [execOp, hop, go_sem, ev o11]) rfl (Ext.refl W)
set_option maxHeartbeats 1000000 in
theorem cp16_op1 (o0 : a.eval (.tmp 0) = .slice (some ⟨bo, oo, none⟩) nn cc) (ho : cp16Reg[1]? = some o) : cp16Ok b off np cp bo oo nn cc kk x y s t u Q a W 1 o := by
  have hop := op_at ho (·.op) (x := Op.move (Operand.tmp 0)) (by kernel_rfl)
  have hgd := op_at ho (·.guard) (x := none) (by kernel_rfl)
  refine ⟨fun j b h => (by rw [hgd] at h; cases h), ?_⟩
  exact specs_value (R := fun v W => cp16S b off np cp bo oo nn cc kk x y s t u 1 v W) (v := .slice (some ⟨bo, oo, none⟩) nn cc) (by simp [execOp, hop, go_sem, ev o0]) rfl (Ext.refl W)
set_option maxHeartbeats 1000000 in
theorem cp16_op2 (o12 : a.eval (.tmp 12) = .int .i64 (kk : Int)) (ho : cp16Reg[2]? = some o) : cp16Ok b off np cp bo oo nn cc kk x y s t u Q a W 2 o := by
  have hop := op_at ho (·.op) (x := Op.move (Operand.tmp 12)) (by kernel_rfl)
  have hgd := op_at ho (·.guard) (x := none) (by kernel_rfl)
  refine ⟨fun j b h => (by rw [hgd] at h; cases h), ?_⟩
  exact specs_value (R := fun v W => cp16S b off np cp bo oo nn cc kk x y s t u 2 v W) (v := .int .i64 (kk : Int)) (by simp [execOp, hop, go_sem, ev o12]) rfl (Ext.refl W)
set_option maxHeartbeats 1000000 in
theorem cp16_op3 (hlt : (kk : Int) < (nn : Int)) (haft : ∀ j, (o.after.any fun e => decide (e.on = j) && Region.binds .any e) = true → cp16S b off np cp bo oo nn cc kk x y s t u j (a.eval (.tmp (cp16D j))) W) (ho : cp16Reg[3]? = some o) : cp16Ok b off np cp bo oo nn cc kk x y s t u Q a W 3 o := by
  have hop := op_at ho (·.op) (x := Op.indexAddr 22 (Operand.tmp 66) (Operand.tmp 67)) (by kernel_rfl)
  have hgd := op_at ho (·.guard) (x := none) (by kernel_rfl)
  have e1 : a.eval (.tmp 66) = .slice (some ⟨bo, oo, none⟩) nn cc := haft 1 (op_at ho (fun o => o.after.any fun e => decide (e.on = 1) && Region.binds .any e) (x := true) (by kernel_rfl))
  have e2 : a.eval (.tmp 67) = .int .i64 (kk : Int) := haft 2 (op_at ho (fun o => o.after.any fun e => decide (e.on = 2) && Region.binds .any e) (x := true) (by kernel_rfl))
  refine ⟨fun j b h => (by rw [hgd] at h; cases h), ?_⟩
  exact specs_value (R := fun v W => cp16S b off np cp bo oo nn cc kk x y s t u 3 v W) (v := .pointer (some ⟨bo, oo + kk * 5, none⟩)) (by simp [execOp, hop, go_sem, ev e1, ev e2, hlt]) rfl (Ext.refl W)
set_option maxHeartbeats 1000000 in
theorem cp16_op4 (haft : ∀ j, (o.after.any fun e => decide (e.on = j) && Region.binds .any e) = true → cp16S b off np cp bo oo nn cc kk x y s t u j (a.eval (.tmp (cp16D j))) W) (ho : cp16Reg[4]? = some o) : cp16Ok b off np cp bo oo nn cc kk x y s t u Q a W 4 o := by
  have hop := op_at ho (·.op) (x := Op.fieldAddr 56 (Operand.tmp 68) 2) (by kernel_rfl)
  have hgd := op_at ho (·.guard) (x := none) (by kernel_rfl)
  have e3 : a.eval (.tmp 68) = .pointer (some ⟨bo, oo + kk * 5, none⟩) := haft 3 (op_at ho (fun o => o.after.any fun e => decide (e.on = 3) && Region.binds .any e) (x := true) (by kernel_rfl))
  refine ⟨fun j b h => (by rw [hgd] at h; cases h), ?_⟩
  exact specs_value (R := fun v W => cp16S b off np cp bo oo nn cc kk x y s t u 4 v W) (v := .pointer (some ⟨bo, oo + kk * 5 + 4, none⟩)) (by simp [execOp, hop, go_sem, ev e3]) rfl (Ext.refl W)
set_option maxHeartbeats 1000000 in
theorem cp16_op5 (cw : ∀ W, Ext V W → W.cell? ⟨bo, oo + kk * 5 + 4, none⟩ = some (.int .i64 y)) (hB : Ext V W) (haft : ∀ j, (o.after.any fun e => decide (e.on = j) && Region.binds .any e) = true → cp16S b off np cp bo oo nn cc kk x y s t u j (a.eval (.tmp (cp16D j))) W) (ho : cp16Reg[5]? = some o) : cp16Ok b off np cp bo oo nn cc kk x y s t u Q a W 5 o := by
  have hop := op_at ho (·.op) (x := Op.load 2 (Operand.tmp 69)) (by kernel_rfl)
  have hgd := op_at ho (·.guard) (x := none) (by kernel_rfl)
  have e4 : a.eval (.tmp 69) = .pointer (some ⟨bo, oo + kk * 5 + 4, none⟩) := haft 4 (op_at ho (fun o => o.after.any fun e => decide (e.on = 4) && Region.binds .any e) (x := true) (by kernel_rfl))
  refine ⟨fun j b h => (by rw [hgd] at h; cases h), ?_⟩
  have cw' := cw W hB
  exact specs_value (R := fun v W => cp16S b off np cp bo oo nn cc kk x y s t u 5 v W) (v := .int .i64 y) (by simp [execOp, hop, go_sem, ev e4, cw']) rfl (Ext.refl W)
set_option maxHeartbeats 1000000 in
theorem cp16_op6 (o3 : a.eval (.tmp 3) = .slice (some ⟨b, off, none⟩) np cp) (ho : cp16Reg[6]? = some o) : cp16Ok b off np cp bo oo nn cc kk x y s t u Q a W 6 o := by
  have hop := op_at ho (·.op) (x := Op.move (Operand.tmp 3)) (by kernel_rfl)
  have hgd := op_at ho (·.guard) (x := none) (by kernel_rfl)
  refine ⟨fun j b h => (by rw [hgd] at h; cases h), ?_⟩
  exact specs_value (R := fun v W => cp16S b off np cp bo oo nn cc kk x y s t u 6 v W) (v := .slice (some ⟨b, off, none⟩) np cp) (by simp [execOp, hop, go_sem, ev o3]) rfl (Ext.refl W)
set_option maxHeartbeats 1000000 in
theorem cp16_op7 (o12 : a.eval (.tmp 12) = .int .i64 (kk : Int)) (ho : cp16Reg[7]? = some o) : cp16Ok b off np cp bo oo nn cc kk x y s t u Q a W 7 o := by
  have hop := op_at ho (·.op) (x := Op.move (Operand.tmp 12)) (by kernel_rfl)
  have hgd := op_at ho (·.guard) (x := none) (by kernel_rfl)
  refine ⟨fun j b h => (by rw [hgd] at h; cases h), ?_⟩
  exact specs_value (R := fun v W => cp16S b off np cp bo oo nn cc kk x y s t u 7 v W) (v := .int .i64 (kk : Int)) (by simp [execOp, hop, go_sem, ev o12]) rfl (Ext.refl W)
set_option maxHeartbeats 1000000 in
theorem cp16_op8 (hlp : (kk : Int) < (np : Int)) (haft : ∀ j, (o.after.any fun e => decide (e.on = j) && Region.binds .any e) = true → cp16S b off np cp bo oo nn cc kk x y s t u j (a.eval (.tmp (cp16D j))) W) (ho : cp16Reg[8]? = some o) : cp16Ok b off np cp bo oo nn cc kk x y s t u Q a W 8 o := by
  have hop := op_at ho (·.op) (x := Op.indexAddr 36 (Operand.tmp 71) (Operand.tmp 72)) (by kernel_rfl)
  have hgd := op_at ho (·.guard) (x := none) (by kernel_rfl)
  have e6 : a.eval (.tmp 71) = .slice (some ⟨b, off, none⟩) np cp := haft 6 (op_at ho (fun o => o.after.any fun e => decide (e.on = 6) && Region.binds .any e) (x := true) (by kernel_rfl))
  have e7 : a.eval (.tmp 72) = .int .i64 (kk : Int) := haft 7 (op_at ho (fun o => o.after.any fun e => decide (e.on = 7) && Region.binds .any e) (x := true) (by kernel_rfl))
  refine ⟨fun j b h => (by rw [hgd] at h; cases h), ?_⟩
  exact specs_value (R := fun v W => cp16S b off np cp bo oo nn cc kk x y s t u 8 v W) (v := .pointer (some ⟨b, off + kk, none⟩)) (by simp [execOp, hop, go_sem, ev e6, ev e7, hlp]) rfl (Ext.refl W)
set_option maxHeartbeats 1000000 in
theorem cp16_op9 (cx : ∀ W, Ext V W → W.cell? ⟨b, off + kk, none⟩ = some (.int .i64 x)) (hB : Ext V W) (haft : ∀ j, (o.after.any fun e => decide (e.on = j) && Region.binds .any e) = true → cp16S b off np cp bo oo nn cc kk x y s t u j (a.eval (.tmp (cp16D j))) W) (ho : cp16Reg[9]? = some o) : cp16Ok b off np cp bo oo nn cc kk x y s t u Q a W 9 o := by
  have hop := op_at ho (·.op) (x := Op.load 2 (Operand.tmp 73)) (by kernel_rfl)
  have hgd := op_at ho (·.guard) (x := none) (by kernel_rfl)
  have e8 : a.eval (.tmp 73) = .pointer (some ⟨b, off + kk, none⟩) := haft 8 (op_at ho (fun o => o.after.any fun e => decide (e.on = 8) && Region.binds .any e) (x := true) (by kernel_rfl))
  refine ⟨fun j b h => (by rw [hgd] at h; cases h), ?_⟩
  have cx' := cx W hB
  exact specs_value (R := fun v W => cp16S b off np cp bo oo nn cc kk x y s t u 9 v W) (v := .int .i64 x) (by simp [execOp, hop, go_sem, ev e8, cx']) rfl (Ext.refl W)
set_option maxHeartbeats 1000000 in
theorem cp16_op10 (w1 : IntKind.i64.wrap (y - x) = u) (haft : ∀ j, (o.after.any fun e => decide (e.on = j) && Region.binds .any e) = true → cp16S b off np cp bo oo nn cc kk x y s t u j (a.eval (.tmp (cp16D j))) W) (ho : cp16Reg[10]? = some o) : cp16Ok b off np cp bo oo nn cc kk x y s t u Q a W 10 o := by
  have hop := op_at ho (·.op) (x := Op.binOp BinOp.sub 2 (Operand.tmp 70) (Operand.tmp 74) 2) (by kernel_rfl)
  have hgd := op_at ho (·.guard) (x := none) (by kernel_rfl)
  have e5 : a.eval (.tmp 70) = .int .i64 y := haft 5 (op_at ho (fun o => o.after.any fun e => decide (e.on = 5) && Region.binds .any e) (x := true) (by kernel_rfl))
  have e9 : a.eval (.tmp 74) = .int .i64 x := haft 9 (op_at ho (fun o => o.after.any fun e => decide (e.on = 9) && Region.binds .any e) (x := true) (by kernel_rfl))
  refine ⟨fun j b h => (by rw [hgd] at h; cases h), ?_⟩
  exact specs_value (R := fun v W => cp16S b off np cp bo oo nn cc kk x y s t u 10 v W) (v := .int .i64 u) (by simp [execOp, hop, go_sem, ev e5, ev e9, w1]) rfl (Ext.refl W)
set_option maxHeartbeats 1000000 in
theorem cp16_op11 (w2 : IntKind.i64.wrap (s + u) = t) (haft : ∀ j, (o.after.any fun e => decide (e.on = j) && Region.binds .any e) = true → cp16S b off np cp bo oo nn cc kk x y s t u j (a.eval (.tmp (cp16D j))) W) (ho : cp16Reg[11]? = some o) : cp16Ok b off np cp bo oo nn cc kk x y s t u Q a W 11 o := by
  have hop := op_at ho (·.op) (x := Op.binOp BinOp.add 2 (Operand.tmp 65) (Operand.tmp 75) 2) (by kernel_rfl)
  have hgd := op_at ho (·.guard) (x := none) (by kernel_rfl)
  have e0 : a.eval (.tmp 65) = .int .i64 s := haft 0 (op_at ho (fun o => o.after.any fun e => decide (e.on = 0) && Region.binds .any e) (x := true) (by kernel_rfl))
  have e10 : a.eval (.tmp 75) = .int .i64 u := haft 10 (op_at ho (fun o => o.after.any fun e => decide (e.on = 10) && Region.binds .any e) (x := true) (by kernel_rfl))
  refine ⟨fun j b h => (by rw [hgd] at h; cases h), ?_⟩
  exact specs_value (R := fun v W => cp16S b off np cp bo oo nn cc kk x y s t u 11 v W) (v := .int .i64 t) (by simp [execOp, hop, go_sem, ev e0, ev e10, w2]) rfl (Ext.refl W)
set_option maxRecDepth 100000 in
set_option maxHeartbeats 4000000 in
/-- Region 16 of function 45. -/
theorem cp16_wp {id : Nat} (hlen : a.tmps.size = 100) (o0 : a.eval (.tmp 0) = .slice (some ⟨bo, oo, none⟩) nn cc) (o3 : a.eval (.tmp 3) = .slice (some ⟨b, off, none⟩) np cp) (o11 : a.eval (.tmp 11) = .int .i64 s) (o12 : a.eval (.tmp 12) = .int .i64 (kk : Int)) (hlt : (kk : Int) < (nn : Int)) (cw : ∀ W, Ext V W → W.cell? ⟨bo, oo + kk * 5 + 4, none⟩ = some (.int .i64 y)) (hlp : (kk : Int) < (np : Int)) (cx : ∀ W, Ext V W → W.cell? ⟨b, off + kk, none⟩ = some (.int .i64 x)) (w1 : IntKind.i64.wrap (y - x) = u) (w2 : IntKind.i64.wrap (s + u) = t) (K : (∀ W, Ext V W → wpList Tryz.prog cp16Reg Q (cp16Reg.toList.drop 12) (puts a [(65, .int .i64 s), (66, .slice (some ⟨bo, oo, none⟩) nn cc), (67, .int .i64 (kk : Int)), (68, .pointer (some ⟨bo, oo + kk * 5, none⟩)), (69, .pointer (some ⟨bo, oo + kk * 5 + 4, none⟩)), (70, .int .i64 y), (71, .slice (some ⟨b, off, none⟩) np cp), (72, .int .i64 (kk : Int)), (73, .pointer (some ⟨b, off + kk, none⟩)), (74, .int .i64 x), (75, .int .i64 u), (76, .int .i64 t)]) W)) : (Code.region id cp16Reg true).wp Tryz.prog Q a V := by
  refine wp_region_specs_sink (ops := cp16Reg) 12 (cp16S b off np cp bo oo nn cc kk x y s t u) (Ext V) (by kernel_rfl) (by rw [hlen]; kernel_rfl) (by kernel_rfl) ⟨rfl, rfl, rfl, Nat.le_refl _, fun _ _ => rfl⟩ (fun _ _ h e => h.trans e) cp16S_ext cp16D (by kernel_rfl) ?_ ?_
  · intro i o hi ho a' W hB hsz hold haft
    match i, hi with
    | 0, _ => exact cp16_op0 ((hold 11 (by kernel_rfl)).trans o11) ho
    | 1, _ => exact cp16_op1 ((hold 0 (by kernel_rfl)).trans o0) ho
    | 2, _ => exact cp16_op2 ((hold 12 (by kernel_rfl)).trans o12) ho
    | 3, _ => exact cp16_op3 hlt haft ho
    | 4, _ => exact cp16_op4 haft ho
    | 5, _ => exact cp16_op5 cw hB haft ho
    | 6, _ => exact cp16_op6 ((hold 3 (by kernel_rfl)).trans o3) ho
    | 7, _ => exact cp16_op7 ((hold 12 (by kernel_rfl)).trans o12) ho
    | 8, _ => exact cp16_op8 hlp haft ho
    | 9, _ => exact cp16_op9 cx hB haft ho
    | 10, _ => exact cp16_op10 w1 haft ho
    | 11, _ => exact cp16_op11 w2 haft ho
    | m + 12, h => exact absurd h (by omega)
  · intro a1 W hB hsz hdf hold hS
    have hall : ∀ zz, zz ∈ ([(65, .int .i64 s), (66, .slice (some ⟨bo, oo, none⟩) nn cc), (67, .int .i64 (kk : Int)), (68, .pointer (some ⟨bo, oo + kk * 5, none⟩)), (69, .pointer (some ⟨bo, oo + kk * 5 + 4, none⟩)), (70, .int .i64 y), (71, .slice (some ⟨b, off, none⟩) np cp), (72, .int .i64 (kk : Int)), (73, .pointer (some ⟨b, off + kk, none⟩)), (74, .int .i64 x), (75, .int .i64 u), (76, .int .i64 t)] : List (Tmp × Value)) → zz.1 < a.tmps.size ∧ a1.eval (.tmp zz.1) = zz.2 := by
      intro zz hz
      rw [hlen]
      simp only [List.mem_cons, List.not_mem_nil, or_false] at hz
      rcases hz with rfl | rfl | rfl | rfl | rfl | rfl | rfl | rfl | rfl | rfl | rfl | rfl
      · exact ⟨(show (65 : Nat) < 100 by omega), hS 0 (by omega)⟩
      · exact ⟨(show (66 : Nat) < 100 by omega), hS 1 (by omega)⟩
      · exact ⟨(show (67 : Nat) < 100 by omega), hS 2 (by omega)⟩
      · exact ⟨(show (68 : Nat) < 100 by omega), hS 3 (by omega)⟩
      · exact ⟨(show (69 : Nat) < 100 by omega), hS 4 (by omega)⟩
      · exact ⟨(show (70 : Nat) < 100 by omega), hS 5 (by omega)⟩
      · exact ⟨(show (71 : Nat) < 100 by omega), hS 6 (by omega)⟩
      · exact ⟨(show (72 : Nat) < 100 by omega), hS 7 (by omega)⟩
      · exact ⟨(show (73 : Nat) < 100 by omega), hS 8 (by omega)⟩
      · exact ⟨(show (74 : Nat) < 100 by omega), hS 9 (by omega)⟩
      · exact ⟨(show (75 : Nat) < 100 by omega), hS 10 (by omega)⟩
      · exact ⟨(show (76 : Nat) < 100 by omega), hS 11 (by omega)⟩
    have ha := act_puts hsz hdf hall (fun t ht => hold t (all_ne_of (l := [(65, .int .i64 s), (66, .slice (some ⟨bo, oo, none⟩) nn cc), (67, .int .i64 (kk : Int)), (68, .pointer (some ⟨bo, oo + kk * 5, none⟩)), (69, .pointer (some ⟨bo, oo + kk * 5 + 4, none⟩)), (70, .int .i64 y), (71, .slice (some ⟨b, off, none⟩) np cp), (72, .int .i64 (kk : Int)), (73, .pointer (some ⟨b, off + kk, none⟩)), (74, .int .i64 x), (75, .int .i64 u), (76, .int .i64 t)]) (by kernel_rfl) ht))
    rw [ha]
    exact K W  hB 
end
end Go.Proofs.YtmlmnljbegcjcaaGreat
