/- Texts of one package, joined: ProvedPure, ProvedLaw. -/
import Derived.Test.YtmlmnljbegcjcaaGreatC17
/- What BathProved rests on. -/
namespace Go.Proofs.YtmlmnljbegcjcaaGreat
open Go.RowKit Go.Shelf

theorem bathsErr_zero {os : List Odr} {bs : List Int} : checkBathsErr os bs = 0 ↔ ordersErr os = 0 ∧ bathsErr bs = 0 ∧ os.all (madeB bs) = true := by
  unfold checkBathsErr withErr
  by_cases h0 : ordersErr os = 0
  · rw [if_pos h0]
    by_cases h1 : bathsErr bs = 0
    · rw [if_pos h1]
      by_cases h2 : os.all (madeB bs) = true
      · rw [if_pos h2]; exact ⟨fun _ => ⟨h0, h1, h2⟩, fun _ => rfl⟩
      · rw [if_neg h2]; exact ⟨fun h => (by cases h), fun h => absurd h.2.2 h2⟩
    · rw [if_neg h1]; exact ⟨fun h => absurd h h1, fun h => absurd h.2.1 h1⟩
  · rw [if_neg h0, if_neg h0]; exact ⟨fun h => absurd h h0, fun h => absurd h.1 h0⟩
theorem covers_iff {os : List Odr} {bs : List Int} : os.all (madeB bs) = true ↔ Covers bs os := by
  rw [List.all_eq_true]
  constructor
  · intro h o ho
    obtain ⟨x, hx, hd⟩ := made_iff.1 (h o ho)
    exact ⟨x, hx, hd⟩
  · intro h o ho
    obtain ⟨x, hx, hd⟩ := h o ho
    exact made_iff.2 ⟨x, hx, hd⟩
theorem bathsErr_sorted {bs : List Int} (h : bathsErr bs = 0) : bs.Pairwise (· < ·) ∧ bs.length ≤ 14 := by
  unfold bathsErr at h
  split at h
  · rename_i hl
    split at h
    · rename_i hp; exact ⟨hp.1, hl⟩
    · cases h
  · cases h
theorem whole_if {os : List Odr} (h0 : ordersErr os = 0) : wholeErr os = 0 ∨ wholeErr os = 22 := by
  unfold wholeErr
  rw [if_pos h0]
  split
  · exact .inl rfl
  · exact .inr rfl
theorem best_does {os : List Odr} (h : wholeErr os = 0) : checkBathsErr os (bestB os) = 0 := by
  obtain ⟨h0, hW⟩ := whole_ok h
  have hb : bestB os = fewB os := by unfold bestB; rw [if_pos h]
  rw [hb]
  obtain ⟨hs, hm⟩ := fewB_sorted os hW
  have hok := orders_ok h0
  refine bathsErr_zero.2 ⟨h0, ?_, covers_iff.2 (fewB_covers os hW)⟩
  have hl : (fewB os).length ≤ 14 := Nat.le_trans (stab_len _ _) hok.1.2
  unfold bathsErr
  rw [if_pos hl, if_pos ⟨hs, List.all_eq_true.2 fun x hx => by
    obtain ⟨o, ho, rfl⟩ := hm x hx
    have h1 := ordOk_iff.1 (hok.2 o ho)
    unfold inside bHi
    simp only [Bool.and_eq_true, decide_eq_true_eq]
    omega⟩]
theorem none_does {os : List Odr} (h0 : ordersErr os = 0) (h : wholeErr os ≠ 0) (bs : List Int) : checkBathsErr os bs ≠ 0 := fun hc => by
  obtain ⟨_, _, h2⟩ := bathsErr_zero.1 hc
  refine h ?_
  unfold wholeErr
  rw [if_pos h0, if_pos]
  rw [List.all_eq_true]
  intro o ho
  obtain ⟨x, _, hd⟩ := covers_iff.1 h2 o ho
  rw [doneB_iff] at hd
  unfold hasB
  rw [decide_eq_true_eq]
  omega
theorem best_least {os : List Odr} (h : wholeErr os = 0) {bs : List Int} (hc : checkBathsErr os bs = 0) : (bestB os).length ≤ bs.length ∧ (bs.length = (bestB os).length → ∀ i (h1 : i < bs.length) (h2 : i < (bestB os).length), bs[i] ≤ (bestB os)[i]) := by
  obtain ⟨h0, hW⟩ := whole_ok h
  have hb : bestB os = fewB os := by unfold bestB; rw [if_pos h]
  obtain ⟨_, h1, h2⟩ := bathsErr_zero.1 hc
  obtain ⟨hs, _⟩ := bathsErr_sorted h1
  refine ⟨by rw [hb]; exact fewB_few hW hs (covers_iff.1 h2), fun _ i hi1 hi2 => ?_⟩
  obtain ⟨b, hb1, hb2⟩ := fewB_late os hW bs hs (covers_iff.1 h2) i (bestB os)[i] (by rw [← hb]; exact List.getElem?_eq_getElem hi2)
  rw [List.getElem?_eq_getElem hi1] at hb1
  rw [Option.some.inj hb1]
  exact hb2
theorem apart_least {os : List Odr} (h : wholeErr os = 0) {xs : List Int} (hx : checkApartErr os xs = 0) : xs.length ≤ (bestB os).length := by
  obtain ⟨_, hW⟩ := whole_ok h
  have hb : bestB os = fewB os := by unfold bestB; rw [if_pos h]
  rw [hb]
  exact apart_below hx (fewB_covers os hW)
theorem best_few {os : List Odr} : (bestB os).length ≤ 14 := by
  unfold bestB
  split
  · rename_i h
    have := (orders_ok (whole_ok h).1).1
    exact Nat.le_trans (stab_len _ _) (by omega)
  · simp
end Go.Proofs.YtmlmnljbegcjcaaGreat

/- BathProved: its region, and the walk. -/
namespace Go.Proofs.YtmlmnljbegcjcaaGreat
open Go.RowKit Go.Shelf

/-- The slots of region 19 of function 8. -/
def pv19D (i : Nat) : Tmp := if i = 0 then 140 else if i = 1 then 141 else if i = 2 then 142 else if i = 3 then 143 else if i = 4 then 144 else if i = 5 then 145 else if i = 6 then 146 else if i = 7 then 147 else 148
/-- What each operation yields. -/
def pv19S (b off np cp b2 of2 nq cq kk : Nat) (x y : Int) (ix : Nat) (v : Value) (_W : World) : Prop :=
  match ix with
  | 0 => v = .slice (some ⟨b, off, none⟩) np cp
  | 1 => v = .int .i64 (kk : Int)
  | 2 => v = .pointer (some ⟨b, off + kk, none⟩)
  | 3 => v = .int .i64 x
  | 4 => v = .slice (some ⟨b2, of2, none⟩) nq cq
  | 5 => v = .int .i64 (kk : Int)
  | 6 => v = .pointer (some ⟨b2, of2 + kk, none⟩)
  | 7 => v = .int .i64 y
  | 8 => v = .bool (decide (y < x))
  | _ => True
noncomputable def pv19Reg : Array Oper := (Tryz.f8.body.bind (regionOf · 19)).getD #[]
theorem pv19S_ext {b off np cp b2 of2 nq cq kk : Nat} {x y : Int} : ∀ (i : Nat) (v : Value) (W W' : World), pv19S b off np cp b2 of2 nq cq kk x y i v W → Below W.heap.size W W' → pv19S b off np cp b2 of2 nq cq kk x y i v W' := by
  intro i v W W' h e
  match i with
  | 0 => exact h
  | 1 => exact h
  | 2 => exact h
  | 3 => exact h
  | 4 => exact h
  | 5 => exact h
  | 6 => exact h
  | 7 => exact h
  | 8 => exact h
  | k + 9 => exact trivial
def pv19Ok (b off np cp b2 of2 nq cq kk : Nat) (x y : Int) (Q : Exit → Act → World → Prop) (a : Act) (W : World) (ix : Nat) (o : Oper) : Prop :=
  (∀ j b, o.guard = some (j, b) → a.eval (.tmp (pv19D j)) = .bool b) ∧ o.wp Tryz.prog a W (fun a'' W' => ∃ v, a'' = a.put o.dst v ∧ pv19S b off np cp b2 of2 nq cq kk x y ix v W' ∧ Below W.heap.size W W') Q
section
variable {b off np cp b2 of2 nq cq kk : Nat} {x y : Int} {Q : Exit → Act → World → Prop} {a : Act} {V W : World} {o : Oper}
set_option maxHeartbeats 1000000 in
theorem pv19_op0 (o1 : a.eval (.tmp 1) = .slice (some ⟨b, off, none⟩) np cp) (ho : pv19Reg[0]? = some o) : pv19Ok b off np cp b2 of2 nq cq kk x y Q a W 0 o := by
  have hop := op_at ho (·.op) (x := Op.move (Operand.tmp 1)) (by kernel_rfl)
  have hgd := op_at ho (·.guard) (x := none) (by kernel_rfl)
  refine ⟨fun j b h => (by rw [hgd] at h; cases h), ?_⟩
  exact specs_value (R := fun v W => pv19S b off np cp b2 of2 nq cq kk x y 0 v W) (v := .slice (some ⟨b, off, none⟩) np cp) (by simp [execOp, hop, go_sem, ev o1]) rfl (Ext.refl W)
set_option maxHeartbeats 1000000 in
theorem pv19_op1 (o13 : a.eval (.tmp 13) = .int .i64 (kk : Int)) (ho : pv19Reg[1]? = some o) : pv19Ok b off np cp b2 of2 nq cq kk x y Q a W 1 o := by
  have hop := op_at ho (·.op) (x := Op.move (Operand.tmp 13)) (by kernel_rfl)
  have hgd := op_at ho (·.guard) (x := none) (by kernel_rfl)
  refine ⟨fun j b h => (by rw [hgd] at h; cases h), ?_⟩
  exact specs_value (R := fun v W => pv19S b off np cp b2 of2 nq cq kk x y 1 v W) (v := .int .i64 (kk : Int)) (by simp [execOp, hop, go_sem, ev o13]) rfl (Ext.refl W)
set_option maxHeartbeats 1000000 in
theorem pv19_op2 (h1 : (kk : Int) < (np : Int)) (haft : ∀ j, (o.after.any fun e => decide (e.on = j) && Region.binds .any e) = true → pv19S b off np cp b2 of2 nq cq kk x y j (a.eval (.tmp (pv19D j))) W) (ho : pv19Reg[2]? = some o) : pv19Ok b off np cp b2 of2 nq cq kk x y Q a W 2 o := by
  have hop := op_at ho (·.op) (x := Op.indexAddr 36 (Operand.tmp 140) (Operand.tmp 141)) (by kernel_rfl)
  have hgd := op_at ho (·.guard) (x := none) (by kernel_rfl)
  have e0 : a.eval (.tmp 140) = .slice (some ⟨b, off, none⟩) np cp := haft 0 (op_at ho (fun o => o.after.any fun e => decide (e.on = 0) && Region.binds .any e) (x := true) (by kernel_rfl))
  have e1 : a.eval (.tmp 141) = .int .i64 (kk : Int) := haft 1 (op_at ho (fun o => o.after.any fun e => decide (e.on = 1) && Region.binds .any e) (x := true) (by kernel_rfl))
  refine ⟨fun j b h => (by rw [hgd] at h; cases h), ?_⟩
  exact specs_value (R := fun v W => pv19S b off np cp b2 of2 nq cq kk x y 2 v W) (v := .pointer (some ⟨b, off + kk, none⟩)) (by simp [execOp, hop, go_sem, ev e0, ev e1, h1]) rfl (Ext.refl W)
set_option maxHeartbeats 1000000 in
theorem pv19_op3 (cx : ∀ W, Ext V W → W.cell? ⟨b, off + kk, none⟩ = some (.int .i64 x)) (hB : Ext V W) (haft : ∀ j, (o.after.any fun e => decide (e.on = j) && Region.binds .any e) = true → pv19S b off np cp b2 of2 nq cq kk x y j (a.eval (.tmp (pv19D j))) W) (ho : pv19Reg[3]? = some o) : pv19Ok b off np cp b2 of2 nq cq kk x y Q a W 3 o := by
  have hop := op_at ho (·.op) (x := Op.load 2 (Operand.tmp 142)) (by kernel_rfl)
  have hgd := op_at ho (·.guard) (x := none) (by kernel_rfl)
  have e2 : a.eval (.tmp 142) = .pointer (some ⟨b, off + kk, none⟩) := haft 2 (op_at ho (fun o => o.after.any fun e => decide (e.on = 2) && Region.binds .any e) (x := true) (by kernel_rfl))
  refine ⟨fun j b h => (by rw [hgd] at h; cases h), ?_⟩
  have cx' := cx W hB
  exact specs_value (R := fun v W => pv19S b off np cp b2 of2 nq cq kk x y 3 v W) (v := .int .i64 x) (by simp [execOp, hop, go_sem, ev e2, cx']) rfl (Ext.refl W)
set_option maxHeartbeats 1000000 in
theorem pv19_op4 (o7 : a.eval (.tmp 7) = .slice (some ⟨b2, of2, none⟩) nq cq) (ho : pv19Reg[4]? = some o) : pv19Ok b off np cp b2 of2 nq cq kk x y Q a W 4 o := by
  have hop := op_at ho (·.op) (x := Op.move (Operand.tmp 7)) (by kernel_rfl)
  have hgd := op_at ho (·.guard) (x := none) (by kernel_rfl)
  refine ⟨fun j b h => (by rw [hgd] at h; cases h), ?_⟩
  exact specs_value (R := fun v W => pv19S b off np cp b2 of2 nq cq kk x y 4 v W) (v := .slice (some ⟨b2, of2, none⟩) nq cq) (by simp [execOp, hop, go_sem, ev o7]) rfl (Ext.refl W)
set_option maxHeartbeats 1000000 in
theorem pv19_op5 (o13 : a.eval (.tmp 13) = .int .i64 (kk : Int)) (ho : pv19Reg[5]? = some o) : pv19Ok b off np cp b2 of2 nq cq kk x y Q a W 5 o := by
  have hop := op_at ho (·.op) (x := Op.move (Operand.tmp 13)) (by kernel_rfl)
  have hgd := op_at ho (·.guard) (x := none) (by kernel_rfl)
  refine ⟨fun j b h => (by rw [hgd] at h; cases h), ?_⟩
  exact specs_value (R := fun v W => pv19S b off np cp b2 of2 nq cq kk x y 5 v W) (v := .int .i64 (kk : Int)) (by simp [execOp, hop, go_sem, ev o13]) rfl (Ext.refl W)
set_option maxHeartbeats 1000000 in
theorem pv19_op6 (h2 : (kk : Int) < (nq : Int)) (haft : ∀ j, (o.after.any fun e => decide (e.on = j) && Region.binds .any e) = true → pv19S b off np cp b2 of2 nq cq kk x y j (a.eval (.tmp (pv19D j))) W) (ho : pv19Reg[6]? = some o) : pv19Ok b off np cp b2 of2 nq cq kk x y Q a W 6 o := by
  have hop := op_at ho (·.op) (x := Op.indexAddr 36 (Operand.tmp 144) (Operand.tmp 145)) (by kernel_rfl)
  have hgd := op_at ho (·.guard) (x := none) (by kernel_rfl)
  have e4 : a.eval (.tmp 144) = .slice (some ⟨b2, of2, none⟩) nq cq := haft 4 (op_at ho (fun o => o.after.any fun e => decide (e.on = 4) && Region.binds .any e) (x := true) (by kernel_rfl))
  have e5 : a.eval (.tmp 145) = .int .i64 (kk : Int) := haft 5 (op_at ho (fun o => o.after.any fun e => decide (e.on = 5) && Region.binds .any e) (x := true) (by kernel_rfl))
  refine ⟨fun j b h => (by rw [hgd] at h; cases h), ?_⟩
  exact specs_value (R := fun v W => pv19S b off np cp b2 of2 nq cq kk x y 6 v W) (v := .pointer (some ⟨b2, of2 + kk, none⟩)) (by simp [execOp, hop, go_sem, ev e4, ev e5, h2]) rfl (Ext.refl W)
set_option maxHeartbeats 1000000 in
theorem pv19_op7 (cy : ∀ W, Ext V W → W.cell? ⟨b2, of2 + kk, none⟩ = some (.int .i64 y)) (hB : Ext V W) (haft : ∀ j, (o.after.any fun e => decide (e.on = j) && Region.binds .any e) = true → pv19S b off np cp b2 of2 nq cq kk x y j (a.eval (.tmp (pv19D j))) W) (ho : pv19Reg[7]? = some o) : pv19Ok b off np cp b2 of2 nq cq kk x y Q a W 7 o := by
  have hop := op_at ho (·.op) (x := Op.load 2 (Operand.tmp 146)) (by kernel_rfl)
  have hgd := op_at ho (·.guard) (x := none) (by kernel_rfl)
  have e6 : a.eval (.tmp 146) = .pointer (some ⟨b2, of2 + kk, none⟩) := haft 6 (op_at ho (fun o => o.after.any fun e => decide (e.on = 6) && Region.binds .any e) (x := true) (by kernel_rfl))
  refine ⟨fun j b h => (by rw [hgd] at h; cases h), ?_⟩
  have cy' := cy W hB
  exact specs_value (R := fun v W => pv19S b off np cp b2 of2 nq cq kk x y 7 v W) (v := .int .i64 y) (by simp [execOp, hop, go_sem, ev e6, cy']) rfl (Ext.refl W)
set_option maxHeartbeats 1000000 in
theorem pv19_op8 (haft : ∀ j, (o.after.any fun e => decide (e.on = j) && Region.binds .any e) = true → pv19S b off np cp b2 of2 nq cq kk x y j (a.eval (.tmp (pv19D j))) W) (ho : pv19Reg[8]? = some o) : pv19Ok b off np cp b2 of2 nq cq kk x y Q a W 8 o := by
  have hop := op_at ho (·.op) (x := Op.binOp BinOp.gtr 2 (Operand.tmp 143) (Operand.tmp 147) 2) (by kernel_rfl)
  have hgd := op_at ho (·.guard) (x := none) (by kernel_rfl)
  have e3 : a.eval (.tmp 143) = .int .i64 x := haft 3 (op_at ho (fun o => o.after.any fun e => decide (e.on = 3) && Region.binds .any e) (x := true) (by kernel_rfl))
  have e7 : a.eval (.tmp 147) = .int .i64 y := haft 7 (op_at ho (fun o => o.after.any fun e => decide (e.on = 7) && Region.binds .any e) (x := true) (by kernel_rfl))
  refine ⟨fun j b h => (by rw [hgd] at h; cases h), ?_⟩
  exact specs_value (R := fun v W => pv19S b off np cp b2 of2 nq cq kk x y 8 v W) (v := .bool (decide (y < x))) (by simp [execOp, hop, go_sem, ev e3, ev e7]) rfl (Ext.refl W)
set_option maxRecDepth 100000 in
set_option maxHeartbeats 4000000 in
/-- Region 19 of function 8. -/
theorem pv19_wp {id : Nat} (hlen : a.tmps.size = 150) (o1 : a.eval (.tmp 1) = .slice (some ⟨b, off, none⟩) np cp) (o7 : a.eval (.tmp 7) = .slice (some ⟨b2, of2, none⟩) nq cq) (o13 : a.eval (.tmp 13) = .int .i64 (kk : Int)) (h1 : (kk : Int) < (np : Int)) (cx : ∀ W, Ext V W → W.cell? ⟨b, off + kk, none⟩ = some (.int .i64 x)) (h2 : (kk : Int) < (nq : Int)) (cy : ∀ W, Ext V W → W.cell? ⟨b2, of2 + kk, none⟩ = some (.int .i64 y)) (K : (∀ W, Ext V W → wpList Tryz.prog pv19Reg Q (pv19Reg.toList.drop 9) (puts a [(140, .slice (some ⟨b, off, none⟩) np cp), (141, .int .i64 (kk : Int)), (142, .pointer (some ⟨b, off + kk, none⟩)), (143, .int .i64 x), (144, .slice (some ⟨b2, of2, none⟩) nq cq), (145, .int .i64 (kk : Int)), (146, .pointer (some ⟨b2, of2 + kk, none⟩)), (147, .int .i64 y), (148, .bool (decide (y < x)))]) W)) : (Code.region id pv19Reg true).wp Tryz.prog Q a V := by
  refine wp_region_specs_free (ops := pv19Reg) 9 (pv19S b off np cp b2 of2 nq cq kk x y) (Ext V) (by kernel_rfl) (by rw [hlen]; kernel_rfl) (by kernel_rfl) ⟨rfl, rfl, rfl, Nat.le_refl _, fun _ _ => rfl⟩ (fun _ _ h e => h.trans e) pv19S_ext pv19D (by kernel_rfl) ?_ ?_
  · intro i o hi ho a' W hB hsz hold haft
    match i, hi with
    | 0, _ => exact pv19_op0 ((hold 1 (by kernel_rfl)).trans o1) ho
    | 1, _ => exact pv19_op1 ((hold 13 (by kernel_rfl)).trans o13) ho
    | 2, _ => exact pv19_op2 h1 haft ho
    | 3, _ => exact pv19_op3 cx hB haft ho
    | 4, _ => exact pv19_op4 ((hold 7 (by kernel_rfl)).trans o7) ho
    | 5, _ => exact pv19_op5 ((hold 13 (by kernel_rfl)).trans o13) ho
    | 6, _ => exact pv19_op6 h2 haft ho
    | 7, _ => exact pv19_op7 cy hB haft ho
    | 8, _ => exact pv19_op8 haft ho
    | m + 9, h => exact absurd h (by omega)
  · intro a1 W hB hsz hdf hold hS
    have hall : ∀ zz, zz ∈ ([(140, .slice (some ⟨b, off, none⟩) np cp), (141, .int .i64 (kk : Int)), (142, .pointer (some ⟨b, off + kk, none⟩)), (143, .int .i64 x), (144, .slice (some ⟨b2, of2, none⟩) nq cq), (145, .int .i64 (kk : Int)), (146, .pointer (some ⟨b2, of2 + kk, none⟩)), (147, .int .i64 y), (148, .bool (decide (y < x)))] : List (Tmp × Value)) → zz.1 < a.tmps.size ∧ a1.eval (.tmp zz.1) = zz.2 := by
      intro zz hz
      rw [hlen]
      simp only [List.mem_cons, List.not_mem_nil, or_false] at hz
      rcases hz with rfl | rfl | rfl | rfl | rfl | rfl | rfl | rfl | rfl
      · exact ⟨(show (140 : Nat) < 150 by omega), hS 0 (by omega)⟩
      · exact ⟨(show (141 : Nat) < 150 by omega), hS 1 (by omega)⟩
      · exact ⟨(show (142 : Nat) < 150 by omega), hS 2 (by omega)⟩
      · exact ⟨(show (143 : Nat) < 150 by omega), hS 3 (by omega)⟩
      · exact ⟨(show (144 : Nat) < 150 by omega), hS 4 (by omega)⟩
      · exact ⟨(show (145 : Nat) < 150 by omega), hS 5 (by omega)⟩
      · exact ⟨(show (146 : Nat) < 150 by omega), hS 6 (by omega)⟩
      · exact ⟨(show (147 : Nat) < 150 by omega), hS 7 (by omega)⟩
      · exact ⟨(show (148 : Nat) < 150 by omega), hS 8 (by omega)⟩
    have ha := act_puts hsz hdf hall (fun t ht => hold t (all_ne_of (l := [(140, .slice (some ⟨b, off, none⟩) np cp), (141, .int .i64 (kk : Int)), (142, .pointer (some ⟨b, off + kk, none⟩)), (143, .int .i64 x), (144, .slice (some ⟨b2, of2, none⟩) nq cq), (145, .int .i64 (kk : Int)), (146, .pointer (some ⟨b2, of2 + kk, none⟩)), (147, .int .i64 y), (148, .bool (decide (y < x)))]) (by kernel_rfl) ht))
    rw [ha]
    exact K W  hB 
end

theorem fine_not {A : Option Addr} {n c : Nat} {os : List Odr} {w : World} (h : IsOrders w A n c os) {q : Bool} (hq : decide (ordersErr os = 0) = q) : Calls Tryz.prog 41 #[.slice A n c] w fun e w' => e = .returned (.bool q) ∧ Ext w w' := hq ▸ fine_any h
set_option maxRecDepth 100000 in
set_option maxHeartbeats 8000000 in
theorem provedLaw_any {A : Option Addr} {n c : Nat} {os : List Odr} {w : World} (h : IsOrders w A n c os) (A1 : Option Addr) (n1 c1 : Nat) (bs : List Int) (hn1 : n1 = bs.length) (hm1 : n1 ≤ 9223372036854775807) (hh1 : Held w w.heap.size 1 encI A1 bs) (A2 : Option Addr) (n2 c2 : Nat) (xs : List Int) (hn2 : n2 = xs.length) (hm2 : n2 ≤ 9223372036854775807) (hh2 : Held w w.heap.size 1 encI A2 xs) :
    Calls Tryz.prog 8 #[.slice A n c, .slice A1 n1 c1, .slice A2 n2 c2] w fun e w' => e = .returned (.bool true) ∧ Ext w w' := by
  by_cases h0 : ordersErr os = 0
  · have hf := fine_not h (decide_eq_true h0)
    by_cases hg1 : 20 < n1
    · have hz1 : (20 : Int) < (n1 : Int) := by omega
      clear h h0 hh1 hh2 hn1 hn2 hg1
      go_enter Tryz.func8, Tryz.ntmps8
      go_wp2_with fail
      refine hf.mono ?_
      rintro e w1 ⟨rfl, e1⟩
      have HE := Lib.hid e1
      have h15 := works_any w1
      clear hf e1
      go_wp2_with fail
      refine h15.mono ?_
      rintro e w2 ⟨rfl, e2⟩
      have HE2 := Lib.hid (HE.out.trans e2)
      clear h15 e2
      go_wp2
      go_ret
      exact ⟨rfl, HE2.out⟩
    · have hz1 : ¬ (20 : Int) < (n1 : Int) := by omega
      by_cases hg2 : 20 < n2
      · have hz2 : (20 : Int) < (n2 : Int) := by omega
        clear h h0 hh1 hh2 hn1 hn2 hg1 hg2
        go_enter Tryz.func8, Tryz.ntmps8
        go_wp2_with fail
        refine hf.mono ?_
        rintro e w1 ⟨rfl, e1⟩
        have HE := Lib.hid e1
        have h15 := works_any w1
        clear hf e1
        go_wp2_with fail
        refine h15.mono ?_
        rintro e w2 ⟨rfl, e2⟩
        have HE2 := Lib.hid (HE.out.trans e2)
        clear h15 e2
        go_wp2
        go_ret
        exact ⟨rfl, HE2.out⟩
      · have hz2 : ¬ (20 : Int) < (n2 : Int) := by omega
        have hwi := whole_if h0
        have hnd := fun hw => none_does h0 hw bs
        have hbd : wholeErr os = 0 → checkBathsErr os (bestB os) = 0 := best_does
        have hai : wholeErr os = 0 → checkApartErr os (apartB os) = 0 := apart_is
        have hal : wholeErr os = 0 → (apartB os).length = (bestB os).length := apart_len
        have han : wholeErr os ≠ 0 → apartB os = [] ∧ bestB os = [] := fun h => by unfold apartB bestB; rw [if_neg h, if_neg h]; exact ⟨rfl, rfl⟩
        have hbl : wholeErr os = 0 → checkBathsErr os bs = 0 → (bestB os).length ≤ bs.length ∧ (bs.length = (bestB os).length → ∀ i (h1 : i < bs.length) (h2 : i < (bestB os).length), bs[i] ≤ (bestB os)[i]) := fun hw hc => best_least hw hc
        have hax : wholeErr os = 0 → checkApartErr os xs = 0 → xs.length ≤ (bestB os).length := fun hw hc => apart_least hw hc
        have hbf : (bestB os).length ≤ 14 := best_few
        have HH := Lib.hid (And.intro h (And.intro hh1 hh2))
        have HN := Lib.hid (And.intro hn1 (And.intro hn2 (show n2 ≤ 1000000 by omega)))
        obtain ⟨C, hC⟩ : ∃ C, checkBathsErr os bs = C := ⟨_, rfl⟩
        obtain ⟨D, hD⟩ : ∃ D, checkApartErr os xs = D := ⟨_, rfl⟩
        obtain ⟨E, hE⟩ : ∃ E, wholeErr os = E := ⟨_, rfl⟩
        obtain ⟨bb, hbb⟩ : ∃ bb, bestB os = bb := ⟨_, rfl⟩
        obtain ⟨ap, hap⟩ : ∃ ap, apartB os = ap := ⟨_, rfl⟩
        rw [hE] at hwi hnd hbd hai hal han hbl hax
        rw [hC] at hnd hbl
        rw [hD] at hax
        rw [hbb] at hbd hal han hbl hax hbf
        rw [hap] at hai hal han
        have HV := Lib.hid (And.intro hC (And.intro hD (And.intro hE (And.intro hbb hap))))
        have HP := Lib.hid (And.intro hwi (And.intro hnd (And.intro hbd (And.intro hai (And.intro hal (And.intro han (And.intro hbl (And.intro hax hbf))))))))
        clear h h0 hh1 hh2 hn1 hn2 hg1 hg2 hwi hnd hbd hai hal han hbl hax hbf hC hD hE hbb hap
        go_enter Tryz.func8, Tryz.ntmps8
        go_wp2_with fail
        refine hf.mono ?_
        rintro e w1 ⟨rfl, e1⟩
        have HX := Lib.hid e1
        clear hf e1
        have h1 := best_any (HH.out.1.ext HX.out)
        rw [HV.out.2.2.1, HV.out.2.2.2.1] at h1
        go_wp2_with fail
        refine h1.mono ?_
        rintro e w2 ⟨e2, Ab, cb, rfl, hb, hcb, _⟩
        replace HX := Lib.hid (HX.out.trans e2)
        have HB := Lib.hid hb
        clear h1 e2 hb
        have h1 := apart_any (HH.out.1.ext HX.out)
        rw [HV.out.2.2.1, HV.out.2.2.2.2] at h1
        go_wp2_with fail
        refine h1.mono ?_
        rintro e w3 ⟨e3, Ay, cy, rfl, hy, hcy, _⟩
        replace HX := Lib.hid (HX.out.trans e3)
        replace HB := Lib.hid (HB.out.ext e3)
        have HY := Lib.hid hy
        clear h1 e3 hy
        have h1 := checkBaths_any (HH.out.1.ext HX.out) A1 n1 c1 bs HN.out.1 hm1 (HH.out.2.1.ext HX.out)
        rw [HV.out.1] at h1
        go_wp2_with fail
        refine h1.mono ?_
        rintro e w4 ⟨rfl, e4⟩
        replace HX := Lib.hid (HX.out.trans e4)
        replace HB := Lib.hid (HB.out.ext e4)
        replace HY := Lib.hid (HY.out.ext e4)
        clear h1 e4
        have h1 := checkApart_any (HH.out.1.ext HX.out) A2 n2 c2 xs HN.out.2.1 hm2 (HH.out.2.2.ext HX.out)
        rw [HV.out.2.1] at h1
        go_wp2_with fail
        refine h1.mono ?_
        rintro e w5 ⟨rfl, e5⟩
        replace HX := Lib.hid (HX.out.trans e5)
        replace HB := Lib.hid (HB.out.ext e5)
        replace HY := Lib.hid (HY.out.ext e5)
        clear h1 e5
        by_cases he : E = 0
        · subst he
          have hbd := HP.out.2.2.1 rfl
          have hai := HP.out.2.2.2.1 rfl
          have hal := HP.out.2.2.2.2.1 rfl
          have hbf := HP.out.2.2.2.2.2.2.2.2
          have HAL := Lib.hid (And.intro hal (And.intro hai (And.intro hbd hbf)))
          have HL := Lib.hid (And.intro (HP.out.2.2.2.2.2.2.1 rfl) (HP.out.2.2.2.2.2.2.2.1 rfl))
          rw [hal]
          clear hbd hai hal hbf HP
          have h1 := checkBaths_any (HH.out.1.ext HX.out) Ab bb.length cb bb rfl (by have := HAL.out.2.2.2; omega) HB.out
          rw [HAL.out.2.2.1] at h1
          go_wp2_with fail
          refine h1.mono ?_
          rintro e w6 ⟨rfl, e6⟩
          replace HX := Lib.hid (HX.out.trans e6)
          replace HB := Lib.hid (HB.out.ext e6)
          replace HY := Lib.hid (HY.out.ext e6)
          clear h1 e6
          have h1 := refCheckBaths_any (HH.out.1.ext HX.out) Ab bb.length cb bb rfl (by have := HAL.out.2.2.2; omega) HB.out
          rw [HAL.out.2.2.1] at h1
          go_wp2_with fail
          refine h1.mono ?_
          rintro e w7 ⟨rfl, e7⟩
          replace HX := Lib.hid (HX.out.trans e7)
          replace HB := Lib.hid (HB.out.ext e7)
          replace HY := Lib.hid (HY.out.ext e7)
          clear h1 e7
          have h1 := checkApart_any (HH.out.1.ext HX.out) Ay bb.length cy ap HAL.out.1.symm (by have := HAL.out.2.2.2; omega) HY.out
          rw [HAL.out.2.1] at h1
          go_wp2_with fail
          refine h1.mono ?_
          rintro e w8 ⟨rfl, e8⟩
          replace HX := Lib.hid (HX.out.trans e8)
          replace HB := Lib.hid (HB.out.ext e8)
          replace HY := Lib.hid (HY.out.ext e8)
          clear h1 e8
          have h1 := refApart_any (HH.out.1.ext HX.out) Ay bb.length cy ap HAL.out.1.symm (by have := HAL.out.2.2.2; omega) HY.out
          rw [HAL.out.2.1] at h1
          go_wp2_with fail
          refine h1.mono ?_
          rintro e w9 ⟨rfl, e9⟩
          replace HX := Lib.hid (HX.out.trans e9)
          replace HB := Lib.hid (HB.out.ext e9)
          clear h1 e9 HY
          by_cases hD : D = 0
          · subst hD
            have hax := HL.out.2 rfl
            have hz3 : ¬ (bb.length : Int) < (n2 : Int) := by have := HN.out.2.1; omega
            clear hax
            by_cases hC : C = 0
            · subst hC
              have hbl := HL.out.1 rfl
              have hz4 : ¬ (n1 : Int) < (n2 : Int) := by have := hbl.1; have := HN.out.1; have := HN.out.2.1; omega
              have hz5 : ¬ (n1 : Int) < (bb.length : Int) := by have := hbl.1; have := HN.out.1; omega
              have HBL := Lib.hid hbl.2
              clear hbl HL
              go_wp2
              go_loopw [13] (fun i wr => ∃ k : Nat, k ≤ bb.length ∧ i = .int .i64 k ∧ Hid (Ext w9 wr)) (fun i _ => bb.length - (intOf i).toNat)
              case atStart => exact ⟨0, Nat.zero_le _, rfl, Lib.hid (Ext.refl _)⟩
              case round =>
                obtain ⟨k, hk, rfl, hEx⟩ := hrel
                by_cases hlt : k < bb.length
                · have hltz : (k : Int) < (bb.length : Int) := by omega
                  by_cases heq : n1 = bb.length
                  · have heqz : (n1 : Int) = (bb.length : Int) := by omega
                    have heqb : ((n1 : Int) == (bb.length : Int)) = true := by simp [heq]
                    have hkx : k < bs.length := by rw [← HN.out.1, heq]; exact hlt
                    have hltp : (k : Int) < (n1 : Int) := by omega
                    have hle := HBL.out (by rw [← HN.out.1]; exact heq) k hkx hlt
                    have hEw : Ext w wr := HX.out.trans hEx.out
                    obtain ⟨b, off, rfl, hcx⟩ := int_get (HH.out.2.1.ext hEw) hkx
                    obtain ⟨b2, of2, rfl, hcy⟩ := int_get (HB.out.ext hEx.out) hlt
                    have hb1 := cell_lt hcx
                    have hb2 := cell_lt hcy
                    obtain ⟨x, hx⟩ : ∃ x, bs[k] = x := ⟨_, rfl⟩
                    obtain ⟨y, hy⟩ : ∃ y, bb[k] = y := ⟨_, rfl⟩
                    rw [hx] at hcx hle
                    rw [hy] at hcy hle
                    have HCX : Hid (∀ W, Ext wr W → W.cell? ⟨b, off + k, none⟩ = some (.int .i64 x)) := Lib.hid fun W hW => (Below.cell hW (p := ⟨b, off + k, none⟩) hb1).trans hcx
                    have HCY : Hid (∀ W, Ext wr W → W.cell? ⟨b2, of2 + k, none⟩ = some (.int .i64 y)) := Lib.hid fun W hW => (Below.cell hW (p := ⟨b2, of2 + k, none⟩) hb2).trans hcy
                    clear hcx hcy hb1 hb2 hx hy hEw heq heqz
                    go_upto_region 19 with fail
                    refine pv19_wp (b := b) (off := off) (np := n1) (cp := c1) (b2 := b2) (of2 := of2) (nq := bb.length) (cq := cb) (kk := k) (x := x) (y := y) rfl rfl rfl rfl hltp HCX.out hltz HCY.out ?_
                    intro W1 e1
                    have HE1 := Lib.hid (hEx.out.trans e1)
                    have hs : pv19Reg.size = 9 := by kernel_rfl
                    have hdr : pv19Reg.toList.drop 9 = [] := List.drop_eq_nil_of_le (by simp [hs])
                    rw [hdr]
                    simp only [puts, List.foldl_cons, List.foldl_nil, Act.put, List.setIfInBounds_toArray, List.set_cons_succ, List.set_cons_zero]
                    rw [decide_eq_false (by omega : ¬ y < x)]
                    clear e1 hs hdr heqb
                    go_wp2
                    go_roundw
                    case measure => simp [intOf]; omega
                    case rel => exact ⟨k + 1, by omega, by go_num, HE1⟩
                  · have heqb : ((n1 : Int) == (bb.length : Int)) = false := by simp; omega
                    replace HX := Lib.hid (HX.out.trans hEx.out)
                    have h15 := works_any wr
                    go_wp2_with fail
                    refine h15.mono ?_
                    rintro e w10 ⟨rfl, e10⟩
                    have HE := Lib.hid (HX.out.trans e10)
                    clear h15 e10
                    go_wp2
                    go_ret
                    exact ⟨rfl, HE.out⟩
                · have hltz : ¬ (k : Int) < (bb.length : Int) := by omega
                  replace HX := Lib.hid (HX.out.trans hEx.out)
                  have h15 := works_any wr
                  go_wp2_with fail
                  refine h15.mono ?_
                  rintro e w10 ⟨rfl, e10⟩
                  have HE := Lib.hid (HX.out.trans e10)
                  clear h15 e10
                  go_wp2
                  go_ret
                  exact ⟨rfl, HE.out⟩
            · have hcb : (C != 0) = true := by simp [hC]
              clear HL
              have h15 := works_any w9
              go_wp2_with fail
              refine h15.mono ?_
              rintro e w10 ⟨rfl, e10⟩
              have HE := Lib.hid (HX.out.trans e10)
              clear h15 e10
              go_wp2
              go_ret
              exact ⟨rfl, HE.out⟩
          · have hdb : (D == 0) = false := by simp [hD]
            by_cases hC : C = 0
            · subst hC
              have hbl := HL.out.1 rfl
              have hz5 : ¬ (n1 : Int) < (bb.length : Int) := by have := hbl.1; have := HN.out.1; omega
              have HBL := Lib.hid hbl.2
              clear hbl HL
              go_wp2
              go_loopw [13] (fun i wr => ∃ k : Nat, k ≤ bb.length ∧ i = .int .i64 k ∧ Hid (Ext w9 wr)) (fun i _ => bb.length - (intOf i).toNat)
              case atStart => exact ⟨0, Nat.zero_le _, rfl, Lib.hid (Ext.refl _)⟩
              case round =>
                obtain ⟨k, hk, rfl, hEx⟩ := hrel
                by_cases hlt : k < bb.length
                · have hltz : (k : Int) < (bb.length : Int) := by omega
                  by_cases heq : n1 = bb.length
                  · have heqz : (n1 : Int) = (bb.length : Int) := by omega
                    have heqb : ((n1 : Int) == (bb.length : Int)) = true := by simp [heq]
                    have hkx : k < bs.length := by rw [← HN.out.1, heq]; exact hlt
                    have hltp : (k : Int) < (n1 : Int) := by omega
                    have hle := HBL.out (by rw [← HN.out.1]; exact heq) k hkx hlt
                    have hEw : Ext w wr := HX.out.trans hEx.out
                    obtain ⟨b, off, rfl, hcx⟩ := int_get (HH.out.2.1.ext hEw) hkx
                    obtain ⟨b2, of2, rfl, hcy⟩ := int_get (HB.out.ext hEx.out) hlt
                    have hb1 := cell_lt hcx
                    have hb2 := cell_lt hcy
                    obtain ⟨x, hx⟩ : ∃ x, bs[k] = x := ⟨_, rfl⟩
                    obtain ⟨y, hy⟩ : ∃ y, bb[k] = y := ⟨_, rfl⟩
                    rw [hx] at hcx hle
                    rw [hy] at hcy hle
                    have HCX : Hid (∀ W, Ext wr W → W.cell? ⟨b, off + k, none⟩ = some (.int .i64 x)) := Lib.hid fun W hW => (Below.cell hW (p := ⟨b, off + k, none⟩) hb1).trans hcx
                    have HCY : Hid (∀ W, Ext wr W → W.cell? ⟨b2, of2 + k, none⟩ = some (.int .i64 y)) := Lib.hid fun W hW => (Below.cell hW (p := ⟨b2, of2 + k, none⟩) hb2).trans hcy
                    clear hcx hcy hb1 hb2 hx hy hEw heq heqz
                    go_upto_region 19 with fail
                    refine pv19_wp (b := b) (off := off) (np := n1) (cp := c1) (b2 := b2) (of2 := of2) (nq := bb.length) (cq := cb) (kk := k) (x := x) (y := y) rfl rfl rfl rfl hltp HCX.out hltz HCY.out ?_
                    intro W1 e1
                    have HE1 := Lib.hid (hEx.out.trans e1)
                    have hs : pv19Reg.size = 9 := by kernel_rfl
                    have hdr : pv19Reg.toList.drop 9 = [] := List.drop_eq_nil_of_le (by simp [hs])
                    rw [hdr]
                    simp only [puts, List.foldl_cons, List.foldl_nil, Act.put, List.setIfInBounds_toArray, List.set_cons_succ, List.set_cons_zero]
                    rw [decide_eq_false (by omega : ¬ y < x)]
                    clear e1 hs hdr heqb
                    go_wp2
                    go_roundw
                    case measure => simp [intOf]; omega
                    case rel => exact ⟨k + 1, by omega, by go_num, HE1⟩
                  · have heqb : ((n1 : Int) == (bb.length : Int)) = false := by simp; omega
                    replace HX := Lib.hid (HX.out.trans hEx.out)
                    have h15 := works_any wr
                    go_wp2_with fail
                    refine h15.mono ?_
                    rintro e w10 ⟨rfl, e10⟩
                    have HE := Lib.hid (HX.out.trans e10)
                    clear h15 e10
                    go_wp2
                    go_ret
                    exact ⟨rfl, HE.out⟩
                · have hltz : ¬ (k : Int) < (bb.length : Int) := by omega
                  replace HX := Lib.hid (HX.out.trans hEx.out)
                  have h15 := works_any wr
                  go_wp2_with fail
                  refine h15.mono ?_
                  rintro e w10 ⟨rfl, e10⟩
                  have HE := Lib.hid (HX.out.trans e10)
                  clear h15 e10
                  go_wp2
                  go_ret
                  exact ⟨rfl, HE.out⟩
            · have hcb : (C != 0) = true := by simp [hC]
              clear HL
              have h15 := works_any w9
              go_wp2_with fail
              refine h15.mono ?_
              rintro e w10 ⟨rfl, e10⟩
              have HE := Lib.hid (HX.out.trans e10)
              clear h15 e10
              go_wp2
              go_ret
              exact ⟨rfl, HE.out⟩
        · have he22 : E = 22 := by rcases HP.out.1 with h | h; exact absurd h he; exact h
          subst he22
          have hcn := HP.out.2.1 (by decide)
          have hcb : (C != 0) = true := by simp [hcn]
          obtain ⟨hap, hbb⟩ := HP.out.2.2.2.2.2.1 (by decide)
          rw [hap, hbb]
          have h15 := works_any w5
          clear hap hbb hcn HP
          go_wp2_with fail
          refine h15.mono ?_
          rintro e w7 ⟨rfl, e7⟩
          have HE := Lib.hid (HX.out.trans e7)
          clear h15 e7
          go_wp2
          go_ret
          exact ⟨rfl, HE.out⟩
  · have hf := fine_not h (decide_eq_false h0)
    clear h h0 hh1 hh2 hn1 hn2
    go_enter Tryz.func8, Tryz.ntmps8
    go_wp2_with fail
    refine hf.mono ?_
    rintro e w1 ⟨rfl, e1⟩
    have HE := Lib.hid e1
    have h15 := works_any w1
    clear hf e1
    go_wp2_with fail
    refine h15.mono ?_
    rintro e w2 ⟨rfl, e2⟩
    have HE2 := Lib.hid (HE.out.trans e2)
    clear h15 e2
    go_wp2
    go_ret
    exact ⟨rfl, HE2.out⟩
end Go.Proofs.YtmlmnljbegcjcaaGreat
