/- Texts of one package, joined: Known1, WorksReg, WorksReg2, WorksAll, Cover, CoverSheet, CountPure, CountSheet. -/
import Derived.Test.YtlaakmgdbhabfaaC6
import Derived.Test.YtlaakmgdbhabfaaC11
import Derived.Test.YtlaakmgdbhabfaaC14
import Derived.Test.YtlaakmgdbhabfaaC24
/- What the functions say of the sheet of the examples. -/
namespace Go.Proofs.Ytlaakmgdbhabfaa
open Go.RowKit Go.Shelf
theorem kSheet : sheetErr SC SM = 0 := by decide
theorem kFits : fitsOf SC SM = [(0, 5), (0, 15), (1, 5), (1, 6), (1, 20), (1, 21), (1, 22)] := by kernel_rfl
theorem kNos : allNos SC SM = [11, 26, 5, 5, 20, 20, 20] := by unfold allNos; rw [kFits]; kernel_rfl
theorem kHas : hasOf SC SM (0, 5) = [0, 1, 3] ∧ hasErr SC SM (0, 5) = 0 := by
  have h : fitFor SC SM (0, 5) = some (0, 5) := by unfold fitFor; rw [kFits]; kernel_rfl
  constructor
  · unfold hasOf; rw [h]; kernel_rfl
  · unfold hasErr
    rw [if_pos kSheet, if_neg (by decide), h, if_neg (by simp)]
theorem kHas6 : hasErr SC SM (0, 6) = 19 := by
  have h : fitFor SC SM (0, 6) = none := by unfold fitFor; rw [kFits]; kernel_rfl
  unfold hasErr
  rw [if_pos kSheet, if_neg (by decide), h, if_pos rfl]
theorem kPlaces : placesOf 1 (fitsOf SC SM) = [5, 6, 20, 21, 22] ∧ placesErr SC SM 1 = 0 := by
  constructor
  · rw [kFits]; kernel_rfl
  · unfold placesErr
    rw [if_pos kSheet, if_neg (by decide)]
theorem kLost : lostOf SC SM = [] := by unfold lostOf; rw [kFits]; kernel_rfl
theorem kWhole : wholeErr SC SM = 0 := by unfold wholeErr; rw [if_pos kSheet, kLost]; rfl
theorem kSheetT : sheetErr [(10, 3)] SM = 0 := by decide
theorem kFitsT : fitsOf [(10, 3)] SM = [(0, 5), (0, 15)] := by kernel_rfl
theorem kLostT : lostOf [(10, 3)] SM = [2] := by unfold lostOf; rw [kFitsT]; kernel_rfl
theorem kWholeT : wholeErr [(10, 3)] SM = 19 := by unfold wholeErr; rw [if_pos kSheetT, kLostT]; rfl
theorem kLeft : leftOf SC SM (allNos SC SM) (fitsOf SC SM) = fitsOf SC SM := by
  rw [kNos, kFits]; kernel_rfl


theorem kTab : tabOf SC SM (allNos SC SM) 31 = some [(1, 20), (0, 5)] := by unfold tabOf; rw [kLeft, kFits]; kernel_rfl
theorem kLen : bestLen SC SM = 2 := by unfold bestLen; rw [show 2 ^ SM.length - 1 = 31 from rfl, kTab]; rfl
theorem kBest : bestRows SC SM = [(0, 5), (1, 20)] := by
  unfold bestRows
  rw [show 2 ^ SM.length - 1 = 31 from rfl, kTab]
  unfold sortRw
  simp only [Option.getD_some]
  have h1 : (decide (cmpRw (0, 5) (1, 20) < 0)) = true := by kernel_rfl
  simp [List.mergeSort, List.MergeSort.Internal.splitInTwo, h1]
theorem kRows : rowsErr SC SM [(0, 5), (0, 15)] = 16 := by
  unfold rowsErr
  have hf : fittingOf SC SM [(0, 5), (0, 15)] = [(0, 5), (0, 15)] := by unfold fittingOf fitFor; rw [kFits]; kernel_rfl
  rw [if_pos kSheet, if_pos (by decide), if_pos (by decide), hf, if_pos (by decide), if_pos (by decide), if_neg]
  have : numsTo (noneHas SC SM [(0, 5), (0, 15)]) SM.length = [2] := by kernel_rfl
  rw [this]
  decide
theorem kRowsB : rowsErr SC SM [(0, 5), (1, 20)] = 0 := by
  unfold rowsErr
  have hf : fittingOf SC SM [(0, 5), (1, 20)] = [(0, 5), (1, 20)] := by unfold fittingOf fitFor; rw [kFits]; kernel_rfl
  rw [if_pos kSheet, if_pos (by decide), if_pos (by decide), hf, if_pos (by decide), if_pos (by decide), if_pos]
  have : numsTo (noneHas SC SM [(0, 5), (1, 20)]) SM.length = [] := by kernel_rfl
  rw [this]
  rfl
theorem apartB_fits {cs ms : List (Int × Int)} {l : List Rw} (h : fitsOf cs ms = l) (js : List Nat) : apartB cs ms js = l.all fun x => !crowded (hadB cs ms x.1 x.2) js := by unfold apartB; rw [h]
theorem kApart : apartTo SC SM SM.length = [0, 4] := by kernel_rfl
theorem kCheckApart : apartErr SC SM [0, 2] = 14 := by
  unfold apartErr
  rw [if_pos kSheet, if_pos (by decide), if_neg]
  rw [apartB_fits kFits]
  decide
theorem kKind : kindAns SC SM (0, 5) = (1, 0) := by
  have h : fitFor SC SM (0, 5) = some (0, 5) := by unfold fitFor; rw [kFits]; kernel_rfl
  unfold kindAns
  rw [if_pos kSheet, if_neg (by decide), kLost, h]
  show (kindOf SC SM (allNos SC SM) (0, 5), (0 : Int)) = (1, 0)
  unfold kindOf tabOf
  rw [kNos, kFits]
  kernel_rfl
theorem kMeet : meetAns 10 15 5 0 = ((15, 30), 0) := by decide
theorem kMeet2 : meetAns 10 15 0 7 = ((0, 0), 5) := by decide
theorem kSpaces : spacesTo [(5, 6), (15, 15), (25, 26)] 50 = [(10, 5, 5)] ∧ spacesErr [(5, 6), (15, 15), (25, 26)] = 0 := ⟨by kernel_rfl, by decide⟩
/-- Whatever the order of the sets of marks, there are five best lists of rows. -/
theorem kWays (P : List (Nat × Nat)) (h : Keys (allNos SC SM) P) : wayNum SC SM P = 5 := by
  rw [kNos] at h
  obtain ⟨h1, h2, h3⟩ := h
  have hm : ∀ p, p ∈ P → p ∈ [(11, 1), (26, 1), (5, 2), (20, 3)] := fun p hp => by
    have hk := (h2 p.1).1 (List.mem_map_of_mem hp)
    have hc := h3 p hp
    obtain ⟨a, b⟩ := p
    simp only [List.mem_cons, List.not_mem_nil, or_false] at hk
    dsimp only at hc
    rcases hk with rfl | rfl | rfl | rfl | rfl | rfl | rfl <;> (rw [hc]; decide)
  have hp : (P.map (·.1)).Perm [11, 26, 5, 20] := (List.perm_ext_iff_of_nodup h1 (by decide)).2 fun y => by
    rw [h2]
    simp
  have hl : P.length = 4 := by have := hp.length_eq; simpa using this
  unfold wayNum
  rw [kLen, show 2 ^ SM.length = 32 from rfl]
  match P, hl, h1, hm with
  | [a, b, c, d], _, h1, hm =>
    have hall : ∀ a ∈ [(11, 1), (26, 1), (5, 2), (20, 3)], ∀ b ∈ [(11, 1), (26, 1), (5, 2), (20, 3)], ∀ c ∈ [(11, 1), (26, 1), (5, 2), (20, 3)], ∀ d ∈ [(11, 1), (26, 1), (5, 2), (20, 3)],
        ([a, b, c, d].map (·.1)).Nodup → waysFold 32 [a, b, c, d] 2 (32 - 1) = 5 := by decide +kernel
    exact hall a (hm a (by simp)) b (hm b (by simp)) c (hm c (by simp)) d (hm d (by simp)) h1
end Go.Proofs.Ytlaakmgdbhabfaa

/- Works: the regions of its calls. -/
namespace Go.Proofs.Ytlaakmgdbhabfaa
open Go.RowKit Go.Shelf
attribute [local irreducible] bitCells fitCells Z94 fitOf

abbrev shV (gg hq : Nat) : Value := .agg #[.slice (some ⟨gg, 0, none⟩) 2 2, .slice (some ⟨hq, 0, none⟩) 5 5]

/-- The slots of region 3 of function 16. -/
def wk3D (i : Nat) : Tmp := if i = 0 then 38 else if i = 1 then 39 else if i = 2 then 40 else if i = 3 then 37 else if i = 4 then 41 else if i = 5 then 42 else if i = 6 then 3 else 4
/-- What each operation yields. -/
def wk3S (_p gg hq : Nat) (ix : Nat) (v : Value) (W : World) : Prop :=
  match ix with
  | 0 => v = shV gg hq
  | 1 => v = .agg #[.int .i64 0, .int .i64 5]
  | 2 => ∃ lv, v = .tuple #[lv, .int .i64 0] ∧ MadeInts 0 [0, 1, 3] W lv
  | 3 => ∃ lv, v = .tuple #[lv, .int .i64 0] ∧ MadeInts 0 [0, 1, 3] W lv
  | 4 => MadeInts 0 [0, 1, 3] W v
  | 5 => v = .int .i64 0
  | 6 => MadeInts 0 [0, 1, 3] W v
  | 7 => v = .int .i64 0
  | _ => True
noncomputable def wk3Reg : Array Oper := (Try.f16.body.bind (regionOf · 3)).getD #[]
theorem wk3S_ext {p gg hq : Nat} : ∀ (i : Nat) (v : Value) (W W' : World), wk3S p gg hq i v W → Below W.heap.size W W' → wk3S p gg hq i v W' := by
  intro i v W W' h e
  match i with
  | 0 => exact h
  | 1 => exact h
  | 2 => (obtain ⟨lv, h1, h2⟩ := h; exact ⟨lv, h1, h2.ext e⟩)
  | 3 => (obtain ⟨lv, h1, h2⟩ := h; exact ⟨lv, h1, h2.ext e⟩)
  | 4 => exact MadeInts.ext h e
  | 5 => exact h
  | 6 => exact MadeInts.ext h e
  | 7 => exact h
  | k + 8 => exact trivial
def wk3Ok (p gg hq : Nat) (Q : Exit → Act → World → Prop) (a : Act) (W : World) (ix : Nat) (o : Oper) : Prop :=
  (∀ j b, o.guard = some (j, b) → a.eval (.tmp (wk3D j)) = .bool b) ∧ o.wp Try.prog a W (fun a'' W' => ∃ v, a'' = a.put o.dst v ∧ wk3S p gg hq ix v W' ∧ Below W.heap.size W W') Q
section
variable {p gg hq : Nat} {Q : Exit → Act → World → Prop} {a : Act} {V W : World} {o : Oper}
set_option maxHeartbeats 1000000 in
theorem wk3_op0 (o1 : a.eval (.tmp 1) = .pointer (some ⟨p, 0, none⟩)) (q0 : ∀ W, Ext V W → W.cell? ⟨p, 0, none⟩ = some (.slice (some ⟨gg, 0, none⟩) 2 2)) (q1 : ∀ W, Ext V W → W.cell? ⟨p, 1, none⟩ = some (.slice (some ⟨hq, 0, none⟩) 5 5)) (hB : Ext V W) (ho : wk3Reg[0]? = some o) : wk3Ok p gg hq Q a W 0 o := by
  have hop := op_at ho (·.op) (x := Op.load 25 (Operand.tmp 1)) (by kernel_rfl)
  have hgd := op_at ho (·.guard) (x := none) (by kernel_rfl)
  refine ⟨fun j b h => (by rw [hgd] at h; cases h), ?_⟩
  have q0' := q0 W hB
  have q1' := q1 W hB
  exact specs_value (R := fun v W => wk3S p gg hq 0 v W) (v := shV gg hq) (by simp [execOp, hop, go_sem, ev o1, q0', q1', shV]) rfl (Ext.refl W)
set_option maxHeartbeats 1000000 in
theorem wk3_op1 (hB : Ext V W) (ho : wk3Reg[1]? = some o) : wk3Ok p gg hq Q a W 1 o := by
  have hop := op_at ho (·.op) (x := Op.call { callee := Callee.value (Operand.func 43), args := #[Operand.const (Value.int IntKind.i64 0), Operand.const (Value.int IntKind.i64 5)], argTypes := #[3, 2] }) (by kernel_rfl)
  have hgd := op_at ho (·.guard) (x := none) (by kernel_rfl)
  refine ⟨fun j b h => (by rw [hgd] at h; cases h), ?_⟩
  have hB' := hB
  refine specs_call (R := fun v W => wk3S p gg hq 1 v W) (f := 43) (args := #[.int .i64 0, .int .i64 5]) (by simp [execOp, hop, go_sem]) ((row_any 0 5 W).mono ?_)
  rintro e w' ⟨rfl, h3⟩
  exact ⟨_, rfl, rfl, h3⟩
set_option maxHeartbeats 1000000 in
theorem wk3_op2 (hcall : ∀ W, Ext V W → Calls Try.prog 17 #[shV gg hq, .agg #[.int .i64 0, .int .i64 5]] W fun e w' => ∃ v, e = .returned v ∧ (∃ lv, v = .tuple #[lv, .int .i64 0] ∧ MadeInts 0 [0, 1, 3] w' lv) ∧ Ext W w') (hB : Ext V W) (haft : ∀ j, (o.after.any fun e => decide (e.on = j) && Region.binds .any e) = true → wk3S p gg hq j (a.eval (.tmp (wk3D j))) W) (ho : wk3Reg[2]? = some o) : wk3Ok p gg hq Q a W 2 o := by
  have hop := op_at ho (·.op) (x := Op.call { callee := Callee.value (Operand.func 17), args := #[Operand.tmp 38, Operand.tmp 39], argTypes := #[25, 27] }) (by kernel_rfl)
  have hgd := op_at ho (·.guard) (x := none) (by kernel_rfl)
  have e0 : a.eval (.tmp 38) = shV gg hq := haft 0 (op_at ho (fun o => o.after.any fun e => decide (e.on = 0) && Region.binds .any e) (x := true) (by kernel_rfl))
  have e1 : wk3S p gg hq 1 (a.eval (.tmp 39)) W := haft 1 (op_at ho (fun o => o.after.any fun e => decide (e.on = 1) && Region.binds .any e) (x := true) (by kernel_rfl))
  refine ⟨fun j b h => (by rw [hgd] at h; cases h), ?_⟩
  have eR : a.eval (.tmp 39) = .agg #[.int .i64 0, .int .i64 5] := e1
  refine specs_call (R := fun v W => wk3S p gg hq 2 v W) (f := 17) (args := #[shV gg hq, .agg #[.int .i64 0, .int .i64 5]]) (by simp [execOp, hop, go_sem, ev e0, ev eR]) ((hcall W hB).mono ?_)
  rintro e w' ⟨v, h1, h2, h3⟩
  exact ⟨v, h1, h2, h3⟩
set_option maxHeartbeats 1000000 in
theorem wk3_op3 (haft : ∀ j, (o.after.any fun e => decide (e.on = j) && Region.binds .any e) = true → wk3S p gg hq j (a.eval (.tmp (wk3D j))) W) (ho : wk3Reg[3]? = some o) : wk3Ok p gg hq Q a W 3 o := by
  have hop := op_at ho (·.op) (x := Op.move (Operand.tmp 40)) (by kernel_rfl)
  have hgd := op_at ho (·.guard) (x := none) (by kernel_rfl)
  have e2 : wk3S p gg hq 2 (a.eval (.tmp 40)) W := haft 2 (op_at ho (fun o => o.after.any fun e => decide (e.on = 2) && Region.binds .any e) (x := true) (by kernel_rfl))
  refine ⟨fun j b h => (by rw [hgd] at h; cases h), ?_⟩
  exact specs_value (R := fun v W => wk3S p gg hq 3 v W) (v := a.eval (.tmp 40)) (by simp [execOp, hop, go_sem]) e2 (Ext.refl W)
set_option maxHeartbeats 1000000 in
theorem wk3_op4 (haft : ∀ j, (o.after.any fun e => decide (e.on = j) && Region.binds .any e) = true → wk3S p gg hq j (a.eval (.tmp (wk3D j))) W) (ho : wk3Reg[4]? = some o) : wk3Ok p gg hq Q a W 4 o := by
  have hop := op_at ho (·.op) (x := Op.extract (Operand.tmp 37) 0) (by kernel_rfl)
  have hgd := op_at ho (·.guard) (x := none) (by kernel_rfl)
  have e3 : wk3S p gg hq 3 (a.eval (.tmp 37)) W := haft 3 (op_at ho (fun o => o.after.any fun e => decide (e.on = 3) && Region.binds .any e) (x := true) (by kernel_rfl))
  refine ⟨fun j b h => (by rw [hgd] at h; cases h), ?_⟩
  obtain ⟨lv, hv, hM⟩ := e3
  exact specs_value (R := fun v W => wk3S p gg hq 4 v W) (v := lv) (by simp [execOp, hop, go_sem, ev hv]) hM (Ext.refl W)
set_option maxHeartbeats 1000000 in
theorem wk3_op5 (haft : ∀ j, (o.after.any fun e => decide (e.on = j) && Region.binds .any e) = true → wk3S p gg hq j (a.eval (.tmp (wk3D j))) W) (ho : wk3Reg[5]? = some o) : wk3Ok p gg hq Q a W 5 o := by
  have hop := op_at ho (·.op) (x := Op.extract (Operand.tmp 37) 1) (by kernel_rfl)
  have hgd := op_at ho (·.guard) (x := none) (by kernel_rfl)
  have e3 : wk3S p gg hq 3 (a.eval (.tmp 37)) W := haft 3 (op_at ho (fun o => o.after.any fun e => decide (e.on = 3) && Region.binds .any e) (x := true) (by kernel_rfl))
  refine ⟨fun j b h => (by rw [hgd] at h; cases h), ?_⟩
  obtain ⟨lv, hv, hM⟩ := e3
  exact specs_value (R := fun v W => wk3S p gg hq 5 v W) (v := .int .i64 0) (by simp [execOp, hop, go_sem, ev hv]) rfl (Ext.refl W)
set_option maxHeartbeats 1000000 in
theorem wk3_op6 (haft : ∀ j, (o.after.any fun e => decide (e.on = j) && Region.binds .any e) = true → wk3S p gg hq j (a.eval (.tmp (wk3D j))) W) (ho : wk3Reg[6]? = some o) : wk3Ok p gg hq Q a W 6 o := by
  have hop := op_at ho (·.op) (x := Op.assign (Operand.tmp 41)) (by kernel_rfl)
  have hgd := op_at ho (·.guard) (x := none) (by kernel_rfl)
  have e4 : wk3S p gg hq 4 (a.eval (.tmp 41)) W := haft 4 (op_at ho (fun o => o.after.any fun e => decide (e.on = 4) && Region.binds .any e) (x := true) (by kernel_rfl))
  refine ⟨fun j b h => (by rw [hgd] at h; cases h), ?_⟩
  exact specs_value (R := fun v W => wk3S p gg hq 6 v W) (v := a.eval (.tmp 41)) (by simp [execOp, hop, go_sem]) e4 (Ext.refl W)
set_option maxHeartbeats 1000000 in
theorem wk3_op7 (haft : ∀ j, (o.after.any fun e => decide (e.on = j) && Region.binds .any e) = true → wk3S p gg hq j (a.eval (.tmp (wk3D j))) W) (ho : wk3Reg[7]? = some o) : wk3Ok p gg hq Q a W 7 o := by
  have hop := op_at ho (·.op) (x := Op.assign (Operand.tmp 42)) (by kernel_rfl)
  have hgd := op_at ho (·.guard) (x := none) (by kernel_rfl)
  have e5 : a.eval (.tmp 42) = .int .i64 0 := haft 5 (op_at ho (fun o => o.after.any fun e => decide (e.on = 5) && Region.binds .any e) (x := true) (by kernel_rfl))
  refine ⟨fun j b h => (by rw [hgd] at h; cases h), ?_⟩
  exact specs_value (R := fun v W => wk3S p gg hq 7 v W) (v := .int .i64 0) (by simp [execOp, hop, go_sem, ev e5]) rfl (Ext.refl W)
set_option maxRecDepth 100000 in
set_option maxHeartbeats 4000000 in
/-- Region 3 of function 16. -/
theorem wk3_wp {id : Nat} (hlen : a.tmps.size = 223) (o1 : a.eval (.tmp 1) = .pointer (some ⟨p, 0, none⟩)) (q0 : ∀ W, Ext V W → W.cell? ⟨p, 0, none⟩ = some (.slice (some ⟨gg, 0, none⟩) 2 2)) (q1 : ∀ W, Ext V W → W.cell? ⟨p, 1, none⟩ = some (.slice (some ⟨hq, 0, none⟩) 5 5)) (hcall : ∀ W, Ext V W → Calls Try.prog 17 #[shV gg hq, .agg #[.int .i64 0, .int .i64 5]] W fun e w' => ∃ v, e = .returned v ∧ (∃ lv, v = .tuple #[lv, .int .i64 0] ∧ MadeInts 0 [0, 1, 3] w' lv) ∧ Ext W w') (K : (∀ W v1 v2 v3 v4 v6, Ext V W → wk3S p gg hq 1 v1 W → wk3S p gg hq 2 v2 W → wk3S p gg hq 3 v3 W → wk3S p gg hq 4 v4 W → wk3S p gg hq 6 v6 W → wpList Try.prog wk3Reg Q (wk3Reg.toList.drop 8) (puts a [(38, shV gg hq), (39, v1), (40, v2), (37, v3), (41, v4), (42, .int .i64 0), (3, v6), (4, .int .i64 0)]) W)) : (Code.region id wk3Reg true).wp Try.prog Q a V := by
  refine wp_region_specs_free (ops := wk3Reg) 8 (wk3S p gg hq) (Ext V) (by kernel_rfl) (by rw [hlen]; kernel_rfl) (by kernel_rfl) ⟨rfl, rfl, rfl, Nat.le_refl _, fun _ _ => rfl⟩ (fun _ _ h e => h.trans e) wk3S_ext wk3D (by kernel_rfl) ?_ ?_
  · intro i o hi ho a' W hB hsz hold haft
    match i, hi with
    | 0, _ => exact wk3_op0 ((hold 1 (by kernel_rfl)).trans o1) q0 q1 hB ho
    | 1, _ => exact wk3_op1 hB ho
    | 2, _ => exact wk3_op2 hcall hB haft ho
    | 3, _ => exact wk3_op3 haft ho
    | 4, _ => exact wk3_op4 haft ho
    | 5, _ => exact wk3_op5 haft ho
    | 6, _ => exact wk3_op6 haft ho
    | 7, _ => exact wk3_op7 haft ho
    | m + 8, h => exact absurd h (by omega)
  · intro a1 W hB hsz hdf hold hS
    obtain ⟨v1, g1⟩ : ∃ v, v = a1.eval (.tmp 39) := ⟨_, rfl⟩
    obtain ⟨v2, g2⟩ : ∃ v, v = a1.eval (.tmp 40) := ⟨_, rfl⟩
    obtain ⟨v3, g3⟩ : ∃ v, v = a1.eval (.tmp 37) := ⟨_, rfl⟩
    obtain ⟨v4, g4⟩ : ∃ v, v = a1.eval (.tmp 41) := ⟨_, rfl⟩
    obtain ⟨v6, g6⟩ : ∃ v, v = a1.eval (.tmp 3) := ⟨_, rfl⟩
    have hall : ∀ z, z ∈ ([(38, shV gg hq), (39, v1), (40, v2), (37, v3), (41, v4), (42, .int .i64 0), (3, v6), (4, .int .i64 0)] : List (Tmp × Value)) → z.1 < a.tmps.size ∧ a1.eval (.tmp z.1) = z.2 := by
      intro z hz
      rw [hlen]
      simp only [List.mem_cons, List.not_mem_nil, or_false] at hz
      rcases hz with rfl | rfl | rfl | rfl | rfl | rfl | rfl | rfl
      · exact ⟨(show (38 : Nat) < 223 by omega), hS 0 (by omega)⟩
      · exact ⟨(show (39 : Nat) < 223 by omega), g1.symm⟩
      · exact ⟨(show (40 : Nat) < 223 by omega), g2.symm⟩
      · exact ⟨(show (37 : Nat) < 223 by omega), g3.symm⟩
      · exact ⟨(show (41 : Nat) < 223 by omega), g4.symm⟩
      · exact ⟨(show (42 : Nat) < 223 by omega), hS 5 (by omega)⟩
      · exact ⟨(show (3 : Nat) < 223 by omega), g6.symm⟩
      · exact ⟨(show (4 : Nat) < 223 by omega), hS 7 (by omega)⟩
    have ha := act_puts hsz hdf hall (fun t ht => hold t (all_ne_of (l := [(38, shV gg hq), (39, v1), (40, v2), (37, v3), (41, v4), (42, .int .i64 0), (3, v6), (4, .int .i64 0)]) (by kernel_rfl) ht))
    rw [ha]
    exact K W v1 v2 v3 v4 v6 hB (by rw [g1]; exact hS 1 (by omega)) (by rw [g2]; exact hS 2 (by omega)) (by rw [g3]; exact hS 3 (by omega)) (by rw [g4]; exact hS 4 (by omega)) (by rw [g6]; exact hS 6 (by omega))
end

/-- The slots of region 4 of function 16. -/
def wk4D (i : Nat) : Tmp := if i = 0 then 44 else if i = 1 then 45 else if i = 2 then 46 else if i = 3 then 43 else if i = 4 then 47 else if i = 5 then 48 else if i = 6 then 5 else 6
/-- What each operation yields. -/
def wk4S (_p gg hq : Nat) (ix : Nat) (v : Value) (_W : World) : Prop :=
  match ix with
  | 0 => v = shV gg hq
  | 1 => v = .agg #[.int .i64 0, .int .i64 6]
  | 2 => v = .tuple #[.slice none 0 0, .int .i64 19]
  | 3 => v = .tuple #[.slice none 0 0, .int .i64 19]
  | 4 => v = .slice none 0 0
  | 5 => v = .int .i64 19
  | 6 => v = .slice none 0 0
  | 7 => v = .int .i64 19
  | _ => True
noncomputable def wk4Reg : Array Oper := (Try.f16.body.bind (regionOf · 4)).getD #[]
theorem wk4S_ext {p gg hq : Nat} : ∀ (i : Nat) (v : Value) (W W' : World), wk4S p gg hq i v W → Below W.heap.size W W' → wk4S p gg hq i v W' := by
  intro i v W W' h e
  match i with
  | 0 => exact h
  | 1 => exact h
  | 2 => exact h
  | 3 => exact h
  | 4 => exact h
  | 5 => exact h
  | 6 => exact h
  | 7 => exact h
  | k + 8 => exact trivial
def wk4Ok (p gg hq : Nat) (Q : Exit → Act → World → Prop) (a : Act) (W : World) (ix : Nat) (o : Oper) : Prop :=
  (∀ j b, o.guard = some (j, b) → a.eval (.tmp (wk4D j)) = .bool b) ∧ o.wp Try.prog a W (fun a'' W' => ∃ v, a'' = a.put o.dst v ∧ wk4S p gg hq ix v W' ∧ Below W.heap.size W W') Q
section
variable {p gg hq : Nat} {Q : Exit → Act → World → Prop} {a : Act} {V W : World} {o : Oper}
set_option maxHeartbeats 1000000 in
theorem wk4_op0 (o1 : a.eval (.tmp 1) = .pointer (some ⟨p, 0, none⟩)) (q0 : ∀ W, Ext V W → W.cell? ⟨p, 0, none⟩ = some (.slice (some ⟨gg, 0, none⟩) 2 2)) (q1 : ∀ W, Ext V W → W.cell? ⟨p, 1, none⟩ = some (.slice (some ⟨hq, 0, none⟩) 5 5)) (hB : Ext V W) (ho : wk4Reg[0]? = some o) : wk4Ok p gg hq Q a W 0 o := by
  have hop := op_at ho (·.op) (x := Op.load 25 (Operand.tmp 1)) (by kernel_rfl)
  have hgd := op_at ho (·.guard) (x := none) (by kernel_rfl)
  refine ⟨fun j b h => (by rw [hgd] at h; cases h), ?_⟩
  have q0' := q0 W hB
  have q1' := q1 W hB
  exact specs_value (R := fun v W => wk4S p gg hq 0 v W) (v := shV gg hq) (by simp [execOp, hop, go_sem, ev o1, q0', q1', shV]) rfl (Ext.refl W)
set_option maxHeartbeats 1000000 in
theorem wk4_op1 (hB : Ext V W) (ho : wk4Reg[1]? = some o) : wk4Ok p gg hq Q a W 1 o := by
  have hop := op_at ho (·.op) (x := Op.call { callee := Callee.value (Operand.func 43), args := #[Operand.const (Value.int IntKind.i64 0), Operand.const (Value.int IntKind.i64 6)], argTypes := #[3, 2] }) (by kernel_rfl)
  have hgd := op_at ho (·.guard) (x := none) (by kernel_rfl)
  refine ⟨fun j b h => (by rw [hgd] at h; cases h), ?_⟩
  have hB' := hB
  refine specs_call (R := fun v W => wk4S p gg hq 1 v W) (f := 43) (args := #[.int .i64 0, .int .i64 6]) (by simp [execOp, hop, go_sem]) ((row_any 0 6 W).mono ?_)
  rintro e w' ⟨rfl, h3⟩
  exact ⟨_, rfl, rfl, h3⟩
set_option maxHeartbeats 1000000 in
theorem wk4_op2 (hcall : ∀ W, Ext V W → Calls Try.prog 17 #[shV gg hq, .agg #[.int .i64 0, .int .i64 6]] W fun e w' => ∃ v, e = .returned v ∧ (v = .tuple #[.slice none 0 0, .int .i64 19]) ∧ Ext W w') (hB : Ext V W) (haft : ∀ j, (o.after.any fun e => decide (e.on = j) && Region.binds .any e) = true → wk4S p gg hq j (a.eval (.tmp (wk4D j))) W) (ho : wk4Reg[2]? = some o) : wk4Ok p gg hq Q a W 2 o := by
  have hop := op_at ho (·.op) (x := Op.call { callee := Callee.value (Operand.func 17), args := #[Operand.tmp 44, Operand.tmp 45], argTypes := #[25, 27] }) (by kernel_rfl)
  have hgd := op_at ho (·.guard) (x := none) (by kernel_rfl)
  have e0 : a.eval (.tmp 44) = shV gg hq := haft 0 (op_at ho (fun o => o.after.any fun e => decide (e.on = 0) && Region.binds .any e) (x := true) (by kernel_rfl))
  have e1 : wk4S p gg hq 1 (a.eval (.tmp 45)) W := haft 1 (op_at ho (fun o => o.after.any fun e => decide (e.on = 1) && Region.binds .any e) (x := true) (by kernel_rfl))
  refine ⟨fun j b h => (by rw [hgd] at h; cases h), ?_⟩
  have eR : a.eval (.tmp 45) = .agg #[.int .i64 0, .int .i64 6] := e1
  refine specs_call (R := fun v W => wk4S p gg hq 2 v W) (f := 17) (args := #[shV gg hq, .agg #[.int .i64 0, .int .i64 6]]) (by simp [execOp, hop, go_sem, ev e0, ev eR]) ((hcall W hB).mono ?_)
  rintro e w' ⟨v, h1, h2, h3⟩
  exact ⟨v, h1, h2, h3⟩
set_option maxHeartbeats 1000000 in
theorem wk4_op3 (haft : ∀ j, (o.after.any fun e => decide (e.on = j) && Region.binds .any e) = true → wk4S p gg hq j (a.eval (.tmp (wk4D j))) W) (ho : wk4Reg[3]? = some o) : wk4Ok p gg hq Q a W 3 o := by
  have hop := op_at ho (·.op) (x := Op.move (Operand.tmp 46)) (by kernel_rfl)
  have hgd := op_at ho (·.guard) (x := none) (by kernel_rfl)
  have e2 : wk4S p gg hq 2 (a.eval (.tmp 46)) W := haft 2 (op_at ho (fun o => o.after.any fun e => decide (e.on = 2) && Region.binds .any e) (x := true) (by kernel_rfl))
  refine ⟨fun j b h => (by rw [hgd] at h; cases h), ?_⟩
  have eR : a.eval (.tmp 46) = .tuple #[.slice none 0 0, .int .i64 19] := e2
  exact specs_value (R := fun v W => wk4S p gg hq 3 v W) (v := .tuple #[.slice none 0 0, .int .i64 19]) (by simp [execOp, hop, go_sem, ev eR]) rfl (Ext.refl W)
set_option maxHeartbeats 1000000 in
theorem wk4_op4 (haft : ∀ j, (o.after.any fun e => decide (e.on = j) && Region.binds .any e) = true → wk4S p gg hq j (a.eval (.tmp (wk4D j))) W) (ho : wk4Reg[4]? = some o) : wk4Ok p gg hq Q a W 4 o := by
  have hop := op_at ho (·.op) (x := Op.extract (Operand.tmp 43) 0) (by kernel_rfl)
  have hgd := op_at ho (·.guard) (x := none) (by kernel_rfl)
  have e3 : a.eval (.tmp 43) = .tuple #[.slice none 0 0, .int .i64 19] := haft 3 (op_at ho (fun o => o.after.any fun e => decide (e.on = 3) && Region.binds .any e) (x := true) (by kernel_rfl))
  refine ⟨fun j b h => (by rw [hgd] at h; cases h), ?_⟩
  exact specs_value (R := fun v W => wk4S p gg hq 4 v W) (v := .slice none 0 0) (by simp [execOp, hop, go_sem, ev e3]) rfl (Ext.refl W)
set_option maxHeartbeats 1000000 in
theorem wk4_op5 (haft : ∀ j, (o.after.any fun e => decide (e.on = j) && Region.binds .any e) = true → wk4S p gg hq j (a.eval (.tmp (wk4D j))) W) (ho : wk4Reg[5]? = some o) : wk4Ok p gg hq Q a W 5 o := by
  have hop := op_at ho (·.op) (x := Op.extract (Operand.tmp 43) 1) (by kernel_rfl)
  have hgd := op_at ho (·.guard) (x := none) (by kernel_rfl)
  have e3 : a.eval (.tmp 43) = .tuple #[.slice none 0 0, .int .i64 19] := haft 3 (op_at ho (fun o => o.after.any fun e => decide (e.on = 3) && Region.binds .any e) (x := true) (by kernel_rfl))
  refine ⟨fun j b h => (by rw [hgd] at h; cases h), ?_⟩
  exact specs_value (R := fun v W => wk4S p gg hq 5 v W) (v := .int .i64 19) (by simp [execOp, hop, go_sem, ev e3]) rfl (Ext.refl W)
set_option maxHeartbeats 1000000 in
theorem wk4_op6 (haft : ∀ j, (o.after.any fun e => decide (e.on = j) && Region.binds .any e) = true → wk4S p gg hq j (a.eval (.tmp (wk4D j))) W) (ho : wk4Reg[6]? = some o) : wk4Ok p gg hq Q a W 6 o := by
  have hop := op_at ho (·.op) (x := Op.assign (Operand.tmp 47)) (by kernel_rfl)
  have hgd := op_at ho (·.guard) (x := none) (by kernel_rfl)
  have e4 : a.eval (.tmp 47) = .slice none 0 0 := haft 4 (op_at ho (fun o => o.after.any fun e => decide (e.on = 4) && Region.binds .any e) (x := true) (by kernel_rfl))
  refine ⟨fun j b h => (by rw [hgd] at h; cases h), ?_⟩
  exact specs_value (R := fun v W => wk4S p gg hq 6 v W) (v := .slice none 0 0) (by simp [execOp, hop, go_sem, ev e4]) rfl (Ext.refl W)
set_option maxHeartbeats 1000000 in
theorem wk4_op7 (haft : ∀ j, (o.after.any fun e => decide (e.on = j) && Region.binds .any e) = true → wk4S p gg hq j (a.eval (.tmp (wk4D j))) W) (ho : wk4Reg[7]? = some o) : wk4Ok p gg hq Q a W 7 o := by
  have hop := op_at ho (·.op) (x := Op.assign (Operand.tmp 48)) (by kernel_rfl)
  have hgd := op_at ho (·.guard) (x := none) (by kernel_rfl)
  have e5 : a.eval (.tmp 48) = .int .i64 19 := haft 5 (op_at ho (fun o => o.after.any fun e => decide (e.on = 5) && Region.binds .any e) (x := true) (by kernel_rfl))
  refine ⟨fun j b h => (by rw [hgd] at h; cases h), ?_⟩
  exact specs_value (R := fun v W => wk4S p gg hq 7 v W) (v := .int .i64 19) (by simp [execOp, hop, go_sem, ev e5]) rfl (Ext.refl W)
set_option maxRecDepth 100000 in
set_option maxHeartbeats 4000000 in
/-- Region 4 of function 16. -/
theorem wk4_wp {id : Nat} (hlen : a.tmps.size = 223) (o1 : a.eval (.tmp 1) = .pointer (some ⟨p, 0, none⟩)) (q0 : ∀ W, Ext V W → W.cell? ⟨p, 0, none⟩ = some (.slice (some ⟨gg, 0, none⟩) 2 2)) (q1 : ∀ W, Ext V W → W.cell? ⟨p, 1, none⟩ = some (.slice (some ⟨hq, 0, none⟩) 5 5)) (hcall : ∀ W, Ext V W → Calls Try.prog 17 #[shV gg hq, .agg #[.int .i64 0, .int .i64 6]] W fun e w' => ∃ v, e = .returned v ∧ (v = .tuple #[.slice none 0 0, .int .i64 19]) ∧ Ext W w') (K : (∀ W v1 v2, Ext V W → wk4S p gg hq 1 v1 W → wk4S p gg hq 2 v2 W → wpList Try.prog wk4Reg Q (wk4Reg.toList.drop 8) (puts a [(44, shV gg hq), (45, v1), (46, v2), (43, .tuple #[.slice none 0 0, .int .i64 19]), (47, .slice none 0 0), (48, .int .i64 19), (5, .slice none 0 0), (6, .int .i64 19)]) W)) : (Code.region id wk4Reg true).wp Try.prog Q a V := by
  refine wp_region_specs_free (ops := wk4Reg) 8 (wk4S p gg hq) (Ext V) (by kernel_rfl) (by rw [hlen]; kernel_rfl) (by kernel_rfl) ⟨rfl, rfl, rfl, Nat.le_refl _, fun _ _ => rfl⟩ (fun _ _ h e => h.trans e) wk4S_ext wk4D (by kernel_rfl) ?_ ?_
  · intro i o hi ho a' W hB hsz hold haft
    match i, hi with
    | 0, _ => exact wk4_op0 ((hold 1 (by kernel_rfl)).trans o1) q0 q1 hB ho
    | 1, _ => exact wk4_op1 hB ho
    | 2, _ => exact wk4_op2 hcall hB haft ho
    | 3, _ => exact wk4_op3 haft ho
    | 4, _ => exact wk4_op4 haft ho
    | 5, _ => exact wk4_op5 haft ho
    | 6, _ => exact wk4_op6 haft ho
    | 7, _ => exact wk4_op7 haft ho
    | m + 8, h => exact absurd h (by omega)
  · intro a1 W hB hsz hdf hold hS
    obtain ⟨v1, g1⟩ : ∃ v, v = a1.eval (.tmp 45) := ⟨_, rfl⟩
    obtain ⟨v2, g2⟩ : ∃ v, v = a1.eval (.tmp 46) := ⟨_, rfl⟩
    have hall : ∀ z, z ∈ ([(44, shV gg hq), (45, v1), (46, v2), (43, .tuple #[.slice none 0 0, .int .i64 19]), (47, .slice none 0 0), (48, .int .i64 19), (5, .slice none 0 0), (6, .int .i64 19)] : List (Tmp × Value)) → z.1 < a.tmps.size ∧ a1.eval (.tmp z.1) = z.2 := by
      intro z hz
      rw [hlen]
      simp only [List.mem_cons, List.not_mem_nil, or_false] at hz
      rcases hz with rfl | rfl | rfl | rfl | rfl | rfl | rfl | rfl
      · exact ⟨(show (44 : Nat) < 223 by omega), hS 0 (by omega)⟩
      · exact ⟨(show (45 : Nat) < 223 by omega), g1.symm⟩
      · exact ⟨(show (46 : Nat) < 223 by omega), g2.symm⟩
      · exact ⟨(show (43 : Nat) < 223 by omega), hS 3 (by omega)⟩
      · exact ⟨(show (47 : Nat) < 223 by omega), hS 4 (by omega)⟩
      · exact ⟨(show (48 : Nat) < 223 by omega), hS 5 (by omega)⟩
      · exact ⟨(show (5 : Nat) < 223 by omega), hS 6 (by omega)⟩
      · exact ⟨(show (6 : Nat) < 223 by omega), hS 7 (by omega)⟩
    have ha := act_puts hsz hdf hall (fun t ht => hold t (all_ne_of (l := [(44, shV gg hq), (45, v1), (46, v2), (43, .tuple #[.slice none 0 0, .int .i64 19]), (47, .slice none 0 0), (48, .int .i64 19), (5, .slice none 0 0), (6, .int .i64 19)]) (by kernel_rfl) ht))
    rw [ha]
    exact K W v1 v2 hB (by rw [g1]; exact hS 1 (by omega)) (by rw [g2]; exact hS 2 (by omega))
end

/-- The slots of region 13 of function 16. -/
def wk13D (i : Nat) : Tmp := if i = 0 then 88 else if i = 1 then 89 else if i = 2 then 90 else if i = 3 then 87 else if i = 4 then 91 else if i = 5 then 92 else if i = 6 then 21 else 22
/-- What each operation yields. -/
def wk13S (_p gg hq : Nat) (ix : Nat) (v : Value) (_W : World) : Prop :=
  match ix with
  | 0 => v = shV gg hq
  | 1 => v = .agg #[.int .i64 0, .int .i64 5]
  | 2 => v = .tuple #[.int .i64 1, .int .i64 0]
  | 3 => v = .tuple #[.int .i64 1, .int .i64 0]
  | 4 => v = .int .i64 1
  | 5 => v = .int .i64 0
  | 6 => v = .int .i64 1
  | 7 => v = .int .i64 0
  | _ => True
noncomputable def wk13Reg : Array Oper := (Try.f16.body.bind (regionOf · 13)).getD #[]
theorem wk13S_ext {p gg hq : Nat} : ∀ (i : Nat) (v : Value) (W W' : World), wk13S p gg hq i v W → Below W.heap.size W W' → wk13S p gg hq i v W' := by
  intro i v W W' h e
  match i with
  | 0 => exact h
  | 1 => exact h
  | 2 => exact h
  | 3 => exact h
  | 4 => exact h
  | 5 => exact h
  | 6 => exact h
  | 7 => exact h
  | k + 8 => exact trivial
def wk13Ok (p gg hq : Nat) (Q : Exit → Act → World → Prop) (a : Act) (W : World) (ix : Nat) (o : Oper) : Prop :=
  (∀ j b, o.guard = some (j, b) → a.eval (.tmp (wk13D j)) = .bool b) ∧ o.wp Try.prog a W (fun a'' W' => ∃ v, a'' = a.put o.dst v ∧ wk13S p gg hq ix v W' ∧ Below W.heap.size W W') Q
section
variable {p gg hq : Nat} {Q : Exit → Act → World → Prop} {a : Act} {V W : World} {o : Oper}
set_option maxHeartbeats 1000000 in
theorem wk13_op0 (o1 : a.eval (.tmp 1) = .pointer (some ⟨p, 0, none⟩)) (q0 : ∀ W, Ext V W → W.cell? ⟨p, 0, none⟩ = some (.slice (some ⟨gg, 0, none⟩) 2 2)) (q1 : ∀ W, Ext V W → W.cell? ⟨p, 1, none⟩ = some (.slice (some ⟨hq, 0, none⟩) 5 5)) (hB : Ext V W) (ho : wk13Reg[0]? = some o) : wk13Ok p gg hq Q a W 0 o := by
  have hop := op_at ho (·.op) (x := Op.load 25 (Operand.tmp 1)) (by kernel_rfl)
  have hgd := op_at ho (·.guard) (x := none) (by kernel_rfl)
  refine ⟨fun j b h => (by rw [hgd] at h; cases h), ?_⟩
  have q0' := q0 W hB
  have q1' := q1 W hB
  exact specs_value (R := fun v W => wk13S p gg hq 0 v W) (v := shV gg hq) (by simp [execOp, hop, go_sem, ev o1, q0', q1', shV]) rfl (Ext.refl W)
set_option maxHeartbeats 1000000 in
theorem wk13_op1 (hB : Ext V W) (ho : wk13Reg[1]? = some o) : wk13Ok p gg hq Q a W 1 o := by
  have hop := op_at ho (·.op) (x := Op.call { callee := Callee.value (Operand.func 43), args := #[Operand.const (Value.int IntKind.i64 0), Operand.const (Value.int IntKind.i64 5)], argTypes := #[3, 2] }) (by kernel_rfl)
  have hgd := op_at ho (·.guard) (x := none) (by kernel_rfl)
  refine ⟨fun j b h => (by rw [hgd] at h; cases h), ?_⟩
  have hB' := hB
  refine specs_call (R := fun v W => wk13S p gg hq 1 v W) (f := 43) (args := #[.int .i64 0, .int .i64 5]) (by simp [execOp, hop, go_sem]) ((row_any 0 5 W).mono ?_)
  rintro e w' ⟨rfl, h3⟩
  exact ⟨_, rfl, rfl, h3⟩
set_option maxHeartbeats 1000000 in
theorem wk13_op2 (hcall : ∀ W, Ext V W → Calls Try.prog 32 #[shV gg hq, .agg #[.int .i64 0, .int .i64 5]] W fun e w' => ∃ v, e = .returned v ∧ (v = .tuple #[.int .i64 1, .int .i64 0]) ∧ Ext W w') (hB : Ext V W) (haft : ∀ j, (o.after.any fun e => decide (e.on = j) && Region.binds .any e) = true → wk13S p gg hq j (a.eval (.tmp (wk13D j))) W) (ho : wk13Reg[2]? = some o) : wk13Ok p gg hq Q a W 2 o := by
  have hop := op_at ho (·.op) (x := Op.call { callee := Callee.value (Operand.func 32), args := #[Operand.tmp 88, Operand.tmp 89], argTypes := #[25, 27] }) (by kernel_rfl)
  have hgd := op_at ho (·.guard) (x := none) (by kernel_rfl)
  have e0 : a.eval (.tmp 88) = shV gg hq := haft 0 (op_at ho (fun o => o.after.any fun e => decide (e.on = 0) && Region.binds .any e) (x := true) (by kernel_rfl))
  have e1 : wk13S p gg hq 1 (a.eval (.tmp 89)) W := haft 1 (op_at ho (fun o => o.after.any fun e => decide (e.on = 1) && Region.binds .any e) (x := true) (by kernel_rfl))
  refine ⟨fun j b h => (by rw [hgd] at h; cases h), ?_⟩
  have eR : a.eval (.tmp 89) = .agg #[.int .i64 0, .int .i64 5] := e1
  refine specs_call (R := fun v W => wk13S p gg hq 2 v W) (f := 32) (args := #[shV gg hq, .agg #[.int .i64 0, .int .i64 5]]) (by simp [execOp, hop, go_sem, ev e0, ev eR]) ((hcall W hB).mono ?_)
  rintro e w' ⟨v, h1, h2, h3⟩
  exact ⟨v, h1, h2, h3⟩
set_option maxHeartbeats 1000000 in
theorem wk13_op3 (haft : ∀ j, (o.after.any fun e => decide (e.on = j) && Region.binds .any e) = true → wk13S p gg hq j (a.eval (.tmp (wk13D j))) W) (ho : wk13Reg[3]? = some o) : wk13Ok p gg hq Q a W 3 o := by
  have hop := op_at ho (·.op) (x := Op.move (Operand.tmp 90)) (by kernel_rfl)
  have hgd := op_at ho (·.guard) (x := none) (by kernel_rfl)
  have e2 : wk13S p gg hq 2 (a.eval (.tmp 90)) W := haft 2 (op_at ho (fun o => o.after.any fun e => decide (e.on = 2) && Region.binds .any e) (x := true) (by kernel_rfl))
  refine ⟨fun j b h => (by rw [hgd] at h; cases h), ?_⟩
  have eR : a.eval (.tmp 90) = .tuple #[.int .i64 1, .int .i64 0] := e2
  exact specs_value (R := fun v W => wk13S p gg hq 3 v W) (v := .tuple #[.int .i64 1, .int .i64 0]) (by simp [execOp, hop, go_sem, ev eR]) rfl (Ext.refl W)
set_option maxHeartbeats 1000000 in
theorem wk13_op4 (haft : ∀ j, (o.after.any fun e => decide (e.on = j) && Region.binds .any e) = true → wk13S p gg hq j (a.eval (.tmp (wk13D j))) W) (ho : wk13Reg[4]? = some o) : wk13Ok p gg hq Q a W 4 o := by
  have hop := op_at ho (·.op) (x := Op.extract (Operand.tmp 87) 0) (by kernel_rfl)
  have hgd := op_at ho (·.guard) (x := none) (by kernel_rfl)
  have e3 : a.eval (.tmp 87) = .tuple #[.int .i64 1, .int .i64 0] := haft 3 (op_at ho (fun o => o.after.any fun e => decide (e.on = 3) && Region.binds .any e) (x := true) (by kernel_rfl))
  refine ⟨fun j b h => (by rw [hgd] at h; cases h), ?_⟩
  exact specs_value (R := fun v W => wk13S p gg hq 4 v W) (v := .int .i64 1) (by simp [execOp, hop, go_sem, ev e3]) rfl (Ext.refl W)
set_option maxHeartbeats 1000000 in
theorem wk13_op5 (haft : ∀ j, (o.after.any fun e => decide (e.on = j) && Region.binds .any e) = true → wk13S p gg hq j (a.eval (.tmp (wk13D j))) W) (ho : wk13Reg[5]? = some o) : wk13Ok p gg hq Q a W 5 o := by
  have hop := op_at ho (·.op) (x := Op.extract (Operand.tmp 87) 1) (by kernel_rfl)
  have hgd := op_at ho (·.guard) (x := none) (by kernel_rfl)
  have e3 : a.eval (.tmp 87) = .tuple #[.int .i64 1, .int .i64 0] := haft 3 (op_at ho (fun o => o.after.any fun e => decide (e.on = 3) && Region.binds .any e) (x := true) (by kernel_rfl))
  refine ⟨fun j b h => (by rw [hgd] at h; cases h), ?_⟩
  exact specs_value (R := fun v W => wk13S p gg hq 5 v W) (v := .int .i64 0) (by simp [execOp, hop, go_sem, ev e3]) rfl (Ext.refl W)
set_option maxHeartbeats 1000000 in
theorem wk13_op6 (haft : ∀ j, (o.after.any fun e => decide (e.on = j) && Region.binds .any e) = true → wk13S p gg hq j (a.eval (.tmp (wk13D j))) W) (ho : wk13Reg[6]? = some o) : wk13Ok p gg hq Q a W 6 o := by
  have hop := op_at ho (·.op) (x := Op.assign (Operand.tmp 91)) (by kernel_rfl)
  have hgd := op_at ho (·.guard) (x := none) (by kernel_rfl)
  have e4 : a.eval (.tmp 91) = .int .i64 1 := haft 4 (op_at ho (fun o => o.after.any fun e => decide (e.on = 4) && Region.binds .any e) (x := true) (by kernel_rfl))
  refine ⟨fun j b h => (by rw [hgd] at h; cases h), ?_⟩
  exact specs_value (R := fun v W => wk13S p gg hq 6 v W) (v := .int .i64 1) (by simp [execOp, hop, go_sem, ev e4]) rfl (Ext.refl W)
set_option maxHeartbeats 1000000 in
theorem wk13_op7 (haft : ∀ j, (o.after.any fun e => decide (e.on = j) && Region.binds .any e) = true → wk13S p gg hq j (a.eval (.tmp (wk13D j))) W) (ho : wk13Reg[7]? = some o) : wk13Ok p gg hq Q a W 7 o := by
  have hop := op_at ho (·.op) (x := Op.assign (Operand.tmp 92)) (by kernel_rfl)
  have hgd := op_at ho (·.guard) (x := none) (by kernel_rfl)
  have e5 : a.eval (.tmp 92) = .int .i64 0 := haft 5 (op_at ho (fun o => o.after.any fun e => decide (e.on = 5) && Region.binds .any e) (x := true) (by kernel_rfl))
  refine ⟨fun j b h => (by rw [hgd] at h; cases h), ?_⟩
  exact specs_value (R := fun v W => wk13S p gg hq 7 v W) (v := .int .i64 0) (by simp [execOp, hop, go_sem, ev e5]) rfl (Ext.refl W)
set_option maxRecDepth 100000 in
set_option maxHeartbeats 4000000 in
/-- Region 13 of function 16. -/
theorem wk13_wp {id : Nat} (hlen : a.tmps.size = 223) (o1 : a.eval (.tmp 1) = .pointer (some ⟨p, 0, none⟩)) (q0 : ∀ W, Ext V W → W.cell? ⟨p, 0, none⟩ = some (.slice (some ⟨gg, 0, none⟩) 2 2)) (q1 : ∀ W, Ext V W → W.cell? ⟨p, 1, none⟩ = some (.slice (some ⟨hq, 0, none⟩) 5 5)) (hcall : ∀ W, Ext V W → Calls Try.prog 32 #[shV gg hq, .agg #[.int .i64 0, .int .i64 5]] W fun e w' => ∃ v, e = .returned v ∧ (v = .tuple #[.int .i64 1, .int .i64 0]) ∧ Ext W w') (K : (∀ W v1 v2, Ext V W → wk13S p gg hq 1 v1 W → wk13S p gg hq 2 v2 W → wpList Try.prog wk13Reg Q (wk13Reg.toList.drop 8) (puts a [(88, shV gg hq), (89, v1), (90, v2), (87, .tuple #[.int .i64 1, .int .i64 0]), (91, .int .i64 1), (92, .int .i64 0), (21, .int .i64 1), (22, .int .i64 0)]) W)) : (Code.region id wk13Reg true).wp Try.prog Q a V := by
  refine wp_region_specs_free (ops := wk13Reg) 8 (wk13S p gg hq) (Ext V) (by kernel_rfl) (by rw [hlen]; kernel_rfl) (by kernel_rfl) ⟨rfl, rfl, rfl, Nat.le_refl _, fun _ _ => rfl⟩ (fun _ _ h e => h.trans e) wk13S_ext wk13D (by kernel_rfl) ?_ ?_
  · intro i o hi ho a' W hB hsz hold haft
    match i, hi with
    | 0, _ => exact wk13_op0 ((hold 1 (by kernel_rfl)).trans o1) q0 q1 hB ho
    | 1, _ => exact wk13_op1 hB ho
    | 2, _ => exact wk13_op2 hcall hB haft ho
    | 3, _ => exact wk13_op3 haft ho
    | 4, _ => exact wk13_op4 haft ho
    | 5, _ => exact wk13_op5 haft ho
    | 6, _ => exact wk13_op6 haft ho
    | 7, _ => exact wk13_op7 haft ho
    | m + 8, h => exact absurd h (by omega)
  · intro a1 W hB hsz hdf hold hS
    obtain ⟨v1, g1⟩ : ∃ v, v = a1.eval (.tmp 89) := ⟨_, rfl⟩
    obtain ⟨v2, g2⟩ : ∃ v, v = a1.eval (.tmp 90) := ⟨_, rfl⟩
    have hall : ∀ z, z ∈ ([(88, shV gg hq), (89, v1), (90, v2), (87, .tuple #[.int .i64 1, .int .i64 0]), (91, .int .i64 1), (92, .int .i64 0), (21, .int .i64 1), (22, .int .i64 0)] : List (Tmp × Value)) → z.1 < a.tmps.size ∧ a1.eval (.tmp z.1) = z.2 := by
      intro z hz
      rw [hlen]
      simp only [List.mem_cons, List.not_mem_nil, or_false] at hz
      rcases hz with rfl | rfl | rfl | rfl | rfl | rfl | rfl | rfl
      · exact ⟨(show (88 : Nat) < 223 by omega), hS 0 (by omega)⟩
      · exact ⟨(show (89 : Nat) < 223 by omega), g1.symm⟩
      · exact ⟨(show (90 : Nat) < 223 by omega), g2.symm⟩
      · exact ⟨(show (87 : Nat) < 223 by omega), hS 3 (by omega)⟩
      · exact ⟨(show (91 : Nat) < 223 by omega), hS 4 (by omega)⟩
      · exact ⟨(show (92 : Nat) < 223 by omega), hS 5 (by omega)⟩
      · exact ⟨(show (21 : Nat) < 223 by omega), hS 6 (by omega)⟩
      · exact ⟨(show (22 : Nat) < 223 by omega), hS 7 (by omega)⟩
    have ha := act_puts hsz hdf hall (fun t ht => hold t (all_ne_of (l := [(88, shV gg hq), (89, v1), (90, v2), (87, .tuple #[.int .i64 1, .int .i64 0]), (91, .int .i64 1), (92, .int .i64 0), (21, .int .i64 1), (22, .int .i64 0)]) (by kernel_rfl) ht))
    rw [ha]
    exact K W v1 v2 hB (by rw [g1]; exact hS 1 (by omega)) (by rw [g2]; exact hS 2 (by omega))
end
end Go.Proofs.Ytlaakmgdbhabfaa

/- Works: the region of its fourth call, and its last one. -/
namespace Go.Proofs.Ytlaakmgdbhabfaa
open Go.RowKit Go.Shelf
attribute [local irreducible] bitCells fitCells Z94 fitOf

/-- The slots of region 10 of function 16. -/
def wk10D (i : Nat) : Tmp := if i = 0 then 74 else if i = 1 then 75 else if i = 2 then 76 else if i = 3 then 77 else if i = 4 then 78 else 17
/-- What each operation yields. -/
def wk10S (_p gg hq : Nat) (ix : Nat) (v : Value) (W : World) : Prop :=
  match ix with
  | 0 => v = shV gg hq
  | 1 => v = .agg #[.int .i64 0, .int .i64 5]
  | 2 => v = .agg #[.int .i64 0, .int .i64 15]
  | 3 => ∃ b, v = .slice (some ⟨b, 0, none⟩) 2 2 ∧ W.heap[b]? = some (.cells #[.int .i64 0, .int .i64 5, .int .i64 0, .int .i64 15] 27 (0, 0))
  | 4 => v = .int .i64 16
  | 5 => v = .int .i64 16
  | _ => True
noncomputable def wk10Reg : Array Oper := (Try.f16.body.bind (regionOf · 10)).getD #[]
theorem wk10S_ext {p gg hq : Nat} : ∀ (i : Nat) (v : Value) (W W' : World), wk10S p gg hq i v W → Below W.heap.size W W' → wk10S p gg hq i v W' := by
  intro i v W W' h e
  match i with
  | 0 => exact h
  | 1 => exact h
  | 2 => exact h
  | 3 => (obtain ⟨b, h1, h2⟩ := h; exact ⟨b, h1, row_ext h2 e⟩)
  | 4 => exact h
  | 5 => exact h
  | k + 6 => exact trivial
def wk10Ok (p gg hq : Nat) (Q : Exit → Act → World → Prop) (a : Act) (W : World) (ix : Nat) (o : Oper) : Prop :=
  (∀ j b, o.guard = some (j, b) → a.eval (.tmp (wk10D j)) = .bool b) ∧ o.wp Try.prog a W (fun a'' W' => ∃ v, a'' = a.put o.dst v ∧ wk10S p gg hq ix v W' ∧ Below W.heap.size W W') Q
section
variable {p gg hq : Nat} {Q : Exit → Act → World → Prop} {a : Act} {V W : World} {o : Oper}
set_option maxHeartbeats 1000000 in
theorem wk10_op0 (o1 : a.eval (.tmp 1) = .pointer (some ⟨p, 0, none⟩)) (q0 : ∀ W, Ext V W → W.cell? ⟨p, 0, none⟩ = some (.slice (some ⟨gg, 0, none⟩) 2 2)) (q1 : ∀ W, Ext V W → W.cell? ⟨p, 1, none⟩ = some (.slice (some ⟨hq, 0, none⟩) 5 5)) (hB : Ext V W) (ho : wk10Reg[0]? = some o) : wk10Ok p gg hq Q a W 0 o := by
  have hop := op_at ho (·.op) (x := Op.load 25 (Operand.tmp 1)) (by kernel_rfl)
  have hgd := op_at ho (·.guard) (x := none) (by kernel_rfl)
  refine ⟨fun j b h => (by rw [hgd] at h; cases h), ?_⟩
  have q0' := q0 W hB
  have q1' := q1 W hB
  exact specs_value (R := fun v W => wk10S p gg hq 0 v W) (v := shV gg hq) (by simp [execOp, hop, go_sem, ev o1, q0', q1', shV]) rfl (Ext.refl W)
set_option maxHeartbeats 1000000 in
theorem wk10_op1 (hB : Ext V W) (ho : wk10Reg[1]? = some o) : wk10Ok p gg hq Q a W 1 o := by
  have hop := op_at ho (·.op) (x := Op.call { callee := Callee.value (Operand.func 43), args := #[Operand.const (Value.int IntKind.i64 0), Operand.const (Value.int IntKind.i64 5)], argTypes := #[3, 2] }) (by kernel_rfl)
  have hgd := op_at ho (·.guard) (x := none) (by kernel_rfl)
  refine ⟨fun j b h => (by rw [hgd] at h; cases h), ?_⟩
  have hB' := hB
  refine specs_call (R := fun v W => wk10S p gg hq 1 v W) (f := 43) (args := #[.int .i64 0, .int .i64 5]) (by simp [execOp, hop, go_sem]) ((row_any 0 5 W).mono ?_)
  rintro e w' ⟨rfl, h3⟩
  exact ⟨_, rfl, rfl, h3⟩
set_option maxHeartbeats 1000000 in
theorem wk10_op2 (hB : Ext V W) (ho : wk10Reg[2]? = some o) : wk10Ok p gg hq Q a W 2 o := by
  have hop := op_at ho (·.op) (x := Op.call { callee := Callee.value (Operand.func 43), args := #[Operand.const (Value.int IntKind.i64 0), Operand.const (Value.int IntKind.i64 15)], argTypes := #[3, 2] }) (by kernel_rfl)
  have hgd := op_at ho (·.guard) (x := none) (by kernel_rfl)
  refine ⟨fun j b h => (by rw [hgd] at h; cases h), ?_⟩
  have hB' := hB
  refine specs_call (R := fun v W => wk10S p gg hq 2 v W) (f := 43) (args := #[.int .i64 0, .int .i64 15]) (by simp [execOp, hop, go_sem]) ((row_any 0 15 W).mono ?_)
  rintro e w' ⟨rfl, h3⟩
  exact ⟨_, rfl, rfl, h3⟩
set_option maxHeartbeats 1000000 in
theorem wk10_op3 (haft : ∀ j, (o.after.any fun e => decide (e.on = j) && Region.binds .any e) = true → wk10S p gg hq j (a.eval (.tmp (wk10D j))) W) (ho : wk10Reg[3]? = some o) : wk10Ok p gg hq Q a W 3 o := by
  have hop := op_at ho (·.op) (x := Op.buildSlice 54 2 #[(0, Operand.tmp 75), (1, Operand.tmp 76)]) (by kernel_rfl)
  have hgd := op_at ho (·.guard) (x := none) (by kernel_rfl)
  have e1 : wk10S p gg hq 1 (a.eval (.tmp 75)) W := haft 1 (op_at ho (fun o => o.after.any fun e => decide (e.on = 1) && Region.binds .any e) (x := true) (by kernel_rfl))
  have e2 : wk10S p gg hq 2 (a.eval (.tmp 76)) W := haft 2 (op_at ho (fun o => o.after.any fun e => decide (e.on = 2) && Region.binds .any e) (x := true) (by kernel_rfl))
  refine ⟨fun j b h => (by rw [hgd] at h; cases h), ?_⟩
  have eA : a.eval (.tmp 75) = .agg #[.int .i64 0, .int .i64 5] := e1
  have eC : a.eval (.tmp 76) = .agg #[.int .i64 0, .int .i64 15] := e2
  exact specs_value (R := fun v W => wk10S p gg hq 3 v W) (v := .slice (some ⟨W.heap.size, 0, none⟩) 2 2) (W' := W.alloc (.cells #[.int .i64 0, .int .i64 5, .int .i64 0, .int .i64 15] 27)) (by simp [execOp, hop, go_sem, ev eA, ev eC]) ⟨_, rfl, row_last _ _ _ rfl⟩ (ext_alloc _ _)
set_option maxHeartbeats 1000000 in
theorem wk10_op4 (hcall : ∀ W b, Ext V W → W.heap[b]? = some (.cells #[.int .i64 0, .int .i64 5, .int .i64 0, .int .i64 15] 27 (0, 0)) → Calls Try.prog 41 #[shV gg hq, .slice (some ⟨b, 0, none⟩) 2 2] W fun e w' => e = .returned (.int .i64 16) ∧ Ext W w') (hB : Ext V W) (haft : ∀ j, (o.after.any fun e => decide (e.on = j) && Region.binds .any e) = true → wk10S p gg hq j (a.eval (.tmp (wk10D j))) W) (ho : wk10Reg[4]? = some o) : wk10Ok p gg hq Q a W 4 o := by
  have hop := op_at ho (·.op) (x := Op.call { callee := Callee.value (Operand.func 41), args := #[Operand.tmp 74, Operand.tmp 77], argTypes := #[25, 54] }) (by kernel_rfl)
  have hgd := op_at ho (·.guard) (x := none) (by kernel_rfl)
  have e0 : a.eval (.tmp 74) = shV gg hq := haft 0 (op_at ho (fun o => o.after.any fun e => decide (e.on = 0) && Region.binds .any e) (x := true) (by kernel_rfl))
  have e3 : wk10S p gg hq 3 (a.eval (.tmp 77)) W := haft 3 (op_at ho (fun o => o.after.any fun e => decide (e.on = 3) && Region.binds .any e) (x := true) (by kernel_rfl))
  refine ⟨fun j b h => (by rw [hgd] at h; cases h), ?_⟩
  have hB' := hB
  obtain ⟨b, hv, hr⟩ := e3
  refine specs_call (R := fun v W => wk10S p gg hq 4 v W) (f := 41) (args := #[shV gg hq, .slice (some ⟨b, 0, none⟩) 2 2]) (by simp [execOp, hop, go_sem, ev e0, ev hv]) ((hcall W b hB hr).mono ?_)
  rintro e w' ⟨rfl, h3⟩
  exact ⟨_, rfl, rfl, h3⟩
set_option maxHeartbeats 1000000 in
theorem wk10_op5 (haft : ∀ j, (o.after.any fun e => decide (e.on = j) && Region.binds .any e) = true → wk10S p gg hq j (a.eval (.tmp (wk10D j))) W) (ho : wk10Reg[5]? = some o) : wk10Ok p gg hq Q a W 5 o := by
  have hop := op_at ho (·.op) (x := Op.assign (Operand.tmp 78)) (by kernel_rfl)
  have hgd := op_at ho (·.guard) (x := none) (by kernel_rfl)
  have e4 : wk10S p gg hq 4 (a.eval (.tmp 78)) W := haft 4 (op_at ho (fun o => o.after.any fun e => decide (e.on = 4) && Region.binds .any e) (x := true) (by kernel_rfl))
  refine ⟨fun j b h => (by rw [hgd] at h; cases h), ?_⟩
  have eR : a.eval (.tmp 78) = .int .i64 16 := e4
  exact specs_value (R := fun v W => wk10S p gg hq 5 v W) (v := .int .i64 16) (by simp [execOp, hop, go_sem, ev eR]) rfl (Ext.refl W)
set_option maxRecDepth 100000 in
set_option maxHeartbeats 4000000 in
/-- Region 10 of function 16. -/
theorem wk10_wp {id : Nat} (hlen : a.tmps.size = 223) (o1 : a.eval (.tmp 1) = .pointer (some ⟨p, 0, none⟩)) (q0 : ∀ W, Ext V W → W.cell? ⟨p, 0, none⟩ = some (.slice (some ⟨gg, 0, none⟩) 2 2)) (q1 : ∀ W, Ext V W → W.cell? ⟨p, 1, none⟩ = some (.slice (some ⟨hq, 0, none⟩) 5 5)) (hcall : ∀ W b, Ext V W → W.heap[b]? = some (.cells #[.int .i64 0, .int .i64 5, .int .i64 0, .int .i64 15] 27 (0, 0)) → Calls Try.prog 41 #[shV gg hq, .slice (some ⟨b, 0, none⟩) 2 2] W fun e w' => e = .returned (.int .i64 16) ∧ Ext W w') (K : (∀ W v1 v2 v3 v4, Ext V W → wk10S p gg hq 1 v1 W → wk10S p gg hq 2 v2 W → wk10S p gg hq 3 v3 W → wk10S p gg hq 4 v4 W → wpList Try.prog wk10Reg Q (wk10Reg.toList.drop 6) (puts a [(74, shV gg hq), (75, v1), (76, v2), (77, v3), (78, v4), (17, .int .i64 16)]) W)) : (Code.region id wk10Reg true).wp Try.prog Q a V := by
  refine wp_region_specs_free (ops := wk10Reg) 6 (wk10S p gg hq) (Ext V) (by kernel_rfl) (by rw [hlen]; kernel_rfl) (by kernel_rfl) ⟨rfl, rfl, rfl, Nat.le_refl _, fun _ _ => rfl⟩ (fun _ _ h e => h.trans e) wk10S_ext wk10D (by kernel_rfl) ?_ ?_
  · intro i o hi ho a' W hB hsz hold haft
    match i, hi with
    | 0, _ => exact wk10_op0 ((hold 1 (by kernel_rfl)).trans o1) q0 q1 hB ho
    | 1, _ => exact wk10_op1 hB ho
    | 2, _ => exact wk10_op2 hB ho
    | 3, _ => exact wk10_op3 haft ho
    | 4, _ => exact wk10_op4 hcall hB haft ho
    | 5, _ => exact wk10_op5 haft ho
    | m + 6, h => exact absurd h (by omega)
  · intro a1 W hB hsz hdf hold hS
    obtain ⟨v1, g1⟩ : ∃ v, v = a1.eval (.tmp 75) := ⟨_, rfl⟩
    obtain ⟨v2, g2⟩ : ∃ v, v = a1.eval (.tmp 76) := ⟨_, rfl⟩
    obtain ⟨v3, g3⟩ : ∃ v, v = a1.eval (.tmp 77) := ⟨_, rfl⟩
    obtain ⟨v4, g4⟩ : ∃ v, v = a1.eval (.tmp 78) := ⟨_, rfl⟩
    have hall : ∀ z, z ∈ ([(74, shV gg hq), (75, v1), (76, v2), (77, v3), (78, v4), (17, .int .i64 16)] : List (Tmp × Value)) → z.1 < a.tmps.size ∧ a1.eval (.tmp z.1) = z.2 := by
      intro z hz
      rw [hlen]
      simp only [List.mem_cons, List.not_mem_nil, or_false] at hz
      rcases hz with rfl | rfl | rfl | rfl | rfl | rfl
      · exact ⟨(show (74 : Nat) < 223 by omega), hS 0 (by omega)⟩
      · exact ⟨(show (75 : Nat) < 223 by omega), g1.symm⟩
      · exact ⟨(show (76 : Nat) < 223 by omega), g2.symm⟩
      · exact ⟨(show (77 : Nat) < 223 by omega), g3.symm⟩
      · exact ⟨(show (78 : Nat) < 223 by omega), g4.symm⟩
      · exact ⟨(show (17 : Nat) < 223 by omega), hS 5 (by omega)⟩
    have ha := act_puts hsz hdf hall (fun t ht => hold t (all_ne_of (l := [(74, shV gg hq), (75, v1), (76, v2), (77, v3), (78, v4), (17, .int .i64 16)]) (by kernel_rfl) ht))
    rw [ha]
    exact K W v1 v2 v3 v4 hB (by rw [g1]; exact hS 1 (by omega)) (by rw [g2]; exact hS 2 (by omega)) (by rw [g3]; exact hS 3 (by omega)) (by rw [g4]; exact hS 4 (by omega))
end

/-- The slots of region 19 of function 16. -/
def wk19D (i : Nat) : Tmp := if i = 0 then 165 else if i = 1 then 166 else if i = 2 then 167 else if i = 3 then 168 else if i = 4 then 169 else if i = 5 then 170 else if i = 6 then 171 else if i = 7 then 172 else if i = 8 then 173 else if i = 9 then 174 else if i = 10 then 175 else if i = 11 then 176 else if i = 12 then 177 else if i = 13 then 178 else if i = 14 then 179 else if i = 15 then 180 else if i = 16 then 181 else if i = 17 then 182 else if i = 18 then 183 else if i = 19 then 184 else if i = 20 then 185 else if i = 21 then 186 else if i = 22 then 187 else if i = 23 then 188 else if i = 24 then 189 else if i = 25 then 190 else if i = 26 then 191 else if i = 27 then 192 else if i = 28 then 193 else if i = 29 then 194 else if i = 30 then 195 else if i = 31 then 196 else if i = 32 then 197 else if i = 33 then 198 else if i = 34 then 199 else if i = 35 then 200 else if i = 36 then 201 else if i = 37 then 202 else if i = 38 then 203 else if i = 39 then 204 else if i = 40 then 205 else if i = 41 then 206 else if i = 42 then 207 else if i = 43 then 208 else if i = 44 then 209 else if i = 45 then 210 else if i = 46 then 211 else if i = 47 then 212 else if i = 48 then 213 else if i = 49 then 214 else if i = 50 then 215 else if i = 51 then 216 else if i = 52 then 217 else if i = 53 then 218 else if i = 54 then 219 else if i = 55 then 220 else if i = 56 then 221 else if i = 57 then 222 else 0
/-- What each operation yields. -/
def wk19S (_p gg hq : Nat) (A3 : Option Addr) (c3 : Nat) (A7 : Option Addr) (c7 : Nat) (A9 : Option Addr) (c9 bg : Nat) (Aa : Option Addr) (ca xg cx : Nat) (ix : Nat) (v : Value) (W : World) : Prop :=
  match ix with
  | 0 => v = .slice A3 3 c3
  | 1 => ∃ b, v = .slice (some ⟨b, 0, none⟩) 3 3 ∧ W.heap[b]? = some (.cells #[.int .i64 0, .int .i64 1, .int .i64 3] 3 (0, 0))
  | 2 => v = .bool true
  | 3 => v = .bool true
  | 4 => v = .slice A7 5 c7
  | 5 => ∃ b, v = .slice (some ⟨b, 0, none⟩) 5 5 ∧ W.heap[b]? = some (.cells #[.int .i64 5, .int .i64 6, .int .i64 20, .int .i64 21, .int .i64 22] 2 (0, 0))
  | 6 => v = .bool true
  | 7 => v = .bool true
  | 8 => v = .bool true
  | 9 => v = .slice A9 1 c9
  | 10 => ∃ b, v = .slice (some ⟨b, 0, none⟩) 1 1 ∧ W.heap[b]? = some (.cells #[.int .i64 2] 3 (0, 0))
  | 11 => v = .bool true
  | 12 => v = .bool true
  | 13 => v = .bool true
  | 14 => v = .slice (some ⟨bg, 0, none⟩) 2 2
  | 15 => v = .int .i64 2
  | 16 => v = .bool true
  | 17 => v = .bool true
  | 18 => v = .bool true
  | 19 => v = shV gg hq
  | 20 => v = .slice (some ⟨bg, 0, none⟩) 2 2
  | 21 => v = .int .i64 0
  | 22 => v = .bool true
  | 23 => v = .bool true
  | 24 => v = .bool true
  | 25 => v = .int .i64 5
  | 26 => v = .bool true
  | 27 => v = .bool true
  | 28 => v = .bool true
  | 29 => v = .slice Aa 2 ca
  | 30 => ∃ b, v = .slice (some ⟨b, 0, none⟩) 2 2 ∧ W.heap[b]? = some (.cells #[.int .i64 0, .int .i64 4] 3 (0, 0))
  | 31 => v = .bool true
  | 32 => v = .bool true
  | 33 => v = .bool true
  | 34 => v = .int .i64 1
  | 35 => v = .bool true
  | 36 => v = .bool true
  | 37 => v = .bool true
  | 38 => v = .int .i64 15
  | 39 => v = .bool true
  | 40 => v = .bool true
  | 41 => v = .bool true
  | 42 => v = .int .i64 30
  | 43 => v = .bool true
  | 44 => v = .bool true
  | 45 => v = .bool true
  | 46 => v = .slice (some ⟨xg, 0, none⟩) 1 cx
  | 47 => v = .int .i64 1
  | 48 => v = .bool true
  | 49 => v = .bool true
  | 50 => v = .bool true
  | 51 => v = .slice (some ⟨xg, 0, none⟩) 1 cx
  | 52 => v = .pointer (some ⟨xg, 0, none⟩)
  | 53 => v = .agg #[.int .i64 10, .int .i64 5, .int .i64 5]
  | 54 => v = .agg #[.int .i64 5, .int .i64 5]
  | 55 => v = .agg #[.int .i64 10, .int .i64 5, .int .i64 5]
  | 56 => v = .bool true
  | 57 => v = .bool true
  | 58 => v = .bool true
  | _ => True
noncomputable def wk19Reg : Array Oper := (Try.f16.body.bind (regionOf · 19)).getD #[]
theorem wk19S_ext {p gg hq : Nat} {A3 : Option Addr} {c3 : Nat} {A7 : Option Addr} {c7 : Nat} {A9 : Option Addr} {c9 bg : Nat} {Aa : Option Addr} {ca xg cx : Nat} : ∀ (i : Nat) (v : Value) (W W' : World), wk19S p gg hq A3 c3 A7 c7 A9 c9 bg Aa ca xg cx i v W → Below W.heap.size W W' → wk19S p gg hq A3 c3 A7 c7 A9 c9 bg Aa ca xg cx i v W' := by
  intro i v W W' h e
  match i with
  | 0 => exact h
  | 1 => (obtain ⟨b, h1, h2⟩ := h; exact ⟨b, h1, row_ext h2 e⟩)
  | 2 => exact h
  | 3 => exact h
  | 4 => exact h
  | 5 => (obtain ⟨b, h1, h2⟩ := h; exact ⟨b, h1, row_ext h2 e⟩)
  | 6 => exact h
  | 7 => exact h
  | 8 => exact h
  | 9 => exact h
  | 10 => (obtain ⟨b, h1, h2⟩ := h; exact ⟨b, h1, row_ext h2 e⟩)
  | 11 => exact h
  | 12 => exact h
  | 13 => exact h
  | 14 => exact h
  | 15 => exact h
  | 16 => exact h
  | 17 => exact h
  | 18 => exact h
  | 19 => exact h
  | 20 => exact h
  | 21 => exact h
  | 22 => exact h
  | 23 => exact h
  | 24 => exact h
  | 25 => exact h
  | 26 => exact h
  | 27 => exact h
  | 28 => exact h
  | 29 => exact h
  | 30 => (obtain ⟨b, h1, h2⟩ := h; exact ⟨b, h1, row_ext h2 e⟩)
  | 31 => exact h
  | 32 => exact h
  | 33 => exact h
  | 34 => exact h
  | 35 => exact h
  | 36 => exact h
  | 37 => exact h
  | 38 => exact h
  | 39 => exact h
  | 40 => exact h
  | 41 => exact h
  | 42 => exact h
  | 43 => exact h
  | 44 => exact h
  | 45 => exact h
  | 46 => exact h
  | 47 => exact h
  | 48 => exact h
  | 49 => exact h
  | 50 => exact h
  | 51 => exact h
  | 52 => exact h
  | 53 => exact h
  | 54 => exact h
  | 55 => exact h
  | 56 => exact h
  | 57 => exact h
  | 58 => exact h
  | k + 59 => exact trivial
def wk19Ok (p gg hq : Nat) (A3 : Option Addr) (c3 : Nat) (A7 : Option Addr) (c7 : Nat) (A9 : Option Addr) (c9 bg : Nat) (Aa : Option Addr) (ca xg cx : Nat) (Q : Exit → Act → World → Prop) (a : Act) (W : World) (ix : Nat) (o : Oper) : Prop :=
  (∀ j b, o.guard = some (j, b) → a.eval (.tmp (wk19D j)) = .bool b) ∧ o.wp Try.prog a W (fun a'' W' => ∃ v, a'' = a.put o.dst v ∧ wk19S p gg hq A3 c3 A7 c7 A9 c9 bg Aa ca xg cx ix v W' ∧ Below W.heap.size W W') Q
section
variable {p gg hq : Nat} {A3 : Option Addr} {c3 : Nat} {A7 : Option Addr} {c7 : Nat} {A9 : Option Addr} {c9 bg : Nat} {Aa : Option Addr} {ca xg cx : Nat} {Q : Exit → Act → World → Prop} {a : Act} {V W : World} {o : Oper}
set_option maxHeartbeats 1000000 in
theorem wk19_op0 (o3 : a.eval (.tmp 3) = .slice A3 3 c3) (ho : wk19Reg[0]? = some o) : wk19Ok p gg hq A3 c3 A7 c7 A9 c9 bg Aa ca xg cx Q a W 0 o := by
  have hop := op_at ho (·.op) (x := Op.move (Operand.tmp 3)) (by kernel_rfl)
  have hgd := op_at ho (·.guard) (x := none) (by kernel_rfl)
  refine ⟨fun j b h => (by rw [hgd] at h; cases h), ?_⟩
  exact specs_value (R := fun v W => wk19S p gg hq A3 c3 A7 c7 A9 c9 bg Aa ca xg cx 0 v W) (v := .slice A3 3 c3) (by simp [execOp, hop, go_sem, ev o3]) rfl (Ext.refl W)
set_option maxHeartbeats 1000000 in
theorem wk19_op1  (ho : wk19Reg[1]? = some o) : wk19Ok p gg hq A3 c3 A7 c7 A9 c9 bg Aa ca xg cx Q a W 1 o := by
  have hop := op_at ho (·.op) (x := Op.buildSlice 30 3 #[(0, Operand.const (Value.int IntKind.i64 0)), (1, Operand.const (Value.int IntKind.i64 1)), (2, Operand.const (Value.int IntKind.i64 3))]) (by kernel_rfl)
  have hgd := op_at ho (·.guard) (x := none) (by kernel_rfl)
  refine ⟨fun j b h => (by rw [hgd] at h; cases h), ?_⟩
  exact specs_value (R := fun v W => wk19S p gg hq A3 c3 A7 c7 A9 c9 bg Aa ca xg cx 1 v W) (v := .slice (some ⟨W.heap.size, 0, none⟩) 3 3) (W' := W.alloc (.cells #[.int .i64 0, .int .i64 1, .int .i64 3] 3)) (by simp [execOp, hop, go_sem]) ⟨_, rfl, row_last _ _ _ rfl⟩ (ext_alloc _ _)
set_option maxHeartbeats 1000000 in
theorem wk19_op2 (hk1 : ∀ W b, Ext V W → W.heap[b]? = some (.cells #[.int .i64 0, .int .i64 1, .int .i64 3] 3 (0, 0)) → Calls Try.prog 25 #[.slice A3 3 c3, .slice (some ⟨b, 0, none⟩) 3 3] W fun e w' => e = .returned (.bool true) ∧ Ext W w') (hB : Ext V W) (haft : ∀ j, (o.after.any fun e => decide (e.on = j) && Region.binds .any e) = true → wk19S p gg hq A3 c3 A7 c7 A9 c9 bg Aa ca xg cx j (a.eval (.tmp (wk19D j))) W) (ho : wk19Reg[2]? = some o) : wk19Ok p gg hq A3 c3 A7 c7 A9 c9 bg Aa ca xg cx Q a W 2 o := by
  have hop := op_at ho (·.op) (x := Op.call { callee := Callee.value (Operand.func 25), args := #[Operand.tmp 165, Operand.tmp 166], argTypes := #[30, 30] }) (by kernel_rfl)
  have hgd := op_at ho (·.guard) (x := none) (by kernel_rfl)
  have e0 : a.eval (.tmp 165) = .slice A3 3 c3 := haft 0 (op_at ho (fun o => o.after.any fun e => decide (e.on = 0) && Region.binds .any e) (x := true) (by kernel_rfl))
  have e1 : wk19S p gg hq A3 c3 A7 c7 A9 c9 bg Aa ca xg cx 1 (a.eval (.tmp 166)) W := haft 1 (op_at ho (fun o => o.after.any fun e => decide (e.on = 1) && Region.binds .any e) (x := true) (by kernel_rfl))
  refine ⟨fun j b h => (by rw [hgd] at h; cases h), ?_⟩
  have hB' := hB
  obtain ⟨b, hv, hr⟩ := e1
  refine specs_call (R := fun v W => wk19S p gg hq A3 c3 A7 c7 A9 c9 bg Aa ca xg cx 2 v W) (f := 25) (args := #[.slice A3 3 c3, .slice (some ⟨b, 0, none⟩) 3 3]) (by simp [execOp, hop, go_sem, ev e0, ev hv]) ((hk1 W b hB hr).mono ?_)
  rintro e w' ⟨rfl, h3⟩
  exact ⟨_, rfl, rfl, h3⟩
set_option maxHeartbeats 1000000 in
theorem wk19_op3 (haft : ∀ j, (o.after.any fun e => decide (e.on = j) && Region.binds .any e) = true → wk19S p gg hq A3 c3 A7 c7 A9 c9 bg Aa ca xg cx j (a.eval (.tmp (wk19D j))) W) (ho : wk19Reg[3]? = some o) : wk19Ok p gg hq A3 c3 A7 c7 A9 c9 bg Aa ca xg cx Q a W 3 o := by
  have hop := op_at ho (·.op) (x := Op.move (Operand.tmp 167)) (by kernel_rfl)
  have hgd := op_at ho (·.guard) (x := none) (by kernel_rfl)
  have e2 : wk19S p gg hq A3 c3 A7 c7 A9 c9 bg Aa ca xg cx 2 (a.eval (.tmp 167)) W := haft 2 (op_at ho (fun o => o.after.any fun e => decide (e.on = 2) && Region.binds .any e) (x := true) (by kernel_rfl))
  refine ⟨fun j b h => (by rw [hgd] at h; cases h), ?_⟩
  have eR : a.eval (.tmp 167) = .bool true := e2
  exact specs_value (R := fun v W => wk19S p gg hq A3 c3 A7 c7 A9 c9 bg Aa ca xg cx 3 v W) (v := .bool true) (by simp [execOp, hop, go_sem, ev eR]) rfl (Ext.refl W)
set_option maxHeartbeats 1000000 in
theorem wk19_op4 (o7 : a.eval (.tmp 7) = .slice A7 5 c7) (haft : ∀ j, (o.after.any fun e => decide (e.on = j) && Region.binds .any e) = true → wk19S p gg hq A3 c3 A7 c7 A9 c9 bg Aa ca xg cx j (a.eval (.tmp (wk19D j))) W) (ho : wk19Reg[4]? = some o) : wk19Ok p gg hq A3 c3 A7 c7 A9 c9 bg Aa ca xg cx Q a W 4 o := by
  have hop := op_at ho (·.op) (x := Op.move (Operand.tmp 7)) (by kernel_rfl)
  have hgd := op_at ho (·.guard) (x := some (3, true)) (by kernel_rfl)
  have e3 : a.eval (.tmp 168) = .bool true := haft 3 (op_at ho (fun o => o.after.any fun e => decide (e.on = 3) && Region.binds .any e) (x := true) (by kernel_rfl))
  refine ⟨fun j b h => (by rw [hgd] at h; cases h; exact e3), ?_⟩
  exact specs_value (R := fun v W => wk19S p gg hq A3 c3 A7 c7 A9 c9 bg Aa ca xg cx 4 v W) (v := .slice A7 5 c7) (by simp [execOp, hop, go_sem, ev o7]) rfl (Ext.refl W)
set_option maxHeartbeats 1000000 in
theorem wk19_op5 (haft : ∀ j, (o.after.any fun e => decide (e.on = j) && Region.binds .any e) = true → wk19S p gg hq A3 c3 A7 c7 A9 c9 bg Aa ca xg cx j (a.eval (.tmp (wk19D j))) W) (ho : wk19Reg[5]? = some o) : wk19Ok p gg hq A3 c3 A7 c7 A9 c9 bg Aa ca xg cx Q a W 5 o := by
  have hop := op_at ho (·.op) (x := Op.buildSlice 34 5 #[(0, Operand.const (Value.int IntKind.i64 5)), (1, Operand.const (Value.int IntKind.i64 6)), (2, Operand.const (Value.int IntKind.i64 20)), (3, Operand.const (Value.int IntKind.i64 21)), (4, Operand.const (Value.int IntKind.i64 22))]) (by kernel_rfl)
  have hgd := op_at ho (·.guard) (x := some (3, true)) (by kernel_rfl)
  have e3 : a.eval (.tmp 168) = .bool true := haft 3 (op_at ho (fun o => o.after.any fun e => decide (e.on = 3) && Region.binds .any e) (x := true) (by kernel_rfl))
  refine ⟨fun j b h => (by rw [hgd] at h; cases h; exact e3), ?_⟩
  exact specs_value (R := fun v W => wk19S p gg hq A3 c3 A7 c7 A9 c9 bg Aa ca xg cx 5 v W) (v := .slice (some ⟨W.heap.size, 0, none⟩) 5 5) (W' := W.alloc (.cells #[.int .i64 5, .int .i64 6, .int .i64 20, .int .i64 21, .int .i64 22] 2)) (by simp [execOp, hop, go_sem]) ⟨_, rfl, row_last _ _ _ rfl⟩ (ext_alloc _ _)
set_option maxHeartbeats 1000000 in
theorem wk19_op6 (hk2 : ∀ W b, Ext V W → W.heap[b]? = some (.cells #[.int .i64 5, .int .i64 6, .int .i64 20, .int .i64 21, .int .i64 22] 2 (0, 0)) → Calls Try.prog 26 #[.slice A7 5 c7, .slice (some ⟨b, 0, none⟩) 5 5] W fun e w' => e = .returned (.bool true) ∧ Ext W w') (hB : Ext V W) (haft : ∀ j, (o.after.any fun e => decide (e.on = j) && Region.binds .any e) = true → wk19S p gg hq A3 c3 A7 c7 A9 c9 bg Aa ca xg cx j (a.eval (.tmp (wk19D j))) W) (ho : wk19Reg[6]? = some o) : wk19Ok p gg hq A3 c3 A7 c7 A9 c9 bg Aa ca xg cx Q a W 6 o := by
  have hop := op_at ho (·.op) (x := Op.call { callee := Callee.value (Operand.func 26), args := #[Operand.tmp 169, Operand.tmp 170], argTypes := #[34, 34] }) (by kernel_rfl)
  have hgd := op_at ho (·.guard) (x := some (3, true)) (by kernel_rfl)
  have e3 : a.eval (.tmp 168) = .bool true := haft 3 (op_at ho (fun o => o.after.any fun e => decide (e.on = 3) && Region.binds .any e) (x := true) (by kernel_rfl))
  have e4 : a.eval (.tmp 169) = .slice A7 5 c7 := haft 4 (op_at ho (fun o => o.after.any fun e => decide (e.on = 4) && Region.binds .any e) (x := true) (by kernel_rfl))
  have e5 : wk19S p gg hq A3 c3 A7 c7 A9 c9 bg Aa ca xg cx 5 (a.eval (.tmp 170)) W := haft 5 (op_at ho (fun o => o.after.any fun e => decide (e.on = 5) && Region.binds .any e) (x := true) (by kernel_rfl))
  refine ⟨fun j b h => (by rw [hgd] at h; cases h; exact e3), ?_⟩
  have hB' := hB
  obtain ⟨b, hv, hr⟩ := e5
  refine specs_call (R := fun v W => wk19S p gg hq A3 c3 A7 c7 A9 c9 bg Aa ca xg cx 6 v W) (f := 26) (args := #[.slice A7 5 c7, .slice (some ⟨b, 0, none⟩) 5 5]) (by simp [execOp, hop, go_sem, ev e4, ev hv]) ((hk2 W b hB hr).mono ?_)
  rintro e w' ⟨rfl, h3⟩
  exact ⟨_, rfl, rfl, h3⟩
set_option maxHeartbeats 1000000 in
theorem wk19_op7 (haft : ∀ j, (o.after.any fun e => decide (e.on = j) && Region.binds .any e) = true → wk19S p gg hq A3 c3 A7 c7 A9 c9 bg Aa ca xg cx j (a.eval (.tmp (wk19D j))) W) (ho : wk19Reg[7]? = some o) : wk19Ok p gg hq A3 c3 A7 c7 A9 c9 bg Aa ca xg cx Q a W 7 o := by
  have hop := op_at ho (·.op) (x := Op.pick (Operand.tmp 168) (Operand.tmp 171) (Operand.const (Value.bool false))) (by kernel_rfl)
  have hgd := op_at ho (·.guard) (x := none) (by kernel_rfl)
  have e3 : a.eval (.tmp 168) = .bool true := haft 3 (op_at ho (fun o => o.after.any fun e => decide (e.on = 3) && Region.binds .any e) (x := true) (by kernel_rfl))
  have e6 : wk19S p gg hq A3 c3 A7 c7 A9 c9 bg Aa ca xg cx 6 (a.eval (.tmp 171)) W := haft 6 (op_at ho (fun o => o.after.any fun e => decide (e.on = 6) && Region.binds .any e) (x := true) (by kernel_rfl))
  refine ⟨fun j b h => (by rw [hgd] at h; cases h), ?_⟩
  have eR : a.eval (.tmp 171) = .bool true := e6
  exact specs_value (R := fun v W => wk19S p gg hq A3 c3 A7 c7 A9 c9 bg Aa ca xg cx 7 v W) (v := .bool true) (by simp [execOp, hop, go_sem, ev e3, ev eR]) rfl (Ext.refl W)
set_option maxHeartbeats 1000000 in
theorem wk19_op8 (haft : ∀ j, (o.after.any fun e => decide (e.on = j) && Region.binds .any e) = true → wk19S p gg hq A3 c3 A7 c7 A9 c9 bg Aa ca xg cx j (a.eval (.tmp (wk19D j))) W) (ho : wk19Reg[8]? = some o) : wk19Ok p gg hq A3 c3 A7 c7 A9 c9 bg Aa ca xg cx Q a W 8 o := by
  have hop := op_at ho (·.op) (x := Op.move (Operand.tmp 172)) (by kernel_rfl)
  have hgd := op_at ho (·.guard) (x := none) (by kernel_rfl)
  have e7 : a.eval (.tmp 172) = .bool true := haft 7 (op_at ho (fun o => o.after.any fun e => decide (e.on = 7) && Region.binds .any e) (x := true) (by kernel_rfl))
  refine ⟨fun j b h => (by rw [hgd] at h; cases h), ?_⟩
  exact specs_value (R := fun v W => wk19S p gg hq A3 c3 A7 c7 A9 c9 bg Aa ca xg cx 8 v W) (v := .bool true) (by simp [execOp, hop, go_sem, ev e7]) rfl (Ext.refl W)
set_option maxHeartbeats 1000000 in
theorem wk19_op9 (o9 : a.eval (.tmp 9) = .slice A9 1 c9) (haft : ∀ j, (o.after.any fun e => decide (e.on = j) && Region.binds .any e) = true → wk19S p gg hq A3 c3 A7 c7 A9 c9 bg Aa ca xg cx j (a.eval (.tmp (wk19D j))) W) (ho : wk19Reg[9]? = some o) : wk19Ok p gg hq A3 c3 A7 c7 A9 c9 bg Aa ca xg cx Q a W 9 o := by
  have hop := op_at ho (·.op) (x := Op.move (Operand.tmp 9)) (by kernel_rfl)
  have hgd := op_at ho (·.guard) (x := some (8, true)) (by kernel_rfl)
  have e8 : a.eval (.tmp 173) = .bool true := haft 8 (op_at ho (fun o => o.after.any fun e => decide (e.on = 8) && Region.binds .any e) (x := true) (by kernel_rfl))
  refine ⟨fun j b h => (by rw [hgd] at h; cases h; exact e8), ?_⟩
  exact specs_value (R := fun v W => wk19S p gg hq A3 c3 A7 c7 A9 c9 bg Aa ca xg cx 9 v W) (v := .slice A9 1 c9) (by simp [execOp, hop, go_sem, ev o9]) rfl (Ext.refl W)
set_option maxHeartbeats 1000000 in
theorem wk19_op10 (haft : ∀ j, (o.after.any fun e => decide (e.on = j) && Region.binds .any e) = true → wk19S p gg hq A3 c3 A7 c7 A9 c9 bg Aa ca xg cx j (a.eval (.tmp (wk19D j))) W) (ho : wk19Reg[10]? = some o) : wk19Ok p gg hq A3 c3 A7 c7 A9 c9 bg Aa ca xg cx Q a W 10 o := by
  have hop := op_at ho (·.op) (x := Op.buildSlice 30 1 #[(0, Operand.const (Value.int IntKind.i64 2))]) (by kernel_rfl)
  have hgd := op_at ho (·.guard) (x := some (8, true)) (by kernel_rfl)
  have e8 : a.eval (.tmp 173) = .bool true := haft 8 (op_at ho (fun o => o.after.any fun e => decide (e.on = 8) && Region.binds .any e) (x := true) (by kernel_rfl))
  refine ⟨fun j b h => (by rw [hgd] at h; cases h; exact e8), ?_⟩
  exact specs_value (R := fun v W => wk19S p gg hq A3 c3 A7 c7 A9 c9 bg Aa ca xg cx 10 v W) (v := .slice (some ⟨W.heap.size, 0, none⟩) 1 1) (W' := W.alloc (.cells #[.int .i64 2] 3)) (by simp [execOp, hop, go_sem]) ⟨_, rfl, row_last _ _ _ rfl⟩ (ext_alloc _ _)
set_option maxHeartbeats 1000000 in
theorem wk19_op11 (hk3 : ∀ W b, Ext V W → W.heap[b]? = some (.cells #[.int .i64 2] 3 (0, 0)) → Calls Try.prog 25 #[.slice A9 1 c9, .slice (some ⟨b, 0, none⟩) 1 1] W fun e w' => e = .returned (.bool true) ∧ Ext W w') (hB : Ext V W) (haft : ∀ j, (o.after.any fun e => decide (e.on = j) && Region.binds .any e) = true → wk19S p gg hq A3 c3 A7 c7 A9 c9 bg Aa ca xg cx j (a.eval (.tmp (wk19D j))) W) (ho : wk19Reg[11]? = some o) : wk19Ok p gg hq A3 c3 A7 c7 A9 c9 bg Aa ca xg cx Q a W 11 o := by
  have hop := op_at ho (·.op) (x := Op.call { callee := Callee.value (Operand.func 25), args := #[Operand.tmp 174, Operand.tmp 175], argTypes := #[30, 30] }) (by kernel_rfl)
  have hgd := op_at ho (·.guard) (x := some (8, true)) (by kernel_rfl)
  have e8 : a.eval (.tmp 173) = .bool true := haft 8 (op_at ho (fun o => o.after.any fun e => decide (e.on = 8) && Region.binds .any e) (x := true) (by kernel_rfl))
  have e9 : a.eval (.tmp 174) = .slice A9 1 c9 := haft 9 (op_at ho (fun o => o.after.any fun e => decide (e.on = 9) && Region.binds .any e) (x := true) (by kernel_rfl))
  have e10 : wk19S p gg hq A3 c3 A7 c7 A9 c9 bg Aa ca xg cx 10 (a.eval (.tmp 175)) W := haft 10 (op_at ho (fun o => o.after.any fun e => decide (e.on = 10) && Region.binds .any e) (x := true) (by kernel_rfl))
  refine ⟨fun j b h => (by rw [hgd] at h; cases h; exact e8), ?_⟩
  have hB' := hB
  obtain ⟨b, hv, hr⟩ := e10
  refine specs_call (R := fun v W => wk19S p gg hq A3 c3 A7 c7 A9 c9 bg Aa ca xg cx 11 v W) (f := 25) (args := #[.slice A9 1 c9, .slice (some ⟨b, 0, none⟩) 1 1]) (by simp [execOp, hop, go_sem, ev e9, ev hv]) ((hk3 W b hB hr).mono ?_)
  rintro e w' ⟨rfl, h3⟩
  exact ⟨_, rfl, rfl, h3⟩
set_option maxHeartbeats 1000000 in
theorem wk19_op12 (haft : ∀ j, (o.after.any fun e => decide (e.on = j) && Region.binds .any e) = true → wk19S p gg hq A3 c3 A7 c7 A9 c9 bg Aa ca xg cx j (a.eval (.tmp (wk19D j))) W) (ho : wk19Reg[12]? = some o) : wk19Ok p gg hq A3 c3 A7 c7 A9 c9 bg Aa ca xg cx Q a W 12 o := by
  have hop := op_at ho (·.op) (x := Op.pick (Operand.tmp 173) (Operand.tmp 176) (Operand.const (Value.bool false))) (by kernel_rfl)
  have hgd := op_at ho (·.guard) (x := none) (by kernel_rfl)
  have e8 : a.eval (.tmp 173) = .bool true := haft 8 (op_at ho (fun o => o.after.any fun e => decide (e.on = 8) && Region.binds .any e) (x := true) (by kernel_rfl))
  have e11 : wk19S p gg hq A3 c3 A7 c7 A9 c9 bg Aa ca xg cx 11 (a.eval (.tmp 176)) W := haft 11 (op_at ho (fun o => o.after.any fun e => decide (e.on = 11) && Region.binds .any e) (x := true) (by kernel_rfl))
  refine ⟨fun j b h => (by rw [hgd] at h; cases h), ?_⟩
  have eR : a.eval (.tmp 176) = .bool true := e11
  exact specs_value (R := fun v W => wk19S p gg hq A3 c3 A7 c7 A9 c9 bg Aa ca xg cx 12 v W) (v := .bool true) (by simp [execOp, hop, go_sem, ev e8, ev eR]) rfl (Ext.refl W)
set_option maxHeartbeats 1000000 in
theorem wk19_op13 (haft : ∀ j, (o.after.any fun e => decide (e.on = j) && Region.binds .any e) = true → wk19S p gg hq A3 c3 A7 c7 A9 c9 bg Aa ca xg cx j (a.eval (.tmp (wk19D j))) W) (ho : wk19Reg[13]? = some o) : wk19Ok p gg hq A3 c3 A7 c7 A9 c9 bg Aa ca xg cx Q a W 13 o := by
  have hop := op_at ho (·.op) (x := Op.move (Operand.tmp 177)) (by kernel_rfl)
  have hgd := op_at ho (·.guard) (x := none) (by kernel_rfl)
  have e12 : a.eval (.tmp 177) = .bool true := haft 12 (op_at ho (fun o => o.after.any fun e => decide (e.on = 12) && Region.binds .any e) (x := true) (by kernel_rfl))
  refine ⟨fun j b h => (by rw [hgd] at h; cases h), ?_⟩
  exact specs_value (R := fun v W => wk19S p gg hq A3 c3 A7 c7 A9 c9 bg Aa ca xg cx 13 v W) (v := .bool true) (by simp [execOp, hop, go_sem, ev e12]) rfl (Ext.refl W)
set_option maxHeartbeats 1000000 in
theorem wk19_op14 (o11 : a.eval (.tmp 11) = .slice (some ⟨bg, 0, none⟩) 2 2) (haft : ∀ j, (o.after.any fun e => decide (e.on = j) && Region.binds .any e) = true → wk19S p gg hq A3 c3 A7 c7 A9 c9 bg Aa ca xg cx j (a.eval (.tmp (wk19D j))) W) (ho : wk19Reg[14]? = some o) : wk19Ok p gg hq A3 c3 A7 c7 A9 c9 bg Aa ca xg cx Q a W 14 o := by
  have hop := op_at ho (·.op) (x := Op.move (Operand.tmp 11)) (by kernel_rfl)
  have hgd := op_at ho (·.guard) (x := some (13, true)) (by kernel_rfl)
  have e13 : a.eval (.tmp 178) = .bool true := haft 13 (op_at ho (fun o => o.after.any fun e => decide (e.on = 13) && Region.binds .any e) (x := true) (by kernel_rfl))
  refine ⟨fun j b h => (by rw [hgd] at h; cases h; exact e13), ?_⟩
  exact specs_value (R := fun v W => wk19S p gg hq A3 c3 A7 c7 A9 c9 bg Aa ca xg cx 14 v W) (v := .slice (some ⟨bg, 0, none⟩) 2 2) (by simp [execOp, hop, go_sem, ev o11]) rfl (Ext.refl W)
set_option maxHeartbeats 1000000 in
theorem wk19_op15 (haft : ∀ j, (o.after.any fun e => decide (e.on = j) && Region.binds .any e) = true → wk19S p gg hq A3 c3 A7 c7 A9 c9 bg Aa ca xg cx j (a.eval (.tmp (wk19D j))) W) (ho : wk19Reg[15]? = some o) : wk19Ok p gg hq A3 c3 A7 c7 A9 c9 bg Aa ca xg cx Q a W 15 o := by
  have hop := op_at ho (·.op) (x := Op.call { callee := Callee.builtin Builtin.len, args := #[Operand.tmp 179], argTypes := #[54] }) (by kernel_rfl)
  have hgd := op_at ho (·.guard) (x := some (13, true)) (by kernel_rfl)
  have e13 : a.eval (.tmp 178) = .bool true := haft 13 (op_at ho (fun o => o.after.any fun e => decide (e.on = 13) && Region.binds .any e) (x := true) (by kernel_rfl))
  have e14 : a.eval (.tmp 179) = .slice (some ⟨bg, 0, none⟩) 2 2 := haft 14 (op_at ho (fun o => o.after.any fun e => decide (e.on = 14) && Region.binds .any e) (x := true) (by kernel_rfl))
  refine ⟨fun j b h => (by rw [hgd] at h; cases h; exact e13), ?_⟩
  exact specs_value (R := fun v W => wk19S p gg hq A3 c3 A7 c7 A9 c9 bg Aa ca xg cx 15 v W) (v := .int .i64 2) (by simp [execOp, hop, go_sem, ev e14]) rfl (Ext.refl W)
set_option maxHeartbeats 1000000 in
theorem wk19_op16 (haft : ∀ j, (o.after.any fun e => decide (e.on = j) && Region.binds .any e) = true → wk19S p gg hq A3 c3 A7 c7 A9 c9 bg Aa ca xg cx j (a.eval (.tmp (wk19D j))) W) (ho : wk19Reg[16]? = some o) : wk19Ok p gg hq A3 c3 A7 c7 A9 c9 bg Aa ca xg cx Q a W 16 o := by
  have hop := op_at ho (·.op) (x := Op.binOp BinOp.eql 3 (Operand.tmp 180) (Operand.const (Value.int IntKind.i64 2)) 3) (by kernel_rfl)
  have hgd := op_at ho (·.guard) (x := some (13, true)) (by kernel_rfl)
  have e13 : a.eval (.tmp 178) = .bool true := haft 13 (op_at ho (fun o => o.after.any fun e => decide (e.on = 13) && Region.binds .any e) (x := true) (by kernel_rfl))
  have e15 : a.eval (.tmp 180) = .int .i64 2 := haft 15 (op_at ho (fun o => o.after.any fun e => decide (e.on = 15) && Region.binds .any e) (x := true) (by kernel_rfl))
  refine ⟨fun j b h => (by rw [hgd] at h; cases h; exact e13), ?_⟩
  exact specs_value (R := fun v W => wk19S p gg hq A3 c3 A7 c7 A9 c9 bg Aa ca xg cx 16 v W) (v := .bool true) (by simp [execOp, hop, go_sem, ev e15]) rfl (Ext.refl W)
set_option maxHeartbeats 1000000 in
theorem wk19_op17 (haft : ∀ j, (o.after.any fun e => decide (e.on = j) && Region.binds .any e) = true → wk19S p gg hq A3 c3 A7 c7 A9 c9 bg Aa ca xg cx j (a.eval (.tmp (wk19D j))) W) (ho : wk19Reg[17]? = some o) : wk19Ok p gg hq A3 c3 A7 c7 A9 c9 bg Aa ca xg cx Q a W 17 o := by
  have hop := op_at ho (·.op) (x := Op.pick (Operand.tmp 178) (Operand.tmp 181) (Operand.const (Value.bool false))) (by kernel_rfl)
  have hgd := op_at ho (·.guard) (x := none) (by kernel_rfl)
  have e13 : a.eval (.tmp 178) = .bool true := haft 13 (op_at ho (fun o => o.after.any fun e => decide (e.on = 13) && Region.binds .any e) (x := true) (by kernel_rfl))
  have e16 : a.eval (.tmp 181) = .bool true := haft 16 (op_at ho (fun o => o.after.any fun e => decide (e.on = 16) && Region.binds .any e) (x := true) (by kernel_rfl))
  refine ⟨fun j b h => (by rw [hgd] at h; cases h), ?_⟩
  exact specs_value (R := fun v W => wk19S p gg hq A3 c3 A7 c7 A9 c9 bg Aa ca xg cx 17 v W) (v := .bool true) (by simp [execOp, hop, go_sem, ev e13, ev e16]) rfl (Ext.refl W)
set_option maxHeartbeats 1000000 in
theorem wk19_op18 (haft : ∀ j, (o.after.any fun e => decide (e.on = j) && Region.binds .any e) = true → wk19S p gg hq A3 c3 A7 c7 A9 c9 bg Aa ca xg cx j (a.eval (.tmp (wk19D j))) W) (ho : wk19Reg[18]? = some o) : wk19Ok p gg hq A3 c3 A7 c7 A9 c9 bg Aa ca xg cx Q a W 18 o := by
  have hop := op_at ho (·.op) (x := Op.move (Operand.tmp 182)) (by kernel_rfl)
  have hgd := op_at ho (·.guard) (x := none) (by kernel_rfl)
  have e17 : a.eval (.tmp 182) = .bool true := haft 17 (op_at ho (fun o => o.after.any fun e => decide (e.on = 17) && Region.binds .any e) (x := true) (by kernel_rfl))
  refine ⟨fun j b h => (by rw [hgd] at h; cases h), ?_⟩
  exact specs_value (R := fun v W => wk19S p gg hq A3 c3 A7 c7 A9 c9 bg Aa ca xg cx 18 v W) (v := .bool true) (by simp [execOp, hop, go_sem, ev e17]) rfl (Ext.refl W)
set_option maxHeartbeats 1000000 in
theorem wk19_op19 (o1 : a.eval (.tmp 1) = .pointer (some ⟨p, 0, none⟩)) (q0 : ∀ W, Ext V W → W.cell? ⟨p, 0, none⟩ = some (.slice (some ⟨gg, 0, none⟩) 2 2)) (q1 : ∀ W, Ext V W → W.cell? ⟨p, 1, none⟩ = some (.slice (some ⟨hq, 0, none⟩) 5 5)) (hB : Ext V W) (haft : ∀ j, (o.after.any fun e => decide (e.on = j) && Region.binds .any e) = true → wk19S p gg hq A3 c3 A7 c7 A9 c9 bg Aa ca xg cx j (a.eval (.tmp (wk19D j))) W) (ho : wk19Reg[19]? = some o) : wk19Ok p gg hq A3 c3 A7 c7 A9 c9 bg Aa ca xg cx Q a W 19 o := by
  have hop := op_at ho (·.op) (x := Op.load 25 (Operand.tmp 1)) (by kernel_rfl)
  have hgd := op_at ho (·.guard) (x := some (18, true)) (by kernel_rfl)
  have e18 : a.eval (.tmp 183) = .bool true := haft 18 (op_at ho (fun o => o.after.any fun e => decide (e.on = 18) && Region.binds .any e) (x := true) (by kernel_rfl))
  refine ⟨fun j b h => (by rw [hgd] at h; cases h; exact e18), ?_⟩
  have q0' := q0 W hB
  have q1' := q1 W hB
  exact specs_value (R := fun v W => wk19S p gg hq A3 c3 A7 c7 A9 c9 bg Aa ca xg cx 19 v W) (v := shV gg hq) (by simp [execOp, hop, go_sem, ev o1, q0', q1', shV]) rfl (Ext.refl W)
set_option maxHeartbeats 1000000 in
theorem wk19_op20 (o11 : a.eval (.tmp 11) = .slice (some ⟨bg, 0, none⟩) 2 2) (haft : ∀ j, (o.after.any fun e => decide (e.on = j) && Region.binds .any e) = true → wk19S p gg hq A3 c3 A7 c7 A9 c9 bg Aa ca xg cx j (a.eval (.tmp (wk19D j))) W) (ho : wk19Reg[20]? = some o) : wk19Ok p gg hq A3 c3 A7 c7 A9 c9 bg Aa ca xg cx Q a W 20 o := by
  have hop := op_at ho (·.op) (x := Op.move (Operand.tmp 11)) (by kernel_rfl)
  have hgd := op_at ho (·.guard) (x := some (18, true)) (by kernel_rfl)
  have e18 : a.eval (.tmp 183) = .bool true := haft 18 (op_at ho (fun o => o.after.any fun e => decide (e.on = 18) && Region.binds .any e) (x := true) (by kernel_rfl))
  refine ⟨fun j b h => (by rw [hgd] at h; cases h; exact e18), ?_⟩
  exact specs_value (R := fun v W => wk19S p gg hq A3 c3 A7 c7 A9 c9 bg Aa ca xg cx 20 v W) (v := .slice (some ⟨bg, 0, none⟩) 2 2) (by simp [execOp, hop, go_sem, ev o11]) rfl (Ext.refl W)
set_option maxHeartbeats 1000000 in
theorem wk19_op21 (hk4 : ∀ W, Ext V W → Calls Try.prog 42 #[shV gg hq, .slice (some ⟨bg, 0, none⟩) 2 2] W fun e w' => e = .returned (.int .i64 0) ∧ Ext W w') (hB : Ext V W) (haft : ∀ j, (o.after.any fun e => decide (e.on = j) && Region.binds .any e) = true → wk19S p gg hq A3 c3 A7 c7 A9 c9 bg Aa ca xg cx j (a.eval (.tmp (wk19D j))) W) (ho : wk19Reg[21]? = some o) : wk19Ok p gg hq A3 c3 A7 c7 A9 c9 bg Aa ca xg cx Q a W 21 o := by
  have hop := op_at ho (·.op) (x := Op.call { callee := Callee.value (Operand.func 42), args := #[Operand.tmp 184, Operand.tmp 185], argTypes := #[25, 54] }) (by kernel_rfl)
  have hgd := op_at ho (·.guard) (x := some (18, true)) (by kernel_rfl)
  have e18 : a.eval (.tmp 183) = .bool true := haft 18 (op_at ho (fun o => o.after.any fun e => decide (e.on = 18) && Region.binds .any e) (x := true) (by kernel_rfl))
  have e19 : a.eval (.tmp 184) = shV gg hq := haft 19 (op_at ho (fun o => o.after.any fun e => decide (e.on = 19) && Region.binds .any e) (x := true) (by kernel_rfl))
  have e20 : a.eval (.tmp 185) = .slice (some ⟨bg, 0, none⟩) 2 2 := haft 20 (op_at ho (fun o => o.after.any fun e => decide (e.on = 20) && Region.binds .any e) (x := true) (by kernel_rfl))
  refine ⟨fun j b h => (by rw [hgd] at h; cases h; exact e18), ?_⟩
  refine specs_call (R := fun v W => wk19S p gg hq A3 c3 A7 c7 A9 c9 bg Aa ca xg cx 21 v W) (f := 42) (args := #[shV gg hq, .slice (some ⟨bg, 0, none⟩) 2 2]) (by simp [execOp, hop, go_sem, ev e19, ev e20]) ((hk4 W hB).mono ?_)
  rintro e w' ⟨rfl, h3⟩
  exact ⟨_, rfl, rfl, h3⟩
set_option maxHeartbeats 1000000 in
theorem wk19_op22 (haft : ∀ j, (o.after.any fun e => decide (e.on = j) && Region.binds .any e) = true → wk19S p gg hq A3 c3 A7 c7 A9 c9 bg Aa ca xg cx j (a.eval (.tmp (wk19D j))) W) (ho : wk19Reg[22]? = some o) : wk19Ok p gg hq A3 c3 A7 c7 A9 c9 bg Aa ca xg cx Q a W 22 o := by
  have hop := op_at ho (·.op) (x := Op.binOp BinOp.eql 31 (Operand.tmp 186) (Operand.const (Value.int IntKind.i64 0)) 31) (by kernel_rfl)
  have hgd := op_at ho (·.guard) (x := some (18, true)) (by kernel_rfl)
  have e18 : a.eval (.tmp 183) = .bool true := haft 18 (op_at ho (fun o => o.after.any fun e => decide (e.on = 18) && Region.binds .any e) (x := true) (by kernel_rfl))
  have e21 : wk19S p gg hq A3 c3 A7 c7 A9 c9 bg Aa ca xg cx 21 (a.eval (.tmp 186)) W := haft 21 (op_at ho (fun o => o.after.any fun e => decide (e.on = 21) && Region.binds .any e) (x := true) (by kernel_rfl))
  refine ⟨fun j b h => (by rw [hgd] at h; cases h; exact e18), ?_⟩
  have eR : a.eval (.tmp 186) = .int .i64 0 := e21
  exact specs_value (R := fun v W => wk19S p gg hq A3 c3 A7 c7 A9 c9 bg Aa ca xg cx 22 v W) (v := .bool true) (by simp [execOp, hop, go_sem, ev eR]) rfl (Ext.refl W)
set_option maxHeartbeats 1000000 in
theorem wk19_op23 (haft : ∀ j, (o.after.any fun e => decide (e.on = j) && Region.binds .any e) = true → wk19S p gg hq A3 c3 A7 c7 A9 c9 bg Aa ca xg cx j (a.eval (.tmp (wk19D j))) W) (ho : wk19Reg[23]? = some o) : wk19Ok p gg hq A3 c3 A7 c7 A9 c9 bg Aa ca xg cx Q a W 23 o := by
  have hop := op_at ho (·.op) (x := Op.pick (Operand.tmp 183) (Operand.tmp 187) (Operand.const (Value.bool false))) (by kernel_rfl)
  have hgd := op_at ho (·.guard) (x := none) (by kernel_rfl)
  have e18 : a.eval (.tmp 183) = .bool true := haft 18 (op_at ho (fun o => o.after.any fun e => decide (e.on = 18) && Region.binds .any e) (x := true) (by kernel_rfl))
  have e22 : a.eval (.tmp 187) = .bool true := haft 22 (op_at ho (fun o => o.after.any fun e => decide (e.on = 22) && Region.binds .any e) (x := true) (by kernel_rfl))
  refine ⟨fun j b h => (by rw [hgd] at h; cases h), ?_⟩
  exact specs_value (R := fun v W => wk19S p gg hq A3 c3 A7 c7 A9 c9 bg Aa ca xg cx 23 v W) (v := .bool true) (by simp [execOp, hop, go_sem, ev e18, ev e22]) rfl (Ext.refl W)
set_option maxHeartbeats 1000000 in
theorem wk19_op24 (haft : ∀ j, (o.after.any fun e => decide (e.on = j) && Region.binds .any e) = true → wk19S p gg hq A3 c3 A7 c7 A9 c9 bg Aa ca xg cx j (a.eval (.tmp (wk19D j))) W) (ho : wk19Reg[24]? = some o) : wk19Ok p gg hq A3 c3 A7 c7 A9 c9 bg Aa ca xg cx Q a W 24 o := by
  have hop := op_at ho (·.op) (x := Op.move (Operand.tmp 188)) (by kernel_rfl)
  have hgd := op_at ho (·.guard) (x := none) (by kernel_rfl)
  have e23 : a.eval (.tmp 188) = .bool true := haft 23 (op_at ho (fun o => o.after.any fun e => decide (e.on = 23) && Region.binds .any e) (x := true) (by kernel_rfl))
  refine ⟨fun j b h => (by rw [hgd] at h; cases h), ?_⟩
  exact specs_value (R := fun v W => wk19S p gg hq A3 c3 A7 c7 A9 c9 bg Aa ca xg cx 24 v W) (v := .bool true) (by simp [execOp, hop, go_sem, ev e23]) rfl (Ext.refl W)
set_option maxHeartbeats 1000000 in
theorem wk19_op25 (o15 : a.eval (.tmp 15) = .int .i64 5) (haft : ∀ j, (o.after.any fun e => decide (e.on = j) && Region.binds .any e) = true → wk19S p gg hq A3 c3 A7 c7 A9 c9 bg Aa ca xg cx j (a.eval (.tmp (wk19D j))) W) (ho : wk19Reg[25]? = some o) : wk19Ok p gg hq A3 c3 A7 c7 A9 c9 bg Aa ca xg cx Q a W 25 o := by
  have hop := op_at ho (·.op) (x := Op.move (Operand.tmp 15)) (by kernel_rfl)
  have hgd := op_at ho (·.guard) (x := some (24, true)) (by kernel_rfl)
  have e24 : a.eval (.tmp 189) = .bool true := haft 24 (op_at ho (fun o => o.after.any fun e => decide (e.on = 24) && Region.binds .any e) (x := true) (by kernel_rfl))
  refine ⟨fun j b h => (by rw [hgd] at h; cases h; exact e24), ?_⟩
  exact specs_value (R := fun v W => wk19S p gg hq A3 c3 A7 c7 A9 c9 bg Aa ca xg cx 25 v W) (v := .int .i64 5) (by simp [execOp, hop, go_sem, ev o15]) rfl (Ext.refl W)
set_option maxHeartbeats 1000000 in
theorem wk19_op26 (haft : ∀ j, (o.after.any fun e => decide (e.on = j) && Region.binds .any e) = true → wk19S p gg hq A3 c3 A7 c7 A9 c9 bg Aa ca xg cx j (a.eval (.tmp (wk19D j))) W) (ho : wk19Reg[26]? = some o) : wk19Ok p gg hq A3 c3 A7 c7 A9 c9 bg Aa ca xg cx Q a W 26 o := by
  have hop := op_at ho (·.op) (x := Op.binOp BinOp.eql 2 (Operand.tmp 190) (Operand.const (Value.int IntKind.i64 5)) 2) (by kernel_rfl)
  have hgd := op_at ho (·.guard) (x := some (24, true)) (by kernel_rfl)
  have e24 : a.eval (.tmp 189) = .bool true := haft 24 (op_at ho (fun o => o.after.any fun e => decide (e.on = 24) && Region.binds .any e) (x := true) (by kernel_rfl))
  have e25 : a.eval (.tmp 190) = .int .i64 5 := haft 25 (op_at ho (fun o => o.after.any fun e => decide (e.on = 25) && Region.binds .any e) (x := true) (by kernel_rfl))
  refine ⟨fun j b h => (by rw [hgd] at h; cases h; exact e24), ?_⟩
  exact specs_value (R := fun v W => wk19S p gg hq A3 c3 A7 c7 A9 c9 bg Aa ca xg cx 26 v W) (v := .bool true) (by simp [execOp, hop, go_sem, ev e25]) rfl (Ext.refl W)
set_option maxHeartbeats 1000000 in
theorem wk19_op27 (haft : ∀ j, (o.after.any fun e => decide (e.on = j) && Region.binds .any e) = true → wk19S p gg hq A3 c3 A7 c7 A9 c9 bg Aa ca xg cx j (a.eval (.tmp (wk19D j))) W) (ho : wk19Reg[27]? = some o) : wk19Ok p gg hq A3 c3 A7 c7 A9 c9 bg Aa ca xg cx Q a W 27 o := by
  have hop := op_at ho (·.op) (x := Op.pick (Operand.tmp 189) (Operand.tmp 191) (Operand.const (Value.bool false))) (by kernel_rfl)
  have hgd := op_at ho (·.guard) (x := none) (by kernel_rfl)
  have e24 : a.eval (.tmp 189) = .bool true := haft 24 (op_at ho (fun o => o.after.any fun e => decide (e.on = 24) && Region.binds .any e) (x := true) (by kernel_rfl))
  have e26 : a.eval (.tmp 191) = .bool true := haft 26 (op_at ho (fun o => o.after.any fun e => decide (e.on = 26) && Region.binds .any e) (x := true) (by kernel_rfl))
  refine ⟨fun j b h => (by rw [hgd] at h; cases h), ?_⟩
  exact specs_value (R := fun v W => wk19S p gg hq A3 c3 A7 c7 A9 c9 bg Aa ca xg cx 27 v W) (v := .bool true) (by simp [execOp, hop, go_sem, ev e24, ev e26]) rfl (Ext.refl W)
set_option maxHeartbeats 1000000 in
theorem wk19_op28 (haft : ∀ j, (o.after.any fun e => decide (e.on = j) && Region.binds .any e) = true → wk19S p gg hq A3 c3 A7 c7 A9 c9 bg Aa ca xg cx j (a.eval (.tmp (wk19D j))) W) (ho : wk19Reg[28]? = some o) : wk19Ok p gg hq A3 c3 A7 c7 A9 c9 bg Aa ca xg cx Q a W 28 o := by
  have hop := op_at ho (·.op) (x := Op.move (Operand.tmp 192)) (by kernel_rfl)
  have hgd := op_at ho (·.guard) (x := none) (by kernel_rfl)
  have e27 : a.eval (.tmp 192) = .bool true := haft 27 (op_at ho (fun o => o.after.any fun e => decide (e.on = 27) && Region.binds .any e) (x := true) (by kernel_rfl))
  refine ⟨fun j b h => (by rw [hgd] at h; cases h), ?_⟩
  exact specs_value (R := fun v W => wk19S p gg hq A3 c3 A7 c7 A9 c9 bg Aa ca xg cx 28 v W) (v := .bool true) (by simp [execOp, hop, go_sem, ev e27]) rfl (Ext.refl W)
set_option maxHeartbeats 1000000 in
theorem wk19_op29 (o18 : a.eval (.tmp 18) = .slice Aa 2 ca) (haft : ∀ j, (o.after.any fun e => decide (e.on = j) && Region.binds .any e) = true → wk19S p gg hq A3 c3 A7 c7 A9 c9 bg Aa ca xg cx j (a.eval (.tmp (wk19D j))) W) (ho : wk19Reg[29]? = some o) : wk19Ok p gg hq A3 c3 A7 c7 A9 c9 bg Aa ca xg cx Q a W 29 o := by
  have hop := op_at ho (·.op) (x := Op.move (Operand.tmp 18)) (by kernel_rfl)
  have hgd := op_at ho (·.guard) (x := some (28, true)) (by kernel_rfl)
  have e28 : a.eval (.tmp 193) = .bool true := haft 28 (op_at ho (fun o => o.after.any fun e => decide (e.on = 28) && Region.binds .any e) (x := true) (by kernel_rfl))
  refine ⟨fun j b h => (by rw [hgd] at h; cases h; exact e28), ?_⟩
  exact specs_value (R := fun v W => wk19S p gg hq A3 c3 A7 c7 A9 c9 bg Aa ca xg cx 29 v W) (v := .slice Aa 2 ca) (by simp [execOp, hop, go_sem, ev o18]) rfl (Ext.refl W)
set_option maxHeartbeats 1000000 in
theorem wk19_op30 (haft : ∀ j, (o.after.any fun e => decide (e.on = j) && Region.binds .any e) = true → wk19S p gg hq A3 c3 A7 c7 A9 c9 bg Aa ca xg cx j (a.eval (.tmp (wk19D j))) W) (ho : wk19Reg[30]? = some o) : wk19Ok p gg hq A3 c3 A7 c7 A9 c9 bg Aa ca xg cx Q a W 30 o := by
  have hop := op_at ho (·.op) (x := Op.buildSlice 30 2 #[(0, Operand.const (Value.int IntKind.i64 0)), (1, Operand.const (Value.int IntKind.i64 4))]) (by kernel_rfl)
  have hgd := op_at ho (·.guard) (x := some (28, true)) (by kernel_rfl)
  have e28 : a.eval (.tmp 193) = .bool true := haft 28 (op_at ho (fun o => o.after.any fun e => decide (e.on = 28) && Region.binds .any e) (x := true) (by kernel_rfl))
  refine ⟨fun j b h => (by rw [hgd] at h; cases h; exact e28), ?_⟩
  exact specs_value (R := fun v W => wk19S p gg hq A3 c3 A7 c7 A9 c9 bg Aa ca xg cx 30 v W) (v := .slice (some ⟨W.heap.size, 0, none⟩) 2 2) (W' := W.alloc (.cells #[.int .i64 0, .int .i64 4] 3)) (by simp [execOp, hop, go_sem]) ⟨_, rfl, row_last _ _ _ rfl⟩ (ext_alloc _ _)
set_option maxHeartbeats 1000000 in
theorem wk19_op31 (hk5 : ∀ W b, Ext V W → W.heap[b]? = some (.cells #[.int .i64 0, .int .i64 4] 3 (0, 0)) → Calls Try.prog 25 #[.slice Aa 2 ca, .slice (some ⟨b, 0, none⟩) 2 2] W fun e w' => e = .returned (.bool true) ∧ Ext W w') (hB : Ext V W) (haft : ∀ j, (o.after.any fun e => decide (e.on = j) && Region.binds .any e) = true → wk19S p gg hq A3 c3 A7 c7 A9 c9 bg Aa ca xg cx j (a.eval (.tmp (wk19D j))) W) (ho : wk19Reg[31]? = some o) : wk19Ok p gg hq A3 c3 A7 c7 A9 c9 bg Aa ca xg cx Q a W 31 o := by
  have hop := op_at ho (·.op) (x := Op.call { callee := Callee.value (Operand.func 25), args := #[Operand.tmp 194, Operand.tmp 195], argTypes := #[30, 30] }) (by kernel_rfl)
  have hgd := op_at ho (·.guard) (x := some (28, true)) (by kernel_rfl)
  have e28 : a.eval (.tmp 193) = .bool true := haft 28 (op_at ho (fun o => o.after.any fun e => decide (e.on = 28) && Region.binds .any e) (x := true) (by kernel_rfl))
  have e29 : a.eval (.tmp 194) = .slice Aa 2 ca := haft 29 (op_at ho (fun o => o.after.any fun e => decide (e.on = 29) && Region.binds .any e) (x := true) (by kernel_rfl))
  have e30 : wk19S p gg hq A3 c3 A7 c7 A9 c9 bg Aa ca xg cx 30 (a.eval (.tmp 195)) W := haft 30 (op_at ho (fun o => o.after.any fun e => decide (e.on = 30) && Region.binds .any e) (x := true) (by kernel_rfl))
  refine ⟨fun j b h => (by rw [hgd] at h; cases h; exact e28), ?_⟩
  have hB' := hB
  obtain ⟨b, hv, hr⟩ := e30
  refine specs_call (R := fun v W => wk19S p gg hq A3 c3 A7 c7 A9 c9 bg Aa ca xg cx 31 v W) (f := 25) (args := #[.slice Aa 2 ca, .slice (some ⟨b, 0, none⟩) 2 2]) (by simp [execOp, hop, go_sem, ev e29, ev hv]) ((hk5 W b hB hr).mono ?_)
  rintro e w' ⟨rfl, h3⟩
  exact ⟨_, rfl, rfl, h3⟩
set_option maxHeartbeats 1000000 in
theorem wk19_op32 (haft : ∀ j, (o.after.any fun e => decide (e.on = j) && Region.binds .any e) = true → wk19S p gg hq A3 c3 A7 c7 A9 c9 bg Aa ca xg cx j (a.eval (.tmp (wk19D j))) W) (ho : wk19Reg[32]? = some o) : wk19Ok p gg hq A3 c3 A7 c7 A9 c9 bg Aa ca xg cx Q a W 32 o := by
  have hop := op_at ho (·.op) (x := Op.pick (Operand.tmp 193) (Operand.tmp 196) (Operand.const (Value.bool false))) (by kernel_rfl)
  have hgd := op_at ho (·.guard) (x := none) (by kernel_rfl)
  have e28 : a.eval (.tmp 193) = .bool true := haft 28 (op_at ho (fun o => o.after.any fun e => decide (e.on = 28) && Region.binds .any e) (x := true) (by kernel_rfl))
  have e31 : wk19S p gg hq A3 c3 A7 c7 A9 c9 bg Aa ca xg cx 31 (a.eval (.tmp 196)) W := haft 31 (op_at ho (fun o => o.after.any fun e => decide (e.on = 31) && Region.binds .any e) (x := true) (by kernel_rfl))
  refine ⟨fun j b h => (by rw [hgd] at h; cases h), ?_⟩
  have eR : a.eval (.tmp 196) = .bool true := e31
  exact specs_value (R := fun v W => wk19S p gg hq A3 c3 A7 c7 A9 c9 bg Aa ca xg cx 32 v W) (v := .bool true) (by simp [execOp, hop, go_sem, ev e28, ev eR]) rfl (Ext.refl W)
set_option maxHeartbeats 1000000 in
theorem wk19_op33 (haft : ∀ j, (o.after.any fun e => decide (e.on = j) && Region.binds .any e) = true → wk19S p gg hq A3 c3 A7 c7 A9 c9 bg Aa ca xg cx j (a.eval (.tmp (wk19D j))) W) (ho : wk19Reg[33]? = some o) : wk19Ok p gg hq A3 c3 A7 c7 A9 c9 bg Aa ca xg cx Q a W 33 o := by
  have hop := op_at ho (·.op) (x := Op.move (Operand.tmp 197)) (by kernel_rfl)
  have hgd := op_at ho (·.guard) (x := none) (by kernel_rfl)
  have e32 : a.eval (.tmp 197) = .bool true := haft 32 (op_at ho (fun o => o.after.any fun e => decide (e.on = 32) && Region.binds .any e) (x := true) (by kernel_rfl))
  refine ⟨fun j b h => (by rw [hgd] at h; cases h), ?_⟩
  exact specs_value (R := fun v W => wk19S p gg hq A3 c3 A7 c7 A9 c9 bg Aa ca xg cx 33 v W) (v := .bool true) (by simp [execOp, hop, go_sem, ev e32]) rfl (Ext.refl W)
set_option maxHeartbeats 1000000 in
theorem wk19_op34 (o21 : a.eval (.tmp 21) = .int .i64 1) (haft : ∀ j, (o.after.any fun e => decide (e.on = j) && Region.binds .any e) = true → wk19S p gg hq A3 c3 A7 c7 A9 c9 bg Aa ca xg cx j (a.eval (.tmp (wk19D j))) W) (ho : wk19Reg[34]? = some o) : wk19Ok p gg hq A3 c3 A7 c7 A9 c9 bg Aa ca xg cx Q a W 34 o := by
  have hop := op_at ho (·.op) (x := Op.move (Operand.tmp 21)) (by kernel_rfl)
  have hgd := op_at ho (·.guard) (x := some (33, true)) (by kernel_rfl)
  have e33 : a.eval (.tmp 198) = .bool true := haft 33 (op_at ho (fun o => o.after.any fun e => decide (e.on = 33) && Region.binds .any e) (x := true) (by kernel_rfl))
  refine ⟨fun j b h => (by rw [hgd] at h; cases h; exact e33), ?_⟩
  exact specs_value (R := fun v W => wk19S p gg hq A3 c3 A7 c7 A9 c9 bg Aa ca xg cx 34 v W) (v := .int .i64 1) (by simp [execOp, hop, go_sem, ev o21]) rfl (Ext.refl W)
set_option maxHeartbeats 1000000 in
theorem wk19_op35 (haft : ∀ j, (o.after.any fun e => decide (e.on = j) && Region.binds .any e) = true → wk19S p gg hq A3 c3 A7 c7 A9 c9 bg Aa ca xg cx j (a.eval (.tmp (wk19D j))) W) (ho : wk19Reg[35]? = some o) : wk19Ok p gg hq A3 c3 A7 c7 A9 c9 bg Aa ca xg cx Q a W 35 o := by
  have hop := op_at ho (·.op) (x := Op.binOp BinOp.eql 3 (Operand.tmp 199) (Operand.const (Value.int IntKind.i64 1)) 3) (by kernel_rfl)
  have hgd := op_at ho (·.guard) (x := some (33, true)) (by kernel_rfl)
  have e33 : a.eval (.tmp 198) = .bool true := haft 33 (op_at ho (fun o => o.after.any fun e => decide (e.on = 33) && Region.binds .any e) (x := true) (by kernel_rfl))
  have e34 : a.eval (.tmp 199) = .int .i64 1 := haft 34 (op_at ho (fun o => o.after.any fun e => decide (e.on = 34) && Region.binds .any e) (x := true) (by kernel_rfl))
  refine ⟨fun j b h => (by rw [hgd] at h; cases h; exact e33), ?_⟩
  exact specs_value (R := fun v W => wk19S p gg hq A3 c3 A7 c7 A9 c9 bg Aa ca xg cx 35 v W) (v := .bool true) (by simp [execOp, hop, go_sem, ev e34]) rfl (Ext.refl W)
set_option maxHeartbeats 1000000 in
theorem wk19_op36 (haft : ∀ j, (o.after.any fun e => decide (e.on = j) && Region.binds .any e) = true → wk19S p gg hq A3 c3 A7 c7 A9 c9 bg Aa ca xg cx j (a.eval (.tmp (wk19D j))) W) (ho : wk19Reg[36]? = some o) : wk19Ok p gg hq A3 c3 A7 c7 A9 c9 bg Aa ca xg cx Q a W 36 o := by
  have hop := op_at ho (·.op) (x := Op.pick (Operand.tmp 198) (Operand.tmp 200) (Operand.const (Value.bool false))) (by kernel_rfl)
  have hgd := op_at ho (·.guard) (x := none) (by kernel_rfl)
  have e33 : a.eval (.tmp 198) = .bool true := haft 33 (op_at ho (fun o => o.after.any fun e => decide (e.on = 33) && Region.binds .any e) (x := true) (by kernel_rfl))
  have e35 : a.eval (.tmp 200) = .bool true := haft 35 (op_at ho (fun o => o.after.any fun e => decide (e.on = 35) && Region.binds .any e) (x := true) (by kernel_rfl))
  refine ⟨fun j b h => (by rw [hgd] at h; cases h), ?_⟩
  exact specs_value (R := fun v W => wk19S p gg hq A3 c3 A7 c7 A9 c9 bg Aa ca xg cx 36 v W) (v := .bool true) (by simp [execOp, hop, go_sem, ev e33, ev e35]) rfl (Ext.refl W)
set_option maxHeartbeats 1000000 in
theorem wk19_op37 (haft : ∀ j, (o.after.any fun e => decide (e.on = j) && Region.binds .any e) = true → wk19S p gg hq A3 c3 A7 c7 A9 c9 bg Aa ca xg cx j (a.eval (.tmp (wk19D j))) W) (ho : wk19Reg[37]? = some o) : wk19Ok p gg hq A3 c3 A7 c7 A9 c9 bg Aa ca xg cx Q a W 37 o := by
  have hop := op_at ho (·.op) (x := Op.move (Operand.tmp 201)) (by kernel_rfl)
  have hgd := op_at ho (·.guard) (x := none) (by kernel_rfl)
  have e36 : a.eval (.tmp 201) = .bool true := haft 36 (op_at ho (fun o => o.after.any fun e => decide (e.on = 36) && Region.binds .any e) (x := true) (by kernel_rfl))
  refine ⟨fun j b h => (by rw [hgd] at h; cases h), ?_⟩
  exact specs_value (R := fun v W => wk19S p gg hq A3 c3 A7 c7 A9 c9 bg Aa ca xg cx 37 v W) (v := .bool true) (by simp [execOp, hop, go_sem, ev e36]) rfl (Ext.refl W)
set_option maxHeartbeats 1000000 in
theorem wk19_op38 (o23 : a.eval (.tmp 23) = .int .i64 15) (haft : ∀ j, (o.after.any fun e => decide (e.on = j) && Region.binds .any e) = true → wk19S p gg hq A3 c3 A7 c7 A9 c9 bg Aa ca xg cx j (a.eval (.tmp (wk19D j))) W) (ho : wk19Reg[38]? = some o) : wk19Ok p gg hq A3 c3 A7 c7 A9 c9 bg Aa ca xg cx Q a W 38 o := by
  have hop := op_at ho (·.op) (x := Op.move (Operand.tmp 23)) (by kernel_rfl)
  have hgd := op_at ho (·.guard) (x := some (37, true)) (by kernel_rfl)
  have e37 : a.eval (.tmp 202) = .bool true := haft 37 (op_at ho (fun o => o.after.any fun e => decide (e.on = 37) && Region.binds .any e) (x := true) (by kernel_rfl))
  refine ⟨fun j b h => (by rw [hgd] at h; cases h; exact e37), ?_⟩
  exact specs_value (R := fun v W => wk19S p gg hq A3 c3 A7 c7 A9 c9 bg Aa ca xg cx 38 v W) (v := .int .i64 15) (by simp [execOp, hop, go_sem, ev o23]) rfl (Ext.refl W)
set_option maxHeartbeats 1000000 in
theorem wk19_op39 (haft : ∀ j, (o.after.any fun e => decide (e.on = j) && Region.binds .any e) = true → wk19S p gg hq A3 c3 A7 c7 A9 c9 bg Aa ca xg cx j (a.eval (.tmp (wk19D j))) W) (ho : wk19Reg[39]? = some o) : wk19Ok p gg hq A3 c3 A7 c7 A9 c9 bg Aa ca xg cx Q a W 39 o := by
  have hop := op_at ho (·.op) (x := Op.binOp BinOp.eql 2 (Operand.tmp 203) (Operand.const (Value.int IntKind.i64 15)) 2) (by kernel_rfl)
  have hgd := op_at ho (·.guard) (x := some (37, true)) (by kernel_rfl)
  have e37 : a.eval (.tmp 202) = .bool true := haft 37 (op_at ho (fun o => o.after.any fun e => decide (e.on = 37) && Region.binds .any e) (x := true) (by kernel_rfl))
  have e38 : a.eval (.tmp 203) = .int .i64 15 := haft 38 (op_at ho (fun o => o.after.any fun e => decide (e.on = 38) && Region.binds .any e) (x := true) (by kernel_rfl))
  refine ⟨fun j b h => (by rw [hgd] at h; cases h; exact e37), ?_⟩
  exact specs_value (R := fun v W => wk19S p gg hq A3 c3 A7 c7 A9 c9 bg Aa ca xg cx 39 v W) (v := .bool true) (by simp [execOp, hop, go_sem, ev e38]) rfl (Ext.refl W)
set_option maxHeartbeats 1000000 in
theorem wk19_op40 (haft : ∀ j, (o.after.any fun e => decide (e.on = j) && Region.binds .any e) = true → wk19S p gg hq A3 c3 A7 c7 A9 c9 bg Aa ca xg cx j (a.eval (.tmp (wk19D j))) W) (ho : wk19Reg[40]? = some o) : wk19Ok p gg hq A3 c3 A7 c7 A9 c9 bg Aa ca xg cx Q a W 40 o := by
  have hop := op_at ho (·.op) (x := Op.pick (Operand.tmp 202) (Operand.tmp 204) (Operand.const (Value.bool false))) (by kernel_rfl)
  have hgd := op_at ho (·.guard) (x := none) (by kernel_rfl)
  have e37 : a.eval (.tmp 202) = .bool true := haft 37 (op_at ho (fun o => o.after.any fun e => decide (e.on = 37) && Region.binds .any e) (x := true) (by kernel_rfl))
  have e39 : a.eval (.tmp 204) = .bool true := haft 39 (op_at ho (fun o => o.after.any fun e => decide (e.on = 39) && Region.binds .any e) (x := true) (by kernel_rfl))
  refine ⟨fun j b h => (by rw [hgd] at h; cases h), ?_⟩
  exact specs_value (R := fun v W => wk19S p gg hq A3 c3 A7 c7 A9 c9 bg Aa ca xg cx 40 v W) (v := .bool true) (by simp [execOp, hop, go_sem, ev e37, ev e39]) rfl (Ext.refl W)
set_option maxHeartbeats 1000000 in
theorem wk19_op41 (haft : ∀ j, (o.after.any fun e => decide (e.on = j) && Region.binds .any e) = true → wk19S p gg hq A3 c3 A7 c7 A9 c9 bg Aa ca xg cx j (a.eval (.tmp (wk19D j))) W) (ho : wk19Reg[41]? = some o) : wk19Ok p gg hq A3 c3 A7 c7 A9 c9 bg Aa ca xg cx Q a W 41 o := by
  have hop := op_at ho (·.op) (x := Op.move (Operand.tmp 205)) (by kernel_rfl)
  have hgd := op_at ho (·.guard) (x := none) (by kernel_rfl)
  have e40 : a.eval (.tmp 205) = .bool true := haft 40 (op_at ho (fun o => o.after.any fun e => decide (e.on = 40) && Region.binds .any e) (x := true) (by kernel_rfl))
  refine ⟨fun j b h => (by rw [hgd] at h; cases h), ?_⟩
  exact specs_value (R := fun v W => wk19S p gg hq A3 c3 A7 c7 A9 c9 bg Aa ca xg cx 41 v W) (v := .bool true) (by simp [execOp, hop, go_sem, ev e40]) rfl (Ext.refl W)
set_option maxHeartbeats 1000000 in
theorem wk19_op42 (o24 : a.eval (.tmp 24) = .int .i64 30) (haft : ∀ j, (o.after.any fun e => decide (e.on = j) && Region.binds .any e) = true → wk19S p gg hq A3 c3 A7 c7 A9 c9 bg Aa ca xg cx j (a.eval (.tmp (wk19D j))) W) (ho : wk19Reg[42]? = some o) : wk19Ok p gg hq A3 c3 A7 c7 A9 c9 bg Aa ca xg cx Q a W 42 o := by
  have hop := op_at ho (·.op) (x := Op.move (Operand.tmp 24)) (by kernel_rfl)
  have hgd := op_at ho (·.guard) (x := some (41, true)) (by kernel_rfl)
  have e41 : a.eval (.tmp 206) = .bool true := haft 41 (op_at ho (fun o => o.after.any fun e => decide (e.on = 41) && Region.binds .any e) (x := true) (by kernel_rfl))
  refine ⟨fun j b h => (by rw [hgd] at h; cases h; exact e41), ?_⟩
  exact specs_value (R := fun v W => wk19S p gg hq A3 c3 A7 c7 A9 c9 bg Aa ca xg cx 42 v W) (v := .int .i64 30) (by simp [execOp, hop, go_sem, ev o24]) rfl (Ext.refl W)
set_option maxHeartbeats 1000000 in
theorem wk19_op43 (haft : ∀ j, (o.after.any fun e => decide (e.on = j) && Region.binds .any e) = true → wk19S p gg hq A3 c3 A7 c7 A9 c9 bg Aa ca xg cx j (a.eval (.tmp (wk19D j))) W) (ho : wk19Reg[43]? = some o) : wk19Ok p gg hq A3 c3 A7 c7 A9 c9 bg Aa ca xg cx Q a W 43 o := by
  have hop := op_at ho (·.op) (x := Op.binOp BinOp.eql 2 (Operand.tmp 207) (Operand.const (Value.int IntKind.i64 30)) 2) (by kernel_rfl)
  have hgd := op_at ho (·.guard) (x := some (41, true)) (by kernel_rfl)
  have e41 : a.eval (.tmp 206) = .bool true := haft 41 (op_at ho (fun o => o.after.any fun e => decide (e.on = 41) && Region.binds .any e) (x := true) (by kernel_rfl))
  have e42 : a.eval (.tmp 207) = .int .i64 30 := haft 42 (op_at ho (fun o => o.after.any fun e => decide (e.on = 42) && Region.binds .any e) (x := true) (by kernel_rfl))
  refine ⟨fun j b h => (by rw [hgd] at h; cases h; exact e41), ?_⟩
  exact specs_value (R := fun v W => wk19S p gg hq A3 c3 A7 c7 A9 c9 bg Aa ca xg cx 43 v W) (v := .bool true) (by simp [execOp, hop, go_sem, ev e42]) rfl (Ext.refl W)
set_option maxHeartbeats 1000000 in
theorem wk19_op44 (haft : ∀ j, (o.after.any fun e => decide (e.on = j) && Region.binds .any e) = true → wk19S p gg hq A3 c3 A7 c7 A9 c9 bg Aa ca xg cx j (a.eval (.tmp (wk19D j))) W) (ho : wk19Reg[44]? = some o) : wk19Ok p gg hq A3 c3 A7 c7 A9 c9 bg Aa ca xg cx Q a W 44 o := by
  have hop := op_at ho (·.op) (x := Op.pick (Operand.tmp 206) (Operand.tmp 208) (Operand.const (Value.bool false))) (by kernel_rfl)
  have hgd := op_at ho (·.guard) (x := none) (by kernel_rfl)
  have e41 : a.eval (.tmp 206) = .bool true := haft 41 (op_at ho (fun o => o.after.any fun e => decide (e.on = 41) && Region.binds .any e) (x := true) (by kernel_rfl))
  have e43 : a.eval (.tmp 208) = .bool true := haft 43 (op_at ho (fun o => o.after.any fun e => decide (e.on = 43) && Region.binds .any e) (x := true) (by kernel_rfl))
  refine ⟨fun j b h => (by rw [hgd] at h; cases h), ?_⟩
  exact specs_value (R := fun v W => wk19S p gg hq A3 c3 A7 c7 A9 c9 bg Aa ca xg cx 44 v W) (v := .bool true) (by simp [execOp, hop, go_sem, ev e41, ev e43]) rfl (Ext.refl W)
set_option maxHeartbeats 1000000 in
theorem wk19_op45 (haft : ∀ j, (o.after.any fun e => decide (e.on = j) && Region.binds .any e) = true → wk19S p gg hq A3 c3 A7 c7 A9 c9 bg Aa ca xg cx j (a.eval (.tmp (wk19D j))) W) (ho : wk19Reg[45]? = some o) : wk19Ok p gg hq A3 c3 A7 c7 A9 c9 bg Aa ca xg cx Q a W 45 o := by
  have hop := op_at ho (·.op) (x := Op.move (Operand.tmp 209)) (by kernel_rfl)
  have hgd := op_at ho (·.guard) (x := none) (by kernel_rfl)
  have e44 : a.eval (.tmp 209) = .bool true := haft 44 (op_at ho (fun o => o.after.any fun e => decide (e.on = 44) && Region.binds .any e) (x := true) (by kernel_rfl))
  refine ⟨fun j b h => (by rw [hgd] at h; cases h), ?_⟩
  exact specs_value (R := fun v W => wk19S p gg hq A3 c3 A7 c7 A9 c9 bg Aa ca xg cx 45 v W) (v := .bool true) (by simp [execOp, hop, go_sem, ev e44]) rfl (Ext.refl W)
set_option maxHeartbeats 1000000 in
theorem wk19_op46 (o29 : a.eval (.tmp 29) = .slice (some ⟨xg, 0, none⟩) 1 cx) (haft : ∀ j, (o.after.any fun e => decide (e.on = j) && Region.binds .any e) = true → wk19S p gg hq A3 c3 A7 c7 A9 c9 bg Aa ca xg cx j (a.eval (.tmp (wk19D j))) W) (ho : wk19Reg[46]? = some o) : wk19Ok p gg hq A3 c3 A7 c7 A9 c9 bg Aa ca xg cx Q a W 46 o := by
  have hop := op_at ho (·.op) (x := Op.move (Operand.tmp 29)) (by kernel_rfl)
  have hgd := op_at ho (·.guard) (x := some (45, true)) (by kernel_rfl)
  have e45 : a.eval (.tmp 210) = .bool true := haft 45 (op_at ho (fun o => o.after.any fun e => decide (e.on = 45) && Region.binds .any e) (x := true) (by kernel_rfl))
  refine ⟨fun j b h => (by rw [hgd] at h; cases h; exact e45), ?_⟩
  exact specs_value (R := fun v W => wk19S p gg hq A3 c3 A7 c7 A9 c9 bg Aa ca xg cx 46 v W) (v := .slice (some ⟨xg, 0, none⟩) 1 cx) (by simp [execOp, hop, go_sem, ev o29]) rfl (Ext.refl W)
set_option maxHeartbeats 1000000 in
theorem wk19_op47 (haft : ∀ j, (o.after.any fun e => decide (e.on = j) && Region.binds .any e) = true → wk19S p gg hq A3 c3 A7 c7 A9 c9 bg Aa ca xg cx j (a.eval (.tmp (wk19D j))) W) (ho : wk19Reg[47]? = some o) : wk19Ok p gg hq A3 c3 A7 c7 A9 c9 bg Aa ca xg cx Q a W 47 o := by
  have hop := op_at ho (·.op) (x := Op.call { callee := Callee.builtin Builtin.len, args := #[Operand.tmp 211], argTypes := #[49] }) (by kernel_rfl)
  have hgd := op_at ho (·.guard) (x := some (45, true)) (by kernel_rfl)
  have e45 : a.eval (.tmp 210) = .bool true := haft 45 (op_at ho (fun o => o.after.any fun e => decide (e.on = 45) && Region.binds .any e) (x := true) (by kernel_rfl))
  have e46 : a.eval (.tmp 211) = .slice (some ⟨xg, 0, none⟩) 1 cx := haft 46 (op_at ho (fun o => o.after.any fun e => decide (e.on = 46) && Region.binds .any e) (x := true) (by kernel_rfl))
  refine ⟨fun j b h => (by rw [hgd] at h; cases h; exact e45), ?_⟩
  exact specs_value (R := fun v W => wk19S p gg hq A3 c3 A7 c7 A9 c9 bg Aa ca xg cx 47 v W) (v := .int .i64 1) (by simp [execOp, hop, go_sem, ev e46]) rfl (Ext.refl W)
set_option maxHeartbeats 1000000 in
theorem wk19_op48 (haft : ∀ j, (o.after.any fun e => decide (e.on = j) && Region.binds .any e) = true → wk19S p gg hq A3 c3 A7 c7 A9 c9 bg Aa ca xg cx j (a.eval (.tmp (wk19D j))) W) (ho : wk19Reg[48]? = some o) : wk19Ok p gg hq A3 c3 A7 c7 A9 c9 bg Aa ca xg cx Q a W 48 o := by
  have hop := op_at ho (·.op) (x := Op.binOp BinOp.eql 3 (Operand.tmp 212) (Operand.const (Value.int IntKind.i64 1)) 3) (by kernel_rfl)
  have hgd := op_at ho (·.guard) (x := some (45, true)) (by kernel_rfl)
  have e45 : a.eval (.tmp 210) = .bool true := haft 45 (op_at ho (fun o => o.after.any fun e => decide (e.on = 45) && Region.binds .any e) (x := true) (by kernel_rfl))
  have e47 : a.eval (.tmp 212) = .int .i64 1 := haft 47 (op_at ho (fun o => o.after.any fun e => decide (e.on = 47) && Region.binds .any e) (x := true) (by kernel_rfl))
  refine ⟨fun j b h => (by rw [hgd] at h; cases h; exact e45), ?_⟩
  exact specs_value (R := fun v W => wk19S p gg hq A3 c3 A7 c7 A9 c9 bg Aa ca xg cx 48 v W) (v := .bool true) (by simp [execOp, hop, go_sem, ev e47]) rfl (Ext.refl W)
set_option maxHeartbeats 1000000 in
theorem wk19_op49 (haft : ∀ j, (o.after.any fun e => decide (e.on = j) && Region.binds .any e) = true → wk19S p gg hq A3 c3 A7 c7 A9 c9 bg Aa ca xg cx j (a.eval (.tmp (wk19D j))) W) (ho : wk19Reg[49]? = some o) : wk19Ok p gg hq A3 c3 A7 c7 A9 c9 bg Aa ca xg cx Q a W 49 o := by
  have hop := op_at ho (·.op) (x := Op.pick (Operand.tmp 210) (Operand.tmp 213) (Operand.const (Value.bool false))) (by kernel_rfl)
  have hgd := op_at ho (·.guard) (x := none) (by kernel_rfl)
  have e45 : a.eval (.tmp 210) = .bool true := haft 45 (op_at ho (fun o => o.after.any fun e => decide (e.on = 45) && Region.binds .any e) (x := true) (by kernel_rfl))
  have e48 : a.eval (.tmp 213) = .bool true := haft 48 (op_at ho (fun o => o.after.any fun e => decide (e.on = 48) && Region.binds .any e) (x := true) (by kernel_rfl))
  refine ⟨fun j b h => (by rw [hgd] at h; cases h), ?_⟩
  exact specs_value (R := fun v W => wk19S p gg hq A3 c3 A7 c7 A9 c9 bg Aa ca xg cx 49 v W) (v := .bool true) (by simp [execOp, hop, go_sem, ev e45, ev e48]) rfl (Ext.refl W)
set_option maxHeartbeats 1000000 in
theorem wk19_op50 (haft : ∀ j, (o.after.any fun e => decide (e.on = j) && Region.binds .any e) = true → wk19S p gg hq A3 c3 A7 c7 A9 c9 bg Aa ca xg cx j (a.eval (.tmp (wk19D j))) W) (ho : wk19Reg[50]? = some o) : wk19Ok p gg hq A3 c3 A7 c7 A9 c9 bg Aa ca xg cx Q a W 50 o := by
  have hop := op_at ho (·.op) (x := Op.move (Operand.tmp 214)) (by kernel_rfl)
  have hgd := op_at ho (·.guard) (x := none) (by kernel_rfl)
  have e49 : a.eval (.tmp 214) = .bool true := haft 49 (op_at ho (fun o => o.after.any fun e => decide (e.on = 49) && Region.binds .any e) (x := true) (by kernel_rfl))
  refine ⟨fun j b h => (by rw [hgd] at h; cases h), ?_⟩
  exact specs_value (R := fun v W => wk19S p gg hq A3 c3 A7 c7 A9 c9 bg Aa ca xg cx 50 v W) (v := .bool true) (by simp [execOp, hop, go_sem, ev e49]) rfl (Ext.refl W)
set_option maxHeartbeats 1000000 in
theorem wk19_op51 (o29 : a.eval (.tmp 29) = .slice (some ⟨xg, 0, none⟩) 1 cx) (haft : ∀ j, (o.after.any fun e => decide (e.on = j) && Region.binds .any e) = true → wk19S p gg hq A3 c3 A7 c7 A9 c9 bg Aa ca xg cx j (a.eval (.tmp (wk19D j))) W) (ho : wk19Reg[51]? = some o) : wk19Ok p gg hq A3 c3 A7 c7 A9 c9 bg Aa ca xg cx Q a W 51 o := by
  have hop := op_at ho (·.op) (x := Op.move (Operand.tmp 29)) (by kernel_rfl)
  have hgd := op_at ho (·.guard) (x := some (50, true)) (by kernel_rfl)
  have e50 : a.eval (.tmp 215) = .bool true := haft 50 (op_at ho (fun o => o.after.any fun e => decide (e.on = 50) && Region.binds .any e) (x := true) (by kernel_rfl))
  refine ⟨fun j b h => (by rw [hgd] at h; cases h; exact e50), ?_⟩
  exact specs_value (R := fun v W => wk19S p gg hq A3 c3 A7 c7 A9 c9 bg Aa ca xg cx 51 v W) (v := .slice (some ⟨xg, 0, none⟩) 1 cx) (by simp [execOp, hop, go_sem, ev o29]) rfl (Ext.refl W)
set_option maxHeartbeats 1000000 in
theorem wk19_op52 (haft : ∀ j, (o.after.any fun e => decide (e.on = j) && Region.binds .any e) = true → wk19S p gg hq A3 c3 A7 c7 A9 c9 bg Aa ca xg cx j (a.eval (.tmp (wk19D j))) W) (ho : wk19Reg[52]? = some o) : wk19Ok p gg hq A3 c3 A7 c7 A9 c9 bg Aa ca xg cx Q a W 52 o := by
  have hop := op_at ho (·.op) (x := Op.indexAddr 49 (Operand.tmp 216) (Operand.const (Value.int IntKind.i64 0))) (by kernel_rfl)
  have hgd := op_at ho (·.guard) (x := some (50, true)) (by kernel_rfl)
  have e50 : a.eval (.tmp 215) = .bool true := haft 50 (op_at ho (fun o => o.after.any fun e => decide (e.on = 50) && Region.binds .any e) (x := true) (by kernel_rfl))
  have e51 : a.eval (.tmp 216) = .slice (some ⟨xg, 0, none⟩) 1 cx := haft 51 (op_at ho (fun o => o.after.any fun e => decide (e.on = 51) && Region.binds .any e) (x := true) (by kernel_rfl))
  refine ⟨fun j b h => (by rw [hgd] at h; cases h; exact e50), ?_⟩
  exact specs_value (R := fun v W => wk19S p gg hq A3 c3 A7 c7 A9 c9 bg Aa ca xg cx 52 v W) (v := .pointer (some ⟨xg, 0, none⟩)) (by simp [execOp, hop, go_sem, ev e51]) rfl (Ext.refl W)
set_option maxHeartbeats 1000000 in
theorem wk19_op53 (x0 : ∀ W, Ext V W → W.cell? ⟨xg, 0, none⟩ = some (.int .i64 10)) (x1 : ∀ W, Ext V W → W.cell? ⟨xg, 1, none⟩ = some (.int .i64 5)) (x2 : ∀ W, Ext V W → W.cell? ⟨xg, 2, none⟩ = some (.int .i64 5)) (hB : Ext V W) (haft : ∀ j, (o.after.any fun e => decide (e.on = j) && Region.binds .any e) = true → wk19S p gg hq A3 c3 A7 c7 A9 c9 bg Aa ca xg cx j (a.eval (.tmp (wk19D j))) W) (ho : wk19Reg[53]? = some o) : wk19Ok p gg hq A3 c3 A7 c7 A9 c9 bg Aa ca xg cx Q a W 53 o := by
  have hop := op_at ho (·.op) (x := Op.load 82 (Operand.tmp 217)) (by kernel_rfl)
  have hgd := op_at ho (·.guard) (x := some (50, true)) (by kernel_rfl)
  have e50 : a.eval (.tmp 215) = .bool true := haft 50 (op_at ho (fun o => o.after.any fun e => decide (e.on = 50) && Region.binds .any e) (x := true) (by kernel_rfl))
  have e52 : a.eval (.tmp 217) = .pointer (some ⟨xg, 0, none⟩) := haft 52 (op_at ho (fun o => o.after.any fun e => decide (e.on = 52) && Region.binds .any e) (x := true) (by kernel_rfl))
  refine ⟨fun j b h => (by rw [hgd] at h; cases h; exact e50), ?_⟩
  have x0' := x0 W hB
  have x1' := x1 W hB
  have x2' := x2 W hB
  exact specs_value (R := fun v W => wk19S p gg hq A3 c3 A7 c7 A9 c9 bg Aa ca xg cx 53 v W) (v := .agg #[.int .i64 10, .int .i64 5, .int .i64 5]) (by simp [execOp, hop, go_sem, ev e52, x0', x1', x2']) rfl (Ext.refl W)
set_option maxHeartbeats 1000000 in
theorem wk19_op54 (hB : Ext V W) (haft : ∀ j, (o.after.any fun e => decide (e.on = j) && Region.binds .any e) = true → wk19S p gg hq A3 c3 A7 c7 A9 c9 bg Aa ca xg cx j (a.eval (.tmp (wk19D j))) W) (ho : wk19Reg[54]? = some o) : wk19Ok p gg hq A3 c3 A7 c7 A9 c9 bg Aa ca xg cx Q a W 54 o := by
  have hop := op_at ho (·.op) (x := Op.call { callee := Callee.value (Operand.func 50), args := #[Operand.const (Value.int IntKind.i64 5), Operand.const (Value.int IntKind.i64 5)], argTypes := #[2, 2] }) (by kernel_rfl)
  have hgd := op_at ho (·.guard) (x := some (50, true)) (by kernel_rfl)
  have e50 : a.eval (.tmp 215) = .bool true := haft 50 (op_at ho (fun o => o.after.any fun e => decide (e.on = 50) && Region.binds .any e) (x := true) (by kernel_rfl))
  refine ⟨fun j b h => (by rw [hgd] at h; cases h; exact e50), ?_⟩
  have hB' := hB
  refine specs_call (R := fun v W => wk19S p gg hq A3 c3 A7 c7 A9 c9 bg Aa ca xg cx 54 v W) (f := 50) (args := #[.int .i64 5, .int .i64 5]) (by simp [execOp, hop, go_sem]) ((rg_any 5 5 W).mono ?_)
  rintro e w' ⟨rfl, h3⟩
  exact ⟨_, rfl, rfl, h3⟩
set_option maxHeartbeats 1000000 in
theorem wk19_op55 (haft : ∀ j, (o.after.any fun e => decide (e.on = j) && Region.binds .any e) = true → wk19S p gg hq A3 c3 A7 c7 A9 c9 bg Aa ca xg cx j (a.eval (.tmp (wk19D j))) W) (ho : wk19Reg[55]? = some o) : wk19Ok p gg hq A3 c3 A7 c7 A9 c9 bg Aa ca xg cx Q a W 55 o := by
  have hop := op_at ho (·.op) (x := Op.build 82 #[(0, Operand.const (Value.int IntKind.i64 10)), (1, Operand.tmp 219)]) (by kernel_rfl)
  have hgd := op_at ho (·.guard) (x := some (50, true)) (by kernel_rfl)
  have e50 : a.eval (.tmp 215) = .bool true := haft 50 (op_at ho (fun o => o.after.any fun e => decide (e.on = 50) && Region.binds .any e) (x := true) (by kernel_rfl))
  have e54 : wk19S p gg hq A3 c3 A7 c7 A9 c9 bg Aa ca xg cx 54 (a.eval (.tmp 219)) W := haft 54 (op_at ho (fun o => o.after.any fun e => decide (e.on = 54) && Region.binds .any e) (x := true) (by kernel_rfl))
  refine ⟨fun j b h => (by rw [hgd] at h; cases h; exact e50), ?_⟩
  have eR : a.eval (.tmp 219) = .agg #[.int .i64 5, .int .i64 5] := e54
  exact specs_value (R := fun v W => wk19S p gg hq A3 c3 A7 c7 A9 c9 bg Aa ca xg cx 55 v W) (v := .agg #[.int .i64 10, .int .i64 5, .int .i64 5]) (by simp [execOp, hop, go_sem, ev eR]) rfl (Ext.refl W)
set_option maxHeartbeats 1000000 in
theorem wk19_op56 (haft : ∀ j, (o.after.any fun e => decide (e.on = j) && Region.binds .any e) = true → wk19S p gg hq A3 c3 A7 c7 A9 c9 bg Aa ca xg cx j (a.eval (.tmp (wk19D j))) W) (ho : wk19Reg[56]? = some o) : wk19Ok p gg hq A3 c3 A7 c7 A9 c9 bg Aa ca xg cx Q a W 56 o := by
  have hop := op_at ho (·.op) (x := Op.binOp BinOp.eql 82 (Operand.tmp 218) (Operand.tmp 220) 82) (by kernel_rfl)
  have hgd := op_at ho (·.guard) (x := some (50, true)) (by kernel_rfl)
  have e50 : a.eval (.tmp 215) = .bool true := haft 50 (op_at ho (fun o => o.after.any fun e => decide (e.on = 50) && Region.binds .any e) (x := true) (by kernel_rfl))
  have e53 : a.eval (.tmp 218) = .agg #[.int .i64 10, .int .i64 5, .int .i64 5] := haft 53 (op_at ho (fun o => o.after.any fun e => decide (e.on = 53) && Region.binds .any e) (x := true) (by kernel_rfl))
  have e55 : a.eval (.tmp 220) = .agg #[.int .i64 10, .int .i64 5, .int .i64 5] := haft 55 (op_at ho (fun o => o.after.any fun e => decide (e.on = 55) && Region.binds .any e) (x := true) (by kernel_rfl))
  refine ⟨fun j b h => (by rw [hgd] at h; cases h; exact e50), ?_⟩
  exact specs_value (R := fun v W => wk19S p gg hq A3 c3 A7 c7 A9 c9 bg Aa ca xg cx 56 v W) (v := .bool true) (by simp [execOp, hop, go_sem, ev e53, ev e55]) rfl (Ext.refl W)
set_option maxHeartbeats 1000000 in
theorem wk19_op57 (haft : ∀ j, (o.after.any fun e => decide (e.on = j) && Region.binds .any e) = true → wk19S p gg hq A3 c3 A7 c7 A9 c9 bg Aa ca xg cx j (a.eval (.tmp (wk19D j))) W) (ho : wk19Reg[57]? = some o) : wk19Ok p gg hq A3 c3 A7 c7 A9 c9 bg Aa ca xg cx Q a W 57 o := by
  have hop := op_at ho (·.op) (x := Op.pick (Operand.tmp 215) (Operand.tmp 221) (Operand.const (Value.bool false))) (by kernel_rfl)
  have hgd := op_at ho (·.guard) (x := none) (by kernel_rfl)
  have e50 : a.eval (.tmp 215) = .bool true := haft 50 (op_at ho (fun o => o.after.any fun e => decide (e.on = 50) && Region.binds .any e) (x := true) (by kernel_rfl))
  have e56 : a.eval (.tmp 221) = .bool true := haft 56 (op_at ho (fun o => o.after.any fun e => decide (e.on = 56) && Region.binds .any e) (x := true) (by kernel_rfl))
  refine ⟨fun j b h => (by rw [hgd] at h; cases h), ?_⟩
  exact specs_value (R := fun v W => wk19S p gg hq A3 c3 A7 c7 A9 c9 bg Aa ca xg cx 57 v W) (v := .bool true) (by simp [execOp, hop, go_sem, ev e50, ev e56]) rfl (Ext.refl W)
set_option maxHeartbeats 1000000 in
theorem wk19_op58 (haft : ∀ j, (o.after.any fun e => decide (e.on = j) && Region.binds .any e) = true → wk19S p gg hq A3 c3 A7 c7 A9 c9 bg Aa ca xg cx j (a.eval (.tmp (wk19D j))) W) (ho : wk19Reg[58]? = some o) : wk19Ok p gg hq A3 c3 A7 c7 A9 c9 bg Aa ca xg cx Q a W 58 o := by
  have hop := op_at ho (·.op) (x := Op.assign (Operand.tmp 222)) (by kernel_rfl)
  have hgd := op_at ho (·.guard) (x := none) (by kernel_rfl)
  have e57 : a.eval (.tmp 222) = .bool true := haft 57 (op_at ho (fun o => o.after.any fun e => decide (e.on = 57) && Region.binds .any e) (x := true) (by kernel_rfl))
  refine ⟨fun j b h => (by rw [hgd] at h; cases h), ?_⟩
  exact specs_value (R := fun v W => wk19S p gg hq A3 c3 A7 c7 A9 c9 bg Aa ca xg cx 58 v W) (v := .bool true) (by simp [execOp, hop, go_sem, ev e57]) rfl (Ext.refl W)
set_option maxRecDepth 100000 in
set_option maxHeartbeats 4000000 in
/-- Region 19 of function 16. -/
theorem wk19_wp {id : Nat} (hlen : a.tmps.size = 223) (o1 : a.eval (.tmp 1) = .pointer (some ⟨p, 0, none⟩)) (o3 : a.eval (.tmp 3) = .slice A3 3 c3) (o7 : a.eval (.tmp 7) = .slice A7 5 c7) (o9 : a.eval (.tmp 9) = .slice A9 1 c9) (o11 : a.eval (.tmp 11) = .slice (some ⟨bg, 0, none⟩) 2 2) (o15 : a.eval (.tmp 15) = .int .i64 5) (o18 : a.eval (.tmp 18) = .slice Aa 2 ca) (o21 : a.eval (.tmp 21) = .int .i64 1) (o23 : a.eval (.tmp 23) = .int .i64 15) (o24 : a.eval (.tmp 24) = .int .i64 30) (o29 : a.eval (.tmp 29) = .slice (some ⟨xg, 0, none⟩) 1 cx) (hk1 : ∀ W b, Ext V W → W.heap[b]? = some (.cells #[.int .i64 0, .int .i64 1, .int .i64 3] 3 (0, 0)) → Calls Try.prog 25 #[.slice A3 3 c3, .slice (some ⟨b, 0, none⟩) 3 3] W fun e w' => e = .returned (.bool true) ∧ Ext W w') (hk2 : ∀ W b, Ext V W → W.heap[b]? = some (.cells #[.int .i64 5, .int .i64 6, .int .i64 20, .int .i64 21, .int .i64 22] 2 (0, 0)) → Calls Try.prog 26 #[.slice A7 5 c7, .slice (some ⟨b, 0, none⟩) 5 5] W fun e w' => e = .returned (.bool true) ∧ Ext W w') (hk3 : ∀ W b, Ext V W → W.heap[b]? = some (.cells #[.int .i64 2] 3 (0, 0)) → Calls Try.prog 25 #[.slice A9 1 c9, .slice (some ⟨b, 0, none⟩) 1 1] W fun e w' => e = .returned (.bool true) ∧ Ext W w') (q0 : ∀ W, Ext V W → W.cell? ⟨p, 0, none⟩ = some (.slice (some ⟨gg, 0, none⟩) 2 2)) (q1 : ∀ W, Ext V W → W.cell? ⟨p, 1, none⟩ = some (.slice (some ⟨hq, 0, none⟩) 5 5)) (hk4 : ∀ W, Ext V W → Calls Try.prog 42 #[shV gg hq, .slice (some ⟨bg, 0, none⟩) 2 2] W fun e w' => e = .returned (.int .i64 0) ∧ Ext W w') (hk5 : ∀ W b, Ext V W → W.heap[b]? = some (.cells #[.int .i64 0, .int .i64 4] 3 (0, 0)) → Calls Try.prog 25 #[.slice Aa 2 ca, .slice (some ⟨b, 0, none⟩) 2 2] W fun e w' => e = .returned (.bool true) ∧ Ext W w') (x0 : ∀ W, Ext V W → W.cell? ⟨xg, 0, none⟩ = some (.int .i64 10)) (x1 : ∀ W, Ext V W → W.cell? ⟨xg, 1, none⟩ = some (.int .i64 5)) (x2 : ∀ W, Ext V W → W.cell? ⟨xg, 2, none⟩ = some (.int .i64 5)) (K : (∀ W v1 v2 v5 v6 v10 v11 v21 v30 v31 v54, Ext V W → wk19S p gg hq A3 c3 A7 c7 A9 c9 bg Aa ca xg cx 1 v1 W → wk19S p gg hq A3 c3 A7 c7 A9 c9 bg Aa ca xg cx 2 v2 W → wk19S p gg hq A3 c3 A7 c7 A9 c9 bg Aa ca xg cx 5 v5 W → wk19S p gg hq A3 c3 A7 c7 A9 c9 bg Aa ca xg cx 6 v6 W → wk19S p gg hq A3 c3 A7 c7 A9 c9 bg Aa ca xg cx 10 v10 W → wk19S p gg hq A3 c3 A7 c7 A9 c9 bg Aa ca xg cx 11 v11 W → wk19S p gg hq A3 c3 A7 c7 A9 c9 bg Aa ca xg cx 21 v21 W → wk19S p gg hq A3 c3 A7 c7 A9 c9 bg Aa ca xg cx 30 v30 W → wk19S p gg hq A3 c3 A7 c7 A9 c9 bg Aa ca xg cx 31 v31 W → wk19S p gg hq A3 c3 A7 c7 A9 c9 bg Aa ca xg cx 54 v54 W → wpList Try.prog wk19Reg Q (wk19Reg.toList.drop 59) (puts a [(165, .slice A3 3 c3), (166, v1), (167, v2), (168, .bool true), (169, .slice A7 5 c7), (170, v5), (171, v6), (172, .bool true), (173, .bool true), (174, .slice A9 1 c9), (175, v10), (176, v11), (177, .bool true), (178, .bool true), (179, .slice (some ⟨bg, 0, none⟩) 2 2), (180, .int .i64 2), (181, .bool true), (182, .bool true), (183, .bool true), (184, shV gg hq), (185, .slice (some ⟨bg, 0, none⟩) 2 2), (186, v21), (187, .bool true), (188, .bool true), (189, .bool true), (190, .int .i64 5), (191, .bool true), (192, .bool true), (193, .bool true), (194, .slice Aa 2 ca), (195, v30), (196, v31), (197, .bool true), (198, .bool true), (199, .int .i64 1), (200, .bool true), (201, .bool true), (202, .bool true), (203, .int .i64 15), (204, .bool true), (205, .bool true), (206, .bool true), (207, .int .i64 30), (208, .bool true), (209, .bool true), (210, .bool true), (211, .slice (some ⟨xg, 0, none⟩) 1 cx), (212, .int .i64 1), (213, .bool true), (214, .bool true), (215, .bool true), (216, .slice (some ⟨xg, 0, none⟩) 1 cx), (217, .pointer (some ⟨xg, 0, none⟩)), (218, .agg #[.int .i64 10, .int .i64 5, .int .i64 5]), (219, v54), (220, .agg #[.int .i64 10, .int .i64 5, .int .i64 5]), (221, .bool true), (222, .bool true), (0, .bool true)]) W)) : (Code.region id wk19Reg true).wp Try.prog Q a V := by
  refine wp_region_specs_free (ops := wk19Reg) 59 (wk19S p gg hq A3 c3 A7 c7 A9 c9 bg Aa ca xg cx) (Ext V) (by kernel_rfl) (by rw [hlen]; kernel_rfl) (by kernel_rfl) ⟨rfl, rfl, rfl, Nat.le_refl _, fun _ _ => rfl⟩ (fun _ _ h e => h.trans e) wk19S_ext wk19D (by kernel_rfl) ?_ ?_
  · intro i o hi ho a' W hB hsz hold haft
    match i, hi with
    | 0, _ => exact wk19_op0 ((hold 3 (by kernel_rfl)).trans o3) ho
    | 1, _ => exact wk19_op1  ho
    | 2, _ => exact wk19_op2 hk1 hB haft ho
    | 3, _ => exact wk19_op3 haft ho
    | 4, _ => exact wk19_op4 ((hold 7 (by kernel_rfl)).trans o7) haft ho
    | 5, _ => exact wk19_op5 haft ho
    | 6, _ => exact wk19_op6 hk2 hB haft ho
    | 7, _ => exact wk19_op7 haft ho
    | 8, _ => exact wk19_op8 haft ho
    | 9, _ => exact wk19_op9 ((hold 9 (by kernel_rfl)).trans o9) haft ho
    | 10, _ => exact wk19_op10 haft ho
    | 11, _ => exact wk19_op11 hk3 hB haft ho
    | 12, _ => exact wk19_op12 haft ho
    | 13, _ => exact wk19_op13 haft ho
    | 14, _ => exact wk19_op14 ((hold 11 (by kernel_rfl)).trans o11) haft ho
    | 15, _ => exact wk19_op15 haft ho
    | 16, _ => exact wk19_op16 haft ho
    | 17, _ => exact wk19_op17 haft ho
    | 18, _ => exact wk19_op18 haft ho
    | 19, _ => exact wk19_op19 ((hold 1 (by kernel_rfl)).trans o1) q0 q1 hB haft ho
    | 20, _ => exact wk19_op20 ((hold 11 (by kernel_rfl)).trans o11) haft ho
    | 21, _ => exact wk19_op21 hk4 hB haft ho
    | 22, _ => exact wk19_op22 haft ho
    | 23, _ => exact wk19_op23 haft ho
    | 24, _ => exact wk19_op24 haft ho
    | 25, _ => exact wk19_op25 ((hold 15 (by kernel_rfl)).trans o15) haft ho
    | 26, _ => exact wk19_op26 haft ho
    | 27, _ => exact wk19_op27 haft ho
    | 28, _ => exact wk19_op28 haft ho
    | 29, _ => exact wk19_op29 ((hold 18 (by kernel_rfl)).trans o18) haft ho
    | 30, _ => exact wk19_op30 haft ho
    | 31, _ => exact wk19_op31 hk5 hB haft ho
    | 32, _ => exact wk19_op32 haft ho
    | 33, _ => exact wk19_op33 haft ho
    | 34, _ => exact wk19_op34 ((hold 21 (by kernel_rfl)).trans o21) haft ho
    | 35, _ => exact wk19_op35 haft ho
    | 36, _ => exact wk19_op36 haft ho
    | 37, _ => exact wk19_op37 haft ho
    | 38, _ => exact wk19_op38 ((hold 23 (by kernel_rfl)).trans o23) haft ho
    | 39, _ => exact wk19_op39 haft ho
    | 40, _ => exact wk19_op40 haft ho
    | 41, _ => exact wk19_op41 haft ho
    | 42, _ => exact wk19_op42 ((hold 24 (by kernel_rfl)).trans o24) haft ho
    | 43, _ => exact wk19_op43 haft ho
    | 44, _ => exact wk19_op44 haft ho
    | 45, _ => exact wk19_op45 haft ho
    | 46, _ => exact wk19_op46 ((hold 29 (by kernel_rfl)).trans o29) haft ho
    | 47, _ => exact wk19_op47 haft ho
    | 48, _ => exact wk19_op48 haft ho
    | 49, _ => exact wk19_op49 haft ho
    | 50, _ => exact wk19_op50 haft ho
    | 51, _ => exact wk19_op51 ((hold 29 (by kernel_rfl)).trans o29) haft ho
    | 52, _ => exact wk19_op52 haft ho
    | 53, _ => exact wk19_op53 x0 x1 x2 hB haft ho
    | 54, _ => exact wk19_op54 hB haft ho
    | 55, _ => exact wk19_op55 haft ho
    | 56, _ => exact wk19_op56 haft ho
    | 57, _ => exact wk19_op57 haft ho
    | 58, _ => exact wk19_op58 haft ho
    | m + 59, h => exact absurd h (by omega)
  · intro a1 W hB hsz hdf hold hS
    obtain ⟨v1, g1⟩ : ∃ v, v = a1.eval (.tmp 166) := ⟨_, rfl⟩
    obtain ⟨v2, g2⟩ : ∃ v, v = a1.eval (.tmp 167) := ⟨_, rfl⟩
    obtain ⟨v5, g5⟩ : ∃ v, v = a1.eval (.tmp 170) := ⟨_, rfl⟩
    obtain ⟨v6, g6⟩ : ∃ v, v = a1.eval (.tmp 171) := ⟨_, rfl⟩
    obtain ⟨v10, g10⟩ : ∃ v, v = a1.eval (.tmp 175) := ⟨_, rfl⟩
    obtain ⟨v11, g11⟩ : ∃ v, v = a1.eval (.tmp 176) := ⟨_, rfl⟩
    obtain ⟨v21, g21⟩ : ∃ v, v = a1.eval (.tmp 186) := ⟨_, rfl⟩
    obtain ⟨v30, g30⟩ : ∃ v, v = a1.eval (.tmp 195) := ⟨_, rfl⟩
    obtain ⟨v31, g31⟩ : ∃ v, v = a1.eval (.tmp 196) := ⟨_, rfl⟩
    obtain ⟨v54, g54⟩ : ∃ v, v = a1.eval (.tmp 219) := ⟨_, rfl⟩
    have hall : ∀ z, z ∈ ([(165, .slice A3 3 c3), (166, v1), (167, v2), (168, .bool true), (169, .slice A7 5 c7), (170, v5), (171, v6), (172, .bool true), (173, .bool true), (174, .slice A9 1 c9), (175, v10), (176, v11), (177, .bool true), (178, .bool true), (179, .slice (some ⟨bg, 0, none⟩) 2 2), (180, .int .i64 2), (181, .bool true), (182, .bool true), (183, .bool true), (184, shV gg hq), (185, .slice (some ⟨bg, 0, none⟩) 2 2), (186, v21), (187, .bool true), (188, .bool true), (189, .bool true), (190, .int .i64 5), (191, .bool true), (192, .bool true), (193, .bool true), (194, .slice Aa 2 ca), (195, v30), (196, v31), (197, .bool true), (198, .bool true), (199, .int .i64 1), (200, .bool true), (201, .bool true), (202, .bool true), (203, .int .i64 15), (204, .bool true), (205, .bool true), (206, .bool true), (207, .int .i64 30), (208, .bool true), (209, .bool true), (210, .bool true), (211, .slice (some ⟨xg, 0, none⟩) 1 cx), (212, .int .i64 1), (213, .bool true), (214, .bool true), (215, .bool true), (216, .slice (some ⟨xg, 0, none⟩) 1 cx), (217, .pointer (some ⟨xg, 0, none⟩)), (218, .agg #[.int .i64 10, .int .i64 5, .int .i64 5]), (219, v54), (220, .agg #[.int .i64 10, .int .i64 5, .int .i64 5]), (221, .bool true), (222, .bool true), (0, .bool true)] : List (Tmp × Value)) → z.1 < a.tmps.size ∧ a1.eval (.tmp z.1) = z.2 := by
      intro z hz
      rw [hlen]
      simp only [List.mem_cons, List.not_mem_nil, or_false] at hz
      rcases hz with rfl | rfl | rfl | rfl | rfl | rfl | rfl | rfl | rfl | rfl | rfl | rfl | rfl | rfl | rfl | rfl | rfl | rfl | rfl | rfl | rfl | rfl | rfl | rfl | rfl | rfl | rfl | rfl | rfl | rfl | rfl | rfl | rfl | rfl | rfl | rfl | rfl | rfl | rfl | rfl | rfl | rfl | rfl | rfl | rfl | rfl | rfl | rfl | rfl | rfl | rfl | rfl | rfl | rfl | rfl | rfl | rfl | rfl | rfl
      · exact ⟨(show (165 : Nat) < 223 by omega), hS 0 (by omega)⟩
      · exact ⟨(show (166 : Nat) < 223 by omega), g1.symm⟩
      · exact ⟨(show (167 : Nat) < 223 by omega), g2.symm⟩
      · exact ⟨(show (168 : Nat) < 223 by omega), hS 3 (by omega)⟩
      · exact ⟨(show (169 : Nat) < 223 by omega), hS 4 (by omega)⟩
      · exact ⟨(show (170 : Nat) < 223 by omega), g5.symm⟩
      · exact ⟨(show (171 : Nat) < 223 by omega), g6.symm⟩
      · exact ⟨(show (172 : Nat) < 223 by omega), hS 7 (by omega)⟩
      · exact ⟨(show (173 : Nat) < 223 by omega), hS 8 (by omega)⟩
      · exact ⟨(show (174 : Nat) < 223 by omega), hS 9 (by omega)⟩
      · exact ⟨(show (175 : Nat) < 223 by omega), g10.symm⟩
      · exact ⟨(show (176 : Nat) < 223 by omega), g11.symm⟩
      · exact ⟨(show (177 : Nat) < 223 by omega), hS 12 (by omega)⟩
      · exact ⟨(show (178 : Nat) < 223 by omega), hS 13 (by omega)⟩
      · exact ⟨(show (179 : Nat) < 223 by omega), hS 14 (by omega)⟩
      · exact ⟨(show (180 : Nat) < 223 by omega), hS 15 (by omega)⟩
      · exact ⟨(show (181 : Nat) < 223 by omega), hS 16 (by omega)⟩
      · exact ⟨(show (182 : Nat) < 223 by omega), hS 17 (by omega)⟩
      · exact ⟨(show (183 : Nat) < 223 by omega), hS 18 (by omega)⟩
      · exact ⟨(show (184 : Nat) < 223 by omega), hS 19 (by omega)⟩
      · exact ⟨(show (185 : Nat) < 223 by omega), hS 20 (by omega)⟩
      · exact ⟨(show (186 : Nat) < 223 by omega), g21.symm⟩
      · exact ⟨(show (187 : Nat) < 223 by omega), hS 22 (by omega)⟩
      · exact ⟨(show (188 : Nat) < 223 by omega), hS 23 (by omega)⟩
      · exact ⟨(show (189 : Nat) < 223 by omega), hS 24 (by omega)⟩
      · exact ⟨(show (190 : Nat) < 223 by omega), hS 25 (by omega)⟩
      · exact ⟨(show (191 : Nat) < 223 by omega), hS 26 (by omega)⟩
      · exact ⟨(show (192 : Nat) < 223 by omega), hS 27 (by omega)⟩
      · exact ⟨(show (193 : Nat) < 223 by omega), hS 28 (by omega)⟩
      · exact ⟨(show (194 : Nat) < 223 by omega), hS 29 (by omega)⟩
      · exact ⟨(show (195 : Nat) < 223 by omega), g30.symm⟩
      · exact ⟨(show (196 : Nat) < 223 by omega), g31.symm⟩
      · exact ⟨(show (197 : Nat) < 223 by omega), hS 32 (by omega)⟩
      · exact ⟨(show (198 : Nat) < 223 by omega), hS 33 (by omega)⟩
      · exact ⟨(show (199 : Nat) < 223 by omega), hS 34 (by omega)⟩
      · exact ⟨(show (200 : Nat) < 223 by omega), hS 35 (by omega)⟩
      · exact ⟨(show (201 : Nat) < 223 by omega), hS 36 (by omega)⟩
      · exact ⟨(show (202 : Nat) < 223 by omega), hS 37 (by omega)⟩
      · exact ⟨(show (203 : Nat) < 223 by omega), hS 38 (by omega)⟩
      · exact ⟨(show (204 : Nat) < 223 by omega), hS 39 (by omega)⟩
      · exact ⟨(show (205 : Nat) < 223 by omega), hS 40 (by omega)⟩
      · exact ⟨(show (206 : Nat) < 223 by omega), hS 41 (by omega)⟩
      · exact ⟨(show (207 : Nat) < 223 by omega), hS 42 (by omega)⟩
      · exact ⟨(show (208 : Nat) < 223 by omega), hS 43 (by omega)⟩
      · exact ⟨(show (209 : Nat) < 223 by omega), hS 44 (by omega)⟩
      · exact ⟨(show (210 : Nat) < 223 by omega), hS 45 (by omega)⟩
      · exact ⟨(show (211 : Nat) < 223 by omega), hS 46 (by omega)⟩
      · exact ⟨(show (212 : Nat) < 223 by omega), hS 47 (by omega)⟩
      · exact ⟨(show (213 : Nat) < 223 by omega), hS 48 (by omega)⟩
      · exact ⟨(show (214 : Nat) < 223 by omega), hS 49 (by omega)⟩
      · exact ⟨(show (215 : Nat) < 223 by omega), hS 50 (by omega)⟩
      · exact ⟨(show (216 : Nat) < 223 by omega), hS 51 (by omega)⟩
      · exact ⟨(show (217 : Nat) < 223 by omega), hS 52 (by omega)⟩
      · exact ⟨(show (218 : Nat) < 223 by omega), hS 53 (by omega)⟩
      · exact ⟨(show (219 : Nat) < 223 by omega), g54.symm⟩
      · exact ⟨(show (220 : Nat) < 223 by omega), hS 55 (by omega)⟩
      · exact ⟨(show (221 : Nat) < 223 by omega), hS 56 (by omega)⟩
      · exact ⟨(show (222 : Nat) < 223 by omega), hS 57 (by omega)⟩
      · exact ⟨(show (0 : Nat) < 223 by omega), hS 58 (by omega)⟩
    have ha := act_puts hsz hdf hall (fun t ht => hold t (all_ne_of (l := [(165, .slice A3 3 c3), (166, v1), (167, v2), (168, .bool true), (169, .slice A7 5 c7), (170, v5), (171, v6), (172, .bool true), (173, .bool true), (174, .slice A9 1 c9), (175, v10), (176, v11), (177, .bool true), (178, .bool true), (179, .slice (some ⟨bg, 0, none⟩) 2 2), (180, .int .i64 2), (181, .bool true), (182, .bool true), (183, .bool true), (184, shV gg hq), (185, .slice (some ⟨bg, 0, none⟩) 2 2), (186, v21), (187, .bool true), (188, .bool true), (189, .bool true), (190, .int .i64 5), (191, .bool true), (192, .bool true), (193, .bool true), (194, .slice Aa 2 ca), (195, v30), (196, v31), (197, .bool true), (198, .bool true), (199, .int .i64 1), (200, .bool true), (201, .bool true), (202, .bool true), (203, .int .i64 15), (204, .bool true), (205, .bool true), (206, .bool true), (207, .int .i64 30), (208, .bool true), (209, .bool true), (210, .bool true), (211, .slice (some ⟨xg, 0, none⟩) 1 cx), (212, .int .i64 1), (213, .bool true), (214, .bool true), (215, .bool true), (216, .slice (some ⟨xg, 0, none⟩) 1 cx), (217, .pointer (some ⟨xg, 0, none⟩)), (218, .agg #[.int .i64 10, .int .i64 5, .int .i64 5]), (219, v54), (220, .agg #[.int .i64 10, .int .i64 5, .int .i64 5]), (221, .bool true), (222, .bool true), (0, .bool true)]) (by kernel_rfl) ht))
    rw [ha]
    exact K W v1 v2 v5 v6 v10 v11 v21 v30 v31 v54 hB (by rw [g1]; exact hS 1 (by omega)) (by rw [g2]; exact hS 2 (by omega)) (by rw [g5]; exact hS 5 (by omega)) (by rw [g6]; exact hS 6 (by omega)) (by rw [g10]; exact hS 10 (by omega)) (by rw [g11]; exact hS 11 (by omega)) (by rw [g21]; exact hS 21 (by omega)) (by rw [g30]; exact hS 30 (by omega)) (by rw [g31]; exact hS 31 (by omega)) (by rw [g54]; exact hS 54 (by omega))
end
end Go.Proofs.Ytlaakmgdbhabfaa

/- Works. -/
namespace Go.Proofs.Ytlaakmgdbhabfaa
open Go.RowKit Go.Shelf
attribute [local irreducible] bitCells fitCells Z94 fitOf

theorem held_prefix {w : World} {B k : Nat} {enc : (Int × Int) → List Value} {A : Option Addr} {xs ys : List (Int × Int)} (h : Held w B k enc A ys) (hx : ∀ (j : Nat) (x : Int × Int), xs[j]? = some x → ys[j]? = some x) : Held w B k enc A xs := by
  rcases h with rfl | ⟨b, off, rfl, hlt, hc⟩
  · left
    cases xs with
    | nil => rfl
    | cons x xs => have := hx 0 x rfl; simp at this
  · exact .inr ⟨b, off, rfl, hlt, fun j x hj => hc j x (hx j x hj)⟩
theorem ints_held {W : World} {base : Nat} {xs : List Int} {A : Option Addr} {n c : Nat} (h : MadeInts base xs W (.slice A n c)) (hn : n = xs.length) : Held W W.heap.size 1 encI A xs := by
  have h1 := h.1
  rw [show xs.map (Value.int .i64) = xs.flatMap encI from by clear h h1 hn; induction xs <;> simp_all [encI], ← hn] at h1
  exact (own_held (enc := encI) (fun _ => rfl) hn h1).1
theorem longs_held {W : World} {base : Nat} {xs : List Int} {A : Option Addr} {n c : Nat} (h : MadeLongs base xs W (.slice A n c)) (hn : n = xs.length) : Held W W.heap.size 1 encI A xs := by
  have h1 := h.1
  rw [show xs.map (Value.int .i64) = xs.flatMap encI from by clear h h1 hn; induction xs <;> simp_all [encI], ← hn] at h1
  exact (own_held (enc := encI) (fun _ => rfl) hn h1).1
theorem nums_at : ∀ (r : List Int) (j : Nat), (r.flatMap encI)[j]? = (r[j]?).map (Value.int .i64)
  | [], j => by simp
  | x :: r, 0 => by simp [encI]
  | x :: r, j + 1 => by
    rw [List.flatMap_cons, List.getElem?_cons_succ, ← nums_at r j]
    simp [encI]
theorem held_nums_row {w : World} {g : Nat} {t : TypeId} {cs : Array Value} {xs : List Int} (hg : w.heap[g]? = some (.cells cs t (0, 0))) (hcs : cs.toList = xs.flatMap encI) : Held w w.heap.size 1 encI (some ⟨g, 0, none⟩) xs := by
  refine .inr ⟨g, 0, rfl, (Array.getElem?_eq_some_iff.1 hg).1, fun j x hx i v hv => ?_⟩
  have hi : i = 0 := by have := (List.getElem?_eq_some_iff.1 hv).1; simpa [encI] using this
  subst hi
  refine (cell_of_row _ _ _ _ _ _ hg).trans ?_
  rw [← Array.getElem?_toList, hcs, nums_at, show 0 + j * 1 + 0 = j from by omega, hx]
  simpa [encI] using hv
theorem made_slice {base : Nat} {xs : List Int} {W : World} {v : Value} (h : MadeInts base xs W v) : ∃ A c, v = .slice A xs.length c := owns_slice h.1
theorem made_slice2 {base : Nat} {xs : List Int} {W : World} {v : Value} (h : MadeLongs base xs W v) : ∃ A c, v = .slice A xs.length c := owns_slice h.1

abbrev nil25 : Array Value := #[.slice none 0 0, .slice none 0 0]
set_option maxRecDepth 100000 in
set_option maxHeartbeats 8000000 in
theorem works_any (w : World) : Calls Try.prog 16 #[] w fun e w' => e = .returned (.bool true) ∧ Ext w w' := by
  have hs1 := sheet_any w
  go_enter Try.func16, Try.ntmps16
  go_wp2_with (fail)
  refine hs1.mono ?_
  rintro e w1 ⟨g, h, rfl, e1, hg, hh, r1, r2⟩
  have hs2 := sheet_any w1
  clear hs1
  go_wp2_with (fail)
  refine hs2.mono ?_
  rintro e w2 ⟨g2, h2, rfl, e2, hg2, hh2, r3, r4⟩
  have r1' := row_ext r1 e2
  have r2' := row_ext r2 e2
  have eA : Ext w2 ((w2.alloc (.cells nil25 25)).alloc (.cells nil25 25)) := (ext_alloc _ _).trans (ext_alloc _ _)
  have hp : ((w2.alloc (.cells nil25 25)).alloc (.cells nil25 25)).heap[w2.heap.size]? = some (.cells nil25 25 (0, 0)) := row_alloc _ _ _ _ (row_last _ _ _ rfl)
  have hq : ((w2.alloc (.cells nil25 25)).alloc (.cells nil25 25)).heap[w2.heap.size + 1]? = some (.cells nil25 25 (0, 0)) := row_last _ _ _ (by simp)
  clear hs2
  obtain ⟨w3, hw3⟩ : ∃ w3, (w2.alloc (.cells nil25 25)).alloc (.cells nil25 25) = w3 := ⟨_, rfl⟩
  have HE0 := Lib.hid ((e1.trans e2).trans (by rw [← hw3]; exact eA : Ext w2 w3))
  rw [hw3] at eA hp hq
  have c0 : w3.cell? ⟨w2.heap.size, 0, none⟩ = some (.slice none 0 0) := cell_of_row _ _ _ _ _ _ hp
  have c1 : w3.cell? ⟨w2.heap.size, 1, none⟩ = some (.slice none 0 0) := cell_of_row _ _ _ _ _ _ hp
  have d0 : w3.cell? ⟨w2.heap.size + 1, 0, none⟩ = some (.slice none 0 0) := cell_of_row _ _ _ _ _ _ hq
  have d1 : w3.cell? ⟨w2.heap.size + 1, 1, none⟩ = some (.slice none 0 0) := cell_of_row _ _ _ _ _ _ hq
  have f0 : w3.frozen? ⟨w2.heap.size, 0, none⟩ = false := by simp [World.frozen?, hp]
  have f1 : w3.frozen? ⟨w2.heap.size, 1, none⟩ = false := by simp [World.frozen?, hp]
  have k0 : w3.frozen? ⟨w2.heap.size + 1, 0, none⟩ = false := by simp [World.frozen?, hq]
  have k1 : w3.frozen? ⟨w2.heap.size + 1, 1, none⟩ = false := by simp [World.frozen?, hq]
  go_upto_region 3 with fail
  obtain ⟨p, hpe⟩ : ∃ p, w2.heap.size = p := ⟨_, rfl⟩
  have hlg : g < p := by rw [← hpe]; exact (Array.getElem?_eq_some_iff.1 r1').1
  have hlh : h < p := by rw [← hpe]; exact (Array.getElem?_eq_some_iff.1 r2').1
  have hlg2 : g2 < p := by rw [← hpe]; exact (Array.getElem?_eq_some_iff.1 r3).1
  have hlh2 : h2 < p := by rw [← hpe]; exact (Array.getElem?_eq_some_iff.1 r4).1
  have hwp : w.heap.size ≤ p := by rw [← hpe]; exact (e1.trans e2).size
  rw [hpe] at hp hq ⊢
  have r1' := row_ext r1' eA
  have r2' := row_ext r2' eA
  have r3 := row_ext r3 eA
  have r4 := row_ext r4 eA
  obtain ⟨w5, hw5⟩ : ∃ w5, ((((w3.setCell ⟨p, 0, none⟩ (.slice (some ⟨g, 0, none⟩) 2 2)).setCell ⟨p, 1, none⟩ (.slice (some ⟨h, 0, none⟩) 5 5)).setCell ⟨p + 1, 0, none⟩ (.slice (some ⟨g2, 0, none⟩) 2 2)).setCell ⟨p + 1, 1, none⟩ (.slice (some ⟨h2, 0, none⟩) 5 5)).setCell ⟨p + 1, 0, none⟩ (.slice (some ⟨g2, 0, none⟩) 1 2) = w5 := ⟨_, rfl⟩
  have hoth : ∀ b, b < p → w5.heap[b]? = w3.heap[b]? := fun b hb => by
    rw [← hw5, heap_set_other _ _ _ _ _ (by omega), heap_set_other _ _ _ _ _ (by omega), heap_set_other _ _ _ _ _ (by omega), heap_set_other _ _ _ _ _ (by omega), heap_set_other _ _ _ _ _ (by omega)]
  have hrp : w5.heap[p]? = some (.cells #[.slice (some ⟨g, 0, none⟩) 2 2, .slice (some ⟨h, 0, none⟩) 5 5] 25 (0, 0)) := by
    rw [← hw5, heap_set_other _ _ _ _ _ (by omega), heap_set_other _ _ _ _ _ (by omega), heap_set_other _ _ _ _ _ (by omega)]
    exact row_setCell _ _ _ _ _ _ _ (row_setCell _ _ _ _ _ _ _ hp)
  have hrq : w5.heap[p + 1]? = some (.cells #[.slice (some ⟨g2, 0, none⟩) 1 2, .slice (some ⟨h2, 0, none⟩) 5 5] 25 (0, 0)) := by
    rw [← hw5]
    have h3 : ((w3.setCell ⟨p, 0, none⟩ (.slice (some ⟨g, 0, none⟩) 2 2)).setCell ⟨p, 1, none⟩ (.slice (some ⟨h, 0, none⟩) 5 5)).heap[p + 1]? = some (.cells nil25 25 (0, 0)) := by
      rw [heap_set_other _ _ _ _ _ (by omega), heap_set_other _ _ _ _ _ (by omega)]
      exact hq
    exact row_setCell _ _ _ _ _ _ _ (row_setCell _ _ _ _ _ _ _ (row_setCell _ _ _ _ _ _ _ h3))
  have hEx : Ext w w5 := by
    rw [← hw5]
    exact ((((HE0.out.setCell hwp _).setCell hwp _).setCell (Nat.le_succ_of_le hwp) _).setCell (Nat.le_succ_of_le hwp) _).setCell (Nat.le_succ_of_le hwp) _
  have hS : SheetAt w5 p (some ⟨g, 0, none⟩) 2 2 (some ⟨h, 0, none⟩) 5 5 SC SM := ⟨hrp, sheet_is (by rw [hoth g hlg]; exact r1') (by rw [hoth h hlh]; exact r2')⟩
  have hTt := sheet_is (w := w5) (by rw [hoth g2 hlg2]; exact r3) (by rw [hoth h2 hlh2]; exact r4)
  have hT : SheetAt w5 (p + 1) (some ⟨g2, 0, none⟩) 1 2 (some ⟨h2, 0, none⟩) 5 5 [(10, 3)] SM := ⟨hrq, ⟨rfl, rfl, by decide, by decide, by decide, by decide, held_prefix hTt.hcs (fun j x hj => by
    match j with
    | 0 => simpa using hj
    | j + 1 => simp at hj), hTt.hms⟩⟩
  rw [hw5]
  have HS := Lib.hid hS
  have HT := Lib.hid hT
  have HE := Lib.hid hEx
  clear hS hT hTt hEx hrp hrq hoth hw5 c0 c1 d0 d1 f0 f1 k0 k1 hw3 hp hq eA r1 r2 r1' r2' r3 r4 e1 e2 hpe hlg hlh hlg2 hlh2 hwp hg hh hg2 hh2 HE0
  refine wk3_wp (p := p) (gg := g) (hq := h) rfl rfl (fun W hW => (HS.out.ext hW).cells.1) (fun W hW => (HS.out.ext hW).cells.2) (fun W hW => (has2_any (HS.out.ext hW).sheet (0, 5)).mono ?_) ?_
  · rintro e w' ⟨hx, ⟨hne, _⟩ | ⟨_, v, rfl, hM⟩⟩
    · exact absurd kHas.2 hne
    · rw [kHas.1] at hM
      exact ⟨_, rfl, ⟨v, rfl, hM.mono (Nat.zero_le _)⟩, hx⟩
  intro w6 v1 v2 v3 v4 v6 e6 i1 i2 i3 i4 i6
  have hdr : wk3Reg.toList.drop 8 = [] := List.drop_eq_nil_of_le (by rw [Array.length_toList]; exact Nat.le_of_eq (by kernel_rfl))
  rw [hdr]
  simp only [wpList, puts, List.foldl_cons, List.foldl_nil, Act.put, List.setIfInBounds_toArray, List.set_cons_succ, List.set_cons_zero]
  clear hdr
  obtain ⟨A3, c3, rfl⟩ := made_slice (show MadeInts 0 [0, 1, 3] w6 v6 from i6)
  have H3 := Lib.hid (ints_held (show MadeInts 0 [0, 1, 3] w6 _ from i6) rfl)
  have HS := Lib.hid (HS.out.ext e6)
  have HT := Lib.hid (HT.out.ext e6)
  have HE := Lib.hid (HE.out.trans e6)
  clear i1 i2 i3 i4 i6 e6
  go_upto_region 4 with fail
  refine wk4_wp (p := p) (gg := g) (hq := h) rfl rfl (fun W hW => (HS.out.ext hW).cells.1) (fun W hW => (HS.out.ext hW).cells.2) (fun W hW => (has2_any (HS.out.ext hW).sheet (0, 6)).mono ?_) ?_
  · rintro e w' ⟨hx, ⟨_, rfl⟩ | ⟨hne, _⟩⟩
    · rw [kHas6]; exact ⟨_, rfl, rfl, hx⟩
    · rw [kHas6] at hne; cases hne
  intro w7 v1 v2 e7 i1 i2
  have hdr : wk4Reg.toList.drop 8 = [] := List.drop_eq_nil_of_le (by rw [Array.length_toList]; exact Nat.le_of_eq (by kernel_rfl))
  rw [hdr]
  simp only [wpList, puts, List.foldl_cons, List.foldl_nil, Act.put, List.setIfInBounds_toArray, List.set_cons_succ, List.set_cons_zero]
  clear hdr
  have HS := Lib.hid (HS.out.ext e7)
  have HT := Lib.hid (HT.out.ext e7)
  have HE := Lib.hid (HE.out.trans e7)
  have H3 := Lib.hid (Held.ext H3.out e7)
  clear i1 i2 e7
  obtain ⟨s0, s1⟩ := HS.out.cells
  obtain ⟨t0, t1⟩ := HT.out.cells
  go_wp2_with (fail)
  refine (places_any HS.out.sheet 1).mono ?_
  rintro e w8 ⟨e8, ⟨hne, _⟩ | ⟨_, v, rfl, hM⟩⟩
  · exact absurd kPlaces.2 hne
  rw [kPlaces.1] at hM
  obtain ⟨A7, c7, rfl⟩ := made_slice2 hM
  have H7n := longs_held hM rfl
  have HS := Lib.hid (HS.out.ext e8)
  have HT := Lib.hid (HT.out.ext e8)
  have HE := Lib.hid (HE.out.trans e8)
  have H3 := Lib.hid (Held.ext H3.out e8)
  have H7 := Lib.hid H7n
  clear H7n hM
  clear s0 s1 t0 t1 e8
  obtain ⟨s0, s1⟩ := HS.out.cells
  obtain ⟨t0, t1⟩ := HT.out.cells
  go_wp2_with (fail)
  refine (lost_any HT.out.sheet).mono ?_
  rintro e w9 ⟨e9, ⟨hne, _⟩ | ⟨_, v, rfl, hM⟩⟩
  · exact absurd kSheetT hne
  rw [kLostT] at hM
  obtain ⟨A9, c9, rfl⟩ := made_slice hM
  have H9n := ints_held hM rfl
  have HS := Lib.hid (HS.out.ext e9)
  have HT := Lib.hid (HT.out.ext e9)
  have HE := Lib.hid (HE.out.trans e9)
  have H3 := Lib.hid (Held.ext H3.out e9)
  have H7 := Lib.hid (Held.ext H7.out e9)
  have H9 := Lib.hid H9n
  clear H9n hM
  clear s0 s1 t0 t1 e9
  obtain ⟨s0, s1⟩ := HS.out.cells
  obtain ⟨t0, t1⟩ := HT.out.cells
  go_wp2_with (fail)
  refine (best_any HS.out.sheet).mono ?_
  rintro e w10 ⟨e10, ⟨hne, _⟩ | ⟨_, bg, rfl, hbg, hrb⟩⟩
  · exact absurd kWhole hne
  rw [kBest] at hrb ⊢
  have HS := Lib.hid (HS.out.ext e10)
  have HT := Lib.hid (HT.out.ext e10)
  have HE := Lib.hid (HE.out.trans e10)
  have H3 := Lib.hid (Held.ext H3.out e10)
  have H7 := Lib.hid (Held.ext H7.out e10)
  have H9 := Lib.hid (Held.ext H9.out e10)
  have HB := Lib.hid hrb
  clear hrb hbg
  clear s0 s1 t0 t1 e10
  obtain ⟨s0, s1⟩ := HS.out.cells
  obtain ⟨t0, t1⟩ := HT.out.cells
  go_wp2_with (fail)
  refine (best_any HT.out.sheet).mono ?_
  rintro e w11 ⟨e11, ⟨_, rfl⟩ | ⟨hne, _⟩⟩
  rotate_left
  · rw [kWholeT] at hne; cases hne
  rw [kWholeT]
  have HS := Lib.hid (HS.out.ext e11)
  have HT := Lib.hid (HT.out.ext e11)
  have HE := Lib.hid (HE.out.trans e11)
  have H3 := Lib.hid (Held.ext H3.out e11)
  have H7 := Lib.hid (Held.ext H7.out e11)
  have H9 := Lib.hid (Held.ext H9.out e11)
  have HB := Lib.hid (row_ext HB.out e11)
  clear s0 s1 t0 t1 e11
  obtain ⟨s0, s1⟩ := HS.out.cells
  obtain ⟨t0, t1⟩ := HT.out.cells
  go_wp2_with (fail)
  refine (count_any HS.out.sheet).mono ?_
  rintro e w12 ⟨e12, P, hK, rfl⟩
  have hcn : countAns SC SM P = (5, 0) := by unfold countAns; rw [if_pos kWhole, kWays P (hK kWhole), if_neg (by decide)]
  rw [hcn]
  clear hcn hK
  have HS := Lib.hid (HS.out.ext e12)
  have HT := Lib.hid (HT.out.ext e12)
  have HE := Lib.hid (HE.out.trans e12)
  have H3 := Lib.hid (Held.ext H3.out e12)
  have H7 := Lib.hid (Held.ext H7.out e12)
  have H9 := Lib.hid (Held.ext H9.out e12)
  have HB := Lib.hid (row_ext HB.out e12)
  clear s0 s1 t0 t1 e12
  dsimp only
  go_upto_region 10 with fail
  refine wk10_wp (p := p) (gg := g) (hq := h) rfl rfl (fun W hW => (HS.out.ext hW).cells.1) (fun W hW => (HS.out.ext hW).cells.2) (fun W b hW hb => (checkRows_any (HS.out.ext hW).sheet (some ⟨b, 0, none⟩) 2 2 [(0, 5), (0, 15)] rfl (by decide) (held_row hb rfl)).mono ?_) ?_
  · rintro e w' ⟨rfl, hx⟩
    rw [kRows]
    exact ⟨rfl, hx⟩
  intro w13 v1 v2 v3 v4 e13 i1 i2 i3 i4
  have hdr : wk10Reg.toList.drop 6 = [] := List.drop_eq_nil_of_le (by rw [Array.length_toList]; exact Nat.le_of_eq (by kernel_rfl))
  rw [hdr]
  simp only [wpList, puts, List.foldl_cons, List.foldl_nil, Act.put, List.setIfInBounds_toArray, List.set_cons_succ, List.set_cons_zero]
  clear hdr
  have HS := Lib.hid (HS.out.ext e13)
  have HT := Lib.hid (HT.out.ext e13)
  have HE := Lib.hid (HE.out.trans e13)
  have H3 := Lib.hid (Held.ext H3.out e13)
  have H7 := Lib.hid (Held.ext H7.out e13)
  have H9 := Lib.hid (Held.ext H9.out e13)
  have HB := Lib.hid (row_ext HB.out e13)
  clear i1 i2 i3 i4 e13
  obtain ⟨s0, s1⟩ := HS.out.cells
  obtain ⟨t0, t1⟩ := HT.out.cells
  go_wp2_with (fail)
  refine (apart_any HS.out.sheet).mono ?_
  rintro e w14 ⟨e14, v, rfl, hL⟩
  rw [if_pos kSheet, kApart] at hL
  rw [kSheet]
  obtain ⟨Aa, ca, rfl, _, _, hLh⟩ := hL
  have HAn : Held w14 w14.heap.size 1 encI Aa [0, 4] := by
    rcases hLh with h9 | ⟨b, off, rfl, hlt, hc⟩
    · cases h9
    · refine .inr ⟨b, off, rfl, hlt, fun j x hx i v hv => hc j x.toNat ?_ i v ?_⟩
      · match j, hx with
        | 0, hx => cases hx; rfl
        | 1, hx => cases hx; rfl
        | j + 2, hx => simp at hx
      · match j, hx with
        | 0, hx => cases hx; exact hv
        | 1, hx => cases hx; exact hv
        | j + 2, hx => simp at hx
  have HS := Lib.hid (HS.out.ext e14)
  have HT := Lib.hid (HT.out.ext e14)
  have HE := Lib.hid (HE.out.trans e14)
  have H3 := Lib.hid (Held.ext H3.out e14)
  have H7 := Lib.hid (Held.ext H7.out e14)
  have H9 := Lib.hid (Held.ext H9.out e14)
  have HB := Lib.hid (row_ext HB.out e14)
  have HA := Lib.hid HAn
  clear HAn hLh
  clear s0 s1 t0 t1 e14
  obtain ⟨s0, s1⟩ := HS.out.cells
  obtain ⟨t0, t1⟩ := HT.out.cells
  have hr9 : (w14.alloc (.cells #[.int .i64 0, .int .i64 2] 3)).heap[w14.heap.size]? = some (.cells #[.int .i64 0, .int .i64 2] 3 (0, 0)) := row_last _ _ _ rfl
  have h30 := checkApart_any (HS.out.ext (ext_alloc w14 (.cells #[.int .i64 0, .int .i64 2] 3))).sheet (some ⟨w14.heap.size, 0, none⟩) 2 2 [0, 2] rfl (by decide) (held_nums_row hr9 rfl)
  clear hr9
  go_wp2_with (fail)
  refine h30.mono ?_
  rintro e w15 ⟨rfl, e15'⟩
  rw [kCheckApart]
  have e15 := (ext_alloc w14 (.cells #[.int .i64 0, .int .i64 2] 3)).trans e15'
  have HS := Lib.hid (HS.out.ext e15)
  have HT := Lib.hid (HT.out.ext e15)
  have HE := Lib.hid (HE.out.trans e15)
  have H3 := Lib.hid (Held.ext H3.out e15)
  have H7 := Lib.hid (Held.ext H7.out e15)
  have H9 := Lib.hid (Held.ext H9.out e15)
  have HB := Lib.hid (row_ext HB.out e15)
  have HA := Lib.hid (Held.ext HA.out e15)
  clear s0 s1 t0 t1 e15 e15' h30
  go_upto_region 13 with fail
  refine wk13_wp (p := p) (gg := g) (hq := h) rfl rfl (fun W hW => (HS.out.ext hW).cells.1) (fun W hW => (HS.out.ext hW).cells.2) (fun W hW => (kind2_any (HS.out.ext hW).sheet (0, 5)).mono ?_) ?_
  · rintro e w' ⟨rfl, hx⟩
    rw [kKind]
    exact ⟨_, rfl, rfl, hx⟩
  intro w16 v1 v2 e16 i1 i2
  have hdr : wk13Reg.toList.drop 8 = [] := List.drop_eq_nil_of_le (by rw [Array.length_toList]; exact Nat.le_of_eq (by kernel_rfl))
  rw [hdr]
  simp only [wpList, puts, List.foldl_cons, List.foldl_nil, Act.put, List.setIfInBounds_toArray, List.set_cons_succ, List.set_cons_zero]
  clear hdr
  have HS := Lib.hid (HS.out.ext e16)
  have HT := Lib.hid (HT.out.ext e16)
  have HE := Lib.hid (HE.out.trans e16)
  have H3 := Lib.hid (Held.ext H3.out e16)
  have H7 := Lib.hid (Held.ext H7.out e16)
  have H9 := Lib.hid (Held.ext H9.out e16)
  have HB := Lib.hid (row_ext HB.out e16)
  have HA := Lib.hid (Held.ext HA.out e16)
  clear i1 i2 e16
  obtain ⟨s0, s1⟩ := HS.out.cells
  obtain ⟨t0, t1⟩ := HT.out.cells
  go_wp2_with (fail)
  refine (meet_any 10 15 5 0 w16).mono ?_
  rintro e w17 ⟨rfl, e17⟩
  rw [kMeet]
  dsimp only
  have HS := Lib.hid (HS.out.ext e17)
  have HT := Lib.hid (HT.out.ext e17)
  have HE := Lib.hid (HE.out.trans e17)
  have H3 := Lib.hid (Held.ext H3.out e17)
  have H7 := Lib.hid (Held.ext H7.out e17)
  have H9 := Lib.hid (Held.ext H9.out e17)
  have HB := Lib.hid (row_ext HB.out e17)
  have HA := Lib.hid (Held.ext HA.out e17)
  clear s0 s1 t0 t1 e17
  obtain ⟨s0, s1⟩ := HS.out.cells
  obtain ⟨t0, t1⟩ := HT.out.cells
  go_wp2_with (fail)
  refine (meet_any 10 15 0 7 w17).mono ?_
  rintro e w18 ⟨rfl, e18⟩
  rw [kMeet2]
  dsimp only
  have HS := Lib.hid (HS.out.ext e18)
  have HT := Lib.hid (HT.out.ext e18)
  have HE := Lib.hid (HE.out.trans e18)
  have H3 := Lib.hid (Held.ext H3.out e18)
  have H7 := Lib.hid (Held.ext H7.out e18)
  have H9 := Lib.hid (Held.ext H9.out e18)
  have HB := Lib.hid (row_ext HB.out e18)
  have HA := Lib.hid (Held.ext HA.out e18)
  clear s0 s1 t0 t1 e18
  obtain ⟨s0, s1⟩ := HS.out.cells
  obtain ⟨t0, t1⟩ := HT.out.cells
  go_wp2_with (fail)
  refine (rg_any 5 6 w18).mono ?_
  rintro e w19 ⟨rfl, e19⟩
  have HS := Lib.hid (HS.out.ext e19)
  have HT := Lib.hid (HT.out.ext e19)
  have HE := Lib.hid (HE.out.trans e19)
  have H3 := Lib.hid (Held.ext H3.out e19)
  have H7 := Lib.hid (Held.ext H7.out e19)
  have H9 := Lib.hid (Held.ext H9.out e19)
  have HB := Lib.hid (row_ext HB.out e19)
  have HA := Lib.hid (Held.ext HA.out e19)
  clear s0 s1 t0 t1 e19
  obtain ⟨s0, s1⟩ := HS.out.cells
  obtain ⟨t0, t1⟩ := HT.out.cells
  go_wp2_with (fail)
  refine (rg_any 15 15 w19).mono ?_
  rintro e w20 ⟨rfl, e20⟩
  have HS := Lib.hid (HS.out.ext e20)
  have HT := Lib.hid (HT.out.ext e20)
  have HE := Lib.hid (HE.out.trans e20)
  have H3 := Lib.hid (Held.ext H3.out e20)
  have H7 := Lib.hid (Held.ext H7.out e20)
  have H9 := Lib.hid (Held.ext H9.out e20)
  have HB := Lib.hid (row_ext HB.out e20)
  have HA := Lib.hid (Held.ext HA.out e20)
  clear s0 s1 t0 t1 e20
  obtain ⟨s0, s1⟩ := HS.out.cells
  obtain ⟨t0, t1⟩ := HT.out.cells
  go_wp2_with (fail)
  refine (rg_any 25 26 w20).mono ?_
  rintro e w21 ⟨rfl, e21⟩
  have HS := Lib.hid (HS.out.ext e21)
  have HT := Lib.hid (HT.out.ext e21)
  have HE := Lib.hid (HE.out.trans e21)
  have H3 := Lib.hid (Held.ext H3.out e21)
  have H7 := Lib.hid (Held.ext H7.out e21)
  have H9 := Lib.hid (Held.ext H9.out e21)
  have HB := Lib.hid (row_ext HB.out e21)
  have HA := Lib.hid (Held.ext HA.out e21)
  clear s0 s1 t0 t1 e21
  have hr9 : (w21.alloc (.cells #[.int .i64 5, .int .i64 6, .int .i64 15, .int .i64 15, .int .i64 25, .int .i64 26] 75)).heap[w21.heap.size]? = some (.cells #[.int .i64 5, .int .i64 6, .int .i64 15, .int .i64 15, .int .i64 25, .int .i64 26] 75 (0, 0)) := row_last _ _ _ rfl
  have h36 := spaces_any (some ⟨w21.heap.size, 0, none⟩) 3 3 [(5, 6), (15, 15), (25, 26)] (w21.alloc (.cells #[.int .i64 5, .int .i64 6, .int .i64 15, .int .i64 15, .int .i64 25, .int .i64 26] 75)) rfl (by decide) (held_row hr9 rfl)
  clear hr9
  go_wp2_with (fail)
  refine h36.mono ?_
  rintro e w22 ⟨e22', ⟨hne, _⟩ | ⟨_, v, rfl, hM⟩⟩
  · exact absurd kSpaces.2 hne
  rw [kSpaces.1] at hM
  have e22 := (ext_alloc w21 (.cells #[.int .i64 5, .int .i64 6, .int .i64 15, .int .i64 15, .int .i64 25, .int .i64 26] 75)).trans e22'
  obtain ⟨xg, cx, rfl, y0, y1, y2, hxg⟩ : ∃ xg cx, v = .slice (some ⟨xg, 0, none⟩) 1 cx ∧ w22.cell? ⟨xg, 0, none⟩ = some (.int .i64 10) ∧ w22.cell? ⟨xg, 1, none⟩ = some (.int .i64 5) ∧ w22.cell? ⟨xg, 2, none⟩ = some (.int .i64 5) ∧ xg < w22.heap.size := by
    rcases hM.1.2 with ⟨_, h9⟩ | ⟨g9, cap, cur, hv, _, hg9, _, _, _, h4⟩
    · cases h9
    · have hc : ∀ i u, ([.int .i64 10, .int .i64 5, .int .i64 5] : List Value)[i]? = some u → w22.cell? ⟨g9, i, none⟩ = some u := fun i u hu => by
        refine (cell_of_row _ _ _ _ _ _ hg9).trans ?_
        have hu' := hu
        rw [show ([.int .i64 10, .int .i64 5, .int .i64 5] : List Value) = [((10 : Int), (5 : Int), (5 : Int))].flatMap encD from rfl, ← h4, List.getElem?_take] at hu
        split at hu
        · rw [← Array.getElem?_toList]; exact hu
        · cases hu
      exact ⟨g9, cap, hv, hc 0 _ rfl, hc 1 _ rfl, hc 2 _ rfl, (Array.getElem?_eq_some_iff.1 hg9).1⟩
  have HS := Lib.hid (HS.out.ext e22)
  have HT := Lib.hid (HT.out.ext e22)
  have HE := Lib.hid (HE.out.trans e22)
  have H3 := Lib.hid (Held.ext H3.out e22)
  have H7 := Lib.hid (Held.ext H7.out e22)
  have H9 := Lib.hid (Held.ext H9.out e22)
  have HB := Lib.hid (row_ext HB.out e22)
  have HA := Lib.hid (Held.ext HA.out e22)
  have HY := Lib.hid (And.intro y0 (And.intro y1 (And.intro y2 hxg)))
  clear e22 e22' h36 hM y0 y1 y2 hxg
  go_upto_region 19 with fail
  have hce : ∀ {W V : World} {b i : Nat} {v : Value}, Ext W V → b < W.heap.size → W.cell? ⟨b, i, none⟩ = some v → V.cell? ⟨b, i, none⟩ = some v := fun {W V b i v} e hb hc => (e.cell (p := ⟨b, i, none⟩) hb).trans hc
  refine wk19_wp (p := p) (gg := g) (hq := h) (A3 := A3) (c3 := c3) (A7 := A7) (c7 := c7) (A9 := A9) (c9 := c9) (bg := bg) (Aa := Aa) (ca := ca) (xg := xg) (cx := cx) rfl rfl rfl rfl rfl rfl rfl rfl rfl rfl rfl rfl
    (fun W b hW hb => (ints_any A3 _ 3 c3 3 3 [0, 1, 3] [0, 1, 3] W rfl rfl (by decide) (by decide) (Held.ext H3.out hW) (held_nums_row hb rfl)).mono ?_)
    (fun W b hW hb => (longs_any A7 _ 5 c7 5 5 [5, 6, 20, 21, 22] [5, 6, 20, 21, 22] W rfl rfl (by decide) (by decide) (Held.ext H7.out hW) (held_nums_row hb rfl)).mono ?_)
    (fun W b hW hb => (ints_any A9 _ 1 c9 1 1 [2] [2] W rfl rfl (by decide) (by decide) (Held.ext H9.out hW) (held_nums_row hb rfl)).mono ?_)
    (fun W hW => (HS.out.ext hW).cells.1) (fun W hW => (HS.out.ext hW).cells.2)
    (fun W hW => (refCheck_any (HS.out.ext hW).sheet (some ⟨bg, 0, none⟩) 2 2 [(0, 5), (1, 20)] rfl (by decide) (held_row (row_ext HB.out hW) rfl)).mono ?_)
    (fun W b hW hb => (ints_any Aa _ 2 ca 2 2 [0, 4] [0, 4] W rfl rfl (by decide) (by decide) (Held.ext HA.out hW) (held_nums_row hb rfl)).mono ?_)
    (fun W hW => hce hW HY.out.2.2.2 HY.out.1) (fun W hW => hce hW HY.out.2.2.2 HY.out.2.1) (fun W hW => hce hW HY.out.2.2.2 HY.out.2.2.1) ?_
  · rintro e w' ⟨rfl, hx⟩
    exact ⟨rfl, hx⟩
  · rintro e w' ⟨rfl, hx⟩
    exact ⟨rfl, hx⟩
  · rintro e w' ⟨rfl, hx⟩
    exact ⟨rfl, hx⟩
  · rintro e w' ⟨rfl, hx⟩
    rw [kRowsB]
    exact ⟨rfl, hx⟩
  · rintro e w' ⟨rfl, hx⟩
    exact ⟨rfl, hx⟩
  intro w23 u1 u2 u5 u6 u10 u11 u21 u30 u31 u54 e23 _ _ _ _ _ _ _ _ _ _
  have hdr : wk19Reg.toList.drop 59 = [] := List.drop_eq_nil_of_le (by rw [Array.length_toList]; exact Nat.le_of_eq (by kernel_rfl))
  rw [hdr]
  simp only [wpList, puts, List.foldl_cons, List.foldl_nil, Act.put, List.setIfInBounds_toArray, List.set_cons_succ, List.set_cons_zero]
  clear hdr
  have HF := Lib.hid (HE.out.trans e23)
  clear e23
  go_wp2
  go_ret
  exact ⟨rfl, HF.out⟩
end Go.Proofs.Ytlaakmgdbhabfaa

/- Fewest rows, in plain mathematics: what the table holds. -/
namespace Go.Proofs.Ytlaakmgdbhabfaa
open Go.RowKit Go.Shelf

/-- Each of the marks s is had by one of the rows l. -/
def Cov (no : Rw → Nat) (l : List Rw) (s : Nat) : Prop := ∀ i, s.testBit i = true → ∃ x, x ∈ l ∧ (no x).testBit i = true
/-- o is a least list of rows of xs that has the marks s, or there is none. -/
def IsMin (no : Rw → Nat) (xs : List Rw) (s : Nat) (o : Option (List Rw)) : Prop :=
  match o with
  | none => ∀ l : List Rw, (∀ x, x ∈ l → x ∈ xs) → ¬ Cov no l s
  | some r => (∀ x, x ∈ r → x ∈ xs) ∧ Cov no r s ∧ ∀ l : List Rw, (∀ x, x ∈ l → x ∈ xs) → Cov no l s → r.length ≤ l.length
/-- What is held behind the rows that were looked at. -/
def AccOk (no : Rw → Nat) (xs : List Rw) (tab : List (Option (List Rw))) (s : Nat) (seen : List Rw) (acc : Option (List Rw)) : Prop :=
  match acc with
  | none => ∀ x, x ∈ seen → butNot s (no x) ≠ s → tab.getD (butNot s (no x)) none = none
  | some p => (∀ x, x ∈ p → x ∈ xs) ∧ Cov no p s ∧ ∀ x, x ∈ seen → butNot s (no x) ≠ s → ∀ q, tab.getD (butNot s (no x)) none = some q → p.length ≤ q.length + 1

theorem butNot_lt {a b : Nat} (h : butNot a b ≠ a) : butNot a b < a := by
  have := butNot_le a b
  omega
theorem butNot_ne {a b i : Nat} (h1 : a.testBit i = true) (h2 : b.testBit i = true) : butNot a b ≠ a := by
  intro e
  have : (butNot a b).testBit i = a.testBit i := by rw [e]
  rw [butNot_bit, h1, h2] at this
  cases this
theorem cov_snoc {no : Rw → Nat} {q : List Rw} {x : Rw} {s : Nat} (h : Cov no q (butNot s (no x))) : Cov no (q ++ [x]) s := by
  intro i hi
  cases hx : (no x).testBit i with
  | true => exact ⟨x, by simp, hx⟩
  | false =>
    obtain ⟨y, hy, hb⟩ := h i (by rw [butNot_bit, hi, hx]; rfl)
    exact ⟨y, List.mem_append_left _ hy, hb⟩
theorem cov_erase {no : Rw → Nat} {l : List Rw} {x : Rw} {s : Nat} (h : Cov no l s) : Cov no (l.erase x) (butNot s (no x)) := by
  intro i hi
  rw [butNot_bit] at hi
  simp only [Bool.and_eq_true, Bool.not_eq_true'] at hi
  obtain ⟨y, hy, hb⟩ := h i hi.1
  refine ⟨y, (List.mem_erase_of_ne fun e => ?_).2 hy, hb⟩
  rw [e, hi.2] at hb
  cases hb
theorem acc_step {no : Rw → Nat} {xs : List Rw} {tab : List (Option (List Rw))} {s : Nat} (htab : ∀ t, t < s → IsMin no xs t (tab.getD t none)) {seen : List Rw} {acc : Option (List Rw)} (h : AccOk no xs tab s seen acc) {x : Rw} (hx : x ∈ xs) :
    AccOk no xs tab s (seen ++ [x]) (pick acc (expOf tab s acc (butNot s (no x))) x) := by
  by_cases e : butNot s (no x) = s
  · have hsame : pick acc (expOf tab s acc (butNot s (no x))) x = acc := by
      unfold expOf
      rw [if_pos e]
      cases acc with
      | none => rfl
      | some p =>
        unfold pick
        simp
    rw [hsame]
    cases acc with
    | none =>
      intro y hy hne
      rcases List.mem_append.1 hy with hy | hy
      · exact h y hy hne
      · rw [List.mem_singleton.1 hy] at hne
        exact absurd e hne
    | some p =>
      refine ⟨h.1, h.2.1, fun y hy hne => ?_⟩
      rcases List.mem_append.1 hy with hy | hy
      · exact h.2.2 y hy hne
      · rw [List.mem_singleton.1 hy] at hne
        exact absurd e hne
  · have hexp : expOf tab s acc (butNot s (no x)) = tab.getD (butNot s (no x)) none := by unfold expOf; rw [if_neg e]
    have hm := htab _ (butNot_lt e)
    rw [hexp]
    cases hq : tab.getD (butNot s (no x)) none with
    | none =>
      have hsame : pick acc none x = acc := by cases acc <;> rfl
      rw [hsame]
      cases acc with
      | none =>
        intro y hy hne
        rcases List.mem_append.1 hy with hy | hy
        · exact h y hy hne
        · rw [List.mem_singleton.1 hy]; exact hq
      | some p =>
        refine ⟨h.1, h.2.1, fun y hy hne q hqq => ?_⟩
        rcases List.mem_append.1 hy with hy | hy
        · exact h.2.2 y hy hne q hqq
        · rw [List.mem_singleton.1 hy, hq] at hqq; cases hqq
    | some q =>
      rw [hq] at hm
      obtain ⟨m1, m2, m3⟩ := hm
      have new : AccOk no xs tab s (seen ++ [x]) (some (q ++ [x])) ∨ ∃ p, acc = some p ∧ p.length ≤ q.length + 1 := by
        cases acc with
        | none =>
          left
          refine ⟨fun y hy => ?_, cov_snoc m2, fun y hy hne q' hq' => ?_⟩
          · rcases List.mem_append.1 hy with hy | hy
            · exact m1 y hy
            · rw [List.mem_singleton.1 hy]; exact hx
          · rcases List.mem_append.1 hy with hy | hy
            · rw [h y hy hne] at hq'; cases hq'
            · rw [List.mem_singleton.1 hy, hq] at hq'
              cases hq'
              simp
        | some p =>
          by_cases hl : p.length ≤ q.length + 1
          · exact .inr ⟨p, rfl, hl⟩
          · left
            refine ⟨fun y hy => ?_, cov_snoc m2, fun y hy hne q' hq' => ?_⟩
            · rcases List.mem_append.1 hy with hy | hy
              · exact m1 y hy
              · rw [List.mem_singleton.1 hy]; exact hx
            · rcases List.mem_append.1 hy with hy | hy
              · have := h.2.2 y hy hne q' hq'
                simp
                omega
              · rw [List.mem_singleton.1 hy, hq] at hq'
                cases hq'
                simp
      cases acc with
      | none =>
        rcases new with hn | ⟨p, hp, _⟩
        · exact hn
        · cases hp
      | some p =>
        unfold pick
        by_cases hl : p.length ≤ q.length + 1
        · simp only [hl, if_true]
          refine ⟨h.1, h.2.1, fun y hy hne q' hq' => ?_⟩
          rcases List.mem_append.1 hy with hy | hy
          · exact h.2.2 y hy hne q' hq'
          · rw [List.mem_singleton.1 hy, hq] at hq'
            cases hq'
            exact hl
        · simp only [hl, if_false]
          rcases new with hn | ⟨p', hp, hl'⟩
          · exact hn
          · cases hp; exact absurd hl' hl
theorem acc_all {no : Rw → Nat} {xs : List Rw} {tab : List (Option (List Rw))} {s : Nat} (htab : ∀ t, t < s → IsMin no xs t (tab.getD t none)) : ∀ (rest seen : List Rw) (acc : Option (List Rw)), (∀ x, x ∈ rest → x ∈ xs) → AccOk no xs tab s seen acc →
    AccOk no xs tab s (seen ++ rest) (rest.foldl (fun acc x => pick acc (expOf tab s acc (butNot s (no x))) x) acc)
  | [], seen, acc, _, h => by simpa using h
  | x :: rest, seen, acc, hr, h => by
    have := acc_all htab rest (seen ++ [x]) _ (fun y hy => hr y (by simp [hy])) (acc_step htab h (hr x (by simp)))
    simpa using this
theorem tabAcc_min {no : Rw → Nat} {xs : List Rw} {tab : List (Option (List Rw))} {s : Nat} (htab : ∀ t, t < s → IsMin no xs t (tab.getD t none)) : IsMin no xs s (tabAcc no tab s xs (tabInit s)) := by
  by_cases h0 : s = 0
  · subst h0
    have hbn : ∀ b, butNot 0 b = 0 := fun b => by have := butNot_le 0 b; omega
    have : ∀ l : List Rw, l.foldl (fun acc x => pick acc (expOf tab 0 acc (butNot 0 (no x))) x) (some []) = some [] := by
      intro l
      induction l with
      | nil => rfl
      | cons x l ih =>
        rw [List.foldl_cons]
        have : pick (some []) (expOf tab 0 (some []) (butNot 0 (no x))) x = some [] := by
          unfold expOf
          rw [hbn, if_pos rfl]
          rfl
        rw [this]
        exact ih
    unfold tabAcc tabInit
    rw [if_pos rfl, this xs]
    exact ⟨fun x hx => by simp at hx, fun i hi => by simp at hi, fun l _ _ => by simp⟩
  · have h := acc_all htab xs [] (tabInit s) (fun x hx => hx) (by
      unfold tabInit
      rw [if_neg h0]
      intro x hx
      simp at hx)
    rw [List.nil_append] at h
    show IsMin no xs s (xs.foldl (fun acc x => pick acc (expOf tab s acc (butNot s (no x))) x) (tabInit s))
    generalize xs.foldl (fun acc x => pick acc (expOf tab s acc (butNot s (no x))) x) (tabInit s) = acc at h
    -- whatever has all marks has a row that has one of them
    have key : ∀ l : List Rw, (∀ x, x ∈ l → x ∈ xs) → Cov no l s → ∃ x, x ∈ xs ∧ butNot s (no x) ≠ s ∧ ∃ q, tab.getD (butNot s (no x)) none = some q ∧ q.length + 1 ≤ l.length := by
      intro l hl hc
      obtain ⟨i, hi⟩ := Nat.exists_testBit_of_ne_zero h0
      obtain ⟨x, hx, hb⟩ := hc i hi
      have hne := butNot_ne hi hb
      refine ⟨x, hl x hx, hne, ?_⟩
      have hm := htab _ (butNot_lt hne)
      cases hq : tab.getD (butNot s (no x)) none with
      | none =>
        rw [hq] at hm
        exact absurd (cov_erase hc) (hm (l.erase x) fun y hy => hl y (List.mem_of_mem_erase hy))
      | some q =>
        rw [hq] at hm
        have h1 := hm.2.2 (l.erase x) (fun y hy => hl y (List.mem_of_mem_erase hy)) (cov_erase hc)
        have h2 := List.length_erase_of_mem hx
        have h3 := List.length_pos_of_mem hx
        exact ⟨q, rfl, by omega⟩
    cases acc with
    | none =>
      intro l hl hc
      obtain ⟨x, hx, hne, q, hq, _⟩ := key l hl hc
      rw [h x hx hne] at hq
      cases hq
    | some p =>
      refine ⟨h.1, h.2.1, fun l hl hc => ?_⟩
      obtain ⟨x, hx, hne, q, hq, hle⟩ := key l hl hc
      have := h.2.2 x hx hne q hq
      omega
theorem tabTo_get (no : Rw → Nat) (xs : List Rw) : ∀ (K s : Nat), s < K → (tabTo no xs K).getD s none = tabAcc no (tabTo no xs s) s xs (tabInit s)
  | 0, s, h => absurd h (by omega)
  | K + 1, s, h => by
    rw [tabTo]
    by_cases e : s = K
    · subst e
      simp only [List.getD_eq_getElem?_getD]
      rw [List.getElem?_append_right (by rw [tabTo_len]; omega), tabTo_len]
      simp
    · rw [getD_low _ _ _ _ (by rw [tabTo_len]; omega)]
      exact tabTo_get no xs K s (by omega)
/-- The table holds, for each set of marks, a least list of rows that have them. -/
theorem tab_min (no : Rw → Nat) (xs : List Rw) {K s : Nat} (hs : s < K) : IsMin no xs s ((tabTo no xs K).getD s none) := by
  rw [tabTo_get no xs K s hs]
  clear hs K
  induction s using Nat.strongRecOn with
  | _ s ih =>
    refine tabAcc_min fun t ht => ?_
    rw [tabTo_get no xs s t ht]
    exact ih t ht
theorem min_nodup {no : Rw → Nat} {xs : List Rw} {s : Nat} {r : List Rw} (h : IsMin no xs s (some r)) : r.Nodup := by
  obtain ⟨h1, h2, h3⟩ := h
  rw [List.nodup_iff_pairwise_ne, List.pairwise_iff_getElem]
  intro i j hi hj hij e
  have := h3 (r.eraseIdx j) (fun x hx => h1 x (List.mem_of_mem_eraseIdx hx)) (fun k hk => by
    obtain ⟨x, hx, hb⟩ := h2 k hk
    refine ⟨x, ?_, hb⟩
    obtain ⟨n, hn, rfl⟩ := List.getElem_of_mem hx
    rw [List.mem_eraseIdx_iff_getElem]
    by_cases e2 : n = j
    · subst e2
      exact ⟨i, hi, by omega, e⟩
    · exact ⟨n, hn, e2, rfl⟩)
  rw [List.length_eraseIdx_of_lt hj] at this
  omega
end Go.Proofs.Ytlaakmgdbhabfaa

/- Rows that explain a sheet, and marks that are apart, in plain mathematics. -/
namespace Go.Proofs.Ytlaakmgdbhabfaa
open Go.RowKit Go.Shelf

theorem noOf_bit (cs ms : List (Int × Int)) (x : Rw) (i : Nat) : (noOf cs ms x).testBit i = (decide (i < 12) && hadB cs ms x.1 x.2 i) := by
  unfold noOf
  rw [setNo_bit]
theorem had_lt {cs ms : List (Int × Int)} {k : Nat} {x : Int} {i : Nat} (h : hadB cs ms k x i = true) : i < ms.length := by
  unfold hadB at h
  rw [Bool.and_eq_true] at h
  obtain ⟨h1, h2⟩ := h
  unfold hadTo at h2
  rw [List.any_eq_true] at h2
  obtain ⟨t, ht, he⟩ := h2
  unfold hitsTo at h1
  rw [List.all_eq_true] at h1
  have := h1 t ht
  simp only [decide_eq_true_eq] at this he
  omega
theorem all_bit (m i : Nat) : (2 ^ m - 1).testBit i = decide (i < m) := Nat.testBit_two_pow_sub_one m i
theorem cov_all {cs ms : List (Int × Int)} (h12 : ms.length ≤ 12) (l : List Rw) : Cov (noOf cs ms) l (2 ^ ms.length - 1) ↔ (numsTo (noneHas cs ms l) ms.length).length = 0 := by
  rw [nums_none]
  constructor
  · intro h i hi
    obtain ⟨x, hx, hb⟩ := h i (by rw [all_bit]; simpa using hi)
    unfold noneHas
    rw [noOf_bit, Bool.and_eq_true] at hb
    rw [Bool.eq_false_iff]
    intro hall
    rw [List.all_eq_true] at hall
    have := hall x hx
    rw [hb.2] at this
    cases this
  · intro h i hi
    rw [all_bit, decide_eq_true_eq] at hi
    have := h i hi
    unfold noneHas at this
    rw [List.all_eq_false] at this
    obtain ⟨x, hx, hb⟩ := this
    refine ⟨x, hx, ?_⟩
    rw [noOf_bit, Bool.and_eq_true, decide_eq_true_eq]
    refine ⟨by omega, ?_⟩
    cases h2 : hadB cs ms x.1 x.2 i with
    | true => rfl
    | false => rw [h2] at hb; exact absurd rfl hb
theorem left_all (cs ms : List (Int × Int)) : leftOf cs ms (allNos cs ms) (fitsOf cs ms) = fitsOf cs ms := by
  unfold leftOf
  rw [List.filter_eq_self]
  intro x hx
  rw [decide_eq_true_eq]
  exact List.mem_map_of_mem hx
theorem tab_is (cs ms : List (Int × Int)) {s : Nat} (hs : s < 2 ^ ms.length) : IsMin (noOf cs ms) (fitsOf cs ms) s (tabOf cs ms (allNos cs ms) s) := by
  unfold tabOf
  rw [left_all]
  exact tab_min _ _ hs
theorem two_pos (m : Nat) : 2 ^ m - 1 < 2 ^ m := by
  have := Nat.one_le_two_pow (n := m)
  omega
/-- What is known of a valid sheet of which no mark is lost: its best rows. -/
theorem best_is {cs ms : List (Int × Int)} (h : wholeErr cs ms = 0) : sheetErr cs ms = 0 ∧ ∃ r, tabOf cs ms (allNos cs ms) (2 ^ ms.length - 1) = some r ∧ bestLen cs ms = r.length ∧ (bestRows cs ms).Perm r ∧
    (∀ x, x ∈ r → x ∈ fitsOf cs ms) ∧ Cov (noOf cs ms) r (2 ^ ms.length - 1) ∧ r.Nodup ∧ ∀ l : List Rw, (∀ x, x ∈ l → x ∈ fitsOf cs ms) → Cov (noOf cs ms) l (2 ^ ms.length - 1) → r.length ≤ l.length := by
  unfold wholeErr at h
  split at h
  · rename_i h0
    have hm := (sheet_ok h0).1.2.2
    split at h
    · rename_i hl
      refine ⟨h0, ?_⟩
      have hc := (cov_all hm (fitsOf cs ms)).2 hl
      have ht := tab_is cs ms (two_pos ms.length)
      cases hr : tabOf cs ms (allNos cs ms) (2 ^ ms.length - 1) with
      | none =>
        rw [hr] at ht
        exact absurd hc (ht _ fun x hx => hx)
      | some r =>
        rw [hr] at ht
        have hnd := min_nodup ht
        obtain ⟨t1, t2, t3⟩ := ht
        refine ⟨r, rfl, by unfold bestLen lenOf; rw [hr], ?_, t1, t2, hnd, t3⟩
        unfold bestRows sortRw
        rw [hr]
        exact List.mergeSort_perm _ _
    · cases h
  · rename_i h0
    exact absurd h h0
/-- Each mark that is had is had by one row: as many rows as marks do. -/
theorem cov_few {no : Rw → Nat} {xs : List Rw} : ∀ (m : Nat), Cov no xs (2 ^ m - 1) → ∃ l : List Rw, (∀ x, x ∈ l → x ∈ xs) ∧ l.length = m ∧ Cov no l (2 ^ m - 1)
  | 0, _ => ⟨[], fun x hx => by simp at hx, rfl, fun i hi => by simp at hi⟩
  | m + 1, h => by
    obtain ⟨l, h1, h2, h3⟩ := cov_few m fun i hi => h i (by rw [all_bit, decide_eq_true_eq] at *; omega)
    obtain ⟨x, hx, hb⟩ := h m (by rw [all_bit, decide_eq_true_eq]; omega)
    refine ⟨x :: l, fun y hy => ?_, by simp [h2], fun i hi => ?_⟩
    · rcases List.mem_cons.1 hy with rfl | hy
      · exact hx
      · exact h1 y hy
    · rw [all_bit, decide_eq_true_eq] at hi
      by_cases e : i = m
      · subst e; exact ⟨x, by simp, hb⟩
      · obtain ⟨y, hy, hb⟩ := h3 i (by rw [all_bit, decide_eq_true_eq]; omega)
        exact ⟨y, by simp [hy], hb⟩
theorem best_few {cs ms : List (Int × Int)} (h : wholeErr cs ms = 0) : (bestRows cs ms).length ≤ ms.length := by
  obtain ⟨h0, r, _, _, hp, h1, h2, _, h3⟩ := best_is h
  rw [hp.length_eq]
  obtain ⟨l, l1, l2, l3⟩ := cov_few (no := noOf cs ms) (xs := fitsOf cs ms) ms.length fun i hi => by
    obtain ⟨x, hx, hb⟩ := h2 i hi
    exact ⟨x, h1 x hx, hb⟩
  have := h3 l l1 l3
  omega
/-- A row as the statements have it. -/
def rwInt (x : Rw) : Int × Int := ((x.1 : Int), x.2)
/-- All lists that grow. -/
theorem ls_sound (long n : Nat) : ∀ (f : Nat) (xs js : List Nat), f ≤ n → js ∈ lsOf long n f xs → js.length = long ∧ ∃ t, js = xs ++ t ∧ t.Pairwise (· < ·) ∧ ∀ x, x ∈ t → n - f ≤ x ∧ x < n
  | 0, xs, js, _, h => by simp [lsOf] at h
  | f + 1, xs, js, hf, h => by
    rw [lsOf_succ, List.mem_append] at h
    rcases h with h | h
    · unfold gOf at h
      split at h
      · rename_i hl
        rw [List.mem_singleton.1 h]
        refine ⟨hl, _, rfl, by simp, fun x hx => ?_⟩
        rw [List.mem_singleton.1 hx]
        omega
      · obtain ⟨h1, t, rfl, h2, h3⟩ := ls_sound long n f _ js (by omega) h
        refine ⟨h1, [n - (f + 1)] ++ t, by rw [List.append_assoc], ?_, fun x hx => ?_⟩
        · rw [List.singleton_append, List.pairwise_cons]
          exact ⟨fun y hy => by have := h3 y hy; omega, h2⟩
        · rw [List.singleton_append] at hx
          rcases List.mem_cons.1 hx with rfl | hx
          · omega
          · have := h3 x hx; omega
    · obtain ⟨h1, t, rfl, h2, h3⟩ := ls_sound long n f _ js (by omega) h
      exact ⟨h1, t, rfl, h2, fun x hx => by have := h3 x hx; omega⟩
theorem ls_full (long n : Nat) : ∀ (f : Nat) (xs t : List Nat), f ≤ n → t ≠ [] → t.Pairwise (· < ·) → (∀ x, x ∈ t → n - f ≤ x ∧ x < n) → (xs ++ t).length = long → xs ++ t ∈ lsOf long n f xs
  | 0, xs, t, _, h, _, h2, _ => by
    cases t with
    | nil => exact absurd rfl h
    | cons x t => have := h2 x (by simp); omega
  | f + 1, xs, t, hf, h, h1, h2, h3 => by
    cases t with
    | nil => exact absurd rfl h
    | cons x t =>
      obtain ⟨p1, p2⟩ := List.pairwise_cons.1 h1
      have hx := h2 x (by simp)
      rw [lsOf_succ, List.mem_append]
      by_cases e : x = n - (f + 1)
      · left
        subst e
        unfold gOf
        cases t with
        | nil =>
          rw [if_pos h3]
          simp
        | cons y t =>
          rw [if_neg (by simp at h3 ⊢; omega)]
          have := ls_full long n f (xs ++ [n - (f + 1)]) (y :: t) (by omega) (by simp) p2 (fun z hz => by
            have := p1 z hz
            have := h2 z (by simp only [List.mem_cons] at hz ⊢; exact .inr hz)
            omega) (by simpa using h3)
          simpa using this
      · right
        exact ls_full long n f xs (x :: t) (by omega) h h1 (fun z hz => by
          rcases List.mem_cons.1 hz with rfl | hz
          · omega
          · have := p1 z hz
            have := h2 z (by simp [hz])
            omega) h3
theorem g_sound {long n : Nat} {js : List Nat} (h : js ∈ gOf long n n []) : js.length = long ∧ js.Pairwise (· < ·) ∧ ∀ x, x ∈ js → x < n := by
  unfold gOf at h
  split at h
  · rename_i hl
    rw [List.mem_singleton.1 h]
    exact ⟨hl, by simp, fun x hx => by simp at hx⟩
  · obtain ⟨h1, t, rfl, h2, h3⟩ := ls_sound long n n [] js (Nat.le_refl _) h
    exact ⟨h1, by simpa using h2, fun x hx => (h3 x (by simpa using hx)).2⟩
theorem g_full {n : Nat} {js : List Nat} (h1 : js.Pairwise (· < ·)) (h2 : ∀ x, x ∈ js → x < n) : js ∈ gOf js.length n n [] := by
  unfold gOf
  cases js with
  | nil => simp
  | cons x t =>
    rw [if_neg (by simp)]
    exact ls_full _ n n [] (x :: t) (Nat.le_refl _) (by simp) h1 (fun y hy => ⟨by omega, h2 y hy⟩) rfl
theorem apart_nil (cs ms : List (Int × Int)) : apartB cs ms [] = true := by
  unfold apartB crowded
  simp
theorem apartTo_ok (cs ms : List (Int × Int)) : ∀ L, (apartTo cs ms L).Pairwise (· < ·) ∧ (∀ x, x ∈ apartTo cs ms L → x < ms.length) ∧ apartB cs ms (apartTo cs ms L) = true ∧ (apartTo cs ms L).length ≤ L
  | 0 => by
    unfold apartTo
    exact ⟨by simp, fun x hx => by simp at hx, apart_nil _ _, by simp⟩
  | L + 1 => by
    unfold apartTo
    split
    · rename_i js hf
      have h1 := List.find?_some hf
      obtain ⟨h2, h3, h4⟩ := g_sound (List.mem_of_find?_eq_some hf)
      exact ⟨h3, h4, h1, by omega⟩
    · obtain ⟨h1, h2, h3, h4⟩ := apartTo_ok cs ms L
      exact ⟨h1, h2, h3, by omega⟩
theorem apartTo_most (cs ms : List (Int × Int)) {js : List Nat} (h1 : js.Pairwise (· < ·)) (h2 : ∀ x, x ∈ js → x < ms.length) (ha : apartB cs ms js = true) : ∀ L, js.length ≤ L → js.length ≤ (apartTo cs ms L).length
  | 0, hL => by omega
  | L + 1, hL => by
    unfold apartTo
    split
    · rename_i ks hf
      rw [(g_sound (List.mem_of_find?_eq_some hf)).1]
      exact hL
    · rename_i hf
      by_cases e : js.length = L + 1
      · exfalso
        rw [List.find?_eq_none] at hf
        have := hf js (by rw [← e]; exact g_full h1 h2)
        exact this ha
      · exact apartTo_most cs ms h1 h2 ha L (by omega)
end Go.Proofs.Ytlaakmgdbhabfaa

/- In how many ways rows have all marks: sums over sets of marks, and lists of rows, in plain mathematics. -/
namespace Go.Proofs.Ytlaakmgdbhabfaa
open Go.RowKit Go.Shelf

/-- The sum of the first numbers. -/
def sumTo : Nat → (Nat → Nat) → Nat
  | 0, _ => 0
  | t + 1, f => sumTo t f + f t
theorem sumTo_congr {f g : Nat → Nat} : ∀ (t : Nat), (∀ i, i < t → f i = g i) → sumTo t f = sumTo t g
  | 0, _ => rfl
  | t + 1, h => by rw [sumTo, sumTo, sumTo_congr t fun i hi => h i (by omega), h t (by omega)]
theorem sumTo_add (f g : Nat → Nat) : ∀ (t : Nat), sumTo t (fun i => f i + g i) = sumTo t f + sumTo t g
  | 0 => rfl
  | t + 1 => by rw [sumTo, sumTo, sumTo, sumTo_add f g t]; omega
theorem sumTo_mul (c : Nat) (f : Nat → Nat) : ∀ (t : Nat), sumTo t (fun i => c * f i) = c * sumTo t f
  | 0 => rfl
  | t + 1 => by rw [sumTo, sumTo, sumTo_mul c f t, Nat.mul_add]
theorem sumTo_zero : ∀ (t : Nat), sumTo t (fun _ => 0) = 0
  | 0 => rfl
  | t + 1 => by rw [sumTo, sumTo_zero t]
theorem sumTo_single (k v : Nat) : ∀ (t : Nat), sumTo t (fun i => if i = k then v else 0) = if k < t then v else 0
  | 0 => rfl
  | t + 1 => by
    rw [sumTo, sumTo_single k v t]
    by_cases h : t = k
    · subst h; simp
    · rw [if_neg h]
      by_cases h2 : k < t
      · rw [if_pos h2, if_pos (by omega)]; rfl
      · rw [if_neg h2, if_neg (by omega)]
theorem sumTo_comm (F : Nat → Nat → Nat) (m : Nat) : ∀ (t : Nat), sumTo t (fun i => sumTo m (fun j => F i j)) = sumTo m (fun j => sumTo t (fun i => F i j))
  | 0 => by simp only [sumTo]; rw [sumTo_zero]
  | t + 1 => by
    simp only [sumTo]
    rw [sumTo_comm F m t, sumTo_add]
/-- A sum over unions. -/
theorem sum_push {T k : Nat} (hk : ∀ b, b < T → b ||| k < T) (S w : Nat → Nat) : sumTo T (fun s => sumTo T (fun b => if b ||| k = s then S b else 0) * w s) = sumTo T fun b => S b * w (b ||| k) := by
  have h1 : sumTo T (fun s => sumTo T (fun b => if b ||| k = s then S b else 0) * w s) = sumTo T fun s => sumTo T fun b => if s = b ||| k then S b * w (b ||| k) else 0 := by
    refine sumTo_congr T fun s _ => ?_
    rw [Nat.mul_comm, ← sumTo_mul]
    refine sumTo_congr T fun b _ => ?_
    by_cases e : b ||| k = s
    · rw [if_pos e, if_pos e.symm, e, Nat.mul_comm]
    · rw [if_neg e, if_neg (fun h => e h.symm), Nat.mul_zero]
  rw [h1, sumTo_comm]
  refine sumTo_congr T fun b hb => ?_
  rw [sumTo_single, if_pos (hk b hb)]

/-- One more set of marks, of which there are so many rows, without a bound. -/
def ustep (T : Nat) (S : Nat → Nat → Nat) (p : Nat × Nat) : Nat → Nat → Nat
  | 0, s => S 0 s
  | n + 1, s => S (n + 1) s + p.2 * sumTo T (fun b => if b ||| p.1 = s then S n b else 0)
def start (h : Nat) : Nat → Nat → Nat := fun n s => if n = 0 ∧ s = h then 1 else 0
/-- The sum over all lists of so many sets of what w says of their union with h. -/
def vw (h : Nat) : List (Nat × Nat) → Nat → (Nat → Nat) → Nat
  | [], n, w => if n = 0 then w h else 0
  | _ :: P, 0, w => vw h P 0 w
  | p :: P, n + 1, w => vw h P (n + 1) w + p.2 * vw h P n (fun s => w (s ||| p.1))
/-- In how many ways so many sets have, with h, all marks. -/
def cw (A : Nat) : List (Nat × Nat) → Nat → Nat → Nat
  | [], n, h => if n = 0 ∧ h = A then 1 else 0
  | _ :: P, 0, h => cw A P 0 h
  | p :: P, n + 1, h => cw A P (n + 1) h + p.2 * cw A P n (h ||| p.1)
theorem vw_cw (A h0 : Nat) : ∀ (P : List (Nat × Nat)) (n h : Nat), vw h0 P n (fun s => if h ||| s = A then 1 else 0) = cw A P n (h ||| h0)
  | [], n, h => by
    unfold vw cw
    by_cases e : n = 0
    · simp [e]
    · simp [e]
  | p :: P, 0, h => by unfold vw cw; exact vw_cw A h0 P 0 h
  | p :: P, n + 1, h => by
    have h2 : (fun s => if h ||| (s ||| p.1) = A then 1 else 0) = fun s => if (h ||| p.1) ||| s = A then 1 else 0 := by
      funext s
      rw [Nat.or_comm s, ← Nat.or_assoc]
    rw [vw, cw, vw_cw A h0 P (n + 1) h, h2, vw_cw A h0 P n (h ||| p.1), Nat.or_assoc h, Nat.or_comm p.1, ← Nat.or_assoc]
theorem ufold_vw {T h0 : Nat} (hh : h0 < T) : ∀ (P : List (Nat × Nat)), (∀ p, p ∈ P → ∀ b, b < T → b ||| p.1 < T) → ∀ (n : Nat) (w : Nat → Nat), sumTo T (fun s => P.foldr (fun p S => ustep T S p) (start h0) n s * w s) = vw h0 P n w
  | [], _, n, w => by
    show sumTo T (fun s => start h0 n s * w s) = if n = 0 then w h0 else 0
    unfold start
    by_cases e : n = 0
    · subst e
      rw [if_pos rfl]
      have : sumTo T (fun s => (if 0 = 0 ∧ s = h0 then 1 else 0) * w s) = sumTo T fun s => if s = h0 then w h0 else 0 := by
        refine sumTo_congr T fun s _ => ?_
        by_cases e2 : s = h0
        · subst e2; simp
        · simp [e2]
      rw [this, sumTo_single, if_pos hh]
    · rw [if_neg e]
      have : sumTo T (fun s => (if n = 0 ∧ s = h0 then 1 else 0) * w s) = sumTo T fun _ => 0 := sumTo_congr T fun s _ => by simp [e]
      rw [this, sumTo_zero]
  | p :: P, h, 0, w => by
    rw [vw, ← ufold_vw hh P (fun q hq => h q (by simp [hq])) 0 w]
    rfl
  | p :: P, h, n + 1, w => by
    rw [vw, ← ufold_vw hh P (fun q hq => h q (by simp [hq])) (n + 1) w, ← ufold_vw hh P (fun q hq => h q (by simp [hq])) n (fun s => w (s ||| p.1)), ← sum_push (h p (by simp)), ← sumTo_mul, ← sumTo_add]
    refine sumTo_congr T fun s _ => ?_
    rw [List.foldr_cons, ustep, Nat.add_mul, Nat.mul_assoc]
/-- What is counted at the set of all marks. -/
theorem ufold_all {T A h0 : Nat} (hA : A < T) (hh : h0 < T) (P : List (Nat × Nat)) (hP : ∀ p, p ∈ P → ∀ b, b < T → b ||| p.1 < T) (n : Nat) : P.foldr (fun p S => ustep T S p) (start h0) n A = cw A P n h0 := by
  have h1 := ufold_vw hh P hP n fun s => if (0 : Nat) ||| s = A then 1 else 0
  rw [vw_cw, Nat.zero_or] at h1
  rw [← h1]
  have : sumTo T (fun s => P.foldr (fun p S => ustep T S p) (start h0) n s * (if (0 : Nat) ||| s = A then 1 else 0)) = sumTo T fun s => if s = A then P.foldr (fun p S => ustep T S p) (start h0) n A else 0 := by
    refine sumTo_congr T fun s _ => ?_
    rw [Nat.zero_or]
    by_cases e : s = A
    · subst e; simp
    · simp [e]
  rw [this, sumTo_single, if_pos hA]

/-- The bound does not turn sums but where they are above it. -/
theorem cap_add {C x y : Int} {a : Nat} (hC : 0 ≤ C) (hx : 0 ≤ x) (hy : 0 ≤ y) : min (min x C + min y C * (a : Int)) C = min (x + y * (a : Int)) C := by
  have h1 : 0 ≤ y * (a : Int) := Int.mul_nonneg hy (by omega)
  by_cases hyC : y ≤ C
  · rw [Int.min_eq_left hyC]
    omega
  · rw [Int.min_eq_right (a := y) (by omega)]
    rcases Nat.eq_zero_or_pos a with e | e
    · subst e
      simp
    · have h2 : C * 1 ≤ C * (a : Int) := Int.mul_le_mul_of_nonneg_left (by omega) hC
      have h3 : C * (a : Int) ≤ y * (a : Int) := Int.mul_le_mul_of_nonneg_right (by omega) (by omega)
      omega
theorem addTo_is {prev row : Nat → Int} {p r : Nat → Nat} {set a : Nat} (hp : ∀ s, prev s = min (p s : Int) CAP) (hr : ∀ s, row s = min (r s : Int) CAP) : ∀ (t s : Nat), addTo prev row set (a : Int) t s = min ((r s + a * sumTo t (fun b => if b ||| set = s then p b else 0) : Nat) : Int) CAP
  | 0, s => by unfold addTo sumTo; rw [hr]; simp
  | t + 1, s => by
    unfold addTo sumTo
    dsimp only
    rw [addTo_is hp hr t s]
    by_cases e : s = t ||| set
    · rw [if_pos e, if_pos (show t ||| set = s from e.symm), hp, cap_add (by decide) (by omega) (by omega)]
      congr 1
      rw [Nat.mul_add]
      simp only [Int.natCast_add, Int.natCast_mul]
      rw [Int.mul_comm (p t : Int)]
      omega
    · rw [if_neg e, if_neg (show ¬ t ||| set = s from fun h => e h.symm), Nat.add_zero]
theorem keyStep_is {T : Nat} {S : Nat → Nat → Int} {U : Nat → Nat → Nat} (h : ∀ n s, S n s = min (U n s : Int) CAP) (p : Nat × Nat) : ∀ n s, keyStep T S p n s = min (ustep T U p n s : Int) CAP
  | 0, s => by unfold keyStep ustep; rw [if_pos rfl]; exact h 0 s
  | n + 1, s => by
    unfold keyStep ustep
    rw [if_neg (by omega), show n + 1 - 1 = n from rfl]
    exact addTo_is (h n) (h (n + 1)) T s
theorem fold_is {T : Nat} : ∀ (P : List (Nat × Nat)) (S : Nat → Nat → Int) (U : Nat → Nat → Nat), (∀ n s, S n s = min (U n s : Int) CAP) → ∀ n s, P.foldl (keyStep T) S n s = min (P.foldl (ustep T) U n s : Int) CAP
  | [], _, _, h => h
  | p :: P, _, _, h => fold_is P _ _ (keyStep_is h p)

theorem cw_perm (A : Nat) {P Q : List (Nat × Nat)} (h : P.Perm Q) : ∀ n x, cw A P n x = cw A Q n x := by
  induction h with
  | nil => intro n x; rfl
  | cons p _ ih =>
    intro n x
    cases n with
    | zero => exact ih 0 x
    | succ n => rw [cw, cw, ih, ih]
  | swap p q P =>
    intro n x
    match n with
    | 0 => rfl
    | 1 =>
      simp only [cw]
      omega
    | n + 2 =>
      simp only [cw, Nat.mul_add]
      rw [Nat.or_assoc, Nat.or_comm q.1, ← Nat.or_assoc, ← Nat.mul_assoc, ← Nat.mul_assoc, Nat.mul_comm p.2 q.2]
      omega
  | trans _ _ ih1 ih2 => exact fun n x => (ih1 n x).trans (ih2 n x)
theorem start_is (h n s : Nat) : (if n = 0 ∧ s = h then 1 else 0 : Int) = min (start h n s : Int) CAP := by
  unfold start
  by_cases e : n = 0 ∧ s = h
  · rw [if_pos e, if_pos e]; decide
  · rw [if_neg e, if_neg e]; decide
/-- What the capped sums say of all marks. -/
theorem capped_all {T A h0 : Nat} (hA : A < T) (hh : h0 < T) (P : List (Nat × Nat)) (hP : ∀ p, p ∈ P → ∀ b, b < T → b ||| p.1 < T) (n : Nat) : P.foldl (keyStep T) (fun n s => if n = 0 ∧ s = h0 then 1 else 0) n A = min (cw A P n h0 : Int) CAP := by
  rw [fold_is P _ (start h0) (start_is h0), ← List.foldr_reverse, ufold_all hA hh P.reverse (fun p hp => hP p (List.mem_reverse.1 hp)), cw_perm A (List.reverse_perm P)]

/-- So many sets, each one by itself. -/
def ones (N : List Nat) : List (Nat × Nat) := N.map fun k => (k, 1)
theorem ones_cons (k : Nat) (N : List Nat) : ones (k :: N) = (k, 1) :: ones N := rfl
theorem cw_ones_le (A k : Nat) (N : List Nat) (n h : Nat) : cw A (ones N) n h ≤ cw A (ones (k :: N)) n h := by
  rw [ones_cons]
  cases n with
  | zero => exact Nat.le_refl _
  | succ n => rw [cw]; omega
theorem cw_or_le (A k : Nat) (N : List Nat) (n h : Nat) : cw A (ones N) n (h ||| k) ≤ cw A (ones (k :: N)) (n + 1) h := by
  rw [ones_cons, cw]
  dsimp only
  omega
theorem repl_le (A k : Nat) (N : List Nat) (m h : Nat) {c : Nat} : ∀ {a : Nat}, c ≤ a → cw A (ones (List.replicate c k ++ N)) m h ≤ cw A (ones (List.replicate a k ++ N)) m h
  | 0, hc => by rw [show c = 0 from by omega]; exact Nat.le_refl _
  | a + 1, hc => by
    by_cases e : c = a + 1
    · rw [e]; exact Nat.le_refl _
    · refine Nat.le_trans (repl_le A k N m h (a := a) (by omega)) ?_
      rw [List.replicate_succ, List.cons_append]
      exact cw_ones_le A k _ m _
/-- Sets that come more than once, where no fewer do: each list has one of them at most. -/
theorem cw_repl {A k : Nat} {N : List Nat} : ∀ (a n h : Nat), (∀ n', n' < n → cw A (ones (List.replicate a k ++ N)) n' h = 0) → cw A (ones (List.replicate a k ++ N)) n h = cw A ((k, a) :: ones N) n h
  | 0, n, h, _ => by
    cases n with
    | zero => rfl
    | succ n => rw [cw]; simp
  | a + 1, n, h, hz => by
    rw [List.replicate_succ, List.cons_append] at hz ⊢
    obtain ⟨M, hM⟩ : ∃ M, List.replicate a k ++ N = M := ⟨_, rfl⟩
    rw [hM] at hz ⊢
    have ih := cw_repl (A := A) (k := k) (N := N) a n h
    rw [hM] at ih
    have ih := ih fun n' hn => by have := cw_ones_le A k M n' h; have := hz n' hn; omega
    cases n with
    | zero => rw [ones_cons, cw, ih, cw, cw]
    | succ n =>
      have hsec : cw A (ones M) n (h ||| k) = cw A (ones N) n (h ||| k) := by
        -- no list with one more of them
        have : ∀ (b : Nat), (∀ M', (∃ c, M' = List.replicate c k ++ N ∧ c ≤ a) → ∀ m, m < n → cw A (ones M') m (h ||| k) = 0) → b ≤ a → cw A (ones (List.replicate b k ++ N)) n (h ||| k) = cw A (ones N) n (h ||| k) := by
          intro b hzero
          induction b with
          | zero => intro _; rfl
          | succ b ihb =>
            intro hb
            rw [List.replicate_succ, List.cons_append, ones_cons]
            cases n with
            | zero => rw [cw]; exact ihb (by omega)
            | succ n =>
              rw [cw, ihb (by omega), Nat.or_assoc, Nat.or_self, hzero _ ⟨b, rfl, by omega⟩ n (by omega)]
              simp
        rw [← hM]
        refine this a (fun M' ⟨c, hc, hca⟩ m hm => ?_) (Nat.le_refl _)
        have h1 : cw A (ones M') m (h ||| k) ≤ cw A (ones M) m (h ||| k) := by
          rw [hc, ← hM]
          exact repl_le A k N m (h ||| k) hca
        have h2 := cw_or_le A k M m h
        have := hz (m + 1) (by omega)
        omega
      rw [ones_cons, cw, ih, hsec, cw, cw]
      simp only [Nat.add_mul, Nat.one_mul]
      omega
/-- All sets of P, each as often as it says. -/
def flat (P : List (Nat × Nat)) : List Nat := P.flatMap fun p => List.replicate p.2 p.1
theorem cw_cons_le (A : Nat) (N : List Nat) (n h : Nat) : ∀ (L : List Nat), cw A (ones N) n h ≤ cw A (ones (L ++ N)) n h
  | [] => Nat.le_refl _
  | k :: L => Nat.le_trans (cw_cons_le A N n h L) (cw_ones_le A k _ n h)
/-- Where no fewer rows do, the rows by themselves, and by their sets, are counted alike. -/
theorem cw_flat {A : Nat} : ∀ (P : List (Nat × Nat)), (∀ p, p ∈ P → 1 ≤ p.2) → ∀ (n h : Nat), (∀ n', n' < n → cw A (ones (flat P)) n' h = 0) → cw A (ones (flat P)) n h = cw A P n h
  | [], _, n, h, _ => rfl
  | (k, a) :: P, hp, n, h, hz => by
    have ha := hp (k, a) (by simp)
    have hf : flat ((k, a) :: P) = List.replicate a k ++ flat P := rfl
    rw [hf] at hz ⊢
    rw [cw_repl a n h hz]
    have ih := cw_flat (A := A) P (fun p hq => hp p (by simp [hq]))
    have ih1 := ih n h fun n' hn => by have := cw_cons_le A (flat P) n' h (List.replicate a k); have := hz n' hn; omega
    cases n with
    | zero => rw [cw, cw, ih1]
    | succ n =>
      have ih2 := ih n (h ||| k) fun n' hn => by
        have h1 := hz (n' + 1) (by omega)
        obtain ⟨b, rfl⟩ : ∃ b, a = b + 1 := ⟨a - 1, by dsimp only at ha; omega⟩
        rw [List.replicate_succ, List.cons_append] at h1
        have h2 := cw_or_le A k (List.replicate b k ++ flat P) n' h
        have h3 := cw_cons_le A (flat P) n' (h ||| k) (List.replicate b k)
        omega
      rw [cw, cw, ih1, ih2]
end Go.Proofs.Ytlaakmgdbhabfaa

/- In how many ways best rows are chosen, in plain mathematics: the program's sums and the specification's. -/
namespace Go.Proofs.Ytlaakmgdbhabfaa
open Go.RowKit Go.Shelf

/-- The union of sets. -/
def orL (l : List Nat) : Nat := l.foldr (fun a b => a ||| b) 0
theorem orL_bit (l : List Nat) (i : Nat) : (orL l).testBit i = l.any fun k => k.testBit i := by
  induction l with
  | nil => simp [orL]
  | cons k l ih =>
    show (k ||| orL l).testBit i = _
    rw [Nat.testBit_or, ih, List.any_cons]
theorem cw_pos {A : Nat} : ∀ (N : List Nat) (n h : Nat), 0 < cw A (ones N) n h ↔ ∃ l : List Nat, l.Sublist N ∧ l.length = n ∧ h ||| orL l = A
  | [], n, h => by
    show 0 < (if n = 0 ∧ h = A then 1 else 0) ↔ _
    constructor
    · intro hp
      by_cases e : n = 0 ∧ h = A
      · exact ⟨[], List.nil_sublist _, e.1.symm, by rw [show orL [] = 0 from rfl, Nat.or_zero]; exact e.2⟩
      · rw [if_neg e] at hp; omega
    · rintro ⟨l, hl, h1, h2⟩
      have := List.eq_nil_of_sublist_nil hl
      subst this
      rw [show orL [] = 0 from rfl, Nat.or_zero] at h2
      rw [if_pos ⟨h1.symm, h2⟩]
      omega
  | k :: N, 0, h => by
    rw [ones_cons, cw, cw_pos N 0 h]
    constructor
    · rintro ⟨l, h1, h2, h3⟩
      exact ⟨l, h1.trans (List.sublist_cons_self _ _), h2, h3⟩
    · rintro ⟨l, h1, h2, h3⟩
      have := List.eq_nil_of_length_eq_zero h2
      subst this
      exact ⟨[], List.nil_sublist _, rfl, h3⟩
  | k :: N, n + 1, h => by
    rw [ones_cons, cw]
    dsimp only
    rw [Nat.one_mul]
    constructor
    · intro hp
      by_cases h0 : 0 < cw A (ones N) (n + 1) h
      · obtain ⟨l, h1, h2, h3⟩ := (cw_pos N (n + 1) h).1 h0
        exact ⟨l, h1.trans (List.sublist_cons_self _ _), h2, h3⟩
      · have hp2 : 0 < cw A (ones N) n (h ||| k) := by omega
        obtain ⟨l, h1, h2, h3⟩ := (cw_pos N n (h ||| k)).1 hp2
        exact ⟨k :: l, h1.cons_cons k, by rw [List.length_cons, h2], by show h ||| (k ||| orL l) = A; rw [← Nat.or_assoc]; exact h3⟩
    · rintro ⟨l, h1, h2, h3⟩
      cases h1 with
      | cons _ h1 =>
        have := (cw_pos N (n + 1) h).2 ⟨l, h1, h2, h3⟩
        omega
      | cons_cons _ h1 =>
        rename_i l'
        have h4 : 0 < cw A (ones N) n (h ||| k) := (cw_pos N n (h ||| k)).2 ⟨l', h1, by rw [List.length_cons] at h2; omega, by rw [Nat.or_assoc]; exact h3⟩

        omega
theorem noOf_under {cs ms : List (Int × Int)} (x : Rw) (i : Nat) (h : (noOf cs ms x).testBit i = true) : i < ms.length := by
  rw [noOf_bit, Bool.and_eq_true] at h
  exact had_lt h.2
theorem or_lt2 (m : Nat) {a b : Nat} (ha : a < 2 ^ m) (hb : b < 2 ^ m) : a ||| b < 2 ^ m := Nat.or_lt_two_pow ha hb
theorem under_lt {m a : Nat} (h : ∀ i, a.testBit i = true → i < m) : a < 2 ^ m := by
  refine Nat.lt_pow_two_of_testBit a fun i hi => ?_
  rw [Bool.eq_false_iff]
  intro e
  have := h i e
  omega
theorem no_under (cs ms : List (Int × Int)) (x : Rw) : noOf cs ms x < 2 ^ ms.length := under_lt (noOf_under x)
theorem orL_all {cs ms : List (Int × Int)} (h0 : Nat) (hh : h0 < 2 ^ ms.length) (l : List Rw) : h0 ||| orL (l.map (noOf cs ms)) = 2 ^ ms.length - 1 ↔ ∀ i, i < ms.length → h0.testBit i = true ∨ ∃ x, x ∈ l ∧ (noOf cs ms x).testBit i = true := by
  constructor
  · intro h i hi
    have : (h0 ||| orL (l.map (noOf cs ms))).testBit i = true := by rw [h, all_bit]; simpa using hi
    rw [Nat.testBit_or, orL_bit, Bool.or_eq_true] at this
    rcases this with h1 | h1
    · exact .inl h1
    · rw [List.any_map, List.any_eq_true] at h1
      exact .inr h1
  · intro h
    apply Nat.eq_of_testBit_eq
    intro i
    rw [all_bit, Nat.testBit_or, orL_bit, List.any_map]
    by_cases hi : i < ms.length
    · rw [decide_eq_true hi, Bool.or_eq_true, List.any_eq_true]
      exact h i hi
    · rw [decide_eq_false hi, Bool.or_eq_false_iff, List.any_eq_false]
      refine ⟨?_, fun x _ hx => hi (noOf_under x i hx)⟩
      exact Nat.testBit_lt_two_pow (Nat.lt_of_lt_of_le hh (Nat.pow_le_pow_right (by decide) (by omega)))
theorem cov_or {cs ms : List (Int × Int)} (l : List Rw) : orL (l.map (noOf cs ms)) = 2 ^ ms.length - 1 ↔ Cov (noOf cs ms) l (2 ^ ms.length - 1) := by
  have := orL_all (cs := cs) (ms := ms) 0 (Nat.two_pow_pos _) l
  rw [Nat.zero_or] at this
  rw [this]
  constructor
  · intro h i hi
    rw [all_bit, decide_eq_true_eq] at hi
    rcases h i hi with h1 | h1
    · simp at h1
    · exact h1
  · intro h i hi
    exact .inr (h i (by rw [all_bit]; simpa using hi))
/-- How many ways there are to have all marks with so many of some rows, some marks being had. -/
def wayCount (cs ms : List (Int × Int)) (l : List Rw) (h n : Nat) : Nat := cw (2 ^ ms.length - 1) (ones (l.map (noOf cs ms))) n h
theorem way_pos {cs ms : List (Int × Int)} (l : List Rw) (n : Nat) : 0 < wayCount cs ms l 0 n ↔ ∃ r : List Rw, r.Sublist l ∧ r.length = n ∧ Cov (noOf cs ms) r (2 ^ ms.length - 1) := by
  unfold wayCount
  rw [cw_pos]
  constructor
  · rintro ⟨q, h1, h2, h3⟩
    obtain ⟨r, hr, rfl⟩ := List.sublist_map_iff.1 h1
    rw [Nat.zero_or] at h3
    exact ⟨r, hr, by simpa using h2, (cov_or r).1 h3⟩
  · rintro ⟨r, h1, h2, h3⟩
    exact ⟨r.map (noOf cs ms), h1.map _, by simpa using h2, by rw [Nat.zero_or]; exact (cov_or r).2 h3⟩
/-- The rows that fit come once each. -/
theorem fits_nodup {cs ms : List (Int × Int)} (h0 : sheetErr cs ms = 0) : (fitsOf cs ms).Nodup := by
  have hk : ∀ k, k ≤ cs.length → (fitsUpto cs ms k).Nodup ∧ ∀ x, x ∈ fitsUpto cs ms k → x.1 < k := by
    intro k
    induction k with
    | zero => intro _; exact ⟨by simp [fitsUpto], fun x hx => by simp [fitsUpto] at hx⟩
    | succ k ih =>
      intro hkc
      obtain ⟨h1, h2⟩ := ih (by omega)
      have hu : fitsUpto cs ms (k + 1) = fitsUpto cs ms k ++ rowsUpto cs ms k ms.length := by unfold fitsUpto; rw [List.range_succ, List.flatMap_append]; simp
      rw [hu, rows_pairs h0 (by omega : k < cs.length)]
      have hin : ∀ x, x ∈ (atsOf cs ms k).map (fun x => (k, x)) → x.1 = k := fun x hx => by
        obtain ⟨y, _, rfl⟩ := List.mem_map.1 hx
        rfl
      refine ⟨?_, fun x hx => ?_⟩
      · rw [List.nodup_append]
        refine ⟨h1, ?_, fun a ha b hb e => ?_⟩
        · rw [List.nodup_iff_pairwise_ne, List.pairwise_map]
          refine (nums_sorted (fitB cs ms k) 501).imp fun {a b} hab e => ?_
          have : a = b := (Prod.mk.inj e).2
          omega
        · have := h2 a ha
          have := hin b hb
          subst e
          omega
      · rcases List.mem_append.1 hx with hx | hx
        · have := h2 x hx; omega
        · have := hin x hx; omega
  exact (hk cs.length (Nat.le_refl _)).1
theorem filter_perm {r xs : List Rw} (hx : xs.Nodup) (hr : r.Nodup) (h : ∀ x, x ∈ r → x ∈ xs) : (xs.filter fun x => decide (x ∈ r)).Perm r := by
  refine (List.perm_ext_iff_of_nodup (hx.sublist List.filter_sublist) hr).2 fun x => ?_
  rw [List.mem_filter, decide_eq_true_eq]
  exact ⟨fun h => h.2, fun hh => ⟨h x hh, hh⟩⟩
/-- A least list of rows is found among the lists that are counted, and no shorter one is. -/
theorem few_way {cs ms : List (Int × Int)} {xs r : List Rw} (hx : xs.Nodup) (h : IsMin (noOf cs ms) xs (2 ^ ms.length - 1) (some r)) : 0 < wayCount cs ms xs 0 r.length ∧ ∀ n, n < r.length → wayCount cs ms xs 0 n = 0 := by
  have hnd := min_nodup h
  obtain ⟨h1, h2, h3⟩ := h
  have hp := filter_perm hx hnd h1
  refine ⟨(way_pos _ _).2 ⟨_, List.filter_sublist, hp.length_eq, fun i hi => ?_⟩, fun n hn => ?_⟩
  · obtain ⟨x, hxx, hb⟩ := h2 i hi
    exact ⟨x, hp.mem_iff.2 hxx, hb⟩
  · rcases Nat.eq_zero_or_pos (wayCount cs ms xs 0 n) with e | e
    · exact e
    · obtain ⟨q, q1, q2, q3⟩ := (way_pos _ _).1 e
      have := h3 q (fun x hq => q1.subset hq) q3
      omega
theorem keys_flat {ys : List Nat} {P : List (Nat × Nat)} (h : Keys ys P) : (flat P).Perm ys := by
  obtain ⟨h1, h2, h3⟩ := h
  rw [List.perm_iff_count]
  intro x
  have key : ∀ Q : List (Nat × Nat), (Q.map (·.1)).Nodup → (∀ p, p ∈ Q → p.2 = ys.count p.1) → (flat Q).count x = if x ∈ Q.map (·.1) then ys.count x else 0 := by
    intro Q
    induction Q with
    | nil => intro _ _; rfl
    | cons p Q ih =>
      intro hn hc
      rw [List.map_cons, List.nodup_cons] at hn
      have hf : flat (p :: Q) = List.replicate p.2 p.1 ++ flat Q := rfl
      rw [hf, List.count_append, ih hn.2 (fun q hq => hc q (by simp [hq])), List.count_replicate, hc p (by simp)]
      by_cases e : p.1 = x
      · subst e
        rw [if_neg hn.1, List.map_cons]
        simp
      · have e2 : ¬ x = p.1 := fun h => e h.symm
        have e3 : (p.1 == x) = false := by simpa using e
        have e4 : (x ∈ (p :: Q).map (·.1)) ↔ x ∈ Q.map (·.1) := by rw [List.map_cons, List.mem_cons]; exact ⟨fun h => h.resolve_left e2, .inr⟩
        rw [e3, if_neg (by simp), Nat.zero_add]
        by_cases e5 : x ∈ Q.map (·.1)
        · rw [if_pos e5, if_pos (e4.2 e5)]
        · rw [if_neg e5, if_neg fun h => e5 (e4.1 h)]
  rw [key P h1 h3]
  by_cases e : x ∈ P.map (·.1)
  · rw [if_pos e]
  · rw [if_neg e]
    exact (List.count_eq_zero.2 fun hx => e ((h2 x).2 hx)).symm
/-- What the program counts, whatever the order of the sets of marks. -/
theorem wayNum_is {cs ms : List (Int × Int)} (h : wholeErr cs ms = 0) {P : List (Nat × Nat)} (hK : Keys (allNos cs ms) P) : wayNum cs ms P = min (wayCount cs ms (fitsOf cs ms) 0 (bestLen cs ms) : Int) CAP := by
  obtain ⟨h0, r, ht, hl, _⟩ := best_is h
  have hmin := tab_is cs ms (two_pos ms.length)
  rw [ht] at hmin
  obtain ⟨hw1, hw2⟩ := few_way (fits_nodup h0) hmin
  have hA := two_pos ms.length
  have hlt : ∀ k, k ∈ allNos cs ms → k < 2 ^ ms.length := fun k hk => by
    unfold allNos at hk
    obtain ⟨x, _, rfl⟩ := List.mem_map.1 hk
    exact no_under cs ms x
  have hPlt : ∀ p, p ∈ P → p.1 < 2 ^ ms.length := fun p hp => hlt _ ((hK.2.1 p.1).1 (List.mem_map_of_mem hp))
  unfold wayNum waysFold
  rw [show ways0 = (fun n s => if n = 0 ∧ s = 0 then 1 else 0) from rfl, capped_all hA (Nat.two_pow_pos _) P (fun p hp b hb => or_lt2 _ hb (hPlt p hp))]
  have hpos : ∀ p, p ∈ P → 1 ≤ p.2 := fun p hp => by
    rw [hK.2.2 p hp]
    exact List.count_pos_iff.2 ((hK.2.1 p.1).1 (List.mem_map_of_mem hp))
  have hperm : (ones (flat P)).Perm (ones ((fitsOf cs ms).map (noOf cs ms))) := (keys_flat hK).map _
  have hw3 : ∀ n x, cw (2 ^ ms.length - 1) (ones (flat P)) n x = cw (2 ^ ms.length - 1) (ones ((fitsOf cs ms).map (noOf cs ms))) n x := cw_perm _ hperm
  have := cw_flat (A := 2 ^ ms.length - 1) P hpos (bestLen cs ms) 0 fun n' hn => by rw [hw3]; exact hw2 n' (by omega)
  rw [← this, hw3]
  rfl

/-- The specification's sums over rows, some marks being had. -/
def refWays (cs ms : List (Int × Int)) (l : List Rw) (h n : Nat) : Int := ((l.map fun x => (noOf cs ms x, 1)).foldl (keyStep (2 ^ ms.length)) (fun n s => if n = 0 ∧ s = h then 1 else 0)) n (2 ^ ms.length - 1)
/-- The first number of rows, from 1 on, in which there are some ways, and how many. -/
def refFew (cs ms : List (Int × Int)) (l : List Rw) : Nat × Int :=
  match (List.range ms.length).find? fun n => decide (0 < refWays cs ms l 0 (n + 1)) with
  | some n => (n + 1, refWays cs ms l 0 (n + 1))
  | none => (0, 0)
end Go.Proofs.Ytlaakmgdbhabfaa
