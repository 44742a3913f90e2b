/- Texts of the package drop, joined: RefGroupsOps, RefGroups. -/
import Derived.Test.YtckndnaohggmhaaC44
import Derived.Deep.Cut
import Derived.IntWalk
/- The reference's Groups: what each operation of its test yields. -/
namespace Go.Proofs.Ytckndnaohggmhaa
open Go.RowKit Go.Shelf

def grS (Wd : Int) (A : Option Addr) (n c : Nat) (A' : Option Addr) (n' c' : Nat) (ds : List (Int × Int × Int)) (i : Nat) (z : Int) (k : Nat) (v : Value) (W : World) : Prop :=
  match k with
  | 0 => v = .int .i64 (i : Int)
  | 1 => v = .bool true
  | 2 => v = .bool true
  | 3 => v = (.agg #[.int .i64 Wd, .slice A n c, .slice A' n' c'] : Value)
  | 4 => v = (.agg #[.int .i64 Wd, .slice A n c, .slice A' n' c'] : Value)
  | 5 => IntsAt (ds.map (endOf false)) v W
  | 6 => v = .int .i64 (i : Int)
  | 7 => v = .int .i64 z
  | _ => v = .bool (z == 0)
theorem grS_ext (Wd : Int) (A : Option Addr) (n c : Nat) (A' : Option Addr) (n' c' : Nat) (ds : List (Int × Int × Int)) (i : Nat) (z : Int) (k : Nat) (v : Value) (W W' : World) (h : grS Wd A n c A' n' c' ds i z k v W) (e : Below W.heap.size W W') : grS Wd A n c A' n' c' ds i z k v W' := by
  unfold grS at h ⊢
  split at h <;> first | exact h | exact IntsAt.ext h e
noncomputable def grReg : Array Oper := (Try.f37.body.bind (regionOf · 7)).getD #[]
def GrOk (Wd : Int) (A : Option Addr) (n c : Nat) (A' : Option Addr) (n' c' : Nat) (ds : List (Int × Int × Int)) (i : Nat) (z : Int) (Q : Exit → Act → World → Prop) (a : Act) (W : World) (k : Nat) (o : Oper) : Prop :=
  (∀ j b, o.guard = some (j, b) → a.eval (.tmp (21 + j)) = .bool b) ∧ o.wp Try.prog a W (fun a'' W' => ∃ v, a'' = a.put o.dst v ∧ grS Wd A n c A' n' c' ds i z k v W' ∧ Below W.heap.size W W') Q

section
variable {Wd : Int} {A : Option Addr} {n c : Nat} {A' : Option Addr} {n' c' : Nat} {ss : List (Int × Int)} {ds : List (Int × Int × Int)} {i p : Nat} {z : Int} {Q : Exit → Act → World → Prop} {a : Act} {V W : World} {o : Oper}
theorem gr_op0 (o7 : a.eval (.tmp 7) = .int .i64 (i : Int)) (ho : grReg[0]? = some o) : GrOk Wd A n c A' n' c' ds i z Q a W 0 o := by
  have hop := op_at ho (·.op) (x := .move (.tmp 7)) (by kernel_rfl)
  have hgd := op_at ho (·.guard) (x := none) (by kernel_rfl)
  refine ⟨fun j b h => (by rw [hgd] at h; cases h), ?_⟩
  exact specs_value (R := grS Wd A n c A' n' c' ds i z 0) (v := .int .i64 (i : Int)) (by simp [execOp, hop, go_sem, ev o7]) rfl (Ext.refl W)
theorem gr_op1 (haft : ∀ j, (o.after.any fun e => decide (e.on = j) && Region.binds .any e) = true → grS Wd A n c A' n' c' ds i z j (a.eval (.tmp (21 + j))) W) (ho : grReg[1]? = some o) : GrOk Wd A n c A' n' c' ds i z Q a W 1 o := by
  have hop := op_at ho (·.op) (x := .binOp .geq 3 (.tmp 21) (.const (.int .i64 0)) 3) (by kernel_rfl)
  have hgd := op_at ho (·.guard) (x := none) (by kernel_rfl)
  have e0 : a.eval (.tmp 21) = .int .i64 (i : Int) := haft 0 (op_at ho (fun o => o.after.any fun e => decide (e.on = 0) && Region.binds .any e) (x := true) (by kernel_rfl))
  refine ⟨fun j b h => (by rw [hgd] at h; cases h), ?_⟩
  exact specs_value (R := grS Wd A n c A' n' c' ds i z 1) (v := .bool true) (by simp [execOp, hop, go_sem, ev e0]) rfl (Ext.refl W)
theorem gr_op2 (haft : ∀ j, (o.after.any fun e => decide (e.on = j) && Region.binds .any e) = true → grS Wd A n c A' n' c' ds i z j (a.eval (.tmp (21 + j))) W) (ho : grReg[2]? = some o) : GrOk Wd A n c A' n' c' ds i z Q a W 2 o := by
  have hop := op_at ho (·.op) (x := .move (.tmp 22)) (by kernel_rfl)
  have hgd := op_at ho (·.guard) (x := none) (by kernel_rfl)
  have e1 : a.eval (.tmp 22) = .bool true := haft 1 (op_at ho (fun o => o.after.any fun e => decide (e.on = 1) && Region.binds .any e) (x := true) (by kernel_rfl))
  refine ⟨fun j b h => (by rw [hgd] at h; cases h), ?_⟩
  exact specs_value (R := grS Wd A n c A' n' c' ds i z 2) (v := .bool true) (by simp [execOp, hop, go_sem, ev e1]) rfl (Ext.refl W)
theorem gr_op3 (o2 : a.eval (.tmp 2) = .pointer (some ⟨p, 0, none⟩)) (hx : BathAt V p Wd A n c A' n' c' ss ds) (hB : Ext V W) (haft : ∀ j, (o.after.any fun e => decide (e.on = j) && Region.binds .any e) = true → grS Wd A n c A' n' c' ds i z j (a.eval (.tmp (21 + j))) W) (ho : grReg[3]? = some o) : GrOk Wd A n c A' n' c' ds i z Q a W 3 o := by
  have hop := op_at ho (·.op) (x := .load 25 (.tmp 2)) (by kernel_rfl)
  have hgd := op_at ho (·.guard) (x := some (2, true)) (by kernel_rfl)
  have e2 : a.eval (.tmp 23) = .bool true := haft 2 (op_at ho (fun o => o.after.any fun e => decide (e.on = 2) && Region.binds .any e) (x := true) (by kernel_rfl))
  refine ⟨fun j b h => (by rw [hgd] at h; cases h; exact e2), ?_⟩
  obtain ⟨q0, q1, q2⟩ := (hx.ext hB).cells
  exact specs_value (R := grS Wd A n c A' n' c' ds i z 3) (v := (.agg #[.int .i64 Wd, .slice A n c, .slice A' n' c'] : Value)) (by simp [execOp, hop, go_sem, ev o2, q0, q1, q2]) rfl (Ext.refl W)
theorem gr_op4 (o2 : a.eval (.tmp 2) = .pointer (some ⟨p, 0, none⟩)) (hx : BathAt V p Wd A n c A' n' c' ss ds) (hB : Ext V W) (haft : ∀ j, (o.after.any fun e => decide (e.on = j) && Region.binds .any e) = true → grS Wd A n c A' n' c' ds i z j (a.eval (.tmp (21 + j))) W) (ho : grReg[4]? = some o) : GrOk Wd A n c A' n' c' ds i z Q a W 4 o := by
  have hop := op_at ho (·.op) (x := .load 25 (.tmp 2)) (by kernel_rfl)
  have hgd := op_at ho (·.guard) (x := some (2, true)) (by kernel_rfl)
  have e2 : a.eval (.tmp 23) = .bool true := haft 2 (op_at ho (fun o => o.after.any fun e => decide (e.on = 2) && Region.binds .any e) (x := true) (by kernel_rfl))
  refine ⟨fun j b h => (by rw [hgd] at h; cases h; exact e2), ?_⟩
  obtain ⟨q0, q1, q2⟩ := (hx.ext hB).cells
  exact specs_value (R := grS Wd A n c A' n' c' ds i z 4) (v := (.agg #[.int .i64 Wd, .slice A n c, .slice A' n' c'] : Value)) (by simp [execOp, hop, go_sem, ev o2, q0, q1, q2]) rfl (Ext.refl W)
theorem gr_op5 (h0 : Few Wd ss ds) (hx : BathAt V p Wd A n c A' n' c' ss ds) (hB : Ext V W) (haft : ∀ j, (o.after.any fun e => decide (e.on = j) && Region.binds .any e) = true → grS Wd A n c A' n' c' ds i z j (a.eval (.tmp (21 + j))) W) (ho : grReg[5]? = some o) : GrOk Wd A n c A' n' c' ds i z Q a W 5 o := by
  have hop := op_at ho (·.op) (x := .call { callee := .value (.func 61), args := #[.tmp 25, .const (.bool false)], argTypes := #[25, 4] }) (by kernel_rfl)
  have hgd := op_at ho (·.guard) (x := some (2, true)) (by kernel_rfl)
  have e2 : a.eval (.tmp 23) = .bool true := haft 2 (op_at ho (fun o => o.after.any fun e => decide (e.on = 2) && Region.binds .any e) (x := true) (by kernel_rfl))
  have e4 : a.eval (.tmp 25) = (.agg #[.int .i64 Wd, .slice A n c, .slice A' n' c'] : Value) := haft 4 (op_at ho (fun o => o.after.any fun e => decide (e.on = 4) && Region.binds .any e) (x := true) (by kernel_rfl))
  refine ⟨fun j b h => (by rw [hgd] at h; cases h; exact e2), ?_⟩
  have hX := hx.ext hB
  have hc := ends_ref (Wd := Wd) false hX.bath (by have := h0.many.2; have := hX.bath.nds; omega)
  exact specs_call (R := grS Wd A n c A' n' c' ds i z 5) (f := 61) (args := #[(.agg #[.int .i64 Wd, .slice A n c, .slice A' n' c'] : Value), .bool false]) (by simp [execOp, hop, go_sem, ev e4]) (hc.mono fun e w' h => by
    obtain ⟨v, rfl, hM, hE⟩ := h
    exact ⟨v, rfl, made64_held hM, hE⟩)
theorem gr_op6 (o7 : a.eval (.tmp 7) = .int .i64 (i : Int)) (haft : ∀ j, (o.after.any fun e => decide (e.on = j) && Region.binds .any e) = true → grS Wd A n c A' n' c' ds i z j (a.eval (.tmp (21 + j))) W) (ho : grReg[6]? = some o) : GrOk Wd A n c A' n' c' ds i z Q a W 6 o := by
  have hop := op_at ho (·.op) (x := .move (.tmp 7)) (by kernel_rfl)
  have hgd := op_at ho (·.guard) (x := some (2, true)) (by kernel_rfl)
  have e2 : a.eval (.tmp 23) = .bool true := haft 2 (op_at ho (fun o => o.after.any fun e => decide (e.on = 2) && Region.binds .any e) (x := true) (by kernel_rfl))
  refine ⟨fun j b h => (by rw [hgd] at h; cases h; exact e2), ?_⟩
  exact specs_value (R := grS Wd A n c A' n' c' ds i z 6) (v := .int .i64 (i : Int)) (by simp [execOp, hop, go_sem, ev o7]) rfl (Ext.refl W)
theorem gr_op7 (h0 : Few Wd ss ds) (hz : (sizes ds i).1 = z) (hx : BathAt V p Wd A n c A' n' c' ss ds) (hB : Ext V W) (haft : ∀ j, (o.after.any fun e => decide (e.on = j) && Region.binds .any e) = true → grS Wd A n c A' n' c' ds i z j (a.eval (.tmp (21 + j))) W) (ho : grReg[7]? = some o) : GrOk Wd A n c A' n' c' ds i z Q a W 7 o := by
  have hop := op_at ho (·.op) (x := .call { callee := .value (.func 45), args := #[.tmp 24, .tmp 26, .tmp 27], argTypes := #[25, 55, 3] }) (by kernel_rfl)
  have hgd := op_at ho (·.guard) (x := some (2, true)) (by kernel_rfl)
  have e2 : a.eval (.tmp 23) = .bool true := haft 2 (op_at ho (fun o => o.after.any fun e => decide (e.on = 2) && Region.binds .any e) (x := true) (by kernel_rfl))
  have e3 : a.eval (.tmp 24) = (.agg #[.int .i64 Wd, .slice A n c, .slice A' n' c'] : Value) := haft 3 (op_at ho (fun o => o.after.any fun e => decide (e.on = 3) && Region.binds .any e) (x := true) (by kernel_rfl))
  obtain ⟨T, cT, e5, hT⟩ := haft 5 (op_at ho (fun o => o.after.any fun e => decide (e.on = 5) && Region.binds .any e) (x := true) (by kernel_rfl))
  rw [show 21 + 5 = 26 from rfl] at e5
  have e6 : a.eval (.tmp 27) = .int .i64 (i : Int) := haft 6 (op_at ho (fun o => o.after.any fun e => decide (e.on = 6) && Region.binds .any e) (x := true) (by kernel_rfl))
  refine ⟨fun j b h => (by rw [hgd] at h; cases h; exact e2), ?_⟩
  have hX := hx.ext hB
  have hc := sizeOf_ref (Wd := Wd) T _ cT (ds.map (endOf false)) (i : Int) hX.bath (by have := h0.many.2; have := hX.bath.nds; omega) rfl (by rw [List.length_map, hX.bath.nds]; exact Nat.le_refl _) (by rw [List.length_map]; have := h0.many.2; omega) hT (ends_bd h0 false)
  rw [hX.bath.nds, sumAt_ends] at hc
  simp only [Bool.false_eq_true, if_false, hz] at hc
  exact specs_call (R := grS Wd A n c A' n' c' ds i z 7) (f := 45) (args := #[(.agg #[.int .i64 Wd, .slice A n c, .slice A' n' c'] : Value), .slice T (ds.map (endOf false)).length cT, .int .i64 (i : Int)]) (by simp [execOp, hop, go_sem, ev e3, ev e5, ev e6]) (by rw [hX.bath.nds]; exact hc.mono fun e w' h => ⟨_, h.1, rfl, h.2⟩)
theorem gr_op8 (haft : ∀ j, (o.after.any fun e => decide (e.on = j) && Region.binds .any e) = true → grS Wd A n c A' n' c' ds i z j (a.eval (.tmp (21 + j))) W) (ho : grReg[8]? = some o) : GrOk Wd A n c A' n' c' ds i z Q a W 8 o := by
  have hop := op_at ho (·.op) (x := .binOp .eql 2 (.tmp 28) (.const (.int .i64 0)) 2) (by kernel_rfl)
  have hgd := op_at ho (·.guard) (x := some (2, true)) (by kernel_rfl)
  have e2 : a.eval (.tmp 23) = .bool true := haft 2 (op_at ho (fun o => o.after.any fun e => decide (e.on = 2) && Region.binds .any e) (x := true) (by kernel_rfl))
  have e7 : a.eval (.tmp 28) = .int .i64 z := haft 7 (op_at ho (fun o => o.after.any fun e => decide (e.on = 7) && Region.binds .any e) (x := true) (by kernel_rfl))
  refine ⟨fun j b h => (by rw [hgd] at h; cases h; exact e2), ?_⟩
  exact specs_value (R := grS Wd A n c A' n' c' ds i z 8) (v := .bool (z == 0)) (by simp [execOp, hop, go_sem, ev e7]) rfl (Ext.refl W)
theorem gr_op9 (haft : ∀ j, (o.after.any fun e => decide (e.on = j) && Region.binds .any e) = true → grS Wd A n c A' n' c' ds i z j (a.eval (.tmp (21 + j))) W) (ho : grReg[9]? = some o) : GrOk Wd A n c A' n' c' ds i z Q a W 9 o := by
  have hop := op_at ho (·.op) (x := .pick (.tmp 23) (.tmp 29) (.const (.bool false))) (by kernel_rfl)
  have hgd := op_at ho (·.guard) (x := none) (by kernel_rfl)
  have e2 : a.eval (.tmp 23) = .bool true := haft 2 (op_at ho (fun o => o.after.any fun e => decide (e.on = 2) && Region.binds .any e) (x := true) (by kernel_rfl))
  have e8 : a.eval (.tmp 29) = .bool (z == 0) := haft 8 (op_at ho (fun o => o.after.any fun e => decide (e.on = 8) && Region.binds .any e) (x := true) (by kernel_rfl))
  refine ⟨fun j b h => (by rw [hgd] at h; cases h), ?_⟩
  exact specs_value (R := grS Wd A n c A' n' c' ds i z 9) (v := .bool (z == 0)) (by simp [execOp, hop, go_sem, ev e2, ev e8]) rfl (Ext.refl W)
end
end Go.Proofs.Ytckndnaohggmhaa

/- The reference's Groups: the walk; what Groups answers, as a list of lists and an error. -/
namespace Go.Proofs.Ytckndnaohggmhaa
open Go.RowKit Go.Shelf

/-- The group that begins with a place. -/
def groupC (n : Nat) (sz : Nat → Int × Int) (H : Nat → Nat → Bool) (x : Nat) : Option (List Int) := if thereB sz x && (List.range x).all (fun i => !goesC H n x i) then some (listTo (goesC H n x) 12) else none
def groupsTo (n : Nat) (sz : Nat → Int × Int) (H : Nat → Nat → Bool) (k : Nat) : List (List Int) := (List.range k).filterMap (groupC n sz H)
theorem groupsC_to (n : Nat) (sz : Nat → Int × Int) (H : Nat → Nat → Bool) : groupsC n sz H = groupsTo n sz H n := by
  unfold groupsC groupsTo
  rw [← finRange_val, List.filterMap_map]
  rfl
theorem groupsTo_succ (n : Nat) (sz : Nat → Int × Int) (H : Nat → Nat → Bool) (k : Nat) : groupsTo n sz H (k + 1) = groupsTo n sz H k ++ (groupC n sz H k).toList := by
  unfold groupsTo
  rw [List.range_succ, List.filterMap_append]
  cases h : groupC n sz H k <;> simp [h]
theorem groupsTo_len (n : Nat) (sz : Nat → Int × Int) (H : Nat → Nat → Bool) (k : Nat) : (groupsTo n sz H k).length ≤ k := by
  unfold groupsTo
  exact Nat.le_trans (List.length_filterMap_le _ _) (by simp)
theorem groupsTo_each {n : Nat} {sz : Nat → Int × Int} {H : Nat → Nat → Bool} {k : Nat} {l : List Int} (h : l ∈ groupsTo n sz H k) : l.length ≤ 12 := by
  obtain ⟨x, _, hx⟩ := List.mem_filterMap.1 h
  unfold groupC at hx
  split at hx
  · simp only [Option.some.injEq] at hx
    rw [← hx]
    exact listTo_length _ _
  · cases hx

/-- What Groups answers. -/
def groupsAns (Wd : Int) (ss : List (Int × Int)) (ds : List (Int × Int × Int)) (sure : Bool) : List (List Int) × Int :=
  if bathErr Wd ss ds ≠ 0 then ([], bathErr Wd ss ds) else (groupsTo (ss.length + 2) (sizes ds) (tableOf Wd ss ds sure) (ss.length + 2), 0)
/-- A list of lists and an error, the lists in memory. -/
def RowsVal (ans : List (List Int) × Int) (w : World) (e : Ending) (w' : World) : Prop :=
  ∃ A c, e = .returned (.tuple #[.slice A ans.1.length c, .int .i64 ans.2]) ∧ HeldRows w' w'.heap.size A ans.1 ∧ Ext w w'

theorem groupsAt_held {base : Nat} {gs : List (Value × List Int)} {W : World} {v : Value} {xss : List (List Int)} (h : GroupsAt base gs W v) (hg : gs.map (·.2) = xss) (hl : ∀ xs, xs ∈ xss → xs.length ≤ 9223372036854775807) : ∃ A c, v = .slice A xss.length c ∧ HeldRows W W.heap.size A xss := by
  have hlen : gs.length = xss.length := by rw [← hg, List.length_map]
  rcases h.row.2 with ⟨rfl, h0⟩ | ⟨g, cap, cur, rfl, _, hrow, hcap, _, hsz, htake⟩
  · have hx0 : xss = [] := List.eq_nil_of_length_eq_zero (by omega)
    subst hx0
    exact ⟨none, 0, rfl, .inl rfl⟩
  · refine ⟨some ⟨g, 0, none⟩, cap, by rw [hlen], .inr ⟨g, 0, rfl, (Array.getElem?_eq_some_iff.1 hrow).1, fun j xs hj => ?_⟩⟩
    rw [← hg, List.getElem?_map, Option.map_eq_some_iff] at hj
    obtain ⟨q, hq, rfl⟩ := hj
    have hmem := List.mem_of_getElem? hq
    obtain ⟨Aj, cj, hv, _, hH⟩ := madeInts_held (h.each q hmem)
    refine ⟨Aj, cj, ?_, hH, hl _ (by rw [← hg]; exact List.mem_map.2 ⟨q, hmem, rfl⟩)⟩
    refine (cell_of_row _ _ _ _ _ _ hrow).trans ?_
    have h1 : (gs.map (·.1))[j]? = some q.1 := by rw [List.getElem?_map, hq]; rfl
    rw [← htake, List.getElem?_take] at h1
    split at h1
    · rw [Nat.zero_add, ← hv]; simpa using h1
    · cases h1

section
variable {w : World} {Wd : Int} {A : Option Addr} {n c : Nat} {A' : Option Addr} {n' c' : Nat} {ss : List (Int × Int)} {ds : List (Int × Int × Int)}

theorem groups_prog (sure : Bool) (hb : IsBath w w.heap.size A n c A' n' c' ss ds) :
    Calls Try.prog 36 #[.agg #[.int .i64 Wd, .slice A n c, .slice A' n' c'], .bool sure] w (RowsVal (groupsAns Wd ss ds sure) w) := by
  refine (groups_any (Wd := Wd) sure hb).mono ?_
  rintro e w' ⟨hE, h | h⟩
  · have ha : groupsAns Wd ss ds sure = ([], bathErr Wd ss ds) := by unfold groupsAns; rw [if_pos h.1]
    rw [ha]
    exact ⟨none, 0, h.2, .inl rfl, hE⟩
  · obtain ⟨h0, v, gs, rfl, hG, hg⟩ := h
    have ha : groupsAns Wd ss ds sure = (groupsTo (ss.length + 2) (sizes ds) (tableOf Wd ss ds sure) (ss.length + 2), 0) := by unfold groupsAns; rw [if_neg (by simp [h0])]
    have hn10 := (bath_ok h0).2.1.1
    rw [groupsOf_C _ (by omega) (by omega) tableOf_lt tableOf_sym, groupsC_to] at hg
    obtain ⟨A2, c2, rfl, hH⟩ := groupsAt_held hG hg (fun xs hx => Nat.le_trans (groupsTo_each hx) (by omega))
    rw [ha]
    exact ⟨A2, c2, rfl, hH, hE⟩

theorem GroupsAt.ext {base : Nat} {gs : List (Value × List Int)} {W W' : World} {v : Value} (h : GroupsAt base gs W v) (e : Ext W W') : GroupsAt base gs W' v :=
  ⟨owns_below h.row e, fun q hq => ⟨owns_below (h.each q hq).1 e, (h.each q hq).2⟩, h.none⟩

set_option maxRecDepth 100000 in
set_option maxHeartbeats 2000000 in
theorem groups_ref (sure : Bool) (hb : IsBath w w.heap.size A n c A' n' c' ss ds) :
    Calls Try.prog 37 #[.agg #[.int .i64 Wd, .slice A n c, .slice A' n' c'], .bool sure] w (RowsVal (groupsAns Wd ss ds sure) w) := by
  have hX0 : BathAt (w.alloc (.cells #[.int .i64 Wd, .slice A n c, .slice A' n' c'] 25)) w.heap.size Wd A n c A' n' c' ss ds := BathAt.new hb
  have hE0 : Ext w (w.alloc (.cells #[.int .i64 Wd, .slice A n c, .slice A' n' c'] 25)) := ext_alloc w _
  have cB : ∀ W : World, IsBath W W.heap.size A n c A' n' c' ss ds → _ := fun W h => checkBath_ref (Wd := Wd) h
  by_cases h0 : bathErr Wd ss ds = 0
  · rw [h0] at cB
    have hn10 : n ≤ 10 := by have := (bath_ok h0).2.1.1; have := hb.nss; omega
    have hans : groupsAns Wd ss ds sure = (groupsTo (ss.length + 2) (sizes ds) (tableOf Wd ss ds sure) (ss.length + 2), 0) := by unfold groupsAns; rw [if_neg (by simp [h0])]
    have hsz : ∀ i, 0 ≤ (sizes ds i).1 := fun m => by have := sizes_bd' h0 ds.length m; rw [List.take_length] at this; omega
    obtain ⟨m, hm⟩ : ∃ m, ss.length + 2 = m := ⟨_, rfl⟩
    have hmn : n + 2 = m := by have := hb.nss; omega
    have hTl : ∀ i j, tableOf Wd ss ds sure i j = true → i < m ∧ j < m ∧ i ≠ j := fun i j h => by have := tableOf_lt i j h; rw [hm] at this; exact this
    have cJ : ∀ x : Nat, x < m → ∀ W : World, IsBath W W.heap.size A n c A' n' c' ss ds → Calls Try.prog 99 #[.agg #[.int .i64 Wd, .slice A n c, .slice A' n' c'], .int .i64 ((x : Int) - 2), .bool sure] W (ListPost (listTo (goesC (tableOf Wd ss ds sure) m x) 12) W) := fun x hx W h => by
      have := joined_ref (Wd := Wd) x sure h0 h (by omega) ((x : Int) - 2) (by omega)
      rw [hm] at this
      have hl := listTo_beyond (M := goesC (tableOf Wd ss ds sure) m x) (m := m) (goesC_beyond hTl hx) (12 - m)
      rw [show m + (12 - m) = 12 from by omega] at hl
      rw [hl]
      exact this
    obtain ⟨T, hT⟩ : ∃ T, tableOf Wd ss ds sure = T := ⟨_, rfl⟩
    rw [hT] at cJ hans
    rw [hm] at hans
    rw [hans]
    have hself : ∀ x, goesC T m x x = true := fun x => by unfold goesC; rw [outs_t]; rfl
    obtain ⟨i42, hi, hz0, hz1, hz2⟩ := info_parts info42
    have HI := Lib.hid hi
    have HZ0 := Lib.hid hz0
    have HZ1 := Lib.hid hz1
    have HZ2 := Lib.hid hz2
    have HF := Lib.hid (bath_few h0)
    have CJ := Lib.hid cJ
    have HSZ := Lib.hid hsz
    have HSELF := Lib.hid hself
    have HMN := Lib.hid (And.intro hmn hn10)
    clear hi hz0 hz1 hz2 hT hans hm hmn hTl cJ hsz hself h0 hb hn10
    go_enter Try.func37, Try.ntmps37
    go_wp2_with fail
    refine (cB _ hX0.bath).mono ?_
    rintro e w1 ⟨rfl, hb1⟩
    have HX1 := Lib.hid (hX0.ext hb1)
    have HE1 := Lib.hid (hE0.trans hb1)
    clear hX0 hE0 hb1 cB
    go_wp2
    obtain ⟨p, hp⟩ : ∃ p, w.heap.size = p := ⟨_, rfl⟩
    rw [hp] at HX1 ⊢
    clear hp
    go_loopw [6, 7, 8] (fun v z _ wr => ∃ (x : Nat) (gs : List (Value × List Int)), x ≤ m ∧ z = .int .i64 ((x : Int) - 2) ∧ Hid (Ext w1 wr) ∧ Hid (GroupsAt w1.heap.size gs wr v) ∧ Hid (gs.map (·.2) = groupsTo m (sizes ds) T x)) (fun _ z _ _ => m - (intOf z + 2).toNat)
    case atStart => exact ⟨0, [], Nat.zero_le _, rfl, Lib.hid (Ext.refl _), Lib.hid ⟨World.ownsRow_nil _ _ _ _, fun q hq => absurd hq (by simp), fun _ => rfl⟩, Lib.hid rfl⟩
    case round =>
      obtain ⟨x, gs, hx, rfl, hB, hG, hg⟩ := hrel
      have hxw := HX1.out.ext hB.out
      obtain ⟨q0, q1, q2⟩ := hxw.cells
      by_cases hlt : x < m
      · have hltz : (x : Int) - 2 < (n : Int) := by have := HMN.out; omega
        have hxb : (x : Int) ≤ 12 := by have := HMN.out; omega
        have hx12 : x < 12 := by have := HMN.out; omega
        by_cases hx2 : x < 2
        · have hx2z : decide (0 ≤ (x : Int) - 2) = false := by simp; omega
          have hx2y : decide ((2 : Int) ≤ (x : Int)) = false := by simp; omega
          have hx2w : decide (2 ≤ x) = false := by simp; omega
          have HTHERE : Hid (thereB (sizes ds) x = true) := Lib.hid (by simp [thereB, hx2])
          clear hxw
          go_wp2
          go_quiet (fail)
          clear hx2z hx2y hx2w
          obtain ⟨wc, hwc, hC⟩ : ∃ wc, wr.drewN nq = wc ∧ Ext wr wc := ⟨_, rfl, bdrewN (Below.refl _ _) _⟩
          rw [hwc]
          clear hwc
          have hwcz : w1.heap.size ≤ wc.heap.size := by have := hB.out.size; have := hC.size; omega
          have hxc := HX1.out.ext (hB.out.trans hC)
          clear q0 q1 q2
          obtain ⟨q0, q1, q2⟩ := hxc.cells
          have hGc := hG.out.ext hC
          have cJ := CJ.out x hlt wc hxc.bath
          have HC := Lib.hid hC
          clear hC hG hxc
          go_wp2_with fail
          refine cJ.mono ?_
          rintro e w2 ⟨v2, rfl, hO2, e2⟩
          obtain ⟨i1, k3, b2, off2, d2, hv2, hpos, hc2, hle, hMi, hlow⟩ := listed_first (x := x) hx12 (HSELF.out x) hO2
          subst hv2
          have hG2 := hGc.ext e2
          have HE2 := Lib.hid ((hB.out.trans HC.out).trans e2)
          clear hGc e2 q0 q1 q2 cJ hB HC
          by_cases hix : i1 = x
          · subst hix
            have hii : ((i1 : Int) - 2 == (i1 : Int) - 2) = true := by simp
            have hsome : groupC m (sizes ds) T i1 = some (listTo (goesC T m i1) 12) := by
              unfold groupC
              rw [HTHERE.out, if_pos]
              simp only [Bool.true_and, List.all_eq_true, List.mem_range]
              intro j hj
              simp [hlow j hj]
            have hgl : gs.length ≤ 12 := by
              have h1 : gs.length = (groupsTo m (sizes ds) T i1).length := by rw [← hg.out, List.length_map]
              have := groupsTo_len m (sizes ds) T i1
              omega
            have hlist : Hid ((gs ++ [(Value.slice (some ⟨b2, off2, none⟩) k3 d2, listTo (goesC T m i1) 12)]).map (·.2) = groupsTo m (sizes ds) T (i1 + 1)) := Lib.hid (by
              rw [groupsTo_succ, hsome, List.map_append, hg.out]
              rfl)
            have hO3 := hO2
            have HG2 := Lib.hid hG2
            have HO3 := Lib.hid hO3
            have hbase : w1.heap.size ≤ w2.heap.size := HE2.out.size
            obtain ⟨gl, hgle⟩ : ∃ gl, gs.length = gl := ⟨_, rfl⟩
            have hrow := hG2.row
            rw [hgle] at hgl hrow
            have HROW := Lib.hid hrow
            have HGLE := Lib.hid hgle
            have HWC := Lib.hid hwcz
            clear hsome hlow hMi hle hg hG2 hO2 hO3 hgle hrow hwcz
            go_wp2_with (first | (at_builtin; refine wpList_append_own _ rfl (.tmp 40) (.tmp 42) 48 rfl w1.heap.size 42 i42 (.slice none 0 0) 1 24 Try.underlying48 HI.out HZ0.out HZ1.out HZ2.out rfl (by decide) _ gl _ rfl (HROW.out.alloc _) ⟨w2.heap.size, 0, none⟩ 1 1 [.slice (some ⟨b2, off2, none⟩) k3 d2] rfl rfl (cell_one_new _ _ _) (by simp [Value.oneCell']) ?c3 ?c4 ?c5 ?_))
            case c3 => unfold maxLen; omega
            case c4 => omega
            case c5 => first | omega | (simp; omega)
            · intro v' w4 hown' hg4 _
              have ob := own_block (HROW.out.alloc (.cells #[.slice (some ⟨b2, off2, none⟩) k3 d2] 42))
              have hE4 : Hid (Ext w1 w4) := Lib.hid ((HE2.out.alloc hbase (.cells #[.slice (some ⟨b2, off2, none⟩) k3 d2] 42)).grown hg4 (by simp; omega) (fun r e => (HROW.out.lt r e).1))
              have hG4 : Hid (GroupsAt w1.heap.size (gs ++ [(Value.slice (some ⟨b2, off2, none⟩) k3 d2, listTo (goesC T m i1) 12)]) w4 v') := Lib.hid ⟨by
                  rw [List.length_append, List.map_append, HGLE.out]
                  simpa using hown', fun q hq => by
                  rcases List.mem_append.1 hq with hq | hq
                  · exact ⟨owns_opt ((HG2.out.each q hq).1.alloc (.cells #[.slice (some ⟨b2, off2, none⟩) k3 d2] 42)) hg4 (fun r e => by
                      obtain ⟨cs', fr', h1⟩ := ob r e
                      exact ⟨cs', 42, fr', h1, by decide⟩), (HG2.out.each q hq).2⟩
                  · rw [List.mem_singleton.1 hq]
                    exact ⟨owns_mono (owns_opt (HO3.out.1.alloc (.cells #[.slice (some ⟨b2, off2, none⟩) k3 d2] 42)) hg4 (fun r e => by
                      obtain ⟨cs', fr', h1⟩ := ob r e
                      exact ⟨cs', 42, fr', h1, by decide⟩)) HWC.out, HO3.out.2⟩, fun e => by simp at e⟩
              clear hown' hg4 ob
              go_wp2
              go_roundw
              case measure => simp [intOf]; omega
              case rel => exact ⟨i1 + 1, _, by omega, by go_num, hE4, hG4, hlist⟩
          · have hii : ((i1 : Int) - 2 == (x : Int) - 2) = false := by simp; omega
            have hnone : groupC m (sizes ds) T x = none := by
              unfold groupC
              rw [if_neg]
              intro h
              simp only [Bool.and_eq_true, List.all_eq_true, List.mem_range] at h
              have := h.2 i1 (by omega)
              rw [hMi] at this
              cases this
            have hg2 : Hid (gs.map (·.2) = groupsTo m (sizes ds) T (x + 1)) := Lib.hid (by rw [groupsTo_succ, hnone, hg.out]; simp)
            have HG2 := Lib.hid hG2
            clear hnone hlow hMi hle hg hG2 hO2 hix hwcz
            go_wp2
            go_roundw
            case measure => simp [intOf]; omega
            case rel => exact ⟨x + 1, gs, by omega, by go_num, HE2, HG2, hg2⟩
        · obtain ⟨i, hxi'⟩ : ∃ i, x = i + 2 := ⟨x - 2, by omega⟩
          have hxi : (x : Int) - 2 = (i : Int) := by omega
          obtain ⟨z, hzi⟩ : ∃ z, (sizes ds i).1 = z := ⟨_, rfl⟩
          have HZI := Lib.hid hzi
          have HXW := Lib.hid hxw
          clear hzi hxw
          go_wp2
          clear q0 q1 q2
          rw [hxi]
          refine wp_region_specs (ops := grReg) (grS Wd A n c A' n' c' ds i z) (Ext wr) (by kernel_rfl) (by kernel_rfl) ⟨rfl, rfl, rfl, Nat.le_refl _, fun _ _ => rfl⟩ (fun _ _ h e => h.trans e) (grS_ext Wd A n c A' n' c' ds i z) (fun k => 21 + k) (by kernel_rfl) ?_ ?_
          · intro k o ho a W hB hsz hold haft
            have hk : k < 10 := (Array.getElem?_eq_some_iff.1 ho).1
            have hx := HXW.out
            match k, hk with
            | 0, _ => exact gr_op0 (hold 7 (by kernel_rfl)) ho
            | 1, _ => exact gr_op1 haft ho
            | 2, _ => exact gr_op2 haft ho
            | 3, _ => exact gr_op3 (hold 2 (by kernel_rfl)) hx hB haft ho
            | 4, _ => exact gr_op4 (hold 2 (by kernel_rfl)) hx hB haft ho
            | 5, _ => exact gr_op5 HF.out hx hB haft ho
            | 6, _ => exact gr_op6 (hold 7 (by kernel_rfl)) haft ho
            | 7, _ => exact gr_op7 HF.out HZI.out hx hB haft ho
            | 8, _ => exact gr_op8 haft ho
            | 9, _ => exact gr_op9 haft ho
            | k + 10, h => exact absurd h (by omega)
          · intro a wc hC hsz hdf hold hS
            have hsize : 10 = grReg.size := by kernel_rfl
            obtain ⟨T5, c5, e5, _⟩ : IntsAt (ds.map (endOf false)) (a.eval (.tmp 26)) wc := hS 5 (by rw [← hsize]; omega)
            have hall : ∀ zz, zz ∈ ([(21, .int .i64 (i : Int)), (22, .bool true), (23, .bool true), (24, (.agg #[.int .i64 Wd, .slice A n c, .slice A' n' c'] : Value)), (25, (.agg #[.int .i64 Wd, .slice A n c, .slice A' n' c'] : Value)), (26, .slice T5 (ds.map (endOf false)).length c5), (27, .int .i64 (i : Int)), (28, .int .i64 z), (29, .bool (z == 0)), (30, .bool (z == 0))] : List (Tmp × Value)) → zz.1 < 45 ∧ a.eval (.tmp zz.1) = zz.2 := by
              intro zz hzz
              simp only [List.mem_cons, List.not_mem_nil, or_false] at hzz
              rcases hzz with rfl | rfl | rfl | rfl | rfl | rfl | rfl | rfl | rfl | rfl
              · exact ⟨(show (21 : Nat) < 45 by omega), hS 0 (by rw [← hsize]; omega)⟩
              · exact ⟨(show (22 : Nat) < 45 by omega), hS 1 (by rw [← hsize]; omega)⟩
              · exact ⟨(show (23 : Nat) < 45 by omega), hS 2 (by rw [← hsize]; omega)⟩
              · exact ⟨(show (24 : Nat) < 45 by omega), hS 3 (by rw [← hsize]; omega)⟩
              · exact ⟨(show (25 : Nat) < 45 by omega), hS 4 (by rw [← hsize]; omega)⟩
              · exact ⟨(show (26 : Nat) < 45 by omega), e5⟩
              · exact ⟨(show (27 : Nat) < 45 by omega), hS 6 (by rw [← hsize]; omega)⟩
              · exact ⟨(show (28 : Nat) < 45 by omega), hS 7 (by rw [← hsize]; omega)⟩
              · exact ⟨(show (29 : Nat) < 45 by omega), hS 8 (by rw [← hsize]; omega)⟩
              · exact ⟨(show (30 : Nat) < 45 by omega), hS 9 (by rw [← hsize]; omega)⟩
            have ha := act_puts hsz hdf hall (fun t ht => hold t (all_ne_of (l := [(21, .int .i64 (i : Int)), (22, .bool true), (23, .bool true), (24, (.agg #[.int .i64 Wd, .slice A n c, .slice A' n' c'] : Value)), (25, (.agg #[.int .i64 Wd, .slice A n c, .slice A' n' c'] : Value)), (26, .slice T5 (ds.map (endOf false)).length c5), (27, .int .i64 (i : Int)), (28, .int .i64 z), (29, .bool (z == 0)), (30, .bool (z == 0))]) (by kernel_rfl) ht))
            clear hall hS hold hsz hdf e5 hsize
            rw [ha]
            clear ha
            simp only [Exit.then, puts, List.foldl_cons, List.foldl_nil, Act.put, List.setIfInBounds_toArray, List.set_cons_succ, List.set_cons_zero]
            go_at_K
            by_cases hz0 : z = 0
            · have hzz : (z == 0) = true := by simp [hz0]
              have hnone : groupC m (sizes ds) T x = none := by
                unfold groupC
                rw [if_neg]
                intro h
                simp only [Bool.and_eq_true, thereB, Bool.or_eq_true, decide_eq_true_eq] at h
                rcases h.1 with h1 | h1
                · omega
                · rw [show x - 2 = i from by omega, HZI.out] at h1
                  omega
              have hg2 : Hid (gs.map (·.2) = groupsTo m (sizes ds) T (x + 1)) := Lib.hid (by rw [groupsTo_succ, hnone, hg.out]; simp)
              have hG2 := Lib.hid (hG.out.ext hC)
              have hE2 := Lib.hid (hB.out.trans hC)
              have HXI := Lib.hid hxi
              have hib : (i : Int) ≤ 12 := by omega
              rw [hzz]
              clear hnone hg hG hB hC hz0 hzz hxi hxi' hx2
              go_wp2
              go_roundw
              case measure => simp [intOf]; have := HXI.out; omega
              case rel => exact ⟨x + 1, gs, by omega, by rw [show ((x + 1 : Nat) : Int) - 2 = (i : Int) + 1 from by have := HXI.out; omega], hE2, hG2, hg2⟩
            · have hzz : (z == 0) = false := by simp [hz0]
              have hwcz : w1.heap.size ≤ wc.heap.size := by have := hB.out.size; have := hC.size; omega
              have HTHERE : Hid (thereB (sizes ds) x = true) := Lib.hid (by
                have := HSZ.out i
                rw [HZI.out] at this
                unfold thereB
                rw [show x - 2 = i from by omega, HZI.out]
                simp
                omega)
              rw [hzz, ← hxi]
              clear hz0 hzz hxi hxi' hx2
              have hxc := HX1.out.ext (hB.out.trans hC)
              obtain ⟨q0, q1, q2⟩ := hxc.cells
              have hGc := hG.out.ext hC
              have cJ := CJ.out x hlt wc hxc.bath
              have HC := Lib.hid hC
              clear hC hG hxc
              go_wp2_with fail
              refine cJ.mono ?_
              rintro e w2 ⟨v2, rfl, hO2, e2⟩
              obtain ⟨i1, k3, b2, off2, d2, hv2, hpos, hc2, hle, hMi, hlow⟩ := listed_first (x := x) hx12 (HSELF.out x) hO2
              subst hv2
              have hG2 := hGc.ext e2
              have HE2 := Lib.hid ((hB.out.trans HC.out).trans e2)
              clear hGc e2 q0 q1 q2 cJ hB HC
              by_cases hix : i1 = x
              · subst hix
                have hii : ((i1 : Int) - 2 == (i1 : Int) - 2) = true := by simp
                have hsome : groupC m (sizes ds) T i1 = some (listTo (goesC T m i1) 12) := by
                  unfold groupC
                  rw [HTHERE.out, if_pos]
                  simp only [Bool.true_and, List.all_eq_true, List.mem_range]
                  intro j hj
                  simp [hlow j hj]
                have hgl : gs.length ≤ 12 := by
                  have h1 : gs.length = (groupsTo m (sizes ds) T i1).length := by rw [← hg.out, List.length_map]
                  have := groupsTo_len m (sizes ds) T i1
                  omega
                have hlist : Hid ((gs ++ [(Value.slice (some ⟨b2, off2, none⟩) k3 d2, listTo (goesC T m i1) 12)]).map (·.2) = groupsTo m (sizes ds) T (i1 + 1)) := Lib.hid (by
                  rw [groupsTo_succ, hsome, List.map_append, hg.out]
                  rfl)
                have hO3 := hO2
                have HG2 := Lib.hid hG2
                have HO3 := Lib.hid hO3
                have hbase : w1.heap.size ≤ w2.heap.size := HE2.out.size
                obtain ⟨gl, hgle⟩ : ∃ gl, gs.length = gl := ⟨_, rfl⟩
                have hrow := hG2.row
                rw [hgle] at hgl hrow
                have HROW := Lib.hid hrow
                have HGLE := Lib.hid hgle
                have HWC := Lib.hid hwcz
                clear hsome hlow hMi hle hg hG2 hO2 hO3 hgle hrow hwcz
                go_wp2_with (first | (at_builtin; refine wpList_append_own _ rfl (.tmp 40) (.tmp 42) 48 rfl w1.heap.size 42 i42 (.slice none 0 0) 1 24 Try.underlying48 HI.out HZ0.out HZ1.out HZ2.out rfl (by decide) _ gl _ rfl (HROW.out.alloc _) ⟨w2.heap.size, 0, none⟩ 1 1 [.slice (some ⟨b2, off2, none⟩) k3 d2] rfl rfl (cell_one_new _ _ _) (by simp [Value.oneCell']) ?c3 ?c4 ?c5 ?_))
                case c3 => unfold maxLen; omega
                case c4 => omega
                case c5 => first | omega | (simp; omega)
                · intro v' w4 hown' hg4 _
                  have ob := own_block (HROW.out.alloc (.cells #[.slice (some ⟨b2, off2, none⟩) k3 d2] 42))
                  have hE4 : Hid (Ext w1 w4) := Lib.hid ((HE2.out.alloc hbase (.cells #[.slice (some ⟨b2, off2, none⟩) k3 d2] 42)).grown hg4 (by simp; omega) (fun r e => (HROW.out.lt r e).1))
                  have hG4 : Hid (GroupsAt w1.heap.size (gs ++ [(Value.slice (some ⟨b2, off2, none⟩) k3 d2, listTo (goesC T m i1) 12)]) w4 v') := Lib.hid ⟨by
                      rw [List.length_append, List.map_append, HGLE.out]
                      simpa using hown', fun q hq => by
                      rcases List.mem_append.1 hq with hq | hq
                      · exact ⟨owns_opt ((HG2.out.each q hq).1.alloc (.cells #[.slice (some ⟨b2, off2, none⟩) k3 d2] 42)) hg4 (fun r e => by
                          obtain ⟨cs', fr', h1⟩ := ob r e
                          exact ⟨cs', 42, fr', h1, by decide⟩), (HG2.out.each q hq).2⟩
                      · rw [List.mem_singleton.1 hq]
                        exact ⟨owns_mono (owns_opt (HO3.out.1.alloc (.cells #[.slice (some ⟨b2, off2, none⟩) k3 d2] 42)) hg4 (fun r e => by
                          obtain ⟨cs', fr', h1⟩ := ob r e
                          exact ⟨cs', 42, fr', h1, by decide⟩)) HWC.out, HO3.out.2⟩, fun e => by simp at e⟩
                  clear hown' hg4 ob
                  go_wp2
                  go_roundw
                  case measure => simp [intOf]; omega
                  case rel => exact ⟨i1 + 1, _, by omega, by go_num, hE4, hG4, hlist⟩
              · have hii : ((i1 : Int) - 2 == (x : Int) - 2) = false := by simp; omega
                have hnone : groupC m (sizes ds) T x = none := by
                  unfold groupC
                  rw [if_neg]
                  intro h
                  simp only [Bool.and_eq_true, List.all_eq_true, List.mem_range] at h
                  have := h.2 i1 (by omega)
                  rw [hMi] at this
                  cases this
                have hg2 : Hid (gs.map (·.2) = groupsTo m (sizes ds) T (x + 1)) := Lib.hid (by rw [groupsTo_succ, hnone, hg.out]; simp)
                have HG2 := Lib.hid hG2
                clear hnone hlow hMi hle hg hG2 hO2 hix hwcz
                go_wp2
                go_roundw
                case measure => simp [intOf]; omega
                case rel => exact ⟨x + 1, gs, by omega, by go_num, HE2, HG2, hg2⟩
      · have hltz : ¬ (x : Int) - 2 < (n : Int) := by have := HMN.out; omega
        obtain rfl : x = m := by omega
        obtain ⟨A2, c2, hv, hH⟩ := groupsAt_held hG.out hg.out (fun xs hx => Nat.le_trans (groupsTo_each hx) (by omega))
        subst hv
        have HH := Lib.hid hH
        clear hH hG hg hxw
        go_wp2
        go_ret2
        exact ⟨A2, c2, rfl, HH.out, HE1.out.trans hB.out⟩
  · have ha : groupsAns Wd ss ds sure = ([], bathErr Wd ss ds) := by unfold groupsAns; rw [if_pos h0]
    rw [ha]
    generalize bathErr Wd ss ds = r at h0 cB ⊢
    have hne2 : (r != 0) = true := by simpa using h0
    clear hb ha h0
    go_enter Try.func37, Try.ntmps37
    go_wp2_with fail
    refine (cB _ hX0.bath).mono ?_
    rintro e w1 ⟨rfl, hb1⟩
    have hX1 := hX0.ext hb1
    have hE1 := Lib.hid (hE0.trans hb1)
    clear hX0 hE0 hb1
    obtain ⟨q0, q1, q2⟩ := hX1.cells
    go_wp2_with fail
    refine (cB _ hX1.bath).mono ?_
    rintro e w2 ⟨rfl, hb2⟩
    have hE2 := Lib.hid (hE1.out.trans hb2)
    clear hX1 hE1 hb2 q0 q1 q2 cB
    go_wp2
    go_ret2
    exact ⟨none, 0, rfl, .inl rfl, hE2.out⟩
end
end Go.Proofs.Ytckndnaohggmhaa
