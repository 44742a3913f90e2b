/- Texts of the package drop, joined: RefGroupsOps, RefGroups, DropSidesLast, DropSides. -/
import Derived.Test.YtgdpgdnhhjclcaaSd17
import Derived.Test.YtgdpgdnhhjclcaaSd23
import Derived.Deep.Cut
import Derived.IntWalk
/- The reference's Groups: what each operation of its test yields. -/
namespace Go.Proofs.Ytgdpgdnhhjclcaa
open Go.RowKit Go.Shelf

def grS (Wd : Int) (A : Option Addr) (n c : Nat) (A' : Option Addr) (n' c' : Nat) (ds : List (Int × Int × Int)) (i : Nat) (z : Int) (k : Nat) (v : Value) (W : World) : Prop :=
  match k with
  | 0 => v = .int .i64 (i : Int)
  | 1 => v = .bool true
  | 2 => v = .bool true
  | 3 => v = (.agg #[.int .i64 Wd, .slice A n c, .slice A' n' c'] : Value)
  | 4 => v = (.agg #[.int .i64 Wd, .slice A n c, .slice A' n' c'] : Value)
  | 5 => IntsAt (ds.map (endOf false)) v W
  | 6 => v = .int .i64 (i : Int)
  | 7 => v = .int .i64 z
  | _ => v = .bool (z == 0)
theorem grS_ext (Wd : Int) (A : Option Addr) (n c : Nat) (A' : Option Addr) (n' c' : Nat) (ds : List (Int × Int × Int)) (i : Nat) (z : Int) (k : Nat) (v : Value) (W W' : World) (h : grS Wd A n c A' n' c' ds i z k v W) (e : Below W.heap.size W W') : grS Wd A n c A' n' c' ds i z k v W' := by
  unfold grS at h ⊢
  split at h <;> first | exact h | exact IntsAt.ext h e
noncomputable def grReg : Array Oper := (Try.f37.body.bind (regionOf · 7)).getD #[]
def GrOk (Wd : Int) (A : Option Addr) (n c : Nat) (A' : Option Addr) (n' c' : Nat) (ds : List (Int × Int × Int)) (i : Nat) (z : Int) (Q : Exit → Act → World → Prop) (a : Act) (W : World) (k : Nat) (o : Oper) : Prop :=
  (∀ j b, o.guard = some (j, b) → a.eval (.tmp (21 + j)) = .bool b) ∧ o.wp Try.prog a W (fun a'' W' => ∃ v, a'' = a.put o.dst v ∧ grS Wd A n c A' n' c' ds i z k v W' ∧ Below W.heap.size W W') Q

section
variable {Wd : Int} {A : Option Addr} {n c : Nat} {A' : Option Addr} {n' c' : Nat} {ss : List (Int × Int)} {ds : List (Int × Int × Int)} {i p : Nat} {z : Int} {Q : Exit → Act → World → Prop} {a : Act} {V W : World} {o : Oper}
theorem gr_op0 (o7 : a.eval (.tmp 7) = .int .i64 (i : Int)) (ho : grReg[0]? = some o) : GrOk Wd A n c A' n' c' ds i z Q a W 0 o := by
  have hop := op_at ho (·.op) (x := .move (.tmp 7)) (by kernel_rfl)
  have hgd := op_at ho (·.guard) (x := none) (by kernel_rfl)
  refine ⟨fun j b h => (by rw [hgd] at h; cases h), ?_⟩
  exact specs_value (R := grS Wd A n c A' n' c' ds i z 0) (v := .int .i64 (i : Int)) (by simp [execOp, hop, go_sem, ev o7]) rfl (Ext.refl W)
theorem gr_op1 (haft : ∀ j, (o.after.any fun e => decide (e.on = j) && Region.binds .any e) = true → grS Wd A n c A' n' c' ds i z j (a.eval (.tmp (21 + j))) W) (ho : grReg[1]? = some o) : GrOk Wd A n c A' n' c' ds i z Q a W 1 o := by
  have hop := op_at ho (·.op) (x := .binOp .geq 3 (.tmp 21) (.const (.int .i64 0)) 3) (by kernel_rfl)
  have hgd := op_at ho (·.guard) (x := none) (by kernel_rfl)
  have e0 : a.eval (.tmp 21) = .int .i64 (i : Int) := haft 0 (op_at ho (fun o => o.after.any fun e => decide (e.on = 0) && Region.binds .any e) (x := true) (by kernel_rfl))
  refine ⟨fun j b h => (by rw [hgd] at h; cases h), ?_⟩
  exact specs_value (R := grS Wd A n c A' n' c' ds i z 1) (v := .bool true) (by simp [execOp, hop, go_sem, ev e0]) rfl (Ext.refl W)
theorem gr_op2 (haft : ∀ j, (o.after.any fun e => decide (e.on = j) && Region.binds .any e) = true → grS Wd A n c A' n' c' ds i z j (a.eval (.tmp (21 + j))) W) (ho : grReg[2]? = some o) : GrOk Wd A n c A' n' c' ds i z Q a W 2 o := by
  have hop := op_at ho (·.op) (x := .move (.tmp 22)) (by kernel_rfl)
  have hgd := op_at ho (·.guard) (x := none) (by kernel_rfl)
  have e1 : a.eval (.tmp 22) = .bool true := haft 1 (op_at ho (fun o => o.after.any fun e => decide (e.on = 1) && Region.binds .any e) (x := true) (by kernel_rfl))
  refine ⟨fun j b h => (by rw [hgd] at h; cases h), ?_⟩
  exact specs_value (R := grS Wd A n c A' n' c' ds i z 2) (v := .bool true) (by simp [execOp, hop, go_sem, ev e1]) rfl (Ext.refl W)
theorem gr_op3 (o2 : a.eval (.tmp 2) = .pointer (some ⟨p, 0, none⟩)) (hx : BathAt V p Wd A n c A' n' c' ss ds) (hB : Ext V W) (haft : ∀ j, (o.after.any fun e => decide (e.on = j) && Region.binds .any e) = true → grS Wd A n c A' n' c' ds i z j (a.eval (.tmp (21 + j))) W) (ho : grReg[3]? = some o) : GrOk Wd A n c A' n' c' ds i z Q a W 3 o := by
  have hop := op_at ho (·.op) (x := .load 25 (.tmp 2)) (by kernel_rfl)
  have hgd := op_at ho (·.guard) (x := some (2, true)) (by kernel_rfl)
  have e2 : a.eval (.tmp 23) = .bool true := haft 2 (op_at ho (fun o => o.after.any fun e => decide (e.on = 2) && Region.binds .any e) (x := true) (by kernel_rfl))
  refine ⟨fun j b h => (by rw [hgd] at h; cases h; exact e2), ?_⟩
  obtain ⟨q0, q1, q2⟩ := (hx.ext hB).cells
  exact specs_value (R := grS Wd A n c A' n' c' ds i z 3) (v := (.agg #[.int .i64 Wd, .slice A n c, .slice A' n' c'] : Value)) (by simp [execOp, hop, go_sem, ev o2, q0, q1, q2]) rfl (Ext.refl W)
theorem gr_op4 (o2 : a.eval (.tmp 2) = .pointer (some ⟨p, 0, none⟩)) (hx : BathAt V p Wd A n c A' n' c' ss ds) (hB : Ext V W) (haft : ∀ j, (o.after.any fun e => decide (e.on = j) && Region.binds .any e) = true → grS Wd A n c A' n' c' ds i z j (a.eval (.tmp (21 + j))) W) (ho : grReg[4]? = some o) : GrOk Wd A n c A' n' c' ds i z Q a W 4 o := by
  have hop := op_at ho (·.op) (x := .load 25 (.tmp 2)) (by kernel_rfl)
  have hgd := op_at ho (·.guard) (x := some (2, true)) (by kernel_rfl)
  have e2 : a.eval (.tmp 23) = .bool true := haft 2 (op_at ho (fun o => o.after.any fun e => decide (e.on = 2) && Region.binds .any e) (x := true) (by kernel_rfl))
  refine ⟨fun j b h => (by rw [hgd] at h; cases h; exact e2), ?_⟩
  obtain ⟨q0, q1, q2⟩ := (hx.ext hB).cells
  exact specs_value (R := grS Wd A n c A' n' c' ds i z 4) (v := (.agg #[.int .i64 Wd, .slice A n c, .slice A' n' c'] : Value)) (by simp [execOp, hop, go_sem, ev o2, q0, q1, q2]) rfl (Ext.refl W)
theorem gr_op5 (h0 : Few Wd ss ds) (hx : BathAt V p Wd A n c A' n' c' ss ds) (hB : Ext V W) (haft : ∀ j, (o.after.any fun e => decide (e.on = j) && Region.binds .any e) = true → grS Wd A n c A' n' c' ds i z j (a.eval (.tmp (21 + j))) W) (ho : grReg[5]? = some o) : GrOk Wd A n c A' n' c' ds i z Q a W 5 o := by
  have hop := op_at ho (·.op) (x := .call { callee := .value (.func 61), args := #[.tmp 25, .const (.bool false)], argTypes := #[25, 4] }) (by kernel_rfl)
  have hgd := op_at ho (·.guard) (x := some (2, true)) (by kernel_rfl)
  have e2 : a.eval (.tmp 23) = .bool true := haft 2 (op_at ho (fun o => o.after.any fun e => decide (e.on = 2) && Region.binds .any e) (x := true) (by kernel_rfl))
  have e4 : a.eval (.tmp 25) = (.agg #[.int .i64 Wd, .slice A n c, .slice A' n' c'] : Value) := haft 4 (op_at ho (fun o => o.after.any fun e => decide (e.on = 4) && Region.binds .any e) (x := true) (by kernel_rfl))
  refine ⟨fun j b h => (by rw [hgd] at h; cases h; exact e2), ?_⟩
  have hX := hx.ext hB
  have hc := ends_ref (Wd := Wd) false hX.bath (by have := h0.many.2; have := hX.bath.nds; omega)
  exact specs_call (R := grS Wd A n c A' n' c' ds i z 5) (f := 61) (args := #[(.agg #[.int .i64 Wd, .slice A n c, .slice A' n' c'] : Value), .bool false]) (by simp [execOp, hop, go_sem, ev e4]) (hc.mono fun e w' h => by
    obtain ⟨v, rfl, hM, hE⟩ := h
    exact ⟨v, rfl, made64_held hM, hE⟩)
theorem gr_op6 (o7 : a.eval (.tmp 7) = .int .i64 (i : Int)) (haft : ∀ j, (o.after.any fun e => decide (e.on = j) && Region.binds .any e) = true → grS Wd A n c A' n' c' ds i z j (a.eval (.tmp (21 + j))) W) (ho : grReg[6]? = some o) : GrOk Wd A n c A' n' c' ds i z Q a W 6 o := by
  have hop := op_at ho (·.op) (x := .move (.tmp 7)) (by kernel_rfl)
  have hgd := op_at ho (·.guard) (x := some (2, true)) (by kernel_rfl)
  have e2 : a.eval (.tmp 23) = .bool true := haft 2 (op_at ho (fun o => o.after.any fun e => decide (e.on = 2) && Region.binds .any e) (x := true) (by kernel_rfl))
  refine ⟨fun j b h => (by rw [hgd] at h; cases h; exact e2), ?_⟩
  exact specs_value (R := grS Wd A n c A' n' c' ds i z 6) (v := .int .i64 (i : Int)) (by simp [execOp, hop, go_sem, ev o7]) rfl (Ext.refl W)
theorem gr_op7 (h0 : Few Wd ss ds) (hz : (sizes ds i).1 = z) (hx : BathAt V p Wd A n c A' n' c' ss ds) (hB : Ext V W) (haft : ∀ j, (o.after.any fun e => decide (e.on = j) && Region.binds .any e) = true → grS Wd A n c A' n' c' ds i z j (a.eval (.tmp (21 + j))) W) (ho : grReg[7]? = some o) : GrOk Wd A n c A' n' c' ds i z Q a W 7 o := by
  have hop := op_at ho (·.op) (x := .call { callee := .value (.func 45), args := #[.tmp 24, .tmp 26, .tmp 27], argTypes := #[25, 55, 3] }) (by kernel_rfl)
  have hgd := op_at ho (·.guard) (x := some (2, true)) (by kernel_rfl)
  have e2 : a.eval (.tmp 23) = .bool true := haft 2 (op_at ho (fun o => o.after.any fun e => decide (e.on = 2) && Region.binds .any e) (x := true) (by kernel_rfl))
  have e3 : a.eval (.tmp 24) = (.agg #[.int .i64 Wd, .slice A n c, .slice A' n' c'] : Value) := haft 3 (op_at ho (fun o => o.after.any fun e => decide (e.on = 3) && Region.binds .any e) (x := true) (by kernel_rfl))
  obtain ⟨T, cT, e5, hT⟩ := haft 5 (op_at ho (fun o => o.after.any fun e => decide (e.on = 5) && Region.binds .any e) (x := true) (by kernel_rfl))
  rw [show 21 + 5 = 26 from rfl] at e5
  have e6 : a.eval (.tmp 27) = .int .i64 (i : Int) := haft 6 (op_at ho (fun o => o.after.any fun e => decide (e.on = 6) && Region.binds .any e) (x := true) (by kernel_rfl))
  refine ⟨fun j b h => (by rw [hgd] at h; cases h; exact e2), ?_⟩
  have hX := hx.ext hB
  have hc := sizeOf_ref (Wd := Wd) T _ cT (ds.map (endOf false)) (i : Int) hX.bath (by have := h0.many.2; have := hX.bath.nds; omega) rfl (by rw [List.length_map, hX.bath.nds]; exact Nat.le_refl _) (by rw [List.length_map]; have := h0.many.2; omega) hT (ends_bd h0 false)
  rw [hX.bath.nds, sumAt_ends] at hc
  simp only [Bool.false_eq_true, if_false, hz] at hc
  exact specs_call (R := grS Wd A n c A' n' c' ds i z 7) (f := 45) (args := #[(.agg #[.int .i64 Wd, .slice A n c, .slice A' n' c'] : Value), .slice T (ds.map (endOf false)).length cT, .int .i64 (i : Int)]) (by simp [execOp, hop, go_sem, ev e3, ev e5, ev e6]) (by rw [hX.bath.nds]; exact hc.mono fun e w' h => ⟨_, h.1, rfl, h.2⟩)
theorem gr_op8 (haft : ∀ j, (o.after.any fun e => decide (e.on = j) && Region.binds .any e) = true → grS Wd A n c A' n' c' ds i z j (a.eval (.tmp (21 + j))) W) (ho : grReg[8]? = some o) : GrOk Wd A n c A' n' c' ds i z Q a W 8 o := by
  have hop := op_at ho (·.op) (x := .binOp .eql 2 (.tmp 28) (.const (.int .i64 0)) 2) (by kernel_rfl)
  have hgd := op_at ho (·.guard) (x := some (2, true)) (by kernel_rfl)
  have e2 : a.eval (.tmp 23) = .bool true := haft 2 (op_at ho (fun o => o.after.any fun e => decide (e.on = 2) && Region.binds .any e) (x := true) (by kernel_rfl))
  have e7 : a.eval (.tmp 28) = .int .i64 z := haft 7 (op_at ho (fun o => o.after.any fun e => decide (e.on = 7) && Region.binds .any e) (x := true) (by kernel_rfl))
  refine ⟨fun j b h => (by rw [hgd] at h; cases h; exact e2), ?_⟩
  exact specs_value (R := grS Wd A n c A' n' c' ds i z 8) (v := .bool (z == 0)) (by simp [execOp, hop, go_sem, ev e7]) rfl (Ext.refl W)
theorem gr_op9 (haft : ∀ j, (o.after.any fun e => decide (e.on = j) && Region.binds .any e) = true → grS Wd A n c A' n' c' ds i z j (a.eval (.tmp (21 + j))) W) (ho : grReg[9]? = some o) : GrOk Wd A n c A' n' c' ds i z Q a W 9 o := by
  have hop := op_at ho (·.op) (x := .pick (.tmp 23) (.tmp 29) (.const (.bool false))) (by kernel_rfl)
  have hgd := op_at ho (·.guard) (x := none) (by kernel_rfl)
  have e2 : a.eval (.tmp 23) = .bool true := haft 2 (op_at ho (fun o => o.after.any fun e => decide (e.on = 2) && Region.binds .any e) (x := true) (by kernel_rfl))
  have e8 : a.eval (.tmp 29) = .bool (z == 0) := haft 8 (op_at ho (fun o => o.after.any fun e => decide (e.on = 8) && Region.binds .any e) (x := true) (by kernel_rfl))
  refine ⟨fun j b h => (by rw [hgd] at h; cases h), ?_⟩
  exact specs_value (R := grS Wd A n c A' n' c' ds i z 9) (v := .bool (z == 0)) (by simp [execOp, hop, go_sem, ev e2, ev e8]) rfl (Ext.refl W)
end
end Go.Proofs.Ytgdpgdnhhjclcaa

/- The reference's Groups: the walk; what Groups answers, as a list of lists and an error. -/
namespace Go.Proofs.Ytgdpgdnhhjclcaa
open Go.RowKit Go.Shelf

/-- The group that begins with a place. -/
def groupC (n : Nat) (sz : Nat → Int × Int) (H : Nat → Nat → Bool) (x : Nat) : Option (List Int) := if thereB sz x && (List.range x).all (fun i => !goesC H n x i) then some (listTo (goesC H n x) 12) else none
def groupsTo (n : Nat) (sz : Nat → Int × Int) (H : Nat → Nat → Bool) (k : Nat) : List (List Int) := (List.range k).filterMap (groupC n sz H)
theorem groupsC_to (n : Nat) (sz : Nat → Int × Int) (H : Nat → Nat → Bool) : groupsC n sz H = groupsTo n sz H n := by
  unfold groupsC groupsTo
  rw [← finRange_val, List.filterMap_map]
  rfl
theorem groupsTo_succ (n : Nat) (sz : Nat → Int × Int) (H : Nat → Nat → Bool) (k : Nat) : groupsTo n sz H (k + 1) = groupsTo n sz H k ++ (groupC n sz H k).toList := by
  unfold groupsTo
  rw [List.range_succ, List.filterMap_append]
  cases h : groupC n sz H k <;> simp [h]
theorem groupsTo_len (n : Nat) (sz : Nat → Int × Int) (H : Nat → Nat → Bool) (k : Nat) : (groupsTo n sz H k).length ≤ k := by
  unfold groupsTo
  exact Nat.le_trans (List.length_filterMap_le _ _) (by simp)
theorem groupsTo_each {n : Nat} {sz : Nat → Int × Int} {H : Nat → Nat → Bool} {k : Nat} {l : List Int} (h : l ∈ groupsTo n sz H k) : l.length ≤ 12 := by
  obtain ⟨x, _, hx⟩ := List.mem_filterMap.1 h
  unfold groupC at hx
  split at hx
  · simp only [Option.some.injEq] at hx
    rw [← hx]
    exact listTo_length _ _
  · cases hx

/-- What Groups answers. -/
def groupsAns (Wd : Int) (ss : List (Int × Int)) (ds : List (Int × Int × Int)) (sure : Bool) : List (List Int) × Int :=
  if bathErr Wd ss ds ≠ 0 then ([], bathErr Wd ss ds) else (groupsTo (ss.length + 2) (sizes ds) (tableOf Wd ss ds sure) (ss.length + 2), 0)
/-- A list of lists and an error, the lists in memory. -/
def RowsVal (ans : List (List Int) × Int) (w : World) (e : Ending) (w' : World) : Prop :=
  ∃ A c, e = .returned (.tuple #[.slice A ans.1.length c, .int .i64 ans.2]) ∧ HeldRows w' w'.heap.size A ans.1 ∧ Ext w w'

theorem groupsAt_held {base : Nat} {gs : List (Value × List Int)} {W : World} {v : Value} {xss : List (List Int)} (h : GroupsAt base gs W v) (hg : gs.map (·.2) = xss) (hl : ∀ xs, xs ∈ xss → xs.length ≤ 9223372036854775807) : ∃ A c, v = .slice A xss.length c ∧ HeldRows W W.heap.size A xss := by
  have hlen : gs.length = xss.length := by rw [← hg, List.length_map]
  rcases h.row.2 with ⟨rfl, h0⟩ | ⟨g, cap, cur, rfl, _, hrow, hcap, _, hsz, htake⟩
  · have hx0 : xss = [] := List.eq_nil_of_length_eq_zero (by omega)
    subst hx0
    exact ⟨none, 0, rfl, .inl rfl⟩
  · refine ⟨some ⟨g, 0, none⟩, cap, by rw [hlen], .inr ⟨g, 0, rfl, (Array.getElem?_eq_some_iff.1 hrow).1, fun j xs hj => ?_⟩⟩
    rw [← hg, List.getElem?_map, Option.map_eq_some_iff] at hj
    obtain ⟨q, hq, rfl⟩ := hj
    have hmem := List.mem_of_getElem? hq
    obtain ⟨Aj, cj, hv, _, hH⟩ := madeInts_held (h.each q hmem)
    refine ⟨Aj, cj, ?_, hH, hl _ (by rw [← hg]; exact List.mem_map.2 ⟨q, hmem, rfl⟩)⟩
    refine (cell_of_row _ _ _ _ _ _ hrow).trans ?_
    have h1 : (gs.map (·.1))[j]? = some q.1 := by rw [List.getElem?_map, hq]; rfl
    rw [← htake, List.getElem?_take] at h1
    split at h1
    · rw [Nat.zero_add, ← hv]; simpa using h1
    · cases h1

section
variable {w : World} {Wd : Int} {A : Option Addr} {n c : Nat} {A' : Option Addr} {n' c' : Nat} {ss : List (Int × Int)} {ds : List (Int × Int × Int)}

theorem groups_prog (sure : Bool) (hb : IsBath w w.heap.size A n c A' n' c' ss ds) :
    Calls Try.prog 36 #[.agg #[.int .i64 Wd, .slice A n c, .slice A' n' c'], .bool sure] w (RowsVal (groupsAns Wd ss ds sure) w) := by
  refine (groups_any (Wd := Wd) sure hb).mono ?_
  rintro e w' ⟨hE, h | h⟩
  · have ha : groupsAns Wd ss ds sure = ([], bathErr Wd ss ds) := by unfold groupsAns; rw [if_pos h.1]
    rw [ha]
    exact ⟨none, 0, h.2, .inl rfl, hE⟩
  · obtain ⟨h0, v, gs, rfl, hG, hg⟩ := h
    have ha : groupsAns Wd ss ds sure = (groupsTo (ss.length + 2) (sizes ds) (tableOf Wd ss ds sure) (ss.length + 2), 0) := by unfold groupsAns; rw [if_neg (by simp [h0])]
    have hn10 := (bath_ok h0).2.1.1
    rw [groupsOf_C _ (by omega) (by omega) tableOf_lt tableOf_sym, groupsC_to] at hg
    obtain ⟨A2, c2, rfl, hH⟩ := groupsAt_held hG hg (fun xs hx => Nat.le_trans (groupsTo_each hx) (by omega))
    rw [ha]
    exact ⟨A2, c2, rfl, hH, hE⟩

theorem GroupsAt.ext {base : Nat} {gs : List (Value × List Int)} {W W' : World} {v : Value} (h : GroupsAt base gs W v) (e : Ext W W') : GroupsAt base gs W' v :=
  ⟨owns_below h.row e, fun q hq => ⟨owns_below (h.each q hq).1 e, (h.each q hq).2⟩, h.none⟩

set_option maxRecDepth 100000 in
set_option maxHeartbeats 2000000 in
theorem groups_ref (sure : Bool) (hb : IsBath w w.heap.size A n c A' n' c' ss ds) :
    Calls Try.prog 37 #[.agg #[.int .i64 Wd, .slice A n c, .slice A' n' c'], .bool sure] w (RowsVal (groupsAns Wd ss ds sure) w) := by
  have hX0 : BathAt (w.alloc (.cells #[.int .i64 Wd, .slice A n c, .slice A' n' c'] 25)) w.heap.size Wd A n c A' n' c' ss ds := BathAt.new hb
  have hE0 : Ext w (w.alloc (.cells #[.int .i64 Wd, .slice A n c, .slice A' n' c'] 25)) := ext_alloc w _
  have cB : ∀ W : World, IsBath W W.heap.size A n c A' n' c' ss ds → _ := fun W h => checkBath_ref (Wd := Wd) h
  by_cases h0 : bathErr Wd ss ds = 0
  · rw [h0] at cB
    have hn10 : n ≤ 10 := by have := (bath_ok h0).2.1.1; have := hb.nss; omega
    have hans : groupsAns Wd ss ds sure = (groupsTo (ss.length + 2) (sizes ds) (tableOf Wd ss ds sure) (ss.length + 2), 0) := by unfold groupsAns; rw [if_neg (by simp [h0])]
    have hsz : ∀ i, 0 ≤ (sizes ds i).1 := fun m => by have := sizes_bd' h0 ds.length m; rw [List.take_length] at this; omega
    obtain ⟨m, hm⟩ : ∃ m, ss.length + 2 = m := ⟨_, rfl⟩
    have hmn : n + 2 = m := by have := hb.nss; omega
    have hTl : ∀ i j, tableOf Wd ss ds sure i j = true → i < m ∧ j < m ∧ i ≠ j := fun i j h => by have := tableOf_lt i j h; rw [hm] at this; exact this
    have cJ : ∀ x : Nat, x < m → ∀ W : World, IsBath W W.heap.size A n c A' n' c' ss ds → Calls Try.prog 99 #[.agg #[.int .i64 Wd, .slice A n c, .slice A' n' c'], .int .i64 ((x : Int) - 2), .bool sure] W (ListPost (listTo (goesC (tableOf Wd ss ds sure) m x) 12) W) := fun x hx W h => by
      have := joined_ref (Wd := Wd) x sure h0 h (by omega) ((x : Int) - 2) (by omega)
      rw [hm] at this
      have hl := listTo_beyond (M := goesC (tableOf Wd ss ds sure) m x) (m := m) (goesC_beyond hTl hx) (12 - m)
      rw [show m + (12 - m) = 12 from by omega] at hl
      rw [hl]
      exact this
    obtain ⟨T, hT⟩ : ∃ T, tableOf Wd ss ds sure = T := ⟨_, rfl⟩
    rw [hT] at cJ hans
    rw [hm] at hans
    rw [hans]
    have hself : ∀ x, goesC T m x x = true := fun x => by unfold goesC; rw [outs_t]; rfl
    obtain ⟨i42, hi, hz0, hz1, hz2⟩ := info_parts info42
    have HI := Lib.hid hi
    have HZ0 := Lib.hid hz0
    have HZ1 := Lib.hid hz1
    have HZ2 := Lib.hid hz2
    have HF := Lib.hid (bath_few h0)
    have CJ := Lib.hid cJ
    have HSZ := Lib.hid hsz
    have HSELF := Lib.hid hself
    have HMN := Lib.hid (And.intro hmn hn10)
    clear hi hz0 hz1 hz2 hT hans hm hmn hTl cJ hsz hself h0 hb hn10
    go_enter Try.func37, Try.ntmps37
    go_wp2_with fail
    refine (cB _ hX0.bath).mono ?_
    rintro e w1 ⟨rfl, hb1⟩
    have HX1 := Lib.hid (hX0.ext hb1)
    have HE1 := Lib.hid (hE0.trans hb1)
    clear hX0 hE0 hb1 cB
    go_wp2
    obtain ⟨p, hp⟩ : ∃ p, w.heap.size = p := ⟨_, rfl⟩
    rw [hp] at HX1 ⊢
    clear hp
    go_loopw [6, 7, 8] (fun v z _ wr => ∃ (x : Nat) (gs : List (Value × List Int)), x ≤ m ∧ z = .int .i64 ((x : Int) - 2) ∧ Hid (Ext w1 wr) ∧ Hid (GroupsAt w1.heap.size gs wr v) ∧ Hid (gs.map (·.2) = groupsTo m (sizes ds) T x)) (fun _ z _ _ => m - (intOf z + 2).toNat)
    case atStart => exact ⟨0, [], Nat.zero_le _, rfl, Lib.hid (Ext.refl _), Lib.hid ⟨World.ownsRow_nil _ _ _ _, fun q hq => absurd hq (by simp), fun _ => rfl⟩, Lib.hid rfl⟩
    case round =>
      obtain ⟨x, gs, hx, rfl, hB, hG, hg⟩ := hrel
      have hxw := HX1.out.ext hB.out
      obtain ⟨q0, q1, q2⟩ := hxw.cells
      by_cases hlt : x < m
      · have hltz : (x : Int) - 2 < (n : Int) := by have := HMN.out; omega
        have hxb : (x : Int) ≤ 12 := by have := HMN.out; omega
        have hx12 : x < 12 := by have := HMN.out; omega
        by_cases hx2 : x < 2
        · have hx2z : decide (0 ≤ (x : Int) - 2) = false := by simp; omega
          have hx2y : decide ((2 : Int) ≤ (x : Int)) = false := by simp; omega
          have hx2w : decide (2 ≤ x) = false := by simp; omega
          have HTHERE : Hid (thereB (sizes ds) x = true) := Lib.hid (by simp [thereB, hx2])
          clear hxw
          go_wp2
          go_quiet (fail)
          clear hx2z hx2y hx2w
          obtain ⟨wc, hwc, hC⟩ : ∃ wc, wr.drewN nq = wc ∧ Ext wr wc := ⟨_, rfl, bdrewN (Below.refl _ _) _⟩
          rw [hwc]
          clear hwc
          have hwcz : w1.heap.size ≤ wc.heap.size := by have := hB.out.size; have := hC.size; omega
          have hxc := HX1.out.ext (hB.out.trans hC)
          clear q0 q1 q2
          obtain ⟨q0, q1, q2⟩ := hxc.cells
          have hGc := hG.out.ext hC
          have cJ := CJ.out x hlt wc hxc.bath
          have HC := Lib.hid hC
          clear hC hG hxc
          go_wp2_with fail
          refine cJ.mono ?_
          rintro e w2 ⟨v2, rfl, hO2, e2⟩
          obtain ⟨i1, k3, b2, off2, d2, hv2, hpos, hc2, hle, hMi, hlow⟩ := listed_first (x := x) hx12 (HSELF.out x) hO2
          subst hv2
          have hG2 := hGc.ext e2
          have HE2 := Lib.hid ((hB.out.trans HC.out).trans e2)
          clear hGc e2 q0 q1 q2 cJ hB HC
          by_cases hix : i1 = x
          · subst hix
            have hii : ((i1 : Int) - 2 == (i1 : Int) - 2) = true := by simp
            have hsome : groupC m (sizes ds) T i1 = some (listTo (goesC T m i1) 12) := by
              unfold groupC
              rw [HTHERE.out, if_pos]
              simp only [Bool.true_and, List.all_eq_true, List.mem_range]
              intro j hj
              simp [hlow j hj]
            have hgl : gs.length ≤ 12 := by
              have h1 : gs.length = (groupsTo m (sizes ds) T i1).length := by rw [← hg.out, List.length_map]
              have := groupsTo_len m (sizes ds) T i1
              omega
            have hlist : Hid ((gs ++ [(Value.slice (some ⟨b2, off2, none⟩) k3 d2, listTo (goesC T m i1) 12)]).map (·.2) = groupsTo m (sizes ds) T (i1 + 1)) := Lib.hid (by
              rw [groupsTo_succ, hsome, List.map_append, hg.out]
              rfl)
            have hO3 := hO2
            have HG2 := Lib.hid hG2
            have HO3 := Lib.hid hO3
            have hbase : w1.heap.size ≤ w2.heap.size := HE2.out.size
            obtain ⟨gl, hgle⟩ : ∃ gl, gs.length = gl := ⟨_, rfl⟩
            have hrow := hG2.row
            rw [hgle] at hgl hrow
            have HROW := Lib.hid hrow
            have HGLE := Lib.hid hgle
            have HWC := Lib.hid hwcz
            clear hsome hlow hMi hle hg hG2 hO2 hO3 hgle hrow hwcz
            go_wp2_with (first | (at_builtin; refine wpList_append_own _ rfl (.tmp 40) (.tmp 42) 48 rfl w1.heap.size 42 i42 (.slice none 0 0) 1 24 Try.underlying48 HI.out HZ0.out HZ1.out HZ2.out rfl (by decide) _ gl _ rfl (HROW.out.alloc _) ⟨w2.heap.size, 0, none⟩ 1 1 [.slice (some ⟨b2, off2, none⟩) k3 d2] rfl rfl (cell_one_new _ _ _) (by simp [Value.oneCell']) ?c3 ?c4 ?c5 ?_))
            case c3 => unfold maxLen; omega
            case c4 => omega
            case c5 => first | omega | (simp; omega)
            · intro v' w4 hown' hg4 _
              have ob := own_block (HROW.out.alloc (.cells #[.slice (some ⟨b2, off2, none⟩) k3 d2] 42))
              have hE4 : Hid (Ext w1 w4) := Lib.hid ((HE2.out.alloc hbase (.cells #[.slice (some ⟨b2, off2, none⟩) k3 d2] 42)).grown hg4 (by simp; omega) (fun r e => (HROW.out.lt r e).1))
              have hG4 : Hid (GroupsAt w1.heap.size (gs ++ [(Value.slice (some ⟨b2, off2, none⟩) k3 d2, listTo (goesC T m i1) 12)]) w4 v') := Lib.hid ⟨by
                  rw [List.length_append, List.map_append, HGLE.out]
                  simpa using hown', fun q hq => by
                  rcases List.mem_append.1 hq with hq | hq
                  · exact ⟨owns_opt ((HG2.out.each q hq).1.alloc (.cells #[.slice (some ⟨b2, off2, none⟩) k3 d2] 42)) hg4 (fun r e => by
                      obtain ⟨cs', fr', h1⟩ := ob r e
                      exact ⟨cs', 42, fr', h1, by decide⟩), (HG2.out.each q hq).2⟩
                  · rw [List.mem_singleton.1 hq]
                    exact ⟨owns_mono (owns_opt (HO3.out.1.alloc (.cells #[.slice (some ⟨b2, off2, none⟩) k3 d2] 42)) hg4 (fun r e => by
                      obtain ⟨cs', fr', h1⟩ := ob r e
                      exact ⟨cs', 42, fr', h1, by decide⟩)) HWC.out, HO3.out.2⟩, fun e => by simp at e⟩
              clear hown' hg4 ob
              go_wp2
              go_roundw
              case measure => simp [intOf]; omega
              case rel => exact ⟨i1 + 1, _, by omega, by go_num, hE4, hG4, hlist⟩
          · have hii : ((i1 : Int) - 2 == (x : Int) - 2) = false := by simp; omega
            have hnone : groupC m (sizes ds) T x = none := by
              unfold groupC
              rw [if_neg]
              intro h
              simp only [Bool.and_eq_true, List.all_eq_true, List.mem_range] at h
              have := h.2 i1 (by omega)
              rw [hMi] at this
              cases this
            have hg2 : Hid (gs.map (·.2) = groupsTo m (sizes ds) T (x + 1)) := Lib.hid (by rw [groupsTo_succ, hnone, hg.out]; simp)
            have HG2 := Lib.hid hG2
            clear hnone hlow hMi hle hg hG2 hO2 hix hwcz
            go_wp2
            go_roundw
            case measure => simp [intOf]; omega
            case rel => exact ⟨x + 1, gs, by omega, by go_num, HE2, HG2, hg2⟩
        · obtain ⟨i, hxi'⟩ : ∃ i, x = i + 2 := ⟨x - 2, by omega⟩
          have hxi : (x : Int) - 2 = (i : Int) := by omega
          obtain ⟨z, hzi⟩ : ∃ z, (sizes ds i).1 = z := ⟨_, rfl⟩
          have HZI := Lib.hid hzi
          have HXW := Lib.hid hxw
          clear hzi hxw
          go_wp2
          clear q0 q1 q2
          rw [hxi]
          refine wp_region_specs (ops := grReg) (grS Wd A n c A' n' c' ds i z) (Ext wr) (by kernel_rfl) (by kernel_rfl) ⟨rfl, rfl, rfl, Nat.le_refl _, fun _ _ => rfl⟩ (fun _ _ h e => h.trans e) (grS_ext Wd A n c A' n' c' ds i z) (fun k => 21 + k) (by kernel_rfl) ?_ ?_
          · intro k o ho a W hB hsz hold haft
            have hk : k < 10 := (Array.getElem?_eq_some_iff.1 ho).1
            have hx := HXW.out
            match k, hk with
            | 0, _ => exact gr_op0 (hold 7 (by kernel_rfl)) ho
            | 1, _ => exact gr_op1 haft ho
            | 2, _ => exact gr_op2 haft ho
            | 3, _ => exact gr_op3 (hold 2 (by kernel_rfl)) hx hB haft ho
            | 4, _ => exact gr_op4 (hold 2 (by kernel_rfl)) hx hB haft ho
            | 5, _ => exact gr_op5 HF.out hx hB haft ho
            | 6, _ => exact gr_op6 (hold 7 (by kernel_rfl)) haft ho
            | 7, _ => exact gr_op7 HF.out HZI.out hx hB haft ho
            | 8, _ => exact gr_op8 haft ho
            | 9, _ => exact gr_op9 haft ho
            | k + 10, h => exact absurd h (by omega)
          · intro a wc hC hsz hdf hold hS
            have hsize : 10 = grReg.size := by kernel_rfl
            obtain ⟨T5, c5, e5, _⟩ : IntsAt (ds.map (endOf false)) (a.eval (.tmp 26)) wc := hS 5 (by rw [← hsize]; omega)
            have hall : ∀ zz, zz ∈ ([(21, .int .i64 (i : Int)), (22, .bool true), (23, .bool true), (24, (.agg #[.int .i64 Wd, .slice A n c, .slice A' n' c'] : Value)), (25, (.agg #[.int .i64 Wd, .slice A n c, .slice A' n' c'] : Value)), (26, .slice T5 (ds.map (endOf false)).length c5), (27, .int .i64 (i : Int)), (28, .int .i64 z), (29, .bool (z == 0)), (30, .bool (z == 0))] : List (Tmp × Value)) → zz.1 < 45 ∧ a.eval (.tmp zz.1) = zz.2 := by
              intro zz hzz
              simp only [List.mem_cons, List.not_mem_nil, or_false] at hzz
              rcases hzz with rfl | rfl | rfl | rfl | rfl | rfl | rfl | rfl | rfl | rfl
              · exact ⟨(show (21 : Nat) < 45 by omega), hS 0 (by rw [← hsize]; omega)⟩
              · exact ⟨(show (22 : Nat) < 45 by omega), hS 1 (by rw [← hsize]; omega)⟩
              · exact ⟨(show (23 : Nat) < 45 by omega), hS 2 (by rw [← hsize]; omega)⟩
              · exact ⟨(show (24 : Nat) < 45 by omega), hS 3 (by rw [← hsize]; omega)⟩
              · exact ⟨(show (25 : Nat) < 45 by omega), hS 4 (by rw [← hsize]; omega)⟩
              · exact ⟨(show (26 : Nat) < 45 by omega), e5⟩
              · exact ⟨(show (27 : Nat) < 45 by omega), hS 6 (by rw [← hsize]; omega)⟩
              · exact ⟨(show (28 : Nat) < 45 by omega), hS 7 (by rw [← hsize]; omega)⟩
              · exact ⟨(show (29 : Nat) < 45 by omega), hS 8 (by rw [← hsize]; omega)⟩
              · exact ⟨(show (30 : Nat) < 45 by omega), hS 9 (by rw [← hsize]; omega)⟩
            have ha := act_puts hsz hdf hall (fun t ht => hold t (all_ne_of (l := [(21, .int .i64 (i : Int)), (22, .bool true), (23, .bool true), (24, (.agg #[.int .i64 Wd, .slice A n c, .slice A' n' c'] : Value)), (25, (.agg #[.int .i64 Wd, .slice A n c, .slice A' n' c'] : Value)), (26, .slice T5 (ds.map (endOf false)).length c5), (27, .int .i64 (i : Int)), (28, .int .i64 z), (29, .bool (z == 0)), (30, .bool (z == 0))]) (by kernel_rfl) ht))
            clear hall hS hold hsz hdf e5 hsize
            rw [ha]
            clear ha
            simp only [Exit.then, puts, List.foldl_cons, List.foldl_nil, Act.put, List.setIfInBounds_toArray, List.set_cons_succ, List.set_cons_zero]
            go_at_K
            by_cases hz0 : z = 0
            · have hzz : (z == 0) = true := by simp [hz0]
              have hnone : groupC m (sizes ds) T x = none := by
                unfold groupC
                rw [if_neg]
                intro h
                simp only [Bool.and_eq_true, thereB, Bool.or_eq_true, decide_eq_true_eq] at h
                rcases h.1 with h1 | h1
                · omega
                · rw [show x - 2 = i from by omega, HZI.out] at h1
                  omega
              have hg2 : Hid (gs.map (·.2) = groupsTo m (sizes ds) T (x + 1)) := Lib.hid (by rw [groupsTo_succ, hnone, hg.out]; simp)
              have hG2 := Lib.hid (hG.out.ext hC)
              have hE2 := Lib.hid (hB.out.trans hC)
              have HXI := Lib.hid hxi
              have hib : (i : Int) ≤ 12 := by omega
              rw [hzz]
              clear hnone hg hG hB hC hz0 hzz hxi hxi' hx2
              go_wp2
              go_roundw
              case measure => simp [intOf]; have := HXI.out; omega
              case rel => exact ⟨x + 1, gs, by omega, by rw [show ((x + 1 : Nat) : Int) - 2 = (i : Int) + 1 from by have := HXI.out; omega], hE2, hG2, hg2⟩
            · have hzz : (z == 0) = false := by simp [hz0]
              have hwcz : w1.heap.size ≤ wc.heap.size := by have := hB.out.size; have := hC.size; omega
              have HTHERE : Hid (thereB (sizes ds) x = true) := Lib.hid (by
                have := HSZ.out i
                rw [HZI.out] at this
                unfold thereB
                rw [show x - 2 = i from by omega, HZI.out]
                simp
                omega)
              rw [hzz, ← hxi]
              clear hz0 hzz hxi hxi' hx2
              have hxc := HX1.out.ext (hB.out.trans hC)
              obtain ⟨q0, q1, q2⟩ := hxc.cells
              have hGc := hG.out.ext hC
              have cJ := CJ.out x hlt wc hxc.bath
              have HC := Lib.hid hC
              clear hC hG hxc
              go_wp2_with fail
              refine cJ.mono ?_
              rintro e w2 ⟨v2, rfl, hO2, e2⟩
              obtain ⟨i1, k3, b2, off2, d2, hv2, hpos, hc2, hle, hMi, hlow⟩ := listed_first (x := x) hx12 (HSELF.out x) hO2
              subst hv2
              have hG2 := hGc.ext e2
              have HE2 := Lib.hid ((hB.out.trans HC.out).trans e2)
              clear hGc e2 q0 q1 q2 cJ hB HC
              by_cases hix : i1 = x
              · subst hix
                have hii : ((i1 : Int) - 2 == (i1 : Int) - 2) = true := by simp
                have hsome : groupC m (sizes ds) T i1 = some (listTo (goesC T m i1) 12) := by
                  unfold groupC
                  rw [HTHERE.out, if_pos]
                  simp only [Bool.true_and, List.all_eq_true, List.mem_range]
                  intro j hj
                  simp [hlow j hj]
                have hgl : gs.length ≤ 12 := by
                  have h1 : gs.length = (groupsTo m (sizes ds) T i1).length := by rw [← hg.out, List.length_map]
                  have := groupsTo_len m (sizes ds) T i1
                  omega
                have hlist : Hid ((gs ++ [(Value.slice (some ⟨b2, off2, none⟩) k3 d2, listTo (goesC T m i1) 12)]).map (·.2) = groupsTo m (sizes ds) T (i1 + 1)) := Lib.hid (by
                  rw [groupsTo_succ, hsome, List.map_append, hg.out]
                  rfl)
                have hO3 := hO2
                have HG2 := Lib.hid hG2
                have HO3 := Lib.hid hO3
                have hbase : w1.heap.size ≤ w2.heap.size := HE2.out.size
                obtain ⟨gl, hgle⟩ : ∃ gl, gs.length = gl := ⟨_, rfl⟩
                have hrow := hG2.row
                rw [hgle] at hgl hrow
                have HROW := Lib.hid hrow
                have HGLE := Lib.hid hgle
                have HWC := Lib.hid hwcz
                clear hsome hlow hMi hle hg hG2 hO2 hO3 hgle hrow hwcz
                go_wp2_with (first | (at_builtin; refine wpList_append_own _ rfl (.tmp 40) (.tmp 42) 48 rfl w1.heap.size 42 i42 (.slice none 0 0) 1 24 Try.underlying48 HI.out HZ0.out HZ1.out HZ2.out rfl (by decide) _ gl _ rfl (HROW.out.alloc _) ⟨w2.heap.size, 0, none⟩ 1 1 [.slice (some ⟨b2, off2, none⟩) k3 d2] rfl rfl (cell_one_new _ _ _) (by simp [Value.oneCell']) ?c3 ?c4 ?c5 ?_))
                case c3 => unfold maxLen; omega
                case c4 => omega
                case c5 => first | omega | (simp; omega)
                · intro v' w4 hown' hg4 _
                  have ob := own_block (HROW.out.alloc (.cells #[.slice (some ⟨b2, off2, none⟩) k3 d2] 42))
                  have hE4 : Hid (Ext w1 w4) := Lib.hid ((HE2.out.alloc hbase (.cells #[.slice (some ⟨b2, off2, none⟩) k3 d2] 42)).grown hg4 (by simp; omega) (fun r e => (HROW.out.lt r e).1))
                  have hG4 : Hid (GroupsAt w1.heap.size (gs ++ [(Value.slice (some ⟨b2, off2, none⟩) k3 d2, listTo (goesC T m i1) 12)]) w4 v') := Lib.hid ⟨by
                      rw [List.length_append, List.map_append, HGLE.out]
                      simpa using hown', fun q hq => by
                      rcases List.mem_append.1 hq with hq | hq
                      · exact ⟨owns_opt ((HG2.out.each q hq).1.alloc (.cells #[.slice (some ⟨b2, off2, none⟩) k3 d2] 42)) hg4 (fun r e => by
                          obtain ⟨cs', fr', h1⟩ := ob r e
                          exact ⟨cs', 42, fr', h1, by decide⟩), (HG2.out.each q hq).2⟩
                      · rw [List.mem_singleton.1 hq]
                        exact ⟨owns_mono (owns_opt (HO3.out.1.alloc (.cells #[.slice (some ⟨b2, off2, none⟩) k3 d2] 42)) hg4 (fun r e => by
                          obtain ⟨cs', fr', h1⟩ := ob r e
                          exact ⟨cs', 42, fr', h1, by decide⟩)) HWC.out, HO3.out.2⟩, fun e => by simp at e⟩
                  clear hown' hg4 ob
                  go_wp2
                  go_roundw
                  case measure => simp [intOf]; omega
                  case rel => exact ⟨i1 + 1, _, by omega, by go_num, hE4, hG4, hlist⟩
              · have hii : ((i1 : Int) - 2 == (x : Int) - 2) = false := by simp; omega
                have hnone : groupC m (sizes ds) T x = none := by
                  unfold groupC
                  rw [if_neg]
                  intro h
                  simp only [Bool.and_eq_true, List.all_eq_true, List.mem_range] at h
                  have := h.2 i1 (by omega)
                  rw [hMi] at this
                  cases this
                have hg2 : Hid (gs.map (·.2) = groupsTo m (sizes ds) T (x + 1)) := Lib.hid (by rw [groupsTo_succ, hnone, hg.out]; simp)
                have HG2 := Lib.hid hG2
                clear hnone hlow hMi hle hg hG2 hO2 hix hwcz
                go_wp2
                go_roundw
                case measure => simp [intOf]; omega
                case rel => exact ⟨x + 1, gs, by omega, by go_num, HE2, HG2, hg2⟩
      · have hltz : ¬ (x : Int) - 2 < (n : Int) := by have := HMN.out; omega
        obtain rfl : x = m := by omega
        obtain ⟨A2, c2, hv, hH⟩ := groupsAt_held hG.out hg.out (fun xs hx => Nat.le_trans (groupsTo_each hx) (by omega))
        subst hv
        have HH := Lib.hid hH
        clear hH hG hg hxw
        go_wp2
        go_ret2
        exact ⟨A2, c2, rfl, HH.out, HE1.out.trans hB.out⟩
  · have ha : groupsAns Wd ss ds sure = ([], bathErr Wd ss ds) := by unfold groupsAns; rw [if_pos h0]
    rw [ha]
    generalize bathErr Wd ss ds = r at h0 cB ⊢
    have hne2 : (r != 0) = true := by simpa using h0
    clear hb ha h0
    go_enter Try.func37, Try.ntmps37
    go_wp2_with fail
    refine (cB _ hX0.bath).mono ?_
    rintro e w1 ⟨rfl, hb1⟩
    have hX1 := hX0.ext hb1
    have hE1 := Lib.hid (hE0.trans hb1)
    clear hX0 hE0 hb1
    obtain ⟨q0, q1, q2⟩ := hX1.cells
    go_wp2_with fail
    refine (cB _ hX1.bath).mono ?_
    rintro e w2 ⟨rfl, hb2⟩
    have hE2 := Lib.hid (hE1.out.trans hb2)
    clear hX1 hE1 hb2 q0 q1 q2 cB
    go_wp2
    go_ret2
    exact ⟨none, 0, rfl, .inl rfl, hE2.out⟩
end
end Go.Proofs.Ytgdpgdnhhjclcaa

/- DropSides: what each operation of the last statement yields. -/
namespace Go.Proofs.Ytgdpgdnhhjclcaa
open Go.RowKit Go.Shelf

/-- The slots. -/
def sidesD (i : Nat) : Tmp := if i = 36 then 10 else 55 + i
/-- What each operation yields. -/
def sidesV (Wd : Int) (A : Option Addr) (n c : Nat) (A' : Option Addr) (n' c' : Nat) (ss : List (Int × Int)) (ds : List (Int × Int × Int)) (A1 A2 B1 B2 L : Option Addr) (k1 a1 a2 k2 b1 b2 k d p : Nat) (er eg cw one two : Int) (sure : Bool) (ix : Nat) : Value :=
  match ix with
  | 0 => .slice A1 k1 a1
  | 1 => .slice A2 k1 a2
  | 4 => .int .i64 er
  | 5 => .int .i64 er
  | 9 => .slice B1 k2 b1
  | 10 => .slice B2 k2 b2
  | 14 => .int .i64 eg
  | 15 => .int .i64 eg
  | 19 => (.agg #[.int .i64 Wd, .slice A n c, .slice A' n' c'])
  | 20 => .int .i64 one
  | 21 => .int .i64 two
  | 22 => .slice L k d
  | 23 => .bool sure
  | 24 => .int .i64 cw
  | 25 => (.agg #[.int .i64 Wd, .slice A n c, .slice A' n' c'])
  | 26 => .int .i64 one
  | 27 => .int .i64 two
  | 28 => .slice L k d
  | 29 => .bool sure
  | 30 => .int .i64 cw
  | _ => .bool true
noncomputable def sidesReg : Array Oper := (Try.f7.body.bind (regionOf · 7)).getD #[]
def sidesOk (Wd : Int) (A : Option Addr) (n c : Nat) (A' : Option Addr) (n' c' : Nat) (ss : List (Int × Int)) (ds : List (Int × Int × Int)) (A1 A2 B1 B2 L : Option Addr) (k1 a1 a2 k2 b1 b2 k d p : Nat) (er eg cw one two : Int) (sure : Bool) (Q : Exit → Act → World → Prop) (a : Act) (W : World) (ix : Nat) (o : Oper) : Prop :=
  (∀ j b, o.guard = some (j, b) → a.eval (.tmp (sidesD j)) = .bool b) ∧ o.wp Try.prog a W (fun a'' W' => ∃ v, a'' = a.put o.dst v ∧ v = sidesV Wd A n c A' n' c' ss ds A1 A2 B1 B2 L k1 a1 a2 k2 b1 b2 k d p er eg cw one two sure ix ∧ Below W.heap.size W W') Q

section
variable {Wd : Int} {A : Option Addr} {n c : Nat} {A' : Option Addr} {n' c' : Nat} {ss : List (Int × Int)} {ds : List (Int × Int × Int)} {A1 A2 B1 B2 L : Option Addr} {k1 a1 a2 k2 b1 b2 k d p : Nat} {er eg cw one two : Int} {sure : Bool} {Q : Exit → Act → World → Prop} {a : Act} {V W : World} {o : Oper}
theorem sides_op0 (o11 : a.eval (.tmp 11) = .slice A1 k1 a1) (ho : sidesReg[0]? = some o) : sidesOk Wd A n c A' n' c' ss ds A1 A2 B1 B2 L k1 a1 a2 k2 b1 b2 k d p er eg cw one two sure Q a W 0 o := by
  have hop := op_at ho (·.op) (x := .move (.tmp 11)) (by kernel_rfl)
  have hgd := op_at ho (·.guard) (x := none) (by kernel_rfl)
  refine ⟨fun j b h => (by rw [hgd] at h; cases h), ?_⟩
  exact specs_value (R := fun v _ => v = sidesV Wd A n c A' n' c' ss ds A1 A2 B1 B2 L k1 a1 a2 k2 b1 b2 k d p er eg cw one two sure 0) (v := .slice A1 k1 a1) (by simp [execOp, hop, go_sem, ev o11]) rfl (Ext.refl W)
theorem sides_op1 (o13 : a.eval (.tmp 13) = .slice A2 k1 a2) (ho : sidesReg[1]? = some o) : sidesOk Wd A n c A' n' c' ss ds A1 A2 B1 B2 L k1 a1 a2 k2 b1 b2 k d p er eg cw one two sure Q a W 1 o := by
  have hop := op_at ho (·.op) (x := .move (.tmp 13)) (by kernel_rfl)
  have hgd := op_at ho (·.guard) (x := none) (by kernel_rfl)
  refine ⟨fun j b h => (by rw [hgd] at h; cases h), ?_⟩
  exact specs_value (R := fun v _ => v = sidesV Wd A n c A' n' c' ss ds A1 A2 B1 B2 L k1 a1 a2 k2 b1 b2 k d p er eg cw one two sure 1) (v := .slice A2 k1 a2) (by simp [execOp, hop, go_sem, ev o13]) rfl (Ext.refl W)
theorem sides_op2 (cI : ∀ W, Ext V W → Calls Try.prog 31 #[.slice A1 k1 a1, .slice A2 k1 a2] W fun e w' => e = .returned (.bool true) ∧ Below W.heap.size W w') (hB : Ext V W) (haft : ∀ j, (o.after.any fun e => decide (e.on = j) && Region.binds .any e) = true → a.eval (.tmp (sidesD j)) = sidesV Wd A n c A' n' c' ss ds A1 A2 B1 B2 L k1 a1 a2 k2 b1 b2 k d p er eg cw one two sure j) (ho : sidesReg[2]? = some o) : sidesOk Wd A n c A' n' c' ss ds A1 A2 B1 B2 L k1 a1 a2 k2 b1 b2 k d p er eg cw one two sure Q a W 2 o := by
  have hop := op_at ho (·.op) (x := .call { callee := .value (.func 31), args := #[.tmp 55, .tmp 56], argTypes := #[42, 42] }) (by kernel_rfl)
  have hgd := op_at ho (·.guard) (x := none) (by kernel_rfl)
  have e0 : a.eval (.tmp 55) = .slice A1 k1 a1 := haft 0 (op_at ho (fun o => o.after.any fun e => decide (e.on = 0) && Region.binds .any e) (x := true) (by kernel_rfl))
  have e1 : a.eval (.tmp 56) = .slice A2 k1 a2 := haft 1 (op_at ho (fun o => o.after.any fun e => decide (e.on = 1) && Region.binds .any e) (x := true) (by kernel_rfl))
  refine ⟨fun j b h => (by rw [hgd] at h; cases h), ?_⟩
  exact specs_call (R := fun v _ => v = sidesV Wd A n c A' n' c' ss ds A1 A2 B1 B2 L k1 a1 a2 k2 b1 b2 k d p er eg cw one two sure 2) (f := 31) (args := #[.slice A1 k1 a1, .slice A2 k1 a2]) (by simp [execOp, hop, go_sem, ev e0, ev e1]) ((cI W hB).mono fun e w' h => ⟨_, h.1, rfl, h.2⟩)
theorem sides_op3 (haft : ∀ j, (o.after.any fun e => decide (e.on = j) && Region.binds .any e) = true → a.eval (.tmp (sidesD j)) = sidesV Wd A n c A' n' c' ss ds A1 A2 B1 B2 L k1 a1 a2 k2 b1 b2 k d p er eg cw one two sure j) (ho : sidesReg[3]? = some o) : sidesOk Wd A n c A' n' c' ss ds A1 A2 B1 B2 L k1 a1 a2 k2 b1 b2 k d p er eg cw one two sure Q a W 3 o := by
  have hop := op_at ho (·.op) (x := .move (.tmp 57)) (by kernel_rfl)
  have hgd := op_at ho (·.guard) (x := none) (by kernel_rfl)
  have e2 : a.eval (.tmp 57) = .bool true := haft 2 (op_at ho (fun o => o.after.any fun e => decide (e.on = 2) && Region.binds .any e) (x := true) (by kernel_rfl))
  refine ⟨fun j b h => (by rw [hgd] at h; cases h), ?_⟩
  exact specs_value (R := fun v _ => v = sidesV Wd A n c A' n' c' ss ds A1 A2 B1 B2 L k1 a1 a2 k2 b1 b2 k d p er eg cw one two sure 3) (v := .bool true) (by simp [execOp, hop, go_sem, ev e2]) rfl (Ext.refl W)
theorem sides_op4 (o12 : a.eval (.tmp 12) = .int .i64 er) (haft : ∀ j, (o.after.any fun e => decide (e.on = j) && Region.binds .any e) = true → a.eval (.tmp (sidesD j)) = sidesV Wd A n c A' n' c' ss ds A1 A2 B1 B2 L k1 a1 a2 k2 b1 b2 k d p er eg cw one two sure j) (ho : sidesReg[4]? = some o) : sidesOk Wd A n c A' n' c' ss ds A1 A2 B1 B2 L k1 a1 a2 k2 b1 b2 k d p er eg cw one two sure Q a W 4 o := by
  have hop := op_at ho (·.op) (x := .move (.tmp 12)) (by kernel_rfl)
  have hgd := op_at ho (·.guard) (x := some (3, true)) (by kernel_rfl)
  have e3 : a.eval (.tmp 58) = .bool true := haft 3 (op_at ho (fun o => o.after.any fun e => decide (e.on = 3) && Region.binds .any e) (x := true) (by kernel_rfl))
  refine ⟨fun j b h => (by rw [hgd] at h; cases h; exact e3), ?_⟩
  exact specs_value (R := fun v _ => v = sidesV Wd A n c A' n' c' ss ds A1 A2 B1 B2 L k1 a1 a2 k2 b1 b2 k d p er eg cw one two sure 4) (v := .int .i64 er) (by simp [execOp, hop, go_sem, ev o12]) rfl (Ext.refl W)
theorem sides_op5 (o14 : a.eval (.tmp 14) = .int .i64 er) (haft : ∀ j, (o.after.any fun e => decide (e.on = j) && Region.binds .any e) = true → a.eval (.tmp (sidesD j)) = sidesV Wd A n c A' n' c' ss ds A1 A2 B1 B2 L k1 a1 a2 k2 b1 b2 k d p er eg cw one two sure j) (ho : sidesReg[5]? = some o) : sidesOk Wd A n c A' n' c' ss ds A1 A2 B1 B2 L k1 a1 a2 k2 b1 b2 k d p er eg cw one two sure Q a W 5 o := by
  have hop := op_at ho (·.op) (x := .move (.tmp 14)) (by kernel_rfl)
  have hgd := op_at ho (·.guard) (x := some (3, true)) (by kernel_rfl)
  have e3 : a.eval (.tmp 58) = .bool true := haft 3 (op_at ho (fun o => o.after.any fun e => decide (e.on = 3) && Region.binds .any e) (x := true) (by kernel_rfl))
  refine ⟨fun j b h => (by rw [hgd] at h; cases h; exact e3), ?_⟩
  exact specs_value (R := fun v _ => v = sidesV Wd A n c A' n' c' ss ds A1 A2 B1 B2 L k1 a1 a2 k2 b1 b2 k d p er eg cw one two sure 5) (v := .int .i64 er) (by simp [execOp, hop, go_sem, ev o14]) rfl (Ext.refl W)
theorem sides_op6 (haft : ∀ j, (o.after.any fun e => decide (e.on = j) && Region.binds .any e) = true → a.eval (.tmp (sidesD j)) = sidesV Wd A n c A' n' c' ss ds A1 A2 B1 B2 L k1 a1 a2 k2 b1 b2 k d p er eg cw one two sure j) (ho : sidesReg[6]? = some o) : sidesOk Wd A n c A' n' c' ss ds A1 A2 B1 B2 L k1 a1 a2 k2 b1 b2 k d p er eg cw one two sure Q a W 6 o := by
  have hop := op_at ho (·.op) (x := .binOp .eql 30 (.tmp 59) (.tmp 60) 30) (by kernel_rfl)
  have hgd := op_at ho (·.guard) (x := some (3, true)) (by kernel_rfl)
  have e3 : a.eval (.tmp 58) = .bool true := haft 3 (op_at ho (fun o => o.after.any fun e => decide (e.on = 3) && Region.binds .any e) (x := true) (by kernel_rfl))
  have e4 : a.eval (.tmp 59) = .int .i64 er := haft 4 (op_at ho (fun o => o.after.any fun e => decide (e.on = 4) && Region.binds .any e) (x := true) (by kernel_rfl))
  have e5 : a.eval (.tmp 60) = .int .i64 er := haft 5 (op_at ho (fun o => o.after.any fun e => decide (e.on = 5) && Region.binds .any e) (x := true) (by kernel_rfl))
  refine ⟨fun j b h => (by rw [hgd] at h; cases h; exact e3), ?_⟩
  exact specs_value (R := fun v _ => v = sidesV Wd A n c A' n' c' ss ds A1 A2 B1 B2 L k1 a1 a2 k2 b1 b2 k d p er eg cw one two sure 6) (v := .bool true) (by simp [execOp, hop, go_sem, ev e4, ev e5]) rfl (Ext.refl W)
theorem sides_op7 (haft : ∀ j, (o.after.any fun e => decide (e.on = j) && Region.binds .any e) = true → a.eval (.tmp (sidesD j)) = sidesV Wd A n c A' n' c' ss ds A1 A2 B1 B2 L k1 a1 a2 k2 b1 b2 k d p er eg cw one two sure j) (ho : sidesReg[7]? = some o) : sidesOk Wd A n c A' n' c' ss ds A1 A2 B1 B2 L k1 a1 a2 k2 b1 b2 k d p er eg cw one two sure Q a W 7 o := by
  have hop := op_at ho (·.op) (x := .pick (.tmp 58) (.tmp 61) (.const (.bool false))) (by kernel_rfl)
  have hgd := op_at ho (·.guard) (x := none) (by kernel_rfl)
  have e3 : a.eval (.tmp 58) = .bool true := haft 3 (op_at ho (fun o => o.after.any fun e => decide (e.on = 3) && Region.binds .any e) (x := true) (by kernel_rfl))
  have e6 : a.eval (.tmp 61) = .bool true := haft 6 (op_at ho (fun o => o.after.any fun e => decide (e.on = 6) && Region.binds .any e) (x := true) (by kernel_rfl))
  refine ⟨fun j b h => (by rw [hgd] at h; cases h), ?_⟩
  exact specs_value (R := fun v _ => v = sidesV Wd A n c A' n' c' ss ds A1 A2 B1 B2 L k1 a1 a2 k2 b1 b2 k d p er eg cw one two sure 7) (v := .bool true) (by simp [execOp, hop, go_sem, ev e3, ev e6]) rfl (Ext.refl W)
theorem sides_op8 (haft : ∀ j, (o.after.any fun e => decide (e.on = j) && Region.binds .any e) = true → a.eval (.tmp (sidesD j)) = sidesV Wd A n c A' n' c' ss ds A1 A2 B1 B2 L k1 a1 a2 k2 b1 b2 k d p er eg cw one two sure j) (ho : sidesReg[8]? = some o) : sidesOk Wd A n c A' n' c' ss ds A1 A2 B1 B2 L k1 a1 a2 k2 b1 b2 k d p er eg cw one two sure Q a W 8 o := by
  have hop := op_at ho (·.op) (x := .move (.tmp 62)) (by kernel_rfl)
  have hgd := op_at ho (·.guard) (x := none) (by kernel_rfl)
  have e7 : a.eval (.tmp 62) = .bool true := haft 7 (op_at ho (fun o => o.after.any fun e => decide (e.on = 7) && Region.binds .any e) (x := true) (by kernel_rfl))
  refine ⟨fun j b h => (by rw [hgd] at h; cases h), ?_⟩
  exact specs_value (R := fun v _ => v = sidesV Wd A n c A' n' c' ss ds A1 A2 B1 B2 L k1 a1 a2 k2 b1 b2 k d p er eg cw one two sure 8) (v := .bool true) (by simp [execOp, hop, go_sem, ev e7]) rfl (Ext.refl W)
theorem sides_op9 (o15 : a.eval (.tmp 15) = .slice B1 k2 b1) (haft : ∀ j, (o.after.any fun e => decide (e.on = j) && Region.binds .any e) = true → a.eval (.tmp (sidesD j)) = sidesV Wd A n c A' n' c' ss ds A1 A2 B1 B2 L k1 a1 a2 k2 b1 b2 k d p er eg cw one two sure j) (ho : sidesReg[9]? = some o) : sidesOk Wd A n c A' n' c' ss ds A1 A2 B1 B2 L k1 a1 a2 k2 b1 b2 k d p er eg cw one two sure Q a W 9 o := by
  have hop := op_at ho (·.op) (x := .move (.tmp 15)) (by kernel_rfl)
  have hgd := op_at ho (·.guard) (x := some (8, true)) (by kernel_rfl)
  have e8 : a.eval (.tmp 63) = .bool true := haft 8 (op_at ho (fun o => o.after.any fun e => decide (e.on = 8) && Region.binds .any e) (x := true) (by kernel_rfl))
  refine ⟨fun j b h => (by rw [hgd] at h; cases h; exact e8), ?_⟩
  exact specs_value (R := fun v _ => v = sidesV Wd A n c A' n' c' ss ds A1 A2 B1 B2 L k1 a1 a2 k2 b1 b2 k d p er eg cw one two sure 9) (v := .slice B1 k2 b1) (by simp [execOp, hop, go_sem, ev o15]) rfl (Ext.refl W)
theorem sides_op10 (o17 : a.eval (.tmp 17) = .slice B2 k2 b2) (haft : ∀ j, (o.after.any fun e => decide (e.on = j) && Region.binds .any e) = true → a.eval (.tmp (sidesD j)) = sidesV Wd A n c A' n' c' ss ds A1 A2 B1 B2 L k1 a1 a2 k2 b1 b2 k d p er eg cw one two sure j) (ho : sidesReg[10]? = some o) : sidesOk Wd A n c A' n' c' ss ds A1 A2 B1 B2 L k1 a1 a2 k2 b1 b2 k d p er eg cw one two sure Q a W 10 o := by
  have hop := op_at ho (·.op) (x := .move (.tmp 17)) (by kernel_rfl)
  have hgd := op_at ho (·.guard) (x := some (8, true)) (by kernel_rfl)
  have e8 : a.eval (.tmp 63) = .bool true := haft 8 (op_at ho (fun o => o.after.any fun e => decide (e.on = 8) && Region.binds .any e) (x := true) (by kernel_rfl))
  refine ⟨fun j b h => (by rw [hgd] at h; cases h; exact e8), ?_⟩
  exact specs_value (R := fun v _ => v = sidesV Wd A n c A' n' c' ss ds A1 A2 B1 B2 L k1 a1 a2 k2 b1 b2 k d p er eg cw one two sure 10) (v := .slice B2 k2 b2) (by simp [execOp, hop, go_sem, ev o17]) rfl (Ext.refl W)
theorem sides_op11 (cL : ∀ W, Ext V W → Calls Try.prog 38 #[.slice B1 k2 b1, .slice B2 k2 b2] W fun e w' => e = .returned (.bool true) ∧ Below W.heap.size W w') (hB : Ext V W) (haft : ∀ j, (o.after.any fun e => decide (e.on = j) && Region.binds .any e) = true → a.eval (.tmp (sidesD j)) = sidesV Wd A n c A' n' c' ss ds A1 A2 B1 B2 L k1 a1 a2 k2 b1 b2 k d p er eg cw one two sure j) (ho : sidesReg[11]? = some o) : sidesOk Wd A n c A' n' c' ss ds A1 A2 B1 B2 L k1 a1 a2 k2 b1 b2 k d p er eg cw one two sure Q a W 11 o := by
  have hop := op_at ho (·.op) (x := .call { callee := .value (.func 38), args := #[.tmp 64, .tmp 65], argTypes := #[48, 48] }) (by kernel_rfl)
  have hgd := op_at ho (·.guard) (x := some (8, true)) (by kernel_rfl)
  have e8 : a.eval (.tmp 63) = .bool true := haft 8 (op_at ho (fun o => o.after.any fun e => decide (e.on = 8) && Region.binds .any e) (x := true) (by kernel_rfl))
  have e9 : a.eval (.tmp 64) = .slice B1 k2 b1 := haft 9 (op_at ho (fun o => o.after.any fun e => decide (e.on = 9) && Region.binds .any e) (x := true) (by kernel_rfl))
  have e10 : a.eval (.tmp 65) = .slice B2 k2 b2 := haft 10 (op_at ho (fun o => o.after.any fun e => decide (e.on = 10) && Region.binds .any e) (x := true) (by kernel_rfl))
  refine ⟨fun j b h => (by rw [hgd] at h; cases h; exact e8), ?_⟩
  exact specs_call (R := fun v _ => v = sidesV Wd A n c A' n' c' ss ds A1 A2 B1 B2 L k1 a1 a2 k2 b1 b2 k d p er eg cw one two sure 11) (f := 38) (args := #[.slice B1 k2 b1, .slice B2 k2 b2]) (by simp [execOp, hop, go_sem, ev e9, ev e10]) ((cL W hB).mono fun e w' h => ⟨_, h.1, rfl, h.2⟩)
theorem sides_op12 (haft : ∀ j, (o.after.any fun e => decide (e.on = j) && Region.binds .any e) = true → a.eval (.tmp (sidesD j)) = sidesV Wd A n c A' n' c' ss ds A1 A2 B1 B2 L k1 a1 a2 k2 b1 b2 k d p er eg cw one two sure j) (ho : sidesReg[12]? = some o) : sidesOk Wd A n c A' n' c' ss ds A1 A2 B1 B2 L k1 a1 a2 k2 b1 b2 k d p er eg cw one two sure Q a W 12 o := by
  have hop := op_at ho (·.op) (x := .pick (.tmp 63) (.tmp 66) (.const (.bool false))) (by kernel_rfl)
  have hgd := op_at ho (·.guard) (x := none) (by kernel_rfl)
  have e8 : a.eval (.tmp 63) = .bool true := haft 8 (op_at ho (fun o => o.after.any fun e => decide (e.on = 8) && Region.binds .any e) (x := true) (by kernel_rfl))
  have e11 : a.eval (.tmp 66) = .bool true := haft 11 (op_at ho (fun o => o.after.any fun e => decide (e.on = 11) && Region.binds .any e) (x := true) (by kernel_rfl))
  refine ⟨fun j b h => (by rw [hgd] at h; cases h), ?_⟩
  exact specs_value (R := fun v _ => v = sidesV Wd A n c A' n' c' ss ds A1 A2 B1 B2 L k1 a1 a2 k2 b1 b2 k d p er eg cw one two sure 12) (v := .bool true) (by simp [execOp, hop, go_sem, ev e8, ev e11]) rfl (Ext.refl W)
theorem sides_op13 (haft : ∀ j, (o.after.any fun e => decide (e.on = j) && Region.binds .any e) = true → a.eval (.tmp (sidesD j)) = sidesV Wd A n c A' n' c' ss ds A1 A2 B1 B2 L k1 a1 a2 k2 b1 b2 k d p er eg cw one two sure j) (ho : sidesReg[13]? = some o) : sidesOk Wd A n c A' n' c' ss ds A1 A2 B1 B2 L k1 a1 a2 k2 b1 b2 k d p er eg cw one two sure Q a W 13 o := by
  have hop := op_at ho (·.op) (x := .move (.tmp 67)) (by kernel_rfl)
  have hgd := op_at ho (·.guard) (x := none) (by kernel_rfl)
  have e12 : a.eval (.tmp 67) = .bool true := haft 12 (op_at ho (fun o => o.after.any fun e => decide (e.on = 12) && Region.binds .any e) (x := true) (by kernel_rfl))
  refine ⟨fun j b h => (by rw [hgd] at h; cases h), ?_⟩
  exact specs_value (R := fun v _ => v = sidesV Wd A n c A' n' c' ss ds A1 A2 B1 B2 L k1 a1 a2 k2 b1 b2 k d p er eg cw one two sure 13) (v := .bool true) (by simp [execOp, hop, go_sem, ev e12]) rfl (Ext.refl W)
theorem sides_op14 (o16 : a.eval (.tmp 16) = .int .i64 eg) (haft : ∀ j, (o.after.any fun e => decide (e.on = j) && Region.binds .any e) = true → a.eval (.tmp (sidesD j)) = sidesV Wd A n c A' n' c' ss ds A1 A2 B1 B2 L k1 a1 a2 k2 b1 b2 k d p er eg cw one two sure j) (ho : sidesReg[14]? = some o) : sidesOk Wd A n c A' n' c' ss ds A1 A2 B1 B2 L k1 a1 a2 k2 b1 b2 k d p er eg cw one two sure Q a W 14 o := by
  have hop := op_at ho (·.op) (x := .move (.tmp 16)) (by kernel_rfl)
  have hgd := op_at ho (·.guard) (x := some (13, true)) (by kernel_rfl)
  have e13 : a.eval (.tmp 68) = .bool true := haft 13 (op_at ho (fun o => o.after.any fun e => decide (e.on = 13) && Region.binds .any e) (x := true) (by kernel_rfl))
  refine ⟨fun j b h => (by rw [hgd] at h; cases h; exact e13), ?_⟩
  exact specs_value (R := fun v _ => v = sidesV Wd A n c A' n' c' ss ds A1 A2 B1 B2 L k1 a1 a2 k2 b1 b2 k d p er eg cw one two sure 14) (v := .int .i64 eg) (by simp [execOp, hop, go_sem, ev o16]) rfl (Ext.refl W)
theorem sides_op15 (o18 : a.eval (.tmp 18) = .int .i64 eg) (haft : ∀ j, (o.after.any fun e => decide (e.on = j) && Region.binds .any e) = true → a.eval (.tmp (sidesD j)) = sidesV Wd A n c A' n' c' ss ds A1 A2 B1 B2 L k1 a1 a2 k2 b1 b2 k d p er eg cw one two sure j) (ho : sidesReg[15]? = some o) : sidesOk Wd A n c A' n' c' ss ds A1 A2 B1 B2 L k1 a1 a2 k2 b1 b2 k d p er eg cw one two sure Q a W 15 o := by
  have hop := op_at ho (·.op) (x := .move (.tmp 18)) (by kernel_rfl)
  have hgd := op_at ho (·.guard) (x := some (13, true)) (by kernel_rfl)
  have e13 : a.eval (.tmp 68) = .bool true := haft 13 (op_at ho (fun o => o.after.any fun e => decide (e.on = 13) && Region.binds .any e) (x := true) (by kernel_rfl))
  refine ⟨fun j b h => (by rw [hgd] at h; cases h; exact e13), ?_⟩
  exact specs_value (R := fun v _ => v = sidesV Wd A n c A' n' c' ss ds A1 A2 B1 B2 L k1 a1 a2 k2 b1 b2 k d p er eg cw one two sure 15) (v := .int .i64 eg) (by simp [execOp, hop, go_sem, ev o18]) rfl (Ext.refl W)
theorem sides_op16 (haft : ∀ j, (o.after.any fun e => decide (e.on = j) && Region.binds .any e) = true → a.eval (.tmp (sidesD j)) = sidesV Wd A n c A' n' c' ss ds A1 A2 B1 B2 L k1 a1 a2 k2 b1 b2 k d p er eg cw one two sure j) (ho : sidesReg[16]? = some o) : sidesOk Wd A n c A' n' c' ss ds A1 A2 B1 B2 L k1 a1 a2 k2 b1 b2 k d p er eg cw one two sure Q a W 16 o := by
  have hop := op_at ho (·.op) (x := .binOp .eql 30 (.tmp 69) (.tmp 70) 30) (by kernel_rfl)
  have hgd := op_at ho (·.guard) (x := some (13, true)) (by kernel_rfl)
  have e13 : a.eval (.tmp 68) = .bool true := haft 13 (op_at ho (fun o => o.after.any fun e => decide (e.on = 13) && Region.binds .any e) (x := true) (by kernel_rfl))
  have e14 : a.eval (.tmp 69) = .int .i64 eg := haft 14 (op_at ho (fun o => o.after.any fun e => decide (e.on = 14) && Region.binds .any e) (x := true) (by kernel_rfl))
  have e15 : a.eval (.tmp 70) = .int .i64 eg := haft 15 (op_at ho (fun o => o.after.any fun e => decide (e.on = 15) && Region.binds .any e) (x := true) (by kernel_rfl))
  refine ⟨fun j b h => (by rw [hgd] at h; cases h; exact e13), ?_⟩
  exact specs_value (R := fun v _ => v = sidesV Wd A n c A' n' c' ss ds A1 A2 B1 B2 L k1 a1 a2 k2 b1 b2 k d p er eg cw one two sure 16) (v := .bool true) (by simp [execOp, hop, go_sem, ev e14, ev e15]) rfl (Ext.refl W)
theorem sides_op17 (haft : ∀ j, (o.after.any fun e => decide (e.on = j) && Region.binds .any e) = true → a.eval (.tmp (sidesD j)) = sidesV Wd A n c A' n' c' ss ds A1 A2 B1 B2 L k1 a1 a2 k2 b1 b2 k d p er eg cw one two sure j) (ho : sidesReg[17]? = some o) : sidesOk Wd A n c A' n' c' ss ds A1 A2 B1 B2 L k1 a1 a2 k2 b1 b2 k d p er eg cw one two sure Q a W 17 o := by
  have hop := op_at ho (·.op) (x := .pick (.tmp 68) (.tmp 71) (.const (.bool false))) (by kernel_rfl)
  have hgd := op_at ho (·.guard) (x := none) (by kernel_rfl)
  have e13 : a.eval (.tmp 68) = .bool true := haft 13 (op_at ho (fun o => o.after.any fun e => decide (e.on = 13) && Region.binds .any e) (x := true) (by kernel_rfl))
  have e16 : a.eval (.tmp 71) = .bool true := haft 16 (op_at ho (fun o => o.after.any fun e => decide (e.on = 16) && Region.binds .any e) (x := true) (by kernel_rfl))
  refine ⟨fun j b h => (by rw [hgd] at h; cases h), ?_⟩
  exact specs_value (R := fun v _ => v = sidesV Wd A n c A' n' c' ss ds A1 A2 B1 B2 L k1 a1 a2 k2 b1 b2 k d p er eg cw one two sure 17) (v := .bool true) (by simp [execOp, hop, go_sem, ev e13, ev e16]) rfl (Ext.refl W)
theorem sides_op18 (haft : ∀ j, (o.after.any fun e => decide (e.on = j) && Region.binds .any e) = true → a.eval (.tmp (sidesD j)) = sidesV Wd A n c A' n' c' ss ds A1 A2 B1 B2 L k1 a1 a2 k2 b1 b2 k d p er eg cw one two sure j) (ho : sidesReg[18]? = some o) : sidesOk Wd A n c A' n' c' ss ds A1 A2 B1 B2 L k1 a1 a2 k2 b1 b2 k d p er eg cw one two sure Q a W 18 o := by
  have hop := op_at ho (·.op) (x := .move (.tmp 72)) (by kernel_rfl)
  have hgd := op_at ho (·.guard) (x := none) (by kernel_rfl)
  have e17 : a.eval (.tmp 72) = .bool true := haft 17 (op_at ho (fun o => o.after.any fun e => decide (e.on = 17) && Region.binds .any e) (x := true) (by kernel_rfl))
  refine ⟨fun j b h => (by rw [hgd] at h; cases h), ?_⟩
  exact specs_value (R := fun v _ => v = sidesV Wd A n c A' n' c' ss ds A1 A2 B1 B2 L k1 a1 a2 k2 b1 b2 k d p er eg cw one two sure 18) (v := .bool true) (by simp [execOp, hop, go_sem, ev e17]) rfl (Ext.refl W)
theorem sides_op19 (o5 : a.eval (.tmp 5) = .pointer (some ⟨p, 0, none⟩)) (hx : BathAt V p Wd A n c A' n' c' ss ds) (hB : Ext V W) (haft : ∀ j, (o.after.any fun e => decide (e.on = j) && Region.binds .any e) = true → a.eval (.tmp (sidesD j)) = sidesV Wd A n c A' n' c' ss ds A1 A2 B1 B2 L k1 a1 a2 k2 b1 b2 k d p er eg cw one two sure j) (ho : sidesReg[19]? = some o) : sidesOk Wd A n c A' n' c' ss ds A1 A2 B1 B2 L k1 a1 a2 k2 b1 b2 k d p er eg cw one two sure Q a W 19 o := by
  have hop := op_at ho (·.op) (x := .load 25 (.tmp 5)) (by kernel_rfl)
  have hgd := op_at ho (·.guard) (x := some (18, true)) (by kernel_rfl)
  have e18 : a.eval (.tmp 73) = .bool true := haft 18 (op_at ho (fun o => o.after.any fun e => decide (e.on = 18) && Region.binds .any e) (x := true) (by kernel_rfl))
  refine ⟨fun j b h => (by rw [hgd] at h; cases h; exact e18), ?_⟩
  obtain ⟨q0, q1, q2⟩ := (hx.ext hB).cells
  exact specs_value (R := fun v _ => v = sidesV Wd A n c A' n' c' ss ds A1 A2 B1 B2 L k1 a1 a2 k2 b1 b2 k d p er eg cw one two sure 19) (v := (.agg #[.int .i64 Wd, .slice A n c, .slice A' n' c'])) (by simp [execOp, hop, go_sem, ev o5, q0, q1, q2]) rfl (Ext.refl W)
theorem sides_op20 (o1 : a.eval (.tmp 1) = .int .i64 one) (haft : ∀ j, (o.after.any fun e => decide (e.on = j) && Region.binds .any e) = true → a.eval (.tmp (sidesD j)) = sidesV Wd A n c A' n' c' ss ds A1 A2 B1 B2 L k1 a1 a2 k2 b1 b2 k d p er eg cw one two sure j) (ho : sidesReg[20]? = some o) : sidesOk Wd A n c A' n' c' ss ds A1 A2 B1 B2 L k1 a1 a2 k2 b1 b2 k d p er eg cw one two sure Q a W 20 o := by
  have hop := op_at ho (·.op) (x := .move (.tmp 1)) (by kernel_rfl)
  have hgd := op_at ho (·.guard) (x := some (18, true)) (by kernel_rfl)
  have e18 : a.eval (.tmp 73) = .bool true := haft 18 (op_at ho (fun o => o.after.any fun e => decide (e.on = 18) && Region.binds .any e) (x := true) (by kernel_rfl))
  refine ⟨fun j b h => (by rw [hgd] at h; cases h; exact e18), ?_⟩
  exact specs_value (R := fun v _ => v = sidesV Wd A n c A' n' c' ss ds A1 A2 B1 B2 L k1 a1 a2 k2 b1 b2 k d p er eg cw one two sure 20) (v := .int .i64 one) (by simp [execOp, hop, go_sem, ev o1]) rfl (Ext.refl W)
theorem sides_op21 (o2 : a.eval (.tmp 2) = .int .i64 two) (haft : ∀ j, (o.after.any fun e => decide (e.on = j) && Region.binds .any e) = true → a.eval (.tmp (sidesD j)) = sidesV Wd A n c A' n' c' ss ds A1 A2 B1 B2 L k1 a1 a2 k2 b1 b2 k d p er eg cw one two sure j) (ho : sidesReg[21]? = some o) : sidesOk Wd A n c A' n' c' ss ds A1 A2 B1 B2 L k1 a1 a2 k2 b1 b2 k d p er eg cw one two sure Q a W 21 o := by
  have hop := op_at ho (·.op) (x := .move (.tmp 2)) (by kernel_rfl)
  have hgd := op_at ho (·.guard) (x := some (18, true)) (by kernel_rfl)
  have e18 : a.eval (.tmp 73) = .bool true := haft 18 (op_at ho (fun o => o.after.any fun e => decide (e.on = 18) && Region.binds .any e) (x := true) (by kernel_rfl))
  refine ⟨fun j b h => (by rw [hgd] at h; cases h; exact e18), ?_⟩
  exact specs_value (R := fun v _ => v = sidesV Wd A n c A' n' c' ss ds A1 A2 B1 B2 L k1 a1 a2 k2 b1 b2 k d p er eg cw one two sure 21) (v := .int .i64 two) (by simp [execOp, hop, go_sem, ev o2]) rfl (Ext.refl W)
theorem sides_op22 (o3 : a.eval (.tmp 3) = .slice L k d) (haft : ∀ j, (o.after.any fun e => decide (e.on = j) && Region.binds .any e) = true → a.eval (.tmp (sidesD j)) = sidesV Wd A n c A' n' c' ss ds A1 A2 B1 B2 L k1 a1 a2 k2 b1 b2 k d p er eg cw one two sure j) (ho : sidesReg[22]? = some o) : sidesOk Wd A n c A' n' c' ss ds A1 A2 B1 B2 L k1 a1 a2 k2 b1 b2 k d p er eg cw one two sure Q a W 22 o := by
  have hop := op_at ho (·.op) (x := .move (.tmp 3)) (by kernel_rfl)
  have hgd := op_at ho (·.guard) (x := some (18, true)) (by kernel_rfl)
  have e18 : a.eval (.tmp 73) = .bool true := haft 18 (op_at ho (fun o => o.after.any fun e => decide (e.on = 18) && Region.binds .any e) (x := true) (by kernel_rfl))
  refine ⟨fun j b h => (by rw [hgd] at h; cases h; exact e18), ?_⟩
  exact specs_value (R := fun v _ => v = sidesV Wd A n c A' n' c' ss ds A1 A2 B1 B2 L k1 a1 a2 k2 b1 b2 k d p er eg cw one two sure 22) (v := .slice L k d) (by simp [execOp, hop, go_sem, ev o3]) rfl (Ext.refl W)
theorem sides_op23 (o4 : a.eval (.tmp 4) = .bool sure) (haft : ∀ j, (o.after.any fun e => decide (e.on = j) && Region.binds .any e) = true → a.eval (.tmp (sidesD j)) = sidesV Wd A n c A' n' c' ss ds A1 A2 B1 B2 L k1 a1 a2 k2 b1 b2 k d p er eg cw one two sure j) (ho : sidesReg[23]? = some o) : sidesOk Wd A n c A' n' c' ss ds A1 A2 B1 B2 L k1 a1 a2 k2 b1 b2 k d p er eg cw one two sure Q a W 23 o := by
  have hop := op_at ho (·.op) (x := .move (.tmp 4)) (by kernel_rfl)
  have hgd := op_at ho (·.guard) (x := some (18, true)) (by kernel_rfl)
  have e18 : a.eval (.tmp 73) = .bool true := haft 18 (op_at ho (fun o => o.after.any fun e => decide (e.on = 18) && Region.binds .any e) (x := true) (by kernel_rfl))
  refine ⟨fun j b h => (by rw [hgd] at h; cases h; exact e18), ?_⟩
  exact specs_value (R := fun v _ => v = sidesV Wd A n c A' n' c' ss ds A1 A2 B1 B2 L k1 a1 a2 k2 b1 b2 k d p er eg cw one two sure 23) (v := .bool sure) (by simp [execOp, hop, go_sem, ev o4]) rfl (Ext.refl W)
theorem sides_op24 (cP : ∀ W, Ext V W → Calls Try.prog 39 #[(.agg #[.int .i64 Wd, .slice A n c, .slice A' n' c']), .int .i64 one, .int .i64 two, .slice L k d, .bool sure] W fun e w' => e = .returned (.int .i64 cw) ∧ Below W.heap.size W w') (hB : Ext V W) (haft : ∀ j, (o.after.any fun e => decide (e.on = j) && Region.binds .any e) = true → a.eval (.tmp (sidesD j)) = sidesV Wd A n c A' n' c' ss ds A1 A2 B1 B2 L k1 a1 a2 k2 b1 b2 k d p er eg cw one two sure j) (ho : sidesReg[24]? = some o) : sidesOk Wd A n c A' n' c' ss ds A1 A2 B1 B2 L k1 a1 a2 k2 b1 b2 k d p er eg cw one two sure Q a W 24 o := by
  have hop := op_at ho (·.op) (x := .call { callee := .value (.func 39), args := #[.tmp 74, .tmp 75, .tmp 76, .tmp 77, .tmp 78], argTypes := #[25, 3, 3, 42, 4] }) (by kernel_rfl)
  have hgd := op_at ho (·.guard) (x := some (18, true)) (by kernel_rfl)
  have e18 : a.eval (.tmp 73) = .bool true := haft 18 (op_at ho (fun o => o.after.any fun e => decide (e.on = 18) && Region.binds .any e) (x := true) (by kernel_rfl))
  have e19 : a.eval (.tmp 74) = (.agg #[.int .i64 Wd, .slice A n c, .slice A' n' c']) := haft 19 (op_at ho (fun o => o.after.any fun e => decide (e.on = 19) && Region.binds .any e) (x := true) (by kernel_rfl))
  have e20 : a.eval (.tmp 75) = .int .i64 one := haft 20 (op_at ho (fun o => o.after.any fun e => decide (e.on = 20) && Region.binds .any e) (x := true) (by kernel_rfl))
  have e21 : a.eval (.tmp 76) = .int .i64 two := haft 21 (op_at ho (fun o => o.after.any fun e => decide (e.on = 21) && Region.binds .any e) (x := true) (by kernel_rfl))
  have e22 : a.eval (.tmp 77) = .slice L k d := haft 22 (op_at ho (fun o => o.after.any fun e => decide (e.on = 22) && Region.binds .any e) (x := true) (by kernel_rfl))
  have e23 : a.eval (.tmp 78) = .bool sure := haft 23 (op_at ho (fun o => o.after.any fun e => decide (e.on = 23) && Region.binds .any e) (x := true) (by kernel_rfl))
  refine ⟨fun j b h => (by rw [hgd] at h; cases h; exact e18), ?_⟩
  exact specs_call (R := fun v _ => v = sidesV Wd A n c A' n' c' ss ds A1 A2 B1 B2 L k1 a1 a2 k2 b1 b2 k d p er eg cw one two sure 24) (f := 39) (args := #[(.agg #[.int .i64 Wd, .slice A n c, .slice A' n' c']), .int .i64 one, .int .i64 two, .slice L k d, .bool sure]) (by simp [execOp, hop, go_sem, ev e19, ev e20, ev e21, ev e22, ev e23]) ((cP W hB).mono fun e w' h => ⟨_, h.1, rfl, h.2⟩)
theorem sides_op25 (o5 : a.eval (.tmp 5) = .pointer (some ⟨p, 0, none⟩)) (hx : BathAt V p Wd A n c A' n' c' ss ds) (hB : Ext V W) (haft : ∀ j, (o.after.any fun e => decide (e.on = j) && Region.binds .any e) = true → a.eval (.tmp (sidesD j)) = sidesV Wd A n c A' n' c' ss ds A1 A2 B1 B2 L k1 a1 a2 k2 b1 b2 k d p er eg cw one two sure j) (ho : sidesReg[25]? = some o) : sidesOk Wd A n c A' n' c' ss ds A1 A2 B1 B2 L k1 a1 a2 k2 b1 b2 k d p er eg cw one two sure Q a W 25 o := by
  have hop := op_at ho (·.op) (x := .load 25 (.tmp 5)) (by kernel_rfl)
  have hgd := op_at ho (·.guard) (x := some (18, true)) (by kernel_rfl)
  have e18 : a.eval (.tmp 73) = .bool true := haft 18 (op_at ho (fun o => o.after.any fun e => decide (e.on = 18) && Region.binds .any e) (x := true) (by kernel_rfl))
  refine ⟨fun j b h => (by rw [hgd] at h; cases h; exact e18), ?_⟩
  obtain ⟨q0, q1, q2⟩ := (hx.ext hB).cells
  exact specs_value (R := fun v _ => v = sidesV Wd A n c A' n' c' ss ds A1 A2 B1 B2 L k1 a1 a2 k2 b1 b2 k d p er eg cw one two sure 25) (v := (.agg #[.int .i64 Wd, .slice A n c, .slice A' n' c'])) (by simp [execOp, hop, go_sem, ev o5, q0, q1, q2]) rfl (Ext.refl W)
theorem sides_op26 (o1 : a.eval (.tmp 1) = .int .i64 one) (haft : ∀ j, (o.after.any fun e => decide (e.on = j) && Region.binds .any e) = true → a.eval (.tmp (sidesD j)) = sidesV Wd A n c A' n' c' ss ds A1 A2 B1 B2 L k1 a1 a2 k2 b1 b2 k d p er eg cw one two sure j) (ho : sidesReg[26]? = some o) : sidesOk Wd A n c A' n' c' ss ds A1 A2 B1 B2 L k1 a1 a2 k2 b1 b2 k d p er eg cw one two sure Q a W 26 o := by
  have hop := op_at ho (·.op) (x := .move (.tmp 1)) (by kernel_rfl)
  have hgd := op_at ho (·.guard) (x := some (18, true)) (by kernel_rfl)
  have e18 : a.eval (.tmp 73) = .bool true := haft 18 (op_at ho (fun o => o.after.any fun e => decide (e.on = 18) && Region.binds .any e) (x := true) (by kernel_rfl))
  refine ⟨fun j b h => (by rw [hgd] at h; cases h; exact e18), ?_⟩
  exact specs_value (R := fun v _ => v = sidesV Wd A n c A' n' c' ss ds A1 A2 B1 B2 L k1 a1 a2 k2 b1 b2 k d p er eg cw one two sure 26) (v := .int .i64 one) (by simp [execOp, hop, go_sem, ev o1]) rfl (Ext.refl W)
theorem sides_op27 (o2 : a.eval (.tmp 2) = .int .i64 two) (haft : ∀ j, (o.after.any fun e => decide (e.on = j) && Region.binds .any e) = true → a.eval (.tmp (sidesD j)) = sidesV Wd A n c A' n' c' ss ds A1 A2 B1 B2 L k1 a1 a2 k2 b1 b2 k d p er eg cw one two sure j) (ho : sidesReg[27]? = some o) : sidesOk Wd A n c A' n' c' ss ds A1 A2 B1 B2 L k1 a1 a2 k2 b1 b2 k d p er eg cw one two sure Q a W 27 o := by
  have hop := op_at ho (·.op) (x := .move (.tmp 2)) (by kernel_rfl)
  have hgd := op_at ho (·.guard) (x := some (18, true)) (by kernel_rfl)
  have e18 : a.eval (.tmp 73) = .bool true := haft 18 (op_at ho (fun o => o.after.any fun e => decide (e.on = 18) && Region.binds .any e) (x := true) (by kernel_rfl))
  refine ⟨fun j b h => (by rw [hgd] at h; cases h; exact e18), ?_⟩
  exact specs_value (R := fun v _ => v = sidesV Wd A n c A' n' c' ss ds A1 A2 B1 B2 L k1 a1 a2 k2 b1 b2 k d p er eg cw one two sure 27) (v := .int .i64 two) (by simp [execOp, hop, go_sem, ev o2]) rfl (Ext.refl W)
theorem sides_op28 (o3 : a.eval (.tmp 3) = .slice L k d) (haft : ∀ j, (o.after.any fun e => decide (e.on = j) && Region.binds .any e) = true → a.eval (.tmp (sidesD j)) = sidesV Wd A n c A' n' c' ss ds A1 A2 B1 B2 L k1 a1 a2 k2 b1 b2 k d p er eg cw one two sure j) (ho : sidesReg[28]? = some o) : sidesOk Wd A n c A' n' c' ss ds A1 A2 B1 B2 L k1 a1 a2 k2 b1 b2 k d p er eg cw one two sure Q a W 28 o := by
  have hop := op_at ho (·.op) (x := .move (.tmp 3)) (by kernel_rfl)
  have hgd := op_at ho (·.guard) (x := some (18, true)) (by kernel_rfl)
  have e18 : a.eval (.tmp 73) = .bool true := haft 18 (op_at ho (fun o => o.after.any fun e => decide (e.on = 18) && Region.binds .any e) (x := true) (by kernel_rfl))
  refine ⟨fun j b h => (by rw [hgd] at h; cases h; exact e18), ?_⟩
  exact specs_value (R := fun v _ => v = sidesV Wd A n c A' n' c' ss ds A1 A2 B1 B2 L k1 a1 a2 k2 b1 b2 k d p er eg cw one two sure 28) (v := .slice L k d) (by simp [execOp, hop, go_sem, ev o3]) rfl (Ext.refl W)
theorem sides_op29 (o4 : a.eval (.tmp 4) = .bool sure) (haft : ∀ j, (o.after.any fun e => decide (e.on = j) && Region.binds .any e) = true → a.eval (.tmp (sidesD j)) = sidesV Wd A n c A' n' c' ss ds A1 A2 B1 B2 L k1 a1 a2 k2 b1 b2 k d p er eg cw one two sure j) (ho : sidesReg[29]? = some o) : sidesOk Wd A n c A' n' c' ss ds A1 A2 B1 B2 L k1 a1 a2 k2 b1 b2 k d p er eg cw one two sure Q a W 29 o := by
  have hop := op_at ho (·.op) (x := .move (.tmp 4)) (by kernel_rfl)
  have hgd := op_at ho (·.guard) (x := some (18, true)) (by kernel_rfl)
  have e18 : a.eval (.tmp 73) = .bool true := haft 18 (op_at ho (fun o => o.after.any fun e => decide (e.on = 18) && Region.binds .any e) (x := true) (by kernel_rfl))
  refine ⟨fun j b h => (by rw [hgd] at h; cases h; exact e18), ?_⟩
  exact specs_value (R := fun v _ => v = sidesV Wd A n c A' n' c' ss ds A1 A2 B1 B2 L k1 a1 a2 k2 b1 b2 k d p er eg cw one two sure 29) (v := .bool sure) (by simp [execOp, hop, go_sem, ev o4]) rfl (Ext.refl W)
theorem sides_op30 (cR : ∀ W, Ext V W → Calls Try.prog 40 #[(.agg #[.int .i64 Wd, .slice A n c, .slice A' n' c']), .int .i64 one, .int .i64 two, .slice L k d, .bool sure] W fun e w' => e = .returned (.int .i64 cw) ∧ Below W.heap.size W w') (hB : Ext V W) (haft : ∀ j, (o.after.any fun e => decide (e.on = j) && Region.binds .any e) = true → a.eval (.tmp (sidesD j)) = sidesV Wd A n c A' n' c' ss ds A1 A2 B1 B2 L k1 a1 a2 k2 b1 b2 k d p er eg cw one two sure j) (ho : sidesReg[30]? = some o) : sidesOk Wd A n c A' n' c' ss ds A1 A2 B1 B2 L k1 a1 a2 k2 b1 b2 k d p er eg cw one two sure Q a W 30 o := by
  have hop := op_at ho (·.op) (x := .call { callee := .value (.func 40), args := #[.tmp 80, .tmp 81, .tmp 82, .tmp 83, .tmp 84], argTypes := #[25, 3, 3, 42, 4] }) (by kernel_rfl)
  have hgd := op_at ho (·.guard) (x := some (18, true)) (by kernel_rfl)
  have e18 : a.eval (.tmp 73) = .bool true := haft 18 (op_at ho (fun o => o.after.any fun e => decide (e.on = 18) && Region.binds .any e) (x := true) (by kernel_rfl))
  have e25 : a.eval (.tmp 80) = (.agg #[.int .i64 Wd, .slice A n c, .slice A' n' c']) := haft 25 (op_at ho (fun o => o.after.any fun e => decide (e.on = 25) && Region.binds .any e) (x := true) (by kernel_rfl))
  have e26 : a.eval (.tmp 81) = .int .i64 one := haft 26 (op_at ho (fun o => o.after.any fun e => decide (e.on = 26) && Region.binds .any e) (x := true) (by kernel_rfl))
  have e27 : a.eval (.tmp 82) = .int .i64 two := haft 27 (op_at ho (fun o => o.after.any fun e => decide (e.on = 27) && Region.binds .any e) (x := true) (by kernel_rfl))
  have e28 : a.eval (.tmp 83) = .slice L k d := haft 28 (op_at ho (fun o => o.after.any fun e => decide (e.on = 28) && Region.binds .any e) (x := true) (by kernel_rfl))
  have e29 : a.eval (.tmp 84) = .bool sure := haft 29 (op_at ho (fun o => o.after.any fun e => decide (e.on = 29) && Region.binds .any e) (x := true) (by kernel_rfl))
  refine ⟨fun j b h => (by rw [hgd] at h; cases h; exact e18), ?_⟩
  exact specs_call (R := fun v _ => v = sidesV Wd A n c A' n' c' ss ds A1 A2 B1 B2 L k1 a1 a2 k2 b1 b2 k d p er eg cw one two sure 30) (f := 40) (args := #[(.agg #[.int .i64 Wd, .slice A n c, .slice A' n' c']), .int .i64 one, .int .i64 two, .slice L k d, .bool sure]) (by simp [execOp, hop, go_sem, ev e25, ev e26, ev e27, ev e28, ev e29]) ((cR W hB).mono fun e w' h => ⟨_, h.1, rfl, h.2⟩)
theorem sides_op31 (haft : ∀ j, (o.after.any fun e => decide (e.on = j) && Region.binds .any e) = true → a.eval (.tmp (sidesD j)) = sidesV Wd A n c A' n' c' ss ds A1 A2 B1 B2 L k1 a1 a2 k2 b1 b2 k d p er eg cw one two sure j) (ho : sidesReg[31]? = some o) : sidesOk Wd A n c A' n' c' ss ds A1 A2 B1 B2 L k1 a1 a2 k2 b1 b2 k d p er eg cw one two sure Q a W 31 o := by
  have hop := op_at ho (·.op) (x := .binOp .eql 30 (.tmp 79) (.tmp 85) 30) (by kernel_rfl)
  have hgd := op_at ho (·.guard) (x := some (18, true)) (by kernel_rfl)
  have e18 : a.eval (.tmp 73) = .bool true := haft 18 (op_at ho (fun o => o.after.any fun e => decide (e.on = 18) && Region.binds .any e) (x := true) (by kernel_rfl))
  have e24 : a.eval (.tmp 79) = .int .i64 cw := haft 24 (op_at ho (fun o => o.after.any fun e => decide (e.on = 24) && Region.binds .any e) (x := true) (by kernel_rfl))
  have e30 : a.eval (.tmp 85) = .int .i64 cw := haft 30 (op_at ho (fun o => o.after.any fun e => decide (e.on = 30) && Region.binds .any e) (x := true) (by kernel_rfl))
  refine ⟨fun j b h => (by rw [hgd] at h; cases h; exact e18), ?_⟩
  exact specs_value (R := fun v _ => v = sidesV Wd A n c A' n' c' ss ds A1 A2 B1 B2 L k1 a1 a2 k2 b1 b2 k d p er eg cw one two sure 31) (v := .bool true) (by simp [execOp, hop, go_sem, ev e24, ev e30]) rfl (Ext.refl W)
theorem sides_op32 (haft : ∀ j, (o.after.any fun e => decide (e.on = j) && Region.binds .any e) = true → a.eval (.tmp (sidesD j)) = sidesV Wd A n c A' n' c' ss ds A1 A2 B1 B2 L k1 a1 a2 k2 b1 b2 k d p er eg cw one two sure j) (ho : sidesReg[32]? = some o) : sidesOk Wd A n c A' n' c' ss ds A1 A2 B1 B2 L k1 a1 a2 k2 b1 b2 k d p er eg cw one two sure Q a W 32 o := by
  have hop := op_at ho (·.op) (x := .pick (.tmp 73) (.tmp 86) (.const (.bool false))) (by kernel_rfl)
  have hgd := op_at ho (·.guard) (x := none) (by kernel_rfl)
  have e18 : a.eval (.tmp 73) = .bool true := haft 18 (op_at ho (fun o => o.after.any fun e => decide (e.on = 18) && Region.binds .any e) (x := true) (by kernel_rfl))
  have e31 : a.eval (.tmp 86) = .bool true := haft 31 (op_at ho (fun o => o.after.any fun e => decide (e.on = 31) && Region.binds .any e) (x := true) (by kernel_rfl))
  refine ⟨fun j b h => (by rw [hgd] at h; cases h), ?_⟩
  exact specs_value (R := fun v _ => v = sidesV Wd A n c A' n' c' ss ds A1 A2 B1 B2 L k1 a1 a2 k2 b1 b2 k d p er eg cw one two sure 32) (v := .bool true) (by simp [execOp, hop, go_sem, ev e18, ev e31]) rfl (Ext.refl W)
theorem sides_op33 (haft : ∀ j, (o.after.any fun e => decide (e.on = j) && Region.binds .any e) = true → a.eval (.tmp (sidesD j)) = sidesV Wd A n c A' n' c' ss ds A1 A2 B1 B2 L k1 a1 a2 k2 b1 b2 k d p er eg cw one two sure j) (ho : sidesReg[33]? = some o) : sidesOk Wd A n c A' n' c' ss ds A1 A2 B1 B2 L k1 a1 a2 k2 b1 b2 k d p er eg cw one two sure Q a W 33 o := by
  have hop := op_at ho (·.op) (x := .move (.tmp 87)) (by kernel_rfl)
  have hgd := op_at ho (·.guard) (x := none) (by kernel_rfl)
  have e32 : a.eval (.tmp 87) = .bool true := haft 32 (op_at ho (fun o => o.after.any fun e => decide (e.on = 32) && Region.binds .any e) (x := true) (by kernel_rfl))
  refine ⟨fun j b h => (by rw [hgd] at h; cases h), ?_⟩
  exact specs_value (R := fun v _ => v = sidesV Wd A n c A' n' c' ss ds A1 A2 B1 B2 L k1 a1 a2 k2 b1 b2 k d p er eg cw one two sure 33) (v := .bool true) (by simp [execOp, hop, go_sem, ev e32]) rfl (Ext.refl W)
theorem sides_op34 (cK : ∀ W, Ext V W → Calls Try.prog 16 #[] W fun e w' => e = .returned (.bool true) ∧ Below W.heap.size W w') (hB : Ext V W) (haft : ∀ j, (o.after.any fun e => decide (e.on = j) && Region.binds .any e) = true → a.eval (.tmp (sidesD j)) = sidesV Wd A n c A' n' c' ss ds A1 A2 B1 B2 L k1 a1 a2 k2 b1 b2 k d p er eg cw one two sure j) (ho : sidesReg[34]? = some o) : sidesOk Wd A n c A' n' c' ss ds A1 A2 B1 B2 L k1 a1 a2 k2 b1 b2 k d p er eg cw one two sure Q a W 34 o := by
  have hop := op_at ho (·.op) (x := .call { callee := .value (.func 16), args := #[], argTypes := #[] }) (by kernel_rfl)
  have hgd := op_at ho (·.guard) (x := some (33, true)) (by kernel_rfl)
  have e33 : a.eval (.tmp 88) = .bool true := haft 33 (op_at ho (fun o => o.after.any fun e => decide (e.on = 33) && Region.binds .any e) (x := true) (by kernel_rfl))
  refine ⟨fun j b h => (by rw [hgd] at h; cases h; exact e33), ?_⟩
  exact specs_call (R := fun v _ => v = sidesV Wd A n c A' n' c' ss ds A1 A2 B1 B2 L k1 a1 a2 k2 b1 b2 k d p er eg cw one two sure 34) (f := 16) (args := #[]) (by simp [execOp, hop, go_sem]) ((cK W hB).mono fun e w' h => ⟨_, h.1, rfl, h.2⟩)
theorem sides_op35 (haft : ∀ j, (o.after.any fun e => decide (e.on = j) && Region.binds .any e) = true → a.eval (.tmp (sidesD j)) = sidesV Wd A n c A' n' c' ss ds A1 A2 B1 B2 L k1 a1 a2 k2 b1 b2 k d p er eg cw one two sure j) (ho : sidesReg[35]? = some o) : sidesOk Wd A n c A' n' c' ss ds A1 A2 B1 B2 L k1 a1 a2 k2 b1 b2 k d p er eg cw one two sure Q a W 35 o := by
  have hop := op_at ho (·.op) (x := .pick (.tmp 88) (.tmp 89) (.const (.bool false))) (by kernel_rfl)
  have hgd := op_at ho (·.guard) (x := none) (by kernel_rfl)
  have e33 : a.eval (.tmp 88) = .bool true := haft 33 (op_at ho (fun o => o.after.any fun e => decide (e.on = 33) && Region.binds .any e) (x := true) (by kernel_rfl))
  have e34 : a.eval (.tmp 89) = .bool true := haft 34 (op_at ho (fun o => o.after.any fun e => decide (e.on = 34) && Region.binds .any e) (x := true) (by kernel_rfl))
  refine ⟨fun j b h => (by rw [hgd] at h; cases h), ?_⟩
  exact specs_value (R := fun v _ => v = sidesV Wd A n c A' n' c' ss ds A1 A2 B1 B2 L k1 a1 a2 k2 b1 b2 k d p er eg cw one two sure 35) (v := .bool true) (by simp [execOp, hop, go_sem, ev e33, ev e34]) rfl (Ext.refl W)
theorem sides_op36 (haft : ∀ j, (o.after.any fun e => decide (e.on = j) && Region.binds .any e) = true → a.eval (.tmp (sidesD j)) = sidesV Wd A n c A' n' c' ss ds A1 A2 B1 B2 L k1 a1 a2 k2 b1 b2 k d p er eg cw one two sure j) (ho : sidesReg[36]? = some o) : sidesOk Wd A n c A' n' c' ss ds A1 A2 B1 B2 L k1 a1 a2 k2 b1 b2 k d p er eg cw one two sure Q a W 36 o := by
  have hop := op_at ho (·.op) (x := .assign (.tmp 90)) (by kernel_rfl)
  have hgd := op_at ho (·.guard) (x := none) (by kernel_rfl)
  have e35 : a.eval (.tmp 90) = .bool true := haft 35 (op_at ho (fun o => o.after.any fun e => decide (e.on = 35) && Region.binds .any e) (x := true) (by kernel_rfl))
  refine ⟨fun j b h => (by rw [hgd] at h; cases h), ?_⟩
  exact specs_value (R := fun v _ => v = sidesV Wd A n c A' n' c' ss ds A1 A2 B1 B2 L k1 a1 a2 k2 b1 b2 k d p er eg cw one two sure 36) (v := .bool true) (by simp [execOp, hop, go_sem, ev e35]) rfl (Ext.refl W)
end
end Go.Proofs.Ytgdpgdnhhjclcaa

/- DropSides: the walk. -/
namespace Go.Proofs.Ytgdpgdnhhjclcaa
open Go.RowKit Go.Shelf

theorem groupsAns_len (Wd : Int) (ss : List (Int × Int)) (ds : List (Int × Int × Int)) (sure : Bool) : (groupsAns Wd ss ds sure).1.length ≤ 12 := by
  unfold groupsAns
  split
  · simp
  · rename_i h
    have h0 : bathErr Wd ss ds = 0 := by simpa using h
    have := (bath_ok h0).2.1.1
    exact Nat.le_trans (groupsTo_len _ _ _ _) (by omega)

section
variable {w : World} {Wd : Int} {A : Option Addr} {n c : Nat} {A' : Option Addr} {n' c' : Nat} {ss : List (Int × Int)} {ds : List (Int × Int × Int)}

set_option maxRecDepth 100000 in
set_option maxHeartbeats 4000000 in
theorem dropSides_any (one two : Int) (L : Option Addr) (k d : Nat) (xs : List Int) (sure : Bool) (hb : IsBath w w.heap.size A n c A' n' c' ss ds) (hk : k = xs.length) (hkn : k ≤ 9223372036854775807) (hh : Held w w.heap.size 1 encI L xs) :
    Calls Try.prog 7 #[.agg #[.int .i64 Wd, .slice A n c, .slice A' n' c'], .int .i64 one, .int .i64 two, .slice L k d, .bool sure] w fun e w' => e = .returned (.bool true) ∧ Ext w w' := by
  have hX0 : BathAt (w.alloc (.cells #[.int .i64 Wd, .slice A n c, .slice A' n' c'] 25)) w.heap.size Wd A n c A' n' c' ss ds := BathAt.new hb
  have hE0 : Ext w (w.alloc (.cells #[.int .i64 Wd, .slice A n c, .slice A' n' c'] 25)) := ext_alloc w _
  have cG := great_any Wd A A' n c n' c' (w.alloc (.cells #[.int .i64 Wd, .slice A n c, .slice A' n' c'] 25))
  cases hg : (decide (15 < n) || decide (50 < n')) with
  | true =>
    rw [hg] at cG
    clear hg hb hX0 hk hh
    go_enter Try.func7, Try.ntmps7
    go_wp2_with fail
    refine cG.mono ?_
    rintro e w1 ⟨rfl, hb1⟩
    have hE1 := Lib.hid (hE0.trans hb1)
    clear hE0 hb1 cG
    go_wp2_with fail
    refine (works_any _).mono ?_
    rintro e w2 ⟨rfl, hb2⟩
    go_wp2
    go_ret
    exact ⟨rfl, hE1.out.trans hb2⟩
  | false =>
    rw [hg] at cG
    by_cases hk20 : 20 < k
    · have hk20z : (20 : Int) < (k : Int) := by omega
      clear hg hb hX0 hk hh
      go_enter Try.func7, Try.ntmps7
      go_wp2_with fail
      refine cG.mono ?_
      rintro e w1 ⟨rfl, hb1⟩
      have hE1 := Lib.hid (hE0.trans hb1)
      clear hE0 hb1 cG
      go_wp2_with fail
      refine (works_any _).mono ?_
      rintro e w2 ⟨rfl, hb2⟩
      go_wp2
      go_ret
      exact ⟨rfl, hE1.out.trans hb2⟩
    · have hk20z : ¬ (20 : Int) < (k : Int) := by omega
      have hl12 : (sideAns Wd ss ds one two sure).1.length ≤ 12 := sideAns_len Wd ss ds one two sure (by
        by_cases he : forErr Wd ss ds one two = 0
        · exact .inl (bath_ok (forErr_ok he).1).2.1.1
        · exact .inr he)
      have hg12 := groupsAns_len Wd ss ds sure
      have c1 : ∀ W : World, IsBath W W.heap.size A n c A' n' c' ss ds → Calls Try.prog 34 #[.agg #[.int .i64 Wd, .slice A n c, .slice A' n' c'], .int .i64 one, .int .i64 two, .bool sure] W (ListVal (sideAns Wd ss ds one two sure) W) := fun W h => side_prog (Wd := Wd) one two sure h
      have c2 : ∀ W : World, IsBath W W.heap.size A n c A' n' c' ss ds → Calls Try.prog 35 #[.agg #[.int .i64 Wd, .slice A n c, .slice A' n' c'], .int .i64 one, .int .i64 two, .bool sure] W (ListVal (sideAns Wd ss ds one two sure) W) := fun W h => side_ref (Wd := Wd) one two sure h
      have c3 : ∀ W : World, IsBath W W.heap.size A n c A' n' c' ss ds → Calls Try.prog 36 #[.agg #[.int .i64 Wd, .slice A n c, .slice A' n' c'], .bool sure] W (RowsVal (groupsAns Wd ss ds sure) W) := fun W h => groups_prog (Wd := Wd) sure h
      have c4 : ∀ W : World, IsBath W W.heap.size A n c A' n' c' ss ds → Calls Try.prog 37 #[.agg #[.int .i64 Wd, .slice A n c, .slice A' n' c'], .bool sure] W (RowsVal (groupsAns Wd ss ds sure) W) := fun W h => groups_ref (Wd := Wd) sure h
      unfold ListVal at c1 c2
      unfold RowsVal at c3 c4
      obtain ⟨l, er, hr⟩ : ∃ l er, sideAns Wd ss ds one two sure = (l, er) := ⟨_, _, rfl⟩
      obtain ⟨gs, eg, hr'⟩ : ∃ gs eg, groupsAns Wd ss ds sure = (gs, eg) := ⟨_, _, rfl⟩
      rw [hr] at c1 c2 hl12
      rw [hr'] at c3 c4 hg12
      obtain ⟨kl, hkl⟩ : ∃ kl, l.length = kl := ⟨_, rfl⟩
      obtain ⟨kg, hkg⟩ : ∃ kg, gs.length = kg := ⟨_, rfl⟩
      simp only [hkl] at c1 c2 hl12
      simp only [hkg] at c3 c4 hg12
      have HKL := Lib.hid hkl
      have HKG := Lib.hid hkg
      have HH := Lib.hid hh
      have HK := Lib.hid hk
      clear hg hb hr hr' hkl hkg hh hk
      go_enter Try.func7, Try.ntmps7
      go_wp2_with fail
      refine cG.mono ?_
      rintro e w1 ⟨rfl, hb1⟩
      have x := hX0.ext hb1
      have eW := hE0.trans hb1
      clear hE0 hb1 cG hX0
      obtain ⟨q0, q1, q2⟩ := x.cells
      go_wp2_with fail
      refine (c1 _ x.bath).mono ?_
      rintro e w2 ⟨A1, a1, rfl, hh1, eV⟩
      replace x := x.ext eV
      replace eW := eW.trans eV
      clear eV q0 q1 q2 c1
      obtain ⟨q0, q1, q2⟩ := x.cells
      go_wp2_with fail
      refine (c2 _ x.bath).mono ?_
      rintro e w3 ⟨A2, a2, rfl, hh2, eV⟩
      replace x := x.ext eV
      replace eW := eW.trans eV
      replace hh1 := hh1.ext eV
      clear eV q0 q1 q2 c2
      obtain ⟨q0, q1, q2⟩ := x.cells
      go_wp2_with fail
      refine (c3 _ x.bath).mono ?_
      rintro e w4 ⟨B1, b1, rfl, hg1, eV⟩
      replace x := x.ext eV
      replace eW := eW.trans eV
      replace hh1 := hh1.ext eV
      replace hh2 := hh2.ext eV
      clear eV q0 q1 q2 c3
      obtain ⟨q0, q1, q2⟩ := x.cells
      go_wp2_with fail
      refine (c4 _ x.bath).mono ?_
      rintro e w5 ⟨B2, b2, rfl, hg2, eV⟩
      replace x := x.ext eV
      replace eW := eW.trans eV
      replace hh1 := hh1.ext eV
      replace hh2 := hh2.ext eV
      replace hg1 := hg1.ext eV
      clear eV q0 q1 q2 c4
      go_upto_region 7 with fail
      have HX := Lib.hid x
      have HW := Lib.hid eW
      have H1 := Lib.hid hh1
      have H2 := Lib.hid hh2
      have G1 := Lib.hid hg1
      have G2 := Lib.hid hg2
      have H3 := Lib.hid (HH.out.ext eW)
      clear x eW hh1 hh2 hg1 hg2
      generalize w.heap.size = p at HX ⊢
      obtain ⟨cw, hcw⟩ : ∃ cw, checkSideAns Wd ss ds one two xs sure = cw := ⟨_, rfl⟩
      have cI : ∀ W, Ext w5 W → Calls Try.prog 31 #[.slice A1 kl a1, .slice A2 kl a2] W fun e w' => e = .returned (.bool true) ∧ Below W.heap.size W w' := fun W h => by
        have := ints_any A1 A2 kl a1 kl a2 l l W HKL.out.symm HKL.out.symm (by omega) (by omega) (H1.out.ext h) (H2.out.ext h)
        rw [show decide (l = l) = true from by simp] at this
        exact this
      have cL : ∀ W, Ext w5 W → Calls Try.prog 38 #[.slice B1 kg b1, .slice B2 kg b2] W fun e w' => e = .returned (.bool true) ∧ Below W.heap.size W w' := fun W h => by
        have := lists_any B1 B2 kg b1 kg b2 gs gs W HKG.out.symm HKG.out.symm (by omega) (by omega) (G1.out.ext h) (G2.out.ext h)
        rw [show decide (gs = gs) = true from by simp] at this
        exact this
      have cP : ∀ W, Ext w5 W → Calls Try.prog 39 #[.agg #[.int .i64 Wd, .slice A n c, .slice A' n' c'], .int .i64 one, .int .i64 two, .slice L k d, .bool sure] W fun e w' => e = .returned (.int .i64 cw) ∧ Below W.heap.size W w' := fun W h => by
        have := checkSide_any (Wd := Wd) one two L k d xs sure (HX.out.ext h).bath HK.out hkn (H3.out.ext h)
        rw [hcw] at this
        exact this
      have cR : ∀ W, Ext w5 W → Calls Try.prog 40 #[.agg #[.int .i64 Wd, .slice A n c, .slice A' n' c'], .int .i64 one, .int .i64 two, .slice L k d, .bool sure] W fun e w' => e = .returned (.int .i64 cw) ∧ Below W.heap.size W w' := fun W h => by
        have := checkSide_ref (Wd := Wd) one two L k d xs sure (HX.out.ext h).bath HK.out hkn (H3.out.ext h)
        rw [hcw] at this
        exact this
      have cK : ∀ W, Ext w5 W → Calls Try.prog 16 #[] W fun e w' => e = .returned (.bool true) ∧ Below W.heap.size W w' := fun W _ => works_any W
      refine wp_region_specs (ops := sidesReg) (fun i v _ => v = sidesV Wd A n c A' n' c' ss ds A1 A2 B1 B2 L kl a1 a2 kg b1 b2 k d p er eg cw one two sure i) (Ext w5) (by kernel_rfl) (by kernel_rfl) ⟨rfl, rfl, rfl, Nat.le_refl _, fun _ _ => rfl⟩ (fun _ _ h e => h.trans e) (fun _ _ _ _ h _ => h) sidesD (by kernel_rfl) ?_ ?_
      · intro i o ho a W hB hsz hold haft
        have hi : i < 37 := (Array.getElem?_eq_some_iff.1 ho).1
        have hx := HX.out
        match i, hi with
        | 0, _ => exact sides_op0 (hold 11 (by kernel_rfl)) ho
        | 1, _ => exact sides_op1 (hold 13 (by kernel_rfl)) ho
        | 2, _ => exact sides_op2 cI hB haft ho
        | 3, _ => exact sides_op3 haft ho
        | 4, _ => exact sides_op4 (hold 12 (by kernel_rfl)) haft ho
        | 5, _ => exact sides_op5 (hold 14 (by kernel_rfl)) haft ho
        | 6, _ => exact sides_op6 haft ho
        | 7, _ => exact sides_op7 haft ho
        | 8, _ => exact sides_op8 haft ho
        | 9, _ => exact sides_op9 (hold 15 (by kernel_rfl)) haft ho
        | 10, _ => exact sides_op10 (hold 17 (by kernel_rfl)) haft ho
        | 11, _ => exact sides_op11 cL hB haft ho
        | 12, _ => exact sides_op12 haft ho
        | 13, _ => exact sides_op13 haft ho
        | 14, _ => exact sides_op14 (hold 16 (by kernel_rfl)) haft ho
        | 15, _ => exact sides_op15 (hold 18 (by kernel_rfl)) haft ho
        | 16, _ => exact sides_op16 haft ho
        | 17, _ => exact sides_op17 haft ho
        | 18, _ => exact sides_op18 haft ho
        | 19, _ => exact sides_op19 (hold 5 (by kernel_rfl)) hx hB haft ho
        | 20, _ => exact sides_op20 (hold 1 (by kernel_rfl)) haft ho
        | 21, _ => exact sides_op21 (hold 2 (by kernel_rfl)) haft ho
        | 22, _ => exact sides_op22 (hold 3 (by kernel_rfl)) haft ho
        | 23, _ => exact sides_op23 (hold 4 (by kernel_rfl)) haft ho
        | 24, _ => exact sides_op24 cP hB haft ho
        | 25, _ => exact sides_op25 (hold 5 (by kernel_rfl)) hx hB haft ho
        | 26, _ => exact sides_op26 (hold 1 (by kernel_rfl)) haft ho
        | 27, _ => exact sides_op27 (hold 2 (by kernel_rfl)) haft ho
        | 28, _ => exact sides_op28 (hold 3 (by kernel_rfl)) haft ho
        | 29, _ => exact sides_op29 (hold 4 (by kernel_rfl)) haft ho
        | 30, _ => exact sides_op30 cR hB haft ho
        | 31, _ => exact sides_op31 haft ho
        | 32, _ => exact sides_op32 haft ho
        | 33, _ => exact sides_op33 haft ho
        | 34, _ => exact sides_op34 cK hB haft ho
        | 35, _ => exact sides_op35 haft ho
        | 36, _ => exact sides_op36 haft ho
        | n + 37, h => exact absurd h (by omega)
      · intro a W hB hsz hdf hold hS
        have e10 : a.eval (.tmp 10) = .bool true := hS 36 (show 36 < sidesReg.size from Nat.lt_of_lt_of_eq (by omega) (show 37 = sidesReg.size by kernel_rfl))
        obtain ⟨tmps, dfs⟩ := a
        obtain rfl : dfs = [] := hdf
        simp only [Exit.then]
        go_at_K
        go_wp2
        exact bodyPost_ret (results_tmp rfl _ _ _) rfl ⟨congrArg Ending.returned e10, HW.out.trans hB⟩
end
end Go.Proofs.Ytgdpgdnhhjclcaa
