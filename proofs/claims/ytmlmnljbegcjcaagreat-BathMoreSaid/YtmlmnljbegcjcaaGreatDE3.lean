import Derived.Test.YtmlmnljbegcjcaaGreatD16
import Derived.Test.YtmlmnljbegcjcaaGreatD13
import Derived.ArgAppend
/- Facts of bath that the modules below do not keep. -/
namespace Go.Proofs.YtmlmnljbegcjcaaGreat
section
open Go.RowKit Go.Shelf
attribute [local irreducible] bitCells
theorem wpList_tail {P : Program} {ops : Array Oper} {Q : Exit → Act → World → Prop} {rest : List Oper} {o : Oper} {a : Act} {w : World} (hgd : o.guard = none)
    (h : if Region.wanted o (yielded ops a.tmps) = true then Oper.wp P o a w (fun a' w' => wpList P ops Q rest a' w') Q else True) : wpList P ops Q (o :: rest) a w := by
  have hw : Region.wanted o (yielded ops a.tmps) = true := by simp [Region.wanted, hgd]
  rw [if_pos hw] at h
  simp only [wpList]
  rw [if_pos hw]
  exact .inl h
theorem whole_filter {l : List Odr} (hW : Whole l) (p : Odr → Bool) : Whole (l.filter p) := fun o ho => hW o (List.mem_filter.1 ho).1
theorem stab_fuel {l : List Odr} (hW : Whole l) : ∀ f g, l.length ≤ f → l.length ≤ g → stab f l = stab g l := by
  intro f
  induction f generalizing l with
  | zero =>
    intro g hf _
    have : l = [] := List.eq_nil_of_length_eq_zero (by omega)
    subst this
    cases g <;> rfl
  | succ f ih =>
    intro g hf hg
    cases g with
    | zero =>
      have : l = [] := List.eq_nil_of_length_eq_zero (by omega)
      subst this
      rfl
    | succ g =>
      cases hm : minHi l with
      | none => simp only [stab, hm]
      | some x =>
        simp only [stab, hm]
        have := rest_lt hW hm
        rw [ih (whole_filter hW _) g (by omega) (by omega)]
theorem fewB_nil : fewB [] = [] := rfl
theorem fewB_step {l : List Odr} (hW : Whole l) {x : Int} (h : minHi l = some x) : fewB l = x :: fewB (l.filter fun o => !doneB x o) := by
  unfold fewB
  cases hl : l with
  | nil => subst hl; cases h
  | cons o t =>
    rw [← hl]
    have hlen : l.length = t.length + 1 := by rw [hl]; rfl
    rw [hlen]
    simp only [stab, h]
    have := rest_lt hW h
    rw [stab_fuel (whole_filter hW _) t.length _ (by omega) (Nat.le_refl _)]
/-- Induction along the fewest baths. -/
theorem fewB_ind {P : List Odr → Prop} (h0 : P []) (h1 : ∀ l x, Whole l → minHi l = some x → P (l.filter fun o => !doneB x o) → P l) : ∀ l, Whole l → P l := by
  intro l
  induction hn : l.length using Nat.strongRecOn generalizing l with
  | _ n ih =>
    intro hW
    cases hm : minHi l with
    | none => rw [minHi_none.1 hm]; exact h0
    | some x => exact h1 l x hW hm (ih _ (by rw [← hn]; exact rest_lt hW hm) _ rfl (whole_filter hW _))
theorem fewB_covers : ∀ l, Whole l → Covers (fewB l) l := by
  apply fewB_ind
  · intro o ho; cases ho
  · intro l x hW hm ih o ho
    rw [fewB_step hW hm]
    cases hd : doneB x o with
    | true => exact ⟨x, by simp, hd⟩
    | false =>
      obtain ⟨y, hy, hyd⟩ := ih o (List.mem_filter.2 ⟨ho, by simp [hd]⟩)
      exact ⟨y, List.mem_cons_of_mem _ hy, hyd⟩
theorem fewB_late : ∀ l, Whole l → ∀ (bs : List Int), bs.Pairwise (· < ·) → Covers bs l → ∀ (i : Nat) (y : Int), (fewB l)[i]? = some y → ∃ b : Int, bs[i]? = some b ∧ b ≤ y := by
  apply fewB_ind
  · intro bs _ _ i y h; simp [fewB_nil] at h
  · intro l x hW hm ih bs hs hc i y hy
    rw [fewB_step hW hm] at hy
    obtain ⟨⟨o, ho, hox⟩, hmin⟩ := minHi_some hm
    obtain ⟨z, hz, hzd⟩ := hc o ho
    cases bs with
    | nil => cases hz
    | cons b bs =>
      have hb : b ≤ x := by
        have := (doneB_iff.1 hzd).2
        rcases List.mem_cons.1 hz with rfl | hz
        · omega
        · have := List.rel_of_pairwise_cons hs hz; omega
      cases i with
      | zero => simp at hy; exact ⟨b, rfl, by omega⟩
      | succ i =>
        rw [List.getElem?_cons_succ] at hy ⊢
        refine ih bs hs.of_cons (fun u hu => ?_) i y hy
        obtain ⟨v, hv, hvd⟩ := hc u (List.mem_filter.1 hu).1
        rcases List.mem_cons.1 hv with rfl | hv
        · have := rest_lo hm hu
          have := (doneB_iff.1 hvd).1
          omega
        · exact ⟨v, hv, hvd⟩
theorem fewB_few {l : List Odr} (hW : Whole l) {bs : List Int} (hs : bs.Pairwise (· < ·)) (hc : Covers bs l) : (fewB l).length ≤ bs.length := by
  rcases Nat.lt_or_ge bs.length (fewB l).length with h | h
  · obtain ⟨b, hb, _⟩ := fewB_late l hW bs hs hc bs.length _ (List.getElem?_eq_getElem h)
    simp at hb
  · exact h
theorem fewB_sorted : ∀ l, Whole l → (fewB l).Pairwise (· < ·) ∧ ∀ x, x ∈ fewB l → ∃ o, o ∈ l ∧ bHi o = x := by
  apply fewB_ind
  · exact ⟨List.Pairwise.nil, fun x hx => by simp [fewB_nil] at hx⟩
  · intro l x hW hm ih
    rw [fewB_step hW hm]
    refine ⟨List.pairwise_cons.2 ⟨fun y hy => ?_, ih.1⟩, fun y hy => ?_⟩
    · obtain ⟨o, ho, e⟩ := ih.2 y hy
      have h1 := rest_lo hm ho
      have h2 := hW o (List.mem_filter.1 ho).1
      simp [hasB] at h2
      omega
    · rcases List.mem_cons.1 hy with rfl | hy
      · exact (minHi_some hm).1
      · obtain ⟨o, ho, e⟩ := ih.2 y hy
        exact ⟨o, (List.mem_filter.1 ho).1, e⟩
theorem undone_one (os : List Odr) (k : Nat) : undone os (fun i => decide (i = k)) = os.eraseIdx k := by
  have h : ∀ (l : List Odr) (j : Nat), ((List.range l.length).filter fun i => !decide (i = j)).map (oAt l) = l.eraseIdx j := by
    intro l
    induction l with
    | nil => intro j; rfl
    | cons o l ih =>
      intro j
      rw [List.length_cons, List.range_succ_eq_map]
      cases j with
      | zero =>
        have := undone_none l
        unfold undone at this
        simp only [List.filter_cons]
        simp [List.filter_map, Function.comp_def, List.eraseIdx]
        conv => rhs; rw [← this]
        simp
        intro a _; simp [oAt, List.getD]
      | succ j =>
        simp only [List.filter_cons, List.filter_map, Function.comp_def]
        simp [List.eraseIdx]
        refine ⟨by simp [oAt], ?_⟩
        rw [← ih j]
        simp [Function.comp_def, oAt, List.getD]
  exact h os k
theorem stab_len : ∀ (f : Nat) (l : List Odr), (stab f l).length ≤ f
  | 0, _ => by simp [stab]
  | f + 1, l => by
    unfold stab
    cases minHi l with
    | none => simp
    | some x => simp; exact stab_len f _
end
end Go.Proofs.YtmlmnljbegcjcaaGreat

/- The reference's Without: the list without one order, laid anew. -/
namespace Go.Proofs.YtmlmnljbegcjcaaGreat
section
open Go.RowKit Go.Shelf
attribute [local irreducible] bitCells

theorem wpList_more {P : Program} {ops : Array Oper} {Q : Exit → Act → World → Prop} {rest : List Oper} {o : Oper} {a : Act} {w w' : World} {v : Value} (hgd : o.guard = none) (hr : (execOp a.eval o).run P w = .ok (.value v) w')
    (h : wpList P ops Q rest (a.put o.dst v) w') : wpList P ops Q (o :: rest) a w := by
  simp only [wpList]
  rw [if_pos (by simp [Region.wanted, hgd])]
  left
  unfold Oper.wp
  rw [hr]
  exact h
theorem info56c : (Tryz.prog.info? 56).map (fun i => (i.zero, i.size, i.bytes)) = some (some (.agg #[.int .i64 0, .int .i64 0, .int .i64 0, .int .i64 0, .int .i64 0]), 5, 40) := by kernel_rfl
theorem u22c : Tryz.prog.underlying 22 = some (.slice 56) := by kernel_rfl
theorem u22d : Tryz.prog.underlying 22 = some (.slice (Tryz.prog.elem 22)) := by kernel_rfl
theorem e22 : Tryz.prog.elem 22 = 56 := by kernel_rfl
theorem run_slice22h (w : World) (b o n c k : Nat) (hk : k ≤ c) :
    (Instr.sliceAt 22 (.slice (some ⟨b, o, none⟩) n c) none (some (.int .i64 (k : Int))) none).run Tryz.prog w = .ok (.slice (some ⟨b, o, none⟩) k c) w := by
  obtain ⟨i, hi, hz, hs, hb⟩ := info_parts info56c
  rw [run_sliceAt_slice _ _ _ _ _ _ u22d, run_slice_h _ _ _ _ _ u22d _ _ (by omega) (by omega), e22]
  simp [sizeOf, typeInfo, hi, hs, Result.andThen, sliced, Addr.add_lit]
theorem run_slice22l (w : World) (b o n c k : Nat) (hk : k ≤ n) (hc : n ≤ c) :
    ∃ o2, (k < n → o2 = o + k * 5) ∧ (Instr.sliceAt 22 (.slice (some ⟨b, o, none⟩) n c) (some (.int .i64 (k : Int))) none none).run Tryz.prog w = .ok (.slice (some ⟨b, o2, none⟩) (n - k) (c - k)) w := by
  obtain ⟨i, hi, hz, hs, hb⟩ := info_parts info56c
  rw [run_sliceAt_slice _ _ _ _ _ _ u22d, run_slice_l _ _ _ _ _ u22d _ _ (by omega) (by omega), e22]
  by_cases h : c = k
  · exact ⟨o, fun h2 => by omega, by simp [sizeOf, typeInfo, hi, hs, Result.andThen, sliced, h]⟩
  · exact ⟨o + k * 5, fun _ => rfl, by simp [sizeOf, typeInfo, hi, hs, Result.andThen, sliced, h, Addr.add_lit]⟩
theorem run_append_none22 (W : World) (ty : TypeId) (g n cap : Nat) (a : Addr) (c' : Nat) (hn : n ≤ cap) : (Builtin.append_ #[22, 22] ty #[.slice (some ⟨g, 0, none⟩) n cap, .slice (some a) 0 c']).run Tryz.prog W = .ok (.slice (some ⟨g, 0, none⟩) n cap) W := by
  obtain ⟨i0, hi0, hz0, hz1, hz2⟩ := info_parts info56c
  have := run_append_room_cells (P := Tryz.prog) (w := W) 22 ty 56 i0 u22c hi0 g 0 n cap a 0 c' [] (by simp) (fun j u hu => by simp at hu) (fun u hu => by simp at hu) (by omega) (fun j hj => by simp at hj) (fun j hj => by simp at hj)
  exact this
theorem flatO_get : ∀ (ds : List Odr) (j : Nat), (ds.flatMap encO)[j]? = (ds[j / 5]?).bind fun x => (encO x)[j % 5]? := by
  intro ds
  induction ds with
  | nil => intro j; simp
  | cons x ds ih =>
    intro j
    have hl : (encO x).length = 5 := rfl
    rw [List.flatMap_cons]
    by_cases h : j < 5
    · rw [List.getElem?_append_left (by omega), Nat.div_eq_of_lt h, Nat.mod_eq_of_lt h]
      rfl
    · rw [List.getElem?_append_right (by omega), hl, ih]
      have h1 : j / 5 = (j - 5) / 5 + 1 := by omega
      have h2 : j % 5 = (j - 5) % 5 := by omega
      rw [h1, h2]
      rfl
theorem flatO_len (ds : List Odr) : (ds.flatMap encO).length = ds.length * 5 := by
  induction ds with
  | nil => rfl
  | cons x ds ih => rw [List.flatMap_cons, List.length_append, ih, List.length_cons]; show 5 + _ = _; omega
theorem heldO_flat {W : World} {b off : Nat} {ds : List Odr} (h : ∀ j x, ds[j]? = some x → ∀ i v, (encO x)[i]? = some v → W.cell? ⟨b, off + j * 5 + i, none⟩ = some v) : ∀ j u, (ds.flatMap encO)[j]? = some u → W.cell? ((⟨b, off, none⟩ : Addr).add j) = some u := by
  intro j u hu
  rw [flatO_get, Option.bind_eq_some_iff] at hu
  obtain ⟨x, hx, hu⟩ := hu
  have := h (j / 5) x hx (j % 5) u hu
  rw [Addr.add_lit, show off + j = off + j / 5 * 5 + j % 5 from by omega]
  exact this
theorem takeO_cells {W : World} {b off : Nat} {ds : List Odr} (h : ∀ j u, (ds.flatMap encO)[j]? = some u → W.cell? ((⟨b, off, none⟩ : Addr).add j) = some u) (k : Nat) : ∀ j u, ((ds.take k).flatMap encO)[j]? = some u → W.cell? ((⟨b, off, none⟩ : Addr).add j) = some u := by
  intro j u hu
  refine h j u ?_
  rw [flatO_get] at hu ⊢
  rw [List.getElem?_take] at hu
  split at hu
  · exact hu
  · simp at hu
theorem dropO_cells {W : World} {b off : Nat} {ds : List Odr} (h : ∀ j u, (ds.flatMap encO)[j]? = some u → W.cell? ((⟨b, off, none⟩ : Addr).add j) = some u) (k : Nat) : ∀ j u, ((ds.drop k).flatMap encO)[j]? = some u → W.cell? ((⟨b, off + k * 5, none⟩ : Addr).add j) = some u := by
  intro j u hu
  have := h (k * 5 + j) u (by
    rw [flatO_get] at hu ⊢
    rw [List.getElem?_drop] at hu
    rw [show (k * 5 + j) / 5 = k + j / 5 from by omega, show (k * 5 + j) % 5 = j % 5 from by omega]
    exact hu)
  rw [Addr.add_lit] at this ⊢
  rw [Nat.add_assoc]
  exact this
def wo1D (i : Nat) : Tmp := if i = 0 then 5 else if i = 1 then 6 else if i = 2 then 7 else if i = 3 then 8 else if i = 4 then 9 else if i = 5 then 10 else if i = 6 then 11 else if i = 7 then 12 else 13
def wo1S (b1 o1 n c kk B : Nat) (ms : List Odr) (ix : Nat) (v : Value) (W : World) : Prop :=
  match ix with
  | 0 => ∃ g, v = .slice (some ⟨g, 0, none⟩) 0 0 ∧ B ≤ g ∧ W.heap[g]? = some (.cells #[] 56 (0, 0))
  | 1 => v = .slice (some ⟨b1, o1, none⟩) n c
  | 2 => v = .int .i64 (kk : Int)
  | 3 => v = .slice (some ⟨b1, o1, none⟩) kk c
  | 4 => ∃ g cap, v = .slice (some ⟨g, 0, none⟩) kk cap ∧ B ≤ g ∧ W.ownsRow B 56 5 v kk ((ms.take kk).flatMap encO)
  | 5 => v = .slice (some ⟨b1, o1, none⟩) n c
  | 6 => v = .int .i64 (kk : Int)
  | 7 => v = .int .i64 ((kk + 1 : Nat) : Int)
  | 8 => ∃ o2, v = .slice (some ⟨b1, o2, none⟩) (n - (kk + 1)) (c - (kk + 1)) ∧ (kk + 1 < n → o2 = o1 + (kk + 1) * 5)
  | _ => True
noncomputable def wo1Reg : Array Oper := (Tryz.f47.body.bind (regionOf · 1)).getD #[]
theorem wo1S_ext {b1 o1 n c kk B : Nat} {ms : List Odr} : ∀ (i : Nat) (v : Value) (W W' : World), wo1S b1 o1 n c kk B ms i v W → Below W.heap.size W W' → wo1S b1 o1 n c kk B ms i v W' := by
  intro i v W W' h e
  match i with
  | 0 => (obtain ⟨h1, h2, h3, h4⟩ := h; exact ⟨h1, h2, h3, row_ext h4 e⟩)
  | 1 => exact h
  | 2 => exact h
  | 3 => exact h
  | 4 => (obtain ⟨h1, h2, h3, h4, h5⟩ := h; exact ⟨h1, h2, h3, h4, owns_ext h5 e⟩)
  | 5 => exact h
  | 6 => exact h
  | 7 => exact h
  | 8 => exact h
  | k + 9 => exact trivial
def wo1Ok (b1 o1 n c kk B : Nat) (ms : List Odr) (Q : Exit → Act → World → Prop) (a : Act) (W : World) (ix : Nat) (o : Oper) : Prop :=
  (∀ j b, o.guard = some (j, b) → a.eval (.tmp (wo1D j)) = .bool b) ∧ o.wp Tryz.prog a W (fun a'' W' => ∃ v, a'' = a.put o.dst v ∧ wo1S b1 o1 n c kk B ms ix v W' ∧ Below W.heap.size W W') Q
section
variable {b1 o1 n c kk B : Nat} {ms : List Odr} {Q : Exit → Act → World → Prop} {a : Act} {V W : World} {o : Oper}
set_option maxHeartbeats 1000000 in
theorem wo1_op0 (hVB : B ≤ V.heap.size) (hB : Ext V W) (ho : wo1Reg[0]? = some o) : wo1Ok b1 o1 n c kk B ms Q a W 0 o := by
  have hop := op_at ho (·.op) (x := Op.buildSlice 22 0 #[]) (by kernel_rfl)
  have hgd := op_at ho (·.guard) (x := none) (by kernel_rfl)
  refine ⟨fun j b h => (by rw [hgd] at h; cases h), ?_⟩
  exact specs_value (R := fun v W => wo1S b1 o1 n c kk B ms 0 v W) (v := .slice (some ⟨W.heap.size, 0, none⟩) 0 0) (W' := W.alloc (.cells #[] 56)) (by simp [execOp, hop, go_sem]) ⟨_, rfl, Nat.le_trans hVB hB.size, row_last _ _ _ rfl⟩ (ext_alloc _ _)
set_option maxHeartbeats 1000000 in
theorem wo1_op1 (o0 : a.eval (.tmp 0) = .slice (some ⟨b1, o1, none⟩) n c) (ho : wo1Reg[1]? = some o) : wo1Ok b1 o1 n c kk B ms Q a W 1 o := by
  have hop := op_at ho (·.op) (x := Op.move (Operand.tmp 0)) (by kernel_rfl)
  have hgd := op_at ho (·.guard) (x := none) (by kernel_rfl)
  refine ⟨fun j b h => (by rw [hgd] at h; cases h), ?_⟩
  exact specs_value (R := fun v W => wo1S b1 o1 n c kk B ms 1 v W) (v := .slice (some ⟨b1, o1, none⟩) n c) (by simp [execOp, hop, go_sem, ev o0]) rfl (Ext.refl W)
set_option maxHeartbeats 1000000 in
theorem wo1_op2 (oo1 : a.eval (.tmp 1) = .int .i64 (kk : Int)) (ho : wo1Reg[2]? = some o) : wo1Ok b1 o1 n c kk B ms Q a W 2 o := by
  have hop := op_at ho (·.op) (x := Op.move (Operand.tmp 1)) (by kernel_rfl)
  have hgd := op_at ho (·.guard) (x := none) (by kernel_rfl)
  refine ⟨fun j b h => (by rw [hgd] at h; cases h), ?_⟩
  exact specs_value (R := fun v W => wo1S b1 o1 n c kk B ms 2 v W) (v := .int .i64 (kk : Int)) (by simp [execOp, hop, go_sem, ev oo1]) rfl (Ext.refl W)
set_option maxHeartbeats 1000000 in
theorem wo1_op3 (hkn : kk < n) (hnc : n ≤ c) (haft : ∀ j, (o.after.any fun e => decide (e.on = j) && Region.binds .any e) = true → wo1S b1 o1 n c kk B ms j (a.eval (.tmp (wo1D j))) W) (ho : wo1Reg[3]? = some o) : wo1Ok b1 o1 n c kk B ms Q a W 3 o := by
  have hop := op_at ho (·.op) (x := Op.slice 22 (Operand.tmp 6) none (some (Operand.tmp 7)) none) (by kernel_rfl)
  have hgd := op_at ho (·.guard) (x := none) (by kernel_rfl)
  have e1 : a.eval (.tmp 6) = .slice (some ⟨b1, o1, none⟩) n c := haft 1 (op_at ho (fun o => o.after.any fun e => decide (e.on = 1) && Region.binds .any e) (x := true) (by kernel_rfl))
  have e2 : a.eval (.tmp 7) = .int .i64 (kk : Int) := haft 2 (op_at ho (fun o => o.after.any fun e => decide (e.on = 2) && Region.binds .any e) (x := true) (by kernel_rfl))
  refine ⟨fun j b h => (by rw [hgd] at h; cases h), ?_⟩
  have hs4 := run_slice22h W b1 o1 n c kk (by omega)
  exact specs_value (R := fun v W => wo1S b1 o1 n c kk B ms 3 v W) (v := .slice (some ⟨b1, o1, none⟩) kk c) (by simp [execOp, hop, e1, e2, hs4, Result.andThen]) rfl (Ext.refl W)
set_option maxHeartbeats 1000000 in
theorem wo1_op4 (hn : n = ms.length) (hkn : kk < n) (hn9 : n ≤ 5000) (hVB : B ≤ V.heap.size) (hq : ∀ W, Ext V W → ∀ j u, (ms.flatMap encO)[j]? = some u → W.cell? ((⟨b1, o1, none⟩ : Addr).add j) = some u) (hB : Ext V W) (haft : ∀ j, (o.after.any fun e => decide (e.on = j) && Region.binds .any e) = true → wo1S b1 o1 n c kk B ms j (a.eval (.tmp (wo1D j))) W) (ho : wo1Reg[4]? = some o) : wo1Ok b1 o1 n c kk B ms Q a W 4 o := by
  have hop := op_at ho (·.op) (x := Op.call { callee := Callee.builtin Builtin.append, args := #[Operand.tmp 5, Operand.tmp 8], argTypes := #[22, 22] }) (by kernel_rfl)
  have hgd := op_at ho (·.guard) (x := none) (by kernel_rfl)
  have e0 : wo1S b1 o1 n c kk B ms 0 (a.eval (.tmp 5)) W := haft 0 (op_at ho (fun o => o.after.any fun e => decide (e.on = 0) && Region.binds .any e) (x := true) (by kernel_rfl))
  have e3 : a.eval (.tmp 8) = .slice (some ⟨b1, o1, none⟩) kk c := haft 3 (op_at ho (fun o => o.after.any fun e => decide (e.on = 3) && Region.binds .any e) (x := true) (by kernel_rfl))
  refine ⟨fun j b h => (by rw [hgd] at h; cases h), ?_⟩
  obtain ⟨g, e0v, hBg, e0r⟩ := e0
  obtain ⟨i0, hi, hz0, hz1, hz2⟩ := info_parts info56c
  by_cases hk0 : kk = 0
  · subst hk0
    exact specs_value (R := fun v W => wo1S b1 o1 n c 0 B ms 4 v W) (v := .slice (some ⟨g, 0, none⟩) 0 0) (W' := W) (by simp [execOp, hop, resolve, invoke, builtin, e0v, e3, run_append_none22, Result.andThen]) ⟨g, 0, rfl, hBg, ⟨rfl, .inr ⟨g, 0, #[], rfl, hBg, e0r, Nat.le_refl _, Nat.zero_le _, rfl, rfl⟩⟩⟩ (Ext.refl W)
  · obtain ⟨v', w', hrun, r1, r2⟩ := run_append_arg_grows (P := Tryz.prog) W 22 o.type 56 i0 (.agg #[.int .i64 0, .int .i64 0, .int .i64 0, .int .i64 0, .int .i64 0]) 5 40 u22c hi hz0 hz1 hz2 rfl (by decide) ⟨g, 0, none⟩ 0 0 [] rfl (fun j u hu => by simp at hu) ⟨b1, o1, none⟩ kk c ((ms.take kk).flatMap encO) (by rw [flatO_len, List.length_take, ← hn, Nat.min_eq_left (by omega)]) (takeO_cells (hq W hB) kk) (by omega) (by unfold maxLen; omega) (by omega)
    rw [Nat.zero_add, List.nil_append] at r1
    have r1' := r1
    obtain ⟨g1, cap, hv', hg1, _⟩ := r1'.form (by omega)
    exact specs_value (R := fun v W => wo1S b1 o1 n c kk B ms 4 v W) (v := v') (W' := w') (by simp [execOp, hop, resolve, invoke, builtin, e0v, e3, hrun, Result.andThen]) ⟨g1, cap, hv', Nat.le_trans (Nat.le_trans hVB hB.size) hg1, owns_mono r1 (Nat.le_trans hVB hB.size)⟩ ((Below.refl W.heap.size W).grown r2 (Nat.le_refl _) (fun k e => by cases e))
set_option maxHeartbeats 1000000 in
theorem wo1_op5 (o0 : a.eval (.tmp 0) = .slice (some ⟨b1, o1, none⟩) n c) (ho : wo1Reg[5]? = some o) : wo1Ok b1 o1 n c kk B ms Q a W 5 o := by
  have hop := op_at ho (·.op) (x := Op.move (Operand.tmp 0)) (by kernel_rfl)
  have hgd := op_at ho (·.guard) (x := none) (by kernel_rfl)
  refine ⟨fun j b h => (by rw [hgd] at h; cases h), ?_⟩
  exact specs_value (R := fun v W => wo1S b1 o1 n c kk B ms 5 v W) (v := .slice (some ⟨b1, o1, none⟩) n c) (by simp [execOp, hop, go_sem, ev o0]) rfl (Ext.refl W)
set_option maxHeartbeats 1000000 in
theorem wo1_op6 (oo1 : a.eval (.tmp 1) = .int .i64 (kk : Int)) (ho : wo1Reg[6]? = some o) : wo1Ok b1 o1 n c kk B ms Q a W 6 o := by
  have hop := op_at ho (·.op) (x := Op.move (Operand.tmp 1)) (by kernel_rfl)
  have hgd := op_at ho (·.guard) (x := none) (by kernel_rfl)
  refine ⟨fun j b h => (by rw [hgd] at h; cases h), ?_⟩
  exact specs_value (R := fun v W => wo1S b1 o1 n c kk B ms 6 v W) (v := .int .i64 (kk : Int)) (by simp [execOp, hop, go_sem, ev oo1]) rfl (Ext.refl W)
set_option maxHeartbeats 1000000 in
theorem wo1_op7 (hw : IntKind.i64.wrap ((kk : Int) + 1) = ((kk + 1 : Nat) : Int)) (haft : ∀ j, (o.after.any fun e => decide (e.on = j) && Region.binds .any e) = true → wo1S b1 o1 n c kk B ms j (a.eval (.tmp (wo1D j))) W) (ho : wo1Reg[7]? = some o) : wo1Ok b1 o1 n c kk B ms Q a W 7 o := by
  have hop := op_at ho (·.op) (x := Op.binOp BinOp.add 3 (Operand.tmp 11) (Operand.const (Value.int IntKind.i64 1)) 3) (by kernel_rfl)
  have hgd := op_at ho (·.guard) (x := none) (by kernel_rfl)
  have e6 : a.eval (.tmp 11) = .int .i64 (kk : Int) := haft 6 (op_at ho (fun o => o.after.any fun e => decide (e.on = 6) && Region.binds .any e) (x := true) (by kernel_rfl))
  refine ⟨fun j b h => (by rw [hgd] at h; cases h), ?_⟩
  exact specs_value (R := fun v W => wo1S b1 o1 n c kk B ms 7 v W) (v := .int .i64 ((kk + 1 : Nat) : Int)) (by simp [execOp, hop, go_sem, ev e6, hw]) rfl (Ext.refl W)
set_option maxHeartbeats 1000000 in
theorem wo1_op8 (hkn : kk < n) (hnc : n ≤ c) (haft : ∀ j, (o.after.any fun e => decide (e.on = j) && Region.binds .any e) = true → wo1S b1 o1 n c kk B ms j (a.eval (.tmp (wo1D j))) W) (ho : wo1Reg[8]? = some o) : wo1Ok b1 o1 n c kk B ms Q a W 8 o := by
  have hop := op_at ho (·.op) (x := Op.slice 22 (Operand.tmp 10) (some (Operand.tmp 12)) none none) (by kernel_rfl)
  have hgd := op_at ho (·.guard) (x := none) (by kernel_rfl)
  have e5 : a.eval (.tmp 10) = .slice (some ⟨b1, o1, none⟩) n c := haft 5 (op_at ho (fun o => o.after.any fun e => decide (e.on = 5) && Region.binds .any e) (x := true) (by kernel_rfl))
  have e7 : a.eval (.tmp 12) = .int .i64 ((kk + 1 : Nat) : Int) := haft 7 (op_at ho (fun o => o.after.any fun e => decide (e.on = 7) && Region.binds .any e) (x := true) (by kernel_rfl))
  refine ⟨fun j b h => (by rw [hgd] at h; cases h), ?_⟩
  obtain ⟨o2, ho2, hr2⟩ := run_slice22l W b1 o1 n c (kk + 1) (by omega) hnc
  rw [show ((kk + 1 : Nat) : Int) = (kk : Int) + 1 from by omega] at hr2
  exact specs_value (R := fun v W => wo1S b1 o1 n c kk B ms 8 v W) (v := .slice (some ⟨b1, o2, none⟩) (n - (kk + 1)) (c - (kk + 1))) (W' := W) (by simp [execOp, hop, e5, e7, hr2, Result.andThen]) ⟨o2, rfl, ho2⟩ (Ext.refl W)
set_option maxRecDepth 100000 in
set_option maxHeartbeats 4000000 in
theorem wo1_wp {id : Nat} (hlen : a.tmps.size = 15) (o0 : a.eval (.tmp 0) = .slice (some ⟨b1, o1, none⟩) n c) (oo1 : a.eval (.tmp 1) = .int .i64 (kk : Int)) (hVB : B ≤ V.heap.size) (hkn : kk < n) (hnc : n ≤ c) (hn : n = ms.length) (hn9 : n ≤ 5000) (hq : ∀ W, Ext V W → ∀ j u, (ms.flatMap encO)[j]? = some u → W.cell? ((⟨b1, o1, none⟩ : Addr).add j) = some u) (hw : IntKind.i64.wrap ((kk : Int) + 1) = ((kk + 1 : Nat) : Int)) (K : (∀ W v0 v4 v8, Ext V W → wo1S b1 o1 n c kk B ms 0 v0 W → wo1S b1 o1 n c kk B ms 4 v4 W → wo1S b1 o1 n c kk B ms 8 v8 W → wpList Tryz.prog wo1Reg Q (wo1Reg.toList.drop 9) (puts a [(5, v0), (6, .slice (some ⟨b1, o1, none⟩) n c), (7, .int .i64 (kk : Int)), (8, .slice (some ⟨b1, o1, none⟩) kk c), (9, v4), (10, .slice (some ⟨b1, o1, none⟩) n c), (11, .int .i64 (kk : Int)), (12, .int .i64 ((kk + 1 : Nat) : Int)), (13, v8)]) W)) : (Code.region id wo1Reg true).wp Tryz.prog Q a V := by
  refine wp_region_specs_sink (ops := wo1Reg) 9 (wo1S b1 o1 n c kk B ms) (Ext V) (by kernel_rfl) (by rw [hlen]; kernel_rfl) (by kernel_rfl) ⟨rfl, rfl, rfl, Nat.le_refl _, fun _ _ => rfl⟩ (fun _ _ h e => h.trans e) wo1S_ext wo1D (by kernel_rfl) ?_ ?_
  · intro i o hi ho a' W hB hsz hold haft
    match i, hi with
    | 0, _ => exact wo1_op0 hVB hB ho
    | 1, _ => exact wo1_op1 ((hold 0 (by kernel_rfl)).trans o0) ho
    | 2, _ => exact wo1_op2 ((hold 1 (by kernel_rfl)).trans oo1) ho
    | 3, _ => exact wo1_op3 hkn hnc haft ho
    | 4, _ => exact wo1_op4 hn hkn hn9 hVB hq hB haft ho
    | 5, _ => exact wo1_op5 ((hold 0 (by kernel_rfl)).trans o0) ho
    | 6, _ => exact wo1_op6 ((hold 1 (by kernel_rfl)).trans oo1) ho
    | 7, _ => exact wo1_op7 hw haft ho
    | 8, _ => exact wo1_op8 hkn hnc haft ho
    | m + 9, h => exact absurd h (by omega)
  · intro a1 W hB hsz hdf hold hS
    obtain ⟨v0, g0⟩ : ∃ v, v = a1.eval (.tmp 5) := ⟨_, rfl⟩
    obtain ⟨v4, g4⟩ : ∃ v, v = a1.eval (.tmp 9) := ⟨_, rfl⟩
    obtain ⟨v8, g8⟩ : ∃ v, v = a1.eval (.tmp 13) := ⟨_, rfl⟩
    have hall : ∀ z, z ∈ ([(5, v0), (6, .slice (some ⟨b1, o1, none⟩) n c), (7, .int .i64 (kk : Int)), (8, .slice (some ⟨b1, o1, none⟩) kk c), (9, v4), (10, .slice (some ⟨b1, o1, none⟩) n c), (11, .int .i64 (kk : Int)), (12, .int .i64 ((kk + 1 : Nat) : Int)), (13, v8)] : List (Tmp × Value)) → z.1 < a.tmps.size ∧ a1.eval (.tmp z.1) = z.2 := by
      intro z hz
      rw [hlen]
      simp only [List.mem_cons, List.not_mem_nil, or_false] at hz
      rcases hz with rfl | rfl | rfl | rfl | rfl | rfl | rfl | rfl | rfl
      · exact ⟨(show (5 : Nat) < 15 by omega), g0.symm⟩
      · exact ⟨(show (6 : Nat) < 15 by omega), hS 1 (by omega)⟩
      · exact ⟨(show (7 : Nat) < 15 by omega), hS 2 (by omega)⟩
      · exact ⟨(show (8 : Nat) < 15 by omega), hS 3 (by omega)⟩
      · exact ⟨(show (9 : Nat) < 15 by omega), g4.symm⟩
      · exact ⟨(show (10 : Nat) < 15 by omega), hS 5 (by omega)⟩
      · exact ⟨(show (11 : Nat) < 15 by omega), hS 6 (by omega)⟩
      · exact ⟨(show (12 : Nat) < 15 by omega), hS 7 (by omega)⟩
      · exact ⟨(show (13 : Nat) < 15 by omega), g8.symm⟩
    have ha := act_puts hsz hdf hall (fun t ht => hold t (all_ne_of (l := [(5, v0), (6, .slice (some ⟨b1, o1, none⟩) n c), (7, .int .i64 (kk : Int)), (8, .slice (some ⟨b1, o1, none⟩) kk c), (9, v4), (10, .slice (some ⟨b1, o1, none⟩) n c), (11, .int .i64 (kk : Int)), (12, .int .i64 ((kk + 1 : Nat) : Int)), (13, v8)]) (by kernel_rfl) ht))
    rw [ha]
    exact K W v0 v4 v8 hB (by rw [g0]; exact hS 0 (by omega)) (by rw [g4]; exact hS 4 (by omega)) (by rw [g8]; exact hS 8 (by omega))
end

set_option maxRecDepth 100000 in
set_option maxHeartbeats 2000000 in
theorem wo1_tail {a : Act} {V : World} {Q : Exit → Act → World → Prop} {B n cap1 g1 kk b1 o2 c2 : Nat} {ms : List Odr} (h15 : a.tmps.size = 15)
    (e9 : a.eval (.tmp 9) = .slice (some ⟨g1, 0, none⟩) kk cap1) (e13 : a.eval (.tmp 13) = .slice (some ⟨b1, o2, none⟩) (n - (kk + 1)) c2)
    (hown : V.ownsRow B 56 5 (.slice (some ⟨g1, 0, none⟩) kk cap1) kk ((ms.take kk).flatMap encO)) (hg1 : B ≤ g1) (hBV : B ≤ V.heap.size) (hkn : kk < n) (hn : n = ms.length)
    (hq : kk + 1 < n → ∀ j u, ((ms.drop (kk + 1)).flatMap encO)[j]? = some u → V.cell? ((⟨b1, o2, none⟩ : Addr).add j) = some u) (hn9 : n ≤ 5000)
    (K : ∀ g3 cap3 W, W.ownsRow B 56 5 (.slice (some ⟨g3, 0, none⟩) (n - 1) cap3) (n - 1) ((ms.eraseIdx kk).flatMap encO) → Below B V W →
      Q .normal ((a.put (some 14) (.slice (some ⟨g3, 0, none⟩) (n - 1) cap3)).put (some 4) (.slice (some ⟨g3, 0, none⟩) (n - 1) cap3)) W) : wpList Tryz.prog wo1Reg Q (wo1Reg.toList.drop 9) a V := by
  obtain ⟨o6, o7, hdr, h6, h7⟩ : ∃ o6 o7, wo1Reg.toList.drop 9 = [o6, o7] ∧ wo1Reg[9]? = some o6 ∧ wo1Reg[10]? = some o7 := by
    have hs : wo1Reg.size = 11 := by kernel_rfl
    refine ⟨wo1Reg[9], wo1Reg[10], ?_, Array.getElem?_eq_getElem _, Array.getElem?_eq_getElem _⟩
    rw [List.drop_eq_getElem_cons (by simp [hs]), List.drop_eq_getElem_cons (by simp [hs]), List.drop_eq_nil_of_le (by simp [hs])]
    simp
  rw [hdr]
  obtain ⟨i0, hi0, hz0, hz1, hz2⟩ := info_parts info56c
  have hop6 := op_at h6 (·.op) (x := Op.call { callee := Callee.builtin Builtin.append, args := #[Operand.tmp 9, Operand.tmp 13], argTypes := #[22, 22] }) (by kernel_rfl)
  have hg6 := op_at h6 (·.guard) (x := none) (by kernel_rfl)
  have hd6 := op_at h6 (·.dst) (x := some 14) (by kernel_rfl)
  have e1 : (ms.eraseIdx kk).flatMap encO = (ms.take kk).flatMap encO ++ (ms.drop (kk + 1)).flatMap encO := by rw [List.eraseIdx_eq_take_drop_succ, List.flatMap_append]
  have rest : ∀ g3 cap3 V3, V3.ownsRow B 56 5 (.slice (some ⟨g3, 0, none⟩) (n - 1) cap3) (n - 1) ((ms.eraseIdx kk).flatMap encO) → Below B V V3 → wpList Tryz.prog wo1Reg Q [o7] (a.put (some 14) (.slice (some ⟨g3, 0, none⟩) (n - 1) cap3)) V3 := by
    intro g3 cap3 V3 hown3 hE3
    have K3 := K g3 cap3 V3 hown3 hE3
    obtain ⟨a6, ha6⟩ : ∃ a6, a.put (some 14) (.slice (some ⟨g3, 0, none⟩) (n - 1) cap3) = a6 := ⟨_, rfl⟩
    have e14 : a6.eval (.tmp 14) = .slice (some ⟨g3, 0, none⟩) (n - 1) cap3 := by rw [← ha6]; exact eval_put_same (d := 14) (by rw [h15]; decide)
    rw [ha6] at K3
    rw [ha6]
    refine wpList_one (v := .slice (some ⟨g3, 0, none⟩) (n - 1) cap3) (op_at h7 (·.guard) (x := none) (by kernel_rfl)) (by simp [execOp, show o7.op = .assign (.tmp 14) from op_at h7 (·.op) (by kernel_rfl), go_sem, ev e14]) ?_
    rw [show o7.dst = some 4 from op_at h7 (·.dst) (by kernel_rfl)]
    exact K3
  by_cases hlast : n - (kk + 1) = 0
  · have hnk : n - 1 = kk := by omega
    have hdrop : ms.drop (kk + 1) = [] := List.drop_eq_nil_of_le (by omega)
    rw [hdrop, List.flatMap_nil, List.append_nil] at e1
    have r := rest g1 cap1 V (by rw [e1, hnk]; exact hown) (Below.refl B V)
    rw [hnk] at r
    rw [hlast] at e13
    have hcap := (own_held (enc := encO) (xs := ms.take kk) (fun _ => rfl) (by rw [List.length_take]; omega) hown).2
    refine wpList_more (v := .slice (some ⟨g1, 0, none⟩) kk cap1) (w' := V) hg6 (by simp [execOp, hop6, resolve, invoke, builtin, e9, e13, run_append_none22 _ _ _ _ _ _ _ hcap, Result.andThen]) ?_
    rw [hd6]
    exact r
  · have hm : kk + (n - (kk + 1)) = n - 1 := by omega
    have hlen : ((ms.drop (kk + 1)).flatMap encO).length = (n - (kk + 1)) * 5 := by rw [flatO_len, List.length_drop, hn]
    refine wpList_tail hg6 (step_append_lies V hg6 (.tmp 9) (.tmp 13) 22 hop6 B 56 i0 _ 5 40 u22c hi0 hz0 hz1 hz2 rfl (by omega) _ kk ((ms.take kk).flatMap encO) e9 hown ⟨b1, o2, none⟩ (n - (kk + 1)) c2 ((ms.drop (kk + 1)).flatMap encO) e13 hlen (hq (by omega)) (fun u hu => ?_) (by omega) (by unfold maxLen; omega) (by omega) hBV V.heap.size rfl ?_)
    · obtain ⟨x, _, hx⟩ := List.mem_flatMap.1 hu
      simp [encO] at hx
      rcases hx with rfl | rfl | rfl | rfl | rfl <;> rfl
    · intro g3 cap3 V3 hown3 hgr _ _
      rw [hm, ← e1] at hown3
      have r := rest g3 cap3 V3 hown3 ((Below.refl B V).grown hgr hBV fun r e => by cases e; exact hg1)
      rw [hm, hd6]
      exact r

set_option maxRecDepth 100000 in
set_option maxHeartbeats 2000000 in
/-- The reference's Without (func 47). -/
theorem without_any {A : Option Addr} {n c : Nat} {os : List Odr} {w : World} (h : IsOrders w A n c os) (k : Nat) (hk : k < os.length) (h5 : os.length ≤ 5000) :
    Calls Tryz.prog 47 #[.slice A n c, .int .i64 (k : Int)] w fun e w' => Ext w w' ∧ ∃ A' c', e = .returned (.slice A' (os.eraseIdx k).length c') ∧ IsOrders w' A' (os.eraseIdx k).length c' (os.eraseIdx k) := by
  have hn := h.len
  have hel : (os.eraseIdx k).length = n - 1 := by rw [List.length_eraseIdx_of_lt hk, hn]
  rw [hel]
  have hcap := h.cap
  obtain ⟨b, off, rfl, hb, -⟩ := held_at h.held hk
  have hcells : ∀ W, Ext w W → ∀ j u, (os.flatMap encO)[j]? = some u → W.cell? ((⟨b, off, none⟩ : Addr).add j) = some u := fun W hW => by
    rcases h.held with e | ⟨b', off', e, _, hc⟩
    · rw [e] at hk; simp at hk
    · cases e
      exact heldO_flat fun j x hx i v hv => (Below.cell hW (p := ⟨b, off + j * 5 + i, none⟩) hb).trans (hc j x hx i v hv)
  have hwr : IntKind.i64.wrap ((k : Int) + 1) = ((k + 1 : Nat) : Int) := by rw [IntWalk.i64_in _ (by omega)]; omega
  have HC := Lib.hid hcells
  clear hcells hb
  go_enter Tryz.func47, Tryz.ntmps47
  go_upto_region 1 with fail
  refine wo1_wp (b1 := b) (o1 := off) (n := n) (c := c) (kk := k) (B := w.heap.size) (ms := os) rfl rfl rfl (Nat.le_refl _) (by omega) hcap hn (by omega) HC.out hwr ?_
  rintro W v0 v4 v8 e1 - ⟨g4, cap4, rfl, hg4, hown⟩ ⟨o2, rfl, ho2⟩
  simp only [puts, List.foldl_cons, List.foldl_nil, Act.put, List.setIfInBounds_toArray, List.set_cons_succ, List.set_cons_zero]
  refine wo1_tail (n := n) (g1 := g4) (cap1 := cap4) (kk := k) (b1 := b) (o2 := o2) (c2 := c - (k + 1)) (B := w.heap.size) (ms := os) rfl rfl rfl hown hg4 e1.size (by omega) hn (fun hlt => by rw [ho2 hlt]; exact dropO_cells (HC.out W e1) (k + 1)) (by omega) ?_
  intro g3 cap3 W3 hown3 hB3
  have hfin := own_held (enc := encO) (xs := os.eraseIdx k) (fun _ => rfl) hel.symm hown3
  have HF := Lib.hid (show IsOrders W3 (some ⟨g3, 0, none⟩) (n - 1) cap3 (os.eraseIdx k) from ⟨hel.symm, by omega, hfin.2, hfin.1⟩)
  have HE := Lib.hid (show Ext w W3 from Below.trans (show Below w.heap.size w W from e1) hB3)
  clear hfin hown3 hB3 hown e1
  simp only [Act.put, List.setIfInBounds_toArray, List.set_cons_succ, List.set_cons_zero]
  go_wp2
  go_ret
  exact ⟨HE.out, _, _, rfl, HF.out⟩
end
end Go.Proofs.YtmlmnljbegcjcaaGreat

/- BathMore: the list and one order more, laid anew (region 6). -/
namespace Go.Proofs.YtmlmnljbegcjcaaGreat
section
open Go.RowKit Go.Shelf
attribute [local irreducible] bitCells

theorem flatO_one (q : Odr) : [q].flatMap encO = encO q := by simp
theorem rowO_cells {W : World} {g : Nat} {q : Odr} {t : TypeId} {fr : Nat × Nat} (h : W.heap[g]? = some (.cells (encO q).toArray t fr)) : ∀ j u, (encO q)[j]? = some u → W.cell? ((⟨g, 0, none⟩ : Addr).add j) = some u := by
  intro j u hu
  rw [Addr.add_lit, Nat.zero_add, cell_of_row _ _ _ _ _ _ h, List.getElem?_toArray]
  exact hu
def mr6D (i : Nat) : Tmp := if i = 0 then 39 else if i = 1 then 40 else if i = 2 then 41 else if i = 3 then 42 else 43
def mr6S (_pm b1 o1 n c B : Nat) (ms : List Odr) (q : Odr) (ix : Nat) (v : Value) (W : World) : Prop :=
  match ix with
  | 0 => ∃ g, v = .slice (some ⟨g, 0, none⟩) 0 0 ∧ B ≤ g ∧ W.heap[g]? = some (.cells #[] 56 (0, 0))
  | 1 => v = .slice (some ⟨b1, o1, none⟩) n c
  | 2 => ∃ g cap, v = .slice (some ⟨g, 0, none⟩) n cap ∧ B ≤ g ∧ W.ownsRow B 56 5 v n (ms.flatMap encO)
  | 3 => v = .agg (encO q).toArray
  | 4 => ∃ g, v = .slice (some ⟨g, 0, none⟩) 1 1 ∧ W.heap[g]? = some (.cells (encO q).toArray 56 (0, 0))
  | _ => True
noncomputable def mr6Reg : Array Oper := (Tryz.f11.body.bind (regionOf · 6)).getD #[]
theorem mr6S_ext {pm b1 o1 n c B : Nat} {ms : List Odr} {q : Odr} : ∀ (i : Nat) (v : Value) (W W' : World), mr6S pm b1 o1 n c B ms q i v W → Below W.heap.size W W' → mr6S pm b1 o1 n c B ms q i v W' := by
  intro i v W W' h e
  match i with
  | 0 => (obtain ⟨h1, h2, h3, h4⟩ := h; exact ⟨h1, h2, h3, row_ext h4 e⟩)
  | 1 => exact h
  | 2 => (obtain ⟨h1, h2, h3, h4, h5⟩ := h; exact ⟨h1, h2, h3, h4, owns_ext h5 e⟩)
  | 3 => exact h
  | 4 => (obtain ⟨h1, h2, h3⟩ := h; exact ⟨h1, h2, row_ext h3 e⟩)
  | k + 5 => exact trivial
def mr6Ok (pm b1 o1 n c B : Nat) (ms : List Odr) (q : Odr) (Q : Exit → Act → World → Prop) (a : Act) (W : World) (ix : Nat) (o : Oper) : Prop :=
  (∀ j b, o.guard = some (j, b) → a.eval (.tmp (mr6D j)) = .bool b) ∧ o.wp Tryz.prog a W (fun a'' W' => ∃ v, a'' = a.put o.dst v ∧ mr6S pm b1 o1 n c B ms q ix v W' ∧ Below W.heap.size W W') Q
section
variable {pm b1 o1 n c B : Nat} {ms : List Odr} {q : Odr} {Q : Exit → Act → World → Prop} {a : Act} {V W : World} {o : Oper}
set_option maxHeartbeats 1000000 in
theorem mr6_op0 (hVB : B ≤ V.heap.size) (hB : Ext V W) (ho : mr6Reg[0]? = some o) : mr6Ok pm b1 o1 n c B ms q Q a W 0 o := by
  have hop := op_at ho (·.op) (x := Op.buildSlice 22 0 #[]) (by kernel_rfl)
  have hgd := op_at ho (·.guard) (x := none) (by kernel_rfl)
  refine ⟨fun j b h => (by rw [hgd] at h; cases h), ?_⟩
  exact specs_value (R := fun v W => mr6S pm b1 o1 n c B ms q 0 v W) (v := .slice (some ⟨W.heap.size, 0, none⟩) 0 0) (W' := W.alloc (.cells #[] 56)) (by simp [execOp, hop, go_sem]) ⟨_, rfl, Nat.le_trans hVB hB.size, row_last _ _ _ rfl⟩ (ext_alloc _ _)
set_option maxHeartbeats 1000000 in
theorem mr6_op1 (o0 : a.eval (.tmp 0) = .slice (some ⟨b1, o1, none⟩) n c) (ho : mr6Reg[1]? = some o) : mr6Ok pm b1 o1 n c B ms q Q a W 1 o := by
  have hop := op_at ho (·.op) (x := Op.move (Operand.tmp 0)) (by kernel_rfl)
  have hgd := op_at ho (·.guard) (x := none) (by kernel_rfl)
  refine ⟨fun j b h => (by rw [hgd] at h; cases h), ?_⟩
  exact specs_value (R := fun v W => mr6S pm b1 o1 n c B ms q 1 v W) (v := .slice (some ⟨b1, o1, none⟩) n c) (by simp [execOp, hop, go_sem, ev o0]) rfl (Ext.refl W)
set_option maxHeartbeats 1000000 in
theorem mr6_op2 (hn : n = ms.length) (hn0 : 0 < n) (hn9 : n ≤ 5000) (hVB : B ≤ V.heap.size) (hq : ∀ W, Ext V W → ∀ j u, (ms.flatMap encO)[j]? = some u → W.cell? ((⟨b1, o1, none⟩ : Addr).add j) = some u) (hB : Ext V W) (haft : ∀ j, (o.after.any fun e => decide (e.on = j) && Region.binds .any e) = true → mr6S pm b1 o1 n c B ms q j (a.eval (.tmp (mr6D j))) W) (ho : mr6Reg[2]? = some o) : mr6Ok pm b1 o1 n c B ms q Q a W 2 o := by
  have hop := op_at ho (·.op) (x := Op.call { callee := Callee.builtin Builtin.append, args := #[Operand.tmp 39, Operand.tmp 40], argTypes := #[22, 22] }) (by kernel_rfl)
  have hgd := op_at ho (·.guard) (x := none) (by kernel_rfl)
  have e0 : mr6S pm b1 o1 n c B ms q 0 (a.eval (.tmp 39)) W := haft 0 (op_at ho (fun o => o.after.any fun e => decide (e.on = 0) && Region.binds .any e) (x := true) (by kernel_rfl))
  have e1 : a.eval (.tmp 40) = .slice (some ⟨b1, o1, none⟩) n c := haft 1 (op_at ho (fun o => o.after.any fun e => decide (e.on = 1) && Region.binds .any e) (x := true) (by kernel_rfl))
  refine ⟨fun j b h => (by rw [hgd] at h; cases h), ?_⟩
  obtain ⟨g, e0v, hBg, e0r⟩ := e0
  obtain ⟨i0, hi, hz0, hz1, hz2⟩ := info_parts info56c
  obtain ⟨v', w', hrun, r1, r2⟩ := run_append_arg_grows (P := Tryz.prog) W 22 o.type 56 i0 (.agg #[.int .i64 0, .int .i64 0, .int .i64 0, .int .i64 0, .int .i64 0]) 5 40 u22c hi hz0 hz1 hz2 rfl (by decide) ⟨g, 0, none⟩ 0 0 [] rfl (fun j u hu => by simp at hu) ⟨b1, o1, none⟩ n c (ms.flatMap encO) (by rw [flatO_len, ← hn]) (hq W hB) (by omega) (by unfold maxLen; omega) (by omega)
  rw [Nat.zero_add, List.nil_append] at r1
  have r1' := r1
  obtain ⟨g1, cap, hv', hg1, _⟩ := r1'.form (by omega)
  exact specs_value (R := fun v W => mr6S pm b1 o1 n c B ms q 2 v W) (v := v') (W' := w') (by simp [execOp, hop, resolve, invoke, builtin, e0v, e1, hrun, Result.andThen]) ⟨g1, cap, hv', Nat.le_trans (Nat.le_trans hVB hB.size) hg1, owns_mono r1 (Nat.le_trans hVB hB.size)⟩ ((Below.refl W.heap.size W).grown r2 (Nat.le_refl _) (fun k e => by cases e))
set_option maxHeartbeats 1000000 in
theorem mr6_op3 (o6 : a.eval (.tmp 6) = .pointer (some ⟨pm, 0, none⟩)) (hp : ∀ W, Ext V W → W.heap[pm]? = some (.cells (encO q).toArray 56 (0, 0))) (hB : Ext V W) (ho : mr6Reg[3]? = some o) : mr6Ok pm b1 o1 n c B ms q Q a W 3 o := by
  have hop := op_at ho (·.op) (x := Op.load 56 (Operand.tmp 6)) (by kernel_rfl)
  have hgd := op_at ho (·.guard) (x := none) (by kernel_rfl)
  refine ⟨fun j b h => (by rw [hgd] at h; cases h), ?_⟩
  have hr := hp W hB
  have c0 : W.cell? ⟨pm, 0, none⟩ = some (.int .i64 q.lo) := cell_of_row _ _ 0 _ _ _ hr
  have c1 : W.cell? ⟨pm, 1, none⟩ = some (.int .i64 q.hi) := cell_of_row _ _ 1 _ _ _ hr
  have c2 : W.cell? ⟨pm, 2, none⟩ = some (.int .i64 q.young) := cell_of_row _ _ 2 _ _ _ hr
  have c3 : W.cell? ⟨pm, 3, none⟩ = some (.int .i64 q.old) := cell_of_row _ _ 3 _ _ _ hr
  have c4 : W.cell? ⟨pm, 4, none⟩ = some (.int .i64 q.worth) := cell_of_row _ _ 4 _ _ _ hr
  exact specs_value (R := fun v W => mr6S pm b1 o1 n c B ms q 3 v W) (v := .agg (encO q).toArray) (by simp [execOp, hop, go_sem, ev o6, c0, c1, c2, c3, c4, encO]) rfl (Ext.refl W)
set_option maxHeartbeats 1000000 in
theorem mr6_op4 (haft : ∀ j, (o.after.any fun e => decide (e.on = j) && Region.binds .any e) = true → mr6S pm b1 o1 n c B ms q j (a.eval (.tmp (mr6D j))) W) (ho : mr6Reg[4]? = some o) : mr6Ok pm b1 o1 n c B ms q Q a W 4 o := by
  have hop := op_at ho (·.op) (x := Op.buildSlice 22 1 #[(0, Operand.tmp 42)]) (by kernel_rfl)
  have hgd := op_at ho (·.guard) (x := none) (by kernel_rfl)
  have e3 : a.eval (.tmp 42) = .agg (encO q).toArray := haft 3 (op_at ho (fun o => o.after.any fun e => decide (e.on = 3) && Region.binds .any e) (x := true) (by kernel_rfl))
  refine ⟨fun j b h => (by rw [hgd] at h; cases h), ?_⟩
  exact specs_value (R := fun v W => mr6S pm b1 o1 n c B ms q 4 v W) (v := .slice (some ⟨W.heap.size, 0, none⟩) 1 1) (W' := W.alloc (.cells (encO q).toArray 56)) (by simp [execOp, hop, go_sem, ev e3, encO]) ⟨_, rfl, row_last _ _ _ rfl⟩ (ext_alloc _ _)
set_option maxRecDepth 100000 in
set_option maxHeartbeats 4000000 in
theorem mr6_wp {id : Nat} (hlen : a.tmps.size = 219) (o0 : a.eval (.tmp 0) = .slice (some ⟨b1, o1, none⟩) n c) (o6 : a.eval (.tmp 6) = .pointer (some ⟨pm, 0, none⟩)) (hVB : B ≤ V.heap.size) (hn : n = ms.length) (hn0 : 0 < n) (hn9 : n ≤ 5000) (hq : ∀ W, Ext V W → ∀ j u, (ms.flatMap encO)[j]? = some u → W.cell? ((⟨b1, o1, none⟩ : Addr).add j) = some u) (hp : ∀ W, Ext V W → W.heap[pm]? = some (.cells (encO q).toArray 56 (0, 0))) (K : (∀ W v0 v2 v4, Ext V W → mr6S pm b1 o1 n c B ms q 2 v2 W → mr6S pm b1 o1 n c B ms q 4 v4 W → wpList Tryz.prog mr6Reg Q (mr6Reg.toList.drop 5) (puts a [(39, v0), (40, .slice (some ⟨b1, o1, none⟩) n c), (41, v2), (42, .agg (encO q).toArray), (43, v4)]) W)) : (Code.region id mr6Reg true).wp Tryz.prog Q a V := by
  refine wp_region_specs_sink (ops := mr6Reg) 5 (mr6S pm b1 o1 n c B ms q) (Ext V) (by kernel_rfl) (by rw [hlen]; kernel_rfl) (by kernel_rfl) ⟨rfl, rfl, rfl, Nat.le_refl _, fun _ _ => rfl⟩ (fun _ _ h e => h.trans e) mr6S_ext mr6D (by kernel_rfl) ?_ ?_
  · intro i o hi ho a' W hB hsz hold haft
    match i, hi with
    | 0, _ => exact mr6_op0 hVB hB ho
    | 1, _ => exact mr6_op1 ((hold 0 (by kernel_rfl)).trans o0) ho
    | 2, _ => exact mr6_op2 hn hn0 hn9 hVB hq hB haft ho
    | 3, _ => exact mr6_op3 ((hold 6 (by kernel_rfl)).trans o6) hp hB ho
    | 4, _ => exact mr6_op4 haft ho
    | m + 5, h => exact absurd h (by omega)
  · intro a1 W hB hsz hdf hold hS
    obtain ⟨v0, g0⟩ : ∃ v, v = a1.eval (.tmp 39) := ⟨_, rfl⟩
    obtain ⟨v2, g2⟩ : ∃ v, v = a1.eval (.tmp 41) := ⟨_, rfl⟩
    obtain ⟨v4, g4⟩ : ∃ v, v = a1.eval (.tmp 43) := ⟨_, rfl⟩
    have hall : ∀ z, z ∈ ([(39, v0), (40, .slice (some ⟨b1, o1, none⟩) n c), (41, v2), (42, .agg (encO q).toArray), (43, v4)] : List (Tmp × Value)) → z.1 < a.tmps.size ∧ a1.eval (.tmp z.1) = z.2 := by
      intro z hz
      rw [hlen]
      simp only [List.mem_cons, List.not_mem_nil, or_false] at hz
      rcases hz with rfl | rfl | rfl | rfl | rfl
      · exact ⟨(show (39 : Nat) < 219 by omega), g0.symm⟩
      · exact ⟨(show (40 : Nat) < 219 by omega), hS 1 (by omega)⟩
      · exact ⟨(show (41 : Nat) < 219 by omega), g2.symm⟩
      · exact ⟨(show (42 : Nat) < 219 by omega), hS 3 (by omega)⟩
      · exact ⟨(show (43 : Nat) < 219 by omega), g4.symm⟩
    have ha := act_puts hsz hdf hall (fun t ht => hold t (all_ne_of (l := [(39, v0), (40, .slice (some ⟨b1, o1, none⟩) n c), (41, v2), (42, .agg (encO q).toArray), (43, v4)]) (by kernel_rfl) ht))
    rw [ha]
    exact K W v0 v2 v4 hB (by rw [g2]; exact hS 2 (by omega)) (by rw [g4]; exact hS 4 (by omega))
end

set_option maxRecDepth 100000 in
set_option maxHeartbeats 2000000 in
theorem mr6_tail {a : Act} {V : World} {Q : Exit → Act → World → Prop} {B n cap1 g1 g2 : Nat} {ms : List Odr} {q : Odr} (hsz : a.tmps.size = 219)
    (e41 : a.eval (.tmp 41) = .slice (some ⟨g1, 0, none⟩) n cap1) (e43 : a.eval (.tmp 43) = .slice (some ⟨g2, 0, none⟩) 1 1)
    (hown : V.ownsRow B 56 5 (.slice (some ⟨g1, 0, none⟩) n cap1) n (ms.flatMap encO)) (hg1 : B ≤ g1) (hBV : B ≤ V.heap.size)
    (hrow : V.heap[g2]? = some (.cells (encO q).toArray 56 (0, 0))) (hn9 : n ≤ 5000)
    (K : ∀ g3 cap3 W, W.ownsRow B 56 5 (.slice (some ⟨g3, 0, none⟩) (n + 1) cap3) (n + 1) ((ms ++ [q]).flatMap encO) → Below B V W →
      Q .normal ((a.put (some 44) (.slice (some ⟨g3, 0, none⟩) (n + 1) cap3)).put (some 13) (.slice (some ⟨g3, 0, none⟩) (n + 1) cap3)) W) : wpList Tryz.prog mr6Reg Q (mr6Reg.toList.drop 5) a V := by
  obtain ⟨o6, o7, hdr, h6, h7⟩ : ∃ o6 o7, mr6Reg.toList.drop 5 = [o6, o7] ∧ mr6Reg[5]? = some o6 ∧ mr6Reg[6]? = some o7 := by
    have hs : mr6Reg.size = 7 := by kernel_rfl
    refine ⟨mr6Reg[5], mr6Reg[6], ?_, Array.getElem?_eq_getElem _, Array.getElem?_eq_getElem _⟩
    rw [List.drop_eq_getElem_cons (by simp [hs]), List.drop_eq_getElem_cons (by simp [hs]), List.drop_eq_nil_of_le (by simp [hs])]
    simp
  rw [hdr]
  obtain ⟨i0, hi0, hz0, hz1, hz2⟩ := info_parts info56c
  have hop6 := op_at h6 (·.op) (x := Op.call { callee := Callee.builtin Builtin.append, args := #[Operand.tmp 41, Operand.tmp 43], argTypes := #[22, 22] }) (by kernel_rfl)
  have hg6 := op_at h6 (·.guard) (x := none) (by kernel_rfl)
  have hd6 := op_at h6 (·.dst) (x := some 44) (by kernel_rfl)
  refine wpList_tail hg6 (step_append_lies V hg6 (.tmp 41) (.tmp 43) 22 hop6 B 56 i0 _ 5 40 u22c hi0 hz0 hz1 hz2 rfl (by omega) _ n (ms.flatMap encO) e41 hown ⟨g2, 0, none⟩ 1 1 (encO q) e43 rfl (rowO_cells hrow) (fun u hu => ?_) (by omega) (by unfold maxLen; omega) (by omega) hBV V.heap.size rfl ?_)
  · simp [encO] at hu
    rcases hu with rfl | rfl | rfl | rfl | rfl <;> rfl
  · intro g3 cap3 V3 hown3 hgr _ _
    have hE3 : Below B V V3 := (Below.refl B V).grown hgr hBV fun r e => by cases e; exact hg1
    have K3 := K g3 cap3 V3 (by rw [List.flatMap_append, flatO_one]; exact hown3) hE3
    rw [hd6]
    obtain ⟨a6, ha6⟩ : ∃ a6, a.put (some 44) (.slice (some ⟨g3, 0, none⟩) (n + 1) cap3) = a6 := ⟨_, rfl⟩
    have e44 : a6.eval (.tmp 44) = .slice (some ⟨g3, 0, none⟩) (n + 1) cap3 := by rw [← ha6]; exact eval_put_same (d := 44) (by rw [hsz]; decide)
    rw [ha6] at K3
    rw [ha6]
    refine wpList_one (v := .slice (some ⟨g3, 0, none⟩) (n + 1) cap3) (op_at h7 (·.guard) (x := none) (by kernel_rfl)) (by simp [execOp, show o7.op = .assign (.tmp 44) from op_at h7 (·.op) (by kernel_rfl), go_sem, ev e44]) ?_
    rw [show o7.dst = some 13 from op_at h7 (·.dst) (by kernel_rfl)]
    exact K3
end
end Go.Proofs.YtmlmnljbegcjcaaGreat

/- BathEither: the facts; fewest. -/
namespace Go.Proofs.YtmlmnljbegcjcaaGreat
section
open Go.RowKit Go.Shelf
attribute [local irreducible] bitCells

theorem nums_mem (M : Nat → Bool) (k : Nat) : ∀ t, (k : Int) ∈ numsTo M t ↔ k < t ∧ M k = true
  | 0 => by simp [numsTo]
  | t + 1 => by
    rw [numsTo_succ, List.mem_append, nums_mem M k t]
    by_cases h : M t = true
    · rw [if_pos h, List.mem_singleton]
      constructor
      · rintro (⟨h1, h2⟩ | h1)
        · exact ⟨by omega, h2⟩
        · obtain rfl : k = t := by omega
          exact ⟨by omega, h⟩
      · rintro ⟨h1, h2⟩
        by_cases e : k = t
        · exact .inr (by rw [e])
        · exact .inl ⟨by omega, h2⟩
    · rw [if_neg h]
      constructor
      · rintro (⟨h1, h2⟩ | h1)
        · exact ⟨by omega, h2⟩
        · cases h1
      · rintro ⟨h1, h2⟩
        refine .inl ⟨?_, h2⟩
        by_cases e : k = t
        · subst e; exact absurd h2 h
        · omega
theorem does_mem {os : List Odr} (h0 : ordersErr os = 0) {k : Nat} (hk : k < os.length) (x : Int) : decide ((k : Int) ∈ doesOf os x) = doneB x os[k] := by
  have h14 := (orders_ok h0).1.2
  rw [Bool.eq_iff_iff, decide_eq_true_eq]
  unfold doesOf
  rw [if_pos h0, nums_mem, does_at, decide_eq_true hk, Bool.true_and, oAt_get hk]
  exact ⟨fun h => h.2, fun h => ⟨by omega, h⟩⟩
theorem born_at {os : List Odr} (h0 : ordersErr os = 0) {k : Nat} (hk : k < os.length) : birthsAns os (k : Int) = if hasB os[k] = true then ((bLo os[k], bHi os[k]), 0) else ((0, 0), 22) := by
  unfold birthsAns
  rw [if_pos h0, if_pos ⟨by omega, by omega⟩, Int.toNat_natCast, oAt_get hk]
theorem does_few (os : List Odr) (x : Int) : (doesOf os x).length ≤ 14 := by
  unfold doesOf
  split
  · exact numsTo_len _ _
  · simp
theorem whole_less {os : List Odr} (h : Whole os) (k : Nat) : Whole (os.eraseIdx k) := fun _ ho => h _ (List.mem_of_mem_eraseIdx ho)
theorem costB_less {os : List Odr} (h : Whole os) (k : Nat) : costB os k = decide ((fewB (os.eraseIdx k)).length < (fewB os).length) := by
  have h1 : (dueI os noBits).length = (fewB os).length := by
    rw [dueI_dues, List.length_map, ← dues_few h, List.length_map]
  have h2 : (dueI os (oneBit k)).length = (fewB (os.eraseIdx k)).length := by
    unfold dueI
    rw [List.length_map, ← List.length_map (f := fun k => bHi (oAt os k)), due_stab _ _ (fun i hi _ => h _ (oAt_mem hi)), show undone os (oneBit k) = os.eraseIdx k from undone_one os k]
    unfold fewB
    rw [stab_fuel (whole_less h k) os.length (os.eraseIdx k).length (by rw [List.length_eraseIdx]; split <;> omega) (Nat.le_refl _)]
  unfold costB
  rw [h1, h2]
/-- One more birth, in its place. -/
theorem put_sorted (x : Int) : ∀ bs : List Int, bs.Pairwise (· < ·) → ∃ cs : List Int, cs.Pairwise (· < ·) ∧ cs.length ≤ bs.length + 1 ∧ x ∈ cs ∧ (∀ y, y ∈ bs → y ∈ cs) ∧ ∀ y, y ∈ cs → y = x ∨ y ∈ bs
  | [], _ => ⟨[x], List.pairwise_singleton _ _, Nat.le_refl _, by simp, fun y h => (nomatch h), fun y h => .inl (by simpa using h)⟩
  | b :: bs, h => by
    rcases Int.lt_trichotomy x b with hx | hx | hx
    · refine ⟨x :: b :: bs, List.pairwise_cons.2 ⟨fun y hy => ?_, h⟩, Nat.le_refl _, by simp, fun y hy => List.mem_cons_of_mem _ hy, fun y hy => List.mem_cons.1 hy⟩
      rcases List.mem_cons.1 hy with rfl | hy
      · exact hx
      · have := List.rel_of_pairwise_cons h hy; omega
    · exact ⟨b :: bs, h, Nat.le_succ _, by simp [hx], fun y hy => hy, fun y hy => .inr hy⟩
    · obtain ⟨cs, h1, h2, h3, h4, h5⟩ := put_sorted x bs h.of_cons
      refine ⟨b :: cs, List.pairwise_cons.2 ⟨fun y hy => ?_, h1⟩, by simp only [List.length_cons]; omega, List.mem_cons_of_mem _ h3, fun y hy => ?_, fun y hy => ?_⟩
      · rcases h5 y hy with rfl | hy
        · exact hx
        · exact List.rel_of_pairwise_cons h hy
      · rcases List.mem_cons.1 hy with rfl | hy
        · simp
        · exact List.mem_cons_of_mem _ (h4 y hy)
      · rcases List.mem_cons.1 hy with rfl | hy
        · exact .inr (by simp)
        · exact (h5 y hy).imp id (List.mem_cons_of_mem _)
theorem few_less_le {os : List Odr} (hW : Whole os) (k : Nat) : (fewB (os.eraseIdx k)).length ≤ (fewB os).length :=
  fewB_few (whole_less hW k) (fewB_sorted os hW).1 fun o ho => fewB_covers os hW o (List.mem_of_mem_eraseIdx ho)
theorem few_less_ge {os : List Odr} (hW : Whole os) {k : Nat} (hk : k < os.length) : (fewB os).length ≤ (fewB (os.eraseIdx k)).length + 1 := by
  obtain ⟨cs, h1, h2, h3, h4, _⟩ := put_sorted (bHi os[k]) _ (fewB_sorted _ (whole_less hW k)).1
  refine Nat.le_trans (fewB_few hW h1 fun o ho => ?_) h2
  have hsp : o ∈ os.eraseIdx k ∨ o = os[k] := by
    have he : os = os.take k ++ os[k] :: os.drop (k + 1) := by rw [← List.drop_eq_getElem_cons hk, List.take_append_drop]
    rw [List.eraseIdx_eq_take_drop_succ]
    rw [he] at ho
    rcases List.mem_append.1 ho with ho | ho
    · exact .inl (List.mem_append_left _ ho)
    · rcases List.mem_cons.1 ho with ho | ho
      · exact .inr ho
      · exact .inl (List.mem_append_right _ ho)
  rcases hsp with ho | rfl
  · obtain ⟨x, hx, hd⟩ := fewB_covers _ (whole_less hW k) o ho
    exact ⟨x, h4 x hx, hd⟩
  · refine ⟨_, h3, doneB_iff.2 ⟨?_, Int.le_refl _⟩⟩
    have := hW _ (List.getElem_mem hk)
    unfold hasB at this
    simpa using this

/-- What fewest answers. -/
def fewN (os : List Odr) : Int := if wholeErr os = 22 then 100 else ((bestB os).length : Int)
def fewOk (os : List Odr) : Bool := decide (wholeErr os = 22 ∨ wholeErr os = 0)
set_option maxRecDepth 100000 in
set_option maxHeartbeats 2000000 in
theorem fewest_any {A : Option Addr} {n c : Nat} {os : List Odr} {w : World} (h : IsOrders w A n c os) :
    Calls Tryz.prog 46 #[.slice A n c] w fun e w' => Ext w w' ∧ e = .returned (.tuple #[.int .i64 (fewN os), .bool (fewOk os)]) := by
  have h1 := best_any h
  have hb22 : wholeErr os = 22 → (bestB os).length = 0 := fun h => by unfold bestB; rw [if_neg (by rw [h]; decide)]; rfl
  obtain ⟨E, hE⟩ : ∃ E, wholeErr os = E := ⟨_, rfl⟩
  obtain ⟨bl, hbl⟩ : ∃ bl, bestB os = bl := ⟨_, rfl⟩
  unfold fewN fewOk
  rw [hE, hbl] at h1 hb22
  rw [hE, hbl]
  clear hE hbl h
  by_cases h22 : E = 22
  · subst h22
    have hz := hb22 rfl
    clear hb22
    go_enter Tryz.func46, Tryz.ntmps46
    go_wp2_with fail
    refine h1.mono ?_
    rintro e w1 ⟨e1, A1, c1, rfl, _⟩
    have HX := Lib.hid e1
    clear h1 e1
    rw [hz]
    go_wp2
    go_ret2
    exact ⟨HX.out, rfl⟩
  · have hne : (E == 22) = false := by simp [h22]
    clear hb22
    go_enter Tryz.func46, Tryz.ntmps46
    go_wp2_with fail
    refine h1.mono ?_
    rintro e w1 ⟨e1, A1, c1, rfl, _⟩
    have HX := Lib.hid e1
    clear h1 e1
    go_wp2
    go_ret2
    exact ⟨HX.out, rfl⟩
end
end Go.Proofs.YtmlmnljbegcjcaaGreat

/- BathMore: the facts. -/
namespace Go.Proofs.YtmlmnljbegcjcaaGreat
section
open Go.RowKit Go.Shelf

theorem fewOk_of {os : List Odr} (h0 : ordersErr os = 0) : fewOk os = true := by
  unfold fewOk wholeErr
  rw [if_pos h0, decide_eq_true_eq]
  split <;> simp
theorem few_len (os : List Odr) : (fewB os).length ≤ os.length := stab_len _ _
theorem fewN_whole {os : List Odr} (h0 : ordersErr os = 0) (hW : Whole os) : fewN os = ((fewB os).length : Int) := by
  have hs : os.all hasB = true := List.all_eq_true.2 hW
  have hwe : wholeErr os = 0 := by unfold wholeErr; rw [if_pos h0, if_pos hs]
  unfold fewN bestB
  rw [if_neg (by rw [hwe]; decide), if_pos hwe]
theorem fewN_not {os : List Odr} (h0 : ordersErr os = 0) (hW : ¬ Whole os) : fewN os = 100 := by
  have hs : ¬ os.all hasB = true := fun h => hW (List.all_eq_true.1 h)
  unfold fewN wholeErr
  rw [if_pos h0, if_neg hs, if_pos rfl]
theorem fewN_le {os : List Odr} (h0 : ordersErr os = 0) : fewN os ≤ 100 := by
  by_cases hW : Whole os
  · have := few_len os
    have := (orders_ok h0).1
    rw [fewN_whole h0 hW]
    omega
  · rw [fewN_not h0 hW]
    exact Int.le_refl _
theorem fewN_lt {os : List Odr} (h0 : ordersErr os = 0) : fewN os < 100 ↔ Whole os := by
  by_cases hW : Whole os
  · have := few_len os
    have := (orders_ok h0).1
    rw [fewN_whole h0 hW]
    exact ⟨fun _ => hW, fun _ => by omega⟩
  · rw [fewN_not h0 hW]
    exact ⟨fun h => absurd h (by omega), fun h => absurd h hW⟩

/-- An order that more births do. -/
def Wider (o o' : Odr) : Prop := bLo o' ≤ bLo o ∧ bHi o ≤ bHi o' ∧ o'.worth = o.worth
theorem Wider.done {o o' : Odr} (h : Wider o o') {x : Int} (hd : doneB x o = true) : doneB x o' = true := by
  obtain ⟨h1, h2, _⟩ := h
  rw [doneB_iff] at hd ⊢
  omega
theorem Wider.has {o o' : Odr} (h : Wider o o') (hd : hasB o = true) : hasB o' = true := by
  obtain ⟨h1, h2, _⟩ := h
  unfold hasB at *
  rw [decide_eq_true_eq] at *
  omega
/-- A wider Age, a narrower At. -/
def moreO (o : Odr) (b0 b1 b2 b3 : Int) : Odr := ⟨min o.hi (o.lo + b2), max (min o.hi (o.lo + b2)) (o.hi - b3), max 0 (o.young - b0), min 10000 (o.old + b1), o.worth⟩
theorem moreO_ok {o : Odr} {b0 b1 b2 b3 : Int} (h : ordOk o = true) (h0 : 0 ≤ b0) (h1 : 0 ≤ b1) (h2 : 0 ≤ b2) (h3 : 0 ≤ b3) : ordOk (moreO o b0 b1 b2 b3) = true ∧ Wider o (moreO o b0 b1 b2 b3) := by
  rw [ordOk_iff] at h ⊢
  unfold Wider bLo bHi moreO
  dsimp only
  refine ⟨⟨⟨?_, ?_, ?_⟩, ⟨?_, ?_, ?_⟩, ?_, ?_⟩, ?_, ?_, rfl⟩ <;> omega

theorem mem_set {os : List Odr} {k : Nat} (_hk : k < os.length) {o' o : Odr} (h : o ∈ os.set k o') : o = o' ∨ o ∈ os := (List.mem_or_eq_of_mem_set h).symm
theorem ordersErr_set {os : List Odr} {k : Nat} {o' : Odr} (h0 : ordersErr os = 0) (hk : k < os.length) (ho : ordOk o' = true) : ordersErr (os.set k o') = 0 := by
  obtain ⟨h1, h2⟩ := orders_ok h0
  unfold ordersErr
  rw [List.length_set, if_pos h1, if_pos (List.all_eq_true.2 fun o hm => by
    rcases mem_set hk hm with rfl | hm
    · exact ho
    · exact h2 o hm)]
theorem whole_set {os : List Odr} {k : Nat} {o' : Odr} (hW : Whole os) (hk : k < os.length) (hw : Wider os[k] o') : Whole (os.set k o') := fun o hm => by
  rcases mem_set hk hm with rfl | hm
  · exact hw.has (hW _ (List.getElem_mem hk))
  · exact hW o hm
theorem few_set {os : List Odr} {k : Nat} {o' : Odr} (hW : Whole os) (hk : k < os.length) (hw : Wider os[k] o') : (fewB (os.set k o')).length ≤ (fewB os).length :=
  fewB_few (whole_set hW hk hw) (fewB_sorted os hW).1 fun o hm => by
    rcases mem_set hk hm with rfl | hm
    · obtain ⟨x, hx, hd⟩ := fewB_covers os hW os[k] (List.getElem_mem hk)
      exact ⟨x, hx, hw.done hd⟩
    · exact fewB_covers os hW o hm
theorem fewN_set {os : List Odr} {k : Nat} {o' : Odr} (h0 : ordersErr os = 0) (hk : k < os.length) (ho : ordOk o' = true) (hw : Wider os[k] o') : fewN (os.set k o') ≤ fewN os := by
  have h1 := ordersErr_set h0 hk ho
  by_cases hW : Whole os
  · rw [fewN_whole h0 hW, fewN_whole h1 (whole_set hW hk hw)]
    have := few_set hW hk hw
    omega
  · rw [fewN_not h0 hW]
    exact fewN_le h1
theorem worth_set (p : Odr → Bool) {o' : Odr} : ∀ (os : List Odr) (k : Nat) (hk : k < os.length), 0 ≤ os[k].worth → o'.worth = os[k].worth → (p os[k] = true → p o' = true) → worthBy p os ≤ worthBy p (os.set k o')
  | o :: os, 0, _, h0, hw, hp => by
    rw [List.set_cons_zero, worthBy_cons, worthBy_cons]
    simp only [List.getElem_cons_zero] at h0 hw hp
    by_cases h : p o = true
    · rw [if_pos h, if_pos (hp h), hw]
      exact Int.le_refl _
    · rw [if_neg h]
      split <;> omega
  | o :: os, k + 1, hk, h0, hw, hp => by
    rw [List.set_cons_succ, worthBy_cons, worthBy_cons]
    have := worth_set p (o' := o') os k (by simpa using hk) (by simpa using h0) (by simpa using hw) (by simpa using hp)
    omega
theorem most_set {os : List Odr} {k : Nat} {o' : Odr} (h0 : ∀ o, o ∈ os → 0 ≤ o.worth) (hk : k < os.length) (hw : Wider os[k] o') (n : Nat) : (mostOf os n).2 ≤ (mostOf (os.set k o') n).2 := by
  obtain ⟨h1, _, h3, _, _⟩ := most_is h0 n
  have h0' : ∀ o, o ∈ os.set k o' → 0 ≤ o.worth := fun o hm => by
    rcases mem_set hk hm with rfl | hm
    · rw [hw.2.2]; exact h0 _ (List.getElem_mem hk)
    · exact h0 o hm
  obtain ⟨_, _, _, _, h5⟩ := most_is h0' n
  refine Int.le_trans ?_ (h5 (mostOf os n).1 h3)
  rw [h1]
  refine worth_set _ os k hk (h0 _ (List.getElem_mem hk)) hw.2.2 fun h => ?_
  unfold madeB at *
  obtain ⟨x, hx, hd⟩ := List.any_eq_true.1 h
  exact List.any_eq_true.2 ⟨x, hx, hw.done hd⟩

/-- One order more. -/
theorem erase_snoc (os : List Odr) (o : Odr) : (os ++ [o]).eraseIdx os.length = os := by
  rw [List.eraseIdx_append_of_length_le (Nat.le_refl _)]
  simp
theorem few_snoc {os : List Odr} {o : Odr} (h0 : ordersErr os = 0) (hx : ordersErr (os ++ [o]) = 0) : (hasB o = true → fewN os < 100 → fewN (os ++ [o]) = fewN os ∨ fewN (os ++ [o]) = fewN os + 1) ∧ (hasB o = false → fewN (os ++ [o]) = 100) := by
  constructor
  · intro hb hl
    have hW := (fewN_lt h0).1 hl
    have hW2 : Whole (os ++ [o]) := fun q hq => by
      rcases List.mem_append.1 hq with hq | hq
      · exact hW q hq
      · rw [List.mem_singleton.1 hq]; exact hb
    have h1 := few_less_le hW2 os.length
    have h2 := few_less_ge hW2 (k := os.length) (by simp)
    rw [erase_snoc] at h1 h2
    rw [fewN_whole h0 hW, fewN_whole hx hW2]
    omega
  · intro hb
    refine fewN_not hx fun hW => ?_
    have := hW o (by simp)
    rw [hb] at this
    cases this
end
end Go.Proofs.YtmlmnljbegcjcaaGreat

/- BathMore: a row of orders of one's own, of which cells are set. -/
namespace Go.Proofs.YtmlmnljbegcjcaaGreat
section
open Go.RowKit Go.Shelf
attribute [local irreducible] bitCells

/-- The orders that stand at the front of a row. -/
def OrdRow (w : World) (g : Nat) (os : List Odr) : Prop := ∃ cur : Array Value, w.heap[g]? = some (.cells cur 56 (0, 0)) ∧ ∀ (j : Nat) (u : Value), (os.flatMap encO)[j]? = some u → cur[j]? = some u
theorem OrdRow.of_own {w : World} {base g cap n : Nat} {os : List Odr} (h : w.ownsRow base 56 5 (.slice (some ⟨g, 0, none⟩) n cap) n (os.flatMap encO)) : OrdRow w g os := by
  rcases h.2 with ⟨e, _⟩ | ⟨g', cap', cur, e, _, hg, h1, h2, h3, h4⟩
  · cases e
  · cases e
    refine ⟨cur, hg, fun j u hu => ?_⟩
    rw [← h4, List.getElem?_take] at hu
    split at hu
    · simpa using hu
    · cases hu
theorem OrdRow.ext {w w' : World} {g : Nat} {os : List Odr} (h : OrdRow w g os) (e : Ext w w') : OrdRow w' g os := by
  obtain ⟨cur, h1, h2⟩ := h
  exact ⟨cur, row_ext h1 e, h2⟩
theorem OrdRow.lt {w : World} {g : Nat} {os : List Odr} (h : OrdRow w g os) : g < w.heap.size := by
  obtain ⟨cur, h1, _⟩ := h
  exact (Array.getElem?_eq_some_iff.1 h1).1
theorem OrdRow.frozen {w : World} {g : Nat} {os : List Odr} (h : OrdRow w g os) (j : Nat) : w.frozen? ⟨g, j, none⟩ = false := by
  obtain ⟨cur, h1, _⟩ := h
  simp [World.frozen?, h1]
theorem OrdRow.cell {w : World} {g : Nat} {os : List Odr} (h : OrdRow w g os) {k : Nat} (hk : k < os.length) {i : Nat} {v : Value} (hv : (encO os[k])[i]? = some v) : w.cell? ⟨g, k * 5 + i, none⟩ = some v := by
  obtain ⟨cur, h1, h2⟩ := h
  rw [cell_of_row _ _ _ _ _ _ h1]
  exact h2 _ _ (flat_at2 encO 5 (fun _ => rfl) os k os[k] i v (List.getElem?_eq_getElem hk) hv)
theorem OrdRow.set {w : World} {g : Nat} {os : List Odr} (h : OrdRow w g os) {k : Nat} (hk : k < os.length) {i : Nat} (hi : i < 5) {v : Value} {o' : Odr} (ho : encO o' = (encO os[k]).set i v) : OrdRow (w.setCell ⟨g, k * 5 + i, none⟩ v) g (os.set k o') := by
  obtain ⟨cur, h1, h2⟩ := h
  refine ⟨cur.setIfInBounds (k * 5 + i) v, by simp [World.setCell, Array.getElem?_modify, h1], fun j u hu => ?_⟩
  rw [flatO_get, Option.bind_eq_some_iff] at hu
  obtain ⟨x, hx, hu⟩ := hu
  have hold : ∀ (y : Odr) (z : Value), os[j / 5]? = some y → (encO y)[j % 5]? = some z → cur[j]? = some z := fun y z hy hz => by
    refine h2 j z ?_
    rw [flatO_get, hy]
    exact hz
  have hm : j % 5 < 5 := Nat.mod_lt _ (by decide)
  rw [List.getElem?_set] at hx
  by_cases e : k = j / 5
  · rw [if_pos e, if_pos hk] at hx
    cases hx
    rw [ho, List.getElem?_set] at hu
    have hy : os[j / 5]? = some os[k] := by rw [← e]; exact List.getElem?_eq_getElem hk
    by_cases e2 : i = j % 5
    · rw [if_pos e2, if_pos (show i < (encO os[k]).length from hi)] at hu
      cases hu
      have hlt : j < cur.size := by
        have hz := hold _ ((encO os[k])[j % 5]'hm) hy (List.getElem?_eq_getElem _)
        exact (Array.getElem?_eq_some_iff.1 hz).1
      rw [show k * 5 + i = j from by omega, Array.getElem?_setIfInBounds_self_of_lt hlt]
    · rw [if_neg e2] at hu
      rw [Array.getElem?_setIfInBounds_ne (by omega)]
      exact hold _ _ hy hu
  · rw [if_neg e] at hx
    rw [Array.getElem?_setIfInBounds_ne (by omega)]
    exact hold _ _ hx hu
theorem OrdRow.orders {w : World} {g c : Nat} {os : List Odr} (h : OrdRow w g os) (hl : os.length ≤ 9223372036854775807) (hc : os.length ≤ c) : IsOrders w (some ⟨g, 0, none⟩) os.length c os := by
  refine ⟨rfl, hl, hc, .inr ⟨g, 0, rfl, h.lt, fun j x hx i v hv => ?_⟩⟩
  obtain ⟨hj, rfl⟩ := List.getElem?_eq_some_iff.1 hx
  rw [Nat.zero_add]
  exact h.cell hj hv
theorem wpList_copyO {ops : Array Oper} {rest : List Oper} {o : Oper} {a : Act} {w : World} {Q : Exit → Act → World → Prop} (hgd : o.guard = none) (ts tx : Tmp) (ho : o.op = .call { callee := .builtin .append, args := #[.tmp ts, .tmp tx], argTypes := #[22, 22] })
    (g b off n c : Nat) (os : List Odr) (hs : a.eval (.tmp ts) = .slice (some ⟨g, 0, none⟩) 0 0) (hx : a.eval (.tmp tx) = .slice (some ⟨b, off, none⟩) n c) (hn : n = os.length) (hn0 : 0 < n) (hn9 : n ≤ 5000)
    (hq : ∀ j u, (os.flatMap encO)[j]? = some u → w.cell? ((⟨b, off, none⟩ : Addr).add j) = some u)
    (K : ∀ g' cap' w', w'.ownsRow w.heap.size 56 5 (.slice (some ⟨g', 0, none⟩) n cap') n (os.flatMap encO) → w.heap.size ≤ g' → Below w.heap.size w w' → wpList Tryz.prog ops Q rest (a.put o.dst (.slice (some ⟨g', 0, none⟩) n cap')) w') : wpList Tryz.prog ops Q (o :: rest) a w := by
  obtain ⟨i0, hi, hz0, hz1, hz2⟩ := info_parts info56c
  obtain ⟨v', w', hrun, r1, r2⟩ := run_append_arg_grows (P := Tryz.prog) w 22 o.type 56 i0 (.agg #[.int .i64 0, .int .i64 0, .int .i64 0, .int .i64 0, .int .i64 0]) 5 40 u22c hi hz0 hz1 hz2 rfl (by decide) ⟨g, 0, none⟩ 0 0 [] rfl (fun j u hu => by simp at hu) ⟨b, off, none⟩ n c (os.flatMap encO) (by rw [flatO_len, ← hn]) hq (by omega) (by unfold maxLen; omega) (by omega)
  rw [Nat.zero_add, List.nil_append] at r1
  have r1' := r1
  obtain ⟨g1, cap, rfl, hg1, _⟩ := r1'.form (by omega)
  refine wpList_more (v := .slice (some ⟨g1, 0, none⟩) n cap) (w' := w') hgd (by simp [execOp, ho, resolve, invoke, builtin, hs, hx, hrun, Result.andThen]) ?_
  exact K g1 cap w' r1 hg1 ((Below.refl w.heap.size w).grown r2 (Nat.le_refl _) (fun k e => by cases e))
/-- The four steps of BathMore: Age.Lo, Age.Hi, At.Lo, At.Hi. -/
theorem step_ages (o : Odr) (y z : Int) : encO ⟨o.lo, o.hi, y, z, o.worth⟩ = ((encO o).set 2 (.int .i64 y)).set 3 (.int .i64 z) := rfl
theorem step_young (o : Odr) (y : Int) : encO ⟨o.lo, o.hi, y, o.old, o.worth⟩ = (encO o).set 2 (.int .i64 y) := rfl
theorem step_old (o : Odr) (y : Int) : encO ⟨o.lo, o.hi, o.young, y, o.worth⟩ = (encO o).set 3 (.int .i64 y) := rfl
theorem step_lo (o : Odr) (y : Int) : encO ⟨y, o.hi, o.young, o.old, o.worth⟩ = (encO o).set 0 (.int .i64 y) := rfl
theorem step_hi (o : Odr) (y : Int) : encO ⟨o.lo, y, o.young, o.old, o.worth⟩ = (encO o).set 1 (.int .i64 y) := rfl
end
end Go.Proofs.YtmlmnljbegcjcaaGreat

/- BathMore: its drawn regions 14 to 16. -/
namespace Go.Proofs.YtmlmnljbegcjcaaGreat
section
open Go.RowKit Go.Shelf
attribute [local irreducible] bitCells

/-- The slots of region 14 of function 11. -/
def mm14D (i : Nat) : Tmp := if i = 0 then 113 else if i = 1 then 114 else if i = 2 then 115 else if i = 3 then 116 else if i = 4 then 117 else if i = 5 then 118 else if i = 6 then 119 else if i = 7 then 120 else if i = 8 then 121 else if i = 9 then 122 else if i = 10 then 123 else if i = 11 then 124 else if i = 12 then 125 else if i = 13 then 126 else if i = 14 then 127 else if i = 15 then 128 else if i = 16 then 129 else if i = 17 then 130 else if i = 18 then 131 else if i = 19 then 132 else if i = 20 then 133 else if i = 21 then 134 else if i = 22 then 135 else 136
/-- What each operation yields. -/
def mm14S (gy kk p8 t0 t1 : Nat) (ya ol : Int) (ix : Nat) (v : Value) (_W : World) : Prop :=
  match ix with
  | 0 => v = .pointer (some ⟨gy, kk * 5, none⟩)
  | 1 => v = .pointer (some ⟨gy, kk * 5, none⟩)
  | 2 => v = .pointer (some ⟨gy, kk * 5, none⟩)
  | 3 => v = .pointer (some ⟨gy, kk * 5 + 2, none⟩)
  | 4 => v = .pointer (some ⟨gy, kk * 5 + 2, none⟩)
  | 5 => v = .int .i64 (ya)
  | 6 => v = .pointer (some ⟨p8, 0, none⟩)
  | 7 => v = .int .u16 (t0 : Int)
  | 8 => v = .int .i64 ((t0 : Int))
  | 9 => v = .int .i64 (ya - (t0 : Int))
  | 10 => v = .int .i64 (max 0 (ya - (t0 : Int)))
  | 11 => v = .pointer (some ⟨gy, kk * 5, none⟩)
  | 12 => v = .pointer (some ⟨gy, kk * 5, none⟩)
  | 13 => v = .pointer (some ⟨gy, kk * 5 + 2, none⟩)
  | 14 => v = .pointer (some ⟨gy, kk * 5 + 2 + 1, none⟩)
  | 15 => v = .int .i64 (ol)
  | 16 => v = .pointer (some ⟨p8, 1, none⟩)
  | 17 => v = .int .u16 (t1 : Int)
  | 18 => v = .int .i64 ((t1 : Int))
  | 19 => v = .int .i64 (ol + (t1 : Int))
  | 20 => v = .int .i64 (min 10000 (ol + (t1 : Int)))
  | 21 => v = .agg #[.int .i64 (max 0 (ya - (t0 : Int))), .int .i64 (min 10000 (ol + (t1 : Int)))]
  | 22 => v = .pointer (some ⟨gy, kk * 5, none⟩)
  | 23 => v = .pointer (some ⟨gy, kk * 5 + 2, none⟩)
  | _ => True
noncomputable def mm14Reg : Array Oper := (Tryz.f11.body.bind (regionOf · 14)).getD #[]
theorem mm14S_ext {gy kk p8 t0 t1 : Nat} {ya ol : Int} : ∀ (i : Nat) (v : Value) (W W' : World), mm14S gy kk p8 t0 t1 ya ol i v W → Below W.heap.size W W' → mm14S gy kk p8 t0 t1 ya ol i v W' := by
  intro i v W W' h e
  match i with
  | 0 => exact h
  | 1 => exact h
  | 2 => exact h
  | 3 => exact h
  | 4 => exact h
  | 5 => exact h
  | 6 => exact h
  | 7 => exact h
  | 8 => exact h
  | 9 => exact h
  | 10 => exact h
  | 11 => exact h
  | 12 => exact h
  | 13 => exact h
  | 14 => exact h
  | 15 => exact h
  | 16 => exact h
  | 17 => exact h
  | 18 => exact h
  | 19 => exact h
  | 20 => exact h
  | 21 => exact h
  | 22 => exact h
  | 23 => exact h
  | k + 24 => exact trivial
def mm14Ok (gy kk p8 t0 t1 : Nat) (ya ol : Int) (Q : Exit → Act → World → Prop) (a : Act) (W : World) (ix : Nat) (o : Oper) : Prop :=
  (∀ j b, o.guard = some (j, b) → a.eval (.tmp (mm14D j)) = .bool b) ∧ o.wp Tryz.prog a W (fun a'' W' => ∃ v, a'' = a.put o.dst v ∧ mm14S gy kk p8 t0 t1 ya ol ix v W' ∧ Below W.heap.size W W') Q
section
variable {gy kk p8 t0 t1 : Nat} {ya ol : Int} {Q : Exit → Act → World → Prop} {a : Act} {V W : World} {o : Oper}
set_option maxHeartbeats 1000000 in
theorem mm14_op0 (o19 : a.eval (.tmp 19) = .pointer (some ⟨gy, kk * 5, none⟩)) (ho : mm14Reg[0]? = some o) : mm14Ok gy kk p8 t0 t1 ya ol Q a W 0 o := by
  have hop := op_at ho (·.op) (x := Op.move (Operand.tmp 19)) (by kernel_rfl)
  have hgd := op_at ho (·.guard) (x := none) (by kernel_rfl)
  refine ⟨fun j b h => (by rw [hgd] at h; cases h), ?_⟩
  exact specs_value (R := fun v W => mm14S gy kk p8 t0 t1 ya ol 0 v W) (v := .pointer (some ⟨gy, kk * 5, none⟩)) (by simp [execOp, hop, go_sem, ev o19]) rfl (Ext.refl W)
set_option maxHeartbeats 1000000 in
theorem mm14_op1 (o19 : a.eval (.tmp 19) = .pointer (some ⟨gy, kk * 5, none⟩)) (ho : mm14Reg[1]? = some o) : mm14Ok gy kk p8 t0 t1 ya ol Q a W 1 o := by
  have hop := op_at ho (·.op) (x := Op.move (Operand.tmp 19)) (by kernel_rfl)
  have hgd := op_at ho (·.guard) (x := none) (by kernel_rfl)
  refine ⟨fun j b h => (by rw [hgd] at h; cases h), ?_⟩
  exact specs_value (R := fun v W => mm14S gy kk p8 t0 t1 ya ol 1 v W) (v := .pointer (some ⟨gy, kk * 5, none⟩)) (by simp [execOp, hop, go_sem, ev o19]) rfl (Ext.refl W)
set_option maxHeartbeats 1000000 in
theorem mm14_op2 (haft : ∀ j, (o.after.any fun e => decide (e.on = j) && Region.binds .any e) = true → mm14S gy kk p8 t0 t1 ya ol j (a.eval (.tmp (mm14D j))) W) (ho : mm14Reg[2]? = some o) : mm14Ok gy kk p8 t0 t1 ya ol Q a W 2 o := by
  have hop := op_at ho (·.op) (x := Op.nilCheck (Operand.tmp 114)) (by kernel_rfl)
  have hgd := op_at ho (·.guard) (x := none) (by kernel_rfl)
  have e1 : a.eval (.tmp 114) = .pointer (some ⟨gy, kk * 5, none⟩) := haft 1 (op_at ho (fun o => o.after.any fun e => decide (e.on = 1) && Region.binds .any e) (x := true) (by kernel_rfl))
  refine ⟨fun j b h => (by rw [hgd] at h; cases h), ?_⟩
  exact specs_value (R := fun v W => mm14S gy kk p8 t0 t1 ya ol 2 v W) (v := .pointer (some ⟨gy, kk * 5, none⟩)) (by simp [execOp, hop, go_sem, ev e1]) rfl (Ext.refl W)
set_option maxHeartbeats 1000000 in
theorem mm14_op3 (haft : ∀ j, (o.after.any fun e => decide (e.on = j) && Region.binds .any e) = true → mm14S gy kk p8 t0 t1 ya ol j (a.eval (.tmp (mm14D j))) W) (ho : mm14Reg[3]? = some o) : mm14Ok gy kk p8 t0 t1 ya ol Q a W 3 o := by
  have hop := op_at ho (·.op) (x := Op.fieldAddr 56 (Operand.tmp 115) 1) (by kernel_rfl)
  have hgd := op_at ho (·.guard) (x := none) (by kernel_rfl)
  have e2 : a.eval (.tmp 115) = .pointer (some ⟨gy, kk * 5, none⟩) := haft 2 (op_at ho (fun o => o.after.any fun e => decide (e.on = 2) && Region.binds .any e) (x := true) (by kernel_rfl))
  refine ⟨fun j b h => (by rw [hgd] at h; cases h), ?_⟩
  exact specs_value (R := fun v W => mm14S gy kk p8 t0 t1 ya ol 3 v W) (v := .pointer (some ⟨gy, kk * 5 + 2, none⟩)) (by simp [execOp, hop, go_sem, ev e2]) rfl (Ext.refl W)
set_option maxHeartbeats 1000000 in
theorem mm14_op4 (haft : ∀ j, (o.after.any fun e => decide (e.on = j) && Region.binds .any e) = true → mm14S gy kk p8 t0 t1 ya ol j (a.eval (.tmp (mm14D j))) W) (ho : mm14Reg[4]? = some o) : mm14Ok gy kk p8 t0 t1 ya ol Q a W 4 o := by
  have hop := op_at ho (·.op) (x := Op.fieldAddr 26 (Operand.tmp 116) 0) (by kernel_rfl)
  have hgd := op_at ho (·.guard) (x := none) (by kernel_rfl)
  have e3 : a.eval (.tmp 116) = .pointer (some ⟨gy, kk * 5 + 2, none⟩) := haft 3 (op_at ho (fun o => o.after.any fun e => decide (e.on = 3) && Region.binds .any e) (x := true) (by kernel_rfl))
  refine ⟨fun j b h => (by rw [hgd] at h; cases h), ?_⟩
  exact specs_value (R := fun v W => mm14S gy kk p8 t0 t1 ya ol 4 v W) (v := .pointer (some ⟨gy, kk * 5 + 2, none⟩)) (by simp [execOp, hop, go_sem, ev e3]) rfl (Ext.refl W)
set_option maxHeartbeats 1000000 in
theorem mm14_op5 (d2 : ∀ W, Ext V W → W.cell? ⟨gy, kk * 5 + 2, none⟩ = some (.int .i64 ya)) (hB : Ext V W) (haft : ∀ j, (o.after.any fun e => decide (e.on = j) && Region.binds .any e) = true → mm14S gy kk p8 t0 t1 ya ol j (a.eval (.tmp (mm14D j))) W) (ho : mm14Reg[5]? = some o) : mm14Ok gy kk p8 t0 t1 ya ol Q a W 5 o := by
  have hop := op_at ho (·.op) (x := Op.load 2 (Operand.tmp 117)) (by kernel_rfl)
  have hgd := op_at ho (·.guard) (x := none) (by kernel_rfl)
  have e4 : a.eval (.tmp 117) = .pointer (some ⟨gy, kk * 5 + 2, none⟩) := haft 4 (op_at ho (fun o => o.after.any fun e => decide (e.on = 4) && Region.binds .any e) (x := true) (by kernel_rfl))
  refine ⟨fun j b h => (by rw [hgd] at h; cases h), ?_⟩
  have d2' := d2 W hB
  exact specs_value (R := fun v W => mm14S gy kk p8 t0 t1 ya ol 5 v W) (v := .int .i64 (ya)) (by simp [execOp, hop, go_sem, ev e4, d2']) rfl (Ext.refl W)
set_option maxHeartbeats 1000000 in
theorem mm14_op6 (o8 : a.eval (.tmp 8) = .pointer (some ⟨p8, 0, none⟩)) (ho : mm14Reg[6]? = some o) : mm14Ok gy kk p8 t0 t1 ya ol Q a W 6 o := by
  have hop := op_at ho (·.op) (x := Op.indexAddr 66 (Operand.tmp 8) (Operand.const (Value.int IntKind.i64 0))) (by kernel_rfl)
  have hgd := op_at ho (·.guard) (x := none) (by kernel_rfl)
  refine ⟨fun j b h => (by rw [hgd] at h; cases h), ?_⟩
  exact specs_value (R := fun v W => mm14S gy kk p8 t0 t1 ya ol 6 v W) (v := .pointer (some ⟨p8, 0, none⟩)) (by simp [execOp, hop, go_sem, ev o8]) rfl (Ext.refl W)
set_option maxHeartbeats 1000000 in
theorem mm14_op7 (b0 : ∀ W, Ext V W → W.cell? ⟨p8, 0, none⟩ = some (.int .u16 (t0 : Int))) (hB : Ext V W) (haft : ∀ j, (o.after.any fun e => decide (e.on = j) && Region.binds .any e) = true → mm14S gy kk p8 t0 t1 ya ol j (a.eval (.tmp (mm14D j))) W) (ho : mm14Reg[7]? = some o) : mm14Ok gy kk p8 t0 t1 ya ol Q a W 7 o := by
  have hop := op_at ho (·.op) (x := Op.load 54 (Operand.tmp 119)) (by kernel_rfl)
  have hgd := op_at ho (·.guard) (x := none) (by kernel_rfl)
  have e6 : a.eval (.tmp 119) = .pointer (some ⟨p8, 0, none⟩) := haft 6 (op_at ho (fun o => o.after.any fun e => decide (e.on = 6) && Region.binds .any e) (x := true) (by kernel_rfl))
  refine ⟨fun j b h => (by rw [hgd] at h; cases h), ?_⟩
  have b0' := b0 W hB
  exact specs_value (R := fun v W => mm14S gy kk p8 t0 t1 ya ol 7 v W) (v := .int .u16 (t0 : Int)) (by simp [execOp, hop, go_sem, ev e6, b0']) rfl (Ext.refl W)
set_option maxHeartbeats 1000000 in
theorem mm14_op8 (hc0 : IntKind.i64.wrap (t0 : Int) = (t0 : Int)) (haft : ∀ j, (o.after.any fun e => decide (e.on = j) && Region.binds .any e) = true → mm14S gy kk p8 t0 t1 ya ol j (a.eval (.tmp (mm14D j))) W) (ho : mm14Reg[8]? = some o) : mm14Ok gy kk p8 t0 t1 ya ol Q a W 8 o := by
  have hop := op_at ho (·.op) (x := Op.convert 54 2 (Operand.tmp 120)) (by kernel_rfl)
  have hgd := op_at ho (·.guard) (x := none) (by kernel_rfl)
  have e7 : a.eval (.tmp 120) = .int .u16 (t0 : Int) := haft 7 (op_at ho (fun o => o.after.any fun e => decide (e.on = 7) && Region.binds .any e) (x := true) (by kernel_rfl))
  refine ⟨fun j b h => (by rw [hgd] at h; cases h), ?_⟩
  exact specs_value (R := fun v W => mm14S gy kk p8 t0 t1 ya ol 8 v W) (v := .int .i64 ((t0 : Int))) (by simp [execOp, hop, go_sem, ev e7, hc0]) rfl (Ext.refl W)
set_option maxHeartbeats 1000000 in
theorem mm14_op9 (hw1 : IntKind.i64.wrap (ya - (t0 : Int)) = ya - (t0 : Int)) (haft : ∀ j, (o.after.any fun e => decide (e.on = j) && Region.binds .any e) = true → mm14S gy kk p8 t0 t1 ya ol j (a.eval (.tmp (mm14D j))) W) (ho : mm14Reg[9]? = some o) : mm14Ok gy kk p8 t0 t1 ya ol Q a W 9 o := by
  have hop := op_at ho (·.op) (x := Op.binOp BinOp.sub 2 (Operand.tmp 118) (Operand.tmp 121) 2) (by kernel_rfl)
  have hgd := op_at ho (·.guard) (x := none) (by kernel_rfl)
  have e5 : a.eval (.tmp 118) = .int .i64 (ya) := haft 5 (op_at ho (fun o => o.after.any fun e => decide (e.on = 5) && Region.binds .any e) (x := true) (by kernel_rfl))
  have e8 : a.eval (.tmp 121) = .int .i64 ((t0 : Int)) := haft 8 (op_at ho (fun o => o.after.any fun e => decide (e.on = 8) && Region.binds .any e) (x := true) (by kernel_rfl))
  refine ⟨fun j b h => (by rw [hgd] at h; cases h), ?_⟩
  exact specs_value (R := fun v W => mm14S gy kk p8 t0 t1 ya ol 9 v W) (v := .int .i64 (ya - (t0 : Int))) (by simp [execOp, hop, go_sem, ev e5, ev e8, hw1]) rfl (Ext.refl W)
set_option maxHeartbeats 1000000 in
theorem mm14_op10 (haft : ∀ j, (o.after.any fun e => decide (e.on = j) && Region.binds .any e) = true → mm14S gy kk p8 t0 t1 ya ol j (a.eval (.tmp (mm14D j))) W) (ho : mm14Reg[10]? = some o) : mm14Ok gy kk p8 t0 t1 ya ol Q a W 10 o := by
  have hop := op_at ho (·.op) (x := Op.call { callee := Callee.builtin Builtin.max, args := #[Operand.const (Value.int IntKind.i64 0), Operand.tmp 122], argTypes := #[2, 2] }) (by kernel_rfl)
  have hgd := op_at ho (·.guard) (x := none) (by kernel_rfl)
  have e9 : a.eval (.tmp 122) = .int .i64 (ya - (t0 : Int)) := haft 9 (op_at ho (fun o => o.after.any fun e => decide (e.on = 9) && Region.binds .any e) (x := true) (by kernel_rfl))
  refine ⟨fun j b h => (by rw [hgd] at h; cases h), ?_⟩
  exact specs_value (R := fun v W => mm14S gy kk p8 t0 t1 ya ol 10 v W) (v := .int .i64 (max 0 (ya - (t0 : Int)))) (by simp [execOp, hop, go_sem, ev e9]) rfl (Ext.refl W)
set_option maxHeartbeats 1000000 in
theorem mm14_op11 (o19 : a.eval (.tmp 19) = .pointer (some ⟨gy, kk * 5, none⟩)) (ho : mm14Reg[11]? = some o) : mm14Ok gy kk p8 t0 t1 ya ol Q a W 11 o := by
  have hop := op_at ho (·.op) (x := Op.move (Operand.tmp 19)) (by kernel_rfl)
  have hgd := op_at ho (·.guard) (x := none) (by kernel_rfl)
  refine ⟨fun j b h => (by rw [hgd] at h; cases h), ?_⟩
  exact specs_value (R := fun v W => mm14S gy kk p8 t0 t1 ya ol 11 v W) (v := .pointer (some ⟨gy, kk * 5, none⟩)) (by simp [execOp, hop, go_sem, ev o19]) rfl (Ext.refl W)
set_option maxHeartbeats 1000000 in
theorem mm14_op12 (haft : ∀ j, (o.after.any fun e => decide (e.on = j) && Region.binds .any e) = true → mm14S gy kk p8 t0 t1 ya ol j (a.eval (.tmp (mm14D j))) W) (ho : mm14Reg[12]? = some o) : mm14Ok gy kk p8 t0 t1 ya ol Q a W 12 o := by
  have hop := op_at ho (·.op) (x := Op.nilCheck (Operand.tmp 124)) (by kernel_rfl)
  have hgd := op_at ho (·.guard) (x := none) (by kernel_rfl)
  have e11 : a.eval (.tmp 124) = .pointer (some ⟨gy, kk * 5, none⟩) := haft 11 (op_at ho (fun o => o.after.any fun e => decide (e.on = 11) && Region.binds .any e) (x := true) (by kernel_rfl))
  refine ⟨fun j b h => (by rw [hgd] at h; cases h), ?_⟩
  exact specs_value (R := fun v W => mm14S gy kk p8 t0 t1 ya ol 12 v W) (v := .pointer (some ⟨gy, kk * 5, none⟩)) (by simp [execOp, hop, go_sem, ev e11]) rfl (Ext.refl W)
set_option maxHeartbeats 1000000 in
theorem mm14_op13 (haft : ∀ j, (o.after.any fun e => decide (e.on = j) && Region.binds .any e) = true → mm14S gy kk p8 t0 t1 ya ol j (a.eval (.tmp (mm14D j))) W) (ho : mm14Reg[13]? = some o) : mm14Ok gy kk p8 t0 t1 ya ol Q a W 13 o := by
  have hop := op_at ho (·.op) (x := Op.fieldAddr 56 (Operand.tmp 125) 1) (by kernel_rfl)
  have hgd := op_at ho (·.guard) (x := none) (by kernel_rfl)
  have e12 : a.eval (.tmp 125) = .pointer (some ⟨gy, kk * 5, none⟩) := haft 12 (op_at ho (fun o => o.after.any fun e => decide (e.on = 12) && Region.binds .any e) (x := true) (by kernel_rfl))
  refine ⟨fun j b h => (by rw [hgd] at h; cases h), ?_⟩
  exact specs_value (R := fun v W => mm14S gy kk p8 t0 t1 ya ol 13 v W) (v := .pointer (some ⟨gy, kk * 5 + 2, none⟩)) (by simp [execOp, hop, go_sem, ev e12]) rfl (Ext.refl W)
set_option maxHeartbeats 1000000 in
theorem mm14_op14 (haft : ∀ j, (o.after.any fun e => decide (e.on = j) && Region.binds .any e) = true → mm14S gy kk p8 t0 t1 ya ol j (a.eval (.tmp (mm14D j))) W) (ho : mm14Reg[14]? = some o) : mm14Ok gy kk p8 t0 t1 ya ol Q a W 14 o := by
  have hop := op_at ho (·.op) (x := Op.fieldAddr 26 (Operand.tmp 126) 1) (by kernel_rfl)
  have hgd := op_at ho (·.guard) (x := none) (by kernel_rfl)
  have e13 : a.eval (.tmp 126) = .pointer (some ⟨gy, kk * 5 + 2, none⟩) := haft 13 (op_at ho (fun o => o.after.any fun e => decide (e.on = 13) && Region.binds .any e) (x := true) (by kernel_rfl))
  refine ⟨fun j b h => (by rw [hgd] at h; cases h), ?_⟩
  exact specs_value (R := fun v W => mm14S gy kk p8 t0 t1 ya ol 14 v W) (v := .pointer (some ⟨gy, kk * 5 + 2 + 1, none⟩)) (by simp [execOp, hop, go_sem, ev e13]) rfl (Ext.refl W)
set_option maxHeartbeats 1000000 in
theorem mm14_op15 (d3 : ∀ W, Ext V W → W.cell? ⟨gy, kk * 5 + 2 + 1, none⟩ = some (.int .i64 ol)) (hB : Ext V W) (haft : ∀ j, (o.after.any fun e => decide (e.on = j) && Region.binds .any e) = true → mm14S gy kk p8 t0 t1 ya ol j (a.eval (.tmp (mm14D j))) W) (ho : mm14Reg[15]? = some o) : mm14Ok gy kk p8 t0 t1 ya ol Q a W 15 o := by
  have hop := op_at ho (·.op) (x := Op.load 2 (Operand.tmp 127)) (by kernel_rfl)
  have hgd := op_at ho (·.guard) (x := none) (by kernel_rfl)
  have e14 : a.eval (.tmp 127) = .pointer (some ⟨gy, kk * 5 + 2 + 1, none⟩) := haft 14 (op_at ho (fun o => o.after.any fun e => decide (e.on = 14) && Region.binds .any e) (x := true) (by kernel_rfl))
  refine ⟨fun j b h => (by rw [hgd] at h; cases h), ?_⟩
  have d3' := d3 W hB
  exact specs_value (R := fun v W => mm14S gy kk p8 t0 t1 ya ol 15 v W) (v := .int .i64 (ol)) (by simp [execOp, hop, go_sem, ev e14, d3']) rfl (Ext.refl W)
set_option maxHeartbeats 1000000 in
theorem mm14_op16 (o8 : a.eval (.tmp 8) = .pointer (some ⟨p8, 0, none⟩)) (ho : mm14Reg[16]? = some o) : mm14Ok gy kk p8 t0 t1 ya ol Q a W 16 o := by
  have hop := op_at ho (·.op) (x := Op.indexAddr 66 (Operand.tmp 8) (Operand.const (Value.int IntKind.i64 1))) (by kernel_rfl)
  have hgd := op_at ho (·.guard) (x := none) (by kernel_rfl)
  refine ⟨fun j b h => (by rw [hgd] at h; cases h), ?_⟩
  exact specs_value (R := fun v W => mm14S gy kk p8 t0 t1 ya ol 16 v W) (v := .pointer (some ⟨p8, 1, none⟩)) (by simp [execOp, hop, go_sem, ev o8]) rfl (Ext.refl W)
set_option maxHeartbeats 1000000 in
theorem mm14_op17 (b1 : ∀ W, Ext V W → W.cell? ⟨p8, 1, none⟩ = some (.int .u16 (t1 : Int))) (hB : Ext V W) (haft : ∀ j, (o.after.any fun e => decide (e.on = j) && Region.binds .any e) = true → mm14S gy kk p8 t0 t1 ya ol j (a.eval (.tmp (mm14D j))) W) (ho : mm14Reg[17]? = some o) : mm14Ok gy kk p8 t0 t1 ya ol Q a W 17 o := by
  have hop := op_at ho (·.op) (x := Op.load 54 (Operand.tmp 129)) (by kernel_rfl)
  have hgd := op_at ho (·.guard) (x := none) (by kernel_rfl)
  have e16 : a.eval (.tmp 129) = .pointer (some ⟨p8, 1, none⟩) := haft 16 (op_at ho (fun o => o.after.any fun e => decide (e.on = 16) && Region.binds .any e) (x := true) (by kernel_rfl))
  refine ⟨fun j b h => (by rw [hgd] at h; cases h), ?_⟩
  have b1' := b1 W hB
  exact specs_value (R := fun v W => mm14S gy kk p8 t0 t1 ya ol 17 v W) (v := .int .u16 (t1 : Int)) (by simp [execOp, hop, go_sem, ev e16, b1']) rfl (Ext.refl W)
set_option maxHeartbeats 1000000 in
theorem mm14_op18 (hc1 : IntKind.i64.wrap (t1 : Int) = (t1 : Int)) (haft : ∀ j, (o.after.any fun e => decide (e.on = j) && Region.binds .any e) = true → mm14S gy kk p8 t0 t1 ya ol j (a.eval (.tmp (mm14D j))) W) (ho : mm14Reg[18]? = some o) : mm14Ok gy kk p8 t0 t1 ya ol Q a W 18 o := by
  have hop := op_at ho (·.op) (x := Op.convert 54 2 (Operand.tmp 130)) (by kernel_rfl)
  have hgd := op_at ho (·.guard) (x := none) (by kernel_rfl)
  have e17 : a.eval (.tmp 130) = .int .u16 (t1 : Int) := haft 17 (op_at ho (fun o => o.after.any fun e => decide (e.on = 17) && Region.binds .any e) (x := true) (by kernel_rfl))
  refine ⟨fun j b h => (by rw [hgd] at h; cases h), ?_⟩
  exact specs_value (R := fun v W => mm14S gy kk p8 t0 t1 ya ol 18 v W) (v := .int .i64 ((t1 : Int))) (by simp [execOp, hop, go_sem, ev e17, hc1]) rfl (Ext.refl W)
set_option maxHeartbeats 1000000 in
theorem mm14_op19 (hw2 : IntKind.i64.wrap (ol + (t1 : Int)) = ol + (t1 : Int)) (haft : ∀ j, (o.after.any fun e => decide (e.on = j) && Region.binds .any e) = true → mm14S gy kk p8 t0 t1 ya ol j (a.eval (.tmp (mm14D j))) W) (ho : mm14Reg[19]? = some o) : mm14Ok gy kk p8 t0 t1 ya ol Q a W 19 o := by
  have hop := op_at ho (·.op) (x := Op.binOp BinOp.add 2 (Operand.tmp 128) (Operand.tmp 131) 2) (by kernel_rfl)
  have hgd := op_at ho (·.guard) (x := none) (by kernel_rfl)
  have e15 : a.eval (.tmp 128) = .int .i64 (ol) := haft 15 (op_at ho (fun o => o.after.any fun e => decide (e.on = 15) && Region.binds .any e) (x := true) (by kernel_rfl))
  have e18 : a.eval (.tmp 131) = .int .i64 ((t1 : Int)) := haft 18 (op_at ho (fun o => o.after.any fun e => decide (e.on = 18) && Region.binds .any e) (x := true) (by kernel_rfl))
  refine ⟨fun j b h => (by rw [hgd] at h; cases h), ?_⟩
  exact specs_value (R := fun v W => mm14S gy kk p8 t0 t1 ya ol 19 v W) (v := .int .i64 (ol + (t1 : Int))) (by simp [execOp, hop, go_sem, ev e15, ev e18, hw2]) rfl (Ext.refl W)
set_option maxHeartbeats 1000000 in
theorem mm14_op20 (haft : ∀ j, (o.after.any fun e => decide (e.on = j) && Region.binds .any e) = true → mm14S gy kk p8 t0 t1 ya ol j (a.eval (.tmp (mm14D j))) W) (ho : mm14Reg[20]? = some o) : mm14Ok gy kk p8 t0 t1 ya ol Q a W 20 o := by
  have hop := op_at ho (·.op) (x := Op.call { callee := Callee.builtin Builtin.min, args := #[Operand.const (Value.int IntKind.i64 10000), Operand.tmp 132], argTypes := #[2, 2] }) (by kernel_rfl)
  have hgd := op_at ho (·.guard) (x := none) (by kernel_rfl)
  have e19 : a.eval (.tmp 132) = .int .i64 (ol + (t1 : Int)) := haft 19 (op_at ho (fun o => o.after.any fun e => decide (e.on = 19) && Region.binds .any e) (x := true) (by kernel_rfl))
  refine ⟨fun j b h => (by rw [hgd] at h; cases h), ?_⟩
  exact specs_value (R := fun v W => mm14S gy kk p8 t0 t1 ya ol 20 v W) (v := .int .i64 (min 10000 (ol + (t1 : Int)))) (by simp [execOp, hop, go_sem, ev e19]) rfl (Ext.refl W)
set_option maxHeartbeats 1000000 in
theorem mm14_op21 (haft : ∀ j, (o.after.any fun e => decide (e.on = j) && Region.binds .any e) = true → mm14S gy kk p8 t0 t1 ya ol j (a.eval (.tmp (mm14D j))) W) (ho : mm14Reg[21]? = some o) : mm14Ok gy kk p8 t0 t1 ya ol Q a W 21 o := by
  have hop := op_at ho (·.op) (x := Op.call { callee := Callee.value (Operand.func 48), args := #[Operand.tmp 123, Operand.tmp 133], argTypes := #[2, 2] }) (by kernel_rfl)
  have hgd := op_at ho (·.guard) (x := none) (by kernel_rfl)
  have e10 : a.eval (.tmp 123) = .int .i64 (max 0 (ya - (t0 : Int))) := haft 10 (op_at ho (fun o => o.after.any fun e => decide (e.on = 10) && Region.binds .any e) (x := true) (by kernel_rfl))
  have e20 : a.eval (.tmp 133) = .int .i64 (min 10000 (ol + (t1 : Int))) := haft 20 (op_at ho (fun o => o.after.any fun e => decide (e.on = 20) && Region.binds .any e) (x := true) (by kernel_rfl))
  refine ⟨fun j b h => (by rw [hgd] at h; cases h), ?_⟩
  refine specs_call (R := fun v W => mm14S gy kk p8 t0 t1 ya ol 21 v W) (f := 48) (args := #[.int .i64 (max 0 (ya - (t0 : Int))), .int .i64 (min 10000 (ol + (t1 : Int)))]) (by simp [execOp, hop, go_sem, ev e10, ev e20]) ((rg_any _ _ W).mono ?_)
  rintro e w' ⟨rfl, h3⟩
  exact ⟨_, rfl, rfl, h3⟩
set_option maxHeartbeats 1000000 in
theorem mm14_op22 (haft : ∀ j, (o.after.any fun e => decide (e.on = j) && Region.binds .any e) = true → mm14S gy kk p8 t0 t1 ya ol j (a.eval (.tmp (mm14D j))) W) (ho : mm14Reg[22]? = some o) : mm14Ok gy kk p8 t0 t1 ya ol Q a W 22 o := by
  have hop := op_at ho (·.op) (x := Op.nilCheck (Operand.tmp 113)) (by kernel_rfl)
  have hgd := op_at ho (·.guard) (x := none) (by kernel_rfl)
  have e0 : a.eval (.tmp 113) = .pointer (some ⟨gy, kk * 5, none⟩) := haft 0 (op_at ho (fun o => o.after.any fun e => decide (e.on = 0) && Region.binds .any e) (x := true) (by kernel_rfl))
  refine ⟨fun j b h => (by rw [hgd] at h; cases h), ?_⟩
  exact specs_value (R := fun v W => mm14S gy kk p8 t0 t1 ya ol 22 v W) (v := .pointer (some ⟨gy, kk * 5, none⟩)) (by simp [execOp, hop, go_sem, ev e0]) rfl (Ext.refl W)
set_option maxHeartbeats 1000000 in
theorem mm14_op23 (haft : ∀ j, (o.after.any fun e => decide (e.on = j) && Region.binds .any e) = true → mm14S gy kk p8 t0 t1 ya ol j (a.eval (.tmp (mm14D j))) W) (ho : mm14Reg[23]? = some o) : mm14Ok gy kk p8 t0 t1 ya ol Q a W 23 o := by
  have hop := op_at ho (·.op) (x := Op.fieldAddr 56 (Operand.tmp 135) 1) (by kernel_rfl)
  have hgd := op_at ho (·.guard) (x := none) (by kernel_rfl)
  have e22 : a.eval (.tmp 135) = .pointer (some ⟨gy, kk * 5, none⟩) := haft 22 (op_at ho (fun o => o.after.any fun e => decide (e.on = 22) && Region.binds .any e) (x := true) (by kernel_rfl))
  refine ⟨fun j b h => (by rw [hgd] at h; cases h), ?_⟩
  exact specs_value (R := fun v W => mm14S gy kk p8 t0 t1 ya ol 23 v W) (v := .pointer (some ⟨gy, kk * 5 + 2, none⟩)) (by simp [execOp, hop, go_sem, ev e22]) rfl (Ext.refl W)
set_option maxRecDepth 100000 in
set_option maxHeartbeats 4000000 in
/-- Region 14 of function 11. -/
theorem mm14_wp {id : Nat} (hlen : a.tmps.size = 219) (o8 : a.eval (.tmp 8) = .pointer (some ⟨p8, 0, none⟩)) (o19 : a.eval (.tmp 19) = .pointer (some ⟨gy, kk * 5, none⟩)) (d2 : ∀ W, Ext V W → W.cell? ⟨gy, kk * 5 + 2, none⟩ = some (.int .i64 ya)) (b0 : ∀ W, Ext V W → W.cell? ⟨p8, 0, none⟩ = some (.int .u16 (t0 : Int))) (hc0 : IntKind.i64.wrap (t0 : Int) = (t0 : Int)) (hw1 : IntKind.i64.wrap (ya - (t0 : Int)) = ya - (t0 : Int)) (d3 : ∀ W, Ext V W → W.cell? ⟨gy, kk * 5 + 2 + 1, none⟩ = some (.int .i64 ol)) (b1 : ∀ W, Ext V W → W.cell? ⟨p8, 1, none⟩ = some (.int .u16 (t1 : Int))) (hc1 : IntKind.i64.wrap (t1 : Int) = (t1 : Int)) (hw2 : IntKind.i64.wrap (ol + (t1 : Int)) = ol + (t1 : Int)) (K : (∀ W, Ext V W → wpList Tryz.prog mm14Reg Q (mm14Reg.toList.drop 24) (puts a [(113, .pointer (some ⟨gy, kk * 5, none⟩)), (114, .pointer (some ⟨gy, kk * 5, none⟩)), (115, .pointer (some ⟨gy, kk * 5, none⟩)), (116, .pointer (some ⟨gy, kk * 5 + 2, none⟩)), (117, .pointer (some ⟨gy, kk * 5 + 2, none⟩)), (118, .int .i64 (ya)), (119, .pointer (some ⟨p8, 0, none⟩)), (120, .int .u16 (t0 : Int)), (121, .int .i64 ((t0 : Int))), (122, .int .i64 (ya - (t0 : Int))), (123, .int .i64 (max 0 (ya - (t0 : Int)))), (124, .pointer (some ⟨gy, kk * 5, none⟩)), (125, .pointer (some ⟨gy, kk * 5, none⟩)), (126, .pointer (some ⟨gy, kk * 5 + 2, none⟩)), (127, .pointer (some ⟨gy, kk * 5 + 2 + 1, none⟩)), (128, .int .i64 (ol)), (129, .pointer (some ⟨p8, 1, none⟩)), (130, .int .u16 (t1 : Int)), (131, .int .i64 ((t1 : Int))), (132, .int .i64 (ol + (t1 : Int))), (133, .int .i64 (min 10000 (ol + (t1 : Int)))), (134, .agg #[.int .i64 (max 0 (ya - (t0 : Int))), .int .i64 (min 10000 (ol + (t1 : Int)))]), (135, .pointer (some ⟨gy, kk * 5, none⟩)), (136, .pointer (some ⟨gy, kk * 5 + 2, none⟩))]) W)) : (Code.region id mm14Reg true).wp Tryz.prog Q a V := by
  refine wp_region_specs_sink (ops := mm14Reg) 24 (mm14S gy kk p8 t0 t1 ya ol) (Ext V) (by kernel_rfl) (by rw [hlen]; kernel_rfl) (by kernel_rfl) ⟨rfl, rfl, rfl, Nat.le_refl _, fun _ _ => rfl⟩ (fun _ _ h e => h.trans e) mm14S_ext mm14D (by kernel_rfl) ?_ ?_
  · intro i o hi ho a' W hB hsz hold haft
    match i, hi with
    | 0, _ => exact mm14_op0 ((hold 19 (by kernel_rfl)).trans o19) ho
    | 1, _ => exact mm14_op1 ((hold 19 (by kernel_rfl)).trans o19) ho
    | 2, _ => exact mm14_op2 haft ho
    | 3, _ => exact mm14_op3 haft ho
    | 4, _ => exact mm14_op4 haft ho
    | 5, _ => exact mm14_op5 d2 hB haft ho
    | 6, _ => exact mm14_op6 ((hold 8 (by kernel_rfl)).trans o8) ho
    | 7, _ => exact mm14_op7 b0 hB haft ho
    | 8, _ => exact mm14_op8 hc0 haft ho
    | 9, _ => exact mm14_op9 hw1 haft ho
    | 10, _ => exact mm14_op10 haft ho
    | 11, _ => exact mm14_op11 ((hold 19 (by kernel_rfl)).trans o19) ho
    | 12, _ => exact mm14_op12 haft ho
    | 13, _ => exact mm14_op13 haft ho
    | 14, _ => exact mm14_op14 haft ho
    | 15, _ => exact mm14_op15 d3 hB haft ho
    | 16, _ => exact mm14_op16 ((hold 8 (by kernel_rfl)).trans o8) ho
    | 17, _ => exact mm14_op17 b1 hB haft ho
    | 18, _ => exact mm14_op18 hc1 haft ho
    | 19, _ => exact mm14_op19 hw2 haft ho
    | 20, _ => exact mm14_op20 haft ho
    | 21, _ => exact mm14_op21 haft ho
    | 22, _ => exact mm14_op22 haft ho
    | 23, _ => exact mm14_op23 haft ho
    | m + 24, h => exact absurd h (by omega)
  · intro a1 W hB hsz hdf hold hS
    have hall : ∀ zz, zz ∈ ([(113, .pointer (some ⟨gy, kk * 5, none⟩)), (114, .pointer (some ⟨gy, kk * 5, none⟩)), (115, .pointer (some ⟨gy, kk * 5, none⟩)), (116, .pointer (some ⟨gy, kk * 5 + 2, none⟩)), (117, .pointer (some ⟨gy, kk * 5 + 2, none⟩)), (118, .int .i64 (ya)), (119, .pointer (some ⟨p8, 0, none⟩)), (120, .int .u16 (t0 : Int)), (121, .int .i64 ((t0 : Int))), (122, .int .i64 (ya - (t0 : Int))), (123, .int .i64 (max 0 (ya - (t0 : Int)))), (124, .pointer (some ⟨gy, kk * 5, none⟩)), (125, .pointer (some ⟨gy, kk * 5, none⟩)), (126, .pointer (some ⟨gy, kk * 5 + 2, none⟩)), (127, .pointer (some ⟨gy, kk * 5 + 2 + 1, none⟩)), (128, .int .i64 (ol)), (129, .pointer (some ⟨p8, 1, none⟩)), (130, .int .u16 (t1 : Int)), (131, .int .i64 ((t1 : Int))), (132, .int .i64 (ol + (t1 : Int))), (133, .int .i64 (min 10000 (ol + (t1 : Int)))), (134, .agg #[.int .i64 (max 0 (ya - (t0 : Int))), .int .i64 (min 10000 (ol + (t1 : Int)))]), (135, .pointer (some ⟨gy, kk * 5, none⟩)), (136, .pointer (some ⟨gy, kk * 5 + 2, none⟩))] : List (Tmp × Value)) → zz.1 < a.tmps.size ∧ a1.eval (.tmp zz.1) = zz.2 := by
      intro zz hz
      rw [hlen]
      simp only [List.mem_cons, List.not_mem_nil, or_false] at hz
      rcases hz with rfl | rfl | rfl | rfl | rfl | rfl | rfl | rfl | rfl | rfl | rfl | rfl | rfl | rfl | rfl | rfl | rfl | rfl | rfl | rfl | rfl | rfl | rfl | rfl
      · exact ⟨(show (113 : Nat) < 219 by omega), hS 0 (by omega)⟩
      · exact ⟨(show (114 : Nat) < 219 by omega), hS 1 (by omega)⟩
      · exact ⟨(show (115 : Nat) < 219 by omega), hS 2 (by omega)⟩
      · exact ⟨(show (116 : Nat) < 219 by omega), hS 3 (by omega)⟩
      · exact ⟨(show (117 : Nat) < 219 by omega), hS 4 (by omega)⟩
      · exact ⟨(show (118 : Nat) < 219 by omega), hS 5 (by omega)⟩
      · exact ⟨(show (119 : Nat) < 219 by omega), hS 6 (by omega)⟩
      · exact ⟨(show (120 : Nat) < 219 by omega), hS 7 (by omega)⟩
      · exact ⟨(show (121 : Nat) < 219 by omega), hS 8 (by omega)⟩
      · exact ⟨(show (122 : Nat) < 219 by omega), hS 9 (by omega)⟩
      · exact ⟨(show (123 : Nat) < 219 by omega), hS 10 (by omega)⟩
      · exact ⟨(show (124 : Nat) < 219 by omega), hS 11 (by omega)⟩
      · exact ⟨(show (125 : Nat) < 219 by omega), hS 12 (by omega)⟩
      · exact ⟨(show (126 : Nat) < 219 by omega), hS 13 (by omega)⟩
      · exact ⟨(show (127 : Nat) < 219 by omega), hS 14 (by omega)⟩
      · exact ⟨(show (128 : Nat) < 219 by omega), hS 15 (by omega)⟩
      · exact ⟨(show (129 : Nat) < 219 by omega), hS 16 (by omega)⟩
      · exact ⟨(show (130 : Nat) < 219 by omega), hS 17 (by omega)⟩
      · exact ⟨(show (131 : Nat) < 219 by omega), hS 18 (by omega)⟩
      · exact ⟨(show (132 : Nat) < 219 by omega), hS 19 (by omega)⟩
      · exact ⟨(show (133 : Nat) < 219 by omega), hS 20 (by omega)⟩
      · exact ⟨(show (134 : Nat) < 219 by omega), hS 21 (by omega)⟩
      · exact ⟨(show (135 : Nat) < 219 by omega), hS 22 (by omega)⟩
      · exact ⟨(show (136 : Nat) < 219 by omega), hS 23 (by omega)⟩
    have ha := act_puts hsz hdf hall (fun t ht => hold t (all_ne_of (l := [(113, .pointer (some ⟨gy, kk * 5, none⟩)), (114, .pointer (some ⟨gy, kk * 5, none⟩)), (115, .pointer (some ⟨gy, kk * 5, none⟩)), (116, .pointer (some ⟨gy, kk * 5 + 2, none⟩)), (117, .pointer (some ⟨gy, kk * 5 + 2, none⟩)), (118, .int .i64 (ya)), (119, .pointer (some ⟨p8, 0, none⟩)), (120, .int .u16 (t0 : Int)), (121, .int .i64 ((t0 : Int))), (122, .int .i64 (ya - (t0 : Int))), (123, .int .i64 (max 0 (ya - (t0 : Int)))), (124, .pointer (some ⟨gy, kk * 5, none⟩)), (125, .pointer (some ⟨gy, kk * 5, none⟩)), (126, .pointer (some ⟨gy, kk * 5 + 2, none⟩)), (127, .pointer (some ⟨gy, kk * 5 + 2 + 1, none⟩)), (128, .int .i64 (ol)), (129, .pointer (some ⟨p8, 1, none⟩)), (130, .int .u16 (t1 : Int)), (131, .int .i64 ((t1 : Int))), (132, .int .i64 (ol + (t1 : Int))), (133, .int .i64 (min 10000 (ol + (t1 : Int)))), (134, .agg #[.int .i64 (max 0 (ya - (t0 : Int))), .int .i64 (min 10000 (ol + (t1 : Int)))]), (135, .pointer (some ⟨gy, kk * 5, none⟩)), (136, .pointer (some ⟨gy, kk * 5 + 2, none⟩))]) (by kernel_rfl) ht))
    rw [ha]
    exact K W  hB 
end

/-- The slots of region 15 of function 11. -/
def mm15D (i : Nat) : Tmp := if i = 0 then 137 else if i = 1 then 138 else if i = 2 then 139 else if i = 3 then 140 else if i = 4 then 141 else if i = 5 then 142 else if i = 6 then 143 else if i = 7 then 144 else if i = 8 then 145 else if i = 9 then 146 else if i = 10 then 147 else if i = 11 then 148 else if i = 12 then 149 else if i = 13 then 150 else if i = 14 then 151 else if i = 15 then 152 else if i = 16 then 153 else if i = 17 then 154 else 155
/-- What each operation yields. -/
def mm15S (gy kk p8 t2 : Nat) (lo hx : Int) (ix : Nat) (v : Value) (_W : World) : Prop :=
  match ix with
  | 0 => v = .pointer (some ⟨gy, kk * 5, none⟩)
  | 1 => v = .pointer (some ⟨gy, kk * 5, none⟩)
  | 2 => v = .pointer (some ⟨gy, kk * 5, none⟩)
  | 3 => v = .pointer (some ⟨gy, kk * 5, none⟩)
  | 4 => v = .pointer (some ⟨gy, kk * 5 + 1, none⟩)
  | 5 => v = .int .i64 (hx)
  | 6 => v = .pointer (some ⟨gy, kk * 5, none⟩)
  | 7 => v = .pointer (some ⟨gy, kk * 5, none⟩)
  | 8 => v = .pointer (some ⟨gy, kk * 5, none⟩)
  | 9 => v = .pointer (some ⟨gy, kk * 5, none⟩)
  | 10 => v = .int .i64 (lo)
  | 11 => v = .pointer (some ⟨p8, 2, none⟩)
  | 12 => v = .int .u16 (t2 : Int)
  | 13 => v = .int .i64 ((t2 : Int))
  | 14 => v = .int .i64 (lo + (t2 : Int))
  | 15 => v = .int .i64 (min hx (lo + (t2 : Int)))
  | 16 => v = .pointer (some ⟨gy, kk * 5, none⟩)
  | 17 => v = .pointer (some ⟨gy, kk * 5, none⟩)
  | 18 => v = .pointer (some ⟨gy, kk * 5, none⟩)
  | _ => True
noncomputable def mm15Reg : Array Oper := (Tryz.f11.body.bind (regionOf · 15)).getD #[]
theorem mm15S_ext {gy kk p8 t2 : Nat} {lo hx : Int} : ∀ (i : Nat) (v : Value) (W W' : World), mm15S gy kk p8 t2 lo hx i v W → Below W.heap.size W W' → mm15S gy kk p8 t2 lo hx i v W' := by
  intro i v W W' h e
  match i with
  | 0 => exact h
  | 1 => exact h
  | 2 => exact h
  | 3 => exact h
  | 4 => exact h
  | 5 => exact h
  | 6 => exact h
  | 7 => exact h
  | 8 => exact h
  | 9 => exact h
  | 10 => exact h
  | 11 => exact h
  | 12 => exact h
  | 13 => exact h
  | 14 => exact h
  | 15 => exact h
  | 16 => exact h
  | 17 => exact h
  | 18 => exact h
  | k + 19 => exact trivial
def mm15Ok (gy kk p8 t2 : Nat) (lo hx : Int) (Q : Exit → Act → World → Prop) (a : Act) (W : World) (ix : Nat) (o : Oper) : Prop :=
  (∀ j b, o.guard = some (j, b) → a.eval (.tmp (mm15D j)) = .bool b) ∧ o.wp Tryz.prog a W (fun a'' W' => ∃ v, a'' = a.put o.dst v ∧ mm15S gy kk p8 t2 lo hx ix v W' ∧ Below W.heap.size W W') Q
section
variable {gy kk p8 t2 : Nat} {lo hx : Int} {Q : Exit → Act → World → Prop} {a : Act} {V W : World} {o : Oper}
set_option maxHeartbeats 1000000 in
theorem mm15_op0 (o19 : a.eval (.tmp 19) = .pointer (some ⟨gy, kk * 5, none⟩)) (ho : mm15Reg[0]? = some o) : mm15Ok gy kk p8 t2 lo hx Q a W 0 o := by
  have hop := op_at ho (·.op) (x := Op.move (Operand.tmp 19)) (by kernel_rfl)
  have hgd := op_at ho (·.guard) (x := none) (by kernel_rfl)
  refine ⟨fun j b h => (by rw [hgd] at h; cases h), ?_⟩
  exact specs_value (R := fun v W => mm15S gy kk p8 t2 lo hx 0 v W) (v := .pointer (some ⟨gy, kk * 5, none⟩)) (by simp [execOp, hop, go_sem, ev o19]) rfl (Ext.refl W)
set_option maxHeartbeats 1000000 in
theorem mm15_op1 (o19 : a.eval (.tmp 19) = .pointer (some ⟨gy, kk * 5, none⟩)) (ho : mm15Reg[1]? = some o) : mm15Ok gy kk p8 t2 lo hx Q a W 1 o := by
  have hop := op_at ho (·.op) (x := Op.move (Operand.tmp 19)) (by kernel_rfl)
  have hgd := op_at ho (·.guard) (x := none) (by kernel_rfl)
  refine ⟨fun j b h => (by rw [hgd] at h; cases h), ?_⟩
  exact specs_value (R := fun v W => mm15S gy kk p8 t2 lo hx 1 v W) (v := .pointer (some ⟨gy, kk * 5, none⟩)) (by simp [execOp, hop, go_sem, ev o19]) rfl (Ext.refl W)
set_option maxHeartbeats 1000000 in
theorem mm15_op2 (haft : ∀ j, (o.after.any fun e => decide (e.on = j) && Region.binds .any e) = true → mm15S gy kk p8 t2 lo hx j (a.eval (.tmp (mm15D j))) W) (ho : mm15Reg[2]? = some o) : mm15Ok gy kk p8 t2 lo hx Q a W 2 o := by
  have hop := op_at ho (·.op) (x := Op.nilCheck (Operand.tmp 138)) (by kernel_rfl)
  have hgd := op_at ho (·.guard) (x := none) (by kernel_rfl)
  have e1 : a.eval (.tmp 138) = .pointer (some ⟨gy, kk * 5, none⟩) := haft 1 (op_at ho (fun o => o.after.any fun e => decide (e.on = 1) && Region.binds .any e) (x := true) (by kernel_rfl))
  refine ⟨fun j b h => (by rw [hgd] at h; cases h), ?_⟩
  exact specs_value (R := fun v W => mm15S gy kk p8 t2 lo hx 2 v W) (v := .pointer (some ⟨gy, kk * 5, none⟩)) (by simp [execOp, hop, go_sem, ev e1]) rfl (Ext.refl W)
set_option maxHeartbeats 1000000 in
theorem mm15_op3 (haft : ∀ j, (o.after.any fun e => decide (e.on = j) && Region.binds .any e) = true → mm15S gy kk p8 t2 lo hx j (a.eval (.tmp (mm15D j))) W) (ho : mm15Reg[3]? = some o) : mm15Ok gy kk p8 t2 lo hx Q a W 3 o := by
  have hop := op_at ho (·.op) (x := Op.fieldAddr 56 (Operand.tmp 139) 0) (by kernel_rfl)
  have hgd := op_at ho (·.guard) (x := none) (by kernel_rfl)
  have e2 : a.eval (.tmp 139) = .pointer (some ⟨gy, kk * 5, none⟩) := haft 2 (op_at ho (fun o => o.after.any fun e => decide (e.on = 2) && Region.binds .any e) (x := true) (by kernel_rfl))
  refine ⟨fun j b h => (by rw [hgd] at h; cases h), ?_⟩
  exact specs_value (R := fun v W => mm15S gy kk p8 t2 lo hx 3 v W) (v := .pointer (some ⟨gy, kk * 5, none⟩)) (by simp [execOp, hop, go_sem, ev e2]) rfl (Ext.refl W)
set_option maxHeartbeats 1000000 in
theorem mm15_op4 (haft : ∀ j, (o.after.any fun e => decide (e.on = j) && Region.binds .any e) = true → mm15S gy kk p8 t2 lo hx j (a.eval (.tmp (mm15D j))) W) (ho : mm15Reg[4]? = some o) : mm15Ok gy kk p8 t2 lo hx Q a W 4 o := by
  have hop := op_at ho (·.op) (x := Op.fieldAddr 26 (Operand.tmp 140) 1) (by kernel_rfl)
  have hgd := op_at ho (·.guard) (x := none) (by kernel_rfl)
  have e3 : a.eval (.tmp 140) = .pointer (some ⟨gy, kk * 5, none⟩) := haft 3 (op_at ho (fun o => o.after.any fun e => decide (e.on = 3) && Region.binds .any e) (x := true) (by kernel_rfl))
  refine ⟨fun j b h => (by rw [hgd] at h; cases h), ?_⟩
  exact specs_value (R := fun v W => mm15S gy kk p8 t2 lo hx 4 v W) (v := .pointer (some ⟨gy, kk * 5 + 1, none⟩)) (by simp [execOp, hop, go_sem, ev e3]) rfl (Ext.refl W)
set_option maxHeartbeats 1000000 in
theorem mm15_op5 (d2 : ∀ W, Ext V W → W.cell? ⟨gy, kk * 5 + 1, none⟩ = some (.int .i64 hx)) (hB : Ext V W) (haft : ∀ j, (o.after.any fun e => decide (e.on = j) && Region.binds .any e) = true → mm15S gy kk p8 t2 lo hx j (a.eval (.tmp (mm15D j))) W) (ho : mm15Reg[5]? = some o) : mm15Ok gy kk p8 t2 lo hx Q a W 5 o := by
  have hop := op_at ho (·.op) (x := Op.load 2 (Operand.tmp 141)) (by kernel_rfl)
  have hgd := op_at ho (·.guard) (x := none) (by kernel_rfl)
  have e4 : a.eval (.tmp 141) = .pointer (some ⟨gy, kk * 5 + 1, none⟩) := haft 4 (op_at ho (fun o => o.after.any fun e => decide (e.on = 4) && Region.binds .any e) (x := true) (by kernel_rfl))
  refine ⟨fun j b h => (by rw [hgd] at h; cases h), ?_⟩
  have d2' := d2 W hB
  exact specs_value (R := fun v W => mm15S gy kk p8 t2 lo hx 5 v W) (v := .int .i64 (hx)) (by simp [execOp, hop, go_sem, ev e4, d2']) rfl (Ext.refl W)
set_option maxHeartbeats 1000000 in
theorem mm15_op6 (o19 : a.eval (.tmp 19) = .pointer (some ⟨gy, kk * 5, none⟩)) (ho : mm15Reg[6]? = some o) : mm15Ok gy kk p8 t2 lo hx Q a W 6 o := by
  have hop := op_at ho (·.op) (x := Op.move (Operand.tmp 19)) (by kernel_rfl)
  have hgd := op_at ho (·.guard) (x := none) (by kernel_rfl)
  refine ⟨fun j b h => (by rw [hgd] at h; cases h), ?_⟩
  exact specs_value (R := fun v W => mm15S gy kk p8 t2 lo hx 6 v W) (v := .pointer (some ⟨gy, kk * 5, none⟩)) (by simp [execOp, hop, go_sem, ev o19]) rfl (Ext.refl W)
set_option maxHeartbeats 1000000 in
theorem mm15_op7 (haft : ∀ j, (o.after.any fun e => decide (e.on = j) && Region.binds .any e) = true → mm15S gy kk p8 t2 lo hx j (a.eval (.tmp (mm15D j))) W) (ho : mm15Reg[7]? = some o) : mm15Ok gy kk p8 t2 lo hx Q a W 7 o := by
  have hop := op_at ho (·.op) (x := Op.nilCheck (Operand.tmp 143)) (by kernel_rfl)
  have hgd := op_at ho (·.guard) (x := none) (by kernel_rfl)
  have e6 : a.eval (.tmp 143) = .pointer (some ⟨gy, kk * 5, none⟩) := haft 6 (op_at ho (fun o => o.after.any fun e => decide (e.on = 6) && Region.binds .any e) (x := true) (by kernel_rfl))
  refine ⟨fun j b h => (by rw [hgd] at h; cases h), ?_⟩
  exact specs_value (R := fun v W => mm15S gy kk p8 t2 lo hx 7 v W) (v := .pointer (some ⟨gy, kk * 5, none⟩)) (by simp [execOp, hop, go_sem, ev e6]) rfl (Ext.refl W)
set_option maxHeartbeats 1000000 in
theorem mm15_op8 (haft : ∀ j, (o.after.any fun e => decide (e.on = j) && Region.binds .any e) = true → mm15S gy kk p8 t2 lo hx j (a.eval (.tmp (mm15D j))) W) (ho : mm15Reg[8]? = some o) : mm15Ok gy kk p8 t2 lo hx Q a W 8 o := by
  have hop := op_at ho (·.op) (x := Op.fieldAddr 56 (Operand.tmp 144) 0) (by kernel_rfl)
  have hgd := op_at ho (·.guard) (x := none) (by kernel_rfl)
  have e7 : a.eval (.tmp 144) = .pointer (some ⟨gy, kk * 5, none⟩) := haft 7 (op_at ho (fun o => o.after.any fun e => decide (e.on = 7) && Region.binds .any e) (x := true) (by kernel_rfl))
  refine ⟨fun j b h => (by rw [hgd] at h; cases h), ?_⟩
  exact specs_value (R := fun v W => mm15S gy kk p8 t2 lo hx 8 v W) (v := .pointer (some ⟨gy, kk * 5, none⟩)) (by simp [execOp, hop, go_sem, ev e7]) rfl (Ext.refl W)
set_option maxHeartbeats 1000000 in
theorem mm15_op9 (haft : ∀ j, (o.after.any fun e => decide (e.on = j) && Region.binds .any e) = true → mm15S gy kk p8 t2 lo hx j (a.eval (.tmp (mm15D j))) W) (ho : mm15Reg[9]? = some o) : mm15Ok gy kk p8 t2 lo hx Q a W 9 o := by
  have hop := op_at ho (·.op) (x := Op.fieldAddr 26 (Operand.tmp 145) 0) (by kernel_rfl)
  have hgd := op_at ho (·.guard) (x := none) (by kernel_rfl)
  have e8 : a.eval (.tmp 145) = .pointer (some ⟨gy, kk * 5, none⟩) := haft 8 (op_at ho (fun o => o.after.any fun e => decide (e.on = 8) && Region.binds .any e) (x := true) (by kernel_rfl))
  refine ⟨fun j b h => (by rw [hgd] at h; cases h), ?_⟩
  exact specs_value (R := fun v W => mm15S gy kk p8 t2 lo hx 9 v W) (v := .pointer (some ⟨gy, kk * 5, none⟩)) (by simp [execOp, hop, go_sem, ev e8]) rfl (Ext.refl W)
set_option maxHeartbeats 1000000 in
theorem mm15_op10 (d3 : ∀ W, Ext V W → W.cell? ⟨gy, kk * 5, none⟩ = some (.int .i64 lo)) (hB : Ext V W) (haft : ∀ j, (o.after.any fun e => decide (e.on = j) && Region.binds .any e) = true → mm15S gy kk p8 t2 lo hx j (a.eval (.tmp (mm15D j))) W) (ho : mm15Reg[10]? = some o) : mm15Ok gy kk p8 t2 lo hx Q a W 10 o := by
  have hop := op_at ho (·.op) (x := Op.load 2 (Operand.tmp 146)) (by kernel_rfl)
  have hgd := op_at ho (·.guard) (x := none) (by kernel_rfl)
  have e9 : a.eval (.tmp 146) = .pointer (some ⟨gy, kk * 5, none⟩) := haft 9 (op_at ho (fun o => o.after.any fun e => decide (e.on = 9) && Region.binds .any e) (x := true) (by kernel_rfl))
  refine ⟨fun j b h => (by rw [hgd] at h; cases h), ?_⟩
  have d3' := d3 W hB
  exact specs_value (R := fun v W => mm15S gy kk p8 t2 lo hx 10 v W) (v := .int .i64 (lo)) (by simp [execOp, hop, go_sem, ev e9, d3']) rfl (Ext.refl W)
set_option maxHeartbeats 1000000 in
theorem mm15_op11 (o8 : a.eval (.tmp 8) = .pointer (some ⟨p8, 0, none⟩)) (ho : mm15Reg[11]? = some o) : mm15Ok gy kk p8 t2 lo hx Q a W 11 o := by
  have hop := op_at ho (·.op) (x := Op.indexAddr 66 (Operand.tmp 8) (Operand.const (Value.int IntKind.i64 2))) (by kernel_rfl)
  have hgd := op_at ho (·.guard) (x := none) (by kernel_rfl)
  refine ⟨fun j b h => (by rw [hgd] at h; cases h), ?_⟩
  exact specs_value (R := fun v W => mm15S gy kk p8 t2 lo hx 11 v W) (v := .pointer (some ⟨p8, 2, none⟩)) (by simp [execOp, hop, go_sem, ev o8]) rfl (Ext.refl W)
set_option maxHeartbeats 1000000 in
theorem mm15_op12 (b0 : ∀ W, Ext V W → W.cell? ⟨p8, 2, none⟩ = some (.int .u16 (t2 : Int))) (hB : Ext V W) (haft : ∀ j, (o.after.any fun e => decide (e.on = j) && Region.binds .any e) = true → mm15S gy kk p8 t2 lo hx j (a.eval (.tmp (mm15D j))) W) (ho : mm15Reg[12]? = some o) : mm15Ok gy kk p8 t2 lo hx Q a W 12 o := by
  have hop := op_at ho (·.op) (x := Op.load 54 (Operand.tmp 148)) (by kernel_rfl)
  have hgd := op_at ho (·.guard) (x := none) (by kernel_rfl)
  have e11 : a.eval (.tmp 148) = .pointer (some ⟨p8, 2, none⟩) := haft 11 (op_at ho (fun o => o.after.any fun e => decide (e.on = 11) && Region.binds .any e) (x := true) (by kernel_rfl))
  refine ⟨fun j b h => (by rw [hgd] at h; cases h), ?_⟩
  have b0' := b0 W hB
  exact specs_value (R := fun v W => mm15S gy kk p8 t2 lo hx 12 v W) (v := .int .u16 (t2 : Int)) (by simp [execOp, hop, go_sem, ev e11, b0']) rfl (Ext.refl W)
set_option maxHeartbeats 1000000 in
theorem mm15_op13 (hc0 : IntKind.i64.wrap (t2 : Int) = (t2 : Int)) (haft : ∀ j, (o.after.any fun e => decide (e.on = j) && Region.binds .any e) = true → mm15S gy kk p8 t2 lo hx j (a.eval (.tmp (mm15D j))) W) (ho : mm15Reg[13]? = some o) : mm15Ok gy kk p8 t2 lo hx Q a W 13 o := by
  have hop := op_at ho (·.op) (x := Op.convert 54 2 (Operand.tmp 149)) (by kernel_rfl)
  have hgd := op_at ho (·.guard) (x := none) (by kernel_rfl)
  have e12 : a.eval (.tmp 149) = .int .u16 (t2 : Int) := haft 12 (op_at ho (fun o => o.after.any fun e => decide (e.on = 12) && Region.binds .any e) (x := true) (by kernel_rfl))
  refine ⟨fun j b h => (by rw [hgd] at h; cases h), ?_⟩
  exact specs_value (R := fun v W => mm15S gy kk p8 t2 lo hx 13 v W) (v := .int .i64 ((t2 : Int))) (by simp [execOp, hop, go_sem, ev e12, hc0]) rfl (Ext.refl W)
set_option maxHeartbeats 1000000 in
theorem mm15_op14 (hw1 : IntKind.i64.wrap (lo + (t2 : Int)) = lo + (t2 : Int)) (haft : ∀ j, (o.after.any fun e => decide (e.on = j) && Region.binds .any e) = true → mm15S gy kk p8 t2 lo hx j (a.eval (.tmp (mm15D j))) W) (ho : mm15Reg[14]? = some o) : mm15Ok gy kk p8 t2 lo hx Q a W 14 o := by
  have hop := op_at ho (·.op) (x := Op.binOp BinOp.add 2 (Operand.tmp 147) (Operand.tmp 150) 2) (by kernel_rfl)
  have hgd := op_at ho (·.guard) (x := none) (by kernel_rfl)
  have e10 : a.eval (.tmp 147) = .int .i64 (lo) := haft 10 (op_at ho (fun o => o.after.any fun e => decide (e.on = 10) && Region.binds .any e) (x := true) (by kernel_rfl))
  have e13 : a.eval (.tmp 150) = .int .i64 ((t2 : Int)) := haft 13 (op_at ho (fun o => o.after.any fun e => decide (e.on = 13) && Region.binds .any e) (x := true) (by kernel_rfl))
  refine ⟨fun j b h => (by rw [hgd] at h; cases h), ?_⟩
  exact specs_value (R := fun v W => mm15S gy kk p8 t2 lo hx 14 v W) (v := .int .i64 (lo + (t2 : Int))) (by simp [execOp, hop, go_sem, ev e10, ev e13, hw1]) rfl (Ext.refl W)
set_option maxHeartbeats 1000000 in
theorem mm15_op15 (haft : ∀ j, (o.after.any fun e => decide (e.on = j) && Region.binds .any e) = true → mm15S gy kk p8 t2 lo hx j (a.eval (.tmp (mm15D j))) W) (ho : mm15Reg[15]? = some o) : mm15Ok gy kk p8 t2 lo hx Q a W 15 o := by
  have hop := op_at ho (·.op) (x := Op.call { callee := Callee.builtin Builtin.min, args := #[Operand.tmp 142, Operand.tmp 151], argTypes := #[2, 2] }) (by kernel_rfl)
  have hgd := op_at ho (·.guard) (x := none) (by kernel_rfl)
  have e5 : a.eval (.tmp 142) = .int .i64 (hx) := haft 5 (op_at ho (fun o => o.after.any fun e => decide (e.on = 5) && Region.binds .any e) (x := true) (by kernel_rfl))
  have e14 : a.eval (.tmp 151) = .int .i64 (lo + (t2 : Int)) := haft 14 (op_at ho (fun o => o.after.any fun e => decide (e.on = 14) && Region.binds .any e) (x := true) (by kernel_rfl))
  refine ⟨fun j b h => (by rw [hgd] at h; cases h), ?_⟩
  exact specs_value (R := fun v W => mm15S gy kk p8 t2 lo hx 15 v W) (v := .int .i64 (min hx (lo + (t2 : Int)))) (by simp [execOp, hop, go_sem, ev e5, ev e14]) rfl (Ext.refl W)
set_option maxHeartbeats 1000000 in
theorem mm15_op16 (haft : ∀ j, (o.after.any fun e => decide (e.on = j) && Region.binds .any e) = true → mm15S gy kk p8 t2 lo hx j (a.eval (.tmp (mm15D j))) W) (ho : mm15Reg[16]? = some o) : mm15Ok gy kk p8 t2 lo hx Q a W 16 o := by
  have hop := op_at ho (·.op) (x := Op.nilCheck (Operand.tmp 137)) (by kernel_rfl)
  have hgd := op_at ho (·.guard) (x := none) (by kernel_rfl)
  have e0 : a.eval (.tmp 137) = .pointer (some ⟨gy, kk * 5, none⟩) := haft 0 (op_at ho (fun o => o.after.any fun e => decide (e.on = 0) && Region.binds .any e) (x := true) (by kernel_rfl))
  refine ⟨fun j b h => (by rw [hgd] at h; cases h), ?_⟩
  exact specs_value (R := fun v W => mm15S gy kk p8 t2 lo hx 16 v W) (v := .pointer (some ⟨gy, kk * 5, none⟩)) (by simp [execOp, hop, go_sem, ev e0]) rfl (Ext.refl W)
set_option maxHeartbeats 1000000 in
theorem mm15_op17 (haft : ∀ j, (o.after.any fun e => decide (e.on = j) && Region.binds .any e) = true → mm15S gy kk p8 t2 lo hx j (a.eval (.tmp (mm15D j))) W) (ho : mm15Reg[17]? = some o) : mm15Ok gy kk p8 t2 lo hx Q a W 17 o := by
  have hop := op_at ho (·.op) (x := Op.fieldAddr 56 (Operand.tmp 153) 0) (by kernel_rfl)
  have hgd := op_at ho (·.guard) (x := none) (by kernel_rfl)
  have e16 : a.eval (.tmp 153) = .pointer (some ⟨gy, kk * 5, none⟩) := haft 16 (op_at ho (fun o => o.after.any fun e => decide (e.on = 16) && Region.binds .any e) (x := true) (by kernel_rfl))
  refine ⟨fun j b h => (by rw [hgd] at h; cases h), ?_⟩
  exact specs_value (R := fun v W => mm15S gy kk p8 t2 lo hx 17 v W) (v := .pointer (some ⟨gy, kk * 5, none⟩)) (by simp [execOp, hop, go_sem, ev e16]) rfl (Ext.refl W)
set_option maxHeartbeats 1000000 in
theorem mm15_op18 (haft : ∀ j, (o.after.any fun e => decide (e.on = j) && Region.binds .any e) = true → mm15S gy kk p8 t2 lo hx j (a.eval (.tmp (mm15D j))) W) (ho : mm15Reg[18]? = some o) : mm15Ok gy kk p8 t2 lo hx Q a W 18 o := by
  have hop := op_at ho (·.op) (x := Op.fieldAddr 26 (Operand.tmp 154) 0) (by kernel_rfl)
  have hgd := op_at ho (·.guard) (x := none) (by kernel_rfl)
  have e17 : a.eval (.tmp 154) = .pointer (some ⟨gy, kk * 5, none⟩) := haft 17 (op_at ho (fun o => o.after.any fun e => decide (e.on = 17) && Region.binds .any e) (x := true) (by kernel_rfl))
  refine ⟨fun j b h => (by rw [hgd] at h; cases h), ?_⟩
  exact specs_value (R := fun v W => mm15S gy kk p8 t2 lo hx 18 v W) (v := .pointer (some ⟨gy, kk * 5, none⟩)) (by simp [execOp, hop, go_sem, ev e17]) rfl (Ext.refl W)
set_option maxRecDepth 100000 in
set_option maxHeartbeats 4000000 in
/-- Region 15 of function 11. -/
theorem mm15_wp {id : Nat} (hlen : a.tmps.size = 219) (o8 : a.eval (.tmp 8) = .pointer (some ⟨p8, 0, none⟩)) (o19 : a.eval (.tmp 19) = .pointer (some ⟨gy, kk * 5, none⟩)) (d2 : ∀ W, Ext V W → W.cell? ⟨gy, kk * 5 + 1, none⟩ = some (.int .i64 hx)) (d3 : ∀ W, Ext V W → W.cell? ⟨gy, kk * 5, none⟩ = some (.int .i64 lo)) (b0 : ∀ W, Ext V W → W.cell? ⟨p8, 2, none⟩ = some (.int .u16 (t2 : Int))) (hc0 : IntKind.i64.wrap (t2 : Int) = (t2 : Int)) (hw1 : IntKind.i64.wrap (lo + (t2 : Int)) = lo + (t2 : Int)) (K : (∀ W, Ext V W → wpList Tryz.prog mm15Reg Q (mm15Reg.toList.drop 19) (puts a [(137, .pointer (some ⟨gy, kk * 5, none⟩)), (138, .pointer (some ⟨gy, kk * 5, none⟩)), (139, .pointer (some ⟨gy, kk * 5, none⟩)), (140, .pointer (some ⟨gy, kk * 5, none⟩)), (141, .pointer (some ⟨gy, kk * 5 + 1, none⟩)), (142, .int .i64 (hx)), (143, .pointer (some ⟨gy, kk * 5, none⟩)), (144, .pointer (some ⟨gy, kk * 5, none⟩)), (145, .pointer (some ⟨gy, kk * 5, none⟩)), (146, .pointer (some ⟨gy, kk * 5, none⟩)), (147, .int .i64 (lo)), (148, .pointer (some ⟨p8, 2, none⟩)), (149, .int .u16 (t2 : Int)), (150, .int .i64 ((t2 : Int))), (151, .int .i64 (lo + (t2 : Int))), (152, .int .i64 (min hx (lo + (t2 : Int)))), (153, .pointer (some ⟨gy, kk * 5, none⟩)), (154, .pointer (some ⟨gy, kk * 5, none⟩)), (155, .pointer (some ⟨gy, kk * 5, none⟩))]) W)) : (Code.region id mm15Reg true).wp Tryz.prog Q a V := by
  refine wp_region_specs_sink (ops := mm15Reg) 19 (mm15S gy kk p8 t2 lo hx) (Ext V) (by kernel_rfl) (by rw [hlen]; kernel_rfl) (by kernel_rfl) ⟨rfl, rfl, rfl, Nat.le_refl _, fun _ _ => rfl⟩ (fun _ _ h e => h.trans e) mm15S_ext mm15D (by kernel_rfl) ?_ ?_
  · intro i o hi ho a' W hB hsz hold haft
    match i, hi with
    | 0, _ => exact mm15_op0 ((hold 19 (by kernel_rfl)).trans o19) ho
    | 1, _ => exact mm15_op1 ((hold 19 (by kernel_rfl)).trans o19) ho
    | 2, _ => exact mm15_op2 haft ho
    | 3, _ => exact mm15_op3 haft ho
    | 4, _ => exact mm15_op4 haft ho
    | 5, _ => exact mm15_op5 d2 hB haft ho
    | 6, _ => exact mm15_op6 ((hold 19 (by kernel_rfl)).trans o19) ho
    | 7, _ => exact mm15_op7 haft ho
    | 8, _ => exact mm15_op8 haft ho
    | 9, _ => exact mm15_op9 haft ho
    | 10, _ => exact mm15_op10 d3 hB haft ho
    | 11, _ => exact mm15_op11 ((hold 8 (by kernel_rfl)).trans o8) ho
    | 12, _ => exact mm15_op12 b0 hB haft ho
    | 13, _ => exact mm15_op13 hc0 haft ho
    | 14, _ => exact mm15_op14 hw1 haft ho
    | 15, _ => exact mm15_op15 haft ho
    | 16, _ => exact mm15_op16 haft ho
    | 17, _ => exact mm15_op17 haft ho
    | 18, _ => exact mm15_op18 haft ho
    | m + 19, h => exact absurd h (by omega)
  · intro a1 W hB hsz hdf hold hS
    have hall : ∀ zz, zz ∈ ([(137, .pointer (some ⟨gy, kk * 5, none⟩)), (138, .pointer (some ⟨gy, kk * 5, none⟩)), (139, .pointer (some ⟨gy, kk * 5, none⟩)), (140, .pointer (some ⟨gy, kk * 5, none⟩)), (141, .pointer (some ⟨gy, kk * 5 + 1, none⟩)), (142, .int .i64 (hx)), (143, .pointer (some ⟨gy, kk * 5, none⟩)), (144, .pointer (some ⟨gy, kk * 5, none⟩)), (145, .pointer (some ⟨gy, kk * 5, none⟩)), (146, .pointer (some ⟨gy, kk * 5, none⟩)), (147, .int .i64 (lo)), (148, .pointer (some ⟨p8, 2, none⟩)), (149, .int .u16 (t2 : Int)), (150, .int .i64 ((t2 : Int))), (151, .int .i64 (lo + (t2 : Int))), (152, .int .i64 (min hx (lo + (t2 : Int)))), (153, .pointer (some ⟨gy, kk * 5, none⟩)), (154, .pointer (some ⟨gy, kk * 5, none⟩)), (155, .pointer (some ⟨gy, kk * 5, none⟩))] : List (Tmp × Value)) → zz.1 < a.tmps.size ∧ a1.eval (.tmp zz.1) = zz.2 := by
      intro zz hz
      rw [hlen]
      simp only [List.mem_cons, List.not_mem_nil, or_false] at hz
      rcases hz with rfl | rfl | rfl | rfl | rfl | rfl | rfl | rfl | rfl | rfl | rfl | rfl | rfl | rfl | rfl | rfl | rfl | rfl | rfl
      · exact ⟨(show (137 : Nat) < 219 by omega), hS 0 (by omega)⟩
      · exact ⟨(show (138 : Nat) < 219 by omega), hS 1 (by omega)⟩
      · exact ⟨(show (139 : Nat) < 219 by omega), hS 2 (by omega)⟩
      · exact ⟨(show (140 : Nat) < 219 by omega), hS 3 (by omega)⟩
      · exact ⟨(show (141 : Nat) < 219 by omega), hS 4 (by omega)⟩
      · exact ⟨(show (142 : Nat) < 219 by omega), hS 5 (by omega)⟩
      · exact ⟨(show (143 : Nat) < 219 by omega), hS 6 (by omega)⟩
      · exact ⟨(show (144 : Nat) < 219 by omega), hS 7 (by omega)⟩
      · exact ⟨(show (145 : Nat) < 219 by omega), hS 8 (by omega)⟩
      · exact ⟨(show (146 : Nat) < 219 by omega), hS 9 (by omega)⟩
      · exact ⟨(show (147 : Nat) < 219 by omega), hS 10 (by omega)⟩
      · exact ⟨(show (148 : Nat) < 219 by omega), hS 11 (by omega)⟩
      · exact ⟨(show (149 : Nat) < 219 by omega), hS 12 (by omega)⟩
      · exact ⟨(show (150 : Nat) < 219 by omega), hS 13 (by omega)⟩
      · exact ⟨(show (151 : Nat) < 219 by omega), hS 14 (by omega)⟩
      · exact ⟨(show (152 : Nat) < 219 by omega), hS 15 (by omega)⟩
      · exact ⟨(show (153 : Nat) < 219 by omega), hS 16 (by omega)⟩
      · exact ⟨(show (154 : Nat) < 219 by omega), hS 17 (by omega)⟩
      · exact ⟨(show (155 : Nat) < 219 by omega), hS 18 (by omega)⟩
    have ha := act_puts hsz hdf hall (fun t ht => hold t (all_ne_of (l := [(137, .pointer (some ⟨gy, kk * 5, none⟩)), (138, .pointer (some ⟨gy, kk * 5, none⟩)), (139, .pointer (some ⟨gy, kk * 5, none⟩)), (140, .pointer (some ⟨gy, kk * 5, none⟩)), (141, .pointer (some ⟨gy, kk * 5 + 1, none⟩)), (142, .int .i64 (hx)), (143, .pointer (some ⟨gy, kk * 5, none⟩)), (144, .pointer (some ⟨gy, kk * 5, none⟩)), (145, .pointer (some ⟨gy, kk * 5, none⟩)), (146, .pointer (some ⟨gy, kk * 5, none⟩)), (147, .int .i64 (lo)), (148, .pointer (some ⟨p8, 2, none⟩)), (149, .int .u16 (t2 : Int)), (150, .int .i64 ((t2 : Int))), (151, .int .i64 (lo + (t2 : Int))), (152, .int .i64 (min hx (lo + (t2 : Int)))), (153, .pointer (some ⟨gy, kk * 5, none⟩)), (154, .pointer (some ⟨gy, kk * 5, none⟩)), (155, .pointer (some ⟨gy, kk * 5, none⟩))]) (by kernel_rfl) ht))
    rw [ha]
    exact K W  hB 
end

/-- The slots of region 16 of function 11. -/
def mm16D (i : Nat) : Tmp := if i = 0 then 156 else if i = 1 then 157 else if i = 2 then 158 else if i = 3 then 159 else if i = 4 then 160 else if i = 5 then 161 else if i = 6 then 162 else if i = 7 then 163 else if i = 8 then 164 else if i = 9 then 165 else if i = 10 then 166 else if i = 11 then 167 else if i = 12 then 168 else if i = 13 then 169 else if i = 14 then 170 else if i = 15 then 171 else if i = 16 then 172 else if i = 17 then 173 else 174
/-- What each operation yields. -/
def mm16S (gy kk p8 t3 : Nat) (lo hx : Int) (ix : Nat) (v : Value) (_W : World) : Prop :=
  match ix with
  | 0 => v = .pointer (some ⟨gy, kk * 5, none⟩)
  | 1 => v = .pointer (some ⟨gy, kk * 5, none⟩)
  | 2 => v = .pointer (some ⟨gy, kk * 5, none⟩)
  | 3 => v = .pointer (some ⟨gy, kk * 5, none⟩)
  | 4 => v = .pointer (some ⟨gy, kk * 5, none⟩)
  | 5 => v = .int .i64 (lo)
  | 6 => v = .pointer (some ⟨gy, kk * 5, none⟩)
  | 7 => v = .pointer (some ⟨gy, kk * 5, none⟩)
  | 8 => v = .pointer (some ⟨gy, kk * 5, none⟩)
  | 9 => v = .pointer (some ⟨gy, kk * 5 + 1, none⟩)
  | 10 => v = .int .i64 (hx)
  | 11 => v = .pointer (some ⟨p8, 3, none⟩)
  | 12 => v = .int .u16 (t3 : Int)
  | 13 => v = .int .i64 ((t3 : Int))
  | 14 => v = .int .i64 (hx - (t3 : Int))
  | 15 => v = .int .i64 (max lo (hx - (t3 : Int)))
  | 16 => v = .pointer (some ⟨gy, kk * 5, none⟩)
  | 17 => v = .pointer (some ⟨gy, kk * 5, none⟩)
  | 18 => v = .pointer (some ⟨gy, kk * 5 + 1, none⟩)
  | _ => True
noncomputable def mm16Reg : Array Oper := (Tryz.f11.body.bind (regionOf · 16)).getD #[]
theorem mm16S_ext {gy kk p8 t3 : Nat} {lo hx : Int} : ∀ (i : Nat) (v : Value) (W W' : World), mm16S gy kk p8 t3 lo hx i v W → Below W.heap.size W W' → mm16S gy kk p8 t3 lo hx i v W' := by
  intro i v W W' h e
  match i with
  | 0 => exact h
  | 1 => exact h
  | 2 => exact h
  | 3 => exact h
  | 4 => exact h
  | 5 => exact h
  | 6 => exact h
  | 7 => exact h
  | 8 => exact h
  | 9 => exact h
  | 10 => exact h
  | 11 => exact h
  | 12 => exact h
  | 13 => exact h
  | 14 => exact h
  | 15 => exact h
  | 16 => exact h
  | 17 => exact h
  | 18 => exact h
  | k + 19 => exact trivial
def mm16Ok (gy kk p8 t3 : Nat) (lo hx : Int) (Q : Exit → Act → World → Prop) (a : Act) (W : World) (ix : Nat) (o : Oper) : Prop :=
  (∀ j b, o.guard = some (j, b) → a.eval (.tmp (mm16D j)) = .bool b) ∧ o.wp Tryz.prog a W (fun a'' W' => ∃ v, a'' = a.put o.dst v ∧ mm16S gy kk p8 t3 lo hx ix v W' ∧ Below W.heap.size W W') Q
section
variable {gy kk p8 t3 : Nat} {lo hx : Int} {Q : Exit → Act → World → Prop} {a : Act} {V W : World} {o : Oper}
set_option maxHeartbeats 1000000 in
theorem mm16_op0 (o19 : a.eval (.tmp 19) = .pointer (some ⟨gy, kk * 5, none⟩)) (ho : mm16Reg[0]? = some o) : mm16Ok gy kk p8 t3 lo hx Q a W 0 o := by
  have hop := op_at ho (·.op) (x := Op.move (Operand.tmp 19)) (by kernel_rfl)
  have hgd := op_at ho (·.guard) (x := none) (by kernel_rfl)
  refine ⟨fun j b h => (by rw [hgd] at h; cases h), ?_⟩
  exact specs_value (R := fun v W => mm16S gy kk p8 t3 lo hx 0 v W) (v := .pointer (some ⟨gy, kk * 5, none⟩)) (by simp [execOp, hop, go_sem, ev o19]) rfl (Ext.refl W)
set_option maxHeartbeats 1000000 in
theorem mm16_op1 (o19 : a.eval (.tmp 19) = .pointer (some ⟨gy, kk * 5, none⟩)) (ho : mm16Reg[1]? = some o) : mm16Ok gy kk p8 t3 lo hx Q a W 1 o := by
  have hop := op_at ho (·.op) (x := Op.move (Operand.tmp 19)) (by kernel_rfl)
  have hgd := op_at ho (·.guard) (x := none) (by kernel_rfl)
  refine ⟨fun j b h => (by rw [hgd] at h; cases h), ?_⟩
  exact specs_value (R := fun v W => mm16S gy kk p8 t3 lo hx 1 v W) (v := .pointer (some ⟨gy, kk * 5, none⟩)) (by simp [execOp, hop, go_sem, ev o19]) rfl (Ext.refl W)
set_option maxHeartbeats 1000000 in
theorem mm16_op2 (haft : ∀ j, (o.after.any fun e => decide (e.on = j) && Region.binds .any e) = true → mm16S gy kk p8 t3 lo hx j (a.eval (.tmp (mm16D j))) W) (ho : mm16Reg[2]? = some o) : mm16Ok gy kk p8 t3 lo hx Q a W 2 o := by
  have hop := op_at ho (·.op) (x := Op.nilCheck (Operand.tmp 157)) (by kernel_rfl)
  have hgd := op_at ho (·.guard) (x := none) (by kernel_rfl)
  have e1 : a.eval (.tmp 157) = .pointer (some ⟨gy, kk * 5, none⟩) := haft 1 (op_at ho (fun o => o.after.any fun e => decide (e.on = 1) && Region.binds .any e) (x := true) (by kernel_rfl))
  refine ⟨fun j b h => (by rw [hgd] at h; cases h), ?_⟩
  exact specs_value (R := fun v W => mm16S gy kk p8 t3 lo hx 2 v W) (v := .pointer (some ⟨gy, kk * 5, none⟩)) (by simp [execOp, hop, go_sem, ev e1]) rfl (Ext.refl W)
set_option maxHeartbeats 1000000 in
theorem mm16_op3 (haft : ∀ j, (o.after.any fun e => decide (e.on = j) && Region.binds .any e) = true → mm16S gy kk p8 t3 lo hx j (a.eval (.tmp (mm16D j))) W) (ho : mm16Reg[3]? = some o) : mm16Ok gy kk p8 t3 lo hx Q a W 3 o := by
  have hop := op_at ho (·.op) (x := Op.fieldAddr 56 (Operand.tmp 158) 0) (by kernel_rfl)
  have hgd := op_at ho (·.guard) (x := none) (by kernel_rfl)
  have e2 : a.eval (.tmp 158) = .pointer (some ⟨gy, kk * 5, none⟩) := haft 2 (op_at ho (fun o => o.after.any fun e => decide (e.on = 2) && Region.binds .any e) (x := true) (by kernel_rfl))
  refine ⟨fun j b h => (by rw [hgd] at h; cases h), ?_⟩
  exact specs_value (R := fun v W => mm16S gy kk p8 t3 lo hx 3 v W) (v := .pointer (some ⟨gy, kk * 5, none⟩)) (by simp [execOp, hop, go_sem, ev e2]) rfl (Ext.refl W)
set_option maxHeartbeats 1000000 in
theorem mm16_op4 (haft : ∀ j, (o.after.any fun e => decide (e.on = j) && Region.binds .any e) = true → mm16S gy kk p8 t3 lo hx j (a.eval (.tmp (mm16D j))) W) (ho : mm16Reg[4]? = some o) : mm16Ok gy kk p8 t3 lo hx Q a W 4 o := by
  have hop := op_at ho (·.op) (x := Op.fieldAddr 26 (Operand.tmp 159) 0) (by kernel_rfl)
  have hgd := op_at ho (·.guard) (x := none) (by kernel_rfl)
  have e3 : a.eval (.tmp 159) = .pointer (some ⟨gy, kk * 5, none⟩) := haft 3 (op_at ho (fun o => o.after.any fun e => decide (e.on = 3) && Region.binds .any e) (x := true) (by kernel_rfl))
  refine ⟨fun j b h => (by rw [hgd] at h; cases h), ?_⟩
  exact specs_value (R := fun v W => mm16S gy kk p8 t3 lo hx 4 v W) (v := .pointer (some ⟨gy, kk * 5, none⟩)) (by simp [execOp, hop, go_sem, ev e3]) rfl (Ext.refl W)
set_option maxHeartbeats 1000000 in
theorem mm16_op5 (d2 : ∀ W, Ext V W → W.cell? ⟨gy, kk * 5, none⟩ = some (.int .i64 lo)) (hB : Ext V W) (haft : ∀ j, (o.after.any fun e => decide (e.on = j) && Region.binds .any e) = true → mm16S gy kk p8 t3 lo hx j (a.eval (.tmp (mm16D j))) W) (ho : mm16Reg[5]? = some o) : mm16Ok gy kk p8 t3 lo hx Q a W 5 o := by
  have hop := op_at ho (·.op) (x := Op.load 2 (Operand.tmp 160)) (by kernel_rfl)
  have hgd := op_at ho (·.guard) (x := none) (by kernel_rfl)
  have e4 : a.eval (.tmp 160) = .pointer (some ⟨gy, kk * 5, none⟩) := haft 4 (op_at ho (fun o => o.after.any fun e => decide (e.on = 4) && Region.binds .any e) (x := true) (by kernel_rfl))
  refine ⟨fun j b h => (by rw [hgd] at h; cases h), ?_⟩
  have d2' := d2 W hB
  exact specs_value (R := fun v W => mm16S gy kk p8 t3 lo hx 5 v W) (v := .int .i64 (lo)) (by simp [execOp, hop, go_sem, ev e4, d2']) rfl (Ext.refl W)
set_option maxHeartbeats 1000000 in
theorem mm16_op6 (o19 : a.eval (.tmp 19) = .pointer (some ⟨gy, kk * 5, none⟩)) (ho : mm16Reg[6]? = some o) : mm16Ok gy kk p8 t3 lo hx Q a W 6 o := by
  have hop := op_at ho (·.op) (x := Op.move (Operand.tmp 19)) (by kernel_rfl)
  have hgd := op_at ho (·.guard) (x := none) (by kernel_rfl)
  refine ⟨fun j b h => (by rw [hgd] at h; cases h), ?_⟩
  exact specs_value (R := fun v W => mm16S gy kk p8 t3 lo hx 6 v W) (v := .pointer (some ⟨gy, kk * 5, none⟩)) (by simp [execOp, hop, go_sem, ev o19]) rfl (Ext.refl W)
set_option maxHeartbeats 1000000 in
theorem mm16_op7 (haft : ∀ j, (o.after.any fun e => decide (e.on = j) && Region.binds .any e) = true → mm16S gy kk p8 t3 lo hx j (a.eval (.tmp (mm16D j))) W) (ho : mm16Reg[7]? = some o) : mm16Ok gy kk p8 t3 lo hx Q a W 7 o := by
  have hop := op_at ho (·.op) (x := Op.nilCheck (Operand.tmp 162)) (by kernel_rfl)
  have hgd := op_at ho (·.guard) (x := none) (by kernel_rfl)
  have e6 : a.eval (.tmp 162) = .pointer (some ⟨gy, kk * 5, none⟩) := haft 6 (op_at ho (fun o => o.after.any fun e => decide (e.on = 6) && Region.binds .any e) (x := true) (by kernel_rfl))
  refine ⟨fun j b h => (by rw [hgd] at h; cases h), ?_⟩
  exact specs_value (R := fun v W => mm16S gy kk p8 t3 lo hx 7 v W) (v := .pointer (some ⟨gy, kk * 5, none⟩)) (by simp [execOp, hop, go_sem, ev e6]) rfl (Ext.refl W)
set_option maxHeartbeats 1000000 in
theorem mm16_op8 (haft : ∀ j, (o.after.any fun e => decide (e.on = j) && Region.binds .any e) = true → mm16S gy kk p8 t3 lo hx j (a.eval (.tmp (mm16D j))) W) (ho : mm16Reg[8]? = some o) : mm16Ok gy kk p8 t3 lo hx Q a W 8 o := by
  have hop := op_at ho (·.op) (x := Op.fieldAddr 56 (Operand.tmp 163) 0) (by kernel_rfl)
  have hgd := op_at ho (·.guard) (x := none) (by kernel_rfl)
  have e7 : a.eval (.tmp 163) = .pointer (some ⟨gy, kk * 5, none⟩) := haft 7 (op_at ho (fun o => o.after.any fun e => decide (e.on = 7) && Region.binds .any e) (x := true) (by kernel_rfl))
  refine ⟨fun j b h => (by rw [hgd] at h; cases h), ?_⟩
  exact specs_value (R := fun v W => mm16S gy kk p8 t3 lo hx 8 v W) (v := .pointer (some ⟨gy, kk * 5, none⟩)) (by simp [execOp, hop, go_sem, ev e7]) rfl (Ext.refl W)
set_option maxHeartbeats 1000000 in
theorem mm16_op9 (haft : ∀ j, (o.after.any fun e => decide (e.on = j) && Region.binds .any e) = true → mm16S gy kk p8 t3 lo hx j (a.eval (.tmp (mm16D j))) W) (ho : mm16Reg[9]? = some o) : mm16Ok gy kk p8 t3 lo hx Q a W 9 o := by
  have hop := op_at ho (·.op) (x := Op.fieldAddr 26 (Operand.tmp 164) 1) (by kernel_rfl)
  have hgd := op_at ho (·.guard) (x := none) (by kernel_rfl)
  have e8 : a.eval (.tmp 164) = .pointer (some ⟨gy, kk * 5, none⟩) := haft 8 (op_at ho (fun o => o.after.any fun e => decide (e.on = 8) && Region.binds .any e) (x := true) (by kernel_rfl))
  refine ⟨fun j b h => (by rw [hgd] at h; cases h), ?_⟩
  exact specs_value (R := fun v W => mm16S gy kk p8 t3 lo hx 9 v W) (v := .pointer (some ⟨gy, kk * 5 + 1, none⟩)) (by simp [execOp, hop, go_sem, ev e8]) rfl (Ext.refl W)
set_option maxHeartbeats 1000000 in
theorem mm16_op10 (d3 : ∀ W, Ext V W → W.cell? ⟨gy, kk * 5 + 1, none⟩ = some (.int .i64 hx)) (hB : Ext V W) (haft : ∀ j, (o.after.any fun e => decide (e.on = j) && Region.binds .any e) = true → mm16S gy kk p8 t3 lo hx j (a.eval (.tmp (mm16D j))) W) (ho : mm16Reg[10]? = some o) : mm16Ok gy kk p8 t3 lo hx Q a W 10 o := by
  have hop := op_at ho (·.op) (x := Op.load 2 (Operand.tmp 165)) (by kernel_rfl)
  have hgd := op_at ho (·.guard) (x := none) (by kernel_rfl)
  have e9 : a.eval (.tmp 165) = .pointer (some ⟨gy, kk * 5 + 1, none⟩) := haft 9 (op_at ho (fun o => o.after.any fun e => decide (e.on = 9) && Region.binds .any e) (x := true) (by kernel_rfl))
  refine ⟨fun j b h => (by rw [hgd] at h; cases h), ?_⟩
  have d3' := d3 W hB
  exact specs_value (R := fun v W => mm16S gy kk p8 t3 lo hx 10 v W) (v := .int .i64 (hx)) (by simp [execOp, hop, go_sem, ev e9, d3']) rfl (Ext.refl W)
set_option maxHeartbeats 1000000 in
theorem mm16_op11 (o8 : a.eval (.tmp 8) = .pointer (some ⟨p8, 0, none⟩)) (ho : mm16Reg[11]? = some o) : mm16Ok gy kk p8 t3 lo hx Q a W 11 o := by
  have hop := op_at ho (·.op) (x := Op.indexAddr 66 (Operand.tmp 8) (Operand.const (Value.int IntKind.i64 3))) (by kernel_rfl)
  have hgd := op_at ho (·.guard) (x := none) (by kernel_rfl)
  refine ⟨fun j b h => (by rw [hgd] at h; cases h), ?_⟩
  exact specs_value (R := fun v W => mm16S gy kk p8 t3 lo hx 11 v W) (v := .pointer (some ⟨p8, 3, none⟩)) (by simp [execOp, hop, go_sem, ev o8]) rfl (Ext.refl W)
set_option maxHeartbeats 1000000 in
theorem mm16_op12 (b0 : ∀ W, Ext V W → W.cell? ⟨p8, 3, none⟩ = some (.int .u16 (t3 : Int))) (hB : Ext V W) (haft : ∀ j, (o.after.any fun e => decide (e.on = j) && Region.binds .any e) = true → mm16S gy kk p8 t3 lo hx j (a.eval (.tmp (mm16D j))) W) (ho : mm16Reg[12]? = some o) : mm16Ok gy kk p8 t3 lo hx Q a W 12 o := by
  have hop := op_at ho (·.op) (x := Op.load 54 (Operand.tmp 167)) (by kernel_rfl)
  have hgd := op_at ho (·.guard) (x := none) (by kernel_rfl)
  have e11 : a.eval (.tmp 167) = .pointer (some ⟨p8, 3, none⟩) := haft 11 (op_at ho (fun o => o.after.any fun e => decide (e.on = 11) && Region.binds .any e) (x := true) (by kernel_rfl))
  refine ⟨fun j b h => (by rw [hgd] at h; cases h), ?_⟩
  have b0' := b0 W hB
  exact specs_value (R := fun v W => mm16S gy kk p8 t3 lo hx 12 v W) (v := .int .u16 (t3 : Int)) (by simp [execOp, hop, go_sem, ev e11, b0']) rfl (Ext.refl W)
set_option maxHeartbeats 1000000 in
theorem mm16_op13 (hc0 : IntKind.i64.wrap (t3 : Int) = (t3 : Int)) (haft : ∀ j, (o.after.any fun e => decide (e.on = j) && Region.binds .any e) = true → mm16S gy kk p8 t3 lo hx j (a.eval (.tmp (mm16D j))) W) (ho : mm16Reg[13]? = some o) : mm16Ok gy kk p8 t3 lo hx Q a W 13 o := by
  have hop := op_at ho (·.op) (x := Op.convert 54 2 (Operand.tmp 168)) (by kernel_rfl)
  have hgd := op_at ho (·.guard) (x := none) (by kernel_rfl)
  have e12 : a.eval (.tmp 168) = .int .u16 (t3 : Int) := haft 12 (op_at ho (fun o => o.after.any fun e => decide (e.on = 12) && Region.binds .any e) (x := true) (by kernel_rfl))
  refine ⟨fun j b h => (by rw [hgd] at h; cases h), ?_⟩
  exact specs_value (R := fun v W => mm16S gy kk p8 t3 lo hx 13 v W) (v := .int .i64 ((t3 : Int))) (by simp [execOp, hop, go_sem, ev e12, hc0]) rfl (Ext.refl W)
set_option maxHeartbeats 1000000 in
theorem mm16_op14 (hw1 : IntKind.i64.wrap (hx - (t3 : Int)) = hx - (t3 : Int)) (haft : ∀ j, (o.after.any fun e => decide (e.on = j) && Region.binds .any e) = true → mm16S gy kk p8 t3 lo hx j (a.eval (.tmp (mm16D j))) W) (ho : mm16Reg[14]? = some o) : mm16Ok gy kk p8 t3 lo hx Q a W 14 o := by
  have hop := op_at ho (·.op) (x := Op.binOp BinOp.sub 2 (Operand.tmp 166) (Operand.tmp 169) 2) (by kernel_rfl)
  have hgd := op_at ho (·.guard) (x := none) (by kernel_rfl)
  have e10 : a.eval (.tmp 166) = .int .i64 (hx) := haft 10 (op_at ho (fun o => o.after.any fun e => decide (e.on = 10) && Region.binds .any e) (x := true) (by kernel_rfl))
  have e13 : a.eval (.tmp 169) = .int .i64 ((t3 : Int)) := haft 13 (op_at ho (fun o => o.after.any fun e => decide (e.on = 13) && Region.binds .any e) (x := true) (by kernel_rfl))
  refine ⟨fun j b h => (by rw [hgd] at h; cases h), ?_⟩
  exact specs_value (R := fun v W => mm16S gy kk p8 t3 lo hx 14 v W) (v := .int .i64 (hx - (t3 : Int))) (by simp [execOp, hop, go_sem, ev e10, ev e13, hw1]) rfl (Ext.refl W)
set_option maxHeartbeats 1000000 in
theorem mm16_op15 (haft : ∀ j, (o.after.any fun e => decide (e.on = j) && Region.binds .any e) = true → mm16S gy kk p8 t3 lo hx j (a.eval (.tmp (mm16D j))) W) (ho : mm16Reg[15]? = some o) : mm16Ok gy kk p8 t3 lo hx Q a W 15 o := by
  have hop := op_at ho (·.op) (x := Op.call { callee := Callee.builtin Builtin.max, args := #[Operand.tmp 161, Operand.tmp 170], argTypes := #[2, 2] }) (by kernel_rfl)
  have hgd := op_at ho (·.guard) (x := none) (by kernel_rfl)
  have e5 : a.eval (.tmp 161) = .int .i64 (lo) := haft 5 (op_at ho (fun o => o.after.any fun e => decide (e.on = 5) && Region.binds .any e) (x := true) (by kernel_rfl))
  have e14 : a.eval (.tmp 170) = .int .i64 (hx - (t3 : Int)) := haft 14 (op_at ho (fun o => o.after.any fun e => decide (e.on = 14) && Region.binds .any e) (x := true) (by kernel_rfl))
  refine ⟨fun j b h => (by rw [hgd] at h; cases h), ?_⟩
  exact specs_value (R := fun v W => mm16S gy kk p8 t3 lo hx 15 v W) (v := .int .i64 (max lo (hx - (t3 : Int)))) (by simp [execOp, hop, go_sem, ev e5, ev e14]) rfl (Ext.refl W)
set_option maxHeartbeats 1000000 in
theorem mm16_op16 (haft : ∀ j, (o.after.any fun e => decide (e.on = j) && Region.binds .any e) = true → mm16S gy kk p8 t3 lo hx j (a.eval (.tmp (mm16D j))) W) (ho : mm16Reg[16]? = some o) : mm16Ok gy kk p8 t3 lo hx Q a W 16 o := by
  have hop := op_at ho (·.op) (x := Op.nilCheck (Operand.tmp 156)) (by kernel_rfl)
  have hgd := op_at ho (·.guard) (x := none) (by kernel_rfl)
  have e0 : a.eval (.tmp 156) = .pointer (some ⟨gy, kk * 5, none⟩) := haft 0 (op_at ho (fun o => o.after.any fun e => decide (e.on = 0) && Region.binds .any e) (x := true) (by kernel_rfl))
  refine ⟨fun j b h => (by rw [hgd] at h; cases h), ?_⟩
  exact specs_value (R := fun v W => mm16S gy kk p8 t3 lo hx 16 v W) (v := .pointer (some ⟨gy, kk * 5, none⟩)) (by simp [execOp, hop, go_sem, ev e0]) rfl (Ext.refl W)
set_option maxHeartbeats 1000000 in
theorem mm16_op17 (haft : ∀ j, (o.after.any fun e => decide (e.on = j) && Region.binds .any e) = true → mm16S gy kk p8 t3 lo hx j (a.eval (.tmp (mm16D j))) W) (ho : mm16Reg[17]? = some o) : mm16Ok gy kk p8 t3 lo hx Q a W 17 o := by
  have hop := op_at ho (·.op) (x := Op.fieldAddr 56 (Operand.tmp 172) 0) (by kernel_rfl)
  have hgd := op_at ho (·.guard) (x := none) (by kernel_rfl)
  have e16 : a.eval (.tmp 172) = .pointer (some ⟨gy, kk * 5, none⟩) := haft 16 (op_at ho (fun o => o.after.any fun e => decide (e.on = 16) && Region.binds .any e) (x := true) (by kernel_rfl))
  refine ⟨fun j b h => (by rw [hgd] at h; cases h), ?_⟩
  exact specs_value (R := fun v W => mm16S gy kk p8 t3 lo hx 17 v W) (v := .pointer (some ⟨gy, kk * 5, none⟩)) (by simp [execOp, hop, go_sem, ev e16]) rfl (Ext.refl W)
set_option maxHeartbeats 1000000 in
theorem mm16_op18 (haft : ∀ j, (o.after.any fun e => decide (e.on = j) && Region.binds .any e) = true → mm16S gy kk p8 t3 lo hx j (a.eval (.tmp (mm16D j))) W) (ho : mm16Reg[18]? = some o) : mm16Ok gy kk p8 t3 lo hx Q a W 18 o := by
  have hop := op_at ho (·.op) (x := Op.fieldAddr 26 (Operand.tmp 173) 1) (by kernel_rfl)
  have hgd := op_at ho (·.guard) (x := none) (by kernel_rfl)
  have e17 : a.eval (.tmp 173) = .pointer (some ⟨gy, kk * 5, none⟩) := haft 17 (op_at ho (fun o => o.after.any fun e => decide (e.on = 17) && Region.binds .any e) (x := true) (by kernel_rfl))
  refine ⟨fun j b h => (by rw [hgd] at h; cases h), ?_⟩
  exact specs_value (R := fun v W => mm16S gy kk p8 t3 lo hx 18 v W) (v := .pointer (some ⟨gy, kk * 5 + 1, none⟩)) (by simp [execOp, hop, go_sem, ev e17]) rfl (Ext.refl W)
set_option maxRecDepth 100000 in
set_option maxHeartbeats 4000000 in
/-- Region 16 of function 11. -/
theorem mm16_wp {id : Nat} (hlen : a.tmps.size = 219) (o8 : a.eval (.tmp 8) = .pointer (some ⟨p8, 0, none⟩)) (o19 : a.eval (.tmp 19) = .pointer (some ⟨gy, kk * 5, none⟩)) (d2 : ∀ W, Ext V W → W.cell? ⟨gy, kk * 5, none⟩ = some (.int .i64 lo)) (d3 : ∀ W, Ext V W → W.cell? ⟨gy, kk * 5 + 1, none⟩ = some (.int .i64 hx)) (b0 : ∀ W, Ext V W → W.cell? ⟨p8, 3, none⟩ = some (.int .u16 (t3 : Int))) (hc0 : IntKind.i64.wrap (t3 : Int) = (t3 : Int)) (hw1 : IntKind.i64.wrap (hx - (t3 : Int)) = hx - (t3 : Int)) (K : (∀ W, Ext V W → wpList Tryz.prog mm16Reg Q (mm16Reg.toList.drop 19) (puts a [(156, .pointer (some ⟨gy, kk * 5, none⟩)), (157, .pointer (some ⟨gy, kk * 5, none⟩)), (158, .pointer (some ⟨gy, kk * 5, none⟩)), (159, .pointer (some ⟨gy, kk * 5, none⟩)), (160, .pointer (some ⟨gy, kk * 5, none⟩)), (161, .int .i64 (lo)), (162, .pointer (some ⟨gy, kk * 5, none⟩)), (163, .pointer (some ⟨gy, kk * 5, none⟩)), (164, .pointer (some ⟨gy, kk * 5, none⟩)), (165, .pointer (some ⟨gy, kk * 5 + 1, none⟩)), (166, .int .i64 (hx)), (167, .pointer (some ⟨p8, 3, none⟩)), (168, .int .u16 (t3 : Int)), (169, .int .i64 ((t3 : Int))), (170, .int .i64 (hx - (t3 : Int))), (171, .int .i64 (max lo (hx - (t3 : Int)))), (172, .pointer (some ⟨gy, kk * 5, none⟩)), (173, .pointer (some ⟨gy, kk * 5, none⟩)), (174, .pointer (some ⟨gy, kk * 5 + 1, none⟩))]) W)) : (Code.region id mm16Reg true).wp Tryz.prog Q a V := by
  refine wp_region_specs_sink (ops := mm16Reg) 19 (mm16S gy kk p8 t3 lo hx) (Ext V) (by kernel_rfl) (by rw [hlen]; kernel_rfl) (by kernel_rfl) ⟨rfl, rfl, rfl, Nat.le_refl _, fun _ _ => rfl⟩ (fun _ _ h e => h.trans e) mm16S_ext mm16D (by kernel_rfl) ?_ ?_
  · intro i o hi ho a' W hB hsz hold haft
    match i, hi with
    | 0, _ => exact mm16_op0 ((hold 19 (by kernel_rfl)).trans o19) ho
    | 1, _ => exact mm16_op1 ((hold 19 (by kernel_rfl)).trans o19) ho
    | 2, _ => exact mm16_op2 haft ho
    | 3, _ => exact mm16_op3 haft ho
    | 4, _ => exact mm16_op4 haft ho
    | 5, _ => exact mm16_op5 d2 hB haft ho
    | 6, _ => exact mm16_op6 ((hold 19 (by kernel_rfl)).trans o19) ho
    | 7, _ => exact mm16_op7 haft ho
    | 8, _ => exact mm16_op8 haft ho
    | 9, _ => exact mm16_op9 haft ho
    | 10, _ => exact mm16_op10 d3 hB haft ho
    | 11, _ => exact mm16_op11 ((hold 8 (by kernel_rfl)).trans o8) ho
    | 12, _ => exact mm16_op12 b0 hB haft ho
    | 13, _ => exact mm16_op13 hc0 haft ho
    | 14, _ => exact mm16_op14 hw1 haft ho
    | 15, _ => exact mm16_op15 haft ho
    | 16, _ => exact mm16_op16 haft ho
    | 17, _ => exact mm16_op17 haft ho
    | 18, _ => exact mm16_op18 haft ho
    | m + 19, h => exact absurd h (by omega)
  · intro a1 W hB hsz hdf hold hS
    have hall : ∀ zz, zz ∈ ([(156, .pointer (some ⟨gy, kk * 5, none⟩)), (157, .pointer (some ⟨gy, kk * 5, none⟩)), (158, .pointer (some ⟨gy, kk * 5, none⟩)), (159, .pointer (some ⟨gy, kk * 5, none⟩)), (160, .pointer (some ⟨gy, kk * 5, none⟩)), (161, .int .i64 (lo)), (162, .pointer (some ⟨gy, kk * 5, none⟩)), (163, .pointer (some ⟨gy, kk * 5, none⟩)), (164, .pointer (some ⟨gy, kk * 5, none⟩)), (165, .pointer (some ⟨gy, kk * 5 + 1, none⟩)), (166, .int .i64 (hx)), (167, .pointer (some ⟨p8, 3, none⟩)), (168, .int .u16 (t3 : Int)), (169, .int .i64 ((t3 : Int))), (170, .int .i64 (hx - (t3 : Int))), (171, .int .i64 (max lo (hx - (t3 : Int)))), (172, .pointer (some ⟨gy, kk * 5, none⟩)), (173, .pointer (some ⟨gy, kk * 5, none⟩)), (174, .pointer (some ⟨gy, kk * 5 + 1, none⟩))] : List (Tmp × Value)) → zz.1 < a.tmps.size ∧ a1.eval (.tmp zz.1) = zz.2 := by
      intro zz hz
      rw [hlen]
      simp only [List.mem_cons, List.not_mem_nil, or_false] at hz
      rcases hz with rfl | rfl | rfl | rfl | rfl | rfl | rfl | rfl | rfl | rfl | rfl | rfl | rfl | rfl | rfl | rfl | rfl | rfl | rfl
      · exact ⟨(show (156 : Nat) < 219 by omega), hS 0 (by omega)⟩
      · exact ⟨(show (157 : Nat) < 219 by omega), hS 1 (by omega)⟩
      · exact ⟨(show (158 : Nat) < 219 by omega), hS 2 (by omega)⟩
      · exact ⟨(show (159 : Nat) < 219 by omega), hS 3 (by omega)⟩
      · exact ⟨(show (160 : Nat) < 219 by omega), hS 4 (by omega)⟩
      · exact ⟨(show (161 : Nat) < 219 by omega), hS 5 (by omega)⟩
      · exact ⟨(show (162 : Nat) < 219 by omega), hS 6 (by omega)⟩
      · exact ⟨(show (163 : Nat) < 219 by omega), hS 7 (by omega)⟩
      · exact ⟨(show (164 : Nat) < 219 by omega), hS 8 (by omega)⟩
      · exact ⟨(show (165 : Nat) < 219 by omega), hS 9 (by omega)⟩
      · exact ⟨(show (166 : Nat) < 219 by omega), hS 10 (by omega)⟩
      · exact ⟨(show (167 : Nat) < 219 by omega), hS 11 (by omega)⟩
      · exact ⟨(show (168 : Nat) < 219 by omega), hS 12 (by omega)⟩
      · exact ⟨(show (169 : Nat) < 219 by omega), hS 13 (by omega)⟩
      · exact ⟨(show (170 : Nat) < 219 by omega), hS 14 (by omega)⟩
      · exact ⟨(show (171 : Nat) < 219 by omega), hS 15 (by omega)⟩
      · exact ⟨(show (172 : Nat) < 219 by omega), hS 16 (by omega)⟩
      · exact ⟨(show (173 : Nat) < 219 by omega), hS 17 (by omega)⟩
      · exact ⟨(show (174 : Nat) < 219 by omega), hS 18 (by omega)⟩
    have ha := act_puts hsz hdf hall (fun t ht => hold t (all_ne_of (l := [(156, .pointer (some ⟨gy, kk * 5, none⟩)), (157, .pointer (some ⟨gy, kk * 5, none⟩)), (158, .pointer (some ⟨gy, kk * 5, none⟩)), (159, .pointer (some ⟨gy, kk * 5, none⟩)), (160, .pointer (some ⟨gy, kk * 5, none⟩)), (161, .int .i64 (lo)), (162, .pointer (some ⟨gy, kk * 5, none⟩)), (163, .pointer (some ⟨gy, kk * 5, none⟩)), (164, .pointer (some ⟨gy, kk * 5, none⟩)), (165, .pointer (some ⟨gy, kk * 5 + 1, none⟩)), (166, .int .i64 (hx)), (167, .pointer (some ⟨p8, 3, none⟩)), (168, .int .u16 (t3 : Int)), (169, .int .i64 ((t3 : Int))), (170, .int .i64 (hx - (t3 : Int))), (171, .int .i64 (max lo (hx - (t3 : Int)))), (172, .pointer (some ⟨gy, kk * 5, none⟩)), (173, .pointer (some ⟨gy, kk * 5, none⟩)), (174, .pointer (some ⟨gy, kk * 5 + 1, none⟩))]) (by kernel_rfl) ht))
    rw [ha]
    exact K W  hB 
end

set_option maxRecDepth 100000 in
set_option maxHeartbeats 2000000 in
theorem mm15_tail {a : Act} {V : World} {Q : Exit → Act → World → Prop} {gy kk : Nat} {x : Int} {os : List Odr} (ep : a.eval (.tmp 155) = .pointer (some ⟨gy, kk * 5, none⟩)) (ex : a.eval (.tmp 152) = .int .i64 x) (hrow : OrdRow V gy os) (hk : kk < os.length)
    (K : Q .normal a (V.setCell ⟨gy, kk * 5, none⟩ (.int .i64 x))) : wpList Tryz.prog mm15Reg Q (mm15Reg.toList.drop 19) a V := by
  obtain ⟨o6, hdr, h6⟩ : ∃ o6, mm15Reg.toList.drop 19 = [o6] ∧ mm15Reg[19]? = some o6 := by
    have hs : mm15Reg.size = 20 := by kernel_rfl
    refine ⟨mm15Reg[19], ?_, Array.getElem?_eq_getElem _⟩
    rw [List.drop_eq_getElem_cons (by simp [hs]), List.drop_eq_nil_of_le (by simp [hs])]
    simp
  rw [hdr]
  obtain ⟨u, hu⟩ : ∃ u, V.cell? ⟨gy, kk * 5, none⟩ = some u := ⟨_, hrow.cell hk (i := 0) rfl⟩
  have fz := hrow.frozen (kk * 5)
  refine wpList_skip (w' := V.setCell ⟨gy, kk * 5, none⟩ (.int .i64 x)) (op_at h6 (·.guard) (x := none) (by kernel_rfl)) (by simp [execOp, show o6.op = .store 2 (.tmp 155) (.tmp 152) from op_at h6 (·.op) (by kernel_rfl), go_sem, ev ep, ev ex, fz, hu]) ?_
  rw [show o6.dst = none from op_at h6 (·.dst) (by kernel_rfl)]
  exact K

set_option maxRecDepth 100000 in
set_option maxHeartbeats 2000000 in
theorem mm16_tail {a : Act} {V : World} {Q : Exit → Act → World → Prop} {gy kk : Nat} {x : Int} {os : List Odr} (ep : a.eval (.tmp 174) = .pointer (some ⟨gy, kk * 5 + 1, none⟩)) (ex : a.eval (.tmp 171) = .int .i64 x) (hrow : OrdRow V gy os) (hk : kk < os.length)
    (K : Q .normal a (V.setCell ⟨gy, kk * 5 + 1, none⟩ (.int .i64 x))) : wpList Tryz.prog mm16Reg Q (mm16Reg.toList.drop 19) a V := by
  obtain ⟨o6, hdr, h6⟩ : ∃ o6, mm16Reg.toList.drop 19 = [o6] ∧ mm16Reg[19]? = some o6 := by
    have hs : mm16Reg.size = 20 := by kernel_rfl
    refine ⟨mm16Reg[19], ?_, Array.getElem?_eq_getElem _⟩
    rw [List.drop_eq_getElem_cons (by simp [hs]), List.drop_eq_nil_of_le (by simp [hs])]
    simp
  rw [hdr]
  obtain ⟨u, hu⟩ : ∃ u, V.cell? ⟨gy, kk * 5 + 1, none⟩ = some u := ⟨_, hrow.cell hk (i := 1) rfl⟩
  have fz := hrow.frozen (kk * 5 + 1)
  refine wpList_skip (w' := V.setCell ⟨gy, kk * 5 + 1, none⟩ (.int .i64 x)) (op_at h6 (·.guard) (x := none) (by kernel_rfl)) (by simp [execOp, show o6.op = .store 2 (.tmp 174) (.tmp 171) from op_at h6 (·.op) (by kernel_rfl), go_sem, ev ep, ev ex, fz, hu]) ?_
  rw [show o6.dst = none from op_at h6 (·.dst) (by kernel_rfl)]
  exact K

end
end Go.Proofs.YtmlmnljbegcjcaaGreat

/- BathMore: region 14's store of an Age. -/
namespace Go.Proofs.YtmlmnljbegcjcaaGreat
section
open Go.RowKit Go.Shelf
attribute [local irreducible] bitCells

set_option maxRecDepth 100000 in
set_option maxHeartbeats 2000000 in
theorem mm14_tail {a : Act} {V : World} {Q : Exit → Act → World → Prop} {gy kk : Nat} {x y : Int} {os : List Odr} (ep : a.eval (.tmp 136) = .pointer (some ⟨gy, kk * 5 + 2, none⟩)) (ex : a.eval (.tmp 134) = .agg #[.int .i64 x, .int .i64 y]) (hrow : OrdRow V gy os) (hk : kk < os.length)
    (K : Q .normal a ((V.setCell ⟨gy, kk * 5 + 2, none⟩ (.int .i64 x)).setCell ⟨gy, kk * 5 + 2 + 1, none⟩ (.int .i64 y))) : wpList Tryz.prog mm14Reg Q (mm14Reg.toList.drop 24) a V := by
  obtain ⟨o6, hdr, h6⟩ : ∃ o6, mm14Reg.toList.drop 24 = [o6] ∧ mm14Reg[24]? = some o6 := by
    have hs : mm14Reg.size = 25 := by kernel_rfl
    refine ⟨mm14Reg[24], ?_, Array.getElem?_eq_getElem _⟩
    rw [List.drop_eq_getElem_cons (by simp [hs]), List.drop_eq_nil_of_le (by simp [hs])]
    simp
  rw [hdr]
  obtain ⟨u, hu⟩ : ∃ u, V.cell? ⟨gy, kk * 5 + 2, none⟩ = some u := ⟨_, hrow.cell hk (i := 2) rfl⟩
  obtain ⟨u2, hu2⟩ : ∃ u, V.cell? ⟨gy, kk * 5 + 2 + 1, none⟩ = some u := ⟨_, hrow.cell hk (i := 3) rfl⟩
  have fz := hrow.frozen (kk * 5 + 2)
  have fz2 := hrow.frozen (kk * 5 + 2 + 1)
  refine wpList_skip (w' := ((V.setCell ⟨gy, kk * 5 + 2, none⟩ (.int .i64 x)).setCell ⟨gy, kk * 5 + 2 + 1, none⟩ (.int .i64 y))) (op_at h6 (·.guard) (x := none) (by kernel_rfl)) (by simp [execOp, show o6.op = .store 26 (.tmp 136) (.tmp 134) from op_at h6 (·.op) (by kernel_rfl), go_sem, ev ep, ev ex, fz, fz2, hu, hu2]) ?_
  rw [show o6.dst = none from op_at h6 (·.dst) (by kernel_rfl)]
  exact K
end
end Go.Proofs.YtmlmnljbegcjcaaGreat

/- BathMore: the walk. -/
namespace Go.Proofs.YtmlmnljbegcjcaaGreat
section
open Go.RowKit Go.Shelf
attribute [local irreducible] bitCells

theorem IsOrders.flat {w : World} {b off n c : Nat} {os : List Odr} (h : IsOrders w (some ⟨b, off, none⟩) n c os) : ∀ j u, (os.flatMap encO)[j]? = some u → w.cell? ((⟨b, off, none⟩ : Addr).add j) = some u := by
  rcases h.held with e | ⟨b', off', e, _, hc⟩
  · intro j u hu
    rw [e] at hu
    simp at hu
  · cases e
    exact heldO_flat hc
theorem fine_is {A : Option Addr} {n c : Nat} {os : List Odr} {w : World} (h : IsOrders w A n c os) {q : Bool} (hq : decide (ordersErr os = 0) = q) : Calls Tryz.prog 41 #[.slice A n c] w fun e w' => e = .returned (.bool q) ∧ Ext w w' := hq ▸ fine_any h
theorem fewN_pos (os : List Odr) : 0 ≤ fewN os := by unfold fewN; split <;> omega
theorem OrdRow.cellS {w : World} {g : Nat} {os : List Odr} {k : Nat} {o' : Odr} (h : OrdRow w g (os.set k o')) (hk : k < os.length) {i : Nat} {v : Value} (hv : (encO o')[i]? = some v) : w.cell? ⟨g, k * 5 + i, none⟩ = some v :=
  h.cell (k := k) (by rw [List.length_set]; exact hk) (by rw [List.getElem_set_self]; exact hv)
theorem OrdRow.setS {w : World} {g : Nat} {os : List Odr} {k : Nat} {o1 o2 : Odr} (h : OrdRow w g (os.set k o1)) (hk : k < os.length) {i : Nat} (hi : i < 5) {v : Value} (ho : encO o2 = (encO o1).set i v) : OrdRow (w.setCell ⟨g, k * 5 + i, none⟩ v) g (os.set k o2) := by
  have := h.set (k := k) (by rw [List.length_set]; exact hk) hi (o' := o2) (v := v) (by rw [List.getElem_set_self]; exact ho)
  rwa [List.set_set] at this
theorem forErr_of {os : List Odr} (h0 : ordersErr os = 0) {k : Nat} (hk : k ≤ 14) : forErr os (k : Int) = 0 := by
  unfold forErr
  rw [if_pos h0, if_pos ⟨by omega, by omega⟩]
theorem born_snoc {os : List Odr} {q : Odr} (h0 : ordersErr (os ++ [q]) = 0) : birthsAns (os ++ [q]) (os.length : Int) = if hasB q = true then ((bLo q, bHi q), 0) else ((0, 0), 22) := by
  have := born_at h0 (k := os.length) (by simp)
  simpa using this

set_option maxRecDepth 100000 in
set_option maxHeartbeats 8000000 in
theorem moreLaw_any {A : Option Addr} {n c : Nat} {os : List Odr} {w : World} (h : IsOrders w A n c os) (qa qb qc qd qe : Int) (u2 a0 a1 a2 a3 u4 : Nat) (h0 : ordersErr os = 0) (hu2 : u2 ≤ 255) (ha0 : a0 ≤ 65535) (ha1 : a1 ≤ 65535) (ha2 : a2 ≤ 65535) (ha3 : a3 ≤ 65535) (hu4 : u4 ≤ 255) :
    Calls Tryz.prog 11 #[.slice A n c, .agg #[.int .i64 qa, .int .i64 qb, .int .i64 qc, .int .i64 qd, .int .i64 qe], .int .u8 (u2 : Int), .agg #[.int .u16 (a0 : Int), .int .u16 (a1 : Int), .int .u16 (a2 : Int), .int .u16 (a3 : Int)], .int .u8 (u4 : Int)] w fun e w' => e = .returned (.bool true) ∧ Ext w w' := by
  have hn := h.len
  have hok := orders_ok h0
  have hcap := h.cap
  obtain ⟨b, off, rfl, -, -⟩ := held_at h.held (show 0 < os.length by omega)
  have H := Lib.hid h
  have HZ := Lib.hid (And.intro h0 (And.intro hn hok))
  obtain ⟨q, hq⟩ : ∃ q : Odr, q = ⟨qa, qb, qc, qd, qe⟩ := ⟨_, rfl⟩
  obtain ⟨N, hN⟩ : ∃ N, fewN os = N := ⟨_, rfl⟩
  have HNN := Lib.hid hN
  have HQQ := Lib.hid hq
  have HU := Lib.hid (And.intro hu2 (And.intro hu4 (And.intro ha0 (And.intro ha1 (And.intro ha2 ha3)))))
  clear hu2 hu4 ha0 ha1 ha2 ha3
  clear h hok hn h0 hN hq
  go_enter Tryz.func11, Tryz.ntmps11
  go_upto_region 1 with fail
  obtain ⟨w1, hw1⟩ : ∃ w1, (w.alloc (.cells #[.int .i64 qa, .int .i64 qb, .int .i64 qc, .int .i64 qd, .int .i64 qe] 56)).alloc (.cells #[.int .u16 (a0 : Int), .int .u16 (a1 : Int), .int .u16 (a2 : Int), .int .u16 (a3 : Int)] 66) = w1 := ⟨_, rfl⟩
  obtain ⟨pq, hpq⟩ : ∃ pq, w.heap.size = pq := ⟨_, rfl⟩
  have e1 : Ext w w1 := by rw [← hw1]; exact (ext_alloc _ _).trans (ext_alloc _ _)
  have rq : w1.heap[pq]? = some (.cells (encO q).toArray 56 (0, 0)) := by rw [← hw1, HQQ.out]; exact row_alloc _ _ _ _ (row_last _ _ _ hpq.symm)
  have rb : w1.heap[pq + 1]? = some (.cells #[.int .u16 (a0 : Int), .int .u16 (a1 : Int), .int .u16 (a2 : Int), .int .u16 (a3 : Int)] 66 (0, 0)) := by rw [← hw1]; exact row_last _ _ _ (by simp [hpq])
  rw [hw1, hpq]
  obtain ⟨p8, hp8⟩ : ∃ p8, pq + 1 = p8 := ⟨_, rfl⟩
  rw [hp8] at rb ⊢
  have HX := Lib.hid e1
  have HQ := Lib.hid rq
  have HB := Lib.hid rb
  clear hw1 hpq e1 rq rb hp8
  have hf := fine_is (H.out.ext HX.out) (decide_eq_true HZ.out.1)
  go_wp2_with fail
  refine hf.mono ?_
  rintro e w2 ⟨rfl, e2⟩
  replace HX := Lib.hid (HX.out.trans e2)
  replace HQ := Lib.hid (row_ext HQ.out e2)
  replace HB := Lib.hid (row_ext HB.out e2)
  clear hf e2
  have h1 := fewest_any (H.out.ext HX.out)
  rw [fewOk_of HZ.out.1, HNN.out] at h1
  go_wp2_with fail
  refine h1.mono ?_
  rintro e w3 ⟨e3, rfl⟩
  replace HX := Lib.hid (HX.out.trans e3)
  replace HQ := Lib.hid (row_ext HQ.out e3)
  replace HB := Lib.hid (row_ext HB.out e3)
  clear h1 e3
  go_upto_region 6 with fail
  refine mr6_wp (pm := pq) (b1 := b) (o1 := off) (n := n) (c := c) (B := w3.heap.size) (ms := os) (q := q) rfl rfl rfl (Nat.le_refl _) HZ.out.2.1 (by have := HZ.out; omega) (by have := HZ.out; omega) (fun W hW => ((H.out.ext HX.out).ext hW).flat) (fun W hW => row_ext HQ.out hW) ?_
  rintro W v0 v2 v4 eW ⟨g4, cap4, rfl, hg4, hown⟩ ⟨g5, rfl, hr5⟩
  simp only [puts, List.foldl_cons, List.foldl_nil, Act.put, List.setIfInBounds_toArray, List.set_cons_succ, List.set_cons_zero]
  refine mr6_tail (n := n) (g1 := g4) (cap1 := cap4) (g2 := g5) (B := w3.heap.size) (ms := os) (q := q) rfl rfl rfl hown hg4 eW.size hr5 (by have := HZ.out; omega) ?_
  intro g6 cap6 w6 hown6 hB6
  have hl6 : n + 1 = (os ++ [q]).length := by rw [List.length_append, ← HZ.out.2.1]; rfl
  have hfin := own_held (enc := encO) (xs := os ++ [q]) (fun _ => rfl) hl6 hown6
  have e6 : Ext w3 w6 := Below.trans (show Below w3.heap.size w3 W from eW) hB6
  have HXO := Lib.hid (show IsOrders w6 (some ⟨g6, 0, none⟩) (n + 1) cap6 (os ++ [q]) from ⟨hl6, by have := HZ.out; omega, hfin.2, hfin.1⟩)
  replace HX := Lib.hid (HX.out.trans e6)
  replace HQ := Lib.hid (row_ext HQ.out e6)
  replace HB := Lib.hid (row_ext HB.out e6)
  clear hl6 hfin e6 hown6 hB6 hown hr5 eW
  simp only [Act.put, List.setIfInBounds_toArray, List.set_cons_succ, List.set_cons_zero]
  have hfx := fine_any HXO.out
  obtain ⟨fx, hfxq⟩ : ∃ fx, decide (ordersErr (os ++ [q]) = 0) = fx := ⟨_, rfl⟩
  rw [hfxq] at hfx
  have HFX := Lib.hid hfxq
  clear hfxq
  go_upto_if 46 with (refine hfx.mono ?_; rintro e w7 ⟨rfl, e7⟩)
  replace HX := Lib.hid (HX.out.trans e7)
  replace HQ := Lib.hid (row_ext HQ.out e7)
  replace HB := Lib.hid (row_ext HB.out e7)
  replace HXO := Lib.hid (HXO.out.ext e7)
  clear hfx e7
  go_cut [16] from 45 to 102 (fun _ wx => Ext w7 wx)
  case first =>
    cases fx with
    | false =>
      go_wp2
      go_meet
      case rel => exact Ext.refl _
    | true =>
      have hx0 : ordersErr (os ++ [q]) = 0 := of_decide_eq_true HFX.out
      have hbs := born_snoc hx0
      have hfs := few_snoc HZ.out.1 hx0
      have hN100 := fewN_le HZ.out.1
      rw [HNN.out] at hfs hN100
      rw [← HZ.out.2.1] at hbs
      have h1 := births_any HXO.out (n : Int)
      rw [hbs] at h1
      have h2 := fun W (hW : Ext w7 W) => fewest_any (HXO.out.ext hW)
      rw [fewOk_of hx0] at h2
      obtain ⟨M, hM⟩ : ∃ M, fewN (os ++ [q]) = M := ⟨_, rfl⟩
      rw [hM] at h2 hfs
      have H2 := Lib.hid h2
      clear hbs hx0 hM h2
      cases hb : hasB q with
      | true =>
        have hlh : bLo q ≤ bHi q := by unfold hasB at hb; simpa using hb
        rw [if_pos hb] at h1
        have hfs := hfs.1 hb
        obtain ⟨lo, hlo⟩ : ∃ lo, bLo q = lo := ⟨_, rfl⟩
        obtain ⟨hi, hhi⟩ : ∃ hi, bHi q = hi := ⟨_, rfl⟩
        rw [hlo, hhi] at h1 hlh
        have HFS := Lib.hid hfs
        clear hlo hhi hb hfs
        go_wp2_with fail
        refine h1.mono ?_
        rintro e w8 ⟨rfl, e8⟩
        clear h1
        go_upto_region 9 with fail
        obtain ⟨p14, hp14⟩ : ∃ p14, w8.heap.size = p14 := ⟨_, rfl⟩
        obtain ⟨w9, hw9⟩ : ∃ w9, w8.alloc (.cells #[.int .i64 lo, .int .i64 hi] 26) = w9 := ⟨_, rfl⟩
        have e9 : Ext w8 w9 := by rw [← hw9]; exact ext_alloc _ _
        have r14 : w9.heap[p14]? = some (.cells #[.int .i64 lo, .int .i64 hi] 26 (0, 0)) := by rw [← hw9]; exact row_last _ _ _ hp14.symm
        rw [hw9, hp14]
        have R14 := Lib.hid r14
        have HX9 := Lib.hid (e8.trans e9)
        have h2 := H2.out w9 HX9.out
        clear hw9 hp14 e8 e9 r14
        go_wp2_with fail
        refine h2.mono ?_
        rintro e w10 ⟨e10, rfl⟩
        have c0 : w10.cell? ⟨p14, 0, none⟩ = some (.int .i64 lo) := cell_of_row _ _ 0 _ _ _ (row_ext R14.out e10)
        have c1 : w10.cell? ⟨p14, 1, none⟩ = some (.int .i64 hi) := cell_of_row _ _ 1 _ _ _ (row_ext R14.out e10)
        have HX10 := Lib.hid (HX9.out.trans e10)
        have hN0 := fewN_pos os
        rw [HNN.out] at hN0
        have hwN : IntKind.i64.wrap (N + 1) = N + 1 := IntWalk.i64_in _ (by omega)
        have hle : ¬ hi < lo := by omega
        clear h2 e10 hlh
        by_cases hl : N < 100
        · rcases HFS.out hl with hm | hm
          · subst hm
            go_wp2
            go_meet
            case rel => exact HX10.out
          · subst hm
            go_wp2
            go_meet
            case rel => exact HX10.out
        · go_wp2
          go_meet
          case rel => exact HX10.out
      | false =>
        rw [if_neg (by rw [hb]; decide)] at h1
        have hfs := hfs.2 hb
        subst hfs
        clear hb
        go_wp2_with fail
        refine h1.mono ?_
        rintro e w8 ⟨rfl, e8⟩
        clear h1
        go_upto_region 9 with fail
        have e9 : Ext w8 (w8.alloc (.cells #[.int .i64 0, .int .i64 0] 26)) := ext_alloc _ _
        obtain ⟨w9, hw9⟩ : ∃ w9, w8.alloc (.cells #[.int .i64 0, .int .i64 0] 26) = w9 := ⟨_, rfl⟩
        rw [hw9] at e9 ⊢
        have HX9 := Lib.hid (e8.trans e9)
        have h2 := H2.out w9 HX9.out
        clear hw9 e8 e9
        go_wp2_with fail
        refine h2.mono ?_
        rintro e w10 ⟨e10, rfl⟩
        have HX10 := Lib.hid (HX9.out.trans e10)
        clear h2 e10
        by_cases hl : N < 100
        · go_wp2
          go_meet
          case rel => exact HX10.out
        · go_wp2
          go_meet
          case rel => exact HX10.out
  case rest =>
    replace HX := Lib.hid (HX.out.trans hcut)
    replace HQ := Lib.hid (row_ext HQ.out hcut)
    replace HB := Lib.hid (row_ext HB.out hcut)
    clear hcut HXO
    obtain ⟨kk, hkk⟩ : ∃ kk, u2 % n = kk := ⟨_, rfl⟩
    have hk0 : kk < n := by rw [← hkk]; exact Nat.mod_lt _ (by have := HZ.out; omega)
    have hkz : (kk : Int) < (n : Int) := by omega
    have hn0 : ¬ (n : Int) = 0 := by omega
    have hn0' : ¬ n = 0 := by omega
    have hmod : (u2 : Int).tmod (n : Int) = (kk : Int) := by rw [← Int.ofNat_tmod, hkk]
    have hcu : IntKind.i64.wrap (u2 : Int) = (u2 : Int) := IntWalk.i64_in _ (by have := HU.out; omega)
    have hwn : w.heap.size ≤ wc.heap.size := HX.out.size
    have hp8 : p8 < wc.heap.size := (Array.getElem?_eq_some_iff.1 HB.out).1
    have HP := Lib.hid (And.intro hwn hp8)
    have HKK := Lib.hid hk0
    clear hkk hwn hp8
    go_upto_region 14 with (at_builtin; refine wpList_copyO rfl 103 104 rfl _ b off n c os rfl rfl HZ.out.2.1 (by omega) (by have := HZ.out; omega) ((H.out.ext HX.out).ext (ext_alloc _ _)).flat ?_; intro gy capy wy hown hgy hBy; have HY := Lib.hid (OrdRow.of_own hown); have HCY := Lib.hid (own_held (enc := encO) (xs := os) (fun _ => rfl) HZ.out.2.1 hown).2; have HGY := Lib.hid hgy; have HBY := Lib.hid (show Ext (wc.alloc (.cells #[] 56)) wy from hBy); clear hown hgy hBy)
    have hgy : wc.heap.size < gy + 1 := Nat.lt_succ_of_le (Nat.le_trans (ext_alloc wc (.cells #[] 56)).size HGY.out)
    have hXy : Ext wc wy := (ext_alloc _ _).trans HBY.out
    have HG := Lib.hid (show w.heap.size ≤ gy ∧ p8 ≠ gy by have := HP.out; omega)
    have HXY := Lib.hid (HX.out.trans hXy)
    have HBB := Lib.hid (row_ext HB.out hXy)
    clear hgy hXy
    have hkl : kk < os.length := by rw [← HZ.out.2.1]; exact HKK.out
    have HKL := Lib.hid hkl
    have hok := ordOk_iff.1 (HZ.out.2.2.2 os[kk] (List.getElem_mem hkl))
    have hset : os.set kk os[kk] = os := List.set_getElem_self _
    obtain ⟨o, ho⟩ : ∃ o, os[kk] = o := ⟨_, rfl⟩
    have HO := Lib.hid ho
    rw [ho] at hok hset
    obtain ⟨lo, hx, yo, ol, wo⟩ := o
    dsimp only at hok
    have hY0 := HY.out
    rw [← hset] at hY0
    have HY0 := Lib.hid hY0
    have HOK := Lib.hid hok
    have hc0 : IntKind.i64.wrap (a0 : Int) = (a0 : Int) := IntWalk.i64_in _ (by have := HU.out; omega)
    have hc1 : IntKind.i64.wrap (a1 : Int) = (a1 : Int) := IntWalk.i64_in _ (by have := HU.out; omega)
    have hw1 : IntKind.i64.wrap (yo - (a0 : Int)) = yo - (a0 : Int) := IntWalk.i64_in _ (by have := HU.out; have := HOK.out; omega)
    have hw2 : IntKind.i64.wrap (ol + (a1 : Int)) = ol + (a1 : Int) := IntWalk.i64_in _ (by have := HU.out; have := HOK.out; omega)
    refine mm14_wp (gy := gy) (kk := kk) (p8 := p8) (t0 := a0) (t1 := a1) (ya := yo) (ol := ol) rfl rfl rfl (fun W hW => (HY0.out.ext hW).cellS HKL.out (i := 2) rfl) (fun W hW => cell_of_row _ _ 0 _ _ _ (row_ext HBB.out hW)) hc0 hw1 (fun W hW => (HY0.out.ext hW).cellS HKL.out (i := 3) rfl) (fun W hW => cell_of_row _ _ 1 _ _ _ (row_ext HBB.out hW)) hc1 hw2 ?_
    intro W1 eW1
    simp only [puts, List.foldl_cons, List.foldl_nil, Act.put, List.setIfInBounds_toArray, List.set_cons_succ, List.set_cons_zero]
    refine mm14_tail (gy := gy) (kk := kk) rfl rfl (HY.out.ext eW1) HKL.out ?_
    obtain ⟨Y, hY⟩ : ∃ Y, max 0 (yo - (a0 : Int)) = Y := ⟨_, rfl⟩
    obtain ⟨Z, hZ⟩ : ∃ Z, min 10000 (ol + (a1 : Int)) = Z := ⟨_, rfl⟩
    rw [hY, hZ]
    obtain ⟨w11, hw11⟩ : ∃ w11, (W1.setCell ⟨gy, kk * 5 + 2, none⟩ (.int .i64 Y)).setCell ⟨gy, kk * 5 + 2 + 1, none⟩ (.int .i64 Z) = w11 := ⟨_, rfl⟩
    have hr1 : OrdRow w11 gy (os.set kk ⟨lo, hx, Y, Z, wo⟩) := by
      rw [← hw11]
      exact ((HY0.out.ext eW1).setS HKL.out (i := 2) (o2 := ⟨lo, hx, Y, ol, wo⟩) (by omega) rfl).setS HKL.out (i := 3) (by omega) rfl
    have hb1 : w11.heap[p8]? = some (.cells #[.int .u16 (a0 : Int), .int .u16 (a1 : Int), .int .u16 (a2 : Int), .int .u16 (a3 : Int)] 66 (0, 0)) := by
      rw [← hw11, heap_set_other _ _ _ _ _ HG.out.2, heap_set_other _ _ _ _ _ HG.out.2]
      exact row_ext HBB.out eW1
    have hx1 : Ext w w11 := by rw [← hw11]; exact set_kept (set_kept (HXY.out.trans eW1) HG.out.1) HG.out.1
    rw [hw11]
    have HR1 := Lib.hid hr1
    have HB1 := Lib.hid hb1
    have HX1 := Lib.hid hx1
    have HYZ := Lib.hid (And.intro hY hZ)
    clear hr1 hb1 hx1 hw11 hY hZ eW1 hc0 hc1 hw1 hw2 hok hset ho hkl hY0
    go_upto_region 15 with fail
    have hc2 : IntKind.i64.wrap (a2 : Int) = (a2 : Int) := IntWalk.i64_in _ (by have := HU.out; omega)
    have hw3 : IntKind.i64.wrap (lo + (a2 : Int)) = lo + (a2 : Int) := IntWalk.i64_in _ (by have := HU.out; have := HOK.out; omega)
    refine mm15_wp (gy := gy) (kk := kk) (p8 := p8) (t2 := a2) (lo := lo) (hx := hx) rfl rfl rfl (fun W hW => (HR1.out.ext hW).cellS HKL.out (i := 1) rfl) (fun W hW => (HR1.out.ext hW).cellS HKL.out (i := 0) rfl) (fun W hW => cell_of_row _ _ 2 _ _ _ (row_ext HB1.out hW)) hc2 hw3 ?_
    intro W2 eW2
    simp only [puts, List.foldl_cons, List.foldl_nil, Act.put, List.setIfInBounds_toArray, List.set_cons_succ, List.set_cons_zero]
    refine mm15_tail (gy := gy) (kk := kk) rfl rfl (HR1.out.ext eW2) (by rw [List.length_set]; exact HKL.out) ?_
    obtain ⟨L, hL⟩ : ∃ L, min hx (lo + (a2 : Int)) = L := ⟨_, rfl⟩
    rw [hL]
    obtain ⟨w12, hw12⟩ : ∃ w12, W2.setCell ⟨gy, kk * 5, none⟩ (.int .i64 L) = w12 := ⟨_, rfl⟩
    have hr2 : OrdRow w12 gy (os.set kk ⟨L, hx, Y, Z, wo⟩) := by
      rw [← hw12]
      exact (HR1.out.ext eW2).setS HKL.out (i := 0) (by omega) rfl
    have hb2 : w12.heap[p8]? = some (.cells #[.int .u16 (a0 : Int), .int .u16 (a1 : Int), .int .u16 (a2 : Int), .int .u16 (a3 : Int)] 66 (0, 0)) := by
      rw [← hw12, heap_set_other _ _ _ _ _ HG.out.2]
      exact row_ext HB1.out eW2
    have hx2 : Ext w w12 := by rw [← hw12]; exact set_kept (HX1.out.trans eW2) HG.out.1
    rw [hw12]
    have HR2 := Lib.hid hr2
    have HB2 := Lib.hid hb2
    have HX2 := Lib.hid hx2
    have HL := Lib.hid hL
    clear hr2 hb2 hx2 hw12 hL eW2 hc2 hw3
    go_upto_region 16 with fail
    have hc3 : IntKind.i64.wrap (a3 : Int) = (a3 : Int) := IntWalk.i64_in _ (by have := HU.out; omega)
    have hw4 : IntKind.i64.wrap (hx - (a3 : Int)) = hx - (a3 : Int) := IntWalk.i64_in _ (by have := HU.out; have := HOK.out; omega)
    refine mm16_wp (gy := gy) (kk := kk) (p8 := p8) (t3 := a3) (lo := L) (hx := hx) rfl rfl rfl (fun W hW => (HR2.out.ext hW).cellS HKL.out (i := 0) rfl) (fun W hW => (HR2.out.ext hW).cellS HKL.out (i := 1) rfl) (fun W hW => cell_of_row _ _ 3 _ _ _ (row_ext HB2.out hW)) hc3 hw4 ?_
    intro W3 eW3
    simp only [puts, List.foldl_cons, List.foldl_nil, Act.put, List.setIfInBounds_toArray, List.set_cons_succ, List.set_cons_zero]
    refine mm16_tail (gy := gy) (kk := kk) rfl rfl (HR2.out.ext eW3) (by rw [List.length_set]; exact HKL.out) ?_
    obtain ⟨X, hX⟩ : ∃ X, max L (hx - (a3 : Int)) = X := ⟨_, rfl⟩
    rw [hX]
    obtain ⟨w13, hw13⟩ : ∃ w13, W3.setCell ⟨gy, kk * 5 + 1, none⟩ (.int .i64 X) = w13 := ⟨_, rfl⟩
    have hr3 : OrdRow w13 gy (os.set kk ⟨L, X, Y, Z, wo⟩) := by
      rw [← hw13]
      exact (HR2.out.ext eW3).setS HKL.out (i := 1) (by omega) rfl
    have hx3 : Ext w w13 := by rw [← hw13]; exact set_kept (HX2.out.trans eW3) HG.out.1
    rw [hw13]
    have hmo : (⟨L, X, Y, Z, wo⟩ : Odr) = moreO ⟨lo, hx, yo, ol, wo⟩ a0 a1 a2 a3 := by
      unfold moreO
      rw [← hX, ← HL.out, ← HYZ.out.1, ← HYZ.out.2]
    obtain ⟨hk1, hk2⟩ := moreO_ok (o := os[kk]'HKL.out) (b0 := (a0 : Int)) (b1 := (a1 : Int)) (b2 := (a2 : Int)) (b3 := (a3 : Int)) (HZ.out.2.2.2 _ (List.getElem_mem _)) (by omega) (by omega) (by omega) (by omega)
    have hho : os[kk]'HKL.out = ⟨lo, hx, yo, ol, wo⟩ := HO.out
    have hw' : Wider (os[kk]'HKL.out) ⟨L, X, Y, Z, wo⟩ := by rw [hmo, ← hho]; exact hk2
    have hk' : ordOk ⟨L, X, Y, Z, wo⟩ = true := by rw [hmo, ← hho]; exact hk1
    have he3 := ordersErr_set HZ.out.1 HKL.out hk'
    have hfl := fewN_set HZ.out.1 HKL.out hk' hw'
    have hml := fun m => most_set (fun o ho => (ordOk_iff.1 (HZ.out.2.2.2 o ho)).2.2.1) HKL.out hw' m
    have hl3 : (os.set kk ⟨L, X, Y, Z, wo⟩).length = n := by rw [List.length_set]; exact HZ.out.2.1.symm
    have hi3 : IsOrders w13 (some ⟨gy, 0, none⟩) n capy (os.set kk ⟨L, X, Y, Z, wo⟩) := by
      have := hr3.orders (c := capy) (by rw [hl3]; have := HZ.out; omega) (by rw [hl3]; exact HCY.out)
      rwa [hl3] at this
    obtain ⟨ys, hys⟩ : ∃ ys, os.set kk ⟨L, X, Y, Z, wo⟩ = ys := ⟨_, rfl⟩
    rw [hys] at he3 hfl hml hi3
    rw [HNN.out] at hfl
    obtain ⟨m, hm⟩ : ∃ m, u4 % 15 = m := ⟨_, rfl⟩
    have hm14 : m ≤ 14 := by omega
    have hmod4 : (u4 : Int).tmod 15 = (m : Int) := by rw [← hm, Int.ofNat_tmod]; rfl
    have hcu4 : IntKind.i64.wrap (u4 : Int) = (u4 : Int) := IntWalk.i64_in _ (by have := HU.out; omega)
    have HY3 := Lib.hid hi3
    have HX3 := Lib.hid hx3
    have HE3 := Lib.hid (And.intro he3 (And.intro hm14 (hml m)))
    have h1 := fewest_any hi3
    rw [fewOk_of he3] at h1
    obtain ⟨N3, hN3⟩ : ∃ N3, fewN ys = N3 := ⟨_, rfl⟩
    rw [hN3] at h1 hfl
    clear hmo hk1 hk2 hho hw' hk' he3 hml hl3 hi3 hys hr3 hx3 hw13 hX hm hN3 hc3 hw4 eW3 hm14
    go_wp2_with fail
    refine h1.mono ?_
    rintro e w14 ⟨e14, rfl⟩
    replace HX3 := Lib.hid (HX3.out.trans e14)
    replace HY3 := Lib.hid (HY3.out.ext e14)
    clear h1 e14
    have h1 := most36_ok (H.out.ext HX3.out) m HE3.out.2.1 (forErr_of HZ.out.1 HE3.out.2.1)
    have h2 := fun W (hW : Ext w14 W) => most36_ok (HY3.out.ext hW) m HE3.out.2.1 (forErr_of HE3.out.1 HE3.out.2.1)
    have hmm := HE3.out.2.2
    obtain ⟨U, hU⟩ : ∃ U, (mostOf os m).2 = U := ⟨_, rfl⟩
    obtain ⟨V, hV⟩ : ∃ V, (mostOf ys m).2 = V := ⟨_, rfl⟩
    rw [hU] at h1 hmm
    simp only [hV] at h2 hmm
    have H2 := Lib.hid h2
    clear hU hV h2
    go_wp2_with fail
    refine h1.mono ?_
    rintro e w15 ⟨e15, v1, rfl, _⟩
    replace HX3 := Lib.hid (HX3.out.trans e15)
    have h3 := H2.out w15 e15
    clear h1 e15
    go_wp2_with fail
    refine h3.mono ?_
    rintro e w16 ⟨e16, v2, rfl, _⟩
    replace HX3 := Lib.hid (HX3.out.trans e16)
    have h15 := works_any w16
    clear h3 e16
    go_wp2_with fail
    refine h15.mono ?_
    rintro e w17 ⟨rfl, e17⟩
    have HE := Lib.hid (HX3.out.trans e17)
    clear h15 e17
    go_wp2
    go_ret
    exact ⟨rfl, HE.out⟩

set_option maxRecDepth 100000 in
set_option maxHeartbeats 8000000 in
theorem moreNot_any {A : Option Addr} {n c : Nat} {os : List Odr} {w : World} (h : IsOrders w A n c os) (qa qb qc qd qe y2 a0 a1 a2 a3 y4 : Int) (h0 : ordersErr os ≠ 0) :
    Calls Tryz.prog 11 #[.slice A n c, .agg #[.int .i64 qa, .int .i64 qb, .int .i64 qc, .int .i64 qd, .int .i64 qe], .int .u8 y2, .agg #[.int .u16 a0, .int .u16 a1, .int .u16 a2, .int .u16 a3], .int .u8 y4] w fun e w' => e = .returned (.bool true) ∧ Ext w w' := by
  have hf := fun W (hW : Ext w W) => fine_is (h.ext hW) (decide_eq_false h0)
  have HF := Lib.hid hf
  clear h h0 hf
  go_enter Tryz.func11, Tryz.ntmps11
  go_upto_region 1 with fail
  obtain ⟨w1, hw1⟩ : ∃ w1, (w.alloc (.cells #[.int .i64 qa, .int .i64 qb, .int .i64 qc, .int .i64 qd, .int .i64 qe] 56)).alloc (.cells #[.int .u16 a0, .int .u16 a1, .int .u16 a2, .int .u16 a3] 66) = w1 := ⟨_, rfl⟩
  have e1 : Ext w w1 := by rw [← hw1]; exact (ext_alloc _ _).trans (ext_alloc _ _)
  rw [hw1]
  have hf := HF.out w1 e1
  have HX := Lib.hid e1
  clear hw1 e1
  go_wp2_with fail
  refine hf.mono ?_
  rintro e w2 ⟨rfl, e2⟩
  replace HX := Lib.hid (HX.out.trans e2)
  have h15 := works_any w2
  clear hf e2
  go_wp2_with fail
  refine h15.mono ?_
  rintro e w3 ⟨rfl, e3⟩
  have HE := Lib.hid (HX.out.trans e3)
  clear h15 e3
  go_wp2
  go_ret
  exact ⟨rfl, HE.out⟩

theorem moreAll_any {A : Option Addr} {n c : Nat} {os : List Odr} {w : World} (h : IsOrders w A n c os) (qa qb qc qd qe y2 a0 a1 a2 a3 y4 : Int) (h2 : 0 ≤ y2 ∧ y2 ≤ 255) (g0 : 0 ≤ a0 ∧ a0 ≤ 65535) (g1 : 0 ≤ a1 ∧ a1 ≤ 65535) (g2 : 0 ≤ a2 ∧ a2 ≤ 65535) (g3 : 0 ≤ a3 ∧ a3 ≤ 65535) (h4 : 0 ≤ y4 ∧ y4 ≤ 255) :
    Calls Tryz.prog 11 #[.slice A n c, .agg #[.int .i64 qa, .int .i64 qb, .int .i64 qc, .int .i64 qd, .int .i64 qe], .int .u8 y2, .agg #[.int .u16 a0, .int .u16 a1, .int .u16 a2, .int .u16 a3], .int .u8 y4] w fun e w' => e = .returned (.bool true) ∧ Ext w w' := by
  by_cases h0 : ordersErr os = 0
  · obtain ⟨u2, rfl⟩ : ∃ u : Nat, y2 = (u : Int) := ⟨y2.toNat, by omega⟩
    obtain ⟨u4, rfl⟩ : ∃ u : Nat, y4 = (u : Int) := ⟨y4.toNat, by omega⟩
    obtain ⟨b0, rfl⟩ : ∃ u : Nat, a0 = (u : Int) := ⟨a0.toNat, by omega⟩
    obtain ⟨b1, rfl⟩ : ∃ u : Nat, a1 = (u : Int) := ⟨a1.toNat, by omega⟩
    obtain ⟨b2, rfl⟩ : ∃ u : Nat, a2 = (u : Int) := ⟨a2.toNat, by omega⟩
    obtain ⟨b3, rfl⟩ : ∃ u : Nat, a3 = (u : Int) := ⟨a3.toNat, by omega⟩
    exact moreLaw_any h qa qb qc qd qe u2 b0 b1 b2 b3 u4 h0 (by omega) (by omega) (by omega) (by omega) (by omega) (by omega)
  · exact moreNot_any h qa qb qc qd qe y2 a0 a1 a2 a3 y4 h0
end
end Go.Proofs.YtmlmnljbegcjcaaGreat

/- An order, and four small numbers, that come in as arguments. -/
namespace Go.Proofs.YtmlmnljbegcjcaaGreat
section
open Go.ChangeShapes Go.WideShapes Go.ChangeAt Go.RowKit Go.Deep Go.Joins

section
variable {H : Type} {enc : TypeId × Value → H} {w : World} {base : Nat} {held : Bool}

set_option maxRecDepth 100000 in
theorem open_order {r : Reach} {b0 : Nat} {v : Value} {d : DataW H} {p : List MemPlace} (hv : Value.okWide Tryz.prog w r b0 56 v) (h : DataW.Trod enc Tryz.prog w base (fun _ => true) held 56 v d p) :
    ∃ a b c d e, v = .agg #[.int .i64 a, .int .i64 b, .int .i64 c, .int .i64 d, .int .i64 e] := by
  obtain ⟨cs, rfl, hsz, _⟩ : ∃ cs, v = .agg cs ∧ cs.size = Tryz.prog.cellsOf 56 ∧ Row.okWide Tryz.prog w r b0 56 cs := by
    simpa [Value.okWide, Tryz.underlying56] using hv
  obtain ⟨fuel, hf⟩ := h
  obtain ⟨z, hz⟩ := order_of_trod hf
  obtain ⟨l⟩ := cs
  have e : l = encO z := hz
  exact ⟨z.lo, z.hi, z.young, z.old, z.worth, by rw [e]; rfl⟩

theorem len4 {α : Type} (l : List α) (h : l.length = 4) : ∃ a b c d, l = [a, b, c, d] := by
  match l, h with
  | [a, b, c, d], _ => exact ⟨a, b, c, d, rfl⟩
theorem u16_bounds {x : Int} (h : (Lit.int .u16 x).wf) : 0 ≤ x ∧ x ≤ 65535 := by
  simpa [Lit.wf, IntKind.min, IntKind.max, IntKind.signed, IntKind.bits] using h
set_option maxRecDepth 100000 in
theorem open_four {r : Reach} {b0 : Nat} {v : Value} {d : DataW H} {p : List MemPlace} (hv : Value.okWide Tryz.prog w r b0 66 v) (h : DataW.Trod enc Tryz.prog w base (fun _ => true) held 66 v d p) :
    ∃ x y z t, v = .agg #[.int .u16 x, .int .u16 y, .int .u16 z, .int .u16 t] ∧ (0 ≤ x ∧ x ≤ 65535) ∧ (0 ≤ y ∧ y ≤ 65535) ∧ (0 ≤ z ∧ z ≤ 65535) ∧ 0 ≤ t ∧ t ≤ 65535 := by
  obtain ⟨cs, rfl, hsz, _⟩ : ∃ cs, v = .agg cs ∧ cs.size = Tryz.prog.cellsOf 66 ∧ Row.okWide Tryz.prog w r b0 66 cs := by
    simpa [Value.okWide, Tryz.underlying66] using hv
  rw [show Tryz.prog.cellsOf 66 = 4 from by kernel_rfl] at hsz
  obtain ⟨l⟩ := cs
  obtain ⟨c0, c1, c2, c3, rfl⟩ := len4 l hsz
  obtain ⟨fuel, hf⟩ := h
  obtain ⟨xs, m, _, hx, _, hl, hel⟩ := DataW.trod_array Tryz.underlying66 hf
  obtain ⟨y0, y1, y2, y3, rfl⟩ := len4 xs hl
  have h0 := hel 0 (by omega)
  have h1 := hel 1 (by omega)
  have h2 := hel 2 (by omega)
  have h3 := hel 3 (by omega)
  simp only [show Tryz.prog.cellsOf 54 = 1 from by kernel_rfl, Nat.mul_one, Value.cells, List.drop_zero, List.take_succ_cons, List.take_zero, List.drop_succ_cons, List.getElem?_cons_zero, List.getElem?_cons_succ] at h0 h1 h2 h3
  obtain ⟨x, ex, rfl, wx⟩ := DataW.trod_int Tryz.underlying54 h0
  obtain ⟨y, ey, rfl, wy⟩ := DataW.trod_int Tryz.underlying54 h1
  obtain ⟨z, ez, rfl, wz⟩ := DataW.trod_int Tryz.underlying54 h2
  obtain ⟨t, et, rfl, wt⟩ := DataW.trod_int Tryz.underlying54 h3
  simp only [List.cons.injEq, and_true] at ex ey ez et
  subst ex ey ez et
  exact ⟨x, y, z, t, rfl, u16_bounds wx, u16_bounds wy, u16_bounds wz, u16_bounds wt⟩
end
end
end Go.Proofs.YtmlmnljbegcjcaaGreat

