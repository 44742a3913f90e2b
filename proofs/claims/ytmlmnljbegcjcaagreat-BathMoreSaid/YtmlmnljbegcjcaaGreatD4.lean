/- Texts of one package, joined: Bits, Entered. -/
import Derived.Test.YtmlmnljbegcjcaaGreatD2
import Derived.Lib.SliceRun
import Derived.Great.Walk
/- Marks of orders, as an array of fourteen: made, stored, loaded, cleared as one row. -/
namespace Go.Proofs.YtmlmnljbegcjcaaGreat
open Go.RowKit Go.Shelf

/-- Fourteen marks, as cells. -/
def bitCells (M : Nat → Bool) : Array Value := Array.ofFn (n := 14) fun i => .bool (M i.val)
def noBits : Nat → Bool := fun _ => false
theorem bitCells_size (M : Nat → Bool) : (bitCells M).size = 14 := by simp [bitCells]
theorem bitCells_get (M : Nat → Bool) (i : Nat) (hi : i < 14) : (bitCells M)[i]? = some (.bool (M i)) := by simp [bitCells, hi]
theorem bitCells_one (M : Nat → Bool) : (bitCells M).all (·.oneCell') = true := by
  rw [Array.all_eq_true]
  intro i hi
  simp [bitCells, Value.oneCell']
theorem bitCells_set (M M' : Nat → Bool) (i : Nat) (h1 : M' i = true) (h2 : ∀ a, a < 14 → a ≠ i → M' a = M a) : (bitCells M).setIfInBounds i (.bool true) = bitCells M' := by
  apply Array.ext
  · simp [bitCells]
  · intro k hk1 hk2
    have hk : k < 14 := by simpa [bitCells] using hk2
    rw [Array.getElem_setIfInBounds (by rw [bitCells_size]; exact hk)]
    split
    · rename_i e
      subst e
      simp [bitCells, h1]
    · rename_i e
      simp only [bitCells, Array.getElem_ofFn]
      rw [h2 _ hk (fun e' => e e'.symm)]
theorem zero83 (w : World) : (zeroValue 83).run Tryz.prog w = .ok (.agg (bitCells noBits)) w := Tryz.zeroValue83 w
theorem size83 : (Tryz.prog.info? 83).map (·.size) = some 14 := by kernel_rfl

section
variable {ops : Array Oper} {rest : List Oper} {o : Oper} {a : Act} {w : World} {Q : Exit → Act → World → Prop}
theorem wpList_alloc83 (hg : o.guard = none) (ho : o.op = .alloc 83) (h : wpList Tryz.prog ops Q rest (a.put o.dst (.pointer (some ⟨w.heap.size, 0, none⟩))) (w.alloc (.cells (bitCells noBits) 83))) : wpList Tryz.prog ops Q (o :: rest) a w := by
  refine wpList_plain hg fun K hK => ?_
  unfold Oper.wp execOp
  simp only [ho]
  have hz := zero83 w
  have hn : (newVar 83 (.agg (bitCells noBits))).run Tryz.prog w = .ok ⟨w.heap.size, 0, none⟩ (w.alloc (.cells (bitCells noBits) 83)) := by
    go_simp
  simp [Instr.alloc, hz, hn]
  exact hK _ _ h
theorem wpList_load83 (x : Operand) (hgd : o.guard = none) (ho : o.op = .load 83 x) (g : Nat) (hx : a.eval x = .pointer (some ⟨g, 0, none⟩)) (cs : Array Value) (hs : cs.size = 14) (hg : w.heap[g]? = some (.cells cs 83 (0, 0)))
    (h : wpList Tryz.prog ops Q rest (a.put o.dst (.agg cs)) w) : wpList Tryz.prog ops Q (o :: rest) a w :=
  wpList_load_row hgd 83 x ho g hx 83 cs (0, 0) _ hg Tryz.underlying83 rfl (by rw [size83, hs]) h
theorem wpList_store83 (x y : Operand) (hgd : o.guard = none) (ho : o.op = .store 83 x y) (g : Nat) (hx : a.eval x = .pointer (some ⟨g, 0, none⟩)) (cs old : Array Value) (hs : cs.size = 14) (ho' : old.size = 14) (h1 : cs.all (·.oneCell') = true) (hy : a.eval y = .agg cs)
    (hg : w.heap[g]? = some (.cells old 83 (0, 0))) (h : wpList Tryz.prog ops Q rest (a.put o.dst undef) (w.setRow g cs)) : wpList Tryz.prog ops Q (o :: rest) a w :=
  wpList_store_row hgd 83 x y ho g cs hx hy 83 old hg (by rw [size83, hs]) (by rw [ho', hs]) h1 h
end
theorem info4 : (Tryz.prog.info? 4).map (fun i => (i.zero, i.size, i.bytes)) = some (some (.bool false), 1, 1) := by kernel_rfl
theorem row_setCells (b : Nat) (t : TypeId) (fr : Nat × Nat) : ∀ (vs : List Value) (o : Nat) (w : World) (cs : Array Value), w.heap[b]? = some (.cells cs t fr) →
    ∃ cs', (w.setCells b o vs).heap[b]? = some (.cells cs' t fr) ∧ cs'.size = cs.size ∧ (∀ j, j < o → cs'[j]? = cs[j]?) ∧ ∀ j, j < vs.length → o + j < cs.size → cs'[o + j]? = vs[j]?
  | [], o, w, cs, h => ⟨cs, h, rfl, fun _ _ => rfl, fun j hj => absurd hj (by simp)⟩
  | v :: vs, o, w, cs, h => by
    obtain ⟨cs', h1, h2, h3, h4⟩ := row_setCells b t fr vs (o + 1) (w.setCell ⟨b, o, none⟩ v) _ (row_setCell w b o v _ _ _ h)
    refine ⟨cs', h1, by rw [h2]; simp, fun j hj => ?_, fun j hj hl => ?_⟩
    · rw [h3 j (by omega), Array.getElem?_setIfInBounds_ne (by omega)]
    · cases j with
      | zero =>
        rw [h3 (o + 0) (by omega), Nat.add_zero, Array.getElem?_setIfInBounds_self_of_lt (by omega)]
        rfl
      | succ j =>
        have := h4 j (by simpa using hj) (by simp; omega)
        rw [show o + (j + 1) = o + 1 + j from by omega, this]
        rfl
theorem below_setCells {B g : Nat} : ∀ (vs : List Value) (o : Nat) {v w : World}, Below B v w → B ≤ g → Below B v (w.setCells g o vs)
  | [], _, _, _, h, _ => h
  | _ :: vs, o, _, _, h, hg => below_setCells vs (o + 1) (Below.setCell h hg _) hg
theorem setCells_other (b : Nat) : ∀ (vs : List Value) (o : Nat) (w : World) (k : Nat), k ≠ b → (w.setCells b o vs).heap[k]? = w.heap[k]?
  | [], _, _, _, _ => rfl
  | v :: vs, o, w, k, h => (setCells_other b vs (o + 1) (w.setCell ⟨b, o, none⟩ v) k h).trans (heap_set_other w b o k v h)
theorem row_zeroed (w : World) (m : Nat) (M : Nat → Bool) (t : TypeId) (vs : List Value) (hvs : vs = List.replicate 14 (.bool false)) (h : w.heap[m]? = some (.cells (bitCells M) t (0, 0))) :
    (w.setCells m 0 vs).heap[m]? = some (.cells (bitCells noBits) t (0, 0)) := by
  obtain ⟨cs', h1, h2, _, h4⟩ := row_setCells m t (0, 0) vs 0 w (bitCells M) h
  have hl : vs.length = 14 := by rw [hvs, List.length_replicate]
  have e : cs' = bitCells noBits := by
    apply Array.ext_getElem?
    intro j
    by_cases hj : j < 14
    · have h5 := h4 j (by rw [hl]; exact hj) (by rw [bitCells_size]; omega)
      rw [Nat.zero_add] at h5
      rw [h5, bitCells_get noBits j hj, hvs, List.getElem?_replicate, if_pos hj]
      rfl
    · rw [Array.getElem?_eq_none (by rw [h2, bitCells_size]; omega), Array.getElem?_eq_none (by rw [bitCells_size]; omega)]
  rw [h1, e]
theorem clear14 (w : World) (m c ty : Nat) (M : Nat → Bool) (t : TypeId) (h : w.heap[m]? = some (.cells (bitCells M) t (0, 0))) :
    (Builtin.clear_ #[86] ty #[.slice (some ⟨m, 0, none⟩) 14 c]).run Tryz.prog w = .ok (.tuple #[]) (w.setCells m 0 (List.replicate 14 (.bool false))) := by
  obtain ⟨i, hi, hz, hs, hb⟩ := info_parts info4
  refine Lib.run_clear_slice (P := Tryz.prog) w 86 4 ty (.bool false) Tryz.underlying86 (fun w => ?_) rfl rfl m 0 14 c (by decide) (fun j hj => ?_) (fun j hj => ?_)
  · unfold zeroValue
    simp [typeInfo, hi, hz]
  · rw [Nat.zero_add, (cell_of_row _ _ _ _ _ _ h), bitCells_get M j hj]
    rfl
  · simp [World.frozen?, h]
theorem run_slice83 (w : World) (m : Nat) : (Instr.sliceAt 83 (.pointer (some ⟨m, 0, none⟩)) none none none).run Tryz.prog w = .ok (.slice (some ⟨m, 0, none⟩) 14 14) w := by
  obtain ⟨i, hi, hz, hs, hb⟩ := info_parts info4
  simp [Instr.sliceAt, Instr.sureAddr, run_underlying Tryz.underlying83, Instr.sliceBounds, sizeOf, typeInfo, hi, Result.andThen, Addr.add_lit]
section
variable {ops : Array Oper} {rest : List Oper} {o : Oper} {a : Act} {w : World} {Q : Exit → Act → World → Prop}
theorem wpList_slice83 (x : Operand) (hg : o.guard = none) (ho : o.op = .slice 83 x none none none) (m : Nat) (hx : a.eval x = .pointer (some ⟨m, 0, none⟩)) (h : wpList Tryz.prog ops Q rest (a.put o.dst (.slice (some ⟨m, 0, none⟩) 14 14)) w) : wpList Tryz.prog ops Q (o :: rest) a w := by
  refine wpList_plain hg fun K hK => ?_
  have hr := run_slice83 w m
  unfold Oper.wp execOp
  simp only [ho, hx, Option.map_none]
  simp [hr]
  exact hK _ _ h
theorem wpList_clear86 (x : Tmp) (hg : o.guard = none) (ho : o.op = .call { callee := .builtin .clear, args := #[.tmp x], argTypes := #[86] }) (hd : o.dst = none) (m c : Nat) (hx : a.eval (.tmp x) = .slice (some ⟨m, 0, none⟩) 14 c) (M : Nat → Bool) (t : TypeId) (hrow : w.heap[m]? = some (.cells (bitCells M) t (0, 0)))
    (h : wpList Tryz.prog ops Q rest a (w.setCells m 0 (List.replicate 14 (.bool false)))) : wpList Tryz.prog ops Q (o :: rest) a w := by
  refine wpList_plain hg fun K hK => ?_
  have hr := fun ty => clear14 w m c ty M t hrow
  unfold Oper.wp execOp
  simp only [ho, resolve, invoke, builtin, Sem.run_bind, Sem.run_pure, Result.andThen_ok, List.map_toArray, List.map_cons, List.map_nil, hx, hr]
  have hk := hK _ _ h
  have e : a.put o.dst (.tuple #[]) = a := by rw [hd]; rfl
  show K (a.put o.dst (.tuple #[])) _
  rw [e]
  exact hk
end
end Go.Proofs.YtmlmnljbegcjcaaGreat

/- entered: an order with its births. -/
namespace Go.Proofs.YtmlmnljbegcjcaaGreat
open Go.RowKit Go.Shelf

theorem results_row {fn : Func} {p : Tmp} (T : TypeId) (h : fn.results = #[.cell p T]) (tmps : Array Value) (w : World) (g : Nat) (cs : Array Value)
    (hp : tmps.getD p undef = .pointer (some ⟨g, 0, none⟩)) (hl : (loadVar T ⟨g, 0, none⟩).run Tryz.prog w = .ok (.agg cs) w) :
    (results fn tmps).run Tryz.prog w = .ok (.agg cs) w := by
  have hp' : tmps[p]?.getD undef = .pointer (some ⟨g, 0, none⟩) := by simpa using hp
  simp [results, h, hp', asAddr, hl]
theorem size80 : (Tryz.prog.info? 80).map (·.size) = some 7 := by kernel_rfl

set_option maxHeartbeats 1000000 in
theorem entered1 (q fn : Nat) (lo hi young old worth x y u : Int) (w : World) (hq : w.heap[q]? = some (.cells #[.int .i64 lo, .int .i64 hi, .int .i64 young, .int .i64 old, .int .i64 worth] 56 (0, 0)))
    (eg : ∀ args w, (callFunc fn args).run Tryz.prog w = .ok (.enter fn args) w)
    (k1 : ∀ W, Ext w W → Calls Tryz.prog fn #[.agg #[.int .i64 lo, .int .i64 hi]] W fun e w' => e = .returned (.int .i64 x) ∧ Ext W w')
    (k2 : ∀ W, Ext w W → Calls Tryz.prog fn #[.agg #[.int .i64 young, .int .i64 old]] W fun e w' => e = .returned (.int .i64 y) ∧ Ext W w')
    (wz : IntKind.i64.wrap (x - y) = u) :
    Calls Tryz.prog 103 #[.func (.func fn) #[] #[], .pointer (some ⟨q, 0, none⟩)] w fun e w' => e = .returned (.int .i64 u) ∧ Ext w w' := by
  have HQ := Lib.hid hq
  clear hq
  go_enter Tryz.func103, Tryz.ntmps103
  go_upto_region 1 with fail
  refine en3_wp (q := q) (fn := fn) (lo := lo) (hi := hi) (young := young) (old := old) (x := x) (y := y) (u := u) rfl rfl rfl (fun W hW => cell_of_row _ _ _ _ _ _ (row_ext HQ.out hW)) (fun W hW => cell_of_row _ _ _ _ _ _ (row_ext HQ.out hW)) k1 eg (fun W hW => cell_of_row _ _ _ _ _ _ (row_ext HQ.out hW)) (fun W hW => cell_of_row _ _ _ _ _ _ (row_ext HQ.out hW)) k2 wz ?_
  intro W eW
  have hdr : en3Reg.toList.drop 10 = [] := List.drop_eq_nil_of_le (by rw [Array.length_toList]; exact Nat.le_of_eq (by kernel_rfl))
  rw [hdr]
  simp only [wpList, puts, List.foldl_cons, List.foldl_nil, Act.put, List.setIfInBounds_toArray, List.set_cons_succ, List.set_cons_zero]
  have HE := Lib.hid eW
  clear eW k1 k2 hdr
  go_wp2
  go_ret
  exact ⟨rfl, HE.out⟩

set_option maxHeartbeats 2000000 in
theorem entered_any (o : Odr) (h : ordOk o = true) (w : World) :
    Calls Tryz.prog 84 #[.agg #[.int .i64 o.lo, .int .i64 o.hi, .int .i64 o.young, .int .i64 o.old, .int .i64 o.worth]] w fun e w' => e = .returned (.agg #[.int .i64 o.lo, .int .i64 o.hi, .int .i64 o.young, .int .i64 o.old, .int .i64 o.worth, .int .i64 (bLo o), .int .i64 (bHi o)]) ∧ Ext w w' := by
  obtain ⟨lo, hi, young, old, worth⟩ := o
  obtain ⟨h1, h2, h3⟩ := ordOk_iff.1 h
  dsimp only at h1 h2 h3 ⊢
  have w1 : IntKind.i64.wrap (hi - old) = hi - old := IntWalk.i64_in _ (by omega)
  have w2 : IntKind.i64.wrap (lo - young) = lo - young := IntWalk.i64_in _ (by omega)
  have e104 : ∀ args w, (callFunc 104 args).run Tryz.prog w = .ok (.enter 104 args) w := enters_of Tryz.func104 (by kernel_rfl) rfl
  have e105 : ∀ args w, (callFunc 105 args).run Tryz.prog w = .ok (.enter 105 args) w := enters_of Tryz.func105 (by kernel_rfl) rfl
  have e103 : ∀ args w, (callFunc 103 args).run Tryz.prog w = .ok (.enter 103 args) w := enters_of Tryz.func103 (by kernel_rfl) rfl
  clear h h1 h2 h3
  have hE0 : Ext w ((w.alloc (.cells #[.int .i64 lo, .int .i64 hi, .int .i64 young, .int .i64 old, .int .i64 worth] 56)).alloc (.cells #[.int .i64 0, .int .i64 0, .int .i64 0, .int .i64 0, .int .i64 0, .int .i64 0, .int .i64 0] 80)) := (ext_alloc _ _).trans (ext_alloc _ _)
  have hr0 : ((w.alloc (.cells #[.int .i64 lo, .int .i64 hi, .int .i64 young, .int .i64 old, .int .i64 worth] 56)).alloc (.cells #[.int .i64 0, .int .i64 0, .int .i64 0, .int .i64 0, .int .i64 0, .int .i64 0, .int .i64 0] 80)).heap[w.heap.size]? = some (.cells #[.int .i64 lo, .int .i64 hi, .int .i64 young, .int .i64 old, .int .i64 worth] 56 (0, 0)) := row_alloc _ _ _ _ (row_last _ _ _ rfl)
  have hr1 : ((w.alloc (.cells #[.int .i64 lo, .int .i64 hi, .int .i64 young, .int .i64 old, .int .i64 worth] 56)).alloc (.cells #[.int .i64 0, .int .i64 0, .int .i64 0, .int .i64 0, .int .i64 0, .int .i64 0, .int .i64 0] 80)).heap[w.heap.size + 1]? = some (.cells #[.int .i64 0, .int .i64 0, .int .i64 0, .int .i64 0, .int .i64 0, .int .i64 0, .int .i64 0] 80 (0, 0)) := row_last _ _ _ (by simp)
  go_enter Tryz.func84, Tryz.ntmps84
  go_upto_region 2 with fail
  obtain ⟨w0, hw0⟩ : ∃ w0, (w.alloc (.cells #[.int .i64 lo, .int .i64 hi, .int .i64 young, .int .i64 old, .int .i64 worth] 56)).alloc (.cells #[.int .i64 0, .int .i64 0, .int .i64 0, .int .i64 0, .int .i64 0, .int .i64 0, .int .i64 0] 80) = w0 := ⟨_, rfl⟩
  rw [hw0] at hE0 hr0 hr1 ⊢
  have HR0 := Lib.hid hr0
  have HR1 := Lib.hid hr1
  have HE := Lib.hid hE0
  have hk1 : ∀ W, Ext w0 W → Calls Tryz.prog 103 #[.func (.func 104) #[] #[], .pointer (some ⟨w.heap.size, 0, none⟩)] W fun e w' => e = .returned (.int .i64 (hi - old)) ∧ Ext W w' := fun W hW =>
    entered1 w.heap.size 104 lo hi young old worth hi old (hi - old) W (row_ext HR0.out hW) e104 (fun W _ => end104 lo hi W) (fun W _ => end104 young old W) w1
  have hk2 : ∀ W, Ext w0 W → Calls Tryz.prog 103 #[.func (.func 105) #[] #[], .pointer (some ⟨w.heap.size, 0, none⟩)] W fun e w' => e = .returned (.int .i64 (lo - young)) ∧ Ext W w' := fun W hW =>
    entered1 w.heap.size 105 lo hi young old worth lo young (lo - young) W (row_ext HR0.out hW) e105 (fun W _ => end105 lo hi W) (fun W _ => end105 young old W) w2
  clear hw0 hE0 hr0 hr1 w1 w2 e104 e105
  refine en2_wp (q := w.heap.size) (lo := lo) (hi := hi) (young := young) (old := old) (worth := worth) (x := hi - old) (y := lo - young) rfl rfl rfl (fun W hW => cell_of_row _ _ _ _ _ _ (row_ext HR0.out hW)) (fun W hW => cell_of_row _ _ _ _ _ _ (row_ext HR0.out hW)) (fun W hW => cell_of_row _ _ _ _ _ _ (row_ext HR0.out hW)) (fun W hW => cell_of_row _ _ _ _ _ _ (row_ext HR0.out hW)) (fun W hW => cell_of_row _ _ _ _ _ _ (row_ext HR0.out hW)) hk1 e103 hk2 ?_
  intro W eW
  obtain ⟨o7, hdr, h7⟩ : ∃ o7, en2Reg.toList.drop 7 = [o7] ∧ en2Reg[7]? = some o7 := by
    have hs : en2Reg.size = 8 := by kernel_rfl
    refine ⟨en2Reg[7], ?_, Array.getElem?_eq_getElem _⟩
    rw [List.drop_eq_getElem_cons (by simp [hs]), List.drop_eq_nil_of_le (by simp [hs])]
    simp
  rw [hdr]
  have hrow := row_ext HR1.out eW
  have HE := Lib.hid (HE.out.trans eW)
  refine wpList_store_row (op_at h7 (·.guard) (x := none) (by kernel_rfl)) 80 (.tmp 2) (.tmp 11) (op_at h7 (·.op) (by kernel_rfl)) (w.heap.size + 1) #[.int .i64 lo, .int .i64 hi, .int .i64 young, .int .i64 old, .int .i64 worth, .int .i64 (hi - old), .int .i64 (lo - young)] rfl rfl 80 _ hrow (by rw [size80]; rfl) rfl (by simp [Value.oneCell']) ?_
  rw [show o7.dst = none from op_at h7 (·.dst) (by kernel_rfl)]
  simp only [wpList, puts, List.foldl_cons, List.foldl_nil, Act.put, List.setIfInBounds_toArray, List.set_cons_succ, List.set_cons_zero]
  have hrow2 := row_setRow W (w.heap.size + 1) #[.int .i64 lo, .int .i64 hi, .int .i64 young, .int .i64 old, .int .i64 worth, .int .i64 (hi - old), .int .i64 (lo - young)] _ _ _ hrow
  have HR2 := Lib.hid hrow2
  clear hk1 hk2 eW hdr hrow hrow2 h7 HR0 HR1
  go_wp2
  refine bodyPost_ret (v := .agg #[.int .i64 lo, .int .i64 hi, .int .i64 young, .int .i64 old, .int .i64 worth, .int .i64 (hi - old), .int .i64 (lo - young)]) (results_row 80 rfl _ _ (w.heap.size + 1) _ rfl (run_loadVar_row (P := Tryz.prog) _ _ 80 80 _ (0, 0) _ HR2.out Tryz.underlying80 rfl (by rw [size80]; rfl))) rfl ⟨rfl, below_setRow HE.out (by omega) _⟩
end Go.Proofs.YtmlmnljbegcjcaaGreat
