/- Texts of one package, joined: Bits, Had. -/
import Derived.Test.YtlaakmgdbhabfaaC5
import Derived.Test.YtlaakmgdbhabfaaC6
import Derived.Lib.SliceRun
import Derived.Great.Walk
/- The marks of a row, as an array of twelve numbers: made, stored, loaded, cleared as one row. -/
namespace Go.Proofs.Ytlaakmgdbhabfaa
open Go.RowKit Go.Shelf

/-- Twelve marks, as cells. -/
def bitCells (M : Nat → Bool) : Array Value := Array.ofFn (n := 12) fun i => .int .i64 (if M i.val = true then 1 else 0)
def noBits : Nat → Bool := fun _ => false
theorem bitCells_size (M : Nat → Bool) : (bitCells M).size = 12 := by simp [bitCells]
theorem bitCells_get (M : Nat → Bool) (i : Nat) (hi : i < 12) : (bitCells M)[i]? = some (.int .i64 (if M i = true then 1 else 0)) := by simp [bitCells, hi]
theorem bitCells_one (M : Nat → Bool) : (bitCells M).all (·.oneCell') = true := by
  rw [Array.all_eq_true]
  intro i hi
  simp [bitCells, Value.oneCell']
theorem bitCells_set (M M' : Nat → Bool) (i : Nat) (h1 : M' i = true) (h2 : ∀ a, a < 12 → a ≠ i → M' a = M a) : (bitCells M).setIfInBounds i (.int .i64 1) = bitCells M' := by
  apply Array.ext
  · simp [bitCells]
  · intro k hk1 hk2
    have hk : k < 12 := by simpa [bitCells] using hk2
    rw [Array.getElem_setIfInBounds (by rw [bitCells_size]; exact hk)]
    split
    · rename_i e
      subst e
      simp [bitCells, h1]
    · rename_i e
      simp only [bitCells, Array.getElem_ofFn]
      rw [h2 _ hk (fun e' => e e'.symm)]
theorem zero92 (w : World) : (zeroValue 92).run Try.prog w = .ok (.agg (bitCells noBits)) w := Try.zeroValue92 w
theorem size92 : (Try.prog.info? 92).map (·.size) = some 12 := by kernel_rfl

section
variable {ops : Array Oper} {rest : List Oper} {o : Oper} {a : Act} {w : World} {Q : Exit → Act → World → Prop}
theorem wpList_alloc92 (hg : o.guard = none) (ho : o.op = .alloc 92) (h : wpList Try.prog ops Q rest (a.put o.dst (.pointer (some ⟨w.heap.size, 0, none⟩))) (w.alloc (.cells (bitCells noBits) 92))) : wpList Try.prog ops Q (o :: rest) a w := by
  refine wpList_plain hg fun K hK => ?_
  unfold Oper.wp execOp
  simp only [ho]
  have hz := zero92 w
  have hn : (newVar 92 (.agg (bitCells noBits))).run Try.prog w = .ok ⟨w.heap.size, 0, none⟩ (w.alloc (.cells (bitCells noBits) 92)) := by
    go_simp
  simp [Instr.alloc, hz, hn]
  exact hK _ _ h
theorem wpList_load92 (x : Operand) (hgd : o.guard = none) (ho : o.op = .load 92 x) (g : Nat) (hx : a.eval x = .pointer (some ⟨g, 0, none⟩)) (cs : Array Value) (hs : cs.size = 12) (hg : w.heap[g]? = some (.cells cs 92 (0, 0)))
    (h : wpList Try.prog ops Q rest (a.put o.dst (.agg cs)) w) : wpList Try.prog ops Q (o :: rest) a w :=
  wpList_load_row hgd 92 x ho g hx 92 cs (0, 0) _ hg Try.underlying92 rfl (by rw [size92, hs]) h
theorem wpList_store92 (x y : Operand) (hgd : o.guard = none) (ho : o.op = .store 92 x y) (g : Nat) (hx : a.eval x = .pointer (some ⟨g, 0, none⟩)) (cs old : Array Value) (hs : cs.size = 12) (ho' : old.size = 12) (h1 : cs.all (·.oneCell') = true) (hy : a.eval y = .agg cs)
    (hg : w.heap[g]? = some (.cells old 92 (0, 0))) (h : wpList Try.prog ops Q rest (a.put o.dst undef) (w.setRow g cs)) : wpList Try.prog ops Q (o :: rest) a w :=
  wpList_store_row hgd 92 x y ho g cs hx hy 92 old hg (by rw [size92, hs]) (by rw [ho', hs]) h1 h
end
theorem info3 : (Try.prog.info? 3).map (fun i => (i.zero, i.size, i.bytes)) = some (some (.int .i64 0), 1, 8) := by kernel_rfl
theorem row_setCells (b : Nat) (t : TypeId) (fr : Nat × Nat) : ∀ (vs : List Value) (o : Nat) (w : World) (cs : Array Value), w.heap[b]? = some (.cells cs t fr) →
    ∃ cs', (w.setCells b o vs).heap[b]? = some (.cells cs' t fr) ∧ cs'.size = cs.size ∧ (∀ j, j < o → cs'[j]? = cs[j]?) ∧ ∀ j, j < vs.length → o + j < cs.size → cs'[o + j]? = vs[j]?
  | [], o, w, cs, h => ⟨cs, h, rfl, fun _ _ => rfl, fun j hj => absurd hj (by simp)⟩
  | v :: vs, o, w, cs, h => by
    obtain ⟨cs', h1, h2, h3, h4⟩ := row_setCells b t fr vs (o + 1) (w.setCell ⟨b, o, none⟩ v) _ (row_setCell w b o v _ _ _ h)
    refine ⟨cs', h1, by rw [h2]; simp, fun j hj => ?_, fun j hj hl => ?_⟩
    · rw [h3 j (by omega), Array.getElem?_setIfInBounds_ne (by omega)]
    · cases j with
      | zero =>
        rw [h3 (o + 0) (by omega), Nat.add_zero, Array.getElem?_setIfInBounds_self_of_lt (by omega)]
        rfl
      | succ j =>
        have := h4 j (by simpa using hj) (by simp; omega)
        rw [show o + (j + 1) = o + 1 + j from by omega, this]
        rfl
theorem below_setCells {B g : Nat} : ∀ (vs : List Value) (o : Nat) {v w : World}, Below B v w → B ≤ g → Below B v (w.setCells g o vs)
  | [], _, _, _, h, _ => h
  | _ :: vs, o, _, _, h, hg => below_setCells vs (o + 1) (Below.setCell h hg _) hg
theorem setCells_other (b : Nat) : ∀ (vs : List Value) (o : Nat) (w : World) (k : Nat), k ≠ b → (w.setCells b o vs).heap[k]? = w.heap[k]?
  | [], _, _, _, _ => rfl
  | v :: vs, o, w, k, h => (setCells_other b vs (o + 1) (w.setCell ⟨b, o, none⟩ v) k h).trans (heap_set_other w b o k v h)
theorem setCells_size (b : Nat) : ∀ (vs : List Value) (o : Nat) (w : World), (w.setCells b o vs).heap.size = w.heap.size
  | [], _, _ => rfl
  | v :: vs, o, w => (setCells_size b vs (o + 1) (w.setCell ⟨b, o, none⟩ v)).trans (by simp [World.setCell])
theorem row_zeroed (w : World) (m : Nat) (M : Nat → Bool) (t : TypeId) (vs : List Value) (hvs : vs = List.replicate 12 (.int .i64 0)) (h : w.heap[m]? = some (.cells (bitCells M) t (0, 0))) :
    (w.setCells m 0 vs).heap[m]? = some (.cells (bitCells noBits) t (0, 0)) := by
  obtain ⟨cs', h1, h2, _, h4⟩ := row_setCells m t (0, 0) vs 0 w (bitCells M) h
  have hl : vs.length = 12 := by rw [hvs, List.length_replicate]
  have e : cs' = bitCells noBits := by
    apply Array.ext_getElem?
    intro j
    by_cases hj : j < 12
    · have h5 := h4 j (by rw [hl]; exact hj) (by rw [bitCells_size]; omega)
      rw [Nat.zero_add] at h5
      rw [h5, bitCells_get noBits j hj, hvs, List.getElem?_replicate, if_pos hj]
      rfl
    · rw [Array.getElem?_eq_none (by rw [h2, bitCells_size]; omega), Array.getElem?_eq_none (by rw [bitCells_size]; omega)]
  rw [h1, e]
theorem clear12 (w : World) (m c ty : Nat) (M : Nat → Bool) (t : TypeId) (h : w.heap[m]? = some (.cells (bitCells M) t (0, 0))) :
    (Builtin.clear_ #[30] ty #[.slice (some ⟨m, 0, none⟩) 12 c]).run Try.prog w = .ok (.tuple #[]) (w.setCells m 0 (List.replicate 12 (.int .i64 0))) := by
  obtain ⟨i, hi, hz, hs, hb⟩ := info_parts info3
  refine Lib.run_clear_slice (P := Try.prog) w 30 3 ty (.int .i64 0) Try.underlying30 (fun w => ?_) rfl rfl m 0 12 c (by decide) (fun j hj => ?_) (fun j hj => ?_)
  · unfold zeroValue
    simp [typeInfo, hi, hz]
  · rw [Nat.zero_add, (cell_of_row _ _ _ _ _ _ h), bitCells_get M j hj]
    rfl
  · simp [World.frozen?, h]
theorem run_slice92 (w : World) (m : Nat) : (Instr.sliceAt 92 (.pointer (some ⟨m, 0, none⟩)) none none none).run Try.prog w = .ok (.slice (some ⟨m, 0, none⟩) 12 12) w := by
  obtain ⟨i, hi, hz, hs, hb⟩ := info_parts info3
  simp [Instr.sliceAt, Instr.sureAddr, run_underlying Try.underlying92, Instr.sliceBounds, sizeOf, typeInfo, hi, Result.andThen, Addr.add_lit]
section
variable {ops : Array Oper} {rest : List Oper} {o : Oper} {a : Act} {w : World} {Q : Exit → Act → World → Prop}
theorem wpList_slice92 (x : Operand) (hg : o.guard = none) (ho : o.op = .slice 92 x none none none) (m : Nat) (hx : a.eval x = .pointer (some ⟨m, 0, none⟩)) (h : wpList Try.prog ops Q rest (a.put o.dst (.slice (some ⟨m, 0, none⟩) 12 12)) w) : wpList Try.prog ops Q (o :: rest) a w := by
  refine wpList_plain hg fun K hK => ?_
  have hr := run_slice92 w m
  unfold Oper.wp execOp
  simp only [ho, hx, Option.map_none]
  simp [hr]
  exact hK _ _ h
theorem wpList_clear30 (x : Tmp) (hg : o.guard = none) (ho : o.op = .call { callee := .builtin .clear, args := #[.tmp x], argTypes := #[30] }) (hd : o.dst = none) (m c : Nat) (hx : a.eval (.tmp x) = .slice (some ⟨m, 0, none⟩) 12 c) (M : Nat → Bool) (t : TypeId) (hrow : w.heap[m]? = some (.cells (bitCells M) t (0, 0)))
    (h : wpList Try.prog ops Q rest a (w.setCells m 0 (List.replicate 12 (.int .i64 0)))) : wpList Try.prog ops Q (o :: rest) a w := by
  refine wpList_plain hg fun K hK => ?_
  have hr := fun ty => clear12 w m c ty M t hrow
  unfold Oper.wp execOp
  simp only [ho, resolve, invoke, builtin, Sem.run_bind, Sem.run_pure, Result.andThen_ok, List.map_toArray, List.map_cons, List.map_nil, hx, hr]
  have hk := hK _ _ h
  have e : a.put o.dst (.tuple #[]) = a := by rw [hd]; rfl
  show K (a.put o.dst (.tuple #[])) _
  rw [e]
  exact hk
end
end Go.Proofs.Ytlaakmgdbhabfaa

/- had: which marks a row has, if it fits. -/
namespace Go.Proofs.Ytlaakmgdbhabfaa
open Go.RowKit Go.Shelf
attribute [local irreducible] bitCells

def inMark (x : Int) (r : Int × Int) : Bool := [x].all (inside r.1 r.2)
/-- The mark in which a number lies. -/
def hitOf (ms : List (Int × Int)) (x : Int) : Nat := ms.findIdx (inMark x)
/-- Whether the first t teeth are in marks, and which these are. -/
def hitsTo (ms : List (Int × Int)) (sp x : Int) (t : Nat) : Bool := (List.range t).all fun i => decide (hitOf ms (x + i * sp) < ms.length)
def hadTo (ms : List (Int × Int)) (sp x : Int) (t : Nat) (mark : Nat) : Bool := (List.range t).any fun i => decide (hitOf ms (x + i * sp) = mark)
/-- The marks of a row of the comb k at x. -/
def hadB (cs ms : List (Int × Int)) (k : Nat) (x : Int) (mark : Nat) : Bool := hitsTo ms (cs.getD k (0, 0)).1 x (cs.getD k (0, 0)).2.toNat && hadTo ms (cs.getD k (0, 0)).1 x (cs.getD k (0, 0)).2.toNat mark
theorem hitsTo_succ (ms : List (Int × Int)) (sp x : Int) (t : Nat) : hitsTo ms sp x (t + 1) = (hitsTo ms sp x t && decide (hitOf ms (x + t * sp) < ms.length)) := by simp [hitsTo, List.range_succ]
theorem hadTo_succ (ms : List (Int × Int)) (sp x : Int) (t : Nat) (mark : Nat) : hadTo ms sp x (t + 1) mark = (hadTo ms sp x t mark || decide (hitOf ms (x + t * sp) = mark)) := by simp [hadTo, List.range_succ]
theorem hitsTo_false {ms : List (Int × Int)} {sp x : Int} {t T : Nat} (h : hitsTo ms sp x t = false) (ht : t ≤ T) : hitsTo ms sp x T = false := by
  unfold hitsTo at h ⊢
  rw [List.all_eq_false] at h ⊢
  obtain ⟨i, hi, h⟩ := h
  exact ⟨i, List.mem_range.2 (Nat.lt_of_lt_of_le (List.mem_range.1 hi) ht), h⟩

theorem results_row {fn : Func} {p : Tmp} (T : TypeId) (h : fn.results = #[.cell p T]) (tmps : Array Value) (w : World) (g : Nat) (cs : Array Value)
    (hp : tmps.getD p undef = .pointer (some ⟨g, 0, none⟩)) (hl : (loadVar T ⟨g, 0, none⟩).run Try.prog w = .ok (.agg cs) w) :
    (results fn tmps).run Try.prog w = .ok (.agg cs) w := by
  have hp' : tmps[p]?.getD undef = .pointer (some ⟨g, 0, none⟩) := by simpa using hp
  simp [results, h, hp', asAddr, hl]

set_option maxHeartbeats 400000 in
theorem inMark_any (x : Int) (P : Nat) (xs : List (Int × Int)) (w : World) (hP : P < w.heap.size) (hc : w.cell? ⟨P, 0, none⟩ = some (.int .i64 x)) :
    PredOn 121 #[.pointer (some ⟨P, 0, none⟩)] (fun r => .agg (encS r).toArray) (inMark x) xs w := fun W r hx hbw => by
  show Calls Try.prog 121 #[.agg #[.int .i64 r.1, .int .i64 r.2], .pointer (some ⟨P, 0, none⟩)] W fun e w' => e = .returned (.bool (inMark x r)) ∧ Below W.heap.size W w'
  have hc' : W.cell? ⟨P, 0, none⟩ = some (.int .i64 x) := (hbw.cell (p := ⟨P, 0, none⟩) hP).trans hc
  have hPW : P < W.heap.size := Nat.lt_of_lt_of_le hP hbw.size
  have hne : P ≠ W.heap.size := by omega
  unfold inMark
  generalize hq1 : [x].all (inside r.1 r.2) = q1
  have H1 := Lib.hid hq1; clear hq1
  clear hx hbw hc
  go_enter Try.func121, Try.ntmps121
  go_wp2_with fail
  refine (within _ _ _ _ _ [x] _ rfl (by simp) (held1 (by simp) (by simp))).mono ?_
  rw [H1.out]
  rintro e w1 ⟨rfl, hb1⟩
  go_wp2
  go_ret
  exact ⟨rfl, bstep (((Below.refl _ W).alloc (Nat.le_refl _) _).alloc (by simp) _) (by simp; omega) hb1⟩

/-- The variables of had while it looks at teeth. -/
structure HadAt (w W : World) (p q pr pm pc : Nat) (A : Option Addr) (n c : Nat) (A' : Option Addr) (n' c' : Nat) (cs ms : List (Int × Int)) (k : Nat) (x sp te : Int) (M : Nat → Bool) : Prop where
  base : Below w.heap.size w W
  sh : SheetAt W p A n c A' n' c' cs ms
  rq : W.heap[q]? = some (.cells #[.int .i64 k, .int .i64 x] 27 (0, 0))
  rr : W.heap[pr]? = some (.cells (bitCells noBits) 92 (0, 0))
  rm : W.heap[pm]? = some (.cells (bitCells M) 92 (0, 0))
  rc : W.heap[pc]? = some (.cells #[.int .i64 sp, .int .i64 te] 65 (0, 0))
section
variable {w W W' : World} {p q pr pm pc : Nat} {A : Option Addr} {n c : Nat} {A' : Option Addr} {n' c' : Nat} {cs ms : List (Int × Int)} {k : Nat} {x sp te : Int} {M M' : Nat → Bool}
theorem HadAt.ext (h : HadAt w W p q pr pm pc A n c A' n' c' cs ms k x sp te M) (e : Ext W W') : HadAt w W' p q pr pm pc A n c A' n' c' cs ms k x sp te M :=
  ⟨h.base.trans (e.mono h.base.size), h.sh.ext e, row_ext h.rq e, row_ext h.rr e, row_ext h.rm e, row_ext h.rc e⟩
/-- Only pm turns. -/
theorem HadAt.turn (h : HadAt w W p q pr pm pc A n c A' n' c' cs ms k x sp te M) (_hp : w.heap.size ≤ pm) (hn : p ≠ pm ∧ q ≠ pm ∧ pr ≠ pm ∧ pc ≠ pm) (hB : Below w.heap.size w W') (ho : ∀ b, b ≠ pm → W'.heap[b]? = W.heap[b]?) (_hs : W'.heap.size = W.heap.size) (hA : IsSheet w w.heap.size A n c A' n' c' cs ms) (hm : W'.heap[pm]? = some (.cells (bitCells M') 92 (0, 0))) :
    HadAt w W' p q pr pm pc A n c A' n' c' cs ms k x sp te M' :=
  ⟨hB, ⟨(ho p hn.1).trans h.sh.row, (hA.kept hB (Nat.le_refl _)).wider hB.size⟩, (ho q hn.2.1).trans h.rq, (ho pr hn.2.2.1).trans h.rr, hm, (ho pc hn.2.2.2).trans h.rc⟩
end

set_option maxRecDepth 100000 in
set_option maxHeartbeats 1000000 in
theorem had_any {A : Option Addr} {n c : Nat} {A' : Option Addr} {n' c' : Nat} {cs ms : List (Int × Int)} {w : World} (k : Nat) (x : Int) (h0 : sheetErr cs ms = 0) (hk : k < n) (hx : 0 ≤ x ∧ x ≤ 500) (hb : IsSheet w w.heap.size A n c A' n' c' cs ms) :
    Calls Try.prog 107 #[.agg #[.slice A n c, .slice A' n' c'], .agg #[.int .i64 k, .int .i64 x]] w fun e w' => e = .returned (.agg (bitCells (hadB cs ms k x))) ∧ Ext w w' := by
  have hkl : k < cs.length := by rw [← hb.ncs]; exact hk
  have hkn : (k : Int) < (n : Int) := by omega
  have hn8 : n ≤ 8 := by have := (sheet_ok h0).1; have := hb.ncs; omega
  have hn12 : n' ≤ 12 := by have := (sheet_ok h0).1; have := hb.nms; omega
  obtain ⟨b, off, hA, hbl, d0, d1⟩ := held_pair hb.hcs hkl
  obtain ⟨sp, te, hs⟩ : ∃ sp te, cs.getD k (0, 0) = (sp, te) := ⟨_, _, rfl⟩
  have hcomb : (1 ≤ sp ∧ sp ≤ 50) ∧ 2 ≤ te ∧ te ≤ 20 := by
    have h1 := List.all_eq_true.1 (sheet_ok h0).2.1 cs[k] (List.getElem_mem hkl)
    rw [show cs[k] = (sp, te) from by rw [← hs]; simp [hkl]] at h1
    simp [combBad, inside] at h1
    omega
  rw [hs] at d0 d1
  simp only at d0 d1
  obtain ⟨T, hT⟩ : ∃ T : Nat, te = T := ⟨te.toNat, by omega⟩
  subst hT
  have hB : hadB cs ms k x = fun mark => hitsTo ms sp x T && hadTo ms sp x T mark := by funext mark; unfold hadB; rw [hs]; simp
  rw [hB]
  have HB := Lib.hid hb
  clear hB hs h0
  subst hA
  go_enter Try.func107, Try.ntmps107
  have E4 : Ext w ((((w.alloc (.cells #[.slice (some ⟨b, off, none⟩) n c, .slice A' n' c'] 25)).alloc (.cells #[.int .i64 k, .int .i64 x] 27)).alloc (.cells (bitCells noBits) 92)).alloc (.cells (bitCells noBits) 92)) := (((ext_alloc _ _).trans (ext_alloc _ _)).trans (ext_alloc _ _)).trans (ext_alloc _ _)
  have d0 : ((((w.alloc (.cells #[.slice (some ⟨b, off, none⟩) n c, .slice A' n' c'] 25)).alloc (.cells #[.int .i64 k, .int .i64 x] 27)).alloc (.cells (bitCells noBits) 92)).alloc (.cells (bitCells noBits) 92)).cell? ⟨b, off + k * 2, none⟩ = some (.int .i64 sp) := (Below.cell E4 (p := ⟨b, off + k * 2, none⟩) hbl).trans d0
  have d1 : ((((w.alloc (.cells #[.slice (some ⟨b, off, none⟩) n c, .slice A' n' c'] 25)).alloc (.cells #[.int .i64 k, .int .i64 x] 27)).alloc (.cells (bitCells noBits) 92)).alloc (.cells (bitCells noBits) 92)).cell? ⟨b, off + k * 2 + 1, none⟩ = some (.int .i64 T) := (Below.cell E4 (p := ⟨b, off + k * 2 + 1, none⟩) hbl).trans d1
  have HAT : Hid (HadAt w (((((w.alloc (.cells #[.slice (some ⟨b, off, none⟩) n c, .slice A' n' c'] 25)).alloc (.cells #[.int .i64 k, .int .i64 x] 27)).alloc (.cells (bitCells noBits) 92)).alloc (.cells (bitCells noBits) 92)).alloc (.cells #[.int .i64 sp, .int .i64 T] 65)) w.heap.size (w.heap.size + 1) (w.heap.size + 1 + 1) (w.heap.size + 1 + 1 + 1) (w.heap.size + 1 + 1 + 1 + 1) (some ⟨b, off, none⟩) n c A' n' c' cs ms k x sp T noBits) :=
    Lib.hid ⟨E4.trans (ext_alloc _ _), ((SheetAt.new hb).ext (((ext_alloc _ _).trans (ext_alloc _ _)).trans (ext_alloc _ _))).ext (ext_alloc _ _),
      row_ext (row_last _ _ _ (by simp)) (((ext_alloc _ _).trans (ext_alloc _ _)).trans (ext_alloc _ _)), row_ext (row_last _ _ _ (by simp)) ((ext_alloc _ _).trans (ext_alloc _ _)), row_ext (row_last _ _ _ (by simp)) (ext_alloc _ _), row_last _ _ _ (by simp)⟩
  clear E4 hb
  go_wp2_with (refine wpList_alloc92 rfl rfl ?_)
  obtain ⟨w5, hw5⟩ : ∃ w5, ((((w.alloc (.cells #[.slice (some ⟨b, off, none⟩) n c, .slice A' n' c'] 25)).alloc (.cells #[.int .i64 k, .int .i64 x] 27)).alloc (.cells (bitCells noBits) 92)).alloc (.cells (bitCells noBits) 92)).alloc (.cells #[.int .i64 sp, .int .i64 T] 65) = w5 := ⟨_, rfl⟩
  rw [hw5] at HAT ⊢
  obtain ⟨p, hp⟩ : ∃ p, w.heap.size = p := ⟨_, rfl⟩
  obtain ⟨q, hq⟩ : ∃ q, w.heap.size + 1 = q := ⟨_, rfl⟩
  obtain ⟨pr, hpr⟩ : ∃ pr, w.heap.size + 1 + 1 = pr := ⟨_, rfl⟩
  obtain ⟨pm, hpm⟩ : ∃ pm, w.heap.size + 1 + 1 + 1 = pm := ⟨_, rfl⟩
  obtain ⟨pc, hpc⟩ : ∃ pc, w.heap.size + 1 + 1 + 1 + 1 = pc := ⟨_, rfl⟩
  have hat : HadAt w w5 p q pr pm pc (some ⟨b, off, none⟩) n c A' n' c' cs ms k x sp T noBits := by
    have := HAT.out
    rw [hpc, hpm, hpr, hq, hp] at this
    exact this
  have HP : Hid ((p ≠ pm ∧ q ≠ pm ∧ pr ≠ pm ∧ pc ≠ pm) ∧ w.heap.size ≤ pr ∧ w.heap.size ≤ pm ∧ pr ≠ p ∧ pr ≠ q) := Lib.hid (by omega)
  rw [hpc, hpm, hpr, hq, hp]
  clear HAT d0 d1 hw5 hp hq hpr hpm hpc
  have HA := Lib.hid hat
  clear hat
  go_loopw [7, 8, 9, 18] (fun _ _ _ i wr => ∃ t : Nat, t ≤ T ∧ i = .int .i64 t ∧ Hid (hitsTo ms sp x t = true) ∧ Hid (HadAt w wr p q pr pm pc (some ⟨b, off, none⟩) n c A' n' c' cs ms k x sp T (hadTo ms sp x t))) (fun _ _ _ i _ => T - (intOf i).toNat)
  case atStart =>
    refine ⟨0, Nat.zero_le _, rfl, Lib.hid rfl, Lib.hid ?_⟩
    have := HA.out
    rwa [show noBits = hadTo ms sp x 0 from by funext m; rfl] at this
  case round =>
    obtain ⟨t, ht, rfl, hH, hA⟩ := hrel
    clear HA
    by_cases hlt : t < T
    · have hltz : (t : Int) < (T : Int) := by omega
      have c0 : wr.cell? ⟨q, 1, none⟩ = some (.int .i64 x) := cell_of_row _ _ _ _ _ _ hA.out.rq
      have c1 : wr.cell? ⟨pc, 0, none⟩ = some (.int .i64 sp) := cell_of_row _ _ _ _ _ _ hA.out.rc
      obtain ⟨y, hy⟩ : ∃ y, (t : Int) * sp = y := ⟨_, rfl⟩
      have hyb : 0 ≤ y ∧ y ≤ 1000 := by
        rw [← hy]
        have := mul_bd (a := (t : Int)) (b := sp) (M := 20) (N := 50) (by omega) (by omega) (by omega) (by omega)
        omega
      have w1 : IntKind.i64.wrap ((t : Int) * sp) = (t : Int) * sp := IntWalk.i64_in _ (by omega)
      go_upto_region 7 with fail
      obtain ⟨wa, hwa⟩ : ∃ wa, wr.alloc (.cells #[.int .i64 (x + y)] 2) = wa := ⟨_, rfl⟩
      have ea : Ext wr wa := by rw [← hwa]; exact ext_alloc _ _
      have hpa : wa.heap[wr.heap.size]? = some (.cells #[.int .i64 (x + y)] 2 (0, 0)) := by rw [← hwa]; exact row_last _ _ _ rfl
      rw [hwa]
      obtain ⟨pa, hpae⟩ : ∃ pa, wr.heap.size = pa := ⟨_, rfl⟩
      rw [hpae] at hpa ⊢
      have hAa := hA.out.ext ea
      have e121 : ∀ args w, (callFunc 121 args).run Try.prog w = .ok (.enter 121 args) w := enters_of Try.func121 (by kernel_rfl) rfl
      have hcon := firstRg 121 #[.pointer (some ⟨pa, 0, none⟩)] e121 (inMark (x + y)) A' n' c' ms wa hAa.sh.sheet.nms hAa.sh.sheet.nle' hAa.sh.sheet.hms (inMark_any (x + y) pa ms wa (Array.getElem?_eq_some_iff.1 hpa).1 (cell_of_row _ _ _ _ _ _ hpa))
      have hrl : ms.findIdx (inMark (x + y)) ≤ n' := by rw [hAa.sh.sheet.nms]; exact List.findIdx_le_length
      have hH1 := hitsTo_succ ms sp x t
      have hM1 : hadTo ms sp x (t + 1) = fun mark => hadTo ms sp x t mark || decide (hitOf ms (x + t * sp) = mark) := by funext mark; exact hadTo_succ ms sp x t mark
      unfold hitOf at hH1 hM1
      rw [hy] at hH1 hM1
      obtain ⟨r, hr⟩ : ∃ r, ms.findIdx (inMark (x + y)) = r := ⟨_, rfl⟩
      rw [hr] at hcon hrl hH1 hM1
      rw [hH.out, ← hAa.sh.sheet.nms] at hH1
      have HM1 := Lib.hid hM1
      have HH1 := Lib.hid hH1
      obtain ⟨q0, q1⟩ := hAa.sh.cells
      clear hwa ea hpae hr hM1 hH1 hy w1 c0 c1 e121
      go_wp2_with fail
      refine hcon.mono ?_
      rintro e wb ⟨rfl, hb1⟩
      have hAb := hAa.ext hb1
      clear hcon hAa hpa q0 q1 hb1
      obtain ⟨q0, q1⟩ := hAb.sh.cells
      by_cases hrn : r < n'
      · have hrz : ¬ (r : Int) = (n' : Int) := by omega
        have hr0 : (r : Int) < 12 := by omega
        have hr12 : r < 12 := by omega
        have hcl : wb.cell? ⟨pm, r, none⟩ = some (.int .i64 (if hadTo ms sp x t r = true then 1 else 0)) := (cell_of_row _ _ _ _ _ _ hAb.rm).trans (bitCells_get _ _ hr12)
        have hfz : wb.frozen? ⟨pm, r, none⟩ = false := by simp [World.frozen?, hAb.rm]
        have hAc : HadAt w (wb.setCell ⟨pm, r, none⟩ (.int .i64 1)) p q pr pm pc (some ⟨b, off, none⟩) n c A' n' c' cs ms k x sp T (hadTo ms sp x (t + 1)) :=
          hAb.turn HP.out.2.2.1 HP.out.1 (Below.setCell hAb.base HP.out.2.2.1 _) (fun b' hb' => heap_set_other wb pm r b' _ hb') (by simp [World.setCell]) HB.out (by
            rw [row_setCell _ _ _ _ _ _ _ hAb.rm, bitCells_set (hadTo ms sp x t) (hadTo ms sp x (t + 1)) r (by rw [HM1.out]; simp) (fun a _ hne => by rw [HM1.out]; show (hadTo ms sp x t a || decide (r = a)) = hadTo ms sp x t a; rw [decide_eq_false (fun e => hne e.symm), Bool.or_false])])
        have HC := Lib.hid hAc
        have HHt : hitsTo ms sp x (t + 1) = true := by rw [HH1.out]; simp [hrn]
        have HT1 := Lib.hid HHt
        clear hAc HHt hA hH HM1 HH1
        go_wp2
        go_roundw
        case measure => simp [intOf]; omega
        case rel => exact ⟨t + 1, by omega, by go_num, HT1, HC⟩
      · have hrz : (r : Int) = (n' : Int) := by omega
        have hf : hitsTo ms sp x T = false := hitsTo_false (t := t + 1) (by rw [HH1.out]; simp [hrn]) (by omega)
        obtain ⟨wz, hwz⟩ : ∃ wz, wb.setCells pm 0 (List.replicate 12 (.int .i64 0)) = wz := ⟨_, rfl⟩
        have hAc : HadAt w wz p q pr pm pc (some ⟨b, off, none⟩) n c A' n' c' cs ms k x sp T noBits := by
          rw [← hwz]
          refine hAb.turn HP.out.2.2.1 HP.out.1 (below_setCells _ 0 hAb.base HP.out.2.2.1) (fun b' hb' => ?_) ?_ HB.out (row_zeroed _ _ _ _ _ rfl hAb.rm)
          · exact setCells_other _ _ _ _ _ hb'
          · exact setCells_size _ _ _ _
        have HC := Lib.hid hAc
        have HF := Lib.hid hf
        have HB9 := Lib.hid hAb.rm
        clear hAc hf HM1 HH1 hA hH
        go_upto_region 9 with fail
        go_wp2_with (first | refine wpList_slice92 (.tmp 5) rfl rfl pm rfl ?_ | (refine wpList_clear30 37 rfl rfl rfl pm 12 rfl _ 92 HB9.out ?_; rw [hwz]) | refine wpList_load92 (.tmp 5) rfl rfl pm rfl (bitCells noBits) (bitCells_size _) HC.out.rm ?_ | refine wpList_store92 (.tmp 4) (.tmp 41) rfl rfl pr rfl (bitCells noBits) (bitCells noBits) (bitCells_size _) (bitCells_size _) (bitCells_one _) rfl HC.out.rr ?_)
        refine bodyPost_ret (v := .agg (bitCells noBits)) (results_row 92 rfl _ _ pr _ rfl (run_loadVar_row (P := Try.prog) _ _ 92 92 _ (0, 0) _ (row_setRow _ _ _ _ _ _ HC.out.rr) Try.underlying92 rfl (by rw [size92, bitCells_size]))) rfl ⟨?_, below_setRow HC.out.base HP.out.2.1 _⟩
        rw [show (fun mark => hitsTo ms sp x T && hadTo ms sp x T mark) = noBits from by funext m; rw [HF.out]; rfl]
    · have hltz : ¬ (t : Int) < (T : Int) := by omega
      obtain rfl : T = t := by omega
      go_wp2_with (first | refine wpList_load92 (.tmp 5) rfl rfl pm rfl (bitCells (hadTo ms sp x T)) (bitCells_size _) hA.out.rm ?_ | refine wpList_store92 (.tmp 4) (.tmp 41) rfl rfl pr rfl (bitCells (hadTo ms sp x T)) (bitCells noBits) (bitCells_size _) (bitCells_size _) (bitCells_one _) rfl hA.out.rr ?_)
      refine bodyPost_ret (v := .agg (bitCells (hadTo ms sp x T))) (results_row 92 rfl _ _ pr _ rfl (run_loadVar_row (P := Try.prog) _ _ 92 92 _ (0, 0) _ (row_setRow _ _ _ _ _ _ hA.out.rr) Try.underlying92 rfl (by rw [size92, bitCells_size]))) rfl ⟨?_, below_setRow hA.out.base HP.out.2.1 _⟩
      rw [show (fun mark => hitsTo ms sp x T && hadTo ms sp x T mark) = hadTo ms sp x T from by funext m; rw [hH.out]; rfl]
