/- Texts of one package, joined: ChoiceEntry, ChoiceReg, Choosing, LeftReg, Left, LeaveReg, Leave, TabDef. -/
import Derived.Test.YtlaakmgdbhabfaaC10
import Derived.Test.YtlaakmgdbhabfaaC15
import Derived.WideKeyEntry
/- An entry of the map that is raised or lowered: laid first, stored later. -/
namespace Go.Proofs.Ytlaakmgdbhabfaa
open Go.RowKit Go.Shelf Go.Maps Go.ChangeMaps Go.ChangeShapes Go.WideElems Go.MapKept

abbrev z2 : DataW Unit := .lit (.int .i64 0)
abbrev Own (W : World) (b n : Nat) (D : DataW Unit) : Prop := W.ownsMap Try.prog 92 (plainElem Try.prog 2) b n D
theorem owns_block {W W' : World} {b n : Nat} {D : DataW Unit} (h : Own W b n D) (e : W'.heap[b]? = W.heap[b]?) : Own W' b n D := by
  obtain ⟨es, clock, hb, r⟩ := h
  exact ⟨es, clock, e.trans hb, r⟩
theorem map_entry {W : World} {b n : Nat} {D : DataW Unit} (h : Own W b n D) (hn : n < maxLen) (M : Nat → Bool) : ∃ (v0 : Value) (st : Nat) (es1 : Array MapEntry) (clock1 : Nat) (D1 : DataW Unit),
    (Instr.mapEntry 136 (.map (some b)) (.agg (bitCells M))).run Try.prog W = .ok (.tuple #[v0, goInt st]) (setBlock W b (.map es1 clock1)) ∧
    Own (setBlock W b (.map es1 clock1)) b (n + 1) D1 ∧ D1.atKey (klOf M) z2 = D.atKey (klOf M) z2 ∧
    ∀ (W2 : World) (val : Int), W2.heap[b]? = some (.map es1 clock1) → (Lit.int .i64 val).wf = true → ∃ es' clock', (Instr.entryStore 136 (.map (some b)) (goInt st) (.int .i64 val)).run Try.prog W2 = .ok () (setBlock W2 b (.map es' clock')) ∧
      Own (setBlock W2 b (.map es' clock')) b (n + 1) (D.put (klOf M) (.lit (.int .i64 val))) := by
  obtain ⟨es, clock, hb, F, hs, hD⟩ := id h
  have hkey := key_bits M
  obtain ⟨v0, st, es1, clock1, hrun, hv0, hst⟩ := entry_then_store arrKey92.law under136 (fun u => zero2 u) hb F hkey
  have hstore : ∀ (W2 : World) (val : Int), W2.heap[b]? = some (.map es1 clock1) → (Lit.int .i64 val).wf = true → ∃ es' clock', (Instr.entryStore 136 (.map (some b)) (goInt st) (.int .i64 val)).run Try.prog W2 = .ok () (setBlock W2 b (.map es' clock')) ∧
      Own (setBlock W2 b (.map es' clock')) b (n + 1) (D.put (klOf M) (.lit (.int .i64 val))) := fun W2 val h2 hw => by
    obtain ⟨es', clock', h3, h4⟩ := hst W2 (.int .i64 val) h2
    refine ⟨es', clock', h3, ?_⟩
    obtain ⟨w', h5, h6, _⟩ := h.update law92 under136 hn hkey (plainElem_int under2 hw)
    rw [h4] at h5
    cases h5
    exact owns_block h6 (by rw [heap_setBlock_same h2, heap_setBlock_same hb])
  rcases law92.find W hkey es.toList F.keys with ⟨h1, h2⟩ | ⟨j, e0, h1, h2, h3⟩
  · have hr : (Instr.mapEntry 136 (.map (some b)) (.agg (bitCells M))).run Try.prog W = .ok (.tuple #[.int .i64 0, goInt clock]) (setBlock W b (.map (es.push ⟨.agg (bitCells M), .int .i64 0, clock⟩) (clock + 1))) := by
      simp [Instr.mapEntry, run_underlying under136, MapKept.run_getObj_map hb, law92.check W false hkey, h1, MapKept.run_setObj_map _ hb, Result.andThen, setBlock]
    have hu : (Instr.mapUpdate 136 (.map (some b)) (.agg (bitCells M)) (.int .i64 0)).run Try.prog W = .ok () (setBlock W b (.map (es.push ⟨.agg (bitCells M), .int .i64 0, clock⟩) (clock + 1))) := by
      simp [Instr.mapUpdate, run_underlying under136, MapKept.run_getObj_map hb, law92.check W false hkey, h1, MapKept.run_setObj_map _ hb, Result.andThen, setBlock]
    obtain ⟨w', h5, h6, _⟩ := h.update law92 under136 hn hkey (plainElem_int (H := Unit) under2 (a := 0) (by decide))
    rw [hu] at h5
    cases h5
    rw [hr] at hrun
    simp only [Result.ok.injEq] at hrun
    refine ⟨v0, st, es1, clock1, D.put (klOf M) z2, by rw [hr]; simp only [Result.ok.injEq]; exact hrun, by rw [← hrun.2]; exact h6, ?_, hstore⟩
    rw [atKey_put_same h.isMap (klOf_key M)]
    obtain ⟨c, hc1, hc2, _⟩ := h.lookup_int law92 under136 under2 (zero2 W) hkey
    rw [hc2]
    have hl : (Instr.lookup 136 (.map (some b)) (.agg (bitCells M)) false).run Try.prog W = .ok (.int .i64 0) W := by
      simp [Instr.lookup, run_underlying under136, MapKept.run_getObj_map hb, law92.check W _ hkey, h1, Result.andThen]
    rw [hl] at hc1
    cases hc1
    rfl
  · have hj : es[j]? = some e0 := by simpa using h2
    have hsame : es.modify j (fun e => { e with key := .agg (bitCells M) }) = es := by
      apply Array.ext'
      rw [Array.toList_modify, modify_eq_set _ _ _ _ h2]
      have : ({ e0 with key := .agg (bitCells M) } : MapEntry) = e0 := by rw [← h3]
      rw [this]
      exact set_self _ _ _ h2
    have hr : (Instr.mapEntry 136 (.map (some b)) (.agg (bitCells M))).run Try.prog W = .ok (.tuple #[e0.val, goInt e0.born]) (setBlock W b (.map es clock)) := by
      simp [Instr.mapEntry, run_underlying under136, MapKept.run_getObj_map hb, law92.check W false hkey, h1, hj, h3, law92.stays W hkey, hsame, MapKept.run_setObj_map _ hb, Result.andThen, setBlock]
    rw [hr] at hrun
    simp only [Result.ok.injEq] at hrun
    refine ⟨v0, st, es1, clock1, D, by rw [hr]; simp only [Result.ok.injEq]; exact hrun, ?_, rfl, hstore⟩
    rw [← hrun.2]
    exact owns_block (h.mono (Nat.le_succ n)) (by rw [heap_setBlock_same hb, hb])
end Go.Proofs.Ytlaakmgdbhabfaa

/- The regions that raise and lower an entry of the map. -/
namespace Go.Proofs.Ytlaakmgdbhabfaa
open Go.RowKit Go.Shelf Go.Maps Go.ChangeMaps Go.ChangeShapes Go.WideElems Go.MapKept
attribute [local irreducible] bitCells fitCells Z94 fitOf

def emptyOf (V : World) : World := { V with heap := #[] }
theorem ext_empty {V W : World} {b : Nat} (h : V.grownBy W (some b)) : Ext (emptyOf V) W := ⟨h.os, h.tape, h.output, Nat.zero_le _, fun _k hk => absurd hk (Nat.not_lt_zero _)⟩
theorem grown_block {V W W' : World} {b : Nat} (h : V.grownBy W (some b)) {o : Obj} (e : W' = setBlock W b o) : V.grownBy W' (some b) := by
  subst e
  exact ⟨h.os, h.tape, h.output, by have := h.size; simpa [setBlock] using this, fun i hi hne => by
    rw [← h.block i hi hne]
    show (W.heap.setIfInBounds b o)[i]? = _
    rw [Array.getElem?_setIfInBounds_ne (fun e => hne (by rw [e]))]⟩
theorem grown_ext {V W W' : World} {b : Nat} (h : V.grownBy W (some b)) (e : Ext W W') : V.grownBy W' (some b) :=
  ⟨e.os.trans h.os, e.tape.trans h.tape, e.output.trans h.output, Nat.le_trans h.size e.size, fun i hi hne => (e.block i (Nat.lt_of_lt_of_le hi h.size)).trans (h.block i hi hne)⟩
def enV (pc pf b : Nat) (M : Nat → Bool) (c c' : Int) (ix : Nat) : Value :=
  match ix with
  | 0 => .pointer (some ⟨pc, 0, none⟩)
  | 1 => .pointer (some ⟨pc, 0, none⟩)
  | 2 => .pointer (some ⟨pc, 1, none⟩)
  | 3 => .map (some b)
  | 4 => .pointer (some ⟨pf, 2, none⟩)
  | 5 => .agg (bitCells M)
  | 6 => .int .i64 c
  | _ => .int .i64 c'
/-- What is known while the operations of the region are listed: L. -/
structure EnMem (d0 pc pf b : Nat) (sv : Value) (fc : Array Value) (M : Nat → Bool) (n : Nat) (Dm : DataW Unit) (c c' : Int) (V : World) (L : Nat → Bool) (a : Act) (W : World) : Prop where
  got : ∀ i, i < 8 → L i = true → a.eval (.tmp (d0 + i)) = enV pc pf b M c c' i
  rowc : W.heap[pc]? = some (.cells #[sv, .map (some b)] 138 (0, 0))
  rowf : W.heap[pf]? = some (.cells fc 94 (0, 0))
  grown : V.grownBy W (some b)
  m0 : L 8 = false → Own W b n Dm
  m1 : L 8 = true → L 10 = false → ∃ (v0 : Value) (st : Nat) (es1 : Array MapEntry) (clock1 : Nat) (D1 : DataW Unit), a.eval (.tmp (d0 + 8)) = .tuple #[v0, goInt st] ∧ (L 9 = true → a.eval (.tmp (d0 + 9)) = goInt st) ∧ W.heap[b]? = some (.map es1 clock1) ∧
    Own W b (n + 1) D1 ∧ D1.atKey (klOf M) z2 = Dm.atKey (klOf M) z2 ∧
    ∀ (W2 : World) (val : Int), W2.heap[b]? = some (.map es1 clock1) → (Lit.int .i64 val).wf = true → ∃ es' clock', (Instr.entryStore 136 (.map (some b)) (goInt st) (.int .i64 val)).run Try.prog W2 = .ok () (setBlock W2 b (.map es' clock')) ∧
      Own (setBlock W2 b (.map es' clock')) b (n + 1) (Dm.put (klOf M) (.lit (.int .i64 val)))
  m2 : L 10 = true → Own W b (n + 1) (Dm.put (klOf M) (.lit (.int .i64 c')))
  o9 : L 9 = true → L 8 = true
  o10 : L 10 = true → L 9 = true
section
variable {d0 pc pf b : Nat} {sv : Value} {fc : Array Value} {M : Nat → Bool} {n : Nat} {Dm : DataW Unit} {c c' : Int} {V : World} {L : Nat → Bool} {a : Act} {W : World}
theorem fitCells_mark (k : Nat) (x : Int) (M : Nat → Bool) (j : Nat) (hj : j < 12) : (fitCells k x M)[2 + j]? = some (.int .i64 (if M j = true then 1 else 0)) := by
  unfold fitCells
  rw [Array.getElem?_append_right (by simp)]
  simpa using bitCells_get M j hj
theorem evn_same {a : Act} {d : Nat} {v : Value} (h : d < a.tmps.size) : (a.put (some d) v).eval (.tmp d) = v := by simp [Act.eval, Act.put, h]
theorem evn_ne {a : Act} {d e : Nat} {v : Value} (h : d ≠ e) : (a.put (some d) v).eval (.tmp e) = a.eval (.tmp e) := by simp [Act.eval, Act.put, h]
theorem EnMem.put (h : EnMem d0 pc pf b sv fc M n Dm c c' V L a W) (ha : d0 + 10 ≤ a.tmps.size) {i : Nat} (hi : i < 8) : EnMem d0 pc pf b sv fc M n Dm c c' V (fun j => decide (j = i) || L j) (a.put (some (d0 + i)) (enV pc pf b M c c' i)) W := by
  have e8 : (decide (8 = i) || L 8) = L 8 := by simp; omega
  have e9 : (decide (9 = i) || L 9) = L 9 := by simp; omega
  have e10 : (decide (10 = i) || L 10) = L 10 := by simp; omega
  refine ⟨fun j hj hL => ?_, h.rowc, h.rowf, h.grown, fun hL => h.m0 (by rw [← e8]; exact hL), fun h8 h10 => ?_, fun hL => h.m2 (by rw [← e10]; exact hL), fun hL => ?_, fun hL => ?_⟩
  · by_cases e : j = i
    · subst e
      exact evn_same (by omega)
    · rw [evn_ne (by omega)]
      exact h.got j hj (by simpa [e] using hL)
  · obtain ⟨v0, st, es1, clock1, D1, h1, h2, h3, h4, h5, h6⟩ := h.m1 (by rw [← e8]; exact h8) (by rw [← e10]; exact h10)
    exact ⟨v0, st, es1, clock1, D1, by rw [evn_ne (by omega)]; exact h1, fun hL => by rw [evn_ne (by omega)]; exact h2 (by rw [← e9]; exact hL), h3, h4, h5, h6⟩
  · show (decide (8 = i) || L 8) = true
    rw [e8]; exact h.o9 (by rw [← e9]; exact hL)
  · show (decide (9 = i) || L 9) = true
    rw [e9]; exact h.o10 (by rw [← e10]; exact hL)
theorem en_value {o : Oper} {Q : Exit → Act → World → Prop} {i : Nat} (hM : EnMem d0 pc pf b sv fc M n Dm c c' V L a W) (ha : d0 + 10 ≤ a.tmps.size) (hi : i < 8) (hd : o.dst = some (d0 + i)) (hr : (execOp a.eval o).run Try.prog W = .ok (.value (enV pc pf b M c c' i)) W) :
    o.wp Try.prog a W (fun a'' W' => ∃ v, a'' = a.put o.dst v ∧ Ext (emptyOf V) W' ∧ EnMem d0 pc pf b sv fc M n Dm c c' V (fun j => decide (j = i) || L j) a'' W') Q := by
  unfold Oper.wp
  rw [hr]
  exact ⟨_, rfl, ext_empty hM.grown, by rw [hd]; exact hM.put ha hi⟩
/-- The look-up, before or after the entry is laid. -/
theorem en_look (hM : EnMem d0 pc pf b sv fc M n Dm c c' V L a W) (h10 : L 10 = false) (hat : Dm.atKey (klOf M) z2 = .lit (.int .i64 c)) : (Instr.lookup 136 (.map (some b)) (.agg (bitCells M)) false).run Try.prog W = .ok (.int .i64 c) W := by
  cases h8 : L 8 with
  | false =>
    obtain ⟨x, hx, hy, _⟩ := (hM.m0 h8).lookup_int law92 under136 under2 (zero2 W) (key_bits M)
    rw [hat] at hy
    cases hy
    exact hx
  | true =>
    obtain ⟨v0, st, es1, clock1, D1, h1, h2, h3, h4, h5, h6⟩ := hM.m1 h8 h10
    obtain ⟨x, hx, hy, _⟩ := h4.lookup_int law92 under136 under2 (zero2 W) (key_bits M)
    rw [h5, hat] at hy
    cases hy
    exact hx
theorem en_entry {o : Oper} {Q : Exit → Act → World → Prop} (hM : EnMem d0 pc pf b sv fc M n Dm c c' V L a W) (ha : d0 + 10 ≤ a.tmps.size) (h8 : L 8 = false) (hn : n < maxLen) (hd : o.dst = some (d0 + 8))
    (hr : ∀ {v W'}, (Instr.mapEntry 136 (.map (some b)) (.agg (bitCells M))).run Try.prog W = .ok v W' → (execOp a.eval o).run Try.prog W = .ok (.value v) W') :
    o.wp Try.prog a W (fun a'' W' => ∃ v, a'' = a.put o.dst v ∧ Ext (emptyOf V) W' ∧ EnMem d0 pc pf b sv fc M n Dm c c' V (fun j => decide (j = 8) || L j) a'' W') Q := by
  have hown := hM.m0 h8
  obtain ⟨es, clock, hb, _⟩ := id hown
  obtain ⟨v0, st, es1, clock1, D1, h1, h2, h3, h4⟩ := map_entry hown hn M
  have hg := grown_block hM.grown (W' := setBlock W b (.map es1 clock1)) rfl
  unfold Oper.wp
  rw [hr h1]
  have hc1 : pc ≠ b := fun e => by have := hM.rowc; rw [e, hb] at this; cases this
  have hc2 : pf ≠ b := fun e => by have := hM.rowf; rw [e, hb] at this; cases this
  have h9 : L 9 = false := by
    cases h : L 9 with
    | false => rfl
    | true => rw [hM.o9 h] at h8; cases h8
  have h10 : L 10 = false := by
    cases h : L 10 with
    | false => rfl
    | true => rw [hM.o10 h] at h9; cases h9
  refine ⟨_, rfl, ext_empty hg, ?_⟩
  rw [hd]
  refine ⟨fun j hj hL => ?_, (heap_setBlock_other hb _ hc1).trans hM.rowc, (heap_setBlock_other hb _ hc2).trans hM.rowf, hg, fun h => by simp at h, fun _ _ => ⟨v0, st, es1, clock1, D1, evn_same (by omega), fun h => ?_, heap_setBlock_same hb _, h2, h3, h4⟩, fun h => ?_, fun _ => by simp, fun h => ?_⟩
  · rw [evn_ne (by omega)]
    exact hM.got j hj (by simpa [show ¬ j = 8 by omega] using hL)
  · simp [h9] at h
  · simp [h10] at h
  · simp [h10] at h
theorem en_stamp {o : Oper} {Q : Exit → Act → World → Prop} (hM : EnMem d0 pc pf b sv fc M n Dm c c' V L a W) (ha : d0 + 10 ≤ a.tmps.size) (h8 : L 8 = true) (h9 : L 9 = false) (hd : o.dst = some (d0 + 9)) (hg : o.op = .extract (.tmp (d0 + 8)) 1) :
    o.wp Try.prog a W (fun a'' W' => ∃ v, a'' = a.put o.dst v ∧ Ext (emptyOf V) W' ∧ EnMem d0 pc pf b sv fc M n Dm c c' V (fun j => decide (j = 9) || L j) a'' W') Q := by
  have h10 : L 10 = false := by
    cases h : L 10 with
    | false => rfl
    | true => rw [hM.o10 h] at h9; cases h9
  obtain ⟨v0, st, es1, clock1, D1, h1, h2, h3, h4, h5, h6⟩ := hM.m1 h8 h10
  have hr : (execOp a.eval o).run Try.prog W = .ok (.value (goInt st)) W := by simp [execOp, hg, go_sem, ev h1]
  unfold Oper.wp
  rw [hr]
  refine ⟨_, rfl, ext_empty hM.grown, ?_⟩
  rw [hd]
  refine ⟨fun j hj hL => ?_, hM.rowc, hM.rowf, hM.grown, fun h => ?_, fun _ _ => ⟨v0, st, es1, clock1, D1, by rw [evn_ne (by omega)]; exact h1, fun _ => evn_same (by omega), h3, h4, h5, h6⟩, fun h => ?_, fun _ => by simp [h8], fun h => ?_⟩
  · rw [evn_ne (by omega)]
    exact hM.got j hj (by simpa [show ¬ j = 9 by omega] using hL)
  · simp [h8] at h
  · simp [h10] at h
  · simp [h10] at h
theorem en_store {o : Oper} {Q : Exit → Act → World → Prop} (hM : EnMem d0 pc pf b sv fc M n Dm c c' V L a W) (h7 : L 7 = true) (h9 : L 9 = true) (h3' : L 3 = true) (h10 : L 10 = false) (hwf : (Lit.int .i64 c').wf = true) (hd : o.dst = none) (hg : o.op = .entryStore 136 (.tmp (d0 + 3)) (.tmp (d0 + 9)) (.tmp (d0 + 7))) :
    o.wp Try.prog a W (fun a'' W' => ∃ v, a'' = a.put o.dst v ∧ Ext (emptyOf V) W' ∧ EnMem d0 pc pf b sv fc M n Dm c c' V (fun j => decide (j = 10) || L j) a'' W') Q := by
  have h8 := hM.o9 h9
  obtain ⟨v0, st, es1, clock1, D1, h1, h2, h3, h4, h5, h6⟩ := hM.m1 h8 h10
  obtain ⟨es', clock', hx, hy⟩ := h6 W c' h3 hwf
  have e3 : a.eval (.tmp (d0 + 3)) = .map (some b) := hM.got 3 (by omega) h3'
  have e7 : a.eval (.tmp (d0 + 7)) = .int .i64 c' := hM.got 7 (by omega) h7
  have e9 := h2 h9
  have hr : (execOp a.eval o).run Try.prog W = .ok .skip (setBlock W b (.map es' clock')) := by simp [execOp, hg, e3, e7, e9, hx, Result.andThen]
  have hgr := grown_block hM.grown (W' := setBlock W b (.map es' clock')) rfl
  have hc1 : pc ≠ b := fun e => by have := hM.rowc; rw [e, h3] at this; cases this
  have hc2 : pf ≠ b := fun e => by have := hM.rowf; rw [e, h3] at this; cases this
  unfold Oper.wp
  rw [hr]
  refine ⟨undef, rfl, ext_empty hgr, ?_⟩
  rw [hd]
  refine ⟨fun j hj hL => hM.got j hj (by simpa [show ¬ j = 10 by omega] using hL), (heap_setBlock_other h3 _ hc1).trans hM.rowc, (heap_setBlock_other h3 _ hc2).trans hM.rowf, hgr, fun h => ?_, fun _ h => by simp at h, fun _ => hy, fun h => by simp [h8], fun _ => by simp [h9]⟩
  simp [h8] at h
end

/-- Region 5 of function 70. -/
noncomputable def rzReg : Array Oper := (Try.f70.body.bind (regionOf · 5)).getD #[]
def rzD (i : Nat) : Tmp := if i = 10 then 119 else 19 + i
section
variable {pc pf b : Nat} {sv : Value} {k : Nat} {x : Int} {M : Nat → Bool} {n : Nat} {Dm : DataW Unit} {c c' : Int} {V : World} {L : Nat → Bool} {a : Act} {W : World} {o : Oper} {Q : Exit → Act → World → Prop}
abbrev rzOut (pc pf b : Nat) (sv : Value) (k : Nat) (x : Int) (M : Nat → Bool) (n : Nat) (Dm : DataW Unit) (c c' : Int) (V : World) (L : Nat → Bool) (Q : Exit → Act → World → Prop) (a : Act) (W : World) (i : Nat) (o : Oper) : Prop :=
  o.wp Try.prog a W (fun a'' W' => ∃ v, a'' = a.put o.dst v ∧ Ext (emptyOf V) W' ∧ EnMem 19 pc pf b sv (fitCells k x M) M n Dm c c' V (fun j => decide (j = i) || L j) a'' W') Q
theorem rz_op0 (hM : EnMem 19 pc pf b sv (fitCells k x M) M n Dm c c' V L a W) (ha : a.tmps.size = 31) (os : a.eval (.tmp 3) = .pointer (some ⟨pc, 0, none⟩)) (ho : rzReg[0]? = some o) : rzOut pc pf b sv k x M n Dm c c' V L Q a W 0 o := by
  have hop := op_at ho (·.op) (x := Op.move (Operand.tmp 3)) (by kernel_rfl)
  have hd := op_at ho (·.dst) (x := some 19) (by kernel_rfl)
  exact en_value hM (by omega) (i := 0) (by omega) hd (by simp [execOp, hop, go_sem, enV, ev os])
theorem rz_op1 (hM : EnMem 19 pc pf b sv (fitCells k x M) M n Dm c c' V L a W) (ha : a.tmps.size = 31) (haft : ∀ j, (o.after.any fun e => decide (e.on = j) && Region.binds .any e) = true → L j = true) (ho : rzReg[1]? = some o) : rzOut pc pf b sv k x M n Dm c c' V L Q a W 1 o := by
  have hop := op_at ho (·.op) (x := Op.nilCheck (Operand.tmp 19)) (by kernel_rfl)
  have hd := op_at ho (·.dst) (x := some 20) (by kernel_rfl)
  have e0 : a.eval (.tmp 19) = enV pc pf b M c c' 0 := hM.got 0 (by omega) (haft 0 (op_at ho (fun o => o.after.any fun e => decide (e.on = 0) && Region.binds .any e) (x := true) (by kernel_rfl)))
  simp only [enV] at e0
  exact en_value hM (by omega) (i := 1) (by omega) hd (by simp [execOp, hop, go_sem, enV, ev e0])
theorem rz_op2 (hM : EnMem 19 pc pf b sv (fitCells k x M) M n Dm c c' V L a W) (ha : a.tmps.size = 31) (haft : ∀ j, (o.after.any fun e => decide (e.on = j) && Region.binds .any e) = true → L j = true) (ho : rzReg[2]? = some o) : rzOut pc pf b sv k x M n Dm c c' V L Q a W 2 o := by
  have hop := op_at ho (·.op) (x := Op.fieldAddr 138 (Operand.tmp 20) 1) (by kernel_rfl)
  have hd := op_at ho (·.dst) (x := some 21) (by kernel_rfl)
  have e1 : a.eval (.tmp 20) = enV pc pf b M c c' 1 := hM.got 1 (by omega) (haft 1 (op_at ho (fun o => o.after.any fun e => decide (e.on = 1) && Region.binds .any e) (x := true) (by kernel_rfl)))
  simp only [enV] at e1
  exact en_value hM (by omega) (i := 2) (by omega) hd (by simp [execOp, hop, go_sem, enV, ev e1])
theorem rz_op3 (hM : EnMem 19 pc pf b sv (fitCells k x M) M n Dm c c' V L a W) (ha : a.tmps.size = 31) (haft : ∀ j, (o.after.any fun e => decide (e.on = j) && Region.binds .any e) = true → L j = true) (ho : rzReg[3]? = some o) : rzOut pc pf b sv k x M n Dm c c' V L Q a W 3 o := by
  have hop := op_at ho (·.op) (x := Op.load 136 (Operand.tmp 21)) (by kernel_rfl)
  have hd := op_at ho (·.dst) (x := some 22) (by kernel_rfl)
  have e2 : a.eval (.tmp 21) = enV pc pf b M c c' 2 := hM.got 2 (by omega) (haft 2 (op_at ho (fun o => o.after.any fun e => decide (e.on = 2) && Region.binds .any e) (x := true) (by kernel_rfl)))
  simp only [enV] at e2
  have q : W.cell? ⟨pc, 1, none⟩ = some (.map (some b)) := cell_of_row _ _ _ _ _ _ hM.rowc
  exact en_value hM (by omega) (i := 3) (by omega) hd (by simp [execOp, hop, go_sem, enV, ev e2, q])
theorem rz_op4 (hM : EnMem 19 pc pf b sv (fitCells k x M) M n Dm c c' V L a W) (ha : a.tmps.size = 31) (os : a.eval (.tmp 5) = .pointer (some ⟨pf, 0, none⟩)) (ho : rzReg[4]? = some o) : rzOut pc pf b sv k x M n Dm c c' V L Q a W 4 o := by
  have hop := op_at ho (·.op) (x := Op.fieldAddr 94 (Operand.tmp 5) 1) (by kernel_rfl)
  have hd := op_at ho (·.dst) (x := some 23) (by kernel_rfl)
  exact en_value hM (by omega) (i := 4) (by omega) hd (by simp [execOp, hop, go_sem, enV, ev os])
theorem rz_op5 (hM : EnMem 19 pc pf b sv (fitCells k x M) M n Dm c c' V L a W) (ha : a.tmps.size = 31) (haft : ∀ j, (o.after.any fun e => decide (e.on = j) && Region.binds .any e) = true → L j = true) (ho : rzReg[5]? = some o) : rzOut pc pf b sv k x M n Dm c c' V L Q a W 5 o := by
  have hop := op_at ho (·.op) (x := Op.load 92 (Operand.tmp 23)) (by kernel_rfl)
  have hd := op_at ho (·.dst) (x := some 24) (by kernel_rfl)
  have e4 : a.eval (.tmp 23) = enV pc pf b M c c' 4 := hM.got 4 (by omega) (haft 4 (op_at ho (fun o => o.after.any fun e => decide (e.on = 4) && Region.binds .any e) (x := true) (by kernel_rfl)))
  simp only [enV] at e4
  have q : (loadVar 92 ⟨pf, 2, none⟩).run Try.prog W = .ok (.agg (bitCells M)) W := run_load92 W _ _ (bitCells_size _) (fun j u hj => by
    rw [Addr.add_lit]
    refine (cell_of_row _ _ _ _ _ _ hM.rowf).trans ?_
    have hj12 : j < 12 := by have := (List.getElem?_eq_some_iff.1 hj).1; rw [Array.length_toList, bitCells_size] at this; exact this
    rw [Array.getElem?_toList, bitCells_get M j hj12] at hj
    rw [fitCells_mark k x M j hj12]
    exact hj)
  exact en_value hM (by omega) (i := 5) (by omega) hd (by simp [execOp, hop, enV, e4, Instr.loadAt, Instr.sureAddr, q, Result.andThen])
theorem rz_op6 (hM : EnMem 19 pc pf b sv (fitCells k x M) M n Dm c c' V L a W) (ha : a.tmps.size = 31) (haft : ∀ j, (o.after.any fun e => decide (e.on = j) && Region.binds .any e) = true → L j = true) (h6 : L 6 = false) (hat : Dm.atKey (klOf M) z2 = .lit (.int .i64 c)) (h10 : L 10 = true → L 6 = true) (ho : rzReg[6]? = some o) : rzOut pc pf b sv k x M n Dm c c' V L Q a W 6 o := by
  have hop := op_at ho (·.op) (x := Op.lookup 136 (Operand.tmp 22) (Operand.tmp 24) false) (by kernel_rfl)
  have hd := op_at ho (·.dst) (x := some 25) (by kernel_rfl)
  have e3 : a.eval (.tmp 22) = enV pc pf b M c c' 3 := hM.got 3 (by omega) (haft 3 (op_at ho (fun o => o.after.any fun e => decide (e.on = 3) && Region.binds .any e) (x := true) (by kernel_rfl)))
  simp only [enV] at e3
  have e5 : a.eval (.tmp 24) = enV pc pf b M c c' 5 := hM.got 5 (by omega) (haft 5 (op_at ho (fun o => o.after.any fun e => decide (e.on = 5) && Region.binds .any e) (x := true) (by kernel_rfl)))
  simp only [enV] at e5
  have h10' : L 10 = false := by
    cases h : L 10 with
    | false => rfl
    | true => rw [h10 h] at h6; cases h6
  have q := en_look hM h10' hat
  exact en_value hM (by omega) (i := 6) (by omega) hd (by simp [execOp, hop, enV, e3, e5, q, Result.andThen])
theorem rz_op7 (hM : EnMem 19 pc pf b sv (fitCells k x M) M n Dm c c' V L a W) (ha : a.tmps.size = 31) (haft : ∀ j, (o.after.any fun e => decide (e.on = j) && Region.binds .any e) = true → L j = true) (hw : IntKind.i64.wrap (c + 1) = c') (ho : rzReg[7]? = some o) : rzOut pc pf b sv k x M n Dm c c' V L Q a W 7 o := by
  have hop := op_at ho (·.op) (x := Op.binOp BinOp.add 2 (Operand.tmp 25) (Operand.const (Value.int IntKind.i64 1)) 2) (by kernel_rfl)
  have hd := op_at ho (·.dst) (x := some 26) (by kernel_rfl)
  have e6 : a.eval (.tmp 25) = enV pc pf b M c c' 6 := hM.got 6 (by omega) (haft 6 (op_at ho (fun o => o.after.any fun e => decide (e.on = 6) && Region.binds .any e) (x := true) (by kernel_rfl)))
  simp only [enV] at e6
  exact en_value hM (by omega) (i := 7) (by omega) hd (by simp [execOp, hop, go_sem, enV, ev e6, hw])
theorem rz_op8 (hM : EnMem 19 pc pf b sv (fitCells k x M) M n Dm c c' V L a W) (ha : a.tmps.size = 31) (haft : ∀ j, (o.after.any fun e => decide (e.on = j) && Region.binds .any e) = true → L j = true) (h8 : L 8 = false) (hn : n < maxLen) (ho : rzReg[8]? = some o) : rzOut pc pf b sv k x M n Dm c c' V L Q a W 8 o := by
  have hop := op_at ho (·.op) (x := Op.mapEntry 136 (Operand.tmp 22) (Operand.tmp 24)) (by kernel_rfl)
  have hd := op_at ho (·.dst) (x := some 27) (by kernel_rfl)
  have e3 : a.eval (.tmp 22) = enV pc pf b M c c' 3 := hM.got 3 (by omega) (haft 3 (op_at ho (fun o => o.after.any fun e => decide (e.on = 3) && Region.binds .any e) (x := true) (by kernel_rfl)))
  simp only [enV] at e3
  have e5 : a.eval (.tmp 24) = enV pc pf b M c c' 5 := hM.got 5 (by omega) (haft 5 (op_at ho (fun o => o.after.any fun e => decide (e.on = 5) && Region.binds .any e) (x := true) (by kernel_rfl)))
  simp only [enV] at e5
  exact en_entry hM (by omega) h8 hn hd (fun h => by simp [execOp, hop, e3, e5, h, Result.andThen])
theorem rz_op9 (hM : EnMem 19 pc pf b sv (fitCells k x M) M n Dm c c' V L a W) (ha : a.tmps.size = 31) (haft : ∀ j, (o.after.any fun e => decide (e.on = j) && Region.binds .any e) = true → L j = true) (h9 : L 9 = false) (ho : rzReg[9]? = some o) : rzOut pc pf b sv k x M n Dm c c' V L Q a W 9 o := by
  have hop := op_at ho (·.op) (x := Op.extract (Operand.tmp 27) 1) (by kernel_rfl)
  have hd := op_at ho (·.dst) (x := some 28) (by kernel_rfl)
  exact en_stamp hM (by omega) (haft 8 (op_at ho (fun o => o.after.any fun e => decide (e.on = 8) && Region.binds .any e) (x := true) (by kernel_rfl))) h9 hd hop
theorem rz_op10 (hM : EnMem 19 pc pf b sv (fitCells k x M) M n Dm c c' V L a W) (_ha : a.tmps.size = 31) (haft : ∀ j, (o.after.any fun e => decide (e.on = j) && Region.binds .any e) = true → L j = true) (h10 : L 10 = false) (hwf : (Lit.int .i64 c').wf = true) (ho : rzReg[10]? = some o) : rzOut pc pf b sv k x M n Dm c c' V L Q a W 10 o := by
  have hop := op_at ho (·.op) (x := Op.entryStore 136 (Operand.tmp 22) (Operand.tmp 28) (Operand.tmp 26)) (by kernel_rfl)
  have hd := op_at ho (·.dst) (x := none) (by kernel_rfl)
  exact en_store hM (haft 7 (op_at ho (fun o => o.after.any fun e => decide (e.on = 7) && Region.binds .any e) (x := true) (by kernel_rfl))) (haft 9 (op_at ho (fun o => o.after.any fun e => decide (e.on = 9) && Region.binds .any e) (x := true) (by kernel_rfl))) (haft 3 (op_at ho (fun o => o.after.any fun e => decide (e.on = 3) && Region.binds .any e) (x := true) (by kernel_rfl))) h10 hwf hd hop
set_option maxRecDepth 100000 in
set_option maxHeartbeats 4000000 in
theorem rz_wp {id : Nat} (hlen : a.tmps.size = 31) (oc : a.eval (.tmp 3) = .pointer (some ⟨pc, 0, none⟩)) (of : a.eval (.tmp 5) = .pointer (some ⟨pf, 0, none⟩))
    (hrowc : V.heap[pc]? = some (.cells #[sv, .map (some b)] 138 (0, 0))) (hrowf : V.heap[pf]? = some (.cells (fitCells k x M) 94 (0, 0))) (hown : Own V b n Dm) (hat : Dm.atKey (klOf M) z2 = .lit (.int .i64 c)) (hn : n < maxLen) (hw : IntKind.i64.wrap (c + 1) = c') (hwf : (Lit.int .i64 c').wf = true)
    (K : ∀ (W : World) (v8 v9 : Value), V.grownBy W (some b) → Own W b (n + 1) (Dm.put (klOf M) (.lit (.int .i64 c'))) → Q .normal (puts a [(19, .pointer (some ⟨pc, 0, none⟩)), (20, .pointer (some ⟨pc, 0, none⟩)), (21, .pointer (some ⟨pc, 1, none⟩)), (22, .map (some b)), (23, .pointer (some ⟨pf, 2, none⟩)), (24, .agg (bitCells M)), (25, .int .i64 c), (26, .int .i64 c'), (27, v8), (28, v9)]) W) : (Code.region id rzReg true).wp Try.prog Q a V := by
  have hg0 : V.grownBy { V with drawn := V.drawn + 1 } (some b) := ⟨rfl, rfl, rfl, Nat.le_refl _, fun _ _ _ => rfl⟩
  refine wp_region_mem (W0 := emptyOf V) (fun _ => false) (fun _ => undef) rzD (fun L a W => EnMem 19 pc pf b sv (fitCells k x M) M n Dm c c' V L a W ∧ (L 10 = true → L 6 = true)) (by kernel_rfl) (by rw [hlen]; kernel_rfl) (ext_empty hg0)
    ⟨⟨fun i _ h => (by cases h), hrowc, hrowf, hg0, fun _ => hown, fun h => (by cases h), fun h => (by cases h), fun h => (by cases h), fun h => (by cases h)⟩, fun h => (by cases h)⟩ (fun L a' W W' i v _ h => (by cases h)) (fun i o _ h => (by cases h)) ?_ ?_
  · intro i o ho _ L a' W hE hsz hold haft hLi hMM
    obtain ⟨hM, h106⟩ := hMM
    have oc' := (hold 3 (by kernel_rfl)).trans oc
    have of' := (hold 5 (by kernel_rfl)).trans of
    have hi11 : i < 11 := by
      have h1 := (Array.getElem?_eq_some_iff.1 ho).1
      have h2 : rzReg.size = 11 := by kernel_rfl
      omega
    have haf := fun j h => (haft j h).1
    have hsz' := hsz.trans hlen
    have lift : ∀ {K : Prop}, (K → K) := fun h => h
    have fin : rzOut pc pf b sv k x M n Dm c c' V L Q a' W i o → (i = 10 → L 6 = true) → o.wp Try.prog a' W (fun a'' W' => ∃ v, a'' = a'.put o.dst v ∧ Ext (emptyOf V) W' ∧ EnMem 19 pc pf b sv (fitCells k x M) M n Dm c c' V (fun j => decide (j = i) || L j) a'' W' ∧ ((decide (10 = i) || L 10) = true → (decide (6 = i) || L 6) = true)) Q := by
      intro h h10
      refine Oper.wp_mono ?_ h
      rintro a'' W' ⟨v, h1, h2, h3⟩
      refine ⟨v, h1, h2, h3, fun h => ?_⟩
      by_cases e : i = 10
      · simp [h10 e]
      · have : L 10 = true := by simpa [show ¬ 10 = i from fun e' => e e'.symm] using h
        simp [h106 this]
    match i, hi11 with
    | 0, _ => exact fin (rz_op0 hM hsz' oc' ho) (fun e => by cases e)
    | 1, _ => exact fin (rz_op1 hM hsz' haf ho) (fun e => by cases e)
    | 2, _ => exact fin (rz_op2 hM hsz' haf ho) (fun e => by cases e)
    | 3, _ => exact fin (rz_op3 hM hsz' haf ho) (fun e => by cases e)
    | 4, _ => exact fin (rz_op4 hM hsz' of' ho) (fun e => by cases e)
    | 5, _ => exact fin (rz_op5 hM hsz' haf ho) (fun e => by cases e)
    | 6, _ => exact fin (rz_op6 hM hsz' haf hLi hat h106 ho) (fun e => by cases e)
    | 7, _ => exact fin (rz_op7 hM hsz' haf hw ho) (fun e => by cases e)
    | 8, _ => exact fin (rz_op8 hM hsz' haf hLi hn ho) (fun e => by cases e)
    | 9, _ => exact fin (rz_op9 hM hsz' haf hLi ho) (fun e => by cases e)
    | 10, _ => exact fin (rz_op10 hM hsz' haf hLi hwf ho) (fun _ => haf 6 (op_at ho (fun o => o.after.any fun e => decide (e.on = 6) && Region.binds .any e) (x := true) (by kernel_rfl)))
    | m + 11, h => exact absurd h (by omega)
  · intro a1 W hE hsz hdf hold _ hMM
    obtain ⟨hM, _⟩ := hMM
    obtain ⟨v8, g8⟩ : ∃ v, v = a1.eval (.tmp 27) := ⟨_, rfl⟩
    obtain ⟨v9, g9⟩ : ∃ v, v = a1.eval (.tmp 28) := ⟨_, rfl⟩
    have h2 : rzReg.size = 11 := by kernel_rfl
    rw [h2] at hM hold
    have hall : ∀ z, z ∈ ([(19, .pointer (some ⟨pc, 0, none⟩)), (20, .pointer (some ⟨pc, 0, none⟩)), (21, .pointer (some ⟨pc, 1, none⟩)), (22, .map (some b)), (23, .pointer (some ⟨pf, 2, none⟩)), (24, .agg (bitCells M)), (25, .int .i64 c), (26, .int .i64 c'), (27, v8), (28, v9)] : List (Tmp × Value)) → z.1 < a.tmps.size ∧ a1.eval (.tmp z.1) = z.2 := by
      intro z hz
      rw [hlen]
      simp only [List.mem_cons, List.not_mem_nil, or_false] at hz
      rcases hz with rfl | rfl | rfl | rfl | rfl | rfl | rfl | rfl | rfl | rfl
      · exact ⟨(show (19 : Nat) < 31 by omega), hM.got 0 (by omega) (by decide)⟩
      · exact ⟨(show (20 : Nat) < 31 by omega), hM.got 1 (by omega) (by decide)⟩
      · exact ⟨(show (21 : Nat) < 31 by omega), hM.got 2 (by omega) (by decide)⟩
      · exact ⟨(show (22 : Nat) < 31 by omega), hM.got 3 (by omega) (by decide)⟩
      · exact ⟨(show (23 : Nat) < 31 by omega), hM.got 4 (by omega) (by decide)⟩
      · exact ⟨(show (24 : Nat) < 31 by omega), hM.got 5 (by omega) (by decide)⟩
      · exact ⟨(show (25 : Nat) < 31 by omega), hM.got 6 (by omega) (by decide)⟩
      · exact ⟨(show (26 : Nat) < 31 by omega), hM.got 7 (by omega) (by decide)⟩
      · exact ⟨(show (27 : Nat) < 31 by omega), g8.symm⟩
      · exact ⟨(show (28 : Nat) < 31 by omega), g9.symm⟩
    have ha := act_puts hsz hdf hall (fun t ht => by
      by_cases h100 : t = 119
      · subst h100
        simp [Act.eval, hsz, hlen]
      refine hold t (all_ne_of (l := [(19, .pointer (some ⟨pc, 0, none⟩)), (20, .pointer (some ⟨pc, 0, none⟩)), (21, .pointer (some ⟨pc, 1, none⟩)), (22, .map (some b)), (23, .pointer (some ⟨pf, 2, none⟩)), (24, .agg (bitCells M)), (25, .int .i64 c), (26, .int .i64 c'), (27, v8), (28, v9), (119, undef)]) (by kernel_rfl) ?_)
      intro hmem
      simp only [List.map_cons, List.map_nil, List.mem_cons, List.not_mem_nil, or_false] at hmem
      rcases hmem with rfl | rfl | rfl | rfl | rfl | rfl | rfl | rfl | rfl | rfl | rfl <;> first | exact h100 rfl | exact ht (by simp))
    rw [ha]
    exact K W v8 v9 hM.grown (hM.m2 (by decide))
end

/-- Region 1 of function 98. -/
noncomputable def lwReg : Array Oper := (Try.f98.body.bind (regionOf · 1)).getD #[]
def lwD (i : Nat) : Tmp := if i = 10 then 104 else 4 + i
section
variable {pc pf b : Nat} {sv : Value} {k : Nat} {x : Int} {M : Nat → Bool} {n : Nat} {Dm : DataW Unit} {c c' : Int} {V : World} {L : Nat → Bool} {a : Act} {W : World} {o : Oper} {Q : Exit → Act → World → Prop}
abbrev lwOut (pc pf b : Nat) (sv : Value) (k : Nat) (x : Int) (M : Nat → Bool) (n : Nat) (Dm : DataW Unit) (c c' : Int) (V : World) (L : Nat → Bool) (Q : Exit → Act → World → Prop) (a : Act) (W : World) (i : Nat) (o : Oper) : Prop :=
  o.wp Try.prog a W (fun a'' W' => ∃ v, a'' = a.put o.dst v ∧ Ext (emptyOf V) W' ∧ EnMem 4 pc pf b sv (fitCells k x M) M n Dm c c' V (fun j => decide (j = i) || L j) a'' W') Q
theorem lw_op0 (hM : EnMem 4 pc pf b sv (fitCells k x M) M n Dm c c' V L a W) (ha : a.tmps.size = 28) (os : a.eval (.tmp 0) = .pointer (some ⟨pc, 0, none⟩)) (ho : lwReg[0]? = some o) : lwOut pc pf b sv k x M n Dm c c' V L Q a W 0 o := by
  have hop := op_at ho (·.op) (x := Op.move (Operand.tmp 0)) (by kernel_rfl)
  have hd := op_at ho (·.dst) (x := some 4) (by kernel_rfl)
  exact en_value hM (by omega) (i := 0) (by omega) hd (by simp [execOp, hop, go_sem, enV, ev os])
theorem lw_op1 (hM : EnMem 4 pc pf b sv (fitCells k x M) M n Dm c c' V L a W) (ha : a.tmps.size = 28) (haft : ∀ j, (o.after.any fun e => decide (e.on = j) && Region.binds .any e) = true → L j = true) (ho : lwReg[1]? = some o) : lwOut pc pf b sv k x M n Dm c c' V L Q a W 1 o := by
  have hop := op_at ho (·.op) (x := Op.nilCheck (Operand.tmp 4)) (by kernel_rfl)
  have hd := op_at ho (·.dst) (x := some 5) (by kernel_rfl)
  have e0 : a.eval (.tmp 4) = enV pc pf b M c c' 0 := hM.got 0 (by omega) (haft 0 (op_at ho (fun o => o.after.any fun e => decide (e.on = 0) && Region.binds .any e) (x := true) (by kernel_rfl)))
  simp only [enV] at e0
  exact en_value hM (by omega) (i := 1) (by omega) hd (by simp [execOp, hop, go_sem, enV, ev e0])
theorem lw_op2 (hM : EnMem 4 pc pf b sv (fitCells k x M) M n Dm c c' V L a W) (ha : a.tmps.size = 28) (haft : ∀ j, (o.after.any fun e => decide (e.on = j) && Region.binds .any e) = true → L j = true) (ho : lwReg[2]? = some o) : lwOut pc pf b sv k x M n Dm c c' V L Q a W 2 o := by
  have hop := op_at ho (·.op) (x := Op.fieldAddr 138 (Operand.tmp 5) 1) (by kernel_rfl)
  have hd := op_at ho (·.dst) (x := some 6) (by kernel_rfl)
  have e1 : a.eval (.tmp 5) = enV pc pf b M c c' 1 := hM.got 1 (by omega) (haft 1 (op_at ho (fun o => o.after.any fun e => decide (e.on = 1) && Region.binds .any e) (x := true) (by kernel_rfl)))
  simp only [enV] at e1
  exact en_value hM (by omega) (i := 2) (by omega) hd (by simp [execOp, hop, go_sem, enV, ev e1])
theorem lw_op3 (hM : EnMem 4 pc pf b sv (fitCells k x M) M n Dm c c' V L a W) (ha : a.tmps.size = 28) (haft : ∀ j, (o.after.any fun e => decide (e.on = j) && Region.binds .any e) = true → L j = true) (ho : lwReg[3]? = some o) : lwOut pc pf b sv k x M n Dm c c' V L Q a W 3 o := by
  have hop := op_at ho (·.op) (x := Op.load 136 (Operand.tmp 6)) (by kernel_rfl)
  have hd := op_at ho (·.dst) (x := some 7) (by kernel_rfl)
  have e2 : a.eval (.tmp 6) = enV pc pf b M c c' 2 := hM.got 2 (by omega) (haft 2 (op_at ho (fun o => o.after.any fun e => decide (e.on = 2) && Region.binds .any e) (x := true) (by kernel_rfl)))
  simp only [enV] at e2
  have q : W.cell? ⟨pc, 1, none⟩ = some (.map (some b)) := cell_of_row _ _ _ _ _ _ hM.rowc
  exact en_value hM (by omega) (i := 3) (by omega) hd (by simp [execOp, hop, go_sem, enV, ev e2, q])
theorem lw_op4 (hM : EnMem 4 pc pf b sv (fitCells k x M) M n Dm c c' V L a W) (ha : a.tmps.size = 28) (os : a.eval (.tmp 3) = .pointer (some ⟨pf, 0, none⟩)) (ho : lwReg[4]? = some o) : lwOut pc pf b sv k x M n Dm c c' V L Q a W 4 o := by
  have hop := op_at ho (·.op) (x := Op.fieldAddr 94 (Operand.tmp 3) 1) (by kernel_rfl)
  have hd := op_at ho (·.dst) (x := some 8) (by kernel_rfl)
  exact en_value hM (by omega) (i := 4) (by omega) hd (by simp [execOp, hop, go_sem, enV, ev os])
theorem lw_op5 (hM : EnMem 4 pc pf b sv (fitCells k x M) M n Dm c c' V L a W) (ha : a.tmps.size = 28) (haft : ∀ j, (o.after.any fun e => decide (e.on = j) && Region.binds .any e) = true → L j = true) (ho : lwReg[5]? = some o) : lwOut pc pf b sv k x M n Dm c c' V L Q a W 5 o := by
  have hop := op_at ho (·.op) (x := Op.load 92 (Operand.tmp 8)) (by kernel_rfl)
  have hd := op_at ho (·.dst) (x := some 9) (by kernel_rfl)
  have e4 : a.eval (.tmp 8) = enV pc pf b M c c' 4 := hM.got 4 (by omega) (haft 4 (op_at ho (fun o => o.after.any fun e => decide (e.on = 4) && Region.binds .any e) (x := true) (by kernel_rfl)))
  simp only [enV] at e4
  have q : (loadVar 92 ⟨pf, 2, none⟩).run Try.prog W = .ok (.agg (bitCells M)) W := run_load92 W _ _ (bitCells_size _) (fun j u hj => by
    rw [Addr.add_lit]
    refine (cell_of_row _ _ _ _ _ _ hM.rowf).trans ?_
    have hj12 : j < 12 := by have := (List.getElem?_eq_some_iff.1 hj).1; rw [Array.length_toList, bitCells_size] at this; exact this
    rw [Array.getElem?_toList, bitCells_get M j hj12] at hj
    rw [fitCells_mark k x M j hj12]
    exact hj)
  exact en_value hM (by omega) (i := 5) (by omega) hd (by simp [execOp, hop, enV, e4, Instr.loadAt, Instr.sureAddr, q, Result.andThen])
theorem lw_op6 (hM : EnMem 4 pc pf b sv (fitCells k x M) M n Dm c c' V L a W) (ha : a.tmps.size = 28) (haft : ∀ j, (o.after.any fun e => decide (e.on = j) && Region.binds .any e) = true → L j = true) (h6 : L 6 = false) (hat : Dm.atKey (klOf M) z2 = .lit (.int .i64 c)) (h10 : L 10 = true → L 6 = true) (ho : lwReg[6]? = some o) : lwOut pc pf b sv k x M n Dm c c' V L Q a W 6 o := by
  have hop := op_at ho (·.op) (x := Op.lookup 136 (Operand.tmp 7) (Operand.tmp 9) false) (by kernel_rfl)
  have hd := op_at ho (·.dst) (x := some 10) (by kernel_rfl)
  have e3 : a.eval (.tmp 7) = enV pc pf b M c c' 3 := hM.got 3 (by omega) (haft 3 (op_at ho (fun o => o.after.any fun e => decide (e.on = 3) && Region.binds .any e) (x := true) (by kernel_rfl)))
  simp only [enV] at e3
  have e5 : a.eval (.tmp 9) = enV pc pf b M c c' 5 := hM.got 5 (by omega) (haft 5 (op_at ho (fun o => o.after.any fun e => decide (e.on = 5) && Region.binds .any e) (x := true) (by kernel_rfl)))
  simp only [enV] at e5
  have h10' : L 10 = false := by
    cases h : L 10 with
    | false => rfl
    | true => rw [h10 h] at h6; cases h6
  have q := en_look hM h10' hat
  exact en_value hM (by omega) (i := 6) (by omega) hd (by simp [execOp, hop, enV, e3, e5, q, Result.andThen])
theorem lw_op7 (hM : EnMem 4 pc pf b sv (fitCells k x M) M n Dm c c' V L a W) (ha : a.tmps.size = 28) (haft : ∀ j, (o.after.any fun e => decide (e.on = j) && Region.binds .any e) = true → L j = true) (hw : IntKind.i64.wrap (c - 1) = c') (ho : lwReg[7]? = some o) : lwOut pc pf b sv k x M n Dm c c' V L Q a W 7 o := by
  have hop := op_at ho (·.op) (x := Op.binOp BinOp.sub 2 (Operand.tmp 10) (Operand.const (Value.int IntKind.i64 1)) 2) (by kernel_rfl)
  have hd := op_at ho (·.dst) (x := some 11) (by kernel_rfl)
  have e6 : a.eval (.tmp 10) = enV pc pf b M c c' 6 := hM.got 6 (by omega) (haft 6 (op_at ho (fun o => o.after.any fun e => decide (e.on = 6) && Region.binds .any e) (x := true) (by kernel_rfl)))
  simp only [enV] at e6
  exact en_value hM (by omega) (i := 7) (by omega) hd (by simp [execOp, hop, go_sem, enV, ev e6, hw])
theorem lw_op8 (hM : EnMem 4 pc pf b sv (fitCells k x M) M n Dm c c' V L a W) (ha : a.tmps.size = 28) (haft : ∀ j, (o.after.any fun e => decide (e.on = j) && Region.binds .any e) = true → L j = true) (h8 : L 8 = false) (hn : n < maxLen) (ho : lwReg[8]? = some o) : lwOut pc pf b sv k x M n Dm c c' V L Q a W 8 o := by
  have hop := op_at ho (·.op) (x := Op.mapEntry 136 (Operand.tmp 7) (Operand.tmp 9)) (by kernel_rfl)
  have hd := op_at ho (·.dst) (x := some 12) (by kernel_rfl)
  have e3 : a.eval (.tmp 7) = enV pc pf b M c c' 3 := hM.got 3 (by omega) (haft 3 (op_at ho (fun o => o.after.any fun e => decide (e.on = 3) && Region.binds .any e) (x := true) (by kernel_rfl)))
  simp only [enV] at e3
  have e5 : a.eval (.tmp 9) = enV pc pf b M c c' 5 := hM.got 5 (by omega) (haft 5 (op_at ho (fun o => o.after.any fun e => decide (e.on = 5) && Region.binds .any e) (x := true) (by kernel_rfl)))
  simp only [enV] at e5
  exact en_entry hM (by omega) h8 hn hd (fun h => by simp [execOp, hop, e3, e5, h, Result.andThen])
theorem lw_op9 (hM : EnMem 4 pc pf b sv (fitCells k x M) M n Dm c c' V L a W) (ha : a.tmps.size = 28) (haft : ∀ j, (o.after.any fun e => decide (e.on = j) && Region.binds .any e) = true → L j = true) (h9 : L 9 = false) (ho : lwReg[9]? = some o) : lwOut pc pf b sv k x M n Dm c c' V L Q a W 9 o := by
  have hop := op_at ho (·.op) (x := Op.extract (Operand.tmp 12) 1) (by kernel_rfl)
  have hd := op_at ho (·.dst) (x := some 13) (by kernel_rfl)
  exact en_stamp hM (by omega) (haft 8 (op_at ho (fun o => o.after.any fun e => decide (e.on = 8) && Region.binds .any e) (x := true) (by kernel_rfl))) h9 hd hop
theorem lw_op10 (hM : EnMem 4 pc pf b sv (fitCells k x M) M n Dm c c' V L a W) (_ha : a.tmps.size = 28) (haft : ∀ j, (o.after.any fun e => decide (e.on = j) && Region.binds .any e) = true → L j = true) (h10 : L 10 = false) (hwf : (Lit.int .i64 c').wf = true) (ho : lwReg[10]? = some o) : lwOut pc pf b sv k x M n Dm c c' V L Q a W 10 o := by
  have hop := op_at ho (·.op) (x := Op.entryStore 136 (Operand.tmp 7) (Operand.tmp 13) (Operand.tmp 11)) (by kernel_rfl)
  have hd := op_at ho (·.dst) (x := none) (by kernel_rfl)
  exact en_store hM (haft 7 (op_at ho (fun o => o.after.any fun e => decide (e.on = 7) && Region.binds .any e) (x := true) (by kernel_rfl))) (haft 9 (op_at ho (fun o => o.after.any fun e => decide (e.on = 9) && Region.binds .any e) (x := true) (by kernel_rfl))) (haft 3 (op_at ho (fun o => o.after.any fun e => decide (e.on = 3) && Region.binds .any e) (x := true) (by kernel_rfl))) h10 hwf hd hop
set_option maxRecDepth 100000 in
set_option maxHeartbeats 4000000 in
theorem lw_wp {id : Nat} (hlen : a.tmps.size = 28) (oc : a.eval (.tmp 0) = .pointer (some ⟨pc, 0, none⟩)) (of : a.eval (.tmp 3) = .pointer (some ⟨pf, 0, none⟩))
    (hrowc : V.heap[pc]? = some (.cells #[sv, .map (some b)] 138 (0, 0))) (hrowf : V.heap[pf]? = some (.cells (fitCells k x M) 94 (0, 0))) (hown : Own V b n Dm) (hat : Dm.atKey (klOf M) z2 = .lit (.int .i64 c)) (hn : n < maxLen) (hw : IntKind.i64.wrap (c - 1) = c') (hwf : (Lit.int .i64 c').wf = true)
    (K : ∀ (W : World) (v8 v9 : Value), V.grownBy W (some b) → Own W b (n + 1) (Dm.put (klOf M) (.lit (.int .i64 c'))) → Q .normal (puts a [(4, .pointer (some ⟨pc, 0, none⟩)), (5, .pointer (some ⟨pc, 0, none⟩)), (6, .pointer (some ⟨pc, 1, none⟩)), (7, .map (some b)), (8, .pointer (some ⟨pf, 2, none⟩)), (9, .agg (bitCells M)), (10, .int .i64 c), (11, .int .i64 c'), (12, v8), (13, v9)]) W) : (Code.region id lwReg true).wp Try.prog Q a V := by
  have hg0 : V.grownBy { V with drawn := V.drawn + 1 } (some b) := ⟨rfl, rfl, rfl, Nat.le_refl _, fun _ _ _ => rfl⟩
  refine wp_region_mem (W0 := emptyOf V) (fun _ => false) (fun _ => undef) lwD (fun L a W => EnMem 4 pc pf b sv (fitCells k x M) M n Dm c c' V L a W ∧ (L 10 = true → L 6 = true)) (by kernel_rfl) (by rw [hlen]; kernel_rfl) (ext_empty hg0)
    ⟨⟨fun i _ h => (by cases h), hrowc, hrowf, hg0, fun _ => hown, fun h => (by cases h), fun h => (by cases h), fun h => (by cases h), fun h => (by cases h)⟩, fun h => (by cases h)⟩ (fun L a' W W' i v _ h => (by cases h)) (fun i o _ h => (by cases h)) ?_ ?_
  · intro i o ho _ L a' W hE hsz hold haft hLi hMM
    obtain ⟨hM, h106⟩ := hMM
    have oc' := (hold 0 (by kernel_rfl)).trans oc
    have of' := (hold 3 (by kernel_rfl)).trans of
    have hi11 : i < 11 := by
      have h1 := (Array.getElem?_eq_some_iff.1 ho).1
      have h2 : lwReg.size = 11 := by kernel_rfl
      omega
    have haf := fun j h => (haft j h).1
    have hsz' := hsz.trans hlen
    have lift : ∀ {K : Prop}, (K → K) := fun h => h
    have fin : lwOut pc pf b sv k x M n Dm c c' V L Q a' W i o → (i = 10 → L 6 = true) → o.wp Try.prog a' W (fun a'' W' => ∃ v, a'' = a'.put o.dst v ∧ Ext (emptyOf V) W' ∧ EnMem 4 pc pf b sv (fitCells k x M) M n Dm c c' V (fun j => decide (j = i) || L j) a'' W' ∧ ((decide (10 = i) || L 10) = true → (decide (6 = i) || L 6) = true)) Q := by
      intro h h10
      refine Oper.wp_mono ?_ h
      rintro a'' W' ⟨v, h1, h2, h3⟩
      refine ⟨v, h1, h2, h3, fun h => ?_⟩
      by_cases e : i = 10
      · simp [h10 e]
      · have : L 10 = true := by simpa [show ¬ 10 = i from fun e' => e e'.symm] using h
        simp [h106 this]
    match i, hi11 with
    | 0, _ => exact fin (lw_op0 hM hsz' oc' ho) (fun e => by cases e)
    | 1, _ => exact fin (lw_op1 hM hsz' haf ho) (fun e => by cases e)
    | 2, _ => exact fin (lw_op2 hM hsz' haf ho) (fun e => by cases e)
    | 3, _ => exact fin (lw_op3 hM hsz' haf ho) (fun e => by cases e)
    | 4, _ => exact fin (lw_op4 hM hsz' of' ho) (fun e => by cases e)
    | 5, _ => exact fin (lw_op5 hM hsz' haf ho) (fun e => by cases e)
    | 6, _ => exact fin (lw_op6 hM hsz' haf hLi hat h106 ho) (fun e => by cases e)
    | 7, _ => exact fin (lw_op7 hM hsz' haf hw ho) (fun e => by cases e)
    | 8, _ => exact fin (lw_op8 hM hsz' haf hLi hn ho) (fun e => by cases e)
    | 9, _ => exact fin (lw_op9 hM hsz' haf hLi ho) (fun e => by cases e)
    | 10, _ => exact fin (lw_op10 hM hsz' haf hLi hwf ho) (fun _ => haf 6 (op_at ho (fun o => o.after.any fun e => decide (e.on = 6) && Region.binds .any e) (x := true) (by kernel_rfl)))
    | m + 11, h => exact absurd h (by omega)
  · intro a1 W hE hsz hdf hold _ hMM
    obtain ⟨hM, _⟩ := hMM
    obtain ⟨v8, g8⟩ : ∃ v, v = a1.eval (.tmp 12) := ⟨_, rfl⟩
    obtain ⟨v9, g9⟩ : ∃ v, v = a1.eval (.tmp 13) := ⟨_, rfl⟩
    have h2 : lwReg.size = 11 := by kernel_rfl
    rw [h2] at hM hold
    have hall : ∀ z, z ∈ ([(4, .pointer (some ⟨pc, 0, none⟩)), (5, .pointer (some ⟨pc, 0, none⟩)), (6, .pointer (some ⟨pc, 1, none⟩)), (7, .map (some b)), (8, .pointer (some ⟨pf, 2, none⟩)), (9, .agg (bitCells M)), (10, .int .i64 c), (11, .int .i64 c'), (12, v8), (13, v9)] : List (Tmp × Value)) → z.1 < a.tmps.size ∧ a1.eval (.tmp z.1) = z.2 := by
      intro z hz
      rw [hlen]
      simp only [List.mem_cons, List.not_mem_nil, or_false] at hz
      rcases hz with rfl | rfl | rfl | rfl | rfl | rfl | rfl | rfl | rfl | rfl
      · exact ⟨(show (4 : Nat) < 28 by omega), hM.got 0 (by omega) (by decide)⟩
      · exact ⟨(show (5 : Nat) < 28 by omega), hM.got 1 (by omega) (by decide)⟩
      · exact ⟨(show (6 : Nat) < 28 by omega), hM.got 2 (by omega) (by decide)⟩
      · exact ⟨(show (7 : Nat) < 28 by omega), hM.got 3 (by omega) (by decide)⟩
      · exact ⟨(show (8 : Nat) < 28 by omega), hM.got 4 (by omega) (by decide)⟩
      · exact ⟨(show (9 : Nat) < 28 by omega), hM.got 5 (by omega) (by decide)⟩
      · exact ⟨(show (10 : Nat) < 28 by omega), hM.got 6 (by omega) (by decide)⟩
      · exact ⟨(show (11 : Nat) < 28 by omega), hM.got 7 (by omega) (by decide)⟩
      · exact ⟨(show (12 : Nat) < 28 by omega), g8.symm⟩
      · exact ⟨(show (13 : Nat) < 28 by omega), g9.symm⟩
    have ha := act_puts hsz hdf hall (fun t ht => by
      by_cases h100 : t = 104
      · subst h100
        simp [Act.eval, hsz, hlen]
      refine hold t (all_ne_of (l := [(4, .pointer (some ⟨pc, 0, none⟩)), (5, .pointer (some ⟨pc, 0, none⟩)), (6, .pointer (some ⟨pc, 1, none⟩)), (7, .map (some b)), (8, .pointer (some ⟨pf, 2, none⟩)), (9, .agg (bitCells M)), (10, .int .i64 c), (11, .int .i64 c'), (12, v8), (13, v9), (104, undef)]) (by kernel_rfl) ?_)
      intro hmem
      simp only [List.map_cons, List.map_nil, List.mem_cons, List.not_mem_nil, or_false] at hmem
      rcases hmem with rfl | rfl | rfl | rfl | rfl | rfl | rfl | rfl | rfl | rfl | rfl <;> first | exact h100 rfl | exact ht (by simp))
    rw [ha]
    exact K W v8 v9 hM.grown (hM.m2 (by decide))
end
end Go.Proofs.Ytlaakmgdbhabfaa

/- choosing. -/
namespace Go.Proofs.Ytlaakmgdbhabfaa
open Go.RowKit Go.Shelf Go.Maps Go.ChangeMaps
attribute [local irreducible] bitCells fitCells Z94 fitOf

/-- The number of the marks that a row has. -/
def noOf (cs ms : List (Int × Int)) (x : Nat × Int) : Nat := setNo (hadB cs ms x.1 x.2)
/-- The map holds how often each of ys is there, in at most n entries. -/
def AlikeN (W : World) (b n : Nat) (ys : List Nat) : Prop := ∃ D : DataW Unit, Own W b n D ∧
  (∀ M, Maps.has D (klOf M) = decide (setNo M ∈ ys) ∧ D.atKey (klOf M) z2 = .lit (.int .i64 ((ys.count (setNo M) : Nat) : Int))) ∧ ∀ kl, Maps.has D kl = true → ∃ M, kl = klOf M
theorem AlikeN.alike {W : World} {b n : Nat} {ys : List Nat} (h : AlikeN W b n ys) (hn : n ≤ 100000) : Alike W b ys := by
  obtain ⟨D, h1, h2, h3⟩ := h
  exact ⟨n, D, hn, h1, h2, h3⟩
theorem AlikeN.far {W W' : World} {b n : Nat} {ys : List Nat} (h : AlikeN W b n ys) (e : W'.heap[b]? = W.heap[b]?) : AlikeN W' b n ys := by
  obtain ⟨D, h2, h3⟩ := h
  exact ⟨D, owns_block h2 e, h3⟩
theorem AlikeN.made (W : World) : AlikeN (W.alloc (.map #[] 0)) W.heap.size 0 [] :=
  ⟨.map [], World.ownsMap_made W _ _ _, fun M => ⟨rfl, rfl⟩, fun kl h => by cases h⟩
/-- One more of some marks. -/
theorem AlikeN.put {W : World} {b : Nat} {ys : List Nat} {n : Nat} {D : DataW Unit} {M : Nat → Bool} {c : Int} (hD : Maps.IsMap D)
    (h1 : ∀ M, Maps.has D (klOf M) = decide (setNo M ∈ ys) ∧ D.atKey (klOf M) z2 = .lit (.int .i64 ((ys.count (setNo M) : Nat) : Int))) (h2 : ∀ kl, Maps.has D kl = true → ∃ M, kl = klOf M)
    (hc : c = ((ys.count (setNo M) + 1 : Nat) : Int)) (hw : Own W b (n + 1) (D.put (klOf M) (.lit (.int .i64 c)))) : AlikeN W b (n + 1) (ys ++ [setNo M]) := by
  refine ⟨_, hw, fun M' => ?_, fun kl hkl => ?_⟩
  · by_cases e : klOf M' = klOf M
    · have e2 := setNo_cells.2 e
      rw [e, has_put_same hD (klOf_key M), atKey_put_same hD (klOf_key M), e2, hc]
      simp
    · have e2 : ¬ setNo M' = setNo M := fun h => e (setNo_cells.1 h)
      rw [has_put_other e, atKey_put_other e, (h1 M').1, (h1 M').2]
      simp [e2]
      simp [show ¬ setNo M = setNo M' from fun h => e2 h.symm]
  · by_cases e : kl = klOf M
    · exact ⟨M, e⟩
    · rw [has_put_other e] at hkl
      exact h2 kl hkl
theorem Alike.far {W W' : World} {b : Nat} {ys : List Nat} (h : Alike W b ys) (e : W'.heap[b]? = W.heap[b]?) : Alike W' b ys := by
  obtain ⟨n, D, h1, h2, h3⟩ := h
  exact ⟨n, D, h1, owns_block h2 e, h3⟩
theorem row_ext_eq {W W' : World} {b : Nat} (e : Ext W W') (h : b < W.heap.size) : W'.heap[b]? = W.heap[b]? := e.block b h
theorem Alike.lt {W : World} {b : Nat} {ys : List Nat} (h : Alike W b ys) : b < W.heap.size := by
  obtain ⟨n, D, h1, h2, h3⟩ := h
  exact h2.lt

set_option maxRecDepth 100000 in
set_option maxHeartbeats 2000000 in
theorem choosing_any {w : World} {b : Nat} {A : Option Addr} {n c : Nat} {A' : Option Addr} {n' c' : Nat} {A2 : Option Addr} {k2 c2 : Nat} {cs ms : List (Int × Int)} (hO : IsOpen w b A n c A' n' c' A2 k2 c2 cs ms) (h0 : sheetErr cs ms = 0) :
    Calls Try.prog 70 #[.pointer (some ⟨b, 0, none⟩)] w fun e w' => Ext w w' ∧ ∃ pc bm, e = .returned (.pointer (some ⟨pc, 0, none⟩)) ∧ w.heap.size ≤ pc ∧ w.heap.size ≤ bm ∧
      w'.heap[pc]? = some (.cells #[.pointer (some ⟨b, 0, none⟩), .map (some bm)] 138 (0, 0)) ∧ Alike w' bm ((fitsOf cs ms).map (noOf cs ms)) := by
  have hbl := (Array.getElem?_eq_some_iff.1 hO.row).1
  have hfew := fits_few h0
  have hk2 := hO.len
  have hk9 : k2 ≤ 384 := by omega
  obtain ⟨q0, q1, q2⟩ := hO.cells
  have HO := Lib.hid hO
  have HK := Lib.hid hk2
  have hmm := @run_makeMap Try.prog
  clear hO h0 hfew hk2
  go_enter Try.func70, Try.ntmps70
  go_wp2
  have eM : Ext w (w.alloc (.map #[] 0)) := ext_alloc _ _
  obtain ⟨w1, hw1⟩ : ∃ w1, (w.alloc (.map #[] 0)).alloc (.cells #[.pointer (some ⟨b, 0, none⟩), .map (some w.heap.size)] 138) = w1 := ⟨_, rfl⟩
  have e1 : Ext w w1 := by rw [← hw1]; exact eM.trans (ext_alloc _ _)
  have hrc : w1.heap[w.heap.size + 1]? = some (.cells #[.pointer (some ⟨b, 0, none⟩), .map (some w.heap.size)] 138 (0, 0)) := by rw [← hw1]; exact row_last _ _ _ (by simp)
  have hal : AlikeN w1 w.heap.size 0 [] := by rw [← hw1]; exact (AlikeN.made w).far (row_ext_eq (ext_alloc _ _) (by simp))
  rw [hw1]
  clear hw1 eM hmm
  have E1 := Lib.hid e1
  have HR := Lib.hid hrc
  have HAL := Lib.hid hal
  clear e1 hrc hal q0 q1 q2
  go_loopw [15] (fun i wr => ∃ k : Nat, k ≤ k2 ∧ i = .int .i64 k ∧ Hid (Ext w wr ∧ wr.heap[w.heap.size + 1]? = some (.cells #[.pointer (some ⟨b, 0, none⟩), .map (some w.heap.size)] 138 (0, 0))) ∧ Hid (AlikeN wr w.heap.size k (((fitsOf cs ms).take k).map (noOf cs ms)))) (fun i _ => k2 - (intOf i).toNat)
  case atStart =>
    exact ⟨0, Nat.zero_le _, rfl, Lib.hid ⟨E1.out, HR.out⟩, HAL⟩
  case round =>
    obtain ⟨k, hk, rfl, hK, hD⟩ := hrel
    by_cases hlt : k < k2
    · have hltz : (k : Int) < (k2 : Int) := by omega
      have hkl : k < (fitsOf cs ms).length := by have := HK.out; omega
      obtain ⟨x, hx⟩ : ∃ x, x = (fitsOf cs ms)[k] := ⟨_, rfl⟩
      obtain ⟨b3, off, rfl, hbl3, hcell⟩ := cells_held (HO.out.ext hK.out.1).fits (k := k) (x := x) (by rw [hx]; exact List.getElem?_eq_getElem hkl)
      have hs := fitOf_size cs ms x
      have h1 := fitOf_one cs ms x
      have hfe : fitOf cs ms x = fitCells x.1 x.2 (hadB cs ms x.1 x.2) := by unfold fitOf; rfl
      obtain ⟨f, hf⟩ : ∃ f, fitOf cs ms x = f := ⟨_, rfl⟩
      rw [hf] at hcell hs h1 hfe
      have hst4 := store_new94 wr f hs h1
      have HX := Lib.hid hx
      have HFE := Lib.hid hfe
      clear hf hx hfe
      go_upto_region 5 with (first | refine wpList_alloc94 rfl rfl ?_ | refine wpList_load94 (.tmp 17) rfl rfl _ rfl f hs hcell ?_)
      obtain ⟨D, hown, hD1, hD2⟩ := hD.out
      have e4 : Ext wr (wr.alloc (.cells f 94)) := ext_alloc _ _
      have hM := hD1 (hadB cs ms x.1 x.2)
      obtain ⟨cnt, hcnt⟩ : ∃ cnt, (((fitsOf cs ms).take k).map (noOf cs ms)).count (setNo (hadB cs ms x.1 x.2)) = cnt := ⟨_, rfl⟩
      have hc9 : cnt ≤ 1000 := by rw [← hcnt]; exact Nat.le_trans List.count_le_length (by simp; omega)
      rw [hcnt] at hM
      refine rz_wp (pc := w.heap.size + 1) (pf := wr.heap.size) (b := w.heap.size) (k := x.1) (x := x.2) (M := hadB cs ms x.1 x.2) (n := k) (Dm := D) (c := (cnt : Int)) (c' := ((cnt + 1 : Nat) : Int)) rfl rfl rfl (row_ext hK.out.2 e4) (by rw [← HFE.out]; exact row_last _ _ _ rfl)
        (owns_block hown (row_ext_eq e4 hown.lt)) hM.2 (by unfold maxLen; omega) (by rw [IntWalk.i64_in _ (by omega)]; omega) (WalkArith.wf_i64 (by omega)) ?_
      intro W v8 v9 hg hW
      simp only [puts, List.foldl_cons, List.foldl_nil, Act.put, List.setIfInBounds_toArray, List.set_cons_succ, List.set_cons_zero]
      have hW2 : AlikeN W w.heap.size (k + 1) (((fitsOf cs ms).take k).map (noOf cs ms) ++ [noOf cs ms x]) := AlikeN.put hown.isMap hD1 hD2 (by rw [hcnt]) hW
      have hWE : Ext w W ∧ W.heap[w.heap.size + 1]? = some (.cells #[.pointer (some ⟨b, 0, none⟩), .map (some w.heap.size)] 138 (0, 0)) := by
        have h5 : Ext w (wr.alloc (.cells f 94)) := hK.out.1.trans e4
        refine ⟨Below.grown h5 hg h5.size (fun k e => by cases e; exact Nat.le_refl _), ?_⟩
        exact (hg.block _ (Array.getElem?_eq_some_iff.1 (row_ext hK.out.2 e4)).1 (fun e => by have := Option.some.inj e; omega)).trans (row_ext hK.out.2 e4)
      have HW := Lib.hid hWE
      have HW2 := Lib.hid hW2
      clear hWE hW2 hW hg hD1 hD2 hown hM hcnt e4 hcell hs h1 hst4 hD hK
      go_wp2
      go_roundw
      case measure => simp [intOf]; omega
      case rel =>
        refine ⟨k + 1, by omega, by go_num, HW, ?_⟩
        rw [List.take_succ_eq_append_getElem hkl, List.map_append, ← HX.out]
        exact HW2
    · have hltz : ¬ (k : Int) < (k2 : Int) := by omega
      obtain rfl : k = k2 := by omega
      go_wp2
      go_ret
      refine ⟨hK.out.1, w.heap.size + 1, rfl, by omega, w.heap.size, Nat.le_refl _, hK.out.2, ?_⟩
      have hD1 := hD.out
      rw [HK.out, List.take_length] at hD1
      exact hD1.alike (by have := HK.out; omega)
end Go.Proofs.Ytlaakmgdbhabfaa

/- left: the region that looks a row's marks up. -/
namespace Go.Proofs.Ytlaakmgdbhabfaa
open Go.RowKit Go.Shelf Go.Maps Go.ChangeMaps
attribute [local irreducible] bitCells fitCells Z94 fitOf

/-- The slots of region 5 of function 99. -/
def lf5D (i : Nat) : Tmp := if i = 0 then 21 else if i = 1 then 22 else if i = 2 then 23 else if i = 3 then 24 else if i = 4 then 25 else if i = 5 then 26 else if i = 6 then 27 else if i = 7 then 20 else if i = 8 then 28 else if i = 9 then 29 else if i = 10 then 6 else 7
/-- What each operation yields. -/
def lf5S (pc pf bm : Nat) (M : Nat → Bool) (cnt : Nat) (hs : Bool) (ix : Nat) (v : Value) (_W : World) : Prop :=
  match ix with
  | 0 => v = .pointer (some ⟨pc, 0, none⟩)
  | 1 => v = .pointer (some ⟨pc, 0, none⟩)
  | 2 => v = .pointer (some ⟨pc, 1, none⟩)
  | 3 => v = .map (some bm)
  | 4 => v = .pointer (some ⟨pf, 2, none⟩)
  | 5 => v = .agg (bitCells M)
  | 6 => v = .tuple #[.int .i64 (cnt : Int), .bool hs]
  | 7 => v = .tuple #[.int .i64 (cnt : Int), .bool hs]
  | 8 => v = .int .i64 (cnt : Int)
  | 9 => v = .bool hs
  | 10 => v = .int .i64 (cnt : Int)
  | 11 => v = .bool hs
  | _ => True
noncomputable def lf5Reg : Array Oper := (Try.f99.body.bind (regionOf · 5)).getD #[]
theorem lf5S_ext {pc pf bm : Nat} {M : Nat → Bool} {cnt : Nat} {hs : Bool} : ∀ (i : Nat) (v : Value) (W W' : World), lf5S pc pf bm M cnt hs i v W → Below W.heap.size W W' → lf5S pc pf bm M cnt hs i v W' := by
  intro i v W W' h e
  match i with
  | 0 => exact h
  | 1 => exact h
  | 2 => exact h
  | 3 => exact h
  | 4 => exact h
  | 5 => exact h
  | 6 => exact h
  | 7 => exact h
  | 8 => exact h
  | 9 => exact h
  | 10 => exact h
  | 11 => exact h
  | k + 12 => exact trivial
def lf5Ok (pc pf bm : Nat) (M : Nat → Bool) (cnt : Nat) (hs : Bool) (Q : Exit → Act → World → Prop) (a : Act) (W : World) (ix : Nat) (o : Oper) : Prop :=
  (∀ j b, o.guard = some (j, b) → a.eval (.tmp (lf5D j)) = .bool b) ∧ o.wp Try.prog a W (fun a'' W' => ∃ v, a'' = a.put o.dst v ∧ lf5S pc pf bm M cnt hs ix v W' ∧ Below W.heap.size W W') Q
section
variable {pc pf bm : Nat} {M : Nat → Bool} {cnt : Nat} {hs : Bool} {Q : Exit → Act → World → Prop} {a : Act} {V W : World} {o : Oper}
set_option maxHeartbeats 1000000 in
theorem lf5_op0 (o0 : a.eval (.tmp 0) = .pointer (some ⟨pc, 0, none⟩)) (ho : lf5Reg[0]? = some o) : lf5Ok pc pf bm M cnt hs Q a W 0 o := by
  have hop := op_at ho (·.op) (x := Op.move (Operand.tmp 0)) (by kernel_rfl)
  have hgd := op_at ho (·.guard) (x := none) (by kernel_rfl)
  refine ⟨fun j b h => (by rw [hgd] at h; cases h), ?_⟩
  exact specs_value (R := fun v W => lf5S pc pf bm M cnt hs 0 v W) (v := .pointer (some ⟨pc, 0, none⟩)) (by simp [execOp, hop, go_sem, ev o0]) rfl (Ext.refl W)
set_option maxHeartbeats 1000000 in
theorem lf5_op1 (haft : ∀ j, (o.after.any fun e => decide (e.on = j) && Region.binds .any e) = true → lf5S pc pf bm M cnt hs j (a.eval (.tmp (lf5D j))) W) (ho : lf5Reg[1]? = some o) : lf5Ok pc pf bm M cnt hs Q a W 1 o := by
  have hop := op_at ho (·.op) (x := Op.nilCheck (Operand.tmp 21)) (by kernel_rfl)
  have hgd := op_at ho (·.guard) (x := none) (by kernel_rfl)
  have e0 : a.eval (.tmp 21) = .pointer (some ⟨pc, 0, none⟩) := haft 0 (op_at ho (fun o => o.after.any fun e => decide (e.on = 0) && Region.binds .any e) (x := true) (by kernel_rfl))
  refine ⟨fun j b h => (by rw [hgd] at h; cases h), ?_⟩
  exact specs_value (R := fun v W => lf5S pc pf bm M cnt hs 1 v W) (v := .pointer (some ⟨pc, 0, none⟩)) (by simp [execOp, hop, go_sem, ev e0]) rfl (Ext.refl W)
set_option maxHeartbeats 1000000 in
theorem lf5_op2 (haft : ∀ j, (o.after.any fun e => decide (e.on = j) && Region.binds .any e) = true → lf5S pc pf bm M cnt hs j (a.eval (.tmp (lf5D j))) W) (ho : lf5Reg[2]? = some o) : lf5Ok pc pf bm M cnt hs Q a W 2 o := by
  have hop := op_at ho (·.op) (x := Op.fieldAddr 138 (Operand.tmp 22) 1) (by kernel_rfl)
  have hgd := op_at ho (·.guard) (x := none) (by kernel_rfl)
  have e1 : a.eval (.tmp 22) = .pointer (some ⟨pc, 0, none⟩) := haft 1 (op_at ho (fun o => o.after.any fun e => decide (e.on = 1) && Region.binds .any e) (x := true) (by kernel_rfl))
  refine ⟨fun j b h => (by rw [hgd] at h; cases h), ?_⟩
  exact specs_value (R := fun v W => lf5S pc pf bm M cnt hs 2 v W) (v := .pointer (some ⟨pc, 1, none⟩)) (by simp [execOp, hop, go_sem, ev e1]) rfl (Ext.refl W)
set_option maxHeartbeats 1000000 in
theorem lf5_op3 (q1 : ∀ W, Ext V W → W.cell? ⟨pc, 1, none⟩ = some (.map (some bm))) (hB : Ext V W) (haft : ∀ j, (o.after.any fun e => decide (e.on = j) && Region.binds .any e) = true → lf5S pc pf bm M cnt hs j (a.eval (.tmp (lf5D j))) W) (ho : lf5Reg[3]? = some o) : lf5Ok pc pf bm M cnt hs Q a W 3 o := by
  have hop := op_at ho (·.op) (x := Op.load 136 (Operand.tmp 23)) (by kernel_rfl)
  have hgd := op_at ho (·.guard) (x := none) (by kernel_rfl)
  have e2 : a.eval (.tmp 23) = .pointer (some ⟨pc, 1, none⟩) := haft 2 (op_at ho (fun o => o.after.any fun e => decide (e.on = 2) && Region.binds .any e) (x := true) (by kernel_rfl))
  refine ⟨fun j b h => (by rw [hgd] at h; cases h), ?_⟩
  have q1' := q1 W hB
  exact specs_value (R := fun v W => lf5S pc pf bm M cnt hs 3 v W) (v := .map (some bm)) (by simp [execOp, hop, go_sem, ev e2, q1']) rfl (Ext.refl W)
set_option maxHeartbeats 1000000 in
theorem lf5_op4 (o5 : a.eval (.tmp 5) = .pointer (some ⟨pf, 0, none⟩)) (ho : lf5Reg[4]? = some o) : lf5Ok pc pf bm M cnt hs Q a W 4 o := by
  have hop := op_at ho (·.op) (x := Op.fieldAddr 94 (Operand.tmp 5) 1) (by kernel_rfl)
  have hgd := op_at ho (·.guard) (x := none) (by kernel_rfl)
  refine ⟨fun j b h => (by rw [hgd] at h; cases h), ?_⟩
  exact specs_value (R := fun v W => lf5S pc pf bm M cnt hs 4 v W) (v := .pointer (some ⟨pf, 2, none⟩)) (by simp [execOp, hop, go_sem, ev o5]) rfl (Ext.refl W)
set_option maxHeartbeats 1000000 in
theorem lf5_op5 (hld : ∀ W, Ext V W → (loadVar 92 ⟨pf, 2, none⟩).run Try.prog W = .ok (.agg (bitCells M)) W) (hB : Ext V W) (haft : ∀ j, (o.after.any fun e => decide (e.on = j) && Region.binds .any e) = true → lf5S pc pf bm M cnt hs j (a.eval (.tmp (lf5D j))) W) (ho : lf5Reg[5]? = some o) : lf5Ok pc pf bm M cnt hs Q a W 5 o := by
  have hop := op_at ho (·.op) (x := Op.load 92 (Operand.tmp 25)) (by kernel_rfl)
  have hgd := op_at ho (·.guard) (x := none) (by kernel_rfl)
  have e4 : a.eval (.tmp 25) = .pointer (some ⟨pf, 2, none⟩) := haft 4 (op_at ho (fun o => o.after.any fun e => decide (e.on = 4) && Region.binds .any e) (x := true) (by kernel_rfl))
  refine ⟨fun j b h => (by rw [hgd] at h; cases h), ?_⟩
  have hld' := hld W hB
  exact specs_value (R := fun v W => lf5S pc pf bm M cnt hs 5 v W) (v := .agg (bitCells M)) (by simp [execOp, hop, e4, Instr.loadAt, Instr.sureAddr, hld', Result.andThen]) rfl (Ext.refl W)
set_option maxHeartbeats 1000000 in
theorem lf5_op6 (hlk : ∀ W, Ext V W → (Instr.lookup 136 (.map (some bm)) (.agg (bitCells M)) true).run Try.prog W = .ok (.tuple #[.int .i64 (cnt : Int), .bool hs]) W) (hB : Ext V W) (haft : ∀ j, (o.after.any fun e => decide (e.on = j) && Region.binds .any e) = true → lf5S pc pf bm M cnt hs j (a.eval (.tmp (lf5D j))) W) (ho : lf5Reg[6]? = some o) : lf5Ok pc pf bm M cnt hs Q a W 6 o := by
  have hop := op_at ho (·.op) (x := Op.lookup 136 (Operand.tmp 24) (Operand.tmp 26) true) (by kernel_rfl)
  have hgd := op_at ho (·.guard) (x := none) (by kernel_rfl)
  have e3 : a.eval (.tmp 24) = .map (some bm) := haft 3 (op_at ho (fun o => o.after.any fun e => decide (e.on = 3) && Region.binds .any e) (x := true) (by kernel_rfl))
  have e5 : a.eval (.tmp 26) = .agg (bitCells M) := haft 5 (op_at ho (fun o => o.after.any fun e => decide (e.on = 5) && Region.binds .any e) (x := true) (by kernel_rfl))
  refine ⟨fun j b h => (by rw [hgd] at h; cases h), ?_⟩
  have hlk' := hlk W hB
  exact specs_value (R := fun v W => lf5S pc pf bm M cnt hs 6 v W) (v := .tuple #[.int .i64 (cnt : Int), .bool hs]) (by simp [execOp, hop, e3, e5, hlk', Result.andThen]) rfl (Ext.refl W)
set_option maxHeartbeats 1000000 in
theorem lf5_op7 (haft : ∀ j, (o.after.any fun e => decide (e.on = j) && Region.binds .any e) = true → lf5S pc pf bm M cnt hs j (a.eval (.tmp (lf5D j))) W) (ho : lf5Reg[7]? = some o) : lf5Ok pc pf bm M cnt hs Q a W 7 o := by
  have hop := op_at ho (·.op) (x := Op.move (Operand.tmp 27)) (by kernel_rfl)
  have hgd := op_at ho (·.guard) (x := none) (by kernel_rfl)
  have e6 : a.eval (.tmp 27) = .tuple #[.int .i64 (cnt : Int), .bool hs] := haft 6 (op_at ho (fun o => o.after.any fun e => decide (e.on = 6) && Region.binds .any e) (x := true) (by kernel_rfl))
  refine ⟨fun j b h => (by rw [hgd] at h; cases h), ?_⟩
  exact specs_value (R := fun v W => lf5S pc pf bm M cnt hs 7 v W) (v := .tuple #[.int .i64 (cnt : Int), .bool hs]) (by simp [execOp, hop, go_sem, ev e6]) rfl (Ext.refl W)
set_option maxHeartbeats 1000000 in
theorem lf5_op8 (haft : ∀ j, (o.after.any fun e => decide (e.on = j) && Region.binds .any e) = true → lf5S pc pf bm M cnt hs j (a.eval (.tmp (lf5D j))) W) (ho : lf5Reg[8]? = some o) : lf5Ok pc pf bm M cnt hs Q a W 8 o := by
  have hop := op_at ho (·.op) (x := Op.extract (Operand.tmp 20) 0) (by kernel_rfl)
  have hgd := op_at ho (·.guard) (x := none) (by kernel_rfl)
  have e7 : a.eval (.tmp 20) = .tuple #[.int .i64 (cnt : Int), .bool hs] := haft 7 (op_at ho (fun o => o.after.any fun e => decide (e.on = 7) && Region.binds .any e) (x := true) (by kernel_rfl))
  refine ⟨fun j b h => (by rw [hgd] at h; cases h), ?_⟩
  exact specs_value (R := fun v W => lf5S pc pf bm M cnt hs 8 v W) (v := .int .i64 (cnt : Int)) (by simp [execOp, hop, go_sem, ev e7]) rfl (Ext.refl W)
set_option maxHeartbeats 1000000 in
theorem lf5_op9 (haft : ∀ j, (o.after.any fun e => decide (e.on = j) && Region.binds .any e) = true → lf5S pc pf bm M cnt hs j (a.eval (.tmp (lf5D j))) W) (ho : lf5Reg[9]? = some o) : lf5Ok pc pf bm M cnt hs Q a W 9 o := by
  have hop := op_at ho (·.op) (x := Op.extract (Operand.tmp 20) 1) (by kernel_rfl)
  have hgd := op_at ho (·.guard) (x := none) (by kernel_rfl)
  have e7 : a.eval (.tmp 20) = .tuple #[.int .i64 (cnt : Int), .bool hs] := haft 7 (op_at ho (fun o => o.after.any fun e => decide (e.on = 7) && Region.binds .any e) (x := true) (by kernel_rfl))
  refine ⟨fun j b h => (by rw [hgd] at h; cases h), ?_⟩
  exact specs_value (R := fun v W => lf5S pc pf bm M cnt hs 9 v W) (v := .bool hs) (by simp [execOp, hop, go_sem, ev e7]) rfl (Ext.refl W)
set_option maxHeartbeats 1000000 in
theorem lf5_op10 (haft : ∀ j, (o.after.any fun e => decide (e.on = j) && Region.binds .any e) = true → lf5S pc pf bm M cnt hs j (a.eval (.tmp (lf5D j))) W) (ho : lf5Reg[10]? = some o) : lf5Ok pc pf bm M cnt hs Q a W 10 o := by
  have hop := op_at ho (·.op) (x := Op.assign (Operand.tmp 28)) (by kernel_rfl)
  have hgd := op_at ho (·.guard) (x := none) (by kernel_rfl)
  have e8 : a.eval (.tmp 28) = .int .i64 (cnt : Int) := haft 8 (op_at ho (fun o => o.after.any fun e => decide (e.on = 8) && Region.binds .any e) (x := true) (by kernel_rfl))
  refine ⟨fun j b h => (by rw [hgd] at h; cases h), ?_⟩
  exact specs_value (R := fun v W => lf5S pc pf bm M cnt hs 10 v W) (v := .int .i64 (cnt : Int)) (by simp [execOp, hop, go_sem, ev e8]) rfl (Ext.refl W)
set_option maxHeartbeats 1000000 in
theorem lf5_op11 (haft : ∀ j, (o.after.any fun e => decide (e.on = j) && Region.binds .any e) = true → lf5S pc pf bm M cnt hs j (a.eval (.tmp (lf5D j))) W) (ho : lf5Reg[11]? = some o) : lf5Ok pc pf bm M cnt hs Q a W 11 o := by
  have hop := op_at ho (·.op) (x := Op.assign (Operand.tmp 29)) (by kernel_rfl)
  have hgd := op_at ho (·.guard) (x := none) (by kernel_rfl)
  have e9 : a.eval (.tmp 29) = .bool hs := haft 9 (op_at ho (fun o => o.after.any fun e => decide (e.on = 9) && Region.binds .any e) (x := true) (by kernel_rfl))
  refine ⟨fun j b h => (by rw [hgd] at h; cases h), ?_⟩
  exact specs_value (R := fun v W => lf5S pc pf bm M cnt hs 11 v W) (v := .bool hs) (by simp [execOp, hop, go_sem, ev e9]) rfl (Ext.refl W)
set_option maxRecDepth 100000 in
set_option maxHeartbeats 4000000 in
/-- Region 5 of function 99. -/
theorem lf5_wp {id : Nat} (hlen : a.tmps.size = 37) (o0 : a.eval (.tmp 0) = .pointer (some ⟨pc, 0, none⟩)) (o5 : a.eval (.tmp 5) = .pointer (some ⟨pf, 0, none⟩)) (q1 : ∀ W, Ext V W → W.cell? ⟨pc, 1, none⟩ = some (.map (some bm))) (hld : ∀ W, Ext V W → (loadVar 92 ⟨pf, 2, none⟩).run Try.prog W = .ok (.agg (bitCells M)) W) (hlk : ∀ W, Ext V W → (Instr.lookup 136 (.map (some bm)) (.agg (bitCells M)) true).run Try.prog W = .ok (.tuple #[.int .i64 (cnt : Int), .bool hs]) W) (K : (∀ W, Ext V W → wpList Try.prog lf5Reg Q (lf5Reg.toList.drop 12) (puts a [(21, .pointer (some ⟨pc, 0, none⟩)), (22, .pointer (some ⟨pc, 0, none⟩)), (23, .pointer (some ⟨pc, 1, none⟩)), (24, .map (some bm)), (25, .pointer (some ⟨pf, 2, none⟩)), (26, .agg (bitCells M)), (27, .tuple #[.int .i64 (cnt : Int), .bool hs]), (20, .tuple #[.int .i64 (cnt : Int), .bool hs]), (28, .int .i64 (cnt : Int)), (29, .bool hs), (6, .int .i64 (cnt : Int)), (7, .bool hs)]) W)) : (Code.region id lf5Reg true).wp Try.prog Q a V := by
  refine wp_region_specs_free (ops := lf5Reg) 12 (lf5S pc pf bm M cnt hs) (Ext V) (by kernel_rfl) (by rw [hlen]; kernel_rfl) (by kernel_rfl) ⟨rfl, rfl, rfl, Nat.le_refl _, fun _ _ => rfl⟩ (fun _ _ h e => h.trans e) lf5S_ext lf5D (by kernel_rfl) ?_ ?_
  · intro i o hi ho a' W hB hsz hold haft
    match i, hi with
    | 0, _ => exact lf5_op0 ((hold 0 (by kernel_rfl)).trans o0) ho
    | 1, _ => exact lf5_op1 haft ho
    | 2, _ => exact lf5_op2 haft ho
    | 3, _ => exact lf5_op3 q1 hB haft ho
    | 4, _ => exact lf5_op4 ((hold 5 (by kernel_rfl)).trans o5) ho
    | 5, _ => exact lf5_op5 hld hB haft ho
    | 6, _ => exact lf5_op6 hlk hB haft ho
    | 7, _ => exact lf5_op7 haft ho
    | 8, _ => exact lf5_op8 haft ho
    | 9, _ => exact lf5_op9 haft ho
    | 10, _ => exact lf5_op10 haft ho
    | 11, _ => exact lf5_op11 haft ho
    | m + 12, h => exact absurd h (by omega)
  · intro a1 W hB hsz hdf hold hS
    have hall : ∀ z, z ∈ ([(21, .pointer (some ⟨pc, 0, none⟩)), (22, .pointer (some ⟨pc, 0, none⟩)), (23, .pointer (some ⟨pc, 1, none⟩)), (24, .map (some bm)), (25, .pointer (some ⟨pf, 2, none⟩)), (26, .agg (bitCells M)), (27, .tuple #[.int .i64 (cnt : Int), .bool hs]), (20, .tuple #[.int .i64 (cnt : Int), .bool hs]), (28, .int .i64 (cnt : Int)), (29, .bool hs), (6, .int .i64 (cnt : Int)), (7, .bool hs)] : List (Tmp × Value)) → z.1 < a.tmps.size ∧ a1.eval (.tmp z.1) = z.2 := by
      intro z hz
      rw [hlen]
      simp only [List.mem_cons, List.not_mem_nil, or_false] at hz
      rcases hz with rfl | rfl | rfl | rfl | rfl | rfl | rfl | rfl | rfl | rfl | rfl | rfl
      · exact ⟨(show (21 : Nat) < 37 by omega), hS 0 (by omega)⟩
      · exact ⟨(show (22 : Nat) < 37 by omega), hS 1 (by omega)⟩
      · exact ⟨(show (23 : Nat) < 37 by omega), hS 2 (by omega)⟩
      · exact ⟨(show (24 : Nat) < 37 by omega), hS 3 (by omega)⟩
      · exact ⟨(show (25 : Nat) < 37 by omega), hS 4 (by omega)⟩
      · exact ⟨(show (26 : Nat) < 37 by omega), hS 5 (by omega)⟩
      · exact ⟨(show (27 : Nat) < 37 by omega), hS 6 (by omega)⟩
      · exact ⟨(show (20 : Nat) < 37 by omega), hS 7 (by omega)⟩
      · exact ⟨(show (28 : Nat) < 37 by omega), hS 8 (by omega)⟩
      · exact ⟨(show (29 : Nat) < 37 by omega), hS 9 (by omega)⟩
      · exact ⟨(show (6 : Nat) < 37 by omega), hS 10 (by omega)⟩
      · exact ⟨(show (7 : Nat) < 37 by omega), hS 11 (by omega)⟩
    have ha := act_puts hsz hdf hall (fun t ht => hold t (all_ne_of (l := [(21, .pointer (some ⟨pc, 0, none⟩)), (22, .pointer (some ⟨pc, 0, none⟩)), (23, .pointer (some ⟨pc, 1, none⟩)), (24, .map (some bm)), (25, .pointer (some ⟨pf, 2, none⟩)), (26, .agg (bitCells M)), (27, .tuple #[.int .i64 (cnt : Int), .bool hs]), (20, .tuple #[.int .i64 (cnt : Int), .bool hs]), (28, .int .i64 (cnt : Int)), (29, .bool hs), (6, .int .i64 (cnt : Int)), (7, .bool hs)]) (by kernel_rfl) ht))
    rw [ha]
    exact K W  hB 
end
end Go.Proofs.Ytlaakmgdbhabfaa

/- left. -/
namespace Go.Proofs.Ytlaakmgdbhabfaa
open Go.RowKit Go.Shelf Go.Maps Go.ChangeMaps
attribute [local irreducible] bitCells fitCells Z94 fitOf

/-- The choice at pc: of the sheet at b, with the map at bm that holds ys. -/
structure ChoiceAt (W : World) (pc b bm : Nat) (ys : List Nat) : Prop where
  row : W.heap[pc]? = some (.cells #[.pointer (some ⟨b, 0, none⟩), .map (some bm)] 138 (0, 0))
  map : Alike W bm ys
theorem ChoiceAt.ext {W W' : World} {pc b bm : Nat} {ys : List Nat} (h : ChoiceAt W pc b bm ys) (e : Ext W W') : ChoiceAt W' pc b bm ys := ⟨row_ext h.row e, h.map.far (row_ext_eq e h.map.lt)⟩
/-- The rows whose marks are in the choice. -/
def leftOf (cs ms : List (Int × Int)) (ys : List Nat) (xs : List (Nat × Int)) : List (Nat × Int) := xs.filter fun x => decide (noOf cs ms x ∈ ys)
theorem leftOf_succ (cs ms : List (Int × Int)) (ys : List Nat) (xs : List (Nat × Int)) (k : Nat) (hk : k < xs.length) : leftOf cs ms ys (xs.take (k + 1)) = leftOf cs ms ys (xs.take k) ++ (if decide (noOf cs ms xs[k] ∈ ys) = true then [xs[k]] else []) := by
  unfold leftOf
  rw [List.take_succ_eq_append_getElem hk, List.filter_append]
  simp only [List.filter_cons, List.filter_nil]

set_option maxRecDepth 100000 in
set_option maxHeartbeats 4000000 in
theorem left_any {w : World} {pc b bm : Nat} {ys : List Nat} {A : Option Addr} {n c : Nat} {A' : Option Addr} {n' c' : Nat} {A2 : Option Addr} {k2 c2 : Nat} {cs ms : List (Int × Int)} (hC : ChoiceAt w pc b bm ys) (hO : IsOpen w b A n c A' n' c' A2 k2 c2 cs ms) (h0 : sheetErr cs ms = 0) :
    Calls Try.prog 99 #[.pointer (some ⟨pc, 0, none⟩)] w fun e w' => ∃ v, e = .returned v ∧ Ext w w' ∧ w'.ownsRow w.heap.size 94 14 v (leftOf cs ms ys (fitsOf cs ms)).length (fitsCells cs ms (leftOf cs ms ys (fitsOf cs ms))) := by
  have hbl := (Array.getElem?_eq_some_iff.1 hO.row).1
  have hpl := (Array.getElem?_eq_some_iff.1 hC.row).1
  have hfew := fits_few h0
  have hk2 := hO.len
  have hk9 : k2 ≤ 384 := by omega
  obtain ⟨q0, q1, q2⟩ := hO.cells
  have r0 : w.cell? ⟨pc, 0, none⟩ = some (.pointer (some ⟨b, 0, none⟩)) := cell_of_row _ _ _ _ _ _ hC.row
  have HO := Lib.hid hO
  have HK := Lib.hid hk2
  have HC := Lib.hid hC
  obtain ⟨i94, hi, hz0, hz1, hz2⟩ := info_parts info94
  have HI := Lib.hid (And.intro hi (And.intro hz0 (And.intro hz1 hz2)))
  have hle : ∀ k, (leftOf cs ms ys ((fitsOf cs ms).take k)).length ≤ k := fun k => Nat.le_trans (List.length_filter_le _ _) (by simp; omega)
  have HL := Lib.hid hle
  clear hO h0 hfew hk2 hC hi hz0 hz1 hz2 hle
  go_enter Try.func99, Try.ntmps99
  go_wp2
  clear q0 q1 q2 r0
  go_loopw [3, 16] (fun v i wr => ∃ k : Nat, k ≤ k2 ∧ i = .int .i64 k ∧ Hid (Ext w wr) ∧ Hid (wr.ownsRow w.heap.size 94 14 v (leftOf cs ms ys ((fitsOf cs ms).take k)).length (fitsCells cs ms (leftOf cs ms ys ((fitsOf cs ms).take k))))) (fun _ i _ => k2 - (intOf i).toNat)
  case atStart => exact ⟨0, Nat.zero_le _, rfl, Lib.hid (Ext.refl _), Lib.hid (World.ownsRow_nil _ _ _ _)⟩
  case round =>
    obtain ⟨k, hk, rfl, hE, hR⟩ := hrel
    by_cases hlt : k < k2
    · have hltz : (k : Int) < (k2 : Int) := by omega
      have hkl : k < (fitsOf cs ms).length := by have := HK.out; omega
      obtain ⟨x, hx⟩ : ∃ x, x = (fitsOf cs ms)[k] := ⟨_, rfl⟩
      obtain ⟨b3, off, rfl, hbl3, hcell⟩ := cells_held (HO.out.ext hE.out).fits (k := k) (x := x) (by rw [hx]; exact List.getElem?_eq_getElem hkl)
      have hs := fitOf_size cs ms x
      have h1 := fitOf_one cs ms x
      have hfe : fitOf cs ms x = fitCells x.1 x.2 (hadB cs ms x.1 x.2) := by unfold fitOf; rfl
      have hsu := leftOf_succ cs ms ys (fitsOf cs ms) k hkl
      rw [← hx] at hsu
      obtain ⟨f, hf⟩ : ∃ f, fitOf cs ms x = f := ⟨_, rfl⟩
      have hfx := fitsCells_snoc cs ms (leftOf cs ms ys ((fitsOf cs ms).take k)) x
      rw [hf] at hcell hs h1 hfe hfx
      have hst4 := store_new94 wr f hs h1
      have hln9 := HL.out k
      have HSU := Lib.hid hsu
      have HFE := Lib.hid hfe
      have HFX := Lib.hid hfx
      clear hf hx hfe hsu hfx
      go_upto_region 5 with (first | refine wpList_alloc94 rfl rfl ?_ | refine wpList_load94 (.tmp 18) rfl rfl _ rfl f hs hcell ?_)
      have e4 : Ext wr (wr.alloc (.cells f 94)) := ext_alloc _ _
      have hCE := HC.out.ext (hE.out.trans e4)
      obtain ⟨N, D, hN, hown, hD⟩ := hCE.map
      have hM := hD.1 (hadB cs ms x.1 x.2)
      have hlk : ∀ Z, Ext (wr.alloc (.cells f 94)) Z → (Instr.lookup 136 (.map (some bm)) (.agg (bitCells (hadB cs ms x.1 x.2))) true).run Try.prog Z = .ok (.tuple #[.int .i64 ((ys.count (setNo (hadB cs ms x.1 x.2)) : Nat) : Int), .bool (decide (noOf cs ms x ∈ ys))]) Z := fun Z hZ => by
        obtain ⟨v, ps, hrun, hv⟩ := (owns_block hown (row_ext_eq hZ hown.lt)).look_ok law92 under136 (zero2 Z) (plainElem_int under2 (by decide)) (key_bits (hadB cs ms x.1 x.2))
        obtain ⟨c9, rfl, hc9, _⟩ := plainElem_int_inv under2 hv
        have h5 := congrArg Prod.fst hc9
        simp only at h5
        rw [hM.2] at h5
        cases h5
        rw [hrun, hM.1]
        rfl
      have hrowf : (wr.alloc (.cells f 94)).heap[wr.heap.size]? = some (.cells (fitCells x.1 x.2 (hadB cs ms x.1 x.2)) 94 (0, 0)) := by rw [← HFE.out]; exact row_last _ _ _ rfl
      have hld : ∀ Z, Ext (wr.alloc (.cells f 94)) Z → (loadVar 92 ⟨wr.heap.size, 2, none⟩).run Try.prog Z = .ok (.agg (bitCells (hadB cs ms x.1 x.2))) Z := fun Z hZ => run_load92 Z _ _ (bitCells_size _) (fun j u hj => by
        rw [Addr.add_lit]
        refine (cell_of_row _ _ _ _ _ _ (row_ext hrowf hZ)).trans ?_
        have hj12 : j < 12 := by have := (List.getElem?_eq_some_iff.1 hj).1; rw [Array.length_toList, bitCells_size] at this; exact this
        rw [Array.getElem?_toList, bitCells_get _ j hj12] at hj
        rw [fitCells_mark _ _ _ j hj12]
        exact hj)
      refine lf5_wp (pc := pc) (pf := wr.heap.size) (bm := bm) (M := hadB cs ms x.1 x.2) (cnt := ys.count (setNo (hadB cs ms x.1 x.2))) (hs := decide (noOf cs ms x ∈ ys)) rfl rfl rfl (fun Z hZ => cell_of_row _ _ _ _ _ _ (row_ext hCE.row hZ)) hld hlk ?_
      intro W2 e5
      have hdr : lf5Reg.toList.drop 12 = [] := List.drop_eq_nil_of_le (by rw [Array.length_toList]; exact Nat.le_of_eq (by kernel_rfl))
      rw [hdr]
      simp only [wpList, puts, List.foldl_cons, List.foldl_nil, Act.put, List.setIfInBounds_toArray, List.set_cons_succ, List.set_cons_zero]
      have hcn : ∀ j u, f.toList[j]? = some u → W2.cell? ((⟨wr.heap.size, 0, none⟩ : Addr).add j) = some u := fun j u hj => by
        rw [Addr.add_lit]
        refine (cell_of_row _ _ _ _ _ _ (row_ext (row_last wr (.cells f 94) _ rfl) e5)).trans ?_
        rw [Array.getElem?_toList] at hj
        simpa using hj
      have HE2 := Lib.hid (hE.out.trans (e4.trans e5))
      have hR2 := owns_ext hR.out (e4.trans e5)
      have hz2 := HE2.out.size
      obtain ⟨cnt, hcnt⟩ : ∃ cnt, ys.count (setNo (hadB cs ms x.1 x.2)) = cnt := ⟨_, rfl⟩
      obtain ⟨bb, hbb⟩ : ∃ bb, decide (noOf cs ms x ∈ ys) = bb := ⟨_, rfl⟩
      obtain ⟨kf, hkf⟩ : ∃ kf, (.agg (bitCells (hadB cs ms x.1 x.2)) : Value) = kf := ⟨_, rfl⟩
      rw [hcnt, hbb, hkf]
      have hsu := HSU.out
      rw [hbb] at hsu
      clear hcnt hbb hkf hlk hld hrowf hM hD hown hCE e4 e5 hcell hst4
      cases bb with
      | true =>
        rw [if_pos rfl] at hsu
        have HS2 := Lib.hid hsu
        have hln : f.toList.length = 1 * 14 := by rw [Array.length_toList, hs]
        have ho1 : ∀ u ∈ f.toList, u.oneCell' = true := fun u hu => Array.all_eq_true_iff_forall_mem.1 h1 u (Array.mem_toList_iff.1 hu)
        have oA := hR2.alloc (.cells f 94)
        have hcn2 := cells_new W2 f 94
        have hzz := Z94_size
        clear hsu hR2
        go_wp2_with (first | refine wpList_load94 (.tmp 5) rfl rfl _ rfl f hs hcn ?_ | refine wpList_build87 (.tmp 32) rfl rfl f x.1 x.2 (hadB cs ms x.1 x.2) HFE.out rfl ?_ | (at_builtin; refine wpList_append_own _ rfl (.tmp 31) (.tmp 33) 87 rfl w.heap.size 94 i94 (.agg Z94) 14 112 ?_ ?_ ?_ ?_ ?_ ?_ ?_ u3 _ (fitsCells cs ms (leftOf cs ms ys ((fitsOf cs ms).take k))) rfl oA ⟨W2.heap.size, 0, none⟩ 1 1 f.toList rfl ?_ ?_ ?_ ?_ ?_ ?_ ?_; exact Try.underlying87; exact HI.out.1; exact HI.out.2.1; exact HI.out.2.2.1; exact HI.out.2.2.2; exact hzz; decide; exact hln; exact hcn2; exact ho1; (unfold maxLen; omega); omega; (simp; omega); intro v' w4 hown' hg4 _; have HW := Lib.hid hown'; have hE4 := Lib.hid (((HE2.out.alloc hz2 (.cells f 94)).grown hg4 (by simp; omega) (fun b e => (oA.lt b e).1)) : Ext w w4); clear hown' hg4 oA))
        go_roundw
        case measure => simp [intOf]; omega
        case rel =>
          refine ⟨k + 1, by omega, by go_num, hE4, Lib.hid ?_⟩
          rw [HS2.out, List.length_append, HFX.out]
          exact HW.out
      | false =>
        rw [if_neg (by decide), List.append_nil] at hsu
        have HS2 := Lib.hid hsu
        have HR2 := Lib.hid hR2
        clear hsu hR2
        go_wp2
        go_roundw
        case measure => simp [intOf]; omega
        case rel => exact ⟨k + 1, by omega, by go_num, HE2, by rw [HS2.out]; exact HR2⟩
    · have hltz : ¬ (k : Int) < (k2 : Int) := by omega
      obtain rfl : k = k2 := by omega
      have hR2 := hR.out
      rw [HK.out, List.take_length] at hR2
      have HR2 := Lib.hid hR2
      clear hR2
      go_wp2
      go_ret
      exact ⟨_, rfl, hE.out, HR2.out⟩
end Go.Proofs.Ytlaakmgdbhabfaa

/- leave: its regions that look an entry up and strike it. -/
namespace Go.Proofs.Ytlaakmgdbhabfaa
open Go.RowKit Go.Shelf Go.Maps Go.ChangeMaps
attribute [local irreducible] bitCells fitCells Z94 fitOf

/-- The slots of region 2 of function 98. -/
def lv2D (i : Nat) : Tmp := if i = 0 then 14 else if i = 1 then 15 else if i = 2 then 16 else if i = 3 then 17 else if i = 4 then 18 else if i = 5 then 19 else if i = 6 then 20 else 21
/-- What each operation yields. -/
def lv2S (pc pf bm : Nat) (M : Nat → Bool) (cnt : Nat) (ix : Nat) (v : Value) (_W : World) : Prop :=
  match ix with
  | 0 => v = .pointer (some ⟨pc, 0, none⟩)
  | 1 => v = .pointer (some ⟨pc, 0, none⟩)
  | 2 => v = .pointer (some ⟨pc, 1, none⟩)
  | 3 => v = .map (some bm)
  | 4 => v = .pointer (some ⟨pf, 2, none⟩)
  | 5 => v = .agg (bitCells M)
  | 6 => v = .int .i64 (cnt : Int)
  | 7 => v = .bool ((cnt : Int) == 0)
  | _ => True
noncomputable def lv2Reg : Array Oper := (Try.f98.body.bind (regionOf · 2)).getD #[]
theorem lv2S_ext {pc pf bm : Nat} {M : Nat → Bool} {cnt : Nat} : ∀ (i : Nat) (v : Value) (W W' : World), lv2S pc pf bm M cnt i v W → Below W.heap.size W W' → lv2S pc pf bm M cnt i v W' := by
  intro i v W W' h e
  match i with
  | 0 => exact h
  | 1 => exact h
  | 2 => exact h
  | 3 => exact h
  | 4 => exact h
  | 5 => exact h
  | 6 => exact h
  | 7 => exact h
  | k + 8 => exact trivial
def lv2Ok (pc pf bm : Nat) (M : Nat → Bool) (cnt : Nat) (Q : Exit → Act → World → Prop) (a : Act) (W : World) (ix : Nat) (o : Oper) : Prop :=
  (∀ j b, o.guard = some (j, b) → a.eval (.tmp (lv2D j)) = .bool b) ∧ o.wp Try.prog a W (fun a'' W' => ∃ v, a'' = a.put o.dst v ∧ lv2S pc pf bm M cnt ix v W' ∧ Below W.heap.size W W') Q
section
variable {pc pf bm : Nat} {M : Nat → Bool} {cnt : Nat} {Q : Exit → Act → World → Prop} {a : Act} {V W : World} {o : Oper}
set_option maxHeartbeats 1000000 in
theorem lv2_op0 (o0 : a.eval (.tmp 0) = .pointer (some ⟨pc, 0, none⟩)) (ho : lv2Reg[0]? = some o) : lv2Ok pc pf bm M cnt Q a W 0 o := by
  have hop := op_at ho (·.op) (x := Op.move (Operand.tmp 0)) (by kernel_rfl)
  have hgd := op_at ho (·.guard) (x := none) (by kernel_rfl)
  refine ⟨fun j b h => (by rw [hgd] at h; cases h), ?_⟩
  exact specs_value (R := fun v W => lv2S pc pf bm M cnt 0 v W) (v := .pointer (some ⟨pc, 0, none⟩)) (by simp [execOp, hop, go_sem, ev o0]) rfl (Ext.refl W)
set_option maxHeartbeats 1000000 in
theorem lv2_op1 (haft : ∀ j, (o.after.any fun e => decide (e.on = j) && Region.binds .any e) = true → lv2S pc pf bm M cnt j (a.eval (.tmp (lv2D j))) W) (ho : lv2Reg[1]? = some o) : lv2Ok pc pf bm M cnt Q a W 1 o := by
  have hop := op_at ho (·.op) (x := Op.nilCheck (Operand.tmp 14)) (by kernel_rfl)
  have hgd := op_at ho (·.guard) (x := none) (by kernel_rfl)
  have e0 : a.eval (.tmp 14) = .pointer (some ⟨pc, 0, none⟩) := haft 0 (op_at ho (fun o => o.after.any fun e => decide (e.on = 0) && Region.binds .any e) (x := true) (by kernel_rfl))
  refine ⟨fun j b h => (by rw [hgd] at h; cases h), ?_⟩
  exact specs_value (R := fun v W => lv2S pc pf bm M cnt 1 v W) (v := .pointer (some ⟨pc, 0, none⟩)) (by simp [execOp, hop, go_sem, ev e0]) rfl (Ext.refl W)
set_option maxHeartbeats 1000000 in
theorem lv2_op2 (haft : ∀ j, (o.after.any fun e => decide (e.on = j) && Region.binds .any e) = true → lv2S pc pf bm M cnt j (a.eval (.tmp (lv2D j))) W) (ho : lv2Reg[2]? = some o) : lv2Ok pc pf bm M cnt Q a W 2 o := by
  have hop := op_at ho (·.op) (x := Op.fieldAddr 138 (Operand.tmp 15) 1) (by kernel_rfl)
  have hgd := op_at ho (·.guard) (x := none) (by kernel_rfl)
  have e1 : a.eval (.tmp 15) = .pointer (some ⟨pc, 0, none⟩) := haft 1 (op_at ho (fun o => o.after.any fun e => decide (e.on = 1) && Region.binds .any e) (x := true) (by kernel_rfl))
  refine ⟨fun j b h => (by rw [hgd] at h; cases h), ?_⟩
  exact specs_value (R := fun v W => lv2S pc pf bm M cnt 2 v W) (v := .pointer (some ⟨pc, 1, none⟩)) (by simp [execOp, hop, go_sem, ev e1]) rfl (Ext.refl W)
set_option maxHeartbeats 1000000 in
theorem lv2_op3 (q1 : ∀ W, Ext V W → W.cell? ⟨pc, 1, none⟩ = some (.map (some bm))) (hB : Ext V W) (haft : ∀ j, (o.after.any fun e => decide (e.on = j) && Region.binds .any e) = true → lv2S pc pf bm M cnt j (a.eval (.tmp (lv2D j))) W) (ho : lv2Reg[3]? = some o) : lv2Ok pc pf bm M cnt Q a W 3 o := by
  have hop := op_at ho (·.op) (x := Op.load 136 (Operand.tmp 16)) (by kernel_rfl)
  have hgd := op_at ho (·.guard) (x := none) (by kernel_rfl)
  have e2 : a.eval (.tmp 16) = .pointer (some ⟨pc, 1, none⟩) := haft 2 (op_at ho (fun o => o.after.any fun e => decide (e.on = 2) && Region.binds .any e) (x := true) (by kernel_rfl))
  refine ⟨fun j b h => (by rw [hgd] at h; cases h), ?_⟩
  have q1' := q1 W hB
  exact specs_value (R := fun v W => lv2S pc pf bm M cnt 3 v W) (v := .map (some bm)) (by simp [execOp, hop, go_sem, ev e2, q1']) rfl (Ext.refl W)
set_option maxHeartbeats 1000000 in
theorem lv2_op4 (o3 : a.eval (.tmp 3) = .pointer (some ⟨pf, 0, none⟩)) (ho : lv2Reg[4]? = some o) : lv2Ok pc pf bm M cnt Q a W 4 o := by
  have hop := op_at ho (·.op) (x := Op.fieldAddr 94 (Operand.tmp 3) 1) (by kernel_rfl)
  have hgd := op_at ho (·.guard) (x := none) (by kernel_rfl)
  refine ⟨fun j b h => (by rw [hgd] at h; cases h), ?_⟩
  exact specs_value (R := fun v W => lv2S pc pf bm M cnt 4 v W) (v := .pointer (some ⟨pf, 2, none⟩)) (by simp [execOp, hop, go_sem, ev o3]) rfl (Ext.refl W)
set_option maxHeartbeats 1000000 in
theorem lv2_op5 (hld : ∀ W, Ext V W → (loadVar 92 ⟨pf, 2, none⟩).run Try.prog W = .ok (.agg (bitCells M)) W) (hB : Ext V W) (haft : ∀ j, (o.after.any fun e => decide (e.on = j) && Region.binds .any e) = true → lv2S pc pf bm M cnt j (a.eval (.tmp (lv2D j))) W) (ho : lv2Reg[5]? = some o) : lv2Ok pc pf bm M cnt Q a W 5 o := by
  have hop := op_at ho (·.op) (x := Op.load 92 (Operand.tmp 18)) (by kernel_rfl)
  have hgd := op_at ho (·.guard) (x := none) (by kernel_rfl)
  have e4 : a.eval (.tmp 18) = .pointer (some ⟨pf, 2, none⟩) := haft 4 (op_at ho (fun o => o.after.any fun e => decide (e.on = 4) && Region.binds .any e) (x := true) (by kernel_rfl))
  refine ⟨fun j b h => (by rw [hgd] at h; cases h), ?_⟩
  have hld' := hld W hB
  exact specs_value (R := fun v W => lv2S pc pf bm M cnt 5 v W) (v := .agg (bitCells M)) (by simp [execOp, hop, e4, Instr.loadAt, Instr.sureAddr, hld', Result.andThen]) rfl (Ext.refl W)
set_option maxHeartbeats 1000000 in
theorem lv2_op6 (hlk : ∀ W, Ext V W → (Instr.lookup 136 (.map (some bm)) (.agg (bitCells M)) false).run Try.prog W = .ok (.int .i64 (cnt : Int)) W) (hB : Ext V W) (haft : ∀ j, (o.after.any fun e => decide (e.on = j) && Region.binds .any e) = true → lv2S pc pf bm M cnt j (a.eval (.tmp (lv2D j))) W) (ho : lv2Reg[6]? = some o) : lv2Ok pc pf bm M cnt Q a W 6 o := by
  have hop := op_at ho (·.op) (x := Op.lookup 136 (Operand.tmp 17) (Operand.tmp 19) false) (by kernel_rfl)
  have hgd := op_at ho (·.guard) (x := none) (by kernel_rfl)
  have e3 : a.eval (.tmp 17) = .map (some bm) := haft 3 (op_at ho (fun o => o.after.any fun e => decide (e.on = 3) && Region.binds .any e) (x := true) (by kernel_rfl))
  have e5 : a.eval (.tmp 19) = .agg (bitCells M) := haft 5 (op_at ho (fun o => o.after.any fun e => decide (e.on = 5) && Region.binds .any e) (x := true) (by kernel_rfl))
  refine ⟨fun j b h => (by rw [hgd] at h; cases h), ?_⟩
  have hlk' := hlk W hB
  exact specs_value (R := fun v W => lv2S pc pf bm M cnt 6 v W) (v := .int .i64 (cnt : Int)) (by simp [execOp, hop, e3, e5, hlk', Result.andThen]) rfl (Ext.refl W)
set_option maxHeartbeats 1000000 in
theorem lv2_op7 (haft : ∀ j, (o.after.any fun e => decide (e.on = j) && Region.binds .any e) = true → lv2S pc pf bm M cnt j (a.eval (.tmp (lv2D j))) W) (ho : lv2Reg[7]? = some o) : lv2Ok pc pf bm M cnt Q a W 7 o := by
  have hop := op_at ho (·.op) (x := Op.binOp BinOp.eql 2 (Operand.tmp 20) (Operand.const (Value.int IntKind.i64 0)) 2) (by kernel_rfl)
  have hgd := op_at ho (·.guard) (x := none) (by kernel_rfl)
  have e6 : a.eval (.tmp 20) = .int .i64 (cnt : Int) := haft 6 (op_at ho (fun o => o.after.any fun e => decide (e.on = 6) && Region.binds .any e) (x := true) (by kernel_rfl))
  refine ⟨fun j b h => (by rw [hgd] at h; cases h), ?_⟩
  exact specs_value (R := fun v W => lv2S pc pf bm M cnt 7 v W) (v := .bool ((cnt : Int) == 0)) (by simp [execOp, hop, go_sem, ev e6]) rfl (Ext.refl W)
set_option maxRecDepth 100000 in
set_option maxHeartbeats 4000000 in
/-- Region 2 of function 98. -/
theorem lv2_wp {id : Nat} (hlen : a.tmps.size = 28) (o0 : a.eval (.tmp 0) = .pointer (some ⟨pc, 0, none⟩)) (o3 : a.eval (.tmp 3) = .pointer (some ⟨pf, 0, none⟩)) (q1 : ∀ W, Ext V W → W.cell? ⟨pc, 1, none⟩ = some (.map (some bm))) (hld : ∀ W, Ext V W → (loadVar 92 ⟨pf, 2, none⟩).run Try.prog W = .ok (.agg (bitCells M)) W) (hlk : ∀ W, Ext V W → (Instr.lookup 136 (.map (some bm)) (.agg (bitCells M)) false).run Try.prog W = .ok (.int .i64 (cnt : Int)) W) (K : (∀ W, Ext V W → wpList Try.prog lv2Reg Q (lv2Reg.toList.drop 8) (puts a [(14, .pointer (some ⟨pc, 0, none⟩)), (15, .pointer (some ⟨pc, 0, none⟩)), (16, .pointer (some ⟨pc, 1, none⟩)), (17, .map (some bm)), (18, .pointer (some ⟨pf, 2, none⟩)), (19, .agg (bitCells M)), (20, .int .i64 (cnt : Int)), (21, .bool ((cnt : Int) == 0))]) W)) : (Code.region id lv2Reg true).wp Try.prog Q a V := by
  refine wp_region_specs_free (ops := lv2Reg) 8 (lv2S pc pf bm M cnt) (Ext V) (by kernel_rfl) (by rw [hlen]; kernel_rfl) (by kernel_rfl) ⟨rfl, rfl, rfl, Nat.le_refl _, fun _ _ => rfl⟩ (fun _ _ h e => h.trans e) lv2S_ext lv2D (by kernel_rfl) ?_ ?_
  · intro i o hi ho a' W hB hsz hold haft
    match i, hi with
    | 0, _ => exact lv2_op0 ((hold 0 (by kernel_rfl)).trans o0) ho
    | 1, _ => exact lv2_op1 haft ho
    | 2, _ => exact lv2_op2 haft ho
    | 3, _ => exact lv2_op3 q1 hB haft ho
    | 4, _ => exact lv2_op4 ((hold 3 (by kernel_rfl)).trans o3) ho
    | 5, _ => exact lv2_op5 hld hB haft ho
    | 6, _ => exact lv2_op6 hlk hB haft ho
    | 7, _ => exact lv2_op7 haft ho
    | m + 8, h => exact absurd h (by omega)
  · intro a1 W hB hsz hdf hold hS
    have hall : ∀ z, z ∈ ([(14, .pointer (some ⟨pc, 0, none⟩)), (15, .pointer (some ⟨pc, 0, none⟩)), (16, .pointer (some ⟨pc, 1, none⟩)), (17, .map (some bm)), (18, .pointer (some ⟨pf, 2, none⟩)), (19, .agg (bitCells M)), (20, .int .i64 (cnt : Int)), (21, .bool ((cnt : Int) == 0))] : List (Tmp × Value)) → z.1 < a.tmps.size ∧ a1.eval (.tmp z.1) = z.2 := by
      intro z hz
      rw [hlen]
      simp only [List.mem_cons, List.not_mem_nil, or_false] at hz
      rcases hz with rfl | rfl | rfl | rfl | rfl | rfl | rfl | rfl
      · exact ⟨(show (14 : Nat) < 28 by omega), hS 0 (by omega)⟩
      · exact ⟨(show (15 : Nat) < 28 by omega), hS 1 (by omega)⟩
      · exact ⟨(show (16 : Nat) < 28 by omega), hS 2 (by omega)⟩
      · exact ⟨(show (17 : Nat) < 28 by omega), hS 3 (by omega)⟩
      · exact ⟨(show (18 : Nat) < 28 by omega), hS 4 (by omega)⟩
      · exact ⟨(show (19 : Nat) < 28 by omega), hS 5 (by omega)⟩
      · exact ⟨(show (20 : Nat) < 28 by omega), hS 6 (by omega)⟩
      · exact ⟨(show (21 : Nat) < 28 by omega), hS 7 (by omega)⟩
    have ha := act_puts hsz hdf hall (fun t ht => hold t (all_ne_of (l := [(14, .pointer (some ⟨pc, 0, none⟩)), (15, .pointer (some ⟨pc, 0, none⟩)), (16, .pointer (some ⟨pc, 1, none⟩)), (17, .map (some bm)), (18, .pointer (some ⟨pf, 2, none⟩)), (19, .agg (bitCells M)), (20, .int .i64 (cnt : Int)), (21, .bool ((cnt : Int) == 0))]) (by kernel_rfl) ht))
    rw [ha]
    exact K W  hB 
end

/-- The slots of region 3 of function 98. -/
def lv3D (i : Nat) : Tmp := if i = 0 then 22 else if i = 1 then 23 else if i = 2 then 24 else if i = 3 then 25 else if i = 4 then 26 else 27
/-- What each operation yields. -/
def lv3S (pc pf bm : Nat) (M : Nat → Bool) (ix : Nat) (v : Value) (_W : World) : Prop :=
  match ix with
  | 0 => v = .pointer (some ⟨pc, 0, none⟩)
  | 1 => v = .pointer (some ⟨pc, 0, none⟩)
  | 2 => v = .pointer (some ⟨pc, 1, none⟩)
  | 3 => v = .map (some bm)
  | 4 => v = .pointer (some ⟨pf, 2, none⟩)
  | 5 => v = .agg (bitCells M)
  | _ => True
noncomputable def lv3Reg : Array Oper := (Try.f98.body.bind (regionOf · 3)).getD #[]
theorem lv3S_ext {pc pf bm : Nat} {M : Nat → Bool} : ∀ (i : Nat) (v : Value) (W W' : World), lv3S pc pf bm M i v W → Below W.heap.size W W' → lv3S pc pf bm M i v W' := by
  intro i v W W' h e
  match i with
  | 0 => exact h
  | 1 => exact h
  | 2 => exact h
  | 3 => exact h
  | 4 => exact h
  | 5 => exact h
  | k + 6 => exact trivial
def lv3Ok (pc pf bm : Nat) (M : Nat → Bool) (Q : Exit → Act → World → Prop) (a : Act) (W : World) (ix : Nat) (o : Oper) : Prop :=
  (∀ j b, o.guard = some (j, b) → a.eval (.tmp (lv3D j)) = .bool b) ∧ o.wp Try.prog a W (fun a'' W' => ∃ v, a'' = a.put o.dst v ∧ lv3S pc pf bm M ix v W' ∧ Below W.heap.size W W') Q
section
variable {pc pf bm : Nat} {M : Nat → Bool} {Q : Exit → Act → World → Prop} {a : Act} {V W : World} {o : Oper}
set_option maxHeartbeats 1000000 in
theorem lv3_op0 (o0 : a.eval (.tmp 0) = .pointer (some ⟨pc, 0, none⟩)) (ho : lv3Reg[0]? = some o) : lv3Ok pc pf bm M Q a W 0 o := by
  have hop := op_at ho (·.op) (x := Op.move (Operand.tmp 0)) (by kernel_rfl)
  have hgd := op_at ho (·.guard) (x := none) (by kernel_rfl)
  refine ⟨fun j b h => (by rw [hgd] at h; cases h), ?_⟩
  exact specs_value (R := fun v W => lv3S pc pf bm M 0 v W) (v := .pointer (some ⟨pc, 0, none⟩)) (by simp [execOp, hop, go_sem, ev o0]) rfl (Ext.refl W)
set_option maxHeartbeats 1000000 in
theorem lv3_op1 (haft : ∀ j, (o.after.any fun e => decide (e.on = j) && Region.binds .any e) = true → lv3S pc pf bm M j (a.eval (.tmp (lv3D j))) W) (ho : lv3Reg[1]? = some o) : lv3Ok pc pf bm M Q a W 1 o := by
  have hop := op_at ho (·.op) (x := Op.nilCheck (Operand.tmp 22)) (by kernel_rfl)
  have hgd := op_at ho (·.guard) (x := none) (by kernel_rfl)
  have e0 : a.eval (.tmp 22) = .pointer (some ⟨pc, 0, none⟩) := haft 0 (op_at ho (fun o => o.after.any fun e => decide (e.on = 0) && Region.binds .any e) (x := true) (by kernel_rfl))
  refine ⟨fun j b h => (by rw [hgd] at h; cases h), ?_⟩
  exact specs_value (R := fun v W => lv3S pc pf bm M 1 v W) (v := .pointer (some ⟨pc, 0, none⟩)) (by simp [execOp, hop, go_sem, ev e0]) rfl (Ext.refl W)
set_option maxHeartbeats 1000000 in
theorem lv3_op2 (haft : ∀ j, (o.after.any fun e => decide (e.on = j) && Region.binds .any e) = true → lv3S pc pf bm M j (a.eval (.tmp (lv3D j))) W) (ho : lv3Reg[2]? = some o) : lv3Ok pc pf bm M Q a W 2 o := by
  have hop := op_at ho (·.op) (x := Op.fieldAddr 138 (Operand.tmp 23) 1) (by kernel_rfl)
  have hgd := op_at ho (·.guard) (x := none) (by kernel_rfl)
  have e1 : a.eval (.tmp 23) = .pointer (some ⟨pc, 0, none⟩) := haft 1 (op_at ho (fun o => o.after.any fun e => decide (e.on = 1) && Region.binds .any e) (x := true) (by kernel_rfl))
  refine ⟨fun j b h => (by rw [hgd] at h; cases h), ?_⟩
  exact specs_value (R := fun v W => lv3S pc pf bm M 2 v W) (v := .pointer (some ⟨pc, 1, none⟩)) (by simp [execOp, hop, go_sem, ev e1]) rfl (Ext.refl W)
set_option maxHeartbeats 1000000 in
theorem lv3_op3 (q1 : ∀ W, Ext V W → W.cell? ⟨pc, 1, none⟩ = some (.map (some bm))) (hB : Ext V W) (haft : ∀ j, (o.after.any fun e => decide (e.on = j) && Region.binds .any e) = true → lv3S pc pf bm M j (a.eval (.tmp (lv3D j))) W) (ho : lv3Reg[3]? = some o) : lv3Ok pc pf bm M Q a W 3 o := by
  have hop := op_at ho (·.op) (x := Op.load 136 (Operand.tmp 24)) (by kernel_rfl)
  have hgd := op_at ho (·.guard) (x := none) (by kernel_rfl)
  have e2 : a.eval (.tmp 24) = .pointer (some ⟨pc, 1, none⟩) := haft 2 (op_at ho (fun o => o.after.any fun e => decide (e.on = 2) && Region.binds .any e) (x := true) (by kernel_rfl))
  refine ⟨fun j b h => (by rw [hgd] at h; cases h), ?_⟩
  have q1' := q1 W hB
  exact specs_value (R := fun v W => lv3S pc pf bm M 3 v W) (v := .map (some bm)) (by simp [execOp, hop, go_sem, ev e2, q1']) rfl (Ext.refl W)
set_option maxHeartbeats 1000000 in
theorem lv3_op4 (o3 : a.eval (.tmp 3) = .pointer (some ⟨pf, 0, none⟩)) (ho : lv3Reg[4]? = some o) : lv3Ok pc pf bm M Q a W 4 o := by
  have hop := op_at ho (·.op) (x := Op.fieldAddr 94 (Operand.tmp 3) 1) (by kernel_rfl)
  have hgd := op_at ho (·.guard) (x := none) (by kernel_rfl)
  refine ⟨fun j b h => (by rw [hgd] at h; cases h), ?_⟩
  exact specs_value (R := fun v W => lv3S pc pf bm M 4 v W) (v := .pointer (some ⟨pf, 2, none⟩)) (by simp [execOp, hop, go_sem, ev o3]) rfl (Ext.refl W)
set_option maxHeartbeats 1000000 in
theorem lv3_op5 (hld : ∀ W, Ext V W → (loadVar 92 ⟨pf, 2, none⟩).run Try.prog W = .ok (.agg (bitCells M)) W) (hB : Ext V W) (haft : ∀ j, (o.after.any fun e => decide (e.on = j) && Region.binds .any e) = true → lv3S pc pf bm M j (a.eval (.tmp (lv3D j))) W) (ho : lv3Reg[5]? = some o) : lv3Ok pc pf bm M Q a W 5 o := by
  have hop := op_at ho (·.op) (x := Op.load 92 (Operand.tmp 26)) (by kernel_rfl)
  have hgd := op_at ho (·.guard) (x := none) (by kernel_rfl)
  have e4 : a.eval (.tmp 26) = .pointer (some ⟨pf, 2, none⟩) := haft 4 (op_at ho (fun o => o.after.any fun e => decide (e.on = 4) && Region.binds .any e) (x := true) (by kernel_rfl))
  refine ⟨fun j b h => (by rw [hgd] at h; cases h), ?_⟩
  have hld' := hld W hB
  exact specs_value (R := fun v W => lv3S pc pf bm M 5 v W) (v := .agg (bitCells M)) (by simp [execOp, hop, e4, Instr.loadAt, Instr.sureAddr, hld', Result.andThen]) rfl (Ext.refl W)
set_option maxRecDepth 100000 in
set_option maxHeartbeats 4000000 in
/-- Region 3 of function 98. -/
theorem lv3_wp {id : Nat} (hlen : a.tmps.size = 28) (o0 : a.eval (.tmp 0) = .pointer (some ⟨pc, 0, none⟩)) (o3 : a.eval (.tmp 3) = .pointer (some ⟨pf, 0, none⟩)) (q1 : ∀ W, Ext V W → W.cell? ⟨pc, 1, none⟩ = some (.map (some bm))) (hld : ∀ W, Ext V W → (loadVar 92 ⟨pf, 2, none⟩).run Try.prog W = .ok (.agg (bitCells M)) W) (K : (∀ W, Ext V W → wpList Try.prog lv3Reg Q (lv3Reg.toList.drop 6) (puts a [(22, .pointer (some ⟨pc, 0, none⟩)), (23, .pointer (some ⟨pc, 0, none⟩)), (24, .pointer (some ⟨pc, 1, none⟩)), (25, .map (some bm)), (26, .pointer (some ⟨pf, 2, none⟩)), (27, .agg (bitCells M))]) W)) : (Code.region id lv3Reg true).wp Try.prog Q a V := by
  refine wp_region_specs_sink (ops := lv3Reg) 6 (lv3S pc pf bm M) (Ext V) (by kernel_rfl) (by rw [hlen]; kernel_rfl) (by kernel_rfl) ⟨rfl, rfl, rfl, Nat.le_refl _, fun _ _ => rfl⟩ (fun _ _ h e => h.trans e) lv3S_ext lv3D (by kernel_rfl) ?_ ?_
  · intro i o hi ho a' W hB hsz hold haft
    match i, hi with
    | 0, _ => exact lv3_op0 ((hold 0 (by kernel_rfl)).trans o0) ho
    | 1, _ => exact lv3_op1 haft ho
    | 2, _ => exact lv3_op2 haft ho
    | 3, _ => exact lv3_op3 q1 hB haft ho
    | 4, _ => exact lv3_op4 ((hold 3 (by kernel_rfl)).trans o3) ho
    | 5, _ => exact lv3_op5 hld hB haft ho
    | m + 6, h => exact absurd h (by omega)
  · intro a1 W hB hsz hdf hold hS
    have hall : ∀ z, z ∈ ([(22, .pointer (some ⟨pc, 0, none⟩)), (23, .pointer (some ⟨pc, 0, none⟩)), (24, .pointer (some ⟨pc, 1, none⟩)), (25, .map (some bm)), (26, .pointer (some ⟨pf, 2, none⟩)), (27, .agg (bitCells M))] : List (Tmp × Value)) → z.1 < a.tmps.size ∧ a1.eval (.tmp z.1) = z.2 := by
      intro z hz
      rw [hlen]
      simp only [List.mem_cons, List.not_mem_nil, or_false] at hz
      rcases hz with rfl | rfl | rfl | rfl | rfl | rfl
      · exact ⟨(show (22 : Nat) < 28 by omega), hS 0 (by omega)⟩
      · exact ⟨(show (23 : Nat) < 28 by omega), hS 1 (by omega)⟩
      · exact ⟨(show (24 : Nat) < 28 by omega), hS 2 (by omega)⟩
      · exact ⟨(show (25 : Nat) < 28 by omega), hS 3 (by omega)⟩
      · exact ⟨(show (26 : Nat) < 28 by omega), hS 4 (by omega)⟩
      · exact ⟨(show (27 : Nat) < 28 by omega), hS 5 (by omega)⟩
    have ha := act_puts hsz hdf hall (fun t ht => hold t (all_ne_of (l := [(22, .pointer (some ⟨pc, 0, none⟩)), (23, .pointer (some ⟨pc, 0, none⟩)), (24, .pointer (some ⟨pc, 1, none⟩)), (25, .map (some bm)), (26, .pointer (some ⟨pf, 2, none⟩)), (27, .agg (bitCells M))]) (by kernel_rfl) ht))
    rw [ha]
    exact K W  hB 
end
end Go.Proofs.Ytlaakmgdbhabfaa

/- leave. -/
namespace Go.Proofs.Ytlaakmgdbhabfaa
open Go.RowKit Go.Shelf Go.Maps Go.ChangeMaps
attribute [local irreducible] bitCells fitCells Z94 fitOf

theorem count_erase_ne {a b : Nat} {ys : List Nat} (h : ¬ a = b) : (ys.erase b).count a = ys.count a := by
  rw [List.count_erase_of_ne h]
theorem mem_erase_iff {a : Nat} {ys : List Nat} : a ∈ ys.erase a ↔ 0 < ys.count a - 1 := by
  rw [← List.count_pos_iff, List.count_erase_self]
/-- One less of some marks, of which there are more. -/
theorem AlikeN.less {W : World} {b n : Nat} {ys : List Nat} {D : DataW Unit} {M : Nat → Bool} {c : Nat} (hD : Maps.IsMap D)
    (h1 : ∀ M, Maps.has D (klOf M) = decide (setNo M ∈ ys) ∧ D.atKey (klOf M) z2 = .lit (.int .i64 ((ys.count (setNo M) : Nat) : Int))) (h2 : ∀ kl, Maps.has D kl = true → ∃ M, kl = klOf M)
    (hc : ys.count (setNo M) = c + 1) (hc0 : 0 < c) (hw : Own W b n (D.put (klOf M) (.lit (.int .i64 (c : Int))))) : AlikeN W b n (ys.erase (setNo M)) := by
  refine ⟨_, hw, fun M' => ?_, fun kl hkl => ?_⟩
  · by_cases e : klOf M' = klOf M
    · have e2 := setNo_cells.2 e
      rw [e, has_put_same hD (klOf_key M), atKey_put_same hD (klOf_key M), e2, List.count_erase_self, hc]
      refine ⟨?_, by simp⟩
      symm
      rw [decide_eq_true_eq, mem_erase_iff]
      omega
    · have e2 : ¬ setNo M' = setNo M := fun h => e (setNo_cells.1 h)
      rw [has_put_other e, atKey_put_other e, (h1 M').1, (h1 M').2, count_erase_ne e2]
      simp [List.mem_erase_of_ne e2]
  · by_cases e : kl = klOf M
    · exact ⟨M, e⟩
    · rw [has_put_other e] at hkl
      exact h2 kl hkl
/-- The last one of some marks is struck. -/
theorem AlikeN.last {W : World} {b n : Nat} {ys : List Nat} {D : DataW Unit} {M : Nat → Bool} {d : DataW Unit} (h1 : ∀ M, Maps.has D (klOf M) = decide (setNo M ∈ ys) ∧ D.atKey (klOf M) z2 = .lit (.int .i64 ((ys.count (setNo M) : Nat) : Int))) (h2 : ∀ kl, Maps.has D kl = true → ∃ M, kl = klOf M)
    (hc : ys.count (setNo M) = 1) (hw : Own W b n ((D.put (klOf M) d).del (klOf M))) : AlikeN W b n (ys.erase (setNo M)) := by
  refine ⟨_, hw, fun M' => ?_, fun kl hkl => ?_⟩
  · by_cases e : klOf M' = klOf M
    · have e2 := setNo_cells.2 e
      rw [e, has_del_same, atKey_del_same, e2, List.count_erase_self, hc]
      refine ⟨?_, by simp⟩
      symm
      rw [decide_eq_false_iff_not, mem_erase_iff]
      omega
    · have e2 : ¬ setNo M' = setNo M := fun h => e (setNo_cells.1 h)
      rw [has_del_other e, atKey_del_other e, has_put_other e, atKey_put_other e, (h1 M').1, (h1 M').2, count_erase_ne e2]
      simp [List.mem_erase_of_ne e2]
  · by_cases e : kl = klOf M
    · exact ⟨M, e⟩
    · rw [has_del_other e, has_put_other e] at hkl
      exact h2 kl hkl

theorem own_tight {W : World} {b n : Nat} {D : DataW Unit} (h : Own W b n D) : Own W b (Maps.size D) D := by
  obtain ⟨es, clock, hb, F, hs, rfl⟩ := h
  refine ⟨es, clock, hb, F, ?_, rfl⟩
  simp [Maps.size, length_sorted]
theorem own_put_tight {W : World} {b n N : Nat} {D : DataW Unit} {kl : Lit} {d : DataW Unit} (h : Own W b n (D.put kl d)) (hD : Maps.Tidy D) (hk : Maps.has D kl = true) (hN : Maps.size D ≤ N) : Own W b N (D.put kl d) := by
  have h1 := own_tight h
  rw [size_put hD, if_pos hk] at h1
  exact h1.mono hN
set_option maxRecDepth 100000 in
set_option maxHeartbeats 4000000 in
theorem leave_any {w : World} {pc b bm : Nat} {ys : List Nat} {cs ms : List (Int × Int)} (hC : ChoiceAt w pc b bm ys) (x : Nat × Int) (hx : noOf cs ms x ∈ ys) :
    Calls Try.prog 98 #[.pointer (some ⟨pc, 0, none⟩), .agg (fitOf cs ms x)] w fun e w' => (∃ v, e = .returned v) ∧ w.grownBy w' (some bm) ∧ Alike w' bm (ys.erase (noOf cs ms x)) := by
  have hpl := (Array.getElem?_eq_some_iff.1 hC.row).1
  have hs := fitOf_size cs ms x
  have hfe : fitOf cs ms x = fitCells x.1 x.2 (hadB cs ms x.1 x.2) := by unfold fitOf; rfl
  have hno : noOf cs ms x = setNo (hadB cs ms x.1 x.2) := rfl
  rw [hno] at hx ⊢
  obtain ⟨N, D, hN, hown, hD1, hD2⟩ := id hC.map
  obtain ⟨c, hc⟩ : ∃ c, ys.count (setNo (hadB cs ms x.1 x.2)) = c + 1 := ⟨ys.count (setNo (hadB cs ms x.1 x.2)) - 1, by have := List.count_pos_iff.2 hx; omega⟩
  obtain ⟨vv, _, hat, hwf⟩ := hown.lookup_int law92 under136 under2 (zero2 w) (key_bits (hadB cs ms x.1 x.2))
  have hM := hD1 (hadB cs ms x.1 x.2)
  rw [hM.2, hc] at hat
  obtain rfl : vv = ((c + 1 : Nat) : Int) := by cases hat; rfl
  have hc63 : ((c + 1 : Nat) : Int) ≤ 9223372036854775807 := by
    simp only [Lit.wf, Bool.and_eq_true, decide_eq_true_eq] at hwf
    have h2 : IntKind.i64.max = 9223372036854775807 := by decide
    omega
  obtain ⟨f, hf⟩ : ∃ f, fitOf cs ms x = f := ⟨_, rfl⟩
  rw [hf] at hs hfe ⊢
  have e1 : Ext w (w.alloc (.cells f 94)) := ext_alloc _ _
  have hrowf : (w.alloc (.cells f 94)).heap[w.heap.size]? = some (.cells (fitCells x.1 x.2 (hadB cs ms x.1 x.2)) 94 (0, 0)) := by rw [← hfe]; exact row_last _ _ _ rfl
  have hrowc := row_ext hC.row e1
  have hown1 := owns_block hown (row_ext_eq e1 hown.lt)
  have hbl := hown.lt
  obtain ⟨M, hMe⟩ : ∃ M, hadB cs ms x.1 x.2 = M := ⟨_, rfl⟩
  rw [hMe] at hx hM hc hrowf hfe ⊢
  have HF := Lib.hid hfe
  clear hf hfe hat hno hC
  go_enter Try.func98, Try.ntmps98
  go_upto_region 1 with (first | refine wpList_box94 (.tmp 1) rfl rfl f rfl ?_)
  have hpb : pc ≠ bm := fun e => by
    obtain ⟨es, clock, hb5, _⟩ := hown1
    rw [e, hb5] at hrowc
    cases hrowc
  refine lw_wp (pc := pc) (pf := w.heap.size) (b := bm) (k := x.1) (x := x.2) (M := M) (n := N) (Dm := D) (c := ((c + 1 : Nat) : Int)) (c' := (c : Int)) rfl rfl rfl hrowc hrowf hown1 (by rw [hM.2, hc]) (by unfold maxLen; omega) (by rw [IntWalk.i64_in _ (by omega)]; omega) (WalkArith.wf_i64 (by omega)) ?_
  intro W v8 v9 hg hW
  simp only [puts, List.foldl_cons, List.foldl_nil, Act.put, List.setIfInBounds_toArray, List.set_cons_succ, List.set_cons_zero]
  have hrc2 : W.heap[pc]? = some (.cells #[.pointer (some ⟨b, 0, none⟩), .map (some bm)] 138 (0, 0)) := (hg.block pc (Array.getElem?_eq_some_iff.1 hrowc).1 (fun e => hpb (Option.some.inj e))).trans hrowc
  have hrf2 : W.heap[w.heap.size]? = some (.cells (fitCells x.1 x.2 M) 94 (0, 0)) := (hg.block _ (by simp) (fun e => by have := Option.some.inj e; omega)).trans hrowf
  have hW1 : Own W bm N (D.put (klOf M) (.lit (.int .i64 (c : Int)))) := own_put_tight hW (hown.tidy law92) (by rw [hM.1]; exact decide_eq_true hx) hown.size_le
  have hgw : w.grownBy W (some bm) := ⟨hg.os.trans e1.os, hg.tape.trans e1.tape, hg.output.trans e1.output, Nat.le_trans e1.size hg.size, fun i hi hne => (hg.block i (Nat.lt_of_lt_of_le hi e1.size) hne).trans (e1.block i hi)⟩
  have hq1 : ∀ Z, Ext W Z → Z.cell? ⟨pc, 1, none⟩ = some (.map (some bm)) := fun Z hZ => cell_of_row _ _ _ _ _ _ (row_ext hrc2 hZ)
  have hld : ∀ Z, Ext W Z → (loadVar 92 ⟨w.heap.size, 2, none⟩).run Try.prog Z = .ok (.agg (bitCells M)) Z := fun Z hZ => run_load92 Z _ _ (bitCells_size _) (fun j u hj => by
    rw [Addr.add_lit]
    refine (cell_of_row _ _ _ _ _ _ (row_ext hrf2 hZ)).trans ?_
    have hj12 : j < 12 := by have := (List.getElem?_eq_some_iff.1 hj).1; rw [Array.length_toList, bitCells_size] at this; exact this
    rw [Array.getElem?_toList, bitCells_get _ j hj12] at hj
    rw [fitCells_mark _ _ _ j hj12]
    exact hj)
  have hlk : ∀ Z, Ext W Z → (Instr.lookup 136 (.map (some bm)) (.agg (bitCells M)) false).run Try.prog Z = .ok (.int .i64 (c : Int)) Z := fun Z hZ => by
    obtain ⟨v, hrun, hv, _⟩ := (owns_block hW1 (row_ext_eq hZ hW1.lt)).lookup_int law92 under136 under2 (zero2 Z) (key_bits M)
    rw [atKey_put_same hown.isMap (klOf_key M)] at hv
    cases hv
    exact hrun
  have HLD := Lib.hid hld
  have HQ := Lib.hid hq1
  have HLK := Lib.hid hlk
  have HGW := Lib.hid hgw
  have HOW := Lib.hid hW1
  have HD := Lib.hid (And.intro hD1 hD2)
  have HIM := Lib.hid hown.isMap
  have HC1 := Lib.hid hc
  clear hld hq1 hlk hgw hW1 hW hg hrc2 hrf2 hrowf hrowc hown hown1 hD1 hD2 hM hwf hc e1 hMe
  obtain ⟨kf, hkf⟩ : ∃ kf, (.agg (bitCells M) : Value) = kf := ⟨_, rfl⟩
  rw [hkf]
  go_upto_region 2 with fail
  refine lv2_wp (pc := pc) (pf := w.heap.size) (bm := bm) (M := M) (cnt := c) rfl rfl rfl HQ.out HLD.out HLK.out ?_
  intro W2 e2
  have hdr : lv2Reg.toList.drop 8 = [] := List.drop_eq_nil_of_le (by rw [Array.length_toList]; exact Nat.le_of_eq (by kernel_rfl))
  rw [hdr]
  simp only [wpList, puts, List.foldl_cons, List.foldl_nil, Act.put, List.setIfInBounds_toArray, List.set_cons_succ, List.set_cons_zero]
  rw [hkf]
  have HE2 := Lib.hid e2
  clear e2 hdr
  by_cases hc0 : c = 0
  · have hcz : ((c : Int) == 0) = true := by simp [hc0]
    have HC0 := Lib.hid hc0
    rw [hcz]
    clear hcz hc0
    go_upto_region 3 with fail
    refine lv3_wp (pc := pc) (pf := w.heap.size) (bm := bm) (M := M) rfl rfl rfl (fun Z hZ => HQ.out Z (HE2.out.trans hZ)) (fun Z hZ => HLD.out Z (HE2.out.trans hZ)) ?_
    intro W3 e3
    obtain ⟨o1, hdr, h1⟩ : ∃ o1, lv3Reg.toList.drop 6 = [o1] ∧ lv3Reg[6]? = some o1 := by
      have hs : lv3Reg.size = 7 := by kernel_rfl
      refine ⟨lv3Reg[6], ?_, by simp⟩
      rw [List.drop_eq_getElem_cons (by simp [hs]), List.drop_eq_nil_of_le (by simp [hs])]
      simp
    rw [hdr]
    simp only [puts, List.foldl_cons, List.foldl_nil, Act.put, List.setIfInBounds_toArray, List.set_cons_succ, List.set_cons_zero]
    rw [hkf]
    have hd1 := op_at h1 (·.dst) (x := none) (by kernel_rfl)
    refine wpList_delete_own W3 (op_at h1 (·.guard) (x := none) (by kernel_rfl)) (.tmp 25) (.tmp 27) 136 92 (op_at h1 (·.op) (by kernel_rfl)) 2 law92 under136 (plainElem Try.prog 2) bm N _ rfl (owns_block HOW.out (row_ext_eq (HE2.out.trans e3) HOW.out.lt)) kf (klOf M) rfl (by rw [← hkf]; exact key_bits M) ?_
    intro W4 hown4 hturn
    rw [hd1]
    simp only [wpList, Act.put]
    have HT := Lib.hid (And.intro hown4 hturn.grown)
    have HE3 := Lib.hid (HE2.out.trans e3)
    clear hown4 hturn e3 hdr h1 hd1
    go_end0
    have hg5 := grown_ext HGW.out HE3.out
    have hg6 := HT.out.2
    refine ⟨⟨_, rfl⟩, ⟨hg6.os.trans hg5.os, hg6.tape.trans hg5.tape, hg6.output.trans hg5.output, Nat.le_trans hg5.size hg6.size, fun i hi hne => (hg6.block i (Nat.lt_of_lt_of_le hi hg5.size) hne).trans (hg5.block i hi hne)⟩, ?_⟩
    exact (AlikeN.last HD.out.1 HD.out.2 (by rw [HC1.out, HC0.out]) HT.out.1).alike hN
  · have hcz : ((c : Int) == 0) = false := by simp [hc0]
    have HC0 := Lib.hid hc0
    rw [hcz]
    clear hcz hc0
    go_wp2
    go_end0
    refine ⟨⟨_, rfl⟩, grown_ext HGW.out HE2.out, ?_⟩
    exact (AlikeN.less HIM.out HD.out.1 HD.out.2 HC1.out (by have := HC0.out; omega) (owns_block HOW.out (row_ext_eq HE2.out HOW.out.lt))).alike hN
end Go.Proofs.Ytlaakmgdbhabfaa

/- The table of fewest rows: what it holds, and how it lies in memory. -/
namespace Go.Proofs.Ytlaakmgdbhabfaa
open Go.RowKit Go.Shelf
attribute [local irreducible] bitCells fitCells Z94 fitOf

abbrev Rw := Nat × Int
/-- a without the bits of b. -/
def butNot (a b : Nat) : Nat := a ^^^ (a &&& b)
theorem butNot_bit (a b i : Nat) : (butNot a b).testBit i = (a.testBit i && !b.testBit i) := by
  unfold butNot
  rw [Nat.testBit_xor, Nat.testBit_and]
  cases a.testBit i <;> cases b.testBit i <;> rfl
theorem butNot_le (a b : Nat) : butNot a b ≤ a := by
  have h : butNot a b = butNot a b &&& a := by
    apply Nat.eq_of_testBit_eq
    intro i
    rw [Nat.testBit_and, butNot_bit]
    cases a.testBit i <;> simp
  rw [h]
  exact Nat.and_le_right
theorem bits_andNot (a b : Nat) (ha : a < 2 ^ 62) (_hb : b < 2 ^ 62) : bits .andNot .i64 (a : Int) (b : Int) = ((butNot a b : Nat) : Int) := by
  have h1 : butNot a b < 2 ^ 62 := Nat.lt_of_le_of_lt (butNot_le a b) ha
  have hw : IntKind.i64.wrap ((butNot a b : Nat) : Int) = ((butNot a b : Nat) : Int) := IntWalk.i64_in _ (by omega)
  unfold bits
  have e : (BitVec.ofInt IntKind.i64.bits (a : Int) &&& ~~~ BitVec.ofInt IntKind.i64.bits (b : Int)).toNat = butNot a b := by
    apply Nat.eq_of_testBit_eq
    intro i
    rw [butNot_bit, BitVec.testBit_toNat, BitVec.getLsbD_and, BitVec.getLsbD_not, BitVec.ofInt_natCast, BitVec.ofInt_natCast, BitVec.getLsbD_ofNat, BitVec.getLsbD_ofNat]
    show (decide (i < 64) && a.testBit i && (decide (i < 64) && !(decide (i < 64) && b.testBit i))) = _
    by_cases h : i < 64
    · simp [h]
    · have : a.testBit i = false := Nat.testBit_lt_two_pow (Nat.lt_of_lt_of_le ha (Nat.pow_le_pow_right (by decide) (by omega)))
      simp [h, this]
  simp only [e, hw]
def pick (acc bef : Option (List Rw)) (x : Rw) : Option (List Rw) :=
  match bef with
  | none => acc
  | some q => match acc with
    | some p => if p.length ≤ q.length + 1 then some p else some (q ++ [x])
    | none => some (q ++ [x])
def expOf (tab : List (Option (List Rw))) (s : Nat) (acc : Option (List Rw)) (t : Nat) : Option (List Rw) := if t = s then acc else tab.getD t none
def tabAcc (no : Rw → Nat) (tab : List (Option (List Rw))) (s : Nat) (xs : List Rw) (acc : Option (List Rw)) : Option (List Rw) :=
  xs.foldl (fun acc x => pick acc (expOf tab s acc (butNot s (no x))) x) acc
def tabInit (s : Nat) : Option (List Rw) := if s = 0 then some [] else none
/-- For each set of marks, as a number: the fewest rows that have them all. -/
def tabTo (no : Rw → Nat) (xs : List Rw) : Nat → List (Option (List Rw))
  | 0 => []
  | k + 1 => tabTo no xs k ++ [tabAcc no (tabTo no xs k) k xs (tabInit k)]
theorem tabTo_len (no : Rw → Nat) (xs : List Rw) : ∀ k, (tabTo no xs k).length = k
  | 0 => rfl
  | k + 1 => by simp [tabTo, tabTo_len no xs k]
theorem tabAcc_succ (no : Rw → Nat) (tab : List (Option (List Rw))) (s : Nat) (xs : List Rw) (acc : Option (List Rw)) (k : Nat) (hk : k < xs.length) :
    tabAcc no tab s (xs.take (k + 1)) acc = pick (tabAcc no tab s (xs.take k) acc) (expOf tab s (tabAcc no tab s (xs.take k) acc) (butNot s (no xs[k]))) xs[k] := by
  unfold tabAcc
  rw [List.take_succ_eq_append_getElem hk, List.foldl_append]
  rfl
theorem getD_low {α : Type} (l m : List α) (i : Nat) (d : α) (h : i < l.length) : (l ++ m).getD i d = l.getD i d := by
  simp only [List.getD_eq_getElem?_getD, List.getElem?_append_left h]
theorem getD_out {α : Type} (l : List α) (i : Nat) (d : α) (h : l.length ≤ i) : l.getD i d = d := by
  simp only [List.getD_eq_getElem?_getD, List.getElem?_eq_none h, Option.getD_none]
theorem expOf_next (no : Rw → Nat) (xs : List Rw) (k : Nat) : ∀ t, expOf (tabTo no xs k) k (tabAcc no (tabTo no xs k) k xs (tabInit k)) t = expOf (tabTo no xs (k + 1)) (k + 1) (tabInit (k + 1)) t := by
  intro t
  have hl := tabTo_len no xs k
  have hl2 := tabTo_len no xs (k + 1)
  unfold expOf
  by_cases h1 : t = k
  · subst h1
    rw [if_pos rfl, if_neg (by omega), tabTo]
    simp only [List.getD_eq_getElem?_getD]
    rw [List.getElem?_append_right (by omega), hl]
    simp
  · rw [if_neg h1]
    by_cases h2 : t = k + 1
    · subst h2
      rw [if_pos rfl, getD_out _ _ _ (by omega)]
      simp [tabInit]
    · rw [if_neg h2]
      by_cases h3 : t < k
      · rw [tabTo, getD_low _ _ _ _ (by omega)]
      · rw [getD_out _ _ _ (by omega), getD_out _ _ _ (by omega)]
/-- The rows r lie in the slice v. -/
def RowsAt (W : World) (r : List Rw) (v : Value) : Prop := ∃ b off c cells, v = .slice (some ⟨b, off, none⟩) r.length c ∧ r.length ≤ c ∧ c ≤ maxLen ∧ W.heap[b]? = some (.cells cells 27 (0, 0)) ∧
  ∀ j x, r[j]? = some x → cells[off + j * 2]? = some (.int .i64 (x.1 : Int)) ∧ cells[off + j * 2 + 1]? = some (.int .i64 x.2)
def CellIs (W : World) (o : Option (List Rw)) (v : Value) : Prop :=
  match o with
  | none => v = .slice none 0 0
  | some r => RowsAt W r v
/-- The table that holds what E says lies at block g. -/
def TabAt (W : World) (g T : Nat) (E : Nat → Option (List Rw)) : Prop := ∃ C, W.heap[g]? = some (.cells C 54 (0, 0)) ∧ C.size = T ∧ ∀ s, s < T → ∃ v, C[s]? = some v ∧ CellIs W (E s) v
theorem RowsAt.keep {W W' : World} {r : List Rw} {v : Value} (h : RowsAt W r v) (hk : ∀ (b : Nat) (cs : Array Value), W.heap[b]? = some (Obj.cells cs 27 (0, 0)) → W'.heap[b]? = some (Obj.cells cs 27 (0, 0))) : RowsAt W' r v := by
  obtain ⟨b, off, c, cells, h1, h2, h3, h4, h5⟩ := h
  exact ⟨b, off, c, cells, h1, h2, h3, hk _ _ h4, h5⟩
theorem CellIs.keep {W W' : World} {o : Option (List Rw)} {v : Value} (h : CellIs W o v) (hk : ∀ (b : Nat) (cs : Array Value), W.heap[b]? = some (Obj.cells cs 27 (0, 0)) → W'.heap[b]? = some (Obj.cells cs 27 (0, 0))) : CellIs W' o v := by
  cases o with
  | none => exact h
  | some r => exact RowsAt.keep h hk
theorem TabAt.ext {W W' : World} {g T : Nat} {E : Nat → Option (List Rw)} (h : TabAt W g T E) (e : Ext W W') : TabAt W' g T E := by
  obtain ⟨C, h1, h2, h3⟩ := h
  refine ⟨C, row_ext h1 e, h2, fun s hs => ?_⟩
  obtain ⟨v, h4, h5⟩ := h3 s hs
  exact ⟨v, h4, CellIs.keep h5 fun b cs hb => row_ext hb e⟩
theorem TabAt.put {W : World} {g T s : Nat} {E E' : Nat → Option (List Rw)} (h : TabAt W g T E) (hs : s < T) (v : Value) (hv : CellIs W (E' s) v) (hE : ∀ t, t < T → t ≠ s → E' t = E t) : TabAt (W.setCell ⟨g, s, none⟩ v) g T E' := by
  obtain ⟨C, h1, h2, h3⟩ := h
  have hk : ∀ (b : Nat) (cs : Array Value), W.heap[b]? = some (Obj.cells cs 27 (0, 0)) → (W.setCell ⟨g, s, none⟩ v).heap[b]? = some (Obj.cells cs 27 (0, 0)) := fun b cs hb => by
    rw [heap_set_other _ _ _ _ _ (fun e => by rw [e, h1] at hb; cases hb)]
    exact hb
  refine ⟨C.setIfInBounds s v, row_setCell _ _ _ _ _ _ _ h1, by simp [h2], fun t ht => ?_⟩
  by_cases e : t = s
  · subst e
    exact ⟨v, by simp [h2, hs], CellIs.keep hv hk⟩
  · obtain ⟨u, h4, h5⟩ := h3 t ht
    refine ⟨u, by rw [Array.getElem?_setIfInBounds_ne (fun e' => e e'.symm)]; exact h4, ?_⟩
    rw [hE t ht e]
    exact CellIs.keep h5 hk
theorem TabAt.get {W : World} {g T s : Nat} {E : Nat → Option (List Rw)} (h : TabAt W g T E) (hs : s < T) : ∃ v, W.cell? ⟨g, s, none⟩ = some v ∧ CellIs W (E s) v := by
  obtain ⟨C, h1, h2, h3⟩ := h
  obtain ⟨v, h4, h5⟩ := h3 s hs
  exact ⟨v, (cell_of_row _ _ _ _ _ _ h1).trans h4, h5⟩
theorem TabAt.congr {W : World} {g T : Nat} {E E' : Nat → Option (List Rw)} (h : TabAt W g T E) (hE : ∀ t, t < T → E' t = E t) : TabAt W g T E' := by
  obtain ⟨C, h1, h2, h3⟩ := h
  exact ⟨C, h1, h2, fun s hs => by rw [hE s hs]; exact h3 s hs⟩
end Go.Proofs.Ytlaakmgdbhabfaa
