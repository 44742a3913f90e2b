/- Texts of one package, joined: RowsSeq, Append, Opened, AreCombs, FirstFit, Fitting, Held. -/
import Derived.Test.YtlaakmgdbhabfaaC9
import Derived.RangeFuncBox
import Derived.Deep.QuietTactic
import Derived.BigQuiet
/- rows as an iterator, and the slice of its rows. -/
namespace Go.Proofs.Ytlaakmgdbhabfaa
open Go.RowKit Go.Shelf
attribute [local go_sem] Oper.semAt_some
attribute [local irreducible] bitCells fitCells

section
variable {F : Fence} {n : Nat} {P : Program} {ops : Array Oper} {rest : List Oper} {o : Oper} {a : Act} {w : World} {Q : Exit → Act → World → Prop}
theorem wpListIn_val {v : Value} {w' : World} (hg : o.guard = none) (hnc : ∀ c, o.op ≠ .call c) (hnd : ∀ c, o.op ≠ .defer c) (hr : (execOp a.eval o).run P w = .ok (.value v) w') (h : wpListIn F n P ops Q rest (a.put o.dst v) w') : wpListIn F n P ops Q (o :: rest) a w := by
  refine wpListIn_plain hg fun K hK => ?_
  unfold Oper.wpIn
  refine ⟨?_, ?_⟩
  · intro f hf
    exfalso
    revert hf
    unfold Oper.about
    cases hop : o.op with
    | call c => exact absurd hop (hnc c)
    | _ => simp
  · rw [Oper.semAt_plain F _ _ hnd, hr]
    exact hK _ _ h
end

/-- The zero row that fits. -/
def Z94 : Array Value := fitCells 0 0 noBits
theorem zero94 (w : World) : (zeroValue 94).run Try.prog w = .ok (.agg Z94) w := by
  have : (Try.prog.info? 94).map (·.zero) = some (some (.agg Z94)) := by kernel_rfl
  obtain ⟨i, hi, hz⟩ := Option.map_eq_some_iff.1 this
  simp [zeroValue, typeInfo, hi, hz]
theorem size94 : (Try.prog.info? 94).map (·.size) = some 14 := by kernel_rfl
theorem info94 : (Try.prog.info? 94).map (fun i => (i.zero, i.size, i.bytes)) = some (some (.agg Z94), 14, 112) := by kernel_rfl
section
variable {F : Fence} {n : Nat} {ops : Array Oper} {rest : List Oper} {o : Oper} {a : Act} {w : World} {Q : Exit → Act → World → Prop}
theorem wpListIn_alloc94 (hg : o.guard = none) (ho : o.op = .alloc 94) (h : wpListIn F n Try.prog ops Q rest (a.put o.dst (.pointer (some ⟨w.heap.size, 0, none⟩))) (w.alloc (.cells Z94 94))) : wpListIn F n Try.prog ops Q (o :: rest) a w := by
  refine wpListIn_val hg (by rw [ho]; intro c h; cases h) (by rw [ho]; intro c h; cases h) ?_ h
  have hz := zero94 w
  have hn : (newVar 94 (.agg Z94)).run Try.prog w = .ok ⟨w.heap.size, 0, none⟩ (w.alloc (.cells Z94 94)) := by
    go_simp
  simp [execOp, ho, Instr.alloc, hz, hn]
theorem wpListIn_load94 (x : Operand) (hgd : o.guard = none) (ho : o.op = .load 94 x) (g : Nat) (hx : a.eval x = .pointer (some ⟨g, 0, none⟩)) (cs : Array Value) (hs : cs.size = 14) (hg : w.heap[g]? = some (.cells cs 94 (0, 0)))
    (h : wpListIn F n Try.prog ops Q rest (a.put o.dst (.agg cs)) w) : wpListIn F n Try.prog ops Q (o :: rest) a w := by
  refine wpListIn_val hgd (by rw [ho]; intro c h; cases h) (by rw [ho]; intro c h; cases h) ?_ h
  have := run_loadVar_row (P := Try.prog) w g 94 94 cs (0, 0) _ hg Try.underlying94 rfl (by rw [size94, hs])
  simp only [execOp, ho, hx, Instr.loadAt, Instr.sureAddr, Sem.run_bind, Sem.run_pure, Result.andThen_ok, this]
theorem store_new94 (w : World) (cs : Array Value) (hs : cs.size = 14) (h1 : cs.all (·.oneCell') = true) : (storeCells ⟨w.heap.size, 0, none⟩ cs.toList).run Try.prog (w.alloc (.cells Z94 94)) = .ok () (w.alloc (.cells cs 94)) :=
  run_storeCells_new (P := Try.prog) w 94 Z94 cs (by rw [size94, hs]) (by rw [show Z94.size = 14 from fitCells_size _ _ _, hs]) h1
theorem wpListIn_build87 (x : Operand) (hgd : o.guard = none) (ho : o.op = .buildSlice 87 1 #[(0, x)]) (f : Array Value) (k : Nat) (y : Int) (M : Nat → Bool) (hfe : f = fitCells k y M) (hx : a.eval x = .agg f)
    (h : wpListIn F n Try.prog ops Q rest (a.put o.dst (.slice (some ⟨w.heap.size, 0, none⟩) 1 1)) (w.alloc (.cells f 94))) : wpListIn F n Try.prog ops Q (o :: rest) a w := by
  subst hfe
  refine wpListIn_val hgd (by rw [ho]; intro c h; cases h) (by rw [ho]; intro c h; cases h) ?_ h
  have hf : Try.prog.builtSlice 94 1 [(0, .agg (fitCells k y M))] = some (fitCells k y M) := by kernel_rfl
  have hu : Try.prog.underlying 87 = some (.slice 94) := by kernel_rfl
  unfold Program.builtSlice at hf
  obtain ⟨i, hi, hz⟩ := Option.map_eq_some_iff.1 info94
  simp only [Prod.mk.injEq] at hz
  simp only [hi, hz.1] at hf
  rw [if_neg (by simp [hz.2.1])] at hf
  have := run_buildSlice (P := Try.prog) w 87 94 1 #[(0, .agg (fitCells k y M))] (fitCells k y M) i _ hu hi hz.1 (by simp [hz.2.1]) (by simp [hz.2.1]) hf
  simp [execOp, ho, hx, this]
end

theorem keepsVars_b {w : World} {n₀ : Nat} (hn : n₀ ≤ w.heap.size) (W : World) (l : Nat) (o o' : Obj) (hl : w.heap.size ≤ l) (h : W.heap[l]? = some o) (hc : o.isCells = false) (hw : o.isWalk = false) : KeepsVars n₀ W (W.putObj l o') := by
  refine ⟨belowK_b hn W l o o' hl h hc hw, fun b cs t hb _ _ => ?_⟩
  refine ((grownBy_putObj' W l o').block b (Array.getElem?_eq_some_iff.1 hb).1 (fun e => ?_)).trans hb
  obtain rfl : b = l := Option.some.inj e
  rw [hb] at h
  cases h
  cases hc
theorem abides_ext {β : Type} {B : Nat} {J : β → World → Prop} (h : AbidesFrom B J) (s : β) (X X' : World) (hs : J s X) (e : Ext X X') : J s X' :=
  h s X X' none hs ⟨e.os, e.tape, e.output, e.size, fun i hi _ => e.block i hi⟩ (fun r e => by cases e)

/-- A row that fits, as the iterator hands it on. -/
def fitOf (cs ms : List (Int × Int)) (x : Nat × Int) : Array Value := fitCells x.1 x.2 (hadB cs ms x.1 x.2)
theorem fitOf_size (cs ms : List (Int × Int)) (x : Nat × Int) : (fitOf cs ms x).size = 14 := fitCells_size _ _ _

section
variable {A : Option Addr} {n c : Nat} {A' : Option Addr} {n' c' : Nat} {cs ms : List (Int × Int)}
theorem rows_stops (N : Nat) (hn : 1 ≤ N) (P : Nat) (w : World) (h0 : sheetErr cs ms = 0) (hP : P < w.heap.size) (hrow : w.heap[P]? = some (.cells #[.slice A n c, .slice A' n' c'] 25 (0, 0))) (hb : IsSheet w w.heap.size A n c A' n' c' cs ms) :
    SeqStopsK Fence.wide N Try.prog 106 #[.pointer (some ⟨P, 0, none⟩)] (fun x => #[Value.agg (fitOf cs ms x)]) (KeepsVars w.heap.size) (fun ys => ys = fitsOf cs ms) (fun pre => pre <+: fitsOf cs ms) (fitsOf cs ms).length w := fun l J Jx W hW hJ _ hY h1 =>
  rows1_in N hn l P w.heap.size J Jx h0 hY W hP hW.size ((hW.block P hP).trans hrow) (hb.kept hW (Nat.le_refl _)) (abides_ext hJ) h1
end
theorem enters106 : ∀ args w, (callFunc 106 args).run Try.prog w = .ok (.enter 106 args) w := enters_of Try.func106 (by kernel_rfl) rfl

set_option maxHeartbeats 400000 in
theorem rows_any (A : Option Addr) (n c : Nat) (A' : Option Addr) (n' c' : Nat) (w : World) : Calls Try.prog 85 #[.agg #[.slice A n c, .slice A' n' c']] w fun e w' => e = .returned (.func (.func 106) #[] #[.pointer (some ⟨w.heap.size, 0, none⟩)]) ∧ w' = w.alloc (.cells #[.slice A n c, .slice A' n' c'] 25) := by
  go_enter Try.func85, Try.ntmps85
  go_wp2
  go_ret
  exact ⟨rfl, rfl⟩

theorem length_flatMap_le {α β : Type} (f : α → List β) (b : Nat) : ∀ (l : List α), (∀ x, x ∈ l → (f x).length ≤ b) → (l.flatMap f).length ≤ b * l.length
  | [], _ => by simp
  | x :: l, h => by
    have h1 := h x (by simp)
    have h2 := length_flatMap_le f b l (fun y hy => h y (by simp [hy]))
    simp only [List.flatMap_cons, List.length_append, List.length_cons, Nat.mul_add]
    omega
theorem fits_few {cs ms : List (Int × Int)} (h0 : sheetErr cs ms = 0) : (fitsOf cs ms).length ≤ 384 := by
  obtain ⟨h8, h12, hm⟩ := sheet_ok h0
  have hr : ∀ k, (rowsUpto cs ms k ms.length).length ≤ 4 * ms.length := fun k => by
    have := length_flatMap_le (fun j' => rowsIn cs ms k (ms.getD j' (0, 0)) ((ms.getD j' (0, 0)).2 - (ms.getD j' (0, 0)).1 + 1).toNat) 4 (List.range ms.length) (fun j hj => by
      have hj' := List.mem_range.1 hj
      obtain ⟨_, _, _, h4⟩ := marks_at (f := 0) (Int.le_refl 0) hm hj'
      refine Nat.le_trans (List.length_filterMap_le _ _) ?_
      simp only [List.length_range]
      omega)
    simpa [rowsUpto] using this
  have h := length_flatMap_le (fun k' => rowsUpto cs ms k' ms.length) 48 (List.range cs.length) (fun k _ => by have := hr k; omega)
  simp only [List.length_range] at h
  have : (fitsOf cs ms).length ≤ 48 * cs.length := h
  omega
end Go.Proofs.Ytlaakmgdbhabfaa

/- The slice of the rows that fit. -/
namespace Go.Proofs.Ytlaakmgdbhabfaa
open Go.RowKit Go.Shelf
attribute [local go_sem] Oper.semAt_some
attribute [local irreducible] bitCells fitCells Z94 fitOf

theorem heap_kept {A B : World} {row : Option Nat} {b : Nat} {cs : Array Value} {t : TypeId} {fr : Nat × Nat} (h : A.heap[b]? = some (.cells cs t fr)) (hg : A.grownBy B row) (hr : ∀ r, row = some r → ∃ o : Obj, A.heap[r]? = some o ∧ o.isCells = false) : B.heap[b]? = some (.cells cs t fr) := by
  rw [hg.block b (Array.getElem?_eq_some_iff.1 h).1 (fun e => by
    obtain ⟨o, ho, hc⟩ := hr b e.symm
    rw [h] at ho
    cases ho
    cases hc), h]
theorem owns_row_kept {W W' : World} {row : Option Nat} {base : Nat} {e : TypeId} {size n : Nat} {v : Value} {xs : List Value} (h : W.ownsRow base e size v n xs) (hg : W.grownBy W' row)
    (hr : ∀ r, row = some r → ∃ o : Obj, W.heap[r]? = some o ∧ o.isCells = false) : W'.ownsRow base e size v n xs := by
  refine ⟨h.1, h.2.imp id ?_⟩
  rintro ⟨g, cap, cur, hv, hb, hrow, r⟩
  exact ⟨g, cap, cur, hv, hb, heap_kept hrow hg hr, r⟩
theorem owns_mono {w : World} {base base' : Nat} {e : TypeId} {size n : Nat} {v : Value} {xs : List Value} (h : w.ownsRow base e size v n xs) (hb : base' ≤ base) : w.ownsRow base' e size v n xs := by
  refine ⟨h.1, h.2.imp id ?_⟩
  rintro ⟨g, cap, cur, hv, hg, r⟩
  exact ⟨g, cap, cur, hv, Nat.le_trans hb hg, r⟩
theorem fitCells_one (k : Nat) (x : Int) (M : Nat → Bool) : (fitCells k x M).all (·.oneCell') = true := by
  rw [litFit]
  simp [Value.oneCell']
theorem fitOf_one (cs ms : List (Int × Int)) (x : Nat × Int) : (fitOf cs ms x).all (·.oneCell') = true := by
  unfold fitOf
  exact fitCells_one _ _ _
theorem cells_new (w : World) (cs : Array Value) (t : TypeId) (j : Nat) (u : Value) (h : cs.toList[j]? = some u) : (w.alloc (.cells cs t)).cell? ((⟨w.heap.size, 0, none⟩ : Addr).add j) = some u := by
  have hadd : (⟨w.heap.size, 0, none⟩ : Addr).add j = ⟨w.heap.size, j, none⟩ := by unfold Addr.add; split <;> simp_all
  rw [hadd, cell_of_row _ _ j cs t (0, 0) (row_last _ _ _ rfl)]
  simpa using h
theorem Z94_size : (Value.agg Z94).cells.size = 14 := by
  unfold Z94
  exact fitCells_size _ _ _

section
variable {A : Option Addr} {n c : Nat} {A' : Option Addr} {n' c' : Nat} {cs ms : List (Int × Int)}
/-- What a list of rows is in memory. -/
def fitsCells (cs ms : List (Int × Int)) (xs : List (Nat × Int)) : List Value := xs.flatMap fun x => (fitOf cs ms x).toList
theorem fitsCells_snoc (cs ms : List (Int × Int)) (xs : List (Nat × Int)) (x : Nat × Int) : fitsCells cs ms (xs ++ [x]) = fitsCells cs ms xs ++ (fitOf cs ms x).toList := by simp [fitsCells]

set_option maxRecDepth 100000 in
set_option maxHeartbeats 2000000 in
theorem appendSeq_any (P : Nat) (w : World) (h0 : sheetErr cs ms = 0) (hP : P < w.heap.size) (hrow : w.heap[P]? = some (.cells #[.slice A n c, .slice A' n' c'] 25 (0, 0))) (hb : IsSheet w w.heap.size A n c A' n' c' cs ms) :
    Calls Try.prog 105 #[.slice none 0 0, .func (.func 106) #[] #[.pointer (some ⟨P, 0, none⟩)]] w fun e w' => ∃ v, e = .returned v ∧ Ext w w' ∧ w'.ownsRow w.heap.size 94 14 v (fitsOf cs ms).length (fitsCells cs ms (fitsOf cs ms)) := by
  have hst := rows_stops 11 (by omega) P w h0 hP hrow hb
  have hfew := fits_few h0
  refine (callsIn_wide (n := 12)).1 ?_
  refine callsIn_of_wp_marks Try.func105 rfl trivial ?_ rfl
  simp only [Try.ntmps105, List.size_toArray, List.length_cons, List.length_nil, Nat.reduceAdd, Nat.reduceSub, Array.replicate_succ, Array.replicate_zero, List.push_toArray, List.append_toArray, List.nil_append, List.cons_append]
  gi_wp2
  have k0 : Boxed (w.alloc (.cells #[.slice none 0 0] 87)) w.heap.size 87 (.slice none 0 0) := Boxed.new w 87 _
  have kb : Below w.heap.size w (w.alloc (.cells #[.slice none 0 0] 87)) := (Below.refl _ w).alloc (Nat.le_refl _) _
  obtain ⟨W0, hW0⟩ : ∃ W0, w.alloc (.cells #[.slice none 0 0] 87) = W0 := ⟨_, rfl⟩
  have kz : W0.heap.size = w.heap.size + 1 := by rw [← hW0]; simp
  rw [hW0] at k0 kb ⊢
  clear hW0 hrow hb h0
  have hbelow := kb.size
  refine wpIn_rangeFunc_ownH rfl (by omega) (gf := 106) (lb := #[.pointer (some ⟨P, 0, none⟩)]) rfl trivial enters106
    hst keepsVars_t (keepsVars_b (by omega)) kb (fun _ => rfl)
    (fun pre W => ∃ v, Boxed W w.heap.size 87 v ∧ W.ownsRow w.heap.size 94 14 v pre.length (fitsCells cs ms pre) ∧ Below w.heap.size w W)
    (fun _ _ _ => False)
    (fun pre X Y row hs hg hr => by
      obtain ⟨v, h1, h2, h3⟩ := hs
      have hr' := fun r e => (hr r e).2
      exact ⟨v, boxed_own _ _ (fun (_ : Unit) => _) () X Y row h1 hg hr', owns_row_kept h2 hg hr', h3.grown hg h3.size (fun r e => by have := (hr r e).1; omega)⟩)
    (fun _ _ _ _ _ hs _ _ => hs)
    ⟨_, k0, World.ownsRow_nil _ _ _ _, kb⟩
    (fun x a' W => ∃ p, w.heap.size ≤ p ∧ W.heap[p]? = some (.cells (fitOf cs ms x) 94 (0, 0)) ∧ a' = { tmps := #[.slice none 0 0, .func (.func 106) #[] #[.pointer (some ⟨P, 0, none⟩)], .pointer (some ⟨w.heap.size, 0, none⟩), undef, .slice none 0 0, .pointer (some ⟨p, 0, none⟩), .func (.func 106) #[] #[.pointer (some ⟨P, 0, none⟩)], .agg (fitOf cs ms x), undef, undef, undef, undef, undef], defers := [] })
    (fun x a' u X Y row hs hg hr => by
      obtain ⟨p, h1, h2, h3⟩ := hs
      exact ⟨p, h1, heap_kept h2 hg (fun r e => (hr r e).2), h3⟩)
    ?assign ?body ?done ?stop
  case assign =>
    rintro l pre x W K ⟨v, e1, e2, e3⟩ hK
    have hs := fitOf_size cs ms x
    have h1 := fitOf_one cs ms x
    obtain ⟨f, hf⟩ : ∃ f, fitOf cs ms x = f := ⟨_, rfl⟩
    rw [hf] at hs h1 hK ⊢
    have hst4 := store_new94 W f hs h1
    gi_wp2_with (first | refine wpListIn_alloc94 rfl rfl ?_)
    have hz := e3.size
    exact hK _ _ ((KeepsOthers.alloc _ _).from _) (keepsVars_ext (ext_alloc _ _) hz) ⟨v, e1.alloc _, e2.alloc _, e3.alloc hz _⟩ ⟨_, hz, row_last _ _ _ rfl, rfl⟩
  case body =>
    rintro l pre x a' W hl ⟨r, hr⟩ ⟨v, e1, e2, e3⟩ ⟨p, hp, hpr, rfl⟩ hlt
    have hs := fitOf_size cs ms x
    have c1 := e1.cell
    have f1 := e1.frozen
    have hz := e3.size
    obtain ⟨i94, hi, hz0, hz1, hz2⟩ := info_parts info94
    have hfe : fitOf cs ms x = fitCells x.1 x.2 (hadB cs ms x.1 x.2) := by unfold fitOf; rfl
    have h1 := fitOf_one cs ms x
    obtain ⟨f, hf⟩ : ∃ f, fitOf cs ms x = f := ⟨_, rfl⟩
    rw [hf] at hs hfe h1 hpr ⊢
    have oA := e2.alloc (.cells f 94)
    have ho1 : ∀ u ∈ f.toList, u.oneCell' = true := fun u hu => Array.all_eq_true_iff_forall_mem.1 h1 u (Array.mem_toList_iff.1 hu)
    have hln : f.toList.length = 1 * 14 := by rw [Array.length_toList, hs]
    have hcn := cells_new W f 94
    have hzz := Z94_size
    have HF := Lib.hid hf
    have HFE := Lib.hid hfe
    clear hf hfe
    gi_wp2_with (first | refine wpListIn_load94 (.tmp 5) rfl rfl p rfl _ hs hpr ?_ | refine wpListIn_build87 (.tmp 9) rfl rfl f x.1 x.2 (hadB cs ms x.1 x.2) HFE.out rfl ?_ | (refine wpListIn_append_own _ rfl (.tmp 8) (.tmp 10) 87 rfl w.heap.size 94 i94 (.agg Z94) 14 112 ?_ ?_ ?_ ?_ ?_ ?_ ?_ v pre.length (fitsCells cs ms pre) rfl ?_ ⟨W.heap.size, 0, none⟩ 1 1 f.toList rfl ?_ ?_ ?_ ?_ ?_ ?_ ?_; exact Try.underlying87; exact hi; exact hz0; exact hz1; exact hz2; exact hzz; decide; exact oA; exact hln; exact hcn; exact ho1; (unfold maxLen; omega); omega; (simp; omega); intro v' w4 hown' hg4 _; obtain ⟨u1, u2, u3, u4, u5⟩ := e1.appended (by decide) e2 hz (Nat.le_refl _) hown' hg4; have u6 := u1.cell; have u7 := u1.frozen; obtain ⟨g', cap', hv'⟩ := ownsRow_succ hown'; subst hv'))
    have ob := own_block oA
    have gS := grownBy_setCell' w4 w.heap.size (.slice (some ⟨g', 0, none⟩) (pre.length + 1) cap')
    refine ⟨u4.from _, ⟨u5, fun b cs' t hbr ht1 ht2 => ?_⟩, ⟨_, u2, ?_, e3.trans u5⟩⟩
    · have hbl := (Array.getElem?_eq_some_iff.1 hbr).1
      have h4 : w4.heap[b]? = some (.cells cs' t (0, 0)) := (hg4.block b (by simp; omega) (fun e => by
        obtain ⟨cs2, fr2, hc2⟩ := ob b e.symm
        rw [row_alloc _ _ _ _ hbr] at hc2
        simp only [Option.some.injEq, Obj.cells.injEq] at hc2
        exact ht1 hc2.2.1)).trans (row_alloc _ _ _ _ hbr)
      refine (gS.block b (Array.getElem?_eq_some_iff.1 h4).1 (fun e => ?_)).trans h4
      have e2 := Option.some.inj e
      subst e2
      have := (show w4.heap[w.heap.size]? = _ from u1).symm.trans h4
      simp only [Option.some.injEq, Obj.cells.injEq] at this
      exact ht2 this.2.1.symm
    · rw [List.length_append, fitsCells_snoc, HF.out]
      exact u3
  case done =>
    rintro D zs W hD rfl ⟨v, e1, e2, e3⟩ hK
    have c9 := e1.cell
    gi_wp2
    refine ⟨by simp, .inl ⟨_, _, rfl, run_takeDeferred hK, ?_⟩⟩
    have hg := grownBy_putObj' W D (.deferred none)
    have hr' : ∀ r, some D = some r → ∃ o : Obj, W.heap[r]? = some o ∧ o.isCells = false := fun r e => by cases e; exact ⟨_, hK, rfl⟩
    exact ⟨v, by simp [results, Try.f105, go_sem], v, rfl, e3.grown hg e3.size (fun r e => by cases e; omega), owns_row_kept e2 hg hr'⟩
  case stop =>
    rintro D c pre W _ _ h _
    exact h.elim
end
end Go.Proofs.Ytlaakmgdbhabfaa

/- opened: the sheet with its rows that fit. -/
namespace Go.Proofs.Ytlaakmgdbhabfaa
open Go.RowKit Go.Shelf
attribute [local go_sem] Oper.semAt_some
attribute [local irreducible] bitCells fitCells Z94 fitOf

section
variable {A : Option Addr} {n c : Nat} {A' : Option Addr} {n' c' : Nat} {cs ms : List (Int × Int)}
theorem owns_slice {W : World} {base : Nat} {e : TypeId} {size n : Nat} {v : Value} {xs : List Value} (h : W.ownsRow base e size v n xs) : ∃ A c, v = .slice A n c := by
  rcases h.2 with ⟨rfl, rfl⟩ | ⟨g, cap, _, rfl, _⟩
  · exact ⟨_, _, rfl⟩
  · exact ⟨_, _, rfl⟩

set_option maxHeartbeats 400000 in
theorem collect_any (P : Nat) (w : World) (h0 : sheetErr cs ms = 0) (hP : P < w.heap.size) (hrow : w.heap[P]? = some (.cells #[.slice A n c, .slice A' n' c'] 25 (0, 0))) (hb : IsSheet w w.heap.size A n c A' n' c' cs ms) :
    Calls Try.prog 84 #[.func (.func 106) #[] #[.pointer (some ⟨P, 0, none⟩)]] w fun e w' => ∃ v, e = .returned v ∧ Ext w w' ∧ w'.ownsRow w.heap.size 94 14 v (fitsOf cs ms).length (fitsCells cs ms (fitsOf cs ms)) := by
  have hc := appendSeq_any P w h0 hP hrow hb
  go_enter Try.func84, Try.ntmps84
  go_wp2_with fail
  refine hc.mono ?_
  rintro e w1 ⟨v, rfl, he, ho⟩
  obtain ⟨A2, c2, rfl⟩ := owns_slice ho
  go_wp2
  go_ret
  exact ⟨_, rfl, he, ho⟩

/-- What the operations of opened's last region yield. -/
def op4S (A : Option Addr) (n c : Nat) (A' : Option Addr) (n' c' : Nat) (cs ms : List (Int × Int)) (B : Nat) (i : Nat) (v : Value) (W : World) : Prop :=
  match i with
  | 0 => v = .agg #[.slice A n c, .slice A' n' c']
  | 1 => v = .agg #[.slice A n c, .slice A' n' c']
  | 2 => ∃ P, P < W.heap.size ∧ v = .func (.func 106) #[] #[.pointer (some ⟨P, 0, none⟩)] ∧ W.heap[P]? = some (.cells #[.slice A n c, .slice A' n' c'] 25 (0, 0))
  | 3 => W.ownsRow B 94 14 v (fitsOf cs ms).length (fitsCells cs ms (fitsOf cs ms))
  | 4 => ∃ A2 c2, v = .agg #[.slice A n c, .slice A' n' c', .slice A2 (fitsOf cs ms).length c2] ∧ W.ownsRow B 94 14 (.slice A2 (fitsOf cs ms).length c2) (fitsOf cs ms).length (fitsCells cs ms (fitsOf cs ms))
  | 5 => ∃ b A2 c2, v = .pointer (some ⟨b, 0, none⟩) ∧ W.heap[b]? = some (.cells #[.slice A n c, .slice A' n' c', .slice A2 (fitsOf cs ms).length c2] 98 (0, 0)) ∧ W.ownsRow B 94 14 (.slice A2 (fitsOf cs ms).length c2) (fitsOf cs ms).length (fitsCells cs ms (fitsOf cs ms))
  | 6 => ∃ b A2 c2, v = .pointer (some ⟨b, 0, none⟩) ∧ W.heap[b]? = some (.cells #[.slice A n c, .slice A' n' c', .slice A2 (fitsOf cs ms).length c2] 98 (0, 0)) ∧ W.ownsRow B 94 14 (.slice A2 (fitsOf cs ms).length c2) (fitsOf cs ms).length (fitsCells cs ms (fitsOf cs ms))
  | _ => v = .int .i64 0
theorem op4S_ext {B i : Nat} {v : Value} {W W' : World} (h : op4S A n c A' n' c' cs ms B i v W) (e : Ext W W') : op4S A n c A' n' c' cs ms B i v W' := by
  match i, h with
  | 0, h => exact h
  | 1, h => exact h
  | 2, h =>
    obtain ⟨P, h1, h2, h3⟩ := h
    exact ⟨P, Nat.lt_of_lt_of_le h1 e.size, h2, row_ext h3 e⟩
  | 3, h => exact owns_ext h e
  | 4, h =>
    obtain ⟨A2, c2, h1, h2⟩ := h
    exact ⟨A2, c2, h1, owns_ext h2 e⟩
  | 5, h =>
    obtain ⟨b, A2, c2, h1, h2, h3⟩ := h
    exact ⟨b, A2, c2, h1, row_ext h2 e, owns_ext h3 e⟩
  | 6, h =>
    obtain ⟨b, A2, c2, h1, h2, h3⟩ := h
    exact ⟨b, A2, c2, h1, row_ext h2 e, owns_ext h3 e⟩
  | _ + 7, h => exact h
def op4D (i : Nat) : Tmp := if i = 0 then 10 else if i = 1 then 11 else if i = 2 then 12 else if i = 3 then 13 else if i = 4 then 14 else if i = 5 then 15 else if i = 6 then 2 else 3
noncomputable def op4Reg : Array Oper := (Try.f53.body.bind (regionOf · 4)).getD #[]
section
variable {Q : Exit → Act → World → Prop} {a : Act} {V W : World} {o : Oper} {p B : Nat}
def op4Ok (A : Option Addr) (n c : Nat) (A' : Option Addr) (n' c' : Nat) (cs ms : List (Int × Int)) (B : Nat) (Q : Exit → Act → World → Prop) (a : Act) (W : World) (i : Nat) (o : Oper) : Prop :=
  (∀ j b, o.guard = some (j, b) → a.eval (.tmp (op4D j)) = .bool b) ∧ o.wp Try.prog a W (fun a'' W' => ∃ v, a'' = a.put o.dst v ∧ op4S A n c A' n' c' cs ms B i v W' ∧ Below W.heap.size W W') Q
theorem op4_op0 (o1 : a.eval (.tmp 1) = .pointer (some ⟨p, 0, none⟩)) (hS : SheetAt V p A n c A' n' c' cs ms) (hB : Ext V W) (ho : op4Reg[0]? = some o) : op4Ok A n c A' n' c' cs ms B Q a W 0 o := by
  have hop := op_at ho (·.op) (x := Op.load 25 (Operand.tmp 1)) (by kernel_rfl)
  have hgd := op_at ho (·.guard) (x := none) (by kernel_rfl)
  refine ⟨fun j b h => (by rw [hgd] at h; cases h), ?_⟩
  obtain ⟨q0, q1⟩ := (hS.ext hB).cells
  exact specs_value (R := fun v W => op4S A n c A' n' c' cs ms B 0 v W) (v := .agg #[.slice A n c, .slice A' n' c']) (by simp [execOp, hop, go_sem, ev o1, q0, q1]) rfl (Ext.refl W)
theorem op4_op1 (o1 : a.eval (.tmp 1) = .pointer (some ⟨p, 0, none⟩)) (hS : SheetAt V p A n c A' n' c' cs ms) (hB : Ext V W) (ho : op4Reg[1]? = some o) : op4Ok A n c A' n' c' cs ms B Q a W 1 o := by
  have hop := op_at ho (·.op) (x := Op.load 25 (Operand.tmp 1)) (by kernel_rfl)
  have hgd := op_at ho (·.guard) (x := none) (by kernel_rfl)
  refine ⟨fun j b h => (by rw [hgd] at h; cases h), ?_⟩
  obtain ⟨q0, q1⟩ := (hS.ext hB).cells
  exact specs_value (R := fun v W => op4S A n c A' n' c' cs ms B 1 v W) (v := .agg #[.slice A n c, .slice A' n' c']) (by simp [execOp, hop, go_sem, ev o1, q0, q1]) rfl (Ext.refl W)
theorem op4_op2 (haft : ∀ j, (o.after.any fun e => decide (e.on = j) && Region.binds .any e) = true → op4S A n c A' n' c' cs ms B j (a.eval (.tmp (op4D j))) W) (ho : op4Reg[2]? = some o) : op4Ok A n c A' n' c' cs ms B Q a W 2 o := by
  have hop := op_at ho (·.op) (x := Op.call { callee := Callee.value (Operand.func 85), args := #[Operand.tmp 11], argTypes := #[25] }) (by kernel_rfl)
  have hgd := op_at ho (·.guard) (x := none) (by kernel_rfl)
  have e1 : a.eval (.tmp 11) = .agg #[.slice A n c, .slice A' n' c'] := haft 1 (op_at ho (fun o => o.after.any fun e => decide (e.on = 1) && Region.binds .any e) (x := true) (by kernel_rfl))
  refine ⟨fun j b h => (by rw [hgd] at h; cases h), ?_⟩
  exact specs_call (R := fun v W => op4S A n c A' n' c' cs ms B 2 v W) (f := 85) (args := #[.agg #[.slice A n c, .slice A' n' c']]) (by simp [execOp, hop, go_sem, ev e1]) ((rows_any A n c A' n' c' W).mono fun e w' h => by
    obtain ⟨rfl, rfl⟩ := h
    exact ⟨_, rfl, ⟨_, by simp, rfl, row_last _ _ _ rfl⟩, ext_alloc _ _⟩)
theorem op4_op3 (h0 : sheetErr cs ms = 0) (hS : SheetAt V p A n c A' n' c' cs ms) (hB : Ext V W) (hBB : B ≤ W.heap.size) (haft : ∀ j, (o.after.any fun e => decide (e.on = j) && Region.binds .any e) = true → op4S A n c A' n' c' cs ms B j (a.eval (.tmp (op4D j))) W) (ho : op4Reg[3]? = some o) : op4Ok A n c A' n' c' cs ms B Q a W 3 o := by
  have hop := op_at ho (·.op) (x := Op.call { callee := Callee.value (Operand.func 84), args := #[Operand.tmp 12], argTypes := #[128] }) (by kernel_rfl)
  have hgd := op_at ho (·.guard) (x := none) (by kernel_rfl)
  obtain ⟨P, hP, e2, hr⟩ : op4S A n c A' n' c' cs ms B 2 (a.eval (.tmp 12)) W := haft 2 (op_at ho (fun o => o.after.any fun e => decide (e.on = 2) && Region.binds .any e) (x := true) (by kernel_rfl))
  refine ⟨fun j b h => (by rw [hgd] at h; cases h), ?_⟩
  exact specs_call (R := fun v W => op4S A n c A' n' c' cs ms B 3 v W) (f := 84) (args := #[.func (.func 106) #[] #[.pointer (some ⟨P, 0, none⟩)]]) (by simp [execOp, hop, go_sem, ev e2]) ((collect_any P W h0 hP hr (hS.ext hB).sheet).mono fun e w' h => by
    obtain ⟨v, rfl, he, hv⟩ := h
    exact ⟨_, rfl, owns_mono hv hBB, he⟩)
theorem op4_op4 (haft : ∀ j, (o.after.any fun e => decide (e.on = j) && Region.binds .any e) = true → op4S A n c A' n' c' cs ms B j (a.eval (.tmp (op4D j))) W) (ho : op4Reg[4]? = some o) : op4Ok A n c A' n' c' cs ms B Q a W 4 o := by
  have hop := op_at ho (·.op) (x := Op.build 98 #[(0, Operand.tmp 10), (1, Operand.tmp 13)]) (by kernel_rfl)
  have hgd := op_at ho (·.guard) (x := none) (by kernel_rfl)
  have e0 : a.eval (.tmp 10) = .agg #[.slice A n c, .slice A' n' c'] := haft 0 (op_at ho (fun o => o.after.any fun e => decide (e.on = 0) && Region.binds .any e) (x := true) (by kernel_rfl))
  have e3 : W.ownsRow B 94 14 (a.eval (.tmp 13)) (fitsOf cs ms).length (fitsCells cs ms (fitsOf cs ms)) := haft 3 (op_at ho (fun o => o.after.any fun e => decide (e.on = 3) && Region.binds .any e) (x := true) (by kernel_rfl))
  obtain ⟨A2, c2, hs⟩ := owns_slice e3
  rw [hs] at e3
  refine ⟨fun j b h => (by rw [hgd] at h; cases h), ?_⟩
  exact specs_value (R := fun v W => op4S A n c A' n' c' cs ms B 4 v W) (v := .agg #[.slice A n c, .slice A' n' c', .slice A2 (fitsOf cs ms).length c2]) (by simp [execOp, hop, go_sem, ev e0, ev hs]) ⟨_, _, rfl, e3⟩ (Ext.refl W)
theorem op4_op5 (haft : ∀ j, (o.after.any fun e => decide (e.on = j) && Region.binds .any e) = true → op4S A n c A' n' c' cs ms B j (a.eval (.tmp (op4D j))) W) (ho : op4Reg[5]? = some o) : op4Ok A n c A' n' c' cs ms B Q a W 5 o := by
  have hop := op_at ho (·.op) (x := Op.box 98 (Operand.tmp 14)) (by kernel_rfl)
  have hgd := op_at ho (·.guard) (x := none) (by kernel_rfl)
  obtain ⟨A2, c2, e4, hr⟩ : op4S A n c A' n' c' cs ms B 4 (a.eval (.tmp 14)) W := haft 4 (op_at ho (fun o => o.after.any fun e => decide (e.on = 4) && Region.binds .any e) (x := true) (by kernel_rfl))
  refine ⟨fun j b h => (by rw [hgd] at h; cases h), ?_⟩
  exact specs_value (R := fun v W => op4S A n c A' n' c' cs ms B 5 v W) (v := .pointer (some ⟨W.heap.size, 0, none⟩)) (W' := W.alloc (.cells #[.slice A n c, .slice A' n' c', .slice A2 (fitsOf cs ms).length c2] 98)) (by simp [execOp, hop, go_sem, ev e4]) ⟨_, _, _, rfl, row_last _ _ _ rfl, owns_ext hr (ext_alloc _ _)⟩ (ext_alloc _ _)
theorem op4_op6 (haft : ∀ j, (o.after.any fun e => decide (e.on = j) && Region.binds .any e) = true → op4S A n c A' n' c' cs ms B j (a.eval (.tmp (op4D j))) W) (ho : op4Reg[6]? = some o) : op4Ok A n c A' n' c' cs ms B Q a W 6 o := by
  have hop := op_at ho (·.op) (x := Op.assign (Operand.tmp 15)) (by kernel_rfl)
  have hgd := op_at ho (·.guard) (x := none) (by kernel_rfl)
  obtain ⟨b, A2, c2, e5, hr⟩ : op4S A n c A' n' c' cs ms B 5 (a.eval (.tmp 15)) W := haft 5 (op_at ho (fun o => o.after.any fun e => decide (e.on = 5) && Region.binds .any e) (x := true) (by kernel_rfl))
  refine ⟨fun j b h => (by rw [hgd] at h; cases h), ?_⟩
  exact specs_value (R := fun v W => op4S A n c A' n' c' cs ms B 6 v W) (v := .pointer (some ⟨b, 0, none⟩)) (by simp [execOp, hop, go_sem, ev e5]) ⟨_, _, _, rfl, hr⟩ (Ext.refl W)
theorem op4_op7 (ho : op4Reg[7]? = some o) : op4Ok A n c A' n' c' cs ms B Q a W 7 o := by
  have hop := op_at ho (·.op) (x := Op.assign (Operand.const (Value.int IntKind.i64 0))) (by kernel_rfl)
  have hgd := op_at ho (·.guard) (x := none) (by kernel_rfl)
  refine ⟨fun j b h => (by rw [hgd] at h; cases h), ?_⟩
  exact specs_value (R := fun v W => op4S A n c A' n' c' cs ms B 7 v W) (v := .int .i64 0) (by simp [execOp, hop, go_sem]) rfl (Ext.refl W)

set_option maxRecDepth 100000 in
set_option maxHeartbeats 4000000 in
theorem op4_wp {id : Nat} (hlen : a.tmps.size = 16) (h0 : sheetErr cs ms = 0) (o1 : a.eval (.tmp 1) = .pointer (some ⟨p, 0, none⟩)) (hS0 : SheetAt V p A n c A' n' c' cs ms) (hBB : B ≤ V.heap.size)
    (K : ∀ (W : World) (v10 v11 v12 v13 v14 v15 : Value) (b : Nat) (A2 : Option Addr) (c2 : Nat), Ext V W → W.heap[b]? = some (.cells #[.slice A n c, .slice A' n' c', .slice A2 (fitsOf cs ms).length c2] 98 (0, 0)) → W.ownsRow B 94 14 (.slice A2 (fitsOf cs ms).length c2) (fitsOf cs ms).length (fitsCells cs ms (fitsOf cs ms)) →
      Q .normal (puts a [(10, v10), (11, v11), (12, v12), (13, v13), (14, v14), (15, v15), (2, .pointer (some ⟨b, 0, none⟩)), (3, .int .i64 0)]) W) : (Code.region id op4Reg true).wp Try.prog Q a V := by
  refine wp_region_specs_free (ops := op4Reg) 8 (op4S A n c A' n' c' cs ms B) (Ext V) (by kernel_rfl) (by rw [hlen]; kernel_rfl) (by kernel_rfl) ⟨rfl, rfl, rfl, Nat.le_refl _, fun _ _ => rfl⟩ (fun _ _ h e => h.trans e) (fun _ _ _ _ h e => op4S_ext h e) op4D (by kernel_rfl) ?_ ?_
  · intro i o hi ho a' W hB hsz hold haft
    have o1' := (hold 1 (by kernel_rfl)).trans o1
    have hBW : B ≤ W.heap.size := Nat.le_trans hBB hB.size
    match i, hi with
    | 0, _ => exact op4_op0 o1' hS0 hB ho
    | 1, _ => exact op4_op1 o1' hS0 hB ho
    | 2, _ => exact op4_op2 haft ho
    | 3, _ => exact op4_op3 h0 hS0 hB hBW haft ho
    | 4, _ => exact op4_op4 haft ho
    | 5, _ => exact op4_op5 haft ho
    | 6, _ => exact op4_op6 haft ho
    | 7, _ => exact op4_op7 ho
    | m + 8, h => exact absurd h (by omega)
  · intro a1 W hB hsz hdf hold hS
    obtain ⟨b, A2, c2, e6, hr, ho⟩ := hS 6 (by omega)
    have e7 := hS 7 (by omega)
    have hall : ∀ z, z ∈ ([(10, a1.eval (.tmp 10)), (11, a1.eval (.tmp 11)), (12, a1.eval (.tmp 12)), (13, a1.eval (.tmp 13)), (14, a1.eval (.tmp 14)), (15, a1.eval (.tmp 15)), (2, .pointer (some ⟨b, 0, none⟩)), (3, .int .i64 0)] : List (Tmp × Value)) → z.1 < a.tmps.size ∧ a1.eval (.tmp z.1) = z.2 := by
      intro z hz
      rw [hlen]
      simp only [List.mem_cons, List.not_mem_nil, or_false] at hz
      rcases hz with rfl | rfl | rfl | rfl | rfl | rfl | rfl | rfl
      · exact ⟨(show (10 : Nat) < 16 by omega), rfl⟩
      · exact ⟨(show (11 : Nat) < 16 by omega), rfl⟩
      · exact ⟨(show (12 : Nat) < 16 by omega), rfl⟩
      · exact ⟨(show (13 : Nat) < 16 by omega), rfl⟩
      · exact ⟨(show (14 : Nat) < 16 by omega), rfl⟩
      · exact ⟨(show (15 : Nat) < 16 by omega), rfl⟩
      · exact ⟨(show (2 : Nat) < 16 by omega), e6⟩
      · exact ⟨(show (3 : Nat) < 16 by omega), e7⟩
    have ha := act_puts hsz hdf hall (fun t ht => hold t (all_ne_of (l := [(10, a1.eval (.tmp 10)), (11, a1.eval (.tmp 11)), (12, a1.eval (.tmp 12)), (13, a1.eval (.tmp 13)), (14, a1.eval (.tmp 14)), (15, a1.eval (.tmp 15)), (2, .pointer (some ⟨b, 0, none⟩)), (3, .int .i64 0)]) (by rfl) ht))
    have he : op4Reg.toList.drop 8 = [] := List.drop_eq_nil_of_le (by rw [Array.length_toList]; exact Nat.le_of_eq (by kernel_rfl))
    rw [he, ha]
    exact K W _ _ _ _ _ _ b A2 c2 hB hr ho
end
end

/-- A row that fits in memory. -/
def encF (cs ms : List (Int × Int)) (x : Nat × Int) : List Value := (fitOf cs ms x).toList
theorem encF_len (cs ms : List (Int × Int)) (x : Nat × Int) : (encF cs ms x).length = 14 := by
  unfold encF
  rw [Array.length_toList, fitOf_size]
/-- A variable that holds a sheet that was opened. -/
structure IsOpen (W : World) (b : Nat) (A : Option Addr) (n c : Nat) (A' : Option Addr) (n' c' : Nat) (A2 : Option Addr) (k c2 : Nat) (cs ms : List (Int × Int)) : Prop where
  row : W.heap[b]? = some (.cells #[.slice A n c, .slice A' n' c', .slice A2 k c2] 98 (0, 0))
  sheet : IsSheet W W.heap.size A n c A' n' c' cs ms
  fits : Held W W.heap.size 14 (encF cs ms) A2 (fitsOf cs ms)
  len : k = (fitsOf cs ms).length
  cap : k ≤ c2
section
variable {W W' : World} {b : Nat} {A : Option Addr} {n c : Nat} {A' : Option Addr} {n' c' : Nat} {A2 : Option Addr} {k c2 : Nat} {cs ms : List (Int × Int)}
theorem IsOpen.ext (h : IsOpen W b A n c A' n' c' A2 k c2 cs ms) (e : Ext W W') : IsOpen W' b A n c A' n' c' A2 k c2 cs ms :=
  ⟨row_ext h.row e, h.sheet.ext e, (h.fits.kept e (Nat.le_refl _)).wider e.size, h.len, h.cap⟩
theorem IsOpen.cells (h : IsOpen W b A n c A' n' c' A2 k c2 cs ms) : W.cell? ⟨b, 0, none⟩ = some (.slice A n c) ∧ W.cell? ⟨b, 1, none⟩ = some (.slice A' n' c') ∧ W.cell? ⟨b, 2, none⟩ = some (.slice A2 k c2) :=
  ⟨cell_of_row _ _ _ _ _ _ h.row, cell_of_row _ _ _ _ _ _ h.row, cell_of_row _ _ _ _ _ _ h.row⟩
end

set_option maxRecDepth 100000 in
set_option maxHeartbeats 1000000 in
theorem opened_any {A : Option Addr} {n c : Nat} {A' : Option Addr} {n' c' : Nat} {cs ms : List (Int × Int)} {w : World} (hb : IsSheet w w.heap.size A n c A' n' c' cs ms) :
    Calls Try.prog 53 #[.agg #[.slice A n c, .slice A' n' c']] w fun e w' => Ext w w' ∧ ((sheetErr cs ms ≠ 0 ∧ e = .returned (.tuple #[.pointer none, .int .i64 (sheetErr cs ms)])) ∨
      (sheetErr cs ms = 0 ∧ ∃ b A2 k c2, e = .returned (.tuple #[.pointer (some ⟨b, 0, none⟩), .int .i64 0]) ∧ IsOpen w' b A n c A' n' c' A2 k c2 cs ms)) := by
  have hX0 := SheetAt.new hb
  have hE0 : Ext w (w.alloc (.cells #[.slice A n c, .slice A' n' c'] 25)) := ext_alloc w _
  have HN := Lib.hid hb
  have hck := fun (W : World) (h : IsSheet W W.heap.size A n c A' n' c' cs ms) => checkSheet_any h
  have HCK := Lib.hid hck
  clear hck hb
  go_enter Try.func53, Try.ntmps53
  go_upto_region 1 with fail
  obtain ⟨w0, hw0⟩ : ∃ w0, w.alloc (.cells #[.slice A n c, .slice A' n' c'] 25) = w0 := ⟨_, rfl⟩
  rw [hw0] at hX0 hE0 ⊢
  obtain ⟨p, hp⟩ : ∃ p, w.heap.size = p := ⟨_, rfl⟩
  have HE0 := Lib.hid hE0
  rw [hp] at hX0 ⊢
  have HP := Lib.hid hp
  clear hw0 hE0 hp
  obtain ⟨q0, q1⟩ := hX0.cells
  go_wp2_with fail
  refine (HCK.out _ hX0.sheet).mono ?_
  rintro e w1 ⟨rfl, e1⟩
  have hX1 := hX0.ext e1
  have HE1 := Lib.hid (HE0.out.trans e1)
  clear e1 q0 q1 hX0 HE0
  by_cases h0 : sheetErr cs ms = 0
  · have H0 := Lib.hid h0
    rw [h0]
    clear h0
    go_upto_region 4 with fail
    refine op4_wp (B := w1.heap.size) rfl H0.out rfl hX1 (Nat.le_refl _) ?_
    intro w2 v10 v11 v12 v13 v14 v15 b A2 c2 e2 hr ho
    have hX2 := hX1.ext e2
    obtain ⟨hh, hc⟩ := own_held (encF_len cs ms) rfl (show w2.ownsRow w1.heap.size 94 14 (.slice A2 (fitsOf cs ms).length c2) (fitsOf cs ms).length ((fitsOf cs ms).flatMap (encF cs ms)) from ho)
    have hO : IsOpen w2 b A n c A' n' c' A2 (fitsOf cs ms).length c2 cs ms := ⟨hr, hX2.sheet, hh, rfl, hc⟩
    have HE2 := Lib.hid (HE1.out.trans e2)
    have HO := Lib.hid hO
    clear hO hh hc hr ho e2 hX1 hX2
    simp only [Exit.then, puts, List.foldl_cons, List.foldl_nil, Act.put, List.setIfInBounds_toArray, List.set_cons_succ, List.set_cons_zero]
    go_at_K
    go_wp2
    go_ret2
    exact ⟨HE2.out, .inr ⟨H0.out, _, _, _, _, rfl, HO.out⟩⟩
  · obtain ⟨r, hr⟩ : ∃ r, sheetErr cs ms = r := ⟨_, rfl⟩
    rw [hr] at h0
    rw [hr]
    have hne : (r == 0) = false := by simpa using h0
    have hne2 : (r != 0) = true := by simpa using h0
    go_wp2
    go_ret2
    exact ⟨HE1.out, .inl ⟨by rw [hr]; exact h0, by rw [hr]; rfl⟩⟩
end Go.Proofs.Ytlaakmgdbhabfaa

/- areCombs, has, and the first row that fits of which something holds. -/
namespace Go.Proofs.Ytlaakmgdbhabfaa
open Go.RowKit Go.Shelf
attribute [local irreducible] bitCells fitCells Z94 fitOf

/-- A row whose comb is none of n. -/
def strange (n : Nat) (x : Int × Int) : Bool := decide (x.1 < 0) || decide ((n : Int) ≤ x.1)

set_option maxRecDepth 100000 in
set_option maxHeartbeats 1000000 in
theorem strangeRow (Q b : Nat) (A : Option Addr) (n c : Nat) (xs : List (Int × Int)) (w : World) (hQ : Q < w.heap.size) (hb : b < w.heap.size) (hQc : w.cell? ⟨Q, 0, none⟩ = some (.pointer (some ⟨b, 0, none⟩))) (hbc : w.cell? ⟨b, 0, none⟩ = some (.slice A n c)) :
    PredOn 86 #[.pointer (some ⟨Q, 0, none⟩)] (fun x => .agg (encS x).toArray) (strange n) xs w := fun W x hx hbw => by
  have q0 : (W.alloc (.cells #[.int .i64 x.1, .int .i64 x.2] 27)).cell? ⟨Q, 0, none⟩ = some (.pointer (some ⟨b, 0, none⟩)) := ((hbw.trans ((ext_alloc W _).mono hbw.size)).cell (p := ⟨Q, 0, none⟩) hQ).trans hQc
  have q1 : (W.alloc (.cells #[.int .i64 x.1, .int .i64 x.2] 27)).cell? ⟨b, 0, none⟩ = some (.slice A n c) := ((hbw.trans ((ext_alloc W _).mono hbw.size)).cell (p := ⟨b, 0, none⟩) hb).trans hbc
  show Calls Try.prog 86 #[.agg #[.int .i64 x.1, .int .i64 x.2], .pointer (some ⟨Q, 0, none⟩)] W fun e w' => e = .returned (.bool (strange n x)) ∧ Below W.heap.size W w'
  obtain ⟨x1, x2⟩ := x
  simp only at q0 q1 ⊢
  clear hQc hbc hx
  have hq2 : (W.alloc (.cells #[.int .i64 x1, .int .i64 x2] 27)).heap[W.heap.size]? = some (.cells #[.int .i64 x1, .int .i64 x2] 27 (0, 0)) := row_last _ _ _ rfl
  have hE : Ext W (W.alloc (.cells #[.int .i64 x1, .int .i64 x2] 27)) := ext_alloc _ _
  have HE := Lib.hid hE
  by_cases h1 : x1 < 0
  · have hs : strange n (x1, x2) = true := by simp [strange, h1]
    rw [hs]
    go_enter Try.func86, Try.ntmps86
    go_upto_region 1 with fail
    obtain ⟨w0, hw0⟩ : ∃ w0, W.alloc (.cells #[.int .i64 x1, .int .i64 x2] 27) = w0 := ⟨_, rfl⟩
    rw [hw0] at q0 q1 hq2 HE ⊢
    obtain ⟨p, hp⟩ : ∃ p, W.heap.size = p := ⟨_, rfl⟩
    have HP := Lib.hid hp
    rw [hp] at hq2 ⊢
    have q2 : w0.cell? ⟨p, 0, none⟩ = some (.int .i64 x1) := cell_of_row _ _ _ _ _ _ hq2
    clear hw0 hp hbw hE hq2
    go_quiet (fail)
    go_wp2
    go_ret
    exact ⟨rfl, bdrewN HE.out _⟩
  · by_cases h2 : (n : Int) ≤ x1
    · have hs : strange n (x1, x2) = true := by simp [strange, h2]
      rw [hs]
      go_enter Try.func86, Try.ntmps86
      go_upto_region 1 with fail
      obtain ⟨w0, hw0⟩ : ∃ w0, W.alloc (.cells #[.int .i64 x1, .int .i64 x2] 27) = w0 := ⟨_, rfl⟩
      rw [hw0] at q0 q1 hq2 HE ⊢
      obtain ⟨p, hp⟩ : ∃ p, W.heap.size = p := ⟨_, rfl⟩
      have HP := Lib.hid hp
      rw [hp] at hq2 ⊢
      have q2 : w0.cell? ⟨p, 0, none⟩ = some (.int .i64 x1) := cell_of_row _ _ _ _ _ _ hq2
      clear hw0 hp hbw hE hq2
      go_quiet (fail)
      go_wp2
      go_ret
      exact ⟨rfl, bdrewN HE.out _⟩
    · have hs : strange n (x1, x2) = false := by simp [strange, h1, h2]
      rw [hs]
      go_enter Try.func86, Try.ntmps86
      go_upto_region 1 with fail
      obtain ⟨w0, hw0⟩ : ∃ w0, W.alloc (.cells #[.int .i64 x1, .int .i64 x2] 27) = w0 := ⟨_, rfl⟩
      rw [hw0] at q0 q1 hq2 HE ⊢
      obtain ⟨p, hp⟩ : ∃ p, W.heap.size = p := ⟨_, rfl⟩
      have HP := Lib.hid hp
      rw [hp] at hq2 ⊢
      have q2 : w0.cell? ⟨p, 0, none⟩ = some (.int .i64 x1) := cell_of_row _ _ _ _ _ _ hq2
      clear hw0 hp hbw hE hq2
      go_quiet (fail)
      go_wp2
      go_ret
      exact ⟨rfl, bdrewN HE.out _⟩

set_option maxHeartbeats 1000000 in
theorem areCombs_any {w : World} {b : Nat} {A : Option Addr} {n c : Nat} {A' : Option Addr} {n' c' : Nat} {A2 : Option Addr} {k c2 : Nat} {cs ms : List (Int × Int)} (hO : IsOpen w b A n c A' n' c' A2 k c2 cs ms)
    (A3 : Option Addr) (m c3 : Nat) (xs : List (Int × Int)) (hm : m = xs.length) (hm9 : m ≤ 9223372036854775807) (hh : Held w w.heap.size 2 encS A3 xs) :
    Calls Try.prog 54 #[.pointer (some ⟨b, 0, none⟩), .slice A3 m c3] w fun e w' => e = .returned (.bool (xs.all fun x => !strange n x)) ∧ Ext w w' := by
  have hbl := (Array.getElem?_eq_some_iff.1 hO.row).1
  have e0 : Ext w (w.alloc (.cells #[.pointer (some ⟨b, 0, none⟩)] 83)) := ext_alloc _ _
  have e86 : ∀ args w, (callFunc 86 args).run Try.prog w = .ok (.enter 86 args) w := enters_of Try.func86 (by kernel_rfl) rfl
  have hp := strangeRow w.heap.size b A n c xs (w.alloc (.cells #[.pointer (some ⟨b, 0, none⟩)] 83)) (by simp) (by simp; omega) (cell_of_row _ _ _ _ _ _ (row_last _ _ _ rfl)) (cell_of_row _ _ _ _ _ _ (row_ext hO.row e0))
  have hf := firstRow 86 _ e86 (strange n) A3 m c3 xs _ hm hm9 ((hh.kept e0 (Nat.le_refl _)).wider e0.size) hp
  have hall : ((xs.findIdx (strange n) : Int) == (m : Int)) = xs.all fun x => !strange n x := by
    rw [hm, ← all_of_findIdx]
    simp
  obtain ⟨r, hr⟩ : ∃ r, xs.findIdx (strange n) = r := ⟨_, rfl⟩
  rw [hr] at hf hall
  rw [← hall]
  have HE := Lib.hid e0
  clear hr hall hh hp hO hm
  go_enter Try.func54, Try.ntmps54
  go_wp2_with fail
  refine hf.mono ?_
  rintro e w1 ⟨rfl, hb1⟩
  go_wp2
  go_ret
  exact ⟨rfl, HE.out.trans hb1⟩
end Go.Proofs.Ytlaakmgdbhabfaa

/- first of the rows that fit. -/
namespace Go.Proofs.Ytlaakmgdbhabfaa
open Go.RowKit Go.Shelf
attribute [local irreducible] bitCells fitCells Z94 fitOf

section
variable {ops : Array Oper} {rest : List Oper} {o : Oper} {a : Act} {w : World} {Q : Exit → Act → World → Prop}
theorem run_load94 (w : World) (ad : Addr) (f : Array Value) (hs : f.size = 14) (hc : ∀ j u, f.toList[j]? = some u → w.cell? (ad.add j) = some u) : (loadVar 94 ad).run Try.prog w = .ok (.agg f) w := by
  have hl : (loadCells ad f.toList.length).run Try.prog w = .ok f.toList.toArray w := run_loadCells_list (P := Try.prog) w ad f.toList hc
  obtain ⟨i, hi, hz⟩ := Option.map_eq_some_iff.1 size94
  have hagg : (isAgg 94).run Try.prog w = .ok true w := Try.isAgg94 w
  simp only [Array.length_toList, Array.toArray_toList] at hl
  rw [hs] at hl
  simp [loadVar, Sem.run_bind, hagg, sizeOf, typeInfo, hi, hz, hl]
theorem wpList_load94 (x : Operand) (hgd : o.guard = none) (ho : o.op = .load 94 x) (ad : Addr) (hx : a.eval x = .pointer (some ad)) (f : Array Value) (hs : f.size = 14) (hc : ∀ j u, f.toList[j]? = some u → w.cell? (ad.add j) = some u)
    (h : wpList Try.prog ops Q rest (a.put o.dst (.agg f)) w) : wpList Try.prog ops Q (o :: rest) a w := by
  refine wpList_plain hgd fun K hK => ?_
  unfold Oper.wp execOp
  simp only [ho, hx, Instr.loadAt, Instr.sureAddr, Sem.run_bind, Sem.run_pure, Result.andThen_ok, run_load94 w ad f hs hc]
  exact hK _ _ h
theorem wpList_alloc94 (hg : o.guard = none) (ho : o.op = .alloc 94) (h : wpList Try.prog ops Q rest (a.put o.dst (.pointer (some ⟨w.heap.size, 0, none⟩))) (w.alloc (.cells Z94 94))) : wpList Try.prog ops Q (o :: rest) a w := by
  refine wpList_plain hg fun K hK => ?_
  unfold Oper.wp execOp
  simp only [ho]
  have hz := zero94 w
  have hn : (newVar 94 (.agg Z94)).run Try.prog w = .ok ⟨w.heap.size, 0, none⟩ (w.alloc (.cells Z94 94)) := by
    go_simp
  simp [Instr.alloc, hz, hn]
  exact hK _ _ h
end
theorem cells_held {w : World} {B : Nat} {cs ms : List (Int × Int)} {A : Option Addr} {xs : List (Nat × Int)} (h : Held w B 14 (encF cs ms) A xs) {k : Nat} {x : Nat × Int} (hk : xs[k]? = some x) :
    ∃ b off, A = some ⟨b, off, none⟩ ∧ b < B ∧ ∀ j u, (fitOf cs ms x).toList[j]? = some u → w.cell? ((⟨b, off + k * 14, none⟩ : Addr).add j) = some u := by
  rcases h with h | ⟨b, off, rfl, hlt, hc⟩
  · simp [h] at hk
  · refine ⟨b, off, rfl, hlt, fun j u hj => ?_⟩
    have hadd : (⟨b, off + k * 14, none⟩ : Addr).add j = ⟨b, off + k * 14 + j, none⟩ := by unfold Addr.add; split <;> simp_all
    rw [hadd]
    exact hc k x hk j u hj

set_option maxRecDepth 100000 in
set_option maxHeartbeats 1000000 in
theorem firstFit (g : Nat) (lb : Array Value) (eg : ∀ args w, (callFunc g args).run Try.prog w = .ok (.enter g args) w) (p : Nat × Int → Bool) (A : Option Addr) (n c : Nat) (cs ms : List (Int × Int)) (xs : List (Nat × Int)) (w : World) (hnn : n = xs.length)
    (hn : n ≤ 9223372036854775807) (hh : Held w w.heap.size 14 (encF cs ms) A xs) (hp : PredOn g lb (fun x => .agg (fitOf cs ms x)) p xs w) :
    Calls Try.prog 88 #[.slice A n c, .func (.func g) #[] lb] w fun e w' => e = .returned (.int .i64 (xs.findIdx p)) ∧ Below w.heap.size w w' := by
  have HN := Lib.hid hnn; clear hnn
  go_enter Try.func88, Try.ntmps88
  go_wp2
  go_loopw [5, 6, 9] (fun _ _ i wr => ∃ k : Nat, k ≤ n ∧ i = .int .i64 k ∧ Hid (Below w.heap.size w wr) ∧ Hid (∀ j (hj : j < k) (hl : j < xs.length), p xs[j] = false)) (fun _ _ i _ => n - (intOf i).toNat)
  case atStart => exact ⟨0, Nat.zero_le _, rfl, Lib.hid (Below.refl _ _), Lib.hid (fun j hj => absurd hj (Nat.not_lt_zero _))⟩
  case round =>
    obtain ⟨k, hk, rfl, hB, hA⟩ := hrel
    by_cases hlt : k < n
    · have hltz : (k : Int) < (n : Int) := by omega
      have hkl : k < xs.length := by rw [← HN.out]; exact hlt
      obtain ⟨x, hx⟩ : ∃ x, x = xs[k] := ⟨_, rfl⟩
      obtain ⟨b, off, rfl, hbl, hcell⟩ := cells_held ((hh.kept hB.out (Nat.le_refl _)).wider hB.out.size) (k := k) (x := x) (by rw [hx]; exact List.getElem?_eq_getElem hkl)
      have hcall := hp (wr.alloc (.cells (fitOf cs ms x) 94)) x (by rw [hx]; exact List.getElem_mem hkl) (hB.out.alloc hB.out.size _)
      dsimp only at hcall
      have hs := fitOf_size cs ms x
      have h1 := fitOf_one cs ms x
      obtain ⟨f, hf⟩ : ∃ f, fitOf cs ms x = f := ⟨_, rfl⟩
      rw [hf] at hcell hcall hs h1
      have hst4 := store_new94 wr f hs h1
      have hcn := cells_new wr f 94
      clear hf
      have HX := Lib.hid hx; clear hx
      clear hp hh
      cases hq : p x with
      | true =>
        rw [hq] at hcall
        go_wp2_with (first | refine wpList_alloc94 rfl rfl ?_ | refine wpList_load94 (.tmp 12) rfl rfl _ rfl f hs hcell ?_ | refine wpList_load94 (.tmp 6) rfl rfl _ rfl f hs hcn ?_ | (go_at_fn g; refine hcall.mono ?_; rintro e w' ⟨rfl, hb'⟩))
        go_ret
        refine ⟨?_, bstep (hB.out.alloc hB.out.size _) (by have := hB.out.size; simp; omega) hb'⟩
        rw [findIdx_hit p xs k hkl (fun j hj => hA.out j hj (by omega)) (by rw [← HX.out]; exact hq)]
        rfl
      | false =>
        rw [hq] at hcall
        go_wp2_with (first | refine wpList_alloc94 rfl rfl ?_ | refine wpList_load94 (.tmp 12) rfl rfl _ rfl f hs hcell ?_ | refine wpList_load94 (.tmp 6) rfl rfl _ rfl f hs hcn ?_ | (go_at_fn g; refine hcall.mono ?_; rintro e w' ⟨rfl, hb'⟩))
        go_roundw
        case measure => simp [intOf]; omega
        case rel =>
          refine ⟨k + 1, by omega, by go_num, Lib.hid (bstep (hB.out.alloc hB.out.size _) (by have := hB.out.size; simp; omega) hb'), Lib.hid fun j hj hl => ?_⟩
          by_cases e : j = k
          · subst e
            rw [← HX.out]; exact hq
          · exact hA.out j (by omega) hl
    · have hltz : ¬ (k : Int) < (n : Int) := by omega
      have : k = n := by omega
      subst this
      go_wp2
      go_ret
      refine ⟨?_, hB.out⟩
      rw [findIdx_miss p xs (fun j hj => hA.out j (by rw [HN.out]; exact hj) hj), ← HN.out]
      rfl

end Go.Proofs.Ytlaakmgdbhabfaa

/- fitting: the rows that fit of the rows that are given. -/
namespace Go.Proofs.Ytlaakmgdbhabfaa
open Go.RowKit Go.Shelf
attribute [local irreducible] bitCells fitCells Z94 fitOf

theorem fitOf_get (cs ms : List (Int × Int)) (x : Nat × Int) : (fitOf cs ms x)[0]? = some (.int .i64 (x.1 : Int)) ∧ (fitOf cs ms x)[1]? = some (.int .i64 x.2) ∧ ∀ i, i < 12 → (fitOf cs ms x)[2 + i]? = some (.int .i64 (if hadB cs ms x.1 x.2 i = true then 1 else 0)) := by
  unfold fitOf fitCells
  refine ⟨?_, ?_, fun i hi => ?_⟩
  · rw [Array.getElem?_append_left (by simp)]
    rfl
  · rw [Array.getElem?_append_left (by simp)]
    rfl
  · rw [Array.getElem?_append_right (by simp)]
    simpa using bitCells_get (hadB cs ms x.1 x.2) i hi

section
variable {ops : Array Oper} {rest : List Oper} {o : Oper} {a : Act} {w : World} {Q : Exit → Act → World → Prop}
theorem wpList_box94 (x : Operand) (hg : o.guard = none) (ho : o.op = .box 94 x) (f : Array Value) (hx : a.eval x = .agg f)
    (h : wpList Try.prog ops Q rest (a.put o.dst (.pointer (some ⟨w.heap.size, 0, none⟩))) (w.alloc (.cells f 94))) : wpList Try.prog ops Q (o :: rest) a w :=
  Great.wpList_boxTo hg 94 x ho _ rfl _ rfl f (by rw [hx]; rfl) h
theorem wpList_build87 (x : Operand) (hgd : o.guard = none) (ho : o.op = .buildSlice 87 1 #[(0, x)]) (f : Array Value) (k : Nat) (y : Int) (M : Nat → Bool) (hfe : f = fitCells k y M) (hx : a.eval x = .agg f)
    (h : wpList Try.prog ops Q rest (a.put o.dst (.slice (some ⟨w.heap.size, 0, none⟩) 1 1)) (w.alloc (.cells f 94))) : wpList Try.prog ops Q (o :: rest) a w := by
  subst hfe
  have hf : Try.prog.builtSlice 94 1 [(0, .agg (fitCells k y M))] = some (fitCells k y M) := by kernel_rfl
  exact Great.wpList_buildSliceTo hgd 87 94 1 #[(0, x)] ho _ rfl _ rfl (by kernel_rfl) _ (by simp [hx, hf]) h
end

/-- Whether a row that fits is the row y. -/
def isRow (y : Int × Int) (x : Nat × Int) : Bool := decide (((x.1 : Int), x.2) = y)
set_option maxHeartbeats 1000000 in
theorem sameFit (y : Int × Int) (B : Nat) (cs ms : List (Int × Int)) (xs : List (Nat × Int)) (w : World) (hB : B < w.heap.size) (hc : w.cell? ⟨B, 0, none⟩ = some (.int .i64 y.1)) (hc1 : w.cell? ⟨B, 1, none⟩ = some (.int .i64 y.2)) :
    PredOn 89 #[.pointer (some ⟨B, 0, none⟩)] (fun x => .agg (fitOf cs ms x)) (isRow y) xs w := fun W x hx hbw => by
  obtain ⟨f0, f1, _⟩ := fitOf_get cs ms x
  have hq0 := (hbw.cell (p := ⟨B, 0, none⟩) hB).trans hc
  have hq1 := (hbw.cell (p := ⟨B, 1, none⟩) hB).trans hc1
  show Calls Try.prog 89 #[.agg (fitOf cs ms x), .pointer (some ⟨B, 0, none⟩)] W fun e w' => e = .returned (.bool (isRow y x)) ∧ Below W.heap.size W w'
  obtain ⟨f, hf⟩ : ∃ f, fitOf cs ms x = f := ⟨_, rfl⟩
  rw [hf] at f0 f1 ⊢
  have r0 : (W.alloc (.cells f 94)).cell? ⟨W.heap.size, 0, none⟩ = some (.int .i64 (x.1 : Int)) := (cell_of_row _ _ _ _ _ _ (row_last _ _ _ rfl)).trans f0
  have r1 : (W.alloc (.cells f 94)).cell? ⟨W.heap.size, 1, none⟩ = some (.int .i64 x.2) := (cell_of_row _ _ _ _ _ _ (row_last _ _ _ rfl)).trans f1
  have q0 : (W.alloc (.cells f 94)).cell? ⟨B, 0, none⟩ = some (.int .i64 y.1) := ((ext_alloc W _).cell (p := ⟨B, 0, none⟩) (by have := hbw.size; show B < W.heap.size; omega)).trans hq0
  have q1 : (W.alloc (.cells f 94)).cell? ⟨B, 1, none⟩ = some (.int .i64 y.2) := ((ext_alloc W _).cell (p := ⟨B, 1, none⟩) (by have := hbw.size; show B < W.heap.size; omega)).trans hq1
  have hE := ext_alloc W (.cells f 94)
  have heq := eqRow ((x.1 : Int), x.2) y
  have HQ := Lib.hid heq
  simp only at heq
  clear hf hx hbw hq0 hq1 hc hc1 f0 f1
  go_enter Try.func89, Try.ntmps89
  go_wp2_with (first | refine wpList_box94 (.tmp 0) rfl rfl f rfl ?_)
  go_ret
  exact ⟨rfl, hE⟩

/-- The row that fits which is the row y, if any. -/
def fitFor (cs ms : List (Int × Int)) (y : Int × Int) : Option (Nat × Int) := (fitsOf cs ms)[(fitsOf cs ms).findIdx (isRow y)]?
/-- The rows that fit of the rows that are given. -/
def fittingOf (cs ms : List (Int × Int)) (ys : List (Int × Int)) : List (Nat × Int) := ys.filterMap (fitFor cs ms)
theorem fittingOf_succ (cs ms : List (Int × Int)) (ys : List (Int × Int)) (k : Nat) (hk : k < ys.length) : fittingOf cs ms (ys.take (k + 1)) = fittingOf cs ms (ys.take k) ++ (fitFor cs ms ys[k]).toList := by
  unfold fittingOf
  rw [List.take_succ_eq_append_getElem hk, List.filterMap_append]
  cases h : fitFor cs ms ys[k] <;> simp [h]

set_option maxRecDepth 100000 in
set_option maxHeartbeats 4000000 in
theorem fitting_any {w : World} {b : Nat} {A : Option Addr} {n c : Nat} {A' : Option Addr} {n' c' : Nat} {A2 : Option Addr} {k2 c2 : Nat} {cs ms : List (Int × Int)} (hO : IsOpen w b A n c A' n' c' A2 k2 c2 cs ms) (h0 : sheetErr cs ms = 0)
    (A3 : Option Addr) (m c3 : Nat) (ys : List (Int × Int)) (hm : m = ys.length) (hm9 : m ≤ 1000000) (hh : Held w w.heap.size 2 encS A3 ys) :
    Calls Try.prog 55 #[.pointer (some ⟨b, 0, none⟩), .slice A3 m c3] w fun e w' => ∃ v, e = .returned v ∧ Ext w w' ∧ w'.ownsRow w.heap.size 94 14 v (fittingOf cs ms ys).length (fitsCells cs ms (fittingOf cs ms ys)) := by
  have hbl := (Array.getElem?_eq_some_iff.1 hO.row).1
  have e89 : ∀ args w, (callFunc 89 args).run Try.prog w = .ok (.enter 89 args) w := enters_of Try.func89 (by kernel_rfl) rfl
  have hfew := fits_few h0
  obtain ⟨i94, hi, hz0, hz1, hz2⟩ := info_parts info94
  have HI := Lib.hid (And.intro hi (And.intro hz0 (And.intro hz1 hz2)))
  have HO := Lib.hid hO
  have HH := Lib.hid hh
  have HM := Lib.hid hm
  have hk2 := hO.len
  have HK := Lib.hid hk2
  have hle : ∀ k, (fittingOf cs ms (ys.take k)).length ≤ k := fun k => Nat.le_trans (List.length_filterMap_le _ _) (by simp; omega)
  have HL := Lib.hid hle
  clear hi hz0 hz1 hz2 hO hh hm hk2 hle
  go_enter Try.func55, Try.ntmps55
  go_wp2
  go_loopw [5, 7, 8, 11] (fun v _ _ i wr => ∃ k : Nat, k ≤ m ∧ i = .int .i64 k ∧ Hid (Ext w wr) ∧ Hid (wr.ownsRow w.heap.size 94 14 v (fittingOf cs ms (ys.take k)).length (fitsCells cs ms (fittingOf cs ms (ys.take k))))) (fun _ _ _ i _ => m - (intOf i).toNat)
  case atStart => exact ⟨0, Nat.zero_le _, rfl, Lib.hid (Ext.refl _), Lib.hid (World.ownsRow_nil _ _ _ _)⟩
  case round =>
    obtain ⟨k, hk, rfl, hB, hR⟩ := hrel
    by_cases hlt : k < m
    · have hltz : (k : Int) < (m : Int) := by omega
      have hkl : k < ys.length := by have := HM.out; omega
      obtain ⟨y, hy⟩ : ∃ y, ys[k] = y := ⟨_, rfl⟩
      have hOr := HO.out.ext hB.out
      obtain ⟨bb, off, rfl, hbb, d0, d1⟩ := held_pair ((HH.out.kept hB.out (Nat.le_refl _)).wider hB.out.size) hkl
      have hyd : ys.getD k (0, 0) = y := by rw [← hy]; simp [hkl]
      rw [hyd] at d0 d1
      have hsu := fittingOf_succ cs ms ys k hkl
      rw [hy] at hsu
      have eP : Ext wr (wr.alloc (.cells #[.int .i64 y.1, .int .i64 y.2] 27)) := ext_alloc _ _
      have hOP := hOr.ext eP
      have hrP : (wr.alloc (.cells #[.int .i64 y.1, .int .i64 y.2] 27)).heap[wr.heap.size]? = some (.cells #[.int .i64 y.1, .int .i64 y.2] 27 (0, 0)) := row_last _ _ _ rfl
      have hsame := sameFit y wr.heap.size cs ms (fitsOf cs ms) (wr.alloc (.cells #[.int .i64 y.1, .int .i64 y.2] 27)) (by simp) (cell_of_row _ _ _ _ _ _ hrP) (cell_of_row _ _ _ _ _ _ hrP)
      have hfirst := firstFit 89 _ e89 (isRow y) A2 k2 c2 cs ms (fitsOf cs ms) _ HK.out (by have := HK.out; omega) hOP.fits hsame
      have hff : fitFor cs ms y = (fitsOf cs ms)[(fitsOf cs ms).findIdx (isRow y)]? := rfl
      obtain ⟨r, hr⟩ : ∃ r, (fitsOf cs ms).findIdx (isRow y) = r := ⟨_, rfl⟩
      rw [hr] at hfirst hff
      obtain ⟨q0, q1, q2⟩ := hOP.cells
      have HOr := Lib.hid hOr
      have HS := Lib.hid hsu
      have HF := Lib.hid hff
      have HB2 := Lib.hid (hB.out.trans eP)
      have hne : b ≠ wr.heap.size := by have := hB.out.size; omega
      have hbw : b < wr.heap.size := by have := hB.out.size; omega
      obtain ⟨p0, p1, p2⟩ := hOr.cells
      clear hsu hff hr hsame hrP eP hOP hyd hy hOr
      go_wp2_with fail
      refine hfirst.mono ?_
      rintro e w1 ⟨rfl, hb1⟩
      have e1 : Ext wr w1 := (ext_alloc wr _).trans hb1
      have HO1 := Lib.hid (HOr.out.ext e1)
      have hR1 := owns_ext hR.out e1
      have HB1 := Lib.hid (hB.out.trans e1)
      clear hb1 e1 q0 q1 q2 p0 p1 p2 d0 d1 hfirst
      obtain ⟨q0, q1, q2⟩ := HO1.out.cells
      have hz1 := HB1.out.size
      have hln9 := HL.out k
      by_cases hrl : r < k2
      · have hrlz : (r : Int) < (k2 : Int) := by omega
        have hrf : r < (fitsOf cs ms).length := by have := HK.out; omega
        obtain ⟨x, hx⟩ : ∃ x, (fitsOf cs ms)[r]? = some x := ⟨_, List.getElem?_eq_getElem hrf⟩
        have hsu := HS.out
        rw [HF.out, hx] at hsu
        have hsu' : fittingOf cs ms (ys.take (k + 1)) = fittingOf cs ms (ys.take k) ++ [x] := hsu
        obtain ⟨b5, off5, rfl, _, hcell⟩ := cells_held HO1.out.fits hx
        have hs := fitOf_size cs ms x
        have h1 := fitOf_one cs ms x
        have hfe : fitOf cs ms x = fitCells x.1 x.2 (hadB cs ms x.1 x.2) := by unfold fitOf; rfl
        obtain ⟨f, hf⟩ : ∃ f, fitOf cs ms x = f := ⟨_, rfl⟩
        rw [hf] at hcell hs h1 hfe
        have hcn := cells_new w1 f 94
        have hln : f.toList.length = 1 * 14 := by rw [Array.length_toList, hs]
        have ho1 : ∀ u ∈ f.toList, u.oneCell' = true := fun u hu => Array.all_eq_true_iff_forall_mem.1 h1 u (Array.mem_toList_iff.1 hu)
        have oA := hR1.alloc (.cells f 94)
        have HFE := Lib.hid hfe
        have HSU := Lib.hid hsu'
        have HFF := Lib.hid hf
        have hzz := Z94_size
        have hln2 : (fittingOf cs ms (ys.take k)).length ≤ m := by omega
        clear hsu hsu' hfe hf hx hR1
        go_wp2_with (first | refine wpList_load94 (.tmp 34) rfl rfl _ rfl f hs hcell ?_ | refine wpList_build87 (.tmp 35) rfl rfl f x.1 x.2 (hadB cs ms x.1 x.2) HFE.out rfl ?_ | (at_builtin; refine wpList_append_own _ rfl (.tmp 28) (.tmp 36) 87 rfl w.heap.size 94 i94 (.agg Z94) 14 112 ?_ ?_ ?_ ?_ ?_ ?_ ?_ u5 _ (fitsCells cs ms (fittingOf cs ms (ys.take k))) rfl oA ⟨w1.heap.size, 0, none⟩ 1 1 f.toList rfl ?_ ?_ ?_ ?_ ?_ ?_ ?_; exact Try.underlying87; exact HI.out.1; exact HI.out.2.1; exact HI.out.2.2.1; exact HI.out.2.2.2; exact hzz; decide; exact hln; exact hcn; exact ho1; (unfold maxLen; omega); omega; (simp; omega); intro v' w4 hown' hg4 _; have HW := Lib.hid hown'; have hE4 := Lib.hid (((HB1.out.alloc hz1 (.cells f 94)).grown hg4 (by simp; omega) (fun b e => (oA.lt b e).1)) : Ext w w4); clear hown' hg4 oA))
        go_roundw
        case measure => simp [intOf]; omega
        case rel =>
          refine ⟨k + 1, by omega, by go_num, hE4, Lib.hid ?_⟩
          rw [HSU.out, List.length_append, fitsCells_snoc, HFF.out]
          exact HW.out
      · have hrlz : ¬ (r : Int) < (k2 : Int) := by omega
        have hsu := HS.out
        rw [HF.out, List.getElem?_eq_none (by have := HK.out; omega)] at hsu
        have hsu' : fittingOf cs ms (ys.take (k + 1)) = fittingOf cs ms (ys.take k) := by simpa using hsu
        have HSU := Lib.hid hsu'
        have HR1 := Lib.hid hR1
        clear hsu hsu' hR1
        go_wp2
        go_roundw
        case measure => simp [intOf]; omega
        case rel => exact ⟨k + 1, by omega, by go_num, HB1, by rw [HSU.out]; exact HR1⟩
    · have hltz : ¬ (k : Int) < (m : Int) := by omega
      obtain rfl : k = m := by omega
      have hR2 := hR.out
      rw [List.take_of_length_le (by have := HM.out; omega)] at hR2
      obtain ⟨A5, c5, rfl⟩ := owns_slice hR2
      go_wp2
      go_ret
      exact ⟨_, rfl, hB.out, hR2⟩
end Go.Proofs.Ytlaakmgdbhabfaa

/- A range over a function that yields slices: each round is told what lies in the slice that it is given. -/
namespace Go.Proofs.Ytlaakmgdbhabfaa
open Go.RowKit Go.Shelf

/-- All cells are as they were; below n₀ all is. -/
def KeepsCells (n₀ : Nat) (W W' : World) : Prop := Below n₀ W W' ∧ ∀ (b : Nat) (cs : Array Value) (t : TypeId) (fr : Nat × Nat), W.heap[b]? = some (Obj.cells cs t fr) → W'.heap[b]? = some (Obj.cells cs t fr)
theorem KeepsCells.trans {n₀ : Nat} {A B C : World} (h : KeepsCells n₀ A B) (k : KeepsCells n₀ B C) : KeepsCells n₀ A C := ⟨h.1.trans k.1, fun b cs t fr h1 => k.2 b cs t fr (h.2 b cs t fr h1)⟩
theorem KeepsCells.ext {n₀ : Nat} {A B : World} (h : Ext A B) (hn : n₀ ≤ A.heap.size) : KeepsCells n₀ A B := ⟨h.mono hn, fun _ _ _ _ h1 => row_ext h1 h⟩
theorem KeepsCells.put {n₀ : Nat} {W : World} {l : Nat} {o : Obj} (o' : Obj) (hl : n₀ ≤ l) (h : W.heap[l]? = some o) (hc : o.isCells = false) : KeepsCells n₀ W (W.putObj l o') := by
  refine ⟨(Below.refl n₀ W).grown (grownBy_putObj' W l o') (by have := (Array.getElem?_eq_some_iff.1 h).1; omega) (fun k e => by cases e; omega), fun b cs t fr hb => ?_⟩
  refine ((grownBy_putObj' W l o').block b (Array.getElem?_eq_some_iff.1 hb).1 (fun e => ?_)).trans hb
  obtain rfl : b = l := Option.some.inj e
  rw [hb] at h
  cases h
  cases hc

/-- The contract of an iterator: it yields xs, each as a value of which Hd holds. -/
def SeqHeld {α : Type} (N g : Nat) (lb : Array Value) (Hd : α → Value → World → Prop) (xs : List α) (w : World) : Prop :=
  ∀ (l : Nat) (J Jx : List α → World → Prop) (W : World), Below w.heap.size w W → (∀ s X X', J s X → Ext X X' → J s X') →
    (∀ pre x v W1, J pre W1 → (pre ++ [x]) <+: xs → Hd x v W1 → YieldAt Fence.wide (N - 1) Try.prog l #[v] W1 fun e W' =>
      (e = .returned (.bool true) ∧ J (pre ++ [x]) W' ∧ KeepsCells w.heap.size W1 W') ∨ (e = .returned (.bool false) ∧ Jx (pre ++ [x]) W')) →
    J [] W →
    CallsIn Fence.wide N Try.prog g (#[.func (.yield l) #[] #[]] ++ lb) W fun e W' => (∃ v, e = .returned v) ∧ (J xs W' ∨ ∃ pre, pre <+: xs ∧ Jx pre W')

/-- How a round may be left. -/
def heldPost {α : Type} (n₀ : Nat) (I Ix : List α → World → Prop) (id : Nat) (ys : List α) (W : World) : Exit → Act → World → Prop
  | .normal, _, W' => KeepsOthers W W' ∧ KeepsCells n₀ W W' ∧ I ys W'
  | .exit i, _, W' => i = id ∧ KeepsOthers W W' ∧ Ix ys W'
  | _, _, _ => False

theorem range_held {α : Type} {N : Nat} {g : Operand} {ps : Tmp} {assign body : Code} {Q : Exit → Act → World → Prop} {a : Act} {w : World}
    (h1 : 1 ≤ N) {gf : Nat} {lb : Array Value} (hg : a.eval g = .func (.func gf) #[] lb) (eg : ∀ args w, (callFunc gf args).run Try.prog w = .ok (.enter gf args) w)
    {Hd : α → Value → World → Prop} {xs : List α} {w0 : World} (hseq : SeqHeld (N - 1) gf lb Hd xs w0) (hb0 : Below w0.heap.size w0 w) (hsz : w0.heap.size ≤ w.heap.size)
    (I Ix : List α → World → Prop) (id : Nat) (hIe : ∀ s X X', I s X → Ext X X' → I s X')
    (hIp : ∀ s X l o o', I s X → w.heap.size ≤ l → X.heap[l]? = some o → o.isCells = false → I s (X.putObj l o'))
    (hXp : ∀ s X l o o', Ix s X → w.heap.size ≤ l → X.heap[l]? = some o → o.isCells = false → Ix s (X.putObj l o'))
    (hHd : ∀ x v X l o o', Hd x v X → X.heap[l]? = some o → o.isCells = false → Hd x v (X.putObj l o'))
    (h0 : I [] w) (a₁ : Value → Act)
    (hassign : ∀ (l : Nat) (v : Value) (W : World) (K : Act → World → Prop), K (a₁ v) W →
      assign.wpIn (Fence.wide.inRound l) (N - 1 - 1) Try.prog (Exit.then K (fun _ _ _ => False)) { tmps := a.tmps.setIfInBounds ps v, defers := [] } W)
    (hbody : ∀ (l : Nat) (pre : List α) (x : α) (v : Value) (W : World), I pre W → (pre ++ [x]) <+: xs → Hd x v W → body.wpIn (Fence.wide.inRound l) (N - 1 - 1) Try.prog (heldPost w0.heap.size I Ix id (pre ++ [x]) W) (a₁ v) W)
    (hdone : ∀ (D : Nat) (W : World), w.heap.size ≤ D → I xs W → W.heap[D]? = some (.deferred (some [])) → Q .normal { a with defers := { target := .collected D, args := #[] } :: a.defers } W)
    (hstop : ∀ (D : Nat) (pre : List α) (W : World), w.heap.size ≤ D → pre <+: xs → Ix pre W → W.heap[D]? = some (.deferred (some [])) → (Code.exit id).wpIn Fence.wide N Try.prog Q { a with defers := { target := .collected D, args := #[] } :: a.defers } W) :
    (Code.rangeFunc g #[ps] assign body).wpIn Fence.wide N Try.prog Q a w := by
  refine wpIn_rangeFunc fun fn hfn => ?_
  -- the record of the loop in its states, and the two blocks that are laid
  let st (s : LoopState) (p : Option Code) : Loop := { state := s, pending := p, fn, tmps := a.tmps, params := #[ps], assign, body, defers := w.heap.size }
  let D := w.heap.size
  let l := w.heap.size + 1
  have hg1 : Ext w (w.alloc (.deferred (some []))) := ext_alloc _ _
  have hg2 : Ext w ((w.alloc (.deferred (some []))).alloc (.loop (st .ready none))) := hg1.trans (ext_alloc _ _)
  have hL : ((w.alloc (.deferred (some []))).alloc (.loop (st .ready none))).heap[l]? = some (.loop (st .ready none)) := row_last _ _ _ (by simp [l])
  have hD : ((w.alloc (.deferred (some []))).alloc (.loop (st .ready none))).heap[D]? = some (.deferred (some [])) := row_ext (row_last w _ D rfl) (ext_alloc _ _)
  obtain ⟨W1, hW1⟩ : ∃ W1, (w.alloc (.deferred (some []))).alloc (.loop (st .ready none)) = W1 := ⟨_, rfl⟩
  rw [hW1] at hg2 hL hD
  refine ⟨l, [{ target := .collected D, args := #[] }], W1, { target := .fn (.func gf) lb, args := #[.func (.yield l) #[] #[]] }, W1, gf, #[.func (.yield l) #[] #[]] ++ lb, W1,
    ?_, ?_, fun _ _ => trivial, ?_, fun _ => h1, ?_⟩
  · rw [← hW1]; exact run_enterLoop_outer fn a.tmps #[ps] assign body
  · simp only [resolve, hg]
    simp [go_sem]
  · simp [invoke, go_sem, eg]
  have hbase : Below w0.heap.size w0 W1 := hb0.trans (hg2.mono hsz)
  refine (hseq l
    (fun pre W => I pre W ∧ W.heap[l]? = some (.loop (st .ready none)) ∧ W.heap[D]? = some (.deferred (some [])))
    (fun pre W => Ix pre W ∧ W.heap[l]? = some (.loop (st .done (some (.exit id)))) ∧ W.heap[D]? = some (.deferred (some [])))
    _ hbase (fun s X X' hs e => ⟨hIe s X X' hs.1 e, row_ext hs.2.1 e, row_ext hs.2.2 e⟩) ?_ ⟨hIe _ _ _ h0 hg2, hL, hD⟩).mono ?_
  · rintro pre x v W ⟨hi, hl, hd⟩ hpre hx
    have hlt : l < W.heap.size := (Array.getElem?_eq_some_iff.1 hl).1
    have hlD : l ≠ D := by simp [l, D]
    have hwl : w.heap.size ≤ l := by simp [l]
    refine ⟨fn, _, assign, body, run_yield hl rfl, roundIn_of_wpIn hfn ?_⟩
    have htm : ((st .ready none).params.zip #[v]).foldl (fun tmps (x : Tmp × Value) => match x with | (t, a) => tmps.setIfInBounds t a) (st .ready none).tmps = a.tmps.setIfInBounds ps v := by simp [st]
    rw [htm]
    refine hassign l v W _ ?_
    refine ⟨_, run_beginRound hl rfl, ?_⟩
    have hl2 : (W.putObj l (.loop (st .busy none))).heap[l]? = some (.loop (st .busy none)) := World.putObj_heap_same hlt
    have hd2 : (W.putObj l (.loop (st .busy none))).heap[D]? = some (.deferred (some [])) := (World.putObj_heap_other (fun e => hlD e.symm)).trans hd
    refine wpIn_mono (hbody l pre x v _ (hIp _ _ _ _ _ hi hwl hl rfl) hpre (hHd _ _ _ _ _ _ hx hl rfl)) ?_
    rintro e a3 W3 hp
    cases e with
    | normal =>
      obtain ⟨k3, c3, i3⟩ := hp
      have l3 := k3.same _ _ hl2 rfl
      have d3 := k3.same _ _ hd2 rfl
      exact ⟨_, _, run_endRound none l3, .inl ⟨rfl, ⟨hIp _ _ _ _ _ i3 hwl l3 rfl, World.putObj_heap_same (Array.getElem?_eq_some_iff.1 l3).1, (World.putObj_heap_other (fun e => hlD e.symm)).trans d3⟩,
        (((KeepsCells.put _ (by omega) hl rfl).trans c3).trans (KeepsCells.put _ (by omega) l3 rfl))⟩⟩
    | exit i =>
      obtain ⟨rfl, k3, i3⟩ := hp
      have l3 := k3.same _ _ hl2 rfl
      have d3 := k3.same _ _ hd2 rfl
      exact ⟨_, _, run_endRound (some (.exit i)) l3, .inr ⟨rfl, hXp _ _ _ _ _ i3 hwl l3 rfl, World.putObj_heap_same (Array.getElem?_eq_some_iff.1 l3).1, (World.putObj_heap_other (fun e => hlD e.symm)).trans d3⟩⟩
    | ret => exact hp.elim
    | goto t => exact hp.elim
    | panic ch => exact hp.elim
    | outgrown => exact hp.elim
  · have hwl : w.heap.size ≤ l := by simp [l]
    have hlD : l ≠ D := by simp [l, D]
    rintro e W2 ⟨⟨v, rfl⟩, ⟨hi, hl, hd⟩ | ⟨pre, hpre, hi, hl, hd⟩⟩
    · exact ⟨none, _, run_endLoop hl (by simp [st]), hdone D _ (Nat.le_refl _) (hIp _ _ _ _ _ hi hwl hl rfl) ((World.putObj_heap_other (fun e => hlD e.symm)).trans hd)⟩
    · exact ⟨some (.exit id), _, run_endLoop hl (by simp [st]), hstop D pre _ (Nat.le_refl _) hpre (hXp _ _ _ _ _ hi hwl hl rfl) ((World.putObj_heap_other (fun e => hlD e.symm)).trans hd)⟩
end Go.Proofs.Ytlaakmgdbhabfaa
