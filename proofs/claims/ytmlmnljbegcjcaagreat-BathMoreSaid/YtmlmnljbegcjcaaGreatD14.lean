/- Texts of one package, joined: Kept, ReachReg, Reach, MostReg, Most79. -/
import Derived.Test.YtmlmnljbegcjcaaGreatD10
import Derived.Test.YtmlmnljbegcjcaaGreatD12
import Derived.Maps.OwnSet
import Derived.DeepKeys4
import Derived.Laws.MakeOwn
/- A map from steps to plans, and what it holds; blocks that are kept but for some. -/
namespace Go.Proofs.YtmlmnljbegcjcaaGreat
open Go.RowKit Go.Shelf Go.Maps
attribute [local irreducible] bitCells

theorem under126 : Tryz.prog.underlying 126 = some (.map 125 103) := by kernel_rfl
theorem law125 : Keyed Tryz.prog 125 := Keyed.of_law (deep_law (m := 2) (by omega) (by kernel_rfl) (by kernel_rfl) (by kernel_rfl))
theorem zero103 (w : World) : (zeroValue 103).run Tryz.prog w = .ok (.agg #[.slice none 0 0, .int .i64 0]) w := by kernel_rfl
/-- A step, as a value. -/
def stepV (l b : Nat) : Value := .agg #[.int .i64 (l : Int), .int .i64 (b : Int)]
noncomputable def keyI (x y : Int) : Option Lit := keyOf Tryz.prog 125 (.agg #[.int .i64 x, .int .i64 y])
theorem keyI_is {x y : Int} (hx : (Lit.int .i64 x).wf = true) (hy : (Lit.int .i64 y).wf = true) : keyI x y = some (.string (keyBytes [.int .i64 x, .int .i64 y])) := by
  have hkt : Tryz.prog.keyType 125 = true := by kernel_rfl
  have hc : Tryz.prog.cellsOf 125 = 2 := by kernel_rfl
  have hc3 : Tryz.prog.cellsOf 3 = 1 := by kernel_rfl
  have hm : Tryz.prog.types.size = (Tryz.prog.types.size - 1) + 1 := by kernel_rfl
  have hm2 : Tryz.prog.types.size - 1 = (Tryz.prog.types.size - 2) + 1 := by kernel_rfl
  have hu3 : Tryz.prog.underlying 3 = some (.int .i64) := by kernel_rfl
  obtain ⟨m, hmm⟩ : ∃ m, Tryz.prog.types.size - 2 = m := ⟨_, rfl⟩
  rw [hmm] at hm2
  rw [hm2] at hm
  unfold keyI keyOf
  simp only [Tryz.underlying125]
  rw [if_pos (by simp [hkt, Value.formed, Tryz.underlying125, hc]), hm]
  unfold Program.keyLits
  simp only [Tryz.underlying125, Value.cells]
  rw [if_pos (by rw [hc]; exact ⟨rfl, by kernel_rfl⟩)]
  simp [Program.keyLits, hu3, hx, hy, hc3]
theorem key_wf (l : Nat) (h : l ≤ 1000) : (Lit.int .i64 (l : Int)).wf = true := Go.WalkArith.wf_i64 ⟨by omega, by omega⟩
def klOf (l b : Nat) : Lit := .string (keyBytes [.int .i64 (l : Int), .int .i64 (b : Int)])
theorem key_step {l b : Nat} (hl : l ≤ 1000) (hb : b ≤ 1000) : keyOf Tryz.prog 125 (stepV l b) = some (klOf l b) := keyI_is (key_wf l hl) (key_wf b hb)
theorem kl_ne {l b l' b' : Nat} (hl : l ≤ 1000) (hb : b ≤ 1000) (hl' : l' ≤ 1000) (hb' : b' ≤ 1000) (h : ¬ (l' = l ∧ b' = b)) : klOf l' b' ≠ klOf l b := by
  intro e
  have h1 := key_step hl' hb'
  rw [e] at h1
  have := law125.inj h1 (key_step hl hb)
  unfold stepV at this
  simp only [Value.agg.injEq, Array.mk.injEq, List.cons.injEq, Value.int.injEq, true_and, and_true] at this
  omega
theorem kl_key {l b : Nat} (hl : l ≤ 1000) (hb : b ≤ 1000) : WideAt.IsKeyLit (klOf l b) := law125.key (key_step hl hb)

/-- A plan, as a value. -/
def planV (x : Value × Int) : Value := .agg #[x.1, .int .i64 x.2]
abbrev zeroP : Value × Int := (.slice none 0 0, 0)
/-- How what the map holds reads: as itself. -/
def Rv (v : Value) : Option (DataW Value × List MemPlace) := some (.held v, [])
/-- The map in block m holds K, and has at most n entries. -/
def KeptAt (W : World) (m n : Nat) (K : Nat → Nat → Option (Value × Int)) : Prop := ∃ D : DataW Value, W.ownsMap Tryz.prog 125 Rv m n D ∧
  ∀ l b, l ≤ 1000 → b ≤ 1000 → Maps.has D (klOf l b) = (K l b).isSome ∧ D.atKey (klOf l b) (.held (planV zeroP)) = .held (planV ((K l b).getD zeroP))
def updK (K : Nat → Nat → Option (Value × Int)) (l b : Nat) (x : Option (Value × Int)) : Nat → Nat → Option (Value × Int) := fun l' b' => if l' = l ∧ b' = b then x else K l' b'
theorem KeptAt.block {W W' : World} {m n : Nat} {K : Nat → Nat → Option (Value × Int)} (h : KeptAt W m n K) (e : W'.heap[m]? = W.heap[m]?) : KeptAt W' m n K := by
  obtain ⟨D, ⟨es, clock, h1, h2⟩, h3⟩ := h
  exact ⟨D, ⟨es, clock, e.trans h1, h2⟩, h3⟩
theorem KeptAt.lt {W : World} {m n : Nat} {K : Nat → Nat → Option (Value × Int)} (h : KeptAt W m n K) : m < W.heap.size := h.choose_spec.1.lt
theorem KeptAt.made (w : World) : KeptAt (w.alloc (.map #[] 0)) w.heap.size 0 (fun _ _ => none) :=
  ⟨.map [], World.ownsMap_made w _ _ _, fun _l _b _hl _hb => ⟨rfl, atKey_of_not_has rfl _⟩⟩
theorem KeptAt.look {W : World} {m n : Nat} {K : Nat → Nat → Option (Value × Int)} (h : KeptAt W m n K) {l b : Nat} (hl : l ≤ 1000) (hb : b ≤ 1000) :
    (Instr.lookup 126 (.map (some m)) (stepV l b) true).run Tryz.prog W = .ok (.tuple #[planV ((K l b).getD zeroP), .bool (K l b).isSome]) W := by
  obtain ⟨D, h1, h2⟩ := h
  obtain ⟨v, ps, hr, hv⟩ := h1.look_ok law125 under126 (zero103 W) (zd := .held (planV zeroP)) (zp := []) rfl (key_step hl hb)
  obtain ⟨h3, h4⟩ := h2 l b hl hb
  rw [h4] at hv
  simp only [Rv, Option.some.injEq, Prod.mk.injEq, DataW.held.injEq] at hv
  obtain ⟨hv, _⟩ := hv
  exact hr.trans (by rw [h3, hv])
theorem KeptAt.look1 {W : World} {m n : Nat} {K : Nat → Nat → Option (Value × Int)} (h : KeptAt W m n K) {l b : Nat} (hl : l ≤ 1000) (hb : b ≤ 1000) :
    (Instr.lookup 126 (.map (some m)) (stepV l b) false).run Tryz.prog W = .ok (planV ((K l b).getD zeroP)) W := by
  obtain ⟨D, h1, h2⟩ := h
  obtain ⟨v, ps, hr, hv⟩ := h1.lookup law125 under126 (zero103 W) (zd := .held (planV zeroP)) (zp := []) rfl (key_step hl hb)
  obtain ⟨h3, h4⟩ := h2 l b hl hb
  rw [h4] at hv
  simp only [Rv, Option.some.injEq, Prod.mk.injEq, DataW.held.injEq] at hv
  obtain ⟨hv, _⟩ := hv
  exact hr.trans (by rw [hv])
theorem KeptAt.put {W : World} {m n : Nat} {K : Nat → Nat → Option (Value × Int)} (h : KeptAt W m n K) (hn : n < 1000000) {l b : Nat} (hl : l ≤ 1000) (hb : b ≤ 1000) (x : Value × Int) :
    ∃ W', (Instr.mapUpdate 126 (.map (some m)) (stepV l b) (planV x)).run Tryz.prog W = .ok () W' ∧ KeptAt W' m (n + 1) (updK K l b (some x)) ∧ W.mapTurned W' m := by
  obtain ⟨D, h1, h2⟩ := h
  have hD := h1.isMap
  obtain ⟨W', hr, h3, h4⟩ := h1.store law125 under126 (by unfold maxLen; omega) (val := planV x) (d := .held (planV x)) (ps := []) (key_step hl hb) rfl
  refine ⟨W', hr, ⟨_, h3, fun l' b' hl' hb' => ?_⟩, h4⟩
  unfold updK
  by_cases e : l' = l ∧ b' = b
  · obtain ⟨rfl, rfl⟩ := e
    rw [if_pos ⟨rfl, rfl⟩]
    exact ⟨has_put_same hD (kl_key hl hb) _, atKey_put_same hD (kl_key hl hb) _ _⟩
  · rw [if_neg e]
    have hne := kl_ne hl hb hl' hb' e
    exact ⟨(has_put_other hne _).trans (h2 l' b' hl' hb').1, (atKey_put_other hne _ _).trans (h2 l' b' hl' hb').2⟩
theorem KeptAt.cut {W : World} {m n : Nat} {K : Nat → Nat → Option (Value × Int)} (h : KeptAt W m n K) {l b : Nat} (hl : l ≤ 1000) (hb : b ≤ 1000) (ty : TypeId) :
    ∃ W', (Builtin.delete_ #[126, 125] ty #[.map (some m), stepV l b]).run Tryz.prog W = .ok (.tuple #[]) W' ∧ KeptAt W' m n (updK K l b none) ∧ W.mapTurned W' m := by
  obtain ⟨D, h1, h2⟩ := h
  obtain ⟨W', hr, h3, h4⟩ := h1.drop law125 under126 (key_step hl hb) ty
  refine ⟨W', hr, ⟨_, h3, fun l' b' hl' hb' => ?_⟩, h4⟩
  unfold updK
  by_cases e : l' = l ∧ b' = b
  · obtain ⟨rfl, rfl⟩ := e
    rw [if_pos ⟨rfl, rfl⟩]
    exact ⟨has_del_same, atKey_del_same _⟩
  · rw [if_neg e]
    have hne := kl_ne hl hb hl' hb' e
    exact ⟨(has_del_other hne).trans (h2 l' b' hl' hb').1, (atKey_del_other hne _).trans (h2 l' b' hl' hb').2⟩

/-- All blocks are kept but for some. -/
structure But (S : Nat → Prop) (W W' : World) : Prop where
  os : W'.os = W.os
  tape : W'.tape = W.tape
  output : W'.output = W.output
  size : W.heap.size ≤ W'.heap.size
  block : ∀ i, i < W.heap.size → ¬ S i → W'.heap[i]? = W.heap[i]?
theorem But.refl (S : Nat → Prop) (W : World) : But S W W := ⟨rfl, rfl, rfl, Nat.le_refl _, fun _ _ _ => rfl⟩
theorem But.ext {S : Nat → Prop} {W W' : World} (h : Ext W W') : But S W W' := ⟨h.os, h.tape, h.output, h.size, fun i hi _ => h.block i hi⟩
theorem But.trans {S : Nat → Prop} {A B C : World} (h : But S A B) (k : But S B C) : But S A C :=
  ⟨k.os.trans h.os, k.tape.trans h.tape, k.output.trans h.output, Nat.le_trans h.size k.size, fun i hi hs => (k.block i (Nat.lt_of_lt_of_le hi h.size) hs).trans (h.block i hi hs)⟩
theorem But.wider {S T : Nat → Prop} {A B : World} (h : But S A B) (hs : ∀ i, S i → T i) : But T A B := ⟨h.os, h.tape, h.output, h.size, fun i hi hn => h.block i hi fun e => hn (hs i e)⟩
theorem But.turned {S : Nat → Prop} {W W' : World} {m : Nat} (h : W.mapTurned W' m) (hm : S m) : But S W W' := by
  have g := h.grown
  exact ⟨g.os, g.tape, g.output, g.size, fun i hi hs => g.block i hi fun e => hs (by cases e; exact hm)⟩
theorem But.set {S : Nat → Prop} {W W' : World} {p o : Nat} {v : Value} (h : But S W W') (hp : S p) : But S W (W'.setCell ⟨p, o, none⟩ v) :=
  ⟨h.os, h.tape, h.output, by simpa using h.size, fun i hi hs => (heap_set_other _ _ _ _ _ fun e => hs (by rw [e]; exact hp)).trans (h.block i hi hs)⟩
theorem But.below {S : Nat → Prop} {W W' : World} {B : Nat} (h : But S W W') (hB : B ≤ W.heap.size) (hS : ∀ i, S i → B ≤ i) : Below B W W' :=
  ⟨h.os, h.tape, h.output, h.size, fun i hi => h.block i (by omega) fun e => by have := hS i e; omega⟩
/-- A value lies in no block of some. -/
def Off (S : Nat → Prop) (v : Value) : Prop := ∀ b off n d, v = .slice (some ⟨b, off, none⟩) n d → ¬ S b
theorem off_nil (S : Nat → Prop) (n c : Nat) : Off S (.slice none n c) := by
  intro b off n d e
  injection e with e
  cases e
theorem PlanV.but {S : Nat → Prop} {W W' : World} {v : Value} {bs : List Int} (h : PlanV W v bs) (e : But S W W') (ho : Off S v) : PlanV W' v bs := by
  rcases h with h | ⟨b, off, c, h1, h2, h3, h4, h5⟩
  · exact .inl h
  · exact .inr ⟨b, off, c, h1, Nat.lt_of_lt_of_le h2 e.size, h3, h4, fun j x hx => (World.cell?_of_block (a := ⟨b, off + j, none⟩) (e.block b h2 (ho _ _ _ _ h1))).trans (h5 j x hx)⟩
theorem IsBook.but {S : Nat → Prop} {W W' : World} {A : Option Addr} {c : Nat} {os : List Odr} (h : IsBook W A c os) (e : But S W W') (ho : ∀ b o, A = some ⟨b, o, none⟩ → ¬ S b) : IsBook W' A c os := by
  refine ⟨?_, h.cap, h.ok⟩
  rcases h.held with he | ⟨b, o, hA, hl, hc⟩
  · exact .inl he
  · exact .inr ⟨b, o, hA, Nat.lt_of_lt_of_le hl e.size, fun j x hx i v hv => (World.cell?_of_block (a := ⟨b, o + j * 7 + i, none⟩) (e.block b hl (ho _ _ hA))).trans (hc j x hx i v hv)⟩
/-- A plan's value is a plan. -/
def PlOk (S : Nat → Prop) (W : World) (k : Nat) (x : Value × Int) (p : Pl) : Prop := x.2 = p.2 ∧ PlanV W x.1 p.1 ∧ Off S x.1 ∧ p.1.length ≤ k
def OptOk (S : Nat → Prop) (W : World) (k : Nat) : Option (Value × Int) → Option Pl → Prop
  | none, none => True
  | some x, some p => PlOk S W k x p
  | _, _ => False
theorem PlOk.but {S : Nat → Prop} {W W' : World} {k : Nat} {x : Value × Int} {p : Pl} (h : PlOk S W k x p) (e : But S W W') : PlOk S W' k x p := ⟨h.1, h.2.1.but e h.2.2.1, h.2.2⟩
theorem OptOk.but {S : Nat → Prop} {W W' : World} {k : Nat} (e : But S W W') : ∀ {x : Option (Value × Int)} {p : Option Pl}, OptOk S W k x p → OptOk S W' k x p
  | none, none, _ => trivial
  | some _, some _, h => PlOk.but h e
theorem plOk_zero (S : Nat → Prop) (W : World) (k : Nat) : PlOk S W k zeroP ([], 0) := ⟨rfl, .inl ⟨rfl, rfl⟩, off_nil _ _ _, by simp⟩
theorem OptOk.get {S : Nat → Prop} {W : World} {k : Nat} : ∀ {x : Option (Value × Int)} {p : Option Pl}, OptOk S W k x p → PlOk S W k (x.getD zeroP) (p.getD ([], 0))
  | none, none, _ => plOk_zero _ _ _
  | some _, some _, h => h
/-- The table of plans, and the best ones. -/
def TabAt (S : Nat → Prop) (W : World) (m n : Nat) (kept : Nat → Nat → Option Pl) : Prop := ∃ K, KeptAt W m n K ∧ ∀ l b, OptOk S W b (K l b) (kept l b)
def MostAt (S : Nat → Prop) (W : World) (g N : Nat) (mosts : Nat → Pl) : Prop := ∃ (vs : List (Value × Int)) (cs : Array Value), W.heap[g]? = some (.cells cs 103 (0, 0)) ∧ vs.length = N ∧ PlansAt W g 0 vs ∧ ∀ j x, vs[j]? = some x → PlOk S W j x (mosts j)
theorem KeptAt.mono {W : World} {m n n' : Nat} {K : Nat → Nat → Option (Value × Int)} (h : KeptAt W m n K) (hn : n ≤ n') : KeptAt W m n' K := by
  obtain ⟨D, h1, h2⟩ := h
  exact ⟨D, h1.mono hn, h2⟩
theorem TabAt.mono {S : Nat → Prop} {W : World} {m n n' : Nat} {kept : Nat → Nat → Option Pl} (h : TabAt S W m n kept) (hn : n ≤ n') : TabAt S W m n' kept := by
  obtain ⟨K, h1, h2⟩ := h
  exact ⟨K, h1.mono hn, h2⟩
theorem TabAt.but {S : Nat → Prop} {W W' : World} {m n : Nat} {kept : Nat → Nat → Option Pl} (h : TabAt S W m n kept) (e : But S W W') (hm : W'.heap[m]? = W.heap[m]?) : TabAt S W' m n kept := by
  obtain ⟨K, h1, h2⟩ := h
  exact ⟨K, h1.block hm, fun l b => (h2 l b).but e⟩
theorem TabAt.ext {S : Nat → Prop} {W W' : World} {m n : Nat} {kept : Nat → Nat → Option Pl} (h : TabAt S W m n kept) (e : Ext W W') : TabAt S W' m n kept := h.but (But.ext e) (e.block _ (h.choose_spec.1.lt))
theorem MostAt.but {S : Nat → Prop} {W W' : World} {g N : Nat} {mosts : Nat → Pl} (h : MostAt S W g N mosts) (e : But S W W') (hm : W'.heap[g]? = W.heap[g]?) : MostAt S W' g N mosts := by
  obtain ⟨vs, cs, h1, h2, h3, h4⟩ := h
  exact ⟨vs, cs, hm.trans h1, h2, ⟨Nat.lt_of_lt_of_le h3.1 e.size, fun j x hx => ⟨(World.cell?_of_block (a := ⟨g, 0 + j * 2, none⟩) hm).trans (h3.2 j x hx).1, (World.cell?_of_block (a := ⟨g, 0 + j * 2 + 1, none⟩) hm).trans (h3.2 j x hx).2.1, (h3.2 j x hx).2.2⟩⟩, fun j x hx => (h4 j x hx).but e⟩
theorem MostAt.lt {S : Nat → Prop} {W : World} {g N : Nat} {mosts : Nat → Pl} (h : MostAt S W g N mosts) : g < W.heap.size := by obtain ⟨_, _, h1, _⟩ := h; exact (Array.getElem?_eq_some_iff.1 h1).1
theorem MostAt.ext {S : Nat → Prop} {W W' : World} {g N : Nat} {mosts : Nat → Pl} (h : MostAt S W g N mosts) (e : Ext W W') : MostAt S W' g N mosts := h.but (But.ext e) (e.block _ h.lt)
theorem MostAt.at {S : Nat → Prop} {W : World} {g N : Nat} {mosts : Nat → Pl} (h : MostAt S W g N mosts) {j : Nat} (hj : j < N) : ∃ v, W.cell? ⟨g, j * 2, none⟩ = some v ∧ W.cell? ⟨g, j * 2 + 1, none⟩ = some (.int .i64 (mosts j).2) ∧ W.frozen? ⟨g, j * 2, none⟩ = false ∧ W.frozen? ⟨g, j * 2 + 1, none⟩ = false ∧ PlOk S W j (v, (mosts j).2) (mosts j) := by
  obtain ⟨vs, cs, h1, h2, h3, h4⟩ := h
  have hx : vs[j]? = some (vs[j]'(by omega)) := List.getElem?_eq_getElem _
  obtain ⟨x, hxx⟩ : ∃ x, vs[j]'(by omega) = x := ⟨_, rfl⟩
  rw [hxx] at hx
  obtain ⟨c0, c1, _⟩ := h3.2 j x hx
  have h5 := h4 j x hx
  simp only [Nat.zero_add] at c0 c1
  exact ⟨x.1, c0, by rw [c1, h5.1], by simp [World.frozen?, h1], by simp [World.frozen?, h1], ⟨rfl, h5.2⟩⟩
theorem MostAt.set {S : Nat → Prop} {W : World} {g N : Nat} {mosts : Nat → Pl} (h : MostAt S W g N mosts) (hg : S g) {j : Nat} (hj : j < N) {x : Value × Int} {p : Pl} (hx : PlOk S W j x p) :
    MostAt S ((W.setCell ⟨g, j * 2, none⟩ x.1).setCell ⟨g, j * 2 + 1, none⟩ (.int .i64 x.2)) g N (fun j' => if j' = j then p else mosts j') := by
  obtain ⟨vs, cs, h1, h2, h3, h4⟩ := h
  have hB : But S W ((W.setCell ⟨g, j * 2, none⟩ x.1).setCell ⟨g, j * 2 + 1, none⟩ (.int .i64 x.2)) := ((But.refl S W).set hg).set hg
  have hcell : ∀ i (hi : i < vs.length), W.cell? ⟨g, i * 2, none⟩ = some (vs[i]).1 ∧ W.cell? ⟨g, i * 2 + 1, none⟩ = some (.int .i64 (vs[i]).2) := fun i hi => by
    have := h3.2 i _ (List.getElem?_eq_getElem hi)
    simp only [Nat.zero_add] at this
    exact ⟨this.1, this.2.1⟩
  have hrow1 := row_setCell W g (j * 2) x.1 _ _ _ h1
  have hrow2 := row_setCell _ g (j * 2 + 1) (.int .i64 x.2) _ _ _ hrow1
  have hsz : ∀ i, i < vs.length → i * 2 + 1 < cs.size := fun i hi => by
    have h5 := (hcell i hi).2
    rw [cell_of_row _ _ _ _ _ _ h1] at h5
    exact (Array.getElem?_eq_some_iff.1 h5).1
  have hjs := hsz j (by omega)
  refine ⟨vs.set j x, _, hrow2, by simp [h2], ⟨by simpa using h3.1, fun i y hy => ?_⟩, fun i y hy => ?_⟩
  · rw [List.getElem?_set] at hy
    rw [cell_of_row _ _ _ _ _ _ hrow2, cell_of_row _ _ _ _ _ _ hrow2]
    by_cases e : j = i
    · subst e
      rw [if_pos rfl, if_pos (by omega)] at hy
      cases hy
      refine ⟨?_, ?_, hx.2.1.slice⟩
      · rw [Array.getElem?_setIfInBounds_ne (by omega), Nat.zero_add, Array.getElem?_setIfInBounds_self_of_lt (by omega)]
      · rw [Nat.zero_add, Array.getElem?_setIfInBounds_self_of_lt (by rw [Array.size_setIfInBounds]; omega)]
    · rw [if_neg e] at hy
      have hi : i < vs.length := (List.getElem?_eq_some_iff.1 hy).1
      have h5 := h3.2 i y hy
      rw [cell_of_row _ _ _ _ _ _ h1, cell_of_row _ _ _ _ _ _ h1] at h5
      refine ⟨?_, ?_, h5.2.2⟩
      · rw [Array.getElem?_setIfInBounds_ne (by omega), Array.getElem?_setIfInBounds_ne (by omega)]
        exact h5.1
      · rw [Array.getElem?_setIfInBounds_ne (by omega), Array.getElem?_setIfInBounds_ne (by omega)]
        exact h5.2.1
  · rw [List.getElem?_set] at hy
    by_cases e : j = i
    · subst e
      rw [if_pos rfl, if_pos (by omega)] at hy
      cases hy
      have h9 := hx.but hB
      simpa using h9
    · rw [if_neg e] at hy
      show PlOk S _ i y (if i = j then p else mosts i)
      rw [if_neg (fun h => e h.symm)]
      exact (h4 i y hy).but hB
end Go.Proofs.YtmlmnljbegcjcaaGreat

/- reach's regions. -/
namespace Go.Proofs.YtmlmnljbegcjcaaGreat
open Go.RowKit Go.Shelf
attribute [local irreducible] bitCells

theorem run_field103 (x : Value) (y : Int) (w : World) : (Instr.field 103 (.agg #[x, .int .i64 y]) 1).run Tryz.prog w = .ok (.int .i64 y) w := by
  have p1 : (part 2 #[x, .int .i64 y] 1).run Tryz.prog w = .ok (.int .i64 y) w := by kernel_rfl
  simp [Instr.field, run_underlying Tryz.underlying103, asAgg, p1]
theorem run_build127 (w : World) (x0 y0 : Value) (x1 y1 : Int) (hx : ∃ A n c, x0 = .slice A n c) (hy : ∃ A n c, y0 = .slice A n c) : (Instr.buildSlice 127 2 #[(0, .agg #[x0, .int .i64 x1]), (1, .agg #[y0, .int .i64 y1])]).run Tryz.prog w = .ok (.slice (some ⟨w.heap.size, 0, none⟩) 2 2) (w.alloc (.cells #[x0, .int .i64 x1, y0, .int .i64 y1] 103)) := by
  obtain ⟨A, n, c, rfl⟩ := hx
  obtain ⟨A', n', c', rfl⟩ := hy
  go_simp
theorem build127_op {a : Act} {W : World} {o : Oper} {s t : Tmp} {x0 y0 : Value} {x1 y1 : Int} (hx : ∃ A n c, x0 = .slice A n c) (hy : ∃ A n c, y0 = .slice A n c) (hop : o.op = .buildSlice 127 2 #[(0, .tmp s), (1, .tmp t)]) (eR : a.eval (.tmp s) = .agg #[x0, .int .i64 x1]) (eT : a.eval (.tmp t) = .agg #[y0, .int .i64 y1]) :
    (execOp a.eval o).run Tryz.prog W = .ok (.value (.slice (some ⟨W.heap.size, 0, none⟩) 2 2)) (W.alloc (.cells #[x0, .int .i64 x1, y0, .int .i64 y1] 103)) := by
  have h := run_build127 W x0 y0 x1 y1 hx hy
  simp only [execOp, hop, List.map_toArray, List.map_cons, List.map_nil, eR, eT, Sem.run_bind, h]
  rfl
theorem plansAt_two (w : World) (x0 y0 : Value) (x1 y1 : Int) (hx : ∃ A n c, x0 = .slice A n c) (hy : ∃ A n c, y0 = .slice A n c) : PlansAt (w.alloc (.cells #[x0, .int .i64 x1, y0, .int .i64 y1] 103)) w.heap.size 0 [(x0, x1), (y0, y1)] := by
  have hr : (w.alloc (.cells #[x0, .int .i64 x1, y0, .int .i64 y1] 103)).heap[w.heap.size]? = some (.cells #[x0, .int .i64 x1, y0, .int .i64 y1] 103 (0, 0)) := row_last _ _ _ rfl
  refine ⟨(Array.getElem?_eq_some_iff.1 hr).1, fun j x hj => ?_⟩
  match j, hj with
  | 0, hj => cases hj; exact ⟨cell_of_row _ _ _ _ _ _ hr, cell_of_row _ _ _ _ _ _ hr, hx⟩
  | 1, hj => cases hj; exact ⟨cell_of_row _ _ _ _ _ _ hr, cell_of_row _ _ _ _ _ _ hr, hy⟩

/-- A variable that a region makes and stores into, while its operations are listed: L. -/
def Box1 (B i1 j1 : Nat) (d1 : Tmp) (t : TypeId) (y f1 : Array Value) (L : Nat → Bool) (a : Act) (W : World) : Prop :=
  ∃ g1, (L i1 = true → a.eval (.tmp d1) = .pointer (some ⟨g1, 0, none⟩) ∧ B ≤ g1 ∧ W.heap[g1]? = some (.cells (if L j1 then f1 else y) t (0, 0))) ∧ (L i1 = false → L j1 = false)
section
variable {B i1 j1 : Nat} {d1 : Tmp} {t : TypeId} {y f1 : Array Value} {L : Nat → Bool} {a : Act} {W W' : World}
theorem Box1.start : Box1 B i1 j1 d1 t y f1 (fun _ => false) a W := ⟨0, fun h => (by cases h), fun _ => rfl⟩
theorem Box1.stay (h : Box1 B i1 j1 d1 t y f1 L a W) (e : Below W.heap.size W W') {i : Nat} (n1 : i1 ≠ i) (n3 : j1 ≠ i) {d : Tmp} (m1 : d1 ≠ d) (v : Value) :
    Box1 B i1 j1 d1 t y f1 (fun j => decide (j = i) || L j) (a.put (some d) v) W' := by
  obtain ⟨g1, h1, h4⟩ := h
  refine ⟨g1, ?_, ?_⟩ <;> simp only [n1, n3, decide_false, Bool.false_or]
  · intro h
    obtain ⟨q1, q2, q3⟩ := h1 h
    exact ⟨(eval_put_other m1).trans q1, q2, row_ext q3 e⟩
  · exact h4
theorem Box1.alloc (h : Box1 B i1 j1 d1 t y f1 L a W) (hB : B ≤ W.heap.size) (hL : L i1 = false) (n1 : j1 ≠ i1) (hsz : d1 < a.tmps.size) :
    Box1 B i1 j1 d1 t y f1 (fun j => decide (j = i1) || L j) (a.put (some d1) (.pointer (some ⟨W.heap.size, 0, none⟩))) (W.alloc (.cells y t)) := by
  obtain ⟨g1, h1, h4⟩ := h
  refine ⟨W.heap.size, ?_, ?_⟩ <;> simp only [n1, decide_false, Bool.false_or, decide_true, Bool.true_or]
  · intro _
    refine ⟨eval_put_same hsz, hB, ?_⟩
    rw [h4 hL]
    exact row_last _ _ _ rfl
  · intro h; cases h
theorem Box1.at1 (h : Box1 B i1 j1 d1 t y f1 L a W) (hL : L i1 = true) (hj : L j1 = false) : ∃ g, a.eval (.tmp d1) = .pointer (some ⟨g, 0, none⟩) ∧ B ≤ g ∧ W.heap[g]? = some (.cells y t (0, 0)) := by
  obtain ⟨g1, h1, _⟩ := h
  obtain ⟨q1, q2, q3⟩ := h1 hL
  rw [hj] at q3
  exact ⟨g1, q1, q2, q3⟩
theorem Box1.store (h : Box1 B i1 j1 d1 t y f1 L a W) (hL : L i1 = true) {g : Nat} (hg : a.eval (.tmp d1) = .pointer (some ⟨g, 0, none⟩)) (n1 : i1 ≠ j1)
    (hw : W'.heap[g]? = some (.cells f1 t (0, 0))) : Box1 B i1 j1 d1 t y f1 (fun j => decide (j = j1) || L j) a W' := by
  obtain ⟨g1, h1, h4⟩ := h
  obtain ⟨q1, q2, q3⟩ := h1 hL
  rw [hg] at q1
  obtain rfl : g = g1 := by injection q1 with q; injection q with q; injection q
  refine ⟨g, ?_, ?_⟩ <;> simp only [n1, decide_false, Bool.false_or, decide_true, Bool.true_or]
  · exact fun _ => ⟨hg, q2, hw⟩
  · intro h; rw [h] at hL; cases hL
end

def rc4D (i : Nat) : Tmp := if i = 0 then 15 else if i = 1 then 16 else if i = 2 then 17 else if i = 3 then 18 else if i = 4 then 19 else if i = 5 then 20 else if i = 6 then 21 else if i = 7 then 22 else if i = 8 then 23 else if i = 9 then 24 else if i = 10 then 14 else if i = 11 then 25 else if i = 12 then 26 else if i = 13 then 7 else if i = 14 then 98 else 8
def rc4V (pb m p4 b1 bb kk : Nat) (PA : Option Addr) (pn pc : Nat) (pw : Int) (fnd : Bool) (ix : Nat) : Value :=
  match ix with
  | 0 => .pointer (some ⟨pb, 0, none⟩)
  | 1 => .pointer (some ⟨pb, 0, none⟩)
  | 2 => .pointer (some ⟨pb, 1, none⟩)
  | 3 => .map (some m)
  | 4 => .int .i64 (kk : Int)
  | 5 => .pointer (some ⟨p4, 1, none⟩)
  | 6 => .int .i64 (b1 : Int)
  | 7 => .int .i64 (bb : Int)
  | 8 => .agg #[.int .i64 (kk : Int), .int .i64 (bb : Int)]
  | 9 => .tuple #[.agg #[.slice PA pn pc, .int .i64 pw], .bool fnd]
  | 10 => .tuple #[.agg #[.slice PA pn pc, .int .i64 pw], .bool fnd]
  | 11 => .agg #[.slice PA pn pc, .int .i64 pw]
  | 12 => .bool fnd
  | 15 => .bool fnd
  | _ => undef
def rc4P (i : Nat) : Bool := decide (i ≠ 13) && decide (i ≠ 14)
noncomputable def rc4Reg : Array Oper := (Tryz.f99.body.bind (regionOf · 4)).getD #[]
section
variable {pb m p4 b1 bb kk : Nat} {PA : Option Addr} {pn pc : Nat} {pw : Int} {fnd : Bool} {Q : Exit → Act → World → Prop} {a : Act} {V W W0 : World} {o : Oper} {L : Nat → Bool}
set_option maxHeartbeats 1000000 in
theorem rc4_op0 (o0 : a.eval (.tmp 0) = .pointer (some ⟨pb, 0, none⟩)) (ho : rc4Reg[0]? = some o) : o.wp Tryz.prog a W (fun a'' W' => ∃ v, a'' = a.put o.dst v ∧ v = rc4V pb m p4 b1 bb kk PA pn pc pw fnd 0 ∧ Below W.heap.size W W') Q := by
  have hop := op_at ho (·.op) (x := Op.move (Operand.tmp 0)) (by kernel_rfl)
  exact specs_value (R := fun v _ => v = rc4V pb m p4 b1 bb kk PA pn pc pw fnd 0) (v := .pointer (some ⟨pb, 0, none⟩)) (by simp [execOp, hop, go_sem, ev o0]) rfl (Ext.refl W)
set_option maxHeartbeats 1000000 in
theorem rc4_op1 (haft : ∀ j, (o.after.any fun e => decide (e.on = j) && Region.binds .any e) = true → rc4P j = true → a.eval (.tmp (rc4D j)) = rc4V pb m p4 b1 bb kk PA pn pc pw fnd j) (ho : rc4Reg[1]? = some o) : o.wp Tryz.prog a W (fun a'' W' => ∃ v, a'' = a.put o.dst v ∧ v = rc4V pb m p4 b1 bb kk PA pn pc pw fnd 1 ∧ Below W.heap.size W W') Q := by
  have hop := op_at ho (·.op) (x := Op.nilCheck (Operand.tmp 15)) (by kernel_rfl)
  have e0 : a.eval (.tmp 15) = .pointer (some ⟨pb, 0, none⟩) := haft 0 (op_at ho (fun o => o.after.any fun e => decide (e.on = 0) && Region.binds .any e) (x := true) (by kernel_rfl)) rfl
  exact specs_value (R := fun v _ => v = rc4V pb m p4 b1 bb kk PA pn pc pw fnd 1) (v := .pointer (some ⟨pb, 0, none⟩)) (by simp [execOp, hop, go_sem, ev e0]) rfl (Ext.refl W)
set_option maxHeartbeats 1000000 in
theorem rc4_op2 (haft : ∀ j, (o.after.any fun e => decide (e.on = j) && Region.binds .any e) = true → rc4P j = true → a.eval (.tmp (rc4D j)) = rc4V pb m p4 b1 bb kk PA pn pc pw fnd j) (ho : rc4Reg[2]? = some o) : o.wp Tryz.prog a W (fun a'' W' => ∃ v, a'' = a.put o.dst v ∧ v = rc4V pb m p4 b1 bb kk PA pn pc pw fnd 2 ∧ Below W.heap.size W W') Q := by
  have hop := op_at ho (·.op) (x := Op.fieldAddr 129 (Operand.tmp 16) 1) (by kernel_rfl)
  have e1 : a.eval (.tmp 16) = .pointer (some ⟨pb, 0, none⟩) := haft 1 (op_at ho (fun o => o.after.any fun e => decide (e.on = 1) && Region.binds .any e) (x := true) (by kernel_rfl)) rfl
  exact specs_value (R := fun v _ => v = rc4V pb m p4 b1 bb kk PA pn pc pw fnd 2) (v := .pointer (some ⟨pb, 1, none⟩)) (by simp [execOp, hop, go_sem, ev e1]) rfl (Ext.refl W)
set_option maxHeartbeats 1000000 in
theorem rc4_op3 (cm : ∀ W, Ext V W → W.cell? ⟨pb, 1, none⟩ = some (.map (some m))) (hB : Ext V W) (haft : ∀ j, (o.after.any fun e => decide (e.on = j) && Region.binds .any e) = true → rc4P j = true → a.eval (.tmp (rc4D j)) = rc4V pb m p4 b1 bb kk PA pn pc pw fnd j) (ho : rc4Reg[3]? = some o) : o.wp Tryz.prog a W (fun a'' W' => ∃ v, a'' = a.put o.dst v ∧ v = rc4V pb m p4 b1 bb kk PA pn pc pw fnd 3 ∧ Below W.heap.size W W') Q := by
  have hop := op_at ho (·.op) (x := Op.load 126 (Operand.tmp 17)) (by kernel_rfl)
  have e2 : a.eval (.tmp 17) = .pointer (some ⟨pb, 1, none⟩) := haft 2 (op_at ho (fun o => o.after.any fun e => decide (e.on = 2) && Region.binds .any e) (x := true) (by kernel_rfl)) rfl
  have cm' := cm W hB
  exact specs_value (R := fun v _ => v = rc4V pb m p4 b1 bb kk PA pn pc pw fnd 3) (v := .map (some m)) (by simp [execOp, hop, go_sem, ev e2, cm']) rfl (Ext.refl W)
set_option maxHeartbeats 1000000 in
theorem rc4_op4 (o6 : a.eval (.tmp 6) = .int .i64 (kk : Int)) (ho : rc4Reg[4]? = some o) : o.wp Tryz.prog a W (fun a'' W' => ∃ v, a'' = a.put o.dst v ∧ v = rc4V pb m p4 b1 bb kk PA pn pc pw fnd 4 ∧ Below W.heap.size W W') Q := by
  have hop := op_at ho (·.op) (x := Op.move (Operand.tmp 6)) (by kernel_rfl)
  exact specs_value (R := fun v _ => v = rc4V pb m p4 b1 bb kk PA pn pc pw fnd 4) (v := .int .i64 (kk : Int)) (by simp [execOp, hop, go_sem, ev o6]) rfl (Ext.refl W)
set_option maxHeartbeats 1000000 in
theorem rc4_op5 (o4 : a.eval (.tmp 4) = .pointer (some ⟨p4, 0, none⟩)) (ho : rc4Reg[5]? = some o) : o.wp Tryz.prog a W (fun a'' W' => ∃ v, a'' = a.put o.dst v ∧ v = rc4V pb m p4 b1 bb kk PA pn pc pw fnd 5 ∧ Below W.heap.size W W') Q := by
  have hop := op_at ho (·.op) (x := Op.fieldAddr 125 (Operand.tmp 4) 1) (by kernel_rfl)
  exact specs_value (R := fun v _ => v = rc4V pb m p4 b1 bb kk PA pn pc pw fnd 5) (v := .pointer (some ⟨p4, 1, none⟩)) (by simp [execOp, hop, go_sem, ev o4]) rfl (Ext.refl W)
set_option maxHeartbeats 1000000 in
theorem rc4_op6 (d1 : ∀ W, Ext V W → W.cell? ⟨p4, 1, none⟩ = some (.int .i64 (b1 : Int))) (hB : Ext V W) (haft : ∀ j, (o.after.any fun e => decide (e.on = j) && Region.binds .any e) = true → rc4P j = true → a.eval (.tmp (rc4D j)) = rc4V pb m p4 b1 bb kk PA pn pc pw fnd j) (ho : rc4Reg[6]? = some o) : o.wp Tryz.prog a W (fun a'' W' => ∃ v, a'' = a.put o.dst v ∧ v = rc4V pb m p4 b1 bb kk PA pn pc pw fnd 6 ∧ Below W.heap.size W W') Q := by
  have hop := op_at ho (·.op) (x := Op.load 3 (Operand.tmp 20)) (by kernel_rfl)
  have e5 : a.eval (.tmp 20) = .pointer (some ⟨p4, 1, none⟩) := haft 5 (op_at ho (fun o => o.after.any fun e => decide (e.on = 5) && Region.binds .any e) (x := true) (by kernel_rfl)) rfl
  have d1' := d1 W hB
  exact specs_value (R := fun v _ => v = rc4V pb m p4 b1 bb kk PA pn pc pw fnd 6) (v := .int .i64 (b1 : Int)) (by simp [execOp, hop, go_sem, ev e5, d1']) rfl (Ext.refl W)
set_option maxHeartbeats 1000000 in
theorem rc4_op7 (wz : IntKind.i64.wrap ((b1 : Int) - 1) = (bb : Int)) (haft : ∀ j, (o.after.any fun e => decide (e.on = j) && Region.binds .any e) = true → rc4P j = true → a.eval (.tmp (rc4D j)) = rc4V pb m p4 b1 bb kk PA pn pc pw fnd j) (ho : rc4Reg[7]? = some o) : o.wp Tryz.prog a W (fun a'' W' => ∃ v, a'' = a.put o.dst v ∧ v = rc4V pb m p4 b1 bb kk PA pn pc pw fnd 7 ∧ Below W.heap.size W W') Q := by
  have hop := op_at ho (·.op) (x := Op.binOp BinOp.sub 3 (Operand.tmp 21) (Operand.const (Value.int IntKind.i64 1)) 3) (by kernel_rfl)
  have e6 : a.eval (.tmp 21) = .int .i64 (b1 : Int) := haft 6 (op_at ho (fun o => o.after.any fun e => decide (e.on = 6) && Region.binds .any e) (x := true) (by kernel_rfl)) rfl
  exact specs_value (R := fun v _ => v = rc4V pb m p4 b1 bb kk PA pn pc pw fnd 7) (v := .int .i64 (bb : Int)) (by simp [execOp, hop, go_sem, ev e6, wz]) rfl (Ext.refl W)
set_option maxHeartbeats 1000000 in
theorem rc4_op8 (haft : ∀ j, (o.after.any fun e => decide (e.on = j) && Region.binds .any e) = true → rc4P j = true → a.eval (.tmp (rc4D j)) = rc4V pb m p4 b1 bb kk PA pn pc pw fnd j) (ho : rc4Reg[8]? = some o) : o.wp Tryz.prog a W (fun a'' W' => ∃ v, a'' = a.put o.dst v ∧ v = rc4V pb m p4 b1 bb kk PA pn pc pw fnd 8 ∧ Below W.heap.size W W') Q := by
  have hop := op_at ho (·.op) (x := Op.build 125 #[(0, Operand.tmp 19), (1, Operand.tmp 22)]) (by kernel_rfl)
  have e4 : a.eval (.tmp 19) = .int .i64 (kk : Int) := haft 4 (op_at ho (fun o => o.after.any fun e => decide (e.on = 4) && Region.binds .any e) (x := true) (by kernel_rfl)) rfl
  have e7 : a.eval (.tmp 22) = .int .i64 (bb : Int) := haft 7 (op_at ho (fun o => o.after.any fun e => decide (e.on = 7) && Region.binds .any e) (x := true) (by kernel_rfl)) rfl
  exact specs_value (R := fun v _ => v = rc4V pb m p4 b1 bb kk PA pn pc pw fnd 8) (v := .agg #[.int .i64 (kk : Int), .int .i64 (bb : Int)]) (by simp [execOp, hop, go_sem, ev e4, ev e7]) rfl (Ext.refl W)
set_option maxHeartbeats 1000000 in
theorem rc4_op9 (lk : ∀ W, Ext V W → (Instr.lookup 126 (.map (some m)) (.agg #[.int .i64 (kk : Int), .int .i64 (bb : Int)]) true).run Tryz.prog W = .ok (.tuple #[.agg #[.slice PA pn pc, .int .i64 pw], .bool fnd]) W) (hB : Ext V W) (haft : ∀ j, (o.after.any fun e => decide (e.on = j) && Region.binds .any e) = true → rc4P j = true → a.eval (.tmp (rc4D j)) = rc4V pb m p4 b1 bb kk PA pn pc pw fnd j) (ho : rc4Reg[9]? = some o) : o.wp Tryz.prog a W (fun a'' W' => ∃ v, a'' = a.put o.dst v ∧ v = rc4V pb m p4 b1 bb kk PA pn pc pw fnd 9 ∧ Below W.heap.size W W') Q := by
  have hop := op_at ho (·.op) (x := Op.lookup 126 (Operand.tmp 18) (Operand.tmp 23) true) (by kernel_rfl)
  have e3 : a.eval (.tmp 18) = .map (some m) := haft 3 (op_at ho (fun o => o.after.any fun e => decide (e.on = 3) && Region.binds .any e) (x := true) (by kernel_rfl)) rfl
  have e8 : a.eval (.tmp 23) = .agg #[.int .i64 (kk : Int), .int .i64 (bb : Int)] := haft 8 (op_at ho (fun o => o.after.any fun e => decide (e.on = 8) && Region.binds .any e) (x := true) (by kernel_rfl)) rfl
  have lk' := lk W hB
  exact specs_value (R := fun v _ => v = rc4V pb m p4 b1 bb kk PA pn pc pw fnd 9) (v := .tuple #[.agg #[.slice PA pn pc, .int .i64 pw], .bool fnd]) (by simp [execOp, hop, go_sem, ev e3, ev e8, lk']) rfl (Ext.refl W)
set_option maxHeartbeats 1000000 in
theorem rc4_op10 (haft : ∀ j, (o.after.any fun e => decide (e.on = j) && Region.binds .any e) = true → rc4P j = true → a.eval (.tmp (rc4D j)) = rc4V pb m p4 b1 bb kk PA pn pc pw fnd j) (ho : rc4Reg[10]? = some o) : o.wp Tryz.prog a W (fun a'' W' => ∃ v, a'' = a.put o.dst v ∧ v = rc4V pb m p4 b1 bb kk PA pn pc pw fnd 10 ∧ Below W.heap.size W W') Q := by
  have hop := op_at ho (·.op) (x := Op.move (Operand.tmp 24)) (by kernel_rfl)
  have e9 : a.eval (.tmp 24) = .tuple #[.agg #[.slice PA pn pc, .int .i64 pw], .bool fnd] := haft 9 (op_at ho (fun o => o.after.any fun e => decide (e.on = 9) && Region.binds .any e) (x := true) (by kernel_rfl)) rfl
  exact specs_value (R := fun v _ => v = rc4V pb m p4 b1 bb kk PA pn pc pw fnd 10) (v := .tuple #[.agg #[.slice PA pn pc, .int .i64 pw], .bool fnd]) (by simp [execOp, hop, go_sem, ev e9]) rfl (Ext.refl W)
set_option maxHeartbeats 1000000 in
theorem rc4_op11 (haft : ∀ j, (o.after.any fun e => decide (e.on = j) && Region.binds .any e) = true → rc4P j = true → a.eval (.tmp (rc4D j)) = rc4V pb m p4 b1 bb kk PA pn pc pw fnd j) (ho : rc4Reg[11]? = some o) : o.wp Tryz.prog a W (fun a'' W' => ∃ v, a'' = a.put o.dst v ∧ v = rc4V pb m p4 b1 bb kk PA pn pc pw fnd 11 ∧ Below W.heap.size W W') Q := by
  have hop := op_at ho (·.op) (x := Op.extract (Operand.tmp 14) 0) (by kernel_rfl)
  have e10 : a.eval (.tmp 14) = .tuple #[.agg #[.slice PA pn pc, .int .i64 pw], .bool fnd] := haft 10 (op_at ho (fun o => o.after.any fun e => decide (e.on = 10) && Region.binds .any e) (x := true) (by kernel_rfl)) rfl
  exact specs_value (R := fun v _ => v = rc4V pb m p4 b1 bb kk PA pn pc pw fnd 11) (v := .agg #[.slice PA pn pc, .int .i64 pw]) (by simp [execOp, hop, go_sem, ev e10]) rfl (Ext.refl W)
set_option maxHeartbeats 1000000 in
theorem rc4_op12 (haft : ∀ j, (o.after.any fun e => decide (e.on = j) && Region.binds .any e) = true → rc4P j = true → a.eval (.tmp (rc4D j)) = rc4V pb m p4 b1 bb kk PA pn pc pw fnd j) (ho : rc4Reg[12]? = some o) : o.wp Tryz.prog a W (fun a'' W' => ∃ v, a'' = a.put o.dst v ∧ v = rc4V pb m p4 b1 bb kk PA pn pc pw fnd 12 ∧ Below W.heap.size W W') Q := by
  have hop := op_at ho (·.op) (x := Op.extract (Operand.tmp 14) 1) (by kernel_rfl)
  have e10 : a.eval (.tmp 14) = .tuple #[.agg #[.slice PA pn pc, .int .i64 pw], .bool fnd] := haft 10 (op_at ho (fun o => o.after.any fun e => decide (e.on = 10) && Region.binds .any e) (x := true) (by kernel_rfl)) rfl
  exact specs_value (R := fun v _ => v = rc4V pb m p4 b1 bb kk PA pn pc pw fnd 12) (v := .bool fnd) (by simp [execOp, hop, go_sem, ev e10]) rfl (Ext.refl W)
theorem rc4_op13 (hM : Box1 W0.heap.size 13 14 7 103 #[.slice none 0 0, .int .i64 0] #[.slice PA pn pc, .int .i64 pw] L a W) (hE : Ext W0 W) (ha : a.tmps.size = 84) (hL : L 13 = false) (ho : rc4Reg[13]? = some o) : o.wp Tryz.prog a W (fun a'' W' => ∃ v, a'' = a.put o.dst v ∧ Ext W0 W' ∧ Box1 W0.heap.size 13 14 7 103 #[.slice none 0 0, .int .i64 0] #[.slice PA pn pc, .int .i64 pw] (fun j => decide (j = 13) || L j) a'' W') Q := by
  have hop := op_at ho (·.op) (x := Op.alloc 103) (by kernel_rfl)
  have hd := op_at ho (·.dst) (x := some 7) (by kernel_rfl)
  have hr : (execOp a.eval o).run Tryz.prog W = .ok (.value (.pointer (some ⟨W.heap.size, 0, none⟩))) (W.alloc (.cells #[.slice none 0 0, .int .i64 0] 103)) := by simp [execOp, hop, go_sem]
  unfold Oper.wp
  rw [hr]
  refine ⟨_, rfl, hE.trans (ext_alloc _ _), ?_⟩
  rw [hd]
  exact Box1.alloc hM hE.size hL (by decide) (by rw [ha]; decide)
set_option maxHeartbeats 1000000 in
theorem rc4_op14 (hM : Box1 W0.heap.size 13 14 7 103 #[.slice none 0 0, .int .i64 0] #[.slice PA pn pc, .int .i64 pw] L a W) (hE : Ext W0 W) (hL : L 14 = false) (haft : ∀ j, (o.after.any fun e => decide (e.on = j) && Region.binds .any e) = true → L j = true ∧ (rc4P j = true → a.eval (.tmp (rc4D j)) = rc4V pb m p4 b1 bb kk PA pn pc pw fnd j)) (ho : rc4Reg[14]? = some o) : o.wp Tryz.prog a W (fun a'' W' => ∃ v, a'' = a.put o.dst v ∧ Ext W0 W' ∧ Box1 W0.heap.size 13 14 7 103 #[.slice none 0 0, .int .i64 0] #[.slice PA pn pc, .int .i64 pw] (fun j => decide (j = 14) || L j) a'' W') Q := by
  have hop := op_at ho (·.op) (x := Op.store 103 (Operand.tmp 7) (Operand.tmp 25)) (by kernel_rfl)
  have hd := op_at ho (·.dst) (x := none) (by kernel_rfl)
  have hLi : L 13 = true := (haft 13 (op_at ho (fun o => o.after.any fun e => decide (e.on = 13) && Region.binds .any e) (x := true) (by kernel_rfl))).1
  have ev1 : a.eval (.tmp 25) = .agg #[.slice PA pn pc, .int .i64 pw] := (haft 11 (op_at ho (fun o => o.after.any fun e => decide (e.on = 11) && Region.binds .any e) (x := true) (by kernel_rfl))).2 rfl
  obtain ⟨g, hg, hBg, hrow⟩ := hM.at1 hLi hL
  have fz0 : W.frozen? ⟨g, 0, none⟩ = false := by simp [World.frozen?, hrow]
  have fz1 : ∀ x, (W.setCell ⟨g, 0, none⟩ x).frozen? ⟨g, 1, none⟩ = false := fun x => by simp [World.frozen?, World.setCell, Array.getElem?_modify, hrow]
  have cl0 : W.cell? ⟨g, 0, none⟩ = some (.slice none 0 0) := cell_of_row _ _ _ _ _ _ hrow
  have cl1 : ∀ x, (W.setCell ⟨g, 0, none⟩ x).cell? ⟨g, 1, none⟩ = some (.int .i64 0) := fun x => cell_of_row _ _ _ _ _ _ (row_setCell W g 0 x _ 103 _ hrow)
  have hr : (execOp a.eval o).run Tryz.prog W = .ok .skip ((W.setCell ⟨g, 0, none⟩ (.slice PA pn pc)).setCell ⟨g, 1, none⟩ (.int .i64 pw)) := by simp [execOp, hop, go_sem, ev hg, ev ev1, fz0, fz1, cl0, cl1]
  unfold Oper.wp
  rw [hr]
  refine ⟨undef, rfl, (hE.setCell (p := ⟨g, 0, none⟩) hBg _).setCell (p := ⟨g, 1, none⟩) hBg _, ?_⟩
  rw [hd]
  exact Box1.store hM hLi hg (by decide) (set2_row _ _ _ _ _ _ _ hrow)
set_option maxHeartbeats 1000000 in
theorem rc4_op15 (haft : ∀ j, (o.after.any fun e => decide (e.on = j) && Region.binds .any e) = true → rc4P j = true → a.eval (.tmp (rc4D j)) = rc4V pb m p4 b1 bb kk PA pn pc pw fnd j) (ho : rc4Reg[15]? = some o) : o.wp Tryz.prog a W (fun a'' W' => ∃ v, a'' = a.put o.dst v ∧ v = rc4V pb m p4 b1 bb kk PA pn pc pw fnd 15 ∧ Below W.heap.size W W') Q := by
  have hop := op_at ho (·.op) (x := Op.assign (Operand.tmp 26)) (by kernel_rfl)
  have e12 : a.eval (.tmp 26) = .bool fnd := haft 12 (op_at ho (fun o => o.after.any fun e => decide (e.on = 12) && Region.binds .any e) (x := true) (by kernel_rfl)) rfl
  exact specs_value (R := fun v _ => v = rc4V pb m p4 b1 bb kk PA pn pc pw fnd 15) (v := .bool fnd) (by simp [execOp, hop, go_sem, ev e12]) rfl (Ext.refl W)
theorem rc4_size : rc4Reg.size = 16 := by kernel_rfl
set_option maxRecDepth 100000 in
set_option maxHeartbeats 4000000 in
/-- Region 4 of function 99. -/
theorem rc4_wp {id : Nat} (hlen : a.tmps.size = 84) (o0 : a.eval (.tmp 0) = .pointer (some ⟨pb, 0, none⟩)) (o4 : a.eval (.tmp 4) = .pointer (some ⟨p4, 0, none⟩)) (o6 : a.eval (.tmp 6) = .int .i64 (kk : Int)) (cm : ∀ W, Ext V W → W.cell? ⟨pb, 1, none⟩ = some (.map (some m))) (d1 : ∀ W, Ext V W → W.cell? ⟨p4, 1, none⟩ = some (.int .i64 (b1 : Int))) (wz : IntKind.i64.wrap ((b1 : Int) - 1) = (bb : Int)) (lk : ∀ W, Ext V W → (Instr.lookup 126 (.map (some m)) (.agg #[.int .i64 (kk : Int), .int .i64 (bb : Int)]) true).run Tryz.prog W = .ok (.tuple #[.agg #[.slice PA pn pc, .int .i64 pw], .bool fnd]) W)
    (K : ∀ (W : World) (g1 : Nat), Ext V W → V.heap.size ≤ g1 → W.heap[g1]? = some (.cells #[.slice PA pn pc, .int .i64 pw] 103 (0, 0)) → Q .normal (puts a [(15, .pointer (some ⟨pb, 0, none⟩)), (16, .pointer (some ⟨pb, 0, none⟩)), (17, .pointer (some ⟨pb, 1, none⟩)), (18, .map (some m)), (19, .int .i64 (kk : Int)), (20, .pointer (some ⟨p4, 1, none⟩)), (21, .int .i64 (b1 : Int)), (22, .int .i64 (bb : Int)), (23, .agg #[.int .i64 (kk : Int), .int .i64 (bb : Int)]), (24, .tuple #[.agg #[.slice PA pn pc, .int .i64 pw], .bool fnd]), (14, .tuple #[.agg #[.slice PA pn pc, .int .i64 pw], .bool fnd]), (25, .agg #[.slice PA pn pc, .int .i64 pw]), (26, .bool fnd), (8, .bool fnd), (7, .pointer (some ⟨g1, 0, none⟩))]) W) : (Code.region id rc4Reg true).wp Tryz.prog Q a V := by
  have hsize := rc4_size
  refine wp_region_mem (W0 := V) rc4P (rc4V pb m p4 b1 bb kk PA pn pc pw fnd) rc4D (Box1 V.heap.size 13 14 7 103 #[.slice none 0 0, .int .i64 0] #[.slice PA pn pc, .int .i64 pw]) (by kernel_rfl) (by rw [hlen]; kernel_rfl) (⟨rfl, rfl, rfl, Nat.le_refl _, fun _ _ => rfl⟩ : Below V.heap.size V { V with drawn := V.drawn + 1 }) Box1.start ?_ ?_ ?_ ?_
  · intro L a' W W' i v hi hp hM _ e hsz
    rw [hsize] at hi
    refine Box1.stay hM e (fun h => ?_) (fun h => ?_) (fun h => ?_) v
    all_goals first
      | (subst h; revert hp; decide)
      | (revert hp h; revert i; decide)
  · intro i o ho hp a' W hB hsz hold haft
    have hi : i < 16 := by
      have h1 := (Array.getElem?_eq_some_iff.1 ho).1
      omega
    match i, hi with
    | 0, _ => exact rc4_op0 ((hold 0 (by rw [hsize]; kernel_rfl)).trans o0) ho
    | 1, _ => exact rc4_op1 haft ho
    | 2, _ => exact rc4_op2 haft ho
    | 3, _ => exact rc4_op3 cm hB haft ho
    | 4, _ => exact rc4_op4 ((hold 6 (by rw [hsize]; kernel_rfl)).trans o6) ho
    | 5, _ => exact rc4_op5 ((hold 4 (by rw [hsize]; kernel_rfl)).trans o4) ho
    | 6, _ => exact rc4_op6 d1 hB haft ho
    | 7, _ => exact rc4_op7 wz haft ho
    | 8, _ => exact rc4_op8 haft ho
    | 9, _ => exact rc4_op9 lk hB haft ho
    | 10, _ => exact rc4_op10 haft ho
    | 11, _ => exact rc4_op11 haft ho
    | 12, _ => exact rc4_op12 haft ho
    | 15, _ => exact rc4_op15 haft ho
    | 13, _ => exact absurd hp (by decide)
    | 14, _ => exact absurd hp (by decide)
    | m + 16, h => exact absurd h (by omega)
  · intro i o ho hp L a' W hE hsz hold haft hL hM
    have hi : i < 16 := by
      have h1 := (Array.getElem?_eq_some_iff.1 ho).1
      omega
    match i, hi with
    | 13, _ => exact rc4_op13 hM hE (hsz.trans hlen) hL ho
    | 14, _ => exact rc4_op14 hM hE hL haft ho
    | 0, _ => exact absurd hp (by decide)
    | 1, _ => exact absurd hp (by decide)
    | 2, _ => exact absurd hp (by decide)
    | 3, _ => exact absurd hp (by decide)
    | 4, _ => exact absurd hp (by decide)
    | 5, _ => exact absurd hp (by decide)
    | 6, _ => exact absurd hp (by decide)
    | 7, _ => exact absurd hp (by decide)
    | 8, _ => exact absurd hp (by decide)
    | 9, _ => exact absurd hp (by decide)
    | 10, _ => exact absurd hp (by decide)
    | 11, _ => exact absurd hp (by decide)
    | 12, _ => exact absurd hp (by decide)
    | 15, _ => exact absurd hp (by decide)
    | m + 16, h => exact absurd h (by omega)
  · intro a1 W hE hsz hdf hold hS hM
    rw [hsize] at hold hS hM
    obtain ⟨g1, h1, _⟩ := hM
    obtain ⟨pa1, qa1, ra1⟩ := h1 (by decide)
    rw [if_pos (by decide)] at ra1
    have hall : ∀ zz, zz ∈ ([(15, .pointer (some ⟨pb, 0, none⟩)), (16, .pointer (some ⟨pb, 0, none⟩)), (17, .pointer (some ⟨pb, 1, none⟩)), (18, .map (some m)), (19, .int .i64 (kk : Int)), (20, .pointer (some ⟨p4, 1, none⟩)), (21, .int .i64 (b1 : Int)), (22, .int .i64 (bb : Int)), (23, .agg #[.int .i64 (kk : Int), .int .i64 (bb : Int)]), (24, .tuple #[.agg #[.slice PA pn pc, .int .i64 pw], .bool fnd]), (14, .tuple #[.agg #[.slice PA pn pc, .int .i64 pw], .bool fnd]), (25, .agg #[.slice PA pn pc, .int .i64 pw]), (26, .bool fnd), (8, .bool fnd), (7, .pointer (some ⟨g1, 0, none⟩))] : List (Tmp × Value)) → zz.1 < a.tmps.size ∧ a1.eval (.tmp zz.1) = zz.2 := by
      intro zz hz
      rw [hlen]
      simp only [List.mem_cons, List.not_mem_nil, or_false] at hz
      rcases hz with rfl | rfl | rfl | rfl | rfl | rfl | rfl | rfl | rfl | rfl | rfl | rfl | rfl | rfl | rfl
      · exact ⟨(show (15 : Nat) < 84 by omega), hS 0 (by omega) (by decide)⟩
      · exact ⟨(show (16 : Nat) < 84 by omega), hS 1 (by omega) (by decide)⟩
      · exact ⟨(show (17 : Nat) < 84 by omega), hS 2 (by omega) (by decide)⟩
      · exact ⟨(show (18 : Nat) < 84 by omega), hS 3 (by omega) (by decide)⟩
      · exact ⟨(show (19 : Nat) < 84 by omega), hS 4 (by omega) (by decide)⟩
      · exact ⟨(show (20 : Nat) < 84 by omega), hS 5 (by omega) (by decide)⟩
      · exact ⟨(show (21 : Nat) < 84 by omega), hS 6 (by omega) (by decide)⟩
      · exact ⟨(show (22 : Nat) < 84 by omega), hS 7 (by omega) (by decide)⟩
      · exact ⟨(show (23 : Nat) < 84 by omega), hS 8 (by omega) (by decide)⟩
      · exact ⟨(show (24 : Nat) < 84 by omega), hS 9 (by omega) (by decide)⟩
      · exact ⟨(show (14 : Nat) < 84 by omega), hS 10 (by omega) (by decide)⟩
      · exact ⟨(show (25 : Nat) < 84 by omega), hS 11 (by omega) (by decide)⟩
      · exact ⟨(show (26 : Nat) < 84 by omega), hS 12 (by omega) (by decide)⟩
      · exact ⟨(show (8 : Nat) < 84 by omega), hS 15 (by omega) (by decide)⟩
      · exact ⟨(show (7 : Nat) < 84 by omega), pa1⟩
    have ha := act_puts hsz hdf hall (fun t ht => by
      by_cases hz1 : t = 98
      · subst hz1
        simp [Act.eval, hsz, hlen]
      refine hold t (all_ne_of (l := [(15, undef), (16, undef), (17, undef), (18, undef), (19, undef), (20, undef), (21, undef), (22, undef), (23, undef), (24, undef), (14, undef), (25, undef), (26, undef), (7, undef), (98, undef), (8, undef)]) (by rfl) ?_)
      intro hmem
      simp only [List.map_cons, List.map_nil, List.mem_cons, List.not_mem_nil, or_false] at hmem
      rcases hmem with rfl | rfl | rfl | rfl | rfl | rfl | rfl | rfl | rfl | rfl | rfl | rfl | rfl | rfl | rfl | rfl <;> first | exact hz1 rfl | exact ht (by simp))
    rw [ha]
    exact K W g1 hE qa1 ra1
end

/-- The slots of region 6 of function 99. -/
def rc6D (i : Nat) : Tmp := if i = 0 then 28 else if i = 1 then 29 else if i = 2 then 30 else if i = 3 then 31 else if i = 4 then 32 else if i = 5 then 33 else if i = 6 then 34 else if i = 7 then 35 else if i = 8 then 36 else if i = 9 then 37 else if i = 10 then 38 else if i = 11 then 39 else if i = 12 then 40 else if i = 13 then 41 else if i = 14 then 42 else if i = 15 then 43 else if i = 16 then 44 else if i = 17 then 45 else if i = 18 then 46 else 47
/-- What each operation yields. -/
def rc6S (pb m _p4 _p7 ll b1 nn cc sz pn pc cn ck : Nat) (A PA CA : Option Addr) (cw pw x wt : Int) (bx : List Int) (ix : Nat) (v : Value) (W : World) : Prop :=
  match ix with
  | 0 => v = .pointer (some ⟨pb, 0, none⟩)
  | 1 => v = .pointer (some ⟨pb, 0, none⟩)
  | 2 => v = .pointer (some ⟨pb, 1, none⟩)
  | 3 => v = .map (some m)
  | 4 => v = .agg #[.int .i64 (ll : Int), .int .i64 (b1 : Int)]
  | 5 => v = .pointer (some ⟨pb, 0, none⟩)
  | 6 => v = .pointer (some ⟨pb, 0, none⟩)
  | 7 => v = .pointer (some ⟨pb, 1, none⟩)
  | 8 => v = .map (some m)
  | 9 => v = .agg #[.int .i64 (ll : Int), .int .i64 (b1 : Int)]
  | 10 => v = .agg #[.slice CA cn ck, .int .i64 cw]
  | 11 => v = .pointer (some ⟨pb, 0, none⟩)
  | 12 => v = .pointer (some ⟨pb, 0, none⟩)
  | 13 => v = .pointer (some ⟨pb, 0, none⟩)
  | 14 => v = .slice A nn cc
  | 15 => v = .agg #[.slice PA pn pc, .int .i64 pw]
  | 16 => v = .int .i64 x
  | 17 => ∃ u, v = .agg #[u, .int .i64 wt] ∧ PlanV W u bx ∧ ∀ b' o' n' d', u = .slice (some ⟨b', o', none⟩) n' d' → sz ≤ b'
  | 18 => ∃ q u, v = .slice (some ⟨q, 0, none⟩) 2 2 ∧ PlansAt W q 0 [(.slice CA cn ck, cw), (u, wt)] ∧ PlanV W u bx ∧ ∀ b' o' n' d', u = .slice (some ⟨b', o', none⟩) n' d' → sz ≤ b'
  | 19 => ∃ u, v = planV (maxV [(.slice CA cn ck, cw), (u, wt)]) ∧ PlanV W u bx ∧ ∀ b' o' n' d', u = .slice (some ⟨b', o', none⟩) n' d' → sz ≤ b'
  | _ => True
noncomputable def rc6Reg : Array Oper := (Tryz.f99.body.bind (regionOf · 6)).getD #[]
theorem rc6S_ext {pb m p4 p7 ll b1 nn cc sz pn pc cn ck : Nat} {A PA CA : Option Addr} {cw pw x wt : Int} {bx : List Int} : ∀ (i : Nat) (v : Value) (W W' : World), rc6S pb m p4 p7 ll b1 nn cc sz pn pc cn ck A PA CA cw pw x wt bx i v W → Below W.heap.size W W' → rc6S pb m p4 p7 ll b1 nn cc sz pn pc cn ck A PA CA cw pw x wt bx i v W' := by
  intro i v W W' h e
  match i with
  | 0 => exact h
  | 1 => exact h
  | 2 => exact h
  | 3 => exact h
  | 4 => exact h
  | 5 => exact h
  | 6 => exact h
  | 7 => exact h
  | 8 => exact h
  | 9 => exact h
  | 10 => exact h
  | 11 => exact h
  | 12 => exact h
  | 13 => exact h
  | 14 => exact h
  | 15 => exact h
  | 16 => exact h
  | 17 => (obtain ⟨u, h1, h2, h3⟩ := h; exact ⟨u, h1, h2.ext e, h3⟩)
  | 18 => (obtain ⟨q, u, h1, h2, h3, h4⟩ := h; exact ⟨q, u, h1, h2.ext e, h3.ext e, h4⟩)
  | 19 => (obtain ⟨u, h1, h2, h3⟩ := h; exact ⟨u, h1, h2.ext e, h3⟩)
  | k + 20 => exact trivial
def rc6Ok (pb m p4 p7 ll b1 nn cc sz pn pc cn ck : Nat) (A PA CA : Option Addr) (cw pw x wt : Int) (bx : List Int) (Q : Exit → Act → World → Prop) (a : Act) (W : World) (ix : Nat) (o : Oper) : Prop :=
  (∀ j b, o.guard = some (j, b) → a.eval (.tmp (rc6D j)) = .bool b) ∧ o.wp Tryz.prog a W (fun a'' W' => ∃ v, a'' = a.put o.dst v ∧ rc6S pb m p4 p7 ll b1 nn cc sz pn pc cn ck A PA CA cw pw x wt bx ix v W' ∧ Below W.heap.size W W') Q
section
variable {pb m p4 p7 ll b1 nn cc sz pn pc cn ck : Nat} {A PA CA : Option Addr} {cw pw x wt : Int} {bx : List Int} {Q : Exit → Act → World → Prop} {a : Act} {V W : World} {o : Oper}
set_option maxHeartbeats 1000000 in
theorem rc6_op0 (o0 : a.eval (.tmp 0) = .pointer (some ⟨pb, 0, none⟩)) (ho : rc6Reg[0]? = some o) : rc6Ok pb m p4 p7 ll b1 nn cc sz pn pc cn ck A PA CA cw pw x wt bx Q a W 0 o := by
  have hop := op_at ho (·.op) (x := Op.move (Operand.tmp 0)) (by kernel_rfl)
  have hgd := op_at ho (·.guard) (x := none) (by kernel_rfl)
  refine ⟨fun j b h => (by rw [hgd] at h; cases h), ?_⟩
  exact specs_value (R := fun v W => rc6S pb m p4 p7 ll b1 nn cc sz pn pc cn ck A PA CA cw pw x wt bx 0 v W) (v := .pointer (some ⟨pb, 0, none⟩)) (by simp [execOp, hop, go_sem, ev o0]) rfl (Ext.refl W)
set_option maxHeartbeats 1000000 in
theorem rc6_op1 (haft : ∀ j, (o.after.any fun e => decide (e.on = j) && Region.binds .any e) = true → rc6S pb m p4 p7 ll b1 nn cc sz pn pc cn ck A PA CA cw pw x wt bx j (a.eval (.tmp (rc6D j))) W) (ho : rc6Reg[1]? = some o) : rc6Ok pb m p4 p7 ll b1 nn cc sz pn pc cn ck A PA CA cw pw x wt bx Q a W 1 o := by
  have hop := op_at ho (·.op) (x := Op.nilCheck (Operand.tmp 28)) (by kernel_rfl)
  have hgd := op_at ho (·.guard) (x := none) (by kernel_rfl)
  have e0 : a.eval (.tmp 28) = .pointer (some ⟨pb, 0, none⟩) := haft 0 (op_at ho (fun o => o.after.any fun e => decide (e.on = 0) && Region.binds .any e) (x := true) (by kernel_rfl))
  refine ⟨fun j b h => (by rw [hgd] at h; cases h), ?_⟩
  exact specs_value (R := fun v W => rc6S pb m p4 p7 ll b1 nn cc sz pn pc cn ck A PA CA cw pw x wt bx 1 v W) (v := .pointer (some ⟨pb, 0, none⟩)) (by simp [execOp, hop, go_sem, ev e0]) rfl (Ext.refl W)
set_option maxHeartbeats 1000000 in
theorem rc6_op2 (haft : ∀ j, (o.after.any fun e => decide (e.on = j) && Region.binds .any e) = true → rc6S pb m p4 p7 ll b1 nn cc sz pn pc cn ck A PA CA cw pw x wt bx j (a.eval (.tmp (rc6D j))) W) (ho : rc6Reg[2]? = some o) : rc6Ok pb m p4 p7 ll b1 nn cc sz pn pc cn ck A PA CA cw pw x wt bx Q a W 2 o := by
  have hop := op_at ho (·.op) (x := Op.fieldAddr 129 (Operand.tmp 29) 1) (by kernel_rfl)
  have hgd := op_at ho (·.guard) (x := none) (by kernel_rfl)
  have e1 : a.eval (.tmp 29) = .pointer (some ⟨pb, 0, none⟩) := haft 1 (op_at ho (fun o => o.after.any fun e => decide (e.on = 1) && Region.binds .any e) (x := true) (by kernel_rfl))
  refine ⟨fun j b h => (by rw [hgd] at h; cases h), ?_⟩
  exact specs_value (R := fun v W => rc6S pb m p4 p7 ll b1 nn cc sz pn pc cn ck A PA CA cw pw x wt bx 2 v W) (v := .pointer (some ⟨pb, 1, none⟩)) (by simp [execOp, hop, go_sem, ev e1]) rfl (Ext.refl W)
set_option maxHeartbeats 1000000 in
theorem rc6_op3 (cm : ∀ W, Ext V W → W.cell? ⟨pb, 1, none⟩ = some (.map (some m))) (hB : Ext V W) (haft : ∀ j, (o.after.any fun e => decide (e.on = j) && Region.binds .any e) = true → rc6S pb m p4 p7 ll b1 nn cc sz pn pc cn ck A PA CA cw pw x wt bx j (a.eval (.tmp (rc6D j))) W) (ho : rc6Reg[3]? = some o) : rc6Ok pb m p4 p7 ll b1 nn cc sz pn pc cn ck A PA CA cw pw x wt bx Q a W 3 o := by
  have hop := op_at ho (·.op) (x := Op.load 126 (Operand.tmp 30)) (by kernel_rfl)
  have hgd := op_at ho (·.guard) (x := none) (by kernel_rfl)
  have e2 : a.eval (.tmp 30) = .pointer (some ⟨pb, 1, none⟩) := haft 2 (op_at ho (fun o => o.after.any fun e => decide (e.on = 2) && Region.binds .any e) (x := true) (by kernel_rfl))
  refine ⟨fun j b h => (by rw [hgd] at h; cases h), ?_⟩
  have cm' := cm W hB
  exact specs_value (R := fun v W => rc6S pb m p4 p7 ll b1 nn cc sz pn pc cn ck A PA CA cw pw x wt bx 3 v W) (v := .map (some m)) (by simp [execOp, hop, go_sem, ev e2, cm']) rfl (Ext.refl W)
set_option maxHeartbeats 1000000 in
theorem rc6_op4 (o4 : a.eval (.tmp 4) = .pointer (some ⟨p4, 0, none⟩)) (d0 : ∀ W, Ext V W → W.cell? ⟨p4, 0, none⟩ = some (.int .i64 (ll : Int))) (d1 : ∀ W, Ext V W → W.cell? ⟨p4, 1, none⟩ = some (.int .i64 (b1 : Int))) (hB : Ext V W) (ho : rc6Reg[4]? = some o) : rc6Ok pb m p4 p7 ll b1 nn cc sz pn pc cn ck A PA CA cw pw x wt bx Q a W 4 o := by
  have hop := op_at ho (·.op) (x := Op.load 125 (Operand.tmp 4)) (by kernel_rfl)
  have hgd := op_at ho (·.guard) (x := none) (by kernel_rfl)
  refine ⟨fun j b h => (by rw [hgd] at h; cases h), ?_⟩
  have d0' := d0 W hB
  have d1' := d1 W hB
  exact specs_value (R := fun v W => rc6S pb m p4 p7 ll b1 nn cc sz pn pc cn ck A PA CA cw pw x wt bx 4 v W) (v := .agg #[.int .i64 (ll : Int), .int .i64 (b1 : Int)]) (by simp [execOp, hop, go_sem, ev o4, d0', d1']) rfl (Ext.refl W)
set_option maxHeartbeats 1000000 in
theorem rc6_op5 (o0 : a.eval (.tmp 0) = .pointer (some ⟨pb, 0, none⟩)) (ho : rc6Reg[5]? = some o) : rc6Ok pb m p4 p7 ll b1 nn cc sz pn pc cn ck A PA CA cw pw x wt bx Q a W 5 o := by
  have hop := op_at ho (·.op) (x := Op.move (Operand.tmp 0)) (by kernel_rfl)
  have hgd := op_at ho (·.guard) (x := none) (by kernel_rfl)
  refine ⟨fun j b h => (by rw [hgd] at h; cases h), ?_⟩
  exact specs_value (R := fun v W => rc6S pb m p4 p7 ll b1 nn cc sz pn pc cn ck A PA CA cw pw x wt bx 5 v W) (v := .pointer (some ⟨pb, 0, none⟩)) (by simp [execOp, hop, go_sem, ev o0]) rfl (Ext.refl W)
set_option maxHeartbeats 1000000 in
theorem rc6_op6 (haft : ∀ j, (o.after.any fun e => decide (e.on = j) && Region.binds .any e) = true → rc6S pb m p4 p7 ll b1 nn cc sz pn pc cn ck A PA CA cw pw x wt bx j (a.eval (.tmp (rc6D j))) W) (ho : rc6Reg[6]? = some o) : rc6Ok pb m p4 p7 ll b1 nn cc sz pn pc cn ck A PA CA cw pw x wt bx Q a W 6 o := by
  have hop := op_at ho (·.op) (x := Op.nilCheck (Operand.tmp 33)) (by kernel_rfl)
  have hgd := op_at ho (·.guard) (x := none) (by kernel_rfl)
  have e5 : a.eval (.tmp 33) = .pointer (some ⟨pb, 0, none⟩) := haft 5 (op_at ho (fun o => o.after.any fun e => decide (e.on = 5) && Region.binds .any e) (x := true) (by kernel_rfl))
  refine ⟨fun j b h => (by rw [hgd] at h; cases h), ?_⟩
  exact specs_value (R := fun v W => rc6S pb m p4 p7 ll b1 nn cc sz pn pc cn ck A PA CA cw pw x wt bx 6 v W) (v := .pointer (some ⟨pb, 0, none⟩)) (by simp [execOp, hop, go_sem, ev e5]) rfl (Ext.refl W)
set_option maxHeartbeats 1000000 in
theorem rc6_op7 (haft : ∀ j, (o.after.any fun e => decide (e.on = j) && Region.binds .any e) = true → rc6S pb m p4 p7 ll b1 nn cc sz pn pc cn ck A PA CA cw pw x wt bx j (a.eval (.tmp (rc6D j))) W) (ho : rc6Reg[7]? = some o) : rc6Ok pb m p4 p7 ll b1 nn cc sz pn pc cn ck A PA CA cw pw x wt bx Q a W 7 o := by
  have hop := op_at ho (·.op) (x := Op.fieldAddr 129 (Operand.tmp 34) 1) (by kernel_rfl)
  have hgd := op_at ho (·.guard) (x := none) (by kernel_rfl)
  have e6 : a.eval (.tmp 34) = .pointer (some ⟨pb, 0, none⟩) := haft 6 (op_at ho (fun o => o.after.any fun e => decide (e.on = 6) && Region.binds .any e) (x := true) (by kernel_rfl))
  refine ⟨fun j b h => (by rw [hgd] at h; cases h), ?_⟩
  exact specs_value (R := fun v W => rc6S pb m p4 p7 ll b1 nn cc sz pn pc cn ck A PA CA cw pw x wt bx 7 v W) (v := .pointer (some ⟨pb, 1, none⟩)) (by simp [execOp, hop, go_sem, ev e6]) rfl (Ext.refl W)
set_option maxHeartbeats 1000000 in
theorem rc6_op8 (cm : ∀ W, Ext V W → W.cell? ⟨pb, 1, none⟩ = some (.map (some m))) (hB : Ext V W) (haft : ∀ j, (o.after.any fun e => decide (e.on = j) && Region.binds .any e) = true → rc6S pb m p4 p7 ll b1 nn cc sz pn pc cn ck A PA CA cw pw x wt bx j (a.eval (.tmp (rc6D j))) W) (ho : rc6Reg[8]? = some o) : rc6Ok pb m p4 p7 ll b1 nn cc sz pn pc cn ck A PA CA cw pw x wt bx Q a W 8 o := by
  have hop := op_at ho (·.op) (x := Op.load 126 (Operand.tmp 35)) (by kernel_rfl)
  have hgd := op_at ho (·.guard) (x := none) (by kernel_rfl)
  have e7 : a.eval (.tmp 35) = .pointer (some ⟨pb, 1, none⟩) := haft 7 (op_at ho (fun o => o.after.any fun e => decide (e.on = 7) && Region.binds .any e) (x := true) (by kernel_rfl))
  refine ⟨fun j b h => (by rw [hgd] at h; cases h), ?_⟩
  have cm' := cm W hB
  exact specs_value (R := fun v W => rc6S pb m p4 p7 ll b1 nn cc sz pn pc cn ck A PA CA cw pw x wt bx 8 v W) (v := .map (some m)) (by simp [execOp, hop, go_sem, ev e7, cm']) rfl (Ext.refl W)
set_option maxHeartbeats 1000000 in
theorem rc6_op9 (o4 : a.eval (.tmp 4) = .pointer (some ⟨p4, 0, none⟩)) (d0 : ∀ W, Ext V W → W.cell? ⟨p4, 0, none⟩ = some (.int .i64 (ll : Int))) (d1 : ∀ W, Ext V W → W.cell? ⟨p4, 1, none⟩ = some (.int .i64 (b1 : Int))) (hB : Ext V W) (ho : rc6Reg[9]? = some o) : rc6Ok pb m p4 p7 ll b1 nn cc sz pn pc cn ck A PA CA cw pw x wt bx Q a W 9 o := by
  have hop := op_at ho (·.op) (x := Op.load 125 (Operand.tmp 4)) (by kernel_rfl)
  have hgd := op_at ho (·.guard) (x := none) (by kernel_rfl)
  refine ⟨fun j b h => (by rw [hgd] at h; cases h), ?_⟩
  have d0' := d0 W hB
  have d1' := d1 W hB
  exact specs_value (R := fun v W => rc6S pb m p4 p7 ll b1 nn cc sz pn pc cn ck A PA CA cw pw x wt bx 9 v W) (v := .agg #[.int .i64 (ll : Int), .int .i64 (b1 : Int)]) (by simp [execOp, hop, go_sem, ev o4, d0', d1']) rfl (Ext.refl W)
set_option maxHeartbeats 1000000 in
theorem rc6_op10 (ly : ∀ W, Ext V W → (Instr.lookup 126 (.map (some m)) (.agg #[.int .i64 (ll : Int), .int .i64 (b1 : Int)]) false).run Tryz.prog W = .ok (.agg #[.slice CA cn ck, .int .i64 cw]) W) (hB : Ext V W) (haft : ∀ j, (o.after.any fun e => decide (e.on = j) && Region.binds .any e) = true → rc6S pb m p4 p7 ll b1 nn cc sz pn pc cn ck A PA CA cw pw x wt bx j (a.eval (.tmp (rc6D j))) W) (ho : rc6Reg[10]? = some o) : rc6Ok pb m p4 p7 ll b1 nn cc sz pn pc cn ck A PA CA cw pw x wt bx Q a W 10 o := by
  have hop := op_at ho (·.op) (x := Op.lookup 126 (Operand.tmp 36) (Operand.tmp 37) false) (by kernel_rfl)
  have hgd := op_at ho (·.guard) (x := none) (by kernel_rfl)
  have e8 : a.eval (.tmp 36) = .map (some m) := haft 8 (op_at ho (fun o => o.after.any fun e => decide (e.on = 8) && Region.binds .any e) (x := true) (by kernel_rfl))
  have e9 : a.eval (.tmp 37) = .agg #[.int .i64 (ll : Int), .int .i64 (b1 : Int)] := haft 9 (op_at ho (fun o => o.after.any fun e => decide (e.on = 9) && Region.binds .any e) (x := true) (by kernel_rfl))
  refine ⟨fun j b h => (by rw [hgd] at h; cases h), ?_⟩
  have ly' := ly W hB
  exact specs_value (R := fun v W => rc6S pb m p4 p7 ll b1 nn cc sz pn pc cn ck A PA CA cw pw x wt bx 10 v W) (v := .agg #[.slice CA cn ck, .int .i64 cw]) (by simp [execOp, hop, go_sem, ev e8, ev e9, ly']) rfl (Ext.refl W)
set_option maxHeartbeats 1000000 in
theorem rc6_op11 (o0 : a.eval (.tmp 0) = .pointer (some ⟨pb, 0, none⟩)) (ho : rc6Reg[11]? = some o) : rc6Ok pb m p4 p7 ll b1 nn cc sz pn pc cn ck A PA CA cw pw x wt bx Q a W 11 o := by
  have hop := op_at ho (·.op) (x := Op.move (Operand.tmp 0)) (by kernel_rfl)
  have hgd := op_at ho (·.guard) (x := none) (by kernel_rfl)
  refine ⟨fun j b h => (by rw [hgd] at h; cases h), ?_⟩
  exact specs_value (R := fun v W => rc6S pb m p4 p7 ll b1 nn cc sz pn pc cn ck A PA CA cw pw x wt bx 11 v W) (v := .pointer (some ⟨pb, 0, none⟩)) (by simp [execOp, hop, go_sem, ev o0]) rfl (Ext.refl W)
set_option maxHeartbeats 1000000 in
theorem rc6_op12 (haft : ∀ j, (o.after.any fun e => decide (e.on = j) && Region.binds .any e) = true → rc6S pb m p4 p7 ll b1 nn cc sz pn pc cn ck A PA CA cw pw x wt bx j (a.eval (.tmp (rc6D j))) W) (ho : rc6Reg[12]? = some o) : rc6Ok pb m p4 p7 ll b1 nn cc sz pn pc cn ck A PA CA cw pw x wt bx Q a W 12 o := by
  have hop := op_at ho (·.op) (x := Op.nilCheck (Operand.tmp 39)) (by kernel_rfl)
  have hgd := op_at ho (·.guard) (x := none) (by kernel_rfl)
  have e11 : a.eval (.tmp 39) = .pointer (some ⟨pb, 0, none⟩) := haft 11 (op_at ho (fun o => o.after.any fun e => decide (e.on = 11) && Region.binds .any e) (x := true) (by kernel_rfl))
  refine ⟨fun j b h => (by rw [hgd] at h; cases h), ?_⟩
  exact specs_value (R := fun v W => rc6S pb m p4 p7 ll b1 nn cc sz pn pc cn ck A PA CA cw pw x wt bx 12 v W) (v := .pointer (some ⟨pb, 0, none⟩)) (by simp [execOp, hop, go_sem, ev e11]) rfl (Ext.refl W)
set_option maxHeartbeats 1000000 in
theorem rc6_op13 (haft : ∀ j, (o.after.any fun e => decide (e.on = j) && Region.binds .any e) = true → rc6S pb m p4 p7 ll b1 nn cc sz pn pc cn ck A PA CA cw pw x wt bx j (a.eval (.tmp (rc6D j))) W) (ho : rc6Reg[13]? = some o) : rc6Ok pb m p4 p7 ll b1 nn cc sz pn pc cn ck A PA CA cw pw x wt bx Q a W 13 o := by
  have hop := op_at ho (·.op) (x := Op.fieldAddr 129 (Operand.tmp 40) 0) (by kernel_rfl)
  have hgd := op_at ho (·.guard) (x := none) (by kernel_rfl)
  have e12 : a.eval (.tmp 40) = .pointer (some ⟨pb, 0, none⟩) := haft 12 (op_at ho (fun o => o.after.any fun e => decide (e.on = 12) && Region.binds .any e) (x := true) (by kernel_rfl))
  refine ⟨fun j b h => (by rw [hgd] at h; cases h), ?_⟩
  exact specs_value (R := fun v W => rc6S pb m p4 p7 ll b1 nn cc sz pn pc cn ck A PA CA cw pw x wt bx 13 v W) (v := .pointer (some ⟨pb, 0, none⟩)) (by simp [execOp, hop, go_sem, ev e12]) rfl (Ext.refl W)
set_option maxHeartbeats 1000000 in
theorem rc6_op14 (cb : ∀ W, Ext V W → W.cell? ⟨pb, 0, none⟩ = some (.slice A nn cc)) (hB : Ext V W) (haft : ∀ j, (o.after.any fun e => decide (e.on = j) && Region.binds .any e) = true → rc6S pb m p4 p7 ll b1 nn cc sz pn pc cn ck A PA CA cw pw x wt bx j (a.eval (.tmp (rc6D j))) W) (ho : rc6Reg[14]? = some o) : rc6Ok pb m p4 p7 ll b1 nn cc sz pn pc cn ck A PA CA cw pw x wt bx Q a W 14 o := by
  have hop := op_at ho (·.op) (x := Op.load 75 (Operand.tmp 41)) (by kernel_rfl)
  have hgd := op_at ho (·.guard) (x := none) (by kernel_rfl)
  have e13 : a.eval (.tmp 41) = .pointer (some ⟨pb, 0, none⟩) := haft 13 (op_at ho (fun o => o.after.any fun e => decide (e.on = 13) && Region.binds .any e) (x := true) (by kernel_rfl))
  refine ⟨fun j b h => (by rw [hgd] at h; cases h), ?_⟩
  have cb' := cb W hB
  exact specs_value (R := fun v W => rc6S pb m p4 p7 ll b1 nn cc sz pn pc cn ck A PA CA cw pw x wt bx 14 v W) (v := .slice A nn cc) (by simp [execOp, hop, go_sem, ev e13, cb']) rfl (Ext.refl W)
set_option maxHeartbeats 1000000 in
theorem rc6_op15 (o7 : a.eval (.tmp 7) = .pointer (some ⟨p7, 0, none⟩)) (f0 : ∀ W, Ext V W → W.cell? ⟨p7, 0, none⟩ = some (.slice PA pn pc)) (f1 : ∀ W, Ext V W → W.cell? ⟨p7, 1, none⟩ = some (.int .i64 pw)) (hB : Ext V W) (ho : rc6Reg[15]? = some o) : rc6Ok pb m p4 p7 ll b1 nn cc sz pn pc cn ck A PA CA cw pw x wt bx Q a W 15 o := by
  have hop := op_at ho (·.op) (x := Op.load 103 (Operand.tmp 7)) (by kernel_rfl)
  have hgd := op_at ho (·.guard) (x := none) (by kernel_rfl)
  refine ⟨fun j b h => (by rw [hgd] at h; cases h), ?_⟩
  have f0' := f0 W hB
  have f1' := f1 W hB
  exact specs_value (R := fun v W => rc6S pb m p4 p7 ll b1 nn cc sz pn pc cn ck A PA CA cw pw x wt bx 15 v W) (v := .agg #[.slice PA pn pc, .int .i64 pw]) (by simp [execOp, hop, go_sem, ev o7, f0', f1']) rfl (Ext.refl W)
set_option maxHeartbeats 1000000 in
theorem rc6_op16 (o2 : a.eval (.tmp 2) = .int .i64 x) (ho : rc6Reg[16]? = some o) : rc6Ok pb m p4 p7 ll b1 nn cc sz pn pc cn ck A PA CA cw pw x wt bx Q a W 16 o := by
  have hop := op_at ho (·.op) (x := Op.move (Operand.tmp 2)) (by kernel_rfl)
  have hgd := op_at ho (·.guard) (x := none) (by kernel_rfl)
  refine ⟨fun j b h => (by rw [hgd] at h; cases h), ?_⟩
  exact specs_value (R := fun v W => rc6S pb m p4 p7 ll b1 nn cc sz pn pc cn ck A PA CA cw pw x wt bx 16 v W) (v := .int .i64 x) (by simp [execOp, hop, go_sem, ev o2]) rfl (Ext.refl W)
set_option maxHeartbeats 1000000 in
theorem rc6_op17 (k17 : ∀ W, Ext V W → Calls Tryz.prog 125 #[.slice A nn cc, .agg #[.slice PA pn pc, .int .i64 pw], .int .i64 x] W fun e w' => Ext W w' ∧ ∃ u, e = .returned (.agg #[u, .int .i64 wt]) ∧ PlanV w' u bx ∧ ∀ b off m d, u = .slice (some ⟨b, off, none⟩) m d → W.heap.size ≤ b) (hv0 : sz ≤ V.heap.size) (hB : Ext V W) (haft : ∀ j, (o.after.any fun e => decide (e.on = j) && Region.binds .any e) = true → rc6S pb m p4 p7 ll b1 nn cc sz pn pc cn ck A PA CA cw pw x wt bx j (a.eval (.tmp (rc6D j))) W) (ho : rc6Reg[17]? = some o) : rc6Ok pb m p4 p7 ll b1 nn cc sz pn pc cn ck A PA CA cw pw x wt bx Q a W 17 o := by
  have hop := op_at ho (·.op) (x := Op.call { callee := Callee.value (Operand.func 125), args := #[Operand.tmp 42, Operand.tmp 43, Operand.tmp 44], argTypes := #[75, 103, 2] }) (by kernel_rfl)
  have hgd := op_at ho (·.guard) (x := none) (by kernel_rfl)
  have e14 : a.eval (.tmp 42) = .slice A nn cc := haft 14 (op_at ho (fun o => o.after.any fun e => decide (e.on = 14) && Region.binds .any e) (x := true) (by kernel_rfl))
  have e15 : a.eval (.tmp 43) = .agg #[.slice PA pn pc, .int .i64 pw] := haft 15 (op_at ho (fun o => o.after.any fun e => decide (e.on = 15) && Region.binds .any e) (x := true) (by kernel_rfl))
  have e16 : a.eval (.tmp 44) = .int .i64 x := haft 16 (op_at ho (fun o => o.after.any fun e => decide (e.on = 16) && Region.binds .any e) (x := true) (by kernel_rfl))
  refine ⟨fun j b h => (by rw [hgd] at h; cases h), ?_⟩
  refine specs_call (R := fun v W => rc6S pb m p4 p7 ll b1 nn cc sz pn pc cn ck A PA CA cw pw x wt bx 17 v W) (f := 125) (args := #[.slice A nn cc, .agg #[.slice PA pn pc, .int .i64 pw], .int .i64 x]) (by simp [execOp, hop, go_sem, ev e14, ev e15, ev e16]) ((k17 W hB).mono ?_)
  rintro e w' ⟨h3, u, rfl, h4, h5⟩
  exact ⟨_, rfl, ⟨u, rfl, h4, fun b' o' n' d' he => Nat.le_trans (Nat.le_trans hv0 hB.size) (h5 b' o' n' d' he)⟩, h3⟩
set_option maxHeartbeats 1000000 in
theorem rc6_op18 (haft : ∀ j, (o.after.any fun e => decide (e.on = j) && Region.binds .any e) = true → rc6S pb m p4 p7 ll b1 nn cc sz pn pc cn ck A PA CA cw pw x wt bx j (a.eval (.tmp (rc6D j))) W) (ho : rc6Reg[18]? = some o) : rc6Ok pb m p4 p7 ll b1 nn cc sz pn pc cn ck A PA CA cw pw x wt bx Q a W 18 o := by
  have hop := op_at ho (·.op) (x := Op.buildSlice 127 2 #[(0, Operand.tmp 38), (1, Operand.tmp 45)]) (by kernel_rfl)
  have hgd := op_at ho (·.guard) (x := none) (by kernel_rfl)
  have e10 : a.eval (.tmp 38) = .agg #[.slice CA cn ck, .int .i64 cw] := haft 10 (op_at ho (fun o => o.after.any fun e => decide (e.on = 10) && Region.binds .any e) (x := true) (by kernel_rfl))
  have e17 : rc6S pb m p4 p7 ll b1 nn cc sz pn pc cn ck A PA CA cw pw x wt bx 17 (a.eval (.tmp 45)) W := haft 17 (op_at ho (fun o => o.after.any fun e => decide (e.on = 17) && Region.binds .any e) (x := true) (by kernel_rfl))
  refine ⟨fun j b h => (by rw [hgd] at h; cases h), ?_⟩
  obtain ⟨u, eu, hpl, hof⟩ := e17
  have hsl := hpl.slice
  exact specs_value (R := fun v W => rc6S pb m p4 p7 ll b1 nn cc sz pn pc cn ck A PA CA cw pw x wt bx 18 v W) (v := .slice (some ⟨W.heap.size, 0, none⟩) 2 2) (W' := W.alloc (.cells #[.slice CA cn ck, .int .i64 cw, u, .int .i64 wt] 103)) (build127_op ⟨_, _, _, rfl⟩ hsl hop e10 eu) ⟨_, u, rfl, plansAt_two _ _ _ _ _ ⟨_, _, _, rfl⟩ hsl, hpl.ext (ext_alloc _ _), hof⟩ (ext_alloc _ _)
set_option maxHeartbeats 1000000 in
theorem rc6_op19 (haft : ∀ j, (o.after.any fun e => decide (e.on = j) && Region.binds .any e) = true → rc6S pb m p4 p7 ll b1 nn cc sz pn pc cn ck A PA CA cw pw x wt bx j (a.eval (.tmp (rc6D j))) W) (ho : rc6Reg[19]? = some o) : rc6Ok pb m p4 p7 ll b1 nn cc sz pn pc cn ck A PA CA cw pw x wt bx Q a W 19 o := by
  have hop := op_at ho (·.op) (x := Op.call { callee := Callee.value (Operand.func 100), args := #[Operand.tmp 46], argTypes := #[127] }) (by kernel_rfl)
  have hgd := op_at ho (·.guard) (x := none) (by kernel_rfl)
  have e18 : rc6S pb m p4 p7 ll b1 nn cc sz pn pc cn ck A PA CA cw pw x wt bx 18 (a.eval (.tmp 46)) W := haft 18 (op_at ho (fun o => o.after.any fun e => decide (e.on = 18) && Region.binds .any e) (x := true) (by kernel_rfl))
  refine ⟨fun j b h => (by rw [hgd] at h; cases h), ?_⟩
  obtain ⟨q, u, eu, hpl, h4, h5⟩ := e18
  refine specs_call (R := fun v W => rc6S pb m p4 p7 ll b1 nn cc sz pn pc cn ck A PA CA cw pw x wt bx 19 v W) (f := 100) (args := #[.slice (some ⟨q, 0, none⟩) 2 2]) (by simp [execOp, hop, go_sem, ev eu]) ((bestOf_any (vs := [(.slice CA cn ck, cw), (u, wt)]) rfl (by simp) (by simp) hpl).mono ?_)
  rintro e w' ⟨rfl, h3⟩
  exact ⟨_, rfl, ⟨u, rfl, h4.ext h3, h5⟩, h3⟩
set_option maxRecDepth 100000 in
set_option maxHeartbeats 4000000 in
/-- Region 6 of function 99. -/
theorem rc6_wp {id : Nat} (hlen : a.tmps.size = 84) (o0 : a.eval (.tmp 0) = .pointer (some ⟨pb, 0, none⟩)) (o2 : a.eval (.tmp 2) = .int .i64 x) (o4 : a.eval (.tmp 4) = .pointer (some ⟨p4, 0, none⟩)) (o7 : a.eval (.tmp 7) = .pointer (some ⟨p7, 0, none⟩)) (cm : ∀ W, Ext V W → W.cell? ⟨pb, 1, none⟩ = some (.map (some m))) (d0 : ∀ W, Ext V W → W.cell? ⟨p4, 0, none⟩ = some (.int .i64 (ll : Int))) (d1 : ∀ W, Ext V W → W.cell? ⟨p4, 1, none⟩ = some (.int .i64 (b1 : Int))) (ly : ∀ W, Ext V W → (Instr.lookup 126 (.map (some m)) (.agg #[.int .i64 (ll : Int), .int .i64 (b1 : Int)]) false).run Tryz.prog W = .ok (.agg #[.slice CA cn ck, .int .i64 cw]) W) (cb : ∀ W, Ext V W → W.cell? ⟨pb, 0, none⟩ = some (.slice A nn cc)) (f0 : ∀ W, Ext V W → W.cell? ⟨p7, 0, none⟩ = some (.slice PA pn pc)) (f1 : ∀ W, Ext V W → W.cell? ⟨p7, 1, none⟩ = some (.int .i64 pw)) (k17 : ∀ W, Ext V W → Calls Tryz.prog 125 #[.slice A nn cc, .agg #[.slice PA pn pc, .int .i64 pw], .int .i64 x] W fun e w' => Ext W w' ∧ ∃ u, e = .returned (.agg #[u, .int .i64 wt]) ∧ PlanV w' u bx ∧ ∀ b off m d, u = .slice (some ⟨b, off, none⟩) m d → W.heap.size ≤ b) (hv0 : sz ≤ V.heap.size) (K : (∀ W v17 v18 v19, Ext V W → rc6S pb m p4 p7 ll b1 nn cc sz pn pc cn ck A PA CA cw pw x wt bx 17 v17 W → rc6S pb m p4 p7 ll b1 nn cc sz pn pc cn ck A PA CA cw pw x wt bx 18 v18 W → rc6S pb m p4 p7 ll b1 nn cc sz pn pc cn ck A PA CA cw pw x wt bx 19 v19 W → wpList Tryz.prog rc6Reg Q (rc6Reg.toList.drop 20) (puts a [(28, .pointer (some ⟨pb, 0, none⟩)), (29, .pointer (some ⟨pb, 0, none⟩)), (30, .pointer (some ⟨pb, 1, none⟩)), (31, .map (some m)), (32, .agg #[.int .i64 (ll : Int), .int .i64 (b1 : Int)]), (33, .pointer (some ⟨pb, 0, none⟩)), (34, .pointer (some ⟨pb, 0, none⟩)), (35, .pointer (some ⟨pb, 1, none⟩)), (36, .map (some m)), (37, .agg #[.int .i64 (ll : Int), .int .i64 (b1 : Int)]), (38, .agg #[.slice CA cn ck, .int .i64 cw]), (39, .pointer (some ⟨pb, 0, none⟩)), (40, .pointer (some ⟨pb, 0, none⟩)), (41, .pointer (some ⟨pb, 0, none⟩)), (42, .slice A nn cc), (43, .agg #[.slice PA pn pc, .int .i64 pw]), (44, .int .i64 x), (45, v17), (46, v18), (47, v19)]) W)) : (Code.region id rc6Reg true).wp Tryz.prog Q a V := by
  refine wp_region_specs_sink (ops := rc6Reg) 20 (rc6S pb m p4 p7 ll b1 nn cc sz pn pc cn ck A PA CA cw pw x wt bx) (Ext V) (by kernel_rfl) (by rw [hlen]; kernel_rfl) (by kernel_rfl) ⟨rfl, rfl, rfl, Nat.le_refl _, fun _ _ => rfl⟩ (fun _ _ h e => h.trans e) rc6S_ext rc6D (by kernel_rfl) ?_ ?_
  · intro i o hi ho a' W hB hsz hold haft
    match i, hi with
    | 0, _ => exact rc6_op0 ((hold 0 (by kernel_rfl)).trans o0) ho
    | 1, _ => exact rc6_op1 haft ho
    | 2, _ => exact rc6_op2 haft ho
    | 3, _ => exact rc6_op3 cm hB haft ho
    | 4, _ => exact rc6_op4 ((hold 4 (by kernel_rfl)).trans o4) d0 d1 hB ho
    | 5, _ => exact rc6_op5 ((hold 0 (by kernel_rfl)).trans o0) ho
    | 6, _ => exact rc6_op6 haft ho
    | 7, _ => exact rc6_op7 haft ho
    | 8, _ => exact rc6_op8 cm hB haft ho
    | 9, _ => exact rc6_op9 ((hold 4 (by kernel_rfl)).trans o4) d0 d1 hB ho
    | 10, _ => exact rc6_op10 ly hB haft ho
    | 11, _ => exact rc6_op11 ((hold 0 (by kernel_rfl)).trans o0) ho
    | 12, _ => exact rc6_op12 haft ho
    | 13, _ => exact rc6_op13 haft ho
    | 14, _ => exact rc6_op14 cb hB haft ho
    | 15, _ => exact rc6_op15 ((hold 7 (by kernel_rfl)).trans o7) f0 f1 hB ho
    | 16, _ => exact rc6_op16 ((hold 2 (by kernel_rfl)).trans o2) ho
    | 17, _ => exact rc6_op17 k17 hv0 hB haft ho
    | 18, _ => exact rc6_op18 haft ho
    | 19, _ => exact rc6_op19 haft ho
    | m + 20, h => exact absurd h (by omega)
  · intro a1 W hB hsz hdf hold hS
    obtain ⟨v17, g17⟩ : ∃ v, v = a1.eval (.tmp 45) := ⟨_, rfl⟩
    obtain ⟨v18, g18⟩ : ∃ v, v = a1.eval (.tmp 46) := ⟨_, rfl⟩
    obtain ⟨v19, g19⟩ : ∃ v, v = a1.eval (.tmp 47) := ⟨_, rfl⟩
    have hall : ∀ zz, zz ∈ ([(28, .pointer (some ⟨pb, 0, none⟩)), (29, .pointer (some ⟨pb, 0, none⟩)), (30, .pointer (some ⟨pb, 1, none⟩)), (31, .map (some m)), (32, .agg #[.int .i64 (ll : Int), .int .i64 (b1 : Int)]), (33, .pointer (some ⟨pb, 0, none⟩)), (34, .pointer (some ⟨pb, 0, none⟩)), (35, .pointer (some ⟨pb, 1, none⟩)), (36, .map (some m)), (37, .agg #[.int .i64 (ll : Int), .int .i64 (b1 : Int)]), (38, .agg #[.slice CA cn ck, .int .i64 cw]), (39, .pointer (some ⟨pb, 0, none⟩)), (40, .pointer (some ⟨pb, 0, none⟩)), (41, .pointer (some ⟨pb, 0, none⟩)), (42, .slice A nn cc), (43, .agg #[.slice PA pn pc, .int .i64 pw]), (44, .int .i64 x), (45, v17), (46, v18), (47, v19)] : List (Tmp × Value)) → zz.1 < a.tmps.size ∧ a1.eval (.tmp zz.1) = zz.2 := by
      intro zz hz
      rw [hlen]
      simp only [List.mem_cons, List.not_mem_nil, or_false] at hz
      rcases hz with rfl | rfl | rfl | rfl | rfl | rfl | rfl | rfl | rfl | rfl | rfl | rfl | rfl | rfl | rfl | rfl | rfl | rfl | rfl | rfl
      · exact ⟨(show (28 : Nat) < 84 by omega), hS 0 (by omega)⟩
      · exact ⟨(show (29 : Nat) < 84 by omega), hS 1 (by omega)⟩
      · exact ⟨(show (30 : Nat) < 84 by omega), hS 2 (by omega)⟩
      · exact ⟨(show (31 : Nat) < 84 by omega), hS 3 (by omega)⟩
      · exact ⟨(show (32 : Nat) < 84 by omega), hS 4 (by omega)⟩
      · exact ⟨(show (33 : Nat) < 84 by omega), hS 5 (by omega)⟩
      · exact ⟨(show (34 : Nat) < 84 by omega), hS 6 (by omega)⟩
      · exact ⟨(show (35 : Nat) < 84 by omega), hS 7 (by omega)⟩
      · exact ⟨(show (36 : Nat) < 84 by omega), hS 8 (by omega)⟩
      · exact ⟨(show (37 : Nat) < 84 by omega), hS 9 (by omega)⟩
      · exact ⟨(show (38 : Nat) < 84 by omega), hS 10 (by omega)⟩
      · exact ⟨(show (39 : Nat) < 84 by omega), hS 11 (by omega)⟩
      · exact ⟨(show (40 : Nat) < 84 by omega), hS 12 (by omega)⟩
      · exact ⟨(show (41 : Nat) < 84 by omega), hS 13 (by omega)⟩
      · exact ⟨(show (42 : Nat) < 84 by omega), hS 14 (by omega)⟩
      · exact ⟨(show (43 : Nat) < 84 by omega), hS 15 (by omega)⟩
      · exact ⟨(show (44 : Nat) < 84 by omega), hS 16 (by omega)⟩
      · exact ⟨(show (45 : Nat) < 84 by omega), g17.symm⟩
      · exact ⟨(show (46 : Nat) < 84 by omega), g18.symm⟩
      · exact ⟨(show (47 : Nat) < 84 by omega), g19.symm⟩
    have ha := act_puts hsz hdf hall (fun t ht => hold t (all_ne_of (l := [(28, .pointer (some ⟨pb, 0, none⟩)), (29, .pointer (some ⟨pb, 0, none⟩)), (30, .pointer (some ⟨pb, 1, none⟩)), (31, .map (some m)), (32, .agg #[.int .i64 (ll : Int), .int .i64 (b1 : Int)]), (33, .pointer (some ⟨pb, 0, none⟩)), (34, .pointer (some ⟨pb, 0, none⟩)), (35, .pointer (some ⟨pb, 1, none⟩)), (36, .map (some m)), (37, .agg #[.int .i64 (ll : Int), .int .i64 (b1 : Int)]), (38, .agg #[.slice CA cn ck, .int .i64 cw]), (39, .pointer (some ⟨pb, 0, none⟩)), (40, .pointer (some ⟨pb, 0, none⟩)), (41, .pointer (some ⟨pb, 0, none⟩)), (42, .slice A nn cc), (43, .agg #[.slice PA pn pc, .int .i64 pw]), (44, .int .i64 x), (45, v17), (46, v18), (47, v19)]) (by kernel_rfl) ht))
    rw [ha]
    exact K W v17 v18 v19 hB (by rw [g17]; exact hS 17 (by omega)) (by rw [g18]; exact hS 18 (by omega)) (by rw [g19]; exact hS 19 (by omega))
end

/-- The slots of region 8 of function 99. -/
def rc8D (i : Nat) : Tmp := if i = 0 then 49 else if i = 1 then 50 else if i = 2 then 51 else if i = 3 then 52 else if i = 4 then 53 else if i = 5 then 54 else if i = 6 then 55 else if i = 7 then 56 else if i = 8 then 57 else if i = 9 then 58 else if i = 10 then 59 else if i = 11 then 60 else if i = 12 then 61 else if i = 13 then 62 else if i = 14 then 63 else if i = 15 then 64 else 65
/-- What each operation yields. -/
def rc8S (pb m g p4 ll b1 NN cn ck : Nat) (CA : Option Addr) (cw mw : Int) (ix : Nat) (v : Value) (_W : World) : Prop :=
  match ix with
  | 0 => v = .pointer (some ⟨pb, 0, none⟩)
  | 1 => v = .pointer (some ⟨pb, 0, none⟩)
  | 2 => v = .pointer (some ⟨pb, 1, none⟩)
  | 3 => v = .map (some m)
  | 4 => v = .agg #[.int .i64 (ll : Int), .int .i64 (b1 : Int)]
  | 5 => v = .agg #[.slice CA cn ck, .int .i64 cw]
  | 6 => v = .int .i64 cw
  | 7 => v = .pointer (some ⟨pb, 0, none⟩)
  | 8 => v = .pointer (some ⟨pb, 0, none⟩)
  | 9 => v = .pointer (some ⟨pb, 2, none⟩)
  | 10 => v = .slice (some ⟨g, 0, none⟩) NN NN
  | 11 => v = .pointer (some ⟨p4, 1, none⟩)
  | 12 => v = .int .i64 (b1 : Int)
  | 13 => v = .pointer (some ⟨g, b1 * 2, none⟩)
  | 14 => v = .pointer (some ⟨g, b1 * 2 + 1, none⟩)
  | 15 => v = .int .i64 mw
  | 16 => v = .bool (decide (cw ≤ mw))
  | _ => True
noncomputable def rc8Reg : Array Oper := (Tryz.f99.body.bind (regionOf · 8)).getD #[]
theorem rc8S_ext {pb m g p4 ll b1 NN cn ck : Nat} {CA : Option Addr} {cw mw : Int} : ∀ (i : Nat) (v : Value) (W W' : World), rc8S pb m g p4 ll b1 NN cn ck CA cw mw i v W → Below W.heap.size W W' → rc8S pb m g p4 ll b1 NN cn ck CA cw mw i v W' := by
  intro i v W W' h e
  match i with
  | 0 => exact h
  | 1 => exact h
  | 2 => exact h
  | 3 => exact h
  | 4 => exact h
  | 5 => exact h
  | 6 => exact h
  | 7 => exact h
  | 8 => exact h
  | 9 => exact h
  | 10 => exact h
  | 11 => exact h
  | 12 => exact h
  | 13 => exact h
  | 14 => exact h
  | 15 => exact h
  | 16 => exact h
  | k + 17 => exact trivial
def rc8Ok (pb m g p4 ll b1 NN cn ck : Nat) (CA : Option Addr) (cw mw : Int) (Q : Exit → Act → World → Prop) (a : Act) (W : World) (ix : Nat) (o : Oper) : Prop :=
  (∀ j b, o.guard = some (j, b) → a.eval (.tmp (rc8D j)) = .bool b) ∧ o.wp Tryz.prog a W (fun a'' W' => ∃ v, a'' = a.put o.dst v ∧ rc8S pb m g p4 ll b1 NN cn ck CA cw mw ix v W' ∧ Below W.heap.size W W') Q
section
variable {pb m g p4 ll b1 NN cn ck : Nat} {CA : Option Addr} {cw mw : Int} {Q : Exit → Act → World → Prop} {a : Act} {V W : World} {o : Oper}
set_option maxHeartbeats 1000000 in
theorem rc8_op0 (o0 : a.eval (.tmp 0) = .pointer (some ⟨pb, 0, none⟩)) (ho : rc8Reg[0]? = some o) : rc8Ok pb m g p4 ll b1 NN cn ck CA cw mw Q a W 0 o := by
  have hop := op_at ho (·.op) (x := Op.move (Operand.tmp 0)) (by kernel_rfl)
  have hgd := op_at ho (·.guard) (x := none) (by kernel_rfl)
  refine ⟨fun j b h => (by rw [hgd] at h; cases h), ?_⟩
  exact specs_value (R := fun v W => rc8S pb m g p4 ll b1 NN cn ck CA cw mw 0 v W) (v := .pointer (some ⟨pb, 0, none⟩)) (by simp [execOp, hop, go_sem, ev o0]) rfl (Ext.refl W)
set_option maxHeartbeats 1000000 in
theorem rc8_op1 (haft : ∀ j, (o.after.any fun e => decide (e.on = j) && Region.binds .any e) = true → rc8S pb m g p4 ll b1 NN cn ck CA cw mw j (a.eval (.tmp (rc8D j))) W) (ho : rc8Reg[1]? = some o) : rc8Ok pb m g p4 ll b1 NN cn ck CA cw mw Q a W 1 o := by
  have hop := op_at ho (·.op) (x := Op.nilCheck (Operand.tmp 49)) (by kernel_rfl)
  have hgd := op_at ho (·.guard) (x := none) (by kernel_rfl)
  have e0 : a.eval (.tmp 49) = .pointer (some ⟨pb, 0, none⟩) := haft 0 (op_at ho (fun o => o.after.any fun e => decide (e.on = 0) && Region.binds .any e) (x := true) (by kernel_rfl))
  refine ⟨fun j b h => (by rw [hgd] at h; cases h), ?_⟩
  exact specs_value (R := fun v W => rc8S pb m g p4 ll b1 NN cn ck CA cw mw 1 v W) (v := .pointer (some ⟨pb, 0, none⟩)) (by simp [execOp, hop, go_sem, ev e0]) rfl (Ext.refl W)
set_option maxHeartbeats 1000000 in
theorem rc8_op2 (haft : ∀ j, (o.after.any fun e => decide (e.on = j) && Region.binds .any e) = true → rc8S pb m g p4 ll b1 NN cn ck CA cw mw j (a.eval (.tmp (rc8D j))) W) (ho : rc8Reg[2]? = some o) : rc8Ok pb m g p4 ll b1 NN cn ck CA cw mw Q a W 2 o := by
  have hop := op_at ho (·.op) (x := Op.fieldAddr 129 (Operand.tmp 50) 1) (by kernel_rfl)
  have hgd := op_at ho (·.guard) (x := none) (by kernel_rfl)
  have e1 : a.eval (.tmp 50) = .pointer (some ⟨pb, 0, none⟩) := haft 1 (op_at ho (fun o => o.after.any fun e => decide (e.on = 1) && Region.binds .any e) (x := true) (by kernel_rfl))
  refine ⟨fun j b h => (by rw [hgd] at h; cases h), ?_⟩
  exact specs_value (R := fun v W => rc8S pb m g p4 ll b1 NN cn ck CA cw mw 2 v W) (v := .pointer (some ⟨pb, 1, none⟩)) (by simp [execOp, hop, go_sem, ev e1]) rfl (Ext.refl W)
set_option maxHeartbeats 1000000 in
theorem rc8_op3 (cm : ∀ W, Ext V W → W.cell? ⟨pb, 1, none⟩ = some (.map (some m))) (hB : Ext V W) (haft : ∀ j, (o.after.any fun e => decide (e.on = j) && Region.binds .any e) = true → rc8S pb m g p4 ll b1 NN cn ck CA cw mw j (a.eval (.tmp (rc8D j))) W) (ho : rc8Reg[3]? = some o) : rc8Ok pb m g p4 ll b1 NN cn ck CA cw mw Q a W 3 o := by
  have hop := op_at ho (·.op) (x := Op.load 126 (Operand.tmp 51)) (by kernel_rfl)
  have hgd := op_at ho (·.guard) (x := none) (by kernel_rfl)
  have e2 : a.eval (.tmp 51) = .pointer (some ⟨pb, 1, none⟩) := haft 2 (op_at ho (fun o => o.after.any fun e => decide (e.on = 2) && Region.binds .any e) (x := true) (by kernel_rfl))
  refine ⟨fun j b h => (by rw [hgd] at h; cases h), ?_⟩
  have cm' := cm W hB
  exact specs_value (R := fun v W => rc8S pb m g p4 ll b1 NN cn ck CA cw mw 3 v W) (v := .map (some m)) (by simp [execOp, hop, go_sem, ev e2, cm']) rfl (Ext.refl W)
set_option maxHeartbeats 1000000 in
theorem rc8_op4 (o4 : a.eval (.tmp 4) = .pointer (some ⟨p4, 0, none⟩)) (d0 : ∀ W, Ext V W → W.cell? ⟨p4, 0, none⟩ = some (.int .i64 (ll : Int))) (d1 : ∀ W, Ext V W → W.cell? ⟨p4, 1, none⟩ = some (.int .i64 (b1 : Int))) (hB : Ext V W) (ho : rc8Reg[4]? = some o) : rc8Ok pb m g p4 ll b1 NN cn ck CA cw mw Q a W 4 o := by
  have hop := op_at ho (·.op) (x := Op.load 125 (Operand.tmp 4)) (by kernel_rfl)
  have hgd := op_at ho (·.guard) (x := none) (by kernel_rfl)
  refine ⟨fun j b h => (by rw [hgd] at h; cases h), ?_⟩
  have d0' := d0 W hB
  have d1' := d1 W hB
  exact specs_value (R := fun v W => rc8S pb m g p4 ll b1 NN cn ck CA cw mw 4 v W) (v := .agg #[.int .i64 (ll : Int), .int .i64 (b1 : Int)]) (by simp [execOp, hop, go_sem, ev o4, d0', d1']) rfl (Ext.refl W)
set_option maxHeartbeats 1000000 in
theorem rc8_op5 (ly : ∀ W, Ext V W → (Instr.lookup 126 (.map (some m)) (.agg #[.int .i64 (ll : Int), .int .i64 (b1 : Int)]) false).run Tryz.prog W = .ok (.agg #[.slice CA cn ck, .int .i64 cw]) W) (hB : Ext V W) (haft : ∀ j, (o.after.any fun e => decide (e.on = j) && Region.binds .any e) = true → rc8S pb m g p4 ll b1 NN cn ck CA cw mw j (a.eval (.tmp (rc8D j))) W) (ho : rc8Reg[5]? = some o) : rc8Ok pb m g p4 ll b1 NN cn ck CA cw mw Q a W 5 o := by
  have hop := op_at ho (·.op) (x := Op.lookup 126 (Operand.tmp 52) (Operand.tmp 53) false) (by kernel_rfl)
  have hgd := op_at ho (·.guard) (x := none) (by kernel_rfl)
  have e3 : a.eval (.tmp 52) = .map (some m) := haft 3 (op_at ho (fun o => o.after.any fun e => decide (e.on = 3) && Region.binds .any e) (x := true) (by kernel_rfl))
  have e4 : a.eval (.tmp 53) = .agg #[.int .i64 (ll : Int), .int .i64 (b1 : Int)] := haft 4 (op_at ho (fun o => o.after.any fun e => decide (e.on = 4) && Region.binds .any e) (x := true) (by kernel_rfl))
  refine ⟨fun j b h => (by rw [hgd] at h; cases h), ?_⟩
  have ly' := ly W hB
  exact specs_value (R := fun v W => rc8S pb m g p4 ll b1 NN cn ck CA cw mw 5 v W) (v := .agg #[.slice CA cn ck, .int .i64 cw]) (by simp [execOp, hop, go_sem, ev e3, ev e4, ly']) rfl (Ext.refl W)
set_option maxHeartbeats 1000000 in
theorem rc8_op6 (haft : ∀ j, (o.after.any fun e => decide (e.on = j) && Region.binds .any e) = true → rc8S pb m g p4 ll b1 NN cn ck CA cw mw j (a.eval (.tmp (rc8D j))) W) (ho : rc8Reg[6]? = some o) : rc8Ok pb m g p4 ll b1 NN cn ck CA cw mw Q a W 6 o := by
  have hop := op_at ho (·.op) (x := Op.field 103 (Operand.tmp 54) 1) (by kernel_rfl)
  have hgd := op_at ho (·.guard) (x := none) (by kernel_rfl)
  have e5 : a.eval (.tmp 54) = .agg #[.slice CA cn ck, .int .i64 cw] := haft 5 (op_at ho (fun o => o.after.any fun e => decide (e.on = 5) && Region.binds .any e) (x := true) (by kernel_rfl))
  refine ⟨fun j b h => (by rw [hgd] at h; cases h), ?_⟩
  exact specs_value (R := fun v W => rc8S pb m g p4 ll b1 NN cn ck CA cw mw 6 v W) (v := .int .i64 cw) (by simp [execOp, hop, go_sem, ev e5, run_field103]) rfl (Ext.refl W)
set_option maxHeartbeats 1000000 in
theorem rc8_op7 (o0 : a.eval (.tmp 0) = .pointer (some ⟨pb, 0, none⟩)) (ho : rc8Reg[7]? = some o) : rc8Ok pb m g p4 ll b1 NN cn ck CA cw mw Q a W 7 o := by
  have hop := op_at ho (·.op) (x := Op.move (Operand.tmp 0)) (by kernel_rfl)
  have hgd := op_at ho (·.guard) (x := none) (by kernel_rfl)
  refine ⟨fun j b h => (by rw [hgd] at h; cases h), ?_⟩
  exact specs_value (R := fun v W => rc8S pb m g p4 ll b1 NN cn ck CA cw mw 7 v W) (v := .pointer (some ⟨pb, 0, none⟩)) (by simp [execOp, hop, go_sem, ev o0]) rfl (Ext.refl W)
set_option maxHeartbeats 1000000 in
theorem rc8_op8 (haft : ∀ j, (o.after.any fun e => decide (e.on = j) && Region.binds .any e) = true → rc8S pb m g p4 ll b1 NN cn ck CA cw mw j (a.eval (.tmp (rc8D j))) W) (ho : rc8Reg[8]? = some o) : rc8Ok pb m g p4 ll b1 NN cn ck CA cw mw Q a W 8 o := by
  have hop := op_at ho (·.op) (x := Op.nilCheck (Operand.tmp 56)) (by kernel_rfl)
  have hgd := op_at ho (·.guard) (x := none) (by kernel_rfl)
  have e7 : a.eval (.tmp 56) = .pointer (some ⟨pb, 0, none⟩) := haft 7 (op_at ho (fun o => o.after.any fun e => decide (e.on = 7) && Region.binds .any e) (x := true) (by kernel_rfl))
  refine ⟨fun j b h => (by rw [hgd] at h; cases h), ?_⟩
  exact specs_value (R := fun v W => rc8S pb m g p4 ll b1 NN cn ck CA cw mw 8 v W) (v := .pointer (some ⟨pb, 0, none⟩)) (by simp [execOp, hop, go_sem, ev e7]) rfl (Ext.refl W)
set_option maxHeartbeats 1000000 in
theorem rc8_op9 (haft : ∀ j, (o.after.any fun e => decide (e.on = j) && Region.binds .any e) = true → rc8S pb m g p4 ll b1 NN cn ck CA cw mw j (a.eval (.tmp (rc8D j))) W) (ho : rc8Reg[9]? = some o) : rc8Ok pb m g p4 ll b1 NN cn ck CA cw mw Q a W 9 o := by
  have hop := op_at ho (·.op) (x := Op.fieldAddr 129 (Operand.tmp 57) 2) (by kernel_rfl)
  have hgd := op_at ho (·.guard) (x := none) (by kernel_rfl)
  have e8 : a.eval (.tmp 57) = .pointer (some ⟨pb, 0, none⟩) := haft 8 (op_at ho (fun o => o.after.any fun e => decide (e.on = 8) && Region.binds .any e) (x := true) (by kernel_rfl))
  refine ⟨fun j b h => (by rw [hgd] at h; cases h), ?_⟩
  exact specs_value (R := fun v W => rc8S pb m g p4 ll b1 NN cn ck CA cw mw 9 v W) (v := .pointer (some ⟨pb, 2, none⟩)) (by simp [execOp, hop, go_sem, ev e8]) rfl (Ext.refl W)
set_option maxHeartbeats 1000000 in
theorem rc8_op10 (cg : ∀ W, Ext V W → W.cell? ⟨pb, 2, none⟩ = some (.slice (some ⟨g, 0, none⟩) NN NN)) (hB : Ext V W) (haft : ∀ j, (o.after.any fun e => decide (e.on = j) && Region.binds .any e) = true → rc8S pb m g p4 ll b1 NN cn ck CA cw mw j (a.eval (.tmp (rc8D j))) W) (ho : rc8Reg[10]? = some o) : rc8Ok pb m g p4 ll b1 NN cn ck CA cw mw Q a W 10 o := by
  have hop := op_at ho (·.op) (x := Op.load 127 (Operand.tmp 58)) (by kernel_rfl)
  have hgd := op_at ho (·.guard) (x := none) (by kernel_rfl)
  have e9 : a.eval (.tmp 58) = .pointer (some ⟨pb, 2, none⟩) := haft 9 (op_at ho (fun o => o.after.any fun e => decide (e.on = 9) && Region.binds .any e) (x := true) (by kernel_rfl))
  refine ⟨fun j b h => (by rw [hgd] at h; cases h), ?_⟩
  have cg' := cg W hB
  exact specs_value (R := fun v W => rc8S pb m g p4 ll b1 NN cn ck CA cw mw 10 v W) (v := .slice (some ⟨g, 0, none⟩) NN NN) (by simp [execOp, hop, go_sem, ev e9, cg']) rfl (Ext.refl W)
set_option maxHeartbeats 1000000 in
theorem rc8_op11 (o4 : a.eval (.tmp 4) = .pointer (some ⟨p4, 0, none⟩)) (ho : rc8Reg[11]? = some o) : rc8Ok pb m g p4 ll b1 NN cn ck CA cw mw Q a W 11 o := by
  have hop := op_at ho (·.op) (x := Op.fieldAddr 125 (Operand.tmp 4) 1) (by kernel_rfl)
  have hgd := op_at ho (·.guard) (x := none) (by kernel_rfl)
  refine ⟨fun j b h => (by rw [hgd] at h; cases h), ?_⟩
  exact specs_value (R := fun v W => rc8S pb m g p4 ll b1 NN cn ck CA cw mw 11 v W) (v := .pointer (some ⟨p4, 1, none⟩)) (by simp [execOp, hop, go_sem, ev o4]) rfl (Ext.refl W)
set_option maxHeartbeats 1000000 in
theorem rc8_op12 (d1 : ∀ W, Ext V W → W.cell? ⟨p4, 1, none⟩ = some (.int .i64 (b1 : Int))) (hB : Ext V W) (haft : ∀ j, (o.after.any fun e => decide (e.on = j) && Region.binds .any e) = true → rc8S pb m g p4 ll b1 NN cn ck CA cw mw j (a.eval (.tmp (rc8D j))) W) (ho : rc8Reg[12]? = some o) : rc8Ok pb m g p4 ll b1 NN cn ck CA cw mw Q a W 12 o := by
  have hop := op_at ho (·.op) (x := Op.load 3 (Operand.tmp 60)) (by kernel_rfl)
  have hgd := op_at ho (·.guard) (x := none) (by kernel_rfl)
  have e11 : a.eval (.tmp 60) = .pointer (some ⟨p4, 1, none⟩) := haft 11 (op_at ho (fun o => o.after.any fun e => decide (e.on = 11) && Region.binds .any e) (x := true) (by kernel_rfl))
  refine ⟨fun j b h => (by rw [hgd] at h; cases h), ?_⟩
  have d1' := d1 W hB
  exact specs_value (R := fun v W => rc8S pb m g p4 ll b1 NN cn ck CA cw mw 12 v W) (v := .int .i64 (b1 : Int)) (by simp [execOp, hop, go_sem, ev e11, d1']) rfl (Ext.refl W)
set_option maxHeartbeats 1000000 in
theorem rc8_op13 (hlt : (b1 : Int) < (NN : Int)) (haft : ∀ j, (o.after.any fun e => decide (e.on = j) && Region.binds .any e) = true → rc8S pb m g p4 ll b1 NN cn ck CA cw mw j (a.eval (.tmp (rc8D j))) W) (ho : rc8Reg[13]? = some o) : rc8Ok pb m g p4 ll b1 NN cn ck CA cw mw Q a W 13 o := by
  have hop := op_at ho (·.op) (x := Op.indexAddr 127 (Operand.tmp 59) (Operand.tmp 61)) (by kernel_rfl)
  have hgd := op_at ho (·.guard) (x := none) (by kernel_rfl)
  have e10 : a.eval (.tmp 59) = .slice (some ⟨g, 0, none⟩) NN NN := haft 10 (op_at ho (fun o => o.after.any fun e => decide (e.on = 10) && Region.binds .any e) (x := true) (by kernel_rfl))
  have e12 : a.eval (.tmp 61) = .int .i64 (b1 : Int) := haft 12 (op_at ho (fun o => o.after.any fun e => decide (e.on = 12) && Region.binds .any e) (x := true) (by kernel_rfl))
  refine ⟨fun j b h => (by rw [hgd] at h; cases h), ?_⟩
  exact specs_value (R := fun v W => rc8S pb m g p4 ll b1 NN cn ck CA cw mw 13 v W) (v := .pointer (some ⟨g, b1 * 2, none⟩)) (by simp [execOp, hop, go_sem, ev e10, ev e12, hlt]) rfl (Ext.refl W)
set_option maxHeartbeats 1000000 in
theorem rc8_op14 (haft : ∀ j, (o.after.any fun e => decide (e.on = j) && Region.binds .any e) = true → rc8S pb m g p4 ll b1 NN cn ck CA cw mw j (a.eval (.tmp (rc8D j))) W) (ho : rc8Reg[14]? = some o) : rc8Ok pb m g p4 ll b1 NN cn ck CA cw mw Q a W 14 o := by
  have hop := op_at ho (·.op) (x := Op.fieldAddr 103 (Operand.tmp 62) 1) (by kernel_rfl)
  have hgd := op_at ho (·.guard) (x := none) (by kernel_rfl)
  have e13 : a.eval (.tmp 62) = .pointer (some ⟨g, b1 * 2, none⟩) := haft 13 (op_at ho (fun o => o.after.any fun e => decide (e.on = 13) && Region.binds .any e) (x := true) (by kernel_rfl))
  refine ⟨fun j b h => (by rw [hgd] at h; cases h), ?_⟩
  exact specs_value (R := fun v W => rc8S pb m g p4 ll b1 NN cn ck CA cw mw 14 v W) (v := .pointer (some ⟨g, b1 * 2 + 1, none⟩)) (by simp [execOp, hop, go_sem, ev e13]) rfl (Ext.refl W)
set_option maxHeartbeats 1000000 in
theorem rc8_op15 (gw : ∀ W, Ext V W → W.cell? ⟨g, b1 * 2 + 1, none⟩ = some (.int .i64 mw)) (hB : Ext V W) (haft : ∀ j, (o.after.any fun e => decide (e.on = j) && Region.binds .any e) = true → rc8S pb m g p4 ll b1 NN cn ck CA cw mw j (a.eval (.tmp (rc8D j))) W) (ho : rc8Reg[15]? = some o) : rc8Ok pb m g p4 ll b1 NN cn ck CA cw mw Q a W 15 o := by
  have hop := op_at ho (·.op) (x := Op.load 2 (Operand.tmp 63)) (by kernel_rfl)
  have hgd := op_at ho (·.guard) (x := none) (by kernel_rfl)
  have e14 : a.eval (.tmp 63) = .pointer (some ⟨g, b1 * 2 + 1, none⟩) := haft 14 (op_at ho (fun o => o.after.any fun e => decide (e.on = 14) && Region.binds .any e) (x := true) (by kernel_rfl))
  refine ⟨fun j b h => (by rw [hgd] at h; cases h), ?_⟩
  have gw' := gw W hB
  exact specs_value (R := fun v W => rc8S pb m g p4 ll b1 NN cn ck CA cw mw 15 v W) (v := .int .i64 mw) (by simp [execOp, hop, go_sem, ev e14, gw']) rfl (Ext.refl W)
set_option maxHeartbeats 1000000 in
theorem rc8_op16 (haft : ∀ j, (o.after.any fun e => decide (e.on = j) && Region.binds .any e) = true → rc8S pb m g p4 ll b1 NN cn ck CA cw mw j (a.eval (.tmp (rc8D j))) W) (ho : rc8Reg[16]? = some o) : rc8Ok pb m g p4 ll b1 NN cn ck CA cw mw Q a W 16 o := by
  have hop := op_at ho (·.op) (x := Op.binOp BinOp.leq 2 (Operand.tmp 55) (Operand.tmp 64) 2) (by kernel_rfl)
  have hgd := op_at ho (·.guard) (x := none) (by kernel_rfl)
  have e6 : a.eval (.tmp 55) = .int .i64 cw := haft 6 (op_at ho (fun o => o.after.any fun e => decide (e.on = 6) && Region.binds .any e) (x := true) (by kernel_rfl))
  have e15 : a.eval (.tmp 64) = .int .i64 mw := haft 15 (op_at ho (fun o => o.after.any fun e => decide (e.on = 15) && Region.binds .any e) (x := true) (by kernel_rfl))
  refine ⟨fun j b h => (by rw [hgd] at h; cases h), ?_⟩
  exact specs_value (R := fun v W => rc8S pb m g p4 ll b1 NN cn ck CA cw mw 16 v W) (v := .bool (decide (cw ≤ mw))) (by simp [execOp, hop, go_sem, ev e6, ev e15]) rfl (Ext.refl W)
set_option maxRecDepth 100000 in
set_option maxHeartbeats 4000000 in
/-- Region 8 of function 99. -/
theorem rc8_wp {id : Nat} (hlen : a.tmps.size = 84) (o0 : a.eval (.tmp 0) = .pointer (some ⟨pb, 0, none⟩)) (o4 : a.eval (.tmp 4) = .pointer (some ⟨p4, 0, none⟩)) (cm : ∀ W, Ext V W → W.cell? ⟨pb, 1, none⟩ = some (.map (some m))) (d0 : ∀ W, Ext V W → W.cell? ⟨p4, 0, none⟩ = some (.int .i64 (ll : Int))) (d1 : ∀ W, Ext V W → W.cell? ⟨p4, 1, none⟩ = some (.int .i64 (b1 : Int))) (ly : ∀ W, Ext V W → (Instr.lookup 126 (.map (some m)) (.agg #[.int .i64 (ll : Int), .int .i64 (b1 : Int)]) false).run Tryz.prog W = .ok (.agg #[.slice CA cn ck, .int .i64 cw]) W) (cg : ∀ W, Ext V W → W.cell? ⟨pb, 2, none⟩ = some (.slice (some ⟨g, 0, none⟩) NN NN)) (hlt : (b1 : Int) < (NN : Int)) (gw : ∀ W, Ext V W → W.cell? ⟨g, b1 * 2 + 1, none⟩ = some (.int .i64 mw)) (K : (∀ W, Ext V W → wpList Tryz.prog rc8Reg Q (rc8Reg.toList.drop 17) (puts a [(49, .pointer (some ⟨pb, 0, none⟩)), (50, .pointer (some ⟨pb, 0, none⟩)), (51, .pointer (some ⟨pb, 1, none⟩)), (52, .map (some m)), (53, .agg #[.int .i64 (ll : Int), .int .i64 (b1 : Int)]), (54, .agg #[.slice CA cn ck, .int .i64 cw]), (55, .int .i64 cw), (56, .pointer (some ⟨pb, 0, none⟩)), (57, .pointer (some ⟨pb, 0, none⟩)), (58, .pointer (some ⟨pb, 2, none⟩)), (59, .slice (some ⟨g, 0, none⟩) NN NN), (60, .pointer (some ⟨p4, 1, none⟩)), (61, .int .i64 (b1 : Int)), (62, .pointer (some ⟨g, b1 * 2, none⟩)), (63, .pointer (some ⟨g, b1 * 2 + 1, none⟩)), (64, .int .i64 mw), (65, .bool (decide (cw ≤ mw)))]) W)) : (Code.region id rc8Reg true).wp Tryz.prog Q a V := by
  refine wp_region_specs_free (ops := rc8Reg) 17 (rc8S pb m g p4 ll b1 NN cn ck CA cw mw) (Ext V) (by kernel_rfl) (by rw [hlen]; kernel_rfl) (by kernel_rfl) ⟨rfl, rfl, rfl, Nat.le_refl _, fun _ _ => rfl⟩ (fun _ _ h e => h.trans e) rc8S_ext rc8D (by kernel_rfl) ?_ ?_
  · intro i o hi ho a' W hB hsz hold haft
    match i, hi with
    | 0, _ => exact rc8_op0 ((hold 0 (by kernel_rfl)).trans o0) ho
    | 1, _ => exact rc8_op1 haft ho
    | 2, _ => exact rc8_op2 haft ho
    | 3, _ => exact rc8_op3 cm hB haft ho
    | 4, _ => exact rc8_op4 ((hold 4 (by kernel_rfl)).trans o4) d0 d1 hB ho
    | 5, _ => exact rc8_op5 ly hB haft ho
    | 6, _ => exact rc8_op6 haft ho
    | 7, _ => exact rc8_op7 ((hold 0 (by kernel_rfl)).trans o0) ho
    | 8, _ => exact rc8_op8 haft ho
    | 9, _ => exact rc8_op9 haft ho
    | 10, _ => exact rc8_op10 cg hB haft ho
    | 11, _ => exact rc8_op11 ((hold 4 (by kernel_rfl)).trans o4) ho
    | 12, _ => exact rc8_op12 d1 hB haft ho
    | 13, _ => exact rc8_op13 hlt haft ho
    | 14, _ => exact rc8_op14 haft ho
    | 15, _ => exact rc8_op15 gw hB haft ho
    | 16, _ => exact rc8_op16 haft ho
    | m + 17, h => exact absurd h (by omega)
  · intro a1 W hB hsz hdf hold hS
    have hall : ∀ zz, zz ∈ ([(49, .pointer (some ⟨pb, 0, none⟩)), (50, .pointer (some ⟨pb, 0, none⟩)), (51, .pointer (some ⟨pb, 1, none⟩)), (52, .map (some m)), (53, .agg #[.int .i64 (ll : Int), .int .i64 (b1 : Int)]), (54, .agg #[.slice CA cn ck, .int .i64 cw]), (55, .int .i64 cw), (56, .pointer (some ⟨pb, 0, none⟩)), (57, .pointer (some ⟨pb, 0, none⟩)), (58, .pointer (some ⟨pb, 2, none⟩)), (59, .slice (some ⟨g, 0, none⟩) NN NN), (60, .pointer (some ⟨p4, 1, none⟩)), (61, .int .i64 (b1 : Int)), (62, .pointer (some ⟨g, b1 * 2, none⟩)), (63, .pointer (some ⟨g, b1 * 2 + 1, none⟩)), (64, .int .i64 mw), (65, .bool (decide (cw ≤ mw)))] : List (Tmp × Value)) → zz.1 < a.tmps.size ∧ a1.eval (.tmp zz.1) = zz.2 := by
      intro zz hz
      rw [hlen]
      simp only [List.mem_cons, List.not_mem_nil, or_false] at hz
      rcases hz with rfl | rfl | rfl | rfl | rfl | rfl | rfl | rfl | rfl | rfl | rfl | rfl | rfl | rfl | rfl | rfl | rfl
      · exact ⟨(show (49 : Nat) < 84 by omega), hS 0 (by omega)⟩
      · exact ⟨(show (50 : Nat) < 84 by omega), hS 1 (by omega)⟩
      · exact ⟨(show (51 : Nat) < 84 by omega), hS 2 (by omega)⟩
      · exact ⟨(show (52 : Nat) < 84 by omega), hS 3 (by omega)⟩
      · exact ⟨(show (53 : Nat) < 84 by omega), hS 4 (by omega)⟩
      · exact ⟨(show (54 : Nat) < 84 by omega), hS 5 (by omega)⟩
      · exact ⟨(show (55 : Nat) < 84 by omega), hS 6 (by omega)⟩
      · exact ⟨(show (56 : Nat) < 84 by omega), hS 7 (by omega)⟩
      · exact ⟨(show (57 : Nat) < 84 by omega), hS 8 (by omega)⟩
      · exact ⟨(show (58 : Nat) < 84 by omega), hS 9 (by omega)⟩
      · exact ⟨(show (59 : Nat) < 84 by omega), hS 10 (by omega)⟩
      · exact ⟨(show (60 : Nat) < 84 by omega), hS 11 (by omega)⟩
      · exact ⟨(show (61 : Nat) < 84 by omega), hS 12 (by omega)⟩
      · exact ⟨(show (62 : Nat) < 84 by omega), hS 13 (by omega)⟩
      · exact ⟨(show (63 : Nat) < 84 by omega), hS 14 (by omega)⟩
      · exact ⟨(show (64 : Nat) < 84 by omega), hS 15 (by omega)⟩
      · exact ⟨(show (65 : Nat) < 84 by omega), hS 16 (by omega)⟩
    have ha := act_puts hsz hdf hall (fun t ht => hold t (all_ne_of (l := [(49, .pointer (some ⟨pb, 0, none⟩)), (50, .pointer (some ⟨pb, 0, none⟩)), (51, .pointer (some ⟨pb, 1, none⟩)), (52, .map (some m)), (53, .agg #[.int .i64 (ll : Int), .int .i64 (b1 : Int)]), (54, .agg #[.slice CA cn ck, .int .i64 cw]), (55, .int .i64 cw), (56, .pointer (some ⟨pb, 0, none⟩)), (57, .pointer (some ⟨pb, 0, none⟩)), (58, .pointer (some ⟨pb, 2, none⟩)), (59, .slice (some ⟨g, 0, none⟩) NN NN), (60, .pointer (some ⟨p4, 1, none⟩)), (61, .int .i64 (b1 : Int)), (62, .pointer (some ⟨g, b1 * 2, none⟩)), (63, .pointer (some ⟨g, b1 * 2 + 1, none⟩)), (64, .int .i64 mw), (65, .bool (decide (cw ≤ mw)))]) (by kernel_rfl) ht))
    rw [ha]
    exact K W  hB 
end

/-- The slots of region 9 of function 99. -/
def rc9D (i : Nat) : Tmp := if i = 0 then 66 else if i = 1 then 67 else if i = 2 then 68 else if i = 3 then 69 else 70
/-- What each operation yields. -/
def rc9S (pb m _p4 ll b1 : Nat) (ix : Nat) (v : Value) (_W : World) : Prop :=
  match ix with
  | 0 => v = .pointer (some ⟨pb, 0, none⟩)
  | 1 => v = .pointer (some ⟨pb, 0, none⟩)
  | 2 => v = .pointer (some ⟨pb, 1, none⟩)
  | 3 => v = .map (some m)
  | 4 => v = .agg #[.int .i64 (ll : Int), .int .i64 (b1 : Int)]
  | _ => True
noncomputable def rc9Reg : Array Oper := (Tryz.f99.body.bind (regionOf · 9)).getD #[]
theorem rc9S_ext {pb m p4 ll b1 : Nat} : ∀ (i : Nat) (v : Value) (W W' : World), rc9S pb m p4 ll b1 i v W → Below W.heap.size W W' → rc9S pb m p4 ll b1 i v W' := by
  intro i v W W' h e
  match i with
  | 0 => exact h
  | 1 => exact h
  | 2 => exact h
  | 3 => exact h
  | 4 => exact h
  | k + 5 => exact trivial
def rc9Ok (pb m p4 ll b1 : Nat) (Q : Exit → Act → World → Prop) (a : Act) (W : World) (ix : Nat) (o : Oper) : Prop :=
  (∀ j b, o.guard = some (j, b) → a.eval (.tmp (rc9D j)) = .bool b) ∧ o.wp Tryz.prog a W (fun a'' W' => ∃ v, a'' = a.put o.dst v ∧ rc9S pb m p4 ll b1 ix v W' ∧ Below W.heap.size W W') Q
section
variable {pb m p4 ll b1 : Nat} {Q : Exit → Act → World → Prop} {a : Act} {V W : World} {o : Oper}
set_option maxHeartbeats 1000000 in
theorem rc9_op0 (o0 : a.eval (.tmp 0) = .pointer (some ⟨pb, 0, none⟩)) (ho : rc9Reg[0]? = some o) : rc9Ok pb m p4 ll b1 Q a W 0 o := by
  have hop := op_at ho (·.op) (x := Op.move (Operand.tmp 0)) (by kernel_rfl)
  have hgd := op_at ho (·.guard) (x := none) (by kernel_rfl)
  refine ⟨fun j b h => (by rw [hgd] at h; cases h), ?_⟩
  exact specs_value (R := fun v W => rc9S pb m p4 ll b1 0 v W) (v := .pointer (some ⟨pb, 0, none⟩)) (by simp [execOp, hop, go_sem, ev o0]) rfl (Ext.refl W)
set_option maxHeartbeats 1000000 in
theorem rc9_op1 (haft : ∀ j, (o.after.any fun e => decide (e.on = j) && Region.binds .any e) = true → rc9S pb m p4 ll b1 j (a.eval (.tmp (rc9D j))) W) (ho : rc9Reg[1]? = some o) : rc9Ok pb m p4 ll b1 Q a W 1 o := by
  have hop := op_at ho (·.op) (x := Op.nilCheck (Operand.tmp 66)) (by kernel_rfl)
  have hgd := op_at ho (·.guard) (x := none) (by kernel_rfl)
  have e0 : a.eval (.tmp 66) = .pointer (some ⟨pb, 0, none⟩) := haft 0 (op_at ho (fun o => o.after.any fun e => decide (e.on = 0) && Region.binds .any e) (x := true) (by kernel_rfl))
  refine ⟨fun j b h => (by rw [hgd] at h; cases h), ?_⟩
  exact specs_value (R := fun v W => rc9S pb m p4 ll b1 1 v W) (v := .pointer (some ⟨pb, 0, none⟩)) (by simp [execOp, hop, go_sem, ev e0]) rfl (Ext.refl W)
set_option maxHeartbeats 1000000 in
theorem rc9_op2 (haft : ∀ j, (o.after.any fun e => decide (e.on = j) && Region.binds .any e) = true → rc9S pb m p4 ll b1 j (a.eval (.tmp (rc9D j))) W) (ho : rc9Reg[2]? = some o) : rc9Ok pb m p4 ll b1 Q a W 2 o := by
  have hop := op_at ho (·.op) (x := Op.fieldAddr 129 (Operand.tmp 67) 1) (by kernel_rfl)
  have hgd := op_at ho (·.guard) (x := none) (by kernel_rfl)
  have e1 : a.eval (.tmp 67) = .pointer (some ⟨pb, 0, none⟩) := haft 1 (op_at ho (fun o => o.after.any fun e => decide (e.on = 1) && Region.binds .any e) (x := true) (by kernel_rfl))
  refine ⟨fun j b h => (by rw [hgd] at h; cases h), ?_⟩
  exact specs_value (R := fun v W => rc9S pb m p4 ll b1 2 v W) (v := .pointer (some ⟨pb, 1, none⟩)) (by simp [execOp, hop, go_sem, ev e1]) rfl (Ext.refl W)
set_option maxHeartbeats 1000000 in
theorem rc9_op3 (cm : ∀ W, Ext V W → W.cell? ⟨pb, 1, none⟩ = some (.map (some m))) (hB : Ext V W) (haft : ∀ j, (o.after.any fun e => decide (e.on = j) && Region.binds .any e) = true → rc9S pb m p4 ll b1 j (a.eval (.tmp (rc9D j))) W) (ho : rc9Reg[3]? = some o) : rc9Ok pb m p4 ll b1 Q a W 3 o := by
  have hop := op_at ho (·.op) (x := Op.load 126 (Operand.tmp 68)) (by kernel_rfl)
  have hgd := op_at ho (·.guard) (x := none) (by kernel_rfl)
  have e2 : a.eval (.tmp 68) = .pointer (some ⟨pb, 1, none⟩) := haft 2 (op_at ho (fun o => o.after.any fun e => decide (e.on = 2) && Region.binds .any e) (x := true) (by kernel_rfl))
  refine ⟨fun j b h => (by rw [hgd] at h; cases h), ?_⟩
  have cm' := cm W hB
  exact specs_value (R := fun v W => rc9S pb m p4 ll b1 3 v W) (v := .map (some m)) (by simp [execOp, hop, go_sem, ev e2, cm']) rfl (Ext.refl W)
set_option maxHeartbeats 1000000 in
theorem rc9_op4 (o4 : a.eval (.tmp 4) = .pointer (some ⟨p4, 0, none⟩)) (d0 : ∀ W, Ext V W → W.cell? ⟨p4, 0, none⟩ = some (.int .i64 (ll : Int))) (d1 : ∀ W, Ext V W → W.cell? ⟨p4, 1, none⟩ = some (.int .i64 (b1 : Int))) (hB : Ext V W) (ho : rc9Reg[4]? = some o) : rc9Ok pb m p4 ll b1 Q a W 4 o := by
  have hop := op_at ho (·.op) (x := Op.load 125 (Operand.tmp 4)) (by kernel_rfl)
  have hgd := op_at ho (·.guard) (x := none) (by kernel_rfl)
  refine ⟨fun j b h => (by rw [hgd] at h; cases h), ?_⟩
  have d0' := d0 W hB
  have d1' := d1 W hB
  exact specs_value (R := fun v W => rc9S pb m p4 ll b1 4 v W) (v := .agg #[.int .i64 (ll : Int), .int .i64 (b1 : Int)]) (by simp [execOp, hop, go_sem, ev o4, d0', d1']) rfl (Ext.refl W)
set_option maxRecDepth 100000 in
set_option maxHeartbeats 4000000 in
/-- Region 9 of function 99. -/
theorem rc9_wp {id : Nat} (hlen : a.tmps.size = 84) (o0 : a.eval (.tmp 0) = .pointer (some ⟨pb, 0, none⟩)) (o4 : a.eval (.tmp 4) = .pointer (some ⟨p4, 0, none⟩)) (cm : ∀ W, Ext V W → W.cell? ⟨pb, 1, none⟩ = some (.map (some m))) (d0 : ∀ W, Ext V W → W.cell? ⟨p4, 0, none⟩ = some (.int .i64 (ll : Int))) (d1 : ∀ W, Ext V W → W.cell? ⟨p4, 1, none⟩ = some (.int .i64 (b1 : Int))) (K : (∀ W, Ext V W → wpList Tryz.prog rc9Reg Q (rc9Reg.toList.drop 5) (puts a [(66, .pointer (some ⟨pb, 0, none⟩)), (67, .pointer (some ⟨pb, 0, none⟩)), (68, .pointer (some ⟨pb, 1, none⟩)), (69, .map (some m)), (70, .agg #[.int .i64 (ll : Int), .int .i64 (b1 : Int)])]) W)) : (Code.region id rc9Reg true).wp Tryz.prog Q a V := by
  refine wp_region_specs_sink (ops := rc9Reg) 5 (rc9S pb m p4 ll b1) (Ext V) (by kernel_rfl) (by rw [hlen]; kernel_rfl) (by kernel_rfl) ⟨rfl, rfl, rfl, Nat.le_refl _, fun _ _ => rfl⟩ (fun _ _ h e => h.trans e) rc9S_ext rc9D (by kernel_rfl) ?_ ?_
  · intro i o hi ho a' W hB hsz hold haft
    match i, hi with
    | 0, _ => exact rc9_op0 ((hold 0 (by kernel_rfl)).trans o0) ho
    | 1, _ => exact rc9_op1 haft ho
    | 2, _ => exact rc9_op2 haft ho
    | 3, _ => exact rc9_op3 cm hB haft ho
    | 4, _ => exact rc9_op4 ((hold 4 (by kernel_rfl)).trans o4) d0 d1 hB ho
    | m + 5, h => exact absurd h (by omega)
  · intro a1 W hB hsz hdf hold hS
    have hall : ∀ zz, zz ∈ ([(66, .pointer (some ⟨pb, 0, none⟩)), (67, .pointer (some ⟨pb, 0, none⟩)), (68, .pointer (some ⟨pb, 1, none⟩)), (69, .map (some m)), (70, .agg #[.int .i64 (ll : Int), .int .i64 (b1 : Int)])] : List (Tmp × Value)) → zz.1 < a.tmps.size ∧ a1.eval (.tmp zz.1) = zz.2 := by
      intro zz hz
      rw [hlen]
      simp only [List.mem_cons, List.not_mem_nil, or_false] at hz
      rcases hz with rfl | rfl | rfl | rfl | rfl
      · exact ⟨(show (66 : Nat) < 84 by omega), hS 0 (by omega)⟩
      · exact ⟨(show (67 : Nat) < 84 by omega), hS 1 (by omega)⟩
      · exact ⟨(show (68 : Nat) < 84 by omega), hS 2 (by omega)⟩
      · exact ⟨(show (69 : Nat) < 84 by omega), hS 3 (by omega)⟩
      · exact ⟨(show (70 : Nat) < 84 by omega), hS 4 (by omega)⟩
    have ha := act_puts hsz hdf hall (fun t ht => hold t (all_ne_of (l := [(66, .pointer (some ⟨pb, 0, none⟩)), (67, .pointer (some ⟨pb, 0, none⟩)), (68, .pointer (some ⟨pb, 1, none⟩)), (69, .map (some m)), (70, .agg #[.int .i64 (ll : Int), .int .i64 (b1 : Int)])]) (by kernel_rfl) ht))
    rw [ha]
    exact K W  hB 
end

/-- The slots of region 10 of function 99. -/
def rc10D (i : Nat) : Tmp := if i = 0 then 71 else if i = 1 then 72 else if i = 2 then 73 else if i = 3 then 74 else if i = 4 then 75 else if i = 5 then 76 else if i = 6 then 77 else if i = 7 then 78 else if i = 8 then 79 else if i = 9 then 80 else if i = 10 then 81 else if i = 11 then 82 else 83
/-- What each operation yields. -/
def rc10S (pb m g p4 ll b1 NN cn ck : Nat) (CA : Option Addr) (cw : Int) (ix : Nat) (v : Value) (_W : World) : Prop :=
  match ix with
  | 0 => v = .pointer (some ⟨pb, 0, none⟩)
  | 1 => v = .pointer (some ⟨pb, 0, none⟩)
  | 2 => v = .pointer (some ⟨pb, 2, none⟩)
  | 3 => v = .slice (some ⟨g, 0, none⟩) NN NN
  | 4 => v = .pointer (some ⟨p4, 1, none⟩)
  | 5 => v = .int .i64 (b1 : Int)
  | 6 => v = .pointer (some ⟨pb, 0, none⟩)
  | 7 => v = .pointer (some ⟨pb, 0, none⟩)
  | 8 => v = .pointer (some ⟨pb, 1, none⟩)
  | 9 => v = .map (some m)
  | 10 => v = .agg #[.int .i64 (ll : Int), .int .i64 (b1 : Int)]
  | 11 => v = .agg #[.slice CA cn ck, .int .i64 cw]
  | 12 => v = .pointer (some ⟨g, b1 * 2, none⟩)
  | _ => True
noncomputable def rc10Reg : Array Oper := (Tryz.f99.body.bind (regionOf · 10)).getD #[]
theorem rc10S_ext {pb m g p4 ll b1 NN cn ck : Nat} {CA : Option Addr} {cw : Int} : ∀ (i : Nat) (v : Value) (W W' : World), rc10S pb m g p4 ll b1 NN cn ck CA cw i v W → Below W.heap.size W W' → rc10S pb m g p4 ll b1 NN cn ck CA cw i v W' := by
  intro i v W W' h e
  match i with
  | 0 => exact h
  | 1 => exact h
  | 2 => exact h
  | 3 => exact h
  | 4 => exact h
  | 5 => exact h
  | 6 => exact h
  | 7 => exact h
  | 8 => exact h
  | 9 => exact h
  | 10 => exact h
  | 11 => exact h
  | 12 => exact h
  | k + 13 => exact trivial
def rc10Ok (pb m g p4 ll b1 NN cn ck : Nat) (CA : Option Addr) (cw : Int) (Q : Exit → Act → World → Prop) (a : Act) (W : World) (ix : Nat) (o : Oper) : Prop :=
  (∀ j b, o.guard = some (j, b) → a.eval (.tmp (rc10D j)) = .bool b) ∧ o.wp Tryz.prog a W (fun a'' W' => ∃ v, a'' = a.put o.dst v ∧ rc10S pb m g p4 ll b1 NN cn ck CA cw ix v W' ∧ Below W.heap.size W W') Q
section
variable {pb m g p4 ll b1 NN cn ck : Nat} {CA : Option Addr} {cw : Int} {Q : Exit → Act → World → Prop} {a : Act} {V W : World} {o : Oper}
set_option maxHeartbeats 1000000 in
theorem rc10_op0 (o0 : a.eval (.tmp 0) = .pointer (some ⟨pb, 0, none⟩)) (ho : rc10Reg[0]? = some o) : rc10Ok pb m g p4 ll b1 NN cn ck CA cw Q a W 0 o := by
  have hop := op_at ho (·.op) (x := Op.move (Operand.tmp 0)) (by kernel_rfl)
  have hgd := op_at ho (·.guard) (x := none) (by kernel_rfl)
  refine ⟨fun j b h => (by rw [hgd] at h; cases h), ?_⟩
  exact specs_value (R := fun v W => rc10S pb m g p4 ll b1 NN cn ck CA cw 0 v W) (v := .pointer (some ⟨pb, 0, none⟩)) (by simp [execOp, hop, go_sem, ev o0]) rfl (Ext.refl W)
set_option maxHeartbeats 1000000 in
theorem rc10_op1 (haft : ∀ j, (o.after.any fun e => decide (e.on = j) && Region.binds .any e) = true → rc10S pb m g p4 ll b1 NN cn ck CA cw j (a.eval (.tmp (rc10D j))) W) (ho : rc10Reg[1]? = some o) : rc10Ok pb m g p4 ll b1 NN cn ck CA cw Q a W 1 o := by
  have hop := op_at ho (·.op) (x := Op.nilCheck (Operand.tmp 71)) (by kernel_rfl)
  have hgd := op_at ho (·.guard) (x := none) (by kernel_rfl)
  have e0 : a.eval (.tmp 71) = .pointer (some ⟨pb, 0, none⟩) := haft 0 (op_at ho (fun o => o.after.any fun e => decide (e.on = 0) && Region.binds .any e) (x := true) (by kernel_rfl))
  refine ⟨fun j b h => (by rw [hgd] at h; cases h), ?_⟩
  exact specs_value (R := fun v W => rc10S pb m g p4 ll b1 NN cn ck CA cw 1 v W) (v := .pointer (some ⟨pb, 0, none⟩)) (by simp [execOp, hop, go_sem, ev e0]) rfl (Ext.refl W)
set_option maxHeartbeats 1000000 in
theorem rc10_op2 (haft : ∀ j, (o.after.any fun e => decide (e.on = j) && Region.binds .any e) = true → rc10S pb m g p4 ll b1 NN cn ck CA cw j (a.eval (.tmp (rc10D j))) W) (ho : rc10Reg[2]? = some o) : rc10Ok pb m g p4 ll b1 NN cn ck CA cw Q a W 2 o := by
  have hop := op_at ho (·.op) (x := Op.fieldAddr 129 (Operand.tmp 72) 2) (by kernel_rfl)
  have hgd := op_at ho (·.guard) (x := none) (by kernel_rfl)
  have e1 : a.eval (.tmp 72) = .pointer (some ⟨pb, 0, none⟩) := haft 1 (op_at ho (fun o => o.after.any fun e => decide (e.on = 1) && Region.binds .any e) (x := true) (by kernel_rfl))
  refine ⟨fun j b h => (by rw [hgd] at h; cases h), ?_⟩
  exact specs_value (R := fun v W => rc10S pb m g p4 ll b1 NN cn ck CA cw 2 v W) (v := .pointer (some ⟨pb, 2, none⟩)) (by simp [execOp, hop, go_sem, ev e1]) rfl (Ext.refl W)
set_option maxHeartbeats 1000000 in
theorem rc10_op3 (cg : ∀ W, Ext V W → W.cell? ⟨pb, 2, none⟩ = some (.slice (some ⟨g, 0, none⟩) NN NN)) (hB : Ext V W) (haft : ∀ j, (o.after.any fun e => decide (e.on = j) && Region.binds .any e) = true → rc10S pb m g p4 ll b1 NN cn ck CA cw j (a.eval (.tmp (rc10D j))) W) (ho : rc10Reg[3]? = some o) : rc10Ok pb m g p4 ll b1 NN cn ck CA cw Q a W 3 o := by
  have hop := op_at ho (·.op) (x := Op.load 127 (Operand.tmp 73)) (by kernel_rfl)
  have hgd := op_at ho (·.guard) (x := none) (by kernel_rfl)
  have e2 : a.eval (.tmp 73) = .pointer (some ⟨pb, 2, none⟩) := haft 2 (op_at ho (fun o => o.after.any fun e => decide (e.on = 2) && Region.binds .any e) (x := true) (by kernel_rfl))
  refine ⟨fun j b h => (by rw [hgd] at h; cases h), ?_⟩
  have cg' := cg W hB
  exact specs_value (R := fun v W => rc10S pb m g p4 ll b1 NN cn ck CA cw 3 v W) (v := .slice (some ⟨g, 0, none⟩) NN NN) (by simp [execOp, hop, go_sem, ev e2, cg']) rfl (Ext.refl W)
set_option maxHeartbeats 1000000 in
theorem rc10_op4 (o4 : a.eval (.tmp 4) = .pointer (some ⟨p4, 0, none⟩)) (ho : rc10Reg[4]? = some o) : rc10Ok pb m g p4 ll b1 NN cn ck CA cw Q a W 4 o := by
  have hop := op_at ho (·.op) (x := Op.fieldAddr 125 (Operand.tmp 4) 1) (by kernel_rfl)
  have hgd := op_at ho (·.guard) (x := none) (by kernel_rfl)
  refine ⟨fun j b h => (by rw [hgd] at h; cases h), ?_⟩
  exact specs_value (R := fun v W => rc10S pb m g p4 ll b1 NN cn ck CA cw 4 v W) (v := .pointer (some ⟨p4, 1, none⟩)) (by simp [execOp, hop, go_sem, ev o4]) rfl (Ext.refl W)
set_option maxHeartbeats 1000000 in
theorem rc10_op5 (d1 : ∀ W, Ext V W → W.cell? ⟨p4, 1, none⟩ = some (.int .i64 (b1 : Int))) (hB : Ext V W) (haft : ∀ j, (o.after.any fun e => decide (e.on = j) && Region.binds .any e) = true → rc10S pb m g p4 ll b1 NN cn ck CA cw j (a.eval (.tmp (rc10D j))) W) (ho : rc10Reg[5]? = some o) : rc10Ok pb m g p4 ll b1 NN cn ck CA cw Q a W 5 o := by
  have hop := op_at ho (·.op) (x := Op.load 3 (Operand.tmp 75)) (by kernel_rfl)
  have hgd := op_at ho (·.guard) (x := none) (by kernel_rfl)
  have e4 : a.eval (.tmp 75) = .pointer (some ⟨p4, 1, none⟩) := haft 4 (op_at ho (fun o => o.after.any fun e => decide (e.on = 4) && Region.binds .any e) (x := true) (by kernel_rfl))
  refine ⟨fun j b h => (by rw [hgd] at h; cases h), ?_⟩
  have d1' := d1 W hB
  exact specs_value (R := fun v W => rc10S pb m g p4 ll b1 NN cn ck CA cw 5 v W) (v := .int .i64 (b1 : Int)) (by simp [execOp, hop, go_sem, ev e4, d1']) rfl (Ext.refl W)
set_option maxHeartbeats 1000000 in
theorem rc10_op6 (o0 : a.eval (.tmp 0) = .pointer (some ⟨pb, 0, none⟩)) (ho : rc10Reg[6]? = some o) : rc10Ok pb m g p4 ll b1 NN cn ck CA cw Q a W 6 o := by
  have hop := op_at ho (·.op) (x := Op.move (Operand.tmp 0)) (by kernel_rfl)
  have hgd := op_at ho (·.guard) (x := none) (by kernel_rfl)
  refine ⟨fun j b h => (by rw [hgd] at h; cases h), ?_⟩
  exact specs_value (R := fun v W => rc10S pb m g p4 ll b1 NN cn ck CA cw 6 v W) (v := .pointer (some ⟨pb, 0, none⟩)) (by simp [execOp, hop, go_sem, ev o0]) rfl (Ext.refl W)
set_option maxHeartbeats 1000000 in
theorem rc10_op7 (haft : ∀ j, (o.after.any fun e => decide (e.on = j) && Region.binds .any e) = true → rc10S pb m g p4 ll b1 NN cn ck CA cw j (a.eval (.tmp (rc10D j))) W) (ho : rc10Reg[7]? = some o) : rc10Ok pb m g p4 ll b1 NN cn ck CA cw Q a W 7 o := by
  have hop := op_at ho (·.op) (x := Op.nilCheck (Operand.tmp 77)) (by kernel_rfl)
  have hgd := op_at ho (·.guard) (x := none) (by kernel_rfl)
  have e6 : a.eval (.tmp 77) = .pointer (some ⟨pb, 0, none⟩) := haft 6 (op_at ho (fun o => o.after.any fun e => decide (e.on = 6) && Region.binds .any e) (x := true) (by kernel_rfl))
  refine ⟨fun j b h => (by rw [hgd] at h; cases h), ?_⟩
  exact specs_value (R := fun v W => rc10S pb m g p4 ll b1 NN cn ck CA cw 7 v W) (v := .pointer (some ⟨pb, 0, none⟩)) (by simp [execOp, hop, go_sem, ev e6]) rfl (Ext.refl W)
set_option maxHeartbeats 1000000 in
theorem rc10_op8 (haft : ∀ j, (o.after.any fun e => decide (e.on = j) && Region.binds .any e) = true → rc10S pb m g p4 ll b1 NN cn ck CA cw j (a.eval (.tmp (rc10D j))) W) (ho : rc10Reg[8]? = some o) : rc10Ok pb m g p4 ll b1 NN cn ck CA cw Q a W 8 o := by
  have hop := op_at ho (·.op) (x := Op.fieldAddr 129 (Operand.tmp 78) 1) (by kernel_rfl)
  have hgd := op_at ho (·.guard) (x := none) (by kernel_rfl)
  have e7 : a.eval (.tmp 78) = .pointer (some ⟨pb, 0, none⟩) := haft 7 (op_at ho (fun o => o.after.any fun e => decide (e.on = 7) && Region.binds .any e) (x := true) (by kernel_rfl))
  refine ⟨fun j b h => (by rw [hgd] at h; cases h), ?_⟩
  exact specs_value (R := fun v W => rc10S pb m g p4 ll b1 NN cn ck CA cw 8 v W) (v := .pointer (some ⟨pb, 1, none⟩)) (by simp [execOp, hop, go_sem, ev e7]) rfl (Ext.refl W)
set_option maxHeartbeats 1000000 in
theorem rc10_op9 (cm : ∀ W, Ext V W → W.cell? ⟨pb, 1, none⟩ = some (.map (some m))) (hB : Ext V W) (haft : ∀ j, (o.after.any fun e => decide (e.on = j) && Region.binds .any e) = true → rc10S pb m g p4 ll b1 NN cn ck CA cw j (a.eval (.tmp (rc10D j))) W) (ho : rc10Reg[9]? = some o) : rc10Ok pb m g p4 ll b1 NN cn ck CA cw Q a W 9 o := by
  have hop := op_at ho (·.op) (x := Op.load 126 (Operand.tmp 79)) (by kernel_rfl)
  have hgd := op_at ho (·.guard) (x := none) (by kernel_rfl)
  have e8 : a.eval (.tmp 79) = .pointer (some ⟨pb, 1, none⟩) := haft 8 (op_at ho (fun o => o.after.any fun e => decide (e.on = 8) && Region.binds .any e) (x := true) (by kernel_rfl))
  refine ⟨fun j b h => (by rw [hgd] at h; cases h), ?_⟩
  have cm' := cm W hB
  exact specs_value (R := fun v W => rc10S pb m g p4 ll b1 NN cn ck CA cw 9 v W) (v := .map (some m)) (by simp [execOp, hop, go_sem, ev e8, cm']) rfl (Ext.refl W)
set_option maxHeartbeats 1000000 in
theorem rc10_op10 (o4 : a.eval (.tmp 4) = .pointer (some ⟨p4, 0, none⟩)) (d0 : ∀ W, Ext V W → W.cell? ⟨p4, 0, none⟩ = some (.int .i64 (ll : Int))) (d1 : ∀ W, Ext V W → W.cell? ⟨p4, 1, none⟩ = some (.int .i64 (b1 : Int))) (hB : Ext V W) (ho : rc10Reg[10]? = some o) : rc10Ok pb m g p4 ll b1 NN cn ck CA cw Q a W 10 o := by
  have hop := op_at ho (·.op) (x := Op.load 125 (Operand.tmp 4)) (by kernel_rfl)
  have hgd := op_at ho (·.guard) (x := none) (by kernel_rfl)
  refine ⟨fun j b h => (by rw [hgd] at h; cases h), ?_⟩
  have d0' := d0 W hB
  have d1' := d1 W hB
  exact specs_value (R := fun v W => rc10S pb m g p4 ll b1 NN cn ck CA cw 10 v W) (v := .agg #[.int .i64 (ll : Int), .int .i64 (b1 : Int)]) (by simp [execOp, hop, go_sem, ev o4, d0', d1']) rfl (Ext.refl W)
set_option maxHeartbeats 1000000 in
theorem rc10_op11 (ly : ∀ W, Ext V W → (Instr.lookup 126 (.map (some m)) (.agg #[.int .i64 (ll : Int), .int .i64 (b1 : Int)]) false).run Tryz.prog W = .ok (.agg #[.slice CA cn ck, .int .i64 cw]) W) (hB : Ext V W) (haft : ∀ j, (o.after.any fun e => decide (e.on = j) && Region.binds .any e) = true → rc10S pb m g p4 ll b1 NN cn ck CA cw j (a.eval (.tmp (rc10D j))) W) (ho : rc10Reg[11]? = some o) : rc10Ok pb m g p4 ll b1 NN cn ck CA cw Q a W 11 o := by
  have hop := op_at ho (·.op) (x := Op.lookup 126 (Operand.tmp 80) (Operand.tmp 81) false) (by kernel_rfl)
  have hgd := op_at ho (·.guard) (x := none) (by kernel_rfl)
  have e9 : a.eval (.tmp 80) = .map (some m) := haft 9 (op_at ho (fun o => o.after.any fun e => decide (e.on = 9) && Region.binds .any e) (x := true) (by kernel_rfl))
  have e10 : a.eval (.tmp 81) = .agg #[.int .i64 (ll : Int), .int .i64 (b1 : Int)] := haft 10 (op_at ho (fun o => o.after.any fun e => decide (e.on = 10) && Region.binds .any e) (x := true) (by kernel_rfl))
  refine ⟨fun j b h => (by rw [hgd] at h; cases h), ?_⟩
  have ly' := ly W hB
  exact specs_value (R := fun v W => rc10S pb m g p4 ll b1 NN cn ck CA cw 11 v W) (v := .agg #[.slice CA cn ck, .int .i64 cw]) (by simp [execOp, hop, go_sem, ev e9, ev e10, ly']) rfl (Ext.refl W)
set_option maxHeartbeats 1000000 in
theorem rc10_op12 (hlt : (b1 : Int) < (NN : Int)) (haft : ∀ j, (o.after.any fun e => decide (e.on = j) && Region.binds .any e) = true → rc10S pb m g p4 ll b1 NN cn ck CA cw j (a.eval (.tmp (rc10D j))) W) (ho : rc10Reg[12]? = some o) : rc10Ok pb m g p4 ll b1 NN cn ck CA cw Q a W 12 o := by
  have hop := op_at ho (·.op) (x := Op.indexAddr 127 (Operand.tmp 74) (Operand.tmp 76)) (by kernel_rfl)
  have hgd := op_at ho (·.guard) (x := none) (by kernel_rfl)
  have e3 : a.eval (.tmp 74) = .slice (some ⟨g, 0, none⟩) NN NN := haft 3 (op_at ho (fun o => o.after.any fun e => decide (e.on = 3) && Region.binds .any e) (x := true) (by kernel_rfl))
  have e5 : a.eval (.tmp 76) = .int .i64 (b1 : Int) := haft 5 (op_at ho (fun o => o.after.any fun e => decide (e.on = 5) && Region.binds .any e) (x := true) (by kernel_rfl))
  refine ⟨fun j b h => (by rw [hgd] at h; cases h), ?_⟩
  exact specs_value (R := fun v W => rc10S pb m g p4 ll b1 NN cn ck CA cw 12 v W) (v := .pointer (some ⟨g, b1 * 2, none⟩)) (by simp [execOp, hop, go_sem, ev e3, ev e5, hlt]) rfl (Ext.refl W)
set_option maxRecDepth 100000 in
set_option maxHeartbeats 4000000 in
/-- Region 10 of function 99. -/
theorem rc10_wp {id : Nat} (hlen : a.tmps.size = 84) (o0 : a.eval (.tmp 0) = .pointer (some ⟨pb, 0, none⟩)) (o4 : a.eval (.tmp 4) = .pointer (some ⟨p4, 0, none⟩)) (cg : ∀ W, Ext V W → W.cell? ⟨pb, 2, none⟩ = some (.slice (some ⟨g, 0, none⟩) NN NN)) (d1 : ∀ W, Ext V W → W.cell? ⟨p4, 1, none⟩ = some (.int .i64 (b1 : Int))) (cm : ∀ W, Ext V W → W.cell? ⟨pb, 1, none⟩ = some (.map (some m))) (d0 : ∀ W, Ext V W → W.cell? ⟨p4, 0, none⟩ = some (.int .i64 (ll : Int))) (ly : ∀ W, Ext V W → (Instr.lookup 126 (.map (some m)) (.agg #[.int .i64 (ll : Int), .int .i64 (b1 : Int)]) false).run Tryz.prog W = .ok (.agg #[.slice CA cn ck, .int .i64 cw]) W) (hlt : (b1 : Int) < (NN : Int)) (K : (∀ W, Ext V W → wpList Tryz.prog rc10Reg Q (rc10Reg.toList.drop 13) (puts a [(71, .pointer (some ⟨pb, 0, none⟩)), (72, .pointer (some ⟨pb, 0, none⟩)), (73, .pointer (some ⟨pb, 2, none⟩)), (74, .slice (some ⟨g, 0, none⟩) NN NN), (75, .pointer (some ⟨p4, 1, none⟩)), (76, .int .i64 (b1 : Int)), (77, .pointer (some ⟨pb, 0, none⟩)), (78, .pointer (some ⟨pb, 0, none⟩)), (79, .pointer (some ⟨pb, 1, none⟩)), (80, .map (some m)), (81, .agg #[.int .i64 (ll : Int), .int .i64 (b1 : Int)]), (82, .agg #[.slice CA cn ck, .int .i64 cw]), (83, .pointer (some ⟨g, b1 * 2, none⟩))]) W)) : (Code.region id rc10Reg true).wp Tryz.prog Q a V := by
  refine wp_region_specs_sink (ops := rc10Reg) 13 (rc10S pb m g p4 ll b1 NN cn ck CA cw) (Ext V) (by kernel_rfl) (by rw [hlen]; kernel_rfl) (by kernel_rfl) ⟨rfl, rfl, rfl, Nat.le_refl _, fun _ _ => rfl⟩ (fun _ _ h e => h.trans e) rc10S_ext rc10D (by kernel_rfl) ?_ ?_
  · intro i o hi ho a' W hB hsz hold haft
    match i, hi with
    | 0, _ => exact rc10_op0 ((hold 0 (by kernel_rfl)).trans o0) ho
    | 1, _ => exact rc10_op1 haft ho
    | 2, _ => exact rc10_op2 haft ho
    | 3, _ => exact rc10_op3 cg hB haft ho
    | 4, _ => exact rc10_op4 ((hold 4 (by kernel_rfl)).trans o4) ho
    | 5, _ => exact rc10_op5 d1 hB haft ho
    | 6, _ => exact rc10_op6 ((hold 0 (by kernel_rfl)).trans o0) ho
    | 7, _ => exact rc10_op7 haft ho
    | 8, _ => exact rc10_op8 haft ho
    | 9, _ => exact rc10_op9 cm hB haft ho
    | 10, _ => exact rc10_op10 ((hold 4 (by kernel_rfl)).trans o4) d0 d1 hB ho
    | 11, _ => exact rc10_op11 ly hB haft ho
    | 12, _ => exact rc10_op12 hlt haft ho
    | m + 13, h => exact absurd h (by omega)
  · intro a1 W hB hsz hdf hold hS
    have hall : ∀ zz, zz ∈ ([(71, .pointer (some ⟨pb, 0, none⟩)), (72, .pointer (some ⟨pb, 0, none⟩)), (73, .pointer (some ⟨pb, 2, none⟩)), (74, .slice (some ⟨g, 0, none⟩) NN NN), (75, .pointer (some ⟨p4, 1, none⟩)), (76, .int .i64 (b1 : Int)), (77, .pointer (some ⟨pb, 0, none⟩)), (78, .pointer (some ⟨pb, 0, none⟩)), (79, .pointer (some ⟨pb, 1, none⟩)), (80, .map (some m)), (81, .agg #[.int .i64 (ll : Int), .int .i64 (b1 : Int)]), (82, .agg #[.slice CA cn ck, .int .i64 cw]), (83, .pointer (some ⟨g, b1 * 2, none⟩))] : List (Tmp × Value)) → zz.1 < a.tmps.size ∧ a1.eval (.tmp zz.1) = zz.2 := by
      intro zz hz
      rw [hlen]
      simp only [List.mem_cons, List.not_mem_nil, or_false] at hz
      rcases hz with rfl | rfl | rfl | rfl | rfl | rfl | rfl | rfl | rfl | rfl | rfl | rfl | rfl
      · exact ⟨(show (71 : Nat) < 84 by omega), hS 0 (by omega)⟩
      · exact ⟨(show (72 : Nat) < 84 by omega), hS 1 (by omega)⟩
      · exact ⟨(show (73 : Nat) < 84 by omega), hS 2 (by omega)⟩
      · exact ⟨(show (74 : Nat) < 84 by omega), hS 3 (by omega)⟩
      · exact ⟨(show (75 : Nat) < 84 by omega), hS 4 (by omega)⟩
      · exact ⟨(show (76 : Nat) < 84 by omega), hS 5 (by omega)⟩
      · exact ⟨(show (77 : Nat) < 84 by omega), hS 6 (by omega)⟩
      · exact ⟨(show (78 : Nat) < 84 by omega), hS 7 (by omega)⟩
      · exact ⟨(show (79 : Nat) < 84 by omega), hS 8 (by omega)⟩
      · exact ⟨(show (80 : Nat) < 84 by omega), hS 9 (by omega)⟩
      · exact ⟨(show (81 : Nat) < 84 by omega), hS 10 (by omega)⟩
      · exact ⟨(show (82 : Nat) < 84 by omega), hS 11 (by omega)⟩
      · exact ⟨(show (83 : Nat) < 84 by omega), hS 12 (by omega)⟩
    have ha := act_puts hsz hdf hall (fun t ht => hold t (all_ne_of (l := [(71, .pointer (some ⟨pb, 0, none⟩)), (72, .pointer (some ⟨pb, 0, none⟩)), (73, .pointer (some ⟨pb, 2, none⟩)), (74, .slice (some ⟨g, 0, none⟩) NN NN), (75, .pointer (some ⟨p4, 1, none⟩)), (76, .int .i64 (b1 : Int)), (77, .pointer (some ⟨pb, 0, none⟩)), (78, .pointer (some ⟨pb, 0, none⟩)), (79, .pointer (some ⟨pb, 1, none⟩)), (80, .map (some m)), (81, .agg #[.int .i64 (ll : Int), .int .i64 (b1 : Int)]), (82, .agg #[.slice CA cn ck, .int .i64 cw]), (83, .pointer (some ⟨g, b1 * 2, none⟩))]) (by kernel_rfl) ht))
    rw [ha]
    exact K W  hB 
end
end Go.Proofs.YtmlmnljbegcjcaaGreat

/- reach: the plan up to a step that is worth the most. -/
namespace Go.Proofs.YtmlmnljbegcjcaaGreat
open Go.RowKit Go.Shelf
attribute [local irreducible] bitCells

/-- What is kept while the steps before a step are tried: k of them were. -/
def keptTo (os : List Odr) (s : Dp) (last b : Nat) (x : Int) (k : Nat) : Nat → Nat → Option Pl := fun l b' => if l = last ∧ b' = b + 1 then candOf os s.kept b x k (s.kept last (b + 1)) else s.kept l b'
theorem keptTo_zero (os : List Odr) (s : Dp) (last b : Nat) (x : Int) : keptTo os s last b x 0 = s.kept := by
  funext l b'
  unfold keptTo
  split
  · rename_i h
    rw [h.1, h.2]; rfl
  · rfl
theorem keptTo_at (os : List Odr) (s : Dp) (last b : Nat) (x : Int) (k : Nat) : keptTo os s last b x k last (b + 1) = candOf os s.kept b x k (s.kept last (b + 1)) := by simp [keptTo]
theorem keptTo_old (os : List Odr) (s : Dp) (last b : Nat) (x : Int) {k : Nat} : keptTo os s last b x k k b = s.kept k b := by
  unfold keptTo; rw [if_neg (by omega)]
theorem keptTo_none {os : List Odr} {s : Dp} {last b : Nat} {x : Int} {k : Nat} (h : s.kept k b = none) : keptTo os s last b x (k + 1) = keptTo os s last b x k := by
  funext l b'
  unfold keptTo
  rw [cand_succ, h]
theorem keptTo_some {os : List Odr} {s : Dp} {last b : Nat} {x : Int} {k : Nat} {p : Pl} (h : s.kept k b = some p) (l b' : Nat) : keptTo os s last b x (k + 1) l b' = if l = last ∧ b' = b + 1 then some (pmax ((keptTo os s last b x k last (b + 1)).getD ([], 0)) (longer os p x)) else keptTo os s last b x k l b' := by
  rw [keptTo_at]
  unfold keptTo
  rw [cand_succ, h]
  split <;> rfl
theorem vmax_two (c u : Value × Int) : maxV [c, u] = if c.2 < u.2 then u else c := rfl
theorem TabAt.put {S : Nat → Prop} {W W' : World} {m n : Nat} {kept : Nat → Nat → Option Pl} {K : Nat → Nat → Option (Value × Int)} (h1 : KeptAt W' m n K) (h2 : ∀ l b, OptOk S W b (K l b) (kept l b)) (e : But S W W') : TabAt S W' m n kept := ⟨K, h1, fun l b => (h2 l b).but e⟩
theorem PlOk.max {S : Nat → Prop} {W : World} {k : Nat} {x y : Value × Int} {p q : Pl} (hx : PlOk S W k x p) (hy : PlOk S W k y q) : PlOk S W k (maxV [x, y]) (pmax p q) := by
  rw [vmax_two]
  unfold pmax
  rw [hx.1, hy.1]
  split
  · exact hy
  · exact hx
theorem wpList_skip1 {P : Program} {ops : Array Oper} {Q : Exit → Act → World → Prop} {o : Oper} {a : Act} {w w' : World} (hgd : o.guard = none) (hd : o.dst = none) (hr : (execOp a.eval o).run P w = .ok .skip w')
    (h : Q .normal a w') : wpList P ops Q [o] a w := by
  refine wpList_skip hgd hr ?_
  rw [hd]
  exact h
theorem wpList_turn1 {P : Program} {ops : Array Oper} {Q : Exit → Act → World → Prop} {o : Oper} {a : Act} {w w' : World} {v : Value} (hgd : o.guard = none) (hd : o.dst = none) (hr : (execOp a.eval o).run P w = .ok (.value v) w')
    (h : Q .normal a w') : wpList P ops Q [o] a w := by
  simp only [wpList]
  rw [if_pos (by simp [Region.wanted, hgd])]
  left
  unfold Oper.wp
  rw [hr]
  have h' : Q .normal (a.put o.dst v) w' := by rw [hd]; exact h
  exact h'
theorem reach_less {os : List Odr} {s : Dp} {last b : Nat} {x : Int} (h : ((candOf os s.kept b x last (s.kept last (b + 1))).getD ([], 0)).2 ≤ (s.mosts (b + 1)).2) : (∀ l b', (reachOf os s last b x).kept l b' = if l = last ∧ b' = b + 1 then none else keptTo os s last b x last l b') ∧ (reachOf os s last b x).mosts = s.mosts := by
  unfold reachOf
  simp only [h, if_true]
  refine ⟨fun l b' => ?_, trivial⟩
  unfold keptTo
  split <;> rfl
theorem reach_more {os : List Odr} {s : Dp} {last b : Nat} {x : Int} (h : ¬ ((candOf os s.kept b x last (s.kept last (b + 1))).getD ([], 0)).2 ≤ (s.mosts (b + 1)).2) : (reachOf os s last b x).kept = keptTo os s last b x last ∧ (reachOf os s last b x).mosts = fun b' => if b' = b + 1 then (candOf os s.kept b x last (s.kept last (b + 1))).getD ([], 0) else s.mosts b' := by
  unfold reachOf
  simp only [h, if_false]
  exact ⟨rfl, trivial⟩
set_option maxRecDepth 100000 in
set_option maxHeartbeats 4000000 in
theorem reach_any {A : Option Addr} {c : Nat} {os : List Odr} {w : World} (hb : IsBook w A c os) (pb m g N n : Nat) (last b b1 : Nat) (hb1 : b1 = b + 1) (x : Int) (s : Dp)
    (hpb : w.heap[pb]? = some (.cells #[.slice A os.length c, .map (some m), .slice (some ⟨g, 0, none⟩) N N] 129 (0, 0)))
    {T : Nat → Prop} (hT1 : ∀ i, i = m ∨ i = g → T i) (hT2 : ∀ i, T i → i < w.heap.size) (hmg : m ≠ g) (hpm : pb ≠ m) (hpg : pb ≠ g) (hA : ∀ b o, A = some ⟨b, o, none⟩ → ¬ (b = m ∨ b = g))
    (hT : TabAt T w m n s.kept) (hM : MostAt T w g N s.mosts) (hn : n + last < 1000000) (hl : last ≤ 900) (hbN : b1 < N) (hN : N ≤ 900) :
    Calls Tryz.prog 99 #[.pointer (some ⟨pb, 0, none⟩), .agg #[.int .i64 (last : Int), .int .i64 (b1 : Int)], .int .i64 x] w fun e w' => e = .returned (.tuple #[]) ∧ But (fun i => i = m ∨ i = g) w w' ∧ TabAt T w' m (n + last) (reachOf os s last b x).kept ∧ MostAt T w' g N (reachOf os s last b x).mosts := by
  have HB := Lib.hid hb
  have HB1 := Lib.hid hb1
  have hwz : IntKind.i64.wrap ((b1 : Int) - 1) = (b : Int) := by rw [hb1]; exact IntWalk.i64_in _ (by omega) |>.trans (by omega)
  have hbNz : (b1 : Int) < (N : Int) := by omega
  have hb9 : b < 1000 ∧ b1 ≤ 1000 := ⟨by omega, by omega⟩
  have HK := Lib.hid (And.intro hwz (And.intro hbNz hb9))
  obtain ⟨w1, hw1⟩ : ∃ w1, w.alloc (.cells #[.int .i64 (last : Int), .int .i64 (b1 : Int)] 125) = w1 := ⟨_, rfl⟩
  have e1 : Ext w w1 := by rw [← hw1]; exact ext_alloc _ _
  have r4 : w1.heap[w.heap.size]? = some (.cells #[.int .i64 (last : Int), .int .i64 (b1 : Int)] 125 (0, 0)) := by rw [← hw1]; exact row_last _ _ _ rfl
  obtain ⟨p4, hp4⟩ : ∃ p4, w.heap.size = p4 := ⟨_, rfl⟩
  have HL := Lib.hid (show m < p4 ∧ g < p4 ∧ pb < p4 from ⟨by rw [← hp4]; exact hT.choose_spec.1.lt, by rw [← hp4]; exact hM.lt, by rw [← hp4]; exact (Array.getElem?_eq_some_iff.1 hpb).1⟩)
  have HTT := Lib.hid (And.intro hT1 (show ∀ i, T i → i < p4 from fun i h => hp4 ▸ hT2 i h))
  have HX := Lib.hid (And.intro hmg (And.intro hpm (And.intro hpg hA)))
  have HPB := Lib.hid (row_ext hpb e1)
  have HT1 := Lib.hid (hT.ext e1)
  have HM1 := Lib.hid (hM.ext e1)
  have HE1 := Lib.hid (show But (fun i => i = m ∨ i = g) w w1 from But.ext e1)
  have HN := Lib.hid (show p4 ≤ w.heap.size from Nat.le_of_eq hp4.symm)
  rw [hp4] at r4
  have HR4 := Lib.hid r4
  clear hT1 hT2 hb hb1 hwz hbNz hb9 hpb hmg hpm hpg hA hT hM e1 r4
  go_enter Tryz.func99, Tryz.ntmps99
  go_upto_region 1 with fail
  clear hw1 hp4
  have d0 : w1.cell? ⟨p4, 0, none⟩ = some (.int .i64 (last : Int)) := cell_of_row _ _ _ _ _ _ HR4.out
  go_wp2
  go_loopw [11] (fun i wr => ∃ k : Nat, k ≤ last ∧ i = .int .i64 k ∧ Hid (But (fun i => i = m ∨ i = g) w wr) ∧ Hid (wr.heap[p4]? = some (.cells #[.int .i64 (last : Int), .int .i64 (b1 : Int)] 125 (0, 0))) ∧ Hid (wr.heap[pb]? = some (.cells #[.slice A os.length c, .map (some m), .slice (some ⟨g, 0, none⟩) N N] 129 (0, 0))) ∧ Hid (TabAt T wr m (n + k) (keptTo os s last b x k)) ∧ Hid (MostAt T wr g N s.mosts)) (fun i _ => last - (intOf i).toNat)
  case atStart => exact ⟨0, Nat.zero_le _, rfl, HE1, HR4, HPB, Lib.hid (by rw [keptTo_zero]; exact HT1.out), HM1⟩
  case round =>
    obtain ⟨k, hk, rfl, hE, hR4, hPB, hT, hM⟩ := hrel
    clear HE1 HR4 HPB HT1 HM1
    have hwz := HK.out.1
    obtain ⟨K, hKA, hKR⟩ := hT.out
    have hAT := fun l b' (h : l ≤ 1000) (h' : b' ≤ 1000) W (hW : Ext wr W) => (hKA.block (hW.block _ hKA.lt)).look1 (l := l) (b := b') h h'
    by_cases hlt : k < last
    · have hltz : (k : Int) < (last : Int) := by omega
      have hlook := fun W (hW : Ext wr W) => (hKA.block (hW.block _ hKA.lt)).look (l := k) (b := b) (by omega) (by have := HK.out.2.2; omega)
      have hrel1 := hKR k b
      rw [keptTo_old] at hrel1
      have hget := OptOk.get hrel1
      obtain ⟨PA, pn, pc, hps⟩ := hget.2.1.slice
      obtain ⟨fnd, hfnd⟩ : ∃ fnd, (K k b).isSome = fnd := ⟨_, rfl⟩
      obtain ⟨pv, hpv⟩ : ∃ pv, (K k b).getD zeroP = pv := ⟨_, rfl⟩
      rw [hpv] at hps
      simp only [hfnd, hpv] at hlook
      obtain ⟨pv0, pw⟩ := pv
      simp only at hps
      subst hps
      have HG := Lib.hid (And.intro hrel1 (And.intro hfnd hpv))
      have HKA := Lib.hid (And.intro hKA (And.intro hKR hAT))
      clear hKA hKR hAT hrel1 hget hfnd hpv hT
      go_upto_region 4 with fail
      refine rc4_wp (pb := pb) (m := m) (p4 := p4) (b1 := b1) (bb := b) (kk := k) (PA := PA) (pn := pn) (pc := pc) (pw := pw) (fnd := fnd) rfl rfl rfl rfl (fun W hW => cell_of_row _ _ 1 _ _ _ (row_ext hPB.out hW)) (fun W hW => cell_of_row _ _ 1 _ _ _ (row_ext hR4.out hW)) hwz hlook ?_
      intro W1 p7 e1 hp7 hr7
      simp only [puts, List.foldl_cons, List.foldl_nil, Act.put, List.setIfInBounds_toArray, List.set_cons_succ, List.set_cons_zero]
      have HE1 := Lib.hid e1
      have HR7 := Lib.hid (And.intro hp7 hr7)
      clear e1 hp7 hr7 hlook hwz
      cases fnd with
      | false =>
        have hK0 : K k b = none := by simpa using HG.out.2.1
        have hs0 : s.kept k b = none := by
          have h1 := HG.out.1
          rw [hK0] at h1
          cases h2 : s.kept k b with
          | none => rfl
          | some p => rw [h2] at h1; exact h1.elim
        have HT2 : Hid (TabAt T W1 m (n + (k + 1)) (keptTo os s last b x (k + 1))) := Lib.hid (by rw [keptTo_none hs0]; exact (TabAt.put HKA.out.1 HKA.out.2.1 (But.refl _ _)).ext HE1.out |>.mono (by omega))
        clear hK0 hs0 HG HKA
        go_wp2
        go_roundw
        case measure => simp [intOf]; omega
        case rel => exact ⟨k + 1, by omega, by go_num, Lib.hid (hE.out.trans (But.ext HE1.out)), Lib.hid (row_ext hR4.out HE1.out), Lib.hid (row_ext hPB.out HE1.out), HT2, Lib.hid (hM.out.ext HE1.out)⟩
      | true =>
        obtain ⟨x0, hx0⟩ : ∃ x0, K k b = some x0 := Option.isSome_iff_exists.1 HG.out.2.1
        have hxe : x0 = (.slice PA pn pc, pw) := by
          have h := HG.out.2.2
          rw [hx0] at h
          exact h
        rw [hxe] at hx0
        obtain ⟨p0, hp0, hpo⟩ : ∃ p0, s.kept k b = some p0 ∧ PlOk T wr b (.slice PA pn pc, pw) p0 := by
          have h1 := HG.out.1
          rw [hx0] at h1
          cases h2 : s.kept k b with
          | none => rw [h2] at h1; exact h1.elim
          | some p => rw [h2] at h1; exact ⟨p, rfl, h1⟩
        have hnew := fun l b' => keptTo_some (os := os) (last := last) (x := x) hp0 l b'
        have hcu := OptOk.get (HKA.out.2.1 last b1)
        obtain ⟨CA, cn, ck, hcs⟩ := hcu.2.1.slice
        obtain ⟨cv, hcv⟩ : ∃ cv, (K last b1).getD zeroP = cv := ⟨_, rfl⟩
        have hly := fun W (hW : Ext W1 W) => HKA.out.2.2 last b1 (by omega) (by have := HK.out.2.2; omega) W (HE1.out.trans hW)
        rw [hcv] at hcs hcu
        simp only [hcv] at hly
        obtain ⟨cv0, cw⟩ := cv
        simp only at hcs
        subst hcs
        have hbk := fun W (hW : Ext W1 W) => (HB.out.but (hE.out.trans (But.ext (HE1.out.trans hW)))) HX.out.2.2.2
        have hpl := fun W (hW : Ext W1 W) => hpo.2.1.ext (HE1.out.trans hW)
        have h125 := fun W (hW : Ext W1 W) => longer_any (hbk W hW) (.slice PA pn pc) p0.1 pw (hpl W hW) (by have := hpo.2.2.2; have := HK.out.2.2; omega) x
        obtain ⟨wt, hwt⟩ : ∃ wt, worthOf os (p0.1 ++ [x]) = wt := ⟨_, rfl⟩
        simp only [hwt] at h125
        have HP := Lib.hid (And.intro hpo (And.intro hcu (And.intro hnew hwt)))
        clear hp0 hpo hnew hcu hcv hbk hpl hwt hx0 hxe HG
        go_upto_region 6 with fail
        refine rc6_wp (pb := pb) (m := m) (p4 := p4) (p7 := p7) (ll := last) (b1 := b1) (nn := os.length) (cc := c) (sz := W1.heap.size) (pn := pn) (pc := pc) (cn := cn) (ck := ck) (A := A) (PA := PA) (CA := CA) (cw := cw) (pw := pw) (x := x) (wt := wt) (bx := p0.1 ++ [x]) rfl rfl rfl rfl rfl (fun W hW => cell_of_row _ _ 1 _ _ _ (row_ext hPB.out (HE1.out.trans hW))) (fun W hW => cell_of_row _ _ 0 _ _ _ (row_ext hR4.out (HE1.out.trans hW))) (fun W hW => cell_of_row _ _ 1 _ _ _ (row_ext hR4.out (HE1.out.trans hW))) hly (fun W hW => cell_of_row _ _ 0 _ _ _ (row_ext hPB.out (HE1.out.trans hW))) (fun W hW => cell_of_row _ _ 0 _ _ _ (row_ext HR7.out.2 hW)) (fun W hW => cell_of_row _ _ 1 _ _ _ (row_ext HR7.out.2 hW)) h125 (Nat.le_refl _) ?_
        intro W2 v17 v18 v19 e2 _ _ hS19
        obtain ⟨u, rfl, hpu, hou⟩ := hS19
        have HE2 := Lib.hid (show Ext wr W2 from HE1.out.trans e2)
        clear h125 hly e2
        obtain ⟨o20, hdr, h20⟩ : ∃ o20, rc6Reg.toList.drop 20 = [o20] ∧ rc6Reg[20]? = some o20 := by
          have hs : rc6Reg.size = 21 := by kernel_rfl
          refine ⟨rc6Reg[20], ?_, Array.getElem?_eq_getElem _⟩
          rw [List.drop_eq_getElem_cons (by simp [hs]), List.drop_eq_nil_of_le (by simp [hs])]
          simp
        rw [hdr]
        simp only [puts, List.foldl_cons, List.foldl_nil, Act.put, List.setIfInBounds_toArray, List.set_cons_succ, List.set_cons_zero]
        obtain ⟨W3, hrun, hKA3, hturn⟩ := (HKA.out.1.block (HE2.out.block _ HKA.out.1.lt)).put (by omega) (l := last) (b := b1) (by omega) (by have := HK.out.2.2; omega) (maxV [(.slice CA cn ck, cw), (u, wt)])
        obtain ⟨zv, hzv⟩ : ∃ zv, planV (maxV [(.slice CA cn ck, cw), (u, wt)]) = zv := ⟨_, rfl⟩
        rw [hzv] at hrun ⊢
        have hrun' : (Instr.mapUpdate 126 (.map (some m)) (.agg #[.int .i64 (last : Int), .int .i64 (b1 : Int)]) zv).run Tryz.prog W2 = .ok () W3 := hrun
        refine wpList_skip1 (w' := W3) (op_at h20 (·.guard) (x := none) (by kernel_rfl)) (op_at h20 (·.dst) (x := none) (by kernel_rfl)) (by simp [execOp, show o20.op = .mapUpdate 126 (.tmp 31) (.tmp 32) (.tmp 47) from op_at h20 (·.op) (by kernel_rfl), go_sem, hrun']) ?_
        have hB23 : But (fun i => i = m ∨ i = g) W2 W3 := But.turned hturn (.inl rfl)
        have HB3 := Lib.hid (show But (fun i => i = m ∨ i = g) wr W3 from (But.ext HE2.out).trans hB23)
        have hoff : Off T u := fun b' o' n' d' he hS => by
          have h1 := hou b' o' n' d' he
          have h2 := HE1.out.size
          have h3 := HTT.out.2 b' hS
          have h4 := (Array.getElem?_eq_some_iff.1 hR4.out).1
          omega
        have HT3 : Hid (TabAt T W3 m (n + (k + 1)) (keptTo os s last b x (k + 1))) := Lib.hid (by
          refine ⟨_, hKA3, fun l b' => ?_⟩
          rw [HP.out.2.2.1]
          unfold updK
          rw [HB1.out]
          split
          · rename_i hlb
            obtain ⟨rfl, rfl⟩ := hlb
            have h1 := HP.out.2.1
            rw [HB1.out] at h1
            exact PlOk.max (PlOk.but h1 (HB3.out.wider HTT.out.1)) ⟨HP.out.2.2.2.symm, hpu.but (hB23.wider HTT.out.1) hoff, hoff, by simp [longer]; exact HP.out.1.2.2.2⟩
          · exact (HKA.out.2.1 l b').but (HB3.out.wider HTT.out.1))
        have hpbne := HX.out
        have hpl4 := HL.out
        have hbl := hturn.grown
        have HR4' := Lib.hid (show W3.heap[p4]? = some (.cells #[.int .i64 (last : Int), .int .i64 (b1 : Int)] 125 (0, 0)) from (HB3.out.block _ (Array.getElem?_eq_some_iff.1 hR4.out).1 (by omega)).trans hR4.out)
        have HPB' := Lib.hid (show W3.heap[pb]? = some (.cells #[.slice A os.length c, .map (some m), .slice (some ⟨g, 0, none⟩) N N] 129 (0, 0)) from (HB3.out.block _ (Array.getElem?_eq_some_iff.1 hPB.out).1 (by omega)).trans hPB.out)
        have HM3 : Hid (MostAt T W3 g N s.mosts) := Lib.hid (hM.out.but (HB3.out.wider HTT.out.1) ((hbl.block g (Nat.lt_of_lt_of_le hM.out.lt HE2.out.size) (fun e => hpbne.1 (Option.some.inj e).symm)).trans (HE2.out.block g hM.out.lt)))
        clear hpbne hpl4 hbl hoff hB23 hrun hrun' hKA3 hturn hzv hpu hou HP HKA h20 hdr
        go_wp2
        go_roundw
        case measure => simp [intOf]; omega
        case rel => exact ⟨k + 1, by omega, by go_num, Lib.hid (hE.out.trans HB3.out), HR4', HPB', HT3, HM3⟩
    · have hltz : ¬ (k : Int) < (last : Int) := by omega
      obtain rfl : k = last := by omega
      have hcu := OptOk.get (hKR k b1)
      have hka : keptTo os s k b x k k b1 = candOf os s.kept b x k (s.kept k (b + 1)) := by rw [HB1.out]; exact keptTo_at _ _ _ _ _ _
      rw [hka] at hcu
      clear hka
      obtain ⟨cp, hcp⟩ : ∃ cp, candOf os s.kept b x k (s.kept k (b + 1)) = cp := ⟨_, rfl⟩
      have hless := reach_less (os := os) (s := s) (last := k) (b := b) (x := x)
      have hmore := reach_more (os := os) (s := s) (last := k) (b := b) (x := x)
      rw [hcp] at hcu hless hmore
      obtain ⟨CA, cn, ck, hcs⟩ := hcu.2.1.slice
      obtain ⟨cv, hcv⟩ : ∃ cv, (K k b1).getD zeroP = cv := ⟨_, rfl⟩
      have hly := fun W (hW : Ext wr W) => hAT k b1 (by omega) (by have := HK.out.2.2; omega) W hW
      rw [hcv] at hcs hcu
      simp only [hcv] at hly
      obtain ⟨cv0, cw⟩ := cv
      simp only at hcs
      subst hcs
      have hcw : cw = (cp.getD ([], 0)).2 := hcu.1
      rw [← hcw, ← HB1.out] at hless hmore
      obtain ⟨mv, hm0, hm1, hf0, hf1, hmo⟩ := hM.out.at (j := b1) hbN
      obtain ⟨mw, hmw⟩ : ∃ mw, (s.mosts b1).2 = mw := ⟨_, rfl⟩
      rw [hmw] at hm1 hless hmore
      have hgl := hM.out.lt
      have HKA := Lib.hid (And.intro hKA hKR)
      have HC := Lib.hid (And.intro hcu hcw)
      have HQ := Lib.hid (And.intro hless hmore)
      have HF := Lib.hid (And.intro hm0 (And.intro hm1 (And.intro hf0 (And.intro hf1 (And.intro hmo hgl)))))
      have hbNz := HK.out.2.1
      clear hKA hKR hAT hcp hcv hcw hmw hm0 hf0 hf1 hmo hgl hT hless hmore hcu
      go_upto_region 8 with fail
      refine rc8_wp (pb := pb) (m := m) (g := g) (p4 := p4) (ll := k) (b1 := b1) (NN := N) (cn := cn) (ck := ck) (CA := CA) (cw := cw) (mw := mw) rfl rfl rfl (fun W hW => cell_of_row _ _ 1 _ _ _ (row_ext hPB.out hW)) (fun W hW => cell_of_row _ _ 0 _ _ _ (row_ext hR4.out hW)) (fun W hW => cell_of_row _ _ 1 _ _ _ (row_ext hR4.out hW)) hly (fun W hW => cell_of_row _ _ 2 _ _ _ (row_ext hPB.out hW)) hbNz (fun W hW => (Below.cell hW (p := ⟨g, b1 * 2 + 1, none⟩) HF.out.2.2.2.2.2).trans hm1) ?_
      intro W2 e2
      have hs8 : rc8Reg.size = 17 := by kernel_rfl
      have hdr : rc8Reg.toList.drop 17 = [] := List.drop_eq_nil_of_le (by simp [hs8])
      rw [hdr]
      simp only [puts, List.foldl_cons, List.foldl_nil, Act.put, List.setIfInBounds_toArray, List.set_cons_succ, List.set_cons_zero]
      have HE2 := Lib.hid (show Ext wr W2 from e2)
      replace hly := fun W (hW : Ext W2 W) => hly W (HE2.out.trans hW)
      clear e2 hdr hm1 hs8
      obtain ⟨q, hq⟩ : ∃ q, decide (cw ≤ mw) = q := ⟨_, rfl⟩
      have HQQ := Lib.hid hq
      rw [hq]
      clear hq
      cases q with
      | true =>
        have hle : cw ≤ mw := of_decide_eq_true HQQ.out
        obtain ⟨hkk, hmm⟩ := HQ.out.1 hle
        have HKK := Lib.hid (And.intro hkk hmm)
        clear hkk hmm hly hle
        go_upto_region 9 with fail
        refine rc9_wp (pb := pb) (m := m) (p4 := p4) (ll := k) (b1 := b1) rfl rfl rfl (fun W hW => cell_of_row _ _ 1 _ _ _ (row_ext hPB.out (HE2.out.trans hW))) (fun W hW => cell_of_row _ _ 0 _ _ _ (row_ext hR4.out (HE2.out.trans hW))) (fun W hW => cell_of_row _ _ 1 _ _ _ (row_ext hR4.out (HE2.out.trans hW))) ?_
        intro W3 e3
        have HE3 := Lib.hid (show Ext wr W3 from HE2.out.trans e3)
        clear e3
        obtain ⟨o5, hdr, h5⟩ : ∃ o5, rc9Reg.toList.drop 5 = [o5] ∧ rc9Reg[5]? = some o5 := by
          have hs : rc9Reg.size = 6 := by kernel_rfl
          refine ⟨rc9Reg[5], ?_, Array.getElem?_eq_getElem _⟩
          rw [List.drop_eq_getElem_cons (by simp [hs]), List.drop_eq_nil_of_le (by simp [hs])]
          simp
        rw [hdr]
        simp only [puts, List.foldl_cons, List.foldl_nil, Act.put, List.setIfInBounds_toArray, List.set_cons_succ, List.set_cons_zero]
        obtain ⟨W4, hrun, hKA4, hturn⟩ := (HKA.out.1.block (HE3.out.block _ HKA.out.1.lt)).cut (l := k) (b := b1) (by omega) (by have := HK.out.2.2; omega) o5.type
        have hrun' : (Builtin.delete_ #[126, 125] o5.type #[.map (some m), .agg #[.int .i64 (k : Int), .int .i64 (b1 : Int)]]).run Tryz.prog W3 = .ok (.tuple #[]) W4 := hrun
        refine wpList_turn1 (v := .tuple #[]) (w' := W4) (op_at h5 (·.guard) (x := none) (by kernel_rfl)) (op_at h5 (·.dst) (x := none) (by kernel_rfl)) (by simp [execOp, show o5.op = .call { callee := .builtin .delete, args := #[.tmp 69, .tmp 70], argTypes := #[126, 125] } from op_at h5 (·.op) (by kernel_rfl), go_sem, resolve, invoke, builtin, hrun', Result.andThen]) ?_
        have hB4 : But (fun i => i = m ∨ i = g) wr W4 := (But.ext HE3.out).trans (But.turned hturn (.inl rfl))
        have hbl := hturn.grown
        have HFIN := Lib.hid (show But (fun i => i = m ∨ i = g) w W4 ∧ TabAt T W4 m (n + k) (reachOf os s k b x).kept ∧ MostAt T W4 g N (reachOf os s k b x).mosts from ⟨hE.out.trans hB4, ⟨_, hKA4, fun l b' => by
          rw [HKK.out.1]
          unfold updK
          rw [HB1.out]
          split
          · exact trivial
          · exact (HKA.out.2 l b').but (hB4.wider HTT.out.1)⟩, by
          rw [HKK.out.2]
          exact hM.out.but (hB4.wider HTT.out.1) ((hbl.block g (Nat.lt_of_lt_of_le hM.out.lt HE3.out.size) (fun e => HX.out.1 (Option.some.inj e).symm)).trans (HE3.out.block g hM.out.lt))⟩)
        clear hB4 hbl hrun hrun' hKA4 hturn hdr h5
        go_wp2
        exact bodyPost_ret (results_none rfl _ _ _) rfl ⟨rfl, HFIN.out⟩
      | false =>
        have hle : ¬ cw ≤ mw := of_decide_eq_false HQQ.out
        obtain ⟨hkk, hmm⟩ := HQ.out.2 hle
        have HKK := Lib.hid (And.intro hkk hmm)
        clear hkk hmm hle
        go_upto_region 10 with fail
        refine rc10_wp (pb := pb) (m := m) (g := g) (p4 := p4) (ll := k) (b1 := b1) (NN := N) (cn := cn) (ck := ck) (CA := CA) (cw := cw) rfl rfl rfl (fun W hW => cell_of_row _ _ 2 _ _ _ (row_ext hPB.out (HE2.out.trans hW))) (fun W hW => cell_of_row _ _ 1 _ _ _ (row_ext hR4.out (HE2.out.trans hW))) (fun W hW => cell_of_row _ _ 1 _ _ _ (row_ext hPB.out (HE2.out.trans hW))) (fun W hW => cell_of_row _ _ 0 _ _ _ (row_ext hR4.out (HE2.out.trans hW))) hly hbNz ?_
        intro W3 e3
        have HE3 := Lib.hid (show Ext wr W3 from HE2.out.trans e3)
        clear e3
        obtain ⟨o13, hdr, h13⟩ : ∃ o13, rc10Reg.toList.drop 13 = [o13] ∧ rc10Reg[13]? = some o13 := by
          have hs : rc10Reg.size = 14 := by kernel_rfl
          refine ⟨rc10Reg[13], ?_, Array.getElem?_eq_getElem _⟩
          rw [List.drop_eq_getElem_cons (by simp [hs]), List.drop_eq_nil_of_le (by simp [hs])]
          simp
        rw [hdr]
        simp only [puts, List.foldl_cons, List.foldl_nil, Act.put, List.setIfInBounds_toArray, List.set_cons_succ, List.set_cons_zero]
        have hM3 := hM.out.ext HE3.out
        obtain ⟨mv', y0, y1, z0, z1, _⟩ := hM3.at (j := b1) hbN
        have hgr : ∃ cs, W3.heap[g]? = some (.cells cs 103 (0, 0)) := by obtain ⟨_, cs, h, _⟩ := hM3; exact ⟨cs, h⟩
        obtain ⟨gcs, hgr⟩ := hgr
        have y2 : ∀ v, (W3.setCell ⟨g, b1 * 2, none⟩ v).cell? ⟨g, b1 * 2 + 1, none⟩ = some (.int .i64 (s.mosts b1).2) := fun v => by
          rw [cell_of_row _ _ _ _ _ _ (row_setCell W3 g (b1 * 2) v _ _ _ hgr), Array.getElem?_setIfInBounds_ne (by omega), ← cell_of_row _ _ _ _ _ _ hgr]
          exact y1
        have z2 : ∀ v, (W3.setCell ⟨g, b1 * 2, none⟩ v).frozen? ⟨g, b1 * 2 + 1, none⟩ = false := fun v => by simp [World.frozen?, row_setCell W3 g (b1 * 2) v _ _ _ hgr]
        have hset := hM3.set (HTT.out.1 _ (.inr rfl)) hbN (x := (.slice CA cn ck, cw)) (p := cp.getD ([], 0)) (HC.out.1.but (But.ext HE3.out))
        refine wpList_skip1 (w' := (W3.setCell ⟨g, b1 * 2, none⟩ (.slice CA cn ck)).setCell ⟨g, b1 * 2 + 1, none⟩ (.int .i64 cw)) (op_at h13 (·.guard) (x := none) (by kernel_rfl)) (op_at h13 (·.dst) (x := none) (by kernel_rfl)) (by simp [execOp, show o13.op = .store 103 (.tmp 83) (.tmp 82) from op_at h13 (·.op) (by kernel_rfl), go_sem, y0, z0, y2, z2]) ?_
        obtain ⟨W4, hW4⟩ : ∃ W4, (W3.setCell ⟨g, b1 * 2, none⟩ (.slice CA cn ck)).setCell ⟨g, b1 * 2 + 1, none⟩ (.int .i64 cw) = W4 := ⟨_, rfl⟩
        have hB4 : But (fun i => i = m ∨ i = g) wr W4 := by rw [← hW4]; exact ((But.ext HE3.out).set (.inr rfl)).set (.inr rfl)
        have hmb : W4.heap[m]? = wr.heap[m]? := by rw [← hW4, heap_set_other _ _ _ _ _ HX.out.1, heap_set_other _ _ _ _ _ HX.out.1]; exact HE3.out.block _ HKA.out.1.lt
        have HFIN := Lib.hid (show But (fun i => i = m ∨ i = g) w W4 ∧ TabAt T W4 m (n + k) (reachOf os s k b x).kept ∧ MostAt T W4 g N (reachOf os s k b x).mosts from ⟨hE.out.trans hB4, by
          rw [HKK.out.1]
          exact TabAt.put (HKA.out.1.block hmb) HKA.out.2 (hB4.wider HTT.out.1), by
          rw [HKK.out.2, ← hW4]
          exact hset⟩)
        rw [hW4]
        clear hB4 hW4 hmb hset z2 y2 hgr y0 y1 z0 z1 hM3 hdr h13
        go_wp2
        exact ⟨rfl, _, results_none rfl _ _ _, rfl, HFIN.out⟩
end Go.Proofs.YtmlmnljbegcjcaaGreat

/- most's region: a table of plans is made. -/
namespace Go.Proofs.YtmlmnljbegcjcaaGreat
open Go.RowKit Go.Shelf
attribute [local irreducible] bitCells

theorem info103 : (Tryz.prog.info? 103).map (fun i => (i.zero, i.size, i.bytes)) = some (some (.agg #[.slice none 0 0, .int .i64 0]), 2, 32) := by kernel_rfl
abbrev zerosP (N : Nat) : Array Value := madeCells #[.slice none 0 0, .int .i64 0] (N * 2)
theorem run_make127 (n : Nat) (hn : n ≤ 4096) (w : World) : (Instr.makeSlice 127 (.int .i64 (n : Int)) (.int .i64 (n : Int))).run Tryz.prog w = .ok (.slice (some ⟨w.heap.size, 0, none⟩) n n) (w.alloc (.cells (zerosP n) 103)) := by
  obtain ⟨i0, hi, hz0, hz1, hz2⟩ := info_parts info103
  have := run_makeSlice (P := Tryz.prog) w 127 103 i0 _ Tryz.underlying127 hi hz0 .i64 .i64 (n : Int) (n : Int) (by omega) (Int.le_refl _) (by rw [hz1]; simp; omega) (by rw [hz2]; omega) (by omega)
  simp only [Int.toNat_natCast, hz1] at this
  exact this
theorem zerosP_at (N j : Nat) (h : j < N) : (zerosP N)[j * 2]? = some (.slice none 0 0) ∧ (zerosP N)[j * 2 + 1]? = some (.int .i64 0) := by
  have h0 : j * 2 % 2 = 0 := by omega
  have h1 : (j * 2 + 1) % 2 = 1 := by omega
  constructor
  · simp only [zerosP, madeCells, Array.getElem?_map, Array.getElem?_range]
    rw [if_pos (by omega)]
    simp [h0]
  · simp only [zerosP, madeCells, Array.getElem?_map, Array.getElem?_range]
    rw [if_pos (by omega)]
    simp [h1]
/-- What the map holds behind the literal. -/
def litK (q : Bool) : Nat → Nat → Option (Value × Int) := fun l b => if q = true ∧ l = 0 ∧ b = 0 then some zeroP else none
structure MkI (B : Nat) (bk : Value) (N : Nat) (L : Nat → Bool) (a : Act) (W : World) (m g pb p5 : Nat) : Prop where
  h1 : L 1 = true → a.eval (.tmp 10) = .map (some m) ∧ B ≤ m ∧ KeptAt W m (if L 4 = true then 1 else 0) (litK (L 4)) ∧ ∃ es c, W.heap[m]? = some (.map es c)
  k4 : L 4 = true → L 1 = true
  h5 : L 5 = true → a.eval (.tmp 13) = .map (some m)
  k5 : L 5 = true → L 4 = true
  h8 : L 8 = true → a.eval (.tmp 16) = .slice (some ⟨g, 0, none⟩) N N ∧ B ≤ g ∧ W.heap[g]? = some (.cells (zerosP N) 103 (0, 0))
  h9 : L 9 = true → a.eval (.tmp 17) = .agg #[bk, .map (some m), .slice (some ⟨g, 0, none⟩) N N]
  k9 : L 9 = true → L 5 = true ∧ L 8 = true
  h10 : L 10 = true → a.eval (.tmp 18) = .pointer (some ⟨pb, 0, none⟩) ∧ B ≤ pb ∧ W.heap[pb]? = some (.cells #[bk, .map (some m), .slice (some ⟨g, 0, none⟩) N N] 129 (0, 0))
  k10 : L 10 = true → L 9 = true
  h11 : L 11 = true → a.eval (.tmp 5) = .pointer (some ⟨p5, 0, none⟩) ∧ B ≤ p5 ∧ W.heap[p5]? = some (.cells #[if L 12 = true then .pointer (some ⟨pb, 0, none⟩) else .pointer none] 123 (0, 0))
  k12 : L 12 = true → L 10 = true ∧ L 11 = true
def MkMem (B : Nat) (bk : Value) (N : Nat) (L : Nat → Bool) (a : Act) (W : World) : Prop := ∃ m g pb p5, MkI B bk N L a W m g pb p5
def mk1D (i : Nat) : Tmp := if i = 0 then 9 else if i = 1 then 10 else if i = 2 then 11 else if i = 3 then 12 else if i = 4 then 45 else if i = 5 then 13 else if i = 6 then 14 else if i = 7 then 15 else if i = 8 then 16 else if i = 9 then 17 else if i = 10 then 18 else if i = 11 then 5 else 53
def mk1V (bk : Value) (n0 N : Nat) (ix : Nat) : Value :=
  match ix with
  | 0 => bk
  | 2 => .agg #[.int .i64 0, .int .i64 0]
  | 3 => .agg #[.slice none 0 0, .int .i64 0]
  | 6 => .int .i64 (n0 : Int)
  | 7 => .int .i64 (N : Int)
  | _ => undef
def mk1P (i : Nat) : Bool := decide (i = 0) || decide (i = 2) || decide (i = 3) || decide (i = 6) || decide (i = 7)
noncomputable def mk1Reg : Array Oper := (Tryz.f79.body.bind (regionOf · 1)).getD #[]
theorem mk1_size : mk1Reg.size = 13 := by kernel_rfl
section
variable {B : Nat} {bk : Value} {N : Nat} {L : Nat → Bool} {a : Act} {W W' : World}
theorem MkMem.start : MkMem B bk N (fun _ => false) a W := ⟨0, 0, 0, 0, ⟨fun h => (by cases h), fun h => (by cases h), fun h => (by cases h), fun h => (by cases h), fun h => (by cases h), fun h => (by cases h), fun h => (by cases h), fun h => (by cases h), fun h => (by cases h), fun h => (by cases h), fun h => (by cases h)⟩⟩
theorem MkMem.stay (h : MkMem B bk N L a W) (e : Below W.heap.size W W') {i : Nat} (hp : mk1P i = true) {v : Value} : MkMem B bk N (fun j => decide (j = i) || L j) (a.put (some (mk1D i)) v) W' := by
  obtain ⟨m, g, pb, p5, I⟩ := h
  have hi : i = 0 ∨ i = 2 ∨ i = 3 ∨ i = 6 ∨ i = 7 := by simp [mk1P] at hp; omega
  have hL : ∀ j, (j = 1 ∨ j = 4 ∨ j = 5 ∨ j = 8 ∨ j = 9 ∨ j = 10 ∨ j = 11 ∨ j = 12) → (decide (j = i) || L j) = L j := fun j hj => by
    rw [decide_eq_false (by omega)]; rfl
  have hD : ∀ t, (t = 10 ∨ t = 13 ∨ t = 16 ∨ t = 17 ∨ t = 18 ∨ t = 5) → t ≠ mk1D i := fun t ht => by
    rcases hi with rfl | rfl | rfl | rfl | rfl <;> rcases ht with rfl | rfl | rfl | rfl | rfl | rfl <;> decide
  have hput : ∀ t, (t = 10 ∨ t = 13 ∨ t = 16 ∨ t = 17 ∨ t = 18 ∨ t = 5) → (a.put (some (mk1D i)) v).eval (.tmp t) = a.eval (.tmp t) := fun t ht => eval_put_other (hD t ht)
  refine ⟨m, g, pb, p5, ?_⟩
  refine ⟨?_, ?_, ?_, ?_, ?_, ?_, ?_, ?_, ?_, ?_, ?_⟩
  · rw [hL 1 (by simp), hL 4 (by simp), hput 10 (by simp)]
    intro h
    obtain ⟨q1, q2, q3, es, c, q4⟩ := I.h1 h
    exact ⟨q1, q2, q3.block (e.block _ q3.lt), es, c, row_ext q4 e⟩
  · rw [hL 1 (by simp), hL 4 (by simp)]; exact I.k4
  · rw [hL 5 (by simp), hput 13 (by simp)]; exact I.h5
  · rw [hL 5 (by simp), hL 4 (by simp)]; exact I.k5
  · rw [hL 8 (by simp), hput 16 (by simp)]
    intro h
    obtain ⟨q1, q2, q3⟩ := I.h8 h
    exact ⟨q1, q2, row_ext q3 e⟩
  · rw [hL 9 (by simp), hput 17 (by simp)]; exact I.h9
  · rw [hL 9 (by simp), hL 5 (by simp), hL 8 (by simp)]; exact I.k9
  · rw [hL 10 (by simp), hput 18 (by simp)]
    intro h
    obtain ⟨q1, q2, q3⟩ := I.h10 h
    exact ⟨q1, q2, row_ext q3 e⟩
  · rw [hL 10 (by simp), hL 9 (by simp)]; exact I.k10
  · rw [hL 11 (by simp), hL 12 (by simp), hput 5 (by simp)]
    intro h
    obtain ⟨q1, q2, q3⟩ := I.h11 h
    exact ⟨q1, q2, row_ext q3 e⟩
  · rw [hL 12 (by simp), hL 10 (by simp), hL 11 (by simp)]; exact I.k12
-- ACTS
theorem MkMem.act1 (h : MkMem B bk N L a W) (hB : B ≤ W.heap.size) (hL : L 1 = false) (hz : 10 < a.tmps.size) : MkMem B bk N (fun j => decide (j = 1) || L j) (a.put (some 10) (.map (some W.heap.size))) (W.alloc (.map #[] 0)) := by
  obtain ⟨m, g, pb, p5, I⟩ := h
  have e : Ext W (W.alloc (.map #[] 0)) := ext_alloc _ _
  have h4 : L 4 = false := by
    cases h : L 4 with
    | false => rfl
    | true => exact absurd (I.k4 h) (by rw [hL]; decide)
  refine ⟨W.heap.size, g, pb, p5, ?_⟩
  refine ⟨?_, ?_, ?_, ?_, ?_, ?_, ?_, ?_, ?_, ?_, ?_⟩
  all_goals (try simp only [Nat.reduceEqDiff, decide_false, decide_true, Bool.false_or, Bool.true_or, forall_const])
  · exact ⟨eval_put_same hz, hB, by rw [h4]; exact (KeptAt.made W).mono (by omega), _, _, row_last _ _ _ rfl⟩
  · intro _; trivial
  · intro h; exact absurd (I.k4 (I.k5 h)) (by rw [hL]; decide)
  · exact I.k5
  · intro h; obtain ⟨q1, q2, q3⟩ := I.h8 h; exact ⟨(eval_put_other (by decide)).trans q1, q2, row_ext q3 e⟩
  · intro h; exact absurd (I.k4 (I.k5 (I.k9 h).1)) (by rw [hL]; decide)
  · exact I.k9
  · intro h; exact absurd (I.k4 (I.k5 (I.k9 (I.k10 h)).1)) (by rw [hL]; decide)
  · exact I.k10
  · intro h; obtain ⟨q1, q2, q3⟩ := I.h11 h; exact ⟨(eval_put_other (by decide)).trans q1, q2, row_ext q3 e⟩
  · exact I.k12
theorem MkMem.act5 (h : MkMem B bk N L a W) (_hL : L 5 = false) (hz : 13 < a.tmps.size) (h4 : L 4 = true) {v : Value} (hv : a.eval (.tmp 10) = v) : MkMem B bk N (fun j => decide (j = 5) || L j) (a.put (some 13) (v)) W := by
  obtain ⟨m, g, pb, p5, I⟩ := h
  have e : Ext W W := Ext.refl W
  refine ⟨m, g, pb, p5, ?_⟩
  refine ⟨?_, ?_, ?_, ?_, ?_, ?_, ?_, ?_, ?_, ?_, ?_⟩
  all_goals (try simp only [Nat.reduceEqDiff, decide_false, decide_true, Bool.false_or, Bool.true_or, forall_const])
  · intro h; obtain ⟨q1, q2, q3, es, c, q4⟩ := I.h1 h; exact ⟨(eval_put_other (by decide)).trans q1, q2, q3.block (e.block _ q3.lt), es, c, row_ext q4 e⟩
  · exact I.k4
  · rw [← hv, (I.h1 (I.k4 h4)).1]; exact eval_put_same hz
  · exact h4
  · intro h; obtain ⟨q1, q2, q3⟩ := I.h8 h; exact ⟨(eval_put_other (by decide)).trans q1, q2, row_ext q3 e⟩
  · intro h; exact (eval_put_other (by decide)).trans (I.h9 h)
  · intro h; exact ⟨trivial, (I.k9 h).2⟩
  · intro h; obtain ⟨q1, q2, q3⟩ := I.h10 h; exact ⟨(eval_put_other (by decide)).trans q1, q2, row_ext q3 e⟩
  · exact I.k10
  · intro h; obtain ⟨q1, q2, q3⟩ := I.h11 h; exact ⟨(eval_put_other (by decide)).trans q1, q2, row_ext q3 e⟩
  · exact I.k12
theorem MkMem.act8 (h : MkMem B bk N L a W) (hB : B ≤ W.heap.size) (hL : L 8 = false) (hz : 16 < a.tmps.size) : MkMem B bk N (fun j => decide (j = 8) || L j) (a.put (some 16) (.slice (some ⟨W.heap.size, 0, none⟩) N N)) (W.alloc (.cells (zerosP N) 103)) := by
  obtain ⟨m, g, pb, p5, I⟩ := h
  have e : Ext W (W.alloc (.cells (zerosP N) 103)) := ext_alloc _ _
  refine ⟨m, W.heap.size, pb, p5, ?_⟩
  refine ⟨?_, ?_, ?_, ?_, ?_, ?_, ?_, ?_, ?_, ?_, ?_⟩
  all_goals (try simp only [Nat.reduceEqDiff, decide_false, decide_true, Bool.false_or, Bool.true_or, forall_const])
  · intro h; obtain ⟨q1, q2, q3, es, c, q4⟩ := I.h1 h; exact ⟨(eval_put_other (by decide)).trans q1, q2, q3.block (e.block _ q3.lt), es, c, row_ext q4 e⟩
  · exact I.k4
  · intro h; exact (eval_put_other (by decide)).trans (I.h5 h)
  · exact I.k5
  · exact ⟨eval_put_same hz, hB, row_last _ _ _ rfl⟩
  · intro h; exact absurd ((I.k9 h).2) (by rw [hL]; decide)
  · intro h; exact ⟨(I.k9 h).1, trivial⟩
  · intro h; exact absurd ((I.k9 (I.k10 h)).2) (by rw [hL]; decide)
  · exact I.k10
  · intro h; obtain ⟨q1, q2, q3⟩ := I.h11 h; exact ⟨(eval_put_other (by decide)).trans q1, q2, row_ext q3 e⟩
  · exact I.k12
theorem MkMem.act9 (h : MkMem B bk N L a W) (_hL : L 9 = false) (hz : 17 < a.tmps.size) (h5 : L 5 = true) (h8 : L 8 = true) {v x y : Value} (hx : a.eval (.tmp 13) = x) (hy : a.eval (.tmp 16) = y) (hv : v = .agg #[bk, x, y]) : MkMem B bk N (fun j => decide (j = 9) || L j) (a.put (some 17) (v)) W := by
  obtain ⟨m, g, pb, p5, I⟩ := h
  have e : Ext W W := Ext.refl W
  refine ⟨m, g, pb, p5, ?_⟩
  refine ⟨?_, ?_, ?_, ?_, ?_, ?_, ?_, ?_, ?_, ?_, ?_⟩
  all_goals (try simp only [Nat.reduceEqDiff, decide_false, decide_true, Bool.false_or, Bool.true_or, forall_const])
  · intro h; obtain ⟨q1, q2, q3, es, c, q4⟩ := I.h1 h; exact ⟨(eval_put_other (by decide)).trans q1, q2, q3.block (e.block _ q3.lt), es, c, row_ext q4 e⟩
  · exact I.k4
  · intro h; exact (eval_put_other (by decide)).trans (I.h5 h)
  · exact I.k5
  · intro h; obtain ⟨q1, q2, q3⟩ := I.h8 h; exact ⟨(eval_put_other (by decide)).trans q1, q2, row_ext q3 e⟩
  · rw [hv, ← hx, ← hy, I.h5 h5, (I.h8 h8).1]; exact eval_put_same hz
  · exact ⟨h5, h8⟩
  · intro h; obtain ⟨q1, q2, q3⟩ := I.h10 h; exact ⟨(eval_put_other (by decide)).trans q1, q2, row_ext q3 e⟩
  · intro _; trivial
  · intro h; obtain ⟨q1, q2, q3⟩ := I.h11 h; exact ⟨(eval_put_other (by decide)).trans q1, q2, row_ext q3 e⟩
  · exact I.k12
theorem MkMem.act10 (h : MkMem B bk N L a W) (hB : B ≤ W.heap.size) (hL : L 10 = false) (hz : 18 < a.tmps.size) (h9 : L 9 = true) {bx : Value} (_hbk : bk = bx) {x y : Value} (hx : a.eval (.tmp 17) = .agg #[bx, x, y]) : MkMem B bk N (fun j => decide (j = 10) || L j) (a.put (some 18) (.pointer (some ⟨W.heap.size, 0, none⟩))) (W.alloc (.cells #[bx, x, y] 129)) := by
  obtain ⟨m, g, pb, p5, I⟩ := h
  have e : Ext W (W.alloc (.cells #[bx, x, y] 129)) := ext_alloc _ _
  have h12 : L 12 = false := by
    cases h : L 12 with
    | false => rfl
    | true => exact absurd (I.k12 h).1 (by rw [hL]; decide)
  have hq := (I.h9 h9).symm.trans hx
  injection hq with hq
  refine ⟨m, g, W.heap.size, p5, ?_⟩
  refine ⟨?_, ?_, ?_, ?_, ?_, ?_, ?_, ?_, ?_, ?_, ?_⟩
  all_goals (try simp only [Nat.reduceEqDiff, decide_false, decide_true, Bool.false_or, Bool.true_or, forall_const])
  · intro h; obtain ⟨q1, q2, q3, es, c, q4⟩ := I.h1 h; exact ⟨(eval_put_other (by decide)).trans q1, q2, q3.block (e.block _ q3.lt), es, c, row_ext q4 e⟩
  · exact I.k4
  · intro h; exact (eval_put_other (by decide)).trans (I.h5 h)
  · exact I.k5
  · intro h; obtain ⟨q1, q2, q3⟩ := I.h8 h; exact ⟨(eval_put_other (by decide)).trans q1, q2, row_ext q3 e⟩
  · intro h; exact (eval_put_other (by decide)).trans (I.h9 h)
  · exact I.k9
  · refine ⟨eval_put_same hz, hB, ?_⟩; rw [row_last _ _ _ rfl, ← hq]
  · exact h9
  · rw [h12]; intro h; obtain ⟨q1, q2, q3⟩ := I.h11 h; rw [h12] at q3; exact ⟨(eval_put_other (by decide)).trans q1, q2, row_ext q3 e⟩
  · rw [h12]; intro h; cases h
theorem MkMem.act11 (h : MkMem B bk N L a W) (hB : B ≤ W.heap.size) (hL : L 11 = false) (hz : 5 < a.tmps.size) : MkMem B bk N (fun j => decide (j = 11) || L j) (a.put (some 5) (.pointer (some ⟨W.heap.size, 0, none⟩))) (W.alloc (.cells #[.pointer none] 123)) := by
  obtain ⟨m, g, pb, p5, I⟩ := h
  have e : Ext W (W.alloc (.cells #[.pointer none] 123)) := ext_alloc _ _
  have h12 : L 12 = false := by
    cases h : L 12 with
    | false => rfl
    | true => exact absurd (I.k12 h).2 (by rw [hL]; decide)
  refine ⟨m, g, pb, W.heap.size, ?_⟩
  refine ⟨?_, ?_, ?_, ?_, ?_, ?_, ?_, ?_, ?_, ?_, ?_⟩
  all_goals (try simp only [Nat.reduceEqDiff, decide_false, decide_true, Bool.false_or, Bool.true_or, forall_const])
  · intro h; obtain ⟨q1, q2, q3, es, c, q4⟩ := I.h1 h; exact ⟨(eval_put_other (by decide)).trans q1, q2, q3.block (e.block _ q3.lt), es, c, row_ext q4 e⟩
  · exact I.k4
  · intro h; exact (eval_put_other (by decide)).trans (I.h5 h)
  · exact I.k5
  · intro h; obtain ⟨q1, q2, q3⟩ := I.h8 h; exact ⟨(eval_put_other (by decide)).trans q1, q2, row_ext q3 e⟩
  · intro h; exact (eval_put_other (by decide)).trans (I.h9 h)
  · exact I.k9
  · intro h; obtain ⟨q1, q2, q3⟩ := I.h10 h; exact ⟨(eval_put_other (by decide)).trans q1, q2, row_ext q3 e⟩
  · exact I.k10
  · rw [h12]; exact ⟨eval_put_same hz, hB, row_last _ _ _ rfl⟩
  · rw [h12]; intro h; cases h
theorem MkMem.act4 (h : MkMem B bk N L a W) (h1 : L 1 = true) (hL : L 4 = false) : ∃ m, a.eval (.tmp 10) = .map (some m) ∧ B ≤ m ∧ ∃ W', (Instr.mapUpdate 126 (.map (some m)) (stepV 0 0) (planV zeroP)).run Tryz.prog W = .ok () W' ∧ W.mapTurned W' m ∧ MkMem B bk N (fun j => decide (j = 4) || L j) a W' := by
  obtain ⟨m, g, pb, p5, I⟩ := h
  obtain ⟨q1, q2, q3, es, c, q4⟩ := I.h1 h1
  rw [hL, if_neg (by decide)] at q3
  obtain ⟨W', r1, r2, r3⟩ := q3.put (by omega) (l := 0) (b := 0) (by omega) (by omega) zeroP
  have G := r3.grown
  have hrow : ∀ (p : Nat) (cs : Array Value) (t : TypeId), W.heap[p]? = some (.cells cs t (0, 0)) → W'.heap[p]? = some (.cells cs t (0, 0)) := fun p cs t hp => by
    refine (G.block p (Array.getElem?_eq_some_iff.1 hp).1 (fun e => ?_)).trans hp
    have e' : p = m := Option.some.inj e
    rw [e', q4] at hp
    cases hp
  refine ⟨m, q1, q2, W', r1, r3, m, g, pb, p5, ?_⟩
  refine ⟨?_, ?_, ?_, ?_, ?_, ?_, ?_, ?_, ?_, ?_, ?_⟩
  all_goals (try simp only [Nat.reduceEqDiff, decide_false, decide_true, Bool.false_or, Bool.true_or, forall_const])
  · intro _
    obtain ⟨es1, c1, hm1, _⟩ := r2.choose_spec.1
    refine ⟨q1, q2, ?_, es1, c1, hm1⟩
    · have hK : updK (litK false) 0 0 (some zeroP) = litK true := by
        funext l b
        simp [updK, litK]
      rw [hK] at r2
      exact r2
  · exact h1
  · exact I.h5
  · intro _; trivial
  · intro h; obtain ⟨q1, q2, q3⟩ := I.h8 h; exact ⟨q1, q2, hrow _ _ _ q3⟩
  · exact I.h9
  · exact I.k9
  · intro h; obtain ⟨q1, q2, q3⟩ := I.h10 h; exact ⟨q1, q2, hrow _ _ _ q3⟩
  · exact I.k10
  · intro h; obtain ⟨q1, q2, q3⟩ := I.h11 h; exact ⟨q1, q2, hrow _ _ _ q3⟩
  · exact I.k12
theorem MkMem.act12 (h : MkMem B bk N L a W) (h10 : L 10 = true) (h11 : L 11 = true) (hL : L 12 = false) : ∃ pb p5, a.eval (.tmp 18) = .pointer (some ⟨pb, 0, none⟩) ∧ a.eval (.tmp 5) = .pointer (some ⟨p5, 0, none⟩) ∧ B ≤ p5 ∧ W.heap[p5]? = some (.cells #[.pointer none] 123 (0, 0)) ∧ MkMem B bk N (fun j => decide (j = 12) || L j) a (W.setCell ⟨p5, 0, none⟩ (.pointer (some ⟨pb, 0, none⟩))) := by
  obtain ⟨m, g, pb, p5, I⟩ := h
  obtain ⟨q1, q2, q3⟩ := I.h11 h11
  rw [hL] at q3
  have hne : ∀ (p : Nat) (o : Obj), W.heap[p]? = some o → o ≠ .cells #[.pointer none] 123 (0, 0) → (W.setCell ⟨p5, 0, none⟩ (.pointer (some ⟨pb, 0, none⟩))).heap[p]? = some o := fun p o hp ho => by
    refine (heap_set_other _ _ _ _ _ (fun e => ?_)).trans hp
    rw [e, q3] at hp
    exact ho (Option.some.inj hp).symm
  refine ⟨pb, p5, (I.h10 h10).1, q1, q2, q3, m, g, pb, p5, ?_⟩
  refine ⟨?_, ?_, ?_, ?_, ?_, ?_, ?_, ?_, ?_, ?_, ?_⟩
  all_goals (try simp only [Nat.reduceEqDiff, decide_false, decide_true, Bool.false_or, Bool.true_or, forall_const])
  · intro h
    obtain ⟨r1, r2, r3, es, c, r4⟩ := I.h1 h
    have r5 := hne _ _ r4 (by simp)
    exact ⟨r1, r2, r3.block (r5.trans r4.symm), es, c, r5⟩
  · exact I.k4
  · exact I.h5
  · exact I.k5
  · intro h
    obtain ⟨r1, r2, r3⟩ := I.h8 h
    exact ⟨r1, r2, hne _ _ r3 (by simp)⟩
  · exact I.h9
  · exact I.k9
  · intro h
    obtain ⟨r1, r2, r3⟩ := I.h10 h
    exact ⟨r1, r2, hne _ _ r3 (by simp)⟩
  · exact I.k10
  · intro _
    exact ⟨q1, q2, row_setCell _ _ _ _ _ _ _ q3⟩
  · exact ⟨h10, h11⟩
end
section
variable {A : Option Addr} {nn cc p3 n0 N : Nat} {Q : Exit → Act → World → Prop} {a : Act} {V W W0 : World} {o : Oper} {L : Nat → Bool}
set_option maxHeartbeats 1000000 in
theorem mk1_op0 (o0 : a.eval (.tmp 0) = .slice A nn cc) (ho : mk1Reg[0]? = some o) : o.wp Tryz.prog a W (fun a'' W' => ∃ v, a'' = a.put o.dst v ∧ v = mk1V (.slice A nn cc) n0 N 0 ∧ Below W.heap.size W W') Q := by
  have hop := op_at ho (·.op) (x := Op.move (Operand.tmp 0)) (by kernel_rfl)
  exact specs_value (R := fun v _ => v = mk1V (.slice A nn cc) n0 N 0) (v := .slice A nn cc) (by simp [execOp, hop, go_sem, ev o0]) rfl (Ext.refl W)
set_option maxHeartbeats 1000000 in
theorem mk1_op2  (ho : mk1Reg[2]? = some o) : o.wp Tryz.prog a W (fun a'' W' => ∃ v, a'' = a.put o.dst v ∧ v = mk1V (.slice A nn cc) n0 N 2 ∧ Below W.heap.size W W') Q := by
  have hop := op_at ho (·.op) (x := Op.build 125 #[]) (by kernel_rfl)
  exact specs_value (R := fun v _ => v = mk1V (.slice A nn cc) n0 N 2) (v := .agg #[.int .i64 0, .int .i64 0]) (by simp [execOp, hop, go_sem]) rfl (Ext.refl W)
set_option maxHeartbeats 1000000 in
theorem mk1_op3  (ho : mk1Reg[3]? = some o) : o.wp Tryz.prog a W (fun a'' W' => ∃ v, a'' = a.put o.dst v ∧ v = mk1V (.slice A nn cc) n0 N 3 ∧ Below W.heap.size W W') Q := by
  have hop := op_at ho (·.op) (x := Op.build 103 #[]) (by kernel_rfl)
  exact specs_value (R := fun v _ => v = mk1V (.slice A nn cc) n0 N 3) (v := .agg #[.slice none 0 0, .int .i64 0]) (by simp [execOp, hop, go_sem]) rfl (Ext.refl W)
set_option maxHeartbeats 1000000 in
theorem mk1_op6 (o3 : a.eval (.tmp 3) = .pointer (some ⟨p3, 0, none⟩)) (hB : Ext V W) (d3 : ∀ W, Ext V W → W.cell? ⟨p3, 0, none⟩ = some (.int .i64 (n0 : Int))) (ho : mk1Reg[6]? = some o) : o.wp Tryz.prog a W (fun a'' W' => ∃ v, a'' = a.put o.dst v ∧ v = mk1V (.slice A nn cc) n0 N 6 ∧ Below W.heap.size W W') Q := by
  have hop := op_at ho (·.op) (x := Op.load 3 (Operand.tmp 3)) (by kernel_rfl)
  have d3' := d3 W hB
  exact specs_value (R := fun v _ => v = mk1V (.slice A nn cc) n0 N 6) (v := .int .i64 (n0 : Int)) (by simp [execOp, hop, go_sem, ev o3, d3']) rfl (Ext.refl W)
set_option maxHeartbeats 1000000 in
theorem mk1_op7 (wz : IntKind.i64.wrap ((n0 : Int) + 1) = (N : Int)) (haft : ∀ j, (o.after.any fun e => decide (e.on = j) && Region.binds .any e) = true → mk1P j = true → a.eval (.tmp (mk1D j)) = mk1V (.slice A nn cc) n0 N j) (ho : mk1Reg[7]? = some o) : o.wp Tryz.prog a W (fun a'' W' => ∃ v, a'' = a.put o.dst v ∧ v = mk1V (.slice A nn cc) n0 N 7 ∧ Below W.heap.size W W') Q := by
  have hop := op_at ho (·.op) (x := Op.binOp BinOp.add 3 (Operand.tmp 14) (Operand.const (Value.int IntKind.i64 1)) 3) (by kernel_rfl)
  have e6 : a.eval (.tmp 14) = .int .i64 (n0 : Int) := haft 6 (op_at ho (fun o => o.after.any fun e => decide (e.on = 6) && Region.binds .any e) (x := true) (by kernel_rfl)) rfl
  exact specs_value (R := fun v _ => v = mk1V (.slice A nn cc) n0 N 7) (v := .int .i64 (N : Int)) (by simp [execOp, hop, go_sem, ev e6, wz]) rfl (Ext.refl W)
set_option maxHeartbeats 1000000 in
theorem mk1_op1 (hM : MkMem W0.heap.size (.slice A nn cc) N (L) (a) W) (hE : Ext W0 W) (ha : a.tmps.size = 41) (hL : L 1 = false)  (ho : mk1Reg[1]? = some o) : o.wp Tryz.prog a W (fun a'' W' => ∃ v, a'' = a.put o.dst v ∧ Ext W0 W' ∧ MkMem W0.heap.size (.slice A nn cc) N (fun j => decide (j = 1) || L j) (a'') W') Q := by
  have hop := op_at ho (·.op) (x := Op.makeMap 126 none) (by kernel_rfl)
  have hd := op_at ho (·.dst) (x := some 10) (by kernel_rfl)
  have hmm : (Instr.makeMap 126 none).run Tryz.prog W = .ok (.map (some W.heap.size)) (W.alloc (.map #[] 0)) := rfl
  have hr : (execOp a.eval o).run Tryz.prog W = .ok (.value (.map (some W.heap.size))) (W.alloc (.map #[] 0)) := by simp [execOp, hop, go_sem, hmm]
  unfold Oper.wp
  rw [hr]
  refine ⟨_, rfl, hE.trans (ext_alloc _ _), ?_⟩
  rw [hd]
  exact MkMem.act1 hM hE.size hL (by rw [ha]; decide)
set_option maxHeartbeats 1000000 in
theorem mk1_op4 (hM : MkMem W0.heap.size (.slice A nn cc) N (L) (a) W) (hE : Ext W0 W) (_ha : a.tmps.size = 41) (hL : L 4 = false) (haft : ∀ j, (o.after.any fun e => decide (e.on = j) && Region.binds .any e) = true → L j = true ∧ (mk1P j = true → a.eval (.tmp (mk1D j)) = mk1V (.slice A nn cc) n0 N j)) (ho : mk1Reg[4]? = some o) : o.wp Tryz.prog a W (fun a'' W' => ∃ v, a'' = a.put o.dst v ∧ Ext W0 W' ∧ MkMem W0.heap.size (.slice A nn cc) N (fun j => decide (j = 4) || L j) (a'') W') Q := by
  have hop := op_at ho (·.op) (x := Op.insert 126 (Operand.tmp 10) (Operand.tmp 11) (Operand.tmp 12)) (by kernel_rfl)
  have hd := op_at ho (·.dst) (x := none) (by kernel_rfl)
  have e2 : a.eval (.tmp 11) = .agg #[.int .i64 0, .int .i64 0] := (haft 2 (op_at ho (fun o => o.after.any fun e => decide (e.on = 2) && Region.binds .any e) (x := true) (by kernel_rfl))).2 rfl
  have e3 : a.eval (.tmp 12) = .agg #[.slice none 0 0, .int .i64 0] := (haft 3 (op_at ho (fun o => o.after.any fun e => decide (e.on = 3) && Region.binds .any e) (x := true) (by kernel_rfl))).2 rfl
  obtain ⟨m, q1, q2, W', r1, r2, r3⟩ := MkMem.act4 hM (haft 1 (op_at ho (fun o => o.after.any fun e => decide (e.on = 1) && Region.binds .any e) (x := true) (by kernel_rfl))).1 hL
  have r1' : (Instr.mapUpdate 126 (.map (some m)) (.agg #[.int .i64 0, .int .i64 0]) (.agg #[.slice none 0 0, .int .i64 0])).run Tryz.prog W = .ok () W' := r1
  have hr : (execOp a.eval o).run Tryz.prog W = .ok .skip W' := by simp [execOp, hop, go_sem, ev q1, ev e2, ev e3, r1']
  unfold Oper.wp
  rw [hr]
  refine ⟨undef, rfl, Below.grown hE r2.grown hE.size (fun r e => by cases e; exact q2), ?_⟩
  rw [hd]
  exact r3
set_option maxHeartbeats 1000000 in
theorem mk1_op5 (hM : MkMem W0.heap.size (.slice A nn cc) N (L) (a) W) (hE : Ext W0 W) (ha : a.tmps.size = 41) (hL : L 5 = false) (haft : ∀ j, (o.after.any fun e => decide (e.on = j) && Region.binds .any e) = true → L j = true ∧ (mk1P j = true → a.eval (.tmp (mk1D j)) = mk1V (.slice A nn cc) n0 N j)) (ho : mk1Reg[5]? = some o) : o.wp Tryz.prog a W (fun a'' W' => ∃ v, a'' = a.put o.dst v ∧ Ext W0 W' ∧ MkMem W0.heap.size (.slice A nn cc) N (fun j => decide (j = 5) || L j) (a'') W') Q := by
  have hop := op_at ho (·.op) (x := Op.move (Operand.tmp 10)) (by kernel_rfl)
  have hd := op_at ho (·.dst) (x := some 13) (by kernel_rfl)
  have hr : (execOp a.eval o).run Tryz.prog W = .ok (.value (a.eval (.tmp 10))) W := by simp [execOp, hop, go_sem, Act.eval]
  unfold Oper.wp
  rw [hr]
  refine ⟨_, rfl, hE, ?_⟩
  rw [hd]
  exact MkMem.act5 hM hL (by rw [ha]; decide) (haft 4 (op_at ho (fun o => o.after.any fun e => decide (e.on = 4) && Region.binds .any e) (x := true) (by kernel_rfl))).1 rfl
set_option maxHeartbeats 1000000 in
theorem mk1_op8 (hM : MkMem W0.heap.size (.slice A nn cc) N (L) (a) W) (hE : Ext W0 W) (ha : a.tmps.size = 41) (hL : L 8 = false) (haft : ∀ j, (o.after.any fun e => decide (e.on = j) && Region.binds .any e) = true → L j = true ∧ (mk1P j = true → a.eval (.tmp (mk1D j)) = mk1V (.slice A nn cc) n0 N j)) (hN : N ≤ 4096) (ho : mk1Reg[8]? = some o) : o.wp Tryz.prog a W (fun a'' W' => ∃ v, a'' = a.put o.dst v ∧ Ext W0 W' ∧ MkMem W0.heap.size (.slice A nn cc) N (fun j => decide (j = 8) || L j) (a'') W') Q := by
  have hop := op_at ho (·.op) (x := Op.makeSlice 127 (Operand.tmp 15) (Operand.tmp 15)) (by kernel_rfl)
  have hd := op_at ho (·.dst) (x := some 16) (by kernel_rfl)
  have e7 : a.eval (.tmp 15) = .int .i64 (N : Int) := (haft 7 (op_at ho (fun o => o.after.any fun e => decide (e.on = 7) && Region.binds .any e) (x := true) (by kernel_rfl))).2 rfl
  have hr : (execOp a.eval o).run Tryz.prog W = .ok (.value (.slice (some ⟨W.heap.size, 0, none⟩) N N)) (W.alloc (.cells (zerosP N) 103)) := by simp [execOp, hop, go_sem, ev e7, run_make127 N hN]
  unfold Oper.wp
  rw [hr]
  refine ⟨_, rfl, hE.trans (ext_alloc _ _), ?_⟩
  rw [hd]
  exact MkMem.act8 hM hE.size hL (by rw [ha]; decide)
set_option maxHeartbeats 1000000 in
theorem mk1_op9 (hM : MkMem W0.heap.size (.slice A nn cc) N (L) (a) W) (hE : Ext W0 W) (ha : a.tmps.size = 41) (hL : L 9 = false) (haft : ∀ j, (o.after.any fun e => decide (e.on = j) && Region.binds .any e) = true → L j = true ∧ (mk1P j = true → a.eval (.tmp (mk1D j)) = mk1V (.slice A nn cc) n0 N j)) (ho : mk1Reg[9]? = some o) : o.wp Tryz.prog a W (fun a'' W' => ∃ v, a'' = a.put o.dst v ∧ Ext W0 W' ∧ MkMem W0.heap.size (.slice A nn cc) N (fun j => decide (j = 9) || L j) (a'') W') Q := by
  have hop := op_at ho (·.op) (x := Op.build 129 #[(0, Operand.tmp 9), (1, Operand.tmp 13), (2, Operand.tmp 16)]) (by kernel_rfl)
  have hd := op_at ho (·.dst) (x := some 17) (by kernel_rfl)
  have e0 : a.eval (.tmp 9) = .slice A nn cc := (haft 0 (op_at ho (fun o => o.after.any fun e => decide (e.on = 0) && Region.binds .any e) (x := true) (by kernel_rfl))).2 rfl
  obtain ⟨m, g, pb, p5, I⟩ := id hM
  have e5 := I.h5 (haft 5 (op_at ho (fun o => o.after.any fun e => decide (e.on = 5) && Region.binds .any e) (x := true) (by kernel_rfl))).1
  have e8 := (I.h8 (haft 8 (op_at ho (fun o => o.after.any fun e => decide (e.on = 8) && Region.binds .any e) (x := true) (by kernel_rfl))).1).1
  have hr : (execOp a.eval o).run Tryz.prog W = .ok (.value (.agg #[.slice A nn cc, .map (some m), .slice (some ⟨g, 0, none⟩) N N])) W := by simp [execOp, hop, go_sem, ev e0, ev e5, ev e8]
  unfold Oper.wp
  rw [hr]
  refine ⟨_, rfl, hE, ?_⟩
  rw [hd]
  exact MkMem.act9 hM hL (by rw [ha]; decide) (haft 5 (op_at ho (fun o => o.after.any fun e => decide (e.on = 5) && Region.binds .any e) (x := true) (by kernel_rfl))).1 (haft 8 (op_at ho (fun o => o.after.any fun e => decide (e.on = 8) && Region.binds .any e) (x := true) (by kernel_rfl))).1 e5 e8 rfl
set_option maxHeartbeats 1000000 in
theorem mk1_op10 (hM : MkMem W0.heap.size (.slice A nn cc) N (L) (a) W) (hE : Ext W0 W) (ha : a.tmps.size = 41) (hL : L 10 = false) (haft : ∀ j, (o.after.any fun e => decide (e.on = j) && Region.binds .any e) = true → L j = true ∧ (mk1P j = true → a.eval (.tmp (mk1D j)) = mk1V (.slice A nn cc) n0 N j)) (ho : mk1Reg[10]? = some o) : o.wp Tryz.prog a W (fun a'' W' => ∃ v, a'' = a.put o.dst v ∧ Ext W0 W' ∧ MkMem W0.heap.size (.slice A nn cc) N (fun j => decide (j = 10) || L j) (a'') W') Q := by
  have hop := op_at ho (·.op) (x := Op.box 129 (Operand.tmp 17)) (by kernel_rfl)
  have hd := op_at ho (·.dst) (x := some 18) (by kernel_rfl)
  obtain ⟨m, g, pb, p5, I⟩ := id hM
  have e9 := I.h9 (haft 9 (op_at ho (fun o => o.after.any fun e => decide (e.on = 9) && Region.binds .any e) (x := true) (by kernel_rfl))).1
  have hr : (execOp a.eval o).run Tryz.prog W = .ok (.value (.pointer (some ⟨W.heap.size, 0, none⟩))) (W.alloc (.cells #[.slice A nn cc, .map (some m), .slice (some ⟨g, 0, none⟩) N N] 129)) := by simp [execOp, hop, go_sem, ev e9]
  unfold Oper.wp
  rw [hr]
  refine ⟨_, rfl, hE.trans (ext_alloc _ _), ?_⟩
  rw [hd]
  exact MkMem.act10 hM hE.size hL (by rw [ha]; decide) (haft 9 (op_at ho (fun o => o.after.any fun e => decide (e.on = 9) && Region.binds .any e) (x := true) (by kernel_rfl))).1 rfl e9
set_option maxHeartbeats 1000000 in
theorem mk1_op11 (hM : MkMem W0.heap.size (.slice A nn cc) N (L) (a) W) (hE : Ext W0 W) (ha : a.tmps.size = 41) (hL : L 11 = false)  (ho : mk1Reg[11]? = some o) : o.wp Tryz.prog a W (fun a'' W' => ∃ v, a'' = a.put o.dst v ∧ Ext W0 W' ∧ MkMem W0.heap.size (.slice A nn cc) N (fun j => decide (j = 11) || L j) (a'') W') Q := by
  have hop := op_at ho (·.op) (x := Op.alloc 123) (by kernel_rfl)
  have hd := op_at ho (·.dst) (x := some 5) (by kernel_rfl)
  have hr : (execOp a.eval o).run Tryz.prog W = .ok (.value (.pointer (some ⟨W.heap.size, 0, none⟩))) (W.alloc (.cells #[.pointer none] 123)) := by simp [execOp, hop, go_sem]
  unfold Oper.wp
  rw [hr]
  refine ⟨_, rfl, hE.trans (ext_alloc _ _), ?_⟩
  rw [hd]
  exact MkMem.act11 hM hE.size hL (by rw [ha]; decide)
set_option maxHeartbeats 1000000 in
theorem mk1_op12 (hM : MkMem W0.heap.size (.slice A nn cc) N (L) (a) W) (hE : Ext W0 W) (_ha : a.tmps.size = 41) (hL : L 12 = false) (haft : ∀ j, (o.after.any fun e => decide (e.on = j) && Region.binds .any e) = true → L j = true ∧ (mk1P j = true → a.eval (.tmp (mk1D j)) = mk1V (.slice A nn cc) n0 N j)) (ho : mk1Reg[12]? = some o) : o.wp Tryz.prog a W (fun a'' W' => ∃ v, a'' = a.put o.dst v ∧ Ext W0 W' ∧ MkMem W0.heap.size (.slice A nn cc) N (fun j => decide (j = 12) || L j) (a'') W') Q := by
  have hop := op_at ho (·.op) (x := Op.store 123 (Operand.tmp 5) (Operand.tmp 18)) (by kernel_rfl)
  have hd := op_at ho (·.dst) (x := none) (by kernel_rfl)
  obtain ⟨pb, p5, q1, q2, q3, q4, q5⟩ := MkMem.act12 hM (haft 10 (op_at ho (fun o => o.after.any fun e => decide (e.on = 10) && Region.binds .any e) (x := true) (by kernel_rfl))).1 (haft 11 (op_at ho (fun o => o.after.any fun e => decide (e.on = 11) && Region.binds .any e) (x := true) (by kernel_rfl))).1 hL
  have fz : W.frozen? ⟨p5, 0, none⟩ = false := by simp [World.frozen?, q4]
  have cl : W.cell? ⟨p5, 0, none⟩ = some (.pointer none) := cell_of_row _ _ _ _ _ _ q4
  have hr : (execOp a.eval o).run Tryz.prog W = .ok .skip (W.setCell ⟨p5, 0, none⟩ (.pointer (some ⟨pb, 0, none⟩))) := by simp [execOp, hop, go_sem, ev q1, ev q2, fz, cl]
  unfold Oper.wp
  rw [hr]
  refine ⟨undef, rfl, Below.setCell hE (p := ⟨p5, 0, none⟩) q3 _, ?_⟩
  rw [hd]
  exact q5
set_option maxRecDepth 100000 in
set_option maxHeartbeats 4000000 in
/-- Region 1 of function 79. -/
theorem mk1_wp {id : Nat} (hlen : a.tmps.size = 41) (o0 : a.eval (.tmp 0) = .slice A nn cc) (o3 : a.eval (.tmp 3) = .pointer (some ⟨p3, 0, none⟩)) (d3 : ∀ W, Ext V W → W.cell? ⟨p3, 0, none⟩ = some (.int .i64 (n0 : Int))) (wz : IntKind.i64.wrap ((n0 : Int) + 1) = (N : Int)) (hN : N ≤ 4096)
    (K : ∀ (W : World) (m g pb p5 : Nat), Ext V W → V.heap.size ≤ m → V.heap.size ≤ g → V.heap.size ≤ pb → V.heap.size ≤ p5 → KeptAt W m 1 (litK true) → W.heap[g]? = some (.cells (zerosP N) 103 (0, 0)) → W.heap[pb]? = some (.cells #[.slice A nn cc, .map (some m), .slice (some ⟨g, 0, none⟩) N N] 129 (0, 0)) → W.heap[p5]? = some (.cells #[.pointer (some ⟨pb, 0, none⟩)] 123 (0, 0)) → m ≠ g → pb ≠ m → pb ≠ g → p5 ≠ m → p5 ≠ g → p5 ≠ pb →
      Q .normal (puts a [(9, .slice A nn cc), (10, .map (some m)), (11, .agg #[.int .i64 0, .int .i64 0]), (12, .agg #[.slice none 0 0, .int .i64 0]), (13, .map (some m)), (14, .int .i64 (n0 : Int)), (15, .int .i64 (N : Int)), (16, .slice (some ⟨g, 0, none⟩) N N), (17, .agg #[.slice A nn cc, .map (some m), .slice (some ⟨g, 0, none⟩) N N]), (18, .pointer (some ⟨pb, 0, none⟩)), (5, .pointer (some ⟨p5, 0, none⟩))]) W) : (Code.region id mk1Reg true).wp Tryz.prog Q a V := by
  have hsize := mk1_size
  refine wp_region_mem (W0 := V) mk1P (mk1V (.slice A nn cc) n0 N) mk1D (MkMem V.heap.size (.slice A nn cc) N) (by kernel_rfl) (by rw [hlen]; kernel_rfl) (⟨rfl, rfl, rfl, Nat.le_refl _, fun _ _ => rfl⟩ : Below V.heap.size V { V with drawn := V.drawn + 1 }) MkMem.start ?_ ?_ ?_ ?_
  · intro L a' W W' i v hi hp hM _ e hsz
    exact MkMem.stay hM e hp
  · intro i o ho hp a' W hB hsz hold haft
    have hi : i < 13 := by
      have h1 := (Array.getElem?_eq_some_iff.1 ho).1
      omega
    match i, hi with
    | 0, _ => exact mk1_op0 ((hold 0 (by rw [hsize]; kernel_rfl)).trans o0) ho
    | 2, _ => exact mk1_op2  ho
    | 3, _ => exact mk1_op3  ho
    | 6, _ => exact mk1_op6 ((hold 3 (by rw [hsize]; kernel_rfl)).trans o3) hB d3 ho
    | 7, _ => exact mk1_op7 wz haft ho
    | 1, _ => exact absurd hp (by decide)
    | 4, _ => exact absurd hp (by decide)
    | 5, _ => exact absurd hp (by decide)
    | 8, _ => exact absurd hp (by decide)
    | 9, _ => exact absurd hp (by decide)
    | 10, _ => exact absurd hp (by decide)
    | 11, _ => exact absurd hp (by decide)
    | 12, _ => exact absurd hp (by decide)
    | k + 13, h => exact absurd h (by omega)
  · intro i o ho hp L a' W hE hsz hold haft hL hM
    have hi : i < 13 := by
      have h1 := (Array.getElem?_eq_some_iff.1 ho).1
      omega
    match i, hi with
    | 1, _ => exact mk1_op1 hM hE (hsz.trans hlen) hL  ho
    | 4, _ => exact mk1_op4 hM hE (hsz.trans hlen) hL haft ho
    | 5, _ => exact mk1_op5 hM hE (hsz.trans hlen) hL haft ho
    | 8, _ => exact mk1_op8 hM hE (hsz.trans hlen) hL haft hN ho
    | 9, _ => exact mk1_op9 hM hE (hsz.trans hlen) hL haft ho
    | 10, _ => exact mk1_op10 hM hE (hsz.trans hlen) hL haft ho
    | 11, _ => exact mk1_op11 hM hE (hsz.trans hlen) hL  ho
    | 12, _ => exact mk1_op12 hM hE (hsz.trans hlen) hL haft ho
    | 0, _ => exact absurd hp (by decide)
    | 2, _ => exact absurd hp (by decide)
    | 3, _ => exact absurd hp (by decide)
    | 6, _ => exact absurd hp (by decide)
    | 7, _ => exact absurd hp (by decide)
    | k + 13, h => exact absurd h (by omega)
  · intro a1 W hE hsz hdf hold hS hM
    rw [hsize] at hold hS hM
    obtain ⟨m, g, pb, p5, I⟩ := hM
    obtain ⟨pa1, qa1, ra1, es, ec, rm⟩ := I.h1 (by decide)
    have pa5 := I.h5 (by decide)
    obtain ⟨pa8, qa8, ra8⟩ := I.h8 (by decide)
    have pa9 := I.h9 (by decide)
    obtain ⟨pa10, qa10, ra10⟩ := I.h10 (by decide)
    obtain ⟨pa11, qa11, ra11⟩ := I.h11 (by decide)
    rw [if_pos (by decide)] at ra11
    have hall : ∀ zz, zz ∈ ([(9, .slice A nn cc), (10, .map (some m)), (11, .agg #[.int .i64 0, .int .i64 0]), (12, .agg #[.slice none 0 0, .int .i64 0]), (13, .map (some m)), (14, .int .i64 (n0 : Int)), (15, .int .i64 (N : Int)), (16, .slice (some ⟨g, 0, none⟩) N N), (17, .agg #[.slice A nn cc, .map (some m), .slice (some ⟨g, 0, none⟩) N N]), (18, .pointer (some ⟨pb, 0, none⟩)), (5, .pointer (some ⟨p5, 0, none⟩))] : List (Tmp × Value)) → zz.1 < a.tmps.size ∧ a1.eval (.tmp zz.1) = zz.2 := by
      intro zz hz
      rw [hlen]
      simp only [List.mem_cons, List.not_mem_nil, or_false] at hz
      rcases hz with rfl | rfl | rfl | rfl | rfl | rfl | rfl | rfl | rfl | rfl | rfl
      · exact ⟨(show (9 : Nat) < 41 by omega), hS 0 (by omega) (by decide)⟩
      · exact ⟨(show (10 : Nat) < 41 by omega), pa1⟩
      · exact ⟨(show (11 : Nat) < 41 by omega), hS 2 (by omega) (by decide)⟩
      · exact ⟨(show (12 : Nat) < 41 by omega), hS 3 (by omega) (by decide)⟩
      · exact ⟨(show (13 : Nat) < 41 by omega), pa5⟩
      · exact ⟨(show (14 : Nat) < 41 by omega), hS 6 (by omega) (by decide)⟩
      · exact ⟨(show (15 : Nat) < 41 by omega), hS 7 (by omega) (by decide)⟩
      · exact ⟨(show (16 : Nat) < 41 by omega), pa8⟩
      · exact ⟨(show (17 : Nat) < 41 by omega), pa9⟩
      · exact ⟨(show (18 : Nat) < 41 by omega), pa10⟩
      · exact ⟨(show (5 : Nat) < 41 by omega), pa11⟩
    have ha := act_puts hsz hdf hall (fun t ht => by
      by_cases hz1 : t = 45
      · subst hz1
        simp [Act.eval, hsz, hlen]
      by_cases hz2 : t = 53
      · subst hz2
        simp [Act.eval, hsz, hlen]
      refine hold t (all_ne_of (l := [(9, undef), (10, undef), (11, undef), (12, undef), (45, undef), (13, undef), (14, undef), (15, undef), (16, undef), (17, undef), (18, undef), (5, undef), (53, undef)]) (by rfl) ?_)
      intro hmem
      simp only [List.map_cons, List.map_nil, List.mem_cons, List.not_mem_nil, or_false] at hmem
      rcases hmem with rfl | rfl | rfl | rfl | rfl | rfl | rfl | rfl | rfl | rfl | rfl | rfl | rfl <;> first | exact hz1 rfl | exact hz2 rfl | exact ht (by simp))
    rw [ha]
    have ne : ∀ (p q : Nat) (x y : Obj), W.heap[p]? = some x → W.heap[q]? = some y → x ≠ y → p ≠ q := fun p q x y hx hy hxy e => hxy (by rw [e, hy] at hx; exact (Option.some.inj hx).symm)
    exact K W m g pb p5 hE qa1 qa8 qa10 qa11 ra1 ra8 ra10 ra11 (ne _ _ _ _ rm ra8 (by simp)) (ne _ _ _ _ ra10 rm (by simp)) (ne _ _ _ _ ra10 ra8 (by simp)) (ne _ _ _ _ ra11 rm (by simp)) (ne _ _ _ _ ra11 ra8 (by simp)) (ne _ _ _ _ ra11 ra10 (by simp))
end
end Go.Proofs.YtmlmnljbegcjcaaGreat

/- most: baths that are worth the most. -/
namespace Go.Proofs.YtmlmnljbegcjcaaGreat
open Go.RowKit Go.Shelf
attribute [local go_sem] Oper.semAt_some
attribute [local irreducible] bitCells

theorem cell_kept {W W' : World} {row : Option Nat} {p : Addr} {v : Value} (h : W.cell? p = some v) (hg : W.grownBy W' row) (hr : ∀ r, row = some r → ∃ o : Obj, W.heap[r]? = some o ∧ o.isCells = false) : W'.cell? p = some v := by
  have hb : ∃ cs t fr, W.heap[p.block]? = some (.cells cs t fr) := by
    unfold World.cell? at h
    split at h
    · rename_i cs t fr e
      exact ⟨cs, _, _, e⟩
    · cases h
  obtain ⟨cs, t, fr, hb⟩ := hb
  rw [World.cell?_of_block ((heap_kept hb hg hr).trans hb.symm)]
  exact h
theorem PlanV.row {W W' : World} {row : Option Nat} {v : Value} {bs : List Int} (h : PlanV W v bs) (hg : W.grownBy W' row) (hr : ∀ r, row = some r → ∃ o : Obj, W.heap[r]? = some o ∧ o.isCells = false) : PlanV W' v bs := by
  rcases h with h | ⟨b, off, c, h1, h2, h3, h4, h5⟩
  · exact .inl h
  · exact .inr ⟨b, off, c, h1, Nat.lt_of_lt_of_le h2 hg.size, h3, h4, fun j x hx => cell_kept (h5 j x hx) hg hr⟩
theorem PlOk.row {S : Nat → Prop} {W W' : World} {row : Option Nat} {k : Nat} {x : Value × Int} {p : Pl} (h : PlOk S W k x p) (hg : W.grownBy W' row) (hr : ∀ r, row = some r → ∃ o : Obj, W.heap[r]? = some o ∧ o.isCells = false) : PlOk S W' k x p := ⟨h.1, h.2.1.row hg hr, h.2.2⟩
theorem OptOk.row {S : Nat → Prop} {W W' : World} {row : Option Nat} {k : Nat} (hg : W.grownBy W' row) (hr : ∀ r, row = some r → ∃ o : Obj, W.heap[r]? = some o ∧ o.isCells = false) : ∀ {x : Option (Value × Int)} {p : Option Pl}, OptOk S W k x p → OptOk S W' k x p
  | none, none, _ => trivial
  | some _, some _, h => PlOk.row h hg hr
theorem TabAt.row {S : Nat → Prop} {W W' : World} {row : Option Nat} {m n B : Nat} {kept : Nat → Nat → Option Pl} (h : TabAt S W m n kept) (hm : m < B) (hg : W.grownBy W' row) (hr : ∀ r, row = some r → B ≤ r ∧ ∃ o : Obj, W.heap[r]? = some o ∧ o.isCells = false) : TabAt S W' m n kept := by
  obtain ⟨K, h1, h2⟩ := h
  exact ⟨K, h1.block (hg.block m h1.lt (fun e => by have := (hr m e.symm).1; omega)), fun l b => (h2 l b).row hg fun r e => (hr r e).2⟩
theorem MostAt.row {S : Nat → Prop} {W W' : World} {row : Option Nat} {g N : Nat} {mosts : Nat → Pl} (h : MostAt S W g N mosts) (hg : W.grownBy W' row) (hr : ∀ r, row = some r → ∃ o : Obj, W.heap[r]? = some o ∧ o.isCells = false) : MostAt S W' g N mosts := by
  obtain ⟨vs, cs, h1, h2, h3, h4⟩ := h
  exact ⟨vs, cs, heap_kept h1 hg hr, h2, ⟨Nat.lt_of_lt_of_le h3.1 hg.size, fun j x hx => ⟨cell_kept (h3.2 j x hx).1 hg hr, cell_kept (h3.2 j x hx).2.1 hg hr, (h3.2 j x hx).2.2⟩⟩, fun j x hx => (h4 j x hx).row hg hr⟩
theorem But.row {S : Nat → Prop} {w W W' : World} {row : Option Nat} (h : But S w W) (hg : W.grownBy W' row) (hr : ∀ r, row = some r → w.heap.size ≤ r) : But S w W' :=
  ⟨hg.os.trans h.os, hg.tape.trans h.tape, hg.output.trans h.output, Nat.le_trans h.size hg.size, fun i hi hs => (hg.block i (Nat.lt_of_lt_of_le hi h.size) (fun e => by have := hr i e.symm; omega)).trans (h.block i hi hs)⟩
theorem But.from {S : Nat → Prop} {W W' : World} {B : Nat} (h : But S W W') (hS : ∀ i, S i → i < B) : KeepsFrom B W W' := ⟨h.size, fun i o hB hi _ => (h.block i (Array.getElem?_eq_some_iff.1 hi).1 (fun e => by have := hS i e; omega)).trans hi⟩
theorem But.on {S T : Nat → Prop} {W W' : World} (h : But S W W') (hT : ∀ b, T b → b < W.heap.size ∧ ¬ S b) : KeepsOn T W W' := ⟨h.size, fun b hb => h.block b (hT b hb).1 (hT b hb).2⟩
theorem PlanV.shut {W W' : World} {D : Nat} {v : Value} {bs : List Int} (h : PlanV W v bs) (hD : W.heap[D]? = some (.deferred (some []))) (hs : ShutOf [D] W W') : PlanV W' v bs := by
  rcases h with h | ⟨b, off, c, h1, h2, h3, h4, h5⟩
  · exact .inl h
  · refine .inr ⟨b, off, c, h1, by rw [hs.size]; exact h2, h3, h4, fun j x hx => ?_⟩
    have h6 := h5 j x hx
    by_cases e : b = D
    · subst e
      unfold World.cell? at h6
      simp only [hD] at h6
      cases h6
    · exact (World.cell?_of_block (a := ⟨b, off + j, none⟩) (hs.block b (by simpa using e))).trans h6
/-- The table behind some births. -/
def stOf (os : List Odr) (n : Nat) (pre : List Int) : Dp := dpGo os n pre 0 dp0
theorem dpGo_snoc (os : List Odr) (n : Nat) : ∀ (pre : List Int) (x : Int) (l : Nat) (s : Dp), dpGo os n (pre ++ [x]) l s = roundOf os n (l + pre.length + 1) (dpGo os n pre l s) x
  | [], x, l, s => rfl
  | y :: pre, x, l, s => by
    show dpGo os n (pre ++ [x]) (l + 1) _ = _
    rw [dpGo_snoc os n pre x (l + 1)]
    show roundOf os n _ (dpGo os n pre (l + 1) _) x = roundOf os n _ (dpGo os n pre (l + 1) _) x
    rw [List.length_cons, show l + 1 + pre.length + 1 = l + (pre.length + 1) + 1 from by omega]
theorem stOf_snoc (os : List Odr) (n : Nat) (pre : List Int) (x : Int) : stOf os n (pre ++ [x]) = roundOf os n (pre.length + 1) (stOf os n pre) x := by
  unfold stOf
  rw [dpGo_snoc, Nat.zero_add]
theorem round_succ (os : List Odr) (n last : Nat) (s : Dp) (x : Int) : roundOf os (n + 1) last s x = reachOf os (roundOf os n last s x) last n x := by
  unfold roundOf
  rw [List.range_succ, List.foldl_append]
  rfl
theorem best_pair {S : Nat → Prop} {W : World} {k : Nat} : ∀ (vs : List (Value × Int)) (ps : List Pl) (v : Value × Int) (p : Pl), PlOk S W k v p → vs.length = ps.length → (∀ (j : Nat) x q, vs[j]? = some x → ps[j]? = some q → PlOk S W k x q) → PlOk S W k (vs.foldl vmax v) (ps.foldl pmax p)
  | [], [], v, p, h, _, _ => h
  | [], q :: ps, _, _, _, h, _ => by simp at h
  | x :: vs, [], _, _, _, h, _ => by simp at h
  | x :: vs, q :: ps, v, p, h, hl, ha => by
    rw [List.foldl_cons, List.foldl_cons]
    exact best_pair vs ps _ _ (PlOk.max h (ha 0 x q rfl rfl)) (by simpa using hl) fun j y r hy hr => ha (j + 1) y r hy hr
theorem PlOk.up {S : Nat → Prop} {W : World} {k k' : Nat} {x : Value × Int} {p : Pl} (h : PlOk S W k x p) (hk : k ≤ k') : PlOk S W k' x p := ⟨h.1, h.2.1, h.2.2.1, Nat.le_trans h.2.2.2 hk⟩
theorem best_all {S : Nat → Prop} {W : World} {g N : Nat} {mosts : Nat → Pl} (h : MostAt S W g (N + 1) mosts) : ∃ vs, vs.length = N + 1 ∧ PlansAt W g 0 vs ∧ PlOk S W N (maxV vs) (bestOf ((List.range (N + 1)).map mosts)) := by
  obtain ⟨vs, cs, h1, h2, h3, h4⟩ := h
  refine ⟨vs, h2, h3, ?_⟩
  have hall : ∀ j x, vs[j]? = some x → PlOk S W N x (mosts j) := fun j x hx => (h4 j x hx).up (by have := (List.getElem?_eq_some_iff.1 hx).1; omega)
  cases vs with
  | nil => simp at h2
  | cons v vs =>
    rw [List.range_succ_eq_map, List.map_cons, List.map_map]
    refine best_pair vs _ v (mosts 0) (hall 0 v rfl) (by simpa using h2) fun j x q hx hq => ?_
    rw [List.getElem?_map] at hq
    obtain ⟨i, hi, rfl⟩ := Option.map_eq_some_iff.1 hq
    have hj := (List.getElem?_eq_some_iff.1 hi)
    obtain ⟨h5, h6⟩ := hj
    rw [List.getElem_range] at h6
    subst h6
    exact hall (j + 1) x hx
set_option maxRecDepth 100000 in
set_option maxHeartbeats 4000000 in
theorem most_any {A : Option Addr} {c : Nat} {os : List Odr} {w : World} (hb : IsBook w A c os) (n0 : Nat) (hn : n0 ≤ 15) :
    Calls Tryz.prog 79 #[.slice A os.length c, .int .i64 (n0 : Int)] w fun e w' => Ext w w' ∧ ∃ u, e = .returned (.agg #[u, .int .i64 (mostOf os n0).2]) ∧ PlanV w' u (mostOf os n0).1 := by
  have HB := Lib.hid hb
  have hef := ends_few os
  have h14 := hb.few.2
  have hA : ∀ b o, A = some ⟨b, o, none⟩ → b < w.heap.size := fun b o e => by
    obtain ⟨b', o', e', hl, _⟩ := hb.at (j := 0) hb.few.1
    rw [e] at e'
    injection e' with e'
    injection e' with e'
    omega
  have HA := Lib.hid hA
  have HEF := Lib.hid (And.intro hef h14)
  obtain ⟨N, hN⟩ : ∃ N, n0 + 1 = N := ⟨_, rfl⟩
  have wz : IntKind.i64.wrap ((n0 : Int) + 1) = (N : Int) := by rw [← hN]; exact IntWalk.i64_in _ (by omega) |>.trans (by omega)
  have HN := Lib.hid (And.intro hN wz)
  clear hb hA hef h14 hN
  refine (callsIn_wide (n := 12)).1 ?_
  refine callsIn_of_wp_marks Tryz.func79 rfl trivial ?_ rfl
  simp only [Tryz.ntmps79, List.size_toArray, List.length_cons, List.length_nil, Nat.reduceAdd, Nat.reduceSub, Array.replicate_succ, Array.replicate_zero, List.push_toArray, List.append_toArray, List.nil_append, List.cons_append]
  gi_upto_region 1 with fail
  obtain ⟨w1, hw1⟩ : ∃ w1, ((w.alloc (.cells #[.int .i64 (n0 : Int)] 3)).alloc (.cells #[.slice none 0 0, .int .i64 0] 103)) = w1 := ⟨_, rfl⟩
  have z1 : w1.heap.size = w.heap.size + 2 := by rw [← hw1]; simp
  have e1 : Ext w w1 := by rw [← hw1]; exact (ext_alloc _ _).trans (ext_alloc _ _)
  have r3 : w1.heap[w.heap.size]? = some (.cells #[.int .i64 (n0 : Int)] 3 (0, 0)) := by rw [← hw1]; exact row_alloc _ _ _ _ (row_last _ _ _ rfl)
  have r4 : w1.heap[w.heap.size + 1]? = some (.cells #[.slice none 0 0, .int .i64 0] 103 (0, 0)) := by rw [← hw1]; exact row_last _ _ _ (by simp)
  rw [hw1]
  obtain ⟨pd, hpd⟩ : ∃ pd, w.heap.size = pd := ⟨_, rfl⟩
  have HZ := Lib.hid hpd
  rw [hpd] at z1 r3 r4 ⊢
  have HE1 := Lib.hid e1
  have R3 := Lib.hid r3
  have R4 := Lib.hid r4
  have HZ1 := Lib.hid z1
  clear hw1 hpd e1 r3 r4 z1
  refine wpIn_wide.2 ?_
  refine mk1_wp (A := A) (nn := os.length) (cc := c) (p3 := pd) (n0 := n0) (N := N) rfl rfl rfl (fun W hW => cell_of_row _ _ _ _ _ _ (row_ext R3.out hW)) wz (by have := HN.out.1; omega) ?_
  intro W2 m g pb p5 e2 hm hg hpb hp5 hK hG hPB hP5 n1 n2 n3 n4 n5 n6
  simp only [puts, List.foldl_cons, List.foldl_nil, Act.put, List.setIfInBounds_toArray, List.set_cons_succ, List.set_cons_zero]
  have hT0 : ∀ T, TabAt T W2 m 1 dp0.kept := fun T => ⟨litK true, hK, fun l b => by
    unfold litK dp0
    by_cases h : l = 0 ∧ b = 0
    · simp only [h, and_self, if_true]
      exact plOk_zero _ _ _
    · simp only [h, and_false, if_false]
      exact trivial⟩
  have hM0 : ∀ T, MostAt T W2 g N dp0.mosts := fun T => ⟨List.replicate N zeroP, zerosP N, hG, by simp, ⟨(Array.getElem?_eq_some_iff.1 hG).1, fun j x hx => by
    obtain ⟨hj, hx⟩ := List.getElem?_eq_some_iff.1 hx
    rw [List.getElem_replicate] at hx
    subst hx
    obtain ⟨q0, q1⟩ := zerosP_at N j (by simpa using hj)
    exact ⟨(cell_of_row _ _ _ _ _ _ hG).trans (by rw [Nat.zero_add]; exact q0), (cell_of_row _ _ _ _ _ _ hG).trans (by rw [Nat.zero_add]; exact q1), _, _, _, rfl⟩⟩, fun j x hx => by
    obtain ⟨hj, hx⟩ := List.getElem?_eq_some_iff.1 hx
    rw [List.getElem_replicate] at hx
    subst hx
    exact plOk_zero _ _ _⟩
  have HT0 := Lib.hid hT0
  have HM0 := Lib.hid hM0
  have HE2 := Lib.hid (HE1.out.trans e2)
  have R3 := Lib.hid (row_ext R3.out e2)
  have R4 := Lib.hid (row_ext R4.out e2)
  have RB := Lib.hid hPB
  have R5 := Lib.hid hP5
  have hmlt : m < W2.heap.size := (hT0 fun _ => False).choose_spec.1.lt
  have hglt : g < W2.heap.size := (hM0 fun _ => False).lt
  have hplt : pb < W2.heap.size := (Array.getElem?_eq_some_iff.1 hPB).1
  have h5lt : p5 < W2.heap.size := (Array.getElem?_eq_some_iff.1 hP5).1
  have HB2 : Hid ((pd + 2 ≤ m ∧ m < W2.heap.size) ∧ (pd + 2 ≤ g ∧ g < W2.heap.size) ∧ (pd + 2 ≤ pb ∧ pb < W2.heap.size) ∧ pd + 2 ≤ p5 ∧ p5 < W2.heap.size) := Lib.hid (by have := HZ1.out; omega)
  have HNE := Lib.hid (And.intro n1 (And.intro n2 (And.intro n3 (And.intro n4 (And.intro n5 n6)))))
  clear e2 hm hg hpb hp5 hK hG hPB hP5 n1 n2 n3 n4 n5 n6 hT0 hM0 hmlt hglt hplt h5lt
  gi_upto_region 3 with fail
  obtain ⟨p6, hp6⟩ : ∃ p6, W2.heap.size = p6 := ⟨_, rfl⟩
  obtain ⟨w3, hw3⟩ : ∃ w3, W2.alloc (.cells #[.int .i64 0] 3) = w3 := ⟨_, rfl⟩
  have e3 : Ext W2 w3 := by rw [← hw3]; exact ext_alloc _ _
  have z3 : w3.heap.size = p6 + 1 := by rw [← hw3]; simp [hp6]
  have r6 : w3.heap[p6]? = some (.cells #[.int .i64 0] 3 (0, 0)) := by rw [← hw3]; exact row_last _ _ _ hp6.symm
  rw [hw3, hp6]
  have HB3 : Hid ((pd + 2 ≤ m ∧ m < p6) ∧ (pd + 2 ≤ g ∧ g < p6) ∧ (pd + 2 ≤ pb ∧ pb < p6) ∧ pd + 2 ≤ p5 ∧ p5 < p6) := Lib.hid (by rw [← hp6]; exact HB2.out)
  have hcall := ends_any2 (HB.out.ext (HE2.out.trans e3))
  clear hw3 hp6 HB2
  gi_wp2_with (refine ⟨trivial, ?_⟩; gi_at_call 98; refine (callsIn_wide.2 hcall).mono ?_; rintro e w4 ⟨pe, pq, A2, c2, rfl, hE, e4, hA2, hpe, hpq⟩)
  have HZ4 : Hid (p6 + 1 ≤ w4.heap.size) := Lib.hid (by rw [← z3]; exact e4.size)
  have e34 : Ext W2 w4 := e3.trans e4
  have HT4 := Lib.hid ((HT0.out (fun i => ((i = m ∨ i = g) ∨ i = p6) ∨ i = pd + 1)).ext e34)
  have HM4 := Lib.hid ((HM0.out (fun i => ((i = m ∨ i = g) ∨ i = p6) ∨ i = pd + 1)).ext e34)
  have R3 := Lib.hid (row_ext R3.out e34)
  have R4 := Lib.hid (row_ext R4.out e34)
  have RB := Lib.hid (row_ext RB.out e34)
  have R5 := Lib.hid (row_ext R5.out e34)
  have R6 := Lib.hid (row_ext r6 e4)
  have HE4 := Lib.hid (HE2.out.trans e34)
  have hst := ends_stops 11 (by omega) w4 hE hE.on
  have hon := hE.on
  have HFAR : Hid (∀ q, OnEnds pe pq A A2 q → q < w4.heap.size ∧ ¬ ((q = m ∨ q = g) ∨ q = p6)) := Lib.hid (by
    intro q hq
    refine ⟨hon q hq, ?_⟩
    have hb3 := HB3.out
    have hz := HZ.out
    rcases hq with rfl | rfl | ⟨o', h⟩ | ⟨o', h⟩
    · omega
    · omega
    · have := HA.out _ _ h; omega
    · have := hA2 _ _ h; omega)
  have HT0 := HT4
  have HM0 := HM4
  clear hcall e3 z3 r6 e4 e34 hA2 hpe hpq HT4 HM4
  refine wpIn_rangeFunc_ownH rfl (by omega) (gf := 124) (lb := #[.pointer (some ⟨pe, 0, none⟩), .pointer (some ⟨pq, 0, none⟩)]) rfl trivial enters124
    hst keepsOn_t (keepsOn_b hon) (Below.refl _ _) (fun _ => rfl)
    (fun pre W => W.heap[p6]? = some (.cells #[.int .i64 (pre.length : Int)] 3 (0, 0)) ∧ TabAt (fun i => ((i = m ∨ i = g) ∨ i = p6) ∨ i = pd + 1) W m (1 + pre.length * 1000) (stOf os n0 pre).kept ∧ MostAt (fun i => ((i = m ∨ i = g) ∨ i = p6) ∨ i = pd + 1) W g N (stOf os n0 pre).mosts ∧ But (fun i => (i = m ∨ i = g) ∨ i = p6) w4 W)
    (fun _ _ _ => False)
    (fun pre X Y row hs hg' hr => by
      obtain ⟨h1, h2, h3, h4⟩ := hs
      exact ⟨heap_kept h1 hg' fun r e => (hr r e).2, h2.row (by have := HB3.out; have := HZ4.out; omega) hg' hr, h3.row hg' fun r e => (hr r e).2, h4.row hg' fun r e => (hr r e).1⟩)
    (fun _ _ _ _ _ hs _ _ => hs)
    ⟨R6.out, HT0.out, HM0.out, But.refl _ _⟩
    (fun x a' _ => a' = { tmps := #[.slice A os.length c, .int .i64 (n0 : Int), undef, .pointer (some ⟨pd, 0, none⟩), .pointer (some ⟨pd + 1, 0, none⟩), .pointer (some ⟨p5, 0, none⟩), .pointer (some ⟨p6, 0, none⟩), .int .i64 x, undef, .slice A os.length c, .map (some m), .agg #[.int .i64 0, .int .i64 0], .agg #[.slice none 0 0, .int .i64 0], .map (some m), .int .i64 (n0 : Int), .int .i64 (N : Int), .slice (some ⟨g, 0, none⟩) N N, .agg #[.slice A os.length c, .map (some m), .slice (some ⟨g, 0, none⟩) N N], .pointer (some ⟨pb, 0, none⟩), .slice A os.length c, .func (.func 124) #[] #[.pointer (some ⟨pe, 0, none⟩), .pointer (some ⟨pq, 0, none⟩)], .int .i64 x, undef, undef, undef, undef, undef, undef, undef, undef, undef, undef, undef, undef, undef, undef, undef, undef, undef, undef, undef], defers := [] })
    (fun _ _ _ _ _ _ hs _ _ => hs)
    ?assign ?body ?done ?stop
  case assign =>
    rintro l pre x W K hI hK
    gi_wp2
    exact hK _ _ (KeepsFrom.refl _ _) (keepsOn_r _) hI rfl
  case body =>
    rintro l pre x a' W hl ⟨r, hr⟩ ⟨h6, hT, hM, hBt⟩ rfl hlt2
    have hsn := stOf_snoc os n0 pre x
    have hk14 : pre.length < 14 := by have := HEF.out; omega
    have hps : (pre ++ [x]).length = pre.length + 1 := by simp
    obtain ⟨k, hk⟩ : ∃ k, pre.length = k := ⟨_, rfl⟩
    rw [hk] at h6 hT hsn hk14 hps
    obtain ⟨last, hla⟩ : ∃ last, k + 1 = last := ⟨_, rfl⟩
    rw [hla] at hsn hps
    have hwl : IntKind.i64.wrap ((k : Int) + 1) = (last : Int) := by rw [← hla]; exact IntWalk.i64_in _ (by omega) |>.trans (by omega)
    obtain ⟨s, hs⟩ : ∃ s, stOf os n0 pre = s := ⟨_, rfl⟩
    rw [hs] at hT hM hsn
    have HK := Lib.hid (And.intro hla (And.intro hk14 (And.intro hsn hps)))
    have hB3 := HB3.out
    have hZ4 := HZ4.out
    have hz := HZ.out
    obtain ⟨W5, hW5⟩ : ∃ W5, W.setCell ⟨p6, 0, none⟩ (.int .i64 (last : Int)) = W5 := ⟨_, rfl⟩
    have hB5' : But (fun i => (i = m ∨ i = g) ∨ i = p6) W W5 := by rw [← hW5]; exact (But.refl _ _).set (.inr rfl)
    have hB5 : But (fun i => (i = m ∨ i = g) ∨ i = p6) w4 W5 := hBt.trans hB5'
    have r6 : W5.heap[p6]? = some (.cells #[.int .i64 (last : Int)] 3 (0, 0)) := by rw [← hW5]; exact row_setCell _ _ _ _ _ _ _ h6
    have HB5 := Lib.hid hB5'
    have HBt := Lib.hid hBt
    have HR6 := Lib.hid r6
    have HT5 : Hid (TabAt (fun i => ((i = m ∨ i = g) ∨ i = p6) ∨ i = pd + 1) W5 m (1 + k * 1000) s.kept) := Lib.hid (hT.but (hB5'.wider fun i h => .inl h) (by rw [← hW5]; exact heap_set_other _ _ _ _ _ (by omega)))
    have HM5 : Hid (MostAt (fun i => ((i = m ∨ i = g) ∨ i = p6) ∨ i = pd + 1) W5 g N s.mosts) := Lib.hid (hM.but (hB5'.wider fun i h => .inl h) (by rw [← hW5]; exact heap_set_other _ _ _ _ _ (by omega)))
    have d6 : W.cell? ⟨p6, 0, none⟩ = some (.int .i64 (k : Int)) := cell_of_row _ _ _ _ _ _ h6
    have f6 : W.frozen? ⟨p6, 0, none⟩ = false := by simp [World.frozen?, h6]
    have HL := Lib.hid (And.intro hl hon)
    clear hst hr hE hon hs hsn hps hla hk hT hM hBt hB5' hB5 r6 h6 hl
    gi_upto_region 6 with fail
    clear d6 f6 hW5
    have d3 : W5.cell? ⟨pd, 0, none⟩ = some (.int .i64 (n0 : Int)) := cell_of_row _ _ _ _ _ _ (((HBt.out.trans HB5.out).block _ (by omega) (by omega)).trans R3.out)
    gi_wp2
    gi_loopw [25] (fun i wr => ∃ j : Nat, j ≤ n0 ∧ i = .int .i64 j ∧ Hid (But (fun i => (i = m ∨ i = g) ∨ i = p6) W wr) ∧ Hid (wr.heap[p6]? = some (.cells #[.int .i64 (last : Int)] 3 (0, 0))) ∧ Hid (TabAt (fun i => ((i = m ∨ i = g) ∨ i = p6) ∨ i = pd + 1) wr m (1 + k * 1000 + j * last) (roundOf os j last s x).kept) ∧ Hid (MostAt (fun i => ((i = m ∨ i = g) ∨ i = p6) ∨ i = pd + 1) wr g N (roundOf os j last s x).mosts)) (fun i _ => n0 - (intOf i).toNat)
    case atStart => exact ⟨0, Nat.zero_le _, rfl, HB5, HR6, Lib.hid (by rw [Nat.zero_mul]; exact HT5.out), HM5⟩
    case round =>
      obtain ⟨j, hj, rfl, hBW, h6, hT, hM⟩ := hrel
      have hB := Lib.hid (HBt.out.trans hBW.out)
      clear HB5 HR6 HT5 HM5 d3
      by_cases hlt : j < n0
      · have hltz : (j : Int) < (n0 : Int) := by omega
        obtain ⟨b1, hb1⟩ : ∃ b1, j + 1 = b1 := ⟨_, rfl⟩
        have hwj : IntKind.i64.wrap ((j : Int) + 1) = (b1 : Int) := by rw [← hb1]; exact IntWalk.i64_in _ (by omega) |>.trans (by omega)
        have hmul : j * last ≤ 15 * 14 := Nat.mul_le_mul (by omega) (by have := HK.out.1; have := HK.out.2.1; omega)
        have hne := HNE.out
        have hla := HK.out.1
        have hk14 := HK.out.2.1
        have h99 := reach_any (((HB.out.ext HE4.out)).but hB.out (fun b o e => by have := HA.out b o e; omega)) pb m g N (1 + k * 1000 + j * last) last j b1 hb1.symm x (roundOf os j last s x) ((hB.out.block _ (by omega) (by omega)).trans RB.out) (T := (fun i => ((i = m ∨ i = g) ∨ i = p6) ∨ i = pd + 1)) (fun i h => .inl (.inl h)) (fun i h => by have := hB.out.size; omega) hne.1 hne.2.1 hne.2.2.1 (fun b o e => by have := HA.out b o e; omega) hT.out hM.out (by omega) (by omega) (by have := HN.out.1; omega) (by have := HN.out.1; omega)
        have hrs := round_succ os j last s x
        rw [← hrs] at h99
        have d5 : wr.cell? ⟨p5, 0, none⟩ = some (.pointer (some ⟨pb, 0, none⟩)) := cell_of_row _ _ _ _ _ _ ((hB.out.block _ (by omega) (by omega)).trans R5.out)
        have d6 : wr.cell? ⟨p6, 0, none⟩ = some (.int .i64 (last : Int)) := cell_of_row _ _ _ _ _ _ h6.out
        have hnx : 1 + k * 1000 + j * last + last = 1 + k * 1000 + (j + 1) * last := by rw [Nat.add_mul, Nat.one_mul]; omega
        rw [hnx] at h99
        have hp6lt : p6 < wr.heap.size := (Array.getElem?_eq_some_iff.1 h6.out).1
        have HR := Lib.hid (And.intro hp6lt hb1)
        clear hmul hne hla hk14 hrs hnx hT hM hp6lt hb1
        gi_wp2_with (refine ⟨trivial, ?_⟩; gi_at_call 99; refine (CallsIn.inRound l (callsIn_wide.2 h99)).mono ?_; rintro e w6 ⟨rfl, hB6, hT6, hM6⟩; have HB6 := Lib.hid hB6; have HT6 := Lib.hid hT6; have HM6 := Lib.hid hM6; clear h99 hB6 hT6 hM6 d5 d6)
        go_roundw
        case measure => simp [intOf]; have := HR.out.2; omega
        case rel => exact ⟨j + 1, by omega, by rw [HR.out.2], Lib.hid (hBW.out.trans (HB6.out.wider fun i h => .inl h)), Lib.hid ((HB6.out.block _ HR.out.1 (by omega)).trans h6.out), HT6, HM6⟩
      · have hltz : ¬ (j : Int) < (n0 : Int) := by omega
        obtain rfl : j = n0 := by omega
        have hfin : (roundOf os j last s x) = stOf os j (pre ++ [x]) := HK.out.2.2.1.symm
        have hfar := HFAR.out
        have hBr : KeepsFrom w4.heap.size W wr := hBW.out.from (fun i h => by omega)
        have hKo : KeepsOn (OnEnds pe pq A A2) W wr := hBW.out.on fun b h => ⟨Nat.lt_of_lt_of_le (hfar b h).1 HBt.out.size, (hfar b h).2⟩
        have hlen : (pre ++ [x]).length = last := HK.out.2.2.2
        have hmul : j * last ≤ 15 * 14 := Nat.mul_le_mul (by omega) (by have := HK.out.1; have := HK.out.2.1; omega)
        have hla := HK.out.1
        have hk14 := HK.out.2.1
        have hmono : 1 + k * 1000 + j * last ≤ 1 + last * 1000 := by omega
        have HFIN := Lib.hid (show KeepsFrom w4.heap.size W wr ∧ KeepsOn (OnEnds pe pq A A2) W wr ∧ wr.heap[p6]? = some (.cells #[.int .i64 ((pre ++ [x]).length : Int)] 3 (0, 0)) ∧ TabAt (fun i => ((i = m ∨ i = g) ∨ i = p6) ∨ i = pd + 1) wr m (1 + (pre ++ [x]).length * 1000) (stOf os j (pre ++ [x])).kept ∧ MostAt (fun i => ((i = m ∨ i = g) ∨ i = p6) ∨ i = pd + 1) wr g N (stOf os j (pre ++ [x])).mosts ∧ But (fun i => (i = m ∨ i = g) ∨ i = p6) w4 wr from ⟨hBr, hKo, by rw [hlen]; exact h6.out, by rw [← hfin, hlen]; exact hT.out.mono hmono, by rw [← hfin]; exact hM.out, hB.out⟩)
        clear hfin hfar hBr hKo hlen hmul hla hk14 hmono hT hM h6 hB hBW
        gi_wp2
        exact HFIN.out
  case done =>
    rintro D zs W hD rfl ⟨h6, hT, hM, hBt⟩ hK
    have hb3 := HB3.out
    have hz4 := HZ4.out
    have hz := HZ.out
    have hMN := hM
    rw [← HN.out.1] at hMN
    obtain ⟨vs, hvl, hpl, hok⟩ := best_all hMN
    have h100 := bestOf_any (c := N) (vs := vs) (n := N) (by rw [hvl]; exact HN.out.1.symm) (by have := HN.out.1; omega) (by have := HN.out.1; omega) hpl
    have hmo : bestOf ((List.range (n0 + 1)).map (stOf os n0 (endsOf os)).mosts) = mostOf os n0 := rfl
    rw [hmo] at hok
    obtain ⟨u, hu⟩ : ∃ u, maxV vs = u := ⟨_, rfl⟩
    rw [hu] at h100 hok
    obtain ⟨uv, uw⟩ := u
    obtain ⟨uA, un, uc, hus⟩ := hok.2.1.slice
    have huw : uw = (mostOf os n0).2 := hok.1
    simp only at hus h100
    subst hus
    have d5 : W.cell? ⟨p5, 0, none⟩ = some (.pointer (some ⟨pb, 0, none⟩)) := cell_of_row _ _ _ _ _ _ ((hBt.block _ (by omega) (by have := HNE.out; omega)).trans R5.out)
    have rb : W.heap[pb]? = some (.cells #[.slice A os.length c, .map (some m), .slice (some ⟨g, 0, none⟩) N N] 129 (0, 0)) := (hBt.block _ (by omega) (by have := HNE.out; omega)).trans RB.out
    have d2 : W.cell? ⟨pb, 2, none⟩ = some (.slice (some ⟨g, 0, none⟩) N N) := cell_of_row _ _ _ _ _ _ rb
    have r4 : W.heap[pd + 1]? = some (.cells #[.slice none 0 0, .int .i64 0] 103 (0, 0)) := (hBt.block _ (by omega) (by omega)).trans R4.out
    have HR4 := Lib.hid r4
    have HOK := Lib.hid (And.intro hok huw)
    have HBT := Lib.hid hBt
    have HDK := Lib.hid hK
    clear h6 hT hM hMN hvl hpl hmo hu rb r4 hok huw hBt hst hE hon hb3 hz4 hz hK
    gi_wp2_with (refine ⟨trivial, ?_⟩; gi_at_call 100; refine (callsIn_wide.2 h100).mono ?_; rintro e w6 ⟨rfl, e6⟩; have HE6 := Lib.hid (show Ext W w6 from e6); have hr6 := row_ext HR4.out e6; have q0 : w6.cell? ⟨pd + 1, 0, none⟩ = some (.slice none 0 0) := cell_of_row _ _ _ _ _ _ hr6; have q1 : w6.cell? ⟨pd + 1, 1, none⟩ = some (.int .i64 0) := cell_of_row _ _ _ _ _ _ hr6; have f0 : w6.frozen? ⟨pd + 1, 0, none⟩ = false := (by simp [World.frozen?, hr6]); have f1 : w6.frozen? ⟨pd + 1, 1, none⟩ = false := (by simp [World.frozen?, hr6]); have HR6 := Lib.hid hr6; clear h100 e6 hr6 d5 d2)
    have hb3 := HB3.out
    have hz4 := HZ4.out
    have hz := HZ.out
    have hwlt := (Array.getElem?_eq_some_iff.1 HDK.out).1
    have hBF : But (fun i => ((i = m ∨ i = g) ∨ i = p6) ∨ i = pd + 1) w4 ((w6.setCell ⟨pd + 1, 0, none⟩ (.slice uA un uc)).setCell ⟨pd + 1, 1, none⟩ (.int .i64 uw)) := (((HBT.out.trans (But.ext HE6.out)).wider fun i h => .inl h).set (.inr rfl)).set (.inr rfl)
    have hpf := (HOK.out.1.but (But.ext HE6.out)).but (((But.refl (fun i => ((i = m ∨ i = g) ∨ i = p6) ∨ i = pd + 1) w6).set (p := pd + 1) (o := 0) (v := .slice uA un uc) (.inr rfl)).set (p := pd + 1) (o := 1) (v := .int .i64 uw) (.inr rfl))
    have hDF : ((w6.setCell ⟨pd + 1, 0, none⟩ (.slice uA un uc)).setCell ⟨pd + 1, 1, none⟩ (.int .i64 uw)).heap[D]? = some (.deferred (some [])) := (heap_set_other _ _ _ _ _ (by omega)).trans ((heap_set_other _ _ _ _ _ (by omega)).trans (row_ext HDK.out HE6.out))
    have hrow := set2_row w6 (pd + 1) (.slice uA un uc) (.int .i64 uw) _ _ 103 HR6.out
    refine leavesM_marks [D] _ (by simp) (fun E hE => ?_) (fun W' hs => ?_)
    · rw [List.mem_singleton.1 hE]; exact hDF
    · refine ⟨.agg #[.slice uA un uc, .int .i64 uw], results_row 103 rfl _ _ (pd + 1) _ rfl (run_loadVar_row (P := Tryz.prog) _ _ 103 103 _ (0, 0) _ ((hs.block _ (by simp; omega)).trans hrow) Tryz.underlying103 rfl (by rw [size103]; rfl)), (show Below w.heap.size w W' from Below.trans HE4.out (Below.trans (hBF.below HE4.out.size (fun i h => by omega)) (hs.below fun E hE => by rw [List.mem_singleton.1 hE]; have := HE4.out.size; omega))), _, by rw [HOK.out.2], hpf.2.1.shut hDF hs⟩
  case stop =>
    rintro D cd pre W hD hsp hf hK
    exact hf.elim
end Go.Proofs.YtmlmnljbegcjcaaGreat
