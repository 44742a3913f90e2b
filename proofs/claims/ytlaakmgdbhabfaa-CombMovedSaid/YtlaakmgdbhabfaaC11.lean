/- Texts of one package, joined: Those, Missed, Lost, CheckRows, Has, Places, Whole, AreApart, CheckApart, SpReg, Spaces, LawSmall, RefMarks, RefSheet, RefList, MovedBox. -/
import Derived.Test.YtlaakmgdbhabfaaC10
import Derived.Maps.AppendAt
/- those: the marks of which something holds; has. -/
namespace Go.Proofs.Ytlaakmgdbhabfaa
open Go.RowKit Go.Shelf
attribute [local irreducible] bitCells fitCells Z94 fitOf

/-- A slice of ints that the call made: xs, in a block from base on; nil just where it has none. -/
def MadeInts (base : Nat) (xs : List Int) (w : World) (v : Value) : Prop := w.ownsRow base 3 1 v xs.length (xs.map (Value.int .i64)) ∧ (xs = [] → v = .slice none 0 0)
theorem MadeInts.ext {base : Nat} {xs : List Int} {w w' : World} {v : Value} (h : MadeInts base xs w v) (e : Ext w w') : MadeInts base xs w' v := ⟨owns_ext h.1 e, h.2⟩
theorem MadeInts.mono {base base' : Nat} {xs : List Int} {w : World} {v : Value} (h : MadeInts base xs w v) (hb : base' ≤ base) : MadeInts base' xs w v := ⟨owns_mono h.1 hb, h.2⟩
theorem one_cell' (x : Int) (u : Value) (h : u ∈ [Value.int .i64 x]) : u.oneCell' = true := by
  simp only [List.mem_singleton] at h
  subst h
  rfl
/-- The numbers below k of which p holds. -/
def numsTo (p : Nat → Bool) (k : Nat) : List Int := ((List.range k).filter p).map fun j : Nat => (j : Int)
theorem numsTo_succ (p : Nat → Bool) (k : Nat) : numsTo p (k + 1) = numsTo p k ++ (if p k = true then [(k : Int)] else []) := by
  unfold numsTo
  rw [List.range_succ, List.filter_append, List.map_append]
  cases h : p k <;> simp [h]
theorem numsTo_len (p : Nat → Bool) (k : Nat) : (numsTo p k).length ≤ k := by
  unfold numsTo
  rw [List.length_map]
  exact Nat.le_trans (List.length_filter_le _ _) (by simp)

/-- A function value that answers p of every number below m, and turns nothing that lay in w. -/
def PredNum (g : Nat) (pre lb : Array Value) (p : Nat → Bool) (m : Nat) (w : World) : Prop :=
  ∀ (W : World) (j : Nat), j < m → Below w.heap.size w W → Calls Try.prog g (pre ++ #[.int .i64 (j : Int)] ++ lb) W fun e w' => e = .returned (.bool (p j)) ∧ Below W.heap.size W w'

set_option maxRecDepth 100000 in
set_option maxHeartbeats 1000000 in
theorem those_any {w : World} {b : Nat} {A' : Option Addr} {n' c' : Nat} (_hbl : b < w.heap.size) (hc : w.cell? ⟨b, 1, none⟩ = some (.slice A' n' c')) (hn : n' ≤ 1000) (g : Nat) (pre lb : Array Value) (eg : ∀ args w, (callFunc g args).run Try.prog w = .ok (.enter g args) w) (p : Nat → Bool)
    (hp : PredNum g pre lb p n' w) : Calls Try.prog 56 #[.pointer (some ⟨b, 0, none⟩), .func (.func g) pre lb] w fun e w' => ∃ v, e = .returned v ∧ Ext w w' ∧ MadeInts w.heap.size (numsTo p n') w' v := by
  obtain ⟨i0, hi, hz0, hz1, hz2⟩ := info_parts info3
  have HI := Lib.hid (And.intro hi (And.intro hz0 (And.intro hz1 hz2)))
  have HC := Lib.hid hc
  have HP := Lib.hid hp
  clear hi hz0 hz1 hz2 hp
  go_enter Try.func56, Try.ntmps56
  go_wp2
  go_loopw [5, 6, 13] (fun v _ i wr => ∃ k : Nat, k ≤ n' ∧ i = .int .i64 k ∧ Hid (Ext w wr) ∧ Hid (MadeInts w.heap.size (numsTo p k) wr v)) (fun _ _ i _ => n' - (intOf i).toNat)
  case atStart => exact ⟨0, Nat.zero_le _, rfl, Lib.hid (Ext.refl _), Lib.hid ⟨World.ownsRow_nil _ _ _ _, fun _ => rfl⟩⟩
  case round =>
    obtain ⟨k, hk, rfl, hB, hO⟩ := hrel
    have hsz := hB.out.size
    clear hc
    by_cases hlt : k < n'
    · have hltz : (k : Int) < (n' : Int) := by omega
      have hcall := HP.out wr k hlt hB.out
      have hs := numsTo_succ p k
      have hl := numsTo_len p k
      cases hq : p k with
      | true =>
        rw [hq] at hcall
        rw [hq, if_pos rfl] at hs
        have HS := Lib.hid hs
        clear hs hq
        go_wp2_with (first | (go_at_fn g; refine hcall.mono ?_; rintro e w1 ⟨rfl, hb1⟩; have hO1 := hO.out.ext hb1; have oA := hO1.1.alloc (.cells #[.int .i64 (k : Int)] 3); have hE1 : Ext w w1 := hB.out.trans hb1; have hz1 := hE1.size) | (at_builtin; refine wpList_append_own _ rfl (.tmp 19) (.tmp 21) 30 rfl w.heap.size 3 i0 (.int .i64 0) 1 8 ?_ ?_ ?_ ?_ ?_ ?_ ?_ u5 _ ((numsTo p k).map (Value.int .i64)) rfl oA ⟨w1.heap.size, 0, none⟩ 1 1 [.int .i64 (k : Int)] rfl ?_ ?_ ?_ ?_ ?_ ?_ ?_; exact Try.underlying30; exact HI.out.1; exact HI.out.2.1; exact HI.out.2.2.1; exact HI.out.2.2.2; rfl; decide; rfl; exact cell_one_new _ _ _; exact one_cell' _; (unfold maxLen; omega); omega; (simp; omega); intro v' w4 hown' hg4 _; have HW := Lib.hid hown'; have hE4 := Lib.hid (((hE1.alloc hz1 (.cells #[.int .i64 (k : Int)] 3)).grown hg4 (by simp; omega) (fun b e => (oA.lt b e).1)) : Ext w w4); clear hown' hg4 oA hO1))
        go_roundw
        case measure => simp [intOf]; omega
        case rel =>
          refine ⟨k + 1, by omega, by go_num, hE4, Lib.hid ⟨?_, fun e => by rw [HS.out] at e; simp at e⟩⟩
          rw [HS.out, List.length_append, List.map_append]
          exact HW.out
      | false =>
        rw [hq] at hcall
        rw [hq, if_neg (by decide), List.append_nil] at hs
        have HS := Lib.hid hs
        clear hs hq
        go_wp2_with (go_at_fn g; refine hcall.mono ?_; rintro e w1 ⟨rfl, hb1⟩)
        go_roundw
        case measure => simp [intOf]; omega
        case rel => exact ⟨k + 1, by omega, by go_num, Lib.hid (hB.out.trans hb1), by rw [HS.out]; exact Lib.hid (hO.out.ext hb1)⟩
    · have hltz : ¬ (k : Int) < (n' : Int) := by omega
      obtain rfl : k = n' := by omega
      obtain ⟨A5, c5, hv⟩ := owns_slice hO.out.1
      subst hv
      go_wp2
      go_ret
      exact ⟨_, rfl, hB.out, hO.out⟩
end Go.Proofs.Ytlaakmgdbhabfaa

/- has, missed. -/
namespace Go.Proofs.Ytlaakmgdbhabfaa
open Go.RowKit Go.Shelf
attribute [local irreducible] bitCells fitCells Z94 fitOf

section
variable {ops : Array Oper} {rest : List Oper} {o : Oper} {a : Act} {w : World} {Q : Exit → Act → World → Prop}
theorem wpList_box92 (x : Operand) (hg : o.guard = none) (ho : o.op = .box 92 x) (f : Array Value) (hx : a.eval x = .agg f)
    (h : wpList Try.prog ops Q rest (a.put o.dst (.pointer (some ⟨w.heap.size, 0, none⟩))) (w.alloc (.cells f 92))) : wpList Try.prog ops Q (o :: rest) a w :=
  Great.wpList_boxTo hg 92 x ho _ rfl _ rfl f (by rw [hx]; rfl) h
theorem run_load92 (w : World) (ad : Addr) (f : Array Value) (hs : f.size = 12) (hc : ∀ j u, f.toList[j]? = some u → w.cell? (ad.add j) = some u) : (loadVar 92 ad).run Try.prog w = .ok (.agg f) w := by
  have hl : (loadCells ad f.toList.length).run Try.prog w = .ok f.toList.toArray w := run_loadCells_list (P := Try.prog) w ad f.toList hc
  obtain ⟨i, hi, hz⟩ := Option.map_eq_some_iff.1 size92
  have hagg : (isAgg 92).run Try.prog w = .ok true w := Try.isAgg92 w
  simp only [Array.length_toList, Array.toArray_toList] at hl
  rw [hs] at hl
  simp [loadVar, Sem.run_bind, hagg, sizeOf, typeInfo, hi, hz, hl]
theorem wpList_load92_at (x : Operand) (hgd : o.guard = none) (ho : o.op = .load 92 x) (ad : Addr) (hx : a.eval x = .pointer (some ad)) (f : Array Value) (hs : f.size = 12) (hc : ∀ j u, f.toList[j]? = some u → w.cell? (ad.add j) = some u)
    (h : wpList Try.prog ops Q rest (a.put o.dst (.agg f)) w) : wpList Try.prog ops Q (o :: rest) a w := by
  refine wpList_plain hgd fun K hK => ?_
  unfold Oper.wp execOp
  simp only [ho, hx, Instr.loadAt, Instr.sureAddr, Sem.run_bind, Sem.run_pure, Result.andThen_ok, run_load92 w ad f hs hc]
  exact hK _ _ h
end

set_option maxHeartbeats 1000000 in
theorem has_any (M : Nat → Bool) (j : Nat) (hj : j < 12) (w : World) : Calls Try.prog 57 #[.agg (bitCells M), .int .i64 (j : Int)] w fun e w' => e = .returned (.bool (M j)) ∧ Ext w w' := by
  have hc : (w.alloc (.cells (bitCells M) 92)).cell? ⟨w.heap.size, j, none⟩ = some (.int .i64 (if M j = true then 1 else 0)) := (cell_of_row _ _ _ _ _ _ (row_last _ _ _ rfl)).trans (bitCells_get M j hj)
  have hE := ext_alloc w (.cells (bitCells M) 92)
  obtain ⟨f, hf⟩ : ∃ f, bitCells M = f := ⟨_, rfl⟩
  rw [hf] at hc hE ⊢
  have hjz : (j : Int) < 12 := by omega
  clear hf
  cases hm : M j with
  | true =>
    rw [hm, if_pos rfl] at hc
    clear hm
    go_enter Try.func57, Try.ntmps57
    go_wp2_with (first | refine wpList_box92 (.tmp 0) rfl rfl f rfl ?_)
    go_ret
    exact ⟨rfl, hE⟩
  | false =>
    rw [hm, if_neg (by decide)] at hc
    clear hm
    go_enter Try.func57, Try.ntmps57
    go_wp2_with (first | refine wpList_box92 (.tmp 0) rfl rfl f rfl ?_)
    go_ret
    exact ⟨rfl, hE⟩

/-- The marks of a row that fits lie behind its comb and its place. -/
theorem marks_cells (cs ms : List (Int × Int)) (x : Nat × Int) (w : World) (b off : Nat) (h : ∀ j u, (fitOf cs ms x).toList[j]? = some u → w.cell? ((⟨b, off, none⟩ : Addr).add j) = some u) :
    ∀ j u, (bitCells (hadB cs ms x.1 x.2)).toList[j]? = some u → w.cell? ((⟨b, off + 2, none⟩ : Addr).add j) = some u := by
  intro j u hu
  have hj : j < 12 := by
    have := (List.getElem?_eq_some_iff.1 hu).1
    rwa [Array.length_toList, bitCells_size] at this
  rw [Array.getElem?_toList, bitCells_get _ j hj] at hu
  have := h (2 + j) u (by rw [Array.getElem?_toList, (fitOf_get cs ms x).2.2 j hj]; exact hu)
  have e1 : (⟨b, off, none⟩ : Addr).add (2 + j) = ⟨b, off + (2 + j), none⟩ := by unfold Addr.add; split <;> simp_all
  have e2 : (⟨b, off + 2, none⟩ : Addr).add j = ⟨b, off + 2 + j, none⟩ := by unfold Addr.add; split <;> simp_all
  rw [e1] at this
  rw [e2, show off + 2 + j = off + (2 + j) from by omega]
  exact this

set_option maxHeartbeats 1000000 in
theorem hasFit (j : Nat) (hj : j < 12) (B : Nat) (cs ms : List (Int × Int)) (xs : List (Nat × Int)) (w : World) (hB : B < w.heap.size) (hc : w.cell? ⟨B, 0, none⟩ = some (.int .i64 (j : Int))) :
    PredOn 91 #[.pointer (some ⟨B, 0, none⟩)] (fun x => .agg (fitOf cs ms x)) (fun x => hadB cs ms x.1 x.2 j) xs w := fun W x hx hbw => by
  have hq0 := (hbw.cell (p := ⟨B, 0, none⟩) hB).trans hc
  have hm := marks_cells cs ms x (W.alloc (.cells (fitOf cs ms x) 94)) W.heap.size 0 (cells_new W (fitOf cs ms x) 94)
  have hhas := has_any (hadB cs ms x.1 x.2) j hj (W.alloc (.cells (fitOf cs ms x) 94))
  have hsz := bitCells_size (hadB cs ms x.1 x.2)
  show Calls Try.prog 91 #[.agg (fitOf cs ms x), .pointer (some ⟨B, 0, none⟩)] W fun e w' => e = .returned (.bool (hadB cs ms x.1 x.2 j)) ∧ Below W.heap.size W w'
  obtain ⟨f, hf⟩ : ∃ f, fitOf cs ms x = f := ⟨_, rfl⟩
  rw [hf] at hm hhas ⊢
  obtain ⟨M, hM⟩ : ∃ M, hadB cs ms x.1 x.2 = M := ⟨_, rfl⟩
  rw [hM] at hm hhas hsz ⊢
  obtain ⟨q, hq⟩ : ∃ q, bitCells M = q := ⟨_, rfl⟩
  rw [hq] at hm hhas hsz
  have q0 : (W.alloc (.cells f 94)).cell? ⟨B, 0, none⟩ = some (.int .i64 (j : Int)) := ((ext_alloc W _).cell (p := ⟨B, 0, none⟩) (by have := hbw.size; show B < W.heap.size; omega)).trans hq0
  have hE := ext_alloc W (.cells f 94)
  have HE := Lib.hid hE
  clear hf hM hq hx hbw hq0 hc hE
  go_enter Try.func91, Try.ntmps91
  go_wp2_with (first | refine wpList_box94 (.tmp 0) rfl rfl f rfl ?_ | refine wpList_load92_at (.tmp 4) rfl rfl _ rfl q hsz hm ?_ | (refine hhas.mono ?_; rintro e w1 ⟨rfl, hb1⟩))
  go_ret
  exact ⟨rfl, HE.out.trans hb1⟩

/-- The slots of region 1 of function 90. -/
def ms90D (i : Nat) : Tmp := if i = 0 then 4 else if i = 1 then 5 else if i = 2 then 6 else if i = 3 then 7 else if i = 4 then 8 else if i = 5 then 9 else 3
/-- What each operation yields. -/
def ms90V (_B p : Nat) (A : Option Addr) (n c : Nat) (r : Nat) (ix : Nat) : Value :=
  match ix with
  | 0 => .slice A n c
  | 1 => .func (.func 91) #[] #[.pointer (some ⟨p, 0, none⟩)]
  | 2 => .int .i64 (r : Int)
  | 3 => .slice A n c
  | 4 => .int .i64 (n : Int)
  | 5 => .bool ((r : Int) == (n : Int))
  | _ => .bool ((r : Int) == (n : Int))
noncomputable def ms90Reg : Array Oper := (Try.f90.body.bind (regionOf · 1)).getD #[]
def ms90Ok (B p : Nat) (A : Option Addr) (n c : Nat) (r : Nat) (Q : Exit → Act → World → Prop) (a : Act) (W : World) (ix : Nat) (o : Oper) : Prop :=
  (∀ j b, o.guard = some (j, b) → a.eval (.tmp (ms90D j)) = .bool b) ∧ o.wp Try.prog a W (fun a'' W' => ∃ v, a'' = a.put o.dst v ∧ v = ms90V B p A n c r ix ∧ Below W.heap.size W W') Q
section
variable {B p : Nat} {A : Option Addr} {n c : Nat} {r : Nat} {Q : Exit → Act → World → Prop} {a : Act} {V W : World} {o : Oper}
theorem ms90_op0 (o1 : a.eval (.tmp 1) = .pointer (some ⟨B, 0, none⟩)) (q0 : ∀ W, Ext V W → W.cell? ⟨B, 0, none⟩ = some (.slice A n c)) (hB : Ext V W) (ho : ms90Reg[0]? = some o) : ms90Ok B p A n c r Q a W 0 o := by
  have hop := op_at ho (·.op) (x := Op.load 87 (Operand.tmp 1)) (by kernel_rfl)
  have hgd := op_at ho (·.guard) (x := none) (by kernel_rfl)
  refine ⟨fun j b h => (by rw [hgd] at h; cases h), ?_⟩
  have q0' := q0 W hB
  exact specs_value (R := fun v _ => v = ms90V B p A n c r 0) (v := .slice A n c) (by simp [execOp, hop, go_sem, ev o1, q0']) rfl (Ext.refl W)
theorem ms90_op1 (o2 : a.eval (.tmp 2) = .pointer (some ⟨p, 0, none⟩)) (ho : ms90Reg[1]? = some o) : ms90Ok B p A n c r Q a W 1 o := by
  have hop := op_at ho (·.op) (x := Op.makeFunc (Fn.func 91) #[] #[Operand.tmp 2]) (by kernel_rfl)
  have hgd := op_at ho (·.guard) (x := none) (by kernel_rfl)
  refine ⟨fun j b h => (by rw [hgd] at h; cases h), ?_⟩
  exact specs_value (R := fun v _ => v = ms90V B p A n c r 1) (v := .func (.func 91) #[] #[.pointer (some ⟨p, 0, none⟩)]) (by simp [execOp, hop, go_sem, ev o2]) rfl (Ext.refl W)
theorem ms90_op2 (k88 : ∀ W, Ext V W → Calls Try.prog 88 #[.slice A n c, .func (.func 91) #[] #[.pointer (some ⟨p, 0, none⟩)]] W fun e w' => e = .returned (.int .i64 (r : Int)) ∧ Below W.heap.size W w') (hB : Ext V W) (haft : ∀ j, (o.after.any fun e => decide (e.on = j) && Region.binds .any e) = true → a.eval (.tmp (ms90D j)) = ms90V B p A n c r j) (ho : ms90Reg[2]? = some o) : ms90Ok B p A n c r Q a W 2 o := by
  have hop := op_at ho (·.op) (x := Op.call { callee := Callee.value (Operand.func 88), args := #[Operand.tmp 4, Operand.tmp 5], argTypes := #[87, 133] }) (by kernel_rfl)
  have hgd := op_at ho (·.guard) (x := none) (by kernel_rfl)
  have e0 : a.eval (.tmp 4) = .slice A n c := haft 0 (op_at ho (fun o => o.after.any fun e => decide (e.on = 0) && Region.binds .any e) (x := true) (by kernel_rfl))
  have e1 : a.eval (.tmp 5) = .func (.func 91) #[] #[.pointer (some ⟨p, 0, none⟩)] := haft 1 (op_at ho (fun o => o.after.any fun e => decide (e.on = 1) && Region.binds .any e) (x := true) (by kernel_rfl))
  refine ⟨fun j b h => (by rw [hgd] at h; cases h), ?_⟩
  exact specs_call (R := fun v _ => v = ms90V B p A n c r 2) (f := 88) (args := #[.slice A n c, .func (.func 91) #[] #[.pointer (some ⟨p, 0, none⟩)]]) (by simp [execOp, hop, go_sem, ev e0, ev e1]) ((k88 W hB).mono fun e w' h => ⟨_, h.1, rfl, h.2⟩)
theorem ms90_op3 (o1 : a.eval (.tmp 1) = .pointer (some ⟨B, 0, none⟩)) (q0 : ∀ W, Ext V W → W.cell? ⟨B, 0, none⟩ = some (.slice A n c)) (hB : Ext V W) (ho : ms90Reg[3]? = some o) : ms90Ok B p A n c r Q a W 3 o := by
  have hop := op_at ho (·.op) (x := Op.load 87 (Operand.tmp 1)) (by kernel_rfl)
  have hgd := op_at ho (·.guard) (x := none) (by kernel_rfl)
  refine ⟨fun j b h => (by rw [hgd] at h; cases h), ?_⟩
  have q0' := q0 W hB
  exact specs_value (R := fun v _ => v = ms90V B p A n c r 3) (v := .slice A n c) (by simp [execOp, hop, go_sem, ev o1, q0']) rfl (Ext.refl W)
theorem ms90_op4 (haft : ∀ j, (o.after.any fun e => decide (e.on = j) && Region.binds .any e) = true → a.eval (.tmp (ms90D j)) = ms90V B p A n c r j) (ho : ms90Reg[4]? = some o) : ms90Ok B p A n c r Q a W 4 o := by
  have hop := op_at ho (·.op) (x := Op.call { callee := Callee.builtin Builtin.len, args := #[Operand.tmp 7], argTypes := #[87] }) (by kernel_rfl)
  have hgd := op_at ho (·.guard) (x := none) (by kernel_rfl)
  have e3 : a.eval (.tmp 7) = .slice A n c := haft 3 (op_at ho (fun o => o.after.any fun e => decide (e.on = 3) && Region.binds .any e) (x := true) (by kernel_rfl))
  refine ⟨fun j b h => (by rw [hgd] at h; cases h), ?_⟩
  exact specs_value (R := fun v _ => v = ms90V B p A n c r 4) (v := .int .i64 (n : Int)) (by simp [execOp, hop, go_sem, ev e3]) rfl (Ext.refl W)
theorem ms90_op5 (haft : ∀ j, (o.after.any fun e => decide (e.on = j) && Region.binds .any e) = true → a.eval (.tmp (ms90D j)) = ms90V B p A n c r j) (ho : ms90Reg[5]? = some o) : ms90Ok B p A n c r Q a W 5 o := by
  have hop := op_at ho (·.op) (x := Op.binOp BinOp.eql 3 (Operand.tmp 6) (Operand.tmp 8) 3) (by kernel_rfl)
  have hgd := op_at ho (·.guard) (x := none) (by kernel_rfl)
  have e2 : a.eval (.tmp 6) = .int .i64 (r : Int) := haft 2 (op_at ho (fun o => o.after.any fun e => decide (e.on = 2) && Region.binds .any e) (x := true) (by kernel_rfl))
  have e4 : a.eval (.tmp 8) = .int .i64 (n : Int) := haft 4 (op_at ho (fun o => o.after.any fun e => decide (e.on = 4) && Region.binds .any e) (x := true) (by kernel_rfl))
  refine ⟨fun j b h => (by rw [hgd] at h; cases h), ?_⟩
  exact specs_value (R := fun v _ => v = ms90V B p A n c r 5) (v := .bool ((r : Int) == (n : Int))) (by simp [execOp, hop, go_sem, ev e2, ev e4]) rfl (Ext.refl W)
theorem ms90_op6 (haft : ∀ j, (o.after.any fun e => decide (e.on = j) && Region.binds .any e) = true → a.eval (.tmp (ms90D j)) = ms90V B p A n c r j) (ho : ms90Reg[6]? = some o) : ms90Ok B p A n c r Q a W 6 o := by
  have hop := op_at ho (·.op) (x := Op.assign (Operand.tmp 9)) (by kernel_rfl)
  have hgd := op_at ho (·.guard) (x := none) (by kernel_rfl)
  have e5 : a.eval (.tmp 9) = .bool ((r : Int) == (n : Int)) := haft 5 (op_at ho (fun o => o.after.any fun e => decide (e.on = 5) && Region.binds .any e) (x := true) (by kernel_rfl))
  refine ⟨fun j b h => (by rw [hgd] at h; cases h), ?_⟩
  exact specs_value (R := fun v _ => v = ms90V B p A n c r 6) (v := .bool ((r : Int) == (n : Int))) (by simp [execOp, hop, go_sem, ev e5]) rfl (Ext.refl W)
set_option maxRecDepth 100000 in
set_option maxHeartbeats 4000000 in
/-- Region 1 of function 90. -/
theorem ms90_wp {id : Nat} (hlen : a.tmps.size = 10) (o1 : a.eval (.tmp 1) = .pointer (some ⟨B, 0, none⟩)) (o2 : a.eval (.tmp 2) = .pointer (some ⟨p, 0, none⟩)) (q0 : ∀ W, Ext V W → W.cell? ⟨B, 0, none⟩ = some (.slice A n c)) (k88 : ∀ W, Ext V W → Calls Try.prog 88 #[.slice A n c, .func (.func 91) #[] #[.pointer (some ⟨p, 0, none⟩)]] W fun e w' => e = .returned (.int .i64 (r : Int)) ∧ Below W.heap.size W w') (K : ∀ W, Ext V W → Q .normal (puts a [(4, .slice A n c), (5, .func (.func 91) #[] #[.pointer (some ⟨p, 0, none⟩)]), (6, .int .i64 (r : Int)), (7, .slice A n c), (8, .int .i64 (n : Int)), (9, .bool ((r : Int) == (n : Int))), (3, .bool ((r : Int) == (n : Int)))]) W) : (Code.region id ms90Reg true).wp Try.prog Q a V := by
  refine wp_region_specs_free (ops := ms90Reg) 7 (fun i v _ => v = ms90V B p A n c r i) (Ext V) (by kernel_rfl) (by rw [hlen]; kernel_rfl) (by kernel_rfl) ⟨rfl, rfl, rfl, Nat.le_refl _, fun _ _ => rfl⟩ (fun _ _ h e => h.trans e) (fun _ _ _ _ h _ => h) ms90D (by kernel_rfl) ?_ ?_
  · intro i o hi ho a' W hB hsz hold haft
    match i, hi with
    | 0, _ => exact ms90_op0 ((hold 1 (by kernel_rfl)).trans o1) q0 hB ho
    | 1, _ => exact ms90_op1 ((hold 2 (by kernel_rfl)).trans o2) ho
    | 2, _ => exact ms90_op2 k88 hB haft ho
    | 3, _ => exact ms90_op3 ((hold 1 (by kernel_rfl)).trans o1) q0 hB ho
    | 4, _ => exact ms90_op4 haft ho
    | 5, _ => exact ms90_op5 haft ho
    | 6, _ => exact ms90_op6 haft ho
    | m + 7, h => exact absurd h (by omega)
  · intro a1 W hB hsz hdf hold hS
    have hall : ∀ z, z ∈ ([(4, .slice A n c), (5, .func (.func 91) #[] #[.pointer (some ⟨p, 0, none⟩)]), (6, .int .i64 (r : Int)), (7, .slice A n c), (8, .int .i64 (n : Int)), (9, .bool ((r : Int) == (n : Int))), (3, .bool ((r : Int) == (n : Int)))] : List (Tmp × Value)) → z.1 < a.tmps.size ∧ a1.eval (.tmp z.1) = z.2 := by
      intro z hz
      rw [hlen]
      simp only [List.mem_cons, List.not_mem_nil, or_false] at hz
      rcases hz with rfl | rfl | rfl | rfl | rfl | rfl | rfl
      · exact ⟨(show (4 : Nat) < 10 by omega), hS 0 (by omega)⟩
      · exact ⟨(show (5 : Nat) < 10 by omega), hS 1 (by omega)⟩
      · exact ⟨(show (6 : Nat) < 10 by omega), hS 2 (by omega)⟩
      · exact ⟨(show (7 : Nat) < 10 by omega), hS 3 (by omega)⟩
      · exact ⟨(show (8 : Nat) < 10 by omega), hS 4 (by omega)⟩
      · exact ⟨(show (9 : Nat) < 10 by omega), hS 5 (by omega)⟩
      · exact ⟨(show (3 : Nat) < 10 by omega), hS 6 (by omega)⟩
    have ha := act_puts hsz hdf hall (fun t ht => hold t (all_ne_of (l := [(4, .slice A n c), (5, .func (.func 91) #[] #[.pointer (some ⟨p, 0, none⟩)]), (6, .int .i64 (r : Int)), (7, .slice A n c), (8, .int .i64 (n : Int)), (9, .bool ((r : Int) == (n : Int))), (3, .bool ((r : Int) == (n : Int)))]) (by kernel_rfl) ht))
    have he : ms90Reg.toList.drop 7 = [] := List.drop_eq_nil_of_le (by rw [Array.length_toList]; exact Nat.le_of_eq (by kernel_rfl))
    rw [he, ha]
    exact K W hB
end

/-- Whether no row that fits of xs has the mark j. -/
def noneHas (cs ms : List (Int × Int)) (xs : List (Nat × Int)) (j : Nat) : Bool := xs.all fun x => !hadB cs ms x.1 x.2 j
set_option maxRecDepth 100000 in
set_option maxHeartbeats 1000000 in
theorem missedNum (B : Nat) (A : Option Addr) (n c : Nat) (cs ms : List (Int × Int)) (xs : List (Nat × Int)) (hn : n = xs.length) (hn9 : n ≤ 1000000) (m : Nat) (hm : m ≤ 12) (w : World) (hB : B < w.heap.size) (hc : w.cell? ⟨B, 0, none⟩ = some (.slice A n c)) (hh : Held w w.heap.size 14 (encF cs ms) A xs) :
    PredNum 90 #[] #[.pointer (some ⟨B, 0, none⟩)] (noneHas cs ms xs) m w := fun W j hj hbw => by
  show Calls Try.prog 90 #[.int .i64 (j : Int), .pointer (some ⟨B, 0, none⟩)] W fun e w' => e = .returned (.bool (noneHas cs ms xs j)) ∧ Below W.heap.size W w'
  have e91 : ∀ args w, (callFunc 91 args).run Try.prog w = .ok (.enter 91 args) w := enters_of Try.func91 (by kernel_rfl) rfl
  have hE := ext_alloc W (.cells #[.int .i64 (j : Int)] 3)
  have hq0 := (hbw.cell (p := ⟨B, 0, none⟩) hB).trans hc
  have q0 : (W.alloc (.cells #[.int .i64 (j : Int)] 3)).cell? ⟨B, 0, none⟩ = some (.slice A n c) := ((ext_alloc W _).cell (p := ⟨B, 0, none⟩) (by have := hbw.size; show B < W.heap.size; omega)).trans hq0
  have qp : (W.alloc (.cells #[.int .i64 (j : Int)] 3)).cell? ⟨W.heap.size, 0, none⟩ = some (.int .i64 (j : Int)) := cell_of_row _ _ _ _ _ _ (row_last _ _ _ rfl)
  have hpz : W.heap.size < (W.alloc (.cells #[.int .i64 (j : Int)] 3)).heap.size := by simp
  have hBz : B < (W.alloc (.cells #[.int .i64 (j : Int)] 3)).heap.size := by have := hbw.size; simp; omega
  have hhW : Held (W.alloc (.cells #[.int .i64 (j : Int)] 3)) (W.alloc (.cells #[.int .i64 (j : Int)] 3)).heap.size 14 (encF cs ms) A xs := (((hh.kept hbw (Nat.le_refl _)).wider hbw.size).kept hE (Nat.le_refl _)).wider hE.size
  have hall : ((xs.findIdx (fun x => hadB cs ms x.1 x.2 j) : Int) == (n : Int)) = noneHas cs ms xs j := by
    unfold noneHas
    rw [hn, ← all_of_findIdx]
    simp
  obtain ⟨r, hr⟩ : ∃ r, xs.findIdx (fun x => hadB cs ms x.1 x.2 j) = r := ⟨_, rfl⟩
  rw [hr] at hall
  rw [← hall]
  have hk : ∀ V, Ext (W.alloc (.cells #[.int .i64 (j : Int)] 3)) V → Calls Try.prog 88 #[.slice A n c, .func (.func 91) #[] #[.pointer (some ⟨W.heap.size, 0, none⟩)]] V fun e w' => e = .returned (.int .i64 (r : Int)) ∧ Below V.heap.size V w' := fun V hV => by
    rw [← hr]
    exact firstFit 91 _ e91 (fun x => hadB cs ms x.1 x.2 j) A n c cs ms xs V hn (by omega) ((hhW.kept hV (Nat.le_refl _)).wider hV.size) (hasFit j (by omega) _ cs ms xs V (Nat.lt_of_lt_of_le hpz hV.size) ((hV.cell (p := ⟨W.heap.size, 0, none⟩) hpz).trans qp))
  have HE := Lib.hid hE
  clear hall hr hE hq0 hbw hh hc hn hhW
  go_enter Try.func90, Try.ntmps90
  go_upto_region 1 with fail
  obtain ⟨w0, hw0⟩ : ∃ w0, W.alloc (.cells #[.int .i64 (j : Int)] 3) = w0 := ⟨_, rfl⟩
  rw [hw0] at q0 hk HE hBz ⊢
  refine ms90_wp rfl rfl rfl (fun W h => (h.cell (p := ⟨B, 0, none⟩) hBz).trans q0) hk ?_
  intro w3 e3
  simp only [Exit.then, puts, List.foldl_cons, List.foldl_nil, Act.put, List.setIfInBounds_toArray, List.set_cons_succ, List.set_cons_zero]
  go_at_K
  go_wp2
  go_ret
  exact ⟨rfl, HE.out.trans e3⟩

set_option maxHeartbeats 1000000 in
theorem missed_any {w : World} {b : Nat} {A : Option Addr} {n c : Nat} {A' : Option Addr} {n' c' : Nat} {A2 : Option Addr} {k2 c2 : Nat} {cs ms : List (Int × Int)} (hO : IsOpen w b A n c A' n' c' A2 k2 c2 cs ms) (h0 : sheetErr cs ms = 0)
    (A3 : Option Addr) (m c3 : Nat) (xs : List (Nat × Int)) (hm : m = xs.length) (hm9 : m ≤ 1000000) (hh : Held w w.heap.size 14 (encF cs ms) A3 xs) :
    Calls Try.prog 60 #[.pointer (some ⟨b, 0, none⟩), .slice A3 m c3] w fun e w' => ∃ v, e = .returned v ∧ Ext w w' ∧ MadeInts w.heap.size (numsTo (noneHas cs ms xs) n') w' v := by
  have hbl := (Array.getElem?_eq_some_iff.1 hO.row).1
  have hn12 : n' ≤ 12 := by have := (sheet_ok h0).1; have := hO.sheet.nms; omega
  have e90 : ∀ args w, (callFunc 90 args).run Try.prog w = .ok (.enter 90 args) w := enters_of Try.func90 (by kernel_rfl) rfl
  have eP : Ext w (w.alloc (.cells #[.slice A3 m c3] 87)) := ext_alloc _ _
  have hq := missedNum w.heap.size A3 m c3 cs ms xs hm hm9 n' hn12 (w.alloc (.cells #[.slice A3 m c3] 87)) (by simp) (cell_of_row _ _ _ _ _ _ (row_last _ _ _ rfl)) ((hh.kept eP (Nat.le_refl _)).wider eP.size)
  have ht := those_any (w := w.alloc (.cells #[.slice A3 m c3] 87)) (b := b) (by simp; omega) (hO.ext eP).cells.2.1 (by omega) 90 _ _ e90 _ hq
  have HE := Lib.hid eP
  clear hq eP hh hO hm
  go_enter Try.func60, Try.ntmps60
  go_wp2_with fail
  refine ht.mono ?_
  rintro e w1 ⟨v, rfl, hb1, hv⟩
  obtain ⟨A5, c5, hv2⟩ := owns_slice hv.1
  subst hv2
  go_wp2
  go_ret
  exact ⟨_, rfl, HE.out.trans hb1, hv.mono HE.out.size⟩
end Go.Proofs.Ytlaakmgdbhabfaa

/- Lost. -/
namespace Go.Proofs.Ytlaakmgdbhabfaa
open Go.RowKit Go.Shelf
attribute [local irreducible] bitCells fitCells Z94 fitOf

/-- What is lost of a sheet. -/
def lostOf (cs ms : List (Int × Int)) : List Int := numsTo (noneHas cs ms (fitsOf cs ms)) ms.length
/-- How a function that lists numbers of a sheet ends. -/
def SheetPost (_cs _ms : List (Int × Int)) (err : Int) (Made : Nat → World → Value → Prop) (w : World) (e : Ending) (w' : World) : Prop :=
  Ext w w' ∧ ((err ≠ 0 ∧ e = .returned (.tuple #[.slice none 0 0, .int .i64 err])) ∨ (err = 0 ∧ ∃ v, e = .returned (.tuple #[v, .int .i64 0]) ∧ Made w.heap.size w' v))

set_option maxRecDepth 100000 in
set_option maxHeartbeats 1000000 in
theorem lost_any {A : Option Addr} {n c : Nat} {A' : Option Addr} {n' c' : Nat} {cs ms : List (Int × Int)} {w : World} (hb : IsSheet w w.heap.size A n c A' n' c' cs ms) :
    Calls Try.prog 21 #[.agg #[.slice A n c, .slice A' n' c']] w (SheetPost cs ms (sheetErr cs ms) (fun B w' v => MadeInts B (lostOf cs ms) w' v) w) := by
  have e0 : Ext w (w.alloc (.cells #[.slice A n c, .slice A' n' c'] 25)) := ext_alloc _ _
  have hop := opened_any (hb.ext e0)
  have hnm := hb.nms
  have HE := Lib.hid e0
  have HN := Lib.hid hnm
  unfold SheetPost
  clear hb e0 hnm
  go_enter Try.func21, Try.ntmps21
  go_wp2_with fail
  refine hop.mono ?_
  rintro e w1 ⟨e1, ⟨h0, rfl⟩ | ⟨h0, b, A2, k, c2, rfl, hO⟩⟩
  · have HE1 := Lib.hid (HE.out.trans e1)
    obtain ⟨r, hr⟩ : ∃ r, sheetErr cs ms = r := ⟨_, rfl⟩
    rw [hr] at h0
    rw [hr]
    have hne : (r == 0) = false := by simpa using h0
    have hne2 : (r != 0) = true := by simpa using h0
    have HR := Lib.hid hr
    clear e1 hop hr
    go_wp2
    go_ret2
    exact ⟨HE1.out, .inl ⟨by rw [HR.out]; exact h0, by rw [HR.out]; rfl⟩⟩
  · have HE1 := Lib.hid (HE.out.trans e1)
    have hk : k ≤ 384 := by rw [hO.len]; exact fits_few h0
    have hms := missed_any hO h0 A2 k c2 (fitsOf cs ms) hO.len (by omega) hO.fits
    obtain ⟨q0, q1, q2⟩ := hO.cells
    have hbl := (Array.getElem?_eq_some_iff.1 hO.row).1
    have H0 := Lib.hid h0
    clear e1 hop hO h0
    go_wp2_with fail
    refine hms.mono ?_
    rintro e w2 ⟨v, rfl, e2, hv⟩
    obtain ⟨A5, c5, hv2⟩ := owns_slice hv.1
    subst hv2
    have HV := Lib.hid hv
    have HE2 := Lib.hid (HE1.out.trans e2)
    clear e2 hv hms q0 q1 q2
    go_wp2
    go_ret2
    refine ⟨HE2.out, .inr ⟨H0.out, _, rfl, ?_⟩⟩
    unfold lostOf
    rw [← HN.out]
    exact HV.out.mono HE1.out.size
end Go.Proofs.Ytlaakmgdbhabfaa

/- CheckRows. -/
namespace Go.Proofs.Ytlaakmgdbhabfaa
open Go.RowKit Go.Shelf
attribute [local irreducible] bitCells fitCells Z94 fitOf

/-- The error of rows. -/
noncomputable def rowsErr (cs ms ys : List (Int × Int)) : Int :=
  if sheetErr cs ms = 0 then
    if ys.length ≤ 20 then
      if (ys.all fun x => !strange cs.length x) = true then
        if ys.length ≤ (fittingOf cs ms ys).length then
          if ys.Nodup then
            if (numsTo (noneHas cs ms (fittingOf cs ms ys)) ms.length).length = 0 then 0 else 16
          else 15
        else 19
      else 2
    else 6
  else sheetErr cs ms

theorem fits_held {W : World} {base n c : Nat} {A : Option Addr} {cs ms : List (Int × Int)} {xs : List (Nat × Int)} (hx : n = xs.length) (h : W.ownsRow base 94 14 (.slice A n c) n (fitsCells cs ms xs)) : Held W W.heap.size 14 (encF cs ms) A xs ∧ n ≤ c :=
  own_held (encF_len cs ms) hx h
theorem owns_len {W : World} {base : Nat} {e : TypeId} {size n : Nat} {v : Value} {xs : List Value} (h : W.ownsRow base e size v n xs) : ∃ A c, v = .slice A n c := owns_slice h

set_option maxRecDepth 100000 in
set_option maxHeartbeats 2000000 in
theorem checkRows_any {A : Option Addr} {n c : Nat} {A' : Option Addr} {n' c' : Nat} {cs ms : List (Int × Int)} {w : World} (hb : IsSheet w w.heap.size A n c A' n' c' cs ms)
    (A3 : Option Addr) (m c3 : Nat) (ys : List (Int × Int)) (hm : m = ys.length) (hm9 : m ≤ 9223372036854775807) (hh : Held w w.heap.size 2 encS A3 ys) :
    Calls Try.prog 41 #[.agg #[.slice A n c, .slice A' n' c'], .slice A3 m c3] w fun e w' => e = .returned (.int .i64 (rowsErr cs ms ys)) ∧ Ext w w' := by
  have e0 : Ext w (w.alloc (.cells #[.slice A n c, .slice A' n' c'] 25)) := ext_alloc _ _
  have hop := opened_any (hb.ext e0)
  have HN := Lib.hid (And.intro hb.ncs (And.intro hb.nms hm))
  have HH := Lib.hid (hh.kept e0 (Nat.le_refl _))
  have HE := Lib.hid e0
  obtain ⟨ans, hans⟩ : ∃ ans, rowsErr cs ms ys = ans := ⟨_, rfl⟩
  have HA := Lib.hid hans
  rw [hans]
  have hHW := fun (W : World) (h : Ext (w.alloc (.cells #[.slice A n c, .slice A' n' c'] 25)) W) => ((((hh.kept e0 (Nat.le_refl _)).wider e0.size).kept h (Nat.le_refl _)).wider h.size : Held W W.heap.size 2 encS A3 ys)
  have HHW := Lib.hid hHW
  clear hb e0 hm hh hans hHW HH
  go_enter Try.func41, Try.ntmps41
  go_wp2_with fail
  refine hop.mono ?_
  rintro e w1 ⟨e1, ⟨h0, rfl⟩ | ⟨h0, b, A2, k, c2, rfl, hO⟩⟩
  · have HE1 := Lib.hid (HE.out.trans e1)
    obtain ⟨r, hr⟩ : ∃ r, sheetErr cs ms = r := ⟨_, rfl⟩
    rw [hr] at h0
    rw [hr]
    have hne : (r == 0) = false := by simpa using h0
    have hne2 : (r != 0) = true := by simpa using h0
    have hra : ans = r := by rw [← HA.out, rowsErr, hr, if_neg h0]
    subst hra
    clear e1 hop hr
    go_wp2
    go_ret
    exact ⟨rfl, HE1.out⟩
  · have HE1 := Lib.hid (HE.out.trans e1)
    have H1 := Lib.hid e1
    have HO := Lib.hid hO
    have H0 := Lib.hid h0
    have ha := HA.out
    rw [rowsErr, if_pos h0, ← HN.out.2.2, ← HN.out.1, ← HN.out.2.1] at ha
    have HA1 := Lib.hid ha
    clear e1 hop hO h0 ha
    by_cases hm20 : m ≤ 20
    · have ha := HA1.out
      rw [if_pos hm20] at ha
      have HA2 := Lib.hid ha
      have hmz : ¬ (20 : Int) < (m : Int) := by omega
      have hfit := fitting_any HO.out H0.out A3 m c3 ys HN.out.2.2 (by omega) (HHW.out _ H1.out)
      clear ha HA1
      go_wp2_with fail
      refine hfit.mono ?_
      rintro e w2 ⟨v, rfl, e2, hv⟩
      obtain ⟨A5, c5, hv2⟩ := owns_slice hv
      subst hv2
      obtain ⟨fs, hfs⟩ : ∃ fs, fittingOf cs ms ys = fs := ⟨_, rfl⟩
      have hfl : fs.length ≤ m := by rw [← hfs, HN.out.2.2]; exact List.length_filterMap_le _ _
      have ha := HA2.out
      rw [hfs] at hv ha ⊢
      have HA3 := Lib.hid ha
      obtain ⟨hfh, hfc⟩ := fits_held rfl hv
      obtain ⟨q, hq⟩ : ∃ q, fs.length = q := ⟨_, rfl⟩
      have HQ := Lib.hid hq
      rw [hq] at hfc hfl hv ⊢
      have HFH := Lib.hid hfh
      have hO2 := HO.out.ext e2
      have HO2 := Lib.hid hO2
      have HE2 := Lib.hid (HE1.out.trans e2)
      have H12 := Lib.hid (H1.out.trans e2)
      have hac := areCombs_any hO2 A3 m c3 ys HN.out.2.2 (by omega) (HHW.out _ H12.out)
      clear hfit ha HA2 hfs hv hq hfh e2 hO2
      cases hall : (ys.all fun x => !strange n x) with
      | false =>
        rw [hall] at hac
        have ha := HA3.out
        rw [if_neg (by rw [hall]; simp)] at ha
        subst ha
        go_wp2_with fail
        refine hac.mono ?_
        rintro e w3 ⟨rfl, e3⟩
        go_wp2
        go_ret
        exact ⟨rfl, HE2.out.trans e3⟩
      | true =>
        rw [hall] at hac
        have ha := HA3.out
        rw [if_pos hall] at ha
        have HA4 := Lib.hid ha
        clear ha HA3 hall
        go_wp2_with fail
        refine hac.mono ?_
        rintro e w3 ⟨rfl, e3⟩
        have HE3 := Lib.hid (HE2.out.trans e3)
        have H13 := Lib.hid (H12.out.trans e3)
        have HO3 := Lib.hid (HO2.out.ext e3)
        have HF3 := Lib.hid ((HFH.out.kept e3 (Nat.le_refl _)).wider e3.size)
        clear e3 hac
        by_cases hqm : m ≤ q
        · have hqz : ¬ (q : Int) < (m : Int) := by omega
          have ha := HA4.out
          rw [if_pos (by rw [HQ.out]; exact hqm)] at ha
          have HA5 := Lib.hid ha
          have htw := twiceRow A3 m c3 ys w3 HN.out.2.2 (by omega) (HHW.out _ H13.out)
          clear ha HA4
          by_cases hnd : ys.Nodup
          · have ha := HA5.out
            rw [if_pos hnd] at ha
            have HA6 := Lib.hid ha
            have hd : (!decide ys.Nodup) = false := by simp [hnd]
            rw [hd] at htw
            clear ha HA5 hd hnd
            go_wp2_with fail
            refine htw.mono ?_
            rintro e w4 ⟨rfl, e4⟩
            have HE4 := Lib.hid (HE3.out.trans e4)
            have hms := missed_any (HO3.out.ext e4) H0.out A5 q c5 fs HQ.out.symm (by omega) ((HF3.out.kept e4 (Nat.le_refl _)).wider e4.size)
            clear e4 htw
            go_wp2_with fail
            refine hms.mono ?_
            rintro e w5 ⟨v, rfl, e5, hv⟩
            have HE5 := Lib.hid (HE4.out.trans e5)
            obtain ⟨A6, c6, hv2⟩ := owns_slice hv.1
            subst hv2
            obtain ⟨L, hL⟩ : ∃ L, (numsTo (noneHas cs ms fs) n').length = L := ⟨_, rfl⟩
            have ha := HA6.out
            rw [hL] at ha ⊢
            clear hv hL e5 hms
            by_cases hL0 : L = 0
            · subst hL0
              rw [if_pos rfl] at ha
              subst ha
              go_wp2
              go_ret
              exact ⟨rfl, HE5.out⟩
            · rw [if_neg hL0] at ha
              subst ha
              have hLz : (0 : Int) < (L : Int) := by omega
              have hLn : 0 < L := by omega
              go_wp2
              go_ret
              exact ⟨rfl, HE5.out⟩
          · have ha := HA5.out
            rw [if_neg hnd] at ha
            subst ha
            have hd : (!decide ys.Nodup) = true := by simp [hnd]
            rw [hd] at htw
            clear hd hnd
            go_wp2_with fail
            refine htw.mono ?_
            rintro e w4 ⟨rfl, e4⟩
            go_wp2
            go_ret
            exact ⟨rfl, HE3.out.trans e4⟩
        · have hqz : (q : Int) < (m : Int) := by omega
          have hqn : q < m := by omega
          have ha := HA4.out
          rw [if_neg (by rw [HQ.out]; exact hqm)] at ha
          subst ha
          go_wp2
          go_ret
          exact ⟨rfl, HE3.out⟩
    · have ha := HA1.out
      rw [if_neg hm20] at ha
      subst ha
      have hmz : (20 : Int) < (m : Int) := by omega
      have hmn : 20 < m := by omega
      go_wp2
      go_ret
      exact ⟨rfl, HE1.out⟩
end Go.Proofs.Ytlaakmgdbhabfaa

/- Has. -/
namespace Go.Proofs.Ytlaakmgdbhabfaa
open Go.RowKit Go.Shelf
attribute [local irreducible] bitCells fitCells Z94 fitOf

/-- The error of a row. -/
noncomputable def hasErr (cs ms : List (Int × Int)) (y : Int × Int) : Int :=
  if sheetErr cs ms = 0 then if strange cs.length y = true then 2 else if fitFor cs ms y = none then 19 else 0 else sheetErr cs ms
/-- The marks that a row has. -/
def hasOf (cs ms : List (Int × Int)) (y : Int × Int) : List Int := (fitFor cs ms y).elim [] fun x => numsTo (hadB cs ms x.1 x.2) ms.length

theorem heldRow1 {w : World} {g : Nat} {y : Int × Int} (hg : g < w.heap.size) (h : w.cell? ⟨g, 0, none⟩ = some (.int .i64 y.1)) (h' : w.cell? ⟨g, 1, none⟩ = some (.int .i64 y.2)) : Held w w.heap.size 2 encS (some ⟨g, 0, none⟩) [y] := by
  refine .inr ⟨g, 0, rfl, hg, fun j x hx i v hv => ?_⟩
  match j, hx with
  | 0, hx =>
    obtain rfl : y = x := by simpa using hx
    match i, hv with
    | 0, hv =>
      obtain rfl : _ = v := by simpa [encS] using hv
      simpa using h
    | 1, hv =>
      obtain rfl : _ = v := by simpa [encS] using hv
      simpa using h'
    | i + 2, hv => simp [encS] at hv
  | j + 1, hx => simp at hx

set_option maxRecDepth 100000 in
set_option maxHeartbeats 2000000 in
theorem has2_any {A : Option Addr} {n c : Nat} {A' : Option Addr} {n' c' : Nat} {cs ms : List (Int × Int)} {w : World} (hb : IsSheet w w.heap.size A n c A' n' c' cs ms) (y : Int × Int) :
    Calls Try.prog 17 #[.agg #[.slice A n c, .slice A' n' c'], .agg #[.int .i64 y.1, .int .i64 y.2]] w (SheetPost cs ms (hasErr cs ms y) (fun B w' v => MadeInts B (hasOf cs ms y) w' v) w) := by
  have e0 : Ext w ((w.alloc (.cells #[.slice A n c, .slice A' n' c'] 25)).alloc (.cells #[.int .i64 y.1, .int .i64 y.2] 27)) := (ext_alloc _ _).trans (ext_alloc _ _)
  have hop := opened_any (hb.ext e0)
  have hr : ((w.alloc (.cells #[.slice A n c, .slice A' n' c'] 25)).alloc (.cells #[.int .i64 y.1, .int .i64 y.2] 27)).heap[w.heap.size + 1]? = some (.cells #[.int .i64 y.1, .int .i64 y.2] 27 (0, 0)) := row_last _ _ _ (by simp)
  have HN := Lib.hid (And.intro hb.ncs hb.nms)
  have HE := Lib.hid e0
  have HR := Lib.hid hr
  have hys : (hasErr cs ms y = if sheetErr cs ms = 0 then if strange n y = true then 2 else if fitFor cs ms y = none then 19 else 0 else sheetErr cs ms) := by rw [hb.ncs]; rfl
  obtain ⟨ans, hans⟩ : ∃ ans, hasErr cs ms y = ans := ⟨_, rfl⟩
  rw [hans] at hys
  have HA := Lib.hid hys
  unfold SheetPost
  rw [hans]
  clear hb e0 hys hans hr
  go_enter Try.func17, Try.ntmps17
  go_wp2_with fail
  refine hop.mono ?_
  rintro e w1 ⟨e1, ⟨h0, rfl⟩ | ⟨h0, b, A2, k, c2, rfl, hO⟩⟩
  · have HE1 := Lib.hid (HE.out.trans e1)
    obtain ⟨r, hr⟩ : ∃ r, sheetErr cs ms = r := ⟨_, rfl⟩
    rw [hr] at h0
    rw [hr]
    have hne : (r == 0) = false := by simpa using h0
    have hne2 : (r != 0) = true := by simpa using h0
    have hra : ans = r := by rw [HA.out, hr, if_neg h0]
    subst hra
    clear e1 hop hr
    go_wp2
    go_ret2
    exact ⟨HE1.out, .inl ⟨h0, rfl⟩⟩
  · have HE1 := Lib.hid (HE.out.trans e1)
    have hra := HA.out
    rw [if_pos h0] at hra
    have HA1 := Lib.hid hra
    have HO := Lib.hid hO
    have H0 := Lib.hid h0
    have hr1 := row_ext HR.out e1
    have p0 : w1.cell? ⟨w.heap.size + 1, 0, none⟩ = some (.int .i64 y.1) := cell_of_row _ _ _ _ _ _ hr1
    have p1 : w1.cell? ⟨w.heap.size + 1, 1, none⟩ = some (.int .i64 y.2) := cell_of_row _ _ _ _ _ _ hr1
    have e2 : Ext w1 (w1.alloc (.cells #[.int .i64 y.1, .int .i64 y.2] 27)) := ext_alloc _ _
    have hac := areCombs_any (HO.out.ext e2) (some ⟨w1.heap.size, 0, none⟩) 1 1 [y] rfl (by omega) (heldRow1 (by simp) (cell_of_row _ _ _ _ _ _ (row_last _ _ _ rfl)) (cell_of_row _ _ _ _ _ _ (row_last _ _ _ rfl)))
    have HR1 := Lib.hid hr1
    have hst : ([y].all fun x => !strange n x) = !strange n y := by simp
    rw [hst] at hac
    clear e1 hop hO h0 hra hr1 e2 hst HA
    cases hq : strange n y with
    | true =>
      rw [hq] at hac
      have hra := HA1.out
      rw [hq, if_pos rfl] at hra
      subst hra
      clear hq
      go_wp2_with fail
      refine hac.mono ?_
      rintro e w2 ⟨rfl, e2⟩
      have HE2 := Lib.hid ((HE1.out.trans (ext_alloc _ _)).trans e2)
      clear e2
      go_wp2
      go_ret2
      exact ⟨HE2.out, .inl ⟨by decide, rfl⟩⟩
    | false =>
      rw [hq] at hac
      have hra := HA1.out
      rw [hq, if_neg (by decide)] at hra
      have HA2 := Lib.hid hra
      clear hq hra HA1
      go_wp2_with fail
      refine hac.mono ?_
      rintro e w2 ⟨rfl, e2⟩
      have e12 := (ext_alloc w1 (.cells #[.int .i64 y.1, .int .i64 y.2] 27)).trans e2
      have HE2 := Lib.hid (HE1.out.trans e12)
      have HO2 := Lib.hid (HO.out.ext e12)
      have hr2 := row_ext HR1.out e12
      have HR2 := Lib.hid hr2
      clear e2 e12 p0 p1 hac
      have p0 : w2.cell? ⟨w.heap.size + 1, 0, none⟩ = some (.int .i64 y.1) := cell_of_row _ _ _ _ _ _ hr2
      have p1 : w2.cell? ⟨w.heap.size + 1, 1, none⟩ = some (.int .i64 y.2) := cell_of_row _ _ _ _ _ _ hr2
      have e3 : Ext w2 (w2.alloc (.cells #[.int .i64 y.1, .int .i64 y.2] 27)) := ext_alloc _ _
      have hfit := fitting_any (HO2.out.ext e3) H0.out (some ⟨w2.heap.size, 0, none⟩) 1 1 [y] rfl (by omega) (heldRow1 (by simp) (cell_of_row _ _ _ _ _ _ (row_last _ _ _ rfl)) (cell_of_row _ _ _ _ _ _ (row_last _ _ _ rfl)))
      clear hr2 e3
      go_wp2_with fail
      refine hfit.mono ?_
      rintro e w3 ⟨v, rfl, e3, hv⟩
      have HE3 := Lib.hid ((HE2.out.trans (ext_alloc _ _)).trans e3)
      have HO3 := Lib.hid ((HO2.out.ext (ext_alloc _ _)).ext e3)
      obtain ⟨A5, c5, hv2⟩ := owns_slice hv
      subst hv2
      have hra := HA2.out
      clear hfit p0 p1 e3
      cases hf : fitFor cs ms y with
      | none =>
        have hfo : fittingOf cs ms [y] = [] := by simp [fittingOf, hf]
        rw [hfo] at hv ⊢
        rw [if_pos hf] at hra
        subst hra
        clear hv hfo
        go_wp2
        go_ret2
        exact ⟨HE3.out, .inl ⟨by decide, rfl⟩⟩
      | some x =>
        have hfo : fittingOf cs ms [y] = [x] := by simp [fittingOf, hf]
        rw [hfo] at hv ⊢
        rw [if_neg (by rw [hf]; simp)] at hra
        subst hra
        have hof : hasOf cs ms y = numsTo (hadB cs ms x.1 x.2) ms.length := by simp [hasOf, hf]
        rw [← HN.out.2] at hof
        obtain ⟨hfh, _⟩ := fits_held (xs := [x]) rfl hv
        obtain ⟨b5, off5, rfl, hb5, hcell⟩ := cells_held hfh (k := 0) (x := x) rfl
        have hcell2 := marks_cells cs ms x w3 b5 (off5 + 0 * 14) hcell
        have hsz := bitCells_size (hadB cs ms x.1 x.2)
        obtain ⟨M, hM⟩ : ∃ M, hadB cs ms x.1 x.2 = M := ⟨_, rfl⟩
        rw [hM] at hcell2 hsz hof
        have HOF := Lib.hid hof
        have hn12 : n' ≤ 12 := by have := (sheet_ok H0.out).1; have := HN.out.2; omega
        have e57 : ∀ args w, (callFunc 57 args).run Try.prog w = .ok (.enter 57 args) w := enters_of Try.func57 (by kernel_rfl) rfl
        have hbl := (Array.getElem?_eq_some_iff.1 HO3.out.row).1
        have hth := those_any (w := w3) hbl HO3.out.cells.2.1 (by omega) 57 #[.agg (bitCells M)] #[] e57 M (fun W j hj hbw => by
          show Calls Try.prog 57 #[.agg (bitCells M), .int .i64 (j : Int)] W fun e w' => e = .returned (.bool (M j)) ∧ Below W.heap.size W w'
          exact has_any M j (by omega) W)
        obtain ⟨q, hqq⟩ : ∃ q, bitCells M = q := ⟨_, rfl⟩
        rw [hqq] at hcell2 hsz hth
        rw [show off5 + 0 * 14 = off5 from by omega] at hcell2
        clear hcell hfh hv hfo hf hof hM hqq
        go_wp2_with (first | refine wpList_load92_at (.tmp 32) rfl rfl _ rfl q hsz hcell2 ?_ | (refine hth.mono ?_; rintro e w4 ⟨v, rfl, e4, hv4⟩; obtain ⟨A6, c6, hv6⟩ := owns_slice hv4.1; subst hv6; have HV := Lib.hid hv4; have HE4 := Lib.hid (HE3.out.trans e4); clear hv4 e4))
        go_ret2
        exact ⟨HE4.out, ⟨_, rfl, by rw [HOF.out]; exact HV.out.mono HE3.out.size⟩⟩
end Go.Proofs.Ytlaakmgdbhabfaa

/- Places. -/
namespace Go.Proofs.Ytlaakmgdbhabfaa
open Go.RowKit Go.Shelf
attribute [local irreducible] bitCells fitCells Z94 fitOf

/-- A slice of 64-bit ints that the call made; nil just where it has none. -/
def MadeLongs (base : Nat) (xs : List Int) (w : World) (v : Value) : Prop := w.ownsRow base 2 1 v xs.length (xs.map (Value.int .i64)) ∧ (xs = [] → v = .slice none 0 0)
theorem MadeLongs.ext {base : Nat} {xs : List Int} {w w' : World} {v : Value} (h : MadeLongs base xs w v) (e : Ext w w') : MadeLongs base xs w' v := ⟨owns_ext h.1 e, h.2⟩
theorem MadeLongs.mono {base base' : Nat} {xs : List Int} {w : World} {v : Value} (h : MadeLongs base xs w v) (hb : base' ≤ base) : MadeLongs base' xs w v := ⟨owns_mono h.1 hb, h.2⟩
theorem info2 : (Try.prog.info? 2).map (fun i => (i.zero, i.size, i.bytes)) = some (some (.int .i64 0), 1, 8) := by kernel_rfl
/-- The places of the rows of the comb q. -/
def placesOf (q : Int) (xs : List (Nat × Int)) : List Int := xs.filterMap fun x => if (x.1 : Int) = q then some x.2 else none
theorem placesOf_succ (q : Int) (xs : List (Nat × Int)) (k : Nat) (hk : k < xs.length) : placesOf q (xs.take (k + 1)) = placesOf q (xs.take k) ++ (if (xs[k].1 : Int) = q then [xs[k].2] else []) := by
  unfold placesOf
  rw [List.take_succ_eq_append_getElem hk, List.filterMap_append]
  by_cases h : (xs[k].1 : Int) = q <;> simp [h]
theorem placesOf_len (q : Int) (xs : List (Nat × Int)) (k : Nat) : (placesOf q (xs.take k)).length ≤ k := Nat.le_trans (List.length_filterMap_le _ _) (by simp; omega)
/-- The error of a comb's number. -/
noncomputable def placesErr (cs ms : List (Int × Int)) (q : Int) : Int := if sheetErr cs ms = 0 then if strange cs.length (q, 0) = true then 2 else 0 else sheetErr cs ms

set_option maxRecDepth 100000 in
set_option maxHeartbeats 4000000 in
theorem places_any {A : Option Addr} {n c : Nat} {A' : Option Addr} {n' c' : Nat} {cs ms : List (Int × Int)} {w : World} (hb : IsSheet w w.heap.size A n c A' n' c' cs ms) (q : Int) :
    Calls Try.prog 19 #[.agg #[.slice A n c, .slice A' n' c'], .int .i64 q] w (SheetPost cs ms (placesErr cs ms q) (fun B w' v => MadeLongs B (placesOf q (fitsOf cs ms)) w' v) w) := by
  have e0 : Ext w (w.alloc (.cells #[.slice A n c, .slice A' n' c'] 25)) := ext_alloc _ _
  have hop := opened_any (hb.ext e0)
  have HN := Lib.hid (And.intro hb.ncs hb.nms)
  have HE := Lib.hid e0
  have hys : (placesErr cs ms q = if sheetErr cs ms = 0 then if strange n (q, 0) = true then 2 else 0 else sheetErr cs ms) := by rw [hb.ncs]; rfl
  obtain ⟨ans, hans⟩ : ∃ ans, placesErr cs ms q = ans := ⟨_, rfl⟩
  rw [hans] at hys
  have HA := Lib.hid hys
  obtain ⟨i0, hi, hz0, hz1, hz2⟩ := info_parts info2
  have HI := Lib.hid (And.intro hi (And.intro hz0 (And.intro hz1 hz2)))
  unfold SheetPost
  rw [hans]
  clear hb e0 hys hans hi hz0 hz1 hz2
  go_enter Try.func19, Try.ntmps19
  go_wp2_with fail
  refine hop.mono ?_
  rintro e w1 ⟨e1, ⟨h0, rfl⟩ | ⟨h0, b, A2, k2, c2, rfl, hO⟩⟩
  · have HE1 := Lib.hid (HE.out.trans e1)
    obtain ⟨r, hr⟩ : ∃ r, sheetErr cs ms = r := ⟨_, rfl⟩
    rw [hr] at h0
    rw [hr]
    have hne : (r == 0) = false := by simpa using h0
    have hne2 : (r != 0) = true := by simpa using h0
    have hra : ans = r := by rw [HA.out, hr, if_neg h0]
    subst hra
    clear e1 hop hr
    go_wp2
    go_ret2
    exact ⟨HE1.out, .inl ⟨h0, rfl⟩⟩
  · have HE1 := Lib.hid (HE.out.trans e1)
    have hra := HA.out
    rw [if_pos h0] at hra
    have HA1 := Lib.hid hra
    have HO := Lib.hid hO
    have H0 := Lib.hid h0
    have e2 : Ext w1 (w1.alloc (.cells #[.int .i64 q, .int .i64 0] 27)) := ext_alloc _ _
    have hac := areCombs_any (HO.out.ext e2) (some ⟨w1.heap.size, 0, none⟩) 1 1 [(q, 0)] rfl (by omega) (heldRow1 (by simp) (cell_of_row _ _ _ _ _ _ (row_last _ _ _ rfl)) (cell_of_row _ _ _ _ _ _ (row_last _ _ _ rfl)))
    have hst : ([(q, (0 : Int))].all fun x => !strange n x) = !strange n (q, 0) := by simp
    rw [hst] at hac
    clear e1 hop hO h0 hra e2 hst HA
    cases hq : strange n (q, 0) with
    | true =>
      rw [hq] at hac
      have hra := HA1.out
      rw [hq, if_pos rfl] at hra
      subst hra
      clear hq
      go_wp2_with fail
      refine hac.mono ?_
      rintro e w2 ⟨rfl, e2⟩
      have HE2 := Lib.hid ((HE1.out.trans (ext_alloc _ _)).trans e2)
      clear e2
      go_wp2
      go_ret2
      exact ⟨HE2.out, .inl ⟨by decide, rfl⟩⟩
    | false =>
      rw [hq] at hac
      have hra := HA1.out
      rw [hq, if_neg (by decide)] at hra
      subst hra
      clear hq HA1
      go_wp2_with fail
      refine hac.mono ?_
      rintro e w2 ⟨rfl, e2⟩
      have e12 := (ext_alloc w1 (.cells #[.int .i64 q, .int .i64 0] 27)).trans e2
      have HE2 := Lib.hid (HE1.out.trans e12)
      have HO2 := Lib.hid (HO.out.ext e12)
      have hfew := fits_few H0.out
      have hkk : k2 ≤ 384 := by have := HO.out.len; omega
      clear e2 e12 hac
      obtain ⟨q0, q1, q2⟩ := HO2.out.cells
      go_wp2
      go_loopw [8, 10, 30] (fun v _ i wr => ∃ k : Nat, k ≤ k2 ∧ i = .int .i64 k ∧ Hid (Ext w2 wr) ∧ Hid (MadeLongs w2.heap.size (placesOf q ((fitsOf cs ms).take k)) wr v)) (fun _ _ i _ => k2 - (intOf i).toNat)
      case atStart => exact ⟨0, Nat.zero_le _, rfl, Lib.hid (Ext.refl _), Lib.hid ⟨World.ownsRow_nil _ _ _ _, fun _ => rfl⟩⟩
      case round =>
        obtain ⟨k, hk, rfl, hB, hO⟩ := hrel
        have hsz := hB.out.size
        clear q0 q1 q2
        by_cases hlt : k < k2
        · have hltz : (k : Int) < (k2 : Int) := by omega
          have hkf : k < (fitsOf cs ms).length := by have := HO.out.len; omega
          obtain ⟨x, hx⟩ : ∃ x, (fitsOf cs ms)[k] = x := ⟨_, rfl⟩
          have hs := placesOf_succ q (fitsOf cs ms) k hkf
          rw [hx] at hs
          have hl := placesOf_len q (fitsOf cs ms) k
          obtain ⟨b5, off5, rfl, hb5, hcell⟩ := cells_held (HO2.out.ext hB.out).fits (k := k) (x := x) (by rw [List.getElem?_eq_getElem hkf, hx])
          obtain ⟨f0, f1, _⟩ := fitOf_get cs ms x
          have hsf := fitOf_size cs ms x
          have h1 := fitOf_one cs ms x
          obtain ⟨f, hf⟩ : ∃ f, fitOf cs ms x = f := ⟨_, rfl⟩
          rw [hf] at hcell f0 f1 hsf h1
          have hst4 := store_new94 wr f hsf h1
          have c0 : (wr.alloc (.cells f 94)).cell? ⟨wr.heap.size, 0, none⟩ = some (.int .i64 (x.1 : Int)) := (cell_of_row _ _ _ _ _ _ (row_last _ _ _ rfl)).trans f0
          have c1 : (wr.alloc (.cells f 94)).cell? ⟨wr.heap.size, 1, none⟩ = some (.int .i64 x.2) := (cell_of_row _ _ _ _ _ _ (row_last _ _ _ rfl)).trans f1
          have hO1 := hO.out.ext (ext_alloc wr (.cells f 94))
          have hE1 : Ext w2 (wr.alloc (.cells f 94)) := hB.out.trans (ext_alloc _ _)
          have hz1 := hE1.size
          clear hf hx f0 f1
          by_cases hxq : (x.1 : Int) = q
          · rw [if_pos hxq] at hs
            have HS := Lib.hid hs
            have hxb : ((x.1 : Int) == q) = true := by simpa using hxq
            have oA := hO1.1.alloc (.cells #[.int .i64 x.2] 2)
            clear hs hxq
            go_wp2_with (first | refine wpList_alloc94 rfl rfl ?_ | refine wpList_load94 (.tmp 32) rfl rfl _ rfl f hsf hcell ?_ | (at_builtin; refine wpList_append_own _ rfl (.tmp 39) (.tmp 43) 34 rfl w2.heap.size 2 i0 (.int .i64 0) 1 8 ?_ ?_ ?_ ?_ ?_ ?_ ?_ u8 _ ((placesOf q ((fitsOf cs ms).take k)).map (Value.int .i64)) rfl oA ⟨(wr.alloc (.cells f 94)).heap.size, 0, none⟩ 1 1 [.int .i64 x.2] (by simp [go_sem]) ?_ ?_ ?_ ?_ ?_ ?_ ?_; exact Try.underlying34; exact HI.out.1; exact HI.out.2.1; exact HI.out.2.2.1; exact HI.out.2.2.2; rfl; decide; rfl; exact cell_one_new _ _ _; exact one_cell' _; (unfold maxLen; omega); omega; (simp at hz1 ⊢; omega); intro v' w4 hown' hg4 _; have HW := Lib.hid hown'; have hE4 := Lib.hid (((hE1.alloc hz1 (.cells #[.int .i64 x.2] 2)).grown hg4 (by simp at hz1 ⊢; omega) (fun b e => (oA.lt b e).1)) : Ext w2 w4); clear hown' hg4 oA hO1))
            go_roundw
            case measure => simp [intOf]; omega
            case rel =>
              refine ⟨k + 1, by omega, by go_num, hE4, Lib.hid ⟨?_, fun e => by rw [HS.out] at e; simp at e⟩⟩
              rw [HS.out, List.length_append, List.map_append]
              exact HW.out
          · rw [if_neg hxq, List.append_nil] at hs
            have HS := Lib.hid hs
            have hxb : ((x.1 : Int) == q) = false := by simpa using hxq
            have HO1 := Lib.hid hO1
            have HE1' := Lib.hid hE1
            clear hs hO1 hE1
            go_wp2_with (first | refine wpList_alloc94 rfl rfl ?_ | refine wpList_load94 (.tmp 32) rfl rfl _ rfl f hsf hcell ?_)
            go_roundw
            case measure => simp [intOf]; omega
            case rel => exact ⟨k + 1, by omega, by go_num, HE1', by rw [HS.out]; exact HO1⟩
        · have hltz : ¬ (k : Int) < (k2 : Int) := by omega
          obtain rfl : k = k2 := by omega
          have hO1 := hO.out
          rw [List.take_of_length_le (by have := HO.out.len; omega)] at hO1
          obtain ⟨A5, c5, hv⟩ := owns_slice hO1.1
          subst hv
          have HOO := Lib.hid hO1
          clear hO1 hO
          go_wp2
          go_ret2
          exact ⟨HE2.out.trans hB.out, ⟨_, rfl, HOO.out.mono HE2.out.size⟩⟩
end Go.Proofs.Ytlaakmgdbhabfaa

/- openedWhole. -/
namespace Go.Proofs.Ytlaakmgdbhabfaa
open Go.RowKit Go.Shelf
attribute [local irreducible] bitCells fitCells Z94 fitOf

/-- The error of a sheet of which no mark may be lost. -/
def wholeErr (cs ms : List (Int × Int)) : Int := if sheetErr cs ms = 0 then if (lostOf cs ms).length = 0 then 0 else 19 else sheetErr cs ms

set_option maxRecDepth 100000 in
set_option maxHeartbeats 1000000 in
theorem openedWhole_any {A : Option Addr} {n c : Nat} {A' : Option Addr} {n' c' : Nat} {cs ms : List (Int × Int)} {w : World} (hb : IsSheet w w.heap.size A n c A' n' c' cs ms) :
    Calls Try.prog 74 #[.agg #[.slice A n c, .slice A' n' c']] w fun e w' => Ext w w' ∧ ((wholeErr cs ms ≠ 0 ∧ e = .returned (.tuple #[.pointer none, .int .i64 (wholeErr cs ms)])) ∨
      (wholeErr cs ms = 0 ∧ sheetErr cs ms = 0 ∧ ∃ b A2 k c2, e = .returned (.tuple #[.pointer (some ⟨b, 0, none⟩), .int .i64 0]) ∧ IsOpen w' b A n c A' n' c' A2 k c2 cs ms)) := by
  have e0 : Ext w (w.alloc (.cells #[.slice A n c, .slice A' n' c'] 25)) := ext_alloc _ _
  have hop := opened_any (hb.ext e0)
  have hnm := hb.nms
  have HE := Lib.hid e0
  have HN := Lib.hid hnm
  obtain ⟨ans, hans⟩ : ∃ ans, wholeErr cs ms = ans := ⟨_, rfl⟩
  have HA := Lib.hid hans
  rw [hans]
  clear hb e0 hnm hans
  go_enter Try.func74, Try.ntmps74
  go_wp2_with fail
  refine hop.mono ?_
  rintro e w1 ⟨e1, ⟨h0, rfl⟩ | ⟨h0, b, A2, k, c2, rfl, hO⟩⟩
  · have HE1 := Lib.hid (HE.out.trans e1)
    obtain ⟨r, hr⟩ : ∃ r, sheetErr cs ms = r := ⟨_, rfl⟩
    rw [hr] at h0
    rw [hr]
    have hne : (r == 0) = false := by simpa using h0
    have hne2 : (r != 0) = true := by simpa using h0
    have hra : ans = r := by rw [← HA.out, wholeErr, hr, if_neg h0]
    subst hra
    clear e1 hop hr
    go_wp2
    go_ret2
    exact ⟨HE1.out, .inl ⟨h0, rfl⟩⟩
  · have HE1 := Lib.hid (HE.out.trans e1)
    have hk : k ≤ 384 := by rw [hO.len]; exact fits_few h0
    have hms := missed_any hO h0 A2 k c2 (fitsOf cs ms) hO.len (by omega) hO.fits
    obtain ⟨q0, q1, q2⟩ := hO.cells
    have hbl := (Array.getElem?_eq_some_iff.1 hO.row).1
    have H0 := Lib.hid h0
    have HO := Lib.hid hO
    clear e1 hop hO h0
    go_wp2_with fail
    refine hms.mono ?_
    rintro e w2 ⟨v, rfl, e2, hv⟩
    obtain ⟨A5, c5, hv2⟩ := owns_slice hv.1
    subst hv2
    have HE2 := Lib.hid (HE1.out.trans e2)
    have HO2 := Lib.hid (HO.out.ext e2)
    have ha := HA.out
    rw [wholeErr, if_pos H0.out, lostOf, ← HN.out] at ha
    obtain ⟨L, hL⟩ : ∃ L, (numsTo (noneHas cs ms (fitsOf cs ms)) n').length = L := ⟨_, rfl⟩
    rw [hL] at ha ⊢
    clear e2 hv hms q0 q1 q2 hL
    by_cases hL0 : L = 0
    · subst hL0
      rw [if_pos rfl] at ha
      subst ha
      go_wp2
      go_ret2
      exact ⟨HE2.out, H0.out, _, rfl, _, _, _, HO2.out⟩
    · rw [if_neg hL0] at ha
      subst ha
      have hLz : (0 : Int) < (L : Int) := by omega
      have hLn : 0 < L := by omega
      go_wp2
      go_ret2
      exact ⟨HE2.out, .inl ⟨by decide, rfl⟩⟩
end Go.Proofs.Ytlaakmgdbhabfaa

/- areApart. -/
namespace Go.Proofs.Ytlaakmgdbhabfaa
open Go.RowKit Go.Shelf
attribute [local irreducible] bitCells fitCells Z94 fitOf

def encN (j : Nat) : List Value := [.int .i64 (j : Int)]
/-- Whether marks have more than one of js. -/
def crowded (M : Nat → Bool) (js : List Nat) : Bool := decide (1 < (js.filter M).length)
theorem filter_succ (M : Nat → Bool) (js : List Nat) (k : Nat) (hk : k < js.length) : ((js.take (k + 1)).filter M).length = ((js.take k).filter M).length + (if M js[k] = true then 1 else 0) := by
  rw [List.take_succ_eq_append_getElem hk, List.filter_append, List.length_append]
  cases h : M js[k] <;> simp [h]

set_option maxRecDepth 100000 in
set_option maxHeartbeats 2000000 in
theorem crowdedFit (B : Nat) (A : Option Addr) (n c : Nat) (js : List Nat) (cs ms : List (Int × Int)) (xs : List (Nat × Int)) (w : World) (hn : n = js.length) (hn9 : n ≤ 1000000) (hj : ∀ j, j ∈ js → j < 12) (hB : B < w.heap.size) (hc : w.cell? ⟨B, 0, none⟩ = some (.slice A n c)) (hh : Held w w.heap.size 1 encN A js) :
    PredOn 96 #[.pointer (some ⟨B, 0, none⟩)] (fun x => .agg (fitOf cs ms x)) (fun x => crowded (hadB cs ms x.1 x.2) js) xs w := fun W x hx hbw => by
  have hq0 := (hbw.cell (p := ⟨B, 0, none⟩) hB).trans hc
  have hcell := marks_cells cs ms x (W.alloc (.cells (fitOf cs ms x) 94)) W.heap.size 0 (cells_new W (fitOf cs ms x) 94)
  show Calls Try.prog 96 #[.agg (fitOf cs ms x), .pointer (some ⟨B, 0, none⟩)] W fun e w' => e = .returned (.bool (crowded (hadB cs ms x.1 x.2) js)) ∧ Below W.heap.size W w'
  obtain ⟨f, hf⟩ : ∃ f, fitOf cs ms x = f := ⟨_, rfl⟩
  rw [hf] at hcell ⊢
  obtain ⟨M, hM⟩ : ∃ M, hadB cs ms x.1 x.2 = M := ⟨_, rfl⟩
  rw [hM] at hcell ⊢
  obtain ⟨ans, hans⟩ : ∃ ans, crowded M js = ans := ⟨_, rfl⟩
  have HANS := Lib.hid hans
  rw [hans]
  have hE := ext_alloc W (.cells f 94)
  have q0 : (W.alloc (.cells f 94)).cell? ⟨B, 0, none⟩ = some (.slice A n c) := ((ext_alloc W _).cell (p := ⟨B, 0, none⟩) (by have := hbw.size; show B < W.heap.size; omega)).trans hq0
  have hhW : Held (W.alloc (.cells f 94)) (W.alloc (.cells f 94)).heap.size 1 encN A js := (((hh.kept hbw (Nat.le_refl _)).wider hbw.size).kept hE (Nat.le_refl _)).wider hE.size
  have hbit : ∀ j, j < 12 → (W.alloc (.cells f 94)).cell? ⟨W.heap.size, 2 + j, none⟩ = some (.int .i64 (if M j = true then 1 else 0)) := fun j hj => by
    have := hcell j (.int .i64 (if M j = true then 1 else 0)) (by rw [Array.getElem?_toList, bitCells_get M j hj])
    have e2 : (⟨W.heap.size, 0 + 2, none⟩ : Addr).add j = ⟨W.heap.size, 2 + j, none⟩ := by unfold Addr.add; split <;> simp_all
    rwa [e2] at this
  have HBIT := Lib.hid hbit
  have HH := Lib.hid hhW
  have HE := Lib.hid hE
  have HN := Lib.hid hn
  have HJ := Lib.hid hj
  clear hf hM hx hbw hq0 hc hE hcell hbit hhW hh hn hj hans
  go_enter Try.func96, Try.ntmps96
  go_wp2_with (first | refine wpList_box94 (.tmp 0) rfl rfl f rfl ?_)
  obtain ⟨W0, hW0⟩ : ∃ W0, W.alloc (.cells f 94) = W0 := ⟨_, rfl⟩
  rw [hW0] at HBIT HH HE q0 ⊢
  obtain ⟨p, hp⟩ : ∃ p, W.heap.size = p := ⟨_, rfl⟩
  rw [hp] at HBIT ⊢
  have HP := Lib.hid hp
  clear hW0 hp
  go_loopw [4, 6, 9] (fun s _ i wr => wr = W0 ∧ ∃ k : Nat, k ≤ n ∧ i = .int .i64 k ∧ s = .int .i64 (((js.take k).filter M).length : Int)) (fun _ _ i _ => n - (intOf i).toNat)
  case atStart => exact ⟨rfl, 0, Nat.zero_le _, rfl, rfl⟩
  case round =>
    obtain ⟨rfl, k, hk, rfl, rfl⟩ := hrel
    have hl : ((js.take k).filter M).length ≤ k := Nat.le_trans (List.length_filter_le _ _) (by simp; omega)
    by_cases hlt : k < n
    · have hltz : (k : Int) < (n : Int) := by omega
      have hkl : k < js.length := by have := HN.out; omega
      obtain ⟨j, hj⟩ : ∃ j, js[k] = j := ⟨_, rfl⟩
      have hs := filter_succ M js k hkl
      rw [hj] at hs
      have hj12 := HJ.out j (by rw [← hj]; exact List.getElem_mem hkl)
      have hc1 : ∃ b off, A = some ⟨b, off, none⟩ ∧ wr.cell? ⟨b, off + k, none⟩ = some (.int .i64 (j : Int)) := by
        rcases HH.out with h | ⟨b, off, rfl, hlt', hc⟩
        · simp [h] at hkl
        · refine ⟨b, off, rfl, ?_⟩
          have := hc k j (by rw [List.getElem?_eq_getElem hkl, hj]) 0 _ rfl
          simpa using this
      obtain ⟨b, off, rfl, hc1⟩ := hc1
      have hc2 := HBIT.out j hj12
      have hjz : (j : Int) < 12 := by omega
      obtain ⟨S, hS⟩ : ∃ S, ((js.take k).filter M).length = S := ⟨_, rfl⟩
      rw [hS] at hs hl ⊢
      have HSS := Lib.hid hs
      clear hS hs
      cases hm : M j with
      | true =>
        rw [hm, if_pos rfl] at hc2
        have hs2 := HSS.out
        rw [hm, if_pos rfl] at hs2
        have HS2 := Lib.hid hs2
        clear hs2 hm
        go_wp2
        go_roundw
        case measure => simp [intOf]; omega
        case rel => exact ⟨trivial, k + 1, by omega, by go_num, by rw [HS2.out]; go_num⟩
      | false =>
        rw [hm, if_neg (by decide)] at hc2
        have hs2 := HSS.out
        rw [hm, if_neg (by decide)] at hs2
        have HS2 := Lib.hid hs2
        clear hs2 hm
        go_wp2
        go_roundw
        case measure => simp [intOf]; omega
        case rel => exact ⟨trivial, k + 1, by omega, by go_num, by rw [HS2.out]; go_num⟩
    · have hltz : ¬ (k : Int) < (n : Int) := by omega
      obtain rfl : k = n := by omega
      have hcr : crowded M js = decide (1 < ((js.take k).filter M).length) := by rw [List.take_of_length_le (by have := HN.out; omega)]; rfl
      obtain ⟨S, hS⟩ : ∃ S, ((js.take k).filter M).length = S := ⟨_, rfl⟩
      rw [hS] at hcr hl ⊢
      have ha := HANS.out
      rw [hcr] at ha
      clear hcr hS
      by_cases h1 : 1 < S
      · have h1z : (1 : Int) < (S : Int) := by omega
        rw [decide_eq_true h1] at ha
        subst ha
        go_wp2
        go_ret
        exact ⟨rfl, HE.out⟩
      · have h1z : ¬ (1 : Int) < (S : Int) := by omega
        rw [decide_eq_false h1] at ha
        subst ha
        go_wp2
        go_ret
        exact ⟨rfl, HE.out⟩

/-- The slots of region 2 of function 68. -/
def ap68D (i : Nat) : Tmp := if i = 0 then 7 else if i = 1 then 8 else if i = 2 then 9 else if i = 3 then 10 else if i = 4 then 11 else if i = 5 then 12 else if i = 6 then 13 else if i = 7 then 14 else if i = 8 then 15 else if i = 9 then 16 else if i = 10 then 17 else if i = 11 then 18 else 4
/-- What each operation yields. -/
def ap68V (b p : Nat) (A2 : Option Addr) (k2 c2 : Nat) (r : Nat) (ix : Nat) : Value :=
  match ix with
  | 0 => .pointer (some ⟨b, 0, none⟩)
  | 1 => .pointer (some ⟨b, 0, none⟩)
  | 2 => .pointer (some ⟨b, 2, none⟩)
  | 3 => .slice A2 k2 c2
  | 4 => .func (.func 96) #[] #[.pointer (some ⟨p, 0, none⟩)]
  | 5 => .int .i64 (r : Int)
  | 6 => .pointer (some ⟨b, 0, none⟩)
  | 7 => .pointer (some ⟨b, 0, none⟩)
  | 8 => .pointer (some ⟨b, 2, none⟩)
  | 9 => .slice A2 k2 c2
  | 10 => .int .i64 (k2 : Int)
  | 11 => .bool ((r : Int) == (k2 : Int))
  | _ => .bool ((r : Int) == (k2 : Int))
noncomputable def ap68Reg : Array Oper := (Try.f68.body.bind (regionOf · 2)).getD #[]
def ap68Ok (b p : Nat) (A2 : Option Addr) (k2 c2 : Nat) (r : Nat) (Q : Exit → Act → World → Prop) (a : Act) (W : World) (ix : Nat) (o : Oper) : Prop :=
  (∀ j b, o.guard = some (j, b) → a.eval (.tmp (ap68D j)) = .bool b) ∧ o.wp Try.prog a W (fun a'' W' => ∃ v, a'' = a.put o.dst v ∧ v = ap68V b p A2 k2 c2 r ix ∧ Below W.heap.size W W') Q
section
variable {b p : Nat} {A2 : Option Addr} {k2 c2 : Nat} {r : Nat} {Q : Exit → Act → World → Prop} {a : Act} {V W : World} {o : Oper}
theorem ap68_op0 (o0 : a.eval (.tmp 0) = .pointer (some ⟨b, 0, none⟩)) (ho : ap68Reg[0]? = some o) : ap68Ok b p A2 k2 c2 r Q a W 0 o := by
  have hop := op_at ho (·.op) (x := Op.move (Operand.tmp 0)) (by kernel_rfl)
  have hgd := op_at ho (·.guard) (x := none) (by kernel_rfl)
  refine ⟨fun j b h => (by rw [hgd] at h; cases h), ?_⟩
  exact specs_value (R := fun v _ => v = ap68V b p A2 k2 c2 r 0) (v := .pointer (some ⟨b, 0, none⟩)) (by simp [execOp, hop, go_sem, ev o0]) rfl (Ext.refl W)
theorem ap68_op1 (haft : ∀ j, (o.after.any fun e => decide (e.on = j) && Region.binds .any e) = true → a.eval (.tmp (ap68D j)) = ap68V b p A2 k2 c2 r j) (ho : ap68Reg[1]? = some o) : ap68Ok b p A2 k2 c2 r Q a W 1 o := by
  have hop := op_at ho (·.op) (x := Op.nilCheck (Operand.tmp 7)) (by kernel_rfl)
  have hgd := op_at ho (·.guard) (x := none) (by kernel_rfl)
  have e0 : a.eval (.tmp 7) = .pointer (some ⟨b, 0, none⟩) := haft 0 (op_at ho (fun o => o.after.any fun e => decide (e.on = 0) && Region.binds .any e) (x := true) (by kernel_rfl))
  refine ⟨fun j b h => (by rw [hgd] at h; cases h), ?_⟩
  exact specs_value (R := fun v _ => v = ap68V b p A2 k2 c2 r 1) (v := .pointer (some ⟨b, 0, none⟩)) (by simp [execOp, hop, go_sem, ev e0]) rfl (Ext.refl W)
theorem ap68_op2 (haft : ∀ j, (o.after.any fun e => decide (e.on = j) && Region.binds .any e) = true → a.eval (.tmp (ap68D j)) = ap68V b p A2 k2 c2 r j) (ho : ap68Reg[2]? = some o) : ap68Ok b p A2 k2 c2 r Q a W 2 o := by
  have hop := op_at ho (·.op) (x := Op.fieldAddr 98 (Operand.tmp 8) 1) (by kernel_rfl)
  have hgd := op_at ho (·.guard) (x := none) (by kernel_rfl)
  have e1 : a.eval (.tmp 8) = .pointer (some ⟨b, 0, none⟩) := haft 1 (op_at ho (fun o => o.after.any fun e => decide (e.on = 1) && Region.binds .any e) (x := true) (by kernel_rfl))
  refine ⟨fun j b h => (by rw [hgd] at h; cases h), ?_⟩
  exact specs_value (R := fun v _ => v = ap68V b p A2 k2 c2 r 2) (v := .pointer (some ⟨b, 2, none⟩)) (by simp [execOp, hop, go_sem, ev e1]) rfl (Ext.refl W)
theorem ap68_op3 (q2 : ∀ W, Ext V W → W.cell? ⟨b, 2, none⟩ = some (.slice A2 k2 c2)) (hB : Ext V W) (haft : ∀ j, (o.after.any fun e => decide (e.on = j) && Region.binds .any e) = true → a.eval (.tmp (ap68D j)) = ap68V b p A2 k2 c2 r j) (ho : ap68Reg[3]? = some o) : ap68Ok b p A2 k2 c2 r Q a W 3 o := by
  have hop := op_at ho (·.op) (x := Op.load 87 (Operand.tmp 9)) (by kernel_rfl)
  have hgd := op_at ho (·.guard) (x := none) (by kernel_rfl)
  have e2 : a.eval (.tmp 9) = .pointer (some ⟨b, 2, none⟩) := haft 2 (op_at ho (fun o => o.after.any fun e => decide (e.on = 2) && Region.binds .any e) (x := true) (by kernel_rfl))
  refine ⟨fun j b h => (by rw [hgd] at h; cases h), ?_⟩
  have q2' := q2 W hB
  exact specs_value (R := fun v _ => v = ap68V b p A2 k2 c2 r 3) (v := .slice A2 k2 c2) (by simp [execOp, hop, go_sem, ev e2, q2']) rfl (Ext.refl W)
theorem ap68_op4 (o5 : a.eval (.tmp 5) = .func (.func 96) #[] #[.pointer (some ⟨p, 0, none⟩)]) (ho : ap68Reg[4]? = some o) : ap68Ok b p A2 k2 c2 r Q a W 4 o := by
  have hop := op_at ho (·.op) (x := Op.move (Operand.tmp 5)) (by kernel_rfl)
  have hgd := op_at ho (·.guard) (x := none) (by kernel_rfl)
  refine ⟨fun j b h => (by rw [hgd] at h; cases h), ?_⟩
  exact specs_value (R := fun v _ => v = ap68V b p A2 k2 c2 r 4) (v := .func (.func 96) #[] #[.pointer (some ⟨p, 0, none⟩)]) (by simp [execOp, hop, go_sem, ev o5]) rfl (Ext.refl W)
theorem ap68_op5 (k88 : ∀ W, Ext V W → Calls Try.prog 88 #[.slice A2 k2 c2, .func (.func 96) #[] #[.pointer (some ⟨p, 0, none⟩)]] W fun e w' => e = .returned (.int .i64 (r : Int)) ∧ Below W.heap.size W w') (hB : Ext V W) (haft : ∀ j, (o.after.any fun e => decide (e.on = j) && Region.binds .any e) = true → a.eval (.tmp (ap68D j)) = ap68V b p A2 k2 c2 r j) (ho : ap68Reg[5]? = some o) : ap68Ok b p A2 k2 c2 r Q a W 5 o := by
  have hop := op_at ho (·.op) (x := Op.call { callee := Callee.value (Operand.func 88), args := #[Operand.tmp 10, Operand.tmp 11], argTypes := #[87, 133] }) (by kernel_rfl)
  have hgd := op_at ho (·.guard) (x := none) (by kernel_rfl)
  have e3 : a.eval (.tmp 10) = .slice A2 k2 c2 := haft 3 (op_at ho (fun o => o.after.any fun e => decide (e.on = 3) && Region.binds .any e) (x := true) (by kernel_rfl))
  have e4 : a.eval (.tmp 11) = .func (.func 96) #[] #[.pointer (some ⟨p, 0, none⟩)] := haft 4 (op_at ho (fun o => o.after.any fun e => decide (e.on = 4) && Region.binds .any e) (x := true) (by kernel_rfl))
  refine ⟨fun j b h => (by rw [hgd] at h; cases h), ?_⟩
  exact specs_call (R := fun v _ => v = ap68V b p A2 k2 c2 r 5) (f := 88) (args := #[.slice A2 k2 c2, .func (.func 96) #[] #[.pointer (some ⟨p, 0, none⟩)]]) (by simp [execOp, hop, go_sem, ev e3, ev e4]) ((k88 W hB).mono fun e w' h => ⟨_, h.1, rfl, h.2⟩)
theorem ap68_op6 (o0 : a.eval (.tmp 0) = .pointer (some ⟨b, 0, none⟩)) (ho : ap68Reg[6]? = some o) : ap68Ok b p A2 k2 c2 r Q a W 6 o := by
  have hop := op_at ho (·.op) (x := Op.move (Operand.tmp 0)) (by kernel_rfl)
  have hgd := op_at ho (·.guard) (x := none) (by kernel_rfl)
  refine ⟨fun j b h => (by rw [hgd] at h; cases h), ?_⟩
  exact specs_value (R := fun v _ => v = ap68V b p A2 k2 c2 r 6) (v := .pointer (some ⟨b, 0, none⟩)) (by simp [execOp, hop, go_sem, ev o0]) rfl (Ext.refl W)
theorem ap68_op7 (haft : ∀ j, (o.after.any fun e => decide (e.on = j) && Region.binds .any e) = true → a.eval (.tmp (ap68D j)) = ap68V b p A2 k2 c2 r j) (ho : ap68Reg[7]? = some o) : ap68Ok b p A2 k2 c2 r Q a W 7 o := by
  have hop := op_at ho (·.op) (x := Op.nilCheck (Operand.tmp 13)) (by kernel_rfl)
  have hgd := op_at ho (·.guard) (x := none) (by kernel_rfl)
  have e6 : a.eval (.tmp 13) = .pointer (some ⟨b, 0, none⟩) := haft 6 (op_at ho (fun o => o.after.any fun e => decide (e.on = 6) && Region.binds .any e) (x := true) (by kernel_rfl))
  refine ⟨fun j b h => (by rw [hgd] at h; cases h), ?_⟩
  exact specs_value (R := fun v _ => v = ap68V b p A2 k2 c2 r 7) (v := .pointer (some ⟨b, 0, none⟩)) (by simp [execOp, hop, go_sem, ev e6]) rfl (Ext.refl W)
theorem ap68_op8 (haft : ∀ j, (o.after.any fun e => decide (e.on = j) && Region.binds .any e) = true → a.eval (.tmp (ap68D j)) = ap68V b p A2 k2 c2 r j) (ho : ap68Reg[8]? = some o) : ap68Ok b p A2 k2 c2 r Q a W 8 o := by
  have hop := op_at ho (·.op) (x := Op.fieldAddr 98 (Operand.tmp 14) 1) (by kernel_rfl)
  have hgd := op_at ho (·.guard) (x := none) (by kernel_rfl)
  have e7 : a.eval (.tmp 14) = .pointer (some ⟨b, 0, none⟩) := haft 7 (op_at ho (fun o => o.after.any fun e => decide (e.on = 7) && Region.binds .any e) (x := true) (by kernel_rfl))
  refine ⟨fun j b h => (by rw [hgd] at h; cases h), ?_⟩
  exact specs_value (R := fun v _ => v = ap68V b p A2 k2 c2 r 8) (v := .pointer (some ⟨b, 2, none⟩)) (by simp [execOp, hop, go_sem, ev e7]) rfl (Ext.refl W)
theorem ap68_op9 (q2 : ∀ W, Ext V W → W.cell? ⟨b, 2, none⟩ = some (.slice A2 k2 c2)) (hB : Ext V W) (haft : ∀ j, (o.after.any fun e => decide (e.on = j) && Region.binds .any e) = true → a.eval (.tmp (ap68D j)) = ap68V b p A2 k2 c2 r j) (ho : ap68Reg[9]? = some o) : ap68Ok b p A2 k2 c2 r Q a W 9 o := by
  have hop := op_at ho (·.op) (x := Op.load 87 (Operand.tmp 15)) (by kernel_rfl)
  have hgd := op_at ho (·.guard) (x := none) (by kernel_rfl)
  have e8 : a.eval (.tmp 15) = .pointer (some ⟨b, 2, none⟩) := haft 8 (op_at ho (fun o => o.after.any fun e => decide (e.on = 8) && Region.binds .any e) (x := true) (by kernel_rfl))
  refine ⟨fun j b h => (by rw [hgd] at h; cases h), ?_⟩
  have q2' := q2 W hB
  exact specs_value (R := fun v _ => v = ap68V b p A2 k2 c2 r 9) (v := .slice A2 k2 c2) (by simp [execOp, hop, go_sem, ev e8, q2']) rfl (Ext.refl W)
theorem ap68_op10 (haft : ∀ j, (o.after.any fun e => decide (e.on = j) && Region.binds .any e) = true → a.eval (.tmp (ap68D j)) = ap68V b p A2 k2 c2 r j) (ho : ap68Reg[10]? = some o) : ap68Ok b p A2 k2 c2 r Q a W 10 o := by
  have hop := op_at ho (·.op) (x := Op.call { callee := Callee.builtin Builtin.len, args := #[Operand.tmp 16], argTypes := #[87] }) (by kernel_rfl)
  have hgd := op_at ho (·.guard) (x := none) (by kernel_rfl)
  have e9 : a.eval (.tmp 16) = .slice A2 k2 c2 := haft 9 (op_at ho (fun o => o.after.any fun e => decide (e.on = 9) && Region.binds .any e) (x := true) (by kernel_rfl))
  refine ⟨fun j b h => (by rw [hgd] at h; cases h), ?_⟩
  exact specs_value (R := fun v _ => v = ap68V b p A2 k2 c2 r 10) (v := .int .i64 (k2 : Int)) (by simp [execOp, hop, go_sem, ev e9]) rfl (Ext.refl W)
theorem ap68_op11 (haft : ∀ j, (o.after.any fun e => decide (e.on = j) && Region.binds .any e) = true → a.eval (.tmp (ap68D j)) = ap68V b p A2 k2 c2 r j) (ho : ap68Reg[11]? = some o) : ap68Ok b p A2 k2 c2 r Q a W 11 o := by
  have hop := op_at ho (·.op) (x := Op.binOp BinOp.eql 3 (Operand.tmp 12) (Operand.tmp 17) 3) (by kernel_rfl)
  have hgd := op_at ho (·.guard) (x := none) (by kernel_rfl)
  have e5 : a.eval (.tmp 12) = .int .i64 (r : Int) := haft 5 (op_at ho (fun o => o.after.any fun e => decide (e.on = 5) && Region.binds .any e) (x := true) (by kernel_rfl))
  have e10 : a.eval (.tmp 17) = .int .i64 (k2 : Int) := haft 10 (op_at ho (fun o => o.after.any fun e => decide (e.on = 10) && Region.binds .any e) (x := true) (by kernel_rfl))
  refine ⟨fun j b h => (by rw [hgd] at h; cases h), ?_⟩
  exact specs_value (R := fun v _ => v = ap68V b p A2 k2 c2 r 11) (v := .bool ((r : Int) == (k2 : Int))) (by simp [execOp, hop, go_sem, ev e5, ev e10]) rfl (Ext.refl W)
theorem ap68_op12 (haft : ∀ j, (o.after.any fun e => decide (e.on = j) && Region.binds .any e) = true → a.eval (.tmp (ap68D j)) = ap68V b p A2 k2 c2 r j) (ho : ap68Reg[12]? = some o) : ap68Ok b p A2 k2 c2 r Q a W 12 o := by
  have hop := op_at ho (·.op) (x := Op.assign (Operand.tmp 18)) (by kernel_rfl)
  have hgd := op_at ho (·.guard) (x := none) (by kernel_rfl)
  have e11 : a.eval (.tmp 18) = .bool ((r : Int) == (k2 : Int)) := haft 11 (op_at ho (fun o => o.after.any fun e => decide (e.on = 11) && Region.binds .any e) (x := true) (by kernel_rfl))
  refine ⟨fun j b h => (by rw [hgd] at h; cases h), ?_⟩
  exact specs_value (R := fun v _ => v = ap68V b p A2 k2 c2 r 12) (v := .bool ((r : Int) == (k2 : Int))) (by simp [execOp, hop, go_sem, ev e11]) rfl (Ext.refl W)
set_option maxRecDepth 100000 in
set_option maxHeartbeats 4000000 in
/-- Region 2 of function 68. -/
theorem ap68_wp {id : Nat} (hlen : a.tmps.size = 19) (o0 : a.eval (.tmp 0) = .pointer (some ⟨b, 0, none⟩)) (o5 : a.eval (.tmp 5) = .func (.func 96) #[] #[.pointer (some ⟨p, 0, none⟩)]) (q2 : ∀ W, Ext V W → W.cell? ⟨b, 2, none⟩ = some (.slice A2 k2 c2)) (k88 : ∀ W, Ext V W → Calls Try.prog 88 #[.slice A2 k2 c2, .func (.func 96) #[] #[.pointer (some ⟨p, 0, none⟩)]] W fun e w' => e = .returned (.int .i64 (r : Int)) ∧ Below W.heap.size W w') (K : ∀ W, Ext V W → Q .normal (puts a [(7, .pointer (some ⟨b, 0, none⟩)), (8, .pointer (some ⟨b, 0, none⟩)), (9, .pointer (some ⟨b, 2, none⟩)), (10, .slice A2 k2 c2), (11, .func (.func 96) #[] #[.pointer (some ⟨p, 0, none⟩)]), (12, .int .i64 (r : Int)), (13, .pointer (some ⟨b, 0, none⟩)), (14, .pointer (some ⟨b, 0, none⟩)), (15, .pointer (some ⟨b, 2, none⟩)), (16, .slice A2 k2 c2), (17, .int .i64 (k2 : Int)), (18, .bool ((r : Int) == (k2 : Int))), (4, .bool ((r : Int) == (k2 : Int)))]) W) : (Code.region id ap68Reg true).wp Try.prog Q a V := by
  refine wp_region_specs_free (ops := ap68Reg) 13 (fun i v _ => v = ap68V b p A2 k2 c2 r i) (Ext V) (by kernel_rfl) (by rw [hlen]; kernel_rfl) (by kernel_rfl) ⟨rfl, rfl, rfl, Nat.le_refl _, fun _ _ => rfl⟩ (fun _ _ h e => h.trans e) (fun _ _ _ _ h _ => h) ap68D (by kernel_rfl) ?_ ?_
  · intro i o hi ho a' W hB hsz hold haft
    match i, hi with
    | 0, _ => exact ap68_op0 ((hold 0 (by kernel_rfl)).trans o0) ho
    | 1, _ => exact ap68_op1 haft ho
    | 2, _ => exact ap68_op2 haft ho
    | 3, _ => exact ap68_op3 q2 hB haft ho
    | 4, _ => exact ap68_op4 ((hold 5 (by kernel_rfl)).trans o5) ho
    | 5, _ => exact ap68_op5 k88 hB haft ho
    | 6, _ => exact ap68_op6 ((hold 0 (by kernel_rfl)).trans o0) ho
    | 7, _ => exact ap68_op7 haft ho
    | 8, _ => exact ap68_op8 haft ho
    | 9, _ => exact ap68_op9 q2 hB haft ho
    | 10, _ => exact ap68_op10 haft ho
    | 11, _ => exact ap68_op11 haft ho
    | 12, _ => exact ap68_op12 haft ho
    | m + 13, h => exact absurd h (by omega)
  · intro a1 W hB hsz hdf hold hS
    have hall : ∀ z, z ∈ ([(7, .pointer (some ⟨b, 0, none⟩)), (8, .pointer (some ⟨b, 0, none⟩)), (9, .pointer (some ⟨b, 2, none⟩)), (10, .slice A2 k2 c2), (11, .func (.func 96) #[] #[.pointer (some ⟨p, 0, none⟩)]), (12, .int .i64 (r : Int)), (13, .pointer (some ⟨b, 0, none⟩)), (14, .pointer (some ⟨b, 0, none⟩)), (15, .pointer (some ⟨b, 2, none⟩)), (16, .slice A2 k2 c2), (17, .int .i64 (k2 : Int)), (18, .bool ((r : Int) == (k2 : Int))), (4, .bool ((r : Int) == (k2 : Int)))] : List (Tmp × Value)) → z.1 < a.tmps.size ∧ a1.eval (.tmp z.1) = z.2 := by
      intro z hz
      rw [hlen]
      simp only [List.mem_cons, List.not_mem_nil, or_false] at hz
      rcases hz with rfl | rfl | rfl | rfl | rfl | rfl | rfl | rfl | rfl | rfl | rfl | rfl | rfl
      · exact ⟨(show (7 : Nat) < 19 by omega), hS 0 (by omega)⟩
      · exact ⟨(show (8 : Nat) < 19 by omega), hS 1 (by omega)⟩
      · exact ⟨(show (9 : Nat) < 19 by omega), hS 2 (by omega)⟩
      · exact ⟨(show (10 : Nat) < 19 by omega), hS 3 (by omega)⟩
      · exact ⟨(show (11 : Nat) < 19 by omega), hS 4 (by omega)⟩
      · exact ⟨(show (12 : Nat) < 19 by omega), hS 5 (by omega)⟩
      · exact ⟨(show (13 : Nat) < 19 by omega), hS 6 (by omega)⟩
      · exact ⟨(show (14 : Nat) < 19 by omega), hS 7 (by omega)⟩
      · exact ⟨(show (15 : Nat) < 19 by omega), hS 8 (by omega)⟩
      · exact ⟨(show (16 : Nat) < 19 by omega), hS 9 (by omega)⟩
      · exact ⟨(show (17 : Nat) < 19 by omega), hS 10 (by omega)⟩
      · exact ⟨(show (18 : Nat) < 19 by omega), hS 11 (by omega)⟩
      · exact ⟨(show (4 : Nat) < 19 by omega), hS 12 (by omega)⟩
    have ha := act_puts hsz hdf hall (fun t ht => hold t (all_ne_of (l := [(7, .pointer (some ⟨b, 0, none⟩)), (8, .pointer (some ⟨b, 0, none⟩)), (9, .pointer (some ⟨b, 2, none⟩)), (10, .slice A2 k2 c2), (11, .func (.func 96) #[] #[.pointer (some ⟨p, 0, none⟩)]), (12, .int .i64 (r : Int)), (13, .pointer (some ⟨b, 0, none⟩)), (14, .pointer (some ⟨b, 0, none⟩)), (15, .pointer (some ⟨b, 2, none⟩)), (16, .slice A2 k2 c2), (17, .int .i64 (k2 : Int)), (18, .bool ((r : Int) == (k2 : Int))), (4, .bool ((r : Int) == (k2 : Int)))]) (by kernel_rfl) ht))
    have he : ap68Reg.toList.drop 13 = [] := List.drop_eq_nil_of_le (by rw [Array.length_toList]; exact Nat.le_of_eq (by kernel_rfl))
    rw [he, ha]
    exact K W hB
end

/-- Whether no row that fits has two of js. -/
def apartB (cs ms : List (Int × Int)) (js : List Nat) : Bool := (fitsOf cs ms).all fun x => !crowded (hadB cs ms x.1 x.2) js
set_option maxRecDepth 100000 in
set_option maxHeartbeats 1000000 in
theorem areApart_any {w : World} {b : Nat} {A : Option Addr} {n c : Nat} {A' : Option Addr} {n' c' : Nat} {A2 : Option Addr} {k2 c2 : Nat} {cs ms : List (Int × Int)} (hO : IsOpen w b A n c A' n' c' A2 k2 c2 cs ms) (h0 : sheetErr cs ms = 0)
    (A3 : Option Addr) (m c3 : Nat) (js : List Nat) (hm : m = js.length) (hm9 : m ≤ 1000000) (hj : ∀ j, j ∈ js → j < 12) (hh : Held w w.heap.size 1 encN A3 js) :
    Calls Try.prog 68 #[.pointer (some ⟨b, 0, none⟩), .slice A3 m c3] w fun e w' => e = .returned (.bool (apartB cs ms js)) ∧ Ext w w' := by
  have e96 : ∀ args w, (callFunc 96 args).run Try.prog w = .ok (.enter 96 args) w := enters_of Try.func96 (by kernel_rfl) rfl
  have hE := ext_alloc w (.cells #[.slice A3 m c3] 30)
  have hfew := fits_few h0
  have hlen := hO.len
  have qp : (w.alloc (.cells #[.slice A3 m c3] 30)).cell? ⟨w.heap.size, 0, none⟩ = some (.slice A3 m c3) := cell_of_row _ _ _ _ _ _ (row_last _ _ _ rfl)
  have hpz : w.heap.size < (w.alloc (.cells #[.slice A3 m c3] 30)).heap.size := by simp
  have hO0 := hO.ext hE
  have hh0 : Held (w.alloc (.cells #[.slice A3 m c3] 30)) (w.alloc (.cells #[.slice A3 m c3] 30)).heap.size 1 encN A3 js := (hh.kept hE (Nat.le_refl _)).wider hE.size
  have hall : (((fitsOf cs ms).findIdx (fun x => crowded (hadB cs ms x.1 x.2) js) : Int) == (k2 : Int)) = apartB cs ms js := by
    unfold apartB
    rw [hlen, ← all_of_findIdx]
    simp
  obtain ⟨r, hr⟩ : ∃ r, (fitsOf cs ms).findIdx (fun x => crowded (hadB cs ms x.1 x.2) js) = r := ⟨_, rfl⟩
  rw [hr] at hall
  rw [← hall]
  have hk : ∀ V, Ext (w.alloc (.cells #[.slice A3 m c3] 30)) V → Calls Try.prog 88 #[.slice A2 k2 c2, .func (.func 96) #[] #[.pointer (some ⟨w.heap.size, 0, none⟩)]] V fun e w' => e = .returned (.int .i64 (r : Int)) ∧ Below V.heap.size V w' := fun V hV => by
    rw [← hr]
    exact firstFit 96 _ e96 (fun x => crowded (hadB cs ms x.1 x.2) js) A2 k2 c2 cs ms (fitsOf cs ms) V hlen (by omega) (hO0.ext hV).fits (crowdedFit _ A3 m c3 js cs ms (fitsOf cs ms) V hm hm9 hj (Nat.lt_of_lt_of_le hpz hV.size) ((hV.cell (p := ⟨w.heap.size, 0, none⟩) hpz).trans qp) ((hh0.kept hV (Nat.le_refl _)).wider hV.size))
  have HE := Lib.hid hE
  have HO0 := Lib.hid hO0
  clear hall hr hE hh hh0 hO hO0 qp hpz hm hlen
  go_enter Try.func68, Try.ntmps68
  go_upto_region 2 with fail
  obtain ⟨w0, hw0⟩ : ∃ w0, w.alloc (.cells #[.slice A3 m c3] 30) = w0 := ⟨_, rfl⟩
  rw [hw0] at hk HE HO0 ⊢
  refine ap68_wp rfl rfl rfl (fun W h => (HO0.out.ext h).cells.2.2) hk ?_
  intro w3 e3
  simp only [Exit.then, puts, List.foldl_cons, List.foldl_nil, Act.put, List.setIfInBounds_toArray, List.set_cons_succ, List.set_cons_zero]
  go_at_K
  go_wp2
  go_ret
  exact ⟨rfl, HE.out.trans e3⟩
end Go.Proofs.Ytlaakmgdbhabfaa

/- CheckApart. -/
namespace Go.Proofs.Ytlaakmgdbhabfaa
open Go.RowKit Go.Shelf
attribute [local irreducible] bitCells fitCells Z94 fitOf

/-- Whether numbers rise from f on and stay below n. -/
def rising (n : Nat) : Int → List Int → Bool
  | _, [] => true
  | f, x :: xs => decide (f ≤ x) && decide (x < (n : Int)) && rising n (x + 1) xs
theorem rising_at (n : Nat) (f : Int) (xs : List Int) (k : Nat) (hk : k < xs.length) : rising n f (xs.drop k) = (decide (f ≤ xs[k]) && decide (xs[k] < (n : Int)) && rising n (xs[k] + 1) (xs.drop (k + 1))) := by
  rw [List.drop_eq_getElem_cons hk]
  rfl
theorem rising_all {n : Nat} : ∀ {f : Int} {xs : List Int}, rising n f xs = true → (∀ x, x ∈ xs → f ≤ x ∧ x < (n : Int)) ∧ (xs = [] ∨ f + xs.length ≤ n)
  | f, [], _ => ⟨fun x hx => by simp at hx, .inl rfl⟩
  | f, x :: xs, h => by
    simp only [rising, Bool.and_eq_true, decide_eq_true_eq] at h
    obtain ⟨⟨h1, h2⟩, h3⟩ := h
    obtain ⟨i1, i2⟩ := rising_all h3
    refine ⟨fun y hy => ?_, .inr ?_⟩
    · rcases List.mem_cons.1 hy with rfl | hy
      · exact ⟨h1, h2⟩
      · have := i1 y hy; omega
    · rcases i2 with rfl | i2
      · simp; omega
      · simp only [List.length_cons]; omega
theorem held_nums {w : World} {B : Nat} {A : Option Addr} {xs : List Int} (h : Held w B 1 encI A xs) (hx : ∀ x, x ∈ xs → 0 ≤ x) : Held w B 1 encN A (xs.map Int.toNat) := by
  rcases h with rfl | ⟨b, off, rfl, hlt, hc⟩
  · exact .inl rfl
  · refine .inr ⟨b, off, rfl, hlt, fun j y hy i v hv => ?_⟩
    rw [List.getElem?_map] at hy
    obtain ⟨x, hxx, rfl⟩ := Option.map_eq_some_iff.1 hy
    have h0 := hx x (List.mem_of_getElem? hxx)
    refine hc j x hxx i v ?_
    unfold encN at hv
    rw [Int.toNat_of_nonneg h0] at hv
    exact hv

/-- The error of marks that are to be apart. -/
def apartErr (cs ms : List (Int × Int)) (xs : List Int) : Int :=
  if sheetErr cs ms = 0 then if rising ms.length 0 xs = true then if apartB cs ms (xs.map Int.toNat) = true then 0 else 14 else 3 else sheetErr cs ms

set_option maxRecDepth 100000 in
set_option maxHeartbeats 2000000 in
theorem checkApart_any {A : Option Addr} {n c : Nat} {A' : Option Addr} {n' c' : Nat} {cs ms : List (Int × Int)} {w : World} (hb : IsSheet w w.heap.size A n c A' n' c' cs ms)
    (A3 : Option Addr) (m c3 : Nat) (xs : List Int) (hm : m = xs.length) (hm9 : m ≤ 9223372036854775807) (hh : Held w w.heap.size 1 encI A3 xs) :
    Calls Try.prog 30 #[.agg #[.slice A n c, .slice A' n' c'], .slice A3 m c3] w fun e w' => e = .returned (.int .i64 (apartErr cs ms xs)) ∧ Ext w w' := by
  have e0 : Ext w (w.alloc (.cells #[.slice A n c, .slice A' n' c'] 25)) := ext_alloc _ _
  have hop := opened_any (hb.ext e0)
  have HN := Lib.hid (And.intro hb.ncs (And.intro hb.nms hm))
  have HE := Lib.hid e0
  obtain ⟨ans, hans⟩ : ∃ ans, apartErr cs ms xs = ans := ⟨_, rfl⟩
  have HA := Lib.hid hans
  rw [hans]
  have hHW := fun (W : World) (h : Ext (w.alloc (.cells #[.slice A n c, .slice A' n' c'] 25)) W) => ((((hh.kept e0 (Nat.le_refl _)).wider e0.size).kept h (Nat.le_refl _)).wider h.size : Held W W.heap.size 1 encI A3 xs)
  have HHW := Lib.hid hHW
  clear hb e0 hm hh hans hHW
  go_enter Try.func30, Try.ntmps30
  go_wp2_with fail
  refine hop.mono ?_
  rintro e w1 ⟨e1, ⟨h0, rfl⟩ | ⟨h0, b, A2, k2, c2, rfl, hO⟩⟩
  · have HE1 := Lib.hid (HE.out.trans e1)
    obtain ⟨r, hr⟩ : ∃ r, sheetErr cs ms = r := ⟨_, rfl⟩
    rw [hr] at h0
    rw [hr]
    have hne : (r == 0) = false := by simpa using h0
    have hne2 : (r != 0) = true := by simpa using h0
    have hra : ans = r := by rw [← HA.out, apartErr, hr, if_neg h0]
    subst hra
    clear e1 hop hr
    go_wp2
    go_ret
    exact ⟨rfl, HE1.out⟩
  · have HE1 := Lib.hid (HE.out.trans e1)
    have hH1 := HHW.out _ e1
    have HH1 := Lib.hid hH1
    have HO := Lib.hid hO
    have H0 := Lib.hid h0
    have ha := HA.out
    rw [apartErr, if_pos h0, ← HN.out.2.1] at ha
    have HA1 := Lib.hid ha
    have hn12 : n' ≤ 12 := by have := (sheet_ok h0).1; have := HN.out.2.1; omega
    obtain ⟨q0, q1, q2⟩ := hO.cells
    have hbl := (Array.getElem?_eq_some_iff.1 hO.row).1
    clear e1 hop hO h0 ha hH1 HA
    go_wp2
    go_loopw [7, 9, 20] (fun f _ i wr => wr = w1 ∧ ∃ (k : Nat) (fr : Int), k ≤ m ∧ i = .int .i64 k ∧ f = .int .i64 fr ∧ 0 ≤ fr ∧ fr ≤ n' ∧ Hid (rising n' 0 xs = rising n' fr (xs.drop k))) (fun _ _ i _ => m - (intOf i).toNat)
    case atStart => exact ⟨rfl, 0, 0, Nat.zero_le _, rfl, rfl, Int.le_refl _, by omega, Lib.hid (by rw [List.drop_zero])⟩
    case round =>
      obtain ⟨rfl, k, fr, hk, rfl, rfl, hf0, hfn, hR⟩ := hrel
      by_cases hlt : k < m
      · have hltz : (k : Int) < (m : Int) := by omega
        have hkl : k < xs.length := by have := HN.out.2.2; omega
        have hra := rising_at n' fr xs k hkl
        obtain ⟨x, hx⟩ : ∃ x, xs[k] = x := ⟨_, rfl⟩
        have hc1 : ∃ b off, A3 = some ⟨b, off, none⟩ ∧ wr.cell? ⟨b, off + k, none⟩ = some (.int .i64 x) := by
          rcases HH1.out with h | ⟨b, off, rfl, hlt', hc⟩
          · simp [h] at hkl
          · refine ⟨b, off, rfl, ?_⟩
            have := hc k x (by rw [List.getElem?_eq_getElem hkl, hx]) 0 _ rfl
            simpa using this
        obtain ⟨b5, off5, rfl, hc1⟩ := hc1
        rw [hx] at hra
        have HRA := Lib.hid hra
        clear hra hx
        by_cases h1 : x < fr
        · have ha := HA1.out
          rw [hR.out, HRA.out, decide_eq_false (by omega : ¬ fr ≤ x), Bool.false_and, Bool.false_and, if_neg (by decide)] at ha
          subst ha
          go_wp2
          go_ret
          exact ⟨rfl, HE1.out⟩
        · by_cases h2 : (n' : Int) ≤ x
          · have ha := HA1.out
            rw [hR.out, HRA.out, decide_eq_false (by omega : ¬ x < (n' : Int)), Bool.and_false, Bool.false_and, if_neg (by decide)] at ha
            subst ha
            go_wp2
            go_ret
            exact ⟨rfl, HE1.out⟩
          · have hs := hR.out
            rw [HRA.out, decide_eq_true (by omega : fr ≤ x), decide_eq_true (by omega : x < (n' : Int)), Bool.true_and, Bool.true_and] at hs
            have HS := Lib.hid hs
            clear hs
            go_wp2
            go_roundw
            case measure => simp [intOf]; omega
            case rel => exact ⟨trivial, k + 1, x + 1, by omega, by go_num, by go_num, by omega, by omega, HS⟩
      · have hltz : ¬ (k : Int) < (m : Int) := by omega
        obtain rfl : k = m := by omega
        have hr := hR.out
        rw [List.drop_of_length_le (by have := HN.out.2.2; omega)] at hr
        have hr2 : rising n' 0 xs = true := hr
        have ha := HA1.out
        rw [if_pos hr2] at ha
        have HA2 := Lib.hid ha
        obtain ⟨hall, hlen⟩ := rising_all hr2
        have hkm : k ≤ 12 := by
          have := HN.out.2.2
          rcases hlen with h | h
          · rw [h] at this; simp at this; omega
          · omega
        have hap := areApart_any HO.out H0.out A3 k c3 (xs.map Int.toNat) (by rw [List.length_map]; exact HN.out.2.2) (by omega) (fun j hj => by
          obtain ⟨x, hx, rfl⟩ := List.mem_map.1 hj
          have := hall x hx
          omega) (held_nums HH1.out fun x hx => (hall x hx).1)
        clear hr hr2 ha hall hlen HA1 hR
        cases hB : apartB cs ms (xs.map Int.toNat) with
        | true =>
          rw [hB] at hap
          have ha := HA2.out
          rw [if_pos hB] at ha
          subst ha
          clear hB
          go_wp2_with fail
          refine hap.mono ?_
          rintro e w2 ⟨rfl, e2⟩
          go_wp2
          go_ret
          exact ⟨rfl, HE1.out.trans e2⟩
        | false =>
          rw [hB] at hap
          have ha := HA2.out
          rw [if_neg (by rw [hB]; decide)] at ha
          subst ha
          clear hB
          go_wp2_with fail
          refine hap.mono ?_
          rintro e w2 ⟨rfl, e2⟩
          go_wp2
          go_ret
          exact ⟨rfl, HE1.out.trans e2⟩
end Go.Proofs.Ytlaakmgdbhabfaa

/- A round of Spaces. -/
namespace Go.Proofs.Ytlaakmgdbhabfaa
open Go.RowKit Go.Shelf


def spD (i : Nat) : Tmp := if i = 0 then 37 else if i = 1 then 38 else if i = 2 then 39 else if i = 3 then 40 else if i = 4 then 41 else if i = 5 then 42 else if i = 6 then 43 else if i = 7 then 44 else if i = 8 then 45 else if i = 9 then 46 else if i = 10 then 47 else if i = 11 then 48 else if i = 12 then 49 else if i = 13 then 50 else if i = 14 then 51 else if i = 15 then 115 else if i = 16 then 52 else 117
def spV (p g : Nat) (lo hi ml mh back : Int) (ix : Nat) : Value :=
  match ix with
  | 0 => .pointer (some ⟨p, 0, none⟩)
  | 1 => .int .i64 lo
  | 2 => .pointer (some ⟨g, 0, none⟩)
  | 3 => .int .i64 ml
  | 4 => .int .i64 back
  | 5 => .int .i64 (ml - back)
  | 6 => .int .i64 (max lo (ml - back))
  | 7 => .pointer (some ⟨p, 1, none⟩)
  | 8 => .int .i64 hi
  | 9 => .pointer (some ⟨g, 1, none⟩)
  | 10 => .int .i64 mh
  | 11 => .int .i64 back
  | 12 => .int .i64 (mh - back)
  | 13 => .int .i64 (min hi (mh - back))
  | 14 => .pointer (some ⟨p, 0, none⟩)
  | 15 => undef
  | 16 => .pointer (some ⟨p, 1, none⟩)
  | _ => undef
noncomputable def spReg : Array Oper := (Try.f36.body.bind (regionOf · 14)).getD #[]
/-- What the round's variables hold while the operations of its region are listed: L. -/
structure SpMem (p g : Nat) (lo hi ml mh back : Int) (L : Nat → Bool) (a : Act) (W : World) : Prop where
  got : ∀ i, i < 18 → i ≠ 15 → i ≠ 17 → L i = true → a.eval (.tmp (spD i)) = spV p g lo hi ml mh back i
  at_ : W.heap[p]? = some (.cells #[.int .i64 (if L 15 then max lo (ml - back) else lo), .int .i64 (if L 17 then min hi (mh - back) else hi)] 75 (0, 0))
  mark : W.heap[g]? = some (.cells #[.int .i64 ml, .int .i64 mh] 75 (0, 0))
  first : L 15 = true → L 1 = true
  second : L 17 = true → L 8 = true
theorem spD_ne : ∀ i, i < 18 → ∀ j, j < 18 → i ≠ j → spD i ≠ spD j := by decide
theorem spD_lt : ∀ i, i < 18 → i ≠ 15 → i ≠ 17 → spD i < 66 := by decide
section
variable {p g : Nat} {lo hi ml mh back : Int} {L : Nat → Bool} {a : Act} {W W0 : World} {o : Oper} {Q : Exit → Act → World → Prop}
theorem SpMem.put (h : SpMem p g lo hi ml mh back L a W) (ha : a.tmps.size = 66) {i : Nat} (hi18 : i < 18) (h15 : i ≠ 15) (h17 : i ≠ 17) : SpMem p g lo hi ml mh back (fun j => decide (j = i) || L j) (a.put (some (spD i)) (spV p g lo hi ml mh back i)) W := by
  have n15 : ¬ (15 = i) := fun e => h15 e.symm
  have n17 : ¬ (17 = i) := fun e => h17 e.symm
  refine ⟨fun j hj j15 j17 hL => ?_, ?_, h.mark, fun hL => ?_, fun hL => ?_⟩
  · by_cases e : j = i
    · subst e
      have := spD_lt j hj h15 h17
      simp [Act.eval, Act.put, ha, this]
    · have hne := spD_ne i hi18 j hj (fun e' => e e'.symm)
      have := h.got j hj j15 j17 (by simpa [e] using hL)
      rw [← this]
      simp [Act.eval, Act.put, hne]
  · have e15 : (decide (15 = i) || L 15) = L 15 := by simp [n15]
    have e17 : (decide (17 = i) || L 17) = L 17 := by simp [n17]
    simp only [e15, e17]
    exact h.at_
  · have := h.first (by simpa [n15] using hL)
    simp [this]
  · have := h.second (by simpa [n17] using hL)
    simp [this]
theorem sp_value {i : Nat} (hM : SpMem p g lo hi ml mh back L a W) (ha : a.tmps.size = 66) (hi18 : i < 18) (h15 : i ≠ 15) (h17 : i ≠ 17) (hE : Ext W0 W) (hd : o.dst = some (spD i)) (hr : (execOp a.eval o).run Try.prog W = .ok (.value (spV p g lo hi ml mh back i)) W) :
    o.wp Try.prog a W (fun a'' W' => ∃ v, a'' = a.put o.dst v ∧ Ext W0 W' ∧ SpMem p g lo hi ml mh back (fun j => decide (j = i) || L j) a'' W') Q := by
  unfold Oper.wp
  rw [hr]
  exact ⟨_, rfl, hE, by rw [hd]; exact hM.put ha hi18 h15 h17⟩

theorem sp_op0 (hM : SpMem p g lo hi ml mh back L a W) (ha : a.tmps.size = 66) (hE : Ext W0 W) (o6 : a.eval (.tmp 6) = .pointer (some ⟨p, 0, none⟩)) (ho : spReg[0]? = some o) : o.wp Try.prog a W (fun a'' W' => ∃ v, a'' = a.put o.dst v ∧ Ext W0 W' ∧ SpMem p g lo hi ml mh back (fun j => decide (j = 0) || L j) a'' W') Q := by
  have hop := op_at ho (·.op) (x := Op.fieldAddr 75 (Operand.tmp 6) 0) (by kernel_rfl)
  have hd := op_at ho (·.dst) (x := some 37) (by kernel_rfl)
  exact sp_value hM ha (i := 0) (by omega) (by omega) (by omega) hE hd (by simp [execOp, hop, go_sem, spV, ev o6])

theorem sp_op1 (hM : SpMem p g lo hi ml mh back L a W) (ha : a.tmps.size = 66) (hE : Ext W0 W) (haft : ∀ j, (o.after.any fun e => decide (e.on = j) && Region.binds .any e) = true → L j = true) (hL : L 1 = false) (ho : spReg[1]? = some o) : o.wp Try.prog a W (fun a'' W' => ∃ v, a'' = a.put o.dst v ∧ Ext W0 W' ∧ SpMem p g lo hi ml mh back (fun j => decide (j = 1) || L j) a'' W') Q := by
  have hop := op_at ho (·.op) (x := Op.load 2 (Operand.tmp 37)) (by kernel_rfl)
  have e0 : a.eval (.tmp 37) = .pointer (some ⟨p, 0, none⟩) := hM.got 0 (by omega) (by omega) (by omega) (haft 0 (op_at ho (fun o => o.after.any fun e => decide (e.on = 0) && Region.binds .any e) (x := true) (by kernel_rfl)))
  have h15 : L 15 = false := by
    cases h : L 15 with
    | false => rfl
    | true => rw [hM.first h] at hL; cases hL
  have q : W.cell? ⟨p, 0, none⟩ = some (.int .i64 lo) := by
    rw [cell_of_row _ _ _ _ _ _ hM.at_, h15]
    rfl
  have hd := op_at ho (·.dst) (x := some 38) (by kernel_rfl)
  exact sp_value hM ha (i := 1) (by omega) (by omega) (by omega) hE hd (by simp [execOp, hop, go_sem, spV, ev e0, q])

theorem sp_op2 (hM : SpMem p g lo hi ml mh back L a W) (ha : a.tmps.size = 66) (hE : Ext W0 W) (o8 : a.eval (.tmp 8) = .pointer (some ⟨g, 0, none⟩)) (ho : spReg[2]? = some o) : o.wp Try.prog a W (fun a'' W' => ∃ v, a'' = a.put o.dst v ∧ Ext W0 W' ∧ SpMem p g lo hi ml mh back (fun j => decide (j = 2) || L j) a'' W') Q := by
  have hop := op_at ho (·.op) (x := Op.fieldAddr 75 (Operand.tmp 8) 0) (by kernel_rfl)
  have hd := op_at ho (·.dst) (x := some 39) (by kernel_rfl)
  exact sp_value hM ha (i := 2) (by omega) (by omega) (by omega) hE hd (by simp [execOp, hop, go_sem, spV, ev o8])

theorem sp_op3 (hM : SpMem p g lo hi ml mh back L a W) (ha : a.tmps.size = 66) (hE : Ext W0 W) (haft : ∀ j, (o.after.any fun e => decide (e.on = j) && Region.binds .any e) = true → L j = true) (ho : spReg[3]? = some o) : o.wp Try.prog a W (fun a'' W' => ∃ v, a'' = a.put o.dst v ∧ Ext W0 W' ∧ SpMem p g lo hi ml mh back (fun j => decide (j = 3) || L j) a'' W') Q := by
  have hop := op_at ho (·.op) (x := Op.load 2 (Operand.tmp 39)) (by kernel_rfl)
  have e2 : a.eval (.tmp 39) = .pointer (some ⟨g, 0, none⟩) := hM.got 2 (by omega) (by omega) (by omega) (haft 2 (op_at ho (fun o => o.after.any fun e => decide (e.on = 2) && Region.binds .any e) (x := true) (by kernel_rfl)))
  have q : W.cell? ⟨g, 0, none⟩ = some (.int .i64 ml) := cell_of_row _ _ _ _ _ _ hM.mark
  have hd := op_at ho (·.dst) (x := some 40) (by kernel_rfl)
  exact sp_value hM ha (i := 3) (by omega) (by omega) (by omega) hE hd (by simp [execOp, hop, go_sem, spV, ev e2, q])

theorem sp_op4 (hM : SpMem p g lo hi ml mh back L a W) (ha : a.tmps.size = 66) (hE : Ext W0 W) (o9 : a.eval (.tmp 9) = .int .i64 back) (ho : spReg[4]? = some o) : o.wp Try.prog a W (fun a'' W' => ∃ v, a'' = a.put o.dst v ∧ Ext W0 W' ∧ SpMem p g lo hi ml mh back (fun j => decide (j = 4) || L j) a'' W') Q := by
  have hop := op_at ho (·.op) (x := Op.move (Operand.tmp 9)) (by kernel_rfl)
  have hd := op_at ho (·.dst) (x := some 41) (by kernel_rfl)
  exact sp_value hM ha (i := 4) (by omega) (by omega) (by omega) hE hd (by simp [execOp, hop, go_sem, spV, ev o9])

theorem sp_op5 (hM : SpMem p g lo hi ml mh back L a W) (ha : a.tmps.size = 66) (hE : Ext W0 W) (haft : ∀ j, (o.after.any fun e => decide (e.on = j) && Region.binds .any e) = true → L j = true) (hw1 : IntKind.i64.wrap (ml - back) = ml - back) (ho : spReg[5]? = some o) : o.wp Try.prog a W (fun a'' W' => ∃ v, a'' = a.put o.dst v ∧ Ext W0 W' ∧ SpMem p g lo hi ml mh back (fun j => decide (j = 5) || L j) a'' W') Q := by
  have hop := op_at ho (·.op) (x := Op.binOp BinOp.sub 2 (Operand.tmp 40) (Operand.tmp 41) 2) (by kernel_rfl)
  have e3 : a.eval (.tmp 40) = .int .i64 ml := hM.got 3 (by omega) (by omega) (by omega) (haft 3 (op_at ho (fun o => o.after.any fun e => decide (e.on = 3) && Region.binds .any e) (x := true) (by kernel_rfl)))
  have e4 : a.eval (.tmp 41) = .int .i64 back := hM.got 4 (by omega) (by omega) (by omega) (haft 4 (op_at ho (fun o => o.after.any fun e => decide (e.on = 4) && Region.binds .any e) (x := true) (by kernel_rfl)))
  have hd := op_at ho (·.dst) (x := some 42) (by kernel_rfl)
  exact sp_value hM ha (i := 5) (by omega) (by omega) (by omega) hE hd (by simp [execOp, hop, go_sem, spV, hw1, ev e3, ev e4])

theorem sp_op6 (hM : SpMem p g lo hi ml mh back L a W) (ha : a.tmps.size = 66) (hE : Ext W0 W) (haft : ∀ j, (o.after.any fun e => decide (e.on = j) && Region.binds .any e) = true → L j = true) (ho : spReg[6]? = some o) : o.wp Try.prog a W (fun a'' W' => ∃ v, a'' = a.put o.dst v ∧ Ext W0 W' ∧ SpMem p g lo hi ml mh back (fun j => decide (j = 6) || L j) a'' W') Q := by
  have hop := op_at ho (·.op) (x := Op.call { callee := Callee.builtin Builtin.max, args := #[Operand.tmp 38, Operand.tmp 42], argTypes := #[2, 2] }) (by kernel_rfl)
  have e1 : a.eval (.tmp 38) = .int .i64 lo := hM.got 1 (by omega) (by omega) (by omega) (haft 1 (op_at ho (fun o => o.after.any fun e => decide (e.on = 1) && Region.binds .any e) (x := true) (by kernel_rfl)))
  have e5 : a.eval (.tmp 42) = .int .i64 (ml - back) := hM.got 5 (by omega) (by omega) (by omega) (haft 5 (op_at ho (fun o => o.after.any fun e => decide (e.on = 5) && Region.binds .any e) (x := true) (by kernel_rfl)))
  have hd := op_at ho (·.dst) (x := some 43) (by kernel_rfl)
  exact sp_value hM ha (i := 6) (by omega) (by omega) (by omega) hE hd (by simp [execOp, hop, go_sem, spV, ev e1, ev e5])

theorem sp_op7 (hM : SpMem p g lo hi ml mh back L a W) (ha : a.tmps.size = 66) (hE : Ext W0 W) (o6 : a.eval (.tmp 6) = .pointer (some ⟨p, 0, none⟩)) (ho : spReg[7]? = some o) : o.wp Try.prog a W (fun a'' W' => ∃ v, a'' = a.put o.dst v ∧ Ext W0 W' ∧ SpMem p g lo hi ml mh back (fun j => decide (j = 7) || L j) a'' W') Q := by
  have hop := op_at ho (·.op) (x := Op.fieldAddr 75 (Operand.tmp 6) 1) (by kernel_rfl)
  have hd := op_at ho (·.dst) (x := some 44) (by kernel_rfl)
  exact sp_value hM ha (i := 7) (by omega) (by omega) (by omega) hE hd (by simp [execOp, hop, go_sem, spV, ev o6])

theorem sp_op8 (hM : SpMem p g lo hi ml mh back L a W) (ha : a.tmps.size = 66) (hE : Ext W0 W) (haft : ∀ j, (o.after.any fun e => decide (e.on = j) && Region.binds .any e) = true → L j = true) (hL : L 8 = false) (ho : spReg[8]? = some o) : o.wp Try.prog a W (fun a'' W' => ∃ v, a'' = a.put o.dst v ∧ Ext W0 W' ∧ SpMem p g lo hi ml mh back (fun j => decide (j = 8) || L j) a'' W') Q := by
  have hop := op_at ho (·.op) (x := Op.load 2 (Operand.tmp 44)) (by kernel_rfl)
  have e7 : a.eval (.tmp 44) = .pointer (some ⟨p, 1, none⟩) := hM.got 7 (by omega) (by omega) (by omega) (haft 7 (op_at ho (fun o => o.after.any fun e => decide (e.on = 7) && Region.binds .any e) (x := true) (by kernel_rfl)))
  have h17 : L 17 = false := by
    cases h : L 17 with
    | false => rfl
    | true => rw [hM.second h] at hL; cases hL
  have q : W.cell? ⟨p, 1, none⟩ = some (.int .i64 hi) := by
    rw [cell_of_row _ _ _ _ _ _ hM.at_, h17]
    rfl
  have hd := op_at ho (·.dst) (x := some 45) (by kernel_rfl)
  exact sp_value hM ha (i := 8) (by omega) (by omega) (by omega) hE hd (by simp [execOp, hop, go_sem, spV, ev e7, q])

theorem sp_op9 (hM : SpMem p g lo hi ml mh back L a W) (ha : a.tmps.size = 66) (hE : Ext W0 W) (o8 : a.eval (.tmp 8) = .pointer (some ⟨g, 0, none⟩)) (ho : spReg[9]? = some o) : o.wp Try.prog a W (fun a'' W' => ∃ v, a'' = a.put o.dst v ∧ Ext W0 W' ∧ SpMem p g lo hi ml mh back (fun j => decide (j = 9) || L j) a'' W') Q := by
  have hop := op_at ho (·.op) (x := Op.fieldAddr 75 (Operand.tmp 8) 1) (by kernel_rfl)
  have hd := op_at ho (·.dst) (x := some 46) (by kernel_rfl)
  exact sp_value hM ha (i := 9) (by omega) (by omega) (by omega) hE hd (by simp [execOp, hop, go_sem, spV, ev o8])

theorem sp_op10 (hM : SpMem p g lo hi ml mh back L a W) (ha : a.tmps.size = 66) (hE : Ext W0 W) (haft : ∀ j, (o.after.any fun e => decide (e.on = j) && Region.binds .any e) = true → L j = true) (ho : spReg[10]? = some o) : o.wp Try.prog a W (fun a'' W' => ∃ v, a'' = a.put o.dst v ∧ Ext W0 W' ∧ SpMem p g lo hi ml mh back (fun j => decide (j = 10) || L j) a'' W') Q := by
  have hop := op_at ho (·.op) (x := Op.load 2 (Operand.tmp 46)) (by kernel_rfl)
  have e9 : a.eval (.tmp 46) = .pointer (some ⟨g, 1, none⟩) := hM.got 9 (by omega) (by omega) (by omega) (haft 9 (op_at ho (fun o => o.after.any fun e => decide (e.on = 9) && Region.binds .any e) (x := true) (by kernel_rfl)))
  have q : W.cell? ⟨g, 1, none⟩ = some (.int .i64 mh) := cell_of_row _ _ _ _ _ _ hM.mark
  have hd := op_at ho (·.dst) (x := some 47) (by kernel_rfl)
  exact sp_value hM ha (i := 10) (by omega) (by omega) (by omega) hE hd (by simp [execOp, hop, go_sem, spV, ev e9, q])

theorem sp_op11 (hM : SpMem p g lo hi ml mh back L a W) (ha : a.tmps.size = 66) (hE : Ext W0 W) (o9 : a.eval (.tmp 9) = .int .i64 back) (ho : spReg[11]? = some o) : o.wp Try.prog a W (fun a'' W' => ∃ v, a'' = a.put o.dst v ∧ Ext W0 W' ∧ SpMem p g lo hi ml mh back (fun j => decide (j = 11) || L j) a'' W') Q := by
  have hop := op_at ho (·.op) (x := Op.move (Operand.tmp 9)) (by kernel_rfl)
  have hd := op_at ho (·.dst) (x := some 48) (by kernel_rfl)
  exact sp_value hM ha (i := 11) (by omega) (by omega) (by omega) hE hd (by simp [execOp, hop, go_sem, spV, ev o9])

theorem sp_op12 (hM : SpMem p g lo hi ml mh back L a W) (ha : a.tmps.size = 66) (hE : Ext W0 W) (haft : ∀ j, (o.after.any fun e => decide (e.on = j) && Region.binds .any e) = true → L j = true) (hw2 : IntKind.i64.wrap (mh - back) = mh - back) (ho : spReg[12]? = some o) : o.wp Try.prog a W (fun a'' W' => ∃ v, a'' = a.put o.dst v ∧ Ext W0 W' ∧ SpMem p g lo hi ml mh back (fun j => decide (j = 12) || L j) a'' W') Q := by
  have hop := op_at ho (·.op) (x := Op.binOp BinOp.sub 2 (Operand.tmp 47) (Operand.tmp 48) 2) (by kernel_rfl)
  have e10 : a.eval (.tmp 47) = .int .i64 mh := hM.got 10 (by omega) (by omega) (by omega) (haft 10 (op_at ho (fun o => o.after.any fun e => decide (e.on = 10) && Region.binds .any e) (x := true) (by kernel_rfl)))
  have e11 : a.eval (.tmp 48) = .int .i64 back := hM.got 11 (by omega) (by omega) (by omega) (haft 11 (op_at ho (fun o => o.after.any fun e => decide (e.on = 11) && Region.binds .any e) (x := true) (by kernel_rfl)))
  have hd := op_at ho (·.dst) (x := some 49) (by kernel_rfl)
  exact sp_value hM ha (i := 12) (by omega) (by omega) (by omega) hE hd (by simp [execOp, hop, go_sem, spV, hw2, ev e10, ev e11])

theorem sp_op13 (hM : SpMem p g lo hi ml mh back L a W) (ha : a.tmps.size = 66) (hE : Ext W0 W) (haft : ∀ j, (o.after.any fun e => decide (e.on = j) && Region.binds .any e) = true → L j = true) (ho : spReg[13]? = some o) : o.wp Try.prog a W (fun a'' W' => ∃ v, a'' = a.put o.dst v ∧ Ext W0 W' ∧ SpMem p g lo hi ml mh back (fun j => decide (j = 13) || L j) a'' W') Q := by
  have hop := op_at ho (·.op) (x := Op.call { callee := Callee.builtin Builtin.min, args := #[Operand.tmp 45, Operand.tmp 49], argTypes := #[2, 2] }) (by kernel_rfl)
  have e8 : a.eval (.tmp 45) = .int .i64 hi := hM.got 8 (by omega) (by omega) (by omega) (haft 8 (op_at ho (fun o => o.after.any fun e => decide (e.on = 8) && Region.binds .any e) (x := true) (by kernel_rfl)))
  have e12 : a.eval (.tmp 49) = .int .i64 (mh - back) := hM.got 12 (by omega) (by omega) (by omega) (haft 12 (op_at ho (fun o => o.after.any fun e => decide (e.on = 12) && Region.binds .any e) (x := true) (by kernel_rfl)))
  have hd := op_at ho (·.dst) (x := some 50) (by kernel_rfl)
  exact sp_value hM ha (i := 13) (by omega) (by omega) (by omega) hE hd (by simp [execOp, hop, go_sem, spV, ev e8, ev e12])

theorem sp_op14 (hM : SpMem p g lo hi ml mh back L a W) (ha : a.tmps.size = 66) (hE : Ext W0 W) (_haft : ∀ j, (o.after.any fun e => decide (e.on = j) && Region.binds .any e) = true → L j = true) (o6 : a.eval (.tmp 6) = .pointer (some ⟨p, 0, none⟩)) (ho : spReg[14]? = some o) : o.wp Try.prog a W (fun a'' W' => ∃ v, a'' = a.put o.dst v ∧ Ext W0 W' ∧ SpMem p g lo hi ml mh back (fun j => decide (j = 14) || L j) a'' W') Q := by
  have hop := op_at ho (·.op) (x := Op.fieldAddr 75 (Operand.tmp 6) 0) (by kernel_rfl)
  have hd := op_at ho (·.dst) (x := some 51) (by kernel_rfl)
  exact sp_value hM ha (i := 14) (by omega) (by omega) (by omega) hE hd (by simp [execOp, hop, go_sem, spV, ev o6])

theorem sp_op15 (hM : SpMem p g lo hi ml mh back L a W) (_ha : a.tmps.size = 66) (hE : Ext W0 W) (haft : ∀ j, (o.after.any fun e => decide (e.on = j) && Region.binds .any e) = true → L j = true) (hp : W0.heap.size ≤ p) (hpg : p ≠ g) (ho : spReg[15]? = some o) : o.wp Try.prog a W (fun a'' W' => ∃ v, a'' = a.put o.dst v ∧ Ext W0 W' ∧ SpMem p g lo hi ml mh back (fun j => decide (j = 15) || L j) a'' W') Q := by
  have hop := op_at ho (·.op) (x := Op.store 2 (Operand.tmp 51) (Operand.tmp 43)) (by kernel_rfl)
  have e14 : a.eval (.tmp 51) = .pointer (some ⟨p, 0, none⟩) := hM.got 14 (by omega) (by omega) (by omega) (haft 14 (op_at ho (fun o => o.after.any fun e => decide (e.on = 14) && Region.binds .any e) (x := true) (by kernel_rfl)))
  have e6 : a.eval (.tmp 43) = .int .i64 (max lo (ml - back)) := hM.got 6 (by omega) (by omega) (by omega) (haft 6 (op_at ho (fun o => o.after.any fun e => decide (e.on = 6) && Region.binds .any e) (x := true) (by kernel_rfl)))
  have hd := op_at ho (·.dst) (x := none) (by kernel_rfl)
  have hb : L 1 = true := haft 1 (op_at ho (fun o => o.after.any fun e => decide (e.on = 1) && Region.binds .any e) (x := true) (by kernel_rfl))
  have fz : W.frozen? ⟨p, 0, none⟩ = false := frozen_of_row _ _ _ _ _ hM.at_
  have cl : ∃ v, W.cell? ⟨p, 0, none⟩ = some v := ⟨_, cell_of_row _ _ _ _ _ _ hM.at_⟩
  obtain ⟨cv, cl⟩ := cl
  have hr : (execOp a.eval o).run Try.prog W = .ok .skip (W.setCell ⟨p, 0, none⟩ (.int .i64 (max lo (ml - back)))) := by simp [execOp, hop, go_sem, fz, cl, ev e14, ev e6]
  unfold Oper.wp
  rw [hr]
  refine ⟨_, rfl, hE.setCell (p := ⟨p, 0, none⟩) hp _, ?_⟩
  rw [hd]
  have hrow := heap_setCell_same W p 0 _ 75 (.int .i64 (max lo (ml - back))) hM.at_
  refine ⟨fun j hj j15 j17 hL => ?_, ?_, (heap_setCell_other W ⟨p, 0, none⟩ g _ (fun e => hpg e.symm)).trans hM.mark, fun hL => ?_, fun hL => ?_⟩
  · exact hM.got j hj j15 j17 (by simpa [j15] using hL)
  · rw [hrow]
    simp
  · simp [hb]
  · have := hM.second (by simpa using hL)
    simp [this]

theorem sp_op16 (hM : SpMem p g lo hi ml mh back L a W) (ha : a.tmps.size = 66) (hE : Ext W0 W) (_haft : ∀ j, (o.after.any fun e => decide (e.on = j) && Region.binds .any e) = true → L j = true) (o6 : a.eval (.tmp 6) = .pointer (some ⟨p, 0, none⟩)) (ho : spReg[16]? = some o) : o.wp Try.prog a W (fun a'' W' => ∃ v, a'' = a.put o.dst v ∧ Ext W0 W' ∧ SpMem p g lo hi ml mh back (fun j => decide (j = 16) || L j) a'' W') Q := by
  have hop := op_at ho (·.op) (x := Op.fieldAddr 75 (Operand.tmp 6) 1) (by kernel_rfl)
  have hd := op_at ho (·.dst) (x := some 52) (by kernel_rfl)
  exact sp_value hM ha (i := 16) (by omega) (by omega) (by omega) hE hd (by simp [execOp, hop, go_sem, spV, ev o6])

theorem sp_op17 (hM : SpMem p g lo hi ml mh back L a W) (_ha : a.tmps.size = 66) (hE : Ext W0 W) (haft : ∀ j, (o.after.any fun e => decide (e.on = j) && Region.binds .any e) = true → L j = true) (hp : W0.heap.size ≤ p) (hpg : p ≠ g) (ho : spReg[17]? = some o) : o.wp Try.prog a W (fun a'' W' => ∃ v, a'' = a.put o.dst v ∧ Ext W0 W' ∧ SpMem p g lo hi ml mh back (fun j => decide (j = 17) || L j) a'' W') Q := by
  have hop := op_at ho (·.op) (x := Op.store 2 (Operand.tmp 52) (Operand.tmp 50)) (by kernel_rfl)
  have e16 : a.eval (.tmp 52) = .pointer (some ⟨p, 1, none⟩) := hM.got 16 (by omega) (by omega) (by omega) (haft 16 (op_at ho (fun o => o.after.any fun e => decide (e.on = 16) && Region.binds .any e) (x := true) (by kernel_rfl)))
  have e13 : a.eval (.tmp 50) = .int .i64 (min hi (mh - back)) := hM.got 13 (by omega) (by omega) (by omega) (haft 13 (op_at ho (fun o => o.after.any fun e => decide (e.on = 13) && Region.binds .any e) (x := true) (by kernel_rfl)))
  have hd := op_at ho (·.dst) (x := none) (by kernel_rfl)
  have hb : L 8 = true := haft 8 (op_at ho (fun o => o.after.any fun e => decide (e.on = 8) && Region.binds .any e) (x := true) (by kernel_rfl))
  have fz : W.frozen? ⟨p, 1, none⟩ = false := frozen_of_row _ _ _ _ _ hM.at_
  have cl : ∃ v, W.cell? ⟨p, 1, none⟩ = some v := ⟨_, cell_of_row _ _ _ _ _ _ hM.at_⟩
  obtain ⟨cv, cl⟩ := cl
  have hr : (execOp a.eval o).run Try.prog W = .ok .skip (W.setCell ⟨p, 1, none⟩ (.int .i64 (min hi (mh - back)))) := by simp [execOp, hop, go_sem, fz, cl, ev e16, ev e13]
  unfold Oper.wp
  rw [hr]
  refine ⟨_, rfl, hE.setCell (p := ⟨p, 1, none⟩) hp _, ?_⟩
  rw [hd]
  have hrow := heap_setCell_same W p 1 _ 75 (.int .i64 (min hi (mh - back))) hM.at_
  refine ⟨fun j hj j15 j17 hL => ?_, ?_, (heap_setCell_other W ⟨p, 1, none⟩ g _ (fun e => hpg e.symm)).trans hM.mark, fun hL => ?_, fun hL => ?_⟩
  · exact hM.got j hj j15 j17 (by simpa [j17] using hL)
  · rw [hrow]
    simp
  · have := hM.first (by simpa using hL)
    simp [this]
  · simp [hb]

set_option maxRecDepth 100000 in
set_option maxHeartbeats 4000000 in
/-- Region 14 of Spaces. -/
theorem sp_wp {id : Nat} {V : World} (hlen : a.tmps.size = 66) (hE0 : Ext W0 V) (hp : W0.heap.size ≤ p) (hpg : p ≠ g) (o6 : a.eval (.tmp 6) = .pointer (some ⟨p, 0, none⟩)) (o8 : a.eval (.tmp 8) = .pointer (some ⟨g, 0, none⟩)) (o9 : a.eval (.tmp 9) = .int .i64 back)
    (hat : V.heap[p]? = some (.cells #[.int .i64 lo, .int .i64 hi] 75 (0, 0))) (hmark : V.heap[g]? = some (.cells #[.int .i64 ml, .int .i64 mh] 75 (0, 0))) (hw1 : IntKind.i64.wrap (ml - back) = ml - back) (hw2 : IntKind.i64.wrap (mh - back) = mh - back)
    (K : ∀ (W : World), Ext W0 W → W.heap[p]? = some (.cells #[.int .i64 (max lo (ml - back)), .int .i64 (min hi (mh - back))] 75 (0, 0)) → Q .normal (puts a [(37, .pointer (some ⟨p, 0, none⟩)), (38, .int .i64 lo), (39, .pointer (some ⟨g, 0, none⟩)), (40, .int .i64 ml), (41, .int .i64 back), (42, .int .i64 (ml - back)), (43, .int .i64 (max lo (ml - back))), (44, .pointer (some ⟨p, 1, none⟩)), (45, .int .i64 hi), (46, .pointer (some ⟨g, 1, none⟩)), (47, .int .i64 mh), (48, .int .i64 back), (49, .int .i64 (mh - back)), (50, .int .i64 (min hi (mh - back))), (51, .pointer (some ⟨p, 0, none⟩)), (52, .pointer (some ⟨p, 1, none⟩))]) W) : (Code.region id spReg true).wp Try.prog Q a V := by
  refine wp_region_mem (W0 := W0) (fun _ => false) (spV p g lo hi ml mh back) spD (SpMem p g lo hi ml mh back) (by kernel_rfl) (by rw [hlen]; kernel_rfl) (Ext.trans hE0 (⟨rfl, rfl, rfl, Nat.le_refl _, fun _ _ => rfl⟩ : Below V.heap.size V { V with drawn := V.drawn + 1 })) ⟨fun i _ _ _ h => (by cases h), hat, hmark, fun h => (by cases h), fun h => (by cases h)⟩ (fun L a' W W' i v _ h => (by cases h)) (fun i o _ h => (by cases h)) ?_ ?_
  · intro i o ho _ L a' W hE hsz hold haft hL hM
    have o6' := (hold 6 (by kernel_rfl)).trans o6
    have o8' := (hold 8 (by kernel_rfl)).trans o8
    have o9' := (hold 9 (by kernel_rfl)).trans o9
    have hi18 : i < 18 := by
      have h1 := (Array.getElem?_eq_some_iff.1 ho).1
      have h2 : spReg.size = 18 := by kernel_rfl
      omega
    match i, hi18 with
    | 0, _ => exact sp_op0 hM (hsz.trans hlen) hE o6' ho
    | 1, _ => exact sp_op1 hM (hsz.trans hlen) hE (fun j h => (haft j h).1) hL ho
    | 2, _ => exact sp_op2 hM (hsz.trans hlen) hE o8' ho
    | 3, _ => exact sp_op3 hM (hsz.trans hlen) hE (fun j h => (haft j h).1) ho
    | 4, _ => exact sp_op4 hM (hsz.trans hlen) hE o9' ho
    | 5, _ => exact sp_op5 hM (hsz.trans hlen) hE (fun j h => (haft j h).1) hw1 ho
    | 6, _ => exact sp_op6 hM (hsz.trans hlen) hE (fun j h => (haft j h).1) ho
    | 7, _ => exact sp_op7 hM (hsz.trans hlen) hE o6' ho
    | 8, _ => exact sp_op8 hM (hsz.trans hlen) hE (fun j h => (haft j h).1) hL ho
    | 9, _ => exact sp_op9 hM (hsz.trans hlen) hE o8' ho
    | 10, _ => exact sp_op10 hM (hsz.trans hlen) hE (fun j h => (haft j h).1) ho
    | 11, _ => exact sp_op11 hM (hsz.trans hlen) hE o9' ho
    | 12, _ => exact sp_op12 hM (hsz.trans hlen) hE (fun j h => (haft j h).1) hw2 ho
    | 13, _ => exact sp_op13 hM (hsz.trans hlen) hE (fun j h => (haft j h).1) ho
    | 14, _ => exact sp_op14 hM (hsz.trans hlen) hE (fun j h => (haft j h).1) o6' ho
    | 15, _ => exact sp_op15 hM (hsz.trans hlen) hE (fun j h => (haft j h).1) hp hpg ho
    | 16, _ => exact sp_op16 hM (hsz.trans hlen) hE (fun j h => (haft j h).1) o6' ho
    | 17, _ => exact sp_op17 hM (hsz.trans hlen) hE (fun j h => (haft j h).1) hp hpg ho
    | m + 18, h => exact absurd h (by omega)
  · intro a1 W hE hsz hdf hold _ hM
    have hall : ∀ z, z ∈ ([(37, .pointer (some ⟨p, 0, none⟩)), (38, .int .i64 lo), (39, .pointer (some ⟨g, 0, none⟩)), (40, .int .i64 ml), (41, .int .i64 back), (42, .int .i64 (ml - back)), (43, .int .i64 (max lo (ml - back))), (44, .pointer (some ⟨p, 1, none⟩)), (45, .int .i64 hi), (46, .pointer (some ⟨g, 1, none⟩)), (47, .int .i64 mh), (48, .int .i64 back), (49, .int .i64 (mh - back)), (50, .int .i64 (min hi (mh - back))), (51, .pointer (some ⟨p, 0, none⟩)), (52, .pointer (some ⟨p, 1, none⟩))] : List (Tmp × Value)) → z.1 < a.tmps.size ∧ a1.eval (.tmp z.1) = z.2 := by
      intro z hz
      rw [hlen]
      simp only [List.mem_cons, List.not_mem_nil, or_false] at hz
      rcases hz with rfl | rfl | rfl | rfl | rfl | rfl | rfl | rfl | rfl | rfl | rfl | rfl | rfl | rfl | rfl | rfl
      · exact ⟨(show (37 : Nat) < 66 by omega), hM.got 0 (by omega) (by omega) (by omega) (by decide)⟩
      · exact ⟨(show (38 : Nat) < 66 by omega), hM.got 1 (by omega) (by omega) (by omega) (by decide)⟩
      · exact ⟨(show (39 : Nat) < 66 by omega), hM.got 2 (by omega) (by omega) (by omega) (by decide)⟩
      · exact ⟨(show (40 : Nat) < 66 by omega), hM.got 3 (by omega) (by omega) (by omega) (by decide)⟩
      · exact ⟨(show (41 : Nat) < 66 by omega), hM.got 4 (by omega) (by omega) (by omega) (by decide)⟩
      · exact ⟨(show (42 : Nat) < 66 by omega), hM.got 5 (by omega) (by omega) (by omega) (by decide)⟩
      · exact ⟨(show (43 : Nat) < 66 by omega), hM.got 6 (by omega) (by omega) (by omega) (by decide)⟩
      · exact ⟨(show (44 : Nat) < 66 by omega), hM.got 7 (by omega) (by omega) (by omega) (by decide)⟩
      · exact ⟨(show (45 : Nat) < 66 by omega), hM.got 8 (by omega) (by omega) (by omega) (by decide)⟩
      · exact ⟨(show (46 : Nat) < 66 by omega), hM.got 9 (by omega) (by omega) (by omega) (by decide)⟩
      · exact ⟨(show (47 : Nat) < 66 by omega), hM.got 10 (by omega) (by omega) (by omega) (by decide)⟩
      · exact ⟨(show (48 : Nat) < 66 by omega), hM.got 11 (by omega) (by omega) (by omega) (by decide)⟩
      · exact ⟨(show (49 : Nat) < 66 by omega), hM.got 12 (by omega) (by omega) (by omega) (by decide)⟩
      · exact ⟨(show (50 : Nat) < 66 by omega), hM.got 13 (by omega) (by omega) (by omega) (by decide)⟩
      · exact ⟨(show (51 : Nat) < 66 by omega), hM.got 14 (by omega) (by omega) (by omega) (by decide)⟩
      · exact ⟨(show (52 : Nat) < 66 by omega), hM.got 16 (by omega) (by omega) (by omega) (by decide)⟩
    have h2 : spReg.size = 18 := by kernel_rfl
    rw [h2] at hold
    have ha := act_puts hsz hdf hall (fun t ht => by
      by_cases h115 : t = 115
      · subst h115
        simp [Act.eval, hsz, hlen]
      by_cases h117 : t = 117
      · subst h117
        simp [Act.eval, hsz, hlen]
      refine hold t (all_ne_of (l := [(37, .pointer (some ⟨p, 0, none⟩)), (38, .int .i64 lo), (39, .pointer (some ⟨g, 0, none⟩)), (40, .int .i64 ml), (41, .int .i64 back), (42, .int .i64 (ml - back)), (43, .int .i64 (max lo (ml - back))), (44, .pointer (some ⟨p, 1, none⟩)), (45, .int .i64 hi), (46, .pointer (some ⟨g, 1, none⟩)), (47, .int .i64 mh), (48, .int .i64 back), (49, .int .i64 (mh - back)), (50, .int .i64 (min hi (mh - back))), (51, .pointer (some ⟨p, 0, none⟩)), (115, undef), (52, .pointer (some ⟨p, 1, none⟩)), (117, undef)]) (by rfl) ?_)
      intro hmem
      simp only [List.map_cons, List.map_nil, List.mem_cons, List.not_mem_nil, or_false] at hmem
      rcases hmem with rfl | rfl | rfl | rfl | rfl | rfl | rfl | rfl | rfl | rfl | rfl | rfl | rfl | rfl | rfl | rfl | rfl | rfl <;> first | exact h115 rfl | exact h117 rfl | exact ht (by simp))
    rw [ha]
    exact K W hE hM.at_
end
end Go.Proofs.Ytlaakmgdbhabfaa

/- Spaces. -/
namespace Go.Proofs.Ytlaakmgdbhabfaa
open Go.RowKit Go.Shelf

/-- Where the first tooth can be, by the first k marks, if teeth are s apart. -/
def spaceTo (ms : List (Int × Int)) (s : Int) (k : Nat) : Int × Int := (List.range k).foldl (fun a i => (max a.1 ((ms.getD i (0, 0)).1 - (i : Int) * s), min a.2 ((ms.getD i (0, 0)).2 - (i : Int) * s))) (ms.getD 0 (0, 0))
theorem spaceTo_succ (ms : List (Int × Int)) (s : Int) (k : Nat) : spaceTo ms s (k + 1) = (max (spaceTo ms s k).1 ((ms.getD k (0, 0)).1 - (k : Int) * s), min (spaceTo ms s k).2 ((ms.getD k (0, 0)).2 - (k : Int) * s)) := by
  unfold spaceTo
  rw [List.range_succ, List.foldl_append]
  rfl
def spaceOf (ms : List (Int × Int)) (d : Nat) : Option (Int × Int × Int) := if (spaceTo ms ((d : Int) + 1) ms.length).1 ≤ (spaceTo ms ((d : Int) + 1) ms.length).2 then some ((d : Int) + 1, (spaceTo ms ((d : Int) + 1) ms.length).1, (spaceTo ms ((d : Int) + 1) ms.length).2) else none
def spacesTo (ms : List (Int × Int)) (k : Nat) : List (Int × Int × Int) := (List.range k).filterMap (spaceOf ms)
theorem spacesTo_succ (ms : List (Int × Int)) (k : Nat) : spacesTo ms (k + 1) = spacesTo ms k ++ (spaceOf ms k).toList := by
  unfold spacesTo
  rw [List.range_succ, List.filterMap_append]
  cases h : spaceOf ms k <;> simp [h]
theorem spacesTo_len (ms : List (Int × Int)) (k : Nat) : (spacesTo ms k).length ≤ k := Nat.le_trans (List.length_filterMap_le _ _) (by simp)
def spacesErr (ms : List (Int × Int)) : Int := if 2 ≤ ms.length ∧ ms.length ≤ 12 then if marksOk 0 ms = true then 0 else 3 else 6
def MadeSpaces (base : Nat) (xs : List (Int × Int × Int)) (w : World) (v : Value) : Prop := w.ownsRow base 82 3 v xs.length (xs.flatMap encD) ∧ (xs = [] → v = .slice none 0 0)
theorem MadeSpaces.ext {base : Nat} {xs : List (Int × Int × Int)} {w w' : World} {v : Value} (h : MadeSpaces base xs w v) (e : Ext w w') : MadeSpaces base xs w' v := ⟨owns_ext h.1 e, h.2⟩
theorem MadeSpaces.mono {base base' : Nat} {xs : List (Int × Int × Int)} {w : World} {v : Value} (h : MadeSpaces base xs w v) (hb : base' ≤ base) : MadeSpaces base' xs w v := ⟨owns_mono h.1 hb, h.2⟩
theorem info82 : (Try.prog.info? 82).map (fun i => (i.zero, i.size, i.bytes)) = some (some (.agg #[.int .i64 0, .int .i64 0, .int .i64 0]), 3, 24) := by kernel_rfl

set_option maxRecDepth 100000 in
set_option maxHeartbeats 4000000 in
theorem spaces_any (A : Option Addr) (n c : Nat) (ms : List (Int × Int)) (w : World) (hn : n = ms.length) (hn9 : n ≤ 9223372036854775807) (hh : Held w w.heap.size 2 encS A ms) :
    Calls Try.prog 36 #[.slice A n c] w fun e w' => Ext w w' ∧ ((spacesErr ms ≠ 0 ∧ e = .returned (.tuple #[.slice none 0 0, .int .i64 (spacesErr ms)])) ∨ (spacesErr ms = 0 ∧ ∃ v, e = .returned (.tuple #[v, .int .i64 0]) ∧ MadeSpaces w.heap.size (spacesTo ms 50) w' v)) := by
  have hq1 : [(n : Int)].all (inside 2 12) = decide (2 ≤ n ∧ n ≤ 12) := by rw [Bool.eq_iff_iff]; simp [inside]; omega
  have hs : spacesErr ms = if 2 ≤ n ∧ n ≤ 12 then if marksOk 0 ms = true then 0 else 3 else 6 := by rw [hn]; rfl
  obtain ⟨ans, hans⟩ : ∃ ans, spacesErr ms = ans := ⟨_, rfl⟩
  rw [hans] at hs ⊢
  have HS := Lib.hid hs
  have H1 := Lib.hid hq1
  have HH := Lib.hid hh
  have HN := Lib.hid hn
  clear hs hans hq1 hh hn
  go_enter Try.func36, Try.ntmps36
  go_wp2_with fail
  refine (within _ _ _ _ _ [(n : Int)] _ rfl (by simp) (held1 (by simp) (by simp))).mono ?_
  rw [H1.out]
  rintro e w1 ⟨rfl, hb1⟩
  have e1 : Ext w w1 := bstep (ext_alloc w _) (by simp) hb1
  have HE1 := Lib.hid e1
  clear hb1
  by_cases hn12 : 2 ≤ n ∧ n ≤ 12
  · rw [decide_eq_true hn12]
    have hs := HS.out
    rw [if_pos hn12] at hs
    have HS1 := Lib.hid hs
    have ham := areMarks_any A n c ms w1 HN.out (by omega) ((HH.out.kept e1 (Nat.le_refl _)).wider e1.size)
    clear hs e1
    go_wp2_with fail
    refine ham.mono ?_
    rintro e w2 ⟨rfl, e2⟩
    have HE2 := Lib.hid (HE1.out.trans e2)
    clear e2 ham
    cases hmk : marksOk 0 ms with
    | false =>
      have hs := HS1.out
      rw [if_neg (by rw [hmk]; decide)] at hs
      subst hs
      go_wp2
      go_ret2
      exact ⟨HE2.out, .inl ⟨by decide, rfl⟩⟩
    | true =>
      have hs := HS1.out
      rw [if_pos hmk] at hs
      subst hs
      obtain ⟨i82, hi, hz0, hz1, hz2⟩ := info_parts info82
      have HI := Lib.hid (And.intro hi (And.intro hz0 (And.intro hz1 hz2)))
      have HM := Lib.hid (fun (j : Nat) (hj : j < ms.length) => marks_at (f := 0) (Int.le_refl 0) hmk hj)
      clear hmk hi hz0 hz1 hz2 HS1
      go_wp2
      go_loopw [4, 5] (fun v s wr => ∃ k : Nat, k ≤ 50 ∧ s = .int .i64 ((k : Int) + 1) ∧ Hid (Ext w2 wr) ∧ Hid (MadeSpaces w2.heap.size (spacesTo ms k) wr v)) (fun _ s _ => (51 - intOf s).toNat)
      case atStart => exact ⟨0, by omega, rfl, Lib.hid (Ext.refl _), Lib.hid ⟨World.ownsRow_nil _ _ _ _, fun _ => rfl⟩⟩
      case round =>
        obtain ⟨k, hk, rfl, hB, hO⟩ := hrel
        by_cases hlt : k < 50
        · have hltz : (k : Int) + 1 ≤ 50 := by omega
          have hn0 : 0 < ms.length := by have := HN.out; omega
          have eW := HE2.out.trans hB.out
          obtain ⟨b, off, rfl, hbl, d0, d1⟩ := held_pair ((HH.out.kept eW (Nat.le_refl _)).wider eW.size) hn0
          have hHW : Held wr wr.heap.size 2 encS (some ⟨b, off, none⟩) ms := (HH.out.kept eW (Nat.le_refl _)).wider eW.size
          have HHW := Lib.hid hHW
          simp only [Nat.zero_mul, Nat.add_zero] at d0 d1
          obtain ⟨m0, hm0⟩ : ∃ m0, ms.getD 0 (0, 0) = m0 := ⟨_, rfl⟩
          rw [hm0] at d0 d1
          have H0 := Lib.hid hm0
          have hn0z : 0 < n := by omega
          clear eW hm0 hHW
          go_wp2
          have hrow : (wr.alloc (.cells #[.int .i64 m0.1, .int .i64 m0.2] 75)).heap[wr.heap.size]? = some (.cells #[.int .i64 m0.1, .int .i64 m0.2] 75 (0, 0)) := row_last _ _ _ rfl
          have hE0 : Ext wr (wr.alloc (.cells #[.int .i64 m0.1, .int .i64 m0.2] 75)) := ext_alloc _ _
          obtain ⟨wm, hwm⟩ : ∃ wm, wr.alloc (.cells #[.int .i64 m0.1, .int .i64 m0.2] 75) = wm := ⟨_, rfl⟩
          rw [hwm] at hrow hE0 ⊢
          clear hwm d0 d1
          obtain ⟨W0, hW0⟩ : ∃ W0 : World, W0 = wr := ⟨_, rfl⟩
          have hpW : W0.heap.size ≤ wr.heap.size := by rw [hW0]; exact Nat.le_refl _
          rw [← hW0] at hE0 hB hO HHW
          obtain ⟨p, hp⟩ : ∃ p, wr.heap.size = p := ⟨_, rfl⟩
          rw [hp] at hrow hpW ⊢
          clear hW0 hp
          have HE0 := Lib.hid hE0
          have HROW := Lib.hid hrow
          clear hE0 hrow
          go_loopw [29] (fun i wq => ∃ j : Nat, j ≤ n ∧ i = .int .i64 j ∧ Hid (Ext W0 wq) ∧ Hid (p < wq.heap.size ∧ wq.heap[p]? = some (.cells #[.int .i64 (spaceTo ms ((k : Int) + 1) j).1, .int .i64 (spaceTo ms ((k : Int) + 1) j).2] 75 (0, 0)))) (fun i _ => n - (intOf i).toNat)
          case atStart =>
            refine ⟨0, Nat.zero_le _, rfl, HE0, Lib.hid ⟨(Array.getElem?_eq_some_iff.1 HROW.out).1, ?_⟩⟩
            rw [show spaceTo ms ((k : Int) + 1) 0 = m0 from H0.out]
            exact HROW.out
          case round =>
            obtain ⟨j, hj, rfl, hE, hR⟩ := hrel
            by_cases hjt : j < n
            · have hjz : (j : Int) < (n : Int) := by omega
              have hjl : j < ms.length := by have := HN.out; omega
              obtain ⟨b', off', hA', hbl', d0, d1⟩ := held_pair ((HHW.out.kept hE.out (Nat.le_refl _)).wider hE.out.size) hjl
              obtain ⟨rfl, rfl⟩ : b = b' ∧ off = off' := by cases hA'; exact ⟨rfl, rfl⟩
              have hm := HM.out j hjl
              have hsu := spaceTo_succ ms ((k : Int) + 1) j
              obtain ⟨ml, mh, hmj⟩ : ∃ ml mh, ms.getD j (0, 0) = (ml, mh) := ⟨_, _, rfl⟩
              rw [hmj] at d0 d1 hm hsu
              simp only at d0 d1 hm hsu
              have hb1 : (j : Int) * ((k : Int) + 1) ≤ 12 * 50 := Int.mul_le_mul (by omega) hltz (by omega) (by omega)
              have hb0 : 0 ≤ (j : Int) * ((k : Int) + 1) := Int.mul_nonneg (by omega) (by omega)
              obtain ⟨back, hback⟩ : ∃ back, (j : Int) * ((k : Int) + 1) = back := ⟨_, rfl⟩
              rw [hback] at hb1 hb0 hsu
              have hw0 : IntKind.i64.wrap ((j : Int) * ((k : Int) + 1)) = back := by rw [hback]; exact IntWalk.i64_in _ (by omega)
              have hw1 : IntKind.i64.wrap (ml - back) = ml - back := IntWalk.i64_in _ (by omega)
              have hw2 : IntKind.i64.wrap (mh - back) = mh - back := IntWalk.i64_in _ (by omega)
              obtain ⟨lo, hi, hlh⟩ : ∃ lo hi, spaceTo ms ((k : Int) + 1) j = (lo, hi) := ⟨_, _, rfl⟩
              have hR2 := hR.out.2
              rw [hlh] at hR2 hsu
              simp only at hR2 hsu
              have hpz := hR.out.1
              have HSU := Lib.hid hsu
              have HR2 := Lib.hid hR2
              have W1' := Lib.hid hw1
              have W2' := Lib.hid hw2
              clear hsu hmj hA' hback hlh hR2 hR hw1 hw2
              go_upto_region 14 with fail
              refine sp_wp (W0 := W0) rfl (hE.out.trans (ext_alloc _ _)) hpW (Nat.ne_of_lt hpz) rfl rfl rfl (row_alloc _ _ _ _ HR2.out) (row_last _ _ _ rfl) W1'.out W2'.out ?_
              intro w3 e3 hr3
              simp only [puts, List.foldl_cons, List.foldl_nil, Act.put, List.setIfInBounds_toArray, List.set_cons_succ, List.set_cons_zero]
              have H3 := Lib.hid (And.intro (Array.getElem?_eq_some_iff.1 hr3).1 hr3)
              have HE3 := Lib.hid e3
              clear e3 hr3 d0 d1
              go_wp2
              go_roundw
              case measure => simp [intOf]; omega
              case rel => exact ⟨j + 1, by omega, by go_num, HE3, Lib.hid ⟨H3.out.1, by rw [HSU.out]; exact H3.out.2⟩⟩
            · have hjz : ¬ (j : Int) < (n : Int) := by omega
              obtain rfl : j = n := by omega
              have hsu := spacesTo_succ ms k
              have hl := spacesTo_len ms k
              have hso : spaceOf ms k = if (spaceTo ms ((k : Int) + 1) j).1 ≤ (spaceTo ms ((k : Int) + 1) j).2 then some ((k : Int) + 1, (spaceTo ms ((k : Int) + 1) j).1, (spaceTo ms ((k : Int) + 1) j).2) else none := by rw [HN.out]; rfl
              obtain ⟨lo, hi, hlh⟩ : ∃ lo hi, spaceTo ms ((k : Int) + 1) j = (lo, hi) := ⟨_, _, rfl⟩
              have hR2 := hR.out.2
              rw [hlh] at hR2 hso
              simp only at hR2 hso
              have c0 : wr.cell? ⟨p, 0, none⟩ = some (.int .i64 lo) := cell_of_row _ _ _ _ _ _ hR2
              have c1 : wr.cell? ⟨p, 1, none⟩ = some (.int .i64 hi) := cell_of_row _ _ _ _ _ _ hR2
              have hO1 := hO.out.ext hE.out
              have hE1 := hB.out.trans hE.out
              have hz1 := hE1.size
              clear hR hR2 hlh
              by_cases hle : lo ≤ hi
              · rw [if_pos hle] at hso
                have HSU : Hid (spacesTo ms (k + 1) = spacesTo ms k ++ [((k : Int) + 1, lo, hi)]) := Lib.hid (by rw [hsu, hso]; rfl)
                have oA := hO1.1.alloc (.cells #[.int .i64 ((k : Int) + 1), .int .i64 lo, .int .i64 hi] 82)
                have hcn := cells_new wr #[.int .i64 ((k : Int) + 1), .int .i64 lo, .int .i64 hi] 82
                clear hsu hso
                go_wp2_with (first | (at_builtin; refine wpList_append_own _ rfl (.tmp 59) (.tmp 63) 49 rfl w2.heap.size 82 i82 (.agg #[.int .i64 0, .int .i64 0, .int .i64 0]) 3 24 ?_ ?_ ?_ ?_ ?_ ?_ ?_ u4 _ ((spacesTo ms k).flatMap encD) rfl oA ⟨wr.heap.size, 0, none⟩ 1 1 [.int .i64 ((k : Int) + 1), .int .i64 lo, .int .i64 hi] rfl ?_ ?_ ?_ ?_ ?_ ?_ ?_; exact Try.underlying49; exact HI.out.1; exact HI.out.2.1; exact HI.out.2.2.1; exact HI.out.2.2.2; rfl; decide; rfl; exact hcn; (intro u hu; simp at hu; rcases hu with rfl | rfl | rfl <;> rfl); (unfold maxLen; omega); omega; (simp; omega); intro v' w4 hown' hg4 _; have HW := Lib.hid hown'; have hE4 := Lib.hid (((hE1.alloc hz1 (.cells #[.int .i64 ((k : Int) + 1), .int .i64 lo, .int .i64 hi] 82)).grown hg4 (by simp; omega) (fun b e => (oA.lt b e).1)) : Ext w2 w4); clear hown' hg4 oA hO1))
                go_roundw
                case measure => simp [intOf]; omega
                case rel =>
                  refine ⟨k + 1, by omega, by go_num, hE4, Lib.hid ⟨?_, fun e => by rw [HSU.out] at e; simp at e⟩⟩
                  rw [HSU.out, List.length_append, List.flatMap_append]
                  exact HW.out
              · rw [if_neg hle] at hso
                have HSU : Hid (spacesTo ms (k + 1) = spacesTo ms k) := Lib.hid (by rw [hsu, hso]; simp)
                have HO1 := Lib.hid hO1
                have HE1' := Lib.hid hE1
                clear hsu hso hO1 hE1
                go_wp2
                go_roundw
                case measure => simp [intOf]; omega
                case rel => exact ⟨k + 1, by omega, by go_num, HE1', by rw [HSU.out]; exact HO1⟩
        · have hltz : ¬ (k : Int) + 1 ≤ 50 := by omega
          obtain rfl : k = 50 := by omega
          obtain ⟨A5, c5, hv⟩ := owns_slice hO.out.1
          subst hv
          go_wp2
          go_ret2
          exact ⟨HE2.out.trans hB.out, _, rfl, hO.out.mono HE2.out.size⟩
  · rw [decide_eq_false hn12]
    have hs := HS.out
    rw [if_neg hn12] at hs
    subst hs
    go_wp2
    go_ret2
    exact ⟨HE1.out, .inl ⟨by decide, rfl⟩⟩
end Go.Proofs.Ytlaakmgdbhabfaa

/- The small functions of the verifier's own Go text. -/
namespace Go.Proofs.Ytlaakmgdbhabfaa
open Go.RowKit Go.Shelf

theorem held_get {w : World} {A : Option Addr} {xs : List Int} (hh : Held w w.heap.size 1 encI A xs) {W : World} (hB : Below w.heap.size w W) {k : Nat} (hk : k < xs.length) : ∃ b off, A = some ⟨b, off, none⟩ ∧ W.cell? ⟨b, off + k, none⟩ = some (.int .i64 xs[k]) := by
  rcases hh with h | ⟨b, off, rfl, hlt', hc⟩
  · simp [h] at hk
  · refine ⟨b, off, rfl, ?_⟩
    have h2 := (hB.cell (p := ⟨b, off + k * 1 + 0, none⟩) hlt').trans (hc k xs[k] (List.getElem?_eq_getElem hk) 0 _ rfl)
    simpa using h2

set_option maxHeartbeats 400000 in
theorem ints_quiet (A A' : Option Addr) (n c n' c' : Nat) (xs ys : List Int) (w : World) (hnn : n = xs.length) (hnn' : n' = ys.length)
    (hn : n ≤ 9223372036854775807) (hn' : n' ≤ 9223372036854775807) (hh : Held w w.heap.size 1 encI A xs) (hh' : Held w w.heap.size 1 encI A' ys) :
    Calls Try.prog 25 #[.slice A n c, .slice A' n' c'] w fun e w' => e = .returned (.bool (decide (xs = ys))) ∧ ∃ m, w' = w.drewN m := by
  have HN := Lib.hid (And.intro hnn hnn')
  clear hnn hnn'
  by_cases hl : n = n'
  · subst hl
    go_enter Try.func25, Try.ntmps25
    go_wp2
    go_loopw [4, 5] (fun _ i wr => ∃ k : Nat, k ≤ n ∧ i = .int .i64 k ∧ Hid (∃ m, wr = w.drewN m) ∧ Hid (∀ j, j < k → ∀ (h1 : j < xs.length) (h2 : j < ys.length), xs[j] = ys[j])) (fun _ i _ => n - (intOf i).toNat)
    case atStart => exact ⟨0, Nat.zero_le _, rfl, Lib.hid ⟨0, rfl⟩, Lib.hid (fun j hj => absurd hj (by omega))⟩
    case round =>
      obtain ⟨k, hk, rfl, hD, hA⟩ := hrel
      have hB : Hid (Below w.heap.size w wr) := Lib.hid (by obtain ⟨m, rfl⟩ := hD.out; exact bdrewN (Below.refl _ _) m)
      by_cases hlt : k < n
      · have hltz : (k : Int) < (n : Int) := by omega
        have hkx : k < xs.length := by rw [← HN.out.1]; exact hlt
        have hky : k < ys.length := by rw [← HN.out.2]; exact hlt
        obtain ⟨b, off, rfl, hc⟩ := held_get hh hB.out hkx
        obtain ⟨b', off', rfl, hc'⟩ := held_get hh' hB.out hky
        obtain ⟨x, hx⟩ : ∃ x, xs[k] = x := ⟨_, rfl⟩
        obtain ⟨y, hy⟩ : ∃ y, ys[k] = y := ⟨_, rfl⟩
        rw [hx] at hc
        rw [hy] at hc'
        have HXY := Lib.hid (And.intro hx hy)
        clear hx hy hh hh'
        by_cases hxy : x = y
        · have hxy2 : (x != y) = false := by simp [hxy]
          go_wp2
          go_quiet (fail)
          go_wp2
          go_roundw
          case measure => simp [intOf]; omega
          case rel =>
            refine ⟨k + 1, by omega, by go_num, Lib.hid (by obtain ⟨m, rfl⟩ := hD.out; exact ⟨m + nq, by rw [World.drewN_drewN]⟩), Lib.hid fun j hj h1 h2 => ?_⟩
            by_cases e : j = k
            · subst e
              rw [HXY.out.1, HXY.out.2, hxy]
            · exact hA.out j (by omega) h1 h2
        · have hxy2 : (x != y) = true := by simp [hxy]
          go_wp2
          go_quiet (fail)
          go_wp2
          go_ret
          refine ⟨ret_bool ?_, by obtain ⟨m, rfl⟩ := hD.out; exact ⟨m + nq, by rw [World.drewN_drewN]⟩⟩
          have : xs ≠ ys := fun e => by
            subst e
            exact hxy (HXY.out.1.symm.trans HXY.out.2)
          simp [this]
      · have hltz : ¬ (k : Int) < (n : Int) := by omega
        go_wp2
        go_ret
        refine ⟨ret_bool ?_, hD.out⟩
        have : xs = ys := List.ext_getElem (by rw [← HN.out.1, HN.out.2]) fun j h1 h2 => hA.out j (by have := HN.out.1; omega) h1 h2
        simp [this]
  · have hlz : ((n : Int) != (n' : Int)) = true := by simp; omega
    have hne : xs ≠ ys := fun e => hl (by rw [HN.out.1, HN.out.2, e])
    have HNE := Lib.hid hne
    clear hne hh hh'
    go_enter Try.func25, Try.ntmps25
    go_wp2
    go_ret
    exact ⟨ret_bool (by simp [HNE.out]), 0, rfl⟩

theorem ints_any (A A' : Option Addr) (n c n' c' : Nat) (xs ys : List Int) (w : World) (hnn : n = xs.length) (hnn' : n' = ys.length)
    (hn : n ≤ 9223372036854775807) (hn' : n' ≤ 9223372036854775807) (hh : Held w w.heap.size 1 encI A xs) (hh' : Held w w.heap.size 1 encI A' ys) :
    Calls Try.prog 25 #[.slice A n c, .slice A' n' c'] w fun e w' => e = .returned (.bool (decide (xs = ys))) ∧ Below w.heap.size w w' :=
  (ints_quiet A A' n c n' c' xs ys w hnn hnn' hn hn' hh hh').mono fun _ _ ⟨he, m, hm⟩ => ⟨he, hm ▸ bdrewN (Below.refl _ _) m⟩

set_option maxHeartbeats 400000 in
theorem longs_quiet (A A' : Option Addr) (n c n' c' : Nat) (xs ys : List Int) (w : World) (hnn : n = xs.length) (hnn' : n' = ys.length)
    (hn : n ≤ 9223372036854775807) (hn' : n' ≤ 9223372036854775807) (hh : Held w w.heap.size 1 encI A xs) (hh' : Held w w.heap.size 1 encI A' ys) :
    Calls Try.prog 26 #[.slice A n c, .slice A' n' c'] w fun e w' => e = .returned (.bool (decide (xs = ys))) ∧ ∃ m, w' = w.drewN m := by
  have HN := Lib.hid (And.intro hnn hnn')
  clear hnn hnn'
  by_cases hl : n = n'
  · subst hl
    go_enter Try.func26, Try.ntmps26
    go_wp2
    go_loopw [4, 5] (fun _ i wr => ∃ k : Nat, k ≤ n ∧ i = .int .i64 k ∧ Hid (∃ m, wr = w.drewN m) ∧ Hid (∀ j, j < k → ∀ (h1 : j < xs.length) (h2 : j < ys.length), xs[j] = ys[j])) (fun _ i _ => n - (intOf i).toNat)
    case atStart => exact ⟨0, Nat.zero_le _, rfl, Lib.hid ⟨0, rfl⟩, Lib.hid (fun j hj => absurd hj (by omega))⟩
    case round =>
      obtain ⟨k, hk, rfl, hD, hA⟩ := hrel
      have hB : Hid (Below w.heap.size w wr) := Lib.hid (by obtain ⟨m, rfl⟩ := hD.out; exact bdrewN (Below.refl _ _) m)
      by_cases hlt : k < n
      · have hltz : (k : Int) < (n : Int) := by omega
        have hkx : k < xs.length := by rw [← HN.out.1]; exact hlt
        have hky : k < ys.length := by rw [← HN.out.2]; exact hlt
        obtain ⟨b, off, rfl, hc⟩ := held_get hh hB.out hkx
        obtain ⟨b', off', rfl, hc'⟩ := held_get hh' hB.out hky
        obtain ⟨x, hx⟩ : ∃ x, xs[k] = x := ⟨_, rfl⟩
        obtain ⟨y, hy⟩ : ∃ y, ys[k] = y := ⟨_, rfl⟩
        rw [hx] at hc
        rw [hy] at hc'
        have HXY := Lib.hid (And.intro hx hy)
        clear hx hy hh hh'
        by_cases hxy : x = y
        · have hxy2 : (x != y) = false := by simp [hxy]
          go_wp2
          go_quiet (fail)
          go_wp2
          go_roundw
          case measure => simp [intOf]; omega
          case rel =>
            refine ⟨k + 1, by omega, by go_num, Lib.hid (by obtain ⟨m, rfl⟩ := hD.out; exact ⟨m + nq, by rw [World.drewN_drewN]⟩), Lib.hid fun j hj h1 h2 => ?_⟩
            by_cases e : j = k
            · subst e
              rw [HXY.out.1, HXY.out.2, hxy]
            · exact hA.out j (by omega) h1 h2
        · have hxy2 : (x != y) = true := by simp [hxy]
          go_wp2
          go_quiet (fail)
          go_wp2
          go_ret
          refine ⟨ret_bool ?_, by obtain ⟨m, rfl⟩ := hD.out; exact ⟨m + nq, by rw [World.drewN_drewN]⟩⟩
          have : xs ≠ ys := fun e => by
            subst e
            exact hxy (HXY.out.1.symm.trans HXY.out.2)
          simp [this]
      · have hltz : ¬ (k : Int) < (n : Int) := by omega
        go_wp2
        go_ret
        refine ⟨ret_bool ?_, hD.out⟩
        have : xs = ys := List.ext_getElem (by rw [← HN.out.1, HN.out.2]) fun j h1 h2 => hA.out j (by have := HN.out.1; omega) h1 h2
        simp [this]
  · have hlz : ((n : Int) != (n' : Int)) = true := by simp; omega
    have hne : xs ≠ ys := fun e => hl (by rw [HN.out.1, HN.out.2, e])
    have HNE := Lib.hid hne
    clear hne hh hh'
    go_enter Try.func26, Try.ntmps26
    go_wp2
    go_ret
    exact ⟨ret_bool (by simp [HNE.out]), 0, rfl⟩

theorem longs_any (A A' : Option Addr) (n c n' c' : Nat) (xs ys : List Int) (w : World) (hnn : n = xs.length) (hnn' : n' = ys.length)
    (hn : n ≤ 9223372036854775807) (hn' : n' ≤ 9223372036854775807) (hh : Held w w.heap.size 1 encI A xs) (hh' : Held w w.heap.size 1 encI A' ys) :
    Calls Try.prog 26 #[.slice A n c, .slice A' n' c'] w fun e w' => e = .returned (.bool (decide (xs = ys))) ∧ Below w.heap.size w w' :=
  (longs_quiet A A' n c n' c' xs ys w hnn hnn' hn hn' hh hh').mono fun _ _ ⟨he, m, hm⟩ => ⟨he, hm ▸ bdrewN (Below.refl _ _) m⟩

set_option maxHeartbeats 400000 in
theorem great_any (A A' : Option Addr) (n c n' c' : Nat) (w : World) : Calls Try.prog 15 #[.agg #[.slice A n c, .slice A' n' c']] w fun e w' => e = .returned (.bool (decide (12 < n) || decide (18 < n'))) ∧ Below w.heap.size w w' := by
  by_cases h1 : (12 : Int) < n
  · go_enter Try.func15, Try.ntmps15
    go_wp2
    go_ret
    exact ⟨ret_bool (by simp; omega), (Below.refl _ _).alloc (Nat.le_refl _) _⟩
  · by_cases h2 : (18 : Int) < n'
    · go_enter Try.func15, Try.ntmps15
      go_wp2
      go_ret
      exact ⟨ret_bool (by simp; omega), (Below.refl _ _).alloc (Nat.le_refl _) _⟩
    · go_enter Try.func15, Try.ntmps15
      go_wp2
      go_ret
      exact ⟨ret_bool (by simp; omega), (Below.refl _ _).alloc (Nat.le_refl _) _⟩

set_option maxHeartbeats 400000 in
theorem comb_any (x y : Int) (w : World) : Calls Try.prog 83 #[.int .i64 x, .int .i64 y] w fun e w' => e = .returned (.agg #[.int .i64 x, .int .i64 y]) ∧ Ext w w' := by
  go_enter Try.func83, Try.ntmps83
  go_wp2
  refine bodyPost_ret (v := .agg #[.int .i64 x, .int .i64 y]) (by simp [results, Try.f83, go_sem]) rfl ⟨rfl, ?_⟩
  exact ext_alloc _ _

set_option maxHeartbeats 400000 in
theorem rg_any (x y : Int) (w : World) : Calls Try.prog 50 #[.int .i64 x, .int .i64 y] w fun e w' => e = .returned (.agg #[.int .i64 x, .int .i64 y]) ∧ Ext w w' := by
  go_enter Try.func50, Try.ntmps50
  go_wp2
  refine bodyPost_ret (v := .agg #[.int .i64 x, .int .i64 y]) (by simp [results, Try.f50, go_sem]) rfl ⟨rfl, ?_⟩
  exact ext_alloc _ _

set_option maxHeartbeats 400000 in
theorem row_any (x y : Int) (w : World) : Calls Try.prog 43 #[.int .i64 x, .int .i64 y] w fun e w' => e = .returned (.agg #[.int .i64 x, .int .i64 y]) ∧ Ext w w' := by
  go_enter Try.func43, Try.ntmps43
  go_wp2
  refine bodyPost_ret (v := .agg #[.int .i64 x, .int .i64 y]) (by simp [results, Try.f43, go_sem]) rfl ⟨rfl, ?_⟩
  exact ext_alloc _ _
end Go.Proofs.Ytlaakmgdbhabfaa

/- MarksError, IsComb of the reference. -/
namespace Go.Proofs.Ytlaakmgdbhabfaa
open Go.RowKit Go.Shelf

theorem marksOk_at (f : Int) (ms : List (Int × Int)) (k : Nat) (hk : k < ms.length) : marksOk f (ms.drop k) = (decide (f ≤ ms[k].1 ∧ ms[k].1 ≤ 500 ∧ f ≤ ms[k].2 ∧ ms[k].2 ≤ 500 ∧ 0 ≤ ms[k].2 - ms[k].1 ∧ ms[k].2 - ms[k].1 ≤ 3) && marksOk (ms[k].2 + 1) (ms.drop (k + 1))) := by
  rw [List.drop_eq_getElem_cons hk]
  show ([ms[k].1, ms[k].2].all (inside f 500) && ([ms[k].2 - ms[k].1].all (inside 0 3) && marksOk (ms[k].2 + 1) (ms.drop (k + 1)))) = _
  rw [← Bool.and_assoc]
  congr 1
  rw [Bool.eq_iff_iff]
  simp [inside]
  omega

set_option maxRecDepth 100000 in
set_option maxHeartbeats 4000000 in
theorem refMarks_any (A : Option Addr) (n c : Nat) (ms : List (Int × Int)) (w : World) (hnn : n = ms.length) (hn : n ≤ 1000) (hh : Held w w.heap.size 2 encS A ms) :
    Calls Try.prog 66 #[.slice A n c] w fun e w' => e = .returned (.int .i64 (if marksOk 0 ms = true then 0 else 3)) ∧ Ext w w' := by
  have HN := Lib.hid hnn
  have HH := Lib.hid hh
  obtain ⟨ans, hans⟩ : ∃ ans : Int, (if marksOk 0 ms = true then 0 else 3) = ans := ⟨_, rfl⟩
  have HA := Lib.hid hans
  rw [hans]
  clear hnn hh hans
  go_enter Try.func66, Try.ntmps66
  go_wp2
  go_loopw [3, 4] (fun i _ wr => ∃ (k : Nat) (fr : Int), k ≤ n ∧ i = .int .i64 k ∧ Hid (Ext w wr) ∧ Hid (marksOk 0 ms = marksOk fr (ms.drop k)) ∧ Hid ((k = 0 → fr = 0) ∧ (0 < k → fr = (ms.getD (k - 1) (0, 0)).2 + 1 ∧ 0 ≤ fr ∧ fr ≤ 501))) (fun i _ _ => n - (intOf i).toNat)
  case atStart => exact ⟨0, 0, Nat.zero_le _, rfl, Lib.hid (Ext.refl _), Lib.hid rfl, Lib.hid ⟨fun _ => rfl, fun h => absurd h (by omega)⟩⟩
  case round =>
    obtain ⟨k, fr, hk, rfl, hB, hM, hF⟩ := hrel
    by_cases hlt : k < n
    · have hltz : (k : Int) < (n : Int) := by omega
      have hkl : k < ms.length := by have := HN.out; omega
      obtain ⟨b, off, rfl, hbl, d0, d1⟩ := held_pair ((HH.out.kept hB.out (Nat.le_refl _)).wider hB.out.size) hkl
      have hat := marksOk_at fr ms k hkl
      obtain ⟨lo, hi, hlh⟩ : ∃ lo hi, ms[k] = (lo, hi) := ⟨_, _, rfl⟩
      have hgd : ms.getD k (0, 0) = (lo, hi) := by rw [← hlh]; simp [hkl]
      rw [hgd] at d0 d1
      rw [hlh] at hat
      simp only at d0 d1 hat
      have hf := hF.out
      have hm := hM.out
      rw [hat] at hm
      have hprev : 0 < k → ∃ pl ph, fr = ph + 1 ∧ 0 ≤ fr ∧ fr ≤ 501 ∧ wr.cell? ⟨b, off + (k - 1) * 2, none⟩ = some (.int .i64 pl) ∧ wr.cell? ⟨b, off + (k - 1) * 2 + 1, none⟩ = some (.int .i64 ph) := fun hk0 => by
        obtain ⟨b', off', hA', _, x0, x1⟩ := held_pair ((HH.out.kept hB.out (Nat.le_refl _)).wider hB.out.size) (k := k - 1) (by omega)
        cases hA'
        exact ⟨_, _, (hf.2 hk0).1, (hf.2 hk0).2.1, (hf.2 hk0).2.2, x0, x1⟩
      have HP := Lib.hid hprev
      have HG := Lib.hid hgd
      have HM2 := Lib.hid hm
      clear hat hlh hgd hprev hm hM
      go_upto_region 5 with fail
      have hrow : (wr.alloc (.cells #[.int .i64 lo, .int .i64 hi] 75)).heap[wr.heap.size]? = some (.cells #[.int .i64 lo, .int .i64 hi] 75 (0, 0)) := row_last _ _ _ rfl
      have hE1 : Ext wr (wr.alloc (.cells #[.int .i64 lo, .int .i64 hi] 75)) := ext_alloc _ _
      obtain ⟨wm, hwm⟩ : ∃ wm, wr.alloc (.cells #[.int .i64 lo, .int .i64 hi] 75) = wm := ⟨_, rfl⟩
      rw [hwm] at hrow hE1 ⊢
      have HE := Lib.hid (hB.out.trans hE1)
      have HE1 := Lib.hid hE1
      obtain ⟨p, hp⟩ : ∃ p, wr.heap.size = p := ⟨_, rfl⟩
      have HZ := Lib.hid hp
      rw [hp] at hrow ⊢
      have g0 : wm.cell? ⟨p, 0, none⟩ = some (.int .i64 lo) := cell_of_row _ _ _ _ _ _ hrow
      have g1 : wm.cell? ⟨p, 1, none⟩ = some (.int .i64 hi) := cell_of_row _ _ _ _ _ _ hrow
      clear hwm hp hrow hE1 d0 d1
      by_cases c1 : lo < 0
      · have ha : ans = 3 := by
          rw [← HA.out, HM2.out, decide_eq_false (by rintro ⟨h1, _⟩; have := hf.1; have := hf.2; by_cases hk0 : k = 0 <;> omega), Bool.false_and, if_neg (by decide)]
        subst ha
        clear hf
        go_quiet (fail)
        go_wp2
        go_ret
        exact ⟨rfl, bdrewN HE.out _⟩
      · have hw : IntKind.i64.wrap (hi - lo) = hi - lo ∨ True := .inr trivial
        clear hw
        by_cases c2 : hi < lo
        · clear hf
          have ha : ans = 3 := by
            rw [← HA.out, HM2.out, decide_eq_false (by rintro ⟨h1, h2, h3, h4, h5, h6⟩; omega), Bool.false_and, if_neg (by decide)]
          subst ha
          go_quiet (fail)
          go_wp2
          go_ret
          exact ⟨rfl, bdrewN HE.out _⟩
        · by_cases c3 : 500 < hi
          · clear hf
            have ha : ans = 3 := by
              rw [← HA.out, HM2.out, decide_eq_false (by rintro ⟨h1, h2, h3, h4, h5, h6⟩; omega), Bool.false_and, if_neg (by decide)]
            subst ha
            go_quiet (fail)
            go_wp2
            go_ret
            exact ⟨rfl, bdrewN HE.out _⟩
          · have hw : IntKind.i64.wrap (hi - lo) = hi - lo := IntWalk.i64_in _ (by omega)
            by_cases c4 : 3 < hi - lo
            · clear hf
              have ha : ans = 3 := by
                rw [← HA.out, HM2.out, decide_eq_false (by rintro ⟨h1, h2, h3, h4, h5, h6⟩; omega), Bool.false_and, if_neg (by decide)]
              subst ha
              go_quiet (fail)
              go_wp2
              go_ret
              exact ⟨rfl, bdrewN HE.out _⟩
            · by_cases hk0 : 0 < k
              · obtain ⟨pl, ph, hfr, hf0, hf1, x0, x1⟩ := HP.out hk0
                obtain ⟨q, rfl⟩ : ∃ q, k = q + 1 := ⟨k - 1, by omega⟩
                rw [show q + 1 - 1 = q from rfl] at x0 x1
                have y1 : wm.cell? ⟨b, off + q * 2 + 1, none⟩ = some (.int .i64 ph) := (HE1.out.cell (p := ⟨b, off + q * 2 + 1, none⟩) hbl).trans x1
                have y0 : wm.cell? ⟨b, off + q * 2, none⟩ = some (.int .i64 pl) := (HE1.out.cell (p := ⟨b, off + q * 2, none⟩) hbl).trans x0
                have w1 : IntKind.i64.wrap (((q + 1 : Nat) : Int) - 1) = (q : Int) := by rw [show (((q + 1 : Nat) : Int) - 1) = (q : Int) from by omega]; exact IntWalk.i64_in _ (by omega)
                have w2 : IntKind.i64.wrap ((q : Int) + 1 - 1) = (q : Int) := by rw [show ((q : Int) + 1 - 1) = (q : Int) from by omega]; exact IntWalk.i64_in _ (by omega)
                have w3 : IntKind.i64.wrap (q : Int) = (q : Int) := IntWalk.i64_in _ (by omega)
                have hqz : (0 : Int) < (q : Int) + 1 := by omega
                have hqz2 : (0 : Int) < ((q + 1 : Nat) : Int) := by omega
                have hqn : (q : Int) < (n : Int) := by omega
                have hqn2 : q < n := by omega
                clear x0 x1 hf
                by_cases c5 : lo ≤ ph
                · have HFR := Lib.hid hfr
                  clear hfr
                  have ha : ans = 3 := by
                    rw [← HA.out, HM2.out, decide_eq_false (by rintro ⟨h1, h2, h3, h4, h5, h6⟩; have := HFR.out; omega), Bool.false_and, if_neg (by decide)]
                  subst ha
                  go_quiet (fail)
                  go_wp2
                  go_ret
                  exact ⟨rfl, bdrewN HE.out _⟩
                · have HFR := Lib.hid hfr
                  clear hfr
                  have hs : marksOk 0 ms = marksOk (hi + 1) (ms.drop ((q + 1) + 1)) := by
                    rw [HM2.out, decide_eq_true (by have := HFR.out; omega), Bool.true_and]
                  have HS := Lib.hid hs
                  clear hs
                  go_quiet (fail)
                  go_wp2
                  go_roundw
                  case measure => simp [intOf]; omega
                  case rel => exact ⟨(q + 1) + 1, hi + 1, by omega, by go_num, Lib.hid (bdrewN HE.out _), HS, Lib.hid ⟨fun h => absurd h (by omega), fun _ => ⟨by rw [show (q + 1) + 1 - 1 = (q + 1) from rfl, HG.out], by omega, by omega⟩⟩⟩
              · have hkz : ¬ (0 : Int) < (k : Int) := by omega
                have hk00 : k = 0 := by omega
                have hfr := hf.1 hk00
                have HFR := Lib.hid hfr
                clear hk00 hfr hf
                have hs : marksOk 0 ms = marksOk (hi + 1) (ms.drop (k + 1)) := by
                  rw [HM2.out, decide_eq_true (by have := HFR.out; omega), Bool.true_and]
                have HS := Lib.hid hs
                clear hs
                go_quiet (fail)
                go_wp2
                go_roundw
                case measure => simp [intOf]; omega
                case rel => exact ⟨k + 1, hi + 1, by omega, by go_num, Lib.hid (bdrewN HE.out _), HS, Lib.hid ⟨fun h => absurd h (by omega), fun _ => ⟨by rw [show k + 1 - 1 = k from rfl, HG.out], by omega, by omega⟩⟩⟩
    · have hltz : ¬ (k : Int) < (n : Int) := by omega
      have hm := hM.out
      rw [List.drop_of_length_le (by have := HN.out; omega)] at hm
      have ha : ans = 0 := by rw [← HA.out, hm]; rfl
      subst ha
      clear hm
      go_wp2
      go_ret
      exact ⟨rfl, hB.out⟩
end Go.Proofs.Ytlaakmgdbhabfaa

/- CheckSheet, IsComb of the reference. -/
namespace Go.Proofs.Ytlaakmgdbhabfaa
open Go.RowKit Go.Shelf

set_option maxRecDepth 100000 in
set_option maxHeartbeats 4000000 in
theorem refSheet_any {A : Option Addr} {n c : Nat} {A' : Option Addr} {n' c' : Nat} {cs ms : List (Int × Int)} {w : World} (hb : IsSheet w w.heap.size A n c A' n' c' cs ms) :
    Calls Try.prog 24 #[.agg #[.slice A n c, .slice A' n' c']] w fun e w' => e = .returned (.int .i64 (sheetErr cs ms)) ∧ Ext w w' := by
  have hX0 := SheetAt.new hb
  have hE0 : Ext w (w.alloc (.cells #[.slice A n c, .slice A' n' c'] 25)) := ext_alloc w _
  have HN := Lib.hid (And.intro hb.ncs hb.nms)
  obtain ⟨ans, ha⟩ : ∃ ans, sheetErr cs ms = ans := ⟨_, rfl⟩
  have hs : sheetErr cs ms = if (1 ≤ n ∧ n ≤ 8) ∧ 1 ≤ n' ∧ n' ≤ 12 then if cs.all (fun c => !combBad c) then if marksOk 0 ms then 0 else 3 else 2 else 6 := by rw [hb.ncs, hb.nms]; rfl
  rw [ha] at hs ⊢
  have HS := Lib.hid hs
  clear hs ha hb
  go_enter Try.func24, Try.ntmps24
  go_upto_region 1 with fail
  obtain ⟨w0, hw0⟩ : ∃ w0, w.alloc (.cells #[.slice A n c, .slice A' n' c'] 25) = w0 := ⟨_, rfl⟩
  rw [hw0] at hX0 hE0 ⊢
  obtain ⟨p, hp⟩ : ∃ p, w.heap.size = p := ⟨_, rfl⟩
  have HE0 := Lib.hid hE0
  rw [hp] at hX0 ⊢
  have HX0 := Lib.hid hX0
  obtain ⟨q0, q1⟩ := hX0.cells
  have HP := Lib.hid hp
  clear hw0 hE0 hp hX0
  by_cases m1 : (n : Int) < 1
  · have m1' : n < 1 := by omega
    have ha : ans = 6 := by
      have := HS.out
      rw [if_neg (by omega)] at this
      exact this
    subst ha
    go_wp2
    go_ret
    exact ⟨rfl, HE0.out⟩
  · by_cases m2 : (8 : Int) < n
    · have m2' : 8 < n := by omega
      have ha : ans = 6 := by
        have := HS.out
        rw [if_neg (by omega)] at this
        exact this
      subst ha
      go_wp2
      go_ret
      exact ⟨rfl, HE0.out⟩
    · by_cases m3 : (n' : Int) < 1
      · have m3' : n' < 1 := by omega
        have ha : ans = 6 := by
          have := HS.out
          rw [if_neg (by omega)] at this
          exact this
        subst ha
        go_wp2
        go_ret
        exact ⟨rfl, HE0.out⟩
      · by_cases m4 : (12 : Int) < n'
        · have m4' : 12 < n' := by omega
          have ha : ans = 6 := by
            have := HS.out
            rw [if_neg (by omega)] at this
            exact this
          subst ha
          go_wp2
          go_ret
          exact ⟨rfl, HE0.out⟩
        · have hs := HS.out
          rw [if_pos (by omega)] at hs
          have HS1 := Lib.hid hs
          clear hs
          have m1' : ¬ n < 1 := by omega
          have m2' : ¬ 8 < n := by omega
          have m3' : ¬ n' < 1 := by omega
          have m4' : ¬ 12 < n' := by omega
          go_wp2
          go_loopw [3, 4] (fun i _ wr => ∃ k : Nat, k ≤ n ∧ i = .int .i64 k ∧ Hid (Ext w0 wr) ∧ Hid (∀ j, j < k → ∀ (h : j < cs.length), combBad cs[j] = false)) (fun i _ _ => n - (intOf i).toNat)
          case atStart => exact ⟨0, Nat.zero_le _, rfl, Lib.hid (Ext.refl _), Lib.hid (fun j hj => absurd hj (by omega))⟩
          case round =>
            obtain ⟨k, hk, rfl, hB, hG⟩ := hrel
            clear q0 q1
            have hX := HX0.out.ext hB.out
            obtain ⟨q0, q1⟩ := hX.cells
            by_cases hlt : k < n
            · have hltz : (k : Int) < (n : Int) := by omega
              have hkl : k < cs.length := by have := HN.out.1; omega
              obtain ⟨b, off, rfl, hbl, d0, d1⟩ := held_pair hX.sheet.hcs hkl
              obtain ⟨x, hx⟩ : ∃ x, cs[k] = x := ⟨_, rfl⟩
              have hgd : cs.getD k (0, 0) = x := by rw [← hx]; simp [hkl]
              rw [hgd] at d0 d1
              have HX := Lib.hid hx
              have HE1 := Lib.hid ((HE0.out.trans hB.out).trans (ext_alloc wr (.cells #[.int .i64 x.1, .int .i64 x.2] 65)))
              have HB1 := Lib.hid (hB.out.trans (ext_alloc wr (.cells #[.int .i64 x.1, .int .i64 x.2] 65)))
              have hpw : p ≠ wr.heap.size := by have := (Array.getElem?_eq_some_iff.1 hX.row).1; omega
              clear hx hgd hX
              by_cases c1 : x.1 < 1
              · have ha := HS1.out
                rw [if_neg (by
                  rw [List.all_eq_true]
                  intro h
                  have h2 := h x (by rw [← HX.out]; exact List.getElem_mem hkl)
                  simp [combBad, inside] at h2
                  omega)] at ha
                subst ha
                go_wp2
                go_ret
                exact ⟨rfl, HE1.out⟩
              · by_cases c2 : 50 < x.1
                · have ha := HS1.out
                  rw [if_neg (by
                    rw [List.all_eq_true]
                    intro h
                    have h2 := h x (by rw [← HX.out]; exact List.getElem_mem hkl)
                    simp [combBad, inside] at h2
                    omega)] at ha
                  subst ha
                  go_wp2
                  go_ret
                  exact ⟨rfl, HE1.out⟩
                · by_cases c3 : x.2 < 2
                  · have ha := HS1.out
                    rw [if_neg (by
                      rw [List.all_eq_true]
                      intro h
                      have h2 := h x (by rw [← HX.out]; exact List.getElem_mem hkl)
                      simp [combBad, inside] at h2
                      omega)] at ha
                    subst ha
                    go_wp2
                    go_ret
                    exact ⟨rfl, HE1.out⟩
                  · by_cases c4 : 20 < x.2
                    · have ha := HS1.out
                      rw [if_neg (by
                        rw [List.all_eq_true]
                        intro h
                        have h2 := h x (by rw [← HX.out]; exact List.getElem_mem hkl)
                        simp [combBad, inside] at h2
                        omega)] at ha
                      subst ha
                      go_wp2
                      go_ret
                      exact ⟨rfl, HE1.out⟩
                    · have hgood : combBad x = false := by simp [combBad, inside]; omega
                      have HGD := Lib.hid hgood
                      clear hgood
                      go_wp2
                      go_roundw
                      case measure => simp [intOf]; omega
                      case rel =>
                        refine ⟨k + 1, by omega, by go_num, HB1, Lib.hid fun j hj h => ?_⟩
                        by_cases e : j = k
                        · subst e
                          rw [HX.out]
                          exact HGD.out
                        · exact hG.out j (by omega) h
            · have hltz : ¬ (k : Int) < (n : Int) := by omega
              have ha := HS1.out
              rw [if_pos (by
                rw [List.all_eq_true]
                intro x hx
                obtain ⟨j, hj, e⟩ := List.getElem_of_mem hx
                have := hG.out j (by have := HN.out.1; omega) hj
                rw [e] at this
                simp [this])] at ha
              have hms := refMarks_any A' n' c' ms wr HN.out.2 (by omega) hX.sheet.hms
              rw [← ha] at *
              clear ha hX
              go_wp2_with fail
              refine hms.mono ?_
              rintro e w2 ⟨rfl, e2⟩
              go_wp2
              go_ret
              exact ⟨rfl, (HE0.out.trans hB.out).trans e2⟩

/-- IsComb. -/
theorem isComb_any {A : Option Addr} {n c : Nat} {A' : Option Addr} {n' c' : Nat} (v : Int) (w : World) : Calls Try.prog 58 #[.agg #[.slice A n c, .slice A' n' c'], .int .i64 v] w fun e w' => e = .returned (.bool (!strange n (v, 0))) ∧ Ext w w' := by
  by_cases h1 : 0 ≤ v
  · by_cases h2 : v < (n : Int)
    · go_enter Try.func58, Try.ntmps58
      go_wp2
      go_ret
      exact ⟨ret_bool (by simp [strange]; omega), ext_alloc _ _⟩
    · go_enter Try.func58, Try.ntmps58
      go_wp2
      go_ret
      exact ⟨ret_bool (by simp [strange]; omega), ext_alloc _ _⟩
  · go_enter Try.func58, Try.ntmps58
    go_wp2
    go_ret
    exact ⟨ret_bool (by simp [strange]; omega), ext_alloc _ _⟩
end Go.Proofs.Ytlaakmgdbhabfaa

/- List of the reference: the numbers of the bits of a number. -/
namespace Go.Proofs.Ytlaakmgdbhabfaa
open Go.RowKit Go.Shelf

theorem bits_or (a b : Nat) (ha : a < 2 ^ 62) (hb : b < 2 ^ 62) : bits .or .i64 (a : Int) (b : Int) = ((a ||| b : Nat) : Int) := by
  unfold bits
  have h1 : (a ||| b) < 2 ^ 62 := Nat.or_lt_two_pow ha hb
  have hw : IntKind.i64.wrap ((a ||| b : Nat) : Int) = ((a ||| b : Nat) : Int) := IntWalk.i64_in _ (by omega)
  have e : (BitVec.ofInt IntKind.i64.bits (a : Int) ||| BitVec.ofInt IntKind.i64.bits (b : Int)).toNat = a ||| b := by
    rw [BitVec.toNat_or, BitVec.ofInt_natCast, BitVec.ofInt_natCast, BitVec.toNat_ofNat, BitVec.toNat_ofNat, Nat.mod_eq_of_lt (show a < 2 ^ IntKind.i64.bits from Nat.lt_trans ha (by decide)), Nat.mod_eq_of_lt (show b < 2 ^ IntKind.i64.bits from Nat.lt_trans hb (by decide))]
  simp only [e, hw]
end Go.Proofs.Ytlaakmgdbhabfaa

/- CombMoved: its drawn regions that make two variables. -/
namespace Go.Proofs.Ytlaakmgdbhabfaa
open Go.RowKit Go.Shelf
attribute [local irreducible] bitCells

/-- Two variables that a region makes and stores into, while its operations are listed: L. -/
def Box2 (B i1 j1 i2 j2 : Nat) (d1 d2 : Tmp) (t : TypeId) (z f1 f2 : Array Value) (L : Nat → Bool) (a : Act) (W : World) : Prop :=
  ∃ g1 g2, (L i1 = true → a.eval (.tmp d1) = .pointer (some ⟨g1, 0, none⟩) ∧ B ≤ g1 ∧ W.heap[g1]? = some (.cells (if L j1 then f1 else z) t (0, 0))) ∧
    (L i2 = true → a.eval (.tmp d2) = .pointer (some ⟨g2, 0, none⟩) ∧ B ≤ g2 ∧ W.heap[g2]? = some (.cells (if L j2 then f2 else z) t (0, 0))) ∧
    (L i1 = true → L i2 = true → g1 ≠ g2) ∧ (L i1 = false → L j1 = false) ∧ (L i2 = false → L j2 = false)
section
variable {B i1 j1 i2 j2 : Nat} {d1 d2 : Tmp} {t : TypeId} {z f1 f2 : Array Value} {L : Nat → Bool} {a : Act} {W W' : World}
theorem Box2.start : Box2 B i1 j1 i2 j2 d1 d2 t z f1 f2 (fun _ => false) a W := ⟨0, 0, fun h => (by cases h), fun h => (by cases h), fun h => (by cases h), fun _ => rfl, fun _ => rfl⟩
theorem Box2.swap (h : Box2 B i1 j1 i2 j2 d1 d2 t z f1 f2 L a W) : Box2 B i2 j2 i1 j1 d2 d1 t z f2 f1 L a W := by
  obtain ⟨g1, g2, h1, h2, h3, h4, h5⟩ := h
  exact ⟨g2, g1, h2, h1, fun x y e => h3 y x e.symm, h5, h4⟩
theorem Box2.stay (h : Box2 B i1 j1 i2 j2 d1 d2 t z f1 f2 L a W) (e : Below W.heap.size W W') {i : Nat} (n1 : i1 ≠ i) (n2 : i2 ≠ i) (n3 : j1 ≠ i) (n4 : j2 ≠ i) {d : Tmp} (m1 : d1 ≠ d) (m2 : d2 ≠ d) (v : Value) :
    Box2 B i1 j1 i2 j2 d1 d2 t z f1 f2 (fun j => decide (j = i) || L j) (a.put (some d) v) W' := by
  obtain ⟨g1, g2, h1, h2, h3, h4, h5⟩ := h
  refine ⟨g1, g2, ?_, ?_, ?_, ?_, ?_⟩ <;> simp only [n1, n2, n3, n4, decide_false, Bool.false_or]
  · intro h
    obtain ⟨q1, q2, q3⟩ := h1 h
    exact ⟨(eval_put_other m1).trans q1, q2, row_ext q3 e⟩
  · intro h
    obtain ⟨q1, q2, q3⟩ := h2 h
    exact ⟨(eval_put_other m2).trans q1, q2, row_ext q3 e⟩
  · exact h3
  · exact h4
  · exact h5
theorem Box2.alloc (h : Box2 B i1 j1 i2 j2 d1 d2 t z f1 f2 L a W) (hB : B ≤ W.heap.size) (hL : L i1 = false) (n1 : j1 ≠ i1) (n2 : i2 ≠ i1) (n3 : j2 ≠ i1) (m : d2 ≠ d1) (hsz : d1 < a.tmps.size) :
    Box2 B i1 j1 i2 j2 d1 d2 t z f1 f2 (fun j => decide (j = i1) || L j) (a.put (some d1) (.pointer (some ⟨W.heap.size, 0, none⟩))) (W.alloc (.cells z t)) := by
  obtain ⟨g1, g2, h1, h2, h3, h4, h5⟩ := h
  refine ⟨W.heap.size, g2, ?_, ?_, ?_, ?_, ?_⟩ <;> simp only [n1, n2, n3, decide_false, Bool.false_or, decide_true, Bool.true_or]
  · intro _
    refine ⟨eval_put_same hsz, hB, ?_⟩
    rw [h4 hL]
    exact row_last _ _ _ rfl
  · intro h
    obtain ⟨q1, q2, q3⟩ := h2 h
    exact ⟨(eval_put_other m).trans q1, q2, row_alloc _ _ _ _ q3⟩
  · intro _ h e
    obtain ⟨_, _, q3⟩ := h2 h
    have := (Array.getElem?_eq_some_iff.1 q3).1
    omega
  · intro h; cases h
  · exact h5
theorem Box2.at1 (h : Box2 B i1 j1 i2 j2 d1 d2 t z f1 f2 L a W) (hL : L i1 = true) (hj : L j1 = false) : ∃ g, a.eval (.tmp d1) = .pointer (some ⟨g, 0, none⟩) ∧ B ≤ g ∧ W.heap[g]? = some (.cells z t (0, 0)) := by
  obtain ⟨g1, g2, h1, _⟩ := h
  obtain ⟨q1, q2, q3⟩ := h1 hL
  rw [hj] at q3
  exact ⟨g1, q1, q2, q3⟩
theorem Box2.store (h : Box2 B i1 j1 i2 j2 d1 d2 t z f1 f2 L a W) (hL : L i1 = true) {g : Nat} (hg : a.eval (.tmp d1) = .pointer (some ⟨g, 0, none⟩)) (n1 : i1 ≠ j1) (n2 : i2 ≠ j1) (n3 : j2 ≠ j1)
    (hs : ∀ k, k ≠ g → W'.heap[k]? = W.heap[k]?) (hw : W'.heap[g]? = some (.cells f1 t (0, 0))) : Box2 B i1 j1 i2 j2 d1 d2 t z f1 f2 (fun j => decide (j = j1) || L j) a W' := by
  obtain ⟨g1, g2, h1, h2, h3, h4, h5⟩ := h
  obtain ⟨q1, q2, q3⟩ := h1 hL
  rw [hg] at q1
  obtain rfl : g = g1 := by injection q1 with q; injection q with q; injection q
  refine ⟨g, g2, ?_, ?_, ?_, ?_, ?_⟩ <;> simp only [n1, n2, n3, decide_false, Bool.false_or, decide_true, Bool.true_or]
  · exact fun _ => ⟨hg, q2, hw⟩
  · intro h
    obtain ⟨r1, r2, r3⟩ := h2 h
    exact ⟨r1, r2, (hs g2 (fun e => h3 hL h e.symm)).trans r3⟩
  · exact h3
  · intro h; rw [h] at hL; cases hL
  · exact h5
end
theorem set2_other (W : World) (g : Nat) (x y : Value) (k : Nat) (hk : k ≠ g) : ((W.setCell ⟨g, 0, none⟩ x).setCell ⟨g, 1, none⟩ y).heap[k]? = W.heap[k]? := (heap_set_other _ _ _ _ _ hk).trans (heap_set_other _ _ _ _ _ hk)
theorem set2_row (W : World) (g : Nat) (x y x0 y0 : Value) (t : TypeId) (h : W.heap[g]? = some (.cells #[x0, y0] t (0, 0))) : ((W.setCell ⟨g, 0, none⟩ x).setCell ⟨g, 1, none⟩ y).heap[g]? = some (.cells #[x, y] t (0, 0)) := by
  have h1 := row_setCell W g 0 x _ t _ h
  exact row_setCell _ g 1 y _ t _ h1

def mb4D (i : Nat) : Tmp := if i = 0 then 46 else if i = 1 then 47 else if i = 2 then 48 else if i = 3 then 49 else if i = 4 then 50 else if i = 5 then 51 else if i = 6 then 9 else if i = 7 then 10 else if i = 8 then 318 else 319
def mb4V (p : Nat) (A : Option Addr) (n c : Nat) (ix : Nat) : Value :=
  match ix with
  | 0 => .pointer (some ⟨p, 0, none⟩)
  | 1 => .slice A n c
  | 2 => .agg #[.slice A n c, .slice none 0 0]
  | 3 => .pointer (some ⟨p, 0, none⟩)
  | 4 => .slice A n c
  | 5 => .agg #[.slice A n c, .slice none 0 0]
  | _ => undef
def mb4P (i : Nat) : Bool := decide (i ≠ 6) && decide (i ≠ 7) && decide (i ≠ 8) && decide (i ≠ 9)
noncomputable def mb4Reg : Array Oper := (Try.f12.body.bind (regionOf · 4)).getD #[]
section
variable {p : Nat} {A : Option Addr} {n c : Nat} {Q : Exit → Act → World → Prop} {a : Act} {V W W0 : World} {o : Oper} {L : Nat → Bool}
set_option maxHeartbeats 1000000 in
theorem mb4_op0 (o3 : a.eval (.tmp 3) = .pointer (some ⟨p, 0, none⟩)) (ho : mb4Reg[0]? = some o) : o.wp Try.prog a W (fun a'' W' => ∃ v, a'' = a.put o.dst v ∧ v = mb4V p A n c 0 ∧ Below W.heap.size W W') Q := by
  have hop := op_at ho (·.op) (x := Op.fieldAddr 25 (Operand.tmp 3) 0) (by kernel_rfl)
  exact specs_value (R := fun v _ => v = mb4V p A n c 0) (v := .pointer (some ⟨p, 0, none⟩)) (by simp [execOp, hop, go_sem, ev o3]) rfl (Ext.refl W)
set_option maxHeartbeats 1000000 in
theorem mb4_op1 (q0 : ∀ W, Ext V W → W.cell? ⟨p, 0, none⟩ = some (.slice A n c)) (hB : Ext V W) (haft : ∀ j, (o.after.any fun e => decide (e.on = j) && Region.binds .any e) = true → mb4P j = true → a.eval (.tmp (mb4D j)) = mb4V p A n c j) (ho : mb4Reg[1]? = some o) : o.wp Try.prog a W (fun a'' W' => ∃ v, a'' = a.put o.dst v ∧ v = mb4V p A n c 1 ∧ Below W.heap.size W W') Q := by
  have hop := op_at ho (·.op) (x := Op.load 22 (Operand.tmp 46)) (by kernel_rfl)
  have e0 : a.eval (.tmp 46) = .pointer (some ⟨p, 0, none⟩) := haft 0 (op_at ho (fun o => o.after.any fun e => decide (e.on = 0) && Region.binds .any e) (x := true) (by kernel_rfl)) rfl
  have q0' := q0 W hB
  exact specs_value (R := fun v _ => v = mb4V p A n c 1) (v := .slice A n c) (by simp [execOp, hop, go_sem, ev e0, q0']) rfl (Ext.refl W)
set_option maxHeartbeats 1000000 in
theorem mb4_op2 (haft : ∀ j, (o.after.any fun e => decide (e.on = j) && Region.binds .any e) = true → mb4P j = true → a.eval (.tmp (mb4D j)) = mb4V p A n c j) (ho : mb4Reg[2]? = some o) : o.wp Try.prog a W (fun a'' W' => ∃ v, a'' = a.put o.dst v ∧ v = mb4V p A n c 2 ∧ Below W.heap.size W W') Q := by
  have hop := op_at ho (·.op) (x := Op.build 25 #[(0, Operand.tmp 47)]) (by kernel_rfl)
  have e1 : a.eval (.tmp 47) = .slice A n c := haft 1 (op_at ho (fun o => o.after.any fun e => decide (e.on = 1) && Region.binds .any e) (x := true) (by kernel_rfl)) rfl
  exact specs_value (R := fun v _ => v = mb4V p A n c 2) (v := .agg #[.slice A n c, .slice none 0 0]) (by simp [execOp, hop, go_sem, ev e1]) rfl (Ext.refl W)
set_option maxHeartbeats 1000000 in
theorem mb4_op3 (o3 : a.eval (.tmp 3) = .pointer (some ⟨p, 0, none⟩)) (ho : mb4Reg[3]? = some o) : o.wp Try.prog a W (fun a'' W' => ∃ v, a'' = a.put o.dst v ∧ v = mb4V p A n c 3 ∧ Below W.heap.size W W') Q := by
  have hop := op_at ho (·.op) (x := Op.fieldAddr 25 (Operand.tmp 3) 0) (by kernel_rfl)
  exact specs_value (R := fun v _ => v = mb4V p A n c 3) (v := .pointer (some ⟨p, 0, none⟩)) (by simp [execOp, hop, go_sem, ev o3]) rfl (Ext.refl W)
set_option maxHeartbeats 1000000 in
theorem mb4_op4 (q0 : ∀ W, Ext V W → W.cell? ⟨p, 0, none⟩ = some (.slice A n c)) (hB : Ext V W) (haft : ∀ j, (o.after.any fun e => decide (e.on = j) && Region.binds .any e) = true → mb4P j = true → a.eval (.tmp (mb4D j)) = mb4V p A n c j) (ho : mb4Reg[4]? = some o) : o.wp Try.prog a W (fun a'' W' => ∃ v, a'' = a.put o.dst v ∧ v = mb4V p A n c 4 ∧ Below W.heap.size W W') Q := by
  have hop := op_at ho (·.op) (x := Op.load 22 (Operand.tmp 49)) (by kernel_rfl)
  have e3 : a.eval (.tmp 49) = .pointer (some ⟨p, 0, none⟩) := haft 3 (op_at ho (fun o => o.after.any fun e => decide (e.on = 3) && Region.binds .any e) (x := true) (by kernel_rfl)) rfl
  have q0' := q0 W hB
  exact specs_value (R := fun v _ => v = mb4V p A n c 4) (v := .slice A n c) (by simp [execOp, hop, go_sem, ev e3, q0']) rfl (Ext.refl W)
set_option maxHeartbeats 1000000 in
theorem mb4_op5 (haft : ∀ j, (o.after.any fun e => decide (e.on = j) && Region.binds .any e) = true → mb4P j = true → a.eval (.tmp (mb4D j)) = mb4V p A n c j) (ho : mb4Reg[5]? = some o) : o.wp Try.prog a W (fun a'' W' => ∃ v, a'' = a.put o.dst v ∧ v = mb4V p A n c 5 ∧ Below W.heap.size W W') Q := by
  have hop := op_at ho (·.op) (x := Op.build 25 #[(0, Operand.tmp 50)]) (by kernel_rfl)
  have e4 : a.eval (.tmp 50) = .slice A n c := haft 4 (op_at ho (fun o => o.after.any fun e => decide (e.on = 4) && Region.binds .any e) (x := true) (by kernel_rfl)) rfl
  exact specs_value (R := fun v _ => v = mb4V p A n c 5) (v := .agg #[.slice A n c, .slice none 0 0]) (by simp [execOp, hop, go_sem, ev e4]) rfl (Ext.refl W)
theorem mb4_op6 (hM : Box2 W0.heap.size 6 8 7 9 9 10 25 #[.slice none 0 0, .slice none 0 0] #[.slice A n c, .slice none 0 0] #[.slice A n c, .slice none 0 0] L a W) (hE : Ext W0 W) (ha : a.tmps.size = 310) (hL : L 6 = false) (ho : mb4Reg[6]? = some o) : o.wp Try.prog a W (fun a'' W' => ∃ v, a'' = a.put o.dst v ∧ Ext W0 W' ∧ Box2 W0.heap.size 6 8 7 9 9 10 25 #[.slice none 0 0, .slice none 0 0] #[.slice A n c, .slice none 0 0] #[.slice A n c, .slice none 0 0] (fun j => decide (j = 6) || L j) a'' W') Q := by
  have hop := op_at ho (·.op) (x := Op.alloc 25) (by kernel_rfl)
  have hd := op_at ho (·.dst) (x := some 9) (by kernel_rfl)
  have hr : (execOp a.eval o).run Try.prog W = .ok (.value (.pointer (some ⟨W.heap.size, 0, none⟩))) (W.alloc (.cells #[.slice none 0 0, .slice none 0 0] 25)) := by simp [execOp, hop, go_sem]
  unfold Oper.wp
  rw [hr]
  refine ⟨_, rfl, hE.trans (ext_alloc _ _), ?_⟩
  rw [hd]
  exact (Box2.alloc hM hE.size hL (by decide) (by decide) (by decide) (by decide) (by rw [ha]; decide))
theorem mb4_op7 (hM : Box2 W0.heap.size 6 8 7 9 9 10 25 #[.slice none 0 0, .slice none 0 0] #[.slice A n c, .slice none 0 0] #[.slice A n c, .slice none 0 0] L a W) (hE : Ext W0 W) (ha : a.tmps.size = 310) (hL : L 7 = false) (ho : mb4Reg[7]? = some o) : o.wp Try.prog a W (fun a'' W' => ∃ v, a'' = a.put o.dst v ∧ Ext W0 W' ∧ Box2 W0.heap.size 6 8 7 9 9 10 25 #[.slice none 0 0, .slice none 0 0] #[.slice A n c, .slice none 0 0] #[.slice A n c, .slice none 0 0] (fun j => decide (j = 7) || L j) a'' W') Q := by
  have hop := op_at ho (·.op) (x := Op.alloc 25) (by kernel_rfl)
  have hd := op_at ho (·.dst) (x := some 10) (by kernel_rfl)
  have hr : (execOp a.eval o).run Try.prog W = .ok (.value (.pointer (some ⟨W.heap.size, 0, none⟩))) (W.alloc (.cells #[.slice none 0 0, .slice none 0 0] 25)) := by simp [execOp, hop, go_sem]
  unfold Oper.wp
  rw [hr]
  refine ⟨_, rfl, hE.trans (ext_alloc _ _), ?_⟩
  rw [hd]
  exact (Box2.alloc hM.swap hE.size hL (by decide) (by decide) (by decide) (by decide) (by rw [ha]; decide)).swap
set_option maxHeartbeats 1000000 in
theorem mb4_op8 (hM : Box2 W0.heap.size 6 8 7 9 9 10 25 #[.slice none 0 0, .slice none 0 0] #[.slice A n c, .slice none 0 0] #[.slice A n c, .slice none 0 0] L a W) (hE : Ext W0 W) (hL : L 8 = false) (haft : ∀ j, (o.after.any fun e => decide (e.on = j) && Region.binds .any e) = true → L j = true ∧ (mb4P j = true → a.eval (.tmp (mb4D j)) = mb4V p A n c j)) (ho : mb4Reg[8]? = some o) : o.wp Try.prog a W (fun a'' W' => ∃ v, a'' = a.put o.dst v ∧ Ext W0 W' ∧ Box2 W0.heap.size 6 8 7 9 9 10 25 #[.slice none 0 0, .slice none 0 0] #[.slice A n c, .slice none 0 0] #[.slice A n c, .slice none 0 0] (fun j => decide (j = 8) || L j) a'' W') Q := by
  have hop := op_at ho (·.op) (x := Op.store 25 (Operand.tmp 9) (Operand.tmp 48)) (by kernel_rfl)
  have hd := op_at ho (·.dst) (x := none) (by kernel_rfl)
  have hLi : L 6 = true := (haft 6 (op_at ho (fun o => o.after.any fun e => decide (e.on = 6) && Region.binds .any e) (x := true) (by kernel_rfl))).1
  have ev1 : a.eval (.tmp 48) = .agg #[.slice A n c, .slice none 0 0] := (haft 2 (op_at ho (fun o => o.after.any fun e => decide (e.on = 2) && Region.binds .any e) (x := true) (by kernel_rfl))).2 rfl
  obtain ⟨g, hg, hBg, hrow⟩ := hM.at1 hLi hL
  have fz0 : W.frozen? ⟨g, 0, none⟩ = false := by simp [World.frozen?, hrow]
  have fz1 : ∀ x, (W.setCell ⟨g, 0, none⟩ x).frozen? ⟨g, 1, none⟩ = false := fun x => by simp [World.frozen?, World.setCell, Array.getElem?_modify, hrow]
  have cl0 : W.cell? ⟨g, 0, none⟩ = some (.slice none 0 0) := cell_of_row _ _ _ _ _ _ hrow
  have cl1 : ∀ x, (W.setCell ⟨g, 0, none⟩ x).cell? ⟨g, 1, none⟩ = some (.slice none 0 0) := fun x => cell_of_row _ _ _ _ _ _ (row_setCell W g 0 x _ 25 _ hrow)
  have hr : (execOp a.eval o).run Try.prog W = .ok .skip ((W.setCell ⟨g, 0, none⟩ (.slice A n c)).setCell ⟨g, 1, none⟩ (.slice none 0 0)) := by simp [execOp, hop, go_sem, ev hg, ev ev1, fz0, fz1, cl0, cl1]
  unfold Oper.wp
  rw [hr]
  refine ⟨undef, rfl, (hE.setCell (p := ⟨g, 0, none⟩) hBg _).setCell (p := ⟨g, 1, none⟩) hBg _, ?_⟩
  rw [hd]
  exact (Box2.store hM hLi hg (by decide) (by decide) (by decide) (fun k hk => set2_other _ _ _ _ k hk) (set2_row _ _ _ _ _ _ _ hrow))
set_option maxHeartbeats 1000000 in
theorem mb4_op9 (hM : Box2 W0.heap.size 6 8 7 9 9 10 25 #[.slice none 0 0, .slice none 0 0] #[.slice A n c, .slice none 0 0] #[.slice A n c, .slice none 0 0] L a W) (hE : Ext W0 W) (hL : L 9 = false) (haft : ∀ j, (o.after.any fun e => decide (e.on = j) && Region.binds .any e) = true → L j = true ∧ (mb4P j = true → a.eval (.tmp (mb4D j)) = mb4V p A n c j)) (ho : mb4Reg[9]? = some o) : o.wp Try.prog a W (fun a'' W' => ∃ v, a'' = a.put o.dst v ∧ Ext W0 W' ∧ Box2 W0.heap.size 6 8 7 9 9 10 25 #[.slice none 0 0, .slice none 0 0] #[.slice A n c, .slice none 0 0] #[.slice A n c, .slice none 0 0] (fun j => decide (j = 9) || L j) a'' W') Q := by
  have hop := op_at ho (·.op) (x := Op.store 25 (Operand.tmp 10) (Operand.tmp 51)) (by kernel_rfl)
  have hd := op_at ho (·.dst) (x := none) (by kernel_rfl)
  have hLi : L 7 = true := (haft 7 (op_at ho (fun o => o.after.any fun e => decide (e.on = 7) && Region.binds .any e) (x := true) (by kernel_rfl))).1
  have ev1 : a.eval (.tmp 51) = .agg #[.slice A n c, .slice none 0 0] := (haft 5 (op_at ho (fun o => o.after.any fun e => decide (e.on = 5) && Region.binds .any e) (x := true) (by kernel_rfl))).2 rfl
  obtain ⟨g, hg, hBg, hrow⟩ := hM.swap.at1 hLi hL
  have fz0 : W.frozen? ⟨g, 0, none⟩ = false := by simp [World.frozen?, hrow]
  have fz1 : ∀ x, (W.setCell ⟨g, 0, none⟩ x).frozen? ⟨g, 1, none⟩ = false := fun x => by simp [World.frozen?, World.setCell, Array.getElem?_modify, hrow]
  have cl0 : W.cell? ⟨g, 0, none⟩ = some (.slice none 0 0) := cell_of_row _ _ _ _ _ _ hrow
  have cl1 : ∀ x, (W.setCell ⟨g, 0, none⟩ x).cell? ⟨g, 1, none⟩ = some (.slice none 0 0) := fun x => cell_of_row _ _ _ _ _ _ (row_setCell W g 0 x _ 25 _ hrow)
  have hr : (execOp a.eval o).run Try.prog W = .ok .skip ((W.setCell ⟨g, 0, none⟩ (.slice A n c)).setCell ⟨g, 1, none⟩ (.slice none 0 0)) := by simp [execOp, hop, go_sem, ev hg, ev ev1, fz0, fz1, cl0, cl1]
  unfold Oper.wp
  rw [hr]
  refine ⟨undef, rfl, (hE.setCell (p := ⟨g, 0, none⟩) hBg _).setCell (p := ⟨g, 1, none⟩) hBg _, ?_⟩
  rw [hd]
  exact (Box2.store hM.swap hLi hg (by decide) (by decide) (by decide) (fun k hk => set2_other _ _ _ _ k hk) (set2_row _ _ _ _ _ _ _ hrow)).swap
theorem mb4_size : mb4Reg.size = 10 := by kernel_rfl
set_option maxRecDepth 100000 in
set_option maxHeartbeats 4000000 in
/-- Region 4 of function 12. -/
theorem mb4_wp {id : Nat} (hlen : a.tmps.size = 310) (o3 : a.eval (.tmp 3) = .pointer (some ⟨p, 0, none⟩)) (q0 : ∀ W, Ext V W → W.cell? ⟨p, 0, none⟩ = some (.slice A n c))
    (K : ∀ (W : World) (g1 g2 : Nat), Ext V W → V.heap.size ≤ g1 → V.heap.size ≤ g2 → g1 ≠ g2 → W.heap[g1]? = some (.cells #[.slice A n c, .slice none 0 0] 25 (0, 0)) → W.heap[g2]? = some (.cells #[.slice A n c, .slice none 0 0] 25 (0, 0)) → Q .normal (puts a [(46, .pointer (some ⟨p, 0, none⟩)), (47, .slice A n c), (48, .agg #[.slice A n c, .slice none 0 0]), (49, .pointer (some ⟨p, 0, none⟩)), (50, .slice A n c), (51, .agg #[.slice A n c, .slice none 0 0]), (9, .pointer (some ⟨g1, 0, none⟩)), (10, .pointer (some ⟨g2, 0, none⟩))]) W) : (Code.region id mb4Reg true).wp Try.prog Q a V := by
  have hsize := mb4_size
  refine wp_region_mem (W0 := V) mb4P (mb4V p A n c) mb4D (Box2 V.heap.size 6 8 7 9 9 10 25 #[.slice none 0 0, .slice none 0 0] #[.slice A n c, .slice none 0 0] #[.slice A n c, .slice none 0 0]) (by kernel_rfl) (by rw [hlen]; kernel_rfl) (⟨rfl, rfl, rfl, Nat.le_refl _, fun _ _ => rfl⟩ : Below V.heap.size V { V with drawn := V.drawn + 1 }) Box2.start ?_ ?_ ?_ ?_
  · intro L a' W W' i v hi hp hM _ e hsz
    rw [hsize] at hi
    refine Box2.stay hM e (fun h => ?_) (fun h => ?_) (fun h => ?_) (fun h => ?_) (fun h => ?_) (fun h => ?_) v
    all_goals first
      | (subst h; revert hp; decide)
      | (revert hp h; revert i; decide)
  · intro i o ho hp a' W hB hsz hold haft
    have hi : i < 10 := by
      have h1 := (Array.getElem?_eq_some_iff.1 ho).1
      omega
    match i, hi with
    | 0, _ => exact mb4_op0 ((hold 3 (by rw [hsize]; kernel_rfl)).trans o3) ho
    | 1, _ => exact mb4_op1 q0 hB haft ho
    | 2, _ => exact mb4_op2 haft ho
    | 3, _ => exact mb4_op3 ((hold 3 (by rw [hsize]; kernel_rfl)).trans o3) ho
    | 4, _ => exact mb4_op4 q0 hB haft ho
    | 5, _ => exact mb4_op5 haft ho
    | 6, _ => exact absurd hp (by decide)
    | 7, _ => exact absurd hp (by decide)
    | 8, _ => exact absurd hp (by decide)
    | 9, _ => exact absurd hp (by decide)
    | m + 10, h => exact absurd h (by omega)
  · intro i o ho hp L a' W hE hsz hold haft hL hM
    have hi : i < 10 := by
      have h1 := (Array.getElem?_eq_some_iff.1 ho).1
      omega
    match i, hi with
    | 6, _ => exact mb4_op6 hM hE (hsz.trans hlen) hL ho
    | 7, _ => exact mb4_op7 hM hE (hsz.trans hlen) hL ho
    | 8, _ => exact mb4_op8 hM hE hL haft ho
    | 9, _ => exact mb4_op9 hM hE hL haft ho
    | 0, _ => exact absurd hp (by decide)
    | 1, _ => exact absurd hp (by decide)
    | 2, _ => exact absurd hp (by decide)
    | 3, _ => exact absurd hp (by decide)
    | 4, _ => exact absurd hp (by decide)
    | 5, _ => exact absurd hp (by decide)
    | m + 10, h => exact absurd h (by omega)
  · intro a1 W hE hsz hdf hold hS hM
    rw [hsize] at hold hS hM
    obtain ⟨g1, g2, h1, h2, h3, _, _⟩ := hM
    obtain ⟨pa1, qa1, ra1⟩ := h1 (by decide)
    obtain ⟨pa2, qa2, ra2⟩ := h2 (by decide)
    have hne := h3 (by decide) (by decide)
    rw [if_pos (by decide)] at ra1 ra2
    have hall : ∀ z, z ∈ ([(46, .pointer (some ⟨p, 0, none⟩)), (47, .slice A n c), (48, .agg #[.slice A n c, .slice none 0 0]), (49, .pointer (some ⟨p, 0, none⟩)), (50, .slice A n c), (51, .agg #[.slice A n c, .slice none 0 0]), (9, .pointer (some ⟨g1, 0, none⟩)), (10, .pointer (some ⟨g2, 0, none⟩))] : List (Tmp × Value)) → z.1 < a.tmps.size ∧ a1.eval (.tmp z.1) = z.2 := by
      intro z hz
      rw [hlen]
      simp only [List.mem_cons, List.not_mem_nil, or_false] at hz
      rcases hz with rfl | rfl | rfl | rfl | rfl | rfl | rfl | rfl
      · exact ⟨(show (46 : Nat) < 310 by omega), hS 0 (by omega) (by decide)⟩
      · exact ⟨(show (47 : Nat) < 310 by omega), hS 1 (by omega) (by decide)⟩
      · exact ⟨(show (48 : Nat) < 310 by omega), hS 2 (by omega) (by decide)⟩
      · exact ⟨(show (49 : Nat) < 310 by omega), hS 3 (by omega) (by decide)⟩
      · exact ⟨(show (50 : Nat) < 310 by omega), hS 4 (by omega) (by decide)⟩
      · exact ⟨(show (51 : Nat) < 310 by omega), hS 5 (by omega) (by decide)⟩
      · exact ⟨(show (9 : Nat) < 310 by omega), pa1⟩
      · exact ⟨(show (10 : Nat) < 310 by omega), pa2⟩
    have ha := act_puts hsz hdf hall (fun t ht => by
      by_cases hz1 : t = 318
      · subst hz1
        simp [Act.eval, hsz, hlen]
      by_cases hz2 : t = 319
      · subst hz2
        simp [Act.eval, hsz, hlen]
      refine hold t (all_ne_of (l := [(46, undef), (47, undef), (48, undef), (49, undef), (50, undef), (51, undef), (9, undef), (10, undef), (318, undef), (319, undef)]) (by rfl) ?_)
      intro hmem
      simp only [List.map_cons, List.map_nil, List.mem_cons, List.not_mem_nil, or_false] at hmem
      rcases hmem with rfl | rfl | rfl | rfl | rfl | rfl | rfl | rfl | rfl | rfl <;> first | exact hz1 rfl | exact hz2 rfl | exact ht (by simp))
    rw [ha]
    exact K W g1 g2 hE qa1 qa2 hne ra1 ra2
end

def mb8D (i : Nat) : Tmp := if i = 0 then 59 else if i = 1 then 60 else if i = 2 then 61 else if i = 3 then 62 else if i = 4 then 63 else if i = 5 then 64 else if i = 6 then 65 else if i = 7 then 66 else if i = 8 then 67 else if i = 9 then 68 else if i = 10 then 69 else if i = 11 then 70 else if i = 12 then 71 else if i = 13 then 72 else if i = 14 then 73 else if i = 15 then 12 else if i = 16 then 13 else if i = 17 then 327 else 328
def mb8V (p b of n c jj q1 k : Nat) (lo hi lo2 hi2 : Int) (ix : Nat) : Value :=
  match ix with
  | 0 => .pointer (some ⟨p, 1, none⟩)
  | 1 => .slice (some ⟨b, of, none⟩) n c
  | 2 => .int .i64 (jj : Int)
  | 3 => .pointer (some ⟨b, of + jj * 2, none⟩)
  | 4 => .agg #[.int .i64 lo, .int .i64 hi]
  | 5 => .pointer (some ⟨p, 1, none⟩)
  | 6 => .slice (some ⟨b, of, none⟩) n c
  | 7 => .pointer (some ⟨p, 1, none⟩)
  | 8 => .slice (some ⟨b, of, none⟩) n c
  | 9 => .int .i64 (n : Int)
  | 10 => .int .i64 (q1 : Int)
  | 11 => .int .i64 (jj : Int)
  | 12 => .int .i64 (k : Int)
  | 13 => .pointer (some ⟨b, of + k * 2, none⟩)
  | 14 => .agg #[.int .i64 lo2, .int .i64 hi2]
  | _ => undef
def mb8P (i : Nat) : Bool := decide (i ≠ 15) && decide (i ≠ 16) && decide (i ≠ 17) && decide (i ≠ 18)
noncomputable def mb8Reg : Array Oper := (Try.f12.body.bind (regionOf · 8)).getD #[]
section
variable {p b of n c jj q1 k : Nat} {lo hi lo2 hi2 : Int} {Q : Exit → Act → World → Prop} {a : Act} {V W W0 : World} {o : Oper} {L : Nat → Bool}
set_option maxHeartbeats 1000000 in
theorem mb8_op0 (o3 : a.eval (.tmp 3) = .pointer (some ⟨p, 0, none⟩)) (ho : mb8Reg[0]? = some o) : o.wp Try.prog a W (fun a'' W' => ∃ v, a'' = a.put o.dst v ∧ v = mb8V p b of n c jj q1 k lo hi lo2 hi2 0 ∧ Below W.heap.size W W') Q := by
  have hop := op_at ho (·.op) (x := Op.fieldAddr 25 (Operand.tmp 3) 1) (by kernel_rfl)
  exact specs_value (R := fun v _ => v = mb8V p b of n c jj q1 k lo hi lo2 hi2 0) (v := .pointer (some ⟨p, 1, none⟩)) (by simp [execOp, hop, go_sem, ev o3]) rfl (Ext.refl W)
set_option maxHeartbeats 1000000 in
theorem mb8_op1 (q1c : ∀ W, Ext V W → W.cell? ⟨p, 1, none⟩ = some (.slice (some ⟨b, of, none⟩) n c)) (hB : Ext V W) (haft : ∀ j, (o.after.any fun e => decide (e.on = j) && Region.binds .any e) = true → mb8P j = true → a.eval (.tmp (mb8D j)) = mb8V p b of n c jj q1 k lo hi lo2 hi2 j) (ho : mb8Reg[1]? = some o) : o.wp Try.prog a W (fun a'' W' => ∃ v, a'' = a.put o.dst v ∧ v = mb8V p b of n c jj q1 k lo hi lo2 hi2 1 ∧ Below W.heap.size W W') Q := by
  have hop := op_at ho (·.op) (x := Op.load 23 (Operand.tmp 59)) (by kernel_rfl)
  have e0 : a.eval (.tmp 59) = .pointer (some ⟨p, 1, none⟩) := haft 0 (op_at ho (fun o => o.after.any fun e => decide (e.on = 0) && Region.binds .any e) (x := true) (by kernel_rfl)) rfl
  have q1' := q1c W hB
  exact specs_value (R := fun v _ => v = mb8V p b of n c jj q1 k lo hi lo2 hi2 1) (v := .slice (some ⟨b, of, none⟩) n c) (by simp [execOp, hop, go_sem, ev e0, q1']) rfl (Ext.refl W)
set_option maxHeartbeats 1000000 in
theorem mb8_op2 (o11 : a.eval (.tmp 11) = .int .i64 (jj : Int)) (ho : mb8Reg[2]? = some o) : o.wp Try.prog a W (fun a'' W' => ∃ v, a'' = a.put o.dst v ∧ v = mb8V p b of n c jj q1 k lo hi lo2 hi2 2 ∧ Below W.heap.size W W') Q := by
  have hop := op_at ho (·.op) (x := Op.move (Operand.tmp 11)) (by kernel_rfl)
  exact specs_value (R := fun v _ => v = mb8V p b of n c jj q1 k lo hi lo2 hi2 2) (v := .int .i64 (jj : Int)) (by simp [execOp, hop, go_sem, ev o11]) rfl (Ext.refl W)
set_option maxHeartbeats 1000000 in
theorem mb8_op3 (hj : jj < n) (haft : ∀ j, (o.after.any fun e => decide (e.on = j) && Region.binds .any e) = true → mb8P j = true → a.eval (.tmp (mb8D j)) = mb8V p b of n c jj q1 k lo hi lo2 hi2 j) (ho : mb8Reg[3]? = some o) : o.wp Try.prog a W (fun a'' W' => ∃ v, a'' = a.put o.dst v ∧ v = mb8V p b of n c jj q1 k lo hi lo2 hi2 3 ∧ Below W.heap.size W W') Q := by
  have hop := op_at ho (·.op) (x := Op.indexAddr 23 (Operand.tmp 60) (Operand.tmp 61)) (by kernel_rfl)
  have e1 : a.eval (.tmp 60) = .slice (some ⟨b, of, none⟩) n c := haft 1 (op_at ho (fun o => o.after.any fun e => decide (e.on = 1) && Region.binds .any e) (x := true) (by kernel_rfl)) rfl
  have e2 : a.eval (.tmp 61) = .int .i64 (jj : Int) := haft 2 (op_at ho (fun o => o.after.any fun e => decide (e.on = 2) && Region.binds .any e) (x := true) (by kernel_rfl)) rfl
  have hjz : (jj : Int) < (n : Int) := by omega
  exact specs_value (R := fun v _ => v = mb8V p b of n c jj q1 k lo hi lo2 hi2 3) (v := .pointer (some ⟨b, of + jj * 2, none⟩)) (by simp [execOp, hop, go_sem, ev e1, ev e2, hjz]) rfl (Ext.refl W)
set_option maxHeartbeats 1000000 in
theorem mb8_op4 (c0 : ∀ W, Ext V W → W.cell? ⟨b, of + jj * 2, none⟩ = some (.int .i64 lo)) (c1 : ∀ W, Ext V W → W.cell? ⟨b, of + jj * 2 + 1, none⟩ = some (.int .i64 hi)) (hB : Ext V W) (haft : ∀ j, (o.after.any fun e => decide (e.on = j) && Region.binds .any e) = true → mb8P j = true → a.eval (.tmp (mb8D j)) = mb8V p b of n c jj q1 k lo hi lo2 hi2 j) (ho : mb8Reg[4]? = some o) : o.wp Try.prog a W (fun a'' W' => ∃ v, a'' = a.put o.dst v ∧ v = mb8V p b of n c jj q1 k lo hi lo2 hi2 4 ∧ Below W.heap.size W W') Q := by
  have hop := op_at ho (·.op) (x := Op.load 75 (Operand.tmp 62)) (by kernel_rfl)
  have e3 : a.eval (.tmp 62) = .pointer (some ⟨b, of + jj * 2, none⟩) := haft 3 (op_at ho (fun o => o.after.any fun e => decide (e.on = 3) && Region.binds .any e) (x := true) (by kernel_rfl)) rfl
  have c0' := c0 W hB
  have c1' := c1 W hB
  exact specs_value (R := fun v _ => v = mb8V p b of n c jj q1 k lo hi lo2 hi2 4) (v := .agg #[.int .i64 lo, .int .i64 hi]) (by simp [execOp, hop, go_sem, ev e3, c0', c1']) rfl (Ext.refl W)
set_option maxHeartbeats 1000000 in
theorem mb8_op5 (o3 : a.eval (.tmp 3) = .pointer (some ⟨p, 0, none⟩)) (ho : mb8Reg[5]? = some o) : o.wp Try.prog a W (fun a'' W' => ∃ v, a'' = a.put o.dst v ∧ v = mb8V p b of n c jj q1 k lo hi lo2 hi2 5 ∧ Below W.heap.size W W') Q := by
  have hop := op_at ho (·.op) (x := Op.fieldAddr 25 (Operand.tmp 3) 1) (by kernel_rfl)
  exact specs_value (R := fun v _ => v = mb8V p b of n c jj q1 k lo hi lo2 hi2 5) (v := .pointer (some ⟨p, 1, none⟩)) (by simp [execOp, hop, go_sem, ev o3]) rfl (Ext.refl W)
set_option maxHeartbeats 1000000 in
theorem mb8_op6 (q1c : ∀ W, Ext V W → W.cell? ⟨p, 1, none⟩ = some (.slice (some ⟨b, of, none⟩) n c)) (hB : Ext V W) (haft : ∀ j, (o.after.any fun e => decide (e.on = j) && Region.binds .any e) = true → mb8P j = true → a.eval (.tmp (mb8D j)) = mb8V p b of n c jj q1 k lo hi lo2 hi2 j) (ho : mb8Reg[6]? = some o) : o.wp Try.prog a W (fun a'' W' => ∃ v, a'' = a.put o.dst v ∧ v = mb8V p b of n c jj q1 k lo hi lo2 hi2 6 ∧ Below W.heap.size W W') Q := by
  have hop := op_at ho (·.op) (x := Op.load 23 (Operand.tmp 64)) (by kernel_rfl)
  have e5 : a.eval (.tmp 64) = .pointer (some ⟨p, 1, none⟩) := haft 5 (op_at ho (fun o => o.after.any fun e => decide (e.on = 5) && Region.binds .any e) (x := true) (by kernel_rfl)) rfl
  have q1' := q1c W hB
  exact specs_value (R := fun v _ => v = mb8V p b of n c jj q1 k lo hi lo2 hi2 6) (v := .slice (some ⟨b, of, none⟩) n c) (by simp [execOp, hop, go_sem, ev e5, q1']) rfl (Ext.refl W)
set_option maxHeartbeats 1000000 in
theorem mb8_op7 (o3 : a.eval (.tmp 3) = .pointer (some ⟨p, 0, none⟩)) (ho : mb8Reg[7]? = some o) : o.wp Try.prog a W (fun a'' W' => ∃ v, a'' = a.put o.dst v ∧ v = mb8V p b of n c jj q1 k lo hi lo2 hi2 7 ∧ Below W.heap.size W W') Q := by
  have hop := op_at ho (·.op) (x := Op.fieldAddr 25 (Operand.tmp 3) 1) (by kernel_rfl)
  exact specs_value (R := fun v _ => v = mb8V p b of n c jj q1 k lo hi lo2 hi2 7) (v := .pointer (some ⟨p, 1, none⟩)) (by simp [execOp, hop, go_sem, ev o3]) rfl (Ext.refl W)
set_option maxHeartbeats 1000000 in
theorem mb8_op8 (q1c : ∀ W, Ext V W → W.cell? ⟨p, 1, none⟩ = some (.slice (some ⟨b, of, none⟩) n c)) (hB : Ext V W) (haft : ∀ j, (o.after.any fun e => decide (e.on = j) && Region.binds .any e) = true → mb8P j = true → a.eval (.tmp (mb8D j)) = mb8V p b of n c jj q1 k lo hi lo2 hi2 j) (ho : mb8Reg[8]? = some o) : o.wp Try.prog a W (fun a'' W' => ∃ v, a'' = a.put o.dst v ∧ v = mb8V p b of n c jj q1 k lo hi lo2 hi2 8 ∧ Below W.heap.size W W') Q := by
  have hop := op_at ho (·.op) (x := Op.load 23 (Operand.tmp 66)) (by kernel_rfl)
  have e7 : a.eval (.tmp 66) = .pointer (some ⟨p, 1, none⟩) := haft 7 (op_at ho (fun o => o.after.any fun e => decide (e.on = 7) && Region.binds .any e) (x := true) (by kernel_rfl)) rfl
  have q1' := q1c W hB
  exact specs_value (R := fun v _ => v = mb8V p b of n c jj q1 k lo hi lo2 hi2 8) (v := .slice (some ⟨b, of, none⟩) n c) (by simp [execOp, hop, go_sem, ev e7, q1']) rfl (Ext.refl W)
set_option maxHeartbeats 1000000 in
theorem mb8_op9 (haft : ∀ j, (o.after.any fun e => decide (e.on = j) && Region.binds .any e) = true → mb8P j = true → a.eval (.tmp (mb8D j)) = mb8V p b of n c jj q1 k lo hi lo2 hi2 j) (ho : mb8Reg[9]? = some o) : o.wp Try.prog a W (fun a'' W' => ∃ v, a'' = a.put o.dst v ∧ v = mb8V p b of n c jj q1 k lo hi lo2 hi2 9 ∧ Below W.heap.size W W') Q := by
  have hop := op_at ho (·.op) (x := Op.call { callee := Callee.builtin Builtin.len, args := #[Operand.tmp 67], argTypes := #[23] }) (by kernel_rfl)
  have e8 : a.eval (.tmp 67) = .slice (some ⟨b, of, none⟩) n c := haft 8 (op_at ho (fun o => o.after.any fun e => decide (e.on = 8) && Region.binds .any e) (x := true) (by kernel_rfl)) rfl
  exact specs_value (R := fun v _ => v = mb8V p b of n c jj q1 k lo hi lo2 hi2 9) (v := .int .i64 (n : Int)) (by simp [execOp, hop, go_sem, ev e8]) rfl (Ext.refl W)
set_option maxHeartbeats 1000000 in
theorem mb8_op10 (w1 : IntKind.i64.wrap ((n : Int) - 1) = (q1 : Int)) (haft : ∀ j, (o.after.any fun e => decide (e.on = j) && Region.binds .any e) = true → mb8P j = true → a.eval (.tmp (mb8D j)) = mb8V p b of n c jj q1 k lo hi lo2 hi2 j) (ho : mb8Reg[10]? = some o) : o.wp Try.prog a W (fun a'' W' => ∃ v, a'' = a.put o.dst v ∧ v = mb8V p b of n c jj q1 k lo hi lo2 hi2 10 ∧ Below W.heap.size W W') Q := by
  have hop := op_at ho (·.op) (x := Op.binOp BinOp.sub 3 (Operand.tmp 68) (Operand.const (Value.int IntKind.i64 1)) 3) (by kernel_rfl)
  have e9 : a.eval (.tmp 68) = .int .i64 (n : Int) := haft 9 (op_at ho (fun o => o.after.any fun e => decide (e.on = 9) && Region.binds .any e) (x := true) (by kernel_rfl)) rfl
  exact specs_value (R := fun v _ => v = mb8V p b of n c jj q1 k lo hi lo2 hi2 10) (v := .int .i64 (q1 : Int)) (by simp [execOp, hop, go_sem, ev e9, w1]) rfl (Ext.refl W)
set_option maxHeartbeats 1000000 in
theorem mb8_op11 (o11 : a.eval (.tmp 11) = .int .i64 (jj : Int)) (ho : mb8Reg[11]? = some o) : o.wp Try.prog a W (fun a'' W' => ∃ v, a'' = a.put o.dst v ∧ v = mb8V p b of n c jj q1 k lo hi lo2 hi2 11 ∧ Below W.heap.size W W') Q := by
  have hop := op_at ho (·.op) (x := Op.move (Operand.tmp 11)) (by kernel_rfl)
  exact specs_value (R := fun v _ => v = mb8V p b of n c jj q1 k lo hi lo2 hi2 11) (v := .int .i64 (jj : Int)) (by simp [execOp, hop, go_sem, ev o11]) rfl (Ext.refl W)
set_option maxHeartbeats 1000000 in
theorem mb8_op12 (w2 : IntKind.i64.wrap ((q1 : Int) - (jj : Int)) = (k : Int)) (haft : ∀ j, (o.after.any fun e => decide (e.on = j) && Region.binds .any e) = true → mb8P j = true → a.eval (.tmp (mb8D j)) = mb8V p b of n c jj q1 k lo hi lo2 hi2 j) (ho : mb8Reg[12]? = some o) : o.wp Try.prog a W (fun a'' W' => ∃ v, a'' = a.put o.dst v ∧ v = mb8V p b of n c jj q1 k lo hi lo2 hi2 12 ∧ Below W.heap.size W W') Q := by
  have hop := op_at ho (·.op) (x := Op.binOp BinOp.sub 3 (Operand.tmp 69) (Operand.tmp 70) 3) (by kernel_rfl)
  have e10 : a.eval (.tmp 69) = .int .i64 (q1 : Int) := haft 10 (op_at ho (fun o => o.after.any fun e => decide (e.on = 10) && Region.binds .any e) (x := true) (by kernel_rfl)) rfl
  have e11 : a.eval (.tmp 70) = .int .i64 (jj : Int) := haft 11 (op_at ho (fun o => o.after.any fun e => decide (e.on = 11) && Region.binds .any e) (x := true) (by kernel_rfl)) rfl
  exact specs_value (R := fun v _ => v = mb8V p b of n c jj q1 k lo hi lo2 hi2 12) (v := .int .i64 (k : Int)) (by simp [execOp, hop, go_sem, ev e10, ev e11, w2]) rfl (Ext.refl W)
set_option maxHeartbeats 1000000 in
theorem mb8_op13 (hk : k < n) (haft : ∀ j, (o.after.any fun e => decide (e.on = j) && Region.binds .any e) = true → mb8P j = true → a.eval (.tmp (mb8D j)) = mb8V p b of n c jj q1 k lo hi lo2 hi2 j) (ho : mb8Reg[13]? = some o) : o.wp Try.prog a W (fun a'' W' => ∃ v, a'' = a.put o.dst v ∧ v = mb8V p b of n c jj q1 k lo hi lo2 hi2 13 ∧ Below W.heap.size W W') Q := by
  have hop := op_at ho (·.op) (x := Op.indexAddr 23 (Operand.tmp 65) (Operand.tmp 71)) (by kernel_rfl)
  have e6 : a.eval (.tmp 65) = .slice (some ⟨b, of, none⟩) n c := haft 6 (op_at ho (fun o => o.after.any fun e => decide (e.on = 6) && Region.binds .any e) (x := true) (by kernel_rfl)) rfl
  have e12 : a.eval (.tmp 71) = .int .i64 (k : Int) := haft 12 (op_at ho (fun o => o.after.any fun e => decide (e.on = 12) && Region.binds .any e) (x := true) (by kernel_rfl)) rfl
  have hkz : (k : Int) < (n : Int) := by omega
  exact specs_value (R := fun v _ => v = mb8V p b of n c jj q1 k lo hi lo2 hi2 13) (v := .pointer (some ⟨b, of + k * 2, none⟩)) (by simp [execOp, hop, go_sem, ev e6, ev e12, hkz]) rfl (Ext.refl W)
set_option maxHeartbeats 1000000 in
theorem mb8_op14 (d0 : ∀ W, Ext V W → W.cell? ⟨b, of + k * 2, none⟩ = some (.int .i64 lo2)) (d1 : ∀ W, Ext V W → W.cell? ⟨b, of + k * 2 + 1, none⟩ = some (.int .i64 hi2)) (hB : Ext V W) (haft : ∀ j, (o.after.any fun e => decide (e.on = j) && Region.binds .any e) = true → mb8P j = true → a.eval (.tmp (mb8D j)) = mb8V p b of n c jj q1 k lo hi lo2 hi2 j) (ho : mb8Reg[14]? = some o) : o.wp Try.prog a W (fun a'' W' => ∃ v, a'' = a.put o.dst v ∧ v = mb8V p b of n c jj q1 k lo hi lo2 hi2 14 ∧ Below W.heap.size W W') Q := by
  have hop := op_at ho (·.op) (x := Op.load 75 (Operand.tmp 72)) (by kernel_rfl)
  have e13 : a.eval (.tmp 72) = .pointer (some ⟨b, of + k * 2, none⟩) := haft 13 (op_at ho (fun o => o.after.any fun e => decide (e.on = 13) && Region.binds .any e) (x := true) (by kernel_rfl)) rfl
  have d0' := d0 W hB
  have d1' := d1 W hB
  exact specs_value (R := fun v _ => v = mb8V p b of n c jj q1 k lo hi lo2 hi2 14) (v := .agg #[.int .i64 lo2, .int .i64 hi2]) (by simp [execOp, hop, go_sem, ev e13, d0', d1']) rfl (Ext.refl W)
theorem mb8_op15 (hM : Box2 W0.heap.size 15 17 16 18 12 13 75 #[.int .i64 0, .int .i64 0] #[.int .i64 lo, .int .i64 hi] #[.int .i64 lo2, .int .i64 hi2] L a W) (hE : Ext W0 W) (ha : a.tmps.size = 310) (hL : L 15 = false) (ho : mb8Reg[15]? = some o) : o.wp Try.prog a W (fun a'' W' => ∃ v, a'' = a.put o.dst v ∧ Ext W0 W' ∧ Box2 W0.heap.size 15 17 16 18 12 13 75 #[.int .i64 0, .int .i64 0] #[.int .i64 lo, .int .i64 hi] #[.int .i64 lo2, .int .i64 hi2] (fun j => decide (j = 15) || L j) a'' W') Q := by
  have hop := op_at ho (·.op) (x := Op.alloc 75) (by kernel_rfl)
  have hd := op_at ho (·.dst) (x := some 12) (by kernel_rfl)
  have hr : (execOp a.eval o).run Try.prog W = .ok (.value (.pointer (some ⟨W.heap.size, 0, none⟩))) (W.alloc (.cells #[.int .i64 0, .int .i64 0] 75)) := by simp [execOp, hop, go_sem]
  unfold Oper.wp
  rw [hr]
  refine ⟨_, rfl, hE.trans (ext_alloc _ _), ?_⟩
  rw [hd]
  exact (Box2.alloc hM hE.size hL (by decide) (by decide) (by decide) (by decide) (by rw [ha]; decide))
theorem mb8_op16 (hM : Box2 W0.heap.size 15 17 16 18 12 13 75 #[.int .i64 0, .int .i64 0] #[.int .i64 lo, .int .i64 hi] #[.int .i64 lo2, .int .i64 hi2] L a W) (hE : Ext W0 W) (ha : a.tmps.size = 310) (hL : L 16 = false) (ho : mb8Reg[16]? = some o) : o.wp Try.prog a W (fun a'' W' => ∃ v, a'' = a.put o.dst v ∧ Ext W0 W' ∧ Box2 W0.heap.size 15 17 16 18 12 13 75 #[.int .i64 0, .int .i64 0] #[.int .i64 lo, .int .i64 hi] #[.int .i64 lo2, .int .i64 hi2] (fun j => decide (j = 16) || L j) a'' W') Q := by
  have hop := op_at ho (·.op) (x := Op.alloc 75) (by kernel_rfl)
  have hd := op_at ho (·.dst) (x := some 13) (by kernel_rfl)
  have hr : (execOp a.eval o).run Try.prog W = .ok (.value (.pointer (some ⟨W.heap.size, 0, none⟩))) (W.alloc (.cells #[.int .i64 0, .int .i64 0] 75)) := by simp [execOp, hop, go_sem]
  unfold Oper.wp
  rw [hr]
  refine ⟨_, rfl, hE.trans (ext_alloc _ _), ?_⟩
  rw [hd]
  exact (Box2.alloc hM.swap hE.size hL (by decide) (by decide) (by decide) (by decide) (by rw [ha]; decide)).swap
set_option maxHeartbeats 1000000 in
theorem mb8_op17 (hM : Box2 W0.heap.size 15 17 16 18 12 13 75 #[.int .i64 0, .int .i64 0] #[.int .i64 lo, .int .i64 hi] #[.int .i64 lo2, .int .i64 hi2] L a W) (hE : Ext W0 W) (hL : L 17 = false) (haft : ∀ j, (o.after.any fun e => decide (e.on = j) && Region.binds .any e) = true → L j = true ∧ (mb8P j = true → a.eval (.tmp (mb8D j)) = mb8V p b of n c jj q1 k lo hi lo2 hi2 j)) (ho : mb8Reg[17]? = some o) : o.wp Try.prog a W (fun a'' W' => ∃ v, a'' = a.put o.dst v ∧ Ext W0 W' ∧ Box2 W0.heap.size 15 17 16 18 12 13 75 #[.int .i64 0, .int .i64 0] #[.int .i64 lo, .int .i64 hi] #[.int .i64 lo2, .int .i64 hi2] (fun j => decide (j = 17) || L j) a'' W') Q := by
  have hop := op_at ho (·.op) (x := Op.store 75 (Operand.tmp 12) (Operand.tmp 63)) (by kernel_rfl)
  have hd := op_at ho (·.dst) (x := none) (by kernel_rfl)
  have hLi : L 15 = true := (haft 15 (op_at ho (fun o => o.after.any fun e => decide (e.on = 15) && Region.binds .any e) (x := true) (by kernel_rfl))).1
  have ev1 : a.eval (.tmp 63) = .agg #[.int .i64 lo, .int .i64 hi] := (haft 4 (op_at ho (fun o => o.after.any fun e => decide (e.on = 4) && Region.binds .any e) (x := true) (by kernel_rfl))).2 rfl
  obtain ⟨g, hg, hBg, hrow⟩ := hM.at1 hLi hL
  have fz0 : W.frozen? ⟨g, 0, none⟩ = false := by simp [World.frozen?, hrow]
  have fz1 : ∀ x, (W.setCell ⟨g, 0, none⟩ x).frozen? ⟨g, 1, none⟩ = false := fun x => by simp [World.frozen?, World.setCell, Array.getElem?_modify, hrow]
  have cl0 : W.cell? ⟨g, 0, none⟩ = some (.int .i64 0) := cell_of_row _ _ _ _ _ _ hrow
  have cl1 : ∀ x, (W.setCell ⟨g, 0, none⟩ x).cell? ⟨g, 1, none⟩ = some (.int .i64 0) := fun x => cell_of_row _ _ _ _ _ _ (row_setCell W g 0 x _ 75 _ hrow)
  have hr : (execOp a.eval o).run Try.prog W = .ok .skip ((W.setCell ⟨g, 0, none⟩ (.int .i64 lo)).setCell ⟨g, 1, none⟩ (.int .i64 hi)) := by simp [execOp, hop, go_sem, ev hg, ev ev1, fz0, fz1, cl0, cl1]
  unfold Oper.wp
  rw [hr]
  refine ⟨undef, rfl, (hE.setCell (p := ⟨g, 0, none⟩) hBg _).setCell (p := ⟨g, 1, none⟩) hBg _, ?_⟩
  rw [hd]
  exact (Box2.store hM hLi hg (by decide) (by decide) (by decide) (fun k hk => set2_other _ _ _ _ k hk) (set2_row _ _ _ _ _ _ _ hrow))
set_option maxHeartbeats 1000000 in
theorem mb8_op18 (hM : Box2 W0.heap.size 15 17 16 18 12 13 75 #[.int .i64 0, .int .i64 0] #[.int .i64 lo, .int .i64 hi] #[.int .i64 lo2, .int .i64 hi2] L a W) (hE : Ext W0 W) (hL : L 18 = false) (haft : ∀ j, (o.after.any fun e => decide (e.on = j) && Region.binds .any e) = true → L j = true ∧ (mb8P j = true → a.eval (.tmp (mb8D j)) = mb8V p b of n c jj q1 k lo hi lo2 hi2 j)) (ho : mb8Reg[18]? = some o) : o.wp Try.prog a W (fun a'' W' => ∃ v, a'' = a.put o.dst v ∧ Ext W0 W' ∧ Box2 W0.heap.size 15 17 16 18 12 13 75 #[.int .i64 0, .int .i64 0] #[.int .i64 lo, .int .i64 hi] #[.int .i64 lo2, .int .i64 hi2] (fun j => decide (j = 18) || L j) a'' W') Q := by
  have hop := op_at ho (·.op) (x := Op.store 75 (Operand.tmp 13) (Operand.tmp 73)) (by kernel_rfl)
  have hd := op_at ho (·.dst) (x := none) (by kernel_rfl)
  have hLi : L 16 = true := (haft 16 (op_at ho (fun o => o.after.any fun e => decide (e.on = 16) && Region.binds .any e) (x := true) (by kernel_rfl))).1
  have ev1 : a.eval (.tmp 73) = .agg #[.int .i64 lo2, .int .i64 hi2] := (haft 14 (op_at ho (fun o => o.after.any fun e => decide (e.on = 14) && Region.binds .any e) (x := true) (by kernel_rfl))).2 rfl
  obtain ⟨g, hg, hBg, hrow⟩ := hM.swap.at1 hLi hL
  have fz0 : W.frozen? ⟨g, 0, none⟩ = false := by simp [World.frozen?, hrow]
  have fz1 : ∀ x, (W.setCell ⟨g, 0, none⟩ x).frozen? ⟨g, 1, none⟩ = false := fun x => by simp [World.frozen?, World.setCell, Array.getElem?_modify, hrow]
  have cl0 : W.cell? ⟨g, 0, none⟩ = some (.int .i64 0) := cell_of_row _ _ _ _ _ _ hrow
  have cl1 : ∀ x, (W.setCell ⟨g, 0, none⟩ x).cell? ⟨g, 1, none⟩ = some (.int .i64 0) := fun x => cell_of_row _ _ _ _ _ _ (row_setCell W g 0 x _ 75 _ hrow)
  have hr : (execOp a.eval o).run Try.prog W = .ok .skip ((W.setCell ⟨g, 0, none⟩ (.int .i64 lo2)).setCell ⟨g, 1, none⟩ (.int .i64 hi2)) := by simp [execOp, hop, go_sem, ev hg, ev ev1, fz0, fz1, cl0, cl1]
  unfold Oper.wp
  rw [hr]
  refine ⟨undef, rfl, (hE.setCell (p := ⟨g, 0, none⟩) hBg _).setCell (p := ⟨g, 1, none⟩) hBg _, ?_⟩
  rw [hd]
  exact (Box2.store hM.swap hLi hg (by decide) (by decide) (by decide) (fun k hk => set2_other _ _ _ _ k hk) (set2_row _ _ _ _ _ _ _ hrow)).swap
theorem mb8_size : mb8Reg.size = 19 := by kernel_rfl
set_option maxRecDepth 100000 in
set_option maxHeartbeats 4000000 in
/-- Region 8 of function 12. -/
theorem mb8_wp {id : Nat} (hlen : a.tmps.size = 310) (o3 : a.eval (.tmp 3) = .pointer (some ⟨p, 0, none⟩)) (o11 : a.eval (.tmp 11) = .int .i64 (jj : Int)) (q1c : ∀ W, Ext V W → W.cell? ⟨p, 1, none⟩ = some (.slice (some ⟨b, of, none⟩) n c)) (hj : jj < n) (c0 : ∀ W, Ext V W → W.cell? ⟨b, of + jj * 2, none⟩ = some (.int .i64 lo)) (c1 : ∀ W, Ext V W → W.cell? ⟨b, of + jj * 2 + 1, none⟩ = some (.int .i64 hi)) (w1 : IntKind.i64.wrap ((n : Int) - 1) = (q1 : Int)) (w2 : IntKind.i64.wrap ((q1 : Int) - (jj : Int)) = (k : Int)) (hk : k < n) (d0 : ∀ W, Ext V W → W.cell? ⟨b, of + k * 2, none⟩ = some (.int .i64 lo2)) (d1 : ∀ W, Ext V W → W.cell? ⟨b, of + k * 2 + 1, none⟩ = some (.int .i64 hi2))
    (K : ∀ (W : World) (g1 g2 : Nat), Ext V W → V.heap.size ≤ g1 → V.heap.size ≤ g2 → g1 ≠ g2 → W.heap[g1]? = some (.cells #[.int .i64 lo, .int .i64 hi] 75 (0, 0)) → W.heap[g2]? = some (.cells #[.int .i64 lo2, .int .i64 hi2] 75 (0, 0)) → Q .normal (puts a [(59, .pointer (some ⟨p, 1, none⟩)), (60, .slice (some ⟨b, of, none⟩) n c), (61, .int .i64 (jj : Int)), (62, .pointer (some ⟨b, of + jj * 2, none⟩)), (63, .agg #[.int .i64 lo, .int .i64 hi]), (64, .pointer (some ⟨p, 1, none⟩)), (65, .slice (some ⟨b, of, none⟩) n c), (66, .pointer (some ⟨p, 1, none⟩)), (67, .slice (some ⟨b, of, none⟩) n c), (68, .int .i64 (n : Int)), (69, .int .i64 (q1 : Int)), (70, .int .i64 (jj : Int)), (71, .int .i64 (k : Int)), (72, .pointer (some ⟨b, of + k * 2, none⟩)), (73, .agg #[.int .i64 lo2, .int .i64 hi2]), (12, .pointer (some ⟨g1, 0, none⟩)), (13, .pointer (some ⟨g2, 0, none⟩))]) W) : (Code.region id mb8Reg true).wp Try.prog Q a V := by
  have hsize := mb8_size
  refine wp_region_mem (W0 := V) mb8P (mb8V p b of n c jj q1 k lo hi lo2 hi2) mb8D (Box2 V.heap.size 15 17 16 18 12 13 75 #[.int .i64 0, .int .i64 0] #[.int .i64 lo, .int .i64 hi] #[.int .i64 lo2, .int .i64 hi2]) (by kernel_rfl) (by rw [hlen]; kernel_rfl) (⟨rfl, rfl, rfl, Nat.le_refl _, fun _ _ => rfl⟩ : Below V.heap.size V { V with drawn := V.drawn + 1 }) Box2.start ?_ ?_ ?_ ?_
  · intro L a' W W' i v hi hp hM _ e hsz
    rw [hsize] at hi
    refine Box2.stay hM e (fun h => ?_) (fun h => ?_) (fun h => ?_) (fun h => ?_) (fun h => ?_) (fun h => ?_) v
    all_goals first
      | (subst h; revert hp; decide)
      | (revert hp h; revert i; decide)
  · intro i o ho hp a' W hB hsz hold haft
    have hi : i < 19 := by
      have h1 := (Array.getElem?_eq_some_iff.1 ho).1
      omega
    match i, hi with
    | 0, _ => exact mb8_op0 ((hold 3 (by rw [hsize]; kernel_rfl)).trans o3) ho
    | 1, _ => exact mb8_op1 q1c hB haft ho
    | 2, _ => exact mb8_op2 ((hold 11 (by rw [hsize]; kernel_rfl)).trans o11) ho
    | 3, _ => exact mb8_op3 hj haft ho
    | 4, _ => exact mb8_op4 c0 c1 hB haft ho
    | 5, _ => exact mb8_op5 ((hold 3 (by rw [hsize]; kernel_rfl)).trans o3) ho
    | 6, _ => exact mb8_op6 q1c hB haft ho
    | 7, _ => exact mb8_op7 ((hold 3 (by rw [hsize]; kernel_rfl)).trans o3) ho
    | 8, _ => exact mb8_op8 q1c hB haft ho
    | 9, _ => exact mb8_op9 haft ho
    | 10, _ => exact mb8_op10 w1 haft ho
    | 11, _ => exact mb8_op11 ((hold 11 (by rw [hsize]; kernel_rfl)).trans o11) ho
    | 12, _ => exact mb8_op12 w2 haft ho
    | 13, _ => exact mb8_op13 hk haft ho
    | 14, _ => exact mb8_op14 d0 d1 hB haft ho
    | 15, _ => exact absurd hp (by decide)
    | 16, _ => exact absurd hp (by decide)
    | 17, _ => exact absurd hp (by decide)
    | 18, _ => exact absurd hp (by decide)
    | m + 19, h => exact absurd h (by omega)
  · intro i o ho hp L a' W hE hsz hold haft hL hM
    have hi : i < 19 := by
      have h1 := (Array.getElem?_eq_some_iff.1 ho).1
      omega
    match i, hi with
    | 15, _ => exact mb8_op15 hM hE (hsz.trans hlen) hL ho
    | 16, _ => exact mb8_op16 hM hE (hsz.trans hlen) hL ho
    | 17, _ => exact mb8_op17 hM hE hL haft ho
    | 18, _ => exact mb8_op18 hM hE hL haft ho
    | 0, _ => exact absurd hp (by decide)
    | 1, _ => exact absurd hp (by decide)
    | 2, _ => exact absurd hp (by decide)
    | 3, _ => exact absurd hp (by decide)
    | 4, _ => exact absurd hp (by decide)
    | 5, _ => exact absurd hp (by decide)
    | 6, _ => exact absurd hp (by decide)
    | 7, _ => exact absurd hp (by decide)
    | 8, _ => exact absurd hp (by decide)
    | 9, _ => exact absurd hp (by decide)
    | 10, _ => exact absurd hp (by decide)
    | 11, _ => exact absurd hp (by decide)
    | 12, _ => exact absurd hp (by decide)
    | 13, _ => exact absurd hp (by decide)
    | 14, _ => exact absurd hp (by decide)
    | m + 19, h => exact absurd h (by omega)
  · intro a1 W hE hsz hdf hold hS hM
    rw [hsize] at hold hS hM
    obtain ⟨g1, g2, h1, h2, h3, _, _⟩ := hM
    obtain ⟨pa1, qa1, ra1⟩ := h1 (by decide)
    obtain ⟨pa2, qa2, ra2⟩ := h2 (by decide)
    have hne := h3 (by decide) (by decide)
    rw [if_pos (by decide)] at ra1 ra2
    have hall : ∀ z, z ∈ ([(59, .pointer (some ⟨p, 1, none⟩)), (60, .slice (some ⟨b, of, none⟩) n c), (61, .int .i64 (jj : Int)), (62, .pointer (some ⟨b, of + jj * 2, none⟩)), (63, .agg #[.int .i64 lo, .int .i64 hi]), (64, .pointer (some ⟨p, 1, none⟩)), (65, .slice (some ⟨b, of, none⟩) n c), (66, .pointer (some ⟨p, 1, none⟩)), (67, .slice (some ⟨b, of, none⟩) n c), (68, .int .i64 (n : Int)), (69, .int .i64 (q1 : Int)), (70, .int .i64 (jj : Int)), (71, .int .i64 (k : Int)), (72, .pointer (some ⟨b, of + k * 2, none⟩)), (73, .agg #[.int .i64 lo2, .int .i64 hi2]), (12, .pointer (some ⟨g1, 0, none⟩)), (13, .pointer (some ⟨g2, 0, none⟩))] : List (Tmp × Value)) → z.1 < a.tmps.size ∧ a1.eval (.tmp z.1) = z.2 := by
      intro z hz
      rw [hlen]
      simp only [List.mem_cons, List.not_mem_nil, or_false] at hz
      rcases hz with rfl | rfl | rfl | rfl | rfl | rfl | rfl | rfl | rfl | rfl | rfl | rfl | rfl | rfl | rfl | rfl | rfl
      · exact ⟨(show (59 : Nat) < 310 by omega), hS 0 (by omega) (by decide)⟩
      · exact ⟨(show (60 : Nat) < 310 by omega), hS 1 (by omega) (by decide)⟩
      · exact ⟨(show (61 : Nat) < 310 by omega), hS 2 (by omega) (by decide)⟩
      · exact ⟨(show (62 : Nat) < 310 by omega), hS 3 (by omega) (by decide)⟩
      · exact ⟨(show (63 : Nat) < 310 by omega), hS 4 (by omega) (by decide)⟩
      · exact ⟨(show (64 : Nat) < 310 by omega), hS 5 (by omega) (by decide)⟩
      · exact ⟨(show (65 : Nat) < 310 by omega), hS 6 (by omega) (by decide)⟩
      · exact ⟨(show (66 : Nat) < 310 by omega), hS 7 (by omega) (by decide)⟩
      · exact ⟨(show (67 : Nat) < 310 by omega), hS 8 (by omega) (by decide)⟩
      · exact ⟨(show (68 : Nat) < 310 by omega), hS 9 (by omega) (by decide)⟩
      · exact ⟨(show (69 : Nat) < 310 by omega), hS 10 (by omega) (by decide)⟩
      · exact ⟨(show (70 : Nat) < 310 by omega), hS 11 (by omega) (by decide)⟩
      · exact ⟨(show (71 : Nat) < 310 by omega), hS 12 (by omega) (by decide)⟩
      · exact ⟨(show (72 : Nat) < 310 by omega), hS 13 (by omega) (by decide)⟩
      · exact ⟨(show (73 : Nat) < 310 by omega), hS 14 (by omega) (by decide)⟩
      · exact ⟨(show (12 : Nat) < 310 by omega), pa1⟩
      · exact ⟨(show (13 : Nat) < 310 by omega), pa2⟩
    have ha := act_puts hsz hdf hall (fun t ht => by
      by_cases hz1 : t = 327
      · subst hz1
        simp [Act.eval, hsz, hlen]
      by_cases hz2 : t = 328
      · subst hz2
        simp [Act.eval, hsz, hlen]
      refine hold t (all_ne_of (l := [(59, undef), (60, undef), (61, undef), (62, undef), (63, undef), (64, undef), (65, undef), (66, undef), (67, undef), (68, undef), (69, undef), (70, undef), (71, undef), (72, undef), (73, undef), (12, undef), (13, undef), (327, undef), (328, undef)]) (by rfl) ?_)
      intro hmem
      simp only [List.map_cons, List.map_nil, List.mem_cons, List.not_mem_nil, or_false] at hmem
      rcases hmem with rfl | rfl | rfl | rfl | rfl | rfl | rfl | rfl | rfl | rfl | rfl | rfl | rfl | rfl | rfl | rfl | rfl | rfl | rfl <;> first | exact hz1 rfl | exact hz2 rfl | exact ht (by simp))
    rw [ha]
    exact K W g1 g2 hE qa1 qa2 hne ra1 ra2
end
end Go.Proofs.Ytlaakmgdbhabfaa
