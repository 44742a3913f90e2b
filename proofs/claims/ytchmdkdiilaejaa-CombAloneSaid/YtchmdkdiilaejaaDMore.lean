/- Texts of one package, joined: MorePure, MoreReg, More. -/
import Derived.Test.YtchmdkdiilaejaaD26
/- One comb more, in plain mathematics; fewest of the statements. -/
namespace Go.Proofs.Ytchmdkdiilaejaa
open Go.RowKit Go.Shelf
attribute [local irreducible] bitCells fitCells Z94 fitOf

theorem had_more (cs : List (Int × Int)) (ms : List (Int × Int)) (d : Int × Int) {k : Nat} (hk : k < cs.length) (x : Int) : hadB (cs ++ [d]) ms k x = hadB cs ms k x := by
  funext i
  unfold hadB
  rw [show (cs ++ [d]).getD k (0, 0) = cs.getD k (0, 0) from by simp [List.getD_eq_getElem?_getD, List.getElem?_append_left hk]]
theorem no_more (cs : List (Int × Int)) (ms : List (Int × Int)) (d : Int × Int) {x : Rw} (hk : x.1 < cs.length) : noOf (cs ++ [d]) ms x = noOf cs ms x := by
  unfold noOf
  rw [had_more cs ms d hk]
theorem rowsUpto_more (cs : List (Int × Int)) (ms : List (Int × Int)) (d : Int × Int) {k : Nat} (hk : k < cs.length) (j : Nat) : rowsUpto (cs ++ [d]) ms k j = rowsUpto cs ms k j := by
  unfold rowsUpto rowsIn
  simp only [had_more cs ms d hk]
theorem fitsUpto_more (cs : List (Int × Int)) (ms : List (Int × Int)) (d : Int × Int) : ∀ k, k ≤ cs.length → fitsUpto (cs ++ [d]) ms k = fitsUpto cs ms k
  | 0, _ => rfl
  | k + 1, hk => by
    rw [fits_succ, fits_succ, fitsUpto_more cs ms d k (by omega), rowsUpto_more cs ms d (by omega)]
theorem fits_more (cs : List (Int × Int)) (ms : List (Int × Int)) (d : Int × Int) : fitsOf (cs ++ [d]) ms = fitsOf cs ms ++ rowsUpto (cs ++ [d]) ms cs.length ms.length := by
  unfold fitsOf
  rw [List.length_append, List.length_singleton, fits_succ, fitsUpto_more cs ms d cs.length (Nat.le_refl _)]
theorem cov_more {cs ms : List (Int × Int)} (d : Int × Int) (h0 : sheetErr cs ms = 0) {l : List Rw} {s : Nat} (hl : ∀ x, x ∈ l → x ∈ fitsOf cs ms) (h : Cov (noOf cs ms) l s) : (∀ x, x ∈ l → x ∈ fitsOf (cs ++ [d]) ms) ∧ Cov (noOf (cs ++ [d]) ms) l s := by
  refine ⟨fun x hx => by rw [fits_more]; exact List.mem_append_left _ (hl x hx), fun i hi => ?_⟩
  obtain ⟨x, hx, hb⟩ := h i hi
  exact ⟨x, hx, by rw [no_more cs ms d (fits_mem h0 (hl x hx)).1]; exact hb⟩
/-- With one comb more no mark becomes lost. -/
theorem lost_more {cs ms : List (Int × Int)} (d : Int × Int) (h0 : sheetErr cs ms = 0) {v : Int} (hv : v ∈ lostOf (cs ++ [d]) ms) : v ∈ lostOf cs ms := by
  unfold lostOf at hv ⊢
  obtain ⟨i, hi, hn, rfl⟩ := (mem_nums _ _ _).1 hv
  refine (mem_nums _ _ _).2 ⟨i, hi, ?_, rfl⟩
  unfold noneHas at hn ⊢
  rw [List.all_eq_true] at hn ⊢
  intro x hx
  have := hn x (by rw [fits_more]; exact List.mem_append_left _ hx)
  rwa [had_more cs ms d (fits_mem h0 hx).1] at this
/-- Best rows are not more. -/
theorem best_more {cs ms : List (Int × Int)} (d : Int × Int) (h : wholeErr cs ms = 0) (h0' : sheetErr (cs ++ [d]) ms = 0) : wholeErr (cs ++ [d]) ms = 0 ∧ (bestRows (cs ++ [d]) ms).length ≤ (bestRows cs ms).length := by
  obtain ⟨h0, r, _, _, hp, h1, h2, _, _⟩ := best_is h
  obtain ⟨c1, c2⟩ := cov_more d h0 h1 h2
  have hm := (sheet_ok h0').1.2.2
  have hw : wholeErr (cs ++ [d]) ms = 0 := by
    unfold wholeErr
    rw [if_pos h0', if_pos]
    refine (cov_all hm _).1 fun i hi => ?_
    obtain ⟨x, hx, hb⟩ := c2 i hi
    exact ⟨x, c1 x hx, hb⟩
  obtain ⟨_, r', _, _, hp', _, _, _, h9⟩ := best_is hw
  refine ⟨hw, ?_⟩
  rw [hp.length_eq, hp'.length_eq]
  exact h9 r c1 c2
/-- Rows that explained the sheet still do. -/
theorem rows_more {cs ms ys : List (Int × Int)} (d : Int × Int) (h0' : sheetErr (cs ++ [d]) ms = 0) (h0 : sheetErr cs ms = 0) (h : rowsErr cs ms ys = 0) : rowsErr (cs ++ [d]) ms ys = 0 := by
  obtain ⟨h1, h2, h3, h4, h5⟩ := (rows_ok h0).1 h
  rw [rows_ok h0']
  have hin : ∀ x, x ∈ ys.map rwOf → x ∈ fitsOf cs ms := fun x hx => by
    obtain ⟨y, hy, rfl⟩ := List.mem_map.1 hx
    exact h3 y hy
  obtain ⟨c1, c2⟩ := cov_more d h0 hin h5
  refine ⟨h1, fun y hy => ?_, fun y hy => c1 _ (List.mem_map_of_mem hy), h4, c2⟩
  have := (strange_iff _ _).1 (h2 y hy)
  rw [strange_iff, List.length_append, List.length_singleton]
  omega
/-- What fewest of the statements says. -/
def fewOf (cs ms : List (Int × Int)) : Nat := if wholeErr cs ms = 0 then (bestRows cs ms).length else 100
theorem few_more {cs ms : List (Int × Int)} (d : Int × Int) (h0 : sheetErr cs ms = 0) (h0' : sheetErr (cs ++ [d]) ms = 0) : fewOf (cs ++ [d]) ms ≤ fewOf cs ms := by
  unfold fewOf
  rcases whole_cases h0 with h | h
  · obtain ⟨h1, h2⟩ := best_more d h h0'
    rw [if_pos h, if_pos h1]
    exact h2
  · have h2 : (if wholeErr cs ms = 0 then (bestRows cs ms).length else 100) = 100 := if_neg (by rw [h]; decide)
    rw [h2]
    split
    · rename_i h1
      have := best_few h1
      have := (sheet_ok h0').1.2.2
      omega
    · exact Nat.le_refl _

set_option maxRecDepth 100000 in
set_option maxHeartbeats 2000000 in
theorem few47_any {A : Option Addr} {n c : Nat} {A' : Option Addr} {n' c' : Nat} {cs ms : List (Int × Int)} {w : World} (hb : IsSheet w w.heap.size A n c A' n' c' cs ms) (h0 : sheetErr cs ms = 0) :
    Calls Try.prog 47 #[.agg #[.slice A n c, .slice A' n' c']] w fun e w' => e = .returned (.tuple #[.int .i64 ((fewOf cs ms : Nat) : Int), .bool true]) ∧ Ext w w' := by
  obtain ⟨F, hF⟩ : ∃ F, fewOf cs ms = F := ⟨_, rfl⟩
  rw [hF]
  have HF := Lib.hid hF
  have hX0 := SheetAt.new hb
  have hE0 : Ext w (w.alloc (.cells #[.slice A n c, .slice A' n' c'] 25)) := ext_alloc w _
  have h40 := best_any hX0.sheet
  have HX := Lib.hid hX0
  have HE := Lib.hid hE0
  have H0 := Lib.hid h0
  clear hb hF hX0 hE0 h0
  obtain ⟨q0, q1⟩ := HX.out.cells
  go_enter Try.func47, Try.ntmps47
  go_wp2_with fail
  refine h40.mono ?_
  intro e w2 hp2
  obtain ⟨e2, A3, m3, c3, rfl, hm3, hl3, -⟩ := post_best hp2
  have HE := Lib.hid (HE.out.trans e2)
  have hf := HF.out
  unfold fewOf at hf
  rcases whole_cases H0.out with hw | hw
  · rw [if_pos hw] at hf hm3
    rw [hw]
    rw [List.length_map, hf] at hm3
    subst hm3
    clear e2 h40 q0 q1 hp2 hw hf HF
    go_wp2
    go_ret2
    exact ⟨rfl, HE.out⟩
  · rw [if_neg (by rw [hw]; decide)] at hf hm3
    rw [hw]
    have hm30 : m3 = 0 := hm3
    subst hm30
    subst hf
    clear e2 h40 q0 q1 hp2 hw hm3 HF
    go_wp2
    go_ret2
    exact ⟨rfl, HE.out⟩
end Go.Proofs.Ytchmdkdiilaejaa

/- CombMore: the region that lays one comb more. -/
namespace Go.Proofs.Ytchmdkdiilaejaa
open Go.RowKit Go.Shelf
attribute [local irreducible] bitCells fitCells Z94 fitOf

theorem info65c : (Try.prog.info? 65).map (fun i => (i.zero, i.size, i.bytes)) = some (some (.agg #[.int .i64 0, .int .i64 0]), 2, 16) := by kernel_rfl
theorem run_build22 (w : World) (x y : Int) : (Instr.buildSlice 22 1 #[(0, .agg #[.int .i64 x, .int .i64 y])]).run Try.prog w = .ok (.slice (some ⟨w.heap.size, 0, none⟩) 1 1) (w.alloc (.cells #[.int .i64 x, .int .i64 y] 65)) := by
  have hf : Try.prog.builtSlice 65 1 [(0, .agg #[.int .i64 x, .int .i64 y])] = some #[.int .i64 x, .int .i64 y] := by kernel_rfl
  have hu : Try.prog.underlying 22 = some (.slice 65) := by kernel_rfl
  unfold Program.builtSlice at hf
  obtain ⟨i, hi, hz⟩ := Option.map_eq_some_iff.1 info65c
  simp only [Prod.mk.injEq] at hz
  simp only [hi, hz.1] at hf
  rw [if_neg (by simp [hz.2.1])] at hf
  exact run_buildSlice (P := Try.prog) w 22 65 1 #[(0, .agg #[.int .i64 x, .int .i64 y])] #[.int .i64 x, .int .i64 y] i _ hu hi hz.1 (by simp [hz.2.1]) (by simp [hz.2.1]) hf
theorem flatS_get : ∀ (ds : List (Int × Int)) (j : Nat), (ds.flatMap encS)[j]? = (ds[j / 2]?).bind fun x => (encS x)[j % 2]? := by
  intro ds
  induction ds with
  | nil => intro j; simp
  | cons x ds ih =>
    intro j
    rw [List.flatMap_cons]
    have hl : (encS x).length = 2 := rfl
    rcases Nat.lt_or_ge j 2 with h | h
    · rw [List.getElem?_append_left (by omega)]
      have h1 : j / 2 = 0 := by omega
      have h2 : j % 2 = j := by omega
      rw [h1, h2]
      rfl
    · rw [List.getElem?_append_right (by omega), hl, ih]
      have h1 : j / 2 = (j - 2) / 2 + 1 := by omega
      have h2 : j % 2 = (j - 2) % 2 := by omega
      rw [h1, h2]
      rfl
theorem flatS_len (ds : List (Int × Int)) : (ds.flatMap encS).length = ds.length * 2 := by
  induction ds with
  | nil => rfl
  | cons x ds ih => rw [List.flatMap_cons, List.length_append, ih, List.length_cons]; show 2 + _ = _; omega
theorem heldS_flat {W : World} {B b off : Nat} {ds : List (Int × Int)} (h : Held W B 2 encS (some ⟨b, off, none⟩) ds) : ∀ j u, (ds.flatMap encS)[j]? = some u → W.cell? ((⟨b, off, none⟩ : Addr).add j) = some u := by
  intro j u hu
  rw [flatS_get, Option.bind_eq_some_iff] at hu
  obtain ⟨x, hx, hi⟩ := hu
  rcases h with rfl | ⟨b', off', e, _, hc⟩
  · simp at hx
  · cases e
    rw [Addr.add_lit]
    have := hc _ _ hx _ _ hi
    rw [show off + j / 2 * 2 + j % 2 = off + j from by omega] at this
    exact this
theorem heldS_of_owns {W : World} {base g n cap : Nat} {ds : List (Int × Int)} (h : W.ownsRow base 65 2 (.slice (some ⟨g, 0, none⟩) n cap) n (ds.flatMap encS)) : Held W W.heap.size 2 encS (some ⟨g, 0, none⟩) ds ∧ n ≤ cap := by
  rcases h.2 with ⟨e, _⟩ | ⟨g', cap', cur, e, _, hg, h1, h2, h3, h4⟩
  · cases e
  · cases e
    refine ⟨.inr ⟨g, 0, rfl, (Array.getElem?_eq_some_iff.1 hg).1, fun j x hx i v hi => ?_⟩, h1⟩
    have hi3 : i < 2 := (List.getElem?_eq_some_iff.1 hi).1
    have h5 : (ds.flatMap encS)[j * 2 + i]? = some v := by
      rw [flatS_get, show (j * 2 + i) / 2 = j from by omega, show (j * 2 + i) % 2 = i from by omega, hx]
      exact hi
    refine (cell_of_row _ _ _ _ _ _ hg).trans ?_
    rw [← h4, List.getElem?_take] at h5
    split at h5
    · rw [Nat.zero_add]; simpa using h5
    · cases h5

/-- The slots of region 4 of function 9. -/
def mo4D (i : Nat) : Tmp := if i = 0 then 25 else if i = 1 then 26 else if i = 2 then 27 else if i = 3 then 28 else if i = 4 then 29 else 30
/-- What each operation yields. -/
def mo4S (p _pm b1 o1 n c B : Nat) (cs : List (Int × Int)) (d : Int × Int) (ix : Nat) (v : Value) (W : World) : Prop :=
  match ix with
  | 0 => ∃ g, v = .slice (some ⟨g, 0, none⟩) 0 0 ∧ W.heap[g]? = some (.cells #[] 65 (0, 0))
  | 1 => v = .pointer (some ⟨p, 0, none⟩)
  | 2 => v = .slice (some ⟨b1, o1, none⟩) n c
  | 3 => ∃ g cap, v = .slice (some ⟨g, 0, none⟩) n cap ∧ B ≤ g ∧ W.ownsRow B 65 2 v n (cs.flatMap encS)
  | 4 => v = .agg #[.int .i64 d.1, .int .i64 d.2]
  | 5 => ∃ g, v = .slice (some ⟨g, 0, none⟩) 1 1 ∧ W.heap[g]? = some (.cells #[.int .i64 d.1, .int .i64 d.2] 65 (0, 0))
  | _ => True
noncomputable def mo4Reg : Array Oper := (Try.f9.body.bind (regionOf · 4)).getD #[]
theorem mo4S_ext {p pm b1 o1 n c B : Nat} {cs : List (Int × Int)} {d : Int × Int} : ∀ (i : Nat) (v : Value) (W W' : World), mo4S p pm b1 o1 n c B cs d i v W → Below W.heap.size W W' → mo4S p pm b1 o1 n c B cs d i v W' := by
  intro i v W W' h e
  match i with
  | 0 => (obtain ⟨h1, h2, h3⟩ := h; exact ⟨h1, h2, row_ext h3 e⟩)
  | 1 => exact h
  | 2 => exact h
  | 3 => (obtain ⟨h1, h2, h3, h4, h5⟩ := h; exact ⟨h1, h2, h3, h4, owns_ext h5 e⟩)
  | 4 => exact h
  | 5 => (obtain ⟨h1, h2, h3⟩ := h; exact ⟨h1, h2, row_ext h3 e⟩)
  | k + 6 => exact trivial
def mo4Ok (p pm b1 o1 n c B : Nat) (cs : List (Int × Int)) (d : Int × Int) (Q : Exit → Act → World → Prop) (a : Act) (W : World) (ix : Nat) (o : Oper) : Prop :=
  (∀ j b, o.guard = some (j, b) → a.eval (.tmp (mo4D j)) = .bool b) ∧ o.wp Try.prog a W (fun a'' W' => ∃ v, a'' = a.put o.dst v ∧ mo4S p pm b1 o1 n c B cs d ix v W' ∧ Below W.heap.size W W') Q
section
variable {p pm b1 o1 n c B : Nat} {cs : List (Int × Int)} {d : Int × Int} {Q : Exit → Act → World → Prop} {a : Act} {V W : World} {o : Oper}
set_option maxHeartbeats 1000000 in
theorem mo4_op0  (ho : mo4Reg[0]? = some o) : mo4Ok p pm b1 o1 n c B cs d Q a W 0 o := by
  have hop := op_at ho (·.op) (x := Op.buildSlice 22 0 #[]) (by kernel_rfl)
  have hgd := op_at ho (·.guard) (x := none) (by kernel_rfl)
  refine ⟨fun j b h => (by rw [hgd] at h; cases h), ?_⟩
  exact specs_value (R := fun v W => mo4S p pm b1 o1 n c B cs d 0 v W) (v := .slice (some ⟨W.heap.size, 0, none⟩) 0 0) (W' := W.alloc (.cells #[] 65)) (by simp [execOp, hop, go_sem]) ⟨_, rfl, row_last _ _ _ rfl⟩ (ext_alloc _ _)
set_option maxHeartbeats 1000000 in
theorem mo4_op1 (o3 : a.eval (.tmp 3) = .pointer (some ⟨p, 0, none⟩)) (ho : mo4Reg[1]? = some o) : mo4Ok p pm b1 o1 n c B cs d Q a W 1 o := by
  have hop := op_at ho (·.op) (x := Op.fieldAddr 25 (Operand.tmp 3) 0) (by kernel_rfl)
  have hgd := op_at ho (·.guard) (x := none) (by kernel_rfl)
  refine ⟨fun j b h => (by rw [hgd] at h; cases h), ?_⟩
  exact specs_value (R := fun v W => mo4S p pm b1 o1 n c B cs d 1 v W) (v := .pointer (some ⟨p, 0, none⟩)) (by simp [execOp, hop, go_sem, ev o3]) rfl (Ext.refl W)
set_option maxHeartbeats 1000000 in
theorem mo4_op2 (hc0 : ∀ W, Ext V W → W.cell? ⟨p, 0, none⟩ = some (.slice (some ⟨b1, o1, none⟩) n c)) (hB : Ext V W) (haft : ∀ j, (o.after.any fun e => decide (e.on = j) && Region.binds .any e) = true → mo4S p pm b1 o1 n c B cs d j (a.eval (.tmp (mo4D j))) W) (ho : mo4Reg[2]? = some o) : mo4Ok p pm b1 o1 n c B cs d Q a W 2 o := by
  have hop := op_at ho (·.op) (x := Op.load 22 (Operand.tmp 26)) (by kernel_rfl)
  have hgd := op_at ho (·.guard) (x := none) (by kernel_rfl)
  have e1 : a.eval (.tmp 26) = .pointer (some ⟨p, 0, none⟩) := haft 1 (op_at ho (fun o => o.after.any fun e => decide (e.on = 1) && Region.binds .any e) (x := true) (by kernel_rfl))
  refine ⟨fun j b h => (by rw [hgd] at h; cases h), ?_⟩
  have hc0' := hc0 W hB
  exact specs_value (R := fun v W => mo4S p pm b1 o1 n c B cs d 2 v W) (v := .slice (some ⟨b1, o1, none⟩) n c) (by simp [execOp, hop, go_sem, ev e1, hc0']) rfl (Ext.refl W)
set_option maxHeartbeats 1000000 in
theorem mo4_op3 (hn : n = cs.length) (hpos : 0 < n) (hn9 : n ≤ 5000) (hVB : B ≤ V.heap.size) (hq : ∀ W, Ext V W → ∀ j u, (cs.flatMap encS)[j]? = some u → W.cell? ((⟨b1, o1, none⟩ : Addr).add j) = some u) (hB : Ext V W) (haft : ∀ j, (o.after.any fun e => decide (e.on = j) && Region.binds .any e) = true → mo4S p pm b1 o1 n c B cs d j (a.eval (.tmp (mo4D j))) W) (ho : mo4Reg[3]? = some o) : mo4Ok p pm b1 o1 n c B cs d Q a W 3 o := by
  have hop := op_at ho (·.op) (x := Op.call { callee := Callee.builtin Builtin.append, args := #[Operand.tmp 25, Operand.tmp 27], argTypes := #[22, 22] }) (by kernel_rfl)
  have hgd := op_at ho (·.guard) (x := none) (by kernel_rfl)
  have e0 : mo4S p pm b1 o1 n c B cs d 0 (a.eval (.tmp 25)) W := haft 0 (op_at ho (fun o => o.after.any fun e => decide (e.on = 0) && Region.binds .any e) (x := true) (by kernel_rfl))
  have e2 : a.eval (.tmp 27) = .slice (some ⟨b1, o1, none⟩) n c := haft 2 (op_at ho (fun o => o.after.any fun e => decide (e.on = 2) && Region.binds .any e) (x := true) (by kernel_rfl))
  refine ⟨fun j b h => (by rw [hgd] at h; cases h), ?_⟩
  obtain ⟨g, e0v, e0r⟩ := e0
  obtain ⟨i0, hi, hz0, hz1, hz2⟩ := info_parts info65c
  have hu : Try.prog.underlying 22 = some (.slice 65) := by kernel_rfl
  obtain ⟨v', w', hrun, r1, r2⟩ := run_append_arg_grows (P := Try.prog) W 22 o.type 65 i0 (.agg #[.int .i64 0, .int .i64 0]) 2 16 hu hi hz0 hz1 hz2 rfl (by decide) ⟨g, 0, none⟩ 0 0 [] rfl (fun j u hu => by simp at hu) ⟨b1, o1, none⟩ n c (cs.flatMap encS) (by rw [flatS_len, hn]) (hq W hB) (by omega) (by unfold maxLen; omega) (by omega)
  rw [Nat.zero_add, List.nil_append] at r1
  have r1' := r1
  obtain ⟨g1, cap, hv', hg1, _⟩ := r1'.form hpos
  exact specs_value (R := fun v W => mo4S p pm b1 o1 n c B cs d 3 v W) (v := v') (W' := w') (by simp [execOp, hop, resolve, invoke, builtin, e0v, e2, hrun, Result.andThen]) ⟨g1, cap, hv', Nat.le_trans (Nat.le_trans hVB hB.size) hg1, owns_mono r1 (Nat.le_trans hVB hB.size)⟩ ((Below.refl W.heap.size W).grown r2 (Nat.le_refl _) (fun k e => by cases e))
set_option maxHeartbeats 1000000 in
theorem mo4_op4 (o4 : a.eval (.tmp 4) = .pointer (some ⟨pm, 0, none⟩)) (hx0 : ∀ W, Ext V W → W.cell? ⟨pm, 0, none⟩ = some (.int .i64 d.1)) (hx1 : ∀ W, Ext V W → W.cell? ⟨pm, 1, none⟩ = some (.int .i64 d.2)) (hB : Ext V W) (ho : mo4Reg[4]? = some o) : mo4Ok p pm b1 o1 n c B cs d Q a W 4 o := by
  have hop := op_at ho (·.op) (x := Op.load 65 (Operand.tmp 4)) (by kernel_rfl)
  have hgd := op_at ho (·.guard) (x := none) (by kernel_rfl)
  refine ⟨fun j b h => (by rw [hgd] at h; cases h), ?_⟩
  have hx0' := hx0 W hB
  have hx1' := hx1 W hB
  exact specs_value (R := fun v W => mo4S p pm b1 o1 n c B cs d 4 v W) (v := .agg #[.int .i64 d.1, .int .i64 d.2]) (by simp [execOp, hop, go_sem, ev o4, hx0', hx1']) rfl (Ext.refl W)
set_option maxHeartbeats 1000000 in
theorem mo4_op5 (haft : ∀ j, (o.after.any fun e => decide (e.on = j) && Region.binds .any e) = true → mo4S p pm b1 o1 n c B cs d j (a.eval (.tmp (mo4D j))) W) (ho : mo4Reg[5]? = some o) : mo4Ok p pm b1 o1 n c B cs d Q a W 5 o := by
  have hop := op_at ho (·.op) (x := Op.buildSlice 22 1 #[(0, Operand.tmp 29)]) (by kernel_rfl)
  have hgd := op_at ho (·.guard) (x := none) (by kernel_rfl)
  have e4 : a.eval (.tmp 29) = .agg #[.int .i64 d.1, .int .i64 d.2] := haft 4 (op_at ho (fun o => o.after.any fun e => decide (e.on = 4) && Region.binds .any e) (x := true) (by kernel_rfl))
  refine ⟨fun j b h => (by rw [hgd] at h; cases h), ?_⟩
  exact specs_value (R := fun v W => mo4S p pm b1 o1 n c B cs d 5 v W) (v := .slice (some ⟨W.heap.size, 0, none⟩) 1 1) (W' := W.alloc (.cells #[.int .i64 d.1, .int .i64 d.2] 65)) (by simp [execOp, hop, e4, run_build22, Result.andThen]) ⟨_, rfl, row_last _ _ _ rfl⟩ (ext_alloc _ _)
set_option maxRecDepth 100000 in
set_option maxHeartbeats 4000000 in
/-- Region 4 of function 9. -/
theorem mo4_wp {id : Nat} (hlen : a.tmps.size = 100) (o3 : a.eval (.tmp 3) = .pointer (some ⟨p, 0, none⟩)) (o4 : a.eval (.tmp 4) = .pointer (some ⟨pm, 0, none⟩)) (hc0 : ∀ W, Ext V W → W.cell? ⟨p, 0, none⟩ = some (.slice (some ⟨b1, o1, none⟩) n c)) (hn : n = cs.length) (hpos : 0 < n) (hn9 : n ≤ 5000) (hVB : B ≤ V.heap.size) (hq : ∀ W, Ext V W → ∀ j u, (cs.flatMap encS)[j]? = some u → W.cell? ((⟨b1, o1, none⟩ : Addr).add j) = some u) (hx0 : ∀ W, Ext V W → W.cell? ⟨pm, 0, none⟩ = some (.int .i64 d.1)) (hx1 : ∀ W, Ext V W → W.cell? ⟨pm, 1, none⟩ = some (.int .i64 d.2)) (K : (∀ W v0 v3 v5, Ext V W → mo4S p pm b1 o1 n c B cs d 0 v0 W → mo4S p pm b1 o1 n c B cs d 3 v3 W → mo4S p pm b1 o1 n c B cs d 5 v5 W → wpList Try.prog mo4Reg Q (mo4Reg.toList.drop 6) (puts a [(25, v0), (26, .pointer (some ⟨p, 0, none⟩)), (27, .slice (some ⟨b1, o1, none⟩) n c), (28, v3), (29, .agg #[.int .i64 d.1, .int .i64 d.2]), (30, v5)]) W)) : (Code.region id mo4Reg true).wp Try.prog Q a V := by
  refine wp_region_specs_sink (ops := mo4Reg) 6 (mo4S p pm b1 o1 n c B cs d) (Ext V) (by kernel_rfl) (by rw [hlen]; kernel_rfl) (by kernel_rfl) ⟨rfl, rfl, rfl, Nat.le_refl _, fun _ _ => rfl⟩ (fun _ _ h e => h.trans e) mo4S_ext mo4D (by kernel_rfl) ?_ ?_
  · intro i o hi ho a' W hB hsz hold haft
    match i, hi with
    | 0, _ => exact mo4_op0  ho
    | 1, _ => exact mo4_op1 ((hold 3 (by kernel_rfl)).trans o3) ho
    | 2, _ => exact mo4_op2 hc0 hB haft ho
    | 3, _ => exact mo4_op3 hn hpos hn9 hVB hq hB haft ho
    | 4, _ => exact mo4_op4 ((hold 4 (by kernel_rfl)).trans o4) hx0 hx1 hB ho
    | 5, _ => exact mo4_op5 haft ho
    | m + 6, h => exact absurd h (by omega)
  · intro a1 W hB hsz hdf hold hS
    obtain ⟨v0, g0⟩ : ∃ v, v = a1.eval (.tmp 25) := ⟨_, rfl⟩
    obtain ⟨v3, g3⟩ : ∃ v, v = a1.eval (.tmp 28) := ⟨_, rfl⟩
    obtain ⟨v5, g5⟩ : ∃ v, v = a1.eval (.tmp 30) := ⟨_, rfl⟩
    have hall : ∀ z, z ∈ ([(25, v0), (26, .pointer (some ⟨p, 0, none⟩)), (27, .slice (some ⟨b1, o1, none⟩) n c), (28, v3), (29, .agg #[.int .i64 d.1, .int .i64 d.2]), (30, v5)] : List (Tmp × Value)) → z.1 < a.tmps.size ∧ a1.eval (.tmp z.1) = z.2 := by
      intro z hz
      rw [hlen]
      simp only [List.mem_cons, List.not_mem_nil, or_false] at hz
      rcases hz with rfl | rfl | rfl | rfl | rfl | rfl
      · exact ⟨(show (25 : Nat) < 100 by omega), g0.symm⟩
      · exact ⟨(show (26 : Nat) < 100 by omega), hS 1 (by omega)⟩
      · exact ⟨(show (27 : Nat) < 100 by omega), hS 2 (by omega)⟩
      · exact ⟨(show (28 : Nat) < 100 by omega), g3.symm⟩
      · exact ⟨(show (29 : Nat) < 100 by omega), hS 4 (by omega)⟩
      · exact ⟨(show (30 : Nat) < 100 by omega), g5.symm⟩
    have ha := act_puts hsz hdf hall (fun t ht => hold t (all_ne_of (l := [(25, v0), (26, .pointer (some ⟨p, 0, none⟩)), (27, .slice (some ⟨b1, o1, none⟩) n c), (28, v3), (29, .agg #[.int .i64 d.1, .int .i64 d.2]), (30, v5)]) (by kernel_rfl) ht))
    rw [ha]
    exact K W v0 v3 v5 hB (by rw [g0]; exact hS 0 (by omega)) (by rw [g3]; exact hS 3 (by omega)) (by rw [g5]; exact hS 5 (by omega))
end

theorem wpList_one {P : Program} {ops : Array Oper} {Q : Exit → Act → World → Prop} {rest : List Oper} {o : Oper} {a : Act} {w w' : World} {v : Value} (hgd : o.guard = none) (hr : (execOp a.eval o).run P w = .ok (.value v) w')
    (h : wpList P ops Q rest (a.put o.dst v) w') : wpList P ops Q (o :: rest) a w := by
  simp only [wpList]
  rw [if_pos (by simp [Region.wanted, hgd])]
  left
  unfold Oper.wp
  rw [hr]
  exact h
set_option maxRecDepth 100000 in
set_option maxHeartbeats 2000000 in
theorem mo4_tail {a : Act} {V : World} {Q : Exit → Act → World → Prop} {B px n cap1 g1 g2 : Nat} {cs : List (Int × Int)} {d : Int × Int} {x0 y0 : Value} (h100 : a.tmps.size = 100)
    (e28 : a.eval (.tmp 28) = .slice (some ⟨g1, 0, none⟩) n cap1) (e30 : a.eval (.tmp 30) = .slice (some ⟨g2, 0, none⟩) 1 1) (e7 : a.eval (.tmp 7) = .pointer (some ⟨px, 0, none⟩))
    (hown : V.ownsRow B 65 2 (.slice (some ⟨g1, 0, none⟩) n cap1) n (cs.flatMap encS)) (hg1 : B ≤ g1) (hBV : B ≤ V.heap.size) (hnew : V.heap[g2]? = some (.cells #[.int .i64 d.1, .int .i64 d.2] 65 (0, 0)))
    (hrow : V.heap[px]? = some (.cells #[x0, y0] 25 (0, 0))) (hpx : px < B) (hn : n ≤ 5000)
    (K : ∀ g3 cap3 W, W.ownsRow B 65 2 (.slice (some ⟨g3, 0, none⟩) (n + 1) cap3) (n + 1) ((cs ++ [d]).flatMap encS) → Below px V W → W.heap[px]? = some (.cells #[.slice (some ⟨g3, 0, none⟩) (n + 1) cap3, y0] 25 (0, 0)) →
      Q .normal ((a.put (some 31) (.slice (some ⟨g3, 0, none⟩) (n + 1) cap3)).put (some 32) (.pointer (some ⟨px, 0, none⟩))) W) : wpList Try.prog mo4Reg Q (mo4Reg.toList.drop 6) a V := by
  obtain ⟨o6, o7, o8, hdr, h6, h7, h8⟩ : ∃ o6 o7 o8, mo4Reg.toList.drop 6 = [o6, o7, o8] ∧ mo4Reg[6]? = some o6 ∧ mo4Reg[7]? = some o7 ∧ mo4Reg[8]? = some o8 := by
    have hs : mo4Reg.size = 9 := by kernel_rfl
    refine ⟨mo4Reg[6], mo4Reg[7], mo4Reg[8], ?_, Array.getElem?_eq_getElem _, Array.getElem?_eq_getElem _, Array.getElem?_eq_getElem _⟩
    rw [List.drop_eq_getElem_cons (by simp [hs]), List.drop_eq_getElem_cons (by simp [hs]), List.drop_eq_getElem_cons (by simp [hs]), List.drop_eq_nil_of_le (by simp [hs])]
    simp
  rw [hdr]
  obtain ⟨i0, hi0, hz0, hz1, hz2⟩ := info_parts info65c
  have hu : Try.prog.underlying 22 = some (.slice 65) := by kernel_rfl
  have e1 : (cs ++ [d]).flatMap encS = cs.flatMap encS ++ [.int .i64 d.1, .int .i64 d.2] := by rw [List.flatMap_append]; rfl
  rw [e1] at K
  refine wpList_tail (op_at h6 (·.guard) (x := none) (by kernel_rfl)) (step_append_lies V (op_at h6 (·.guard) (x := none) (by kernel_rfl)) (.tmp 28) (.tmp 30) 22 (op_at h6 (·.op) (by kernel_rfl)) B 65 i0 _ 2 16 hu hi0 hz0 hz1 hz2 rfl (by omega) _ n (cs.flatMap encS) e28 hown ⟨g2, 0, none⟩ 1 1 [.int .i64 d.1, .int .i64 d.2] e30 rfl (World.news_of_block hnew) (by simp [Value.oneCell']) (by omega) (by unfold maxLen; omega) (by omega) hBV V.heap.size rfl ?_)
  intro g3 cap3 V3 hown3 hgr _ _
  have hE3 : Below B V V3 := (Below.refl B V).grown hgr hBV fun r e => by cases e; exact hg1
  rw [show o6.dst = some 31 from op_at h6 (·.dst) (by kernel_rfl)]
  obtain ⟨a6, ha6⟩ : ∃ a6, a.put (some 31) (.slice (some ⟨g3, 0, none⟩) (n + 1) cap3) = a6 := ⟨_, rfl⟩
  have e7b : a6.eval (.tmp 7) = .pointer (some ⟨px, 0, none⟩) := by rw [← ha6]; exact (eval_put_other (by decide)).trans e7
  have e31a : a6.eval (.tmp 31) = .slice (some ⟨g3, 0, none⟩) (n + 1) cap3 := by rw [← ha6]; exact eval_put_same (d := 31) (by rw [h100]; decide)
  have hlen6 : a6.tmps.size = 100 := by rw [← ha6]; simp [Act.put, h100]
  have K3 := K g3 cap3
  rw [ha6] at K3
  rw [ha6]
  refine wpList_one (v := .pointer (some ⟨px, 0, none⟩)) (w' := V3) (op_at h7 (·.guard) (x := none) (by kernel_rfl)) (by simp [execOp, show o7.op = .fieldAddr 25 (.tmp 7) 0 from op_at h7 (·.op) (by kernel_rfl), go_sem, ev e7b]) ?_
  rw [show o7.dst = some 32 from op_at h7 (·.dst) (by kernel_rfl)]
  obtain ⟨a7, ha7⟩ : ∃ a7, a6.put (some 32) (.pointer (some ⟨px, 0, none⟩)) = a7 := ⟨_, rfl⟩
  have e31 : a7.eval (.tmp 31) = .slice (some ⟨g3, 0, none⟩) (n + 1) cap3 := by rw [← ha7]; exact (eval_put_other (by decide)).trans e31a
  have e32 : a7.eval (.tmp 32) = .pointer (some ⟨px, 0, none⟩) := by rw [← ha7]; exact eval_put_same (d := 32) (by rw [hlen6]; decide)
  rw [ha7] at K3
  rw [ha7]
  have hrA : V3.heap[px]? = some (.cells #[x0, y0] 25 (0, 0)) := (hE3.block px hpx).trans hrow
  have fz : V3.frozen? ⟨px, 0, none⟩ = false := by simp [World.frozen?, hrA]
  have hcA : V3.cell? ⟨px, 0, none⟩ = some x0 := cell_of_row _ _ _ _ _ _ hrA
  refine wpList_skip (w' := V3.setCell ⟨px, 0, none⟩ (.slice (some ⟨g3, 0, none⟩) (n + 1) cap3)) (op_at h8 (·.guard) (x := none) (by kernel_rfl)) (by simp [execOp, show o8.op = .store 22 (.tmp 32) (.tmp 31) from op_at h8 (·.op) (by kernel_rfl), go_sem, ev e31, ev e32, fz, hcA]) ?_
  rw [show o8.dst = none from op_at h8 (·.dst) (by kernel_rfl)]
  refine K3 _ (owns_far hown3 fun k hk => ?_) (Below.setCell (hE3.mono (Nat.le_of_lt hpx)) (p := ⟨px, 0, none⟩) (Nat.le_refl _) _) ?_
  · simp only [World.setCell, Array.getElem?_modify]
    rw [if_neg (by omega)]
  · simp [World.setCell, Array.getElem?_modify, hrA]
end Go.Proofs.Ytchmdkdiilaejaa

/- CombMore, walked. -/
namespace Go.Proofs.Ytchmdkdiilaejaa
open Go.RowKit Go.Shelf
attribute [local irreducible] bitCells fitCells Z94 fitOf

theorem few_le {cs ms : List (Int × Int)} (h0 : sheetErr cs ms = 0) : fewOf cs ms ≤ 100 := by
  unfold fewOf
  split
  · rename_i h1
    have := best_few h1
    have := (sheet_ok h0).1.2.2
    omega
  · exact Nat.le_refl _
theorem int_get {w : World} {A : Option Addr} {xs : List Int} (hh : Held w w.heap.size 1 encI A xs) {k : Nat} (hk : k < xs.length) : ∃ b off, A = some ⟨b, off, none⟩ ∧ w.cell? ⟨b, off + k, none⟩ = some (.int .i64 xs[k]) := by
  rcases hh with h | ⟨b, off, rfl, hlt', hc⟩
  · simp [h] at hk
  · refine ⟨b, off, rfl, ?_⟩
    have h2 := hc k xs[k] (List.getElem?_eq_getElem hk) 0 _ rfl
    simpa using h2

set_option maxRecDepth 100000 in
set_option maxHeartbeats 8000000 in
theorem more_any {A : Option Addr} {n c : Nat} {A' : Option Addr} {n' c' : Nat} {cs ms : List (Int × Int)} {w : World} (hb : IsSheet w w.heap.size A n c A' n' c' cs ms) (d0 d1 : Int)
    (A1 : Option Addr) (k1 c1 : Nat) (ys : List (Int × Int)) (hk1 : k1 = ys.length) (hm1 : k1 ≤ 9223372036854775807) (hh1 : Held w w.heap.size 2 encS A1 ys) :
    Calls Try.prog 9 #[.agg #[.slice A n c, .slice A' n' c'], .agg #[.int .i64 d0, .int .i64 d1], .slice A1 k1 c1] w fun e w' => e = .returned (.bool true) ∧ Ext w w' := by
  have hX0 := SheetAt.new hb
  have hE0 : Ext w (w.alloc (.cells #[.slice A n c, .slice A' n' c'] 25)) := ext_alloc w _
  have HN := Lib.hid (And.intro hb.ncs (And.intro hb.nms hk1))
  have HB := Lib.hid hb
  have H1w := Lib.hid hh1
  clear hb hk1 hh1
  go_enter Try.func9, Try.ntmps9
  go_upto_region 1 with fail
  obtain ⟨w0, hw0⟩ : ∃ w0, (w.alloc (.cells #[.slice A n c, .slice A' n' c'] 25)).alloc (.cells #[.int .i64 d0, .int .i64 d1] 65) = w0 := ⟨_, rfl⟩
  have e3 : Ext (w.alloc (.cells #[.slice A n c, .slice A' n' c'] 25)) w0 := by rw [← hw0]; exact ext_alloc _ _
  have r1 : w0.heap[w.heap.size + 1]? = some (.cells #[.int .i64 d0, .int .i64 d1] 65 (0, 0)) := by rw [← hw0]; exact row_last _ _ _ (by simp)
  have hx0 := hX0.ext e3
  have he0 := hE0.trans e3
  have hz : w.heap.size + 2 ≤ w0.heap.size := by rw [← hw0]; simp
  rw [hw0]
  obtain ⟨pm, hpm⟩ : ∃ pm, w.heap.size + 1 = pm := ⟨_, rfl⟩
  rw [hpm] at r1 ⊢
  obtain ⟨p, hp⟩ : ∃ p, w.heap.size = p := ⟨_, rfl⟩
  rw [hp] at hx0 ⊢
  have HP := Lib.hid (And.intro hp (And.intro hpm hz))
  have HX := Lib.hid hx0
  have HE := Lib.hid he0
  have HD := Lib.hid r1
  clear hX0 hE0 e3 r1 hx0 he0 hw0 hp hpm hz
  obtain ⟨q0, q1⟩ := HX.out.cells
  have h39 := fine_any HX.out.sheet
  by_cases h0 : sheetErr cs ms = 0
  · rw [decide_eq_true h0] at h39
    have HS := Lib.hid h0
    clear h0
    go_wp2_with (fail)
    refine h39.mono ?_
    rintro e w1 ⟨rfl, e1⟩
    have HE := Lib.hid (HE.out.trans e1)
    have HX := Lib.hid (HX.out.ext e1)
    have HD := Lib.hid (row_ext HD.out e1)
    have HZ := Lib.hid (Nat.le_trans HP.out.2.2 e1.size)
    clear e1 h39 q0 q1
    by_cases g1 : 30 < (k1 : Int)
    · go_wp2_with fail
      refine (works_any _).mono ?_
      rintro e w2 ⟨rfl, e2⟩
      have HE := Lib.hid (HE.out.trans e2)
      clear e2
      go_wp2
      go_ret
      exact ⟨rfl, HE.out⟩
    · have hsm := sheet_ok HS.out
      have hn1 : n ≤ 8 := by have := HN.out.1; have := hsm.1; omega
      have hn2 : 0 < n := by have := HN.out.1; have := hsm.1; omega
      obtain ⟨b1, o1, rfl⟩ : ∃ b1 o1, A = some ⟨b1, o1, none⟩ := by
        rcases HB.out.hcs with h | ⟨b, off, h, _⟩
        · have := HN.out.1
          rw [h] at this
          simp at this
          omega
        · exact ⟨b, off, h⟩
      obtain ⟨q0, q1⟩ := HX.out.cells
      clear hsm
      go_upto_region 4 with fail
      obtain ⟨w2, hw2⟩ : ∃ w2, w1.alloc (.cells #[.slice (some ⟨b1, o1, none⟩) n c, .slice A' n' c'] 25) = w2 := ⟨_, rfl⟩
      have e2 : Ext w1 w2 := by rw [← hw2]; exact ext_alloc _ _
      have r2 : w2.heap[w1.heap.size]? = some (.cells #[.slice (some ⟨b1, o1, none⟩) n c, .slice A' n' c'] 25 (0, 0)) := by rw [← hw2]; exact row_last _ _ _ rfl
      have hz2 : w1.heap.size < w2.heap.size := by rw [← hw2]; simp
      rw [hw2]
      obtain ⟨px, hpx⟩ : ∃ px, w1.heap.size = px := ⟨_, rfl⟩
      rw [hpx] at r2 hz2 ⊢
      have hpp : p < px ∧ pm < px ∧ w.heap.size ≤ px := by
        have h1 := HP.out
        have h2 := HZ.out
        omega
      have HE := Lib.hid (HE.out.trans e2)
      have HX := Lib.hid (HX.out.ext e2)
      have HD := Lib.hid (row_ext HD.out e2)
      have HR := Lib.hid r2
      have HPP := Lib.hid hpp
      have HZ2 := Lib.hid hz2
      clear e2 r2 hz2 hpp hw2 hpx q0 q1 g1
      refine mo4_wp (p := p) (pm := pm) (b1 := b1) (o1 := o1) (n := n) (c := c) (B := w2.heap.size) (cs := cs) (d := (d0, d1)) rfl rfl rfl
        (fun W hW => (HX.out.ext hW).cells.1) HN.out.1 hn2 (by omega) (Nat.le_refl _) (fun W hW => heldS_flat (HX.out.ext hW).sheet.hcs) (fun W hW => cell_of_row _ _ _ _ _ _ (row_ext HD.out hW)) (fun W hW => cell_of_row _ _ _ _ _ _ (row_ext HD.out hW)) ?_
      intro W v0 v3 v5 eW i0 i3 i5
      obtain ⟨g0, rfl, _⟩ : ∃ g, v0 = .slice (some ⟨g, 0, none⟩) 0 0 ∧ W.heap[g]? = some (.cells #[] 65 (0, 0)) := i0
      obtain ⟨g1, cap1, rfl, hg1, hown⟩ : ∃ g cap, v3 = .slice (some ⟨g, 0, none⟩) n cap ∧ w2.heap.size ≤ g ∧ W.ownsRow w2.heap.size 65 2 v3 n (cs.flatMap encS) := i3
      obtain ⟨g2, rfl, hnew⟩ : ∃ g, v5 = .slice (some ⟨g, 0, none⟩) 1 1 ∧ W.heap[g]? = some (.cells #[.int .i64 d0, .int .i64 d1] 65 (0, 0)) := i5
      simp only [puts, List.foldl_cons, List.foldl_nil, Act.put, List.setIfInBounds_toArray, List.set_cons_succ, List.set_cons_zero]
      refine mo4_tail (B := w2.heap.size) (px := px) (n := n) (cap1 := cap1) (g1 := g1) (g2 := g2) (cs := cs) (d := (d0, d1)) rfl rfl rfl rfl hown hg1 eW.size hnew (row_ext HR.out eW) HZ2.out (by omega) ?_
      intro g3 cap3 W3 hown3 hB3 hrow3
      simp only [Act.put, List.setIfInBounds_toArray, List.set_cons_succ, List.set_cons_zero]
      have hEW : Ext w W3 := Below.trans (show Below w.heap.size w W from HE.out.trans eW) (hB3.mono HPP.out.2.2)
      have hsh3 := (HB.out.ext hEW)
      have hX3 : SheetAt W3 p (some ⟨b1, o1, none⟩) n c A' n' c' cs ms := ⟨(hB3.block p HPP.out.1).trans (row_ext HX.out.row eW), hsh3⟩
      have hheld := heldS_of_owns hown3
      have hY3 : SheetAt W3 px (some ⟨g3, 0, none⟩) (n + 1) cap3 A' n' c' (cs ++ [(d0, d1)]) ms := ⟨hrow3, by rw [List.length_append, ← HN.out.1]; rfl, hsh3.nms, by omega, hsh3.nle', hheld.2, hsh3.cap', hheld.1, hsh3.hms⟩
      have HX := Lib.hid hX3
      have HY := Lib.hid hY3
      have HE := Lib.hid hEW
      have H1 := Lib.hid (Held.ext H1w.out hEW)
      clear hX3 hY3 hEW hsh3 hheld hown3 hB3 hrow3 hown hg1 hnew eW HR HD H1w HB HZ2 HPP HZ
      have h47 := few47_any HX.out.sheet HS.out
      obtain ⟨q0, q1⟩ := HX.out.cells
      go_wp2_with fail
      refine h47.mono ?_
      rintro e w4 ⟨rfl, e4⟩
      have HE := Lib.hid (HE.out.trans e4)
      have HX := Lib.hid (HX.out.ext e4)
      have HY := Lib.hid (HY.out.ext e4)
      have H1 := Lib.hid (Held.ext H1.out e4)
      clear e4 h47 q0 q1
      have h21 := lost_any HX.out.sheet
      obtain ⟨q0, q1⟩ := HX.out.cells
      go_wp2_with fail
      refine h21.mono ?_
      intro e w5 hp2
      obtain ⟨e5, A3, m3, c3, rfl, hm3, hl3, hh3⟩ := post_ints hp2
      rw [if_pos HS.out] at hm3 hh3
      rw [HS.out]
      have HE := Lib.hid (HE.out.trans e5)
      have HX := Lib.hid (HX.out.ext e5)
      have HY := Lib.hid (HY.out.ext e5)
      have H1 := Lib.hid (Held.ext H1.out e5)
      have H3 := Lib.hid hh3
      have HM3 := Lib.hid (And.intro hm3 hl3)
      clear e5 h21 q0 q1 hp2 hh3 hm3 hl3
      have h39 := fine_any HY.out.sheet
      obtain ⟨q0, q1⟩ := HY.out.cells
      by_cases h0 : sheetErr (cs ++ [(d0, d1)]) ms = 0
      · rw [decide_eq_true h0] at h39
        have HS2 := Lib.hid h0
        clear h0
        go_wp2_with (fail)
        refine h39.mono ?_
        rintro e w6 ⟨rfl, e6⟩
        have HE := Lib.hid (HE.out.trans e6)
        have HX := Lib.hid (HX.out.ext e6)
        have HY := Lib.hid (HY.out.ext e6)
        have H1 := Lib.hid (Held.ext H1.out e6)
        have H3 := Lib.hid (Held.ext H3.out e6)
        clear e6 h39 q0 q1
        have h47 := few47_any HY.out.sheet HS2.out
        obtain ⟨q0, q1⟩ := HY.out.cells
        go_wp2_with fail
        refine h47.mono ?_
        rintro e w7 ⟨rfl, e7⟩
        have HE := Lib.hid (HE.out.trans e7)
        have HX := Lib.hid (HX.out.ext e7)
        have HY := Lib.hid (HY.out.ext e7)
        have H1 := Lib.hid (Held.ext H1.out e7)
        have H3 := Lib.hid (Held.ext H3.out e7)
        clear e7 h47 q0 q1
        have h21 := lost_any HY.out.sheet
        obtain ⟨q0, q1⟩ := HY.out.cells
        go_wp2_with fail
        refine h21.mono ?_
        intro e w8 hp2
        obtain ⟨e8, A4, m4, c4, rfl, hm4, hl4, hh4⟩ := post_ints hp2
        rw [if_pos HS2.out] at hm4 hh4
        rw [HS2.out]
        have HE := Lib.hid (HE.out.trans e8)
        have HX := Lib.hid (HX.out.ext e8)
        have HY := Lib.hid (HY.out.ext e8)
        have H1 := Lib.hid (Held.ext H1.out e8)
        have H3 := Lib.hid (Held.ext H3.out e8)
        have H4 := Lib.hid hh4
        have HM4 := Lib.hid hm4
        clear e8 h21 q0 q1 hp2 hh4 hm4
        have hle := few_more (d0, d1) HS.out HS2.out
        have hle2 := few_le HS.out
        obtain ⟨F2, hF2⟩ : ∃ F2, fewOf (cs ++ [(d0, d1)]) ms = F2 := ⟨_, rfl⟩
        obtain ⟨F1, hF1⟩ : ∃ F1, fewOf cs ms = F1 := ⟨_, rfl⟩
        rw [hF1, hF2] at hle
        rw [hF1] at hle2
        rw [hF1, hF2]
        have hgt : ¬ (F1 : Int) < (F2 : Int) := by omega
        have hgn : ¬ F1 < F2 := by omega
        have hgd : decide (F1 < F2) = false := decide_eq_false hgn
        clear hF1 hF2
        have h41 := fun W (hW : Ext w8 W) => checkRows_any (HX.out.ext hW).sheet A1 k1 c1 ys HN.out.2.2 hm1 (Held.ext H1.out hW)
        have h41b := fun W (hW : Ext w8 W) => checkRows_any (HY.out.ext hW).sheet A1 k1 c1 ys HN.out.2.2 hm1 (Held.ext H1.out hW)
        have hrm := rows_more (ys := ys) (d0, d1) HS2.out HS.out
        obtain ⟨r1, hr1⟩ : ∃ r1, rowsErr cs ms ys = r1 := ⟨_, rfl⟩
        obtain ⟨r2, hr2⟩ : ∃ r2, rowsErr (cs ++ [(d0, d1)]) ms ys = r2 := ⟨_, rfl⟩
        rw [hr1] at h41 hrm
        rw [hr2] at h41b hrm
        clear hr1 hr2
        obtain ⟨q0, q1⟩ := HX.out.cells
        have main : ∀ (wl : World), Ext w8 wl → Hid (Ext w wl) := fun wl h => Lib.hid (HE.out.trans h)
        by_cases hr0 : r1 = 0
        · have hr20 := hrm hr0
          subst hr0
          subst hr20
          clear hrm
          go_wp2_with fail
          refine (h41 _ (Ext.refl _)).mono ?_
          rintro e w9 ⟨rfl, e9⟩
          obtain ⟨y0, y1⟩ := (HY.out.ext e9).cells
          have E9 := Lib.hid e9
          clear e9 q0 q1 h41
          go_wp2_with fail
          refine (h41b _ E9.out).mono ?_
          rintro e w10 ⟨rfl, e10⟩
          have E10 := Lib.hid (E9.out.trans e10)
          clear e10 y0 y1 h41b
          go_wp2
          go_loopw [14] (fun i wr => ∃ k : Nat, k ≤ m4 ∧ i = .int .i64 k ∧ Hid (Ext w10 wr)) (fun i _ => m4 - (intOf i).toNat)
          case atStart => exact ⟨0, Nat.zero_le _, rfl, Lib.hid (Ext.refl _)⟩
          case round =>
            obtain ⟨k, hk, rfl, hE⟩ := hrel
            by_cases hkn : k < m4
            · have hkz : (k : Int) < (m4 : Int) := by omega
              have hkl : k < (lostOf (cs ++ [(d0, d1)]) ms).length := by rw [← HM4.out]; exact hkn
              obtain ⟨b4, o4, rfl, hc4⟩ := int_get (Held.ext H4.out (E10.out.trans hE.out)) hkl
              have hin := lost_more (d0, d1) HS.out (List.getElem_mem hkl)
              have h45 := in_any A3 m3 c3 (lostOf cs ms) (lostOf (cs ++ [(d0, d1)]) ms)[k] wr HM3.out.1 HM3.out.2 (Held.ext H3.out (E10.out.trans hE.out))
              rw [decide_eq_true hin] at h45
              obtain ⟨v, hv⟩ : ∃ v, (lostOf (cs ++ [(d0, d1)]) ms)[k] = v := ⟨_, rfl⟩
              rw [hv] at hc4 h45
              clear hv hin
              go_wp2_with fail
              refine h45.mono ?_
              rintro e w11 ⟨rfl, e11⟩
              have HE11 := Lib.hid (hE.out.trans (show Ext wr w11 from e11))
              clear e11 h45 hE hc4
              go_wp2
              go_roundw
              case measure => simp [intOf]; omega
              case rel => exact ⟨k + 1, by omega, by go_num, HE11⟩
            · have hkz : ¬ (k : Int) < (m4 : Int) := by omega
              have HE11 := Lib.hid (HE.out.trans (E10.out.trans hE.out))
              clear hE
              go_wp2_with fail
              refine (works_any _).mono ?_
              rintro e w12 ⟨rfl, e12⟩
              have HE := Lib.hid (HE11.out.trans e12)
              clear e12
              go_wp2
              go_ret
              exact ⟨rfl, HE.out⟩
        · clear hrm
          go_wp2_with fail
          refine (h41 _ (Ext.refl _)).mono ?_
          rintro e w9 ⟨rfl, e9⟩
          have E10 := Lib.hid e9
          clear e9 q0 q1 h41 h41b
          go_wp2
          go_loopw [14] (fun i wr => ∃ k : Nat, k ≤ m4 ∧ i = .int .i64 k ∧ Hid (Ext w9 wr)) (fun i _ => m4 - (intOf i).toNat)
          case atStart => exact ⟨0, Nat.zero_le _, rfl, Lib.hid (Ext.refl _)⟩
          case round =>
            obtain ⟨k, hk, rfl, hE⟩ := hrel
            by_cases hkn : k < m4
            · have hkz : (k : Int) < (m4 : Int) := by omega
              have hkl : k < (lostOf (cs ++ [(d0, d1)]) ms).length := by rw [← HM4.out]; exact hkn
              obtain ⟨b4, o4, rfl, hc4⟩ := int_get (Held.ext H4.out (E10.out.trans hE.out)) hkl
              have hin := lost_more (d0, d1) HS.out (List.getElem_mem hkl)
              have h45 := in_any A3 m3 c3 (lostOf cs ms) (lostOf (cs ++ [(d0, d1)]) ms)[k] wr HM3.out.1 HM3.out.2 (Held.ext H3.out (E10.out.trans hE.out))
              rw [decide_eq_true hin] at h45
              obtain ⟨v, hv⟩ : ∃ v, (lostOf (cs ++ [(d0, d1)]) ms)[k] = v := ⟨_, rfl⟩
              rw [hv] at hc4 h45
              clear hv hin
              go_wp2_with fail
              refine h45.mono ?_
              rintro e w11 ⟨rfl, e11⟩
              have HE11 := Lib.hid (hE.out.trans (show Ext wr w11 from e11))
              clear e11 h45 hE hc4
              go_wp2
              go_roundw
              case measure => simp [intOf]; omega
              case rel => exact ⟨k + 1, by omega, by go_num, HE11⟩
            · have hkz : ¬ (k : Int) < (m4 : Int) := by omega
              have HE11 := Lib.hid (HE.out.trans (E10.out.trans hE.out))
              clear hE
              go_wp2_with fail
              refine (works_any _).mono ?_
              rintro e w12 ⟨rfl, e12⟩
              have HE := Lib.hid (HE11.out.trans e12)
              clear e12
              go_wp2
              go_ret
              exact ⟨rfl, HE.out⟩
      · rw [decide_eq_false h0] at h39
        clear h0
        go_wp2_with (fail)
        refine h39.mono ?_
        rintro e w6 ⟨rfl, e6⟩
        have HE := Lib.hid (HE.out.trans e6)
        clear e6 h39 q0 q1
        go_wp2_with fail
        refine (works_any _).mono ?_
        rintro e w2 ⟨rfl, e2⟩
        have HE := Lib.hid (HE.out.trans e2)
        clear e2
        go_wp2
        go_ret
        exact ⟨rfl, HE.out⟩
  · rw [decide_eq_false h0] at h39
    clear h0
    go_wp2_with (fail)
    refine h39.mono ?_
    rintro e w1 ⟨rfl, e1⟩
    have HE := Lib.hid (HE.out.trans e1)
    clear e1 h39 q0 q1
    go_wp2_with fail
    refine (works_any _).mono ?_
    rintro e w2 ⟨rfl, e2⟩
    have HE := Lib.hid (HE.out.trans e2)
    clear e2
    go_wp2
    go_ret
    exact ⟨rfl, HE.out⟩
end Go.Proofs.Ytchmdkdiilaejaa
