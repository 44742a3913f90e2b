/- Texts of one package, joined: FewGuard, Fewest, Kind1, KindReg, Kind2. -/
import Derived.Test.YtlaakmgdbhabfaaC11
import Derived.Test.YtlaakmgdbhabfaaC16
import Derived.Test.YtlaakmgdbhabfaaC18
import Derived.Laws.Cover3
/- fewest: the region that asks whether a row leads further. -/
namespace Go.Proofs.Ytlaakmgdbhabfaa
open Go.RowKit Go.Shelf
theorem eq_nil (W : World) (A : Option Addr) (l c : Nat) (b : Bool) (h : A.isNone = b) : (binOp .eql 54 (.slice A l c) (.slice none 0 0)).run Try.prog W = .ok (.bool b) W := by
  have hu : Try.prog.underlying 54 = some (.slice 27) := by kernel_rfl
  simp only [binOp]
  simp [run_equal_slice_nil W 54 27 A l c hu, h]
theorem ne_nil (W : World) (A : Option Addr) (l c : Nat) (b : Bool) (h : (!A.isNone) = b) : (binOp .neq 54 (.slice A l c) (.slice none 0 0)).run Try.prog W = .ok (.bool b) W := by
  have hu : Try.prog.underlying 54 = some (.slice 27) := by kernel_rfl
  rw [run_neq_slice_nil W 54 27 A l c hu, h]
theorem eqg_slice (x y : Operand) (A B : Option Addr) (l c l' c' : Nat) : eqGuard .eql 54 x y (.slice A l c) (.slice B l' c') = pure () := rfl
theorem neg_slice (x y : Operand) (A B : Option Addr) (l c l' c' : Nat) : eqGuard .neq 54 x y (.slice A l c) (.slice B l' c') = pure () := rfl
theorem wpList_go {P : Program} {ops : Array Oper} {Q : Exit → Act → World → Prop} {rest : List Oper} {o : Oper} {a : Act} {w : World} {v : Value} (hw : Region.wanted o (yielded ops a.tmps) = true) (hr : (execOp a.eval o).run P w = .ok (.value v) w)
    (h : wpList P ops Q rest (a.put o.dst v) w) : wpList P ops Q (o :: rest) a w := by
  simp only [wpList]
  rw [if_pos hw]
  left
  unfold Oper.wp
  rw [hr]
  exact h
theorem wpList_not {P : Program} {ops : Array Oper} {Q : Exit → Act → World → Prop} {rest : List Oper} {o : Oper} {a : Act} {w : World} (hw : Region.wanted o (yielded ops a.tmps) = false)
    (h : wpList P ops Q rest (a.put o.dst undef) w) : wpList P ops Q (o :: rest) a w := by
  simp only [wpList]
  rw [if_neg (by rw [hw]; decide)]
  exact h
theorem wanted_free {o : Oper} {y : Nat → Option Bool} (h : o.guard = none) : Region.wanted o y = true := by simp [Region.wanted, h]
theorem wanted_at {ops : Array Oper} {o oj : Oper} {a : Act} {j : Nat} {b x : Bool} {d : Tmp} (h : o.guard = some (j, b)) (hj : ops[j]? = some oj) (hd : oj.dst = some d) (he : a.eval (.tmp d) = .bool x) : Region.wanted o (yielded ops a.tmps) = (x == b) := by
  have hy : a.tmps[d]? = some (.bool x) := by
    simp only [Act.eval, Array.getD_eq_getD_getElem?] at he
    cases h1 : a.tmps[d]? with
    | none => rw [h1] at he; simp [undef] at he
    | some u => rw [h1] at he; simp at he; rw [he]
  simp [Region.wanted, h, yielded, hj, hd, hy]

noncomputable def fw17Reg : Array Oper := (Try.f75.body.bind (regionOf · 17)).getD #[]
set_option maxRecDepth 100000 in
set_option maxHeartbeats 4000000 in
theorem fw17_none_wp {g T s bq offq kq c1 : Nat} {Q : Exit → Act → World → Prop} {a0 : Act} {W : World} {id : Nat} (hlen : a0.tmps.size = 102) (e7 : a0.eval (.tmp 7) = .slice (some ⟨g, 0, none⟩) T T) (e8 : a0.eval (.tmp 8) = .int .i64 (s : Int)) (e11 : a0.eval (.tmp 11) = .slice (some ⟨bq, offq, none⟩) kq c1) (hsz : (s : Int) < (T : Int)) (hcell : W.cell? ⟨g, s, none⟩ = some (.slice none 0 0)) (K : Q .normal (puts a0 [(66, .slice (some ⟨bq, offq, none⟩) kq c1), (67, .bool false), (68, .bool false), (69, .slice (some ⟨g, 0, none⟩) T T), (70, .int .i64 (s : Int)), (71, .pointer (some ⟨g, s, none⟩)), (72, .slice none 0 0), (73, .bool false), (74, .bool false), (75, undef), (76, undef), (77, undef), (78, undef), (79, undef), (80, undef), (81, undef), (82, undef), (83, undef), (84, .bool false), (85, .bool false)]) W) : (Code.region id fw17Reg false).wp Try.prog Q a0 W := by
  refine wp_region_list ?_
  obtain ⟨o0, o1, o2, o3, o4, o5, o6, o7, o8, o9, o10, o11, o12, o13, o14, o15, o16, o17, o18, o19, hdr, h0, h1, h2, h3, h4, h5, h6, h7, h8, h9, h10, h11, h12, h13, h14, h15, h16, h17, h18, h19⟩ : ∃ o0 o1 o2 o3 o4 o5 o6 o7 o8 o9 o10 o11 o12 o13 o14 o15 o16 o17 o18 o19, fw17Reg.toList = [o0, o1, o2, o3, o4, o5, o6, o7, o8, o9, o10, o11, o12, o13, o14, o15, o16, o17, o18, o19] ∧ fw17Reg[0]? = some o0 ∧ fw17Reg[1]? = some o1 ∧ fw17Reg[2]? = some o2 ∧ fw17Reg[3]? = some o3 ∧ fw17Reg[4]? = some o4 ∧ fw17Reg[5]? = some o5 ∧ fw17Reg[6]? = some o6 ∧ fw17Reg[7]? = some o7 ∧ fw17Reg[8]? = some o8 ∧ fw17Reg[9]? = some o9 ∧ fw17Reg[10]? = some o10 ∧ fw17Reg[11]? = some o11 ∧ fw17Reg[12]? = some o12 ∧ fw17Reg[13]? = some o13 ∧ fw17Reg[14]? = some o14 ∧ fw17Reg[15]? = some o15 ∧ fw17Reg[16]? = some o16 ∧ fw17Reg[17]? = some o17 ∧ fw17Reg[18]? = some o18 ∧ fw17Reg[19]? = some o19 := by
    have hs : fw17Reg.size = 20 := by kernel_rfl
    refine ⟨fw17Reg[0], fw17Reg[1], fw17Reg[2], fw17Reg[3], fw17Reg[4], fw17Reg[5], fw17Reg[6], fw17Reg[7], fw17Reg[8], fw17Reg[9], fw17Reg[10], fw17Reg[11], fw17Reg[12], fw17Reg[13], fw17Reg[14], fw17Reg[15], fw17Reg[16], fw17Reg[17], fw17Reg[18], fw17Reg[19], ?_, by simp, by simp, by simp, by simp, by simp, by simp, by simp, by simp, by simp, by simp, by simp, by simp, by simp, by simp, by simp, by simp, by simp, by simp, by simp, by simp⟩
    apply List.ext_getElem?
    intro i
    by_cases hi : i < 20
    · rw [Array.getElem?_toList, Array.getElem?_eq_getElem (by omega)]
      match i, hi with
      | 0, _ => rfl
      | 1, _ => rfl
      | 2, _ => rfl
      | 3, _ => rfl
      | 4, _ => rfl
      | 5, _ => rfl
      | 6, _ => rfl
      | 7, _ => rfl
      | 8, _ => rfl
      | 9, _ => rfl
      | 10, _ => rfl
      | 11, _ => rfl
      | 12, _ => rfl
      | 13, _ => rfl
      | 14, _ => rfl
      | 15, _ => rfl
      | 16, _ => rfl
      | 17, _ => rfl
      | 18, _ => rfl
      | 19, _ => rfl
      | k + 20, h => exact absurd h (by omega)
    · rw [List.getElem?_eq_none (by simp; omega), List.getElem?_eq_none (by simp; omega)]
  rw [hdr]
  have z0 := hlen
  have op0 := op_at h0 (·.op) (x := Op.move (Operand.tmp 11)) (by kernel_rfl)
  have d0 := op_at h0 (·.dst) (x := some 66) (by kernel_rfl)
  have g0 := op_at h0 (·.guard) (x := none) (by kernel_rfl)
  refine wpList_go (v := .slice (some ⟨bq, offq, none⟩) kq c1) (wanted_free g0) (by simp [execOp, op0, go_sem, ev e11]) ?_
  rw [d0]
  obtain ⟨a1, ha1⟩ : ∃ a, a0.put (some 66) (.slice (some ⟨bq, offq, none⟩) kq c1) = a := ⟨_, rfl⟩
  rw [ha1]
  have z1 : a1.tmps.size = 102 := by rw [← ha1]; simp [Act.put, z0]
  replace e7 : a1.eval (.tmp 7) = .slice (some ⟨g, 0, none⟩) T T := by rw [← ha1, evn_ne (by decide)]; exact e7
  replace e8 : a1.eval (.tmp 8) = .int .i64 (s : Int) := by rw [← ha1, evn_ne (by decide)]; exact e8
  replace e11 : a1.eval (.tmp 11) = .slice (some ⟨bq, offq, none⟩) kq c1 := by rw [← ha1, evn_ne (by decide)]; exact e11
  have e66 : a1.eval (.tmp 66) = .slice (some ⟨bq, offq, none⟩) kq c1 := by rw [← ha1]; exact evn_same (by omega)
  have op1 := op_at h1 (·.op) (x := Op.binOp BinOp.eql 54 (Operand.tmp 66) (Operand.const (Value.slice none 0 0)) 54) (by kernel_rfl)
  have d1 := op_at h1 (·.dst) (x := some 67) (by kernel_rfl)
  have g1 := op_at h1 (·.guard) (x := none) (by kernel_rfl)
  have q1 := eq_nil W (some ⟨bq, offq, none⟩) kq c1 false rfl
  refine wpList_go (v := .bool false) (wanted_free g1) (by simp [execOp, op1, e66, q1, show a1.eval (.const (.slice none 0 0)) = .slice none 0 0 from rfl, eqg_slice, Result.andThen]) ?_
  rw [d1]
  obtain ⟨a2, ha2⟩ : ∃ a, a1.put (some 67) (.bool false) = a := ⟨_, rfl⟩
  rw [ha2]
  have z2 : a2.tmps.size = 102 := by rw [← ha2]; simp [Act.put, z1]
  replace e7 : a2.eval (.tmp 7) = .slice (some ⟨g, 0, none⟩) T T := by rw [← ha2, evn_ne (by decide)]; exact e7
  replace e8 : a2.eval (.tmp 8) = .int .i64 (s : Int) := by rw [← ha2, evn_ne (by decide)]; exact e8
  replace e11 : a2.eval (.tmp 11) = .slice (some ⟨bq, offq, none⟩) kq c1 := by rw [← ha2, evn_ne (by decide)]; exact e11
  have e67 : a2.eval (.tmp 67) = .bool false := by rw [← ha2]; exact evn_same (by omega)
  have op2 := op_at h2 (·.op) (x := Op.move (Operand.tmp 67)) (by kernel_rfl)
  have d2 := op_at h2 (·.dst) (x := some 68) (by kernel_rfl)
  have g2 := op_at h2 (·.guard) (x := none) (by kernel_rfl)
  refine wpList_go (v := .bool false) (wanted_free g2) (by simp [execOp, op2, go_sem, ev e67]) ?_
  rw [d2]
  obtain ⟨a3, ha3⟩ : ∃ a, a2.put (some 68) (.bool false) = a := ⟨_, rfl⟩
  rw [ha3]
  have z3 : a3.tmps.size = 102 := by rw [← ha3]; simp [Act.put, z2]
  replace e7 : a3.eval (.tmp 7) = .slice (some ⟨g, 0, none⟩) T T := by rw [← ha3, evn_ne (by decide)]; exact e7
  replace e8 : a3.eval (.tmp 8) = .int .i64 (s : Int) := by rw [← ha3, evn_ne (by decide)]; exact e8
  replace e11 : a3.eval (.tmp 11) = .slice (some ⟨bq, offq, none⟩) kq c1 := by rw [← ha3, evn_ne (by decide)]; exact e11
  have e68 : a3.eval (.tmp 68) = .bool false := by rw [← ha3]; exact evn_same (by omega)
  have op3 := op_at h3 (·.op) (x := Op.move (Operand.tmp 7)) (by kernel_rfl)
  have d3 := op_at h3 (·.dst) (x := some 69) (by kernel_rfl)
  have g3 := op_at h3 (·.guard) (x := some (2, false)) (by kernel_rfl)
  refine wpList_go (v := .slice (some ⟨g, 0, none⟩) T T) (wanted_at g3 h2 d2 e68) (by simp [execOp, op3, go_sem, ev e7]) ?_
  rw [d3]
  obtain ⟨a4, ha4⟩ : ∃ a, a3.put (some 69) (.slice (some ⟨g, 0, none⟩) T T) = a := ⟨_, rfl⟩
  rw [ha4]
  have z4 : a4.tmps.size = 102 := by rw [← ha4]; simp [Act.put, z3]
  replace e7 : a4.eval (.tmp 7) = .slice (some ⟨g, 0, none⟩) T T := by rw [← ha4, evn_ne (by decide)]; exact e7
  replace e8 : a4.eval (.tmp 8) = .int .i64 (s : Int) := by rw [← ha4, evn_ne (by decide)]; exact e8
  replace e11 : a4.eval (.tmp 11) = .slice (some ⟨bq, offq, none⟩) kq c1 := by rw [← ha4, evn_ne (by decide)]; exact e11
  replace e68 : a4.eval (.tmp 68) = .bool false := by rw [← ha4, evn_ne (by decide)]; exact e68
  have e69 : a4.eval (.tmp 69) = .slice (some ⟨g, 0, none⟩) T T := by rw [← ha4]; exact evn_same (by omega)
  have op4 := op_at h4 (·.op) (x := Op.move (Operand.tmp 8)) (by kernel_rfl)
  have d4 := op_at h4 (·.dst) (x := some 70) (by kernel_rfl)
  have g4 := op_at h4 (·.guard) (x := some (2, false)) (by kernel_rfl)
  refine wpList_go (v := .int .i64 (s : Int)) (wanted_at g4 h2 d2 e68) (by simp [execOp, op4, go_sem, ev e8]) ?_
  rw [d4]
  obtain ⟨a5, ha5⟩ : ∃ a, a4.put (some 70) (.int .i64 (s : Int)) = a := ⟨_, rfl⟩
  rw [ha5]
  have z5 : a5.tmps.size = 102 := by rw [← ha5]; simp [Act.put, z4]
  replace e7 : a5.eval (.tmp 7) = .slice (some ⟨g, 0, none⟩) T T := by rw [← ha5, evn_ne (by decide)]; exact e7
  replace e8 : a5.eval (.tmp 8) = .int .i64 (s : Int) := by rw [← ha5, evn_ne (by decide)]; exact e8
  replace e11 : a5.eval (.tmp 11) = .slice (some ⟨bq, offq, none⟩) kq c1 := by rw [← ha5, evn_ne (by decide)]; exact e11
  replace e68 : a5.eval (.tmp 68) = .bool false := by rw [← ha5, evn_ne (by decide)]; exact e68
  replace e69 : a5.eval (.tmp 69) = .slice (some ⟨g, 0, none⟩) T T := by rw [← ha5, evn_ne (by decide)]; exact e69
  have e70 : a5.eval (.tmp 70) = .int .i64 (s : Int) := by rw [← ha5]; exact evn_same (by omega)
  have op5 := op_at h5 (·.op) (x := Op.indexAddr 116 (Operand.tmp 69) (Operand.tmp 70)) (by kernel_rfl)
  have d5 := op_at h5 (·.dst) (x := some 71) (by kernel_rfl)
  have g5 := op_at h5 (·.guard) (x := some (2, false)) (by kernel_rfl)
  refine wpList_go (v := .pointer (some ⟨g, s, none⟩)) (wanted_at g5 h2 d2 e68) (by simp [execOp, op5, go_sem, ev e69, ev e70, hsz]) ?_
  rw [d5]
  obtain ⟨a6, ha6⟩ : ∃ a, a5.put (some 71) (.pointer (some ⟨g, s, none⟩)) = a := ⟨_, rfl⟩
  rw [ha6]
  have z6 : a6.tmps.size = 102 := by rw [← ha6]; simp [Act.put, z5]
  replace e7 : a6.eval (.tmp 7) = .slice (some ⟨g, 0, none⟩) T T := by rw [← ha6, evn_ne (by decide)]; exact e7
  replace e8 : a6.eval (.tmp 8) = .int .i64 (s : Int) := by rw [← ha6, evn_ne (by decide)]; exact e8
  replace e11 : a6.eval (.tmp 11) = .slice (some ⟨bq, offq, none⟩) kq c1 := by rw [← ha6, evn_ne (by decide)]; exact e11
  replace e68 : a6.eval (.tmp 68) = .bool false := by rw [← ha6, evn_ne (by decide)]; exact e68
  have e71 : a6.eval (.tmp 71) = .pointer (some ⟨g, s, none⟩) := by rw [← ha6]; exact evn_same (by omega)
  have op6 := op_at h6 (·.op) (x := Op.load 54 (Operand.tmp 71)) (by kernel_rfl)
  have d6 := op_at h6 (·.dst) (x := some 72) (by kernel_rfl)
  have g6 := op_at h6 (·.guard) (x := some (2, false)) (by kernel_rfl)
  refine wpList_go (v := .slice none 0 0) (wanted_at g6 h2 d2 e68) (by simp [execOp, op6, go_sem, ev e71, hcell]) ?_
  rw [d6]
  obtain ⟨a7, ha7⟩ : ∃ a, a6.put (some 72) (.slice none 0 0) = a := ⟨_, rfl⟩
  rw [ha7]
  have z7 : a7.tmps.size = 102 := by rw [← ha7]; simp [Act.put, z6]
  replace e7 : a7.eval (.tmp 7) = .slice (some ⟨g, 0, none⟩) T T := by rw [← ha7, evn_ne (by decide)]; exact e7
  replace e8 : a7.eval (.tmp 8) = .int .i64 (s : Int) := by rw [← ha7, evn_ne (by decide)]; exact e8
  replace e11 : a7.eval (.tmp 11) = .slice (some ⟨bq, offq, none⟩) kq c1 := by rw [← ha7, evn_ne (by decide)]; exact e11
  replace e68 : a7.eval (.tmp 68) = .bool false := by rw [← ha7, evn_ne (by decide)]; exact e68
  have e72 : a7.eval (.tmp 72) = .slice none 0 0 := by rw [← ha7]; exact evn_same (by omega)
  have op7 := op_at h7 (·.op) (x := Op.binOp BinOp.neq 54 (Operand.tmp 72) (Operand.const (Value.slice none 0 0)) 54) (by kernel_rfl)
  have d7 := op_at h7 (·.dst) (x := some 73) (by kernel_rfl)
  have g7 := op_at h7 (·.guard) (x := some (2, false)) (by kernel_rfl)
  have q7 := ne_nil W none 0 0 false rfl
  refine wpList_go (v := .bool false) (wanted_at g7 h2 d2 e68) (by simp [execOp, op7, e72, q7, show a7.eval (.const (.slice none 0 0)) = .slice none 0 0 from rfl, neg_slice, Result.andThen]) ?_
  rw [d7]
  obtain ⟨a8, ha8⟩ : ∃ a, a7.put (some 73) (.bool false) = a := ⟨_, rfl⟩
  rw [ha8]
  have z8 : a8.tmps.size = 102 := by rw [← ha8]; simp [Act.put, z7]
  replace e7 : a8.eval (.tmp 7) = .slice (some ⟨g, 0, none⟩) T T := by rw [← ha8, evn_ne (by decide)]; exact e7
  replace e8 : a8.eval (.tmp 8) = .int .i64 (s : Int) := by rw [← ha8, evn_ne (by decide)]; exact e8
  replace e11 : a8.eval (.tmp 11) = .slice (some ⟨bq, offq, none⟩) kq c1 := by rw [← ha8, evn_ne (by decide)]; exact e11
  replace e68 : a8.eval (.tmp 68) = .bool false := by rw [← ha8, evn_ne (by decide)]; exact e68
  have e73 : a8.eval (.tmp 73) = .bool false := by rw [← ha8]; exact evn_same (by omega)
  have op8 := op_at h8 (·.op) (x := Op.move (Operand.tmp 73)) (by kernel_rfl)
  have d8 := op_at h8 (·.dst) (x := some 74) (by kernel_rfl)
  have g8 := op_at h8 (·.guard) (x := some (2, false)) (by kernel_rfl)
  refine wpList_go (v := .bool false) (wanted_at g8 h2 d2 e68) (by simp [execOp, op8, go_sem, ev e73]) ?_
  rw [d8]
  obtain ⟨a9, ha9⟩ : ∃ a, a8.put (some 74) (.bool false) = a := ⟨_, rfl⟩
  rw [ha9]
  have z9 : a9.tmps.size = 102 := by rw [← ha9]; simp [Act.put, z8]
  replace e7 : a9.eval (.tmp 7) = .slice (some ⟨g, 0, none⟩) T T := by rw [← ha9, evn_ne (by decide)]; exact e7
  replace e8 : a9.eval (.tmp 8) = .int .i64 (s : Int) := by rw [← ha9, evn_ne (by decide)]; exact e8
  replace e11 : a9.eval (.tmp 11) = .slice (some ⟨bq, offq, none⟩) kq c1 := by rw [← ha9, evn_ne (by decide)]; exact e11
  replace e68 : a9.eval (.tmp 68) = .bool false := by rw [← ha9, evn_ne (by decide)]; exact e68
  have e74 : a9.eval (.tmp 74) = .bool false := by rw [← ha9]; exact evn_same (by omega)
  have op9 := op_at h9 (·.op) (x := Op.move (Operand.tmp 7)) (by kernel_rfl)
  have d9 := op_at h9 (·.dst) (x := some 75) (by kernel_rfl)
  have g9 := op_at h9 (·.guard) (x := some (8, true)) (by kernel_rfl)
  refine wpList_not (wanted_at g9 h8 d8 e74) ?_
  rw [d9]
  obtain ⟨a10, ha10⟩ : ∃ a, a9.put (some 75) (undef) = a := ⟨_, rfl⟩
  rw [ha10]
  have z10 : a10.tmps.size = 102 := by rw [← ha10]; simp [Act.put, z9]
  replace e8 : a10.eval (.tmp 8) = .int .i64 (s : Int) := by rw [← ha10, evn_ne (by decide)]; exact e8
  replace e11 : a10.eval (.tmp 11) = .slice (some ⟨bq, offq, none⟩) kq c1 := by rw [← ha10, evn_ne (by decide)]; exact e11
  replace e68 : a10.eval (.tmp 68) = .bool false := by rw [← ha10, evn_ne (by decide)]; exact e68
  replace e74 : a10.eval (.tmp 74) = .bool false := by rw [← ha10, evn_ne (by decide)]; exact e74
  have e75 : a10.eval (.tmp 75) = undef := by rw [← ha10]; exact evn_same (by omega)
  have op10 := op_at h10 (·.op) (x := Op.move (Operand.tmp 8)) (by kernel_rfl)
  have d10 := op_at h10 (·.dst) (x := some 76) (by kernel_rfl)
  have g10 := op_at h10 (·.guard) (x := some (8, true)) (by kernel_rfl)
  refine wpList_not (wanted_at g10 h8 d8 e74) ?_
  rw [d10]
  obtain ⟨a11, ha11⟩ : ∃ a, a10.put (some 76) (undef) = a := ⟨_, rfl⟩
  rw [ha11]
  have z11 : a11.tmps.size = 102 := by rw [← ha11]; simp [Act.put, z10]
  replace e11 : a11.eval (.tmp 11) = .slice (some ⟨bq, offq, none⟩) kq c1 := by rw [← ha11, evn_ne (by decide)]; exact e11
  replace e68 : a11.eval (.tmp 68) = .bool false := by rw [← ha11, evn_ne (by decide)]; exact e68
  replace e74 : a11.eval (.tmp 74) = .bool false := by rw [← ha11, evn_ne (by decide)]; exact e74
  replace e75 : a11.eval (.tmp 75) = undef := by rw [← ha11, evn_ne (by decide)]; exact e75
  have e76 : a11.eval (.tmp 76) = undef := by rw [← ha11]; exact evn_same (by omega)
  have op11 := op_at h11 (·.op) (x := Op.indexAddr 116 (Operand.tmp 75) (Operand.tmp 76)) (by kernel_rfl)
  have d11 := op_at h11 (·.dst) (x := some 77) (by kernel_rfl)
  have g11 := op_at h11 (·.guard) (x := some (8, true)) (by kernel_rfl)
  refine wpList_not (wanted_at g11 h8 d8 e74) ?_
  rw [d11]
  obtain ⟨a12, ha12⟩ : ∃ a, a11.put (some 77) (undef) = a := ⟨_, rfl⟩
  rw [ha12]
  have z12 : a12.tmps.size = 102 := by rw [← ha12]; simp [Act.put, z11]
  replace e11 : a12.eval (.tmp 11) = .slice (some ⟨bq, offq, none⟩) kq c1 := by rw [← ha12, evn_ne (by decide)]; exact e11
  replace e68 : a12.eval (.tmp 68) = .bool false := by rw [← ha12, evn_ne (by decide)]; exact e68
  replace e74 : a12.eval (.tmp 74) = .bool false := by rw [← ha12, evn_ne (by decide)]; exact e74
  have e77 : a12.eval (.tmp 77) = undef := by rw [← ha12]; exact evn_same (by omega)
  have op12 := op_at h12 (·.op) (x := Op.load 54 (Operand.tmp 77)) (by kernel_rfl)
  have d12 := op_at h12 (·.dst) (x := some 78) (by kernel_rfl)
  have g12 := op_at h12 (·.guard) (x := some (8, true)) (by kernel_rfl)
  refine wpList_not (wanted_at g12 h8 d8 e74) ?_
  rw [d12]
  obtain ⟨a13, ha13⟩ : ∃ a, a12.put (some 78) (undef) = a := ⟨_, rfl⟩
  rw [ha13]
  have z13 : a13.tmps.size = 102 := by rw [← ha13]; simp [Act.put, z12]
  replace e11 : a13.eval (.tmp 11) = .slice (some ⟨bq, offq, none⟩) kq c1 := by rw [← ha13, evn_ne (by decide)]; exact e11
  replace e68 : a13.eval (.tmp 68) = .bool false := by rw [← ha13, evn_ne (by decide)]; exact e68
  replace e74 : a13.eval (.tmp 74) = .bool false := by rw [← ha13, evn_ne (by decide)]; exact e74
  have e78 : a13.eval (.tmp 78) = undef := by rw [← ha13]; exact evn_same (by omega)
  have op13 := op_at h13 (·.op) (x := Op.call { callee := Callee.builtin Builtin.len, args := #[Operand.tmp 78], argTypes := #[54] }) (by kernel_rfl)
  have d13 := op_at h13 (·.dst) (x := some 79) (by kernel_rfl)
  have g13 := op_at h13 (·.guard) (x := some (8, true)) (by kernel_rfl)
  refine wpList_not (wanted_at g13 h8 d8 e74) ?_
  rw [d13]
  obtain ⟨a14, ha14⟩ : ∃ a, a13.put (some 79) (undef) = a := ⟨_, rfl⟩
  rw [ha14]
  have z14 : a14.tmps.size = 102 := by rw [← ha14]; simp [Act.put, z13]
  replace e11 : a14.eval (.tmp 11) = .slice (some ⟨bq, offq, none⟩) kq c1 := by rw [← ha14, evn_ne (by decide)]; exact e11
  replace e68 : a14.eval (.tmp 68) = .bool false := by rw [← ha14, evn_ne (by decide)]; exact e68
  replace e74 : a14.eval (.tmp 74) = .bool false := by rw [← ha14, evn_ne (by decide)]; exact e74
  have e79 : a14.eval (.tmp 79) = undef := by rw [← ha14]; exact evn_same (by omega)
  have op14 := op_at h14 (·.op) (x := Op.move (Operand.tmp 11)) (by kernel_rfl)
  have d14 := op_at h14 (·.dst) (x := some 80) (by kernel_rfl)
  have g14 := op_at h14 (·.guard) (x := some (8, true)) (by kernel_rfl)
  refine wpList_not (wanted_at g14 h8 d8 e74) ?_
  rw [d14]
  obtain ⟨a15, ha15⟩ : ∃ a, a14.put (some 80) (undef) = a := ⟨_, rfl⟩
  rw [ha15]
  have z15 : a15.tmps.size = 102 := by rw [← ha15]; simp [Act.put, z14]
  replace e68 : a15.eval (.tmp 68) = .bool false := by rw [← ha15, evn_ne (by decide)]; exact e68
  replace e74 : a15.eval (.tmp 74) = .bool false := by rw [← ha15, evn_ne (by decide)]; exact e74
  replace e79 : a15.eval (.tmp 79) = undef := by rw [← ha15, evn_ne (by decide)]; exact e79
  have e80 : a15.eval (.tmp 80) = undef := by rw [← ha15]; exact evn_same (by omega)
  have op15 := op_at h15 (·.op) (x := Op.call { callee := Callee.builtin Builtin.len, args := #[Operand.tmp 80], argTypes := #[54] }) (by kernel_rfl)
  have d15 := op_at h15 (·.dst) (x := some 81) (by kernel_rfl)
  have g15 := op_at h15 (·.guard) (x := some (8, true)) (by kernel_rfl)
  refine wpList_not (wanted_at g15 h8 d8 e74) ?_
  rw [d15]
  obtain ⟨a16, ha16⟩ : ∃ a, a15.put (some 81) (undef) = a := ⟨_, rfl⟩
  rw [ha16]
  have z16 : a16.tmps.size = 102 := by rw [← ha16]; simp [Act.put, z15]
  replace e68 : a16.eval (.tmp 68) = .bool false := by rw [← ha16, evn_ne (by decide)]; exact e68
  replace e74 : a16.eval (.tmp 74) = .bool false := by rw [← ha16, evn_ne (by decide)]; exact e74
  replace e79 : a16.eval (.tmp 79) = undef := by rw [← ha16, evn_ne (by decide)]; exact e79
  have e81 : a16.eval (.tmp 81) = undef := by rw [← ha16]; exact evn_same (by omega)
  have op16 := op_at h16 (·.op) (x := Op.binOp BinOp.add 3 (Operand.tmp 81) (Operand.const (Value.int IntKind.i64 1)) 3) (by kernel_rfl)
  have d16 := op_at h16 (·.dst) (x := some 82) (by kernel_rfl)
  have g16 := op_at h16 (·.guard) (x := some (8, true)) (by kernel_rfl)
  refine wpList_not (wanted_at g16 h8 d8 e74) ?_
  rw [d16]
  obtain ⟨a17, ha17⟩ : ∃ a, a16.put (some 82) (undef) = a := ⟨_, rfl⟩
  rw [ha17]
  have z17 : a17.tmps.size = 102 := by rw [← ha17]; simp [Act.put, z16]
  replace e68 : a17.eval (.tmp 68) = .bool false := by rw [← ha17, evn_ne (by decide)]; exact e68
  replace e74 : a17.eval (.tmp 74) = .bool false := by rw [← ha17, evn_ne (by decide)]; exact e74
  replace e79 : a17.eval (.tmp 79) = undef := by rw [← ha17, evn_ne (by decide)]; exact e79
  have e82 : a17.eval (.tmp 82) = undef := by rw [← ha17]; exact evn_same (by omega)
  have op17 := op_at h17 (·.op) (x := Op.binOp BinOp.leq 3 (Operand.tmp 79) (Operand.tmp 82) 3) (by kernel_rfl)
  have d17 := op_at h17 (·.dst) (x := some 83) (by kernel_rfl)
  have g17 := op_at h17 (·.guard) (x := some (8, true)) (by kernel_rfl)
  refine wpList_not (wanted_at g17 h8 d8 e74) ?_
  rw [d17]
  obtain ⟨a18, ha18⟩ : ∃ a, a17.put (some 83) (undef) = a := ⟨_, rfl⟩
  rw [ha18]
  have z18 : a18.tmps.size = 102 := by rw [← ha18]; simp [Act.put, z17]
  replace e68 : a18.eval (.tmp 68) = .bool false := by rw [← ha18, evn_ne (by decide)]; exact e68
  replace e74 : a18.eval (.tmp 74) = .bool false := by rw [← ha18, evn_ne (by decide)]; exact e74
  have e83 : a18.eval (.tmp 83) = undef := by rw [← ha18]; exact evn_same (by omega)
  have op18 := op_at h18 (·.op) (x := Op.pick (Operand.tmp 74) (Operand.tmp 83) (Operand.const (Value.bool false))) (by kernel_rfl)
  have d18 := op_at h18 (·.dst) (x := some 84) (by kernel_rfl)
  have g18 := op_at h18 (·.guard) (x := some (2, false)) (by kernel_rfl)
  refine wpList_go (v := .bool false) (wanted_at g18 h2 d2 e68) (by simp [execOp, op18, go_sem, ev e74, ev e83]) ?_
  rw [d18]
  obtain ⟨a19, ha19⟩ : ∃ a, a18.put (some 84) (.bool false) = a := ⟨_, rfl⟩
  rw [ha19]
  have z19 : a19.tmps.size = 102 := by rw [← ha19]; simp [Act.put, z18]
  replace e68 : a19.eval (.tmp 68) = .bool false := by rw [← ha19, evn_ne (by decide)]; exact e68
  have e84 : a19.eval (.tmp 84) = .bool false := by rw [← ha19]; exact evn_same (by omega)
  have op19 := op_at h19 (·.op) (x := Op.pick (Operand.tmp 68) (Operand.const (Value.bool true)) (Operand.tmp 84)) (by kernel_rfl)
  have d19 := op_at h19 (·.dst) (x := some 85) (by kernel_rfl)
  have g19 := op_at h19 (·.guard) (x := none) (by kernel_rfl)
  refine wpList_go (v := .bool false) (wanted_free g19) (by simp [execOp, op19, go_sem, ev e68, ev e84]) ?_
  rw [d19]
  obtain ⟨a20, ha20⟩ : ∃ a, a19.put (some 85) (.bool false) = a := ⟨_, rfl⟩
  rw [ha20]
  have z20 : a20.tmps.size = 102 := by rw [← ha20]; simp [Act.put, z19]
  show Q .normal a20 W
  rw [← ha20, ← ha19, ← ha18, ← ha17, ← ha16, ← ha15, ← ha14, ← ha13, ← ha12, ← ha11, ← ha10, ← ha9, ← ha8, ← ha7, ← ha6, ← ha5, ← ha4, ← ha3, ← ha2, ← ha1]
  exact K
set_option maxRecDepth 100000 in
set_option maxHeartbeats 4000000 in
theorem fw17_stay_wp {g T s bq offq kq c1 bp offp kp c2 : Nat} {Q : Exit → Act → World → Prop} {a0 : Act} {W : World} {id : Nat} (hlen : a0.tmps.size = 102) (e7 : a0.eval (.tmp 7) = .slice (some ⟨g, 0, none⟩) T T) (e8 : a0.eval (.tmp 8) = .int .i64 (s : Int)) (e11 : a0.eval (.tmp 11) = .slice (some ⟨bq, offq, none⟩) kq c1) (hsz : (s : Int) < (T : Int)) (hcell : W.cell? ⟨g, s, none⟩ = some (.slice (some ⟨bp, offp, none⟩) kp c2)) (hkq : kq ≤ 5000) (hle : (kp : Int) ≤ (kq : Int) + 1) (K : Q .normal (puts a0 [(66, .slice (some ⟨bq, offq, none⟩) kq c1), (67, .bool false), (68, .bool false), (69, .slice (some ⟨g, 0, none⟩) T T), (70, .int .i64 (s : Int)), (71, .pointer (some ⟨g, s, none⟩)), (72, .slice (some ⟨bp, offp, none⟩) kp c2), (73, .bool true), (74, .bool true), (75, .slice (some ⟨g, 0, none⟩) T T), (76, .int .i64 (s : Int)), (77, .pointer (some ⟨g, s, none⟩)), (78, .slice (some ⟨bp, offp, none⟩) kp c2), (79, .int .i64 (kp : Int)), (80, .slice (some ⟨bq, offq, none⟩) kq c1), (81, .int .i64 (kq : Int)), (82, .int .i64 ((kq : Int) + 1)), (83, .bool true), (84, .bool true), (85, .bool true)]) W) : (Code.region id fw17Reg false).wp Try.prog Q a0 W := by
  refine wp_region_list ?_
  obtain ⟨o0, o1, o2, o3, o4, o5, o6, o7, o8, o9, o10, o11, o12, o13, o14, o15, o16, o17, o18, o19, hdr, h0, h1, h2, h3, h4, h5, h6, h7, h8, h9, h10, h11, h12, h13, h14, h15, h16, h17, h18, h19⟩ : ∃ o0 o1 o2 o3 o4 o5 o6 o7 o8 o9 o10 o11 o12 o13 o14 o15 o16 o17 o18 o19, fw17Reg.toList = [o0, o1, o2, o3, o4, o5, o6, o7, o8, o9, o10, o11, o12, o13, o14, o15, o16, o17, o18, o19] ∧ fw17Reg[0]? = some o0 ∧ fw17Reg[1]? = some o1 ∧ fw17Reg[2]? = some o2 ∧ fw17Reg[3]? = some o3 ∧ fw17Reg[4]? = some o4 ∧ fw17Reg[5]? = some o5 ∧ fw17Reg[6]? = some o6 ∧ fw17Reg[7]? = some o7 ∧ fw17Reg[8]? = some o8 ∧ fw17Reg[9]? = some o9 ∧ fw17Reg[10]? = some o10 ∧ fw17Reg[11]? = some o11 ∧ fw17Reg[12]? = some o12 ∧ fw17Reg[13]? = some o13 ∧ fw17Reg[14]? = some o14 ∧ fw17Reg[15]? = some o15 ∧ fw17Reg[16]? = some o16 ∧ fw17Reg[17]? = some o17 ∧ fw17Reg[18]? = some o18 ∧ fw17Reg[19]? = some o19 := by
    have hs : fw17Reg.size = 20 := by kernel_rfl
    refine ⟨fw17Reg[0], fw17Reg[1], fw17Reg[2], fw17Reg[3], fw17Reg[4], fw17Reg[5], fw17Reg[6], fw17Reg[7], fw17Reg[8], fw17Reg[9], fw17Reg[10], fw17Reg[11], fw17Reg[12], fw17Reg[13], fw17Reg[14], fw17Reg[15], fw17Reg[16], fw17Reg[17], fw17Reg[18], fw17Reg[19], ?_, by simp, by simp, by simp, by simp, by simp, by simp, by simp, by simp, by simp, by simp, by simp, by simp, by simp, by simp, by simp, by simp, by simp, by simp, by simp, by simp⟩
    apply List.ext_getElem?
    intro i
    by_cases hi : i < 20
    · rw [Array.getElem?_toList, Array.getElem?_eq_getElem (by omega)]
      match i, hi with
      | 0, _ => rfl
      | 1, _ => rfl
      | 2, _ => rfl
      | 3, _ => rfl
      | 4, _ => rfl
      | 5, _ => rfl
      | 6, _ => rfl
      | 7, _ => rfl
      | 8, _ => rfl
      | 9, _ => rfl
      | 10, _ => rfl
      | 11, _ => rfl
      | 12, _ => rfl
      | 13, _ => rfl
      | 14, _ => rfl
      | 15, _ => rfl
      | 16, _ => rfl
      | 17, _ => rfl
      | 18, _ => rfl
      | 19, _ => rfl
      | k + 20, h => exact absurd h (by omega)
    · rw [List.getElem?_eq_none (by simp; omega), List.getElem?_eq_none (by simp; omega)]
  rw [hdr]
  have z0 := hlen
  have op0 := op_at h0 (·.op) (x := Op.move (Operand.tmp 11)) (by kernel_rfl)
  have d0 := op_at h0 (·.dst) (x := some 66) (by kernel_rfl)
  have g0 := op_at h0 (·.guard) (x := none) (by kernel_rfl)
  refine wpList_go (v := .slice (some ⟨bq, offq, none⟩) kq c1) (wanted_free g0) (by simp [execOp, op0, go_sem, ev e11]) ?_
  rw [d0]
  obtain ⟨a1, ha1⟩ : ∃ a, a0.put (some 66) (.slice (some ⟨bq, offq, none⟩) kq c1) = a := ⟨_, rfl⟩
  rw [ha1]
  have z1 : a1.tmps.size = 102 := by rw [← ha1]; simp [Act.put, z0]
  replace e7 : a1.eval (.tmp 7) = .slice (some ⟨g, 0, none⟩) T T := by rw [← ha1, evn_ne (by decide)]; exact e7
  replace e8 : a1.eval (.tmp 8) = .int .i64 (s : Int) := by rw [← ha1, evn_ne (by decide)]; exact e8
  replace e11 : a1.eval (.tmp 11) = .slice (some ⟨bq, offq, none⟩) kq c1 := by rw [← ha1, evn_ne (by decide)]; exact e11
  have e66 : a1.eval (.tmp 66) = .slice (some ⟨bq, offq, none⟩) kq c1 := by rw [← ha1]; exact evn_same (by omega)
  have op1 := op_at h1 (·.op) (x := Op.binOp BinOp.eql 54 (Operand.tmp 66) (Operand.const (Value.slice none 0 0)) 54) (by kernel_rfl)
  have d1 := op_at h1 (·.dst) (x := some 67) (by kernel_rfl)
  have g1 := op_at h1 (·.guard) (x := none) (by kernel_rfl)
  have q1 := eq_nil W (some ⟨bq, offq, none⟩) kq c1 false rfl
  refine wpList_go (v := .bool false) (wanted_free g1) (by simp [execOp, op1, e66, q1, show a1.eval (.const (.slice none 0 0)) = .slice none 0 0 from rfl, eqg_slice, Result.andThen]) ?_
  rw [d1]
  obtain ⟨a2, ha2⟩ : ∃ a, a1.put (some 67) (.bool false) = a := ⟨_, rfl⟩
  rw [ha2]
  have z2 : a2.tmps.size = 102 := by rw [← ha2]; simp [Act.put, z1]
  replace e7 : a2.eval (.tmp 7) = .slice (some ⟨g, 0, none⟩) T T := by rw [← ha2, evn_ne (by decide)]; exact e7
  replace e8 : a2.eval (.tmp 8) = .int .i64 (s : Int) := by rw [← ha2, evn_ne (by decide)]; exact e8
  replace e11 : a2.eval (.tmp 11) = .slice (some ⟨bq, offq, none⟩) kq c1 := by rw [← ha2, evn_ne (by decide)]; exact e11
  have e67 : a2.eval (.tmp 67) = .bool false := by rw [← ha2]; exact evn_same (by omega)
  have op2 := op_at h2 (·.op) (x := Op.move (Operand.tmp 67)) (by kernel_rfl)
  have d2 := op_at h2 (·.dst) (x := some 68) (by kernel_rfl)
  have g2 := op_at h2 (·.guard) (x := none) (by kernel_rfl)
  refine wpList_go (v := .bool false) (wanted_free g2) (by simp [execOp, op2, go_sem, ev e67]) ?_
  rw [d2]
  obtain ⟨a3, ha3⟩ : ∃ a, a2.put (some 68) (.bool false) = a := ⟨_, rfl⟩
  rw [ha3]
  have z3 : a3.tmps.size = 102 := by rw [← ha3]; simp [Act.put, z2]
  replace e7 : a3.eval (.tmp 7) = .slice (some ⟨g, 0, none⟩) T T := by rw [← ha3, evn_ne (by decide)]; exact e7
  replace e8 : a3.eval (.tmp 8) = .int .i64 (s : Int) := by rw [← ha3, evn_ne (by decide)]; exact e8
  replace e11 : a3.eval (.tmp 11) = .slice (some ⟨bq, offq, none⟩) kq c1 := by rw [← ha3, evn_ne (by decide)]; exact e11
  have e68 : a3.eval (.tmp 68) = .bool false := by rw [← ha3]; exact evn_same (by omega)
  have op3 := op_at h3 (·.op) (x := Op.move (Operand.tmp 7)) (by kernel_rfl)
  have d3 := op_at h3 (·.dst) (x := some 69) (by kernel_rfl)
  have g3 := op_at h3 (·.guard) (x := some (2, false)) (by kernel_rfl)
  refine wpList_go (v := .slice (some ⟨g, 0, none⟩) T T) (wanted_at g3 h2 d2 e68) (by simp [execOp, op3, go_sem, ev e7]) ?_
  rw [d3]
  obtain ⟨a4, ha4⟩ : ∃ a, a3.put (some 69) (.slice (some ⟨g, 0, none⟩) T T) = a := ⟨_, rfl⟩
  rw [ha4]
  have z4 : a4.tmps.size = 102 := by rw [← ha4]; simp [Act.put, z3]
  replace e7 : a4.eval (.tmp 7) = .slice (some ⟨g, 0, none⟩) T T := by rw [← ha4, evn_ne (by decide)]; exact e7
  replace e8 : a4.eval (.tmp 8) = .int .i64 (s : Int) := by rw [← ha4, evn_ne (by decide)]; exact e8
  replace e11 : a4.eval (.tmp 11) = .slice (some ⟨bq, offq, none⟩) kq c1 := by rw [← ha4, evn_ne (by decide)]; exact e11
  replace e68 : a4.eval (.tmp 68) = .bool false := by rw [← ha4, evn_ne (by decide)]; exact e68
  have e69 : a4.eval (.tmp 69) = .slice (some ⟨g, 0, none⟩) T T := by rw [← ha4]; exact evn_same (by omega)
  have op4 := op_at h4 (·.op) (x := Op.move (Operand.tmp 8)) (by kernel_rfl)
  have d4 := op_at h4 (·.dst) (x := some 70) (by kernel_rfl)
  have g4 := op_at h4 (·.guard) (x := some (2, false)) (by kernel_rfl)
  refine wpList_go (v := .int .i64 (s : Int)) (wanted_at g4 h2 d2 e68) (by simp [execOp, op4, go_sem, ev e8]) ?_
  rw [d4]
  obtain ⟨a5, ha5⟩ : ∃ a, a4.put (some 70) (.int .i64 (s : Int)) = a := ⟨_, rfl⟩
  rw [ha5]
  have z5 : a5.tmps.size = 102 := by rw [← ha5]; simp [Act.put, z4]
  replace e7 : a5.eval (.tmp 7) = .slice (some ⟨g, 0, none⟩) T T := by rw [← ha5, evn_ne (by decide)]; exact e7
  replace e8 : a5.eval (.tmp 8) = .int .i64 (s : Int) := by rw [← ha5, evn_ne (by decide)]; exact e8
  replace e11 : a5.eval (.tmp 11) = .slice (some ⟨bq, offq, none⟩) kq c1 := by rw [← ha5, evn_ne (by decide)]; exact e11
  replace e68 : a5.eval (.tmp 68) = .bool false := by rw [← ha5, evn_ne (by decide)]; exact e68
  replace e69 : a5.eval (.tmp 69) = .slice (some ⟨g, 0, none⟩) T T := by rw [← ha5, evn_ne (by decide)]; exact e69
  have e70 : a5.eval (.tmp 70) = .int .i64 (s : Int) := by rw [← ha5]; exact evn_same (by omega)
  have op5 := op_at h5 (·.op) (x := Op.indexAddr 116 (Operand.tmp 69) (Operand.tmp 70)) (by kernel_rfl)
  have d5 := op_at h5 (·.dst) (x := some 71) (by kernel_rfl)
  have g5 := op_at h5 (·.guard) (x := some (2, false)) (by kernel_rfl)
  refine wpList_go (v := .pointer (some ⟨g, s, none⟩)) (wanted_at g5 h2 d2 e68) (by simp [execOp, op5, go_sem, ev e69, ev e70, hsz]) ?_
  rw [d5]
  obtain ⟨a6, ha6⟩ : ∃ a, a5.put (some 71) (.pointer (some ⟨g, s, none⟩)) = a := ⟨_, rfl⟩
  rw [ha6]
  have z6 : a6.tmps.size = 102 := by rw [← ha6]; simp [Act.put, z5]
  replace e7 : a6.eval (.tmp 7) = .slice (some ⟨g, 0, none⟩) T T := by rw [← ha6, evn_ne (by decide)]; exact e7
  replace e8 : a6.eval (.tmp 8) = .int .i64 (s : Int) := by rw [← ha6, evn_ne (by decide)]; exact e8
  replace e11 : a6.eval (.tmp 11) = .slice (some ⟨bq, offq, none⟩) kq c1 := by rw [← ha6, evn_ne (by decide)]; exact e11
  replace e68 : a6.eval (.tmp 68) = .bool false := by rw [← ha6, evn_ne (by decide)]; exact e68
  have e71 : a6.eval (.tmp 71) = .pointer (some ⟨g, s, none⟩) := by rw [← ha6]; exact evn_same (by omega)
  have op6 := op_at h6 (·.op) (x := Op.load 54 (Operand.tmp 71)) (by kernel_rfl)
  have d6 := op_at h6 (·.dst) (x := some 72) (by kernel_rfl)
  have g6 := op_at h6 (·.guard) (x := some (2, false)) (by kernel_rfl)
  refine wpList_go (v := .slice (some ⟨bp, offp, none⟩) kp c2) (wanted_at g6 h2 d2 e68) (by simp [execOp, op6, go_sem, ev e71, hcell]) ?_
  rw [d6]
  obtain ⟨a7, ha7⟩ : ∃ a, a6.put (some 72) (.slice (some ⟨bp, offp, none⟩) kp c2) = a := ⟨_, rfl⟩
  rw [ha7]
  have z7 : a7.tmps.size = 102 := by rw [← ha7]; simp [Act.put, z6]
  replace e7 : a7.eval (.tmp 7) = .slice (some ⟨g, 0, none⟩) T T := by rw [← ha7, evn_ne (by decide)]; exact e7
  replace e8 : a7.eval (.tmp 8) = .int .i64 (s : Int) := by rw [← ha7, evn_ne (by decide)]; exact e8
  replace e11 : a7.eval (.tmp 11) = .slice (some ⟨bq, offq, none⟩) kq c1 := by rw [← ha7, evn_ne (by decide)]; exact e11
  replace e68 : a7.eval (.tmp 68) = .bool false := by rw [← ha7, evn_ne (by decide)]; exact e68
  have e72 : a7.eval (.tmp 72) = .slice (some ⟨bp, offp, none⟩) kp c2 := by rw [← ha7]; exact evn_same (by omega)
  have op7 := op_at h7 (·.op) (x := Op.binOp BinOp.neq 54 (Operand.tmp 72) (Operand.const (Value.slice none 0 0)) 54) (by kernel_rfl)
  have d7 := op_at h7 (·.dst) (x := some 73) (by kernel_rfl)
  have g7 := op_at h7 (·.guard) (x := some (2, false)) (by kernel_rfl)
  have q7 := ne_nil W (some ⟨bp, offp, none⟩) kp c2 true rfl
  refine wpList_go (v := .bool true) (wanted_at g7 h2 d2 e68) (by simp [execOp, op7, e72, q7, show a7.eval (.const (.slice none 0 0)) = .slice none 0 0 from rfl, neg_slice, Result.andThen]) ?_
  rw [d7]
  obtain ⟨a8, ha8⟩ : ∃ a, a7.put (some 73) (.bool true) = a := ⟨_, rfl⟩
  rw [ha8]
  have z8 : a8.tmps.size = 102 := by rw [← ha8]; simp [Act.put, z7]
  replace e7 : a8.eval (.tmp 7) = .slice (some ⟨g, 0, none⟩) T T := by rw [← ha8, evn_ne (by decide)]; exact e7
  replace e8 : a8.eval (.tmp 8) = .int .i64 (s : Int) := by rw [← ha8, evn_ne (by decide)]; exact e8
  replace e11 : a8.eval (.tmp 11) = .slice (some ⟨bq, offq, none⟩) kq c1 := by rw [← ha8, evn_ne (by decide)]; exact e11
  replace e68 : a8.eval (.tmp 68) = .bool false := by rw [← ha8, evn_ne (by decide)]; exact e68
  have e73 : a8.eval (.tmp 73) = .bool true := by rw [← ha8]; exact evn_same (by omega)
  have op8 := op_at h8 (·.op) (x := Op.move (Operand.tmp 73)) (by kernel_rfl)
  have d8 := op_at h8 (·.dst) (x := some 74) (by kernel_rfl)
  have g8 := op_at h8 (·.guard) (x := some (2, false)) (by kernel_rfl)
  refine wpList_go (v := .bool true) (wanted_at g8 h2 d2 e68) (by simp [execOp, op8, go_sem, ev e73]) ?_
  rw [d8]
  obtain ⟨a9, ha9⟩ : ∃ a, a8.put (some 74) (.bool true) = a := ⟨_, rfl⟩
  rw [ha9]
  have z9 : a9.tmps.size = 102 := by rw [← ha9]; simp [Act.put, z8]
  replace e7 : a9.eval (.tmp 7) = .slice (some ⟨g, 0, none⟩) T T := by rw [← ha9, evn_ne (by decide)]; exact e7
  replace e8 : a9.eval (.tmp 8) = .int .i64 (s : Int) := by rw [← ha9, evn_ne (by decide)]; exact e8
  replace e11 : a9.eval (.tmp 11) = .slice (some ⟨bq, offq, none⟩) kq c1 := by rw [← ha9, evn_ne (by decide)]; exact e11
  replace e68 : a9.eval (.tmp 68) = .bool false := by rw [← ha9, evn_ne (by decide)]; exact e68
  have e74 : a9.eval (.tmp 74) = .bool true := by rw [← ha9]; exact evn_same (by omega)
  have op9 := op_at h9 (·.op) (x := Op.move (Operand.tmp 7)) (by kernel_rfl)
  have d9 := op_at h9 (·.dst) (x := some 75) (by kernel_rfl)
  have g9 := op_at h9 (·.guard) (x := some (8, true)) (by kernel_rfl)
  refine wpList_go (v := .slice (some ⟨g, 0, none⟩) T T) (wanted_at g9 h8 d8 e74) (by simp [execOp, op9, go_sem, ev e7]) ?_
  rw [d9]
  obtain ⟨a10, ha10⟩ : ∃ a, a9.put (some 75) (.slice (some ⟨g, 0, none⟩) T T) = a := ⟨_, rfl⟩
  rw [ha10]
  have z10 : a10.tmps.size = 102 := by rw [← ha10]; simp [Act.put, z9]
  replace e8 : a10.eval (.tmp 8) = .int .i64 (s : Int) := by rw [← ha10, evn_ne (by decide)]; exact e8
  replace e11 : a10.eval (.tmp 11) = .slice (some ⟨bq, offq, none⟩) kq c1 := by rw [← ha10, evn_ne (by decide)]; exact e11
  replace e68 : a10.eval (.tmp 68) = .bool false := by rw [← ha10, evn_ne (by decide)]; exact e68
  replace e74 : a10.eval (.tmp 74) = .bool true := by rw [← ha10, evn_ne (by decide)]; exact e74
  have e75 : a10.eval (.tmp 75) = .slice (some ⟨g, 0, none⟩) T T := by rw [← ha10]; exact evn_same (by omega)
  have op10 := op_at h10 (·.op) (x := Op.move (Operand.tmp 8)) (by kernel_rfl)
  have d10 := op_at h10 (·.dst) (x := some 76) (by kernel_rfl)
  have g10 := op_at h10 (·.guard) (x := some (8, true)) (by kernel_rfl)
  refine wpList_go (v := .int .i64 (s : Int)) (wanted_at g10 h8 d8 e74) (by simp [execOp, op10, go_sem, ev e8]) ?_
  rw [d10]
  obtain ⟨a11, ha11⟩ : ∃ a, a10.put (some 76) (.int .i64 (s : Int)) = a := ⟨_, rfl⟩
  rw [ha11]
  have z11 : a11.tmps.size = 102 := by rw [← ha11]; simp [Act.put, z10]
  replace e11 : a11.eval (.tmp 11) = .slice (some ⟨bq, offq, none⟩) kq c1 := by rw [← ha11, evn_ne (by decide)]; exact e11
  replace e68 : a11.eval (.tmp 68) = .bool false := by rw [← ha11, evn_ne (by decide)]; exact e68
  replace e74 : a11.eval (.tmp 74) = .bool true := by rw [← ha11, evn_ne (by decide)]; exact e74
  replace e75 : a11.eval (.tmp 75) = .slice (some ⟨g, 0, none⟩) T T := by rw [← ha11, evn_ne (by decide)]; exact e75
  have e76 : a11.eval (.tmp 76) = .int .i64 (s : Int) := by rw [← ha11]; exact evn_same (by omega)
  have op11 := op_at h11 (·.op) (x := Op.indexAddr 116 (Operand.tmp 75) (Operand.tmp 76)) (by kernel_rfl)
  have d11 := op_at h11 (·.dst) (x := some 77) (by kernel_rfl)
  have g11 := op_at h11 (·.guard) (x := some (8, true)) (by kernel_rfl)
  refine wpList_go (v := .pointer (some ⟨g, s, none⟩)) (wanted_at g11 h8 d8 e74) (by simp [execOp, op11, go_sem, ev e75, ev e76, hsz]) ?_
  rw [d11]
  obtain ⟨a12, ha12⟩ : ∃ a, a11.put (some 77) (.pointer (some ⟨g, s, none⟩)) = a := ⟨_, rfl⟩
  rw [ha12]
  have z12 : a12.tmps.size = 102 := by rw [← ha12]; simp [Act.put, z11]
  replace e11 : a12.eval (.tmp 11) = .slice (some ⟨bq, offq, none⟩) kq c1 := by rw [← ha12, evn_ne (by decide)]; exact e11
  replace e68 : a12.eval (.tmp 68) = .bool false := by rw [← ha12, evn_ne (by decide)]; exact e68
  replace e74 : a12.eval (.tmp 74) = .bool true := by rw [← ha12, evn_ne (by decide)]; exact e74
  have e77 : a12.eval (.tmp 77) = .pointer (some ⟨g, s, none⟩) := by rw [← ha12]; exact evn_same (by omega)
  have op12 := op_at h12 (·.op) (x := Op.load 54 (Operand.tmp 77)) (by kernel_rfl)
  have d12 := op_at h12 (·.dst) (x := some 78) (by kernel_rfl)
  have g12 := op_at h12 (·.guard) (x := some (8, true)) (by kernel_rfl)
  refine wpList_go (v := .slice (some ⟨bp, offp, none⟩) kp c2) (wanted_at g12 h8 d8 e74) (by simp [execOp, op12, go_sem, ev e77, hcell]) ?_
  rw [d12]
  obtain ⟨a13, ha13⟩ : ∃ a, a12.put (some 78) (.slice (some ⟨bp, offp, none⟩) kp c2) = a := ⟨_, rfl⟩
  rw [ha13]
  have z13 : a13.tmps.size = 102 := by rw [← ha13]; simp [Act.put, z12]
  replace e11 : a13.eval (.tmp 11) = .slice (some ⟨bq, offq, none⟩) kq c1 := by rw [← ha13, evn_ne (by decide)]; exact e11
  replace e68 : a13.eval (.tmp 68) = .bool false := by rw [← ha13, evn_ne (by decide)]; exact e68
  replace e74 : a13.eval (.tmp 74) = .bool true := by rw [← ha13, evn_ne (by decide)]; exact e74
  have e78 : a13.eval (.tmp 78) = .slice (some ⟨bp, offp, none⟩) kp c2 := by rw [← ha13]; exact evn_same (by omega)
  have op13 := op_at h13 (·.op) (x := Op.call { callee := Callee.builtin Builtin.len, args := #[Operand.tmp 78], argTypes := #[54] }) (by kernel_rfl)
  have d13 := op_at h13 (·.dst) (x := some 79) (by kernel_rfl)
  have g13 := op_at h13 (·.guard) (x := some (8, true)) (by kernel_rfl)
  refine wpList_go (v := .int .i64 (kp : Int)) (wanted_at g13 h8 d8 e74) (by simp [execOp, op13, go_sem, ev e78]) ?_
  rw [d13]
  obtain ⟨a14, ha14⟩ : ∃ a, a13.put (some 79) (.int .i64 (kp : Int)) = a := ⟨_, rfl⟩
  rw [ha14]
  have z14 : a14.tmps.size = 102 := by rw [← ha14]; simp [Act.put, z13]
  replace e11 : a14.eval (.tmp 11) = .slice (some ⟨bq, offq, none⟩) kq c1 := by rw [← ha14, evn_ne (by decide)]; exact e11
  replace e68 : a14.eval (.tmp 68) = .bool false := by rw [← ha14, evn_ne (by decide)]; exact e68
  replace e74 : a14.eval (.tmp 74) = .bool true := by rw [← ha14, evn_ne (by decide)]; exact e74
  have e79 : a14.eval (.tmp 79) = .int .i64 (kp : Int) := by rw [← ha14]; exact evn_same (by omega)
  have op14 := op_at h14 (·.op) (x := Op.move (Operand.tmp 11)) (by kernel_rfl)
  have d14 := op_at h14 (·.dst) (x := some 80) (by kernel_rfl)
  have g14 := op_at h14 (·.guard) (x := some (8, true)) (by kernel_rfl)
  refine wpList_go (v := .slice (some ⟨bq, offq, none⟩) kq c1) (wanted_at g14 h8 d8 e74) (by simp [execOp, op14, go_sem, ev e11]) ?_
  rw [d14]
  obtain ⟨a15, ha15⟩ : ∃ a, a14.put (some 80) (.slice (some ⟨bq, offq, none⟩) kq c1) = a := ⟨_, rfl⟩
  rw [ha15]
  have z15 : a15.tmps.size = 102 := by rw [← ha15]; simp [Act.put, z14]
  replace e68 : a15.eval (.tmp 68) = .bool false := by rw [← ha15, evn_ne (by decide)]; exact e68
  replace e74 : a15.eval (.tmp 74) = .bool true := by rw [← ha15, evn_ne (by decide)]; exact e74
  replace e79 : a15.eval (.tmp 79) = .int .i64 (kp : Int) := by rw [← ha15, evn_ne (by decide)]; exact e79
  have e80 : a15.eval (.tmp 80) = .slice (some ⟨bq, offq, none⟩) kq c1 := by rw [← ha15]; exact evn_same (by omega)
  have op15 := op_at h15 (·.op) (x := Op.call { callee := Callee.builtin Builtin.len, args := #[Operand.tmp 80], argTypes := #[54] }) (by kernel_rfl)
  have d15 := op_at h15 (·.dst) (x := some 81) (by kernel_rfl)
  have g15 := op_at h15 (·.guard) (x := some (8, true)) (by kernel_rfl)
  refine wpList_go (v := .int .i64 (kq : Int)) (wanted_at g15 h8 d8 e74) (by simp [execOp, op15, go_sem, ev e80]) ?_
  rw [d15]
  obtain ⟨a16, ha16⟩ : ∃ a, a15.put (some 81) (.int .i64 (kq : Int)) = a := ⟨_, rfl⟩
  rw [ha16]
  have z16 : a16.tmps.size = 102 := by rw [← ha16]; simp [Act.put, z15]
  replace e68 : a16.eval (.tmp 68) = .bool false := by rw [← ha16, evn_ne (by decide)]; exact e68
  replace e74 : a16.eval (.tmp 74) = .bool true := by rw [← ha16, evn_ne (by decide)]; exact e74
  replace e79 : a16.eval (.tmp 79) = .int .i64 (kp : Int) := by rw [← ha16, evn_ne (by decide)]; exact e79
  have e81 : a16.eval (.tmp 81) = .int .i64 (kq : Int) := by rw [← ha16]; exact evn_same (by omega)
  have op16 := op_at h16 (·.op) (x := Op.binOp BinOp.add 3 (Operand.tmp 81) (Operand.const (Value.int IntKind.i64 1)) 3) (by kernel_rfl)
  have d16 := op_at h16 (·.dst) (x := some 82) (by kernel_rfl)
  have g16 := op_at h16 (·.guard) (x := some (8, true)) (by kernel_rfl)
  have w16 : IntKind.i64.wrap ((kq : Int) + 1) = (kq : Int) + 1 := IntWalk.i64_in _ (by omega)
  refine wpList_go (v := .int .i64 ((kq : Int) + 1)) (wanted_at g16 h8 d8 e74) (by simp [execOp, op16, go_sem, ev e81, w16]) ?_
  rw [d16]
  obtain ⟨a17, ha17⟩ : ∃ a, a16.put (some 82) (.int .i64 ((kq : Int) + 1)) = a := ⟨_, rfl⟩
  rw [ha17]
  have z17 : a17.tmps.size = 102 := by rw [← ha17]; simp [Act.put, z16]
  replace e68 : a17.eval (.tmp 68) = .bool false := by rw [← ha17, evn_ne (by decide)]; exact e68
  replace e74 : a17.eval (.tmp 74) = .bool true := by rw [← ha17, evn_ne (by decide)]; exact e74
  replace e79 : a17.eval (.tmp 79) = .int .i64 (kp : Int) := by rw [← ha17, evn_ne (by decide)]; exact e79
  have e82 : a17.eval (.tmp 82) = .int .i64 ((kq : Int) + 1) := by rw [← ha17]; exact evn_same (by omega)
  have op17 := op_at h17 (·.op) (x := Op.binOp BinOp.leq 3 (Operand.tmp 79) (Operand.tmp 82) 3) (by kernel_rfl)
  have d17 := op_at h17 (·.dst) (x := some 83) (by kernel_rfl)
  have g17 := op_at h17 (·.guard) (x := some (8, true)) (by kernel_rfl)
  refine wpList_go (v := .bool true) (wanted_at g17 h8 d8 e74) (by simp [execOp, op17, go_sem, ev e79, ev e82, hle]) ?_
  rw [d17]
  obtain ⟨a18, ha18⟩ : ∃ a, a17.put (some 83) (.bool true) = a := ⟨_, rfl⟩
  rw [ha18]
  have z18 : a18.tmps.size = 102 := by rw [← ha18]; simp [Act.put, z17]
  replace e68 : a18.eval (.tmp 68) = .bool false := by rw [← ha18, evn_ne (by decide)]; exact e68
  replace e74 : a18.eval (.tmp 74) = .bool true := by rw [← ha18, evn_ne (by decide)]; exact e74
  have e83 : a18.eval (.tmp 83) = .bool true := by rw [← ha18]; exact evn_same (by omega)
  have op18 := op_at h18 (·.op) (x := Op.pick (Operand.tmp 74) (Operand.tmp 83) (Operand.const (Value.bool false))) (by kernel_rfl)
  have d18 := op_at h18 (·.dst) (x := some 84) (by kernel_rfl)
  have g18 := op_at h18 (·.guard) (x := some (2, false)) (by kernel_rfl)
  refine wpList_go (v := .bool true) (wanted_at g18 h2 d2 e68) (by simp [execOp, op18, go_sem, ev e74, ev e83]) ?_
  rw [d18]
  obtain ⟨a19, ha19⟩ : ∃ a, a18.put (some 84) (.bool true) = a := ⟨_, rfl⟩
  rw [ha19]
  have z19 : a19.tmps.size = 102 := by rw [← ha19]; simp [Act.put, z18]
  replace e68 : a19.eval (.tmp 68) = .bool false := by rw [← ha19, evn_ne (by decide)]; exact e68
  have e84 : a19.eval (.tmp 84) = .bool true := by rw [← ha19]; exact evn_same (by omega)
  have op19 := op_at h19 (·.op) (x := Op.pick (Operand.tmp 68) (Operand.const (Value.bool true)) (Operand.tmp 84)) (by kernel_rfl)
  have d19 := op_at h19 (·.dst) (x := some 85) (by kernel_rfl)
  have g19 := op_at h19 (·.guard) (x := none) (by kernel_rfl)
  refine wpList_go (v := .bool true) (wanted_free g19) (by simp [execOp, op19, go_sem, ev e68, ev e84]) ?_
  rw [d19]
  obtain ⟨a20, ha20⟩ : ∃ a, a19.put (some 85) (.bool true) = a := ⟨_, rfl⟩
  rw [ha20]
  have z20 : a20.tmps.size = 102 := by rw [← ha20]; simp [Act.put, z19]
  show Q .normal a20 W
  rw [← ha20, ← ha19, ← ha18, ← ha17, ← ha16, ← ha15, ← ha14, ← ha13, ← ha12, ← ha11, ← ha10, ← ha9, ← ha8, ← ha7, ← ha6, ← ha5, ← ha4, ← ha3, ← ha2, ← ha1]
  exact K
set_option maxRecDepth 100000 in
set_option maxHeartbeats 4000000 in
theorem fw17_more_wp {g T s bq offq kq c1 bp offp kp c2 : Nat} {Q : Exit → Act → World → Prop} {a0 : Act} {W : World} {id : Nat} (hlen : a0.tmps.size = 102) (e7 : a0.eval (.tmp 7) = .slice (some ⟨g, 0, none⟩) T T) (e8 : a0.eval (.tmp 8) = .int .i64 (s : Int)) (e11 : a0.eval (.tmp 11) = .slice (some ⟨bq, offq, none⟩) kq c1) (hsz : (s : Int) < (T : Int)) (hcell : W.cell? ⟨g, s, none⟩ = some (.slice (some ⟨bp, offp, none⟩) kp c2)) (hkq : kq ≤ 5000) (hle : ¬ (kp : Int) ≤ (kq : Int) + 1) (K : Q .normal (puts a0 [(66, .slice (some ⟨bq, offq, none⟩) kq c1), (67, .bool false), (68, .bool false), (69, .slice (some ⟨g, 0, none⟩) T T), (70, .int .i64 (s : Int)), (71, .pointer (some ⟨g, s, none⟩)), (72, .slice (some ⟨bp, offp, none⟩) kp c2), (73, .bool true), (74, .bool true), (75, .slice (some ⟨g, 0, none⟩) T T), (76, .int .i64 (s : Int)), (77, .pointer (some ⟨g, s, none⟩)), (78, .slice (some ⟨bp, offp, none⟩) kp c2), (79, .int .i64 (kp : Int)), (80, .slice (some ⟨bq, offq, none⟩) kq c1), (81, .int .i64 (kq : Int)), (82, .int .i64 ((kq : Int) + 1)), (83, .bool false), (84, .bool false), (85, .bool false)]) W) : (Code.region id fw17Reg false).wp Try.prog Q a0 W := by
  refine wp_region_list ?_
  obtain ⟨o0, o1, o2, o3, o4, o5, o6, o7, o8, o9, o10, o11, o12, o13, o14, o15, o16, o17, o18, o19, hdr, h0, h1, h2, h3, h4, h5, h6, h7, h8, h9, h10, h11, h12, h13, h14, h15, h16, h17, h18, h19⟩ : ∃ o0 o1 o2 o3 o4 o5 o6 o7 o8 o9 o10 o11 o12 o13 o14 o15 o16 o17 o18 o19, fw17Reg.toList = [o0, o1, o2, o3, o4, o5, o6, o7, o8, o9, o10, o11, o12, o13, o14, o15, o16, o17, o18, o19] ∧ fw17Reg[0]? = some o0 ∧ fw17Reg[1]? = some o1 ∧ fw17Reg[2]? = some o2 ∧ fw17Reg[3]? = some o3 ∧ fw17Reg[4]? = some o4 ∧ fw17Reg[5]? = some o5 ∧ fw17Reg[6]? = some o6 ∧ fw17Reg[7]? = some o7 ∧ fw17Reg[8]? = some o8 ∧ fw17Reg[9]? = some o9 ∧ fw17Reg[10]? = some o10 ∧ fw17Reg[11]? = some o11 ∧ fw17Reg[12]? = some o12 ∧ fw17Reg[13]? = some o13 ∧ fw17Reg[14]? = some o14 ∧ fw17Reg[15]? = some o15 ∧ fw17Reg[16]? = some o16 ∧ fw17Reg[17]? = some o17 ∧ fw17Reg[18]? = some o18 ∧ fw17Reg[19]? = some o19 := by
    have hs : fw17Reg.size = 20 := by kernel_rfl
    refine ⟨fw17Reg[0], fw17Reg[1], fw17Reg[2], fw17Reg[3], fw17Reg[4], fw17Reg[5], fw17Reg[6], fw17Reg[7], fw17Reg[8], fw17Reg[9], fw17Reg[10], fw17Reg[11], fw17Reg[12], fw17Reg[13], fw17Reg[14], fw17Reg[15], fw17Reg[16], fw17Reg[17], fw17Reg[18], fw17Reg[19], ?_, by simp, by simp, by simp, by simp, by simp, by simp, by simp, by simp, by simp, by simp, by simp, by simp, by simp, by simp, by simp, by simp, by simp, by simp, by simp, by simp⟩
    apply List.ext_getElem?
    intro i
    by_cases hi : i < 20
    · rw [Array.getElem?_toList, Array.getElem?_eq_getElem (by omega)]
      match i, hi with
      | 0, _ => rfl
      | 1, _ => rfl
      | 2, _ => rfl
      | 3, _ => rfl
      | 4, _ => rfl
      | 5, _ => rfl
      | 6, _ => rfl
      | 7, _ => rfl
      | 8, _ => rfl
      | 9, _ => rfl
      | 10, _ => rfl
      | 11, _ => rfl
      | 12, _ => rfl
      | 13, _ => rfl
      | 14, _ => rfl
      | 15, _ => rfl
      | 16, _ => rfl
      | 17, _ => rfl
      | 18, _ => rfl
      | 19, _ => rfl
      | k + 20, h => exact absurd h (by omega)
    · rw [List.getElem?_eq_none (by simp; omega), List.getElem?_eq_none (by simp; omega)]
  rw [hdr]
  have z0 := hlen
  have op0 := op_at h0 (·.op) (x := Op.move (Operand.tmp 11)) (by kernel_rfl)
  have d0 := op_at h0 (·.dst) (x := some 66) (by kernel_rfl)
  have g0 := op_at h0 (·.guard) (x := none) (by kernel_rfl)
  refine wpList_go (v := .slice (some ⟨bq, offq, none⟩) kq c1) (wanted_free g0) (by simp [execOp, op0, go_sem, ev e11]) ?_
  rw [d0]
  obtain ⟨a1, ha1⟩ : ∃ a, a0.put (some 66) (.slice (some ⟨bq, offq, none⟩) kq c1) = a := ⟨_, rfl⟩
  rw [ha1]
  have z1 : a1.tmps.size = 102 := by rw [← ha1]; simp [Act.put, z0]
  replace e7 : a1.eval (.tmp 7) = .slice (some ⟨g, 0, none⟩) T T := by rw [← ha1, evn_ne (by decide)]; exact e7
  replace e8 : a1.eval (.tmp 8) = .int .i64 (s : Int) := by rw [← ha1, evn_ne (by decide)]; exact e8
  replace e11 : a1.eval (.tmp 11) = .slice (some ⟨bq, offq, none⟩) kq c1 := by rw [← ha1, evn_ne (by decide)]; exact e11
  have e66 : a1.eval (.tmp 66) = .slice (some ⟨bq, offq, none⟩) kq c1 := by rw [← ha1]; exact evn_same (by omega)
  have op1 := op_at h1 (·.op) (x := Op.binOp BinOp.eql 54 (Operand.tmp 66) (Operand.const (Value.slice none 0 0)) 54) (by kernel_rfl)
  have d1 := op_at h1 (·.dst) (x := some 67) (by kernel_rfl)
  have g1 := op_at h1 (·.guard) (x := none) (by kernel_rfl)
  have q1 := eq_nil W (some ⟨bq, offq, none⟩) kq c1 false rfl
  refine wpList_go (v := .bool false) (wanted_free g1) (by simp [execOp, op1, e66, q1, show a1.eval (.const (.slice none 0 0)) = .slice none 0 0 from rfl, eqg_slice, Result.andThen]) ?_
  rw [d1]
  obtain ⟨a2, ha2⟩ : ∃ a, a1.put (some 67) (.bool false) = a := ⟨_, rfl⟩
  rw [ha2]
  have z2 : a2.tmps.size = 102 := by rw [← ha2]; simp [Act.put, z1]
  replace e7 : a2.eval (.tmp 7) = .slice (some ⟨g, 0, none⟩) T T := by rw [← ha2, evn_ne (by decide)]; exact e7
  replace e8 : a2.eval (.tmp 8) = .int .i64 (s : Int) := by rw [← ha2, evn_ne (by decide)]; exact e8
  replace e11 : a2.eval (.tmp 11) = .slice (some ⟨bq, offq, none⟩) kq c1 := by rw [← ha2, evn_ne (by decide)]; exact e11
  have e67 : a2.eval (.tmp 67) = .bool false := by rw [← ha2]; exact evn_same (by omega)
  have op2 := op_at h2 (·.op) (x := Op.move (Operand.tmp 67)) (by kernel_rfl)
  have d2 := op_at h2 (·.dst) (x := some 68) (by kernel_rfl)
  have g2 := op_at h2 (·.guard) (x := none) (by kernel_rfl)
  refine wpList_go (v := .bool false) (wanted_free g2) (by simp [execOp, op2, go_sem, ev e67]) ?_
  rw [d2]
  obtain ⟨a3, ha3⟩ : ∃ a, a2.put (some 68) (.bool false) = a := ⟨_, rfl⟩
  rw [ha3]
  have z3 : a3.tmps.size = 102 := by rw [← ha3]; simp [Act.put, z2]
  replace e7 : a3.eval (.tmp 7) = .slice (some ⟨g, 0, none⟩) T T := by rw [← ha3, evn_ne (by decide)]; exact e7
  replace e8 : a3.eval (.tmp 8) = .int .i64 (s : Int) := by rw [← ha3, evn_ne (by decide)]; exact e8
  replace e11 : a3.eval (.tmp 11) = .slice (some ⟨bq, offq, none⟩) kq c1 := by rw [← ha3, evn_ne (by decide)]; exact e11
  have e68 : a3.eval (.tmp 68) = .bool false := by rw [← ha3]; exact evn_same (by omega)
  have op3 := op_at h3 (·.op) (x := Op.move (Operand.tmp 7)) (by kernel_rfl)
  have d3 := op_at h3 (·.dst) (x := some 69) (by kernel_rfl)
  have g3 := op_at h3 (·.guard) (x := some (2, false)) (by kernel_rfl)
  refine wpList_go (v := .slice (some ⟨g, 0, none⟩) T T) (wanted_at g3 h2 d2 e68) (by simp [execOp, op3, go_sem, ev e7]) ?_
  rw [d3]
  obtain ⟨a4, ha4⟩ : ∃ a, a3.put (some 69) (.slice (some ⟨g, 0, none⟩) T T) = a := ⟨_, rfl⟩
  rw [ha4]
  have z4 : a4.tmps.size = 102 := by rw [← ha4]; simp [Act.put, z3]
  replace e7 : a4.eval (.tmp 7) = .slice (some ⟨g, 0, none⟩) T T := by rw [← ha4, evn_ne (by decide)]; exact e7
  replace e8 : a4.eval (.tmp 8) = .int .i64 (s : Int) := by rw [← ha4, evn_ne (by decide)]; exact e8
  replace e11 : a4.eval (.tmp 11) = .slice (some ⟨bq, offq, none⟩) kq c1 := by rw [← ha4, evn_ne (by decide)]; exact e11
  replace e68 : a4.eval (.tmp 68) = .bool false := by rw [← ha4, evn_ne (by decide)]; exact e68
  have e69 : a4.eval (.tmp 69) = .slice (some ⟨g, 0, none⟩) T T := by rw [← ha4]; exact evn_same (by omega)
  have op4 := op_at h4 (·.op) (x := Op.move (Operand.tmp 8)) (by kernel_rfl)
  have d4 := op_at h4 (·.dst) (x := some 70) (by kernel_rfl)
  have g4 := op_at h4 (·.guard) (x := some (2, false)) (by kernel_rfl)
  refine wpList_go (v := .int .i64 (s : Int)) (wanted_at g4 h2 d2 e68) (by simp [execOp, op4, go_sem, ev e8]) ?_
  rw [d4]
  obtain ⟨a5, ha5⟩ : ∃ a, a4.put (some 70) (.int .i64 (s : Int)) = a := ⟨_, rfl⟩
  rw [ha5]
  have z5 : a5.tmps.size = 102 := by rw [← ha5]; simp [Act.put, z4]
  replace e7 : a5.eval (.tmp 7) = .slice (some ⟨g, 0, none⟩) T T := by rw [← ha5, evn_ne (by decide)]; exact e7
  replace e8 : a5.eval (.tmp 8) = .int .i64 (s : Int) := by rw [← ha5, evn_ne (by decide)]; exact e8
  replace e11 : a5.eval (.tmp 11) = .slice (some ⟨bq, offq, none⟩) kq c1 := by rw [← ha5, evn_ne (by decide)]; exact e11
  replace e68 : a5.eval (.tmp 68) = .bool false := by rw [← ha5, evn_ne (by decide)]; exact e68
  replace e69 : a5.eval (.tmp 69) = .slice (some ⟨g, 0, none⟩) T T := by rw [← ha5, evn_ne (by decide)]; exact e69
  have e70 : a5.eval (.tmp 70) = .int .i64 (s : Int) := by rw [← ha5]; exact evn_same (by omega)
  have op5 := op_at h5 (·.op) (x := Op.indexAddr 116 (Operand.tmp 69) (Operand.tmp 70)) (by kernel_rfl)
  have d5 := op_at h5 (·.dst) (x := some 71) (by kernel_rfl)
  have g5 := op_at h5 (·.guard) (x := some (2, false)) (by kernel_rfl)
  refine wpList_go (v := .pointer (some ⟨g, s, none⟩)) (wanted_at g5 h2 d2 e68) (by simp [execOp, op5, go_sem, ev e69, ev e70, hsz]) ?_
  rw [d5]
  obtain ⟨a6, ha6⟩ : ∃ a, a5.put (some 71) (.pointer (some ⟨g, s, none⟩)) = a := ⟨_, rfl⟩
  rw [ha6]
  have z6 : a6.tmps.size = 102 := by rw [← ha6]; simp [Act.put, z5]
  replace e7 : a6.eval (.tmp 7) = .slice (some ⟨g, 0, none⟩) T T := by rw [← ha6, evn_ne (by decide)]; exact e7
  replace e8 : a6.eval (.tmp 8) = .int .i64 (s : Int) := by rw [← ha6, evn_ne (by decide)]; exact e8
  replace e11 : a6.eval (.tmp 11) = .slice (some ⟨bq, offq, none⟩) kq c1 := by rw [← ha6, evn_ne (by decide)]; exact e11
  replace e68 : a6.eval (.tmp 68) = .bool false := by rw [← ha6, evn_ne (by decide)]; exact e68
  have e71 : a6.eval (.tmp 71) = .pointer (some ⟨g, s, none⟩) := by rw [← ha6]; exact evn_same (by omega)
  have op6 := op_at h6 (·.op) (x := Op.load 54 (Operand.tmp 71)) (by kernel_rfl)
  have d6 := op_at h6 (·.dst) (x := some 72) (by kernel_rfl)
  have g6 := op_at h6 (·.guard) (x := some (2, false)) (by kernel_rfl)
  refine wpList_go (v := .slice (some ⟨bp, offp, none⟩) kp c2) (wanted_at g6 h2 d2 e68) (by simp [execOp, op6, go_sem, ev e71, hcell]) ?_
  rw [d6]
  obtain ⟨a7, ha7⟩ : ∃ a, a6.put (some 72) (.slice (some ⟨bp, offp, none⟩) kp c2) = a := ⟨_, rfl⟩
  rw [ha7]
  have z7 : a7.tmps.size = 102 := by rw [← ha7]; simp [Act.put, z6]
  replace e7 : a7.eval (.tmp 7) = .slice (some ⟨g, 0, none⟩) T T := by rw [← ha7, evn_ne (by decide)]; exact e7
  replace e8 : a7.eval (.tmp 8) = .int .i64 (s : Int) := by rw [← ha7, evn_ne (by decide)]; exact e8
  replace e11 : a7.eval (.tmp 11) = .slice (some ⟨bq, offq, none⟩) kq c1 := by rw [← ha7, evn_ne (by decide)]; exact e11
  replace e68 : a7.eval (.tmp 68) = .bool false := by rw [← ha7, evn_ne (by decide)]; exact e68
  have e72 : a7.eval (.tmp 72) = .slice (some ⟨bp, offp, none⟩) kp c2 := by rw [← ha7]; exact evn_same (by omega)
  have op7 := op_at h7 (·.op) (x := Op.binOp BinOp.neq 54 (Operand.tmp 72) (Operand.const (Value.slice none 0 0)) 54) (by kernel_rfl)
  have d7 := op_at h7 (·.dst) (x := some 73) (by kernel_rfl)
  have g7 := op_at h7 (·.guard) (x := some (2, false)) (by kernel_rfl)
  have q7 := ne_nil W (some ⟨bp, offp, none⟩) kp c2 true rfl
  refine wpList_go (v := .bool true) (wanted_at g7 h2 d2 e68) (by simp [execOp, op7, e72, q7, show a7.eval (.const (.slice none 0 0)) = .slice none 0 0 from rfl, neg_slice, Result.andThen]) ?_
  rw [d7]
  obtain ⟨a8, ha8⟩ : ∃ a, a7.put (some 73) (.bool true) = a := ⟨_, rfl⟩
  rw [ha8]
  have z8 : a8.tmps.size = 102 := by rw [← ha8]; simp [Act.put, z7]
  replace e7 : a8.eval (.tmp 7) = .slice (some ⟨g, 0, none⟩) T T := by rw [← ha8, evn_ne (by decide)]; exact e7
  replace e8 : a8.eval (.tmp 8) = .int .i64 (s : Int) := by rw [← ha8, evn_ne (by decide)]; exact e8
  replace e11 : a8.eval (.tmp 11) = .slice (some ⟨bq, offq, none⟩) kq c1 := by rw [← ha8, evn_ne (by decide)]; exact e11
  replace e68 : a8.eval (.tmp 68) = .bool false := by rw [← ha8, evn_ne (by decide)]; exact e68
  have e73 : a8.eval (.tmp 73) = .bool true := by rw [← ha8]; exact evn_same (by omega)
  have op8 := op_at h8 (·.op) (x := Op.move (Operand.tmp 73)) (by kernel_rfl)
  have d8 := op_at h8 (·.dst) (x := some 74) (by kernel_rfl)
  have g8 := op_at h8 (·.guard) (x := some (2, false)) (by kernel_rfl)
  refine wpList_go (v := .bool true) (wanted_at g8 h2 d2 e68) (by simp [execOp, op8, go_sem, ev e73]) ?_
  rw [d8]
  obtain ⟨a9, ha9⟩ : ∃ a, a8.put (some 74) (.bool true) = a := ⟨_, rfl⟩
  rw [ha9]
  have z9 : a9.tmps.size = 102 := by rw [← ha9]; simp [Act.put, z8]
  replace e7 : a9.eval (.tmp 7) = .slice (some ⟨g, 0, none⟩) T T := by rw [← ha9, evn_ne (by decide)]; exact e7
  replace e8 : a9.eval (.tmp 8) = .int .i64 (s : Int) := by rw [← ha9, evn_ne (by decide)]; exact e8
  replace e11 : a9.eval (.tmp 11) = .slice (some ⟨bq, offq, none⟩) kq c1 := by rw [← ha9, evn_ne (by decide)]; exact e11
  replace e68 : a9.eval (.tmp 68) = .bool false := by rw [← ha9, evn_ne (by decide)]; exact e68
  have e74 : a9.eval (.tmp 74) = .bool true := by rw [← ha9]; exact evn_same (by omega)
  have op9 := op_at h9 (·.op) (x := Op.move (Operand.tmp 7)) (by kernel_rfl)
  have d9 := op_at h9 (·.dst) (x := some 75) (by kernel_rfl)
  have g9 := op_at h9 (·.guard) (x := some (8, true)) (by kernel_rfl)
  refine wpList_go (v := .slice (some ⟨g, 0, none⟩) T T) (wanted_at g9 h8 d8 e74) (by simp [execOp, op9, go_sem, ev e7]) ?_
  rw [d9]
  obtain ⟨a10, ha10⟩ : ∃ a, a9.put (some 75) (.slice (some ⟨g, 0, none⟩) T T) = a := ⟨_, rfl⟩
  rw [ha10]
  have z10 : a10.tmps.size = 102 := by rw [← ha10]; simp [Act.put, z9]
  replace e8 : a10.eval (.tmp 8) = .int .i64 (s : Int) := by rw [← ha10, evn_ne (by decide)]; exact e8
  replace e11 : a10.eval (.tmp 11) = .slice (some ⟨bq, offq, none⟩) kq c1 := by rw [← ha10, evn_ne (by decide)]; exact e11
  replace e68 : a10.eval (.tmp 68) = .bool false := by rw [← ha10, evn_ne (by decide)]; exact e68
  replace e74 : a10.eval (.tmp 74) = .bool true := by rw [← ha10, evn_ne (by decide)]; exact e74
  have e75 : a10.eval (.tmp 75) = .slice (some ⟨g, 0, none⟩) T T := by rw [← ha10]; exact evn_same (by omega)
  have op10 := op_at h10 (·.op) (x := Op.move (Operand.tmp 8)) (by kernel_rfl)
  have d10 := op_at h10 (·.dst) (x := some 76) (by kernel_rfl)
  have g10 := op_at h10 (·.guard) (x := some (8, true)) (by kernel_rfl)
  refine wpList_go (v := .int .i64 (s : Int)) (wanted_at g10 h8 d8 e74) (by simp [execOp, op10, go_sem, ev e8]) ?_
  rw [d10]
  obtain ⟨a11, ha11⟩ : ∃ a, a10.put (some 76) (.int .i64 (s : Int)) = a := ⟨_, rfl⟩
  rw [ha11]
  have z11 : a11.tmps.size = 102 := by rw [← ha11]; simp [Act.put, z10]
  replace e11 : a11.eval (.tmp 11) = .slice (some ⟨bq, offq, none⟩) kq c1 := by rw [← ha11, evn_ne (by decide)]; exact e11
  replace e68 : a11.eval (.tmp 68) = .bool false := by rw [← ha11, evn_ne (by decide)]; exact e68
  replace e74 : a11.eval (.tmp 74) = .bool true := by rw [← ha11, evn_ne (by decide)]; exact e74
  replace e75 : a11.eval (.tmp 75) = .slice (some ⟨g, 0, none⟩) T T := by rw [← ha11, evn_ne (by decide)]; exact e75
  have e76 : a11.eval (.tmp 76) = .int .i64 (s : Int) := by rw [← ha11]; exact evn_same (by omega)
  have op11 := op_at h11 (·.op) (x := Op.indexAddr 116 (Operand.tmp 75) (Operand.tmp 76)) (by kernel_rfl)
  have d11 := op_at h11 (·.dst) (x := some 77) (by kernel_rfl)
  have g11 := op_at h11 (·.guard) (x := some (8, true)) (by kernel_rfl)
  refine wpList_go (v := .pointer (some ⟨g, s, none⟩)) (wanted_at g11 h8 d8 e74) (by simp [execOp, op11, go_sem, ev e75, ev e76, hsz]) ?_
  rw [d11]
  obtain ⟨a12, ha12⟩ : ∃ a, a11.put (some 77) (.pointer (some ⟨g, s, none⟩)) = a := ⟨_, rfl⟩
  rw [ha12]
  have z12 : a12.tmps.size = 102 := by rw [← ha12]; simp [Act.put, z11]
  replace e11 : a12.eval (.tmp 11) = .slice (some ⟨bq, offq, none⟩) kq c1 := by rw [← ha12, evn_ne (by decide)]; exact e11
  replace e68 : a12.eval (.tmp 68) = .bool false := by rw [← ha12, evn_ne (by decide)]; exact e68
  replace e74 : a12.eval (.tmp 74) = .bool true := by rw [← ha12, evn_ne (by decide)]; exact e74
  have e77 : a12.eval (.tmp 77) = .pointer (some ⟨g, s, none⟩) := by rw [← ha12]; exact evn_same (by omega)
  have op12 := op_at h12 (·.op) (x := Op.load 54 (Operand.tmp 77)) (by kernel_rfl)
  have d12 := op_at h12 (·.dst) (x := some 78) (by kernel_rfl)
  have g12 := op_at h12 (·.guard) (x := some (8, true)) (by kernel_rfl)
  refine wpList_go (v := .slice (some ⟨bp, offp, none⟩) kp c2) (wanted_at g12 h8 d8 e74) (by simp [execOp, op12, go_sem, ev e77, hcell]) ?_
  rw [d12]
  obtain ⟨a13, ha13⟩ : ∃ a, a12.put (some 78) (.slice (some ⟨bp, offp, none⟩) kp c2) = a := ⟨_, rfl⟩
  rw [ha13]
  have z13 : a13.tmps.size = 102 := by rw [← ha13]; simp [Act.put, z12]
  replace e11 : a13.eval (.tmp 11) = .slice (some ⟨bq, offq, none⟩) kq c1 := by rw [← ha13, evn_ne (by decide)]; exact e11
  replace e68 : a13.eval (.tmp 68) = .bool false := by rw [← ha13, evn_ne (by decide)]; exact e68
  replace e74 : a13.eval (.tmp 74) = .bool true := by rw [← ha13, evn_ne (by decide)]; exact e74
  have e78 : a13.eval (.tmp 78) = .slice (some ⟨bp, offp, none⟩) kp c2 := by rw [← ha13]; exact evn_same (by omega)
  have op13 := op_at h13 (·.op) (x := Op.call { callee := Callee.builtin Builtin.len, args := #[Operand.tmp 78], argTypes := #[54] }) (by kernel_rfl)
  have d13 := op_at h13 (·.dst) (x := some 79) (by kernel_rfl)
  have g13 := op_at h13 (·.guard) (x := some (8, true)) (by kernel_rfl)
  refine wpList_go (v := .int .i64 (kp : Int)) (wanted_at g13 h8 d8 e74) (by simp [execOp, op13, go_sem, ev e78]) ?_
  rw [d13]
  obtain ⟨a14, ha14⟩ : ∃ a, a13.put (some 79) (.int .i64 (kp : Int)) = a := ⟨_, rfl⟩
  rw [ha14]
  have z14 : a14.tmps.size = 102 := by rw [← ha14]; simp [Act.put, z13]
  replace e11 : a14.eval (.tmp 11) = .slice (some ⟨bq, offq, none⟩) kq c1 := by rw [← ha14, evn_ne (by decide)]; exact e11
  replace e68 : a14.eval (.tmp 68) = .bool false := by rw [← ha14, evn_ne (by decide)]; exact e68
  replace e74 : a14.eval (.tmp 74) = .bool true := by rw [← ha14, evn_ne (by decide)]; exact e74
  have e79 : a14.eval (.tmp 79) = .int .i64 (kp : Int) := by rw [← ha14]; exact evn_same (by omega)
  have op14 := op_at h14 (·.op) (x := Op.move (Operand.tmp 11)) (by kernel_rfl)
  have d14 := op_at h14 (·.dst) (x := some 80) (by kernel_rfl)
  have g14 := op_at h14 (·.guard) (x := some (8, true)) (by kernel_rfl)
  refine wpList_go (v := .slice (some ⟨bq, offq, none⟩) kq c1) (wanted_at g14 h8 d8 e74) (by simp [execOp, op14, go_sem, ev e11]) ?_
  rw [d14]
  obtain ⟨a15, ha15⟩ : ∃ a, a14.put (some 80) (.slice (some ⟨bq, offq, none⟩) kq c1) = a := ⟨_, rfl⟩
  rw [ha15]
  have z15 : a15.tmps.size = 102 := by rw [← ha15]; simp [Act.put, z14]
  replace e68 : a15.eval (.tmp 68) = .bool false := by rw [← ha15, evn_ne (by decide)]; exact e68
  replace e74 : a15.eval (.tmp 74) = .bool true := by rw [← ha15, evn_ne (by decide)]; exact e74
  replace e79 : a15.eval (.tmp 79) = .int .i64 (kp : Int) := by rw [← ha15, evn_ne (by decide)]; exact e79
  have e80 : a15.eval (.tmp 80) = .slice (some ⟨bq, offq, none⟩) kq c1 := by rw [← ha15]; exact evn_same (by omega)
  have op15 := op_at h15 (·.op) (x := Op.call { callee := Callee.builtin Builtin.len, args := #[Operand.tmp 80], argTypes := #[54] }) (by kernel_rfl)
  have d15 := op_at h15 (·.dst) (x := some 81) (by kernel_rfl)
  have g15 := op_at h15 (·.guard) (x := some (8, true)) (by kernel_rfl)
  refine wpList_go (v := .int .i64 (kq : Int)) (wanted_at g15 h8 d8 e74) (by simp [execOp, op15, go_sem, ev e80]) ?_
  rw [d15]
  obtain ⟨a16, ha16⟩ : ∃ a, a15.put (some 81) (.int .i64 (kq : Int)) = a := ⟨_, rfl⟩
  rw [ha16]
  have z16 : a16.tmps.size = 102 := by rw [← ha16]; simp [Act.put, z15]
  replace e68 : a16.eval (.tmp 68) = .bool false := by rw [← ha16, evn_ne (by decide)]; exact e68
  replace e74 : a16.eval (.tmp 74) = .bool true := by rw [← ha16, evn_ne (by decide)]; exact e74
  replace e79 : a16.eval (.tmp 79) = .int .i64 (kp : Int) := by rw [← ha16, evn_ne (by decide)]; exact e79
  have e81 : a16.eval (.tmp 81) = .int .i64 (kq : Int) := by rw [← ha16]; exact evn_same (by omega)
  have op16 := op_at h16 (·.op) (x := Op.binOp BinOp.add 3 (Operand.tmp 81) (Operand.const (Value.int IntKind.i64 1)) 3) (by kernel_rfl)
  have d16 := op_at h16 (·.dst) (x := some 82) (by kernel_rfl)
  have g16 := op_at h16 (·.guard) (x := some (8, true)) (by kernel_rfl)
  have w16 : IntKind.i64.wrap ((kq : Int) + 1) = (kq : Int) + 1 := IntWalk.i64_in _ (by omega)
  refine wpList_go (v := .int .i64 ((kq : Int) + 1)) (wanted_at g16 h8 d8 e74) (by simp [execOp, op16, go_sem, ev e81, w16]) ?_
  rw [d16]
  obtain ⟨a17, ha17⟩ : ∃ a, a16.put (some 82) (.int .i64 ((kq : Int) + 1)) = a := ⟨_, rfl⟩
  rw [ha17]
  have z17 : a17.tmps.size = 102 := by rw [← ha17]; simp [Act.put, z16]
  replace e68 : a17.eval (.tmp 68) = .bool false := by rw [← ha17, evn_ne (by decide)]; exact e68
  replace e74 : a17.eval (.tmp 74) = .bool true := by rw [← ha17, evn_ne (by decide)]; exact e74
  replace e79 : a17.eval (.tmp 79) = .int .i64 (kp : Int) := by rw [← ha17, evn_ne (by decide)]; exact e79
  have e82 : a17.eval (.tmp 82) = .int .i64 ((kq : Int) + 1) := by rw [← ha17]; exact evn_same (by omega)
  have op17 := op_at h17 (·.op) (x := Op.binOp BinOp.leq 3 (Operand.tmp 79) (Operand.tmp 82) 3) (by kernel_rfl)
  have d17 := op_at h17 (·.dst) (x := some 83) (by kernel_rfl)
  have g17 := op_at h17 (·.guard) (x := some (8, true)) (by kernel_rfl)
  refine wpList_go (v := .bool false) (wanted_at g17 h8 d8 e74) (by simp [execOp, op17, go_sem, ev e79, ev e82, hle]) ?_
  rw [d17]
  obtain ⟨a18, ha18⟩ : ∃ a, a17.put (some 83) (.bool false) = a := ⟨_, rfl⟩
  rw [ha18]
  have z18 : a18.tmps.size = 102 := by rw [← ha18]; simp [Act.put, z17]
  replace e68 : a18.eval (.tmp 68) = .bool false := by rw [← ha18, evn_ne (by decide)]; exact e68
  replace e74 : a18.eval (.tmp 74) = .bool true := by rw [← ha18, evn_ne (by decide)]; exact e74
  have e83 : a18.eval (.tmp 83) = .bool false := by rw [← ha18]; exact evn_same (by omega)
  have op18 := op_at h18 (·.op) (x := Op.pick (Operand.tmp 74) (Operand.tmp 83) (Operand.const (Value.bool false))) (by kernel_rfl)
  have d18 := op_at h18 (·.dst) (x := some 84) (by kernel_rfl)
  have g18 := op_at h18 (·.guard) (x := some (2, false)) (by kernel_rfl)
  refine wpList_go (v := .bool false) (wanted_at g18 h2 d2 e68) (by simp [execOp, op18, go_sem, ev e74, ev e83]) ?_
  rw [d18]
  obtain ⟨a19, ha19⟩ : ∃ a, a18.put (some 84) (.bool false) = a := ⟨_, rfl⟩
  rw [ha19]
  have z19 : a19.tmps.size = 102 := by rw [← ha19]; simp [Act.put, z18]
  replace e68 : a19.eval (.tmp 68) = .bool false := by rw [← ha19, evn_ne (by decide)]; exact e68
  have e84 : a19.eval (.tmp 84) = .bool false := by rw [← ha19]; exact evn_same (by omega)
  have op19 := op_at h19 (·.op) (x := Op.pick (Operand.tmp 68) (Operand.const (Value.bool true)) (Operand.tmp 84)) (by kernel_rfl)
  have d19 := op_at h19 (·.dst) (x := some 85) (by kernel_rfl)
  have g19 := op_at h19 (·.guard) (x := none) (by kernel_rfl)
  refine wpList_go (v := .bool false) (wanted_free g19) (by simp [execOp, op19, go_sem, ev e68, ev e84]) ?_
  rw [d19]
  obtain ⟨a20, ha20⟩ : ∃ a, a19.put (some 85) (.bool false) = a := ⟨_, rfl⟩
  rw [ha20]
  have z20 : a20.tmps.size = 102 := by rw [← ha20]; simp [Act.put, z19]
  show Q .normal a20 W
  rw [← ha20, ← ha19, ← ha18, ← ha17, ← ha16, ← ha15, ← ha14, ← ha13, ← ha12, ← ha11, ← ha10, ← ha9, ← ha8, ← ha7, ← ha6, ← ha5, ← ha4, ← ha3, ← ha2, ← ha1]
  exact K
end Go.Proofs.Ytlaakmgdbhabfaa

/- fewest. -/
namespace Go.Proofs.Ytlaakmgdbhabfaa
open Go.RowKit Go.Shelf
attribute [local irreducible] bitCells fitCells Z94 fitOf

/-- The numbers ns lie in the first cells of the row sg of n numbers. -/
def NumsAt (W : World) (sg n : Nat) (ns : List Nat) : Prop := ∃ S : Array Value, W.heap[sg]? = some (.cells S 3 (0, 0)) ∧ S.size = n ∧ ∀ (i m : Nat), ns[i]? = some m → S[i]? = some (Value.int .i64 (m : Int))
theorem NumsAt.ext {W W' : World} {sg n : Nat} {ns : List Nat} (h : NumsAt W sg n ns) (e : Ext W W') : NumsAt W' sg n ns := by
  obtain ⟨S, h1, h2, h3⟩ := h
  exact ⟨S, row_ext h1 e, h2, h3⟩
theorem NumsAt.put {W : World} {sg n : Nat} {ns : List Nat} (h : NumsAt W sg n ns) (m : Nat) : NumsAt (W.setCell ⟨sg, ns.length, none⟩ (.int .i64 (m : Int))) sg n (ns ++ [m]) ∨ n ≤ ns.length := by
  obtain ⟨S, h1, h2, h3⟩ := h
  by_cases hn : n ≤ ns.length
  · exact .inr hn
  · refine .inl ⟨S.setIfInBounds ns.length (.int .i64 (m : Int)), row_setCell _ _ _ _ _ _ _ h1, by simp [h2], fun i x hi => ?_⟩
    by_cases e : i = ns.length
    · subst e
      rw [List.getElem?_append_right (Nat.le_refl _), Nat.sub_self] at hi
      have hx : m = x := by simpa using hi
      rw [← hx, Array.getElem?_setIfInBounds_self_of_lt (by omega)]
    · have hi2 : i < ns.length := by
        have := (List.getElem?_eq_some_iff.1 hi).1
        simp at this
        omega
      rw [List.getElem?_append_left hi2] at hi
      rw [Array.getElem?_setIfInBounds_ne (fun e' => e e'.symm)]
      exact h3 i x hi
theorem NumsAt.cell {W : World} {sg n k : Nat} {ns : List Nat} (h : NumsAt W sg n ns) (hk : k < n) : (∃ u, W.cell? ⟨sg, k, none⟩ = some u) ∧ W.frozen? ⟨sg, k, none⟩ = false := by
  obtain ⟨S, h1, h2, h3⟩ := h
  refine ⟨⟨S[k], (cell_of_row _ _ _ _ _ _ h1).trans (by simp [h2, hk])⟩, ?_⟩
  simp [World.frozen?, h1]
theorem NumsAt.get {W : World} {sg n : Nat} {ns : List Nat} (h : NumsAt W sg n ns) {k m : Nat} (hk : ns[k]? = some m) : W.cell? ⟨sg, k, none⟩ = some (.int .i64 (m : Int)) := by
  obtain ⟨S, h1, h2, h3⟩ := h
  exact (cell_of_row _ _ _ _ _ _ h1).trans (h3 k m hk)
theorem NumsAt.other {W : World} {sg n g s : Nat} {ns : List Nat} {v : Value} (h : NumsAt W sg n ns) (hne : sg ≠ g) : NumsAt (W.setCell ⟨g, s, none⟩ v) sg n ns := by
  obtain ⟨S, h1, h2, h3⟩ := h
  exact ⟨S, by rw [heap_set_other _ _ _ _ _ hne]; exact h1, h2, h3⟩
theorem made_get (z : Value) (n i : Nat) (h : i < n) : (madeCells #[z] n)[i]? = some z := by
  rw [← Array.getElem?_toList, toList_madeCells_one]
  simp [h]
theorem wrap_pow (k : Nat) (hk : k ≤ 12) : wrap64 (2 ^ k) = ((2 ^ k : Nat) : Int) := by
  have h : 2 ^ k ≤ 4096 := (Nat.pow_le_pow_right (by decide) hk : 2 ^ k ≤ 2 ^ 12)
  have e : ((2 : Int) ^ k) = ((2 ^ k : Nat) : Int) := by simp
  rw [e]
  generalize 2 ^ k = T at h ⊢
  unfold wrap64
  omega

set_option maxRecDepth 100000 in
set_option maxHeartbeats 4000000 in
theorem fewest_any {w : World} {pc b bm : Nat} {ys : List Nat} {A : Option Addr} {n c : Nat} {A' : Option Addr} {n' c' : Nat} {A2 : Option Addr} {k2 c2 : Nat} {cs ms : List (Int × Int)} (hC : ChoiceAt w pc b bm ys) (hO : IsOpen w b A n c A' n' c' A2 k2 c2 cs ms) (h0 : sheetErr cs ms = 0) :
    Calls Try.prog 75 #[.pointer (some ⟨pc, 0, none⟩)] w fun e w' => Ext w w' ∧ ∃ g, e = .returned (.slice (some ⟨g, 0, none⟩) (2 ^ n') (2 ^ n')) ∧ w.heap.size ≤ g ∧ TabAt w' g (2 ^ n') (fun s => (tabTo (noOf cs ms) (leftOf cs ms ys (fitsOf cs ms)) (2 ^ n')).getD s none) := by
  have hbl := (Array.getElem?_eq_some_iff.1 hO.row).1
  have hpl := (Array.getElem?_eq_some_iff.1 hC.row).1
  have hn12 : n' ≤ 12 := by have := (sheet_ok h0).1; have := hO.sheet.nms; omega
  have hleft := left_any hC hO h0
  have hfew := fits_few h0
  have hle : (leftOf cs ms ys (fitsOf cs ms)).length ≤ 384 := Nat.le_trans (List.length_filter_le _ _) hfew
  obtain ⟨xs, hxs⟩ : ∃ xs, leftOf cs ms ys (fitsOf cs ms) = xs := ⟨_, rfl⟩
  rw [hxs] at hleft hle ⊢
  have HO := Lib.hid hO
  have HC := Lib.hid hC
  clear hfew hC hO h0 hxs
  go_enter Try.func75, Try.ntmps75
  go_wp2_with fail
  refine hleft.mono ?_
  rintro e w1 ⟨v, rfl, e1, hown⟩
  obtain ⟨A3, c3, hv3⟩ := owns_len hown
  subst hv3
  have hheld : Held w1 w1.heap.size 14 (encF cs ms) A3 xs := (fits_held rfl hown).1
  have HH := Lib.hid hheld
  have HE1 := Lib.hid e1
  have hmk3 : ∀ W : World, (Instr.makeSlice 30 (.int .i64 (xs.length : Int)) (.int .i64 (xs.length : Int))).run Try.prog W = .ok (.slice (some ⟨W.heap.size, 0, none⟩) xs.length xs.length) (W.alloc (.cells (madeCells #[.int .i64 0] xs.length) 3)) := fun W =>
    run_make_row' (P := Try.prog) 30 3 (.int .i64 0) 8 (by kernel_rfl) info3 rfl .i64 .i64 xs.length (by omega) (by omega) W
  obtain ⟨m, hm⟩ : ∃ m, xs.length = m := ⟨_, rfl⟩
  rw [hm] at hmk3 hle ⊢
  have HM := Lib.hid hm
  clear hleft e1 hown hheld hm
  go_wp2
  obtain ⟨w2, hw2⟩ : ∃ w2, w1.alloc (.cells (madeCells #[.int .i64 0] m) 3) = w2 := ⟨_, rfl⟩
  have e2 : Ext w1 w2 := by rw [← hw2]; exact ext_alloc _ _
  have hnu : NumsAt w2 w1.heap.size m [] := ⟨_, by rw [← hw2]; exact row_last _ _ _ rfl, size_madeCells _ _, fun i m h => by simp at h⟩
  rw [hw2]
  have HE2 := Lib.hid e2
  have HNU := Lib.hid hnu
  clear hw2 e2 hnu hmk3
  go_loopw [19] (fun i wr => ∃ k : Nat, k ≤ m ∧ i = .int .i64 k ∧ Hid (Ext w1 wr) ∧ Hid (NumsAt wr w1.heap.size m ((xs.take k).map (noOf cs ms)))) (fun i _ => m - (intOf i).toNat)
  case atStart => exact ⟨0, Nat.zero_le _, rfl, HE2, HNU⟩
  case round =>
    obtain ⟨k, hk, rfl, hE, hN⟩ := hrel
    by_cases hlt : k < m
    · have hltz : (k : Int) < (m : Int) := by omega
      have hkl : k < xs.length := by have := HM.out; omega
      obtain ⟨x, hx⟩ : ∃ x, x = xs[k] := ⟨_, rfl⟩
      obtain ⟨b3, off, rfl, hbl3, hcell⟩ := cells_held ((HH.out.kept hE.out (Nat.le_refl _)).wider hE.out.size) (k := k) (x := x) (by rw [hx]; exact List.getElem?_eq_getElem hkl)
      have hs := fitOf_size cs ms x
      have h1 := fitOf_one cs ms x
      have hfe : fitOf cs ms x = fitCells x.1 x.2 (hadB cs ms x.1 x.2) := by unfold fitOf; rfl
      obtain ⟨f, hf⟩ : ∃ f, fitOf cs ms x = f := ⟨_, rfl⟩
      rw [hf] at hcell hs h1 hfe
      have hst4 := store_new94 wr f hs h1
      have e4 : Ext wr (wr.alloc (.cells f 94)) := ext_alloc _ _
      have hld : ∀ j u, (bitCells (hadB cs ms x.1 x.2)).toList[j]? = some u → (wr.alloc (.cells f 94)).cell? ((⟨wr.heap.size, 2, none⟩ : Addr).add j) = some u := fun j u hj => by
        rw [Addr.add_lit]
        refine (cell_of_row _ _ _ _ _ _ (row_last wr (.cells f 94) _ rfl)).trans ?_
        have hj12 : j < 12 := by have := (List.getElem?_eq_some_iff.1 hj).1; rw [Array.length_toList, bitCells_size] at this; exact this
        rw [Array.getElem?_toList, bitCells_get _ j hj12] at hj
        rw [hfe, fitCells_mark _ _ _ j hj12]
        exact hj
      have hset := set_any (hadB cs ms x.1 x.2) (wr.alloc (.cells f 94))
      have hln : ((xs.take k).map (noOf cs ms)).length = k := by simp; omega
      have hput := fun (Z : World) (hZ : NumsAt Z w1.heap.size m ((xs.take k).map (noOf cs ms))) => (hZ.put (noOf cs ms x)).resolve_right (by rw [hln]; omega)
      rw [hln] at hput
      have hno : noOf cs ms x = setNo (hadB cs ms x.1 x.2) := rfl
      rw [← hno] at hset
      have hbs := bitCells_size (hadB cs ms x.1 x.2)
      obtain ⟨bc, hbc⟩ : ∃ bc, bitCells (hadB cs ms x.1 x.2) = bc := ⟨_, rfl⟩
      rw [hbc] at hld hset hbs
      obtain ⟨no, hno2⟩ : ∃ no, noOf cs ms x = no := ⟨_, rfl⟩
      rw [hno2] at hset hput
      have HX := Lib.hid hx
      have HNO := Lib.hid hno2
      have HP := Lib.hid hput
      have HE4 := Lib.hid e4
      clear hf hx hfe hno hbc hno2 hput e4 hln
      go_wp2_with (first | refine wpList_alloc94 rfl rfl ?_ | refine wpList_load94 (.tmp 22) rfl rfl _ rfl f hs hcell ?_ | refine wpList_load92_at (.tmp 26) rfl rfl ⟨wr.heap.size, 2, none⟩ rfl bc hbs hld ?_ | (refine hset.mono ?_; rintro e w5 ⟨rfl, e5⟩; obtain ⟨⟨u5, c5⟩, f5⟩ := ((hN.out.ext HE4.out).ext e5).cell hlt; have H5 := Lib.hid e5; clear e5))
      go_roundw
      case measure => simp [intOf]; omega
      case rel =>
        refine ⟨k + 1, by omega, by go_num, Lib.hid ?_, Lib.hid ?_⟩
        · exact (hE.out.trans (HE4.out.trans H5.out)).setCell (p := ⟨w1.heap.size, k, none⟩) (Nat.le_refl _) _
        · rw [List.take_succ_eq_append_getElem hkl, List.map_append, ← HX.out]
          simp only [List.map_cons, List.map_nil]
          rw [HNO.out]
          exact HP.out _ ((hN.out.ext HE4.out).ext H5.out)
    · have hltz : ¬ (k : Int) < (m : Int) := by omega
      obtain rfl : k = m := by omega
      have hN2 := hN.out
      rw [List.take_of_length_le (by have := HM.out; omega)] at hN2
      have HN2 := Lib.hid hN2
      have hEw := HE1.out.trans hE.out
      obtain ⟨q0, q1, q2⟩ := (HO.out.ext hEw).cells
      have r0 : wr.cell? ⟨pc, 0, none⟩ = some (.pointer (some ⟨b, 0, none⟩)) := cell_of_row _ _ _ _ _ _ (HC.out.ext hEw).row
      have hT := wrap_pow n' hn12
      have hT4 : 2 ^ n' ≤ 4096 := (Nat.pow_le_pow_right (by decide) hn12 : 2 ^ n' ≤ 2 ^ 12)
      have hT1 : 1 ≤ 2 ^ n' := Nat.one_le_two_pow
      have hT2 : ((2 : Int) ^ n') = ((2 ^ n' : Nat) : Int) := by simp
      obtain ⟨T, hTe⟩ : ∃ T, 2 ^ n' = T := ⟨_, rfl⟩
      rw [hTe] at hT hT4 hT1 hT2
      have HTE := Lib.hid hTe
      have hmk : ∀ W : World, (Instr.makeSlice 116 (.int .i64 (T : Int)) (.int .i64 (T : Int))).run Try.prog W = .ok (.slice (some ⟨W.heap.size, 0, none⟩) T T) (W.alloc (.cells (madeCells #[.slice none 0 0] T) 54)) := fun W =>
        run_make_row' (P := Try.prog) 116 54 (.slice none 0 0) 24 (by kernel_rfl) (by kernel_rfl) rfl .i64 .i64 T (by omega) (by omega) W
      have HEW := Lib.hid hEw
      have HEX := Lib.hid hE.out
      obtain ⟨WT, hWT⟩ : ∃ WT, (wr.alloc (.cells (madeCells #[.slice none 0 0] T) 54)).alloc (.cells #[] 27) = WT := ⟨_, rfl⟩
      have eT : Ext wr WT := by rw [← hWT]; exact (ext_alloc _ _).trans (ext_alloc _ _)
      have hrT : WT.heap[wr.heap.size]? = some (.cells (madeCells #[.slice none 0 0] T) 54 (0, 0)) := by rw [← hWT]; exact row_ext (row_last _ _ _ rfl) (ext_alloc _ _)
      have hr0 : WT.heap[wr.heap.size + 1]? = some (.cells #[] 27 (0, 0)) := by rw [← hWT]; exact row_last _ _ _ (by simp)
      have c44 : ((wr.alloc (.cells (madeCells #[.slice none 0 0] T) 54)).alloc (.cells #[] 27)).cell? ⟨wr.heap.size, 0, none⟩ = some (.slice none 0 0) := by rw [hWT]; exact (cell_of_row _ _ _ _ _ _ hrT).trans (made_get _ _ _ (by omega))
      have f44 : ((wr.alloc (.cells (madeCells #[.slice none 0 0] T) 54)).alloc (.cells #[] 27)).frozen? ⟨wr.heap.size, 0, none⟩ = false := by rw [hWT]; simp [World.frozen?, hrT]
      have HN2 := Lib.hid hN2
      clear hN2 hEw hTe hE hN hWT eT hrT hr0
      go_wp2
      obtain ⟨WX, hWX⟩ : ∃ WX, (wr.alloc (.cells ((madeCells #[.slice none 0 0] T).setIfInBounds 0 (.slice (some ⟨wr.heap.size + 1, 0, none⟩) 0 0)) 54)).alloc (.cells #[] 27) = WX := ⟨_, rfl⟩
      have eX : Ext wr WX := by rw [← hWX]; exact (ext_alloc _ _).trans (ext_alloc _ _)
      have hrX : WX.heap[wr.heap.size]? = some (.cells ((madeCells #[.slice none 0 0] T).setIfInBounds 0 (.slice (some ⟨wr.heap.size + 1, 0, none⟩) 0 0)) 54 (0, 0)) := by rw [← hWX]; exact row_ext (row_last _ _ _ rfl) (ext_alloc _ _)
      have hr1 : WX.heap[wr.heap.size + 1]? = some (.cells #[] 27 (0, 0)) := by rw [← hWX]; exact row_last _ _ _ (by simp)
      have hTab : TabAt WX wr.heap.size T (expOf (tabTo (noOf cs ms) xs 0) 0 (tabInit 0)) := by
        refine ⟨_, hrX, by simp [size_madeCells], fun s hs => ?_⟩
        by_cases e : s = 0
        · subst e
          refine ⟨.slice (some ⟨wr.heap.size + 1, 0, none⟩) 0 0, by rw [Array.getElem?_setIfInBounds_self_of_lt (by rw [size_madeCells]; omega)], ?_⟩
          show CellIs WX (some []) _
          exact ⟨wr.heap.size + 1, 0, 0, #[], rfl, Nat.le_refl _, Nat.zero_le _, hr1, fun j x h => by simp at h⟩
        · refine ⟨.slice none 0 0, by rw [Array.getElem?_setIfInBounds_ne (fun e' => e e'.symm)]; exact made_get _ _ _ hs, ?_⟩
          unfold expOf
          rw [if_neg e]
          rfl
      rw [hWX]
      have hsg : w1.heap.size < wr.heap.size := by
        obtain ⟨S, h1, _⟩ := HN2.out
        exact (Array.getElem?_eq_some_iff.1 h1).1
      have HTAB := Lib.hid hTab
      have HNU2 := Lib.hid (HN2.out.ext eX)
      have HEX2 := Lib.hid (HEX.out.trans eX)
      have hgX := (Array.getElem?_eq_some_iff.1 hrX).1
      obtain ⟨g, hg⟩ : ∃ g, wr.heap.size = g := ⟨_, rfl⟩
      rw [hg] at HTAB hsg hgX ⊢
      clear hWX eX hrX hr1 hTab hg c44 f44 hmk q0 q1 q2 r0 hT hT2
      go_loopw [47] (fun i wq => ∃ k2 : Nat, k2 ≤ T ∧ i = .int .i64 k2 ∧ Hid (Ext w1 wq) ∧ Hid (NumsAt wq w1.heap.size k (xs.map (noOf cs ms))) ∧ Hid (TabAt wq g T (expOf (tabTo (noOf cs ms) xs k2) k2 (tabInit k2)))) (fun i _ => T - (intOf i).toNat)
      case atStart => exact ⟨0, Nat.zero_le _, rfl, HEX2, HNU2, HTAB⟩
      case round =>
        obtain ⟨s, hs, rfl, hE, hN, hTb⟩ := hrel
        by_cases hsl : s < T
        · have hsz : (s : Int) < (T : Int) := by omega
          go_wp2
          go_loopw [52] (fun j wq => ∃ i : Nat, i ≤ k ∧ j = .int .i64 i ∧ Hid (Ext w1 wq) ∧ Hid (NumsAt wq w1.heap.size k (xs.map (noOf cs ms))) ∧ Hid (TabAt wq g T (expOf (tabTo (noOf cs ms) xs s) s (tabAcc (noOf cs ms) (tabTo (noOf cs ms) xs s) s (xs.take i) (tabInit s))))) (fun j _ => k - (intOf j).toNat)
          case atStart => exact ⟨0, Nat.zero_le _, rfl, hE, hN, hTb⟩
          case round =>
            clear hE hN hTb
            obtain ⟨i, hi, rfl, hE, hN, hTb⟩ := hrel
            by_cases hil : i < k
            · have hiz : (i : Int) < (k : Int) := by omega
              have hix : i < xs.length := by have := HM.out; omega
              have hsu := tabAcc_succ (noOf cs ms) (tabTo (noOf cs ms) xs s) s xs (tabInit s) i hix
              have hlenE := fun t r h => expOf_le (no := noOf cs ms) (xs := xs) (k := s) (i := i) (t := t) (r := r) h
              obtain ⟨x, hx⟩ : ∃ x, x = xs[i] := ⟨_, rfl⟩
              rw [← hx] at hsu
              obtain ⟨b3, off, rfl, hbl3, hcell⟩ := cells_held ((HH.out.kept hE.out (Nat.le_refl _)).wider hE.out.size) (k := i) (x := x) (by rw [hx]; exact List.getElem?_eq_getElem hix)
              have hs4 := fitOf_size cs ms x
              have h1 := fitOf_one cs ms x
              have hfe : fitOf cs ms x = fitCells x.1 x.2 (hadB cs ms x.1 x.2) := by unfold fitOf; rfl
              obtain ⟨f, hf⟩ : ∃ f, fitOf cs ms x = f := ⟨_, rfl⟩
              rw [hf] at hcell hs4 h1 hfe
              have hst4 := store_new94 wr f hs4 h1
              have e4 : Ext wr (wr.alloc (.cells f 94)) := ext_alloc _ _
              have hfr : (wr.alloc (.cells f 94)).heap[wr.heap.size]? = some (.cells f 94 (0, 0)) := row_last _ _ _ rfl
              have hx0 : ∀ Z, Ext (wr.alloc (.cells f 94)) Z → Z.cell? ⟨wr.heap.size, 0, none⟩ = some (.int .i64 (x.1 : Int)) := fun Z hZ => (cell_of_row _ _ _ _ _ _ (row_ext hfr hZ)).trans (by rw [← hf]; exact (fitOf_get cs ms x).1)
              have hx1 : ∀ Z, Ext (wr.alloc (.cells f 94)) Z → Z.cell? ⟨wr.heap.size, 1, none⟩ = some (.int .i64 x.2) := fun Z hZ => (cell_of_row _ _ _ _ _ _ (row_ext hfr hZ)).trans (by rw [← hf]; exact (fitOf_get cs ms x).2.1)
              obtain ⟨no, hno⟩ : ∃ no, noOf cs ms x = no := ⟨_, rfl⟩
              have hno4 : no < 4096 := by rw [← hno]; exact setNo_lt _
              have hnc : (wr.alloc (.cells f 94)).cell? ⟨w1.heap.size, i, none⟩ = some (.int .i64 (no : Int)) := (hN.out.ext e4).get (by rw [List.getElem?_map, List.getElem?_eq_getElem hix, ← hx, ← hno]; rfl)
              rw [hno] at hsu
              have hbn := bits_andNot s no (by omega) (by omega)
              have hbl := butNot_le s no
              obtain ⟨t, ht⟩ : ∃ t, butNot s no = t := ⟨_, rfl⟩
              rw [ht] at hsu hbn hbl
              have htz : (t : Int) < (T : Int) := by omega
              have htT : t < T := by omega
              obtain ⟨acc, hacc⟩ : ∃ acc, tabAcc (noOf cs ms) (tabTo (noOf cs ms) xs s) s (xs.take i) (tabInit s) = acc := ⟨_, rfl⟩
              have hTb2 := hTb.out
              rw [hacc] at hsu hlenE hTb2
              obtain ⟨tab, htab⟩ : ∃ tab, tabTo (noOf cs ms) xs s = tab := ⟨_, rfl⟩
              rw [htab] at hsu hlenE hTb2
              have hT4' := hTb2.ext e4
              obtain ⟨vt, ct, hvt⟩ := hT4'.get htT
              obtain ⟨vs, cvs, hvs⟩ := hT4'.get hsl
              have hEs : expOf tab s acc s = acc := by unfold expOf; rw [if_pos rfl]
              rw [hEs] at hvs
              obtain ⟨bef, hbef⟩ : ∃ bef, expOf tab s acc t = bef := ⟨_, rfl⟩
              rw [hbef] at hvt hsu
              have hq9 := hlenE t
              rw [hbef] at hq9
              have HTB4 := Lib.hid hT4'
              have HE4 := Lib.hid (hE.out.trans e4)
              have HN4 := Lib.hid (hN.out.ext e4)
              have HX0 := Lib.hid hx0
              have HX1 := Lib.hid hx1
              have HTA := Lib.hid htab
              have hsu2 : tabAcc (noOf cs ms) (tabTo (noOf cs ms) xs s) s (xs.take (i + 1)) (tabInit s) = pick acc bef x := by rw [htab]; exact hsu
              have HSU := Lib.hid hsu
              clear hx hf hfe hT4' hE hN hTb hTb2 e4 hfr hx0 hx1 hno ht hacc hlenE hEs hsu2 hsu
              go_upto_region 17 with (first | refine wpList_alloc94 rfl rfl ?_ | refine wpList_load94 (.tmp 55) rfl rfl _ rfl f hs4 hcell ?_)
              clear hcell hst4 hbn hnc ct h1 hs4
              cases bef with
              | none =>
                have hvt' : vt = .slice none 0 0 := hvt
                subst hvt'
                have hp : pick acc none x = acc := rfl
                have en0 := fun Z => eq_nil Z none 0 0 true rfl
                go_wp2
                go_roundw
                case measure => simp [intOf]; omega
                case rel => exact ⟨i + 1, by omega, by go_num, HE4, HN4, by rw [HTA.out, HSU.out, hp]; exact HTB4⟩
              | some q =>
                obtain ⟨b1, o1, c1, cq, rfl, hqc, hc9, hqr, hqx⟩ : RowsAt (wr.alloc (.cells f 94)) q vt := hvt
                have hq5 := hq9 q rfl
                obtain ⟨kq, hkq⟩ : ∃ kq, q.length = kq := ⟨_, rfl⟩
                have HKQ := Lib.hid hkq
                rw [hkq] at hqc hq5 ⊢
                have hsl4 : ∀ Z, (Instr.sliceAt 54 (.slice (some ⟨b1, o1, none⟩) kq c1) none (some (.int .i64 (kq : Int))) (some (.int .i64 (kq : Int)))).run Try.prog Z = .ok (.slice (some ⟨b1, o1, none⟩) kq kq) Z := fun Z => run_slice54 Z _ kq c1 hqc (by rw [Addr.add_lit]; rfl)
                have hqq : ∀ Z, Ext (wr.alloc (.cells f 94)) Z → ∀ j y, q[j]? = some y → Z.cell? ⟨b1, o1 + j * 2, none⟩ = some (.int .i64 (y.1 : Int)) ∧ Z.cell? ⟨b1, o1 + (j * 2 + 1), none⟩ = some (.int .i64 y.2) := fun Z hZ j y hy => by
                  have h5 := hqx j y hy
                  have h6 := row_ext hqr hZ
                  exact ⟨(cell_of_row _ _ _ _ _ _ h6).trans h5.1, (cell_of_row _ _ _ _ _ _ h6).trans h5.2⟩
                have HSL := Lib.hid hsl4
                have HQ := Lib.hid hqq
                clear hq9 hqx hqr hc9 hkq hsl4 hqq
                cases acc with
                | none =>
                  have hvs' : vs = .slice none 0 0 := hvs
                  subst hvs'
                  have PICK : pick none (some q) x = some (q ++ [x]) := rfl
                  refine fw17_none_wp (g := g) (T := T) (s := s) (bq := b1) (offq := o1) (kq := kq) (c1 := c1) rfl rfl rfl rfl hsz cvs ?_
                  simp only [puts, List.foldl_cons, List.foldl_nil, Act.put, List.setIfInBounds_toArray, List.set_cons_succ, List.set_cons_zero]
                  clear cvs
                  go_upto_region 18 with fail
                  refine fw18_wp (g := g) (T := T) (s := s) (b1 := b1) (o1 := o1) (k := kq) (c := c1) (pf := wr.heap.size) (q := q) (x := x) rfl rfl rfl rfl rfl HSL.out HX0.out HX1.out HKQ.out.symm (by omega) HQ.out ?_
                  intro W6 v10 v11 e6 _ h11
                  have hne : q ++ [x] ≠ [] := by simp
                  have hra := rowsAt_own h11 hne
                  obtain ⟨A9, c9, hv9⟩ := owns_len h11
                  subst hv9
                  have hT6 := HTB4.out.ext e6
                  obtain ⟨u6, cu6, _⟩ := hT6.get hsl
                  have hf6 : W6.frozen? ⟨g, s, none⟩ = false := by obtain ⟨C, h1, _⟩ := hT6; simp [World.frozen?, h1]
                  simp only [puts, List.foldl_cons, List.foldl_nil, Act.put, List.setIfInBounds_toArray, List.set_cons_succ, List.set_cons_zero]
                  refine fw18_tail (g := g) (T := T) (s := s) (A := A9) (n := (q ++ [x]).length) (c := c9) rfl rfl rfl hsl (by simp) (by rw [cu6]; rfl) hf6 ?_
                  simp only [Act.put, List.setIfInBounds_toArray, List.set_cons_succ, List.set_cons_zero]
                  have H6 := Lib.hid (And.intro e6 (And.intro hra hT6))
                  clear hra hT6 cu6 hf6 h11 e6 hne
                  go_wp2
                  go_roundw
                  case measure => simp [intOf]; omega
                  case rel =>
                    have hee := HE4.out.trans H6.out.1
                    refine ⟨i + 1, by omega, by go_num, Lib.hid (hee.setCell (p := ⟨g, s, none⟩) (by show w1.heap.size ≤ g; omega) _), Lib.hid ((HN4.out.ext H6.out.1).other (Nat.ne_of_lt hsg)), Lib.hid ?_⟩
                    rw [HTA.out, HSU.out, PICK]
                    refine H6.out.2.2.put hsl _ ?_ (fun r _ hr => ?_)
                    · unfold expOf
                      rw [if_pos rfl]
                      show RowsAt W6 (q ++ [x]) _
                      have h7 := H6.out.2.1
                      rw [List.length_append] at h7
                      exact h7
                    · unfold expOf
                      rw [if_neg hr, if_neg hr]
                | some p =>
                  obtain ⟨b2, o2, c2', cp, rfl, _, _, _, _⟩ : RowsAt (wr.alloc (.cells f 94)) p vs := hvs
                  obtain ⟨kp, hkp⟩ : ∃ kp, p.length = kp := ⟨_, rfl⟩
                  have HKP := Lib.hid hkp
                  rw [hkp] at cvs
                  clear hkp
                  by_cases hpq : kp ≤ kq + 1
                  · have hpz : (kp : Int) ≤ (kq : Int) + 1 := by omega
                    have PICK : pick (some p) (some q) x = some p := by
                      show (if p.length ≤ q.length + 1 then some p else some (q ++ [x])) = _
                      rw [if_pos (by rw [HKP.out, HKQ.out]; exact hpq)]
                    refine fw17_stay_wp (g := g) (T := T) (s := s) (bq := b1) (offq := o1) (kq := kq) (c1 := c1) (bp := b2) (offp := o2) (kp := kp) (c2 := c2') rfl rfl rfl rfl hsz cvs (by omega) hpz ?_
                    simp only [puts, List.foldl_cons, List.foldl_nil, Act.put, List.setIfInBounds_toArray, List.set_cons_succ, List.set_cons_zero]
                    clear cvs
                    go_wp2
                    go_roundw
                    case measure => simp [intOf]; omega
                    case rel => exact ⟨i + 1, by omega, by go_num, HE4, HN4, by rw [HTA.out, HSU.out, PICK]; exact HTB4⟩
                  · have hpz : ¬ (kp : Int) ≤ (kq : Int) + 1 := by omega
                    have PICK : pick (some p) (some q) x = some (q ++ [x]) := by
                      show (if p.length ≤ q.length + 1 then some p else some (q ++ [x])) = _
                      rw [if_neg (by rw [HKP.out, HKQ.out]; exact hpq)]
                    refine fw17_more_wp (g := g) (T := T) (s := s) (bq := b1) (offq := o1) (kq := kq) (c1 := c1) (bp := b2) (offp := o2) (kp := kp) (c2 := c2') rfl rfl rfl rfl hsz cvs (by omega) hpz ?_
                    simp only [puts, List.foldl_cons, List.foldl_nil, Act.put, List.setIfInBounds_toArray, List.set_cons_succ, List.set_cons_zero]
                    clear cvs
                    go_upto_region 18 with fail
                    refine fw18_wp (g := g) (T := T) (s := s) (b1 := b1) (o1 := o1) (k := kq) (c := c1) (pf := wr.heap.size) (q := q) (x := x) rfl rfl rfl rfl rfl HSL.out HX0.out HX1.out HKQ.out.symm (by omega) HQ.out ?_
                    intro W6 v10 v11 e6 _ h11
                    have hne : q ++ [x] ≠ [] := by simp
                    have hra := rowsAt_own h11 hne
                    obtain ⟨A9, c9, hv9⟩ := owns_len h11
                    subst hv9
                    have hT6 := HTB4.out.ext e6
                    obtain ⟨u6, cu6, _⟩ := hT6.get hsl
                    have hf6 : W6.frozen? ⟨g, s, none⟩ = false := by obtain ⟨C, h1, _⟩ := hT6; simp [World.frozen?, h1]
                    simp only [puts, List.foldl_cons, List.foldl_nil, Act.put, List.setIfInBounds_toArray, List.set_cons_succ, List.set_cons_zero]
                    refine fw18_tail (g := g) (T := T) (s := s) (A := A9) (n := (q ++ [x]).length) (c := c9) rfl rfl rfl hsl (by simp) (by rw [cu6]; rfl) hf6 ?_
                    simp only [Act.put, List.setIfInBounds_toArray, List.set_cons_succ, List.set_cons_zero]
                    have H6 := Lib.hid (And.intro e6 (And.intro hra hT6))
                    clear hra hT6 cu6 hf6 h11 e6 hne
                    go_wp2
                    go_roundw
                    case measure => simp [intOf]; omega
                    case rel =>
                      have hee := HE4.out.trans H6.out.1
                      refine ⟨i + 1, by omega, by go_num, Lib.hid (hee.setCell (p := ⟨g, s, none⟩) (by show w1.heap.size ≤ g; omega) _), Lib.hid ((HN4.out.ext H6.out.1).other (Nat.ne_of_lt hsg)), Lib.hid ?_⟩
                      rw [HTA.out, HSU.out, PICK]
                      refine H6.out.2.2.put hsl _ ?_ (fun r _ hr => ?_)
                      · unfold expOf
                        rw [if_pos rfl]
                        show RowsAt W6 (q ++ [x]) _
                        have h7 := H6.out.2.1
                        rw [List.length_append] at h7
                        exact h7
                      · unfold expOf
                        rw [if_neg hr, if_neg hr]
            · have hiz : ¬ (i : Int) < (k : Int) := by omega
              obtain rfl : i = k := by omega
              have hT5 := hTb.out
              rw [List.take_of_length_le (by have := HM.out; omega)] at hT5
              have HT5 := Lib.hid (hT5.congr (E' := expOf (tabTo (noOf cs ms) xs (s + 1)) (s + 1) (tabInit (s + 1))) fun t _ => (expOf_next (noOf cs ms) xs s t).symm)
              clear hT5
              go_wp2
              go_roundw
              case measure => simp [intOf]; omega
              case rel => exact ⟨s + 1, by omega, by go_num, hE, hN, HT5⟩
        · have hsz : ¬ (s : Int) < (T : Int) := by omega
          obtain rfl : s = T := by omega
          go_wp2
          go_ret
          refine ⟨HE1.out.trans hE.out, g, ?_, by have := HE1.out.size; omega, ?_⟩
          · rw [HTE.out]
            rfl
          · rw [HTE.out]
            refine hTb.out.congr fun t ht => ?_
            unfold expOf
            rw [if_neg (by omega)]
            rfl
end Go.Proofs.Ytlaakmgdbhabfaa

/- kind. -/
namespace Go.Proofs.Ytlaakmgdbhabfaa
open Go.RowKit Go.Shelf Go.Maps
attribute [local irreducible] bitCells fitCells Z94 fitOf

/-- All cells are as they were. -/
def CellsKept (W W' : World) : Prop := ∀ (b : Nat) (cs : Array Value) (t : TypeId) (fr : Nat × Nat), W.heap[b]? = some (Obj.cells cs t fr) → W'.heap[b]? = some (Obj.cells cs t fr)
theorem kept_cell {W W' : World} (hk : CellsKept W W') {ad : Addr} {v : Value} (h : W.cell? ad = some v) : W'.cell? ad = some v := by
  simp only [World.cell?] at h ⊢
  cases h7 : W.heap[ad.block]? with
  | none => rw [h7] at h; simp at h
  | some o =>
    cases o with
    | cells cs t fr => rw [h7] at h; rw [hk _ _ _ _ h7]; exact h
    | _ => rw [h7] at h; simp at h
theorem held_kept {α : Type} {W W' : World} {B k : Nat} {enc : α → List Value} {A : Option Addr} {xs : List α} (h : Held W B k enc A xs) (hk : CellsKept W W') : Held W' B k enc A xs := by
  rcases h with h | ⟨b, off, rfl, hlt, hc⟩
  · exact .inl h
  · exact .inr ⟨b, off, rfl, hlt, fun j x hx i v hv => kept_cell hk (hc j x hx i v hv)⟩
theorem IsOpen.turn {W W' : World} {b : Nat} {A : Option Addr} {n c : Nat} {A' : Option Addr} {n' c' : Nat} {A2 : Option Addr} {k c2 : Nat} {cs ms : List (Int × Int)} (h : IsOpen W b A n c A' n' c' A2 k c2 cs ms) (hz : W.heap.size ≤ W'.heap.size) (hk : CellsKept W W') : IsOpen W' b A n c A' n' c' A2 k c2 cs ms :=
  ⟨hk _ _ _ _ h.row, ⟨h.sheet.ncs, h.sheet.nms, h.sheet.nle, h.sheet.nle', h.sheet.cap, h.sheet.cap', (held_kept h.sheet.hcs hk).wider hz, (held_kept h.sheet.hms hk).wider hz⟩, (held_kept h.fits hk).wider hz, h.len, h.cap⟩
theorem kept_map {W W' : World} {bm : Nat} {ys : List Nat} (h : Alike W bm ys) (hg : W.grownBy W' (some bm)) : CellsKept W W' := fun b cs t fr hb => by
  refine (hg.block b (Array.getElem?_eq_some_iff.1 hb).1 (fun e => ?_)).trans hb
  obtain ⟨n, D, _, ⟨es, clock, hm, _⟩, _⟩ := h
  rw [Option.some.inj e, hm] at hb
  cases hb
def lenOf (o : Option (List Rw)) : Nat := match o with | none => 0 | some r => r.length
theorem CellIs.len {W : World} {o : Option (List Rw)} {v : Value} (h : CellIs W o v) : ∃ A c, v = .slice A (lenOf o) c := by
  cases o with
  | none => exact ⟨_, _, h⟩
  | some r => obtain ⟨b, off, c, cells, h1, _⟩ := h; exact ⟨_, _, h1⟩
/-- The table of a choice. -/
def tabOf (cs ms : List (Int × Int)) (ys : List Nat) (s : Nat) : Option (List Rw) := (tabTo (noOf cs ms) (leftOf cs ms ys (fitsOf cs ms)) (2 ^ ms.length)).getD s none
/-- The kind of a row that fits. -/
def kindOf (cs ms : List (Int × Int)) (ys : List Nat) (x : Rw) : Int :=
  if lenOf (tabOf cs ms ys (2 ^ ms.length - 1)) < 1 + lenOf (tabOf cs ms ys (butNot (2 ^ ms.length - 1) (noOf cs ms x))) then 0
  else if lenOf (tabOf cs ms (ys.erase (noOf cs ms x)) (2 ^ ms.length - 1)) = lenOf (tabOf cs ms ys (2 ^ ms.length - 1)) then 1 else 2
theorem tabOf_le {cs ms : List (Int × Int)} {ys : List Nat} {s : Nat} : lenOf (tabOf cs ms ys s) ≤ s := by
  cases h : tabOf cs ms ys s with
  | none => exact Nat.zero_le _
  | some r => exact tabTo_le _ _ _ _ _ h

set_option maxRecDepth 100000 in
set_option maxHeartbeats 4000000 in
theorem kind_any {w : World} {pc b bm : Nat} {ys : List Nat} {A : Option Addr} {n c : Nat} {A' : Option Addr} {n' c' : Nat} {A2 : Option Addr} {k2 c2 : Nat} {cs ms : List (Int × Int)} (hC : ChoiceAt w pc b bm ys) (hO : IsOpen w b A n c A' n' c' A2 k2 c2 cs ms) (h0 : sheetErr cs ms = 0) (x : Rw) (hx : noOf cs ms x ∈ ys) :
    Calls Try.prog 71 #[.pointer (some ⟨pc, 0, none⟩), .agg (fitOf cs ms x)] w fun e w' => e = .returned (.int .i64 (kindOf cs ms ys x)) ∧ w.grownBy w' (some bm) := by
  have hn12 : n' ≤ 12 := by have := (sheet_ok h0).1; have := hO.sheet.nms; omega
  have hnm := hO.sheet.nms
  have hT4 : 2 ^ n' ≤ 4096 := (Nat.pow_le_pow_right (by decide) hn12 : 2 ^ n' ≤ 2 ^ 12)
  have hT1 : 1 ≤ 2 ^ n' := Nat.one_le_two_pow
  have hs := fitOf_size cs ms x
  have hfe : fitOf cs ms x = fitCells x.1 x.2 (hadB cs ms x.1 x.2) := by unfold fitOf; rfl
  have e0 : Ext w (w.alloc (.cells (fitOf cs ms x) 94)) := ext_alloc _ _
  have hrf : (w.alloc (.cells (fitOf cs ms x) 94)).heap[w.heap.size]? = some (.cells (fitOf cs ms x) 94 (0, 0)) := row_last _ _ _ rfl
  have hfew := fewest_any (hC.ext e0) (hO.ext e0) h0
  have hlv := fun (W : World) (e : Ext (w.alloc (.cells (fitOf cs ms x) 94)) W) => leave_any ((hC.ext e0).ext e) x hx
  have hfew2 := fun (W : World) (h1 : ChoiceAt W pc b bm (ys.erase (noOf cs ms x))) (h2 : IsOpen W b A n c A' n' c' A2 k2 c2 cs ms) => fewest_any h1 h2 h0
  have htab : ∀ zs, (fun s => (tabTo (noOf cs ms) (leftOf cs ms zs (fitsOf cs ms)) (2 ^ n')).getD s none) = tabOf cs ms zs := fun zs => by funext s; rw [hnm]; rfl
  rw [htab] at hfew
  simp only [htab] at hfew2
  obtain ⟨ANS, hANS⟩ : ∃ ANS, kindOf cs ms ys x = ANS := ⟨_, rfl⟩
  rw [hANS]
  unfold kindOf at hANS
  rw [← hnm] at hANS
  obtain ⟨T, hT⟩ : ∃ T, 2 ^ n' = T := ⟨_, rfl⟩
  rw [hT] at hfew hfew2 hT4 hT1 hANS
  have HF2 := Lib.hid hfew2
  have HLV := Lib.hid hlv
  have HC := Lib.hid hC
  have HO := Lib.hid hO
  have HE0 := Lib.hid e0
  obtain ⟨f, hf⟩ : ∃ f, fitOf cs ms x = f := ⟨_, rfl⟩
  rw [hf] at hs hfe hrf HLV HE0 hfew ⊢
  have hno4 : noOf cs ms x < 4096 := setNo_lt _
  have HFE := Lib.hid hfe
  obtain ⟨U, rfl⟩ : ∃ U, T = U + 1 := ⟨T - 1, by omega⟩
  rw [Nat.add_sub_cancel] at hANS
  have HANS := Lib.hid hANS
  clear hfe hANS hfew2 hlv hC hO e0 hT htab hnm hf
  go_enter Try.func71, Try.ntmps71
  go_wp2_with (first | refine wpList_box94 (.tmp 1) rfl rfl f rfl ?_)
  refine hfew.mono ?_
  rintro e w1 ⟨e1, g, rfl, hg, hTab⟩
  obtain ⟨va, ca, hva⟩ := hTab.get (s := U) (by omega)
  obtain ⟨Aa, cca, rfl⟩ := hva.len
  obtain ⟨l1, hl1⟩ : ∃ l1, lenOf (tabOf cs ms ys U) = l1 := ⟨_, rfl⟩
  have hl1U : l1 ≤ U := by rw [← hl1]; exact tabOf_le
  rw [hl1] at ca
  have HL1 := Lib.hid hl1
  have HT := Lib.hid hTab
  have HE1 := Lib.hid e1
  have hrf1 := row_ext hrf e1
  have hld : ∀ j u, (bitCells (hadB cs ms x.1 x.2)).toList[j]? = some u → w1.cell? ((⟨w.heap.size, 2, none⟩ : Addr).add j) = some u := fun j u hj => by
    rw [Addr.add_lit]
    refine (cell_of_row _ _ _ _ _ _ hrf1).trans ?_
    have hj12 : j < 12 := by have := (List.getElem?_eq_some_iff.1 hj).1; rw [Array.length_toList, bitCells_size] at this; exact this
    rw [Array.getElem?_toList, bitCells_get _ j hj12] at hj
    rw [HFE.out, fitCells_mark _ _ _ j hj12]
    exact hj
  have hset := set_any (hadB cs ms x.1 x.2) w1
  have hbs := bitCells_size (hadB cs ms x.1 x.2)
  have hno : noOf cs ms x = setNo (hadB cs ms x.1 x.2) := rfl
  rw [← hno] at hset
  obtain ⟨bc, hbc⟩ : ∃ bc, bitCells (hadB cs ms x.1 x.2) = bc := ⟨_, rfl⟩
  rw [hbc] at hld hset hbs
  have HRF1 := Lib.hid hrf1
  obtain ⟨no, hnoe⟩ : ∃ no, noOf cs ms x = no := ⟨_, rfl⟩
  rw [hnoe] at hset hno4
  have HNO := Lib.hid hnoe
  have hbn := bits_andNot U no (by omega) (by omega)
  have hbl := butNot_le U no
  obtain ⟨t, ht⟩ : ∃ t, butNot U no = t := ⟨_, rfl⟩
  rw [ht] at hbn hbl
  have HTT := Lib.hid ht
  clear hTab hl1 e1 hfew hno hbc hnoe ht hva hrf1
  go_wp2_with (first | refine wpList_load92_at (.tmp 20) rfl rfl ⟨w.heap.size, 2, none⟩ rfl bc hbs hld ?_)
  refine hset.mono ?_
  rintro e w5 ⟨rfl, e5⟩
  obtain ⟨vt, ct, hvt⟩ := (HT.out.ext e5).get (s := t) (by omega)
  obtain ⟨At, cct, rfl⟩ := hvt.len
  obtain ⟨l2, hl2⟩ : ∃ l2, lenOf (tabOf cs ms ys t) = l2 := ⟨_, rfl⟩
  have hl2U : l2 ≤ t := by rw [← hl2]; exact tabOf_le
  rw [hl2] at ct
  have HE5 := Lib.hid e5
  have hans := HANS.out
  rw [HL1.out, HNO.out, HTT.out, hl2] at hans
  have htz : (t : Int) < (U : Int) + 1 := by omega
  clear hl2 hset hld e5 hvt ca
  by_cases hlt : l1 < 1 + l2
  · have hlz : (l1 : Int) < 1 + (l2 : Int) := by omega
    rw [if_pos hlt] at hans
    subst hans
    have HEX := Lib.hid (HE0.out.trans (HE1.out.trans HE5.out))
    go_wp2
    go_ret
    exact ⟨rfl, HEX.out.os, HEX.out.tape, HEX.out.output, HEX.out.size, fun i hi _ => HEX.out.block i hi⟩
  · have hlz : ¬ (l1 : Int) < 1 + (l2 : Int) := by omega
    rw [if_neg hlt] at hans
    have HAN := Lib.hid hans
    have hrf5 := row_ext HRF1.out HE5.out
    have hcf : ∀ j u, f.toList[j]? = some u → w5.cell? ((⟨w.heap.size, 0, none⟩ : Addr).add j) = some u := fun j u hj => by
      rw [Addr.add_lit]
      refine (cell_of_row _ _ _ _ _ _ hrf5).trans ?_
      rw [Array.getElem?_toList] at hj
      simpa using hj
    have hlv := HLV.out w5 (HE1.out.trans HE5.out)
    have HRF5 := Lib.hid hrf5
    clear hans hlt hrf5
    go_wp2_with (first | refine wpList_load94 (.tmp 3) rfl rfl _ rfl f hs hcf ?_)
    refine hlv.mono ?_
    rintro e w6 ⟨⟨v6, rfl⟩, hg6, hal⟩
    have hw5 : Ext w w5 := HE0.out.trans (HE1.out.trans HE5.out)
    have hC5 := HC.out.ext hw5
    have hk6 : CellsKept w5 w6 := kept_map hC5.map hg6
    have hC6 : ChoiceAt w6 pc b bm (ys.erase (noOf cs ms x)) := ⟨hk6 _ _ _ _ hC5.row, hal⟩
    have hO6 := (HO.out.ext hw5).turn hg6.size hk6
    have hfew2 := HF2.out w6 hC6 hO6
    have HGR := Lib.hid (And.intro hw5 hg6)
    clear hlv hcf hC5 hC6 hO6 hk6 hw5 hg6 hal
    go_wp2_with fail
    refine hfew2.mono ?_
    rintro e w7 ⟨e7, g7, rfl, hg7, hT7⟩
    obtain ⟨v7, c7, hv7⟩ := hT7.get (s := U) (by omega)
    obtain ⟨A7, cc7, rfl⟩ := hv7.len
    obtain ⟨l3, hl3⟩ : ∃ l3, lenOf (tabOf cs ms (ys.erase (noOf cs ms x)) U) = l3 := ⟨_, rfl⟩
    have hl3U : l3 ≤ U := by rw [← hl3]; exact tabOf_le
    rw [hl3] at c7
    have hans := HAN.out
    have hl3' := hl3
    rw [HNO.out] at hl3'
    rw [hl3'] at hans
    have HE7 := Lib.hid e7
    have hfin : w.grownBy w7 (some bm) := by
      obtain ⟨hw5, hg6⟩ := HGR.out
      exact ⟨e7.os.trans (hg6.os.trans hw5.os), e7.tape.trans (hg6.tape.trans hw5.tape), e7.output.trans (hg6.output.trans hw5.output), Nat.le_trans hw5.size (Nat.le_trans hg6.size e7.size),
        fun i hi hne => (e7.block i (Nat.lt_of_lt_of_le hi (Nat.le_trans hw5.size hg6.size))).trans ((hg6.block i (Nat.lt_of_lt_of_le hi hw5.size) hne).trans (hw5.block i hi))⟩
    have HFIN := Lib.hid hfin
    clear hl3 hl3' hfew2 e7 hv7 hT7 hfin
    by_cases h31 : l3 = l1
    · rw [if_pos h31] at hans
      subst hans h31
      have hz3 : ((l3 : Int) != (l3 : Int)) = false := by simp
      go_wp2
      go_ret
      exact ⟨rfl, HFIN.out⟩
    · rw [if_neg h31] at hans
      subst hans
      have hz3 : ((l3 : Int) != (l1 : Int)) = true := by simp; omega
      have hz4 : ((l3 : Int) == (l1 : Int)) = false := by simp; omega
      go_wp2
      go_ret
      exact ⟨rfl, HFIN.out⟩
end Go.Proofs.Ytlaakmgdbhabfaa

/- Kind: its last region, and the function. -/
namespace Go.Proofs.Ytlaakmgdbhabfaa
open Go.RowKit Go.Shelf
attribute [local irreducible] bitCells fitCells Z94 fitOf


/-- The slots of region 11 of function 32. -/
def kd11D (i : Nat) : Tmp := if i = 0 then 39 else if i = 1 then 40 else if i = 2 then 41 else if i = 3 then 42 else 43
/-- What each operation yields. -/
def kd11S (b B gf nf cf : Nat) (f : Array Value) (ys : List Nat) (ix : Nat) (v : Value) (W : World) : Prop :=
  match ix with
  | 0 => v = .pointer (some ⟨b, 0, none⟩)
  | 1 => ∃ pc bm, v = .pointer (some ⟨pc, 0, none⟩) ∧ B ≤ bm ∧ ChoiceAt W pc b bm ys
  | 2 => v = .slice (some ⟨gf, 0, none⟩) nf cf
  | 3 => v = .pointer (some ⟨gf, 0, none⟩)
  | 4 => v = .agg f
  | _ => True
noncomputable def kd11Reg : Array Oper := (Try.f32.body.bind (regionOf · 11)).getD #[]
theorem kd11S_ext {b B gf nf cf : Nat} {f : Array Value} {ys : List Nat} : ∀ (i : Nat) (v : Value) (W W' : World), kd11S b B gf nf cf f ys i v W → Below W.heap.size W W' → kd11S b B gf nf cf f ys i v W' := by
  intro i v W W' h e
  match i with
  | 0 => exact h
  | 1 => (obtain ⟨pc, bm, h1, h2, h3⟩ := h; exact ⟨pc, bm, h1, h2, h3.ext e⟩)
  | 2 => exact h
  | 3 => exact h
  | 4 => exact h
  | k + 5 => exact trivial
def kd11Ok (b B gf nf cf : Nat) (f : Array Value) (ys : List Nat) (Q : Exit → Act → World → Prop) (a : Act) (W : World) (ix : Nat) (o : Oper) : Prop :=
  (∀ j b, o.guard = some (j, b) → a.eval (.tmp (kd11D j)) = .bool b) ∧ o.wp Try.prog a W (fun a'' W' => ∃ v, a'' = a.put o.dst v ∧ kd11S b B gf nf cf f ys ix v W' ∧ Below W.heap.size W W') Q
section
variable {b B gf nf cf : Nat} {f : Array Value} {ys : List Nat} {Q : Exit → Act → World → Prop} {a : Act} {V W : World} {o : Oper}
set_option maxHeartbeats 1000000 in
theorem kd11_op0 (o6 : a.eval (.tmp 6) = .pointer (some ⟨b, 0, none⟩)) (ho : kd11Reg[0]? = some o) : kd11Ok b B gf nf cf f ys Q a W 0 o := by
  have hop := op_at ho (·.op) (x := Op.move (Operand.tmp 6)) (by kernel_rfl)
  have hgd := op_at ho (·.guard) (x := none) (by kernel_rfl)
  refine ⟨fun j b h => (by rw [hgd] at h; cases h), ?_⟩
  exact specs_value (R := fun v W => kd11S b B gf nf cf f ys 0 v W) (v := .pointer (some ⟨b, 0, none⟩)) (by simp [execOp, hop, go_sem, ev o6]) rfl (Ext.refl W)
set_option maxHeartbeats 1000000 in
theorem kd11_op1 (hch : ∀ W, Ext V W → Calls Try.prog 70 #[.pointer (some ⟨b, 0, none⟩)] W fun e w' => Ext W w' ∧ ∃ pc bm, e = .returned (.pointer (some ⟨pc, 0, none⟩)) ∧ B ≤ bm ∧ ChoiceAt w' pc b bm ys) (hB : Ext V W) (haft : ∀ j, (o.after.any fun e => decide (e.on = j) && Region.binds .any e) = true → kd11S b B gf nf cf f ys j (a.eval (.tmp (kd11D j))) W) (ho : kd11Reg[1]? = some o) : kd11Ok b B gf nf cf f ys Q a W 1 o := by
  have hop := op_at ho (·.op) (x := Op.call { callee := Callee.value (Operand.func 70), args := #[Operand.tmp 39], argTypes := #[83] }) (by kernel_rfl)
  have hgd := op_at ho (·.guard) (x := none) (by kernel_rfl)
  have e0 : a.eval (.tmp 39) = .pointer (some ⟨b, 0, none⟩) := haft 0 (op_at ho (fun o => o.after.any fun e => decide (e.on = 0) && Region.binds .any e) (x := true) (by kernel_rfl))
  refine ⟨fun j b h => (by rw [hgd] at h; cases h), ?_⟩
  refine specs_call (R := fun v W => kd11S b B gf nf cf f ys 1 v W) (f := 70) (args := #[.pointer (some ⟨b, 0, none⟩)]) (by simp [execOp, hop, go_sem, ev e0]) ((hch W hB).mono ?_)
  rintro e w' ⟨h1, pc, bm, rfl, h2, h3⟩
  exact ⟨_, rfl, ⟨pc, bm, rfl, h2, h3⟩, h1⟩
set_option maxHeartbeats 1000000 in
theorem kd11_op2 (o8 : a.eval (.tmp 8) = .slice (some ⟨gf, 0, none⟩) nf cf) (ho : kd11Reg[2]? = some o) : kd11Ok b B gf nf cf f ys Q a W 2 o := by
  have hop := op_at ho (·.op) (x := Op.move (Operand.tmp 8)) (by kernel_rfl)
  have hgd := op_at ho (·.guard) (x := none) (by kernel_rfl)
  refine ⟨fun j b h => (by rw [hgd] at h; cases h), ?_⟩
  exact specs_value (R := fun v W => kd11S b B gf nf cf f ys 2 v W) (v := .slice (some ⟨gf, 0, none⟩) nf cf) (by simp [execOp, hop, go_sem, ev o8]) rfl (Ext.refl W)
set_option maxHeartbeats 1000000 in
theorem kd11_op3 (hnf : 0 < nf) (haft : ∀ j, (o.after.any fun e => decide (e.on = j) && Region.binds .any e) = true → kd11S b B gf nf cf f ys j (a.eval (.tmp (kd11D j))) W) (ho : kd11Reg[3]? = some o) : kd11Ok b B gf nf cf f ys Q a W 3 o := by
  have hop := op_at ho (·.op) (x := Op.indexAddr 87 (Operand.tmp 41) (Operand.const (Value.int IntKind.i64 0))) (by kernel_rfl)
  have hgd := op_at ho (·.guard) (x := none) (by kernel_rfl)
  have e2 : a.eval (.tmp 41) = .slice (some ⟨gf, 0, none⟩) nf cf := haft 2 (op_at ho (fun o => o.after.any fun e => decide (e.on = 2) && Region.binds .any e) (x := true) (by kernel_rfl))
  refine ⟨fun j b h => (by rw [hgd] at h; cases h), ?_⟩
  have hnz : (0 : Int) < (nf : Int) := by omega
  exact specs_value (R := fun v W => kd11S b B gf nf cf f ys 3 v W) (v := .pointer (some ⟨gf, 0, none⟩)) (by simp [execOp, hop, go_sem, ev e2, hnf]) rfl (Ext.refl W)
set_option maxHeartbeats 1000000 in
theorem kd11_op4 (hld : ∀ W, Ext V W → (loadVar 94 ⟨gf, 0, none⟩).run Try.prog W = .ok (.agg f) W) (hB : Ext V W) (haft : ∀ j, (o.after.any fun e => decide (e.on = j) && Region.binds .any e) = true → kd11S b B gf nf cf f ys j (a.eval (.tmp (kd11D j))) W) (ho : kd11Reg[4]? = some o) : kd11Ok b B gf nf cf f ys Q a W 4 o := by
  have hop := op_at ho (·.op) (x := Op.load 94 (Operand.tmp 42)) (by kernel_rfl)
  have hgd := op_at ho (·.guard) (x := none) (by kernel_rfl)
  have e3 : a.eval (.tmp 42) = .pointer (some ⟨gf, 0, none⟩) := haft 3 (op_at ho (fun o => o.after.any fun e => decide (e.on = 3) && Region.binds .any e) (x := true) (by kernel_rfl))
  refine ⟨fun j b h => (by rw [hgd] at h; cases h), ?_⟩
  have hld' := hld W hB
  exact specs_value (R := fun v W => kd11S b B gf nf cf f ys 4 v W) (v := .agg f) (by simp [execOp, hop, e3, Instr.loadAt, Instr.sureAddr, hld', Result.andThen]) rfl (Ext.refl W)
set_option maxRecDepth 100000 in
set_option maxHeartbeats 4000000 in
/-- Region 11 of function 32. -/
theorem kd11_wp {id : Nat} (hlen : a.tmps.size = 45) (o6 : a.eval (.tmp 6) = .pointer (some ⟨b, 0, none⟩)) (o8 : a.eval (.tmp 8) = .slice (some ⟨gf, 0, none⟩) nf cf) (hch : ∀ W, Ext V W → Calls Try.prog 70 #[.pointer (some ⟨b, 0, none⟩)] W fun e w' => Ext W w' ∧ ∃ pc bm, e = .returned (.pointer (some ⟨pc, 0, none⟩)) ∧ B ≤ bm ∧ ChoiceAt w' pc b bm ys) (hnf : 0 < nf) (hld : ∀ W, Ext V W → (loadVar 94 ⟨gf, 0, none⟩).run Try.prog W = .ok (.agg f) W) (K : (∀ W v1, Ext V W → kd11S b B gf nf cf f ys 1 v1 W → wpList Try.prog kd11Reg Q (kd11Reg.toList.drop 5) (puts a [(39, .pointer (some ⟨b, 0, none⟩)), (40, v1), (41, .slice (some ⟨gf, 0, none⟩) nf cf), (42, .pointer (some ⟨gf, 0, none⟩)), (43, .agg f)]) W)) : (Code.region id kd11Reg true).wp Try.prog Q a V := by
  refine wp_region_specs_sink (ops := kd11Reg) 5 (kd11S b B gf nf cf f ys) (Ext V) (by kernel_rfl) (by rw [hlen]; kernel_rfl) (by kernel_rfl) ⟨rfl, rfl, rfl, Nat.le_refl _, fun _ _ => rfl⟩ (fun _ _ h e => h.trans e) kd11S_ext kd11D (by kernel_rfl) ?_ ?_
  · intro i o hi ho a' W hB hsz hold haft
    match i, hi with
    | 0, _ => exact kd11_op0 ((hold 6 (by kernel_rfl)).trans o6) ho
    | 1, _ => exact kd11_op1 hch hB haft ho
    | 2, _ => exact kd11_op2 ((hold 8 (by kernel_rfl)).trans o8) ho
    | 3, _ => exact kd11_op3 hnf haft ho
    | 4, _ => exact kd11_op4 hld hB haft ho
    | m + 5, h => exact absurd h (by omega)
  · intro a1 W hB hsz hdf hold hS
    obtain ⟨v1, g1⟩ : ∃ v, v = a1.eval (.tmp 40) := ⟨_, rfl⟩
    have hall : ∀ z, z ∈ ([(39, .pointer (some ⟨b, 0, none⟩)), (40, v1), (41, .slice (some ⟨gf, 0, none⟩) nf cf), (42, .pointer (some ⟨gf, 0, none⟩)), (43, .agg f)] : List (Tmp × Value)) → z.1 < a.tmps.size ∧ a1.eval (.tmp z.1) = z.2 := by
      intro z hz
      rw [hlen]
      simp only [List.mem_cons, List.not_mem_nil, or_false] at hz
      rcases hz with rfl | rfl | rfl | rfl | rfl
      · exact ⟨(show (39 : Nat) < 45 by omega), hS 0 (by omega)⟩
      · exact ⟨(show (40 : Nat) < 45 by omega), g1.symm⟩
      · exact ⟨(show (41 : Nat) < 45 by omega), hS 2 (by omega)⟩
      · exact ⟨(show (42 : Nat) < 45 by omega), hS 3 (by omega)⟩
      · exact ⟨(show (43 : Nat) < 45 by omega), hS 4 (by omega)⟩
    have ha := act_puts hsz hdf hall (fun t ht => hold t (all_ne_of (l := [(39, .pointer (some ⟨b, 0, none⟩)), (40, v1), (41, .slice (some ⟨gf, 0, none⟩) nf cf), (42, .pointer (some ⟨gf, 0, none⟩)), (43, .agg f)]) (by kernel_rfl) ht))
    rw [ha]
    exact K W v1 hB (by rw [g1]; exact hS 1 (by omega))
end

theorem kd11_tail {a : Act} {W : World} {Q : Exit → Act → World → Prop} {v : Value} {f : Array Value} {r : Int} {R : World → Prop} (e40 : a.eval (.tmp 40) = v) (e43 : a.eval (.tmp 43) = .agg f) (hz : a.tmps.size = 45)
    (hc : Calls Try.prog 71 #[v, .agg f] W fun e w' => e = .returned (.int .i64 r) ∧ R w')
    (K : ∀ w', R w' → Q .normal (((a.put (some 44) (.int .i64 r)).put (some 4) (.int .i64 r)).put (some 5) (.int .i64 0)) w') : wpList Try.prog kd11Reg Q (kd11Reg.toList.drop 5) a W := by
  obtain ⟨o1, o2, o3, hdr, h1, h2, h3⟩ : ∃ o1 o2 o3, kd11Reg.toList.drop 5 = [o1, o2, o3] ∧ kd11Reg[5]? = some o1 ∧ kd11Reg[6]? = some o2 ∧ kd11Reg[7]? = some o3 := by
    have hs : kd11Reg.size = 8 := by kernel_rfl
    refine ⟨kd11Reg[5], kd11Reg[6], kd11Reg[7], ?_, by simp, by simp, by simp⟩
    rw [List.drop_eq_getElem_cons (by simp [hs]), List.drop_eq_getElem_cons (by simp [hs]), List.drop_eq_getElem_cons (by simp [hs]), List.drop_eq_nil_of_le (by simp [hs])]
    simp
  rw [hdr]
  have hop1 := op_at h1 (·.op) (x := Op.call { callee := Callee.value (Operand.func 71), args := #[Operand.tmp 40, Operand.tmp 43], argTypes := #[110, 94] }) (by kernel_rfl)
  have hg1 := op_at h1 (·.guard) (x := none) (by kernel_rfl)
  have hd1 := op_at h1 (·.dst) (x := some 44) (by kernel_rfl)
  have hop2 := op_at h2 (·.op) (x := Op.assign (Operand.tmp 44)) (by kernel_rfl)
  have hg2 := op_at h2 (·.guard) (x := none) (by kernel_rfl)
  have hd2 := op_at h2 (·.dst) (x := some 4) (by kernel_rfl)
  have hop3 := op_at h3 (·.op) (x := Op.assign (Operand.const (Value.int IntKind.i64 0))) (by kernel_rfl)
  have hg3 := op_at h3 (·.guard) (x := none) (by kernel_rfl)
  have hd3 := op_at h3 (·.dst) (x := some 5) (by kernel_rfl)
  simp only [wpList]
  rw [if_pos (wanted_free hg1)]
  left
  have hr : (execOp a.eval o1).run Try.prog W = .ok (.enter 71 #[v, .agg f]) W := by simp [execOp, hop1, go_sem, ev e40, ev e43]
  unfold Oper.wp
  rw [hr]
  refine hc.mono ?_
  rintro e w' ⟨rfl, hR⟩
  dsimp only
  obtain ⟨a1, ha1⟩ : ∃ a1, a.put o1.dst (.int .i64 r) = a1 := ⟨_, rfl⟩
  have e44 : a1.eval (.tmp 44) = .int .i64 r := by rw [← ha1, hd1]; exact evn_same (by omega)
  rw [ha1]
  have hr2 : (execOp a1.eval o2).run Try.prog w' = .ok (.value (.int .i64 r)) w' := by simp [execOp, hop2, go_sem, ev e44]
  have hr3 : ∀ a2 : Act, (execOp a2.eval o3).run Try.prog w' = .ok (.value (.int .i64 0)) w' := fun a2 => by simp [execOp, hop3, go_sem]
  rw [if_pos (wanted_free hg2)]
  left
  rw [hr2]
  show (if _ then _ else _)
  rw [if_pos (wanted_free hg3)]
  left
  rw [hr3]
  show Q .normal ((a1.put o2.dst (.int .i64 r)).put o3.dst (.int .i64 0)) w'
  rw [hd3, hd2, ← ha1, hd1]
  exact K w' hR
end Go.Proofs.Ytlaakmgdbhabfaa

/- Kind. -/
namespace Go.Proofs.Ytlaakmgdbhabfaa
open Go.RowKit Go.Shelf
attribute [local irreducible] bitCells fitCells Z94 fitOf

/-- The numbers of the marks of all rows that fit. -/
def allNos (cs ms : List (Int × Int)) : List Nat := (fitsOf cs ms).map (noOf cs ms)
/-- The kind of a row, and the error. -/
def kindAns (cs ms : List (Int × Int)) (y : Int × Int) : Int × Int :=
  if sheetErr cs ms = 0 then if strange cs.length y = true then (0, 2) else if (lostOf cs ms).length = 0 then ((fitFor cs ms y).elim 0 (kindOf cs ms (allNos cs ms)), 0) else (0, 19) else (0, sheetErr cs ms)

set_option maxRecDepth 100000 in
set_option maxHeartbeats 2000000 in
theorem kind2_any {A : Option Addr} {n c : Nat} {A' : Option Addr} {n' c' : Nat} {cs ms : List (Int × Int)} {w : World} (hb : IsSheet w w.heap.size A n c A' n' c' cs ms) (y : Int × Int) :
    Calls Try.prog 32 #[.agg #[.slice A n c, .slice A' n' c'], .agg #[.int .i64 y.1, .int .i64 y.2]] w fun e w' => e = .returned (.tuple #[.int .i64 (kindAns cs ms y).1, .int .i64 (kindAns cs ms y).2]) ∧ Ext w w' := by
  have e0 : Ext w ((w.alloc (.cells #[.slice A n c, .slice A' n' c'] 25)).alloc (.cells #[.int .i64 y.1, .int .i64 y.2] 27)) := (ext_alloc _ _).trans (ext_alloc _ _)
  have hop := opened_any (hb.ext e0)
  have hr : ((w.alloc (.cells #[.slice A n c, .slice A' n' c'] 25)).alloc (.cells #[.int .i64 y.1, .int .i64 y.2] 27)).heap[w.heap.size + 1]? = some (.cells #[.int .i64 y.1, .int .i64 y.2] 27 (0, 0)) := row_last _ _ _ (by simp)
  have HN := Lib.hid (And.intro hb.ncs hb.nms)
  have HE := Lib.hid e0
  have HR := Lib.hid hr
  obtain ⟨a1, a2, hans⟩ : ∃ a1 a2, kindAns cs ms y = (a1, a2) := ⟨_, _, rfl⟩
  rw [hans]
  have hys := hans
  unfold kindAns at hys
  rw [← hb.ncs] at hys
  have HA := Lib.hid hys
  clear hb e0 hys hans hr
  dsimp only
  go_enter Try.func32, Try.ntmps32
  go_wp2_with fail
  refine hop.mono ?_
  rintro e w1 ⟨e1, ⟨h0, rfl⟩ | ⟨h0, b, A2, k, c2, rfl, hO⟩⟩
  · have HE1 := Lib.hid (HE.out.trans e1)
    obtain ⟨r, hr⟩ : ∃ r, sheetErr cs ms = r := ⟨_, rfl⟩
    rw [hr] at h0
    rw [hr]
    have hne : (r == 0) = false := by simpa using h0
    have hne2 : (r != 0) = true := by simpa using h0
    have hra := HA.out
    rw [hr, if_neg h0] at hra
    cases hra
    clear e1 hop hr
    go_wp2
    go_ret2
    exact ⟨rfl, HE1.out⟩
  · have HE1 := Lib.hid (HE.out.trans e1)
    have hra := HA.out
    rw [if_pos h0] at hra
    have HA1 := Lib.hid hra
    have HO := Lib.hid hO
    have H0 := Lib.hid h0
    have hr1 := row_ext HR.out e1
    have p0 : w1.cell? ⟨w.heap.size + 1, 0, none⟩ = some (.int .i64 y.1) := cell_of_row _ _ _ _ _ _ hr1
    have p1 : w1.cell? ⟨w.heap.size + 1, 1, none⟩ = some (.int .i64 y.2) := cell_of_row _ _ _ _ _ _ hr1
    have e2 : Ext w1 (w1.alloc (.cells #[.int .i64 y.1, .int .i64 y.2] 27)) := ext_alloc _ _
    have hac := areCombs_any (HO.out.ext e2) (some ⟨w1.heap.size, 0, none⟩) 1 1 [y] rfl (by omega) (heldRow1 (by simp) (cell_of_row _ _ _ _ _ _ (row_last _ _ _ rfl)) (cell_of_row _ _ _ _ _ _ (row_last _ _ _ rfl)))
    have HR1 := Lib.hid hr1
    have hst : ([y].all fun x => !strange n x) = !strange n y := by simp
    rw [hst] at hac
    clear e1 hop hO h0 hra hr1 e2 hst HA
    cases hq : strange n y with
    | true =>
      rw [hq] at hac
      have hra := HA1.out
      rw [hq, if_pos rfl] at hra
      cases hra
      clear hq
      go_wp2_with fail
      refine hac.mono ?_
      rintro e w2 ⟨rfl, e2⟩
      have HE2 := Lib.hid ((HE1.out.trans (ext_alloc _ _)).trans e2)
      clear e2
      go_wp2
      go_ret2
      exact ⟨rfl, HE2.out⟩
    | false =>
      rw [hq] at hac
      have hra := HA1.out
      rw [hq, if_neg (by decide)] at hra
      have HA2 := Lib.hid hra
      clear hq hra HA1
      go_wp2_with fail
      refine hac.mono ?_
      rintro e w2 ⟨rfl, e2⟩
      have e12 := (ext_alloc w1 (.cells #[.int .i64 y.1, .int .i64 y.2] 27)).trans e2
      have HE2 := Lib.hid (HE1.out.trans e12)
      have HO2 := Lib.hid (HO.out.ext e12)
      have HR2 := Lib.hid (row_ext HR1.out e12)
      obtain ⟨q0, q1, q2⟩ := HO2.out.cells
      have hfew := fits_few H0.out
      have hkl := HO2.out.len
      have hms := missed_any HO2.out H0.out A2 k c2 (fitsOf cs ms) hkl (by omega) HO2.out.fits
      clear e2 e12 p0 p1 hac hfew hkl
      go_wp2_with fail
      refine hms.mono ?_
      rintro e w3 ⟨v, rfl, e3, hv⟩
      obtain ⟨A5, c5, hv2⟩ := owns_slice hv.1
      subst hv2
      have hll : (lostOf cs ms).length = (numsTo (noneHas cs ms (fitsOf cs ms)) n').length := by rw [HN.out.2]; rfl
      have hra := HA2.out
      rw [hll] at hra
      obtain ⟨ln, hln⟩ : ∃ ln, (numsTo (noneHas cs ms (fitsOf cs ms)) n').length = ln := ⟨_, rfl⟩
      rw [hln] at hra ⊢
      have HE3 := Lib.hid (HE2.out.trans e3)
      have HO3 := Lib.hid (HO2.out.ext e3)
      have hr3 := row_ext HR2.out e3
      clear hv hln hll hms q0 q1 q2
      by_cases hl0 : ln = 0
      · have hlz : ¬ (0 : Int) < (ln : Int) := by omega
        rw [if_pos hl0] at hra
        have HA3 := Lib.hid hra
        have p0 : w3.cell? ⟨w.heap.size + 1, 0, none⟩ = some (.int .i64 y.1) := cell_of_row _ _ _ _ _ _ hr3
        have p1 : w3.cell? ⟨w.heap.size + 1, 1, none⟩ = some (.int .i64 y.2) := cell_of_row _ _ _ _ _ _ hr3
        have e4 : Ext w3 (w3.alloc (.cells #[.int .i64 y.1, .int .i64 y.2] 27)) := ext_alloc _ _
        have hfit := fitting_any (HO3.out.ext e4) H0.out (some ⟨w3.heap.size, 0, none⟩) 1 1 [y] rfl (by omega) (heldRow1 (by simp) (cell_of_row _ _ _ _ _ _ (row_last _ _ _ rfl)) (cell_of_row _ _ _ _ _ _ (row_last _ _ _ rfl)))
        clear hr3 e4 hra hl0 e3
        go_wp2_with fail
        refine hfit.mono ?_
        rintro e w4 ⟨v, rfl, e4, hv⟩
        have HE4 := Lib.hid ((HE3.out.trans (ext_alloc _ _)).trans e4)
        have HO4 := Lib.hid ((HO3.out.ext (ext_alloc _ _)).ext e4)
        obtain ⟨A6, c6, hv2⟩ := owns_slice hv
        subst hv2
        have hra := HA3.out
        clear hfit p0 p1 e4
        cases hf : fitFor cs ms y with
        | none =>
          have hfo : fittingOf cs ms [y] = [] := by simp [fittingOf, hf]
          rw [hfo] at hv ⊢
          rw [hf] at hra
          cases hra
          clear hv hfo
          go_wp2
          go_ret2
          exact ⟨rfl, HE4.out⟩
        | some x =>
          have hfo : fittingOf cs ms [y] = [x] := by simp [fittingOf, hf]
          rw [hfo] at hv ⊢
          rw [hf] at hra
          have hxm : x ∈ fitsOf cs ms := List.mem_of_getElem? (show (fitsOf cs ms)[(fitsOf cs ms).findIdx (isRow y)]? = some x from hf)
          have hnm : noOf cs ms x ∈ allNos cs ms := List.mem_map_of_mem hxm
          obtain ⟨hfh, _⟩ := fits_held (xs := [x]) rfl hv
          obtain ⟨b5, off5, hA6, hb5, hcell⟩ := cells_held hfh (k := 0) (x := x) rfl
          have hoff : off5 = 0 := by
            rcases hv.2 with ⟨h1, _⟩ | ⟨g9, _, _, h1, _⟩
            · rw [hA6] at h1; cases h1
            · rw [hA6] at h1; cases h1; rfl
          subst hA6 hoff
          have hs := fitOf_size cs ms x
          have hk : ∀ Z pc bm, ChoiceAt Z pc b bm (allNos cs ms) → IsOpen Z b A n c A' n' c' A2 k c2 cs ms → _ := fun Z pc bm h1 h2 => kind_any h1 h2 H0.out x hnm
          have hra2 : kindOf cs ms (allNos cs ms) x = a1 ∧ (0 : Int) = a2 := by simpa using hra
          obtain ⟨hk1, hk2⟩ := hra2
          subst hk2
          rw [hk1] at hk
          obtain ⟨f, hfe⟩ : ∃ f, fitOf cs ms x = f := ⟨_, rfl⟩
          rw [hfe] at hcell hs hk
          rw [show 0 + 0 * 14 = 0 from rfl] at hcell
          have HK := Lib.hid hk
          have hlen1 : [x].length = 1 := rfl
          rw [hlen1]
          clear hfh hv hfo hf hxm hnm hk hk1 hra hfe
          go_upto_region 11 with fail
          refine kd11_wp (b := b) (B := w4.heap.size) (gf := b5) (nf := 1) (cf := c6) (f := f) (ys := allNos cs ms) rfl rfl rfl (fun Z hZ => ?_) (by omega) (fun Z hZ => run_load94 Z _ f hs fun j u hj => ?_) ?_
          · refine (choosing_any (HO4.out.ext hZ) H0.out).mono ?_
            rintro e z ⟨h1, pc, bm, h2, h3, h4, h5, h6⟩
            exact ⟨h1, pc, bm, h2, Nat.le_trans hZ.size h4, h5, h6⟩
          · have h5 := hcell j u hj
            rw [Addr.add_lit] at h5 ⊢
            exact (hZ.cell (p := ⟨b5, 0 + j, none⟩) hb5).trans h5
          · intro W5 v5 e5 h5
            obtain ⟨pc, bm, hv5, hbm, hch⟩ := h5
            subst hv5
            simp only [puts, List.foldl_cons, List.foldl_nil, Act.put, List.setIfInBounds_toArray, List.set_cons_succ, List.set_cons_zero]
            have hkc := HK.out W5 pc bm hch (HO4.out.ext e5)
            have hw5 : Ext w W5 := HE4.out.trans e5
            refine kd11_tail (v := .pointer (some ⟨pc, 0, none⟩)) (f := f) (r := a1) (R := fun w' => Ext w w') rfl rfl (by simp) (hkc.mono ?_) ?_
            · rintro e z ⟨rfl, hg⟩
              exact ⟨rfl, Below.grown hw5 hg hw5.size (fun k e => by cases e; exact Nat.le_trans HE4.out.size hbm)⟩
            · intro w6 h6
              have H6 := Lib.hid h6
              simp only [Act.put, List.setIfInBounds_toArray, List.set_cons_succ, List.set_cons_zero]
              clear hkc hw5 h6 hch e5
              go_wp2
              go_ret2
              exact ⟨rfl, H6.out⟩
      · have hlz : (0 : Int) < (ln : Int) := by omega
        rw [if_neg hl0] at hra
        cases hra
        clear hr3 hl0 e3
        go_wp2
        go_ret2
        exact ⟨rfl, HE3.out⟩
end Go.Proofs.Ytlaakmgdbhabfaa
