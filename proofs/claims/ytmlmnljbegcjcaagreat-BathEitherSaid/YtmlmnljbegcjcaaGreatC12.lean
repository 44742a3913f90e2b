/- Texts of one package, joined: Plan, MaxReg, Max, BestOf, LawSmall, RefSmall, RefDoes, RefBirths, Examples, RefBest, RefBest67, Wide, IsBathsReg, IsBaths, RefCheckBaths. -/
import Derived.Test.YtmlmnljbegcjcaaGreatC11
import Derived.ArgAppend
/- Plans: compared, made longer. -/
namespace Go.Proofs.YtmlmnljbegcjcaaGreat
open Go.RowKit Go.Shelf
attribute [local irreducible] bitCells

set_option maxHeartbeats 400000 in
theorem isNaN_any (x : Int) (w : World) : Calls Tryz.prog 137 #[.int .i64 x] w fun e w' => e = .returned (.bool false) ∧ w' = w := by
  go_enter Tryz.func137, Tryz.ntmps137
  go_wp2
  go_ret
  exact ⟨by simp, rfl⟩
def cmpI (p q : Int) : Int := if p < q then -1 else if q < p then 1 else 0
set_option maxHeartbeats 1000000 in
theorem compare_any (p q : Int) (w : World) : Calls Tryz.prog 128 #[.int .i64 p, .int .i64 q] w fun e w' => e = .returned (.int .i64 (cmpI p q)) ∧ w' = w := by
  by_cases h1 : p < q
  · rw [show cmpI p q = -1 from by simp [cmpI, h1]]
    go_enter Tryz.func128, Tryz.ntmps128
    go_wp2_with (refine (isNaN_any _ _).mono ?_; rintro e w' ⟨rfl, rfl⟩)
    go_ret
    exact ⟨rfl, rfl⟩
  · by_cases h2 : q < p
    · rw [show cmpI p q = 1 from by simp [cmpI, h1, h2]]
      go_enter Tryz.func128, Tryz.ntmps128
      go_wp2_with (refine (isNaN_any _ _).mono ?_; rintro e w' ⟨rfl, rfl⟩)
      go_ret
      exact ⟨rfl, rfl⟩
    · rw [show cmpI p q = 0 from by simp [cmpI, h1, h2]]
      go_enter Tryz.func128, Tryz.ntmps128
      go_wp2_with (refine (isNaN_any _ _).mono ?_; rintro e w' ⟨rfl, rfl⟩)
      go_ret
      exact ⟨rfl, rfl⟩
set_option maxHeartbeats 1000000 in
theorem cmp127_any (u v : Value) (p q : Int) (w : World) (hu : ∃ A n c, u = .slice A n c) (hv : ∃ A n c, v = .slice A n c) : Calls Tryz.prog 127 #[.agg #[u, .int .i64 p], .agg #[v, .int .i64 q]] w fun e w' => e = .returned (.int .i64 (cmpI p q)) ∧ Ext w w' := by
  obtain ⟨A, n, c, rfl⟩ := hu
  obtain ⟨A', n', c', rfl⟩ := hv
  have h := fun W => compare_any p q W
  go_enter Tryz.func127, Tryz.ntmps127
  go_wp2_with (refine (h _).mono ?_; rintro e w' ⟨rfl, rfl⟩)
  go_ret
  exact ⟨rfl, (ext_alloc _ _).trans (ext_alloc _ _)⟩
/-- The births of a plan. -/
def PlanV (W : World) (v : Value) (bs : List Int) : Prop := (v = .slice none 0 0 ∧ bs = []) ∨ ∃ b off c, v = .slice (some ⟨b, off, none⟩) bs.length c ∧ b < W.heap.size ∧ bs.length ≤ c ∧ c ≤ maxLen ∧ ∀ j x, bs[j]? = some x → W.cell? ⟨b, off + j, none⟩ = some (.int .i64 x)
theorem PlanV.ext {W W' : World} {v : Value} {bs : List Int} (h : PlanV W v bs) (e : Ext W W') : PlanV W' v bs := by
  rcases h with h | ⟨b, off, c, h1, h2, h3, h4, h5⟩
  · exact .inl h
  · exact .inr ⟨b, off, c, h1, Nat.lt_of_lt_of_le h2 e.size, h3, h4, fun j x hx => (Below.cell e (p := ⟨b, off + j, none⟩) h2).trans (h5 j x hx)⟩
theorem PlanV.slice {W : World} {v : Value} {bs : List Int} (h : PlanV W v bs) : ∃ A n c, v = .slice A n c := by
  rcases h with ⟨h, _⟩ | ⟨b, off, c, h, _⟩
  · exact ⟨_, _, _, h⟩
  · exact ⟨_, _, _, h⟩
theorem plan_own {W : World} {base n c : Nat} {A : Option Addr} {bs : List Int} (hn : n = bs.length) (h : W.ownsRow base 2 1 (.slice A n c) n (bs.map (Value.int .i64))) : PlanV W (.slice A n c) bs := by
  rcases h.2 with ⟨h0, h1⟩ | ⟨g, cap, cur, h0, _, hg, h1, h2, h3, h4⟩
  · injection h0 with e1 e2 e3
    subst e1 e2 e3
    exact .inl ⟨rfl, List.eq_nil_of_length_eq_zero hn.symm⟩
  · injection h0 with e1 _ e3
    subst e1; subst e3; subst hn
    refine .inr ⟨g, 0, c, rfl, (Array.getElem?_eq_some_iff.1 hg).1, h1, h2, fun j x hx => ?_⟩
    have hj := (List.getElem?_eq_some_iff.1 hx).1
    rw [Nat.zero_add, cell_of_row _ _ j _ _ _ hg, ← Array.getElem?_toList]
    have e := congrArg (·[j]?) h4
    simp only [List.getElem?_take, List.getElem?_map, hx, Option.map_some] at e
    rwa [if_pos (by omega)] at e
theorem own_ge {W : World} {base n c : Nat} {e : TypeId} {A : Option Addr} {xs : List Value} (h : W.ownsRow base e 1 (.slice A n c) n xs) : ∀ b off m d, (Value.slice A n c) = .slice (some ⟨b, off, none⟩) m d → base ≤ b := by
  intro b off m d e'
  rcases h.2 with ⟨h0, _⟩ | ⟨g, cap, cur, h0, hb, _⟩
  · rw [h0] at e'; cases e'
  · rw [h0] at e'
    injection e' with e1
    injection e1 with e1
    injection e1 with e1
    omega
theorem PlanV.set {W : World} {v : Value} {bs : List Int} (h : PlanV W v bs) {p o : Nat} {u : Value} (hne : ∀ b off m d, v = .slice (some ⟨b, off, none⟩) m d → b ≠ p) : PlanV (W.setCell ⟨p, o, none⟩ u) v bs := by
  rcases h with h | ⟨b, off, c, h1, h2, h3, h4, h5⟩
  · exact .inl h
  · exact .inr ⟨b, off, c, h1, by simpa using h2, h3, h4, fun j x hx => (World.cell?_of_block (a := ⟨b, off + j, none⟩) (heap_set_other _ _ _ _ _ (hne b off _ _ h1))).trans (h5 j x hx)⟩
theorem size103 : (Tryz.prog.info? 103).map (·.size) = some 2 := by kernel_rfl

set_option maxRecDepth 100000 in
set_option maxHeartbeats 4000000 in
theorem longer_any {A : Option Addr} {c : Nat} {os : List Odr} {w : World} (hb : IsBook w A c os) (v : Value) (bs : List Int) (wo : Int) (hv : PlanV w v bs) (hl : bs.length ≤ 1000) (x : Int) :
    Calls Tryz.prog 125 #[.slice A os.length c, .agg #[v, .int .i64 wo], .int .i64 x] w fun e w' => Ext w w' ∧ ∃ u, e = .returned (.agg #[u, .int .i64 (worthOf os (bs ++ [x]))]) ∧ PlanV w' u (bs ++ [x]) ∧ ∀ b off m d, u = .slice (some ⟨b, off, none⟩) m d → w.heap.size ≤ b := by
  have HB := Lib.hid hb
  have HV := Lib.hid hv
  obtain ⟨w1, hw1⟩ : ∃ w1, (w.alloc (.cells #[v, .int .i64 wo] 103)).alloc (.cells #[.slice none 0 0, .int .i64 0] 103) = w1 := ⟨_, rfl⟩
  have e1 : Ext w w1 := by rw [← hw1]; exact (ext_alloc _ _).trans (ext_alloc _ _)
  have r4 : w1.heap[w.heap.size]? = some (.cells #[v, .int .i64 wo] 103 (0, 0)) := by rw [← hw1]; exact row_alloc _ _ _ _ (row_last _ _ _ rfl)
  have r6 : w1.heap[w.heap.size + 1]? = some (.cells #[.slice none 0 0, .int .i64 0] 103 (0, 0)) := by rw [← hw1]; exact row_last _ _ _ (by simp)
  obtain ⟨i0, hi, hz0, hz1, hz2⟩ := info_parts info2
  have HI := Lib.hid (And.intro hi (And.intro hz0 (And.intro hz1 hz2)))
  clear hb hi hz0 hz1 hz2
  rcases hv with ⟨rfl, rfl⟩ | ⟨b, off, cp, rfl, hbl, hnc, hcm, hx⟩
  · go_enter Tryz.func125, Tryz.ntmps125
    go_upto_region 1 with fail
    obtain ⟨p4, hp4⟩ : ∃ p4, w.heap.size = p4 := ⟨_, rfl⟩
    have HP := Lib.hid (show w.heap.size ≤ p4 from Nat.le_of_eq hp4)
    rw [hp4] at r4 r6 ⊢
    have d0 : w1.cell? ⟨p4, 0, none⟩ = some (.slice none 0 0) := cell_of_row _ _ _ _ _ _ r4
    have HE1 := Lib.hid e1
    have HR6 := Lib.hid r6
    have hz1 : p4 + 1 < w1.heap.size := (Array.getElem?_eq_some_iff.1 r6).1
    clear hw1 hp4 e1 r4 r6
    go_wp2_with (first | (at_builtin; refine wpList_app1 rfl 16 18 36 2 rfl Tryz.underlying36 _ 1 8 info2 rfl (by decide) (by decide) w1.heap.size 0 _ _ rfl (World.ownsRow_nil _ _ _ _) w1.heap.size [.int .i64 x] rfl rfl (row_last _ _ _ rfl) (encI_one _) (by omega) (by simp) ?_; intro A9 c9 w3 hown hB3 _; have HW := Lib.hid (plan_own (bs := [x]) rfl hown); have HH := Lib.hid (own_held (enc := encI) (xs := [x]) (fun _ => rfl) rfl hown).1; have HGE := Lib.hid (own_ge hown); have he3 : Ext w1 w3 := Below.trans (ext_alloc w1 _) hB3; have HE3 := Lib.hid (HE1.out.trans he3); have HR3 := Lib.hid (row_ext HR6.out he3); have h70 := worth_any (HB.out.ext HE3.out) A9 1 c9 [x] rfl (by decide) HH.out; clear hown hB3 he3) | (refine h70.mono ?_; rintro e w4 ⟨rfl, e4⟩; have HE4 := Lib.hid (HE3.out.trans e4); have hr4 := row_ext HR3.out e4; have HR4 := Lib.hid hr4; have HW4 := Lib.hid (HW.out.ext e4); have q0 : w4.cell? ⟨p4 + 1, 0, none⟩ = some (.slice none 0 0) := cell_of_row _ _ _ _ _ _ hr4; have q1 : w4.cell? ⟨p4 + 1, 1, none⟩ = some (.int .i64 0) := cell_of_row _ _ _ _ _ _ hr4; have fz0 : w4.frozen? ⟨p4 + 1, 0, none⟩ = false := (by simp [World.frozen?, hr4]); have fz1 : w4.frozen? ⟨p4 + 1, 1, none⟩ = false := (by simp [World.frozen?, hr4]); clear e4 h70 hr4))
    have hEx : Ext w ((w4.setCell ⟨p4 + 1, 0, none⟩ (.slice A9 1 c9)).setCell ⟨p4 + 1, 1, none⟩ (.int .i64 (worthOf os [x]))) := set_kept (set_kept HE4.out (Nat.le_succ_of_le HP.out)) (Nat.le_succ_of_le HP.out)
    have hpl : PlanV ((w4.setCell ⟨p4 + 1, 0, none⟩ (.slice A9 1 c9)).setCell ⟨p4 + 1, 1, none⟩ (.int .i64 (worthOf os [x]))) (.slice A9 1 c9) [x] := (HW4.out.set fun b off m d e => by have := HGE.out b off m d e; omega).set fun b off m d e => by have := HGE.out b off m d e; omega
    refine bodyPost_ret (v := .agg #[.slice A9 1 c9, .int .i64 (worthOf os [x])]) (results_row 103 rfl _ _ (p4 + 1) _ rfl (run_loadVar_row (P := Tryz.prog) _ _ 103 103 _ (0, 0) _ (set2_row w4 (p4 + 1) _ _ _ _ 103 HR4.out) Tryz.underlying103 rfl (by rw [size103]; rfl))) rfl ⟨hEx, _, rfl, hpl, fun b off m d e => Nat.le_trans HE1.out.size (by have := HGE.out b off m d e; first | exact this | exact Nat.le_of_succ_le this)⟩
  · have HX := Lib.hid hx
    clear hx
    go_enter Tryz.func125, Tryz.ntmps125
    go_upto_region 1 with fail
    obtain ⟨p4, hp4⟩ : ∃ p4, w.heap.size = p4 := ⟨_, rfl⟩
    have HP := Lib.hid (show w.heap.size ≤ p4 from Nat.le_of_eq hp4)
    rw [hp4] at r4 r6 ⊢
    have d0 : w1.cell? ⟨p4, 0, none⟩ = some (.slice (some ⟨b, off, none⟩) bs.length cp) := cell_of_row _ _ _ _ _ _ r4
    have HE1 := Lib.hid e1
    have HR6 := Lib.hid r6
    have hz1 : p4 + 1 < w1.heap.size := (Array.getElem?_eq_some_iff.1 r6).1
    have hncz : (bs.length : Int) ≤ (cp : Int) := by omega
    clear hw1 hp4 e1 r4 r6
    go_wp2_with (first | (at_builtin; refine wpList_append_arg _ rfl (.tmp 16) (.tmp 18) 36 rfl 2 i0 (.int .i64 0) 1 8 Tryz.underlying36 HI.out.1 HI.out.2.1 HI.out.2.2.1 HI.out.2.2.2 rfl (by decide) b off bs.length bs.length (bs.map (Value.int .i64)) rfl ?lo ?olds ⟨w1.heap.size, 0, none⟩ 1 1 [.int .i64 x] rfl rfl (cell_one_new _ _ _) (encI_one _) ?spare ?b1 ?b2 ?room ?grow))
    case lo => rw [List.length_map, Nat.mul_one]
    case olds =>
      intro j u hu
      rw [List.getElem?_map, Option.map_eq_some_iff] at hu
      obtain ⟨z, hz, rfl⟩ := hu
      exact (Below.cell (HE1.out.trans (ext_alloc _ _)) (p := ⟨b, off + j, none⟩) hbl).trans (HX.out j z hz)
    case spare => intro h; omega
    case b1 => unfold maxLen; omega
    case b2 => omega
    case room => intro h; omega
    case grow =>
      intro v' w3 hown hG3
      obtain ⟨A9, c9, rfl⟩ := owns_slice hown
      rw [show bs.map (Value.int .i64) ++ [.int .i64 x] = (bs ++ [x]).map (Value.int .i64) from by simp] at hown
      have he3 : Ext w1 w3 := Ext.trans (ext_alloc w1 _) (ext_grow hG3)
      have HW := Lib.hid (plan_own (bs := bs ++ [x]) (by simp) hown)
      have HGE := Lib.hid (own_ge hown)
      have HE3 := Lib.hid (HE1.out.trans he3)
      have HR3 := Lib.hid (row_ext HR6.out he3)
      have hh := (own_held (enc := encI) (n := bs.length + 1) (xs := bs ++ [x]) (fun _ => rfl) (by simp) (by rw [flatI]; exact hown)).1
      have h70 := worth_any (HB.out.ext HE3.out) A9 (bs.length + 1) c9 (bs ++ [x]) (by simp) (by omega) hh
      have hge : w1.heap.size ≤ (w1.alloc (.cells #[.int .i64 x] 2)).heap.size := by simp
      clear hown hG3 he3 hh d0
      go_wp2_with (refine h70.mono ?_; rintro e w4 ⟨rfl, e4⟩; have HE4 := Lib.hid (HE3.out.trans e4); have hr4 := row_ext HR3.out e4; have HR4 := Lib.hid hr4; have HW4 := Lib.hid (HW.out.ext e4); have q0 : w4.cell? ⟨p4 + 1, 0, none⟩ = some (.slice none 0 0) := cell_of_row _ _ _ _ _ _ hr4; have q1 : w4.cell? ⟨p4 + 1, 1, none⟩ = some (.int .i64 0) := cell_of_row _ _ _ _ _ _ hr4; have fz0 : w4.frozen? ⟨p4 + 1, 0, none⟩ = false := (by simp [World.frozen?, hr4]); have fz1 : w4.frozen? ⟨p4 + 1, 1, none⟩ = false := (by simp [World.frozen?, hr4]); clear e4 h70 hr4)
      have hEx : Ext w ((w4.setCell ⟨p4 + 1, 0, none⟩ (.slice A9 (bs.length + 1) c9)).setCell ⟨p4 + 1, 1, none⟩ (.int .i64 (worthOf os (bs ++ [x])))) := set_kept (set_kept HE4.out (Nat.le_succ_of_le HP.out)) (Nat.le_succ_of_le HP.out)
      have hpl : PlanV ((w4.setCell ⟨p4 + 1, 0, none⟩ (.slice A9 (bs.length + 1) c9)).setCell ⟨p4 + 1, 1, none⟩ (.int .i64 (worthOf os (bs ++ [x])))) (.slice A9 (bs.length + 1) c9) (bs ++ [x]) := (HW4.out.set fun b off m d e => by have := HGE.out b off m d e; omega).set fun b off m d e => by have := HGE.out b off m d e; omega
      refine bodyPost_ret (v := .agg #[.slice A9 (bs.length + 1) c9, .int .i64 (worthOf os (bs ++ [x]))]) (results_row 103 rfl _ _ (p4 + 1) _ rfl (run_loadVar_row (P := Tryz.prog) _ _ 103 103 _ (0, 0) _ (set2_row w4 (p4 + 1) _ _ _ _ 103 HR4.out) Tryz.underlying103 rfl (by rw [size103]; rfl))) rfl ⟨hEx, _, rfl, hpl, fun b off m d e => Nat.le_trans HE1.out.size (by have := HGE.out b off m d e; first | exact this | exact Nat.le_of_succ_le this)⟩
end Go.Proofs.YtmlmnljbegcjcaaGreat

/- slices.MaxFunc's region: an element and the greatest one so far are compared. -/
namespace Go.Proofs.YtmlmnljbegcjcaaGreat
open Go.RowKit Go.Shelf

/-- The slots of region 7 of function 126. -/
def mx7D (i : Nat) : Tmp := if i = 0 then 20 else if i = 1 then 21 else if i = 2 then 22 else if i = 3 then 23 else if i = 4 then 24 else if i = 5 then 25 else 26
/-- What each operation yields. -/
def mx7S (b off nn cc ii _p5 : Nat) (uv mv : Value) (pw qw t : Int) (ix : Nat) (v : Value) (_W : World) : Prop :=
  match ix with
  | 0 => v = .func (.func 127) #[] #[]
  | 1 => v = .slice (some ⟨b, off, none⟩) nn cc
  | 2 => v = .int .i64 (ii : Int)
  | 3 => v = .pointer (some ⟨b, off + ii * 2, none⟩)
  | 4 => v = .agg #[uv, .int .i64 pw]
  | 5 => v = .agg #[mv, .int .i64 qw]
  | 6 => v = .int .i64 t
  | _ => True
noncomputable def mx7Reg : Array Oper := (Tryz.f126.body.bind (regionOf · 7)).getD #[]
theorem mx7S_ext {b off nn cc ii p5 : Nat} {uv mv : Value} {pw qw t : Int} : ∀ (i : Nat) (v : Value) (W W' : World), mx7S b off nn cc ii p5 uv mv pw qw t i v W → Below W.heap.size W W' → mx7S b off nn cc ii p5 uv mv pw qw t i v W' := by
  intro i v W W' h e
  match i with
  | 0 => exact h
  | 1 => exact h
  | 2 => exact h
  | 3 => exact h
  | 4 => exact h
  | 5 => exact h
  | 6 => exact h
  | k + 7 => exact trivial
def mx7Ok (b off nn cc ii p5 : Nat) (uv mv : Value) (pw qw t : Int) (Q : Exit → Act → World → Prop) (a : Act) (W : World) (ix : Nat) (o : Oper) : Prop :=
  (∀ j b, o.guard = some (j, b) → a.eval (.tmp (mx7D j)) = .bool b) ∧ o.wp Tryz.prog a W (fun a'' W' => ∃ v, a'' = a.put o.dst v ∧ mx7S b off nn cc ii p5 uv mv pw qw t ix v W' ∧ Below W.heap.size W W') Q
section
variable {b off nn cc ii p5 : Nat} {uv mv : Value} {pw qw t : Int} {Q : Exit → Act → World → Prop} {a : Act} {V W : World} {o : Oper}
set_option maxHeartbeats 1000000 in
theorem mx7_op0 (o1 : a.eval (.tmp 1) = .func (.func 127) #[] #[]) (ho : mx7Reg[0]? = some o) : mx7Ok b off nn cc ii p5 uv mv pw qw t Q a W 0 o := by
  have hop := op_at ho (·.op) (x := Op.move (Operand.tmp 1)) (by kernel_rfl)
  have hgd := op_at ho (·.guard) (x := none) (by kernel_rfl)
  refine ⟨fun j b h => (by rw [hgd] at h; cases h), ?_⟩
  exact specs_value (R := fun v W => mx7S b off nn cc ii p5 uv mv pw qw t 0 v W) (v := .func (.func 127) #[] #[]) (by simp [execOp, hop, go_sem, ev o1]) rfl (Ext.refl W)
set_option maxHeartbeats 1000000 in
theorem mx7_op1 (o0 : a.eval (.tmp 0) = .slice (some ⟨b, off, none⟩) nn cc) (ho : mx7Reg[1]? = some o) : mx7Ok b off nn cc ii p5 uv mv pw qw t Q a W 1 o := by
  have hop := op_at ho (·.op) (x := Op.move (Operand.tmp 0)) (by kernel_rfl)
  have hgd := op_at ho (·.guard) (x := none) (by kernel_rfl)
  refine ⟨fun j b h => (by rw [hgd] at h; cases h), ?_⟩
  exact specs_value (R := fun v W => mx7S b off nn cc ii p5 uv mv pw qw t 1 v W) (v := .slice (some ⟨b, off, none⟩) nn cc) (by simp [execOp, hop, go_sem, ev o0]) rfl (Ext.refl W)
set_option maxHeartbeats 1000000 in
theorem mx7_op2 (o6 : a.eval (.tmp 6) = .int .i64 (ii : Int)) (ho : mx7Reg[2]? = some o) : mx7Ok b off nn cc ii p5 uv mv pw qw t Q a W 2 o := by
  have hop := op_at ho (·.op) (x := Op.move (Operand.tmp 6)) (by kernel_rfl)
  have hgd := op_at ho (·.guard) (x := none) (by kernel_rfl)
  refine ⟨fun j b h => (by rw [hgd] at h; cases h), ?_⟩
  exact specs_value (R := fun v W => mx7S b off nn cc ii p5 uv mv pw qw t 2 v W) (v := .int .i64 (ii : Int)) (by simp [execOp, hop, go_sem, ev o6]) rfl (Ext.refl W)
set_option maxHeartbeats 1000000 in
theorem mx7_op3 (hlt : (ii : Int) < (nn : Int)) (haft : ∀ j, (o.after.any fun e => decide (e.on = j) && Region.binds .any e) = true → mx7S b off nn cc ii p5 uv mv pw qw t j (a.eval (.tmp (mx7D j))) W) (ho : mx7Reg[3]? = some o) : mx7Ok b off nn cc ii p5 uv mv pw qw t Q a W 3 o := by
  have hop := op_at ho (·.op) (x := Op.indexAddr 127 (Operand.tmp 21) (Operand.tmp 22)) (by kernel_rfl)
  have hgd := op_at ho (·.guard) (x := none) (by kernel_rfl)
  have e1 : a.eval (.tmp 21) = .slice (some ⟨b, off, none⟩) nn cc := haft 1 (op_at ho (fun o => o.after.any fun e => decide (e.on = 1) && Region.binds .any e) (x := true) (by kernel_rfl))
  have e2 : a.eval (.tmp 22) = .int .i64 (ii : Int) := haft 2 (op_at ho (fun o => o.after.any fun e => decide (e.on = 2) && Region.binds .any e) (x := true) (by kernel_rfl))
  refine ⟨fun j b h => (by rw [hgd] at h; cases h), ?_⟩
  exact specs_value (R := fun v W => mx7S b off nn cc ii p5 uv mv pw qw t 3 v W) (v := .pointer (some ⟨b, off + ii * 2, none⟩)) (by simp [execOp, hop, go_sem, ev e1, ev e2, hlt]) rfl (Ext.refl W)
set_option maxHeartbeats 1000000 in
theorem mx7_op4 (c0 : ∀ W, Ext V W → W.cell? ⟨b, off + ii * 2, none⟩ = some uv) (c1 : ∀ W, Ext V W → W.cell? ⟨b, off + ii * 2 + 1, none⟩ = some (.int .i64 pw)) (hB : Ext V W) (haft : ∀ j, (o.after.any fun e => decide (e.on = j) && Region.binds .any e) = true → mx7S b off nn cc ii p5 uv mv pw qw t j (a.eval (.tmp (mx7D j))) W) (ho : mx7Reg[4]? = some o) : mx7Ok b off nn cc ii p5 uv mv pw qw t Q a W 4 o := by
  have hop := op_at ho (·.op) (x := Op.load 103 (Operand.tmp 23)) (by kernel_rfl)
  have hgd := op_at ho (·.guard) (x := none) (by kernel_rfl)
  have e3 : a.eval (.tmp 23) = .pointer (some ⟨b, off + ii * 2, none⟩) := haft 3 (op_at ho (fun o => o.after.any fun e => decide (e.on = 3) && Region.binds .any e) (x := true) (by kernel_rfl))
  refine ⟨fun j b h => (by rw [hgd] at h; cases h), ?_⟩
  have c0' := c0 W hB
  have c1' := c1 W hB
  exact specs_value (R := fun v W => mx7S b off nn cc ii p5 uv mv pw qw t 4 v W) (v := .agg #[uv, .int .i64 pw]) (by simp [execOp, hop, go_sem, ev e3, c0', c1']) rfl (Ext.refl W)
set_option maxHeartbeats 1000000 in
theorem mx7_op5 (o5 : a.eval (.tmp 5) = .pointer (some ⟨p5, 0, none⟩)) (d0 : ∀ W, Ext V W → W.cell? ⟨p5, 0, none⟩ = some mv) (d1 : ∀ W, Ext V W → W.cell? ⟨p5, 1, none⟩ = some (.int .i64 qw)) (hB : Ext V W) (ho : mx7Reg[5]? = some o) : mx7Ok b off nn cc ii p5 uv mv pw qw t Q a W 5 o := by
  have hop := op_at ho (·.op) (x := Op.load 103 (Operand.tmp 5)) (by kernel_rfl)
  have hgd := op_at ho (·.guard) (x := none) (by kernel_rfl)
  refine ⟨fun j b h => (by rw [hgd] at h; cases h), ?_⟩
  have d0' := d0 W hB
  have d1' := d1 W hB
  exact specs_value (R := fun v W => mx7S b off nn cc ii p5 uv mv pw qw t 5 v W) (v := .agg #[mv, .int .i64 qw]) (by simp [execOp, hop, go_sem, ev o5, d0', d1']) rfl (Ext.refl W)
set_option maxHeartbeats 1000000 in
theorem mx7_op6 (k1 : ∀ W, Ext V W → Calls Tryz.prog 127 #[.agg #[uv, .int .i64 pw], .agg #[mv, .int .i64 qw]] W fun e w' => e = .returned (.int .i64 t) ∧ Ext W w') (eg : ∀ args w, (callFunc 127 args).run Tryz.prog w = .ok (.enter 127 args) w) (hB : Ext V W) (haft : ∀ j, (o.after.any fun e => decide (e.on = j) && Region.binds .any e) = true → mx7S b off nn cc ii p5 uv mv pw qw t j (a.eval (.tmp (mx7D j))) W) (ho : mx7Reg[6]? = some o) : mx7Ok b off nn cc ii p5 uv mv pw qw t Q a W 6 o := by
  have hop := op_at ho (·.op) (x := Op.call { callee := Callee.value (Operand.tmp 20), args := #[Operand.tmp 24, Operand.tmp 25], argTypes := #[103, 103] }) (by kernel_rfl)
  have hgd := op_at ho (·.guard) (x := none) (by kernel_rfl)
  have e0 : a.eval (.tmp 20) = .func (.func 127) #[] #[] := haft 0 (op_at ho (fun o => o.after.any fun e => decide (e.on = 0) && Region.binds .any e) (x := true) (by kernel_rfl))
  have e4 : a.eval (.tmp 24) = .agg #[uv, .int .i64 pw] := haft 4 (op_at ho (fun o => o.after.any fun e => decide (e.on = 4) && Region.binds .any e) (x := true) (by kernel_rfl))
  have e5 : a.eval (.tmp 25) = .agg #[mv, .int .i64 qw] := haft 5 (op_at ho (fun o => o.after.any fun e => decide (e.on = 5) && Region.binds .any e) (x := true) (by kernel_rfl))
  refine ⟨fun j b h => (by rw [hgd] at h; cases h), ?_⟩
  refine specs_call (R := fun v W => mx7S b off nn cc ii p5 uv mv pw qw t 6 v W) (f := 127) (args := #[.agg #[uv, .int .i64 pw], .agg #[mv, .int .i64 qw]]) (by simp [execOp, hop, go_sem, ev e0, ev e4, ev e5, eg]) ((k1 W hB).mono ?_)
  rintro e w' ⟨rfl, h3⟩
  exact ⟨_, rfl, rfl, h3⟩
set_option maxRecDepth 100000 in
set_option maxHeartbeats 4000000 in
/-- Region 7 of function 126. -/
theorem mx7_wp {id : Nat} (hlen : a.tmps.size = 33) (o0 : a.eval (.tmp 0) = .slice (some ⟨b, off, none⟩) nn cc) (o1 : a.eval (.tmp 1) = .func (.func 127) #[] #[]) (o5 : a.eval (.tmp 5) = .pointer (some ⟨p5, 0, none⟩)) (o6 : a.eval (.tmp 6) = .int .i64 (ii : Int)) (hlt : (ii : Int) < (nn : Int)) (c0 : ∀ W, Ext V W → W.cell? ⟨b, off + ii * 2, none⟩ = some uv) (c1 : ∀ W, Ext V W → W.cell? ⟨b, off + ii * 2 + 1, none⟩ = some (.int .i64 pw)) (d0 : ∀ W, Ext V W → W.cell? ⟨p5, 0, none⟩ = some mv) (d1 : ∀ W, Ext V W → W.cell? ⟨p5, 1, none⟩ = some (.int .i64 qw)) (k1 : ∀ W, Ext V W → Calls Tryz.prog 127 #[.agg #[uv, .int .i64 pw], .agg #[mv, .int .i64 qw]] W fun e w' => e = .returned (.int .i64 t) ∧ Ext W w') (eg : ∀ args w, (callFunc 127 args).run Tryz.prog w = .ok (.enter 127 args) w) (K : (∀ W, Ext V W → wpList Tryz.prog mx7Reg Q (mx7Reg.toList.drop 7) (puts a [(20, .func (.func 127) #[] #[]), (21, .slice (some ⟨b, off, none⟩) nn cc), (22, .int .i64 (ii : Int)), (23, .pointer (some ⟨b, off + ii * 2, none⟩)), (24, .agg #[uv, .int .i64 pw]), (25, .agg #[mv, .int .i64 qw]), (26, .int .i64 t)]) W)) : (Code.region id mx7Reg true).wp Tryz.prog Q a V := by
  refine wp_region_specs_sink (ops := mx7Reg) 7 (mx7S b off nn cc ii p5 uv mv pw qw t) (Ext V) (by kernel_rfl) (by rw [hlen]; kernel_rfl) (by kernel_rfl) ⟨rfl, rfl, rfl, Nat.le_refl _, fun _ _ => rfl⟩ (fun _ _ h e => h.trans e) mx7S_ext mx7D (by kernel_rfl) ?_ ?_
  · intro i o hi ho a' W hB hsz hold haft
    match i, hi with
    | 0, _ => exact mx7_op0 ((hold 1 (by kernel_rfl)).trans o1) ho
    | 1, _ => exact mx7_op1 ((hold 0 (by kernel_rfl)).trans o0) ho
    | 2, _ => exact mx7_op2 ((hold 6 (by kernel_rfl)).trans o6) ho
    | 3, _ => exact mx7_op3 hlt haft ho
    | 4, _ => exact mx7_op4 c0 c1 hB haft ho
    | 5, _ => exact mx7_op5 ((hold 5 (by kernel_rfl)).trans o5) d0 d1 hB ho
    | 6, _ => exact mx7_op6 k1 eg hB haft ho
    | m + 7, h => exact absurd h (by omega)
  · intro a1 W hB hsz hdf hold hS
    have hall : ∀ zz, zz ∈ ([(20, .func (.func 127) #[] #[]), (21, .slice (some ⟨b, off, none⟩) nn cc), (22, .int .i64 (ii : Int)), (23, .pointer (some ⟨b, off + ii * 2, none⟩)), (24, .agg #[uv, .int .i64 pw]), (25, .agg #[mv, .int .i64 qw]), (26, .int .i64 t)] : List (Tmp × Value)) → zz.1 < a.tmps.size ∧ a1.eval (.tmp zz.1) = zz.2 := by
      intro zz hz
      rw [hlen]
      simp only [List.mem_cons, List.not_mem_nil, or_false] at hz
      rcases hz with rfl | rfl | rfl | rfl | rfl | rfl | rfl
      · exact ⟨(show (20 : Nat) < 33 by omega), hS 0 (by omega)⟩
      · exact ⟨(show (21 : Nat) < 33 by omega), hS 1 (by omega)⟩
      · exact ⟨(show (22 : Nat) < 33 by omega), hS 2 (by omega)⟩
      · exact ⟨(show (23 : Nat) < 33 by omega), hS 3 (by omega)⟩
      · exact ⟨(show (24 : Nat) < 33 by omega), hS 4 (by omega)⟩
      · exact ⟨(show (25 : Nat) < 33 by omega), hS 5 (by omega)⟩
      · exact ⟨(show (26 : Nat) < 33 by omega), hS 6 (by omega)⟩
    have ha := act_puts hsz hdf hall (fun t ht => hold t (all_ne_of (l := [(20, .func (.func 127) #[] #[]), (21, .slice (some ⟨b, off, none⟩) nn cc), (22, .int .i64 (ii : Int)), (23, .pointer (some ⟨b, off + ii * 2, none⟩)), (24, .agg #[uv, .int .i64 pw]), (25, .agg #[mv, .int .i64 qw]), (26, .int .i64 t)]) (by kernel_rfl) ht))
    rw [ha]
    exact K W  hB 
end
end Go.Proofs.YtmlmnljbegcjcaaGreat

/- slices.MaxFunc of plans; best. -/
namespace Go.Proofs.YtmlmnljbegcjcaaGreat
open Go.RowKit Go.Shelf
attribute [local irreducible] bitCells

/-- Plans in memory. -/
def PlansAt (W : World) (b off : Nat) (vs : List (Value × Int)) : Prop := b < W.heap.size ∧ ∀ j x, vs[j]? = some x → W.cell? ⟨b, off + j * 2, none⟩ = some x.1 ∧ W.cell? ⟨b, off + j * 2 + 1, none⟩ = some (.int .i64 x.2) ∧ ∃ A n c, x.1 = .slice A n c
theorem PlansAt.ext {W W' : World} {b off : Nat} {vs : List (Value × Int)} (h : PlansAt W b off vs) (e : Ext W W') : PlansAt W' b off vs :=
  ⟨Nat.lt_of_lt_of_le h.1 e.size, fun j x hx => ⟨(Below.cell e (p := ⟨b, off + j * 2, none⟩) h.1).trans (h.2 j x hx).1, (Below.cell e (p := ⟨b, off + j * 2 + 1, none⟩) h.1).trans (h.2 j x hx).2.1, (h.2 j x hx).2.2⟩⟩
def vmax (m x : Value × Int) : Value × Int := if m.2 < x.2 then x else m
def maxV : List (Value × Int) → Value × Int
  | [] => (.slice none 0 0, 0)
  | x :: vs => vs.foldl vmax x
def maxVTo (vs : List (Value × Int)) (k : Nat) : Value × Int := maxV (vs.take k)
theorem maxVTo_succ {vs : List (Value × Int)} {k : Nat} (h1 : 1 ≤ k) (hk : k < vs.length) : maxVTo vs (k + 1) = vmax (maxVTo vs k) vs[k] := by
  unfold maxVTo
  rw [List.take_succ_eq_append_getElem hk]
  cases vs with
  | nil => simp at hk
  | cons y vs =>
    obtain ⟨m, rfl⟩ : ∃ m, k = m + 1 := ⟨k - 1, by omega⟩
    rw [List.take_succ_cons]
    simp only [List.cons_append, maxV, List.foldl_append, List.foldl_cons, List.foldl_nil, List.getElem_cons_succ]
theorem maxV_mem : ∀ {vs : List (Value × Int)}, vs ≠ [] → maxV vs ∈ vs := by
  intro vs h
  cases vs with
  | nil => exact absurd rfl h
  | cons x vs =>
    have : ∀ (l : List (Value × Int)) (y : Value × Int), l.foldl vmax y = y ∨ l.foldl vmax y ∈ l := by
      intro l
      induction l with
      | nil => intro y; exact .inl rfl
      | cons z l ih =>
        intro y
        rw [List.foldl_cons]
        rcases ih (vmax y z) with e | e
        · rw [e]
          unfold vmax
          split
          · exact .inr (by simp)
          · exact .inl rfl
        · exact .inr (List.mem_cons_of_mem _ e)
    rcases this vs x with e | e
    · show vs.foldl vmax x ∈ x :: vs
      rw [e]; simp
    · exact List.mem_cons_of_mem _ e
theorem cmpI_pos {p q : Int} : 0 < cmpI p q ↔ q < p := by
  unfold cmpI
  split
  · omega
  · split <;> omega
theorem e127 : ∀ args w, (callFunc 127 args).run Tryz.prog w = .ok (.enter 127 args) w := enters_of Tryz.func127 (by kernel_rfl) rfl

set_option maxRecDepth 100000 in
set_option maxHeartbeats 4000000 in
theorem max_any {b off n c : Nat} {vs : List (Value × Int)} {w : World} (hn : n = vs.length) (h1 : 1 ≤ n) (h2 : n ≤ 4096) (h : PlansAt w b off vs) :
    Calls Tryz.prog 126 #[.slice (some ⟨b, off, none⟩) n c, .func (.func 127) #[] #[]] w fun e w' => e = .returned (.agg #[(maxV vs).1, .int .i64 (maxV vs).2]) ∧ Ext w w' := by
  have HH := Lib.hid h
  have HN := Lib.hid hn
  have hnz : ¬ (n : Int) < 1 := by omega
  have hn0 : (0 : Int) < (n : Int) := by omega
  have hl0 : 0 < vs.length := by omega
  obtain ⟨c0, c1, A0, n0, cc0, hv0⟩ := h.2 0 vs[0] (List.getElem?_eq_getElem hl0)
  have hm1 : maxVTo vs 1 = vs[0] := by
    cases vs with
    | nil => simp at hl0
    | cons x vs => rfl
  have hall : maxVTo vs n = maxV vs := by unfold maxVTo; rw [hn, List.take_length]
  obtain ⟨w1, hw1⟩ : ∃ w1, w.alloc (.cells #[.slice none 0 0, .int .i64 0] 103) = w1 := ⟨_, rfl⟩
  have e1 : Ext w w1 := by rw [← hw1]; exact ext_alloc _ _
  have r4 : w1.heap[w.heap.size]? = some (.cells #[.slice none 0 0, .int .i64 0] 103 (0, 0)) := by rw [← hw1]; exact row_last _ _ _ rfl
  rw [← hm1] at c0 c1 hv0
  obtain ⟨m, hm⟩ : ∃ m, maxVTo vs 1 = m := ⟨_, rfl⟩
  rw [hm] at c0 c1 hv0
  obtain ⟨mv, mw⟩ := m
  simp only at c0 c1 hv0
  subst hv0
  have d0 := (Below.cell e1 (p := ⟨b, off + 0 * 2, none⟩) h.1).trans c0
  have d1 := (Below.cell e1 (p := ⟨b, off + 0 * 2 + 1, none⟩) h.1).trans c1
  simp only [Nat.zero_mul, Nat.add_zero] at d0 d1
  have HM1 := Lib.hid hm
  have HAL := Lib.hid hall
  clear hn h c0 c1 hm1 hm hall
  go_enter Tryz.func126, Tryz.ntmps126
  go_upto_region 4 with fail
  obtain ⟨p4, hp4⟩ : ∃ p4, w.heap.size = p4 := ⟨_, rfl⟩
  obtain ⟨p5, hp5⟩ : ∃ p5, w1.heap.size = p5 := ⟨_, rfl⟩
  obtain ⟨w2, hw2⟩ : ∃ w2, w1.alloc (.cells #[.slice A0 n0 cc0, .int .i64 mw] 103) = w2 := ⟨_, rfl⟩
  have e2 : Ext w w2 := by rw [← hw2]; exact e1.trans (ext_alloc _ _)
  have r5 : w2.heap[p5]? = some (.cells #[.slice A0 n0 cc0, .int .i64 mw] 103 (0, 0)) := by rw [← hw2]; exact row_last _ _ _ hp5.symm
  have r4' : w2.heap[p4]? = some (.cells #[.slice none 0 0, .int .i64 0] 103 (0, 0)) := by rw [← hw2, ← hp4]; exact row_alloc _ _ _ _ r4
  have hlt45 : p4 < p5 := by rw [← hp4, ← hp5]; exact (Array.getElem?_eq_some_iff.1 r4).1
  have HP := Lib.hid (show w.heap.size ≤ p4 ∧ p4 < p5 from ⟨Nat.le_of_eq hp4, hlt45⟩)
  rw [hw2, hp4, hp5]
  have HE2 := Lib.hid e2
  have HR5 := Lib.hid r5
  have HR4 := Lib.hid r4'
  clear hw2 hp4 hp5 e2 r5 r4' e1 r4 hw1 d0 d1 hlt45
  go_wp2
  go_loopw [6] (fun i wr => ∃ k : Nat, 1 ≤ k ∧ k ≤ n ∧ i = .int .i64 k ∧ Hid (Ext w wr) ∧ Hid (wr.heap[p4]? = some (.cells #[.slice none 0 0, .int .i64 0] 103 (0, 0))) ∧ Hid ((∃ A n c, (maxVTo vs k).1 = .slice A n c) ∧ wr.heap[p5]? = some (.cells #[(maxVTo vs k).1, .int .i64 (maxVTo vs k).2] 103 (0, 0)))) (fun i _ => n - (intOf i).toNat)
  case atStart => exact ⟨1, Nat.le_refl _, h1, rfl, HE2, HR4, Lib.hid (by rw [HM1.out]; exact ⟨⟨_, _, _, rfl⟩, HR5.out⟩)⟩
  case round =>
    obtain ⟨k, hk1, hk, rfl, hE, hR4, hR5⟩ := hrel
    clear HE2 HR4 HR5
    by_cases hlt : k < n
    · have hltz : (k : Int) < (n : Int) := by omega
      have hkl : k < vs.length := by rw [← HN.out]; exact hlt
      have hPA := HH.out.ext hE.out
      have hx := hPA.2 k vs[k] (List.getElem?_eq_getElem hkl)
      have hsu := maxVTo_succ hk1 hkl
      obtain ⟨⟨mA, mn, mc, hms⟩, hr5⟩ := hR5.out
      obtain ⟨m, hm⟩ : ∃ m, maxVTo vs k = m := ⟨_, rfl⟩
      obtain ⟨x, hxx⟩ : ∃ x, vs[k] = x := ⟨_, rfl⟩
      rw [hm] at hms hr5 hsu
      rw [hxx] at hx hsu
      obtain ⟨mv, mw'⟩ := m
      obtain ⟨xv, xw⟩ := x
      obtain ⟨x0, x1, xA, xn, xc, hxs⟩ := hx
      simp only at hms hr5 x0 x1 hxs
      subst hms
      subst hxs
      have h127 := fun W => cmp127_any (.slice xA xn xc) (.slice mA mn mc) xw mw' W ⟨_, _, _, rfl⟩ ⟨_, _, _, rfl⟩
      have HSU := Lib.hid hsu
      have HR := Lib.hid hr5
      have HX := Lib.hid (And.intro x0 (And.intro x1 hPA.1))
      clear hm hxx hsu hr5 x0 x1 hPA hR5
      go_upto_region 7 with fail
      refine mx7_wp (b := b) (off := off) (nn := n) (cc := c) (ii := k) (p5 := p5) (uv := .slice xA xn xc) (mv := .slice mA mn mc) (pw := xw) (qw := mw') (t := cmpI xw mw') rfl rfl rfl rfl rfl hltz (fun W hW => (Below.cell hW (p := ⟨b, off + k * 2, none⟩) HX.out.2.2).trans HX.out.1) (fun W hW => (Below.cell hW (p := ⟨b, off + k * 2 + 1, none⟩) HX.out.2.2).trans HX.out.2.1) (fun W hW => cell_of_row _ _ _ _ _ _ (row_ext HR.out hW)) (fun W hW => cell_of_row _ _ _ _ _ _ (row_ext HR.out hW)) (fun W _ => h127 W) e127 ?_
      intro W6 e6
      obtain ⟨o7, hdr, h7⟩ : ∃ o7, mx7Reg.toList.drop 7 = [o7] ∧ mx7Reg[7]? = some o7 := by
        have hs : mx7Reg.size = 8 := by kernel_rfl
        refine ⟨mx7Reg[7], ?_, Array.getElem?_eq_getElem _⟩
        rw [List.drop_eq_getElem_cons (by simp [hs]), List.drop_eq_nil_of_le (by simp [hs])]
        simp
      rw [hdr]
      simp only [puts, List.foldl_cons, List.foldl_nil, Act.put, List.setIfInBounds_toArray, List.set_cons_succ, List.set_cons_zero]
      have hop := op_at h7 (·.op) (x := Op.binOp BinOp.gtr 3 (Operand.tmp 26) (Operand.const (Value.int IntKind.i64 0)) 3) (by kernel_rfl)
      refine wpList_one (v := .bool (decide (0 < cmpI xw mw'))) (op_at h7 (·.guard) (x := none) (by kernel_rfl)) (by simp [execOp, hop, go_sem]) ?_
      rw [show o7.dst = some 27 from op_at h7 (·.dst) (by kernel_rfl)]
      simp only [Act.put, List.setIfInBounds_toArray, List.set_cons_succ, List.set_cons_zero]
      have HE6 := Lib.hid (show Ext wr W6 from e6)
      clear e6 hdr h7 hop h127
      by_cases hc : mw' < xw
      · rw [decide_eq_true (cmpI_pos.2 hc)]
        have hsu := HSU.out
        rw [show vmax (.slice mA mn mc, mw') (.slice xA xn xc, xw) = (.slice xA xn xc, xw) from if_pos hc] at hsu
        replace HSU := Lib.hid hsu
        have x0 := (Below.cell HE6.out (p := ⟨b, off + k * 2, none⟩) HX.out.2.2).trans HX.out.1
        have x1 := (Below.cell HE6.out (p := ⟨b, off + k * 2 + 1, none⟩) HX.out.2.2).trans HX.out.2.1
        have hr5 := row_ext HR.out HE6.out
        have y0 : W6.cell? ⟨p5, 0, none⟩ = some (.slice mA mn mc) := cell_of_row _ _ _ _ _ _ hr5
        have y1 : W6.cell? ⟨p5, 1, none⟩ = some (.int .i64 mw') := cell_of_row _ _ _ _ _ _ hr5
        have f0 : W6.frozen? ⟨p5, 0, none⟩ = false := by simp [World.frozen?, hr5]
        have f1 : W6.frozen? ⟨p5, 1, none⟩ = false := by simp [World.frozen?, hr5]
        have HR6 := Lib.hid hr5
        clear hsu hc hr5
        go_wp2
        go_roundw
        case measure => simp [intOf]; omega
        case rel =>
          refine ⟨k + 1, by omega, by omega, by go_num, Lib.hid (set_kept (set_kept (hE.out.trans HE6.out) (by have := HP.out; omega)) (by have := HP.out; omega)), Lib.hid ?_, Lib.hid ?_⟩
          · have hne : p4 ≠ p5 := by have := HP.out; omega
            exact (heap_set_other _ _ _ _ _ hne).trans ((heap_set_other _ _ _ _ _ hne).trans (row_ext hR4.out HE6.out))
          · rw [HSU.out]
            exact ⟨⟨_, _, _, rfl⟩, set2_row _ _ _ _ _ _ _ HR6.out⟩
      · rw [decide_eq_false (fun h => hc (cmpI_pos.1 h))]
        have hsu := HSU.out
        rw [show vmax (.slice mA mn mc, mw') (.slice xA xn xc, xw) = (.slice mA mn mc, mw') from if_neg hc] at hsu
        replace HSU := Lib.hid hsu
        clear hsu hc
        go_wp2
        go_roundw
        case measure => simp [intOf]; omega
        case rel =>
          refine ⟨k + 1, by omega, by omega, by go_num, Lib.hid (hE.out.trans HE6.out), Lib.hid (row_ext hR4.out HE6.out), Lib.hid ?_⟩
          rw [HSU.out]
          exact ⟨⟨_, _, _, rfl⟩, row_ext HR.out HE6.out⟩
    · have hltz : ¬ (k : Int) < (n : Int) := by omega
      obtain rfl : k = n := by omega
      obtain ⟨⟨mA, mn, mc, hms⟩, hr5⟩ := hR5.out
      rw [HAL.out] at hms hr5
      obtain ⟨m, hm⟩ : ∃ m, maxV vs = m := ⟨_, rfl⟩
      have HM := Lib.hid hm
      rw [hm] at hms hr5
      obtain ⟨mv, mw'⟩ := m
      simp only at hms hr5
      subst hms
      have y0 : wr.cell? ⟨p5, 0, none⟩ = some (.slice mA mn mc) := cell_of_row _ _ _ _ _ _ hr5
      have y1 : wr.cell? ⟨p5, 1, none⟩ = some (.int .i64 mw') := cell_of_row _ _ _ _ _ _ hr5
      have z0 : wr.cell? ⟨p4, 0, none⟩ = some (.slice none 0 0) := cell_of_row _ _ _ _ _ _ hR4.out
      have z1 : wr.cell? ⟨p4, 1, none⟩ = some (.int .i64 0) := cell_of_row _ _ _ _ _ _ hR4.out
      have f0 : wr.frozen? ⟨p4, 0, none⟩ = false := by simp [World.frozen?, hR4.out]
      have f1 : wr.frozen? ⟨p4, 1, none⟩ = false := by simp [World.frozen?, hR4.out]
      clear hm hr5 hR5
      go_wp2
      refine bodyPost_ret (v := .agg #[.slice mA mn mc, .int .i64 mw']) (results_row 103 rfl _ _ p4 _ rfl (run_loadVar_row (P := Tryz.prog) _ _ 103 103 _ (0, 0) _ (set2_row wr p4 _ _ _ _ 103 hR4.out) Tryz.underlying103 rfl (by rw [size103]; rfl))) rfl ⟨by rw [HM.out], set_kept (set_kept hE.out HP.out.1) HP.out.1⟩
end Go.Proofs.YtmlmnljbegcjcaaGreat

/- best: the first plan that is worth the most. -/
namespace Go.Proofs.YtmlmnljbegcjcaaGreat
open Go.RowKit Go.Shelf
attribute [local irreducible] bitCells
set_option maxRecDepth 100000 in
set_option maxHeartbeats 2000000 in
theorem bestOf_any {b off n c : Nat} {vs : List (Value × Int)} {w : World} (hn : n = vs.length) (h1 : 1 ≤ n) (h2 : n ≤ 4096) (h : PlansAt w b off vs) :
    Calls Tryz.prog 100 #[.slice (some ⟨b, off, none⟩) n c] w fun e w' => e = .returned (.agg #[(maxV vs).1, .int .i64 (maxV vs).2]) ∧ Ext w w' := by
  have hsl : ∃ A m d, (maxV vs).1 = .slice A m d := by
    have hne : vs ≠ [] := by rintro rfl; simp at hn; omega
    obtain ⟨j, hj, e⟩ := List.getElem_of_mem (maxV_mem hne)
    rw [← e]
    exact (h.2 j vs[j] (List.getElem?_eq_getElem hj)).2.2
  obtain ⟨w1, hw1⟩ : ∃ w1, w.alloc (.cells #[.slice none 0 0, .int .i64 0] 103) = w1 := ⟨_, rfl⟩
  have e1 : Ext w w1 := by rw [← hw1]; exact ext_alloc _ _
  have r2 : w1.heap[w.heap.size]? = some (.cells #[.slice none 0 0, .int .i64 0] 103 (0, 0)) := by rw [← hw1]; exact row_last _ _ _ rfl
  have h126 := max_any (c := c) hn h1 h2 (h.ext e1)
  obtain ⟨m, hm⟩ : ∃ m, maxV vs = m := ⟨_, rfl⟩
  rw [hm] at h126 hsl
  have HM := Lib.hid hm
  obtain ⟨mv, mw⟩ := m
  obtain ⟨A, k, d, hs⟩ := hsl
  simp only at hs h126
  subst hs
  obtain ⟨p, hp⟩ : ∃ p, w.heap.size = p := ⟨_, rfl⟩
  have HP := Lib.hid (Nat.le_of_eq hp)
  rw [hp] at r2
  have HE1 := Lib.hid e1
  have HR := Lib.hid r2
  clear hm e1 r2 h hn
  go_enter Tryz.func100, Tryz.ntmps100
  go_wp2_with (refine h126.mono ?_; rintro e w2 ⟨rfl, e2⟩; have HE2 := Lib.hid (HE1.out.trans e2); have hr2 := row_ext HR.out e2; have HR2 := Lib.hid hr2; have q0 : w2.cell? ⟨p, 0, none⟩ = some (.slice none 0 0) := cell_of_row _ _ _ _ _ _ hr2; have q1 : w2.cell? ⟨p, 1, none⟩ = some (.int .i64 0) := cell_of_row _ _ _ _ _ _ hr2; have fz0 : w2.frozen? ⟨p, 0, none⟩ = false := (by simp [World.frozen?, hr2]); have fz1 : w2.frozen? ⟨p, 1, none⟩ = false := (by simp [World.frozen?, hr2]); clear e2 h126 hr2)
  refine bodyPost_ret (v := .agg #[.slice A k d, .int .i64 mw]) (results_row 103 rfl _ _ p _ rfl (run_loadVar_row (P := Tryz.prog) _ _ 103 103 _ (0, 0) _ (set2_row w2 p _ _ _ _ 103 HR2.out) Tryz.underlying103 rfl (by rw [size103]; rfl))) rfl ⟨by rw [HM.out], set_kept (set_kept HE2.out HP.out) HP.out⟩
end Go.Proofs.YtmlmnljbegcjcaaGreat

/- The small functions of the verifier's own Go text, and of the reference. -/
namespace Go.Proofs.YtmlmnljbegcjcaaGreat
open Go.RowKit Go.Shelf

theorem held_get {w : World} {A : Option Addr} {xs : List Int} (hh : Held w w.heap.size 1 encI A xs) {W : World} (hB : Below w.heap.size w W) {k : Nat} (hk : k < xs.length) : ∃ b off, A = some ⟨b, off, none⟩ ∧ W.cell? ⟨b, off + k, none⟩ = some (.int .i64 xs[k]) := by
  rcases hh with h | ⟨b, off, rfl, hlt', hc⟩
  · simp [h] at hk
  · refine ⟨b, off, rfl, ?_⟩
    have h2 := (hB.cell (p := ⟨b, off + k * 1 + 0, none⟩) hlt').trans (hc k xs[k] (List.getElem?_eq_getElem hk) 0 _ rfl)
    simpa using h2

set_option maxHeartbeats 400000 in
theorem ints_quiet (A A' : Option Addr) (n c n' c' : Nat) (xs ys : List Int) (w : World) (hnn : n = xs.length) (hnn' : n' = ys.length)
    (hn : n ≤ 9223372036854775807) (hn' : n' ≤ 9223372036854775807) (hh : Held w w.heap.size 1 encI A xs) (hh' : Held w w.heap.size 1 encI A' ys) :
    Calls Tryz.prog 22 #[.slice A n c, .slice A' n' c'] w fun e w' => e = .returned (.bool (decide (xs = ys))) ∧ ∃ m, w' = w.drewN m := by
  have HN := Lib.hid (And.intro hnn hnn')
  clear hnn hnn'
  by_cases hl : n = n'
  · subst hl
    go_enter Tryz.func22, Tryz.ntmps22
    go_wp2
    go_loopw [4, 5] (fun _ i wr => ∃ k : Nat, k ≤ n ∧ i = .int .i64 k ∧ Hid (∃ m, wr = w.drewN m) ∧ Hid (∀ j, j < k → ∀ (h1 : j < xs.length) (h2 : j < ys.length), xs[j] = ys[j])) (fun _ i _ => n - (intOf i).toNat)
    case atStart => exact ⟨0, Nat.zero_le _, rfl, Lib.hid ⟨0, rfl⟩, Lib.hid (fun j hj => absurd hj (by omega))⟩
    case round =>
      obtain ⟨k, hk, rfl, hD, hA⟩ := hrel
      have hB : Hid (Below w.heap.size w wr) := Lib.hid (by obtain ⟨m, rfl⟩ := hD.out; exact bdrewN (Below.refl _ _) m)
      by_cases hlt : k < n
      · have hltz : (k : Int) < (n : Int) := by omega
        have hkx : k < xs.length := by rw [← HN.out.1]; exact hlt
        have hky : k < ys.length := by rw [← HN.out.2]; exact hlt
        obtain ⟨b, off, rfl, hc⟩ := held_get hh hB.out hkx
        obtain ⟨b', off', rfl, hc'⟩ := held_get hh' hB.out hky
        obtain ⟨x, hx⟩ : ∃ x, xs[k] = x := ⟨_, rfl⟩
        obtain ⟨y, hy⟩ : ∃ y, ys[k] = y := ⟨_, rfl⟩
        rw [hx] at hc
        rw [hy] at hc'
        have HXY := Lib.hid (And.intro hx hy)
        clear hx hy hh hh'
        by_cases hxy : x = y
        · have hxy2 : (x != y) = false := by simp [hxy]
          go_wp2
          go_quiet (fail)
          go_wp2
          go_roundw
          case measure => simp [intOf]; omega
          case rel =>
            refine ⟨k + 1, by omega, by go_num, Lib.hid (by obtain ⟨m, rfl⟩ := hD.out; exact ⟨m + nq, by rw [World.drewN_drewN]⟩), Lib.hid fun j hj h1 h2 => ?_⟩
            by_cases e : j = k
            · subst e
              rw [HXY.out.1, HXY.out.2, hxy]
            · exact hA.out j (by omega) h1 h2
        · have hxy2 : (x != y) = true := by simp [hxy]
          go_wp2
          go_quiet (fail)
          go_wp2
          go_ret
          refine ⟨ret_bool ?_, by obtain ⟨m, rfl⟩ := hD.out; exact ⟨m + nq, by rw [World.drewN_drewN]⟩⟩
          have : xs ≠ ys := fun e => by
            subst e
            exact hxy (HXY.out.1.symm.trans HXY.out.2)
          simp [this]
      · have hltz : ¬ (k : Int) < (n : Int) := by omega
        go_wp2
        go_ret
        refine ⟨ret_bool ?_, hD.out⟩
        have : xs = ys := List.ext_getElem (by rw [← HN.out.1, HN.out.2]) fun j h1 h2 => hA.out j (by have := HN.out.1; omega) h1 h2
        simp [this]
  · have hlz : ((n : Int) != (n' : Int)) = true := by simp; omega
    have hne : xs ≠ ys := fun e => hl (by rw [HN.out.1, HN.out.2, e])
    have HNE := Lib.hid hne
    clear hne hh hh'
    go_enter Tryz.func22, Tryz.ntmps22
    go_wp2
    go_ret
    exact ⟨ret_bool (by simp [HNE.out]), 0, rfl⟩

theorem ints_any (A A' : Option Addr) (n c n' c' : Nat) (xs ys : List Int) (w : World) (hnn : n = xs.length) (hnn' : n' = ys.length)
    (hn : n ≤ 9223372036854775807) (hn' : n' ≤ 9223372036854775807) (hh : Held w w.heap.size 1 encI A xs) (hh' : Held w w.heap.size 1 encI A' ys) :
    Calls Tryz.prog 22 #[.slice A n c, .slice A' n' c'] w fun e w' => e = .returned (.bool (decide (xs = ys))) ∧ Below w.heap.size w w' :=
  (ints_quiet A A' n c n' c' xs ys w hnn hnn' hn hn' hh hh').mono fun _ _ ⟨he, m, hm⟩ => ⟨he, hm ▸ bdrewN (Below.refl _ _) m⟩

set_option maxHeartbeats 400000 in
theorem longs_quiet (A A' : Option Addr) (n c n' c' : Nat) (xs ys : List Int) (w : World) (hnn : n = xs.length) (hnn' : n' = ys.length)
    (hn : n ≤ 9223372036854775807) (hn' : n' ≤ 9223372036854775807) (hh : Held w w.heap.size 1 encI A xs) (hh' : Held w w.heap.size 1 encI A' ys) :
    Calls Tryz.prog 31 #[.slice A n c, .slice A' n' c'] w fun e w' => e = .returned (.bool (decide (xs = ys))) ∧ ∃ m, w' = w.drewN m := by
  have HN := Lib.hid (And.intro hnn hnn')
  clear hnn hnn'
  by_cases hl : n = n'
  · subst hl
    go_enter Tryz.func31, Tryz.ntmps31
    go_wp2
    go_loopw [4, 5] (fun _ i wr => ∃ k : Nat, k ≤ n ∧ i = .int .i64 k ∧ Hid (∃ m, wr = w.drewN m) ∧ Hid (∀ j, j < k → ∀ (h1 : j < xs.length) (h2 : j < ys.length), xs[j] = ys[j])) (fun _ i _ => n - (intOf i).toNat)
    case atStart => exact ⟨0, Nat.zero_le _, rfl, Lib.hid ⟨0, rfl⟩, Lib.hid (fun j hj => absurd hj (by omega))⟩
    case round =>
      obtain ⟨k, hk, rfl, hD, hA⟩ := hrel
      have hB : Hid (Below w.heap.size w wr) := Lib.hid (by obtain ⟨m, rfl⟩ := hD.out; exact bdrewN (Below.refl _ _) m)
      by_cases hlt : k < n
      · have hltz : (k : Int) < (n : Int) := by omega
        have hkx : k < xs.length := by rw [← HN.out.1]; exact hlt
        have hky : k < ys.length := by rw [← HN.out.2]; exact hlt
        obtain ⟨b, off, rfl, hc⟩ := held_get hh hB.out hkx
        obtain ⟨b', off', rfl, hc'⟩ := held_get hh' hB.out hky
        obtain ⟨x, hx⟩ : ∃ x, xs[k] = x := ⟨_, rfl⟩
        obtain ⟨y, hy⟩ : ∃ y, ys[k] = y := ⟨_, rfl⟩
        rw [hx] at hc
        rw [hy] at hc'
        have HXY := Lib.hid (And.intro hx hy)
        clear hx hy hh hh'
        by_cases hxy : x = y
        · have hxy2 : (x != y) = false := by simp [hxy]
          go_wp2
          go_quiet (fail)
          go_wp2
          go_roundw
          case measure => simp [intOf]; omega
          case rel =>
            refine ⟨k + 1, by omega, by go_num, Lib.hid (by obtain ⟨m, rfl⟩ := hD.out; exact ⟨m + nq, by rw [World.drewN_drewN]⟩), Lib.hid fun j hj h1 h2 => ?_⟩
            by_cases e : j = k
            · subst e
              rw [HXY.out.1, HXY.out.2, hxy]
            · exact hA.out j (by omega) h1 h2
        · have hxy2 : (x != y) = true := by simp [hxy]
          go_wp2
          go_quiet (fail)
          go_wp2
          go_ret
          refine ⟨ret_bool ?_, by obtain ⟨m, rfl⟩ := hD.out; exact ⟨m + nq, by rw [World.drewN_drewN]⟩⟩
          have : xs ≠ ys := fun e => by
            subst e
            exact hxy (HXY.out.1.symm.trans HXY.out.2)
          simp [this]
      · have hltz : ¬ (k : Int) < (n : Int) := by omega
        go_wp2
        go_ret
        refine ⟨ret_bool ?_, hD.out⟩
        have : xs = ys := List.ext_getElem (by rw [← HN.out.1, HN.out.2]) fun j h1 h2 => hA.out j (by have := HN.out.1; omega) h1 h2
        simp [this]
  · have hlz : ((n : Int) != (n' : Int)) = true := by simp; omega
    have hne : xs ≠ ys := fun e => hl (by rw [HN.out.1, HN.out.2, e])
    have HNE := Lib.hid hne
    clear hne hh hh'
    go_enter Tryz.func31, Tryz.ntmps31
    go_wp2
    go_ret
    exact ⟨ret_bool (by simp [HNE.out]), 0, rfl⟩

theorem longs_any (A A' : Option Addr) (n c n' c' : Nat) (xs ys : List Int) (w : World) (hnn : n = xs.length) (hnn' : n' = ys.length)
    (hn : n ≤ 9223372036854775807) (hn' : n' ≤ 9223372036854775807) (hh : Held w w.heap.size 1 encI A xs) (hh' : Held w w.heap.size 1 encI A' ys) :
    Calls Tryz.prog 31 #[.slice A n c, .slice A' n' c'] w fun e w' => e = .returned (.bool (decide (xs = ys))) ∧ Below w.heap.size w w' :=
  (longs_quiet A A' n c n' c' xs ys w hnn hnn' hn hn' hh hh').mono fun _ _ ⟨he, m, hm⟩ => ⟨he, hm ▸ bdrewN (Below.refl _ _) m⟩

set_option maxHeartbeats 400000 in
theorem great_any (A : Option Addr) (n c : Nat) (w : World) : Calls Tryz.prog 14 #[.slice A n c] w fun e w' => e = .returned (.bool (decide (20 < n))) ∧ w' = w := by
  by_cases h : 20 < n
  · have hz : (20 : Int) < (n : Int) := by omega
    go_enter Tryz.func14, Tryz.ntmps14
    go_wp2
    go_ret
    exact ⟨by simp [h], rfl⟩
  · have hz : ¬ (20 : Int) < (n : Int) := by omega
    go_enter Tryz.func14, Tryz.ntmps14
    go_wp2
    go_ret
    exact ⟨by simp, rfl⟩
set_option maxHeartbeats 400000 in
theorem refIsOrder_any (A : Option Addr) (n c : Nat) (x : Int) (w : World) : Calls Tryz.prog 55 #[.slice A n c, .int .i64 x] w fun e w' => e = .returned (.bool (isOrd n x)) ∧ w' = w := by
  by_cases h0 : 0 ≤ x
  · by_cases h1 : x < n
    · rw [show isOrd n x = true from by simp [isOrd, h0, h1]]
      go_enter Tryz.func55, Tryz.ntmps55
      go_wp2
      go_ret
      exact ⟨rfl, rfl⟩
    · rw [show isOrd n x = false from by simp [isOrd, h1]]
      go_enter Tryz.func55, Tryz.ntmps55
      go_wp2
      go_ret
      exact ⟨rfl, rfl⟩
  · rw [show isOrd n x = false from by simp [isOrd, h0]]
    go_enter Tryz.func55, Tryz.ntmps55
    go_wp2
    go_ret
    exact ⟨rfl, rfl⟩
set_option maxHeartbeats 1000000 in
theorem in_any (A : Option Addr) (n c : Nat) (xs : List Int) (x : Int) (w : World) (hnn : n = xs.length) (hn : n ≤ 9223372036854775807) (hh : Held w w.heap.size 1 encI A xs) :
    Calls Tryz.prog 42 #[.slice A n c, .int .i64 x] w fun e w' => e = .returned (.bool (decide (x ∈ xs))) ∧ w' = w := by
  have HN := Lib.hid hnn
  have HH := Lib.hid hh
  clear hnn hh
  go_enter Tryz.func42, Tryz.ntmps42
  go_wp2
  go_loopw [5] (fun i wr => ∃ k : Nat, k ≤ n ∧ i = .int .i64 k ∧ wr = w ∧ Hid (∀ j (hj : j < xs.length), j < k → xs[j] ≠ x)) (fun i _ => n - (intOf i).toNat)
  case atStart => exact ⟨0, Nat.zero_le _, rfl, rfl, Lib.hid fun j _ h => absurd h (by omega)⟩
  case round =>
    obtain ⟨k, hk, rfl, rfl, hA⟩ := hrel
    by_cases hlt : k < n
    · have hltz : (k : Int) < (n : Int) := by omega
      have hkl : k < xs.length := by rw [← HN.out]; exact hlt
      obtain ⟨b, off, rfl, hc⟩ := int_get HH.out hkl
      obtain ⟨y, hy⟩ : ∃ y, xs[k] = y := ⟨_, rfl⟩
      rw [hy] at hc
      have HY := Lib.hid hy
      clear hy
      by_cases he : y = x
      · have hm : x ∈ xs := by rw [← he, ← HY.out]; exact List.getElem_mem hkl
        have HM := Lib.hid hm
        have heb : (y == x) = true := by simp [he]
        clear hm he
        go_wp2
        go_ret
        exact ⟨ret_bool (by simp [HM.out]), rfl⟩
      · have heb : (y == x) = false := by simp [he]
        have HE := Lib.hid he
        clear he
        go_wp2
        go_roundw
        case measure => simp [intOf]; omega
        case rel =>
          refine ⟨k + 1, by omega, by go_num, trivial, Lib.hid fun j hj h => ?_⟩
          by_cases e : j = k
          · subst e; rw [HY.out]; exact HE.out
          · exact hA.out j hj (by omega)
    · have hltz : ¬ (k : Int) < (n : Int) := by omega
      have hm : x ∉ xs := fun h => by
        obtain ⟨j, hj, e⟩ := List.getElem_of_mem h
        exact hA.out j hj (by have := HN.out; omega) e
      have HM := Lib.hid hm
      clear hm
      go_wp2
      go_ret
      exact ⟨ret_bool (by simp [HM.out]), rfl⟩
end Go.Proofs.YtmlmnljbegcjcaaGreat

/- The reference: Baths, Some, WorthOf; the verifier's fine. -/
namespace Go.Proofs.YtmlmnljbegcjcaaGreat
open Go.RowKit Go.Shelf

set_option maxHeartbeats 1000000 in
theorem refBaths_any {A : Option Addr} {n c : Nat} {os : List Odr} {w : World} (h : IsOrders w A n c os) (x : Int) :
    Calls Tryz.prog 37 #[.slice A n c, .int .i64 x] w fun e w' => e = .returned (.int .i64 (forErr os x)) ∧ Ext w w' := by
  have h21 := fun W (hW : Ext w W) => refCheck_any (h.ext hW)
  obtain ⟨E, hE⟩ : ∃ E, ordersErr os = E := ⟨_, rfl⟩
  have ha : forErr os x = if E = 0 then if 0 ≤ x ∧ x ≤ 14 then 0 else 2 else E := by rw [← hE]; rfl
  obtain ⟨Z, hZ⟩ : ∃ Z, forErr os x = Z := ⟨_, rfl⟩
  rw [hZ] at ha ⊢
  simp only [hE] at h21
  have HA := Lib.hid ha
  have H21 := Lib.hid h21
  have h0 := h21 w (Ext.refl w)
  clear ha hE hZ h h21
  by_cases he : E = 0
  · have ha := HA.out
    rw [if_pos he] at ha
    subst he
    by_cases h1 : x < 0
    · rw [if_neg (by omega)] at ha
      subst ha
      go_enter Tryz.func37, Tryz.ntmps37
      go_wp2_with (refine h0.mono ?_; rintro e w1 ⟨rfl, e1⟩; have HE := Lib.hid e1; clear e1 h0)
      go_ret
      exact ⟨rfl, HE.out⟩
    · by_cases h2 : (14 : Int) < x
      · rw [if_neg (by omega)] at ha
        subst ha
        go_enter Tryz.func37, Tryz.ntmps37
        go_wp2_with (refine h0.mono ?_; rintro e w1 ⟨rfl, e1⟩; have HE := Lib.hid e1; clear e1 h0)
        go_ret
        exact ⟨rfl, HE.out⟩
      · rw [if_pos (by omega)] at ha
        subst ha
        go_enter Tryz.func37, Tryz.ntmps37
        go_wp2_with (refine h0.mono ?_; rintro e w1 ⟨rfl, e1⟩; have HE := Lib.hid e1; clear e1 h0)
        go_ret
        exact ⟨rfl, HE.out⟩
  · have ha := HA.out
    rw [if_neg he] at ha
    subst ha
    have heb : (Z != 0) = true := by simp [he]
    go_enter Tryz.func37, Tryz.ntmps37
    go_wp2_with fail
    refine h0.mono ?_
    rintro e w1 ⟨rfl, e1⟩
    have HE := Lib.hid e1
    have h1 := H21.out w1 e1
    clear e1 h0
    go_wp2_with fail
    refine h1.mono ?_
    rintro e w2 ⟨rfl, e2⟩
    have HE2 := Lib.hid (HE.out.trans e2)
    clear e2 h1
    go_wp2
    go_ret
    exact ⟨rfl, HE2.out⟩

set_option maxHeartbeats 1000000 in
theorem fine_any {A : Option Addr} {n c : Nat} {os : List Odr} {w : World} (h : IsOrders w A n c os) :
    Calls Tryz.prog 41 #[.slice A n c] w fun e w' => e = .returned (.bool (decide (ordersErr os = 0))) ∧ Ext w w' := by
  have h21 := refCheck_any h
  have h14 := great_any A n c w
  have hno : ordersErr os = 0 → n ≤ 14 := fun h0 => by have := (orders_ok h0).1; have := h.len; omega
  obtain ⟨E, hE⟩ : ∃ E, ordersErr os = E := ⟨_, rfl⟩
  rw [hE] at h21 hno ⊢
  clear hE h
  by_cases hg : 20 < n
  · have hne : E ≠ 0 := fun h0 => by have := hno h0; omega
    rw [decide_eq_false hne]
    rw [decide_eq_true hg] at h14
    clear hno hne
    go_enter Tryz.func41, Tryz.ntmps41
    go_wp2_with (refine h14.mono ?_; rintro e w1 ⟨rfl, rfl⟩)
    go_ret
    exact ⟨rfl, Ext.refl _⟩
  · rw [decide_eq_false hg] at h14
    clear hno
    by_cases he : E = 0
    · rw [decide_eq_true he]
      subst he
      go_enter Tryz.func41, Tryz.ntmps41
      go_wp2_with (first | (refine h14.mono ?_; rintro e w1 ⟨rfl, rfl⟩) | (refine h21.mono ?_; rintro e w2 ⟨rfl, e2⟩; have HE := Lib.hid e2; clear e2))
      go_ret
      exact ⟨rfl, HE.out⟩
    · rw [decide_eq_false he]
      have heb : (E == 0) = false := by simp [he]
      go_enter Tryz.func41, Tryz.ntmps41
      go_wp2_with (first | (refine h14.mono ?_; rintro e w1 ⟨rfl, rfl⟩) | (refine h21.mono ?_; rintro e w2 ⟨rfl, e2⟩; have HE := Lib.hid e2; clear e2))
      go_ret
      exact ⟨rfl, HE.out⟩

set_option maxRecDepth 100000 in
set_option maxHeartbeats 2000000 in
theorem worthOf_any {A : Option Addr} {n c : Nat} {os : List Odr} {w : World} (h : IsOrders w A n c os) (hk : ordersErr os = 0) (A' : Option Addr) (n' c' : Nat) (bs : List Int) (hn' : n' = bs.length) (hm' : n' ≤ 9223372036854775807) (hh : Held w w.heap.size 1 encI A' bs) :
    Calls Tryz.prog 39 #[.slice A n c, .slice A' n' c'] w fun e w' => e = .returned (.int .i64 (worthOf os bs)) ∧ Ext w w' := by
  have hok := orders_ok hk
  have h72 := fun W (hW : Ext w W) k hkl => done72_any (h.ext hW) hok.2 A' n' c' bs hn' hm' (hh.ext hW) k hkl
  have hlen := worthTo_len os bs
  have hbd := worthTo_bound hok.2 bs
  have hsu := worthTo_succ os bs
  have HO := Lib.hid h
  have HN := Lib.hid h.len
  have HK := Lib.hid hok
  have hn14 : n ≤ 14 := by have := h.len; omega
  rw [← hlen, ← h.len]
  obtain ⟨WT, hW⟩ : ∃ WT, worthTo os bs = WT := ⟨_, rfl⟩
  have hw0 : WT 0 = 0 := by rw [← hW]; rfl
  rw [hW]
  simp only [hW] at hbd hsu
  have HB := Lib.hid hbd
  have HS := Lib.hid hsu
  have H72 := Lib.hid h72
  clear h hk hok h72 hlen hbd hsu hW hh hn'
  go_enter Tryz.func39, Tryz.ntmps39
  go_wp2
  go_loopw [5, 6] (fun s i wr => ∃ k : Nat, k ≤ n ∧ i = .int .i64 k ∧ s = .int .i64 (WT k) ∧ Hid (Ext w wr)) (fun _ i _ => n - (intOf i).toNat)
  case atStart => exact ⟨0, Nat.zero_le _, rfl, by rw [hw0], Lib.hid (Ext.refl _)⟩
  case round =>
    obtain ⟨k, hk, rfl, rfl, hE⟩ := hrel
    by_cases hlt : k < n
    · have hltz : (k : Int) < (n : Int) := by omega
      have hkl : k < os.length := by rw [← HN.out]; exact hlt
      have h72 := H72.out wr hE.out k hkl
      have hsu := HS.out k
      have hbd := HB.out k
      have hdm : doesB os bs k = madeB bs os[k] := by unfold doesB; rw [oAt_get hkl, decide_eq_true hkl, Bool.true_and]
      rw [hdm, oAt_get hkl] at hsu
      have hwo := (ordOk_iff.1 (HK.out.2 _ (List.getElem_mem hkl))).2.2
      have hce := fun W (hW : Ext w W) => (HO.out.ext hW).at hkl
      obtain ⟨o, ho⟩ : ∃ o, os[k] = o := ⟨_, rfl⟩
      simp only [ho] at h72 hsu hwo hce
      obtain ⟨q, hq⟩ : ∃ q, madeB bs o = q := ⟨_, rfl⟩
      rw [hq] at h72 hsu
      obtain ⟨s, hs⟩ : ∃ s, WT k = s := ⟨_, rfl⟩
      rw [hs] at hbd hsu ⊢
      cases q with
      | true =>
        rw [if_pos rfl] at hsu
        have hwr : IntKind.i64.wrap (s + o.worth) = s + o.worth := IntWalk.i64_in _ (by omega)
        obtain ⟨b, off, rfl, hbl, _, _, _, _, c4⟩ := hce wr hE.out
        have HSU := Lib.hid hsu
        clear ho hq hs hsu hbd hwo hdm hce
        go_wp2_with (refine h72.mono ?_; rintro e w2 ⟨rfl, e2⟩; have HE2 := Lib.hid (hE.out.trans e2); have c4' : w2.cell? ⟨b, off + k * 5 + 4, none⟩ = some (.int .i64 o.worth) := (Below.cell e2 (p := ⟨b, off + k * 5 + 4, none⟩) hbl).trans c4; clear e2 h72 c4)
        go_roundw
        case measure => simp [intOf]; omega
        case rel => exact ⟨k + 1, by omega, by go_num, by rw [HSU.out], HE2⟩
      | false =>
        rw [if_neg (by decide), Int.add_zero] at hsu
        have HSU := Lib.hid hsu
        clear ho hq hs hsu hbd hwo hdm hce
        go_wp2_with (refine h72.mono ?_; rintro e w2 ⟨rfl, e2⟩; have HE2 := Lib.hid (hE.out.trans e2); clear e2 h72)
        go_roundw
        case measure => simp [intOf]; omega
        case rel => exact ⟨k + 1, by omega, by go_num, by rw [HSU.out], HE2⟩
    · have hltz : ¬ (k : Int) < (n : Int) := by omega
      obtain rfl : k = n := by omega
      go_wp2
      go_ret
      exact ⟨rfl, hE.out⟩
end Go.Proofs.YtmlmnljbegcjcaaGreat

/- The reference: Does, Some, Births. -/
namespace Go.Proofs.YtmlmnljbegcjcaaGreat
open Go.RowKit Go.Shelf
attribute [local irreducible] bitCells

theorem run_field26_0 (x y : Int) (w : World) : (Instr.field 26 (.agg #[.int .i64 x, .int .i64 y]) 0).run Tryz.prog w = .ok (.int .i64 x) w := by
  have p1 : (part 2 #[.int .i64 x, .int .i64 y] 0).run Tryz.prog w = .ok (.int .i64 x) w := by unfold part; go_simp
  simp [Instr.field, run_underlying Tryz.underlying26, asAgg, p1]
theorem run_field26_1 (x y : Int) (w : World) : (Instr.field 26 (.agg #[.int .i64 x, .int .i64 y]) 1).run Tryz.prog w = .ok (.int .i64 y) w := by
  have p1 : (part 2 #[.int .i64 x, .int .i64 y] 1).run Tryz.prog w = .ok (.int .i64 y) w := by unfold part; go_simp
  simp [Instr.field, run_underlying Tryz.underlying26, asAgg, p1]
theorem nums_more (os : List Odr) (x : Int) : ∀ d, numsTo (doesB os [x]) (os.length + d) = numsTo (doesB os [x]) os.length
  | 0 => rfl
  | d + 1 => by
    rw [show os.length + (d + 1) = os.length + d + 1 from rfl, numsTo_succ, nums_more os x d, if_neg (fun h => by have := does_lt h; omega), List.append_nil]
set_option maxRecDepth 100000 in
set_option maxHeartbeats 2000000 in
theorem refDoes_any {A : Option Addr} {n c : Nat} {os : List Odr} {w : World} (h : IsOrders w A n c os) (x : Int) :
    Calls Tryz.prog 19 #[.slice A n c, .int .i64 x] w (IntsPost 3 (doesOf os x) (ordersErr os) w) := by
  have h21 := fun W (hW : Ext w W) => refCheck_any (h.ext hW)
  have h59 := fun hk W (hW : Ext w W) k hkl => made_any (h.ext hW) (orders_ok hk).2 x k hkl
  have hfew := fun hk => (orders_ok (os := os) hk).1.2
  obtain ⟨E, hE⟩ : ∃ E, ordersErr os = E := ⟨_, rfl⟩
  have hd : doesOf os x = if E = 0 then numsTo (doesB os [x]) 14 else [] := by rw [← hE]; rfl
  obtain ⟨ds, hds⟩ : ∃ ds, doesOf os x = ds := ⟨_, rfl⟩
  rw [hds] at hd ⊢
  rw [hE] at h59 hfew ⊢
  simp only [hE] at h21
  have HD := Lib.hid hd
  have H21 := Lib.hid h21
  have H59 := Lib.hid h59
  have HF := Lib.hid hfew
  have HN := Lib.hid h.len
  have h0 := h21 w (Ext.refl w)
  clear hd hE hds h h21 h59 hfew
  by_cases he : E = 0
  · have hd := HD.out
    rw [if_pos he] at hd
    have h14 := HF.out he
    rw [show (14 : Nat) = os.length + (14 - os.length) from by omega, nums_more] at hd
    have H59' := Lib.hid (H59.out he)
    subst he
    have hn14 : n ≤ 14 := by have := HN.out; omega
    have HDD := Lib.hid hd
    clear hd
    go_enter Tryz.func19, Tryz.ntmps19
    go_wp2_with (refine h0.mono ?_; rintro e w1 ⟨rfl, e1⟩; have HE := Lib.hid e1; clear e1 h0)
    go_loopw [6, 7] (fun v i wr => ∃ k : Nat, k ≤ n ∧ i = .int .i64 k ∧ Hid (Ext w wr) ∧ Hid (∃ A c, v = .slice A (numsTo (doesB os [x]) k).length c ∧ Made w.heap.size 3 (numsTo (doesB os [x]) k) wr A c)) (fun _ i _ => n - (intOf i).toNat)
    case atStart => exact ⟨0, Nat.zero_le _, rfl, HE, Lib.hid ⟨none, 0, rfl, World.ownsRow_nil _ _ _ _⟩⟩
    case round =>
      obtain ⟨k, hk, rfl, hB, hO⟩ := hrel
      obtain ⟨A5, c5, rfl, hM⟩ := hO.out
      by_cases hlt : k < n
      · have hltz : (k : Int) < (n : Int) := by omega
        have hkl : k < os.length := by rw [← HN.out]; exact hlt
        have h59 := H59'.out wr hB.out k hkl
        have hs := numsTo_succ (doesB os [x]) k
        have hll := numsTo_len (doesB os [x]) k
        rw [does_iff hkl, oAt_get hkl] at hs
        obtain ⟨l, hl⟩ : ∃ l, numsTo (doesB os [x]) k = l := ⟨_, rfl⟩
        rw [hl] at hs hll hM ⊢
        obtain ⟨q, hq⟩ : ∃ q, doneB x os[k] = q := ⟨_, rfl⟩
        rw [hq] at h59 hs
        have HS := Lib.hid hs
        have HM := Lib.hid hM
        clear hs hl hM hO hq
        cases q with
        | true =>
          go_wp2_with (first | (refine h59.mono ?_; rintro e w2 ⟨rfl, e2⟩; have HE2 := Lib.hid (hB.out.trans e2); have HOA := Lib.hid ((owns_ext HM.out e2).alloc (.cells #[.int .i64 (k : Int)] 3)); have hz2 : w.heap.size ≤ w2.heap.size := HE2.out.size; clear e2 h59) | (at_builtin; refine wpList_app1 rfl 23 25 30 3 rfl Tryz.underlying30 _ 1 8 info3 rfl (by decide) (by decide) w.heap.size l.length _ _ rfl HOA.out w2.heap.size [.int .i64 (k : Int)] rfl rfl (row_last _ _ _ rfl) (encI_one _) (by omega) (by simp; omega) ?_; intro A9 c9 w3 hown hB3 _; have HW := Lib.hid hown; have HE3 := Lib.hid (Below.trans (HE2.out.trans (ext_alloc _ _)) hB3 : Ext w w3); clear hown hB3))
          go_roundw
          case measure => simp [intOf]; omega
          case rel =>
            have hs := HS.out
            rw [if_pos trivial] at hs
            refine ⟨k + 1, by omega, by go_num, HE3, Lib.hid ⟨A9, c9, by rw [hs]; simp, ?_⟩⟩
            unfold Made
            rw [hs, List.length_append, List.map_append]
            exact HW.out
        | false =>
          go_wp2_with (refine h59.mono ?_; rintro e w2 ⟨rfl, e2⟩; have HE2 := Lib.hid (hB.out.trans e2); have HM2 := Lib.hid (HM.out.ext e2); clear e2 h59)
          go_roundw
          case measure => simp [intOf]; omega
          case rel =>
            have hs := HS.out
            rw [if_neg (by decide), List.append_nil] at hs
            exact ⟨k + 1, by omega, by go_num, HE2, Lib.hid ⟨A5, c5, by rw [hs], by rw [hs]; exact HM2.out⟩⟩
      · have hltz : ¬ (k : Int) < (n : Int) := by omega
        obtain rfl : k = n := by omega
        rw [HN.out, ← HDD.out] at hM ⊢
        have HM := Lib.hid hM
        clear hM hO
        go_wp2
        go_ret2
        exact ints_made hB.out HM.out (Ext.refl w)
  · have hd := HD.out
    rw [if_neg he] at hd
    subst hd
    have heb : (E != 0) = true := by simp [he]
    go_enter Tryz.func19, Tryz.ntmps19
    go_wp2_with fail
    refine h0.mono ?_
    rintro e w1 ⟨rfl, e1⟩
    have HE := Lib.hid e1
    have h1 := H21.out w1 e1
    clear e1 h0
    go_wp2_with fail
    refine h1.mono ?_
    rintro e w2 ⟨rfl, e2⟩
    have HE2 := Lib.hid (HE.out.trans e2)
    clear e2 h1
    go_wp2
    go_ret2
    exact ints_none 3 _ HE2.out

set_option maxRecDepth 100000 in
set_option maxHeartbeats 2000000 in
theorem refSome_any {A : Option Addr} {n c : Nat} {os : List Odr} {w : World} (h : IsOrders w A n c os) (hk : ordersErr os = 0) :
    Calls Tryz.prog 66 #[.slice A n c] w fun e w' => e = .returned (.bool (os.all hasB)) ∧ Ext w w' := by
  have h56 := fun W (hW : Ext w W) k hkl => birthsOf_any (h.ext hW) (orders_ok hk).2 k hkl
  have HN := Lib.hid h.len
  have H56 := Lib.hid h56
  have hn14 : n ≤ 14 := by have := (orders_ok hk).1; have := h.len; omega
  have hf0 := run_field26_0
  have hf1 := run_field26_1
  clear h hk h56
  go_enter Tryz.func66, Tryz.ntmps66
  go_wp2
  go_loopw [3] (fun i wr => ∃ k : Nat, k ≤ n ∧ i = .int .i64 k ∧ Hid (Ext w wr) ∧ Hid (∀ j (hj : j < os.length), j < k → hasB os[j] = true)) (fun i _ => n - (intOf i).toNat)
  case atStart => exact ⟨0, Nat.zero_le _, rfl, Lib.hid (Ext.refl _), Lib.hid fun j _ h => absurd h (by omega)⟩
  case round =>
    obtain ⟨k, hk, rfl, hE, hA⟩ := hrel
    by_cases hlt : k < n
    · have hltz : (k : Int) < (n : Int) := by omega
      have hkl : k < os.length := by rw [← HN.out]; exact hlt
      have h0 := H56.out wr hE.out k hkl
      have h1 := fun W (hW : Ext w W) => H56.out W hW k hkl
      have hhb : hasB os[k] = decide (bLo os[k] ≤ bHi os[k]) := rfl
      obtain ⟨lo, hlo⟩ : ∃ lo, bLo os[k] = lo := ⟨_, rfl⟩
      obtain ⟨hi', hhi⟩ : ∃ hi', bHi os[k] = hi' := ⟨_, rfl⟩
      rw [hlo, hhi] at h0 hhb
      simp only [hlo, hhi] at h1
      have H1 := Lib.hid h1
      have HHB := Lib.hid hhb
      clear hlo hhi h1 hhb
      by_cases hc : lo ≤ hi'
      · have hcz : ¬ hi' < lo := by omega
        go_wp2_with fail
        refine h0.mono ?_
        rintro e w1 ⟨rfl, e1⟩
        have HE1 := Lib.hid (hE.out.trans e1)
        have h1 := H1.out w1 HE1.out
        clear e1 h0
        go_wp2_with fail
        refine h1.mono ?_
        rintro e w2 ⟨rfl, e2⟩
        have HE2 := Lib.hid (HE1.out.trans e2)
        clear e2 h1
        go_wp2
        go_roundw
        case measure => simp [intOf]; omega
        case rel =>
          refine ⟨k + 1, by omega, by go_num, HE2, Lib.hid fun j hj h => ?_⟩
          by_cases e : j = k
          · subst e; rw [HHB.out]; simp; omega
          · exact hA.out j hj (by omega)
      · have hcz : hi' < lo := by omega
        go_wp2_with fail
        refine h0.mono ?_
        rintro e w1 ⟨rfl, e1⟩
        have HE1 := Lib.hid (hE.out.trans e1)
        have h1 := H1.out w1 HE1.out
        clear e1 h0
        go_wp2_with fail
        refine h1.mono ?_
        rintro e w2 ⟨rfl, e2⟩
        have HE2 := Lib.hid (HE1.out.trans e2)
        clear e2 h1
        have hf : os.all hasB = false := by
          rw [List.all_eq_false]
          exact ⟨os[k], List.getElem_mem hkl, by rw [HHB.out, decide_eq_false (by omega)]; decide⟩
        have HF := Lib.hid hf
        clear hf
        go_wp2
        go_ret
        exact ⟨by rw [HF.out]; rfl, HE2.out⟩
    · have hltz : ¬ (k : Int) < (n : Int) := by omega
      have hf : os.all hasB = true := by
        rw [List.all_eq_true]
        intro o ho
        obtain ⟨j, hj, rfl⟩ := List.getElem_of_mem ho
        exact hA.out j hj (by have := HN.out; omega)
      have HF := Lib.hid hf
      clear hf
      go_wp2
      go_ret
      exact ⟨by rw [HF.out]; rfl, hE.out⟩
end Go.Proofs.YtmlmnljbegcjcaaGreat

/- The reference: Births. -/
namespace Go.Proofs.YtmlmnljbegcjcaaGreat
open Go.RowKit Go.Shelf

theorem range_end {tmps : Array Value} {w1 : World} {p : Nat} {e : Value} {a b : Value} (hp : tmps.getD 4 undef = .pointer (some ⟨p, 0, none⟩)) (ht : tmps.getD 5 undef = e) (hr : w1.heap[p]? = some (.cells #[a, b] 26 (0, 0))) :
    (results Tryz.f17 tmps).run Tryz.prog w1 = .ok (.tuple #[.agg #[a, b], e]) w1 :=
  results_cell_tmp 26 rfl tmps w1 p _ _ hp ht (run_loadVar_row (P := Tryz.prog) _ _ 26 26 _ (0, 0) _ hr Tryz.underlying26 rfl (by rw [size26]; rfl))

set_option maxRecDepth 100000 in
set_option maxHeartbeats 4000000 in
theorem refBirths_any {A : Option Addr} {n c : Nat} {os : List Odr} {w : World} (h : IsOrders w A n c os) (x : Int) :
    Calls Tryz.prog 17 #[.slice A n c, .int .i64 x] w (RangePost (birthsAns os x) w) := by
  have h21 := fun W (hW : Ext w W) => refCheck_any (h.ext hW)
  have h56 := fun hk W (hW : Ext w W) k hkl => birthsOf_any (h.ext hW) (orders_ok (os := os) hk).2 k hkl
  have h55 := fun W => refIsOrder_any A n c x W
  have HLEN := Lib.hid h.len
  obtain ⟨E, hE⟩ : ∃ E, ordersErr os = E := ⟨_, rfl⟩
  obtain ⟨Z, hZ⟩ : ∃ Z, birthsAns os x = Z := ⟨_, rfl⟩
  have ha : Z = if E = 0 then if 0 ≤ x ∧ x < os.length then if hasB (oAt os x.toNat) then ((bLo (oAt os x.toNat), bHi (oAt os x.toNat)), 0) else ((0, 0), 22) else ((0, 0), 2) else ((0, 0), E) := by rw [← hZ, ← hE]; rfl
  rw [hZ]
  simp only [hE] at h21
  rw [hE] at h56
  obtain ⟨p, hp⟩ : ∃ p, w.heap.size = p := ⟨_, rfl⟩
  obtain ⟨w0, hw0⟩ : ∃ w0, w.alloc (.cells #[.int .i64 0, .int .i64 0] 26) = w0 := ⟨_, rfl⟩
  have e0 : Ext w w0 := by rw [← hw0]; exact ext_alloc _ _
  have r0 : w0.heap[p]? = some (.cells #[.int .i64 0, .int .i64 0] 26 (0, 0)) := by rw [← hw0]; exact row_last _ _ _ hp.symm
  have HA := Lib.hid ha
  have H21 := Lib.hid h21
  have H56 := Lib.hid h56
  have HE0 := Lib.hid e0
  have HR0 := Lib.hid r0
  have HP := Lib.hid (Nat.le_of_eq hp)
  have h0 := h21 w0 e0
  clear ha hE hZ h h21 h56 e0 r0
  by_cases he : E = 0
  · have ha := HA.out
    rw [if_pos he] at ha
    have h56 := H56.out he
    have H56' := Lib.hid h56
    subst he
    by_cases hx : 0 ≤ x ∧ x < os.length
    · rw [if_pos hx] at ha
      obtain ⟨k, hk⟩ : ∃ k : Nat, x = k := ⟨x.toNat, by omega⟩
      subst hk
      have hkl : k < os.length := by omega
      have h55' := h55
      rw [show isOrd n (k : Int) = true from by have := HLEN.out; simp [isOrd]; omega] at h55'
      have hoat := oAt_get hkl
      simp only [Int.toNat_natCast, hoat] at ha
      have h56 := fun W hW => H56'.out W hW k hkl
      have hhb : hasB os[k] = decide (bLo os[k] ≤ bHi os[k]) := rfl
      obtain ⟨lo, hlo⟩ : ∃ lo, bLo os[k] = lo := ⟨_, rfl⟩
      obtain ⟨hi', hhi⟩ : ∃ hi', bHi os[k] = hi' := ⟨_, rfl⟩
      rw [hlo, hhi] at ha hhb
      simp only [hlo, hhi] at h56
      rw [hhb] at ha
      have H56'' := Lib.hid h56
      have HAA := Lib.hid ha
      clear hlo hhi hhb hoat h56 h55 hx ha
      by_cases hc : lo ≤ hi'
      · have ha := HAA.out
        rw [if_pos (by simpa using hc)] at ha
        subst ha
        have hcz : ¬ hi' < lo := by omega
        go_enter Tryz.func17, Tryz.ntmps17
        go_upto_region 1 with fail
        clear hp hw0
        go_wp2_with fail
        refine h0.mono ?_
        rintro e w1 ⟨rfl, e1⟩
        have HE1 := Lib.hid (HE0.out.trans e1)
        have hr := row_ext HR0.out e1
        have HR1 := Lib.hid hr
        clear e1 h0
        clear hr
        go_wp2_with fail
        refine (h55' w1).mono ?_
        rintro e w2 ⟨rfl, h2⟩
        subst w2
        have h56 := H56''.out w1 HE1.out
        go_wp2_with fail
        refine h56.mono ?_
        rintro e w3 ⟨rfl, e3⟩
        have HE3 := Lib.hid (HE1.out.trans e3)
        have hr := row_ext HR1.out e3
        have HR3 := Lib.hid hr
        have hpl : p < w3.heap.size := (Array.getElem?_eq_some_iff.1 hr).1
        clear e3 h56
        have q0 : w3.cell? ⟨p, 0, none⟩ = some (.int .i64 0) := cell_of_row _ _ _ _ _ _ hr
        have q1 : w3.cell? ⟨p, 1, none⟩ = some (.int .i64 0) := cell_of_row _ _ _ _ _ _ hr
        have fz0 : w3.frozen? ⟨p, 0, none⟩ = false := (by simp [World.frozen?, hr])
        have fz1 : w3.frozen? ⟨p, 1, none⟩ = false := (by simp [World.frozen?, hr])
        clear hr
        go_wp2
        refine bodyPost_ret (v := .tuple #[.agg #[.int .i64 lo, .int .i64 hi'], .int .i64 0]) (range_end rfl rfl (row_alloc _ _ _ _ (set2_row w3 p _ _ _ _ 26 HR3.out))) rfl ⟨rfl, (set_kept (set_kept HE3.out HP.out) HP.out).trans (ext_alloc _ _)⟩
      · have ha := HAA.out
        rw [if_neg (by simpa using hc)] at ha
        subst ha
        have hcz : hi' < lo := by omega
        go_enter Tryz.func17, Tryz.ntmps17
        go_upto_region 1 with fail
        clear hp hw0
        go_wp2_with fail
        refine h0.mono ?_
        rintro e w1 ⟨rfl, e1⟩
        have HE1 := Lib.hid (HE0.out.trans e1)
        have hr := row_ext HR0.out e1
        have HR1 := Lib.hid hr
        clear e1 h0
        clear hr
        go_wp2_with fail
        refine (h55' w1).mono ?_
        rintro e w2 ⟨rfl, h2⟩
        subst w2
        have h56 := H56''.out w1 HE1.out
        go_wp2_with fail
        refine h56.mono ?_
        rintro e w3 ⟨rfl, e3⟩
        have HE3 := Lib.hid (HE1.out.trans e3)
        have hr := row_ext HR1.out e3
        have HR3 := Lib.hid hr
        have hpl : p < w3.heap.size := (Array.getElem?_eq_some_iff.1 hr).1
        clear e3 h56
        have q0 : w3.cell? ⟨p, 0, none⟩ = some (.int .i64 0) := cell_of_row _ _ _ _ _ _ hr
        have q1 : w3.cell? ⟨p, 1, none⟩ = some (.int .i64 0) := cell_of_row _ _ _ _ _ _ hr
        have fz0 : w3.frozen? ⟨p, 0, none⟩ = false := (by simp [World.frozen?, hr])
        have fz1 : w3.frozen? ⟨p, 1, none⟩ = false := (by simp [World.frozen?, hr])
        clear hr
        go_wp2
        refine bodyPost_ret (v := .tuple #[.agg #[.int .i64 0, .int .i64 0], .int .i64 22]) (range_end rfl rfl (row_alloc _ _ _ _ (set2_row w3 p _ _ _ _ 26 HR3.out))) rfl ⟨rfl, (set_kept (set_kept HE3.out HP.out) HP.out).trans (ext_alloc _ _)⟩
    · rw [if_neg hx] at ha
      subst ha
      have h55' := h55
      rw [show isOrd n x = false from by have := HLEN.out; simp [isOrd]; omega] at h55'
      clear h56 h55 hx
      go_enter Tryz.func17, Tryz.ntmps17
      go_upto_region 1 with fail
      clear hp hw0
      go_wp2_with fail
      refine h0.mono ?_
      rintro e w1 ⟨rfl, e1⟩
      have HE1 := Lib.hid (HE0.out.trans e1)
      have hr := row_ext HR0.out e1
      have HR1 := Lib.hid hr
      clear e1 h0
      clear hr
      go_wp2_with fail
      refine (h55' w1).mono ?_
      rintro e w2 ⟨rfl, h2⟩
      subst w2
      have hr := HR1.out
      have hpl : p < w1.heap.size := (Array.getElem?_eq_some_iff.1 hr).1
      have q0 : w1.cell? ⟨p, 0, none⟩ = some (.int .i64 0) := cell_of_row _ _ _ _ _ _ hr
      have q1 : w1.cell? ⟨p, 1, none⟩ = some (.int .i64 0) := cell_of_row _ _ _ _ _ _ hr
      have fz0 : w1.frozen? ⟨p, 0, none⟩ = false := (by simp [World.frozen?, hr])
      have fz1 : w1.frozen? ⟨p, 1, none⟩ = false := (by simp [World.frozen?, hr])
      clear hr
      go_wp2
      refine bodyPost_ret (v := .tuple #[.agg #[.int .i64 0, .int .i64 0], .int .i64 2]) (range_end rfl rfl (set2_row w1 p _ _ _ _ 26 HR1.out)) rfl ⟨rfl, set_kept (set_kept HE1.out HP.out) HP.out⟩
  · have ha := HA.out
    rw [if_neg he] at ha
    subst ha
    have heb : (E != 0) = true := by simp [he]
    clear h55
    go_enter Tryz.func17, Tryz.ntmps17
    go_upto_region 1 with fail
    clear hp hw0
    go_wp2_with fail
    refine h0.mono ?_
    rintro e w1 ⟨rfl, e1⟩
    have HE1 := Lib.hid (HE0.out.trans e1)
    have hr := row_ext HR0.out e1
    have HR1 := Lib.hid hr
    clear e1 h0
    clear hr
    have h1 := H21.out w1 HE1.out
    go_wp2_with fail
    refine h1.mono ?_
    rintro e w2 ⟨rfl, e2⟩
    have HE2 := Lib.hid (HE1.out.trans e2)
    have hr := row_ext HR1.out e2
    have HR2 := Lib.hid hr
    have hpl : p < w2.heap.size := (Array.getElem?_eq_some_iff.1 hr).1
    clear e2 h1
    have q0 : w2.cell? ⟨p, 0, none⟩ = some (.int .i64 0) := cell_of_row _ _ _ _ _ _ hr
    have q1 : w2.cell? ⟨p, 1, none⟩ = some (.int .i64 0) := cell_of_row _ _ _ _ _ _ hr
    have fz0 : w2.frozen? ⟨p, 0, none⟩ = false := (by simp [World.frozen?, hr])
    have fz1 : w2.frozen? ⟨p, 1, none⟩ = false := (by simp [World.frozen?, hr])
    clear hr
    go_wp2
    refine bodyPost_ret (v := .tuple #[.agg #[.int .i64 0, .int .i64 0], .int .i64 E]) (range_end rfl rfl (set2_row w2 p _ _ _ _ 26 HR2.out)) rfl ⟨rfl, set_kept (set_kept HE2.out HP.out) HP.out⟩
end Go.Proofs.YtmlmnljbegcjcaaGreat

/- The verifier's examples: rg, Order. -/
namespace Go.Proofs.YtmlmnljbegcjcaaGreat
open Go.RowKit Go.Shelf

theorem size56 : (Tryz.prog.info? 56).map (·.size) = some 5 := by kernel_rfl
set_option maxRecDepth 100000 in
set_option maxHeartbeats 1000000 in
theorem rg_any (x y : Int) (w : World) : Calls Tryz.prog 48 #[.int .i64 x, .int .i64 y] w fun e w' => e = .returned (.agg #[.int .i64 x, .int .i64 y]) ∧ Ext w w' := by
  obtain ⟨w0, hw0⟩ : ∃ w0, w.alloc (.cells #[.int .i64 0, .int .i64 0] 26) = w0 := ⟨_, rfl⟩
  have e0 : Ext w w0 := by rw [← hw0]; exact ext_alloc _ _
  have r0 : w0.heap[w.heap.size]? = some (.cells #[.int .i64 0, .int .i64 0] 26 (0, 0)) := by rw [← hw0]; exact row_last _ _ _ rfl
  go_enter Tryz.func48, Tryz.ntmps48
  go_upto_region 1 with fail
  obtain ⟨p, hp⟩ : ∃ p, w.heap.size = p := ⟨_, rfl⟩
  have HP := Lib.hid (Nat.le_of_eq hp)
  rw [hp] at r0 ⊢
  have HE := Lib.hid e0
  have HR := Lib.hid r0
  have q0 : w0.cell? ⟨p, 0, none⟩ = some (.int .i64 0) := cell_of_row _ _ _ _ _ _ r0
  have q1 : w0.cell? ⟨p, 1, none⟩ = some (.int .i64 0) := cell_of_row _ _ _ _ _ _ r0
  have fz0 : w0.frozen? ⟨p, 0, none⟩ = false := by simp [World.frozen?, r0]
  have fz1 : w0.frozen? ⟨p, 1, none⟩ = false := by simp [World.frozen?, r0]
  clear hw0 hp e0 r0
  go_wp2
  refine bodyPost_ret (v := .agg #[.int .i64 x, .int .i64 y]) (results_row 26 rfl _ _ p _ rfl (run_loadVar_row (P := Tryz.prog) _ _ 26 26 _ (0, 0) _ (set2_row w0 p _ _ _ _ 26 HR.out) Tryz.underlying26 rfl (by rw [size26]; rfl))) rfl ⟨rfl, set_kept (set_kept HE.out HP.out) HP.out⟩

theorem set5_row (W : World) (g : Nat) (a b c d e a0 b0 c0 d0 e0 : Value) (t : TypeId) (h : W.heap[g]? = some (.cells #[a0, b0, c0, d0, e0] t (0, 0))) :
    (((((W.setCell ⟨g, 0, none⟩ a).setCell ⟨g, 1, none⟩ b).setCell ⟨g, 2, none⟩ c).setCell ⟨g, 3, none⟩ d).setCell ⟨g, 4, none⟩ e).heap[g]? = some (.cells #[a, b, c, d, e] t (0, 0)) := by
  have h1 := row_setCell W g 0 a _ t _ h
  have h2 := row_setCell _ g 1 b _ t _ h1
  have h3 := row_setCell _ g 2 c _ t _ h2
  have h4 := row_setCell _ g 3 d _ t _ h3
  exact row_setCell _ g 4 e _ t _ h4
set_option maxRecDepth 100000 in
set_option maxHeartbeats 2000000 in
theorem order49_any (a b c d e : Int) (w : World) : Calls Tryz.prog 49 #[.int .i64 a, .int .i64 b, .int .i64 c, .int .i64 d, .int .i64 e] w fun r w' => r = .returned (.agg #[.int .i64 a, .int .i64 b, .int .i64 c, .int .i64 d, .int .i64 e]) ∧ Ext w w' := by
  obtain ⟨w0, hw0⟩ : ∃ w0, w.alloc (.cells #[.int .i64 0, .int .i64 0, .int .i64 0, .int .i64 0, .int .i64 0] 56) = w0 := ⟨_, rfl⟩
  have e0 : Ext w w0 := by rw [← hw0]; exact ext_alloc _ _
  have r0 : w0.heap[w.heap.size]? = some (.cells #[.int .i64 0, .int .i64 0, .int .i64 0, .int .i64 0, .int .i64 0] 56 (0, 0)) := by rw [← hw0]; exact row_last _ _ _ rfl
  go_enter Tryz.func49, Tryz.ntmps49
  go_upto_region 1 with fail
  obtain ⟨p, hp⟩ : ∃ p, w.heap.size = p := ⟨_, rfl⟩
  have HP := Lib.hid (Nat.le_of_eq hp)
  rw [hp] at r0 ⊢
  have HE := Lib.hid e0
  have HR := Lib.hid r0
  clear hw0 hp e0 r0
  go_wp2_with fail
  refine (rg_any a b w0).mono ?_
  rintro r w1 ⟨rfl, e1⟩
  have HE1 := Lib.hid (HE.out.trans e1)
  have HR1 := Lib.hid (row_ext HR.out e1)
  clear e1
  go_wp2_with fail
  refine (rg_any c d w1).mono ?_
  rintro r w2 ⟨rfl, e2⟩
  have HE2 := Lib.hid (HE1.out.trans e2)
  have r2 := row_ext HR1.out e2
  have HR2 := Lib.hid r2
  have q0 : w2.cell? ⟨p, 0, none⟩ = some (.int .i64 0) := cell_of_row _ _ _ _ _ _ r2
  have q1 : w2.cell? ⟨p, 1, none⟩ = some (.int .i64 0) := cell_of_row _ _ _ _ _ _ r2
  have q2 : w2.cell? ⟨p, 2, none⟩ = some (.int .i64 0) := cell_of_row _ _ _ _ _ _ r2
  have q3 : w2.cell? ⟨p, 3, none⟩ = some (.int .i64 0) := cell_of_row _ _ _ _ _ _ r2
  have q4 : w2.cell? ⟨p, 4, none⟩ = some (.int .i64 0) := cell_of_row _ _ _ _ _ _ r2
  have f0 : w2.frozen? ⟨p, 0, none⟩ = false := by simp [World.frozen?, r2]
  have f1 : w2.frozen? ⟨p, 1, none⟩ = false := by simp [World.frozen?, r2]
  have f2 : w2.frozen? ⟨p, 2, none⟩ = false := by simp [World.frozen?, r2]
  have f3 : w2.frozen? ⟨p, 3, none⟩ = false := by simp [World.frozen?, r2]
  have f4 : w2.frozen? ⟨p, 4, none⟩ = false := by simp [World.frozen?, r2]
  clear e2 r2
  go_wp2
  refine bodyPost_ret (v := .agg #[.int .i64 a, .int .i64 b, .int .i64 c, .int .i64 d, .int .i64 e]) (results_row 56 rfl _ _ p _ rfl (run_loadVar_row (P := Tryz.prog) _ _ 56 56 _ (0, 0) _ (set5_row w2 p _ _ _ _ _ _ _ _ _ _ 56 HR2.out) Tryz.underlying56 rfl (by rw [size56]; rfl))) rfl ⟨rfl, set_kept (set_kept (set_kept (set_kept (set_kept HE2.out HP.out) HP.out) HP.out) HP.out) HP.out⟩
/-- The orders A of the chapter's examples, and the orders B. -/
def exA : List Odr := [⟨100, 110, 20, 60, 5⟩, ⟨90, 90, 10, 30, 3⟩, ⟨150, 150, 0, 40, 4⟩, ⟨130, 130, 25, 50, 6⟩]
def exB : List Odr := [⟨100, 110, 20, 60, 5⟩, ⟨90, 90, 10, 30, 3⟩, ⟨150, 150, 0, 40, 4⟩, ⟨130, 140, 30, 35, 6⟩]
def cellsO (os : List Odr) : Array Value := (os.flatMap encO).toArray
set_option maxRecDepth 100000 in
set_option maxHeartbeats 2000000 in
theorem orders50_any (w : World) : Calls Tryz.prog 50 #[] w fun r w' => ∃ g, r = .returned (.slice (some ⟨g, 0, none⟩) 4 4) ∧ w.heap.size ≤ g ∧ w'.heap[g]? = some (.cells (cellsO exA) 56 (0, 0)) ∧ Ext w w' := by
  have h := order49_any
  go_enter Tryz.func50, Tryz.ntmps50
  go_wp2_with fail
  refine (h 100 110 20 60 5 w).mono ?_
  rintro r w1 ⟨rfl, e1⟩
  have HE1 := Lib.hid e1
  clear e1
  go_wp2_with fail
  refine (h 90 90 10 30 3 w1).mono ?_
  rintro r w2 ⟨rfl, e2⟩
  have HE2 := Lib.hid (HE1.out.trans e2)
  clear e2
  go_wp2_with fail
  refine (h 150 150 0 40 4 w2).mono ?_
  rintro r w3 ⟨rfl, e3⟩
  have HE3 := Lib.hid (HE2.out.trans e3)
  clear e3
  go_wp2_with fail
  refine (h 130 130 25 50 6 w3).mono ?_
  rintro r w4 ⟨rfl, e4⟩
  have HE4 := Lib.hid (HE3.out.trans e4)
  clear e4 h
  go_wp2
  go_ret
  exact ⟨_, rfl, HE4.out.size, row_last _ _ _ rfl, HE4.out.trans (ext_alloc _ _)⟩

theorem orders_row {W : World} {g : Nat} {os : List Odr} {t : TypeId} {fr : Nat × Nat} (h : W.heap[g]? = some (.cells (cellsO os) t fr)) (hn : os.length ≤ 9223372036854775807) : IsOrders W (some ⟨g, 0, none⟩) os.length os.length os := by
  refine ⟨rfl, hn, Nat.le_refl _, .inr ⟨g, 0, rfl, (Array.getElem?_eq_some_iff.1 h).1, fun j o hj i v hv => ?_⟩⟩
  rw [Nat.zero_add, cell_of_row _ _ _ _ _ _ h]
  unfold cellsO
  rw [List.getElem?_toArray]
  have := flat_at2 encO 5 (fun _ => rfl) os j o i v hj hv
  simpa using this
theorem exA_ok : ordersErr exA = 0 := by kernel_rfl
theorem exB_ok : ordersErr exB = 0 := by kernel_rfl
set_option maxRecDepth 100000 in
set_option maxHeartbeats 2000000 in
theorem none51_any (w : World) : Calls Tryz.prog 51 #[] w fun r w' => ∃ g, r = .returned (.slice (some ⟨g, 0, none⟩) 4 4) ∧ w.heap.size ≤ g ∧ w'.heap[g]? = some (.cells (cellsO exB) 56 (0, 0)) ∧ Ext w w' := by
  have h := order49_any
  go_enter Tryz.func51, Tryz.ntmps51
  go_wp2_with fail
  refine (orders50_any w).mono ?_
  rintro r w1 ⟨g, rfl, hg, hr, e1⟩
  have HE1 := Lib.hid e1
  have HR1 := Lib.hid hr
  have HG := Lib.hid hg
  clear e1 hr hg
  go_wp2_with fail
  refine (h 130 140 30 35 6 w1).mono ?_
  rintro r w2 ⟨rfl, e2⟩
  have HE2 := Lib.hid (HE1.out.trans e2)
  have r2 := row_ext HR1.out e2
  have HR2 := Lib.hid r2
  have q0 : w2.cell? ⟨g, 15, none⟩ = some (.int .i64 130) := cell_of_row _ _ _ _ _ _ r2
  have q1 : w2.cell? ⟨g, 16, none⟩ = some (.int .i64 130) := cell_of_row _ _ _ _ _ _ r2
  have q2 : w2.cell? ⟨g, 17, none⟩ = some (.int .i64 25) := cell_of_row _ _ _ _ _ _ r2
  have q3 : w2.cell? ⟨g, 18, none⟩ = some (.int .i64 50) := cell_of_row _ _ _ _ _ _ r2
  have q4 : w2.cell? ⟨g, 19, none⟩ = some (.int .i64 6) := cell_of_row _ _ _ _ _ _ r2
  have f0 : w2.frozen? ⟨g, 15, none⟩ = false := by simp [World.frozen?, r2]
  have f1 : w2.frozen? ⟨g, 16, none⟩ = false := by simp [World.frozen?, r2]
  have f2 : w2.frozen? ⟨g, 17, none⟩ = false := by simp [World.frozen?, r2]
  have f3 : w2.frozen? ⟨g, 18, none⟩ = false := by simp [World.frozen?, r2]
  have f4 : w2.frozen? ⟨g, 19, none⟩ = false := by simp [World.frozen?, r2]
  clear e2 r2 h
  go_wp2
  go_ret
  refine ⟨g, rfl, HG.out, ?_, set_kept (set_kept (set_kept (set_kept (set_kept HE2.out HG.out) HG.out) HG.out) HG.out) HG.out⟩
  exact row_setCell _ g 19 _ _ 56 _ (row_setCell _ g 18 _ _ 56 _ (row_setCell _ g 17 _ _ 56 _ (row_setCell _ g 16 _ _ 56 _ (row_setCell _ g 15 _ _ 56 _ HR2.out))))
end Go.Proofs.YtmlmnljbegcjcaaGreat

/- The reference: best, Best. -/
namespace Go.Proofs.YtmlmnljbegcjcaaGreat
open Go.RowKit Go.Shelf

theorem stab_len : ∀ (f : Nat) (l : List Odr), (stab f l).length ≤ f
  | 0, _ => by simp [stab]
  | f + 1, l => by
    unfold stab
    cases minHi l with
    | none => simp
    | some x => simp; exact stab_len f _
/-- The orders that baths leave undone. -/
def restOf (os : List Odr) (l : List Int) : List Odr := os.filter fun o => !madeB l o
theorem restOf_snoc (os : List Odr) (l : List Int) (x : Int) : restOf os (l ++ [x]) = (restOf os l).filter fun o => !doneB x o := by
  unfold restOf
  rw [List.filter_filter]
  refine List.filter_congr fun o _ => ?_
  rw [made_snoc, Bool.not_or, Bool.and_comm]
theorem restOf_nil (os : List Odr) : restOf os [] = os := by
  unfold restOf
  exact List.filter_eq_self.2 fun o _ => by simp [madeB]
/-- What is known of the next bath when the first i orders have been looked at. -/
def NextTo (os : List Odr) (l : List Int) (i : Nat) (nx : Int) (fd : Bool) : Prop :=
  (fd = false ∧ nx = 0 ∧ ∀ j (hj : j < os.length), j < i → madeB l os[j] = true) ∨
  (fd = true ∧ (∃ j, ∃ (hj : j < os.length), j < i ∧ madeB l os[j] = false ∧ bHi os[j] = nx) ∧ ∀ j (hj : j < os.length), j < i → madeB l os[j] = false → nx ≤ bHi os[j])
theorem next_step {os : List Odr} {l : List Int} {i : Nat} (hi : i < os.length) {nx : Int} {fd : Bool} (h : NextTo os l i nx fd) :
    NextTo os l (i + 1) (if madeB l os[i] = false ∧ (fd = false ∨ bHi os[i] < nx) then bHi os[i] else nx) (if madeB l os[i] = false ∧ (fd = false ∨ bHi os[i] < nx) then true else fd) := by
  by_cases hc : madeB l os[i] = false ∧ (fd = false ∨ bHi os[i] < nx)
  · rw [if_pos hc, if_pos hc]
    refine .inr ⟨rfl, ⟨i, hi, by omega, hc.1, rfl⟩, fun j hj hji hm => ?_⟩
    by_cases e : j = i
    · subst e; exact Int.le_refl _
    · rcases h with ⟨h1, _, h3⟩ | ⟨h1, _, h3⟩
      · have := h3 j hj (by omega); rw [this] at hm; cases hm
      · rcases hc.2 with h4 | h4
        · rw [h4] at h1; cases h1
        · have := h3 j hj (by omega) hm; omega
  · rw [if_neg hc, if_neg hc]
    rcases h with ⟨h1, h2, h3⟩ | ⟨h1, ⟨j0, hj0, a, b, c⟩, h3⟩
    · refine .inl ⟨h1, h2, fun j hj hji => ?_⟩
      by_cases e : j = i
      · subst e
        cases hm : madeB l os[j]
        · exact absurd ⟨hm, .inl h1⟩ hc
        · rfl
      · exact h3 j hj (by omega)
    · refine .inr ⟨h1, ⟨j0, hj0, by omega, b, c⟩, fun j hj hji hm => ?_⟩
      by_cases e : j = i
      · subst e
        exact Int.not_lt.1 fun h => hc ⟨hm, .inr h⟩
      · exact h3 j hj (by omega) hm
theorem next_end {os : List Odr} {l : List Int} {nx : Int} {fd : Bool} (h : NextTo os l os.length nx fd) : (fd = false ∧ restOf os l = []) ∨ (fd = true ∧ minHi (restOf os l) = some nx) := by
  rcases h with ⟨h1, _, h3⟩ | ⟨h1, ⟨j, hj, _, a, b⟩, h3⟩
  · refine .inl ⟨h1, List.filter_eq_nil_iff.2 fun o ho => ?_⟩
    obtain ⟨j, hj, rfl⟩ := List.getElem_of_mem ho
    simp [h3 j hj hj]
  · refine .inr ⟨h1, minHi_is (o := os[j]) (List.mem_filter.2 ⟨List.getElem_mem hj, by simp [a]⟩) b fun z hz => ?_⟩
    obtain ⟨h4, h5⟩ := List.mem_filter.1 hz
    obtain ⟨i, hi, rfl⟩ := List.getElem_of_mem h4
    exact h3 i hi hi (by simpa using h5)
end Go.Proofs.YtmlmnljbegcjcaaGreat

/- The reference: best, Best: the walks. -/
namespace Go.Proofs.YtmlmnljbegcjcaaGreat
open Go.RowKit Go.Shelf

set_option maxRecDepth 100000 in
set_option maxHeartbeats 4000000 in
theorem best67_any {A : Option Addr} {n c : Nat} {os : List Odr} {w : World} (h : IsOrders w A n c os) (hk : ordersErr os = 0) (hW : Whole os) :
    Calls Tryz.prog 67 #[.slice A n c] w fun e w' => Ext w w' ∧ ∃ A' c', e = .returned (.slice A' (fewB os).length c') ∧ Made w.heap.size 2 (fewB os) w' A' c' := by
  have hok := orders_ok hk
  have H56 := Lib.hid (fun W (hX : Ext w W) k hkl => birthsOf_any (h.ext hX) hok.2 k hkl)
  have H72 := Lib.hid (fun W (hX : Ext w W) A' n' c' bs hn' hm' hh k hkl => done72_any (h.ext hX) hok.2 A' n' c' bs hn' hm' hh k hkl)
  have HN := Lib.hid h.len
  have HW := Lib.hid hW
  have h14 : n ≤ 14 := by have := h.len; omega
  have hfl : (fewB os).length ≤ os.length := stab_len _ _
  have hfl14 : (fewB os).length ≤ 14 := by omega
  have hf1 := run_field26_1
  obtain ⟨ANS, hANS⟩ : ∃ ANS, fewB os = ANS := ⟨_, rfl⟩
  have HANS := Lib.hid hANS
  rw [hANS] at hfl14 ⊢
  clear h hk hok hW hfl hANS
  go_enter Tryz.func67, Tryz.ntmps67
  go_wp2
  go_loopw [3] (fun v wr => ∃ l : List Int, l ++ fewB (restOf os l) = ANS ∧ Hid (Ext w wr) ∧ Hid (∃ A c, v = .slice A l.length c ∧ Made w.heap.size 2 l wr A c)) (fun v _ => ANS.length + 1 - lenOf v)
  case atStart => exact ⟨[], by rw [restOf_nil, HANS.out]; rfl, Lib.hid (Ext.refl _), Lib.hid ⟨none, 0, rfl, World.ownsRow_nil _ _ _ _⟩⟩
  case round =>
    obtain ⟨l, hl, hE, hO⟩ := hrel
    obtain ⟨A3, c3, rfl, hM⟩ := hO.out
    have HM := Lib.hid hM
    have HL := Lib.hid hl
    have hll : l.length ≤ ANS.length := by rw [← hl]; simp
    clear hO hM hl
    go_wp2
    go_loopw [4, 5, 6] (fun nx fd i wq => ∃ (k : Nat) (x : Int) (b : Bool), k ≤ n ∧ i = .int .i64 k ∧ nx = .int .i64 x ∧ fd = .bool b ∧ Hid (NextTo os l k x b) ∧ Hid (Ext w wq) ∧ Hid (Made w.heap.size 2 l wq A3 c3)) (fun _ _ i _ => n - (intOf i).toNat)
    case atStart => exact ⟨0, 0, false, Nat.zero_le _, rfl, rfl, rfl, Lib.hid (.inl ⟨rfl, rfl, fun j _ h => absurd h (by omega)⟩), hE, HM⟩
    case round =>
      obtain ⟨k, x, b, hk, rfl, rfl, rfl, hNx, hX, hMq⟩ := hrel
      clear HM hE
      by_cases hlt : k < n
      · have hltz : (k : Int) < (n : Int) := by omega
        have hkl : k < os.length := by rw [← HN.out]; exact hlt
        have h72 := H72.out wr hX.out A3 l.length c3 l rfl (by omega) hMq.out.held.1 k hkl
        have hst := next_step hkl hNx.out
        have h56 := fun W hW => H56.out W hW k hkl
        obtain ⟨lo, hlo⟩ : ∃ lo, bLo os[k] = lo := ⟨_, rfl⟩
        obtain ⟨y, hy⟩ : ∃ y, bHi os[k] = y := ⟨_, rfl⟩
        obtain ⟨m, hm⟩ : ∃ m, madeB l os[k] = m := ⟨_, rfl⟩
        simp only [hlo, hy] at h56
        rw [hm] at h72
        rw [hy, hm] at hst
        have HST := Lib.hid hst
        have H56' := Lib.hid h56
        clear hst hlo hy hm h56
        cases m with
        | true =>
          go_wp2_with (refine h72.mono ?_; rintro e w2 ⟨rfl, e2⟩; have HE2 := Lib.hid (hX.out.trans e2); have HM2 := Lib.hid (hMq.out.ext e2); clear e2 h72)
          go_roundw
          case measure => simp [intOf]; omega
          case rel => exact ⟨k + 1, x, b, by omega, by go_num, rfl, rfl, Lib.hid (by have := HST.out; rw [if_neg (by simp), if_neg (by simp)] at this; exact this), HE2, HM2⟩
        | false =>
          cases b with
          | false =>
            go_wp2_with fail
            refine h72.mono ?_
            rintro e w2 ⟨rfl, e2⟩
            have HE2 := Lib.hid (hX.out.trans e2)
            have HM2 := Lib.hid (hMq.out.ext e2)
            have h56 := H56'.out w2 HE2.out
            clear e2 h72
            go_wp2_with fail
            refine h56.mono ?_
            rintro e w3 ⟨rfl, e3⟩
            have HE3 := Lib.hid (HE2.out.trans e3)
            have HM3 := Lib.hid (HM2.out.ext e3)
            clear e3 h56
            go_wp2
            go_roundw
            case measure => simp [intOf]; omega
            case rel => exact ⟨k + 1, y, true, by omega, by go_num, rfl, rfl, Lib.hid (by have := HST.out; rw [if_pos (by simp), if_pos (by simp)] at this; exact this), HE3, HM3⟩
          | true =>
            by_cases hc : y < x
            · go_wp2_with fail
              refine h72.mono ?_
              rintro e w2 ⟨rfl, e2⟩
              have HE2 := Lib.hid (hX.out.trans e2)
              have HM2 := Lib.hid (hMq.out.ext e2)
              have h56 := H56'.out w2 HE2.out
              clear e2 h72
              go_wp2_with fail
              refine h56.mono ?_
              rintro e w3 ⟨rfl, e3⟩
              have HE3 := Lib.hid (HE2.out.trans e3)
              have HM3 := Lib.hid (HM2.out.ext e3)
              have h56 := H56'.out w3 HE3.out
              clear e3
              go_wp2_with fail
              refine h56.mono ?_
              rintro e w4 ⟨rfl, e4⟩
              have HE4 := Lib.hid (HE3.out.trans e4)
              have HM4 := Lib.hid (HM3.out.ext e4)
              clear e4 h56
              have HC := Lib.hid hc
              go_wp2
              go_roundw
              case measure => simp [intOf]; omega
              case rel => exact ⟨k + 1, y, true, by omega, by go_num, rfl, rfl, Lib.hid (by have := HST.out; rw [if_pos (by simp [HC.out]), if_pos (by simp [HC.out])] at this; exact this), HE4, HM4⟩
            · go_wp2_with fail
              refine h72.mono ?_
              rintro e w2 ⟨rfl, e2⟩
              have HE2 := Lib.hid (hX.out.trans e2)
              have HM2 := Lib.hid (hMq.out.ext e2)
              have h56 := H56'.out w2 HE2.out
              clear e2 h72
              go_wp2_with fail
              refine h56.mono ?_
              rintro e w3 ⟨rfl, e3⟩
              have HE3 := Lib.hid (HE2.out.trans e3)
              have HM3 := Lib.hid (HM2.out.ext e3)
              clear e3 h56
              have HC := Lib.hid hc
              go_wp2
              go_roundw
              case measure => simp [intOf]; omega
              case rel => exact ⟨k + 1, x, true, by omega, by go_num, rfl, rfl, Lib.hid (by have := HST.out; rw [if_neg (by simp; have := HC.out; omega), if_neg (by simp; have := HC.out; omega)] at this; exact this), HE3, HM3⟩
      · have hltz : ¬ (k : Int) < (n : Int) := by omega
        obtain rfl : k = n := by omega
        have hne := hNx.out
        rw [HN.out] at hne
        have hen := next_end hne
        clear hne hNx
        cases b with
        | false =>
          have hr : restOf os l = [] := by
            rcases hen with ⟨_, h⟩ | ⟨h, _⟩
            · exact h
            · cases h
          have hla : l = ANS := by
            have := HL.out
            rw [hr, fewB_nil, List.append_nil] at this
            exact this
          subst hla
          clear hen hr
          go_wp2
          go_ret
          exact ⟨hX.out, A3, c3, rfl, hMq.out⟩
        | true =>
          have hr : minHi (restOf os l) = some x := by
            rcases hen with ⟨h, _⟩ | ⟨_, h⟩
            · cases h
            · exact h
          have hfs : fewB (restOf os l) = x :: fewB ((restOf os l).filter fun o => !doneB x o) := fewB_step (fun o ho => HW.out o (List.mem_filter.1 ho).1) hr
          have hln : (l ++ [x]) ++ fewB (restOf os (l ++ [x])) = ANS := by
            have := HL.out
            rw [hfs] at this
            rw [restOf_snoc, List.append_assoc]
            exact this
          have HLN := Lib.hid hln
          have hlt2 : l.length < ANS.length := by
            rw [← hln]; simp
          have HOA := Lib.hid (hMq.out.alloc (.cells #[.int .i64 x] 2))
          have hwz : w.heap.size ≤ wr.heap.size := hX.out.size
          clear hen hr hfs hln
          go_wp2_with (at_builtin; refine wpList_app1 rfl 37 39 36 2 rfl Tryz.underlying36 _ 1 8 info2 rfl (by decide) (by decide) w.heap.size l.length _ _ rfl HOA.out wr.heap.size [.int .i64 x] rfl rfl (row_last _ _ _ rfl) (encI_one _) (by omega) (by simp; omega) ?_; intro A9 c9 w3 hown hB3 _; have HW3 := Lib.hid hown; have HE3 := Lib.hid (Below.trans (hX.out.trans (ext_alloc _ _)) hB3 : Ext w w3); clear hown hB3)
          go_roundw
          case measure => simp [lenOf]; omega
          case rel =>
            refine ⟨l ++ [x], HLN.out, HE3, Lib.hid ⟨A9, c9, by simp, ?_⟩⟩
            unfold Made
            rw [List.length_append, List.map_append]
            exact HW3.out

set_option maxHeartbeats 2000000 in
theorem refBest_any {A : Option Addr} {n c : Nat} {os : List Odr} {w : World} (h : IsOrders w A n c os) :
    Calls Tryz.prog 24 #[.slice A n c] w (IntsPost 2 (bestB os) (wholeErr os) w) := by
  have H21 := Lib.hid (fun W (hW : Ext w W) => refCheck_any (h.ext hW))
  have H66 := Lib.hid (fun hk W (hW : Ext w W) => refSome_any (h.ext hW) hk)
  have H67 := Lib.hid (fun hk hWh W (hW : Ext w W) => best67_any (h.ext hW) hk hWh)
  have h0 := H21.out w (Ext.refl w)
  by_cases he : ordersErr os = 0
  · rw [he] at h0
    by_cases hs : os.all hasB = true
    · have hwe : wholeErr os = 0 := by unfold wholeErr; rw [if_pos he, if_pos hs]
      have hWh : Whole os := fun o ho => List.all_eq_true.1 hs o ho
      have hbb : bestB os = fewB os := by unfold bestB; rw [if_pos hwe]
      rw [hwe, hbb]
      have HE := Lib.hid (And.intro he (And.intro hs hWh))
      clear he hs hwe hWh hbb h
      go_enter Tryz.func24, Tryz.ntmps24
      go_wp2_with fail
      refine h0.mono ?_
      rintro e w1 ⟨rfl, e1⟩
      have HE1 := Lib.hid e1
      have h66 := H66.out HE.out.1 w1 e1
      rw [HE.out.2.1] at h66
      clear e1 h0
      go_wp2_with fail
      refine h66.mono ?_
      rintro e w2 ⟨rfl, e2⟩
      have HE2 := Lib.hid (HE1.out.trans e2)
      have h67 := H67.out HE.out.1 HE.out.2.2 w2 HE2.out
      clear e2 h66
      go_wp2_with fail
      refine h67.mono ?_
      rintro e w3 ⟨e3, A3, c3, rfl, hM⟩
      have HE3 := Lib.hid (HE2.out.trans e3)
      have HM := Lib.hid hM
      clear e3 h67 hM
      go_wp2
      go_ret2
      exact ints_made HE3.out HM.out HE2.out
    · have hsf : os.all hasB = false := by simpa using hs
      have hwe : wholeErr os = 22 := by unfold wholeErr; rw [if_pos he, if_neg hs]
      have hbb : bestB os = [] := by unfold bestB; rw [if_neg (by rw [hwe]; decide)]
      rw [hwe, hbb]
      have HE := Lib.hid (And.intro he hsf)
      clear he hs hwe hbb h hsf
      go_enter Tryz.func24, Tryz.ntmps24
      go_wp2_with fail
      refine h0.mono ?_
      rintro e w1 ⟨rfl, e1⟩
      have HE1 := Lib.hid e1
      have h66 := H66.out HE.out.1 w1 e1
      rw [HE.out.2] at h66
      clear e1 h0
      go_wp2_with fail
      refine h66.mono ?_
      rintro e w2 ⟨rfl, e2⟩
      have HE2 := Lib.hid (HE1.out.trans e2)
      clear e2 h66
      go_wp2
      go_ret2
      exact ints_none 2 _ HE2.out
  · have hwe : wholeErr os = ordersErr os := by unfold wholeErr; rw [if_neg he]
    have hbb : bestB os = [] := by unfold bestB; rw [if_neg (by rw [hwe]; exact he)]
    rw [hwe, hbb]
    obtain ⟨E, hE⟩ : ∃ E, ordersErr os = E := ⟨_, rfl⟩
    rw [hE] at he h0 ⊢
    have H21' := Lib.hid (fun W hW => hE ▸ H21.out W hW)
    have heb : (E != 0) = true := by simp [he]
    clear hwe hbb hE h
    go_enter Tryz.func24, Tryz.ntmps24
    go_wp2_with fail
    refine h0.mono ?_
    rintro e w1 ⟨rfl, e1⟩
    have HE1 := Lib.hid e1
    have h1 := H21'.out w1 e1
    clear e1 h0
    go_wp2_with fail
    refine h1.mono ?_
    rintro e w2 ⟨rfl, e2⟩
    have HE2 := Lib.hid (HE1.out.trans e2)
    clear e2 h1
    go_wp2
    go_ret2
    exact ints_none 2 _ HE2.out
end Go.Proofs.YtmlmnljbegcjcaaGreat

/- The verifier's wide. -/
namespace Go.Proofs.YtmlmnljbegcjcaaGreat
open Go.RowKit Go.Shelf
set_option maxHeartbeats 1000000 in
theorem wide_any {A : Option Addr} {n c : Nat} {os : List Odr} {w : World} (h : IsOrders w A n c os) :
    Calls Tryz.prog 35 #[.slice A n c] w fun e w' => e = .returned (.bool (decide (ordersErr os = 0) && decide (9 < n))) ∧ Ext w w' := by
  have h21 := refCheck_any h
  obtain ⟨E, hE⟩ : ∃ E, ordersErr os = E := ⟨_, rfl⟩
  rw [hE] at h21 ⊢
  clear hE h
  by_cases he : E = 0
  · subst he
    by_cases h9 : 9 < n
    · have hz : (9 : Int) < (n : Int) := by omega
      rw [decide_eq_true h9]
      go_enter Tryz.func35, Tryz.ntmps35
      go_wp2_with (refine h21.mono ?_; rintro e w1 ⟨rfl, e1⟩; have HE := Lib.hid e1; clear e1 h21)
      go_ret
      exact ⟨ret_bool (by simp; try omega), HE.out⟩
    · have hz : ¬ (9 : Int) < (n : Int) := by omega
      rw [decide_eq_false h9]
      go_enter Tryz.func35, Tryz.ntmps35
      go_wp2_with (refine h21.mono ?_; rintro e w1 ⟨rfl, e1⟩; have HE := Lib.hid e1; clear e1 h21)
      go_ret
      exact ⟨ret_bool (by simp; try omega), HE.out⟩
  · have heb : (E == 0) = false := by simp [he]
    rw [decide_eq_false he]
    go_enter Tryz.func35, Tryz.ntmps35
    go_wp2_with (refine h21.mono ?_; rintro e w1 ⟨rfl, e1⟩; have HE := Lib.hid e1; clear e1 h21)
    go_ret
    exact ⟨rfl, HE.out⟩
end Go.Proofs.YtmlmnljbegcjcaaGreat

/- The reference: IsBaths' region. -/
namespace Go.Proofs.YtmlmnljbegcjcaaGreat
open Go.RowKit Go.Shelf

/-- The slots of region 6 of function 38. -/
def ibD (i : Nat) : Tmp := if i = 0 then 13 else if i = 1 then 14 else if i = 2 then 15 else if i = 3 then 16 else if i = 4 then 17 else if i = 5 then 18 else if i = 6 then 19 else if i = 7 then 20 else if i = 8 then 21 else if i = 9 then 22 else if i = 10 then 23 else if i = 11 then 24 else if i = 12 then 25 else if i = 13 then 26 else if i = 14 then 27 else if i = 15 then 28 else if i = 16 then 29 else if i = 17 then 30 else if i = 18 then 31 else if i = 19 then 32 else if i = 20 then 33 else if i = 21 then 34 else if i = 22 then 35 else if i = 23 then 36 else if i = 24 then 37 else if i = 25 then 38 else if i = 26 then 39 else 40
noncomputable def ibReg : Array Oper := (Tryz.f38.body.bind (regionOf · 6)).getD #[]
theorem ib_size : ibReg.size = 28 := by kernel_rfl
/-- What each operation yields. -/
def ibAS (b off nn cc kk : Nat) (x : Int) (ix : Nat) (v : Value) (_ : World) : Prop :=
  match ix with
  | 0 => v = .slice (some ⟨b, off, none⟩) nn cc
  | 1 => v = .int .i64 (kk : Int)
  | 2 => v = .pointer (some ⟨b, off + kk, none⟩)
  | 3 => v = .int .i64 x
  | 4 => v = .bool true
  | 5 => v = .bool true
  | 6 => v = undef
  | 7 => v = undef
  | 8 => v = undef
  | 9 => v = undef
  | 10 => v = undef
  | 11 => v = .bool true
  | 12 => v = .bool true
  | 13 => v = undef
  | 14 => v = undef
  | 15 => v = undef
  | 16 => v = undef
  | 17 => v = undef
  | 18 => v = undef
  | 19 => v = undef
  | 20 => v = undef
  | 21 => v = undef
  | 22 => v = undef
  | 23 => v = undef
  | 24 => v = undef
  | 25 => v = undef
  | 26 => v = undef
  | 27 => v = .bool true
  | _ => True
def ibAOk (b off nn cc kk : Nat) (x : Int) (Q : Exit → Act → World → Prop) (a : Act) (W : World) (ix : Nat) (o : Oper) : Prop :=
  ((∀ j b, o.guard = some (j, b) → a.eval (.tmp (ibD j)) = .bool b) ∧ o.wp Tryz.prog a W (fun a'' W' => ∃ v, a'' = a.put o.dst v ∧ ibAS b off nn cc kk x ix v W' ∧ Below W.heap.size W W') Q) ∨ ((∃ j b, o.guard = some (j, b) ∧ a.eval (.tmp (ibD j)) ≠ .bool b) ∧ ibAS b off nn cc kk x ix undef W)
section
variable {b off nn cc kk : Nat} {x : Int} {Q : Exit → Act → World → Prop} {a : Act} {V W : World} {o : Oper}
set_option maxHeartbeats 1000000 in
theorem ibA_op0 (o0 : a.eval (.tmp 0) = .slice (some ⟨b, off, none⟩) nn cc) (ho : ibReg[0]? = some o) : ibAOk b off nn cc kk x Q a W 0 o := by
  have hop := op_at ho (·.op) (x := Op.move (Operand.tmp 0)) (by kernel_rfl)
  have hgd := op_at ho (·.guard) (x := none) (by kernel_rfl)
  refine .inl ⟨fun j b h => (by rw [hgd] at h; cases h), ?_⟩
  exact specs_value (R := fun v W => ibAS b off nn cc kk x 0 v W) (v := .slice (some ⟨b, off, none⟩) nn cc) (by simp [execOp, hop, go_sem, ev o0]) rfl (Ext.refl W)
set_option maxHeartbeats 1000000 in
theorem ibA_op1 (o3 : a.eval (.tmp 3) = .int .i64 (kk : Int)) (ho : ibReg[1]? = some o) : ibAOk b off nn cc kk x Q a W 1 o := by
  have hop := op_at ho (·.op) (x := Op.move (Operand.tmp 3)) (by kernel_rfl)
  have hgd := op_at ho (·.guard) (x := none) (by kernel_rfl)
  refine .inl ⟨fun j b h => (by rw [hgd] at h; cases h), ?_⟩
  exact specs_value (R := fun v W => ibAS b off nn cc kk x 1 v W) (v := .int .i64 (kk : Int)) (by simp [execOp, hop, go_sem, ev o3]) rfl (Ext.refl W)
set_option maxHeartbeats 1000000 in
theorem ibA_op2 (hlt : (kk : Int) < (nn : Int)) (haft : ∀ j, (o.after.any fun e => decide (e.on = j) && Region.binds .any e) = true → ibAS b off nn cc kk x j (a.eval (.tmp (ibD j))) W) (ho : ibReg[2]? = some o) : ibAOk b off nn cc kk x Q a W 2 o := by
  have hop := op_at ho (·.op) (x := Op.indexAddr 36 (Operand.tmp 13) (Operand.tmp 14)) (by kernel_rfl)
  have hgd := op_at ho (·.guard) (x := none) (by kernel_rfl)
  have e0 : a.eval (.tmp 13) = .slice (some ⟨b, off, none⟩) nn cc := haft 0 (op_at ho (fun o => o.after.any fun e => decide (e.on = 0) && Region.binds .any e) (x := true) (by kernel_rfl))
  have e1 : a.eval (.tmp 14) = .int .i64 (kk : Int) := haft 1 (op_at ho (fun o => o.after.any fun e => decide (e.on = 1) && Region.binds .any e) (x := true) (by kernel_rfl))
  refine .inl ⟨fun j b h => (by rw [hgd] at h; cases h), ?_⟩
  exact specs_value (R := fun v W => ibAS b off nn cc kk x 2 v W) (v := .pointer (some ⟨b, off + kk, none⟩)) (by simp [execOp, hop, go_sem, ev e0, ev e1, hlt]) rfl (Ext.refl W)
set_option maxHeartbeats 1000000 in
theorem ibA_op3 (cx : ∀ W, Ext V W → W.cell? ⟨b, off + kk, none⟩ = some (.int .i64 x)) (hB : Ext V W) (haft : ∀ j, (o.after.any fun e => decide (e.on = j) && Region.binds .any e) = true → ibAS b off nn cc kk x j (a.eval (.tmp (ibD j))) W) (ho : ibReg[3]? = some o) : ibAOk b off nn cc kk x Q a W 3 o := by
  have hop := op_at ho (·.op) (x := Op.load 2 (Operand.tmp 15)) (by kernel_rfl)
  have hgd := op_at ho (·.guard) (x := none) (by kernel_rfl)
  have e2 : a.eval (.tmp 15) = .pointer (some ⟨b, off + kk, none⟩) := haft 2 (op_at ho (fun o => o.after.any fun e => decide (e.on = 2) && Region.binds .any e) (x := true) (by kernel_rfl))
  refine .inl ⟨fun j b h => (by rw [hgd] at h; cases h), ?_⟩
  have cx' := cx W hB
  exact specs_value (R := fun v W => ibAS b off nn cc kk x 3 v W) (v := .int .i64 x) (by simp [execOp, hop, go_sem, ev e2, cx']) rfl (Ext.refl W)
set_option maxHeartbeats 1000000 in
theorem ibA_op4 (h1 : x < -10000) (haft : ∀ j, (o.after.any fun e => decide (e.on = j) && Region.binds .any e) = true → ibAS b off nn cc kk x j (a.eval (.tmp (ibD j))) W) (ho : ibReg[4]? = some o) : ibAOk b off nn cc kk x Q a W 4 o := by
  have hop := op_at ho (·.op) (x := Op.binOp BinOp.lss 2 (Operand.tmp 16) (Operand.const (Value.int IntKind.i64 (-10000))) 2) (by kernel_rfl)
  have hgd := op_at ho (·.guard) (x := none) (by kernel_rfl)
  have e3 : a.eval (.tmp 16) = .int .i64 x := haft 3 (op_at ho (fun o => o.after.any fun e => decide (e.on = 3) && Region.binds .any e) (x := true) (by kernel_rfl))
  refine .inl ⟨fun j b h => (by rw [hgd] at h; cases h), ?_⟩
  exact specs_value (R := fun v W => ibAS b off nn cc kk x 4 v W) (v := .bool true) (by simp [execOp, hop, go_sem, ev e3, h1]) rfl (Ext.refl W)
set_option maxHeartbeats 1000000 in
theorem ibA_op5 (haft : ∀ j, (o.after.any fun e => decide (e.on = j) && Region.binds .any e) = true → ibAS b off nn cc kk x j (a.eval (.tmp (ibD j))) W) (ho : ibReg[5]? = some o) : ibAOk b off nn cc kk x Q a W 5 o := by
  have hop := op_at ho (·.op) (x := Op.move (Operand.tmp 17)) (by kernel_rfl)
  have hgd := op_at ho (·.guard) (x := none) (by kernel_rfl)
  have e4 : a.eval (.tmp 17) = .bool true := haft 4 (op_at ho (fun o => o.after.any fun e => decide (e.on = 4) && Region.binds .any e) (x := true) (by kernel_rfl))
  refine .inl ⟨fun j b h => (by rw [hgd] at h; cases h), ?_⟩
  exact specs_value (R := fun v W => ibAS b off nn cc kk x 5 v W) (v := .bool true) (by simp [execOp, hop, go_sem, ev e4]) rfl (Ext.refl W)
set_option maxHeartbeats 1000000 in
theorem ibA_op6 (haft : ∀ j, (o.after.any fun e => decide (e.on = j) && Region.binds .any e) = true → ibAS b off nn cc kk x j (a.eval (.tmp (ibD j))) W) (ho : ibReg[6]? = some o) : ibAOk b off nn cc kk x Q a W 6 o := by
  have hgd := op_at ho (·.guard) (x := some (5, false)) (by kernel_rfl)
  have e5 : a.eval (.tmp 18) = .bool true := haft 5 (op_at ho (fun o => o.after.any fun e => decide (e.on = 5) && Region.binds .any e) (x := true) (by kernel_rfl))
  exact .inr ⟨⟨5, false, hgd, fun h => by
    have h2 := e5.symm.trans (show a.eval (.tmp 18) = .bool false from h)
    simp at h2⟩, rfl⟩
set_option maxHeartbeats 1000000 in
theorem ibA_op7 (haft : ∀ j, (o.after.any fun e => decide (e.on = j) && Region.binds .any e) = true → ibAS b off nn cc kk x j (a.eval (.tmp (ibD j))) W) (ho : ibReg[7]? = some o) : ibAOk b off nn cc kk x Q a W 7 o := by
  have hgd := op_at ho (·.guard) (x := some (5, false)) (by kernel_rfl)
  have e5 : a.eval (.tmp 18) = .bool true := haft 5 (op_at ho (fun o => o.after.any fun e => decide (e.on = 5) && Region.binds .any e) (x := true) (by kernel_rfl))
  exact .inr ⟨⟨5, false, hgd, fun h => by
    have h2 := e5.symm.trans (show a.eval (.tmp 18) = .bool false from h)
    simp at h2⟩, rfl⟩
set_option maxHeartbeats 1000000 in
theorem ibA_op8 (haft : ∀ j, (o.after.any fun e => decide (e.on = j) && Region.binds .any e) = true → ibAS b off nn cc kk x j (a.eval (.tmp (ibD j))) W) (ho : ibReg[8]? = some o) : ibAOk b off nn cc kk x Q a W 8 o := by
  have hgd := op_at ho (·.guard) (x := some (5, false)) (by kernel_rfl)
  have e5 : a.eval (.tmp 18) = .bool true := haft 5 (op_at ho (fun o => o.after.any fun e => decide (e.on = 5) && Region.binds .any e) (x := true) (by kernel_rfl))
  exact .inr ⟨⟨5, false, hgd, fun h => by
    have h2 := e5.symm.trans (show a.eval (.tmp 18) = .bool false from h)
    simp at h2⟩, rfl⟩
set_option maxHeartbeats 1000000 in
theorem ibA_op9 (haft : ∀ j, (o.after.any fun e => decide (e.on = j) && Region.binds .any e) = true → ibAS b off nn cc kk x j (a.eval (.tmp (ibD j))) W) (ho : ibReg[9]? = some o) : ibAOk b off nn cc kk x Q a W 9 o := by
  have hgd := op_at ho (·.guard) (x := some (5, false)) (by kernel_rfl)
  have e5 : a.eval (.tmp 18) = .bool true := haft 5 (op_at ho (fun o => o.after.any fun e => decide (e.on = 5) && Region.binds .any e) (x := true) (by kernel_rfl))
  exact .inr ⟨⟨5, false, hgd, fun h => by
    have h2 := e5.symm.trans (show a.eval (.tmp 18) = .bool false from h)
    simp at h2⟩, rfl⟩
set_option maxHeartbeats 1000000 in
theorem ibA_op10 (haft : ∀ j, (o.after.any fun e => decide (e.on = j) && Region.binds .any e) = true → ibAS b off nn cc kk x j (a.eval (.tmp (ibD j))) W) (ho : ibReg[10]? = some o) : ibAOk b off nn cc kk x Q a W 10 o := by
  have hgd := op_at ho (·.guard) (x := some (5, false)) (by kernel_rfl)
  have e5 : a.eval (.tmp 18) = .bool true := haft 5 (op_at ho (fun o => o.after.any fun e => decide (e.on = 5) && Region.binds .any e) (x := true) (by kernel_rfl))
  exact .inr ⟨⟨5, false, hgd, fun h => by
    have h2 := e5.symm.trans (show a.eval (.tmp 18) = .bool false from h)
    simp at h2⟩, rfl⟩
set_option maxHeartbeats 1000000 in
theorem ibA_op11 (haft : ∀ j, (o.after.any fun e => decide (e.on = j) && Region.binds .any e) = true → ibAS b off nn cc kk x j (a.eval (.tmp (ibD j))) W) (ho : ibReg[11]? = some o) : ibAOk b off nn cc kk x Q a W 11 o := by
  have hop := op_at ho (·.op) (x := Op.pick (Operand.tmp 18) (Operand.const (Value.bool true)) (Operand.tmp 23)) (by kernel_rfl)
  have hgd := op_at ho (·.guard) (x := none) (by kernel_rfl)
  have e5 : a.eval (.tmp 18) = .bool true := haft 5 (op_at ho (fun o => o.after.any fun e => decide (e.on = 5) && Region.binds .any e) (x := true) (by kernel_rfl))
  refine .inl ⟨fun j b h => (by rw [hgd] at h; cases h), ?_⟩
  exact specs_value (R := fun v W => ibAS b off nn cc kk x 11 v W) (v := .bool true) (by simp [execOp, hop, go_sem, ev e5]) rfl (Ext.refl W)
set_option maxHeartbeats 1000000 in
theorem ibA_op12 (haft : ∀ j, (o.after.any fun e => decide (e.on = j) && Region.binds .any e) = true → ibAS b off nn cc kk x j (a.eval (.tmp (ibD j))) W) (ho : ibReg[12]? = some o) : ibAOk b off nn cc kk x Q a W 12 o := by
  have hop := op_at ho (·.op) (x := Op.move (Operand.tmp 24)) (by kernel_rfl)
  have hgd := op_at ho (·.guard) (x := none) (by kernel_rfl)
  have e11 : a.eval (.tmp 24) = .bool true := haft 11 (op_at ho (fun o => o.after.any fun e => decide (e.on = 11) && Region.binds .any e) (x := true) (by kernel_rfl))
  refine .inl ⟨fun j b h => (by rw [hgd] at h; cases h), ?_⟩
  exact specs_value (R := fun v W => ibAS b off nn cc kk x 12 v W) (v := .bool true) (by simp [execOp, hop, go_sem, ev e11]) rfl (Ext.refl W)
set_option maxHeartbeats 1000000 in
theorem ibA_op13 (haft : ∀ j, (o.after.any fun e => decide (e.on = j) && Region.binds .any e) = true → ibAS b off nn cc kk x j (a.eval (.tmp (ibD j))) W) (ho : ibReg[13]? = some o) : ibAOk b off nn cc kk x Q a W 13 o := by
  have hgd := op_at ho (·.guard) (x := some (12, false)) (by kernel_rfl)
  have e12 : a.eval (.tmp 25) = .bool true := haft 12 (op_at ho (fun o => o.after.any fun e => decide (e.on = 12) && Region.binds .any e) (x := true) (by kernel_rfl))
  exact .inr ⟨⟨12, false, hgd, fun h => by
    have h2 := e12.symm.trans (show a.eval (.tmp 25) = .bool false from h)
    simp at h2⟩, rfl⟩
set_option maxHeartbeats 1000000 in
theorem ibA_op14 (haft : ∀ j, (o.after.any fun e => decide (e.on = j) && Region.binds .any e) = true → ibAS b off nn cc kk x j (a.eval (.tmp (ibD j))) W) (ho : ibReg[14]? = some o) : ibAOk b off nn cc kk x Q a W 14 o := by
  have hgd := op_at ho (·.guard) (x := some (12, false)) (by kernel_rfl)
  have e12 : a.eval (.tmp 25) = .bool true := haft 12 (op_at ho (fun o => o.after.any fun e => decide (e.on = 12) && Region.binds .any e) (x := true) (by kernel_rfl))
  exact .inr ⟨⟨12, false, hgd, fun h => by
    have h2 := e12.symm.trans (show a.eval (.tmp 25) = .bool false from h)
    simp at h2⟩, rfl⟩
set_option maxHeartbeats 1000000 in
theorem ibA_op15 (haft : ∀ j, (o.after.any fun e => decide (e.on = j) && Region.binds .any e) = true → ibAS b off nn cc kk x j (a.eval (.tmp (ibD j))) W) (ho : ibReg[15]? = some o) : ibAOk b off nn cc kk x Q a W 15 o := by
  have hgd := op_at ho (·.guard) (x := some (12, false)) (by kernel_rfl)
  have e12 : a.eval (.tmp 25) = .bool true := haft 12 (op_at ho (fun o => o.after.any fun e => decide (e.on = 12) && Region.binds .any e) (x := true) (by kernel_rfl))
  exact .inr ⟨⟨12, false, hgd, fun h => by
    have h2 := e12.symm.trans (show a.eval (.tmp 25) = .bool false from h)
    simp at h2⟩, rfl⟩
set_option maxHeartbeats 1000000 in
theorem ibA_op16 (haft : ∀ j, (o.after.any fun e => decide (e.on = j) && Region.binds .any e) = true → ibAS b off nn cc kk x j (a.eval (.tmp (ibD j))) W) (ho : ibReg[16]? = some o) : ibAOk b off nn cc kk x Q a W 16 o := by
  have hgd := op_at ho (·.guard) (x := some (15, true)) (by kernel_rfl)
  have e15 : a.eval (.tmp 28) = undef := haft 15 (op_at ho (fun o => o.after.any fun e => decide (e.on = 15) && Region.binds .any e) (x := true) (by kernel_rfl))
  exact .inr ⟨⟨15, true, hgd, fun h => by
    have h2 := e15.symm.trans (show a.eval (.tmp 28) = .bool true from h)
    simp [undef] at h2⟩, rfl⟩
set_option maxHeartbeats 1000000 in
theorem ibA_op17 (haft : ∀ j, (o.after.any fun e => decide (e.on = j) && Region.binds .any e) = true → ibAS b off nn cc kk x j (a.eval (.tmp (ibD j))) W) (ho : ibReg[17]? = some o) : ibAOk b off nn cc kk x Q a W 17 o := by
  have hgd := op_at ho (·.guard) (x := some (15, true)) (by kernel_rfl)
  have e15 : a.eval (.tmp 28) = undef := haft 15 (op_at ho (fun o => o.after.any fun e => decide (e.on = 15) && Region.binds .any e) (x := true) (by kernel_rfl))
  exact .inr ⟨⟨15, true, hgd, fun h => by
    have h2 := e15.symm.trans (show a.eval (.tmp 28) = .bool true from h)
    simp [undef] at h2⟩, rfl⟩
set_option maxHeartbeats 1000000 in
theorem ibA_op18 (haft : ∀ j, (o.after.any fun e => decide (e.on = j) && Region.binds .any e) = true → ibAS b off nn cc kk x j (a.eval (.tmp (ibD j))) W) (ho : ibReg[18]? = some o) : ibAOk b off nn cc kk x Q a W 18 o := by
  have hgd := op_at ho (·.guard) (x := some (15, true)) (by kernel_rfl)
  have e15 : a.eval (.tmp 28) = undef := haft 15 (op_at ho (fun o => o.after.any fun e => decide (e.on = 15) && Region.binds .any e) (x := true) (by kernel_rfl))
  exact .inr ⟨⟨15, true, hgd, fun h => by
    have h2 := e15.symm.trans (show a.eval (.tmp 28) = .bool true from h)
    simp [undef] at h2⟩, rfl⟩
set_option maxHeartbeats 1000000 in
theorem ibA_op19 (haft : ∀ j, (o.after.any fun e => decide (e.on = j) && Region.binds .any e) = true → ibAS b off nn cc kk x j (a.eval (.tmp (ibD j))) W) (ho : ibReg[19]? = some o) : ibAOk b off nn cc kk x Q a W 19 o := by
  have hgd := op_at ho (·.guard) (x := some (15, true)) (by kernel_rfl)
  have e15 : a.eval (.tmp 28) = undef := haft 15 (op_at ho (fun o => o.after.any fun e => decide (e.on = 15) && Region.binds .any e) (x := true) (by kernel_rfl))
  exact .inr ⟨⟨15, true, hgd, fun h => by
    have h2 := e15.symm.trans (show a.eval (.tmp 28) = .bool true from h)
    simp [undef] at h2⟩, rfl⟩
set_option maxHeartbeats 1000000 in
theorem ibA_op20 (haft : ∀ j, (o.after.any fun e => decide (e.on = j) && Region.binds .any e) = true → ibAS b off nn cc kk x j (a.eval (.tmp (ibD j))) W) (ho : ibReg[20]? = some o) : ibAOk b off nn cc kk x Q a W 20 o := by
  have hgd := op_at ho (·.guard) (x := some (15, true)) (by kernel_rfl)
  have e15 : a.eval (.tmp 28) = undef := haft 15 (op_at ho (fun o => o.after.any fun e => decide (e.on = 15) && Region.binds .any e) (x := true) (by kernel_rfl))
  exact .inr ⟨⟨15, true, hgd, fun h => by
    have h2 := e15.symm.trans (show a.eval (.tmp 28) = .bool true from h)
    simp [undef] at h2⟩, rfl⟩
set_option maxHeartbeats 1000000 in
theorem ibA_op21 (haft : ∀ j, (o.after.any fun e => decide (e.on = j) && Region.binds .any e) = true → ibAS b off nn cc kk x j (a.eval (.tmp (ibD j))) W) (ho : ibReg[21]? = some o) : ibAOk b off nn cc kk x Q a W 21 o := by
  have hgd := op_at ho (·.guard) (x := some (15, true)) (by kernel_rfl)
  have e15 : a.eval (.tmp 28) = undef := haft 15 (op_at ho (fun o => o.after.any fun e => decide (e.on = 15) && Region.binds .any e) (x := true) (by kernel_rfl))
  exact .inr ⟨⟨15, true, hgd, fun h => by
    have h2 := e15.symm.trans (show a.eval (.tmp 28) = .bool true from h)
    simp [undef] at h2⟩, rfl⟩
set_option maxHeartbeats 1000000 in
theorem ibA_op22 (haft : ∀ j, (o.after.any fun e => decide (e.on = j) && Region.binds .any e) = true → ibAS b off nn cc kk x j (a.eval (.tmp (ibD j))) W) (ho : ibReg[22]? = some o) : ibAOk b off nn cc kk x Q a W 22 o := by
  have hgd := op_at ho (·.guard) (x := some (15, true)) (by kernel_rfl)
  have e15 : a.eval (.tmp 28) = undef := haft 15 (op_at ho (fun o => o.after.any fun e => decide (e.on = 15) && Region.binds .any e) (x := true) (by kernel_rfl))
  exact .inr ⟨⟨15, true, hgd, fun h => by
    have h2 := e15.symm.trans (show a.eval (.tmp 28) = .bool true from h)
    simp [undef] at h2⟩, rfl⟩
set_option maxHeartbeats 1000000 in
theorem ibA_op23 (haft : ∀ j, (o.after.any fun e => decide (e.on = j) && Region.binds .any e) = true → ibAS b off nn cc kk x j (a.eval (.tmp (ibD j))) W) (ho : ibReg[23]? = some o) : ibAOk b off nn cc kk x Q a W 23 o := by
  have hgd := op_at ho (·.guard) (x := some (15, true)) (by kernel_rfl)
  have e15 : a.eval (.tmp 28) = undef := haft 15 (op_at ho (fun o => o.after.any fun e => decide (e.on = 15) && Region.binds .any e) (x := true) (by kernel_rfl))
  exact .inr ⟨⟨15, true, hgd, fun h => by
    have h2 := e15.symm.trans (show a.eval (.tmp 28) = .bool true from h)
    simp [undef] at h2⟩, rfl⟩
set_option maxHeartbeats 1000000 in
theorem ibA_op24 (haft : ∀ j, (o.after.any fun e => decide (e.on = j) && Region.binds .any e) = true → ibAS b off nn cc kk x j (a.eval (.tmp (ibD j))) W) (ho : ibReg[24]? = some o) : ibAOk b off nn cc kk x Q a W 24 o := by
  have hgd := op_at ho (·.guard) (x := some (15, true)) (by kernel_rfl)
  have e15 : a.eval (.tmp 28) = undef := haft 15 (op_at ho (fun o => o.after.any fun e => decide (e.on = 15) && Region.binds .any e) (x := true) (by kernel_rfl))
  exact .inr ⟨⟨15, true, hgd, fun h => by
    have h2 := e15.symm.trans (show a.eval (.tmp 28) = .bool true from h)
    simp [undef] at h2⟩, rfl⟩
set_option maxHeartbeats 1000000 in
theorem ibA_op25 (haft : ∀ j, (o.after.any fun e => decide (e.on = j) && Region.binds .any e) = true → ibAS b off nn cc kk x j (a.eval (.tmp (ibD j))) W) (ho : ibReg[25]? = some o) : ibAOk b off nn cc kk x Q a W 25 o := by
  have hgd := op_at ho (·.guard) (x := some (15, true)) (by kernel_rfl)
  have e15 : a.eval (.tmp 28) = undef := haft 15 (op_at ho (fun o => o.after.any fun e => decide (e.on = 15) && Region.binds .any e) (x := true) (by kernel_rfl))
  exact .inr ⟨⟨15, true, hgd, fun h => by
    have h2 := e15.symm.trans (show a.eval (.tmp 28) = .bool true from h)
    simp [undef] at h2⟩, rfl⟩
set_option maxHeartbeats 1000000 in
theorem ibA_op26 (haft : ∀ j, (o.after.any fun e => decide (e.on = j) && Region.binds .any e) = true → ibAS b off nn cc kk x j (a.eval (.tmp (ibD j))) W) (ho : ibReg[26]? = some o) : ibAOk b off nn cc kk x Q a W 26 o := by
  have hgd := op_at ho (·.guard) (x := some (12, false)) (by kernel_rfl)
  have e12 : a.eval (.tmp 25) = .bool true := haft 12 (op_at ho (fun o => o.after.any fun e => decide (e.on = 12) && Region.binds .any e) (x := true) (by kernel_rfl))
  exact .inr ⟨⟨12, false, hgd, fun h => by
    have h2 := e12.symm.trans (show a.eval (.tmp 25) = .bool false from h)
    simp at h2⟩, rfl⟩
set_option maxHeartbeats 1000000 in
theorem ibA_op27 (haft : ∀ j, (o.after.any fun e => decide (e.on = j) && Region.binds .any e) = true → ibAS b off nn cc kk x j (a.eval (.tmp (ibD j))) W) (ho : ibReg[27]? = some o) : ibAOk b off nn cc kk x Q a W 27 o := by
  have hop := op_at ho (·.op) (x := Op.pick (Operand.tmp 25) (Operand.const (Value.bool true)) (Operand.tmp 39)) (by kernel_rfl)
  have hgd := op_at ho (·.guard) (x := none) (by kernel_rfl)
  have e12 : a.eval (.tmp 25) = .bool true := haft 12 (op_at ho (fun o => o.after.any fun e => decide (e.on = 12) && Region.binds .any e) (x := true) (by kernel_rfl))
  refine .inl ⟨fun j b h => (by rw [hgd] at h; cases h), ?_⟩
  exact specs_value (R := fun v W => ibAS b off nn cc kk x 27 v W) (v := .bool true) (by simp [execOp, hop, go_sem, ev e12]) rfl (Ext.refl W)
set_option maxRecDepth 100000 in
set_option maxHeartbeats 4000000 in
/-- Region 6 of function 38, one way through it. -/
theorem ibA_wp {id : Nat} (hlen : a.tmps.size = 41) (o0 : a.eval (.tmp 0) = .slice (some ⟨b, off, none⟩) nn cc) (o3 : a.eval (.tmp 3) = .int .i64 (kk : Int)) (hlt : (kk : Int) < (nn : Int)) (cx : ∀ W, Ext V W → W.cell? ⟨b, off + kk, none⟩ = some (.int .i64 x)) (h1 : x < -10000) (K : ∀ W, Ext V W → Q .normal (puts a [(13, .slice (some ⟨b, off, none⟩) nn cc), (14, .int .i64 (kk : Int)), (15, .pointer (some ⟨b, off + kk, none⟩)), (16, .int .i64 x), (17, .bool true), (18, .bool true), (19, undef), (20, undef), (21, undef), (22, undef), (23, undef), (24, .bool true), (25, .bool true), (26, undef), (27, undef), (28, undef), (29, undef), (30, undef), (31, undef), (32, undef), (33, undef), (34, undef), (35, undef), (36, undef), (37, undef), (38, undef), (39, undef), (40, .bool true)]) W) : (Code.region id ibReg true).wp Tryz.prog Q a V := by
  refine wp_region_maybe (ops := ibReg) (ibAS b off nn cc kk x) (Ext V) (by kernel_rfl) (by rw [hlen]; kernel_rfl) ⟨rfl, rfl, rfl, Nat.le_refl _, fun _ _ => rfl⟩ (fun _ _ h e => h.trans e) (fun _ _ _ _ h _ => h) ibD (by kernel_rfl) ?_ ?_
  · intro i o ho a' W hB hsz hold haft
    have hi : i < 28 := by
      have h1 := (Array.getElem?_eq_some_iff.1 ho).1
      have h2 := ib_size
      omega
    match i, hi with
    | 0, _ => exact ibA_op0 ((hold 0 (by kernel_rfl)).trans o0) ho
    | 1, _ => exact ibA_op1 ((hold 3 (by kernel_rfl)).trans o3) ho
    | 2, _ => exact ibA_op2 hlt haft ho
    | 3, _ => exact ibA_op3 cx hB haft ho
    | 4, _ => exact ibA_op4 h1 haft ho
    | 5, _ => exact ibA_op5 haft ho
    | 6, _ => exact ibA_op6 haft ho
    | 7, _ => exact ibA_op7 haft ho
    | 8, _ => exact ibA_op8 haft ho
    | 9, _ => exact ibA_op9 haft ho
    | 10, _ => exact ibA_op10 haft ho
    | 11, _ => exact ibA_op11 haft ho
    | 12, _ => exact ibA_op12 haft ho
    | 13, _ => exact ibA_op13 haft ho
    | 14, _ => exact ibA_op14 haft ho
    | 15, _ => exact ibA_op15 haft ho
    | 16, _ => exact ibA_op16 haft ho
    | 17, _ => exact ibA_op17 haft ho
    | 18, _ => exact ibA_op18 haft ho
    | 19, _ => exact ibA_op19 haft ho
    | 20, _ => exact ibA_op20 haft ho
    | 21, _ => exact ibA_op21 haft ho
    | 22, _ => exact ibA_op22 haft ho
    | 23, _ => exact ibA_op23 haft ho
    | 24, _ => exact ibA_op24 haft ho
    | 25, _ => exact ibA_op25 haft ho
    | 26, _ => exact ibA_op26 haft ho
    | 27, _ => exact ibA_op27 haft ho
    | m + 28, h => exact absurd h (by omega)
  · intro a1 W hB hsz hdf hold hS
    have hs2 := ib_size
    have hall : ∀ zz, zz ∈ ([(13, .slice (some ⟨b, off, none⟩) nn cc), (14, .int .i64 (kk : Int)), (15, .pointer (some ⟨b, off + kk, none⟩)), (16, .int .i64 x), (17, .bool true), (18, .bool true), (19, undef), (20, undef), (21, undef), (22, undef), (23, undef), (24, .bool true), (25, .bool true), (26, undef), (27, undef), (28, undef), (29, undef), (30, undef), (31, undef), (32, undef), (33, undef), (34, undef), (35, undef), (36, undef), (37, undef), (38, undef), (39, undef), (40, .bool true)] : List (Tmp × Value)) → zz.1 < a.tmps.size ∧ a1.eval (.tmp zz.1) = zz.2 := by
      intro zz hz
      rw [hlen]
      simp only [List.mem_cons, List.not_mem_nil, or_false] at hz
      rcases hz with rfl | rfl | rfl | rfl | rfl | rfl | rfl | rfl | rfl | rfl | rfl | rfl | rfl | rfl | rfl | rfl | rfl | rfl | rfl | rfl | rfl | rfl | rfl | rfl | rfl | rfl | rfl | rfl
      · exact ⟨(show (13 : Nat) < 41 by omega), hS 0 (by omega)⟩
      · exact ⟨(show (14 : Nat) < 41 by omega), hS 1 (by omega)⟩
      · exact ⟨(show (15 : Nat) < 41 by omega), hS 2 (by omega)⟩
      · exact ⟨(show (16 : Nat) < 41 by omega), hS 3 (by omega)⟩
      · exact ⟨(show (17 : Nat) < 41 by omega), hS 4 (by omega)⟩
      · exact ⟨(show (18 : Nat) < 41 by omega), hS 5 (by omega)⟩
      · exact ⟨(show (19 : Nat) < 41 by omega), hS 6 (by omega)⟩
      · exact ⟨(show (20 : Nat) < 41 by omega), hS 7 (by omega)⟩
      · exact ⟨(show (21 : Nat) < 41 by omega), hS 8 (by omega)⟩
      · exact ⟨(show (22 : Nat) < 41 by omega), hS 9 (by omega)⟩
      · exact ⟨(show (23 : Nat) < 41 by omega), hS 10 (by omega)⟩
      · exact ⟨(show (24 : Nat) < 41 by omega), hS 11 (by omega)⟩
      · exact ⟨(show (25 : Nat) < 41 by omega), hS 12 (by omega)⟩
      · exact ⟨(show (26 : Nat) < 41 by omega), hS 13 (by omega)⟩
      · exact ⟨(show (27 : Nat) < 41 by omega), hS 14 (by omega)⟩
      · exact ⟨(show (28 : Nat) < 41 by omega), hS 15 (by omega)⟩
      · exact ⟨(show (29 : Nat) < 41 by omega), hS 16 (by omega)⟩
      · exact ⟨(show (30 : Nat) < 41 by omega), hS 17 (by omega)⟩
      · exact ⟨(show (31 : Nat) < 41 by omega), hS 18 (by omega)⟩
      · exact ⟨(show (32 : Nat) < 41 by omega), hS 19 (by omega)⟩
      · exact ⟨(show (33 : Nat) < 41 by omega), hS 20 (by omega)⟩
      · exact ⟨(show (34 : Nat) < 41 by omega), hS 21 (by omega)⟩
      · exact ⟨(show (35 : Nat) < 41 by omega), hS 22 (by omega)⟩
      · exact ⟨(show (36 : Nat) < 41 by omega), hS 23 (by omega)⟩
      · exact ⟨(show (37 : Nat) < 41 by omega), hS 24 (by omega)⟩
      · exact ⟨(show (38 : Nat) < 41 by omega), hS 25 (by omega)⟩
      · exact ⟨(show (39 : Nat) < 41 by omega), hS 26 (by omega)⟩
      · exact ⟨(show (40 : Nat) < 41 by omega), hS 27 (by omega)⟩
    have ha := act_puts hsz hdf hall (fun t ht => hold t (by rw [hs2]; exact all_ne_of (l := [(13, .slice (some ⟨b, off, none⟩) nn cc), (14, .int .i64 (kk : Int)), (15, .pointer (some ⟨b, off + kk, none⟩)), (16, .int .i64 x), (17, .bool true), (18, .bool true), (19, undef), (20, undef), (21, undef), (22, undef), (23, undef), (24, .bool true), (25, .bool true), (26, undef), (27, undef), (28, undef), (29, undef), (30, undef), (31, undef), (32, undef), (33, undef), (34, undef), (35, undef), (36, undef), (37, undef), (38, undef), (39, undef), (40, .bool true)]) (by kernel_rfl) ht))
    rw [ha]
    exact K W hB
end
/-- What each operation yields. -/
def ibBS (b off nn cc kk : Nat) (x : Int) (ix : Nat) (v : Value) (_ : World) : Prop :=
  match ix with
  | 0 => v = .slice (some ⟨b, off, none⟩) nn cc
  | 1 => v = .int .i64 (kk : Int)
  | 2 => v = .pointer (some ⟨b, off + kk, none⟩)
  | 3 => v = .int .i64 x
  | 4 => v = .bool false
  | 5 => v = .bool false
  | 6 => v = .slice (some ⟨b, off, none⟩) nn cc
  | 7 => v = .int .i64 (kk : Int)
  | 8 => v = .pointer (some ⟨b, off + kk, none⟩)
  | 9 => v = .int .i64 x
  | 10 => v = .bool true
  | 11 => v = .bool true
  | 12 => v = .bool true
  | 13 => v = undef
  | 14 => v = undef
  | 15 => v = undef
  | 16 => v = undef
  | 17 => v = undef
  | 18 => v = undef
  | 19 => v = undef
  | 20 => v = undef
  | 21 => v = undef
  | 22 => v = undef
  | 23 => v = undef
  | 24 => v = undef
  | 25 => v = undef
  | 26 => v = undef
  | 27 => v = .bool true
  | _ => True
def ibBOk (b off nn cc kk : Nat) (x : Int) (Q : Exit → Act → World → Prop) (a : Act) (W : World) (ix : Nat) (o : Oper) : Prop :=
  ((∀ j b, o.guard = some (j, b) → a.eval (.tmp (ibD j)) = .bool b) ∧ o.wp Tryz.prog a W (fun a'' W' => ∃ v, a'' = a.put o.dst v ∧ ibBS b off nn cc kk x ix v W' ∧ Below W.heap.size W W') Q) ∨ ((∃ j b, o.guard = some (j, b) ∧ a.eval (.tmp (ibD j)) ≠ .bool b) ∧ ibBS b off nn cc kk x ix undef W)
section
variable {b off nn cc kk : Nat} {x : Int} {Q : Exit → Act → World → Prop} {a : Act} {V W : World} {o : Oper}
set_option maxHeartbeats 1000000 in
theorem ibB_op0 (o0 : a.eval (.tmp 0) = .slice (some ⟨b, off, none⟩) nn cc) (ho : ibReg[0]? = some o) : ibBOk b off nn cc kk x Q a W 0 o := by
  have hop := op_at ho (·.op) (x := Op.move (Operand.tmp 0)) (by kernel_rfl)
  have hgd := op_at ho (·.guard) (x := none) (by kernel_rfl)
  refine .inl ⟨fun j b h => (by rw [hgd] at h; cases h), ?_⟩
  exact specs_value (R := fun v W => ibBS b off nn cc kk x 0 v W) (v := .slice (some ⟨b, off, none⟩) nn cc) (by simp [execOp, hop, go_sem, ev o0]) rfl (Ext.refl W)
set_option maxHeartbeats 1000000 in
theorem ibB_op1 (o3 : a.eval (.tmp 3) = .int .i64 (kk : Int)) (ho : ibReg[1]? = some o) : ibBOk b off nn cc kk x Q a W 1 o := by
  have hop := op_at ho (·.op) (x := Op.move (Operand.tmp 3)) (by kernel_rfl)
  have hgd := op_at ho (·.guard) (x := none) (by kernel_rfl)
  refine .inl ⟨fun j b h => (by rw [hgd] at h; cases h), ?_⟩
  exact specs_value (R := fun v W => ibBS b off nn cc kk x 1 v W) (v := .int .i64 (kk : Int)) (by simp [execOp, hop, go_sem, ev o3]) rfl (Ext.refl W)
set_option maxHeartbeats 1000000 in
theorem ibB_op2 (hlt : (kk : Int) < (nn : Int)) (haft : ∀ j, (o.after.any fun e => decide (e.on = j) && Region.binds .any e) = true → ibBS b off nn cc kk x j (a.eval (.tmp (ibD j))) W) (ho : ibReg[2]? = some o) : ibBOk b off nn cc kk x Q a W 2 o := by
  have hop := op_at ho (·.op) (x := Op.indexAddr 36 (Operand.tmp 13) (Operand.tmp 14)) (by kernel_rfl)
  have hgd := op_at ho (·.guard) (x := none) (by kernel_rfl)
  have e0 : a.eval (.tmp 13) = .slice (some ⟨b, off, none⟩) nn cc := haft 0 (op_at ho (fun o => o.after.any fun e => decide (e.on = 0) && Region.binds .any e) (x := true) (by kernel_rfl))
  have e1 : a.eval (.tmp 14) = .int .i64 (kk : Int) := haft 1 (op_at ho (fun o => o.after.any fun e => decide (e.on = 1) && Region.binds .any e) (x := true) (by kernel_rfl))
  refine .inl ⟨fun j b h => (by rw [hgd] at h; cases h), ?_⟩
  exact specs_value (R := fun v W => ibBS b off nn cc kk x 2 v W) (v := .pointer (some ⟨b, off + kk, none⟩)) (by simp [execOp, hop, go_sem, ev e0, ev e1, hlt]) rfl (Ext.refl W)
set_option maxHeartbeats 1000000 in
theorem ibB_op3 (cx : ∀ W, Ext V W → W.cell? ⟨b, off + kk, none⟩ = some (.int .i64 x)) (hB : Ext V W) (haft : ∀ j, (o.after.any fun e => decide (e.on = j) && Region.binds .any e) = true → ibBS b off nn cc kk x j (a.eval (.tmp (ibD j))) W) (ho : ibReg[3]? = some o) : ibBOk b off nn cc kk x Q a W 3 o := by
  have hop := op_at ho (·.op) (x := Op.load 2 (Operand.tmp 15)) (by kernel_rfl)
  have hgd := op_at ho (·.guard) (x := none) (by kernel_rfl)
  have e2 : a.eval (.tmp 15) = .pointer (some ⟨b, off + kk, none⟩) := haft 2 (op_at ho (fun o => o.after.any fun e => decide (e.on = 2) && Region.binds .any e) (x := true) (by kernel_rfl))
  refine .inl ⟨fun j b h => (by rw [hgd] at h; cases h), ?_⟩
  have cx' := cx W hB
  exact specs_value (R := fun v W => ibBS b off nn cc kk x 3 v W) (v := .int .i64 x) (by simp [execOp, hop, go_sem, ev e2, cx']) rfl (Ext.refl W)
set_option maxHeartbeats 1000000 in
theorem ibB_op4 (h1 : ¬ x < -10000) (haft : ∀ j, (o.after.any fun e => decide (e.on = j) && Region.binds .any e) = true → ibBS b off nn cc kk x j (a.eval (.tmp (ibD j))) W) (ho : ibReg[4]? = some o) : ibBOk b off nn cc kk x Q a W 4 o := by
  have hop := op_at ho (·.op) (x := Op.binOp BinOp.lss 2 (Operand.tmp 16) (Operand.const (Value.int IntKind.i64 (-10000))) 2) (by kernel_rfl)
  have hgd := op_at ho (·.guard) (x := none) (by kernel_rfl)
  have e3 : a.eval (.tmp 16) = .int .i64 x := haft 3 (op_at ho (fun o => o.after.any fun e => decide (e.on = 3) && Region.binds .any e) (x := true) (by kernel_rfl))
  refine .inl ⟨fun j b h => (by rw [hgd] at h; cases h), ?_⟩
  exact specs_value (R := fun v W => ibBS b off nn cc kk x 4 v W) (v := .bool false) (by simp [execOp, hop, go_sem, ev e3, h1]) rfl (Ext.refl W)
set_option maxHeartbeats 1000000 in
theorem ibB_op5 (haft : ∀ j, (o.after.any fun e => decide (e.on = j) && Region.binds .any e) = true → ibBS b off nn cc kk x j (a.eval (.tmp (ibD j))) W) (ho : ibReg[5]? = some o) : ibBOk b off nn cc kk x Q a W 5 o := by
  have hop := op_at ho (·.op) (x := Op.move (Operand.tmp 17)) (by kernel_rfl)
  have hgd := op_at ho (·.guard) (x := none) (by kernel_rfl)
  have e4 : a.eval (.tmp 17) = .bool false := haft 4 (op_at ho (fun o => o.after.any fun e => decide (e.on = 4) && Region.binds .any e) (x := true) (by kernel_rfl))
  refine .inl ⟨fun j b h => (by rw [hgd] at h; cases h), ?_⟩
  exact specs_value (R := fun v W => ibBS b off nn cc kk x 5 v W) (v := .bool false) (by simp [execOp, hop, go_sem, ev e4]) rfl (Ext.refl W)
set_option maxHeartbeats 1000000 in
theorem ibB_op6 (o0 : a.eval (.tmp 0) = .slice (some ⟨b, off, none⟩) nn cc) (haft : ∀ j, (o.after.any fun e => decide (e.on = j) && Region.binds .any e) = true → ibBS b off nn cc kk x j (a.eval (.tmp (ibD j))) W) (ho : ibReg[6]? = some o) : ibBOk b off nn cc kk x Q a W 6 o := by
  have hop := op_at ho (·.op) (x := Op.move (Operand.tmp 0)) (by kernel_rfl)
  have hgd := op_at ho (·.guard) (x := some (5, false)) (by kernel_rfl)
  have e5 : a.eval (.tmp 18) = .bool false := haft 5 (op_at ho (fun o => o.after.any fun e => decide (e.on = 5) && Region.binds .any e) (x := true) (by kernel_rfl))
  refine .inl ⟨fun j b h => (by rw [hgd] at h; cases h; exact e5), ?_⟩
  exact specs_value (R := fun v W => ibBS b off nn cc kk x 6 v W) (v := .slice (some ⟨b, off, none⟩) nn cc) (by simp [execOp, hop, go_sem, ev o0]) rfl (Ext.refl W)
set_option maxHeartbeats 1000000 in
theorem ibB_op7 (o3 : a.eval (.tmp 3) = .int .i64 (kk : Int)) (haft : ∀ j, (o.after.any fun e => decide (e.on = j) && Region.binds .any e) = true → ibBS b off nn cc kk x j (a.eval (.tmp (ibD j))) W) (ho : ibReg[7]? = some o) : ibBOk b off nn cc kk x Q a W 7 o := by
  have hop := op_at ho (·.op) (x := Op.move (Operand.tmp 3)) (by kernel_rfl)
  have hgd := op_at ho (·.guard) (x := some (5, false)) (by kernel_rfl)
  have e5 : a.eval (.tmp 18) = .bool false := haft 5 (op_at ho (fun o => o.after.any fun e => decide (e.on = 5) && Region.binds .any e) (x := true) (by kernel_rfl))
  refine .inl ⟨fun j b h => (by rw [hgd] at h; cases h; exact e5), ?_⟩
  exact specs_value (R := fun v W => ibBS b off nn cc kk x 7 v W) (v := .int .i64 (kk : Int)) (by simp [execOp, hop, go_sem, ev o3]) rfl (Ext.refl W)
set_option maxHeartbeats 1000000 in
theorem ibB_op8 (hlt : (kk : Int) < (nn : Int)) (haft : ∀ j, (o.after.any fun e => decide (e.on = j) && Region.binds .any e) = true → ibBS b off nn cc kk x j (a.eval (.tmp (ibD j))) W) (ho : ibReg[8]? = some o) : ibBOk b off nn cc kk x Q a W 8 o := by
  have hop := op_at ho (·.op) (x := Op.indexAddr 36 (Operand.tmp 19) (Operand.tmp 20)) (by kernel_rfl)
  have hgd := op_at ho (·.guard) (x := some (5, false)) (by kernel_rfl)
  have e5 : a.eval (.tmp 18) = .bool false := haft 5 (op_at ho (fun o => o.after.any fun e => decide (e.on = 5) && Region.binds .any e) (x := true) (by kernel_rfl))
  have e6 : a.eval (.tmp 19) = .slice (some ⟨b, off, none⟩) nn cc := haft 6 (op_at ho (fun o => o.after.any fun e => decide (e.on = 6) && Region.binds .any e) (x := true) (by kernel_rfl))
  have e7 : a.eval (.tmp 20) = .int .i64 (kk : Int) := haft 7 (op_at ho (fun o => o.after.any fun e => decide (e.on = 7) && Region.binds .any e) (x := true) (by kernel_rfl))
  refine .inl ⟨fun j b h => (by rw [hgd] at h; cases h; exact e5), ?_⟩
  exact specs_value (R := fun v W => ibBS b off nn cc kk x 8 v W) (v := .pointer (some ⟨b, off + kk, none⟩)) (by simp [execOp, hop, go_sem, ev e6, ev e7, hlt]) rfl (Ext.refl W)
set_option maxHeartbeats 1000000 in
theorem ibB_op9 (cx : ∀ W, Ext V W → W.cell? ⟨b, off + kk, none⟩ = some (.int .i64 x)) (hB : Ext V W) (haft : ∀ j, (o.after.any fun e => decide (e.on = j) && Region.binds .any e) = true → ibBS b off nn cc kk x j (a.eval (.tmp (ibD j))) W) (ho : ibReg[9]? = some o) : ibBOk b off nn cc kk x Q a W 9 o := by
  have hop := op_at ho (·.op) (x := Op.load 2 (Operand.tmp 21)) (by kernel_rfl)
  have hgd := op_at ho (·.guard) (x := some (5, false)) (by kernel_rfl)
  have e5 : a.eval (.tmp 18) = .bool false := haft 5 (op_at ho (fun o => o.after.any fun e => decide (e.on = 5) && Region.binds .any e) (x := true) (by kernel_rfl))
  have e8 : a.eval (.tmp 21) = .pointer (some ⟨b, off + kk, none⟩) := haft 8 (op_at ho (fun o => o.after.any fun e => decide (e.on = 8) && Region.binds .any e) (x := true) (by kernel_rfl))
  refine .inl ⟨fun j b h => (by rw [hgd] at h; cases h; exact e5), ?_⟩
  have cx' := cx W hB
  exact specs_value (R := fun v W => ibBS b off nn cc kk x 9 v W) (v := .int .i64 x) (by simp [execOp, hop, go_sem, ev e8, cx']) rfl (Ext.refl W)
set_option maxHeartbeats 1000000 in
theorem ibB_op10 (h2 : 10000 < x) (haft : ∀ j, (o.after.any fun e => decide (e.on = j) && Region.binds .any e) = true → ibBS b off nn cc kk x j (a.eval (.tmp (ibD j))) W) (ho : ibReg[10]? = some o) : ibBOk b off nn cc kk x Q a W 10 o := by
  have hop := op_at ho (·.op) (x := Op.binOp BinOp.gtr 2 (Operand.tmp 22) (Operand.const (Value.int IntKind.i64 10000)) 2) (by kernel_rfl)
  have hgd := op_at ho (·.guard) (x := some (5, false)) (by kernel_rfl)
  have e5 : a.eval (.tmp 18) = .bool false := haft 5 (op_at ho (fun o => o.after.any fun e => decide (e.on = 5) && Region.binds .any e) (x := true) (by kernel_rfl))
  have e9 : a.eval (.tmp 22) = .int .i64 x := haft 9 (op_at ho (fun o => o.after.any fun e => decide (e.on = 9) && Region.binds .any e) (x := true) (by kernel_rfl))
  refine .inl ⟨fun j b h => (by rw [hgd] at h; cases h; exact e5), ?_⟩
  exact specs_value (R := fun v W => ibBS b off nn cc kk x 10 v W) (v := .bool true) (by simp [execOp, hop, go_sem, ev e9, h2]) rfl (Ext.refl W)
set_option maxHeartbeats 1000000 in
theorem ibB_op11 (haft : ∀ j, (o.after.any fun e => decide (e.on = j) && Region.binds .any e) = true → ibBS b off nn cc kk x j (a.eval (.tmp (ibD j))) W) (ho : ibReg[11]? = some o) : ibBOk b off nn cc kk x Q a W 11 o := by
  have hop := op_at ho (·.op) (x := Op.pick (Operand.tmp 18) (Operand.const (Value.bool true)) (Operand.tmp 23)) (by kernel_rfl)
  have hgd := op_at ho (·.guard) (x := none) (by kernel_rfl)
  have e5 : a.eval (.tmp 18) = .bool false := haft 5 (op_at ho (fun o => o.after.any fun e => decide (e.on = 5) && Region.binds .any e) (x := true) (by kernel_rfl))
  have e10 : a.eval (.tmp 23) = .bool true := haft 10 (op_at ho (fun o => o.after.any fun e => decide (e.on = 10) && Region.binds .any e) (x := true) (by kernel_rfl))
  refine .inl ⟨fun j b h => (by rw [hgd] at h; cases h), ?_⟩
  exact specs_value (R := fun v W => ibBS b off nn cc kk x 11 v W) (v := .bool true) (by simp [execOp, hop, go_sem, ev e5, ev e10]) rfl (Ext.refl W)
set_option maxHeartbeats 1000000 in
theorem ibB_op12 (haft : ∀ j, (o.after.any fun e => decide (e.on = j) && Region.binds .any e) = true → ibBS b off nn cc kk x j (a.eval (.tmp (ibD j))) W) (ho : ibReg[12]? = some o) : ibBOk b off nn cc kk x Q a W 12 o := by
  have hop := op_at ho (·.op) (x := Op.move (Operand.tmp 24)) (by kernel_rfl)
  have hgd := op_at ho (·.guard) (x := none) (by kernel_rfl)
  have e11 : a.eval (.tmp 24) = .bool true := haft 11 (op_at ho (fun o => o.after.any fun e => decide (e.on = 11) && Region.binds .any e) (x := true) (by kernel_rfl))
  refine .inl ⟨fun j b h => (by rw [hgd] at h; cases h), ?_⟩
  exact specs_value (R := fun v W => ibBS b off nn cc kk x 12 v W) (v := .bool true) (by simp [execOp, hop, go_sem, ev e11]) rfl (Ext.refl W)
set_option maxHeartbeats 1000000 in
theorem ibB_op13 (haft : ∀ j, (o.after.any fun e => decide (e.on = j) && Region.binds .any e) = true → ibBS b off nn cc kk x j (a.eval (.tmp (ibD j))) W) (ho : ibReg[13]? = some o) : ibBOk b off nn cc kk x Q a W 13 o := by
  have hgd := op_at ho (·.guard) (x := some (12, false)) (by kernel_rfl)
  have e12 : a.eval (.tmp 25) = .bool true := haft 12 (op_at ho (fun o => o.after.any fun e => decide (e.on = 12) && Region.binds .any e) (x := true) (by kernel_rfl))
  exact .inr ⟨⟨12, false, hgd, fun h => by
    have h2 := e12.symm.trans (show a.eval (.tmp 25) = .bool false from h)
    simp at h2⟩, rfl⟩
set_option maxHeartbeats 1000000 in
theorem ibB_op14 (haft : ∀ j, (o.after.any fun e => decide (e.on = j) && Region.binds .any e) = true → ibBS b off nn cc kk x j (a.eval (.tmp (ibD j))) W) (ho : ibReg[14]? = some o) : ibBOk b off nn cc kk x Q a W 14 o := by
  have hgd := op_at ho (·.guard) (x := some (12, false)) (by kernel_rfl)
  have e12 : a.eval (.tmp 25) = .bool true := haft 12 (op_at ho (fun o => o.after.any fun e => decide (e.on = 12) && Region.binds .any e) (x := true) (by kernel_rfl))
  exact .inr ⟨⟨12, false, hgd, fun h => by
    have h2 := e12.symm.trans (show a.eval (.tmp 25) = .bool false from h)
    simp at h2⟩, rfl⟩
set_option maxHeartbeats 1000000 in
theorem ibB_op15 (haft : ∀ j, (o.after.any fun e => decide (e.on = j) && Region.binds .any e) = true → ibBS b off nn cc kk x j (a.eval (.tmp (ibD j))) W) (ho : ibReg[15]? = some o) : ibBOk b off nn cc kk x Q a W 15 o := by
  have hgd := op_at ho (·.guard) (x := some (12, false)) (by kernel_rfl)
  have e12 : a.eval (.tmp 25) = .bool true := haft 12 (op_at ho (fun o => o.after.any fun e => decide (e.on = 12) && Region.binds .any e) (x := true) (by kernel_rfl))
  exact .inr ⟨⟨12, false, hgd, fun h => by
    have h2 := e12.symm.trans (show a.eval (.tmp 25) = .bool false from h)
    simp at h2⟩, rfl⟩
set_option maxHeartbeats 1000000 in
theorem ibB_op16 (haft : ∀ j, (o.after.any fun e => decide (e.on = j) && Region.binds .any e) = true → ibBS b off nn cc kk x j (a.eval (.tmp (ibD j))) W) (ho : ibReg[16]? = some o) : ibBOk b off nn cc kk x Q a W 16 o := by
  have hgd := op_at ho (·.guard) (x := some (15, true)) (by kernel_rfl)
  have e15 : a.eval (.tmp 28) = undef := haft 15 (op_at ho (fun o => o.after.any fun e => decide (e.on = 15) && Region.binds .any e) (x := true) (by kernel_rfl))
  exact .inr ⟨⟨15, true, hgd, fun h => by
    have h2 := e15.symm.trans (show a.eval (.tmp 28) = .bool true from h)
    simp [undef] at h2⟩, rfl⟩
set_option maxHeartbeats 1000000 in
theorem ibB_op17 (haft : ∀ j, (o.after.any fun e => decide (e.on = j) && Region.binds .any e) = true → ibBS b off nn cc kk x j (a.eval (.tmp (ibD j))) W) (ho : ibReg[17]? = some o) : ibBOk b off nn cc kk x Q a W 17 o := by
  have hgd := op_at ho (·.guard) (x := some (15, true)) (by kernel_rfl)
  have e15 : a.eval (.tmp 28) = undef := haft 15 (op_at ho (fun o => o.after.any fun e => decide (e.on = 15) && Region.binds .any e) (x := true) (by kernel_rfl))
  exact .inr ⟨⟨15, true, hgd, fun h => by
    have h2 := e15.symm.trans (show a.eval (.tmp 28) = .bool true from h)
    simp [undef] at h2⟩, rfl⟩
set_option maxHeartbeats 1000000 in
theorem ibB_op18 (haft : ∀ j, (o.after.any fun e => decide (e.on = j) && Region.binds .any e) = true → ibBS b off nn cc kk x j (a.eval (.tmp (ibD j))) W) (ho : ibReg[18]? = some o) : ibBOk b off nn cc kk x Q a W 18 o := by
  have hgd := op_at ho (·.guard) (x := some (15, true)) (by kernel_rfl)
  have e15 : a.eval (.tmp 28) = undef := haft 15 (op_at ho (fun o => o.after.any fun e => decide (e.on = 15) && Region.binds .any e) (x := true) (by kernel_rfl))
  exact .inr ⟨⟨15, true, hgd, fun h => by
    have h2 := e15.symm.trans (show a.eval (.tmp 28) = .bool true from h)
    simp [undef] at h2⟩, rfl⟩
set_option maxHeartbeats 1000000 in
theorem ibB_op19 (haft : ∀ j, (o.after.any fun e => decide (e.on = j) && Region.binds .any e) = true → ibBS b off nn cc kk x j (a.eval (.tmp (ibD j))) W) (ho : ibReg[19]? = some o) : ibBOk b off nn cc kk x Q a W 19 o := by
  have hgd := op_at ho (·.guard) (x := some (15, true)) (by kernel_rfl)
  have e15 : a.eval (.tmp 28) = undef := haft 15 (op_at ho (fun o => o.after.any fun e => decide (e.on = 15) && Region.binds .any e) (x := true) (by kernel_rfl))
  exact .inr ⟨⟨15, true, hgd, fun h => by
    have h2 := e15.symm.trans (show a.eval (.tmp 28) = .bool true from h)
    simp [undef] at h2⟩, rfl⟩
set_option maxHeartbeats 1000000 in
theorem ibB_op20 (haft : ∀ j, (o.after.any fun e => decide (e.on = j) && Region.binds .any e) = true → ibBS b off nn cc kk x j (a.eval (.tmp (ibD j))) W) (ho : ibReg[20]? = some o) : ibBOk b off nn cc kk x Q a W 20 o := by
  have hgd := op_at ho (·.guard) (x := some (15, true)) (by kernel_rfl)
  have e15 : a.eval (.tmp 28) = undef := haft 15 (op_at ho (fun o => o.after.any fun e => decide (e.on = 15) && Region.binds .any e) (x := true) (by kernel_rfl))
  exact .inr ⟨⟨15, true, hgd, fun h => by
    have h2 := e15.symm.trans (show a.eval (.tmp 28) = .bool true from h)
    simp [undef] at h2⟩, rfl⟩
set_option maxHeartbeats 1000000 in
theorem ibB_op21 (haft : ∀ j, (o.after.any fun e => decide (e.on = j) && Region.binds .any e) = true → ibBS b off nn cc kk x j (a.eval (.tmp (ibD j))) W) (ho : ibReg[21]? = some o) : ibBOk b off nn cc kk x Q a W 21 o := by
  have hgd := op_at ho (·.guard) (x := some (15, true)) (by kernel_rfl)
  have e15 : a.eval (.tmp 28) = undef := haft 15 (op_at ho (fun o => o.after.any fun e => decide (e.on = 15) && Region.binds .any e) (x := true) (by kernel_rfl))
  exact .inr ⟨⟨15, true, hgd, fun h => by
    have h2 := e15.symm.trans (show a.eval (.tmp 28) = .bool true from h)
    simp [undef] at h2⟩, rfl⟩
set_option maxHeartbeats 1000000 in
theorem ibB_op22 (haft : ∀ j, (o.after.any fun e => decide (e.on = j) && Region.binds .any e) = true → ibBS b off nn cc kk x j (a.eval (.tmp (ibD j))) W) (ho : ibReg[22]? = some o) : ibBOk b off nn cc kk x Q a W 22 o := by
  have hgd := op_at ho (·.guard) (x := some (15, true)) (by kernel_rfl)
  have e15 : a.eval (.tmp 28) = undef := haft 15 (op_at ho (fun o => o.after.any fun e => decide (e.on = 15) && Region.binds .any e) (x := true) (by kernel_rfl))
  exact .inr ⟨⟨15, true, hgd, fun h => by
    have h2 := e15.symm.trans (show a.eval (.tmp 28) = .bool true from h)
    simp [undef] at h2⟩, rfl⟩
set_option maxHeartbeats 1000000 in
theorem ibB_op23 (haft : ∀ j, (o.after.any fun e => decide (e.on = j) && Region.binds .any e) = true → ibBS b off nn cc kk x j (a.eval (.tmp (ibD j))) W) (ho : ibReg[23]? = some o) : ibBOk b off nn cc kk x Q a W 23 o := by
  have hgd := op_at ho (·.guard) (x := some (15, true)) (by kernel_rfl)
  have e15 : a.eval (.tmp 28) = undef := haft 15 (op_at ho (fun o => o.after.any fun e => decide (e.on = 15) && Region.binds .any e) (x := true) (by kernel_rfl))
  exact .inr ⟨⟨15, true, hgd, fun h => by
    have h2 := e15.symm.trans (show a.eval (.tmp 28) = .bool true from h)
    simp [undef] at h2⟩, rfl⟩
set_option maxHeartbeats 1000000 in
theorem ibB_op24 (haft : ∀ j, (o.after.any fun e => decide (e.on = j) && Region.binds .any e) = true → ibBS b off nn cc kk x j (a.eval (.tmp (ibD j))) W) (ho : ibReg[24]? = some o) : ibBOk b off nn cc kk x Q a W 24 o := by
  have hgd := op_at ho (·.guard) (x := some (15, true)) (by kernel_rfl)
  have e15 : a.eval (.tmp 28) = undef := haft 15 (op_at ho (fun o => o.after.any fun e => decide (e.on = 15) && Region.binds .any e) (x := true) (by kernel_rfl))
  exact .inr ⟨⟨15, true, hgd, fun h => by
    have h2 := e15.symm.trans (show a.eval (.tmp 28) = .bool true from h)
    simp [undef] at h2⟩, rfl⟩
set_option maxHeartbeats 1000000 in
theorem ibB_op25 (haft : ∀ j, (o.after.any fun e => decide (e.on = j) && Region.binds .any e) = true → ibBS b off nn cc kk x j (a.eval (.tmp (ibD j))) W) (ho : ibReg[25]? = some o) : ibBOk b off nn cc kk x Q a W 25 o := by
  have hgd := op_at ho (·.guard) (x := some (15, true)) (by kernel_rfl)
  have e15 : a.eval (.tmp 28) = undef := haft 15 (op_at ho (fun o => o.after.any fun e => decide (e.on = 15) && Region.binds .any e) (x := true) (by kernel_rfl))
  exact .inr ⟨⟨15, true, hgd, fun h => by
    have h2 := e15.symm.trans (show a.eval (.tmp 28) = .bool true from h)
    simp [undef] at h2⟩, rfl⟩
set_option maxHeartbeats 1000000 in
theorem ibB_op26 (haft : ∀ j, (o.after.any fun e => decide (e.on = j) && Region.binds .any e) = true → ibBS b off nn cc kk x j (a.eval (.tmp (ibD j))) W) (ho : ibReg[26]? = some o) : ibBOk b off nn cc kk x Q a W 26 o := by
  have hgd := op_at ho (·.guard) (x := some (12, false)) (by kernel_rfl)
  have e12 : a.eval (.tmp 25) = .bool true := haft 12 (op_at ho (fun o => o.after.any fun e => decide (e.on = 12) && Region.binds .any e) (x := true) (by kernel_rfl))
  exact .inr ⟨⟨12, false, hgd, fun h => by
    have h2 := e12.symm.trans (show a.eval (.tmp 25) = .bool false from h)
    simp at h2⟩, rfl⟩
set_option maxHeartbeats 1000000 in
theorem ibB_op27 (haft : ∀ j, (o.after.any fun e => decide (e.on = j) && Region.binds .any e) = true → ibBS b off nn cc kk x j (a.eval (.tmp (ibD j))) W) (ho : ibReg[27]? = some o) : ibBOk b off nn cc kk x Q a W 27 o := by
  have hop := op_at ho (·.op) (x := Op.pick (Operand.tmp 25) (Operand.const (Value.bool true)) (Operand.tmp 39)) (by kernel_rfl)
  have hgd := op_at ho (·.guard) (x := none) (by kernel_rfl)
  have e12 : a.eval (.tmp 25) = .bool true := haft 12 (op_at ho (fun o => o.after.any fun e => decide (e.on = 12) && Region.binds .any e) (x := true) (by kernel_rfl))
  refine .inl ⟨fun j b h => (by rw [hgd] at h; cases h), ?_⟩
  exact specs_value (R := fun v W => ibBS b off nn cc kk x 27 v W) (v := .bool true) (by simp [execOp, hop, go_sem, ev e12]) rfl (Ext.refl W)
set_option maxRecDepth 100000 in
set_option maxHeartbeats 4000000 in
/-- Region 6 of function 38, one way through it. -/
theorem ibB_wp {id : Nat} (hlen : a.tmps.size = 41) (o0 : a.eval (.tmp 0) = .slice (some ⟨b, off, none⟩) nn cc) (o3 : a.eval (.tmp 3) = .int .i64 (kk : Int)) (hlt : (kk : Int) < (nn : Int)) (cx : ∀ W, Ext V W → W.cell? ⟨b, off + kk, none⟩ = some (.int .i64 x)) (h1 : ¬ x < -10000) (h2 : 10000 < x) (K : ∀ W, Ext V W → Q .normal (puts a [(13, .slice (some ⟨b, off, none⟩) nn cc), (14, .int .i64 (kk : Int)), (15, .pointer (some ⟨b, off + kk, none⟩)), (16, .int .i64 x), (17, .bool false), (18, .bool false), (19, .slice (some ⟨b, off, none⟩) nn cc), (20, .int .i64 (kk : Int)), (21, .pointer (some ⟨b, off + kk, none⟩)), (22, .int .i64 x), (23, .bool true), (24, .bool true), (25, .bool true), (26, undef), (27, undef), (28, undef), (29, undef), (30, undef), (31, undef), (32, undef), (33, undef), (34, undef), (35, undef), (36, undef), (37, undef), (38, undef), (39, undef), (40, .bool true)]) W) : (Code.region id ibReg true).wp Tryz.prog Q a V := by
  refine wp_region_maybe (ops := ibReg) (ibBS b off nn cc kk x) (Ext V) (by kernel_rfl) (by rw [hlen]; kernel_rfl) ⟨rfl, rfl, rfl, Nat.le_refl _, fun _ _ => rfl⟩ (fun _ _ h e => h.trans e) (fun _ _ _ _ h _ => h) ibD (by kernel_rfl) ?_ ?_
  · intro i o ho a' W hB hsz hold haft
    have hi : i < 28 := by
      have h1 := (Array.getElem?_eq_some_iff.1 ho).1
      have h2 := ib_size
      omega
    match i, hi with
    | 0, _ => exact ibB_op0 ((hold 0 (by kernel_rfl)).trans o0) ho
    | 1, _ => exact ibB_op1 ((hold 3 (by kernel_rfl)).trans o3) ho
    | 2, _ => exact ibB_op2 hlt haft ho
    | 3, _ => exact ibB_op3 cx hB haft ho
    | 4, _ => exact ibB_op4 h1 haft ho
    | 5, _ => exact ibB_op5 haft ho
    | 6, _ => exact ibB_op6 ((hold 0 (by kernel_rfl)).trans o0) haft ho
    | 7, _ => exact ibB_op7 ((hold 3 (by kernel_rfl)).trans o3) haft ho
    | 8, _ => exact ibB_op8 hlt haft ho
    | 9, _ => exact ibB_op9 cx hB haft ho
    | 10, _ => exact ibB_op10 h2 haft ho
    | 11, _ => exact ibB_op11 haft ho
    | 12, _ => exact ibB_op12 haft ho
    | 13, _ => exact ibB_op13 haft ho
    | 14, _ => exact ibB_op14 haft ho
    | 15, _ => exact ibB_op15 haft ho
    | 16, _ => exact ibB_op16 haft ho
    | 17, _ => exact ibB_op17 haft ho
    | 18, _ => exact ibB_op18 haft ho
    | 19, _ => exact ibB_op19 haft ho
    | 20, _ => exact ibB_op20 haft ho
    | 21, _ => exact ibB_op21 haft ho
    | 22, _ => exact ibB_op22 haft ho
    | 23, _ => exact ibB_op23 haft ho
    | 24, _ => exact ibB_op24 haft ho
    | 25, _ => exact ibB_op25 haft ho
    | 26, _ => exact ibB_op26 haft ho
    | 27, _ => exact ibB_op27 haft ho
    | m + 28, h => exact absurd h (by omega)
  · intro a1 W hB hsz hdf hold hS
    have hs2 := ib_size
    have hall : ∀ zz, zz ∈ ([(13, .slice (some ⟨b, off, none⟩) nn cc), (14, .int .i64 (kk : Int)), (15, .pointer (some ⟨b, off + kk, none⟩)), (16, .int .i64 x), (17, .bool false), (18, .bool false), (19, .slice (some ⟨b, off, none⟩) nn cc), (20, .int .i64 (kk : Int)), (21, .pointer (some ⟨b, off + kk, none⟩)), (22, .int .i64 x), (23, .bool true), (24, .bool true), (25, .bool true), (26, undef), (27, undef), (28, undef), (29, undef), (30, undef), (31, undef), (32, undef), (33, undef), (34, undef), (35, undef), (36, undef), (37, undef), (38, undef), (39, undef), (40, .bool true)] : List (Tmp × Value)) → zz.1 < a.tmps.size ∧ a1.eval (.tmp zz.1) = zz.2 := by
      intro zz hz
      rw [hlen]
      simp only [List.mem_cons, List.not_mem_nil, or_false] at hz
      rcases hz with rfl | rfl | rfl | rfl | rfl | rfl | rfl | rfl | rfl | rfl | rfl | rfl | rfl | rfl | rfl | rfl | rfl | rfl | rfl | rfl | rfl | rfl | rfl | rfl | rfl | rfl | rfl | rfl
      · exact ⟨(show (13 : Nat) < 41 by omega), hS 0 (by omega)⟩
      · exact ⟨(show (14 : Nat) < 41 by omega), hS 1 (by omega)⟩
      · exact ⟨(show (15 : Nat) < 41 by omega), hS 2 (by omega)⟩
      · exact ⟨(show (16 : Nat) < 41 by omega), hS 3 (by omega)⟩
      · exact ⟨(show (17 : Nat) < 41 by omega), hS 4 (by omega)⟩
      · exact ⟨(show (18 : Nat) < 41 by omega), hS 5 (by omega)⟩
      · exact ⟨(show (19 : Nat) < 41 by omega), hS 6 (by omega)⟩
      · exact ⟨(show (20 : Nat) < 41 by omega), hS 7 (by omega)⟩
      · exact ⟨(show (21 : Nat) < 41 by omega), hS 8 (by omega)⟩
      · exact ⟨(show (22 : Nat) < 41 by omega), hS 9 (by omega)⟩
      · exact ⟨(show (23 : Nat) < 41 by omega), hS 10 (by omega)⟩
      · exact ⟨(show (24 : Nat) < 41 by omega), hS 11 (by omega)⟩
      · exact ⟨(show (25 : Nat) < 41 by omega), hS 12 (by omega)⟩
      · exact ⟨(show (26 : Nat) < 41 by omega), hS 13 (by omega)⟩
      · exact ⟨(show (27 : Nat) < 41 by omega), hS 14 (by omega)⟩
      · exact ⟨(show (28 : Nat) < 41 by omega), hS 15 (by omega)⟩
      · exact ⟨(show (29 : Nat) < 41 by omega), hS 16 (by omega)⟩
      · exact ⟨(show (30 : Nat) < 41 by omega), hS 17 (by omega)⟩
      · exact ⟨(show (31 : Nat) < 41 by omega), hS 18 (by omega)⟩
      · exact ⟨(show (32 : Nat) < 41 by omega), hS 19 (by omega)⟩
      · exact ⟨(show (33 : Nat) < 41 by omega), hS 20 (by omega)⟩
      · exact ⟨(show (34 : Nat) < 41 by omega), hS 21 (by omega)⟩
      · exact ⟨(show (35 : Nat) < 41 by omega), hS 22 (by omega)⟩
      · exact ⟨(show (36 : Nat) < 41 by omega), hS 23 (by omega)⟩
      · exact ⟨(show (37 : Nat) < 41 by omega), hS 24 (by omega)⟩
      · exact ⟨(show (38 : Nat) < 41 by omega), hS 25 (by omega)⟩
      · exact ⟨(show (39 : Nat) < 41 by omega), hS 26 (by omega)⟩
      · exact ⟨(show (40 : Nat) < 41 by omega), hS 27 (by omega)⟩
    have ha := act_puts hsz hdf hall (fun t ht => hold t (by rw [hs2]; exact all_ne_of (l := [(13, .slice (some ⟨b, off, none⟩) nn cc), (14, .int .i64 (kk : Int)), (15, .pointer (some ⟨b, off + kk, none⟩)), (16, .int .i64 x), (17, .bool false), (18, .bool false), (19, .slice (some ⟨b, off, none⟩) nn cc), (20, .int .i64 (kk : Int)), (21, .pointer (some ⟨b, off + kk, none⟩)), (22, .int .i64 x), (23, .bool true), (24, .bool true), (25, .bool true), (26, undef), (27, undef), (28, undef), (29, undef), (30, undef), (31, undef), (32, undef), (33, undef), (34, undef), (35, undef), (36, undef), (37, undef), (38, undef), (39, undef), (40, .bool true)]) (by kernel_rfl) ht))
    rw [ha]
    exact K W hB
end
/-- What each operation yields. -/
def ibCS (b off nn cc kk : Nat) (x : Int) (ix : Nat) (v : Value) (_ : World) : Prop :=
  match ix with
  | 0 => v = .slice (some ⟨b, off, none⟩) nn cc
  | 1 => v = .int .i64 (kk : Int)
  | 2 => v = .pointer (some ⟨b, off + kk, none⟩)
  | 3 => v = .int .i64 x
  | 4 => v = .bool false
  | 5 => v = .bool false
  | 6 => v = .slice (some ⟨b, off, none⟩) nn cc
  | 7 => v = .int .i64 (kk : Int)
  | 8 => v = .pointer (some ⟨b, off + kk, none⟩)
  | 9 => v = .int .i64 x
  | 10 => v = .bool false
  | 11 => v = .bool false
  | 12 => v = .bool false
  | 13 => v = .int .i64 (kk : Int)
  | 14 => v = .bool false
  | 15 => v = .bool false
  | 16 => v = undef
  | 17 => v = undef
  | 18 => v = undef
  | 19 => v = undef
  | 20 => v = undef
  | 21 => v = undef
  | 22 => v = undef
  | 23 => v = undef
  | 24 => v = undef
  | 25 => v = undef
  | 26 => v = .bool false
  | 27 => v = .bool false
  | _ => True
def ibCOk (b off nn cc kk : Nat) (x : Int) (Q : Exit → Act → World → Prop) (a : Act) (W : World) (ix : Nat) (o : Oper) : Prop :=
  ((∀ j b, o.guard = some (j, b) → a.eval (.tmp (ibD j)) = .bool b) ∧ o.wp Tryz.prog a W (fun a'' W' => ∃ v, a'' = a.put o.dst v ∧ ibCS b off nn cc kk x ix v W' ∧ Below W.heap.size W W') Q) ∨ ((∃ j b, o.guard = some (j, b) ∧ a.eval (.tmp (ibD j)) ≠ .bool b) ∧ ibCS b off nn cc kk x ix undef W)
section
variable {b off nn cc kk : Nat} {x : Int} {Q : Exit → Act → World → Prop} {a : Act} {V W : World} {o : Oper}
set_option maxHeartbeats 1000000 in
theorem ibC_op0 (o0 : a.eval (.tmp 0) = .slice (some ⟨b, off, none⟩) nn cc) (ho : ibReg[0]? = some o) : ibCOk b off nn cc kk x Q a W 0 o := by
  have hop := op_at ho (·.op) (x := Op.move (Operand.tmp 0)) (by kernel_rfl)
  have hgd := op_at ho (·.guard) (x := none) (by kernel_rfl)
  refine .inl ⟨fun j b h => (by rw [hgd] at h; cases h), ?_⟩
  exact specs_value (R := fun v W => ibCS b off nn cc kk x 0 v W) (v := .slice (some ⟨b, off, none⟩) nn cc) (by simp [execOp, hop, go_sem, ev o0]) rfl (Ext.refl W)
set_option maxHeartbeats 1000000 in
theorem ibC_op1 (o3 : a.eval (.tmp 3) = .int .i64 (kk : Int)) (ho : ibReg[1]? = some o) : ibCOk b off nn cc kk x Q a W 1 o := by
  have hop := op_at ho (·.op) (x := Op.move (Operand.tmp 3)) (by kernel_rfl)
  have hgd := op_at ho (·.guard) (x := none) (by kernel_rfl)
  refine .inl ⟨fun j b h => (by rw [hgd] at h; cases h), ?_⟩
  exact specs_value (R := fun v W => ibCS b off nn cc kk x 1 v W) (v := .int .i64 (kk : Int)) (by simp [execOp, hop, go_sem, ev o3]) rfl (Ext.refl W)
set_option maxHeartbeats 1000000 in
theorem ibC_op2 (hlt : (kk : Int) < (nn : Int)) (haft : ∀ j, (o.after.any fun e => decide (e.on = j) && Region.binds .any e) = true → ibCS b off nn cc kk x j (a.eval (.tmp (ibD j))) W) (ho : ibReg[2]? = some o) : ibCOk b off nn cc kk x Q a W 2 o := by
  have hop := op_at ho (·.op) (x := Op.indexAddr 36 (Operand.tmp 13) (Operand.tmp 14)) (by kernel_rfl)
  have hgd := op_at ho (·.guard) (x := none) (by kernel_rfl)
  have e0 : a.eval (.tmp 13) = .slice (some ⟨b, off, none⟩) nn cc := haft 0 (op_at ho (fun o => o.after.any fun e => decide (e.on = 0) && Region.binds .any e) (x := true) (by kernel_rfl))
  have e1 : a.eval (.tmp 14) = .int .i64 (kk : Int) := haft 1 (op_at ho (fun o => o.after.any fun e => decide (e.on = 1) && Region.binds .any e) (x := true) (by kernel_rfl))
  refine .inl ⟨fun j b h => (by rw [hgd] at h; cases h), ?_⟩
  exact specs_value (R := fun v W => ibCS b off nn cc kk x 2 v W) (v := .pointer (some ⟨b, off + kk, none⟩)) (by simp [execOp, hop, go_sem, ev e0, ev e1, hlt]) rfl (Ext.refl W)
set_option maxHeartbeats 1000000 in
theorem ibC_op3 (cx : ∀ W, Ext V W → W.cell? ⟨b, off + kk, none⟩ = some (.int .i64 x)) (hB : Ext V W) (haft : ∀ j, (o.after.any fun e => decide (e.on = j) && Region.binds .any e) = true → ibCS b off nn cc kk x j (a.eval (.tmp (ibD j))) W) (ho : ibReg[3]? = some o) : ibCOk b off nn cc kk x Q a W 3 o := by
  have hop := op_at ho (·.op) (x := Op.load 2 (Operand.tmp 15)) (by kernel_rfl)
  have hgd := op_at ho (·.guard) (x := none) (by kernel_rfl)
  have e2 : a.eval (.tmp 15) = .pointer (some ⟨b, off + kk, none⟩) := haft 2 (op_at ho (fun o => o.after.any fun e => decide (e.on = 2) && Region.binds .any e) (x := true) (by kernel_rfl))
  refine .inl ⟨fun j b h => (by rw [hgd] at h; cases h), ?_⟩
  have cx' := cx W hB
  exact specs_value (R := fun v W => ibCS b off nn cc kk x 3 v W) (v := .int .i64 x) (by simp [execOp, hop, go_sem, ev e2, cx']) rfl (Ext.refl W)
set_option maxHeartbeats 1000000 in
theorem ibC_op4 (h1 : ¬ x < -10000) (haft : ∀ j, (o.after.any fun e => decide (e.on = j) && Region.binds .any e) = true → ibCS b off nn cc kk x j (a.eval (.tmp (ibD j))) W) (ho : ibReg[4]? = some o) : ibCOk b off nn cc kk x Q a W 4 o := by
  have hop := op_at ho (·.op) (x := Op.binOp BinOp.lss 2 (Operand.tmp 16) (Operand.const (Value.int IntKind.i64 (-10000))) 2) (by kernel_rfl)
  have hgd := op_at ho (·.guard) (x := none) (by kernel_rfl)
  have e3 : a.eval (.tmp 16) = .int .i64 x := haft 3 (op_at ho (fun o => o.after.any fun e => decide (e.on = 3) && Region.binds .any e) (x := true) (by kernel_rfl))
  refine .inl ⟨fun j b h => (by rw [hgd] at h; cases h), ?_⟩
  exact specs_value (R := fun v W => ibCS b off nn cc kk x 4 v W) (v := .bool false) (by simp [execOp, hop, go_sem, ev e3, h1]) rfl (Ext.refl W)
set_option maxHeartbeats 1000000 in
theorem ibC_op5 (haft : ∀ j, (o.after.any fun e => decide (e.on = j) && Region.binds .any e) = true → ibCS b off nn cc kk x j (a.eval (.tmp (ibD j))) W) (ho : ibReg[5]? = some o) : ibCOk b off nn cc kk x Q a W 5 o := by
  have hop := op_at ho (·.op) (x := Op.move (Operand.tmp 17)) (by kernel_rfl)
  have hgd := op_at ho (·.guard) (x := none) (by kernel_rfl)
  have e4 : a.eval (.tmp 17) = .bool false := haft 4 (op_at ho (fun o => o.after.any fun e => decide (e.on = 4) && Region.binds .any e) (x := true) (by kernel_rfl))
  refine .inl ⟨fun j b h => (by rw [hgd] at h; cases h), ?_⟩
  exact specs_value (R := fun v W => ibCS b off nn cc kk x 5 v W) (v := .bool false) (by simp [execOp, hop, go_sem, ev e4]) rfl (Ext.refl W)
set_option maxHeartbeats 1000000 in
theorem ibC_op6 (o0 : a.eval (.tmp 0) = .slice (some ⟨b, off, none⟩) nn cc) (haft : ∀ j, (o.after.any fun e => decide (e.on = j) && Region.binds .any e) = true → ibCS b off nn cc kk x j (a.eval (.tmp (ibD j))) W) (ho : ibReg[6]? = some o) : ibCOk b off nn cc kk x Q a W 6 o := by
  have hop := op_at ho (·.op) (x := Op.move (Operand.tmp 0)) (by kernel_rfl)
  have hgd := op_at ho (·.guard) (x := some (5, false)) (by kernel_rfl)
  have e5 : a.eval (.tmp 18) = .bool false := haft 5 (op_at ho (fun o => o.after.any fun e => decide (e.on = 5) && Region.binds .any e) (x := true) (by kernel_rfl))
  refine .inl ⟨fun j b h => (by rw [hgd] at h; cases h; exact e5), ?_⟩
  exact specs_value (R := fun v W => ibCS b off nn cc kk x 6 v W) (v := .slice (some ⟨b, off, none⟩) nn cc) (by simp [execOp, hop, go_sem, ev o0]) rfl (Ext.refl W)
set_option maxHeartbeats 1000000 in
theorem ibC_op7 (o3 : a.eval (.tmp 3) = .int .i64 (kk : Int)) (haft : ∀ j, (o.after.any fun e => decide (e.on = j) && Region.binds .any e) = true → ibCS b off nn cc kk x j (a.eval (.tmp (ibD j))) W) (ho : ibReg[7]? = some o) : ibCOk b off nn cc kk x Q a W 7 o := by
  have hop := op_at ho (·.op) (x := Op.move (Operand.tmp 3)) (by kernel_rfl)
  have hgd := op_at ho (·.guard) (x := some (5, false)) (by kernel_rfl)
  have e5 : a.eval (.tmp 18) = .bool false := haft 5 (op_at ho (fun o => o.after.any fun e => decide (e.on = 5) && Region.binds .any e) (x := true) (by kernel_rfl))
  refine .inl ⟨fun j b h => (by rw [hgd] at h; cases h; exact e5), ?_⟩
  exact specs_value (R := fun v W => ibCS b off nn cc kk x 7 v W) (v := .int .i64 (kk : Int)) (by simp [execOp, hop, go_sem, ev o3]) rfl (Ext.refl W)
set_option maxHeartbeats 1000000 in
theorem ibC_op8 (hlt : (kk : Int) < (nn : Int)) (haft : ∀ j, (o.after.any fun e => decide (e.on = j) && Region.binds .any e) = true → ibCS b off nn cc kk x j (a.eval (.tmp (ibD j))) W) (ho : ibReg[8]? = some o) : ibCOk b off nn cc kk x Q a W 8 o := by
  have hop := op_at ho (·.op) (x := Op.indexAddr 36 (Operand.tmp 19) (Operand.tmp 20)) (by kernel_rfl)
  have hgd := op_at ho (·.guard) (x := some (5, false)) (by kernel_rfl)
  have e5 : a.eval (.tmp 18) = .bool false := haft 5 (op_at ho (fun o => o.after.any fun e => decide (e.on = 5) && Region.binds .any e) (x := true) (by kernel_rfl))
  have e6 : a.eval (.tmp 19) = .slice (some ⟨b, off, none⟩) nn cc := haft 6 (op_at ho (fun o => o.after.any fun e => decide (e.on = 6) && Region.binds .any e) (x := true) (by kernel_rfl))
  have e7 : a.eval (.tmp 20) = .int .i64 (kk : Int) := haft 7 (op_at ho (fun o => o.after.any fun e => decide (e.on = 7) && Region.binds .any e) (x := true) (by kernel_rfl))
  refine .inl ⟨fun j b h => (by rw [hgd] at h; cases h; exact e5), ?_⟩
  exact specs_value (R := fun v W => ibCS b off nn cc kk x 8 v W) (v := .pointer (some ⟨b, off + kk, none⟩)) (by simp [execOp, hop, go_sem, ev e6, ev e7, hlt]) rfl (Ext.refl W)
set_option maxHeartbeats 1000000 in
theorem ibC_op9 (cx : ∀ W, Ext V W → W.cell? ⟨b, off + kk, none⟩ = some (.int .i64 x)) (hB : Ext V W) (haft : ∀ j, (o.after.any fun e => decide (e.on = j) && Region.binds .any e) = true → ibCS b off nn cc kk x j (a.eval (.tmp (ibD j))) W) (ho : ibReg[9]? = some o) : ibCOk b off nn cc kk x Q a W 9 o := by
  have hop := op_at ho (·.op) (x := Op.load 2 (Operand.tmp 21)) (by kernel_rfl)
  have hgd := op_at ho (·.guard) (x := some (5, false)) (by kernel_rfl)
  have e5 : a.eval (.tmp 18) = .bool false := haft 5 (op_at ho (fun o => o.after.any fun e => decide (e.on = 5) && Region.binds .any e) (x := true) (by kernel_rfl))
  have e8 : a.eval (.tmp 21) = .pointer (some ⟨b, off + kk, none⟩) := haft 8 (op_at ho (fun o => o.after.any fun e => decide (e.on = 8) && Region.binds .any e) (x := true) (by kernel_rfl))
  refine .inl ⟨fun j b h => (by rw [hgd] at h; cases h; exact e5), ?_⟩
  have cx' := cx W hB
  exact specs_value (R := fun v W => ibCS b off nn cc kk x 9 v W) (v := .int .i64 x) (by simp [execOp, hop, go_sem, ev e8, cx']) rfl (Ext.refl W)
set_option maxHeartbeats 1000000 in
theorem ibC_op10 (h2 : ¬ 10000 < x) (haft : ∀ j, (o.after.any fun e => decide (e.on = j) && Region.binds .any e) = true → ibCS b off nn cc kk x j (a.eval (.tmp (ibD j))) W) (ho : ibReg[10]? = some o) : ibCOk b off nn cc kk x Q a W 10 o := by
  have hop := op_at ho (·.op) (x := Op.binOp BinOp.gtr 2 (Operand.tmp 22) (Operand.const (Value.int IntKind.i64 10000)) 2) (by kernel_rfl)
  have hgd := op_at ho (·.guard) (x := some (5, false)) (by kernel_rfl)
  have e5 : a.eval (.tmp 18) = .bool false := haft 5 (op_at ho (fun o => o.after.any fun e => decide (e.on = 5) && Region.binds .any e) (x := true) (by kernel_rfl))
  have e9 : a.eval (.tmp 22) = .int .i64 x := haft 9 (op_at ho (fun o => o.after.any fun e => decide (e.on = 9) && Region.binds .any e) (x := true) (by kernel_rfl))
  refine .inl ⟨fun j b h => (by rw [hgd] at h; cases h; exact e5), ?_⟩
  exact specs_value (R := fun v W => ibCS b off nn cc kk x 10 v W) (v := .bool false) (by simp [execOp, hop, go_sem, ev e9, h2]) rfl (Ext.refl W)
set_option maxHeartbeats 1000000 in
theorem ibC_op11 (haft : ∀ j, (o.after.any fun e => decide (e.on = j) && Region.binds .any e) = true → ibCS b off nn cc kk x j (a.eval (.tmp (ibD j))) W) (ho : ibReg[11]? = some o) : ibCOk b off nn cc kk x Q a W 11 o := by
  have hop := op_at ho (·.op) (x := Op.pick (Operand.tmp 18) (Operand.const (Value.bool true)) (Operand.tmp 23)) (by kernel_rfl)
  have hgd := op_at ho (·.guard) (x := none) (by kernel_rfl)
  have e5 : a.eval (.tmp 18) = .bool false := haft 5 (op_at ho (fun o => o.after.any fun e => decide (e.on = 5) && Region.binds .any e) (x := true) (by kernel_rfl))
  have e10 : a.eval (.tmp 23) = .bool false := haft 10 (op_at ho (fun o => o.after.any fun e => decide (e.on = 10) && Region.binds .any e) (x := true) (by kernel_rfl))
  refine .inl ⟨fun j b h => (by rw [hgd] at h; cases h), ?_⟩
  exact specs_value (R := fun v W => ibCS b off nn cc kk x 11 v W) (v := .bool false) (by simp [execOp, hop, go_sem, ev e5, ev e10]) rfl (Ext.refl W)
set_option maxHeartbeats 1000000 in
theorem ibC_op12 (haft : ∀ j, (o.after.any fun e => decide (e.on = j) && Region.binds .any e) = true → ibCS b off nn cc kk x j (a.eval (.tmp (ibD j))) W) (ho : ibReg[12]? = some o) : ibCOk b off nn cc kk x Q a W 12 o := by
  have hop := op_at ho (·.op) (x := Op.move (Operand.tmp 24)) (by kernel_rfl)
  have hgd := op_at ho (·.guard) (x := none) (by kernel_rfl)
  have e11 : a.eval (.tmp 24) = .bool false := haft 11 (op_at ho (fun o => o.after.any fun e => decide (e.on = 11) && Region.binds .any e) (x := true) (by kernel_rfl))
  refine .inl ⟨fun j b h => (by rw [hgd] at h; cases h), ?_⟩
  exact specs_value (R := fun v W => ibCS b off nn cc kk x 12 v W) (v := .bool false) (by simp [execOp, hop, go_sem, ev e11]) rfl (Ext.refl W)
set_option maxHeartbeats 1000000 in
theorem ibC_op13 (o3 : a.eval (.tmp 3) = .int .i64 (kk : Int)) (haft : ∀ j, (o.after.any fun e => decide (e.on = j) && Region.binds .any e) = true → ibCS b off nn cc kk x j (a.eval (.tmp (ibD j))) W) (ho : ibReg[13]? = some o) : ibCOk b off nn cc kk x Q a W 13 o := by
  have hop := op_at ho (·.op) (x := Op.move (Operand.tmp 3)) (by kernel_rfl)
  have hgd := op_at ho (·.guard) (x := some (12, false)) (by kernel_rfl)
  have e12 : a.eval (.tmp 25) = .bool false := haft 12 (op_at ho (fun o => o.after.any fun e => decide (e.on = 12) && Region.binds .any e) (x := true) (by kernel_rfl))
  refine .inl ⟨fun j b h => (by rw [hgd] at h; cases h; exact e12), ?_⟩
  exact specs_value (R := fun v W => ibCS b off nn cc kk x 13 v W) (v := .int .i64 (kk : Int)) (by simp [execOp, hop, go_sem, ev o3]) rfl (Ext.refl W)
set_option maxHeartbeats 1000000 in
theorem ibC_op14 (h3 : kk = 0) (haft : ∀ j, (o.after.any fun e => decide (e.on = j) && Region.binds .any e) = true → ibCS b off nn cc kk x j (a.eval (.tmp (ibD j))) W) (ho : ibReg[14]? = some o) : ibCOk b off nn cc kk x Q a W 14 o := by
  have hop := op_at ho (·.op) (x := Op.binOp BinOp.gtr 3 (Operand.tmp 26) (Operand.const (Value.int IntKind.i64 0)) 3) (by kernel_rfl)
  have hgd := op_at ho (·.guard) (x := some (12, false)) (by kernel_rfl)
  have e12 : a.eval (.tmp 25) = .bool false := haft 12 (op_at ho (fun o => o.after.any fun e => decide (e.on = 12) && Region.binds .any e) (x := true) (by kernel_rfl))
  have e13 : a.eval (.tmp 26) = .int .i64 (kk : Int) := haft 13 (op_at ho (fun o => o.after.any fun e => decide (e.on = 13) && Region.binds .any e) (x := true) (by kernel_rfl))
  refine .inl ⟨fun j b h => (by rw [hgd] at h; cases h; exact e12), ?_⟩
  exact specs_value (R := fun v W => ibCS b off nn cc kk x 14 v W) (v := .bool false) (by simp [execOp, hop, go_sem, ev e13, h3]) rfl (Ext.refl W)
set_option maxHeartbeats 1000000 in
theorem ibC_op15 (haft : ∀ j, (o.after.any fun e => decide (e.on = j) && Region.binds .any e) = true → ibCS b off nn cc kk x j (a.eval (.tmp (ibD j))) W) (ho : ibReg[15]? = some o) : ibCOk b off nn cc kk x Q a W 15 o := by
  have hop := op_at ho (·.op) (x := Op.move (Operand.tmp 27)) (by kernel_rfl)
  have hgd := op_at ho (·.guard) (x := some (12, false)) (by kernel_rfl)
  have e12 : a.eval (.tmp 25) = .bool false := haft 12 (op_at ho (fun o => o.after.any fun e => decide (e.on = 12) && Region.binds .any e) (x := true) (by kernel_rfl))
  have e14 : a.eval (.tmp 27) = .bool false := haft 14 (op_at ho (fun o => o.after.any fun e => decide (e.on = 14) && Region.binds .any e) (x := true) (by kernel_rfl))
  refine .inl ⟨fun j b h => (by rw [hgd] at h; cases h; exact e12), ?_⟩
  exact specs_value (R := fun v W => ibCS b off nn cc kk x 15 v W) (v := .bool false) (by simp [execOp, hop, go_sem, ev e14]) rfl (Ext.refl W)
set_option maxHeartbeats 1000000 in
theorem ibC_op16 (haft : ∀ j, (o.after.any fun e => decide (e.on = j) && Region.binds .any e) = true → ibCS b off nn cc kk x j (a.eval (.tmp (ibD j))) W) (ho : ibReg[16]? = some o) : ibCOk b off nn cc kk x Q a W 16 o := by
  have hgd := op_at ho (·.guard) (x := some (15, true)) (by kernel_rfl)
  have e15 : a.eval (.tmp 28) = .bool false := haft 15 (op_at ho (fun o => o.after.any fun e => decide (e.on = 15) && Region.binds .any e) (x := true) (by kernel_rfl))
  exact .inr ⟨⟨15, true, hgd, fun h => by
    have h2 := e15.symm.trans (show a.eval (.tmp 28) = .bool true from h)
    simp at h2⟩, rfl⟩
set_option maxHeartbeats 1000000 in
theorem ibC_op17 (haft : ∀ j, (o.after.any fun e => decide (e.on = j) && Region.binds .any e) = true → ibCS b off nn cc kk x j (a.eval (.tmp (ibD j))) W) (ho : ibReg[17]? = some o) : ibCOk b off nn cc kk x Q a W 17 o := by
  have hgd := op_at ho (·.guard) (x := some (15, true)) (by kernel_rfl)
  have e15 : a.eval (.tmp 28) = .bool false := haft 15 (op_at ho (fun o => o.after.any fun e => decide (e.on = 15) && Region.binds .any e) (x := true) (by kernel_rfl))
  exact .inr ⟨⟨15, true, hgd, fun h => by
    have h2 := e15.symm.trans (show a.eval (.tmp 28) = .bool true from h)
    simp at h2⟩, rfl⟩
set_option maxHeartbeats 1000000 in
theorem ibC_op18 (haft : ∀ j, (o.after.any fun e => decide (e.on = j) && Region.binds .any e) = true → ibCS b off nn cc kk x j (a.eval (.tmp (ibD j))) W) (ho : ibReg[18]? = some o) : ibCOk b off nn cc kk x Q a W 18 o := by
  have hgd := op_at ho (·.guard) (x := some (15, true)) (by kernel_rfl)
  have e15 : a.eval (.tmp 28) = .bool false := haft 15 (op_at ho (fun o => o.after.any fun e => decide (e.on = 15) && Region.binds .any e) (x := true) (by kernel_rfl))
  exact .inr ⟨⟨15, true, hgd, fun h => by
    have h2 := e15.symm.trans (show a.eval (.tmp 28) = .bool true from h)
    simp at h2⟩, rfl⟩
set_option maxHeartbeats 1000000 in
theorem ibC_op19 (haft : ∀ j, (o.after.any fun e => decide (e.on = j) && Region.binds .any e) = true → ibCS b off nn cc kk x j (a.eval (.tmp (ibD j))) W) (ho : ibReg[19]? = some o) : ibCOk b off nn cc kk x Q a W 19 o := by
  have hgd := op_at ho (·.guard) (x := some (15, true)) (by kernel_rfl)
  have e15 : a.eval (.tmp 28) = .bool false := haft 15 (op_at ho (fun o => o.after.any fun e => decide (e.on = 15) && Region.binds .any e) (x := true) (by kernel_rfl))
  exact .inr ⟨⟨15, true, hgd, fun h => by
    have h2 := e15.symm.trans (show a.eval (.tmp 28) = .bool true from h)
    simp at h2⟩, rfl⟩
set_option maxHeartbeats 1000000 in
theorem ibC_op20 (haft : ∀ j, (o.after.any fun e => decide (e.on = j) && Region.binds .any e) = true → ibCS b off nn cc kk x j (a.eval (.tmp (ibD j))) W) (ho : ibReg[20]? = some o) : ibCOk b off nn cc kk x Q a W 20 o := by
  have hgd := op_at ho (·.guard) (x := some (15, true)) (by kernel_rfl)
  have e15 : a.eval (.tmp 28) = .bool false := haft 15 (op_at ho (fun o => o.after.any fun e => decide (e.on = 15) && Region.binds .any e) (x := true) (by kernel_rfl))
  exact .inr ⟨⟨15, true, hgd, fun h => by
    have h2 := e15.symm.trans (show a.eval (.tmp 28) = .bool true from h)
    simp at h2⟩, rfl⟩
set_option maxHeartbeats 1000000 in
theorem ibC_op21 (haft : ∀ j, (o.after.any fun e => decide (e.on = j) && Region.binds .any e) = true → ibCS b off nn cc kk x j (a.eval (.tmp (ibD j))) W) (ho : ibReg[21]? = some o) : ibCOk b off nn cc kk x Q a W 21 o := by
  have hgd := op_at ho (·.guard) (x := some (15, true)) (by kernel_rfl)
  have e15 : a.eval (.tmp 28) = .bool false := haft 15 (op_at ho (fun o => o.after.any fun e => decide (e.on = 15) && Region.binds .any e) (x := true) (by kernel_rfl))
  exact .inr ⟨⟨15, true, hgd, fun h => by
    have h2 := e15.symm.trans (show a.eval (.tmp 28) = .bool true from h)
    simp at h2⟩, rfl⟩
set_option maxHeartbeats 1000000 in
theorem ibC_op22 (haft : ∀ j, (o.after.any fun e => decide (e.on = j) && Region.binds .any e) = true → ibCS b off nn cc kk x j (a.eval (.tmp (ibD j))) W) (ho : ibReg[22]? = some o) : ibCOk b off nn cc kk x Q a W 22 o := by
  have hgd := op_at ho (·.guard) (x := some (15, true)) (by kernel_rfl)
  have e15 : a.eval (.tmp 28) = .bool false := haft 15 (op_at ho (fun o => o.after.any fun e => decide (e.on = 15) && Region.binds .any e) (x := true) (by kernel_rfl))
  exact .inr ⟨⟨15, true, hgd, fun h => by
    have h2 := e15.symm.trans (show a.eval (.tmp 28) = .bool true from h)
    simp at h2⟩, rfl⟩
set_option maxHeartbeats 1000000 in
theorem ibC_op23 (haft : ∀ j, (o.after.any fun e => decide (e.on = j) && Region.binds .any e) = true → ibCS b off nn cc kk x j (a.eval (.tmp (ibD j))) W) (ho : ibReg[23]? = some o) : ibCOk b off nn cc kk x Q a W 23 o := by
  have hgd := op_at ho (·.guard) (x := some (15, true)) (by kernel_rfl)
  have e15 : a.eval (.tmp 28) = .bool false := haft 15 (op_at ho (fun o => o.after.any fun e => decide (e.on = 15) && Region.binds .any e) (x := true) (by kernel_rfl))
  exact .inr ⟨⟨15, true, hgd, fun h => by
    have h2 := e15.symm.trans (show a.eval (.tmp 28) = .bool true from h)
    simp at h2⟩, rfl⟩
set_option maxHeartbeats 1000000 in
theorem ibC_op24 (haft : ∀ j, (o.after.any fun e => decide (e.on = j) && Region.binds .any e) = true → ibCS b off nn cc kk x j (a.eval (.tmp (ibD j))) W) (ho : ibReg[24]? = some o) : ibCOk b off nn cc kk x Q a W 24 o := by
  have hgd := op_at ho (·.guard) (x := some (15, true)) (by kernel_rfl)
  have e15 : a.eval (.tmp 28) = .bool false := haft 15 (op_at ho (fun o => o.after.any fun e => decide (e.on = 15) && Region.binds .any e) (x := true) (by kernel_rfl))
  exact .inr ⟨⟨15, true, hgd, fun h => by
    have h2 := e15.symm.trans (show a.eval (.tmp 28) = .bool true from h)
    simp at h2⟩, rfl⟩
set_option maxHeartbeats 1000000 in
theorem ibC_op25 (haft : ∀ j, (o.after.any fun e => decide (e.on = j) && Region.binds .any e) = true → ibCS b off nn cc kk x j (a.eval (.tmp (ibD j))) W) (ho : ibReg[25]? = some o) : ibCOk b off nn cc kk x Q a W 25 o := by
  have hgd := op_at ho (·.guard) (x := some (15, true)) (by kernel_rfl)
  have e15 : a.eval (.tmp 28) = .bool false := haft 15 (op_at ho (fun o => o.after.any fun e => decide (e.on = 15) && Region.binds .any e) (x := true) (by kernel_rfl))
  exact .inr ⟨⟨15, true, hgd, fun h => by
    have h2 := e15.symm.trans (show a.eval (.tmp 28) = .bool true from h)
    simp at h2⟩, rfl⟩
set_option maxHeartbeats 1000000 in
theorem ibC_op26 (haft : ∀ j, (o.after.any fun e => decide (e.on = j) && Region.binds .any e) = true → ibCS b off nn cc kk x j (a.eval (.tmp (ibD j))) W) (ho : ibReg[26]? = some o) : ibCOk b off nn cc kk x Q a W 26 o := by
  have hop := op_at ho (·.op) (x := Op.pick (Operand.tmp 28) (Operand.tmp 38) (Operand.const (Value.bool false))) (by kernel_rfl)
  have hgd := op_at ho (·.guard) (x := some (12, false)) (by kernel_rfl)
  have e12 : a.eval (.tmp 25) = .bool false := haft 12 (op_at ho (fun o => o.after.any fun e => decide (e.on = 12) && Region.binds .any e) (x := true) (by kernel_rfl))
  have e15 : a.eval (.tmp 28) = .bool false := haft 15 (op_at ho (fun o => o.after.any fun e => decide (e.on = 15) && Region.binds .any e) (x := true) (by kernel_rfl))
  refine .inl ⟨fun j b h => (by rw [hgd] at h; cases h; exact e12), ?_⟩
  exact specs_value (R := fun v W => ibCS b off nn cc kk x 26 v W) (v := .bool false) (by simp [execOp, hop, go_sem, ev e15]) rfl (Ext.refl W)
set_option maxHeartbeats 1000000 in
theorem ibC_op27 (haft : ∀ j, (o.after.any fun e => decide (e.on = j) && Region.binds .any e) = true → ibCS b off nn cc kk x j (a.eval (.tmp (ibD j))) W) (ho : ibReg[27]? = some o) : ibCOk b off nn cc kk x Q a W 27 o := by
  have hop := op_at ho (·.op) (x := Op.pick (Operand.tmp 25) (Operand.const (Value.bool true)) (Operand.tmp 39)) (by kernel_rfl)
  have hgd := op_at ho (·.guard) (x := none) (by kernel_rfl)
  have e12 : a.eval (.tmp 25) = .bool false := haft 12 (op_at ho (fun o => o.after.any fun e => decide (e.on = 12) && Region.binds .any e) (x := true) (by kernel_rfl))
  have e26 : a.eval (.tmp 39) = .bool false := haft 26 (op_at ho (fun o => o.after.any fun e => decide (e.on = 26) && Region.binds .any e) (x := true) (by kernel_rfl))
  refine .inl ⟨fun j b h => (by rw [hgd] at h; cases h), ?_⟩
  exact specs_value (R := fun v W => ibCS b off nn cc kk x 27 v W) (v := .bool false) (by simp [execOp, hop, go_sem, ev e12, ev e26]) rfl (Ext.refl W)
set_option maxRecDepth 100000 in
set_option maxHeartbeats 4000000 in
/-- Region 6 of function 38, one way through it. -/
theorem ibC_wp {id : Nat} (hlen : a.tmps.size = 41) (o0 : a.eval (.tmp 0) = .slice (some ⟨b, off, none⟩) nn cc) (o3 : a.eval (.tmp 3) = .int .i64 (kk : Int)) (hlt : (kk : Int) < (nn : Int)) (cx : ∀ W, Ext V W → W.cell? ⟨b, off + kk, none⟩ = some (.int .i64 x)) (h1 : ¬ x < -10000) (h2 : ¬ 10000 < x) (h3 : kk = 0) (K : ∀ W, Ext V W → Q .normal (puts a [(13, .slice (some ⟨b, off, none⟩) nn cc), (14, .int .i64 (kk : Int)), (15, .pointer (some ⟨b, off + kk, none⟩)), (16, .int .i64 x), (17, .bool false), (18, .bool false), (19, .slice (some ⟨b, off, none⟩) nn cc), (20, .int .i64 (kk : Int)), (21, .pointer (some ⟨b, off + kk, none⟩)), (22, .int .i64 x), (23, .bool false), (24, .bool false), (25, .bool false), (26, .int .i64 (kk : Int)), (27, .bool false), (28, .bool false), (29, undef), (30, undef), (31, undef), (32, undef), (33, undef), (34, undef), (35, undef), (36, undef), (37, undef), (38, undef), (39, .bool false), (40, .bool false)]) W) : (Code.region id ibReg true).wp Tryz.prog Q a V := by
  refine wp_region_maybe (ops := ibReg) (ibCS b off nn cc kk x) (Ext V) (by kernel_rfl) (by rw [hlen]; kernel_rfl) ⟨rfl, rfl, rfl, Nat.le_refl _, fun _ _ => rfl⟩ (fun _ _ h e => h.trans e) (fun _ _ _ _ h _ => h) ibD (by kernel_rfl) ?_ ?_
  · intro i o ho a' W hB hsz hold haft
    have hi : i < 28 := by
      have h1 := (Array.getElem?_eq_some_iff.1 ho).1
      have h2 := ib_size
      omega
    match i, hi with
    | 0, _ => exact ibC_op0 ((hold 0 (by kernel_rfl)).trans o0) ho
    | 1, _ => exact ibC_op1 ((hold 3 (by kernel_rfl)).trans o3) ho
    | 2, _ => exact ibC_op2 hlt haft ho
    | 3, _ => exact ibC_op3 cx hB haft ho
    | 4, _ => exact ibC_op4 h1 haft ho
    | 5, _ => exact ibC_op5 haft ho
    | 6, _ => exact ibC_op6 ((hold 0 (by kernel_rfl)).trans o0) haft ho
    | 7, _ => exact ibC_op7 ((hold 3 (by kernel_rfl)).trans o3) haft ho
    | 8, _ => exact ibC_op8 hlt haft ho
    | 9, _ => exact ibC_op9 cx hB haft ho
    | 10, _ => exact ibC_op10 h2 haft ho
    | 11, _ => exact ibC_op11 haft ho
    | 12, _ => exact ibC_op12 haft ho
    | 13, _ => exact ibC_op13 ((hold 3 (by kernel_rfl)).trans o3) haft ho
    | 14, _ => exact ibC_op14 h3 haft ho
    | 15, _ => exact ibC_op15 haft ho
    | 16, _ => exact ibC_op16 haft ho
    | 17, _ => exact ibC_op17 haft ho
    | 18, _ => exact ibC_op18 haft ho
    | 19, _ => exact ibC_op19 haft ho
    | 20, _ => exact ibC_op20 haft ho
    | 21, _ => exact ibC_op21 haft ho
    | 22, _ => exact ibC_op22 haft ho
    | 23, _ => exact ibC_op23 haft ho
    | 24, _ => exact ibC_op24 haft ho
    | 25, _ => exact ibC_op25 haft ho
    | 26, _ => exact ibC_op26 haft ho
    | 27, _ => exact ibC_op27 haft ho
    | m + 28, h => exact absurd h (by omega)
  · intro a1 W hB hsz hdf hold hS
    have hs2 := ib_size
    have hall : ∀ zz, zz ∈ ([(13, .slice (some ⟨b, off, none⟩) nn cc), (14, .int .i64 (kk : Int)), (15, .pointer (some ⟨b, off + kk, none⟩)), (16, .int .i64 x), (17, .bool false), (18, .bool false), (19, .slice (some ⟨b, off, none⟩) nn cc), (20, .int .i64 (kk : Int)), (21, .pointer (some ⟨b, off + kk, none⟩)), (22, .int .i64 x), (23, .bool false), (24, .bool false), (25, .bool false), (26, .int .i64 (kk : Int)), (27, .bool false), (28, .bool false), (29, undef), (30, undef), (31, undef), (32, undef), (33, undef), (34, undef), (35, undef), (36, undef), (37, undef), (38, undef), (39, .bool false), (40, .bool false)] : List (Tmp × Value)) → zz.1 < a.tmps.size ∧ a1.eval (.tmp zz.1) = zz.2 := by
      intro zz hz
      rw [hlen]
      simp only [List.mem_cons, List.not_mem_nil, or_false] at hz
      rcases hz with rfl | rfl | rfl | rfl | rfl | rfl | rfl | rfl | rfl | rfl | rfl | rfl | rfl | rfl | rfl | rfl | rfl | rfl | rfl | rfl | rfl | rfl | rfl | rfl | rfl | rfl | rfl | rfl
      · exact ⟨(show (13 : Nat) < 41 by omega), hS 0 (by omega)⟩
      · exact ⟨(show (14 : Nat) < 41 by omega), hS 1 (by omega)⟩
      · exact ⟨(show (15 : Nat) < 41 by omega), hS 2 (by omega)⟩
      · exact ⟨(show (16 : Nat) < 41 by omega), hS 3 (by omega)⟩
      · exact ⟨(show (17 : Nat) < 41 by omega), hS 4 (by omega)⟩
      · exact ⟨(show (18 : Nat) < 41 by omega), hS 5 (by omega)⟩
      · exact ⟨(show (19 : Nat) < 41 by omega), hS 6 (by omega)⟩
      · exact ⟨(show (20 : Nat) < 41 by omega), hS 7 (by omega)⟩
      · exact ⟨(show (21 : Nat) < 41 by omega), hS 8 (by omega)⟩
      · exact ⟨(show (22 : Nat) < 41 by omega), hS 9 (by omega)⟩
      · exact ⟨(show (23 : Nat) < 41 by omega), hS 10 (by omega)⟩
      · exact ⟨(show (24 : Nat) < 41 by omega), hS 11 (by omega)⟩
      · exact ⟨(show (25 : Nat) < 41 by omega), hS 12 (by omega)⟩
      · exact ⟨(show (26 : Nat) < 41 by omega), hS 13 (by omega)⟩
      · exact ⟨(show (27 : Nat) < 41 by omega), hS 14 (by omega)⟩
      · exact ⟨(show (28 : Nat) < 41 by omega), hS 15 (by omega)⟩
      · exact ⟨(show (29 : Nat) < 41 by omega), hS 16 (by omega)⟩
      · exact ⟨(show (30 : Nat) < 41 by omega), hS 17 (by omega)⟩
      · exact ⟨(show (31 : Nat) < 41 by omega), hS 18 (by omega)⟩
      · exact ⟨(show (32 : Nat) < 41 by omega), hS 19 (by omega)⟩
      · exact ⟨(show (33 : Nat) < 41 by omega), hS 20 (by omega)⟩
      · exact ⟨(show (34 : Nat) < 41 by omega), hS 21 (by omega)⟩
      · exact ⟨(show (35 : Nat) < 41 by omega), hS 22 (by omega)⟩
      · exact ⟨(show (36 : Nat) < 41 by omega), hS 23 (by omega)⟩
      · exact ⟨(show (37 : Nat) < 41 by omega), hS 24 (by omega)⟩
      · exact ⟨(show (38 : Nat) < 41 by omega), hS 25 (by omega)⟩
      · exact ⟨(show (39 : Nat) < 41 by omega), hS 26 (by omega)⟩
      · exact ⟨(show (40 : Nat) < 41 by omega), hS 27 (by omega)⟩
    have ha := act_puts hsz hdf hall (fun t ht => hold t (by rw [hs2]; exact all_ne_of (l := [(13, .slice (some ⟨b, off, none⟩) nn cc), (14, .int .i64 (kk : Int)), (15, .pointer (some ⟨b, off + kk, none⟩)), (16, .int .i64 x), (17, .bool false), (18, .bool false), (19, .slice (some ⟨b, off, none⟩) nn cc), (20, .int .i64 (kk : Int)), (21, .pointer (some ⟨b, off + kk, none⟩)), (22, .int .i64 x), (23, .bool false), (24, .bool false), (25, .bool false), (26, .int .i64 (kk : Int)), (27, .bool false), (28, .bool false), (29, undef), (30, undef), (31, undef), (32, undef), (33, undef), (34, undef), (35, undef), (36, undef), (37, undef), (38, undef), (39, .bool false), (40, .bool false)]) (by kernel_rfl) ht))
    rw [ha]
    exact K W hB
end
/-- What each operation yields. -/
def ibDS (b off nn cc kk kq : Nat) (x y : Int) (ix : Nat) (v : Value) (_ : World) : Prop :=
  match ix with
  | 0 => v = .slice (some ⟨b, off, none⟩) nn cc
  | 1 => v = .int .i64 (kk : Int)
  | 2 => v = .pointer (some ⟨b, off + kk, none⟩)
  | 3 => v = .int .i64 x
  | 4 => v = .bool false
  | 5 => v = .bool false
  | 6 => v = .slice (some ⟨b, off, none⟩) nn cc
  | 7 => v = .int .i64 (kk : Int)
  | 8 => v = .pointer (some ⟨b, off + kk, none⟩)
  | 9 => v = .int .i64 x
  | 10 => v = .bool false
  | 11 => v = .bool false
  | 12 => v = .bool false
  | 13 => v = .int .i64 (kk : Int)
  | 14 => v = .bool true
  | 15 => v = .bool true
  | 16 => v = .slice (some ⟨b, off, none⟩) nn cc
  | 17 => v = .int .i64 (kk : Int)
  | 18 => v = .pointer (some ⟨b, off + kk, none⟩)
  | 19 => v = .int .i64 x
  | 20 => v = .slice (some ⟨b, off, none⟩) nn cc
  | 21 => v = .int .i64 (kk : Int)
  | 22 => v = .int .i64 (kq : Int)
  | 23 => v = .pointer (some ⟨b, off + kq, none⟩)
  | 24 => v = .int .i64 y
  | 25 => v = .bool (decide (x ≤ y))
  | 26 => v = .bool (decide (x ≤ y))
  | 27 => v = .bool (decide (x ≤ y))
  | _ => True
def ibDOk (b off nn cc kk kq : Nat) (x y : Int) (Q : Exit → Act → World → Prop) (a : Act) (W : World) (ix : Nat) (o : Oper) : Prop :=
  ((∀ j b, o.guard = some (j, b) → a.eval (.tmp (ibD j)) = .bool b) ∧ o.wp Tryz.prog a W (fun a'' W' => ∃ v, a'' = a.put o.dst v ∧ ibDS b off nn cc kk kq x y ix v W' ∧ Below W.heap.size W W') Q) ∨ ((∃ j b, o.guard = some (j, b) ∧ a.eval (.tmp (ibD j)) ≠ .bool b) ∧ ibDS b off nn cc kk kq x y ix undef W)
section
variable {b off nn cc kk kq : Nat} {x y : Int} {Q : Exit → Act → World → Prop} {a : Act} {V W : World} {o : Oper}
set_option maxHeartbeats 1000000 in
theorem ibD_op0 (o0 : a.eval (.tmp 0) = .slice (some ⟨b, off, none⟩) nn cc) (ho : ibReg[0]? = some o) : ibDOk b off nn cc kk kq x y Q a W 0 o := by
  have hop := op_at ho (·.op) (x := Op.move (Operand.tmp 0)) (by kernel_rfl)
  have hgd := op_at ho (·.guard) (x := none) (by kernel_rfl)
  refine .inl ⟨fun j b h => (by rw [hgd] at h; cases h), ?_⟩
  exact specs_value (R := fun v W => ibDS b off nn cc kk kq x y 0 v W) (v := .slice (some ⟨b, off, none⟩) nn cc) (by simp [execOp, hop, go_sem, ev o0]) rfl (Ext.refl W)
set_option maxHeartbeats 1000000 in
theorem ibD_op1 (o3 : a.eval (.tmp 3) = .int .i64 (kk : Int)) (ho : ibReg[1]? = some o) : ibDOk b off nn cc kk kq x y Q a W 1 o := by
  have hop := op_at ho (·.op) (x := Op.move (Operand.tmp 3)) (by kernel_rfl)
  have hgd := op_at ho (·.guard) (x := none) (by kernel_rfl)
  refine .inl ⟨fun j b h => (by rw [hgd] at h; cases h), ?_⟩
  exact specs_value (R := fun v W => ibDS b off nn cc kk kq x y 1 v W) (v := .int .i64 (kk : Int)) (by simp [execOp, hop, go_sem, ev o3]) rfl (Ext.refl W)
set_option maxHeartbeats 1000000 in
theorem ibD_op2 (hlt : (kk : Int) < (nn : Int)) (haft : ∀ j, (o.after.any fun e => decide (e.on = j) && Region.binds .any e) = true → ibDS b off nn cc kk kq x y j (a.eval (.tmp (ibD j))) W) (ho : ibReg[2]? = some o) : ibDOk b off nn cc kk kq x y Q a W 2 o := by
  have hop := op_at ho (·.op) (x := Op.indexAddr 36 (Operand.tmp 13) (Operand.tmp 14)) (by kernel_rfl)
  have hgd := op_at ho (·.guard) (x := none) (by kernel_rfl)
  have e0 : a.eval (.tmp 13) = .slice (some ⟨b, off, none⟩) nn cc := haft 0 (op_at ho (fun o => o.after.any fun e => decide (e.on = 0) && Region.binds .any e) (x := true) (by kernel_rfl))
  have e1 : a.eval (.tmp 14) = .int .i64 (kk : Int) := haft 1 (op_at ho (fun o => o.after.any fun e => decide (e.on = 1) && Region.binds .any e) (x := true) (by kernel_rfl))
  refine .inl ⟨fun j b h => (by rw [hgd] at h; cases h), ?_⟩
  exact specs_value (R := fun v W => ibDS b off nn cc kk kq x y 2 v W) (v := .pointer (some ⟨b, off + kk, none⟩)) (by simp [execOp, hop, go_sem, ev e0, ev e1, hlt]) rfl (Ext.refl W)
set_option maxHeartbeats 1000000 in
theorem ibD_op3 (cx : ∀ W, Ext V W → W.cell? ⟨b, off + kk, none⟩ = some (.int .i64 x)) (hB : Ext V W) (haft : ∀ j, (o.after.any fun e => decide (e.on = j) && Region.binds .any e) = true → ibDS b off nn cc kk kq x y j (a.eval (.tmp (ibD j))) W) (ho : ibReg[3]? = some o) : ibDOk b off nn cc kk kq x y Q a W 3 o := by
  have hop := op_at ho (·.op) (x := Op.load 2 (Operand.tmp 15)) (by kernel_rfl)
  have hgd := op_at ho (·.guard) (x := none) (by kernel_rfl)
  have e2 : a.eval (.tmp 15) = .pointer (some ⟨b, off + kk, none⟩) := haft 2 (op_at ho (fun o => o.after.any fun e => decide (e.on = 2) && Region.binds .any e) (x := true) (by kernel_rfl))
  refine .inl ⟨fun j b h => (by rw [hgd] at h; cases h), ?_⟩
  have cx' := cx W hB
  exact specs_value (R := fun v W => ibDS b off nn cc kk kq x y 3 v W) (v := .int .i64 x) (by simp [execOp, hop, go_sem, ev e2, cx']) rfl (Ext.refl W)
set_option maxHeartbeats 1000000 in
theorem ibD_op4 (h1 : ¬ x < -10000) (haft : ∀ j, (o.after.any fun e => decide (e.on = j) && Region.binds .any e) = true → ibDS b off nn cc kk kq x y j (a.eval (.tmp (ibD j))) W) (ho : ibReg[4]? = some o) : ibDOk b off nn cc kk kq x y Q a W 4 o := by
  have hop := op_at ho (·.op) (x := Op.binOp BinOp.lss 2 (Operand.tmp 16) (Operand.const (Value.int IntKind.i64 (-10000))) 2) (by kernel_rfl)
  have hgd := op_at ho (·.guard) (x := none) (by kernel_rfl)
  have e3 : a.eval (.tmp 16) = .int .i64 x := haft 3 (op_at ho (fun o => o.after.any fun e => decide (e.on = 3) && Region.binds .any e) (x := true) (by kernel_rfl))
  refine .inl ⟨fun j b h => (by rw [hgd] at h; cases h), ?_⟩
  exact specs_value (R := fun v W => ibDS b off nn cc kk kq x y 4 v W) (v := .bool false) (by simp [execOp, hop, go_sem, ev e3, h1]) rfl (Ext.refl W)
set_option maxHeartbeats 1000000 in
theorem ibD_op5 (haft : ∀ j, (o.after.any fun e => decide (e.on = j) && Region.binds .any e) = true → ibDS b off nn cc kk kq x y j (a.eval (.tmp (ibD j))) W) (ho : ibReg[5]? = some o) : ibDOk b off nn cc kk kq x y Q a W 5 o := by
  have hop := op_at ho (·.op) (x := Op.move (Operand.tmp 17)) (by kernel_rfl)
  have hgd := op_at ho (·.guard) (x := none) (by kernel_rfl)
  have e4 : a.eval (.tmp 17) = .bool false := haft 4 (op_at ho (fun o => o.after.any fun e => decide (e.on = 4) && Region.binds .any e) (x := true) (by kernel_rfl))
  refine .inl ⟨fun j b h => (by rw [hgd] at h; cases h), ?_⟩
  exact specs_value (R := fun v W => ibDS b off nn cc kk kq x y 5 v W) (v := .bool false) (by simp [execOp, hop, go_sem, ev e4]) rfl (Ext.refl W)
set_option maxHeartbeats 1000000 in
theorem ibD_op6 (o0 : a.eval (.tmp 0) = .slice (some ⟨b, off, none⟩) nn cc) (haft : ∀ j, (o.after.any fun e => decide (e.on = j) && Region.binds .any e) = true → ibDS b off nn cc kk kq x y j (a.eval (.tmp (ibD j))) W) (ho : ibReg[6]? = some o) : ibDOk b off nn cc kk kq x y Q a W 6 o := by
  have hop := op_at ho (·.op) (x := Op.move (Operand.tmp 0)) (by kernel_rfl)
  have hgd := op_at ho (·.guard) (x := some (5, false)) (by kernel_rfl)
  have e5 : a.eval (.tmp 18) = .bool false := haft 5 (op_at ho (fun o => o.after.any fun e => decide (e.on = 5) && Region.binds .any e) (x := true) (by kernel_rfl))
  refine .inl ⟨fun j b h => (by rw [hgd] at h; cases h; exact e5), ?_⟩
  exact specs_value (R := fun v W => ibDS b off nn cc kk kq x y 6 v W) (v := .slice (some ⟨b, off, none⟩) nn cc) (by simp [execOp, hop, go_sem, ev o0]) rfl (Ext.refl W)
set_option maxHeartbeats 1000000 in
theorem ibD_op7 (o3 : a.eval (.tmp 3) = .int .i64 (kk : Int)) (haft : ∀ j, (o.after.any fun e => decide (e.on = j) && Region.binds .any e) = true → ibDS b off nn cc kk kq x y j (a.eval (.tmp (ibD j))) W) (ho : ibReg[7]? = some o) : ibDOk b off nn cc kk kq x y Q a W 7 o := by
  have hop := op_at ho (·.op) (x := Op.move (Operand.tmp 3)) (by kernel_rfl)
  have hgd := op_at ho (·.guard) (x := some (5, false)) (by kernel_rfl)
  have e5 : a.eval (.tmp 18) = .bool false := haft 5 (op_at ho (fun o => o.after.any fun e => decide (e.on = 5) && Region.binds .any e) (x := true) (by kernel_rfl))
  refine .inl ⟨fun j b h => (by rw [hgd] at h; cases h; exact e5), ?_⟩
  exact specs_value (R := fun v W => ibDS b off nn cc kk kq x y 7 v W) (v := .int .i64 (kk : Int)) (by simp [execOp, hop, go_sem, ev o3]) rfl (Ext.refl W)
set_option maxHeartbeats 1000000 in
theorem ibD_op8 (hlt : (kk : Int) < (nn : Int)) (haft : ∀ j, (o.after.any fun e => decide (e.on = j) && Region.binds .any e) = true → ibDS b off nn cc kk kq x y j (a.eval (.tmp (ibD j))) W) (ho : ibReg[8]? = some o) : ibDOk b off nn cc kk kq x y Q a W 8 o := by
  have hop := op_at ho (·.op) (x := Op.indexAddr 36 (Operand.tmp 19) (Operand.tmp 20)) (by kernel_rfl)
  have hgd := op_at ho (·.guard) (x := some (5, false)) (by kernel_rfl)
  have e5 : a.eval (.tmp 18) = .bool false := haft 5 (op_at ho (fun o => o.after.any fun e => decide (e.on = 5) && Region.binds .any e) (x := true) (by kernel_rfl))
  have e6 : a.eval (.tmp 19) = .slice (some ⟨b, off, none⟩) nn cc := haft 6 (op_at ho (fun o => o.after.any fun e => decide (e.on = 6) && Region.binds .any e) (x := true) (by kernel_rfl))
  have e7 : a.eval (.tmp 20) = .int .i64 (kk : Int) := haft 7 (op_at ho (fun o => o.after.any fun e => decide (e.on = 7) && Region.binds .any e) (x := true) (by kernel_rfl))
  refine .inl ⟨fun j b h => (by rw [hgd] at h; cases h; exact e5), ?_⟩
  exact specs_value (R := fun v W => ibDS b off nn cc kk kq x y 8 v W) (v := .pointer (some ⟨b, off + kk, none⟩)) (by simp [execOp, hop, go_sem, ev e6, ev e7, hlt]) rfl (Ext.refl W)
set_option maxHeartbeats 1000000 in
theorem ibD_op9 (cx : ∀ W, Ext V W → W.cell? ⟨b, off + kk, none⟩ = some (.int .i64 x)) (hB : Ext V W) (haft : ∀ j, (o.after.any fun e => decide (e.on = j) && Region.binds .any e) = true → ibDS b off nn cc kk kq x y j (a.eval (.tmp (ibD j))) W) (ho : ibReg[9]? = some o) : ibDOk b off nn cc kk kq x y Q a W 9 o := by
  have hop := op_at ho (·.op) (x := Op.load 2 (Operand.tmp 21)) (by kernel_rfl)
  have hgd := op_at ho (·.guard) (x := some (5, false)) (by kernel_rfl)
  have e5 : a.eval (.tmp 18) = .bool false := haft 5 (op_at ho (fun o => o.after.any fun e => decide (e.on = 5) && Region.binds .any e) (x := true) (by kernel_rfl))
  have e8 : a.eval (.tmp 21) = .pointer (some ⟨b, off + kk, none⟩) := haft 8 (op_at ho (fun o => o.after.any fun e => decide (e.on = 8) && Region.binds .any e) (x := true) (by kernel_rfl))
  refine .inl ⟨fun j b h => (by rw [hgd] at h; cases h; exact e5), ?_⟩
  have cx' := cx W hB
  exact specs_value (R := fun v W => ibDS b off nn cc kk kq x y 9 v W) (v := .int .i64 x) (by simp [execOp, hop, go_sem, ev e8, cx']) rfl (Ext.refl W)
set_option maxHeartbeats 1000000 in
theorem ibD_op10 (h2 : ¬ 10000 < x) (haft : ∀ j, (o.after.any fun e => decide (e.on = j) && Region.binds .any e) = true → ibDS b off nn cc kk kq x y j (a.eval (.tmp (ibD j))) W) (ho : ibReg[10]? = some o) : ibDOk b off nn cc kk kq x y Q a W 10 o := by
  have hop := op_at ho (·.op) (x := Op.binOp BinOp.gtr 2 (Operand.tmp 22) (Operand.const (Value.int IntKind.i64 10000)) 2) (by kernel_rfl)
  have hgd := op_at ho (·.guard) (x := some (5, false)) (by kernel_rfl)
  have e5 : a.eval (.tmp 18) = .bool false := haft 5 (op_at ho (fun o => o.after.any fun e => decide (e.on = 5) && Region.binds .any e) (x := true) (by kernel_rfl))
  have e9 : a.eval (.tmp 22) = .int .i64 x := haft 9 (op_at ho (fun o => o.after.any fun e => decide (e.on = 9) && Region.binds .any e) (x := true) (by kernel_rfl))
  refine .inl ⟨fun j b h => (by rw [hgd] at h; cases h; exact e5), ?_⟩
  exact specs_value (R := fun v W => ibDS b off nn cc kk kq x y 10 v W) (v := .bool false) (by simp [execOp, hop, go_sem, ev e9, h2]) rfl (Ext.refl W)
set_option maxHeartbeats 1000000 in
theorem ibD_op11 (haft : ∀ j, (o.after.any fun e => decide (e.on = j) && Region.binds .any e) = true → ibDS b off nn cc kk kq x y j (a.eval (.tmp (ibD j))) W) (ho : ibReg[11]? = some o) : ibDOk b off nn cc kk kq x y Q a W 11 o := by
  have hop := op_at ho (·.op) (x := Op.pick (Operand.tmp 18) (Operand.const (Value.bool true)) (Operand.tmp 23)) (by kernel_rfl)
  have hgd := op_at ho (·.guard) (x := none) (by kernel_rfl)
  have e5 : a.eval (.tmp 18) = .bool false := haft 5 (op_at ho (fun o => o.after.any fun e => decide (e.on = 5) && Region.binds .any e) (x := true) (by kernel_rfl))
  have e10 : a.eval (.tmp 23) = .bool false := haft 10 (op_at ho (fun o => o.after.any fun e => decide (e.on = 10) && Region.binds .any e) (x := true) (by kernel_rfl))
  refine .inl ⟨fun j b h => (by rw [hgd] at h; cases h), ?_⟩
  exact specs_value (R := fun v W => ibDS b off nn cc kk kq x y 11 v W) (v := .bool false) (by simp [execOp, hop, go_sem, ev e5, ev e10]) rfl (Ext.refl W)
set_option maxHeartbeats 1000000 in
theorem ibD_op12 (haft : ∀ j, (o.after.any fun e => decide (e.on = j) && Region.binds .any e) = true → ibDS b off nn cc kk kq x y j (a.eval (.tmp (ibD j))) W) (ho : ibReg[12]? = some o) : ibDOk b off nn cc kk kq x y Q a W 12 o := by
  have hop := op_at ho (·.op) (x := Op.move (Operand.tmp 24)) (by kernel_rfl)
  have hgd := op_at ho (·.guard) (x := none) (by kernel_rfl)
  have e11 : a.eval (.tmp 24) = .bool false := haft 11 (op_at ho (fun o => o.after.any fun e => decide (e.on = 11) && Region.binds .any e) (x := true) (by kernel_rfl))
  refine .inl ⟨fun j b h => (by rw [hgd] at h; cases h), ?_⟩
  exact specs_value (R := fun v W => ibDS b off nn cc kk kq x y 12 v W) (v := .bool false) (by simp [execOp, hop, go_sem, ev e11]) rfl (Ext.refl W)
set_option maxHeartbeats 1000000 in
theorem ibD_op13 (o3 : a.eval (.tmp 3) = .int .i64 (kk : Int)) (haft : ∀ j, (o.after.any fun e => decide (e.on = j) && Region.binds .any e) = true → ibDS b off nn cc kk kq x y j (a.eval (.tmp (ibD j))) W) (ho : ibReg[13]? = some o) : ibDOk b off nn cc kk kq x y Q a W 13 o := by
  have hop := op_at ho (·.op) (x := Op.move (Operand.tmp 3)) (by kernel_rfl)
  have hgd := op_at ho (·.guard) (x := some (12, false)) (by kernel_rfl)
  have e12 : a.eval (.tmp 25) = .bool false := haft 12 (op_at ho (fun o => o.after.any fun e => decide (e.on = 12) && Region.binds .any e) (x := true) (by kernel_rfl))
  refine .inl ⟨fun j b h => (by rw [hgd] at h; cases h; exact e12), ?_⟩
  exact specs_value (R := fun v W => ibDS b off nn cc kk kq x y 13 v W) (v := .int .i64 (kk : Int)) (by simp [execOp, hop, go_sem, ev o3]) rfl (Ext.refl W)
set_option maxHeartbeats 1000000 in
theorem ibD_op14 (h3 : 0 < kk) (haft : ∀ j, (o.after.any fun e => decide (e.on = j) && Region.binds .any e) = true → ibDS b off nn cc kk kq x y j (a.eval (.tmp (ibD j))) W) (ho : ibReg[14]? = some o) : ibDOk b off nn cc kk kq x y Q a W 14 o := by
  have hop := op_at ho (·.op) (x := Op.binOp BinOp.gtr 3 (Operand.tmp 26) (Operand.const (Value.int IntKind.i64 0)) 3) (by kernel_rfl)
  have hgd := op_at ho (·.guard) (x := some (12, false)) (by kernel_rfl)
  have e12 : a.eval (.tmp 25) = .bool false := haft 12 (op_at ho (fun o => o.after.any fun e => decide (e.on = 12) && Region.binds .any e) (x := true) (by kernel_rfl))
  have e13 : a.eval (.tmp 26) = .int .i64 (kk : Int) := haft 13 (op_at ho (fun o => o.after.any fun e => decide (e.on = 13) && Region.binds .any e) (x := true) (by kernel_rfl))
  refine .inl ⟨fun j b h => (by rw [hgd] at h; cases h; exact e12), ?_⟩
  exact specs_value (R := fun v W => ibDS b off nn cc kk kq x y 14 v W) (v := .bool true) (by simp [execOp, hop, go_sem, ev e13, h3]) rfl (Ext.refl W)
set_option maxHeartbeats 1000000 in
theorem ibD_op15 (haft : ∀ j, (o.after.any fun e => decide (e.on = j) && Region.binds .any e) = true → ibDS b off nn cc kk kq x y j (a.eval (.tmp (ibD j))) W) (ho : ibReg[15]? = some o) : ibDOk b off nn cc kk kq x y Q a W 15 o := by
  have hop := op_at ho (·.op) (x := Op.move (Operand.tmp 27)) (by kernel_rfl)
  have hgd := op_at ho (·.guard) (x := some (12, false)) (by kernel_rfl)
  have e12 : a.eval (.tmp 25) = .bool false := haft 12 (op_at ho (fun o => o.after.any fun e => decide (e.on = 12) && Region.binds .any e) (x := true) (by kernel_rfl))
  have e14 : a.eval (.tmp 27) = .bool true := haft 14 (op_at ho (fun o => o.after.any fun e => decide (e.on = 14) && Region.binds .any e) (x := true) (by kernel_rfl))
  refine .inl ⟨fun j b h => (by rw [hgd] at h; cases h; exact e12), ?_⟩
  exact specs_value (R := fun v W => ibDS b off nn cc kk kq x y 15 v W) (v := .bool true) (by simp [execOp, hop, go_sem, ev e14]) rfl (Ext.refl W)
set_option maxHeartbeats 1000000 in
theorem ibD_op16 (o0 : a.eval (.tmp 0) = .slice (some ⟨b, off, none⟩) nn cc) (haft : ∀ j, (o.after.any fun e => decide (e.on = j) && Region.binds .any e) = true → ibDS b off nn cc kk kq x y j (a.eval (.tmp (ibD j))) W) (ho : ibReg[16]? = some o) : ibDOk b off nn cc kk kq x y Q a W 16 o := by
  have hop := op_at ho (·.op) (x := Op.move (Operand.tmp 0)) (by kernel_rfl)
  have hgd := op_at ho (·.guard) (x := some (15, true)) (by kernel_rfl)
  have e15 : a.eval (.tmp 28) = .bool true := haft 15 (op_at ho (fun o => o.after.any fun e => decide (e.on = 15) && Region.binds .any e) (x := true) (by kernel_rfl))
  refine .inl ⟨fun j b h => (by rw [hgd] at h; cases h; exact e15), ?_⟩
  exact specs_value (R := fun v W => ibDS b off nn cc kk kq x y 16 v W) (v := .slice (some ⟨b, off, none⟩) nn cc) (by simp [execOp, hop, go_sem, ev o0]) rfl (Ext.refl W)
set_option maxHeartbeats 1000000 in
theorem ibD_op17 (o3 : a.eval (.tmp 3) = .int .i64 (kk : Int)) (haft : ∀ j, (o.after.any fun e => decide (e.on = j) && Region.binds .any e) = true → ibDS b off nn cc kk kq x y j (a.eval (.tmp (ibD j))) W) (ho : ibReg[17]? = some o) : ibDOk b off nn cc kk kq x y Q a W 17 o := by
  have hop := op_at ho (·.op) (x := Op.move (Operand.tmp 3)) (by kernel_rfl)
  have hgd := op_at ho (·.guard) (x := some (15, true)) (by kernel_rfl)
  have e15 : a.eval (.tmp 28) = .bool true := haft 15 (op_at ho (fun o => o.after.any fun e => decide (e.on = 15) && Region.binds .any e) (x := true) (by kernel_rfl))
  refine .inl ⟨fun j b h => (by rw [hgd] at h; cases h; exact e15), ?_⟩
  exact specs_value (R := fun v W => ibDS b off nn cc kk kq x y 17 v W) (v := .int .i64 (kk : Int)) (by simp [execOp, hop, go_sem, ev o3]) rfl (Ext.refl W)
set_option maxHeartbeats 1000000 in
theorem ibD_op18 (hlt : (kk : Int) < (nn : Int)) (haft : ∀ j, (o.after.any fun e => decide (e.on = j) && Region.binds .any e) = true → ibDS b off nn cc kk kq x y j (a.eval (.tmp (ibD j))) W) (ho : ibReg[18]? = some o) : ibDOk b off nn cc kk kq x y Q a W 18 o := by
  have hop := op_at ho (·.op) (x := Op.indexAddr 36 (Operand.tmp 29) (Operand.tmp 30)) (by kernel_rfl)
  have hgd := op_at ho (·.guard) (x := some (15, true)) (by kernel_rfl)
  have e15 : a.eval (.tmp 28) = .bool true := haft 15 (op_at ho (fun o => o.after.any fun e => decide (e.on = 15) && Region.binds .any e) (x := true) (by kernel_rfl))
  have e16 : a.eval (.tmp 29) = .slice (some ⟨b, off, none⟩) nn cc := haft 16 (op_at ho (fun o => o.after.any fun e => decide (e.on = 16) && Region.binds .any e) (x := true) (by kernel_rfl))
  have e17 : a.eval (.tmp 30) = .int .i64 (kk : Int) := haft 17 (op_at ho (fun o => o.after.any fun e => decide (e.on = 17) && Region.binds .any e) (x := true) (by kernel_rfl))
  refine .inl ⟨fun j b h => (by rw [hgd] at h; cases h; exact e15), ?_⟩
  exact specs_value (R := fun v W => ibDS b off nn cc kk kq x y 18 v W) (v := .pointer (some ⟨b, off + kk, none⟩)) (by simp [execOp, hop, go_sem, ev e16, ev e17, hlt]) rfl (Ext.refl W)
set_option maxHeartbeats 1000000 in
theorem ibD_op19 (cx : ∀ W, Ext V W → W.cell? ⟨b, off + kk, none⟩ = some (.int .i64 x)) (hB : Ext V W) (haft : ∀ j, (o.after.any fun e => decide (e.on = j) && Region.binds .any e) = true → ibDS b off nn cc kk kq x y j (a.eval (.tmp (ibD j))) W) (ho : ibReg[19]? = some o) : ibDOk b off nn cc kk kq x y Q a W 19 o := by
  have hop := op_at ho (·.op) (x := Op.load 2 (Operand.tmp 31)) (by kernel_rfl)
  have hgd := op_at ho (·.guard) (x := some (15, true)) (by kernel_rfl)
  have e15 : a.eval (.tmp 28) = .bool true := haft 15 (op_at ho (fun o => o.after.any fun e => decide (e.on = 15) && Region.binds .any e) (x := true) (by kernel_rfl))
  have e18 : a.eval (.tmp 31) = .pointer (some ⟨b, off + kk, none⟩) := haft 18 (op_at ho (fun o => o.after.any fun e => decide (e.on = 18) && Region.binds .any e) (x := true) (by kernel_rfl))
  refine .inl ⟨fun j b h => (by rw [hgd] at h; cases h; exact e15), ?_⟩
  have cx' := cx W hB
  exact specs_value (R := fun v W => ibDS b off nn cc kk kq x y 19 v W) (v := .int .i64 x) (by simp [execOp, hop, go_sem, ev e18, cx']) rfl (Ext.refl W)
set_option maxHeartbeats 1000000 in
theorem ibD_op20 (o0 : a.eval (.tmp 0) = .slice (some ⟨b, off, none⟩) nn cc) (haft : ∀ j, (o.after.any fun e => decide (e.on = j) && Region.binds .any e) = true → ibDS b off nn cc kk kq x y j (a.eval (.tmp (ibD j))) W) (ho : ibReg[20]? = some o) : ibDOk b off nn cc kk kq x y Q a W 20 o := by
  have hop := op_at ho (·.op) (x := Op.move (Operand.tmp 0)) (by kernel_rfl)
  have hgd := op_at ho (·.guard) (x := some (15, true)) (by kernel_rfl)
  have e15 : a.eval (.tmp 28) = .bool true := haft 15 (op_at ho (fun o => o.after.any fun e => decide (e.on = 15) && Region.binds .any e) (x := true) (by kernel_rfl))
  refine .inl ⟨fun j b h => (by rw [hgd] at h; cases h; exact e15), ?_⟩
  exact specs_value (R := fun v W => ibDS b off nn cc kk kq x y 20 v W) (v := .slice (some ⟨b, off, none⟩) nn cc) (by simp [execOp, hop, go_sem, ev o0]) rfl (Ext.refl W)
set_option maxHeartbeats 1000000 in
theorem ibD_op21 (o3 : a.eval (.tmp 3) = .int .i64 (kk : Int)) (haft : ∀ j, (o.after.any fun e => decide (e.on = j) && Region.binds .any e) = true → ibDS b off nn cc kk kq x y j (a.eval (.tmp (ibD j))) W) (ho : ibReg[21]? = some o) : ibDOk b off nn cc kk kq x y Q a W 21 o := by
  have hop := op_at ho (·.op) (x := Op.move (Operand.tmp 3)) (by kernel_rfl)
  have hgd := op_at ho (·.guard) (x := some (15, true)) (by kernel_rfl)
  have e15 : a.eval (.tmp 28) = .bool true := haft 15 (op_at ho (fun o => o.after.any fun e => decide (e.on = 15) && Region.binds .any e) (x := true) (by kernel_rfl))
  refine .inl ⟨fun j b h => (by rw [hgd] at h; cases h; exact e15), ?_⟩
  exact specs_value (R := fun v W => ibDS b off nn cc kk kq x y 21 v W) (v := .int .i64 (kk : Int)) (by simp [execOp, hop, go_sem, ev o3]) rfl (Ext.refl W)
set_option maxHeartbeats 1000000 in
theorem ibD_op22 (wq : IntKind.i64.wrap ((kk : Int) - 1) = (kq : Int)) (haft : ∀ j, (o.after.any fun e => decide (e.on = j) && Region.binds .any e) = true → ibDS b off nn cc kk kq x y j (a.eval (.tmp (ibD j))) W) (ho : ibReg[22]? = some o) : ibDOk b off nn cc kk kq x y Q a W 22 o := by
  have hop := op_at ho (·.op) (x := Op.binOp BinOp.sub 3 (Operand.tmp 34) (Operand.const (Value.int IntKind.i64 1)) 3) (by kernel_rfl)
  have hgd := op_at ho (·.guard) (x := some (15, true)) (by kernel_rfl)
  have e15 : a.eval (.tmp 28) = .bool true := haft 15 (op_at ho (fun o => o.after.any fun e => decide (e.on = 15) && Region.binds .any e) (x := true) (by kernel_rfl))
  have e21 : a.eval (.tmp 34) = .int .i64 (kk : Int) := haft 21 (op_at ho (fun o => o.after.any fun e => decide (e.on = 21) && Region.binds .any e) (x := true) (by kernel_rfl))
  refine .inl ⟨fun j b h => (by rw [hgd] at h; cases h; exact e15), ?_⟩
  exact specs_value (R := fun v W => ibDS b off nn cc kk kq x y 22 v W) (v := .int .i64 (kq : Int)) (by simp [execOp, hop, go_sem, ev e21, wq]) rfl (Ext.refl W)
set_option maxHeartbeats 1000000 in
theorem ibD_op23 (hlq : (kq : Int) < (nn : Int)) (haft : ∀ j, (o.after.any fun e => decide (e.on = j) && Region.binds .any e) = true → ibDS b off nn cc kk kq x y j (a.eval (.tmp (ibD j))) W) (ho : ibReg[23]? = some o) : ibDOk b off nn cc kk kq x y Q a W 23 o := by
  have hop := op_at ho (·.op) (x := Op.indexAddr 36 (Operand.tmp 33) (Operand.tmp 35)) (by kernel_rfl)
  have hgd := op_at ho (·.guard) (x := some (15, true)) (by kernel_rfl)
  have e15 : a.eval (.tmp 28) = .bool true := haft 15 (op_at ho (fun o => o.after.any fun e => decide (e.on = 15) && Region.binds .any e) (x := true) (by kernel_rfl))
  have e20 : a.eval (.tmp 33) = .slice (some ⟨b, off, none⟩) nn cc := haft 20 (op_at ho (fun o => o.after.any fun e => decide (e.on = 20) && Region.binds .any e) (x := true) (by kernel_rfl))
  have e22 : a.eval (.tmp 35) = .int .i64 (kq : Int) := haft 22 (op_at ho (fun o => o.after.any fun e => decide (e.on = 22) && Region.binds .any e) (x := true) (by kernel_rfl))
  refine .inl ⟨fun j b h => (by rw [hgd] at h; cases h; exact e15), ?_⟩
  exact specs_value (R := fun v W => ibDS b off nn cc kk kq x y 23 v W) (v := .pointer (some ⟨b, off + kq, none⟩)) (by simp [execOp, hop, go_sem, ev e20, ev e22, hlq]) rfl (Ext.refl W)
set_option maxHeartbeats 1000000 in
theorem ibD_op24 (cy : ∀ W, Ext V W → W.cell? ⟨b, off + kq, none⟩ = some (.int .i64 y)) (hB : Ext V W) (haft : ∀ j, (o.after.any fun e => decide (e.on = j) && Region.binds .any e) = true → ibDS b off nn cc kk kq x y j (a.eval (.tmp (ibD j))) W) (ho : ibReg[24]? = some o) : ibDOk b off nn cc kk kq x y Q a W 24 o := by
  have hop := op_at ho (·.op) (x := Op.load 2 (Operand.tmp 36)) (by kernel_rfl)
  have hgd := op_at ho (·.guard) (x := some (15, true)) (by kernel_rfl)
  have e15 : a.eval (.tmp 28) = .bool true := haft 15 (op_at ho (fun o => o.after.any fun e => decide (e.on = 15) && Region.binds .any e) (x := true) (by kernel_rfl))
  have e23 : a.eval (.tmp 36) = .pointer (some ⟨b, off + kq, none⟩) := haft 23 (op_at ho (fun o => o.after.any fun e => decide (e.on = 23) && Region.binds .any e) (x := true) (by kernel_rfl))
  refine .inl ⟨fun j b h => (by rw [hgd] at h; cases h; exact e15), ?_⟩
  have cy' := cy W hB
  exact specs_value (R := fun v W => ibDS b off nn cc kk kq x y 24 v W) (v := .int .i64 y) (by simp [execOp, hop, go_sem, ev e23, cy']) rfl (Ext.refl W)
set_option maxHeartbeats 1000000 in
theorem ibD_op25 (haft : ∀ j, (o.after.any fun e => decide (e.on = j) && Region.binds .any e) = true → ibDS b off nn cc kk kq x y j (a.eval (.tmp (ibD j))) W) (ho : ibReg[25]? = some o) : ibDOk b off nn cc kk kq x y Q a W 25 o := by
  have hop := op_at ho (·.op) (x := Op.binOp BinOp.leq 2 (Operand.tmp 32) (Operand.tmp 37) 2) (by kernel_rfl)
  have hgd := op_at ho (·.guard) (x := some (15, true)) (by kernel_rfl)
  have e15 : a.eval (.tmp 28) = .bool true := haft 15 (op_at ho (fun o => o.after.any fun e => decide (e.on = 15) && Region.binds .any e) (x := true) (by kernel_rfl))
  have e19 : a.eval (.tmp 32) = .int .i64 x := haft 19 (op_at ho (fun o => o.after.any fun e => decide (e.on = 19) && Region.binds .any e) (x := true) (by kernel_rfl))
  have e24 : a.eval (.tmp 37) = .int .i64 y := haft 24 (op_at ho (fun o => o.after.any fun e => decide (e.on = 24) && Region.binds .any e) (x := true) (by kernel_rfl))
  refine .inl ⟨fun j b h => (by rw [hgd] at h; cases h; exact e15), ?_⟩
  exact specs_value (R := fun v W => ibDS b off nn cc kk kq x y 25 v W) (v := .bool (decide (x ≤ y))) (by simp [execOp, hop, go_sem, ev e19, ev e24]) rfl (Ext.refl W)
set_option maxHeartbeats 1000000 in
theorem ibD_op26 (haft : ∀ j, (o.after.any fun e => decide (e.on = j) && Region.binds .any e) = true → ibDS b off nn cc kk kq x y j (a.eval (.tmp (ibD j))) W) (ho : ibReg[26]? = some o) : ibDOk b off nn cc kk kq x y Q a W 26 o := by
  have hop := op_at ho (·.op) (x := Op.pick (Operand.tmp 28) (Operand.tmp 38) (Operand.const (Value.bool false))) (by kernel_rfl)
  have hgd := op_at ho (·.guard) (x := some (12, false)) (by kernel_rfl)
  have e12 : a.eval (.tmp 25) = .bool false := haft 12 (op_at ho (fun o => o.after.any fun e => decide (e.on = 12) && Region.binds .any e) (x := true) (by kernel_rfl))
  have e15 : a.eval (.tmp 28) = .bool true := haft 15 (op_at ho (fun o => o.after.any fun e => decide (e.on = 15) && Region.binds .any e) (x := true) (by kernel_rfl))
  have e25 : a.eval (.tmp 38) = .bool (decide (x ≤ y)) := haft 25 (op_at ho (fun o => o.after.any fun e => decide (e.on = 25) && Region.binds .any e) (x := true) (by kernel_rfl))
  refine .inl ⟨fun j b h => (by rw [hgd] at h; cases h; exact e12), ?_⟩
  exact specs_value (R := fun v W => ibDS b off nn cc kk kq x y 26 v W) (v := .bool (decide (x ≤ y))) (by simp [execOp, hop, go_sem, ev e15, ev e25]) rfl (Ext.refl W)
set_option maxHeartbeats 1000000 in
theorem ibD_op27 (haft : ∀ j, (o.after.any fun e => decide (e.on = j) && Region.binds .any e) = true → ibDS b off nn cc kk kq x y j (a.eval (.tmp (ibD j))) W) (ho : ibReg[27]? = some o) : ibDOk b off nn cc kk kq x y Q a W 27 o := by
  have hop := op_at ho (·.op) (x := Op.pick (Operand.tmp 25) (Operand.const (Value.bool true)) (Operand.tmp 39)) (by kernel_rfl)
  have hgd := op_at ho (·.guard) (x := none) (by kernel_rfl)
  have e12 : a.eval (.tmp 25) = .bool false := haft 12 (op_at ho (fun o => o.after.any fun e => decide (e.on = 12) && Region.binds .any e) (x := true) (by kernel_rfl))
  have e26 : a.eval (.tmp 39) = .bool (decide (x ≤ y)) := haft 26 (op_at ho (fun o => o.after.any fun e => decide (e.on = 26) && Region.binds .any e) (x := true) (by kernel_rfl))
  refine .inl ⟨fun j b h => (by rw [hgd] at h; cases h), ?_⟩
  exact specs_value (R := fun v W => ibDS b off nn cc kk kq x y 27 v W) (v := .bool (decide (x ≤ y))) (by simp [execOp, hop, go_sem, ev e12, ev e26]) rfl (Ext.refl W)
set_option maxRecDepth 100000 in
set_option maxHeartbeats 4000000 in
/-- Region 6 of function 38, one way through it. -/
theorem ibD_wp {id : Nat} (hlen : a.tmps.size = 41) (o0 : a.eval (.tmp 0) = .slice (some ⟨b, off, none⟩) nn cc) (o3 : a.eval (.tmp 3) = .int .i64 (kk : Int)) (hlt : (kk : Int) < (nn : Int)) (cx : ∀ W, Ext V W → W.cell? ⟨b, off + kk, none⟩ = some (.int .i64 x)) (h1 : ¬ x < -10000) (h2 : ¬ 10000 < x) (h3 : 0 < kk) (wq : IntKind.i64.wrap ((kk : Int) - 1) = (kq : Int)) (hlq : (kq : Int) < (nn : Int)) (cy : ∀ W, Ext V W → W.cell? ⟨b, off + kq, none⟩ = some (.int .i64 y)) (K : ∀ W, Ext V W → Q .normal (puts a [(13, .slice (some ⟨b, off, none⟩) nn cc), (14, .int .i64 (kk : Int)), (15, .pointer (some ⟨b, off + kk, none⟩)), (16, .int .i64 x), (17, .bool false), (18, .bool false), (19, .slice (some ⟨b, off, none⟩) nn cc), (20, .int .i64 (kk : Int)), (21, .pointer (some ⟨b, off + kk, none⟩)), (22, .int .i64 x), (23, .bool false), (24, .bool false), (25, .bool false), (26, .int .i64 (kk : Int)), (27, .bool true), (28, .bool true), (29, .slice (some ⟨b, off, none⟩) nn cc), (30, .int .i64 (kk : Int)), (31, .pointer (some ⟨b, off + kk, none⟩)), (32, .int .i64 x), (33, .slice (some ⟨b, off, none⟩) nn cc), (34, .int .i64 (kk : Int)), (35, .int .i64 (kq : Int)), (36, .pointer (some ⟨b, off + kq, none⟩)), (37, .int .i64 y), (38, .bool (decide (x ≤ y))), (39, .bool (decide (x ≤ y))), (40, .bool (decide (x ≤ y)))]) W) : (Code.region id ibReg true).wp Tryz.prog Q a V := by
  refine wp_region_maybe (ops := ibReg) (ibDS b off nn cc kk kq x y) (Ext V) (by kernel_rfl) (by rw [hlen]; kernel_rfl) ⟨rfl, rfl, rfl, Nat.le_refl _, fun _ _ => rfl⟩ (fun _ _ h e => h.trans e) (fun _ _ _ _ h _ => h) ibD (by kernel_rfl) ?_ ?_
  · intro i o ho a' W hB hsz hold haft
    have hi : i < 28 := by
      have h1 := (Array.getElem?_eq_some_iff.1 ho).1
      have h2 := ib_size
      omega
    match i, hi with
    | 0, _ => exact ibD_op0 ((hold 0 (by kernel_rfl)).trans o0) ho
    | 1, _ => exact ibD_op1 ((hold 3 (by kernel_rfl)).trans o3) ho
    | 2, _ => exact ibD_op2 hlt haft ho
    | 3, _ => exact ibD_op3 cx hB haft ho
    | 4, _ => exact ibD_op4 h1 haft ho
    | 5, _ => exact ibD_op5 haft ho
    | 6, _ => exact ibD_op6 ((hold 0 (by kernel_rfl)).trans o0) haft ho
    | 7, _ => exact ibD_op7 ((hold 3 (by kernel_rfl)).trans o3) haft ho
    | 8, _ => exact ibD_op8 hlt haft ho
    | 9, _ => exact ibD_op9 cx hB haft ho
    | 10, _ => exact ibD_op10 h2 haft ho
    | 11, _ => exact ibD_op11 haft ho
    | 12, _ => exact ibD_op12 haft ho
    | 13, _ => exact ibD_op13 ((hold 3 (by kernel_rfl)).trans o3) haft ho
    | 14, _ => exact ibD_op14 h3 haft ho
    | 15, _ => exact ibD_op15 haft ho
    | 16, _ => exact ibD_op16 ((hold 0 (by kernel_rfl)).trans o0) haft ho
    | 17, _ => exact ibD_op17 ((hold 3 (by kernel_rfl)).trans o3) haft ho
    | 18, _ => exact ibD_op18 hlt haft ho
    | 19, _ => exact ibD_op19 cx hB haft ho
    | 20, _ => exact ibD_op20 ((hold 0 (by kernel_rfl)).trans o0) haft ho
    | 21, _ => exact ibD_op21 ((hold 3 (by kernel_rfl)).trans o3) haft ho
    | 22, _ => exact ibD_op22 wq haft ho
    | 23, _ => exact ibD_op23 hlq haft ho
    | 24, _ => exact ibD_op24 cy hB haft ho
    | 25, _ => exact ibD_op25 haft ho
    | 26, _ => exact ibD_op26 haft ho
    | 27, _ => exact ibD_op27 haft ho
    | m + 28, h => exact absurd h (by omega)
  · intro a1 W hB hsz hdf hold hS
    have hs2 := ib_size
    have hall : ∀ zz, zz ∈ ([(13, .slice (some ⟨b, off, none⟩) nn cc), (14, .int .i64 (kk : Int)), (15, .pointer (some ⟨b, off + kk, none⟩)), (16, .int .i64 x), (17, .bool false), (18, .bool false), (19, .slice (some ⟨b, off, none⟩) nn cc), (20, .int .i64 (kk : Int)), (21, .pointer (some ⟨b, off + kk, none⟩)), (22, .int .i64 x), (23, .bool false), (24, .bool false), (25, .bool false), (26, .int .i64 (kk : Int)), (27, .bool true), (28, .bool true), (29, .slice (some ⟨b, off, none⟩) nn cc), (30, .int .i64 (kk : Int)), (31, .pointer (some ⟨b, off + kk, none⟩)), (32, .int .i64 x), (33, .slice (some ⟨b, off, none⟩) nn cc), (34, .int .i64 (kk : Int)), (35, .int .i64 (kq : Int)), (36, .pointer (some ⟨b, off + kq, none⟩)), (37, .int .i64 y), (38, .bool (decide (x ≤ y))), (39, .bool (decide (x ≤ y))), (40, .bool (decide (x ≤ y)))] : List (Tmp × Value)) → zz.1 < a.tmps.size ∧ a1.eval (.tmp zz.1) = zz.2 := by
      intro zz hz
      rw [hlen]
      simp only [List.mem_cons, List.not_mem_nil, or_false] at hz
      rcases hz with rfl | rfl | rfl | rfl | rfl | rfl | rfl | rfl | rfl | rfl | rfl | rfl | rfl | rfl | rfl | rfl | rfl | rfl | rfl | rfl | rfl | rfl | rfl | rfl | rfl | rfl | rfl | rfl
      · exact ⟨(show (13 : Nat) < 41 by omega), hS 0 (by omega)⟩
      · exact ⟨(show (14 : Nat) < 41 by omega), hS 1 (by omega)⟩
      · exact ⟨(show (15 : Nat) < 41 by omega), hS 2 (by omega)⟩
      · exact ⟨(show (16 : Nat) < 41 by omega), hS 3 (by omega)⟩
      · exact ⟨(show (17 : Nat) < 41 by omega), hS 4 (by omega)⟩
      · exact ⟨(show (18 : Nat) < 41 by omega), hS 5 (by omega)⟩
      · exact ⟨(show (19 : Nat) < 41 by omega), hS 6 (by omega)⟩
      · exact ⟨(show (20 : Nat) < 41 by omega), hS 7 (by omega)⟩
      · exact ⟨(show (21 : Nat) < 41 by omega), hS 8 (by omega)⟩
      · exact ⟨(show (22 : Nat) < 41 by omega), hS 9 (by omega)⟩
      · exact ⟨(show (23 : Nat) < 41 by omega), hS 10 (by omega)⟩
      · exact ⟨(show (24 : Nat) < 41 by omega), hS 11 (by omega)⟩
      · exact ⟨(show (25 : Nat) < 41 by omega), hS 12 (by omega)⟩
      · exact ⟨(show (26 : Nat) < 41 by omega), hS 13 (by omega)⟩
      · exact ⟨(show (27 : Nat) < 41 by omega), hS 14 (by omega)⟩
      · exact ⟨(show (28 : Nat) < 41 by omega), hS 15 (by omega)⟩
      · exact ⟨(show (29 : Nat) < 41 by omega), hS 16 (by omega)⟩
      · exact ⟨(show (30 : Nat) < 41 by omega), hS 17 (by omega)⟩
      · exact ⟨(show (31 : Nat) < 41 by omega), hS 18 (by omega)⟩
      · exact ⟨(show (32 : Nat) < 41 by omega), hS 19 (by omega)⟩
      · exact ⟨(show (33 : Nat) < 41 by omega), hS 20 (by omega)⟩
      · exact ⟨(show (34 : Nat) < 41 by omega), hS 21 (by omega)⟩
      · exact ⟨(show (35 : Nat) < 41 by omega), hS 22 (by omega)⟩
      · exact ⟨(show (36 : Nat) < 41 by omega), hS 23 (by omega)⟩
      · exact ⟨(show (37 : Nat) < 41 by omega), hS 24 (by omega)⟩
      · exact ⟨(show (38 : Nat) < 41 by omega), hS 25 (by omega)⟩
      · exact ⟨(show (39 : Nat) < 41 by omega), hS 26 (by omega)⟩
      · exact ⟨(show (40 : Nat) < 41 by omega), hS 27 (by omega)⟩
    have ha := act_puts hsz hdf hall (fun t ht => hold t (by rw [hs2]; exact all_ne_of (l := [(13, .slice (some ⟨b, off, none⟩) nn cc), (14, .int .i64 (kk : Int)), (15, .pointer (some ⟨b, off + kk, none⟩)), (16, .int .i64 x), (17, .bool false), (18, .bool false), (19, .slice (some ⟨b, off, none⟩) nn cc), (20, .int .i64 (kk : Int)), (21, .pointer (some ⟨b, off + kk, none⟩)), (22, .int .i64 x), (23, .bool false), (24, .bool false), (25, .bool false), (26, .int .i64 (kk : Int)), (27, .bool true), (28, .bool true), (29, .slice (some ⟨b, off, none⟩) nn cc), (30, .int .i64 (kk : Int)), (31, .pointer (some ⟨b, off + kk, none⟩)), (32, .int .i64 x), (33, .slice (some ⟨b, off, none⟩) nn cc), (34, .int .i64 (kk : Int)), (35, .int .i64 (kq : Int)), (36, .pointer (some ⟨b, off + kq, none⟩)), (37, .int .i64 y), (38, .bool (decide (x ≤ y))), (39, .bool (decide (x ≤ y))), (40, .bool (decide (x ≤ y)))]) (by kernel_rfl) ht))
    rw [ha]
    exact K W hB
end
end Go.Proofs.YtmlmnljbegcjcaaGreat

/- The reference: IsBaths. -/
namespace Go.Proofs.YtmlmnljbegcjcaaGreat
open Go.RowKit Go.Shelf

/-- Whether the births before the k-th one are baths. -/
def bathsTo (bs : List Int) (k : Nat) : Prop := ∀ j (hj : j < bs.length), j < k → (-10000 ≤ bs[j] ∧ bs[j] ≤ 10000) ∧ ∀ (h0 : 0 < j), bs[j - 1] < bs[j]
theorem pair_next : ∀ {bs : List Int}, (∀ j (hj : j < bs.length), ∀ (_ : 0 < j), bs[j - 1] < bs[j]) → bs.Pairwise (· < ·) := by
  intro bs h
  rw [List.pairwise_iff_getElem]
  intro i j hi hj hij
  induction j with
  | zero => omega
  | succ j ih =>
    have h1 := h (j + 1) hj (by omega)
    simp only [Nat.add_sub_cancel] at h1
    by_cases e : i = j
    · subst e; exact h1
    · exact Int.lt_trans (ih (by omega) (by omega)) h1
set_option maxRecDepth 100000 in
set_option maxHeartbeats 4000000 in
theorem isBaths_any (A : Option Addr) (n c : Nat) (bs : List Int) (w : World) (hn : n = bs.length) (hm : n ≤ 9223372036854775807) (hh : Held w w.heap.size 1 encI A bs) :
    Calls Tryz.prog 38 #[.slice A n c] w fun e w' => e = .returned (.int .i64 (bathsErr bs)) ∧ Ext w w' := by
  have HN := Lib.hid hn
  have HH := Lib.hid hh
  by_cases h14 : n ≤ 14
  · have hb : bathsErr bs = if bs.Pairwise (· < ·) ∧ bs.all (inside (-10000) 10000) = true then 0 else 3 := by unfold bathsErr; rw [if_pos (by omega)]
    obtain ⟨Z, hZ⟩ : ∃ Z, bathsErr bs = Z := ⟨_, rfl⟩
    rw [hZ] at hb ⊢
    have HB := Lib.hid hb
    have h14z : ¬ (14 : Int) < (n : Int) := by omega
    clear hn hh hb hZ
    go_enter Tryz.func38, Tryz.ntmps38
    go_wp2
    go_loopw [3] (fun i wr => ∃ k : Nat, k ≤ n ∧ i = .int .i64 k ∧ Hid (Ext w wr) ∧ Hid (bathsTo bs k)) (fun i _ => n - (intOf i).toNat)
    case atStart => exact ⟨0, Nat.zero_le _, rfl, Lib.hid (Ext.refl _), Lib.hid fun j _ h => absurd h (by omega)⟩
    case round =>
      obtain ⟨k, hk, rfl, hE, hA⟩ := hrel
      by_cases hlt : k < n
      · have hltz : (k : Int) < (n : Int) := by omega
        have hkl : k < bs.length := by rw [← HN.out]; exact hlt
        obtain ⟨b, off, rfl, hc⟩ := int_get (HH.out.ext hE.out) hkl
        have hget : ∀ j (hj : j < bs.length), wr.cell? ⟨b, off + j, none⟩ = some (.int .i64 bs[j]) := fun j hj => by
          obtain ⟨b', off', e, hc'⟩ := int_get (HH.out.ext hE.out) hj
          injection e with e; injection e with e1 e2
          subst e1 e2
          exact hc'
        have hbad : ¬ ((-10000 ≤ bs[k] ∧ bs[k] ≤ 10000) ∧ ∀ (h0 : 0 < k), bs[k - 1] < bs[k]) → Z = 3 := fun hno => by
          have := HB.out
          rw [if_neg (fun hy => hno ⟨by have := List.all_eq_true.1 hy.2 bs[k] (List.getElem_mem hkl); simpa [inside] using this, fun h0 => List.pairwise_iff_getElem.1 hy.1 (k - 1) k (by omega) hkl (by omega)⟩)] at this
          exact this
        have hgood : ((-10000 ≤ bs[k] ∧ bs[k] ≤ 10000) ∧ ∀ (h0 : 0 < k), bs[k - 1] < bs[k]) → bathsTo bs (k + 1) := fun hy j hj h => by
          by_cases e : j = k
          · subst e; exact hy
          · exact hA.out j hj (by omega)
        obtain ⟨x, hx⟩ : ∃ x, bs[k] = x := ⟨_, rfl⟩
        simp only [hx] at hbad hgood hc
        have HBAD := Lib.hid hbad
        have HGOOD := Lib.hid hgood
        have HGET := Lib.hid hget
        clear hbad hgood hget hx
        have HC := Lib.hid hc
        have hkn : n ≤ 14 := h14
        have HCX : Hid (∀ W, Ext wr W → W.cell? ⟨b, off + k, none⟩ = some (.int .i64 x)) := Lib.hid fun W hW => by
          have hl : b < wr.heap.size := by
            have h1 := HC.out
            unfold World.cell? at h1
            split at h1
            · rename_i e; exact (Array.getElem?_eq_some_iff.1 e).1
            · cases h1
          exact (Below.cell hW (p := ⟨b, off + k, none⟩) hl).trans HC.out
        clear hc
        by_cases h1 : x < -10000
        · obtain rfl : Z = 3 := HBAD.out (by omega)
          go_upto_region 6 with fail
          refine ibA_wp (b := b) (off := off) (nn := n) (cc := c) (kk := k) (x := x) rfl rfl rfl hltz HCX.out h1 ?_
          intro W1 e1
          have HE1 := Lib.hid (hE.out.trans e1)
          simp only [puts, List.foldl_cons, List.foldl_nil, Act.put, List.setIfInBounds_toArray, List.set_cons_succ, List.set_cons_zero]
          clear e1
          go_wp2
          go_ret
          exact ⟨rfl, HE1.out⟩
        · by_cases h2 : (10000 : Int) < x
          · obtain rfl : Z = 3 := HBAD.out (by omega)
            go_upto_region 6 with fail
            refine ibB_wp (b := b) (off := off) (nn := n) (cc := c) (kk := k) (x := x) rfl rfl rfl hltz HCX.out h1 h2 ?_
            intro W1 e1
            have HE1 := Lib.hid (hE.out.trans e1)
            simp only [puts, List.foldl_cons, List.foldl_nil, Act.put, List.setIfInBounds_toArray, List.set_cons_succ, List.set_cons_zero]
            clear e1
            go_wp2
            go_ret
            exact ⟨rfl, HE1.out⟩
          · by_cases h3 : k = 0
            · have hg := HGOOD.out ⟨⟨by omega, by omega⟩, fun h0 => by omega⟩
              have HG2 := Lib.hid hg
              clear hg
              go_upto_region 6 with fail
              refine ibC_wp (b := b) (off := off) (nn := n) (cc := c) (kk := k) (x := x) rfl rfl rfl hltz HCX.out h1 h2 h3 ?_
              intro W1 e1
              have HE1 := Lib.hid (hE.out.trans e1)
              simp only [puts, List.foldl_cons, List.foldl_nil, Act.put, List.setIfInBounds_toArray, List.set_cons_succ, List.set_cons_zero]
              clear e1 h3
              go_wp2
              go_roundw
              case measure => simp [intOf]; omega
              case rel => exact ⟨k + 1, by omega, by go_num, HE1, HG2⟩
            · have hq : k - 1 < bs.length := by omega
              have hcy := HGET.out (k - 1) hq
              obtain ⟨y, hy⟩ : ∃ y, bs[k - 1] = y := ⟨_, rfl⟩
              rw [hy] at hcy
              obtain ⟨kq, hkq⟩ : ∃ kq, k - 1 = kq := ⟨_, rfl⟩
              rw [hkq] at hcy
              have hgood := HGOOD.out
              have hbad := HBAD.out
              simp only [hy] at hgood hbad
              have HCY : Hid (∀ W, Ext wr W → W.cell? ⟨b, off + kq, none⟩ = some (.int .i64 y)) := Lib.hid fun W hW => by
                have hl : b < wr.heap.size := by
                  have h1 := hcy
                  unfold World.cell? at h1
                  split at h1
                  · rename_i e; exact (Array.getElem?_eq_some_iff.1 e).1
                  · cases h1
                exact (Below.cell hW (p := ⟨b, off + kq, none⟩) hl).trans hcy
              have hwq : IntKind.i64.wrap ((k : Int) - 1) = (kq : Int) := (IntWalk.i64_in _ (by omega)).trans (by omega)
              have hlq : (kq : Int) < (n : Int) := by omega
              have h3' : 0 < k := by omega
              by_cases h4 : y < x
              · have HG2 := Lib.hid (hgood ⟨⟨by omega, by omega⟩, fun _ => h4⟩)
                clear hgood hbad hcy hy hkq hq HGOOD HBAD
                go_upto_region 6 with fail
                refine ibD_wp (b := b) (off := off) (nn := n) (cc := c) (kk := k) (kq := kq) (x := x) (y := y) rfl rfl rfl hltz HCX.out h1 h2 h3' hwq hlq HCY.out ?_
                intro W1 e1
                have HE1 := Lib.hid (hE.out.trans e1)
                simp only [puts, List.foldl_cons, List.foldl_nil, Act.put, List.setIfInBounds_toArray, List.set_cons_succ, List.set_cons_zero]
                rw [decide_eq_false (by omega : ¬ x ≤ y)]
                clear e1 hwq hlq h3 h3'
                go_wp2
                go_roundw
                case measure => simp [intOf]; omega
                case rel => exact ⟨k + 1, by omega, by go_num, HE1, HG2⟩
              · obtain rfl : Z = 3 := hbad (fun hno => h4 (hno.2 h3'))
                clear hgood hbad hcy hy hkq hq HGOOD HBAD
                go_upto_region 6 with fail
                refine ibD_wp (b := b) (off := off) (nn := n) (cc := c) (kk := k) (kq := kq) (x := x) (y := y) rfl rfl rfl hltz HCX.out h1 h2 h3' hwq hlq HCY.out ?_
                intro W1 e1
                have HE1 := Lib.hid (hE.out.trans e1)
                simp only [puts, List.foldl_cons, List.foldl_nil, Act.put, List.setIfInBounds_toArray, List.set_cons_succ, List.set_cons_zero]
                rw [decide_eq_true (by omega : x ≤ y)]
                clear e1 hwq hlq h3 h3'
                go_wp2
                go_ret
                exact ⟨rfl, HE1.out⟩
      · have hltz : ¬ (k : Int) < (n : Int) := by omega
        have hz : Z = 0 := by
          have := HB.out
          have hA' := hA.out
          have hall : ∀ j (hj : j < bs.length), (-10000 ≤ bs[j] ∧ bs[j] ≤ 10000) ∧ ∀ (h0 : 0 < j), bs[j - 1] < bs[j] := fun j hj => hA' j hj (by have := HN.out; omega)
          rw [if_pos ⟨pair_next fun j hj h0 => (hall j hj).2 h0, List.all_eq_true.2 fun x hx => by
            obtain ⟨j, hj, rfl⟩ := List.getElem_of_mem hx
            simpa [inside] using (hall j hj).1⟩] at this
          exact this
        have HZ := Lib.hid hz
        clear hz
        go_wp2
        go_ret
        exact ⟨by rw [HZ.out]; rfl, hE.out⟩
  · have hb : bathsErr bs = 6 := by unfold bathsErr; rw [if_neg (by omega)]
    rw [hb]
    have h14z : (14 : Int) < (n : Int) := by omega
    clear hn hh hb
    go_enter Tryz.func38, Tryz.ntmps38
    go_wp2
    go_ret
    exact ⟨rfl, Ext.refl _⟩
end Go.Proofs.YtmlmnljbegcjcaaGreat

/- The reference: CheckBaths, Worth. -/
namespace Go.Proofs.YtmlmnljbegcjcaaGreat
open Go.RowKit Go.Shelf
attribute [local irreducible] bitCells

set_option maxRecDepth 100000 in
set_option maxHeartbeats 4000000 in
theorem refWorth_any {A : Option Addr} {n c : Nat} {os : List Odr} {w : World} (h : IsOrders w A n c os) (A' : Option Addr) (n' c' : Nat) (bs : List Int) (hn' : n' = bs.length) (hm' : n' ≤ 9223372036854775807) (hh : Held w w.heap.size 1 encI A' bs) :
    Calls Tryz.prog 28 #[.slice A n c, .slice A' n' c'] w (NumPost (worthAns os bs) (withErr os bs) w) := by
  have h21 := fun W (hW : Ext w W) => refCheck_any (h.ext hW)
  have h38 := fun W (hW : Ext w W) => isBaths_any A' n' c' bs W hn' hm' (hh.ext hW)
  have h39 := fun hk W (hW : Ext w W) => worthOf_any (h.ext hW) hk A' n' c' bs hn' hm' (hh.ext hW)
  obtain ⟨E, hE⟩ : ∃ E, ordersErr os = E := ⟨_, rfl⟩
  obtain ⟨B, hB⟩ : ∃ B, bathsErr bs = B := ⟨_, rfl⟩
  obtain ⟨Z, hZ⟩ : ∃ Z, withErr os bs = Z := ⟨_, rfl⟩
  obtain ⟨X, hX⟩ : ∃ X, worthAns os bs = X := ⟨_, rfl⟩
  have hz : Z = if E = 0 then B else E := by rw [← hE, ← hZ, ← hB]; rfl
  have hx : X = if Z = 0 then worthOf os bs else 0 := by rw [← hX, ← hZ]; rfl
  unfold NumPost
  rw [hX, hZ]
  rw [hE] at h39
  simp only [hE] at h21
  simp only [hB] at h38
  have H21 := Lib.hid h21
  have H38 := Lib.hid h38
  have H39 := Lib.hid h39
  have HZ := Lib.hid (And.intro hz hx)
  clear hE hB hZ hX hz hx h hh hn' h21 h38 h39
  have h0 := H21.out w (Ext.refl w)
  by_cases he : E = 0
  · subst he
    by_cases hb : B = 0
    · subst hb
      obtain ⟨hz, hx⟩ := HZ.out
      rw [if_pos rfl] at hz
      rw [if_pos hz] at hx
      subst hz
      have h39 := H39.out rfl
      rw [← hx] at h39
      replace H39 := Lib.hid h39
      clear hx HZ h39
      go_enter Tryz.func28, Tryz.ntmps28
      go_wp2_with (refine h0.mono ?_; rintro e w1 ⟨rfl, e1⟩; have HE1 := Lib.hid e1; have h1 := H38.out w1 e1; clear e1 h0)
      refine h1.mono ?_
      rintro e w2 ⟨rfl, e2⟩
      have HE2 := Lib.hid (HE1.out.trans e2)
      have h2 := H39.out w2 (HE1.out.trans e2)
      clear e2 h1
      go_wp2_with fail
      refine h2.mono ?_
      rintro e w3 ⟨rfl, e3⟩
      have HE3 := Lib.hid (HE2.out.trans e3)
      clear e3 h2
      go_wp2
      exact bodyPost_ret (results_tmp2 rfl _ _ _) rfl ⟨rfl, HE3.out⟩
    · obtain ⟨hz, hx⟩ := HZ.out
      rw [if_pos rfl] at hz
      subst hz
      rw [if_neg hb] at hx
      subst hx
      have hbb : (Z != 0) = true := by simp [hb]
      clear HZ
      go_enter Tryz.func28, Tryz.ntmps28
      go_wp2_with (refine h0.mono ?_; rintro e w1 ⟨rfl, e1⟩; have HE1 := Lib.hid e1; have h1 := H38.out w1 e1; clear e1 h0)
      refine h1.mono ?_
      rintro e w2 ⟨rfl, e2⟩
      have HE2 := Lib.hid (HE1.out.trans e2)
      have h2 := H38.out w2 (HE1.out.trans e2)
      clear e2 h1
      go_wp2_with fail
      refine h2.mono ?_
      rintro e w3 ⟨rfl, e3⟩
      have HE3 := Lib.hid (HE2.out.trans e3)
      clear e3 h2
      go_wp2
      exact bodyPost_ret (results_tmp2 rfl _ _ _) rfl ⟨rfl, HE3.out⟩
  · obtain ⟨hz, hx⟩ := HZ.out
    rw [if_neg he] at hz
    subst hz
    rw [if_neg he] at hx
    subst hx
    have heb : (Z != 0) = true := by simp [he]
    clear HZ
    go_enter Tryz.func28, Tryz.ntmps28
    go_wp2_with fail
    refine h0.mono ?_
    rintro e w1 ⟨rfl, e1⟩
    have HE1 := Lib.hid e1
    have h1 := H21.out w1 e1
    clear e1 h0
    go_wp2_with fail
    refine h1.mono ?_
    rintro e w2 ⟨rfl, e2⟩
    have HE2 := Lib.hid (HE1.out.trans e2)
    clear e2 h1
    go_wp2
    exact bodyPost_ret (results_tmp2 rfl _ _ _) rfl ⟨rfl, HE2.out⟩
set_option maxRecDepth 100000 in
set_option maxHeartbeats 4000000 in
theorem refCheckBaths_any {A : Option Addr} {n c : Nat} {os : List Odr} {w : World} (h : IsOrders w A n c os) (A' : Option Addr) (n' c' : Nat) (bs : List Int) (hn' : n' = bs.length) (hm' : n' ≤ 9223372036854775807) (hh : Held w w.heap.size 1 encI A' bs) :
    Calls Tryz.prog 30 #[.slice A n c, .slice A' n' c'] w fun e w' => e = .returned (.int .i64 (checkBathsErr os bs)) ∧ Ext w w' := by
  have h21 := fun W (hW : Ext w W) => refCheck_any (h.ext hW)
  have h38 := fun W (hW : Ext w W) => isBaths_any A' n' c' bs W hn' hm' (hh.ext hW)
  have h72 := fun (hk : ordersErr os = 0) W (hW : Ext w W) k hkl => done72_any (h.ext hW) (orders_ok hk).2 A' n' c' bs hn' hm' (hh.ext hW) k hkl
  have hfew := fun hk => (orders_ok (os := os) hk).1.2
  have HN := Lib.hid h.len
  obtain ⟨E, hE⟩ : ∃ E, ordersErr os = E := ⟨_, rfl⟩
  obtain ⟨B, hB⟩ : ∃ B, bathsErr bs = B := ⟨_, rfl⟩
  obtain ⟨X, hX⟩ : ∃ X, checkBathsErr os bs = X := ⟨_, rfl⟩
  have hx : X = if E = 0 then if B = 0 then if os.all (madeB bs) then 0 else 22 else B else E := by
    rw [← hX]
    unfold checkBathsErr withErr
    rw [hE, hB]
    by_cases h1 : E = 0
    · rw [if_pos h1, if_pos h1]
    · rw [if_neg h1, if_neg h1, if_neg h1]
  rw [hX]
  rw [hE] at h72 hfew
  simp only [hE] at h21
  simp only [hB] at h38
  have H21 := Lib.hid h21
  have H38 := Lib.hid h38
  have H72 := Lib.hid h72
  have HX := Lib.hid hx
  have HF := Lib.hid hfew
  clear hE hB hX hx h hh hn' h21 h38 h72 hfew
  have h0 := H21.out w (Ext.refl w)
  by_cases he : E = 0
  · subst he
    replace H72 := Lib.hid (H72.out rfl)
    have hx := HX.out
    rw [if_pos rfl] at hx
    have hn14 : n ≤ 14 := by have := HF.out rfl; have := HN.out; omega
    by_cases hb : B = 0
    · subst hb
      rw [if_pos rfl] at hx
      obtain ⟨T, hT⟩ : ∃ T, os.all (madeB bs) = T := ⟨_, rfl⟩
      rw [hT] at hx
      have hx0 : T = true → X = 0 := fun h => by rw [hx, if_pos h]
      have hx2 : T = false → X = 22 := fun h => by rw [hx, h]; rfl
      have ht1 : (∀ j (hj : j < os.length), madeB bs os[j] = true) → T = true := fun h => by
        rw [← hT]
        exact List.all_eq_true.2 fun o ho => by
          obtain ⟨j, hj, rfl⟩ := List.getElem_of_mem ho
          exact h j hj
      have ht2 : ∀ j (hj : j < os.length), madeB bs os[j] = false → T = false := fun j hj h => by
        cases hh : T
        · rfl
        · rw [hh] at hT
          have := List.all_eq_true.1 hT os[j] (List.getElem_mem hj)
          rw [h] at this; cases this
      have HXX := Lib.hid (And.intro (fun h => hx0 (ht1 h)) (fun j hj h => hx2 (ht2 j hj h)))
      clear hx HF HX hx0 hx2 ht1 ht2 hT
      go_enter Tryz.func30, Tryz.ntmps30
      go_wp2_with (refine h0.mono ?_; rintro e w1 ⟨rfl, e1⟩; have HE1 := Lib.hid e1; have h1 := H38.out w1 e1; clear e1 h0)
      refine h1.mono ?_
      rintro e w2 ⟨rfl, e2⟩
      have HE2 := Lib.hid (HE1.out.trans e2)
      clear e2 h1
      go_wp2
      go_loopw [5] (fun i wr => ∃ k : Nat, k ≤ n ∧ i = .int .i64 k ∧ Hid (Ext w wr) ∧ Hid (∀ j (hj : j < os.length), j < k → madeB bs os[j] = true)) (fun i _ => n - (intOf i).toNat)
      case atStart => exact ⟨0, Nat.zero_le _, rfl, HE2, Lib.hid fun j _ h => absurd h (by omega)⟩
      case round =>
        obtain ⟨k, hk, rfl, hE, hA⟩ := hrel
        by_cases hlt : k < n
        · have hltz : (k : Int) < (n : Int) := by omega
          have hkl : k < os.length := by rw [← HN.out]; exact hlt
          have h3 := H72.out wr hE.out k hkl
          obtain ⟨q, hq⟩ : ∃ q, madeB bs os[k] = q := ⟨_, rfl⟩
          rw [hq] at h3
          have HQ := Lib.hid hq
          clear hq
          cases q with
          | true =>
            go_wp2_with (refine h3.mono ?_; rintro e w3 ⟨rfl, e3⟩; have HE3 := Lib.hid (hE.out.trans e3); clear e3 h3)
            go_roundw
            case measure => simp [intOf]; omega
            case rel =>
              refine ⟨k + 1, by omega, by go_num, HE3, Lib.hid fun j hj h => ?_⟩
              by_cases e : j = k
              · subst e; exact HQ.out
              · exact hA.out j hj (by omega)
          | false =>
            have hx22 : X = 22 := HXX.out.2 k hkl HQ.out
            subst hx22
            go_wp2_with fail
            refine h3.mono ?_
            rintro e w3 ⟨rfl, e3⟩
            have HE3 := Lib.hid (hE.out.trans e3)
            clear e3 h3
            go_wp2
            go_ret
            exact ⟨rfl, HE3.out⟩
        · have hltz : ¬ (k : Int) < (n : Int) := by omega
          have hx0 : X = 0 := HXX.out.1 fun j hj => hA.out j hj (by have := HN.out; omega)
          subst hx0
          go_wp2
          go_ret
          exact ⟨rfl, hE.out⟩
    · rw [if_neg hb] at hx
      subst hx
      have hbb : (X != 0) = true := by simp [hb]
      clear HX HF
      go_enter Tryz.func30, Tryz.ntmps30
      go_wp2_with (refine h0.mono ?_; rintro e w1 ⟨rfl, e1⟩; have HE1 := Lib.hid e1; have h1 := H38.out w1 e1; clear e1 h0)
      refine h1.mono ?_
      rintro e w2 ⟨rfl, e2⟩
      have HE2 := Lib.hid (HE1.out.trans e2)
      have h2 := H38.out w2 (HE1.out.trans e2)
      clear e2 h1
      go_wp2_with fail
      refine h2.mono ?_
      rintro e w3 ⟨rfl, e3⟩
      have HE3 := Lib.hid (HE2.out.trans e3)
      clear e3 h2
      go_wp2
      go_ret
      exact ⟨rfl, HE3.out⟩
  · have hx := HX.out
    rw [if_neg he] at hx
    subst hx
    have heb : (X != 0) = true := by simp [he]
    clear HX HF
    go_enter Tryz.func30, Tryz.ntmps30
    go_wp2_with fail
    refine h0.mono ?_
    rintro e w1 ⟨rfl, e1⟩
    have HE1 := Lib.hid e1
    have h1 := H21.out w1 e1
    clear e1 h0
    go_wp2_with fail
    refine h1.mono ?_
    rintro e w2 ⟨rfl, e2⟩
    have HE2 := Lib.hid (HE1.out.trans e2)
    clear e2 h1
    go_wp2
    go_ret
    exact ⟨rfl, HE2.out⟩
end Go.Proofs.YtmlmnljbegcjcaaGreat
