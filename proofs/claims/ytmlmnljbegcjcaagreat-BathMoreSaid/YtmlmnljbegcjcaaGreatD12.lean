/- Texts of one package, joined: Plan, MaxReg, Max, BestOf, LawSmall, RefSmall, RefDoes, Examples, IsBaths, RightLo, RefPricesReg. -/
import Derived.Test.YtmlmnljbegcjcaaGreatD10
import Derived.Test.YtmlmnljbegcjcaaGreatD11
import Derived.ArgAppend
/- Plans: compared, made longer. -/
namespace Go.Proofs.YtmlmnljbegcjcaaGreat
open Go.RowKit Go.Shelf
attribute [local irreducible] bitCells

set_option maxHeartbeats 400000 in
theorem isNaN_any (x : Int) (w : World) : Calls Tryz.prog 137 #[.int .i64 x] w fun e w' => e = .returned (.bool false) ∧ w' = w := by
  go_enter Tryz.func137, Tryz.ntmps137
  go_wp2
  go_ret
  exact ⟨by simp, rfl⟩
def cmpI (p q : Int) : Int := if p < q then -1 else if q < p then 1 else 0
set_option maxHeartbeats 1000000 in
theorem compare_any (p q : Int) (w : World) : Calls Tryz.prog 128 #[.int .i64 p, .int .i64 q] w fun e w' => e = .returned (.int .i64 (cmpI p q)) ∧ w' = w := by
  by_cases h1 : p < q
  · rw [show cmpI p q = -1 from by simp [cmpI, h1]]
    go_enter Tryz.func128, Tryz.ntmps128
    go_wp2_with (refine (isNaN_any _ _).mono ?_; rintro e w' ⟨rfl, rfl⟩)
    go_ret
    exact ⟨rfl, rfl⟩
  · by_cases h2 : q < p
    · rw [show cmpI p q = 1 from by simp [cmpI, h1, h2]]
      go_enter Tryz.func128, Tryz.ntmps128
      go_wp2_with (refine (isNaN_any _ _).mono ?_; rintro e w' ⟨rfl, rfl⟩)
      go_ret
      exact ⟨rfl, rfl⟩
    · rw [show cmpI p q = 0 from by simp [cmpI, h1, h2]]
      go_enter Tryz.func128, Tryz.ntmps128
      go_wp2_with (refine (isNaN_any _ _).mono ?_; rintro e w' ⟨rfl, rfl⟩)
      go_ret
      exact ⟨rfl, rfl⟩
set_option maxHeartbeats 1000000 in
theorem cmp127_any (u v : Value) (p q : Int) (w : World) (hu : ∃ A n c, u = .slice A n c) (hv : ∃ A n c, v = .slice A n c) : Calls Tryz.prog 127 #[.agg #[u, .int .i64 p], .agg #[v, .int .i64 q]] w fun e w' => e = .returned (.int .i64 (cmpI p q)) ∧ Ext w w' := by
  obtain ⟨A, n, c, rfl⟩ := hu
  obtain ⟨A', n', c', rfl⟩ := hv
  have h := fun W => compare_any p q W
  go_enter Tryz.func127, Tryz.ntmps127
  go_wp2_with (refine (h _).mono ?_; rintro e w' ⟨rfl, rfl⟩)
  go_ret
  exact ⟨rfl, (ext_alloc _ _).trans (ext_alloc _ _)⟩
/-- The births of a plan. -/
def PlanV (W : World) (v : Value) (bs : List Int) : Prop := (v = .slice none 0 0 ∧ bs = []) ∨ ∃ b off c, v = .slice (some ⟨b, off, none⟩) bs.length c ∧ b < W.heap.size ∧ bs.length ≤ c ∧ c ≤ maxLen ∧ ∀ j x, bs[j]? = some x → W.cell? ⟨b, off + j, none⟩ = some (.int .i64 x)
theorem PlanV.ext {W W' : World} {v : Value} {bs : List Int} (h : PlanV W v bs) (e : Ext W W') : PlanV W' v bs := by
  rcases h with h | ⟨b, off, c, h1, h2, h3, h4, h5⟩
  · exact .inl h
  · exact .inr ⟨b, off, c, h1, Nat.lt_of_lt_of_le h2 e.size, h3, h4, fun j x hx => (Below.cell e (p := ⟨b, off + j, none⟩) h2).trans (h5 j x hx)⟩
theorem PlanV.slice {W : World} {v : Value} {bs : List Int} (h : PlanV W v bs) : ∃ A n c, v = .slice A n c := by
  rcases h with ⟨h, _⟩ | ⟨b, off, c, h, _⟩
  · exact ⟨_, _, _, h⟩
  · exact ⟨_, _, _, h⟩
theorem plan_own {W : World} {base n c : Nat} {A : Option Addr} {bs : List Int} (hn : n = bs.length) (h : W.ownsRow base 2 1 (.slice A n c) n (bs.map (Value.int .i64))) : PlanV W (.slice A n c) bs := by
  rcases h.2 with ⟨h0, h1⟩ | ⟨g, cap, cur, h0, _, hg, h1, h2, h3, h4⟩
  · injection h0 with e1 e2 e3
    subst e1 e2 e3
    exact .inl ⟨rfl, List.eq_nil_of_length_eq_zero hn.symm⟩
  · injection h0 with e1 _ e3
    subst e1; subst e3; subst hn
    refine .inr ⟨g, 0, c, rfl, (Array.getElem?_eq_some_iff.1 hg).1, h1, h2, fun j x hx => ?_⟩
    have hj := (List.getElem?_eq_some_iff.1 hx).1
    rw [Nat.zero_add, cell_of_row _ _ j _ _ _ hg, ← Array.getElem?_toList]
    have e := congrArg (·[j]?) h4
    simp only [List.getElem?_take, List.getElem?_map, hx, Option.map_some] at e
    rwa [if_pos (by omega)] at e
theorem own_ge {W : World} {base n c : Nat} {e : TypeId} {A : Option Addr} {xs : List Value} (h : W.ownsRow base e 1 (.slice A n c) n xs) : ∀ b off m d, (Value.slice A n c) = .slice (some ⟨b, off, none⟩) m d → base ≤ b := by
  intro b off m d e'
  rcases h.2 with ⟨h0, _⟩ | ⟨g, cap, cur, h0, hb, _⟩
  · rw [h0] at e'; cases e'
  · rw [h0] at e'
    injection e' with e1
    injection e1 with e1
    injection e1 with e1
    omega
theorem PlanV.set {W : World} {v : Value} {bs : List Int} (h : PlanV W v bs) {p o : Nat} {u : Value} (hne : ∀ b off m d, v = .slice (some ⟨b, off, none⟩) m d → b ≠ p) : PlanV (W.setCell ⟨p, o, none⟩ u) v bs := by
  rcases h with h | ⟨b, off, c, h1, h2, h3, h4, h5⟩
  · exact .inl h
  · exact .inr ⟨b, off, c, h1, by simpa using h2, h3, h4, fun j x hx => (World.cell?_of_block (a := ⟨b, off + j, none⟩) (heap_set_other _ _ _ _ _ (hne b off _ _ h1))).trans (h5 j x hx)⟩
theorem size103 : (Tryz.prog.info? 103).map (·.size) = some 2 := by kernel_rfl

set_option maxRecDepth 100000 in
set_option maxHeartbeats 4000000 in
theorem longer_any {A : Option Addr} {c : Nat} {os : List Odr} {w : World} (hb : IsBook w A c os) (v : Value) (bs : List Int) (wo : Int) (hv : PlanV w v bs) (hl : bs.length ≤ 1000) (x : Int) :
    Calls Tryz.prog 125 #[.slice A os.length c, .agg #[v, .int .i64 wo], .int .i64 x] w fun e w' => Ext w w' ∧ ∃ u, e = .returned (.agg #[u, .int .i64 (worthOf os (bs ++ [x]))]) ∧ PlanV w' u (bs ++ [x]) ∧ ∀ b off m d, u = .slice (some ⟨b, off, none⟩) m d → w.heap.size ≤ b := by
  have HB := Lib.hid hb
  have HV := Lib.hid hv
  obtain ⟨w1, hw1⟩ : ∃ w1, (w.alloc (.cells #[v, .int .i64 wo] 103)).alloc (.cells #[.slice none 0 0, .int .i64 0] 103) = w1 := ⟨_, rfl⟩
  have e1 : Ext w w1 := by rw [← hw1]; exact (ext_alloc _ _).trans (ext_alloc _ _)
  have r4 : w1.heap[w.heap.size]? = some (.cells #[v, .int .i64 wo] 103 (0, 0)) := by rw [← hw1]; exact row_alloc _ _ _ _ (row_last _ _ _ rfl)
  have r6 : w1.heap[w.heap.size + 1]? = some (.cells #[.slice none 0 0, .int .i64 0] 103 (0, 0)) := by rw [← hw1]; exact row_last _ _ _ (by simp)
  obtain ⟨i0, hi, hz0, hz1, hz2⟩ := info_parts info2
  have HI := Lib.hid (And.intro hi (And.intro hz0 (And.intro hz1 hz2)))
  clear hb hi hz0 hz1 hz2
  rcases hv with ⟨rfl, rfl⟩ | ⟨b, off, cp, rfl, hbl, hnc, hcm, hx⟩
  · go_enter Tryz.func125, Tryz.ntmps125
    go_upto_region 1 with fail
    obtain ⟨p4, hp4⟩ : ∃ p4, w.heap.size = p4 := ⟨_, rfl⟩
    have HP := Lib.hid (show w.heap.size ≤ p4 from Nat.le_of_eq hp4)
    rw [hp4] at r4 r6 ⊢
    have d0 : w1.cell? ⟨p4, 0, none⟩ = some (.slice none 0 0) := cell_of_row _ _ _ _ _ _ r4
    have HE1 := Lib.hid e1
    have HR6 := Lib.hid r6
    have hz1 : p4 + 1 < w1.heap.size := (Array.getElem?_eq_some_iff.1 r6).1
    clear hw1 hp4 e1 r4 r6
    go_wp2_with (first | (at_builtin; refine wpList_app1 rfl 16 18 36 2 rfl Tryz.underlying36 _ 1 8 info2 rfl (by decide) (by decide) w1.heap.size 0 _ _ rfl (World.ownsRow_nil _ _ _ _) w1.heap.size [.int .i64 x] rfl rfl (row_last _ _ _ rfl) (encI_one _) (by omega) (by simp) ?_; intro A9 c9 w3 hown hB3 _; have HW := Lib.hid (plan_own (bs := [x]) rfl hown); have HH := Lib.hid (own_held (enc := encI) (xs := [x]) (fun _ => rfl) rfl hown).1; have HGE := Lib.hid (own_ge hown); have he3 : Ext w1 w3 := Below.trans (ext_alloc w1 _) hB3; have HE3 := Lib.hid (HE1.out.trans he3); have HR3 := Lib.hid (row_ext HR6.out he3); have h70 := worth_any (HB.out.ext HE3.out) A9 1 c9 [x] rfl (by decide) HH.out; clear hown hB3 he3) | (refine h70.mono ?_; rintro e w4 ⟨rfl, e4⟩; have HE4 := Lib.hid (HE3.out.trans e4); have hr4 := row_ext HR3.out e4; have HR4 := Lib.hid hr4; have HW4 := Lib.hid (HW.out.ext e4); have q0 : w4.cell? ⟨p4 + 1, 0, none⟩ = some (.slice none 0 0) := cell_of_row _ _ _ _ _ _ hr4; have q1 : w4.cell? ⟨p4 + 1, 1, none⟩ = some (.int .i64 0) := cell_of_row _ _ _ _ _ _ hr4; have fz0 : w4.frozen? ⟨p4 + 1, 0, none⟩ = false := (by simp [World.frozen?, hr4]); have fz1 : w4.frozen? ⟨p4 + 1, 1, none⟩ = false := (by simp [World.frozen?, hr4]); clear e4 h70 hr4))
    have hEx : Ext w ((w4.setCell ⟨p4 + 1, 0, none⟩ (.slice A9 1 c9)).setCell ⟨p4 + 1, 1, none⟩ (.int .i64 (worthOf os [x]))) := set_kept (set_kept HE4.out (Nat.le_succ_of_le HP.out)) (Nat.le_succ_of_le HP.out)
    have hpl : PlanV ((w4.setCell ⟨p4 + 1, 0, none⟩ (.slice A9 1 c9)).setCell ⟨p4 + 1, 1, none⟩ (.int .i64 (worthOf os [x]))) (.slice A9 1 c9) [x] := (HW4.out.set fun b off m d e => by have := HGE.out b off m d e; omega).set fun b off m d e => by have := HGE.out b off m d e; omega
    refine bodyPost_ret (v := .agg #[.slice A9 1 c9, .int .i64 (worthOf os [x])]) (results_row 103 rfl _ _ (p4 + 1) _ rfl (run_loadVar_row (P := Tryz.prog) _ _ 103 103 _ (0, 0) _ (set2_row w4 (p4 + 1) _ _ _ _ 103 HR4.out) Tryz.underlying103 rfl (by rw [size103]; rfl))) rfl ⟨hEx, _, rfl, hpl, fun b off m d e => Nat.le_trans HE1.out.size (by have := HGE.out b off m d e; first | exact this | exact Nat.le_of_succ_le this)⟩
  · have HX := Lib.hid hx
    clear hx
    go_enter Tryz.func125, Tryz.ntmps125
    go_upto_region 1 with fail
    obtain ⟨p4, hp4⟩ : ∃ p4, w.heap.size = p4 := ⟨_, rfl⟩
    have HP := Lib.hid (show w.heap.size ≤ p4 from Nat.le_of_eq hp4)
    rw [hp4] at r4 r6 ⊢
    have d0 : w1.cell? ⟨p4, 0, none⟩ = some (.slice (some ⟨b, off, none⟩) bs.length cp) := cell_of_row _ _ _ _ _ _ r4
    have HE1 := Lib.hid e1
    have HR6 := Lib.hid r6
    have hz1 : p4 + 1 < w1.heap.size := (Array.getElem?_eq_some_iff.1 r6).1
    have hncz : (bs.length : Int) ≤ (cp : Int) := by omega
    clear hw1 hp4 e1 r4 r6
    go_wp2_with (first | (at_builtin; refine wpList_append_arg _ rfl (.tmp 16) (.tmp 18) 36 rfl 2 i0 (.int .i64 0) 1 8 Tryz.underlying36 HI.out.1 HI.out.2.1 HI.out.2.2.1 HI.out.2.2.2 rfl (by decide) b off bs.length bs.length (bs.map (Value.int .i64)) rfl ?lo ?olds ⟨w1.heap.size, 0, none⟩ 1 1 [.int .i64 x] rfl rfl (cell_one_new _ _ _) (encI_one _) ?spare ?b1 ?b2 ?room ?grow))
    case lo => rw [List.length_map, Nat.mul_one]
    case olds =>
      intro j u hu
      rw [List.getElem?_map, Option.map_eq_some_iff] at hu
      obtain ⟨z, hz, rfl⟩ := hu
      exact (Below.cell (HE1.out.trans (ext_alloc _ _)) (p := ⟨b, off + j, none⟩) hbl).trans (HX.out j z hz)
    case spare => intro h; omega
    case b1 => unfold maxLen; omega
    case b2 => omega
    case room => intro h; omega
    case grow =>
      intro v' w3 hown hG3
      obtain ⟨A9, c9, rfl⟩ := owns_slice hown
      rw [show bs.map (Value.int .i64) ++ [.int .i64 x] = (bs ++ [x]).map (Value.int .i64) from by simp] at hown
      have he3 : Ext w1 w3 := Ext.trans (ext_alloc w1 _) (ext_grow hG3)
      have HW := Lib.hid (plan_own (bs := bs ++ [x]) (by simp) hown)
      have HGE := Lib.hid (own_ge hown)
      have HE3 := Lib.hid (HE1.out.trans he3)
      have HR3 := Lib.hid (row_ext HR6.out he3)
      have hh := (own_held (enc := encI) (n := bs.length + 1) (xs := bs ++ [x]) (fun _ => rfl) (by simp) (by rw [flatI]; exact hown)).1
      have h70 := worth_any (HB.out.ext HE3.out) A9 (bs.length + 1) c9 (bs ++ [x]) (by simp) (by omega) hh
      have hge : w1.heap.size ≤ (w1.alloc (.cells #[.int .i64 x] 2)).heap.size := by simp
      clear hown hG3 he3 hh d0
      go_wp2_with (refine h70.mono ?_; rintro e w4 ⟨rfl, e4⟩; have HE4 := Lib.hid (HE3.out.trans e4); have hr4 := row_ext HR3.out e4; have HR4 := Lib.hid hr4; have HW4 := Lib.hid (HW.out.ext e4); have q0 : w4.cell? ⟨p4 + 1, 0, none⟩ = some (.slice none 0 0) := cell_of_row _ _ _ _ _ _ hr4; have q1 : w4.cell? ⟨p4 + 1, 1, none⟩ = some (.int .i64 0) := cell_of_row _ _ _ _ _ _ hr4; have fz0 : w4.frozen? ⟨p4 + 1, 0, none⟩ = false := (by simp [World.frozen?, hr4]); have fz1 : w4.frozen? ⟨p4 + 1, 1, none⟩ = false := (by simp [World.frozen?, hr4]); clear e4 h70 hr4)
      have hEx : Ext w ((w4.setCell ⟨p4 + 1, 0, none⟩ (.slice A9 (bs.length + 1) c9)).setCell ⟨p4 + 1, 1, none⟩ (.int .i64 (worthOf os (bs ++ [x])))) := set_kept (set_kept HE4.out (Nat.le_succ_of_le HP.out)) (Nat.le_succ_of_le HP.out)
      have hpl : PlanV ((w4.setCell ⟨p4 + 1, 0, none⟩ (.slice A9 (bs.length + 1) c9)).setCell ⟨p4 + 1, 1, none⟩ (.int .i64 (worthOf os (bs ++ [x])))) (.slice A9 (bs.length + 1) c9) (bs ++ [x]) := (HW4.out.set fun b off m d e => by have := HGE.out b off m d e; omega).set fun b off m d e => by have := HGE.out b off m d e; omega
      refine bodyPost_ret (v := .agg #[.slice A9 (bs.length + 1) c9, .int .i64 (worthOf os (bs ++ [x]))]) (results_row 103 rfl _ _ (p4 + 1) _ rfl (run_loadVar_row (P := Tryz.prog) _ _ 103 103 _ (0, 0) _ (set2_row w4 (p4 + 1) _ _ _ _ 103 HR4.out) Tryz.underlying103 rfl (by rw [size103]; rfl))) rfl ⟨hEx, _, rfl, hpl, fun b off m d e => Nat.le_trans HE1.out.size (by have := HGE.out b off m d e; first | exact this | exact Nat.le_of_succ_le this)⟩
end Go.Proofs.YtmlmnljbegcjcaaGreat

/- slices.MaxFunc's region: an element and the greatest one so far are compared. -/
namespace Go.Proofs.YtmlmnljbegcjcaaGreat
open Go.RowKit Go.Shelf

/-- The slots of region 7 of function 126. -/
def mx7D (i : Nat) : Tmp := if i = 0 then 20 else if i = 1 then 21 else if i = 2 then 22 else if i = 3 then 23 else if i = 4 then 24 else if i = 5 then 25 else 26
/-- What each operation yields. -/
def mx7S (b off nn cc ii _p5 : Nat) (uv mv : Value) (pw qw t : Int) (ix : Nat) (v : Value) (_W : World) : Prop :=
  match ix with
  | 0 => v = .func (.func 127) #[] #[]
  | 1 => v = .slice (some ⟨b, off, none⟩) nn cc
  | 2 => v = .int .i64 (ii : Int)
  | 3 => v = .pointer (some ⟨b, off + ii * 2, none⟩)
  | 4 => v = .agg #[uv, .int .i64 pw]
  | 5 => v = .agg #[mv, .int .i64 qw]
  | 6 => v = .int .i64 t
  | _ => True
noncomputable def mx7Reg : Array Oper := (Tryz.f126.body.bind (regionOf · 7)).getD #[]
theorem mx7S_ext {b off nn cc ii p5 : Nat} {uv mv : Value} {pw qw t : Int} : ∀ (i : Nat) (v : Value) (W W' : World), mx7S b off nn cc ii p5 uv mv pw qw t i v W → Below W.heap.size W W' → mx7S b off nn cc ii p5 uv mv pw qw t i v W' := by
  intro i v W W' h e
  match i with
  | 0 => exact h
  | 1 => exact h
  | 2 => exact h
  | 3 => exact h
  | 4 => exact h
  | 5 => exact h
  | 6 => exact h
  | k + 7 => exact trivial
def mx7Ok (b off nn cc ii p5 : Nat) (uv mv : Value) (pw qw t : Int) (Q : Exit → Act → World → Prop) (a : Act) (W : World) (ix : Nat) (o : Oper) : Prop :=
  (∀ j b, o.guard = some (j, b) → a.eval (.tmp (mx7D j)) = .bool b) ∧ o.wp Tryz.prog a W (fun a'' W' => ∃ v, a'' = a.put o.dst v ∧ mx7S b off nn cc ii p5 uv mv pw qw t ix v W' ∧ Below W.heap.size W W') Q
section
variable {b off nn cc ii p5 : Nat} {uv mv : Value} {pw qw t : Int} {Q : Exit → Act → World → Prop} {a : Act} {V W : World} {o : Oper}
set_option maxHeartbeats 1000000 in
theorem mx7_op0 (o1 : a.eval (.tmp 1) = .func (.func 127) #[] #[]) (ho : mx7Reg[0]? = some o) : mx7Ok b off nn cc ii p5 uv mv pw qw t Q a W 0 o := by
  have hop := op_at ho (·.op) (x := Op.move (Operand.tmp 1)) (by kernel_rfl)
  have hgd := op_at ho (·.guard) (x := none) (by kernel_rfl)
  refine ⟨fun j b h => (by rw [hgd] at h; cases h), ?_⟩
  exact specs_value (R := fun v W => mx7S b off nn cc ii p5 uv mv pw qw t 0 v W) (v := .func (.func 127) #[] #[]) (by simp [execOp, hop, go_sem, ev o1]) rfl (Ext.refl W)
set_option maxHeartbeats 1000000 in
theorem mx7_op1 (o0 : a.eval (.tmp 0) = .slice (some ⟨b, off, none⟩) nn cc) (ho : mx7Reg[1]? = some o) : mx7Ok b off nn cc ii p5 uv mv pw qw t Q a W 1 o := by
  have hop := op_at ho (·.op) (x := Op.move (Operand.tmp 0)) (by kernel_rfl)
  have hgd := op_at ho (·.guard) (x := none) (by kernel_rfl)
  refine ⟨fun j b h => (by rw [hgd] at h; cases h), ?_⟩
  exact specs_value (R := fun v W => mx7S b off nn cc ii p5 uv mv pw qw t 1 v W) (v := .slice (some ⟨b, off, none⟩) nn cc) (by simp [execOp, hop, go_sem, ev o0]) rfl (Ext.refl W)
set_option maxHeartbeats 1000000 in
theorem mx7_op2 (o6 : a.eval (.tmp 6) = .int .i64 (ii : Int)) (ho : mx7Reg[2]? = some o) : mx7Ok b off nn cc ii p5 uv mv pw qw t Q a W 2 o := by
  have hop := op_at ho (·.op) (x := Op.move (Operand.tmp 6)) (by kernel_rfl)
  have hgd := op_at ho (·.guard) (x := none) (by kernel_rfl)
  refine ⟨fun j b h => (by rw [hgd] at h; cases h), ?_⟩
  exact specs_value (R := fun v W => mx7S b off nn cc ii p5 uv mv pw qw t 2 v W) (v := .int .i64 (ii : Int)) (by simp [execOp, hop, go_sem, ev o6]) rfl (Ext.refl W)
set_option maxHeartbeats 1000000 in
theorem mx7_op3 (hlt : (ii : Int) < (nn : Int)) (haft : ∀ j, (o.after.any fun e => decide (e.on = j) && Region.binds .any e) = true → mx7S b off nn cc ii p5 uv mv pw qw t j (a.eval (.tmp (mx7D j))) W) (ho : mx7Reg[3]? = some o) : mx7Ok b off nn cc ii p5 uv mv pw qw t Q a W 3 o := by
  have hop := op_at ho (·.op) (x := Op.indexAddr 127 (Operand.tmp 21) (Operand.tmp 22)) (by kernel_rfl)
  have hgd := op_at ho (·.guard) (x := none) (by kernel_rfl)
  have e1 : a.eval (.tmp 21) = .slice (some ⟨b, off, none⟩) nn cc := haft 1 (op_at ho (fun o => o.after.any fun e => decide (e.on = 1) && Region.binds .any e) (x := true) (by kernel_rfl))
  have e2 : a.eval (.tmp 22) = .int .i64 (ii : Int) := haft 2 (op_at ho (fun o => o.after.any fun e => decide (e.on = 2) && Region.binds .any e) (x := true) (by kernel_rfl))
  refine ⟨fun j b h => (by rw [hgd] at h; cases h), ?_⟩
  exact specs_value (R := fun v W => mx7S b off nn cc ii p5 uv mv pw qw t 3 v W) (v := .pointer (some ⟨b, off + ii * 2, none⟩)) (by simp [execOp, hop, go_sem, ev e1, ev e2, hlt]) rfl (Ext.refl W)
set_option maxHeartbeats 1000000 in
theorem mx7_op4 (c0 : ∀ W, Ext V W → W.cell? ⟨b, off + ii * 2, none⟩ = some uv) (c1 : ∀ W, Ext V W → W.cell? ⟨b, off + ii * 2 + 1, none⟩ = some (.int .i64 pw)) (hB : Ext V W) (haft : ∀ j, (o.after.any fun e => decide (e.on = j) && Region.binds .any e) = true → mx7S b off nn cc ii p5 uv mv pw qw t j (a.eval (.tmp (mx7D j))) W) (ho : mx7Reg[4]? = some o) : mx7Ok b off nn cc ii p5 uv mv pw qw t Q a W 4 o := by
  have hop := op_at ho (·.op) (x := Op.load 103 (Operand.tmp 23)) (by kernel_rfl)
  have hgd := op_at ho (·.guard) (x := none) (by kernel_rfl)
  have e3 : a.eval (.tmp 23) = .pointer (some ⟨b, off + ii * 2, none⟩) := haft 3 (op_at ho (fun o => o.after.any fun e => decide (e.on = 3) && Region.binds .any e) (x := true) (by kernel_rfl))
  refine ⟨fun j b h => (by rw [hgd] at h; cases h), ?_⟩
  have c0' := c0 W hB
  have c1' := c1 W hB
  exact specs_value (R := fun v W => mx7S b off nn cc ii p5 uv mv pw qw t 4 v W) (v := .agg #[uv, .int .i64 pw]) (by simp [execOp, hop, go_sem, ev e3, c0', c1']) rfl (Ext.refl W)
set_option maxHeartbeats 1000000 in
theorem mx7_op5 (o5 : a.eval (.tmp 5) = .pointer (some ⟨p5, 0, none⟩)) (d0 : ∀ W, Ext V W → W.cell? ⟨p5, 0, none⟩ = some mv) (d1 : ∀ W, Ext V W → W.cell? ⟨p5, 1, none⟩ = some (.int .i64 qw)) (hB : Ext V W) (ho : mx7Reg[5]? = some o) : mx7Ok b off nn cc ii p5 uv mv pw qw t Q a W 5 o := by
  have hop := op_at ho (·.op) (x := Op.load 103 (Operand.tmp 5)) (by kernel_rfl)
  have hgd := op_at ho (·.guard) (x := none) (by kernel_rfl)
  refine ⟨fun j b h => (by rw [hgd] at h; cases h), ?_⟩
  have d0' := d0 W hB
  have d1' := d1 W hB
  exact specs_value (R := fun v W => mx7S b off nn cc ii p5 uv mv pw qw t 5 v W) (v := .agg #[mv, .int .i64 qw]) (by simp [execOp, hop, go_sem, ev o5, d0', d1']) rfl (Ext.refl W)
set_option maxHeartbeats 1000000 in
theorem mx7_op6 (k1 : ∀ W, Ext V W → Calls Tryz.prog 127 #[.agg #[uv, .int .i64 pw], .agg #[mv, .int .i64 qw]] W fun e w' => e = .returned (.int .i64 t) ∧ Ext W w') (eg : ∀ args w, (callFunc 127 args).run Tryz.prog w = .ok (.enter 127 args) w) (hB : Ext V W) (haft : ∀ j, (o.after.any fun e => decide (e.on = j) && Region.binds .any e) = true → mx7S b off nn cc ii p5 uv mv pw qw t j (a.eval (.tmp (mx7D j))) W) (ho : mx7Reg[6]? = some o) : mx7Ok b off nn cc ii p5 uv mv pw qw t Q a W 6 o := by
  have hop := op_at ho (·.op) (x := Op.call { callee := Callee.value (Operand.tmp 20), args := #[Operand.tmp 24, Operand.tmp 25], argTypes := #[103, 103] }) (by kernel_rfl)
  have hgd := op_at ho (·.guard) (x := none) (by kernel_rfl)
  have e0 : a.eval (.tmp 20) = .func (.func 127) #[] #[] := haft 0 (op_at ho (fun o => o.after.any fun e => decide (e.on = 0) && Region.binds .any e) (x := true) (by kernel_rfl))
  have e4 : a.eval (.tmp 24) = .agg #[uv, .int .i64 pw] := haft 4 (op_at ho (fun o => o.after.any fun e => decide (e.on = 4) && Region.binds .any e) (x := true) (by kernel_rfl))
  have e5 : a.eval (.tmp 25) = .agg #[mv, .int .i64 qw] := haft 5 (op_at ho (fun o => o.after.any fun e => decide (e.on = 5) && Region.binds .any e) (x := true) (by kernel_rfl))
  refine ⟨fun j b h => (by rw [hgd] at h; cases h), ?_⟩
  refine specs_call (R := fun v W => mx7S b off nn cc ii p5 uv mv pw qw t 6 v W) (f := 127) (args := #[.agg #[uv, .int .i64 pw], .agg #[mv, .int .i64 qw]]) (by simp [execOp, hop, go_sem, ev e0, ev e4, ev e5, eg]) ((k1 W hB).mono ?_)
  rintro e w' ⟨rfl, h3⟩
  exact ⟨_, rfl, rfl, h3⟩
set_option maxRecDepth 100000 in
set_option maxHeartbeats 4000000 in
/-- Region 7 of function 126. -/
theorem mx7_wp {id : Nat} (hlen : a.tmps.size = 33) (o0 : a.eval (.tmp 0) = .slice (some ⟨b, off, none⟩) nn cc) (o1 : a.eval (.tmp 1) = .func (.func 127) #[] #[]) (o5 : a.eval (.tmp 5) = .pointer (some ⟨p5, 0, none⟩)) (o6 : a.eval (.tmp 6) = .int .i64 (ii : Int)) (hlt : (ii : Int) < (nn : Int)) (c0 : ∀ W, Ext V W → W.cell? ⟨b, off + ii * 2, none⟩ = some uv) (c1 : ∀ W, Ext V W → W.cell? ⟨b, off + ii * 2 + 1, none⟩ = some (.int .i64 pw)) (d0 : ∀ W, Ext V W → W.cell? ⟨p5, 0, none⟩ = some mv) (d1 : ∀ W, Ext V W → W.cell? ⟨p5, 1, none⟩ = some (.int .i64 qw)) (k1 : ∀ W, Ext V W → Calls Tryz.prog 127 #[.agg #[uv, .int .i64 pw], .agg #[mv, .int .i64 qw]] W fun e w' => e = .returned (.int .i64 t) ∧ Ext W w') (eg : ∀ args w, (callFunc 127 args).run Tryz.prog w = .ok (.enter 127 args) w) (K : (∀ W, Ext V W → wpList Tryz.prog mx7Reg Q (mx7Reg.toList.drop 7) (puts a [(20, .func (.func 127) #[] #[]), (21, .slice (some ⟨b, off, none⟩) nn cc), (22, .int .i64 (ii : Int)), (23, .pointer (some ⟨b, off + ii * 2, none⟩)), (24, .agg #[uv, .int .i64 pw]), (25, .agg #[mv, .int .i64 qw]), (26, .int .i64 t)]) W)) : (Code.region id mx7Reg true).wp Tryz.prog Q a V := by
  refine wp_region_specs_sink (ops := mx7Reg) 7 (mx7S b off nn cc ii p5 uv mv pw qw t) (Ext V) (by kernel_rfl) (by rw [hlen]; kernel_rfl) (by kernel_rfl) ⟨rfl, rfl, rfl, Nat.le_refl _, fun _ _ => rfl⟩ (fun _ _ h e => h.trans e) mx7S_ext mx7D (by kernel_rfl) ?_ ?_
  · intro i o hi ho a' W hB hsz hold haft
    match i, hi with
    | 0, _ => exact mx7_op0 ((hold 1 (by kernel_rfl)).trans o1) ho
    | 1, _ => exact mx7_op1 ((hold 0 (by kernel_rfl)).trans o0) ho
    | 2, _ => exact mx7_op2 ((hold 6 (by kernel_rfl)).trans o6) ho
    | 3, _ => exact mx7_op3 hlt haft ho
    | 4, _ => exact mx7_op4 c0 c1 hB haft ho
    | 5, _ => exact mx7_op5 ((hold 5 (by kernel_rfl)).trans o5) d0 d1 hB ho
    | 6, _ => exact mx7_op6 k1 eg hB haft ho
    | m + 7, h => exact absurd h (by omega)
  · intro a1 W hB hsz hdf hold hS
    have hall : ∀ zz, zz ∈ ([(20, .func (.func 127) #[] #[]), (21, .slice (some ⟨b, off, none⟩) nn cc), (22, .int .i64 (ii : Int)), (23, .pointer (some ⟨b, off + ii * 2, none⟩)), (24, .agg #[uv, .int .i64 pw]), (25, .agg #[mv, .int .i64 qw]), (26, .int .i64 t)] : List (Tmp × Value)) → zz.1 < a.tmps.size ∧ a1.eval (.tmp zz.1) = zz.2 := by
      intro zz hz
      rw [hlen]
      simp only [List.mem_cons, List.not_mem_nil, or_false] at hz
      rcases hz with rfl | rfl | rfl | rfl | rfl | rfl | rfl
      · exact ⟨(show (20 : Nat) < 33 by omega), hS 0 (by omega)⟩
      · exact ⟨(show (21 : Nat) < 33 by omega), hS 1 (by omega)⟩
      · exact ⟨(show (22 : Nat) < 33 by omega), hS 2 (by omega)⟩
      · exact ⟨(show (23 : Nat) < 33 by omega), hS 3 (by omega)⟩
      · exact ⟨(show (24 : Nat) < 33 by omega), hS 4 (by omega)⟩
      · exact ⟨(show (25 : Nat) < 33 by omega), hS 5 (by omega)⟩
      · exact ⟨(show (26 : Nat) < 33 by omega), hS 6 (by omega)⟩
    have ha := act_puts hsz hdf hall (fun t ht => hold t (all_ne_of (l := [(20, .func (.func 127) #[] #[]), (21, .slice (some ⟨b, off, none⟩) nn cc), (22, .int .i64 (ii : Int)), (23, .pointer (some ⟨b, off + ii * 2, none⟩)), (24, .agg #[uv, .int .i64 pw]), (25, .agg #[mv, .int .i64 qw]), (26, .int .i64 t)]) (by kernel_rfl) ht))
    rw [ha]
    exact K W  hB 
end
end Go.Proofs.YtmlmnljbegcjcaaGreat

/- slices.MaxFunc of plans; best. -/
namespace Go.Proofs.YtmlmnljbegcjcaaGreat
open Go.RowKit Go.Shelf
attribute [local irreducible] bitCells

/-- Plans in memory. -/
def PlansAt (W : World) (b off : Nat) (vs : List (Value × Int)) : Prop := b < W.heap.size ∧ ∀ j x, vs[j]? = some x → W.cell? ⟨b, off + j * 2, none⟩ = some x.1 ∧ W.cell? ⟨b, off + j * 2 + 1, none⟩ = some (.int .i64 x.2) ∧ ∃ A n c, x.1 = .slice A n c
theorem PlansAt.ext {W W' : World} {b off : Nat} {vs : List (Value × Int)} (h : PlansAt W b off vs) (e : Ext W W') : PlansAt W' b off vs :=
  ⟨Nat.lt_of_lt_of_le h.1 e.size, fun j x hx => ⟨(Below.cell e (p := ⟨b, off + j * 2, none⟩) h.1).trans (h.2 j x hx).1, (Below.cell e (p := ⟨b, off + j * 2 + 1, none⟩) h.1).trans (h.2 j x hx).2.1, (h.2 j x hx).2.2⟩⟩
def vmax (m x : Value × Int) : Value × Int := if m.2 < x.2 then x else m
def maxV : List (Value × Int) → Value × Int
  | [] => (.slice none 0 0, 0)
  | x :: vs => vs.foldl vmax x
def maxVTo (vs : List (Value × Int)) (k : Nat) : Value × Int := maxV (vs.take k)
theorem maxVTo_succ {vs : List (Value × Int)} {k : Nat} (h1 : 1 ≤ k) (hk : k < vs.length) : maxVTo vs (k + 1) = vmax (maxVTo vs k) vs[k] := by
  unfold maxVTo
  rw [List.take_succ_eq_append_getElem hk]
  cases vs with
  | nil => simp at hk
  | cons y vs =>
    obtain ⟨m, rfl⟩ : ∃ m, k = m + 1 := ⟨k - 1, by omega⟩
    rw [List.take_succ_cons]
    simp only [List.cons_append, maxV, List.foldl_append, List.foldl_cons, List.foldl_nil, List.getElem_cons_succ]
theorem maxV_mem : ∀ {vs : List (Value × Int)}, vs ≠ [] → maxV vs ∈ vs := by
  intro vs h
  cases vs with
  | nil => exact absurd rfl h
  | cons x vs =>
    have : ∀ (l : List (Value × Int)) (y : Value × Int), l.foldl vmax y = y ∨ l.foldl vmax y ∈ l := by
      intro l
      induction l with
      | nil => intro y; exact .inl rfl
      | cons z l ih =>
        intro y
        rw [List.foldl_cons]
        rcases ih (vmax y z) with e | e
        · rw [e]
          unfold vmax
          split
          · exact .inr (by simp)
          · exact .inl rfl
        · exact .inr (List.mem_cons_of_mem _ e)
    rcases this vs x with e | e
    · show vs.foldl vmax x ∈ x :: vs
      rw [e]; simp
    · exact List.mem_cons_of_mem _ e
theorem cmpI_pos {p q : Int} : 0 < cmpI p q ↔ q < p := by
  unfold cmpI
  split
  · omega
  · split <;> omega
theorem e127 : ∀ args w, (callFunc 127 args).run Tryz.prog w = .ok (.enter 127 args) w := enters_of Tryz.func127 (by kernel_rfl) rfl

set_option maxRecDepth 100000 in
set_option maxHeartbeats 4000000 in
theorem max_any {b off n c : Nat} {vs : List (Value × Int)} {w : World} (hn : n = vs.length) (h1 : 1 ≤ n) (h2 : n ≤ 4096) (h : PlansAt w b off vs) :
    Calls Tryz.prog 126 #[.slice (some ⟨b, off, none⟩) n c, .func (.func 127) #[] #[]] w fun e w' => e = .returned (.agg #[(maxV vs).1, .int .i64 (maxV vs).2]) ∧ Ext w w' := by
  have HH := Lib.hid h
  have HN := Lib.hid hn
  have hnz : ¬ (n : Int) < 1 := by omega
  have hn0 : (0 : Int) < (n : Int) := by omega
  have hl0 : 0 < vs.length := by omega
  obtain ⟨c0, c1, A0, n0, cc0, hv0⟩ := h.2 0 vs[0] (List.getElem?_eq_getElem hl0)
  have hm1 : maxVTo vs 1 = vs[0] := by
    cases vs with
    | nil => simp at hl0
    | cons x vs => rfl
  have hall : maxVTo vs n = maxV vs := by unfold maxVTo; rw [hn, List.take_length]
  obtain ⟨w1, hw1⟩ : ∃ w1, w.alloc (.cells #[.slice none 0 0, .int .i64 0] 103) = w1 := ⟨_, rfl⟩
  have e1 : Ext w w1 := by rw [← hw1]; exact ext_alloc _ _
  have r4 : w1.heap[w.heap.size]? = some (.cells #[.slice none 0 0, .int .i64 0] 103 (0, 0)) := by rw [← hw1]; exact row_last _ _ _ rfl
  rw [← hm1] at c0 c1 hv0
  obtain ⟨m, hm⟩ : ∃ m, maxVTo vs 1 = m := ⟨_, rfl⟩
  rw [hm] at c0 c1 hv0
  obtain ⟨mv, mw⟩ := m
  simp only at c0 c1 hv0
  subst hv0
  have d0 := (Below.cell e1 (p := ⟨b, off + 0 * 2, none⟩) h.1).trans c0
  have d1 := (Below.cell e1 (p := ⟨b, off + 0 * 2 + 1, none⟩) h.1).trans c1
  simp only [Nat.zero_mul, Nat.add_zero] at d0 d1
  have HM1 := Lib.hid hm
  have HAL := Lib.hid hall
  clear hn h c0 c1 hm1 hm hall
  go_enter Tryz.func126, Tryz.ntmps126
  go_upto_region 4 with fail
  obtain ⟨p4, hp4⟩ : ∃ p4, w.heap.size = p4 := ⟨_, rfl⟩
  obtain ⟨p5, hp5⟩ : ∃ p5, w1.heap.size = p5 := ⟨_, rfl⟩
  obtain ⟨w2, hw2⟩ : ∃ w2, w1.alloc (.cells #[.slice A0 n0 cc0, .int .i64 mw] 103) = w2 := ⟨_, rfl⟩
  have e2 : Ext w w2 := by rw [← hw2]; exact e1.trans (ext_alloc _ _)
  have r5 : w2.heap[p5]? = some (.cells #[.slice A0 n0 cc0, .int .i64 mw] 103 (0, 0)) := by rw [← hw2]; exact row_last _ _ _ hp5.symm
  have r4' : w2.heap[p4]? = some (.cells #[.slice none 0 0, .int .i64 0] 103 (0, 0)) := by rw [← hw2, ← hp4]; exact row_alloc _ _ _ _ r4
  have hlt45 : p4 < p5 := by rw [← hp4, ← hp5]; exact (Array.getElem?_eq_some_iff.1 r4).1
  have HP := Lib.hid (show w.heap.size ≤ p4 ∧ p4 < p5 from ⟨Nat.le_of_eq hp4, hlt45⟩)
  rw [hw2, hp4, hp5]
  have HE2 := Lib.hid e2
  have HR5 := Lib.hid r5
  have HR4 := Lib.hid r4'
  clear hw2 hp4 hp5 e2 r5 r4' e1 r4 hw1 d0 d1 hlt45
  go_wp2
  go_loopw [6] (fun i wr => ∃ k : Nat, 1 ≤ k ∧ k ≤ n ∧ i = .int .i64 k ∧ Hid (Ext w wr) ∧ Hid (wr.heap[p4]? = some (.cells #[.slice none 0 0, .int .i64 0] 103 (0, 0))) ∧ Hid ((∃ A n c, (maxVTo vs k).1 = .slice A n c) ∧ wr.heap[p5]? = some (.cells #[(maxVTo vs k).1, .int .i64 (maxVTo vs k).2] 103 (0, 0)))) (fun i _ => n - (intOf i).toNat)
  case atStart => exact ⟨1, Nat.le_refl _, h1, rfl, HE2, HR4, Lib.hid (by rw [HM1.out]; exact ⟨⟨_, _, _, rfl⟩, HR5.out⟩)⟩
  case round =>
    obtain ⟨k, hk1, hk, rfl, hE, hR4, hR5⟩ := hrel
    clear HE2 HR4 HR5
    by_cases hlt : k < n
    · have hltz : (k : Int) < (n : Int) := by omega
      have hkl : k < vs.length := by rw [← HN.out]; exact hlt
      have hPA := HH.out.ext hE.out
      have hx := hPA.2 k vs[k] (List.getElem?_eq_getElem hkl)
      have hsu := maxVTo_succ hk1 hkl
      obtain ⟨⟨mA, mn, mc, hms⟩, hr5⟩ := hR5.out
      obtain ⟨m, hm⟩ : ∃ m, maxVTo vs k = m := ⟨_, rfl⟩
      obtain ⟨x, hxx⟩ : ∃ x, vs[k] = x := ⟨_, rfl⟩
      rw [hm] at hms hr5 hsu
      rw [hxx] at hx hsu
      obtain ⟨mv, mw'⟩ := m
      obtain ⟨xv, xw⟩ := x
      obtain ⟨x0, x1, xA, xn, xc, hxs⟩ := hx
      simp only at hms hr5 x0 x1 hxs
      subst hms
      subst hxs
      have h127 := fun W => cmp127_any (.slice xA xn xc) (.slice mA mn mc) xw mw' W ⟨_, _, _, rfl⟩ ⟨_, _, _, rfl⟩
      have HSU := Lib.hid hsu
      have HR := Lib.hid hr5
      have HX := Lib.hid (And.intro x0 (And.intro x1 hPA.1))
      clear hm hxx hsu hr5 x0 x1 hPA hR5
      go_upto_region 7 with fail
      refine mx7_wp (b := b) (off := off) (nn := n) (cc := c) (ii := k) (p5 := p5) (uv := .slice xA xn xc) (mv := .slice mA mn mc) (pw := xw) (qw := mw') (t := cmpI xw mw') rfl rfl rfl rfl rfl hltz (fun W hW => (Below.cell hW (p := ⟨b, off + k * 2, none⟩) HX.out.2.2).trans HX.out.1) (fun W hW => (Below.cell hW (p := ⟨b, off + k * 2 + 1, none⟩) HX.out.2.2).trans HX.out.2.1) (fun W hW => cell_of_row _ _ _ _ _ _ (row_ext HR.out hW)) (fun W hW => cell_of_row _ _ _ _ _ _ (row_ext HR.out hW)) (fun W _ => h127 W) e127 ?_
      intro W6 e6
      obtain ⟨o7, hdr, h7⟩ : ∃ o7, mx7Reg.toList.drop 7 = [o7] ∧ mx7Reg[7]? = some o7 := by
        have hs : mx7Reg.size = 8 := by kernel_rfl
        refine ⟨mx7Reg[7], ?_, Array.getElem?_eq_getElem _⟩
        rw [List.drop_eq_getElem_cons (by simp [hs]), List.drop_eq_nil_of_le (by simp [hs])]
        simp
      rw [hdr]
      simp only [puts, List.foldl_cons, List.foldl_nil, Act.put, List.setIfInBounds_toArray, List.set_cons_succ, List.set_cons_zero]
      have hop := op_at h7 (·.op) (x := Op.binOp BinOp.gtr 3 (Operand.tmp 26) (Operand.const (Value.int IntKind.i64 0)) 3) (by kernel_rfl)
      refine wpList_one (v := .bool (decide (0 < cmpI xw mw'))) (op_at h7 (·.guard) (x := none) (by kernel_rfl)) (by simp [execOp, hop, go_sem]) ?_
      rw [show o7.dst = some 27 from op_at h7 (·.dst) (by kernel_rfl)]
      simp only [Act.put, List.setIfInBounds_toArray, List.set_cons_succ, List.set_cons_zero]
      have HE6 := Lib.hid (show Ext wr W6 from e6)
      clear e6 hdr h7 hop h127
      by_cases hc : mw' < xw
      · rw [decide_eq_true (cmpI_pos.2 hc)]
        have hsu := HSU.out
        rw [show vmax (.slice mA mn mc, mw') (.slice xA xn xc, xw) = (.slice xA xn xc, xw) from if_pos hc] at hsu
        replace HSU := Lib.hid hsu
        have x0 := (Below.cell HE6.out (p := ⟨b, off + k * 2, none⟩) HX.out.2.2).trans HX.out.1
        have x1 := (Below.cell HE6.out (p := ⟨b, off + k * 2 + 1, none⟩) HX.out.2.2).trans HX.out.2.1
        have hr5 := row_ext HR.out HE6.out
        have y0 : W6.cell? ⟨p5, 0, none⟩ = some (.slice mA mn mc) := cell_of_row _ _ _ _ _ _ hr5
        have y1 : W6.cell? ⟨p5, 1, none⟩ = some (.int .i64 mw') := cell_of_row _ _ _ _ _ _ hr5
        have f0 : W6.frozen? ⟨p5, 0, none⟩ = false := by simp [World.frozen?, hr5]
        have f1 : W6.frozen? ⟨p5, 1, none⟩ = false := by simp [World.frozen?, hr5]
        have HR6 := Lib.hid hr5
        clear hsu hc hr5
        go_wp2
        go_roundw
        case measure => simp [intOf]; omega
        case rel =>
          refine ⟨k + 1, by omega, by omega, by go_num, Lib.hid (set_kept (set_kept (hE.out.trans HE6.out) (by have := HP.out; omega)) (by have := HP.out; omega)), Lib.hid ?_, Lib.hid ?_⟩
          · have hne : p4 ≠ p5 := by have := HP.out; omega
            exact (heap_set_other _ _ _ _ _ hne).trans ((heap_set_other _ _ _ _ _ hne).trans (row_ext hR4.out HE6.out))
          · rw [HSU.out]
            exact ⟨⟨_, _, _, rfl⟩, set2_row _ _ _ _ _ _ _ HR6.out⟩
      · rw [decide_eq_false (fun h => hc (cmpI_pos.1 h))]
        have hsu := HSU.out
        rw [show vmax (.slice mA mn mc, mw') (.slice xA xn xc, xw) = (.slice mA mn mc, mw') from if_neg hc] at hsu
        replace HSU := Lib.hid hsu
        clear hsu hc
        go_wp2
        go_roundw
        case measure => simp [intOf]; omega
        case rel =>
          refine ⟨k + 1, by omega, by omega, by go_num, Lib.hid (hE.out.trans HE6.out), Lib.hid (row_ext hR4.out HE6.out), Lib.hid ?_⟩
          rw [HSU.out]
          exact ⟨⟨_, _, _, rfl⟩, row_ext HR.out HE6.out⟩
    · have hltz : ¬ (k : Int) < (n : Int) := by omega
      obtain rfl : k = n := by omega
      obtain ⟨⟨mA, mn, mc, hms⟩, hr5⟩ := hR5.out
      rw [HAL.out] at hms hr5
      obtain ⟨m, hm⟩ : ∃ m, maxV vs = m := ⟨_, rfl⟩
      have HM := Lib.hid hm
      rw [hm] at hms hr5
      obtain ⟨mv, mw'⟩ := m
      simp only at hms hr5
      subst hms
      have y0 : wr.cell? ⟨p5, 0, none⟩ = some (.slice mA mn mc) := cell_of_row _ _ _ _ _ _ hr5
      have y1 : wr.cell? ⟨p5, 1, none⟩ = some (.int .i64 mw') := cell_of_row _ _ _ _ _ _ hr5
      have z0 : wr.cell? ⟨p4, 0, none⟩ = some (.slice none 0 0) := cell_of_row _ _ _ _ _ _ hR4.out
      have z1 : wr.cell? ⟨p4, 1, none⟩ = some (.int .i64 0) := cell_of_row _ _ _ _ _ _ hR4.out
      have f0 : wr.frozen? ⟨p4, 0, none⟩ = false := by simp [World.frozen?, hR4.out]
      have f1 : wr.frozen? ⟨p4, 1, none⟩ = false := by simp [World.frozen?, hR4.out]
      clear hm hr5 hR5
      go_wp2
      refine bodyPost_ret (v := .agg #[.slice mA mn mc, .int .i64 mw']) (results_row 103 rfl _ _ p4 _ rfl (run_loadVar_row (P := Tryz.prog) _ _ 103 103 _ (0, 0) _ (set2_row wr p4 _ _ _ _ 103 hR4.out) Tryz.underlying103 rfl (by rw [size103]; rfl))) rfl ⟨by rw [HM.out], set_kept (set_kept hE.out HP.out.1) HP.out.1⟩
end Go.Proofs.YtmlmnljbegcjcaaGreat

/- best: the first plan that is worth the most. -/
namespace Go.Proofs.YtmlmnljbegcjcaaGreat
open Go.RowKit Go.Shelf
attribute [local irreducible] bitCells
set_option maxRecDepth 100000 in
set_option maxHeartbeats 2000000 in
theorem bestOf_any {b off n c : Nat} {vs : List (Value × Int)} {w : World} (hn : n = vs.length) (h1 : 1 ≤ n) (h2 : n ≤ 4096) (h : PlansAt w b off vs) :
    Calls Tryz.prog 100 #[.slice (some ⟨b, off, none⟩) n c] w fun e w' => e = .returned (.agg #[(maxV vs).1, .int .i64 (maxV vs).2]) ∧ Ext w w' := by
  have hsl : ∃ A m d, (maxV vs).1 = .slice A m d := by
    have hne : vs ≠ [] := by rintro rfl; simp at hn; omega
    obtain ⟨j, hj, e⟩ := List.getElem_of_mem (maxV_mem hne)
    rw [← e]
    exact (h.2 j vs[j] (List.getElem?_eq_getElem hj)).2.2
  obtain ⟨w1, hw1⟩ : ∃ w1, w.alloc (.cells #[.slice none 0 0, .int .i64 0] 103) = w1 := ⟨_, rfl⟩
  have e1 : Ext w w1 := by rw [← hw1]; exact ext_alloc _ _
  have r2 : w1.heap[w.heap.size]? = some (.cells #[.slice none 0 0, .int .i64 0] 103 (0, 0)) := by rw [← hw1]; exact row_last _ _ _ rfl
  have h126 := max_any (c := c) hn h1 h2 (h.ext e1)
  obtain ⟨m, hm⟩ : ∃ m, maxV vs = m := ⟨_, rfl⟩
  rw [hm] at h126 hsl
  have HM := Lib.hid hm
  obtain ⟨mv, mw⟩ := m
  obtain ⟨A, k, d, hs⟩ := hsl
  simp only at hs h126
  subst hs
  obtain ⟨p, hp⟩ : ∃ p, w.heap.size = p := ⟨_, rfl⟩
  have HP := Lib.hid (Nat.le_of_eq hp)
  rw [hp] at r2
  have HE1 := Lib.hid e1
  have HR := Lib.hid r2
  clear hm e1 r2 h hn
  go_enter Tryz.func100, Tryz.ntmps100
  go_wp2_with (refine h126.mono ?_; rintro e w2 ⟨rfl, e2⟩; have HE2 := Lib.hid (HE1.out.trans e2); have hr2 := row_ext HR.out e2; have HR2 := Lib.hid hr2; have q0 : w2.cell? ⟨p, 0, none⟩ = some (.slice none 0 0) := cell_of_row _ _ _ _ _ _ hr2; have q1 : w2.cell? ⟨p, 1, none⟩ = some (.int .i64 0) := cell_of_row _ _ _ _ _ _ hr2; have fz0 : w2.frozen? ⟨p, 0, none⟩ = false := (by simp [World.frozen?, hr2]); have fz1 : w2.frozen? ⟨p, 1, none⟩ = false := (by simp [World.frozen?, hr2]); clear e2 h126 hr2)
  refine bodyPost_ret (v := .agg #[.slice A k d, .int .i64 mw]) (results_row 103 rfl _ _ p _ rfl (run_loadVar_row (P := Tryz.prog) _ _ 103 103 _ (0, 0) _ (set2_row w2 p _ _ _ _ 103 HR2.out) Tryz.underlying103 rfl (by rw [size103]; rfl))) rfl ⟨by rw [HM.out], set_kept (set_kept HE2.out HP.out) HP.out⟩
end Go.Proofs.YtmlmnljbegcjcaaGreat

/- The small functions of the verifier's own Go text, and of the reference. -/
namespace Go.Proofs.YtmlmnljbegcjcaaGreat
open Go.RowKit Go.Shelf

theorem held_get {w : World} {A : Option Addr} {xs : List Int} (hh : Held w w.heap.size 1 encI A xs) {W : World} (hB : Below w.heap.size w W) {k : Nat} (hk : k < xs.length) : ∃ b off, A = some ⟨b, off, none⟩ ∧ W.cell? ⟨b, off + k, none⟩ = some (.int .i64 xs[k]) := by
  rcases hh with h | ⟨b, off, rfl, hlt', hc⟩
  · simp [h] at hk
  · refine ⟨b, off, rfl, ?_⟩
    have h2 := (hB.cell (p := ⟨b, off + k * 1 + 0, none⟩) hlt').trans (hc k xs[k] (List.getElem?_eq_getElem hk) 0 _ rfl)
    simpa using h2

set_option maxHeartbeats 400000 in
theorem ints_quiet (A A' : Option Addr) (n c n' c' : Nat) (xs ys : List Int) (w : World) (hnn : n = xs.length) (hnn' : n' = ys.length)
    (hn : n ≤ 9223372036854775807) (hn' : n' ≤ 9223372036854775807) (hh : Held w w.heap.size 1 encI A xs) (hh' : Held w w.heap.size 1 encI A' ys) :
    Calls Tryz.prog 22 #[.slice A n c, .slice A' n' c'] w fun e w' => e = .returned (.bool (decide (xs = ys))) ∧ ∃ m, w' = w.drewN m := by
  have HN := Lib.hid (And.intro hnn hnn')
  clear hnn hnn'
  by_cases hl : n = n'
  · subst hl
    go_enter Tryz.func22, Tryz.ntmps22
    go_wp2
    go_loopw [4, 5] (fun _ i wr => ∃ k : Nat, k ≤ n ∧ i = .int .i64 k ∧ Hid (∃ m, wr = w.drewN m) ∧ Hid (∀ j, j < k → ∀ (h1 : j < xs.length) (h2 : j < ys.length), xs[j] = ys[j])) (fun _ i _ => n - (intOf i).toNat)
    case atStart => exact ⟨0, Nat.zero_le _, rfl, Lib.hid ⟨0, rfl⟩, Lib.hid (fun j hj => absurd hj (by omega))⟩
    case round =>
      obtain ⟨k, hk, rfl, hD, hA⟩ := hrel
      have hB : Hid (Below w.heap.size w wr) := Lib.hid (by obtain ⟨m, rfl⟩ := hD.out; exact bdrewN (Below.refl _ _) m)
      by_cases hlt : k < n
      · have hltz : (k : Int) < (n : Int) := by omega
        have hkx : k < xs.length := by rw [← HN.out.1]; exact hlt
        have hky : k < ys.length := by rw [← HN.out.2]; exact hlt
        obtain ⟨b, off, rfl, hc⟩ := held_get hh hB.out hkx
        obtain ⟨b', off', rfl, hc'⟩ := held_get hh' hB.out hky
        obtain ⟨x, hx⟩ : ∃ x, xs[k] = x := ⟨_, rfl⟩
        obtain ⟨y, hy⟩ : ∃ y, ys[k] = y := ⟨_, rfl⟩
        rw [hx] at hc
        rw [hy] at hc'
        have HXY := Lib.hid (And.intro hx hy)
        clear hx hy hh hh'
        by_cases hxy : x = y
        · have hxy2 : (x != y) = false := by simp [hxy]
          go_wp2
          go_quiet (fail)
          go_wp2
          go_roundw
          case measure => simp [intOf]; omega
          case rel =>
            refine ⟨k + 1, by omega, by go_num, Lib.hid (by obtain ⟨m, rfl⟩ := hD.out; exact ⟨m + nq, by rw [World.drewN_drewN]⟩), Lib.hid fun j hj h1 h2 => ?_⟩
            by_cases e : j = k
            · subst e
              rw [HXY.out.1, HXY.out.2, hxy]
            · exact hA.out j (by omega) h1 h2
        · have hxy2 : (x != y) = true := by simp [hxy]
          go_wp2
          go_quiet (fail)
          go_wp2
          go_ret
          refine ⟨ret_bool ?_, by obtain ⟨m, rfl⟩ := hD.out; exact ⟨m + nq, by rw [World.drewN_drewN]⟩⟩
          have : xs ≠ ys := fun e => by
            subst e
            exact hxy (HXY.out.1.symm.trans HXY.out.2)
          simp [this]
      · have hltz : ¬ (k : Int) < (n : Int) := by omega
        go_wp2
        go_ret
        refine ⟨ret_bool ?_, hD.out⟩
        have : xs = ys := List.ext_getElem (by rw [← HN.out.1, HN.out.2]) fun j h1 h2 => hA.out j (by have := HN.out.1; omega) h1 h2
        simp [this]
  · have hlz : ((n : Int) != (n' : Int)) = true := by simp; omega
    have hne : xs ≠ ys := fun e => hl (by rw [HN.out.1, HN.out.2, e])
    have HNE := Lib.hid hne
    clear hne hh hh'
    go_enter Tryz.func22, Tryz.ntmps22
    go_wp2
    go_ret
    exact ⟨ret_bool (by simp [HNE.out]), 0, rfl⟩

theorem ints_any (A A' : Option Addr) (n c n' c' : Nat) (xs ys : List Int) (w : World) (hnn : n = xs.length) (hnn' : n' = ys.length)
    (hn : n ≤ 9223372036854775807) (hn' : n' ≤ 9223372036854775807) (hh : Held w w.heap.size 1 encI A xs) (hh' : Held w w.heap.size 1 encI A' ys) :
    Calls Tryz.prog 22 #[.slice A n c, .slice A' n' c'] w fun e w' => e = .returned (.bool (decide (xs = ys))) ∧ Below w.heap.size w w' :=
  (ints_quiet A A' n c n' c' xs ys w hnn hnn' hn hn' hh hh').mono fun _ _ ⟨he, m, hm⟩ => ⟨he, hm ▸ bdrewN (Below.refl _ _) m⟩

set_option maxHeartbeats 400000 in
theorem longs_quiet (A A' : Option Addr) (n c n' c' : Nat) (xs ys : List Int) (w : World) (hnn : n = xs.length) (hnn' : n' = ys.length)
    (hn : n ≤ 9223372036854775807) (hn' : n' ≤ 9223372036854775807) (hh : Held w w.heap.size 1 encI A xs) (hh' : Held w w.heap.size 1 encI A' ys) :
    Calls Tryz.prog 31 #[.slice A n c, .slice A' n' c'] w fun e w' => e = .returned (.bool (decide (xs = ys))) ∧ ∃ m, w' = w.drewN m := by
  have HN := Lib.hid (And.intro hnn hnn')
  clear hnn hnn'
  by_cases hl : n = n'
  · subst hl
    go_enter Tryz.func31, Tryz.ntmps31
    go_wp2
    go_loopw [4, 5] (fun _ i wr => ∃ k : Nat, k ≤ n ∧ i = .int .i64 k ∧ Hid (∃ m, wr = w.drewN m) ∧ Hid (∀ j, j < k → ∀ (h1 : j < xs.length) (h2 : j < ys.length), xs[j] = ys[j])) (fun _ i _ => n - (intOf i).toNat)
    case atStart => exact ⟨0, Nat.zero_le _, rfl, Lib.hid ⟨0, rfl⟩, Lib.hid (fun j hj => absurd hj (by omega))⟩
    case round =>
      obtain ⟨k, hk, rfl, hD, hA⟩ := hrel
      have hB : Hid (Below w.heap.size w wr) := Lib.hid (by obtain ⟨m, rfl⟩ := hD.out; exact bdrewN (Below.refl _ _) m)
      by_cases hlt : k < n
      · have hltz : (k : Int) < (n : Int) := by omega
        have hkx : k < xs.length := by rw [← HN.out.1]; exact hlt
        have hky : k < ys.length := by rw [← HN.out.2]; exact hlt
        obtain ⟨b, off, rfl, hc⟩ := held_get hh hB.out hkx
        obtain ⟨b', off', rfl, hc'⟩ := held_get hh' hB.out hky
        obtain ⟨x, hx⟩ : ∃ x, xs[k] = x := ⟨_, rfl⟩
        obtain ⟨y, hy⟩ : ∃ y, ys[k] = y := ⟨_, rfl⟩
        rw [hx] at hc
        rw [hy] at hc'
        have HXY := Lib.hid (And.intro hx hy)
        clear hx hy hh hh'
        by_cases hxy : x = y
        · have hxy2 : (x != y) = false := by simp [hxy]
          go_wp2
          go_quiet (fail)
          go_wp2
          go_roundw
          case measure => simp [intOf]; omega
          case rel =>
            refine ⟨k + 1, by omega, by go_num, Lib.hid (by obtain ⟨m, rfl⟩ := hD.out; exact ⟨m + nq, by rw [World.drewN_drewN]⟩), Lib.hid fun j hj h1 h2 => ?_⟩
            by_cases e : j = k
            · subst e
              rw [HXY.out.1, HXY.out.2, hxy]
            · exact hA.out j (by omega) h1 h2
        · have hxy2 : (x != y) = true := by simp [hxy]
          go_wp2
          go_quiet (fail)
          go_wp2
          go_ret
          refine ⟨ret_bool ?_, by obtain ⟨m, rfl⟩ := hD.out; exact ⟨m + nq, by rw [World.drewN_drewN]⟩⟩
          have : xs ≠ ys := fun e => by
            subst e
            exact hxy (HXY.out.1.symm.trans HXY.out.2)
          simp [this]
      · have hltz : ¬ (k : Int) < (n : Int) := by omega
        go_wp2
        go_ret
        refine ⟨ret_bool ?_, hD.out⟩
        have : xs = ys := List.ext_getElem (by rw [← HN.out.1, HN.out.2]) fun j h1 h2 => hA.out j (by have := HN.out.1; omega) h1 h2
        simp [this]
  · have hlz : ((n : Int) != (n' : Int)) = true := by simp; omega
    have hne : xs ≠ ys := fun e => hl (by rw [HN.out.1, HN.out.2, e])
    have HNE := Lib.hid hne
    clear hne hh hh'
    go_enter Tryz.func31, Tryz.ntmps31
    go_wp2
    go_ret
    exact ⟨ret_bool (by simp [HNE.out]), 0, rfl⟩

theorem longs_any (A A' : Option Addr) (n c n' c' : Nat) (xs ys : List Int) (w : World) (hnn : n = xs.length) (hnn' : n' = ys.length)
    (hn : n ≤ 9223372036854775807) (hn' : n' ≤ 9223372036854775807) (hh : Held w w.heap.size 1 encI A xs) (hh' : Held w w.heap.size 1 encI A' ys) :
    Calls Tryz.prog 31 #[.slice A n c, .slice A' n' c'] w fun e w' => e = .returned (.bool (decide (xs = ys))) ∧ Below w.heap.size w w' :=
  (longs_quiet A A' n c n' c' xs ys w hnn hnn' hn hn' hh hh').mono fun _ _ ⟨he, m, hm⟩ => ⟨he, hm ▸ bdrewN (Below.refl _ _) m⟩

set_option maxHeartbeats 400000 in
theorem great_any (A : Option Addr) (n c : Nat) (w : World) : Calls Tryz.prog 14 #[.slice A n c] w fun e w' => e = .returned (.bool (decide (20 < n))) ∧ w' = w := by
  by_cases h : 20 < n
  · have hz : (20 : Int) < (n : Int) := by omega
    go_enter Tryz.func14, Tryz.ntmps14
    go_wp2
    go_ret
    exact ⟨by simp [h], rfl⟩
  · have hz : ¬ (20 : Int) < (n : Int) := by omega
    go_enter Tryz.func14, Tryz.ntmps14
    go_wp2
    go_ret
    exact ⟨by simp, rfl⟩
set_option maxHeartbeats 400000 in
theorem refIsOrder_any (A : Option Addr) (n c : Nat) (x : Int) (w : World) : Calls Tryz.prog 55 #[.slice A n c, .int .i64 x] w fun e w' => e = .returned (.bool (isOrd n x)) ∧ w' = w := by
  by_cases h0 : 0 ≤ x
  · by_cases h1 : x < n
    · rw [show isOrd n x = true from by simp [isOrd, h0, h1]]
      go_enter Tryz.func55, Tryz.ntmps55
      go_wp2
      go_ret
      exact ⟨rfl, rfl⟩
    · rw [show isOrd n x = false from by simp [isOrd, h1]]
      go_enter Tryz.func55, Tryz.ntmps55
      go_wp2
      go_ret
      exact ⟨rfl, rfl⟩
  · rw [show isOrd n x = false from by simp [isOrd, h0]]
    go_enter Tryz.func55, Tryz.ntmps55
    go_wp2
    go_ret
    exact ⟨rfl, rfl⟩
set_option maxHeartbeats 1000000 in
theorem in_any (A : Option Addr) (n c : Nat) (xs : List Int) (x : Int) (w : World) (hnn : n = xs.length) (hn : n ≤ 9223372036854775807) (hh : Held w w.heap.size 1 encI A xs) :
    Calls Tryz.prog 42 #[.slice A n c, .int .i64 x] w fun e w' => e = .returned (.bool (decide (x ∈ xs))) ∧ w' = w := by
  have HN := Lib.hid hnn
  have HH := Lib.hid hh
  clear hnn hh
  go_enter Tryz.func42, Tryz.ntmps42
  go_wp2
  go_loopw [5] (fun i wr => ∃ k : Nat, k ≤ n ∧ i = .int .i64 k ∧ wr = w ∧ Hid (∀ j (hj : j < xs.length), j < k → xs[j] ≠ x)) (fun i _ => n - (intOf i).toNat)
  case atStart => exact ⟨0, Nat.zero_le _, rfl, rfl, Lib.hid fun j _ h => absurd h (by omega)⟩
  case round =>
    obtain ⟨k, hk, rfl, rfl, hA⟩ := hrel
    by_cases hlt : k < n
    · have hltz : (k : Int) < (n : Int) := by omega
      have hkl : k < xs.length := by rw [← HN.out]; exact hlt
      obtain ⟨b, off, rfl, hc⟩ := int_get HH.out hkl
      obtain ⟨y, hy⟩ : ∃ y, xs[k] = y := ⟨_, rfl⟩
      rw [hy] at hc
      have HY := Lib.hid hy
      clear hy
      by_cases he : y = x
      · have hm : x ∈ xs := by rw [← he, ← HY.out]; exact List.getElem_mem hkl
        have HM := Lib.hid hm
        have heb : (y == x) = true := by simp [he]
        clear hm he
        go_wp2
        go_ret
        exact ⟨ret_bool (by simp [HM.out]), rfl⟩
      · have heb : (y == x) = false := by simp [he]
        have HE := Lib.hid he
        clear he
        go_wp2
        go_roundw
        case measure => simp [intOf]; omega
        case rel =>
          refine ⟨k + 1, by omega, by go_num, trivial, Lib.hid fun j hj h => ?_⟩
          by_cases e : j = k
          · subst e; rw [HY.out]; exact HE.out
          · exact hA.out j hj (by omega)
    · have hltz : ¬ (k : Int) < (n : Int) := by omega
      have hm : x ∉ xs := fun h => by
        obtain ⟨j, hj, e⟩ := List.getElem_of_mem h
        exact hA.out j hj (by have := HN.out; omega) e
      have HM := Lib.hid hm
      clear hm
      go_wp2
      go_ret
      exact ⟨ret_bool (by simp [HM.out]), rfl⟩
end Go.Proofs.YtmlmnljbegcjcaaGreat

/- The reference: Baths, Some, WorthOf; the verifier's fine. -/
namespace Go.Proofs.YtmlmnljbegcjcaaGreat
open Go.RowKit Go.Shelf

set_option maxHeartbeats 1000000 in
theorem refBaths_any {A : Option Addr} {n c : Nat} {os : List Odr} {w : World} (h : IsOrders w A n c os) (x : Int) :
    Calls Tryz.prog 37 #[.slice A n c, .int .i64 x] w fun e w' => e = .returned (.int .i64 (forErr os x)) ∧ Ext w w' := by
  have h21 := fun W (hW : Ext w W) => refCheck_any (h.ext hW)
  obtain ⟨E, hE⟩ : ∃ E, ordersErr os = E := ⟨_, rfl⟩
  have ha : forErr os x = if E = 0 then if 0 ≤ x ∧ x ≤ 14 then 0 else 2 else E := by rw [← hE]; rfl
  obtain ⟨Z, hZ⟩ : ∃ Z, forErr os x = Z := ⟨_, rfl⟩
  rw [hZ] at ha ⊢
  simp only [hE] at h21
  have HA := Lib.hid ha
  have H21 := Lib.hid h21
  have h0 := h21 w (Ext.refl w)
  clear ha hE hZ h h21
  by_cases he : E = 0
  · have ha := HA.out
    rw [if_pos he] at ha
    subst he
    by_cases h1 : x < 0
    · rw [if_neg (by omega)] at ha
      subst ha
      go_enter Tryz.func37, Tryz.ntmps37
      go_wp2_with (refine h0.mono ?_; rintro e w1 ⟨rfl, e1⟩; have HE := Lib.hid e1; clear e1 h0)
      go_ret
      exact ⟨rfl, HE.out⟩
    · by_cases h2 : (14 : Int) < x
      · rw [if_neg (by omega)] at ha
        subst ha
        go_enter Tryz.func37, Tryz.ntmps37
        go_wp2_with (refine h0.mono ?_; rintro e w1 ⟨rfl, e1⟩; have HE := Lib.hid e1; clear e1 h0)
        go_ret
        exact ⟨rfl, HE.out⟩
      · rw [if_pos (by omega)] at ha
        subst ha
        go_enter Tryz.func37, Tryz.ntmps37
        go_wp2_with (refine h0.mono ?_; rintro e w1 ⟨rfl, e1⟩; have HE := Lib.hid e1; clear e1 h0)
        go_ret
        exact ⟨rfl, HE.out⟩
  · have ha := HA.out
    rw [if_neg he] at ha
    subst ha
    have heb : (Z != 0) = true := by simp [he]
    go_enter Tryz.func37, Tryz.ntmps37
    go_wp2_with fail
    refine h0.mono ?_
    rintro e w1 ⟨rfl, e1⟩
    have HE := Lib.hid e1
    have h1 := H21.out w1 e1
    clear e1 h0
    go_wp2_with fail
    refine h1.mono ?_
    rintro e w2 ⟨rfl, e2⟩
    have HE2 := Lib.hid (HE.out.trans e2)
    clear e2 h1
    go_wp2
    go_ret
    exact ⟨rfl, HE2.out⟩

set_option maxHeartbeats 1000000 in
theorem fine_any {A : Option Addr} {n c : Nat} {os : List Odr} {w : World} (h : IsOrders w A n c os) :
    Calls Tryz.prog 41 #[.slice A n c] w fun e w' => e = .returned (.bool (decide (ordersErr os = 0))) ∧ Ext w w' := by
  have h21 := refCheck_any h
  have h14 := great_any A n c w
  have hno : ordersErr os = 0 → n ≤ 14 := fun h0 => by have := (orders_ok h0).1; have := h.len; omega
  obtain ⟨E, hE⟩ : ∃ E, ordersErr os = E := ⟨_, rfl⟩
  rw [hE] at h21 hno ⊢
  clear hE h
  by_cases hg : 20 < n
  · have hne : E ≠ 0 := fun h0 => by have := hno h0; omega
    rw [decide_eq_false hne]
    rw [decide_eq_true hg] at h14
    clear hno hne
    go_enter Tryz.func41, Tryz.ntmps41
    go_wp2_with (refine h14.mono ?_; rintro e w1 ⟨rfl, rfl⟩)
    go_ret
    exact ⟨rfl, Ext.refl _⟩
  · rw [decide_eq_false hg] at h14
    clear hno
    by_cases he : E = 0
    · rw [decide_eq_true he]
      subst he
      go_enter Tryz.func41, Tryz.ntmps41
      go_wp2_with (first | (refine h14.mono ?_; rintro e w1 ⟨rfl, rfl⟩) | (refine h21.mono ?_; rintro e w2 ⟨rfl, e2⟩; have HE := Lib.hid e2; clear e2))
      go_ret
      exact ⟨rfl, HE.out⟩
    · rw [decide_eq_false he]
      have heb : (E == 0) = false := by simp [he]
      go_enter Tryz.func41, Tryz.ntmps41
      go_wp2_with (first | (refine h14.mono ?_; rintro e w1 ⟨rfl, rfl⟩) | (refine h21.mono ?_; rintro e w2 ⟨rfl, e2⟩; have HE := Lib.hid e2; clear e2))
      go_ret
      exact ⟨rfl, HE.out⟩

set_option maxRecDepth 100000 in
set_option maxHeartbeats 2000000 in
theorem worthOf_any {A : Option Addr} {n c : Nat} {os : List Odr} {w : World} (h : IsOrders w A n c os) (hk : ordersErr os = 0) (A' : Option Addr) (n' c' : Nat) (bs : List Int) (hn' : n' = bs.length) (hm' : n' ≤ 9223372036854775807) (hh : Held w w.heap.size 1 encI A' bs) :
    Calls Tryz.prog 39 #[.slice A n c, .slice A' n' c'] w fun e w' => e = .returned (.int .i64 (worthOf os bs)) ∧ Ext w w' := by
  have hok := orders_ok hk
  have h72 := fun W (hW : Ext w W) k hkl => done72_any (h.ext hW) hok.2 A' n' c' bs hn' hm' (hh.ext hW) k hkl
  have hlen := worthTo_len os bs
  have hbd := worthTo_bound hok.2 bs
  have hsu := worthTo_succ os bs
  have HO := Lib.hid h
  have HN := Lib.hid h.len
  have HK := Lib.hid hok
  have hn14 : n ≤ 14 := by have := h.len; omega
  rw [← hlen, ← h.len]
  obtain ⟨WT, hW⟩ : ∃ WT, worthTo os bs = WT := ⟨_, rfl⟩
  have hw0 : WT 0 = 0 := by rw [← hW]; rfl
  rw [hW]
  simp only [hW] at hbd hsu
  have HB := Lib.hid hbd
  have HS := Lib.hid hsu
  have H72 := Lib.hid h72
  clear h hk hok h72 hlen hbd hsu hW hh hn'
  go_enter Tryz.func39, Tryz.ntmps39
  go_wp2
  go_loopw [5, 6] (fun s i wr => ∃ k : Nat, k ≤ n ∧ i = .int .i64 k ∧ s = .int .i64 (WT k) ∧ Hid (Ext w wr)) (fun _ i _ => n - (intOf i).toNat)
  case atStart => exact ⟨0, Nat.zero_le _, rfl, by rw [hw0], Lib.hid (Ext.refl _)⟩
  case round =>
    obtain ⟨k, hk, rfl, rfl, hE⟩ := hrel
    by_cases hlt : k < n
    · have hltz : (k : Int) < (n : Int) := by omega
      have hkl : k < os.length := by rw [← HN.out]; exact hlt
      have h72 := H72.out wr hE.out k hkl
      have hsu := HS.out k
      have hbd := HB.out k
      have hdm : doesB os bs k = madeB bs os[k] := by unfold doesB; rw [oAt_get hkl, decide_eq_true hkl, Bool.true_and]
      rw [hdm, oAt_get hkl] at hsu
      have hwo := (ordOk_iff.1 (HK.out.2 _ (List.getElem_mem hkl))).2.2
      have hce := fun W (hW : Ext w W) => (HO.out.ext hW).at hkl
      obtain ⟨o, ho⟩ : ∃ o, os[k] = o := ⟨_, rfl⟩
      simp only [ho] at h72 hsu hwo hce
      obtain ⟨q, hq⟩ : ∃ q, madeB bs o = q := ⟨_, rfl⟩
      rw [hq] at h72 hsu
      obtain ⟨s, hs⟩ : ∃ s, WT k = s := ⟨_, rfl⟩
      rw [hs] at hbd hsu ⊢
      cases q with
      | true =>
        rw [if_pos rfl] at hsu
        have hwr : IntKind.i64.wrap (s + o.worth) = s + o.worth := IntWalk.i64_in _ (by omega)
        obtain ⟨b, off, rfl, hbl, _, _, _, _, c4⟩ := hce wr hE.out
        have HSU := Lib.hid hsu
        clear ho hq hs hsu hbd hwo hdm hce
        go_wp2_with (refine h72.mono ?_; rintro e w2 ⟨rfl, e2⟩; have HE2 := Lib.hid (hE.out.trans e2); have c4' : w2.cell? ⟨b, off + k * 5 + 4, none⟩ = some (.int .i64 o.worth) := (Below.cell e2 (p := ⟨b, off + k * 5 + 4, none⟩) hbl).trans c4; clear e2 h72 c4)
        go_roundw
        case measure => simp [intOf]; omega
        case rel => exact ⟨k + 1, by omega, by go_num, by rw [HSU.out], HE2⟩
      | false =>
        rw [if_neg (by decide), Int.add_zero] at hsu
        have HSU := Lib.hid hsu
        clear ho hq hs hsu hbd hwo hdm hce
        go_wp2_with (refine h72.mono ?_; rintro e w2 ⟨rfl, e2⟩; have HE2 := Lib.hid (hE.out.trans e2); clear e2 h72)
        go_roundw
        case measure => simp [intOf]; omega
        case rel => exact ⟨k + 1, by omega, by go_num, by rw [HSU.out], HE2⟩
    · have hltz : ¬ (k : Int) < (n : Int) := by omega
      obtain rfl : k = n := by omega
      go_wp2
      go_ret
      exact ⟨rfl, hE.out⟩
end Go.Proofs.YtmlmnljbegcjcaaGreat

/- The reference: Does, Some, Births. -/
namespace Go.Proofs.YtmlmnljbegcjcaaGreat
open Go.RowKit Go.Shelf
attribute [local irreducible] bitCells

theorem run_field26_0 (x y : Int) (w : World) : (Instr.field 26 (.agg #[.int .i64 x, .int .i64 y]) 0).run Tryz.prog w = .ok (.int .i64 x) w := by
  have p1 : (part 2 #[.int .i64 x, .int .i64 y] 0).run Tryz.prog w = .ok (.int .i64 x) w := by unfold part; go_simp
  simp [Instr.field, run_underlying Tryz.underlying26, asAgg, p1]
theorem run_field26_1 (x y : Int) (w : World) : (Instr.field 26 (.agg #[.int .i64 x, .int .i64 y]) 1).run Tryz.prog w = .ok (.int .i64 y) w := by
  have p1 : (part 2 #[.int .i64 x, .int .i64 y] 1).run Tryz.prog w = .ok (.int .i64 y) w := by unfold part; go_simp
  simp [Instr.field, run_underlying Tryz.underlying26, asAgg, p1]
end Go.Proofs.YtmlmnljbegcjcaaGreat

/- The verifier's examples: rg, Order. -/
namespace Go.Proofs.YtmlmnljbegcjcaaGreat
open Go.RowKit Go.Shelf

theorem size56 : (Tryz.prog.info? 56).map (·.size) = some 5 := by kernel_rfl
set_option maxRecDepth 100000 in
set_option maxHeartbeats 1000000 in
theorem rg_any (x y : Int) (w : World) : Calls Tryz.prog 48 #[.int .i64 x, .int .i64 y] w fun e w' => e = .returned (.agg #[.int .i64 x, .int .i64 y]) ∧ Ext w w' := by
  obtain ⟨w0, hw0⟩ : ∃ w0, w.alloc (.cells #[.int .i64 0, .int .i64 0] 26) = w0 := ⟨_, rfl⟩
  have e0 : Ext w w0 := by rw [← hw0]; exact ext_alloc _ _
  have r0 : w0.heap[w.heap.size]? = some (.cells #[.int .i64 0, .int .i64 0] 26 (0, 0)) := by rw [← hw0]; exact row_last _ _ _ rfl
  go_enter Tryz.func48, Tryz.ntmps48
  go_upto_region 1 with fail
  obtain ⟨p, hp⟩ : ∃ p, w.heap.size = p := ⟨_, rfl⟩
  have HP := Lib.hid (Nat.le_of_eq hp)
  rw [hp] at r0 ⊢
  have HE := Lib.hid e0
  have HR := Lib.hid r0
  have q0 : w0.cell? ⟨p, 0, none⟩ = some (.int .i64 0) := cell_of_row _ _ _ _ _ _ r0
  have q1 : w0.cell? ⟨p, 1, none⟩ = some (.int .i64 0) := cell_of_row _ _ _ _ _ _ r0
  have fz0 : w0.frozen? ⟨p, 0, none⟩ = false := by simp [World.frozen?, r0]
  have fz1 : w0.frozen? ⟨p, 1, none⟩ = false := by simp [World.frozen?, r0]
  clear hw0 hp e0 r0
  go_wp2
  refine bodyPost_ret (v := .agg #[.int .i64 x, .int .i64 y]) (results_row 26 rfl _ _ p _ rfl (run_loadVar_row (P := Tryz.prog) _ _ 26 26 _ (0, 0) _ (set2_row w0 p _ _ _ _ 26 HR.out) Tryz.underlying26 rfl (by rw [size26]; rfl))) rfl ⟨rfl, set_kept (set_kept HE.out HP.out) HP.out⟩

theorem set5_row (W : World) (g : Nat) (a b c d e a0 b0 c0 d0 e0 : Value) (t : TypeId) (h : W.heap[g]? = some (.cells #[a0, b0, c0, d0, e0] t (0, 0))) :
    (((((W.setCell ⟨g, 0, none⟩ a).setCell ⟨g, 1, none⟩ b).setCell ⟨g, 2, none⟩ c).setCell ⟨g, 3, none⟩ d).setCell ⟨g, 4, none⟩ e).heap[g]? = some (.cells #[a, b, c, d, e] t (0, 0)) := by
  have h1 := row_setCell W g 0 a _ t _ h
  have h2 := row_setCell _ g 1 b _ t _ h1
  have h3 := row_setCell _ g 2 c _ t _ h2
  have h4 := row_setCell _ g 3 d _ t _ h3
  exact row_setCell _ g 4 e _ t _ h4
set_option maxRecDepth 100000 in
set_option maxHeartbeats 2000000 in
theorem order49_any (a b c d e : Int) (w : World) : Calls Tryz.prog 49 #[.int .i64 a, .int .i64 b, .int .i64 c, .int .i64 d, .int .i64 e] w fun r w' => r = .returned (.agg #[.int .i64 a, .int .i64 b, .int .i64 c, .int .i64 d, .int .i64 e]) ∧ Ext w w' := by
  obtain ⟨w0, hw0⟩ : ∃ w0, w.alloc (.cells #[.int .i64 0, .int .i64 0, .int .i64 0, .int .i64 0, .int .i64 0] 56) = w0 := ⟨_, rfl⟩
  have e0 : Ext w w0 := by rw [← hw0]; exact ext_alloc _ _
  have r0 : w0.heap[w.heap.size]? = some (.cells #[.int .i64 0, .int .i64 0, .int .i64 0, .int .i64 0, .int .i64 0] 56 (0, 0)) := by rw [← hw0]; exact row_last _ _ _ rfl
  go_enter Tryz.func49, Tryz.ntmps49
  go_upto_region 1 with fail
  obtain ⟨p, hp⟩ : ∃ p, w.heap.size = p := ⟨_, rfl⟩
  have HP := Lib.hid (Nat.le_of_eq hp)
  rw [hp] at r0 ⊢
  have HE := Lib.hid e0
  have HR := Lib.hid r0
  clear hw0 hp e0 r0
  go_wp2_with fail
  refine (rg_any a b w0).mono ?_
  rintro r w1 ⟨rfl, e1⟩
  have HE1 := Lib.hid (HE.out.trans e1)
  have HR1 := Lib.hid (row_ext HR.out e1)
  clear e1
  go_wp2_with fail
  refine (rg_any c d w1).mono ?_
  rintro r w2 ⟨rfl, e2⟩
  have HE2 := Lib.hid (HE1.out.trans e2)
  have r2 := row_ext HR1.out e2
  have HR2 := Lib.hid r2
  have q0 : w2.cell? ⟨p, 0, none⟩ = some (.int .i64 0) := cell_of_row _ _ _ _ _ _ r2
  have q1 : w2.cell? ⟨p, 1, none⟩ = some (.int .i64 0) := cell_of_row _ _ _ _ _ _ r2
  have q2 : w2.cell? ⟨p, 2, none⟩ = some (.int .i64 0) := cell_of_row _ _ _ _ _ _ r2
  have q3 : w2.cell? ⟨p, 3, none⟩ = some (.int .i64 0) := cell_of_row _ _ _ _ _ _ r2
  have q4 : w2.cell? ⟨p, 4, none⟩ = some (.int .i64 0) := cell_of_row _ _ _ _ _ _ r2
  have f0 : w2.frozen? ⟨p, 0, none⟩ = false := by simp [World.frozen?, r2]
  have f1 : w2.frozen? ⟨p, 1, none⟩ = false := by simp [World.frozen?, r2]
  have f2 : w2.frozen? ⟨p, 2, none⟩ = false := by simp [World.frozen?, r2]
  have f3 : w2.frozen? ⟨p, 3, none⟩ = false := by simp [World.frozen?, r2]
  have f4 : w2.frozen? ⟨p, 4, none⟩ = false := by simp [World.frozen?, r2]
  clear e2 r2
  go_wp2
  refine bodyPost_ret (v := .agg #[.int .i64 a, .int .i64 b, .int .i64 c, .int .i64 d, .int .i64 e]) (results_row 56 rfl _ _ p _ rfl (run_loadVar_row (P := Tryz.prog) _ _ 56 56 _ (0, 0) _ (set5_row w2 p _ _ _ _ _ _ _ _ _ _ 56 HR2.out) Tryz.underlying56 rfl (by rw [size56]; rfl))) rfl ⟨rfl, set_kept (set_kept (set_kept (set_kept (set_kept HE2.out HP.out) HP.out) HP.out) HP.out) HP.out⟩
/-- The orders A of the chapter's examples, and the orders B. -/
def exA : List Odr := [⟨100, 110, 20, 60, 5⟩, ⟨90, 90, 10, 30, 3⟩, ⟨150, 150, 0, 40, 4⟩, ⟨130, 130, 25, 50, 6⟩]
def exB : List Odr := [⟨100, 110, 20, 60, 5⟩, ⟨90, 90, 10, 30, 3⟩, ⟨150, 150, 0, 40, 4⟩, ⟨130, 140, 30, 35, 6⟩]
def cellsO (os : List Odr) : Array Value := (os.flatMap encO).toArray
set_option maxRecDepth 100000 in
set_option maxHeartbeats 2000000 in
theorem orders50_any (w : World) : Calls Tryz.prog 50 #[] w fun r w' => ∃ g, r = .returned (.slice (some ⟨g, 0, none⟩) 4 4) ∧ w.heap.size ≤ g ∧ w'.heap[g]? = some (.cells (cellsO exA) 56 (0, 0)) ∧ Ext w w' := by
  have h := order49_any
  go_enter Tryz.func50, Tryz.ntmps50
  go_wp2_with fail
  refine (h 100 110 20 60 5 w).mono ?_
  rintro r w1 ⟨rfl, e1⟩
  have HE1 := Lib.hid e1
  clear e1
  go_wp2_with fail
  refine (h 90 90 10 30 3 w1).mono ?_
  rintro r w2 ⟨rfl, e2⟩
  have HE2 := Lib.hid (HE1.out.trans e2)
  clear e2
  go_wp2_with fail
  refine (h 150 150 0 40 4 w2).mono ?_
  rintro r w3 ⟨rfl, e3⟩
  have HE3 := Lib.hid (HE2.out.trans e3)
  clear e3
  go_wp2_with fail
  refine (h 130 130 25 50 6 w3).mono ?_
  rintro r w4 ⟨rfl, e4⟩
  have HE4 := Lib.hid (HE3.out.trans e4)
  clear e4 h
  go_wp2
  go_ret
  exact ⟨_, rfl, HE4.out.size, row_last _ _ _ rfl, HE4.out.trans (ext_alloc _ _)⟩

theorem orders_row {W : World} {g : Nat} {os : List Odr} {t : TypeId} {fr : Nat × Nat} (h : W.heap[g]? = some (.cells (cellsO os) t fr)) (hn : os.length ≤ 9223372036854775807) : IsOrders W (some ⟨g, 0, none⟩) os.length os.length os := by
  refine ⟨rfl, hn, Nat.le_refl _, .inr ⟨g, 0, rfl, (Array.getElem?_eq_some_iff.1 h).1, fun j o hj i v hv => ?_⟩⟩
  rw [Nat.zero_add, cell_of_row _ _ _ _ _ _ h]
  unfold cellsO
  rw [List.getElem?_toArray]
  have := flat_at2 encO 5 (fun _ => rfl) os j o i v hj hv
  simpa using this
set_option maxRecDepth 100000 in
set_option maxHeartbeats 2000000 in
theorem none51_any (w : World) : Calls Tryz.prog 51 #[] w fun r w' => ∃ g, r = .returned (.slice (some ⟨g, 0, none⟩) 4 4) ∧ w.heap.size ≤ g ∧ w'.heap[g]? = some (.cells (cellsO exB) 56 (0, 0)) ∧ Ext w w' := by
  have h := order49_any
  go_enter Tryz.func51, Tryz.ntmps51
  go_wp2_with fail
  refine (orders50_any w).mono ?_
  rintro r w1 ⟨g, rfl, hg, hr, e1⟩
  have HE1 := Lib.hid e1
  have HR1 := Lib.hid hr
  have HG := Lib.hid hg
  clear e1 hr hg
  go_wp2_with fail
  refine (h 130 140 30 35 6 w1).mono ?_
  rintro r w2 ⟨rfl, e2⟩
  have HE2 := Lib.hid (HE1.out.trans e2)
  have r2 := row_ext HR1.out e2
  have HR2 := Lib.hid r2
  have q0 : w2.cell? ⟨g, 15, none⟩ = some (.int .i64 130) := cell_of_row _ _ _ _ _ _ r2
  have q1 : w2.cell? ⟨g, 16, none⟩ = some (.int .i64 130) := cell_of_row _ _ _ _ _ _ r2
  have q2 : w2.cell? ⟨g, 17, none⟩ = some (.int .i64 25) := cell_of_row _ _ _ _ _ _ r2
  have q3 : w2.cell? ⟨g, 18, none⟩ = some (.int .i64 50) := cell_of_row _ _ _ _ _ _ r2
  have q4 : w2.cell? ⟨g, 19, none⟩ = some (.int .i64 6) := cell_of_row _ _ _ _ _ _ r2
  have f0 : w2.frozen? ⟨g, 15, none⟩ = false := by simp [World.frozen?, r2]
  have f1 : w2.frozen? ⟨g, 16, none⟩ = false := by simp [World.frozen?, r2]
  have f2 : w2.frozen? ⟨g, 17, none⟩ = false := by simp [World.frozen?, r2]
  have f3 : w2.frozen? ⟨g, 18, none⟩ = false := by simp [World.frozen?, r2]
  have f4 : w2.frozen? ⟨g, 19, none⟩ = false := by simp [World.frozen?, r2]
  clear e2 r2 h
  go_wp2
  go_ret
  refine ⟨g, rfl, HG.out, ?_, set_kept (set_kept (set_kept (set_kept (set_kept HE2.out HG.out) HG.out) HG.out) HG.out) HG.out⟩
  exact row_setCell _ g 19 _ _ 56 _ (row_setCell _ g 18 _ _ 56 _ (row_setCell _ g 17 _ _ 56 _ (row_setCell _ g 16 _ _ 56 _ (row_setCell _ g 15 _ _ 56 _ HR2.out))))
end Go.Proofs.YtmlmnljbegcjcaaGreat

/- The reference: IsBaths. -/
namespace Go.Proofs.YtmlmnljbegcjcaaGreat
open Go.RowKit Go.Shelf

/-- Whether the births before the k-th one are baths. -/
def bathsTo (bs : List Int) (k : Nat) : Prop := ∀ j (hj : j < bs.length), j < k → (-10000 ≤ bs[j] ∧ bs[j] ≤ 10000) ∧ ∀ (h0 : 0 < j), bs[j - 1] < bs[j]
theorem pair_next : ∀ {bs : List Int}, (∀ j (hj : j < bs.length), ∀ (_ : 0 < j), bs[j - 1] < bs[j]) → bs.Pairwise (· < ·) := by
  intro bs h
  rw [List.pairwise_iff_getElem]
  intro i j hi hj hij
  induction j with
  | zero => omega
  | succ j ih =>
    have h1 := h (j + 1) hj (by omega)
    simp only [Nat.add_sub_cancel] at h1
    by_cases e : i = j
    · subst e; exact h1
    · exact Int.lt_trans (ih (by omega) (by omega)) h1
end Go.Proofs.YtmlmnljbegcjcaaGreat

/- Prices are right just if they are at the first births of orders. -/
namespace Go.Proofs.YtmlmnljbegcjcaaGreat
open Go.RowKit Go.Shelf

theorem does_at {os : List Odr} {x : Int} {i : Nat} : doesB os [x] i = (decide (i < os.length) && doneB x (oAt os i)) := by
  by_cases h : i < os.length
  · rw [does_iff h, decide_eq_true h, Bool.true_and]
  · simp [doesB, h]
theorem tog_more {os : List Odr} {ps : List Int} (hp : ∀ i, 0 ≤ ps.getD i 0) {x x' : Int} (h : ∀ o, o ∈ os → doneB x o = true → doneB x' o = true) : ∀ k, togTo os x ps k ≤ togTo os x' ps k
  | 0 => by simp [togTo]
  | k + 1 => by
    have ih := tog_more hp h k
    rw [togTo_succ, togTo_succ, does_at, does_at]
    have hpk := hp k
    generalize ps.getD k 0 = pk at hpk ⊢
    by_cases hk : k < os.length
    · rw [decide_eq_true hk, Bool.true_and, Bool.true_and]
      cases hd : doneB x (oAt os k)
      · simp only [Bool.false_eq_true, if_false]
        split <;> omega
      · rw [h _ (oAt_mem hk) hd]; simp; omega
    · rw [decide_eq_false hk]; simp; omega
theorem tog_len {os : List Odr} {ps : List Int} {x : Int} : ∀ d, togTo os x ps (os.length + d) = togTo os x ps os.length
  | 0 => rfl
  | d + 1 => by
    rw [← Nat.add_assoc, togTo_succ, does_at, tog_len d, decide_eq_false (by omega)]
    simp
theorem tog_is {os : List Odr} (hl : os.length ≤ 14) {ps : List Int} {x : Int} : togB os x ps = togTo os x ps os.length := by
  unfold togB
  rw [show (14 : Nat) = os.length + (14 - os.length) from by omega, tog_len]
theorem tog_zero {os : List Odr} {ps : List Int} {x : Int} (h : ∀ o, o ∈ os → doneB x o = false) : ∀ k, togTo os x ps k = 0
  | 0 => by simp [togTo, sumI]
  | k + 1 => by
    rw [togTo_succ, does_at, tog_zero h k]
    by_cases hk : k < os.length
    · rw [h _ (oAt_mem hk)]; simp
    · rw [decide_eq_false hk]; simp
theorem max_lo : ∀ (l : List Odr), l ≠ [] → ∃ o, o ∈ l ∧ ∀ z, z ∈ l → bLo z ≤ bLo o
  | [], h => absurd rfl h
  | [o], _ => ⟨o, by simp, fun z hz => by rw [List.mem_singleton.1 hz]; exact Int.le_refl _⟩
  | o :: p :: l, _ => by
    obtain ⟨q, hq, h⟩ := max_lo (p :: l) (by simp)
    by_cases hc : bLo q ≤ bLo o
    · exact ⟨o, by simp, fun z hz => by
        rcases List.mem_cons.1 hz with rfl | hz
        · exact Int.le_refl _
        · exact Int.le_trans (h z hz) hc⟩
    · exact ⟨q, List.mem_cons_of_mem _ hq, fun z hz => by
        rcases List.mem_cons.1 hz with rfl | hz
        · omega
        · exact h z hz⟩
theorem right_lo {os : List Odr} (hl : os.length ≤ 14) {ps : List Int} (hp : ∀ i, 0 ≤ ps.getD i 0) {y : Int} (hy : 0 ≤ y) : rightB os y ps = true ↔ ∀ i, i < os.length → togTo os (bLo (oAt os i)) ps os.length ≤ y := by
  unfold rightB
  rw [List.all_eq_true]
  simp only [decide_eq_true_eq, tog_is hl]
  constructor
  · intro h i hi
    by_cases hd : ∃ o, o ∈ os ∧ doneB (bLo (oAt os i)) o = true
    · obtain ⟨e, he, h2⟩ := to_ends hd
      exact Int.le_trans (tog_more hp h2 _) (h e he)
    · rw [tog_zero (fun o ho => by
        cases hc : doneB (bLo (oAt os i)) o
        · rfl
        · exact absurd ⟨o, ho, hc⟩ hd)]
      exact hy
  · intro h x hx
    obtain ⟨_, o1, ho1, hd1⟩ := mem_ends.1 hx
    obtain ⟨o, ho, hm⟩ := max_lo (os.filter fun o => doneB x o) (List.ne_nil_of_mem (List.mem_filter.2 ⟨ho1, hd1⟩))
    obtain ⟨ho2, ho3⟩ := List.mem_filter.1 ho
    obtain ⟨i, hi, rfl⟩ := List.getElem_of_mem ho2
    have h2 := h i hi
    rw [oAt_get hi] at h2
    refine Int.le_trans (tog_more hp (fun z hz hd => ?_) _) h2
    have h3 := hm z (List.mem_filter.2 ⟨hz, hd⟩)
    rw [doneB_iff] at hd ho3 ⊢
    omega
end Go.Proofs.YtmlmnljbegcjcaaGreat

/- The reference: CheckPrices' regions. -/
namespace Go.Proofs.YtmlmnljbegcjcaaGreat
open Go.RowKit Go.Shelf

/-- The slots of region 10 of function 45. -/
def cpD (i : Nat) : Tmp := if i = 0 then 39 else if i = 1 then 40 else if i = 2 then 41 else if i = 3 then 42 else if i = 4 then 43 else if i = 5 then 44 else if i = 6 then 45 else if i = 7 then 46 else if i = 8 then 47 else if i = 9 then 48 else if i = 10 then 49 else if i = 11 then 50 else if i = 12 then 51 else if i = 13 then 52 else if i = 14 then 53 else if i = 15 then 54 else 55
noncomputable def cpReg : Array Oper := (Tryz.f45.body.bind (regionOf · 10)).getD #[]
theorem cp_size : cpReg.size = 17 := by kernel_rfl
/-- What each operation yields. -/
def cpAS (b off np cp kk : Nat) (x : Int) (ix : Nat) (v : Value) (_ : World) : Prop :=
  match ix with
  | 0 => v = .slice (some ⟨b, off, none⟩) np cp
  | 1 => v = .int .i64 (kk : Int)
  | 2 => v = .pointer (some ⟨b, off + kk, none⟩)
  | 3 => v = .int .i64 x
  | 4 => v = .bool true
  | 5 => v = .bool true
  | 6 => v = undef
  | 7 => v = undef
  | 8 => v = undef
  | 9 => v = undef
  | 10 => v = undef
  | 11 => v = undef
  | 12 => v = undef
  | 13 => v = undef
  | 14 => v = undef
  | 15 => v = undef
  | 16 => v = .bool true
  | _ => True
def cpAOk (b off np cp kk : Nat) (x : Int) (Q : Exit → Act → World → Prop) (a : Act) (W : World) (ix : Nat) (o : Oper) : Prop :=
  ((∀ j b, o.guard = some (j, b) → a.eval (.tmp (cpD j)) = .bool b) ∧ o.wp Tryz.prog a W (fun a'' W' => ∃ v, a'' = a.put o.dst v ∧ cpAS b off np cp kk x ix v W' ∧ Below W.heap.size W W') Q) ∨ ((∃ j b, o.guard = some (j, b) ∧ a.eval (.tmp (cpD j)) ≠ .bool b) ∧ cpAS b off np cp kk x ix undef W)
section
variable {b off np cp kk : Nat} {x : Int} {Q : Exit → Act → World → Prop} {a : Act} {V W : World} {o : Oper}
set_option maxHeartbeats 1000000 in
theorem cpA_op0 (o3 : a.eval (.tmp 3) = .slice (some ⟨b, off, none⟩) np cp) (ho : cpReg[0]? = some o) : cpAOk b off np cp kk x Q a W 0 o := by
  have hop := op_at ho (·.op) (x := Op.move (Operand.tmp 3)) (by kernel_rfl)
  have hgd := op_at ho (·.guard) (x := none) (by kernel_rfl)
  refine .inl ⟨fun j b h => (by rw [hgd] at h; cases h), ?_⟩
  exact specs_value (R := fun v W => cpAS b off np cp kk x 0 v W) (v := .slice (some ⟨b, off, none⟩) np cp) (by simp [execOp, hop, go_sem, ev o3]) rfl (Ext.refl W)
set_option maxHeartbeats 1000000 in
theorem cpA_op1 (o10 : a.eval (.tmp 10) = .int .i64 (kk : Int)) (ho : cpReg[1]? = some o) : cpAOk b off np cp kk x Q a W 1 o := by
  have hop := op_at ho (·.op) (x := Op.move (Operand.tmp 10)) (by kernel_rfl)
  have hgd := op_at ho (·.guard) (x := none) (by kernel_rfl)
  refine .inl ⟨fun j b h => (by rw [hgd] at h; cases h), ?_⟩
  exact specs_value (R := fun v W => cpAS b off np cp kk x 1 v W) (v := .int .i64 (kk : Int)) (by simp [execOp, hop, go_sem, ev o10]) rfl (Ext.refl W)
set_option maxHeartbeats 1000000 in
theorem cpA_op2 (hlp : (kk : Int) < (np : Int)) (haft : ∀ j, (o.after.any fun e => decide (e.on = j) && Region.binds .any e) = true → cpAS b off np cp kk x j (a.eval (.tmp (cpD j))) W) (ho : cpReg[2]? = some o) : cpAOk b off np cp kk x Q a W 2 o := by
  have hop := op_at ho (·.op) (x := Op.indexAddr 36 (Operand.tmp 39) (Operand.tmp 40)) (by kernel_rfl)
  have hgd := op_at ho (·.guard) (x := none) (by kernel_rfl)
  have e0 : a.eval (.tmp 39) = .slice (some ⟨b, off, none⟩) np cp := haft 0 (op_at ho (fun o => o.after.any fun e => decide (e.on = 0) && Region.binds .any e) (x := true) (by kernel_rfl))
  have e1 : a.eval (.tmp 40) = .int .i64 (kk : Int) := haft 1 (op_at ho (fun o => o.after.any fun e => decide (e.on = 1) && Region.binds .any e) (x := true) (by kernel_rfl))
  refine .inl ⟨fun j b h => (by rw [hgd] at h; cases h), ?_⟩
  exact specs_value (R := fun v W => cpAS b off np cp kk x 2 v W) (v := .pointer (some ⟨b, off + kk, none⟩)) (by simp [execOp, hop, go_sem, ev e0, ev e1, hlp]) rfl (Ext.refl W)
set_option maxHeartbeats 1000000 in
theorem cpA_op3 (cx : ∀ W, Ext V W → W.cell? ⟨b, off + kk, none⟩ = some (.int .i64 x)) (hB : Ext V W) (haft : ∀ j, (o.after.any fun e => decide (e.on = j) && Region.binds .any e) = true → cpAS b off np cp kk x j (a.eval (.tmp (cpD j))) W) (ho : cpReg[3]? = some o) : cpAOk b off np cp kk x Q a W 3 o := by
  have hop := op_at ho (·.op) (x := Op.load 2 (Operand.tmp 41)) (by kernel_rfl)
  have hgd := op_at ho (·.guard) (x := none) (by kernel_rfl)
  have e2 : a.eval (.tmp 41) = .pointer (some ⟨b, off + kk, none⟩) := haft 2 (op_at ho (fun o => o.after.any fun e => decide (e.on = 2) && Region.binds .any e) (x := true) (by kernel_rfl))
  refine .inl ⟨fun j b h => (by rw [hgd] at h; cases h), ?_⟩
  have cx' := cx W hB
  exact specs_value (R := fun v W => cpAS b off np cp kk x 3 v W) (v := .int .i64 x) (by simp [execOp, hop, go_sem, ev e2, cx']) rfl (Ext.refl W)
set_option maxHeartbeats 1000000 in
theorem cpA_op4 (h1 : x < 0) (haft : ∀ j, (o.after.any fun e => decide (e.on = j) && Region.binds .any e) = true → cpAS b off np cp kk x j (a.eval (.tmp (cpD j))) W) (ho : cpReg[4]? = some o) : cpAOk b off np cp kk x Q a W 4 o := by
  have hop := op_at ho (·.op) (x := Op.binOp BinOp.lss 2 (Operand.tmp 42) (Operand.const (Value.int IntKind.i64 0)) 2) (by kernel_rfl)
  have hgd := op_at ho (·.guard) (x := none) (by kernel_rfl)
  have e3 : a.eval (.tmp 42) = .int .i64 x := haft 3 (op_at ho (fun o => o.after.any fun e => decide (e.on = 3) && Region.binds .any e) (x := true) (by kernel_rfl))
  refine .inl ⟨fun j b h => (by rw [hgd] at h; cases h), ?_⟩
  exact specs_value (R := fun v W => cpAS b off np cp kk x 4 v W) (v := .bool true) (by simp [execOp, hop, go_sem, ev e3, h1]) rfl (Ext.refl W)
set_option maxHeartbeats 1000000 in
theorem cpA_op5 (haft : ∀ j, (o.after.any fun e => decide (e.on = j) && Region.binds .any e) = true → cpAS b off np cp kk x j (a.eval (.tmp (cpD j))) W) (ho : cpReg[5]? = some o) : cpAOk b off np cp kk x Q a W 5 o := by
  have hop := op_at ho (·.op) (x := Op.move (Operand.tmp 43)) (by kernel_rfl)
  have hgd := op_at ho (·.guard) (x := none) (by kernel_rfl)
  have e4 : a.eval (.tmp 43) = .bool true := haft 4 (op_at ho (fun o => o.after.any fun e => decide (e.on = 4) && Region.binds .any e) (x := true) (by kernel_rfl))
  refine .inl ⟨fun j b h => (by rw [hgd] at h; cases h), ?_⟩
  exact specs_value (R := fun v W => cpAS b off np cp kk x 5 v W) (v := .bool true) (by simp [execOp, hop, go_sem, ev e4]) rfl (Ext.refl W)
set_option maxHeartbeats 1000000 in
theorem cpA_op6 (haft : ∀ j, (o.after.any fun e => decide (e.on = j) && Region.binds .any e) = true → cpAS b off np cp kk x j (a.eval (.tmp (cpD j))) W) (ho : cpReg[6]? = some o) : cpAOk b off np cp kk x Q a W 6 o := by
  have hgd := op_at ho (·.guard) (x := some (5, false)) (by kernel_rfl)
  have e5 : a.eval (.tmp 44) = .bool true := haft 5 (op_at ho (fun o => o.after.any fun e => decide (e.on = 5) && Region.binds .any e) (x := true) (by kernel_rfl))
  exact .inr ⟨⟨5, false, hgd, fun h => by
    have h2 := e5.symm.trans (show a.eval (.tmp 44) = .bool false from h)
    simp at h2⟩, rfl⟩
set_option maxHeartbeats 1000000 in
theorem cpA_op7 (haft : ∀ j, (o.after.any fun e => decide (e.on = j) && Region.binds .any e) = true → cpAS b off np cp kk x j (a.eval (.tmp (cpD j))) W) (ho : cpReg[7]? = some o) : cpAOk b off np cp kk x Q a W 7 o := by
  have hgd := op_at ho (·.guard) (x := some (5, false)) (by kernel_rfl)
  have e5 : a.eval (.tmp 44) = .bool true := haft 5 (op_at ho (fun o => o.after.any fun e => decide (e.on = 5) && Region.binds .any e) (x := true) (by kernel_rfl))
  exact .inr ⟨⟨5, false, hgd, fun h => by
    have h2 := e5.symm.trans (show a.eval (.tmp 44) = .bool false from h)
    simp at h2⟩, rfl⟩
set_option maxHeartbeats 1000000 in
theorem cpA_op8 (haft : ∀ j, (o.after.any fun e => decide (e.on = j) && Region.binds .any e) = true → cpAS b off np cp kk x j (a.eval (.tmp (cpD j))) W) (ho : cpReg[8]? = some o) : cpAOk b off np cp kk x Q a W 8 o := by
  have hgd := op_at ho (·.guard) (x := some (5, false)) (by kernel_rfl)
  have e5 : a.eval (.tmp 44) = .bool true := haft 5 (op_at ho (fun o => o.after.any fun e => decide (e.on = 5) && Region.binds .any e) (x := true) (by kernel_rfl))
  exact .inr ⟨⟨5, false, hgd, fun h => by
    have h2 := e5.symm.trans (show a.eval (.tmp 44) = .bool false from h)
    simp at h2⟩, rfl⟩
set_option maxHeartbeats 1000000 in
theorem cpA_op9 (haft : ∀ j, (o.after.any fun e => decide (e.on = j) && Region.binds .any e) = true → cpAS b off np cp kk x j (a.eval (.tmp (cpD j))) W) (ho : cpReg[9]? = some o) : cpAOk b off np cp kk x Q a W 9 o := by
  have hgd := op_at ho (·.guard) (x := some (5, false)) (by kernel_rfl)
  have e5 : a.eval (.tmp 44) = .bool true := haft 5 (op_at ho (fun o => o.after.any fun e => decide (e.on = 5) && Region.binds .any e) (x := true) (by kernel_rfl))
  exact .inr ⟨⟨5, false, hgd, fun h => by
    have h2 := e5.symm.trans (show a.eval (.tmp 44) = .bool false from h)
    simp at h2⟩, rfl⟩
set_option maxHeartbeats 1000000 in
theorem cpA_op10 (haft : ∀ j, (o.after.any fun e => decide (e.on = j) && Region.binds .any e) = true → cpAS b off np cp kk x j (a.eval (.tmp (cpD j))) W) (ho : cpReg[10]? = some o) : cpAOk b off np cp kk x Q a W 10 o := by
  have hgd := op_at ho (·.guard) (x := some (5, false)) (by kernel_rfl)
  have e5 : a.eval (.tmp 44) = .bool true := haft 5 (op_at ho (fun o => o.after.any fun e => decide (e.on = 5) && Region.binds .any e) (x := true) (by kernel_rfl))
  exact .inr ⟨⟨5, false, hgd, fun h => by
    have h2 := e5.symm.trans (show a.eval (.tmp 44) = .bool false from h)
    simp at h2⟩, rfl⟩
set_option maxHeartbeats 1000000 in
theorem cpA_op11 (haft : ∀ j, (o.after.any fun e => decide (e.on = j) && Region.binds .any e) = true → cpAS b off np cp kk x j (a.eval (.tmp (cpD j))) W) (ho : cpReg[11]? = some o) : cpAOk b off np cp kk x Q a W 11 o := by
  have hgd := op_at ho (·.guard) (x := some (5, false)) (by kernel_rfl)
  have e5 : a.eval (.tmp 44) = .bool true := haft 5 (op_at ho (fun o => o.after.any fun e => decide (e.on = 5) && Region.binds .any e) (x := true) (by kernel_rfl))
  exact .inr ⟨⟨5, false, hgd, fun h => by
    have h2 := e5.symm.trans (show a.eval (.tmp 44) = .bool false from h)
    simp at h2⟩, rfl⟩
set_option maxHeartbeats 1000000 in
theorem cpA_op12 (haft : ∀ j, (o.after.any fun e => decide (e.on = j) && Region.binds .any e) = true → cpAS b off np cp kk x j (a.eval (.tmp (cpD j))) W) (ho : cpReg[12]? = some o) : cpAOk b off np cp kk x Q a W 12 o := by
  have hgd := op_at ho (·.guard) (x := some (5, false)) (by kernel_rfl)
  have e5 : a.eval (.tmp 44) = .bool true := haft 5 (op_at ho (fun o => o.after.any fun e => decide (e.on = 5) && Region.binds .any e) (x := true) (by kernel_rfl))
  exact .inr ⟨⟨5, false, hgd, fun h => by
    have h2 := e5.symm.trans (show a.eval (.tmp 44) = .bool false from h)
    simp at h2⟩, rfl⟩
set_option maxHeartbeats 1000000 in
theorem cpA_op13 (haft : ∀ j, (o.after.any fun e => decide (e.on = j) && Region.binds .any e) = true → cpAS b off np cp kk x j (a.eval (.tmp (cpD j))) W) (ho : cpReg[13]? = some o) : cpAOk b off np cp kk x Q a W 13 o := by
  have hgd := op_at ho (·.guard) (x := some (5, false)) (by kernel_rfl)
  have e5 : a.eval (.tmp 44) = .bool true := haft 5 (op_at ho (fun o => o.after.any fun e => decide (e.on = 5) && Region.binds .any e) (x := true) (by kernel_rfl))
  exact .inr ⟨⟨5, false, hgd, fun h => by
    have h2 := e5.symm.trans (show a.eval (.tmp 44) = .bool false from h)
    simp at h2⟩, rfl⟩
set_option maxHeartbeats 1000000 in
theorem cpA_op14 (haft : ∀ j, (o.after.any fun e => decide (e.on = j) && Region.binds .any e) = true → cpAS b off np cp kk x j (a.eval (.tmp (cpD j))) W) (ho : cpReg[14]? = some o) : cpAOk b off np cp kk x Q a W 14 o := by
  have hgd := op_at ho (·.guard) (x := some (5, false)) (by kernel_rfl)
  have e5 : a.eval (.tmp 44) = .bool true := haft 5 (op_at ho (fun o => o.after.any fun e => decide (e.on = 5) && Region.binds .any e) (x := true) (by kernel_rfl))
  exact .inr ⟨⟨5, false, hgd, fun h => by
    have h2 := e5.symm.trans (show a.eval (.tmp 44) = .bool false from h)
    simp at h2⟩, rfl⟩
set_option maxHeartbeats 1000000 in
theorem cpA_op15 (haft : ∀ j, (o.after.any fun e => decide (e.on = j) && Region.binds .any e) = true → cpAS b off np cp kk x j (a.eval (.tmp (cpD j))) W) (ho : cpReg[15]? = some o) : cpAOk b off np cp kk x Q a W 15 o := by
  have hgd := op_at ho (·.guard) (x := some (5, false)) (by kernel_rfl)
  have e5 : a.eval (.tmp 44) = .bool true := haft 5 (op_at ho (fun o => o.after.any fun e => decide (e.on = 5) && Region.binds .any e) (x := true) (by kernel_rfl))
  exact .inr ⟨⟨5, false, hgd, fun h => by
    have h2 := e5.symm.trans (show a.eval (.tmp 44) = .bool false from h)
    simp at h2⟩, rfl⟩
set_option maxHeartbeats 1000000 in
theorem cpA_op16 (haft : ∀ j, (o.after.any fun e => decide (e.on = j) && Region.binds .any e) = true → cpAS b off np cp kk x j (a.eval (.tmp (cpD j))) W) (ho : cpReg[16]? = some o) : cpAOk b off np cp kk x Q a W 16 o := by
  have hop := op_at ho (·.op) (x := Op.pick (Operand.tmp 44) (Operand.const (Value.bool true)) (Operand.tmp 54)) (by kernel_rfl)
  have hgd := op_at ho (·.guard) (x := none) (by kernel_rfl)
  have e5 : a.eval (.tmp 44) = .bool true := haft 5 (op_at ho (fun o => o.after.any fun e => decide (e.on = 5) && Region.binds .any e) (x := true) (by kernel_rfl))
  refine .inl ⟨fun j b h => (by rw [hgd] at h; cases h), ?_⟩
  exact specs_value (R := fun v W => cpAS b off np cp kk x 16 v W) (v := .bool true) (by simp [execOp, hop, go_sem, ev e5]) rfl (Ext.refl W)
set_option maxRecDepth 100000 in
set_option maxHeartbeats 4000000 in
/-- Region 10 of function 45, one way through it. -/
theorem cpA_wp {id : Nat} (hlen : a.tmps.size = 100) (o3 : a.eval (.tmp 3) = .slice (some ⟨b, off, none⟩) np cp) (o10 : a.eval (.tmp 10) = .int .i64 (kk : Int)) (hlp : (kk : Int) < (np : Int)) (cx : ∀ W, Ext V W → W.cell? ⟨b, off + kk, none⟩ = some (.int .i64 x)) (h1 : x < 0) (K : ∀ W, Ext V W → Q .normal (puts a [(39, .slice (some ⟨b, off, none⟩) np cp), (40, .int .i64 (kk : Int)), (41, .pointer (some ⟨b, off + kk, none⟩)), (42, .int .i64 x), (43, .bool true), (44, .bool true), (45, undef), (46, undef), (47, undef), (48, undef), (49, undef), (50, undef), (51, undef), (52, undef), (53, undef), (54, undef), (55, .bool true)]) W) : (Code.region id cpReg true).wp Tryz.prog Q a V := by
  refine wp_region_maybe (ops := cpReg) (cpAS b off np cp kk x) (Ext V) (by kernel_rfl) (by rw [hlen]; kernel_rfl) ⟨rfl, rfl, rfl, Nat.le_refl _, fun _ _ => rfl⟩ (fun _ _ h e => h.trans e) (fun _ _ _ _ h _ => h) cpD (by kernel_rfl) ?_ ?_
  · intro i o ho a' W hB hsz hold haft
    have hi : i < 17 := by
      have h1 := (Array.getElem?_eq_some_iff.1 ho).1
      have h2 := cp_size
      omega
    match i, hi with
    | 0, _ => exact cpA_op0 ((hold 3 (by kernel_rfl)).trans o3) ho
    | 1, _ => exact cpA_op1 ((hold 10 (by kernel_rfl)).trans o10) ho
    | 2, _ => exact cpA_op2 hlp haft ho
    | 3, _ => exact cpA_op3 cx hB haft ho
    | 4, _ => exact cpA_op4 h1 haft ho
    | 5, _ => exact cpA_op5 haft ho
    | 6, _ => exact cpA_op6 haft ho
    | 7, _ => exact cpA_op7 haft ho
    | 8, _ => exact cpA_op8 haft ho
    | 9, _ => exact cpA_op9 haft ho
    | 10, _ => exact cpA_op10 haft ho
    | 11, _ => exact cpA_op11 haft ho
    | 12, _ => exact cpA_op12 haft ho
    | 13, _ => exact cpA_op13 haft ho
    | 14, _ => exact cpA_op14 haft ho
    | 15, _ => exact cpA_op15 haft ho
    | 16, _ => exact cpA_op16 haft ho
    | m + 17, h => exact absurd h (by omega)
  · intro a1 W hB hsz hdf hold hS
    have hs2 := cp_size
    have hall : ∀ zz, zz ∈ ([(39, .slice (some ⟨b, off, none⟩) np cp), (40, .int .i64 (kk : Int)), (41, .pointer (some ⟨b, off + kk, none⟩)), (42, .int .i64 x), (43, .bool true), (44, .bool true), (45, undef), (46, undef), (47, undef), (48, undef), (49, undef), (50, undef), (51, undef), (52, undef), (53, undef), (54, undef), (55, .bool true)] : List (Tmp × Value)) → zz.1 < a.tmps.size ∧ a1.eval (.tmp zz.1) = zz.2 := by
      intro zz hz
      rw [hlen]
      simp only [List.mem_cons, List.not_mem_nil, or_false] at hz
      rcases hz with rfl | rfl | rfl | rfl | rfl | rfl | rfl | rfl | rfl | rfl | rfl | rfl | rfl | rfl | rfl | rfl | rfl
      · exact ⟨(show (39 : Nat) < 100 by omega), hS 0 (by omega)⟩
      · exact ⟨(show (40 : Nat) < 100 by omega), hS 1 (by omega)⟩
      · exact ⟨(show (41 : Nat) < 100 by omega), hS 2 (by omega)⟩
      · exact ⟨(show (42 : Nat) < 100 by omega), hS 3 (by omega)⟩
      · exact ⟨(show (43 : Nat) < 100 by omega), hS 4 (by omega)⟩
      · exact ⟨(show (44 : Nat) < 100 by omega), hS 5 (by omega)⟩
      · exact ⟨(show (45 : Nat) < 100 by omega), hS 6 (by omega)⟩
      · exact ⟨(show (46 : Nat) < 100 by omega), hS 7 (by omega)⟩
      · exact ⟨(show (47 : Nat) < 100 by omega), hS 8 (by omega)⟩
      · exact ⟨(show (48 : Nat) < 100 by omega), hS 9 (by omega)⟩
      · exact ⟨(show (49 : Nat) < 100 by omega), hS 10 (by omega)⟩
      · exact ⟨(show (50 : Nat) < 100 by omega), hS 11 (by omega)⟩
      · exact ⟨(show (51 : Nat) < 100 by omega), hS 12 (by omega)⟩
      · exact ⟨(show (52 : Nat) < 100 by omega), hS 13 (by omega)⟩
      · exact ⟨(show (53 : Nat) < 100 by omega), hS 14 (by omega)⟩
      · exact ⟨(show (54 : Nat) < 100 by omega), hS 15 (by omega)⟩
      · exact ⟨(show (55 : Nat) < 100 by omega), hS 16 (by omega)⟩
    have ha := act_puts hsz hdf hall (fun t ht => hold t (by rw [hs2]; exact all_ne_of (l := [(39, .slice (some ⟨b, off, none⟩) np cp), (40, .int .i64 (kk : Int)), (41, .pointer (some ⟨b, off + kk, none⟩)), (42, .int .i64 x), (43, .bool true), (44, .bool true), (45, undef), (46, undef), (47, undef), (48, undef), (49, undef), (50, undef), (51, undef), (52, undef), (53, undef), (54, undef), (55, .bool true)]) (by kernel_rfl) ht))
    rw [ha]
    exact K W hB
end
/-- What each operation yields. -/
def cpBS (b off np cp bo oo nn cc kk : Nat) (x y : Int) (ix : Nat) (v : Value) (_ : World) : Prop :=
  match ix with
  | 0 => v = .slice (some ⟨b, off, none⟩) np cp
  | 1 => v = .int .i64 (kk : Int)
  | 2 => v = .pointer (some ⟨b, off + kk, none⟩)
  | 3 => v = .int .i64 x
  | 4 => v = .bool false
  | 5 => v = .bool false
  | 6 => v = .slice (some ⟨b, off, none⟩) np cp
  | 7 => v = .int .i64 (kk : Int)
  | 8 => v = .pointer (some ⟨b, off + kk, none⟩)
  | 9 => v = .int .i64 x
  | 10 => v = .slice (some ⟨bo, oo, none⟩) nn cc
  | 11 => v = .int .i64 (kk : Int)
  | 12 => v = .pointer (some ⟨bo, oo + kk * 5, none⟩)
  | 13 => v = .pointer (some ⟨bo, oo + kk * 5 + 4, none⟩)
  | 14 => v = .int .i64 y
  | 15 => v = .bool (decide (y < x))
  | 16 => v = .bool (decide (y < x))
  | _ => True
def cpBOk (b off np cp bo oo nn cc kk : Nat) (x y : Int) (Q : Exit → Act → World → Prop) (a : Act) (W : World) (ix : Nat) (o : Oper) : Prop :=
  ((∀ j b, o.guard = some (j, b) → a.eval (.tmp (cpD j)) = .bool b) ∧ o.wp Tryz.prog a W (fun a'' W' => ∃ v, a'' = a.put o.dst v ∧ cpBS b off np cp bo oo nn cc kk x y ix v W' ∧ Below W.heap.size W W') Q) ∨ ((∃ j b, o.guard = some (j, b) ∧ a.eval (.tmp (cpD j)) ≠ .bool b) ∧ cpBS b off np cp bo oo nn cc kk x y ix undef W)
section
variable {b off np cp bo oo nn cc kk : Nat} {x y : Int} {Q : Exit → Act → World → Prop} {a : Act} {V W : World} {o : Oper}
set_option maxHeartbeats 1000000 in
theorem cpB_op0 (o3 : a.eval (.tmp 3) = .slice (some ⟨b, off, none⟩) np cp) (ho : cpReg[0]? = some o) : cpBOk b off np cp bo oo nn cc kk x y Q a W 0 o := by
  have hop := op_at ho (·.op) (x := Op.move (Operand.tmp 3)) (by kernel_rfl)
  have hgd := op_at ho (·.guard) (x := none) (by kernel_rfl)
  refine .inl ⟨fun j b h => (by rw [hgd] at h; cases h), ?_⟩
  exact specs_value (R := fun v W => cpBS b off np cp bo oo nn cc kk x y 0 v W) (v := .slice (some ⟨b, off, none⟩) np cp) (by simp [execOp, hop, go_sem, ev o3]) rfl (Ext.refl W)
set_option maxHeartbeats 1000000 in
theorem cpB_op1 (o10 : a.eval (.tmp 10) = .int .i64 (kk : Int)) (ho : cpReg[1]? = some o) : cpBOk b off np cp bo oo nn cc kk x y Q a W 1 o := by
  have hop := op_at ho (·.op) (x := Op.move (Operand.tmp 10)) (by kernel_rfl)
  have hgd := op_at ho (·.guard) (x := none) (by kernel_rfl)
  refine .inl ⟨fun j b h => (by rw [hgd] at h; cases h), ?_⟩
  exact specs_value (R := fun v W => cpBS b off np cp bo oo nn cc kk x y 1 v W) (v := .int .i64 (kk : Int)) (by simp [execOp, hop, go_sem, ev o10]) rfl (Ext.refl W)
set_option maxHeartbeats 1000000 in
theorem cpB_op2 (hlp : (kk : Int) < (np : Int)) (haft : ∀ j, (o.after.any fun e => decide (e.on = j) && Region.binds .any e) = true → cpBS b off np cp bo oo nn cc kk x y j (a.eval (.tmp (cpD j))) W) (ho : cpReg[2]? = some o) : cpBOk b off np cp bo oo nn cc kk x y Q a W 2 o := by
  have hop := op_at ho (·.op) (x := Op.indexAddr 36 (Operand.tmp 39) (Operand.tmp 40)) (by kernel_rfl)
  have hgd := op_at ho (·.guard) (x := none) (by kernel_rfl)
  have e0 : a.eval (.tmp 39) = .slice (some ⟨b, off, none⟩) np cp := haft 0 (op_at ho (fun o => o.after.any fun e => decide (e.on = 0) && Region.binds .any e) (x := true) (by kernel_rfl))
  have e1 : a.eval (.tmp 40) = .int .i64 (kk : Int) := haft 1 (op_at ho (fun o => o.after.any fun e => decide (e.on = 1) && Region.binds .any e) (x := true) (by kernel_rfl))
  refine .inl ⟨fun j b h => (by rw [hgd] at h; cases h), ?_⟩
  exact specs_value (R := fun v W => cpBS b off np cp bo oo nn cc kk x y 2 v W) (v := .pointer (some ⟨b, off + kk, none⟩)) (by simp [execOp, hop, go_sem, ev e0, ev e1, hlp]) rfl (Ext.refl W)
set_option maxHeartbeats 1000000 in
theorem cpB_op3 (cx : ∀ W, Ext V W → W.cell? ⟨b, off + kk, none⟩ = some (.int .i64 x)) (hB : Ext V W) (haft : ∀ j, (o.after.any fun e => decide (e.on = j) && Region.binds .any e) = true → cpBS b off np cp bo oo nn cc kk x y j (a.eval (.tmp (cpD j))) W) (ho : cpReg[3]? = some o) : cpBOk b off np cp bo oo nn cc kk x y Q a W 3 o := by
  have hop := op_at ho (·.op) (x := Op.load 2 (Operand.tmp 41)) (by kernel_rfl)
  have hgd := op_at ho (·.guard) (x := none) (by kernel_rfl)
  have e2 : a.eval (.tmp 41) = .pointer (some ⟨b, off + kk, none⟩) := haft 2 (op_at ho (fun o => o.after.any fun e => decide (e.on = 2) && Region.binds .any e) (x := true) (by kernel_rfl))
  refine .inl ⟨fun j b h => (by rw [hgd] at h; cases h), ?_⟩
  have cx' := cx W hB
  exact specs_value (R := fun v W => cpBS b off np cp bo oo nn cc kk x y 3 v W) (v := .int .i64 x) (by simp [execOp, hop, go_sem, ev e2, cx']) rfl (Ext.refl W)
set_option maxHeartbeats 1000000 in
theorem cpB_op4 (h1 : ¬ x < 0) (haft : ∀ j, (o.after.any fun e => decide (e.on = j) && Region.binds .any e) = true → cpBS b off np cp bo oo nn cc kk x y j (a.eval (.tmp (cpD j))) W) (ho : cpReg[4]? = some o) : cpBOk b off np cp bo oo nn cc kk x y Q a W 4 o := by
  have hop := op_at ho (·.op) (x := Op.binOp BinOp.lss 2 (Operand.tmp 42) (Operand.const (Value.int IntKind.i64 0)) 2) (by kernel_rfl)
  have hgd := op_at ho (·.guard) (x := none) (by kernel_rfl)
  have e3 : a.eval (.tmp 42) = .int .i64 x := haft 3 (op_at ho (fun o => o.after.any fun e => decide (e.on = 3) && Region.binds .any e) (x := true) (by kernel_rfl))
  refine .inl ⟨fun j b h => (by rw [hgd] at h; cases h), ?_⟩
  exact specs_value (R := fun v W => cpBS b off np cp bo oo nn cc kk x y 4 v W) (v := .bool false) (by simp [execOp, hop, go_sem, ev e3, h1]) rfl (Ext.refl W)
set_option maxHeartbeats 1000000 in
theorem cpB_op5 (haft : ∀ j, (o.after.any fun e => decide (e.on = j) && Region.binds .any e) = true → cpBS b off np cp bo oo nn cc kk x y j (a.eval (.tmp (cpD j))) W) (ho : cpReg[5]? = some o) : cpBOk b off np cp bo oo nn cc kk x y Q a W 5 o := by
  have hop := op_at ho (·.op) (x := Op.move (Operand.tmp 43)) (by kernel_rfl)
  have hgd := op_at ho (·.guard) (x := none) (by kernel_rfl)
  have e4 : a.eval (.tmp 43) = .bool false := haft 4 (op_at ho (fun o => o.after.any fun e => decide (e.on = 4) && Region.binds .any e) (x := true) (by kernel_rfl))
  refine .inl ⟨fun j b h => (by rw [hgd] at h; cases h), ?_⟩
  exact specs_value (R := fun v W => cpBS b off np cp bo oo nn cc kk x y 5 v W) (v := .bool false) (by simp [execOp, hop, go_sem, ev e4]) rfl (Ext.refl W)
set_option maxHeartbeats 1000000 in
theorem cpB_op6 (o3 : a.eval (.tmp 3) = .slice (some ⟨b, off, none⟩) np cp) (haft : ∀ j, (o.after.any fun e => decide (e.on = j) && Region.binds .any e) = true → cpBS b off np cp bo oo nn cc kk x y j (a.eval (.tmp (cpD j))) W) (ho : cpReg[6]? = some o) : cpBOk b off np cp bo oo nn cc kk x y Q a W 6 o := by
  have hop := op_at ho (·.op) (x := Op.move (Operand.tmp 3)) (by kernel_rfl)
  have hgd := op_at ho (·.guard) (x := some (5, false)) (by kernel_rfl)
  have e5 : a.eval (.tmp 44) = .bool false := haft 5 (op_at ho (fun o => o.after.any fun e => decide (e.on = 5) && Region.binds .any e) (x := true) (by kernel_rfl))
  refine .inl ⟨fun j b h => (by rw [hgd] at h; cases h; exact e5), ?_⟩
  exact specs_value (R := fun v W => cpBS b off np cp bo oo nn cc kk x y 6 v W) (v := .slice (some ⟨b, off, none⟩) np cp) (by simp [execOp, hop, go_sem, ev o3]) rfl (Ext.refl W)
set_option maxHeartbeats 1000000 in
theorem cpB_op7 (o10 : a.eval (.tmp 10) = .int .i64 (kk : Int)) (haft : ∀ j, (o.after.any fun e => decide (e.on = j) && Region.binds .any e) = true → cpBS b off np cp bo oo nn cc kk x y j (a.eval (.tmp (cpD j))) W) (ho : cpReg[7]? = some o) : cpBOk b off np cp bo oo nn cc kk x y Q a W 7 o := by
  have hop := op_at ho (·.op) (x := Op.move (Operand.tmp 10)) (by kernel_rfl)
  have hgd := op_at ho (·.guard) (x := some (5, false)) (by kernel_rfl)
  have e5 : a.eval (.tmp 44) = .bool false := haft 5 (op_at ho (fun o => o.after.any fun e => decide (e.on = 5) && Region.binds .any e) (x := true) (by kernel_rfl))
  refine .inl ⟨fun j b h => (by rw [hgd] at h; cases h; exact e5), ?_⟩
  exact specs_value (R := fun v W => cpBS b off np cp bo oo nn cc kk x y 7 v W) (v := .int .i64 (kk : Int)) (by simp [execOp, hop, go_sem, ev o10]) rfl (Ext.refl W)
set_option maxHeartbeats 1000000 in
theorem cpB_op8 (hlp : (kk : Int) < (np : Int)) (haft : ∀ j, (o.after.any fun e => decide (e.on = j) && Region.binds .any e) = true → cpBS b off np cp bo oo nn cc kk x y j (a.eval (.tmp (cpD j))) W) (ho : cpReg[8]? = some o) : cpBOk b off np cp bo oo nn cc kk x y Q a W 8 o := by
  have hop := op_at ho (·.op) (x := Op.indexAddr 36 (Operand.tmp 45) (Operand.tmp 46)) (by kernel_rfl)
  have hgd := op_at ho (·.guard) (x := some (5, false)) (by kernel_rfl)
  have e5 : a.eval (.tmp 44) = .bool false := haft 5 (op_at ho (fun o => o.after.any fun e => decide (e.on = 5) && Region.binds .any e) (x := true) (by kernel_rfl))
  have e6 : a.eval (.tmp 45) = .slice (some ⟨b, off, none⟩) np cp := haft 6 (op_at ho (fun o => o.after.any fun e => decide (e.on = 6) && Region.binds .any e) (x := true) (by kernel_rfl))
  have e7 : a.eval (.tmp 46) = .int .i64 (kk : Int) := haft 7 (op_at ho (fun o => o.after.any fun e => decide (e.on = 7) && Region.binds .any e) (x := true) (by kernel_rfl))
  refine .inl ⟨fun j b h => (by rw [hgd] at h; cases h; exact e5), ?_⟩
  exact specs_value (R := fun v W => cpBS b off np cp bo oo nn cc kk x y 8 v W) (v := .pointer (some ⟨b, off + kk, none⟩)) (by simp [execOp, hop, go_sem, ev e6, ev e7, hlp]) rfl (Ext.refl W)
set_option maxHeartbeats 1000000 in
theorem cpB_op9 (cx : ∀ W, Ext V W → W.cell? ⟨b, off + kk, none⟩ = some (.int .i64 x)) (hB : Ext V W) (haft : ∀ j, (o.after.any fun e => decide (e.on = j) && Region.binds .any e) = true → cpBS b off np cp bo oo nn cc kk x y j (a.eval (.tmp (cpD j))) W) (ho : cpReg[9]? = some o) : cpBOk b off np cp bo oo nn cc kk x y Q a W 9 o := by
  have hop := op_at ho (·.op) (x := Op.load 2 (Operand.tmp 47)) (by kernel_rfl)
  have hgd := op_at ho (·.guard) (x := some (5, false)) (by kernel_rfl)
  have e5 : a.eval (.tmp 44) = .bool false := haft 5 (op_at ho (fun o => o.after.any fun e => decide (e.on = 5) && Region.binds .any e) (x := true) (by kernel_rfl))
  have e8 : a.eval (.tmp 47) = .pointer (some ⟨b, off + kk, none⟩) := haft 8 (op_at ho (fun o => o.after.any fun e => decide (e.on = 8) && Region.binds .any e) (x := true) (by kernel_rfl))
  refine .inl ⟨fun j b h => (by rw [hgd] at h; cases h; exact e5), ?_⟩
  have cx' := cx W hB
  exact specs_value (R := fun v W => cpBS b off np cp bo oo nn cc kk x y 9 v W) (v := .int .i64 x) (by simp [execOp, hop, go_sem, ev e8, cx']) rfl (Ext.refl W)
set_option maxHeartbeats 1000000 in
theorem cpB_op10 (o0 : a.eval (.tmp 0) = .slice (some ⟨bo, oo, none⟩) nn cc) (haft : ∀ j, (o.after.any fun e => decide (e.on = j) && Region.binds .any e) = true → cpBS b off np cp bo oo nn cc kk x y j (a.eval (.tmp (cpD j))) W) (ho : cpReg[10]? = some o) : cpBOk b off np cp bo oo nn cc kk x y Q a W 10 o := by
  have hop := op_at ho (·.op) (x := Op.move (Operand.tmp 0)) (by kernel_rfl)
  have hgd := op_at ho (·.guard) (x := some (5, false)) (by kernel_rfl)
  have e5 : a.eval (.tmp 44) = .bool false := haft 5 (op_at ho (fun o => o.after.any fun e => decide (e.on = 5) && Region.binds .any e) (x := true) (by kernel_rfl))
  refine .inl ⟨fun j b h => (by rw [hgd] at h; cases h; exact e5), ?_⟩
  exact specs_value (R := fun v W => cpBS b off np cp bo oo nn cc kk x y 10 v W) (v := .slice (some ⟨bo, oo, none⟩) nn cc) (by simp [execOp, hop, go_sem, ev o0]) rfl (Ext.refl W)
set_option maxHeartbeats 1000000 in
theorem cpB_op11 (o10 : a.eval (.tmp 10) = .int .i64 (kk : Int)) (haft : ∀ j, (o.after.any fun e => decide (e.on = j) && Region.binds .any e) = true → cpBS b off np cp bo oo nn cc kk x y j (a.eval (.tmp (cpD j))) W) (ho : cpReg[11]? = some o) : cpBOk b off np cp bo oo nn cc kk x y Q a W 11 o := by
  have hop := op_at ho (·.op) (x := Op.move (Operand.tmp 10)) (by kernel_rfl)
  have hgd := op_at ho (·.guard) (x := some (5, false)) (by kernel_rfl)
  have e5 : a.eval (.tmp 44) = .bool false := haft 5 (op_at ho (fun o => o.after.any fun e => decide (e.on = 5) && Region.binds .any e) (x := true) (by kernel_rfl))
  refine .inl ⟨fun j b h => (by rw [hgd] at h; cases h; exact e5), ?_⟩
  exact specs_value (R := fun v W => cpBS b off np cp bo oo nn cc kk x y 11 v W) (v := .int .i64 (kk : Int)) (by simp [execOp, hop, go_sem, ev o10]) rfl (Ext.refl W)
set_option maxHeartbeats 1000000 in
theorem cpB_op12 (hlt : (kk : Int) < (nn : Int)) (haft : ∀ j, (o.after.any fun e => decide (e.on = j) && Region.binds .any e) = true → cpBS b off np cp bo oo nn cc kk x y j (a.eval (.tmp (cpD j))) W) (ho : cpReg[12]? = some o) : cpBOk b off np cp bo oo nn cc kk x y Q a W 12 o := by
  have hop := op_at ho (·.op) (x := Op.indexAddr 22 (Operand.tmp 49) (Operand.tmp 50)) (by kernel_rfl)
  have hgd := op_at ho (·.guard) (x := some (5, false)) (by kernel_rfl)
  have e5 : a.eval (.tmp 44) = .bool false := haft 5 (op_at ho (fun o => o.after.any fun e => decide (e.on = 5) && Region.binds .any e) (x := true) (by kernel_rfl))
  have e10 : a.eval (.tmp 49) = .slice (some ⟨bo, oo, none⟩) nn cc := haft 10 (op_at ho (fun o => o.after.any fun e => decide (e.on = 10) && Region.binds .any e) (x := true) (by kernel_rfl))
  have e11 : a.eval (.tmp 50) = .int .i64 (kk : Int) := haft 11 (op_at ho (fun o => o.after.any fun e => decide (e.on = 11) && Region.binds .any e) (x := true) (by kernel_rfl))
  refine .inl ⟨fun j b h => (by rw [hgd] at h; cases h; exact e5), ?_⟩
  exact specs_value (R := fun v W => cpBS b off np cp bo oo nn cc kk x y 12 v W) (v := .pointer (some ⟨bo, oo + kk * 5, none⟩)) (by simp [execOp, hop, go_sem, ev e10, ev e11, hlt]) rfl (Ext.refl W)
set_option maxHeartbeats 1000000 in
theorem cpB_op13 (haft : ∀ j, (o.after.any fun e => decide (e.on = j) && Region.binds .any e) = true → cpBS b off np cp bo oo nn cc kk x y j (a.eval (.tmp (cpD j))) W) (ho : cpReg[13]? = some o) : cpBOk b off np cp bo oo nn cc kk x y Q a W 13 o := by
  have hop := op_at ho (·.op) (x := Op.fieldAddr 56 (Operand.tmp 51) 2) (by kernel_rfl)
  have hgd := op_at ho (·.guard) (x := some (5, false)) (by kernel_rfl)
  have e5 : a.eval (.tmp 44) = .bool false := haft 5 (op_at ho (fun o => o.after.any fun e => decide (e.on = 5) && Region.binds .any e) (x := true) (by kernel_rfl))
  have e12 : a.eval (.tmp 51) = .pointer (some ⟨bo, oo + kk * 5, none⟩) := haft 12 (op_at ho (fun o => o.after.any fun e => decide (e.on = 12) && Region.binds .any e) (x := true) (by kernel_rfl))
  refine .inl ⟨fun j b h => (by rw [hgd] at h; cases h; exact e5), ?_⟩
  exact specs_value (R := fun v W => cpBS b off np cp bo oo nn cc kk x y 13 v W) (v := .pointer (some ⟨bo, oo + kk * 5 + 4, none⟩)) (by simp [execOp, hop, go_sem, ev e12]) rfl (Ext.refl W)
set_option maxHeartbeats 1000000 in
theorem cpB_op14 (cw : ∀ W, Ext V W → W.cell? ⟨bo, oo + kk * 5 + 4, none⟩ = some (.int .i64 y)) (hB : Ext V W) (haft : ∀ j, (o.after.any fun e => decide (e.on = j) && Region.binds .any e) = true → cpBS b off np cp bo oo nn cc kk x y j (a.eval (.tmp (cpD j))) W) (ho : cpReg[14]? = some o) : cpBOk b off np cp bo oo nn cc kk x y Q a W 14 o := by
  have hop := op_at ho (·.op) (x := Op.load 2 (Operand.tmp 52)) (by kernel_rfl)
  have hgd := op_at ho (·.guard) (x := some (5, false)) (by kernel_rfl)
  have e5 : a.eval (.tmp 44) = .bool false := haft 5 (op_at ho (fun o => o.after.any fun e => decide (e.on = 5) && Region.binds .any e) (x := true) (by kernel_rfl))
  have e13 : a.eval (.tmp 52) = .pointer (some ⟨bo, oo + kk * 5 + 4, none⟩) := haft 13 (op_at ho (fun o => o.after.any fun e => decide (e.on = 13) && Region.binds .any e) (x := true) (by kernel_rfl))
  refine .inl ⟨fun j b h => (by rw [hgd] at h; cases h; exact e5), ?_⟩
  have cw' := cw W hB
  exact specs_value (R := fun v W => cpBS b off np cp bo oo nn cc kk x y 14 v W) (v := .int .i64 y) (by simp [execOp, hop, go_sem, ev e13, cw']) rfl (Ext.refl W)
set_option maxHeartbeats 1000000 in
theorem cpB_op15 (haft : ∀ j, (o.after.any fun e => decide (e.on = j) && Region.binds .any e) = true → cpBS b off np cp bo oo nn cc kk x y j (a.eval (.tmp (cpD j))) W) (ho : cpReg[15]? = some o) : cpBOk b off np cp bo oo nn cc kk x y Q a W 15 o := by
  have hop := op_at ho (·.op) (x := Op.binOp BinOp.gtr 2 (Operand.tmp 48) (Operand.tmp 53) 2) (by kernel_rfl)
  have hgd := op_at ho (·.guard) (x := some (5, false)) (by kernel_rfl)
  have e5 : a.eval (.tmp 44) = .bool false := haft 5 (op_at ho (fun o => o.after.any fun e => decide (e.on = 5) && Region.binds .any e) (x := true) (by kernel_rfl))
  have e9 : a.eval (.tmp 48) = .int .i64 x := haft 9 (op_at ho (fun o => o.after.any fun e => decide (e.on = 9) && Region.binds .any e) (x := true) (by kernel_rfl))
  have e14 : a.eval (.tmp 53) = .int .i64 y := haft 14 (op_at ho (fun o => o.after.any fun e => decide (e.on = 14) && Region.binds .any e) (x := true) (by kernel_rfl))
  refine .inl ⟨fun j b h => (by rw [hgd] at h; cases h; exact e5), ?_⟩
  exact specs_value (R := fun v W => cpBS b off np cp bo oo nn cc kk x y 15 v W) (v := .bool (decide (y < x))) (by simp [execOp, hop, go_sem, ev e9, ev e14]) rfl (Ext.refl W)
set_option maxHeartbeats 1000000 in
theorem cpB_op16 (haft : ∀ j, (o.after.any fun e => decide (e.on = j) && Region.binds .any e) = true → cpBS b off np cp bo oo nn cc kk x y j (a.eval (.tmp (cpD j))) W) (ho : cpReg[16]? = some o) : cpBOk b off np cp bo oo nn cc kk x y Q a W 16 o := by
  have hop := op_at ho (·.op) (x := Op.pick (Operand.tmp 44) (Operand.const (Value.bool true)) (Operand.tmp 54)) (by kernel_rfl)
  have hgd := op_at ho (·.guard) (x := none) (by kernel_rfl)
  have e5 : a.eval (.tmp 44) = .bool false := haft 5 (op_at ho (fun o => o.after.any fun e => decide (e.on = 5) && Region.binds .any e) (x := true) (by kernel_rfl))
  have e15 : a.eval (.tmp 54) = .bool (decide (y < x)) := haft 15 (op_at ho (fun o => o.after.any fun e => decide (e.on = 15) && Region.binds .any e) (x := true) (by kernel_rfl))
  refine .inl ⟨fun j b h => (by rw [hgd] at h; cases h), ?_⟩
  exact specs_value (R := fun v W => cpBS b off np cp bo oo nn cc kk x y 16 v W) (v := .bool (decide (y < x))) (by simp [execOp, hop, go_sem, ev e5, ev e15]) rfl (Ext.refl W)
set_option maxRecDepth 100000 in
set_option maxHeartbeats 4000000 in
/-- Region 10 of function 45, one way through it. -/
theorem cpB_wp {id : Nat} (hlen : a.tmps.size = 100) (o0 : a.eval (.tmp 0) = .slice (some ⟨bo, oo, none⟩) nn cc) (o3 : a.eval (.tmp 3) = .slice (some ⟨b, off, none⟩) np cp) (o10 : a.eval (.tmp 10) = .int .i64 (kk : Int)) (hlp : (kk : Int) < (np : Int)) (cx : ∀ W, Ext V W → W.cell? ⟨b, off + kk, none⟩ = some (.int .i64 x)) (h1 : ¬ x < 0) (hlt : (kk : Int) < (nn : Int)) (cw : ∀ W, Ext V W → W.cell? ⟨bo, oo + kk * 5 + 4, none⟩ = some (.int .i64 y)) (K : ∀ W, Ext V W → Q .normal (puts a [(39, .slice (some ⟨b, off, none⟩) np cp), (40, .int .i64 (kk : Int)), (41, .pointer (some ⟨b, off + kk, none⟩)), (42, .int .i64 x), (43, .bool false), (44, .bool false), (45, .slice (some ⟨b, off, none⟩) np cp), (46, .int .i64 (kk : Int)), (47, .pointer (some ⟨b, off + kk, none⟩)), (48, .int .i64 x), (49, .slice (some ⟨bo, oo, none⟩) nn cc), (50, .int .i64 (kk : Int)), (51, .pointer (some ⟨bo, oo + kk * 5, none⟩)), (52, .pointer (some ⟨bo, oo + kk * 5 + 4, none⟩)), (53, .int .i64 y), (54, .bool (decide (y < x))), (55, .bool (decide (y < x)))]) W) : (Code.region id cpReg true).wp Tryz.prog Q a V := by
  refine wp_region_maybe (ops := cpReg) (cpBS b off np cp bo oo nn cc kk x y) (Ext V) (by kernel_rfl) (by rw [hlen]; kernel_rfl) ⟨rfl, rfl, rfl, Nat.le_refl _, fun _ _ => rfl⟩ (fun _ _ h e => h.trans e) (fun _ _ _ _ h _ => h) cpD (by kernel_rfl) ?_ ?_
  · intro i o ho a' W hB hsz hold haft
    have hi : i < 17 := by
      have h1 := (Array.getElem?_eq_some_iff.1 ho).1
      have h2 := cp_size
      omega
    match i, hi with
    | 0, _ => exact cpB_op0 ((hold 3 (by kernel_rfl)).trans o3) ho
    | 1, _ => exact cpB_op1 ((hold 10 (by kernel_rfl)).trans o10) ho
    | 2, _ => exact cpB_op2 hlp haft ho
    | 3, _ => exact cpB_op3 cx hB haft ho
    | 4, _ => exact cpB_op4 h1 haft ho
    | 5, _ => exact cpB_op5 haft ho
    | 6, _ => exact cpB_op6 ((hold 3 (by kernel_rfl)).trans o3) haft ho
    | 7, _ => exact cpB_op7 ((hold 10 (by kernel_rfl)).trans o10) haft ho
    | 8, _ => exact cpB_op8 hlp haft ho
    | 9, _ => exact cpB_op9 cx hB haft ho
    | 10, _ => exact cpB_op10 ((hold 0 (by kernel_rfl)).trans o0) haft ho
    | 11, _ => exact cpB_op11 ((hold 10 (by kernel_rfl)).trans o10) haft ho
    | 12, _ => exact cpB_op12 hlt haft ho
    | 13, _ => exact cpB_op13 haft ho
    | 14, _ => exact cpB_op14 cw hB haft ho
    | 15, _ => exact cpB_op15 haft ho
    | 16, _ => exact cpB_op16 haft ho
    | m + 17, h => exact absurd h (by omega)
  · intro a1 W hB hsz hdf hold hS
    have hs2 := cp_size
    have hall : ∀ zz, zz ∈ ([(39, .slice (some ⟨b, off, none⟩) np cp), (40, .int .i64 (kk : Int)), (41, .pointer (some ⟨b, off + kk, none⟩)), (42, .int .i64 x), (43, .bool false), (44, .bool false), (45, .slice (some ⟨b, off, none⟩) np cp), (46, .int .i64 (kk : Int)), (47, .pointer (some ⟨b, off + kk, none⟩)), (48, .int .i64 x), (49, .slice (some ⟨bo, oo, none⟩) nn cc), (50, .int .i64 (kk : Int)), (51, .pointer (some ⟨bo, oo + kk * 5, none⟩)), (52, .pointer (some ⟨bo, oo + kk * 5 + 4, none⟩)), (53, .int .i64 y), (54, .bool (decide (y < x))), (55, .bool (decide (y < x)))] : List (Tmp × Value)) → zz.1 < a.tmps.size ∧ a1.eval (.tmp zz.1) = zz.2 := by
      intro zz hz
      rw [hlen]
      simp only [List.mem_cons, List.not_mem_nil, or_false] at hz
      rcases hz with rfl | rfl | rfl | rfl | rfl | rfl | rfl | rfl | rfl | rfl | rfl | rfl | rfl | rfl | rfl | rfl | rfl
      · exact ⟨(show (39 : Nat) < 100 by omega), hS 0 (by omega)⟩
      · exact ⟨(show (40 : Nat) < 100 by omega), hS 1 (by omega)⟩
      · exact ⟨(show (41 : Nat) < 100 by omega), hS 2 (by omega)⟩
      · exact ⟨(show (42 : Nat) < 100 by omega), hS 3 (by omega)⟩
      · exact ⟨(show (43 : Nat) < 100 by omega), hS 4 (by omega)⟩
      · exact ⟨(show (44 : Nat) < 100 by omega), hS 5 (by omega)⟩
      · exact ⟨(show (45 : Nat) < 100 by omega), hS 6 (by omega)⟩
      · exact ⟨(show (46 : Nat) < 100 by omega), hS 7 (by omega)⟩
      · exact ⟨(show (47 : Nat) < 100 by omega), hS 8 (by omega)⟩
      · exact ⟨(show (48 : Nat) < 100 by omega), hS 9 (by omega)⟩
      · exact ⟨(show (49 : Nat) < 100 by omega), hS 10 (by omega)⟩
      · exact ⟨(show (50 : Nat) < 100 by omega), hS 11 (by omega)⟩
      · exact ⟨(show (51 : Nat) < 100 by omega), hS 12 (by omega)⟩
      · exact ⟨(show (52 : Nat) < 100 by omega), hS 13 (by omega)⟩
      · exact ⟨(show (53 : Nat) < 100 by omega), hS 14 (by omega)⟩
      · exact ⟨(show (54 : Nat) < 100 by omega), hS 15 (by omega)⟩
      · exact ⟨(show (55 : Nat) < 100 by omega), hS 16 (by omega)⟩
    have ha := act_puts hsz hdf hall (fun t ht => hold t (by rw [hs2]; exact all_ne_of (l := [(39, .slice (some ⟨b, off, none⟩) np cp), (40, .int .i64 (kk : Int)), (41, .pointer (some ⟨b, off + kk, none⟩)), (42, .int .i64 x), (43, .bool false), (44, .bool false), (45, .slice (some ⟨b, off, none⟩) np cp), (46, .int .i64 (kk : Int)), (47, .pointer (some ⟨b, off + kk, none⟩)), (48, .int .i64 x), (49, .slice (some ⟨bo, oo, none⟩) nn cc), (50, .int .i64 (kk : Int)), (51, .pointer (some ⟨bo, oo + kk * 5, none⟩)), (52, .pointer (some ⟨bo, oo + kk * 5 + 4, none⟩)), (53, .int .i64 y), (54, .bool (decide (y < x))), (55, .bool (decide (y < x)))]) (by kernel_rfl) ht))
    rw [ha]
    exact K W hB
end

/-- The slots of region 16 of function 45. -/
def cp16D (i : Nat) : Tmp := if i = 0 then 65 else if i = 1 then 66 else if i = 2 then 67 else if i = 3 then 68 else if i = 4 then 69 else if i = 5 then 70 else if i = 6 then 71 else if i = 7 then 72 else if i = 8 then 73 else if i = 9 then 74 else if i = 10 then 75 else 76
/-- What each operation yields. -/
def cp16S (b off np cp bo oo nn cc kk : Nat) (x y s t u : Int) (ix : Nat) (v : Value) (_W : World) : Prop :=
  match ix with
  | 0 => v = .int .i64 s
  | 1 => v = .slice (some ⟨bo, oo, none⟩) nn cc
  | 2 => v = .int .i64 (kk : Int)
  | 3 => v = .pointer (some ⟨bo, oo + kk * 5, none⟩)
  | 4 => v = .pointer (some ⟨bo, oo + kk * 5 + 4, none⟩)
  | 5 => v = .int .i64 y
  | 6 => v = .slice (some ⟨b, off, none⟩) np cp
  | 7 => v = .int .i64 (kk : Int)
  | 8 => v = .pointer (some ⟨b, off + kk, none⟩)
  | 9 => v = .int .i64 x
  | 10 => v = .int .i64 u
  | 11 => v = .int .i64 t
  | _ => True
noncomputable def cp16Reg : Array Oper := (Tryz.f45.body.bind (regionOf · 16)).getD #[]
theorem cp16S_ext {b off np cp bo oo nn cc kk : Nat} {x y s t u : Int} : ∀ (i : Nat) (v : Value) (W W' : World), cp16S b off np cp bo oo nn cc kk x y s t u i v W → Below W.heap.size W W' → cp16S b off np cp bo oo nn cc kk x y s t u i v W' := by
  intro i v W W' h e
  match i with
  | 0 => exact h
  | 1 => exact h
  | 2 => exact h
  | 3 => exact h
  | 4 => exact h
  | 5 => exact h
  | 6 => exact h
  | 7 => exact h
  | 8 => exact h
  | 9 => exact h
  | 10 => exact h
  | 11 => exact h
  | k + 12 => exact trivial
def cp16Ok (b off np cp bo oo nn cc kk : Nat) (x y s t u : Int) (Q : Exit → Act → World → Prop) (a : Act) (W : World) (ix : Nat) (o : Oper) : Prop :=
  (∀ j b, o.guard = some (j, b) → a.eval (.tmp (cp16D j)) = .bool b) ∧ o.wp Tryz.prog a W (fun a'' W' => ∃ v, a'' = a.put o.dst v ∧ cp16S b off np cp bo oo nn cc kk x y s t u ix v W' ∧ Below W.heap.size W W') Q
section
variable {b off np cp bo oo nn cc kk : Nat} {x y s t u : Int} {Q : Exit → Act → World → Prop} {a : Act} {V W : World} {o : Oper}
set_option maxHeartbeats 1000000 in
theorem cp16_op0 (o11 : a.eval (.tmp 11) = .int .i64 s) (ho : cp16Reg[0]? = some o) : cp16Ok b off np cp bo oo nn cc kk x y s t u Q a W 0 o := by
  have hop := op_at ho (·.op) (x := Op.move (Operand.tmp 11)) (by kernel_rfl)
  have hgd := op_at ho (·.guard) (x := none) (by kernel_rfl)
  refine ⟨fun j b h => (by rw [hgd] at h; cases h), ?_⟩
  exact specs_value (R := fun v W => cp16S b off np cp bo oo nn cc kk x y s t u 0 v W) (v := .int .i64 s) (by simp [execOp, hop, go_sem, ev o11]) rfl (Ext.refl W)
set_option maxHeartbeats 1000000 in
theorem cp16_op1 (o0 : a.eval (.tmp 0) = .slice (some ⟨bo, oo, none⟩) nn cc) (ho : cp16Reg[1]? = some o) : cp16Ok b off np cp bo oo nn cc kk x y s t u Q a W 1 o := by
  have hop := op_at ho (·.op) (x := Op.move (Operand.tmp 0)) (by kernel_rfl)
  have hgd := op_at ho (·.guard) (x := none) (by kernel_rfl)
  refine ⟨fun j b h => (by rw [hgd] at h; cases h), ?_⟩
  exact specs_value (R := fun v W => cp16S b off np cp bo oo nn cc kk x y s t u 1 v W) (v := .slice (some ⟨bo, oo, none⟩) nn cc) (by simp [execOp, hop, go_sem, ev o0]) rfl (Ext.refl W)
set_option maxHeartbeats 1000000 in
theorem cp16_op2 (o12 : a.eval (.tmp 12) = .int .i64 (kk : Int)) (ho : cp16Reg[2]? = some o) : cp16Ok b off np cp bo oo nn cc kk x y s t u Q a W 2 o := by
  have hop := op_at ho (·.op) (x := Op.move (Operand.tmp 12)) (by kernel_rfl)
  have hgd := op_at ho (·.guard) (x := none) (by kernel_rfl)
  refine ⟨fun j b h => (by rw [hgd] at h; cases h), ?_⟩
  exact specs_value (R := fun v W => cp16S b off np cp bo oo nn cc kk x y s t u 2 v W) (v := .int .i64 (kk : Int)) (by simp [execOp, hop, go_sem, ev o12]) rfl (Ext.refl W)
set_option maxHeartbeats 1000000 in
theorem cp16_op3 (hlt : (kk : Int) < (nn : Int)) (haft : ∀ j, (o.after.any fun e => decide (e.on = j) && Region.binds .any e) = true → cp16S b off np cp bo oo nn cc kk x y s t u j (a.eval (.tmp (cp16D j))) W) (ho : cp16Reg[3]? = some o) : cp16Ok b off np cp bo oo nn cc kk x y s t u Q a W 3 o := by
  have hop := op_at ho (·.op) (x := Op.indexAddr 22 (Operand.tmp 66) (Operand.tmp 67)) (by kernel_rfl)
  have hgd := op_at ho (·.guard) (x := none) (by kernel_rfl)
  have e1 : a.eval (.tmp 66) = .slice (some ⟨bo, oo, none⟩) nn cc := haft 1 (op_at ho (fun o => o.after.any fun e => decide (e.on = 1) && Region.binds .any e) (x := true) (by kernel_rfl))
  have e2 : a.eval (.tmp 67) = .int .i64 (kk : Int) := haft 2 (op_at ho (fun o => o.after.any fun e => decide (e.on = 2) && Region.binds .any e) (x := true) (by kernel_rfl))
  refine ⟨fun j b h => (by rw [hgd] at h; cases h), ?_⟩
  exact specs_value (R := fun v W => cp16S b off np cp bo oo nn cc kk x y s t u 3 v W) (v := .pointer (some ⟨bo, oo + kk * 5, none⟩)) (by simp [execOp, hop, go_sem, ev e1, ev e2, hlt]) rfl (Ext.refl W)
set_option maxHeartbeats 1000000 in
theorem cp16_op4 (haft : ∀ j, (o.after.any fun e => decide (e.on = j) && Region.binds .any e) = true → cp16S b off np cp bo oo nn cc kk x y s t u j (a.eval (.tmp (cp16D j))) W) (ho : cp16Reg[4]? = some o) : cp16Ok b off np cp bo oo nn cc kk x y s t u Q a W 4 o := by
  have hop := op_at ho (·.op) (x := Op.fieldAddr 56 (Operand.tmp 68) 2) (by kernel_rfl)
  have hgd := op_at ho (·.guard) (x := none) (by kernel_rfl)
  have e3 : a.eval (.tmp 68) = .pointer (some ⟨bo, oo + kk * 5, none⟩) := haft 3 (op_at ho (fun o => o.after.any fun e => decide (e.on = 3) && Region.binds .any e) (x := true) (by kernel_rfl))
  refine ⟨fun j b h => (by rw [hgd] at h; cases h), ?_⟩
  exact specs_value (R := fun v W => cp16S b off np cp bo oo nn cc kk x y s t u 4 v W) (v := .pointer (some ⟨bo, oo + kk * 5 + 4, none⟩)) (by simp [execOp, hop, go_sem, ev e3]) rfl (Ext.refl W)
set_option maxHeartbeats 1000000 in
theorem cp16_op5 (cw : ∀ W, Ext V W → W.cell? ⟨bo, oo + kk * 5 + 4, none⟩ = some (.int .i64 y)) (hB : Ext V W) (haft : ∀ j, (o.after.any fun e => decide (e.on = j) && Region.binds .any e) = true → cp16S b off np cp bo oo nn cc kk x y s t u j (a.eval (.tmp (cp16D j))) W) (ho : cp16Reg[5]? = some o) : cp16Ok b off np cp bo oo nn cc kk x y s t u Q a W 5 o := by
  have hop := op_at ho (·.op) (x := Op.load 2 (Operand.tmp 69)) (by kernel_rfl)
  have hgd := op_at ho (·.guard) (x := none) (by kernel_rfl)
  have e4 : a.eval (.tmp 69) = .pointer (some ⟨bo, oo + kk * 5 + 4, none⟩) := haft 4 (op_at ho (fun o => o.after.any fun e => decide (e.on = 4) && Region.binds .any e) (x := true) (by kernel_rfl))
  refine ⟨fun j b h => (by rw [hgd] at h; cases h), ?_⟩
  have cw' := cw W hB
  exact specs_value (R := fun v W => cp16S b off np cp bo oo nn cc kk x y s t u 5 v W) (v := .int .i64 y) (by simp [execOp, hop, go_sem, ev e4, cw']) rfl (Ext.refl W)
set_option maxHeartbeats 1000000 in
theorem cp16_op6 (o3 : a.eval (.tmp 3) = .slice (some ⟨b, off, none⟩) np cp) (ho : cp16Reg[6]? = some o) : cp16Ok b off np cp bo oo nn cc kk x y s t u Q a W 6 o := by
  have hop := op_at ho (·.op) (x := Op.move (Operand.tmp 3)) (by kernel_rfl)
  have hgd := op_at ho (·.guard) (x := none) (by kernel_rfl)
  refine ⟨fun j b h => (by rw [hgd] at h; cases h), ?_⟩
  exact specs_value (R := fun v W => cp16S b off np cp bo oo nn cc kk x y s t u 6 v W) (v := .slice (some ⟨b, off, none⟩) np cp) (by simp [execOp, hop, go_sem, ev o3]) rfl (Ext.refl W)
set_option maxHeartbeats 1000000 in
theorem cp16_op7 (o12 : a.eval (.tmp 12) = .int .i64 (kk : Int)) (ho : cp16Reg[7]? = some o) : cp16Ok b off np cp bo oo nn cc kk x y s t u Q a W 7 o := by
  have hop := op_at ho (·.op) (x := Op.move (Operand.tmp 12)) (by kernel_rfl)
  have hgd := op_at ho (·.guard) (x := none) (by kernel_rfl)
  refine ⟨fun j b h => (by rw [hgd] at h; cases h), ?_⟩
  exact specs_value (R := fun v W => cp16S b off np cp bo oo nn cc kk x y s t u 7 v W) (v := .int .i64 (kk : Int)) (by simp [execOp, hop, go_sem, ev o12]) rfl (Ext.refl W)
set_option maxHeartbeats 1000000 in
theorem cp16_op8 (hlp : (kk : Int) < (np : Int)) (haft : ∀ j, (o.after.any fun e => decide (e.on = j) && Region.binds .any e) = true → cp16S b off np cp bo oo nn cc kk x y s t u j (a.eval (.tmp (cp16D j))) W) (ho : cp16Reg[8]? = some o) : cp16Ok b off np cp bo oo nn cc kk x y s t u Q a W 8 o := by
  have hop := op_at ho (·.op) (x := Op.indexAddr 36 (Operand.tmp 71) (Operand.tmp 72)) (by kernel_rfl)
  have hgd := op_at ho (·.guard) (x := none) (by kernel_rfl)
  have e6 : a.eval (.tmp 71) = .slice (some ⟨b, off, none⟩) np cp := haft 6 (op_at ho (fun o => o.after.any fun e => decide (e.on = 6) && Region.binds .any e) (x := true) (by kernel_rfl))
  have e7 : a.eval (.tmp 72) = .int .i64 (kk : Int) := haft 7 (op_at ho (fun o => o.after.any fun e => decide (e.on = 7) && Region.binds .any e) (x := true) (by kernel_rfl))
  refine ⟨fun j b h => (by rw [hgd] at h; cases h), ?_⟩
  exact specs_value (R := fun v W => cp16S b off np cp bo oo nn cc kk x y s t u 8 v W) (v := .pointer (some ⟨b, off + kk, none⟩)) (by simp [execOp, hop, go_sem, ev e6, ev e7, hlp]) rfl (Ext.refl W)
set_option maxHeartbeats 1000000 in
theorem cp16_op9 (cx : ∀ W, Ext V W → W.cell? ⟨b, off + kk, none⟩ = some (.int .i64 x)) (hB : Ext V W) (haft : ∀ j, (o.after.any fun e => decide (e.on = j) && Region.binds .any e) = true → cp16S b off np cp bo oo nn cc kk x y s t u j (a.eval (.tmp (cp16D j))) W) (ho : cp16Reg[9]? = some o) : cp16Ok b off np cp bo oo nn cc kk x y s t u Q a W 9 o := by
  have hop := op_at ho (·.op) (x := Op.load 2 (Operand.tmp 73)) (by kernel_rfl)
  have hgd := op_at ho (·.guard) (x := none) (by kernel_rfl)
  have e8 : a.eval (.tmp 73) = .pointer (some ⟨b, off + kk, none⟩) := haft 8 (op_at ho (fun o => o.after.any fun e => decide (e.on = 8) && Region.binds .any e) (x := true) (by kernel_rfl))
  refine ⟨fun j b h => (by rw [hgd] at h; cases h), ?_⟩
  have cx' := cx W hB
  exact specs_value (R := fun v W => cp16S b off np cp bo oo nn cc kk x y s t u 9 v W) (v := .int .i64 x) (by simp [execOp, hop, go_sem, ev e8, cx']) rfl (Ext.refl W)
set_option maxHeartbeats 1000000 in
theorem cp16_op10 (w1 : IntKind.i64.wrap (y - x) = u) (haft : ∀ j, (o.after.any fun e => decide (e.on = j) && Region.binds .any e) = true → cp16S b off np cp bo oo nn cc kk x y s t u j (a.eval (.tmp (cp16D j))) W) (ho : cp16Reg[10]? = some o) : cp16Ok b off np cp bo oo nn cc kk x y s t u Q a W 10 o := by
  have hop := op_at ho (·.op) (x := Op.binOp BinOp.sub 2 (Operand.tmp 70) (Operand.tmp 74) 2) (by kernel_rfl)
  have hgd := op_at ho (·.guard) (x := none) (by kernel_rfl)
  have e5 : a.eval (.tmp 70) = .int .i64 y := haft 5 (op_at ho (fun o => o.after.any fun e => decide (e.on = 5) && Region.binds .any e) (x := true) (by kernel_rfl))
  have e9 : a.eval (.tmp 74) = .int .i64 x := haft 9 (op_at ho (fun o => o.after.any fun e => decide (e.on = 9) && Region.binds .any e) (x := true) (by kernel_rfl))
  refine ⟨fun j b h => (by rw [hgd] at h; cases h), ?_⟩
  exact specs_value (R := fun v W => cp16S b off np cp bo oo nn cc kk x y s t u 10 v W) (v := .int .i64 u) (by simp [execOp, hop, go_sem, ev e5, ev e9, w1]) rfl (Ext.refl W)
set_option maxHeartbeats 1000000 in
theorem cp16_op11 (w2 : IntKind.i64.wrap (s + u) = t) (haft : ∀ j, (o.after.any fun e => decide (e.on = j) && Region.binds .any e) = true → cp16S b off np cp bo oo nn cc kk x y s t u j (a.eval (.tmp (cp16D j))) W) (ho : cp16Reg[11]? = some o) : cp16Ok b off np cp bo oo nn cc kk x y s t u Q a W 11 o := by
  have hop := op_at ho (·.op) (x := Op.binOp BinOp.add 2 (Operand.tmp 65) (Operand.tmp 75) 2) (by kernel_rfl)
  have hgd := op_at ho (·.guard) (x := none) (by kernel_rfl)
  have e0 : a.eval (.tmp 65) = .int .i64 s := haft 0 (op_at ho (fun o => o.after.any fun e => decide (e.on = 0) && Region.binds .any e) (x := true) (by kernel_rfl))
  have e10 : a.eval (.tmp 75) = .int .i64 u := haft 10 (op_at ho (fun o => o.after.any fun e => decide (e.on = 10) && Region.binds .any e) (x := true) (by kernel_rfl))
  refine ⟨fun j b h => (by rw [hgd] at h; cases h), ?_⟩
  exact specs_value (R := fun v W => cp16S b off np cp bo oo nn cc kk x y s t u 11 v W) (v := .int .i64 t) (by simp [execOp, hop, go_sem, ev e0, ev e10, w2]) rfl (Ext.refl W)
set_option maxRecDepth 100000 in
set_option maxHeartbeats 4000000 in
/-- Region 16 of function 45. -/
theorem cp16_wp {id : Nat} (hlen : a.tmps.size = 100) (o0 : a.eval (.tmp 0) = .slice (some ⟨bo, oo, none⟩) nn cc) (o3 : a.eval (.tmp 3) = .slice (some ⟨b, off, none⟩) np cp) (o11 : a.eval (.tmp 11) = .int .i64 s) (o12 : a.eval (.tmp 12) = .int .i64 (kk : Int)) (hlt : (kk : Int) < (nn : Int)) (cw : ∀ W, Ext V W → W.cell? ⟨bo, oo + kk * 5 + 4, none⟩ = some (.int .i64 y)) (hlp : (kk : Int) < (np : Int)) (cx : ∀ W, Ext V W → W.cell? ⟨b, off + kk, none⟩ = some (.int .i64 x)) (w1 : IntKind.i64.wrap (y - x) = u) (w2 : IntKind.i64.wrap (s + u) = t) (K : (∀ W, Ext V W → wpList Tryz.prog cp16Reg Q (cp16Reg.toList.drop 12) (puts a [(65, .int .i64 s), (66, .slice (some ⟨bo, oo, none⟩) nn cc), (67, .int .i64 (kk : Int)), (68, .pointer (some ⟨bo, oo + kk * 5, none⟩)), (69, .pointer (some ⟨bo, oo + kk * 5 + 4, none⟩)), (70, .int .i64 y), (71, .slice (some ⟨b, off, none⟩) np cp), (72, .int .i64 (kk : Int)), (73, .pointer (some ⟨b, off + kk, none⟩)), (74, .int .i64 x), (75, .int .i64 u), (76, .int .i64 t)]) W)) : (Code.region id cp16Reg true).wp Tryz.prog Q a V := by
  refine wp_region_specs_sink (ops := cp16Reg) 12 (cp16S b off np cp bo oo nn cc kk x y s t u) (Ext V) (by kernel_rfl) (by rw [hlen]; kernel_rfl) (by kernel_rfl) ⟨rfl, rfl, rfl, Nat.le_refl _, fun _ _ => rfl⟩ (fun _ _ h e => h.trans e) cp16S_ext cp16D (by kernel_rfl) ?_ ?_
  · intro i o hi ho a' W hB hsz hold haft
    match i, hi with
    | 0, _ => exact cp16_op0 ((hold 11 (by kernel_rfl)).trans o11) ho
    | 1, _ => exact cp16_op1 ((hold 0 (by kernel_rfl)).trans o0) ho
    | 2, _ => exact cp16_op2 ((hold 12 (by kernel_rfl)).trans o12) ho
    | 3, _ => exact cp16_op3 hlt haft ho
    | 4, _ => exact cp16_op4 haft ho
    | 5, _ => exact cp16_op5 cw hB haft ho
    | 6, _ => exact cp16_op6 ((hold 3 (by kernel_rfl)).trans o3) ho
    | 7, _ => exact cp16_op7 ((hold 12 (by kernel_rfl)).trans o12) ho
    | 8, _ => exact cp16_op8 hlp haft ho
    | 9, _ => exact cp16_op9 cx hB haft ho
    | 10, _ => exact cp16_op10 w1 haft ho
    | 11, _ => exact cp16_op11 w2 haft ho
    | m + 12, h => exact absurd h (by omega)
  · intro a1 W hB hsz hdf hold hS
    have hall : ∀ zz, zz ∈ ([(65, .int .i64 s), (66, .slice (some ⟨bo, oo, none⟩) nn cc), (67, .int .i64 (kk : Int)), (68, .pointer (some ⟨bo, oo + kk * 5, none⟩)), (69, .pointer (some ⟨bo, oo + kk * 5 + 4, none⟩)), (70, .int .i64 y), (71, .slice (some ⟨b, off, none⟩) np cp), (72, .int .i64 (kk : Int)), (73, .pointer (some ⟨b, off + kk, none⟩)), (74, .int .i64 x), (75, .int .i64 u), (76, .int .i64 t)] : List (Tmp × Value)) → zz.1 < a.tmps.size ∧ a1.eval (.tmp zz.1) = zz.2 := by
      intro zz hz
      rw [hlen]
      simp only [List.mem_cons, List.not_mem_nil, or_false] at hz
      rcases hz with rfl | rfl | rfl | rfl | rfl | rfl | rfl | rfl | rfl | rfl | rfl | rfl
      · exact ⟨(show (65 : Nat) < 100 by omega), hS 0 (by omega)⟩
      · exact ⟨(show (66 : Nat) < 100 by omega), hS 1 (by omega)⟩
      · exact ⟨(show (67 : Nat) < 100 by omega), hS 2 (by omega)⟩
      · exact ⟨(show (68 : Nat) < 100 by omega), hS 3 (by omega)⟩
      · exact ⟨(show (69 : Nat) < 100 by omega), hS 4 (by omega)⟩
      · exact ⟨(show (70 : Nat) < 100 by omega), hS 5 (by omega)⟩
      · exact ⟨(show (71 : Nat) < 100 by omega), hS 6 (by omega)⟩
      · exact ⟨(show (72 : Nat) < 100 by omega), hS 7 (by omega)⟩
      · exact ⟨(show (73 : Nat) < 100 by omega), hS 8 (by omega)⟩
      · exact ⟨(show (74 : Nat) < 100 by omega), hS 9 (by omega)⟩
      · exact ⟨(show (75 : Nat) < 100 by omega), hS 10 (by omega)⟩
      · exact ⟨(show (76 : Nat) < 100 by omega), hS 11 (by omega)⟩
    have ha := act_puts hsz hdf hall (fun t ht => hold t (all_ne_of (l := [(65, .int .i64 s), (66, .slice (some ⟨bo, oo, none⟩) nn cc), (67, .int .i64 (kk : Int)), (68, .pointer (some ⟨bo, oo + kk * 5, none⟩)), (69, .pointer (some ⟨bo, oo + kk * 5 + 4, none⟩)), (70, .int .i64 y), (71, .slice (some ⟨b, off, none⟩) np cp), (72, .int .i64 (kk : Int)), (73, .pointer (some ⟨b, off + kk, none⟩)), (74, .int .i64 x), (75, .int .i64 u), (76, .int .i64 t)]) (by kernel_rfl) ht))
    rw [ha]
    exact K W  hB 
end
end Go.Proofs.YtmlmnljbegcjcaaGreat
