/- Texts of one package, joined: Round, RightReg, AreRight, Bound, CheckPrices, LeftReg, Left, PricePure. -/
import Derived.Test.YtmlmnljbegcjcaaGreatD9
import Derived.OrdersIn
import Derived.Deep.AppendLies
/- A region that draws its order, some of whose operations make memory, within a round of a range over a function. -/
namespace Go.Proofs.YtmlmnljbegcjcaaGreat
open Go.RowKit Go.Shelf

section
variable {P : Program} {ops : Array Oper} {l0 : Nat} {n : Nat}
theorem rows_round {row : String} {args : Array Value} {w : World} {R : Value → World → Prop} (h : Rows P row args w R) : RowsIn (Fence.wide.inRound l0) n P row args w R :=
  fun c cs _ => let ⟨v, w', r, s⟩ := h c cs; ⟨v, w', r, stepsIn_wide.2 s⟩

theorem oper_round {o : Oper} (hnd : ∀ c, o.op ≠ .defer c) {a : Act} {w : World} {K K' : Act → World → Prop} {Q Q' : Exit → Act → World → Prop} (hK : ∀ a w, K a w → K' a w) (hQ : ∀ c a w, Q (.panic c) a w → Q' (.panic c) a w) (hlet : ¬ LetsOut Q)
    (h : o.wp P a w K Q) : o.wpIn (Fence.wide.inRound l0) n P a w K' Q' := by
  unfold Oper.wp at h
  unfold Oper.wpIn
  refine ⟨fun _ _ => trivial, ?_⟩
  rw [Oper.semAt_plain _ _ _ hnd]
  cases hr : (execOp a.eval o).run P w with
  | ok v w1 =>
    rw [hr] at h
    cases v with
    | value v => exact hK _ _ h
    | skip => exact hK _ _ h
    | defer d => exact hK _ _ h
    | enter f args =>
      have h2 : Calls P f args w1 _ := h
      refine ⟨fun hd => by simp [Fence.wide] at hd, ?_⟩
      refine CallsIn.inRound l0 (callsIn_wide.2 (h2.mono ?_))
      intro e w2 he
      cases e with
      | returned v => exact hK _ _ he
      | panicked c => exact hQ _ _ _ he
      | outgrown => exact absurd he hlet
    | row row args =>
      exact ⟨fun hd => by simp [Fence.wide] at hd, rows_round (Rows.mono h fun v w2 he => hK _ _ he)⟩
    | round _ _ _ _ _ => exact h.elim
    | _ => first | exact h.elim | exact hK _ _ h
  | halt x w1 =>
    rw [hr] at h
    cases x with
    | panic v => exact hQ _ _ _ h
    | _ => exact h.elim

theorem any_round {md : Region.Mode} {Q Q' : Exit → Act → World → Prop} (hnd : ∀ (i : Nat) (o : Oper), ops[i]? = some o → ∀ c, o.op ≠ .defer c) (hN : ∀ a w, Q .normal a w → Q' .normal a w) (hQ : ∀ c a w, Q (.panic c) a w → Q' (.panic c) a w) (hlet : ¬ LetsOut Q) :
    ∀ (f : Nat) (listed : Array Bool) (a : Act) (w : World), wpAny P md ops Q f listed a w → wpAnyIn (Fence.wide.inRound l0) n P md ops Q' f listed a w
  | 0, _, _, _, h => ⟨h.1, hN _ _ h.2⟩
  | f + 1, listed, a, w, h => ⟨fun h0 => hN _ _ (h.1 h0), fun i hi => by
      have h2 := h.2 i hi
      unfold wpOp at h2
      unfold wpOpIn
      cases ho : ops[i]? with
      | none => rw [ho] at h2; exact any_round hnd hN hQ hlet f _ _ _ h2
      | some o =>
        rw [ho] at h2
        simp only at h2 ⊢
        split
        · rename_i hw
          rw [if_pos hw] at h2
          rcases h2 with h2 | h2
          · exact oper_round (hnd i o ho) (fun a w => any_round hnd hN hQ hlet f _ a w) hQ hlet h2
          · exact absurd h2.2 hlet
        · rename_i hw
          rw [if_neg hw] at h2
          exact ⟨fun _ _ => trivial, any_round hnd hN hQ hlet f _ _ _ h2⟩⟩

end
section
variable {P : Program} {ops : Array Oper} {Q : Exit → Act → World → Prop}
theorem any_specs_sink {a : Act} {w : World} (m : Nat) (S : Nat → Value → World → Prop) (B : World → Prop) (hs : slotsTo ops m a.tmps.size = true) (ht : tailS ops m = true)
    (hB0 : B { w with drawn := w.drawn + 1 }) (hBg : ∀ W W', B W → Below W.heap.size W W' → B W') (hSg : ∀ i v W W', S i v W → Below W.heap.size W W' → S i v W')
    (D : Nat → Tmp) (hD : ((List.range m).all fun i => decide (slot ops i = D i)) = true)
    (step : ∀ (i : Nat) (o : Oper), i < m → ops[i]? = some o → ∀ (a' : Act) (W : World), B W → a'.tmps.size = a.tmps.size → (∀ t, ((List.range m).all fun i => decide (D i ≠ t)) = true → a'.eval (.tmp t) = a.eval (.tmp t)) →
      (∀ j, (o.after.any fun e => decide (e.on = j) && Region.binds .any e) = true → S j (a'.eval (.tmp (D j))) W) →
      (∀ j b, o.guard = some (j, b) → a'.eval (.tmp (D j)) = .bool b) ∧ o.wp P a' W (fun a'' W' => ∃ v, a'' = a'.put o.dst v ∧ S i v W' ∧ Below W.heap.size W W') Q)
    (done : ∀ (a' : Act) (W : World), B W → a'.tmps.size = a.tmps.size → a'.defers = a.defers → (∀ t, ((List.range m).all fun i => decide (D i ≠ t)) = true → a'.eval (.tmp t) = a.eval (.tmp t)) →
      (∀ i, i < m → S i (a'.eval (.tmp (D i))) W) → wpList P ops Q (ops.toList.drop m) a' W) : wpAny P .any ops Q ops.size (Array.replicate ops.size false) a { w with drawn := w.drawn + 1 } := by
  obtain ⟨hmo, hd, hap⟩ := slotsTo_spec hs
  have hD' : ∀ i, i < m → slot ops i = D i := fun i hi => by simpa using List.all_eq_true.1 hD i (List.mem_range.2 hi)
  have hoT : ∀ t, ((List.range m).all fun i => decide (D i ≠ t)) = true → ∀ i, i < m → slot ops i ≠ t := fun t ht i hi => by
    rw [hD' i hi]
    simpa using List.all_eq_true.1 ht i (List.mem_range.2 hi)
  have aux : ∀ (fuel : Nat) (listed : Array Bool) (a' : Act) (W : World), SpecsSi ops m S B a listed a' W → (List.range m).countP (fun i => !listed.getD i true) + (ops.size - m) ≤ fuel → wpAny P .any ops Q fuel listed a' W := by
    intro fuel
    induction fuel with
    | zero =>
      intro listed a' W h hc
      have h0 : (List.range m).countP (fun i => !listed.getD i true) = 0 := by omega
      have all : ∀ i, i < m → listed.getD i false = true := fun i hi => by
        have := List.countP_eq_zero.1 h0 i (List.mem_range.2 hi)
        rw [getD_two (by rw [h.size]; omega)] at this
        simpa using this
      exact wpAny_tailS ht 0 m listed a' W h.size (Nat.le_refl _) hmo (by omega) all h.tail (done a' W h.base h.tmps h.defers (fun t ht => h.old t (hoT t ht)) fun i hi => by rw [← hD' i hi]; exact h.got i hi (all i hi))
    | succ fuel ih =>
      intro listed a' W h hc
      by_cases hall : ∀ i, i < m → listed.getD i false = true
      · exact wpAny_tailS ht _ m listed a' W h.size (Nat.le_refl _) hmo (by omega) hall h.tail (done a' W h.base h.tmps h.defers (fun t ht => h.old t (hoT t ht)) fun i hi => by rw [← hD' i hi]; exact h.got i hi (hall i hi))
      · -- the least one that is not listed is ready
        have hne : Region.ready .any ops listed ≠ [] := by
          intro hr
          apply hall
          have all : ∀ n i, i ≤ n → i < m → listed.getD i false = true := by
            intro n
            induction n using Nat.strongRecOn with
            | _ n ih2 =>
              intro i hin hi
              cases hl : listed.getD i false with
              | true => rfl
              | false =>
                exfalso
                have hil : i < ops.size := by omega
                have : i ∈ Region.ready .any ops listed := mem_ready.2 ⟨by rw [getD_two (by rw [h.size]; exact hil), hl], _, Array.getElem?_eq_getElem hil, fun e he _ => by
                  have := (hd i _ hi (Array.getElem?_eq_getElem hil)).2.2.1 e he
                  exact ih2 e.on (by omega) e.on (Nat.le_refl _) (by omega)⟩
                rw [hr] at this
                cases this
          exact fun i hi => all i i (Nat.le_refl _) hi
        refine ⟨fun e => absurd e hne, fun i hi => ?_⟩
        obtain ⟨h1, o, ho, haft⟩ := mem_ready.1 hi
        have hil := (Array.getElem?_eq_some_iff.1 ho).1
        have him : i < m := by
          rcases Nat.lt_or_ge i m with hl | hl
          · exact hl
          · exfalso
            apply hall
            rcases Nat.lt_or_ge m i with hmi | hmi
            · obtain ⟨e, he, hon, hb⟩ := (tailS_spec ht i o hl ho).1 hmi
              have := haft e he hb
              rw [hon, h.tail (i - 1) (by omega) (by omega)] at this
              cases this
            · obtain rfl : i = m := by omega
              exact fun j hj => sink_spec ht h.closed (fun om hom e he hb => by rw [ho] at hom; cases hom; exact haft e he hb) _ j (Nat.le_refl _) hj
        obtain ⟨hg, hp⟩ := step i o him ho a' W h.base h.tmps (fun t ht => h.old t (hoT t ht)) fun j hj => by
          obtain ⟨e, he, hb⟩ := Array.any_eq_true'.1 hj
          simp only [Bool.and_eq_true, decide_eq_true_eq] at hb
          obtain ⟨rfl, hb⟩ := hb
          have hlt : e.on < m := by have := (hd i o him ho).2.2.1 e he; omega
          rw [← hD' _ hlt]
          exact h.got e.on hlt (haft e he hb)
        have hw : Region.wanted o (yielded ops a'.tmps) = true := wanted_of (fun g hg => by
            have hlt : g.1 < m := by have := (hd i o him ho).2.2.2 g hg; omega
            exact ⟨_, Array.getElem?_eq_getElem (by omega), (hd _ _ hlt (Array.getElem?_eq_getElem (by omega))).1⟩) fun j b hgb => by
          have hlt : j < m := by have := (hd i o him ho).2.2.2 _ hgb; simp at this; omega
          rw [hD' _ hlt]
          exact hg j b hgb
        unfold wpOp
        rw [ho]
        simp only [hw, if_true]
        refine .inl (Oper.wp_mono (fun a'' W' hh => ?_) hp)
        obtain ⟨v, rfl, hS, hb⟩ := hh
        rw [(hd i o him ho).1]
        refine ih _ _ _ ⟨by simp [h.size], by simp [Act.put, h.tmps], h.defers, hBg _ _ h.base hb, fun t ht => ?_, fun j hj hl => ?_, fun j hj hjl => ?_, fun k ok hk hok hl e he hb2 => ?_⟩ ?_
        · rw [eval_put_other (Ne.symm (ht i him))]
          exact h.old t ht
        · by_cases e : i = j
          · subst e
            rw [eval_put_same (by rw [h.tmps]; exact (hd i o him ho).2.1)]
            exact hS
          · rw [eval_put_other (fun e' => e (hap i j him hj e'.symm))]
            rw [getD_set_ne false e] at hl
            exact hSg _ _ _ _ (h.got j hj hl) hb
        · rw [getD_set_ne false (by omega)]
          exact h.tail j hj hjl
        · have up : ∀ j, listed.getD j false = true → (listed.setIfInBounds i true).getD j false = true := fun j hj => by
            by_cases e : i = j
            · subst e
              have : i < listed.size := by rw [h.size]; exact hil
              simp [this]
            · rw [getD_set_ne false e]; exact hj
          by_cases e2 : i = k
          · subst e2
            rw [ho] at hok
            cases hok
            exact up _ (haft e he hb2)
          · rw [getD_set_ne false e2] at hl
            exact up _ (h.closed k ok hk hok hl e he hb2)
        · have : (List.range m).countP (fun k => !(listed.setIfInBounds i true).getD k true) < (List.range m).countP (fun k => !listed.getD k true) := by
            refine countP_step _ _ i _ (fun y hy => ?_) (List.mem_range.2 him) (by simp [h1]) ?_
            · by_cases e : i = y
              · subst e; simp [h1]
              · rw [getD_set_ne true e] at hy; exact hy
            · have : i < listed.size := by rw [h.size]; exact hil
              simp [this]
          omega
  exact aux ops.size _ a _ ⟨by simp, rfl, rfl, hB0, fun _ _ => rfl, fun i hi hl => (by rw [getD_replicate_false] at hl; cases hl), fun i _ _ => getD_replicate_false _ _, fun k ok _ _ hl => (by rw [getD_replicate_false] at hl; cases hl)⟩ (by
    have := List.countP_le_length (p := fun i => !(Array.replicate ops.size false).getD i true) (l := List.range m)
    simp only [List.length_range] at this
    omega)
end
section
variable {P : Program} {ops : Array Oper} {l0 : Nat} {n : Nat}
theorem round_of_any {id : Nat} {Q : Exit → Act → World → Prop} {a : Act} {w : World} (hm : P.follows .mixedOrders = true) (hnd : ops.toList.all (fun o => match o.op with | .defer _ => false | _ => true) = true)
    (h : wpAny P .any ops (fun e a w => e = .normal ∧ Q .normal a w) ops.size (Array.replicate ops.size false) a { w with drawn := w.drawn + 1 }) : (Code.region id ops true).wpIn (Fence.wide.inRound l0) n P Q a w := by
  refine wpIn_region_any hm ?_
  exact any_round (l0 := l0) (n := n) (Q' := Q) (fun i o ho c hc => by
    have hmem : o ∈ ops.toList := by
      have : ops.toList[i]? = some o := by simpa using ho
      exact List.mem_of_getElem? this
    have := List.all_eq_true.1 hnd o hmem
    rw [hc] at this
    simp at this) (fun a w hq => hq.2) (fun c a w hq => absurd hq.1 (by simp)) (fun ⟨a, w, hq⟩ => absurd hq.1 (by simp)) _ _ _ _ h
end
/-- A region's operations, within the bodies of ranges over functions too. -/
def regionIn : Code → Nat → Option (Array Oper)
  | .region i ops _, k => if i = k then some ops else none
  | .seq a b, k => (regionIn a k).or (regionIn b k)
  | .cond _ a b, k => (regionIn a k).or (regionIn b k)
  | .block _ c, k => regionIn c k
  | .loop c, k => regionIn c k
  | .scope c, k => regionIn c k
  | .rangeFunc _ _ a b, k => (regionIn a k).or (regionIn b k)
  | _, _ => none
end Go.Proofs.YtmlmnljbegcjcaaGreat

/- areRight's region. -/
namespace Go.Proofs.YtmlmnljbegcjcaaGreat
open Go.RowKit Go.Shelf

/-- The slots of region 3 of function 82. -/
def ar3D (i : Nat) : Tmp := if i = 0 then 11 else if i = 1 then 12 else if i = 2 then 13 else if i = 3 then 14 else 15
/-- What each operation yields. -/
def ar3S (A A5 : Option Addr) (nn cc n5 c5 _p3 _p4 _p5 : Nat) (x t y : Int) (ix : Nat) (v : Value) (_W : World) : Prop :=
  match ix with
  | 0 => v = .slice A nn cc
  | 1 => v = .int .i64 x
  | 2 => v = .slice A5 n5 c5
  | 3 => v = .int .i64 t
  | 4 => v = .int .i64 y
  | _ => True
noncomputable def ar3Reg : Array Oper := (Tryz.f82.body.bind (regionIn · 3)).getD #[]
theorem ar3S_ext {A A5 : Option Addr} {nn cc n5 c5 p3 p4 p5 : Nat} {x t y : Int} : ∀ (i : Nat) (v : Value) (W W' : World), ar3S A A5 nn cc n5 c5 p3 p4 p5 x t y i v W → Below W.heap.size W W' → ar3S A A5 nn cc n5 c5 p3 p4 p5 x t y i v W' := by
  intro i v W W' h e
  match i with
  | 0 => exact h
  | 1 => exact h
  | 2 => exact h
  | 3 => exact h
  | 4 => exact h
  | k + 5 => exact trivial
def ar3Ok (A A5 : Option Addr) (nn cc n5 c5 p3 p4 p5 : Nat) (x t y : Int) (Q : Exit → Act → World → Prop) (a : Act) (W : World) (ix : Nat) (o : Oper) : Prop :=
  (∀ j b, o.guard = some (j, b) → a.eval (.tmp (ar3D j)) = .bool b) ∧ o.wp Tryz.prog a W (fun a'' W' => ∃ v, a'' = a.put o.dst v ∧ ar3S A A5 nn cc n5 c5 p3 p4 p5 x t y ix v W' ∧ Below W.heap.size W W') Q
section
variable {A A5 : Option Addr} {nn cc n5 c5 p3 p4 p5 : Nat} {x t y : Int} {Q : Exit → Act → World → Prop} {a : Act} {V W : World} {o : Oper}
set_option maxHeartbeats 1000000 in
theorem ar3_op0 (o3 : a.eval (.tmp 3) = .pointer (some ⟨p3, 0, none⟩)) (d3 : ∀ W, Ext V W → W.cell? ⟨p3, 0, none⟩ = some (.slice A nn cc)) (hB : Ext V W) (ho : ar3Reg[0]? = some o) : ar3Ok A A5 nn cc n5 c5 p3 p4 p5 x t y Q a W 0 o := by
  have hop := op_at ho (·.op) (x := Op.load 75 (Operand.tmp 3)) (by kernel_rfl)
  have hgd := op_at ho (·.guard) (x := none) (by kernel_rfl)
  refine ⟨fun j b h => (by rw [hgd] at h; cases h), ?_⟩
  have d3' := d3 W hB
  exact specs_value (R := fun v W => ar3S A A5 nn cc n5 c5 p3 p4 p5 x t y 0 v W) (v := .slice A nn cc) (by simp [execOp, hop, go_sem, ev o3, d3']) rfl (Ext.refl W)
set_option maxHeartbeats 1000000 in
theorem ar3_op1 (o7 : a.eval (.tmp 7) = .int .i64 x) (ho : ar3Reg[1]? = some o) : ar3Ok A A5 nn cc n5 c5 p3 p4 p5 x t y Q a W 1 o := by
  have hop := op_at ho (·.op) (x := Op.move (Operand.tmp 7)) (by kernel_rfl)
  have hgd := op_at ho (·.guard) (x := none) (by kernel_rfl)
  refine ⟨fun j b h => (by rw [hgd] at h; cases h), ?_⟩
  exact specs_value (R := fun v W => ar3S A A5 nn cc n5 c5 p3 p4 p5 x t y 1 v W) (v := .int .i64 x) (by simp [execOp, hop, go_sem, ev o7]) rfl (Ext.refl W)
set_option maxHeartbeats 1000000 in
theorem ar3_op2 (o5 : a.eval (.tmp 5) = .pointer (some ⟨p5, 0, none⟩)) (d5 : ∀ W, Ext V W → W.cell? ⟨p5, 0, none⟩ = some (.slice A5 n5 c5)) (hB : Ext V W) (ho : ar3Reg[2]? = some o) : ar3Ok A A5 nn cc n5 c5 p3 p4 p5 x t y Q a W 2 o := by
  have hop := op_at ho (·.op) (x := Op.load 36 (Operand.tmp 5)) (by kernel_rfl)
  have hgd := op_at ho (·.guard) (x := none) (by kernel_rfl)
  refine ⟨fun j b h => (by rw [hgd] at h; cases h), ?_⟩
  have d5' := d5 W hB
  exact specs_value (R := fun v W => ar3S A A5 nn cc n5 c5 p3 p4 p5 x t y 2 v W) (v := .slice A5 n5 c5) (by simp [execOp, hop, go_sem, ev o5, d5']) rfl (Ext.refl W)
set_option maxHeartbeats 1000000 in
theorem ar3_op3 (k1 : ∀ W, Ext V W → Calls Tryz.prog 102 #[.slice A nn cc, .int .i64 x, .slice A5 n5 c5] W fun e w' => e = .returned (.int .i64 t) ∧ Ext W w') (eg : ∀ args w, (callFunc 102 args).run Tryz.prog w = .ok (.enter 102 args) w) (hB : Ext V W) (haft : ∀ j, (o.after.any fun e => decide (e.on = j) && Region.binds .any e) = true → ar3S A A5 nn cc n5 c5 p3 p4 p5 x t y j (a.eval (.tmp (ar3D j))) W) (ho : ar3Reg[3]? = some o) : ar3Ok A A5 nn cc n5 c5 p3 p4 p5 x t y Q a W 3 o := by
  have hop := op_at ho (·.op) (x := Op.call { callee := Callee.value (Operand.func 102), args := #[Operand.tmp 11, Operand.tmp 12, Operand.tmp 13], argTypes := #[75, 2, 36] }) (by kernel_rfl)
  have hgd := op_at ho (·.guard) (x := none) (by kernel_rfl)
  have e0 : a.eval (.tmp 11) = .slice A nn cc := haft 0 (op_at ho (fun o => o.after.any fun e => decide (e.on = 0) && Region.binds .any e) (x := true) (by kernel_rfl))
  have e1 : a.eval (.tmp 12) = .int .i64 x := haft 1 (op_at ho (fun o => o.after.any fun e => decide (e.on = 1) && Region.binds .any e) (x := true) (by kernel_rfl))
  have e2 : a.eval (.tmp 13) = .slice A5 n5 c5 := haft 2 (op_at ho (fun o => o.after.any fun e => decide (e.on = 2) && Region.binds .any e) (x := true) (by kernel_rfl))
  refine ⟨fun j b h => (by rw [hgd] at h; cases h), ?_⟩
  refine specs_call (R := fun v W => ar3S A A5 nn cc n5 c5 p3 p4 p5 x t y 3 v W) (f := 102) (args := #[.slice A nn cc, .int .i64 x, .slice A5 n5 c5]) (by simp [execOp, hop, go_sem, ev e0, ev e1, ev e2, eg]) ((k1 W hB).mono ?_)
  rintro e w' ⟨rfl, h3⟩
  exact ⟨_, rfl, rfl, h3⟩
set_option maxHeartbeats 1000000 in
theorem ar3_op4 (o4 : a.eval (.tmp 4) = .pointer (some ⟨p4, 0, none⟩)) (d4 : ∀ W, Ext V W → W.cell? ⟨p4, 0, none⟩ = some (.int .i64 y)) (hB : Ext V W) (ho : ar3Reg[4]? = some o) : ar3Ok A A5 nn cc n5 c5 p3 p4 p5 x t y Q a W 4 o := by
  have hop := op_at ho (·.op) (x := Op.load 2 (Operand.tmp 4)) (by kernel_rfl)
  have hgd := op_at ho (·.guard) (x := none) (by kernel_rfl)
  refine ⟨fun j b h => (by rw [hgd] at h; cases h), ?_⟩
  have d4' := d4 W hB
  exact specs_value (R := fun v W => ar3S A A5 nn cc n5 c5 p3 p4 p5 x t y 4 v W) (v := .int .i64 y) (by simp [execOp, hop, go_sem, ev o4, d4']) rfl (Ext.refl W)
set_option maxRecDepth 100000 in
set_option maxHeartbeats 4000000 in
/-- Region 3 of function 82. -/
theorem ar3_wp {id : Nat} {l0 m0 : Nat} (hlen : a.tmps.size = 17) (o3 : a.eval (.tmp 3) = .pointer (some ⟨p3, 0, none⟩)) (o4 : a.eval (.tmp 4) = .pointer (some ⟨p4, 0, none⟩)) (o5 : a.eval (.tmp 5) = .pointer (some ⟨p5, 0, none⟩)) (o7 : a.eval (.tmp 7) = .int .i64 x) (d3 : ∀ W, Ext V W → W.cell? ⟨p3, 0, none⟩ = some (.slice A nn cc)) (d5 : ∀ W, Ext V W → W.cell? ⟨p5, 0, none⟩ = some (.slice A5 n5 c5)) (k1 : ∀ W, Ext V W → Calls Tryz.prog 102 #[.slice A nn cc, .int .i64 x, .slice A5 n5 c5] W fun e w' => e = .returned (.int .i64 t) ∧ Ext W w') (eg : ∀ args w, (callFunc 102 args).run Tryz.prog w = .ok (.enter 102 args) w) (d4 : ∀ W, Ext V W → W.cell? ⟨p4, 0, none⟩ = some (.int .i64 y)) (K : (∀ W, Ext V W → wpList Tryz.prog ar3Reg (fun e a w => e = .normal ∧ Q .normal a w) (ar3Reg.toList.drop 5) (puts a [(11, .slice A nn cc), (12, .int .i64 x), (13, .slice A5 n5 c5), (14, .int .i64 t), (15, .int .i64 y)]) W)) : (Code.region id ar3Reg true).wpIn (Fence.wide.inRound l0) m0 Tryz.prog Q a V := by
  refine round_of_any (by kernel_rfl) (by kernel_rfl) ?_
  refine any_specs_sink (ops := ar3Reg) 5 (ar3S A A5 nn cc n5 c5 p3 p4 p5 x t y) (Ext V) (by rw [hlen]; kernel_rfl) (by kernel_rfl) ⟨rfl, rfl, rfl, Nat.le_refl _, fun _ _ => rfl⟩ (fun _ _ h e => h.trans e) ar3S_ext ar3D (by kernel_rfl) ?_ ?_
  · intro i o hi ho a' W hB hsz hold haft
    match i, hi with
    | 0, _ => exact ar3_op0 ((hold 3 (by kernel_rfl)).trans o3) d3 hB ho
    | 1, _ => exact ar3_op1 ((hold 7 (by kernel_rfl)).trans o7) ho
    | 2, _ => exact ar3_op2 ((hold 5 (by kernel_rfl)).trans o5) d5 hB ho
    | 3, _ => exact ar3_op3 k1 eg hB haft ho
    | 4, _ => exact ar3_op4 ((hold 4 (by kernel_rfl)).trans o4) d4 hB ho
    | m + 5, h => exact absurd h (by omega)
  · intro a1 W hB hsz hdf hold hS
    have hall : ∀ zz, zz ∈ ([(11, .slice A nn cc), (12, .int .i64 x), (13, .slice A5 n5 c5), (14, .int .i64 t), (15, .int .i64 y)] : List (Tmp × Value)) → zz.1 < a.tmps.size ∧ a1.eval (.tmp zz.1) = zz.2 := by
      intro zz hz
      rw [hlen]
      simp only [List.mem_cons, List.not_mem_nil, or_false] at hz
      rcases hz with rfl | rfl | rfl | rfl | rfl
      · exact ⟨(show (11 : Nat) < 17 by omega), hS 0 (by omega)⟩
      · exact ⟨(show (12 : Nat) < 17 by omega), hS 1 (by omega)⟩
      · exact ⟨(show (13 : Nat) < 17 by omega), hS 2 (by omega)⟩
      · exact ⟨(show (14 : Nat) < 17 by omega), hS 3 (by omega)⟩
      · exact ⟨(show (15 : Nat) < 17 by omega), hS 4 (by omega)⟩
    have ha := act_puts hsz hdf hall (fun t ht => hold t (all_ne_of (l := [(11, .slice A nn cc), (12, .int .i64 x), (13, .slice A5 n5 c5), (14, .int .i64 t), (15, .int .i64 y)]) (by kernel_rfl) ht))
    rw [ha]
    exact K W  hB 
end
end Go.Proofs.YtmlmnljbegcjcaaGreat

/- areRight: whether prices are right. -/
namespace Go.Proofs.YtmlmnljbegcjcaaGreat
open Go.RowKit Go.Shelf
attribute [local go_sem] Oper.semAt_some
attribute [local irreducible] bitCells

theorem wpList_one {P : Program} {ops : Array Oper} {Q : Exit → Act → World → Prop} {o : Oper} {a : Act} {w : World} {v : Value} (hgd : o.guard = none) (hr : (execOp a.eval o).run P w = .ok (.value v) w)
    (h : Q .normal (a.put o.dst v) w) : wpList P ops Q [o] a w := by
  simp only [wpList]
  rw [if_pos (by simp [Region.wanted, hgd])]
  left
  unfold Oper.wp
  rw [hr]
  exact h
/-- Whether prices are right. -/
def rightB (os : List Odr) (y : Int) (ps : List Int) : Bool := (endsOf os).all fun x => decide (togB os x ps ≤ y)
theorem e102 : ∀ args w, (callFunc 102 args).run Tryz.prog w = .ok (.enter 102 args) w := enters_of Tryz.func102 (by kernel_rfl) rfl

set_option maxRecDepth 100000 in
set_option maxHeartbeats 4000000 in
theorem areRight_any {A : Option Addr} {c : Nat} {os : List Odr} {w : World} (hb : IsBook w A c os) (y : Int) (A' : Option Addr) (n' c' : Nat) (ps : List Int) (hn' : n' = ps.length) (hl : ps.length = os.length) (hf : Fair ps) (hh : Held w w.heap.size 1 encI A' ps) :
    Calls Tryz.prog 82 #[.slice A os.length c, .int .i64 y, .slice A' n' c'] w fun e w' => e = .returned (.bool (rightB os y ps)) ∧ Ext w w' := by
  have HB := Lib.hid hb
  have H102 := Lib.hid (fun x W (hW : Ext w W) => together_any (hb.ext hW) x A' n' c' ps hn' hl hf (hh.ext hW))
  clear hb hh hn' hl hf
  refine (callsIn_wide (n := 12)).1 ?_
  refine callsIn_of_wp_marks Tryz.func82 rfl trivial ?_ rfl
  simp only [Tryz.ntmps82, List.size_toArray, List.length_cons, List.length_nil, Nat.reduceAdd, Nat.reduceSub, Array.replicate_succ, Array.replicate_zero, List.push_toArray, List.append_toArray, List.nil_append, List.cons_append]
  gi_upto_region 1 with fail
  obtain ⟨w2, hw2⟩ : ∃ w2, ((((w.alloc (.cells #[.slice A os.length c] 75)).alloc (.cells #[.int .i64 y] 2)).alloc (.cells #[.slice A' n' c'] 36)).alloc (.cells #[.bool false] 4)) = w2 := ⟨_, rfl⟩
  have z3 : w2.heap.size = w.heap.size + 4 := by rw [← hw2]; simp
  have e3 : Ext w w2 := by rw [← hw2]; exact (((ext_alloc _ _).trans (ext_alloc _ _)).trans (ext_alloc _ _)).trans (ext_alloc _ _)
  have r0 : w2.heap[w.heap.size]? = some (.cells #[.slice A os.length c] 75 (0, 0)) := by rw [← hw2]; exact row_alloc _ _ _ _ (row_alloc _ _ _ _ (row_alloc _ _ _ _ (row_last _ _ _ rfl)))
  have r1 : w2.heap[w.heap.size + 1]? = some (.cells #[.int .i64 y] 2 (0, 0)) := by rw [← hw2]; exact row_alloc _ _ _ _ (row_alloc _ _ _ _ (row_last _ _ _ (by simp)))
  have r2 : w2.heap[w.heap.size + 2]? = some (.cells #[.slice A' n' c'] 36 (0, 0)) := by rw [← hw2]; exact row_alloc _ _ _ _ (row_last _ _ _ (by simp))
  have r3 : w2.heap[w.heap.size + 3]? = some (.cells #[.bool false] 4 (0, 0)) := by rw [← hw2]; exact row_last _ _ _ (by simp)
  rw [hw2]
  obtain ⟨pd, hpd⟩ : ∃ pd, w.heap.size = pd := ⟨_, rfl⟩
  have HZ := Lib.hid (show w.heap.size ≤ pd from Nat.le_of_eq hpd)
  rw [hpd] at z3 r0 r1 r2 r3 ⊢
  have hcall := ends_any (HB.out.ext e3)
  have q0 : w2.cell? ⟨pd, 0, none⟩ = some (.slice A os.length c) := cell_of_row _ _ _ _ _ _ r0
  clear hw2 hpd
  gi_wp2_with (refine ⟨trivial, ?_⟩; gi_at_call 98; refine (callsIn_wide.2 hcall).mono ?_; rintro e w3 ⟨pe, pb, A2, c2, rfl, hE, e4⟩)
  have HZ4 : Hid (pd + 4 ≤ w3.heap.size) := Lib.hid (by rw [← z3]; exact e4.size)
  have R0 := Lib.hid (row_ext r0 e4)
  have R1 := Lib.hid (row_ext r1 e4)
  have R2 := Lib.hid (row_ext r2 e4)
  have R3 := Lib.hid (row_ext r3 e4)
  have HE3 := Lib.hid (e3.trans e4)
  have hst := ends_stops 11 (by omega) w3 hE hE.on
  have hon := hE.on
  clear q0 r0 r1 r2 r3 e3 z3 hcall e4
  refine wpIn_rangeFunc_ownH rfl (by omega) (gf := 124) (lb := #[.pointer (some ⟨pe, 0, none⟩), .pointer (some ⟨pb, 0, none⟩)]) rfl trivial enters124
    hst keepsOn_t (keepsOn_b hon) (Below.refl _ _) (fun _ => rfl)
    (fun pre W => (∀ x, x ∈ pre → togB os x ps ≤ y) ∧ Below w3.heap.size w3 W)
    (fun cd pre W => (cd = .ret ∧ (∃ x, x ∈ pre ∧ ¬ togB os x ps ≤ y) ∧ W.heap[pd + 3]? = some (.cells #[.bool false] 4 (0, 0))) ∧ Ext w W)
    (fun pre X Y row hs hg hr => ⟨hs.1, hs.2.grown hg hs.2.size (fun r e => (hr r e).1)⟩)
    (fun cd pre X Y row hs hg hr => by
      obtain ⟨⟨h1, h2, h5⟩, h7⟩ := hs
      have hr' := fun r e => (hr r e).2
      exact ⟨⟨h1, h2, heap_kept h5 hg hr'⟩, Below.grown h7 hg h7.size (fun r e => by have := (hr r e).1; have := HZ4.out; have := HZ.out; omega)⟩)
    ⟨fun x hx => absurd hx (by simp), Below.refl _ _⟩
    (fun x a' _ => a' = { tmps := #[.slice A os.length c, .int .i64 y, .slice A' n' c', .pointer (some ⟨pd, 0, none⟩), .pointer (some ⟨pd + 1, 0, none⟩), .pointer (some ⟨pd + 1 + 1, 0, none⟩), .pointer (some ⟨pd + 1 + 1 + 1, 0, none⟩), .int .i64 x, .slice A os.length c, .func (.func 124) #[] #[.pointer (some ⟨pe, 0, none⟩), .pointer (some ⟨pb, 0, none⟩)], .int .i64 x, undef, undef, undef, undef, undef, undef], defers := [] })
    (fun _ _ _ _ _ _ hs _ _ => hs)
    ?assign ?body ?done ?stop
  case assign =>
    rintro l pre x W K hI hK
    gi_wp2
    exact hK _ _ (KeepsFrom.refl _ _) (keepsOn_r _) hI rfl
  case body =>
    rintro l pre x a' W hl ⟨r, hr⟩ ⟨hpre, hBW⟩ rfl hlt2
    have hE3 : Ext w3 W := hBW
    have h102 := fun W' (hW : Ext W W') => H102.out x W' ((HE3.out.trans hE3).trans hW)
    obtain ⟨t, ht⟩ : ∃ t, togB os x ps = t := ⟨_, rfl⟩
    simp only [ht] at h102
    have HT := Lib.hid ht
    have HPRE := Lib.hid hpre
    have HBW := Lib.hid hE3
    have HON := Lib.hid hon
    have HL := Lib.hid hl
    clear hpre hBW hst hr hE hon hl ht hE3
    gi_upto_region 3 with fail
    refine ar3_wp (p3 := pd) (p4 := pd + 1) (p5 := pd + 1 + 1) (A := A) (nn := os.length) (cc := c) (A5 := A') (n5 := n') (c5 := c') (x := x) (t := t) (y := y) rfl rfl rfl rfl rfl (fun W' hW => cell_of_row _ _ _ _ _ _ (row_ext R0.out (Ext.trans HBW.out hW))) (fun W' hW => cell_of_row _ _ _ _ _ _ (row_ext R2.out (Ext.trans HBW.out hW))) h102 e102 (fun W' hW => cell_of_row _ _ _ _ _ _ (row_ext R1.out (Ext.trans HBW.out hW))) ?_
    intro W4 e4
    obtain ⟨o5, hdr, h5⟩ : ∃ o5, ar3Reg.toList.drop 5 = [o5] ∧ ar3Reg[5]? = some o5 := by
      have hs : ar3Reg.size = 6 := by kernel_rfl
      refine ⟨ar3Reg[5], ?_, Array.getElem?_eq_getElem _⟩
      rw [List.drop_eq_getElem_cons (by simp [hs]), List.drop_eq_nil_of_le (by simp [hs])]
      simp
    rw [hdr]
    simp only [puts, List.foldl_cons, List.foldl_nil, Act.put, List.setIfInBounds_toArray, List.set_cons_succ, List.set_cons_zero]
    have hop := op_at h5 (·.op) (x := Op.binOp BinOp.gtr 2 (Operand.tmp 14) (Operand.tmp 15) 2) (by kernel_rfl)
    refine wpList_one (v := .bool (decide (y < t))) (op_at h5 (·.guard) (x := none) (by kernel_rfl)) (by simp [execOp, hop, go_sem]) ⟨rfl, ?_⟩
    rw [show o5.dst = some 16 from op_at h5 (·.dst) (by kernel_rfl)]
    simp only [Act.put, List.setIfInBounds_toArray, List.set_cons_succ, List.set_cons_zero]
    have HE4 := Lib.hid (show Ext W W4 from e4)
    clear e4 hdr h5 hop h102
    by_cases hc : t ≤ y
    · rw [decide_eq_false (by omega : ¬ y < t)]
      gi_wp2
      refine ⟨(keepsOthers_below HE4.out).from _, keepsOn_ext HE4.out (fun b h => Nat.lt_of_lt_of_le (HON.out b h) HBW.out.size), fun z hz => ?_, Ext.trans HBW.out HE4.out⟩
      rcases List.mem_append.1 hz with h | h
      · exact HPRE.out z h
      · rw [List.mem_singleton.1 h, HT.out]; exact hc
    · rw [decide_eq_true (by omega : y < t)]
      have r3 := row_ext R3.out (Ext.trans HBW.out HE4.out)
      have d2 : W4.cell? ⟨pd + 1 + 1 + 1, 0, none⟩ = some (.bool false) := cell_of_row _ _ _ _ _ _ r3
      have f2 : W4.frozen? ⟨pd + 1 + 1 + 1, 0, none⟩ = false := by simp [World.frozen?, r3]
      have HR3 := Lib.hid r3
      clear r3
      gi_wp2
      refine ⟨((keepsOthers_below HE4.out).trans (KeepsOthers.setCell _ _ _)).from _, ⟨rfl, ⟨x, by simp, by rw [HT.out]; omega⟩, row_setCell _ _ _ _ _ _ _ HR3.out⟩, set_kept ((HE3.out.trans HBW.out).trans HE4.out) (by have := HZ.out; omega)⟩
  case done =>
    rintro D zs W hD rfl ⟨hpre, hBW⟩ hK
    have HPRE := Lib.hid hpre
    have hEr : Ext w3 W := hBW
    have r2 := row_ext R3.out hEr
    have d2 : W.cell? ⟨pd + 1 + 1 + 1, 0, none⟩ = some (.bool false) := cell_of_row _ _ _ _ _ _ r2
    have f2 : W.frozen? ⟨pd + 1 + 1 + 1, 0, none⟩ = false := by simp [World.frozen?, r2]
    have HR := Lib.hid hEr
    have HR2 := Lib.hid r2
    clear hpre hBW hst hE hon hEr r2
    gi_wp2
    refine leavesM_marks [D] _ (by simp) (fun E hE => ?_) (fun W' hs => ?_)
    · rw [List.mem_singleton.1 hE, heap_set_other _ _ _ _ _ (by have := HZ4.out; omega)]; exact hK
    · have hc5 : W'.cell? ⟨pd + 1 + 1 + 1, 0, none⟩ = some (.bool true) := (World.cell?_of_block (hs.block (pd + 1 + 1 + 1) (by rw [List.mem_singleton]; have := HZ4.out; omega))).trans (cell_of_row _ _ _ _ _ _ (row_setCell _ _ _ _ _ _ _ HR2.out))
      have hok : rightB os y ps = true := List.all_eq_true.2 fun x hx => by simpa using HPRE.out x hx
      refine ⟨.bool true, by simp [results, Tryz.f82, go_sem, hc5], by rw [hok], Below.trans (set_kept (HE3.out.trans HR.out) (by have := HZ.out; omega)) (hs.below fun E hE => ?_)⟩
      rw [List.mem_singleton.1 hE]
      have := HR.out.size
      have := HE3.out.size
      omega
  case stop =>
    rintro D cd pre W hD hsp ⟨⟨rfl, ⟨x, hx, hbad⟩, h5⟩, h7⟩ hK
    have hok : rightB os y ps = false := by
      rw [Bool.eq_false_iff]
      intro h
      have := List.all_eq_true.1 h x (hsp.subset hx)
      exact hbad (by simpa using this)
    have HOK := Lib.hid hok
    have HR := Lib.hid h7
    have HR2 := Lib.hid h5
    clear hst hE hon h5 h7 hok hsp hbad
    gi_wp2
    refine leavesM_marks [D] _ (by simp) (fun E hE => ?_) (fun W' hs => ?_)
    · rw [List.mem_singleton.1 hE]; exact hK
    · have hc5 : W'.cell? ⟨pd + 1 + 1 + 1, 0, none⟩ = some (.bool false) := (World.cell?_of_block (hs.block (pd + 1 + 1 + 1) (by rw [List.mem_singleton]; have := HZ4.out; omega))).trans (cell_of_row _ _ _ _ _ _ HR2.out)
      refine ⟨.bool false, by simp [results, Tryz.f82, go_sem, hc5], by rw [HOK.out], Below.trans HR.out (hs.below fun E hE => ?_)⟩
      rw [List.mem_singleton.1 hE]
      have := HE3.out.size
      omega
end Go.Proofs.YtmlmnljbegcjcaaGreat

/- bound, CheckPrices. -/
namespace Go.Proofs.YtmlmnljbegcjcaaGreat
open Go.RowKit Go.Shelf
attribute [local irreducible] bitCells

/-- What the first k orders lack to their prices. -/
def lackTo (os : List Odr) (ps : List Int) (k : Nat) : Int := sumI ((List.range k).map fun i => (oAt os i).worth - ps.getD i 0)
theorem lackTo_succ (os : List Odr) (ps : List Int) (k : Nat) : lackTo os ps (k + 1) = lackTo os ps k + ((oAt os k).worth - ps.getD k 0) := by
  unfold lackTo
  rw [List.range_succ, List.map_append, sumI_append]
  simp [sumI]
/-- The bound of prices. -/
def boundB (os : List Odr) (k y : Int) (ps : List Int) : Int := k * y + lackTo os ps os.length
theorem lackTo_bound {os : List Odr} (hk : ∀ o, o ∈ os → ordOk o = true) {ps : List Int} (hf : Fair ps) : ∀ k : Nat, k ≤ os.length → -(10000000 * (k : Int)) ≤ lackTo os ps k ∧ lackTo os ps k ≤ 10100000 * k
  | 0, _ => by simp [lackTo, sumI]
  | k + 1, h => by
    have ih := lackTo_bound hk hf k (by omega)
    rw [lackTo_succ]
    have := getD_fair hf k
    have := (ordOk_iff.1 (hk _ (oAt_mem (show k < os.length by omega)))).2.2
    omega
theorem mul_small {k y : Int} (h0 : 0 ≤ k) (h1 : k ≤ 14) (h2 : 0 ≤ y) (h3 : y ≤ 2000000) : 0 ≤ k * y ∧ k * y ≤ 28000000 := by
  refine ⟨Int.mul_nonneg h0 h2, ?_⟩
  have := Int.mul_le_mul h1 h3 h2 (by omega : (0 : Int) ≤ 14)
  omega

set_option maxRecDepth 100000 in
set_option maxHeartbeats 2000000 in
theorem bound_any {A : Option Addr} {c : Nat} {os : List Odr} {w : World} (hb : IsBook w A c os) (k y : Int) (h0 : 0 ≤ k) (h1 : k ≤ 14) (h2 : 0 ≤ y) (h3 : y ≤ 2000000) (A' : Option Addr) (n' c' : Nat) (ps : List Int) (hn' : n' = ps.length) (hl : ps.length = os.length) (hf : Fair ps) (hh : Held w w.heap.size 1 encI A' ps) :
    Calls Tryz.prog 83 #[.slice A os.length c, .int .i64 k, .int .i64 y, .slice A' n' c'] w fun e w' => e = .returned (.int .i64 (boundB os k y ps)) ∧ Ext w w' := by
  have HB := Lib.hid hb
  have HH := Lib.hid hh
  have HN := Lib.hid hn'
  have HL := Lib.hid hl
  have HF := Lib.hid hf
  have h14 := hb.few.2
  have hbd := lackTo_bound (orders_ok hb.ok).2 hf
  have hsu := lackTo_succ os ps
  have hmu := mul_small h0 h1 h2 h3
  have hwm : IntKind.i64.wrap (k * y) = k * y := IntWalk.i64_in _ (by omega)
  unfold boundB
  obtain ⟨m, hm⟩ : ∃ m, k * y = m := ⟨_, rfl⟩
  rw [hm] at hmu hwm ⊢
  obtain ⟨WT, hW⟩ : ∃ WT, lackTo os ps = WT := ⟨_, rfl⟩
  have hw0 : WT 0 = 0 := by rw [← hW]; rfl
  simp only [hW] at hbd hsu ⊢
  have HBD := Lib.hid hbd
  have HSU := Lib.hid hsu
  clear hb hh hn' hl hf hbd hsu hW h0 h1 h2 h3
  go_enter Tryz.func83, Tryz.ntmps83
  go_wp2
  go_loopw [9, 17] (fun s i wr => ∃ j : Nat, j ≤ os.length ∧ i = .int .i64 j ∧ s = .int .i64 (m + WT j) ∧ Hid (Ext w wr)) (fun _ i _ => os.length - (intOf i).toNat)
  case atStart => exact ⟨0, Nat.zero_le _, rfl, by rw [hw0, Int.add_zero], Lib.hid (Ext.refl _)⟩
  case round =>
    obtain ⟨j, hj, rfl, rfl, hE⟩ := hrel
    by_cases hlt : j < os.length
    · have hltz : (j : Int) < (os.length : Int) := by omega
      have hjp : j < ps.length := by rw [HL.out]; exact hlt
      have hjn : j < n' := by rw [HN.out]; exact hjp
      have hjnz : (j : Int) < (n' : Int) := by omega
      obtain ⟨b, off, rfl, hbl, c0, c1, c2, c3, c4, c5, c6⟩ := (HB.out.ext hE.out).at hlt
      have hsu := HSU.out j
      have hbd := HBD.out j (by omega)
      have hwb := HF.out _ (List.getElem_mem hjp)
      have hwo := (ordOk_iff.1 ((orders_ok HB.out.ok).2 _ (List.getElem_mem hlt))).2.2
      rw [oAt_get hlt, show ps.getD j 0 = ps[j] from by simp [List.getD_eq_getElem?_getD, List.getElem?_eq_getElem hjp]] at hsu
      have hps : ∀ W, Ext w W → ∃ b off, A' = some ⟨b, off, none⟩ ∧ W.cell? ⟨b, off + j, none⟩ = some (.int .i64 ps[j]) := fun W hW => int_get (HH.out.ext hW) hjp
      obtain ⟨o, ho⟩ : ∃ o, os[j] = o := ⟨_, rfl⟩
      rw [ho] at c0 c1 c2 c3 c4 c5 c6 hsu hwo
      obtain ⟨p, hp⟩ : ∃ p, ps[j] = p := ⟨_, rfl⟩
      rw [hp] at hsu hwb
      simp only [hp] at hps
      obtain ⟨s, hs⟩ : ∃ s, WT j = s := ⟨_, rfl⟩
      obtain ⟨s2, hs2⟩ : ∃ s2, WT (j + 1) = s2 := ⟨_, rfl⟩
      rw [hs] at hbd
      rw [hs, hs2] at hsu
      rw [hs]
      have HS2 := Lib.hid (And.intro hs2 hsu)
      have hjb : 0 ≤ (j : Int) ∧ (j : Int) ≤ 13 := by omega
      have hw1 : IntKind.i64.wrap (o.worth - p) = o.worth - p := IntWalk.i64_in _ (by omega)
      have hw2 : IntKind.i64.wrap (m + s + (o.worth - p)) = m + s + (o.worth - p) := IntWalk.i64_in _ (by omega)
      clear hs hs2 hp ho hsu
      go_upto_region 5 with fail
      obtain ⟨w5, hw5⟩ : ∃ w5, wr.alloc (.cells #[.int .i64 o.lo, .int .i64 o.hi, .int .i64 o.young, .int .i64 o.old, .int .i64 o.worth, .int .i64 (bLo o), .int .i64 (bHi o)] 80) = w5 := ⟨_, rfl⟩
      obtain ⟨p5, hp5⟩ : ∃ p5, wr.heap.size = p5 := ⟨_, rfl⟩
      have e5 : Ext w w5 := by rw [← hw5]; exact hE.out.trans (ext_alloc _ _)
      have r5 : w5.heap[p5]? = some (.cells #[.int .i64 o.lo, .int .i64 o.hi, .int .i64 o.young, .int .i64 o.old, .int .i64 o.worth, .int .i64 (bLo o), .int .i64 (bHi o)] 80 (0, 0)) := by rw [← hw5]; exact row_last _ _ _ hp5.symm
      have cw : w5.cell? ⟨p5, 4, none⟩ = some (.int .i64 o.worth) := cell_of_row _ _ _ _ _ _ r5
      rw [hw5, hp5]
      obtain ⟨b1, o1, rfl, hc⟩ := hps w5 e5
      have HE5 := Lib.hid e5
      clear hw5 hp5 e5 r5 hps c0 c1 c2 c3 c4 c5 c6
      go_quiet (fail)
      go_wp2
      go_roundw
      case measure => simp [intOf]; omega
      case rel => exact ⟨j + 1, by omega, by go_num, by rw [HS2.out.1, HS2.out.2]; congr 1; omega, Lib.hid (ext_drewN HE5.out _)⟩
    · have hltz : ¬ (j : Int) < (os.length : Int) := by omega
      obtain rfl : j = os.length := by omega
      go_wp2
      go_ret
      exact ⟨rfl, hE.out⟩
end Go.Proofs.YtmlmnljbegcjcaaGreat

/- CheckPrices. -/
namespace Go.Proofs.YtmlmnljbegcjcaaGreat
open Go.RowKit Go.Shelf
attribute [local irreducible] bitCells

theorem for_ok {os : List Odr} {x : Int} (h : forErr os x = 0) : 0 ≤ x ∧ x ≤ 14 := by
  unfold forErr at h
  split at h
  · split at h
    · assumption
    · cases h
  · exact absurd h (by assumption)
def pricesErr (os : List Odr) (k y : Int) (ps : List Int) : Int :=
  if forErr os k = 0 then if ps.length = os.length then if ([y].all (inside 0 2000000) && pricesOk os ps) = true then if rightB os y ps = true then 0 else 14 else 3 else 15 else forErr os k
def pricesAns (os : List Odr) (k y : Int) (ps : List Int) : Int := if pricesErr os k y ps = 0 then boundB os k y ps else 0
theorem fair_prices {os : List Odr} (hk : ∀ o, o ∈ os → ordOk o = true) {ps : List Int} (hl : ps.length = os.length) (h : pricesOk os ps = true) : Fair ps := by
  intro p hp
  obtain ⟨i, hi, rfl⟩ := List.getElem_of_mem hp
  unfold pricesOk at h
  have := List.all_eq_true.1 h i (List.mem_range.2 hi)
  have hw := (ordOk_iff.1 (hk _ (oAt_mem (show i < os.length by omega)))).2.2
  simp [inside, List.getElem?_eq_getElem hi] at this
  omega

set_option maxRecDepth 100000 in
set_option maxHeartbeats 2000000 in
theorem checkPrices_any {A : Option Addr} {n c : Nat} {os : List Odr} {w : World} (h : IsOrders w A n c os) (k y : Int) (A' : Option Addr) (n' c' : Nat) (ps : List Int) (hn' : n' = ps.length) (hm' : n' ≤ 9223372036854775807) (hh : Held w w.heap.size 1 encI A' ps) :
    Calls Tryz.prog 44 #[.slice A n c, .int .i64 k, .int .i64 y, .slice A' n' c'] w (NumPost (pricesAns os k y ps) (pricesErr os k y ps) w) := by
  have h78 := openedFor_any h k
  have hfe := fun h => for_ok (os := os) (x := k) h
  have h81 := fun W (hW : Ext w W) A1 c1 (hb : IsBook W A1 c1 os) hl => arePrices_any hb A' n' c' ps hn' hl (hh.ext hW)
  have h82 := fun W (hW : Ext w W) A1 c1 (hb : IsBook W A1 c1 os) hl hf => areRight_any hb y A' n' c' ps hn' hl hf (hh.ext hW)
  have h83 := fun W (hW : Ext w W) A1 c1 (hb : IsBook W A1 c1 os) hl hf h0 h1 h2 h3 => bound_any hb k y h0 h1 h2 h3 A' n' c' ps hn' hl hf (hh.ext hW)
  have hfp := fun h hl hp => fair_prices (os := os) h hl (ps := ps) hp
  have HN := Lib.hid hn'
  obtain ⟨E, hE⟩ : ∃ E, forErr os k = E := ⟨_, rfl⟩
  obtain ⟨Z, hZ⟩ : ∃ Z, pricesErr os k y ps = Z := ⟨_, rfl⟩
  obtain ⟨X, hX⟩ : ∃ X, pricesAns os k y ps = X := ⟨_, rfl⟩
  have ha : Z = if E = 0 then if ps.length = os.length then if ([y].all (inside 0 2000000) && pricesOk os ps) = true then if rightB os y ps = true then 0 else 14 else 3 else 15 else E := by rw [← hZ, ← hE]; rfl
  have hx : X = if Z = 0 then boundB os k y ps else 0 := by rw [← hX, ← hZ]; rfl
  rw [hZ, hX]
  rw [hE] at h78 hfe
  have HA := Lib.hid ha
  have HX := Lib.hid hx
  have HFE := Lib.hid hfe
  have H81 := Lib.hid h81
  have H82 := Lib.hid h82
  have H83 := Lib.hid h83
  have HFP := Lib.hid hfp
  clear ha hx hE hZ hX h hh hn' hfe h81 h82 h83 hfp
  go_enter Tryz.func44, Tryz.ntmps44
  go_wp2_with fail
  refine h78.mono ?_
  rintro e w1 ⟨e1, ⟨hn, rfl⟩ | ⟨rfl, A1, c1, rfl, hbk⟩⟩
  · have HE := Lib.hid e1
    have ha := HA.out
    rw [if_neg hn] at ha
    subst ha
    have hx := HX.out
    rw [if_neg hn] at hx
    subst hx
    clear e1 h78
    go_wp2
    go_ret2
    exact ⟨rfl, HE.out⟩
  · have HE := Lib.hid e1
    have ha := HA.out
    rw [if_pos rfl] at ha
    have hk := HFE.out rfl
    have HB := Lib.hid hbk
    clear e1 h78 hbk
    by_cases hl : ps.length = os.length
    · rw [if_pos hl] at ha
      have hnl : n' = os.length := HN.out.trans hl
      subst hnl
      have h61 := within 0 2000000 (some ⟨w1.heap.size, 0, none⟩) 1 1 [y] (w1.alloc (.cells #[.int .i64 y] 2)) rfl (by decide) (held_row (row_last _ _ _ rfl) rfl)
      obtain ⟨q, hq⟩ : ∃ q, [y].all (inside 0 2000000) = q := ⟨_, rfl⟩
      rw [hq] at h61 ha
      have HQ := Lib.hid hq
      have HLL := Lib.hid hl
      clear hq hl
      cases q with
      | false =>
        rw [if_neg (by simp)] at ha
        subst ha
        have hx := HX.out
        rw [if_neg (by decide)] at hx
        subst hx
        go_wp2_with (refine h61.mono ?_; rintro e w2 ⟨rfl, e2⟩; have HE2 := Lib.hid ((HE.out.trans (ext_alloc _ _)).trans (show Ext _ w2 from e2)); have HB2 := Lib.hid (HB.out.ext ((ext_alloc _ _).trans (show Ext _ w2 from e2))); clear e2 h61)
        go_ret2
        exact ⟨rfl, HE2.out⟩
      | true =>
        obtain ⟨q2, hq2⟩ : ∃ q2, pricesOk os ps = q2 := ⟨_, rfl⟩
        rw [hq2] at ha
        have HQ2 := Lib.hid hq2
        have h81 := fun W hW A1 c1 hb => H81.out W hW A1 c1 hb HLL.out
        simp only [hq2] at h81
        clear hq2
        cases q2 with
        | false =>
          rw [if_neg (by simp)] at ha
          subst ha
          have hx := HX.out
          rw [if_neg (by decide)] at hx
          subst hx
          go_wp2_with (refine h61.mono ?_; rintro e w2 ⟨rfl, e2⟩; have HE2 := Lib.hid ((HE.out.trans (ext_alloc _ _)).trans (show Ext _ w2 from e2)); have HB2 := Lib.hid (HB.out.ext ((ext_alloc _ _).trans (show Ext _ w2 from e2))); clear e2 h61)
          refine (h81 w2 HE2.out A1 c1 HB2.out).mono ?_
          rintro e w3 ⟨rfl, e3⟩
          have HE3 := Lib.hid (HE2.out.trans e3)
          clear e3 h81
          go_wp2
          go_ret2
          exact ⟨rfl, HE3.out⟩
        | true =>
          rw [if_pos (by simp)] at ha
          have hf := HFP.out (orders_ok HB.out.ok).2 HLL.out HQ2.out
          have hy : 0 ≤ y ∧ y ≤ 2000000 := by simpa [inside] using HQ.out
          have HF := Lib.hid (And.intro hf hy)
          have h82 := fun W hW A1 c1 hb => H82.out W hW A1 c1 hb HLL.out hf
          obtain ⟨q3, hq3⟩ : ∃ q3, rightB os y ps = q3 := ⟨_, rfl⟩
          rw [hq3] at ha
          simp only [hq3] at h82
          clear hq3 hf hy
          cases q3 with
          | false =>
            rw [if_neg (by decide)] at ha
            subst ha
            have hx := HX.out
            rw [if_neg (by decide)] at hx
            subst hx
            go_wp2_with (refine h61.mono ?_; rintro e w2 ⟨rfl, e2⟩; have HE2 := Lib.hid ((HE.out.trans (ext_alloc _ _)).trans (show Ext _ w2 from e2)); have HB2 := Lib.hid (HB.out.ext ((ext_alloc _ _).trans (show Ext _ w2 from e2))); clear e2 h61)
            refine (h81 w2 HE2.out A1 c1 HB2.out).mono ?_
            rintro e w3 ⟨rfl, e3⟩
            have HE3 := Lib.hid (HE2.out.trans e3)
            have HB3 := Lib.hid (HB2.out.ext e3)
            clear e3 h81
            go_wp2_with fail
            refine (h82 w3 HE3.out A1 c1 HB3.out).mono ?_
            rintro e w4 ⟨rfl, e4⟩
            have HE4 := Lib.hid (HE3.out.trans e4)
            clear e4 h82
            go_wp2
            go_ret2
            exact ⟨rfl, HE4.out⟩
          | true =>
            rw [if_pos rfl] at ha
            subst ha
            have hx := HX.out
            rw [if_pos rfl] at hx
            subst hx
            go_wp2_with (refine h61.mono ?_; rintro e w2 ⟨rfl, e2⟩; have HE2 := Lib.hid ((HE.out.trans (ext_alloc _ _)).trans (show Ext _ w2 from e2)); have HB2 := Lib.hid (HB.out.ext ((ext_alloc _ _).trans (show Ext _ w2 from e2))); clear e2 h61)
            refine (h81 w2 HE2.out A1 c1 HB2.out).mono ?_
            rintro e w3 ⟨rfl, e3⟩
            have HE3 := Lib.hid (HE2.out.trans e3)
            have HB3 := Lib.hid (HB2.out.ext e3)
            clear e3 h81
            go_wp2_with fail
            refine (h82 w3 HE3.out A1 c1 HB3.out).mono ?_
            rintro e w4 ⟨rfl, e4⟩
            have HE4 := Lib.hid (HE3.out.trans e4)
            have HB4 := Lib.hid (HB3.out.ext e4)
            clear e4 h82
            have h83 := H83.out w4 HE4.out A1 c1 HB4.out HLL.out HF.out.1 hk.1 hk.2 HF.out.2.1 HF.out.2.2
            go_wp2_with fail
            refine h83.mono ?_
            rintro e w5 ⟨rfl, e5⟩
            have HE5 := Lib.hid (HE4.out.trans e5)
            clear e5 h83
            go_wp2
            go_ret2
            exact ⟨rfl, HE5.out⟩
    · rw [if_neg hl] at ha
      subst ha
      have hx := HX.out
      rw [if_neg (by decide)] at hx
      subst hx
      have hnl : ¬ n' = os.length := fun h => hl (HN.out.symm.trans h)
      have hnlz : ¬ (n' : Int) = (os.length : Int) := by omega
      clear hl
      go_wp2
      go_ret2
      exact ⟨rfl, HE.out⟩
end Go.Proofs.YtmlmnljbegcjcaaGreat

/- left's region: what is left at a birth, appended. -/
namespace Go.Proofs.YtmlmnljbegcjcaaGreat
open Go.RowKit Go.Shelf

theorem run_build36 (w : World) (x : Int) : (Instr.buildSlice 36 1 #[(0, .int .i64 x)]).run Tryz.prog w = .ok (.slice (some ⟨w.heap.size, 0, none⟩) 1 1) (w.alloc (.cells #[.int .i64 x] 2)) := by
  have hf : Tryz.prog.builtSlice 2 1 [(0, .int .i64 x)] = some #[.int .i64 x] := by kernel_rfl
  unfold Program.builtSlice at hf
  obtain ⟨i, hi, hz⟩ := Option.map_eq_some_iff.1 info2
  simp only [Prod.mk.injEq] at hz
  simp only [hi, hz.1] at hf
  rw [if_neg (by simp [hz.2.1])] at hf
  exact run_buildSlice (P := Tryz.prog) w 36 2 1 #[(0, .int .i64 x)] #[.int .i64 x] i _ Tryz.underlying36 hi hz.1 (by simp [hz.2.1]) (by simp [hz.2.1]) hf
theorem build36_op {a : Act} {W : World} {o : Oper} {t : Tmp} {x : Int} (hop : o.op = .buildSlice 36 1 #[(0, .tmp t)]) (eR : a.eval (.tmp t) = .int .i64 x) :
    (execOp a.eval o).run Tryz.prog W = .ok (.value (.slice (some ⟨W.heap.size, 0, none⟩) 1 1)) (W.alloc (.cells #[.int .i64 x] 2)) := by
  have h := run_build36 W x
  simp only [execOp, hop, List.map_toArray, List.map_cons, List.map_nil, eR, Sem.run_bind, h]
  rfl

/-- The slots of region 5 of function 101. -/
def lf5D (i : Nat) : Tmp := if i = 0 then 27 else if i = 1 then 28 else if i = 2 then 29 else if i = 3 then 30 else if i = 4 then 31 else if i = 5 then 32 else if i = 6 then 33 else 34
/-- What each operation yields. -/
def lf5S (A A5 : Option Addr) (nn cc n5 c5 _p4 _p6 _p7 _p9 : Nat) (sv : Value) (x t y u : Int) (ix : Nat) (v : Value) (W : World) : Prop :=
  match ix with
  | 0 => v = sv
  | 1 => v = .int .i64 y
  | 2 => v = .slice A nn cc
  | 3 => v = .int .i64 x
  | 4 => v = .slice A5 n5 c5
  | 5 => v = .int .i64 t
  | 6 => v = .int .i64 u
  | 7 => ∃ g, v = .slice (some ⟨g, 0, none⟩) 1 1 ∧ W.heap[g]? = some (.cells #[.int .i64 u] 2 (0, 0))
  | _ => True
noncomputable def lf5Reg : Array Oper := (Tryz.f101.body.bind (regionIn · 5)).getD #[]
theorem lf5S_ext {A A5 : Option Addr} {nn cc n5 c5 p4 p6 p7 p9 : Nat} {sv : Value} {x t y u : Int} : ∀ (i : Nat) (v : Value) (W W' : World), lf5S A A5 nn cc n5 c5 p4 p6 p7 p9 sv x t y u i v W → Below W.heap.size W W' → lf5S A A5 nn cc n5 c5 p4 p6 p7 p9 sv x t y u i v W' := by
  intro i v W W' h e
  match i with
  | 0 => exact h
  | 1 => exact h
  | 2 => exact h
  | 3 => exact h
  | 4 => exact h
  | 5 => exact h
  | 6 => exact h
  | 7 => (obtain ⟨h1, h2, h3⟩ := h; exact ⟨h1, h2, row_ext h3 e⟩)
  | k + 8 => exact trivial
def lf5Ok (A A5 : Option Addr) (nn cc n5 c5 p4 p6 p7 p9 : Nat) (sv : Value) (x t y u : Int) (Q : Exit → Act → World → Prop) (a : Act) (W : World) (ix : Nat) (o : Oper) : Prop :=
  (∀ j b, o.guard = some (j, b) → a.eval (.tmp (lf5D j)) = .bool b) ∧ o.wp Tryz.prog a W (fun a'' W' => ∃ v, a'' = a.put o.dst v ∧ lf5S A A5 nn cc n5 c5 p4 p6 p7 p9 sv x t y u ix v W' ∧ Below W.heap.size W W') Q
section
variable {A A5 : Option Addr} {nn cc n5 c5 p4 p6 p7 p9 : Nat} {sv : Value} {x t y u : Int} {Q : Exit → Act → World → Prop} {a : Act} {V W : World} {o : Oper}
set_option maxHeartbeats 1000000 in
theorem lf5_op0 (o9 : a.eval (.tmp 9) = .pointer (some ⟨p9, 0, none⟩)) (d9 : ∀ W, Ext V W → W.cell? ⟨p9, 0, none⟩ = some sv) (hB : Ext V W) (ho : lf5Reg[0]? = some o) : lf5Ok A A5 nn cc n5 c5 p4 p6 p7 p9 sv x t y u Q a W 0 o := by
  have hop := op_at ho (·.op) (x := Op.load 36 (Operand.tmp 9)) (by kernel_rfl)
  have hgd := op_at ho (·.guard) (x := none) (by kernel_rfl)
  refine ⟨fun j b h => (by rw [hgd] at h; cases h), ?_⟩
  have d9' := d9 W hB
  exact specs_value (R := fun v W => lf5S A A5 nn cc n5 c5 p4 p6 p7 p9 sv x t y u 0 v W) (v := sv) (by simp [execOp, hop, go_sem, ev o9, d9']) rfl (Ext.refl W)
set_option maxHeartbeats 1000000 in
theorem lf5_op1 (o6 : a.eval (.tmp 6) = .pointer (some ⟨p6, 0, none⟩)) (d6 : ∀ W, Ext V W → W.cell? ⟨p6, 0, none⟩ = some (.int .i64 y)) (hB : Ext V W) (ho : lf5Reg[1]? = some o) : lf5Ok A A5 nn cc n5 c5 p4 p6 p7 p9 sv x t y u Q a W 1 o := by
  have hop := op_at ho (·.op) (x := Op.load 2 (Operand.tmp 6)) (by kernel_rfl)
  have hgd := op_at ho (·.guard) (x := none) (by kernel_rfl)
  refine ⟨fun j b h => (by rw [hgd] at h; cases h), ?_⟩
  have d6' := d6 W hB
  exact specs_value (R := fun v W => lf5S A A5 nn cc n5 c5 p4 p6 p7 p9 sv x t y u 1 v W) (v := .int .i64 y) (by simp [execOp, hop, go_sem, ev o6, d6']) rfl (Ext.refl W)
set_option maxHeartbeats 1000000 in
theorem lf5_op2 (o4 : a.eval (.tmp 4) = .pointer (some ⟨p4, 0, none⟩)) (d4 : ∀ W, Ext V W → W.cell? ⟨p4, 0, none⟩ = some (.slice A nn cc)) (hB : Ext V W) (ho : lf5Reg[2]? = some o) : lf5Ok A A5 nn cc n5 c5 p4 p6 p7 p9 sv x t y u Q a W 2 o := by
  have hop := op_at ho (·.op) (x := Op.load 75 (Operand.tmp 4)) (by kernel_rfl)
  have hgd := op_at ho (·.guard) (x := none) (by kernel_rfl)
  refine ⟨fun j b h => (by rw [hgd] at h; cases h), ?_⟩
  have d4' := d4 W hB
  exact specs_value (R := fun v W => lf5S A A5 nn cc n5 c5 p4 p6 p7 p9 sv x t y u 2 v W) (v := .slice A nn cc) (by simp [execOp, hop, go_sem, ev o4, d4']) rfl (Ext.refl W)
set_option maxHeartbeats 1000000 in
theorem lf5_op3 (o10 : a.eval (.tmp 10) = .int .i64 x) (ho : lf5Reg[3]? = some o) : lf5Ok A A5 nn cc n5 c5 p4 p6 p7 p9 sv x t y u Q a W 3 o := by
  have hop := op_at ho (·.op) (x := Op.move (Operand.tmp 10)) (by kernel_rfl)
  have hgd := op_at ho (·.guard) (x := none) (by kernel_rfl)
  refine ⟨fun j b h => (by rw [hgd] at h; cases h), ?_⟩
  exact specs_value (R := fun v W => lf5S A A5 nn cc n5 c5 p4 p6 p7 p9 sv x t y u 3 v W) (v := .int .i64 x) (by simp [execOp, hop, go_sem, ev o10]) rfl (Ext.refl W)
set_option maxHeartbeats 1000000 in
theorem lf5_op4 (o7 : a.eval (.tmp 7) = .pointer (some ⟨p7, 0, none⟩)) (d7 : ∀ W, Ext V W → W.cell? ⟨p7, 0, none⟩ = some (.slice A5 n5 c5)) (hB : Ext V W) (ho : lf5Reg[4]? = some o) : lf5Ok A A5 nn cc n5 c5 p4 p6 p7 p9 sv x t y u Q a W 4 o := by
  have hop := op_at ho (·.op) (x := Op.load 36 (Operand.tmp 7)) (by kernel_rfl)
  have hgd := op_at ho (·.guard) (x := none) (by kernel_rfl)
  refine ⟨fun j b h => (by rw [hgd] at h; cases h), ?_⟩
  have d7' := d7 W hB
  exact specs_value (R := fun v W => lf5S A A5 nn cc n5 c5 p4 p6 p7 p9 sv x t y u 4 v W) (v := .slice A5 n5 c5) (by simp [execOp, hop, go_sem, ev o7, d7']) rfl (Ext.refl W)
set_option maxHeartbeats 1000000 in
theorem lf5_op5 (k1 : ∀ W, Ext V W → Calls Tryz.prog 102 #[.slice A nn cc, .int .i64 x, .slice A5 n5 c5] W fun e w' => e = .returned (.int .i64 t) ∧ Ext W w') (eg : ∀ args w, (callFunc 102 args).run Tryz.prog w = .ok (.enter 102 args) w) (hB : Ext V W) (haft : ∀ j, (o.after.any fun e => decide (e.on = j) && Region.binds .any e) = true → lf5S A A5 nn cc n5 c5 p4 p6 p7 p9 sv x t y u j (a.eval (.tmp (lf5D j))) W) (ho : lf5Reg[5]? = some o) : lf5Ok A A5 nn cc n5 c5 p4 p6 p7 p9 sv x t y u Q a W 5 o := by
  have hop := op_at ho (·.op) (x := Op.call { callee := Callee.value (Operand.func 102), args := #[Operand.tmp 29, Operand.tmp 30, Operand.tmp 31], argTypes := #[75, 2, 36] }) (by kernel_rfl)
  have hgd := op_at ho (·.guard) (x := none) (by kernel_rfl)
  have e2 : a.eval (.tmp 29) = .slice A nn cc := haft 2 (op_at ho (fun o => o.after.any fun e => decide (e.on = 2) && Region.binds .any e) (x := true) (by kernel_rfl))
  have e3 : a.eval (.tmp 30) = .int .i64 x := haft 3 (op_at ho (fun o => o.after.any fun e => decide (e.on = 3) && Region.binds .any e) (x := true) (by kernel_rfl))
  have e4 : a.eval (.tmp 31) = .slice A5 n5 c5 := haft 4 (op_at ho (fun o => o.after.any fun e => decide (e.on = 4) && Region.binds .any e) (x := true) (by kernel_rfl))
  refine ⟨fun j b h => (by rw [hgd] at h; cases h), ?_⟩
  refine specs_call (R := fun v W => lf5S A A5 nn cc n5 c5 p4 p6 p7 p9 sv x t y u 5 v W) (f := 102) (args := #[.slice A nn cc, .int .i64 x, .slice A5 n5 c5]) (by simp [execOp, hop, go_sem, ev e2, ev e3, ev e4, eg]) ((k1 W hB).mono ?_)
  rintro e w' ⟨rfl, h3⟩
  exact ⟨_, rfl, rfl, h3⟩
set_option maxHeartbeats 1000000 in
theorem lf5_op6 (wz : IntKind.i64.wrap (y - t) = u) (haft : ∀ j, (o.after.any fun e => decide (e.on = j) && Region.binds .any e) = true → lf5S A A5 nn cc n5 c5 p4 p6 p7 p9 sv x t y u j (a.eval (.tmp (lf5D j))) W) (ho : lf5Reg[6]? = some o) : lf5Ok A A5 nn cc n5 c5 p4 p6 p7 p9 sv x t y u Q a W 6 o := by
  have hop := op_at ho (·.op) (x := Op.binOp BinOp.sub 2 (Operand.tmp 28) (Operand.tmp 32) 2) (by kernel_rfl)
  have hgd := op_at ho (·.guard) (x := none) (by kernel_rfl)
  have e1 : a.eval (.tmp 28) = .int .i64 y := haft 1 (op_at ho (fun o => o.after.any fun e => decide (e.on = 1) && Region.binds .any e) (x := true) (by kernel_rfl))
  have e5 : a.eval (.tmp 32) = .int .i64 t := haft 5 (op_at ho (fun o => o.after.any fun e => decide (e.on = 5) && Region.binds .any e) (x := true) (by kernel_rfl))
  refine ⟨fun j b h => (by rw [hgd] at h; cases h), ?_⟩
  exact specs_value (R := fun v W => lf5S A A5 nn cc n5 c5 p4 p6 p7 p9 sv x t y u 6 v W) (v := .int .i64 u) (by simp [execOp, hop, go_sem, ev e1, ev e5, wz]) rfl (Ext.refl W)
set_option maxHeartbeats 1000000 in
theorem lf5_op7 (haft : ∀ j, (o.after.any fun e => decide (e.on = j) && Region.binds .any e) = true → lf5S A A5 nn cc n5 c5 p4 p6 p7 p9 sv x t y u j (a.eval (.tmp (lf5D j))) W) (ho : lf5Reg[7]? = some o) : lf5Ok A A5 nn cc n5 c5 p4 p6 p7 p9 sv x t y u Q a W 7 o := by
  have hop := op_at ho (·.op) (x := Op.buildSlice 36 1 #[(0, Operand.tmp 33)]) (by kernel_rfl)
  have hgd := op_at ho (·.guard) (x := none) (by kernel_rfl)
  have e6 : a.eval (.tmp 33) = .int .i64 u := haft 6 (op_at ho (fun o => o.after.any fun e => decide (e.on = 6) && Region.binds .any e) (x := true) (by kernel_rfl))
  refine ⟨fun j b h => (by rw [hgd] at h; cases h), ?_⟩
  have eR : a.eval (.tmp 33) = .int .i64 u := e6
  exact specs_value (R := fun v W => lf5S A A5 nn cc n5 c5 p4 p6 p7 p9 sv x t y u 7 v W) (v := .slice (some ⟨W.heap.size, 0, none⟩) 1 1) (W' := W.alloc (.cells #[.int .i64 u] 2)) (build36_op hop eR) ⟨_, rfl, row_last _ _ _ rfl⟩ (ext_alloc _ _)
set_option maxRecDepth 100000 in
set_option maxHeartbeats 4000000 in
/-- Region 5 of function 101. -/
theorem lf5_wp {id : Nat} {l0 m0 : Nat} (hlen : a.tmps.size = 38) (o4 : a.eval (.tmp 4) = .pointer (some ⟨p4, 0, none⟩)) (o6 : a.eval (.tmp 6) = .pointer (some ⟨p6, 0, none⟩)) (o7 : a.eval (.tmp 7) = .pointer (some ⟨p7, 0, none⟩)) (o9 : a.eval (.tmp 9) = .pointer (some ⟨p9, 0, none⟩)) (o10 : a.eval (.tmp 10) = .int .i64 x) (d9 : ∀ W, Ext V W → W.cell? ⟨p9, 0, none⟩ = some sv) (d6 : ∀ W, Ext V W → W.cell? ⟨p6, 0, none⟩ = some (.int .i64 y)) (d4 : ∀ W, Ext V W → W.cell? ⟨p4, 0, none⟩ = some (.slice A nn cc)) (d7 : ∀ W, Ext V W → W.cell? ⟨p7, 0, none⟩ = some (.slice A5 n5 c5)) (k1 : ∀ W, Ext V W → Calls Tryz.prog 102 #[.slice A nn cc, .int .i64 x, .slice A5 n5 c5] W fun e w' => e = .returned (.int .i64 t) ∧ Ext W w') (eg : ∀ args w, (callFunc 102 args).run Tryz.prog w = .ok (.enter 102 args) w) (wz : IntKind.i64.wrap (y - t) = u) (K : (∀ W v7, Ext V W → lf5S A A5 nn cc n5 c5 p4 p6 p7 p9 sv x t y u 7 v7 W → wpList Tryz.prog lf5Reg (fun e a w => e = .normal ∧ Q .normal a w) (lf5Reg.toList.drop 8) (puts a [(27, sv), (28, .int .i64 y), (29, .slice A nn cc), (30, .int .i64 x), (31, .slice A5 n5 c5), (32, .int .i64 t), (33, .int .i64 u), (34, v7)]) W)) : (Code.region id lf5Reg true).wpIn (Fence.wide.inRound l0) m0 Tryz.prog Q a V := by
  refine round_of_any (by kernel_rfl) (by kernel_rfl) ?_
  refine any_specs_sink (ops := lf5Reg) 8 (lf5S A A5 nn cc n5 c5 p4 p6 p7 p9 sv x t y u) (Ext V) (by rw [hlen]; kernel_rfl) (by kernel_rfl) ⟨rfl, rfl, rfl, Nat.le_refl _, fun _ _ => rfl⟩ (fun _ _ h e => h.trans e) lf5S_ext lf5D (by kernel_rfl) ?_ ?_
  · intro i o hi ho a' W hB hsz hold haft
    match i, hi with
    | 0, _ => exact lf5_op0 ((hold 9 (by kernel_rfl)).trans o9) d9 hB ho
    | 1, _ => exact lf5_op1 ((hold 6 (by kernel_rfl)).trans o6) d6 hB ho
    | 2, _ => exact lf5_op2 ((hold 4 (by kernel_rfl)).trans o4) d4 hB ho
    | 3, _ => exact lf5_op3 ((hold 10 (by kernel_rfl)).trans o10) ho
    | 4, _ => exact lf5_op4 ((hold 7 (by kernel_rfl)).trans o7) d7 hB ho
    | 5, _ => exact lf5_op5 k1 eg hB haft ho
    | 6, _ => exact lf5_op6 wz haft ho
    | 7, _ => exact lf5_op7 haft ho
    | m + 8, h => exact absurd h (by omega)
  · intro a1 W hB hsz hdf hold hS
    obtain ⟨v7, g7⟩ : ∃ v, v = a1.eval (.tmp 34) := ⟨_, rfl⟩
    have hall : ∀ zz, zz ∈ ([(27, sv), (28, .int .i64 y), (29, .slice A nn cc), (30, .int .i64 x), (31, .slice A5 n5 c5), (32, .int .i64 t), (33, .int .i64 u), (34, v7)] : List (Tmp × Value)) → zz.1 < a.tmps.size ∧ a1.eval (.tmp zz.1) = zz.2 := by
      intro zz hz
      rw [hlen]
      simp only [List.mem_cons, List.not_mem_nil, or_false] at hz
      rcases hz with rfl | rfl | rfl | rfl | rfl | rfl | rfl | rfl
      · exact ⟨(show (27 : Nat) < 38 by omega), hS 0 (by omega)⟩
      · exact ⟨(show (28 : Nat) < 38 by omega), hS 1 (by omega)⟩
      · exact ⟨(show (29 : Nat) < 38 by omega), hS 2 (by omega)⟩
      · exact ⟨(show (30 : Nat) < 38 by omega), hS 3 (by omega)⟩
      · exact ⟨(show (31 : Nat) < 38 by omega), hS 4 (by omega)⟩
      · exact ⟨(show (32 : Nat) < 38 by omega), hS 5 (by omega)⟩
      · exact ⟨(show (33 : Nat) < 38 by omega), hS 6 (by omega)⟩
      · exact ⟨(show (34 : Nat) < 38 by omega), g7.symm⟩
    have ha := act_puts hsz hdf hall (fun t ht => hold t (all_ne_of (l := [(27, sv), (28, .int .i64 y), (29, .slice A nn cc), (30, .int .i64 x), (31, .slice A5 n5 c5), (32, .int .i64 t), (33, .int .i64 u), (34, v7)]) (by kernel_rfl) ht))
    rw [ha]
    exact K W v7 hB (by rw [g7]; exact hS 7 (by omega))
end
end Go.Proofs.YtmlmnljbegcjcaaGreat

/- slices.Min; left: how much the price of an order can be beside others. -/
namespace Go.Proofs.YtmlmnljbegcjcaaGreat
open Go.RowKit Go.Shelf
attribute [local go_sem] Oper.semAt_some
attribute [local irreducible] bitCells

/-- The least of some numbers. -/
def minL : List Int → Int
  | [] => 0
  | x :: l => l.foldl min x
def minTo (l : List Int) (k : Nat) : Int := (l.take k).drop 1 |>.foldl min (l.headD 0)
theorem minTo_succ {l : List Int} {k : Nat} (h1 : 1 ≤ k) (hk : k < l.length) : minTo l (k + 1) = min (minTo l k) l[k] := by
  unfold minTo
  rw [List.take_succ_eq_append_getElem hk, List.drop_append_of_le_length (by simp; omega), List.foldl_append]
  rfl
theorem minTo_all {l : List Int} (h : l ≠ []) : minTo l l.length = minL l := by
  unfold minTo
  rw [List.take_length]
  cases l with
  | nil => exact absurd rfl h
  | cons x l => rfl
set_option maxRecDepth 100000 in
set_option maxHeartbeats 2000000 in
theorem min_any (A : Option Addr) (n c : Nat) (l : List Int) (w : World) (hnn : n = l.length) (hn1 : 1 ≤ n) (hn : n ≤ 4096) (hh : Held w w.heap.size 1 encI A l) :
    Calls Tryz.prog 129 #[.slice A n c] w fun e w' => e = .returned (.int .i64 (minL l)) ∧ w' = w := by
  have HN := Lib.hid hnn
  have hl0 : l ≠ [] := by rintro rfl; simp at hnn; omega
  have hlz : ¬ (n : Int) < 1 := by omega
  have hnz : (0 : Int) < (n : Int) := by omega
  obtain ⟨b, off, rfl, hc0⟩ := int_get hh (k := 0) (by omega)
  have hm1 : minTo l 1 = l[0] := by
    cases l with
    | nil => exact absurd rfl hl0
    | cons x l => simp [minTo]
  have hall := minTo_all hl0
  have hM : ∀ k, 1 ≤ k → (hk : k < l.length) → minTo l (k + 1) = min (minTo l k) l[k] := fun k h1 hk => minTo_succ h1 hk
  have hget := fun k (hk : k < l.length) => int_get hh hk
  obtain ⟨WT, hW⟩ : ∃ WT, minTo l = WT := ⟨_, rfl⟩
  obtain ⟨z, hz⟩ : ∃ z, minL l = z := ⟨_, rfl⟩
  rw [hW] at hm1
  rw [hW, hz] at hall
  simp only [hW] at hM
  rw [hz]
  rw [← hm1] at hc0
  simp only [Nat.add_zero] at hc0
  have HM := Lib.hid hM
  have HA := Lib.hid hall
  have HG := Lib.hid hget
  clear hh hnn hM hall hget hW hz hm1 hl0
  go_enter Tryz.func129, Tryz.ntmps129
  go_wp2
  go_loopw [3, 4] (fun m i wr => ∃ k : Nat, 1 ≤ k ∧ k ≤ n ∧ i = .int .i64 k ∧ m = .int .i64 (WT k) ∧ wr = w) (fun _ i _ => n - (intOf i).toNat)
  case atStart => exact ⟨1, Nat.le_refl _, hn1, rfl, rfl, rfl⟩
  case round =>
    obtain ⟨k, hk1, hk, rfl, rfl, rfl⟩ := hrel
    by_cases hlt : k < n
    · have hltz : (k : Int) < (n : Int) := by omega
      have hkl : k < l.length := by rw [← HN.out]; exact hlt
      obtain ⟨b', off', e, hc⟩ := HG.out k hkl
      injection e with e; injection e with e1 e2
      subst e1 e2
      have hs := HM.out k hk1 hkl
      obtain ⟨x, hx⟩ : ∃ x, l[k] = x := ⟨_, rfl⟩
      rw [hx] at hc hs
      obtain ⟨s, hs1⟩ : ∃ s, WT k = s := ⟨_, rfl⟩
      rw [hs1] at hs
      rw [hs1]
      have HS := Lib.hid hs
      clear hs hs1 hx
      go_wp2
      go_roundw
      case measure => simp [intOf]; omega
      case rel => exact ⟨k + 1, by omega, by omega, by go_num, by rw [HS.out], trivial⟩
    · have hltz : ¬ (k : Int) < (n : Int) := by omega
      obtain rfl : k = n := by omega
      have hz2 : WT k = z := by rw [← HA.out, ← HN.out]
      rw [hz2]
      go_wp2
      go_ret
      exact ⟨rfl, rfl⟩

/-- What may be left for an order at the births that count. -/
def leftL (os : List Odr) (k : Nat) (y : Int) (ps : List Int) (es : List Int) : List Int := (oAt os k).worth :: (es.filter fun x => doneB x (oAt os k)).map fun x => y - togB os x ps
def leftB (os : List Odr) (k : Nat) (y : Int) (ps : List Int) : Int := minL (leftL os k y ps (endsOf os))
theorem leftL_snoc (os : List Odr) (k : Nat) (y : Int) (ps : List Int) (pre : List Int) (x : Int) : leftL os k y ps (pre ++ [x]) = leftL os k y ps pre ++ (if doneB x (oAt os k) = true then [y - togB os x ps] else []) := by
  unfold leftL
  rw [List.filter_append, List.map_append, List.cons_append]
  congr 2
  cases h : doneB x (oAt os k) <;> simp [h]
theorem leftL_len (os : List Odr) (k : Nat) (y : Int) (ps : List Int) (es : List Int) : (leftL os k y ps es).length ≤ es.length + 1 := by
  unfold leftL
  simp
  exact List.length_filter_le _ _
theorem ends_few (os : List Odr) : (endsOf os).length ≤ os.length := by
  unfold endsOf
  have := sortD_len (os.map bHi)
  rw [List.length_map] at this
  exact Nat.le_trans (List.length_filter_le _ _) this
theorem e86 : ∀ args w, (callFunc 86 args).run Tryz.prog w = .ok (.enter 86 args) w := enters_of Tryz.func86 (by kernel_rfl) rfl

set_option maxRecDepth 100000 in
set_option maxHeartbeats 4000000 in
theorem left_any {A : Option Addr} {c : Nat} {os : List Odr} {w : World} (hb : IsBook w A c os) (k : Nat) (hk : k < os.length) (y : Int) (hy0 : -10000000 ≤ y) (hy1 : y ≤ 10000000) (A' : Option Addr) (n' c' : Nat) (ps : List Int) (hn' : n' = ps.length) (hl : ps.length = os.length) (hf : Fair ps) (hh : Held w w.heap.size 1 encI A' ps) :
    Calls Tryz.prog 101 #[.slice A os.length c, .int .i64 (k : Int), .int .i64 y, .slice A' n' c'] w fun e w' => e = .returned (.int .i64 (leftB os k y ps)) ∧ Ext w w' := by
  have HB := Lib.hid hb
  have h14 := hb.few.2
  have hkz : (k : Int) < (os.length : Int) := by omega
  have H102 := Lib.hid (fun x W (hW : Ext w W) => together_any (hb.ext hW) x A' n' c' ps hn' hl hf (hh.ext hW))
  have HTB := Lib.hid (fun x => togB_bound (os := os) hf x)
  have hef := ends_few os
  obtain ⟨b, off, rfl, hbl, c0, c1, c2, c3, c4, c5, c6⟩ := hb.at hk
  have hoat := oAt_get hk
  obtain ⟨o, ho⟩ : ∃ o, os[k] = o := ⟨_, rfl⟩
  rw [ho] at c0 c1 c2 c3 c4 c5 c6 hoat
  have HCS := Lib.hid (fun W (hW : Ext w W) (j : Nat) => (Below.cell hW (p := ⟨b, off + k * 7 + j, none⟩) hbl))
  have HO := Lib.hid hoat
  have HC := Lib.hid (And.intro c0 (And.intro c1 (And.intro c2 (And.intro c3 (And.intro c4 (And.intro c5 c6))))))
  have hwd := (ordOk_iff.1 ((orders_ok hb.ok).2 _ (List.getElem_mem hk))).2.2
  clear hb hh hn' hl hf hoat ho c0 c1 c2 c3 c4 c5 c6
  refine (callsIn_wide (n := 12)).1 ?_
  refine callsIn_of_wp_marks Tryz.func101 rfl trivial ?_ rfl
  simp only [Tryz.ntmps101, List.size_toArray, List.length_cons, List.length_nil, Nat.reduceAdd, Nat.reduceSub, Array.replicate_succ, Array.replicate_zero, List.push_toArray, List.append_toArray, List.nil_append, List.cons_append]
  gi_upto_region 1 with fail
  obtain ⟨w1, hw1⟩ : ∃ w1, ((((w.alloc (.cells #[.slice (some ⟨b, off, none⟩) os.length c] 75)).alloc (.cells #[.int .i64 (k : Int)] 3)).alloc (.cells #[.int .i64 y] 2)).alloc (.cells #[.slice A' n' c'] 36)) = w1 := ⟨_, rfl⟩
  have z1 : w1.heap.size = w.heap.size + 4 := by rw [← hw1]; simp
  have e1 : Ext w w1 := by rw [← hw1]; exact (((ext_alloc _ _).trans (ext_alloc _ _)).trans (ext_alloc _ _)).trans (ext_alloc _ _)
  have r0 : w1.heap[w.heap.size]? = some (.cells #[.slice (some ⟨b, off, none⟩) os.length c] 75 (0, 0)) := by rw [← hw1]; exact row_alloc _ _ _ _ (row_alloc _ _ _ _ (row_alloc _ _ _ _ (row_last _ _ _ rfl)))
  have r1 : w1.heap[w.heap.size + 1]? = some (.cells #[.int .i64 (k : Int)] 3 (0, 0)) := by rw [← hw1]; exact row_alloc _ _ _ _ (row_alloc _ _ _ _ (row_last _ _ _ (by simp)))
  have r2 : w1.heap[w.heap.size + 2]? = some (.cells #[.int .i64 y] 2 (0, 0)) := by rw [← hw1]; exact row_alloc _ _ _ _ (row_last _ _ _ (by simp))
  have r3 : w1.heap[w.heap.size + 3]? = some (.cells #[.slice A' n' c'] 36 (0, 0)) := by rw [← hw1]; exact row_last _ _ _ (by simp)
  rw [hw1]
  obtain ⟨pd, hpd⟩ : ∃ pd, w.heap.size = pd := ⟨_, rfl⟩
  have HZ := Lib.hid (show w.heap.size ≤ pd from Nat.le_of_eq hpd)
  rw [hpd] at z1 r0 r1 r2 r3 ⊢
  have q0 : w1.cell? ⟨pd, 0, none⟩ = some (.slice (some ⟨b, off, none⟩) os.length c) := cell_of_row _ _ _ _ _ _ r0
  have q1 : w1.cell? ⟨pd + 1, 0, none⟩ = some (.int .i64 (k : Int)) := cell_of_row _ _ _ _ _ _ r1
  have q4 : w1.cell? ⟨b, off + k * 7 + 4, none⟩ = some (.int .i64 o.worth) := (HCS.out w1 e1 4).trans HC.out.2.2.2.2.1
  clear hw1 hpd
  gi_upto_region 2 with fail
  obtain ⟨w2, hw2⟩ : ∃ w2, (w1.alloc (.cells #[.int .i64 o.worth] 2)).alloc (.cells #[.slice (some ⟨pd + 4, 0, none⟩) 1 1] 36) = w2 := ⟨_, rfl⟩
  have z2 : w2.heap.size = pd + 6 := by rw [← hw2]; simp [z1]
  have e2 : Ext w1 w2 := by rw [← hw2]; exact (ext_alloc _ _).trans (ext_alloc _ _)
  have rg : w2.heap[pd + 4]? = some (.cells #[.int .i64 o.worth] 2 (0, 0)) := by rw [← hw2]; exact row_alloc _ _ _ _ (row_last _ _ _ z1.symm)
  have r9 : w2.heap[pd + 5]? = some (.cells #[.slice (some ⟨pd + 4, 0, none⟩) 1 1] 36 (0, 0)) := by rw [← hw2]; exact row_last _ _ _ (by simp [z1])
  have ho : w2.ownsRow (pd + 4) 2 1 (.slice (some ⟨pd + 4, 0, none⟩) 1 1) 1 [.int .i64 o.worth] := ⟨rfl, .inr ⟨pd + 4, 1, _, rfl, Nat.le_refl _, rg, by simp, by unfold maxLen; omega, rfl, rfl⟩⟩
  rw [hw2]
  have q0 : w2.cell? ⟨pd, 0, none⟩ = some (.slice (some ⟨b, off, none⟩) os.length c) := cell_of_row _ _ _ _ _ _ (row_ext r0 e2)
  have hcall := ends_any2 (HB.out.ext (e1.trans e2))
  have R0 := Lib.hid (row_ext r0 e2)
  have R1 := Lib.hid (row_ext r1 e2)
  have R2 := Lib.hid (row_ext r2 e2)
  have R3 := Lib.hid (row_ext r3 e2)
  have R9 := Lib.hid r9
  have HO2 := Lib.hid ho
  have HE2 := Lib.hid (e1.trans e2)
  clear hw2 e2 rg r9 ho q1 q4 r0 r1 r2 r3 e1 z1
  gi_wp2_with (refine ⟨trivial, ?_⟩; gi_at_call 98; refine (callsIn_wide.2 hcall).mono ?_; rintro e w3 ⟨pe, pb, A2, c2, rfl, hE, e4, hA2, hpe, hpb⟩)
  have HZ4 : Hid (pd + 6 ≤ w3.heap.size) := Lib.hid (by rw [← z2]; exact e4.size)
  have R0 := Lib.hid (row_ext R0.out e4)
  have R1 := Lib.hid (row_ext R1.out e4)
  have R2 := Lib.hid (row_ext R2.out e4)
  have R3 := Lib.hid (row_ext R3.out e4)
  have R9 := Lib.hid (row_ext R9.out e4)
  have HO3 := Lib.hid (owns_ext HO2.out e4)
  have HE3 := Lib.hid (HE2.out.trans e4)
  have hst := ends_stops 11 (by omega) w3 hE hE.on
  have hon := hE.on
  have HFAR : Hid (∀ g, OnEnds pe pb (some ⟨b, off, none⟩) A2 g → g < pd ∨ pd + 6 ≤ g) := Lib.hid (by
    rintro g (rfl | rfl | ⟨o', h⟩ | ⟨o', h⟩)
    · omega
    · omega
    · injection h with h
      injection h with h
      subst h
      exact .inl (by have := HZ.out; omega)
    · exact .inr (by have := hA2 _ _ h; omega))
  clear q0 hcall e4 hA2 hpe hpb z2
  refine wpIn_rangeFunc_ownH rfl (by omega) (gf := 124) (lb := #[.pointer (some ⟨pe, 0, none⟩), .pointer (some ⟨pb, 0, none⟩)]) rfl trivial enters124
    hst keepsOn_t (keepsOn_b hon) (Below.refl _ _) (fun _ => rfl)
    (fun pre W => ∃ g cap, W.heap[pd + 5]? = some (.cells #[.slice (some ⟨g, 0, none⟩) (leftL os k y ps pre).length cap] 36 (0, 0)) ∧ W.ownsRow (pd + 4) 2 1 (.slice (some ⟨g, 0, none⟩) (leftL os k y ps pre).length cap) (leftL os k y ps pre).length ((leftL os k y ps pre).map (Value.int .i64)) ∧ (g = pd + 4 ∨ w3.heap.size ≤ g) ∧ Below (pd + 4) w3 W ∧ w3.heap.size ≤ W.heap.size ∧ KeepsOn (OnEnds pe pb (some ⟨b, off, none⟩) A2) w3 W)
    (fun _ _ _ => False)
    (fun pre X Y row hs hg hr => by
      obtain ⟨g, cap, h1, h2, h3, h4, h5, h6⟩ := hs
      have hr' := fun r e => (hr r e).2
      exact ⟨g, cap, heap_kept h1 hg hr', owns_row_kept h2 hg hr', h3, h4.grown hg (by have := HZ4.out; omega) (fun r e => by have := (hr r e).1; have := HZ4.out; omega), Nat.le_trans h5 hg.size, Nat.le_trans h6.1 hg.size, fun b' hb' => by
        have hbl := hon b' hb'
        exact (hg.block b' (by omega) (fun e => by have := (hr b' e.symm).1; omega)).trans (h6.2 b' hb')⟩)
    (fun _ _ _ _ _ hs _ _ => hs)
    ⟨pd + 4, 1, R9.out, by rw [show leftL os k y ps [] = [o.worth] from by unfold leftL; rw [HO.out]; rfl]; exact HO3.out, .inl rfl, Below.refl _ _, Nat.le_refl _, keepsOn_r _⟩
    (fun x a' _ => a' = { tmps := #[.slice (some ⟨b, off, none⟩) os.length c, .int .i64 (k : Int), .int .i64 y, .slice A' n' c', .pointer (some ⟨pd, 0, none⟩), .pointer (some ⟨pd + 1, 0, none⟩), .pointer (some ⟨pd + 1 + 1, 0, none⟩), .pointer (some ⟨pd + 1 + 1 + 1, 0, none⟩), .int .i64 0, .pointer (some ⟨pd + 4 + 1, 0, none⟩), .int .i64 x, .slice (some ⟨b, off, none⟩) os.length c, .int .i64 (k : Int), .pointer (some ⟨b, off + k * 7, none⟩), .pointer (some ⟨b, off + k * 7, none⟩), .pointer (some ⟨b, off + k * 7 + 4, none⟩), .int .i64 o.worth, .slice (some ⟨pd + 4, 0, none⟩) 1 1, .slice (some ⟨b, off, none⟩) os.length c, .func (.func 124) #[] #[.pointer (some ⟨pe, 0, none⟩), .pointer (some ⟨pb, 0, none⟩)], .int .i64 x, undef, undef, undef, undef, undef, undef, undef, undef, undef, undef, undef, undef, undef, undef, undef, undef, undef], defers := [] })
    (fun _ _ _ _ _ _ hs _ _ => hs)
    ?assign ?body ?done ?stop
  case assign =>
    rintro l pre x W K hI hK
    gi_wp2
    exact hK _ _ (KeepsFrom.refl _ _) (keepsOn_r _) hI rfl
  case body =>
    rintro l pre x a' W hl ⟨r, hr⟩ ⟨g, cap, h1, h2, h3, h4, h5, h6⟩ rfl hlt2
    have hEw : Ext w W := Below.trans HE3.out (h4.mono (by have := HZ.out; omega))
    have hkeep : ∀ (j : Nat), j < pd + 4 → W.heap[j]? = w3.heap[j]? := fun j hj => h4.block j hj
    have p0 : W.cell? ⟨pd, 0, none⟩ = some (.slice (some ⟨b, off, none⟩) os.length c) := cell_of_row _ _ _ _ _ _ ((hkeep _ (by omega)).trans R0.out)
    have p1 : W.cell? ⟨pd + 1, 0, none⟩ = some (.int .i64 (k : Int)) := cell_of_row _ _ _ _ _ _ ((hkeep _ (by omega)).trans R1.out)
    have rr2 : W.heap[pd + 2]? = some (.cells #[.int .i64 y] 2 (0, 0)) := (hkeep _ (by omega)).trans R2.out
    have rr3 : W.heap[pd + 3]? = some (.cells #[.slice A' n' c'] 36 (0, 0)) := (hkeep _ (by omega)).trans R3.out
    have rr0 : W.heap[pd]? = some (.cells #[.slice (some ⟨b, off, none⟩) os.length c] 75 (0, 0)) := (hkeep _ (by omega)).trans R0.out
    have c0 : W.cell? ⟨b, off + k * 7, none⟩ = some (.int .i64 o.lo) := (HCS.out W hEw 0).trans HC.out.1
    have c1 := (HCS.out W hEw 1).trans HC.out.2.1
    have c2 := (HCS.out W hEw 2).trans HC.out.2.2.1
    have c3 := (HCS.out W hEw 3).trans HC.out.2.2.2.1
    have c4 := (HCS.out W hEw 4).trans HC.out.2.2.2.2.1
    have c5 := (HCS.out W hEw 5).trans HC.out.2.2.2.2.2.1
    have c6 := (HCS.out W hEw 6).trans HC.out.2.2.2.2.2.2
    have h86 := isDone_any o x W
    have hsn := leftL_snoc os k y ps pre x
    rw [HO.out] at hsn
    have hlL := leftL_len os k y ps pre
    obtain ⟨L, hL⟩ : ∃ L, leftL os k y ps pre = L := ⟨_, rfl⟩
    rw [hL] at h1 h2 hsn hlL
    obtain ⟨q, hq⟩ : ∃ q, doneB x o = q := ⟨_, rfl⟩
    rw [hq] at h86 hsn
    have HF := Lib.hid (And.intro h1 (And.intro h2 (And.intro h3 (And.intro h4 (And.intro h5 h6)))))
    have HW := Lib.hid (And.intro hEw (And.intro rr0 (And.intro rr2 rr3)))
    have HL := Lib.hid (And.intro hl hon)
    have hlt3 : pre.length < 14 := by omega
    clear hst hr hE hq hL hEw hkeep rr0 rr2 rr3 h1 h2 h3 h4 h5 h6 hl hon
    cases q with
    | false =>
      rw [if_neg (by decide), List.append_nil] at hsn
      have HS := Lib.hid hsn
      clear hsn
      gi_wp2_with (refine ⟨trivial, ?_⟩; gi_at_call 86; refine (CallsIn.inRound l (callsIn_wide.2 h86)).mono ?_; rintro e w4 ⟨rfl, e4⟩; have HE4 := Lib.hid (show Ext W w4 from e4); clear e4 h86 c0 c1 c2 c3 c4 c5 c6 p0 p1)
      obtain ⟨h1, h2, h3, h4, h5, h6⟩ := HF.out
      refine ⟨(keepsOthers_below HE4.out).from _, keepsOn_ext HE4.out (fun b' h => Nat.lt_of_lt_of_le (HL.out.2 b' h) h5), g, cap, ?_⟩
      rw [HS.out]
      exact ⟨row_ext h1 HE4.out, owns_ext h2 HE4.out, h3, h4.trans (HE4.out.mono (by have := HZ4.out; omega)), Nat.le_trans h5 HE4.out.size, keepsOn_t h6 (keepsOn_ext HE4.out (fun b' h => Nat.lt_of_lt_of_le (HL.out.2 b' h) h5))⟩
    | true =>
      rw [if_pos rfl] at hsn
      have HS := Lib.hid hsn
      clear hsn
      gi_wp2_with (refine ⟨trivial, ?_⟩; gi_at_call 86; refine (CallsIn.inRound l (callsIn_wide.2 h86)).mono ?_; rintro e w4 ⟨rfl, e4⟩; have HE4 := Lib.hid (show Ext W w4 from e4); clear e4 h86 c0 c1 c2 c3 c4 c5 c6 p0 p1)
      obtain ⟨t, ht⟩ : ∃ t, togB os x ps = t := ⟨_, rfl⟩
      have h102 := fun W' (hW : Ext w4 W') => H102.out x W' ((HW.out.1.trans HE4.out).trans hW)
      have htb := HTB.out x
      simp only [ht] at h102 htb
      have HT := Lib.hid ht
      clear ht
      refine lf5_wp (p4 := pd) (p6 := pd + 1 + 1) (p7 := pd + 1 + 1 + 1) (p9 := pd + 4 + 1) (A := some ⟨b, off, none⟩) (nn := os.length) (cc := c) (A5 := A') (n5 := n') (c5 := c') (x := x) (t := t) (y := y) (u := y - t) (sv := .slice (some ⟨g, 0, none⟩) L.length cap) rfl rfl rfl rfl rfl rfl (fun W' hW => cell_of_row _ _ _ _ _ _ (row_ext HF.out.1 (HE4.out.trans hW))) (fun W' hW => cell_of_row _ _ _ _ _ _ (row_ext HW.out.2.2.1 (HE4.out.trans hW))) (fun W' hW => cell_of_row _ _ _ _ _ _ (row_ext HW.out.2.1 (HE4.out.trans hW))) (fun W' hW => cell_of_row _ _ _ _ _ _ (row_ext HW.out.2.2.2 (HE4.out.trans hW))) h102 e102 (IntWalk.i64_in _ (by omega)) ?_
      intro W6 v7 e6 hS7
      obtain ⟨g7, rfl, hg7⟩ := hS7
      clear h102
      have HE6 := Lib.hid (show Ext W W6 from HE4.out.trans e6)
      clear e6
      obtain ⟨o8, o9, hdr, h8, h9⟩ : ∃ o8 o9, lf5Reg.toList.drop 8 = [o8, o9] ∧ lf5Reg[8]? = some o8 ∧ lf5Reg[9]? = some o9 := by
        have hs : lf5Reg.size = 10 := by kernel_rfl
        refine ⟨lf5Reg[8], lf5Reg[9], ?_, Array.getElem?_eq_getElem _, Array.getElem?_eq_getElem _⟩
        rw [List.drop_eq_getElem_cons (by simp [hs]), List.drop_eq_getElem_cons (by simp [hs]), List.drop_eq_nil_of_le (by simp [hs])]
        simp
      rw [hdr]
      simp only [puts, List.foldl_cons, List.foldl_nil, Act.put, List.setIfInBounds_toArray, List.set_cons_succ, List.set_cons_zero]
      obtain ⟨i0, hi0, hz0, hz1, hz2⟩ := info_parts info2
      have hown := owns_ext HF.out.2.1 HE6.out
      have hob := own_block hown
      refine wpList_append_lies _ (op_at h8 (·.guard) (x := none) (by kernel_rfl)) (.tmp 27) (.tmp 34) 36 (op_at h8 (·.op) (by kernel_rfl)) (pd + 4) 2 i0 _ 1 8 Tryz.underlying36 hi0 hz0 hz1 hz2 rfl (by omega) _ L.length _ rfl hown ⟨g7, 0, none⟩ 1 1 [.int .i64 (y - t)] rfl rfl (World.news_of_block hg7) (by simp [Value.oneCell']) (by omega) (by unfold maxLen; omega) (by omega) (by have := HF.out.2.2.2.2.1; have := HE6.out.size; have := HZ4.out; omega) W6.heap.size rfl ?_
      intro g' cap' W7 hown7 hG7 hlie hgl7
      rw [show o8.dst = some 35 from op_at h8 (·.dst) (by kernel_rfl)]
      simp only [Act.put, List.setIfInBounds_toArray, List.set_cons_succ, List.set_cons_zero]
      obtain ⟨f1, f2, f3, f4, f5, f6⟩ := HF.out
      have hgge : pd + 4 ≤ g := by have := HZ4.out; omega
      have hgne : g ≠ pd + 5 := by have := HZ4.out; omega
      have hE6s := HE6.out.size
      have hW6s : pd + 6 ≤ W6.heap.size := by have := HZ4.out; omega
      have hr7 : W7.heap[pd + 5]? = some (.cells #[.slice (some ⟨g, 0, none⟩) L.length cap] 36 (0, 0)) := (hG7.block _ (by omega) (fun e => hgne (Option.some.inj e).symm)).trans (row_ext f1 HE6.out)
      have d9 : W7.cell? ⟨pd + 4 + 1, 0, none⟩ = some (.slice (some ⟨g, 0, none⟩) L.length cap) := cell_of_row _ _ _ _ _ _ hr7
      have fz9 : W7.frozen? ⟨pd + 4 + 1, 0, none⟩ = false := by simp [World.frozen?, hr7]
      refine wpList_skip (w' := W7.setCell ⟨pd + 4 + 1, 0, none⟩ (.slice (some ⟨g', 0, none⟩) (L.length + 1) cap')) (op_at h9 (·.guard) (x := none) (by kernel_rfl)) (by simp [execOp, show o9.op = .store 36 (.tmp 9) (.tmp 35) from op_at h9 (·.op) (by kernel_rfl), go_sem, d9, fz9]) ?_
      rw [show o9.dst = none from op_at h9 (·.dst) (by kernel_rfl)]
      refine ⟨rfl, ?_⟩
      have hKO : KeepsOthers W (W7.setCell ⟨pd + 4 + 1, 0, none⟩ (.slice (some ⟨g', 0, none⟩) (L.length + 1) cap')) := ((keepsOthers_below HE6.out).trans (KeepsOthers.of_grownBy hG7 fun r o' e ho' => by
        obtain ⟨cs, fr, hc⟩ := hob r e
        rw [hc] at ho'
        cases ho'
        rfl)).trans (KeepsOthers.setCell _ _ _)
      have hKn : KeepsOn (OnEnds pe pb (some ⟨b, off, none⟩) A2) W (W7.setCell ⟨pd + 4 + 1, 0, none⟩ (.slice (some ⟨g', 0, none⟩) (L.length + 1) cap')) := ⟨by have := hG7.size; simp; omega, fun b' hb' => by
        have hbl := HL.out.2 b' hb'
        have hfar := HFAR.out b' hb'
        rw [heap_set_other _ _ _ _ _ (by omega)]
        exact (hG7.block b' (by omega) (fun e => by have e' : b' = g := Option.some.inj e; have := HZ4.out; omega)).trans (HE6.out.block b' (by omega))⟩
      refine ⟨hKO.from _, hKn, g', cap', ?_⟩
      rw [HS.out, HT.out, List.length_append, List.map_append]
      have hg'lt : g' = pd + 4 ∨ w3.heap.size ≤ g' := by
        rcases hlie with h | h
        · have e' : g = g' := Option.some.inj h
          omega
        · omega
      have hz4 := HZ4.out
      exact ⟨row_setCell _ _ _ _ _ _ _ hr7, own_stay hown7 (fun r e => heap_set_other _ _ _ _ _ (by have e' : g' = r := Option.some.inj e; omega)), hg'lt, Below.setCell ((f4.trans (HE6.out.mono (by omega))).grown hG7 (by omega) (fun r e => by have e' : g = r := Option.some.inj e; omega)) (p := ⟨pd + 4 + 1, 0, none⟩) (by show pd + 4 ≤ pd + 4 + 1; omega) _, by have := hG7.size; simp; omega, keepsOn_t f6 hKn⟩
  case done =>
    rintro D zs W hD rfl ⟨g, cap, h1, h2, h3, h4, h5, h6⟩ hK
    have hlL := leftL_len os k y ps (endsOf os)
    have hbb : leftB os k y ps = minL (leftL os k y ps (endsOf os)) := rfl
    have hpos : 1 ≤ (leftL os k y ps (endsOf os)).length := by unfold leftL; simp
    obtain ⟨L, hL⟩ : ∃ L, leftL os k y ps (endsOf os) = L := ⟨_, rfl⟩
    rw [hL] at h1 h2 hlL hbb hpos
    have d9 : W.cell? ⟨pd + 4 + 1, 0, none⟩ = some (.slice (some ⟨g, 0, none⟩) L.length cap) := cell_of_row _ _ _ _ _ _ h1
    have hh : Held W W.heap.size 1 encI (some ⟨g, 0, none⟩) L := (own_held (enc := encI) (n := L.length) (fun _ => rfl) rfl (by rw [flatI]; exact h2)).1
    have h129 := min_any (some ⟨g, 0, none⟩) L.length cap L W rfl hpos (by omega) hh
    have HR := Lib.hid (show Ext w W from Below.trans HE3.out (h4.mono (by have := HZ.out; omega)))
    have HBB := Lib.hid hbb
    clear hst hE hon h1 h2 h3 h4 h5 h6 hL hbb hh
    gi_wp2_with (refine ⟨trivial, ?_⟩; gi_at_call 129; refine (callsIn_wide.2 h129).mono ?_; rintro e w4 ⟨rfl, rfl⟩)
    refine leavesM_marks [D] _ (by simp) (fun E hE => ?_) (fun W' hs => ?_)
    · rw [List.mem_singleton.1 hE]; exact hK
    · refine ⟨.int .i64 (minL L), by simp [results, Tryz.f101, go_sem], by rw [HBB.out], Below.trans HR.out (hs.below fun E hE => ?_)⟩
      rw [List.mem_singleton.1 hE]
      have := HE3.out.size
      omega
  case stop =>
    rintro D cd pre W hD hsp hf hK
    exact hf.elim
end Go.Proofs.YtmlmnljbegcjcaaGreat

/- Prices: what they are. -/
namespace Go.Proofs.YtmlmnljbegcjcaaGreat
open Go.RowKit Go.Shelf

/-- Prices turn, one by one, of the order that is next. -/
def pricesGo (os : List Odr) (y : Int) : Nat → (Nat → Bool) → List Int → List Int
  | 0, _, ps => ps
  | f + 1, M, ps => match nextOf os M with
    | none => ps
    | some k => pricesGo os y f (fun i => M i || oneBit k i) (ps.set k (leftB os k y ps))
/-- The prices of orders without births, the first m of them. -/
def price0 (os : List Odr) (m : Nat) : List Int := (List.range os.length).map fun i => if i < m ∧ hasB (oAt os i) = false then (oAt os i).worth else 0
def mark0 (os : List Odr) (m : Nat) (i : Nat) : Bool := decide (i < m) && decide (i < os.length) && !hasB (oAt os i)
def pricesB (os : List Odr) (y : Int) : List Int := pricesGo os y os.length (mark0 os os.length) (price0 os os.length)

/-- Prices so far. -/
structure PricesAt (os : List Odr) (y : Int) (M : Nat → Bool) (ps : List Int) : Prop where
  len : ps.length = os.length
  low : ∀ i, i < os.length → 0 ≤ ps.getD i 0 ∧ ps.getD i 0 ≤ (oAt os i).worth
  zero : ∀ i, i < os.length → M i = false → ps.getD i 0 = 0
  right : ∀ x, x ∈ endsOf os → togB os x ps ≤ y
  has : ∀ i, i < os.length → M i = false → hasB (oAt os i) = true
theorem getD_set (ps : List Int) (k i : Nat) (v : Int) (hk : k < ps.length) : (ps.set k v).getD i 0 = if i = k then v else ps.getD i 0 := by
  rw [List.getD_eq_getElem?_getD, List.getElem?_set, List.getD_eq_getElem?_getD]
  by_cases e : k = i
  · subst e; simp [hk]
  · rw [if_neg e, if_neg (fun h => e h.symm)]
theorem togTo_set (os : List Odr) (x : Int) (ps : List Int) (k : Nat) (v : Int) (hk : k < ps.length) : ∀ m, togTo os x (ps.set k v) m = togTo os x ps m + if k < m ∧ doesB os [x] k = true then v - ps.getD k 0 else 0
  | 0 => by simp [togTo, sumI]
  | m + 1 => by
    rw [togTo_succ, togTo_succ, togTo_set os x ps k v hk m, getD_set _ _ _ _ hk]
    by_cases e : m = k
    · subst e
      rw [if_pos rfl, if_neg (by omega)]
      by_cases hd : doesB os [x] m = true
      · rw [if_pos hd, if_pos hd, if_pos ⟨by omega, hd⟩]; omega
      · rw [if_neg hd, if_neg hd, if_neg (fun h => hd h.2)]
    · rw [if_neg e]
      by_cases hd : k < m ∧ doesB os [x] k = true
      · rw [if_pos hd, if_pos (show k < m + 1 ∧ doesB os [x] k = true from ⟨by omega, hd.2⟩)]; omega
      · rw [if_neg hd, if_neg (show ¬ (k < m + 1 ∧ doesB os [x] k = true) from fun h => hd ⟨by omega, h.2⟩)]; omega
theorem togB_set (os : List Odr) (x : Int) (ps : List Int) (k : Nat) (v : Int) (hk : k < ps.length) (h14 : ps.length ≤ 14) : togB os x (ps.set k v) = togB os x ps + if doesB os [x] k = true then v - ps.getD k 0 else 0 := by
  unfold togB
  rw [togTo_set os x ps k v hk 14]
  by_cases hd : doesB os [x] k = true
  · rw [if_pos hd, if_pos ⟨by omega, hd⟩]
  · rw [if_neg hd, if_neg (fun h => hd h.2)]
theorem foldl_min_le : ∀ (l : List Int) (a : Int), l.foldl min a ≤ a ∧ (∀ x, x ∈ l → l.foldl min a ≤ x) ∧ (l.foldl min a = a ∨ l.foldl min a ∈ l)
  | [], a => ⟨Int.le_refl _, fun x hx => absurd hx (by simp), .inl rfl⟩
  | y :: l, a => by
    obtain ⟨h1, h2, h3⟩ := foldl_min_le l (min a y)
    rw [List.foldl_cons]
    refine ⟨by omega, fun x hx => ?_, ?_⟩
    · rcases List.mem_cons.1 hx with rfl | hx
      · omega
      · exact h2 x hx
    · rcases h3 with h3 | h3
      · rw [h3]
        by_cases h : a ≤ y
        · exact .inl (by omega)
        · exact .inr (by rw [show min a y = y from by omega]; simp)
      · exact .inr (List.mem_cons_of_mem _ h3)
theorem left_is (os : List Odr) (k : Nat) (y : Int) (ps : List Int) : leftB os k y ps ≤ (oAt os k).worth ∧ (∀ x, x ∈ endsOf os → doneB x (oAt os k) = true → leftB os k y ps ≤ y - togB os x ps) ∧
    (leftB os k y ps = (oAt os k).worth ∨ ∃ x, x ∈ endsOf os ∧ doneB x (oAt os k) = true ∧ leftB os k y ps = y - togB os x ps) := by
  unfold leftB leftL minL
  obtain ⟨h1, h2, h3⟩ := foldl_min_le (((endsOf os).filter fun x => doneB x (oAt os k)).map fun x => y - togB os x ps) (oAt os k).worth
  refine ⟨h1, fun x hx hd => h2 _ (List.mem_map.2 ⟨x, List.mem_filter.2 ⟨hx, hd⟩, rfl⟩), ?_⟩
  rcases h3 with h3 | h3
  · exact .inl h3
  · obtain ⟨x, hx, e⟩ := List.mem_map.1 h3
    obtain ⟨hx1, hx2⟩ := List.mem_filter.1 hx
    exact .inr ⟨x, hx1, hx2, e.symm⟩
theorem does_iff {os : List Odr} {x : Int} {k : Nat} (hk : k < os.length) : doesB os [x] k = doneB x (oAt os k) := by simp [doesB, hk, madeB]
theorem PricesAt.step {os : List Odr} {y : Int} {M : Nat → Bool} {ps : List Int} (h : PricesAt os y M ps) (hw : ∀ i, i < os.length → 0 ≤ (oAt os i).worth) (h14 : os.length ≤ 14) {k : Nat} (hk : k < os.length) (hM : M k = false) :
    PricesAt os y (fun i => M i || oneBit k i) (ps.set k (leftB os k y ps)) := by
  have hkl : k < ps.length := by rw [h.len]; exact hk
  obtain ⟨l1, l2, l3⟩ := left_is os k y ps
  have hl0 : 0 ≤ leftB os k y ps := by
    rcases l3 with e | ⟨x, hx, _, e⟩
    · rw [e]; exact hw k hk
    · have := h.right x hx; omega
  refine ⟨by rw [List.length_set]; exact h.len, fun i hi => ?_, fun i hi hm => ?_, fun x hx => ?_, fun i hi hm => ?_⟩
  · rw [getD_set _ _ _ _ hkl]
    by_cases e : i = k
    · subst e; rw [if_pos rfl]; exact ⟨hl0, l1⟩
    · rw [if_neg e]; exact h.low i hi
  · have hm' : M i = false ∧ oneBit k i = false := by simpa using hm
    rw [getD_set _ _ _ _ hkl, if_neg (by simpa [oneBit] using hm'.2)]
    exact h.zero i hi hm'.1
  · rw [togB_set _ _ _ _ _ hkl (by rw [h.len]; exact h14), does_iff hk, h.zero k hk hM]
    cases hd : doneB x (oAt os k)
    · have := h.right x hx; simp; omega
    · have := l2 x hx hd; simp; omega
  · have hm' : M i = false ∧ oneBit k i = false := by simpa using hm
    exact h.has i hi hm'.1
theorem PricesAt.fair {os : List Odr} {y : Int} {M : Nat → Bool} {ps : List Int} (h : PricesAt os y M ps) (hw : ∀ i, i < os.length → (oAt os i).worth ≤ 100000) : Fair ps := by
  intro p hp
  obtain ⟨i, hi, rfl⟩ := List.getElem_of_mem hp
  have h1 := h.low i (by rw [← h.len]; exact hi)
  have h2 := hw i (by rw [← h.len]; exact hi)
  rw [List.getD_eq_getElem?_getD, List.getElem?_eq_getElem hi] at h1
  simp at h1
  omega
theorem togTo_zero {os : List Odr} {ps : List Int} {x : Int} : ∀ m, (∀ i, i < m → doesB os [x] i = true → ps.getD i 0 = 0) → togTo os x ps m = 0
  | 0, _ => by simp [togTo, sumI]
  | m + 1, h => by
    rw [togTo_succ, togTo_zero m fun i hi hd => h i (by omega) hd]
    by_cases hd : doesB os [x] m = true
    · rw [if_pos hd, h m (by omega) hd]; rfl
    · rw [if_neg hd]; rfl
theorem price0_get (os : List Odr) (m i : Nat) (hi : i < os.length) : (price0 os m).getD i 0 = if i < m ∧ hasB (oAt os i) = false then (oAt os i).worth else 0 := by
  simp [price0, List.getD_eq_getElem?_getD, hi]
theorem prices_start {os : List Odr} (hw : ∀ i, i < os.length → 0 ≤ (oAt os i).worth) {y : Int} (hy : 0 ≤ y) : PricesAt os y (mark0 os os.length) (price0 os os.length) := by
  refine ⟨by simp [price0], fun i hi => ?_, fun i hi hm => ?_, fun x _ => ?_, fun i hi hm => ?_⟩
  · rw [price0_get _ _ _ hi]
    have := hw i hi
    split <;> omega
  · rw [price0_get _ _ _ hi, if_neg]
    rintro ⟨_, h⟩
    simp [mark0, hi, h] at hm
  · unfold togB
    rw [togTo_zero 14 fun i hi hd => ?_]
    · exact hy
    · have hil := does_lt hd
      rw [does_iff hil] at hd
      rw [price0_get _ _ _ hil, if_neg]
      rintro ⟨_, h⟩
      have := doneB_iff.1 hd
      simp [hasB] at h
      omega
  · simpa [mark0, hi] using hm
end Go.Proofs.YtmlmnljbegcjcaaGreat
