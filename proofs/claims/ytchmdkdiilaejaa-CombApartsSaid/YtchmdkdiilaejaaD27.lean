/- Texts of one package, joined: ApartPure, AptReg, Apt29, Aparts. -/
import Derived.Test.YtchmdkdiilaejaaD26
/- The first of the longest lists of marks that are apart: as the program finds it, and as the specification does. -/
namespace Go.Proofs.Ytchmdkdiilaejaa
open Go.RowKit Go.Shelf

/-- Whether a list comes before another one of the same length. -/
def firstB : List Nat → List Nat → Bool
  | [], _ => false
  | _ :: _, [] => false
  | x :: xs, y :: ys => if x = y then firstB xs ys else decide (x < y)
theorem firstB_asym : ∀ (a b : List Nat), firstB a b = true → firstB b a = false
  | [], _, h => by cases h
  | _ :: _, [], h => by cases h
  | x :: xs, y :: ys, h => by
    unfold firstB at h ⊢
    by_cases e : x = y
    · rw [if_pos e] at h
      rw [if_pos e.symm]
      exact firstB_asym xs ys h
    · rw [if_neg e, decide_eq_true_eq] at h
      rw [if_neg (fun e' => e e'.symm), decide_eq_false]
      omega
theorem firstB_total : ∀ (a b : List Nat), a.length = b.length → firstB a b = false → firstB b a = false → a = b
  | [], [], _, _, _ => rfl
  | [], _ :: _, h, _, _ => by simp at h
  | _ :: _, [], h, _, _ => by simp at h
  | x :: xs, y :: ys, h, h1, h2 => by
    unfold firstB at h1 h2
    by_cases e : x = y
    · rw [if_pos e] at h1
      rw [if_pos e.symm] at h2
      rw [e, firstB_total xs ys (by simpa using h) h1 h2]
    · rw [if_neg e, decide_eq_false_iff_not] at h1
      rw [if_neg (fun e' => e e'.symm), decide_eq_false_iff_not] at h2
      omega
theorem firstB_trans : ∀ (a b c : List Nat), firstB a b = true → firstB b c = true → firstB a c = true
  | [], _, _, h, _ => by cases h
  | _ :: _, [], _, h, _ => by cases h
  | _ :: _, _ :: _, [], _, h => by cases h
  | x :: xs, y :: ys, z :: zs, h1, h2 => by
    unfold firstB at h1 h2 ⊢
    by_cases e : x = y
    · subst e
      rw [if_pos rfl] at h1
      by_cases e2 : x = z
      · rw [if_pos e2] at h2 ⊢
        exact firstB_trans xs ys zs h1 h2
      · rw [if_neg e2] at h2 ⊢
        exact h2
    · rw [if_neg e, decide_eq_true_eq] at h1
      by_cases e2 : y = z
      · subst e2
        rw [if_neg e, decide_eq_true_eq]
        exact h1
      · rw [if_neg e2, decide_eq_true_eq] at h2
        rw [if_neg (by omega), decide_eq_true_eq]
        omega
theorem firstB_pre : ∀ (xs a b : List Nat), firstB (xs ++ a) (xs ++ b) = firstB a b
  | [], _, _ => rfl
  | x :: xs, a, b => by
    rw [List.cons_append, List.cons_append]
    show (if x = x then firstB (xs ++ a) (xs ++ b) else decide (x < x)) = _
    rw [if_pos rfl]
    exact firstB_pre xs a b
/-- The lists come in their order. -/
theorem ls_lex (long n : Nat) : ∀ (f : Nat) (xs : List Nat), f ≤ n → (lsOf long n f xs).Pairwise fun a b => firstB a b = true
  | 0, xs, _ => by simp [lsOf]
  | f + 1, xs, hf => by
    have hbeg : ∀ a, a ∈ gOf long n f (xs ++ [n - (f + 1)]) → ∃ t, a = xs ++ (n - (f + 1)) :: t := fun a ha => by
      unfold gOf at ha
      split at ha
      · exact ⟨[], by rw [List.mem_singleton.1 ha]⟩
      · obtain ⟨_, t, rfl, _, _⟩ := ls_sound long n f _ a (by omega) ha
        exact ⟨t, by simp⟩
    rw [lsOf_succ, List.pairwise_append]
    refine ⟨?_, ls_lex long n f xs (by omega), fun a ha b hb => ?_⟩
    · unfold gOf
      split
      · simp
      · exact ls_lex long n f _ (by omega)
    · obtain ⟨t, rfl⟩ := hbeg a ha
      obtain ⟨hl, u, rfl, hu1, hu2⟩ := ls_sound long n f xs b (by omega) hb
      rw [firstB_pre]
      cases u with
      | nil =>
        exfalso
        -- a list of the second kind goes on
        have hlen : (xs ++ (n - (f + 1)) :: t).length = long := by
          unfold gOf at ha
          split at ha
          · rename_i h1
            rw [List.mem_singleton.1 ha]
            exact h1
          · exact (ls_sound long n f _ _ (by omega) ha).1
        rw [← hl] at hlen
        simp at hlen
      | cons y u =>
        have := hu2 y (by simp)
        unfold firstB
        rw [if_neg (by omega), decide_eq_true_eq]
        omega
theorem g_lex (long n : Nat) : (gOf long n n []).Pairwise fun a b => firstB a b = true := by
  unfold gOf
  split
  · simp
  · exact ls_lex long n n [] (Nat.le_refl _)
theorem find_first {α : Type} {r : α → α → Prop} {p : α → Bool} : ∀ {l : List α} {x : α}, l.Pairwise r → l.find? p = some x → ∀ y, y ∈ l → p y = true → y = x ∨ r x y
  | [], _, _, h, _, _, _ => by cases h
  | z :: l, x, hp, h, y, hy, hpy => by
    obtain ⟨h1, h2⟩ := List.pairwise_cons.1 hp
    rw [List.find?_cons] at h
    cases hz : p z with
    | true =>
      rw [hz] at h
      cases h
      rcases List.mem_cons.1 hy with rfl | hy
      · exact .inl rfl
      · exact .inr (h1 y hy)
    | false =>
      rw [hz] at h
      rcases List.mem_cons.1 hy with rfl | hy
      · rw [hz] at hpy; cases hpy
      · exact find_first h2 h y hy hpy
/-- best is the first one of the longest lists of marks that are apart, of those that Q says. -/
structure BestA (cs ms : List (Int × Int)) (Q : List Nat → Prop) (best : List Nat) : Prop where
  sorted : best.Pairwise (· < ·)
  under : ∀ x, x ∈ best → x < ms.length
  apart : apartB cs ms best = true
  most : ∀ js : List Nat, js.Pairwise (· < ·) → (∀ x, x ∈ js → x < ms.length) → apartB cs ms js = true → Q js → js.length < best.length ∨ (js.length = best.length ∧ firstB js best = false)
theorem bestA_unique {cs ms : List (Int × Int)} {a b : List Nat} (ha : BestA cs ms (fun _ => True) a) (hb : BestA cs ms (fun _ => True) b) : a = b := by
  have h1 := ha.most b hb.sorted hb.under hb.apart trivial
  have h2 := hb.most a ha.sorted ha.under ha.apart trivial
  rcases h1 with h1 | ⟨h1, h3⟩
  · rcases h2 with h2 | ⟨h2, _⟩ <;> omega
  · rcases h2 with h2 | ⟨h2, h4⟩
    · omega
    · exact firstB_total a b h2 h4 h3
theorem apartTo_best (cs ms : List (Int × Int)) : BestA cs ms (fun _ => True) (apartTo cs ms ms.length) := by
  obtain ⟨a1, a2, a3, _⟩ := apartTo_ok cs ms ms.length
  refine ⟨a1, a2, a3, fun js h1 h2 h3 _ => ?_⟩
  have key : ∀ L, js.length ≤ L → js.length < (apartTo cs ms L).length ∨ (js.length = (apartTo cs ms L).length ∧ firstB js (apartTo cs ms L) = false) := by
    intro L
    induction L with
    | zero =>
      intro hL
      right
      have : js = [] := List.eq_nil_of_length_eq_zero (by omega)
      subst this
      exact ⟨rfl, rfl⟩
    | succ L ih =>
      intro hL
      unfold apartTo
      split
      · rename_i ks hf
        have hk := (g_sound (List.mem_of_find?_eq_some hf)).1
        by_cases e : js.length = L + 1
        · right
          refine ⟨by rw [hk, e], ?_⟩
          have hm : js ∈ gOf (L + 1) ms.length ms.length [] := by rw [← e]; exact g_full h1 h2
          rcases find_first (g_lex (L + 1) ms.length) hf js hm h3 with h | h
          · subst h
            cases hfb : firstB js js with
            | false => rfl
            | true => rw [firstB_asym _ _ hfb] at hfb; cases hfb
          · exact firstB_asym _ _ h
        · left; omega
      · rename_i hf
        by_cases e : js.length = L + 1
        · exfalso
          rw [List.find?_eq_none] at hf
          exact hf js (by rw [← e]; exact g_full h1 h2) h3
        · exact ih (by omega)
  exact key ms.length (sorted_short h1 h2)
/-- The numbers of the bits of a number. -/
def natsOf (b : Nat) : List Nat := (List.range 12).filter fun i => b.testBit i
theorem natsOf_sorted (b : Nat) : (natsOf b).Pairwise (· < ·) := List.pairwise_lt_range.sublist List.filter_sublist
theorem mem_nats (b i : Nat) : i ∈ natsOf b ↔ i < 12 ∧ b.testBit i = true := by
  unfold natsOf
  rw [List.mem_filter, List.mem_range]
theorem nats_under {m b : Nat} (hb : b < 2 ^ m) : ∀ x, x ∈ natsOf b → x < m := fun x hx => by
  obtain ⟨_, h⟩ := (mem_nats b x).1 hx
  by_cases hlt : x < m
  · exact hlt
  · exfalso
    have := Nat.testBit_lt_two_pow (Nat.lt_of_lt_of_le hb (Nat.pow_le_pow_right (by decide) (show m ≤ x by omega)))
    rw [this] at h
    cases h
theorem marksNo_nats {b : Nat} (hb : b < 4096) : marksNo (natsOf b) = b := by
  apply Nat.eq_of_testBit_eq
  intro i
  rw [marksNo_bit, Bool.eq_iff_iff, decide_eq_true_eq, mem_nats]
  constructor
  · exact fun h => h.2
  · intro h
    refine ⟨?_, h⟩
    by_cases hlt : i < 12
    · exact hlt
    · exfalso
      have := Nat.testBit_lt_two_pow (Nat.lt_of_lt_of_le hb (Nat.pow_le_pow_right (by decide) (show 12 ≤ i by omega) : 2 ^ 12 ≤ 2 ^ i))
      rw [this] at h
      cases h
theorem nats_marksNo {js : List Nat} (h1 : js.Pairwise (· < ·)) (h2 : ∀ x, x ∈ js → x < 12) : natsOf (marksNo js) = js := by
  have hx : ∀ i, i ∈ natsOf (marksNo js) ↔ i ∈ js := fun i => by
    rw [mem_nats, marksNo_bit, decide_eq_true_eq]
    exact ⟨fun h => h.2, fun h => ⟨h2 i h, h⟩⟩
  have := sorted_eq ((natsOf (marksNo js)).map fun j : Nat => (j : Int)) (js.map fun j : Nat => (j : Int)) (by rw [List.pairwise_map]; exact (natsOf_sorted _).imp fun h => by omega) (by rw [List.pairwise_map]; exact h1.imp fun h => by omega) fun x => by
    simp only [List.mem_map]
    constructor
    · rintro ⟨i, hi, rfl⟩; exact ⟨i, (hx i).1 hi, rfl⟩
    · rintro ⟨i, hi, rfl⟩; exact ⟨i, (hx i).2 hi, rfl⟩
  have h3 := congrArg (List.map Int.toNat) this
  rwa [toNat_cast, toNat_cast] at h3
/-- The specification's best list behind the first numbers of bits. -/
def refApt (cs ms : List (Int × Int)) : Nat → List Nat
  | 0 => []
  | b + 1 => if apartB cs ms (natsOf b) = true ∧ ((refApt cs ms b).length < (natsOf b).length ∨ ((natsOf b).length = (refApt cs ms b).length ∧ firstB (natsOf b) (refApt cs ms b) = true)) then natsOf b else refApt cs ms b
theorem refApt_best (cs ms : List (Int × Int)) : ∀ b, b ≤ 2 ^ ms.length → BestA cs ms (fun js => ∃ c, c < b ∧ js = natsOf c) (refApt cs ms b)
  | 0, _ => ⟨by simp [refApt], fun x hx => by simp [refApt] at hx, by simp only [refApt]; exact apart_nil _ _, fun js _ _ _ ⟨c, hc, _⟩ => absurd hc (by omega)⟩
  | b + 1, hb => by
    have ih := refApt_best cs ms b (by omega)
    unfold refApt
    split
    · rename_i h
      obtain ⟨h1, h2⟩ := h
      refine ⟨natsOf_sorted b, nats_under (by omega), h1, fun js j1 j2 j3 ⟨c, hc, he⟩ => ?_⟩
      by_cases e : c = b
      · subst e
        rw [he]
        right
        refine ⟨rfl, ?_⟩
        cases hfb : firstB (natsOf c) (natsOf c) with
        | false => rfl
        | true => rw [firstB_asym _ _ hfb] at hfb; cases hfb
      · rcases ih.most js j1 j2 j3 ⟨c, by omega, he⟩ with g | ⟨g, g2⟩
        · left; rcases h2 with h2 | ⟨h2, _⟩ <;> omega
        · rcases h2 with h2 | ⟨h2, h3⟩
          · left; omega
          · right
            refine ⟨by omega, ?_⟩
            cases hfb : firstB js (natsOf b) with
            | false => rfl
            | true => rw [firstB_trans _ _ _ hfb h3] at g2; cases g2
    · rename_i h
      refine ⟨ih.sorted, ih.under, ih.apart, fun js j1 j2 j3 ⟨c, hc, he⟩ => ?_⟩
      by_cases e : c = b
      · subst e
        subst he
        by_cases g1 : (refApt cs ms c).length < (natsOf c).length
        · exact absurd ⟨j3, .inl g1⟩ h
        · by_cases g2 : (natsOf c).length = (refApt cs ms c).length
          · right
            refine ⟨g2, ?_⟩
            cases hfb : firstB (natsOf c) (refApt cs ms c) with
            | false => rfl
            | true => exact absurd ⟨j3, .inr ⟨g2, hfb⟩⟩ h
          · left; omega
      · exact ih.most js j1 j2 j3 ⟨c, by omega, he⟩
theorem refApt_is {cs ms : List (Int × Int)} (h12 : ms.length ≤ 12) : refApt cs ms (2 ^ ms.length) = apartTo cs ms ms.length := by
  have h := refApt_best cs ms (2 ^ ms.length) (Nat.le_refl _)
  refine bestA_unique ⟨h.sorted, h.under, h.apart, fun js j1 j2 j3 _ => h.most js j1 j2 j3 ⟨marksNo js, marksNo_lt j2, (nats_marksNo j1 fun x hx => by have := j2 x hx; omega).symm⟩⟩ (apartTo_best cs ms)
end Go.Proofs.Ytchmdkdiilaejaa

/- Apart of the reference: its region with two calls; First. -/
namespace Go.Proofs.Ytchmdkdiilaejaa
open Go.RowKit Go.Shelf
attribute [local irreducible] bitCells fitCells Z94 fitOf

/-- The slots of region 13 of function 29. -/
def ra13D (i : Nat) : Tmp := if i = 0 then 33 else if i = 1 then 34 else if i = 2 then 35 else if i = 3 then 36 else if i = 4 then 37 else if i = 5 then 38 else if i = 6 then 39 else if i = 7 then 40 else if i = 8 then 41 else if i = 9 then 42 else if i = 10 then 43 else if i = 11 then 44 else if i = 12 then 45 else 46
/-- What each operation yields. -/
def ra13S (_p : Nat) (A : Option Addr) (n c : Nat) (A' : Option Addr) (n' c' g ln cl jj kk zz bt cn : Nat) (x : Int) (cb : Bool) (ix : Nat) (v : Value) (_W : World) : Prop :=
  match ix with
  | 0 => v = .bool true
  | 1 => v = .bool true
  | 2 => v = .agg #[.slice A n c, .slice A' n' c']
  | 3 => v = .slice (some ⟨g, 0, none⟩) ln cl
  | 4 => v = .int .i64 (jj : Int)
  | 5 => v = .pointer (some ⟨g, jj * 2, none⟩)
  | 6 => v = .agg #[.int .i64 (kk : Int), .int .i64 x]
  | 7 => v = .int .i64 (bt : Int)
  | 8 => v = .int .i64 (zz : Int)
  | 9 => v = .int .i64 ((bt &&& zz : Nat) : Int)
  | 10 => ∃ A9 c9, v = .slice A9 cn c9
  | 11 => v = .int .i64 (cn : Int)
  | 12 => v = .bool cb
  | 13 => v = .bool cb
  | _ => True
noncomputable def ra13Reg : Array Oper := (Try.f29.body.bind (regionOf · 13)).getD #[]
theorem ra13S_ext {p : Nat} {A : Option Addr} {n c : Nat} {A' : Option Addr} {n' c' g ln cl jj kk zz bt cn : Nat} {x : Int} {cb : Bool} : ∀ (i : Nat) (v : Value) (W W' : World), ra13S p A n c A' n' c' g ln cl jj kk zz bt cn x cb i v W → Below W.heap.size W W' → ra13S p A n c A' n' c' g ln cl jj kk zz bt cn x cb i v W' := by
  intro i v W W' h e
  match i with
  | 0 => exact h
  | 1 => exact h
  | 2 => exact h
  | 3 => exact h
  | 4 => exact h
  | 5 => exact h
  | 6 => exact h
  | 7 => exact h
  | 8 => exact h
  | 9 => exact h
  | 10 => exact h
  | 11 => exact h
  | 12 => exact h
  | 13 => exact h
  | k + 14 => exact trivial
def ra13Ok (p : Nat) (A : Option Addr) (n c : Nat) (A' : Option Addr) (n' c' g ln cl jj kk zz bt cn : Nat) (x : Int) (cb : Bool) (Q : Exit → Act → World → Prop) (a : Act) (W : World) (ix : Nat) (o : Oper) : Prop :=
  (∀ j b, o.guard = some (j, b) → a.eval (.tmp (ra13D j)) = .bool b) ∧ o.wp Try.prog a W (fun a'' W' => ∃ v, a'' = a.put o.dst v ∧ ra13S p A n c A' n' c' g ln cl jj kk zz bt cn x cb ix v W' ∧ Below W.heap.size W W') Q
section
variable {p : Nat} {A : Option Addr} {n c : Nat} {A' : Option Addr} {n' c' g ln cl jj kk zz bt cn : Nat} {x : Int} {cb : Bool} {Q : Exit → Act → World → Prop} {a : Act} {V W : World} {o : Oper}
set_option maxHeartbeats 1000000 in
theorem ra13_op0 (o8 : a.eval (.tmp 8) = .bool true) (ho : ra13Reg[0]? = some o) : ra13Ok p A n c A' n' c' g ln cl jj kk zz bt cn x cb Q a W 0 o := by
  have hop := op_at ho (·.op) (x := Op.move (Operand.tmp 8)) (by kernel_rfl)
  have hgd := op_at ho (·.guard) (x := none) (by kernel_rfl)
  refine ⟨fun j b h => (by rw [hgd] at h; cases h), ?_⟩
  exact specs_value (R := fun v W => ra13S p A n c A' n' c' g ln cl jj kk zz bt cn x cb 0 v W) (v := .bool true) (by simp [execOp, hop, go_sem, ev o8]) rfl (Ext.refl W)
set_option maxHeartbeats 1000000 in
theorem ra13_op1 (haft : ∀ j, (o.after.any fun e => decide (e.on = j) && Region.binds .any e) = true → ra13S p A n c A' n' c' g ln cl jj kk zz bt cn x cb j (a.eval (.tmp (ra13D j))) W) (ho : ra13Reg[1]? = some o) : ra13Ok p A n c A' n' c' g ln cl jj kk zz bt cn x cb Q a W 1 o := by
  have hop := op_at ho (·.op) (x := Op.move (Operand.tmp 33)) (by kernel_rfl)
  have hgd := op_at ho (·.guard) (x := none) (by kernel_rfl)
  have e0 : a.eval (.tmp 33) = .bool true := haft 0 (op_at ho (fun o => o.after.any fun e => decide (e.on = 0) && Region.binds .any e) (x := true) (by kernel_rfl))
  refine ⟨fun j b h => (by rw [hgd] at h; cases h), ?_⟩
  exact specs_value (R := fun v W => ra13S p A n c A' n' c' g ln cl jj kk zz bt cn x cb 1 v W) (v := .bool true) (by simp [execOp, hop, go_sem, ev e0]) rfl (Ext.refl W)
set_option maxHeartbeats 1000000 in
theorem ra13_op2 (o1 : a.eval (.tmp 1) = .pointer (some ⟨p, 0, none⟩)) (q0 : ∀ W, Ext V W → W.cell? ⟨p, 0, none⟩ = some (.slice A n c)) (q1 : ∀ W, Ext V W → W.cell? ⟨p, 1, none⟩ = some (.slice A' n' c')) (hB : Ext V W) (haft : ∀ j, (o.after.any fun e => decide (e.on = j) && Region.binds .any e) = true → ra13S p A n c A' n' c' g ln cl jj kk zz bt cn x cb j (a.eval (.tmp (ra13D j))) W) (ho : ra13Reg[2]? = some o) : ra13Ok p A n c A' n' c' g ln cl jj kk zz bt cn x cb Q a W 2 o := by
  have hop := op_at ho (·.op) (x := Op.load 25 (Operand.tmp 1)) (by kernel_rfl)
  have hgd := op_at ho (·.guard) (x := some (1, true)) (by kernel_rfl)
  have e1 : a.eval (.tmp 34) = .bool true := haft 1 (op_at ho (fun o => o.after.any fun e => decide (e.on = 1) && Region.binds .any e) (x := true) (by kernel_rfl))
  refine ⟨fun j b h => (by rw [hgd] at h; cases h; exact e1), ?_⟩
  have q0' := q0 W hB
  have q1' := q1 W hB
  exact specs_value (R := fun v W => ra13S p A n c A' n' c' g ln cl jj kk zz bt cn x cb 2 v W) (v := .agg #[.slice A n c, .slice A' n' c']) (by simp [execOp, hop, go_sem, ev o1, q0', q1']) rfl (Ext.refl W)
set_option maxHeartbeats 1000000 in
theorem ra13_op3 (o4 : a.eval (.tmp 4) = .slice (some ⟨g, 0, none⟩) ln cl) (haft : ∀ j, (o.after.any fun e => decide (e.on = j) && Region.binds .any e) = true → ra13S p A n c A' n' c' g ln cl jj kk zz bt cn x cb j (a.eval (.tmp (ra13D j))) W) (ho : ra13Reg[3]? = some o) : ra13Ok p A n c A' n' c' g ln cl jj kk zz bt cn x cb Q a W 3 o := by
  have hop := op_at ho (·.op) (x := Op.move (Operand.tmp 4)) (by kernel_rfl)
  have hgd := op_at ho (·.guard) (x := some (1, true)) (by kernel_rfl)
  have e1 : a.eval (.tmp 34) = .bool true := haft 1 (op_at ho (fun o => o.after.any fun e => decide (e.on = 1) && Region.binds .any e) (x := true) (by kernel_rfl))
  refine ⟨fun j b h => (by rw [hgd] at h; cases h; exact e1), ?_⟩
  exact specs_value (R := fun v W => ra13S p A n c A' n' c' g ln cl jj kk zz bt cn x cb 3 v W) (v := .slice (some ⟨g, 0, none⟩) ln cl) (by simp [execOp, hop, go_sem, ev o4]) rfl (Ext.refl W)
set_option maxHeartbeats 1000000 in
theorem ra13_op4 (o9 : a.eval (.tmp 9) = .int .i64 (jj : Int)) (haft : ∀ j, (o.after.any fun e => decide (e.on = j) && Region.binds .any e) = true → ra13S p A n c A' n' c' g ln cl jj kk zz bt cn x cb j (a.eval (.tmp (ra13D j))) W) (ho : ra13Reg[4]? = some o) : ra13Ok p A n c A' n' c' g ln cl jj kk zz bt cn x cb Q a W 4 o := by
  have hop := op_at ho (·.op) (x := Op.move (Operand.tmp 9)) (by kernel_rfl)
  have hgd := op_at ho (·.guard) (x := some (1, true)) (by kernel_rfl)
  have e1 : a.eval (.tmp 34) = .bool true := haft 1 (op_at ho (fun o => o.after.any fun e => decide (e.on = 1) && Region.binds .any e) (x := true) (by kernel_rfl))
  refine ⟨fun j b h => (by rw [hgd] at h; cases h; exact e1), ?_⟩
  exact specs_value (R := fun v W => ra13S p A n c A' n' c' g ln cl jj kk zz bt cn x cb 4 v W) (v := .int .i64 (jj : Int)) (by simp [execOp, hop, go_sem, ev o9]) rfl (Ext.refl W)
set_option maxHeartbeats 1000000 in
theorem ra13_op5 (hj : jj < ln) (haft : ∀ j, (o.after.any fun e => decide (e.on = j) && Region.binds .any e) = true → ra13S p A n c A' n' c' g ln cl jj kk zz bt cn x cb j (a.eval (.tmp (ra13D j))) W) (ho : ra13Reg[5]? = some o) : ra13Ok p A n c A' n' c' g ln cl jj kk zz bt cn x cb Q a W 5 o := by
  have hop := op_at ho (·.op) (x := Op.indexAddr 54 (Operand.tmp 36) (Operand.tmp 37)) (by kernel_rfl)
  have hgd := op_at ho (·.guard) (x := some (1, true)) (by kernel_rfl)
  have e1 : a.eval (.tmp 34) = .bool true := haft 1 (op_at ho (fun o => o.after.any fun e => decide (e.on = 1) && Region.binds .any e) (x := true) (by kernel_rfl))
  have e3 : a.eval (.tmp 36) = .slice (some ⟨g, 0, none⟩) ln cl := haft 3 (op_at ho (fun o => o.after.any fun e => decide (e.on = 3) && Region.binds .any e) (x := true) (by kernel_rfl))
  have e4 : a.eval (.tmp 37) = .int .i64 (jj : Int) := haft 4 (op_at ho (fun o => o.after.any fun e => decide (e.on = 4) && Region.binds .any e) (x := true) (by kernel_rfl))
  refine ⟨fun j b h => (by rw [hgd] at h; cases h; exact e1), ?_⟩
  have hjz : (jj : Int) < (ln : Int) := by omega
  exact specs_value (R := fun v W => ra13S p A n c A' n' c' g ln cl jj kk zz bt cn x cb 5 v W) (v := .pointer (some ⟨g, jj * 2, none⟩)) (by simp [execOp, hop, go_sem, ev e3, ev e4, hjz]) rfl (Ext.refl W)
set_option maxHeartbeats 1000000 in
theorem ra13_op6 (c0 : ∀ W, Ext V W → W.cell? ⟨g, jj * 2, none⟩ = some (.int .i64 (kk : Int))) (c1 : ∀ W, Ext V W → W.cell? ⟨g, jj * 2 + 1, none⟩ = some (.int .i64 x)) (hB : Ext V W) (haft : ∀ j, (o.after.any fun e => decide (e.on = j) && Region.binds .any e) = true → ra13S p A n c A' n' c' g ln cl jj kk zz bt cn x cb j (a.eval (.tmp (ra13D j))) W) (ho : ra13Reg[6]? = some o) : ra13Ok p A n c A' n' c' g ln cl jj kk zz bt cn x cb Q a W 6 o := by
  have hop := op_at ho (·.op) (x := Op.load 27 (Operand.tmp 38)) (by kernel_rfl)
  have hgd := op_at ho (·.guard) (x := some (1, true)) (by kernel_rfl)
  have e1 : a.eval (.tmp 34) = .bool true := haft 1 (op_at ho (fun o => o.after.any fun e => decide (e.on = 1) && Region.binds .any e) (x := true) (by kernel_rfl))
  have e5 : a.eval (.tmp 38) = .pointer (some ⟨g, jj * 2, none⟩) := haft 5 (op_at ho (fun o => o.after.any fun e => decide (e.on = 5) && Region.binds .any e) (x := true) (by kernel_rfl))
  refine ⟨fun j b h => (by rw [hgd] at h; cases h; exact e1), ?_⟩
  have c0' := c0 W hB
  have c1' := c1 W hB
  exact specs_value (R := fun v W => ra13S p A n c A' n' c' g ln cl jj kk zz bt cn x cb 6 v W) (v := .agg #[.int .i64 (kk : Int), .int .i64 x]) (by simp [execOp, hop, go_sem, ev e5, c0', c1']) rfl (Ext.refl W)
set_option maxHeartbeats 1000000 in
theorem ra13_op7 (hcall : ∀ W, Ext V W → Calls Try.prog 59 #[.agg #[.slice A n c, .slice A' n' c'], .agg #[.int .i64 (kk : Int), .int .i64 x]] W fun e w' => e = .returned (.int .i64 (bt : Int)) ∧ Ext W w') (hB : Ext V W) (haft : ∀ j, (o.after.any fun e => decide (e.on = j) && Region.binds .any e) = true → ra13S p A n c A' n' c' g ln cl jj kk zz bt cn x cb j (a.eval (.tmp (ra13D j))) W) (ho : ra13Reg[7]? = some o) : ra13Ok p A n c A' n' c' g ln cl jj kk zz bt cn x cb Q a W 7 o := by
  have hop := op_at ho (·.op) (x := Op.call { callee := Callee.value (Operand.func 59), args := #[Operand.tmp 35, Operand.tmp 39], argTypes := #[25, 27] }) (by kernel_rfl)
  have hgd := op_at ho (·.guard) (x := some (1, true)) (by kernel_rfl)
  have e1 : a.eval (.tmp 34) = .bool true := haft 1 (op_at ho (fun o => o.after.any fun e => decide (e.on = 1) && Region.binds .any e) (x := true) (by kernel_rfl))
  have e2 : a.eval (.tmp 35) = .agg #[.slice A n c, .slice A' n' c'] := haft 2 (op_at ho (fun o => o.after.any fun e => decide (e.on = 2) && Region.binds .any e) (x := true) (by kernel_rfl))
  have e6 : a.eval (.tmp 39) = .agg #[.int .i64 (kk : Int), .int .i64 x] := haft 6 (op_at ho (fun o => o.after.any fun e => decide (e.on = 6) && Region.binds .any e) (x := true) (by kernel_rfl))
  refine ⟨fun j b h => (by rw [hgd] at h; cases h; exact e1), ?_⟩
  refine specs_call (R := fun v W => ra13S p A n c A' n' c' g ln cl jj kk zz bt cn x cb 7 v W) (f := 59) (args := #[.agg #[.slice A n c, .slice A' n' c'], .agg #[.int .i64 (kk : Int), .int .i64 x]]) (by simp [execOp, hop, go_sem, ev e2, ev e6]) ((hcall W hB).mono ?_)
  rintro e w' ⟨rfl, h3⟩
  exact ⟨_, rfl, rfl, h3⟩
set_option maxHeartbeats 1000000 in
theorem ra13_op8 (o6 : a.eval (.tmp 6) = .int .i64 (zz : Int)) (haft : ∀ j, (o.after.any fun e => decide (e.on = j) && Region.binds .any e) = true → ra13S p A n c A' n' c' g ln cl jj kk zz bt cn x cb j (a.eval (.tmp (ra13D j))) W) (ho : ra13Reg[8]? = some o) : ra13Ok p A n c A' n' c' g ln cl jj kk zz bt cn x cb Q a W 8 o := by
  have hop := op_at ho (·.op) (x := Op.move (Operand.tmp 6)) (by kernel_rfl)
  have hgd := op_at ho (·.guard) (x := some (1, true)) (by kernel_rfl)
  have e1 : a.eval (.tmp 34) = .bool true := haft 1 (op_at ho (fun o => o.after.any fun e => decide (e.on = 1) && Region.binds .any e) (x := true) (by kernel_rfl))
  refine ⟨fun j b h => (by rw [hgd] at h; cases h; exact e1), ?_⟩
  exact specs_value (R := fun v W => ra13S p A n c A' n' c' g ln cl jj kk zz bt cn x cb 8 v W) (v := .int .i64 (zz : Int)) (by simp [execOp, hop, go_sem, ev o6]) rfl (Ext.refl W)
set_option maxHeartbeats 1000000 in
theorem ra13_op9 (hand : bits .and .i64 (bt : Int) (zz : Int) = ((bt &&& zz : Nat) : Int)) (haft : ∀ j, (o.after.any fun e => decide (e.on = j) && Region.binds .any e) = true → ra13S p A n c A' n' c' g ln cl jj kk zz bt cn x cb j (a.eval (.tmp (ra13D j))) W) (ho : ra13Reg[9]? = some o) : ra13Ok p A n c A' n' c' g ln cl jj kk zz bt cn x cb Q a W 9 o := by
  have hop := op_at ho (·.op) (x := Op.binOp BinOp.and 3 (Operand.tmp 40) (Operand.tmp 41) 3) (by kernel_rfl)
  have hgd := op_at ho (·.guard) (x := some (1, true)) (by kernel_rfl)
  have e1 : a.eval (.tmp 34) = .bool true := haft 1 (op_at ho (fun o => o.after.any fun e => decide (e.on = 1) && Region.binds .any e) (x := true) (by kernel_rfl))
  have e7 : ra13S p A n c A' n' c' g ln cl jj kk zz bt cn x cb 7 (a.eval (.tmp 40)) W := haft 7 (op_at ho (fun o => o.after.any fun e => decide (e.on = 7) && Region.binds .any e) (x := true) (by kernel_rfl))
  have e8 : a.eval (.tmp 41) = .int .i64 (zz : Int) := haft 8 (op_at ho (fun o => o.after.any fun e => decide (e.on = 8) && Region.binds .any e) (x := true) (by kernel_rfl))
  refine ⟨fun j b h => (by rw [hgd] at h; cases h; exact e1), ?_⟩
  have e7' : a.eval (.tmp 40) = .int .i64 (bt : Int) := e7
  exact specs_value (R := fun v W => ra13S p A n c A' n' c' g ln cl jj kk zz bt cn x cb 9 v W) (v := .int .i64 ((bt &&& zz : Nat) : Int)) (by simp [execOp, hop, go_sem, ev e8, ev e7', hand]) rfl (Ext.refl W)
set_option maxHeartbeats 1000000 in
theorem ra13_op10 (hlist : ∀ W, Ext V W → Calls Try.prog 46 #[.int .i64 ((bt &&& zz : Nat) : Int)] W fun e w' => ∃ A9 c9, e = .returned (.slice A9 cn c9) ∧ Ext W w') (hB : Ext V W) (haft : ∀ j, (o.after.any fun e => decide (e.on = j) && Region.binds .any e) = true → ra13S p A n c A' n' c' g ln cl jj kk zz bt cn x cb j (a.eval (.tmp (ra13D j))) W) (ho : ra13Reg[10]? = some o) : ra13Ok p A n c A' n' c' g ln cl jj kk zz bt cn x cb Q a W 10 o := by
  have hop := op_at ho (·.op) (x := Op.call { callee := Callee.value (Operand.func 46), args := #[Operand.tmp 42], argTypes := #[3] }) (by kernel_rfl)
  have hgd := op_at ho (·.guard) (x := some (1, true)) (by kernel_rfl)
  have e1 : a.eval (.tmp 34) = .bool true := haft 1 (op_at ho (fun o => o.after.any fun e => decide (e.on = 1) && Region.binds .any e) (x := true) (by kernel_rfl))
  have e9 : a.eval (.tmp 42) = .int .i64 ((bt &&& zz : Nat) : Int) := haft 9 (op_at ho (fun o => o.after.any fun e => decide (e.on = 9) && Region.binds .any e) (x := true) (by kernel_rfl))
  refine ⟨fun j b h => (by rw [hgd] at h; cases h; exact e1), ?_⟩
  refine specs_call (R := fun v W => ra13S p A n c A' n' c' g ln cl jj kk zz bt cn x cb 10 v W) (f := 46) (args := #[.int .i64 ((bt &&& zz : Nat) : Int)]) (by simp [execOp, hop, go_sem, ev e9]) ((hlist W hB).mono ?_)
  rintro e w' ⟨A9, c9, rfl, h3⟩
  exact ⟨_, rfl, ⟨A9, c9, rfl⟩, h3⟩
set_option maxHeartbeats 1000000 in
theorem ra13_op11 (haft : ∀ j, (o.after.any fun e => decide (e.on = j) && Region.binds .any e) = true → ra13S p A n c A' n' c' g ln cl jj kk zz bt cn x cb j (a.eval (.tmp (ra13D j))) W) (ho : ra13Reg[11]? = some o) : ra13Ok p A n c A' n' c' g ln cl jj kk zz bt cn x cb Q a W 11 o := by
  have hop := op_at ho (·.op) (x := Op.call { callee := Callee.builtin Builtin.len, args := #[Operand.tmp 43], argTypes := #[30] }) (by kernel_rfl)
  have hgd := op_at ho (·.guard) (x := some (1, true)) (by kernel_rfl)
  have e1 : a.eval (.tmp 34) = .bool true := haft 1 (op_at ho (fun o => o.after.any fun e => decide (e.on = 1) && Region.binds .any e) (x := true) (by kernel_rfl))
  have e10 : ra13S p A n c A' n' c' g ln cl jj kk zz bt cn x cb 10 (a.eval (.tmp 43)) W := haft 10 (op_at ho (fun o => o.after.any fun e => decide (e.on = 10) && Region.binds .any e) (x := true) (by kernel_rfl))
  refine ⟨fun j b h => (by rw [hgd] at h; cases h; exact e1), ?_⟩
  obtain ⟨A9, c9, hv⟩ := e10
  exact specs_value (R := fun v W => ra13S p A n c A' n' c' g ln cl jj kk zz bt cn x cb 11 v W) (v := .int .i64 (cn : Int)) (by simp [execOp, hop, go_sem, ev hv]) rfl (Ext.refl W)
set_option maxHeartbeats 1000000 in
theorem ra13_op12 (hcb : decide ((cn : Int) < 2) = cb) (haft : ∀ j, (o.after.any fun e => decide (e.on = j) && Region.binds .any e) = true → ra13S p A n c A' n' c' g ln cl jj kk zz bt cn x cb j (a.eval (.tmp (ra13D j))) W) (ho : ra13Reg[12]? = some o) : ra13Ok p A n c A' n' c' g ln cl jj kk zz bt cn x cb Q a W 12 o := by
  have hop := op_at ho (·.op) (x := Op.binOp BinOp.lss 3 (Operand.tmp 44) (Operand.const (Value.int IntKind.i64 2)) 3) (by kernel_rfl)
  have hgd := op_at ho (·.guard) (x := some (1, true)) (by kernel_rfl)
  have e1 : a.eval (.tmp 34) = .bool true := haft 1 (op_at ho (fun o => o.after.any fun e => decide (e.on = 1) && Region.binds .any e) (x := true) (by kernel_rfl))
  have e11 : a.eval (.tmp 44) = .int .i64 (cn : Int) := haft 11 (op_at ho (fun o => o.after.any fun e => decide (e.on = 11) && Region.binds .any e) (x := true) (by kernel_rfl))
  refine ⟨fun j b h => (by rw [hgd] at h; cases h; exact e1), ?_⟩
  exact specs_value (R := fun v W => ra13S p A n c A' n' c' g ln cl jj kk zz bt cn x cb 12 v W) (v := .bool cb) (by simp [execOp, hop, go_sem, ev e11, ← hcb]) rfl (Ext.refl W)
set_option maxHeartbeats 1000000 in
theorem ra13_op13 (haft : ∀ j, (o.after.any fun e => decide (e.on = j) && Region.binds .any e) = true → ra13S p A n c A' n' c' g ln cl jj kk zz bt cn x cb j (a.eval (.tmp (ra13D j))) W) (ho : ra13Reg[13]? = some o) : ra13Ok p A n c A' n' c' g ln cl jj kk zz bt cn x cb Q a W 13 o := by
  have hop := op_at ho (·.op) (x := Op.pick (Operand.tmp 34) (Operand.tmp 45) (Operand.const (Value.bool false))) (by kernel_rfl)
  have hgd := op_at ho (·.guard) (x := none) (by kernel_rfl)
  have e1 : a.eval (.tmp 34) = .bool true := haft 1 (op_at ho (fun o => o.after.any fun e => decide (e.on = 1) && Region.binds .any e) (x := true) (by kernel_rfl))
  have e12 : a.eval (.tmp 45) = .bool cb := haft 12 (op_at ho (fun o => o.after.any fun e => decide (e.on = 12) && Region.binds .any e) (x := true) (by kernel_rfl))
  refine ⟨fun j b h => (by rw [hgd] at h; cases h), ?_⟩
  exact specs_value (R := fun v W => ra13S p A n c A' n' c' g ln cl jj kk zz bt cn x cb 13 v W) (v := .bool cb) (by simp [execOp, hop, go_sem, ev e1, ev e12]) rfl (Ext.refl W)
set_option maxRecDepth 100000 in
set_option maxHeartbeats 4000000 in
/-- Region 13 of function 29. -/
theorem ra13_wp {id : Nat} (hlen : a.tmps.size = 69) (o1 : a.eval (.tmp 1) = .pointer (some ⟨p, 0, none⟩)) (o4 : a.eval (.tmp 4) = .slice (some ⟨g, 0, none⟩) ln cl) (o6 : a.eval (.tmp 6) = .int .i64 (zz : Int)) (o8 : a.eval (.tmp 8) = .bool true) (o9 : a.eval (.tmp 9) = .int .i64 (jj : Int)) (q0 : ∀ W, Ext V W → W.cell? ⟨p, 0, none⟩ = some (.slice A n c)) (q1 : ∀ W, Ext V W → W.cell? ⟨p, 1, none⟩ = some (.slice A' n' c')) (hj : jj < ln) (c0 : ∀ W, Ext V W → W.cell? ⟨g, jj * 2, none⟩ = some (.int .i64 (kk : Int))) (c1 : ∀ W, Ext V W → W.cell? ⟨g, jj * 2 + 1, none⟩ = some (.int .i64 x)) (hcall : ∀ W, Ext V W → Calls Try.prog 59 #[.agg #[.slice A n c, .slice A' n' c'], .agg #[.int .i64 (kk : Int), .int .i64 x]] W fun e w' => e = .returned (.int .i64 (bt : Int)) ∧ Ext W w') (hand : bits .and .i64 (bt : Int) (zz : Int) = ((bt &&& zz : Nat) : Int)) (hlist : ∀ W, Ext V W → Calls Try.prog 46 #[.int .i64 ((bt &&& zz : Nat) : Int)] W fun e w' => ∃ A9 c9, e = .returned (.slice A9 cn c9) ∧ Ext W w') (hcb : decide ((cn : Int) < 2) = cb) (K : (∀ W v7 v10, Ext V W → ra13S p A n c A' n' c' g ln cl jj kk zz bt cn x cb 7 v7 W → ra13S p A n c A' n' c' g ln cl jj kk zz bt cn x cb 10 v10 W → wpList Try.prog ra13Reg Q (ra13Reg.toList.drop 14) (puts a [(33, .bool true), (34, .bool true), (35, .agg #[.slice A n c, .slice A' n' c']), (36, .slice (some ⟨g, 0, none⟩) ln cl), (37, .int .i64 (jj : Int)), (38, .pointer (some ⟨g, jj * 2, none⟩)), (39, .agg #[.int .i64 (kk : Int), .int .i64 x]), (40, v7), (41, .int .i64 (zz : Int)), (42, .int .i64 ((bt &&& zz : Nat) : Int)), (43, v10), (44, .int .i64 (cn : Int)), (45, .bool cb), (46, .bool cb)]) W)) : (Code.region id ra13Reg true).wp Try.prog Q a V := by
  refine wp_region_specs_sink (ops := ra13Reg) 14 (ra13S p A n c A' n' c' g ln cl jj kk zz bt cn x cb) (Ext V) (by kernel_rfl) (by rw [hlen]; kernel_rfl) (by kernel_rfl) ⟨rfl, rfl, rfl, Nat.le_refl _, fun _ _ => rfl⟩ (fun _ _ h e => h.trans e) ra13S_ext ra13D (by kernel_rfl) ?_ ?_
  · intro i o hi ho a' W hB hsz hold haft
    match i, hi with
    | 0, _ => exact ra13_op0 ((hold 8 (by kernel_rfl)).trans o8) ho
    | 1, _ => exact ra13_op1 haft ho
    | 2, _ => exact ra13_op2 ((hold 1 (by kernel_rfl)).trans o1) q0 q1 hB haft ho
    | 3, _ => exact ra13_op3 ((hold 4 (by kernel_rfl)).trans o4) haft ho
    | 4, _ => exact ra13_op4 ((hold 9 (by kernel_rfl)).trans o9) haft ho
    | 5, _ => exact ra13_op5 hj haft ho
    | 6, _ => exact ra13_op6 c0 c1 hB haft ho
    | 7, _ => exact ra13_op7 hcall hB haft ho
    | 8, _ => exact ra13_op8 ((hold 6 (by kernel_rfl)).trans o6) haft ho
    | 9, _ => exact ra13_op9 hand haft ho
    | 10, _ => exact ra13_op10 hlist hB haft ho
    | 11, _ => exact ra13_op11 haft ho
    | 12, _ => exact ra13_op12 hcb haft ho
    | 13, _ => exact ra13_op13 haft ho
    | m + 14, h => exact absurd h (by omega)
  · intro a1 W hB hsz hdf hold hS
    obtain ⟨v7, g7⟩ : ∃ v, v = a1.eval (.tmp 40) := ⟨_, rfl⟩
    obtain ⟨v10, g10⟩ : ∃ v, v = a1.eval (.tmp 43) := ⟨_, rfl⟩
    have hall : ∀ z, z ∈ ([(33, .bool true), (34, .bool true), (35, .agg #[.slice A n c, .slice A' n' c']), (36, .slice (some ⟨g, 0, none⟩) ln cl), (37, .int .i64 (jj : Int)), (38, .pointer (some ⟨g, jj * 2, none⟩)), (39, .agg #[.int .i64 (kk : Int), .int .i64 x]), (40, v7), (41, .int .i64 (zz : Int)), (42, .int .i64 ((bt &&& zz : Nat) : Int)), (43, v10), (44, .int .i64 (cn : Int)), (45, .bool cb), (46, .bool cb)] : List (Tmp × Value)) → z.1 < a.tmps.size ∧ a1.eval (.tmp z.1) = z.2 := by
      intro z hz
      rw [hlen]
      simp only [List.mem_cons, List.not_mem_nil, or_false] at hz
      rcases hz with rfl | rfl | rfl | rfl | rfl | rfl | rfl | rfl | rfl | rfl | rfl | rfl | rfl | rfl
      · exact ⟨(show (33 : Nat) < 69 by omega), hS 0 (by omega)⟩
      · exact ⟨(show (34 : Nat) < 69 by omega), hS 1 (by omega)⟩
      · exact ⟨(show (35 : Nat) < 69 by omega), hS 2 (by omega)⟩
      · exact ⟨(show (36 : Nat) < 69 by omega), hS 3 (by omega)⟩
      · exact ⟨(show (37 : Nat) < 69 by omega), hS 4 (by omega)⟩
      · exact ⟨(show (38 : Nat) < 69 by omega), hS 5 (by omega)⟩
      · exact ⟨(show (39 : Nat) < 69 by omega), hS 6 (by omega)⟩
      · exact ⟨(show (40 : Nat) < 69 by omega), g7.symm⟩
      · exact ⟨(show (41 : Nat) < 69 by omega), hS 8 (by omega)⟩
      · exact ⟨(show (42 : Nat) < 69 by omega), hS 9 (by omega)⟩
      · exact ⟨(show (43 : Nat) < 69 by omega), g10.symm⟩
      · exact ⟨(show (44 : Nat) < 69 by omega), hS 11 (by omega)⟩
      · exact ⟨(show (45 : Nat) < 69 by omega), hS 12 (by omega)⟩
      · exact ⟨(show (46 : Nat) < 69 by omega), hS 13 (by omega)⟩
    have ha := act_puts hsz hdf hall (fun t ht => hold t (all_ne_of (l := [(33, .bool true), (34, .bool true), (35, .agg #[.slice A n c, .slice A' n' c']), (36, .slice (some ⟨g, 0, none⟩) ln cl), (37, .int .i64 (jj : Int)), (38, .pointer (some ⟨g, jj * 2, none⟩)), (39, .agg #[.int .i64 (kk : Int), .int .i64 x]), (40, v7), (41, .int .i64 (zz : Int)), (42, .int .i64 ((bt &&& zz : Nat) : Int)), (43, v10), (44, .int .i64 (cn : Int)), (45, .bool cb), (46, .bool cb)]) (by kernel_rfl) ht))
    rw [ha]
    exact K W v7 v10 hB (by rw [g7]; exact hS 7 (by omega)) (by rw [g10]; exact hS 10 (by omega))
end

theorem ra13_tail {a : Act} {W : World} {Q : Exit → Act → World → Prop} {r : Value} (e46 : a.eval (.tmp 46) = r) (K : Q .normal (a.put (some 8) r) W) : wpList Try.prog ra13Reg Q (ra13Reg.toList.drop 14) a W := by
  obtain ⟨o1, hdr, h1⟩ : ∃ o1, ra13Reg.toList.drop 14 = [o1] ∧ ra13Reg[14]? = some o1 := by
    have hs : ra13Reg.size = 15 := by kernel_rfl
    refine ⟨ra13Reg[14], ?_, by simp⟩
    rw [List.drop_eq_getElem_cons (by simp [hs]), List.drop_eq_nil_of_le (by simp [hs])]
    simp
  rw [hdr]
  have hop1 := op_at h1 (·.op) (x := Op.assign (Operand.tmp 46)) (by kernel_rfl)
  have hg1 := op_at h1 (·.guard) (x := none) (by kernel_rfl)
  have hd1 := op_at h1 (·.dst) (x := some 8) (by kernel_rfl)
  simp only [wpList]
  rw [if_pos (wanted_free hg1)]
  left
  have hr : (execOp a.eval o1).run Try.prog W = .ok (.value r) W := by simp [execOp, hop1, go_sem, ev e46]
  unfold Oper.wp
  rw [hr]
  show Q .normal (a.put o1.dst r) W
  rw [hd1]
  exact K

theorem firstB_at : ∀ {xs ys : List Nat} {k : Nat} (h1 : k < xs.length) (h2 : k < ys.length), (∀ j (a : j < xs.length) (b : j < ys.length), j < k → xs[j] = ys[j]) → xs[k] ≠ ys[k] → firstB xs ys = decide (xs[k] < ys[k])
  | x :: xs, y :: ys, 0, _, _, _, hne => by
    unfold firstB
    rw [if_neg (by simpa using hne)]
    rfl
  | x :: xs, y :: ys, k + 1, h1, h2, h, hne => by
    have h0 := h 0 (by simp) (by simp) (by omega)
    simp only [List.getElem_cons_zero] at h0
    unfold firstB
    rw [if_pos h0]
    exact firstB_at (xs := xs) (ys := ys) (k := k) (by simpa using h1) (by simpa using h2) (fun j a b hj => h (j + 1) (by simpa using a) (by simpa using b) (by omega)) (by simpa using hne)
theorem firstB_same : ∀ (xs : List Nat), firstB xs xs = false
  | [] => rfl
  | x :: xs => by
    unfold firstB
    rw [if_pos rfl]
    exact firstB_same xs
theorem held_nat {w : World} {A : Option Addr} {xs : List Nat} (hh : Held w w.heap.size 1 encN A xs) {W : World} (hB : Below w.heap.size w W) {k : Nat} (hk : k < xs.length) : ∃ b off, A = some ⟨b, off, none⟩ ∧ W.cell? ⟨b, off + k, none⟩ = some (.int .i64 (xs[k] : Int)) := by
  rcases hh with h | ⟨b, off, rfl, hlt', hc⟩
  · simp [h] at hk
  · refine ⟨b, off, rfl, ?_⟩
    have h2 := (hB.cell (p := ⟨b, off + k * 1 + 0, none⟩) hlt').trans (hc k xs[k] (List.getElem?_eq_getElem hk) 0 _ rfl)
    simpa using h2

set_option maxRecDepth 100000 in
set_option maxHeartbeats 2000000 in
theorem first69_any (A A' : Option Addr) (n c c' : Nat) (xs ys : List Nat) (w : World) (hnn : n = xs.length) (hnn' : n = ys.length)
    (hn : n ≤ 9223372036854775807) (hh : Held w w.heap.size 1 encN A xs) (hh' : Held w w.heap.size 1 encN A' ys) :
    Calls Try.prog 69 #[.slice A n c, .slice A' n c'] w fun e w' => e = .returned (.bool (firstB xs ys)) ∧ Ext w w' := by
  obtain ⟨ans, hans⟩ : ∃ ans, firstB xs ys = ans := ⟨_, rfl⟩
  rw [hans]
  have HA := Lib.hid hans
  have HN := Lib.hid (And.intro hnn hnn')
  clear hnn hnn' hans
  go_enter Try.func69, Try.ntmps69
  go_wp2
  go_loopw [5] (fun i wr => ∃ k : Nat, k ≤ n ∧ i = .int .i64 k ∧ Hid (∃ m, wr = w.drewN m) ∧ Hid (∀ j (a : j < xs.length) (b : j < ys.length), j < k → xs[j] = ys[j])) (fun i _ => n - (intOf i).toNat)
  case atStart => exact ⟨0, Nat.zero_le _, rfl, Lib.hid ⟨0, rfl⟩, Lib.hid (fun j _ _ hj => absurd hj (by omega))⟩
  case round =>
    obtain ⟨k, hk, rfl, hD, hE⟩ := hrel
    have hB : Hid (Below w.heap.size w wr) := Lib.hid (by obtain ⟨m, rfl⟩ := hD.out; exact bdrewN (Below.refl _ _) m)
    by_cases hlt : k < n
    · have hltz : (k : Int) < (n : Int) := by omega
      have hkx : k < xs.length := by rw [← HN.out.1]; exact hlt
      have hky : k < ys.length := by rw [← HN.out.2]; exact hlt
      obtain ⟨b, off, rfl, hc⟩ := held_nat hh hB.out hkx
      obtain ⟨b', off', rfl, hc'⟩ := held_nat hh' hB.out hky
      have hat := firstB_at hkx hky hE.out
      obtain ⟨x, hx⟩ : ∃ x, xs[k] = x := ⟨_, rfl⟩
      obtain ⟨y, hy⟩ : ∃ y, ys[k] = y := ⟨_, rfl⟩
      rw [hx] at hc hat
      rw [hy] at hc' hat
      have HXY := Lib.hid (And.intro hx hy)
      have HAT := Lib.hid hat
      clear hx hy hh hh' hat
      by_cases hxy : x = y
      · subst hxy
        go_upto_region 4 with fail
        go_quiet (fail)
        go_wp2
        go_roundw
        case measure => simp [intOf]; omega
        case rel =>
          refine ⟨k + 1, by omega, by go_num, Lib.hid (by obtain ⟨m, rfl⟩ := hD.out; exact ⟨m + nq, by rw [World.drewN_drewN]⟩), Lib.hid fun j a b hj => ?_⟩
          by_cases e : j = k
          · subst e
            rw [HXY.out.1, HXY.out.2]
          · exact hE.out j a b (by omega)
      · have hxy2 : ((x : Int) != (y : Int)) = true := by simp; omega
        have ha := HAT.out hxy
        rw [HA.out] at ha
        have HAA := Lib.hid ha
        clear ha
        by_cases hlx : x < y
        · have hlz : (x : Int) < (y : Int) := by omega
          have ha := HAA.out
          rw [decide_eq_true hlx] at ha
          subst ha
          go_upto_region 4 with fail
          go_quiet (fail)
          go_wp2
          go_quiet (fail)
          go_wp2
          go_ret
          exact ⟨rfl, bdrewN (bdrewN hB.out _) _⟩
        · have hlz : ¬ (x : Int) < (y : Int) := by omega
          have ha := HAA.out
          rw [decide_eq_false hlx] at ha
          subst ha
          go_upto_region 4 with fail
          go_quiet (fail)
          go_wp2
          go_quiet (fail)
          go_wp2
          go_ret
          exact ⟨rfl, bdrewN (bdrewN hB.out _) _⟩
    · have hltz : ¬ (k : Int) < (n : Int) := by omega
      have : xs = ys := List.ext_getElem (by rw [← HN.out.1, HN.out.2]) fun j h1 h2 => hE.out j h1 h2 (by have := HN.out.1; omega)
      have ha := HA.out
      rw [this, firstB_same] at ha
      subst ha
      clear this
      go_wp2
      go_ret
      exact ⟨rfl, hB.out⟩
end Go.Proofs.Ytchmdkdiilaejaa

/- Apart of the reference, walked. -/
namespace Go.Proofs.Ytchmdkdiilaejaa
open Go.RowKit Go.Shelf
attribute [local irreducible] bitCells fitCells Z94 fitOf

theorem nums_nats (b : Nat) : numsTo (fun i => b.testBit i) 12 = (natsOf b).map fun j : Nat => (j : Int) := rfl
theorem nats_held {W : World} {base : Nat} {b : Nat} {A : Option Addr} {n c : Nat} (h : MadeInts base (numsTo (fun i => b.testBit i) 12) W (.slice A n c)) (hn : n = (natsOf b).length) : Held W W.heap.size 1 encN A (natsOf b) := by
  have h1 := ints_held h (by rw [nums_nats, List.length_map]; exact hn)
  rw [nums_nats] at h1
  have h2 := held_nums h1 fun x hx => by
    obtain ⟨j, _, rfl⟩ := List.mem_map.1 hx
    omega
  rwa [toNat_cast] at h2

set_option maxRecDepth 100000 in
set_option maxHeartbeats 8000000 in
theorem apt29_any {A : Option Addr} {n c : Nat} {A' : Option Addr} {n' c' : Nat} {cs ms : List (Int × Int)} {w : World} (hb : IsSheet w w.heap.size A n c A' n' c' cs ms) :
    Calls Try.prog 29 #[.agg #[.slice A n c, .slice A' n' c']] w fun e w' => Ext w w' ∧ ∃ A9 m9 c9, e = .returned (.tuple #[.slice A9 m9 c9, .int .i64 (sheetErr cs ms)]) ∧ m9 = (if sheetErr cs ms = 0 then apartTo cs ms ms.length else []).length ∧ Held w' w'.heap.size 1 encN A9 (if sheetErr cs ms = 0 then apartTo cs ms ms.length else []) := by
  have hX0 := SheetAt.new hb
  have hE0 : Ext w (w.alloc (.cells #[.slice A n c, .slice A' n' c'] 25)) := ext_alloc w _
  have HN := Lib.hid hb.nms
  clear hb
  obtain ⟨LL, hLL⟩ : ∃ LL, (if sheetErr cs ms = 0 then apartTo cs ms ms.length else []) = LL := ⟨_, rfl⟩
  rw [hLL]
  have HLL := Lib.hid hLL
  obtain ⟨r, hr⟩ : ∃ r, sheetErr cs ms = r := ⟨_, rfl⟩
  rw [hr]
  have HS := Lib.hid hr
  clear hLL hr
  go_enter Try.func29, Try.ntmps29
  go_upto_region 1 with fail
  obtain ⟨w0, hw0⟩ : ∃ w0, w.alloc (.cells #[.slice A n c, .slice A' n' c'] 25) = w0 := ⟨_, rfl⟩
  rw [hw0] at hX0 hE0
  rw [hw0]
  obtain ⟨p, hp⟩ : ∃ p, w.heap.size = p := ⟨_, rfl⟩
  have HE := Lib.hid hE0
  rw [hp] at hX0
  rw [hp]
  have HX := Lib.hid hX0
  clear hw0 hE0 hp hX0
  obtain ⟨q0, q1⟩ := HX.out.cells
  have h24 := refSheet_any HX.out.sheet
  rw [HS.out] at h24
  go_wp2_with (fail)
  refine h24.mono ?_
  rintro e w1 ⟨rfl, e1⟩
  have HE := Lib.hid (HE.out.trans e1)
  have HX := Lib.hid (HX.out.ext e1)
  clear e1 h24 q0 q1
  obtain ⟨q0, q1⟩ := HX.out.cells
  by_cases h0 : r = 0
  · subst h0
    have hsm := sheet_ok HS.out
    have hn12 : n' ≤ 12 := by have := HN.out; have := hsm.1; omega
    have hLL := HLL.out
    rw [if_pos HS.out, ← refApt_is hsm.1.2.2, ← HN.out] at hLL
    have hT := wrap_pow n' hn12
    have hT2 : ((2 : Int) ^ n') = ((2 ^ n' : Nat) : Int) := by simp
    have hT4 : 2 ^ n' ≤ 4096 := (Nat.pow_le_pow_right (by decide) hn12 : 2 ^ n' ≤ 2 ^ 12)
    obtain ⟨T, hTe⟩ : ∃ T, 2 ^ n' = T := ⟨_, rfl⟩
    rw [hTe] at hT hT2 hT4 hLL
    have HTE := Lib.hid hTe
    have HLL := Lib.hid hLL
    have h48 := refRows_any HX.out.sheet HS.out
    clear hLL hTe hsm
    go_wp2_with (fail)
    refine h48.mono ?_
    rintro e w5 ⟨v, rfl, e5, hv⟩
    obtain ⟨A5, c5, hv2⟩ := owns_slice hv
    subst hv2
    have HX := Lib.hid (HX.out.ext e5)
    have HE := Lib.hid (HE.out.trans e5)
    obtain ⟨ls, hls⟩ : ∃ ls, fitsOf cs ms = ls := ⟨_, rfl⟩
    have hfew := fits_few HS.out
    rw [hls] at hv hfew
    rw [hls]
    have HLS := Lib.hid hls
    have HV := Lib.hid hv
    clear e5 h48 hv hls q0 q1
    go_wp2_with (fail)
    go_loopw [5, 6] (fun v i wr => ∃ b : Nat, b ≤ T ∧ i = .int .i64 b ∧ Hid (Ext w5 wr) ∧ ∃ A8 m8 c8, v = .slice A8 m8 c8 ∧ Hid (m8 = (refApt cs ms b).length ∧ Held wr wr.heap.size 1 encN A8 (refApt cs ms b))) (fun _ i _ => T - (intOf i).toNat)
    case atStart => exact ⟨0, Nat.zero_le _, rfl, Lib.hid (Ext.refl _), none, 0, 0, rfl, Lib.hid ⟨rfl, .inl rfl⟩⟩
    case round =>
      obtain ⟨b, hb, rfl, hE, A8, m8, c8, rfl, hB⟩ := hrel
      have hX := HX.out.ext hE.out
      obtain ⟨q0, q1⟩ := hX.cells
      by_cases hbt : b < T
      · have hbz : (b : Int) < (T : Int) := by omega
        have h46 := list_any b (by omega) wr
        have hun := nats_under (m := n') (b := b) (by rw [HTE.out]; exact hbt)
        have hno := marksNo_nats (b := b) (by omega)
        have hsu : refApt cs ms (b + 1) = if apartB cs ms (natsOf b) = true ∧ ((refApt cs ms b).length < (natsOf b).length ∨ ((natsOf b).length = (refApt cs ms b).length ∧ firstB (natsOf b) (refApt cs ms b) = true)) then natsOf b else refApt cs ms b := rfl
        go_wp2_with fail
        refine h46.mono ?_
        rintro e w6 ⟨v, rfl, e6, hM⟩
        obtain ⟨A7, c7, hv⟩ := owns_slice hM.1
        obtain ⟨lx, hlx⟩ : ∃ lx, (natsOf b).length = lx := ⟨_, rfl⟩
        rw [show (numsTo (fun i => b.testBit i) 12).length = lx from by rw [nums_nats, List.length_map]; exact hlx] at hv
        subst hv
        have hh7 := nats_held hM hlx.symm
        have hl12 : lx ≤ 12 := by
          rw [← hlx]
          exact sorted_short (natsOf_sorted b) fun x hx => ((mem_nats b x).1 hx).1
        obtain ⟨js, hjs⟩ : ∃ js, natsOf b = js := ⟨_, rfl⟩
        obtain ⟨bs, hbs⟩ : ∃ bs, refApt cs ms b = bs := ⟨_, rfl⟩
        have hsrt := natsOf_sorted b
        rw [hjs] at hun hno hsu hlx hh7 hsrt
        rw [hbs] at hsu hB
        rw [hlx] at hsu
        have hB2 := hB.out
        rw [← hB2.1] at hsu
        have HSU := Lib.hid hsu
        have HJ := Lib.hid (And.intro (sorted_nodup hsrt) (And.intro hun (And.intro hno hlx)))
        have H7 := Lib.hid hh7
        have H8 := Lib.hid (Held.ext hB2.2 e6)
        have HB8 := Lib.hid hB2.1
        have HX := Lib.hid (hX.ext e6)
        have HE6 := Lib.hid (hE.out.trans e6)
        clear hX q0 q1 e6 h46 hM hun hno hsu hlx hh7 hjs hbs hB hB2 hE hsrt hT hT2
        go_wp2_with fail
        go_loopw [8, 9] (fun f i wr => ∃ (j : Nat) (ab : Bool), j ≤ ls.length ∧ i = .int .i64 j ∧ f = .bool ab ∧ Hid (Ext w6 wr) ∧ Hid (ab = true ↔ ∀ t (ht : t < ls.length), t < j → crowded (hadB cs ms ls[t].1 ls[t].2) js = false)) (fun _ i _ => ls.length - (intOf i).toNat)
        case atStart => exact ⟨0, true, Nat.zero_le _, rfl, rfl, Lib.hid (Ext.refl _), Lib.hid ⟨fun _ t _ h => absurd h (by omega), fun _ => rfl⟩⟩
        case round =>
          obtain ⟨j, ab, hj, rfl, rfl, hE, hD⟩ := hrel
          by_cases hjl : j < ls.length
          · have hjz : (j : Int) < (ls.length : Int) := by omega
            obtain ⟨g, rfl, hg, c0, c1⟩ := pair_at (owns_ext HV.out (HE6.out.trans hE.out)) hjl
            cases ab with
            | false =>
              go_upto_region 13 with fail
              go_quiet (fail)
              go_wp2
              go_roundw
              case measure => simp [intOf]; omega
              case rel =>
                refine ⟨j + 1, false, by omega, by go_num, rfl, Lib.hid (bdrewN hE.out _), Lib.hid ⟨fun h => (by cases h), fun h => ?_⟩⟩
                exact hD.out.2 fun t ht htj => h t ht (by omega)
            | true =>
              have hmem : ls[j] ∈ fitsOf cs ms := by rw [HLS.out]; exact List.getElem_mem hjl
              obtain ⟨m1, m2, m3, m4⟩ := fits_mem HS.out hmem
              have hn4 : noOf cs ms ls[j] < 4096 := setNo_lt _
              have h59 := fun (W : World) (hW : Ext wr W) => bits_any ((HX.out.ext hE.out).ext hW).sheet HS.out ls[j].1 m1 ls[j].2
              rw [m3] at h59
              have hcb := crowd_bits (cs := cs) (ms := ms) (sheet_ok HS.out).1.2.2 ls[j] HJ.out.1 (fun i hi => by have := HJ.out.2.1 i hi; have := HN.out; omega)
              rw [HJ.out.2.2.1] at hcb
              obtain ⟨x1, x2, hx⟩ : ∃ x1 x2, ls[j] = (x1, x2) := ⟨_, _, rfl⟩
              have hcr : crowded (hadB cs ms ls[j].1 ls[j].2) js = decide (1 < (js.filter (hadB cs ms ls[j].1 ls[j].2)).length) := rfl
              generalize hbt2 : noOf cs ms ls[j] = bt at h59 hcb hn4
              have hand4 : bt &&& b < 4096 := Nat.lt_of_le_of_lt Nat.and_le_left hn4
              have h46 := fun W => list_any (bt &&& b) hand4 W
              rw [← hcb] at hcr
              obtain ⟨cn, hcn⟩ : ∃ cn, (numsTo (fun i => (bt &&& b).testBit i) 12).length = cn := ⟨_, rfl⟩
              have hlist : ∀ W, Ext wr W → Calls Try.prog 46 #[.int .i64 ((bt &&& b : Nat) : Int)] W fun e w' => ∃ A9 c9, e = .returned (.slice A9 cn c9) ∧ Ext W w' := fun W _ => (h46 W).mono fun e w' ⟨v, he, hw, hM⟩ => by
                obtain ⟨A9, c9, rfl⟩ := made_slice hM
                rw [hcn] at he
                exact ⟨A9, c9, he, hw⟩
              rw [hcn] at hcr
              have hand := bits_and bt b (by omega) (by omega)
              rw [hx] at c0 c1 h59
              dsimp only at c0 c1 h59
              have hX3 := HX.out.ext hE.out
              have H59 := Lib.hid h59
              have HL := Lib.hid hlist
              have hcbb : decide ((cn : Int) < 2) = !crowded (hadB cs ms ls[j].1 ls[j].2) js := by
                rw [hcr]
                by_cases h : 1 < cn
                · rw [decide_eq_true h, decide_eq_false (by omega)]; rfl
                · rw [decide_eq_false h, decide_eq_true (by omega)]; rfl
              obtain ⟨cb, hcb2⟩ : ∃ cb, (!crowded (hadB cs ms ls[j].1 ls[j].2) js) = cb := ⟨_, rfl⟩
              rw [hcb2] at hcbb
              have HCB := Lib.hid hcb2
              clear h59 m1 m2 m3 m4 hcb hcn hlist h46 hcr hcb2 hbt2
              go_upto_region 13 with fail
              refine ra13_wp (p := p) (A := A) (n := n) (c := c) (A' := A') (n' := n') (c' := c') (g := g) (ln := ls.length) (cl := c5) (jj := j) (kk := x1) (zz := b) (bt := bt) (cn := cn) (x := x2) (cb := cb) rfl rfl rfl rfl rfl rfl
                (fun W hW => (hX3.ext hW).cells.1) (fun W hW => (hX3.ext hW).cells.2) hjl (fun W hW => (hW.cell (p := ⟨g, j * 2, none⟩) hg).trans c0) (fun W hW => (hW.cell (p := ⟨g, j * 2 + 1, none⟩) hg).trans c1) (fun W hW => H59.out W hW) hand (fun W hW => HL.out W hW) hcbb ?_
              intro W v7 v10 hW _ _
              simp only [puts, List.foldl_cons, List.foldl_nil, Act.put, List.setIfInBounds_toArray, List.set_cons_succ, List.set_cons_zero]
              refine ra13_tail (r := .bool cb) rfl ?_
              have HW := Lib.hid (hE.out.trans hW)
              simp only [Act.put, List.setIfInBounds_toArray, List.set_cons_succ, List.set_cons_zero]
              clear hX3 hand hW c0 c1 hE hcbb
              go_wp2
              go_roundw
              case measure => simp [intOf]; omega
              case rel =>
                refine ⟨j + 1, cb, by omega, by go_num, rfl, HW, Lib.hid ⟨fun h t ht htj => ?_, fun h => ?_⟩⟩
                · by_cases e : t = j
                  · subst e
                    have := HCB.out
                    rw [h] at this
                    simpa using this
                  · exact hD.out.1 rfl t ht (by omega)
                · have := h j hjl (by omega)
                  rw [← HCB.out, this]
                  rfl
          · have hjz : ¬ (j : Int) < (ls.length : Int) := by omega
            obtain rfl : j = ls.length := by omega
            have hap : ab = true ↔ apartB cs ms js = true := by
              rw [hD.out]
              unfold apartB
              rw [HLS.out, List.all_eq_true]
              constructor
              · intro h x hx
                obtain ⟨t, ht, rfl⟩ := List.getElem_of_mem hx
                rw [h t ht ht]
                rfl
              · intro h t ht _
                have := h _ (List.getElem_mem ht)
                simpa using this
            have hsu := HSU.out
            have hap2 : apartB cs ms js = ab := Bool.eq_iff_iff.2 hap.symm
            rw [hap2] at hsu
            replace HSU := Lib.hid hsu
            have H7 := Lib.hid (Held.ext H7.out hE.out)
            have H8 := Lib.hid (Held.ext H8.out hE.out)
            have HEE := Lib.hid (HE6.out.trans hE.out)
            clear hsu hap hap2 hD hE
            cases ab with
            | false =>
              have hsu := HSU.out
              rw [if_neg (by rintro ⟨h, _⟩; cases h)] at hsu
              replace HSU := Lib.hid hsu
              clear hsu
              go_wp2
              go_roundw
              case measure => simp [intOf]; omega
              case rel => exact ⟨b + 1, by omega, by go_num, HEE, A8, m8, c8, rfl, Lib.hid ⟨by rw [HSU.out]; exact HB8.out, by rw [HSU.out]; exact H8.out⟩⟩
            | true =>
              by_cases hgt : (m8 : Int) < (lx : Int)
              · have hsu := HSU.out
                rw [if_pos ⟨rfl, .inl (by omega)⟩] at hsu
                replace HSU := Lib.hid hsu
                clear hsu
                go_wp2
                go_roundw
                case measure => simp [intOf]; omega
                case rel => exact ⟨b + 1, by omega, by go_num, HEE, A7, lx, c7, rfl, Lib.hid ⟨by rw [HSU.out]; exact HJ.out.2.2.2.symm, by rw [HSU.out]; exact H7.out⟩⟩
              · by_cases heq : lx = m8
                · subst heq
                  have h69 := first69_any A7 A8 lx c7 c8 js bs wr HJ.out.2.2.2.symm HB8.out (by omega) H7.out H8.out
                  obtain ⟨fb, hfb⟩ : ∃ fb, firstB js bs = fb := ⟨_, rfl⟩
                  rw [hfb] at h69
                  have hsu := HSU.out
                  rw [hfb] at hsu
                  replace HSU := Lib.hid hsu
                  clear hsu hfb
                  go_wp2_with fail
                  refine h69.mono ?_
                  rintro e w9 ⟨rfl, e9⟩
                  have H7 := Lib.hid (Held.ext H7.out e9)
                  have H8 := Lib.hid (Held.ext H8.out e9)
                  have HEE := Lib.hid (HEE.out.trans e9)
                  clear e9 h69
                  cases fb with
                  | true =>
                    have hsu : refApt cs ms (b + 1) = js := by rw [HSU.out]; simp
                    replace HSU := Lib.hid hsu
                    clear hsu
                    go_wp2
                    go_roundw
                    case measure => simp [intOf]; omega
                    case rel => exact ⟨b + 1, by omega, by go_num, HEE, A7, lx, c7, rfl, Lib.hid ⟨by rw [HSU.out]; exact HJ.out.2.2.2.symm, by rw [HSU.out]; exact H7.out⟩⟩
                  | false =>
                    have hsu := HSU.out
                    rw [if_neg (by rintro ⟨_, h | ⟨_, h⟩⟩; exact absurd h (Nat.lt_irrefl _); cases h)] at hsu
                    replace HSU := Lib.hid hsu
                    clear hsu
                    go_wp2
                    go_roundw
                    case measure => simp [intOf]; omega
                    case rel => exact ⟨b + 1, by omega, by go_num, HEE, A8, lx, c8, rfl, Lib.hid ⟨by rw [HSU.out]; exact HB8.out, by rw [HSU.out]; exact H8.out⟩⟩
                · have hsu := HSU.out
                  rw [if_neg (by rintro ⟨_, h | ⟨h, _⟩⟩ <;> omega)] at hsu
                  replace HSU := Lib.hid hsu
                  have heqz : ((lx : Int) == (m8 : Int)) = false := by simp; omega
                  clear hsu
                  go_wp2
                  go_roundw
                  case measure => simp [intOf]; omega
                  case rel => exact ⟨b + 1, by omega, by go_num, HEE, A8, m8, c8, rfl, Lib.hid ⟨by rw [HSU.out]; exact HB8.out, by rw [HSU.out]; exact H8.out⟩⟩
      · have hbz : ¬ (b : Int) < (T : Int) := by omega
        obtain rfl : b = T := by omega
        have hB2 := hB.out
        rw [HLL.out] at hB2
        have HB2 := Lib.hid hB2
        have HEE := Lib.hid (HE.out.trans hE.out)
        clear hX hB hB2 hE
        go_wp2
        go_ret2
        have hm8 := HB2.out.1
        first
        | exact ⟨HEE.out, A8, m8, c8, rfl, HB2.out.1, HB2.out.2⟩
        | exact ⟨HEE.out, A8, m8, ⟨c8, rfl⟩, HB2.out.1, HB2.out.2⟩
        | (subst hm8; exact ⟨HEE.out, A8, ⟨c8, rfl⟩, HB2.out.2⟩)
        | (subst hm8; exact ⟨HEE.out, A8, c8, rfl, HB2.out.2⟩)
  · have hne : (r == 0) = false := by simpa using h0
    have hLL := HLL.out
    rw [if_neg (by rw [HS.out]; exact h0)] at hLL
    subst hLL
    have h24 := refSheet_any HX.out.sheet
    rw [HS.out] at h24
    go_wp2_with fail
    refine h24.mono ?_
    rintro e w2 ⟨rfl, e2⟩
    have HE := Lib.hid (HE.out.trans e2)
    clear e2 h24
    go_wp2
    go_ret2
    first
    | exact ⟨HE.out, none, 0, 0, rfl, rfl, .inl rfl⟩
    | exact ⟨HE.out, none, 0, ⟨0, rfl⟩, rfl, .inl rfl⟩
end Go.Proofs.Ytchmdkdiilaejaa

/- CombAparts: its last region; the walk. -/
namespace Go.Proofs.Ytchmdkdiilaejaa
open Go.RowKit Go.Shelf
attribute [local irreducible] bitCells fitCells Z94 fitOf

/-- The slots of region 5 of function 4. -/
def ap5D (i : Nat) : Tmp := if i = 0 then 31 else if i = 1 then 32 else if i = 2 then 33 else if i = 3 then 34 else if i = 4 then 35 else if i = 5 then 36 else if i = 6 then 37 else if i = 7 then 38 else if i = 8 then 39 else if i = 9 then 40 else if i = 10 then 41 else if i = 11 then 42 else if i = 12 then 43 else if i = 13 then 44 else if i = 14 then 45 else if i = 15 then 46 else if i = 16 then 47 else if i = 17 then 48 else if i = 18 then 49 else if i = 19 then 50 else 4
/-- What each operation yields. -/
def ap5S (_p : Nat) (A : Option Addr) (n c : Nat) (A' : Option Addr) (n' c' : Nat) (va vb vm : Value) (E1 KK : Int) (ix : Nat) (v : Value) (_W : World) : Prop :=
  match ix with
  | 0 => v = va
  | 1 => v = vb
  | 2 => v = .bool true
  | 3 => v = .bool true
  | 4 => v = .int .i64 E1
  | 5 => v = .int .i64 E1
  | 6 => v = .bool true
  | 7 => v = .bool true
  | 8 => v = .bool true
  | 9 => v = .agg #[.slice A n c, .slice A' n' c']
  | 10 => v = vm
  | 11 => v = .int .i64 KK
  | 12 => v = .agg #[.slice A n c, .slice A' n' c']
  | 13 => v = vm
  | 14 => v = .int .i64 KK
  | 15 => v = .bool true
  | 16 => v = .bool true
  | 17 => v = .bool true
  | 18 => v = .bool true
  | 19 => v = .bool true
  | 20 => v = .bool true
  | _ => True
noncomputable def ap5Reg : Array Oper := (Try.f4.body.bind (regionOf · 5)).getD #[]
theorem ap5S_ext {p : Nat} {A : Option Addr} {n c : Nat} {A' : Option Addr} {n' c' : Nat} {va vb vm : Value} {E1 KK : Int} : ∀ (i : Nat) (v : Value) (W W' : World), ap5S p A n c A' n' c' va vb vm E1 KK i v W → Below W.heap.size W W' → ap5S p A n c A' n' c' va vb vm E1 KK i v W' := by
  intro i v W W' h e
  match i with
  | 0 => exact h
  | 1 => exact h
  | 2 => exact h
  | 3 => exact h
  | 4 => exact h
  | 5 => exact h
  | 6 => exact h
  | 7 => exact h
  | 8 => exact h
  | 9 => exact h
  | 10 => exact h
  | 11 => exact h
  | 12 => exact h
  | 13 => exact h
  | 14 => exact h
  | 15 => exact h
  | 16 => exact h
  | 17 => exact h
  | 18 => exact h
  | 19 => exact h
  | 20 => exact h
  | k + 21 => exact trivial
def ap5Ok (p : Nat) (A : Option Addr) (n c : Nat) (A' : Option Addr) (n' c' : Nat) (va vb vm : Value) (E1 KK : Int) (Q : Exit → Act → World → Prop) (a : Act) (W : World) (ix : Nat) (o : Oper) : Prop :=
  (∀ j b, o.guard = some (j, b) → a.eval (.tmp (ap5D j)) = .bool b) ∧ o.wp Try.prog a W (fun a'' W' => ∃ v, a'' = a.put o.dst v ∧ ap5S p A n c A' n' c' va vb vm E1 KK ix v W' ∧ Below W.heap.size W W') Q
section
variable {p : Nat} {A : Option Addr} {n c : Nat} {A' : Option Addr} {n' c' : Nat} {va vb vm : Value} {E1 KK : Int} {Q : Exit → Act → World → Prop} {a : Act} {V W : World} {o : Oper}
set_option maxHeartbeats 1000000 in
theorem ap5_op0 (o5 : a.eval (.tmp 5) = va) (ho : ap5Reg[0]? = some o) : ap5Ok p A n c A' n' c' va vb vm E1 KK Q a W 0 o := by
  have hop := op_at ho (·.op) (x := Op.move (Operand.tmp 5)) (by kernel_rfl)
  have hgd := op_at ho (·.guard) (x := none) (by kernel_rfl)
  refine ⟨fun j b h => (by rw [hgd] at h; cases h), ?_⟩
  exact specs_value (R := fun v W => ap5S p A n c A' n' c' va vb vm E1 KK 0 v W) (v := va) (by simp [execOp, hop, go_sem, ev o5]) rfl (Ext.refl W)
set_option maxHeartbeats 1000000 in
theorem ap5_op1 (o7 : a.eval (.tmp 7) = vb) (ho : ap5Reg[1]? = some o) : ap5Ok p A n c A' n' c' va vb vm E1 KK Q a W 1 o := by
  have hop := op_at ho (·.op) (x := Op.move (Operand.tmp 7)) (by kernel_rfl)
  have hgd := op_at ho (·.guard) (x := none) (by kernel_rfl)
  refine ⟨fun j b h => (by rw [hgd] at h; cases h), ?_⟩
  exact specs_value (R := fun v W => ap5S p A n c A' n' c' va vb vm E1 KK 1 v W) (v := vb) (by simp [execOp, hop, go_sem, ev o7]) rfl (Ext.refl W)
set_option maxHeartbeats 1000000 in
theorem ap5_op2 (h25 : ∀ W, Ext V W → Calls Try.prog 25 #[va, vb] W fun e w' => e = .returned (.bool true) ∧ Ext W w') (hB : Ext V W) (haft : ∀ j, (o.after.any fun e => decide (e.on = j) && Region.binds .any e) = true → ap5S p A n c A' n' c' va vb vm E1 KK j (a.eval (.tmp (ap5D j))) W) (ho : ap5Reg[2]? = some o) : ap5Ok p A n c A' n' c' va vb vm E1 KK Q a W 2 o := by
  have hop := op_at ho (·.op) (x := Op.call { callee := Callee.value (Operand.func 25), args := #[Operand.tmp 31, Operand.tmp 32], argTypes := #[30, 30] }) (by kernel_rfl)
  have hgd := op_at ho (·.guard) (x := none) (by kernel_rfl)
  have e0 : a.eval (.tmp 31) = va := haft 0 (op_at ho (fun o => o.after.any fun e => decide (e.on = 0) && Region.binds .any e) (x := true) (by kernel_rfl))
  have e1 : a.eval (.tmp 32) = vb := haft 1 (op_at ho (fun o => o.after.any fun e => decide (e.on = 1) && Region.binds .any e) (x := true) (by kernel_rfl))
  refine ⟨fun j b h => (by rw [hgd] at h; cases h), ?_⟩
  refine specs_call (R := fun v W => ap5S p A n c A' n' c' va vb vm E1 KK 2 v W) (f := 25) (args := #[va, vb]) (by simp [execOp, hop, go_sem, ev e0, ev e1]) ((h25 W hB).mono ?_)
  rintro e w' ⟨rfl, h3⟩
  exact ⟨_, rfl, rfl, h3⟩
set_option maxHeartbeats 1000000 in
theorem ap5_op3 (haft : ∀ j, (o.after.any fun e => decide (e.on = j) && Region.binds .any e) = true → ap5S p A n c A' n' c' va vb vm E1 KK j (a.eval (.tmp (ap5D j))) W) (ho : ap5Reg[3]? = some o) : ap5Ok p A n c A' n' c' va vb vm E1 KK Q a W 3 o := by
  have hop := op_at ho (·.op) (x := Op.move (Operand.tmp 33)) (by kernel_rfl)
  have hgd := op_at ho (·.guard) (x := none) (by kernel_rfl)
  have e2 : ap5S p A n c A' n' c' va vb vm E1 KK 2 (a.eval (.tmp 33)) W := haft 2 (op_at ho (fun o => o.after.any fun e => decide (e.on = 2) && Region.binds .any e) (x := true) (by kernel_rfl))
  refine ⟨fun j b h => (by rw [hgd] at h; cases h), ?_⟩
  have eR : a.eval (.tmp 33) = .bool true := e2
  exact specs_value (R := fun v W => ap5S p A n c A' n' c' va vb vm E1 KK 3 v W) (v := .bool true) (by simp [execOp, hop, go_sem, ev eR]) rfl (Ext.refl W)
set_option maxHeartbeats 1000000 in
theorem ap5_op4 (o6 : a.eval (.tmp 6) = .int .i64 E1) (haft : ∀ j, (o.after.any fun e => decide (e.on = j) && Region.binds .any e) = true → ap5S p A n c A' n' c' va vb vm E1 KK j (a.eval (.tmp (ap5D j))) W) (ho : ap5Reg[4]? = some o) : ap5Ok p A n c A' n' c' va vb vm E1 KK Q a W 4 o := by
  have hop := op_at ho (·.op) (x := Op.move (Operand.tmp 6)) (by kernel_rfl)
  have hgd := op_at ho (·.guard) (x := some (3, true)) (by kernel_rfl)
  have e3 : a.eval (.tmp 34) = .bool true := haft 3 (op_at ho (fun o => o.after.any fun e => decide (e.on = 3) && Region.binds .any e) (x := true) (by kernel_rfl))
  refine ⟨fun j b h => (by rw [hgd] at h; cases h; exact e3), ?_⟩
  exact specs_value (R := fun v W => ap5S p A n c A' n' c' va vb vm E1 KK 4 v W) (v := .int .i64 E1) (by simp [execOp, hop, go_sem, ev o6]) rfl (Ext.refl W)
set_option maxHeartbeats 1000000 in
theorem ap5_op5 (o8 : a.eval (.tmp 8) = .int .i64 E1) (haft : ∀ j, (o.after.any fun e => decide (e.on = j) && Region.binds .any e) = true → ap5S p A n c A' n' c' va vb vm E1 KK j (a.eval (.tmp (ap5D j))) W) (ho : ap5Reg[5]? = some o) : ap5Ok p A n c A' n' c' va vb vm E1 KK Q a W 5 o := by
  have hop := op_at ho (·.op) (x := Op.move (Operand.tmp 8)) (by kernel_rfl)
  have hgd := op_at ho (·.guard) (x := some (3, true)) (by kernel_rfl)
  have e3 : a.eval (.tmp 34) = .bool true := haft 3 (op_at ho (fun o => o.after.any fun e => decide (e.on = 3) && Region.binds .any e) (x := true) (by kernel_rfl))
  refine ⟨fun j b h => (by rw [hgd] at h; cases h; exact e3), ?_⟩
  exact specs_value (R := fun v W => ap5S p A n c A' n' c' va vb vm E1 KK 5 v W) (v := .int .i64 E1) (by simp [execOp, hop, go_sem, ev o8]) rfl (Ext.refl W)
set_option maxHeartbeats 1000000 in
theorem ap5_op6 (haft : ∀ j, (o.after.any fun e => decide (e.on = j) && Region.binds .any e) = true → ap5S p A n c A' n' c' va vb vm E1 KK j (a.eval (.tmp (ap5D j))) W) (ho : ap5Reg[6]? = some o) : ap5Ok p A n c A' n' c' va vb vm E1 KK Q a W 6 o := by
  have hop := op_at ho (·.op) (x := Op.binOp BinOp.eql 31 (Operand.tmp 35) (Operand.tmp 36) 31) (by kernel_rfl)
  have hgd := op_at ho (·.guard) (x := some (3, true)) (by kernel_rfl)
  have e3 : a.eval (.tmp 34) = .bool true := haft 3 (op_at ho (fun o => o.after.any fun e => decide (e.on = 3) && Region.binds .any e) (x := true) (by kernel_rfl))
  have e4 : a.eval (.tmp 35) = .int .i64 E1 := haft 4 (op_at ho (fun o => o.after.any fun e => decide (e.on = 4) && Region.binds .any e) (x := true) (by kernel_rfl))
  have e5 : a.eval (.tmp 36) = .int .i64 E1 := haft 5 (op_at ho (fun o => o.after.any fun e => decide (e.on = 5) && Region.binds .any e) (x := true) (by kernel_rfl))
  refine ⟨fun j b h => (by rw [hgd] at h; cases h; exact e3), ?_⟩
  exact specs_value (R := fun v W => ap5S p A n c A' n' c' va vb vm E1 KK 6 v W) (v := .bool true) (by simp [execOp, hop, go_sem, ev e4, ev e5]) rfl (Ext.refl W)
set_option maxHeartbeats 1000000 in
theorem ap5_op7 (haft : ∀ j, (o.after.any fun e => decide (e.on = j) && Region.binds .any e) = true → ap5S p A n c A' n' c' va vb vm E1 KK j (a.eval (.tmp (ap5D j))) W) (ho : ap5Reg[7]? = some o) : ap5Ok p A n c A' n' c' va vb vm E1 KK Q a W 7 o := by
  have hop := op_at ho (·.op) (x := Op.pick (Operand.tmp 34) (Operand.tmp 37) (Operand.const (Value.bool false))) (by kernel_rfl)
  have hgd := op_at ho (·.guard) (x := none) (by kernel_rfl)
  have e3 : a.eval (.tmp 34) = .bool true := haft 3 (op_at ho (fun o => o.after.any fun e => decide (e.on = 3) && Region.binds .any e) (x := true) (by kernel_rfl))
  have e6 : a.eval (.tmp 37) = .bool true := haft 6 (op_at ho (fun o => o.after.any fun e => decide (e.on = 6) && Region.binds .any e) (x := true) (by kernel_rfl))
  refine ⟨fun j b h => (by rw [hgd] at h; cases h), ?_⟩
  exact specs_value (R := fun v W => ap5S p A n c A' n' c' va vb vm E1 KK 7 v W) (v := .bool true) (by simp [execOp, hop, go_sem, ev e3, ev e6]) rfl (Ext.refl W)
set_option maxHeartbeats 1000000 in
theorem ap5_op8 (haft : ∀ j, (o.after.any fun e => decide (e.on = j) && Region.binds .any e) = true → ap5S p A n c A' n' c' va vb vm E1 KK j (a.eval (.tmp (ap5D j))) W) (ho : ap5Reg[8]? = some o) : ap5Ok p A n c A' n' c' va vb vm E1 KK Q a W 8 o := by
  have hop := op_at ho (·.op) (x := Op.move (Operand.tmp 38)) (by kernel_rfl)
  have hgd := op_at ho (·.guard) (x := none) (by kernel_rfl)
  have e7 : a.eval (.tmp 38) = .bool true := haft 7 (op_at ho (fun o => o.after.any fun e => decide (e.on = 7) && Region.binds .any e) (x := true) (by kernel_rfl))
  refine ⟨fun j b h => (by rw [hgd] at h; cases h), ?_⟩
  exact specs_value (R := fun v W => ap5S p A n c A' n' c' va vb vm E1 KK 8 v W) (v := .bool true) (by simp [execOp, hop, go_sem, ev e7]) rfl (Ext.refl W)
set_option maxHeartbeats 1000000 in
theorem ap5_op9 (o2 : a.eval (.tmp 2) = .pointer (some ⟨p, 0, none⟩)) (q0 : ∀ W, Ext V W → W.cell? ⟨p, 0, none⟩ = some (.slice A n c)) (q1 : ∀ W, Ext V W → W.cell? ⟨p, 1, none⟩ = some (.slice A' n' c')) (hB : Ext V W) (haft : ∀ j, (o.after.any fun e => decide (e.on = j) && Region.binds .any e) = true → ap5S p A n c A' n' c' va vb vm E1 KK j (a.eval (.tmp (ap5D j))) W) (ho : ap5Reg[9]? = some o) : ap5Ok p A n c A' n' c' va vb vm E1 KK Q a W 9 o := by
  have hop := op_at ho (·.op) (x := Op.load 25 (Operand.tmp 2)) (by kernel_rfl)
  have hgd := op_at ho (·.guard) (x := some (8, true)) (by kernel_rfl)
  have e8 : a.eval (.tmp 39) = .bool true := haft 8 (op_at ho (fun o => o.after.any fun e => decide (e.on = 8) && Region.binds .any e) (x := true) (by kernel_rfl))
  refine ⟨fun j b h => (by rw [hgd] at h; cases h; exact e8), ?_⟩
  have q0' := q0 W hB
  have q1' := q1 W hB
  exact specs_value (R := fun v W => ap5S p A n c A' n' c' va vb vm E1 KK 9 v W) (v := .agg #[.slice A n c, .slice A' n' c']) (by simp [execOp, hop, go_sem, ev o2, q0', q1']) rfl (Ext.refl W)
set_option maxHeartbeats 1000000 in
theorem ap5_op10 (o1 : a.eval (.tmp 1) = vm) (haft : ∀ j, (o.after.any fun e => decide (e.on = j) && Region.binds .any e) = true → ap5S p A n c A' n' c' va vb vm E1 KK j (a.eval (.tmp (ap5D j))) W) (ho : ap5Reg[10]? = some o) : ap5Ok p A n c A' n' c' va vb vm E1 KK Q a W 10 o := by
  have hop := op_at ho (·.op) (x := Op.move (Operand.tmp 1)) (by kernel_rfl)
  have hgd := op_at ho (·.guard) (x := some (8, true)) (by kernel_rfl)
  have e8 : a.eval (.tmp 39) = .bool true := haft 8 (op_at ho (fun o => o.after.any fun e => decide (e.on = 8) && Region.binds .any e) (x := true) (by kernel_rfl))
  refine ⟨fun j b h => (by rw [hgd] at h; cases h; exact e8), ?_⟩
  exact specs_value (R := fun v W => ap5S p A n c A' n' c' va vb vm E1 KK 10 v W) (v := vm) (by simp [execOp, hop, go_sem, ev o1]) rfl (Ext.refl W)
set_option maxHeartbeats 1000000 in
theorem ap5_op11 (h30 : ∀ W, Ext V W → Calls Try.prog 30 #[.agg #[.slice A n c, .slice A' n' c'], vm] W fun e w' => e = .returned (.int .i64 KK) ∧ Ext W w') (hB : Ext V W) (haft : ∀ j, (o.after.any fun e => decide (e.on = j) && Region.binds .any e) = true → ap5S p A n c A' n' c' va vb vm E1 KK j (a.eval (.tmp (ap5D j))) W) (ho : ap5Reg[11]? = some o) : ap5Ok p A n c A' n' c' va vb vm E1 KK Q a W 11 o := by
  have hop := op_at ho (·.op) (x := Op.call { callee := Callee.value (Operand.func 30), args := #[Operand.tmp 40, Operand.tmp 41], argTypes := #[25, 30] }) (by kernel_rfl)
  have hgd := op_at ho (·.guard) (x := some (8, true)) (by kernel_rfl)
  have e8 : a.eval (.tmp 39) = .bool true := haft 8 (op_at ho (fun o => o.after.any fun e => decide (e.on = 8) && Region.binds .any e) (x := true) (by kernel_rfl))
  have e9 : a.eval (.tmp 40) = .agg #[.slice A n c, .slice A' n' c'] := haft 9 (op_at ho (fun o => o.after.any fun e => decide (e.on = 9) && Region.binds .any e) (x := true) (by kernel_rfl))
  have e10 : a.eval (.tmp 41) = vm := haft 10 (op_at ho (fun o => o.after.any fun e => decide (e.on = 10) && Region.binds .any e) (x := true) (by kernel_rfl))
  refine ⟨fun j b h => (by rw [hgd] at h; cases h; exact e8), ?_⟩
  refine specs_call (R := fun v W => ap5S p A n c A' n' c' va vb vm E1 KK 11 v W) (f := 30) (args := #[.agg #[.slice A n c, .slice A' n' c'], vm]) (by simp [execOp, hop, go_sem, ev e9, ev e10]) ((h30 W hB).mono ?_)
  rintro e w' ⟨rfl, h3⟩
  exact ⟨_, rfl, rfl, h3⟩
set_option maxHeartbeats 1000000 in
theorem ap5_op12 (o2 : a.eval (.tmp 2) = .pointer (some ⟨p, 0, none⟩)) (q0 : ∀ W, Ext V W → W.cell? ⟨p, 0, none⟩ = some (.slice A n c)) (q1 : ∀ W, Ext V W → W.cell? ⟨p, 1, none⟩ = some (.slice A' n' c')) (hB : Ext V W) (haft : ∀ j, (o.after.any fun e => decide (e.on = j) && Region.binds .any e) = true → ap5S p A n c A' n' c' va vb vm E1 KK j (a.eval (.tmp (ap5D j))) W) (ho : ap5Reg[12]? = some o) : ap5Ok p A n c A' n' c' va vb vm E1 KK Q a W 12 o := by
  have hop := op_at ho (·.op) (x := Op.load 25 (Operand.tmp 2)) (by kernel_rfl)
  have hgd := op_at ho (·.guard) (x := some (8, true)) (by kernel_rfl)
  have e8 : a.eval (.tmp 39) = .bool true := haft 8 (op_at ho (fun o => o.after.any fun e => decide (e.on = 8) && Region.binds .any e) (x := true) (by kernel_rfl))
  refine ⟨fun j b h => (by rw [hgd] at h; cases h; exact e8), ?_⟩
  have q0' := q0 W hB
  have q1' := q1 W hB
  exact specs_value (R := fun v W => ap5S p A n c A' n' c' va vb vm E1 KK 12 v W) (v := .agg #[.slice A n c, .slice A' n' c']) (by simp [execOp, hop, go_sem, ev o2, q0', q1']) rfl (Ext.refl W)
set_option maxHeartbeats 1000000 in
theorem ap5_op13 (o1 : a.eval (.tmp 1) = vm) (haft : ∀ j, (o.after.any fun e => decide (e.on = j) && Region.binds .any e) = true → ap5S p A n c A' n' c' va vb vm E1 KK j (a.eval (.tmp (ap5D j))) W) (ho : ap5Reg[13]? = some o) : ap5Ok p A n c A' n' c' va vb vm E1 KK Q a W 13 o := by
  have hop := op_at ho (·.op) (x := Op.move (Operand.tmp 1)) (by kernel_rfl)
  have hgd := op_at ho (·.guard) (x := some (8, true)) (by kernel_rfl)
  have e8 : a.eval (.tmp 39) = .bool true := haft 8 (op_at ho (fun o => o.after.any fun e => decide (e.on = 8) && Region.binds .any e) (x := true) (by kernel_rfl))
  refine ⟨fun j b h => (by rw [hgd] at h; cases h; exact e8), ?_⟩
  exact specs_value (R := fun v W => ap5S p A n c A' n' c' va vb vm E1 KK 13 v W) (v := vm) (by simp [execOp, hop, go_sem, ev o1]) rfl (Ext.refl W)
set_option maxHeartbeats 1000000 in
theorem ap5_op14 (h31 : ∀ W, Ext V W → Calls Try.prog 31 #[.agg #[.slice A n c, .slice A' n' c'], vm] W fun e w' => e = .returned (.int .i64 KK) ∧ Ext W w') (hB : Ext V W) (haft : ∀ j, (o.after.any fun e => decide (e.on = j) && Region.binds .any e) = true → ap5S p A n c A' n' c' va vb vm E1 KK j (a.eval (.tmp (ap5D j))) W) (ho : ap5Reg[14]? = some o) : ap5Ok p A n c A' n' c' va vb vm E1 KK Q a W 14 o := by
  have hop := op_at ho (·.op) (x := Op.call { callee := Callee.value (Operand.func 31), args := #[Operand.tmp 43, Operand.tmp 44], argTypes := #[25, 30] }) (by kernel_rfl)
  have hgd := op_at ho (·.guard) (x := some (8, true)) (by kernel_rfl)
  have e8 : a.eval (.tmp 39) = .bool true := haft 8 (op_at ho (fun o => o.after.any fun e => decide (e.on = 8) && Region.binds .any e) (x := true) (by kernel_rfl))
  have e12 : a.eval (.tmp 43) = .agg #[.slice A n c, .slice A' n' c'] := haft 12 (op_at ho (fun o => o.after.any fun e => decide (e.on = 12) && Region.binds .any e) (x := true) (by kernel_rfl))
  have e13 : a.eval (.tmp 44) = vm := haft 13 (op_at ho (fun o => o.after.any fun e => decide (e.on = 13) && Region.binds .any e) (x := true) (by kernel_rfl))
  refine ⟨fun j b h => (by rw [hgd] at h; cases h; exact e8), ?_⟩
  refine specs_call (R := fun v W => ap5S p A n c A' n' c' va vb vm E1 KK 14 v W) (f := 31) (args := #[.agg #[.slice A n c, .slice A' n' c'], vm]) (by simp [execOp, hop, go_sem, ev e12, ev e13]) ((h31 W hB).mono ?_)
  rintro e w' ⟨rfl, h3⟩
  exact ⟨_, rfl, rfl, h3⟩
set_option maxHeartbeats 1000000 in
theorem ap5_op15 (haft : ∀ j, (o.after.any fun e => decide (e.on = j) && Region.binds .any e) = true → ap5S p A n c A' n' c' va vb vm E1 KK j (a.eval (.tmp (ap5D j))) W) (ho : ap5Reg[15]? = some o) : ap5Ok p A n c A' n' c' va vb vm E1 KK Q a W 15 o := by
  have hop := op_at ho (·.op) (x := Op.binOp BinOp.eql 31 (Operand.tmp 42) (Operand.tmp 45) 31) (by kernel_rfl)
  have hgd := op_at ho (·.guard) (x := some (8, true)) (by kernel_rfl)
  have e8 : a.eval (.tmp 39) = .bool true := haft 8 (op_at ho (fun o => o.after.any fun e => decide (e.on = 8) && Region.binds .any e) (x := true) (by kernel_rfl))
  have e11 : ap5S p A n c A' n' c' va vb vm E1 KK 11 (a.eval (.tmp 42)) W := haft 11 (op_at ho (fun o => o.after.any fun e => decide (e.on = 11) && Region.binds .any e) (x := true) (by kernel_rfl))
  have e14 : ap5S p A n c A' n' c' va vb vm E1 KK 14 (a.eval (.tmp 45)) W := haft 14 (op_at ho (fun o => o.after.any fun e => decide (e.on = 14) && Region.binds .any e) (x := true) (by kernel_rfl))
  refine ⟨fun j b h => (by rw [hgd] at h; cases h; exact e8), ?_⟩
  have eR : a.eval (.tmp 42) = .int .i64 KK := e11
  have eQ : a.eval (.tmp 45) = .int .i64 KK := e14
  exact specs_value (R := fun v W => ap5S p A n c A' n' c' va vb vm E1 KK 15 v W) (v := .bool true) (by simp [execOp, hop, go_sem, ev eR, ev eQ]) rfl (Ext.refl W)
set_option maxHeartbeats 1000000 in
theorem ap5_op16 (haft : ∀ j, (o.after.any fun e => decide (e.on = j) && Region.binds .any e) = true → ap5S p A n c A' n' c' va vb vm E1 KK j (a.eval (.tmp (ap5D j))) W) (ho : ap5Reg[16]? = some o) : ap5Ok p A n c A' n' c' va vb vm E1 KK Q a W 16 o := by
  have hop := op_at ho (·.op) (x := Op.pick (Operand.tmp 39) (Operand.tmp 46) (Operand.const (Value.bool false))) (by kernel_rfl)
  have hgd := op_at ho (·.guard) (x := none) (by kernel_rfl)
  have e8 : a.eval (.tmp 39) = .bool true := haft 8 (op_at ho (fun o => o.after.any fun e => decide (e.on = 8) && Region.binds .any e) (x := true) (by kernel_rfl))
  have e15 : a.eval (.tmp 46) = .bool true := haft 15 (op_at ho (fun o => o.after.any fun e => decide (e.on = 15) && Region.binds .any e) (x := true) (by kernel_rfl))
  refine ⟨fun j b h => (by rw [hgd] at h; cases h), ?_⟩
  exact specs_value (R := fun v W => ap5S p A n c A' n' c' va vb vm E1 KK 16 v W) (v := .bool true) (by simp [execOp, hop, go_sem, ev e8, ev e15]) rfl (Ext.refl W)
set_option maxHeartbeats 1000000 in
theorem ap5_op17 (haft : ∀ j, (o.after.any fun e => decide (e.on = j) && Region.binds .any e) = true → ap5S p A n c A' n' c' va vb vm E1 KK j (a.eval (.tmp (ap5D j))) W) (ho : ap5Reg[17]? = some o) : ap5Ok p A n c A' n' c' va vb vm E1 KK Q a W 17 o := by
  have hop := op_at ho (·.op) (x := Op.move (Operand.tmp 47)) (by kernel_rfl)
  have hgd := op_at ho (·.guard) (x := none) (by kernel_rfl)
  have e16 : a.eval (.tmp 47) = .bool true := haft 16 (op_at ho (fun o => o.after.any fun e => decide (e.on = 16) && Region.binds .any e) (x := true) (by kernel_rfl))
  refine ⟨fun j b h => (by rw [hgd] at h; cases h), ?_⟩
  exact specs_value (R := fun v W => ap5S p A n c A' n' c' va vb vm E1 KK 17 v W) (v := .bool true) (by simp [execOp, hop, go_sem, ev e16]) rfl (Ext.refl W)
set_option maxHeartbeats 1000000 in
theorem ap5_op18 (hw1 : ∀ W, Ext V W → Calls Try.prog 16 #[] W fun e w' => e = .returned (.bool true) ∧ Ext W w') (hB : Ext V W) (haft : ∀ j, (o.after.any fun e => decide (e.on = j) && Region.binds .any e) = true → ap5S p A n c A' n' c' va vb vm E1 KK j (a.eval (.tmp (ap5D j))) W) (ho : ap5Reg[18]? = some o) : ap5Ok p A n c A' n' c' va vb vm E1 KK Q a W 18 o := by
  have hop := op_at ho (·.op) (x := Op.call { callee := Callee.value (Operand.func 16), args := #[], argTypes := #[] }) (by kernel_rfl)
  have hgd := op_at ho (·.guard) (x := some (17, true)) (by kernel_rfl)
  have e17 : a.eval (.tmp 48) = .bool true := haft 17 (op_at ho (fun o => o.after.any fun e => decide (e.on = 17) && Region.binds .any e) (x := true) (by kernel_rfl))
  refine ⟨fun j b h => (by rw [hgd] at h; cases h; exact e17), ?_⟩
  refine specs_call (R := fun v W => ap5S p A n c A' n' c' va vb vm E1 KK 18 v W) (f := 16) (args := #[]) (by simp [execOp, hop, go_sem]) ((hw1 W hB).mono ?_)
  rintro e w' ⟨rfl, h3⟩
  exact ⟨_, rfl, rfl, h3⟩
set_option maxHeartbeats 1000000 in
theorem ap5_op19 (haft : ∀ j, (o.after.any fun e => decide (e.on = j) && Region.binds .any e) = true → ap5S p A n c A' n' c' va vb vm E1 KK j (a.eval (.tmp (ap5D j))) W) (ho : ap5Reg[19]? = some o) : ap5Ok p A n c A' n' c' va vb vm E1 KK Q a W 19 o := by
  have hop := op_at ho (·.op) (x := Op.pick (Operand.tmp 48) (Operand.tmp 49) (Operand.const (Value.bool false))) (by kernel_rfl)
  have hgd := op_at ho (·.guard) (x := none) (by kernel_rfl)
  have e17 : a.eval (.tmp 48) = .bool true := haft 17 (op_at ho (fun o => o.after.any fun e => decide (e.on = 17) && Region.binds .any e) (x := true) (by kernel_rfl))
  have e18 : ap5S p A n c A' n' c' va vb vm E1 KK 18 (a.eval (.tmp 49)) W := haft 18 (op_at ho (fun o => o.after.any fun e => decide (e.on = 18) && Region.binds .any e) (x := true) (by kernel_rfl))
  refine ⟨fun j b h => (by rw [hgd] at h; cases h), ?_⟩
  have eR : a.eval (.tmp 49) = .bool true := e18
  exact specs_value (R := fun v W => ap5S p A n c A' n' c' va vb vm E1 KK 19 v W) (v := .bool true) (by simp [execOp, hop, go_sem, ev e17, ev eR]) rfl (Ext.refl W)
set_option maxHeartbeats 1000000 in
theorem ap5_op20 (haft : ∀ j, (o.after.any fun e => decide (e.on = j) && Region.binds .any e) = true → ap5S p A n c A' n' c' va vb vm E1 KK j (a.eval (.tmp (ap5D j))) W) (ho : ap5Reg[20]? = some o) : ap5Ok p A n c A' n' c' va vb vm E1 KK Q a W 20 o := by
  have hop := op_at ho (·.op) (x := Op.assign (Operand.tmp 50)) (by kernel_rfl)
  have hgd := op_at ho (·.guard) (x := none) (by kernel_rfl)
  have e19 : a.eval (.tmp 50) = .bool true := haft 19 (op_at ho (fun o => o.after.any fun e => decide (e.on = 19) && Region.binds .any e) (x := true) (by kernel_rfl))
  refine ⟨fun j b h => (by rw [hgd] at h; cases h), ?_⟩
  exact specs_value (R := fun v W => ap5S p A n c A' n' c' va vb vm E1 KK 20 v W) (v := .bool true) (by simp [execOp, hop, go_sem, ev e19]) rfl (Ext.refl W)
set_option maxRecDepth 100000 in
set_option maxHeartbeats 4000000 in
/-- Region 5 of function 4. -/
theorem ap5_wp {id : Nat} (hlen : a.tmps.size = 51) (o1 : a.eval (.tmp 1) = vm) (o2 : a.eval (.tmp 2) = .pointer (some ⟨p, 0, none⟩)) (o5 : a.eval (.tmp 5) = va) (o6 : a.eval (.tmp 6) = .int .i64 E1) (o7 : a.eval (.tmp 7) = vb) (o8 : a.eval (.tmp 8) = .int .i64 E1) (h25 : ∀ W, Ext V W → Calls Try.prog 25 #[va, vb] W fun e w' => e = .returned (.bool true) ∧ Ext W w') (q0 : ∀ W, Ext V W → W.cell? ⟨p, 0, none⟩ = some (.slice A n c)) (q1 : ∀ W, Ext V W → W.cell? ⟨p, 1, none⟩ = some (.slice A' n' c')) (h30 : ∀ W, Ext V W → Calls Try.prog 30 #[.agg #[.slice A n c, .slice A' n' c'], vm] W fun e w' => e = .returned (.int .i64 KK) ∧ Ext W w') (h31 : ∀ W, Ext V W → Calls Try.prog 31 #[.agg #[.slice A n c, .slice A' n' c'], vm] W fun e w' => e = .returned (.int .i64 KK) ∧ Ext W w') (hw1 : ∀ W, Ext V W → Calls Try.prog 16 #[] W fun e w' => e = .returned (.bool true) ∧ Ext W w') (K : (∀ W v2 v11 v14 v18, Ext V W → ap5S p A n c A' n' c' va vb vm E1 KK 2 v2 W → ap5S p A n c A' n' c' va vb vm E1 KK 11 v11 W → ap5S p A n c A' n' c' va vb vm E1 KK 14 v14 W → ap5S p A n c A' n' c' va vb vm E1 KK 18 v18 W → wpList Try.prog ap5Reg Q (ap5Reg.toList.drop 21) (puts a [(31, va), (32, vb), (33, v2), (34, .bool true), (35, .int .i64 E1), (36, .int .i64 E1), (37, .bool true), (38, .bool true), (39, .bool true), (40, .agg #[.slice A n c, .slice A' n' c']), (41, vm), (42, v11), (43, .agg #[.slice A n c, .slice A' n' c']), (44, vm), (45, v14), (46, .bool true), (47, .bool true), (48, .bool true), (49, v18), (50, .bool true), (4, .bool true)]) W)) : (Code.region id ap5Reg true).wp Try.prog Q a V := by
  refine wp_region_specs_free (ops := ap5Reg) 21 (ap5S p A n c A' n' c' va vb vm E1 KK) (Ext V) (by kernel_rfl) (by rw [hlen]; kernel_rfl) (by kernel_rfl) ⟨rfl, rfl, rfl, Nat.le_refl _, fun _ _ => rfl⟩ (fun _ _ h e => h.trans e) ap5S_ext ap5D (by kernel_rfl) ?_ ?_
  · intro i o hi ho a' W hB hsz hold haft
    match i, hi with
    | 0, _ => exact ap5_op0 ((hold 5 (by kernel_rfl)).trans o5) ho
    | 1, _ => exact ap5_op1 ((hold 7 (by kernel_rfl)).trans o7) ho
    | 2, _ => exact ap5_op2 h25 hB haft ho
    | 3, _ => exact ap5_op3 haft ho
    | 4, _ => exact ap5_op4 ((hold 6 (by kernel_rfl)).trans o6) haft ho
    | 5, _ => exact ap5_op5 ((hold 8 (by kernel_rfl)).trans o8) haft ho
    | 6, _ => exact ap5_op6 haft ho
    | 7, _ => exact ap5_op7 haft ho
    | 8, _ => exact ap5_op8 haft ho
    | 9, _ => exact ap5_op9 ((hold 2 (by kernel_rfl)).trans o2) q0 q1 hB haft ho
    | 10, _ => exact ap5_op10 ((hold 1 (by kernel_rfl)).trans o1) haft ho
    | 11, _ => exact ap5_op11 h30 hB haft ho
    | 12, _ => exact ap5_op12 ((hold 2 (by kernel_rfl)).trans o2) q0 q1 hB haft ho
    | 13, _ => exact ap5_op13 ((hold 1 (by kernel_rfl)).trans o1) haft ho
    | 14, _ => exact ap5_op14 h31 hB haft ho
    | 15, _ => exact ap5_op15 haft ho
    | 16, _ => exact ap5_op16 haft ho
    | 17, _ => exact ap5_op17 haft ho
    | 18, _ => exact ap5_op18 hw1 hB haft ho
    | 19, _ => exact ap5_op19 haft ho
    | 20, _ => exact ap5_op20 haft ho
    | m + 21, h => exact absurd h (by omega)
  · intro a1 W hB hsz hdf hold hS
    obtain ⟨v2, g2⟩ : ∃ v, v = a1.eval (.tmp 33) := ⟨_, rfl⟩
    obtain ⟨v11, g11⟩ : ∃ v, v = a1.eval (.tmp 42) := ⟨_, rfl⟩
    obtain ⟨v14, g14⟩ : ∃ v, v = a1.eval (.tmp 45) := ⟨_, rfl⟩
    obtain ⟨v18, g18⟩ : ∃ v, v = a1.eval (.tmp 49) := ⟨_, rfl⟩
    have hall : ∀ z, z ∈ ([(31, va), (32, vb), (33, v2), (34, .bool true), (35, .int .i64 E1), (36, .int .i64 E1), (37, .bool true), (38, .bool true), (39, .bool true), (40, .agg #[.slice A n c, .slice A' n' c']), (41, vm), (42, v11), (43, .agg #[.slice A n c, .slice A' n' c']), (44, vm), (45, v14), (46, .bool true), (47, .bool true), (48, .bool true), (49, v18), (50, .bool true), (4, .bool true)] : List (Tmp × Value)) → z.1 < a.tmps.size ∧ a1.eval (.tmp z.1) = z.2 := by
      intro z hz
      rw [hlen]
      simp only [List.mem_cons, List.not_mem_nil, or_false] at hz
      rcases hz with rfl | rfl | rfl | rfl | rfl | rfl | rfl | rfl | rfl | rfl | rfl | rfl | rfl | rfl | rfl | rfl | rfl | rfl | rfl | rfl | rfl
      · exact ⟨(show (31 : Nat) < 51 by omega), hS 0 (by omega)⟩
      · exact ⟨(show (32 : Nat) < 51 by omega), hS 1 (by omega)⟩
      · exact ⟨(show (33 : Nat) < 51 by omega), g2.symm⟩
      · exact ⟨(show (34 : Nat) < 51 by omega), hS 3 (by omega)⟩
      · exact ⟨(show (35 : Nat) < 51 by omega), hS 4 (by omega)⟩
      · exact ⟨(show (36 : Nat) < 51 by omega), hS 5 (by omega)⟩
      · exact ⟨(show (37 : Nat) < 51 by omega), hS 6 (by omega)⟩
      · exact ⟨(show (38 : Nat) < 51 by omega), hS 7 (by omega)⟩
      · exact ⟨(show (39 : Nat) < 51 by omega), hS 8 (by omega)⟩
      · exact ⟨(show (40 : Nat) < 51 by omega), hS 9 (by omega)⟩
      · exact ⟨(show (41 : Nat) < 51 by omega), hS 10 (by omega)⟩
      · exact ⟨(show (42 : Nat) < 51 by omega), g11.symm⟩
      · exact ⟨(show (43 : Nat) < 51 by omega), hS 12 (by omega)⟩
      · exact ⟨(show (44 : Nat) < 51 by omega), hS 13 (by omega)⟩
      · exact ⟨(show (45 : Nat) < 51 by omega), g14.symm⟩
      · exact ⟨(show (46 : Nat) < 51 by omega), hS 15 (by omega)⟩
      · exact ⟨(show (47 : Nat) < 51 by omega), hS 16 (by omega)⟩
      · exact ⟨(show (48 : Nat) < 51 by omega), hS 17 (by omega)⟩
      · exact ⟨(show (49 : Nat) < 51 by omega), g18.symm⟩
      · exact ⟨(show (50 : Nat) < 51 by omega), hS 19 (by omega)⟩
      · exact ⟨(show (4 : Nat) < 51 by omega), hS 20 (by omega)⟩
    have ha := act_puts hsz hdf hall (fun t ht => hold t (all_ne_of (l := [(31, va), (32, vb), (33, v2), (34, .bool true), (35, .int .i64 E1), (36, .int .i64 E1), (37, .bool true), (38, .bool true), (39, .bool true), (40, .agg #[.slice A n c, .slice A' n' c']), (41, vm), (42, v11), (43, .agg #[.slice A n c, .slice A' n' c']), (44, vm), (45, v14), (46, .bool true), (47, .bool true), (48, .bool true), (49, v18), (50, .bool true), (4, .bool true)]) (by kernel_rfl) ht))
    rw [ha]
    exact K W v2 v11 v14 v18 hB (by rw [g2]; exact hS 2 (by omega)) (by rw [g11]; exact hS 11 (by omega)) (by rw [g14]; exact hS 14 (by omega)) (by rw [g18]; exact hS 18 (by omega))
end

theorem post_apart2 {cs ms : List (Int × Int)} {w w' : World} {e : Ending} (h : Ext w w' ∧ ∃ v, e = .returned (.tuple #[v, .int .i64 (sheetErr cs ms)]) ∧ LsAt (if sheetErr cs ms = 0 then apartTo cs ms ms.length else []) v w') :
    Ext w w' ∧ ∃ A m c, e = .returned (.tuple #[.slice A m c, .int .i64 (sheetErr cs ms)]) ∧ m = (if sheetErr cs ms = 0 then apartTo cs ms ms.length else []).length ∧ Held w' w'.heap.size 1 encN A (if sheetErr cs ms = 0 then apartTo cs ms ms.length else []) := by
  obtain ⟨hE, v, rfl, A, c, rfl, _, _, hh⟩ := h
  exact ⟨hE, A, _, c, rfl, rfl, hh⟩
theorem apart_len (cs ms : List (Int × Int)) : (if sheetErr cs ms = 0 then apartTo cs ms ms.length else []).length ≤ 12 := by
  by_cases h0 : sheetErr cs ms = 0
  · rw [if_pos h0]
    have := (apartTo_ok cs ms ms.length).2.2.2
    have := (sheet_ok h0).1.2.2
    omega
  · rw [if_neg h0]; simp

set_option maxRecDepth 100000 in
set_option maxHeartbeats 8000000 in
theorem aparts_any {A : Option Addr} {n c : Nat} {A' : Option Addr} {n' c' : Nat} {cs ms : List (Int × Int)} {w : World} (hb : IsSheet w w.heap.size A n c A' n' c' cs ms)
    (A1 : Option Addr) (k1 c1 : Nat) (xs : List Int) (hk1 : k1 = xs.length) (hm1 : k1 ≤ 9223372036854775807) (hh1 : Held w w.heap.size 1 encI A1 xs) :
    Calls Try.prog 4 #[.agg #[.slice A n c, .slice A' n' c'], .slice A1 k1 c1] w fun e w' => e = .returned (.bool true) ∧ Ext w w' := by
  have hX0 := SheetAt.new hb
  have hE0 : Ext w (w.alloc (.cells #[.slice A n c, .slice A' n' c'] 25)) := ext_alloc w _
  have H1 := Lib.hid ((hh1.kept hE0 (Nat.le_refl _)).wider hE0.size)
  have HK1 := Lib.hid hk1
  clear hb hk1 hh1
  go_enter Try.func4, Try.ntmps4
  go_upto_region 1 with fail
  obtain ⟨w0, hw0⟩ : ∃ w0, w.alloc (.cells #[.slice A n c, .slice A' n' c'] 25) = w0 := ⟨_, rfl⟩
  rw [hw0] at hX0 hE0 H1
  rw [hw0]
  obtain ⟨p, hp⟩ : ∃ p, w.heap.size = p := ⟨_, rfl⟩
  rw [hp] at hX0
  rw [hp]
  have HX := Lib.hid hX0
  have HE := Lib.hid hE0
  clear hw0 hp hX0 hE0
  obtain ⟨q0, q1⟩ := HX.out.cells
  have h15 := great_any A A' n c n' c' w0
  obtain ⟨gr, hgr⟩ : ∃ gr, (decide (12 < n) || decide (18 < n')) = gr := ⟨_, rfl⟩
  rw [hgr] at h15
  clear hgr
  go_wp2_with fail
  refine h15.mono ?_
  rintro e w1 ⟨rfl, e1⟩
  have e1 : Ext w0 w1 := e1
  have HX := Lib.hid (HX.out.ext e1)
  have HE := Lib.hid (HE.out.trans e1)
  have H1 := Lib.hid (Held.ext H1.out e1)
  clear e1 h15 q0 q1
  cases gr with
  | true =>
    go_wp2_with fail
    refine (works_any _).mono ?_
    rintro e w9 ⟨rfl, e9⟩
    have HE := Lib.hid (HE.out.trans e9)
    clear e9
    go_wp2
    go_ret
    exact ⟨rfl, HE.out⟩
  | false =>
    obtain ⟨q0, q1⟩ := HX.out.cells
    have h27 := wide_any HX.out.sheet
    obtain ⟨wd, hwd⟩ : ∃ wd, wideB cs ms = wd := ⟨_, rfl⟩
    rw [hwd] at h27
    clear hwd
    go_wp2_with fail
    refine h27.mono ?_
    rintro e w2 ⟨rfl, e2⟩
    have HX := Lib.hid (HX.out.ext e2)
    have HE := Lib.hid (HE.out.trans e2)
    have H1 := Lib.hid (Held.ext H1.out e2)
    clear e2 h27 q0 q1
    cases wd with
    | true =>
      go_wp2_with fail
      refine (works_any _).mono ?_
      rintro e w9 ⟨rfl, e9⟩
      have HE := Lib.hid (HE.out.trans e9)
      clear e9
      go_wp2
      go_ret
      exact ⟨rfl, HE.out⟩
    | false =>
      by_cases hbig : 20 < (k1 : Int)
      · go_wp2_with fail
        refine (works_any _).mono ?_
        rintro e w9 ⟨rfl, e9⟩
        have HE := Lib.hid (HE.out.trans e9)
        clear e9
        go_wp2
        go_ret
        exact ⟨rfl, HE.out⟩
      · obtain ⟨q0, q1⟩ := HX.out.cells
        have h28 := apart_any HX.out.sheet
        go_wp2_with fail
        refine h28.mono ?_
        intro e w3 hp2
        obtain ⟨e3, A3, m3, c3, rfl, hm3, hh3⟩ := post_apart2 hp2
        have HX := Lib.hid (HX.out.ext e3)
        have HE := Lib.hid (HE.out.trans e3)
        have H1 := Lib.hid (Held.ext H1.out e3)
        have H3 := Lib.hid hh3
        have HM3 := Lib.hid hm3
        clear e3 h28 q0 q1 hp2 hh3 hm3
        obtain ⟨q0, q1⟩ := HX.out.cells
        have h29 := apt29_any HX.out.sheet
        go_wp2_with fail
        refine h29.mono ?_
        rintro e w4 ⟨e4, A4, m4, c4, rfl, hm4, hh4⟩
        have HX := Lib.hid (HX.out.ext e4)
        have HE := Lib.hid (HE.out.trans e4)
        have H1 := Lib.hid (Held.ext H1.out e4)
        have H3 := Lib.hid (Held.ext H3.out e4)
        have H4 := Lib.hid hh4
        have HM4 := Lib.hid hm4
        have hlen := apart_len cs ms
        obtain ⟨LL, hLL⟩ : ∃ LL, (if sheetErr cs ms = 0 then apartTo cs ms ms.length else []) = LL := ⟨_, rfl⟩
        rw [hLL] at H3 H4 HM3 HM4 hlen
        have HLN := Lib.hid hlen
        have H3 := Lib.hid (nums_of_nats H3.out)
        have H4 := Lib.hid (nums_of_nats H4.out)
        obtain ⟨KK, hK⟩ : ∃ KK, apartErr cs ms xs = KK := ⟨_, rfl⟩
        have HK := Lib.hid hK
        clear e4 h29 q0 q1 hh4 hm4 hLL hK hlen
        go_upto_region 5 with fail
        refine ap5_wp (p := p) (A := A) (n := n) (c := c) (A' := A') (n' := n') (c' := c') (va := .slice A3 m3 c3) (vb := .slice A4 m4 c4) (vm := .slice A1 k1 c1) (E1 := sheetErr cs ms) (KK := KK) rfl rfl rfl rfl rfl rfl rfl
          (fun W hW => (ints_any A3 A4 m3 c3 m4 c4 _ _ W (by rw [HM3.out, List.length_map]) (by rw [HM4.out, List.length_map]) (by have := HM3.out; have := HLN.out; omega) (by have := HM4.out; have := HLN.out; omega) (Held.ext H3.out hW) (Held.ext H4.out hW)).mono ?_)
          (fun W hW => (HX.out.ext hW).cells.1) (fun W hW => (HX.out.ext hW).cells.2)
          (fun W hW => by rw [← HK.out]; exact checkApart_any (HX.out.ext hW).sheet A1 k1 c1 xs HK1.out hm1 (Held.ext H1.out hW))
          (fun W hW => by rw [← HK.out]; exact refApart_any (HX.out.ext hW).sheet A1 k1 c1 xs HK1.out hm1 (Held.ext H1.out hW))
          (fun W hW => works_any W) ?_
        · rintro e w' ⟨rfl, hx⟩
          exact ⟨by rw [decide_eq_true rfl], hx⟩
        intro w8 v2 v11 v14 v18 e8 _ _ _ _
        have hdr : ap5Reg.toList.drop 21 = [] := List.drop_eq_nil_of_le (by rw [Array.length_toList]; exact Nat.le_of_eq (by kernel_rfl))
        rw [hdr]
        simp only [wpList, puts, List.foldl_cons, List.foldl_nil, Act.put, List.setIfInBounds_toArray, List.set_cons_succ, List.set_cons_zero]
        have HF := Lib.hid (HE.out.trans e8)
        clear hdr e8
        go_wp2
        go_ret
        exact ⟨rfl, HF.out⟩
end Go.Proofs.Ytchmdkdiilaejaa
