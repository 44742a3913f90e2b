/- Texts of the package drop, joined: Round, Holding, BesideIter, Listed, Rising. -/
import Derived.Test.YtckndnaohggmhaaC9
import Derived.StillTail
import Derived.StillTactics
import Derived.OrdersIn
import Derived.Deep.QuietTactic
import Derived.BigQuiet
/- A region that draws its order, whose operations but the last few only read and call quietly, within a round of a range over a function, at the wide fence: walked once, in the order of the text. -/
namespace Go.Proofs.Ytckndnaohggmhaa
open Go.RowKit Go.Shelf

section
variable {P : Program} {ops : Array Oper} {l0 : Nat} {n : Nat}

theorem rows_round {row : String} {args : Array Value} {w : World} {R : Value → World → Prop} (h : Rows P row args w R) : RowsIn (Fence.wide.inRound l0) n P row args w R :=
  fun c cs _ => let ⟨v, w', r, s⟩ := h c cs; ⟨v, w', r, stepsIn_wide.2 s⟩

theorem oper_round {o : Oper} (hnd : ∀ c, o.op ≠ .defer c) {a : Act} {w : World} {K K' : Act → World → Prop} {Q Q' : Exit → Act → World → Prop} (hK : ∀ a w, K a w → K' a w) (hQ : ∀ c a w, Q (.panic c) a w → Q' (.panic c) a w) (hlet : ¬ LetsOut Q)
    (h : o.wp P a w K Q) : o.wpIn (Fence.wide.inRound l0) n P a w K' Q' := by
  unfold Oper.wp at h
  unfold Oper.wpIn
  refine ⟨fun _ _ => trivial, ?_⟩
  rw [Oper.semAt_plain _ _ _ hnd]
  cases hr : (execOp a.eval o).run P w with
  | ok v w1 =>
    rw [hr] at h
    cases v with
    | value v => exact hK _ _ h
    | skip => exact hK _ _ h
    | defer d => exact hK _ _ h
    | enter f args =>
      have h2 : Calls P f args w1 _ := h
      refine ⟨fun hd => by simp [Fence.wide] at hd, ?_⟩
      refine CallsIn.inRound l0 (callsIn_wide.2 (h2.mono ?_))
      intro e w2 he
      cases e with
      | returned v => exact hK _ _ he
      | panicked c => exact hQ _ _ _ he
      | outgrown => exact absurd he hlet
    | row row args =>
      exact ⟨fun hd => by simp [Fence.wide] at hd, rows_round (Rows.mono h fun v w2 he => hK _ _ he)⟩
    | round _ _ _ _ _ => exact h.elim
    | _ => first | exact h.elim | exact hK _ _ h
  | halt x w1 =>
    rw [hr] at h
    cases x with
    | panic v => exact hQ _ _ _ h
    | _ => exact h.elim

theorem any_round {md : Region.Mode} {Q Q' : Exit → Act → World → Prop} (hnd : ∀ (i : Nat) (o : Oper), ops[i]? = some o → ∀ c, o.op ≠ .defer c) (hN : ∀ a w, Q .normal a w → Q' .normal a w) (hQ : ∀ c a w, Q (.panic c) a w → Q' (.panic c) a w) (hlet : ¬ LetsOut Q) :
    ∀ (f : Nat) (listed : Array Bool) (a : Act) (w : World), wpAny P md ops Q f listed a w → wpAnyIn (Fence.wide.inRound l0) n P md ops Q' f listed a w
  | 0, _, _, _, h => ⟨h.1, hN _ _ h.2⟩
  | f + 1, listed, a, w, h => ⟨fun h0 => hN _ _ (h.1 h0), fun i hi => by
      have h2 := h.2 i hi
      unfold wpOp at h2
      unfold wpOpIn
      cases ho : ops[i]? with
      | none => rw [ho] at h2; exact any_round hnd hN hQ hlet f _ _ _ h2
      | some o =>
        rw [ho] at h2
        simp only at h2 ⊢
        split
        · rename_i hw
          rw [if_pos hw] at h2
          rcases h2 with h2 | h2
          · exact oper_round (hnd i o ho) (fun a w => any_round hnd hN hQ hlet f _ a w) hQ hlet h2
          · exact absurd h2.2 hlet
        · rename_i hw
          rw [if_neg hw] at h2
          exact ⟨fun _ _ => trivial, any_round hnd hN hQ hlet f _ _ _ h2⟩⟩

theorem any_still_tail {Q : Exit → Act → World → Prop} {a : Act} {w : World} {l : List Oper} (k : Nat) (hB : Region.lexTailB .any l.toArray k = true)
    (h : wpStill P l.toArray w (fun a' => wpList P l.toArray Q (l.drop k) a' w) (l.take k) a) : wpAny P .any l.toArray Q l.length (Array.replicate l.length false) a w := by
  simp only [Region.lexTailB, Bool.and_eq_true, decide_eq_true_eq] at hB
  obtain ⟨⟨⟨⟨b1, b2⟩, b3⟩, b4⟩, b5⟩ := hB
  have hk : k < l.length := by simpa using b2
  have ht : (l.take k).length = k := by rw [List.length_take]; omega
  have hd : (l.drop k).length = l.toArray.size - k := by simp
  have key := wpAnyL_lex (md := .any) (g := l.toArray.size - k) b1 b3 b4 b2 (l.take k) 0 (Array.replicate l.toArray.size false) a
    (fun j hj => by rw [ht] at hj; simp [hj]) (by omega)
    ⟨by simp, fun j oj _ hl => absurd hl (by rw [getD_replicate_false]; simp), fun t _ hts => getD_in (by simpa using hts) (getD_replicate_false _ _)⟩
    (by rw [ht]; exact b5) h
  have res := wpAny_of_head (Q' := Q) (g := l.toArray.size - k) (fun listed a' hL => by
    have hs := wpAny_of_seq (md := .any) (Q' := Q) (l.drop k) k listed a' w (fun j => by simp [List.getElem?_drop]) (by rw [hd]; exact hL.1) hL.2
    rw [hd] at hs
    exact hs) _ _ _ key
  rw [ht, show k + (l.toArray.size - k) = l.length from by simp; omega] at res
  simpa using res

/-- THE LAW: the head is walked once; behind it the tail, in the world with one draw more. -/
theorem round_still_tail {id : Nat} {Q : Exit → Act → World → Prop} {a : Act} {w : World} {l : List Oper} (k : Nat) (hm : P.follows .mixedOrders = true) (hB : Region.lexTailB .any l.toArray k = true) (hnd : l.all (fun o => match o.op with | .defer _ => false | _ => true) = true)
    (h : wpStill P l.toArray w.drew (fun a' => wpList P l.toArray (fun e a w => e = .normal ∧ Q .normal a w) (l.drop k) a' w.drew) (l.take k) a) : (Code.region id l.toArray true).wpIn (Fence.wide.inRound l0) n P Q a w := by
  refine wpIn_region_any hm ?_
  have h2 := any_still_tail (w := w.drew) k hB h
  have h3 := any_round (l0 := l0) (n := n) (Q' := Q) (fun i o ho c hc => by
    have hmem : o ∈ l := by
      have : l[i]? = some o := by simpa using ho
      exact List.mem_of_getElem? this
    have := List.all_eq_true.1 hnd o hmem
    rw [hc] at this
    simp at this) (fun a w hq => hq.2) (fun c a w hq => absurd hq.1 (by simp)) (fun ⟨a, w, hq⟩ => absurd hq.1 (by simp)) _ _ _ _ h2
  simpa using h3

theorem still_val {w : World} {Q : Act → Prop} {a : Act} {o : Oper} {rest : List Oper} (v : Value) (hw : Region.wanted o (yielded ops a.tmps) = true) (hr : (execOp a.eval o).run P w = .ok (.value v) w) (h : wpStill P ops w Q rest (a.put o.dst v)) : wpStill P ops w Q (o :: rest) a := by
  unfold wpStill
  rw [if_pos hw]
  unfold Oper.still
  rw [hr]
  exact ⟨rfl, h⟩
theorem still_skip {w : World} {Q : Act → Prop} {a : Act} {o : Oper} {rest : List Oper} (hw : Region.wanted o (yielded ops a.tmps) = false) (h : wpStill P ops w Q rest (a.put o.dst undef)) : wpStill P ops w Q (o :: rest) a := by
  unfold wpStill
  rw [if_neg (by rw [hw]; simp)]
  exact h
theorem still_calls {w : World} {Q : Act → Prop} {a : Act} {o : Oper} {rest : List Oper} (f : Nat) (args : Array Value) (v : Value) (hw : Region.wanted o (yielded ops a.tmps) = true) (hr : (execOp a.eval o).run P w = .ok (.enter f args) w) (hc : Calls P f args w fun e w' => e = .returned v ∧ w' = w) (h : wpStill P ops w Q rest (a.put o.dst v)) : wpStill P ops w Q (o :: rest) a := by
  unfold wpStill
  rw [if_pos hw]
  unfold Oper.still
  rw [hr]
  exact ⟨rfl, v, hc, h⟩
end
end Go.Proofs.Ytckndnaohggmhaa

/- holding: the table of which places hold together. -/
namespace Go.Proofs.Ytckndnaohggmhaa
open Go.RowKit Go.Shelf

attribute [local go_sem] Oper.semAt_some
attribute [local irreducible] matCells

/-- Whether the i-th place and the j-th one of m hold together. -/
def holdB (Wd : Int) (ss : List (Int × Int)) (sz : Nat → Int × Int) (m : Nat) (sure : Bool) (i j : Nat) : Bool :=
  decide (j < m) && !decide (i = j) && (decide (kindOf Wd ss sz ((i : Int) - 2) ((j : Int) - 2) = 2) || (decide (kindOf Wd ss sz ((i : Int) - 2) ((j : Int) - 2) = 1) && !sure))
/-- The table when the rows of pre are filled. -/
def matOf {m : Nat} (hold : Nat → Nat → Bool) (pre : List (Fin m)) (i j : Nat) : Bool := decide (i ∈ pre.map (·.val)) && hold i j
/-- .. and of the row x the cells of pre'. -/
def matOf2 {m : Nat} (hold : Nat → Nat → Bool) (pre : List (Fin m)) (x : Fin m) (pre' : List (Fin m)) (i j : Nat) : Bool := (decide (i ∈ pre.map (·.val)) || (decide (i = x.val) && decide (j ∈ pre'.map (·.val)))) && hold i j

set_option maxHeartbeats 400000 in
theorem at_pl (k : Nat) (w : World) (hk : k ≤ 1000) : Calls Try.prog 95 #[.int .i64 ((k : Int) - 2)] w fun e w' => e = .returned (.int .i64 (k : Int)) ∧ w' = w := by
  have := at_any ((k : Int) - 2) w (by omega) (by omega)
  rw [show (k : Int) - 2 + 2 = k from by omega] at this
  exact this

theorem keepsIn_alloc {S : Nat → Prop} {W : World} (hS : ∀ b, S b → b < W.heap.size) (o : Obj) : KeepsIn S W (W.alloc o) := fun b hb => by
  show (W.heap.push o)[b]? = _
  rw [Array.getElem?_push, if_neg (by have := hS b hb; omega)]
theorem ownFrom_keepsIn {β : Type} {S : Nat → Prop} {B : Nat} {w₀ : World} (hS : ∀ b, S b → b < w₀.heap.size ∧ b < B) : OwnFrom B (fun (_ : β) W => KeepsIn S w₀ W ∧ w₀.heap.size ≤ W.heap.size) :=
  fun _ X Y row hs hg hr => ⟨fun b hb => (hg.block b (Nat.lt_of_lt_of_le (hS b hb).1 hs.2) (fun e => by have := (hr b e.symm).1; have := (hS b hb).2; omega)).trans (hs.1 b hb), Nat.le_trans hs.2 hg.size⟩
theorem row_own {β : Type} (b : Nat) (t : TypeId) (cs : β → Array Value) : Own (fun s W => W.heap[b]? = some (.cells (cs s) t (0, 0))) := fun _ _ _ _ hs hg hr => heap_kept hs hg hr
theorem boxed_below {W W' : World} {b C : Nat} {t : TypeId} {v : Value} (h : Boxed W b t v) (hb : Below C W W') (hC : b < C) : Boxed W' b t v := (hb.block b hC).trans h

theorem heap_set_other (W : World) (p o b : Nat) (v : Value) (hne : b ≠ p) : (W.setCell ⟨p, o, none⟩ v).heap[b]? = W.heap[b]? := by
  simp only [World.setCell]
  rw [Array.getElem?_modify, if_neg (fun e => hne e.symm)]
theorem keepsIn_set {S : Nat → Prop} {W : World} {p o : Nat} {v : Value} (hS : ∀ b, S b → b ≠ p) : KeepsIn S W (W.setCell ⟨p, o, none⟩ v) := fun b hb => heap_set_other W p o b v (hS b hb)

section
variable {w : World} {B g : Nat} {Wd : Int} {A : Option Addr} {n c : Nat} {A' : Option Addr} {n' c' : Nat} {ss : List (Int × Int)} {ds : List (Int × Int × Int)} {sz : Nat → Int × Int}

set_option maxRecDepth 100000 in
set_option maxHeartbeats 4000000 in
theorem holding_any (sure : Bool) (h : IsSized w w.heap.size g Wd A n c A' n' c' ss ds sz) :
    Calls Try.prog 88 #[.pointer (some ⟨g, 0, none⟩), .bool sure] w fun e w' => ∃ b, e = .returned (.pointer (some ⟨b, 0, none⟩)) ∧ w'.heap[b]? = some (.cells (matCells (matOf (holdB Wd ss sz (n + 2) sure) (List.finRange (n + 2)))) 135 (0, 0)) ∧ Below w.heap.size w w' := by
  obtain ⟨hold, hhold⟩ : ∃ hold, holdB Wd ss sz (n + 2) sure = hold := ⟨_, rfl⟩
  rw [hhold]
  have HH := Lib.hid hhold
  clear hhold
  refine (callsIn_wide (n := 12)).1 ?_
  have hn10 := h.few.1
  have hg := h.hg
  refine callsIn_of_wp_marks Try.func88 rfl trivial ?_ rfl
  simp only [Try.ntmps88, List.size_toArray, List.length_cons, List.length_nil, Nat.reduceAdd, Nat.reduceSub, Array.replicate_succ, Array.replicate_zero, List.push_toArray, List.append_toArray, List.nil_append, List.cons_append]
  gi_wp2_with (first | refine wpListIn_alloc135 rfl rfl ?_ | (refine ⟨trivial, ?_⟩; gi_at_call 101; refine (callsIn_wide.2 (places_any g _)).mono ?_; rintro e w' ⟨rfl, rfl⟩))
  have hB0 : Below w.heap.size w (((((w.alloc (.cells #[.pointer (some ⟨g, 0, none⟩)] 126)).alloc (.cells #[.bool sure] 4)).alloc (.cells Z135 135)).alloc (.cells #[.pointer (some ⟨w.heap.size + 1 + 1, 0, none⟩)] 108)).alloc (.cells #[.pointer (some ⟨g, 0, none⟩)] 126)) :=
    (((((Below.refl _ w).alloc (Nat.le_refl _) _).alloc (by simp) _).alloc (by simp; omega) _).alloc (by simp; omega) _).alloc (by simp; omega) _
  have dz : (((((w.alloc (.cells #[.pointer (some ⟨g, 0, none⟩)] 126)).alloc (.cells #[.bool sure] 4)).alloc (.cells Z135 135)).alloc (.cells #[.pointer (some ⟨w.heap.size + 1 + 1, 0, none⟩)] 108)).alloc (.cells #[.pointer (some ⟨g, 0, none⟩)] 126)).heap.size = w.heap.size + 5 := by simp
  have b0 : Boxed (((((w.alloc (.cells #[.pointer (some ⟨g, 0, none⟩)] 126)).alloc (.cells #[.bool sure] 4)).alloc (.cells Z135 135)).alloc (.cells #[.pointer (some ⟨w.heap.size + 1 + 1, 0, none⟩)] 108)).alloc (.cells #[.pointer (some ⟨g, 0, none⟩)] 126)) w.heap.size 126 (.pointer (some ⟨g, 0, none⟩)) := ((((Boxed.new w 126 _).alloc _).alloc _).alloc _).alloc _
  have b1 : Boxed (((((w.alloc (.cells #[.pointer (some ⟨g, 0, none⟩)] 126)).alloc (.cells #[.bool sure] 4)).alloc (.cells Z135 135)).alloc (.cells #[.pointer (some ⟨w.heap.size + 1 + 1, 0, none⟩)] 108)).alloc (.cells #[.pointer (some ⟨g, 0, none⟩)] 126)) (w.heap.size + 1) 4 (.bool sure) := row_alloc _ _ _ _ (row_alloc _ _ _ _ (row_alloc _ _ _ _ (row_last _ _ _ (by simp))))
  have b2 : (((((w.alloc (.cells #[.pointer (some ⟨g, 0, none⟩)] 126)).alloc (.cells #[.bool sure] 4)).alloc (.cells Z135 135)).alloc (.cells #[.pointer (some ⟨w.heap.size + 1 + 1, 0, none⟩)] 108)).alloc (.cells #[.pointer (some ⟨g, 0, none⟩)] 126)).heap[w.heap.size + 1 + 1]? = some (.cells Z135 135 (0, 0)) := row_alloc _ _ _ _ (row_alloc _ _ _ _ (row_last _ _ _ (by simp)))
  have b3 : Boxed (((((w.alloc (.cells #[.pointer (some ⟨g, 0, none⟩)] 126)).alloc (.cells #[.bool sure] 4)).alloc (.cells Z135 135)).alloc (.cells #[.pointer (some ⟨w.heap.size + 1 + 1, 0, none⟩)] 108)).alloc (.cells #[.pointer (some ⟨g, 0, none⟩)] 126)) (w.heap.size + 1 + 1 + 1) 108 (.pointer (some ⟨w.heap.size + 1 + 1, 0, none⟩)) := row_alloc _ _ _ _ (row_last _ _ _ (by simp))
  have b4 : Boxed (((((w.alloc (.cells #[.pointer (some ⟨g, 0, none⟩)] 126)).alloc (.cells #[.bool sure] 4)).alloc (.cells Z135 135)).alloc (.cells #[.pointer (some ⟨w.heap.size + 1 + 1, 0, none⟩)] 108)).alloc (.cells #[.pointer (some ⟨g, 0, none⟩)] 126)) (w.heap.size + 1 + 1 + 1 + 1) 126 (.pointer (some ⟨g, 0, none⟩)) := row_last _ _ _ (by simp)
  obtain ⟨W0, hW0⟩ : ∃ W0, (((((w.alloc (.cells #[.pointer (some ⟨g, 0, none⟩)] 126)).alloc (.cells #[.bool sure] 4)).alloc (.cells Z135 135)).alloc (.cells #[.pointer (some ⟨w.heap.size + 1 + 1, 0, none⟩)] 108)).alloc (.cells #[.pointer (some ⟨g, 0, none⟩)] 126)) = W0 := ⟨_, rfl⟩
  rw [hW0] at hB0 dz b0 b1 b2 b3 b4 ⊢
  clear hW0
  have hZ : Z135 = matCells (matOf (m := n + 2) hold []) := matCells_congr fun i j _ _ => by simp [matOf]
  rw [hZ] at b2
  clear hZ
  have hS0 := (h.kept hB0 (Nat.le_refl _)).wider hB0.size
  refine wpIn_rangeFunc_ownH rfl (by omega) (gf := 123) (lb := #[.pointer (some ⟨w.heap.size + 1 + 1 + 1 + 1, 0, none⟩)]) rfl trivial enters123
    (places_stops (12 - 1) (by omega) (w.heap.size + 1 + 1 + 1 + 1) g (fun b => b = w.heap.size + 1 + 1 + 1 + 1 ∨ b = g) A n c hn10 (.inl rfl) (.inr rfl) W0 (fun b hb => by omega) b4.cell hS0.h1) keepsIn_t (keepsIn_b (fun b hb => by omega)) (Below.refl _ _) (fun _ => rfl)
    (fun pre W => (W.heap[w.heap.size + 1 + 1]? = some (.cells (matCells (matOf hold pre)) 135 (0, 0)) ∧ Boxed W w.heap.size 126 (.pointer (some ⟨g, 0, none⟩)) ∧ Boxed W (w.heap.size + 1) 4 (.bool sure) ∧ Boxed W (w.heap.size + 1 + 1 + 1) 108 (.pointer (some ⟨w.heap.size + 1 + 1, 0, none⟩)) ∧ Boxed W (w.heap.size + 1 + 1 + 1 + 1) 126 (.pointer (some ⟨g, 0, none⟩))) ∧ Below w.heap.size w W)
    (fun _ _ _ => False)
    (OwnFrom.and (OwnFrom.and (Own.from (row_own _ _ _) _) (OwnFrom.and (Own.from (boxed_own _ _ _) _) (OwnFrom.and (Own.from (boxed_own _ _ _) _) (OwnFrom.and (Own.from (boxed_own _ _ _) _) (Own.from (boxed_own _ _ _) _))))) (ownFrom_below (Nat.le_refl _) (by omega)))
    (fun _ _ _ _ _ hs _ _ => hs)
    ⟨⟨b2, b0, b1, b3, b4⟩, hB0⟩
    (fun x a' W => ∃ Bx, w.heap.size + 5 ≤ Bx ∧ Boxed W Bx 3 (.int .i64 ((x.val : Int) - 2)) ∧ a' = { tmps := #[.pointer (some ⟨g, 0, none⟩), .bool sure, .pointer (some ⟨w.heap.size, 0, none⟩), .pointer (some ⟨w.heap.size + 1, 0, none⟩), .pointer none, .pointer (some ⟨w.heap.size + 1 + 1 + 1, 0, none⟩), .pointer (some ⟨Bx, 0, none⟩), undef, undef, .pointer (some ⟨w.heap.size + 1 + 1, 0, none⟩), .pointer (some ⟨g, 0, none⟩), .func (.func 123) #[] #[.pointer (some ⟨w.heap.size + 1 + 1 + 1 + 1, 0, none⟩)], .int .i64 ((x.val : Int) - 2), undef, undef, undef, undef, undef, undef, undef, undef, undef, undef, undef, undef, undef, undef, undef, undef, undef, undef, undef, undef, undef, undef, undef, undef, undef, undef, undef, undef, undef], defers := [] })
    (fun x a' _ X Y row hs hg hr => by obtain ⟨Bx, h1, h2, h3⟩ := hs; exact ⟨Bx, h1, boxed_own Bx 3 (fun (_ : Unit) => Value.int .i64 ((x.val : Int) - 2)) () X Y row h2 hg (fun r e => (hr r e).2), h3⟩)
    ?assign ?body ?done ?stop
  case assign =>
    rintro l pre x W K ⟨⟨e2, e0, e1, e3, e4⟩, hB1⟩ hK
    have hzW : w.heap.size + 1 + 1 + 1 + 1 < W.heap.size := e4.lt
    gi_wp2
    exact hK _ _ ((KeepsOthers.alloc _ _).from _) (keepsIn_alloc (fun b hb => by omega) _) ⟨⟨row_alloc _ _ _ _ e2, e0.alloc _, e1.alloc _, e3.alloc _, e4.alloc _⟩, hB1.alloc hB1.size _⟩ ⟨W.heap.size, by omega, Boxed.new W 3 _, rfl⟩
  case body =>
    rintro l pre x a' W hl ⟨r, hr⟩ ⟨⟨e2, e0, e1, e3, e4⟩, hB1⟩ ⟨Bx, hBx, bX, rfl⟩ hlt
    have hzW : w.heap.size + 1 + 1 + 1 + 1 < W.heap.size := e4.lt
    have cP := e0.cell
    have hSW := (h.kept hB1 (Nat.le_refl _)).wider hB1.size
    gi_wp2_with (refine ⟨trivial, ?_⟩; gi_at_call 101; refine (CallsIn.inRound l (callsIn_wide.2 (places_any g _))).mono ?_; rintro e w' ⟨rfl, rfl⟩)
    have hM0 : matCells (matOf hold pre) = matCells (matOf2 hold pre x []) := matCells_congr fun i j _ _ => by simp [matOf, matOf2]
    have e2' := e2
    rw [hM0] at e2'
    have bN := Boxed.new W 126 (.pointer (some ⟨g, 0, none⟩))
    have hr' : (W.alloc (.cells #[.pointer (some ⟨g, 0, none⟩)] 126)).heap[l]? = some (.loop r) := row_alloc _ _ _ _ hr
    have hz2 : (W.alloc (.cells #[.pointer (some ⟨g, 0, none⟩)] 126)).heap.size = W.heap.size + 1 := by simp
    have hs2 : (W.alloc (.cells #[.pointer (some ⟨g, 0, none⟩)] 126)).cell? ⟨g, 1, none⟩ = some (.slice A n c) := (cell_of_row _ _ _ _ _ _ (row_alloc _ _ _ _ hSW.row)).trans rfl
    refine wpIn_rangeFunc_ownN (l₀ := l) (r₀ := r) rfl hr' (by omega) (gf := 123) (lb := #[.pointer (some ⟨W.heap.size, 0, none⟩)]) rfl trivial enters123
      ((places_stops (12 - 1 - 1 - 1) (by omega) W.heap.size g (fun b => b = W.heap.size ∨ b = g) A n c hn10 (.inl rfl) (.inr rfl) _ (fun b hb => by omega) bN.cell hs2).inRound l) keepsIn_t (keepsIn_b (fun b hb => by omega)) (Below.refl _ _) (fun _ => rfl)
      (fun pre' W' => ((W'.heap[w.heap.size + 1 + 1]? = some (.cells (matCells (matOf2 hold pre x pre')) 135 (0, 0)) ∧ Boxed W' w.heap.size 126 (.pointer (some ⟨g, 0, none⟩)) ∧ Boxed W' (w.heap.size + 1) 4 (.bool sure) ∧ Boxed W' (w.heap.size + 1 + 1 + 1) 108 (.pointer (some ⟨w.heap.size + 1 + 1, 0, none⟩)) ∧ Boxed W' (w.heap.size + 1 + 1 + 1 + 1) 126 (.pointer (some ⟨g, 0, none⟩)) ∧ Boxed W' Bx 3 (.int .i64 ((x.val : Int) - 2)) ∧ Boxed W' W.heap.size 126 (.pointer (some ⟨g, 0, none⟩))) ∧ Below w.heap.size w W') ∧ ((KeepsIn (fun b => b = w.heap.size + 1 + 1 + 1 + 1 ∨ b = g) W W' ∧ W.heap.size ≤ W'.heap.size) ∧ KeepsFrom W0.heap.size W W'))
      (fun _ _ _ => False)
      (OwnFrom.and (OwnFrom.and (OwnFrom.and (Own.from (row_own _ _ _) _) (OwnFrom.and (Own.from (boxed_own _ _ _) _) (OwnFrom.and (Own.from (boxed_own _ _ _) _) (OwnFrom.and (Own.from (boxed_own _ _ _) _) (OwnFrom.and (Own.from (boxed_own _ _ _) _) (OwnFrom.and (Own.from (boxed_own _ _ _) _) (Own.from (boxed_own _ _ _) _))))))) (ownFrom_below (Nat.le_refl _) (by omega))) (OwnFrom.and (ownFrom_keepsIn (fun b hb => by omega)) (ownFrom_keepsFrom (by simp))))
      (fun _ _ _ _ _ hs _ _ => hs)
      ⟨⟨⟨row_alloc _ _ _ _ e2', e0.alloc _, e1.alloc _, e3.alloc _, e4.alloc _, bX.alloc _, bN⟩, hB1.alloc hB1.size _⟩, ⟨keepsIn_alloc (fun b hb => by omega) _, by simp⟩, (KeepsOthers.alloc _ _).from _⟩
      (fun y a'' _ => a'' = { tmps := #[.pointer (some ⟨g, 0, none⟩), .bool sure, .pointer (some ⟨w.heap.size, 0, none⟩), .pointer (some ⟨w.heap.size + 1, 0, none⟩), .pointer none, .pointer (some ⟨w.heap.size + 1 + 1 + 1, 0, none⟩), .pointer (some ⟨Bx, 0, none⟩), .int .i64 ((y.val : Int) - 2), undef, .pointer (some ⟨w.heap.size + 1 + 1, 0, none⟩), .pointer (some ⟨g, 0, none⟩), .func (.func 123) #[] #[.pointer (some ⟨w.heap.size + 1 + 1 + 1 + 1, 0, none⟩)], .int .i64 ((x.val : Int) - 2), .pointer (some ⟨g, 0, none⟩), .func (.func 123) #[] #[.pointer (some ⟨W.heap.size, 0, none⟩)], .int .i64 ((y.val : Int) - 2), undef, undef, undef, undef, undef, undef, undef, undef, undef, undef, undef, undef, undef, undef, undef, undef, undef, undef, undef, undef, undef, undef, undef, undef, undef, undef], defers := [] })
      (fun _ _ _ _ _ _ hs _ _ => hs)
      ?assign2 ?body2 ?done2 ?stop2
    case assign2 =>
      rintro l2 pre' y W' K hi hK
      gi_wp2
      exact hK _ _ (KeepsFrom.refl _ _) (fun _ _ => rfl) hi rfl
    case body2 =>
      rintro l2 pre' y a'' W' _ _ ⟨⟨⟨f2, f0, f1, f3, f4, fX, fN⟩, hB2⟩, ⟨hKI, hKz⟩, hKF⟩ rfl _
      have hx := x.isLt
      have hy := y.isLt
      have cP := f0.cell
      have cX := fX.cell
      by_cases hxy : x.val = y.val
      · have q1 : ((x.val : Int) - 2 == (y.val : Int) - 2) = true := by simp [hxy]
        have hM : matCells (matOf2 hold pre x pre') = matCells (matOf2 hold pre x (pre' ++ [y])) := matCells_congr fun i j _ _ => by
          unfold matOf2
          by_cases hij : i = x.val ∧ j = y.val
          · have : hold i j = false := by rw [← HH.out, hij.1, hij.2]; simp [holdB, hxy]
            simp [this]
          · have : (decide (i = x.val) && decide (j ∈ (pre' ++ [y]).map (·.val))) = (decide (i = x.val) && decide (j ∈ pre'.map (·.val))) := by
              by_cases hi : i = x.val
              · have hj : ¬ j = y.val := fun e => hij ⟨hi, e⟩
                simp [hi, hj]
              · simp [hi]
            rw [this]
        rw [hM] at f2
        gi_wp2
        exact ⟨KeepsFrom.refl _ _, fun _ _ => rfl, ⟨⟨f2, f0, f1, f3, f4, fX, fN⟩, hB2⟩, ⟨hKI, hKz⟩, hKF⟩
      · have q1 : ((x.val : Int) - 2 == (y.val : Int) - 2) = false := by simp; omega
        have hSW' := (h.kept hB2 (Nat.le_refl _)).wider hB2.size
        have hcall := kind_any ((x.val : Int) - 2) ((y.val : Int) - 2) (by omega) (by omega) (by omega) (by omega) (by omega) hSW'
        have hv : hold x.val y.val = (decide (kindOf Wd ss sz ((x.val : Int) - 2) ((y.val : Int) - 2) = 2) || (decide (kindOf Wd ss sz ((x.val : Int) - 2) ((y.val : Int) - 2) = 1) && !sure)) := by rw [← HH.out]; simp [holdB, hxy]
        have hkb := kindOf_bd Wd ss sz ((x.val : Int) - 2) ((y.val : Int) - 2)
        generalize kindOf Wd ss sz ((x.val : Int) - 2) ((y.val : Int) - 2) = k at hcall hv hkb
        have HV := Lib.hid hv
        have hmx : Try.prog.follows .mixedOrders = true := by kernel_rfl
        clear hSW' hv
        have FIN : ∀ (w2 : World) (b : Bool), hold x.val y.val = b → Below W'.heap.size W' w2 →
            KeepsFrom (W.alloc (.cells #[.pointer (some ⟨g, 0, none⟩)] 126)).heap.size W' (w2.setCell ⟨w.heap.size + 1 + 1, x.val * 12 + y.val, none⟩ (.bool b)).drew ∧ KeepsIn (fun b => b = W.heap.size ∨ b = g) W' (w2.setCell ⟨w.heap.size + 1 + 1, x.val * 12 + y.val, none⟩ (.bool b)).drew ∧
            ((((w2.setCell ⟨w.heap.size + 1 + 1, x.val * 12 + y.val, none⟩ (.bool b)).drew.heap[w.heap.size + 1 + 1]? = some (.cells (matCells (matOf2 hold pre x (pre' ++ [y]))) 135 (0, 0)) ∧ Boxed (w2.setCell ⟨w.heap.size + 1 + 1, x.val * 12 + y.val, none⟩ (.bool b)).drew w.heap.size 126 (.pointer (some ⟨g, 0, none⟩)) ∧ Boxed (w2.setCell ⟨w.heap.size + 1 + 1, x.val * 12 + y.val, none⟩ (.bool b)).drew (w.heap.size + 1) 4 (.bool sure) ∧ Boxed (w2.setCell ⟨w.heap.size + 1 + 1, x.val * 12 + y.val, none⟩ (.bool b)).drew (w.heap.size + 1 + 1 + 1) 108 (.pointer (some ⟨w.heap.size + 1 + 1, 0, none⟩)) ∧ Boxed (w2.setCell ⟨w.heap.size + 1 + 1, x.val * 12 + y.val, none⟩ (.bool b)).drew (w.heap.size + 1 + 1 + 1 + 1) 126 (.pointer (some ⟨g, 0, none⟩)) ∧ Boxed (w2.setCell ⟨w.heap.size + 1 + 1, x.val * 12 + y.val, none⟩ (.bool b)).drew Bx 3 (.int .i64 ((x.val : Int) - 2)) ∧ Boxed (w2.setCell ⟨w.heap.size + 1 + 1, x.val * 12 + y.val, none⟩ (.bool b)).drew W.heap.size 126 (.pointer (some ⟨g, 0, none⟩))) ∧ Below w.heap.size w (w2.setCell ⟨w.heap.size + 1 + 1, x.val * 12 + y.val, none⟩ (.bool b)).drew) ∧
              ((KeepsIn (fun b => b = w.heap.size + 1 + 1 + 1 + 1 ∨ b = g) W (w2.setCell ⟨w.heap.size + 1 + 1, x.val * 12 + y.val, none⟩ (.bool b)).drew ∧ W.heap.size ≤ (w2.setCell ⟨w.heap.size + 1 + 1, x.val * 12 + y.val, none⟩ (.bool b)).drew.heap.size) ∧ KeepsFrom W0.heap.size W (w2.setCell ⟨w.heap.size + 1 + 1, x.val * 12 + y.val, none⟩ (.bool b)).drew)) := fun w2 b hbv hb2 => by
          have hlt' : W.heap.size < W'.heap.size := fN.lt
          have hXl : Bx < W'.heap.size := fX.lt
          have hko := ((keepsOthers_below hb2).trans (KeepsOthers.setCell w2 ⟨w.heap.size + 1 + 1, x.val * 12 + y.val, none⟩ (.bool b))).trans (KeepsOthers.drew _)
          have hbx : ∀ {q : Nat} {t : TypeId} {v : Value}, Boxed W' q t v → q ≠ w.heap.size + 1 + 1 → Boxed (w2.setCell ⟨w.heap.size + 1 + 1, x.val * 12 + y.val, none⟩ (.bool b)).drew q t v := fun hq hne => (heap_set_other w2 _ _ _ _ hne).trans ((hb2.block _ (Boxed.lt hq)).trans hq)
          have hki : KeepsIn (fun b => b < W'.heap.size ∧ b ≠ w.heap.size + 1 + 1) W' (w2.setCell ⟨w.heap.size + 1 + 1, x.val * 12 + y.val, none⟩ (.bool b)).drew := fun q hq => (heap_set_other w2 _ _ _ _ hq.2).trans (hb2.block _ hq.1)
          have hsz : W'.heap.size ≤ (w2.setCell ⟨w.heap.size + 1 + 1, x.val * 12 + y.val, none⟩ (.bool b)).drew.heap.size := hko.size
          have hrow : (w2.setCell ⟨w.heap.size + 1 + 1, x.val * 12 + y.val, none⟩ (.bool b)).drew.heap[w.heap.size + 1 + 1]? = some (.cells (matCells (matOf2 hold pre x (pre' ++ [y]))) 135 (0, 0)) := by
            have h1 := row_setCell w2 (w.heap.size + 1 + 1) (x.val * 12 + y.val) (.bool b) _ _ _ ((hb2.block _ (Array.getElem?_eq_some_iff.1 f2).1).trans f2)
            rw [matCells_set (matOf2 hold pre x pre') (matOf2 hold pre x (pre' ++ [y])) x.val y.val (by omega) (by omega) b (by simp [matOf2, hbv]) (fun a c _ _ hac => by
              unfold matOf2
              have : (decide (a = x.val) && decide (c ∈ (pre' ++ [y]).map (·.val))) = (decide (a = x.val) && decide (c ∈ pre'.map (·.val))) := by
                by_cases hi : a = x.val
                · have hj : ¬ c = y.val := fun e => hac ⟨hi, e⟩
                  simp [hi, hj]
                · simp [hi]
              rw [this])] at h1
            exact h1
          refine ⟨hko.from _, fun q hq => hki q (by rcases hq with rfl | rfl <;> omega), ⟨⟨hrow, hbx f0 (by omega), hbx f1 (by omega), hbx f3 (by omega), hbx f4 (by omega), hbx fX (by omega), hbx fN (by omega)⟩, ?_⟩, ⟨fun q hq => (hki q (by rcases hq with rfl | rfl <;> omega)).trans (hKI q hq), by omega⟩, hKF.trans (hko.from _)⟩
          exact ((hB2.trans (hb2.mono (by omega))).setCell (p := ⟨w.heap.size + 1 + 1, x.val * 12 + y.val, none⟩) (by show w.heap.size ≤ w.heap.size + 1 + 1; omega) _).drew
        have HF := Lib.hid FIN
        clear FIN
        rcases (by omega : k = 2 ∨ k = 1 ∨ k = 0) with rfl | rfl | rfl
        · gi_wp2_with (refine ⟨trivial, ?_⟩; gi_at_call 69; refine (CallsIn.inRound l2 (callsIn_wide.2 hcall)).mono ?_; rintro e w2 ⟨rfl, hb2⟩)
          have g2 := (hb2.block _ (Array.getElem?_eq_some_iff.1 f2).1).trans f2
          have g3 := (boxed_below f3 hb2 f3.lt).cell
          have gX := (boxed_below fX hb2 fX.lt).cell
          have g1 := (boxed_below f1 hb2 f1.lt).cell
          have gc := (cell_of_row _ _ _ _ _ _ g2).trans (matCells_get _ x.val y.val (by omega) (by omega))
          have gf : w2.frozen? ⟨w.heap.size + 1 + 1, x.val * 12 + y.val, none⟩ = false := by simp [World.frozen?, g2]
          have hfin := Lib.hid (HF.out w2 true (by rw [HV.out]; rfl) hb2)
          have hx12 : (x.val : Int) < 12 := by omega
          have hy12 : (y.val : Int) < 12 := by omega
          clear HF cP cX h hS0 b0 b1 b2 b3 b4 dz hB0 hr hl hB1 e0 e1 e2 e3 e4 hBx bX hlt hzW hSW hM0 e2' bN hr' hz2 hs2 f0 f1 f2 f3 f4 fX fN hB2 hKI hKz hKF hb2 g2 q1 hcall hg HH hkb
          refine round_still_tail 18 hmx (by kernel_rfl) (by kernel_rfl) ?_
          clear hmx
          simp only [List.take_succ_cons, List.take_zero, List.drop_succ_cons, List.drop_zero]
          generalize hops : List.toArray _ = ops
          have o7 : (ops[7]?).bind (·.dst) = some 30 := by rw [← hops]; rfl
          have o10 : (ops[10]?).bind (·.dst) = some 33 := by rw [← hops]; rfl
          clear hops
          still_step
          still_step
          still_call (at_pl x.val _ (by omega))
          still_step
          still_call (at_pl y.val _ (by omega))
          iterate 13 still_step
          refine wpStill_nil ?_
          go_wp2
          exact hfin.out
        · cases sure
          · gi_wp2_with (refine ⟨trivial, ?_⟩; gi_at_call 69; refine (CallsIn.inRound l2 (callsIn_wide.2 hcall)).mono ?_; rintro e w2 ⟨rfl, hb2⟩)
            have g2 := (hb2.block _ (Array.getElem?_eq_some_iff.1 f2).1).trans f2
            have g3 := (boxed_below f3 hb2 f3.lt).cell
            have gX := (boxed_below fX hb2 fX.lt).cell
            have g1 := (boxed_below f1 hb2 f1.lt).cell
            have gc := (cell_of_row _ _ _ _ _ _ g2).trans (matCells_get _ x.val y.val (by omega) (by omega))
            have gf : w2.frozen? ⟨w.heap.size + 1 + 1, x.val * 12 + y.val, none⟩ = false := by simp [World.frozen?, g2]
            have hfin := Lib.hid (HF.out w2 true (by rw [HV.out]; rfl) hb2)
            have hx12 : (x.val : Int) < 12 := by omega
            have hy12 : (y.val : Int) < 12 := by omega
            clear HF cP cX h hS0 b0 b1 b2 b3 b4 dz hB0 hr hl hB1 e0 e1 e2 e3 e4 hBx bX hlt hzW hSW hM0 e2' bN hr' hz2 hs2 f0 f1 f2 f3 f4 fX fN hB2 hKI hKz hKF hb2 g2 q1 hcall hg HH hkb
            refine round_still_tail 18 hmx (by kernel_rfl) (by kernel_rfl) ?_
            clear hmx
            simp only [List.take_succ_cons, List.take_zero, List.drop_succ_cons, List.drop_zero]
            generalize hops : List.toArray _ = ops
            have o7 : (ops[7]?).bind (·.dst) = some 30 := by rw [← hops]; rfl
            have o10 : (ops[10]?).bind (·.dst) = some 33 := by rw [← hops]; rfl
            clear hops
            still_step
            still_step
            still_call (at_pl x.val _ (by omega))
            still_step
            still_call (at_pl y.val _ (by omega))
            iterate 13 still_step
            refine wpStill_nil ?_
            go_wp2
            exact hfin.out
          · gi_wp2_with (refine ⟨trivial, ?_⟩; gi_at_call 69; refine (CallsIn.inRound l2 (callsIn_wide.2 hcall)).mono ?_; rintro e w2 ⟨rfl, hb2⟩)
            have g2 := (hb2.block _ (Array.getElem?_eq_some_iff.1 f2).1).trans f2
            have g3 := (boxed_below f3 hb2 f3.lt).cell
            have gX := (boxed_below fX hb2 fX.lt).cell
            have g1 := (boxed_below f1 hb2 f1.lt).cell
            have gc := (cell_of_row _ _ _ _ _ _ g2).trans (matCells_get _ x.val y.val (by omega) (by omega))
            have gf : w2.frozen? ⟨w.heap.size + 1 + 1, x.val * 12 + y.val, none⟩ = false := by simp [World.frozen?, g2]
            have hfin := Lib.hid (HF.out w2 false (by rw [HV.out]; rfl) hb2)
            have hx12 : (x.val : Int) < 12 := by omega
            have hy12 : (y.val : Int) < 12 := by omega
            clear HF cP cX h hS0 b0 b1 b2 b3 b4 dz hB0 hr hl hB1 e0 e1 e2 e3 e4 hBx bX hlt hzW hSW hM0 e2' bN hr' hz2 hs2 f0 f1 f2 f3 f4 fX fN hB2 hKI hKz hKF hb2 g2 q1 hcall hg HH hkb
            refine round_still_tail 18 hmx (by kernel_rfl) (by kernel_rfl) ?_
            clear hmx
            simp only [List.take_succ_cons, List.take_zero, List.drop_succ_cons, List.drop_zero]
            generalize hops : List.toArray _ = ops
            have o7 : (ops[7]?).bind (·.dst) = some 30 := by rw [← hops]; rfl
            have o10 : (ops[10]?).bind (·.dst) = some 33 := by rw [← hops]; rfl
            clear hops
            still_step
            still_step
            still_call (at_pl x.val _ (by omega))
            still_step
            still_call (at_pl y.val _ (by omega))
            iterate 13 still_step
            refine wpStill_nil ?_
            go_wp2
            exact hfin.out
        · gi_wp2_with (refine ⟨trivial, ?_⟩; gi_at_call 69; refine (CallsIn.inRound l2 (callsIn_wide.2 hcall)).mono ?_; rintro e w2 ⟨rfl, hb2⟩)
          have g2 := (hb2.block _ (Array.getElem?_eq_some_iff.1 f2).1).trans f2
          have g3 := (boxed_below f3 hb2 f3.lt).cell
          have gX := (boxed_below fX hb2 fX.lt).cell
          have g1 := (boxed_below f1 hb2 f1.lt).cell
          have gc := (cell_of_row _ _ _ _ _ _ g2).trans (matCells_get _ x.val y.val (by omega) (by omega))
          have gf : w2.frozen? ⟨w.heap.size + 1 + 1, x.val * 12 + y.val, none⟩ = false := by simp [World.frozen?, g2]
          have hfin := Lib.hid (HF.out w2 false (by rw [HV.out]; rfl) hb2)
          have hx12 : (x.val : Int) < 12 := by omega
          have hy12 : (y.val : Int) < 12 := by omega
          clear HF cP cX h hS0 b0 b1 b2 b3 b4 dz hB0 hr hl hB1 e0 e1 e2 e3 e4 hBx bX hlt hzW hSW hM0 e2' bN hr' hz2 hs2 f0 f1 f2 f3 f4 fX fN hB2 hKI hKz hKF hb2 g2 q1 hcall hg HH hkb
          refine round_still_tail 18 hmx (by kernel_rfl) (by kernel_rfl) ?_
          clear hmx
          simp only [List.take_succ_cons, List.take_zero, List.drop_succ_cons, List.drop_zero]
          generalize hops : List.toArray _ = ops
          have o7 : (ops[7]?).bind (·.dst) = some 30 := by rw [← hops]; rfl
          have o10 : (ops[10]?).bind (·.dst) = some 33 := by rw [← hops]; rfl
          clear hops
          still_step
          still_step
          still_call (at_pl x.val _ (by omega))
          still_step
          still_call (at_pl y.val _ (by omega))
          iterate 13 still_step
          refine wpStill_nil ?_
          go_wp2
          exact hfin.out
    case done2 =>
      rintro ys' W' rfl ⟨⟨⟨f2, f0, f1, f3, f4, fX, fN⟩, hB2⟩, ⟨hKI, hKz⟩, hKF⟩
      gi_wp2
      have hM1 : matCells (matOf2 hold pre x (List.finRange (n + 2))) = matCells (matOf hold (pre ++ [x])) := matCells_congr fun i j _ _ => by
        have hj : hold i j = true → j < n + 2 := fun hh => by
          rw [← HH.out] at hh
          simp [holdB] at hh
          exact hh.1.1
        have hm : (decide (j ∈ (List.finRange (n + 2)).map (·.val))) = decide (j < n + 2) := by
          rw [Bool.eq_iff_iff, decide_eq_true_eq, decide_eq_true_eq, List.mem_map]
          exact ⟨fun ⟨a, _, e⟩ => by rw [← e]; exact a.isLt, fun hlt => ⟨⟨j, hlt⟩, List.mem_finRange _, rfl⟩⟩
        unfold matOf2 matOf
        rw [hm]
        cases hq : hold i j with
        | false => simp
        | true => simp [hj hq]
      rw [hM1] at f2
      exact ⟨hKF, hKI, ⟨f2, f0, f1, f3, f4⟩, hB2⟩
    case stop2 =>
      rintro c pre' W' _ h
      exact h.elim
  case done =>
    rintro D zs W hD rfl ⟨⟨e2, e0, e1, e3, e4⟩, hB1⟩ hK
    have cS := e3.cell
    gi_wp2
    refine ⟨by simp, .inl ⟨_, _, rfl, run_takeDeferred hK, ?_⟩⟩
    refine ⟨_, results_tmp rfl _ _ _, w.heap.size + 1 + 1, rfl, ?_, hB1.trans (belowK_b (w := w) (Nat.le_refl _) W D _ _ (by omega) hK rfl rfl)⟩
    exact heap_kept e2 (grownBy_putObj' _ D (.deferred none)) (fun r e => by cases e; exact ⟨_, hK, rfl⟩)
  case stop =>
    rintro D c pre W _ _ h _
    exact h.elim
end
end Go.Proofs.Ytckndnaohggmhaa

/- beside: the iterator over the places that hold together with one. -/
namespace Go.Proofs.Ytckndnaohggmhaa
open Go.RowKit Go.Shelf

attribute [local go_sem] Oper.semAt_some
attribute [local irreducible] matCells

/-- A place that holds together with the k-th one. -/
abbrev Beside (H : Nat → Nat → Bool) (k : Nat) := { i : Fin 12 // H k i.val = true }
/-- Those among the first j. -/
def bes (H : Nat → Nat → Bool) (k j : Nat) : List (Beside H k) := ((List.finRange 12).take j).filterMap fun i => if h : H k i.val = true then some ⟨i, h⟩ else none
theorem bes_step (H : Nat → Nat → Bool) (k j : Nat) (hj : j < 12) : bes H k (j + 1) = bes H k j ++ (if h : H k j = true then [⟨⟨j, hj⟩, h⟩] else []) := by
  unfold bes
  rw [List.take_succ_eq_append_getElem (by simpa using hj), List.filterMap_append]
  congr 1
  simp only [List.getElem_finRange, List.filterMap_cons, List.filterMap_nil]
  by_cases h : H k j = true <;> simp [h]
theorem bes_len (H : Nat → Nat → Bool) (k j : Nat) : (bes H k j).length ≤ 12 := by
  unfold bes
  refine Nat.le_trans (List.length_filterMap_le _ _) ?_
  rw [List.length_take, List.length_finRange]
  omega
theorem bes_prefix (H : Nat → Nat → Bool) (k : Nat) {j m : Nat} (h : j ≤ m) (hm : m ≤ 12) : bes H k j <+: bes H k m := by
  obtain ⟨d, rfl⟩ := Nat.le.dest h
  induction d with
  | zero => exact List.prefix_refl _
  | succ d ih =>
    refine (ih (by omega) (by omega)).trans ?_
    rw [← Nat.add_assoc, bes_step H k (j + d) (by omega)]
    exact List.prefix_append _ _

theorem index116 (R : Array Value) (hs : R.size = 12) (j : Nat) (hj : j < 12) (b : Bool) (h : R[j]? = some (.bool b)) (w : World) : (Instr.index 116 (.agg R) (.int .i64 j)).run Try.prog w = .ok (.bool b) w := by
  have hjz : (j : Int) < 12 := by omega
  unfold Instr.index
  go_simp
  rw [Array.getElem?_eq_getElem (by omega)] at h
  exact Option.some.inj h

set_option maxRecDepth 100000 in
set_option maxHeartbeats 2000000 in
theorem beside1_in (N : Nat) (hn : 1 ≤ N) (l P D b k : Nat) (hk : k < 12) (H : Nat → Nat → Bool) (J Jx : List (Beside H k) → World → Prop)
    (hY : ∀ pre x W, J pre W → pre.length < 13 → YieldAt Fence.wide (N - 1) Try.prog l #[.int .i64 ((x.val.val : Int) - 2)] W fun e W' =>
      (e = .returned (.bool true) ∧ J (pre ++ [x]) W' ∧ True) ∨ (e = .returned (.bool false) ∧ Jx (pre ++ [x]) W'))
    (W : World) (hP : W.cell? ⟨P, 0, none⟩ = some (.pointer (some ⟨b, 0, none⟩))) (hD : W.cell? ⟨D, 0, none⟩ = some (.int .i64 ((k : Int) - 2))) (hr : W.heap[b]? = some (.cells (matCells H) 135 (0, 0)))
    (hab : ∀ s X q, J s X → J s (X.drewN q)) (h0 : J [] W) :
    CallsIn Fence.wide N Try.prog 126 #[.func (.yield l) #[] #[], .pointer (some ⟨P, 0, none⟩), .pointer (some ⟨D, 0, none⟩)] W fun e W' => (∃ v, e = .returned v) ∧
      ((∃ ys, ys = bes H k 12 ∧ J ys W') ∨ (∃ pre, (∃ j, j ≤ 12 ∧ pre = bes H k j) ∧ Jx pre W')) := by
  have g : ∀ j, j < 12 → W.cell? ⟨b, k * 12 + j, none⟩ = some (.bool (H k j)) := fun j hj => (cell_of_row _ _ _ _ _ _ hr).trans (matCells_get H k j hk hj)
  have g0 := g 0 (by omega)
  have g1 := g 1 (by omega)
  have g2 := g 2 (by omega)
  have g3 := g 3 (by omega)
  have g4 := g 4 (by omega)
  have g5 := g 5 (by omega)
  have g6 := g 6 (by omega)
  have g7 := g 7 (by omega)
  have g8 := g 8 (by omega)
  have g9 := g 9 (by omega)
  have g10 := g 10 (by omega)
  have g11 := g 11 (by omega)
  rw [Nat.add_zero] at g0
  have hkz : (k : Int) < 12 := by omega
  clear g hr
  refine callsIn_of_wp Try.func126 rfl trivial ?_ rfl
  simp only [Try.ntmps126, List.size_toArray, List.length_cons, List.length_nil, Nat.reduceAdd, Nat.reduceSub, Array.replicate_succ, Array.replicate_zero, List.push_toArray, List.append_toArray, List.nil_append, List.cons_append]
  gi_wp2
  refine wpIn_wide.2 ?_
  go_quiet ((go_at_call 95; exact Calls.quiet_of_same (at_pl k _ (by omega))))
  have hR : ∀ j, j < 12 → (#[Value.bool (H k 0), .bool (H k 1), .bool (H k 2), .bool (H k 3), .bool (H k 4), .bool (H k 5), .bool (H k 6), .bool (H k 7), .bool (H k 8), .bool (H k 9), .bool (H k 10), .bool (H k 11)] : Array Value)[j]? = some (.bool (H k j)) := fun j hj => by
    match j, hj with
    | 0, _ => rfl
    | 1, _ => rfl
    | 2, _ => rfl
    | 3, _ => rfl
    | 4, _ => rfl
    | 5, _ => rfl
    | 6, _ => rfl
    | 7, _ => rfl
    | 8, _ => rfl
    | 9, _ => rfl
    | 10, _ => rfl
    | 11, _ => rfl
  have hRs : (#[Value.bool (H k 0), .bool (H k 1), .bool (H k 2), .bool (H k 3), .bool (H k 4), .bool (H k 5), .bool (H k 6), .bool (H k 7), .bool (H k 8), .bool (H k 9), .bool (H k 10), .bool (H k 11)] : Array Value).size = 12 := rfl
  generalize (#[Value.bool (H k 0), .bool (H k 1), .bool (H k 2), .bool (H k 3), .bool (H k 4), .bool (H k 5), .bool (H k 6), .bool (H k 7), .bool (H k 8), .bool (H k 9), .bool (H k 10), .bool (H k 11)] : Array Value) = R at hR hRs ⊢
  have HR := Lib.hid hR
  clear hR g0 g1 g2 g3 g4 g5 g6 g7 g8 g9 g10 g11 hP hD
  have h1 := hab _ _ nq h0
  clear h0
  gi_wp2
  gi_loopw [4, 5, 12] (fun _ _ i wr => ∃ j : Nat, j ≤ 12 ∧ i = .int .i64 j ∧ J (bes H k j) wr) (fun _ _ i _ => 12 - (intOf i).toNat)
  case atStart => exact ⟨0, Nat.zero_le _, rfl, h1⟩
  case round =>
    obtain ⟨j, hj, rfl, hJs⟩ := hrel
    by_cases hlt : j < 12
    · have hjz : (j : Int) < 12 := by omega
      have hidx := index116 R hRs j hlt (H k j) (HR.out j hlt)
      have hst := bes_step H k j hlt
      cases hH : H k j with
      | true =>
        rw [hH] at hidx
        rw [dif_pos hH] at hst
        have HS := Lib.hid hst
        obtain ⟨fn, tmps, assign, body, hy, hR2⟩ := hY _ ⟨⟨j, hlt⟩, hH⟩ wr hJs (by have := bes_len H k j; omega)
        dsimp only at hy
        rw [show (j : Int) - 2 = (j : Int) + -2 from by omega] at hy
        clear hst
        gi_wp2
        refine hR2.mono ?_
        rintro e W3 (⟨rfl, hJ3, _⟩ | ⟨rfl, hJx3⟩)
        · gi_wp2
          go_roundw
          case rel => exact ⟨j + 1, by omega, by go_num, by rw [HS.out]; exact hJ3⟩
          case measure => simp [intOf]; omega
        · gi_wp2
          refine bodyPost_ret (results_none rfl _ _ _) rfl ?_
          exact ⟨⟨_, rfl⟩, .inr ⟨_, ⟨j + 1, by omega, HS.out.symm⟩, hJx3⟩⟩
      | false =>
        rw [hH] at hidx
        rw [dif_neg (by rw [hH]; simp), List.append_nil] at hst
        have HS := Lib.hid hst
        clear hst
        gi_wp2
        all_goals
          refine ⟨fun _ _ => trivial, ?_⟩
          gi_wp2
          go_roundw
          case rel => exact ⟨j + 1, by omega, by go_num, by rw [HS.out]; exact hJs⟩
          case measure => simp [intOf]; omega
    · obtain rfl : j = 12 := by omega
      have hjz : ¬ ((12 : Nat) : Int) < 12 := by omega
      gi_wp2
      go_end0
      exact ⟨⟨_, rfl⟩, .inl hJs⟩

theorem enters126 : ∀ args w, (callFunc 126 args).run Try.prog w = .ok (.enter 126 args) w := enters_of Try.func126 (by kernel_rfl) rfl

/-- The iterator's contract: it asks nothing of the loop's body but its own promise. -/
theorem beside_stops (N : Nat) (hn : 1 ≤ N) (P D b k : Nat) (hk : k < 12) (H : Nat → Nat → Bool) (w : World) (hPw : P < w.heap.size) (hDw : D < w.heap.size)
    (hP : w.cell? ⟨P, 0, none⟩ = some (.pointer (some ⟨b, 0, none⟩))) (hD : w.cell? ⟨D, 0, none⟩ = some (.int .i64 ((k : Int) - 2))) (hr : w.heap[b]? = some (.cells (matCells H) 135 (0, 0))) :
    SeqStopsK Fence.wide N Try.prog 126 #[.pointer (some ⟨P, 0, none⟩), .pointer (some ⟨D, 0, none⟩)] (fun x : Beside H k => #[Value.int .i64 ((x.val.val : Int) - 2)]) (fun _ _ => True) (fun ys => ys = bes H k 12) (fun pre => pre <+: bes H k 12) 13 w := fun l J Jx W hW hJ _ hY h0 => by
  refine (beside1_in N hn l P D b k hk H J Jx hY W ((hW.cell (p := ⟨P, 0, none⟩) hPw).trans hP) ((hW.cell (p := ⟨D, 0, none⟩) hDw).trans hD) ((hW.block b (Array.getElem?_eq_some_iff.1 hr).1).trans hr)
    (fun s X q hs => hJ s X _ none hs (by exact ⟨rfl, rfl, rfl, Nat.le_refl _, fun _ _ _ => rfl⟩) (fun r e => by cases e)) h0).mono ?_
  rintro e W' ⟨he, ⟨ys, rfl, hj⟩ | ⟨pre, ⟨j, hj12, rfl⟩, hj⟩⟩
  · exact ⟨he, .inl ⟨_, rfl, hj⟩⟩
  · exact ⟨he, .inr ⟨_, bes_prefix H k hj12 (Nat.le_refl _), hj⟩⟩

set_option maxHeartbeats 400000 in
theorem beside_any_it (b k : Nat) (w : World) : Calls Try.prog 119 #[.pointer (some ⟨b, 0, none⟩), .int .i64 ((k : Int) - 2)] w fun e w' => e = .returned (.func (.func 126) #[] #[.pointer (some ⟨w.heap.size, 0, none⟩), .pointer (some ⟨w.heap.size + 1, 0, none⟩)]) ∧ w' = (w.alloc (.cells #[.pointer (some ⟨b, 0, none⟩)] 108)).alloc (.cells #[.int .i64 ((k : Int) - 2)] 3) := by
  go_enter Try.func119, Try.ntmps119
  go_wp2
  go_ret
  exact ⟨rfl, rfl⟩
end Go.Proofs.Ytckndnaohggmhaa

/- listed, rising: a row of marks as places; whether numbers rise. -/
namespace Go.Proofs.Ytckndnaohggmhaa
open Go.RowKit Go.Shelf

/-- Twelve marks, as cells. -/
def markCells (M : Nat → Bool) : Array Value := Array.ofFn (n := 12) fun i => .bool (M i.val)
theorem markCells_size (M : Nat → Bool) : (markCells M).size = 12 := by simp [markCells]
theorem markCells_get (M : Nat → Bool) (i : Nat) (hi : i < 12) : (markCells M)[i]? = some (.bool (M i)) := by simp [markCells, hi]
theorem markCells_set (M M' : Nat → Bool) (i : Nat) (b : Bool) (h1 : M' i = b) (h2 : ∀ a, a < 12 → a ≠ i → M' a = M a) : (markCells M).setIfInBounds i (.bool b) = markCells M' := by
  apply Array.ext
  · simp [markCells]
  · intro k hk1 hk2
    have hk : k < 12 := by simpa [markCells] using hk2
    rw [Array.getElem_setIfInBounds (by rw [markCells_size]; exact hk)]
    split
    · rename_i e
      subst e
      simp [markCells, h1]
    · rename_i e
      simp only [markCells, Array.getElem_ofFn]
      rw [h2 _ hk (fun e' => e e'.symm)]
theorem markCells_congr {M M' : Nat → Bool} (h : ∀ i, i < 12 → M i = M' i) : markCells M = markCells M' := by
  unfold markCells
  congr 1
  funext i
  rw [h _ i.isLt]

/-- The places that are marked among the first k. -/
def listTo (M : Nat → Bool) (k : Nat) : List Int := (List.range k).filterMap fun i => if M i then some ((i : Int) - 2) else none
theorem listTo_succ (M : Nat → Bool) (k : Nat) : listTo M (k + 1) = listTo M k ++ (if M k then [(k : Int) - 2] else []) := by
  unfold listTo
  rw [List.range_succ, List.filterMap_append]
  congr 1
  by_cases h : M k <;> simp [h]
theorem listTo_length (M : Nat → Bool) (k : Nat) : (listTo M k).length ≤ k := by
  unfold listTo
  exact Nat.le_trans (List.length_filterMap_le _ _) (by simp)

/-- A slice of ints that the call made: xs, in a block from base on; nil just where it has none. -/
def MadeInts (base : Nat) (xs : List Int) (w : World) (v : Value) : Prop := w.ownsRow base 3 1 v xs.length (xs.map (Value.int .i64)) ∧ (xs = [] → v = .slice none 0 0)
def ListPost (xs : List Int) (w : World) (e : Ending) (w' : World) : Prop := ∃ v, e = .returned v ∧ MadeInts w.heap.size xs w' v ∧ Below w.heap.size w w'

theorem one_cell' (x : Int) (u : Value) (h : u ∈ [Value.int .i64 x]) : u.oneCell' = true := by
  simp only [List.mem_singleton] at h
  subst h
  rfl
theorem info3 : (Try.prog.info? 3).map (fun i => (i.zero, i.size, i.bytes)) = some (some (.int .i64 0), 1, 8) := by kernel_rfl

set_option maxHeartbeats 1000000 in
theorem listed_any (m c : Nat) (M : Nat → Bool) (w : World) (hr : w.heap[m]? = some (.cells (markCells M) 4 (0, 0))) :
    Calls Try.prog 98 #[.slice (some ⟨m, 0, none⟩) 12 c] w (ListPost (listTo M 12) w) := by
  obtain ⟨i0, hi, hz0, hz1, hz2⟩ := info_parts info3
  have HI := Lib.hid hi
  have HZ0 := Lib.hid hz0
  have HZ1 := Lib.hid hz1
  have HZ2 := Lib.hid hz2
  have hml : m < w.heap.size := (Array.getElem?_eq_some_iff.1 hr).1
  have HR := Lib.hid hr
  clear hi hz0 hz1 hz2 hr
  go_enter Try.func98, Try.ntmps98
  go_wp2
  go_loopw [3, 4, 5, 8] (fun v _ _ i wr => ∃ k : Nat, k ≤ 12 ∧ i = .int .i64 k ∧ Hid (Below w.heap.size w wr) ∧ Hid (MadeInts w.heap.size (listTo M k) wr v)) (fun _ _ _ i _ => 12 - (intOf i).toNat)
  case atStart => exact ⟨0, Nat.zero_le _, rfl, Lib.hid (Below.refl _ _), Lib.hid ⟨World.ownsRow_nil _ _ _ _, fun _ => rfl⟩⟩
  case round =>
    obtain ⟨k, hk, rfl, hB, hO⟩ := hrel
    have hsz := hB.out.size
    by_cases hlt : k < 12
    · have hltz : (k : Int) < 12 := by omega
      have hc := (cell_of_row _ _ _ _ _ _ ((hB.out.block _ hml).trans HR.out)).trans (markCells_get M k hlt)
      have hs := listTo_succ M k
      have hl := listTo_length M k
      cases hM : M k with
      | true =>
        rw [hM] at hc
        rw [hM, if_pos rfl] at hs
        have HS := Lib.hid hs
        clear hs hM
        go_wp2_with (first | (at_builtin; refine wpList_append_own _ rfl (.tmp 14) (.tmp 17) 42 rfl w.heap.size 3 i0 (.int .i64 0) 1 8 Try.underlying42 HI.out HZ0.out HZ1.out HZ2.out rfl (by decide) _ (listTo M k).length _ rfl (hO.out.1.alloc _) ⟨wr.heap.size, 0, none⟩ 1 1 [.int .i64 ((k : Int) + -2)] rfl rfl (cell_one_new _ _ _) (one_cell' _) ?c3 ?c4 ?c5 ?_))
        case c3 => unfold maxLen; omega
        case c4 => omega
        case c5 => simp; omega
        · intro v' w1 hown' hgrow _
          have hB1 := Lib.hid ((hB.out.alloc hsz (.cells #[.int .i64 ((k : Int) + -2)] 3)).grown hgrow (by simp; omega) (fun b e => (hO.out.1.lt b e).1))
          have hO1 : Hid (MadeInts w.heap.size (listTo M (k + 1)) w1 v') := Lib.hid ⟨by
            rw [HS.out, List.length_append, List.map_append]
            rw [show (k : Int) - 2 = (k : Int) + -2 from by omega]
            simpa using hown', fun e => by rw [HS.out] at e; simp at e⟩
          clear hown' hgrow hO hB
          go_wp2
          go_roundw
          case measure => simp [intOf]; omega
          case rel => exact ⟨k + 1, by omega, by go_num, hB1, hO1⟩
      | false =>
        rw [hM] at hc
        rw [hM, if_neg (by decide), List.append_nil] at hs
        have HS := Lib.hid hs
        clear hs hM
        go_wp2
        go_roundw
        case measure => simp [intOf]; omega
        case rel => exact ⟨k + 1, by omega, by go_num, hB, by rw [HS.out]; exact hO⟩
    · have hltz : ¬ (k : Int) < 12 := by omega
      obtain rfl : k = 12 := by omega
      go_wp2
      go_ret
      exact ⟨_, rfl, hO.out, hB.out⟩
end Go.Proofs.Ytckndnaohggmhaa

/- rising: whether each number is greater than the one before it. -/
namespace Go.Proofs.Ytckndnaohggmhaa
open Go.RowKit Go.Shelf

theorem rises_all (xs : List Int) (h : ∀ j, ∀ (hj : j + 1 < xs.length), xs[j] < xs[j + 1]) : xs.Pairwise (· < ·) := by
  rw [List.pairwise_iff_getElem]
  intro i j hi hj hij
  obtain ⟨d, rfl⟩ : ∃ d, j = i + 1 + d := ⟨j - i - 1, by omega⟩
  clear hij
  induction d with
  | zero => exact h i hj
  | succ d ih => exact Int.lt_trans (ih (by omega)) (h (i + 1 + d) hj)
theorem falls_one (xs : List Int) (j : Nat) (hj : j + 1 < xs.length) (h : xs[j + 1] ≤ xs[j]) : ¬ xs.Pairwise (· < ·) := by
  intro hp
  have := (List.pairwise_iff_getElem.1 hp) j (j + 1) (by omega) hj (by omega)
  omega

set_option maxHeartbeats 400000 in
theorem rising_any (A : Option Addr) (n c : Nat) (xs : List Int) (w : World) (hnn : n = xs.length)
    (hn : n ≤ 9223372036854775807) (hh : Held w w.heap.size 1 encI A xs) :
    Calls Try.prog 103 #[.slice A n c] w fun e w' => e = .returned (.bool (decide (xs.Pairwise (· < ·)))) ∧ Below w.heap.size w w' := by
  have HN := Lib.hid hnn; clear hnn
  go_enter Try.func103, Try.ntmps103
  go_wp2
  go_loopw [2, 3] (fun _ i wr => ∃ k : Nat, 1 ≤ k ∧ (k = 1 ∨ k ≤ n) ∧ i = .int .i64 k ∧ Hid (Below w.heap.size w wr) ∧ Hid (∀ j, j + 1 < k → ∀ (hl : j + 1 < xs.length), xs[j] < xs[j + 1])) (fun _ i _ => n + 1 - (intOf i).toNat)
  case atStart => exact ⟨1, Nat.le_refl _, .inl rfl, rfl, Lib.hid (Below.refl _ _), Lib.hid (fun j hj => absurd hj (by omega))⟩
  case round =>
    obtain ⟨k, hk1, hk, rfl, hB, hA⟩ := hrel
    by_cases hlt : k < n
    · have hltz : (k : Int) < (n : Int) := by omega
      obtain ⟨j, rfl⟩ : ∃ j, k = j + 1 := ⟨k - 1, by omega⟩
      have hjl : j + 1 < xs.length := by rw [← HN.out]; exact hlt
      obtain ⟨x, hx⟩ : ∃ x, x = xs[j] := ⟨_, rfl⟩
      obtain ⟨y, hy⟩ : ∃ y, y = xs[j + 1] := ⟨_, rfl⟩
      have hcell : ∃ b off, A = some ⟨b, off, none⟩ ∧ wr.cell? ⟨b, off + j, none⟩ = some (.int .i64 x) ∧ wr.cell? ⟨b, off + (j + 1), none⟩ = some (.int .i64 y) := by
        rcases hh with h | ⟨b, off, rfl, hlt', hc⟩
        · simp [h] at hjl
        · refine ⟨b, off, rfl, ?_, ?_⟩
          · have h2 := (hB.out.cell (p := ⟨b, off + j * 1 + 0, none⟩) hlt').trans (hc j x (by rw [hx]; exact List.getElem?_eq_getElem (by omega)) 0 _ rfl)
            simpa using h2
          · have h2 := (hB.out.cell (p := ⟨b, off + (j + 1) * 1 + 0, none⟩) hlt').trans (hc (j + 1) y (by rw [hy]; exact List.getElem?_eq_getElem hjl) 0 _ rfl)
            simpa using h2
      obtain ⟨b, off, rfl, hc0, hc1⟩ := hcell
      have HX := Lib.hid hx
      have HY := Lib.hid hy
      clear hx hy hh
      have hsub : ((j + 1 : Nat) : Int) - 1 = (j : Int) := by omega
      by_cases hle : y ≤ x
      · go_wp2
        go_quiet (fail)
        go_wp2
        go_ret
        refine ⟨ret_bool ?_, bdrewN hB.out _⟩
        have := falls_one xs j hjl (by rw [← HX.out, ← HY.out]; exact hle)
        simp [this]
      · go_wp2
        go_quiet (fail)
        go_wp2
        go_roundw
        case measure => simp [intOf]; omega
        case rel =>
          refine ⟨j + 1 + 1, by omega, by omega, by go_num, Lib.hid (bdrewN hB.out _), Lib.hid fun i hi hl => ?_⟩
          by_cases e : i = j
          · subst e
            rw [← HX.out, ← HY.out]
            omega
          · exact hA.out i (by omega) hl
    · have hltz : ¬ (k : Int) < (n : Int) := by omega
      go_wp2
      go_ret
      refine ⟨ret_bool ?_, hB.out⟩
      have := rises_all xs (fun j hj => hA.out j (by have := HN.out; omega) hj)
      simp [this]
end Go.Proofs.Ytckndnaohggmhaa
