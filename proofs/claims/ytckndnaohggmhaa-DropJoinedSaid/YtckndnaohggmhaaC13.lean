/- Texts of the package drop, joined: Mark, Marks, Leads, Side, EveryPlace, CheckSide, CheckWay, Reach. -/
import Derived.Test.YtckndnaohggmhaaC12
import Derived.StillTailTactics
/- mark: all places to which there is a way. -/
namespace Go.Proofs.Ytckndnaohggmhaa
open Go.RowKit Go.Shelf
attribute [local go_sem] Oper.semAt_some
attribute [local irreducible] matCells markCells

/-- There is a way from the k-th place to the i-th one, over places below the twelfth. -/
inductive Way (H : Nat → Nat → Bool) (k : Nat) : Nat → Prop
  | here : Way H k k
  | more {i j : Nat} : Way H k i → j < 12 → H i j = true → Way H k j
theorem Way.trans {H : Nat → Nat → Bool} {k i j : Nat} (h : Way H k i) (h2 : Way H i j) : Way H k j := by
  induction h2 with
  | here => exact h
  | more _ hj hH ih => exact .more ih hj hH

/-- The marks M' after the k-th place was marked over the marks M. -/
structure MarkedTo (H : Nat → Nat → Bool) (k : Nat) (M M' : Nat → Bool) : Prop where
  keep : ∀ i, M i = true → M' i = true
  self : M' k = true
  only : ∀ i, M' i = true → M i = true ∨ Way H k i
  shut : ∀ i, M' i = true → M i = false → ∀ j, j < 12 → H i j = true → M' j = true
/-- .. while its neighbours pre were looked at. -/
structure Marking (H : Nat → Nat → Bool) (k : Nat) (M : Nat → Bool) (pre : List (Beside H k)) (M' : Nat → Bool) : Prop where
  keep : ∀ i, M i = true → M' i = true
  self : M' k = true
  only : ∀ i, M' i = true → M i = true ∨ Way H k i
  shut : ∀ i, M' i = true → M i = false → i ≠ k → ∀ j, j < 12 → H i j = true → M' j = true
  done : ∀ x, x ∈ pre → M' x.val.val = true

/-- How many of the twelve are not marked. -/
def unmarked (M : Nat → Bool) : Nat := (List.range 12).countP fun i => !M i
theorem countP_lt {α : Type} (p q : α → Bool) (x : α) : ∀ l : List α, (∀ y, q y = true → p y = true) → x ∈ l → p x = true → q x = false → l.countP q < l.countP p
  | [], _, hx, _, _ => absurd hx (by simp)
  | y :: l, h, hx, hp, hq => by
    have hle : l.countP q ≤ l.countP p := List.countP_mono_left fun z _ => h z
    rw [List.countP_cons, List.countP_cons]
    rcases List.mem_cons.1 hx with e | hx'
    · subst e
      simp [hp, hq]
      omega
    · have := countP_lt p q x l h hx' hp hq
      by_cases hy : q y = true
      · simp [hy, h y hy]; omega
      · simp [hy]; split <;> omega
theorem unmarked_lt {M M' : Nat → Bool} (h : ∀ i, M i = true → M' i = true) (k : Nat) (hk : k < 12) (h0 : M k = false) (h1 : M' k = true) : unmarked M' < unmarked M :=
  countP_lt _ _ k _ (fun y hy => by
    cases hM : M y with
    | false => rfl
    | true => rw [h y hM] at hy; cases hy) (by simpa using hk) (by simp [h0]) (by simp [h1])

def setMark (M : Nat → Bool) (k : Nat) (i : Nat) : Bool := decide (i = k) || M i
theorem marking_start {H : Nat → Nat → Bool} {k : Nat} {M : Nat → Bool} : Marking H k M [] (setMark M k) where
  keep i h := by simp [setMark, h]
  self := by simp [setMark]
  only i h := by
    simp only [setMark, Bool.or_eq_true, decide_eq_true_eq] at h
    rcases h with rfl | h
    · exact .inr .here
    · exact .inl h
  shut i h h0 hk := by simp [setMark, h0, hk] at h
  done x h := absurd h (by simp)
theorem Marking.skip {H : Nat → Nat → Bool} {k : Nat} {M M' : Nat → Bool} {pre : List (Beside H k)} (h : Marking H k M pre M') (x : Beside H k) (hx : M' x.val.val = true) : Marking H k M (pre ++ [x]) M' :=
  ⟨h.keep, h.self, h.only, h.shut, fun y hy => by
    rcases List.mem_append.1 hy with hy | hy
    · exact h.done y hy
    · rw [List.mem_singleton.1 hy]; exact hx⟩
theorem Marking.call {H : Nat → Nat → Bool} {k : Nat} {M M' M'' : Nat → Bool} {pre : List (Beside H k)} (h : Marking H k M pre M') (x : Beside H k) (hc : MarkedTo H x.val.val M' M'') : Marking H k M (pre ++ [x]) M'' where
  keep i hi := hc.keep i (h.keep i hi)
  self := hc.keep _ h.self
  only i hi := by
    rcases hc.only i hi with h1 | h1
    · exact h.only i h1
    · exact .inr ((Way.more .here x.val.isLt x.property).trans h1)
  shut i hi h0 hik j hj hij := by
    cases hm : M' i with
    | true => exact hc.keep j (h.shut i hm h0 hik j hj hij)
    | false => exact hc.shut i hi hm j hj hij
  done y hy := by
    rcases List.mem_append.1 hy with hy | hy
    · exact hc.keep _ (h.done y hy)
    · rw [List.mem_singleton.1 hy]; exact hc.self
theorem mem_bes (H : Nat → Nat → Bool) (k : Nat) (x : Beside H k) : x ∈ bes H k 12 := by
  unfold bes
  rw [List.take_of_length_le (by simp), List.mem_filterMap]
  exact ⟨x.val, List.mem_finRange _, by rw [dif_pos x.property]⟩
theorem Marking.end {H : Nat → Nat → Bool} {k : Nat} {M M' : Nat → Bool} (h : Marking H k M (bes H k 12) M') : MarkedTo H k M M' :=
  ⟨h.keep, h.self, h.only, fun i hi h0 j hj hij => by
    by_cases e : i = k
    · subst e
      exact h.done ⟨⟨j, hj⟩, hij⟩ (mem_bes H i _)
    · exact h.shut i hi h0 e j hj hij⟩

theorem enters97 : ∀ args w, (callFunc 97 args).run Try.prog w = .ok (.enter 97 args) w := enters_of Try.func97 (by kernel_rfl) rfl

theorem grownBy_trans {A B C : World} {row : Option Nat} (h : A.grownBy B row) (k : B.grownBy C row) : A.grownBy C row :=
  ⟨k.os.trans h.os, k.tape.trans h.tape, k.output.trans h.output, Nat.le_trans h.size k.size, fun i hi hne => (k.block i (Nat.lt_of_lt_of_le hi h.size) hne).trans (h.block i hi hne)⟩
theorem grownBy_alloc_of {A B : World} {row : Option Nat} (h : A.grownBy B row) (o : Obj) : A.grownBy (B.alloc o) row := grownBy_trans h (World.grownBy_alloc B o row)
theorem grownBy_drew {A B : World} {row : Option Nat} (h : A.grownBy B row) : A.grownBy B.drew row := ⟨h.os, h.tape, h.output, h.size, h.block⟩
theorem grownBy_set {m : Nat} {A B : World} (h : A.grownBy B (some m)) (o : Nat) (v : Value) : A.grownBy (B.setCell ⟨m, o, none⟩ v) (some m) :=
  ⟨h.os, h.tape, h.output, by simpa [World.setCell] using h.size, fun i hi hne => (heap_set_other B m o i v (fun e => hne (by rw [e]))).trans (h.block i hi hne)⟩
def MarkPost (H : Nat → Nat → Bool) (k m : Nat) (M : Nat → Bool) (w : World) (e : Ending) (w' : World) : Prop :=
  e = .returned (.tuple #[]) ∧ w.grownBy w' (some m) ∧ ∃ M', w'.heap[m]? = some (.cells (markCells M') 4 (0, 0)) ∧ MarkedTo H k M M'

set_option maxRecDepth 100000 in
set_option maxHeartbeats 2000000 in
theorem mark_any (H : Nat → Nat → Bool) (b m c : Nat) (hbm : m ≠ b) : ∀ (d : Nat) (k : Nat) (M : Nat → Bool) (w : World), k < 12 → M k = false → unmarked M ≤ d →
    w.heap[b]? = some (.cells (matCells H) 135 (0, 0)) → w.heap[m]? = some (.cells (markCells M) 4 (0, 0)) →
    Calls Try.prog 97 #[.pointer (some ⟨b, 0, none⟩), .int .i64 ((k : Int) - 2), .slice (some ⟨m, 0, none⟩) 12 c] w (MarkPost H k m M w)
  | 0, k, M, w, hk, hM, hd, _, _ => by
    exfalso
    have : 0 < unmarked M := List.countP_pos_iff.2 ⟨k, by simpa using hk, by simp [hM]⟩
    omega
  | d + 1, k, M, w, hk, hM, hd, hb, hm => by
    have IH := Lib.hid (mark_any H b m c hbm d)
    have hbl : b < w.heap.size := (Array.getElem?_eq_some_iff.1 hb).1
    have hml : m < w.heap.size := (Array.getElem?_eq_some_iff.1 hm).1
    have hne1 : m ≠ w.heap.size := by omega
    have hne2 : m ≠ w.heap.size + 1 := by omega
    refine (callsIn_wide (n := 12)).1 ?_
    refine callsIn_of_wp_marks Try.func97 rfl trivial ?_ rfl
    simp only [Try.ntmps97, List.size_toArray, List.length_cons, List.length_nil, Nat.reduceAdd, Nat.reduceSub, Array.replicate_succ, Array.replicate_zero, List.push_toArray, List.append_toArray, List.nil_append, List.cons_append]
    gi_wp2
    have b1 : Boxed ((w.alloc (.cells #[.pointer (some ⟨b, 0, none⟩)] 108)).alloc (.cells #[.slice (some ⟨m, 0, none⟩) 12 c] 117)) w.heap.size 108 (.pointer (some ⟨b, 0, none⟩)) := (Boxed.new w 108 _).alloc _
    have b2 : Boxed ((w.alloc (.cells #[.pointer (some ⟨b, 0, none⟩)] 108)).alloc (.cells #[.slice (some ⟨m, 0, none⟩) 12 c] 117)) (w.heap.size + 1) 117 (.slice (some ⟨m, 0, none⟩) 12 c) := row_last _ _ _ (by simp)
    have m0 := row_alloc _ _ _ (.cells #[.slice (some ⟨m, 0, none⟩) 12 c] 117) (row_alloc _ _ _ (.cells #[.pointer (some ⟨b, 0, none⟩)] 108) hm)
    have g0 : w.grownBy ((w.alloc (.cells #[.pointer (some ⟨b, 0, none⟩)] 108)).alloc (.cells #[.slice (some ⟨m, 0, none⟩) 12 c] 117)) (some m) := grownBy_alloc_of (World.grownBy_alloc _ _ _) _
    obtain ⟨W0, hW0⟩ : ∃ W0, ((w.alloc (.cells #[.pointer (some ⟨b, 0, none⟩)] 108)).alloc (.cells #[.slice (some ⟨m, 0, none⟩) 12 c] 117)) = W0 := ⟨_, rfl⟩
    rw [hW0] at b1 b2 m0 g0 ⊢
    clear hW0
    have c1 := b1.cell
    have c2 := b2.cell
    have gc := (cell_of_row _ _ _ _ _ _ m0).trans (markCells_get M k hk)
    have gf : W0.frozen? ⟨m, k, none⟩ = false := by simp [World.frozen?, m0]
    have r0 := row_setCell W0 m k (.bool true) _ _ _ m0
    rw [markCells_set M (setMark M k) k true (by simp [setMark]) (fun a _ ha => by simp [setMark, ha])] at r0
    have B1 : Boxed (W0.setCell ⟨m, k, none⟩ (.bool true)) w.heap.size 108 (.pointer (some ⟨b, 0, none⟩)) := (heap_set_other W0 _ _ _ _ (by omega)).trans b1
    have B2 : Boxed (W0.setCell ⟨m, k, none⟩ (.bool true)) (w.heap.size + 1) 117 (.slice (some ⟨m, 0, none⟩) 12 c) := (heap_set_other W0 _ _ _ _ (by omega)).trans b2
    have G1 := grownBy_set g0 k (.bool true)
    have hSz : (W0.setCell ⟨m, k, none⟩ (.bool true)).heap.size = W0.heap.size := by simp [World.setCell]
    have hz0 : w.heap.size + 2 ≤ W0.heap.size := by have := b2.lt; omega
    have HR : Hid (∃ WL, (((W0.setCell ⟨m, k, none⟩ (.bool true)).alloc (.cells #[.pointer (some ⟨b, 0, none⟩)] 108)).alloc (.cells #[.int .i64 ((k : Int) - 2)] 3)).drew = WL ∧
        WL.heap[m]? = some (.cells (markCells (setMark M k)) 4 (0, 0)) ∧ Boxed WL w.heap.size 108 (.pointer (some ⟨b, 0, none⟩)) ∧ Boxed WL (w.heap.size + 1) 117 (.slice (some ⟨m, 0, none⟩) 12 c) ∧ w.grownBy WL (some m) ∧
        Boxed WL W0.heap.size 108 (.pointer (some ⟨b, 0, none⟩)) ∧ Boxed WL (W0.heap.size + 1) 3 (.int .i64 ((k : Int) - 2))) :=
      Lib.hid ⟨_, rfl, row_alloc _ _ _ _ (row_alloc _ _ _ _ r0), (B1.alloc _).alloc _, (B2.alloc _).alloc _, grownBy_drew (grownBy_alloc_of (grownBy_alloc_of G1 _) _), by
        have := (Boxed.new (W0.setCell ⟨m, k, none⟩ (.bool true)) 108 (.pointer (some ⟨b, 0, none⟩))).alloc (.cells #[.int .i64 ((k : Int) - 2)] 3)
        rw [hSz] at this
        exact this, by
        have := Boxed.new ((W0.setCell ⟨m, k, none⟩ (.bool true)).alloc (.cells #[.pointer (some ⟨b, 0, none⟩)] 108)) 3 (.int .i64 ((k : Int) - 2))
        rw [World.size_alloc, hSz] at this
        exact this⟩
    have hkz : (k : Int) < 12 := by omega
    have hmx : Try.prog.follows .mixedOrders = true := by kernel_rfl
    clear r0 B1 B2 G1 b1 b2 m0 g0 hSz
    refine wpIn_wide.2 ?_
    refine wp_region_still_tail 4 hmx (by kernel_rfl) ?_
    clear hmx
    simp only [List.take_succ_cons, List.take_zero, List.drop_succ_cons, List.drop_zero]
    still_step
    still_step
    still_call (at_pl k _ (by omega))
    still_step
    refine wpStill_nil ?_
    go_wp2
    gi_wp2_with (refine ⟨trivial, ?_⟩; gi_at_call 119; refine (callsIn_wide.2 (beside_any_it b k _)).mono ?_; rintro e w' ⟨rfl, rfl⟩)
    clear c1 c2 gc gf
    obtain ⟨WL, hWL, r0, B1, B2, G1, B3, B4⟩ := HR.out
    rw [hWL]
    clear hWL HR
    have hbW : WL.heap[b]? = some (.cells (matCells H) 135 (0, 0)) := (G1.block b hbl (fun e => hbm (Option.some.inj e).symm)).trans hb
    have hzL : W0.heap.size + 1 < WL.heap.size := B4.lt
    refine wpIn_rangeFunc_ownH rfl (by omega) (gf := 126) (lb := #[.pointer (some ⟨W0.heap.size, 0, none⟩), .pointer (some ⟨W0.heap.size + 1, 0, none⟩)]) rfl trivial enters126
      (beside_stops (12 - 1) (by omega) W0.heap.size (W0.heap.size + 1) b k hk H WL (by omega) hzL B3.cell B4.cell hbW) (fun _ _ => trivial) (fun _ _ _ _ _ _ _ _ => trivial) (Below.refl _ _) (fun _ => rfl)
      (fun pre W => (∃ M', W.heap[m]? = some (.cells (markCells M') 4 (0, 0)) ∧ Marking H k M pre M') ∧ Boxed W w.heap.size 108 (.pointer (some ⟨b, 0, none⟩)) ∧ Boxed W (w.heap.size + 1) 117 (.slice (some ⟨m, 0, none⟩) 12 c) ∧ w.grownBy W (some m))
      (fun _ _ _ => False)
      (fun pre X Y row hs hg hr => by
        obtain ⟨⟨M', h1, h2⟩, h3, h4, h5⟩ := hs
        refine ⟨⟨M', heap_kept h1 hg (fun r e => (hr r e).2), h2⟩, boxed_own _ _ (fun (_ : Unit) => _) () X Y row h3 hg (fun r e => (hr r e).2), boxed_own _ _ (fun (_ : Unit) => _) () X Y row h4 hg (fun r e => (hr r e).2), ?_⟩
        exact ⟨hg.os.trans h5.os, hg.tape.trans h5.tape, hg.output.trans h5.output, Nat.le_trans h5.size hg.size, fun i hi hne => (hg.block i (Nat.lt_of_lt_of_le hi h5.size) (fun e => by have := (hr i e.symm).1; omega)).trans (h5.block i hi hne)⟩)
      (fun _ _ _ _ _ hs _ _ => hs)
      ⟨⟨_, r0, marking_start⟩, B1, B2, G1⟩
      (fun x a' _ => a' = { tmps := #[.pointer (some ⟨b, 0, none⟩), .int .i64 ((k : Int) - 2), .slice (some ⟨m, 0, none⟩) 12 c, .pointer (some ⟨w.heap.size, 0, none⟩), undef, .pointer (some ⟨w.heap.size + 1, 0, none⟩), .int .i64 ((x.val.val : Int) - 2), .slice (some ⟨m, 0, none⟩) 12 c, .int .i64 ((k : Int) - 2), .int .i64 k, .pointer (some ⟨m, k, none⟩), .pointer (some ⟨b, 0, none⟩), .int .i64 ((k : Int) - 2), .func (.func 126) #[] #[.pointer (some ⟨W0.heap.size, 0, none⟩), .pointer (some ⟨W0.heap.size + 1, 0, none⟩)], .int .i64 ((x.val.val : Int) - 2), undef, undef, undef, undef, undef, undef, undef, undef, undef, undef], defers := [] })
      (fun _ _ _ _ _ _ hs _ _ => hs)
      ?assign ?body ?done ?stop
    case assign =>
      rintro l pre x W K hI hK
      gi_wp2
      exact hK _ _ (KeepsFrom.refl _ _) trivial hI rfl
    case body =>
      rintro l pre x a' W hl ⟨r, hr⟩ ⟨⟨M', e0, hMk⟩, e1, e2, e3⟩ rfl hlt
      have hx := x.val.isLt
      have hxz : (x.val.val : Int) < 12 := by omega
      have c1 := e1.cell
      have c2 := e2.cell
      have gc := (cell_of_row _ _ _ _ _ _ e0).trans (markCells_get M' x.val.val hx)
      have hmx : Try.prog.follows .mixedOrders = true := by kernel_rfl
      have hbW2 : W.drew.heap[b]? = some (.cells (matCells H) 135 (0, 0)) := (e3.block b hbl (fun e => hbm (Option.some.inj e).symm)).trans hb
      cases hx' : M' x.val.val with
      | true =>
        rw [hx'] at gc
        gi_wp2
        refine round_still_tail 5 hmx (by kernel_rfl) (by kernel_rfl) ?_
        clear hmx
        simp only [List.take_succ_cons, List.take_zero, List.drop_succ_cons, List.drop_zero]
        still_step
        still_step
        still_call (at_pl x.val.val _ (by omega))
        still_step
        still_step
        refine wpStill_nil ?_
        go_wp2
        gi_wp2
        exact ⟨(KeepsOthers.drew _).from _, trivial, ⟨M', e0, hMk.skip x hx'⟩, e1, e2, grownBy_drew e3⟩
      | false =>
        rw [hx'] at gc
        have hIH := IH.out x.val.val M' W.drew hx hx' (by have := unmarked_lt hMk.keep k hk hM hMk.self; omega) hbW2 e0
        have HIH := Lib.hid hIH
        clear hIH
        gi_wp2
        refine round_still_tail 5 hmx (by kernel_rfl) (by kernel_rfl) ?_
        clear hmx
        simp only [List.take_succ_cons, List.take_zero, List.drop_succ_cons, List.drop_zero]
        still_step
        still_step
        still_call (at_pl x.val.val _ (by omega))
        still_step
        still_step
        refine wpStill_nil ?_
        go_wp2
        gi_wp2_with (refine ⟨trivial, ?_⟩; gi_at_call 97; refine (CallsIn.inRound l (callsIn_wide.2 HIH.out)).mono ?_; rintro e w2 ⟨rfl, hg2, M2, f0, hM2⟩)
        have hg2' : W.grownBy w2 (some m) := ⟨hg2.os, hg2.tape, hg2.output, hg2.size, hg2.block⟩
        have hko : KeepsOthers W w2 := (KeepsOthers.drew W).trans (KeepsOthers.of_grownBy hg2 (fun j o e ho => by cases e; rw [show W.drew.heap[m]? = _ from e0] at ho; cases ho; rfl))
        exact ⟨hko.from _, trivial, ⟨M2, f0, hMk.call x hM2⟩, e1.kept hg2' (fun e => hne1 (Option.some.inj e).symm), e2.kept hg2' (fun e => hne2 (Option.some.inj e).symm), grownBy_trans e3 hg2'⟩
    case done =>
      rintro D zs W hD rfl ⟨⟨M', e0, hMk⟩, e1, e2, e3⟩ hK
      gi_wp2
      refine ⟨by simp, .inl ⟨_, _, rfl, run_takeDeferred hK, ?_⟩⟩
      have hg := grownBy_putObj' W D (.deferred none)
      refine ⟨_, results_none rfl _ _ _, rfl, ?_, M', heap_kept e0 hg (fun r e => by cases e; exact ⟨_, hK, rfl⟩), hMk.end⟩
      exact ⟨hg.os.trans e3.os, hg.tape.trans e3.tape, hg.output.trans e3.output, Nat.le_trans e3.size hg.size, fun i hi hne => (hg.block i (Nat.lt_of_lt_of_le hi e3.size) (fun e => by cases e; omega)).trans (e3.block i hi hne)⟩
    case stop =>
      rintro D c pre W _ _ h _
      exact h.elim
end Go.Proofs.Ytckndnaohggmhaa

/- Leaving a function whose loop held a range over a function in each of its rounds: a row of marks, each of a block of its own. -/
namespace Go.Proofs.Ytckndnaohggmhaa
open Go.RowKit Go.Shelf

/-- The mark that a range over a function leaves among the deferred calls. -/
abbrev markOf (D : Nat) : Deferred := { target := .collected D, args := #[] }
/-- The blocks Ds, and no others, were shut. -/
structure ShutOf (Ds : List Nat) (W W' : World) : Prop where
  os : W'.os = W.os
  tape : W'.tape = W.tape
  output : W'.output = W.output
  size : W'.heap.size = W.heap.size
  block : ∀ i, i ∉ Ds → W'.heap[i]? = W.heap[i]?
theorem ShutOf.below {Ds : List Nat} {W W' : World} {B : Nat} (h : ShutOf Ds W W') (hB : ∀ D, D ∈ Ds → B ≤ D) : Below B W W' :=
  ⟨h.os, h.tape, h.output, by rw [h.size]; exact Nat.le_refl _, fun i hi => h.block i (fun e => by have := hB i e; omega)⟩

theorem leavesM_marks {F : Fence} {n : Nat} {P : Program} {fn : Func} {tmps : Array Value} {R : Ending → World → Prop} : ∀ (Ds : List Nat) (W : World), Ds.Nodup → (∀ D, D ∈ Ds → W.heap[D]? = some (.deferred (some []))) →
    (∀ W', ShutOf Ds W W' → LeavesInM F n P fn tmps R [] .returning W') → LeavesInM F n P fn tmps R (Ds.map markOf) .returning W
  | [], W, _, _, h => h W ⟨rfl, rfl, rfl, rfl, fun _ _ => rfl⟩
  | D :: Ds, W, hn, hall, h => by
    have hD := hall D (by simp)
    rw [List.nodup_cons] at hn
    have hg := grownBy_putObj' W D (.deferred none)
    have hz : (W.putObj D (.deferred none)).heap.size = W.heap.size := by simp [World.putObj]
    refine ⟨by simp, .inl ⟨D, _, rfl, run_takeDeferred hD, leavesM_marks Ds _ hn.2 (fun E hE => ?_) (fun W' hs => h W' ?_)⟩⟩
    · have hlt : E < W.heap.size := (Array.getElem?_eq_some_iff.1 (hall E (by simp [hE]))).1
      exact (hg.block E hlt (fun e => hn.1 (by cases e; exact hE))).trans (hall E (by simp [hE]))
    · refine ⟨hs.os.trans hg.os, hs.tape.trans hg.tape, hs.output.trans hg.output, hs.size.trans hz, fun i hi => ?_⟩
      rw [List.mem_cons, not_or] at hi
      rw [hs.block i hi.2]
      show (W.heap.setIfInBounds D _)[i]? = _
      rw [Array.getElem?_setIfInBounds_ne (fun e => hi.1 e.symm)]
end Go.Proofs.Ytckndnaohggmhaa

/- leads: whether some place that is marked holds together with one that is not. -/
namespace Go.Proofs.Ytckndnaohggmhaa
open Go.RowKit Go.Shelf
attribute [local go_sem] Oper.semAt_some
attribute [local irreducible] matCells markCells

theorem flat_ints : ∀ xs : List Int, xs.flatMap encI = xs.map (Value.int .i64)
  | [] => rfl
  | x :: xs => by rw [List.flatMap_cons, List.map_cons, flat_ints xs]; rfl
theorem madeInts_held {base : Nat} {xs : List Int} {w : World} {v : Value} (h : MadeInts base xs w v) : ∃ A c, v = .slice A xs.length c ∧ xs.length ≤ c ∧ Held w w.heap.size 1 encI A xs :=
  held_of_own (base := base) (e := 3) encI (fun _ => rfl) xs rfl (by rw [flat_ints]; exact h.1)

/-- The marked places, increasing. -/
def marked (M : Nat → Bool) : List Nat := (List.range 12).filter M
theorem listTo_marked (M : Nat → Bool) : listTo M 12 = (marked M).map fun i : Nat => (i : Int) - 2 := by
  unfold listTo marked
  induction List.range 12 with
  | nil => rfl
  | cons i is ih => by_cases h : M i <;> simp [h, ih]
theorem marked_lt {M : Nat → Bool} {i : Nat} (h : i ∈ marked M) : i < 12 := by
  unfold marked at h
  simpa using (List.mem_filter.1 h).1
def leadsB (H : Nat → Nat → Bool) (M : Nat → Bool) : Bool := (marked M).any fun i => (List.range 12).any fun j => H i j && !M j

set_option maxRecDepth 100000 in
set_option maxHeartbeats 2000000 in
theorem leads_any (H : Nat → Nat → Bool) (M : Nat → Bool) (b m c : Nat) (w : World) (hb : w.heap[b]? = some (.cells (matCells H) 135 (0, 0))) (hm : w.heap[m]? = some (.cells (markCells M) 4 (0, 0))) :
    Calls Try.prog 104 #[.pointer (some ⟨b, 0, none⟩), .slice (some ⟨m, 0, none⟩) 12 c] w fun e w' => e = .returned (.bool (leadsB H M)) ∧ Below w.heap.size w w' := by
  have hbl : b < w.heap.size := (Array.getElem?_eq_some_iff.1 hb).1
  have hml : m < w.heap.size := (Array.getElem?_eq_some_iff.1 hm).1
  refine (callsIn_wide (n := 12)).1 ?_
  refine callsIn_of_wp_marks Try.func104 rfl trivial ?_ rfl
  simp only [Try.ntmps104, List.size_toArray, List.length_cons, List.length_nil, Nat.reduceAdd, Nat.reduceSub, Array.replicate_succ, Array.replicate_zero, List.push_toArray, List.append_toArray, List.nil_append, List.cons_append]
  have hcall := listed_any m c M ((w.alloc (.cells #[.slice (some ⟨m, 0, none⟩) 12 c] 117)).alloc (.cells #[.bool false] 4)) (row_alloc _ _ _ _ (row_alloc _ _ _ _ hm))
  rw [listTo_marked] at hcall
  have hlt : ∀ p, p ∈ marked M → p < 12 := fun p hp => marked_lt hp
  have hans : leadsB H M = (marked M).any fun i => (List.range 12).any fun j => H i j && !M j := rfl
  have hlen : (marked M).length ≤ 12 := by
    unfold marked
    exact Nat.le_trans (List.length_filter_le _ _) (by simp)
  generalize marked M = Lp at hcall hlt hans hlen
  generalize leadsB H M = ans at hans ⊢
  have HA := Lib.hid hans
  have HLT := Lib.hid hlt
  clear hans hlt
  gi_wp2_with (refine ⟨trivial, ?_⟩; gi_at_call 98; refine (callsIn_wide.2 hcall).mono ?_; rintro e WB ⟨v, rfl, hO, hB⟩; obtain ⟨A, cc, rfl, hcc, hH⟩ := madeInts_held hO; rw [List.length_map] at *)
  clear hcall hO hcc
  have b1 : Boxed WB w.heap.size 117 (.slice (some ⟨m, 0, none⟩) 12 c) := (hB.block _ (by simp; omega)).trans ((Boxed.new w 117 _).alloc _)
  have b2 : Boxed WB (w.heap.size + 1) 4 (.bool false) := (hB.block _ (by simp)).trans (row_last _ _ _ (by simp))
  have hB0 : Below w.heap.size w WB := ((((Below.refl _ w).alloc (Nat.le_refl _) _).alloc (by simp) _)).trans (hB.mono (by simp; omega))
  clear hB
  have hz := b2.lt
  refine wpIn_loop (fun a' w1 => ∃ (q : Nat) (Ds : List Nat) (u6 u12 u13 u14 u15 u16 u17 u25 : Value), (q ≤ Lp.length ∧ (∀ i, i < q → ∀ p, Lp[i]? = some p → ∀ j, j < 12 → H p j = true → M j = true) ∧ Ds.Nodup ∧ (∀ D, D ∈ Ds → WB.heap.size ≤ D ∧ w1.heap[D]? = some (.deferred (some []))) ∧ Below WB.heap.size WB w1) ∧
      a' = { tmps := #[.pointer (some ⟨b, 0, none⟩), .slice (some ⟨m, 0, none⟩) 12 c, undef, .pointer (some ⟨w.heap.size, 0, none⟩), .pointer (some ⟨w.heap.size + 1, 0, none⟩), undef, u6, undef, .slice (some ⟨m, 0, none⟩) 12 c, .slice A Lp.length cc, .int .i64 Lp.length, .int .i64 q, u12, u13, u14, u15, u16, u17, undef, undef, undef, undef, undef, undef, undef, u25], defers := Ds.map markOf })
    (fun a' _ => 13 - (intOf (a'.tmps.getD 11 undef)).toNat) ?_ ?_
  · exact ⟨0, [], undef, undef, undef, undef, undef, undef, undef, undef, ⟨Nat.zero_le _, fun i hi => absurd hi (Nat.not_lt_zero _), List.nodup_nil, fun D hD => absurd hD (by simp), Below.refl _ _⟩, rfl⟩
  · rintro _ w1 ⟨q, Ds, u6, u12, u13, u14, u15, u16, u17, u25, ⟨hq, hdone, hnd, hDs, hB1⟩, rfl⟩
    have hDone := Lib.hid hdone
    have hDS := Lib.hid (And.intro hnd hDs)
    clear hdone hnd hDs
    have hB1z := hB1.size
    by_cases hlt : q < Lp.length
    · have hltz : (q : Int) < (Lp.length : Int) := by omega
      obtain ⟨p, hp⟩ : ∃ p, Lp[q]? = some p := ⟨_, List.getElem?_eq_getElem hlt⟩
      have hp12 := HLT.out p (List.mem_of_getElem? hp)
      have hcell : ∃ g off, A = some ⟨g, off, none⟩ ∧ w1.cell? ⟨g, off + q, none⟩ = some (.int .i64 ((p : Int) - 2)) := by
        rcases hH with h | ⟨g, off, rfl, hlt', hc⟩
        · have : Lp = [] := by simpa using h
          simp [this] at hlt
        · refine ⟨g, off, rfl, ?_⟩
          have h2 := (hB1.cell (p := ⟨g, off + q * 1 + 0, none⟩) hlt').trans (hc q ((p : Int) - 2) (by rw [List.getElem?_map, hp]; rfl) 0 _ rfl)
          simpa using h2
      obtain ⟨g, off, hA, hc⟩ := hcell
      subst hA
      gi_wp2_with (refine ⟨trivial, ?_⟩; gi_at_call 119; refine (callsIn_wide.2 (beside_any_it b p _)).mono ?_; rintro e w' ⟨rfl, rfl⟩)
      have z2 : ((w1.alloc (.cells #[.pointer (some ⟨b, 0, none⟩)] 108)).alloc (.cells #[.int .i64 ((p : Int) - 2)] 3)).heap.size = w1.heap.size + 2 := by simp
      have B3 : Boxed ((w1.alloc (.cells #[.pointer (some ⟨b, 0, none⟩)] 108)).alloc (.cells #[.int .i64 ((p : Int) - 2)] 3)) w1.heap.size 108 (.pointer (some ⟨b, 0, none⟩)) := (Boxed.new w1 108 _).alloc _
      have B4 : Boxed ((w1.alloc (.cells #[.pointer (some ⟨b, 0, none⟩)] 108)).alloc (.cells #[.int .i64 ((p : Int) - 2)] 3)) (w1.heap.size + 1) 3 (.int .i64 ((p : Int) - 2)) := row_last _ _ _ (by simp)
      have hB2 : Below w1.heap.size w1 ((w1.alloc (.cells #[.pointer (some ⟨b, 0, none⟩)] 108)).alloc (.cells #[.int .i64 ((p : Int) - 2)] 3)) := ((Below.refl _ w1).alloc (Nat.le_refl _) _).alloc (by simp) _
      obtain ⟨WI, hWI⟩ : ∃ WI, ((w1.alloc (.cells #[.pointer (some ⟨b, 0, none⟩)] 108)).alloc (.cells #[.int .i64 ((p : Int) - 2)] 3)) = WI := ⟨_, rfl⟩
      rw [hWI] at z2 B3 B4 hB2 ⊢
      clear hWI
      have hBI : Below WB.heap.size WB WI := hB1.trans (hB2.mono hB1z)
      have hbI : WI.heap[b]? = some (.cells (matCells H) 135 (0, 0)) := (hBI.block b (by omega)).trans ((hB0.block b hbl).trans hb)
      have hmI : WI.heap[m]? = some (.cells (markCells M) 4 (0, 0)) := (hBI.block m (by omega)).trans ((hB0.block m hml).trans hm)
      have b1I : Boxed WI w.heap.size 117 (.slice (some ⟨m, 0, none⟩) 12 c) := (hBI.block _ (by omega)).trans b1
      have b2I : Boxed WI (w.heap.size + 1) 4 (.bool false) := (hBI.block _ (by omega)).trans b2
      refine wpIn_rangeFunc_ownH rfl (by omega) (gf := 126) (lb := #[.pointer (some ⟨w1.heap.size, 0, none⟩), .pointer (some ⟨w1.heap.size + 1, 0, none⟩)]) rfl trivial enters126
        (beside_stops (12 - 1) (by omega) w1.heap.size (w1.heap.size + 1) b p hp12 H WI (by omega) (by omega) B3.cell B4.cell hbI) (fun _ _ => trivial) (fun _ _ _ _ _ _ _ _ => trivial) (Below.refl _ _) (fun _ => rfl)
        (fun pre W => (∀ x : Beside H p, x ∈ pre → M x.val.val = true) ∧ Below WI.heap.size WI W)
        (fun cd pre W => (cd = .ret ∧ ∃ x : Beside H p, x ∈ pre ∧ M x.val.val = false) ∧ Boxed W (w.heap.size + 1) 4 (.bool true) ∧ WI.grownBy W (some (w.heap.size + 1)))
        (fun pre X Y row hs hg hr => ⟨hs.1, hs.2.grown hg hs.2.size (fun r e => (hr r e).1)⟩)
        (fun cd pre X Y row hs hg hr => by
          obtain ⟨h1, h2, h5⟩ := hs
          refine ⟨h1, boxed_own _ _ (fun (_ : Unit) => _) () X Y row h2 hg (fun r e => (hr r e).2), ?_⟩
          exact ⟨hg.os.trans h5.os, hg.tape.trans h5.tape, hg.output.trans h5.output, Nat.le_trans h5.size hg.size, fun i hi hne => (hg.block i (Nat.lt_of_lt_of_le hi h5.size) (fun e => by have := (hr i e.symm).1; omega)).trans (h5.block i hi hne)⟩)
        ⟨fun x hx => absurd hx (by simp), Below.refl _ _⟩
        (fun x a' _ => a' = { tmps := #[.pointer (some ⟨b, 0, none⟩), .slice (some ⟨m, 0, none⟩) 12 c, undef, .pointer (some ⟨w.heap.size, 0, none⟩), .pointer (some ⟨w.heap.size + 1, 0, none⟩), undef, .int .i64 ((p : Int) - 2), .int .i64 ((x.val.val : Int) - 2), .slice (some ⟨m, 0, none⟩) 12 c, .slice (some ⟨g, off, none⟩) Lp.length cc, .int .i64 Lp.length, .int .i64 q, .bool true, .pointer (some ⟨g, off + q, none⟩), .int .i64 ((p : Int) - 2), .pointer (some ⟨b, 0, none⟩), .int .i64 ((p : Int) - 2), .func (.func 126) #[] #[.pointer (some ⟨w1.heap.size, 0, none⟩), .pointer (some ⟨w1.heap.size + 1, 0, none⟩)], .int .i64 ((x.val.val : Int) - 2), undef, undef, undef, undef, undef, undef, u25], defers := [] })
        (fun _ _ _ _ _ _ hs _ _ => hs)
        ?assign ?body ?done ?stop
      case assign =>
        rintro l pre x W K hI hK
        gi_wp2
        exact hK _ _ (KeepsFrom.refl _ _) trivial hI rfl
      case body =>
        rintro l pre x a' W hl ⟨r, hr⟩ ⟨hpre, hBW⟩ rfl hlt2
        have hx := x.val.isLt
        have hxz : (x.val.val : Int) < 12 := by omega
        have hzW := hBW.size
        have C1 : Boxed W w.heap.size 117 (.slice (some ⟨m, 0, none⟩) 12 c) := (hBW.block _ (by omega)).trans b1I
        have c1 := C1.cell
        have B2W : Boxed W (w.heap.size + 1) 4 (.bool false) := (hBW.block _ (by omega)).trans b2I
        have c2 := B2W.cell
        have f2 := B2W.frozen
        have gc := (cell_of_row _ _ _ _ _ _ ((hBW.block m (by omega)).trans hmI)).trans (markCells_get M x.val.val hx)
        have hmx : Try.prog.follows .mixedOrders = true := by kernel_rfl
        cases hx' : M x.val.val with
        | true =>
          rw [hx'] at gc
          gi_wp2
          refine round_still_tail 5 hmx (by kernel_rfl) (by kernel_rfl) ?_
          clear hmx
          simp only [List.take_succ_cons, List.take_zero, List.drop_succ_cons, List.drop_zero]
          still_step
          still_step
          still_call (at_pl x.val.val _ (by omega))
          still_step
          still_step
          refine wpStill_nil ?_
          go_wp2
          gi_wp2
          exact ⟨(KeepsOthers.drew _).from _, trivial, fun y hy => by
            rcases List.mem_append.1 hy with hy | hy
            · exact hpre y hy
            · rw [List.mem_singleton.1 hy]; exact hx', hBW.drew⟩
        | false =>
          rw [hx'] at gc
          gi_wp2
          refine round_still_tail 5 hmx (by kernel_rfl) (by kernel_rfl) ?_
          clear hmx
          simp only [List.take_succ_cons, List.take_zero, List.drop_succ_cons, List.drop_zero]
          still_step
          still_step
          still_call (at_pl x.val.val _ (by omega))
          still_step
          still_step
          refine wpStill_nil ?_
          go_wp2
          gi_wp2
          have hG0 : WI.grownBy W (some (w.heap.size + 1)) := ⟨hBW.os, hBW.tape, hBW.output, hBW.size, fun i hi _ => hBW.block i hi⟩
          refine ⟨((KeepsOthers.setCell W ⟨w.heap.size + 1, 0, none⟩ (.bool true)).trans (KeepsOthers.drew _)).from _, ⟨rfl, x, by simp, hx'⟩, B2W.set (.bool true), grownBy_drew (grownBy_set hG0 0 (.bool true))⟩
      case done =>
        rintro D zs W hD rfl ⟨hpre, hBW⟩ hK
        gi_wp2
        have hW1 : ∀ E, E ∈ Ds → E < w1.heap.size := fun E hE => (Array.getElem?_eq_some_iff.1 (hDS.out.2 E hE).2).1
        refine ⟨⟨q + 1, D :: Ds, _, _, _, _, _, _, _, _, ⟨by omega, ?_, ?_, ?_, hBI.trans (hBW.mono (by omega))⟩, by rw [show ((q + 1 : Nat) : Int) = (q : Int) + 1 from by omega]; rfl⟩, ?_⟩
        · intro i hi p' hp' j hj hH'
          by_cases e : i = q
          · subst e
            rw [hp] at hp'
            cases hp'
            exact hpre ⟨⟨j, hj⟩, hH'⟩ (mem_bes H p _)
          · exact hDone.out i (by omega) p' hp' j hj hH'
        · exact List.nodup_cons.2 ⟨fun e => by have := hW1 D e; omega, hDS.out.1⟩
        · intro E hE
          rcases List.mem_cons.1 hE with rfl | hE
          · exact ⟨by omega, hK⟩
          · have := hW1 E hE
            exact ⟨(hDS.out.2 E hE).1, ((hBW.block E (by omega)).trans (hB2.block E this)).trans (hDS.out.2 E hE).2⟩
        · simp [intOf]; omega
      case stop =>
        rintro D cd pre W hD hsp ⟨⟨rfl, x, hx, hMx⟩, B2W, hG⟩ hK
        gi_wp2
        have hW1 : ∀ E, E ∈ Ds → E < w1.heap.size := fun E hE => (Array.getElem?_eq_some_iff.1 (hDS.out.2 E hE).2).1
        refine leavesM_marks (D :: Ds) W (List.nodup_cons.2 ⟨fun e => by have := hW1 D e; omega, hDS.out.1⟩) (fun E hE => ?_) (fun W' hs => ?_)
        · rcases List.mem_cons.1 hE with rfl | hE
          · exact hK
          · have := hW1 E hE
            have := (hDS.out.2 E hE).1
            exact ((hG.block E (by omega) (fun e => by cases e; omega)).trans (hB2.block E (by omega))).trans (hDS.out.2 E hE).2
        · have hnot : w.heap.size + 1 ∉ D :: Ds := fun e => by
            rcases List.mem_cons.1 e with e | e
            · omega
            · have := (hDS.out.2 _ e).1; omega
          have hc5 : W'.cell? ⟨w.heap.size + 1, 0, none⟩ = some (.bool true) := (World.cell?_of_block (hs.block _ hnot)).trans B2W.cell
          have hans : ans = true := by
            rw [HA.out, List.any_eq_true]
            refine ⟨p, List.mem_of_getElem? hp, ?_⟩
            rw [List.any_eq_true]
            exact ⟨x.val.val, by simp, by simp [x.property, hMx]⟩
          refine ⟨.bool true, ?_, by rw [hans], ((hB0.trans (hBI.mono hB0.size)).grown hG (by omega) (fun k e => by cases e; omega)).trans (hs.below (fun E hE => ?_))⟩
          · simp [results, Try.f104, go_sem, hc5]
          · rcases List.mem_cons.1 hE with rfl | hE
            · omega
            · have := (hDS.out.2 E hE).1; omega
    · have hltz : ¬ (q : Int) < (Lp.length : Int) := by omega
      obtain rfl : q = Lp.length := by omega
      have c2 : w1.cell? ⟨w.heap.size + 1, 0, none⟩ = some (.bool false) := (hB1.cell (p := ⟨w.heap.size + 1, 0, none⟩) hz).trans b2.cell
      have f2 : w1.frozen? ⟨w.heap.size + 1, 0, none⟩ = false := (hB1.frozen (p := ⟨w.heap.size + 1, 0, none⟩) hz).trans b2.frozen
      gi_wp2
      have hW1 : ∀ E, E ∈ Ds → E < w1.heap.size := fun E hE => (Array.getElem?_eq_some_iff.1 (hDS.out.2 E hE).2).1
      refine leavesM_marks Ds _ hDS.out.1 (fun E hE => ?_) (fun W' hs => ?_)
      · have := (hDS.out.2 E hE).1
        exact (heap_set_other w1 _ _ _ _ (by omega)).trans (hDS.out.2 E hE).2
      · have hnot : w.heap.size + 1 ∉ Ds := fun e => by have := (hDS.out.2 _ e).1; omega
        have hc5 : W'.cell? ⟨w.heap.size + 1, 0, none⟩ = some (.bool false) := (World.cell?_of_block (hs.block _ hnot)).trans (World.cell?_setCell_same' w1 ⟨w.heap.size + 1, 0, none⟩ (.bool false) (by rw [c2]; rfl))
        have hans : ans = false := by
          rw [HA.out, List.any_eq_false]
          intro p hp
          rw [Bool.not_eq_true, List.any_eq_false]
          intro j hj
          obtain ⟨i, hi, rfl⟩ := List.getElem_of_mem hp
          have hj12 : j < 12 := by simpa using hj
          cases hHp : H Lp[i] j with
          | false => simp
          | true => simp [hDone.out i hi _ (List.getElem?_eq_getElem hi) j hj12 hHp]
        refine ⟨.bool false, ?_, by rw [hans], ((hB0.trans (hB1.mono hB0.size)).setCell (p := ⟨w.heap.size + 1, 0, none⟩) (by show w.heap.size ≤ w.heap.size + 1; omega) _).trans (hs.below (fun E hE => ?_))⟩
        · simp [results, Try.f104, go_sem, hc5]
        · have := (hDS.out.2 E hE).1; omega
end Go.Proofs.Ytckndnaohggmhaa

/- Side. -/
namespace Go.Proofs.Ytckndnaohggmhaa
open Go.RowKit Go.Shelf
attribute [local irreducible] matCells markCells

def noMarks : Nat → Bool := fun _ => false
theorem noMarks_cells : (#[.bool false, .bool false, .bool false, .bool false, .bool false, .bool false, .bool false, .bool false, .bool false, .bool false, .bool false, .bool false] : Array Value) = markCells noMarks := by
  unfold markCells noMarks
  rfl
theorem make12 (W : World) : (Instr.makeSlice 117 (.int .i64 12) (.int .i64 12)).run Try.prog W = .ok (.slice (some ⟨W.heap.size, 0, none⟩) 12 12) (W.alloc (.cells (markCells noMarks) 4)) := by
  obtain ⟨i, hi, hz, hs, hb⟩ := info_parts info4
  have h := run_makeSlice (P := Try.prog) W 117 4 i (.bool false) Try.underlying117 hi hz .i64 .i64 12 12 (by decide) (by decide) (by rw [hs]; decide) (by rw [hb]; decide) (by decide)
  rw [h, hs]
  rw [show madeCells (Value.bool false).cells ((12 : Int).toNat * 1) = markCells noMarks from by rw [← noMarks_cells]; kernel_rfl]
  rfl

/-- Which places hold together, in a bath that is valid. -/
def tableOf (Wd : Int) (ss : List (Int × Int)) (ds : List (Int × Int × Int)) (sure : Bool) : Nat → Nat → Bool := matOf (holdB Wd ss (sizes ds) (ss.length + 2) sure) (List.finRange (ss.length + 2))

section
variable {w : World} {Wd : Int} {A : Option Addr} {n c : Nat} {A' : Option Addr} {n' c' : Nat} {ss : List (Int × Int)} {ds : List (Int × Int × Int)}

def SidePost (Wd : Int) (ss : List (Int × Int)) (ds : List (Int × Int × Int)) (one two : Int) (sure : Bool) (w : World) (e : Ending) (w' : World) : Prop :=
  Below w.heap.size w w' ∧
  ((forErr Wd ss ds one two ≠ 0 ∧ e = .returned (.tuple #[.slice none 0 0, .int .i64 (forErr Wd ss ds one two)])) ∨
   (forErr Wd ss ds one two = 0 ∧ ∃ M, MarkedTo (tableOf Wd ss ds sure) (one + 2).toNat noMarks M ∧
     ((M (two + 2).toNat = true ∧ e = .returned (.tuple #[.slice none 0 0, .int .i64 11])) ∨
      (M (two + 2).toNat = false ∧ ∃ v, e = .returned (.tuple #[v, .int .i64 0]) ∧ MadeInts w.heap.size (listTo M 12) w' v))))

set_option maxRecDepth 100000 in
set_option maxHeartbeats 1000000 in
theorem side_any (one two : Int) (sure : Bool) (hb : IsBath w w.heap.size A n c A' n' c' ss ds) :
    Calls Try.prog 34 #[.agg #[.int .i64 Wd, .slice A n c, .slice A' n' c'], .int .i64 one, .int .i64 two, .bool sure] w (SidePost Wd ss ds one two sure w) := by
  by_cases he : forErr Wd ss ds one two = 0
  · have c1 := openedFor_fine (w := w.alloc (.cells #[.int .i64 Wd, .slice A n c, .slice A' n' c'] 25)) one two ((hb.kept ((Below.refl _ w).alloc (Nat.le_refl _) _) (Nat.le_refl _)).wider (by simp)) he
    obtain ⟨h0, h1, h2, h3⟩ := forErr_ok he
    have HE := Lib.hid he
    obtain ⟨k1, hk1⟩ := Int.eq_ofNat_of_zero_le (show 0 ≤ one + 2 by omega)
    obtain ⟨k2, hk2⟩ := Int.eq_ofNat_of_zero_le (show 0 ≤ two + 2 by omega)
    obtain rfl : one = (k1 : Int) - 2 := by omega
    obtain rfl : two = (k2 : Int) - 2 := by omega
    have hn10 := (isSized_new hb h0 (Below.refl _ w)).few.1
    have hnn := hb.nss
    have hl1 : k1 < 12 := by omega
    have hl2 : k2 < 12 := by omega
    have hl2z : (k2 : Int) < 12 := by omega
    have hk : ∀ w1, Below w.heap.size w w1 → _ := fun w1 hB => holding_any sure (((isSized_new hb h0 hB).kept ((Below.refl _ _).alloc (Nat.le_refl _) (.cells (markCells noMarks) 4)) (Nat.le_refl _)).wider (by simp))
    obtain ⟨H, hH⟩ : ∃ H, tableOf Wd ss ds sure = H := ⟨_, rfl⟩
    have hH2 : matOf (holdB Wd ss (sizes ds) (n + 2) sure) (List.finRange (n + 2)) = H := by rw [← hH, hnn]; rfl
    rw [hH2] at hk
    clear hnn
    obtain ⟨cs, hcs⟩ : ∃ cs, sizedCells Wd A n c A' n' c' (sizes ds) = cs := ⟨_, rfl⟩
    have zc : cs.size = 23 := by rw [← hcs]; rfl
    have oc : cs.all (·.oneCell') = true := by rw [← hcs]; exact sizedCells_one _ _ _ _ _ _ _ _
    rw [hcs] at c1 hk
    have OC := Lib.hid oc
    have HH := Lib.hid hH
    clear hcs oc he h1 hH hH2 hk1 hk2
    have hmk := make12
    go_enter Try.func34, Try.ntmps34
    go_wp2_with fail
    refine c1.mono ?_
    rintro e w1 ⟨rfl, hb1⟩
    have hB : Below w.heap.size w w1 := bstep ((Below.refl _ w).alloc (Nat.le_refl _) _) (by simp) hb1
    have hst := store_last w1 w1.heap.size rfl Z84 cs zc Z84_size OC.out
    have c2 := hk w1 hB
    clear hk hb1
    go_wp2_with (first | refine wpList_alloc84 rfl rfl ?_ | (go_at_call 88; refine c2.mono ?_; rintro e w2 ⟨b, rfl, hrow, hb2⟩))
    have hm2 : w2.heap[w1.heap.size + 1]? = some (.cells (markCells noMarks) 4 (0, 0)) := (hb2.block _ (by simp)).trans (row_last _ _ _ (by simp))
    have hbm : w1.heap.size + 1 ≠ b := fun e => by
      rw [e, hrow] at hm2
      simp only [Option.some.injEq, Obj.cells.injEq] at hm2
      exact absurd hm2.2.1 (by decide)
    have hB2 : Below w.heap.size w w2 := bstep ((hB.alloc hB.size _).alloc (by have := hB.size; simp; omega) _) (by have := hB.size; simp; omega) hb2
    have c3 := mark_any H b (w1.heap.size + 1) 12 hbm 12 k1 noMarks w2 hl1 rfl (Nat.le_trans List.countP_le_length (by simp)) hrow hm2
    clear c2 hrow hm2 hbm hb2
    go_wp2_with (go_at_call 97; refine c3.mono ?_; rintro e w3 ⟨rfl, hg, M, hM, hMk⟩)
    have hz1 := hB.size
    have hB3 : Below w.heap.size w w3 := hB2.grown hg hB2.size (fun r e => by cases e; omega)
    have gc := (cell_of_row _ _ _ _ _ _ hM).trans (markCells_get M k2 hl2)
    have hMK := Lib.hid hMk
    have c4 := listed_any (w1.heap.size + 1) 12 M w3 hM
    clear c3 hg hM hMk hB2
    cases hM2 : M k2 with
    | true =>
      rw [hM2] at gc
      go_wp2_with (go_at_call 95; refine (at_pl k2 _ (by omega)).mono ?_; rintro e w' ⟨rfl, rfl⟩)
      go_ret2
      refine ⟨hB3, .inr ⟨HE.out, M, ?_, .inl ⟨?_, rfl⟩⟩⟩
      · rw [HH.out, show ((k1 : Int) - 2 + 2).toNat = k1 from by omega]; exact hMK.out
      · rw [show ((k2 : Int) - 2 + 2).toNat = k2 from by omega]; exact hM2
    | false =>
      rw [hM2] at gc
      go_wp2_with (first | (go_at_call 95; refine (at_pl k2 _ (by omega)).mono ?_; rintro e w' ⟨rfl, rfl⟩) | (go_at_call 98; refine c4.mono ?_; rintro e w4 ⟨v, rfl, hO, hb4⟩))
      go_ret2
      refine ⟨bstep hB3 hB3.size hb4, .inr ⟨HE.out, M, ?_, .inr ⟨?_, v, rfl, ⟨owns_mono hO.1 hB3.size, hO.2⟩⟩⟩⟩
      · rw [HH.out, show ((k1 : Int) - 2 + 2).toNat = k1 from by omega]; exact hMK.out
      · rw [show ((k2 : Int) - 2 + 2).toNat = k2 from by omega]; exact hM2
  · have c1 := openedFor_err (w := w.alloc (.cells #[.int .i64 Wd, .slice A n c, .slice A' n' c'] 25)) one two ((hb.kept ((Below.refl _ w).alloc (Nat.le_refl _) _) (Nat.le_refl _)).wider (by simp)) he
    unfold SidePost
    generalize forErr Wd ss ds one two = r at he c1 ⊢
    have hne : (r == 0) = false := by simpa using he
    have hne2 : (r != 0) = true := by simpa using he
    have zz := Z84_size
    go_enter Try.func34, Try.ntmps34
    go_wp2_with fail
    refine c1.mono ?_
    rintro e w1 ⟨rfl, hb1⟩
    have hB : Below w.heap.size w w1 := bstep ((Below.refl _ w).alloc (Nat.le_refl _) _) (by simp) hb1
    have hst := store_last w1 w1.heap.size rfl Z84 Z84 Z84_size Z84_size Z84_one
    clear hb1
    go_wp2_with (first | refine wpList_alloc84 rfl rfl ?_)
    go_ret2
    exact ⟨hB.alloc hB.size _, .inl ⟨he, rfl⟩⟩
end
end Go.Proofs.Ytckndnaohggmhaa

/- every, where the function is a bound method: isPlace. -/
namespace Go.Proofs.Ytckndnaohggmhaa
open Go.RowKit Go.Shelf

theorem enters93 : ∀ args w, (callFunc 93 args).run Try.prog w = .ok (.enter 93 args) w := enters_of Try.func93 (by kernel_rfl) rfl

section
variable {w : World} {g : Nat} {Wd : Int} {A : Option Addr} {n c : Nat} {A' : Option Addr} {n' c' : Nat} {ss : List (Int × Int)} {ds : List (Int × Int × Int)} {sz : Nat → Int × Int}

def placeB (n : Nat) (x : Int) : Bool := decide (-2 ≤ x) && decide (x < n)

set_option maxHeartbeats 400000 in
theorem badPlace (B : Nat) (xs : List Int) (h : IsSized w w.heap.size g Wd A n c A' n' c' ss ds sz) (hB : B < w.heap.size) (hc : w.cell? ⟨B, 0, none⟩ = some (.func (.func 93) #[.pointer (some ⟨g, 0, none⟩)] #[])) :
    PredOn 120 #[.pointer (some ⟨B, 0, none⟩)] (Value.int .i64) (fun x => !placeB n x) xs w := fun W x hx hb => by
  have hc' : W.cell? ⟨B, 0, none⟩ = some (.func (.func 93) #[.pointer (some ⟨g, 0, none⟩)] #[]) := (hb.cell (p := ⟨B, 0, none⟩) hB).trans hc
  have hBW : B < W.heap.size := Nat.lt_of_lt_of_le hB hb.size
  have hne : B ≠ W.heap.size := by omega
  have hcall := isPlace_any x ((h.kept hb (Nat.le_refl _)).wider hb.size)
  have eg := enters93
  clear hc h
  show Calls Try.prog 120 #[.int .i64 x, .pointer (some ⟨B, 0, none⟩)] W fun e w' => e = .returned (.bool !placeB n x) ∧ Below W.heap.size W w'
  unfold placeB
  generalize (decide (-2 ≤ x) && decide (x < (n : Int))) = q at hcall ⊢
  go_enter Try.func120, Try.ntmps120
  go_wp2_with (go_at_fn 93; refine hcall.mono ?_; rintro e w' ⟨rfl, rfl⟩)
  go_ret
  exact ⟨rfl, Below.refl _ _⟩

set_option maxHeartbeats 400000 in
theorem everyPlace (L : Option Addr) (k d : Nat) (xs : List Int) (hnn : k = xs.length) (hn : k ≤ 9223372036854775807) (hh : Held w w.heap.size 1 encI L xs) (h : IsSized w w.heap.size g Wd A n c A' n' c' ss ds sz) :
    Calls Try.prog 92 #[.slice L k d, .func (.func 93) #[.pointer (some ⟨g, 0, none⟩)] #[]] w fun e w' => e = .returned (.bool (xs.all (placeB n))) ∧ Below w.heap.size w w' := by
  have e2 : ∀ args w, (callFunc 120 args).run Try.prog w = .ok (.enter 120 args) w := enters_of Try.func120 (by kernel_rfl) rfl
  have hb0 : Below w.heap.size w (w.alloc (.cells #[.func (.func 93) #[.pointer (some ⟨g, 0, none⟩)] #[]] 87)) := (Below.refl _ w).alloc (Nat.le_refl _) _
  have hcon := firstInt 120 #[.pointer (some ⟨w.heap.size, 0, none⟩)] e2 (fun x => !placeB n x) L k d xs (w.alloc (.cells #[.func (.func 93) #[.pointer (some ⟨g, 0, none⟩)] #[]] 87)) hnn hn
    ((hh.kept hb0 (Nat.le_refl _)).wider (by simp)) (badPlace w.heap.size xs ((h.kept hb0 (Nat.le_refl _)).wider (by simp)) (by simp) (by simp))
  have HA := all_of_findIdx (placeB n) xs
  rw [← hnn] at HA
  generalize xs.findIdx (fun x => !placeB n x) = r at hcon HA
  generalize xs.all (placeB n) = q at HA ⊢
  have HQ := Lib.hid HA; clear HA hh hnn h
  go_enter Try.func92, Try.ntmps92
  go_wp2_with (go_at_call 121; refine hcon.mono ?_; rintro e w' ⟨rfl, hb'⟩)
  go_ret
  exact ⟨ret_bool HQ.out, bstep hb0 (by simp) hb'⟩
end
end Go.Proofs.Ytckndnaohggmhaa

/- CheckSide. -/
namespace Go.Proofs.Ytckndnaohggmhaa
open Go.RowKit Go.Shelf
attribute [local irreducible] matCells markCells

/-- The marks of the places of a list. -/
def marksOf (xs : List Int) (i : Nat) : Bool := decide ((i : Int) - 2 ∈ xs)
theorem marksOf_nil : marksOf [] = noMarks := by
  funext i
  simp [marksOf, noMarks]

theorem at_pl_k {R : Ending → World → Prop} (k : Nat) (w : World) (hk : k < 12) (h : R (.returned (.int .i64 (k : Int))) w) : Calls Try.prog 95 #[.int .i64 ((k : Int) - 2)] w R :=
  (at_pl k w (by omega)).mono (by rintro e w' ⟨rfl, rfl⟩; exact h)

/-- What CheckSide answers. -/
def checkSideAns (Wd : Int) (ss : List (Int × Int)) (ds : List (Int × Int × Int)) (one two : Int) (side : List Int) (sure : Bool) : Int :=
  if forErr Wd ss ds one two = 0 then
    if decide (side.Pairwise (· < ·)) = true ∧ side.all (placeB ss.length) = true then
      if marksOf side (one + 2).toNat = true ∧ marksOf side (two + 2).toNat = false ∧ leadsB (tableOf Wd ss ds sure) (marksOf side) = false then 0 else 14
    else 3
  else forErr Wd ss ds one two

section
variable {w : World} {Wd : Int} {A : Option Addr} {n c : Nat} {A' : Option Addr} {n' c' : Nat} {ss : List (Int × Int)} {ds : List (Int × Int × Int)}

set_option maxHeartbeats 2000000 in
theorem checkSide_any (one two : Int) (L : Option Addr) (k d : Nat) (xs : List Int) (sure : Bool) (hb : IsBath w w.heap.size A n c A' n' c' ss ds) (hk : k = xs.length) (hkn : k ≤ 9223372036854775807) (hh : Held w w.heap.size 1 encI L xs) :
    Calls Try.prog 39 #[.agg #[.int .i64 Wd, .slice A n c, .slice A' n' c'], .int .i64 one, .int .i64 two, .slice L k d, .bool sure] w fun e w' => e = .returned (.int .i64 (checkSideAns Wd ss ds one two xs sure)) ∧ Below w.heap.size w w' := by
  by_cases he : forErr Wd ss ds one two = 0
  · have c1 := openedFor_fine (w := w.alloc (.cells #[.int .i64 Wd, .slice A n c, .slice A' n' c'] 25)) one two ((hb.kept ((Below.refl _ w).alloc (Nat.le_refl _) _) (Nat.le_refl _)).wider (by simp)) he
    obtain ⟨h0, h1, h2, h3⟩ := forErr_ok he
    obtain ⟨k1, hk1⟩ := Int.eq_ofNat_of_zero_le (show 0 ≤ one + 2 by omega)
    obtain ⟨k2, hk2⟩ := Int.eq_ofNat_of_zero_le (show 0 ≤ two + 2 by omega)
    obtain rfl : one = (k1 : Int) - 2 := by omega
    obtain rfl : two = (k2 : Int) - 2 := by omega
    have hn10 := (isSized_new hb h0 (Below.refl _ w)).few.1
    have hnn := hb.nss
    have hl1 : k1 < 12 := by omega
    have hl2 : k2 < 12 := by omega
    have hl1z : (k1 : Int) < 12 := by omega
    have hl2z : (k2 : Int) < 12 := by omega
    have hS : ∀ w1, Below w.heap.size w w1 → _ := fun w1 hB => isSized_new hb h0 hB
    obtain ⟨H, hH⟩ : ∃ H, tableOf Wd ss ds sure = H := ⟨_, rfl⟩
    have hH2 : matOf (holdB Wd ss (sizes ds) (n + 2) sure) (List.finRange (n + 2)) = H := by rw [← hH, hnn]; rfl
    have hans : checkSideAns Wd ss ds ((k1 : Int) - 2) ((k2 : Int) - 2) xs sure = if decide (xs.Pairwise (· < ·)) = true ∧ xs.all (placeB n) = true then if marksOf xs k1 = true ∧ marksOf xs k2 = false ∧ leadsB H (marksOf xs) = false then 0 else 14 else 3 := by
      unfold checkSideAns
      rw [if_pos he, hH, ← hnn, show ((k1 : Int) - 2 + 2).toNat = k1 from by omega, show ((k2 : Int) - 2 + 2).toNat = k2 from by omega]
    obtain ⟨cs, hcs⟩ : ∃ cs, sizedCells Wd A n c A' n' c' (sizes ds) = cs := ⟨_, rfl⟩
    have zc : cs.size = 23 := by rw [← hcs]; rfl
    have oc : cs.all (·.oneCell') = true := by rw [← hcs]; exact sizedCells_one _ _ _ _ _ _ _ _
    rw [hcs] at c1 hS
    have OC := Lib.hid oc
    have HH2 := Lib.hid hH2
    rw [hans]
    have HK := Lib.hid hk
    clear hcs oc he h1 hH hH2 hk1 hk2 hans hnn hk
    have hmk := make12
    have cR := fun (w' : World) (hB : Below w.heap.size w w') => rising_any L k d xs w' HK.out hkn ((hh.kept hB (Nat.le_refl _)).wider hB.size)
    cases hr : decide (xs.Pairwise (· < ·)) with
    | false =>
      rw [hr] at cR
      rw [if_neg (by simp)]
      go_enter Try.func39, Try.ntmps39
      go_wp2_with fail
      refine c1.mono ?_
      rintro e w1 ⟨rfl, hb1⟩
      have hB : Below w.heap.size w w1 := bstep ((Below.refl _ w).alloc (Nat.le_refl _) _) (by simp) hb1
      have hst := store_last w1 w1.heap.size rfl Z84 cs zc Z84_size OC.out
      have cR1 := cR (w1.alloc (.cells cs 84)) (hB.alloc hB.size _)
      clear cR hb1
      go_wp2_with (first | refine wpList_alloc84 rfl rfl ?_ | (go_at_call 103; refine cR1.mono ?_; rintro e w2 ⟨rfl, hb2⟩))
      go_ret
      exact ⟨rfl, bstep (hB.alloc hB.size _) (by have := hB.size; simp; omega) hb2⟩
    | true =>
      rw [hr] at cR
      cases hp : xs.all (placeB n) with
      | false =>
        rw [if_neg (by simp)]
        go_enter Try.func39, Try.ntmps39
        go_wp2_with fail
        refine c1.mono ?_
        rintro e w1 ⟨rfl, hb1⟩
        have hB : Below w.heap.size w w1 := bstep ((Below.refl _ w).alloc (Nat.le_refl _) _) (by simp) hb1
        have hst := store_last w1 w1.heap.size rfl Z84 cs zc Z84_size OC.out
        have cR1 := cR (w1.alloc (.cells cs 84)) (hB.alloc hB.size _)
        have hS1 := hS w1 hB
        clear cR hb1 hS
        go_wp2_with (first | refine wpList_alloc84 rfl rfl ?_ | (go_at_call 103; refine cR1.mono ?_; rintro e w2 ⟨rfl, hb2⟩; have hB2 := bstep (hB.alloc hB.size _) (by have := hB.size; simp; omega) hb2; have cE := everyPlace L k d xs HK.out hkn ((hh.kept hB2 (Nat.le_refl _)).wider hB2.size) ((hS1.kept hb2 (Nat.le_refl _)).wider hb2.size); rw [hp] at cE) | (go_at_call 92; refine cE.mono ?_; rintro e w3 ⟨rfl, hb3⟩))
        go_ret
        exact ⟨rfl, bstep hB2 hB2.size hb3⟩
      | true =>
        rw [if_pos ⟨rfl, rfl⟩]
        have hpl : ∀ x, x ∈ xs → -2 ≤ x ∧ x < n := fun x hx => by
          have := List.all_eq_true.1 hp x hx
          simpa [placeB] using this
        have HPL := Lib.hid hpl
        clear hpl
        obtain ⟨ans, hans⟩ : ∃ ans : Int, (if marksOf xs k1 = true ∧ marksOf xs k2 = false ∧ leadsB H (marksOf xs) = false then 0 else 14) = ans := ⟨_, rfl⟩
        rw [hans]
        have HANS := Lib.hid hans
        clear hans
        go_enter Try.func39, Try.ntmps39
        go_wp2_with fail
        refine c1.mono ?_
        rintro e w1 ⟨rfl, hb1⟩
        have hB : Below w.heap.size w w1 := bstep ((Below.refl _ w).alloc (Nat.le_refl _) _) (by simp) hb1
        have hst := store_last w1 w1.heap.size rfl Z84 cs zc Z84_size OC.out
        have cR1 := cR (w1.alloc (.cells cs 84)) (hB.alloc hB.size _)
        have hS1 := hS w1 hB
        clear cR hb1 hS
        go_wp2_with (first | refine wpList_alloc84 rfl rfl ?_ | (go_at_call 103; refine cR1.mono ?_; rintro e w2 ⟨rfl, hb2⟩; have hB2 := bstep (hB.alloc hB.size _) (by have := hB.size; simp; omega) hb2; have cE := everyPlace L k d xs HK.out hkn ((hh.kept hB2 (Nat.le_refl _)).wider hB2.size) ((hS1.kept hb2 (Nat.le_refl _)).wider hb2.size); rw [hp] at cE) | (go_at_call 92; refine cE.mono ?_; rintro e w3 ⟨rfl, hb3⟩))
        have hB3 := bstep hB2 hB2.size hb3
        have hS3 := (((hS1.kept hb2 (Nat.le_refl _)).wider hb2.size).kept hb3 (Nat.le_refl _)).wider hb3.size
        clear cR1 cE hst hb2 hb3 hS1 hB2 hB c1
        have hz3 := hB3.size
        have hA0 : Below w3.heap.size w3 (w3.alloc (.cells (markCells noMarks) 4)) := (Below.refl _ _).alloc (Nat.le_refl _) _
        have hr0 : (w3.alloc (.cells (markCells noMarks) 4)).heap[w3.heap.size]? = some (.cells (markCells (marksOf (xs.take 0))) 4 (0, 0)) := by rw [List.take_zero, marksOf_nil]; exact row_last _ _ _ rfl
        have HH3 := Lib.hid hh
        clear hh hb hp hr
        go_loopw [38] (fun i wr => ∃ q : Nat, q ≤ k ∧ i = .int .i64 q ∧ Hid (wr.heap[w3.heap.size]? = some (.cells (markCells (marksOf (xs.take q))) 4 (0, 0))) ∧ Hid (Below w3.heap.size w3 wr)) (fun i _ => k - (intOf i).toNat)
        case atStart => exact ⟨0, Nat.zero_le _, rfl, Lib.hid hr0, Lib.hid hA0⟩
        case round =>
          clear hA0 hr0
          obtain ⟨q, hq, rfl, hrow, hBr⟩ := hrel
          by_cases hlt : q < k
          · have hltz : (q : Int) < (k : Int) := by omega
            have hql : q < xs.length := by rw [← HK.out]; exact hlt
            obtain ⟨x, hx⟩ : ∃ x, x = xs[q] := ⟨_, rfl⟩
            have hxb := HPL.out x (by rw [hx]; exact List.getElem_mem hql)
            obtain ⟨p, hpx⟩ := Int.eq_ofNat_of_zero_le (show 0 ≤ x + 2 by omega)
            obtain rfl : x = (p : Int) - 2 := by omega
            have hp12 : p < 12 := by omega
            have hp12z : (p : Int) < 12 := by omega
            have hcell : ∃ b off, L = some ⟨b, off, none⟩ ∧ wr.cell? ⟨b, off + q, none⟩ = some (.int .i64 ((p : Int) - 2)) := by
              rcases HH3.out with h | ⟨b, off, rfl, hlt', hc⟩
              · simp [h] at hql
              · refine ⟨b, off, rfl, ?_⟩
                have h2 := ((hB3.trans (hBr.out.mono hz3)).cell (p := ⟨b, off + q * 1 + 0, none⟩) hlt').trans (hc q ((p : Int) - 2) (by rw [hx]; exact List.getElem?_eq_getElem hql) 0 _ rfl)
                simpa using h2
            obtain ⟨b, off, rfl, hc⟩ := hcell
            have gc := (cell_of_row _ _ _ _ _ _ hrow.out).trans (markCells_get _ p hp12)
            have gf : wr.frozen? ⟨w3.heap.size, p, none⟩ = false := by simp [World.frozen?, hrow.out]
            have hrow2 := row_setCell wr w3.heap.size p (.bool true) _ _ _ hrow.out
            have hxq : xs[q]? = some ((p : Int) - 2) := by rw [hx]; exact List.getElem?_eq_getElem hql
            rw [markCells_set (marksOf (xs.take q)) (marksOf (xs.take (q + 1))) p true (by
              unfold marksOf
              rw [List.take_add_one, hxq]
              simp) (fun a _ ha => by
              unfold marksOf
              rw [List.take_add_one, hxq]
              have : ¬ (a : Int) - 2 = (p : Int) - 2 := by omega
              simp [this])] at hrow2
            have HX := Lib.hid (And.intro hx (And.intro hpx (And.intro hxb hxq)))
            have HR2 := Lib.hid hrow2
            clear hx hpx hxb hxq hrow2
            go_wp2_with (go_at_call 95; refine (at_pl p _ (by omega)).mono ?_; rintro e w' ⟨rfl, rfl⟩)
            go_roundw
            case measure => simp [intOf]; omega
            case rel => exact ⟨q + 1, by omega, by go_num, HR2, Lib.hid (hBr.out.setCell (p := ⟨w3.heap.size, p, none⟩) (Nat.le_refl _) _)⟩
          · have hltz : ¬ (q : Int) < (k : Int) := by omega
            obtain rfl : q = k := by omega
            have hrow := hrow.out
            rw [List.take_of_length_le (by rw [← HK.out]; exact Nat.le_refl _)] at hrow
            have hml := (Array.getElem?_eq_some_iff.1 hrow).1
            have hB4 := hB3.trans (hBr.out.mono hz3)
            have hS4 := (hS3.kept hBr.out (Nat.le_refl _)).wider hBr.out.size
            have hcH := holding_any sure hS4
            rw [HH2.out] at hcH
            have g1 := (cell_of_row _ _ _ _ _ _ hrow).trans (markCells_get _ k1 hl1)
            have g2 := (cell_of_row _ _ _ _ _ _ hrow).trans (markCells_get _ k2 hl2)
            have HRW := Lib.hid hrow
            have HA := HANS.out
            clear hrow HANS hS3 hS4 hBr HPL HH3 HH2 h2 h3 h0 hz3 hmk
            generalize marksOf xs = M at HRW g1 g2 HA
            cases hM1 : M k1 with
            | false =>
              rw [hM1] at g1
              obtain rfl : ans = 14 := by rw [← HA, hM1, if_neg (by simp)]
              clear HA hcH
              go_wp2_with (first | (go_at_call 95; refine (at_pl k1 _ (by omega)).mono ?_; rintro e w' ⟨rfl, rfl⟩))
              go_ret
              exact ⟨rfl, hB4⟩
            | true =>
              rw [hM1] at g1
              cases hM2 : M k2 with
              | true =>
                rw [hM2] at g2
                obtain rfl : ans = 14 := by rw [← HA, hM2, if_neg (by simp)]
                clear HA hcH
                go_wp2_with (first | (go_at_call 95; refine at_pl_k _ _ (by assumption) ?_))
                go_ret
                exact ⟨rfl, hB4⟩
              | false =>
                rw [hM2] at g2
                have hB4z := hB4.size
                have HAN : Hid (ans = if leadsB H M = false then 0 else 14) := Lib.hid (by rw [← HA, hM1, hM2]; simp)
                clear HA
                go_wp2_with (first | (go_at_call 95; refine at_pl_k _ _ (by assumption) ?_) | (go_at_call 88; refine hcH.mono ?_; rintro e w5 ⟨b, rfl, hbr, hb5⟩))
                have cL := leads_any H M b w3.heap.size 12 w5 hbr ((hb5.block _ hml).trans HRW.out)
                have hB5 := bstep hB4 hB4z hb5
                clear hbr hb5 hcH
                cases hL : leadsB H M with
                | true =>
                  rw [hL] at cL
                  obtain rfl : ans = 14 := by rw [HAN.out, hL]; simp
                  go_wp2_with (go_at_call 104; refine cL.mono ?_; rintro e w6 ⟨rfl, hb6⟩)
                  go_ret
                  exact ⟨rfl, bstep hB5 hB5.size hb6⟩
                | false =>
                  rw [hL] at cL
                  obtain rfl : ans = 0 := by rw [HAN.out, hL]; simp
                  go_wp2_with (go_at_call 104; refine cL.mono ?_; rintro e w6 ⟨rfl, hb6⟩)
                  go_ret
                  exact ⟨rfl, bstep hB5 hB5.size hb6⟩
  · have c1 := openedFor_err (w := w.alloc (.cells #[.int .i64 Wd, .slice A n c, .slice A' n' c'] 25)) one two ((hb.kept ((Below.refl _ w).alloc (Nat.le_refl _) _) (Nat.le_refl _)).wider (by simp)) he
    unfold checkSideAns
    rw [if_neg he]
    generalize forErr Wd ss ds one two = r at he c1 ⊢
    have hne : (r == 0) = false := by simpa using he
    have hne2 : (r != 0) = true := by simpa using he
    have zz := Z84_size
    clear hk hh
    go_enter Try.func39, Try.ntmps39
    go_wp2_with fail
    refine c1.mono ?_
    rintro e w1 ⟨rfl, hb1⟩
    have hB : Below w.heap.size w w1 := bstep ((Below.refl _ w).alloc (Nat.le_refl _) _) (by simp) hb1
    have hst := store_last w1 w1.heap.size rfl Z84 Z84 Z84_size Z84_size Z84_one
    clear hb1
    go_wp2_with (first | refine wpList_alloc84 rfl rfl ?_)
    go_ret
    exact ⟨rfl, hB.alloc hB.size _⟩
end
end Go.Proofs.Ytckndnaohggmhaa

/- CheckWay. -/
namespace Go.Proofs.Ytckndnaohggmhaa
open Go.RowKit Go.Shelf
attribute [local irreducible] matCells markCells

/-- Whether each place of a list holds together with the next one. -/
def wayB (H : Nat → Nat → Bool) (xs : List Int) : Bool := (List.range (xs.length - 1)).all fun j => H (xs.getD j 0 + 2).toNat (xs.getD (j + 1) 0 + 2).toNat
theorem wayB_no {H : Nat → Nat → Bool} {xs : List Int} {j p p' : Nat} (h1 : xs[j]? = some ((p : Int) - 2)) (h2 : xs[j + 1]? = some ((p' : Int) - 2)) (hH : H p p' = false) : wayB H xs = false := by
  have hl : j + 1 < xs.length := (List.getElem?_eq_some_iff.1 h2).1
  rw [wayB, List.all_eq_false]
  refine ⟨j, by simp; omega, ?_⟩
  simp [List.getD, h1, h2, hH]
theorem wayB_yes {H : Nat → Nat → Bool} {xs : List Int} (h : ∀ j, j + 1 < xs.length → H (xs.getD j 0 + 2).toNat (xs.getD (j + 1) 0 + 2).toNat = true) : wayB H xs = true := by
  rw [wayB, List.all_eq_true]
  intro j hj
  exact h j (by have := List.mem_range.1 hj; omega)

/-- What CheckWay answers. -/
def checkWayAns (Wd : Int) (ss : List (Int × Int)) (ds : List (Int × Int × Int)) (way : List Int) (sure : Bool) : Int :=
  if bathErr Wd ss ds = 0 then
    if inside 2 12 (way.length : Int) = true then
      if way.all (placeB ss.length) = true then
        if way.Nodup then if wayB (tableOf Wd ss ds sure) way = true then 0 else 17 else 15
      else 2
    else 6
  else bathErr Wd ss ds

section
variable {w : World} {Wd : Int} {A : Option Addr} {n c : Nat} {A' : Option Addr} {n' c' : Nat} {ss : List (Int × Int)} {ds : List (Int × Int × Int)}

set_option maxHeartbeats 2000000 in
theorem checkWay_any (L : Option Addr) (k d : Nat) (xs : List Int) (sure : Bool) (hb : IsBath w w.heap.size A n c A' n' c' ss ds) (hk : k = xs.length) (hkn : k ≤ 9223372036854775807) (hh : Held w w.heap.size 1 encI L xs) :
    Calls Try.prog 32 #[.agg #[.int .i64 Wd, .slice A n c, .slice A' n' c'], .slice L k d, .bool sure] w fun e w' => e = .returned (.int .i64 (checkWayAns Wd ss ds xs sure)) ∧ Below w.heap.size w w' := by
  by_cases h0 : bathErr Wd ss ds = 0
  · have c1 := opened_ok (w := w.alloc (.cells #[.int .i64 Wd, .slice A n c, .slice A' n' c'] 25)) ((hb.kept ((Below.refl _ w).alloc (Nat.le_refl _) _) (Nat.le_refl _)).wider (by simp)) h0
    have hn10 := (isSized_new hb h0 (Below.refl _ w)).few.1
    have hnn := hb.nss
    have hS : ∀ w1, Below w.heap.size w w1 → _ := fun w1 hB => isSized_new hb h0 hB
    obtain ⟨H, hH⟩ : ∃ H, tableOf Wd ss ds sure = H := ⟨_, rfl⟩
    have hH2 : matOf (holdB Wd ss (sizes ds) (n + 2) sure) (List.finRange (n + 2)) = H := by rw [← hH, hnn]; rfl
    have hans : checkWayAns Wd ss ds xs sure = if inside 2 12 (k : Int) = true then if xs.all (placeB n) = true then if xs.Nodup then if wayB H xs = true then 0 else 17 else 15 else 2 else 6 := by
      unfold checkWayAns
      rw [if_pos h0, hH, ← hnn, ← hk]
    obtain ⟨cs, hcs⟩ : ∃ cs, sizedCells Wd A n c A' n' c' (sizes ds) = cs := ⟨_, rfl⟩
    have zc : cs.size = 23 := by rw [← hcs]; rfl
    have oc : cs.all (·.oneCell') = true := by rw [← hcs]; exact sizedCells_one _ _ _ _ _ _ _ _
    rw [hcs] at c1 hS
    have OC := Lib.hid oc
    have HH2 := Lib.hid hH2
    obtain ⟨ans, hans2⟩ : ∃ ans, checkWayAns Wd ss ds xs sure = ans := ⟨_, rfl⟩
    rw [hans2]
    rw [hans2] at hans
    have HANS := Lib.hid hans
    have HK := Lib.hid hk
    clear hcs oc hH hH2 hans hans2 hnn hk
    go_enter Try.func32, Try.ntmps32
    go_wp2_with fail
    refine c1.mono ?_
    rintro e w1 ⟨rfl, hb1⟩
    have hB : Below w.heap.size w w1 := bstep ((Below.refl _ w).alloc (Nat.le_refl _) _) (by simp) hb1
    have hst := store_last w1 w1.heap.size rfl Z84 cs zc Z84_size OC.out
    have hS1 := hS w1 hB
    clear hb1 hS c1
    have hBz := hB.size
    go_wp2_with (first | refine wpList_alloc84 rfl rfl ?_ | fail)
    refine (within _ _ _ _ _ [(k : Int)] _ rfl (by simp) (held1 (by simp) (by simp))).mono ?_
    rintro e w2 ⟨rfl, hb2⟩
    have hB2 : Below w.heap.size w w2 := bstep ((hB.alloc hB.size _).alloc (by simp; omega) _) (by simp; omega) hb2
    have hS2 := ((hS1.kept ((((Below.refl _ _).alloc (Nat.le_refl _) _)).trans (hb2.mono (by simp))) (Nat.le_refl _)).wider (by have := hb2.size; simp at this ⊢; omega) : IsSized w2 w2.heap.size w1.heap.size Wd A n c A' n' c' ss ds (sizes ds))
    have hB2z := hB2.size
    have cE := everyPlace L k d xs HK.out hkn ((hh.kept hB2 (Nat.le_refl _)).wider hB2.size) hS2
    clear hb2 hst hS1 hB hBz
    have hin : [(k : Int)].all (inside 2 12) = inside 2 12 (k : Int) := by simp
    rw [hin]
    clear hin
    cases h1 : inside 2 12 (k : Int) with
    | false =>
      obtain rfl : ans = 6 := by rw [HANS.out, h1]; simp
      clear cE
      go_wp2
      go_ret
      exact ⟨rfl, hB2⟩
    | true =>
      cases hp : xs.all (placeB n) with
      | false =>
        rw [hp] at cE
        obtain rfl : ans = 2 := by rw [HANS.out, h1, hp]; simp
        go_wp2_with (go_at_call 92; refine cE.mono ?_; rintro e w3 ⟨rfl, hb3⟩)
        go_ret
        exact ⟨rfl, bstep hB2 hB2z hb3⟩
      | true =>
        rw [hp] at cE
        have HAN2 : Hid (ans = if xs.Nodup then if wayB H xs = true then (0 : Int) else 17 else 15) := Lib.hid (by rw [HANS.out, h1, hp]; simp)
        clear HANS
        have hpl : ∀ x, x ∈ xs → -2 ≤ x ∧ x < n := fun x hx => by
          have := List.all_eq_true.1 hp x hx
          simpa [placeB] using this
        have HPL := Lib.hid hpl
        clear hpl hp h1
        go_wp2_with (go_at_call 92; refine cE.mono ?_; rintro e w3 ⟨rfl, hb3⟩; have hB3 := bstep hB2 hB2z hb3; have cT := twiceInt L k d xs w3 HK.out hkn ((hh.kept hB3 (Nat.le_refl _)).wider hB3.size); have hS3 := (hS2.kept hb3 (Nat.le_refl _)).wider hb3.size)
        clear cE hS2 hb3
        by_cases hnd : xs.Nodup
        · have HANS : Hid ((if wayB H xs = true then (0 : Int) else 17) = ans) := Lib.hid (by rw [HAN2.out, if_pos hnd])
          clear HAN2
          rw [show (!decide xs.Nodup) = false from by simp [hnd]] at cT
          clear hnd
          go_wp2_with (first | (go_at_call 94; refine cT.mono ?_; rintro e w4 ⟨rfl, hb4⟩; have hcH := holding_any sure ((hS3.kept hb4 (Nat.le_refl _)).wider hb4.size); rw [HH2.out] at hcH; have hB4 := bstep hB3 hB3.size hb4; have hB4z := hB4.size; clear hb4 cT hS3) | (go_at_call 88; refine hcH.mono ?_; rintro e w5 ⟨b, rfl, hbr, hb5⟩))
          have hB5 := bstep hB4 hB4z hb5
          have hB5z := hB5.size
          have HBR := Lib.hid hbr
          have HH3 := Lib.hid hh
          have hbl := (Array.getElem?_eq_some_iff.1 hbr).1
          clear hcH hb5 hbr hh hb h0 hB2 hB3 hB4 hB4z hB2z HH2
          go_loopw [10] (fun i wr => ∃ q : Nat, 1 ≤ q ∧ (q = 1 ∨ q ≤ k) ∧ i = .int .i64 q ∧ Hid (Below w5.heap.size w5 wr) ∧ Hid (∀ j, j + 1 < q → j + 1 < xs.length → H (xs.getD j 0 + 2).toNat (xs.getD (j + 1) 0 + 2).toNat = true)) (fun i _ => k + 1 - (intOf i).toNat)
          case atStart => exact ⟨1, Nat.le_refl _, .inl rfl, rfl, Lib.hid (Below.refl _ _), Lib.hid (fun j hj => absurd hj (by omega))⟩
          case round =>
            obtain ⟨q, hq1, hq, rfl, hBr, hDn⟩ := hrel
            by_cases hlt : q < k
            · have hltz : (q : Int) < (k : Int) := by omega
              obtain ⟨j, rfl⟩ : ∃ j, q = j + 1 := ⟨q - 1, by omega⟩
              have hjl : j + 1 < xs.length := by rw [← HK.out]; exact hlt
              have hjl0 : j < xs.length := by omega
              have hpc : ∀ i, ∀ (hi : i < xs.length), ∃ p : Nat, p < 12 ∧ xs[i]? = some ((p : Int) - 2) := fun i hi => by
                have hb := HPL.out xs[i] (List.getElem_mem hi)
                obtain ⟨p, hp⟩ := Int.eq_ofNat_of_zero_le (show 0 ≤ xs[i] + 2 by omega)
                exact ⟨p, by omega, by rw [List.getElem?_eq_getElem hi]; congr 1; omega⟩
              obtain ⟨p, hp12, hxp⟩ := hpc j hjl0
              obtain ⟨p', hp12', hxp'⟩ := hpc (j + 1) hjl
              have hcell : ∃ b off, L = some ⟨b, off, none⟩ ∧ wr.cell? ⟨b, off + j, none⟩ = some (.int .i64 ((p : Int) - 2)) ∧ wr.cell? ⟨b, off + (j + 1), none⟩ = some (.int .i64 ((p' : Int) - 2)) := by
                rcases HH3.out with h | ⟨b, off, rfl, hlt', hc⟩
                · simp [h] at hjl
                · refine ⟨b, off, rfl, ?_, ?_⟩
                  · have h2 := ((hB5.trans (hBr.out.mono hB5z)).cell (p := ⟨b, off + j * 1 + 0, none⟩) hlt').trans (hc j ((p : Int) - 2) hxp 0 _ rfl)
                    simpa using h2
                  · have h2 := ((hB5.trans (hBr.out.mono hB5z)).cell (p := ⟨b, off + (j + 1) * 1 + 0, none⟩) hlt').trans (hc (j + 1) ((p' : Int) - 2) hxp' 0 _ rfl)
                    simpa using h2
              obtain ⟨b', off, rfl, hc0, hc1⟩ := hcell
              have hpz : (p : Int) < 12 := by omega
              have hpz' : (p' : Int) < 12 := by omega
              have hsub : ((j + 1 : Nat) : Int) - 1 = (j : Int) := by omega
              have gc := (cell_of_row _ _ _ _ _ _ ((hBr.out.block b hbl).trans HBR.out)).trans (matCells_get H p p' hp12 hp12')
              have HXP := Lib.hid (And.intro hxp hxp')
              clear hxp hxp' hpc
              cases hHp : H p p' with
              | true =>
                rw [hHp] at gc
                go_wp2
                go_quiet (((go_at_call 95; exact Calls.quiet_of_same (at_pl _ _ (by omega)))))
                go_wp2
                go_roundw
                case measure => simp [intOf]; omega
                case rel =>
                  refine ⟨j + 1 + 1, by omega, by omega, by go_num, Lib.hid (bdrewN hBr.out _), Lib.hid fun i hi hl => ?_⟩
                  by_cases e : i = j
                  · subst e
                    have e1 : (xs.getD i 0 + 2).toNat = p := by simp only [List.getD, HXP.out.1, Option.getD_some]; omega
                    have e2 : (xs.getD (i + 1) 0 + 2).toNat = p' := by simp only [List.getD, HXP.out.2, Option.getD_some]; omega
                    rw [e1, e2, hHp]
                  · exact hDn.out i (by omega) hl
              | false =>
                rw [hHp] at gc
                have hno := wayB_no HXP.out.1 HXP.out.2 hHp
                obtain rfl : ans = 17 := by rw [← HANS.out, hno]; simp
                clear hno
                go_wp2
                go_quiet (((go_at_call 95; exact Calls.quiet_of_same (at_pl _ _ (by omega)))))
                go_wp2
                go_ret
                exact ⟨rfl, bdrewN (hB5.trans (hBr.out.mono hB5z)) _⟩
            · have hltz : ¬ (q : Int) < (k : Int) := by omega
              obtain rfl : ans = 0 := by rw [← HANS.out, wayB_yes (fun j hj => hDn.out j (by have := HK.out; omega) hj)]; simp
              go_wp2
              go_ret
              exact ⟨rfl, hB5.trans (hBr.out.mono hB5z)⟩
        · obtain rfl : ans = 15 := by rw [HAN2.out, if_neg hnd]
          rw [show (!decide xs.Nodup) = true from by simp [hnd]] at cT
          go_wp2_with (go_at_call 94; refine cT.mono ?_; rintro e w4 ⟨rfl, hb4⟩)
          go_ret
          exact ⟨rfl, bstep hB3 hB3.size hb4⟩
  · have c1 := opened_bad (w := w.alloc (.cells #[.int .i64 Wd, .slice A n c, .slice A' n' c'] 25)) (Wd := Wd) (c := c) (c' := c') ((hb.kept ((Below.refl _ w).alloc (Nat.le_refl _) _) (Nat.le_refl _)).wider (by simp)) h0
    unfold checkWayAns
    rw [if_neg h0]
    generalize bathErr Wd ss ds = r at h0 c1 ⊢
    have hne : (r == 0) = false := by simpa using h0
    have hne2 : (r != 0) = true := by simpa using h0
    have zz := Z84_size
    clear hk hh
    go_enter Try.func32, Try.ntmps32
    go_wp2_with fail
    refine c1.mono ?_
    rintro e w1 ⟨rfl, hb1⟩
    have hB : Below w.heap.size w w1 := bstep ((Below.refl _ w).alloc (Nat.le_refl _) _) (by simp) hb1
    have hst := store_last w1 w1.heap.size rfl Z84 Z84 Z84_size Z84_size Z84_one
    clear hb1
    go_wp2_with (first | refine wpList_alloc84 rfl rfl ?_)
    go_ret
    exact ⟨rfl, hB.alloc hB.size _⟩
end
end Go.Proofs.Ytckndnaohggmhaa

/- What is marked from no marks: just the places to which there is a way. -/
namespace Go.Proofs.Ytckndnaohggmhaa
open Go.RowKit Go.Shelf

open Classical in
/-- Whether there is a way from the k-th place to the i-th one. -/
noncomputable def goesB (H : Nat → Nat → Bool) (k i : Nat) : Bool := decide (Way H k i)
theorem goesB_iff {H : Nat → Nat → Bool} {k i : Nat} : goesB H k i = true ↔ Way H k i := by simp [goesB]
theorem Way.lt {H : Nat → Nat → Bool} {k i : Nat} (hk : k < 12) (h : Way H k i) : i < 12 := by
  cases h with
  | here => exact hk
  | more _ hj _ => exact hj
theorem marked_reach {H : Nat → Nat → Bool} {k : Nat} {M : Nat → Bool} (h : MarkedTo H k noMarks M) : M = goesB H k := by
  funext i
  rw [Bool.eq_iff_iff, goesB_iff]
  constructor
  · intro hi
    rcases h.only i hi with h1 | h1
    · simp [noMarks] at h1
    · exact h1
  · intro hw
    induction hw with
    | here => exact h.self
    | more _ hj hH ih => exact h.shut _ ih rfl _ hj hH

section
variable {w : World} {Wd : Int} {A : Option Addr} {n c : Nat} {A' : Option Addr} {n' c' : Nat} {ss : List (Int × Int)} {ds : List (Int × Int × Int)}

/-- What Side answers: its error, or the places to which there is a way. -/
theorem side_reach {one two : Int} {sure : Bool} {e : Ending} {w' : World} (h : SidePost Wd ss ds one two sure w e w') :
    Below w.heap.size w w' ∧
    ((forErr Wd ss ds one two ≠ 0 ∧ e = .returned (.tuple #[.slice none 0 0, .int .i64 (forErr Wd ss ds one two)])) ∨
     (forErr Wd ss ds one two = 0 ∧ goesB (tableOf Wd ss ds sure) (one + 2).toNat (two + 2).toNat = true ∧ e = .returned (.tuple #[.slice none 0 0, .int .i64 11])) ∨
     (forErr Wd ss ds one two = 0 ∧ goesB (tableOf Wd ss ds sure) (one + 2).toNat (two + 2).toNat = false ∧ ∃ v, e = .returned (.tuple #[v, .int .i64 0]) ∧ MadeInts w.heap.size (listTo (goesB (tableOf Wd ss ds sure) (one + 2).toNat) 12) w' v)) := by
  obtain ⟨hb, h | ⟨h0, M, hM, h⟩⟩ := h
  · exact ⟨hb, .inl h⟩
  · have e1 := marked_reach hM
    subst e1
    rcases h with h | h
    · exact ⟨hb, .inr (.inl ⟨h0, h⟩)⟩
    · exact ⟨hb, .inr (.inr ⟨h0, h⟩)⟩
end
end Go.Proofs.Ytckndnaohggmhaa
