/- Texts of one package, joined: EndsIt. -/
import Derived.Test.YtmlmnljbegcjcaaGreatD7
import Derived.RangeFuncNested
import Derived.RangeFuncBound
import Derived.RangeFuncCalls
import Derived.RangeFuncLeaves
import Derived.RangeFuncFrom
import Derived.RangeFuncBox
import Derived.Shelf.Abstract
import Derived.Shelf.RegionOpen
import Derived.OwnWalkIn
import Derived.TacticsInMore
import Derived.LoopNIn
import Derived.LoopIn
import Derived.Sort.CutIn
/- births: the walk of its iterator. -/
namespace Go.Proofs.YtmlmnljbegcjcaaGreat
open Go.RowKit Go.Shelf
attribute [local go_sem] Oper.semAt_some
attribute [local irreducible] bitCells

/-- The blocks that the iterator reads. -/
def OnEnds (pe pb : Nat) (A A2 : Option Addr) (b : Nat) : Prop := b = pe ∨ b = pb ∨ (∃ o, A = some ⟨b, o, none⟩) ∨ ∃ o, A2 = some ⟨b, o, none⟩
/-- Blocks are kept. -/
def KeepsOn (S : Nat → Prop) (W W' : World) : Prop := W.heap.size ≤ W'.heap.size ∧ ∀ b, S b → W'.heap[b]? = W.heap[b]?
theorem keepsOn_r {S : Nat → Prop} (W : World) : KeepsOn S W W := ⟨Nat.le_refl _, fun _ _ => rfl⟩
theorem keepsOn_t {S : Nat → Prop} {A B C : World} (h : KeepsOn S A B) (k : KeepsOn S B C) : KeepsOn S A C := ⟨Nat.le_trans h.1 k.1, fun b hb => (k.2 b hb).trans (h.2 b hb)⟩
theorem keepsOn_ext {S : Nat → Prop} {A B : World} (h : Ext A B) (hS : ∀ b, S b → b < A.heap.size) : KeepsOn S A B := ⟨h.size, fun b hb => h.block b (hS b hb)⟩
theorem held_block {α : Type} {W : World} {B C k : Nat} {enc : α → List Value} {A : Option Addr} {xs : List α} (h : Held W B k enc A xs) {W' : World} (hB : B ≤ C) (hk : ∀ b o, A = some ⟨b, o, none⟩ → W'.heap[b]? = W.heap[b]?) : Held W' C k enc A xs := by
  rcases h with h | ⟨b, off, rfl, hlt, hc⟩
  · exact .inl h
  · exact .inr ⟨b, off, rfl, by omega, fun j x hx i v hv => by rw [World.cell?_of_block (hk b off rfl)]; exact hc j x hx i v hv⟩
section
variable {pe pb : Nat} {A : Option Addr} {c : Nat} {os : List Odr} {A2 : Option Addr} {c2 : Nat}
theorem EndsAt.kept {W W' : World} (h : EndsAt W pe pb A c os A2 c2) (k : KeepsOn (OnEnds pe pb A A2) W W') : EndsAt W' pe pb A c os A2 c2 :=
  ⟨(k.2 _ (.inl rfl)).trans h.rowe, (k.2 _ (.inr (.inl rfl))).trans h.rowb, held_block h.held k.1 (fun b o e => k.2 b (.inr (.inr (.inr ⟨o, e⟩)))), ⟨held_block h.book.held k.1 (fun b o e => k.2 b (.inr (.inr (.inl ⟨o, e⟩)))), h.book.cap, h.book.ok⟩⟩

theorem ends_succ (p : Int → Bool) (l : List Int) {k : Nat} (hk : k < l.length) : (l.take (k + 1)).filter p = (l.take k).filter p ++ (if p l[k] = true then [l[k]] else []) := by
  rw [List.take_succ_eq_append_getElem hk, List.filter_append]
  congr 1
  by_cases h : p l[k] = true <;> simp [h]
theorem ends_pre (p : Int → Bool) (l : List Int) (k : Nat) : (l.take k).filter p <+: l.filter p := (List.take_prefix k l).filter p
/-- A bath does some order just if its marks are not all false. -/
theorem some_does {os : List Odr} (x : Int) (h : os.length ≤ 14) : (!sameBits (doesB os [x]) noBits) = os.any (doneB x) := by
  have h1 : ∀ o, madeB [x] o = doneB x o := fun o => by simp [madeB]
  rw [Bool.eq_iff_iff, List.any_eq_true]
  unfold sameBits
  rw [Bool.not_eq_true', List.all_eq_false]
  constructor
  · rintro ⟨i, _, hi⟩
    by_cases hl : i < os.length
    · refine ⟨os[i], List.getElem_mem hl, ?_⟩
      simpa [doesB, noBits, hl, oAt_get hl, h1] using hi
    · simp [doesB, noBits, hl] at hi
  · rintro ⟨o, ho, hd⟩
    obtain ⟨i, hi, rfl⟩ := List.getElem_of_mem ho
    exact ⟨i, List.mem_range.2 (by omega), by simp [doesB, noBits, hi, oAt_get hi, h1, hd]⟩
theorem litNo83 : (#[.bool false, .bool false, .bool false, .bool false, .bool false, .bool false, .bool false, .bool false, .bool false, .bool false, .bool false, .bool false, .bool false, .bool false] : Array Value) = bitCells noBits := by kernel_rfl

set_option maxRecDepth 100000 in
set_option maxHeartbeats 4000000 in
theorem ends1_in (N : Nat) (hn : 1 ≤ N) (l : Nat) (J Jx : List Int → World → Prop)
    (hY : ∀ pre x W, J pre W → pre.length < (endsOf os).length → YieldAt Fence.wide (N - 1) Tryz.prog l #[.int .i64 x] W fun e W' =>
      (e = .returned (.bool true) ∧ J (pre ++ [x]) W' ∧ KeepsOn (OnEnds pe pb A A2) W W') ∨ (e = .returned (.bool false) ∧ Jx (pre ++ [x]) W'))
    (W : World) (hb : EndsAt W pe pb A c os A2 c2) (hS : ∀ b, OnEnds pe pb A A2 b → b < W.heap.size)
    (hab : ∀ s X X', J s X → Ext X X' → J s X') (hJ0 : J [] W) :
    CallsIn Fence.wide N Tryz.prog 124 #[.func (.yield l) #[] #[], .pointer (some ⟨pe, 0, none⟩), .pointer (some ⟨pb, 0, none⟩)] W fun e W' => (∃ v, e = .returned v) ∧
      ((∃ ys, ys = endsOf os ∧ J ys W') ∨ (∃ pre, pre <+: endsOf os ∧ Jx pre W')) := by
  have HB := Lib.hid hb
  have HAB := Lib.hid hab
  have HS := Lib.hid hS
  have h14 := hb.book.few.2
  have hl14 : (sortD (os.map bHi)).length ≤ 14 := by have := sortD_len (os.map bHi); simp at this; omega
  have cpe : W.cell? ⟨pe, 0, none⟩ = some (.slice A2 (sortD (os.map bHi)).length c2) := cell_of_row _ _ _ _ _ _ hb.rowe
  obtain ⟨es, hes⟩ : ∃ es, sortD (os.map bHi) = es := ⟨_, rfl⟩
  have heo : endsOf os = es.filter fun x => os.any (doneB x) := by rw [← hes]; rfl
  have HEO := Lib.hid heo
  have HES := Lib.hid hes
  rw [hes] at cpe hl14
  rw [heo] at hY ⊢
  clear hb hab hS hes heo
  refine callsIn_of_wp Tryz.func124 rfl trivial ?_ rfl
  simp only [Tryz.ntmps124, List.size_toArray, List.length_cons, List.length_nil, Nat.reduceAdd, Nat.reduceSub, Array.replicate_succ, Array.replicate_zero, List.push_toArray, List.append_toArray, List.nil_append, List.cons_append]
  gi_wp2
  gi_loopw [8] (fun i wr => ∃ k : Nat, k ≤ es.length ∧ i = .int .i64 k ∧ J ((es.take k).filter fun x => os.any (doneB x)) wr ∧ Hid (KeepsOn (OnEnds pe pb A A2) W wr)) (fun i _ => es.length - (intOf i).toNat)
  case atStart => exact ⟨0, Nat.zero_le _, rfl, hJ0, Lib.hid (keepsOn_r W)⟩
  case round =>
    obtain ⟨k, hk, rfl, hJk, hK⟩ := hrel
    clear cpe
    have hE := HB.out.kept hK.out
    by_cases hlt : k < es.length
    · have hltz : (k : Int) < (es.length : Int) := by omega
      have hSr : ∀ b, OnEnds pe pb A A2 b → b < wr.heap.size := fun b h => Nat.lt_of_lt_of_le (HS.out b h) hK.out.1
      have hh := hE.held
      rw [HES.out] at hh
      obtain ⟨b, off, rfl, hc⟩ := int_get hh hlt
      have hsuc := ends_succ (fun x => os.any (doneB x)) es hlt
      have hpr := ends_pre (fun x => os.any (doneB x)) es (k + 1)
      obtain ⟨x, hx⟩ : ∃ x, es[k] = x := ⟨_, rfl⟩
      rw [hx] at hc hsuc
      have cpb : wr.cell? ⟨pb, 0, none⟩ = some (.slice A os.length c) := cell_of_row _ _ _ _ _ _ hE.rowb
      have hpl : pb < wr.heap.size := hSr _ (.inr (.inl rfl))
      have hEA := ext_alloc wr (.cells #[.int .i64 x] 2)
      have h57 := does_any (hE.book.ext hEA) (some ⟨wr.heap.size, 0, none⟩) 1 1 [x] rfl (by decide) (.inr ⟨_, 0, rfl, by simp, fun j y hj i v hv => by
        match j, hj with
        | 0, hj =>
          match i, hv with
          | 0, hv =>
            injection hj with hj
            subst hj
            exact (cell_of_row _ _ _ _ _ _ (row_last _ _ _ rfl)).trans hv
          | i + 1, hv => simp [encI] at hv⟩)
      have hsd := some_does (os := os) x h14
      have hneq := fun w' => neq83 (doesB os [x]) noBits w'
      obtain ⟨q, hq⟩ : ∃ q, os.any (doneB x) = q := ⟨_, rfl⟩
      rw [hq] at hsd hsuc
      simp only [hsd, ← litNo83] at hneq
      obtain ⟨D, hD⟩ : ∃ D, doesB os [x] = D := ⟨_, rfl⟩
      rw [hD] at h57
      simp only [hD] at hneq
      have HSU := Lib.hid hsuc
      have HPR := Lib.hid hpr
      clear hx hsd hq hD hsuc hpr hE hh
      cases q with
      | false =>
        gi_wp2_with (refine ⟨trivial, ?_⟩; gi_at_call 57; refine (callsIn_wide.2 h57).mono ?_; rintro e w2 ⟨rfl, e2⟩; have HX := Lib.hid (Ext.trans hEA e2); have hn2 := hneq w2; clear e2)
        rw [if_neg (by decide), List.append_nil] at HSU
        have hJ2 := HAB.out _ _ _ hJk HX.out
        refine ⟨fun _ _ => trivial, ?_⟩
        gi_wp2
        go_roundw
        case measure => simp [intOf]; omega
        case rel => exact ⟨k + 1, by omega, by go_num, by rw [HSU.out]; exact hJ2, Lib.hid (keepsOn_t hK.out (keepsOn_ext HX.out hSr))⟩
      | true =>
        rw [if_pos rfl] at HSU
        have hlen : ((es.take k).filter fun x => os.any (doneB x)).length < (es.filter fun x => os.any (doneB x)).length := by
          have := HPR.out.length_le
          rw [HSU.out] at this
          simp at this
          omega
        gi_wp2_with (refine ⟨trivial, ?_⟩; gi_at_call 57; refine (callsIn_wide.2 h57).mono ?_; rintro e w2 ⟨rfl, e2⟩; have HX := Lib.hid (Ext.trans hEA e2); have hn2 := hneq w2; clear e2)
        have hJ2 := HAB.out _ _ _ hJk HX.out
        have HK2 := Lib.hid (keepsOn_t hK.out (keepsOn_ext HX.out hSr))
        obtain ⟨fn, tmps, assign, body, hy, hR⟩ := hY _ x w2 hJ2 hlen
        clear hJ2 hJk
        rw [hy]
        unfold Oper.uponIn
        dsimp only
        refine ⟨fun _ => hn, hR.mono ?_⟩
        rintro e W3 (⟨rfl, hJ3, hk3⟩ | ⟨rfl, hJx3⟩)
        · have HK3 := Lib.hid (keepsOn_t HK2.out hk3)
          clear hk3
          gi_wp2
          go_roundw
          case measure => simp [intOf]; omega
          case rel => exact ⟨k + 1, by omega, by go_num, by rw [HSU.out]; exact hJ3, HK3⟩
        · gi_wp2
          refine bodyPost_ret (results_none rfl _ _ _) rfl ?_
          exact ⟨⟨_, rfl⟩, .inr ⟨_, by rw [← HSU.out]; exact HPR.out, hJx3⟩⟩
    · have hltz : ¬ (k : Int) < (es.length : Int) := by omega
      obtain rfl : k = es.length := by omega
      rw [List.take_length] at hJk
      gi_wp2
      go_end0
      exact ⟨⟨_, rfl⟩, .inl hJk⟩
end
end Go.Proofs.YtmlmnljbegcjcaaGreat
