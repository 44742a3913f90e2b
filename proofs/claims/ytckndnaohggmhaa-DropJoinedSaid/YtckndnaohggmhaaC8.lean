/- Texts of the package drop, joined: Places, Free, Search, Room, FirstSized. -/
import Derived.Test.YtckndnaohggmhaaC7
import Derived.RangeFuncNested
import Derived.RangeFuncBound
import Derived.RangeFuncCalls
import Derived.RangeFuncLeaves
import Derived.RangeFuncFrom
import Derived.Shelf.Abstract
import Derived.Shelf.RegionOpen
import Derived.OwnWalkIn
import Derived.TacticsInMore
import Derived.LoopNIn
import Derived.LoopIn
/- places: the iterator over all places of a bath. -/
namespace Go.Proofs.Ytckndnaohggmhaa
open Go.RowKit Go.Shelf

attribute [local go_sem] Oper.semAt_some

/-- The first k of m numbers. -/
def upto (m k : Nat) : List (Fin m) := (List.finRange m).take k
theorem upto_succ {m k : Nat} (h : k < m) : upto m (k + 1) = upto m k ++ [⟨k, h⟩] := by
  unfold upto
  rw [List.take_succ_eq_append_getElem (by simpa using h)]
  simp
theorem upto_length {m k : Nat} (h : k ≤ m) : (upto m k).length = k := by simp [upto]; omega
theorem upto_all (m : Nat) : upto m m = List.finRange m := by unfold upto; rw [List.take_of_length_le (by simp)]
/-- The place that is the k-th one: the right wall, the left wall, the spots. -/
def pl (k : Nat) : Int := (k : Int) - 2

/-- The blocks of S lie as they lay. -/
def KeepsIn (S : Nat → Prop) (W W' : World) : Prop := ∀ b, S b → W'.heap[b]? = W.heap[b]?
theorem keepsIn_t {S : Nat → Prop} {A B C : World} (h : KeepsIn S A B) (k : KeepsIn S B C) : KeepsIn S A C := fun b hb => (k b hb).trans (h b hb)
theorem keepsIn_b {S : Nat → Prop} {B : Nat} (hS : ∀ b, S b → b < B) (W : World) (l : Nat) (o o' : Obj) (hl : B ≤ l) (_ : W.heap[l]? = some o) (_ : o.isCells = false) (_ : o.isWalk = false) : KeepsIn S W (W.putObj l o') := fun b hb => by
  have := hS b hb
  show (W.heap.setIfInBounds l o')[b]? = _
  rw [Array.getElem?_setIfInBounds_ne (by omega)]
theorem keepsIn_below {S : Nat → Prop} {n₀ : Nat} (hS : ∀ b, S b → b < n₀) {W W' : World} (h : Below n₀ W W') : KeepsIn S W W' := fun b hb => h.block b (hS b hb)
theorem KeepsIn.cell {S : Nat → Prop} {W W' : World} (h : KeepsIn S W W') {b : Nat} (hb : S b) (o : Nat) : W'.cell? ⟨b, o, none⟩ = W.cell? ⟨b, o, none⟩ := World.cell?_of_block (w := W) (h b hb)

set_option maxRecDepth 100000 in
set_option maxHeartbeats 2000000 in
theorem places1_in (N : Nat) (hn : 1 ≤ N) (l P g : Nat) (S : Nat → Prop) (A : Option Addr) (n c : Nat) (hlen : n ≤ 10) (hP : S P) (hg : S g) (J Jx : List (Fin (n + 2)) → World → Prop)
    (hY : ∀ pre x W, J pre W → pre.length < n + 2 → YieldAt Fence.wide (N - 1) Try.prog l #[.int .i64 ((x.val : Int) - 2)] W fun e W' =>
      (e = .returned (.bool true) ∧ J (pre ++ [x]) W' ∧ KeepsIn S W W') ∨ (e = .returned (.bool false) ∧ Jx (pre ++ [x]) W'))
    (W : World) (hBs : W.cell? ⟨P, 0, none⟩ = some (.pointer (some ⟨g, 0, none⟩))) (hc : W.cell? ⟨g, 1, none⟩ = some (.slice A n c)) (h0 : J [] W) :
    CallsIn Fence.wide N Try.prog 123 #[.func (.yield l) #[] #[], .pointer (some ⟨P, 0, none⟩)] W fun e W' => (∃ v, e = .returned v) ∧
      ((∃ ys, ys = List.finRange (n + 2) ∧ J ys W') ∨ (∃ pre, (∃ k, k ≤ n + 2 ∧ pre = upto (n + 2) k) ∧ Jx pre W')) := by
  refine callsIn_of_wp Try.func123 rfl trivial ?_ rfl
  simp only [Try.ntmps123, List.size_toArray, List.length_cons, List.length_nil, Nat.reduceAdd, Nat.reduceSub, Array.replicate_succ, Array.replicate_zero, List.push_toArray, List.append_toArray, List.nil_append, List.cons_append]
  gi_wp2
  gi_loopw [3] (fun i wr => ∃ k : Nat, k ≤ n + 2 ∧ i = .int .i64 ((k : Int) - 2) ∧ J (upto (n + 2) k) wr ∧ KeepsIn S W wr)
    (fun i _ => n + 2 - (intOf i + 2).toNat)
  case atStart => exact ⟨0, Nat.zero_le _, rfl, h0, fun _ _ => rfl⟩
  case round =>
    obtain ⟨k, hk, rfl, hJs, hnx⟩ := hrel
    have hp1 := (hnx.cell hP 0).trans hBs
    have hc1 := (hnx.cell hg 1).trans hc
    by_cases hlt : k < n + 2
    · obtain ⟨fn, tmps, assign, body, hy, hR⟩ := hY _ ⟨k, hlt⟩ wr hJs (by rw [upto_length (by omega)]; exact hlt)
      have hz : (k : Int) - 2 < n := by omega
      gi_wp2
      refine hR.mono ?_
      rintro e W3 (⟨rfl, hJ3, hk3⟩ | ⟨rfl, hJx3⟩)
      · gi_wp2
        go_roundw
        case rel => exact ⟨k + 1, by omega, by go_num, by rw [upto_succ hlt]; exact hJ3, keepsIn_t hnx hk3⟩
        case measure => simp [intOf]; omega
      · gi_wp2
        refine bodyPost_ret (results_none rfl _ _ _) rfl ?_
        exact ⟨⟨_, rfl⟩, .inr ⟨_, ⟨k + 1, by omega, (upto_succ hlt).symm⟩, hJx3⟩⟩
    · obtain rfl : k = n + 2 := by omega
      have hz : ¬ ((n + 2 : Nat) : Int) - 2 < n := by omega
      gi_wp2
      go_end0
      exact ⟨⟨_, rfl⟩, .inl (by rw [upto_all] at hJs; exact hJs)⟩

theorem enters123 : ∀ args w, (callFunc 123 args).run Try.prog w = .ok (.enter 123 args) w := enters_of Try.func123 (by kernel_rfl) rfl

theorem places_stops (N : Nat) (hn : 1 ≤ N) (P g : Nat) (S : Nat → Prop) (A : Option Addr) (n c : Nat) (hlen : n ≤ 10) (hP : S P) (hg : S g) (w : World) (hS : ∀ b, S b → b < w.heap.size)
    (hBs : w.cell? ⟨P, 0, none⟩ = some (.pointer (some ⟨g, 0, none⟩))) (hc : w.cell? ⟨g, 1, none⟩ = some (.slice A n c)) :
    SeqStopsK Fence.wide N Try.prog 123 #[.pointer (some ⟨P, 0, none⟩)] (fun x : Fin (n + 2) => #[Value.int .i64 ((x.val : Int) - 2)]) (KeepsIn S) (fun ys => ys = List.finRange (n + 2)) (fun pre => pre <+: List.finRange (n + 2)) (n + 2) w := fun l J Jx W hW _ _ hY h0 => by
  refine (places1_in N hn l P g S A n c hlen hP hg J Jx hY W ((hW.cell (p := ⟨P, 0, none⟩) (hS P hP)).trans hBs) ((hW.cell (p := ⟨g, 1, none⟩) (hS g hg)).trans hc) h0).mono ?_
  rintro e W' ⟨he, ⟨ys, rfl, hj⟩ | ⟨pre, ⟨k, hk, rfl⟩, hj⟩⟩
  · exact ⟨he, .inl ⟨_, rfl, hj⟩⟩
  · exact ⟨he, .inr ⟨_, by rw [upto]; exact List.take_prefix _ _, hj⟩⟩

set_option maxHeartbeats 400000 in
theorem places_any (g : Nat) (w : World) : Calls Try.prog 101 #[.pointer (some ⟨g, 0, none⟩)] w fun e w' => e = .returned (.func (.func 123) #[] #[.pointer (some ⟨w.heap.size, 0, none⟩)]) ∧ w' = w.alloc (.cells #[.pointer (some ⟨g, 0, none⟩)] 126) := by
  go_enter Try.func101, Try.ntmps101
  go_wp2
  go_ret
  exact ⟨rfl, rfl⟩
end Go.Proofs.Ytckndnaohggmhaa

/- isFree: whether a spot never touches anything. -/
namespace Go.Proofs.Ytckndnaohggmhaa
open Go.RowKit Go.Shelf

attribute [local go_sem] Oper.semAt_some

theorem keepsOthers_below {W W' : World} (h : Below W.heap.size W W') : KeepsOthers W W' :=
  ⟨h.size, fun k _ hk _ => (h.block k (Array.getElem?_eq_some_iff.1 hk).1).trans hk⟩

/-- Whether a spot's kind with a place is none. -/
def apartB (Wd : Int) (ss : List (Int × Int)) (sz : Nat → Int × Int) (s x : Int) : Bool := decide (x = s) || decide (kindOf Wd ss sz s x = 0)
/-- Whether a spot's kind with all other places is none. -/
def freeB (Wd : Int) (ss : List (Int × Int)) (sz : Nat → Int × Int) (n : Nat) (s : Int) : Bool := (List.finRange (n + 2)).all fun k => apartB Wd ss sz s ((k.val : Int) - 2)

section
variable {w : World} {B g : Nat} {Wd : Int} {A : Option Addr} {n c : Nat} {A' : Option Addr} {n' c' : Nat} {ss : List (Int × Int)} {ds : List (Int × Int × Int)} {sz : Nat → Int × Int}

set_option maxRecDepth 100000 in
set_option maxHeartbeats 2000000 in
theorem isFree_any (s : Int) (hs0 : -2 ≤ s) (hs1 : s < n) (h : IsSized w w.heap.size g Wd A n c A' n' c' ss ds sz) :
    Calls Try.prog 84 #[.pointer (some ⟨g, 0, none⟩), .int .i64 s] w fun e w' => e = .returned (.bool (freeB Wd ss sz n s)) ∧ Below w.heap.size w w' := by
  refine (callsIn_wide (n := 9)).1 ?_
  have hn10 := h.few.1
  have hg := h.hg
  refine callsIn_of_wp_marks Try.func84 rfl trivial ?_ rfl
  simp only [Try.ntmps84, List.size_toArray, List.length_cons, List.length_nil, Nat.reduceAdd, Nat.reduceSub, Array.replicate_succ, Array.replicate_zero, List.push_toArray, List.append_toArray, List.nil_append, List.cons_append]
  gi_wp2_with (refine ⟨trivial, ?_⟩; gi_at_call 101; refine (callsIn_wide.2 (places_any g _)).mono ?_; rintro e w' ⟨rfl, rfl⟩)
  have hB0 : Below w.heap.size w ((((w.alloc (.cells #[.pointer (some ⟨g, 0, none⟩)] 126)).alloc (.cells #[.int .i64 s] 3)).alloc (.cells #[.bool false] 4)).alloc (.cells #[.pointer (some ⟨g, 0, none⟩)] 126)) :=
    ((((Below.refl _ w).alloc (Nat.le_refl _) _).alloc (by simp) _).alloc (by simp; omega) _).alloc (by simp; omega) _
  have d0 : ((((w.alloc (.cells #[.pointer (some ⟨g, 0, none⟩)] 126)).alloc (.cells #[.int .i64 s] 3)).alloc (.cells #[.bool false] 4)).alloc (.cells #[.pointer (some ⟨g, 0, none⟩)] 126)).cell? ⟨w.heap.size, 0, none⟩ = some (.pointer (some ⟨g, 0, none⟩)) := by go_simp
  have d1 : ((((w.alloc (.cells #[.pointer (some ⟨g, 0, none⟩)] 126)).alloc (.cells #[.int .i64 s] 3)).alloc (.cells #[.bool false] 4)).alloc (.cells #[.pointer (some ⟨g, 0, none⟩)] 126)).cell? ⟨w.heap.size + 1, 0, none⟩ = some (.int .i64 s) := by go_simp
  have d2 : ((((w.alloc (.cells #[.pointer (some ⟨g, 0, none⟩)] 126)).alloc (.cells #[.int .i64 s] 3)).alloc (.cells #[.bool false] 4)).alloc (.cells #[.pointer (some ⟨g, 0, none⟩)] 126)).cell? ⟨w.heap.size + 1 + 1, 0, none⟩ = some (.bool false) := by go_simp
  have d3 : ((((w.alloc (.cells #[.pointer (some ⟨g, 0, none⟩)] 126)).alloc (.cells #[.int .i64 s] 3)).alloc (.cells #[.bool false] 4)).alloc (.cells #[.pointer (some ⟨g, 0, none⟩)] 126)).cell? ⟨w.heap.size + 1 + 1 + 1, 0, none⟩ = some (.pointer (some ⟨g, 0, none⟩)) := by go_simp
  have d4 : ((((w.alloc (.cells #[.pointer (some ⟨g, 0, none⟩)] 126)).alloc (.cells #[.int .i64 s] 3)).alloc (.cells #[.bool false] 4)).alloc (.cells #[.pointer (some ⟨g, 0, none⟩)] 126)).frozen? ⟨w.heap.size + 1 + 1, 0, none⟩ = false := by go_simp
  have dz : ((((w.alloc (.cells #[.pointer (some ⟨g, 0, none⟩)] 126)).alloc (.cells #[.int .i64 s] 3)).alloc (.cells #[.bool false] 4)).alloc (.cells #[.pointer (some ⟨g, 0, none⟩)] 126)).heap.size = w.heap.size + 4 := by simp
  obtain ⟨W0, hW0⟩ : ∃ W0, ((((w.alloc (.cells #[.pointer (some ⟨g, 0, none⟩)] 126)).alloc (.cells #[.int .i64 s] 3)).alloc (.cells #[.bool false] 4)).alloc (.cells #[.pointer (some ⟨g, 0, none⟩)] 126)) = W0 := ⟨_, rfl⟩
  rw [hW0] at hB0 d0 d1 d2 d3 d4 dz ⊢
  clear hW0
  have hS0 := (h.kept hB0 (Nat.le_refl _)).wider hB0.size
  refine wpIn_rangeFunc_ownF rfl (by omega) (gf := 123) (lb := #[.pointer (some ⟨w.heap.size + 1 + 1 + 1, 0, none⟩)]) rfl trivial enters123
    (places_stops (9 - 1) (by omega) (w.heap.size + 1 + 1 + 1) g (fun b => b < w.heap.size + 4) A n c hn10 (by omega) (by omega) W0 (fun b hb => by omega) d3 hS0.h1) keepsIn_t (keepsIn_b (fun b hb => by omega)) (Below.refl _ _) (fun _ => rfl)
    (fun pre W => ((pre.all (fun k => apartB Wd ss sz s ((k.val : Int) - 2)) = true) ∧ W.cell? ⟨w.heap.size, 0, none⟩ = some (.pointer (some ⟨g, 0, none⟩)) ∧ W.cell? ⟨w.heap.size + 1, 0, none⟩ = some (.int .i64 s) ∧ W.cell? ⟨w.heap.size + 1 + 1, 0, none⟩ = some (.bool false) ∧ W.frozen? ⟨w.heap.size + 1 + 1, 0, none⟩ = false) ∧ Below (w.heap.size + 4) W0 W)
    (fun c pre W => (c = .ret ∧ pre.all (fun k => apartB Wd ss sz s ((k.val : Int) - 2)) = false ∧ W.cell? ⟨w.heap.size + 1 + 1, 0, none⟩ = some (.bool false)) ∧ Below w.heap.size W0 W)
    (OwnFrom.and (Own.from (fun s A B row hs hg hr => ⟨hs.1, cell_kept hs.2.1 hg hr, cell_kept hs.2.2.1 hg hr, cell_kept hs.2.2.2.1 hg hr, (frozen_kept hs.2.2.2.1 hg hr).trans hs.2.2.2.2⟩) _) (ownFrom_below (by omega) (by omega)))
    (fun c => OwnFrom.and (Own.from (fun s A B row hs hg hr => ⟨hs.1, hs.2.1, cell_kept hs.2.2 hg hr⟩) _) (ownFrom_below (by omega) (by omega)))
    ⟨⟨by simp, d0, d1, d2, d4⟩, Below.refl _ _⟩
    (fun x => { tmps := #[.pointer (some ⟨g, 0, none⟩), .int .i64 s, .pointer (some ⟨w.heap.size, 0, none⟩), .pointer (some ⟨w.heap.size + 1, 0, none⟩), .pointer (some ⟨w.heap.size + 1 + 1, 0, none⟩), .int .i64 ((x.val : Int) - 2), .pointer (some ⟨g, 0, none⟩), .func (.func 123) #[] #[.pointer (some ⟨w.heap.size + 1 + 1 + 1, 0, none⟩)], .int .i64 ((x.val : Int) - 2), undef, undef, undef, undef, undef, undef, undef, undef, undef, undef], defers := [] }) ?assign ?body ?done ?stop
  case assign =>
    intro l x W K hK
    gi_wp2
    exact hK
  case body =>
    rintro l pre x W ⟨⟨hp, e0, e1, e2, e4⟩, hB⟩ _
    have hx := x.isLt
    obtain ⟨p, hpx⟩ : ∃ p : Int, (x.val : Int) - 2 = p := ⟨_, rfl⟩
    have hp0 : -2 ≤ p := by omega
    have hp1 : p < n := by omega
    have hall : (pre ++ [x]).all (fun k => apartB Wd ss sz s ((k.val : Int) - 2)) = apartB Wd ss sz s p := by rw [List.all_append, hp]; simp [hpx]
    have HALL := Lib.hid hall
    have HP := Lib.hid hp
    have hSW := (hS0.kept hB (by omega)).wider hB.size
    rw [hpx]
    clear hp hall hpx
    by_cases hps : p = s
    · have q1 : (p != s) = false := by simp [hps]
      have q2 : (p == s) = true := by simp [hps]
      have hok : apartB Wd ss sz s p = true := by simp [apartB, hps]
      have HOK := Lib.hid hok
      clear hok hS0 hSW q1 q2
      subst hps
      gi_wp2
      refine ⟨trivial, ?_⟩
      gi_wp2
      exact ⟨KeepsOthers.refl _, fun _ _ => rfl, ⟨by rw [HALL.out, HOK.out], e0, e1, e2, e4⟩, hB⟩
    · have q1 : (p != s) = true := by simp [hps]
      have q2 : (p == s) = false := by simp [hps]
      have hcall := kind_any s p hs0 hs1 hp0 hp1 (fun e => hps e.symm) hSW
      have hok : apartB Wd ss sz s p = decide (kindOf Wd ss sz s p = 0) := by simp [apartB, hps]
      have HOK := Lib.hid hok
      have hWz := hB.size
      clear hok hS0 hSW hps
      generalize kindOf Wd ss sz s p = k at hcall HOK
      by_cases hk : k = 0
      · subst hk
        gi_wp2_with (refine ⟨trivial, ?_⟩; gi_at_call 69; refine (CallsIn.inRound l (callsIn_wide.2 hcall)).mono ?_; rintro e w2 ⟨rfl, hb2⟩)
        have hk2 : ∀ b, b < W.heap.size → ∀ o, w2.cell? ⟨b, o, none⟩ = W.cell? ⟨b, o, none⟩ := fun b hb o => hb2.cell (p := ⟨b, o, none⟩) hb
        exact ⟨keepsOthers_below hb2, keepsIn_below (n₀ := w.heap.size + 4) (fun _ h => h) (hb2.mono (by omega)), ⟨by rw [HALL.out, HOK.out]; rfl, (hk2 _ (by omega) _).trans e0, (hk2 _ (by omega) _).trans e1, (hk2 _ (by omega) _).trans e2, (hb2.frozen (p := ⟨w.heap.size + 1 + 1, 0, none⟩) (by show w.heap.size + 1 + 1 < _; omega)).trans e4⟩, hB.trans (hb2.mono (by omega))⟩
      · have q3 : (k != 0) = true := by simp [hk]
        have q4 : (k == 0) = false := by simp [hk]
        have HK := Lib.hid hk
        clear hk
        gi_wp2_with (refine ⟨trivial, ?_⟩; gi_at_call 69; refine (CallsIn.inRound l (callsIn_wide.2 hcall)).mono ?_; rintro e w2 ⟨rfl, hb2⟩; have f2 := (hb2.cell (p := ⟨w.heap.size + 1 + 1, 0, none⟩) (by show w.heap.size + 1 + 1 < _; omega)).trans e2; have f4 := (hb2.frozen (p := ⟨w.heap.size + 1 + 1, 0, none⟩) (by show w.heap.size + 1 + 1 < _; omega)).trans e4)
        refine ⟨(keepsOthers_below hb2).trans (KeepsOthers.setCell _ _ _), ⟨rfl, by rw [HALL.out, HOK.out, decide_eq_false HK.out], World.cell?_setCell_same' _ _ _ (by rw [f2]; rfl)⟩, ?_⟩
        exact ((hB.mono (by omega)).trans (hb2.mono (by omega))).setCell (p := ⟨w.heap.size + 1 + 1, 0, none⟩) (by show w.heap.size ≤ w.heap.size + 1 + 1; omega) _
  case done =>
    rintro D ys W hD rfl ⟨⟨hp, e0, e1, e2, e4⟩, hB⟩ hK
    clear hS0
    gi_wp2
    have hK' := (KeepsOthers.setCell W ⟨w.heap.size + 1 + 1, 0, none⟩ (.bool true)).same D _ hK rfl
    refine ⟨by simp, .inl ⟨_, _, rfl, run_takeDeferred hK', ?_⟩⟩
    have hc5 := cell_kept (World.cell?_setCell_same' W ⟨w.heap.size + 1 + 1, 0, none⟩ (.bool true) (by rw [e2]; rfl)) (grownBy_putObj' _ D (.deferred none)) (fun r e => by cases e; exact ⟨_, hK', rfl⟩)
    have hfr : freeB Wd ss sz n s = true := hp
    refine ⟨.bool true, ?_, by rw [hfr], (hB0.trans ((hB.mono (by omega)).setCell (p := ⟨w.heap.size + 1 + 1, 0, none⟩) (by show w.heap.size ≤ w.heap.size + 1 + 1; omega) _)).trans (belowK_b (w := w) (Nat.le_refl _) _ D _ _ (by omega) hK' rfl rfl)⟩
    simp [results, Try.f84, go_sem, hc5]
  case stop =>
    rintro D c pre W hD hpre ⟨⟨rfl, hin, hcr⟩, hB⟩ hK
    clear hS0
    gi_wp2
    refine ⟨by simp, .inl ⟨_, _, rfl, run_takeDeferred hK, ?_⟩⟩
    have hc5 := cell_kept hcr (grownBy_putObj' _ D (.deferred none)) (fun r e => by cases e; exact ⟨_, hK, rfl⟩)
    have hfr : freeB Wd ss sz n s = false := by
      unfold freeB
      rw [Bool.eq_false_iff] at hin ⊢
      intro hall
      exact hin (List.all_eq_true.2 fun k hk => List.all_eq_true.1 hall k (hpre.subset hk))
    refine ⟨.bool false, ?_, by rw [hfr], (hB0.trans hB).trans (belowK_b (w := w) (Nat.le_refl _) W D _ _ (by omega) hK rfl rfl)⟩
    simp [results, Try.f84, go_sem, hc5]
end
end Go.Proofs.Ytckndnaohggmhaa

/- sort.Search over a handed predicate that stays true once it is. -/
namespace Go.Proofs.Ytckndnaohggmhaa
open Go.RowKit Go.Shelf

/-- r is where p begins to be true, below n. -/
def Begins (p : Nat → Bool) (n r : Nat) : Prop := r ≤ n ∧ (∀ k, k < r → p k = false) ∧ (∀ k, r ≤ k → k < n → p k = true)
def FoundAt (p : Nat → Bool) (n : Nat) (w : World) (e : Ending) (w' : World) : Prop := ∃ r : Nat, e = .returned (.int .i64 r) ∧ Begins p n r ∧ Below w.heap.size w w'

set_option maxHeartbeats 1000000 in
theorem search_any (f : Nat) (lb : Array Value) (ef : ∀ args w, (callFunc f args).run Try.prog w = .ok (.enter f args) w) (p : Nat → Bool) (n : Nat) (hn : n ≤ 1000000) (w : World)
    (hmono : ∀ a b, a ≤ b → b < n → p a = true → p b = true)
    (hp : ∀ (W : World) (k : Nat), k < n → Below w.heap.size w W → Calls Try.prog f (#[.int .i64 k] ++ lb) W fun e w' => e = .returned (.bool (p k)) ∧ Below W.heap.size W w') :
    Calls Try.prog 87 #[.int .i64 n, .func (.func f) #[] lb] w (FoundAt p n w) := by
  have HM := Lib.hid hmono
  clear hmono
  go_enter Try.func87, Try.ntmps87
  go_wp2
  go_loopw [5, 6, 7] (fun i j _ wr => ∃ a b : Nat, a ≤ b ∧ b ≤ n ∧ i = .int .i64 a ∧ j = .int .i64 b ∧ Hid (Below w.heap.size w wr) ∧ Hid (∀ k, k < a → p k = false) ∧ Hid (∀ k, b ≤ k → k < n → p k = true)) (fun i j _ _ => (intOf j).toNat - (intOf i).toNat)
  case atStart => exact ⟨0, n, Nat.zero_le _, Nat.le_refl _, rfl, rfl, Lib.hid (Below.refl _ _), Lib.hid (fun k hk => absurd hk (Nat.not_lt_zero _)), Lib.hid (fun k hk hk' => absurd hk (by omega))⟩
  case round =>
    obtain ⟨a, b, hab, hbn, rfl, rfl, hB, hA, hC⟩ := hrel
    by_cases hlt : a < b
    · have hltz : (a : Int) < b := by omega
      obtain ⟨h, hh⟩ : ∃ h, (a + b) / 2 = h := ⟨_, rfl⟩
      have h1 : a ≤ h := by omega
      have h2 : h < b := by omega
      have hcall := hp wr h (by omega) hB.out
      have hz : ((a : Int) + b) / 2 = h := by omega
      have HZ := Lib.hid hz
      have HP := Lib.hid hp
      clear hh hz hp
      cases hq : p h with
      | true =>
        rw [hq] at hcall
        have HQ := Lib.hid hq
        clear hq
        go_wp2_with fail
        rw [HZ.out]
        refine hcall.mono ?_
        rintro e w1 ⟨rfl, hb1⟩
        go_wp2
        go_roundw
        case measure => simp [intOf]; omega
        case rel =>
          refine ⟨a, h, h1, by omega, rfl, rfl, Lib.hid (bstep hB.out hB.out.size hb1), hA, Lib.hid fun k hk hk' => ?_⟩
          exact HM.out h k hk hk' HQ.out
      | false =>
        rw [hq] at hcall
        have HQ := Lib.hid hq
        clear hq
        go_wp2_with fail
        rw [HZ.out]
        refine hcall.mono ?_
        rintro e w1 ⟨rfl, hb1⟩
        go_wp2
        go_roundw
        case measure => simp [intOf]; omega
        case rel =>
          refine ⟨h + 1, b, by omega, hbn, by go_num, rfl, Lib.hid (bstep hB.out hB.out.size hb1), Lib.hid fun k hk => ?_, hC⟩
          cases hpk : p k with
          | false => rfl
          | true => exact absurd (HM.out k h (by omega) (by omega) hpk) (by rw [HQ.out]; simp)
    · have hltz : ¬ (a : Int) < b := by omega
      obtain rfl : a = b := by omega
      go_wp2
      go_ret
      exact ⟨a, rfl, ⟨hbn, hA.out, hC.out⟩, hB.out⟩
end Go.Proofs.Ytckndnaohggmhaa

/- Room: how far one more drop can spread. -/
namespace Go.Proofs.Ytckndnaohggmhaa
open Go.RowKit Go.Shelf

/-- The sizes with one more drop on spot i that spreads k. -/
def plus (sz : Nat → Int × Int) (i : Nat) (k : Int) (m : Nat) : Int × Int := if m = i then ((sz i).1 + k, (sz i).2 + k) else sz m

/-- Whether one more drop that spreads k + 1 is too much. -/
def tooFar (Wd : Int) (ss : List (Int × Int)) (sz : Nat → Int × Int) (n i : Nat) (k : Nat) : Bool := !freeB Wd ss (plus sz i ((k : Int) + 1)) n i

section
variable {w : World} {B g : Nat} {Wd : Int} {A : Option Addr} {n c : Nat} {A' : Option Addr} {n' c' : Nat} {ss : List (Int × Int)} {ds : List (Int × Int × Int)} {sz : Nat → Int × Int}

set_option maxHeartbeats 1000000 in
theorem tooFar_any (i k : Nat) (hi : i < n) (hk : k < 10000) (P : Nat) (h : IsSized w w.heap.size g Wd A n c A' n' c' ss ds sz) (hsz : ∀ m, (sz m).1 ≤ 400000 ∧ (sz m).2 ≤ 400000) (hP : P < w.heap.size) (hp : w.cell? ⟨P, 0, none⟩ = some (.int .i64 i)) :
    Calls Try.prog 85 #[.int .i64 k, .pointer (some ⟨g, 0, none⟩), .pointer (some ⟨P, 0, none⟩)] w fun e w' => e = .returned (.bool (tooFar Wd ss sz n i k)) ∧ Below w.heap.size w w' := by
  have hi10 : i < 10 := by have := h.few.1; omega
  obtain ⟨cs, hcs⟩ : ∃ cs, sizedCells Wd A n c A' n' c' sz = cs := ⟨_, rfl⟩
  have zc : cs.size = 23 := by rw [← hcs]; rfl
  have oc : cs.all (·.oneCell') = true := by rw [← hcs]; exact sizedCells_one _ _ _ _ _ _ _ _
  have hrow := h.row
  rw [hcs] at hrow
  have HROW := Lib.hid hrow
  have OC := Lib.hid oc
  have hg := h.hg
  have hst := store_last w w.heap.size rfl Z84 cs zc Z84_size OC.out
  have HR1 : Hid ((w.alloc (.cells cs 84)).heap[g]? = some (.cells cs 84 (0, 0))) := Lib.hid (row_alloc _ _ _ _ hrow)
  have hlo := h.lo i
  have hhi := h.hi i
  have hsi := hsz i
  have hcon := grow_any w.heap.size i hi10 (sz i).1 (sz i).2 ((k : Int) + 1) ((k : Int) + 1) (w.alloc (.cells cs 84)) cs (row_last _ _ _ rfl) (by rw [← hcs]; exact sizedCells_lo _ _ _ _ _ _ _ _ i hi10) (by rw [← hcs]; exact sizedCells_hi _ _ _ _ _ _ _ _ i hi10)
    (by omega) (by omega) (by omega) (by omega)
  rw [← hcs, set_sized Wd A n c A' n' c' sz (plus sz i ((k : Int) + 1)) i hi10 _ _ (by simp [plus]) (fun m hm => by simp [plus, hm]), hcs] at hcon
  have hfree : ∀ W2, Grew (w.alloc (.cells cs 84)) W2 w.heap.size (sizedCells Wd A n c A' n' c' (plus sz i ((k : Int) + 1))) → _ := fun W2 hgr =>
    isFree_any (w := W2) (g := w.heap.size) (sz := plus sz i ((k : Int) + 1)) (i : Int) (by omega) (by omega)
      ⟨by have := hgr.1.size; simp at this; omega, hgr.2, (h.hb.kept (((Below.refl w.heap.size w).alloc (Nat.le_refl _) _).trans hgr.1) (Nat.le_refl _)).wider (by have := hgr.1.size; simp at this; omega), h.ok,
        fun m => by have := h.lo m; have := hsz m; unfold plus; split <;> (try simp only []) <;> omega, fun m => by have := h.hi m; have := hsz m; unfold plus; split <;> (try simp only []) <;> omega⟩
  have hp1 : (w.alloc (.cells cs 84)).cell? ⟨P, 0, none⟩ = some (.int .i64 i) := by rw [World.cell?_alloc_lt _ _ _ hP]; exact hp
  obtain ⟨r, hr⟩ : ∃ r, freeB Wd ss (plus sz i ((k : Int) + 1)) n i = r := ⟨_, rfl⟩
  have ht : tooFar Wd ss sz n i k = !r := by unfold tooFar; rw [hr]
  rw [ht]
  rw [hr] at hfree
  clear hr ht hrow oc hlo hhi hsi h hsz hcs
  go_enter Try.func85, Try.ntmps85
  go_wp2_with (first | refine wpList_load84 (.tmp 1) rfl rfl g rfl cs zc HROW.out ?_ | refine wpList_alloc84 rfl rfl ?_ | fail)
  refine hcon.mono ?_
  rintro e w2 ⟨rfl, hgr⟩
  have hB2 : Below w.heap.size w w2 := ((Below.refl w.heap.size w).alloc (Nat.le_refl _) _).trans hgr.1
  have hp2 : w2.cell? ⟨P, 0, none⟩ = some (.int .i64 i) := (hgr.1.cell (p := ⟨P, 0, none⟩) hP).trans hp1
  have c2 := hfree w2 hgr
  clear hfree hcon hgr hst hp1
  go_wp2_with fail
  refine c2.mono ?_
  rintro e w3 ⟨rfl, hb3⟩
  go_wp2
  go_ret
  exact ⟨rfl, bstep hB2 hB2.size hb3⟩

theorem reachB_mono {a a' c c' d : Int} (ha : 0 ≤ a) (hc : 0 ≤ c) (haa : a ≤ a') (hcc : c ≤ c') (h : reachB a c d = true) : reachB a' c' d = true := by
  unfold reachB at h ⊢
  split at h
  · simp at h
  · rename_i hz
    rw [if_neg (by omega)]
    simp only [Bool.or_eq_true, decide_eq_true_eq] at h ⊢
    by_cases hd : d - a' - c' ≤ 0
    · exact .inl hd
    · right
      rcases h with h | h
      · omega
      · have h1 : (d - a' - c') * (d - a' - c') ≤ (d - a - c) * (d - a - c) := Int.mul_le_mul (by omega) (by omega) (by omega) (by omega)
        have h2 : 4 * a * c ≤ 4 * a' * c' := Int.mul_le_mul (by omega) hcc hc (by omega)
        omega

theorem meetB_mono (Wd : Int) (ss : List (Int × Int)) (sel sel' : Nat → Int) (h0 : ∀ i, 0 ≤ sel i) (hle : ∀ i, sel i ≤ sel' i) (one two : Int) (h : meetB Wd ss sel one two = true) : meetB Wd ss sel' one two = true := by
  unfold meetB at h ⊢
  split at h
  · simp at h
  · rename_i h1
    rw [if_neg h1]
    split at h
    · rename_i h2
      rw [if_pos h2]
      have := hle (max one two).toNat
      rw [decide_eq_true_eq] at h
      exact decide_eq_true (Int.le_trans h this)
    · rename_i h2
      rw [if_neg h2]
      exact reachB_mono (h0 _) (h0 _) (hle _) (hle _) h

theorem kindOf_zero (Wd : Int) (ss : List (Int × Int)) (sz : Nat → Int × Int) (one two : Int) : kindOf Wd ss sz one two = 0 ↔ meetB Wd ss (fun i => (sz i).1) one two = false ∧ meetB Wd ss (fun i => (sz i).2) one two = false := by
  unfold kindOf
  cases meetB Wd ss (fun i => (sz i).1) one two <;> cases meetB Wd ss (fun i => (sz i).2) one two <;> simp

theorem kindOf_mono (Wd : Int) (ss : List (Int × Int)) (sz sz' : Nat → Int × Int) (h0 : ∀ i, 0 ≤ (sz i).1 ∧ 0 ≤ (sz i).2) (hle : ∀ i, (sz i).1 ≤ (sz' i).1 ∧ (sz i).2 ≤ (sz' i).2) (one two : Int) (h : kindOf Wd ss sz' one two = 0) : kindOf Wd ss sz one two = 0 := by
  rw [kindOf_zero] at h ⊢
  constructor
  · cases hq : meetB Wd ss (fun i => (sz i).1) one two with
    | false => rfl
    | true => rw [meetB_mono Wd ss _ (fun i => (sz' i).1) (fun i => (h0 i).1) (fun i => (hle i).1) one two hq] at h; simp at h
  · cases hq : meetB Wd ss (fun i => (sz i).2) one two with
    | false => rfl
    | true => rw [meetB_mono Wd ss _ (fun i => (sz' i).2) (fun i => (h0 i).2) (fun i => (hle i).2) one two hq] at h; simp at h

theorem freeB_mono (Wd : Int) (ss : List (Int × Int)) (sz sz' : Nat → Int × Int) (n : Nat) (h0 : ∀ i, 0 ≤ (sz i).1 ∧ 0 ≤ (sz i).2) (hle : ∀ i, (sz i).1 ≤ (sz' i).1 ∧ (sz i).2 ≤ (sz' i).2) (s : Int) (h : freeB Wd ss sz' n s = true) : freeB Wd ss sz n s = true := by
  unfold freeB at h ⊢
  rw [List.all_eq_true] at h ⊢
  intro k hk
  have := h k hk
  unfold apartB at this ⊢
  rw [Bool.or_eq_true, decide_eq_true_eq, decide_eq_true_eq] at this ⊢
  exact this.imp id (kindOf_mono Wd ss sz sz' h0 hle _ _)

theorem tooFar_mono (Wd : Int) (ss : List (Int × Int)) (sz : Nat → Int × Int) (n i : Nat) (h0 : ∀ i, 0 ≤ (sz i).1 ∧ 0 ≤ (sz i).2) (a b : Nat) (hab : a ≤ b) (h : tooFar Wd ss sz n i a = true) : tooFar Wd ss sz n i b = true := by
  unfold tooFar at h ⊢
  cases hq : freeB Wd ss (plus sz i ((b : Int) + 1)) n i with
  | false => rfl
  | true =>
    rw [freeB_mono Wd ss (plus sz i ((a : Int) + 1)) (plus sz i ((b : Int) + 1)) n (fun m => by have := h0 m; have := h0 i; unfold plus; split <;> (try simp only []) <;> omega) (fun m => by unfold plus; split <;> (try simp only []) <;> omega) i hq] at h
    exact h

theorem enters85 : ∀ args w, (callFunc 85 args).run Try.prog w = .ok (.enter 85 args) w := enters_of Try.func85 (by kernel_rfl) rfl

/-- What Room answers, but for how far: an error, or the number at which one more drop begins to be too much. -/
def RoomIs (Wd : Int) (ss : List (Int × Int)) (ds : List (Int × Int × Int)) (spot : Int) (e : Ending) : Prop :=
  if bathErr Wd ss ds = 0 then
    if (decide (0 ≤ spot) && decide (spot < (ss.length : Int))) = true then
      if freeB Wd ss (sizes ds) ss.length spot = true then ∃ r : Nat, e = .returned (.tuple #[.int .i64 r, .int .i64 0]) ∧ Begins (tooFar Wd ss (sizes ds) ss.length spot.toNat) 10000 r
      else e = .returned (.tuple #[.int .i64 0, .int .i64 10])
    else e = .returned (.tuple #[.int .i64 0, .int .i64 2])
  else e = .returned (.tuple #[.int .i64 0, .int .i64 (bathErr Wd ss ds)])

def RoomPost (Wd : Int) (ss : List (Int × Int)) (ds : List (Int × Int × Int)) (spot : Int) (w : World) (e : Ending) (w' : World) : Prop := RoomIs Wd ss ds spot e ∧ Below w.heap.size w w'

set_option maxHeartbeats 1000000 in
theorem room_any (spot : Int) (hb : IsBath w w.heap.size A n c A' n' c' ss ds) :
    Calls Try.prog 27 #[.agg #[.int .i64 Wd, .slice A n c, .slice A' n' c'], .int .i64 spot] w (RoomPost Wd ss ds spot w) := by
  have hp0 : Below w.heap.size w ((w.alloc (.cells #[.int .i64 Wd, .slice A n c, .slice A' n' c'] 25)).alloc (.cells #[.int .i64 spot] 3)) := ((Below.refl _ w).alloc (Nat.le_refl _) _).alloc (by simp) _
  by_cases he : bathErr Wd ss ds = 0
  · have c1 := opened_ok (Wd := Wd) (c := c) (c' := c') ((hb.kept hp0 (Nat.le_refl _)).wider (by simp; omega)) he
    have hS : ∀ w1, Below w.heap.size w w1 → _ := fun w1 hB => isSized_new hb he hB
    have hk : ∀ w1, Below w.heap.size w w1 → _ := fun w1 hB => isSpot_any spot (hS w1 hB)
    have hbd : ∀ m, (sizes ds m).1 ≤ 400000 ∧ (sizes ds m).2 ≤ 400000 := fun m => by have := sizes_bd' he ds.length m; rw [List.take_length] at this; omega
    have hbd0 : ∀ m, 0 ≤ (sizes ds m).1 ∧ 0 ≤ (sizes ds m).2 := fun m => by have := sizes_bd' he ds.length m; rw [List.take_length] at this; omega
    obtain ⟨cs, hcs⟩ : ∃ cs, sizedCells Wd A n c A' n' c' (sizes ds) = cs := ⟨_, rfl⟩
    have zc : cs.size = 23 := by rw [← hcs]; rfl
    have oc : cs.all (·.oneCell') = true := by rw [← hcs]; exact sizedCells_one _ _ _ _ _ _ _ _
    rw [hcs] at c1 hk hS
    have OC := Lib.hid oc
    clear hcs oc
    cases hq : (decide (0 ≤ spot) && decide (spot < (n : Int))) with
    | false =>
      have ha : ∀ e, e = .returned (.tuple #[.int .i64 0, .int .i64 2]) → RoomIs Wd ss ds spot e := fun e h => by unfold RoomIs; rw [if_pos he, ← hb.nss, hq]; exact h
      rw [hq] at hk
      clear hq hS
      go_enter Try.func27, Try.ntmps27
      go_wp2_with fail
      refine c1.mono ?_
      rintro e w1 ⟨rfl, hb1⟩
      have hB : Below w.heap.size w w1 := bstep hp0 (by simp; omega) hb1
      have hst := store_last w1 w1.heap.size rfl Z84 cs zc Z84_size OC.out
      have c2 := hk w1 hB
      have hz1 : w.heap.size + 2 ≤ w1.heap.size := by have := hb1.size; simpa using this
      have x3 : (w1.alloc (.cells cs 84)).cell? ⟨w.heap.size + 1, 0, none⟩ = some (.int .i64 spot) := by
        rw [World.cell?_alloc_lt _ _ _ (by show w.heap.size + 1 < _; omega)]; exact (hb1.cell (p := ⟨w.heap.size + 1, 0, none⟩) (by simp)).trans (by simp)
      clear hk hb1
      go_wp2_with (first | refine wpList_alloc84 rfl rfl ?_ | (go_at_call 59; refine c2.mono ?_; rintro e w2 ⟨rfl, rfl⟩))
      go_ret2
      exact ⟨ha _ rfl, hB.alloc hB.size _⟩
    | true =>
      have hsp : 0 ≤ spot ∧ spot < n := by simpa using hq
      obtain ⟨i, rfl⟩ := Int.eq_ofNat_of_zero_le hsp.1
      have hi : i < n := by omega
      rw [hq] at hk
      have hfr : ∀ w1, Below w.heap.size w w1 → _ := fun w1 hB => isFree_any (i : Int) (by omega) (by omega) (hS w1 hB)
      cases hf : freeB Wd ss (sizes ds) n (i : Int) with
      | false =>
        have ha : ∀ e, e = .returned (.tuple #[.int .i64 0, .int .i64 10]) → RoomIs Wd ss ds (i : Int) e := fun e h => by unfold RoomIs; rw [if_pos he, ← hb.nss, hq, if_pos rfl, hf]; exact h
        rw [hf] at hfr
        clear hq hS hsp hf
        go_enter Try.func27, Try.ntmps27
        go_wp2_with fail
        refine c1.mono ?_
        rintro e w1 ⟨rfl, hb1⟩
        have hB : Below w.heap.size w w1 := bstep hp0 (by simp; omega) hb1
        have hst := store_last w1 w1.heap.size rfl Z84 cs zc Z84_size OC.out
        have c2 := hk w1 hB
        have c3 := hfr w1 hB
        have hz1 : w.heap.size + 2 ≤ w1.heap.size := by have := hb1.size; simpa using this
        have x3 : (w1.alloc (.cells cs 84)).cell? ⟨w.heap.size + 1, 0, none⟩ = some (.int .i64 i) := by
          rw [World.cell?_alloc_lt _ _ _ (by show w.heap.size + 1 < _; omega)]; exact (hb1.cell (p := ⟨w.heap.size + 1, 0, none⟩) (by simp)).trans (by simp)
        clear hk hb1 hfr
        go_wp2_with (first | refine wpList_alloc84 rfl rfl ?_ | (go_at_call 59; refine c2.mono ?_; rintro e w2 ⟨rfl, rfl⟩) | (go_at_call 84; refine c3.mono ?_; rintro e w2 ⟨rfl, hb2⟩))
        go_ret2
        exact ⟨ha _ rfl, bstep (hB.alloc hB.size _) (hB.alloc hB.size _).size hb2⟩
      | true =>
        have ha : ∀ e, (∃ r : Nat, e = .returned (.tuple #[.int .i64 r, .int .i64 0]) ∧ Begins (tooFar Wd ss (sizes ds) n i) 10000 r) → RoomIs Wd ss ds (i : Int) e := fun e h => by unfold RoomIs; rw [if_pos he, ← hb.nss, hq, if_pos rfl, hf, if_pos rfl]; exact h
        rw [hf] at hfr
        have hsea : ∀ w1 w2, Below w.heap.size w w1 → Below (w1.alloc (.cells cs 84)).heap.size (w1.alloc (.cells cs 84)) w2 → w2.cell? ⟨w.heap.size + 1, 0, none⟩ = some (.int .i64 i) → w.heap.size + 1 < w2.heap.size → _ := fun w1 w2 hB hB2 hp hz =>
          search_any 85 #[.pointer (some ⟨w1.heap.size, 0, none⟩), .pointer (some ⟨w.heap.size + 1, 0, none⟩)] enters85 (tooFar Wd ss (sizes ds) n i) 10000 (by omega) w2 (fun a b hab _ => tooFar_mono Wd ss (sizes ds) n i hbd0 a b hab)
            (fun W k hk hW => tooFar_any i k hi hk (w.heap.size + 1) ((((hS w1 hB).kept hB2 (Nat.le_refl _)).wider hB2.size |>.kept hW (Nat.le_refl _)).wider hW.size) hbd (Nat.lt_of_lt_of_le hz hW.size) ((hW.cell (p := ⟨w.heap.size + 1, 0, none⟩) hz).trans hp))
        clear hq hS hsp hf
        go_enter Try.func27, Try.ntmps27
        go_wp2_with fail
        refine c1.mono ?_
        rintro e w1 ⟨rfl, hb1⟩
        have hB : Below w.heap.size w w1 := bstep hp0 (by simp; omega) hb1
        have hst := store_last w1 w1.heap.size rfl Z84 cs zc Z84_size OC.out
        have c2 := hk w1 hB
        have c3 := hfr w1 hB
        have c4 := fun w2 => hsea w1 w2 hB
        have hz1 : w.heap.size + 2 ≤ w1.heap.size := by have := hb1.size; simpa using this
        have hz2 : w.heap.size + 1 < (w1.alloc (.cells cs 84)).heap.size := by simp; omega
        have x3 : (w1.alloc (.cells cs 84)).cell? ⟨w.heap.size + 1, 0, none⟩ = some (.int .i64 i) := by
          rw [World.cell?_alloc_lt _ _ _ (by show w.heap.size + 1 < _; omega)]; exact (hb1.cell (p := ⟨w.heap.size + 1, 0, none⟩) (by simp)).trans (by simp)
        have HC4 := Lib.hid c4
        have HZ2 := Lib.hid hz2
        have HB := hB.alloc hB.size (.cells cs 84)
        clear hk hb1 hfr hsea c4 hz2
        go_wp2_with (first | refine wpList_alloc84 rfl rfl ?_ | (go_at_call 59; refine c2.mono ?_; rintro e w2 ⟨rfl, rfl⟩) | fail)
        refine c3.mono ?_
        rintro e w2 ⟨rfl, hb2⟩
        have c5 := HC4.out w2 hb2 ((hb2.cell (p := ⟨w.heap.size + 1, 0, none⟩) HZ2.out).trans x3) (Nat.lt_of_lt_of_le HZ2.out hb2.size)
        have hB2 := bstep HB HB.size hb2
        clear HC4 HZ2 hb2 HB
        go_wp2_with fail
        refine c5.mono ?_
        rintro e w3 ⟨r, rfl, hr, hb3⟩
        have HR := Lib.hid hr
        clear hr
        go_wp2
        go_ret2
        exact ⟨ha _ ⟨r, rfl, HR.out⟩, bstep hB2 hB2.size hb3⟩
  · have ha : ∀ e, e = .returned (.tuple #[.int .i64 0, .int .i64 (bathErr Wd ss ds)]) → RoomIs Wd ss ds spot e := fun e h => by unfold RoomIs; rw [if_neg he]; exact h
    have c1 := opened_bad (Wd := Wd) (c := c) (c' := c') ((hb.kept hp0 (Nat.le_refl _)).wider (by simp; omega)) he
    generalize bathErr Wd ss ds = r at he c1 ha
    have hne : (r == 0) = false := by simpa using he
    have hne2 : (r != 0) = true := by simpa using he
    have zz := Z84_size
    go_enter Try.func27, Try.ntmps27
    go_wp2_with fail
    refine c1.mono ?_
    rintro e w1 ⟨rfl, hb1⟩
    have hB : Below w.heap.size w w1 := bstep hp0 (by simp; omega) hb1
    have hst := store_last w1 w1.heap.size rfl Z84 Z84 Z84_size Z84_size Z84_one
    clear hb1
    go_wp2_with (first | refine wpList_alloc84 rfl rfl ?_)
    go_ret2
    exact ⟨ha _ rfl, hB.alloc hB.size _⟩
end
end Go.Proofs.Ytckndnaohggmhaa

/- first over a list of baths with their sizes; First's two closures. -/
namespace Go.Proofs.Ytckndnaohggmhaa
open Go.RowKit Go.Shelf

theorem run_load84_at (w : World) (a : Addr) (cs : Array Value) (hs : cs.size = 23) (h : ∀ j v, cs.toList[j]? = some v → w.cell? (a.add j) = some v) : (loadVar 84 a).run Try.prog w = .ok (.agg cs) w := by
  have h1 := run_loadCells_list (P := Try.prog) w a cs.toList h
  have h2 : cs.toList.length = 23 := by simpa using hs
  rw [h2] at h1
  simp [loadVar, Try.isAgg84, Try.sizeOf84, h1]

theorem wpList_load84_at {ops : Array Oper} {rest : List Oper} {o : Oper} {a : Act} {w : World} {Q : Exit → Act → World → Prop} (x : Operand) (hgd : o.guard = none) (ho : o.op = .load 84 x) (ad : Addr) (hx : a.eval x = .pointer (some ad)) (cs : Array Value) (hs : cs.size = 23)
    (hc : ∀ j v, cs.toList[j]? = some v → w.cell? (ad.add j) = some v) (h : wpList Try.prog ops Q rest (a.put o.dst (.agg cs)) w) : wpList Try.prog ops Q (o :: rest) a w := by
  refine wpList_plain hgd fun K hK => ?_
  unfold Oper.wp execOp
  simp only [ho, hx, Instr.loadAt, Instr.sureAddr, Sem.run_bind, Sem.run_pure, Result.andThen_ok, run_load84_at w ad cs hs hc]
  exact hK _ _ h

section
variable (Wd : Int) (A1 : Option Addr) (n1 c1 : Nat) (A2 : Option Addr) (n2 c2 : Nat)
def encZ (sz : Nat → Int × Int) : List Value := (sizedCells Wd A1 n1 c1 A2 n2 c2 sz).toList
def valZ (sz : Nat → Int × Int) : Value := .agg (sizedCells Wd A1 n1 c1 A2 n2 c2 sz)

set_option maxHeartbeats 1000000 in
theorem firstSized (g : Nat) (lb : Array Value) (eg : ∀ args w, (callFunc g args).run Try.prog w = .ok (.enter g args) w) (p : (Nat → Int × Int) → Bool) (A : Option Addr) (n c : Nat) (xs : List (Nat → Int × Int)) (w : World) (hnn : n = xs.length)
    (hn : n ≤ 9223372036854775807) (hh : Held w w.heap.size 23 (encZ Wd A1 n1 c1 A2 n2 c2) A xs) (hp : PredOn g lb (valZ Wd A1 n1 c1 A2 n2 c2) p xs w) :
    Calls Try.prog 77 #[.slice A n c, .func (.func g) #[] lb] w fun e w' => e = .returned (.int .i64 (xs.findIdx p)) ∧ Below w.heap.size w w' := by
  have HN := Lib.hid hnn; clear hnn
  go_enter Try.func77, Try.ntmps77
  go_wp2
  go_loopw [5, 6, 9] (fun _ _ i wr => ∃ k : Nat, k ≤ n ∧ i = .int .i64 k ∧ Hid (Below w.heap.size w wr) ∧ Hid (∀ j (hj : j < k) (hl : j < xs.length), p xs[j] = false)) (fun _ _ i _ => n - (intOf i).toNat)
  case atStart => exact ⟨0, Nat.zero_le _, rfl, Lib.hid (Below.refl _ _), Lib.hid (fun j hj => absurd hj (Nat.not_lt_zero _))⟩
  case round =>
    obtain ⟨k, hk, rfl, hB, hA⟩ := hrel
    by_cases hlt : k < n
    · have hltz : (k : Int) < (n : Int) := by omega
      have hkl : k < xs.length := by rw [← HN.out]; exact hlt
      obtain ⟨x, hx⟩ : ∃ x, x = xs[k] := ⟨_, rfl⟩
      obtain ⟨cs, hcs⟩ : ∃ cs, sizedCells Wd A1 n1 c1 A2 n2 c2 x = cs := ⟨_, rfl⟩
      have zc : cs.size = 23 := by rw [← hcs]; rfl
      have oc : cs.all (·.oneCell') = true := by rw [← hcs]; exact sizedCells_one _ _ _ _ _ _ _ _
      have hcell : ∃ b off, A = some ⟨b, off, none⟩ ∧ Hid (∀ j v, cs.toList[j]? = some v → wr.cell? (Addr.add ⟨b, off + k * 23, none⟩ j) = some v) := by
        rcases hh with h | ⟨b, off, rfl, hlt', hc⟩
        · simp [h] at hkl
        · refine ⟨b, off, rfl, Lib.hid fun j v hv => ?_⟩
          rw [Addr.add_lit]
          exact (hB.out.cell (p := ⟨b, off + k * 23 + j, none⟩) hlt').trans (hc k x (by rw [hx]; exact List.getElem?_eq_getElem hkl) j v (by unfold encZ; rw [hcs]; exact hv))
      obtain ⟨b, off, rfl, hcell⟩ := hcell
      have hcall := hp (wr.alloc (.cells cs 84)) x (by rw [hx]; exact List.getElem_mem hkl) (hB.out.alloc hB.out.size _)
      unfold valZ at hcall
      rw [hcs] at hcall
      have OC := Lib.hid oc
      have hst := store_last wr wr.heap.size rfl Z84 cs zc Z84_size OC.out
      have hrow := Lib.hid (row_last wr (.cells cs 84) _ rfl)
      have HX := Lib.hid hx; clear hx oc hcs
      clear hp hh
      cases hq : p x with
      | true =>
        rw [hq] at hcall
        have HQ := Lib.hid hq
        clear hq
        go_wp2_with (first | refine wpList_alloc84 rfl rfl ?_ | refine wpList_load84_at (.tmp 12) rfl rfl ⟨b, off + k * 23, none⟩ rfl cs zc hcell.out ?_ | refine wpList_load84 (.tmp 6) rfl rfl wr.heap.size rfl cs zc hrow.out ?_ | (go_at_fn g; refine hcall.mono ?_; rintro e w' ⟨rfl, hb'⟩))
        go_ret
        refine ⟨?_, bstep (hB.out.alloc hB.out.size _) (by have := hB.out.size; simp; omega) hb'⟩
        rw [findIdx_hit p xs k hkl (fun j hj => hA.out j hj (by omega)) (by rw [← HX.out]; exact HQ.out)]
        rfl
      | false =>
        rw [hq] at hcall
        have HQ := Lib.hid hq
        clear hq
        go_wp2_with (first | refine wpList_alloc84 rfl rfl ?_ | refine wpList_load84_at (.tmp 12) rfl rfl ⟨b, off + k * 23, none⟩ rfl cs zc hcell.out ?_ | refine wpList_load84 (.tmp 6) rfl rfl wr.heap.size rfl cs zc hrow.out ?_ | (go_at_fn g; refine hcall.mono ?_; rintro e w' ⟨rfl, hb'⟩))
        go_roundw
        case measure => simp [intOf]; omega
        case rel =>
          refine ⟨k + 1, by omega, by go_num, Lib.hid (bstep (hB.out.alloc hB.out.size _) (by have := hB.out.size; simp; omega) hb'), Lib.hid fun j hj hl => ?_⟩
          by_cases e : j = k
          · subst e
            rw [← HX.out]; exact HQ.out
          · exact hA.out j (by omega) hl
    · have hltz : ¬ (k : Int) < (n : Int) := by omega
      have : k = n := by omega
      subst this
      go_wp2
      go_ret
      refine ⟨?_, hB.out⟩
      rw [findIdx_miss p xs (fun j hj => hA.out j (by rw [HN.out]; exact hj) hj), ← HN.out]
      rfl
end
end Go.Proofs.Ytckndnaohggmhaa
