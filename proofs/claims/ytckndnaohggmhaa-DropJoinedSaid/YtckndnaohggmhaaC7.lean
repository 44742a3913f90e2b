/- Texts of the package drop, joined: On, Beside. -/
import Derived.Test.YtckndnaohggmhaaC6
import Derived.Deep.RegionHeld3
/- firstOn, nextOn. -/
namespace Go.Proofs.Ytckndnaohggmhaa
open Go.RowKit Go.Shelf

theorem bdrewN {B : Nat} {a w : World} (h : Below B a w) (k : Nat) : Below B a (w.drewN k) := h.trans ⟨rfl, rfl, rfl, Nat.le_refl _, fun _ _ => rfl⟩

set_option maxHeartbeats 400000 in
theorem onSpot (s : Int) (B : Nat) (xs : List (Int × Int × Int)) (w : World) (hB : B < w.heap.size) (hc : w.cell? ⟨B, 0, none⟩ = some (.int .i64 s)) :
    PredOn 114 #[.pointer (some ⟨B, 0, none⟩)] (fun x => .agg (encD x).toArray) (fun d => decide (d.1 = s)) xs w := fun W x hx hb => by
  have hc' : W.cell? ⟨B, 0, none⟩ = some (.int .i64 s) := (hb.cell (p := ⟨B, 0, none⟩) hB).trans hc
  have hBW : B < W.heap.size := Nat.lt_of_lt_of_le hB hb.size
  have hne : B ≠ W.heap.size := by omega
  show Calls Try.prog 114 #[.agg #[.int .i64 x.1, .int .i64 x.2.1, .int .i64 x.2.2], .pointer (some ⟨B, 0, none⟩)] W fun e w' => e = .returned (.bool (decide (x.1 = s))) ∧ Below W.heap.size W w'
  go_enter Try.func114, Try.ntmps114
  go_wp2
  go_ret
  exact ⟨ret_bool (by rw [Bool.eq_iff_iff]; simp), (Below.refl _ W).alloc (Nat.le_refl _) _⟩

theorem enters114 : ∀ args w, (callFunc 114 args).run Try.prog w = .ok (.enter 114 args) w := enters_of Try.func114 (by kernel_rfl) rfl
theorem enters113 : ∀ args w, (callFunc 113 args).run Try.prog w = .ok (.enter 113 args) w := enters_of Try.func113 (by kernel_rfl) rfl

section
variable {w : World} {B g : Nat} {Wd : Int} {A : Option Addr} {n c : Nat} {A' : Option Addr} {n' c' : Nat} {ss : List (Int × Int)} {ds : List (Int × Int × Int)} {sz : Nat → Int × Int}

set_option maxHeartbeats 400000 in
theorem firstOn_any (s : Int) (h : IsSized w w.heap.size g Wd A n c A' n' c' ss ds sz) :
    Calls Try.prog 73 #[.pointer (some ⟨g, 0, none⟩), .int .i64 s] w fun e w' => e = .returned (.int .i64 (ds.findIdx fun d => decide (d.1 = s))) ∧ Below w.heap.size w w' := by
  have hb0 : Below w.heap.size w (w.alloc (.cells #[.int .i64 s] 3)) := (Below.refl _ w).alloc (Nat.le_refl _) _
  have hcon := firstDrop 114 #[.pointer (some ⟨w.heap.size, 0, none⟩)] enters114 (fun d => decide (d.1 = s)) A' n' c' ds (w.alloc (.cells #[.int .i64 s] 3)) h.hb.nds h.hb.nle'
    ((h.hb.hds.kept hb0 (Nat.le_refl _)).wider (by simp)) (onSpot s w.heap.size ds _ (by simp) (by simp))
  have h2 := h.h2
  have hg := h.hg
  have hne : g ≠ w.heap.size := by omega
  clear h
  generalize (ds.findIdx fun d => decide (d.1 = s)) = r at hcon ⊢
  go_enter Try.func73, Try.ntmps73
  go_wp2_with (go_at_call 112; refine hcon.mono ?_; rintro e w' ⟨rfl, hb'⟩)
  go_ret
  exact ⟨rfl, bstep hb0 (by simp) hb'⟩

theorem IsSized.dropAt (h : IsSized w B g Wd A n c A' n' c' ss ds sz) {i : Nat} (hi : i < n') : ∃ b off, A' = some ⟨b, off, none⟩ ∧ b < B ∧ w.cell? ⟨b, off + i * 3, none⟩ = some (.int .i64 (ds.getD i (0, 0, 0)).1) ∧ w.cell? ⟨b, off + i * 3 + 1, none⟩ = some (.int .i64 (ds.getD i (0, 0, 0)).2.1) ∧ w.cell? ⟨b, off + i * 3 + 2, none⟩ = some (.int .i64 (ds.getD i (0, 0, 0)).2.2) := by
  have hl : i < ds.length := by rw [← h.hb.nds]; exact hi
  rcases h.hb.hds with e | ⟨b, off, rfl, hlt, hc⟩
  · simp [e] at hl
  · have hx : ds[i]? = some (ds.getD i (0, 0, 0)) := by simp [List.getD, List.getElem?_eq_getElem hl]
    exact ⟨b, off, rfl, hlt, hc i _ hx 0 _ rfl, hc i _ hx 1 _ rfl, hc i _ hx 2 _ rfl⟩

set_option maxHeartbeats 400000 in
theorem sameOn (j : Nat) (hj : j < n') (P D : Nat) (xs : List (Int × Int × Int)) (h : IsSized w w.heap.size g Wd A n c A' n' c' ss ds sz) (hP : P < w.heap.size) (hD : D < w.heap.size) (hp : w.cell? ⟨P, 0, none⟩ = some (.pointer (some ⟨g, 0, none⟩))) (hd : w.cell? ⟨D, 0, none⟩ = some (.int .i64 j)) :
    PredOn 113 #[.pointer (some ⟨P, 0, none⟩), .pointer (some ⟨D, 0, none⟩)] (fun x => .agg (encD x).toArray) (fun d => decide (d.1 = (ds.getD j (0, 0, 0)).1)) xs w := fun W x hx hb => by
  have h' := (h.kept hb (Nat.le_refl _)).wider hb.size
  have hp' : W.cell? ⟨P, 0, none⟩ = some (.pointer (some ⟨g, 0, none⟩)) := (hb.cell (p := ⟨P, 0, none⟩) hP).trans hp
  have hd' : W.cell? ⟨D, 0, none⟩ = some (.int .i64 j) := (hb.cell (p := ⟨D, 0, none⟩) hD).trans hd
  obtain ⟨b, off, rfl, hlt, c1, c2, c3⟩ := h'.dropAt hj
  have h2 := h'.h2
  have hg := h'.hg
  have hPW : P < W.heap.size := Nat.lt_of_lt_of_le hP hb.size
  have hDW : D < W.heap.size := Nat.lt_of_lt_of_le hD hb.size
  have hn1 : P ≠ W.heap.size := by omega
  have hn2 : D ≠ W.heap.size := by omega
  have hn3 : g ≠ W.heap.size := by omega
  have hn4 : b ≠ W.heap.size := by omega
  have hjz : (j : Int) < n' := by omega
  show Calls Try.prog 113 #[.agg #[.int .i64 x.1, .int .i64 x.2.1, .int .i64 x.2.2], .pointer (some ⟨P, 0, none⟩), .pointer (some ⟨D, 0, none⟩)] W fun e w' => e = .returned (.bool (decide (x.1 = (ds.getD j (0, 0, 0)).1))) ∧ Below W.heap.size W w'
  generalize ds.getD j (0, 0, 0) = y at c1 c2 c3 ⊢
  clear h h' hp hd hb hx
  go_enter Try.func113, Try.ntmps113
  go_wp2
  go_quiet (fail)
  go_wp2
  go_ret
  exact ⟨ret_bool (by rw [Bool.eq_iff_iff]; simp), bdrewN ((Below.refl _ W).alloc (Nat.le_refl _) _) _⟩

theorem held_drop {α : Type} {w : World} {B k : Nat} {enc : α → List Value} {b off : Nat} {xs : List α} (h : Held w B k enc (some ⟨b, off, none⟩) xs) (j : Nat) (hj : j < xs.length) : Held w B k enc (some ⟨b, off + j * k, none⟩) (xs.drop j) := by
  rcases h with e | ⟨b', off', he, hlt, hc⟩
  · simp [e] at hj
  · obtain ⟨rfl, rfl⟩ : b = b' ∧ off = off' := by simpa using he
    refine .inr ⟨b, off + j * k, rfl, hlt, fun i x hx m v hv => ?_⟩
    rw [show off + j * k + i * k + m = off + (j + i) * k + m from by rw [Nat.add_mul]; omega]
    exact hc (j + i) x (by rw [← hx, List.getElem?_drop]) m v hv

set_option maxHeartbeats 1000000 in
theorem nextOn_any (j : Nat) (hj : j < n') (h : IsSized w w.heap.size g Wd A n c A' n' c' ss ds sz) :
    Calls Try.prog 72 #[.pointer (some ⟨g, 0, none⟩), .int .i64 j] w fun e w' => e = .returned (.int .i64 ((j : Int) + 1 + ((ds.drop (j + 1)).findIdx fun d => decide (d.1 = (ds.getD j (0, 0, 0)).1)))) ∧ Below w.heap.size w w' := by
  have hb0 : Below w.heap.size w ((w.alloc (.cells #[.pointer (some ⟨g, 0, none⟩)] 126)).alloc (.cells #[.int .i64 j] 3)) := ((Below.refl _ w).alloc (Nat.le_refl _) _).alloc (by simp) _
  have hfew := h.few
  have hcap := h.hb.cap'
  have hjz : (j : Int) < n' := by omega
  obtain ⟨b, off, rfl, hlt, _, _, _⟩ := h.dropAt hj
  have hj2 : j + 1 ≤ c' := by omega
  have h2 := h.h2
  have hg := h.hg
  have hne : g ≠ w.heap.size := by omega
  have hne2 : g ≠ w.heap.size + 1 := by omega
  have hlen : n' - (j + 1) = (ds.drop (j + 1)).length := by rw [List.length_drop, ← h.hb.nds]
  obtain ⟨r, hr⟩ : ∃ r, ((ds.drop (j + 1)).findIdx fun d => decide (d.1 = (ds.getD j (0, 0, 0)).1)) = r := ⟨_, rfl⟩
  have hrb : r ≤ 40 := by
    rw [← hr]
    have : ((ds.drop (j + 1)).findIdx fun d => decide (d.1 = (ds.getD j (0, 0, 0)).1)) ≤ (ds.drop (j + 1)).length := List.findIdx_le_length
    omega
  have hcon : ∀ (W : World) A'' c'', Held w w.heap.size 3 encD A'' (ds.drop (j + 1)) → Below w.heap.size w W → W.cell? ⟨w.heap.size, 0, none⟩ = some (.pointer (some ⟨g, 0, none⟩)) → W.cell? ⟨w.heap.size + 1, 0, none⟩ = some (.int .i64 j) → w.heap.size + 1 < W.heap.size → _ :=
    fun W A'' c'' hA hW hp hd hz => firstDrop 113 #[.pointer (some ⟨w.heap.size, 0, none⟩), .pointer (some ⟨w.heap.size + 1, 0, none⟩)] enters113 (fun d => decide (d.1 = (ds.getD j (0, 0, 0)).1)) A'' (n' - (j + 1)) c'' (ds.drop (j + 1)) W hlen (by omega)
    ((hA.kept hW (Nat.le_refl _)).wider hW.size) (sameOn j hj w.heap.size (w.heap.size + 1) _ ((h.kept hW (Nat.le_refl _)).wider hW.size) (by omega) hz hp hd)
  rw [hr] at hcon ⊢
  have hds := h.hb.hds
  clear hr h
  have key : ∀ (W : World) A'' c'', Held w w.heap.size 3 encD A'' (ds.drop (j + 1)) → Below w.heap.size w W → W.cell? ⟨w.heap.size, 0, none⟩ = some (.pointer (some ⟨g, 0, none⟩)) → W.cell? ⟨w.heap.size + 1, 0, none⟩ = some (.int .i64 j) → w.heap.size + 1 < W.heap.size →
    Calls Try.prog 112 #[.slice A'' (n' - (j + 1)) c'', .func (.func 113) #[] #[.pointer (some ⟨w.heap.size, 0, none⟩), .pointer (some ⟨w.heap.size + 1, 0, none⟩)]] W fun e w' => e = .returned (.int .i64 r) ∧ (Below W.heap.size W w' ∧ w'.cell? ⟨w.heap.size + 1, 0, none⟩ = some (.int .i64 j)) :=
    fun W A'' c'' hA hW hp hd hz => (hcon W A'' c'' hA hW hp hd hz).mono fun e w' ⟨he, hb'⟩ => ⟨he, hb', (hb'.cell (p := ⟨w.heap.size + 1, 0, none⟩) hz).trans hd⟩
  clear hcon
  by_cases hlast : c' = j + 1
  · have hA : Held w w.heap.size 3 encD (some ⟨b, off, none⟩) (ds.drop (j + 1)) := .inl (List.eq_nil_of_length_eq_zero (by omega))
    have e0 : n' - (j + 1) = 0 := by omega
    rw [e0] at key
    clear hds hlen e0
    subst hlast
    go_enter Try.func72, Try.ntmps72
    go_wp2
    go_quiet (fail)
    go_wp2
    obtain ⟨W2, hW2⟩ : ∃ W2, (((w.alloc (.cells #[.pointer (some ⟨g, 0, none⟩)] 126)).alloc (.cells #[.int .i64 j] 3)).drewN nq) = W2 := ⟨_, rfl⟩
    have hc3 : W2.cell? ⟨w.heap.size + 1, 0, none⟩ = some (.int .i64 j) := by rw [← hW2]; simp
    have hc4 := key W2.drew _ 0 hA (by rw [← hW2]; exact (bdrewN hb0 nq).drew) (by rw [← hW2]; simp) hc3 (by rw [← hW2]; simp)
    have hB2 : Below w.heap.size w W2 := by rw [← hW2]; exact bdrewN hb0 nq
    rw [hW2]
    clear key hW2 hA
    go_region_held3 (fun w' => w'.cell? ⟨w.heap.size + 1, 0, none⟩ = some (.int .i64 j)) (first | exact hc3 | assumption)
      (first | (go_at_call 112; refine hc4.mono ?_; rintro e w3 ⟨rfl, hb3, hc5⟩))
    go_wp2
    go_ret
    exact ⟨ret_num (by rw [IntWalk.i64_in ((j : Int) + 1) (by omega), IntWalk.i64_in _ (by omega)]), bstep hB2.drew hB2.size hb3⟩
  · have hA : Held w w.heap.size 3 encD (some ⟨b, off + (j + 1) * 3, none⟩) (ds.drop (j + 1)) := by
      by_cases hl : j + 1 < ds.length
      · exact held_drop hds (j + 1) hl
      · exact .inl (List.drop_eq_nil_of_le (by omega))
    clear hds hlen
    go_enter Try.func72, Try.ntmps72
    go_wp2
    go_quiet (fail)
    go_wp2
    obtain ⟨W2, hW2⟩ : ∃ W2, (((w.alloc (.cells #[.pointer (some ⟨g, 0, none⟩)] 126)).alloc (.cells #[.int .i64 j] 3)).drewN nq) = W2 := ⟨_, rfl⟩
    have hc3 : W2.cell? ⟨w.heap.size + 1, 0, none⟩ = some (.int .i64 j) := by rw [← hW2]; simp
    have hc4 := key W2.drew _ (c' - (j + 1)) hA (by rw [← hW2]; exact (bdrewN hb0 nq).drew) (by rw [← hW2]; simp) hc3 (by rw [← hW2]; simp)
    have hB2 : Below w.heap.size w W2 := by rw [← hW2]; exact bdrewN hb0 nq
    rw [hW2]
    clear key hW2 hA
    go_region_held3 (fun w' => w'.cell? ⟨w.heap.size + 1, 0, none⟩ = some (.int .i64 j)) (first | exact hc3 | assumption)
      (first | (go_at_call 112; refine hc4.mono ?_; rintro e w3 ⟨rfl, hb3, hc5⟩))
    go_wp2
    go_ret
    exact ⟨ret_num (by rw [IntWalk.i64_in ((j : Int) + 1) (by omega), IntWalk.i64_in _ (by omega)]), bstep hB2.drew hB2.size hb3⟩

end
end Go.Proofs.Ytckndnaohggmhaa

/- Beside. -/
namespace Go.Proofs.Ytckndnaohggmhaa
open Go.RowKit Go.Shelf

/-- The kind of two drops, the first one's index less than the second one's. -/
def besideKind (Wd : Int) (ss : List (Int × Int)) (ds : List (Int × Int × Int)) (a b : Nat) : Int :=
  if (ds.getD a (0, 0, 0)).1 = (ds.getD b (0, 0, 0)).1 then
    if (a : Int) + 1 + ((ds.drop (a + 1)).findIdx fun d => decide (d.1 = (ds.getD a (0, 0, 0)).1)) = b then 2 else 0
  else if ((ds.findIdx fun d => decide (d.1 = (ds.getD a (0, 0, 0)).1) : Nat) : Int) = a ∧ ((ds.findIdx fun d => decide (d.1 = (ds.getD b (0, 0, 0)).1) : Nat) : Int) = b then
    kindOf Wd ss (sizes ds) (ds.getD a (0, 0, 0)).1 (ds.getD b (0, 0, 0)).1
  else 0

/-- What Beside answers. -/
def besideAns (Wd : Int) (ss : List (Int × Int)) (ds : List (Int × Int × Int)) (one two : Int) : Int × Int :=
  if bathErr Wd ss ds = 0 then
    if min one two = max one two ∨ min one two < 0 ∨ (ds.length : Int) ≤ max one two then (0, 2) else (besideKind Wd ss ds (min one two).toNat (max one two).toNat, 0)
  else (0, bathErr Wd ss ds)

section
variable {w : World} {Wd : Int} {A : Option Addr} {n c : Nat} {A' : Option Addr} {n' c' : Nat} {ss : List (Int × Int)} {ds : List (Int × Int × Int)}

set_option maxHeartbeats 1000000 in
theorem beside_bad (one two : Int) (hb : IsBath w w.heap.size A n c A' n' c' ss ds) (he : bathErr Wd ss ds ≠ 0) :
    Calls Try.prog 23 #[.agg #[.int .i64 Wd, .slice A n c, .slice A' n' c'], .int .i64 one, .int .i64 two] w fun e w' => e = .returned (.tuple #[.int .i64 0, .int .i64 (bathErr Wd ss ds)]) ∧ Below w.heap.size w w' := by
  have hp0 : Below w.heap.size w (w.alloc (.cells #[.int .i64 Wd, .slice A n c, .slice A' n' c'] 25)) := (Below.refl _ w).alloc (Nat.le_refl _) _
  have c1 := opened_bad (Wd := Wd) (c := c) (c' := c') ((hb.kept hp0 (Nat.le_refl _)).wider (by simp)) he
  generalize bathErr Wd ss ds = r at he c1 ⊢
  have hne : (r == 0) = false := by simpa using he
  have hne2 : (r != 0) = true := by simpa using he
  have zz := Z84_size
  go_enter Try.func23, Try.ntmps23
  go_wp2_with fail
  refine c1.mono ?_
  rintro e w1 ⟨rfl, hb1⟩
  have hB : Below w.heap.size w w1 := bstep hp0 (by simp) hb1
  have hst := store_last w1 w1.heap.size rfl Z84 Z84 Z84_size Z84_size Z84_one
  clear hb1
  go_wp2_with (first | refine wpList_alloc84 rfl rfl ?_)
  go_ret2
  exact ⟨rfl, hB.alloc hB.size _⟩

set_option maxHeartbeats 1000000 in
theorem beside_same (a : Int) (hb : IsBath w w.heap.size A n c A' n' c' ss ds) (he : bathErr Wd ss ds = 0) :
    Calls Try.prog 23 #[.agg #[.int .i64 Wd, .slice A n c, .slice A' n' c'], .int .i64 a, .int .i64 a] w fun e w' => e = .returned (.tuple #[.int .i64 0, .int .i64 2]) ∧ Below w.heap.size w w' := by
  have hp0 : Below w.heap.size w (w.alloc (.cells #[.int .i64 Wd, .slice A n c, .slice A' n' c'] 25)) := (Below.refl _ w).alloc (Nat.le_refl _) _
  have c1 := opened_ok (Wd := Wd) (c := c) (c' := c') ((hb.kept hp0 (Nat.le_refl _)).wider (by simp)) he
  have hS : ∀ w1, Below w.heap.size w w1 → _ := fun w1 hB => isSized_new hb he hB
  obtain ⟨cs, hcs⟩ : ∃ cs, sizedCells Wd A n c A' n' c' (sizes ds) = cs := ⟨_, rfl⟩
  have zc : cs.size = 23 := by rw [← hcs]; rfl
  have oc : cs.all (·.oneCell') = true := by rw [← hcs]; exact sizedCells_one _ _ _ _ _ _ _ _
  rw [hcs] at c1 hS
  have OC := Lib.hid oc
  clear hcs oc
  clear hS
  go_enter Try.func23, Try.ntmps23
  go_wp2_with fail
  refine c1.mono ?_
  rintro e w1 ⟨rfl, hb1⟩
  have hB : Below w.heap.size w w1 := bstep hp0 (by simp) hb1
  have hst := store_last w1 w1.heap.size rfl Z84 cs zc Z84_size OC.out
  have x2 : w1.cell? ⟨w.heap.size, 2, none⟩ = some (.slice A' n' c') := (hb1.cell (p := ⟨w.heap.size, 2, none⟩) (by simp)).trans (by simp)
  have hz : w.heap.size < w1.heap.size := by have := hb1.size; simp at this; omega
  have x3 : (w1.alloc (.cells cs 84)).cell? ⟨w.heap.size, 2, none⟩ = some (.slice A' n' c') := by rw [World.cell?_alloc_lt _ _ _ hz]; exact x2
  clear hb1
  go_wp2_with (first | refine wpList_alloc84 rfl rfl ?_)
  go_ret2
  exact ⟨rfl, hB.alloc hB.size _⟩

set_option maxHeartbeats 1000000 in
theorem beside_lt_neg (a b : Int) (hab : a < b) (ha : a < 0) (hb : IsBath w w.heap.size A n c A' n' c' ss ds) (he : bathErr Wd ss ds = 0) :
    Calls Try.prog 23 #[.agg #[.int .i64 Wd, .slice A n c, .slice A' n' c'], .int .i64 a, .int .i64 b] w fun e w' => e = .returned (.tuple #[.int .i64 0, .int .i64 2]) ∧ Below w.heap.size w w' := by
  have hp0 : Below w.heap.size w (w.alloc (.cells #[.int .i64 Wd, .slice A n c, .slice A' n' c'] 25)) := (Below.refl _ w).alloc (Nat.le_refl _) _
  have c1 := opened_ok (Wd := Wd) (c := c) (c' := c') ((hb.kept hp0 (Nat.le_refl _)).wider (by simp)) he
  have hS : ∀ w1, Below w.heap.size w w1 → _ := fun w1 hB => isSized_new hb he hB
  obtain ⟨cs, hcs⟩ : ∃ cs, sizedCells Wd A n c A' n' c' (sizes ds) = cs := ⟨_, rfl⟩
  have zc : cs.size = 23 := by rw [← hcs]; rfl
  have oc : cs.all (·.oneCell') = true := by rw [← hcs]; exact sizedCells_one _ _ _ _ _ _ _ _
  rw [hcs] at c1 hS
  have OC := Lib.hid oc
  clear hcs oc
  have e1 : (a == b) = false := by simp; omega
  have e2 : (b == a) = false := by simp; omega
  clear hS
  go_enter Try.func23, Try.ntmps23
  go_wp2_with fail
  refine c1.mono ?_
  rintro e w1 ⟨rfl, hb1⟩
  have hB : Below w.heap.size w w1 := bstep hp0 (by simp) hb1
  have hst := store_last w1 w1.heap.size rfl Z84 cs zc Z84_size OC.out
  have x2 : w1.cell? ⟨w.heap.size, 2, none⟩ = some (.slice A' n' c') := (hb1.cell (p := ⟨w.heap.size, 2, none⟩) (by simp)).trans (by simp)
  have hz : w.heap.size < w1.heap.size := by have := hb1.size; simp at this; omega
  have x3 : (w1.alloc (.cells cs 84)).cell? ⟨w.heap.size, 2, none⟩ = some (.slice A' n' c') := by rw [World.cell?_alloc_lt _ _ _ hz]; exact x2
  clear hb1
  go_wp2_with (first | refine wpList_alloc84 rfl rfl ?_)
  go_ret2
  exact ⟨rfl, hB.alloc hB.size _⟩

set_option maxHeartbeats 1000000 in
theorem beside_lt_past (a b : Int) (hab : a < b) (ha : 0 ≤ a) (hbn : (n' : Int) ≤ b) (hb : IsBath w w.heap.size A n c A' n' c' ss ds) (he : bathErr Wd ss ds = 0) :
    Calls Try.prog 23 #[.agg #[.int .i64 Wd, .slice A n c, .slice A' n' c'], .int .i64 a, .int .i64 b] w fun e w' => e = .returned (.tuple #[.int .i64 0, .int .i64 2]) ∧ Below w.heap.size w w' := by
  have hp0 : Below w.heap.size w (w.alloc (.cells #[.int .i64 Wd, .slice A n c, .slice A' n' c'] 25)) := (Below.refl _ w).alloc (Nat.le_refl _) _
  have c1 := opened_ok (Wd := Wd) (c := c) (c' := c') ((hb.kept hp0 (Nat.le_refl _)).wider (by simp)) he
  have hS : ∀ w1, Below w.heap.size w w1 → _ := fun w1 hB => isSized_new hb he hB
  obtain ⟨cs, hcs⟩ : ∃ cs, sizedCells Wd A n c A' n' c' (sizes ds) = cs := ⟨_, rfl⟩
  have zc : cs.size = 23 := by rw [← hcs]; rfl
  have oc : cs.all (·.oneCell') = true := by rw [← hcs]; exact sizedCells_one _ _ _ _ _ _ _ _
  rw [hcs] at c1 hS
  have OC := Lib.hid oc
  clear hcs oc
  have e1 : (a == b) = false := by simp; omega
  have e2 : (b == a) = false := by simp; omega
  clear hS
  go_enter Try.func23, Try.ntmps23
  go_wp2_with fail
  refine c1.mono ?_
  rintro e w1 ⟨rfl, hb1⟩
  have hB : Below w.heap.size w w1 := bstep hp0 (by simp) hb1
  have hst := store_last w1 w1.heap.size rfl Z84 cs zc Z84_size OC.out
  have x2 : w1.cell? ⟨w.heap.size, 2, none⟩ = some (.slice A' n' c') := (hb1.cell (p := ⟨w.heap.size, 2, none⟩) (by simp)).trans (by simp)
  have hz : w.heap.size < w1.heap.size := by have := hb1.size; simp at this; omega
  have x3 : (w1.alloc (.cells cs 84)).cell? ⟨w.heap.size, 2, none⟩ = some (.slice A' n' c') := by rw [World.cell?_alloc_lt _ _ _ hz]; exact x2
  clear hb1
  go_wp2_with (first | refine wpList_alloc84 rfl rfl ?_)
  go_ret2
  exact ⟨rfl, hB.alloc hB.size _⟩

set_option maxHeartbeats 1000000 in
theorem beside_lt_ok (a b : Nat) (hab : a < b) (hbn : b < n') (hb : IsBath w w.heap.size A n c A' n' c' ss ds) (he : bathErr Wd ss ds = 0) :
    Calls Try.prog 23 #[.agg #[.int .i64 Wd, .slice A n c, .slice A' n' c'], .int .i64 (a : Int), .int .i64 (b : Int)] w fun e w' => e = .returned (.tuple #[.int .i64 (besideKind Wd ss ds a b), .int .i64 0]) ∧ Below w.heap.size w w' := by
  have hp0 : Below w.heap.size w (w.alloc (.cells #[.int .i64 Wd, .slice A n c, .slice A' n' c'] 25)) := (Below.refl _ w).alloc (Nat.le_refl _) _
  have c1 := opened_ok (Wd := Wd) (c := c) (c' := c') ((hb.kept hp0 (Nat.le_refl _)).wider (by simp)) he
  have hS : ∀ w1, Below w.heap.size w w1 → _ := fun w1 hB => isSized_new hb he hB
  obtain ⟨cs, hcs⟩ : ∃ cs, sizedCells Wd A n c A' n' c' (sizes ds) = cs := ⟨_, rfl⟩
  have zc : cs.size = 23 := by rw [← hcs]; rfl
  have oc : cs.all (·.oneCell') = true := by rw [← hcs]; exact sizedCells_one _ _ _ _ _ _ _ _
  rw [hcs] at c1 hS
  have OC := Lib.hid oc
  clear hcs oc
  have haz : (a : Int) < b := by omega
  have hbz : (b : Int) < n' := by omega
  have hle := hb.nle'
  have hfew := bath_ok he
  have hla : a < ds.length := by rw [← hb.nds]; omega
  have hlb : b < ds.length := by rw [← hb.nds]; omega
  have da := drop_ok he (i := a) (s := ds.getD a (0, 0, 0)) (by simp [List.getD, List.getElem?_eq_getElem hla])
  have db := drop_ok he (i := b) (s := ds.getD b (0, 0, 0)) (by simp [List.getD, List.getElem?_eq_getElem hlb])
  rw [← hb.nss] at da db
  obtain ⟨r, hr⟩ : ∃ r, besideKind Wd ss ds a b = r := ⟨_, rfl⟩
  rw [hr]
  unfold besideKind at hr
  obtain ⟨ai, hai⟩ : ∃ ai : Int, (a : Int) = ai := ⟨_, rfl⟩
  obtain ⟨bi, hbi⟩ : ∃ bi : Int, (b : Int) = bi := ⟨_, rfl⟩
  rw [hai, hbi]
  have e1 : (ai == bi) = false := by simp; omega
  have e2 : (bi == ai) = false := by simp; omega
  have o1 : ai < bi := by omega
  have o2 : bi < n' := by omega
  have o3 : 0 ≤ ai := by omega
  have o4 : 0 ≤ ai ∧ bi < n' := ⟨o3, o2⟩
  have hmin : min ai bi = ai := by omega
  have hmax : max ai bi = bi := by omega
  have HA := Lib.hid hai
  have HBI := Lib.hid hbi
  clear hai hbi
  go_enter Try.func23, Try.ntmps23
  go_wp2_with fail
  refine c1.mono ?_
  rintro e w1 ⟨rfl, hb1⟩
  have hB : Below w.heap.size w w1 := bstep hp0 (by simp) hb1
  have hst := store_last w1 w1.heap.size rfl Z84 cs zc Z84_size OC.out
  have x2 : w1.cell? ⟨w.heap.size, 2, none⟩ = some (.slice A' n' c') := (hb1.cell (p := ⟨w.heap.size, 2, none⟩) (by simp)).trans (by simp)
  have hz : w.heap.size < w1.heap.size := by have := hb1.size; simp at this; omega
  have x3 : (w1.alloc (.cells cs 84)).cell? ⟨w.heap.size, 2, none⟩ = some (.slice A' n' c') := by rw [World.cell?_alloc_lt _ _ _ hz]; exact x2
  have hs0 := hS w1 hB
  obtain ⟨bb, off, rfl, _, ca, _, _⟩ := hs0.dropAt (i := a) (by omega)
  obtain ⟨bb', off', hA, _, cb, _, _⟩ := hs0.dropAt (i := b) hbn
  obtain ⟨rfl, rfl⟩ : bb' = bb ∧ off' = off := by simp at hA; exact ⟨hA.1.symm, hA.2.symm⟩
  have hB0 := hB.alloc hB.size (.cells cs 84)
  have hz0 : (w1.alloc (.cells cs 84)).heap.size = w1.heap.size + 1 := by simp
  have hS2 : ∀ W, Below (w1.alloc (.cells cs 84)).heap.size (w1.alloc (.cells cs 84)) W → IsSized W W.heap.size w1.heap.size Wd A n c (some ⟨bb', off', none⟩) n' c' ss ds (sizes ds) := fun W hW => (hs0.kept hW (Nat.le_refl _)).wider hW.size
  have hNx : ∀ W, Below (w1.alloc (.cells cs 84)).heap.size (w1.alloc (.cells cs 84)) W → _ := fun W hW => nextOn_any a (by omega) (hS2 W hW)
  have hF1 : ∀ W, Below (w1.alloc (.cells cs 84)).heap.size (w1.alloc (.cells cs 84)) W → _ := fun W hW => firstOn_any (ds.getD a (0, 0, 0)).1 (hS2 W hW)
  have hF2 : ∀ W, Below (w1.alloc (.cells cs 84)).heap.size (w1.alloc (.cells cs 84)) W → _ := fun W hW => firstOn_any (ds.getD b (0, 0, 0)).1 (hS2 W hW)
  have hKi : (ds.getD a (0, 0, 0)).1 ≠ (ds.getD b (0, 0, 0)).1 → ∀ W, Below (w1.alloc (.cells cs 84)).heap.size (w1.alloc (.cells cs 84)) W → _ := fun hne W hW => kind_any (ds.getD a (0, 0, 0)).1 (ds.getD b (0, 0, 0)).1 (by omega) (by omega) (by omega) (by omega) hne (hS2 W hW)
  have hfl : (ds.findIdx fun d => decide (d.1 = (ds.getD a (0, 0, 0)).1)) ≤ n' := by rw [hb.nds]; exact List.findIdx_le_length
  clear hS hs0 hA hb1 hS2 x2
  go_wp2_with (first | refine wpList_alloc84 rfl rfl ?_)
  have hai := HA.out
  have hbi := HBI.out
  clear HA HBI
  subst hai hbi
  clear e1 e2 o1 o2 o3 o4 hmin hmax
  generalize ((ds.drop (a + 1)).findIdx fun d => decide (d.1 = (ds.getD a (0, 0, 0)).1)) = i1 at hNx hr
  generalize (ds.findIdx fun d => decide (d.1 = (ds.getD a (0, 0, 0)).1)) = i2 at hF1 hr hfl
  generalize (ds.findIdx fun d => decide (d.1 = (ds.getD b (0, 0, 0)).1)) = i3 at hF2 hr
  generalize kindOf Wd ss (sizes ds) (ds.getD a (0, 0, 0)).1 (ds.getD b (0, 0, 0)).1 = kk at hKi hr
  generalize (ds.getD a (0, 0, 0)) = x at hNx hF1 hF2 hKi hr ca da
  generalize (ds.getD b (0, 0, 0)) = y at hNx hF1 hF2 hKi hr cb db
  obtain ⟨x, x', x''⟩ := x
  obtain ⟨y, y', y''⟩ := y
  simp only at hNx hF1 hF2 hKi hr ca cb da db
  by_cases hxy : x = y
  · subst hxy
    rw [if_pos rfl] at hr
    have HR := Lib.hid hr
    have HN := Lib.hid hNx
    clear hr hNx hF1 hF2 hKi
    go_quiet (fail)
    have c2 := HN.out _ (bdrewN (Below.refl _ _) nq)
    clear HN
    by_cases hq : (a : Int) + 1 + i1 = b
    · have hq2 : ((a : Int) + 1 + i1 == b) = true := by simpa using hq
      go_wp2_with (go_at_call 72; refine c2.mono ?_; rintro e w2 ⟨rfl, hb2⟩)
      go_ret2
      exact ⟨by rw [← HR.out, if_pos hq]; rfl, bstep (bdrewN hB0 nq) (bdrewN hB0 nq).size hb2⟩
    · have hq2 : ((a : Int) + 1 + i1 == b) = false := by simpa using hq
      go_wp2_with (go_at_call 72; refine c2.mono ?_; rintro e w2 ⟨rfl, hb2⟩)
      go_ret2
      exact ⟨by rw [← HR.out, if_neg hq]; rfl, bstep (bdrewN hB0 nq) (bdrewN hB0 nq).size hb2⟩
  · rw [if_neg hxy] at hr
    have hne1 : (x == y) = false := by simpa using hxy
    have hne2 : (x != y) = true := by simpa using hxy
    have HR := Lib.hid hr
    have HF2 := Lib.hid hF2
    have hKi := hKi hxy
    have HK := Lib.hid hKi
    have HF1 := Lib.hid hF1
    clear hr hNx hF1 hF2 hKi
    go_quiet (fail)
    have hBq := bdrewN hB0 nq
    have hq0 := bdrewN (Below.refl (w1.alloc (.cells cs 84)).heap.size (w1.alloc (.cells cs 84))) nq
    have c2 := HF1.out _ hq0
    clear HF1
    by_cases h1 : (i2 : Int) = a
    · have h1' : ((i2 : Nat) == a) = true := by simp; omega
      by_cases h2 : (i3 : Int) = b
      · have h2' : ((i3 : Nat) == b) = true := by simp; omega
        go_wp2_with fail
        refine c2.mono ?_
        rintro e w2 ⟨rfl, hb2⟩
        have hB2 := bstep hBq hBq.size hb2
        have hq2 := bstep hq0 hq0.size hb2
        have c3 := HF2.out _ hq2
        go_wp2_with fail
        refine c3.mono ?_
        rintro e w3 ⟨rfl, hb3⟩
        have hB3 := bstep hB2 hB2.size hb3
        have hq3 := bstep hq2 hq2.size hb3
        have c4 := HK.out _ hq3
        go_wp2_with fail
        refine c4.mono ?_
        rintro e w4 ⟨rfl, hb4⟩
        have hB4 := bstep hB3 hB3.size hb4
        clear hB0 hBq hq0 hB2 hq2 hB3 hq3
        go_wp2
        go_ret2
        exact ⟨by rw [← HR.out, if_pos ⟨h1, h2⟩]; rfl, hB4⟩
      · have h2' : ((i3 : Nat) == b) = false := by simp; omega
        go_wp2_with fail
        refine c2.mono ?_
        rintro e w2 ⟨rfl, hb2⟩
        have hB2 := bstep hBq hBq.size hb2
        have hq2 := bstep hq0 hq0.size hb2
        have c3 := HF2.out _ hq2
        go_wp2_with fail
        refine c3.mono ?_
        rintro e w3 ⟨rfl, hb3⟩
        have hB3 := bstep hB2 hB2.size hb3
        clear hB0 hBq hq0 hB2 hq2
        go_wp2
        go_ret2
        exact ⟨by rw [← HR.out, if_neg (fun h => h2 h.2)]; rfl, hB3⟩
    · have h1' : ((i2 : Nat) == a) = false := by simp; omega
      go_wp2_with fail
      refine c2.mono ?_
      rintro e w2 ⟨rfl, hb2⟩
      have hB2 := bstep hBq hBq.size hb2
      clear hB0 hBq hq0
      go_wp2
      go_ret2
      exact ⟨by rw [← HR.out, if_neg (fun h => h1 h.1)]; rfl, hB2⟩

set_option maxHeartbeats 1000000 in
theorem beside_gt_neg (a b : Int) (hab : a < b) (ha : a < 0) (hb : IsBath w w.heap.size A n c A' n' c' ss ds) (he : bathErr Wd ss ds = 0) :
    Calls Try.prog 23 #[.agg #[.int .i64 Wd, .slice A n c, .slice A' n' c'], .int .i64 b, .int .i64 a] w fun e w' => e = .returned (.tuple #[.int .i64 0, .int .i64 2]) ∧ Below w.heap.size w w' := by
  have hp0 : Below w.heap.size w (w.alloc (.cells #[.int .i64 Wd, .slice A n c, .slice A' n' c'] 25)) := (Below.refl _ w).alloc (Nat.le_refl _) _
  have c1 := opened_ok (Wd := Wd) (c := c) (c' := c') ((hb.kept hp0 (Nat.le_refl _)).wider (by simp)) he
  have hS : ∀ w1, Below w.heap.size w w1 → _ := fun w1 hB => isSized_new hb he hB
  obtain ⟨cs, hcs⟩ : ∃ cs, sizedCells Wd A n c A' n' c' (sizes ds) = cs := ⟨_, rfl⟩
  have zc : cs.size = 23 := by rw [← hcs]; rfl
  have oc : cs.all (·.oneCell') = true := by rw [← hcs]; exact sizedCells_one _ _ _ _ _ _ _ _
  rw [hcs] at c1 hS
  have OC := Lib.hid oc
  clear hcs oc
  have e1 : (a == b) = false := by simp; omega
  have e2 : (b == a) = false := by simp; omega
  clear hS
  go_enter Try.func23, Try.ntmps23
  go_wp2_with fail
  refine c1.mono ?_
  rintro e w1 ⟨rfl, hb1⟩
  have hB : Below w.heap.size w w1 := bstep hp0 (by simp) hb1
  have hst := store_last w1 w1.heap.size rfl Z84 cs zc Z84_size OC.out
  have x2 : w1.cell? ⟨w.heap.size, 2, none⟩ = some (.slice A' n' c') := (hb1.cell (p := ⟨w.heap.size, 2, none⟩) (by simp)).trans (by simp)
  have hz : w.heap.size < w1.heap.size := by have := hb1.size; simp at this; omega
  have x3 : (w1.alloc (.cells cs 84)).cell? ⟨w.heap.size, 2, none⟩ = some (.slice A' n' c') := by rw [World.cell?_alloc_lt _ _ _ hz]; exact x2
  clear hb1
  go_wp2_with (first | refine wpList_alloc84 rfl rfl ?_)
  go_ret2
  exact ⟨rfl, hB.alloc hB.size _⟩

set_option maxHeartbeats 1000000 in
theorem beside_gt_past (a b : Int) (hab : a < b) (ha : 0 ≤ a) (hbn : (n' : Int) ≤ b) (hb : IsBath w w.heap.size A n c A' n' c' ss ds) (he : bathErr Wd ss ds = 0) :
    Calls Try.prog 23 #[.agg #[.int .i64 Wd, .slice A n c, .slice A' n' c'], .int .i64 b, .int .i64 a] w fun e w' => e = .returned (.tuple #[.int .i64 0, .int .i64 2]) ∧ Below w.heap.size w w' := by
  have hp0 : Below w.heap.size w (w.alloc (.cells #[.int .i64 Wd, .slice A n c, .slice A' n' c'] 25)) := (Below.refl _ w).alloc (Nat.le_refl _) _
  have c1 := opened_ok (Wd := Wd) (c := c) (c' := c') ((hb.kept hp0 (Nat.le_refl _)).wider (by simp)) he
  have hS : ∀ w1, Below w.heap.size w w1 → _ := fun w1 hB => isSized_new hb he hB
  obtain ⟨cs, hcs⟩ : ∃ cs, sizedCells Wd A n c A' n' c' (sizes ds) = cs := ⟨_, rfl⟩
  have zc : cs.size = 23 := by rw [← hcs]; rfl
  have oc : cs.all (·.oneCell') = true := by rw [← hcs]; exact sizedCells_one _ _ _ _ _ _ _ _
  rw [hcs] at c1 hS
  have OC := Lib.hid oc
  clear hcs oc
  have e1 : (a == b) = false := by simp; omega
  have e2 : (b == a) = false := by simp; omega
  clear hS
  go_enter Try.func23, Try.ntmps23
  go_wp2_with fail
  refine c1.mono ?_
  rintro e w1 ⟨rfl, hb1⟩
  have hB : Below w.heap.size w w1 := bstep hp0 (by simp) hb1
  have hst := store_last w1 w1.heap.size rfl Z84 cs zc Z84_size OC.out
  have x2 : w1.cell? ⟨w.heap.size, 2, none⟩ = some (.slice A' n' c') := (hb1.cell (p := ⟨w.heap.size, 2, none⟩) (by simp)).trans (by simp)
  have hz : w.heap.size < w1.heap.size := by have := hb1.size; simp at this; omega
  have x3 : (w1.alloc (.cells cs 84)).cell? ⟨w.heap.size, 2, none⟩ = some (.slice A' n' c') := by rw [World.cell?_alloc_lt _ _ _ hz]; exact x2
  clear hb1
  go_wp2_with (first | refine wpList_alloc84 rfl rfl ?_)
  go_ret2
  exact ⟨rfl, hB.alloc hB.size _⟩

set_option maxHeartbeats 1000000 in
theorem beside_gt_ok (a b : Nat) (hab : a < b) (hbn : b < n') (hb : IsBath w w.heap.size A n c A' n' c' ss ds) (he : bathErr Wd ss ds = 0) :
    Calls Try.prog 23 #[.agg #[.int .i64 Wd, .slice A n c, .slice A' n' c'], .int .i64 (b : Int), .int .i64 (a : Int)] w fun e w' => e = .returned (.tuple #[.int .i64 (besideKind Wd ss ds a b), .int .i64 0]) ∧ Below w.heap.size w w' := by
  have hp0 : Below w.heap.size w (w.alloc (.cells #[.int .i64 Wd, .slice A n c, .slice A' n' c'] 25)) := (Below.refl _ w).alloc (Nat.le_refl _) _
  have c1 := opened_ok (Wd := Wd) (c := c) (c' := c') ((hb.kept hp0 (Nat.le_refl _)).wider (by simp)) he
  have hS : ∀ w1, Below w.heap.size w w1 → _ := fun w1 hB => isSized_new hb he hB
  obtain ⟨cs, hcs⟩ : ∃ cs, sizedCells Wd A n c A' n' c' (sizes ds) = cs := ⟨_, rfl⟩
  have zc : cs.size = 23 := by rw [← hcs]; rfl
  have oc : cs.all (·.oneCell') = true := by rw [← hcs]; exact sizedCells_one _ _ _ _ _ _ _ _
  rw [hcs] at c1 hS
  have OC := Lib.hid oc
  clear hcs oc
  have haz : (a : Int) < b := by omega
  have hbz : (b : Int) < n' := by omega
  have hle := hb.nle'
  have hfew := bath_ok he
  have hla : a < ds.length := by rw [← hb.nds]; omega
  have hlb : b < ds.length := by rw [← hb.nds]; omega
  have da := drop_ok he (i := a) (s := ds.getD a (0, 0, 0)) (by simp [List.getD, List.getElem?_eq_getElem hla])
  have db := drop_ok he (i := b) (s := ds.getD b (0, 0, 0)) (by simp [List.getD, List.getElem?_eq_getElem hlb])
  rw [← hb.nss] at da db
  obtain ⟨r, hr⟩ : ∃ r, besideKind Wd ss ds a b = r := ⟨_, rfl⟩
  rw [hr]
  unfold besideKind at hr
  obtain ⟨ai, hai⟩ : ∃ ai : Int, (a : Int) = ai := ⟨_, rfl⟩
  obtain ⟨bi, hbi⟩ : ∃ bi : Int, (b : Int) = bi := ⟨_, rfl⟩
  rw [hai, hbi]
  have e1 : (ai == bi) = false := by simp; omega
  have e2 : (bi == ai) = false := by simp; omega
  have o1 : ai < bi := by omega
  have o2 : bi < n' := by omega
  have o3 : 0 ≤ ai := by omega
  have o4 : 0 ≤ ai ∧ bi < n' := ⟨o3, o2⟩
  have hmin : min bi ai = ai := by omega
  have hmax : max bi ai = bi := by omega
  have HA := Lib.hid hai
  have HBI := Lib.hid hbi
  clear hai hbi
  go_enter Try.func23, Try.ntmps23
  go_wp2_with fail
  refine c1.mono ?_
  rintro e w1 ⟨rfl, hb1⟩
  have hB : Below w.heap.size w w1 := bstep hp0 (by simp) hb1
  have hst := store_last w1 w1.heap.size rfl Z84 cs zc Z84_size OC.out
  have x2 : w1.cell? ⟨w.heap.size, 2, none⟩ = some (.slice A' n' c') := (hb1.cell (p := ⟨w.heap.size, 2, none⟩) (by simp)).trans (by simp)
  have hz : w.heap.size < w1.heap.size := by have := hb1.size; simp at this; omega
  have x3 : (w1.alloc (.cells cs 84)).cell? ⟨w.heap.size, 2, none⟩ = some (.slice A' n' c') := by rw [World.cell?_alloc_lt _ _ _ hz]; exact x2
  have hs0 := hS w1 hB
  obtain ⟨bb, off, rfl, _, ca, _, _⟩ := hs0.dropAt (i := a) (by omega)
  obtain ⟨bb', off', hA, _, cb, _, _⟩ := hs0.dropAt (i := b) hbn
  obtain ⟨rfl, rfl⟩ : bb' = bb ∧ off' = off := by simp at hA; exact ⟨hA.1.symm, hA.2.symm⟩
  have hB0 := hB.alloc hB.size (.cells cs 84)
  have hz0 : (w1.alloc (.cells cs 84)).heap.size = w1.heap.size + 1 := by simp
  have hS2 : ∀ W, Below (w1.alloc (.cells cs 84)).heap.size (w1.alloc (.cells cs 84)) W → IsSized W W.heap.size w1.heap.size Wd A n c (some ⟨bb', off', none⟩) n' c' ss ds (sizes ds) := fun W hW => (hs0.kept hW (Nat.le_refl _)).wider hW.size
  have hNx : ∀ W, Below (w1.alloc (.cells cs 84)).heap.size (w1.alloc (.cells cs 84)) W → _ := fun W hW => nextOn_any a (by omega) (hS2 W hW)
  have hF1 : ∀ W, Below (w1.alloc (.cells cs 84)).heap.size (w1.alloc (.cells cs 84)) W → _ := fun W hW => firstOn_any (ds.getD a (0, 0, 0)).1 (hS2 W hW)
  have hF2 : ∀ W, Below (w1.alloc (.cells cs 84)).heap.size (w1.alloc (.cells cs 84)) W → _ := fun W hW => firstOn_any (ds.getD b (0, 0, 0)).1 (hS2 W hW)
  have hKi : (ds.getD a (0, 0, 0)).1 ≠ (ds.getD b (0, 0, 0)).1 → ∀ W, Below (w1.alloc (.cells cs 84)).heap.size (w1.alloc (.cells cs 84)) W → _ := fun hne W hW => kind_any (ds.getD a (0, 0, 0)).1 (ds.getD b (0, 0, 0)).1 (by omega) (by omega) (by omega) (by omega) hne (hS2 W hW)
  have hfl : (ds.findIdx fun d => decide (d.1 = (ds.getD a (0, 0, 0)).1)) ≤ n' := by rw [hb.nds]; exact List.findIdx_le_length
  clear hS hs0 hA hb1 hS2 x2
  go_wp2_with (first | refine wpList_alloc84 rfl rfl ?_)
  have hai := HA.out
  have hbi := HBI.out
  clear HA HBI
  subst hai hbi
  clear e1 e2 o1 o2 o3 o4 hmin hmax
  generalize ((ds.drop (a + 1)).findIdx fun d => decide (d.1 = (ds.getD a (0, 0, 0)).1)) = i1 at hNx hr
  generalize (ds.findIdx fun d => decide (d.1 = (ds.getD a (0, 0, 0)).1)) = i2 at hF1 hr hfl
  generalize (ds.findIdx fun d => decide (d.1 = (ds.getD b (0, 0, 0)).1)) = i3 at hF2 hr
  generalize kindOf Wd ss (sizes ds) (ds.getD a (0, 0, 0)).1 (ds.getD b (0, 0, 0)).1 = kk at hKi hr
  generalize (ds.getD a (0, 0, 0)) = x at hNx hF1 hF2 hKi hr ca da
  generalize (ds.getD b (0, 0, 0)) = y at hNx hF1 hF2 hKi hr cb db
  obtain ⟨x, x', x''⟩ := x
  obtain ⟨y, y', y''⟩ := y
  simp only at hNx hF1 hF2 hKi hr ca cb da db
  by_cases hxy : x = y
  · subst hxy
    rw [if_pos rfl] at hr
    have HR := Lib.hid hr
    have HN := Lib.hid hNx
    clear hr hNx hF1 hF2 hKi
    go_quiet (fail)
    have c2 := HN.out _ (bdrewN (Below.refl _ _) nq)
    clear HN
    by_cases hq : (a : Int) + 1 + i1 = b
    · have hq2 : ((a : Int) + 1 + i1 == b) = true := by simpa using hq
      go_wp2_with (go_at_call 72; refine c2.mono ?_; rintro e w2 ⟨rfl, hb2⟩)
      go_ret2
      exact ⟨by rw [← HR.out, if_pos hq]; rfl, bstep (bdrewN hB0 nq) (bdrewN hB0 nq).size hb2⟩
    · have hq2 : ((a : Int) + 1 + i1 == b) = false := by simpa using hq
      go_wp2_with (go_at_call 72; refine c2.mono ?_; rintro e w2 ⟨rfl, hb2⟩)
      go_ret2
      exact ⟨by rw [← HR.out, if_neg hq]; rfl, bstep (bdrewN hB0 nq) (bdrewN hB0 nq).size hb2⟩
  · rw [if_neg hxy] at hr
    have hne1 : (x == y) = false := by simpa using hxy
    have hne2 : (x != y) = true := by simpa using hxy
    have HR := Lib.hid hr
    have HF2 := Lib.hid hF2
    have hKi := hKi hxy
    have HK := Lib.hid hKi
    have HF1 := Lib.hid hF1
    clear hr hNx hF1 hF2 hKi
    go_quiet (fail)
    have hBq := bdrewN hB0 nq
    have hq0 := bdrewN (Below.refl (w1.alloc (.cells cs 84)).heap.size (w1.alloc (.cells cs 84))) nq
    have c2 := HF1.out _ hq0
    clear HF1
    by_cases h1 : (i2 : Int) = a
    · have h1' : ((i2 : Nat) == a) = true := by simp; omega
      by_cases h2 : (i3 : Int) = b
      · have h2' : ((i3 : Nat) == b) = true := by simp; omega
        go_wp2_with fail
        refine c2.mono ?_
        rintro e w2 ⟨rfl, hb2⟩
        have hB2 := bstep hBq hBq.size hb2
        have hq2 := bstep hq0 hq0.size hb2
        have c3 := HF2.out _ hq2
        go_wp2_with fail
        refine c3.mono ?_
        rintro e w3 ⟨rfl, hb3⟩
        have hB3 := bstep hB2 hB2.size hb3
        have hq3 := bstep hq2 hq2.size hb3
        have c4 := HK.out _ hq3
        go_wp2_with fail
        refine c4.mono ?_
        rintro e w4 ⟨rfl, hb4⟩
        have hB4 := bstep hB3 hB3.size hb4
        clear hB0 hBq hq0 hB2 hq2 hB3 hq3
        go_wp2
        go_ret2
        exact ⟨by rw [← HR.out, if_pos ⟨h1, h2⟩]; rfl, hB4⟩
      · have h2' : ((i3 : Nat) == b) = false := by simp; omega
        go_wp2_with fail
        refine c2.mono ?_
        rintro e w2 ⟨rfl, hb2⟩
        have hB2 := bstep hBq hBq.size hb2
        have hq2 := bstep hq0 hq0.size hb2
        have c3 := HF2.out _ hq2
        go_wp2_with fail
        refine c3.mono ?_
        rintro e w3 ⟨rfl, hb3⟩
        have hB3 := bstep hB2 hB2.size hb3
        clear hB0 hBq hq0 hB2 hq2
        go_wp2
        go_ret2
        exact ⟨by rw [← HR.out, if_neg (fun h => h2 h.2)]; rfl, hB3⟩
    · have h1' : ((i2 : Nat) == a) = false := by simp; omega
      go_wp2_with fail
      refine c2.mono ?_
      rintro e w2 ⟨rfl, hb2⟩
      have hB2 := bstep hBq hBq.size hb2
      clear hB0 hBq hq0
      go_wp2
      go_ret2
      exact ⟨by rw [← HR.out, if_neg (fun h => h1 h.1)]; rfl, hB2⟩

theorem beside_any (one two : Int) (hb : IsBath w w.heap.size A n c A' n' c' ss ds) :
    Calls Try.prog 23 #[.agg #[.int .i64 Wd, .slice A n c, .slice A' n' c'], .int .i64 one, .int .i64 two] w fun e w' => e = .returned (.tuple #[.int .i64 (besideAns Wd ss ds one two).1, .int .i64 (besideAns Wd ss ds one two).2]) ∧ Below w.heap.size w w' := by
  by_cases he : bathErr Wd ss ds = 0
  · unfold besideAns
    rw [if_pos he, ← hb.nds]
    rcases Int.lt_trichotomy one two with h | h | h
    · rw [Int.min_eq_left (by omega), Int.max_eq_right (by omega)]
      by_cases h1 : one < 0
      · rw [if_pos (by omega)]
        exact beside_lt_neg one two h h1 hb he
      · by_cases h2 : (n' : Int) ≤ two
        · rw [if_pos (by omega)]
          exact beside_lt_past one two h (by omega) h2 hb he
        · rw [if_neg (by omega)]
          obtain ⟨a, rfl⟩ := Int.eq_ofNat_of_zero_le (by omega : 0 ≤ one)
          obtain ⟨b, rfl⟩ := Int.eq_ofNat_of_zero_le (by omega : 0 ≤ two)
          exact beside_lt_ok a b (by omega) (by omega) hb he
    · subst h
      rw [if_pos (by simp)]
      exact beside_same one hb he
    · rw [Int.min_eq_right (by omega), Int.max_eq_left (by omega)]
      by_cases h1 : two < 0
      · rw [if_pos (by omega)]
        exact beside_gt_neg two one h h1 hb he
      · by_cases h2 : (n' : Int) ≤ one
        · rw [if_pos (by omega)]
          exact beside_gt_past two one h (by omega) h2 hb he
        · rw [if_neg (by omega)]
          obtain ⟨a, rfl⟩ := Int.eq_ofNat_of_zero_le (by omega : 0 ≤ two)
          obtain ⟨b, rfl⟩ := Int.eq_ofNat_of_zero_le (by omega : 0 ≤ one)
          exact beside_gt_ok a b (by omega) (by omega) hb he
  · unfold besideAns
    rw [if_neg he]
    exact beside_bad one two hb he

end
end Go.Proofs.Ytckndnaohggmhaa
