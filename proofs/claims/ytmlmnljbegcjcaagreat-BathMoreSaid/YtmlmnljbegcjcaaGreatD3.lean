/- Texts of one package, joined: Lists, Pure. -/
import Derived.Test.YtmlmnljbegcjcaaGreatD1
import Derived.Deep.LoopGhost
import Derived.Shelf.Abstract
import Derived.BigQuiet
import Derived.Deep.QuietTactic
/- first, every, rising, within: what the lists' functions answer. -/
namespace Go.Proofs.YtmlmnljbegcjcaaGreat
open Go.RowKit Go.Shelf

/-- An order: from when to when it is made, how old its bath may be, and what it is worth. -/
structure Odr where
  lo : Int
  hi : Int
  young : Int
  old : Int
  worth : Int
deriving DecidableEq
def bLo (o : Odr) : Int := o.hi - o.old
def bHi (o : Odr) : Int := o.lo - o.young
def encI (x : Int) : List Value := [.int .i64 x]
def encO (o : Odr) : List Value := [.int .i64 o.lo, .int .i64 o.hi, .int .i64 o.young, .int .i64 o.old, .int .i64 o.worth]
def encE (o : Odr) : List Value := [.int .i64 o.lo, .int .i64 o.hi, .int .i64 o.young, .int .i64 o.old, .int .i64 o.worth, .int .i64 (bLo o), .int .i64 (bHi o)]

theorem all_of_findIdx {α : Type} (p : α → Bool) (xs : List α) : (((xs.findIdx fun x => !p x : Nat) : Int) == (xs.length : Int)) = xs.all p := by
  rw [Bool.eq_iff_iff, beq_iff_eq, List.all_eq_true]
  constructor
  · intro h x hx
    have h' : (xs.findIdx fun x => !p x) = xs.length := by omega
    have := (List.findIdx_eq_length.1 h') x hx
    simpa using this
  · intro h
    have : (xs.findIdx fun x => !p x) = xs.length := List.findIdx_eq_length.2 fun x hx => by simp [h x hx]
    omega

set_option maxHeartbeats 1000000 in
theorem firstInt (g : Nat) (lb : Array Value) (eg : ∀ args w, (callFunc g args).run Tryz.prog w = .ok (.enter g args) w) (p : Int → Bool) (A : Option Addr) (n c : Nat) (xs : List Int) (w : World) (hnn : n = xs.length)
    (hn : n ≤ 9223372036854775807) (hh : Held w w.heap.size 1 encI A xs) (hp : PredOn g lb (Value.int .i64) p xs w) :
    Calls Tryz.prog 97 #[.slice A n c, .func (.func g) #[] lb] w fun e w' => e = .returned (.int .i64 (xs.findIdx p)) ∧ Below w.heap.size w w' := by
  have HN := Lib.hid hnn; clear hnn
  go_enter Tryz.func97, Tryz.ntmps97
  go_wp2
  go_loopw [5, 6, 9] (fun _ _ i wr => ∃ k : Nat, k ≤ n ∧ i = .int .i64 k ∧ Hid (Below w.heap.size w wr) ∧ Hid (∀ j (hj : j < k) (hl : j < xs.length), p xs[j] = false)) (fun _ _ i _ => n - (intOf i).toNat)
  case atStart => exact ⟨0, Nat.zero_le _, rfl, Lib.hid (Below.refl _ _), Lib.hid (fun j hj => absurd hj (Nat.not_lt_zero _))⟩
  case round =>
    obtain ⟨k, hk, rfl, hB, hA⟩ := hrel
    by_cases hlt : k < n
    · have hltz : (k : Int) < (n : Int) := by omega
      have hkl : k < xs.length := by rw [← HN.out]; exact hlt
      obtain ⟨x, hx⟩ : ∃ x, x = xs[k] := ⟨_, rfl⟩
      have hcell : ∃ b off, A = some ⟨b, off, none⟩ ∧ wr.cell? ⟨b, off + k, none⟩ = some (.int .i64 x) := by
        rcases hh with h | ⟨b, off, rfl, hlt', hc⟩
        · simp [h] at hkl
        · skip
          refine ⟨b, off, rfl, ?_⟩
          have := hc k x (by rw [hx]; exact List.getElem?_eq_getElem hkl) 0 _ rfl
          have h2 := (hB.out.cell (p := ⟨b, off + k * 1 + 0, none⟩) hlt').trans this
          simpa using h2
      obtain ⟨b, off, rfl, hcell⟩ := hcell
      have hcall := hp wr x (by rw [hx]; exact List.getElem_mem hkl) hB.out
      have HX := Lib.hid hx; clear hx
      clear hp hh
      cases hq : p x with
      | true =>
        rw [hq] at hcall
        go_wp2_with (go_at_fn g; refine hcall.mono ?_; rintro e w' ⟨rfl, hb'⟩)
        go_ret
        refine ⟨?_, bstep hB.out hB.out.size hb'⟩
        rw [findIdx_hit p xs k hkl (fun j hj => hA.out j hj (by omega)) (by rw [← HX.out]; exact hq)]
        rfl
      | false =>
        rw [hq] at hcall
        go_wp2_with (go_at_fn g; refine hcall.mono ?_; rintro e w' ⟨rfl, hb'⟩)
        go_roundw
        case measure => simp [intOf]; omega
        case rel =>
          refine ⟨k + 1, by omega, by go_num, Lib.hid (bstep hB.out hB.out.size hb'), Lib.hid fun j hj hl => ?_⟩
          by_cases e : j = k
          · subst e
            rw [← HX.out]; exact hq
          · exact hA.out j (by omega) hl
    · have hltz : ¬ (k : Int) < (n : Int) := by omega
      have : k = n := by omega
      subst this
      go_wp2
      go_ret
      refine ⟨?_, hB.out⟩
      rw [findIdx_miss p xs (fun j hj => hA.out j (by rw [HN.out]; exact hj) hj), ← HN.out]
      rfl

set_option maxHeartbeats 1000000 in
theorem firstLong (g : Nat) (lb : Array Value) (eg : ∀ args w, (callFunc g args).run Tryz.prog w = .ok (.enter g args) w) (p : Int → Bool) (A : Option Addr) (n c : Nat) (xs : List Int) (w : World) (hnn : n = xs.length)
    (hn : n ≤ 9223372036854775807) (hh : Held w w.heap.size 1 encI A xs) (hp : PredOn g lb (Value.int .i64) p xs w) :
    Calls Tryz.prog 108 #[.slice A n c, .func (.func g) #[] lb] w fun e w' => e = .returned (.int .i64 (xs.findIdx p)) ∧ Below w.heap.size w w' := by
  have HN := Lib.hid hnn; clear hnn
  go_enter Tryz.func108, Tryz.ntmps108
  go_wp2
  go_loopw [5, 6, 9] (fun _ _ i wr => ∃ k : Nat, k ≤ n ∧ i = .int .i64 k ∧ Hid (Below w.heap.size w wr) ∧ Hid (∀ j (hj : j < k) (hl : j < xs.length), p xs[j] = false)) (fun _ _ i _ => n - (intOf i).toNat)
  case atStart => exact ⟨0, Nat.zero_le _, rfl, Lib.hid (Below.refl _ _), Lib.hid (fun j hj => absurd hj (Nat.not_lt_zero _))⟩
  case round =>
    obtain ⟨k, hk, rfl, hB, hA⟩ := hrel
    by_cases hlt : k < n
    · have hltz : (k : Int) < (n : Int) := by omega
      have hkl : k < xs.length := by rw [← HN.out]; exact hlt
      obtain ⟨x, hx⟩ : ∃ x, x = xs[k] := ⟨_, rfl⟩
      have hcell : ∃ b off, A = some ⟨b, off, none⟩ ∧ wr.cell? ⟨b, off + k, none⟩ = some (.int .i64 x) := by
        rcases hh with h | ⟨b, off, rfl, hlt', hc⟩
        · simp [h] at hkl
        · skip
          refine ⟨b, off, rfl, ?_⟩
          have := hc k x (by rw [hx]; exact List.getElem?_eq_getElem hkl) 0 _ rfl
          have h2 := (hB.out.cell (p := ⟨b, off + k * 1 + 0, none⟩) hlt').trans this
          simpa using h2
      obtain ⟨b, off, rfl, hcell⟩ := hcell
      have hcall := hp wr x (by rw [hx]; exact List.getElem_mem hkl) hB.out
      have HX := Lib.hid hx; clear hx
      clear hp hh
      cases hq : p x with
      | true =>
        rw [hq] at hcall
        go_wp2_with (go_at_fn g; refine hcall.mono ?_; rintro e w' ⟨rfl, hb'⟩)
        go_ret
        refine ⟨?_, bstep hB.out hB.out.size hb'⟩
        rw [findIdx_hit p xs k hkl (fun j hj => hA.out j hj (by omega)) (by rw [← HX.out]; exact hq)]
        rfl
      | false =>
        rw [hq] at hcall
        go_wp2_with (go_at_fn g; refine hcall.mono ?_; rintro e w' ⟨rfl, hb'⟩)
        go_roundw
        case measure => simp [intOf]; omega
        case rel =>
          refine ⟨k + 1, by omega, by go_num, Lib.hid (bstep hB.out hB.out.size hb'), Lib.hid fun j hj hl => ?_⟩
          by_cases e : j = k
          · subst e
            rw [← HX.out]; exact hq
          · exact hA.out j (by omega) hl
    · have hltz : ¬ (k : Int) < (n : Int) := by omega
      have : k = n := by omega
      subst this
      go_wp2
      go_ret
      refine ⟨?_, hB.out⟩
      rw [findIdx_miss p xs (fun j hj => hA.out j (by rw [HN.out]; exact hj) hj), ← HN.out]
      rfl

set_option maxHeartbeats 1000000 in
theorem firstOdr (g : Nat) (lb : Array Value) (eg : ∀ args w, (callFunc g args).run Tryz.prog w = .ok (.enter g args) w) (p : Odr → Bool) (A : Option Addr) (n c : Nat) (xs : List Odr) (w : World) (hnn : n = xs.length)
    (hn : n ≤ 9223372036854775807) (hh : Held w w.heap.size 5 encO A xs) (hp : PredOn g lb (fun x => .agg (encO x).toArray) p xs w) :
    Calls Tryz.prog 90 #[.slice A n c, .func (.func g) #[] lb] w fun e w' => e = .returned (.int .i64 (xs.findIdx p)) ∧ Below w.heap.size w w' := by
  have HN := Lib.hid hnn; clear hnn
  go_enter Tryz.func90, Tryz.ntmps90
  go_wp2
  go_loopw [5, 6, 9] (fun _ _ i wr => ∃ k : Nat, k ≤ n ∧ i = .int .i64 k ∧ Hid (Below w.heap.size w wr) ∧ Hid (∀ j (hj : j < k) (hl : j < xs.length), p xs[j] = false)) (fun _ _ i _ => n - (intOf i).toNat)
  case atStart => exact ⟨0, Nat.zero_le _, rfl, Lib.hid (Below.refl _ _), Lib.hid (fun j hj => absurd hj (Nat.not_lt_zero _))⟩
  case round =>
    obtain ⟨k, hk, rfl, hB, hA⟩ := hrel
    by_cases hlt : k < n
    · have hltz : (k : Int) < (n : Int) := by omega
      have hkl : k < xs.length := by rw [← HN.out]; exact hlt
      obtain ⟨x, hx⟩ : ∃ x, x = xs[k] := ⟨_, rfl⟩
      have hcell : ∃ b off, A = some ⟨b, off, none⟩ ∧ wr.cell? ⟨b, off + k * 5, none⟩ = (encO x)[0]? ∧ wr.cell? ⟨b, off + k * 5 + 1, none⟩ = (encO x)[1]? ∧ wr.cell? ⟨b, off + k * 5 + 2, none⟩ = (encO x)[2]? ∧ wr.cell? ⟨b, off + k * 5 + 3, none⟩ = (encO x)[3]? ∧ wr.cell? ⟨b, off + k * 5 + 4, none⟩ = (encO x)[4]? := by
        rcases hh with h | ⟨b, off, rfl, hlt', hc⟩
        · simp [h] at hkl
        · skip
          refine ⟨b, off, rfl, ?_, ?_, ?_, ?_, ?_⟩
          · exact (hB.out.cell (p := ⟨b, off + k * 5 + 0, none⟩) hlt').trans (hc k x (by rw [hx]; exact List.getElem?_eq_getElem hkl) 0 _ rfl)
          · exact (hB.out.cell (p := ⟨b, off + k * 5 + 1, none⟩) hlt').trans (hc k x (by rw [hx]; exact List.getElem?_eq_getElem hkl) 1 _ rfl)
          · exact (hB.out.cell (p := ⟨b, off + k * 5 + 2, none⟩) hlt').trans (hc k x (by rw [hx]; exact List.getElem?_eq_getElem hkl) 2 _ rfl)
          · exact (hB.out.cell (p := ⟨b, off + k * 5 + 3, none⟩) hlt').trans (hc k x (by rw [hx]; exact List.getElem?_eq_getElem hkl) 3 _ rfl)
          · exact (hB.out.cell (p := ⟨b, off + k * 5 + 4, none⟩) hlt').trans (hc k x (by rw [hx]; exact List.getElem?_eq_getElem hkl) 4 _ rfl)
      obtain ⟨b, off, rfl, hcell0, hcell1, hcell2, hcell3, hcell4⟩ := hcell
      have hcall := hp (wr.alloc (.cells (encO x).toArray 56)) x (by rw [hx]; exact List.getElem_mem hkl) (hB.out.alloc hB.out.size _)
      simp only [encO, List.getElem?_cons_zero, List.getElem?_cons_succ] at hcell0 hcell1 hcell2 hcell3 hcell4 hcall
      have HX := Lib.hid hx; clear hx
      clear hp hh
      cases hq : p x with
      | true =>
        rw [hq] at hcall
        go_wp2_with (go_at_fn g; refine hcall.mono ?_; rintro e w' ⟨rfl, hb'⟩)
        go_ret
        refine ⟨?_, bstep (hB.out.alloc hB.out.size _) (by have := hB.out.size; simp; omega) hb'⟩
        rw [findIdx_hit p xs k hkl (fun j hj => hA.out j hj (by omega)) (by rw [← HX.out]; exact hq)]
        rfl
      | false =>
        rw [hq] at hcall
        go_wp2_with (go_at_fn g; refine hcall.mono ?_; rintro e w' ⟨rfl, hb'⟩)
        go_roundw
        case measure => simp [intOf]; omega
        case rel =>
          refine ⟨k + 1, by omega, by go_num, Lib.hid (bstep (hB.out.alloc hB.out.size _) (by have := hB.out.size; simp; omega) hb'), Lib.hid fun j hj hl => ?_⟩
          by_cases e : j = k
          · subst e
            rw [← HX.out]; exact hq
          · exact hA.out j (by omega) hl
    · have hltz : ¬ (k : Int) < (n : Int) := by omega
      have : k = n := by omega
      subst this
      go_wp2
      go_ret
      refine ⟨?_, hB.out⟩
      rw [findIdx_miss p xs (fun j hj => hA.out j (by rw [HN.out]; exact hj) hj), ← HN.out]
      rfl

set_option maxHeartbeats 1000000 in
theorem firstEnt (g : Nat) (lb : Array Value) (eg : ∀ args w, (callFunc g args).run Tryz.prog w = .ok (.enter g args) w) (p : Odr → Bool) (A : Option Addr) (n c : Nat) (xs : List Odr) (w : World) (hnn : n = xs.length)
    (hn : n ≤ 9223372036854775807) (hh : Held w w.heap.size 7 encE A xs) (hp : PredOn g lb (fun x => .agg (encE x).toArray) p xs w) :
    Calls Tryz.prog 110 #[.slice A n c, .func (.func g) #[] lb] w fun e w' => e = .returned (.int .i64 (xs.findIdx p)) ∧ Below w.heap.size w w' := by
  have HN := Lib.hid hnn; clear hnn
  go_enter Tryz.func110, Tryz.ntmps110
  go_wp2
  go_loopw [5, 6, 9] (fun _ _ i wr => ∃ k : Nat, k ≤ n ∧ i = .int .i64 k ∧ Hid (Below w.heap.size w wr) ∧ Hid (∀ j (hj : j < k) (hl : j < xs.length), p xs[j] = false)) (fun _ _ i _ => n - (intOf i).toNat)
  case atStart => exact ⟨0, Nat.zero_le _, rfl, Lib.hid (Below.refl _ _), Lib.hid (fun j hj => absurd hj (Nat.not_lt_zero _))⟩
  case round =>
    obtain ⟨k, hk, rfl, hB, hA⟩ := hrel
    by_cases hlt : k < n
    · have hltz : (k : Int) < (n : Int) := by omega
      have hkl : k < xs.length := by rw [← HN.out]; exact hlt
      obtain ⟨x, hx⟩ : ∃ x, x = xs[k] := ⟨_, rfl⟩
      have hcell : ∃ b off, A = some ⟨b, off, none⟩ ∧ wr.cell? ⟨b, off + k * 7, none⟩ = (encE x)[0]? ∧ wr.cell? ⟨b, off + k * 7 + 1, none⟩ = (encE x)[1]? ∧ wr.cell? ⟨b, off + k * 7 + 2, none⟩ = (encE x)[2]? ∧ wr.cell? ⟨b, off + k * 7 + 3, none⟩ = (encE x)[3]? ∧ wr.cell? ⟨b, off + k * 7 + 4, none⟩ = (encE x)[4]? ∧ wr.cell? ⟨b, off + k * 7 + 5, none⟩ = (encE x)[5]? ∧ wr.cell? ⟨b, off + k * 7 + 6, none⟩ = (encE x)[6]? := by
        rcases hh with h | ⟨b, off, rfl, hlt', hc⟩
        · simp [h] at hkl
        · skip
          refine ⟨b, off, rfl, ?_, ?_, ?_, ?_, ?_, ?_, ?_⟩
          · exact (hB.out.cell (p := ⟨b, off + k * 7 + 0, none⟩) hlt').trans (hc k x (by rw [hx]; exact List.getElem?_eq_getElem hkl) 0 _ rfl)
          · exact (hB.out.cell (p := ⟨b, off + k * 7 + 1, none⟩) hlt').trans (hc k x (by rw [hx]; exact List.getElem?_eq_getElem hkl) 1 _ rfl)
          · exact (hB.out.cell (p := ⟨b, off + k * 7 + 2, none⟩) hlt').trans (hc k x (by rw [hx]; exact List.getElem?_eq_getElem hkl) 2 _ rfl)
          · exact (hB.out.cell (p := ⟨b, off + k * 7 + 3, none⟩) hlt').trans (hc k x (by rw [hx]; exact List.getElem?_eq_getElem hkl) 3 _ rfl)
          · exact (hB.out.cell (p := ⟨b, off + k * 7 + 4, none⟩) hlt').trans (hc k x (by rw [hx]; exact List.getElem?_eq_getElem hkl) 4 _ rfl)
          · exact (hB.out.cell (p := ⟨b, off + k * 7 + 5, none⟩) hlt').trans (hc k x (by rw [hx]; exact List.getElem?_eq_getElem hkl) 5 _ rfl)
          · exact (hB.out.cell (p := ⟨b, off + k * 7 + 6, none⟩) hlt').trans (hc k x (by rw [hx]; exact List.getElem?_eq_getElem hkl) 6 _ rfl)
      obtain ⟨b, off, rfl, hcell0, hcell1, hcell2, hcell3, hcell4, hcell5, hcell6⟩ := hcell
      have hcall := hp (wr.alloc (.cells (encE x).toArray 80)) x (by rw [hx]; exact List.getElem_mem hkl) (hB.out.alloc hB.out.size _)
      simp only [encE, List.getElem?_cons_zero, List.getElem?_cons_succ] at hcell0 hcell1 hcell2 hcell3 hcell4 hcell5 hcell6 hcall
      have HX := Lib.hid hx; clear hx
      clear hp hh
      cases hq : p x with
      | true =>
        rw [hq] at hcall
        go_wp2_with (go_at_fn g; refine hcall.mono ?_; rintro e w' ⟨rfl, hb'⟩)
        go_ret
        refine ⟨?_, bstep (hB.out.alloc hB.out.size _) (by have := hB.out.size; simp; omega) hb'⟩
        rw [findIdx_hit p xs k hkl (fun j hj => hA.out j hj (by omega)) (by rw [← HX.out]; exact hq)]
        rfl
      | false =>
        rw [hq] at hcall
        go_wp2_with (go_at_fn g; refine hcall.mono ?_; rintro e w' ⟨rfl, hb'⟩)
        go_roundw
        case measure => simp [intOf]; omega
        case rel =>
          refine ⟨k + 1, by omega, by go_num, Lib.hid (bstep (hB.out.alloc hB.out.size _) (by have := hB.out.size; simp; omega) hb'), Lib.hid fun j hj hl => ?_⟩
          by_cases e : j = k
          · subst e
            rw [← HX.out]; exact hq
          · exact hA.out j (by omega) hl
    · have hltz : ¬ (k : Int) < (n : Int) := by omega
      have : k = n := by omega
      subst this
      go_wp2
      go_ret
      refine ⟨?_, hB.out⟩
      rw [findIdx_miss p xs (fun j hj => hA.out j (by rw [HN.out]; exact hj) hj), ← HN.out]
      rfl

set_option maxHeartbeats 1000000 in
theorem badInt (g : Nat) (lb : Array Value) (eg : ∀ args w, (callFunc g args).run Tryz.prog w = .ok (.enter g args) w) (p : Int → Bool) (B : Nat) (xs : List Int) (w : World)
    (hp : PredOn g lb (Value.int .i64) p xs w) (hB : B < w.heap.size) (hc : w.cell? ⟨B, 0, none⟩ = some (.func (.func g) #[] lb)) :
    PredOn 96 #[.pointer (some ⟨B, 0, none⟩)] (Value.int .i64) (fun x => !p x) xs w := fun W x hx hb => by
  have hc' : W.cell? ⟨B, 0, none⟩ = some (.func (.func g) #[] lb) := (hb.cell (p := ⟨B, 0, none⟩) hB).trans hc
  have hBW : B < W.heap.size := Nat.lt_of_lt_of_le hB hb.size
  have hne : B ≠ W.heap.size := by omega
  have hcall := hp W x hx hb
  clear hp hc
  show Calls Tryz.prog 96 #[.int .i64 x, .pointer (some ⟨B, 0, none⟩)] W fun e w' => e = .returned (.bool !p x) ∧ Below W.heap.size W w'
  generalize p x = q at hcall ⊢
  go_enter Tryz.func96, Tryz.ntmps96
  go_wp2_with (go_at_fn g; refine hcall.mono ?_; rintro e w' ⟨rfl, hb'⟩)
  go_ret
  exact ⟨rfl, hb'⟩

set_option maxHeartbeats 1000000 in
theorem everyInt (g : Nat) (lb : Array Value) (eg : ∀ args w, (callFunc g args).run Tryz.prog w = .ok (.enter g args) w) (p : Int → Bool) (A : Option Addr) (n c : Nat) (xs : List Int) (w : World) (hnn : n = xs.length)
    (hn : n ≤ 9223372036854775807) (hh : Held w w.heap.size 1 encI A xs) (hp : PredOn g lb (Value.int .i64) p xs w) :
    Calls Tryz.prog 76 #[.slice A n c, .func (.func g) #[] lb] w fun e w' => e = .returned (.bool (xs.all p)) ∧ Below w.heap.size w w' := by
  have e2 : ∀ args w, (callFunc 96 args).run Tryz.prog w = .ok (.enter 96 args) w := enters_of Tryz.func96 (by kernel_rfl) rfl
  have hb0 : Below w.heap.size w (w.alloc (.cells #[.func (.func g) #[] lb] 78)) := (Below.refl _ w).alloc (Nat.le_refl _) _
  have hcon := firstInt 96 #[.pointer (some ⟨w.heap.size, 0, none⟩)] e2 (fun x => !p x) A n c xs (w.alloc (.cells #[.func (.func g) #[] lb] 78)) hnn hn
    ((hh.kept hb0 (Nat.le_refl _)).wider (by simp)) (badInt g lb eg p w.heap.size xs _ (fun W x hx hb => hp W x hx (hb0.trans (hb.mono (by simp)))) (by simp) (by simp))
  have HA := all_of_findIdx p xs
  rw [← hnn] at HA
  generalize xs.findIdx (fun x => !p x) = r at hcon HA
  generalize xs.all p = q at HA ⊢
  have HQ := Lib.hid HA; clear HA hp hh hnn
  go_enter Tryz.func76, Tryz.ntmps76
  go_wp2_with (go_at_call 97; refine hcon.mono ?_; rintro e w' ⟨rfl, hb'⟩)
  go_ret
  exact ⟨ret_bool HQ.out, bstep hb0 (by simp) hb'⟩

set_option maxHeartbeats 1000000 in
theorem badLong (g : Nat) (lb : Array Value) (eg : ∀ args w, (callFunc g args).run Tryz.prog w = .ok (.enter g args) w) (p : Int → Bool) (B : Nat) (xs : List Int) (w : World)
    (hp : PredOn g lb (Value.int .i64) p xs w) (hB : B < w.heap.size) (hc : w.cell? ⟨B, 0, none⟩ = some (.func (.func g) #[] lb)) :
    PredOn 107 #[.pointer (some ⟨B, 0, none⟩)] (Value.int .i64) (fun x => !p x) xs w := fun W x hx hb => by
  have hc' : W.cell? ⟨B, 0, none⟩ = some (.func (.func g) #[] lb) := (hb.cell (p := ⟨B, 0, none⟩) hB).trans hc
  have hBW : B < W.heap.size := Nat.lt_of_lt_of_le hB hb.size
  have hne : B ≠ W.heap.size := by omega
  have hcall := hp W x hx hb
  clear hp hc
  show Calls Tryz.prog 107 #[.int .i64 x, .pointer (some ⟨B, 0, none⟩)] W fun e w' => e = .returned (.bool !p x) ∧ Below W.heap.size W w'
  generalize p x = q at hcall ⊢
  go_enter Tryz.func107, Tryz.ntmps107
  go_wp2_with (go_at_fn g; refine hcall.mono ?_; rintro e w' ⟨rfl, hb'⟩)
  go_ret
  exact ⟨rfl, hb'⟩

set_option maxHeartbeats 1000000 in
theorem everyLong (g : Nat) (lb : Array Value) (eg : ∀ args w, (callFunc g args).run Tryz.prog w = .ok (.enter g args) w) (p : Int → Bool) (A : Option Addr) (n c : Nat) (xs : List Int) (w : World) (hnn : n = xs.length)
    (hn : n ≤ 9223372036854775807) (hh : Held w w.heap.size 1 encI A xs) (hp : PredOn g lb (Value.int .i64) p xs w) :
    Calls Tryz.prog 87 #[.slice A n c, .func (.func g) #[] lb] w fun e w' => e = .returned (.bool (xs.all p)) ∧ Below w.heap.size w w' := by
  have e2 : ∀ args w, (callFunc 107 args).run Tryz.prog w = .ok (.enter 107 args) w := enters_of Tryz.func107 (by kernel_rfl) rfl
  have hb0 : Below w.heap.size w (w.alloc (.cells #[.func (.func g) #[] lb] 111)) := (Below.refl _ w).alloc (Nat.le_refl _) _
  have hcon := firstLong 107 #[.pointer (some ⟨w.heap.size, 0, none⟩)] e2 (fun x => !p x) A n c xs (w.alloc (.cells #[.func (.func g) #[] lb] 111)) hnn hn
    ((hh.kept hb0 (Nat.le_refl _)).wider (by simp)) (badLong g lb eg p w.heap.size xs _ (fun W x hx hb => hp W x hx (hb0.trans (hb.mono (by simp)))) (by simp) (by simp))
  have HA := all_of_findIdx p xs
  rw [← hnn] at HA
  generalize xs.findIdx (fun x => !p x) = r at hcon HA
  generalize xs.all p = q at HA ⊢
  have HQ := Lib.hid HA; clear HA hp hh hnn
  go_enter Tryz.func87, Tryz.ntmps87
  go_wp2_with (go_at_call 108; refine hcon.mono ?_; rintro e w' ⟨rfl, hb'⟩)
  go_ret
  exact ⟨ret_bool HQ.out, bstep hb0 (by simp) hb'⟩

set_option maxHeartbeats 1000000 in
theorem badOdr (g : Nat) (lb : Array Value) (eg : ∀ args w, (callFunc g args).run Tryz.prog w = .ok (.enter g args) w) (p : Odr → Bool) (B : Nat) (xs : List Odr) (w : World)
    (hp : PredOn g lb (fun x => .agg (encO x).toArray) p xs w) (hB : B < w.heap.size) (hc : w.cell? ⟨B, 0, none⟩ = some (.func (.func g) #[] lb)) :
    PredOn 89 #[.pointer (some ⟨B, 0, none⟩)] (fun x => .agg (encO x).toArray) (fun x => !p x) xs w := fun W x hx hb => by
  have hc' : W.cell? ⟨B, 0, none⟩ = some (.func (.func g) #[] lb) := (hb.cell (p := ⟨B, 0, none⟩) hB).trans hc
  have hBW : B < W.heap.size := Nat.lt_of_lt_of_le hB hb.size
  have hne : B ≠ W.heap.size := by omega
  have hcall := hp (W.alloc (.cells (encO x).toArray 56)) x hx (hb.alloc hb.size _)
  simp only [encO] at hcall
  have hc'' : (W.alloc (.cells (encO x).toArray 56)).cell? ⟨B, 0, none⟩ = some (.func (.func g) #[] lb) := (((Below.refl W.heap.size W).alloc (Nat.le_refl _) _).cell (p := ⟨B, 0, none⟩) hBW).trans hc'
  simp only [encO] at hc''
  clear hp hc
  show Calls Tryz.prog 89 #[.agg #[.int .i64 x.lo, .int .i64 x.hi, .int .i64 x.young, .int .i64 x.old, .int .i64 x.worth], .pointer (some ⟨B, 0, none⟩)] W fun e w' => e = .returned (.bool !p x) ∧ Below W.heap.size W w'
  generalize p x = q at hcall ⊢
  go_enter Tryz.func89, Tryz.ntmps89
  go_wp2_with (go_at_fn g; refine hcall.mono ?_; rintro e w' ⟨rfl, hb'⟩)
  go_ret
  exact ⟨rfl, bstep ((Below.refl _ W).alloc (Nat.le_refl _) _) (by simp) hb'⟩

set_option maxHeartbeats 1000000 in
theorem everyOdr (g : Nat) (lb : Array Value) (eg : ∀ args w, (callFunc g args).run Tryz.prog w = .ok (.enter g args) w) (p : Odr → Bool) (A : Option Addr) (n c : Nat) (xs : List Odr) (w : World) (hnn : n = xs.length)
    (hn : n ≤ 9223372036854775807) (hh : Held w w.heap.size 5 encO A xs) (hp : PredOn g lb (fun x => .agg (encO x).toArray) p xs w) :
    Calls Tryz.prog 62 #[.slice A n c, .func (.func g) #[] lb] w fun e w' => e = .returned (.bool (xs.all p)) ∧ Below w.heap.size w w' := by
  have e2 : ∀ args w, (callFunc 89 args).run Tryz.prog w = .ok (.enter 89 args) w := enters_of Tryz.func89 (by kernel_rfl) rfl
  have hb0 : Below w.heap.size w (w.alloc (.cells #[.func (.func g) #[] lb] 89)) := (Below.refl _ w).alloc (Nat.le_refl _) _
  have hcon := firstOdr 89 #[.pointer (some ⟨w.heap.size, 0, none⟩)] e2 (fun x => !p x) A n c xs (w.alloc (.cells #[.func (.func g) #[] lb] 89)) hnn hn
    ((hh.kept hb0 (Nat.le_refl _)).wider (by simp)) (badOdr g lb eg p w.heap.size xs _ (fun W x hx hb => hp W x hx (hb0.trans (hb.mono (by simp)))) (by simp) (by simp))
  have HA := all_of_findIdx p xs
  rw [← hnn] at HA
  generalize xs.findIdx (fun x => !p x) = r at hcon HA
  generalize xs.all p = q at HA ⊢
  have HQ := Lib.hid HA; clear HA hp hh hnn
  go_enter Tryz.func62, Tryz.ntmps62
  go_wp2_with (go_at_call 90; refine hcon.mono ?_; rintro e w' ⟨rfl, hb'⟩)
  go_ret
  exact ⟨ret_bool HQ.out, bstep hb0 (by simp) hb'⟩

set_option maxHeartbeats 1000000 in
theorem badEnt (g : Nat) (lb : Array Value) (eg : ∀ args w, (callFunc g args).run Tryz.prog w = .ok (.enter g args) w) (p : Odr → Bool) (B : Nat) (xs : List Odr) (w : World)
    (hp : PredOn g lb (fun x => .agg (encE x).toArray) p xs w) (hB : B < w.heap.size) (hc : w.cell? ⟨B, 0, none⟩ = some (.func (.func g) #[] lb)) :
    PredOn 109 #[.pointer (some ⟨B, 0, none⟩)] (fun x => .agg (encE x).toArray) (fun x => !p x) xs w := fun W x hx hb => by
  have hc' : W.cell? ⟨B, 0, none⟩ = some (.func (.func g) #[] lb) := (hb.cell (p := ⟨B, 0, none⟩) hB).trans hc
  have hBW : B < W.heap.size := Nat.lt_of_lt_of_le hB hb.size
  have hne : B ≠ W.heap.size := by omega
  have hcall := hp (W.alloc (.cells (encE x).toArray 80)) x hx (hb.alloc hb.size _)
  simp only [encE] at hcall
  have hc'' : (W.alloc (.cells (encE x).toArray 80)).cell? ⟨B, 0, none⟩ = some (.func (.func g) #[] lb) := (((Below.refl W.heap.size W).alloc (Nat.le_refl _) _).cell (p := ⟨B, 0, none⟩) hBW).trans hc'
  simp only [encE] at hc''
  clear hp hc
  show Calls Tryz.prog 109 #[.agg #[.int .i64 x.lo, .int .i64 x.hi, .int .i64 x.young, .int .i64 x.old, .int .i64 x.worth, .int .i64 (bLo x), .int .i64 (bHi x)], .pointer (some ⟨B, 0, none⟩)] W fun e w' => e = .returned (.bool !p x) ∧ Below W.heap.size W w'
  generalize p x = q at hcall ⊢
  go_enter Tryz.func109, Tryz.ntmps109
  go_wp2_with (go_at_fn g; refine hcall.mono ?_; rintro e w' ⟨rfl, hb'⟩)
  go_ret
  exact ⟨rfl, bstep ((Below.refl _ W).alloc (Nat.le_refl _) _) (by simp) hb'⟩

set_option maxHeartbeats 1000000 in
theorem everyEnt (g : Nat) (lb : Array Value) (eg : ∀ args w, (callFunc g args).run Tryz.prog w = .ok (.enter g args) w) (p : Odr → Bool) (A : Option Addr) (n c : Nat) (xs : List Odr) (w : World) (hnn : n = xs.length)
    (hn : n ≤ 9223372036854775807) (hh : Held w w.heap.size 7 encE A xs) (hp : PredOn g lb (fun x => .agg (encE x).toArray) p xs w) :
    Calls Tryz.prog 91 #[.slice A n c, .func (.func g) #[] lb] w fun e w' => e = .returned (.bool (xs.all p)) ∧ Below w.heap.size w w' := by
  have e2 : ∀ args w, (callFunc 109 args).run Tryz.prog w = .ok (.enter 109 args) w := enters_of Tryz.func109 (by kernel_rfl) rfl
  have hb0 : Below w.heap.size w (w.alloc (.cells #[.func (.func g) #[] lb] 114)) := (Below.refl _ w).alloc (Nat.le_refl _) _
  have hcon := firstEnt 109 #[.pointer (some ⟨w.heap.size, 0, none⟩)] e2 (fun x => !p x) A n c xs (w.alloc (.cells #[.func (.func g) #[] lb] 114)) hnn hn
    ((hh.kept hb0 (Nat.le_refl _)).wider (by simp)) (badEnt g lb eg p w.heap.size xs _ (fun W x hx hb => hp W x hx (hb0.trans (hb.mono (by simp)))) (by simp) (by simp))
  have HA := all_of_findIdx p xs
  rw [← hnn] at HA
  generalize xs.findIdx (fun x => !p x) = r at hcon HA
  generalize xs.all p = q at HA ⊢
  have HQ := Lib.hid HA; clear HA hp hh hnn
  go_enter Tryz.func91, Tryz.ntmps91
  go_wp2_with (go_at_call 110; refine hcon.mono ?_; rintro e w' ⟨rfl, hb'⟩)
  go_ret
  exact ⟨ret_bool HQ.out, bstep hb0 (by simp) hb'⟩

def inside (lo hi x : Int) : Bool := decide (lo ≤ x) && decide (x ≤ hi)

set_option maxHeartbeats 400000 in
theorem between (lo hi : Int) (B C : Nat) (xs : List Int) (w : World) (hB : B < w.heap.size) (hC : C < w.heap.size)
    (hb : w.cell? ⟨B, 0, none⟩ = some (.int .i64 lo)) (hc : w.cell? ⟨C, 0, none⟩ = some (.int .i64 hi)) :
    PredOn 88 #[.pointer (some ⟨B, 0, none⟩), .pointer (some ⟨C, 0, none⟩)] (Value.int .i64) (inside lo hi) xs w := fun W x hx hbw => by
  have hb' : W.cell? ⟨B, 0, none⟩ = some (.int .i64 lo) := (hbw.cell (p := ⟨B, 0, none⟩) hB).trans hb
  have hc' : W.cell? ⟨C, 0, none⟩ = some (.int .i64 hi) := (hbw.cell (p := ⟨C, 0, none⟩) hC).trans hc
  show Calls Tryz.prog 88 #[.int .i64 x, .pointer (some ⟨B, 0, none⟩), .pointer (some ⟨C, 0, none⟩)] W fun e w' => e = .returned (.bool (inside lo hi x)) ∧ Below W.heap.size W w'
  by_cases h : lo ≤ x
  · by_cases h2 : x ≤ hi
    · have hi2 : inside lo hi x = true := by simp [inside, h, h2]
      rw [hi2]
      go_enter Tryz.func88, Tryz.ntmps88
      go_wp2
      go_ret
      exact ⟨rfl, Below.refl _ _⟩
    · have hi2 : inside lo hi x = false := by simp [inside, h2]
      rw [hi2]
      go_enter Tryz.func88, Tryz.ntmps88
      go_wp2
      go_ret
      exact ⟨rfl, Below.refl _ _⟩
  · have hi2 : inside lo hi x = false := by simp [inside, h]
    rw [hi2]
    go_enter Tryz.func88, Tryz.ntmps88
    go_wp2
    go_ret
    exact ⟨rfl, Below.refl _ _⟩

set_option maxHeartbeats 400000 in
theorem within (lo hi : Int) (A : Option Addr) (n c : Nat) (xs : List Int) (w : World) (hnn : n = xs.length)
    (hn : n ≤ 9223372036854775807) (hh : Held w w.heap.size 1 encI A xs) :
    Calls Tryz.prog 61 #[.int .i64 lo, .int .i64 hi, .slice A n c] w fun e w' => e = .returned (.bool (xs.all (inside lo hi))) ∧ Below w.heap.size w w' := by
  have e2 : ∀ args w, (callFunc 88 args).run Tryz.prog w = .ok (.enter 88 args) w := enters_of Tryz.func88 (by kernel_rfl) rfl
  have hb0 : Below w.heap.size w ((w.alloc (.cells #[.int .i64 lo] 2)).alloc (.cells #[.int .i64 hi] 2)) := ((Below.refl _ w).alloc (Nat.le_refl _) _).alloc (by simp) _
  have hcon := everyLong 88 #[.pointer (some ⟨w.heap.size, 0, none⟩), .pointer (some ⟨w.heap.size + 1, 0, none⟩)] e2 (inside lo hi) A n c xs ((w.alloc (.cells #[.int .i64 lo] 2)).alloc (.cells #[.int .i64 hi] 2)) hnn hn
    ((hh.kept hb0 (Nat.le_refl _)).wider (by simp; omega)) (between lo hi w.heap.size (w.heap.size + 1) xs _ (by simp; omega) (by simp) (by simp) (by simp))
  generalize xs.all (inside lo hi) = q at hcon ⊢
  clear hnn hh
  go_enter Tryz.func61, Tryz.ntmps61
  go_wp2_with (go_at_call 87; refine hcon.mono ?_; rintro e w' ⟨rfl, hb'⟩)
  go_ret
  exact ⟨rfl, bstep hb0 (by simp; omega) hb'⟩

end Go.Proofs.YtmlmnljbegcjcaaGreat

/- The mathematics of baths: the fewest baths, orders that are apart, what baths are worth at most. -/
namespace Go.Proofs.YtmlmnljbegcjcaaGreat
/-- Whether a bath of this birth does an order. -/
def doneB (x : Int) (o : Odr) : Bool := decide (bLo o ≤ x) && decide (x ≤ bHi o)
def hasB (o : Odr) : Bool := decide (bLo o ≤ bHi o)
theorem doneB_iff {x : Int} {o : Odr} : doneB x o = true ↔ bLo o ≤ x ∧ x ≤ bHi o := by simp [doneB]
/-- The least end of some orders. -/
def minHi : List Odr → Option Int
  | [] => none
  | o :: l => some (match minHi l with | none => bHi o | some x => if bHi o ≤ x then bHi o else x)
theorem minHi_none {l : List Odr} : minHi l = none ↔ l = [] := by cases l <;> simp [minHi]
theorem minHi_some {l : List Odr} {x : Int} (h : minHi l = some x) : (∃ o, o ∈ l ∧ bHi o = x) ∧ ∀ o, o ∈ l → x ≤ bHi o := by
  induction l generalizing x with
  | nil => cases h
  | cons o l ih =>
    simp only [minHi, Option.some.injEq] at h
    cases hm : minHi l with
    | none =>
      rw [hm] at h
      rw [minHi_none.1 hm]
      subst h
      exact ⟨⟨o, by simp, rfl⟩, fun z hz => by simp at hz; subst hz; exact Int.le_refl _⟩
    | some y =>
      rw [hm] at h
      obtain ⟨⟨z, hz, hzy⟩, h2⟩ := ih hm
      dsimp only at h
      split at h
      · subst h
        exact ⟨⟨o, by simp, rfl⟩, fun u hu => by
          rcases List.mem_cons.1 hu with rfl | hu
          · exact Int.le_refl _
          · have := h2 u hu; omega⟩
      · subst h
        exact ⟨⟨z, List.mem_cons_of_mem _ hz, hzy⟩, fun u hu => by
          rcases List.mem_cons.1 hu with rfl | hu
          · omega
          · exact h2 u hu⟩
theorem minHi_is {l : List Odr} {x : Int} {o : Odr} (ho : o ∈ l) (hx : bHi o = x) (h : ∀ z, z ∈ l → x ≤ bHi z) : minHi l = some x := by
  cases hm : minHi l with
  | none => rw [minHi_none.1 hm] at ho; cases ho
  | some y =>
    obtain ⟨⟨z, hz, hzy⟩, h2⟩ := minHi_some hm
    have := h z hz
    have := h2 o ho
    have : x = y := by omega
    rw [this]
/-- The baths that are mixed each at the last minute, of orders that are not done. -/
def stab : Nat → List Odr → List Int
  | 0, _ => []
  | f + 1, l => match minHi l with
    | none => []
    | some x => x :: stab f (l.filter fun o => !doneB x o)
/-- All orders have births. -/
def Whole (l : List Odr) : Prop := ∀ o, o ∈ l → hasB o = true
theorem rest_lt {l : List Odr} {x : Int} (hW : Whole l) (h : minHi l = some x) : (l.filter fun o => !doneB x o).length < l.length := by
  obtain ⟨⟨o, ho, hx⟩, _⟩ := minHi_some h
  rcases Nat.lt_or_ge (l.filter fun o => !doneB x o).length l.length with h1 | h1
  · exact h1
  · exfalso
    have h2 := List.length_filter_le (fun o => !doneB x o) l
    have h3 := List.length_filter_eq_length_iff.1 (Nat.le_antisymm h2 h1) o ho
    have h4 := hW o ho
    simp [hasB] at h4
    simp [doneB] at h3
    omega
/-- The fewest baths, as late as can be. -/
def fewB (l : List Odr) : List Int := stab l.length l
def Covers (bs : List Int) (l : List Odr) : Prop := ∀ o, o ∈ l → ∃ x, x ∈ bs ∧ doneB x o = true
/-- What is not done by the least end begins behind it. -/
theorem rest_lo {l : List Odr} {x : Int} (h : minHi l = some x) {o : Odr} (ho : o ∈ l.filter fun o => !doneB x o) : x < bLo o := by
  obtain ⟨h1, h2⟩ := List.mem_filter.1 ho
  have := (minHi_some h).2 o h1
  simp [doneB] at h2
  omega
/-- No bath does two of them. -/
def Apart (a : List Odr) : Prop := a.Pairwise fun p q => ∀ x, ¬ (doneB x p = true ∧ doneB x q = true)
/-- Into a strictly increasing list. -/
def insD (x : Int) : List Int → List Int
  | [] => [x]
  | y :: l => if x < y then x :: y :: l else if x = y then y :: l else y :: insD x l
/-- The numbers of a list, strictly increasing. -/
def sortD (l : List Int) : List Int := l.foldr insD []
theorem mem_insD {x z : Int} : ∀ {l : List Int}, z ∈ insD x l ↔ z = x ∨ z ∈ l
  | [] => by simp [insD]
  | y :: l => by
    unfold insD
    split
    · simp
    · split
      · rename_i h; subst h; simp
      · rw [List.mem_cons, mem_insD, List.mem_cons]
        constructor
        · rintro (h | h | h) <;> simp [h]
        · rintro (h | h | h) <;> simp [h]
theorem mem_sortD {z : Int} {l : List Int} : z ∈ sortD l ↔ z ∈ l := by
  induction l with
  | nil => simp [sortD]
  | cons x l ih =>
    show z ∈ insD x (sortD l) ↔ _
    rw [mem_insD, ih, List.mem_cons]
theorem insD_sorted {x : Int} : ∀ {l : List Int}, l.Pairwise (· < ·) → (insD x l).Pairwise (· < ·)
  | [], _ => by simp [insD]
  | y :: l, h => by
    have h' := List.pairwise_cons.1 h
    unfold insD
    split
    · rename_i hx
      refine List.pairwise_cons.2 ⟨fun z hz => ?_, h⟩
      rcases List.mem_cons.1 hz with rfl | hz
      · exact hx
      · have := h'.1 z hz; omega
    · split
      · exact h
      · refine List.pairwise_cons.2 ⟨fun z hz => ?_, insD_sorted h'.2⟩
        rcases mem_insD.1 hz with rfl | hz
        · omega
        · exact h'.1 z hz
theorem sortD_sorted (l : List Int) : (sortD l).Pairwise (· < ·) := by
  induction l with
  | nil => exact List.Pairwise.nil
  | cons x l ih => exact insD_sorted ih
theorem strict_eq : ∀ {a b : List Int}, a.Pairwise (· < ·) → b.Pairwise (· < ·) → (∀ z, z ∈ a ↔ z ∈ b) → a = b
  | [], [], _, _, _ => rfl
  | [], y :: b, _, _, h => by have := (h y).2 (by simp); cases this
  | x :: a, [], _, _, h => by have := (h x).1 (by simp); cases this
  | x :: a, y :: b, ha, hb, h => by
    have ha' := List.pairwise_cons.1 ha
    have hb' := List.pairwise_cons.1 hb
    have hxy : x = y := by
      have h1 := (h x).1 (by simp)
      have h2 := (h y).2 (by simp)
      rcases List.mem_cons.1 h1 with e | e
      · exact e
      · rcases List.mem_cons.1 h2 with e2 | e2
        · exact e2.symm
        · have := hb'.1 x e; have := ha'.1 y e2; omega
    subst hxy
    congr 1
    refine strict_eq ha'.2 hb'.2 fun z => ?_
    constructor
    · intro hz
      rcases List.mem_cons.1 ((h z).1 (List.mem_cons_of_mem _ hz)) with e | e
      · have := ha'.1 z hz; omega
      · exact e
    · intro hz
      rcases List.mem_cons.1 ((h z).2 (List.mem_cons_of_mem _ hz)) with e | e
      · have := hb'.1 z hz; omega
      · exact e
/-- The births that count. -/
def endsOf (os : List Odr) : List Int := (sortD (os.map bHi)).filter fun x => os.any (doneB x)
theorem ends_sorted (os : List Odr) : (endsOf os).Pairwise (· < ·) := (sortD_sorted _).sublist List.filter_sublist
theorem mem_ends {os : List Odr} {x : Int} : x ∈ endsOf os ↔ (∃ o, o ∈ os ∧ bHi o = x) ∧ ∃ o, o ∈ os ∧ doneB x o = true := by
  unfold endsOf
  rw [List.mem_filter, mem_sortD, List.mem_map, List.any_eq_true]
/-- An order by its index. -/
def oAt (os : List Odr) (i : Nat) : Odr := os.getD i ⟨0, 0, 0, 0, 0⟩
theorem oAt_get {os : List Odr} {i : Nat} (h : i < os.length) : oAt os i = os[i] := by simp [oAt, List.getD, h]
theorem oAt_mem {os : List Odr} {i : Nat} (h : i < os.length) : oAt os i ∈ os := by rw [oAt_get h]; exact List.getElem_mem h
/-- The order whose births end first, of those that are not done. -/
def nextOf (os : List Odr) (d : Nat → Bool) : Option Nat := (endsOf os).findSome? fun x => (List.range os.length).find? fun i => !d i && bHi (oAt os i) == x
/-- The orders that are not done. -/
def undone (os : List Odr) (d : Nat → Bool) : List Odr := ((List.range os.length).filter fun i => !d i).map (oAt os)
theorem mem_undone {os : List Odr} {d : Nat → Bool} {o : Odr} : o ∈ undone os d ↔ ∃ i, i < os.length ∧ d i = false ∧ oAt os i = o := by
  unfold undone
  rw [List.mem_map]
  constructor
  · rintro ⟨i, hi, rfl⟩
    obtain ⟨h1, h2⟩ := List.mem_filter.1 hi
    exact ⟨i, List.mem_range.1 h1, by simpa using h2, rfl⟩
  · rintro ⟨i, h1, h2, rfl⟩
    exact ⟨i, List.mem_filter.2 ⟨List.mem_range.2 h1, by simp [h2]⟩, rfl⟩
theorem find_first {p : Nat → Bool} {n k : Nat} (h : (List.range n).find? p = some k) : k < n ∧ p k = true ∧ ∀ j, j < k → p j = false := by
  have h1 := List.find?_some h
  have h2 := List.mem_of_find?_eq_some h
  rw [List.mem_range] at h2
  refine ⟨h2, h1, fun j hj => ?_⟩
  obtain ⟨_, l1, l2, e, h3⟩ := List.find?_eq_some_iff_append.1 h
  have hlen : l1.length = k := by
    have h4 : (List.range n)[l1.length]? = some k := by rw [e]; simp
    rw [List.getElem?_range (by have := congrArg List.length e; simp at this; omega)] at h4
    exact Option.some.inj h4
  have h5 : l1[j]? = some j := by
    have h6 : (List.range n)[j]? = l1[j]? := by rw [e, List.getElem?_append_left (by omega)]
    rw [← h6, List.getElem?_range (by omega)]
  have h6 := h3 j (List.mem_of_getElem? h5)
  simpa using h6
theorem next_some {os : List Odr} {d : Nat → Bool} (hB : ∀ i, i < os.length → d i = false → hasB (oAt os i) = true) {k : Nat} (h : nextOf os d = some k) : k < os.length ∧ d k = false ∧ minHi (undone os d) = some (bHi (oAt os k)) := by
  unfold nextOf at h
  obtain ⟨l1, x, l2, e, h1, h2⟩ := List.findSome?_eq_some_iff.1 h
  obtain ⟨h3, h4, _⟩ := find_first h1
  simp at h4
  refine ⟨h3, h4.1, minHi_is (mem_undone.2 ⟨k, h3, h4.1, rfl⟩) rfl fun z hz => ?_⟩
  obtain ⟨i, hi, hd, rfl⟩ := mem_undone.1 hz
  have hb := hB i hi hd
  have hme : bHi (oAt os i) ∈ endsOf os := mem_ends.2 ⟨⟨_, oAt_mem hi, rfl⟩, _, oAt_mem hi, by simp [hasB] at hb; simp [doneB, hb]⟩
  have hs := ends_sorted os
  rw [e] at hme hs
  rcases List.mem_append.1 hme with hm | hm
  · have := h2 _ hm
    rw [List.find?_eq_none] at this
    have := this i (List.mem_range.2 hi)
    simp [hd] at this
  · rcases List.mem_cons.1 hm with hm | hm
    · omega
    · have := List.rel_of_pairwise_cons (List.pairwise_append.1 hs).2.1 hm
      omega
theorem next_none {os : List Odr} {d : Nat → Bool} (hB : ∀ i, i < os.length → d i = false → hasB (oAt os i) = true) (h : nextOf os d = none) : undone os d = [] := by
  unfold nextOf at h
  rw [List.findSome?_eq_none_iff] at h
  refine List.eq_nil_iff_forall_not_mem.2 fun z hz => ?_
  obtain ⟨i, hi, hd, rfl⟩ := mem_undone.1 hz
  have hb := hB i hi hd
  have hme : bHi (oAt os i) ∈ endsOf os := mem_ends.2 ⟨⟨_, oAt_mem hi, rfl⟩, _, oAt_mem hi, by simp [hasB] at hb; simp [doneB, hb]⟩
  have := h _ hme
  rw [List.find?_eq_none] at this
  have := this i (List.mem_range.2 hi)
  simp [hd] at this
/-- The orders that are due, some being done. -/
def dueGo (os : List Odr) : Nat → (Nat → Bool) → List Nat
  | 0, _ => []
  | f + 1, d => match nextOf os d with
    | none => []
    | some k => k :: dueGo os f fun i => d i || doneB (bHi (oAt os k)) (oAt os i)
theorem undone_or {os : List Odr} {d : Nat → Bool} (x : Int) : undone os (fun i => d i || doneB x (oAt os i)) = (undone os d).filter fun o => !doneB x o := by
  unfold undone
  rw [List.filter_map, List.filter_filter]
  congr 1
  refine List.filter_congr fun i _ => ?_
  simp [Bool.and_comm]
theorem due_stab {os : List Odr} : ∀ (f : Nat) (d : Nat → Bool), (∀ i, i < os.length → d i = false → hasB (oAt os i) = true) → (dueGo os f d).map (fun k => bHi (oAt os k)) = stab f (undone os d)
  | 0, _, _ => rfl
  | f + 1, d, hB => by
    unfold dueGo
    cases h : nextOf os d with
    | none =>
      have := next_none hB h
      rw [this]
      rfl
    | some k =>
      obtain ⟨h1, h2, h3⟩ := next_some hB h
      simp only [List.map_cons, stab, h3]
      rw [due_stab f _ fun i hi hd => hB i hi (by cases e : d i <;> simp [e] at hd ⊢), undone_or]
theorem due_mem {os : List Odr} : ∀ (f : Nat) (d : Nat → Bool), (∀ i, i < os.length → d i = false → hasB (oAt os i) = true) → ∀ k, k ∈ dueGo os f d → k < os.length ∧ d k = false
  | 0, _, _, k, hk => by cases hk
  | f + 1, d, hB, k, hk => by
    unfold dueGo at hk
    cases h : nextOf os d with
    | none => rw [h] at hk; cases hk
    | some m =>
      rw [h] at hk
      obtain ⟨h1, h2, h3⟩ := next_some hB h
      rcases List.mem_cons.1 hk with rfl | hk
      · exact ⟨h1, h2⟩
      · have := due_mem f _ (fun i hi hd => hB i hi (by cases e : d i <;> simp [e] at hd ⊢)) k hk
        refine ⟨this.1, ?_⟩
        have := this.2
        cases e : d k <;> simp [e] at this ⊢
/-- Orders that are due are apart. -/
theorem due_apart {os : List Odr} : ∀ (f : Nat) (d : Nat → Bool), (∀ i, i < os.length → d i = false → hasB (oAt os i) = true) → Apart ((dueGo os f d).map (oAt os)) ∧ (dueGo os f d).Nodup
  | 0, _, _ => ⟨List.Pairwise.nil, List.Pairwise.nil⟩
  | f + 1, d, hB => by
    unfold dueGo
    cases h : nextOf os d with
    | none => exact ⟨List.Pairwise.nil, List.Pairwise.nil⟩
    | some m =>
      obtain ⟨h1, h2, h3⟩ := next_some hB h
      have hB' : ∀ i, i < os.length → (d i || doneB (bHi (oAt os m)) (oAt os i)) = false → hasB (oAt os i) = true := fun i hi hd => hB i hi (by cases e : d i <;> simp [e] at hd ⊢)
      obtain ⟨ih1, ih2⟩ := due_apart f _ hB'
      have hm := hB m h1 h2
      simp [hasB] at hm
      have hlo : ∀ k, k ∈ dueGo os f (fun i => d i || doneB (bHi (oAt os m)) (oAt os i)) → bHi (oAt os m) < bLo (oAt os k) := fun k hk => by
        obtain ⟨k1, k2⟩ := due_mem f _ hB' k hk
        have : oAt os k ∈ (undone os d).filter fun o => !doneB (bHi (oAt os m)) o := by
          rw [← undone_or]
          exact mem_undone.2 ⟨k, k1, k2, rfl⟩
        exact rest_lo h3 this
      refine ⟨List.pairwise_cons.2 ⟨fun q hq x hx => ?_, ih1⟩, List.pairwise_cons.2 ⟨fun k hk e => ?_, ih2⟩⟩
      · obtain ⟨k, hk, rfl⟩ := List.mem_map.1 hq
        have := hlo k hk
        have := (doneB_iff.1 hx.1).2
        have := (doneB_iff.1 hx.2).1
        omega
      · subst e
        have := hlo m hk
        omega
theorem undone_none (os : List Odr) : undone os (fun _ => false) = os := by
  unfold undone
  rw [show (fun i : Nat => !(fun _ => false) i) = fun _ => true from rfl, List.filter_eq_self.2 (fun _ _ => rfl)]
  refine List.ext_getElem (by simp) fun i h1 h2 => ?_
  simp [oAt_get h2]
/-- Whether one of some baths does an order. -/
def madeB (bs : List Int) (o : Odr) : Bool := bs.any fun x => doneB x o
def sumI (l : List Int) : Int := l.foldl (· + ·) 0
theorem foldl_add (l : List Int) (a : Int) : l.foldl (· + ·) a = a + sumI l := by
  induction l generalizing a with
  | nil => simp [sumI]
  | cons x l ih => simp only [sumI, List.foldl_cons]; rw [ih, ih (0 + x)]; omega
theorem sumI_cons (x : Int) (l : List Int) : sumI (x :: l) = x + sumI l := by
  show l.foldl (· + ·) (0 + x) = _
  rw [foldl_add]; omega
theorem sumI_append (l m : List Int) : sumI (l ++ m) = sumI l + sumI m := by
  induction l with
  | nil => simp [sumI]
  | cons x l ih => rw [List.cons_append, sumI_cons, sumI_cons, ih]; omega
/-- What the orders of which p says yes are worth. -/
def worthBy (p : Odr → Bool) (os : List Odr) : Int := sumI (os.map fun o => if p o then o.worth else 0)
/-- What baths are worth. -/
def worthOf (os : List Odr) (bs : List Int) : Int := worthBy (madeB bs) os
theorem worthBy_cons (p : Odr → Bool) (o : Odr) (os : List Odr) : worthBy p (o :: os) = (if p o then o.worth else 0) + worthBy p os := by
  unfold worthBy; rw [List.map_cons, sumI_cons]
theorem worthBy_mono {p q : Odr → Bool} : ∀ {os : List Odr}, (∀ o, o ∈ os → 0 ≤ o.worth) → (∀ o, o ∈ os → p o = true → q o = true) → worthBy p os ≤ worthBy q os
  | [], _, _ => Int.le_refl _
  | o :: os, h0, h => by
    rw [worthBy_cons, worthBy_cons]
    have ih := worthBy_mono (p := p) (q := q) (os := os) (fun o ho => h0 o (List.mem_cons_of_mem _ ho)) (fun o ho => h o (List.mem_cons_of_mem _ ho))
    have h1 := h0 o (by simp)
    have h2 := h o (by simp)
    cases hp : p o
    · simp; split <;> omega
    · rw [h2 hp]; simp; omega
theorem worthBy_add {p q r : Odr → Bool} : ∀ {os : List Odr}, (∀ o, o ∈ os → r o = (p o || q o)) → (∀ o, o ∈ os → ¬ (p o = true ∧ q o = true)) → worthBy r os = worthBy p os + worthBy q os
  | [], _, _ => rfl
  | o :: os, h1, h2 => by
    rw [worthBy_cons, worthBy_cons, worthBy_cons, worthBy_add (fun o ho => h1 o (List.mem_cons_of_mem _ ho)) (fun o ho => h2 o (List.mem_cons_of_mem _ ho))]
    have a1 := h1 o (by simp)
    have a2 := h2 o (by simp)
    rw [a1]
    cases hp : p o <;> cases hq : q o <;> simp [hp, hq] at a2 ⊢ <;> omega
theorem worthBy_false (os : List Odr) : worthBy (fun _ => false) os = 0 := by
  induction os with
  | nil => rfl
  | cons o os ih => rw [worthBy_cons, ih]; rfl
/-- A plan: baths and what they are worth. -/
abbrev Pl := List Int × Int
def pmax (p q : Pl) : Pl := if p.2 < q.2 then q else p
theorem pmax_le (p q : Pl) : p.2 ≤ (pmax p q).2 ∧ q.2 ≤ (pmax p q).2 ∧ (pmax p q = p ∨ pmax p q = q) := by
  unfold pmax; split <;> simp <;> omega
def longer (os : List Odr) (p : Pl) (x : Int) : Pl := (p.1 ++ [x], worthOf os (p.1 ++ [x]))
/-- The plans that are kept, by their last bath and their number of baths, and the best ones for each number. -/
structure Dp where
  kept : Nat → Nat → Option Pl
  mosts : Nat → Pl
def dp0 : Dp := ⟨fun l b => if l = 0 ∧ b = 0 then some ([], 0) else none, fun _ => ([], 0)⟩
/-- What is kept at a step, of all before it. -/
def candOf (os : List Odr) (kept : Nat → Nat → Option Pl) (b : Nat) (x : Int) (last : Nat) (c : Option Pl) : Option Pl :=
  (List.range last).foldl (fun c l => match kept l b with | some p => some (pmax (c.getD ([], 0)) (longer os p x)) | none => c) c
def reachOf (os : List Odr) (s : Dp) (last b : Nat) (x : Int) : Dp :=
  let c := candOf os s.kept b x last (s.kept last (b + 1))
  if (c.getD ([], 0)).2 ≤ (s.mosts (b + 1)).2 then ⟨fun l b' => if l = last ∧ b' = b + 1 then none else s.kept l b', s.mosts⟩
  else ⟨fun l b' => if l = last ∧ b' = b + 1 then c else s.kept l b', fun b' => if b' = b + 1 then c.getD ([], 0) else s.mosts b'⟩
def roundOf (os : List Odr) (n : Nat) (last : Nat) (s : Dp) (x : Int) : Dp := (List.range n).foldl (fun s b => reachOf os s last b x) s
def dpGo (os : List Odr) (n : Nat) : List Int → Nat → Dp → Dp
  | [], _, s => s
  | x :: xs, last, s => dpGo os n xs (last + 1) (roundOf os n (last + 1) s x)
def dpOf (os : List Odr) (n : Nat) : Dp := dpGo os n (endsOf os) 0 dp0
def bestOf : List Pl → Pl
  | [] => ([], 0)
  | p :: l => l.foldl pmax p
def mostOf (os : List Odr) (n : Nat) : Pl := bestOf ((List.range (n + 1)).map (dpOf os n).mosts)
theorem cand_succ (os : List Odr) (kept : Nat → Nat → Option Pl) (b : Nat) (x : Int) (last : Nat) (c : Option Pl) :
    candOf os kept b x (last + 1) c = match kept last b with | some p => some (pmax ((candOf os kept b x last c).getD ([], 0)) (longer os p x)) | none => candOf os kept b x last c := by
  unfold candOf
  rw [List.range_succ, List.foldl_append]
  rfl
theorem cand_ge (os : List Odr) (kept : Nat → Nat → Option Pl) (b : Nat) (x : Int) : ∀ (last l : Nat) (p : Pl), l < last → kept l b = some p → (longer os p x).2 ≤ ((candOf os kept b x last none).getD ([], 0)).2
  | 0, l, p, h, _ => absurd h (by omega)
  | last + 1, l, p, h, hk => by
    rw [cand_succ]
    by_cases e : l = last
    · subst e
      rw [hk]
      exact (pmax_le _ _).2.1
    · have ih := cand_ge os kept b x last l p (by omega) hk
      cases h2 : kept last b with
      | none => exact ih
      | some q => exact Int.le_trans ih (pmax_le _ _).1
theorem cand_is (os : List Odr) (kept : Nat → Nat → Option Pl) (b : Nat) (x : Int) : ∀ (last : Nat), (candOf os kept b x last none).getD ([], 0) = ([], 0) ∨ ∃ l p, l < last ∧ kept l b = some p ∧ (candOf os kept b x last none) = some (longer os p x)
  | 0 => .inl rfl
  | last + 1 => by
    rw [cand_succ]
    have ih := cand_is os kept b x last
    cases h2 : kept last b with
    | none =>
      rcases ih with h | ⟨l, p, h1, h3, h4⟩
      · exact .inl h
      · exact .inr ⟨l, p, by omega, h3, h4⟩
    | some q =>
      dsimp only
      rcases (pmax_le ((candOf os kept b x last none).getD ([], 0)) (longer os q x)).2.2 with h | h
      · rcases ih with h3 | ⟨l, p, h1, h3, h4⟩
        · left; rw [h, h3]; rfl
        · right; refine ⟨l, p, by omega, h3, ?_⟩; rw [h, h4]; rfl
      · right; exact ⟨last, q, by omega, h2, by rw [h]⟩
theorem cand_keep {os : List Odr} {k1 k2 : Nat → Nat → Option Pl} {b : Nat} {x : Int} : ∀ {last : Nat} {c : Option Pl}, (∀ l, l < last → k1 l b = k2 l b) → candOf os k1 b x last c = candOf os k2 b x last c
  | 0, _, _ => rfl
  | last + 1, c, h => by rw [cand_succ, cand_succ, h last (by omega), cand_keep (fun l hl => h l (by omega))]
/-- What is reached at a step. -/
def gotAt (os : List Odr) (s : Dp) (last b : Nat) (x : Int) : Option Pl := candOf os s.kept b x last none
def pruned (os : List Odr) (s : Dp) (last b : Nat) (x : Int) : Prop := ((gotAt os s last b x).getD ([], 0)).2 ≤ (s.mosts (b + 1)).2
instance (os : List Odr) (s : Dp) (last b : Nat) (x : Int) : Decidable (pruned os s last b x) := by unfold pruned; exact inferInstance
theorem round_is (os : List Odr) (last : Nat) (s : Dp) (x : Int) (hl : ∀ b, s.kept last b = none) : ∀ n, 
    (∀ l b, (roundOf os n last s x).kept l b = if l = last ∧ 1 ≤ b ∧ b ≤ n then (if pruned os s last (b - 1) x then none else gotAt os s last (b - 1) x) else s.kept l b) ∧
    (∀ b, (roundOf os n last s x).mosts b = if 1 ≤ b ∧ b ≤ n ∧ ¬ pruned os s last (b - 1) x then (gotAt os s last (b - 1) x).getD ([], 0) else s.mosts b)
  | 0 => ⟨fun l b => by rw [if_neg (by omega)]; rfl, fun b => by rw [if_neg (by omega)]; rfl⟩
  | n + 1 => by
    obtain ⟨h1, h2⟩ := round_is os last s x hl n
    have hr : roundOf os (n + 1) last s x = reachOf os (roundOf os n last s x) last n x := by
      unfold roundOf; rw [List.range_succ, List.foldl_append]; rfl
    have hk0 : (roundOf os n last s x).kept last (n + 1) = none := by rw [h1, if_neg (by omega)]; exact hl _
    have hm0 : (roundOf os n last s x).mosts (n + 1) = s.mosts (n + 1) := by rw [h2, if_neg (by omega)]
    have hc : candOf os (roundOf os n last s x).kept n x last ((roundOf os n last s x).kept last (n + 1)) = gotAt os s last n x := by
      rw [hk0]
      exact cand_keep fun l hlt => by rw [h1, if_neg (by omega)]
    rw [hr]
    unfold reachOf
    simp only [hc, hm0]
    by_cases hp : ((gotAt os s last n x).getD ([], 0)).2 ≤ (s.mosts (n + 1)).2
    · rw [if_pos hp]
      refine ⟨fun l b => ?_, fun b => ?_⟩
      · dsimp only
        by_cases e : l = last ∧ b = n + 1
        · obtain ⟨rfl, rfl⟩ := e
          rw [if_pos ⟨rfl, rfl⟩, if_pos (by omega), if_pos (by exact hp)]
        · rw [if_neg e, h1]
          by_cases e2 : l = last ∧ 1 ≤ b ∧ b ≤ n
          · rw [if_pos e2, if_pos (show l = last ∧ 1 ≤ b ∧ b ≤ n + 1 from ⟨e2.1, e2.2.1, by omega⟩)]
          · rw [if_neg e2, if_neg (by omega)]
      · dsimp only
        rw [h2]
        by_cases e : b = n + 1
        · subst e
          rw [if_neg (by omega), if_neg (by rintro ⟨_, _, h⟩; exact h hp)]
        · by_cases e2 : 1 ≤ b ∧ b ≤ n ∧ ¬ pruned os s last (b - 1) x
          · rw [if_pos e2, if_pos ⟨e2.1, by omega, e2.2.2⟩]
          · rw [if_neg e2, if_neg (fun h => e2 ⟨h.1, by omega, h.2.2⟩)]
    · rw [if_neg hp]
      refine ⟨fun l b => ?_, fun b => ?_⟩
      · dsimp only
        by_cases e : l = last ∧ b = n + 1
        · obtain ⟨rfl, rfl⟩ := e
          rw [if_pos ⟨rfl, rfl⟩, if_pos (by omega), if_neg (by exact hp)]
          rfl
        · rw [if_neg e, h1]
          by_cases e2 : l = last ∧ 1 ≤ b ∧ b ≤ n
          · rw [if_pos e2, if_pos (show l = last ∧ 1 ≤ b ∧ b ≤ n + 1 from ⟨e2.1, e2.2.1, by omega⟩)]
          · rw [if_neg e2, if_neg (by omega)]
      · dsimp only
        by_cases e : b = n + 1
        · subst e
          rw [if_pos rfl, if_pos ⟨by omega, by omega, by exact hp⟩]
          rfl
        · rw [if_neg e, h2]
          by_cases e2 : 1 ≤ b ∧ b ≤ n ∧ ¬ pruned os s last (b - 1) x
          · rw [if_pos e2, if_pos ⟨e2.1, by omega, e2.2.2⟩]
          · rw [if_neg e2, if_neg (fun h => e2 ⟨h.1, by omega, h.2.2⟩)]
/-- What one more bath adds. -/
def gain (os : List Odr) (T : List Int) (y : Int) : Int := worthBy (fun o => doneB y o && !madeB T o) os
theorem made_snoc (T : List Int) (y : Int) (o : Odr) : madeB (T ++ [y]) o = (madeB T o || doneB y o) := by simp [madeB]
theorem worth_snoc (os : List Odr) (T : List Int) (y : Int) : worthOf os (T ++ [y]) = worthOf os T + gain os T y := by
  unfold worthOf gain
  refine worthBy_add (fun o _ => ?_) (fun o _ => ?_)
  · rw [made_snoc]; cases madeB T o <;> cases doneB y o <;> rfl
  · cases madeB T o <;> cases doneB y o <;> simp
theorem made_iff {T : List Int} {o : Odr} : madeB T o = true ↔ ∃ z, z ∈ T ∧ doneB z o = true := by simp [madeB]
theorem gain_mono {os : List Odr} (h0 : ∀ o, o ∈ os → 0 ≤ o.worth) {T T' : List Int} {y : Int} (hd : ∀ z, z ∈ T → ∃ z', z' ∈ T' ∧ z ≤ z') (hy : ∀ z, z ∈ T' → z ≤ y) : gain os T' y ≤ gain os T y := by
  refine worthBy_mono h0 fun o _ h => ?_
  rw [Bool.and_eq_true] at h ⊢
  refine ⟨h.1, ?_⟩
  cases hm : madeB T o with
  | false => rfl
  | true =>
    exfalso
    obtain ⟨z, hz, hzd⟩ := made_iff.1 hm
    obtain ⟨z', hz', hle⟩ := hd z hz
    have h1 := hy z' hz'
    have h2 := doneB_iff.1 hzd
    have h3 := doneB_iff.1 h.1
    have : madeB T' o = true := made_iff.2 ⟨z', hz', doneB_iff.2 ⟨by omega, by omega⟩⟩
    rw [this] at h
    exact absurd h.2 (by simp)
theorem worth_nil (os : List Odr) : worthOf os [] = 0 := worthBy_false os
theorem worth_nonneg {os : List Odr} (h0 : ∀ o, o ∈ os → 0 ≤ o.worth) (bs : List Int) : 0 ≤ worthOf os bs := by
  rw [← worth_nil os]
  exact worthBy_mono h0 fun o _ h => by simp [madeB] at h
/-- What holds of plans when baths up to the m-th birth have been looked at. -/
structure DpInv (os : List Odr) (xs : List Int) (n m : Nat) (s : Dp) : Prop where
  root : s.kept 0 0 = some ([], 0)
  plan : ∀ l b p, s.kept l b = some p → l ≤ m ∧ b ≤ n ∧ p.1.length = b ∧ p.1.Pairwise (· < ·) ∧ (∀ z, z ∈ p.1 → z ∈ xs.take l) ∧ p.2 = worthOf os p.1
  most : ∀ b, s.mosts b = ([], 0) ∨ ∃ l, s.kept l b = some (s.mosts b)
  top : ∀ l b p, s.kept l b = some p → p.2 ≤ (s.mosts b).2
  pos : ∀ b, 0 ≤ (s.mosts b).2
  all : ∀ S : List Int, S.Pairwise (· < ·) → (∀ z, z ∈ S → z ∈ xs.take m) → S.length ≤ n → ∃ l b p, s.kept l b = some p ∧ b ≤ S.length ∧ worthOf os S ≤ p.2 ∧ ∀ z, z ∈ p.1 → ∃ z', z' ∈ S ∧ z ≤ z'
theorem dp0_inv (os : List Odr) (xs : List Int) (n : Nat) : DpInv os xs n 0 dp0 := by
  refine ⟨rfl, fun l b p h => ?_, fun b => .inl rfl, fun l b p h => ?_, fun b => Int.le_refl _, fun S hs hz _ => ?_⟩
  · unfold dp0 at h
    dsimp only at h
    split at h
    · rename_i e; obtain ⟨rfl, rfl⟩ := e; cases h; exact ⟨Nat.le_refl _, Nat.zero_le _, rfl, List.Pairwise.nil, fun z hz => by simp at hz, (worth_nil os).symm⟩
    · cases h
  · unfold dp0 at h
    dsimp only at h
    split at h
    · cases h; exact Int.le_refl _
    · cases h
  · have : S = [] := List.eq_nil_iff_forall_not_mem.2 fun z hm => by simpa using hz z hm
    subst this
    exact ⟨0, 0, ([], 0), rfl, Nat.le_refl _, by rw [worth_nil]; exact Int.le_refl _, fun z hz => by simp at hz⟩
theorem last_split {S : List Int} {y : Int} (hs : S.Pairwise (· < ·)) (hy : y ∈ S) (hm : ∀ z, z ∈ S → z ≤ y) : ∃ T, S = T ++ [y] ∧ ∀ z, z ∈ T → z < y := by
  obtain ⟨a, b, rfl⟩ := List.append_of_mem hy
  have h1 := (List.pairwise_append.1 hs)
  cases b with
  | nil => exact ⟨a, rfl, fun z hz => h1.2.2 z hz y (by simp)⟩
  | cons c b =>
    have := List.rel_of_pairwise_cons h1.2.1 (show c ∈ c :: b by simp)
    have := hm c (by simp)
    omega
theorem round_inv {os : List Odr} (h0 : ∀ o, o ∈ os → 0 ≤ o.worth) {xs : List Int} (hxs : xs.Pairwise (· < ·)) {n m : Nat} {s : Dp} (hI : DpInv os xs n m s) {y : Int} (hy : xs[m]? = some y) : DpInv os xs n (m + 1) (roundOf os n (m + 1) s y) := by
  have hmx : m < xs.length := (List.getElem?_eq_some_iff.1 hy).1
  have htk : xs.take (m + 1) = xs.take m ++ [y] := by
    rw [List.take_add_one, hy]; rfl
  have hlt : ∀ z, z ∈ xs.take m → z < y := fun z hz => by
    have h1 : (xs.take (m + 1)).Pairwise (· < ·) := hxs.sublist (List.take_sublist _ _)
    rw [htk] at h1
    exact (List.pairwise_append.1 h1).2.2 z hz y (by simp)
  have hsub : ∀ l, l ≤ m → ∀ z, z ∈ xs.take l → z ∈ xs.take m := fun l hl z hz => by
    have : xs.take l = (xs.take m).take l := by rw [List.take_take, Nat.min_eq_left hl]
    rw [this] at hz
    exact List.mem_of_mem_take hz
  have hl : ∀ b, s.kept (m + 1) b = none := fun b => by
    cases h : s.kept (m + 1) b with
    | none => rfl
    | some p => have := (hI.plan _ _ _ h).1; omega
  obtain ⟨hk, hM⟩ := round_is os (m + 1) s y hl n
  have hgot : ∀ b, ¬ pruned os s (m + 1) b y → ∃ l p, l ≤ m ∧ s.kept l b = some p ∧ gotAt os s (m + 1) b y = some (longer os p y) := fun b hp => by
    rcases cand_is os s.kept b y (m + 1) with h | ⟨l, p, h1, h2, h3⟩
    · exfalso
      apply hp
      unfold pruned gotAt
      rw [h]
      exact hI.pos _
    · exact ⟨l, p, by omega, h2, h3⟩
  have hkold : ∀ l b, l ≤ m → (roundOf os n (m + 1) s y).kept l b = s.kept l b := fun l b hle => by rw [hk, if_neg (by omega)]
  have hMge : ∀ b, (s.mosts b).2 ≤ ((roundOf os n (m + 1) s y).mosts b).2 := fun b => by
    rw [hM]
    split
    · rename_i h
      have h3 := h.2.2
      unfold pruned at h3
      rw [show b - 1 + 1 = b from by omega] at h3
      omega
    · exact Int.le_refl _
  refine ⟨?_, fun l b p h => ?_, fun b => ?_, fun l b p h => ?_, fun b => Int.le_trans (hI.pos b) (hMge b), fun S hs hz hn => ?_⟩
  · rw [hkold 0 0 (by omega)]; exact hI.root
  · rw [hk] at h
    split at h
    · rename_i e
      obtain ⟨rfl, e1, e2⟩ := e
      split at h
      · cases h
      · rename_i hp
        obtain ⟨l, q, g1, g2, g3⟩ := hgot _ hp
        rw [g3] at h
        cases h
        obtain ⟨f1, f2, f3, f4, f5, f6⟩ := hI.plan _ _ _ g2
        refine ⟨Nat.le_refl _, e2, by simp [longer, f3]; omega, ?_, fun z hz => ?_, rfl⟩
        · simp only [longer]
          exact List.pairwise_append.2 ⟨f4, by simp, fun a ha b hb => by
            simp at hb
            subst hb
            exact hlt a (hsub l g1 a (f5 a ha))⟩
        · simp only [longer, List.mem_append, List.mem_singleton] at hz
          rw [htk]
          rcases hz with hz | rfl
          · exact List.mem_append_left _ (hsub l g1 z (f5 z hz))
          · simp
    · obtain ⟨f1, f2⟩ := hI.plan _ _ _ h
      exact ⟨by omega, f2⟩
  · rw [hM]
    split
    · rename_i e
      right
      refine ⟨m + 1, ?_⟩
      rw [hk, if_pos ⟨rfl, e.1, e.2.1⟩, if_neg e.2.2]
      obtain ⟨l, q, g1, g2, g3⟩ := hgot _ e.2.2
      rw [g3]; rfl
    · rcases hI.most b with h | ⟨l, h⟩
      · exact .inl h
      · exact .inr ⟨l, by rw [hkold l b (hI.plan _ _ _ h).1]; exact h⟩
  · rw [hk] at h
    split at h
    · rename_i e
      obtain ⟨rfl, e1, e2⟩ := e
      split at h
      · cases h
      · rename_i hp
        rw [hM, if_pos ⟨e1, e2, hp⟩, h]
        exact Int.le_refl _
    · exact Int.le_trans (hI.top _ _ _ h) (hMge b)
  · by_cases hyS : y ∈ S
    · have hle : ∀ z, z ∈ S → z ≤ y := fun z hzS => by
        have := hz z hzS
        rw [htk, List.mem_append, List.mem_singleton] at this
        rcases this with h | h
        · have := hlt z h; omega
        · omega
      obtain ⟨T, rfl, hT⟩ := last_split hs hyS hle
      have hTm : ∀ z, z ∈ T → z ∈ xs.take m := fun z hzT => by
        have := hz z (by simp [hzT])
        rw [htk, List.mem_append, List.mem_singleton] at this
        rcases this with h | h
        · exact h
        · have := hT z hzT; omega
      simp at hn
      obtain ⟨l, b, p, g1, g2, g3, g4⟩ := hI.all T (List.pairwise_append.1 hs).1 hTm (by omega)
      obtain ⟨f1, f2, f3, f4, f5, f6⟩ := hI.plan _ _ _ g1
      have hw : worthOf os (T ++ [y]) ≤ (longer os p y).2 := by
        show _ ≤ worthOf os (p.1 ++ [y])
        rw [worth_snoc, worth_snoc, ← f6]
        have := gain_mono h0 g4 fun z hzT => Int.le_of_lt (hT z hzT)
        omega
      have hge := cand_ge os s.kept b y (m + 1) l p (by omega) g1
      by_cases hp : pruned os s (m + 1) b y
      · have hp' : ((gotAt os s (m + 1) b y).getD ([], 0)).2 ≤ (s.mosts (b + 1)).2 := hp
        have hle2 : worthOf os (T ++ [y]) ≤ (s.mosts (b + 1)).2 := Int.le_trans hw (Int.le_trans hge hp')
        rcases hI.most (b + 1) with h | ⟨l', h⟩
        · rw [h] at hle2
          exact ⟨0, 0, ([], 0), by rw [hkold 0 0 (by omega)]; exact hI.root, Nat.zero_le _, hle2, fun z hz => by simp at hz⟩
        · obtain ⟨e1, e2, e3, e4, e5, e6⟩ := hI.plan _ _ _ h
          refine ⟨l', b + 1, s.mosts (b + 1), by rw [hkold l' _ e1]; exact h, by simp; omega, hle2, fun z hz => ⟨y, by simp, Int.le_of_lt (hlt z (hsub l' e1 z (e5 z hz)))⟩⟩
      · obtain ⟨l', q, e1, e2, e3⟩ := hgot b hp
        refine ⟨m + 1, b + 1, longer os q y, ?_, by simp; omega, ?_, fun z hzq => ?_⟩
        · rw [hk, if_pos ⟨rfl, by omega, by omega⟩, show b + 1 - 1 = b from rfl, if_neg hp, e3]
        · refine Int.le_trans hw (Int.le_trans hge ?_)
          have : candOf os s.kept b y (m + 1) none = some (longer os q y) := e3
          rw [this]
          exact Int.le_refl _
        · refine ⟨y, by simp, ?_⟩
          simp only [longer, List.mem_append, List.mem_singleton] at hzq
          rcases hzq with h | h
          · exact Int.le_of_lt (hlt z (hsub l' e1 z ((hI.plan _ _ _ e2).2.2.2.2.1 z h)))
          · omega
    · have hzm : ∀ z, z ∈ S → z ∈ xs.take m := fun z hzS => by
        have := hz z hzS
        rw [htk, List.mem_append, List.mem_singleton] at this
        rcases this with h | h
        · exact h
        · subst h; exact absurd hzS hyS
      obtain ⟨l, b, p, g1, g2⟩ := hI.all S hs hzm hn
      exact ⟨l, b, p, by rw [hkold l b (hI.plan _ _ _ g1).1]; exact g1, g2⟩
theorem go_inv {os : List Odr} (h0 : ∀ o, o ∈ os → 0 ≤ o.worth) {xs : List Int} (hxs : xs.Pairwise (· < ·)) {n : Nat} : ∀ (ys : List Int) (m : Nat) (s : Dp), xs.drop m = ys → DpInv os xs n m s → DpInv os xs n (m + ys.length) (dpGo os n ys m s)
  | [], m, s, _, h => h
  | y :: ys, m, s, e, h => by
    have hy : xs[m]? = some y := by
      have : (xs.drop m)[0]? = some y := by rw [e]; rfl
      rwa [List.getElem?_drop, Nat.add_zero] at this
    have h2 := go_inv h0 hxs ys (m + 1) (roundOf os n (m + 1) s y) (by rw [← List.drop_drop, e]; rfl) (round_inv h0 hxs h hy)
    rw [List.length_cons, show m + (ys.length + 1) = m + 1 + ys.length from by omega]
    exact h2
theorem dp_inv {os : List Odr} (h0 : ∀ o, o ∈ os → 0 ≤ o.worth) (n : Nat) : DpInv os (endsOf os) n (endsOf os).length (dpOf os n) := by
  have := go_inv h0 (ends_sorted os) (endsOf os) 0 dp0 (by simp) (dp0_inv os (endsOf os) n)
  rwa [Nat.zero_add] at this
theorem best_ge : ∀ (l : List Pl) (p : Pl), (l.foldl pmax p).2 ≥ p.2 ∧ (∀ q, q ∈ l → q.2 ≤ (l.foldl pmax p).2) ∧ (l.foldl pmax p = p ∨ l.foldl pmax p ∈ l)
  | [], p => ⟨Int.le_refl _, fun q h => (by cases h), .inl rfl⟩
  | r :: l, p => by
    obtain ⟨h1, h2, h3⟩ := best_ge l (pmax p r)
    obtain ⟨g1, g2, g3⟩ := pmax_le p r
    refine ⟨Int.le_trans g1 h1, fun q hq => ?_, ?_⟩
    · rcases List.mem_cons.1 hq with rfl | hq
      · exact Int.le_trans g2 h1
      · exact h2 q hq
    · rw [List.foldl_cons]
      rcases h3 with h | h
      · rcases g3 with g | g
        · left; rw [h, g]
        · right; rw [h, g]; simp
      · right; exact List.mem_cons_of_mem _ h
theorem bestOf_is {l : List Pl} (hl : l ≠ []) : (∀ q, q ∈ l → q.2 ≤ (bestOf l).2) ∧ bestOf l ∈ l := by
  cases l with
  | nil => exact absurd rfl hl
  | cons p l =>
    obtain ⟨h1, h2, h3⟩ := best_ge l p
    refine ⟨fun q hq => ?_, ?_⟩
    · rcases List.mem_cons.1 hq with rfl | hq
      · exact h1
      · exact h2 q hq
    · show l.foldl pmax p ∈ p :: l
      rcases h3 with h | h
      · rw [h]; simp
      · exact List.mem_cons_of_mem _ h
/-- A later bath at which orders end does no order less. -/
theorem to_ends {os : List Odr} {x : Int} (h : ∃ o, o ∈ os ∧ doneB x o = true) : ∃ e, e ∈ endsOf os ∧ ∀ o, o ∈ os → doneB x o = true → doneB e o = true := by
  have hne : minHi (os.filter (doneB x)) ≠ none := by
    rw [Ne, minHi_none]
    obtain ⟨o, ho, hd⟩ := h
    intro e
    have : o ∈ os.filter (doneB x) := List.mem_filter.2 ⟨ho, hd⟩
    rw [e] at this
    cases this
  cases hm : minHi (os.filter (doneB x)) with
  | none => exact absurd hm hne
  | some e =>
    obtain ⟨⟨o, ho, he⟩, h2⟩ := minHi_some hm
    obtain ⟨ho1, ho2⟩ := List.mem_filter.1 ho
    have hall : ∀ o, o ∈ os → doneB x o = true → doneB e o = true := fun z hz hzd => by
      have := h2 z (List.mem_filter.2 ⟨hz, hzd⟩)
      have h3 := doneB_iff.1 hzd
      have h4 := doneB_iff.1 ho2
      exact doneB_iff.2 ⟨by omega, by omega⟩
    exact ⟨e, mem_ends.2 ⟨⟨o, ho1, he⟩, o, ho1, hall o ho1 ho2⟩, hall⟩
theorem insD_len (x : Int) : ∀ l : List Int, (insD x l).length ≤ l.length + 1
  | [] => by simp [insD]
  | y :: l => by
    unfold insD
    split
    · simp
    · split
      · simp
      · have := insD_len x l; simp; omega
theorem sortD_len (l : List Int) : (sortD l).length ≤ l.length := by
  induction l with
  | nil => simp [sortD]
  | cons x l ih =>
    have := insD_len x (sortD l)
    show (insD x (sortD l)).length ≤ _
    simp; omega
theorem all_to_ends {os : List Odr} (bs : List Int) : ∃ S : List Int, S.Pairwise (· < ·) ∧ (∀ z, z ∈ S → z ∈ endsOf os) ∧ S.length ≤ bs.length ∧ ∀ o, o ∈ os → madeB bs o = true → madeB S o = true := by
  have : ∃ T : List Int, (∀ z, z ∈ T → z ∈ endsOf os) ∧ T.length ≤ bs.length ∧ ∀ o, o ∈ os → madeB bs o = true → madeB T o = true := by
    induction bs with
    | nil => exact ⟨[], by simp, by simp, fun o _ h => h⟩
    | cons b bs ih =>
      obtain ⟨T, h1, h2, h3⟩ := ih
      by_cases hb : ∃ o, o ∈ os ∧ doneB b o = true
      · obtain ⟨e, he, hall⟩ := to_ends hb
        refine ⟨e :: T, fun z hz => ?_, by simp; omega, fun o ho hm => ?_⟩
        · rcases List.mem_cons.1 hz with rfl | hz
          · exact he
          · exact h1 z hz
        · simp only [madeB, List.any_cons, Bool.or_eq_true] at hm ⊢
          rcases hm with hm | hm
          · exact .inl (hall o ho hm)
          · exact .inr (h3 o ho hm)
      · refine ⟨T, h1, by simp; omega, fun o ho hm => ?_⟩
        simp only [madeB, List.any_cons, Bool.or_eq_true] at hm
        rcases hm with hm | hm
        · exact absurd ⟨o, ho, hm⟩ hb
        · exact h3 o ho hm
  obtain ⟨T, h1, h2, h3⟩ := this
  refine ⟨sortD T, sortD_sorted T, fun z hz => h1 z (mem_sortD.1 hz), Nat.le_trans (sortD_len T) h2, fun o ho hm => ?_⟩
  obtain ⟨z, hz, hd⟩ := made_iff.1 (h3 o ho hm)
  exact made_iff.2 ⟨z, mem_sortD.2 hz, hd⟩
/-- What is returned as the most is the most that at most so many baths are worth, and such baths. -/
theorem most_is {os : List Odr} (h0 : ∀ o, o ∈ os → 0 ≤ o.worth) (n : Nat) : (mostOf os n).2 = worthOf os (mostOf os n).1 ∧ (mostOf os n).1.Pairwise (· < ·) ∧ (mostOf os n).1.length ≤ n ∧ (∀ z, z ∈ (mostOf os n).1 → z ∈ endsOf os) ∧ ∀ bs : List Int, bs.length ≤ n → worthOf os bs ≤ (mostOf os n).2 := by
  have hI := dp_inv h0 n
  obtain ⟨h1, h2⟩ := bestOf_is (l := (List.range (n + 1)).map (dpOf os n).mosts) (by simp)
  obtain ⟨b, hb, hbe⟩ := List.mem_map.1 h2
  rw [List.mem_range] at hb
  have hbe' : mostOf os n = (dpOf os n).mosts b := hbe.symm
  have hfst : (mostOf os n).2 = worthOf os (mostOf os n).1 ∧ (mostOf os n).1.Pairwise (· < ·) ∧ (mostOf os n).1.length ≤ n ∧ (∀ z, z ∈ (mostOf os n).1 → z ∈ endsOf os) := by
    rw [hbe']
    rcases hI.most b with h | ⟨l, h⟩
    · rw [h]
      exact ⟨(worth_nil os).symm, List.Pairwise.nil, Nat.zero_le _, fun z hz => by simp at hz⟩
    · obtain ⟨f1, f2, f3, f4, f5, f6⟩ := hI.plan _ _ _ h
      exact ⟨f6, f4, by omega, fun z hz => List.mem_of_mem_take (f5 z hz)⟩
  refine ⟨hfst.1, hfst.2.1, hfst.2.2.1, hfst.2.2.2, fun bs hbs => ?_⟩
  obtain ⟨S, g1, g2, g3, g4⟩ := all_to_ends (os := os) bs
  have hw : worthOf os bs ≤ worthOf os S := worthBy_mono h0 g4
  obtain ⟨l, b', p, e1, e2, e3, _⟩ := hI.all S g1 (fun z hz => by rw [List.take_length]; exact g2 z hz) (by omega)
  have h3 := hI.top _ _ _ e1
  have h4 := h1 ((dpOf os n).mosts b') (List.mem_map.2 ⟨b', List.mem_range.2 (by have := (hI.plan _ _ _ e1).2.1; omega), rfl⟩)
  have h5 : ((dpOf os n).mosts b').2 ≤ (mostOf os n).2 := h4
  omega
end Go.Proofs.YtmlmnljbegcjcaaGreat
